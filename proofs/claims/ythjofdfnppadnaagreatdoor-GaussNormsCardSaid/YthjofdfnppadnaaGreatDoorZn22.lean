/- Contracts, in this order: '==' of fractions and of complex numbers of which something  · gauss, as a law calls it: its functions over numbers told by · gauss: what its functions answer, by runs: those that may no · gauss: norms, mirrored numbers, quotients: by runs; of any n · diapasonlaw02.GaussLaws, run over all that may come. · diapasonlaw02.GaussLaws, run over all numbers that may be. · diapasonlaw02.GaussLaws answers true. · diapasonlaw02.GaussNorms, run over all that may come. -/
import Derived.Test.YthjofdfnppadnaaGreatDoorZn21
import Derived.Laws.StructEq
namespace Go.Proofs.YthjofdfnppadnaaGreatDoor
open Go Go.RowKit
namespace Ev
def tbeq (x y : Tri) : Bool := x.1 == y.1 && (x.2.1.toList == y.2.1.toList && x.2.2.toList == y.2.2.toList)
theorem tbeq_iff {x y : Tri} : tbeq x y = true ↔ x = y := by
  obtain ⟨a, s, t⟩ := x
  obtain ⟨b, u, v⟩ := y
  have key : ∀ p q : ByteArray, (p.toList == q.toList) = true ↔ p = q := fun p q => by
    rw [beq_iff_eq, ByteArray.toList_eq, ByteArray.toList_eq]
    obtain ⟨⟨p⟩⟩ := p
    obtain ⟨⟨q⟩⟩ := q
    simp
  simp only [tbeq, Bool.and_eq_true, key, beq_iff_eq, Prod.mk.injEq]
theorem eqIn_frac (d : Nat) (x y : Tri) (w : World) : (Op.equalIn (d + 2) 23 (.agg ⟨cel x⟩) (.agg ⟨cel y⟩)).run Tryz.prog w = .ok (tbeq x y) w := by
  have hS : Tryz.prog.underlying 23 = some (.struct (Tryz.prog.fieldsOf 23)) := by kernel_rfl
  have hp : Tryz.prog.stoodInHeld 23 = false := by kernel_rfl
  obtain ⟨a, s, t⟩ := x
  obtain ⟨b, u, v⟩ := y
  rw [show d + 2 = (d + 1) + 1 from rfl, run_equalIn_struct w (d + 1) 23 _ _ hS hp]
  simp only [Program.fieldsOf, Tryz.underlying23, cel, tbeq]
  generalize hx : (s.toList == u.toList) = b1
  generalize hy : (t.toList == v.toList) = b2
  cases a <;> cases b <;> cases b1 <;> cases b2 <;> go_simp <;> simp [hx, hy]
theorem eqIn_gauss (d : Nat) (x y z u : Tri) (w : World) : (Op.equalIn (d + 3) 47 (.agg ⟨cel x ++ cel y⟩) (.agg ⟨cel z ++ cel u⟩)).run Tryz.prog w = .ok (tbeq x z && tbeq y u) w := by
  have hS : Tryz.prog.underlying 47 = some (.struct (Tryz.prog.fieldsOf 47)) := by kernel_rfl
  have hp : Tryz.prog.stoodInHeld 47 = false := by kernel_rfl
  obtain ⟨x1, x2, x3⟩ := x
  obtain ⟨y1, y2, y3⟩ := y
  obtain ⟨z1, z2, z3⟩ := z
  obtain ⟨u1, u2, u3⟩ := u
  have e1 := fun (a b : Bool) (w : World) => run_equalIn_bool' (P := Tryz.prog) w d 4 a b Tryz.underlying4
  have e2 := fun (a b : ByteArray) (w : World) => run_equalIn_string (P := Tryz.prog) w d 9 a b Tryz.underlying9
  rw [show d + 3 = (d + 2) + 1 from rfl, run_equalIn_struct w (d + 2) 47 _ _ hS hp]
  simp only [Program.fieldsOf, Tryz.underlying47]
  go_simp
  simp only [cel, tbeq, e1, e2]
  generalize h1 : (x1 == z1) = b1
  generalize h2 : (x2.toList == z2.toList) = b2
  generalize h3 : (x3.toList == z3.toList) = b3
  generalize h4 : (y1 == u1) = b4
  generalize h5 : (y2.toList == u2.toList) = b5
  generalize h6 : (y3.toList == u3.toList) = b6
  cases b1 <;> cases b2 <;> cases b3 <;> cases b4 <;> cases b5 <;> cases b6 <;> simp only [beq_iff_eq, beq_eq_false_iff_ne, ne_eq] at h1 h2 h3 h4 h5 h6 <;> simp [e1, e2, h1, h2, h3, h4, h5, h6]
noncomputable def three (a b : Option Bool) : Option Bool := match a with
  | some x => cond x b (some false)
  | none => match b with
    | some y => cond y none (some false)
    | none => none
theorem three_ok {a b : Option Bool} {x y z : Bool} (ha : ∀ t, a = some t → t = x) (hb : ∀ t, b = some t → t = y) (h : three a b = some z) : z = (x && y) := by
  cases a with
  | some p =>
    have := ha p rfl
    subst this
    cases p with
    | true => exact hb z h
    | false => cases h; rfl
  | none =>
    cases b with
    | none => cases h
    | some q =>
      have := hb q rfl
      subst this
      cases q with
      | true => cases h
      | false => cases h; simp
noncomputable def sameO (A : List As) (l m : List Value) (o p : Option Qe) : Option Bool := match o with
  | some e => match p with
    | some f => cond (e.beq f) (some true) (ask A 2 e f)
    | none => match fitB A e with
      | some t => cond t (some false) none
      | none => none
  | none => match p with
    | some f => match fitB A f with
      | some t => cond t (some false) none
      | none => none
    | none => cond (eqL eq1 l m && plainL plain l) (some true) none
noncomputable def eq3 (A : List As) (l m : List Value) : M Sy (Option Bool) := bind (frcV l) fun o => bind (frcV m) fun p => ret (sameO A l m o p)
noncomputable def ansEq (op : BinOp) (b : Option Bool) : M Sy Nxt := match b with
  | some b => match op with
    | .eql => val (.bool b)
    | .neq => val (.bool (!b))
    | _ => fail
  | none => fail
noncomputable def eqCells (A : List As) (op : BinOp) (t : TypeId) (l m : List Value) : M Sy Nxt :=
  cond (Nat.beq t 23) (bind (eq3 A l m) (ansEq op))
    (cond (Nat.beq t 47) (bind (eq3 A (l.take 3) (m.take 3)) fun b => bind (eq3 A (l.drop 3) (m.drop 3)) fun c => ansEq op (three b c)) fail)
noncomputable def eqHard (A : List As) (o : Oper) (vs : List Value) : M Sy Nxt := match o.op with
  | .binOp op t _ _ _ => match vs with
    | [u, v] => match u with
      | .agg cs => match v with
        | .agg ds => eqCells A op t cs.toList ds.toList
        | _ => fail
      | _ => fail
    | _ => fail
  | _ => fail
theorem loc_eq3 (A : List As) (l m : List Value) : Loc (eq3 A l m) := loc_bind (loc_frcV _) fun _ => loc_bind (loc_frcV _) fun _ => loc_ret _
theorem loc_ansEq (op : BinOp) (b : Option Bool) : Loc (ansEq op b) := by
  unfold ansEq
  (repeat' split) <;> first | exact loc_val _ | exact loc_fail
theorem loc_eqHard (A : List As) (o : Oper) (vs : List Value) : Loc (eqHard A o vs) := by
  unfold eqHard
  (repeat' split) <;> first
    | exact loc_fail
    | exact loc_cond (loc_bind (loc_eq3 _ _ _) fun _ => loc_ansEq _ _) (loc_cond (loc_bind (loc_eq3 _ _ _) fun _ => loc_bind (loc_eq3 _ _ _) fun _ => loc_ansEq _ _) loc_fail)
theorem frc_tri {ρ : Env} {l : List Value} {o : Option Qe} (h : FrcIs ρ l o) : ∃ x : Tri, l = cel x ∧ (∀ e, o = some e → x = tri (e.ev ρ.q)) ∧ (o = none → BadF x) := by
  cases o with
  | some e =>
    obtain rfl : l = _ := h
    exact ⟨tri (e.ev ρ.q), rfl, fun e' he => by cases he; rfl, fun h => (by cases h)⟩
  | none =>
    obtain ⟨x, hx, rfl⟩ := h
    exact ⟨x, rfl, fun e' he => (by cases he), fun _ => hx⟩
section
variable {ρ : Env} {A : List As} {h h' : Tr (Blk Sy)} {nx nx' : Nat} {R W : List Nat} {r : Ren} {w : World}
theorem cel_inj {x y : Tri} (h : cel x = cel y) : x = y := by
  obtain ⟨a, s, t⟩ := x
  obtain ⟨b, u, v⟩ := y
  simp only [cel, List.cons.injEq, Value.bool.injEq, Value.string.injEq, and_true] at h
  obtain ⟨rfl, rfl, rfl⟩ := h
  rfl
theorem eq3_ok (hA : AllH ρ A) {l m l' m' : List Value} {b : Option Bool} (e : eq3 A l m h nx = .ok b h' nx' R W) (hl : VsR r l l') (hm : VsR r m m') (hM : Mod (symSig ρ) r h.get w) :
    h' = h ∧ nx' = nx ∧ W = [] ∧ ∃ x y : Tri, l' = cel x ∧ m' = cel y ∧ ∀ t, b = some t → t = tbeq x y := by
  obtain ⟨o, h1, nx1, R1, W1, R2, W2, q1, q2, rfl, rfl⟩ := bind_ok e
  obtain ⟨rfl, rfl, rfl, i1⟩ := frcV_ok q1 hl hM
  obtain ⟨p, h2, nx2, R3, W3, R4, W4, q3, q4, rfl, rfl⟩ := bind_ok q2
  obtain ⟨rfl, rfl, rfl, i2⟩ := frcV_ok q3 hm hM
  obtain ⟨rfl, rfl, rfl, rfl⟩ := ret_ok q4
  obtain ⟨x, rfl, x1, x2⟩ := frc_tri i1
  obtain ⟨y, rfl, y1, y2⟩ := frc_tri i2
  refine ⟨rfl, rfl, by simp, x, y, rfl, rfl, fun t ht => ?_⟩
  have neg : x ≠ y → tbeq x y = false := fun hn => by
    cases hb : tbeq x y with
    | false => rfl
    | true => exact absurd (tbeq_iff.1 hb) hn
  unfold sameO at ht
  cases o with
  | some e0 =>
    have hx := x1 e0 rfl
    cases p with
    | some f =>
      have hy := y1 f rfl
      simp only at ht
      cases hb : e0.beq f with
      | true =>
        rw [hb] at ht
        cases ht
        rw [hx, hy, Qe.beq_ok _ _ hb]
        exact (tbeq_iff.2 rfl).symm
      | false =>
        rw [hb] at ht
        have hs := ask_same hA ht
        cases t with
        | true => rw [hx, hy, hs.1 rfl]; exact (tbeq_iff.2 rfl).symm
        | false =>
          refine (neg fun h => ?_).symm
          rw [hx, hy] at h
          have := hs.2 (tri_inj h)
          cases this
    | none =>
      simp only at ht
      cases hf : fitB A e0 with
      | none => rw [hf] at ht; cases ht
      | some u =>
        rw [hf] at ht
        cases u with
        | false => cases ht
        | true =>
          cases ht
          refine (neg fun h => ?_).symm
          have hbad := y2 rfl
          rw [← h, hx] at hbad
          exact not_bad ((fitB_ok hA hf).1 rfl) hbad
  | none =>
    cases p with
    | some f =>
      have hy := y1 f rfl
      simp only at ht
      cases hf : fitB A f with
      | none => rw [hf] at ht; cases ht
      | some u =>
        rw [hf] at ht
        cases u with
        | false => cases ht
        | true =>
          cases ht
          refine (neg fun h => ?_).symm
          have hbad := x2 rfl
          rw [h, hy] at hbad
          exact not_bad ((fitB_ok hA hf).1 rfl) hbad
    | none =>
      simp only at ht
      cases hk : (eqL eq1 l m && plainL plain l) with
      | false => rw [hk] at ht; cases ht
      | true =>
        rw [hk] at ht
        cases ht
        simp only [Bool.and_eq_true] at hk
        have e1 := eqL_ok eq1_ok hk.1
        subst e1
        have e2 := hl.eq_of_plain hk.2
        have e3 := hm.eq_of_plain hk.2
        rw [← e2] at e3
        rw [cel_inj e3]
        exact (tbeq_iff.2 rfl).symm
theorem run_eqs (op : BinOp) (t : TypeId) (x y : Operand) (cs ds : Array Value) (b : Bool) (v : Value) (hm : Tryz.prog.eqGuardType Tryz.prog.depth t = false) (he : (Op.equalIn 10000 t (.agg cs) (.agg ds)).run Tryz.prog w = .ok b w) (hv : (op = .eql ∧ v = .bool b) ∨ (op = .neq ∧ v = .bool (!b))) :
    (do eqGuard op t x y (.agg cs) (.agg ds); binOp op t (.agg cs) (.agg ds) : Sem Value).run Tryz.prog w = .ok v w := by
  have hg := run_eqGuard_agg (P := Tryz.prog) w op t x y cs ds hm
  have he' : (Op.equal t (.agg cs) (.agg ds)).run Tryz.prog w = .ok b w := he
  rcases hv with ⟨rfl, rfl⟩ | ⟨rfl, rfl⟩
  · rw [Sem.run_bind, hg]
    simp [binOp, he']
  · rw [Sem.run_bind, hg]
    simp [binOp, he']
theorem ansEq_ok {op : BinOp} {b : Option Bool} {x : Nxt} (e : ansEq op b h nx = .ok x h' nx' R W) : h' = h ∧ nx' = nx ∧ W = [] ∧ ∃ t v, b = some t ∧ x = .val v ∧ ((op = .eql ∧ v = .bool t) ∨ (op = .neq ∧ v = .bool (!t))) := by
  unfold ansEq at e
  cases b with
  | none => cases (show (fail : M Sy Nxt) h nx = _ from e)
  | some t =>
    cases op with
    | eql =>
      obtain ⟨rfl, rfl, rfl, rfl⟩ := val_ok (show (val (.bool t) : M Sy Nxt) h nx = _ from e)
      exact ⟨rfl, rfl, rfl, t, _, rfl, rfl, .inl ⟨rfl, rfl⟩⟩
    | neq =>
      obtain ⟨rfl, rfl, rfl, rfl⟩ := val_ok (show (val (.bool (!t)) : M Sy Nxt) h nx = _ from e)
      exact ⟨rfl, rfl, rfl, t, _, rfl, rfl, .inr ⟨rfl, rfl⟩⟩
    | _ => cases (show (fail : M Sy Nxt) h nx = _ from e)
theorem eqHard_ok (hA : AllH ρ A) {C : Cfg Sy} (hC : C.hard = eqHard A) : HardOK (symSig ρ) Tryz.prog C := by
  intro o vs h nx x h' nx' R W hs e r w ρo hM hN hv
  rw [hC] at e
  unfold eqHard at e
  cases hop : o.op with
  | binOp op t p q yt =>
    rw [hop] at e
    simp only at e
    have hops : o.op.operands.toList.map ρo = [ρo p, ρo q] := by rw [hop]; rfl
    rw [hops] at hv
    rcases vs with _ | ⟨u, _ | ⟨v, _ | ⟨z, l⟩⟩⟩ <;> first | (cases (show (fail : M Sy Nxt) h nx = _ from e); done) | skip
    cases hv with
    | cons hu hv => cases hv with
      | cons hv hn =>
        cases u <;> first | (cases (show (fail : M Sy Nxt) h nx = _ from e); done) | skip
        rename_i cs
        cases v <;> first | (cases (show (fail : M Sy Nxt) h nx = _ from e); done) | skip
        rename_i ds
        obtain ⟨cl⟩ := cs
        obtain ⟨dl⟩ := ds
        obtain ⟨cl', hc1, hc2⟩ := vr_agg hu
        obtain ⟨dl', hd1, hd2⟩ := vr_agg hv
        simp only at e
        have fin : ∀ {b : Bool} {v : Value}, (Op.equalIn 10000 t (.agg ⟨cl'⟩) (.agg ⟨dl'⟩)).run Tryz.prog w = .ok b w → Tryz.prog.eqGuardType Tryz.prog.depth t = false → ((op = .eql ∧ v = .bool b) ∨ (op = .neq ∧ v = .bool (!b))) →
            (execOp ρo o).run Tryz.prog w = .ok (.value v) w := fun he hm hv => by
          have := run_eqs op t p q ⟨cl'⟩ ⟨dl'⟩ _ _ hm he hv
          simp only [execOp, hop, hc1, hd1]
          rw [Sem.run_bind, this]
          rfl
        unfold eqCells at e
        cases ht : Nat.beq t 23 with
        | true =>
          rw [ht] at e
          simp only [cond_true] at e
          have htt := Nat.eq_of_beq_eq_true ht
          obtain ⟨b, h1, nx1, R1, W1, R2, W2, e1, e2, rfl, rfl⟩ := bind_ok e
          obtain ⟨rfl, rfl, rfl, x1, y1, rfl, rfl, hb⟩ := eq3_ok hA e1 hc2 hd2 hM
          obtain ⟨rfl, rfl, rfl, t1, v1, rfl, rfl, hv1⟩ := ansEq_ok e2
          have := hb t1 rfl
          subst this
          refine ⟨Nat.le_refl _, v1, w, r, fin (by rw [htt]; exact eqIn_frac 9998 x1 y1 w) (by rw [htt]; kernel_rfl) hv1, ?_, by simpa using Ext.refl _ _ hM⟩
          rcases hv1 with ⟨_, rfl⟩ | ⟨_, rfl⟩ <;> exact .same rfl
        | false =>
          rw [ht] at e
          simp only [cond_false] at e
          cases ht2 : Nat.beq t 47 with
          | false => rw [ht2] at e; cases (show (fail : M Sy Nxt) h nx = _ from e)
          | true =>
            rw [ht2] at e
            simp only [cond_true] at e
            have htt := Nat.eq_of_beq_eq_true ht2
            obtain ⟨b, h1, nx1, R1, W1, R2, W2, e1, e2, rfl, rfl⟩ := bind_ok e
            obtain ⟨rfl, rfl, rfl, x1, y1, hx1, hy1, hb⟩ := eq3_ok hA e1 (hc2.take 3) (hd2.take 3) hM
            obtain ⟨c, h2, nx2, R3, W3, R4, W4, e3, e4, rfl, rfl⟩ := bind_ok e2
            obtain ⟨rfl, rfl, rfl, x2, y2, hx2, hy2, hc⟩ := eq3_ok hA e3 (hc2.drop 3) (hd2.drop 3) hM
            obtain ⟨rfl, rfl, rfl, t1, v1, ht1, rfl, hv1⟩ := ansEq_ok e4
            have := three_ok hb hc ht1
            subst this
            have z1 : cl' = cel x1 ++ cel x2 := by rw [← hx1, ← hx2, List.take_append_drop]
            have z2 : dl' = cel y1 ++ cel y2 := by rw [← hy1, ← hy2, List.take_append_drop]
            refine ⟨Nat.le_refl _, v1, w, r, fin (by rw [htt, z1, z2]; exact eqIn_gauss 9997 x1 x2 y1 y2 w) (by rw [htt]; kernel_rfl) hv1, ?_, by simpa using Ext.refl _ _ hM⟩
            rcases hv1 with ⟨_, rfl⟩ | ⟨_, rfl⟩ <;> exact .same rfl
  | _ => rw [hop] at e; cases (show (fail : M Sy Nxt) h nx = _ from e)
end
end Ev
end Go.Proofs.YthjofdfnppadnaaGreatDoor
namespace Go.Proofs.YthjofdfnppadnaaGreatDoor
open Go Go.RowKit
namespace Ev
structure Ps where
  a : Qe
  b : Qe
  t : Bool
def Ps.holds (ρ : Nat → Rat) (x : Ps) : Prop := x.t = true ↔ (Fit (x.a.ev ρ) ∧ Fit (x.b.ev ρ))
def AllP (ρ : Env) (B : List Ps) : Prop := ∀ x ∈ B, x.holds ρ.q
noncomputable def askP (B : List Ps) (a b : Qe) : Option Bool := List.rec (motive := fun _ => Option Bool) none
  (fun x _ ih => Bool.rec (motive := fun _ => Option Bool) ih (some x.t) (a.beq x.a && b.beq x.b)) B
theorem askP_ok {ρ : Env} {a b : Qe} {t : Bool} : ∀ {B : List Ps}, AllP ρ B → askP B a b = some t → (t = true ↔ (Fit (a.ev ρ.q) ∧ Fit (b.ev ρ.q)))
  | [], _, h => by cases h
  | x :: B, hB, h => by
    have h' : (Bool.rec (motive := fun _ => Option Bool) (askP B a b) (some x.t) (a.beq x.a && b.beq x.b) : Option Bool) = some t := h
    cases hb : (a.beq x.a && b.beq x.b) with
    | false => rw [hb] at h'; exact askP_ok (fun y hy => hB y (List.mem_cons_of_mem _ hy)) h'
    | true =>
      rw [hb] at h'
      simp only [Bool.and_eq_true] at hb
      have hx := hB x List.mem_cons_self
      rw [Qe.beq_ok _ _ hb.1, Qe.beq_ok _ _ hb.2, ← Option.some.inj h']
      exact hx
noncomputable def inP (B : List Ps) (a : Qe) : Bool := List.rec (motive := fun _ => Bool) false (fun x _ ih => (x.t && (a.beq x.a || a.beq x.b)) || ih) B
theorem inP_ok {ρ : Env} {a : Qe} : ∀ {B : List Ps}, AllP ρ B → inP B a = true → Fit (a.ev ρ.q)
  | [], _, h => by cases h
  | x :: B, hB, h => by
    have h' : ((x.t && (a.beq x.a || a.beq x.b)) || inP B a) = true := h
    simp only [Bool.or_eq_true, Bool.and_eq_true] at h'
    rcases h' with ⟨h1, h2⟩ | h1
    · have hx := (hB x List.mem_cons_self).1 h1
      rcases h2 with h2 | h2
      · rw [Qe.beq_ok _ _ h2]; exact hx.1
      · rw [Qe.beq_ok _ _ h2]; exact hx.2
    · exact inP_ok (fun y hy => hB y (List.mem_cons_of_mem _ hy)) h1
noncomputable def fitT (B : List Ps) (e : Qe) : Bool := match e with
  | .v i => Nat.ble i 99
  | .c _ n d => fitC n d
  | e => inP B e
theorem fitT_ok {ρ : Env} {B : List Ps} (hB : AllP ρ B) {e : Qe} (h : fitT B e = true) : Fit (e.ev ρ.q) := by
  unfold fitT at h
  cases e with
  | v i => exact ρ.fit i (Nat.lt_succ_of_le (Nat.le_of_ble_eq_true h))
  | c s n d => exact fit_c h
  | _ => exact inP_ok hB h
noncomputable def both (o p : Option Qe) : Option (Qe × Qe) := match o with
  | some e => match p with
    | some f => some (e, f)
    | none => none
  | none => none
noncomputable def gss (l : List Value) : M Sy (Option (Qe × Qe)) := bind (frcV (l.take 3)) fun o => bind (frcV (l.drop 3)) fun p => ret (both o p)
theorem loc_gss (l : List Value) : Loc (gss l) := loc_bind (loc_frcV _) fun _ => loc_bind (loc_frcV _) fun _ => loc_ret _
def GssIs (ρ : Env) (l' : List Value) : Option (Qe × Qe) → Prop
  | some p => l' = cel (tri (p.1.ev ρ.q)) ++ cel (tri (p.2.ev ρ.q))
  | none => ∃ x y : Tri, (BadF x ∨ BadF y) ∧ l' = cel x ++ cel y
section
variable {ρ : Env} {A : List As} {B : List Ps} {h h' : Tr (Blk Sy)} {nx nx' : Nat} {R W : List Nat} {r : Ren} {w : World}
theorem gss_ok {l l' : List Value} {o : Option (Qe × Qe)} (e : gss l h nx = .ok o h' nx' R W) (hv : VsR r l l') (hM : Mod (symSig ρ) r h.get w) : h' = h ∧ nx' = nx ∧ W = [] ∧ GssIs ρ l' o := by
  obtain ⟨o1, h1, nx1, R1, W1, R2, W2, q1, q2, rfl, rfl⟩ := bind_ok e
  obtain ⟨rfl, rfl, rfl, i1⟩ := frcV_ok q1 (hv.take 3) hM
  obtain ⟨p, h2, nx2, R3, W3, R4, W4, q3, q4, rfl, rfl⟩ := bind_ok q2
  obtain ⟨rfl, rfl, rfl, i2⟩ := frcV_ok q3 (hv.drop 3) hM
  obtain ⟨rfl, rfl, rfl, rfl⟩ := ret_ok q4
  obtain ⟨x, hx, x1, x2⟩ := frc_tri i1
  obtain ⟨y, hy, y1, y2⟩ := frc_tri i2
  have hl : l' = cel x ++ cel y := by rw [← hx, ← hy, List.take_append_drop]
  refine ⟨rfl, rfl, by simp, ?_⟩
  cases o1 with
  | none => exact ⟨x, y, .inl (x2 rfl), hl⟩
  | some e1 =>
    cases p with
    | none => exact ⟨x, y, .inr (y2 rfl), hl⟩
    | some f1 =>
      show l' = _
      rw [hl, x1 e1 rfl, y1 f1 rfl]
noncomputable def errG (n : Int) : Value := .tuple ⟨[gZ, .int .i64 n]⟩
noncomputable def ansG (B : List Ps) (p : Qe × Qe) : M Sy Value := match askP B p.1 p.2 with
  | some t => cond t (bind (newFacts (frs p.1 ++ frs p.2)) fun vs => ret (.tuple ⟨[.agg ⟨vs⟩, .int .i64 0]⟩)) (ret (errG 3))
  | none => fail
theorem loc_ansG (B : List Ps) (p : Qe × Qe) : Loc (ansG B p) := by
  unfold ansG
  split
  · exact loc_cond (loc_bind (loc_newFacts _) fun _ => loc_ret _) (loc_ret _)
  · exact loc_fail
theorem frs_holds (w : World) (e : Qe) : HoldsL (symSig ρ) w (frs e) (cel (tri (e.ev ρ.q))) := frac_holds (w := w) e
theorem ansG_ok (hB : AllP ρ B) {p : Qe × Qe} {f : FuncId} {args' : List Value} {v : Value} (e : ansG B p h nx = .ok v h' nx' R W) (hM : Mod (symSig ρ) r h.get w) (hN : New r nx nx') (c : Calls Tryz.prog f ⟨args'⟩ w (GRes w (p.1.ev ρ.q) (p.2.ev ρ.q))) : GoesS ρ f args' r w nx nx' W h'.get v := by
  unfold ansG at e
  cases ha : askP B p.1 p.2 with
  | none => rw [ha] at e; exact absurd e (by simp [fail])
  | some t =>
    rw [ha] at e
    have hf := askP_ok hB ha
    cases t with
    | true =>
      simp only [cond_true] at e
      exact goes_aggT rfl e hM hN (c.mono fun _ w' hh => by
        obtain ⟨h1 | h1, h2⟩ := hh
        · exact ⟨_, h1.2, holdsL_append (frs_holds w' p.1) (frs_holds w' p.2), h2⟩
        · exact absurd (hf.1 rfl) h1.1)
    | false =>
      simp only [cond_false] at e
      exact goes_pl e rfl hM (c.mono fun _ w' hh => by
        obtain ⟨h1 | h1, h2⟩ := hh
        · have := hf.2 h1.1
          cases this
        · exact ⟨h1.2, h2⟩)
noncomputable def gans2 (B : List Ps) (k : Qe × Qe → Qe × Qe → Qe × Qe) (x y : Option (Qe × Qe)) : M Sy Value := match x with
  | some x => match y with
    | some y => cond ((fitT B x.1 && fitT B x.2) && (fitT B y.1 && fitT B y.2)) (ansG B (k x y)) fail
    | none => ret (errG 2)
  | none => ret (errG 2)
noncomputable def gop2 (g : Option (Qe × Qe) → Option (Qe × Qe) → M Sy Value) (args : List Value) : Option (M Sy Value) := match args with
  | [a, b] => match a with
    | .agg cs => match b with
      | .agg ds => some (bind (gss cs.toList) fun x => bind (gss ds.toList) fun y => g x y)
      | _ => none
    | _ => none
  | _ => none
theorem gop2_ok {f : FuncId} {g : Option (Qe × Qe) → Option (Qe × Qe) → M Sy Value} (hl : ∀ x y, Loc (g x y))
    (hk : ∀ x y (h : Tr (Blk Sy)) nx v h' nx' R W, g x y h nx = .ok v h' nx' R W → ∀ r w l m, GssIs ρ l x → GssIs ρ m y → Mod (symSig ρ) r h.get w → New r nx nx' → GoesS ρ f [.agg ⟨l⟩, .agg ⟨m⟩] r w nx nx' W h'.get v) :
    SumF (symSig ρ) Tryz.prog f (gop2 g) := by
  intro args m e
  unfold gop2 at e
  rcases args with _ | ⟨a, _ | ⟨b, _ | ⟨c, l⟩⟩⟩ <;> simp only [reduceCtorEq] at e
  cases a <;> simp only [reduceCtorEq] at e
  rename_i cs
  cases b <;> simp only [reduceCtorEq, Option.some.injEq] at e
  rename_i ds
  subst e
  refine ⟨loc_bind (loc_gss _) fun x => loc_bind (loc_gss _) fun y => hl x y, ?_⟩
  intro h nx v h' nx' R W e r w args' ha hM hN
  cases ha with
  | cons ha1 ha2 =>
    cases ha2 with
    | cons hb1 hb2 =>
      cases hb2
      obtain ⟨cl⟩ := cs
      obtain ⟨dl⟩ := ds
      obtain ⟨cl', rfl, hc⟩ := vr_agg ha1
      obtain ⟨dl', rfl, hd⟩ := vr_agg hb1
      obtain ⟨x, h1, nx1, R1, W1, R2, W2, e1, e2, rfl, rfl⟩ := bind_ok e
      obtain ⟨rfl, rfl, rfl, hx⟩ := gss_ok e1 hc hM
      obtain ⟨y, h2, nx2, R3, W3, R4, W4, e3, e4, rfl, rfl⟩ := bind_ok e2
      obtain ⟨rfl, rfl, rfl, hy⟩ := gss_ok e3 hd hM
      simpa [GoesS] using hk x y _ _ _ _ _ _ _ e4 r w _ _ hx hy hM hN
theorem mod_G {F : Type} {S : Sig F} {g : Nat → Option (Blk F)} (hM : Mod S r g w) (hG : S.G = Tryz.prog.globals.size) : Tryz.prog.globals.size ≤ w.heap.size := by
  rcases Nat.eq_zero_or_pos Tryz.prog.globals.size with h0 | h0
  · omega
  · have := hM.lt _ _ (hM.glob (Tryz.prog.globals.size - 1) (by rw [hG]; omega))
    omega
theorem loc_gans2 (k : Qe × Qe → Qe × Qe → Qe × Qe) (x y : Option (Qe × Qe)) : Loc (gans2 B k x y) := by
  unfold gans2
  (repeat' split) <;> first | exact loc_ret _ | exact loc_cond (loc_ansG _ _) loc_fail
theorem gsum2 (hB : AllP ρ B) {f : FuncId} {k : Qe × Qe → Qe × Qe → Qe × Qe}
    (hok : ∀ (w : World) (x y : Qe × Qe), Fit (x.1.ev ρ.q) → Fit (x.2.ev ρ.q) → Fit (y.1.ev ρ.q) → Fit (y.2.ev ρ.q) → Tryz.prog.globals.size ≤ w.heap.size → Tab w → Calls Tryz.prog f ⟨[gV (x.1.ev ρ.q) (x.2.ev ρ.q), gV (y.1.ev ρ.q) (y.2.ev ρ.q)]⟩ w (GRes w ((k x y).1.ev ρ.q) ((k x y).2.ev ρ.q)))
    (hbad : ∀ (w : World) (x y z u : Tri), (BadF x ∨ BadF y ∨ BadF z ∨ BadF u) → Tryz.prog.globals.size ≤ w.heap.size → Tab w → Calls Tryz.prog f ⟨[.agg ⟨cel x ++ cel y⟩, .agg ⟨cel z ++ cel u⟩]⟩ w (GErr w 2)) :
    SumF (symSig ρ) Tryz.prog f (gop2 (gans2 B k)) :=
  gop2_ok (fun x y => loc_gans2 k x y) fun x y h nx v h' nx' R W e r w l m hx hy hM hN => by
    have hG := mod_G hM rfl
    have hT : Tab w := hM.base
    unfold gans2 at e
    cases x with
    | none =>
      obtain ⟨x1, x2, hb, rfl⟩ := hx
      cases y with
      | none =>
        obtain ⟨y1, y2, hb2, rfl⟩ := hy
        exact goes_pl e rfl hM (hbad w _ _ _ _ (by rcases hb with hb | hb; exact .inl hb; exact .inr (.inl hb)) hG hT)
      | some y =>
        obtain rfl : m = _ := hy
        exact goes_pl e rfl hM (hbad w _ _ _ _ (by rcases hb with hb | hb; exact .inl hb; exact .inr (.inl hb)) hG hT)
    | some x =>
      obtain rfl : l = _ := hx
      cases y with
      | none =>
        obtain ⟨y1, y2, hb, rfl⟩ := hy
        exact goes_pl e rfl hM (hbad w _ _ _ _ (by rcases hb with hb | hb; exact .inr (.inr (.inl hb)); exact .inr (.inr (.inr hb))) hG hT)
      | some y =>
        obtain rfl : m = _ := hy
        simp only at e
        obtain ⟨hf, e⟩ := cond_ok e
        simp only [Bool.and_eq_true] at hf
        exact ansG_ok hB e hM hN (hok w x y (fitT_ok hB hf.1.1) (fitT_ok hB hf.1.2) (fitT_ok hB hf.2.1) (fitT_ok hB hf.2.2) hG hT)
end
end Ev
end Go.Proofs.YthjofdfnppadnaaGreatDoor
namespace Go.Proofs.YthjofdfnppadnaaGreatDoor
open Go Go.RowKit
namespace Ev
set_option maxRecDepth 100000
theorem add_bad : ∀ a b c d : Bool, (a && b && c && d) = false → run2 [] (inp4 a b c d) 43 = some (noD 2) := by
  intro a b c d
  cases a <;> cases b <;> cases c <;> cases d <;> intro h <;> first | (cases h; done) | kernel_rfl
theorem sub_bad : ∀ a b c d : Bool, (a && b && c && d) = false → run2 [] (inp4 a b c d) 45 = some (noD 2) := by
  intro a b c d
  cases a <;> cases b <;> cases c <;> cases d <;> intro h <;> first | (cases h; done) | kernel_rfl
theorem mul_bad : ∀ a b c d : Bool, (a && b && c && d) = false → run2 [] (inp4 a b c d) 44 = some (noD 2) := by
  intro a b c d
  cases a <;> cases b <;> cases c <;> cases d <;> intro h <;> first | (cases h; done) | kernel_rfl
theorem check_run (a b : Bool) : tells (inp a 0 ++ inp b 1) [.agg 6] (call Tryz.prog symC (symSums []) 60 42) = some (.one (.one (.p (.int .i64 (cond (a && b) 0 2))))) := by
  cases a <;> cases b <;> kernel_rfl
theorem check_any (w : World) (x y : Tri) (hG : Tryz.prog.globals.size ≤ w.heap.size) (hT : Tab w) :
    ∃ n : Int, ((¬ BadF x ∧ ¬ BadF y ∧ n = 0) ∨ ((BadF x ∨ BadF y) ∧ n = 2)) ∧ Calls Tryz.prog 42 ⟨[.agg ⟨cel x ++ cel y⟩]⟩ w fun e w' => e = .returned (.int .i64 n) ∧ Below w.heap.size w w' := by
  obtain ⟨i, -⟩ := in4 x y x y
  have hA : AllH i.ρ [] := fun _ h => by cases h
  have hb1 : i.a = true → ¬ BadF x := fun h => by rw [i.hx.1 h]; exact not_bad ((i.ρ.fit _ (by decide)))
  have hb2 : i.b = true → ¬ BadF y := fun h => by rw [i.hy.1 h]; exact not_bad ((i.ρ.fit _ (by decide)))
  have hb3 : i.a = false → BadF x := fun h => by rw [i.hx.2 h]; exact i.ρ.bad _
  have hb4 : i.b = false → BadF y := fun h => by rw [i.hy.2 h]; exact i.ρ.bad _
  have hc := tells_calls (symFits _) (symSums_ok hA) (check_run i.a i.b) rfl glob_few (holdsL_append (inp_holds (w := w) i.hx.1 i.hx.2) (inp_holds i.hy.1 i.hy.2)) hG hT
  refine ⟨cond (i.a && i.b) 0 2, ?_, hc.mono fun e w' hh => ?_⟩
  · cases ha : i.a with
    | false => exact .inr ⟨.inl (hb3 ha), rfl⟩
    | true => cases hb : i.b with
      | false => exact .inr ⟨.inr (hb4 hb), rfl⟩
      | true => exact .inl ⟨hb1 ha, hb2 hb, rfl⟩
  · obtain ⟨v', rfl, hv, hb⟩ := hh
    exact ⟨by rw [show v' = .int .i64 (cond (i.a && i.b) 0 2) from hv], hb⟩
noncomputable def kAdd (x y : Qe × Qe) : Qe × Qe := (.add x.1 y.1, .add x.2 y.2)
noncomputable def kSub (x y : Qe × Qe) : Qe × Qe := (.sub x.1 y.1, .sub x.2 y.2)
noncomputable def kMul (x y : Qe × Qe) : Qe × Qe := (.sub (.mul x.1 y.1) (.mul x.2 y.2), .add (.mul x.1 y.2) (.mul x.2 y.1))
section
variable {ρ : Env} {A : List As} {B : List Ps}
theorem lsum_add (hB : AllP ρ B) : SumF (symSig ρ) Tryz.prog 43 (gop2 (gans2 B kAdd)) :=
  gsum2 hB (fun w x y h1 h2 h3 h4 hG hT => ga2 add_run w h1 h2 h3 h4 hG hT) (fun w x y z u h hG hT => ga2_bad add_bad w x y z u h hG hT)
theorem lsum_sub (hB : AllP ρ B) : SumF (symSig ρ) Tryz.prog 45 (gop2 (gans2 B kSub)) :=
  gsum2 hB (fun w x y h1 h2 h3 h4 hG hT => ga2 sub_run w h1 h2 h3 h4 hG hT) (fun w x y z u h hG hT => ga2_bad sub_bad w x y z u h hG hT)
theorem lsum_mul (hB : AllP ρ B) : SumF (symSig ρ) Tryz.prog 44 (gop2 (gans2 B kMul)) :=
  gsum2 hB (fun w x y h1 h2 h3 h4 hG hT => ga2 mul_run w h1 h2 h3 h4 hG hT) (fun w x y z u h hG hT => ga2_bad mul_bad w x y z u h hG hT)
noncomputable def gop1 (g : Option (Qe × Qe) → M Sy Value) (args : List Value) : Option (M Sy Value) := match args with
  | [a] => match a with
    | .agg cs => some (bind (gss cs.toList) fun x => g x)
    | _ => none
  | _ => none
theorem gop1_ok {f : FuncId} {g : Option (Qe × Qe) → M Sy Value} (hl : ∀ x, Loc (g x))
    (hk : ∀ x (h : Tr (Blk Sy)) nx v h' nx' R W, g x h nx = .ok v h' nx' R W → ∀ r w l, GssIs ρ l x → Mod (symSig ρ) r h.get w → New r nx nx' → GoesS ρ f [.agg ⟨l⟩] r w nx nx' W h'.get v) :
    SumF (symSig ρ) Tryz.prog f (gop1 g) := by
  intro args m e
  unfold gop1 at e
  rcases args with _ | ⟨a, _ | ⟨c, l⟩⟩ <;> simp only [reduceCtorEq] at e
  cases a <;> simp only [reduceCtorEq, Option.some.injEq] at e
  rename_i cs
  subst e
  refine ⟨loc_bind (loc_gss _) fun x => hl x, ?_⟩
  intro h nx v h' nx' R W e r w args' ha hM hN
  cases ha with
  | cons ha1 ha2 =>
    cases ha2
    obtain ⟨cl⟩ := cs
    obtain ⟨cl', rfl, hc⟩ := vr_agg ha1
    obtain ⟨x, h1, nx1, R1, W1, R2, W2, e1, e2, rfl, rfl⟩ := bind_ok e
    obtain ⟨rfl, rfl, rfl, hx⟩ := gss_ok e1 hc hM
    simpa [GoesS] using hk x _ _ _ _ _ _ _ e2 r w _ hx hM hN
noncomputable def chk (B : List Ps) (x : Option (Qe × Qe)) : M Sy Value := match x with
  | some x => cond (fitT B x.1 && fitT B x.2) (ret (.int .i64 0)) fail
  | none => ret (.int .i64 2)
theorem lsum_check (hB : AllP ρ B) : SumF (symSig ρ) Tryz.prog 42 (gop1 (chk B)) :=
  gop1_ok (fun x => by
    unfold chk
    split
    · exact loc_cond (loc_ret _) loc_fail
    · exact loc_ret _) fun x h nx v h' nx' R W e r w l hx hM hN => by
    have hG := mod_G hM rfl
    have hT : Tab w := hM.base
    unfold chk at e
    cases x with
    | none =>
      obtain ⟨x1, x2, hb, rfl⟩ := hx
      obtain ⟨n, h1 | h1, hc⟩ := check_any w x1 x2 hG hT
      · rcases hb with hb | hb
        · exact absurd hb h1.1
        · exact absurd hb h1.2.1
      · rw [h1.2] at hc
        exact goes_pl e rfl hM hc
    | some x =>
      obtain rfl : l = _ := hx
      obtain ⟨hf, e⟩ := cond_ok e
      simp only [Bool.and_eq_true] at hf
      have f1 := not_bad (fitT_ok hB hf.1)
      have f2 := not_bad (fitT_ok hB hf.2)
      obtain ⟨n, h1 | h1, hc⟩ := check_any w (tri (x.1.ev ρ.q)) (tri (x.2.ev ρ.q)) hG hT
      · rw [h1.2.2] at hc
        exact goes_pl e rfl hM hc
      · rcases h1.1 with hb | hb
        · exact absurd hb f1
        · exact absurd hb f2
end
noncomputable def withF (l : List Fact) (s : Sums Sy) : Sums Sy := fun f args => match look f args l with
  | some v => some (ret v)
  | none => s f args
theorem withF_ok {ρ : Env} {l : List Fact} (hl : ∀ x ∈ l, x.ok) {s : Sums Sy} (hs : SumOK (symSig ρ) Tryz.prog s) : SumOK (symSig ρ) Tryz.prog (withF l s) := by
  refine ⟨fun f args m e => ?_, fun f args m e h nx v h' nx' R W hr r w args' ha hM hN => ?_⟩
  · unfold withF at e
    cases hk : look f args l with
    | none => rw [hk] at e; exact hs.loc f args m e
    | some v => rw [hk] at e; cases e; exact loc_ret _
  · unfold withF at e
    cases hk : look f args l with
    | none => rw [hk] at e; exact hs.run f args m e h nx v h' nx' R W hr r w args' ha hM hN
    | some u =>
      rw [hk] at e
      cases e
      obtain ⟨x, hx, rfl, rfl, rfl⟩ := look_ok hk
      obtain ⟨h1, h2, h3⟩ := hl x hx
      obtain rfl : args' = x.args := VsR_eq h1 ha
      exact goes_pl hr.ok h2 hM (h3 w (mod_G hM rfl) hM.base)
noncomputable def works2 : Fact := ⟨41, [], .bool true⟩
theorem works2_ok : works2.ok := Fact.of_run (n := 40) (by kernel_rfl) rfl
end Ev
end Go.Proofs.YthjofdfnppadnaaGreatDoor
namespace Go.Proofs.YthjofdfnppadnaaGreatDoor
open Go Go.RowKit
namespace Ev
set_option maxRecDepth 100000
noncomputable def nrm (x : Qe × Qe) : Qe := .add (.mul x.1 x.1) (.mul x.2 x.2)
noncomputable def okF (e : Qe) : D3 Sy := .tuple [.agg (seen e), .one (.p (.int .i64 0))]
noncomputable def zero3 : List Value := [.bool false, .string ⟨#[]⟩, .string ⟨#[]⟩]
noncomputable def noF (n : Int) : D3 Sy := .tuple [.agg (zero3.map .p), .one (.p (.int .i64 n))]
noncomputable def w0 : Qe × Qe := (v0, v1)
noncomputable def w1 : Qe × Qe := (v2, v3)
theorem norm_run (s : Bool) : run1 [⟨0, nrm w0, z0, s⟩] (inp true 0 ++ inp true 1) 37 = some (cond s (okF (nrm w0)) (noF 3)) := by
  cases s <;> kernel_rfl
theorem norm_bad : ∀ a b : Bool, (a && b) = false → run1 [] (inp a 0 ++ inp b 1) 37 = some (noF 2) := by
  intro a b
  cases a <;> cases b <;> intro h <;> first | (cases h; done) | kernel_rfl
theorem conj_run : run1 [⟨0, .neg v1, z0, true⟩] (inp true 0 ++ inp true 1) 46 = some (okD v0 (.neg v1)) := by kernel_rfl
theorem conj_bad : ∀ a b : Bool, (a && b) = false → run1 [] (inp a 0 ++ inp b 1) 46 = some (noD 2) := by
  intro a b
  cases a <;> cases b <;> intro h <;> first | (cases h; done) | kernel_rfl
noncomputable def kQuo (x y : Qe × Qe) : Qe × Qe := (.quo (.sub (.mul x.1 y.1) (.mul x.2 (.neg y.2))) (nrm y), .quo (.add (.mul x.1 (.neg y.2)) (.mul x.2 y.1)) (nrm y))
noncomputable def signs (n2 g2 n3 g3 : Bool) : List As := [⟨1, v2, z0, n2⟩, ⟨3, v2, z0, g2⟩, ⟨1, v3, z0, n3⟩, ⟨3, v3, z0, g3⟩]
noncomputable def qTab (s t n2 g2 n3 g3 : Bool) : List As := fits (kQuo w0 w1).1 (kQuo w0 w1).2 s t ++ (⟨1, nrm w1, z0, false⟩ :: signs n2 g2 n3 g3)
theorem quo_run : ∀ s t n2 g2 n3 g3 : Bool, (n2 && n3) = false → run2 (qTab s t n2 g2 n3 g3) (inp4 true true true true) 33 = some (andD s t (kQuo w0 w1).1 (kQuo w0 w1).2) := by
  intro s t n2 g2 n3 g3
  cases n2 <;> cases n3 <;> intro h <;> first | (cases h; done) | (cases s <;> cases t <;> cases g2 <;> cases g3 <;> kernel_rfl)
theorem quo_bad : ∀ a b c d : Bool, (a && b && c && d) = false → run2 [] (inp4 a b c d) 33 = some (noD 2) := by
  intro a b c d
  cases a <;> cases b <;> cases c <;> cases d <;> intro h <;> first | (cases h; done) | kernel_rfl
def fV (p : Rat) : Value := .agg ⟨cel (tri p)⟩
noncomputable def fZ : Value := .agg ⟨zero3⟩
def FRes (w : World) (p : Rat) (e : Ending) (w' : World) : Prop :=
  (Fit p ∧ e = .returned (.tuple ⟨[fV p, .int .i64 0]⟩) ∨ ¬ Fit p ∧ e = .returned (.tuple ⟨[fZ, .int .i64 3]⟩)) ∧ Below w.heap.size w w'
def FErr (w : World) (n : Int) (e : Ending) (w' : World) : Prop := e = .returned (.tuple ⟨[fZ, .int .i64 n]⟩) ∧ Below w.heap.size w w'
section
variable {ρ : Env} {w : World} {v : Value}
theorem okF_is {e : Qe} (h : (okF e).is (symSig ρ) w v) : v = .tuple ⟨[fV (e.ev ρ.q), .int .i64 0]⟩ := by
  obtain ⟨vs, rfl, v1, u1, rfl, ⟨x, rfl, hx⟩, v2, u2, rfl, h2, h3⟩ := h
  have hx' : D1.all (symSig ρ) w (seen e ++ []) x := by simpa using hx
  obtain ⟨us, rfl, hz⟩ := seen_is hx'
  obtain rfl : us = [] := hz
  obtain rfl : u2 = [] := h3
  rw [show v2 = .int .i64 0 from h2, List.append_nil]
  rfl
theorem noF_is {n : Int} (h : (noF n).is (symSig ρ) w v) : v = .tuple ⟨[fZ, .int .i64 n]⟩ := by
  obtain ⟨vs, rfl, v1, u1, rfl, ⟨x, rfl, hx⟩, v2, u2, rfl, h2, h3⟩ := h
  obtain rfl : u2 = [] := h3
  rw [all_p hx, show v2 = .int .i64 n from h2]
  rfl
end
theorem in2_holds {a b : Rat} (ha : Fit a) (hb : Fit b) (c d : Rat) (hc : Fit c) (hd : Fit d) (w : World) : HoldsL (symSig (envOf a b c d ha hb hc hd)) w (inp true 0 ++ inp true 1) (cel (tri a) ++ cel (tri b)) :=
  holdsL_append (inp_holds (fun _ => rfl) (fun h => (by cases h))) (inp_holds (fun _ => rfl) (fun h => (by cases h)))
theorem fit_zero : Fit 0 := ⟨by decide, by decide⟩
theorem norm_any (w : World) {a b : Rat} (ha : Fit a) (hb : Fit b) (hG : Tryz.prog.globals.size ≤ w.heap.size) (hT : Tab w) : Calls Tryz.prog 37 ⟨[gV a b]⟩ w (FRes w (a * a + b * b)) := by
  obtain ⟨s, hs⟩ := fit_bool (a * a + b * b)
  have hA : AllH (envOf a b 0 0 ha hb fit_zero fit_zero) [⟨0, nrm w0, z0, s⟩] := fun x hx => by
    simp only [List.mem_cons, List.not_mem_nil, or_false] at hx
    subst hx; exact hs
  refine (tells_calls (symFits _) (symSums_ok hA) (norm_run s) rfl glob_few (in2_holds ha hb 0 0 fit_zero fit_zero w) hG hT).mono ?_
  rintro e w' ⟨v', rfl, hv, hb'⟩
  refine ⟨?_, hb'⟩
  cases s with
  | true => exact .inl ⟨hs.1 rfl, by rw [okF_is hv]; rfl⟩
  | false => exact .inr ⟨fun h => (by have := hs.2 h; cases this), by rw [noF_is hv]⟩
theorem fit_neg {q : Rat} (h : Fit q) : Fit (-q) := by
  obtain ⟨_, h2, h3⟩ := Big.neg_parts q
  exact ⟨by rw [h2]; exact h.nu, by rw [h3]; exact h.de⟩
theorem conj_any (w : World) {a b : Rat} (ha : Fit a) (hb : Fit b) (hG : Tryz.prog.globals.size ≤ w.heap.size) (hT : Tab w) : Calls Tryz.prog 46 ⟨[gV a b]⟩ w (GRes w a (-b)) := by
  have hA : AllH (envOf a b 0 0 ha hb fit_zero fit_zero) [⟨0, .neg v1, z0, true⟩] := fun x hx => by
    simp only [List.mem_cons, List.not_mem_nil, or_false] at hx
    subst hx; exact ⟨fun _ => fit_neg hb, fun _ => rfl⟩
  refine (tells_calls (symFits _) (symSums_ok hA) conj_run rfl glob_few (in2_holds ha hb 0 0 fit_zero fit_zero w) hG hT).mono ?_
  rintro e w' ⟨v', rfl, hv, hb'⟩
  exact ⟨.inl ⟨⟨ha, fit_neg hb⟩, by rw [okD_is hv]; rfl⟩, hb'⟩
theorem ga1_bad {f : FuncId} {d : D3 Sy} {P : Ending → Prop} (run : ∀ a b : Bool, (a && b) = false → run1 [] (inp a 0 ++ inp b 1) f = some d) (hP : ∀ (ρ : Env) (w : World) (v : Value), d.is (symSig ρ) w v → P (.returned v)) (w : World) (x y : Tri) (h : BadF x ∨ BadF y) (hG : Tryz.prog.globals.size ≤ w.heap.size) (hT : Tab w) :
    Calls Tryz.prog f ⟨[.agg ⟨cel x ++ cel y⟩]⟩ w fun e w' => P e ∧ Below w.heap.size w w' := by
  obtain ⟨i, -⟩ := in4 x y x y
  have hA : AllH i.ρ [] := fun _ h => (by cases h)
  have hb : (i.a && i.b) = false := by
    cases ha : i.a with
    | false => rfl
    | true => cases hb : i.b with
      | false => rfl
      | true =>
        rcases h with h | h
        · rw [i.hx.1 ha] at h; exact absurd h (not_bad ((i.ρ.fit _ (by decide))))
        · rw [i.hy.1 hb] at h; exact absurd h (not_bad ((i.ρ.fit _ (by decide))))
  exact (tells_calls (symFits _) (symSums_ok hA) (run _ _ hb) rfl glob_few (holdsL_append (inp_holds (w := w) i.hx.1 i.hx.2) (inp_holds i.hy.1 i.hy.2)) hG hT).mono fun e w' hh => by
    obtain ⟨v', rfl, hv, hb'⟩ := hh
    exact ⟨hP _ _ _ hv, hb'⟩
theorem norm_none (w : World) (x y : Tri) (h : BadF x ∨ BadF y) (hG : Tryz.prog.globals.size ≤ w.heap.size) (hT : Tab w) : Calls Tryz.prog 37 ⟨[.agg ⟨cel x ++ cel y⟩]⟩ w (FErr w 2) :=
  ga1_bad norm_bad (P := fun e => e = .returned (.tuple ⟨[fZ, .int .i64 2]⟩)) (fun _ _ _ h => by rw [noF_is h]) w x y h hG hT
theorem conj_none (w : World) (x y : Tri) (h : BadF x ∨ BadF y) (hG : Tryz.prog.globals.size ≤ w.heap.size) (hT : Tab w) : Calls Tryz.prog 46 ⟨[.agg ⟨cel x ++ cel y⟩]⟩ w (GErr w 2) :=
  ga1_bad conj_bad (P := fun e => e = .returned (.tuple ⟨[gZ, .int .i64 2]⟩)) (fun _ _ _ h => by rw [noD_is h]) w x y h hG hT
theorem sq_nonneg (c : Rat) : 0 ≤ c * c := by
  rcases Rat.le_total (a := 0) (b := c) with h | h
  · exact Rat.mul_nonneg h h
  · have h1 : 0 ≤ -c := by grind
    have h2 := Rat.mul_nonneg h1 h1
    grind
theorem sq_zero {c d : Rat} (h : c * c + d * d = 0) : c = 0 ∧ d = 0 := by
  have h1 := sq_nonneg c
  have h2 := sq_nonneg d
  have z1 : c * c = 0 := by grind
  have z2 : d * d = 0 := by grind
  exact ⟨by rcases Rat.mul_eq_zero.1 z1 with h | h <;> exact h, by rcases Rat.mul_eq_zero.1 z2 with h | h <;> exact h⟩
theorem zero_bool (q : Rat) : ∃ s : Bool, s = true ↔ q = 0 := ⟨decide (q = 0), decide_eq_true_iff⟩
theorem signs_hold {ρ : Env} {n2 n3 : Bool} (h2 : n2 = true ↔ v2.ev ρ.q = 0) (h3 : n3 = true ↔ v3.ev ρ.q = 0) : AllH ρ (signs n2 (Big.ng (v2.ev ρ.q)) n3 (Big.ng (v3.ev ρ.q))) := fun x hx => by
  simp only [signs, List.mem_cons, List.not_mem_nil, or_false] at hx
  rcases hx with rfl | rfl | rfl | rfl
  · exact h2
  · exact (rfl : Big.ng (v2.ev ρ.q) = _)
  · exact h3
  · exact (rfl : Big.ng (v3.ev ρ.q) = _)
theorem quo_any (w : World) {a b c d : Rat} (ha : Fit a) (hb : Fit b) (hc : Fit c) (hd : Fit d) (h0 : ¬ (c = 0 ∧ d = 0)) (hG : Tryz.prog.globals.size ≤ w.heap.size) (hT : Tab w) :
    Calls Tryz.prog 33 ⟨[gV a b, gV c d]⟩ w (GRes w ((a * c - b * -d) / (c * c + d * d)) ((a * -d + b * c) / (c * c + d * d))) := by
  obtain ⟨s, hs⟩ := fit_bool ((a * c - b * -d) / (c * c + d * d))
  obtain ⟨t, ht⟩ := fit_bool ((a * -d + b * c) / (c * c + d * d))
  obtain ⟨n2, h2⟩ := zero_bool c
  obtain ⟨n3, h3⟩ := zero_bool d
  have hn : (n2 && n3) = false := by
    cases n2 with
    | false => rfl
    | true => cases n3 with
      | false => rfl
      | true => exact absurd ⟨h2.1 rfl, h3.1 rfl⟩ h0
  have hA : AllH (envOf a b c d ha hb hc hd) (qTab s t n2 (Big.ng c) n3 (Big.ng d)) := fun x hx => by
    simp only [qTab, List.mem_append, List.mem_cons] at hx
    rcases hx with hx | rfl | hx
    · exact fits_hold (ρ := envOf a b c d ha hb hc hd) (e := (kQuo w0 w1).1) (f := (kQuo w0 w1).2) hs ht x hx
    · exact ⟨fun h => (by cases h), fun h => absurd (sq_zero h) h0⟩
    · exact signs_hold (ρ := envOf a b c d ha hb hc hd) h2 h3 x hx
  have hu : HoldsL (symSig (envOf a b c d ha hb hc hd)) w (inp4 true true true true) (cel (tri a) ++ (cel (tri b) ++ (cel (tri c) ++ cel (tri d)))) :=
    holdsL_append (inp_holds (fun _ => rfl) (fun h => (by cases h))) (holdsL_append (inp_holds (fun _ => rfl) (fun h => (by cases h))) (holdsL_append (inp_holds (fun _ => rfl) (fun h => (by cases h))) (inp_holds (fun _ => rfl) (fun h => (by cases h)))))
  refine (tells_calls (symFits _) (symSums_ok hA) (quo_run s t n2 _ n3 _ hn) rfl glob_few hu hG hT).mono ?_
  rintro e w' ⟨v', rfl, hv, hb'⟩
  refine ⟨?_, hb'⟩
  unfold andD at hv
  cases s with
  | true => cases t with
    | true => exact .inl ⟨⟨hs.1 rfl, ht.1 rfl⟩, by rw [okD_is hv]; rfl⟩
    | false => exact .inr ⟨fun h => (by have := ht.2 h.2; cases this), by rw [noD_is hv]⟩
  | false => exact .inr ⟨fun h => (by have := hs.2 h.1; cases this), by rw [noD_is hv]⟩
end Ev
end Go.Proofs.YthjofdfnppadnaaGreatDoor
namespace Go.Proofs.YthjofdfnppadnaaGreatDoor
open Go Go.RowKit
namespace Ev
set_option maxRecDepth 100000
noncomputable def lawC (A : List As) : Cfg Sy := symCfg (eqHard A)
instance lawHard (A : List As) : HardLoc (lawC A) := ⟨loc_eqHard A⟩
theorem lawFits {ρ : Env} {A : List As} (hA : AllH ρ A) : Fits (symSig ρ) Tryz.prog (lawC A) where
  hid := rfl
  G := rfl
  len := symLen_ok ρ
  tab := natFits.tab
  mixed := natFits.mixed
  hard := eqHard_ok hA rfl
noncomputable def inp6 (a b c d e f : Bool) : List Sy := inp a 0 ++ (inp b 1 ++ (inp c 2 ++ (inp d 3 ++ (inp e 4 ++ inp f 5))))
noncomputable def eqs (l : List (Qe × Qe)) : List As := l.map fun p => ⟨2, p.1, p.2, true⟩
theorem eqs_hold {ρ : Env} {l : List (Qe × Qe)} (h : ∀ p ∈ l, p.1.ev ρ.q = p.2.ev ρ.q) : AllH ρ (eqs l) := by
  intro x hx
  obtain ⟨p, hp, rfl⟩ := List.mem_map.1 hx
  exact ⟨fun _ => h p hp, fun _ => rfl⟩
noncomputable def yes : D3 Sy := .one (.one (.p (.bool true)))
noncomputable def lx : Qe × Qe := (.v 0, .v 1)
noncomputable def ly : Qe × Qe := (.v 2, .v 3)
noncomputable def lz : Qe × Qe := (.v 4, .v 5)
noncomputable def pr (p : Qe × Qe) (t : Bool) : Ps := ⟨p.1, p.2, t⟩
noncomputable def la : Qe × Qe := kAdd lx ly
noncomputable def lb : Qe × Qe := kAdd ly lx
noncomputable def lc : Qe × Qe := kMul lx ly
noncomputable def ld : Qe × Qe := kMul ly lx
noncomputable def lq : Qe × Qe := kAdd ly lz
noncomputable def lr : Qe × Qe := kAdd lx lq
noncomputable def ls : Qe × Qe := kMul la lz
noncomputable def lt : Qe × Qe := kMul lx lz
noncomputable def lu : Qe × Qe := kMul ly lz
noncomputable def lk : Qe × Qe := kSub la ly
noncomputable def lB (s t : Bool) : List Ps := [pr la s, pr lb s, pr lc t, pr ld t]
end Ev
end Go.Proofs.YthjofdfnppadnaaGreatDoor
namespace Go.Proofs.YthjofdfnppadnaaGreatDoor
open Go Go.RowKit
namespace Ev
set_option maxRecDepth 100000
end Ev
end Go.Proofs.YthjofdfnppadnaaGreatDoor
namespace Go.Proofs.YthjofdfnppadnaaGreatDoor
open Go Go.RowKit
namespace Ev
structure In6 (x y z u s t : Tri) where
  ρ : Env
  a : Bool
  b : Bool
  c : Bool
  d : Bool
  e : Bool
  f : Bool
  hx : (a = true → x = tri (ρ.q 0)) ∧ (a = false → x = ρ.raw 0)
  hy : (b = true → y = tri (ρ.q 1)) ∧ (b = false → y = ρ.raw 1)
  hz : (c = true → z = tri (ρ.q 2)) ∧ (c = false → z = ρ.raw 2)
  hu : (d = true → u = tri (ρ.q 3)) ∧ (d = false → u = ρ.raw 3)
  hs : (e = true → s = tri (ρ.q 4)) ∧ (e = false → s = ρ.raw 4)
  ht : (f = true → t = tri (ρ.q 5)) ∧ (f = false → t = ρ.raw 5)
theorem In6.holds {x y z u s t : Tri} (i : In6 x y z u s t) (w : World) : HoldsL (symSig i.ρ) w (inp6 i.a i.b i.c i.d i.e i.f) (cel x ++ (cel y ++ (cel z ++ (cel u ++ (cel s ++ cel t))))) :=
  holdsL_append (inp_holds i.hx.1 i.hx.2) (holdsL_append (inp_holds i.hy.1 i.hy.2) (holdsL_append (inp_holds i.hz.1 i.hz.2) (holdsL_append (inp_holds i.hu.1 i.hu.2) (holdsL_append (inp_holds i.hs.1 i.hs.2) (inp_holds i.ht.1 i.ht.2)))))
theorem pair_bool (p q : Rat) : ∃ s : Bool, s = true ↔ (Fit p ∧ Fit q) := by
  by_cases h : Fit p ∧ Fit q
  · exact ⟨true, fun _ => h, fun _ => rfl⟩
  · exact ⟨false, fun h => (by cases h), fun h2 => absurd h2 h⟩
end Ev
end Go.Proofs.YthjofdfnppadnaaGreatDoor
namespace Go.Proofs.YthjofdfnppadnaaGreatDoor
open Go Go.RowKit
namespace Ev
set_option maxRecDepth 100000
section
variable {ρ : Env} {A : List As} {B : List Ps} {h h' : Tr (Blk Sy)} {nx nx' : Nat} {R W : List Nat} {r : Ren} {w : World}
noncomputable def errF (n : Int) : Value := .tuple ⟨[fZ, .int .i64 n]⟩
noncomputable def ansF (B : List Ps) (e : Qe) : M Sy Value := match askP B e e with
  | some t => cond t (bind (newFacts (frs e)) fun vs => ret (.tuple ⟨[.agg ⟨vs⟩, .int .i64 0]⟩)) (ret (errF 3))
  | none => fail
theorem loc_ansF (B : List Ps) (e : Qe) : Loc (ansF B e) := by
  unfold ansF
  split
  · exact loc_cond (loc_bind (loc_newFacts _) fun _ => loc_ret _) (loc_ret _)
  · exact loc_fail
theorem ansF_ok (hB : AllP ρ B) {p : Qe} {f : FuncId} {args' : List Value} {v : Value} (e : ansF B p h nx = .ok v h' nx' R W) (hM : Mod (symSig ρ) r h.get w) (hN : New r nx nx') (c : Calls Tryz.prog f ⟨args'⟩ w (FRes w (p.ev ρ.q))) : GoesS ρ f args' r w nx nx' W h'.get v := by
  unfold ansF at e
  cases ha : askP B p p with
  | none => rw [ha] at e; exact absurd e (by simp [fail])
  | some t =>
    rw [ha] at e
    have hf := askP_ok hB ha
    cases t with
    | true =>
      simp only [cond_true] at e
      exact goes_aggT rfl e hM hN (c.mono fun _ w' hh => by
        obtain ⟨h1 | h1, h2⟩ := hh
        · exact ⟨_, h1.2, frs_holds w' p, h2⟩
        · exact absurd (hf.1 rfl).1 h1.1)
    | false =>
      simp only [cond_false] at e
      exact goes_pl e rfl hM (c.mono fun _ w' hh => by
        obtain ⟨h1 | h1, h2⟩ := hh
        · have := hf.2 ⟨h1.1, h1.1⟩
          cases this
        · exact ⟨h1.2, h2⟩)
noncomputable def nrmS (B : List Ps) (x : Option (Qe × Qe)) : M Sy Value := match x with
  | some x => cond (fitT B x.1 && fitT B x.2) (ansF B (nrm x)) fail
  | none => ret (errF 2)
theorem lsum_norm (hB : AllP ρ B) : SumF (symSig ρ) Tryz.prog 37 (gop1 (nrmS B)) :=
  gop1_ok (fun x => by
    unfold nrmS
    split
    · exact loc_cond (loc_ansF _ _) loc_fail
    · exact loc_ret _) fun x h nx v h' nx' R W e r w l hx hM hN => by
    have hG := mod_G hM rfl
    have hT : Tab w := hM.base
    unfold nrmS at e
    cases x with
    | none =>
      obtain ⟨x1, x2, hb, rfl⟩ := hx
      exact goes_pl e rfl hM (norm_none w x1 x2 hb hG hT)
    | some x =>
      obtain rfl : l = _ := hx
      obtain ⟨hf, e⟩ := cond_ok e
      simp only [Bool.and_eq_true] at hf
      exact ansF_ok hB e hM hN (norm_any w (fitT_ok hB hf.1) (fitT_ok hB hf.2) hG hT)
noncomputable def cnjS (B : List Ps) (x : Option (Qe × Qe)) : M Sy Value := match x with
  | some x => cond (fitT B x.1 && fitT B x.2) (ansG B (x.1, .neg x.2)) fail
  | none => ret (errG 2)
theorem lsum_conj (hB : AllP ρ B) : SumF (symSig ρ) Tryz.prog 46 (gop1 (cnjS B)) :=
  gop1_ok (fun x => by
    unfold cnjS
    split
    · exact loc_cond (loc_ansG _ _) loc_fail
    · exact loc_ret _) fun x h nx v h' nx' R W e r w l hx hM hN => by
    have hG := mod_G hM rfl
    have hT : Tab w := hM.base
    unfold cnjS at e
    cases x with
    | none =>
      obtain ⟨x1, x2, hb, rfl⟩ := hx
      exact goes_pl e rfl hM (conj_none w x1 x2 hb hG hT)
    | some x =>
      obtain rfl : l = _ := hx
      obtain ⟨hf, e⟩ := cond_ok e
      simp only [Bool.and_eq_true] at hf
      exact ansG_ok hB e hM hN (conj_any w (fitT_ok hB hf.1) (fitT_ok hB hf.2) hG hT)
noncomputable def quoS (A : List As) (B : List Ps) (x y : Option (Qe × Qe)) : M Sy Value := match y with
  | some y => match noughtB A y.1 with
    | some s => match noughtB A y.2 with
      | some t => cond (s && t) fail (gans2 B kQuo x (some y))
      | none => fail
    | none => fail
  | none => ret (errG 2)
theorem loc_quoS (x y : Option (Qe × Qe)) : Loc (quoS A B x y) := by
  unfold quoS
  (repeat' split) <;> first | exact loc_fail | exact loc_ret _ | exact loc_cond loc_fail (loc_gans2 _ _ _)
theorem lsum_quo (hA : AllH ρ A) (hB : AllP ρ B) : SumF (symSig ρ) Tryz.prog 33 (gop2 (quoS A B)) :=
  gop2_ok (fun x y => loc_quoS x y) fun x y h nx v h' nx' R W e r w l m hx hy hM hN => by
    have hG := mod_G hM rfl
    have hT : Tab w := hM.base
    unfold quoS at e
    cases y with
    | none =>
      obtain ⟨y1, y2, hb, rfl⟩ := hy
      cases x with
      | none =>
        obtain ⟨x1, x2, hb2, rfl⟩ := hx
        exact goes_pl e rfl hM (ga2_bad quo_bad w _ _ _ _ (by rcases hb with hb | hb; exact .inr (.inr (.inl hb)); exact .inr (.inr (.inr hb))) hG hT)
      | some x =>
        obtain rfl : l = _ := hx
        exact goes_pl e rfl hM (ga2_bad quo_bad w _ _ _ _ (by rcases hb with hb | hb; exact .inr (.inr (.inl hb)); exact .inr (.inr (.inr hb))) hG hT)
    | some y =>
      simp only at e
      cases h1 : noughtB A y.1 with
      | none => rw [h1] at e; exact absurd e (by simp [fail])
      | some s =>
        rw [h1] at e; simp only at e
        cases h2 : noughtB A y.2 with
        | none => rw [h2] at e; exact absurd e (by simp [fail])
        | some t =>
          rw [h2] at e; simp only at e
          obtain ⟨hst, e⟩ := cond_no e
          have n1 := noughtB_ok hA h1
          have n2 := noughtB_ok hA h2
          have h0 : ¬ (y.1.ev ρ.q = 0 ∧ y.2.ev ρ.q = 0) := fun hh => by
            rw [n1.2 hh.1, n2.2 hh.2] at hst
            cases hst
          unfold gans2 at e
          obtain rfl : m = _ := hy
          cases x with
          | none =>
            obtain ⟨x1, x2, hb, rfl⟩ := hx
            exact goes_pl e rfl hM (ga2_bad quo_bad w _ _ _ _ (by rcases hb with hb | hb; exact .inl hb; exact .inr (.inl hb)) hG hT)
          | some x =>
            obtain rfl : l = _ := hx
            simp only at e
            obtain ⟨hf, e⟩ := cond_ok e
            simp only [Bool.and_eq_true] at hf
            exact ansG_ok hB e hM hN (quo_any w (fitT_ok hB hf.1.1) (fitT_ok hB hf.1.2) (fitT_ok hB hf.2.1) (fitT_ok hB hf.2.2) h0 hG hT)
end
noncomputable def of00 : Fact := ⟨32, [.int .i64 0, .int .i64 0], .agg ⟨[.bool false, .string ⟨⟨[]⟩⟩, .string ⟨⟨[1]⟩⟩, .bool false, .string ⟨⟨[]⟩⟩, .string ⟨⟨[1]⟩⟩]⟩⟩
theorem of00_ok : of00.ok := Fact.of_run (n := 100) (by kernel_rfl) rfl
noncomputable def lawList2 (A : List As) (B : List Ps) : List (Nat × (List Value → Option (M Sy Value))) := [
  (43, gop2 (gans2 B kAdd)), (45, gop2 (gans2 B kSub)), (44, gop2 (gans2 B kMul)), (42, gop1 (chk B)),
  (37, gop1 (nrmS B)), (46, gop1 (cnjS B)), (33, gop2 (quoS A B))]
noncomputable def lawSums2 (A : List As) (B : List Ps) : Sums Sy := withF [works2, of00] (sumsOf (mkTab (lawList2 A B)))
theorem lawSums2_ok {ρ : Env} {A : List As} {B : List Ps} (hA : AllH ρ A) (hB : AllP ρ B) : SumOK (symSig ρ) Tryz.prog (lawSums2 A B) :=
  withF_ok (fun x hx => by
    simp only [List.mem_cons, List.not_mem_nil, or_false] at hx
    rcases hx with rfl | rfl
    · exact works2_ok
    · exact of00_ok) (sumsOf_ok fun x hx => by
    simp only [lawList2, List.mem_cons, List.not_mem_nil, or_false] at hx
    rcases hx with rfl | rfl | rfl | rfl | rfl | rfl | rfl
    · exact lsum_add hB
    · exact lsum_sub hB
    · exact lsum_mul hB
    · exact lsum_check hB
    · exact lsum_norm hB
    · exact lsum_conj hB
    · exact lsum_quo hA hB)
noncomputable def nrun (A : List As) (B : List Ps) (fs : List Sy) : Option (D3 Sy) := tells fs [.agg 6, .agg 6] (call Tryz.prog (lawC A) (lawSums2 A B) 10 8)
noncomputable def c0 : Qe := .c false 0 1
noncomputable def np : Qe × Qe := kMul lx ly
noncomputable def nm : Qe := nrm lx
noncomputable def nn : Qe := nrm ly
noncomputable def no : Qe := nrm np
noncomputable def nk : Qe × Qe := kMul (nm, c0) (nn, c0)
noncomputable def nc : Qe × Qe := (.v 0, .neg (.v 1))
noncomputable def nq : Qe × Qe := kMul lx nc
noncomputable def nb : Qe × Qe := kQuo np ly
noncomputable def nE : List As := eqs [(nk.1, no), (nk.2, c0), (nq.1, nm), (nq.2, c0)]
noncomputable def nS (s t : Bool) : List As := [⟨2, .v 2, c0, s⟩, ⟨2, .v 3, c0, t⟩, ⟨1, .v 2, z0, s⟩, ⟨1, .v 3, z0, t⟩]
noncomputable def nT : List As := eqs [(nb.1, .v 0), (nb.2, .v 1)]
noncomputable def nB4 (p m n o : Bool) : List Ps := [pr np p, pr (nm, nm) m, pr (nn, nn) n, pr (no, no) o]
noncomputable def nB7 (k : Bool) : List Ps := nB4 true true true true ++ [pr nk k, pr nc true, pr nq true]
theorem norms_bad : ∀ a b c d : Bool, (a && b && c && d) = false → nrun [] (match (a && b), (c && d) with
    | true, _ => [pr (nm, nm) true]
    | _, true => [pr (nn, nn) true]
    | _, _ => []) (inp4 a b c d) = some yes ∧ nrun [] (match (a && b), (c && d) with
    | true, _ => [pr (nm, nm) false]
    | _, true => [pr (nn, nn) false]
    | _, _ => []) (inp4 a b c d) = some yes := by
  intro a b c d
  cases a <;> cases b <;> cases c <;> cases d <;> intro h <;> first | (cases h; done) | exact ⟨by kernel_rfl, by kernel_rfl⟩
theorem norms_long : ∀ p m n o : Bool, (p && m && n && o) = false → nrun [] (nB4 p m n o) (inp4 true true true true) = some yes := by
  intro p m n o
  cases p <;> cases m <;> cases n <;> cases o <;> intro h <;> first | (cases h; done) | kernel_rfl
theorem norms_zero : ∀ k : Bool, nrun (nE ++ nS true true) (nB7 k) (inp4 true true true true) = some yes := by
  intro k
  cases k <;> kernel_rfl
theorem norms_all : ∀ k s t : Bool, (s && t) = false → nrun (nE ++ (nS s t ++ nT)) (nB7 k ++ [pr nb true]) (inp4 true true true true) = some yes := by
  intro k s t
  cases s <;> cases t <;> intro h <;> first | (cases h; done) | (cases k <;> kernel_rfl)
end Ev
end Go.Proofs.YthjofdfnppadnaaGreatDoor
