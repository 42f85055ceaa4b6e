/- Contracts, in this order: '==' of fractions and of complex numbers of which something  · gauss, as a law calls it: its functions over numbers told by · gauss: what its functions answer, by runs: those that may no · gauss: norms, mirrored numbers, quotients: by runs; of any n · exact: complex numbers of any size: product, quotient, readi · exact: complex numbers of any size: contracts from the runs. · gauss.Power: what is known of the powers on the way. · gauss.Power: operations on sizes. -/
import Derived.Test.YthjofdfnppadnaaGreatDoorZp21
import Derived.Laws.StructEq
import Derived.Test.YthjofdfnppadnaaGreatDoorZp19
namespace Go.Proofs.YthjofdfnppadnaaGreatDoor
open Go Go.RowKit
namespace Ev
def tbeq (x y : Tri) : Bool := x.1 == y.1 && (x.2.1.toList == y.2.1.toList && x.2.2.toList == y.2.2.toList)
theorem tbeq_iff {x y : Tri} : tbeq x y = true ↔ x = y := by
  obtain ⟨a, s, t⟩ := x
  obtain ⟨b, u, v⟩ := y
  have key : ∀ p q : ByteArray, (p.toList == q.toList) = true ↔ p = q := fun p q => by
    rw [beq_iff_eq, ByteArray.toList_eq, ByteArray.toList_eq]
    obtain ⟨⟨p⟩⟩ := p
    obtain ⟨⟨q⟩⟩ := q
    simp
  simp only [tbeq, Bool.and_eq_true, key, beq_iff_eq, Prod.mk.injEq]
theorem eqIn_frac (d : Nat) (x y : Tri) (w : World) : (Op.equalIn (d + 2) 23 (.agg ⟨cel x⟩) (.agg ⟨cel y⟩)).run Tryz.prog w = .ok (tbeq x y) w := by
  have hS : Tryz.prog.underlying 23 = some (.struct (Tryz.prog.fieldsOf 23)) := by kernel_rfl
  have hp : Tryz.prog.stoodInHeld 23 = false := by kernel_rfl
  obtain ⟨a, s, t⟩ := x
  obtain ⟨b, u, v⟩ := y
  rw [show d + 2 = (d + 1) + 1 from rfl, run_equalIn_struct w (d + 1) 23 _ _ hS hp]
  simp only [Program.fieldsOf, Tryz.underlying23, cel, tbeq]
  generalize hx : (s.toList == u.toList) = b1
  generalize hy : (t.toList == v.toList) = b2
  cases a <;> cases b <;> cases b1 <;> cases b2 <;> go_simp <;> simp [hx, hy]
theorem eqIn_gauss (d : Nat) (x y z u : Tri) (w : World) : (Op.equalIn (d + 3) 47 (.agg ⟨cel x ++ cel y⟩) (.agg ⟨cel z ++ cel u⟩)).run Tryz.prog w = .ok (tbeq x z && tbeq y u) w := by
  have hS : Tryz.prog.underlying 47 = some (.struct (Tryz.prog.fieldsOf 47)) := by kernel_rfl
  have hp : Tryz.prog.stoodInHeld 47 = false := by kernel_rfl
  obtain ⟨x1, x2, x3⟩ := x
  obtain ⟨y1, y2, y3⟩ := y
  obtain ⟨z1, z2, z3⟩ := z
  obtain ⟨u1, u2, u3⟩ := u
  have e1 := fun (a b : Bool) (w : World) => run_equalIn_bool' (P := Tryz.prog) w d 4 a b Tryz.underlying4
  have e2 := fun (a b : ByteArray) (w : World) => run_equalIn_string (P := Tryz.prog) w d 9 a b Tryz.underlying9
  rw [show d + 3 = (d + 2) + 1 from rfl, run_equalIn_struct w (d + 2) 47 _ _ hS hp]
  simp only [Program.fieldsOf, Tryz.underlying47]
  go_simp
  simp only [cel, tbeq, e1, e2]
  generalize h1 : (x1 == z1) = b1
  generalize h2 : (x2.toList == z2.toList) = b2
  generalize h3 : (x3.toList == z3.toList) = b3
  generalize h4 : (y1 == u1) = b4
  generalize h5 : (y2.toList == u2.toList) = b5
  generalize h6 : (y3.toList == u3.toList) = b6
  cases b1 <;> cases b2 <;> cases b3 <;> cases b4 <;> cases b5 <;> cases b6 <;> simp only [beq_iff_eq, beq_eq_false_iff_ne, ne_eq] at h1 h2 h3 h4 h5 h6 <;> simp [e1, e2, h1, h2, h3, h4, h5, h6]
noncomputable def three (a b : Option Bool) : Option Bool := match a with
  | some x => cond x b (some false)
  | none => match b with
    | some y => cond y none (some false)
    | none => none
theorem three_ok {a b : Option Bool} {x y z : Bool} (ha : ∀ t, a = some t → t = x) (hb : ∀ t, b = some t → t = y) (h : three a b = some z) : z = (x && y) := by
  cases a with
  | some p =>
    have := ha p rfl
    subst this
    cases p with
    | true => exact hb z h
    | false => cases h; rfl
  | none =>
    cases b with
    | none => cases h
    | some q =>
      have := hb q rfl
      subst this
      cases q with
      | true => cases h
      | false => cases h; simp
noncomputable def sameO (A : List As) (l m : List Value) (o p : Option Qe) : Option Bool := match o with
  | some e => match p with
    | some f => cond (e.beq f) (some true) (ask A 2 e f)
    | none => match fitB A e with
      | some t => cond t (some false) none
      | none => none
  | none => match p with
    | some f => match fitB A f with
      | some t => cond t (some false) none
      | none => none
    | none => cond (eqL eq1 l m && plainL plain l) (some true) none
noncomputable def eq3 (A : List As) (l m : List Value) : M Sy (Option Bool) := bind (frcV l) fun o => bind (frcV m) fun p => ret (sameO A l m o p)
noncomputable def ansEq (op : BinOp) (b : Option Bool) : M Sy Nxt := match b with
  | some b => match op with
    | .eql => val (.bool b)
    | .neq => val (.bool (!b))
    | _ => fail
  | none => fail
noncomputable def eqCells (A : List As) (op : BinOp) (t : TypeId) (l m : List Value) : M Sy Nxt :=
  cond (Nat.beq t 23) (bind (eq3 A l m) (ansEq op))
    (cond (Nat.beq t 47) (bind (eq3 A (l.take 3) (m.take 3)) fun b => bind (eq3 A (l.drop 3) (m.drop 3)) fun c => ansEq op (three b c)) fail)
noncomputable def eqHard (A : List As) (o : Oper) (vs : List Value) : M Sy Nxt := match o.op with
  | .binOp op t _ _ _ => match vs with
    | [u, v] => match u with
      | .agg cs => match v with
        | .agg ds => eqCells A op t cs.toList ds.toList
        | _ => fail
      | _ => fail
    | _ => fail
  | _ => fail
theorem loc_eq3 (A : List As) (l m : List Value) : Loc (eq3 A l m) := loc_bind (loc_frcV _) fun _ => loc_bind (loc_frcV _) fun _ => loc_ret _
theorem loc_ansEq (op : BinOp) (b : Option Bool) : Loc (ansEq op b) := by
  unfold ansEq
  (repeat' split) <;> first | exact loc_val _ | exact loc_fail
theorem loc_eqHard (A : List As) (o : Oper) (vs : List Value) : Loc (eqHard A o vs) := by
  unfold eqHard
  (repeat' split) <;> first
    | exact loc_fail
    | exact loc_cond (loc_bind (loc_eq3 _ _ _) fun _ => loc_ansEq _ _) (loc_cond (loc_bind (loc_eq3 _ _ _) fun _ => loc_bind (loc_eq3 _ _ _) fun _ => loc_ansEq _ _) loc_fail)
theorem frc_tri {ρ : Env} {l : List Value} {o : Option Qe} (h : FrcIs ρ l o) : ∃ x : Tri, l = cel x ∧ (∀ e, o = some e → x = tri (e.ev ρ.q)) ∧ (o = none → BadF x) := by
  cases o with
  | some e =>
    obtain rfl : l = _ := h
    exact ⟨tri (e.ev ρ.q), rfl, fun e' he => by cases he; rfl, fun h => (by cases h)⟩
  | none =>
    obtain ⟨x, hx, rfl⟩ := h
    exact ⟨x, rfl, fun e' he => (by cases he), fun _ => hx⟩
section
variable {ρ : Env} {A : List As} {h h' : Tr (Blk Sy)} {nx nx' : Nat} {R W : List Nat} {r : Ren} {w : World}
theorem cel_inj {x y : Tri} (h : cel x = cel y) : x = y := by
  obtain ⟨a, s, t⟩ := x
  obtain ⟨b, u, v⟩ := y
  simp only [cel, List.cons.injEq, Value.bool.injEq, Value.string.injEq, and_true] at h
  obtain ⟨rfl, rfl, rfl⟩ := h
  rfl
theorem eq3_ok (hA : AllH ρ A) {l m l' m' : List Value} {b : Option Bool} (e : eq3 A l m h nx = .ok b h' nx' R W) (hl : VsR r l l') (hm : VsR r m m') (hM : Mod (symSig ρ) r h.get w) :
    h' = h ∧ nx' = nx ∧ W = [] ∧ ∃ x y : Tri, l' = cel x ∧ m' = cel y ∧ ∀ t, b = some t → t = tbeq x y := by
  obtain ⟨o, h1, nx1, R1, W1, R2, W2, q1, q2, rfl, rfl⟩ := bind_ok e
  obtain ⟨rfl, rfl, rfl, i1⟩ := frcV_ok q1 hl hM
  obtain ⟨p, h2, nx2, R3, W3, R4, W4, q3, q4, rfl, rfl⟩ := bind_ok q2
  obtain ⟨rfl, rfl, rfl, i2⟩ := frcV_ok q3 hm hM
  obtain ⟨rfl, rfl, rfl, rfl⟩ := ret_ok q4
  obtain ⟨x, rfl, x1, x2⟩ := frc_tri i1
  obtain ⟨y, rfl, y1, y2⟩ := frc_tri i2
  refine ⟨rfl, rfl, by simp, x, y, rfl, rfl, fun t ht => ?_⟩
  have neg : x ≠ y → tbeq x y = false := fun hn => by
    cases hb : tbeq x y with
    | false => rfl
    | true => exact absurd (tbeq_iff.1 hb) hn
  unfold sameO at ht
  cases o with
  | some e0 =>
    have hx := x1 e0 rfl
    cases p with
    | some f =>
      have hy := y1 f rfl
      simp only at ht
      cases hb : e0.beq f with
      | true =>
        rw [hb] at ht
        cases ht
        rw [hx, hy, Qe.beq_ok _ _ hb]
        exact (tbeq_iff.2 rfl).symm
      | false =>
        rw [hb] at ht
        have hs := ask_same hA ht
        cases t with
        | true => rw [hx, hy, hs.1 rfl]; exact (tbeq_iff.2 rfl).symm
        | false =>
          refine (neg fun h => ?_).symm
          rw [hx, hy] at h
          have := hs.2 (tri_inj h)
          cases this
    | none =>
      simp only at ht
      cases hf : fitB A e0 with
      | none => rw [hf] at ht; cases ht
      | some u =>
        rw [hf] at ht
        cases u with
        | false => cases ht
        | true =>
          cases ht
          refine (neg fun h => ?_).symm
          have hbad := y2 rfl
          rw [← h, hx] at hbad
          exact not_bad ((fitB_ok hA hf).1 rfl) hbad
  | none =>
    cases p with
    | some f =>
      have hy := y1 f rfl
      simp only at ht
      cases hf : fitB A f with
      | none => rw [hf] at ht; cases ht
      | some u =>
        rw [hf] at ht
        cases u with
        | false => cases ht
        | true =>
          cases ht
          refine (neg fun h => ?_).symm
          have hbad := x2 rfl
          rw [h, hy] at hbad
          exact not_bad ((fitB_ok hA hf).1 rfl) hbad
    | none =>
      simp only at ht
      cases hk : (eqL eq1 l m && plainL plain l) with
      | false => rw [hk] at ht; cases ht
      | true =>
        rw [hk] at ht
        cases ht
        simp only [Bool.and_eq_true] at hk
        have e1 := eqL_ok eq1_ok hk.1
        subst e1
        have e2 := hl.eq_of_plain hk.2
        have e3 := hm.eq_of_plain hk.2
        rw [← e2] at e3
        rw [cel_inj e3]
        exact (tbeq_iff.2 rfl).symm
theorem run_eqs (op : BinOp) (t : TypeId) (x y : Operand) (cs ds : Array Value) (b : Bool) (v : Value) (hm : Tryz.prog.eqGuardType Tryz.prog.depth t = false) (he : (Op.equalIn 10000 t (.agg cs) (.agg ds)).run Tryz.prog w = .ok b w) (hv : (op = .eql ∧ v = .bool b) ∨ (op = .neq ∧ v = .bool (!b))) :
    (do eqGuard op t x y (.agg cs) (.agg ds); binOp op t (.agg cs) (.agg ds) : Sem Value).run Tryz.prog w = .ok v w := by
  have hg := run_eqGuard_agg (P := Tryz.prog) w op t x y cs ds hm
  have he' : (Op.equal t (.agg cs) (.agg ds)).run Tryz.prog w = .ok b w := he
  rcases hv with ⟨rfl, rfl⟩ | ⟨rfl, rfl⟩
  · rw [Sem.run_bind, hg]
    simp [binOp, he']
  · rw [Sem.run_bind, hg]
    simp [binOp, he']
theorem ansEq_ok {op : BinOp} {b : Option Bool} {x : Nxt} (e : ansEq op b h nx = .ok x h' nx' R W) : h' = h ∧ nx' = nx ∧ W = [] ∧ ∃ t v, b = some t ∧ x = .val v ∧ ((op = .eql ∧ v = .bool t) ∨ (op = .neq ∧ v = .bool (!t))) := by
  unfold ansEq at e
  cases b with
  | none => cases (show (fail : M Sy Nxt) h nx = _ from e)
  | some t =>
    cases op with
    | eql =>
      obtain ⟨rfl, rfl, rfl, rfl⟩ := val_ok (show (val (.bool t) : M Sy Nxt) h nx = _ from e)
      exact ⟨rfl, rfl, rfl, t, _, rfl, rfl, .inl ⟨rfl, rfl⟩⟩
    | neq =>
      obtain ⟨rfl, rfl, rfl, rfl⟩ := val_ok (show (val (.bool (!t)) : M Sy Nxt) h nx = _ from e)
      exact ⟨rfl, rfl, rfl, t, _, rfl, rfl, .inr ⟨rfl, rfl⟩⟩
    | _ => cases (show (fail : M Sy Nxt) h nx = _ from e)
theorem eqHard_ok (hA : AllH ρ A) {C : Cfg Sy} (hC : C.hard = eqHard A) : HardOK (symSig ρ) Tryz.prog C := by
  intro o vs h nx x h' nx' R W hs e r w ρo hM hN hv
  rw [hC] at e
  unfold eqHard at e
  cases hop : o.op with
  | binOp op t p q yt =>
    rw [hop] at e
    simp only at e
    have hops : o.op.operands.toList.map ρo = [ρo p, ρo q] := by rw [hop]; rfl
    rw [hops] at hv
    rcases vs with _ | ⟨u, _ | ⟨v, _ | ⟨z, l⟩⟩⟩ <;> first | (cases (show (fail : M Sy Nxt) h nx = _ from e); done) | skip
    cases hv with
    | cons hu hv => cases hv with
      | cons hv hn =>
        cases u <;> first | (cases (show (fail : M Sy Nxt) h nx = _ from e); done) | skip
        rename_i cs
        cases v <;> first | (cases (show (fail : M Sy Nxt) h nx = _ from e); done) | skip
        rename_i ds
        obtain ⟨cl⟩ := cs
        obtain ⟨dl⟩ := ds
        obtain ⟨cl', hc1, hc2⟩ := vr_agg hu
        obtain ⟨dl', hd1, hd2⟩ := vr_agg hv
        simp only at e
        have fin : ∀ {b : Bool} {v : Value}, (Op.equalIn 10000 t (.agg ⟨cl'⟩) (.agg ⟨dl'⟩)).run Tryz.prog w = .ok b w → Tryz.prog.eqGuardType Tryz.prog.depth t = false → ((op = .eql ∧ v = .bool b) ∨ (op = .neq ∧ v = .bool (!b))) →
            (execOp ρo o).run Tryz.prog w = .ok (.value v) w := fun he hm hv => by
          have := run_eqs op t p q ⟨cl'⟩ ⟨dl'⟩ _ _ hm he hv
          simp only [execOp, hop, hc1, hd1]
          rw [Sem.run_bind, this]
          rfl
        unfold eqCells at e
        cases ht : Nat.beq t 23 with
        | true =>
          rw [ht] at e
          simp only [cond_true] at e
          have htt := Nat.eq_of_beq_eq_true ht
          obtain ⟨b, h1, nx1, R1, W1, R2, W2, e1, e2, rfl, rfl⟩ := bind_ok e
          obtain ⟨rfl, rfl, rfl, x1, y1, rfl, rfl, hb⟩ := eq3_ok hA e1 hc2 hd2 hM
          obtain ⟨rfl, rfl, rfl, t1, v1, rfl, rfl, hv1⟩ := ansEq_ok e2
          have := hb t1 rfl
          subst this
          refine ⟨Nat.le_refl _, v1, w, r, fin (by rw [htt]; exact eqIn_frac 9998 x1 y1 w) (by rw [htt]; kernel_rfl) hv1, ?_, by simpa using Ext.refl _ _ hM⟩
          rcases hv1 with ⟨_, rfl⟩ | ⟨_, rfl⟩ <;> exact .same rfl
        | false =>
          rw [ht] at e
          simp only [cond_false] at e
          cases ht2 : Nat.beq t 47 with
          | false => rw [ht2] at e; cases (show (fail : M Sy Nxt) h nx = _ from e)
          | true =>
            rw [ht2] at e
            simp only [cond_true] at e
            have htt := Nat.eq_of_beq_eq_true ht2
            obtain ⟨b, h1, nx1, R1, W1, R2, W2, e1, e2, rfl, rfl⟩ := bind_ok e
            obtain ⟨rfl, rfl, rfl, x1, y1, hx1, hy1, hb⟩ := eq3_ok hA e1 (hc2.take 3) (hd2.take 3) hM
            obtain ⟨c, h2, nx2, R3, W3, R4, W4, e3, e4, rfl, rfl⟩ := bind_ok e2
            obtain ⟨rfl, rfl, rfl, x2, y2, hx2, hy2, hc⟩ := eq3_ok hA e3 (hc2.drop 3) (hd2.drop 3) hM
            obtain ⟨rfl, rfl, rfl, t1, v1, ht1, rfl, hv1⟩ := ansEq_ok e4
            have := three_ok hb hc ht1
            subst this
            have z1 : cl' = cel x1 ++ cel x2 := by rw [← hx1, ← hx2, List.take_append_drop]
            have z2 : dl' = cel y1 ++ cel y2 := by rw [← hy1, ← hy2, List.take_append_drop]
            refine ⟨Nat.le_refl _, v1, w, r, fin (by rw [htt, z1, z2]; exact eqIn_gauss 9997 x1 x2 y1 y2 w) (by rw [htt]; kernel_rfl) hv1, ?_, by simpa using Ext.refl _ _ hM⟩
            rcases hv1 with ⟨_, rfl⟩ | ⟨_, rfl⟩ <;> exact .same rfl
  | _ => rw [hop] at e; cases (show (fail : M Sy Nxt) h nx = _ from e)
end
end Ev
end Go.Proofs.YthjofdfnppadnaaGreatDoor
namespace Go.Proofs.YthjofdfnppadnaaGreatDoor
open Go Go.RowKit
namespace Ev
structure Ps where
  a : Qe
  b : Qe
  t : Bool
def Ps.holds (ρ : Nat → Rat) (x : Ps) : Prop := x.t = true ↔ (Fit (x.a.ev ρ) ∧ Fit (x.b.ev ρ))
def AllP (ρ : Env) (B : List Ps) : Prop := ∀ x ∈ B, x.holds ρ.q
noncomputable def askP (B : List Ps) (a b : Qe) : Option Bool := List.rec (motive := fun _ => Option Bool) none
  (fun x _ ih => Bool.rec (motive := fun _ => Option Bool) ih (some x.t) (a.beq x.a && b.beq x.b)) B
theorem askP_ok {ρ : Env} {a b : Qe} {t : Bool} : ∀ {B : List Ps}, AllP ρ B → askP B a b = some t → (t = true ↔ (Fit (a.ev ρ.q) ∧ Fit (b.ev ρ.q)))
  | [], _, h => by cases h
  | x :: B, hB, h => by
    have h' : (Bool.rec (motive := fun _ => Option Bool) (askP B a b) (some x.t) (a.beq x.a && b.beq x.b) : Option Bool) = some t := h
    cases hb : (a.beq x.a && b.beq x.b) with
    | false => rw [hb] at h'; exact askP_ok (fun y hy => hB y (List.mem_cons_of_mem _ hy)) h'
    | true =>
      rw [hb] at h'
      simp only [Bool.and_eq_true] at hb
      have hx := hB x List.mem_cons_self
      rw [Qe.beq_ok _ _ hb.1, Qe.beq_ok _ _ hb.2, ← Option.some.inj h']
      exact hx
noncomputable def inP (B : List Ps) (a : Qe) : Bool := List.rec (motive := fun _ => Bool) false (fun x _ ih => (x.t && (a.beq x.a || a.beq x.b)) || ih) B
theorem inP_ok {ρ : Env} {a : Qe} : ∀ {B : List Ps}, AllP ρ B → inP B a = true → Fit (a.ev ρ.q)
  | [], _, h => by cases h
  | x :: B, hB, h => by
    have h' : ((x.t && (a.beq x.a || a.beq x.b)) || inP B a) = true := h
    simp only [Bool.or_eq_true, Bool.and_eq_true] at h'
    rcases h' with ⟨h1, h2⟩ | h1
    · have hx := (hB x List.mem_cons_self).1 h1
      rcases h2 with h2 | h2
      · rw [Qe.beq_ok _ _ h2]; exact hx.1
      · rw [Qe.beq_ok _ _ h2]; exact hx.2
    · exact inP_ok (fun y hy => hB y (List.mem_cons_of_mem _ hy)) h1
noncomputable def fitT (B : List Ps) (e : Qe) : Bool := match e with
  | .v i => Nat.ble i 99
  | .c _ n d => fitC n d
  | e => inP B e
theorem fitT_ok {ρ : Env} {B : List Ps} (hB : AllP ρ B) {e : Qe} (h : fitT B e = true) : Fit (e.ev ρ.q) := by
  unfold fitT at h
  cases e with
  | v i => exact ρ.fit i (Nat.lt_succ_of_le (Nat.le_of_ble_eq_true h))
  | c s n d => exact fit_c h
  | _ => exact inP_ok hB h
noncomputable def both (o p : Option Qe) : Option (Qe × Qe) := match o with
  | some e => match p with
    | some f => some (e, f)
    | none => none
  | none => none
noncomputable def gss (l : List Value) : M Sy (Option (Qe × Qe)) := bind (frcV (l.take 3)) fun o => bind (frcV (l.drop 3)) fun p => ret (both o p)
theorem loc_gss (l : List Value) : Loc (gss l) := loc_bind (loc_frcV _) fun _ => loc_bind (loc_frcV _) fun _ => loc_ret _
def GssIs (ρ : Env) (l' : List Value) : Option (Qe × Qe) → Prop
  | some p => l' = cel (tri (p.1.ev ρ.q)) ++ cel (tri (p.2.ev ρ.q))
  | none => ∃ x y : Tri, (BadF x ∨ BadF y) ∧ l' = cel x ++ cel y
section
variable {ρ : Env} {A : List As} {B : List Ps} {h h' : Tr (Blk Sy)} {nx nx' : Nat} {R W : List Nat} {r : Ren} {w : World}
theorem gss_ok {l l' : List Value} {o : Option (Qe × Qe)} (e : gss l h nx = .ok o h' nx' R W) (hv : VsR r l l') (hM : Mod (symSig ρ) r h.get w) : h' = h ∧ nx' = nx ∧ W = [] ∧ GssIs ρ l' o := by
  obtain ⟨o1, h1, nx1, R1, W1, R2, W2, q1, q2, rfl, rfl⟩ := bind_ok e
  obtain ⟨rfl, rfl, rfl, i1⟩ := frcV_ok q1 (hv.take 3) hM
  obtain ⟨p, h2, nx2, R3, W3, R4, W4, q3, q4, rfl, rfl⟩ := bind_ok q2
  obtain ⟨rfl, rfl, rfl, i2⟩ := frcV_ok q3 (hv.drop 3) hM
  obtain ⟨rfl, rfl, rfl, rfl⟩ := ret_ok q4
  obtain ⟨x, hx, x1, x2⟩ := frc_tri i1
  obtain ⟨y, hy, y1, y2⟩ := frc_tri i2
  have hl : l' = cel x ++ cel y := by rw [← hx, ← hy, List.take_append_drop]
  refine ⟨rfl, rfl, by simp, ?_⟩
  cases o1 with
  | none => exact ⟨x, y, .inl (x2 rfl), hl⟩
  | some e1 =>
    cases p with
    | none => exact ⟨x, y, .inr (y2 rfl), hl⟩
    | some f1 =>
      show l' = _
      rw [hl, x1 e1 rfl, y1 f1 rfl]
noncomputable def errG (n : Int) : Value := .tuple ⟨[gZ, .int .i64 n]⟩
noncomputable def ansG (B : List Ps) (p : Qe × Qe) : M Sy Value := match askP B p.1 p.2 with
  | some t => cond t (bind (newFacts (frs p.1 ++ frs p.2)) fun vs => ret (.tuple ⟨[.agg ⟨vs⟩, .int .i64 0]⟩)) (ret (errG 3))
  | none => fail
theorem loc_ansG (B : List Ps) (p : Qe × Qe) : Loc (ansG B p) := by
  unfold ansG
  split
  · exact loc_cond (loc_bind (loc_newFacts _) fun _ => loc_ret _) (loc_ret _)
  · exact loc_fail
theorem frs_holds (w : World) (e : Qe) : HoldsL (symSig ρ) w (frs e) (cel (tri (e.ev ρ.q))) := frac_holds (w := w) e
theorem ansG_ok (hB : AllP ρ B) {p : Qe × Qe} {f : FuncId} {args' : List Value} {v : Value} (e : ansG B p h nx = .ok v h' nx' R W) (hM : Mod (symSig ρ) r h.get w) (hN : New r nx nx') (c : Calls Tryz.prog f ⟨args'⟩ w (GRes w (p.1.ev ρ.q) (p.2.ev ρ.q))) : GoesS ρ f args' r w nx nx' W h'.get v := by
  unfold ansG at e
  cases ha : askP B p.1 p.2 with
  | none => rw [ha] at e; exact absurd e (by simp [fail])
  | some t =>
    rw [ha] at e
    have hf := askP_ok hB ha
    cases t with
    | true =>
      simp only [cond_true] at e
      exact goes_aggT rfl e hM hN (c.mono fun _ w' hh => by
        obtain ⟨h1 | h1, h2⟩ := hh
        · exact ⟨_, h1.2, holdsL_append (frs_holds w' p.1) (frs_holds w' p.2), h2⟩
        · exact absurd (hf.1 rfl) h1.1)
    | false =>
      simp only [cond_false] at e
      exact goes_pl e rfl hM (c.mono fun _ w' hh => by
        obtain ⟨h1 | h1, h2⟩ := hh
        · have := hf.2 h1.1
          cases this
        · exact ⟨h1.2, h2⟩)
noncomputable def gans2 (B : List Ps) (k : Qe × Qe → Qe × Qe → Qe × Qe) (x y : Option (Qe × Qe)) : M Sy Value := match x with
  | some x => match y with
    | some y => cond ((fitT B x.1 && fitT B x.2) && (fitT B y.1 && fitT B y.2)) (ansG B (k x y)) fail
    | none => ret (errG 2)
  | none => ret (errG 2)
noncomputable def gop2 (g : Option (Qe × Qe) → Option (Qe × Qe) → M Sy Value) (args : List Value) : Option (M Sy Value) := match args with
  | [a, b] => match a with
    | .agg cs => match b with
      | .agg ds => some (bind (gss cs.toList) fun x => bind (gss ds.toList) fun y => g x y)
      | _ => none
    | _ => none
  | _ => none
theorem gop2_ok {f : FuncId} {g : Option (Qe × Qe) → Option (Qe × Qe) → M Sy Value} (hl : ∀ x y, Loc (g x y))
    (hk : ∀ x y (h : Tr (Blk Sy)) nx v h' nx' R W, g x y h nx = .ok v h' nx' R W → ∀ r w l m, GssIs ρ l x → GssIs ρ m y → Mod (symSig ρ) r h.get w → New r nx nx' → GoesS ρ f [.agg ⟨l⟩, .agg ⟨m⟩] r w nx nx' W h'.get v) :
    SumF (symSig ρ) Tryz.prog f (gop2 g) := by
  intro args m e
  unfold gop2 at e
  rcases args with _ | ⟨a, _ | ⟨b, _ | ⟨c, l⟩⟩⟩ <;> simp only [reduceCtorEq] at e
  cases a <;> simp only [reduceCtorEq] at e
  rename_i cs
  cases b <;> simp only [reduceCtorEq, Option.some.injEq] at e
  rename_i ds
  subst e
  refine ⟨loc_bind (loc_gss _) fun x => loc_bind (loc_gss _) fun y => hl x y, ?_⟩
  intro h nx v h' nx' R W e r w args' ha hM hN
  cases ha with
  | cons ha1 ha2 =>
    cases ha2 with
    | cons hb1 hb2 =>
      cases hb2
      obtain ⟨cl⟩ := cs
      obtain ⟨dl⟩ := ds
      obtain ⟨cl', rfl, hc⟩ := vr_agg ha1
      obtain ⟨dl', rfl, hd⟩ := vr_agg hb1
      obtain ⟨x, h1, nx1, R1, W1, R2, W2, e1, e2, rfl, rfl⟩ := bind_ok e
      obtain ⟨rfl, rfl, rfl, hx⟩ := gss_ok e1 hc hM
      obtain ⟨y, h2, nx2, R3, W3, R4, W4, e3, e4, rfl, rfl⟩ := bind_ok e2
      obtain ⟨rfl, rfl, rfl, hy⟩ := gss_ok e3 hd hM
      simpa [GoesS] using hk x y _ _ _ _ _ _ _ e4 r w _ _ hx hy hM hN
theorem mod_G {F : Type} {S : Sig F} {g : Nat → Option (Blk F)} (hM : Mod S r g w) (hG : S.G = Tryz.prog.globals.size) : Tryz.prog.globals.size ≤ w.heap.size := by
  rcases Nat.eq_zero_or_pos Tryz.prog.globals.size with h0 | h0
  · omega
  · have := hM.lt _ _ (hM.glob (Tryz.prog.globals.size - 1) (by rw [hG]; omega))
    omega
theorem loc_gans2 (k : Qe × Qe → Qe × Qe → Qe × Qe) (x y : Option (Qe × Qe)) : Loc (gans2 B k x y) := by
  unfold gans2
  (repeat' split) <;> first | exact loc_ret _ | exact loc_cond (loc_ansG _ _) loc_fail
theorem gsum2 (hB : AllP ρ B) {f : FuncId} {k : Qe × Qe → Qe × Qe → Qe × Qe}
    (hok : ∀ (w : World) (x y : Qe × Qe), Fit (x.1.ev ρ.q) → Fit (x.2.ev ρ.q) → Fit (y.1.ev ρ.q) → Fit (y.2.ev ρ.q) → Tryz.prog.globals.size ≤ w.heap.size → Tab w → Calls Tryz.prog f ⟨[gV (x.1.ev ρ.q) (x.2.ev ρ.q), gV (y.1.ev ρ.q) (y.2.ev ρ.q)]⟩ w (GRes w ((k x y).1.ev ρ.q) ((k x y).2.ev ρ.q)))
    (hbad : ∀ (w : World) (x y z u : Tri), (BadF x ∨ BadF y ∨ BadF z ∨ BadF u) → Tryz.prog.globals.size ≤ w.heap.size → Tab w → Calls Tryz.prog f ⟨[.agg ⟨cel x ++ cel y⟩, .agg ⟨cel z ++ cel u⟩]⟩ w (GErr w 2)) :
    SumF (symSig ρ) Tryz.prog f (gop2 (gans2 B k)) :=
  gop2_ok (fun x y => loc_gans2 k x y) fun x y h nx v h' nx' R W e r w l m hx hy hM hN => by
    have hG := mod_G hM rfl
    have hT : Tab w := hM.base
    unfold gans2 at e
    cases x with
    | none =>
      obtain ⟨x1, x2, hb, rfl⟩ := hx
      cases y with
      | none =>
        obtain ⟨y1, y2, hb2, rfl⟩ := hy
        exact goes_pl e rfl hM (hbad w _ _ _ _ (by rcases hb with hb | hb; exact .inl hb; exact .inr (.inl hb)) hG hT)
      | some y =>
        obtain rfl : m = _ := hy
        exact goes_pl e rfl hM (hbad w _ _ _ _ (by rcases hb with hb | hb; exact .inl hb; exact .inr (.inl hb)) hG hT)
    | some x =>
      obtain rfl : l = _ := hx
      cases y with
      | none =>
        obtain ⟨y1, y2, hb, rfl⟩ := hy
        exact goes_pl e rfl hM (hbad w _ _ _ _ (by rcases hb with hb | hb; exact .inr (.inr (.inl hb)); exact .inr (.inr (.inr hb))) hG hT)
      | some y =>
        obtain rfl : m = _ := hy
        simp only at e
        obtain ⟨hf, e⟩ := cond_ok e
        simp only [Bool.and_eq_true] at hf
        exact ansG_ok hB e hM hN (hok w x y (fitT_ok hB hf.1.1) (fitT_ok hB hf.1.2) (fitT_ok hB hf.2.1) (fitT_ok hB hf.2.2) hG hT)
end
end Ev
end Go.Proofs.YthjofdfnppadnaaGreatDoor
namespace Go.Proofs.YthjofdfnppadnaaGreatDoor
open Go Go.RowKit
namespace Ev
set_option maxRecDepth 100000
theorem mul_bad : ∀ a b c d : Bool, (a && b && c && d) = false → run2 [] (inp4 a b c d) 44 = some (noD 2) := by
  intro a b c d
  cases a <;> cases b <;> cases c <;> cases d <;> intro h <;> first | (cases h; done) | kernel_rfl
noncomputable def kAdd (x y : Qe × Qe) : Qe × Qe := (.add x.1 y.1, .add x.2 y.2)
noncomputable def kSub (x y : Qe × Qe) : Qe × Qe := (.sub x.1 y.1, .sub x.2 y.2)
noncomputable def kMul (x y : Qe × Qe) : Qe × Qe := (.sub (.mul x.1 y.1) (.mul x.2 y.2), .add (.mul x.1 y.2) (.mul x.2 y.1))
section
variable {ρ : Env} {A : List As} {B : List Ps}
theorem lsum_mul (hB : AllP ρ B) : SumF (symSig ρ) Tryz.prog 44 (gop2 (gans2 B kMul)) :=
  gsum2 hB (fun w x y h1 h2 h3 h4 hG hT => ga2 mul_run w h1 h2 h3 h4 hG hT) (fun w x y z u h hG hT => ga2_bad mul_bad w x y z u h hG hT)
end
noncomputable def withF (l : List Fact) (s : Sums Sy) : Sums Sy := fun f args => match look f args l with
  | some v => some (ret v)
  | none => s f args
theorem withF_ok {ρ : Env} {l : List Fact} (hl : ∀ x ∈ l, x.ok) {s : Sums Sy} (hs : SumOK (symSig ρ) Tryz.prog s) : SumOK (symSig ρ) Tryz.prog (withF l s) := by
  refine ⟨fun f args m e => ?_, fun f args m e h nx v h' nx' R W hr r w args' ha hM hN => ?_⟩
  · unfold withF at e
    cases hk : look f args l with
    | none => rw [hk] at e; exact hs.loc f args m e
    | some v => rw [hk] at e; cases e; exact loc_ret _
  · unfold withF at e
    cases hk : look f args l with
    | none => rw [hk] at e; exact hs.run f args m e h nx v h' nx' R W hr r w args' ha hM hN
    | some u =>
      rw [hk] at e
      cases e
      obtain ⟨x, hx, rfl, rfl, rfl⟩ := look_ok hk
      obtain ⟨h1, h2, h3⟩ := hl x hx
      obtain rfl : args' = x.args := VsR_eq h1 ha
      exact goes_pl hr.ok h2 hM (h3 w (mod_G hM rfl) hM.base)
noncomputable def works2 : Fact := ⟨41, [], .bool true⟩
theorem works2_ok : works2.ok := Fact.of_run (n := 40) (by kernel_rfl) rfl
end Ev
end Go.Proofs.YthjofdfnppadnaaGreatDoor
namespace Go.Proofs.YthjofdfnppadnaaGreatDoor
open Go Go.RowKit
namespace Ev
set_option maxRecDepth 100000
noncomputable def nrm (x : Qe × Qe) : Qe := .add (.mul x.1 x.1) (.mul x.2 x.2)
noncomputable def w0 : Qe × Qe := (v0, v1)
noncomputable def w1 : Qe × Qe := (v2, v3)
noncomputable def kQuo (x y : Qe × Qe) : Qe × Qe := (.quo (.sub (.mul x.1 y.1) (.mul x.2 (.neg y.2))) (nrm y), .quo (.add (.mul x.1 (.neg y.2)) (.mul x.2 y.1)) (nrm y))
noncomputable def signs (n2 g2 n3 g3 : Bool) : List As := [⟨1, v2, z0, n2⟩, ⟨3, v2, z0, g2⟩, ⟨1, v3, z0, n3⟩, ⟨3, v3, z0, g3⟩]
noncomputable def qTab (s t n2 g2 n3 g3 : Bool) : List As := fits (kQuo w0 w1).1 (kQuo w0 w1).2 s t ++ (⟨1, nrm w1, z0, false⟩ :: signs n2 g2 n3 g3)
theorem quo_run : ∀ s t n2 g2 n3 g3 : Bool, (n2 && n3) = false → run2 (qTab s t n2 g2 n3 g3) (inp4 true true true true) 33 = some (andD s t (kQuo w0 w1).1 (kQuo w0 w1).2) := by
  intro s t n2 g2 n3 g3
  cases n2 <;> cases n3 <;> intro h <;> first | (cases h; done) | (cases s <;> cases t <;> cases g2 <;> cases g3 <;> kernel_rfl)
section
variable {ρ : Env} {w : World} {v : Value}
end
theorem in2_holds {a b : Rat} (ha : Fit a) (hb : Fit b) (c d : Rat) (hc : Fit c) (hd : Fit d) (w : World) : HoldsL (symSig (envOf a b c d ha hb hc hd)) w (inp true 0 ++ inp true 1) (cel (tri a) ++ cel (tri b)) :=
  holdsL_append (inp_holds (fun _ => rfl) (fun h => (by cases h))) (inp_holds (fun _ => rfl) (fun h => (by cases h)))
theorem fit_zero : Fit 0 := ⟨by decide, by decide⟩
theorem sq_nonneg (c : Rat) : 0 ≤ c * c := by
  rcases Rat.le_total (a := 0) (b := c) with h | h
  · exact Rat.mul_nonneg h h
  · have h1 : 0 ≤ -c := by grind
    have h2 := Rat.mul_nonneg h1 h1
    grind
theorem sq_zero {c d : Rat} (h : c * c + d * d = 0) : c = 0 ∧ d = 0 := by
  have h1 := sq_nonneg c
  have h2 := sq_nonneg d
  have z1 : c * c = 0 := by grind
  have z2 : d * d = 0 := by grind
  exact ⟨by rcases Rat.mul_eq_zero.1 z1 with h | h <;> exact h, by rcases Rat.mul_eq_zero.1 z2 with h | h <;> exact h⟩
theorem zero_bool (q : Rat) : ∃ s : Bool, s = true ↔ q = 0 := ⟨decide (q = 0), decide_eq_true_iff⟩
theorem signs_hold {ρ : Env} {n2 n3 : Bool} (h2 : n2 = true ↔ v2.ev ρ.q = 0) (h3 : n3 = true ↔ v3.ev ρ.q = 0) : AllH ρ (signs n2 (Big.ng (v2.ev ρ.q)) n3 (Big.ng (v3.ev ρ.q))) := fun x hx => by
  simp only [signs, List.mem_cons, List.not_mem_nil, or_false] at hx
  rcases hx with rfl | rfl | rfl | rfl
  · exact h2
  · exact (rfl : Big.ng (v2.ev ρ.q) = _)
  · exact h3
  · exact (rfl : Big.ng (v3.ev ρ.q) = _)
theorem quo_any (w : World) {a b c d : Rat} (ha : Fit a) (hb : Fit b) (hc : Fit c) (hd : Fit d) (h0 : ¬ (c = 0 ∧ d = 0)) (hG : Tryz.prog.globals.size ≤ w.heap.size) (hT : Tab w) :
    Calls Tryz.prog 33 ⟨[gV a b, gV c d]⟩ w (GRes w ((a * c - b * -d) / (c * c + d * d)) ((a * -d + b * c) / (c * c + d * d))) := by
  obtain ⟨s, hs⟩ := fit_bool ((a * c - b * -d) / (c * c + d * d))
  obtain ⟨t, ht⟩ := fit_bool ((a * -d + b * c) / (c * c + d * d))
  obtain ⟨n2, h2⟩ := zero_bool c
  obtain ⟨n3, h3⟩ := zero_bool d
  have hn : (n2 && n3) = false := by
    cases n2 with
    | false => rfl
    | true => cases n3 with
      | false => rfl
      | true => exact absurd ⟨h2.1 rfl, h3.1 rfl⟩ h0
  have hA : AllH (envOf a b c d ha hb hc hd) (qTab s t n2 (Big.ng c) n3 (Big.ng d)) := fun x hx => by
    simp only [qTab, List.mem_append, List.mem_cons] at hx
    rcases hx with hx | rfl | hx
    · exact fits_hold (ρ := envOf a b c d ha hb hc hd) (e := (kQuo w0 w1).1) (f := (kQuo w0 w1).2) hs ht x hx
    · exact ⟨fun h => (by cases h), fun h => absurd (sq_zero h) h0⟩
    · exact signs_hold (ρ := envOf a b c d ha hb hc hd) h2 h3 x hx
  have hu : HoldsL (symSig (envOf a b c d ha hb hc hd)) w (inp4 true true true true) (cel (tri a) ++ (cel (tri b) ++ (cel (tri c) ++ cel (tri d)))) :=
    holdsL_append (inp_holds (fun _ => rfl) (fun h => (by cases h))) (holdsL_append (inp_holds (fun _ => rfl) (fun h => (by cases h))) (holdsL_append (inp_holds (fun _ => rfl) (fun h => (by cases h))) (inp_holds (fun _ => rfl) (fun h => (by cases h)))))
  refine (tells_calls (symFits _) (symSums_ok hA) (quo_run s t n2 _ n3 _ hn) rfl glob_few hu hG hT).mono ?_
  rintro e w' ⟨v', rfl, hv, hb'⟩
  refine ⟨?_, hb'⟩
  unfold andD at hv
  cases s with
  | true => cases t with
    | true => exact .inl ⟨⟨hs.1 rfl, ht.1 rfl⟩, by rw [okD_is hv]; rfl⟩
    | false => exact .inr ⟨fun h => (by have := ht.2 h.2; cases this), by rw [noD_is hv]⟩
  | false => exact .inr ⟨fun h => (by have := hs.2 h.1; cases this), by rw [noD_is hv]⟩
end Ev
end Go.Proofs.YthjofdfnppadnaaGreatDoor
namespace Go.Proofs.YthjofdfnppadnaaGreatDoor
open Go Go.RowKit
namespace Ev
set_option maxRecDepth 100000
noncomputable def prt (e : Qe) : List Sy := [.ng e, .nu e, .de e]
noncomputable def seenN (e : Qe) : List (D1 Sy) := [.f (.ng e), .f (.nu e), .f (.de e)]
noncomputable def b0 : Qe := .v 100
noncomputable def b1 : Qe := .v 101
noncomputable def b2 : Qe := .v 102
noncomputable def b3 : Qe := .v 103
noncomputable def kM2 (x y : Qe × Qe) : Qe × Qe := (.sub (.mul x.1 y.1) (.mul x.2 y.2), .add (.mul x.1 y.2) (.mul x.2 y.1))
noncomputable def cxD (x : Qe × Qe) : D2 Sy := .agg (seenN x.1 ++ seenN x.2)
theorem cmul_run : tells ((prt b0 ++ prt b1) ++ (prt b2 ++ prt b3)) [.agg 6, .agg 6] (call Tryz.prog symC (symSums []) 60 92) = some (.one (cxD (kM2 (b0, b1) (b2, b3)))) := by kernel_rfl
theorem cquo_run : tells ((prt b0 ++ prt b1) ++ (prt b2 ++ prt b3)) [.agg 6, .agg 6] (call Tryz.prog symC (symSums [⟨1, nrm (b2, b3), z0, false⟩]) 60 90) = some (.one (cxD (kQuo (b0, b1) (b2, b3)))) := by kernel_rfl
theorem cread_run : run1 [] (inp true 0 ++ inp true 1) 91 = some (.tuple [cxD (v0, v1), .one (.p (.bool true))]) := by kernel_rfl
theorem answer_run (s t : Bool) : tells (prt b0 ++ prt b1) [.agg 6] (call Tryz.prog symC (symSums (fits b0 b1 s t)) 60 94) = some (andD s t b0 b1) := by
  cases s <;> cases t <;> kernel_rfl
theorem nought_run (n2 g2 n3 g3 : Bool) : tells (prt v2 ++ prt v3) [.agg 6] (call Tryz.prog symC (symSums (signs n2 g2 n3 g3)) 60 89) = some (.one (.one (.p (.bool (n2 && n3))))) := by
  cases n2 <;> cases g2 <;> cases n3 <;> cases g3 <;> kernel_rfl
def CxIn (w : World) (v : Value) (p : Rat × Rat) : Prop := ∃ a b c d, v = .agg ⟨[.bool (Big.ng p.1), a, b, .bool (Big.ng p.2), c, d]⟩ ∧ NatIn w a (Big.nu p.1) ∧ NatIn w b (Big.de p.1) ∧ NatIn w c (Big.nu p.2) ∧ NatIn w d (Big.de p.2)
section
variable {ρ : Env} {w : World} {v : Value}
theorem cxD_is {x : Qe × Qe} (h : (cxD x).is (symSig ρ) w v) : CxIn w v (x.1.ev ρ.q, x.2.ev ρ.q) := by
  obtain ⟨vs, rfl, v1, u1, rfl, h1, v2, u2, rfl, h2, v3, u3, rfl, h3, v4, u4, rfl, h4, v5, u5, rfl, h5, v6, u6, rfl, h6, h7⟩ := h
  obtain rfl : u6 = [] := h7
  exact ⟨v2, v3, v5, v6, by rw [show v1 = _ from h1, show v4 = _ from h4], h2, h3, h5, h6⟩
theorem cx_holds {p : Rat × Rat} (h : CxIn w v p) {x : Qe × Qe} (hx : x.1.ev ρ.q = p.1) (hy : x.2.ev ρ.q = p.2) : ∃ us, v = .agg ⟨us⟩ ∧ us.length = 6 ∧ HoldsL (symSig ρ) w (prt x.1 ++ prt x.2) us := by
  obtain ⟨a, b, c, d, rfl, h1, h2, h3, h4⟩ := h
  subst_vars
  refine ⟨_, rfl, rfl, ?_⟩
  rw [← hx, ← hy] at *
  exact ⟨_, _, rfl, rfl, rfl, _, _, rfl, h1, nat_one h1, _, _, rfl, h2, nat_one h2, _, _, rfl, rfl, rfl, _, _, rfl, h3, nat_one h3, _, _, rfl, h4, nat_one h4, rfl⟩
end
def pickB (a b c d : Rat) (i : Nat) : Rat := if i = 100 then a else if i = 101 then b else if i = 102 then c else if i = 103 then d else 0
theorem sm_of (a b c d : Rat) (ha : Sm 4096 a) (hb : Sm 4096 b) (hc : Sm 4096 c) (hd : Sm 4096 d) (i : Nat) : Sm 4096 (pickB a b c d i) := by
  unfold pickB
  (repeat' split) <;> first | assumption | exact (fit_zero).sm.up (by decide)
def envB (a b c d : Rat) (ha : Sm 4096 a) (hb : Sm 4096 b) (hc : Sm 4096 c) (hd : Sm 4096 d) : Env where
  q := pickB a b c d
  raw := fun _ => (false, ⟨#[]⟩, ⟨#[]⟩)
  fit := fun i hi => by
    have e : pickB a b c d i = 0 := by
      unfold pickB
      rw [if_neg (by omega), if_neg (by omega), if_neg (by omega), if_neg (by omega)]
    rw [e]; exact fit_zero
  big := sm_of a b c d ha hb hc hd
  bad := fun _ => bad_zero
def cMul (p q : Rat × Rat) : Rat × Rat := (p.1 * q.1 - p.2 * q.2, p.1 * q.2 + p.2 * q.1)
def cQuo (p q : Rat × Rat) : Rat × Rat := ((p.1 * q.1 - p.2 * -q.2) / (q.1 * q.1 + q.2 * q.2), (p.1 * -q.2 + p.2 * q.1) / (q.1 * q.1 + q.2 * q.2))
def CxRes (w : World) (p : Rat × Rat) (e : Ending) (w' : World) : Prop := ∃ v, e = .returned v ∧ CxIn w' v p ∧ Below w.heap.size w w'
theorem cx2 {f : FuncId} {A : List As} {x : Qe × Qe} (run : tells ((prt b0 ++ prt b1) ++ (prt b2 ++ prt b3)) [.agg 6, .agg 6] (call Tryz.prog symC (symSums A) 60 f) = some (.one (cxD x))) (w : World) (u v : Value) (p q : Rat × Rat) (hp : Sm 4096 p.1 ∧ Sm 4096 p.2) (hq : Sm 4096 q.1 ∧ Sm 4096 q.2) (hA : AllH (envB p.1 p.2 q.1 q.2 hp.1 hp.2 hq.1 hq.2) A) (hu : CxIn w u p) (hv : CxIn w v q) (hG : Tryz.prog.globals.size ≤ w.heap.size) (hT : Tab w) :
    Calls Tryz.prog f ⟨[u, v]⟩ w (CxRes w (x.1.ev (pickB p.1 p.2 q.1 q.2), x.2.ev (pickB p.1 p.2 q.1 q.2))) := by
  obtain ⟨us, rfl, lu, h1⟩ := cx_holds (ρ := envB p.1 p.2 q.1 q.2 hp.1 hp.2 hq.1 hq.2) hu (x := (b0, b1)) rfl rfl
  obtain ⟨vs, rfl, lv, h2⟩ := cx_holds (ρ := envB p.1 p.2 q.1 q.2 hp.1 hp.2 hq.1 hq.2) hv (x := (b2, b3)) rfl rfl
  have hs : split [.agg 6, .agg 6] (us ++ vs) = [.agg ⟨us⟩, .agg ⟨vs⟩] := by
    show [Value.agg ⟨(us ++ vs).take 6⟩, .agg ⟨((us ++ vs).drop 6).take 6⟩] = _
    rw [List.take_left' lu, List.drop_left' lu, List.take_of_length_le (by omega)]
  have c := tells_calls (symFits _) (symSums_ok hA) run rfl glob_few (holdsL_append h1 h2) hG hT
  rw [hs] at c
  refine c.mono ?_
  rintro e w' ⟨v', rfl, hv, hb'⟩
  exact ⟨v', rfl, cxD_is hv, hb'⟩
theorem cx_mul (w : World) (u v : Value) (p q : Rat × Rat) (hp : Sm 4096 p.1 ∧ Sm 4096 p.2) (hq : Sm 4096 q.1 ∧ Sm 4096 q.2) (hu : CxIn w u p) (hv : CxIn w v q) (hG : Tryz.prog.globals.size ≤ w.heap.size) (hT : Tab w) :
    Calls Tryz.prog 92 ⟨[u, v]⟩ w (CxRes w (cMul p q)) :=
  cx2 cmul_run w u v p q hp hq (fun _ h => by cases h) hu hv hG hT
end Ev
end Go.Proofs.YthjofdfnppadnaaGreatDoor
namespace Go.Proofs.YthjofdfnppadnaaGreatDoor
open Go Go.RowKit
namespace Ev
set_option maxRecDepth 100000
theorem cx_quo (w : World) (u v : Value) (p q : Rat × Rat) (hp : Sm 4096 p.1 ∧ Sm 4096 p.2) (hq : Sm 4096 q.1 ∧ Sm 4096 q.2) (h0 : ¬ (q.1 = 0 ∧ q.2 = 0)) (hu : CxIn w u p) (hv : CxIn w v q) (hG : Tryz.prog.globals.size ≤ w.heap.size) (hT : Tab w) :
    Calls Tryz.prog 90 ⟨[u, v]⟩ w (CxRes w (cQuo p q)) :=
  cx2 cquo_run w u v p q hp hq (fun x h => by
    simp only [List.mem_cons, List.not_mem_nil, or_false] at h
    subst h
    exact ⟨fun h => (by cases h), fun h => absurd (sq_zero h) h0⟩) hu hv hG hT
theorem cx_read (w : World) {a b : Rat} (ha : Fit a) (hb : Fit b) (hG : Tryz.prog.globals.size ≤ w.heap.size) (hT : Tab w) :
    Calls Tryz.prog 91 ⟨[gV a b]⟩ w fun e w' => ∃ v, e = .returned (.tuple ⟨[v, .bool true]⟩) ∧ CxIn w' v (a, b) ∧ Below w.heap.size w w' := by
  have hA : AllH (envOf a b 0 0 ha hb fit_zero fit_zero) [] := fun _ h => by cases h
  refine (tells_calls (symFits _) (symSums_ok hA) cread_run rfl glob_few (in2_holds ha hb 0 0 fit_zero fit_zero w) hG hT).mono ?_
  rintro e w' ⟨v', rfl, ⟨vs, rfl, x1, u1, rfl, h1, x2, u2, rfl, h2, h3⟩, hb'⟩
  obtain rfl : u2 = [] := h3
  rw [show x2 = .bool true from h2]
  exact ⟨x1, rfl, cxD_is h1, hb'⟩
theorem cx_answer (w : World) (u : Value) (p : Rat × Rat) (hp : Sm 4096 p.1 ∧ Sm 4096 p.2) (hu : CxIn w u p) (hG : Tryz.prog.globals.size ≤ w.heap.size) (hT : Tab w) :
    Calls Tryz.prog 94 ⟨[u]⟩ w (GRes w p.1 p.2) := by
  obtain ⟨us, rfl, lu, h1⟩ := cx_holds (ρ := envB p.1 p.2 0 0 hp.1 hp.2 (fit_zero.sm.up (by decide)) (fit_zero.sm.up (by decide))) hu (x := (b0, b1)) rfl rfl
  obtain ⟨s, hs⟩ := fit_bool p.1
  obtain ⟨t, ht⟩ := fit_bool p.2
  have hA : AllH (envB p.1 p.2 0 0 hp.1 hp.2 (fit_zero.sm.up (by decide)) (fit_zero.sm.up (by decide))) (fits b0 b1 s t) := fits_hold hs ht
  have e1 : split [.agg 6] us = [.agg ⟨us⟩] := by
    show [Value.agg ⟨us.take 6⟩] = _
    rw [List.take_of_length_le (by omega)]
  have c := tells_calls (symFits _) (symSums_ok hA) (answer_run s t) rfl glob_few h1 hG hT
  rw [e1] at c
  refine c.mono ?_
  rintro e w' ⟨v', rfl, hv, hb'⟩
  refine ⟨?_, hb'⟩
  unfold andD at hv
  cases s with
  | true => cases t with
    | true => exact .inl ⟨⟨hs.1 rfl, ht.1 rfl⟩, by rw [okD_is hv]; rfl⟩
    | false => exact .inr ⟨fun h => (by have := ht.2 h.2; cases this), by rw [noD_is hv]⟩
  | false => exact .inr ⟨fun h => (by have := hs.2 h.1; cases this), by rw [noD_is hv]⟩
theorem cx_nought (w : World) (u : Value) (p : Rat × Rat) (hp : Fit p.1 ∧ Fit p.2) (hu : CxIn w u p) (hG : Tryz.prog.globals.size ≤ w.heap.size) (hT : Tab w) :
    Calls Tryz.prog 89 ⟨[u]⟩ w fun e w' => e = .returned (.bool (decide (p.1 = 0 ∧ p.2 = 0))) ∧ Below w.heap.size w w' := by
  obtain ⟨us, rfl, lu, h1⟩ := cx_holds (ρ := envOf 0 0 p.1 p.2 fit_zero fit_zero hp.1 hp.2) hu (x := (v2, v3)) rfl rfl
  obtain ⟨s, hs⟩ := zero_bool p.1
  obtain ⟨t, ht⟩ := zero_bool p.2
  have hA : AllH (envOf 0 0 p.1 p.2 fit_zero fit_zero hp.1 hp.2) (signs s (Big.ng p.1) t (Big.ng p.2)) := signs_hold (ρ := envOf 0 0 p.1 p.2 fit_zero fit_zero hp.1 hp.2) hs ht
  have e1 : split [.agg 6] us = [.agg ⟨us⟩] := by
    show [Value.agg ⟨us.take 6⟩] = _
    rw [List.take_of_length_le (by omega)]
  have c := tells_calls (symFits _) (symSums_ok hA) (nought_run s (Big.ng p.1) t (Big.ng p.2)) rfl glob_few h1 hG hT
  rw [e1] at c
  refine c.mono ?_
  rintro e w' ⟨v', rfl, hv, hb'⟩
  refine ⟨?_, hb'⟩
  rw [show v' = .bool (s && t) from hv]
  have : (s && t) = decide (p.1 = 0 ∧ p.2 = 0) := by
    rw [Bool.eq_iff_iff, Bool.and_eq_true, decide_eq_true_iff, hs, ht]
  rw [this]
end Ev
end Go.Proofs.YthjofdfnppadnaaGreatDoor
namespace Go.Proofs.YthjofdfnppadnaaGreatDoor
open Go Go.RowKit
namespace Ev
set_option maxRecDepth 100000
inductive Pw where
  | ng (k : Nat) (i : Bool)
  | nu (k : Nat) (i : Bool)
  | de (k : Nat) (i : Bool)
  | fg (k : Nat) (i : Bool)
  | fn (k : Nat) (i : Bool)
  | fd (k : Nat) (i : Bool)
  | sz (k : Nat) (i : Bool)
  | mx (k : Nat)
deriving DecidableEq
def prts (k : Nat) : List Pw := [.ng k false, .nu k false, .de k false, .ng k true, .nu k true, .de k true]
def frcs (k : Nat) : List Pw := [.fg k false, .fn k false, .fd k false, .fg k true, .fn k true, .fd k true]
def numP (k : Nat) (i : Bool) : List Pw := [.ng k i, .nu k i, .de k i]
def szQ (q : Rat) : Nat := max (szN (Big.nu q)) (szN (Big.de q))
def zi (neg : Bool) : Nat := cond neg 100 1
def cp (p : Rat × Rat) (i : Bool) : Rat := cond i p.2 p.1
def szP (p : Rat × Rat) : Nat := max (szQ p.1) (szQ p.2)
def FitP (p : Rat × Rat) : Prop := Fit p.1 ∧ Fit p.2
def SmP (k : Nat) (p : Rat × Rat) : Prop := Sm k p.1 ∧ Sm k p.2
structure Pe where
  P : Nat → Rat × Rat
  neg : Bool
  J : Nat
  stop : Bool
  fit : Bool
  n : Nat
  one : P 0 = (1, 0)
  zfit : FitP (P (zi neg))
  step : ∀ k, k < 60 → P (k + 1) = cMul (P k) (P 1)
  quo : neg = true → P 1 = cQuo (P 0) (P 100) ∧ ¬ ((P 100).1 = 0 ∧ (P 100).2 = 0)
  sm1 : SmP 4096 (P 1)
  low : ∀ k, k < J → k < 60 → szP (P k) ≤ 2048
  far : stop = true → 2048 < szP (P J)
  last : fit = true ↔ FitP (P n)
def Pw.holds (g : Pe) : Pw → World → Value → Prop
  | .ng k i, _, v => v = .bool (Big.ng (cp (g.P k) i))
  | .nu k i, w, v => NatIn w v (Big.nu (cp (g.P k) i))
  | .de k i, w, v => NatIn w v (Big.de (cp (g.P k) i))
  | .fg k i, _, v => v = .bool (Big.ng (cp (g.P k) i))
  | .fn k i, _, v => v = .string (bst (Big.nu (cp (g.P k) i)))
  | .fd k i, _, v => v = .string (bst (Big.de (cp (g.P k) i)))
  | .sz k i, _, v => v = .int .i64 (szQ (cp (g.P k) i) : Nat)
  | .mx k, _, v => v = .int .i64 (szP (g.P k) : Nat)
theorem Pw.one {g : Pe} {f : Pw} {w : World} {v : Value} (h : f.holds g w v) : isOne v = true := by
  cases f <;> first | exact nat_one h | (rw [show v = _ from h]; rfl)
noncomputable def pSig (g : Pe) : Sig Pw where
  holds := Pw.holds g
  hid := natSig.hid
  G := natSig.G
  base := natSig.base
  baseS := natSig.baseS
  stable := fun f _ _ _ h hk => by cases f <;> first | exact nat_stable h hk | exact h
noncomputable def factsL (l : List Value) : M Pw (List Pw) := List.rec (motive := fun _ => M Pw (List Pw)) (ret []) (fun v _ ih => bind (fact v) fun f => bind ih fun fs => ret (f :: fs)) l
theorem loc_factsL : ∀ l : List Value, Loc (factsL l)
  | [] => loc_ret _
  | v :: l => loc_bind (loc_fact v) fun _ => loc_bind (loc_factsL l) fun _ => loc_ret _
def HoldsA (g : Pe) (w : World) : List Pw → List Value → Prop
  | [], vs => vs = []
  | f :: l, vs => ∃ v us, vs = v :: us ∧ f.holds g w v ∧ HoldsA g w l us
section
variable {g : Pe} {h h' : Tr (Blk Pw)} {nx nx' : Nat} {R W : List Nat} {r : Ren} {w : World} {v v' x : Value}
theorem factsL_ok : ∀ {l l' : List Value} {fs : List Pw} {h h' : Tr (Blk Pw)} {nx nx' : Nat} {R W : List Nat}, factsL l h nx = .ok fs h' nx' R W → VsR r l l' → Mod (pSig g) r h.get w → h' = h ∧ nx' = nx ∧ W = [] ∧ HoldsA g w fs l'
  | [], _, fs, h, h', nx, nx', R, W, e, hv, hM => by
    cases hv
    obtain ⟨rfl, rfl, rfl, rfl⟩ := ret_ok (show (ret [] : M Pw _) h nx = _ from e)
    exact ⟨rfl, rfl, rfl, rfl⟩
  | u :: l, _, fs, h, h', nx, nx', R, W, e, hv, hM => by
    cases hv with
    | cons ha hb =>
      obtain ⟨f, h1, nx1, R1, W1, R2, W2, e1, e2, rfl, rfl⟩ := bind_ok (show (bind (fact u) fun f => bind (factsL l) fun fs => ret (f :: fs) : M Pw _) h nx = _ from e)
      obtain ⟨rfl, rfl, rfl, hh⟩ := fact_ok e1 ha hM
      obtain ⟨fs2, h2, nx2, R3, W3, R4, W4, e3, e4, rfl, rfl⟩ := bind_ok e2
      obtain ⟨rfl, rfl, rfl, hl⟩ := factsL_ok e3 hb hM
      obtain ⟨rfl, rfl, rfl, rfl⟩ := ret_ok e4
      exact ⟨rfl, rfl, rfl, _, _, rfl, hh, hl⟩
noncomputable def aggF (v : Value) : M Pw (List Pw) := match v with
  | .agg cs => factsL cs.toList
  | _ => fail
theorem loc_aggF (v : Value) : Loc (aggF v) := by
  unfold aggF
  split <;> first | exact loc_factsL _ | exact loc_fail
theorem aggF_ok {fs : List Pw} (e : aggF v h nx = .ok fs h' nx' R W) (hv : VR r v v') (hM : Mod (pSig g) r h.get w) : h' = h ∧ nx' = nx ∧ W = [] ∧ ∃ us, v' = .agg ⟨us⟩ ∧ HoldsA g w fs us := by
  unfold aggF at e
  cases v with
  | agg cs =>
    obtain ⟨l⟩ := cs
    obtain ⟨l', rfl, hl⟩ := vr_agg hv
    obtain ⟨h1, h2, h3, h4⟩ := factsL_ok e hl hM
    exact ⟨h1, h2, h3, _, rfl, h4⟩
  | _ => cases (show (fail : M Pw _) h nx = _ from e)
noncomputable def keyOf (l : List Pw) : Nat := match l with
  | f :: _ => match f with
    | .ng k _ => k
    | .fg k _ => k
    | _ => 0
  | [] => 0
noncomputable def kParts (v : Value) (f : Nat → M Pw Value) : M Pw Value := bind (aggF v) fun l => cond (decide (l = prts (keyOf l))) (f (keyOf l)) fail
noncomputable def kFracs (v : Value) (f : Nat → M Pw Value) : M Pw Value := bind (aggF v) fun l => cond (decide (l = frcs (keyOf l))) (f (keyOf l)) fail
noncomputable def kNum (v : Value) (f : Nat → Bool → M Pw Value) : M Pw Value := bind (aggF v) fun l => cond (decide (l = numP (keyOf l) false)) (f (keyOf l) false) (cond (decide (l = numP (keyOf l) true)) (f (keyOf l) true) fail)
theorem loc_kParts {f : Nat → M Pw Value} (hf : ∀ k, Loc (f k)) : Loc (kParts v f) := loc_bind (loc_aggF v) fun _ => loc_cond (hf _) loc_fail
theorem loc_kFracs {f : Nat → M Pw Value} (hf : ∀ k, Loc (f k)) : Loc (kFracs v f) := loc_bind (loc_aggF v) fun _ => loc_cond (hf _) loc_fail
theorem loc_kNum {f : Nat → Bool → M Pw Value} (hf : ∀ k i, Loc (f k i)) : Loc (kNum v f) := loc_bind (loc_aggF v) fun _ => loc_cond (hf _ _) (loc_cond (hf _ _) loc_fail)
theorem kParts_ok {f : Nat → M Pw Value} (e : kParts v f h nx = .ok x h' nx' R W) (hv : VR r v v') (hM : Mod (pSig g) r h.get w) : ∃ k R2, CxIn w v' (g.P k) ∧ f k h nx = .ok x h' nx' R2 W := by
  obtain ⟨l, h1, nx1, R1, W1, R2, W2, e1, e2, rfl, rfl⟩ := bind_ok e
  obtain ⟨rfl, rfl, rfl, us, rfl, hh⟩ := aggF_ok e1 hv hM
  obtain ⟨hk, e3⟩ := cond_ok e2
  have hl := of_decide_eq_true hk
  generalize keyOf l = k at *
  subst hl
  obtain ⟨a1, u1, rfl, q1, a2, u2, rfl, q2, a3, u3, rfl, q3, a4, u4, rfl, q4, a5, u5, rfl, q5, a6, u6, rfl, q6, q7⟩ := hh
  obtain rfl : u6 = [] := q7
  exact ⟨k, R2, ⟨a2, a3, a5, a6, by rw [show a1 = _ from q1, show a4 = _ from q4]; rfl, q2, q3, q5, q6⟩, by simpa using e3⟩
theorem kFracs_ok {f : Nat → M Pw Value} (e : kFracs v f h nx = .ok x h' nx' R W) (hv : VR r v v') (hM : Mod (pSig g) r h.get w) : ∃ k R2, v' = gV (g.P k).1 (g.P k).2 ∧ f k h nx = .ok x h' nx' R2 W := by
  obtain ⟨l, h1, nx1, R1, W1, R2, W2, e1, e2, rfl, rfl⟩ := bind_ok e
  obtain ⟨rfl, rfl, rfl, us, rfl, hh⟩ := aggF_ok e1 hv hM
  obtain ⟨hk, e3⟩ := cond_ok e2
  have hl := of_decide_eq_true hk
  generalize keyOf l = k at *
  subst hl
  obtain ⟨a1, u1, rfl, q1, a2, u2, rfl, q2, a3, u3, rfl, q3, a4, u4, rfl, q4, a5, u5, rfl, q5, a6, u6, rfl, q6, q7⟩ := hh
  obtain rfl : u6 = [] := q7
  exact ⟨k, R2, by rw [show a1 = _ from q1, show a2 = _ from q2, show a3 = _ from q3, show a4 = _ from q4, show a5 = _ from q5, show a6 = _ from q6]; rfl, by simpa using e3⟩
theorem kNum_ok {f : Nat → Bool → M Pw Value} (e : kNum v f h nx = .ok x h' nx' R W) (hv : VR r v v') (hM : Mod (pSig g) r h.get w) : ∃ k i R2, NumIn w v' (cp (g.P k) i) ∧ f k i h nx = .ok x h' nx' R2 W := by
  obtain ⟨l, h1, nx1, R1, W1, R2, W2, e1, e2, rfl, rfl⟩ := bind_ok e
  obtain ⟨rfl, rfl, rfl, us, rfl, hh⟩ := aggF_ok e1 hv hM
  have key : ∀ i, l = numP (keyOf l) i → NumIn w (.agg ⟨us⟩) (cp (g.P (keyOf l)) i) := by
    intro i hl
    generalize keyOf l = k at *
    subst hl
    obtain ⟨a1, u1, rfl, q1, a2, u2, rfl, q2, a3, u3, rfl, q3, q4⟩ := hh
    obtain rfl : u3 = [] := q4
    exact ⟨a2, a3, by rw [show a1 = _ from q1], q2, q3⟩
  cases hd : decide (l = numP (keyOf l) false) with
  | true =>
    rw [hd] at e2
    exact ⟨_, false, R2, key false (of_decide_eq_true hd), by simpa using e2⟩
  | false =>
    rw [hd] at e2
    obtain ⟨hk, e3⟩ := cond_ok (show cond (decide (l = numP (keyOf l) true)) (f (keyOf l) true) fail h1 nx1 = _ from e2)
    exact ⟨_, true, R2, key true (of_decide_eq_true hk), by simpa using e3⟩
end
end Ev
end Go.Proofs.YthjofdfnppadnaaGreatDoor
namespace Go.Proofs.YthjofdfnppadnaaGreatDoor
open Go Go.RowKit
namespace Ev
set_option maxRecDepth 100000
noncomputable def pMax (a b : Value) : M Pw Nxt := bind (fact a) fun x => match x with
  | .sz k i => cond i fail (bind (fact b) fun y => match y with
    | .sz k' i' => cond (i' && Nat.beq k k') (bind (newFact (.mx k)) fun v => val v) fail
    | _ => fail)
  | _ => fail
noncomputable def isI (v : Value) (n : Nat) : Bool := match v with
  | .int k m => match k with
    | .i64 => match m with
      | .ofNat j => Nat.beq j n
      | _ => false
    | _ => false
  | _ => false
theorem isI_ok {v : Value} {n : Nat} (h : isI v n = true) : v = .int .i64 (n : Nat) := by
  unfold isI at h
  split at h
  · split at h
    · split at h
      · rw [Nat.eq_of_beq_eq_true h]; rfl
      · cases h
    · cases h
  · cases h
noncomputable def pGtr (J : Nat) (stop : Bool) (a b : Value) : M Pw Nxt := bind (fact a) fun x => match x with
  | .mx k => cond (isI b 2048) (cond (Nat.ble (Nat.succ k) J && Nat.ble k 59) (val (.bool false)) (cond (Nat.beq k J && stop) (val (.bool true)) fail)) fail
  | _ => fail
noncomputable def pHard (J : Nat) (stop : Bool) (o : Oper) (vs : List Value) : M Pw Nxt := match o.op with
  | .binOp op _ _ _ _ => match op with
    | .gtr => match vs with
      | [a, b] => pGtr J stop a b
      | _ => fail
    | _ => fail
  | .call c => match c.callee with
    | .builtin b => match b with
      | .max => match vs with
        | [a, b] => pMax a b
        | _ => fail
      | _ => fail
    | _ => fail
  | _ => fail
theorem loc_pMax (a b : Value) : Loc (pMax a b) := by
  unfold pMax
  refine loc_bind (loc_fact _) fun x => ?_
  split
  · refine loc_cond loc_fail (loc_bind (loc_fact _) fun y => ?_)
    split
    · exact loc_cond (loc_bind (loc_newFact _) fun _ => loc_val _) loc_fail
    · exact loc_fail
  · exact loc_fail
theorem loc_pGtr (J : Nat) (stop : Bool) (a b : Value) : Loc (pGtr J stop a b) := by
  unfold pGtr
  refine loc_bind (loc_fact _) fun x => ?_
  split
  · exact loc_cond (loc_cond (loc_val _) (loc_cond (loc_val _) loc_fail)) loc_fail
  · exact loc_fail
theorem loc_pHard (J : Nat) (stop : Bool) (o : Oper) (vs : List Value) : Loc (pHard J stop o vs) := by
  unfold pHard
  (repeat' split) <;> first | exact loc_fail | exact loc_pMax _ _ | exact loc_pGtr _ _ _ _
theorem pval_fact {g : Pe} {f : Pw} {x : Nxt} {v' : Value} {h h' : Tr (Blk Pw)} {nx nx' : Nat} {R W : List Nat} {r : Ren} {w : World} (e : (bind (newFact f) fun v => val v : M Pw Nxt) h nx = .ok x h' nx' R W) (hM : Mod (pSig g) r h.get w) (hN : New r nx nx') (hv : f.holds g w v') (ho : isOne v' = true) :
    nx ≤ nx' ∧ ∃ v r', x = .val v ∧ VR r' v v' ∧ Ext (pSig g) r w nx nx' W h'.get r' w := by
  obtain ⟨v, h0, nx0, R0, W0, R1, W1, e0, e1, rfl, rfl⟩ := bind_ok e
  obtain ⟨rfl, rfl, rfl, rfl⟩ := val_ok e1
  obtain ⟨i, h2, nx2, R2, W2, R3, W3, e2, e3, rfl, rfl⟩ := bind_ok e0
  obtain ⟨rfl, rfl, rfl, rfl⟩ := ret_ok e3
  unfold fresh at e2
  cases e2
  obtain ⟨r', hX, hr⟩ := ext_fact (S := pSig g) (f := f) hM (Below.refl _ w) hN hv ho
  exact ⟨Nat.le_succ _, _, r', rfl, .opq hr ho, by simpa using hX.congr fun n => .inr (Tr.get_set _ _ _ _)⟩
theorem max_int (a b : Nat) (ts : Array TypeId) (t : TypeId) (w : World) : (Builtin.max_ ts t #[.int .i64 (a : Nat), .int .i64 (b : Nat)]).run Tryz.prog w = .ok (.int .i64 ((max a b : Nat) : Int)) w := by
  simp [Builtin.max_, Builtin.max2]
  omega
theorem gtr_int (t : TypeId) (p q : Operand) (a b : Nat) (w : World) :
    (do eqGuard .gtr t p q (.int .i64 (a : Nat)) (.int .i64 (b : Nat)); binOp .gtr t (.int .i64 (a : Nat)) (.int .i64 (b : Nat)) : Sem Value).run Tryz.prog w = .ok (.bool (decide (b < a))) w := by
  simp [eqGuard, binOp, Op.intCmp]
theorem pHard_ok {g : Pe} {C : Cfg Pw} (hC : C.hard = pHard g.J g.stop) : HardOK (pSig g) Tryz.prog C := by
  intro o vs h nx x h' nx' R W hs e r w ρo hM hN hv
  rw [hC] at e
  unfold pHard at e
  cases hop : o.op with
  | binOp op t p q yt =>
    rw [hop] at e
    cases op <;> first | (cases (show (fail : M Pw Nxt) h nx = _ from e); done) | skip
    simp only at e
    have hops : o.op.operands.toList.map ρo = [ρo p, ρo q] := by rw [hop]; rfl
    rw [hops] at hv
    rcases vs with _ | ⟨u, _ | ⟨v, _ | ⟨z, l⟩⟩⟩ <;> first | (cases (show (fail : M Pw Nxt) h nx = _ from e); done) | skip
    cases hv with
    | cons hu hv => cases hv with
      | cons hv hn =>
        unfold pGtr at e
        obtain ⟨f, h1, nx1, R1, W1, R2, W2, e1, e2, rfl, rfl⟩ := bind_ok e
        obtain ⟨rfl, rfl, rfl, hh⟩ := fact_ok e1 hu hM
        cases f with
        | mx k =>
          have ha : ρo p = .int .i64 (szP (g.P k) : Nat) := hh
          simp only at e2
          obtain ⟨hk, e3⟩ := cond_ok e2
          have hb := isI_ok hk
          subst hb
          have hb' : ρo q = .int .i64 (2048 : Nat) := hv.eq_of_plain rfl
          have fin1 : ∀ b : Bool, decide (2048 < szP (g.P k)) = b → (val (.bool b) : M Pw Nxt) h1 nx1 = .ok x h' nx' R2 W2 → nx1 ≤ nx' ∧ After (pSig g) Tryz.prog ((execOp ρo o).run Tryz.prog w) r w nx1 nx' ([] ++ W2) h'.get x := by
            intro b hb e4
            obtain ⟨rfl, rfl, rfl, rfl⟩ := val_ok e4
            refine ⟨Nat.le_refl _, _, w, r, ?_, .same rfl, Ext.refl _ _ hM⟩
            simp only [execOp, hop, ha, hb']
            rw [Sem.run_bind, gtr_int, hb]
            rfl
          cases hc : (Nat.ble (Nat.succ k) g.J && Nat.ble k 59) with
          | true =>
            rw [hc] at e3
            simp only [Bool.and_eq_true] at hc
            exact fin1 false (decide_eq_false (Nat.not_lt.2 (g.low k (Nat.le_of_ble_eq_true hc.1) (Nat.lt_succ_of_le (Nat.le_of_ble_eq_true hc.2))))) e3
          | false =>
            rw [hc] at e3
            obtain ⟨hj, e4⟩ := cond_ok (show cond (Nat.beq k g.J && g.stop) (val (.bool true)) fail h1 nx1 = _ from e3)
            simp only [Bool.and_eq_true] at hj
            rw [Nat.eq_of_beq_eq_true hj.1] at fin1
            exact fin1 true (decide_eq_true (g.far hj.2)) e4
        | _ => cases (show (fail : M Pw Nxt) _ _ = _ from e2)
  | call c =>
    rw [hop] at e
    obtain ⟨callee, args, ats⟩ := c
    cases callee with
    | builtin b =>
      simp only at e
      cases b <;> first | (cases (show (fail : M Pw Nxt) h nx = _ from e); done) | skip
      simp only at e
      have hops : o.op.operands.toList.map ρo = args.toList.map ρo := by rw [hop]; simp [Op.operands, Call.operands]
      rw [hops] at hv
      rcases vs with _ | ⟨u, _ | ⟨v, _ | ⟨z, l⟩⟩⟩ <;> first | (cases (show (fail : M Pw Nxt) h nx = _ from e); done) | skip
      generalize hl : args.toList.map ρo = al at hv
      cases hv with
      | cons hu hv => cases hv with
        | cons hv hn =>
          cases hn
          rename_i u' v'
          have hargs : args.map ρo = #[u', v'] := by rw [map_list, hl]
          unfold pMax at e
          obtain ⟨f, h1, nx1, R1, W1, R2, W2, e1, e2, rfl, rfl⟩ := bind_ok e
          obtain ⟨rfl, rfl, rfl, hh⟩ := fact_ok e1 hu hM
          cases f with
          | sz k i =>
            simp only at e2
            cases i with
            | true => exact absurd e2 (by simp [fail])
            | false =>
              obtain ⟨f2, h2, nx2, R3, W3, R4, W4, e3, e4, rfl, rfl⟩ := bind_ok (show (bind (fact v) fun y => match y with
                | .sz k' i' => cond (i' && Nat.beq k k') (bind (newFact (.mx k)) fun v => val v) fail
                | _ => fail : M Pw Nxt) h1 nx1 = _ from e2)
              obtain ⟨rfl, rfl, rfl, hh2⟩ := fact_ok e3 hv hM
              cases f2 with
              | sz k' i' =>
                simp only at e4
                obtain ⟨hk, e5⟩ := cond_ok e4
                simp only [Bool.and_eq_true] at hk
                obtain ⟨rfl, hk2⟩ := hk
                have := Nat.eq_of_beq_eq_true hk2
                subst this
                obtain ⟨hle, v1, r', rfl, hvr, hX⟩ := pval_fact e5 hM hN (v' := .int .i64 (szP (g.P k) : Nat)) rfl rfl
                refine ⟨hle, _, w, r', ?_, hvr, by simpa using hX⟩
                obtain rfl : u' = .int .i64 (szQ (g.P k).1 : Nat) := hh
                obtain rfl : v' = .int .i64 (szQ (g.P k).2 : Nat) := hh2
                simp only [execOp, hop, resolve, hargs, Sem.run_bind, Sem.run_pure, Result.andThen_ok, invoke, builtin, max_int]
                rfl
              | _ => cases (show (fail : M Pw Nxt) _ _ = _ from e4)
          | _ => cases (show (fail : M Pw Nxt) _ _ = _ from e2)
    | _ => cases (show (fail : M Pw Nxt) h nx = _ from e)
  | _ => rw [hop] at e; cases (show (fail : M Pw Nxt) h nx = _ from e)
end Ev
end Go.Proofs.YthjofdfnppadnaaGreatDoor
