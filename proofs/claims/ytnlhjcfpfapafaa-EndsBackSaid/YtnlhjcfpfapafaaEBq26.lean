/- Contracts. -/
import Derived.Test.YtnlhjcfpfapafaaEBq25
import Derived.Laws.StructEq
import Derived.Test.YtnlhjcfpfapafaaEBq10
import Derived.Test.YtnlhjcfpfapafaaEBq01
namespace Go.Proofs.Ytnlhjcfpfapafaa
open Go Go.RowKit
namespace Ev
set_option maxRecDepth 100000
noncomputable def lsArg (B : List Ix) (v : Value) : M Sy (Nat × Le) := match chanOf v with
 | some i => bind (rd i) fun x => match x with
  | .fact f => match f with
   | .ls K c => ret (K, .v c)
   | _ => fail
  | .ow f => match f with
   | .ol K l z => match z with
    | none => ret (K, l)
    | some q => match leN B l with
     | some p => cond (Nat.beq p.1 q.1 && eqI p.2 q.2) (ret (K, l)) fail
     | none => fail
   | _ => fail
  | _ => fail
 | none => fail
theorem loc_lsArg (B : List Ix) (v : Value) : Loc (lsArg B v) := by
 unfold lsArg
 split
 ·refine loc_bind (loc_rd _) fun x => ?_
  (repeat' split) <;> first | exact loc_ret _ | exact loc_cond (loc_ret _) loc_fail | exact loc_fail
 ·exact loc_fail
structure NewOl (K : Nat) (w w' : World) (u : Value) (qs : List Rat) : Prop where
 ol : OlIn K w' u qs
 new : ∀ b, blkV u = some b → w.heap.size ≤ b ∧ ∃ c t z, w'.heap[b]? = some (.cells c t z) ∧ symHid t = false
section
variable {ρ : Env} {B : List Ix} {h h' : Tr (Blk Sy)} {nx nx' : Nat} {R W : List Nat} {r : Ren} {w : World}
theorem lsArg_ok (hB : AllX ρ B) {v v' : Value} {y : Nat × Le} (e : lsArg B v h nx = .ok y h' nx' R W) (hv : VR r v v') (hM : Mod (symSig ρ) r h.get w) : h' = h ∧ nx' = nx ∧ W = [] ∧ LsIn y.1 w v' (y.2.ev ρ) := by
 unfold lsArg at e
 cases hc : chanOf v with
 | none => rw [hc] at e; cases (show (fail : M Sy (Nat × Le)) h nx = _ from e)
 | some i =>
  rw [hc] at e
  have hv' := vr_chanV hc hv
  obtain ⟨x, h1, nx1, R1, W1, R2, W2, e1, e2, rfl, rfl⟩ := bind_ok e
  obtain ⟨hg, rfl, rfl, rfl⟩ := rdb_ok e1
  cases x <;> first | (cases (show (fail : M Sy (Nat × Le)) _ _ = _ from e2); done) | skip
  ·rename_i f
   cases f <;> first | (cases (show (fail : M Sy (Nat × Le)) _ _ = _ from e2); done) | skip
   rename_i K c
   obtain ⟨rfl, rfl, rfl, rfl⟩ := ret_ok (show (ret (K, Le.v c) : M Sy (Nat × Le)) _ _ = _ from e2)
   obtain ⟨v0, q1, q2, _⟩ := hM.fact i _ hg
   rw [hv'] at q1
   cases q1
   obtain ⟨a, m, k1, k2, k3⟩ := (show lsIs ρ K c w v' from q2)
   exact ⟨rfl, rfl, rfl, a, m, k1, k2, fun hp => by
    obtain ⟨b, off, cl, t, z, g1, _, g2, g3⟩ := k3 hp
    exact ⟨b, off, cl, t, z, g1, g2, g3⟩⟩
  ·rename_i f
   cases f <;> first | (cases (show (fail : M Sy (Nat × Le)) _ _ = _ from e2); done) | skip
   rename_i K l z
   obtain ⟨v0, q1, q2, _⟩ := hM.ow i _ hg
   rw [hv'] at q1
   cases q1
   have q2' : olIs ρ K l z w v' := q2
   cases z with
   | none =>
    obtain ⟨rfl, rfl, rfl, rfl⟩ := ret_ok (show (ret (K, l) : M Sy (Nat × Le)) _ _ = _ from e2)
    exact ⟨rfl, rfl, rfl, (olIs.to q2').ls⟩
   | some q =>
    simp only at e2
    cases hn : leN B l with
    | none => rw [hn] at e2; cases (show (fail : M Sy (Nat × Le)) _ _ = _ from e2)
    | some p =>
     rw [hn] at e2
     obtain ⟨hk, e3⟩ := cond_ok e2
     obtain ⟨rfl, rfl, rfl, rfl⟩ := ret_ok e3
     simp only [Bool.and_eq_true] at hk
     have hln := leN_ok hB hn
     rw [Nat.eq_of_beq_eq_true hk.1, eqI_ok hk.2] at hln
     exact ⟨rfl, rfl, rfl, (olIs.to (q2'.env (l' := l) (z' := none) rfl hln)).ls⟩
end
section
variable {qs : List Rat} (hq : ∀ q ∈ qs, Fit q) (lo : Nat)
end
theorem newOl_of {ρ : Env} {K : Nat} {l : Le} {z : Option (Nat × Int)} {w w' : World} {u : Value} {qs : List Rat} (hlo : ρ.lo = w.heap.size) (h : (D1.ow (.ol K l z) : D1 Sy).is (symSig ρ) w' u) (hl : l.ev ρ = qs) (hz : ∀ p, z = some p → ((qs.length : Nat) : Int) = ρ.nat p.1 + p.2) : NewOl K w w' u qs := by
 subst hl
 refine ⟨olIs.to (ρ := ρ) (l := l) (olIs.env (show olIs ρ K l z w' u from h.1) (l' := l) (z' := none) rfl ?_), fun b hbu => ?_⟩
 ·cases z with
  | none => trivial
  | some p => exact hz p rfl
 ·obtain ⟨_, c, t, z, g1, g2⟩ := h.2.2 b hbu
  have g2' : (Nat.blt b ρ.lo || (ρ.fz.t t || symHid t)) = false := g2
  rw [Bool.or_eq_false_iff] at g2'
  refine ⟨?_, c, t, z, g1, (Bool.or_eq_false_iff.1 g2'.2).2⟩
  rcases Nat.lt_or_ge b w.heap.size with q | q
  ·have : Nat.blt b ρ.lo = true := by rw [hlo]; exact Nat.ble_eq_true_of_le q
   rw [this] at g2'
   cases g2'.1
  ·exact q
structure TrimAt (l : List Rat) (m : Nat) : Prop where
 le : m ≤ l.length
 zero : ∀ i, m ≤ i → i < l.length → l[i]? = some 0
 last : 0 < m → l.getD (m - 1) 0 ≠ 0
theorem getD_fit {l : List Rat} (hq : ∀ q ∈ l, Fit q) (k : Nat) : Fit (l.getD k 0) := by
 rw [List.getD_eq_getElem?_getD]
 cases h : l[k]? with
 | none => exact fit00
 | some x => exact hq x (List.mem_of_getElem? h)
section
variable {qs : List Rat} (hq : ∀ q ∈ qs, Fit q) (lo : Nat) {n m : Nat}
end
section
variable {qs : List Rat} (hq : ∀ q ∈ qs, Fit q) (lo : Nat) {n m : Nat}
end
namespace Fq
set_option maxRecDepth 100000
abbrev Tri := Bool × ByteArray × ByteArray
def tri (q : Rat) : Tri := (Big.ng q, bst (Big.nu q), bst (Big.de q))
def cel (x : Tri) : List Value := [.bool x.1, .string x.2.1, .string x.2.2]
theorem tri_inj {p q : Rat} (h : tri p = tri q) : p = q := by
 unfold tri at h
 simp only [Prod.mk.injEq] at h
 exact Big.parts_eq h.1 (bst_inj h.2.1) (bst_inj h.2.2)
theorem not_bad {q : Rat} (h : Fit q) : ¬ BadF (tri q) := fun hb => hb q h ⟨rfl, rfl, rfl⟩
def tbeq (x y : Tri) : Bool := x.1 == y.1 && (x.2.1.toList == y.2.1.toList && x.2.2.toList == y.2.2.toList)
theorem tbeq_iff {x y : Tri} : tbeq x y = true ↔ x = y := by
 obtain ⟨a, s, t⟩ := x
 obtain ⟨b, u, v⟩ := y
 have key : ∀ p q : ByteArray, (p.toList == q.toList) = true ↔ p = q := fun p q => by
  rw [beq_iff_eq, ByteArray.toList_eq, ByteArray.toList_eq]
  obtain ⟨⟨p⟩⟩ := p
  obtain ⟨⟨q⟩⟩ := q
  simp
 simp only [tbeq, Bool.and_eq_true, key, beq_iff_eq, Prod.mk.injEq]
theorem eqIn_frac (d : Nat) (x y : Tri) (w : World) : (Op.equalIn (d + 2) 27 (.agg ⟨cel x⟩) (.agg ⟨cel y⟩)).run Try.prog w = .ok (tbeq x y) w := by
 have hS : Try.prog.underlying 27 = some (.struct (Try.prog.fieldsOf 27)) := by kernel_rfl
 have hp : Try.prog.stoodInHeld 27 = false := by kernel_rfl
 obtain ⟨a, s, t⟩ := x
 obtain ⟨b, u, v⟩ := y
 rw [show d + 2 = (d + 1) + 1 from rfl, run_equalIn_struct w (d + 1) 27 _ _ hS hp]
 simp only [Program.fieldsOf, Try.underlying27, cel, tbeq]
 generalize hx : (s.toList == u.toList) = b1
 generalize hy : (t.toList == v.toList) = b2
 cases a <;> cases b <;> cases b1 <;> cases b2 <;> go_simp <;> simp [hx, hy]
noncomputable def sameO (A : List As) (l m : List Value) (o p : Option Qe) : Option Bool := match o with
 | some e => match p with
  | some f => cond (e.beq f) (some true) (ask A 2 e f)
  | none => match fitB A e with
   | some t => cond t (some false) none
   | none => none
 | none => match p with
  | some f => match fitB A f with
   | some t => cond t (some false) none
   | none => none
  | none => cond (eqL eq1 l m && plainL plain l) (some true) none
noncomputable def eq3 (A : List As) (l m : List Value) : M Sy (Option Bool) := bind (frcV l) fun o => bind (frcV m) fun p => ret (sameO A l m o p)
noncomputable def ansEq (op : BinOp) (b : Option Bool) : M Sy Nxt := match b with
 | some b => match op with
  | .eql => val (.bool b)
  | .neq => val (.bool (!b))
  | _ => fail
 | none => fail
noncomputable def frH (A : List As) (G : Oper → List Value → M Sy Nxt) (o : Oper) (vs : List Value) : M Sy Nxt := match o.op with
 | .binOp op t _ _ _ => match twoM vs with
  | some y => match y.1 with
   | .agg cs => match y.2 with
    | .agg ds => cond (Nat.beq t 27) (bind (eq3 A cs.toList ds.toList) (ansEq op)) fail
    | _ => fail
   | _ => G o vs
  | none => fail
 | _ => G o vs
theorem loc_eq3 (A : List As) (l m : List Value) : Loc (eq3 A l m) := loc_bind (loc_frcV _) fun _ => loc_bind (loc_frcV _) fun _ => loc_ret _
theorem loc_ansEq (op : BinOp) (b : Option Bool) : Loc (ansEq op b) := by
 unfold ansEq
 (repeat' split) <;> first | exact loc_val _ | exact loc_fail
theorem loc_frH {G : Oper → List Value → M Sy Nxt} (hG : ∀ o vs, Loc (G o vs)) (A : List As) (o : Oper) (vs : List Value) : Loc (frH A G o vs) := by
 unfold frH
 (repeat' split) <;> first
  | exact loc_fail
  | exact loc_cond (loc_bind (loc_eq3 _ _ _) fun _ => loc_ansEq _ _) loc_fail
  | exact hG _ _
theorem frc_tri {ρ : Env} {l : List Value} {o : Option Qe} (h : FrcIs ρ l o) : ∃ x : Tri, l = cel x ∧ (∀ e, o = some e → x = tri (e.ev ρ.q)) ∧ (o = none → BadF x) := by
 cases o with
 | some e =>
  obtain rfl : l = _ := h
  exact ⟨tri (e.ev ρ.q), rfl, fun e' he => by cases he; rfl, fun h => (by cases h)⟩
 | none =>
  obtain ⟨x, hx, rfl⟩ := h
  exact ⟨x, rfl, fun e' he => (by cases he), fun _ => hx⟩
section
variable {ρ : Env} {A : List As} {h h' : Tr (Blk Sy)} {nx nx' : Nat} {R W : List Nat} {r : Ren} {w : World}
theorem cel_inj {x y : Tri} (h : cel x = cel y) : x = y := by
 obtain ⟨a, s, t⟩ := x
 obtain ⟨b, u, v⟩ := y
 simp only [cel, List.cons.injEq, Value.bool.injEq, Value.string.injEq, and_true] at h
 obtain ⟨rfl, rfl, rfl⟩ := h
 rfl
theorem eq3_ok (hA : AllH ρ A) {l m l' m' : List Value} {b : Option Bool} (e : eq3 A l m h nx = .ok b h' nx' R W) (hl : VsR r l l') (hm : VsR r m m') (hM : Mod (symSig ρ) r h.get w) :
  h' = h ∧ nx' = nx ∧ W = [] ∧ ∃ x y : Tri, l' = cel x ∧ m' = cel y ∧ ∀ t, b = some t → t = tbeq x y := by
 obtain ⟨o, h1, nx1, R1, W1, R2, W2, q1, q2, rfl, rfl⟩ := bind_ok e
 obtain ⟨rfl, rfl, rfl, i1⟩ := frcV_ok q1 hl hM
 obtain ⟨p, h2, nx2, R3, W3, R4, W4, q3, q4, rfl, rfl⟩ := bind_ok q2
 obtain ⟨rfl, rfl, rfl, i2⟩ := frcV_ok q3 hm hM
 obtain ⟨rfl, rfl, rfl, rfl⟩ := ret_ok q4
 obtain ⟨x, rfl, x1, x2⟩ := frc_tri i1
 obtain ⟨y, rfl, y1, y2⟩ := frc_tri i2
 refine ⟨rfl, rfl, by simp, x, y, rfl, rfl, fun t ht => ?_⟩
 have neg : x ≠ y → tbeq x y = false := fun hn => by
  cases hb : tbeq x y with
  | false => rfl
  | true => exact absurd (tbeq_iff.1 hb) hn
 unfold sameO at ht
 cases o with
 | some e0 =>
  have hx := x1 e0 rfl
  cases p with
  | some f =>
   have hy := y1 f rfl
   simp only at ht
   cases hb : e0.beq f with
   | true =>
    rw [hb] at ht
    cases ht
    rw [hx, hy, Qe.beq_ok _ _ hb]
    exact (tbeq_iff.2 rfl).symm
   | false =>
    rw [hb] at ht
    have hs := ask_same hA ht
    cases t with
    | true => rw [hx, hy, hs.1 rfl]; exact (tbeq_iff.2 rfl).symm
    | false =>
     refine (neg fun h => ?_).symm
     rw [hx, hy] at h
     have := hs.2 (tri_inj h)
     cases this
  | none =>
   simp only at ht
   cases hf : fitB A e0 with
   | none => rw [hf] at ht; cases ht
   | some u =>
    rw [hf] at ht
    cases u with
    | false => cases ht
    | true =>
     cases ht
     refine (neg fun h => ?_).symm
     have hbad := y2 rfl
     rw [← h, hx] at hbad
     exact not_bad ((fitB_ok hA hf).1 rfl) hbad
 | none =>
  cases p with
  | some f =>
   have hy := y1 f rfl
   simp only at ht
   cases hf : fitB A f with
   | none => rw [hf] at ht; cases ht
   | some u =>
    rw [hf] at ht
    cases u with
    | false => cases ht
    | true =>
     cases ht
     refine (neg fun h => ?_).symm
     have hbad := x2 rfl
     rw [h, hy] at hbad
     exact not_bad ((fitB_ok hA hf).1 rfl) hbad
  | none =>
   simp only at ht
   cases hk : (eqL eq1 l m && plainL plain l) with
   | false => rw [hk] at ht; cases ht
   | true =>
    rw [hk] at ht
    cases ht
    simp only [Bool.and_eq_true] at hk
    have e1 := eqL_ok eq1_ok hk.1
    subst e1
    have e2 := hl.eq_of_plain hk.2
    have e3 := hm.eq_of_plain hk.2
    rw [← e2] at e3
    rw [cel_inj e3]
    exact (tbeq_iff.2 rfl).symm
theorem run_eqs (op : BinOp) (t : TypeId) (x y : Operand) (cs ds : Array Value) (b : Bool) (v : Value) (hm : Try.prog.eqGuardType Try.prog.depth t = false) (he : (Op.equalIn 10000 t (.agg cs) (.agg ds)).run Try.prog w = .ok b w) (hv : (op = .eql ∧ v = .bool b) ∨ (op = .neq ∧ v = .bool (!b))) :
  (do eqGuard op t x y (.agg cs) (.agg ds); binOp op t (.agg cs) (.agg ds) : Sem Value).run Try.prog w = .ok v w := by
 have hg := run_eqGuard_agg (P := Try.prog) w op t x y cs ds hm
 have he' : (Op.equal t (.agg cs) (.agg ds)).run Try.prog w = .ok b w := he
 rcases hv with ⟨rfl, rfl⟩ | ⟨rfl, rfl⟩
 ·rw [Sem.run_bind, hg]
  simp [binOp, he']
 ·rw [Sem.run_bind, hg]
  simp [binOp, he']
theorem ansEq_ok {op : BinOp} {b : Option Bool} {x : Nxt} (e : ansEq op b h nx = .ok x h' nx' R W) : h' = h ∧ nx' = nx ∧ W = [] ∧ ∃ t v, b = some t ∧ x = .val v ∧ ((op = .eql ∧ v = .bool t) ∨ (op = .neq ∧ v = .bool (!t))) := by
 unfold ansEq at e
 cases b with
 | none => cases (show (fail : M Sy Nxt) h nx = _ from e)
 | some t =>
  cases op with
  | eql =>
   obtain ⟨rfl, rfl, rfl, rfl⟩ := val_ok (show (val (.bool t) : M Sy Nxt) h nx = _ from e)
   exact ⟨rfl, rfl, rfl, t, _, rfl, rfl, .inl ⟨rfl, rfl⟩⟩
  | neq =>
   obtain ⟨rfl, rfl, rfl, rfl⟩ := val_ok (show (val (.bool (!t)) : M Sy Nxt) h nx = _ from e)
   exact ⟨rfl, rfl, rfl, t, _, rfl, rfl, .inr ⟨rfl, rfl⟩⟩
  | _ => cases (show (fail : M Sy Nxt) h nx = _ from e)
theorem frH_ok (hA : AllH ρ A) {G : Oper → List Value → M Sy Nxt} {C : Cfg Sy} (hG : HardOK (symSig ρ) Try.prog { C with hard := G }) (hC : C.hard = frH A G) : HardOK (symSig ρ) Try.prog C := by
 intro o vs h nx x h' nx' R W hs e r w ρo hM hN hv
 rw [hC] at e
 unfold frH at e
 have back : G o vs h nx = .ok x h' nx' R W → nx ≤ nx' ∧ After (symSig ρ) Try.prog ((execOp ρo o).run Try.prog w) r w nx nx' W h'.get x := fun e2 => hG o vs h nx x h' nx' R W hs e2 r w ρo hM hN hv
 cases hop : o.op with
 | binOp op t p q yt =>
  rw [hop] at e
  simp only at e
  have hops : o.op.operands.toList.map ρo = [ρo p, ρo q] := by rw [hop]; rfl
  rw [hops] at hv
  rcases vs with _ | ⟨u, _ | ⟨v, _ | ⟨z, l⟩⟩⟩ <;> first | (cases (show (fail : M Sy Nxt) h nx = _ from e); done) | skip
  simp only [twoM] at e
  cases hv with
  | cons hu hv => cases hv with
   | cons hv hn =>
    cases u <;> first | exact back e | skip
    rename_i cs
    cases v <;> first | (cases (show (fail : M Sy Nxt) h nx = _ from e); done) | skip
    rename_i ds
    obtain ⟨cl⟩ := cs
    obtain ⟨dl⟩ := ds
    obtain ⟨cl', hc1, hc2⟩ := vr_agg hu
    obtain ⟨dl', hd1, hd2⟩ := vr_agg hv
    simp only at e
    obtain ⟨ht, e⟩ := cond_ok e
    have htt := Nat.eq_of_beq_eq_true ht
    have fin : ∀ {b : Bool} {v : Value}, (Op.equalIn 10000 t (.agg ⟨cl'⟩) (.agg ⟨dl'⟩)).run Try.prog w = .ok b w → Try.prog.eqGuardType Try.prog.depth t = false → ((op = .eql ∧ v = .bool b) ∨ (op = .neq ∧ v = .bool (!b))) →
      (execOp ρo o).run Try.prog w = .ok (.value v) w := fun he hm hv => by
     have := run_eqs op t p q ⟨cl'⟩ ⟨dl'⟩ _ _ hm he hv
     simp only [execOp, hop, hc1, hd1]
     rw [Sem.run_bind, this]
     rfl
    obtain ⟨b, h1, nx1, R1, W1, R2, W2, e1, e2, rfl, rfl⟩ := bind_ok e
    obtain ⟨rfl, rfl, rfl, x1, y1, rfl, rfl, hb⟩ := eq3_ok hA e1 hc2 hd2 hM
    obtain ⟨rfl, rfl, rfl, t1, v1, rfl, rfl, hv1⟩ := ansEq_ok e2
    have := hb t1 rfl
    subst this
    refine ⟨Nat.le_refl _, v1, w, r, fin (by rw [htt]; exact eqIn_frac 9998 x1 y1 w) (by rw [htt]; kernel_rfl) hv1, ?_, by simpa using Ext.refl _ _ hM⟩
    rcases hv1 with ⟨_, rfl⟩ | ⟨_, rfl⟩ <;> exact .same rfl
 | _ => rw [hop] at e; exact back e
end
noncomputable def lsCfgQ (kp : Bool) (A : List As) (B : List Ix) (j : Jmps) : Cfg Sy where
 hid _ := symHid
 G := natCfg.G
 glob := natCfg.glob
 tab := natCfg.tab
 len := symLen
 jmp := j
 hard := lsHard kp A B (frH A (memHard Try.prog memC))
instance lsHardQ (kp : Bool) (A : List As) (B : List Ix) (j : Jmps) : HardLoc (lsCfgQ kp A B j) := ⟨loc_lsHard (loc_frH (loc_memHard Try.prog memC) A) kp A B⟩
end Fq
noncomputable def asRp (x : Blk Sy) : Option (Nat × Nat × Nat × Int) := match x with
 | .fact f => match f with
  | .rp c f a s => some (c, f, a, s)
  | _ => none
 | _ => none
noncomputable def asRl (x : Blk Sy) : Option Nat := match x with
 | .fact f => match f with
  | .rl c => some c
  | _ => none
 | _ => none
noncomputable def rpOf (v : Value) : M Sy (Option (Nat × Nat × Nat × Int)) := match chanOf v with
 | some i => bind (rd i) fun x => ret (asRp x)
 | none => ret none
noncomputable def rlOf (v : Value) : M Sy (Option Nat) := match chanOf v with
 | some i => bind (rd i) fun x => ret (asRl x)
 | none => ret none
theorem loc_rpOf (v : Value) : Loc (rpOf v) := by
 unfold rpOf
 split
 ·exact loc_bind (loc_rd _) fun _ => loc_ret _
 ·exact loc_ret _
theorem loc_rlOf (v : Value) : Loc (rlOf v) := by
 unfold rlOf
 split
 ·exact loc_bind (loc_rd _) fun _ => loc_ret _
 ·exact loc_ret _
noncomputable def hdV (vs : List Value) : Value := match vs with
 | v :: _ => v
 | [] => undef
noncomputable def rwLoad (B : List Ix) (t : TypeId) (c f a : Nat) (s : Int) : M Sy Nxt := match isAggT Try.prog t with
 | some b => cond b (match sizeT Try.prog t with
  | some z => match elB B (c + f) a s with
   | some e => cond (Nat.beq z 3) (bind (newFacts [.ng e, .fn e, .fd e]) fun vs => val (.agg ⟨vs⟩))
    (cond (Nat.beq z 6 && Nat.beq f 0) (match elB B (c + 1) a s with
     | some g => bind (newFacts [.ng e, .fn e, .fd e, .ng g, .fn g, .fd g]) fun vs => val (.agg ⟨vs⟩)
     | none => fail) fail)
   | none => fail
  | none => fail) fail
 | none => fail
noncomputable def rwField (s : TypeId) (f : Nat) (p : Nat × Nat × Nat × Int) : M Sy Nxt := match structT Try.prog s with
 | some fs => match fs[f]? with
  | some fd => match sizeT Try.prog fd.type with
   | some n => cond (Nat.beq n 3 && (Nat.beq p.2.1 0 && (Nat.ble f 1 && Nat.beq fd.offset (f * 3)))) (lVal (.rp p.1 f p.2.2.1 p.2.2.2)) fail
   | none => fail
  | none => fail
 | none => fail
noncomputable def rwIx (B : List Ix) (t : TypeId) (p : Nat × Int) (c : Nat) : M Sy Nxt := match sliceT Try.prog t with
 | some e => match sizeT Try.prog e with
  | some z => match lnP B c with
   | some n => cond (Nat.beq z 6 && inB B p.1 p.2 n) (lVal (.rp c 0 p.1 p.2)) fail
   | none => fail
  | none => fail
 | none => fail
noncomputable def rwLen (B : List Ix) (l : Call) (vs : List Value) (c : Nat) : M Sy Nxt := match l.callee with
 | .builtin b => match b with
  | .len => match l.argTypes[0]? with
   | some t => match oneM vs with
    | some _ => match sliceT Try.prog t with
     | some _ => match lnP B c with
      | some n => lVal (.ix n.1 n.2)
      | none => fail
     | none => fail
    | none => fail
   | none => fail
  | _ => fail
 | _ => fail
noncomputable def rwH (B : List Ix) (G : Oper → List Value → M Sy Nxt) (o : Oper) (vs : List Value) : M Sy Nxt := match o.op with
 | .load t _ => bind (rpOf (hdV vs)) fun y => match y with
  | some p => rwLoad B t p.1 p.2.1 p.2.2.1 p.2.2.2
  | none => G o vs
 | .fieldAddr s _ f => bind (rpOf (hdV vs)) fun y => match y with
  | some p => rwField s f p
  | none => G o vs
 | .indexAddr t _ _ => bind (rlOf (hdV vs)) fun y => match y with
  | some c => match twoM vs with
   | some z => bind (ixV z.2) fun p => rwIx B t p c
   | none => fail
  | none => G o vs
 | .call l => bind (rlOf (hdV vs)) fun y => match y with
  | some c => rwLen B l vs c
  | none => G o vs
 | _ => G o vs
theorem loc_rwLoad (B : List Ix) (t : TypeId) (c f a : Nat) (s : Int) : Loc (rwLoad B t c f a s) := by
 unfold rwLoad
 split
 ·refine loc_cond ?_ loc_fail
  split
  ·split
   ·refine loc_cond (loc_bind (loc_newFacts _) fun _ => loc_val _) (loc_cond ?_ loc_fail)
    split
    ·exact loc_bind (loc_newFacts _) fun _ => loc_val _
    ·exact loc_fail
   ·exact loc_fail
  ·exact loc_fail
 ·exact loc_fail
theorem loc_rwH {G : Oper → List Value → M Sy Nxt} (hG : ∀ o vs, Loc (G o vs)) (B : List Ix) (o : Oper) (vs : List Value) : Loc (rwH B G o vs) := by
 unfold rwH
 split
 ·refine loc_bind (loc_rpOf _) fun y => ?_
  split
  ·exact loc_rwLoad _ _ _ _ _ _
  ·exact hG _ _
 ·refine loc_bind (loc_rpOf _) fun y => ?_
  split
  ·unfold rwField
   (repeat' split) <;> first | exact loc_fail | exact loc_cond (loc_lVal _) loc_fail
  ·exact hG _ _
 ·refine loc_bind (loc_rlOf _) fun y => ?_
  split
  ·split
   ·refine loc_bind (loc_ixV _) fun _ => ?_
    unfold rwIx
    (repeat' split) <;> first | exact loc_fail | exact loc_cond (loc_lVal _) loc_fail
   ·exact loc_fail
  ·exact hG _ _
 ·refine loc_bind (loc_rlOf _) fun y => ?_
  split
  ·unfold rwLen
   (repeat' split) <;> first | exact loc_fail | exact loc_lVal _
  ·exact hG _ _
 ·exact hG _ _
section
variable {ρ : Env} {A : List As} {B : List Ix} {h h' : Tr (Blk Sy)} {nx nx' : Nat} {R W : List Nat} {r : Ren} {w : World}
theorem rpOf_ok {v v' : Value} {y : Option (Nat × Nat × Nat × Int)} (e : rpOf v h nx = .ok y h' nx' R W) (hv : VR r v v') (hM : Mod (symSig ρ) r h.get w) : h' = h ∧ nx' = nx ∧ W = [] ∧ ∀ p, y = some p → rpIs ρ p.1 p.2.1 p.2.2.1 p.2.2.2 w v' := by
 unfold rpOf at e
 cases hc : chanOf v with
 | none =>
  rw [hc] at e
  obtain ⟨rfl, rfl, rfl, rfl⟩ := ret_ok e
  exact ⟨rfl, rfl, rfl, fun p hp => (by cases hp)⟩
 | some i =>
  rw [hc] at e
  have hv' := vr_chanV hc hv
  obtain ⟨x, h1, nx1, R1, W1, R2, W2, e1, e2, rfl, rfl⟩ := bind_ok e
  obtain ⟨hg, rfl, rfl, rfl⟩ := rdb_ok e1
  obtain ⟨rfl, rfl, rfl, rfl⟩ := ret_ok e2
  refine ⟨rfl, rfl, rfl, fun p hp => ?_⟩
  cases x <;> first | (cases hp; done) | skip
  rename_i f
  cases f <;> first | (cases hp; done) | skip
  cases hp
  obtain ⟨v0, q1, q2, _⟩ := hM.fact i _ hg
  rw [hv'] at q1
  cases q1
  exact q2
theorem rlOf_ok {v v' : Value} {y : Option Nat} (e : rlOf v h nx = .ok y h' nx' R W) (hv : VR r v v') (hM : Mod (symSig ρ) r h.get w) : h' = h ∧ nx' = nx ∧ W = [] ∧ ∀ c, y = some c → rlIs ρ c w v' := by
 unfold rlOf at e
 cases hc : chanOf v with
 | none =>
  rw [hc] at e
  obtain ⟨rfl, rfl, rfl, rfl⟩ := ret_ok e
  exact ⟨rfl, rfl, rfl, fun p hp => (by cases hp)⟩
 | some i =>
  rw [hc] at e
  have hv' := vr_chanV hc hv
  obtain ⟨x, h1, nx1, R1, W1, R2, W2, e1, e2, rfl, rfl⟩ := bind_ok e
  obtain ⟨hg, rfl, rfl, rfl⟩ := rdb_ok e1
  obtain ⟨rfl, rfl, rfl, rfl⟩ := ret_ok e2
  refine ⟨rfl, rfl, rfl, fun p hp => ?_⟩
  cases x <;> first | (cases hp; done) | skip
  rename_i f
  cases f <;> first | (cases hp; done) | skip
  cases hp
  obtain ⟨v0, q1, q2, _⟩ := hM.fact i _ hg
  rw [hv'] at q1
  cases q1
  exact q2
theorem frC_holds (e : Qe) : HoldsL (symSig ρ) w [.ng e, .fn e, .fd e] (frC (e.ev ρ.q)) := ⟨_, _, rfl, rfl, rfl, _, _, rfl, rfl, rfl, _, _, rfl, rfl, rfl, rfl⟩
theorem frC2_holds (e g : Qe) : HoldsL (symSig ρ) w [.ng e, .fn e, .fd e, .ng g, .fn g, .fd g] (frC (e.ev ρ.q) ++ frC (g.ev ρ.q)) := ⟨_, _, rfl, rfl, rfl, _, _, rfl, rfl, rfl, _, _, rfl, rfl, rfl, _, _, rfl, rfl, rfl, _, _, rfl, rfl, rfl, _, _, rfl, rfl, rfl, rfl⟩
theorem RowsAt.part {cl : List Value} {off : Nat} {qs rs : List Rat} (h : RowsAt cl off qs rs) {i : Nat} {q p : Rat} (hq : qs[i]? = some q) (hp : rs[i]? = some p) (f : Nat) (hf : f < 2) : (cl.drop (off + i * 6 + f * 3)).take 3 = frC (cond (Nat.beq f 0) q p) := by
 have h6 := h.2 i q p hq hp
 have e : (cl.drop (off + i * 6 + f * 3)).take 3 = (((cl.drop (off + i * 6)).take 6).drop (f * 3)).take 3 := by
  rw [List.drop_take, List.drop_drop, List.take_take, Nat.min_eq_left (by omega)]
 rw [e, h6]
 rcases f with _ | _ | f
 ·rfl
 ·rfl
 ·omega
theorem rwLoad_ok (hB : AllX ρ B) {t : TypeId} {c f a : Nat} {s : Int} {v' : Value} {x : Nxt} (e : rwLoad B t c f a s h nx = .ok x h' nx' R W) (hx : rpIs ρ c f a s w v') (hM : Mod (symSig ρ) r h.get w) (hN : New r nx nx') :
  nx ≤ nx' ∧ ∃ v u ad r', x = .val v ∧ v' = .pointer (some ad) ∧ (loadVar t ad).run Try.prog w = .ok u w ∧ VR r' v u ∧ Ext (symSig ρ) r w nx nx' W h'.get r' w := by
 obtain ⟨hf2, b, off, cl, ty, z, i, rfl, hi, hlt, q1, q2, q3⟩ := hx
 unfold rwLoad at e
 cases hag : isAggT Try.prog t with
 | none => rw [hag] at e; cases (show (fail : M Sy Nxt) h nx = _ from e)
 | some ag =>
  rw [hag] at e; simp only at e
  have hag' := isAgg_of hag w
  obtain ⟨hk, e2⟩ := cond_ok e
  subst hk
  cases hs : sizeT Try.prog t with
  | none => rw [hs] at e2; cases (show (fail : M Sy Nxt) h nx = _ from e2)
  | some n =>
   rw [hs] at e2; simp only at e2
   have hs' := size_of hs w
   cases he : elB B (c + f) a s with
   | none => rw [he] at e2; cases (show (fail : M Sy Nxt) h nx = _ from e2)
   | some q =>
    rw [he] at e2; simp only at e2
    obtain ⟨j, hj, hel⟩ := elB_ok hB he
    have : j = i := by have : (j : Int) = i := hj.trans hi.symm; omega
    subst this
    have hlr : j < (ρ.lst (c + 1)).length := by rw [q3.1]; exact hlt
    obtain ⟨q0, hq0⟩ : ∃ q0, (ρ.lst c)[j]? = some q0 := ⟨_, List.getElem?_eq_getElem hlt⟩
    obtain ⟨p0, hp0⟩ : ∃ p0, (ρ.lst (c + 1))[j]? = some p0 := ⟨_, List.getElem?_eq_getElem hlr⟩
    have hqe : cond (Nat.beq f 0) q0 p0 = q.ev ρ.q := by
     rcases f with _ | _ | f
     ·rw [Nat.add_zero, hq0] at hel; exact Option.some.inj hel
     ·rw [hp0] at hel; exact Option.some.inj hel
     ·omega
    rcases condB e2 with ⟨hk3, e3⟩ | ⟨_, e3⟩
    ·obtain rfl := Nat.eq_of_beq_eq_true hk3
     obtain ⟨vs, h1, nx1, R1, W1, R2, W2, e5, e6, rfl, rfl⟩ := bind_ok e3
     obtain ⟨rfl, rfl, rfl, rfl⟩ := val_ok e6
     have h3 := q3.part hq0 hp0 f hf2
     rw [hqe] at h3
     obtain ⟨hle, r', hX, hv⟩ := newFacts_ok _ e5 hM hN (frC_holds q)
     rw [← h3] at hv
     have hl := row_at (P := Try.prog) q2 (off := off + j * 6 + f * 3) (n := 3) (by rw [h3]; rfl)
     exact ⟨hle, _, .agg ⟨(cl.drop (off + j * 6 + f * 3)).take 3⟩, _, r', rfl, rfl, by simp [loadVar, hag', hs', hl], .agg hv, by simpa using hX⟩
    ·obtain ⟨hk3, e4⟩ := cond_ok e3
     simp only [Bool.and_eq_true] at hk3
     obtain rfl := Nat.eq_of_beq_eq_true hk3.1
     obtain rfl := Nat.eq_of_beq_eq_true hk3.2
     cases hg : elB B (c + 1) a s with
     | none => rw [hg] at e4; cases (show (fail : M Sy Nxt) h nx = _ from e4)
     | some g =>
      rw [hg] at e4; simp only at e4
      obtain ⟨k, hk, hkl⟩ := elB_ok hB hg
      have : k = j := by have : (k : Int) = j := hk.trans hi.symm; omega
      subst this
      obtain ⟨vs, h1, nx1, R1, W1, R2, W2, e5, e6, rfl, rfl⟩ := bind_ok e4
      obtain ⟨rfl, rfl, rfl, rfl⟩ := val_ok e6
      have h6 := q3.2 k _ _ hq0 hp0
      rw [show q0 = q.ev ρ.q from hqe, show p0 = g.ev ρ.q from by rw [hp0] at hkl; exact Option.some.inj hkl] at h6
      obtain ⟨hle, r', hX, hv⟩ := newFacts_ok _ e5 hM hN (frC2_holds q g)
      rw [← h6] at hv
      have hl := row_at (P := Try.prog) q2 (off := off + k * 6) (n := 6) (by rw [h6]; rfl)
      exact ⟨hle, _, .agg ⟨(cl.drop (off + k * 6)).take 6⟩, _, r', rfl, rfl, by simp [loadVar, hag', hs', hl], .agg hv, by simpa using hX⟩
theorem rwField_ok {s : TypeId} {f : Nat} {p : Nat × Nat × Nat × Int} {v' : Value} {x : Nxt} (e : rwField s f p h nx = .ok x h' nx' R W) (hx : rpIs ρ p.1 p.2.1 p.2.2.1 p.2.2.2 w v') (hM : Mod (symSig ρ) r h.get w) (hN : New r nx nx') :
  nx ≤ nx' ∧ ∃ v u r', x = .val v ∧ (Instr.fieldAt s v' f).run Try.prog w = .ok u w ∧ VR r' v u ∧ Ext (symSig ρ) r w nx nx' W h'.get r' w := by
 obtain ⟨c, f0, a, k⟩ := p
 obtain ⟨_, b, off, cl, ty, z, i, rfl, hi, hlt, q1, q2, q3⟩ := hx
 unfold rwField at e
 cases hs : structT Try.prog s with
 | none => rw [hs] at e; cases (show (fail : M Sy Nxt) h nx = _ from e)
 | some fs =>
  rw [hs] at e; simp only at e
  cases hf : fs[f]? with
  | none => rw [hf] at e; cases (show (fail : M Sy Nxt) h nx = _ from e)
  | some fd =>
   rw [hf] at e; simp only at e
   cases hz : sizeT Try.prog fd.type with
   | none => rw [hz] at e; cases (show (fail : M Sy Nxt) h nx = _ from e)
   | some n =>
    rw [hz] at e; simp only at e
    obtain ⟨hk, e2⟩ := cond_ok e
    simp only [Bool.and_eq_true] at hk
    obtain ⟨k1, k2, k3, k4⟩ := hk
    obtain rfl := Nat.eq_of_beq_eq_true k1
    obtain rfl := Nat.eq_of_beq_eq_true k2
    have k3' := Nat.le_of_ble_eq_true k3
    have k4' := Nat.eq_of_beq_eq_true k4
    obtain ⟨hle, v, r', rfl, hv, hX⟩ := lVal_ok (v' := vptr b (off + i * 6 + f * 3)) e2 hM hN ⟨by omega, b, off, cl, ty, z, i, rfl, hi, hlt, q1, q2, q3⟩
    refine ⟨hle, v, _, r', rfl, ?_, hv, hX⟩
    simp [Instr.fieldAt, run_underlying (structT_of hs), hf, Instr.sureAddr, vptr, fieldPlace, size_of hz, add_off, k4']
theorem rwIx_ok (hB : AllX ρ B) {t : TypeId} {p : Nat × Int} {c : Nat} {v' : Value} {x : Nxt} (e : rwIx B t p c h nx = .ok x h' nx' R W) (hx : rlIs ρ c w v') (hM : Mod (symSig ρ) r h.get w) (hN : New r nx nx') :
  nx ≤ nx' ∧ ∃ v u r', x = .val v ∧ (Instr.indexAt t v' (.int .i64 (atIx ρ p.1 p.2))).run Try.prog w = .ok u w ∧ VR r' v u ∧ Ext (symSig ρ) r w nx nx' W h'.get r' w := by
 unfold rwIx at e
 cases hs : sliceT Try.prog t with
 | none => rw [hs] at e; cases (show (fail : M Sy Nxt) h nx = _ from e)
 | some el =>
  rw [hs] at e; simp only at e
  cases hz : sizeT Try.prog el with
  | none => rw [hz] at e; cases (show (fail : M Sy Nxt) h nx = _ from e)
  | some s =>
   rw [hz] at e; simp only at e
   cases hn : lnP B c with
   | none => rw [hn] at e; cases (show (fail : M Sy Nxt) h nx = _ from e)
   | some n =>
    rw [hn] at e; simp only at e
    obtain ⟨hk, e2⟩ := cond_ok e
    simp only [Bool.and_eq_true] at hk
    obtain rfl := Nat.eq_of_beq_eq_true hk.1
    obtain ⟨i, hi, hlt⟩ := inB_ok hB hk.2
    rw [← lnP_ok hB hn] at hlt
    have hlt : i < (ρ.lst c).length := by omega
    obtain ⟨a, m, rfl, hc, hl⟩ := hx
    obtain ⟨b, off, cl, ty, z, rfl, q1, q2, q3⟩ := hl (fun q => by rw [q] at hlt; simp at hlt)
    obtain ⟨hle, v, r', rfl, hv, hX⟩ := lVal_ok (v' := vptr b (off + i * 6)) e2 hM hN ⟨by omega, b, off, cl, ty, z, i, by rw [Nat.zero_mul, Nat.add_zero]; rfl, hi, hlt, q1, q2, q3⟩
    refine ⟨hle, v, vptr b (off + i * 6), r', rfl, ?_, hv, hX⟩
    rw [← hi]
    have c1 : (0 : Int) ≤ (i : Int) ∧ (i : Int) < ((ρ.lst c).length : Int) := by omega
    simp [Instr.indexAt, asIntOf, run_underlying (sliceT_of hs), c1, size_of hz, add_off, vptr]
    intro hle; omega
set_option maxHeartbeats 1000000 in
theorem rwH_ok (hB : AllX ρ B) {G : Oper → List Value → M Sy Nxt} {C : Cfg Sy} (hG : HardOK (symSig ρ) Try.prog { C with hard := G }) (hC : C.hard = rwH B G) : HardOK (symSig ρ) Try.prog C := by
 intro o vs h nx x h' nx' R W hs e r w ρo hM hN hv
 rw [hC] at e
 unfold rwH at e
 have back : ∀ {h1 : Tr (Blk Sy)} {nx1 : Nat} {R1 W1 : List Nat}, h1 = h → nx1 = nx → G o vs h1 nx1 = .ok x h' nx' R1 W1 → nx ≤ nx' ∧ After (symSig ρ) Try.prog ((execOp ρo o).run Try.prog w) r w nx nx' W1 h'.get x := fun q1 q2 e2 => by
  subst q1 q2
  exact hG o vs _ _ x h' nx' _ _ hs e2 r w ρo hM hN hv
 cases hop : o.op with
 | load t y =>
  rw [hop] at e
  simp only at e
  have hops : o.op.operands.toList.map ρo = [ρo y] := by rw [hop]; rfl
  obtain ⟨k, h1, nx1, R1, W1, R2, W2, e1, e2, rfl, rfl⟩ := bind_ok e
  have hv0 := hv
  rw [hops] at hv
  cases hv with
  | cons hu hn =>
   cases hn
   obtain ⟨rfl, rfl, rfl, hp⟩ := rpOf_ok e1 hu hM
   cases k with
   | none => simpa using back rfl rfl e2
   | some p =>
    obtain ⟨hle, v, u2, ad, r', rfl, hp2, hl, hvr, hX⟩ := rwLoad_ok hB e2 (hp p rfl) hM hN
    refine ⟨hle, u2, w, r', ?_, hvr, by simpa using hX⟩
    simp only [execOp, hop, hp2, Instr.loadAt, Instr.sureAddr, Sem.run_bind, Sem.run_pure, Result.andThen_ok, hl]
 | fieldAddr s y f =>
  rw [hop] at e
  simp only at e
  have hops : o.op.operands.toList.map ρo = [ρo y] := by rw [hop]; rfl
  obtain ⟨k, h1, nx1, R1, W1, R2, W2, e1, e2, rfl, rfl⟩ := bind_ok e
  rw [hops] at hv
  cases hv with
  | cons hu hn =>
   cases hn
   obtain ⟨rfl, rfl, rfl, hp⟩ := rpOf_ok e1 hu hM
   cases k with
   | none => simpa using back rfl rfl e2
   | some p =>
    obtain ⟨hle, v, u2, r', rfl, hl, hvr, hX⟩ := rwField_ok e2 (hp p rfl) hM hN
    refine ⟨hle, u2, w, r', ?_, hvr, by simpa using hX⟩
    simp only [execOp, hop, Sem.run_bind, hl, Result.andThen_ok, Sem.run_pure]
 | indexAddr t y i =>
  rw [hop] at e
  simp only at e
  have hops : o.op.operands.toList.map ρo = [ρo y, ρo i] := by rw [hop]; rfl
  obtain ⟨k, h1, nx1, R1, W1, R2, W2, e1, e2, rfl, rfl⟩ := bind_ok e
  rw [hops] at hv
  cases hv with
  | cons hu hn => cases hn with
   | cons hz hn =>
    cases hn
    obtain ⟨rfl, rfl, rfl, hp⟩ := rlOf_ok e1 hu hM
    cases k with
    | none => simpa using back rfl rfl e2
    | some c =>
     simp only [twoM] at e2
     obtain ⟨p, h3, nx3, R3, W3, R4, W4, e3, e4, rfl, rfl⟩ := bind_ok e2
     obtain ⟨rfl, rfl, rfl, hpi⟩ := ixV_ok e3 hz hM
     obtain ⟨hle, v, u2, r', rfl, hl, hvr, hX⟩ := rwIx_ok hB e4 (hp c rfl) hM hN
     refine ⟨hle, u2, w, r', ?_, hvr, by simpa using hX⟩
     simp only [execOp, hop, hpi, Sem.run_bind, hl, Result.andThen_ok, Sem.run_pure]
 | call l =>
  rw [hop] at e
  simp only at e
  obtain ⟨k, h1, nx1, R1, W1, R2, W2, e1, e2, rfl, rfl⟩ := bind_ok e
  obtain ⟨callee, args, ats⟩ := l
  have hhd : h1 = h ∧ nx1 = nx ∧ W1 = [] := by
   unfold rlOf at e1
   cases hc : chanOf (hdV vs) with
   | some i =>
    rw [hc] at e1
    obtain ⟨x1, h3, nx3, R3, W3, R4, W4, e3, e4, rfl, rfl⟩ := bind_ok e1
    obtain ⟨_, rfl, rfl, rfl⟩ := rdb_ok e3
    obtain ⟨rfl, rfl, rfl, rfl⟩ := ret_ok e4
    exact ⟨rfl, rfl, rfl⟩
   | none =>
    rw [hc] at e1
    obtain ⟨rfl, rfl, rfl, rfl⟩ := ret_ok e1
    exact ⟨rfl, rfl, rfl⟩
  obtain ⟨rfl, rfl, rfl⟩ := hhd
  cases k with
  | none => simpa using back rfl rfl e2
  | some c =>
   simp only at e2
   unfold rwLen at e2
   cases callee with
   | builtin b =>
    simp only at e2
    cases b <;> first | (cases (show (fail : M Sy Nxt) _ _ = _ from e2); done) | skip
    simp only at e2
    cases ha0 : ats[0]? with
    | none => rw [ha0] at e2; cases (show (fail : M Sy Nxt) _ _ = _ from e2)
    | some t =>
     rw [ha0] at e2; simp only at e2
     have hops : o.op.operands.toList.map ρo = args.toList.map ρo := by rw [hop]; simp [Op.operands, Call.operands]
     rw [hops] at hv
     generalize hl : args.toList.map ρo = al at hv
     rcases vs with _ | ⟨u, _ | ⟨z, l⟩⟩ <;> first | (cases (show (fail : M Sy Nxt) _ _ = _ from e2); done) | skip
     simp only [oneM] at e2
     cases hv with
     | cons hu hn =>
      cases hn
      rename_i u'
      obtain ⟨_, _, _, hp⟩ := rlOf_ok e1 hu hM
      have hA : args.map ρo = #[u'] := by rw [map_list, hl]
      cases hs2 : sliceT Try.prog t with
      | none => rw [hs2] at e2; cases (show (fail : M Sy Nxt) _ _ = _ from e2)
      | some el =>
       rw [hs2] at e2; simp only at e2
       cases hn : lnP B c with
       | none => rw [hn] at e2; cases (show (fail : M Sy Nxt) _ _ = _ from e2)
       | some n =>
        rw [hn] at e2; simp only at e2
        obtain ⟨a, m, rfl, hc, _⟩ := hp c rfl
        have hln := lnP_ok hB hn
        obtain ⟨hle, v, r', rfl, hvr, hX⟩ := lVal_ok (v' := .int .i64 (((ρ.lst c).length : Nat) : Int)) e2 hM hN (by
         show Value.int .i64 _ = .int .i64 _
         rw [hln]; rfl)
        refine ⟨hle, _, w, r', ?_, hvr, by simpa using hX⟩
        have hrun : (Builtin.len_ #[t] o.type #[.slice a (ρ.lst c).length m]).run Try.prog w = .ok (.int .i64 (((ρ.lst c).length : Nat) : Int)) w := by simp [Builtin.len_, run_underlying (sliceT_of hs2), goInt]
        have hsame : Builtin.len_ ats o.type #[.slice a (ρ.lst c).length m] = Builtin.len_ #[t] o.type #[.slice a (ρ.lst c).length m] := by simp [Builtin.len_, ha0]
        simp only [execOp, hop, resolve, hA, Sem.run_bind, Sem.run_pure, Result.andThen_ok, invoke, builtin, hsame, hrun]
   | _ => cases (show (fail : M Sy Nxt) _ _ = _ from e2)
 | _ => rw [hop] at e; exact back rfl rfl e
end
end Ev
end Go.Proofs.Ytnlhjcfpfapafaa
namespace Go.Proofs.Ytnlhjcfpfapafaa
open Go Go.RowKit
theorem search_any (w : World) (cb : Array Value) (n c : Nat) (p : Nat → Bool) (hn : n ≤ 10000)
  (hf : ∀ (W : World) (i : Nat), Below w.heap.size w W → i < n → Calls Try.prog 68 (#[.int .i64 (i : Int)] ++ cb) W fun e W' => e = .returned (.bool (p i)) ∧ Below w.heap.size w W')
  (hc : c ≤ n) (h0 : ∀ t, t < c → p t = false) (h1 : ∀ t, c ≤ t → t < n → p t = true) :
  Calls Try.prog 67 #[.int .i64 (n : Int), .func (.func 68) #[] cb] w fun e w' => e = .returned (.int .i64 (c : Int)) ∧ Below w.heap.size w w' := by
 have HF := Lib.hid hf
 have H0 := Lib.hid h0; have H1 := Lib.hid h1
 clear hf h0 h1
 go_enter Try.func67, Try.ntmps67
 go_wp2_with fail
 go_loopw [5, 6] (fun i j wr => ∃ lo hi : Nat, i = .int .i64 (lo : Int) ∧ j = .int .i64 (hi : Int) ∧ lo ≤ c ∧ c ≤ hi ∧ hi ≤ n ∧ Hid (Below w.heap.size w wr)) (fun i j _ => (intOf j - intOf i).toNat)
 case atStart => exact ⟨0, n, rfl, rfl, Nat.zero_le _, hc, Nat.le_refl _, Lib.hid (Below.refl _ _)⟩
 case round =>
  obtain ⟨lo, hi, rfl, rfl, hlc, hch, hhn, HB⟩ := hrel
  by_cases hlt : lo < hi
  ·have hcl := HF.out wr ((lo + hi) / 2) HB.out (by omega)
   rw [show (((lo + hi) / 2 : Nat) : Int) = ((lo : Int) + (hi : Int)) / 2 by omega] at hcl
   have hL : (lo : Int) < (hi : Int) := by omega
   cases hp : p ((lo + hi) / 2) <;> rw [hp] at hcl
   ·have hm : (lo + hi) / 2 < c := by
     apply Nat.lt_of_not_le
     intro q
     have := H1.out _ q (by omega)
     rw [hp] at this; cases this
    clear hp
    go_wp2_with (go_at_call 68; refine hcl.mono ?_; rintro e w' ⟨rfl, hbb⟩)
    go_roundw
    case measure => simp [intOf]; omega
    case rel => exact ⟨(lo + hi) / 2 + 1, hi, by rw [show ((lo : Int) + (hi : Int)) / 2 + 1 = (((lo + hi) / 2 + 1 : Nat) : Int) by omega], rfl, by omega, hch, hhn, Lib.hid hbb⟩
   ·have hm : c ≤ (lo + hi) / 2 := by
     apply Nat.le_of_not_lt
     intro q
     have := H0.out _ q
     rw [hp] at this; cases this
    clear hp
    go_wp2_with (go_at_call 68; refine hcl.mono ?_; rintro e w' ⟨rfl, hbb⟩)
    go_roundw
    case measure => simp [intOf]; omega
    case rel => exact ⟨lo, (lo + hi) / 2, rfl, by rw [show ((lo : Int) + (hi : Int)) / 2 = (((lo + hi) / 2 : Nat) : Int) by omega], hlc, hm, by omega, Lib.hid hbb⟩
  ·obtain rfl : lo = c := by omega
   have hL : ¬ (lo : Int) < (hi : Int) := by omega
   go_wp2_with fail
   go_ret
   exact ⟨rfl, HB.out⟩
end Go.Proofs.Ytnlhjcfpfapafaa
