/- Contracts. -/
import Derived.Test.YtaefgofheiegeaaGreatTLq22
import Derived.Laws.StructEq
import Derived.Test.YtaefgofheiegeaaGreatTLq16
import Derived.Lib.ItoaMem
namespace Go.Proofs.YtaefgofheiegeaaGreat
namespace Ev
def cf (p : List Rat) (i : Nat) : Rat := p.getD i 0
def sh (g : Nat → Rat) : Nat → Rat
  | 0 => 0
  | j + 1 => g j
def mulF : List Rat → (Nat → Rat) → Nat → Rat
  | [], _, _ => 0
  | a :: p, g, i => a * g i + sh (mulF p g) i
def e0 : Nat → Rat
  | 0 => 1
  | _ + 1 => 0
theorem cf_nil (i : Nat) : cf [] i = 0 := rfl
theorem cf_cons (a : Rat) (p : List Rat) (i : Nat) : cf (a :: p) i = a * e0 i + sh (cf p) i := by
  cases i with
  | zero => simp [cf, e0, sh]; grind
  | succ j => simp [cf, e0, sh]; grind
theorem sh_ext {g h : Nat → Rat} (e : ∀ i, g i = h i) (i : Nat) : sh g i = sh h i := by
  cases i with
  | zero => rfl
  | succ j => exact e j
def evL (x : Rat) : List Rat → Rat
  | [] => 0
  | a :: p => evL x p * x + a
theorem evL_zero (x : Rat) : ∀ l : List Rat, (∀ i, cf l i = 0) → evL x l = 0
  | [], _ => rfl
  | a :: l, h => by
    have h0 : a = 0 := h 0
    have h1 := evL_zero x l fun i => h (i + 1)
    show evL x l * x + a = 0
    rw [h0, h1]; grind
theorem evL_ext (x : Rat) : ∀ (l m : List Rat), (∀ i, cf l i = cf m i) → evL x l = evL x m
  | [], m, h => (evL_zero x m fun i => (h i).symm).symm
  | a :: l, [], h => evL_zero x (a :: l) h
  | a :: l, b :: m, h => by
    have h0 : a = b := h 0
    have h1 := evL_ext x l m fun i => h (i + 1)
    show evL x l * x + a = evL x m * x + b
    rw [h0, h1]
def addL : List Rat → List Rat → List Rat
  | [], q => q
  | a :: p, [] => a :: p
  | a :: p, b :: q => (a + b) :: addL p q
def mulL : List Rat → List Rat → List Rat
  | [], _ => []
  | a :: p, q => addL (q.map (a * ·)) (0 :: mulL p q)
theorem cf_addL : ∀ (p q : List Rat) (i : Nat), cf (addL p q) i = cf p i + cf q i
  | [], q, i => by rw [cf_nil]; show cf q i = _; grind
  | a :: p, [], i => by rw [cf_nil]; show cf (a :: p) i = _; grind
  | a :: p, b :: q, 0 => rfl
  | a :: p, b :: q, i + 1 => cf_addL p q i
theorem cf_map (a : Rat) : ∀ (q : List Rat) (i : Nat), cf (q.map (a * ·)) i = a * cf q i
  | [], i => by rw [cf_nil]; show (0 : Rat) = a * 0; simp
  | b :: q, 0 => rfl
  | b :: q, i + 1 => cf_map a q i
theorem cf_mulL : ∀ (p q : List Rat) (i : Nat), cf (mulL p q) i = mulF p (cf q) i
  | [], q, i => rfl
  | a :: p, q, i => by
    show cf (addL (q.map (a * ·)) (0 :: mulL p q)) i = a * cf q i + sh (mulF p (cf q)) i
    rw [cf_addL, cf_map, cf_cons, sh_ext (cf_mulL p q) i]; grind
def ps (p q : List Rat) (i : Nat) : Nat → Rat
  | 0 => 0
  | n + 1 => ps p q i n + cf p n * cf q (i - n)
theorem ps_cons (a : Rat) (p q : List Rat) (i : Nat) : ∀ n, ps (a :: p) q (i + 1) (n + 1) = a * cf q (i + 1) + ps p q i n
  | 0 => by simp only [ps]; show (0 : Rat) + a * cf q (i + 1) = _; grind
  | n + 1 => by
    rw [ps, ps_cons a p q i n, ps]
    rw [show i + 1 - (n + 1) = i - n by omega]
    show _ + cf p n * _ = _
    grind
theorem ps_nil (q : List Rat) (i : Nat) : ∀ n, ps [] q i n = 0
  | 0 => rfl
  | n + 1 => by rw [ps, ps_nil q i n, cf_nil]; grind
theorem ps_mulF : ∀ (p q : List Rat) (i : Nat), ps p q i (i + 1) = mulF p (cf q) i
  | [], q, i => by rw [ps_nil]; rfl
  | a :: p, q, 0 => by simp only [ps, mulF, sh]; show (0 : Rat) + a * cf q 0 = a * cf q 0 + 0; grind
  | a :: p, q, i + 1 => by
    rw [ps_cons, ps_mulF p q i]; rfl
theorem cf_beyond {p : List Rat} {i : Nat} (h : p.length ≤ i) : cf p i = 0 := by
  unfold cf
  rw [List.getD_eq_getElem?_getD, List.getElem?_eq_none h]; rfl
theorem ps_top (p q : List Rat) (i : Nat) : ∀ n m, p.length ≤ n → ps p q i (n + m) = ps p q i n
  | n, 0, _ => rfl
  | n, m + 1, h => by
    rw [← Nat.add_assoc, ps, ps_top p q i n m h, cf_beyond (by omega)]; grind
theorem ps_low (p q : List Rat) (i : Nat) : ∀ n, n + q.length ≤ i + 1 → ps p q i n = 0
  | 0, _ => rfl
  | n + 1, h => by
    rw [ps, ps_low p q i n (by omega), cf_beyond (p := q) (by omega)]; grind
end Ev
end Go.Proofs.YtaefgofheiegeaaGreat
namespace Go.Proofs.YtaefgofheiegeaaGreat
open Go Go.RowKit
namespace Ev
namespace Fq
set_option maxRecDepth 100000
abbrev Tri := Bool × ByteArray × ByteArray
def tri (q : Rat) : Tri := (Big.ng q, bst (Big.nu q), bst (Big.de q))
def cel (x : Tri) : List Value := [.bool x.1, .string x.2.1, .string x.2.2]
theorem tri_inj {p q : Rat} (h : tri p = tri q) : p = q := by
  unfold tri at h
  simp only [Prod.mk.injEq] at h
  exact Big.parts_eq h.1 (bst_inj h.2.1) (bst_inj h.2.2)
theorem not_bad {q : Rat} (h : Fit q) : ¬ BadF (tri q) := fun hb => hb q h ⟨rfl, rfl, rfl⟩
def tbeq (x y : Tri) : Bool := x.1 == y.1 && (x.2.1.toList == y.2.1.toList && x.2.2.toList == y.2.2.toList)
theorem tbeq_iff {x y : Tri} : tbeq x y = true ↔ x = y := by
  obtain ⟨a, s, t⟩ := x
  obtain ⟨b, u, v⟩ := y
  have key : ∀ p q : ByteArray, (p.toList == q.toList) = true ↔ p = q := fun p q => by
    rw [beq_iff_eq, ByteArray.toList_eq, ByteArray.toList_eq]
    obtain ⟨⟨p⟩⟩ := p
    obtain ⟨⟨q⟩⟩ := q
    simp
  simp only [tbeq, Bool.and_eq_true, key, beq_iff_eq, Prod.mk.injEq]
theorem eqIn_frac (d : Nat) (x y : Tri) (w : World) : (Op.equalIn (d + 2) 30 (.agg ⟨cel x⟩) (.agg ⟨cel y⟩)).run Tryz.prog w = .ok (tbeq x y) w := by
  have hS : Tryz.prog.underlying 30 = some (.struct (Tryz.prog.fieldsOf 30)) := by kernel_rfl
  have hp : Tryz.prog.stoodInHeld 30 = false := by kernel_rfl
  obtain ⟨a, s, t⟩ := x
  obtain ⟨b, u, v⟩ := y
  rw [show d + 2 = (d + 1) + 1 from rfl, run_equalIn_struct w (d + 1) 30 _ _ hS hp]
  simp only [Program.fieldsOf, Tryz.underlying30, cel, tbeq]
  generalize hx : (s.toList == u.toList) = b1
  generalize hy : (t.toList == v.toList) = b2
  cases a <;> cases b <;> cases b1 <;> cases b2 <;> go_simp <;> simp [hx, hy]
noncomputable def sameO (A : List As) (l m : List Value) (o p : Option Qe) : Option Bool := match o with
  | some e => match p with
    | some f => cond (e.beq f) (some true) (ask A 2 e f)
    | none => match fitB A e with
      | some t => cond t (some false) none
      | none => none
  | none => match p with
    | some f => match fitB A f with
      | some t => cond t (some false) none
      | none => none
    | none => cond (eqL eq1 l m && plainL plain l) (some true) none
noncomputable def eq3 (A : List As) (l m : List Value) : M Sy (Option Bool) := bind (frcV l) fun o => bind (frcV m) fun p => ret (sameO A l m o p)
noncomputable def ansEq (op : BinOp) (b : Option Bool) : M Sy Nxt := match b with
  | some b => match op with
    | .eql => val (.bool b)
    | .neq => val (.bool (!b))
    | _ => fail
  | none => fail
noncomputable def frH (A : List As) (G : Oper → List Value → M Sy Nxt) (o : Oper) (vs : List Value) : M Sy Nxt := match o.op with
  | .binOp op t _ _ _ => match twoM vs with
    | some y => match y.1 with
      | .agg cs => match y.2 with
        | .agg ds => cond (Nat.beq t 30) (bind (eq3 A cs.toList ds.toList) (ansEq op)) fail
        | _ => fail
      | _ => G o vs
    | none => fail
  | _ => G o vs
theorem loc_eq3 (A : List As) (l m : List Value) : Loc (eq3 A l m) := loc_bind (loc_frcV _) fun _ => loc_bind (loc_frcV _) fun _ => loc_ret _
theorem loc_ansEq (op : BinOp) (b : Option Bool) : Loc (ansEq op b) := by
  unfold ansEq
  (repeat' split) <;> first | exact loc_val _ | exact loc_fail
theorem loc_frH {G : Oper → List Value → M Sy Nxt} (hG : ∀ o vs, Loc (G o vs)) (A : List As) (o : Oper) (vs : List Value) : Loc (frH A G o vs) := by
  unfold frH
  (repeat' split) <;> first
    | exact loc_fail
    | exact loc_cond (loc_bind (loc_eq3 _ _ _) fun _ => loc_ansEq _ _) loc_fail
    | exact hG _ _
theorem frc_tri {ρ : Env} {l : List Value} {o : Option Qe} (h : FrcIs ρ l o) : ∃ x : Tri, l = cel x ∧ (∀ e, o = some e → x = tri (e.ev ρ.q)) ∧ (o = none → BadF x) := by
  cases o with
  | some e =>
    obtain rfl : l = _ := h
    exact ⟨tri (e.ev ρ.q), rfl, fun e' he => by cases he; rfl, fun h => (by cases h)⟩
  | none =>
    obtain ⟨x, hx, rfl⟩ := h
    exact ⟨x, rfl, fun e' he => (by cases he), fun _ => hx⟩
section
variable {ρ : Env} {A : List As} {h h' : Tr (Blk Sy)} {nx nx' : Nat} {R W : List Nat} {r : Ren} {w : World}
theorem cel_inj {x y : Tri} (h : cel x = cel y) : x = y := by
  obtain ⟨a, s, t⟩ := x
  obtain ⟨b, u, v⟩ := y
  simp only [cel, List.cons.injEq, Value.bool.injEq, Value.string.injEq, and_true] at h
  obtain ⟨rfl, rfl, rfl⟩ := h
  rfl
theorem eq3_ok (hA : AllH ρ A) {l m l' m' : List Value} {b : Option Bool} (e : eq3 A l m h nx = .ok b h' nx' R W) (hl : VsR r l l') (hm : VsR r m m') (hM : Mod (symSig ρ) r h.get w) :
    h' = h ∧ nx' = nx ∧ W = [] ∧ ∃ x y : Tri, l' = cel x ∧ m' = cel y ∧ ∀ t, b = some t → t = tbeq x y := by
  obtain ⟨o, h1, nx1, R1, W1, R2, W2, q1, q2, rfl, rfl⟩ := bind_ok e
  obtain ⟨rfl, rfl, rfl, i1⟩ := frcV_ok q1 hl hM
  obtain ⟨p, h2, nx2, R3, W3, R4, W4, q3, q4, rfl, rfl⟩ := bind_ok q2
  obtain ⟨rfl, rfl, rfl, i2⟩ := frcV_ok q3 hm hM
  obtain ⟨rfl, rfl, rfl, rfl⟩ := ret_ok q4
  obtain ⟨x, rfl, x1, x2⟩ := frc_tri i1
  obtain ⟨y, rfl, y1, y2⟩ := frc_tri i2
  refine ⟨rfl, rfl, by simp, x, y, rfl, rfl, fun t ht => ?_⟩
  have neg : x ≠ y → tbeq x y = false := fun hn => by
    cases hb : tbeq x y with
    | false => rfl
    | true => exact absurd (tbeq_iff.1 hb) hn
  unfold sameO at ht
  cases o with
  | some e0 =>
    have hx := x1 e0 rfl
    cases p with
    | some f =>
      have hy := y1 f rfl
      simp only at ht
      cases hb : e0.beq f with
      | true =>
        rw [hb] at ht
        cases ht
        rw [hx, hy, Qe.beq_ok _ _ hb]
        exact (tbeq_iff.2 rfl).symm
      | false =>
        rw [hb] at ht
        have hs := ask_same hA ht
        cases t with
        | true => rw [hx, hy, hs.1 rfl]; exact (tbeq_iff.2 rfl).symm
        | false =>
          refine (neg fun h => ?_).symm
          rw [hx, hy] at h
          have := hs.2 (tri_inj h)
          cases this
    | none =>
      simp only at ht
      cases hf : fitB A e0 with
      | none => rw [hf] at ht; cases ht
      | some u =>
        rw [hf] at ht
        cases u with
        | false => cases ht
        | true =>
          cases ht
          refine (neg fun h => ?_).symm
          have hbad := y2 rfl
          rw [← h, hx] at hbad
          exact not_bad ((fitB_ok hA hf).1 rfl) hbad
  | none =>
    cases p with
    | some f =>
      have hy := y1 f rfl
      simp only at ht
      cases hf : fitB A f with
      | none => rw [hf] at ht; cases ht
      | some u =>
        rw [hf] at ht
        cases u with
        | false => cases ht
        | true =>
          cases ht
          refine (neg fun h => ?_).symm
          have hbad := x2 rfl
          rw [h, hy] at hbad
          exact not_bad ((fitB_ok hA hf).1 rfl) hbad
    | none =>
      simp only at ht
      cases hk : (eqL eq1 l m && plainL plain l) with
      | false => rw [hk] at ht; cases ht
      | true =>
        rw [hk] at ht
        cases ht
        simp only [Bool.and_eq_true] at hk
        have e1 := eqL_ok eq1_ok hk.1
        subst e1
        have e2 := hl.eq_of_plain hk.2
        have e3 := hm.eq_of_plain hk.2
        rw [← e2] at e3
        rw [cel_inj e3]
        exact (tbeq_iff.2 rfl).symm
theorem run_eqs (op : BinOp) (t : TypeId) (x y : Operand) (cs ds : Array Value) (b : Bool) (v : Value) (hm : Tryz.prog.eqGuardType Tryz.prog.depth t = false) (he : (Op.equalIn 10000 t (.agg cs) (.agg ds)).run Tryz.prog w = .ok b w) (hv : (op = .eql ∧ v = .bool b) ∨ (op = .neq ∧ v = .bool (!b))) :
    (do eqGuard op t x y (.agg cs) (.agg ds); binOp op t (.agg cs) (.agg ds) : Sem Value).run Tryz.prog w = .ok v w := by
  have hg := run_eqGuard_agg (P := Tryz.prog) w op t x y cs ds hm
  have he' : (Op.equal t (.agg cs) (.agg ds)).run Tryz.prog w = .ok b w := he
  rcases hv with ⟨rfl, rfl⟩ | ⟨rfl, rfl⟩
  · rw [Sem.run_bind, hg]
    simp [binOp, he']
  · rw [Sem.run_bind, hg]
    simp [binOp, he']
theorem ansEq_ok {op : BinOp} {b : Option Bool} {x : Nxt} (e : ansEq op b h nx = .ok x h' nx' R W) : h' = h ∧ nx' = nx ∧ W = [] ∧ ∃ t v, b = some t ∧ x = .val v ∧ ((op = .eql ∧ v = .bool t) ∨ (op = .neq ∧ v = .bool (!t))) := by
  unfold ansEq at e
  cases b with
  | none => cases (show (fail : M Sy Nxt) h nx = _ from e)
  | some t =>
    cases op with
    | eql =>
      obtain ⟨rfl, rfl, rfl, rfl⟩ := val_ok (show (val (.bool t) : M Sy Nxt) h nx = _ from e)
      exact ⟨rfl, rfl, rfl, t, _, rfl, rfl, .inl ⟨rfl, rfl⟩⟩
    | neq =>
      obtain ⟨rfl, rfl, rfl, rfl⟩ := val_ok (show (val (.bool (!t)) : M Sy Nxt) h nx = _ from e)
      exact ⟨rfl, rfl, rfl, t, _, rfl, rfl, .inr ⟨rfl, rfl⟩⟩
    | _ => cases (show (fail : M Sy Nxt) h nx = _ from e)
end
noncomputable def lsCfgQ (kp : Bool) (A : List As) (B : List Ix) (j : Jmps) : Cfg Sy where
  hid _ := symHid
  G := natCfg.G
  glob := natCfg.glob
  tab := natCfg.tab
  len := symLen
  jmp := j
  hard := lsHard kp A B (frH A (memHard Tryz.prog memC))
instance lsHardQ (kp : Bool) (A : List As) (B : List Ix) (j : Jmps) : HardLoc (lsCfgQ kp A B j) := ⟨loc_lsHard (loc_frH (loc_memHard Tryz.prog memC) A) kp A B⟩
end Fq
set_option maxRecDepth 100000
section
variable {qs : List Rat} (hq : ∀ q ∈ qs, Fit q) (lo : Nat)
end
set_option maxRecDepth 100000
noncomputable def isLe (y : Nat × Le) (K c : Nat) : Bool := Nat.beq y.1 K && y.2.beq (.v c)
theorem isLe_ok {y : Nat × Le} {K c : Nat} (h : isLe y K c = true) : y = (K, .v c) := by
  obtain ⟨a, l⟩ := y
  have h' := Bool.and_eq_true_iff.1 (show (Nat.beq a K && l.beq (.v c)) = true from h)
  rw [Nat.eq_of_beq_eq_true h'.1, Le.beq_ok _ _ h'.2]
section
variable {ρ : Env} {B : List Ix}
end
set_option maxRecDepth 100000
theorem trim_ex : ∀ (l : List Rat), ∃ m, TrimAt l m := by
  have key : ∀ (k : Nat) (l : List Rat), k ≤ l.length → (∀ i, k ≤ i → i < l.length → l[i]? = some 0) → ∃ m, TrimAt l m := by
    intro k
    induction k with
    | zero => exact fun l _ hz => ⟨0, Nat.zero_le _, hz, fun h => by omega⟩
    | succ k ih =>
      intro l hk hz
      by_cases h0 : l.getD k 0 = 0
      · refine ih l (by omega) fun i h1 h2 => ?_
        rcases Nat.eq_or_lt_of_le h1 with q | q
        · subst q
          rw [List.getD_eq_getElem?_getD, List.getElem?_eq_getElem h2] at h0
          rw [List.getElem?_eq_getElem h2]
          exact congrArg some h0
        · exact hz i q h2
      · exact ⟨k + 1, hk, hz, fun _ => h0⟩
  exact fun l => key l.length l (Nat.le_refl _) fun i h1 h2 => by omega
theorem TrimAt.getD {l : List Rat} {m : Nat} (h : TrimAt l m) (i : Nat) : (l.take m).getD i 0 = l.getD i 0 := by
  rw [List.getD_eq_getElem?_getD, List.getD_eq_getElem?_getD, List.getElem?_take]
  by_cases hi : i < m
  · rw [if_pos hi]
  · rw [if_neg hi]
    by_cases h2 : i < l.length
    · rw [h.zero i (by omega) h2]; rfl
    · rw [List.getElem?_eq_none (by omega)]
theorem TrimAt.poly {l : List Rat} {m : Nat} (h : TrimAt l m) (hq : ∀ q ∈ l, Fit q) : PolyOK (l.take m) := by
  refine ⟨fun q hq2 => hq q (List.mem_of_mem_take hq2), fun hne => ?_⟩
  have hm := h.le
  have hpos : 0 < m := by
    rcases Nat.eq_zero_or_pos m with q | q
    · subst q; simp at hne
    · exact q
  have hl : (l.take m).length = m := by rw [List.length_take]; omega
  have h2 := h.last hpos
  rw [← h.getD] at h2
  rw [List.getLastD_eq_getLast?, List.getLast?_eq_getElem?, hl, ← List.getD_eq_getElem?_getD]
  exact h2
end Ev
end Go.Proofs.YtaefgofheiegeaaGreat
namespace Go.Proofs.YtaefgofheiegeaaGreat
open Go.RowKit
set_option maxRecDepth 100000 in
set_option maxHeartbeats 4000000 in
theorem rasize_any (w : World) (n : Int) (h0 : -9223372036854775808 ≤ n) (h1 : n ≤ 9223372036854775807) :
    Calls Tryz.prog 33 #[.int .i64 n] w (Nat1 w n.natAbs) := by
  have hM : n.natAbs < Big.M64 := by unfold Big.M64; omega
  have C := Lib.hid (of_num w n.natAbs hM)
  clear hM
  by_cases hn : n < 0
  · obtain ⟨u, rfl⟩ : ∃ u : Nat, n = -(u : Int) := ⟨n.natAbs, by omega⟩
    have e : (-(u : Int)).natAbs = u := by omega
    rw [e] at C ⊢
    have hwr : IntKind.u64.wrap (-IntKind.u64.wrap (-(u : Int))) = (u : Int) := by rw [IntKind.wrap_u64, IntKind.wrap_u64]; omega
    clear e
    go_enter Tryz.func33, Tryz.ntmps33
    go_wp2_with fail
    refine C.out.mono ?_
    rintro e w' ⟨v', rfl, hv, hb⟩
    go_wp2_with fail
    go_ret
    exact ⟨_, rfl, hv, hb⟩
  · obtain ⟨u, rfl⟩ : ∃ u : Nat, n = (u : Int) := ⟨n.natAbs, by omega⟩
    have e : ((u : Int)).natAbs = u := by omega
    rw [e] at C ⊢
    clear e
    go_enter Tryz.func33, Tryz.ntmps33
    go_wp2_with fail
    refine C.out.mono ?_
    rintro e w' ⟨v', rfl, hv, hb⟩
    go_wp2_with fail
    go_ret
    exact ⟨_, rfl, hv, hb⟩
def Ret2 (w : World) (v : Value) (n : Int) (e : Ending) (w' : World) : Prop := e = .returned (.tuple #[v, .int .i64 n]) ∧ Below w.heap.size w w'
theorem At3.both {w w' : World} {g : Nat} {T : TypeId} {a b c : Value} (h : At3 w g T a b c) (hb : Below w.heap.size w w') (B : Nat) (w0 : World) (hB : Below B w0 w) : At3 w' g T a b c ∧ Below B w0 w' → At3 w' g T a b c := fun _ => h.keep hb
set_option maxRecDepth 100000 in
set_option maxHeartbeats 4000000 in
theorem answer_fit (w : World) (vx : Value) (q : Rat) (k : Nat) (hx : NumIn w vx q) (sx : Sm k q) (hk : k ≤ 10000000) (hf : Fit q) :
    Calls Tryz.prog 31 #[vx] w (Ret2 w (fracV q) 0) := by
  have SX := Lib.hid sx; have HF := Lib.hid hf
  obtain ⟨A, l, c, A2, l2, c2, rfl, hx1, hx2⟩ := hx.is_agg
  have HX := Lib.hid (And.intro hx1 hx2)
  have HQ := Lib.hid hx
  obtain ⟨X0, R0, B0⟩ := boxed2 w 55 30 (.bool (Big.ng q)) (.slice A l c) (.slice A2 l2 c2) (.bool false) (.string ⟨#[]⟩) (.string ⟨#[]⟩)
  have HR0 := Lib.hid R0; have HB0 := Lib.hid B0
  have x0 := X0.c0; have x1 := X0.c1; have x2 := X0.c2
  have C := Lib.hid (fun W (h : Below w.heap.size w W) => exFrac_fit W _ q k (HQ.out.keep h) SX.out hk HF.out)
  clear hx hx1 hx2 sx X0 R0 B0 hf
  go_enter Tryz.func31, Tryz.ntmps31
  go_wp2_with fail
  refine (C.out _ HB0.out).mono ?_
  generalize (w.alloc (.cells #[.bool (Big.ng q), .slice A l c, .slice A2 l2 c2] 55)).alloc (.cells #[.bool false, .string ⟨#[]⟩, .string ⟨#[]⟩] 30) = w0 at *
  rintro e w1 ⟨rfl, hw1⟩
  unfold fracV
  have HB1 := Lib.hid (HB0.out.trans (hw1.mono HB0.out.size))
  have R1 := HR0.out.keep hw1
  have hlt := R1.lt
  have HD := Lib.hid ((At3.put R1 (.bool (Big.ng q)) (.string (bst (Big.nu q))) (.string (bst (Big.de q)))).alloc' (.cells #[.bool (Big.ng q), .string (bst (Big.nu q)), .string (bst (Big.de q))] 30))
  have HE := Lib.hid (below_alloc (put_below HB1.out (show w.heap.size ≤ w.heap.size + 1 by omega) (.bool (Big.ng q)) (.string (bst (Big.nu q))) (.string (bst (Big.de q)))) (Nat.le_refl _) (.cells #[.bool (Big.ng q), .string (bst (Big.nu q)), .string (bst (Big.de q))] 30))
  have k0 := R1.c0; have k1 := R1.c1; have k2 := R1.c2; have f0 := R1.frozen 0; have f1 := R1.frozen 1; have f2 := R1.frozen 2
  clear R1 hw1 x0 x1 x2 HR0 C
  go_wp2_with fail
  generalize ((((w1.setCell ⟨w.heap.size + 1, 0, none⟩ (.bool (Big.ng q))).setCell ⟨w.heap.size + 1, 1, none⟩ (.string (bst (Big.nu q)))).setCell ⟨w.heap.size + 1, 2, none⟩ (.string (bst (Big.de q)))).alloc (.cells #[.bool (Big.ng q), .string (bst (Big.nu q)), .string (bst (Big.de q))] 30)) = wz at HD HE ⊢
  clear k0 k1 k2 f0 f1 f2
  have r0 := HD.out.c0; have r1 := HD.out.c1; have r2 := HD.out.c2
  exact bodyPost_ret (v := .tuple #[.agg #[.bool (Big.ng q), .string (bst (Big.nu q)), .string (bst (Big.de q))], .int .i64 0]) (by simp [results, Tryz.results31, go_sem, r0, r1, r2]) rfl ⟨rfl, HE.out⟩
end Go.Proofs.YtaefgofheiegeaaGreat
namespace Go.Proofs.YtaefgofheiegeaaGreat
open Go.RowKit
def ofQ (n d : Int) : Rat := mkRat (Big.sI (decide (n < 0) != decide (d < 0)) n.natAbs) d.natAbs
theorem ofQ_by {n d : Int} {k : Nat} (hn : n.natAbs < 256 ^ k) (hd : d.natAbs < 256 ^ k) (h0 : d ≠ 0) : By k (ofQ n d) := by
  obtain ⟨_, p2, p3⟩ := Big.of_parts (decide (n < 0) != decide (d < 0)) n.natAbs d.natAbs (by omega)
  unfold ofQ
  exact ⟨by rw [p2]; exact Nat.lt_of_le_of_lt (Nat.div_le_self _ _) hn, by rw [p3]; exact Nat.lt_of_le_of_lt (Nat.div_le_self _ _) hd⟩
set_option maxRecDepth 100000 in
set_option maxHeartbeats 4000000 in
theorem raOf_any (w : World) (n d : Int) (h0 : -9223372036854775808 ≤ n) (h1 : n ≤ 9223372036854775807) (h2 : -9223372036854775808 ≤ d) (h3 : d ≤ 9223372036854775807) (hd : d ≠ 0) :
    Calls Tryz.prog 10 #[.int .i64 n, .int .i64 d] w (Ret2 w (fracV (ofQ n d)) 0) := by
  have hb : By 8 (ofQ n d) := ofQ_by (by omega) (by omega) hd
  have HF := Lib.hid (hb.fit (by omega))
  have C1 := Lib.hid (fun W => rasize_any W n h0 h1)
  have C2 := Lib.hid (fun W => rasize_any W d h2 h3)
  have z1 : Sz 1 n.natAbs := sz_word (by unfold Big.M64; omega)
  have z2 : Sz 1 d.natAbs := sz_word (by unfold Big.M64; omega)
  have C3 := Lib.hid (fun W b v u (h : NatIn W v n.natAbs) (i : NatIn W u d.natAbs) => exOf_any W b v u n.natAbs d.natAbs 1 1 h i z1 z2 (by omega) (by omega) (by omega))
  have C4 := Lib.hid (fun W v (h : NumIn W v (ofQ n d)) => answer_fit W v _ 64 h HF.out.sm (by omega) HF.out)
  have hd0 : (d == 0) = false := beq_eq_false_iff_ne.2 hd
  have HOF := Lib.hid (show ofQ n d = mkRat (Big.sI (!(decide (n < 0) == decide (d < 0))) n.natAbs) d.natAbs from rfl)
  have HR0 := Lib.hid (At3.new w 30 (.bool false) (.string ⟨#[]⟩) (.string ⟨#[]⟩))
  have HB0 := Lib.hid (box1_below w (.cells #[.bool false, .string ⟨#[]⟩, .string ⟨#[]⟩] 30))
  clear hb z1 z2 hd h0 h1 h2 h3
  obtain ⟨Q, hQ⟩ : ∃ Q, ofQ n d = Q := ⟨_, rfl⟩
  rw [hQ] at HF C4 HOF ⊢
  clear hQ
  go_enter Tryz.func10, Tryz.ntmps10
  go_wp2_with fail
  generalize w.alloc (.cells #[.bool false, .string ⟨#[]⟩, .string ⟨#[]⟩] 30) = w0 at *
  refine (C1.out _).mono ?_
  rintro e w1 ⟨v1, rfl, hv1, hw1⟩
  go_wp2_with fail
  refine (C2.out _).mono ?_
  rintro e w2 ⟨v2, rfl, hv2, hw2⟩
  go_wp2_with fail
  refine (C3.out _ _ _ _ (hv1.keep hw2) hv2).mono ?_
  rintro e w3 ⟨v3, rfl, hv3, hw3⟩
  rw [← HOF.out] at hv3
  go_wp2_with fail
  refine (C4.out _ _ hv3).mono ?_
  rintro e w4 ⟨rfl, hw4⟩
  unfold fracV
  have b1 := HB0.out.trans (hw1.mono HB0.out.size)
  have b2 := b1.trans (hw2.mono b1.size)
  have b3 := b2.trans (hw3.mono b2.size)
  have b4 := b3.trans (hw4.mono b3.size)
  have R4 := (((HR0.out.keep hw1).keep hw2).keep hw3).keep hw4
  have HD := Lib.hid (At3.put R4 (.bool (Big.ng Q)) (.string (bst (Big.nu Q))) (.string (bst (Big.de Q))))
  have HE := Lib.hid (put_below b4 (Nat.le_refl _) (.bool (Big.ng Q)) (.string (bst (Big.nu Q))) (.string (bst (Big.de Q))))
  have k0 := R4.c0; have k1 := R4.c1; have k2 := R4.c2; have f0 := R4.frozen 0; have f1 := R4.frozen 1; have f2 := R4.frozen 2
  clear R4 b1 b2 b3 b4 hw1 hw2 hw3 hw4 hv1 hv2 hv3 C1 C2 C3 C4 HOF HR0 HB0
  go_wp2_with fail
  generalize (((w4.setCell ⟨w.heap.size, 0, none⟩ (.bool (Big.ng Q))).setCell ⟨w.heap.size, 1, none⟩ (.string (bst (Big.nu Q)))).setCell ⟨w.heap.size, 2, none⟩ (.string (bst (Big.de Q)))) = wz at HD HE ⊢
  clear k0 k1 k2 f0 f1 f2
  have r0 := HD.out.c0; have r1 := HD.out.c1; have r2 := HD.out.c2
  exact bodyPost_ret (v := .tuple #[.agg #[.bool (Big.ng Q), .string (bst (Big.nu Q)), .string (bst (Big.de Q))], .int .i64 0]) (by simp [results, Tryz.results10, go_sem, r0, r1, r2]) rfl ⟨rfl, HE.out⟩
end Go.Proofs.YtaefgofheiegeaaGreat
namespace Go.Proofs.YtaefgofheiegeaaGreat
open Go Go.RowKit
namespace Ev
set_option maxRecDepth 100000
theorem ofQ_one {q : Rat} (h : q.den = 1) : ofQ q.num 1 = q := by
  have hq : q = (q.num : Rat) := by
    apply Rat.ext
    · simp
    · simp [h]
  unfold ofQ
  have hd : (decide (q.num < 0) != decide ((1 : Int) < 0)) = decide (q.num < 0) := by
    rw [show decide ((1 : Int) < 0) = false from rfl]
    cases decide (q.num < 0) <;> rfl
  rw [hd, show (1 : Int).natAbs = 1 from rfl]
  have hs : Big.sI (decide (q.num < 0)) q.num.natAbs = q.num := by
    unfold Big.sI
    by_cases h0 : q.num < 0
    · simp [h0]; omega
    · simp [h0]; omega
  rw [hs]
  conv => rhs; rw [hq]
  rw [Rat.mkRat_one]
noncomputable def isI1 (v : Value) : Bool := match v with
  | .int k z => match k with
    | .i64 => eqI z 1
    | _ => false
  | _ => false
theorem isI1_ok {v : Value} (h : isI1 v = true) : v = .int .i64 1 := by
  cases v <;> first | (cases h; done) | skip
  rename_i k z
  cases k <;> first | (cases h; done) | skip
  rw [eqI_ok (show eqI z 1 = true from h)]
noncomputable def ofS : Nat × (List Value → Option (M Sy Value)) := (10, fun args => match args with
  | [a, b] => some (bind (fact a) fun f => match f with
    | .iz k e => cond (Nat.beq k 0 && isI1 b) (bind (newFacts [.ng e, .fn e, .fd e]) fun vs => ret (.tuple ⟨[.agg ⟨vs⟩, .int .i64 0]⟩)) fail
    | _ => fail)
  | _ => none)
theorem ofS_ok {ρ : Env} : SumF (symSig ρ) Tryz.prog ofS.1 ofS.2 := by
  intro args m hm
  rcases args with _ | ⟨a, _ | ⟨b, _ | ⟨c, l⟩⟩⟩ <;> first | (cases (show none = some m from hm); done) | skip
  cases hm
  refine ⟨loc_bind (loc_fact _) fun f => ?_, fun h nx v h' nx' R W e r w args' hv hM hN => ?_⟩
  · split
    · exact loc_cond (loc_bind (loc_newFacts _) fun _ => loc_ret _) loc_fail
    · exact loc_fail
  · cases hv with
    | cons h1 hv => cases hv with
      | cons h2 h3 =>
        cases h3
        obtain ⟨f, g1, nx1, R1, W1, R2, W2, e1, e2, rfl, rfl⟩ := bind_ok e
        obtain ⟨rfl, rfl, rfl, hf⟩ := fact_ok e1 h1 hM
        cases f <;> first | (cases (show (fail : M Sy Value) _ _ = _ from e2); done) | skip
        rename_i k q
        obtain ⟨hk, e3⟩ := cond_ok e2
        simp only [Bool.and_eq_true] at hk
        obtain rfl := Nat.eq_of_beq_eq_true hk.1
        obtain rfl := isI1_ok hk.2
        have hb := h2.int
        subst hb
        obtain ⟨i1, i2, i3, i4⟩ := (show izIs 0 (q.ev ρ.q) _ from hf)
        rw [i1]
        have c0 := raOf_any w (q.ev ρ.q).num 1 i3 i4 (by decide) (by decide) (by decide)
        rw [ofQ_one i2] at c0
        have := goes_aggT (u := .int .i64 0) (f := 10) (args' := [.int .i64 (q.ev ρ.q).num, .int .i64 1]) rfl e3 hM hN (c0.mono fun en w' hr => by
          obtain ⟨h5, h6⟩ := hr
          exact ⟨_, h5, frac_holds q, h6⟩)
        simp only [List.nil_append]
        exact this
def ops1 : Code → Nat
  | .seq a _ => ops1 a
  | .region _ ops _ => ops.size
  | .scope c => ops1 c
  | .block _ c => ops1 c
  | _ => 0
noncomputable def ofF : Nat := 4
noncomputable def o1Tm : List Nat := [0, 3]
noncomputable def o1Sl (x : Sy) : List (Sl Sy) := [.f (.ls 2 0), .f x]
noncomputable def o1B : List Ix := [.ln 0 1, .bd 7, .lt 0 0 7 0 true, .lt 7 (-1) 0 0 false, .lt 7 (-1) 1 0 true, .el 0 7 (-1) (.v 3)]
noncomputable def ofSums (A : List As) : Sums Sy := sumsOf (mkTab (ofS :: symList A))
theorem ofSums_ok {ρ : Env} {A : List As} (hA : AllH ρ A) : SumOK (symSig ρ) Tryz.prog (ofSums A) := sumsOf_ok fun x hx => by
  rcases List.mem_cons.1 hx with rfl | hx
  · exact ofS_ok
  · exact symList_ok hA x hx
noncomputable def ofCl (kp : Bool) (A : List As) (B : List Ix) (n : Nat) : Cl Sy := ⟨callY Tryz.prog (lsCfg kp A B noJ) (ofSums A) n, [], fun _ => none⟩
theorem ofCl_ok {ρ : Env} {kp : Bool} {A : List As} {B : List Ix} {n : Nat} (hA : AllH ρ A) (hB : AllX ρ B) : ClOK (symSig ρ) Tryz.prog (ofCl kp A B n) :=
  have h := callY_ok (C := lsCfg kp A B noJ) (lsFits hA hB) (.none rfl) (ofSums_ok hA) n
  ⟨⟨h.1, by intro x hx; simp [ofCl] at hx, fun x m e => (by cases e)⟩, h.2⟩
set_option maxHeartbeats 4000000 in
theorem o1_round : roundT Tryz.prog (lsCfg false trA1 o1B noJ) (ofCl false trA1 o1B 20) 42 20 eqSy o1Tm (o1Sl (.ix 7 0)) (o1Sl (.ix 7 (-1))) (loopOf ofF 0) = true := by kernel_rfl
noncomputable def o2Tm : List Nat := [4, 0, 25, 26]
noncomputable def o2Sl (l : Le) (x : Sl Sy) : List (Sl Sy) := [.ow (.ol 0 l (some (6, 0))), .f (.ls 2 0), .f (.ix 6 0), x]
noncomputable def o2B : List Ix := [.ln 0 1, .ln 1 2, .bd 2, .lt 2 0 6 0 true, .lt 2 0 1 0 true, .el 0 2 0 (.v 2)]
set_option maxHeartbeats 4000000 in
theorem o2_round : roundT Tryz.prog (lsCfg false [] o2B noJ) (ofCl false [] o2B 20) 42 20 eqSy o2Tm (o2Sl (.v 1) (.f (.ix 2 0))) (o2Sl (.snoc (.v 1) (.v 2)) (.f (.ix 2 1))) (loopOf ofF 1) = true := by kernel_rfl
noncomputable def ofJ : Jmps := fun f x => cond (Nat.beq f ofF) (cond (Nat.beq (ops1 x) 10) (some (jumpM eqSy 42 o1Tm (o1Sl (.ix 1 0)) (o1Sl (.ix 6 0)))) (some (jumpM eqSy 42 o2Tm (o2Sl .nil (.p (.int .i64 0))) (o2Sl (.v 5) (.f (.ix 6 0)))))) none
noncomputable def ofA0 (p : Bool) : List As := cond p [⟨1, .v 4, z0, false⟩] []
noncomputable def ofB0 (p : Bool) : List Ix := cond p [.ln 0 1, .bd 6, .lt 0 33 6 0 false, .lt 0 0 6 0 true, .lt 6 (-1) 0 0 false, .lt 6 (-1) 1 0 true, .el 0 6 (-1) (.v 4)] [.ln 0 1, .bd 6, .lt 0 33 6 0 false, .lt 0 0 6 0 false]
set_option maxHeartbeats 4000000 in
theorem of_run (p : Bool) : tells [.ls 2 0] [.one] (call Tryz.prog (lsCfg false (ofA0 p) (ofB0 p) ofJ) (ofSums (ofA0 p)) 20 ofF) = some (.one (.one (.ow (.ol 0 (.v 5) (some (6, 0)))))) := by cases p <;> kernel_rfl
theorem of_two : ∃ fn c, (Tryz.prog).funcs[ofF]? = some fn ∧ fn.body = some c ∧ fn.ntmps = 42 ∧ loopsIn c = [loopOf ofF 0, loopOf ofF 1] ∧ Nat.beq (ops1 (loopOf ofF 0)) 10 = true ∧ Nat.beq (ops1 (loopOf ofF 1)) 10 = false := ⟨_, _, rfl, rfl, rfl, rfl, rfl, rfl⟩
noncomputable def pmF : Nat := 49
noncomputable def pmT2 : List Nat := [5, 0, 1, 24, 25, 6, 7]
noncomputable def pmS2 (l : Le) (k : Sl Sy) : List (Sl Sy) := [.ow (.ol 1 l (some (5, 0))), .f (.ls 1 0), .f (.ls 1 3), .f (.ix 5 0), .f (.ix 4 0), .f (.ix 4 0), k]
noncomputable def pmB2 : List Ix := [.ln 0 1, .ln 3 2, .ln 1 4, .bd 1, .bd 4, .bd 13, .bi 2 4 0 1 (-1) 10 0, .lt 10 0 13 0 false, .lt 4 0 5 0 true, .lt 13 0 1 0 true, .el 0 13 0 (.v 3), .df 4 0 13 0 11, .lt 11 0 2 0 true, .el 3 11 0 (.v 4)]
noncomputable def pmCs2 : List (Sl Sy) := pmS2 (.snoc (.v 1) (.v 2)) (.f (.ix 13 0))
noncomputable def pmCs2' : List (Sl Sy) := pmS2 (.snoc (.take (.snoc (.v 1) (.v 2)) 4 0) (.add (.v 2) (.mul (.v 3) (.v 4)))) (.f (.ix 13 1))
set_option maxHeartbeats 4000000 in
theorem pm_round2 : roundT Tryz.prog (lsCfg false [] pmB2 noJ) (lsClW false [] pmB2 20) 68 20 eqSy pmT2 pmCs2 pmCs2' (loopOf pmF 1) = true := by kernel_rfl
noncomputable def pmPre2 : List (Sl Sy) := pmS2 (.snoc (.v 1) (.c false 0 1)) (.f (.ix 9 0))
noncomputable def pmPost2 : List (Sl Sy) := pmS2 (.v 7) (.f (.ix 10 1))
noncomputable def pmJ2 : Tr Value → M Sy (Tr Value) := jumpM eqSy 68 pmT2 pmPre2 pmPost2
noncomputable def pmT1 : List Nat := [5, 0, 1, 24, 25]
noncomputable def pmS1 (l : Le) (i : Sl Sy) : List (Sl Sy) := [.ow (.ol 1 l (some (5, 0))), .f (.ls 1 0), .f (.ls 1 3), .f (.ix 5 0), i]
noncomputable def pmB1 : List Ix := [.ln 0 1, .ln 3 2, .ln 1 4, .bd 1, .bd 4, .bd 12, .lt 4 0 5 0 true, .bi 1 4 0 2 0 12 (-5000), .bi 3 0 0 12 (-4999) 9 0, .bi 2 4 0 1 (-1) 10 0]
noncomputable def pmCl (B : List Ix) (n : Nat) : Cl Sy := ⟨callY Tryz.prog (lsCfg false [] B noJ) (lsSumsW []) n, [], fun x => cond (Nat.beq (ops1 x) 7) (some pmJ2) none⟩
set_option maxHeartbeats 4000000 in
theorem pm_round1 : roundT Tryz.prog (lsCfg false [] pmB1 noJ) (pmCl pmB1 20) 68 20 eqSy pmT1 (pmS1 (.v 1) (.f (.ix 4 0))) (pmS1 (.v 7) (.f (.ix 4 1))) (loopOf pmF 0) = true := by kernel_rfl
noncomputable def pmJ1 : Tr Value → M Sy (Tr Value) := jumpM eqSy 68 pmT1 (pmS1 .nil (.p (.int .i64 0))) (pmS1 (.v 8) (.f (.ix 5 0)))
noncomputable def pmJ : Jmps := fun f x => cond (Nat.beq f pmF && Nat.beq (ops1 x) 1) (some pmJ1) none
noncomputable def pmB0 (a b : Bool) : List Ix := [.ln 0 1, .ln 3 2, .bd 1, .lt 1 0 0 0 false, .lt 0 0 1 0 a, .lt 2 0 0 0 false, .lt 0 0 2 0 b] ++ cond (a && b) [.bd 5, .bi 0 1 0 2 0 5 1, .lt 5 0 0 0 false] []
set_option maxHeartbeats 4000000 in
theorem pm_runT : tells [.ls 1 0, .ls 1 3] [.one, .one] (call Tryz.prog (lsCfg false [] (pmB0 true true) pmJ) (lsSumsW []) 20 pmF) = some (.one (.one (.ow (.ol 1 (.v 8) (some (5, 0)))))) := by kernel_rfl
set_option maxHeartbeats 4000000 in
theorem pm_runF (a b : Bool) (h : (a && b) = false) : tells [.ls 1 0, .ls 1 3] [.one, .one] (call Tryz.prog (lsCfg false [] (pmB0 a b) noJ) (lsSumsW []) 20 pmF) = some (.one (.one (.p (.slice none 0 0)))) := by
  cases a <;> cases b <;> first | (cases h; done) | kernel_rfl
theorem pm_two : ∃ fn c, (Tryz.prog).funcs[pmF]? = some fn ∧ fn.body = some c ∧ fn.ntmps = 68 ∧ loopsIn c = [loopOf pmF 0, loopOf pmF 1] ∧ loopsIn (loopOf pmF 0) = [loopOf pmF 1] ∧ Nat.beq (ops1 (loopOf pmF 0)) 1 = true ∧ Nat.beq (ops1 (loopOf pmF 1)) 1 = false ∧ Nat.beq (ops1 (loopOf pmF 1)) 7 = true := ⟨_, _, rfl, rfl, rfl, rfl, rfl, rfl, rfl, rfl⟩
def ofQs (qs : List Rat) (k m : Nat) : Nat → Rat
  | 2 => qs.getD k 0
  | 4 => qs.getD (m - 1) 0
  | _ => 0
theorem ofQs_fit {qs : List Rat} (hq : ∀ q ∈ qs, Fit q) (k m i : Nat) : Fit (ofQs qs k m i) := by
  unfold ofQs
  split
  · exact getD_fit hq _
  · exact getD_fit hq _
  · exact fit00
def ofNat (c k j m : Nat) : Nat → Nat
  | 1 => c
  | 2 => k
  | 6 => m
  | 7 => c - j
  | _ => 0
def ofLst (qs : List Rat) (k m : Nat) : Nat → List Rat
  | 0 => qs
  | 1 => qs.take k
  | 5 => qs.take m
  | _ => []
def ofEnv (qs : List Rat) (hq : ∀ q ∈ qs, Fit q) (lo k j m : Nat) : Env := ⟨ofQs qs k m, fun _ => (false, ⟨#[]⟩, ⟨#[]⟩), fun i _ => ofQs_fit hq k m i, fun i => (ofQs_fit hq k m i).sm.up (by decide), fun _ => bad_zero, lo, ofLst qs k m, ofNat qs.length k j m, rfl⟩
theorem condJ' {b : Bool} {m : Tr Value → M Sy (Tr Value)} {o : Option (Tr Value → M Sy (Tr Value))} (h : cond b o none = some m) : b = true ∧ o = some m := by
  cases b with
  | true => exact ⟨rfl, h⟩
  | false => cases h
section
variable {qs : List Rat} (hq : ∀ q ∈ qs, Fit q) (lo : Nat) {m : Nat}
theorem o1_jmp (hn : qs.length ≤ 10000) (ht : TrimAt qs m) : JmpOK (symSig (ofEnv qs hq lo 0 0 m)) Tryz.prog 42 (loopOf ofF 0) (jumpM eqSy 42 o1Tm (o1Sl (.ix 1 0)) (o1Sl (.ix 6 0))) := by
  have hm := ht.le
  refine @jmp_ok Sy (symSig (ofEnv qs hq lo 0 0 m)) Tryz.prog eqSy eqSy_ok 42 (loopOf ofF 0) o1Tm (o1Sl (.ix 1 0)) (o1Sl (.ix 7 0)) (o1Sl (.ix 7 (-1))) (o1Sl (.ix 6 0)) (qs.length - m) (fun j => symSig (ofEnv qs hq lo 0 j m)) (fun k => ⟨rfl, rfl, rfl⟩) rfl rfl rfl rfl ?_ ?_ ?_ ?_
  · intro w vs h
    obtain ⟨v1, l1, rfl, a1, v2, l2, rfl, a2, rfl⟩ := h
    exact ⟨v1, _, rfl, a1, v2, _, rfl, ⟨a2.1, a2.2⟩, rfl⟩
  · intro j hj w vs h
    obtain ⟨v1, l1, rfl, a1, v2, l2, rfl, a2, rfl⟩ := h
    refine ⟨v1, _, rfl, a1, v2, _, rfl, ⟨?_, a2.2⟩, rfl⟩
    have h2 : v2 = .int .i64 (((qs.length - j : Nat) : Int) + (-1)) := a2.1
    show v2 = .int .i64 (((qs.length - (j + 1) : Nat) : Int) + 0)
    rw [h2]; congr 1; omega
  · intro w vs h
    obtain ⟨v1, l1, rfl, a1, v2, l2, rfl, a2, rfl⟩ := h
    refine ⟨v1, _, rfl, a1, v2, _, rfl, ⟨?_, a2.2⟩, rfl⟩
    have h2 : v2 = .int .i64 (((qs.length - (qs.length - m) : Nat) : Int) + 0) := a2.1
    show v2 = .int .i64 (((m : Nat) : Int) + 0)
    rw [h2]; congr 1; omega
  · intro j hj ro d B0 D0 a w hAt
    have hA : AllH (ofEnv qs hq lo 0 j m) trA1 := fun x hx => by
      simp only [trA1, List.mem_cons, List.not_mem_nil, or_false] at hx
      subst hx
      exact ⟨fun _ => rfl, fun _ => rfl⟩
    have hB : AllX (ofEnv qs hq lo 0 j m) o1B := fun x hx => by
      simp only [o1B, List.mem_cons, List.not_mem_nil, or_false] at hx
      rcases hx with rfl | rfl | rfl | rfl | rfl | rfl
      · rfl
      · show qs.length - j ≤ 10000
        omega
      · show true = true ↔ ((0 : Nat) : Int) + 0 < ((qs.length - j : Nat) : Int) + 0
        exact ⟨fun _ => by omega, fun _ => rfl⟩
      · show false = true ↔ ((qs.length - j : Nat) : Int) + (-1) < ((0 : Nat) : Int) + 0
        exact ⟨fun h => (by cases h), fun h => by omega⟩
      · show true = true ↔ ((qs.length - j : Nat) : Int) + (-1) < ((qs.length : Nat) : Int) + 0
        exact ⟨fun _ => by omega, fun _ => rfl⟩
      · refine ⟨qs.length - j - 1, ?_, ?_⟩
        · show ((qs.length - j - 1 : Nat) : Int) = ((qs.length - j : Nat) : Int) + (-1)
          omega
        · exact ht.zero (qs.length - j - 1) (by omega) (by omega)
    exact round_run (C := lsCfg false _ _ noJ) (call := ofCl false _ _ 20) (fuel := 20) (lsFits hA hB) (ofCl_ok hA hB) rfl (fun y _ m e => by cases e) eqSy_ok o1_round few5 hAt
theorem o2_jmp (hn : qs.length ≤ 10000) (ht : TrimAt qs m) : JmpOK (symSig (ofEnv qs hq lo 0 0 m)) Tryz.prog 42 (loopOf ofF 1) (jumpM eqSy 42 o2Tm (o2Sl .nil (.p (.int .i64 0))) (o2Sl (.v 5) (.f (.ix 6 0)))) := by
  have hm := ht.le
  refine @jmp_ok Sy (symSig (ofEnv qs hq lo 0 0 m)) Tryz.prog eqSy eqSy_ok 42 (loopOf ofF 1) o2Tm (o2Sl .nil (.p (.int .i64 0))) (o2Sl (.v 1) (.f (.ix 2 0))) (o2Sl (.snoc (.v 1) (.v 2)) (.f (.ix 2 1))) (o2Sl (.v 5) (.f (.ix 6 0))) m (fun k => symSig (ofEnv qs hq lo k 0 m)) (fun k => ⟨rfl, rfl, rfl⟩) rfl rfl rfl rfl ?_ ?_ ?_ ?_
  · intro w vs h
    obtain ⟨v1, l1, rfl, a1, v2, l2, rfl, a2, v3, l3, rfl, a3, v4, l4, rfl, a4, rfl⟩ := h
    refine ⟨v1, _, rfl, ⟨?_, a1.2⟩, v2, _, rfl, a2, v3, _, rfl, a3, v4, _, rfl, ⟨?_, ?_⟩, rfl⟩
    · exact olIs.env (l' := .v 1) (z' := some (6, 0)) (show olIs _ 0 .nil (some (6, 0)) w v1 from a1.1) rfl rfl
    · rw [show v4 = .int .i64 0 from a4]; rfl
    · rw [show v4 = .int .i64 0 from a4]; rfl
  · intro k hk w vs h
    obtain ⟨v1, l1, rfl, a1, v2, l2, rfl, a2, v3, l3, rfl, a3, v4, l4, rfl, a4, rfl⟩ := h
    refine ⟨v1, _, rfl, ⟨?_, a1.2⟩, v2, _, rfl, a2, v3, _, rfl, a3, v4, _, rfl, ⟨?_, a4.2⟩, rfl⟩
    · refine olIs.env (ρ := ofEnv qs hq lo k 0 m) (l' := .v 1) (z' := some (6, 0)) (show olIs _ 0 (.snoc (.v 1) (.v 2)) (some (6, 0)) w v1 from a1.1) ?_ rfl
      show qs.take (k + 1) = qs.take k ++ [qs.getD k 0]
      rw [List.take_add_one, List.getD_eq_getElem?_getD, List.getElem?_eq_getElem (by omega)]; rfl
    · have h4 : v4 = .int .i64 (((k : Nat) : Int) + 1) := a4.1
      show v4 = .int .i64 (((k + 1 : Nat) : Int) + 0)
      rw [h4]; congr 1
  · intro w vs h
    obtain ⟨v1, l1, rfl, a1, v2, l2, rfl, a2, v3, l3, rfl, a3, v4, l4, rfl, a4, rfl⟩ := h
    refine ⟨v1, _, rfl, ⟨?_, a1.2⟩, v2, _, rfl, a2, v3, _, rfl, a3, v4, _, rfl, ⟨a4.1, a4.2⟩, rfl⟩
    exact olIs.env (ρ := ofEnv qs hq lo m 0 m) (l' := .v 5) (z' := some (6, 0)) (show olIs _ 0 (.v 1) (some (6, 0)) w v1 from a1.1) rfl rfl
  · intro k hk ro d B0 D0 a w hAt
    have hA : AllH (ofEnv qs hq lo k 0 m) [] := fun x hx => by simp at hx
    have hB : AllX (ofEnv qs hq lo k 0 m) o2B := fun x hx => by
      simp only [o2B, List.mem_cons, List.not_mem_nil, or_false] at hx
      rcases hx with rfl | rfl | rfl | rfl | rfl | rfl
      · rfl
      · show (qs.take k).length = k
        rw [List.length_take]; omega
      · show k ≤ 10000
        omega
      · show true = true ↔ ((k : Nat) : Int) + 0 < ((m : Nat) : Int) + 0
        exact ⟨fun _ => by omega, fun _ => rfl⟩
      · show true = true ↔ ((k : Nat) : Int) + 0 < ((qs.length : Nat) : Int) + 0
        exact ⟨fun _ => by omega, fun _ => rfl⟩
      · refine ⟨k, ?_, ?_⟩
        · show ((k : Nat) : Int) = ((k : Nat) : Int) + 0
          omega
        · show qs[k]? = some (qs.getD k 0)
          rw [List.getD_eq_getElem?_getD, List.getElem?_eq_getElem (by omega)]; rfl
    exact round_run (C := lsCfg false _ _ noJ) (call := ofCl false _ _ 20) (fuel := 20) (lsFits hA hB) (ofCl_ok hA hB) rfl (fun y _ m e => by cases e) eqSy_ok o2_round few5 hAt
theorem of_all {kp : Bool} {A : List As} {B : List Ix} (hn : qs.length ≤ 10000) (ht : TrimAt qs m) : JmpAll (symSig (ofEnv qs hq lo 0 0 m)) Tryz.prog (lsCfg kp A B ofJ) := by
  refine ⟨fun f x m e ts => ?_, fun f fn c x m hf hb hx e => ?_⟩
  · rcases condJ' (show cond (Nat.beq f ofF) (cond (Nat.beq (ops1 x) 10) (some (jumpM eqSy 42 o1Tm (o1Sl (.ix 1 0)) (o1Sl (.ix 6 0)))) (some (jumpM eqSy 42 o2Tm (o2Sl .nil (.p (.int .i64 0))) (o2Sl (.v 5) (.f (.ix 6 0)))))) none = some m from e) with ⟨_, e2⟩
    rcases condJ e2 with ⟨_, rfl⟩ | ⟨_, e3⟩
    · exact loc_jumpM _ _ _ _ _
    · cases e3; exact loc_jumpM _ _ _ _ _
  · rcases condJ' (show cond (Nat.beq f ofF) (cond (Nat.beq (ops1 x) 10) (some (jumpM eqSy 42 o1Tm (o1Sl (.ix 1 0)) (o1Sl (.ix 6 0)))) (some (jumpM eqSy 42 o2Tm (o2Sl .nil (.p (.int .i64 0))) (o2Sl (.v 5) (.f (.ix 6 0)))))) none = some m from e) with ⟨h1, e2⟩
    obtain rfl := Nat.eq_of_beq_eq_true h1
    obtain ⟨fn0, c0, q1, q2, q3, q4, q5, q6⟩ := of_two
    have hf' : (Tryz.prog).funcs[ofF]? = some fn := hf
    rw [q1] at hf'
    cases hf'
    rw [q2] at hb
    cases hb
    rw [q4] at hx
    rw [q3]
    simp only [List.mem_cons, List.not_mem_nil, or_false] at hx
    rcases hx with rfl | rfl
    · rw [q5] at e2
      cases e2
      exact @o1_jmp qs hq lo _ hn ht
    · rw [q6] at e2
      cases e2
      exact @o2_jmp qs hq lo _ hn ht
end
theorem polyOf_any (w : World) {qs : List Rat} (hq : ∀ q ∈ qs, Fit q) (hn : qs.length ≤ 10000) {m : Nat} (ht : TrimAt qs m) (h33 : m ≤ 33) {v : Value} (hv : LsIn 2 w v qs) (hG : Tryz.prog.globals.size ≤ w.heap.size) (hT : natSig.base w) :
    Calls Tryz.prog ofF ⟨[v]⟩ w fun e w' => ∃ u, e = .returned u ∧ NewOl 0 w w' u (qs.take m) ∧ Below w.heap.size w w' := by
  have hm := ht.le
  have hu : HoldsL (symSig (ofEnv qs hq w.heap.size 0 0 m)) w [.ls 2 0] [v] := ⟨v, [], rfl, LsIn.ls hv rfl, by obtain ⟨a, m, rfl, _⟩ := hv; rfl, rfl⟩
  have post : ∀ {e : Ending} {w' : World}, (∃ v', e = .returned v' ∧ (D3.one (.one (.ow (.ol 0 (.v 5) (some (6, 0))))) : D3 Sy).is (symSig (ofEnv qs hq w.heap.size 0 0 m)) w' v' ∧ Below w.heap.size w w') →
      ∃ u, e = .returned u ∧ NewOl 0 w w' u (qs.take m) ∧ Below w.heap.size w w' := by
    rintro e w' ⟨v', rfl, h1, hb⟩
    exact ⟨v', rfl, newOl_of (ρ := ofEnv qs hq w.heap.size 0 0 m) rfl h1 rfl (fun p hp => by
      cases hp
      show (((qs.take m).length : Nat) : Int) = ((m : Nat) : Int) + 0
      rw [List.length_take]; omega), hb⟩
  have c1 : m ≤ 10000 := by omega
  have c2 : false = true ↔ ((0 : Nat) : Int) + 33 < ((m : Nat) : Int) + 0 := ⟨fun h => (by cases h), fun h => by omega⟩
  rcases Nat.eq_zero_or_pos m with h0 | h0
  · have hA : AllH (ofEnv qs hq w.heap.size 0 0 m) (ofA0 false) := fun x hx => by simp [ofA0] at hx
    have hB : AllX (ofEnv qs hq w.heap.size 0 0 m) (ofB0 false) := fun x hx => by
      simp only [ofB0, cond_false, List.mem_cons, List.not_mem_nil, or_false] at hx
      rcases hx with rfl | rfl | rfl | rfl
      · rfl
      · exact c1
      · exact c2
      · show false = true ↔ ((0 : Nat) : Int) + 0 < ((m : Nat) : Int) + 0
        exact ⟨fun h => (by cases h), fun h => by omega⟩
    exact (tells_calls (lsFits hA hB) (ofSums_ok hA) (of_run false) rfl glob_few hu hG hT (Nat.le_refl _) (of_all hq w.heap.size hn ht)).mono fun e w' h => post h
  · have hA : AllH (ofEnv qs hq w.heap.size 0 0 m) (ofA0 true) := fun x hx => by
      simp only [ofA0, cond_true, List.mem_cons, List.not_mem_nil, or_false] at hx
      subst hx
      show false = true ↔ qs.getD (m - 1) 0 = 0
      exact ⟨fun h => (by cases h), fun h => absurd h (ht.last h0)⟩
    have hB : AllX (ofEnv qs hq w.heap.size 0 0 m) (ofB0 true) := fun x hx => by
      simp only [ofB0, cond_true, List.mem_cons, List.not_mem_nil, or_false] at hx
      rcases hx with rfl | rfl | rfl | rfl | rfl | rfl | rfl
      · rfl
      · exact c1
      · exact c2
      · show true = true ↔ ((0 : Nat) : Int) + 0 < ((m : Nat) : Int) + 0
        exact ⟨fun _ => by omega, fun _ => rfl⟩
      · show false = true ↔ ((m : Nat) : Int) + (-1) < ((0 : Nat) : Int) + 0
        exact ⟨fun h => (by cases h), fun h => by omega⟩
      · show true = true ↔ ((m : Nat) : Int) + (-1) < ((qs.length : Nat) : Int) + 0
        exact ⟨fun _ => by omega, fun _ => rfl⟩
      · refine ⟨m - 1, ?_, ?_⟩
        · show ((m - 1 : Nat) : Int) = ((m : Nat) : Int) + (-1)
          omega
        · show qs[m - 1]? = some (qs.getD (m - 1) 0)
          rw [List.getD_eq_getElem?_getD, List.getElem?_eq_getElem (by omega)]; rfl
    exact (tells_calls (lsFits hA hB) (ofSums_ok hA) (of_run true) rfl glob_few hu hG hT (Nat.le_refl _) (of_all hq w.heap.size hn ht)).mono fun e w' h => post h
end Ev
end Go.Proofs.YtaefgofheiegeaaGreat
