/- Contracts. -/
import Derived.Test.YtaefgofheiegeaaGreatTLq23
import Derived.Test.YtaefgofheiegeaaGreatTLq16
namespace Go.Proofs.YtaefgofheiegeaaGreat
open Go Go.RowKit
namespace Ev
set_option maxRecDepth 100000
def pd (p q : List Rat) : List Rat := (List.range (if p.length = 0 ∨ q.length = 0 then 0 else p.length + q.length - 1)).map fun i => ps p q i (i + 1)
theorem pd_len {p q : List Rat} (hp : 0 < p.length) (hq : 0 < q.length) : (pd p q).length = p.length + q.length - 1 := by
  unfold pd
  rw [if_neg (by omega)]
  simp
theorem pd_none {p q : List Rat} (h : p.length = 0 ∨ q.length = 0) : pd p q = [] := by
  unfold pd
  rw [if_pos h]; rfl
theorem pd_get {p q : List Rat} (hp : 0 < p.length) (hq : 0 < q.length) {i : Nat} (h : i < p.length + q.length - 1) : (pd p q)[i]? = some (ps p q i (i + 1)) := by
  unfold pd
  rw [if_neg (by omega), List.getElem?_map, List.getElem?_range h]; rfl
theorem ps_min {p q : List Rat} {i : Nat} (hp : 0 < p.length) : ps p q i (min i (p.length - 1) + 1) = ps p q i (i + 1) := by
  rcases Nat.lt_or_ge i p.length with h | h
  · rw [show min i (p.length - 1) = i by omega]
  · rw [show min i (p.length - 1) = p.length - 1 by omega]
    have := ps_top p q i (p.length - 1 + 1) (i + 1 - p.length) (by omega)
    rw [← this]
    congr 1; omega
def pmQ (p q : List Rat) (i k : Nat) : Nat → Rat
  | 2 => ps p q i (min k (i + 1))
  | 3 => p.getD k 0
  | 4 => q.getD (i - k) 0
  | _ => 0
structure PmFit (p q : List Rat) : Prop where
  fp : ∀ x ∈ p, Fit x
  fq : ∀ x ∈ q, Fit x
  fs : ∀ i k, k ≤ i + 1 → Fit (ps p q i k)
theorem pmQ_fit {p q : List Rat} (h : PmFit p q) (i k n : Nat) : Fit (pmQ p q i k n) := by
  unfold pmQ
  split
  · exact h.fs _ _ (by omega)
  · exact getD_fit h.fp _
  · exact getD_fit h.fq _
  · exact fit00
def pmNat (a b i k : Nat) : Nat → Nat
  | 1 => a
  | 2 => b
  | 4 => i
  | 5 => a + b - 1
  | 9 => i + 1 - b
  | 10 => min i (a - 1)
  | 11 => i - k
  | 12 => i + 5000 - b
  | 13 => k
  | _ => 0
def pmLst (p q : List Rat) (i : Nat) : Nat → List Rat
  | 0 => p
  | 3 => q
  | 1 => (pd p q).take i
  | 7 => (pd p q).take (i + 1)
  | 8 => pd p q
  | _ => []
def pmEnv (p q : List Rat) (h : PmFit p q) (lo i k : Nat) : Env := ⟨pmQ p q i k, fun _ => (false, ⟨#[]⟩, ⟨#[]⟩), fun n _ => pmQ_fit h i k n, fun n => (pmQ_fit h i k n).sm.up (by decide), fun _ => bad_zero, lo, pmLst p q i, pmNat p.length q.length i k, rfl⟩
theorem sig_same (a b : Env) (h : a.lo = b.lo) : (symSig a).G = (symSig b).G ∧ (symSig a).lo = (symSig b).lo ∧ (symSig a).base = (symSig b).base := ⟨rfl, h, rfl⟩
section
variable {p q : List Rat} (hf : PmFit p q) (lo : Nat)
theorem pm_B2 (hp : 0 < p.length) (hq : 0 < q.length) (hp9 : p.length ≤ 1000) (hq9 : q.length ≤ 1000) {i k : Nat} (hi : i < p.length + q.length - 1) (hk : i + 1 - q.length ≤ k) (hk2 : k ≤ min i (p.length - 1)) : AllX (pmEnv p q hf lo i k) pmB2 := by
  intro x hx
  simp only [pmB2, List.mem_cons, List.not_mem_nil, or_false] at hx
  rcases hx with rfl | rfl | rfl | rfl | rfl | rfl | rfl | rfl | rfl | rfl | rfl | rfl | rfl | rfl
  · rfl
  · rfl
  · show ((pd p q).take i).length = i
    rw [List.length_take, pd_len hp hq]; omega
  · show p.length ≤ 10000
    omega
  · show i ≤ 10000
    omega
  · show k ≤ 10000
    omega
  · show biF 2 (((i : Nat) : Int) + 0) (((p.length : Nat) : Int) + (-1)) = ((min i (p.length - 1) : Nat) : Int) + 0 ∧ min i (p.length - 1) ≤ 10000
    refine ⟨?_, by omega⟩
    unfold biF
    simp only
    split <;> omega
  · show false = true ↔ ((min i (p.length - 1) : Nat) : Int) + 0 < ((k : Nat) : Int) + 0
    exact ⟨fun h => (by cases h), fun h => by omega⟩
  · show true = true ↔ ((i : Nat) : Int) + 0 < ((p.length + q.length - 1 : Nat) : Int) + 0
    exact ⟨fun _ => by omega, fun _ => rfl⟩
  · show true = true ↔ ((k : Nat) : Int) + 0 < ((p.length : Nat) : Int) + 0
    exact ⟨fun _ => by omega, fun _ => rfl⟩
  · refine ⟨k, ?_, ?_⟩
    · show ((k : Nat) : Int) = ((k : Nat) : Int) + 0
      omega
    · show p[k]? = some (p.getD k 0)
      rw [List.getD_eq_getElem?_getD, List.getElem?_eq_getElem (by omega)]; rfl
  · show ((i : Nat) : Int) + 0 - (((k : Nat) : Int) + 0) = ((i - k : Nat) : Int) ∧ i - k ≤ 10000
    exact ⟨by omega, by omega⟩
  · show true = true ↔ ((i - k : Nat) : Int) + 0 < ((q.length : Nat) : Int) + 0
    exact ⟨fun _ => by omega, fun _ => rfl⟩
  · refine ⟨i - k, ?_, ?_⟩
    · show ((i - k : Nat) : Int) = ((i - k : Nat) : Int) + 0
      omega
    · show q[i - k]? = some (q.getD (i - k) 0)
      rw [List.getD_eq_getElem?_getD, List.getElem?_eq_getElem (by omega)]; rfl
theorem pm_jmp2 (hp : 0 < p.length) (hq : 0 < q.length) (hp9 : p.length ≤ 1000) (hq9 : q.length ≤ 1000) {i : Nat} (hi : i < p.length + q.length - 1) : JmpOK (symSig (pmEnv p q hf lo i 0)) Tryz.prog 68 (loopOf pmF 1) (jumpM eqSy 68 pmT2 pmPre2 pmPost2) := by
  have hlen : ((pd p q).take i).length = i := by rw [List.length_take, pd_len hp hq]; omega
  refine @jmp_ok Sy (symSig (pmEnv p q hf lo i 0)) Tryz.prog eqSy eqSy_ok 68 (loopOf pmF 1) pmT2 pmPre2 pmCs2 pmCs2' pmPost2 (min i (p.length - 1) + 1 - (i + 1 - q.length)) (fun j => symSig (pmEnv p q hf lo i (i + 1 - q.length + j))) (fun k => sig_same _ _ (show lo = lo from rfl)) rfl rfl rfl rfl ?_ ?_ ?_ ?_
  · intro w vs h
    obtain ⟨v1, l1, rfl, a1, v2, l2, rfl, a2, v3, l3, rfl, a3, v4, l4, rfl, a4, v5, l5, rfl, a5, v6, l6, rfl, a6, v7, l7, rfl, a7, rfl⟩ := h
    refine ⟨v1, _, rfl, ⟨?_, a1.2⟩, v2, _, rfl, a2, v3, _, rfl, a3, v4, _, rfl, a4, v5, _, rfl, a5, v6, _, rfl, a6, v7, _, rfl, ⟨?_, a7.2⟩, rfl⟩
    · refine olIs.env (ρ := pmEnv p q hf lo i 0) (l' := .snoc (.v 1) (.v 2)) (z' := some (5, 0)) (show olIs _ 1 (.snoc (.v 1) (.c false 0 1)) (some (5, 0)) w v1 from a1.1) ?_ rfl
      show (pd p q).take i ++ [ps p q i (min (i + 1 - q.length + 0) (i + 1))] = (pd p q).take i ++ [Qe.ev (pmQ p q i 0) (.c false 0 1)]
      have h0 : ps p q i (min (i + 1 - q.length + 0) (i + 1)) = 0 := by
        rw [show min (i + 1 - q.length + 0) (i + 1) = i + 1 - q.length by omega]
        rcases Nat.le_total (i + 1) q.length with h | h
        · rw [show i + 1 - q.length = 0 by omega]; rfl
        · exact ps_low p q i _ (by omega)
      rw [h0]; rfl
    · have h7 : v7 = .int .i64 (((i + 1 - q.length : Nat) : Int) + 0) := a7.1
      show v7 = .int .i64 (((i + 1 - q.length + 0 : Nat) : Int) + 0)
      rw [h7]; rfl
  · intro j hj w vs h
    obtain ⟨v1, l1, rfl, a1, v2, l2, rfl, a2, v3, l3, rfl, a3, v4, l4, rfl, a4, v5, l5, rfl, a5, v6, l6, rfl, a6, v7, l7, rfl, a7, rfl⟩ := h
    refine ⟨v1, _, rfl, ⟨?_, a1.2⟩, v2, _, rfl, a2, v3, _, rfl, a3, v4, _, rfl, a4, v5, _, rfl, a5, v6, _, rfl, a6, v7, _, rfl, ⟨?_, a7.2⟩, rfl⟩
    · refine olIs.env (ρ := pmEnv p q hf lo i (i + 1 - q.length + j)) (l' := .snoc (.v 1) (.v 2)) (z' := some (5, 0)) (show olIs _ 1 (.snoc (.take (.snoc (.v 1) (.v 2)) 4 0) (.add (.v 2) (.mul (.v 3) (.v 4)))) (some (5, 0)) w v1 from a1.1) ?_ rfl
      generalize hk : i + 1 - q.length + j = k at *
      have hkj : i + 1 - q.length + (j + 1) = k + 1 := by omega
      rw [hkj]
      show (pd p q).take i ++ [ps p q i (min (k + 1) (i + 1))] = ((pd p q).take i ++ [ps p q i (min k (i + 1))]).take (((i : Nat) : Int) + 0).toNat ++ [ps p q i (min k (i + 1)) + p.getD k 0 * q.getD (i - k) 0]
      rw [show (((i : Nat) : Int) + 0).toNat = i by omega, show min (k + 1) (i + 1) = k + 1 by omega, show min k (i + 1) = k by omega, List.take_left' hlen]
      rfl
    · have h7 : v7 = .int .i64 (((i + 1 - q.length + j : Nat) : Int) + 1) := a7.1
      show v7 = .int .i64 (((i + 1 - q.length + (j + 1) : Nat) : Int) + 0)
      rw [h7]; congr 1
  · intro w vs h
    obtain ⟨v1, l1, rfl, a1, v2, l2, rfl, a2, v3, l3, rfl, a3, v4, l4, rfl, a4, v5, l5, rfl, a5, v6, l6, rfl, a6, v7, l7, rfl, a7, rfl⟩ := h
    refine ⟨v1, _, rfl, ⟨?_, a1.2⟩, v2, _, rfl, a2, v3, _, rfl, a3, v4, _, rfl, a4, v5, _, rfl, a5, v6, _, rfl, a6, v7, _, rfl, ⟨?_, a7.2⟩, rfl⟩
    · refine olIs.env (ρ := pmEnv p q hf lo i (i + 1 - q.length + (min i (p.length - 1) + 1 - (i + 1 - q.length)))) (l' := .v 7) (z' := some (5, 0)) (show olIs _ 1 (.snoc (.v 1) (.v 2)) (some (5, 0)) w v1 from a1.1) ?_ rfl
      have hkj : i + 1 - q.length + (min i (p.length - 1) + 1 - (i + 1 - q.length)) = min i (p.length - 1) + 1 := by omega
      rw [hkj]
      show (pd p q).take (i + 1) = (pd p q).take i ++ [ps p q i (min (min i (p.length - 1) + 1) (i + 1))]
      rw [show min (min i (p.length - 1) + 1) (i + 1) = min i (p.length - 1) + 1 by omega, ps_min hp, List.take_add_one, pd_get hp hq hi]; rfl
    · have h7 : v7 = .int .i64 (((i + 1 - q.length + (min i (p.length - 1) + 1 - (i + 1 - q.length)) : Nat) : Int) + 0) := a7.1
      show v7 = .int .i64 (((min i (p.length - 1) : Nat) : Int) + 1)
      rw [h7]; congr 1; omega
  · intro j hj ro d B0 D0 a w hAt
    have hB := pm_B2 hf lo hp hq hp9 hq9 hi (k := i + 1 - q.length + j) (by omega) (by omega)
    have hA : AllH (pmEnv p q hf lo i (i + 1 - q.length + j)) [] := fun x hx => by simp at hx
    exact round_run (C := lsCfg false [] pmB2 noJ) (call := lsClW false [] pmB2 20) (fuel := 20) (lsFits hA hB) (lsClW_ok hA hB) rfl (fun y _ m e => by cases e) eqSy_ok pm_round2 few5 hAt
theorem pm_B1 (hp : 0 < p.length) (hq : 0 < q.length) (hp9 : p.length ≤ 1000) (hq9 : q.length ≤ 1000) {i : Nat} (hi : i < p.length + q.length - 1) : AllX (pmEnv p q hf lo i 0) pmB1 := by
  intro x hx
  simp only [pmB1, List.mem_cons, List.not_mem_nil, or_false] at hx
  rcases hx with rfl | rfl | rfl | rfl | rfl | rfl | rfl | rfl | rfl | rfl
  · rfl
  · rfl
  · show ((pd p q).take i).length = i
    rw [List.length_take, pd_len hp hq]; omega
  · show p.length ≤ 10000
    omega
  · show i ≤ 10000
    omega
  · show i + 5000 - q.length ≤ 10000
    omega
  · show true = true ↔ ((i : Nat) : Int) + 0 < ((p.length + q.length - 1 : Nat) : Int) + 0
    exact ⟨fun _ => by omega, fun _ => rfl⟩
  · show (((i : Nat) : Int) + 0) - (((q.length : Nat) : Int) + 0) = ((i + 5000 - q.length : Nat) : Int) + (-5000) ∧ i + 5000 - q.length ≤ 10000
    exact ⟨by omega, by omega⟩
  · show biF 3 (((0 : Nat) : Int) + 0) (((i + 5000 - q.length : Nat) : Int) + (-4999)) = ((i + 1 - q.length : Nat) : Int) + 0 ∧ i + 1 - q.length ≤ 10000
    refine ⟨?_, by omega⟩
    unfold biF
    simp only
    split <;> omega
  · show biF 2 (((i : Nat) : Int) + 0) (((p.length : Nat) : Int) + (-1)) = ((min i (p.length - 1) : Nat) : Int) + 0 ∧ min i (p.length - 1) ≤ 10000
    refine ⟨?_, by omega⟩
    unfold biF
    simp only
    split <;> omega
theorem pmCl_ok {ρ : Env} {B : List Ix} {n : Nat} (hB : AllX ρ B) : ClOK (symSig ρ) Tryz.prog (pmCl B n) :=
  have hA : AllH ρ [] := fun x hx => by simp at hx
  have h := callY_ok (C := lsCfg false [] B noJ) (lsFits hA hB) (.none rfl) (lsSumsW_ok hA) n
  ⟨⟨h.1, by intro x hx; simp [pmCl] at hx, fun x m e ts => by
    obtain ⟨_, e2⟩ := condJ' (show cond (Nat.beq (ops1 x) 7) (some pmJ2) none = some m from e)
    cases e2
    exact loc_jumpM _ _ _ _ _⟩, h.2⟩
theorem pm_jmp1 (hp : 0 < p.length) (hq : 0 < q.length) (hp9 : p.length ≤ 1000) (hq9 : q.length ≤ 1000) : JmpOK (symSig (pmEnv p q hf lo 0 0)) Tryz.prog 68 (loopOf pmF 0) (jumpM eqSy 68 pmT1 (pmS1 .nil (.p (.int .i64 0))) (pmS1 (.v 8) (.f (.ix 5 0)))) := by
  have hlen := pd_len hp hq
  refine @jmp_ok Sy (symSig (pmEnv p q hf lo 0 0)) Tryz.prog eqSy eqSy_ok 68 (loopOf pmF 0) pmT1 (pmS1 .nil (.p (.int .i64 0))) (pmS1 (.v 1) (.f (.ix 4 0))) (pmS1 (.v 7) (.f (.ix 4 1))) (pmS1 (.v 8) (.f (.ix 5 0))) (p.length + q.length - 1) (fun i => symSig (pmEnv p q hf lo i 0)) (fun k => sig_same _ _ (show lo = lo from rfl)) rfl rfl rfl rfl ?_ ?_ ?_ ?_
  · intro w vs h
    obtain ⟨v1, l1, rfl, a1, v2, l2, rfl, a2, v3, l3, rfl, a3, v4, l4, rfl, a4, v5, l5, rfl, a5, rfl⟩ := h
    refine ⟨v1, _, rfl, ⟨?_, a1.2⟩, v2, _, rfl, a2, v3, _, rfl, a3, v4, _, rfl, a4, v5, _, rfl, ⟨?_, ?_⟩, rfl⟩
    · exact olIs.env (l' := .v 1) (z' := some (5, 0)) (show olIs _ 1 .nil (some (5, 0)) w v1 from a1.1) rfl rfl
    · rw [show v5 = .int .i64 0 from a5]; rfl
    · rw [show v5 = .int .i64 0 from a5]; rfl
  · intro i hi w vs h
    obtain ⟨v1, l1, rfl, a1, v2, l2, rfl, a2, v3, l3, rfl, a3, v4, l4, rfl, a4, v5, l5, rfl, a5, rfl⟩ := h
    refine ⟨v1, _, rfl, ⟨?_, a1.2⟩, v2, _, rfl, a2, v3, _, rfl, a3, v4, _, rfl, a4, v5, _, rfl, ⟨?_, a5.2⟩, rfl⟩
    · exact olIs.env (ρ := pmEnv p q hf lo i 0) (l' := .v 1) (z' := some (5, 0)) (show olIs _ 1 (.v 7) (some (5, 0)) w v1 from a1.1) rfl rfl
    · have h5 : v5 = .int .i64 (((i : Nat) : Int) + 1) := a5.1
      show v5 = .int .i64 (((i + 1 : Nat) : Int) + 0)
      rw [h5]; congr 1
  · intro w vs h
    obtain ⟨v1, l1, rfl, a1, v2, l2, rfl, a2, v3, l3, rfl, a3, v4, l4, rfl, a4, v5, l5, rfl, a5, rfl⟩ := h
    refine ⟨v1, _, rfl, ⟨?_, a1.2⟩, v2, _, rfl, a2, v3, _, rfl, a3, v4, _, rfl, a4, v5, _, rfl, ⟨a5.1, a5.2⟩, rfl⟩
    refine olIs.env (ρ := pmEnv p q hf lo (p.length + q.length - 1) 0) (l' := .v 8) (z' := some (5, 0)) (show olIs _ 1 (.v 1) (some (5, 0)) w v1 from a1.1) ?_ rfl
    show pd p q = (pd p q).take (p.length + q.length - 1)
    rw [List.take_of_length_le (by omega)]
  · intro i hi ro d B0 D0 a w hAt
    have hB := pm_B1 hf lo hp hq hp9 hq9 hi
    have hA : AllH (pmEnv p q hf lo i 0) [] := fun x hx => by simp at hx
    refine round_run (C := lsCfg false [] pmB1 noJ) (call := pmCl pmB1 20) (fuel := 20) (lsFits hA hB) (pmCl_ok hB) rfl (fun y hy m e => ?_) eqSy_ok pm_round1 few5 hAt
    obtain ⟨fn0, c0, _, _, _, _, q5, _⟩ := pm_two
    rw [q5] at hy
    obtain rfl := List.mem_singleton.1 hy
    obtain ⟨_, e2⟩ := condJ' (show cond (Nat.beq (ops1 (loopOf pmF 1)) 7) (some pmJ2) none = some m from e)
    cases e2
    exact @pm_jmp2 p q hf lo hp hq hp9 hq9 i hi
theorem pm_all {A : List As} {B : List Ix} (hp : 0 < p.length) (hq : 0 < q.length) (hp9 : p.length ≤ 1000) (hq9 : q.length ≤ 1000) : JmpAll (symSig (pmEnv p q hf lo 0 0)) Tryz.prog (lsCfg false A B pmJ) := by
  refine ⟨fun f x m e ts => ?_, fun f fn c x m ht hb hx e => ?_⟩
  · obtain ⟨_, e2⟩ := condJ' (show cond (Nat.beq f pmF && Nat.beq (ops1 x) 1) (some pmJ1) none = some m from e)
    cases e2
    exact loc_jumpM _ _ _ _ _
  · obtain ⟨h1, e2⟩ := condJ' (show cond (Nat.beq f pmF && Nat.beq (ops1 x) 1) (some pmJ1) none = some m from e)
    cases e2
    simp only [Bool.and_eq_true] at h1
    obtain rfl := Nat.eq_of_beq_eq_true h1.1
    obtain ⟨fn0, c0, q1, q2, q3, q4, _, q6, q7, _⟩ := pm_two
    have hf' : (Tryz.prog).funcs[pmF]? = some fn := ht
    rw [q1] at hf'
    cases hf'
    rw [q2] at hb
    cases hb
    rw [q4] at hx
    rw [q3]
    simp only [List.mem_cons, List.not_mem_nil, or_false] at hx
    rcases hx with rfl | rfl
    · exact @pm_jmp1 p q hf lo hp hq hp9 hq9
    · rw [q7] at h1; cases h1.2
end
theorem newOl_nil {w w' : World} : NewOl 1 w w' (.slice none 0 0) [] := ⟨⟨none, 0, rfl, Nat.le_refl _, fun _ => rfl, fun ad h => by cases h⟩, fun b h => by cases h⟩
theorem mulE_any (w : World) {p q : List Rat} (hf : PmFit p q) (hp9 : p.length ≤ 1000) (hq9 : q.length ≤ 1000) {u v : Value} (hu : LsIn 1 w u p) (hv : LsIn 1 w v q) (hG : Tryz.prog.globals.size ≤ w.heap.size) (hT : natSig.base w) :
    Calls Tryz.prog pmF ⟨[u, v]⟩ w fun e w' => ∃ x, e = .returned x ∧ NewOl 1 w w' x (pd p q) ∧ Below w.heap.size w w' := by
  have hh : HoldsL (symSig (pmEnv p q hf w.heap.size 0 0)) w [.ls 1 0, .ls 1 3] [u, v] := ⟨u, _, rfl, LsIn.ls hu rfl, by obtain ⟨a, m, rfl, _⟩ := hu; rfl, v, _, rfl, LsIn.ls hv rfl, by obtain ⟨a, m, rfl, _⟩ := hv; rfl, rfl⟩
  have hA : AllH (pmEnv p q hf w.heap.size 0 0) [] := fun x hx => by simp at hx
  obtain ⟨a, ha⟩ : ∃ a : Bool, a = true ↔ 0 < p.length := ⟨decide (0 < p.length), by rw [decide_eq_true_iff]⟩
  obtain ⟨b, hb⟩ : ∃ b : Bool, b = true ↔ 0 < q.length := ⟨decide (0 < q.length), by rw [decide_eq_true_iff]⟩
  have hB : AllX (pmEnv p q hf w.heap.size 0 0) (pmB0 a b) := by
    intro x hx
    unfold pmB0 at hx
    rcases List.mem_append.1 hx with hx | hx
    · simp only [List.mem_cons, List.not_mem_nil, or_false] at hx
      rcases hx with rfl | rfl | rfl | rfl | rfl | rfl | rfl
      · rfl
      · rfl
      · show p.length ≤ 10000
        omega
      · show false = true ↔ ((p.length : Nat) : Int) + 0 < ((0 : Nat) : Int) + 0
        exact ⟨fun h => (by cases h), fun h => by omega⟩
      · show a = true ↔ ((0 : Nat) : Int) + 0 < ((p.length : Nat) : Int) + 0
        rw [ha]; omega
      · show false = true ↔ ((q.length : Nat) : Int) + 0 < ((0 : Nat) : Int) + 0
        exact ⟨fun h => (by cases h), fun h => by omega⟩
      · show b = true ↔ ((0 : Nat) : Int) + 0 < ((q.length : Nat) : Int) + 0
        rw [hb]; omega
    · cases hab : (a && b) with
      | false => rw [hab] at hx; simp at hx
      | true =>
        rw [hab] at hx
        simp only [Bool.and_eq_true] at hab
        have h1 := ha.1 hab.1
        have h2 := hb.1 hab.2
        simp only [cond_true, List.mem_cons, List.not_mem_nil, or_false] at hx
        rcases hx with rfl | rfl | rfl
        · show p.length + q.length - 1 ≤ 10000
          omega
        · show (((p.length : Nat) : Int) + 0) + (((q.length : Nat) : Int) + 0) = ((p.length + q.length - 1 : Nat) : Int) + 1 ∧ p.length + q.length - 1 ≤ 10000
          exact ⟨by omega, by omega⟩
        · show false = true ↔ ((p.length + q.length - 1 : Nat) : Int) + 0 < ((0 : Nat) : Int) + 0
          exact ⟨fun h => (by cases h), fun h => by omega⟩
  cases hab : (a && b) with
  | false =>
    refine (tells_calls (lsFits hA hB) (lsSumsW_ok hA) (pm_runF a b hab) rfl glob_few hh hG hT (Nat.le_refl _) (.none rfl)).mono ?_
    rintro e w' ⟨v', rfl, h1, hbl⟩
    have h1' : v' = .slice none 0 0 := h1
    subst h1'
    refine ⟨_, rfl, ?_, hbl⟩
    have hn : p.length = 0 ∨ q.length = 0 := by
      rcases Nat.eq_zero_or_pos p.length with h | h
      · exact .inl h
      · rcases Nat.eq_zero_or_pos q.length with h' | h'
        · exact .inr h'
        · rw [ha.2 h, hb.2 h'] at hab; cases hab
    rw [pd_none hn]
    exact newOl_nil
  | true =>
    have hab' := hab
    simp only [Bool.and_eq_true] at hab'
    have h1 := ha.1 hab'.1
    have h2 := hb.1 hab'.2
    obtain rfl := hab'.1
    obtain rfl := hab'.2
    refine (tells_calls (lsFits hA hB) (lsSumsW_ok hA) pm_runT rfl glob_few hh hG hT (Nat.le_refl _) (pm_all hf w.heap.size h1 h2 hp9 hq9)).mono ?_
    rintro e w' ⟨v', rfl, h3, hbl⟩
    exact ⟨v', rfl, newOl_of (ρ := pmEnv p q hf w.heap.size 0 0) rfl h3 rfl (fun z hz => by
      cases hz
      show (((pd p q).length : Nat) : Int) = ((p.length + q.length - 1 : Nat) : Int) + 0
      rw [pd_len h1 h2]; omega), hbl⟩
noncomputable def paF : Nat := 50
noncomputable def prF : Nat := 72
noncomputable def paT : List Nat := [7, 0, 1, 2, 16, 17]
noncomputable def paS (l : Le) (i : Sl Sy) : List (Sl Sy) := [.ow (.ol 1 l (some (5, 0))), .p (.func (.func 73) #[] #[]), .f (.ls 1 0), .f (.ls 1 3), .f (.ix 5 0), i]
noncomputable def paB1 (a b : Bool) : List Ix := [.ln 0 1, .ln 3 2, .ln 1 4, .bd 4, .lt 4 0 5 0 true, .lt 4 0 1 0 a, .lt 4 0 2 0 b] ++ (cond a [.el 0 4 0 (.v 2)] [] ++ cond b [.el 3 4 0 (.v 3)] [])
noncomputable def paA1 (a b : Bool) : List As := cond a (cond b [] [⟨1, .v 3, z0, true⟩]) [⟨1, .v 2, z0, true⟩]
set_option maxHeartbeats 4000000 in
theorem pa_round (a b : Bool) (h : (a || b) = true) : roundT Tryz.prog (lsCfg false (paA1 a b) (paB1 a b) noJ) (lsClW false (paA1 a b) (paB1 a b) 20) 34 20 eqSy paT (paS (.v 1) (.f (.ix 4 0))) (paS (.snoc (.v 1) (.add (.v 2) (.v 3))) (.f (.ix 4 1))) (loopOf prF 0) = true := by cases a <;> cases b <;> first | (cases h; done) | kernel_rfl
noncomputable def tqSl (x : Sy) : List (Sl Sy) := [.ow (.ol 1 (.v 8) (some (5, 0))), .f x]
noncomputable def tqB1 : List Ix := [.ln 8 5, .bd 7, .lt 0 0 7 0 true, .lt 7 (-1) 0 0 false, .lt 7 (-1) 5 0 true, .el 8 7 (-1) (.v 9)]
noncomputable def tqA1 : List As := [⟨1, .v 9, z0, true⟩]
set_option maxHeartbeats 4000000 in
theorem tq_round : roundT Tryz.prog (lsCfg false tqA1 tqB1 noJ) (lsClW false tqA1 tqB1 20) 22 20 eqSy trTm (tqSl (.ix 7 0)) (tqSl (.ix 7 (-1))) (loopOf trF 0) = true := by kernel_rfl
noncomputable def tqJ : Jmps := fun f _ => cond (Nat.beq f trF) (some (jumpM eqSy 22 trTm (tqSl (.ix 5 0)) (tqSl (.ix 6 0)))) none
noncomputable def paJ : Jmps := fun f x => cond (Nat.beq f prF) (some (jumpM eqSy 34 paT (paS .nil (.p (.int .i64 0))) (paS (.v 8) (.f (.ix 5 0))))) (tqJ f x)
noncomputable def tqA0 (p s : Bool) : List As := cond p [⟨1, .v 4, z0, false⟩, ⟨3, .v 4, z0, s⟩] []
noncomputable def tqB0 (p : Bool) : List Ix := cond p [.bd 5, .ln 8 5, .lt 5 0 6 0 false, .lt 0 0 6 0 true, .lt 6 (-1) 0 0 false, .lt 6 (-1) 5 0 true, .el 8 6 (-1) (.v 4), .bd 6] [.bd 5, .ln 8 5, .lt 5 0 6 0 false, .lt 0 0 6 0 false, .bd 6]
noncomputable def paB0 (p : Bool) : List Ix := .ln 0 1 :: .ln 3 2 :: .bi 3 1 0 2 0 5 0 :: tqB0 p
set_option maxHeartbeats 4000000 in
theorem pa_run (p s : Bool) : tells [.ls 1 0, .ls 1 3] [.one, .one] (call Tryz.prog (lsCfg false (tqA0 p s) (paB0 p) paJ) (lsSumsW (tqA0 p s)) 20 paF) = some (.one (.one (.ow (.ol 1 (.take (.v 8) 6 0) none)))) := by cases p <;> cases s <;> kernel_rfl
theorem pr_one : ∃ fn c, (Tryz.prog).funcs[prF]? = some fn ∧ fn.body = some c ∧ fn.ntmps = 34 ∧ loopsIn c = [loopOf prF 0] := ⟨_, _, rfl, rfl, rfl, rfl⟩
def tqQ (Q : Nat → Rat) : Nat → Rat
  | 9 => 0
  | i => Q i
def tqNat (N : Nat → Nat) (k : Nat) : Nat → Nat
  | 7 => k
  | i => N i
theorem tqQ_is (Q : Nat → Rat) (i : Nat) : tqQ Q i = 0 ∨ tqQ Q i = Q i := by
  unfold tqQ
  split
  · exact .inl rfl
  · exact .inr rfl
def tqEnv (E : Env) (k : Nat) : Env := ⟨tqQ E.q, E.raw, fun i h => by
    rcases tqQ_is E.q i with q | q <;> rw [q]
    · exact fit00
    · exact E.fit i h, fun i => by
    rcases tqQ_is E.q i with q | q <;> rw [q]
    · exact fit00.sm.up (by decide)
    · exact E.big i, E.bad, E.lo, E.lst, tqNat E.nat k, E.nat0⟩
theorem tq_ow {E : Env} {k : Nat} {w : World} {v : Value} (h : olIs E 1 (.v 8) (some (5, 0)) w v) : olIs (tqEnv E k) 1 (.v 8) (some (5, 0)) w v := olIs.env (l' := .v 8) (z' := some (5, 0)) h rfl rfl
theorem tq_wo {E : Env} {k : Nat} {w : World} {v : Value} (h : olIs (tqEnv E k) 1 (.v 8) (some (5, 0)) w v) : olIs E 1 (.v 8) (some (5, 0)) w v := olIs.env (l' := .v 8) (z' := some (5, 0)) h rfl rfl
theorem tq_jmp {E : Env} {m : Nat} (hm : TrimAt (E.lst 8) m) (h5 : E.nat 5 = (E.lst 8).length) (h6 : E.nat 6 = m) (hl : (E.lst 8).length ≤ 9000) :
    JmpOK (symSig E) Tryz.prog 22 (loopOf trF 0) (jumpM eqSy 22 trTm (tqSl (.ix 5 0)) (tqSl (.ix 6 0))) := by
  have hle := hm.le
  refine @jmp_ok Sy (symSig E) Tryz.prog eqSy eqSy_ok 22 (loopOf trF 0) trTm (tqSl (.ix 5 0)) (tqSl (.ix 7 0)) (tqSl (.ix 7 (-1))) (tqSl (.ix 6 0)) ((E.lst 8).length - m) (fun j => symSig (tqEnv E ((E.lst 8).length - j))) (fun k => sig_same _ _ (show E.lo = E.lo from rfl)) rfl rfl rfl rfl ?_ ?_ ?_ ?_
  · intro w vs h
    obtain ⟨v1, l1, rfl, a1, v2, l2, rfl, a2, rfl⟩ := h
    refine ⟨v1, _, rfl, ⟨tq_ow (E := E) (show olIs E 1 (.v 8) (some (5, 0)) w v1 from a1.1), a1.2⟩, v2, _, rfl, ⟨?_, a2.2⟩, rfl⟩
    have h2 : v2 = .int .i64 (((E.nat 5 : Nat) : Int) + 0) := a2.1
    show v2 = .int .i64 ((((E.lst 8).length - 0 : Nat) : Int) + 0)
    rw [h2, h5]; rfl
  · intro j hj w vs h
    obtain ⟨v1, l1, rfl, a1, v2, l2, rfl, a2, rfl⟩ := h
    refine ⟨v1, _, rfl, ⟨tq_ow (E := E) (tq_wo (show olIs (tqEnv E ((E.lst 8).length - j)) 1 (.v 8) (some (5, 0)) w v1 from a1.1)), a1.2⟩, v2, _, rfl, ⟨?_, a2.2⟩, rfl⟩
    have h2 : v2 = .int .i64 ((((E.lst 8).length - j : Nat) : Int) + (-1)) := a2.1
    show v2 = .int .i64 ((((E.lst 8).length - (j + 1) : Nat) : Int) + 0)
    rw [h2]; congr 1; omega
  · intro w vs h
    obtain ⟨v1, l1, rfl, a1, v2, l2, rfl, a2, rfl⟩ := h
    refine ⟨v1, _, rfl, ⟨tq_wo (show olIs (tqEnv E ((E.lst 8).length - ((E.lst 8).length - m))) 1 (.v 8) (some (5, 0)) w v1 from a1.1), a1.2⟩, v2, _, rfl, ⟨?_, a2.2⟩, rfl⟩
    have h2 : v2 = .int .i64 ((((E.lst 8).length - ((E.lst 8).length - m) : Nat) : Int) + 0) := a2.1
    show v2 = .int .i64 (((E.nat 6 : Nat) : Int) + 0)
    rw [h2, h6]; congr 1; omega
  · intro j hj ro d B0 D0 a w hAt
    have hA : AllH (tqEnv E ((E.lst 8).length - j)) tqA1 := fun x hx => by
      simp only [tqA1, List.mem_cons, List.not_mem_nil, or_false] at hx
      subst hx
      exact ⟨fun _ => rfl, fun _ => rfl⟩
    have hB : AllX (tqEnv E ((E.lst 8).length - j)) tqB1 := fun x hx => by
      simp only [tqB1, List.mem_cons, List.not_mem_nil, or_false] at hx
      rcases hx with rfl | rfl | rfl | rfl | rfl | rfl
      · exact h5.symm
      · show (E.lst 8).length - j ≤ 10000
        omega
      · show true = true ↔ ((E.nat 0 : Nat) : Int) + 0 < (((E.lst 8).length - j : Nat) : Int) + 0
        rw [E.nat0]
        exact ⟨fun _ => by omega, fun _ => rfl⟩
      · show false = true ↔ (((E.lst 8).length - j : Nat) : Int) + (-1) < ((E.nat 0 : Nat) : Int) + 0
        rw [E.nat0]
        exact ⟨fun h => (by cases h), fun h => by omega⟩
      · show true = true ↔ (((E.lst 8).length - j : Nat) : Int) + (-1) < ((E.nat 5 : Nat) : Int) + 0
        rw [h5]
        exact ⟨fun _ => by omega, fun _ => rfl⟩
      · refine ⟨(E.lst 8).length - j - 1, ?_, ?_⟩
        · show (((E.lst 8).length - j - 1 : Nat) : Int) = (((E.lst 8).length - j : Nat) : Int) + (-1)
          omega
        · exact hm.zero _ (by omega) (by omega)
    exact round_run (C := lsCfg false _ _ noJ) (call := lsClW false _ _ 20) (fuel := 20) (lsFits hA hB) (lsClW_ok hA hB) rfl (fun y _ m e => by cases e) eqSy_ok tq_round few5 hAt
theorem tq_A0 {E : Env} {m : Nat} (hm : TrimAt (E.lst 8) m) (h4 : E.q 4 = (E.lst 8).getD (m - 1) 0) {p : Bool} (hp : p = true ↔ 0 < m) : AllH E (tqA0 p (Big.ng (E.q 4))) := by
  cases p with
  | false => intro x hx; simp [tqA0] at hx
  | true =>
    intro x hx
    simp only [tqA0, cond_true, List.mem_cons, List.not_mem_nil, or_false] at hx
    rcases hx with rfl | rfl
    · show false = true ↔ E.q 4 = 0
      exact ⟨fun h => (by cases h), fun h => absurd (h4 ▸ h) (hm.last (hp.1 rfl))⟩
    · rfl
theorem tq_B0 {E : Env} {m : Nat} (hm : TrimAt (E.lst 8) m) (h4 : E.q 4 = (E.lst 8).getD (m - 1) 0) (h5 : E.nat 5 = (E.lst 8).length) (h6 : E.nat 6 = m) (hl : (E.lst 8).length ≤ 9000) {p : Bool} (hp : p = true ↔ 0 < m) : AllX E (tqB0 p) := by
  have hle := hm.le
  have c1 : E.nat 5 ≤ 10000 := by omega
  have c2 : false = true ↔ ((E.nat 5 : Nat) : Int) + 0 < ((E.nat 6 : Nat) : Int) + 0 := ⟨fun h => (by cases h), fun h => by omega⟩
  have c3 : E.nat 6 ≤ 10000 := by omega
  cases p with
  | false =>
    have h0 : m = 0 := by
      rcases Nat.eq_zero_or_pos m with h | h
      · exact h
      · have := hp.2 h; cases this
    intro x hx
    simp only [tqB0, cond_false, List.mem_cons, List.not_mem_nil, or_false] at hx
    rcases hx with rfl | rfl | rfl | rfl | rfl
    · exact c1
    · exact h5.symm
    · exact c2
    · show false = true ↔ ((E.nat 0 : Nat) : Int) + 0 < ((E.nat 6 : Nat) : Int) + 0
      rw [E.nat0]
      exact ⟨fun h => (by cases h), fun h => by omega⟩
    · exact c3
  | true =>
    have h0 := hp.1 rfl
    intro x hx
    simp only [tqB0, cond_true, List.mem_cons, List.not_mem_nil, or_false] at hx
    rcases hx with rfl | rfl | rfl | rfl | rfl | rfl | rfl | rfl
    · exact c1
    · exact h5.symm
    · exact c2
    · show true = true ↔ ((E.nat 0 : Nat) : Int) + 0 < ((E.nat 6 : Nat) : Int) + 0
      rw [E.nat0]
      exact ⟨fun _ => by omega, fun _ => rfl⟩
    · show false = true ↔ ((E.nat 6 : Nat) : Int) + (-1) < ((E.nat 0 : Nat) : Int) + 0
      rw [E.nat0]
      exact ⟨fun h => (by cases h), fun h => by omega⟩
    · show true = true ↔ ((E.nat 6 : Nat) : Int) + (-1) < ((E.nat 5 : Nat) : Int) + 0
      exact ⟨fun _ => by omega, fun _ => rfl⟩
    · refine ⟨m - 1, ?_, ?_⟩
      · show ((m - 1 : Nat) : Int) = ((E.nat 6 : Nat) : Int) + (-1)
        omega
      · show (E.lst 8)[m - 1]? = some (E.q 4)
        rw [h4, List.getD_eq_getElem?_getD, List.getElem?_eq_getElem (by omega)]; rfl
    · exact c3
theorem tr_one' : ∃ fn c, (Tryz.prog).funcs[trF]? = some fn ∧ fn.body = some c ∧ fn.ntmps = 22 ∧ loopsIn c = [loopOf trF 0] := ⟨_, _, rfl, rfl, rfl, rfl⟩
def pa (p q : List Rat) : List Rat := (List.range (max p.length q.length)).map fun i => p.getD i 0 + q.getD i 0
theorem pa_len (p q : List Rat) : (pa p q).length = max p.length q.length := by simp [pa]
theorem pa_get {p q : List Rat} {i : Nat} (h : i < max p.length q.length) : (pa p q)[i]? = some (p.getD i 0 + q.getD i 0) := by
  unfold pa
  rw [List.getElem?_map, List.getElem?_range h]; rfl
structure PaFit (p q : List Rat) : Prop where
  fp : ∀ x ∈ p, Fit x
  fq : ∀ x ∈ q, Fit x
  fs : ∀ x ∈ pa p q, Fit x
def paQ (p q : List Rat) (i m : Nat) : Nat → Rat
  | 2 => p.getD i 0
  | 3 => q.getD i 0
  | 4 => (pa p q).getD (m - 1) 0
  | _ => 0
theorem paQ_fit {p q : List Rat} (h : PaFit p q) (i m n : Nat) : Fit (paQ p q i m n) := by
  unfold paQ
  split
  · exact getD_fit h.fp _
  · exact getD_fit h.fq _
  · exact getD_fit h.fs _
  · exact fit00
def paNat (a b i m : Nat) : Nat → Nat
  | 1 => a
  | 2 => b
  | 4 => i
  | 5 => max a b
  | 6 => m
  | _ => 0
def paLst (p q : List Rat) (i : Nat) : Nat → List Rat
  | 0 => p
  | 3 => q
  | 1 => (pa p q).take i
  | 8 => pa p q
  | _ => []
def paEnv (p q : List Rat) (h : PaFit p q) (lo i m : Nat) : Env := ⟨paQ p q i m, fun _ => (false, ⟨#[]⟩, ⟨#[]⟩), fun n _ => paQ_fit h i m n, fun n => (paQ_fit h i m n).sm.up (by decide), fun _ => bad_zero, lo, paLst p q i, paNat p.length q.length i m, rfl⟩
section
variable {p q : List Rat} (hf : PaFit p q) (lo : Nat) {m : Nat}
theorem pa_jmp (hp9 : p.length ≤ 1000) (hq9 : q.length ≤ 1000) : JmpOK (symSig (paEnv p q hf lo 0 m)) Tryz.prog 34 (loopOf prF 0) (jumpM eqSy 34 paT (paS .nil (.p (.int .i64 0))) (paS (.v 8) (.f (.ix 5 0)))) := by
  have hlen := pa_len p q
  refine @jmp_ok Sy (symSig (paEnv p q hf lo 0 m)) Tryz.prog eqSy eqSy_ok 34 (loopOf prF 0) paT (paS .nil (.p (.int .i64 0))) (paS (.v 1) (.f (.ix 4 0))) (paS (.snoc (.v 1) (.add (.v 2) (.v 3))) (.f (.ix 4 1))) (paS (.v 8) (.f (.ix 5 0))) (max p.length q.length) (fun i => symSig (paEnv p q hf lo i m)) (fun k => sig_same _ _ (show lo = lo from rfl)) rfl rfl rfl rfl ?_ ?_ ?_ ?_
  · intro w vs h
    obtain ⟨v1, l1, rfl, a1, v2, l2, rfl, a2, v3, l3, rfl, a3, v4, l4, rfl, a4, v5, l5, rfl, a5, v6, l6, rfl, a6, rfl⟩ := h
    refine ⟨v1, _, rfl, ⟨?_, a1.2⟩, v2, _, rfl, a2, v3, _, rfl, a3, v4, _, rfl, a4, v5, _, rfl, a5, v6, _, rfl, ⟨?_, ?_⟩, rfl⟩
    · exact olIs.env (l' := .v 1) (z' := some (5, 0)) (show olIs _ 1 .nil (some (5, 0)) w v1 from a1.1) rfl rfl
    · rw [show v6 = .int .i64 0 from a6]; rfl
    · rw [show v6 = .int .i64 0 from a6]; rfl
  · intro i hi w vs h
    obtain ⟨v1, l1, rfl, a1, v2, l2, rfl, a2, v3, l3, rfl, a3, v4, l4, rfl, a4, v5, l5, rfl, a5, v6, l6, rfl, a6, rfl⟩ := h
    refine ⟨v1, _, rfl, ⟨?_, a1.2⟩, v2, _, rfl, a2, v3, _, rfl, a3, v4, _, rfl, a4, v5, _, rfl, a5, v6, _, rfl, ⟨?_, a6.2⟩, rfl⟩
    · refine olIs.env (ρ := paEnv p q hf lo i m) (l' := .v 1) (z' := some (5, 0)) (show olIs _ 1 (.snoc (.v 1) (.add (.v 2) (.v 3))) (some (5, 0)) w v1 from a1.1) ?_ rfl
      show (pa p q).take (i + 1) = (pa p q).take i ++ [p.getD i 0 + q.getD i 0]
      rw [List.take_add_one, pa_get hi]; rfl
    · have h6 : v6 = .int .i64 (((i : Nat) : Int) + 1) := a6.1
      show v6 = .int .i64 (((i + 1 : Nat) : Int) + 0)
      rw [h6]; congr 1
  · intro w vs h
    obtain ⟨v1, l1, rfl, a1, v2, l2, rfl, a2, v3, l3, rfl, a3, v4, l4, rfl, a4, v5, l5, rfl, a5, v6, l6, rfl, a6, rfl⟩ := h
    refine ⟨v1, _, rfl, ⟨?_, a1.2⟩, v2, _, rfl, a2, v3, _, rfl, a3, v4, _, rfl, a4, v5, _, rfl, a5, v6, _, rfl, ⟨a6.1, a6.2⟩, rfl⟩
    refine olIs.env (ρ := paEnv p q hf lo (max p.length q.length) m) (l' := .v 8) (z' := some (5, 0)) (show olIs _ 1 (.v 1) (some (5, 0)) w v1 from a1.1) ?_ rfl
    show pa p q = (pa p q).take (max p.length q.length)
    rw [List.take_of_length_le (by omega)]
  · intro i hi ro d B0 D0 a w hAt
    obtain ⟨s, hs⟩ : ∃ b : Bool, b = true ↔ i < p.length := ⟨decide (i < p.length), by rw [decide_eq_true_iff]⟩
    obtain ⟨t, ht⟩ : ∃ b : Bool, b = true ↔ i < q.length := ⟨decide (i < q.length), by rw [decide_eq_true_iff]⟩
    have hB : AllX (paEnv p q hf lo i m) (paB1 s t) := by
      intro x hx
      unfold paB1 at hx
      rcases List.mem_append.1 hx with hx | hx
      · simp only [List.mem_cons, List.not_mem_nil, or_false] at hx
        rcases hx with rfl | rfl | rfl | rfl | rfl | rfl | rfl
        · rfl
        · rfl
        · show ((pa p q).take i).length = i
          rw [List.length_take]; omega
        · show i ≤ 10000
          omega
        · show true = true ↔ ((i : Nat) : Int) + 0 < ((max p.length q.length : Nat) : Int) + 0
          exact ⟨fun _ => by omega, fun _ => rfl⟩
        · show s = true ↔ ((i : Nat) : Int) + 0 < ((p.length : Nat) : Int) + 0
          rw [hs]; omega
        · show t = true ↔ ((i : Nat) : Int) + 0 < ((q.length : Nat) : Int) + 0
          rw [ht]; omega
      · have el : ∀ {l : List Rat} {c : Nat} {e : Qe}, (paEnv p q hf lo i m).lst c = l → e.ev (paEnv p q hf lo i m).q = l.getD i 0 → i < l.length → (Ix.el c 4 0 e).holds (paEnv p q hf lo i m) := fun {l c e} h1 h2 h3 => by
          refine ⟨i, ?_, ?_⟩
          · show ((i : Nat) : Int) = ((i : Nat) : Int) + 0
            omega
          · rw [h1, h2, List.getD_eq_getElem?_getD, List.getElem?_eq_getElem h3]; rfl
        rcases List.mem_append.1 hx with hx | hx
        · cases s with
          | false => simp at hx
          | true =>
            simp only [cond_true, List.mem_cons, List.not_mem_nil, or_false] at hx
            subst hx
            exact el (l := p) rfl rfl (hs.1 rfl)
        · cases t with
          | false => simp at hx
          | true =>
            simp only [cond_true, List.mem_cons, List.not_mem_nil, or_false] at hx
            subst hx
            exact el (l := q) rfl rfl (ht.1 rfl)
    have hst : (s || t) = true := by
      rcases Nat.lt_or_ge i p.length with h | h
      · rw [hs.2 h]; rfl
      · rw [ht.2 (by omega), Bool.or_true]
    have none : ∀ {l : List Rat} {b : Bool}, (b = true ↔ i < l.length) → b = false → l.getD i 0 = 0 := fun {l b} h1 h2 => by
      have hle : l.length ≤ i := by
        rcases Nat.lt_or_ge i l.length with q | q
        · have := h1.2 q; rw [h2] at this; cases this
        · exact q
      rw [List.getD_eq_getElem?_getD, List.getElem?_eq_none hle]; rfl
    have hA : AllH (paEnv p q hf lo i m) (paA1 s t) := fun x hx => by
      cases s with
      | false =>
        simp only [paA1, cond_false, List.mem_cons, List.not_mem_nil, or_false] at hx
        subst hx
        show true = true ↔ p.getD i 0 = 0
        exact ⟨fun _ => none hs rfl, fun _ => rfl⟩
      | true =>
        cases t with
        | false =>
          simp only [paA1, cond_true, cond_false, List.mem_cons, List.not_mem_nil, or_false] at hx
          subst hx
          show true = true ↔ q.getD i 0 = 0
          exact ⟨fun _ => none ht rfl, fun _ => rfl⟩
        | true => simp [paA1] at hx
    exact round_run (C := lsCfg false (paA1 s t) (paB1 s t) noJ) (call := lsClW false (paA1 s t) (paB1 s t) 20) (fuel := 20) (lsFits hA hB) (lsClW_ok hA hB) rfl (fun y _ m e => by cases e) eqSy_ok (pa_round s t hst) few5 hAt
theorem pa_all {A : List As} {B : List Ix} (hm : TrimAt (pa p q) m) (hp9 : p.length ≤ 1000) (hq9 : q.length ≤ 1000) : JmpAll (symSig (paEnv p q hf lo 0 m)) Tryz.prog (lsCfg false A B paJ) := by
  have hlen := pa_len p q
  refine ⟨fun f x m e ts => ?_, fun f fn c x m2 ht hb hx e => ?_⟩
  · rcases condJ (show cond (Nat.beq f prF) (some (jumpM eqSy 34 paT (paS .nil (.p (.int .i64 0))) (paS (.v 8) (.f (.ix 5 0))))) (tqJ f x) = some m from e) with ⟨_, rfl⟩ | ⟨_, e2⟩
    · exact loc_jumpM _ _ _ _ _
    · rcases condJ (show cond (Nat.beq f trF) (some (jumpM eqSy 22 trTm (tqSl (.ix 5 0)) (tqSl (.ix 6 0)))) none = some m from e2) with ⟨_, rfl⟩ | ⟨_, e3⟩
      · exact loc_jumpM _ _ _ _ _
      · cases e3
  · rcases condJ (show cond (Nat.beq f prF) (some (jumpM eqSy 34 paT (paS .nil (.p (.int .i64 0))) (paS (.v 8) (.f (.ix 5 0))))) (tqJ f x) = some m2 from e) with ⟨h1, rfl⟩ | ⟨_, e2⟩
    · obtain rfl := Nat.eq_of_beq_eq_true h1
      exact one_jmp pr_one (@pa_jmp p q hf lo m hp9 hq9) ht hb hx
    · rcases condJ (show cond (Nat.beq f trF) (some (jumpM eqSy 22 trTm (tqSl (.ix 5 0)) (tqSl (.ix 6 0)))) none = some m2 from e2) with ⟨h1, rfl⟩ | ⟨_, e3⟩
      · obtain rfl := Nat.eq_of_beq_eq_true h1
        exact one_jmp tr_one' (@tq_jmp (paEnv p q hf lo 0 m) m hm (show max p.length q.length = (pa p q).length from hlen.symm) rfl (show (pa p q).length ≤ 9000 by omega)) ht hb hx
      · cases e3
end
theorem addE_any (w : World) {p q : List Rat} (hf : PaFit p q) {m : Nat} (hm : TrimAt (pa p q) m) (hp9 : p.length ≤ 1000) (hq9 : q.length ≤ 1000) {u v : Value} (hu : LsIn 1 w u p) (hv : LsIn 1 w v q) (hG : Tryz.prog.globals.size ≤ w.heap.size) (hT : natSig.base w) :
    Calls Tryz.prog paF ⟨[u, v]⟩ w fun e w' => ∃ x, e = .returned x ∧ NewOl 1 w w' x ((pa p q).take m) ∧ Below w.heap.size w w' := by
  have hlen := pa_len p q
  have hh : HoldsL (symSig (paEnv p q hf w.heap.size 0 m)) w [.ls 1 0, .ls 1 3] [u, v] := ⟨u, _, rfl, LsIn.ls hu rfl, by obtain ⟨a, m, rfl, _⟩ := hu; rfl, v, _, rfl, LsIn.ls hv rfl, by obtain ⟨a, m, rfl, _⟩ := hv; rfl, rfl⟩
  obtain ⟨t, ht⟩ : ∃ b : Bool, b = true ↔ 0 < m := ⟨decide (0 < m), by rw [decide_eq_true_iff]⟩
  have hA : AllH (paEnv p q hf w.heap.size 0 m) (tqA0 t (Big.ng ((paEnv p q hf w.heap.size 0 m).q 4))) := tq_A0 (E := paEnv p q hf w.heap.size 0 m) (m := m) hm rfl ht
  have hB : AllX (paEnv p q hf w.heap.size 0 m) (paB0 t) := by
    intro x hx
    simp only [paB0, List.mem_cons] at hx
    rcases hx with rfl | rfl | rfl | hx
    · rfl
    · rfl
    · show biF 3 (((p.length : Nat) : Int) + 0) (((q.length : Nat) : Int) + 0) = ((max p.length q.length : Nat) : Int) + 0 ∧ max p.length q.length ≤ 10000
      refine ⟨?_, by omega⟩
      unfold biF
      simp only
      split <;> omega
    · exact tq_B0 (E := paEnv p q hf w.heap.size 0 m) hm rfl (show max p.length q.length = (pa p q).length from hlen.symm) rfl (show (pa p q).length ≤ 9000 by omega) ht x hx
  refine (tells_calls (lsFits hA hB) (lsSumsW_ok hA) (pa_run t _) rfl glob_few hh hG hT (Nat.le_refl _) (pa_all hf w.heap.size hm hp9 hq9)).mono ?_
  rintro e w' ⟨v', rfl, h1, hb⟩
  exact ⟨v', rfl, newOl_of (ρ := paEnv p q hf w.heap.size 0 m) rfl h1 (by
    show (pa p q).take (((m : Nat) : Int) + 0).toNat = _
    rfl) (fun p hp => by cases hp), hb⟩
theorem whole_k (k : Nat) : tells [k] [.one] (call Tryz.prog natCfg natSums 20 16) = some (.one (.agg [.p (.bool false), .f k, .f 1])) := by kernel_rfl
def wq (k : Nat) : Rat := mkRat (Big.sI false k) 1
theorem wq_is (k : Nat) : wq k = ((k : Int) : Rat) := by
  unfold wq
  rw [Big.sI_false, Rat.mkRat_one]
theorem wq_parts (k : Nat) : Big.ng (wq k) = false ∧ Big.nu (wq k) = k ∧ Big.de (wq k) = 1 := by
  rw [wq_is]
  refine ⟨?_, ?_, ?_⟩
  · unfold Big.ng
    rw [Rat.num_intCast]
    exact decide_eq_false (by omega)
  · unfold Big.nu
    rw [Rat.num_intCast]; rfl
  · unfold Big.de
    rw [Rat.den_intCast]
theorem wholeK_any (w : World) {v : Value} {k : Nat} (hv : NatIn w v k) (hG : Tryz.prog.globals.size ≤ w.heap.size) (hT : natSig.base w) :
    Calls Tryz.prog 16 ⟨[v]⟩ w fun e w' => ∃ v, e = .returned v ∧ NumIn w' v (wq k) ∧ Below w.heap.size w w' := by
  refine (tells_calls natFits natSums_ok (whole_k k) rfl glob_few (us := [v]) ⟨v, _, rfl, hv, nat_one hv, rfl⟩ hG hT).mono ?_
  rintro e w' ⟨v', rfl, ⟨vs, rfl, a, l1, rfl, h1, b, l2, rfl, h2, c, l3, rfl, h3, rfl⟩, hb⟩
  have h1' : a = .bool false := h1
  subst h1'
  obtain ⟨p1, p2, p3⟩ := wq_parts k
  refine ⟨_, rfl, ⟨b, c, ?_, ?_, ?_⟩, hb⟩
  · rw [p1]
  · rw [p2]; exact h2
  · rw [p3]; exact h3
theorem goes_fact {ρ : Env} {f : FuncId} {args' : List Value} {h h' : Tr (Blk Sy)} {nx nx' : Nat} {R W : List Nat} {r : Ren} {w : World} {v : Value} {n : Sy} (e : (newFact n : M Sy Value) h nx = .ok v h' nx' R W) (hM : Mod (symSig ρ) r h.get w) (hN : New r nx nx')
    (c : Calls Tryz.prog f ⟨args'⟩ w fun e w' => ∃ u, e = .returned u ∧ n.holds ρ w' u ∧ isOne u = true ∧ Below w.heap.size w w') : Calls Tryz.prog f ⟨args'⟩ w fun e w' => ∃ v' r', e = .returned v' ∧ VR r' v v' ∧ Ext (symSig ρ) r w nx nx' W h'.get r' w' := by
  obtain ⟨i, h1, nx1, R1, W1, R2, W2, e1, e2, rfl, rfl⟩ := bind_ok e
  obtain ⟨rfl, rfl, rfl, rfl⟩ := ret_ok e2
  unfold fresh at e1
  cases e1
  refine c.mono ?_
  rintro en w' ⟨v', rfl, hv, ho, hb⟩
  obtain ⟨r', hX, hr⟩ := ext_fact (S := symSig ρ) (f := n) hM hb hN hv ho
  exact ⟨v', r', rfl, .opq hr ho, by simpa using hX.congr fun n => .inr (Tr.get_set _ _ _ _)⟩
noncomputable def smallU (v : Value) : Option Nat := match v with
  | .int k z => match k with
    | .u64 => match z with
      | .ofNat n => cond (Nat.ble n 65535) (some n) none
      | _ => none
    | _ => none
  | _ => none
theorem smallU_ok {v : Value} {n : Nat} (h : smallU v = some n) : v = .int .u64 (n : Int) ∧ n ≤ 65535 := by
  unfold smallU at h
  split at h <;> first | (cases h; done) | skip
  split at h <;> first | (cases h; done) | skip
  split at h <;> first | (cases h; done) | skip
  rename_i m
  cases hb : Nat.ble m 65535 with
  | false => rw [hb] at h; cases h
  | true =>
    rw [hb] at h
    cases h
    exact ⟨rfl, Nat.le_of_ble_eq_true hb⟩
noncomputable def natOfL : Nat × (List Value → Option (M Sy Value)) := (46, fun args => match args with
  | [a] => match smallU a with
    | some n => some (newFact (.n n))
    | none => none
  | _ => none)
theorem natOfL_ok {ρ : Env} : SumF (symSig ρ) Tryz.prog natOfL.1 natOfL.2 := by
  intro args m e
  rcases args with _ | ⟨a, _ | ⟨c, l⟩⟩ <;> first | (cases (show none = some m from e); done) | skip
  have e' : (match smallU a with
    | some n => some (newFact (.n n))
    | none => none) = some m := e
  cases hn : smallU a with
  | none => rw [hn] at e'; cases e'
  | some n =>
    rw [hn] at e'
    cases e'
    obtain ⟨rfl, hlt⟩ := smallU_ok hn
    refine ⟨loc_newFact _, fun h nx v h' nx' R W e r w args' ha hM hN => ?_⟩
    cases ha with
    | cons h1 h2 =>
      cases h2
      obtain rfl := h1.eq_of_plain rfl
      refine goes_fact e hM hN ((of_num w n (Nat.lt_of_le_of_lt hlt (by decide))).mono ?_)
      rintro en w' ⟨u, rfl, hu, hb⟩
      exact ⟨u, rfl, hu, nat_one hu, hb⟩
noncomputable def wholeL : Nat × (List Value → Option (M Sy Value)) := (16, fun args => match args with
  | [a] => some (bind (fact a) fun f => match f with
    | .n k => newNum (.c false k 1)
    | _ => fail)
  | _ => none)
theorem wholeL_ok {ρ : Env} : SumF (symSig ρ) Tryz.prog wholeL.1 wholeL.2 := by
  intro args m e
  rcases args with _ | ⟨a, _ | ⟨c, l⟩⟩ <;> first | (cases (show none = some m from e); done) | skip
  cases e
  refine ⟨loc_bind (loc_fact _) fun f => ?_, fun h nx v h' nx' R W e r w args' ha hM hN => ?_⟩
  · split
    · exact loc_newNum _
    · exact loc_fail
  · cases ha with
    | cons h1 h2 =>
      cases h2
      obtain ⟨f, g1, nx1, R1, W1, R2, W2, e1, e2, rfl, rfl⟩ := bind_ok e
      obtain ⟨rfl, rfl, rfl, hf⟩ := fact_ok e1 h1 hM
      cases f <;> first | (cases (show (fail : M Sy Value) _ _ = _ from e2); done) | skip
      rename_i k
      have := goes_agg (f := 16) e2 hM hN ((wholeK_any w (show NatIn w _ k from hf) hM.fits hM.base).mono fun en w' hh => by
        obtain ⟨u, rfl, hu, hb⟩ := hh
        obtain ⟨us, rfl, hus⟩ := num_holds (e := .c false k 1) (ρ := ρ) hu
        exact ⟨us, rfl, hus, hb⟩)
      simp only [List.nil_append]
      exact this
noncomputable def isNum (e : Qe) (d : Option (D3 Sy)) : Bool := match d with
  | some (.one (.agg [.f a, .f b, .f c])) => eqSy a (.ng e) && (eqSy b (.nu e) && eqSy c (.de e))
  | _ => false
theorem isNum_ok {e : Qe} {d : Option (D3 Sy)} (h : isNum e d = true) : d = some (.one (.agg [.f (.ng e), .f (.nu e), .f (.de e)])) := by
  unfold isNum at h
  split at h
  · simp only [Bool.and_eq_true] at h
    rw [eqSy_ok _ _ h.1, eqSy_ok _ _ h.2.1, eqSy_ok _ _ h.2.2]
  · cases h
noncomputable def poS (B : List Ix) (c d : Nat) : Nat × (List Value → Option (M Sy Value)) := (ofF, fun args => match args with
  | [a] => some (bind (lsArg B a) fun y => cond (isLe y 2 c) (newOw (.ol 0 (.v d) none)) fail)
  | _ => none)
theorem poS_ok {ρ : Env} {B : List Ix} (hB : AllX ρ B) {c d m : Nat} (hq : ∀ q ∈ ρ.lst c, Fit q) (hn : (ρ.lst c).length ≤ 10000) (ht : TrimAt (ρ.lst c) m) (h33 : m ≤ 33) (hd : ρ.lst d = (ρ.lst c).take m) : SumF (symSig ρ) Tryz.prog (poS B c d).1 (poS B c d).2 := by
  intro args k hm
  rcases args with _ | ⟨a, _ | ⟨b, l⟩⟩ <;> first | (cases (show none = some k from hm); done) | skip
  cases hm
  refine ⟨loc_bind (loc_lsArg _ _) fun _ => loc_cond (loc_newOw _) loc_fail, fun h nx v h' nx' R W e r w args' hv hM hN => ?_⟩
  cases hv with
  | cons h1 h2 =>
    cases h2
    obtain ⟨y, g1, nx1, R1, W1, R2, W2, e1, e2, rfl, rfl⟩ := bind_ok e
    obtain ⟨rfl, rfl, rfl, hls⟩ := lsArg_ok hB e1 h1 hM
    obtain ⟨hk, e3⟩ := cond_ok e2
    obtain rfl := isLe_ok hk
    have c0 := polyOf_any w hq hn ht h33 hls hM.fits hM.base
    rw [← hd] at c0
    have := goes_ow (f := ofF) (l := .v d) e3 hM hN c0
    simp only [List.nil_append]
    exact this
section
variable {qs : List Rat} (hq : ∀ q ∈ qs, Fit q) (lo : Nat) {m : Nat}
end
noncomputable def isTrue (d : Option (D3 Sy)) : Bool := match d with
  | some (.one (.one (.p (.bool b)))) => b
  | _ => false
section
variable {ρ : Env} {B : List Ix}
end
theorem int_fit {q : Rat} (h : q.den = 1) (h0 : -9223372036854775808 ≤ q.num) (h1 : q.num ≤ 9223372036854775807) : Fit q := by
  have hb : By 8 (ofQ q.num 1) := ofQ_by (by omega) (by decide) (by decide)
  have := hb.fit (by omega)
  rwa [ofQ_one h] at this
theorem isTrue_ok {d : Option (D3 Sy)} (h : isTrue d = true) : d = some (.one (.one (.p (.bool true)))) := by
  unfold isTrue at h
  split at h
  · subst h; rfl
  · cases h
def dv (p : List Rat) : List Rat := (List.range (p.length - 1)).map fun i => p.getD (i + 1) 0 * wq (i + 1)
theorem wq_fit {i : Nat} (h : i ≤ 1000000) : Fit (wq i) := by
  rw [wq_is]
  have hn : (((i : Int) : Rat)).num = (i : Int) := Rat.num_intCast _
  exact int_fit (Rat.den_intCast _) (by rw [hn]; omega) (by rw [hn]; omega)
structure DeFit (p : List Rat) : Prop where
  fp : ∀ x ∈ p, Fit x
  fs : ∀ x ∈ dv p, Fit x
section
variable {p : List Rat} (hf : DeFit p) (lo : Nat) {m : Nat}
end
noncomputable def atF : Nat := 23
def atE (n : Nat) : Nat → Qe
  | 0 => .c false 0 1
  | k + 1 => .add (.mul (atE n k) (.v 9)) (.v (10 + (n - (k + 1))))
def atRow (n k : Nat) : List Ix := cond (Nat.blt k n) [.lt 1 (-((k : Int) + 1)) 0 0 false, .el 0 1 (-((k : Int) + 1)) (.v (10 + (n - (k + 1))))] [.lt 1 (-((k : Int) + 1)) 0 0 true]
def atRows (n : Nat) : Nat → List Ix
  | 0 => []
  | k + 1 => atRow n k ++ atRows n k
def atB (n : Nat) : List Ix := .ln 0 1 :: .bd 1 :: atRows n (n + 1)
noncomputable def atRun (n : Nat) : Option (D3 Sy) := tells [.ls 1 0, .ng (.v 9), .nu (.v 9), .de (.v 9)] [.one, .agg 3] (call Tryz.prog (lsCfg false [] (atB n) noJ) (lsSumsW []) 60 atF)
set_option maxHeartbeats 4000000 in
theorem at_runs : (List.range 21).all (fun n => isNum (atE n n) (atRun n)) = true := by kernel_rfl
def atQ (p : List Rat) (x : Rat) (i : Nat) : Rat := if i = 9 then x else p.getD (i - 10) 0
theorem atQ_fit {p : List Rat} {x : Rat} (hp : ∀ y ∈ p, Fit y) (hx : Fit x) (i : Nat) : Fit (atQ p x i) := by
  unfold atQ
  split
  · exact hx
  · exact getD_fit hp _
def atNat (a : Nat) : Nat → Nat
  | 1 => a
  | _ => 0
def atLst (p : List Rat) : Nat → List Rat
  | 0 => p
  | _ => []
def atEnv (p : List Rat) (x : Rat) (hp : ∀ y ∈ p, Fit y) (hx : Fit x) (lo : Nat) : Env := ⟨atQ p x, fun _ => (false, ⟨#[]⟩, ⟨#[]⟩), fun i _ => atQ_fit hp hx i, fun i => (atQ_fit hp hx i).sm.up (by decide), fun _ => bad_zero, lo, atLst p, atNat p.length, rfl⟩
theorem atE_ev (p : List Rat) (x : Rat) : ∀ k, k ≤ p.length → (atE p.length k).ev (atQ p x) = evL x (p.drop (p.length - k))
  | 0, _ => by
    rw [Nat.sub_zero, List.drop_length]; rfl
  | k + 1, h => by
    have ih := atE_ev p x k (by omega)
    show (atE p.length k).ev (atQ p x) * atQ p x 9 + atQ p x (10 + (p.length - (k + 1))) = _
    rw [ih]
    have h1 : p.drop (p.length - (k + 1)) = p.getD (p.length - (k + 1)) 0 :: p.drop (p.length - k) := by
      rw [List.drop_eq_getElem_cons (by omega), show p.length - (k + 1) + 1 = p.length - k by omega, List.getD_eq_getElem?_getD, List.getElem?_eq_getElem (by omega)]; rfl
    rw [h1]
    show _ = evL x (p.drop (p.length - k)) * x + p.getD (p.length - (k + 1)) 0
    have h2 : atQ p x 9 = x := rfl
    have h3 : atQ p x (10 + (p.length - (k + 1))) = p.getD (p.length - (k + 1)) 0 := by
      unfold atQ
      rw [if_neg (by omega)]
      congr 1; omega
    rw [h2, h3]
theorem atE_any (w : World) {p : List Rat} {x : Rat} (hp : ∀ y ∈ p, Fit y) (hx : Fit x) (hl : p.length ≤ 20) {u v : Value} (hu : LsIn 1 w u p) (hv : NumIn w v x) (hG : Tryz.prog.globals.size ≤ w.heap.size) (hT : natSig.base w) :
    Calls Tryz.prog atF ⟨[u, v]⟩ w fun e w' => ∃ y, e = .returned y ∧ NumIn w' y (evL x p) ∧ Below w.heap.size w w' := by
  have hr := isNum_ok (List.all_eq_true.1 at_runs p.length (List.mem_range.2 (by omega)))
  obtain ⟨us, rfl, hus⟩ := num_holds (e := .v 9) (ρ := atEnv p x hp hx w.heap.size) hv
  obtain ⟨a, l1, rfl, g1, o1, b, l2, rfl, g2, o2, c, l3, rfl, g3, o3, rfl⟩ := hus
  have hA : AllH (atEnv p x hp hx w.heap.size) [] := fun x hx => by simp at hx
  have rows : ∀ k, k ≤ p.length + 1 → ∀ y ∈ atRows p.length k, y.holds (atEnv p x hp hx w.heap.size) := by
    intro k
    induction k with
    | zero => intro _ y hy; simp [atRows] at hy
    | succ k ih =>
      intro hk y hy
      unfold atRows at hy
      rcases List.mem_append.1 hy with hy | hy
      · unfold atRow at hy
        cases hb : Nat.blt k p.length with
        | true =>
          have hkl : k < p.length := Nat.le_of_ble_eq_true hb
          rw [hb] at hy
          simp only [cond_true, List.mem_cons, List.not_mem_nil, or_false] at hy
          rcases hy with rfl | rfl
          · show false = true ↔ ((p.length : Nat) : Int) + (-((k : Int) + 1)) < ((0 : Nat) : Int) + 0
            exact ⟨fun h => (by cases h), fun h => by omega⟩
          · refine ⟨p.length - (k + 1), ?_, ?_⟩
            · show ((p.length - (k + 1) : Nat) : Int) = ((p.length : Nat) : Int) + (-((k : Int) + 1))
              omega
            · show p[p.length - (k + 1)]? = some (atQ p x (10 + (p.length - (k + 1))))
              unfold atQ
              rw [if_neg (by omega), show 10 + (p.length - (k + 1)) - 10 = p.length - (k + 1) by omega, List.getD_eq_getElem?_getD, List.getElem?_eq_getElem (by omega)]; rfl
        | false =>
          have hkl : ¬ k < p.length := fun h => by
            have : Nat.blt k p.length = true := Nat.ble_eq_true_of_le h
            rw [hb] at this; cases this
          rw [hb] at hy
          simp only [cond_false, List.mem_cons, List.not_mem_nil, or_false] at hy
          subst hy
          show true = true ↔ ((p.length : Nat) : Int) + (-((k : Int) + 1)) < ((0 : Nat) : Int) + 0
          exact ⟨fun _ => by omega, fun _ => rfl⟩
      · exact ih (by omega) y hy
  have hB : AllX (atEnv p x hp hx w.heap.size) (atB p.length) := by
    intro y hy
    simp only [atB, List.mem_cons] at hy
    rcases hy with rfl | rfl | hy
    · rfl
    · show p.length ≤ 10000
      omega
    · exact rows _ (Nat.le_refl _) y hy
  refine (tells_calls (lsFits hA hB) (lsSumsW_ok hA) hr rfl glob_few (us := [u, a, b, c]) ⟨_, _, rfl, LsIn.ls hu rfl, by obtain ⟨a, m, rfl, _⟩ := hu; rfl, _, _, rfl, g1, o1, _, _, rfl, g2, o2, _, _, rfl, g3, o3, rfl⟩ hG hT (Nat.le_refl _) (.none rfl)).mono ?_
  rintro e w' ⟨v', rfl, ⟨vs, rfl, a2, l4, rfl, h1, b2, l5, rfl, h2, c2, l6, rfl, h3, rfl⟩, hb⟩
  have hev : (atE p.length p.length).ev (atQ p x) = evL x p := by
    rw [atE_ev p x _ (Nat.le_refl _), Nat.sub_self, List.drop_zero]
  have h1' : a2 = .bool (Big.ng ((atE p.length p.length).ev (atQ p x))) := h1
  have h2' : NatIn w' b2 (Big.nu ((atE p.length p.length).ev (atQ p x))) := h2
  have h3' : NatIn w' c2 (Big.de ((atE p.length p.length).ev (atQ p x))) := h3
  rw [hev] at h1' h2' h3'
  exact ⟨_, rfl, ⟨b2, c2, by rw [h1'], h2', h3'⟩, hb⟩
end Ev
end Go.Proofs.YtaefgofheiegeaaGreat
