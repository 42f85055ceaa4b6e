/- Floats beside: one or neighbours (plain). -/
import Derived.Test.YtgdcahdnojaebaaGo
namespace Go.Proofs.Ytgdcahdnojaebaa
open Go.RowKit Ieee Fl

theorem V_eq0 {r : Nat} : V r = 0 ↔ r = 0 := ⟨fun h => by
  rcases Nat.eq_zero_or_pos r with h0 | h0
  · exact h0
  · have := V_lt h0; omega, fun h => by rw [h, V_zero]⟩
theorem V_eqI {r : Nat} (hr : r ≤ INF) : V r = V INF ↔ r = INF := ⟨fun h => by
  rcases Nat.lt_or_eq_of_le hr with h0 | h0
  · have := V_lt h0; omega
  · exact h0, fun h => by rw [h]⟩
theorem sv_p {r : Nat} (h : r ≤ INF) : sv r = V r := by
  have e : rg r = r := by unfold rg INF at *; omega
  have n : ngb r = false := by unfold ngb INF at *; simp; omega
  unfold sv sg; rw [e, n]; rfl
theorem sv_n {r : Nat} (h : r ≤ INF) : sv (9223372036854775808 + r) = -(V r : Int) := by
  have e : rg (9223372036854775808 + r) = r := by unfold rg INF at *; omega
  have n : ngb (9223372036854775808 + r) = true := by unfold ngb INF at *; simp; omega
  unfold sv sg; rw [e, n]; rfl
theorem num_cases {x : Nat} (h : Num64 x) : ∃ r, r ≤ INF ∧ (x = r ∨ x = 9223372036854775808 + r) := by
  refine ⟨rg x, h.1, ?_⟩
  have := h.2
  unfold rg; omega
theorem num_p {r : Nat} (h : r ≤ INF) : Num64 r := by unfold Num64 IsN rg; unfold INF at *; omega
theorem num_n {r : Nat} (h : r ≤ INF) : Num64 (9223372036854775808 + r) := by unfold Num64 IsN rg; unfold INF at *; omega
theorem nextU_p {r : Nat} (h : r ≤ INF) : nextU r = if r = INF then r else r + 1 := by
  unfold nextU
  rw [sv_p h, sv_PINF]
  by_cases h1 : r = INF
  · rw [if_pos h1, if_pos (by rw [h1])]
  · have : ¬ V r = V INF := fun e => h1 ((V_eqI h).1 e)
    rw [if_neg h1, if_neg (by omega)]
    by_cases h2 : r = 0
    · subst h2; rfl
    · have : V r ≠ 0 := fun e => h2 (V_eq0.1 e)
      rw [if_neg (by omega), if_pos (by omega)]
theorem nextU_n {r : Nat} (h : r ≤ INF) : nextU (9223372036854775808 + r) = if r = 0 then 1 else 9223372036854775808 + r - 1 := by
  unfold nextU
  have hp := V_inf_pos
  rw [sv_n h, sv_PINF, if_neg (by omega)]
  by_cases h2 : r = 0
  · rw [if_pos h2, if_pos (by rw [h2]; rfl)]
  · have : V r ≠ 0 := fun e => h2 (V_eq0.1 e)
    rw [if_neg h2, if_neg (by omega), if_neg (by omega)]
theorem nextD_p {r : Nat} (h : r ≤ INF) : nextD r = if r = 0 then 9223372036854775809 else r - 1 := by
  unfold nextD
  have hp := V_inf_pos
  rw [sv_p h, sv_NINF, if_neg (by omega)]
  by_cases h2 : r = 0
  · rw [if_pos h2, if_pos (by rw [h2]; rfl)]
  · have : V r ≠ 0 := fun e => h2 (V_eq0.1 e)
    rw [if_neg h2, if_neg (by omega), if_pos (by omega)]
theorem nextD_n {r : Nat} (h : r ≤ INF) : nextD (9223372036854775808 + r) = if r = INF then 9223372036854775808 + r else 9223372036854775808 + r + 1 := by
  unfold nextD
  rw [sv_n h, sv_NINF]
  by_cases h1 : r = INF
  · rw [if_pos h1, if_pos (by rw [h1])]
  · have : ¬ V r = V INF := fun e => h1 ((V_eqI h).1 e)
    rw [if_neg h1, if_neg (by omega)]
    by_cases h2 : r = 0
    · subst h2; rfl
    · have : V r ≠ 0 := fun e => h2 (V_eq0.1 e)
      rw [if_neg (by omega), if_neg (by omega)]
theorem unsg_p {r : Nat} (h : r ≤ INF) : unsg r = r := by
  unfold unsg; rw [sv_p h]
  by_cases h2 : r = 0
  · subst h2; rfl
  · have : V r ≠ 0 := fun e => h2 (V_eq0.1 e)
    rw [if_neg (by omega)]
theorem unsg_n {r : Nat} (h : r ≤ INF) : unsg (9223372036854775808 + r) = if r = 0 then 0 else 9223372036854775808 + r := by
  unfold unsg; rw [sv_n h]
  by_cases h2 : r = 0
  · subst h2; rfl
  · have : V r ≠ 0 := fun e => h2 (V_eq0.1 e)
    rw [if_neg h2, if_neg (by omega)]
theorem sv_unsg (x : Nat) : sv (unsg x) = sv x := by
  unfold unsg; split
  · rename_i h; rw [h]; decide
  · rfl
theorem unsg_num {x : Nat} (h : Num64 x) : Num64 (unsg x) := by
  unfold unsg; split
  · exact ⟨by unfold IsN; decide, by omega⟩
  · exact h
theorem wd_self {d : Nat} (h : d < 18446744073709551616) : wd (ngb d) (rg d) = d := by
  unfold wd ngb rg
  by_cases h1 : d / 9223372036854775808 % 2 = 1
  · rw [if_pos (by simp [h1])]; omega
  · rw [if_neg (by simp [h1])]; omega
/-- A nought more. -/
theorem add_0 {d : Nat} (h : Num64 d) : double.add d 0 = some (unsg d) := by
  have f0 : FinW 0 := by unfold FinW; decide
  rcases fin_or h.1 with hf | hi
  · rw [add_fin hf f0, sv_0, Int.add_zero]
    unfold unsg
    by_cases hz : sv d = 0
    · rw [if_pos hz, hz]
      show some (wd (if (0 : Int) = 0 then ngb d && ngb 0 else _) 0) = _
      rw [if_pos rfl, show ngb 0 = false by decide, Bool.and_false]; rfl
    · rw [if_neg hz, sv_natAbs, rung_V h.1]
      have : sumS (ngb d) (ngb 0) (sv d) = ngb d := by
        unfold sumS; rw [if_neg hz]
        unfold sv sg at hz ⊢
        cases hn : ngb d
        · rw [hn] at hz; simp at hz ⊢
        · rw [hn] at hz; simp at hz ⊢; omega
      rw [this, wd_self h.2]
  · rw [add_inf hi f0]
    unfold unsg
    rw [if_neg (by rw [sv_inf hi]; have := V_inf_pos; unfold sg; split <;> omega), ← hi, wd_self h.2]
theorem sided_num {x d u : Nat} (hx : Num64 x) (h : Sided x d u) : Num64 d ∧ Num64 u := by
  have hU := nextU_num hx.1 hx.2
  have hD := nextD_num hx.1 hx.2
  rcases h with ⟨rfl, rfl⟩ | ⟨rfl, rfl⟩ | ⟨rfl, rfl⟩
  · exact ⟨unsg_num hx, unsg_num hx⟩
  · exact ⟨unsg_num hx, unsg_num hU⟩
  · exact ⟨unsg_num hD, unsg_num hx⟩
/-- The two sides are the same, or neighbours. -/
theorem sided_beside {x d u : Nat} (hx : Num64 x) (h : Sided x d u) : sv d = sv u ∨ (sv d < sv u ∧ unsg (nextU (unsg d)) = u) := by
  obtain ⟨r, hr, hx⟩ := num_cases hx
  have hp := V_inf_pos
  rcases h with ⟨rfl, rfl⟩ | ⟨rfl, rfl⟩ | ⟨rfl, rfl⟩
  · exact .inl rfl
  · rcases hx with rfl | rfl
    · rw [nextU_p hr, unsg_p hr, unsg_p hr]
      by_cases h1 : x = INF
      · rw [if_pos h1, unsg_p hr]; exact .inl rfl
      · rw [if_neg h1, unsg_p (r := x + 1) (by omega), nextU_p hr, if_neg h1, unsg_p (r := x + 1) (by omega), sv_p hr, sv_p (r := x + 1) (by omega)]
        have := V_lt (show x < x + 1 by omega)
        exact .inr ⟨by omega, rfl⟩
    · rw [nextU_n hr, unsg_n hr]
      by_cases h0 : r = 0
      · subst h0; exact .inr ⟨by decide +kernel, by decide +kernel⟩
      · rw [if_neg h0, if_neg h0, unsg_n hr, if_neg h0, nextU_n hr, if_neg h0]
        rw [show 9223372036854775808 + r - 1 = 9223372036854775808 + (r - 1) by omega]
        rw [sv_unsg, sv_n hr, sv_n (r := r - 1) (by omega)]
        have := V_lt (show r - 1 < r by omega)
        exact .inr ⟨by omega, rfl⟩
  · rcases hx with rfl | rfl
    · rw [nextD_p hr, unsg_p hr]
      by_cases h0 : x = 0
      · subst h0; exact .inr ⟨by decide +kernel, by decide +kernel⟩
      · rw [if_neg h0, unsg_p (r := x - 1) (by omega), unsg_p (r := x - 1) (by omega), nextU_p (r := x - 1) (by omega), if_neg (by omega), show x - 1 + 1 = x by omega, unsg_p hr, sv_p hr, sv_p (r := x - 1) (by omega)]
        have := V_lt (show x - 1 < x by omega)
        exact .inr ⟨by omega, rfl⟩
    · rw [nextD_n hr]
      by_cases h1 : r = INF
      · rw [if_pos h1]; exact .inl rfl
      · rw [if_neg h1, show 9223372036854775808 + r + 1 = 9223372036854775808 + (r + 1) by omega, unsg_n (r := r + 1) (by omega), if_neg (by omega), unsg_n (r := r + 1) (by omega), if_neg (by omega), nextU_n (r := r + 1) (by omega), if_neg (by omega), show 9223372036854775808 + (r + 1) - 1 = 9223372036854775808 + r by omega, sv_unsg, sv_n hr, sv_n (r := r + 1) (by omega)]
        have := V_lt (show r < r + 1 by omega)
        exact .inr ⟨by omega, rfl⟩
/-- The own answer is one of them. -/
theorem sided_own {x d u : Nat} (h : Sided x d u) : sv d = sv x ∨ sv u = sv x := by
  rcases h with ⟨rfl, rfl⟩ | ⟨rfl, rfl⟩ | ⟨rfl, rfl⟩
  · exact .inl (sv_unsg _)
  · exact .inl (sv_unsg _)
  · exact .inr (sv_unsg _)
end Go.Proofs.Ytgdcahdnojaebaa
