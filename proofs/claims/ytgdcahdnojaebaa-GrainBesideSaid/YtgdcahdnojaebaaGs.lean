/- package grain: unsigned, sides. -/
import Derived.Test.YtgdcahdnojaebaaGn
namespace Go.Proofs.Ytgdcahdnojaebaa
open Go.RowKit Ieee Fl

/-- Without the sign of a nought. -/
def unsg (x : Nat) : Nat := if sv x = 0 then 0 else x
theorem unsigned_any {x : Nat} (hx : IsN x) (w : World) : Calls Try.prog 35 #[.float .f64 x] w fun e w' => e = .returned (.float .f64 (unsg x)) ∧ w = w' := by
  have q2 := eq_spell hx isN_0
  rw [sv_0] at q2
  unfold unsg
  by_cases h : sv x = 0
  · rw [if_pos h]; rw [decide_eq_true h] at q2
    clear h
    go_enter Try.func35, Try.ntmps35
    go_wp2
    go_ret
    exact ⟨rfl, rfl⟩
  · rw [if_neg h]; rw [decide_eq_false h] at q2
    clear h
    go_enter Try.func35, Try.ntmps35
    go_wp2
    go_ret
    exact ⟨rfl, rfl⟩
theorem nextU_num {x : Nat} (hx : IsN x) (h64 : x < 18446744073709551616) : IsN (nextU x) ∧ nextU x < 18446744073709551616 := by
  unfold nextU
  have bd := sv_bd hx
  rw [sv_PINF]
  split
  · exact ⟨hx, h64⟩
  · split
    · exact ⟨by unfold IsN; decide, by omega⟩
    · split
      · rename_i h1 h2 h3
        have hn := word_pos h64 (ngb_pos h3)
        have hlt : rg x < INF := by
          rcases fin_or hx with h | h
          · exact h
          · exfalso; apply h1; unfold sv sg; rw [h, ngb_pos h3]; rfl
        refine ⟨?_, by omega⟩
        unfold IsN rg INF at *; omega
      · rename_i h1 h2 h3
        have hn := word_neg h64 (ngb_neg (x := x) (by omega))
        have : rg x ≠ 0 := by intro e; apply h2; unfold sv sg; rw [e, V_zero]; split <;> rfl
        refine ⟨?_, by omega⟩
        unfold IsN rg INF at *; omega
theorem nextD_num {x : Nat} (hx : IsN x) (h64 : x < 18446744073709551616) : IsN (nextD x) ∧ nextD x < 18446744073709551616 := by
  unfold nextD
  have bd := sv_bd hx
  rw [sv_NINF]
  split
  · exact ⟨hx, h64⟩
  · split
    · exact ⟨by unfold IsN; decide, by omega⟩
    · split
      · rename_i h1 h2 h3
        have hn := word_pos h64 (ngb_pos h3)
        have : rg x ≠ 0 := by intro e; apply h2; unfold sv sg; rw [e, V_zero]; split <;> rfl
        refine ⟨?_, by omega⟩
        unfold IsN rg INF at *; omega
      · rename_i h1 h2 h3
        have hn := word_neg h64 (ngb_neg (x := x) (by omega))
        have hlt : rg x < INF := by
          rcases fin_or hx with h | h
          · exact h
          · exfalso; apply h1; unfold sv sg; rw [h, ngb_neg (x := x) (by omega)]; rfl
        refine ⟨?_, by unfold INF at hlt; omega⟩
        unfold IsN rg INF at *; omega
theorem sides_up {x r : Nat} (hx : IsN x) (h64 : x < 18446744073709551616) (e1 : (FloatKind.f64.format.order r 0 == some .gt) = true) (w : World) : Calls Try.prog 22 #[.float .f64 x, .float .f64 r] w fun e w' => e = .returned (.tuple #[.float .f64 (unsg x), .float .f64 (unsg (nextU x))]) ∧ w = w' := by
  have hn := (nextU_num hx h64).1
  go_enter Try.func22, Try.ntmps22
  go_wp2_with (first | (go_at_call 35; (first | with_reducible refine (unsigned_any hx _).mono ?_ | with_reducible refine (unsigned_any hn _).mono ?_); rintro e w' ⟨rfl, rfl⟩) | (go_at_call 40; refine (next_up hx h64 _).mono ?_; rintro e w' ⟨rfl, rfl⟩))
  go_ret2
  exact ⟨rfl, rfl⟩
theorem sides_dn {x r : Nat} (hx : IsN x) (h64 : x < 18446744073709551616) (e1 : (FloatKind.f64.format.order r 0 == some .gt) = false) (e2 : (FloatKind.f64.format.order r 0 == some .lt) = true) (w : World) : Calls Try.prog 22 #[.float .f64 x, .float .f64 r] w fun e w' => e = .returned (.tuple #[.float .f64 (unsg (nextD x)), .float .f64 (unsg x)]) ∧ w = w' := by
  have hn := (nextD_num hx h64).1
  go_enter Try.func22, Try.ntmps22
  go_wp2_with (first | (go_at_call 35; (first | with_reducible refine (unsigned_any hx _).mono ?_ | with_reducible refine (unsigned_any hn _).mono ?_); rintro e w' ⟨rfl, rfl⟩) | (go_at_call 40; refine (next_dn hx h64 _).mono ?_; rintro e w' ⟨rfl, rfl⟩))
  go_ret2
  exact ⟨rfl, rfl⟩
theorem sides_no {x r : Nat} (hx : IsN x) (h64 : x < 18446744073709551616) (e1 : (FloatKind.f64.format.order r 0 == some .gt) = false) (e2 : (FloatKind.f64.format.order r 0 == some .lt) = false) (w : World) : Calls Try.prog 22 #[.float .f64 x, .float .f64 r] w fun e w' => e = .returned (.tuple #[.float .f64 (unsg x), .float .f64 (unsg x)]) ∧ w = w' := by
  go_enter Try.func22, Try.ntmps22
  go_wp2_with (first | (go_at_call 35; (first | with_reducible refine (unsigned_any hx _).mono ?_); rintro e w' ⟨rfl, rfl⟩))
  go_ret2
  exact ⟨rfl, rfl⟩
/-- What two sides may be. -/
def Sided (x d u : Nat) : Prop := (d = unsg x ∧ u = unsg x) ∨ (d = unsg x ∧ u = unsg (nextU x)) ∨ (d = unsg (nextD x) ∧ u = unsg x)
def SidesPost (x : Nat) (w : World) (e : Ending) (w' : World) : Prop := ∃ d u, e = .returned (.tuple #[.float .f64 d, .float .f64 u]) ∧ Sided x d u ∧ w = w'
theorem sides_any {x : Nat} (r : Nat) (hx : IsN x) (h64 : x < 18446744073709551616) (w : World) : Calls Try.prog 22 #[.float .f64 x, .float .f64 r] w (SidesPost x w) := by
  cases e1 : (FloatKind.f64.format.order r 0 == some .gt)
  · cases e2 : (FloatKind.f64.format.order r 0 == some .lt)
    · exact (sides_no hx h64 e1 e2 w).mono fun _ _ ⟨h1, h2⟩ => ⟨_, _, h1, .inl ⟨rfl, rfl⟩, h2⟩
    · exact (sides_dn hx h64 e1 e2 w).mono fun _ _ ⟨h1, h2⟩ => ⟨_, _, h1, .inr (.inr ⟨rfl, rfl⟩), h2⟩
  · exact (sides_up hx h64 e1 w).mono fun _ _ ⟨h1, h2⟩ => ⟨_, _, h1, .inr (.inl ⟨rfl, rfl⟩), h2⟩
end Go.Proofs.Ytgdcahdnojaebaa
