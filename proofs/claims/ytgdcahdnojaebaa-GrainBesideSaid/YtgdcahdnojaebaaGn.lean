/- package math: Inf, Copysign, Nextafter; package grain: Next. -/
import Derived.Test.YtgdcahdnojaebaaGi
namespace Go.Proofs.Ytgdcahdnojaebaa
open Go.RowKit Ieee Fl

def PINF : Nat := 9218868437227405312
def NINF : Nat := 18442240474082181120
theorem inf_pos (w : World) : Calls Try.prog 47 #[.int .i64 1] w fun e w' => e = .returned (.float .f64 9218868437227405312) ∧ w = w' := by
  go_enter Try.func47, Try.ntmps47
  go_wp2
  go_ret
  exact ⟨rfl, rfl⟩
theorem inf_neg (w : World) : Calls Try.prog 47 #[.int .i64 (-1)] w fun e w' => e = .returned (.float .f64 18442240474082181120) ∧ w = w' := by
  go_enter Try.func47, Try.ntmps47
  go_wp2
  go_ret
  exact ⟨rfl, rfl⟩
theorem copysign_pos (w : World) : Calls Try.prog 70 #[.float .f64 1, .float .f64 9218868437227405312] w fun e w' => e = .returned (.float .f64 1) ∧ w = w' := by
  go_enter Try.func70, Try.ntmps70
  go_wp2
  go_ret
  exact ⟨by kernel_rfl, rfl⟩
theorem copysign_neg (w : World) : Calls Try.prog 70 #[.float .f64 1, .float .f64 18442240474082181120] w fun e w' => e = .returned (.float .f64 9223372036854775809) ∧ w = w' := by
  go_enter Try.func70, Try.ntmps70
  go_wp2
  go_ret
  exact ⟨by kernel_rfl, rfl⟩
theorem nx_same {x y : Nat} (hx : IsN x) (hy : IsN y) (e1 : (FloatKind.f64.format.order x y == some .eq) = true) (w : World) : Calls Try.prog 46 #[.float .f64 x, .float .f64 y] w fun e w' => e = .returned (.float .f64 x) ∧ w = w' := by
  go_enter Try.func46, Try.ntmps46
  go_wp2_with (first | (go_at_call 18; (first | with_reducible refine (isNaN_no hx _).mono ?_ | with_reducible refine (isNaN_no hy _).mono ?_); rintro e w' ⟨rfl, rfl⟩))
  go_ret
  exact ⟨rfl, rfl⟩
theorem nx_zero_pos {x : Nat} (hx : IsN x) (e1 : (FloatKind.f64.format.order x 9218868437227405312 == some .eq) = false) (e2 : (FloatKind.f64.format.order x 0 == some .eq) = true) (w : World) : Calls Try.prog 46 #[.float .f64 x, .float .f64 9218868437227405312] w fun e w' => e = .returned (.float .f64 1) ∧ w = w' := by
  have hy : IsN 9218868437227405312 := by unfold IsN; decide
  go_enter Try.func46, Try.ntmps46
  go_wp2_with (first | (go_at_call 18; (first | with_reducible refine (isNaN_no hx _).mono ?_ | with_reducible refine (isNaN_no hy _).mono ?_); rintro e w' ⟨rfl, rfl⟩) | (go_at_call 70; refine (copysign_pos _).mono ?_; rintro e w' ⟨rfl, rfl⟩))
  go_ret
  exact ⟨rfl, rfl⟩
theorem nx_zero_neg {x : Nat} (hx : IsN x) (e1 : (FloatKind.f64.format.order x 18442240474082181120 == some .eq) = false) (e2 : (FloatKind.f64.format.order x 0 == some .eq) = true) (w : World) : Calls Try.prog 46 #[.float .f64 x, .float .f64 18442240474082181120] w fun e w' => e = .returned (.float .f64 9223372036854775809) ∧ w = w' := by
  have hy : IsN 18442240474082181120 := by unfold IsN; decide
  go_enter Try.func46, Try.ntmps46
  go_wp2_with (first | (go_at_call 18; (first | with_reducible refine (isNaN_no hx _).mono ?_ | with_reducible refine (isNaN_no hy _).mono ?_); rintro e w' ⟨rfl, rfl⟩) | (go_at_call 70; refine (copysign_neg _).mono ?_; rintro e w' ⟨rfl, rfl⟩))
  go_ret
  exact ⟨rfl, rfl⟩
theorem nx_up_true {x y : Nat} (hx : IsN x) (hy : IsN y) (e1 : (FloatKind.f64.format.order x y == some .eq) = false) (e2 : (FloatKind.f64.format.order x 0 == some .eq) = false) (e3 : (FloatKind.f64.format.order y x == some .gt) = true) (e4 : (FloatKind.f64.format.order x 0 == some .gt) = true) (hl : x + 1 < 18446744073709551616) (w : World) : Calls Try.prog 46 #[.float .f64 x, .float .f64 y] w fun e w' => e = .returned (.float .f64 (x + 1)) ∧ w = w' := by
  have ht : ((x : Int) + 1).toNat = x + 1 := by omega
  go_enter Try.func46, Try.ntmps46
  go_wp2_with (first | (go_at_call 18; (first | with_reducible refine (isNaN_no hx _).mono ?_ | with_reducible refine (isNaN_no hy _).mono ?_); rintro e w' ⟨rfl, rfl⟩))
  go_ret
  exact ⟨rfl, rfl⟩
theorem nx_dn_true {x y : Nat} (hx : IsN x) (hy : IsN y) (e1 : (FloatKind.f64.format.order x y == some .eq) = false) (e2 : (FloatKind.f64.format.order x 0 == some .eq) = false) (e3 : (FloatKind.f64.format.order y x == some .gt) = true) (e4 : (FloatKind.f64.format.order x 0 == some .gt) = false) (h0 : 1 ≤ x) (hl : x < 18446744073709551616) (w : World) : Calls Try.prog 46 #[.float .f64 x, .float .f64 y] w fun e w' => e = .returned (.float .f64 (x - 1)) ∧ w = w' := by
  have ht : ((x : Int) - 1).toNat = x - 1 := by omega
  go_enter Try.func46, Try.ntmps46
  go_wp2_with (first | (go_at_call 18; (first | with_reducible refine (isNaN_no hx _).mono ?_ | with_reducible refine (isNaN_no hy _).mono ?_); rintro e w' ⟨rfl, rfl⟩))
  go_ret
  exact ⟨rfl, rfl⟩
theorem nx_up_false {x y : Nat} (hx : IsN x) (hy : IsN y) (e1 : (FloatKind.f64.format.order x y == some .eq) = false) (e2 : (FloatKind.f64.format.order x 0 == some .eq) = false) (e3 : (FloatKind.f64.format.order y x == some .gt) = false) (e4 : (FloatKind.f64.format.order x 0 == some .gt) = false) (hl : x + 1 < 18446744073709551616) (w : World) : Calls Try.prog 46 #[.float .f64 x, .float .f64 y] w fun e w' => e = .returned (.float .f64 (x + 1)) ∧ w = w' := by
  have ht : ((x : Int) + 1).toNat = x + 1 := by omega
  go_enter Try.func46, Try.ntmps46
  go_wp2_with (first | (go_at_call 18; (first | with_reducible refine (isNaN_no hx _).mono ?_ | with_reducible refine (isNaN_no hy _).mono ?_); rintro e w' ⟨rfl, rfl⟩))
  go_ret
  exact ⟨rfl, rfl⟩
theorem nx_dn_false {x y : Nat} (hx : IsN x) (hy : IsN y) (e1 : (FloatKind.f64.format.order x y == some .eq) = false) (e2 : (FloatKind.f64.format.order x 0 == some .eq) = false) (e3 : (FloatKind.f64.format.order y x == some .gt) = false) (e4 : (FloatKind.f64.format.order x 0 == some .gt) = true) (h0 : 1 ≤ x) (hl : x < 18446744073709551616) (w : World) : Calls Try.prog 46 #[.float .f64 x, .float .f64 y] w fun e w' => e = .returned (.float .f64 (x - 1)) ∧ w = w' := by
  have ht : ((x : Int) - 1).toNat = x - 1 := by omega
  go_enter Try.func46, Try.ntmps46
  go_wp2_with (first | (go_at_call 18; (first | with_reducible refine (isNaN_no hx _).mono ?_ | with_reducible refine (isNaN_no hy _).mono ?_); rintro e w' ⟨rfl, rfl⟩))
  go_ret
  exact ⟨rfl, rfl⟩
theorem sv_PINF : sv PINF = V INF := by
  unfold sv sg; rw [show ngb PINF = false by decide, show rg PINF = INF by decide]; rfl
theorem sv_NINF : sv NINF = -(V INF : Int) := by
  unfold sv sg; rw [show ngb NINF = true by decide, show rg NINF = INF by decide]; rfl
theorem isN_PINF : IsN PINF := by unfold IsN; decide
theorem isN_NINF : IsN NINF := by unfold IsN; decide
theorem isN_0 : IsN 0 := by unfold IsN; decide
theorem sv_0 : sv 0 = 0 := by decide
/-- The next word upwards; downwards. -/
def nextU (x : Nat) : Nat := if sv x = sv PINF then x else if sv x = 0 then 1 else if 0 < sv x then x + 1 else x - 1
def nextD (x : Nat) : Nat := if sv x = sv NINF then x else if sv x = 0 then 9223372036854775809 else if 0 < sv x then x - 1 else x + 1
theorem ngb_pos {x : Nat} (h : 0 < sv x) : ngb x = false := by unfold sv sg at h; cases hn : ngb x <;> simp [hn] at h ⊢; omega
theorem ngb_neg {x : Nat} (h : sv x < 0) : ngb x = true := by unfold sv sg at h; cases hn : ngb x <;> simp [hn] at h ⊢; omega
theorem word_pos {x : Nat} (hx : x < 18446744073709551616) (h : ngb x = false) : x = rg x ∧ x < 9223372036854775808 := by
  unfold ngb at h; unfold rg; simp at h; omega
theorem word_neg {x : Nat} (hx : x < 18446744073709551616) (h : ngb x = true) : x = 9223372036854775808 + rg x := by
  unfold ngb at h; unfold rg; simp at h; omega
theorem nextafter_up {x : Nat} (hx : IsN x) (h64 : x < 18446744073709551616) (w : World) : Calls Try.prog 46 #[.float .f64 x, .float .f64 9218868437227405312] w fun e w' => e = .returned (.float .f64 (nextU x)) ∧ w = w' := by
  have bd := sv_bd hx
  have q1 := eq_spell hx isN_PINF
  have q2 := eq_spell hx isN_0
  have q3 := gt_spell isN_PINF hx
  have q4 := gt_spell hx isN_0
  unfold nextU
  rw [sv_0] at q2 q4
  rw [sv_PINF] at q1 q3 ⊢
  unfold PINF at q1 q3
  by_cases h1 : sv x = (V INF : Int)
  · rw [if_pos h1]; rw [decide_eq_true h1] at q1
    exact nx_same hx (by unfold IsN; decide) q1 w
  rw [if_neg h1]; rw [decide_eq_false h1] at q1
  by_cases h2 : sv x = 0
  · rw [if_pos h2]; rw [decide_eq_true h2] at q2
    exact nx_zero_pos hx q1 q2 w
  rw [if_neg h2]; rw [decide_eq_false h2] at q2
  rw [decide_eq_true (show sv x < (V INF : Int) by omega)] at q3
  by_cases h3 : 0 < sv x
  · rw [if_pos h3]; rw [decide_eq_true h3] at q4
    have := (word_pos h64 (ngb_pos h3)).2
    exact nx_up_true hx (by unfold IsN; decide) q1 q2 q3 q4 (by omega) w
  · rw [if_neg h3]; rw [decide_eq_false h3] at q4
    have := word_neg h64 (ngb_neg (x := x) (by omega))
    exact nx_dn_true hx (by unfold IsN; decide) q1 q2 q3 q4 (by omega) h64 w
theorem nextafter_dn {x : Nat} (hx : IsN x) (h64 : x < 18446744073709551616) (w : World) : Calls Try.prog 46 #[.float .f64 x, .float .f64 18442240474082181120] w fun e w' => e = .returned (.float .f64 (nextD x)) ∧ w = w' := by
  have bd := sv_bd hx
  have q1 := eq_spell hx isN_NINF
  have q2 := eq_spell hx isN_0
  have q3 := gt_spell isN_NINF hx
  have q4 := gt_spell hx isN_0
  unfold nextD
  rw [sv_0] at q2 q4
  rw [sv_NINF] at q1 q3 ⊢
  unfold NINF at q1 q3
  by_cases h1 : sv x = -(V INF : Int)
  · rw [if_pos h1]; rw [decide_eq_true h1] at q1
    exact nx_same hx (by unfold IsN; decide) q1 w
  rw [if_neg h1]; rw [decide_eq_false h1] at q1
  by_cases h2 : sv x = 0
  · rw [if_pos h2]; rw [decide_eq_true h2] at q2
    exact nx_zero_neg hx q1 q2 w
  rw [if_neg h2]; rw [decide_eq_false h2] at q2
  rw [decide_eq_false (show ¬ sv x < -(V INF : Int) by omega)] at q3
  by_cases h3 : 0 < sv x
  · rw [if_pos h3]; rw [decide_eq_true h3] at q4
    have hw := word_pos h64 (ngb_pos h3)
    have : x ≠ 0 := by intro e; subst e; exact h2 (by decide)
    exact nx_dn_false hx (by unfold IsN; decide) q1 q2 q3 q4 (by omega) h64 w
  · rw [if_neg h3]; rw [decide_eq_false h3] at q4
    have := word_neg h64 (ngb_neg (x := x) (by omega))
    unfold IsN INF at hx
    exact nx_up_false (by unfold IsN INF; exact hx) (by unfold IsN; decide) q1 q2 q3 q4 (by omega) w
theorem next_up {x : Nat} (hx : IsN x) (h64 : x < 18446744073709551616) (w : World) : Calls Try.prog 40 #[.float .f64 x, .bool true] w fun e w' => e = .returned (.float .f64 (nextU x)) ∧ w = w' := by
  go_enter Try.func40, Try.ntmps40
  go_wp2_with (first | (go_at_call 47; refine (inf_pos _).mono ?_; rintro e w' ⟨rfl, rfl⟩) | (go_at_call 46; refine (nextafter_up hx h64 _).mono ?_; rintro e w' ⟨rfl, rfl⟩))
  go_ret
  exact ⟨rfl, rfl⟩
theorem next_dn {x : Nat} (hx : IsN x) (h64 : x < 18446744073709551616) (w : World) : Calls Try.prog 40 #[.float .f64 x, .bool false] w fun e w' => e = .returned (.float .f64 (nextD x)) ∧ w = w' := by
  go_enter Try.func40, Try.ntmps40
  go_wp2_with (first | (go_at_call 47; refine (inf_neg _).mono ?_; rintro e w' ⟨rfl, rfl⟩) | (go_at_call 46; refine (nextafter_dn hx h64 _).mono ?_; rintro e w' ⟨rfl, rfl⟩))
  go_ret
  exact ⟨rfl, rfl⟩
end Go.Proofs.Ytgdcahdnojaebaa
