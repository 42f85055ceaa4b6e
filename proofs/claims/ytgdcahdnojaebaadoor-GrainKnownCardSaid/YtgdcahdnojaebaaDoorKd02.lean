/- Contracts, in this order: package math: Abs, IsInf. · package math: Inf, Copysign, Nextafter; package grain: Next. · package grain: unsigned, sides. · package grain: a third lies between two floats. · package grain at the chapter's literals: Add, Mul, Next, IsInf, Copysign, NaN, samples. -/
import Derived.Test.YtgdcahdnojaebaaDoorKd01
import Derived.Laws.BitsAllLaws
/- package math: Abs, IsInf. -/
namespace Go.Proofs.YtgdcahdnojaebaaDoor
open Go.RowKit Ieee Fl

theorem abs_bits (x : Nat) (hx : x < 18446744073709551616) : bits .andNot .u64 (x : Int) 9223372036854775808 = (rg x : Int) := by
  have h := u64_andNot_nat x 9223372036854775808 hx (by omega)
  rw [show ((9223372036854775808 : Nat) : Int) = 9223372036854775808 from rfl] at h
  rw [h, show 18446744073709551615 - 9223372036854775808 = 2 ^ 63 - 1 by decide, Nat.and_two_pow_sub_one_eq_mod]
  rfl
theorem abs_any (x : Nat) (hx : x < 18446744073709551616) (w : World) : Calls Tryd.prog 53 #[.float .f64 x] w fun e w' => e = .returned (.float .f64 (rg x)) ∧ w = w' := by
  have hb := abs_bits x hx
  have ht : ((rg x : Nat) : Int).toNat = rg x := Int.toNat_natCast _
  go_enter Tryd.func53, Tryd.ntmps53
  go_wp2
  go_ret
  exact ⟨rfl, rfl⟩
theorem rg_lt (x : Nat) : rg x < 9223372036854775808 := by unfold rg; omega
theorem rg_rg (x : Nat) : rg (rg x) = rg x := by unfold rg; omega
theorem ngb_rg (x : Nat) : ngb (rg x) = false := by have := rg_lt x; unfold ngb; simp; omega
theorem sv_rg (x : Nat) : sv (rg x) = V (rg x) := by unfold sv sg; rw [ngb_rg, rg_rg]; rfl
def MAXF : Nat := 9218868437227405311
theorem sv_MAXF : sv MAXF = V (INF - 1) := by
  unfold sv sg; rw [show ngb MAXF = false by decide, show rg MAXF = INF - 1 by decide]; rfl
theorem isInf_fin {x : Nat} (hx : x < 18446744073709551616) (h : FinW x) (w : World) : Calls Tryd.prog 21 #[.float .f64 x, .int .i64 0] w fun e w' => e = .returned (.bool false) ∧ w = w' := by
  have g := gt_spell (x := rg x) (y := MAXF) (by unfold IsN; rw [rg_rg]; exact Nat.le_of_lt h) (by unfold IsN; decide)
  have hd : ¬ sv MAXF < sv (rg x) := by
    rw [sv_MAXF, sv_rg]
    have := V_le (r := rg x) (s := INF - 1) (by unfold FinW at h; omega)
    omega
  rw [decide_eq_false hd] at g
  unfold MAXF at g
  clear hd
  go_enter Tryd.func21, Tryd.ntmps21
  go_wp2_with (go_at_call 53; refine (abs_any x hx _).mono ?_; rintro e w' ⟨rfl, rfl⟩)
  go_ret
  exact ⟨rfl, rfl⟩
theorem isInf_inf {x : Nat} (hx : x < 18446744073709551616) (h : rg x = INF) (w : World) : Calls Tryd.prog 21 #[.float .f64 x, .int .i64 0] w fun e w' => e = .returned (.bool true) ∧ w = w' := by
  have g := gt_spell (x := rg x) (y := MAXF) (by unfold IsN; rw [rg_rg, h]; exact Nat.le_refl _) (by unfold IsN; decide)
  have hd : sv MAXF < sv (rg x) := by
    rw [sv_MAXF, sv_rg, h]
    have := V_lt (r := INF - 1) (s := INF) (by unfold INF; omega)
    omega
  rw [decide_eq_true hd] at g
  unfold MAXF at g
  clear hd
  go_enter Tryd.func21, Tryd.ntmps21
  go_wp2_with (go_at_call 53; refine (abs_any x hx _).mono ?_; rintro e w' ⟨rfl, rfl⟩)
  go_ret
  exact ⟨rfl, rfl⟩
theorem isInf_nan {x : Nat} (hx : x < 18446744073709551616) (h : ¬ IsN x) (w : World) : Calls Tryd.prog 21 #[.float .f64 x, .int .i64 0] w fun e w' => e = .returned (.bool false) ∧ w = w' := by
  have g : (FloatKind.f64.format.order (rg x) 9218868437227405311 == some .gt) = false := by
    show (double.order (rg x) _ == some .gt) = false
    rw [order_nan (x := rg x) (by unfold IsN at *; rw [rg_rg]; exact h)]; rfl
  go_enter Tryd.func21, Tryd.ntmps21
  go_wp2_with (go_at_call 53; refine (abs_any x hx _).mono ?_; rintro e w' ⟨rfl, rfl⟩)
  go_ret
  exact ⟨rfl, rfl⟩
end Go.Proofs.YtgdcahdnojaebaaDoor
/- package math: Inf, Copysign, Nextafter; package grain: Next. -/
namespace Go.Proofs.YtgdcahdnojaebaaDoor
open Go.RowKit Ieee Fl

def PINF : Nat := 9218868437227405312
def NINF : Nat := 18442240474082181120
theorem inf_pos (w : World) : Calls Tryd.prog 26 #[.int .i64 1] w fun e w' => e = .returned (.float .f64 9218868437227405312) ∧ w = w' := by
  go_enter Tryd.func26, Tryd.ntmps26
  go_wp2
  go_ret
  exact ⟨rfl, rfl⟩
theorem inf_neg (w : World) : Calls Tryd.prog 26 #[.int .i64 (-1)] w fun e w' => e = .returned (.float .f64 18442240474082181120) ∧ w = w' := by
  go_enter Tryd.func26, Tryd.ntmps26
  go_wp2
  go_ret
  exact ⟨rfl, rfl⟩
theorem copysign_pos (w : World) : Calls Tryd.prog 25 #[.float .f64 1, .float .f64 9218868437227405312] w fun e w' => e = .returned (.float .f64 1) ∧ w = w' := by
  go_enter Tryd.func25, Tryd.ntmps25
  go_wp2
  go_ret
  exact ⟨by kernel_rfl, rfl⟩
theorem copysign_neg (w : World) : Calls Tryd.prog 25 #[.float .f64 1, .float .f64 18442240474082181120] w fun e w' => e = .returned (.float .f64 9223372036854775809) ∧ w = w' := by
  go_enter Tryd.func25, Tryd.ntmps25
  go_wp2
  go_ret
  exact ⟨by kernel_rfl, rfl⟩
theorem nx_same {x y : Nat} (hx : IsN x) (hy : IsN y) (e1 : (FloatKind.f64.format.order x y == some .eq) = true) (w : World) : Calls Tryd.prog 58 #[.float .f64 x, .float .f64 y] w fun e w' => e = .returned (.float .f64 x) ∧ w = w' := by
  go_enter Tryd.func58, Tryd.ntmps58
  go_wp2_with (first | (go_at_call 47; (first | with_reducible refine (isNaN_no hx _).mono ?_ | with_reducible refine (isNaN_no hy _).mono ?_); rintro e w' ⟨rfl, rfl⟩))
  go_ret
  exact ⟨rfl, rfl⟩
theorem nx_zero_pos {x : Nat} (hx : IsN x) (e1 : (FloatKind.f64.format.order x 9218868437227405312 == some .eq) = false) (e2 : (FloatKind.f64.format.order x 0 == some .eq) = true) (w : World) : Calls Tryd.prog 58 #[.float .f64 x, .float .f64 9218868437227405312] w fun e w' => e = .returned (.float .f64 1) ∧ w = w' := by
  have hy : IsN 9218868437227405312 := by unfold IsN; decide
  go_enter Tryd.func58, Tryd.ntmps58
  go_wp2_with (first | (go_at_call 47; (first | with_reducible refine (isNaN_no hx _).mono ?_ | with_reducible refine (isNaN_no hy _).mono ?_); rintro e w' ⟨rfl, rfl⟩) | (go_at_call 25; refine (copysign_pos _).mono ?_; rintro e w' ⟨rfl, rfl⟩))
  go_ret
  exact ⟨rfl, rfl⟩
theorem nx_zero_neg {x : Nat} (hx : IsN x) (e1 : (FloatKind.f64.format.order x 18442240474082181120 == some .eq) = false) (e2 : (FloatKind.f64.format.order x 0 == some .eq) = true) (w : World) : Calls Tryd.prog 58 #[.float .f64 x, .float .f64 18442240474082181120] w fun e w' => e = .returned (.float .f64 9223372036854775809) ∧ w = w' := by
  have hy : IsN 18442240474082181120 := by unfold IsN; decide
  go_enter Tryd.func58, Tryd.ntmps58
  go_wp2_with (first | (go_at_call 47; (first | with_reducible refine (isNaN_no hx _).mono ?_ | with_reducible refine (isNaN_no hy _).mono ?_); rintro e w' ⟨rfl, rfl⟩) | (go_at_call 25; refine (copysign_neg _).mono ?_; rintro e w' ⟨rfl, rfl⟩))
  go_ret
  exact ⟨rfl, rfl⟩
theorem nx_up_true {x y : Nat} (hx : IsN x) (hy : IsN y) (e1 : (FloatKind.f64.format.order x y == some .eq) = false) (e2 : (FloatKind.f64.format.order x 0 == some .eq) = false) (e3 : (FloatKind.f64.format.order y x == some .gt) = true) (e4 : (FloatKind.f64.format.order x 0 == some .gt) = true) (hl : x + 1 < 18446744073709551616) (w : World) : Calls Tryd.prog 58 #[.float .f64 x, .float .f64 y] w fun e w' => e = .returned (.float .f64 (x + 1)) ∧ w = w' := by
  have ht : ((x : Int) + 1).toNat = x + 1 := by omega
  go_enter Tryd.func58, Tryd.ntmps58
  go_wp2_with (first | (go_at_call 47; (first | with_reducible refine (isNaN_no hx _).mono ?_ | with_reducible refine (isNaN_no hy _).mono ?_); rintro e w' ⟨rfl, rfl⟩))
  go_ret
  exact ⟨rfl, rfl⟩
theorem nx_dn_true {x y : Nat} (hx : IsN x) (hy : IsN y) (e1 : (FloatKind.f64.format.order x y == some .eq) = false) (e2 : (FloatKind.f64.format.order x 0 == some .eq) = false) (e3 : (FloatKind.f64.format.order y x == some .gt) = true) (e4 : (FloatKind.f64.format.order x 0 == some .gt) = false) (h0 : 1 ≤ x) (hl : x < 18446744073709551616) (w : World) : Calls Tryd.prog 58 #[.float .f64 x, .float .f64 y] w fun e w' => e = .returned (.float .f64 (x - 1)) ∧ w = w' := by
  have ht : ((x : Int) - 1).toNat = x - 1 := by omega
  go_enter Tryd.func58, Tryd.ntmps58
  go_wp2_with (first | (go_at_call 47; (first | with_reducible refine (isNaN_no hx _).mono ?_ | with_reducible refine (isNaN_no hy _).mono ?_); rintro e w' ⟨rfl, rfl⟩))
  go_ret
  exact ⟨rfl, rfl⟩
theorem nx_up_false {x y : Nat} (hx : IsN x) (hy : IsN y) (e1 : (FloatKind.f64.format.order x y == some .eq) = false) (e2 : (FloatKind.f64.format.order x 0 == some .eq) = false) (e3 : (FloatKind.f64.format.order y x == some .gt) = false) (e4 : (FloatKind.f64.format.order x 0 == some .gt) = false) (hl : x + 1 < 18446744073709551616) (w : World) : Calls Tryd.prog 58 #[.float .f64 x, .float .f64 y] w fun e w' => e = .returned (.float .f64 (x + 1)) ∧ w = w' := by
  have ht : ((x : Int) + 1).toNat = x + 1 := by omega
  go_enter Tryd.func58, Tryd.ntmps58
  go_wp2_with (first | (go_at_call 47; (first | with_reducible refine (isNaN_no hx _).mono ?_ | with_reducible refine (isNaN_no hy _).mono ?_); rintro e w' ⟨rfl, rfl⟩))
  go_ret
  exact ⟨rfl, rfl⟩
theorem nx_dn_false {x y : Nat} (hx : IsN x) (hy : IsN y) (e1 : (FloatKind.f64.format.order x y == some .eq) = false) (e2 : (FloatKind.f64.format.order x 0 == some .eq) = false) (e3 : (FloatKind.f64.format.order y x == some .gt) = false) (e4 : (FloatKind.f64.format.order x 0 == some .gt) = true) (h0 : 1 ≤ x) (hl : x < 18446744073709551616) (w : World) : Calls Tryd.prog 58 #[.float .f64 x, .float .f64 y] w fun e w' => e = .returned (.float .f64 (x - 1)) ∧ w = w' := by
  have ht : ((x : Int) - 1).toNat = x - 1 := by omega
  go_enter Tryd.func58, Tryd.ntmps58
  go_wp2_with (first | (go_at_call 47; (first | with_reducible refine (isNaN_no hx _).mono ?_ | with_reducible refine (isNaN_no hy _).mono ?_); rintro e w' ⟨rfl, rfl⟩))
  go_ret
  exact ⟨rfl, rfl⟩
theorem sv_PINF : sv PINF = V INF := by
  unfold sv sg; rw [show ngb PINF = false by decide, show rg PINF = INF by decide]; rfl
theorem sv_NINF : sv NINF = -(V INF : Int) := by
  unfold sv sg; rw [show ngb NINF = true by decide, show rg NINF = INF by decide]; rfl
theorem isN_PINF : IsN PINF := by unfold IsN; decide
theorem isN_NINF : IsN NINF := by unfold IsN; decide
theorem isN_0 : IsN 0 := by unfold IsN; decide
theorem sv_0 : sv 0 = 0 := by decide
/-- The next word upwards; downwards. -/
def nextU (x : Nat) : Nat := if sv x = sv PINF then x else if sv x = 0 then 1 else if 0 < sv x then x + 1 else x - 1
def nextD (x : Nat) : Nat := if sv x = sv NINF then x else if sv x = 0 then 9223372036854775809 else if 0 < sv x then x - 1 else x + 1
theorem ngb_pos {x : Nat} (h : 0 < sv x) : ngb x = false := by unfold sv sg at h; cases hn : ngb x <;> simp [hn] at h ⊢; omega
theorem ngb_neg {x : Nat} (h : sv x < 0) : ngb x = true := by unfold sv sg at h; cases hn : ngb x <;> simp [hn] at h ⊢; omega
theorem word_pos {x : Nat} (hx : x < 18446744073709551616) (h : ngb x = false) : x = rg x ∧ x < 9223372036854775808 := by
  unfold ngb at h; unfold rg; simp at h; omega
theorem word_neg {x : Nat} (hx : x < 18446744073709551616) (h : ngb x = true) : x = 9223372036854775808 + rg x := by
  unfold ngb at h; unfold rg; simp at h; omega
theorem nextafter_up {x : Nat} (hx : IsN x) (h64 : x < 18446744073709551616) (w : World) : Calls Tryd.prog 58 #[.float .f64 x, .float .f64 9218868437227405312] w fun e w' => e = .returned (.float .f64 (nextU x)) ∧ w = w' := by
  have bd := sv_bd hx
  have q1 := eq_spell hx isN_PINF
  have q2 := eq_spell hx isN_0
  have q3 := gt_spell isN_PINF hx
  have q4 := gt_spell hx isN_0
  unfold nextU
  rw [sv_0] at q2 q4
  rw [sv_PINF] at q1 q3 ⊢
  unfold PINF at q1 q3
  by_cases h1 : sv x = (V INF : Int)
  · rw [if_pos h1]; rw [decide_eq_true h1] at q1
    exact nx_same hx (by unfold IsN; decide) q1 w
  rw [if_neg h1]; rw [decide_eq_false h1] at q1
  by_cases h2 : sv x = 0
  · rw [if_pos h2]; rw [decide_eq_true h2] at q2
    exact nx_zero_pos hx q1 q2 w
  rw [if_neg h2]; rw [decide_eq_false h2] at q2
  rw [decide_eq_true (show sv x < (V INF : Int) by omega)] at q3
  by_cases h3 : 0 < sv x
  · rw [if_pos h3]; rw [decide_eq_true h3] at q4
    have := (word_pos h64 (ngb_pos h3)).2
    exact nx_up_true hx (by unfold IsN; decide) q1 q2 q3 q4 (by omega) w
  · rw [if_neg h3]; rw [decide_eq_false h3] at q4
    have := word_neg h64 (ngb_neg (x := x) (by omega))
    exact nx_dn_true hx (by unfold IsN; decide) q1 q2 q3 q4 (by omega) h64 w
theorem nextafter_dn {x : Nat} (hx : IsN x) (h64 : x < 18446744073709551616) (w : World) : Calls Tryd.prog 58 #[.float .f64 x, .float .f64 18442240474082181120] w fun e w' => e = .returned (.float .f64 (nextD x)) ∧ w = w' := by
  have bd := sv_bd hx
  have q1 := eq_spell hx isN_NINF
  have q2 := eq_spell hx isN_0
  have q3 := gt_spell isN_NINF hx
  have q4 := gt_spell hx isN_0
  unfold nextD
  rw [sv_0] at q2 q4
  rw [sv_NINF] at q1 q3 ⊢
  unfold NINF at q1 q3
  by_cases h1 : sv x = -(V INF : Int)
  · rw [if_pos h1]; rw [decide_eq_true h1] at q1
    exact nx_same hx (by unfold IsN; decide) q1 w
  rw [if_neg h1]; rw [decide_eq_false h1] at q1
  by_cases h2 : sv x = 0
  · rw [if_pos h2]; rw [decide_eq_true h2] at q2
    exact nx_zero_neg hx q1 q2 w
  rw [if_neg h2]; rw [decide_eq_false h2] at q2
  rw [decide_eq_false (show ¬ sv x < -(V INF : Int) by omega)] at q3
  by_cases h3 : 0 < sv x
  · rw [if_pos h3]; rw [decide_eq_true h3] at q4
    have hw := word_pos h64 (ngb_pos h3)
    have : x ≠ 0 := by intro e; subst e; exact h2 (by decide)
    exact nx_dn_false hx (by unfold IsN; decide) q1 q2 q3 q4 (by omega) h64 w
  · rw [if_neg h3]; rw [decide_eq_false h3] at q4
    have := word_neg h64 (ngb_neg (x := x) (by omega))
    unfold IsN INF at hx
    exact nx_up_false (by unfold IsN INF; exact hx) (by unfold IsN; decide) q1 q2 q3 q4 (by omega) w
theorem next_up {x : Nat} (hx : IsN x) (h64 : x < 18446744073709551616) (w : World) : Calls Tryd.prog 24 #[.float .f64 x, .bool true] w fun e w' => e = .returned (.float .f64 (nextU x)) ∧ w = w' := by
  go_enter Tryd.func24, Tryd.ntmps24
  go_wp2_with (first | (go_at_call 26; refine (inf_pos _).mono ?_; rintro e w' ⟨rfl, rfl⟩) | (go_at_call 58; refine (nextafter_up hx h64 _).mono ?_; rintro e w' ⟨rfl, rfl⟩))
  go_ret
  exact ⟨rfl, rfl⟩
theorem next_dn {x : Nat} (hx : IsN x) (h64 : x < 18446744073709551616) (w : World) : Calls Tryd.prog 24 #[.float .f64 x, .bool false] w fun e w' => e = .returned (.float .f64 (nextD x)) ∧ w = w' := by
  go_enter Tryd.func24, Tryd.ntmps24
  go_wp2_with (first | (go_at_call 26; refine (inf_neg _).mono ?_; rintro e w' ⟨rfl, rfl⟩) | (go_at_call 58; refine (nextafter_dn hx h64 _).mono ?_; rintro e w' ⟨rfl, rfl⟩))
  go_ret
  exact ⟨rfl, rfl⟩
end Go.Proofs.YtgdcahdnojaebaaDoor
/- package grain: unsigned, sides. -/
namespace Go.Proofs.YtgdcahdnojaebaaDoor
open Go.RowKit Ieee Fl

/-- Without the sign of a nought. -/
def unsg (x : Nat) : Nat := if sv x = 0 then 0 else x
theorem unsigned_any {x : Nat} (hx : IsN x) (w : World) : Calls Tryd.prog 81 #[.float .f64 x] w fun e w' => e = .returned (.float .f64 (unsg x)) ∧ w = w' := by
  have q2 := eq_spell hx isN_0
  rw [sv_0] at q2
  unfold unsg
  by_cases h : sv x = 0
  · rw [if_pos h]; rw [decide_eq_true h] at q2
    clear h
    go_enter Tryd.func81, Tryd.ntmps81
    go_wp2
    go_ret
    exact ⟨rfl, rfl⟩
  · rw [if_neg h]; rw [decide_eq_false h] at q2
    clear h
    go_enter Tryd.func81, Tryd.ntmps81
    go_wp2
    go_ret
    exact ⟨rfl, rfl⟩
theorem nextU_num {x : Nat} (hx : IsN x) (h64 : x < 18446744073709551616) : IsN (nextU x) ∧ nextU x < 18446744073709551616 := by
  unfold nextU
  have bd := sv_bd hx
  rw [sv_PINF]
  split
  · exact ⟨hx, h64⟩
  · split
    · exact ⟨by unfold IsN; decide, by omega⟩
    · split
      · rename_i h1 h2 h3
        have hn := word_pos h64 (ngb_pos h3)
        have hlt : rg x < INF := by
          rcases fin_or hx with h | h
          · exact h
          · exfalso; apply h1; unfold sv sg; rw [h, ngb_pos h3]; rfl
        refine ⟨?_, by omega⟩
        unfold IsN rg INF at *; omega
      · rename_i h1 h2 h3
        have hn := word_neg h64 (ngb_neg (x := x) (by omega))
        have : rg x ≠ 0 := by intro e; apply h2; unfold sv sg; rw [e, V_zero]; split <;> rfl
        refine ⟨?_, by omega⟩
        unfold IsN rg INF at *; omega
theorem nextD_num {x : Nat} (hx : IsN x) (h64 : x < 18446744073709551616) : IsN (nextD x) ∧ nextD x < 18446744073709551616 := by
  unfold nextD
  have bd := sv_bd hx
  rw [sv_NINF]
  split
  · exact ⟨hx, h64⟩
  · split
    · exact ⟨by unfold IsN; decide, by omega⟩
    · split
      · rename_i h1 h2 h3
        have hn := word_pos h64 (ngb_pos h3)
        have : rg x ≠ 0 := by intro e; apply h2; unfold sv sg; rw [e, V_zero]; split <;> rfl
        refine ⟨?_, by omega⟩
        unfold IsN rg INF at *; omega
      · rename_i h1 h2 h3
        have hn := word_neg h64 (ngb_neg (x := x) (by omega))
        have hlt : rg x < INF := by
          rcases fin_or hx with h | h
          · exact h
          · exfalso; apply h1; unfold sv sg; rw [h, ngb_neg (x := x) (by omega)]; rfl
        refine ⟨?_, by unfold INF at hlt; omega⟩
        unfold IsN rg INF at *; omega
theorem sides_up {x r : Nat} (hx : IsN x) (h64 : x < 18446744073709551616) (e1 : (FloatKind.f64.format.order r 0 == some .gt) = true) (w : World) : Calls Tryd.prog 51 #[.float .f64 x, .float .f64 r] w fun e w' => e = .returned (.tuple #[.float .f64 (unsg x), .float .f64 (unsg (nextU x))]) ∧ w = w' := by
  have hn := (nextU_num hx h64).1
  go_enter Tryd.func51, Tryd.ntmps51
  go_wp2_with (first | (go_at_call 81; (first | with_reducible refine (unsigned_any hx _).mono ?_ | with_reducible refine (unsigned_any hn _).mono ?_); rintro e w' ⟨rfl, rfl⟩) | (go_at_call 24; refine (next_up hx h64 _).mono ?_; rintro e w' ⟨rfl, rfl⟩))
  go_ret2
  exact ⟨rfl, rfl⟩
theorem sides_dn {x r : Nat} (hx : IsN x) (h64 : x < 18446744073709551616) (e1 : (FloatKind.f64.format.order r 0 == some .gt) = false) (e2 : (FloatKind.f64.format.order r 0 == some .lt) = true) (w : World) : Calls Tryd.prog 51 #[.float .f64 x, .float .f64 r] w fun e w' => e = .returned (.tuple #[.float .f64 (unsg (nextD x)), .float .f64 (unsg x)]) ∧ w = w' := by
  have hn := (nextD_num hx h64).1
  go_enter Tryd.func51, Tryd.ntmps51
  go_wp2_with (first | (go_at_call 81; (first | with_reducible refine (unsigned_any hx _).mono ?_ | with_reducible refine (unsigned_any hn _).mono ?_); rintro e w' ⟨rfl, rfl⟩) | (go_at_call 24; refine (next_dn hx h64 _).mono ?_; rintro e w' ⟨rfl, rfl⟩))
  go_ret2
  exact ⟨rfl, rfl⟩
theorem sides_no {x r : Nat} (hx : IsN x) (h64 : x < 18446744073709551616) (e1 : (FloatKind.f64.format.order r 0 == some .gt) = false) (e2 : (FloatKind.f64.format.order r 0 == some .lt) = false) (w : World) : Calls Tryd.prog 51 #[.float .f64 x, .float .f64 r] w fun e w' => e = .returned (.tuple #[.float .f64 (unsg x), .float .f64 (unsg x)]) ∧ w = w' := by
  go_enter Tryd.func51, Tryd.ntmps51
  go_wp2_with (first | (go_at_call 81; (first | with_reducible refine (unsigned_any hx _).mono ?_); rintro e w' ⟨rfl, rfl⟩))
  go_ret2
  exact ⟨rfl, rfl⟩
/-- What two sides may be. -/
def Sided (x d u : Nat) : Prop := (d = unsg x ∧ u = unsg x) ∨ (d = unsg x ∧ u = unsg (nextU x)) ∨ (d = unsg (nextD x) ∧ u = unsg x)
def SidesPost (x : Nat) (w : World) (e : Ending) (w' : World) : Prop := ∃ d u, e = .returned (.tuple #[.float .f64 d, .float .f64 u]) ∧ Sided x d u ∧ w = w'
theorem sides_any {x : Nat} (r : Nat) (hx : IsN x) (h64 : x < 18446744073709551616) (w : World) : Calls Tryd.prog 51 #[.float .f64 x, .float .f64 r] w (SidesPost x w) := by
  cases e1 : (FloatKind.f64.format.order r 0 == some .gt)
  · cases e2 : (FloatKind.f64.format.order r 0 == some .lt)
    · exact (sides_no hx h64 e1 e2 w).mono fun _ _ ⟨h1, h2⟩ => ⟨_, _, h1, .inl ⟨rfl, rfl⟩, h2⟩
    · exact (sides_dn hx h64 e1 e2 w).mono fun _ _ ⟨h1, h2⟩ => ⟨_, _, h1, .inr (.inr ⟨rfl, rfl⟩), h2⟩
  · exact (sides_up hx h64 e1 w).mono fun _ _ ⟨h1, h2⟩ => ⟨_, _, h1, .inr (.inl ⟨rfl, rfl⟩), h2⟩
end Go.Proofs.YtgdcahdnojaebaaDoor
/- package grain: a third lies between two floats. -/
namespace Go.Proofs.YtgdcahdnojaebaaDoor
open Go.RowKit Ieee Fl

theorem norm_1 (w : World) : Calls Tryd.prog 122 #[.float .f64 4607182418800017408] w fun e w' => e = .returned (.tuple #[.float .f64 4607182418800017408, .int .i64 0]) ∧ w = w' := by
  have c0 : (FloatKind.f64.format.order (rg 4607182418800017408) 4503599627370496 == some .lt) = false := by decide +kernel
  go_enter Tryd.func122, Tryd.ntmps122
  go_wp2_with (go_at_call 53; refine (abs_any _ (by decide) _).mono ?_; rintro e w' ⟨rfl, rfl⟩)
  go_ret2
  exact ⟨rfl, rfl⟩
theorem norm_3 (w : World) : Calls Tryd.prog 122 #[.float .f64 4613937818241073152] w fun e w' => e = .returned (.tuple #[.float .f64 4613937818241073152, .int .i64 0]) ∧ w = w' := by
  have c0 : (FloatKind.f64.format.order (rg 4613937818241073152) 4503599627370496 == some .lt) = false := by decide +kernel
  go_enter Tryd.func122, Tryd.ntmps122
  go_wp2_with (go_at_call 53; refine (abs_any _ (by decide) _).mono ?_; rintro e w' ⟨rfl, rfl⟩)
  go_ret2
  exact ⟨rfl, rfl⟩
theorem norm_13 (w : World) : Calls Tryd.prog 122 #[.float .f64 4599676419421066581] w fun e w' => e = .returned (.tuple #[.float .f64 4599676419421066581, .int .i64 0]) ∧ w = w' := by
  have c0 : (FloatKind.f64.format.order (rg 4599676419421066581) 4503599627370496 == some .lt) = false := by decide +kernel
  go_enter Tryd.func122, Tryd.ntmps122
  go_wp2_with (go_at_call 53; refine (abs_any _ (by decide) _).mono ?_; rintro e w' ⟨rfl, rfl⟩)
  go_ret2
  exact ⟨rfl, rfl⟩
theorem frexp_1 (w : World) : Calls Tryd.prog 83 #[.float .f64 4607182418800017408] w fun e w' => e = .returned (.tuple #[.float .f64 4602678819172646912, .int .i64 1]) ∧ w = w' := by
  have c0 : (FloatKind.f64.format.order 4607182418800017408 0 == some .eq) = false := by decide +kernel
  go_enter Tryd.func83, Tryd.ntmps83
  go_wp2_with (first | (go_at_call 21; refine (isInf_fin (by decide) (by unfold FinW; decide) _).mono ?_; rintro e w' ⟨rfl, rfl⟩) | (go_at_call 47; refine (isNaN_no (by unfold IsN; decide) _).mono ?_; rintro e w' ⟨rfl, rfl⟩) | (go_at_call 122; refine (norm_1 _).mono ?_; rintro e w' ⟨rfl, rfl⟩))
  go_ret2
  exact ⟨by kernel_rfl, rfl⟩
theorem Frexp_1 (w : World) : Calls Tryd.prog 54 #[.float .f64 4607182418800017408] w fun e w' => e = .returned (.tuple #[.float .f64 4602678819172646912, .int .i64 1]) ∧ w = w' := by
  go_enter Tryd.func54, Tryd.ntmps54
  go_wp2_with (go_at_call 83; refine (frexp_1 _).mono ?_; rintro e w' ⟨rfl, rfl⟩)
  go_ret2
  exact ⟨rfl, rfl⟩
theorem frexp_3 (w : World) : Calls Tryd.prog 83 #[.float .f64 4613937818241073152] w fun e w' => e = .returned (.tuple #[.float .f64 4604930618986332160, .int .i64 2]) ∧ w = w' := by
  have c0 : (FloatKind.f64.format.order 4613937818241073152 0 == some .eq) = false := by decide +kernel
  go_enter Tryd.func83, Tryd.ntmps83
  go_wp2_with (first | (go_at_call 21; refine (isInf_fin (by decide) (by unfold FinW; decide) _).mono ?_; rintro e w' ⟨rfl, rfl⟩) | (go_at_call 47; refine (isNaN_no (by unfold IsN; decide) _).mono ?_; rintro e w' ⟨rfl, rfl⟩) | (go_at_call 122; refine (norm_3 _).mono ?_; rintro e w' ⟨rfl, rfl⟩))
  go_ret2
  exact ⟨by kernel_rfl, rfl⟩
theorem Frexp_3 (w : World) : Calls Tryd.prog 54 #[.float .f64 4613937818241073152] w fun e w' => e = .returned (.tuple #[.float .f64 4604930618986332160, .int .i64 2]) ∧ w = w' := by
  go_enter Tryd.func54, Tryd.ntmps54
  go_wp2_with (go_at_call 83; refine (frexp_3 _).mono ?_; rintro e w' ⟨rfl, rfl⟩)
  go_ret2
  exact ⟨rfl, rfl⟩
theorem ldexp_13 (w : World) : Calls Tryd.prog 85 #[.float .f64 4599676419421066581, .int .i64 1] w fun e w' => e = .returned (.float .f64 4604180019048437077) ∧ w = w' := by
  have c0 : (FloatKind.f64.format.order 4599676419421066581 0 == some .eq) = false := by decide +kernel
  have o1 : ∀ t w, (binOp .mul t (.float .f64 4607182418800017408) (.float .f64 4604180019048437077)).run Tryd.prog w = .ok (.float .f64 4604180019048437077) w := fun t w => run_float_arith w .mul t .f64 _ _ _ (by decide +kernel)
  have b1 : bits .and .i64 1021 2047 = 1021 := by kernel_rfl
  have b2 : bits .andNot .u64 4599676419421066581 9218868437227405312 = 1501199875790165 := by kernel_rfl
  have b3 : bits .or .u64 1501199875790165 4602678819172646912 = 4604180019048437077 := by kernel_rfl
  go_enter Tryd.func85, Tryd.ntmps85
  go_wp2_with (first | simp only [o1] | (go_at_call 21; refine (isInf_fin (by decide) (by unfold FinW; decide) _).mono ?_; rintro e w' ⟨rfl, rfl⟩) | (go_at_call 47; refine (isNaN_no (by unfold IsN; decide) _).mono ?_; rintro e w' ⟨rfl, rfl⟩) | (go_at_call 122; refine (norm_13 _).mono ?_; rintro e w' ⟨rfl, rfl⟩))
  go_ret
  exact ⟨rfl, rfl⟩
theorem Ldexp_13 (w : World) : Calls Tryd.prog 56 #[.float .f64 4599676419421066581, .int .i64 1] w fun e w' => e = .returned (.float .f64 4604180019048437077) ∧ w = w' := by
  go_enter Tryd.func56, Tryd.ntmps56
  go_wp2_with (go_at_call 85; refine (ldexp_13 _).mono ?_; rintro e w' ⟨rfl, rfl⟩)
  go_ret
  exact ⟨rfl, rfl⟩
theorem isFinite_yes {x : Nat} (hx : x < 18446744073709551616) (h : FinW x) (w : World) : Calls Tryd.prog 50 #[.float .f64 x] w fun e w' => e = .returned (.bool true) ∧ w = w' := by
  go_enter Tryd.func50, Tryd.ntmps50
  go_wp2_with (first | (go_at_call 21; refine (isInf_fin hx h _).mono ?_; rintro e w' ⟨rfl, rfl⟩) | (go_at_call 47; refine (isNaN_no (Nat.le_of_lt h) _).mono ?_; rintro e w' ⟨rfl, rfl⟩))
  go_ret
  exact ⟨rfl, rfl⟩
@[go_sem] theorem unary_neg_float (k : FloatKind) (b : Nat) : Op.unary .neg (.float k b) = pure (.float k (Op.negFloat k b)) := rfl
def fmaTail (x y z : Nat) : Option Nat → Sem Value
  | some r => pure (.float .f64 r)
  | none => do
    let (a, b) := if Extern.MathFMA.isNaN x then (x, y) else if Extern.MathFMA.isNaN y then (y, z) else (z, z)
    pure (.float .f64 (← choose (.nanBits .f64 a b)))
theorem call_fma {x y z r : Nat} (h : double.fma x y z = some r) (w : World) : (callFunc 55 #[.float .f64 x, .float .f64 y, .float .f64 z]).run Tryd.prog w = .ok (.value (.float .f64 r)) w := by
  rw [run_callFunc_extern (e := Extern.MathFMA.fma) Tryd.func55 (by kernel_rfl) (by kernel_rfl) (by kernel_rfl) (by kernel_rfl)]
  have e : Extern.MathFMA.fma #[.float .f64 x, .float .f64 y, .float .f64 z] = fmaTail x y z (double.fma x y z) := rfl
  rw [e, h]; rfl
theorem nextU_13 : nextU 4599676419421066581 = 4599676419421066582 := by decide +kernel
theorem unsg_a : unsg 4599676419421066581 = 4599676419421066581 := by decide +kernel
theorem unsg_b : unsg 4599676419421066582 = 4599676419421066582 := by decide +kernel
theorem sides_13 (w : World) : Calls Tryd.prog 51 #[.float .f64 4599676419421066581, .float .f64 4359484439294640128] w fun e w' => e = .returned (.tuple #[.float .f64 4599676419421066581, .float .f64 4599676419421066582]) ∧ w = w' := by
  have h := sides_up (x := 4599676419421066581) (r := 4359484439294640128) (by unfold IsN; decide) (by decide) (by decide +kernel) w
  rw [nextU_13, unsg_a, unsg_b] at h
  exact h
theorem quo_13 (w : World) : Calls Tryd.prog 49 #[.float .f64 4607182418800017408, .float .f64 4613937818241073152] w fun e w' => e = .returned (.tuple #[.float .f64 4599676419421066581, .float .f64 4599676419421066582]) ∧ w = w' := by
  have c0 : (FloatKind.f64.format.order 4613937818241073152 0 == some .eq) = false := by decide +kernel
  have c1 : (FloatKind.f64.format.order 4613937818241073152 0 == some .lt) = false := by decide +kernel
  have o1 : ∀ t w, (binOp .quo t (.float .f64 4607182418800017408) (.float .f64 4613937818241073152)).run Tryd.prog w = .ok (.float .f64 4599676419421066581) w := fun t w => run_float_arith w .quo t .f64 _ _ _ (by decide +kernel)
  have o2 : ∀ w, (callFunc 55 #[.float .f64 13827552055903212885, .float .f64 4604930618986332160, .float .f64 4602678819172646912]).run Tryd.prog w = .ok (.value (.float .f64 4359484439294640128)) w := fun w => call_fma (by decide +kernel) w
  have o3 : Op.negFloat .f64 4604180019048437077 = 13827552055903212885 := by decide +kernel
  go_enter Tryd.func49, Tryd.ntmps49
  go_wp2_with (first | simp only [o1, o2] | (go_at_call 50; refine (isFinite_yes (by decide) (by unfold FinW; decide) _).mono ?_; rintro e w' ⟨rfl, rfl⟩) | (go_at_call 54; (first | with_reducible refine (Frexp_1 _).mono ?_ | with_reducible refine (Frexp_3 _).mono ?_); rintro e w' ⟨rfl, rfl⟩) | (go_at_call 56; refine (Ldexp_13 _).mono ?_; rintro e w' ⟨rfl, rfl⟩) | (go_at_call 51; refine (sides_13 _).mono ?_; rintro e w' ⟨rfl, rfl⟩))
  trace_state
  go_ret2
  exact ⟨rfl, rfl⟩
theorem gworks_any (w : World) : Calls Tryd.prog 18 #[] w fun e w' => e = .returned (.bool true) ∧ w = w' := by
  go_enter Tryd.func18, Tryd.ntmps18
  go_wp2_with (go_at_call 49; refine (quo_13 _).mono ?_; rintro e w' ⟨rfl, rfl⟩)
  go_ret
  exact ⟨rfl, rfl⟩
end Go.Proofs.YtgdcahdnojaebaaDoor
/- package grain at the chapter's literals: Add, Mul, Next, IsInf, Copysign, NaN, samples. -/
namespace Go.Proofs.YtgdcahdnojaebaaDoor
open Go.RowKit Ieee Fl

theorem k_nan (w : World) : Calls Tryd.prog 28 #[] w fun e w' => e = .returned (.float .f64 9221120237041090561) ∧ w = w' := by
  go_enter Tryd.func28, Tryd.ntmps28
  go_wp2
  go_ret
  exact ⟨rfl, rfl⟩
theorem k_isInf (w : World) : Calls Tryd.prog 21 #[.float .f64 9218868437227405312, .int .i64 1] w fun e w' => e = .returned (.bool true) ∧ w = w' := by
  have c0 : (FloatKind.f64.format.order 9218868437227405312 9218868437227405311 == some .gt) = true := by decide +kernel
  go_enter Tryd.func21, Tryd.ntmps21
  go_wp2
  go_ret
  exact ⟨rfl, rfl⟩
theorem k_copysign (w : World) : Calls Tryd.prog 25 #[.float .f64 0, .float .f64 13830554455654793216] w fun e w' => e = .returned (.float .f64 9223372036854775808) ∧ w = w' := by
  go_enter Tryd.func25, Tryd.ntmps25
  go_wp2
  go_ret
  exact ⟨by kernel_rfl, rfl⟩
theorem k_bits {x : Nat} (h : IsN x) (w : World) : Calls Tryd.prog 57 #[.float .f64 x] w fun e w' => e = .returned (.int .u64 x) ∧ w = w' := by
  go_enter Tryd.func57, Tryd.ntmps57
  go_wp2_with (go_at_call 47; refine (isNaN_no h _).mono ?_; rintro e w' ⟨rfl, rfl⟩)
  go_ret
  exact ⟨rfl, rfl⟩
theorem k_same {x : Nat} (h : IsN x) (w : World) : Calls Tryd.prog 23 #[.float .f64 x, .float .f64 x] w fun e w' => e = .returned (.bool true) ∧ w = w' := by
  go_enter Tryd.func23, Tryd.ntmps23
  go_wp2_with (go_at_call 57; refine (k_bits h _).mono ?_; rintro e w' ⟨rfl, rfl⟩)
  go_ret
  exact ⟨rfl, rfl⟩
theorem k_same0 (w : World) : Calls Tryd.prog 23 #[.float .f64 0, .float .f64 0] w fun e w' => e = .returned (.bool true) ∧ w = w' := k_same isN_0 w
theorem k_same1 (w : World) : Calls Tryd.prog 23 #[.float .f64 9223372036854775808, .float .f64 9223372036854775808] w fun e w' => e = .returned (.bool true) ∧ w = w' := k_same (by unfold IsN; decide) w
-- neighbours
theorem k_next1 (w : World) : Calls Tryd.prog 24 #[.float .f64 9223372036854775809, .bool true] w fun e w' => e = .returned (.float .f64 9223372036854775808) ∧ w = w' := by
  have h := next_up (x := 9223372036854775809) (by unfold IsN; decide) (by decide) w
  rw [show nextU 9223372036854775809 = 9223372036854775808 by decide +kernel] at h; exact h
theorem k_next2 (w : World) : Calls Tryd.prog 24 #[.float .f64 1, .bool false] w fun e w' => e = .returned (.float .f64 0) ∧ w = w' := by
  have h := next_dn (x := 1) (by unfold IsN; decide) (by decide) w
  rw [show nextD 1 = 0 by decide +kernel] at h; exact h
theorem k_next3 (w : World) : Calls Tryd.prog 24 #[.float .f64 9218868437227405311, .bool true] w fun e w' => e = .returned (.float .f64 9218868437227405312) ∧ w = w' := by
  have h := next_up (x := 9218868437227405311) (by unfold IsN; decide) (by decide) w
  rw [show nextU 9218868437227405311 = 9218868437227405312 by decide +kernel] at h; exact h
theorem k_next4 (w : World) : Calls Tryd.prog 24 #[.float .f64 0, .bool true] w fun e w' => e = .returned (.float .f64 1) ∧ w = w' := by
  have h := next_up (x := 0) (by unfold IsN; decide) (by decide) w
  rw [show nextU 0 = 1 by decide +kernel] at h; exact h
-- samples
theorem k_samp {x : Nat} {s : Int} {b : Bool} (hx : IsN x) (h1 : smp x = s) (h2 : smpB x = b) (w : World) : Calls Tryd.prog 19 #[.float .f64 x] w fun e w' => e = .returned (.tuple #[.int .i16 s, .bool b]) ∧ w = w' := by
  have h := sample_any x hx w
  rw [h1, h2] at h; exact h
theorem k_samp1 (w : World) : Calls Tryd.prog 19 #[.float .f64 4607182281361063936] w fun e w' => e = .returned (.tuple #[.int .i16 32767, .bool false]) ∧ w = w' := k_samp (by unfold IsN; decide) (by decide +kernel) (by decide +kernel) w
theorem k_samp2 (w : World) : Calls Tryd.prog 19 #[.float .f64 13830554490014531584] w fun e w' => e = .returned (.tuple #[.int .i16 (-32768), .bool true]) ∧ w = w' := k_samp (by unfold IsN; decide) (by decide +kernel) (by decide +kernel) w
theorem k_samp3 (w : World) : Calls Tryd.prog 19 #[.float .f64 4607181869044203520] w fun e w' => e = .returned (.tuple #[.int .i16 32766, .bool true]) ∧ w = w' := k_samp (by unfold IsN; decide) (by decide +kernel) (by decide +kernel) w
theorem k_samp4 (w : World) : Calls Tryd.prog 19 #[.float .f64 4607182212641587200] w fun e w' => e = .returned (.tuple #[.int .i16 32767, .bool true]) ∧ w = w' := k_samp (by unfold IsN; decide) (by decide +kernel) (by decide +kernel) w
theorem k_samp5 (w : World) : Calls Tryd.prog 19 #[.float .f64 4607182418800017408] w fun e w' => e = .returned (.tuple #[.int .i16 32767, .bool false]) ∧ w = w' := k_samp (by unfold IsN; decide) (by decide +kernel) (by decide +kernel) w
theorem k_samp6 (w : World) : Calls Tryd.prog 19 #[.float .f64 4545257923923673088] w fun e w' => e = .returned (.tuple #[.int .i16 2, .bool true]) ∧ w = w' := k_samp (by unfold IsN; decide) (by decide +kernel) (by decide +kernel) w
theorem k_samp7 (w : World) : Calls Tryd.prog 19 #[.float .f64 13830554455654793216] w fun e w' => e = .returned (.tuple #[.int .i16 (-32768), .bool true]) ∧ w = w' := k_samp (by unfold IsN; decide) (by decide +kernel) (by decide +kernel) w
theorem k_samp8 (w : World) : Calls Tryd.prog 19 #[.float .f64 18442240474082181120] w fun e w' => e = .returned (.tuple #[.int .i16 (-32768), .bool false]) ∧ w = w' := k_samp (by unfold IsN; decide) (by decide +kernel) (by decide +kernel) w
-- Add of the greatest and itself
theorem k_lost1 (w : World) : Calls Tryd.prog 52 #[.float .f64 9218868437227405312, .float .f64 9218868437227405311, .float .f64 9218868437227405311] w fun e w' => e = .returned (.float .f64 18442240474082181120) ∧ w = w' := by
  have c0 : (FloatKind.f64.format.order (rg 9218868437227405311) (rg 9218868437227405311) == some .lt) = false := by decide +kernel
  have o1 : ∀ t w, (binOp .sub t (.float .f64 9218868437227405312) (.float .f64 9218868437227405311)).run Tryd.prog w = .ok (.float .f64 9218868437227405312) w := fun t w => run_float_arith w .sub t .f64 _ _ _ (by decide +kernel)
  have o2 : ∀ t w, (binOp .sub t (.float .f64 9218868437227405311) (.float .f64 9218868437227405312)).run Tryd.prog w = .ok (.float .f64 18442240474082181120) w := fun t w => run_float_arith w .sub t .f64 _ _ _ (by decide +kernel)
  go_enter Tryd.func52, Tryd.ntmps52
  go_wp2_with (first | simp only [o1, o2] | (go_at_call 53; refine (abs_any _ (by decide) _).mono ?_; rintro e w' ⟨rfl, rfl⟩))
  go_ret
  exact ⟨rfl, rfl⟩
theorem k_sides1 (w : World) : Calls Tryd.prog 51 #[.float .f64 9218868437227405312, .float .f64 18442240474082181120] w fun e w' => e = .returned (.tuple #[.float .f64 9218868437227405311, .float .f64 9218868437227405312]) ∧ w = w' := by
  have h := sides_dn (x := 9218868437227405312) (r := 18442240474082181120) (by unfold IsN; decide) (by decide) (by decide +kernel) (by decide +kernel) w
  rw [show unsg (nextD 9218868437227405312) = 9218868437227405311 by decide +kernel, show unsg 9218868437227405312 = 9218868437227405312 by decide +kernel] at h
  exact h
theorem k_add1 (w : World) : Calls Tryd.prog 20 #[.float .f64 9218868437227405311, .float .f64 9218868437227405311] w fun e w' => e = .returned (.tuple #[.float .f64 9218868437227405311, .float .f64 9218868437227405312]) ∧ w = w' := by
  have o1 : ∀ t w, (binOp .add t (.float .f64 9218868437227405311) (.float .f64 9218868437227405311)).run Tryd.prog w = .ok (.float .f64 9218868437227405312) w := fun t w => run_float_arith w .add t .f64 _ _ _ (by decide +kernel)
  go_enter Tryd.func20, Tryd.ntmps20
  go_wp2_with (first | simp only [o1] | (go_at_call 50; refine (isFinite_yes (by decide) (by unfold FinW; decide) _).mono ?_; rintro e w' ⟨rfl, rfl⟩) | (go_at_call 52; refine (k_lost1 _).mono ?_; rintro e w' ⟨rfl, rfl⟩) | (go_at_call 51; refine (k_sides1 _).mono ?_; rintro e w' ⟨rfl, rfl⟩))
  go_ret2
  exact ⟨rfl, rfl⟩
-- Add of 1 and -1
theorem k_lost2 (w : World) : Calls Tryd.prog 52 #[.float .f64 0, .float .f64 4607182418800017408, .float .f64 13830554455654793216] w fun e w' => e = .returned (.float .f64 0) ∧ w = w' := by
  have c0 : (FloatKind.f64.format.order (rg 4607182418800017408) (rg 13830554455654793216) == some .lt) = false := by decide +kernel
  have o1 : ∀ t w, (binOp .sub t (.float .f64 0) (.float .f64 4607182418800017408)).run Tryd.prog w = .ok (.float .f64 13830554455654793216) w := fun t w => run_float_arith w .sub t .f64 _ _ _ (by decide +kernel)
  have o2 : ∀ t w, (binOp .sub t (.float .f64 13830554455654793216) (.float .f64 13830554455654793216)).run Tryd.prog w = .ok (.float .f64 0) w := fun t w => run_float_arith w .sub t .f64 _ _ _ (by decide +kernel)
  go_enter Tryd.func52, Tryd.ntmps52
  go_wp2_with (first | simp only [o1, o2] | (go_at_call 53; refine (abs_any _ (by decide) _).mono ?_; rintro e w' ⟨rfl, rfl⟩))
  go_ret
  exact ⟨rfl, rfl⟩
theorem k_sides2 (w : World) : Calls Tryd.prog 51 #[.float .f64 0, .float .f64 0] w fun e w' => e = .returned (.tuple #[.float .f64 0, .float .f64 0]) ∧ w = w' := by
  have h := sides_no (x := 0) (r := 0) (by unfold IsN; decide) (by decide) (by decide +kernel) (by decide +kernel) w
  rw [show unsg 0 = 0 by decide +kernel] at h
  exact h
theorem k_add2 (w : World) : Calls Tryd.prog 20 #[.float .f64 4607182418800017408, .float .f64 13830554455654793216] w fun e w' => e = .returned (.tuple #[.float .f64 0, .float .f64 0]) ∧ w = w' := by
  have o1 : ∀ t w, (binOp .add t (.float .f64 4607182418800017408) (.float .f64 13830554455654793216)).run Tryd.prog w = .ok (.float .f64 0) w := fun t w => run_float_arith w .add t .f64 _ _ _ (by decide +kernel)
  go_enter Tryd.func20, Tryd.ntmps20
  go_wp2_with (first | simp only [o1] | (go_at_call 50; refine (isFinite_yes (by decide) (by unfold FinW; decide) _).mono ?_; rintro e w' ⟨rfl, rfl⟩) | (go_at_call 52; refine (k_lost2 _).mono ?_; rintro e w' ⟨rfl, rfl⟩) | (go_at_call 51; refine (k_sides2 _).mono ?_; rintro e w' ⟨rfl, rfl⟩))
  go_ret2
  exact ⟨rfl, rfl⟩
-- Mul of the least, below 0, and a half
theorem k_norm1 (w : World) : Calls Tryd.prog 122 #[.float .f64 9223372036854775809] w fun e w' => e = .returned (.tuple #[.float .f64 9227875636482146304, .int .i64 (-52)]) ∧ w = w' := by
  have c0 : (FloatKind.f64.format.order (rg 9223372036854775809) 4503599627370496 == some .lt) = true := by decide +kernel
  have o1 : ∀ t w, (binOp .mul t (.float .f64 9223372036854775809) (.float .f64 4841369599423283200)).run Tryd.prog w = .ok (.float .f64 9227875636482146304) w := fun t w => run_float_arith w .mul t .f64 _ _ _ (by decide +kernel)
  go_enter Tryd.func122, Tryd.ntmps122
  go_wp2_with (first | simp only [o1] | (go_at_call 53; refine (abs_any _ (by decide) _).mono ?_; rintro e w' ⟨rfl, rfl⟩))
  go_ret2
  exact ⟨rfl, rfl⟩
theorem k_frexp1 (w : World) : Calls Tryd.prog 83 #[.float .f64 9223372036854775809] w fun e w' => e = .returned (.tuple #[.float .f64 13826050856027422720, .int .i64 (-1073)]) ∧ w = w' := by
  have c0 : (FloatKind.f64.format.order 9223372036854775809 0 == some .eq) = false := by decide +kernel
  go_enter Tryd.func83, Tryd.ntmps83
  go_wp2_with (first | (go_at_call 21; refine (isInf_fin (by decide) (by unfold FinW; decide) _).mono ?_; rintro e w' ⟨rfl, rfl⟩) | (go_at_call 47; refine (isNaN_no (by unfold IsN; decide) _).mono ?_; rintro e w' ⟨rfl, rfl⟩) | (go_at_call 122; refine (k_norm1 _).mono ?_; rintro e w' ⟨rfl, rfl⟩))
  go_ret2
  exact ⟨by kernel_rfl, rfl⟩
theorem k_Frexp1 (w : World) : Calls Tryd.prog 54 #[.float .f64 9223372036854775809] w fun e w' => e = .returned (.tuple #[.float .f64 13826050856027422720, .int .i64 (-1073)]) ∧ w = w' := by
  go_enter Tryd.func54, Tryd.ntmps54
  go_wp2_with (go_at_call 83; refine (k_frexp1 _).mono ?_; rintro e w' ⟨rfl, rfl⟩)
  go_ret2
  exact ⟨rfl, rfl⟩
theorem k_norm2 (w : World) : Calls Tryd.prog 122 #[.float .f64 4602678819172646912] w fun e w' => e = .returned (.tuple #[.float .f64 4602678819172646912, .int .i64 0]) ∧ w = w' := by
  have c0 : (FloatKind.f64.format.order (rg 4602678819172646912) 4503599627370496 == some .lt) = false := by decide +kernel
  go_enter Tryd.func122, Tryd.ntmps122
  go_wp2_with (go_at_call 53; refine (abs_any _ (by decide) _).mono ?_; rintro e w' ⟨rfl, rfl⟩)
  go_ret2
  exact ⟨rfl, rfl⟩
theorem k_frexp2 (w : World) : Calls Tryd.prog 83 #[.float .f64 4602678819172646912] w fun e w' => e = .returned (.tuple #[.float .f64 4602678819172646912, .int .i64 0]) ∧ w = w' := by
  have c0 : (FloatKind.f64.format.order 4602678819172646912 0 == some .eq) = false := by decide +kernel
  go_enter Tryd.func83, Tryd.ntmps83
  go_wp2_with (first | (go_at_call 21; refine (isInf_fin (by decide) (by unfold FinW; decide) _).mono ?_; rintro e w' ⟨rfl, rfl⟩) | (go_at_call 47; refine (isNaN_no (by unfold IsN; decide) _).mono ?_; rintro e w' ⟨rfl, rfl⟩) | (go_at_call 122; refine (k_norm2 _).mono ?_; rintro e w' ⟨rfl, rfl⟩))
  go_ret2
  exact ⟨by kernel_rfl, rfl⟩
theorem k_Frexp2 (w : World) : Calls Tryd.prog 54 #[.float .f64 4602678819172646912] w fun e w' => e = .returned (.tuple #[.float .f64 4602678819172646912, .int .i64 0]) ∧ w = w' := by
  go_enter Tryd.func54, Tryd.ntmps54
  go_wp2_with (go_at_call 83; refine (k_frexp2 _).mono ?_; rintro e w' ⟨rfl, rfl⟩)
  go_ret2
  exact ⟨rfl, rfl⟩
theorem k_ldexp (w : World) : Calls Tryd.prog 85 #[.float .f64 9223372036854775808, .int .i64 1073] w fun e w' => e = .returned (.float .f64 9223372036854775808) ∧ w = w' := by
  have c0 : (FloatKind.f64.format.order 9223372036854775808 0 == some .eq) = true := by decide +kernel
  go_enter Tryd.func85, Tryd.ntmps85
  go_wp2
  go_ret
  exact ⟨rfl, rfl⟩
theorem k_Ldexp (w : World) : Calls Tryd.prog 56 #[.float .f64 9223372036854775808, .int .i64 1073] w fun e w' => e = .returned (.float .f64 9223372036854775808) ∧ w = w' := by
  go_enter Tryd.func56, Tryd.ntmps56
  go_wp2_with (go_at_call 85; refine (k_ldexp _).mono ?_; rintro e w' ⟨rfl, rfl⟩)
  go_ret
  exact ⟨rfl, rfl⟩
theorem k_sides3 (w : World) : Calls Tryd.prog 51 #[.float .f64 9223372036854775808, .float .f64 13821547256400052224] w fun e w' => e = .returned (.tuple #[.float .f64 9223372036854775809, .float .f64 0]) ∧ w = w' := by
  have h := sides_dn (x := 9223372036854775808) (r := 13821547256400052224) (by unfold IsN; decide) (by decide) (by decide +kernel) (by decide +kernel) w
  rw [show unsg (nextD 9223372036854775808) = 9223372036854775809 by decide +kernel, show unsg 9223372036854775808 = 0 by decide +kernel] at h
  exact h
theorem k_mul (w : World) : Calls Tryd.prog 22 #[.float .f64 9223372036854775809, .float .f64 4602678819172646912] w fun e w' => e = .returned (.tuple #[.float .f64 9223372036854775809, .float .f64 0]) ∧ w = w' := by
  have o1 : ∀ t w, (binOp .mul t (.float .f64 9223372036854775809) (.float .f64 4602678819172646912)).run Tryd.prog w = .ok (.float .f64 9223372036854775808) w := fun t w => run_float_arith w .mul t .f64 _ _ _ (by decide +kernel)
  have o2 : ∀ w, (callFunc 55 #[.float .f64 13826050856027422720, .float .f64 4602678819172646912, .float .f64 0]).run Tryd.prog w = .ok (.value (.float .f64 13821547256400052224)) w := fun w => call_fma (by decide +kernel) w
  have o3 : Op.negFloat .f64 9223372036854775808 = 0 := by decide +kernel
  go_enter Tryd.func22, Tryd.ntmps22
  go_wp2_with (first | simp only [o1, o2] | (go_at_call 50; refine (isFinite_yes (by decide) (by unfold FinW; decide) _).mono ?_; rintro e w' ⟨rfl, rfl⟩) | (go_at_call 54; (first | with_reducible refine (k_Frexp1 _).mono ?_ | with_reducible refine (k_Frexp2 _).mono ?_); rintro e w' ⟨rfl, rfl⟩) | (go_at_call 56; refine (k_Ldexp _).mono ?_; rintro e w' ⟨rfl, rfl⟩) | (go_at_call 51; refine (k_sides3 _).mono ?_; rintro e w' ⟨rfl, rfl⟩))
  go_ret2
  exact ⟨rfl, rfl⟩
end Go.Proofs.YtgdcahdnojaebaaDoor
