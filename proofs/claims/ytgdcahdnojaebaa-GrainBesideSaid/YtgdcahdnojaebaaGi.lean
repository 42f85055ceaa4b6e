/- package math: Abs, IsInf. -/
import Derived.Test.YtgdcahdnojaebaaGw
import Derived.Laws.BitsAllLaws
namespace Go.Proofs.Ytgdcahdnojaebaa
open Go.RowKit Ieee Fl

theorem abs_bits (x : Nat) (hx : x < 18446744073709551616) : bits .andNot .u64 (x : Int) 9223372036854775808 = (rg x : Int) := by
  have h := u64_andNot_nat x 9223372036854775808 hx (by omega)
  rw [show ((9223372036854775808 : Nat) : Int) = 9223372036854775808 from rfl] at h
  rw [h, show 18446744073709551615 - 9223372036854775808 = 2 ^ 63 - 1 by decide, Nat.and_two_pow_sub_one_eq_mod]
  rfl
theorem abs_any (x : Nat) (hx : x < 18446744073709551616) (w : World) : Calls Try.prog 42 #[.float .f64 x] w fun e w' => e = .returned (.float .f64 (rg x)) ∧ w = w' := by
  have hb := abs_bits x hx
  have ht : ((rg x : Nat) : Int).toNat = rg x := Int.toNat_natCast _
  go_enter Try.func42, Try.ntmps42
  go_wp2
  go_ret
  exact ⟨rfl, rfl⟩
theorem rg_lt (x : Nat) : rg x < 9223372036854775808 := by unfold rg; omega
theorem rg_rg (x : Nat) : rg (rg x) = rg x := by unfold rg; omega
theorem ngb_rg (x : Nat) : ngb (rg x) = false := by have := rg_lt x; unfold ngb; simp; omega
theorem sv_rg (x : Nat) : sv (rg x) = V (rg x) := by unfold sv sg; rw [ngb_rg, rg_rg]; rfl
def MAXF : Nat := 9218868437227405311
theorem sv_MAXF : sv MAXF = V (INF - 1) := by
  unfold sv sg; rw [show ngb MAXF = false by decide, show rg MAXF = INF - 1 by decide]; rfl
theorem isInf_fin {x : Nat} (hx : x < 18446744073709551616) (h : FinW x) (w : World) : Calls Try.prog 38 #[.float .f64 x, .int .i64 0] w fun e w' => e = .returned (.bool false) ∧ w = w' := by
  have g := gt_spell (x := rg x) (y := MAXF) (by unfold IsN; rw [rg_rg]; exact Nat.le_of_lt h) (by unfold IsN; decide)
  have hd : ¬ sv MAXF < sv (rg x) := by
    rw [sv_MAXF, sv_rg]
    have := V_le (r := rg x) (s := INF - 1) (by unfold FinW at h; omega)
    omega
  rw [decide_eq_false hd] at g
  unfold MAXF at g
  clear hd
  go_enter Try.func38, Try.ntmps38
  go_wp2_with (go_at_call 42; refine (abs_any x hx _).mono ?_; rintro e w' ⟨rfl, rfl⟩)
  go_ret
  exact ⟨rfl, rfl⟩
theorem isInf_inf {x : Nat} (hx : x < 18446744073709551616) (h : rg x = INF) (w : World) : Calls Try.prog 38 #[.float .f64 x, .int .i64 0] w fun e w' => e = .returned (.bool true) ∧ w = w' := by
  have g := gt_spell (x := rg x) (y := MAXF) (by unfold IsN; rw [rg_rg, h]; exact Nat.le_refl _) (by unfold IsN; decide)
  have hd : sv MAXF < sv (rg x) := by
    rw [sv_MAXF, sv_rg, h]
    have := V_lt (r := INF - 1) (s := INF) (by unfold INF; omega)
    omega
  rw [decide_eq_true hd] at g
  unfold MAXF at g
  clear hd
  go_enter Try.func38, Try.ntmps38
  go_wp2_with (go_at_call 42; refine (abs_any x hx _).mono ?_; rintro e w' ⟨rfl, rfl⟩)
  go_ret
  exact ⟨rfl, rfl⟩
theorem isInf_nan {x : Nat} (hx : x < 18446744073709551616) (h : ¬ IsN x) (w : World) : Calls Try.prog 38 #[.float .f64 x, .int .i64 0] w fun e w' => e = .returned (.bool false) ∧ w = w' := by
  have g : (FloatKind.f64.format.order (rg x) 9218868437227405311 == some .gt) = false := by
    show (double.order (rg x) _ == some .gt) = false
    rw [order_nan (x := rg x) (by unfold IsN at *; rw [rg_rg]; exact h)]; rfl
  go_enter Try.func38, Try.ntmps38
  go_wp2_with (go_at_call 42; refine (abs_any x hx _).mono ?_; rintro e w' ⟨rfl, rfl⟩)
  go_ret
  exact ⟨rfl, rfl⟩
end Go.Proofs.Ytgdcahdnojaebaa
