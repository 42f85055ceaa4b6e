/- package math: Frexp, Ldexp of what is a number: some number. -/
import Derived.Test.YtgdcahdnojaebaaGq
import Derived.Test.YtgdcahdnojaebaaFo
namespace Go.Proofs.Ytgdcahdnojaebaa
open Go.RowKit Ieee Fl

def NormPost (w : World) (e : Ending) (w' : World) : Prop := ∃ (r : Nat) (k : Int), e = .returned (.tuple #[.float .f64 r, .int .i64 k]) ∧ Num64 r ∧ (k = 0 ∨ k = -52) ∧ w = w'
theorem normalize_any {x : Nat} (hx : FinW x) (h64 : x < 18446744073709551616) (w : World) : Calls Try.prog 73 #[.float .f64 x] w (NormPost w) := by
  obtain ⟨r, hr, nr⟩ := mul_some (x := x) (y := 4841369599423283200) hx (by unfold FinW; decide)
  have o1 : ∀ t w, (binOp .mul t (.float .f64 x) (.float .f64 4841369599423283200)).run Try.prog w = .ok (.float .f64 r) w := fun t w => run_float_arith w .mul t .f64 _ _ _ hr
  have P1 := Lib.hid (show NormPost w (.returned (.tuple #[.float .f64 r, .int .i64 (-52)])) w from ⟨_, _, rfl, nr, .inr rfl, rfl⟩)
  have P2 := Lib.hid (show NormPost w (.returned (.tuple #[.float .f64 x, .int .i64 0])) w from ⟨_, _, rfl, ⟨Nat.le_of_lt hx, h64⟩, .inl rfl, rfl⟩)
  clear hr nr hx
  cases c0 : (FloatKind.f64.format.order (rg x) 4503599627370496 == some .lt)
  all_goals
    go_enter Try.func73, Try.ntmps73
    go_wp2_with (first | simp only [o1] | (go_at_call 42; refine (abs_any x h64 _).mono ?_; rintro e w' ⟨rfl, rfl⟩))
    go_ret2
    first | exact P1.out | exact P2.out
def FrexpPost (x : Nat) (w : World) (e : Ending) (w' : World) : Prop := ∃ (r : Nat) (k : Int), e = .returned (.tuple #[.float .f64 r, .int .i64 k]) ∧ FinW r ∧ r < 18446744073709551616 ∧ (sv x ≠ 0 → rg r ≠ 0) ∧ w = w'
theorem frexp_pack (r : Nat) (h : r < 18446744073709551616) : FinW (bits .or .u64 (bits .andNot .u64 (r : Int) 9218868437227405312) 4602678819172646912).toNat ∧ (bits .or .u64 (bits .andNot .u64 (r : Int) 9218868437227405312) 4602678819172646912).toNat < 18446744073709551616 ∧ rg (bits .or .u64 (bits .andNot .u64 (r : Int) 9218868437227405312) 4602678819172646912).toNat ≠ 0 := by
  have h1 := u64_andNot_nat r 9218868437227405312 h (by omega)
  have h2 := pack_fin r 1022 h (by omega)
  have h3 := u64_or_nat (r &&& 9227875636482146303) 4602678819172646912 (Nat.lt_of_le_of_lt Nat.and_le_left h) (by omega)
  rw [show ((9218868437227405312 : Nat) : Int) = 9218868437227405312 from rfl, show 18446744073709551615 - 9218868437227405312 = 9227875636482146303 by decide] at h1
  rw [show ((4602678819172646912 : Nat) : Int) = 4602678819172646912 from rfl] at h3
  have h4 := pack_pos r 1022 (by omega) (by omega)
  rw [h1, h3, Int.toNat_natCast]
  exact ⟨h2.1, h2.2, h4⟩
theorem frexp_any {x : Nat} (hx : FinW x) (h64 : x < 18446744073709551616) (w : World) : Calls Try.prog 51 #[.float .f64 x] w (FrexpPost x w) := by
  cases c0 : (FloatKind.f64.format.order x 0 == some .eq)
  · go_enter Try.func51, Try.ntmps51
    go_wp2_with (first | (go_at_call 38; refine (isInf_fin h64 hx _).mono ?_; rintro e w' ⟨rfl, rfl⟩) | (go_at_call 18; refine (isNaN_no (Nat.le_of_lt hx) _).mono ?_; rintro e w' ⟨rfl, rfl⟩) | (go_at_call 73; refine (normalize_any hx h64 _).mono ?_; rintro e w' ⟨r, k, rfl, hr, -, rfl⟩))
    have hp := frexp_pack r hr.2
    go_ret2
    exact ⟨_, _, rfl, hp.1, hp.2.1, fun _ => hp.2.2, rfl⟩
  · have hz : sv x = 0 := by
      have h := eq_spell (Nat.le_of_lt hx) isN_0
      rw [c0, sv_0] at h
      exact of_decide_eq_true h.symm
    have hq := Lib.hid (show sv x ≠ 0 → rg x ≠ 0 from fun h => absurd hz h)
    clear hz
    go_enter Try.func51, Try.ntmps51
    go_wp2
    go_ret2
    exact ⟨_, _, rfl, hx, h64, hq.out, rfl⟩
theorem Frexp_any {x : Nat} (hx : FinW x) (h64 : x < 18446744073709551616) (w : World) : Calls Try.prog 30 #[.float .f64 x] w (FrexpPost x w) := by
  go_enter Try.func30, Try.ntmps30
  go_wp2_with (go_at_call 51; refine (frexp_any hx h64 _).mono ?_; rintro e w' ⟨r, k, rfl, hr, hr2, hr3, rfl⟩; have HR3 := Lib.hid hr3; clear hr3)
  go_ret2
  exact ⟨_, _, rfl, hr, hr2, HR3.out, rfl⟩
end Go.Proofs.Ytgdcahdnojaebaa
