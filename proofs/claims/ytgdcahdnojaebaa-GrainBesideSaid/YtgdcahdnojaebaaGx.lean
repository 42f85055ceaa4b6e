/- package math: Ldexp of what is a number: some number. -/
import Derived.Test.YtgdcahdnojaebaaGf
namespace Go.Proofs.Ytgdcahdnojaebaa
open Go.RowKit Ieee Fl

def NumPost (w : World) (e : Ending) (w' : World) : Prop := ∃ r : Nat, e = .returned (.float .f64 r) ∧ Num64 r ∧ w = w'
theorem copysign_0 {y : Nat} (h64 : y < 18446744073709551616) (w : World) : Calls Try.prog 70 #[.float .f64 0, .float .f64 y] w (NumPost w) := by
  have h1 := u64_and_nat y 9223372036854775808 h64 (by omega)
  rw [show ((9223372036854775808 : Nat) : Int) = 9223372036854775808 from rfl] at h1
  have h2 : bits .andNot .u64 0 9223372036854775808 = 0 := by kernel_rfl
  have h3 := u64_or_nat 0 (y &&& 9223372036854775808) (by omega) (Nat.lt_of_le_of_lt Nat.and_le_left h64)
  rw [Nat.zero_or] at h3
  have hn : Num64 (y &&& 9223372036854775808) := by
    refine ⟨?_, Nat.lt_of_le_of_lt Nat.and_le_left h64⟩
    unfold IsN rg
    rw [show 9223372036854775808 = 2 ^ 63 from rfl, Nat.and_mod_two_pow, Nat.mod_self, Nat.and_zero]
    exact Nat.zero_le _
  have P1 := Lib.hid (show NumPost w (.returned (.float .f64 (y &&& 9223372036854775808))) w from ⟨_, rfl, hn, rfl⟩)
  have h4 : (((y &&& 9223372036854775808 : Nat) : Int)).toNat = y &&& 9223372036854775808 := Int.toNat_natCast _
  clear hn
  generalize y &&& 9223372036854775808 = z at *
  rw [show ((0 : Nat) : Int) = 0 from rfl] at h3
  go_enter Try.func70, Try.ntmps70
  go_wp2
  go_ret
  exact P1.out
theorem ldexp_pack {M : Nat} (hM : FinW M) (r : Nat) (h : r < 18446744073709551616) (K : Int) (h0 : 0 ≤ K) (h1 : K ≤ 2046) :
    ∃ R, Num64 R ∧ ∀ t w, (binOp .mul t (.float .f64 M) (.float .f64 (bits .or .u64 (bits .andNot .u64 (r : Int) 9218868437227405312) (K * 4503599627370496)).toNat)).run Try.prog w = .ok (.float .f64 R) w := by
  have a1 := u64_andNot_nat r 9218868437227405312 h (by omega)
  obtain ⟨k, rfl⟩ := Int.eq_ofNat_of_zero_le h0
  have a2 := pack_fin r k h (by omega)
  have a3 := u64_or_nat (r &&& 9227875636482146303) (k * 4503599627370496) (Nat.lt_of_le_of_lt Nat.and_le_left h) (by omega)
  rw [show ((9218868437227405312 : Nat) : Int) = 9218868437227405312 from rfl, show 18446744073709551615 - 9218868437227405312 = 9227875636482146303 by decide] at a1
  rw [show ((k * 4503599627370496 : Nat) : Int) = (k : Int) * 4503599627370496 from by omega] at a3
  rw [a1, a3, Int.toNat_natCast]
  obtain ⟨R, hR, nR⟩ := mul_some hM a2.1
  exact ⟨R, nR, fun t w => run_float_arith w .mul t .f64 _ _ _ hR⟩
theorem ldexp_any {x : Nat} (k : Int) (hx : FinW x) (h64 : x < 18446744073709551616) (w : World) : Calls Try.prog 53 #[.float .f64 x, .int .i64 k] w (NumPost w) := by
  cases c0 : (FloatKind.f64.format.order x 0 == some .eq)
  · go_enter Try.func53, Try.ntmps53
    go_wp2_with (first | (go_at_call 38; refine (isInf_fin h64 hx _).mono ?_; rintro e w' ⟨rfl, rfl⟩) | (go_at_call 18; refine (isNaN_no (Nat.le_of_lt hx) _).mono ?_; rintro e w' ⟨rfl, rfl⟩) | (go_at_call 73; refine (normalize_any hx h64 _).mono ?_; rintro e w' ⟨r, k2, rfl, hr, hk2, rfl⟩) | (go_at_call 47; (first | with_reducible refine (inf_pos _).mono ?_ | with_reducible refine (inf_neg _).mono ?_); rintro e w' ⟨rfl, rfl⟩) | (go_at_call 70; refine (copysign_0 hr.2 _).mono ?_; rintro e w' ⟨z, rfl, hz, rfl⟩))
    · go_ret; exact ⟨_, rfl, hz, rfl⟩
    · go_ret; exact ⟨_, rfl, ⟨by unfold IsN; decide, by decide⟩, rfl⟩
    · go_ret; exact ⟨_, rfl, ⟨by unfold IsN; decide, by decide⟩, rfl⟩
    · generalize wrap64 (wrap64 (k + k2) + wrap64 (bits BinOp.and IntKind.i64 (wrap64 (↑r / 4503599627370496)) 2047 - 1023)) = E at *
      obtain ⟨R, nR, o1⟩ := ldexp_pack (M := 4368491638549381120) (by unfold FinW; decide) r hr.2 (E + 53 + 1023) (by omega) (by omega)
      go_wp2_with (simp only [o1])
      go_ret; exact ⟨_, rfl, nR, rfl⟩
    · generalize wrap64 (wrap64 (k + k2) + wrap64 (bits BinOp.and IntKind.i64 (wrap64 (↑r / 4503599627370496)) 2047 - 1023)) = E at *
      obtain ⟨R, nR, o1⟩ := ldexp_pack (M := 4607182418800017408) (by unfold FinW; decide) r hr.2 (E + 1023) (by omega) (by omega)
      go_wp2_with (simp only [o1])
      go_ret; exact ⟨_, rfl, nR, rfl⟩
  · have P1 := Lib.hid (show NumPost w (.returned (.float .f64 x)) w from ⟨_, rfl, ⟨Nat.le_of_lt hx, h64⟩, rfl⟩)
    go_enter Try.func53, Try.ntmps53
    go_wp2
    go_ret
    exact P1.out
theorem ldexp_inf {x : Nat} (k : Int) (hx : rg x = INF) (h64 : x < 18446744073709551616) (w : World) : Calls Try.prog 53 #[.float .f64 x, .int .i64 k] w (NumPost w) := by
  have hn : IsN x := by unfold IsN; omega
  have c0 := eq_spell hn isN_0
  have h0 : ¬ sv x = sv 0 := by
    rw [sv_0, sv_inf hx]; have := V_inf_pos; unfold sg; split <;> omega
  rw [decide_eq_false h0] at c0
  have P1 := Lib.hid (show NumPost w (.returned (.float .f64 x)) w from ⟨_, rfl, ⟨hn, h64⟩, rfl⟩)
  clear h0 hn
  go_enter Try.func53, Try.ntmps53
  go_wp2_with (go_at_call 38; refine (isInf_inf h64 hx _).mono ?_; rintro e w' ⟨rfl, rfl⟩)
  go_ret
  exact P1.out
theorem Ldexp_any {x : Nat} (k : Int) (hx : Num64 x) (w : World) : Calls Try.prog 32 #[.float .f64 x, .int .i64 k] w (NumPost w) := by
  rcases fin_or hx.1 with h | h
  · go_enter Try.func32, Try.ntmps32
    go_wp2_with (go_at_call 53; refine (ldexp_any k h hx.2 _).mono ?_; rintro e w' ⟨r, rfl, hr, rfl⟩)
    go_ret
    exact ⟨_, rfl, hr, rfl⟩
  · go_enter Try.func32, Try.ntmps32
    go_wp2_with (go_at_call 53; refine (ldexp_inf k h hx.2 _).mono ?_; rintro e w' ⟨r, rfl, hr, rfl⟩)
    go_ret
    exact ⟨_, rfl, hr, rfl⟩
end Go.Proofs.Ytgdcahdnojaebaa
