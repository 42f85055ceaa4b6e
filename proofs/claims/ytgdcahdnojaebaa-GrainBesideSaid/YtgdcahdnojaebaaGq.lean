/- package grain: a third lies between two floats. -/
import Derived.Test.YtgdcahdnojaebaaGs
namespace Go.Proofs.Ytgdcahdnojaebaa
open Go.RowKit Ieee Fl

theorem norm_1 (w : World) : Calls Try.prog 73 #[.float .f64 4607182418800017408] w fun e w' => e = .returned (.tuple #[.float .f64 4607182418800017408, .int .i64 0]) ∧ w = w' := by
  have c0 : (FloatKind.f64.format.order (rg 4607182418800017408) 4503599627370496 == some .lt) = false := by decide +kernel
  go_enter Try.func73, Try.ntmps73
  go_wp2_with (go_at_call 42; refine (abs_any _ (by decide) _).mono ?_; rintro e w' ⟨rfl, rfl⟩)
  go_ret2
  exact ⟨rfl, rfl⟩
theorem norm_3 (w : World) : Calls Try.prog 73 #[.float .f64 4613937818241073152] w fun e w' => e = .returned (.tuple #[.float .f64 4613937818241073152, .int .i64 0]) ∧ w = w' := by
  have c0 : (FloatKind.f64.format.order (rg 4613937818241073152) 4503599627370496 == some .lt) = false := by decide +kernel
  go_enter Try.func73, Try.ntmps73
  go_wp2_with (go_at_call 42; refine (abs_any _ (by decide) _).mono ?_; rintro e w' ⟨rfl, rfl⟩)
  go_ret2
  exact ⟨rfl, rfl⟩
theorem norm_13 (w : World) : Calls Try.prog 73 #[.float .f64 4599676419421066581] w fun e w' => e = .returned (.tuple #[.float .f64 4599676419421066581, .int .i64 0]) ∧ w = w' := by
  have c0 : (FloatKind.f64.format.order (rg 4599676419421066581) 4503599627370496 == some .lt) = false := by decide +kernel
  go_enter Try.func73, Try.ntmps73
  go_wp2_with (go_at_call 42; refine (abs_any _ (by decide) _).mono ?_; rintro e w' ⟨rfl, rfl⟩)
  go_ret2
  exact ⟨rfl, rfl⟩
theorem frexp_1 (w : World) : Calls Try.prog 51 #[.float .f64 4607182418800017408] w fun e w' => e = .returned (.tuple #[.float .f64 4602678819172646912, .int .i64 1]) ∧ w = w' := by
  have c0 : (FloatKind.f64.format.order 4607182418800017408 0 == some .eq) = false := by decide +kernel
  go_enter Try.func51, Try.ntmps51
  go_wp2_with (first | (go_at_call 38; refine (isInf_fin (by decide) (by unfold FinW; decide) _).mono ?_; rintro e w' ⟨rfl, rfl⟩) | (go_at_call 18; refine (isNaN_no (by unfold IsN; decide) _).mono ?_; rintro e w' ⟨rfl, rfl⟩) | (go_at_call 73; refine (norm_1 _).mono ?_; rintro e w' ⟨rfl, rfl⟩))
  go_ret2
  exact ⟨by kernel_rfl, rfl⟩
theorem Frexp_1 (w : World) : Calls Try.prog 30 #[.float .f64 4607182418800017408] w fun e w' => e = .returned (.tuple #[.float .f64 4602678819172646912, .int .i64 1]) ∧ w = w' := by
  go_enter Try.func30, Try.ntmps30
  go_wp2_with (go_at_call 51; refine (frexp_1 _).mono ?_; rintro e w' ⟨rfl, rfl⟩)
  go_ret2
  exact ⟨rfl, rfl⟩
theorem frexp_3 (w : World) : Calls Try.prog 51 #[.float .f64 4613937818241073152] w fun e w' => e = .returned (.tuple #[.float .f64 4604930618986332160, .int .i64 2]) ∧ w = w' := by
  have c0 : (FloatKind.f64.format.order 4613937818241073152 0 == some .eq) = false := by decide +kernel
  go_enter Try.func51, Try.ntmps51
  go_wp2_with (first | (go_at_call 38; refine (isInf_fin (by decide) (by unfold FinW; decide) _).mono ?_; rintro e w' ⟨rfl, rfl⟩) | (go_at_call 18; refine (isNaN_no (by unfold IsN; decide) _).mono ?_; rintro e w' ⟨rfl, rfl⟩) | (go_at_call 73; refine (norm_3 _).mono ?_; rintro e w' ⟨rfl, rfl⟩))
  go_ret2
  exact ⟨by kernel_rfl, rfl⟩
theorem Frexp_3 (w : World) : Calls Try.prog 30 #[.float .f64 4613937818241073152] w fun e w' => e = .returned (.tuple #[.float .f64 4604930618986332160, .int .i64 2]) ∧ w = w' := by
  go_enter Try.func30, Try.ntmps30
  go_wp2_with (go_at_call 51; refine (frexp_3 _).mono ?_; rintro e w' ⟨rfl, rfl⟩)
  go_ret2
  exact ⟨rfl, rfl⟩
theorem ldexp_13 (w : World) : Calls Try.prog 53 #[.float .f64 4599676419421066581, .int .i64 1] w fun e w' => e = .returned (.float .f64 4604180019048437077) ∧ w = w' := by
  have c0 : (FloatKind.f64.format.order 4599676419421066581 0 == some .eq) = false := by decide +kernel
  have o1 : ∀ t w, (binOp .mul t (.float .f64 4607182418800017408) (.float .f64 4604180019048437077)).run Try.prog w = .ok (.float .f64 4604180019048437077) w := fun t w => run_float_arith w .mul t .f64 _ _ _ (by decide +kernel)
  have b1 : bits .and .i64 1021 2047 = 1021 := by kernel_rfl
  have b2 : bits .andNot .u64 4599676419421066581 9218868437227405312 = 1501199875790165 := by kernel_rfl
  have b3 : bits .or .u64 1501199875790165 4602678819172646912 = 4604180019048437077 := by kernel_rfl
  go_enter Try.func53, Try.ntmps53
  go_wp2_with (first | simp only [o1] | (go_at_call 38; refine (isInf_fin (by decide) (by unfold FinW; decide) _).mono ?_; rintro e w' ⟨rfl, rfl⟩) | (go_at_call 18; refine (isNaN_no (by unfold IsN; decide) _).mono ?_; rintro e w' ⟨rfl, rfl⟩) | (go_at_call 73; refine (norm_13 _).mono ?_; rintro e w' ⟨rfl, rfl⟩))
  go_ret
  exact ⟨rfl, rfl⟩
theorem Ldexp_13 (w : World) : Calls Try.prog 32 #[.float .f64 4599676419421066581, .int .i64 1] w fun e w' => e = .returned (.float .f64 4604180019048437077) ∧ w = w' := by
  go_enter Try.func32, Try.ntmps32
  go_wp2_with (go_at_call 53; refine (ldexp_13 _).mono ?_; rintro e w' ⟨rfl, rfl⟩)
  go_ret
  exact ⟨rfl, rfl⟩
theorem isFinite_yes {x : Nat} (hx : x < 18446744073709551616) (h : FinW x) (w : World) : Calls Try.prog 21 #[.float .f64 x] w fun e w' => e = .returned (.bool true) ∧ w = w' := by
  go_enter Try.func21, Try.ntmps21
  go_wp2_with (first | (go_at_call 38; refine (isInf_fin hx h _).mono ?_; rintro e w' ⟨rfl, rfl⟩) | (go_at_call 18; refine (isNaN_no (Nat.le_of_lt h) _).mono ?_; rintro e w' ⟨rfl, rfl⟩))
  go_ret
  exact ⟨rfl, rfl⟩
@[go_sem] theorem unary_neg_float (k : FloatKind) (b : Nat) : Op.unary .neg (.float k b) = pure (.float k (Op.negFloat k b)) := rfl
def fmaTail (x y z : Nat) : Option Nat → Sem Value
  | some r => pure (.float .f64 r)
  | none => do
    let (a, b) := if Extern.MathFMA.isNaN x then (x, y) else if Extern.MathFMA.isNaN y then (y, z) else (z, z)
    pure (.float .f64 (← choose (.nanBits .f64 a b)))
theorem call_fma {x y z r : Nat} (h : double.fma x y z = some r) (w : World) : (callFunc 31 #[.float .f64 x, .float .f64 y, .float .f64 z]).run Try.prog w = .ok (.value (.float .f64 r)) w := by
  rw [run_callFunc_extern (e := Extern.MathFMA.fma) Try.func31 (by kernel_rfl) (by kernel_rfl) (by kernel_rfl) (by kernel_rfl)]
  have e : Extern.MathFMA.fma #[.float .f64 x, .float .f64 y, .float .f64 z] = fmaTail x y z (double.fma x y z) := rfl
  rw [e, h]; rfl
theorem nextU_13 : nextU 4599676419421066581 = 4599676419421066582 := by decide +kernel
theorem unsg_a : unsg 4599676419421066581 = 4599676419421066581 := by decide +kernel
theorem unsg_b : unsg 4599676419421066582 = 4599676419421066582 := by decide +kernel
theorem sides_13 (w : World) : Calls Try.prog 22 #[.float .f64 4599676419421066581, .float .f64 4359484439294640128] w fun e w' => e = .returned (.tuple #[.float .f64 4599676419421066581, .float .f64 4599676419421066582]) ∧ w = w' := by
  have h := sides_up (x := 4599676419421066581) (r := 4359484439294640128) (by unfold IsN; decide) (by decide) (by decide +kernel) w
  rw [nextU_13, unsg_a, unsg_b] at h
  exact h
theorem quo_13 (w : World) : Calls Try.prog 11 #[.float .f64 4607182418800017408, .float .f64 4613937818241073152] w fun e w' => e = .returned (.tuple #[.float .f64 4599676419421066581, .float .f64 4599676419421066582]) ∧ w = w' := by
  have c0 : (FloatKind.f64.format.order 4613937818241073152 0 == some .eq) = false := by decide +kernel
  have c1 : (FloatKind.f64.format.order 4613937818241073152 0 == some .lt) = false := by decide +kernel
  have o1 : ∀ t w, (binOp .quo t (.float .f64 4607182418800017408) (.float .f64 4613937818241073152)).run Try.prog w = .ok (.float .f64 4599676419421066581) w := fun t w => run_float_arith w .quo t .f64 _ _ _ (by decide +kernel)
  have o2 : ∀ w, (callFunc 31 #[.float .f64 13827552055903212885, .float .f64 4604930618986332160, .float .f64 4602678819172646912]).run Try.prog w = .ok (.value (.float .f64 4359484439294640128)) w := fun w => call_fma (by decide +kernel) w
  have o3 : Op.negFloat .f64 4604180019048437077 = 13827552055903212885 := by decide +kernel
  go_enter Try.func11, Try.ntmps11
  go_wp2_with (first | simp only [o1, o2] | (go_at_call 21; refine (isFinite_yes (by decide) (by unfold FinW; decide) _).mono ?_; rintro e w' ⟨rfl, rfl⟩) | (go_at_call 30; (first | with_reducible refine (Frexp_1 _).mono ?_ | with_reducible refine (Frexp_3 _).mono ?_); rintro e w' ⟨rfl, rfl⟩) | (go_at_call 32; refine (Ldexp_13 _).mono ?_; rintro e w' ⟨rfl, rfl⟩) | (go_at_call 22; refine (sides_13 _).mono ?_; rintro e w' ⟨rfl, rfl⟩))
  trace_state
  go_ret2
  exact ⟨rfl, rfl⟩
theorem gworks_any (w : World) : Calls Try.prog 15 #[] w fun e w' => e = .returned (.bool true) ∧ w = w' := by
  go_enter Try.func15, Try.ntmps15
  go_wp2_with (go_at_call 11; refine (quo_13 _).mono ?_; rintro e w' ⟨rfl, rfl⟩)
  go_ret
  exact ⟨rfl, rfl⟩
end Go.Proofs.Ytgdcahdnojaebaa
