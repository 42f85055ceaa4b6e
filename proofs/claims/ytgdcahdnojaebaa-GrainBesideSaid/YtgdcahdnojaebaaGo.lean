/- package grain: lostBy, Add, Mul, Quo: two sides of the own answer. -/
import Derived.Test.YtgdcahdnojaebaaGx
namespace Go.Proofs.Ytgdcahdnojaebaa
open Go.RowKit Ieee Fl

theorem neg_num {R : Nat} (h : Num64 R) : Num64 (Op.negFloat .f64 R) := xor_num h
def subO (x y : Nat) : Nat := (double.sub x y).getD 0
theorem subO_some {x y r : Nat} (h : double.sub x y = some r) : subO x y = r := by unfold subO; rw [h]; rfl
def lw (s a b : Nat) : Nat := if V (rg a) < V (rg b) then subO a (subO s b) else subO b (subO s a)
theorem lost_ops {s a b : Nat} (hs : IsN s) (ha : FinW a) (hb : FinW b) : double.sub s a = some (subO s a) ∧ Num64 (subO s a) ∧ double.sub b (subO s a) = some (subO b (subO s a)) ∧ Num64 (subO b (subO s a)) := by
  obtain ⟨r, h1, n1⟩ := sub_some' hs ha
  have e := subO_some h1
  obtain ⟨q, h2, n2⟩ := sub_some hb n1.1
  subst e
  have e := subO_some h2
  subst e
  exact ⟨h1, n1, h2, n2⟩
theorem lostBy_any {s a b : Nat} (hs : IsN s) (ha : FinW a) (hb : FinW b) (a64 : a < 18446744073709551616) (b64 : b < 18446744073709551616) (w : World) :
    Calls Try.prog 23 #[.float .f64 s, .float .f64 a, .float .f64 b] w fun e w' => e = .returned (.float .f64 (lw s a b)) ∧ w = w' := by
  obtain ⟨p1, -, p2, -⟩ := lost_ops hs ha hb
  obtain ⟨q1, -, q2, -⟩ := lost_ops hs hb ha
  have o1 : ∀ t w, (binOp .sub t (.float .f64 s) (.float .f64 a)).run Try.prog w = .ok (.float .f64 (subO s a)) w := fun t w => run_float_arith w .sub t .f64 _ _ _ p1
  have o2 : ∀ t w, (binOp .sub t (.float .f64 b) (.float .f64 (subO s a))).run Try.prog w = .ok (.float .f64 (subO b (subO s a))) w := fun t w => run_float_arith w .sub t .f64 _ _ _ p2
  have o3 : ∀ t w, (binOp .sub t (.float .f64 s) (.float .f64 b)).run Try.prog w = .ok (.float .f64 (subO s b)) w := fun t w => run_float_arith w .sub t .f64 _ _ _ q1
  have o4 : ∀ t w, (binOp .sub t (.float .f64 a) (.float .f64 (subO s b))).run Try.prog w = .ok (.float .f64 (subO a (subO s b))) w := fun t w => run_float_arith w .sub t .f64 _ _ _ q2
  have g := lt_spell (x := rg a) (y := rg b) (by unfold IsN; rw [rg_rg]; exact Nat.le_of_lt ha) (by unfold IsN; rw [rg_rg]; exact Nat.le_of_lt hb)
  rw [sv_rg, sv_rg] at g
  clear p1 p2 q1 q2
  unfold lw
  by_cases h : V (rg a) < V (rg b)
  · rw [if_pos h]; rw [decide_eq_true (show (V (rg a) : Int) < V (rg b) by omega)] at g
    clear h
    go_enter Try.func23, Try.ntmps23
    go_wp2_with (first | simp only [o1, o2, o3, o4] | (go_at_call 42; (first | with_reducible refine (abs_any a a64 _).mono ?_ | with_reducible refine (abs_any b b64 _).mono ?_); rintro e w' ⟨rfl, rfl⟩))
    go_ret
    exact ⟨rfl, rfl⟩
  · rw [if_neg h]; rw [decide_eq_false (show ¬ (V (rg a) : Int) < V (rg b) by omega)] at g
    clear h
    go_enter Try.func23, Try.ntmps23
    go_wp2_with (first | simp only [o1, o2, o3, o4] | (go_at_call 42; (first | with_reducible refine (abs_any a a64 _).mono ?_ | with_reducible refine (abs_any b b64 _).mono ?_); rintro e w' ⟨rfl, rfl⟩))
    go_ret
    exact ⟨rfl, rfl⟩
theorem gadd_any {a b own : Nat} (ha : FinW a) (hb : FinW b) (a64 : a < 18446744073709551616) (b64 : b < 18446744073709551616) (ho : double.add a b = some own) (hown : Num64 own) (w : World) :
    Calls Try.prog 6 #[.float .f64 a, .float .f64 b] w (SidesPost own w) := by
  have o1 : ∀ t w, (binOp .add t (.float .f64 a) (.float .f64 b)).run Try.prog w = .ok (.float .f64 own) w := fun t w => run_float_arith w .add t .f64 _ _ _ ho
  clear ho
  go_enter Try.func6, Try.ntmps6
  go_wp2_with (first | simp only [o1] | (go_at_call 21; (first | with_reducible refine (isFinite_yes a64 ha _).mono ?_ | with_reducible refine (isFinite_yes b64 hb _).mono ?_); rintro e w' ⟨rfl, rfl⟩) | (go_at_call 23; refine (lostBy_any hown.1 ha hb a64 b64 _).mono ?_; rintro e w' ⟨rfl, rfl⟩) | (go_at_call 22; refine (sides_any _ hown.1 hown.2 _).mono ?_; rintro e w' ⟨d, u, rfl, hsd, rfl⟩; have HSD := Lib.hid hsd; clear hsd))
  go_ret2
  exact ⟨d, u, rfl, HSD.out, rfl⟩
theorem gmul_any {a b own : Nat} (ha : FinW a) (hb : FinW b) (a64 : a < 18446744073709551616) (b64 : b < 18446744073709551616) (ho : double.mul a b = some own) (hown : Num64 own) (w : World) :
    Calls Try.prog 9 #[.float .f64 a, .float .f64 b] w (SidesPost own w) := by
  have o1 : ∀ t w, (binOp .mul t (.float .f64 a) (.float .f64 b)).run Try.prog w = .ok (.float .f64 own) w := fun t w => run_float_arith w .mul t .f64 _ _ _ ho
  clear ho
  go_enter Try.func9, Try.ntmps9
  go_wp2_with (first | simp only [o1, o2] | (go_at_call 21; (first | with_reducible refine (isFinite_yes a64 ha _).mono ?_ | with_reducible refine (isFinite_yes b64 hb _).mono ?_); rintro e w' ⟨rfl, rfl⟩) | (go_at_call 30; (first | ((with_reducible refine (Frexp_any ha a64 _).mono ?_); rintro e w' ⟨r1, k1, rfl, hr1, hr1b, hr1c, rfl⟩; have HR1 := Lib.hid hr1c; clear hr1c) | ((with_reducible refine (Frexp_any hb b64 _).mono ?_); rintro e w' ⟨r2, k2, rfl, hr2, hr2b, hr2c, rfl⟩; have HR2 := Lib.hid hr2c; clear hr2c))) | (go_at_call 32; refine (Ldexp_any _ hown _).mono ?_; rintro e w' ⟨R, rfl, hR, rfl⟩; obtain ⟨q, hq, nq⟩ := fma_some hr1 hr2 (neg_num hR).1; have o2 := call_fma hq; clear hq) | (go_at_call 22; refine (sides_any _ hown.1 hown.2 _).mono ?_; rintro e w' ⟨d, u, rfl, hsd, rfl⟩; have HSD := Lib.hid hsd; clear hsd))
  go_ret2
  exact ⟨d, u, rfl, HSD.out, rfl⟩
theorem gquo_any {a b own : Nat} (ha : FinW a) (hb : FinW b) (a64 : a < 18446744073709551616) (b64 : b < 18446744073709551616) (h0 : sv b ≠ 0) (ho : double.div a b = some own) (hown : Num64 own) (w : World) :
    Calls Try.prog 11 #[.float .f64 a, .float .f64 b] w (SidesPost own w) := by
  have o1 : ∀ t w, (binOp .quo t (.float .f64 a) (.float .f64 b)).run Try.prog w = .ok (.float .f64 own) w := fun t w => run_float_arith w .quo t .f64 _ _ _ ho
  clear ho
  have g0 := eq_spell (Nat.le_of_lt hb) isN_0
  rw [sv_0, decide_eq_false h0] at g0
  have H0 := Lib.hid h0
  clear h0
  cases c1 : (FloatKind.f64.format.order b 0 == some .lt)
  all_goals
    go_enter Try.func11, Try.ntmps11
    go_wp2_with (first | simp only [o1, o2] | (go_at_call 21; (first | with_reducible refine (isFinite_yes a64 ha _).mono ?_ | with_reducible refine (isFinite_yes b64 hb _).mono ?_); rintro e w' ⟨rfl, rfl⟩) | (go_at_call 30; (first | ((with_reducible refine (Frexp_any ha a64 _).mono ?_); rintro e w' ⟨r1, k1, rfl, hr1, hr1b, hr1c, rfl⟩; have HR1 := Lib.hid hr1c; clear hr1c) | ((with_reducible refine (Frexp_any hb b64 _).mono ?_); rintro e w' ⟨r2, k2, rfl, hr2, hr2b, hr2c, rfl⟩; have HR2 := Lib.hid hr2c; clear hr2c))) | (go_at_call 32; refine (Ldexp_any _ hown _).mono ?_; rintro e w' ⟨R, rfl, hR, rfl⟩; obtain ⟨q, hq, nq⟩ := fma_some' (neg_num hR).1 hr2 (HR2.out H0.out) hr1; have o2 := call_fma hq; clear hq) | (go_at_call 22; refine (sides_any _ hown.1 hown.2 _).mono ?_; rintro e w' ⟨d, u, rfl, hsd, rfl⟩; have HSD := Lib.hid hsd; clear hsd))
    go_ret2
    exact ⟨d, u, rfl, HSD.out, rfl⟩
end Go.Proofs.Ytgdcahdnojaebaa
