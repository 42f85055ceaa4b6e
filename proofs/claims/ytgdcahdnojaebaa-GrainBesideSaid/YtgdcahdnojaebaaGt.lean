/- diapasonlaw03: finite, beside; package grain: Same, Two. -/
import Derived.Test.YtgdcahdnojaebaaFp
import Derived.Test.YtgdcahdnojaebaaFt
namespace Go.Proofs.Ytgdcahdnojaebaa
open Go.RowKit Ieee Fl

theorem finite_yes {x : Nat} (hx : x < 18446744073709551616) (h : FinW x) (w : World) : Calls Try.prog 16 #[.float .f64 x] w fun e w' => e = .returned (.bool true) ∧ w = w' := by
  go_enter Try.func16, Try.ntmps16
  go_wp2_with (first | (go_at_call 38; refine (isInf_fin hx h _).mono ?_; rintro e w' ⟨rfl, rfl⟩) | (go_at_call 18; refine (isNaN_no (Nat.le_of_lt h) _).mono ?_; rintro e w' ⟨rfl, rfl⟩))
  go_ret
  exact ⟨rfl, rfl⟩
theorem finite_inf {x : Nat} (hx : x < 18446744073709551616) (h : rg x = INF) (w : World) : Calls Try.prog 16 #[.float .f64 x] w fun e w' => e = .returned (.bool false) ∧ w = w' := by
  have hn : IsN x := by unfold IsN; omega
  go_enter Try.func16, Try.ntmps16
  go_wp2_with (first | (go_at_call 38; refine (isInf_inf hx h _).mono ?_; rintro e w' ⟨rfl, rfl⟩) | (go_at_call 18; refine (isNaN_no hn _).mono ?_; rintro e w' ⟨rfl, rfl⟩))
  go_ret
  exact ⟨rfl, rfl⟩
theorem finite_nan {x : Nat} (h : ¬ IsN x) (w : World) : Calls Try.prog 16 #[.float .f64 x] w fun e w' => e = .returned (.bool false) ∧ w = w' := by
  go_enter Try.func16, Try.ntmps16
  go_wp2_with (go_at_call 18; refine (isNaN_yes h _).mono ?_; rintro e w' ⟨rfl, rfl⟩)
  go_ret
  exact ⟨rfl, rfl⟩
theorem finite_no {x : Nat} (hx : x < 18446744073709551616) (h : ¬ FinW x) (w : World) : Calls Try.prog 16 #[.float .f64 x] w fun e w' => e = .returned (.bool false) ∧ w = w' := by
  by_cases hn : IsN x
  · rcases fin_or hn with h1 | h1
    · exact absurd h1 h
    · exact finite_inf hx h1 w
  · exact finite_nan hn w
theorem isFinite_no {x : Nat} (hx : x < 18446744073709551616) (h : rg x = INF) (w : World) : Calls Try.prog 21 #[.float .f64 x] w fun e w' => e = .returned (.bool false) ∧ w = w' := by
  go_enter Try.func21, Try.ntmps21
  go_wp2_with (go_at_call 38; refine (isInf_inf hx h _).mono ?_; rintro e w' ⟨rfl, rfl⟩)
  go_ret
  exact ⟨rfl, rfl⟩
theorem bitsOf_num {x : Nat} (h : IsN x) (w : World) : Calls Try.prog 59 #[.float .f64 x] w fun e w' => e = .returned (.int .u64 x) ∧ w = w' := by
  go_enter Try.func59, Try.ntmps59
  go_wp2_with (go_at_call 18; refine (isNaN_no h _).mono ?_; rintro e w' ⟨rfl, rfl⟩)
  go_ret
  exact ⟨rfl, rfl⟩
theorem same_self {x : Nat} (h : IsN x) (w : World) : Calls Try.prog 39 #[.float .f64 x, .float .f64 x] w fun e w' => e = .returned (.bool true) ∧ w = w' := by
  go_enter Try.func39, Try.ntmps39
  go_wp2_with (go_at_call 59; refine (bitsOf_num h _).mono ?_; rintro e w' ⟨rfl, rfl⟩)
  go_ret
  exact ⟨rfl, rfl⟩
theorem beside_any {x d u : Nat} (hx : Num64 x) (h : Sided x d u) (w : World) : Calls Try.prog 17 #[.float .f64 d, .float .f64 u] w fun e w' => e = .returned (.bool true) ∧ w = w' := by
  obtain ⟨nd, nu⟩ := sided_num hx h
  have g1 := eq_spell nd.1 nu.1
  rcases sided_beside hx h with h1 | ⟨h1, h2⟩
  · rw [decide_eq_true h1] at g1
    clear h1
    go_enter Try.func17, Try.ntmps17
    go_wp2
    go_ret
    exact ⟨rfl, rfl⟩
  · have g2 := lt_spell nd.1 nu.1
    rw [decide_eq_false (show ¬ sv d = sv u by omega)] at g1
    rw [decide_eq_true h1] at g2
    have nd2 := unsg_num nd
    have nn := nextU_num nd2.1 nd2.2
    have o1 : ∀ t w, (binOp .add t (.float .f64 d) (.float .f64 0)).run Try.prog w = .ok (.float .f64 (unsg d)) w := fun t w => run_float_arith w .add t .f64 _ _ _ (add_0 nd)
    have o2 : ∀ t w, (binOp .add t (.float .f64 (nextU (unsg d))) (.float .f64 0)).run Try.prog w = .ok (.float .f64 u) w := fun t w => by
      have := run_float_arith (P := Try.prog) w .add t .f64 _ _ _ (add_0 nn)
      rw [h2] at this; exact this
    clear h1 h2
    go_enter Try.func17, Try.ntmps17
    go_wp2_with (first | simp only [o1, o2] | (go_at_call 40; refine (next_up nd2.1 nd2.2 _).mono ?_; rintro e w' ⟨rfl, rfl⟩) | (go_at_call 39; refine (same_self nu.1 _).mono ?_; rintro e w' ⟨rfl, rfl⟩))
    go_ret
    exact ⟨rfl, rfl⟩
theorem two_fin {a b s : Nat} (ha : FinW a) (hb : FinW b) (a64 : a < 18446744073709551616) (b64 : b < 18446744073709551616) (ho : double.add a b = some s) (hs : FinW s) (s64 : s < 18446744073709551616) (hl : IsN (lw s a b)) (w : World) :
    Calls Try.prog 13 #[.float .f64 a, .float .f64 b] w fun e w' => e = .returned (.tuple #[.float .f64 s, .float .f64 (unsg (lw s a b))]) ∧ w = w' := by
  have o1 : ∀ t w, (binOp .add t (.float .f64 a) (.float .f64 b)).run Try.prog w = .ok (.float .f64 s) w := fun t w => run_float_arith w .add t .f64 _ _ _ ho
  clear ho
  go_enter Try.func13, Try.ntmps13
  go_wp2_with (first | simp only [o1] | (go_at_call 21; refine (isFinite_yes s64 hs _).mono ?_; rintro e w' ⟨rfl, rfl⟩) | (go_at_call 23; refine (lostBy_any (Nat.le_of_lt hs) ha hb a64 b64 _).mono ?_; rintro e w' ⟨rfl, rfl⟩) | (go_at_call 35; refine (unsigned_any hl _).mono ?_; rintro e w' ⟨rfl, rfl⟩))
  go_ret2
  exact ⟨rfl, rfl⟩
theorem two_inf {a b s : Nat} (ho : double.add a b = some s) (hs : rg s = INF) (s64 : s < 18446744073709551616) (w : World) :
    Calls Try.prog 13 #[.float .f64 a, .float .f64 b] w fun e w' => e = .returned (.tuple #[.float .f64 s, .float .f64 0]) ∧ w = w' := by
  have o1 : ∀ t w, (binOp .add t (.float .f64 a) (.float .f64 b)).run Try.prog w = .ok (.float .f64 s) w := fun t w => run_float_arith w .add t .f64 _ _ _ ho
  clear ho
  go_enter Try.func13, Try.ntmps13
  go_wp2_with (first | simp only [o1] | (go_at_call 21; refine (isFinite_no s64 hs _).mono ?_; rintro e w' ⟨rfl, rfl⟩))
  go_ret2
  exact ⟨rfl, rfl⟩
/-- What a finite sum lost, as the program reckons it. -/
theorem lw_first {a b : Nat} (ha : FinW a) (hb : FinW b) (hs : FinW (addw a b)) : FinW (lw (addw a b) a b) ∧ sv (lw (addw a b) a b) = sv a + sv b - sv (addw a b) ∧ V (rg (lw (addw a b) a b)) ≤ V (rg (addw a b)) := by
  unfold lw
  by_cases h : V (rg a) < V (rg b)
  · rw [if_pos h]
    have e : addw a b = addw b a := by
      unfold addw sumS; rw [Int.add_comm, Bool.and_comm]
    rw [e] at hs ⊢
    obtain ⟨p1, p2, p3, p4, p5, p6⟩ := two_first hb ha (Nat.le_of_lt h) hs
    rw [subO_some p1, subO_some p3]
    exact ⟨p4, by omega, p6⟩
  · rw [if_neg h]
    obtain ⟨p1, p2, p3, p4, p5, p6⟩ := two_first ha hb (by omega) hs
    rw [subO_some p1, subO_some p3]
    exact ⟨p4, p5, p6⟩
theorem lw_again {s l : Nat} {T : Int} (hs : FinW s) (hl : FinW l) (hr : rung T.natAbs (-1074) < INF) (hT : Rd T = sv s) (hsl : sv s + sv l = T) (hv : V (rg l) ≤ V (rg s)) :
    double.add s l = some (addw s l) ∧ FinW (addw s l) ∧ sv (addw s l) = sv s ∧ FinW (lw (addw s l) s l) ∧ sv (lw (addw s l) s l) = sv l := by
  obtain ⟨p1, p2, p3, p4, p5, p6, p7, p8⟩ := two_again hs hl hr hT hsl
  have e : lw (addw s l) s l = subw l (subw (addw s l) s) := by
    unfold lw; rw [if_neg (by omega), subO_some p4, subO_some p6]
  rw [e]
  exact ⟨p1, p2, p3, p7, p8⟩
end Go.Proofs.Ytgdcahdnojaebaa
