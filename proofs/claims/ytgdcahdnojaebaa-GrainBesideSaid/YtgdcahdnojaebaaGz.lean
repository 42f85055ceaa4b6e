/- diapasonlaw03.GrainBeside, walked. -/
import Derived.Test.YtgdcahdnojaebaaGt
import Derived.Deep.DeepCutAuto
import Derived.Handy
namespace Go.Proofs.Ytgdcahdnojaebaa
open Go.RowKit Ieee Fl

/-- What the law asks of the own answer o, where d and u are the two sides: the tests' outcomes. -/
theorem own_ways {o d u : Nat} (no : Num64 o) (h : Sided o d u) : ¬ FinW o ∨ (FinW o ∧ (FloatKind.f64.format.order o d != some .eq) = false) ∨ (FinW o ∧ (FloatKind.f64.format.order o d != some .eq) = true ∧ (FloatKind.f64.format.order o u != some .eq) = false) := by
  obtain ⟨nd, nu⟩ := sided_num no h
  by_cases hf : FinW o
  · right
    have g1 := eq_spell no.1 nd.1
    have g2 := eq_spell no.1 nu.1
    by_cases h1 : sv o = sv d
    · left
      rw [decide_eq_true h1] at g1
      exact ⟨hf, by show (!(_ == _)) = false; rw [g1]; rfl⟩
    · right
      rw [decide_eq_false h1] at g1
      refine ⟨hf, by show (!(_ == _)) = true; rw [g1]; rfl, ?_⟩
      have h2 : sv o = sv u := by
        rcases sided_own h with e | e
        · exact absurd e.symm h1
        · exact e.symm
      rw [decide_eq_true h2] at g2
      show (!(_ == _)) = false; rw [g2]; rfl
  · exact .inl hf
theorem beside_not {a b : Nat} (a64 : a < 18446744073709551616) (b64 : b < 18446744073709551616) (h : ¬ FinW a ∨ (FinW a ∧ ¬ FinW b)) (w : World) : Calls Try.prog 4 #[.float .f64 a, .float .f64 b] w fun e w' => e = .returned (.bool true) ∧ w = w' := by
  rcases h with ha | ⟨ha, hb⟩
  all_goals
    go_enter Try.func4, Try.ntmps4
    go_wp2_with (first | (go_at_call 16; (first | with_reducible refine (finite_no a64 ha _).mono ?_ | with_reducible refine (finite_yes a64 ha _).mono ?_ | with_reducible refine (finite_no b64 hb _).mono ?_); rintro e w' ⟨rfl, rfl⟩) | (go_at_call 15; refine (gworks_any _).mono ?_; rintro e w' ⟨rfl, rfl⟩))
    go_ret
    exact ⟨rfl, rfl⟩
theorem inf_of {s : Nat} (n : Num64 s) (h : ¬ FinW s) : rg s = INF := by
  rcases fin_or n.1 with h1 | h1
  · exact absurd h1 h
  · exact h1
theorem lw_num {s a b : Nat} (hs : IsN s) (ha : FinW a) (hb : FinW b) : Num64 (lw s a b) := by
  unfold lw
  split
  · exact (lost_ops hs hb ha).2.2.2
  · exact (lost_ops hs ha hb).2.2.2
/-- Two, and Two again. -/
theorem two_ways {a b : Nat} (ha : FinW a) (hb : FinW b) (a64 : a < 18446744073709551616) (b64 : b < 18446744073709551616) :
    (∃ l s2 l2 : Nat, (∀ w, Calls Try.prog 13 #[.float .f64 a, .float .f64 b] w fun e w' => e = .returned (.tuple #[.float .f64 (addw a b), .float .f64 l]) ∧ w = w') ∧ (∀ w, Calls Try.prog 13 #[.float .f64 (addw a b), .float .f64 l] w fun e w' => e = .returned (.tuple #[.float .f64 s2, .float .f64 l2]) ∧ w = w') ∧
      FinW (addw a b) ∧ (FloatKind.f64.format.order s2 (addw a b) == some .eq) = true ∧ (FloatKind.f64.format.order l2 l == some .eq) = true) ∨
    ((∀ w, Calls Try.prog 13 #[.float .f64 a, .float .f64 b] w fun e w' => e = .returned (.tuple #[.float .f64 (addw a b), .float .f64 0]) ∧ w = w') ∧ ∃ s2 l2 : Nat, (∀ w, Calls Try.prog 13 #[.float .f64 (addw a b), .float .f64 0] w fun e w' => e = .returned (.tuple #[.float .f64 s2, .float .f64 l2]) ∧ w = w') ∧ ¬ FinW (addw a b)) := by
  have ho : double.add a b = some (addw a b) := add_fin ha hb
  have ns : Num64 (addw a b) := num_wd _ (rung_le _ _)
  have f0 : FinW 0 := by unfold FinW; decide
  by_cases hf : FinW (addw a b)
  · left
    obtain ⟨p1, p2, p3⟩ := lw_first ha hb hf
    have nl := lw_num ns.1 ha hb
    have nu := unsg_num nl
    have eu := sv_unsg (lw (addw a b) a b)
    have fu : FinW (unsg (lw (addw a b) a b)) := fin_of_V (by rw [← sv_natAbs, eu]; exact sv_lt p1)
    have hr : rung (sv a + sv b).natAbs (-1074) < INF := by have := hf; unfold FinW at this; rwa [rg_addw] at this
    obtain ⟨q1, q2, q3, q4, q5⟩ := lw_again (T := sv a + sv b) hf fu hr (sv_addw a b).symm (by rw [eu, p2]; omega) (by rw [← sv_natAbs, eu, sv_natAbs]; exact p3)
    have n2 : Num64 (addw (addw a b) (unsg (lw (addw a b) a b))) := num_wd _ (rung_le _ _)
    have n3 := unsg_num (lw_num n2.1 hf fu)
    refine ⟨_, _, _, fun w => two_fin ha hb a64 b64 ho hf ns.2 nl.1 w, fun w => two_fin hf fu ns.2 nu.2 q1 q2 n2.2 (Nat.le_of_lt q4) w, hf, ?_, ?_⟩
    · rw [eq_spell n2.1 ns.1, decide_eq_true q3]
    · rw [eq_spell n3.1 nu.1, decide_eq_true (by rw [sv_unsg, q5])]
  · right
    have hi := inf_of ns hf
    have h2 : double.add (addw a b) 0 = some (addw a b) := by
      rw [add_inf hi f0, ← hi, wd_self ns.2]
    exact ⟨fun w => two_inf ho hi ns.2 w, _, _, fun w => two_inf h2 hi ns.2 w, hf⟩
set_option maxRecDepth 100000 in
set_option maxHeartbeats 4000000 in
theorem beside_full {a b : Nat} (ha : FinW a) (hb : FinW b) (a64 : a < 18446744073709551616) (b64 : b < 18446744073709551616) (h0 : sv b ≠ 0) (w : World) : Calls Try.prog 4 #[.float .f64 a, .float .f64 b] w fun e w' => e = .returned (.bool true) ∧ w = w' := by
  have hs := add_fin ha hb
  have ns : Num64 (addw a b) := num_wd _ (rung_le _ _)
  obtain ⟨p, hp, np⟩ := mul_some ha hb
  obtain ⟨q, hq, nq⟩ := div_some ha hb h0
  have o1 : ∀ t w, (binOp .add t (.float .f64 a) (.float .f64 b)).run Try.prog w = .ok (.float .f64 (addw a b)) w := fun t w => run_float_arith w .add t .f64 _ _ _ hs
  have o2 : ∀ t w, (binOp .mul t (.float .f64 a) (.float .f64 b)).run Try.prog w = .ok (.float .f64 p) w := fun t w => run_float_arith w .mul t .f64 _ _ _ hp
  have o3 : ∀ t w, (binOp .quo t (.float .f64 a) (.float .f64 b)).run Try.prog w = .ok (.float .f64 q) w := fun t w => run_float_arith w .quo t .f64 _ _ _ hq
  have g0 := eq_spell (Nat.le_of_lt hb) isN_0
  rw [sv_0] at g0
  have g1 : (FloatKind.f64.format.order b 0 != some .eq) = true := by
    show (!(_ == _)) = _
    rw [g0]; simp [h0]
  clear g0
  have C3 := Lib.hid (fun w => gadd_any ha hb a64 b64 hs ns w)
  have C4 := Lib.hid (fun w => gmul_any ha hb a64 b64 hp np w)
  have C5 := Lib.hid (fun w => gquo_any ha hb a64 b64 h0 hq nq w)
  clear hq
  have C6 := Lib.hid (two_ways ha hb a64 b64)
  clear hs hp h0
  go_enter Try.func4, Try.ntmps4
  go_upto_region 5 with (first | simp only [o1] | (go_at_call 16; (first | with_reducible refine (finite_yes a64 ha _).mono ?_ | with_reducible refine (finite_yes b64 hb _).mono ?_); rintro e w' ⟨rfl, rfl⟩) | (go_at_call 6; refine (C3.out _).mono ?_; rintro e w' ⟨d, u, rfl, hsd, rfl⟩; have HSD := Lib.hid hsd; clear hsd))
  go_cut [49] (fun t wx => t = .bool false ∧ w = wx)
  case first =>
    have ways := own_ways ns HSD.out
    have n64 := ns.2
    rcases ways with hf | ⟨hf, c1⟩ | ⟨hf, c1, c2⟩
    all_goals
      go_wp2_with (first | (go_at_call 17; refine (beside_any ns HSD.out _).mono ?_; rintro e w' ⟨rfl, rfl⟩) | (go_at_call 16; (first | with_reducible refine (finite_no n64 hf _).mono ?_ | with_reducible refine (finite_yes n64 hf _).mono ?_); rintro e w' ⟨rfl, rfl⟩))
      go_meet
      exact ⟨rfl, rfl⟩
  case rest =>
    obtain ⟨rfl, rfl⟩ := hcut
    clear HSD
    go_upto_region 9 with (first | simp only [o2] | (go_at_call 9; refine (C4.out _).mono ?_; rintro e w' ⟨d, u, rfl, hsd, rfl⟩; have HSD := Lib.hid hsd; clear hsd))
    go_cut [76] (fun t wx => t = .bool false ∧ w = wx)
    case first =>
      have ways := own_ways np HSD.out
      have n64 := np.2
      rcases ways with hf | ⟨hf, c1⟩ | ⟨hf, c1, c2⟩
      all_goals
        go_wp2_with (first | (go_at_call 17; refine (beside_any np HSD.out _).mono ?_; rintro e w' ⟨rfl, rfl⟩) | (go_at_call 16; (first | with_reducible refine (finite_no n64 hf _).mono ?_ | with_reducible refine (finite_yes n64 hf _).mono ?_); rintro e w' ⟨rfl, rfl⟩))
        go_meet
        exact ⟨rfl, rfl⟩
    case rest =>
      obtain ⟨rfl, rfl⟩ := hcut
      clear HSD
      go_upto_region 14 with (first | simp only [o3] | (go_at_call 11; refine (C5.out _).mono ?_; rintro e w' ⟨d, u, rfl, hsd, rfl⟩; have HSD := Lib.hid hsd; clear hsd))
      go_cut [105] (fun t wx => t = .bool false ∧ w = wx)
      case first =>
        have ways := own_ways nq HSD.out
        have n64 := nq.2
        rcases ways with hf | ⟨hf, c1⟩ | ⟨hf, c1, c2⟩
        all_goals
          go_wp2_with (first | (go_at_call 17; refine (beside_any nq HSD.out _).mono ?_; rintro e w' ⟨rfl, rfl⟩) | (go_at_call 16; (first | with_reducible refine (finite_no n64 hf _).mono ?_ | with_reducible refine (finite_yes n64 hf _).mono ?_); rintro e w' ⟨rfl, rfl⟩))
          go_meet
          exact ⟨rfl, rfl⟩
      case rest =>
        obtain ⟨rfl, rfl⟩ := hcut
        clear HSD
        rcases C6.out with ⟨l, s2, l2, D1, D2, hf, c1, c2⟩ | ⟨D1, s2, l2, D2, hf⟩
        · go_wp2_with (first | (go_at_call 13; (first | with_reducible refine (D1 _).mono ?_ | with_reducible refine (D2 _).mono ?_); rintro e w' ⟨rfl, rfl⟩) | (go_at_call 16; refine (finite_yes ns.2 hf _).mono ?_; rintro e w' ⟨rfl, rfl⟩) | (go_at_call 15; refine (gworks_any _).mono ?_; rintro e w' ⟨rfl, rfl⟩))
          go_ret
          exact ⟨rfl, rfl⟩
        · go_wp2_with (first | (go_at_call 13; (first | with_reducible refine (D1 _).mono ?_ | with_reducible refine (D2 _).mono ?_); rintro e w' ⟨rfl, rfl⟩) | (go_at_call 16; refine (finite_no ns.2 hf _).mono ?_; rintro e w' ⟨rfl, rfl⟩) | (go_at_call 15; refine (gworks_any _).mono ?_; rintro e w' ⟨rfl, rfl⟩))
          go_ret
          exact ⟨rfl, rfl⟩
set_option maxRecDepth 100000 in
set_option maxHeartbeats 4000000 in
theorem beside_zero {a b : Nat} (ha : FinW a) (hb : FinW b) (a64 : a < 18446744073709551616) (b64 : b < 18446744073709551616) (h0 : sv b = 0) (w : World) : Calls Try.prog 4 #[.float .f64 a, .float .f64 b] w fun e w' => e = .returned (.bool true) ∧ w = w' := by
  have hs := add_fin ha hb
  have ns : Num64 (addw a b) := num_wd _ (rung_le _ _)
  obtain ⟨p, hp, np⟩ := mul_some ha hb
  have o1 : ∀ t w, (binOp .add t (.float .f64 a) (.float .f64 b)).run Try.prog w = .ok (.float .f64 (addw a b)) w := fun t w => run_float_arith w .add t .f64 _ _ _ hs
  have o2 : ∀ t w, (binOp .mul t (.float .f64 a) (.float .f64 b)).run Try.prog w = .ok (.float .f64 p) w := fun t w => run_float_arith w .mul t .f64 _ _ _ hp
  have g0 := eq_spell (Nat.le_of_lt hb) isN_0
  rw [sv_0] at g0
  have g1 : (FloatKind.f64.format.order b 0 != some .eq) = false := by
    show (!(_ == _)) = _
    rw [g0]; simp [h0]
  clear g0
  have C3 := Lib.hid (fun w => gadd_any ha hb a64 b64 hs ns w)
  have C4 := Lib.hid (fun w => gmul_any ha hb a64 b64 hp np w)
  have C6 := Lib.hid (two_ways ha hb a64 b64)
  clear hs hp h0
  go_enter Try.func4, Try.ntmps4
  go_upto_region 5 with (first | simp only [o1] | (go_at_call 16; (first | with_reducible refine (finite_yes a64 ha _).mono ?_ | with_reducible refine (finite_yes b64 hb _).mono ?_); rintro e w' ⟨rfl, rfl⟩) | (go_at_call 6; refine (C3.out _).mono ?_; rintro e w' ⟨d, u, rfl, hsd, rfl⟩; have HSD := Lib.hid hsd; clear hsd))
  go_cut [49] (fun t wx => t = .bool false ∧ w = wx)
  case first =>
    have ways := own_ways ns HSD.out
    have n64 := ns.2
    rcases ways with hf | ⟨hf, c1⟩ | ⟨hf, c1, c2⟩
    all_goals
      go_wp2_with (first | (go_at_call 17; refine (beside_any ns HSD.out _).mono ?_; rintro e w' ⟨rfl, rfl⟩) | (go_at_call 16; (first | with_reducible refine (finite_no n64 hf _).mono ?_ | with_reducible refine (finite_yes n64 hf _).mono ?_); rintro e w' ⟨rfl, rfl⟩))
      go_meet
      exact ⟨rfl, rfl⟩
  case rest =>
    obtain ⟨rfl, rfl⟩ := hcut
    clear HSD
    go_upto_region 9 with (first | simp only [o2] | (go_at_call 9; refine (C4.out _).mono ?_; rintro e w' ⟨d, u, rfl, hsd, rfl⟩; have HSD := Lib.hid hsd; clear hsd))
    go_cut [76] (fun t wx => t = .bool false ∧ w = wx)
    case first =>
      have ways := own_ways np HSD.out
      have n64 := np.2
      rcases ways with hf | ⟨hf, c1⟩ | ⟨hf, c1, c2⟩
      all_goals
        go_wp2_with (first | (go_at_call 17; refine (beside_any np HSD.out _).mono ?_; rintro e w' ⟨rfl, rfl⟩) | (go_at_call 16; (first | with_reducible refine (finite_no n64 hf _).mono ?_ | with_reducible refine (finite_yes n64 hf _).mono ?_); rintro e w' ⟨rfl, rfl⟩))
        go_meet
        exact ⟨rfl, rfl⟩
    case rest =>
      obtain ⟨rfl, rfl⟩ := hcut
      clear HSD
      rcases C6.out with ⟨l, s2, l2, D1, D2, hf, c1, c2⟩ | ⟨D1, s2, l2, D2, hf⟩
      · go_wp2_with (first | (go_at_call 13; (first | with_reducible refine (D1 _).mono ?_ | with_reducible refine (D2 _).mono ?_); rintro e w' ⟨rfl, rfl⟩) | (go_at_call 16; refine (finite_yes ns.2 hf _).mono ?_; rintro e w' ⟨rfl, rfl⟩) | (go_at_call 15; refine (gworks_any _).mono ?_; rintro e w' ⟨rfl, rfl⟩))
        go_ret
        exact ⟨rfl, rfl⟩
      · go_wp2_with (first | (go_at_call 13; (first | with_reducible refine (D1 _).mono ?_ | with_reducible refine (D2 _).mono ?_); rintro e w' ⟨rfl, rfl⟩) | (go_at_call 16; refine (finite_no ns.2 hf _).mono ?_; rintro e w' ⟨rfl, rfl⟩) | (go_at_call 15; refine (gworks_any _).mono ?_; rintro e w' ⟨rfl, rfl⟩))
        go_ret
        exact ⟨rfl, rfl⟩
theorem besides_any (a b : Nat) (h : a < 18446744073709551616 ∧ b < 18446744073709551616) (w : World) : Calls Try.prog 4 #[.float .f64 a, .float .f64 b] w fun e w' => e = .returned (.bool true) ∧ w = w' := by
  by_cases ha : FinW a
  · by_cases hb : FinW b
    · by_cases h0 : sv b = 0
      · exact beside_zero ha hb h.1 h.2 h0 w
      · exact beside_full ha hb h.1 h.2 h0 w
    · exact beside_not h.1 h.2 (.inr ⟨ha, hb⟩) w
  · exact beside_not h.1 h.2 (.inl ha) w
end Go.Proofs.Ytgdcahdnojaebaa
