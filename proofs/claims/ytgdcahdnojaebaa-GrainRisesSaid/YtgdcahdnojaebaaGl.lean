/- diapasonlaw03.GrainRises, walked. -/
import Derived.Test.YtgdcahdnojaebaaGq
namespace Go.Proofs.Ytgdcahdnojaebaa
open Go.RowKit Ieee Fl

theorem nan_any (w : World) : Calls Try.prog 20 #[] w fun e w' => e = .returned (.float .f64 9221120237041090561) ∧ w = w' := by
  go_enter Try.func20, Try.ntmps20
  go_wp2
  go_ret
  exact ⟨rfl, rfl⟩
theorem sample_nan (w : World) : Calls Try.prog 19 #[.float .f64 9221120237041090561] w fun e w' => e = .returned (.tuple #[.int .i16 0, .bool false]) ∧ w = w' := by
  go_enter Try.func19, Try.ntmps19
  go_wp2_with (go_at_call 18; refine (isNaN_yes (by unfold IsN; decide) _).mono ?_; rintro e w' ⟨rfl, rfl⟩)
  go_ret2
  exact ⟨rfl, rfl⟩
def mn (x y : Nat) : Nat := if sv x < sv y then x else if sv y < sv x then y else if (double.read x).neg then x else y
def mx (x y : Nat) : Nat := if sv x < sv y then y else if sv y < sv x then x else if (double.read x).neg then y else x
theorem run_min {x y : Nat} (hx : IsN x) (hy : IsN y) (ts : Array TypeId) (t : TypeId) (w : World) : (Builtin.min_ ts t #[.float .f64 x, .float .f64 y]).run Try.prog w = .ok (.float .f64 (mn x y)) w := by
  have h : FloatKind.f64.format.order x y = some (if sv x < sv y then Ordering.lt else if sv x = sv y then Ordering.eq else Ordering.gt) := order_eq hx hy
  simp only [Builtin.min_, List.foldlM, Builtin.min2, h]
  unfold mn
  by_cases h1 : sv x < sv y
  · simp [h1]
  · by_cases h2 : sv x = sv y
    · simp [h2]; rfl
    · have h3 : sv y < sv x := by omega
      simp [h1, h2, h3]
theorem run_max {x y : Nat} (hx : IsN x) (hy : IsN y) (ts : Array TypeId) (t : TypeId) (w : World) : (Builtin.max_ ts t #[.float .f64 x, .float .f64 y]).run Try.prog w = .ok (.float .f64 (mx x y)) w := by
  have h : FloatKind.f64.format.order x y = some (if sv x < sv y then Ordering.lt else if sv x = sv y then Ordering.eq else Ordering.gt) := order_eq hx hy
  simp only [Builtin.max_, List.foldlM, Builtin.max2, h]
  unfold mx
  by_cases h1 : sv x < sv y
  · simp [h1]
  · by_cases h2 : sv x = sv y
    · simp [h2]; rfl
    · have h3 : sv y < sv x := by omega
      simp [h1, h2, h3]
theorem mn_mx {x y : Nat} (hx : IsN x) (hy : IsN y) : IsN (mn x y) ∧ IsN (mx x y) ∧ sv (mn x y) ≤ sv (mx x y) := by
  unfold mn mx
  split
  · exact ⟨hx, hy, by omega⟩
  · split
    · exact ⟨hy, hx, by omega⟩
    · split
      · exact ⟨hx, hy, by omega⟩
      · exact ⟨hy, hx, by omega⟩

theorem rises_nan {x y : Nat} (h : ¬ IsN x ∨ (IsN x ∧ ¬ IsN y)) (w : World) : Calls Try.prog 5 #[.float .f64 x, .float .f64 y] w fun e w' => e = .returned (.bool true) ∧ w = w' := by
  rcases h with hx | ⟨hx, hy⟩
  all_goals
    go_enter Try.func5, Try.ntmps5
    go_wp2_with (first | (go_at_call 18; (first | with_reducible refine (isNaN_yes hx _).mono ?_ | with_reducible refine (isNaN_no hx _).mono ?_ | with_reducible refine (isNaN_yes hy _).mono ?_); rintro e w' ⟨rfl, rfl⟩) | (go_at_call 20; refine (nan_any _).mono ?_; rintro e w' ⟨rfl, rfl⟩) | (go_at_call 19; refine (sample_nan _).mono ?_; rintro e w' ⟨rfl, rfl⟩) | (go_at_call 15; refine (gworks_any _).mono ?_; rintro e w' ⟨rfl, rfl⟩))
    go_ret
    exact ⟨rfl, rfl⟩
theorem rises_num {x y : Nat} (hx : IsN x) (hy : IsN y) (w : World) : Calls Try.prog 5 #[.float .f64 x, .float .f64 y] w fun e w' => e = .returned (.bool true) ∧ w = w' := by
  obtain ⟨ha, hb, hab⟩ := mn_mx hx hy
  have m1 := run_min hx hy #[22, 22] 22
  have m2 := run_max hx hy #[22, 22] 22
  generalize mn x y = a at *
  generalize mx x y = b at *
  have hle := smp_mono hab
  have CA := fun w => sample_any a ha w
  have CB := fun w => sample_any b hb w
  have g1 := gt_spell (x := a) (y := 13830554906014755953) ha (by unfold IsN; decide)
  have g2 := lt_spell (x := a) (y := KN) ha (by unfold IsN; decide)
  have g4 := lt_spell (x := a) (y := KO) ha (by unfold IsN; decide)
  have hwi : decide (sv a < sv KN) = true → smpB a = true ∨ decide (sv a < sv KO) = true := by
    intro h
    by_cases h2 : sv a < sv KO
    · exact .inr (decide_eq_true h2)
    · exact .inl (smp_within (by omega) (of_decide_eq_true h))
  have hout : smpB b = true ∨ (smpB b = false ∧ smp b = 32767) ∨ (smpB b = false ∧ smp b = -32768) := by
    cases h : smpB b
    · rcases smp_out h with h | h
      · exact .inr (.inl ⟨rfl, h⟩)
      · exact .inr (.inr ⟨rfl, h⟩)
    · exact .inl rfl
  unfold KN at g2 hwi
  unfold KO at g4 hwi
  generalize smpB a = ba at *
  generalize smpB b = bb at *
  generalize smp a = sa at *
  generalize smp b = sb at *
  generalize decide (sv 13830554906014755953 < sv a) = p1 at *
  generalize decide (sv a < sv 4607181518080091934) = p2 at *
  generalize decide (sv a < sv 13830554455654793216) = p4 at *
  have hl1 : decide (sa ≤ sb) = true := decide_eq_true hle
  have hcase : p1 = false ∨ (p1 = true ∧ p2 = false) ∨ (p1 = true ∧ p2 = true ∧ ba = true) ∨ (p1 = true ∧ p2 = true ∧ ba = false ∧ p4 = true) := by
    cases p1 <;> cases p2 <;> cases ba <;> cases p4 <;> simp at hwi ⊢
  clear hwi hab hle ha hb
  have HCA := Lib.hid CA; have HCB := Lib.hid CB
  clear CA CB
  rcases hcase with rfl | ⟨rfl, rfl⟩ | ⟨rfl, rfl, rfl⟩ | ⟨rfl, rfl, rfl, rfl⟩
  all_goals
    rcases hout with rfl | ⟨rfl, rfl⟩ | ⟨rfl, rfl⟩
    all_goals
      go_enter Try.func5, Try.ntmps5
      go_wp2_with (first | simp only [m1, m2] | (go_at_call 18; (first | with_reducible refine (isNaN_no hx _).mono ?_ | with_reducible refine (isNaN_no hy _).mono ?_); rintro e w' ⟨rfl, rfl⟩) | (go_at_call 19; (first | with_reducible refine (HCA.out _).mono ?_ | with_reducible refine (HCB.out _).mono ?_); rintro e w' ⟨rfl, rfl⟩) | (go_at_call 15; refine (gworks_any _).mono ?_; rintro e w' ⟨rfl, rfl⟩))
      go_ret
      exact ⟨rfl, rfl⟩
theorem rises_any (x y : Nat) (w : World) : Calls Try.prog 5 #[.float .f64 x, .float .f64 y] w fun e w' => e = .returned (.bool true) ∧ w = w' := by
  by_cases hx : IsN x
  · by_cases hy : IsN y
    · exact rises_num hx hy w
    · exact rises_nan (.inr ⟨hx, hy⟩) w
  · exact rises_nan (.inl hx) w
end Go.Proofs.Ytgdcahdnojaebaa
