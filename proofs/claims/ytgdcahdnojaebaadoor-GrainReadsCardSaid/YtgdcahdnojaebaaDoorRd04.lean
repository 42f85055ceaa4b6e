/- Contracts, in this order: package math: Inf, Copysign, Nextafter; package grain: Next. · package grain: unsigned, sides. · package grain: a third lies between two floats. · diapasonlaw03.GrainReads, walked. · strconv: FormatUint, AppendUint at base 10. · The row's last steps: a call that only makes new memory; the laid table. · What the listed variables give; the start that meets them. · The plain wrap with the listed variables and the world's shape. -/
import Derived.Test.YtgdcahdnojaebaaDoorRd02
import Derived.Test.YtgdcahdnojaebaaDoorRd03
import Derived.Test.YtgdcahdnojaebaaDoorProg
import Derived.Test.YtgdcahdnojaebaaDoorShelf
import Derived.Lib.ItoaMem
import Derived.Lib.AppendIntMem
import Derived.Lib.Walk
import Derived.WalkKit
import Derived.BigCall
import Derived.BigGuard
import Derived.Lib.Hide
import Derived.Test.YtgdcahdnojaebaaDoorRows
import Derived.ProofKit
import Derived.OpenShut
import Derived.ChangeSame
import Derived.ChangeVars
import Derived.JoinedOf
import Derived.LaidMore
import Derived.Lib.LaidTab
import Derived.Stop.Joined
import Derived.SizedLaws
import Derived.HandedShaped
import Derived.Shelf.Vars
/- package math: Inf, Copysign, Nextafter; package grain: Next. -/
namespace Go.Proofs.YtgdcahdnojaebaaDoor
open Go.RowKit Ieee Fl

def PINF : Nat := 9218868437227405312
def NINF : Nat := 18442240474082181120
theorem inf_pos (w : World) : Calls Tryd.prog 26 #[.int .i64 1] w fun e w' => e = .returned (.float .f64 9218868437227405312) ∧ w = w' := by
  go_enter Tryd.func26, Tryd.ntmps26
  go_wp2
  go_ret
  exact ⟨rfl, rfl⟩
theorem inf_neg (w : World) : Calls Tryd.prog 26 #[.int .i64 (-1)] w fun e w' => e = .returned (.float .f64 18442240474082181120) ∧ w = w' := by
  go_enter Tryd.func26, Tryd.ntmps26
  go_wp2
  go_ret
  exact ⟨rfl, rfl⟩
theorem copysign_pos (w : World) : Calls Tryd.prog 25 #[.float .f64 1, .float .f64 9218868437227405312] w fun e w' => e = .returned (.float .f64 1) ∧ w = w' := by
  go_enter Tryd.func25, Tryd.ntmps25
  go_wp2
  go_ret
  exact ⟨by kernel_rfl, rfl⟩
theorem copysign_neg (w : World) : Calls Tryd.prog 25 #[.float .f64 1, .float .f64 18442240474082181120] w fun e w' => e = .returned (.float .f64 9223372036854775809) ∧ w = w' := by
  go_enter Tryd.func25, Tryd.ntmps25
  go_wp2
  go_ret
  exact ⟨by kernel_rfl, rfl⟩
theorem nx_same {x y : Nat} (hx : IsN x) (hy : IsN y) (e1 : (FloatKind.f64.format.order x y == some .eq) = true) (w : World) : Calls Tryd.prog 58 #[.float .f64 x, .float .f64 y] w fun e w' => e = .returned (.float .f64 x) ∧ w = w' := by
  go_enter Tryd.func58, Tryd.ntmps58
  go_wp2_with (first | (go_at_call 47; (first | with_reducible refine (isNaN_no hx _).mono ?_ | with_reducible refine (isNaN_no hy _).mono ?_); rintro e w' ⟨rfl, rfl⟩))
  go_ret
  exact ⟨rfl, rfl⟩
theorem nx_zero_pos {x : Nat} (hx : IsN x) (e1 : (FloatKind.f64.format.order x 9218868437227405312 == some .eq) = false) (e2 : (FloatKind.f64.format.order x 0 == some .eq) = true) (w : World) : Calls Tryd.prog 58 #[.float .f64 x, .float .f64 9218868437227405312] w fun e w' => e = .returned (.float .f64 1) ∧ w = w' := by
  have hy : IsN 9218868437227405312 := by unfold IsN; decide
  go_enter Tryd.func58, Tryd.ntmps58
  go_wp2_with (first | (go_at_call 47; (first | with_reducible refine (isNaN_no hx _).mono ?_ | with_reducible refine (isNaN_no hy _).mono ?_); rintro e w' ⟨rfl, rfl⟩) | (go_at_call 25; refine (copysign_pos _).mono ?_; rintro e w' ⟨rfl, rfl⟩))
  go_ret
  exact ⟨rfl, rfl⟩
theorem nx_zero_neg {x : Nat} (hx : IsN x) (e1 : (FloatKind.f64.format.order x 18442240474082181120 == some .eq) = false) (e2 : (FloatKind.f64.format.order x 0 == some .eq) = true) (w : World) : Calls Tryd.prog 58 #[.float .f64 x, .float .f64 18442240474082181120] w fun e w' => e = .returned (.float .f64 9223372036854775809) ∧ w = w' := by
  have hy : IsN 18442240474082181120 := by unfold IsN; decide
  go_enter Tryd.func58, Tryd.ntmps58
  go_wp2_with (first | (go_at_call 47; (first | with_reducible refine (isNaN_no hx _).mono ?_ | with_reducible refine (isNaN_no hy _).mono ?_); rintro e w' ⟨rfl, rfl⟩) | (go_at_call 25; refine (copysign_neg _).mono ?_; rintro e w' ⟨rfl, rfl⟩))
  go_ret
  exact ⟨rfl, rfl⟩
theorem nx_up_true {x y : Nat} (hx : IsN x) (hy : IsN y) (e1 : (FloatKind.f64.format.order x y == some .eq) = false) (e2 : (FloatKind.f64.format.order x 0 == some .eq) = false) (e3 : (FloatKind.f64.format.order y x == some .gt) = true) (e4 : (FloatKind.f64.format.order x 0 == some .gt) = true) (hl : x + 1 < 18446744073709551616) (w : World) : Calls Tryd.prog 58 #[.float .f64 x, .float .f64 y] w fun e w' => e = .returned (.float .f64 (x + 1)) ∧ w = w' := by
  have ht : ((x : Int) + 1).toNat = x + 1 := by omega
  go_enter Tryd.func58, Tryd.ntmps58
  go_wp2_with (first | (go_at_call 47; (first | with_reducible refine (isNaN_no hx _).mono ?_ | with_reducible refine (isNaN_no hy _).mono ?_); rintro e w' ⟨rfl, rfl⟩))
  go_ret
  exact ⟨rfl, rfl⟩
theorem nx_dn_true {x y : Nat} (hx : IsN x) (hy : IsN y) (e1 : (FloatKind.f64.format.order x y == some .eq) = false) (e2 : (FloatKind.f64.format.order x 0 == some .eq) = false) (e3 : (FloatKind.f64.format.order y x == some .gt) = true) (e4 : (FloatKind.f64.format.order x 0 == some .gt) = false) (h0 : 1 ≤ x) (hl : x < 18446744073709551616) (w : World) : Calls Tryd.prog 58 #[.float .f64 x, .float .f64 y] w fun e w' => e = .returned (.float .f64 (x - 1)) ∧ w = w' := by
  have ht : ((x : Int) - 1).toNat = x - 1 := by omega
  go_enter Tryd.func58, Tryd.ntmps58
  go_wp2_with (first | (go_at_call 47; (first | with_reducible refine (isNaN_no hx _).mono ?_ | with_reducible refine (isNaN_no hy _).mono ?_); rintro e w' ⟨rfl, rfl⟩))
  go_ret
  exact ⟨rfl, rfl⟩
theorem nx_up_false {x y : Nat} (hx : IsN x) (hy : IsN y) (e1 : (FloatKind.f64.format.order x y == some .eq) = false) (e2 : (FloatKind.f64.format.order x 0 == some .eq) = false) (e3 : (FloatKind.f64.format.order y x == some .gt) = false) (e4 : (FloatKind.f64.format.order x 0 == some .gt) = false) (hl : x + 1 < 18446744073709551616) (w : World) : Calls Tryd.prog 58 #[.float .f64 x, .float .f64 y] w fun e w' => e = .returned (.float .f64 (x + 1)) ∧ w = w' := by
  have ht : ((x : Int) + 1).toNat = x + 1 := by omega
  go_enter Tryd.func58, Tryd.ntmps58
  go_wp2_with (first | (go_at_call 47; (first | with_reducible refine (isNaN_no hx _).mono ?_ | with_reducible refine (isNaN_no hy _).mono ?_); rintro e w' ⟨rfl, rfl⟩))
  go_ret
  exact ⟨rfl, rfl⟩
theorem nx_dn_false {x y : Nat} (hx : IsN x) (hy : IsN y) (e1 : (FloatKind.f64.format.order x y == some .eq) = false) (e2 : (FloatKind.f64.format.order x 0 == some .eq) = false) (e3 : (FloatKind.f64.format.order y x == some .gt) = false) (e4 : (FloatKind.f64.format.order x 0 == some .gt) = true) (h0 : 1 ≤ x) (hl : x < 18446744073709551616) (w : World) : Calls Tryd.prog 58 #[.float .f64 x, .float .f64 y] w fun e w' => e = .returned (.float .f64 (x - 1)) ∧ w = w' := by
  have ht : ((x : Int) - 1).toNat = x - 1 := by omega
  go_enter Tryd.func58, Tryd.ntmps58
  go_wp2_with (first | (go_at_call 47; (first | with_reducible refine (isNaN_no hx _).mono ?_ | with_reducible refine (isNaN_no hy _).mono ?_); rintro e w' ⟨rfl, rfl⟩))
  go_ret
  exact ⟨rfl, rfl⟩
theorem sv_PINF : sv PINF = V INF := by
  unfold sv sg; rw [show ngb PINF = false by decide, show rg PINF = INF by decide]; rfl
theorem sv_NINF : sv NINF = -(V INF : Int) := by
  unfold sv sg; rw [show ngb NINF = true by decide, show rg NINF = INF by decide]; rfl
theorem isN_PINF : IsN PINF := by unfold IsN; decide
theorem isN_NINF : IsN NINF := by unfold IsN; decide
theorem isN_0 : IsN 0 := by unfold IsN; decide
theorem sv_0 : sv 0 = 0 := by decide
/-- The next word upwards; downwards. -/
def nextU (x : Nat) : Nat := if sv x = sv PINF then x else if sv x = 0 then 1 else if 0 < sv x then x + 1 else x - 1
def nextD (x : Nat) : Nat := if sv x = sv NINF then x else if sv x = 0 then 9223372036854775809 else if 0 < sv x then x - 1 else x + 1
theorem ngb_pos {x : Nat} (h : 0 < sv x) : ngb x = false := by unfold sv sg at h; cases hn : ngb x <;> simp [hn] at h ⊢; omega
theorem ngb_neg {x : Nat} (h : sv x < 0) : ngb x = true := by unfold sv sg at h; cases hn : ngb x <;> simp [hn] at h ⊢; omega
theorem word_pos {x : Nat} (hx : x < 18446744073709551616) (h : ngb x = false) : x = rg x ∧ x < 9223372036854775808 := by
  unfold ngb at h; unfold rg; simp at h; omega
theorem word_neg {x : Nat} (hx : x < 18446744073709551616) (h : ngb x = true) : x = 9223372036854775808 + rg x := by
  unfold ngb at h; unfold rg; simp at h; omega
theorem nextafter_up {x : Nat} (hx : IsN x) (h64 : x < 18446744073709551616) (w : World) : Calls Tryd.prog 58 #[.float .f64 x, .float .f64 9218868437227405312] w fun e w' => e = .returned (.float .f64 (nextU x)) ∧ w = w' := by
  have bd := sv_bd hx
  have q1 := eq_spell hx isN_PINF
  have q2 := eq_spell hx isN_0
  have q3 := gt_spell isN_PINF hx
  have q4 := gt_spell hx isN_0
  unfold nextU
  rw [sv_0] at q2 q4
  rw [sv_PINF] at q1 q3 ⊢
  unfold PINF at q1 q3
  by_cases h1 : sv x = (V INF : Int)
  · rw [if_pos h1]; rw [decide_eq_true h1] at q1
    exact nx_same hx (by unfold IsN; decide) q1 w
  rw [if_neg h1]; rw [decide_eq_false h1] at q1
  by_cases h2 : sv x = 0
  · rw [if_pos h2]; rw [decide_eq_true h2] at q2
    exact nx_zero_pos hx q1 q2 w
  rw [if_neg h2]; rw [decide_eq_false h2] at q2
  rw [decide_eq_true (show sv x < (V INF : Int) by omega)] at q3
  by_cases h3 : 0 < sv x
  · rw [if_pos h3]; rw [decide_eq_true h3] at q4
    have := (word_pos h64 (ngb_pos h3)).2
    exact nx_up_true hx (by unfold IsN; decide) q1 q2 q3 q4 (by omega) w
  · rw [if_neg h3]; rw [decide_eq_false h3] at q4
    have := word_neg h64 (ngb_neg (x := x) (by omega))
    exact nx_dn_true hx (by unfold IsN; decide) q1 q2 q3 q4 (by omega) h64 w
theorem nextafter_dn {x : Nat} (hx : IsN x) (h64 : x < 18446744073709551616) (w : World) : Calls Tryd.prog 58 #[.float .f64 x, .float .f64 18442240474082181120] w fun e w' => e = .returned (.float .f64 (nextD x)) ∧ w = w' := by
  have bd := sv_bd hx
  have q1 := eq_spell hx isN_NINF
  have q2 := eq_spell hx isN_0
  have q3 := gt_spell isN_NINF hx
  have q4 := gt_spell hx isN_0
  unfold nextD
  rw [sv_0] at q2 q4
  rw [sv_NINF] at q1 q3 ⊢
  unfold NINF at q1 q3
  by_cases h1 : sv x = -(V INF : Int)
  · rw [if_pos h1]; rw [decide_eq_true h1] at q1
    exact nx_same hx (by unfold IsN; decide) q1 w
  rw [if_neg h1]; rw [decide_eq_false h1] at q1
  by_cases h2 : sv x = 0
  · rw [if_pos h2]; rw [decide_eq_true h2] at q2
    exact nx_zero_neg hx q1 q2 w
  rw [if_neg h2]; rw [decide_eq_false h2] at q2
  rw [decide_eq_false (show ¬ sv x < -(V INF : Int) by omega)] at q3
  by_cases h3 : 0 < sv x
  · rw [if_pos h3]; rw [decide_eq_true h3] at q4
    have hw := word_pos h64 (ngb_pos h3)
    have : x ≠ 0 := by intro e; subst e; exact h2 (by decide)
    exact nx_dn_false hx (by unfold IsN; decide) q1 q2 q3 q4 (by omega) h64 w
  · rw [if_neg h3]; rw [decide_eq_false h3] at q4
    have := word_neg h64 (ngb_neg (x := x) (by omega))
    unfold IsN INF at hx
    exact nx_up_false (by unfold IsN INF; exact hx) (by unfold IsN; decide) q1 q2 q3 q4 (by omega) w
theorem next_up {x : Nat} (hx : IsN x) (h64 : x < 18446744073709551616) (w : World) : Calls Tryd.prog 24 #[.float .f64 x, .bool true] w fun e w' => e = .returned (.float .f64 (nextU x)) ∧ w = w' := by
  go_enter Tryd.func24, Tryd.ntmps24
  go_wp2_with (first | (go_at_call 26; refine (inf_pos _).mono ?_; rintro e w' ⟨rfl, rfl⟩) | (go_at_call 58; refine (nextafter_up hx h64 _).mono ?_; rintro e w' ⟨rfl, rfl⟩))
  go_ret
  exact ⟨rfl, rfl⟩
theorem next_dn {x : Nat} (hx : IsN x) (h64 : x < 18446744073709551616) (w : World) : Calls Tryd.prog 24 #[.float .f64 x, .bool false] w fun e w' => e = .returned (.float .f64 (nextD x)) ∧ w = w' := by
  go_enter Tryd.func24, Tryd.ntmps24
  go_wp2_with (first | (go_at_call 26; refine (inf_neg _).mono ?_; rintro e w' ⟨rfl, rfl⟩) | (go_at_call 58; refine (nextafter_dn hx h64 _).mono ?_; rintro e w' ⟨rfl, rfl⟩))
  go_ret
  exact ⟨rfl, rfl⟩
end Go.Proofs.YtgdcahdnojaebaaDoor
/- package grain: unsigned, sides. -/
namespace Go.Proofs.YtgdcahdnojaebaaDoor
open Go.RowKit Ieee Fl

/-- Without the sign of a nought. -/
def unsg (x : Nat) : Nat := if sv x = 0 then 0 else x
theorem unsigned_any {x : Nat} (hx : IsN x) (w : World) : Calls Tryd.prog 81 #[.float .f64 x] w fun e w' => e = .returned (.float .f64 (unsg x)) ∧ w = w' := by
  have q2 := eq_spell hx isN_0
  rw [sv_0] at q2
  unfold unsg
  by_cases h : sv x = 0
  · rw [if_pos h]; rw [decide_eq_true h] at q2
    clear h
    go_enter Tryd.func81, Tryd.ntmps81
    go_wp2
    go_ret
    exact ⟨rfl, rfl⟩
  · rw [if_neg h]; rw [decide_eq_false h] at q2
    clear h
    go_enter Tryd.func81, Tryd.ntmps81
    go_wp2
    go_ret
    exact ⟨rfl, rfl⟩
theorem nextU_num {x : Nat} (hx : IsN x) (h64 : x < 18446744073709551616) : IsN (nextU x) ∧ nextU x < 18446744073709551616 := by
  unfold nextU
  have bd := sv_bd hx
  rw [sv_PINF]
  split
  · exact ⟨hx, h64⟩
  · split
    · exact ⟨by unfold IsN; decide, by omega⟩
    · split
      · rename_i h1 h2 h3
        have hn := word_pos h64 (ngb_pos h3)
        have hlt : rg x < INF := by
          rcases fin_or hx with h | h
          · exact h
          · exfalso; apply h1; unfold sv sg; rw [h, ngb_pos h3]; rfl
        refine ⟨?_, by omega⟩
        unfold IsN rg INF at *; omega
      · rename_i h1 h2 h3
        have hn := word_neg h64 (ngb_neg (x := x) (by omega))
        have : rg x ≠ 0 := by intro e; apply h2; unfold sv sg; rw [e, V_zero]; split <;> rfl
        refine ⟨?_, by omega⟩
        unfold IsN rg INF at *; omega
theorem nextD_num {x : Nat} (hx : IsN x) (h64 : x < 18446744073709551616) : IsN (nextD x) ∧ nextD x < 18446744073709551616 := by
  unfold nextD
  have bd := sv_bd hx
  rw [sv_NINF]
  split
  · exact ⟨hx, h64⟩
  · split
    · exact ⟨by unfold IsN; decide, by omega⟩
    · split
      · rename_i h1 h2 h3
        have hn := word_pos h64 (ngb_pos h3)
        have : rg x ≠ 0 := by intro e; apply h2; unfold sv sg; rw [e, V_zero]; split <;> rfl
        refine ⟨?_, by omega⟩
        unfold IsN rg INF at *; omega
      · rename_i h1 h2 h3
        have hn := word_neg h64 (ngb_neg (x := x) (by omega))
        have hlt : rg x < INF := by
          rcases fin_or hx with h | h
          · exact h
          · exfalso; apply h1; unfold sv sg; rw [h, ngb_neg (x := x) (by omega)]; rfl
        refine ⟨?_, by unfold INF at hlt; omega⟩
        unfold IsN rg INF at *; omega
theorem sides_up {x r : Nat} (hx : IsN x) (h64 : x < 18446744073709551616) (e1 : (FloatKind.f64.format.order r 0 == some .gt) = true) (w : World) : Calls Tryd.prog 51 #[.float .f64 x, .float .f64 r] w fun e w' => e = .returned (.tuple #[.float .f64 (unsg x), .float .f64 (unsg (nextU x))]) ∧ w = w' := by
  have hn := (nextU_num hx h64).1
  go_enter Tryd.func51, Tryd.ntmps51
  go_wp2_with (first | (go_at_call 81; (first | with_reducible refine (unsigned_any hx _).mono ?_ | with_reducible refine (unsigned_any hn _).mono ?_); rintro e w' ⟨rfl, rfl⟩) | (go_at_call 24; refine (next_up hx h64 _).mono ?_; rintro e w' ⟨rfl, rfl⟩))
  go_ret2
  exact ⟨rfl, rfl⟩
theorem sides_dn {x r : Nat} (hx : IsN x) (h64 : x < 18446744073709551616) (e1 : (FloatKind.f64.format.order r 0 == some .gt) = false) (e2 : (FloatKind.f64.format.order r 0 == some .lt) = true) (w : World) : Calls Tryd.prog 51 #[.float .f64 x, .float .f64 r] w fun e w' => e = .returned (.tuple #[.float .f64 (unsg (nextD x)), .float .f64 (unsg x)]) ∧ w = w' := by
  have hn := (nextD_num hx h64).1
  go_enter Tryd.func51, Tryd.ntmps51
  go_wp2_with (first | (go_at_call 81; (first | with_reducible refine (unsigned_any hx _).mono ?_ | with_reducible refine (unsigned_any hn _).mono ?_); rintro e w' ⟨rfl, rfl⟩) | (go_at_call 24; refine (next_dn hx h64 _).mono ?_; rintro e w' ⟨rfl, rfl⟩))
  go_ret2
  exact ⟨rfl, rfl⟩
theorem sides_no {x r : Nat} (hx : IsN x) (h64 : x < 18446744073709551616) (e1 : (FloatKind.f64.format.order r 0 == some .gt) = false) (e2 : (FloatKind.f64.format.order r 0 == some .lt) = false) (w : World) : Calls Tryd.prog 51 #[.float .f64 x, .float .f64 r] w fun e w' => e = .returned (.tuple #[.float .f64 (unsg x), .float .f64 (unsg x)]) ∧ w = w' := by
  go_enter Tryd.func51, Tryd.ntmps51
  go_wp2_with (first | (go_at_call 81; (first | with_reducible refine (unsigned_any hx _).mono ?_); rintro e w' ⟨rfl, rfl⟩))
  go_ret2
  exact ⟨rfl, rfl⟩
/-- What two sides may be. -/
def Sided (x d u : Nat) : Prop := (d = unsg x ∧ u = unsg x) ∨ (d = unsg x ∧ u = unsg (nextU x)) ∨ (d = unsg (nextD x) ∧ u = unsg x)
def SidesPost (x : Nat) (w : World) (e : Ending) (w' : World) : Prop := ∃ d u, e = .returned (.tuple #[.float .f64 d, .float .f64 u]) ∧ Sided x d u ∧ w = w'
theorem sides_any {x : Nat} (r : Nat) (hx : IsN x) (h64 : x < 18446744073709551616) (w : World) : Calls Tryd.prog 51 #[.float .f64 x, .float .f64 r] w (SidesPost x w) := by
  cases e1 : (FloatKind.f64.format.order r 0 == some .gt)
  · cases e2 : (FloatKind.f64.format.order r 0 == some .lt)
    · exact (sides_no hx h64 e1 e2 w).mono fun _ _ ⟨h1, h2⟩ => ⟨_, _, h1, .inl ⟨rfl, rfl⟩, h2⟩
    · exact (sides_dn hx h64 e1 e2 w).mono fun _ _ ⟨h1, h2⟩ => ⟨_, _, h1, .inr (.inr ⟨rfl, rfl⟩), h2⟩
  · exact (sides_up hx h64 e1 w).mono fun _ _ ⟨h1, h2⟩ => ⟨_, _, h1, .inr (.inl ⟨rfl, rfl⟩), h2⟩
end Go.Proofs.YtgdcahdnojaebaaDoor
/- package grain: a third lies between two floats. -/
namespace Go.Proofs.YtgdcahdnojaebaaDoor
open Go.RowKit Ieee Fl

theorem norm_1 (w : World) : Calls Tryd.prog 122 #[.float .f64 4607182418800017408] w fun e w' => e = .returned (.tuple #[.float .f64 4607182418800017408, .int .i64 0]) ∧ w = w' := by
  have c0 : (FloatKind.f64.format.order (rg 4607182418800017408) 4503599627370496 == some .lt) = false := by decide +kernel
  go_enter Tryd.func122, Tryd.ntmps122
  go_wp2_with (go_at_call 53; refine (abs_any _ (by decide) _).mono ?_; rintro e w' ⟨rfl, rfl⟩)
  go_ret2
  exact ⟨rfl, rfl⟩
theorem norm_3 (w : World) : Calls Tryd.prog 122 #[.float .f64 4613937818241073152] w fun e w' => e = .returned (.tuple #[.float .f64 4613937818241073152, .int .i64 0]) ∧ w = w' := by
  have c0 : (FloatKind.f64.format.order (rg 4613937818241073152) 4503599627370496 == some .lt) = false := by decide +kernel
  go_enter Tryd.func122, Tryd.ntmps122
  go_wp2_with (go_at_call 53; refine (abs_any _ (by decide) _).mono ?_; rintro e w' ⟨rfl, rfl⟩)
  go_ret2
  exact ⟨rfl, rfl⟩
theorem norm_13 (w : World) : Calls Tryd.prog 122 #[.float .f64 4599676419421066581] w fun e w' => e = .returned (.tuple #[.float .f64 4599676419421066581, .int .i64 0]) ∧ w = w' := by
  have c0 : (FloatKind.f64.format.order (rg 4599676419421066581) 4503599627370496 == some .lt) = false := by decide +kernel
  go_enter Tryd.func122, Tryd.ntmps122
  go_wp2_with (go_at_call 53; refine (abs_any _ (by decide) _).mono ?_; rintro e w' ⟨rfl, rfl⟩)
  go_ret2
  exact ⟨rfl, rfl⟩
theorem frexp_1 (w : World) : Calls Tryd.prog 83 #[.float .f64 4607182418800017408] w fun e w' => e = .returned (.tuple #[.float .f64 4602678819172646912, .int .i64 1]) ∧ w = w' := by
  have c0 : (FloatKind.f64.format.order 4607182418800017408 0 == some .eq) = false := by decide +kernel
  go_enter Tryd.func83, Tryd.ntmps83
  go_wp2_with (first | (go_at_call 21; refine (isInf_fin (by decide) (by unfold FinW; decide) _).mono ?_; rintro e w' ⟨rfl, rfl⟩) | (go_at_call 47; refine (isNaN_no (by unfold IsN; decide) _).mono ?_; rintro e w' ⟨rfl, rfl⟩) | (go_at_call 122; refine (norm_1 _).mono ?_; rintro e w' ⟨rfl, rfl⟩))
  go_ret2
  exact ⟨by kernel_rfl, rfl⟩
theorem Frexp_1 (w : World) : Calls Tryd.prog 54 #[.float .f64 4607182418800017408] w fun e w' => e = .returned (.tuple #[.float .f64 4602678819172646912, .int .i64 1]) ∧ w = w' := by
  go_enter Tryd.func54, Tryd.ntmps54
  go_wp2_with (go_at_call 83; refine (frexp_1 _).mono ?_; rintro e w' ⟨rfl, rfl⟩)
  go_ret2
  exact ⟨rfl, rfl⟩
theorem frexp_3 (w : World) : Calls Tryd.prog 83 #[.float .f64 4613937818241073152] w fun e w' => e = .returned (.tuple #[.float .f64 4604930618986332160, .int .i64 2]) ∧ w = w' := by
  have c0 : (FloatKind.f64.format.order 4613937818241073152 0 == some .eq) = false := by decide +kernel
  go_enter Tryd.func83, Tryd.ntmps83
  go_wp2_with (first | (go_at_call 21; refine (isInf_fin (by decide) (by unfold FinW; decide) _).mono ?_; rintro e w' ⟨rfl, rfl⟩) | (go_at_call 47; refine (isNaN_no (by unfold IsN; decide) _).mono ?_; rintro e w' ⟨rfl, rfl⟩) | (go_at_call 122; refine (norm_3 _).mono ?_; rintro e w' ⟨rfl, rfl⟩))
  go_ret2
  exact ⟨by kernel_rfl, rfl⟩
theorem Frexp_3 (w : World) : Calls Tryd.prog 54 #[.float .f64 4613937818241073152] w fun e w' => e = .returned (.tuple #[.float .f64 4604930618986332160, .int .i64 2]) ∧ w = w' := by
  go_enter Tryd.func54, Tryd.ntmps54
  go_wp2_with (go_at_call 83; refine (frexp_3 _).mono ?_; rintro e w' ⟨rfl, rfl⟩)
  go_ret2
  exact ⟨rfl, rfl⟩
theorem ldexp_13 (w : World) : Calls Tryd.prog 85 #[.float .f64 4599676419421066581, .int .i64 1] w fun e w' => e = .returned (.float .f64 4604180019048437077) ∧ w = w' := by
  have c0 : (FloatKind.f64.format.order 4599676419421066581 0 == some .eq) = false := by decide +kernel
  have o1 : ∀ t w, (binOp .mul t (.float .f64 4607182418800017408) (.float .f64 4604180019048437077)).run Tryd.prog w = .ok (.float .f64 4604180019048437077) w := fun t w => run_float_arith w .mul t .f64 _ _ _ (by decide +kernel)
  have b1 : bits .and .i64 1021 2047 = 1021 := by kernel_rfl
  have b2 : bits .andNot .u64 4599676419421066581 9218868437227405312 = 1501199875790165 := by kernel_rfl
  have b3 : bits .or .u64 1501199875790165 4602678819172646912 = 4604180019048437077 := by kernel_rfl
  go_enter Tryd.func85, Tryd.ntmps85
  go_wp2_with (first | simp only [o1] | (go_at_call 21; refine (isInf_fin (by decide) (by unfold FinW; decide) _).mono ?_; rintro e w' ⟨rfl, rfl⟩) | (go_at_call 47; refine (isNaN_no (by unfold IsN; decide) _).mono ?_; rintro e w' ⟨rfl, rfl⟩) | (go_at_call 122; refine (norm_13 _).mono ?_; rintro e w' ⟨rfl, rfl⟩))
  go_ret
  exact ⟨rfl, rfl⟩
theorem Ldexp_13 (w : World) : Calls Tryd.prog 56 #[.float .f64 4599676419421066581, .int .i64 1] w fun e w' => e = .returned (.float .f64 4604180019048437077) ∧ w = w' := by
  go_enter Tryd.func56, Tryd.ntmps56
  go_wp2_with (go_at_call 85; refine (ldexp_13 _).mono ?_; rintro e w' ⟨rfl, rfl⟩)
  go_ret
  exact ⟨rfl, rfl⟩
theorem isFinite_yes {x : Nat} (hx : x < 18446744073709551616) (h : FinW x) (w : World) : Calls Tryd.prog 50 #[.float .f64 x] w fun e w' => e = .returned (.bool true) ∧ w = w' := by
  go_enter Tryd.func50, Tryd.ntmps50
  go_wp2_with (first | (go_at_call 21; refine (isInf_fin hx h _).mono ?_; rintro e w' ⟨rfl, rfl⟩) | (go_at_call 47; refine (isNaN_no (Nat.le_of_lt h) _).mono ?_; rintro e w' ⟨rfl, rfl⟩))
  go_ret
  exact ⟨rfl, rfl⟩
@[go_sem] theorem unary_neg_float (k : FloatKind) (b : Nat) : Op.unary .neg (.float k b) = pure (.float k (Op.negFloat k b)) := rfl
def fmaTail (x y z : Nat) : Option Nat → Sem Value
  | some r => pure (.float .f64 r)
  | none => do
    let (a, b) := if Extern.MathFMA.isNaN x then (x, y) else if Extern.MathFMA.isNaN y then (y, z) else (z, z)
    pure (.float .f64 (← choose (.nanBits .f64 a b)))
theorem call_fma {x y z r : Nat} (h : double.fma x y z = some r) (w : World) : (callFunc 55 #[.float .f64 x, .float .f64 y, .float .f64 z]).run Tryd.prog w = .ok (.value (.float .f64 r)) w := by
  rw [run_callFunc_extern (e := Extern.MathFMA.fma) Tryd.func55 (by kernel_rfl) (by kernel_rfl) (by kernel_rfl) (by kernel_rfl)]
  have e : Extern.MathFMA.fma #[.float .f64 x, .float .f64 y, .float .f64 z] = fmaTail x y z (double.fma x y z) := rfl
  rw [e, h]; rfl
theorem nextU_13 : nextU 4599676419421066581 = 4599676419421066582 := by decide +kernel
theorem unsg_a : unsg 4599676419421066581 = 4599676419421066581 := by decide +kernel
theorem unsg_b : unsg 4599676419421066582 = 4599676419421066582 := by decide +kernel
theorem sides_13 (w : World) : Calls Tryd.prog 51 #[.float .f64 4599676419421066581, .float .f64 4359484439294640128] w fun e w' => e = .returned (.tuple #[.float .f64 4599676419421066581, .float .f64 4599676419421066582]) ∧ w = w' := by
  have h := sides_up (x := 4599676419421066581) (r := 4359484439294640128) (by unfold IsN; decide) (by decide) (by decide +kernel) w
  rw [nextU_13, unsg_a, unsg_b] at h
  exact h
theorem quo_13 (w : World) : Calls Tryd.prog 49 #[.float .f64 4607182418800017408, .float .f64 4613937818241073152] w fun e w' => e = .returned (.tuple #[.float .f64 4599676419421066581, .float .f64 4599676419421066582]) ∧ w = w' := by
  have c0 : (FloatKind.f64.format.order 4613937818241073152 0 == some .eq) = false := by decide +kernel
  have c1 : (FloatKind.f64.format.order 4613937818241073152 0 == some .lt) = false := by decide +kernel
  have o1 : ∀ t w, (binOp .quo t (.float .f64 4607182418800017408) (.float .f64 4613937818241073152)).run Tryd.prog w = .ok (.float .f64 4599676419421066581) w := fun t w => run_float_arith w .quo t .f64 _ _ _ (by decide +kernel)
  have o2 : ∀ w, (callFunc 55 #[.float .f64 13827552055903212885, .float .f64 4604930618986332160, .float .f64 4602678819172646912]).run Tryd.prog w = .ok (.value (.float .f64 4359484439294640128)) w := fun w => call_fma (by decide +kernel) w
  have o3 : Op.negFloat .f64 4604180019048437077 = 13827552055903212885 := by decide +kernel
  go_enter Tryd.func49, Tryd.ntmps49
  go_wp2_with (first | simp only [o1, o2] | (go_at_call 50; refine (isFinite_yes (by decide) (by unfold FinW; decide) _).mono ?_; rintro e w' ⟨rfl, rfl⟩) | (go_at_call 54; (first | with_reducible refine (Frexp_1 _).mono ?_ | with_reducible refine (Frexp_3 _).mono ?_); rintro e w' ⟨rfl, rfl⟩) | (go_at_call 56; refine (Ldexp_13 _).mono ?_; rintro e w' ⟨rfl, rfl⟩) | (go_at_call 51; refine (sides_13 _).mono ?_; rintro e w' ⟨rfl, rfl⟩))
  trace_state
  go_ret2
  exact ⟨rfl, rfl⟩
theorem gworks_any (w : World) : Calls Tryd.prog 18 #[] w fun e w' => e = .returned (.bool true) ∧ w = w' := by
  go_enter Tryd.func18, Tryd.ntmps18
  go_wp2_with (go_at_call 49; refine (quo_13 _).mono ?_; rintro e w' ⟨rfl, rfl⟩)
  go_ret
  exact ⟨rfl, rfl⟩
end Go.Proofs.YtgdcahdnojaebaaDoor
/- diapasonlaw03.GrainReads, walked. -/
namespace Go.Proofs.YtgdcahdnojaebaaDoor
open Go.RowKit Ieee Fl Hx

theorem rsame_self (x : Nat) (w : World) : Calls Tryd.prog 17 #[.float .f64 x, .float .f64 x] w fun e w' => e = .returned (.bool true) ∧ w = w' := by
  by_cases h : IsN x
  · go_enter Tryd.func17, Tryd.ntmps17
    go_wp2_with (go_at_call 47; refine (isNaN_no h _).mono ?_; rintro e w' ⟨rfl, rfl⟩)
    go_ret
    exact ⟨rfl, rfl⟩
  · go_enter Tryd.func17, Tryd.ntmps17
    go_wp2_with (go_at_call 47; refine (isNaN_yes h _).mono ?_; rintro e w' ⟨rfl, rfl⟩)
    go_ret
    exact ⟨rfl, rfl⟩
theorem told_data (n : Nat) : (told n).data.toList = hexk 16 (bo n) := by unfold told; simp
theorem told_of {t : ByteArray} {n : Nat} (h : hexk 16 n = t.data.toList) (hb : bo n = n) : told n = t := by
  unfold told; rw [hb, h]
/-- The two readers agree. -/
theorem reads_both (t : ByteArray) : ∃ (v : Nat) (k : Int), (∀ W, T64 W → ES W → Calls Tryd.prog 15 #[.string t] W fun e w' => e = .returned (.tuple #[.float .f64 v, .int .i64 k]) ∧ Below W.heap.size W w') ∧
    (∀ W, Calls Tryd.prog 16 #[.string t] W fun e w' => e = .returned (.tuple #[.float .f64 v, .int .i64 k]) ∧ W = w') := by
  by_cases hn : t.size = 16
  · have hlen : t.data.toList.length = 16 := by rw [← hn]; rfl
    cases h : hxv 0 t.data.toList with
    | none =>
      have hl : lxv 0 t.data.toList = none := by
        cases hl : lxv 0 t.data.toList with
        | none => rfl
        | some b => have := (lxv_val _ _ _ hl).1; rw [h] at this; cases this
      exact ⟨0, 6, fun W _ hE => parse_bad t hn h W hE, fun W => by have c := rparse_any t hn W; rw [hl] at c; exact c⟩
    | some n =>
      have hlt := val_lt hn h
      by_cases he : told n = t
      · have hd : hexk 16 (bo n) = t.data.toList := by rw [← told_data, he]
        obtain ⟨r1, r2⟩ := hexk_read 16 (bo n) (by have := bo_lt hlt; show bo n < 16 ^ 16; omega)
        rw [hd] at r1 r2
        rw [h] at r2
        have e : n = bo n := by simpa using r2
        have hok : ¬ (nanB n = true ∧ n ≠ NANB) := by
          rintro ⟨h1, h2⟩
          apply h2
          have : bo n = NANB := if_pos h1
          omega
        exact ⟨n, 0, fun W hT _ => parse_same n t hn h he W hT, fun W => by have c := rparse_any t hn W; rw [r1, ← e, refP_ok hok] at c; exact c⟩
      · have hr : refP (lxv 0 t.data.toList) = .tuple #[.float .f64 0, .int .i64 6] := by
          cases hl : lxv 0 t.data.toList with
          | none => rfl
          | some b =>
            obtain ⟨v1, -, v3, -⟩ := lxv_val _ _ _ hl
            rw [h] at v1
            have e : n = b := by simpa using v1
            subst e
            rw [hlen] at v3
            have hb : bo n ≠ n := fun hb => he (told_of v3 hb)
            have h1 : nanB n = true := by
              cases hnan : nanB n
              · exact absurd (show bo n = n by unfold bo; rw [hnan]; rfl) hb
              · rfl
            exact refP_no ⟨h1, fun e => hb (by unfold bo; rw [if_pos h1, e])⟩
        exact ⟨0, 6, fun W hT _ => parse_other t hn n h he W hT, fun W => by have c := rparse_any t hn W; rw [hr] at c; exact c⟩
  · exact ⟨0, 6, fun W _ _ => (parse_len t hn W).mono fun _ _ ⟨h1, h2⟩ => ⟨h1, h2 ▸ Below.refl _ _⟩, fun W => rparse_len t hn W⟩
theorem reads_any (t : ByteArray) (w : World) (hT : T64 w) (hE : ES w) : Calls Tryd.prog 4 #[.string t] w fun e w' => e = .returned (.bool true) ∧ Below w.heap.size w w' := by
  obtain ⟨v, k, c1, c2⟩ := reads_both t
  have H1 := Lib.hid (fun W => c1 W); have H2 := Lib.hid c2
  have HT := Lib.hid hT; have HE := Lib.hid hE
  clear c1 c2 hT hE
  go_enter Tryd.func4, Tryd.ntmps4
  go_wp2_with (first | (go_at_call 15; (with_reducible refine (H1.out _ HT.out HE.out).mono ?_); rintro e w2 ⟨rfl, hb⟩) | (go_at_call 16; (with_reducible refine (H2.out _).mono ?_); rintro e w' ⟨rfl, rfl⟩) | (go_at_call 17; (with_reducible refine (rsame_self _ _).mono ?_); rintro e w' ⟨rfl, rfl⟩) | (go_at_call 18; (with_reducible refine (gworks_any _).mono ?_); rintro e w' ⟨rfl, rfl⟩))
  go_ret
  exact ⟨rfl, hb⟩
end Go.Proofs.YtgdcahdnojaebaaDoor
/- strconv: FormatUint, AppendUint at base 10. -/
namespace Go.Proofs.YtgdcahdnojaebaaDoor
open Go.RowKit Go.Sort

/-- The table of powers of ten lies in memory as the program's text lays it. -/
def Tab (w : World) : Prop := Lib.TabIs Tryd.prog w "internal/strconv.uint64pow10" .u64 Lib.pow10Tab
theorem Tab.keep {w w' : World} (h : Tab w) (hb : Below w.heap.size w w') : Tab w' := Lib.tabBelow_of_tabIs h w' hb

set_option maxHeartbeats 4000000 in
set_option maxRecDepth 100000 in
theorem intFormatUint (u : Nat) (hu : u < 18446744073709551616) (w : World) (htab : Tab w) :
    Calls Tryd.prog 86 #[.int .u64 (u : Int), .int .i64 10] w fun e w' => e = .returned (.string ⟨(Lib.decDigits u).toArray⟩) ∧ Below w.heap.size w w' := by
  by_cases hs : u < 100
  · have C := Lib.hid (fun W => Tryd.internal_strconv_small u hs W)
    have i1 : (u : Int) < 100 := by omega
    go_enter Tryd.func86, Tryd.ntmps86
    go_wp2_with (go_at_call 123; refine (C.out _).mono ?_; rintro e w' ⟨rfl, rfl⟩)
    go_ret
    exact ⟨rfl, Below.refl _ _⟩
  · have hu1 : 1 ≤ u := by omega
    have i1 : ¬ (u : Int) < 100 := by omega
    have hnd20 : Lib.nDigits u ≤ 20 := by have := Lib.numDigits_eq u hu1 hu; split at this <;> omega
    have hal : Tryd.prog.arrayLen 142 = 24 := by kernel_rfl
    have hsl : ∀ W, (Instr.sliceAt 142 (.pointer (some ⟨w.heap.size, 0, none⟩)) none (some (.int .i64 (Lib.nDigits u : Int))) none).run Tryd.prog W = .ok (.slice (some ⟨w.heap.size, 0, none⟩) (Lib.nDigits u) 24) W := fun W => by
      rw [run_sliceAt_array_h W 142 ⟨w.heap.size, 0, none⟩ (by simp [Program.arrayLen, Program.elem, Tryd.underlying142]) .i64 (Lib.nDigits u : Int) (by omega) (by rw [hal]; omega)]
      go_simp
    have hH0 := Lib.holds_zero0 w 142 (Lib.nDigits u) (by omega)
    have hfmt := Tryd.internal_strconv_formatBase10 w.heap.size 0 24 u (Array.replicate (Lib.nDigits u) 0) (w.alloc (.cells Lib.zeros24 142)) hH0 (by rw [Array.size_replicate]; exact Lib.lt_pow_nDigits u) hu (by rw [Array.size_replicate]; omega)
    rw [Array.size_replicate] at hfmt
    have HH0 := Lib.hid hH0
    have HT := Lib.hid htab
    have HF := Lib.hid hfmt
    clear hH0 hal htab hfmt
    go_enter Tryd.func86, Tryd.ntmps86
    go_wp2_with (go_at_call 124; refine (Tryd.internal_strconv_numDigits u hu1 hu _ (Lib.tabIs_alloc HT.out _)).mono ?_; rintro e w' ⟨rfl, rfl⟩)
    refine HF.out.mono ?_
    rintro e w' ⟨rfl, k, v', dk, rfl, hF⟩
    have hcv : (convert 111 9 (.slice (some ⟨w.heap.size, 0, none⟩) (Lib.nDigits u) 24)).run Tryd.prog ((putRow (fun (b : UInt8) => Value.int .u8 (b.toNat : Int)) (w.alloc (.cells Lib.zeros24 142)) w.heap.size 0 dk).drewN k) = .ok (.string ⟨(Lib.decDigits u).toArray⟩) ((putRow (fun (b : UInt8) => Value.int .u8 (b.toNat : Int)) (w.alloc (.cells Lib.zeros24 142)) w.heap.size 0 dk).drewN k) := by
      have h := run_convert_bytes_back (P := Tryd.prog) ((putRow (fun (b : UInt8) => Value.int .u8 (b.toNat : Int)) (w.alloc (.cells Lib.zeros24 142)) w.heap.size 0 dk).drewN k) 111 9 5 ⟨w.heap.size, 0, none⟩ 24 (Lib.decDigits u) Tryd.underlying111 Tryd.underlying5 Tryd.underlying9 (fun j hj => by
        rw [Lib.row_is_numeral hF j hj, Lib.add_plain, World.cell?_drewN]
        exact cell?_putRow (fun (b : UInt8) => Value.int .u8 (b.toNat : Int)) _ w.heap.size 0 _ dk HH0.out (by rw [hF.size, Array.size_replicate]) j (by rw [hF.size]; rw [Lib.decDigits_length] at hj; exact hj))
      rw [Lib.decDigits_length] at h
      exact h
    obtain ⟨os, eo⟩ := Lib.fin_at w (.cells Lib.zeros24 142) dk k 0
    have HBel := Lib.hid (show Below w.heap.size w ((putRow (fun (b : UInt8) => Value.int .u8 (b.toNat : Int)) (w.alloc (.cells Lib.zeros24 142)) w.heap.size 0 dk).drewN k) by rw [eo]; exact Lib.below_grow w.heap.size w (Nat.le_refl _) k os)
    clear eo hF
    go_wp2_with fail
    go_ret
    exact ⟨rfl, HBel.out⟩
/-- strconv.FormatUint at base 10. -/
theorem formatUint_any (u : Nat) (hu : u < 18446744073709551616) (w : World) (htab : Tab w) :
    Calls Tryd.prog 59 #[.int .u64 (u : Int), .int .i64 10] w fun e w' => e = .returned (.string ⟨(Lib.decDigits u).toArray⟩) ∧ Below w.heap.size w w' := by
  have C := Lib.hid (fun W h => intFormatUint u hu W h)
  have HT := Lib.hid htab
  clear htab hu
  go_enter Tryd.func59, Tryd.ntmps59
  go_wp2_with fail
  refine (C.out _ HT.out).mono ?_
  rintro e w' ⟨rfl, hb⟩
  go_wp2_with fail
  go_ret
  exact ⟨rfl, hb⟩
/-- strconv.AppendUint at base 10: the digits behind what the slice holds. -/
theorem appendUint_any (B n u : Nat) (hu : u < 18446744073709551616) (sv : Value) (xs : List Value) (w : World) (hown : w.ownsRow B 5 1 sv n xs) (hBw : B ≤ w.heap.size) (hlim : n + 20 ≤ 140737488355328) (htab : Tab w) :
    Calls Tryd.prog 102 #[sv, .int .u64 (u : Int), .int .i64 10] w fun e w' => ∃ v', e = .returned v' ∧ w'.ownsRow B 5 1 v' (n + (Lib.decDigits u).length) (xs ++ Lib.byteCells (Lib.decDigits u)) ∧ Below B w w' := by
  have C := Lib.hid (Tryd.internal_strconv_AppendUint_10 B n u hu sv xs w hown hBw hlim htab)
  clear hown hBw hlim htab hu
  go_enter Tryd.func102, Tryd.ntmps102
  go_wp2_with fail
  refine C.out.mono ?_
  rintro e w' ⟨v', rfl, h1, h2, -⟩
  go_wp2_with fail
  go_ret
  exact ⟨_, rfl, h1, h2⟩
end Go.Proofs.YtgdcahdnojaebaaDoor
/- The row's last steps: a call that only makes new memory; the laid table. -/
namespace Go.Proofs.YtgdcahdnojaebaaDoor
open Go.ChangeShapes Go.WideShapes Go.ChangeAt Go.RowKit

theorem own : ownKnob Tryd.prog.godebug = none := by kernel_rfl
section
variable {H : Type} {enc : TypeId × Value → H} {P : Program}
/-- Plain data came in, and all that the call did is new memory. -/
theorem post_new {f : Func} {s : ChangeSpec} {apart fresh handsOn again : Bool} {W W' : World} {args : Array Value} {v : Value} {ds gs : List (DataW H)}
    (hW : DataW.Whole enc P f.params.toList s.vars apart W args.toList ds gs [])
    (hres : ∀ (b : Nat) (sp : Nat → Bool) (hd : Bool), DataW.TrodAll enc P W' b sp hd f.resultTypes.toList (v.resultList f.resultTypes.size) (s.fn H (ds ++ gs)).results [])
    (hargs : ∀ sp : Nat → Bool, DataW.TrodAll enc P W' 0 sp true f.params.toList args.toList (s.fn H (ds ++ gs)).args [])
    (hvars : ∀ sp : Nat → Bool, DataW.TrodVars enc P W' sp s.vars (s.fn H (ds ++ gs)).vars [])
    (hb : Below W.heap.size W W')
    (hok : ∀ (j : Nat) (t : TypeId) (r : Value), f.resultTypes[j]? = some t → (v.resultList f.resultTypes.size)[j]? = some r → Value.okWide P W' .any 0 t r) :
    s.post enc P f apart fresh handsOn again W args v W' := by
  have hk : W.keptBut W' (fun p => p ∈ ([] : List MemPlace)) := hb.frame _
  refine ⟨ds, gs, [], [], [], [], hW, hres _ _ _, hargs _, hvars _, World.keptBut_mono (fun p hp => by cases hp) hk, fun _ => ?_⟩
  refine ⟨hok, _, _, [], ⟨[], [], trodAll_append (hargs _) (hres _ _ _), hvars _, rfl, ?_, ?_⟩, ?_⟩
  · intro b off hp; cases hp
  · intro _; simp
  · intro p hp; cases hp
end

theorem gTab : Tryd.prog.globalNamed "internal/strconv.uint64pow10" = some 3 := by kernel_rfl
end Go.Proofs.YtgdcahdnojaebaaDoor
/- What the listed variables give; the start that meets them. -/
namespace Go.Proofs.YtgdcahdnojaebaaDoor
open Go.ChangeShapes Go.WideShapes Go.ChangeAt Go.RowKit

def laid3 : List (String × DataW Unit) := [("math/bits.deBruijn32tab", Rows.laid_math_bits_deBruijn32tab), ("math/bits.deBruijn64tab", Rows.laid_math_bits_deBruijn64tab), ("internal/strconv.uint64pow10", Rows.laid_internal_strconv_uint64pow10)]
set_option maxRecDepth 100000 in
theorem door_met (os : Os) (args : Array Value) : laidMetH Tryd.prog laid3 ((World.doorLaid Tryd.prog 4000 os).forCall (fun _ _ => 0) ⟨#[], args, []⟩).memory :=
  laidMetH_of_parts3 (fuel := 8) (laidMet_of_run' 8 (by kernel_rfl) (by kernel_rfl)) (by kernel_rfl) (by kernel_rfl)
theorem tTab : (Tryd.prog.globals[3]?).map (·.type) = some 160 := by kernel_rfl
theorem dTab : (Rows.laid_internal_strconv_uint64pow10 : DataW Unit) = Lib.tabData .u64 Lib.pow10Tab := by rfl
theorem cTab : Tryd.prog.cellsOf 160 = 20 := by kernel_rfl
theorem ceTab : Tryd.prog.cellsOf 71 = 1 := by kernel_rfl
theorem tab_of_laid {W : World} (h : laidMetH Tryd.prog laid3 W) : Tab W := by
  rw [MakeChecks.laidMetH_plain _ _ _ (by kernel_rfl)] at h
  obtain ⟨ps, ⟨g0, t0, cs0, f0, p0, q0, hg0, ht0, hv0, hd0, ⟨g1, t1, cs1, f1, p1, q1, hg1, ht1, hv1, hd1, ⟨g2, t2, cs2, f2, p2, q2, hg2, ht2, hv2, hd2, _, _⟩, _⟩, _⟩, _, _⟩ := h
  obtain rfl := Option.some.inj (gTab.symm.trans hg2)
  obtain rfl := Option.some.inj (tTab.symm.trans ht2)
  rw [dTab] at hd2
  show World.var? Tryd.prog W _ = _
  rw [hv2, ← Lib.cells_of_tab Tryd.underlying160 Tryd.underlying71 ceTab cTab hd2]
end Go.Proofs.YtgdcahdnojaebaaDoor
/- The plain wrap with the listed variables and the world's shape. -/
namespace Go.Proofs.YtgdcahdnojaebaaDoor
open Go.ChangeShapes Go.WideShapes Go.ChangeAt Go.RowKit

theorem handed_both {H : Type} {enc : TypeId × Value → H} {C : Checked} {os : Os} {f : FuncId} {fn : Func} {s : ChangeSpec} {apart fresh handsOn again : Bool} {X : World → Array Value → Prop}
    (hX : ∀ (w w' : World) (args : Array Value), w.heap = w'.heap → X w args → X w' args)
    (hown : ownKnob C.prog.godebug = none) (started : os.Started) (noInit : C.prog.inits.idxOf? f = none) (hfn : C.prog.funcs[f]? = some fn)
    (witness : ∃ (w : World) (tape : Tape) (i : Input), w.os = os ∧ (w.forCall tape i).Shaped C.prog ∧ i.vars = [] ∧ Input.okWide C.prog (w.forCall tape i) .any w.heap.size f i ∧
      ((s.pre enc C.prog fn [] apart (w.forCall tape i).memory i.args ∧ X (w.forCall tape i).memory i.args) ∧ sizedMet enc C.prog fn (OpenSpec.ofChange s) apart (w.forCall tape i).memory i.args) ∧ Assume.holds {} C.prog (lone (Frame.enter C.prog f i.args .normal) [] (w.forCall tape i)))
    (contract : ∀ (W : World) (base : Nat) (args : Array Value) (ds gs : List (DataW H)) (before : List MemPlace),
      (∀ (j : Nat) t v, fn.params[j]? = some t → args[j]? = some v → Value.okWide C.prog W .any base t v) →
      DataW.Whole enc C.prog fn.params.toList s.vars apart W args.toList ds gs before → X W args → W.ShapedOpen C.prog →
      Calls C.prog f args W fun e W' => ∃ v, e = .returned v ∧ s.post enc C.prog fn apart fresh handsOn again W args v W') :
    ReturnsInHanded {} C os f .any (fun w args => (s.pre enc C.prog fn [] apart w args ∧ X w args) ∧ sizedMet enc C.prog fn (OpenSpec.ofChange s) apart w args) (s.post enc C.prog fn apart fresh handsOn again) := by
  refine returnsInHanded_of_calls hown started noInit witness ?_
  intro w tape i _ hshape _ hin hp _
  obtain ⟨_, _, _, fn2, hfn2, _, _, _, _, hv⟩ := hin
  obtain rfl : fn2 = fn := Option.some.inj (hfn2.symm.trans hfn)
  obtain ⟨⟨⟨ds, gs, before, hwh, _⟩, hx⟩, _⟩ := hp
  refine (contract (w.forCall tape i) w.heap.size i.args ds gs before hv (DataW.Whole.of_heap (w' := w.forCall tape i) (by rfl) hwh) (hX _ _ _ (by rfl) hx) hshape).mono fun e W' ⟨v, he, hpost⟩ => ?_
  subst he
  exact ChangeSpec.post_blind hpost
end Go.Proofs.YtgdcahdnojaebaaDoor
