/- Contracts, in this order: Products, noughts without a sign, comparison bit by bit: wha -/
import Derived.Test.YtepnghhgmjobjaaTq01
import Derived.Test.YtepnghhgmjobjaaChecked
import Derived.WalkKit
import Derived.WalkLawsBesides
import Derived.Lib.Hide
import Derived.Laws.Cover3
import Derived.Laws.FloatArith
namespace Go.Proofs.Ytepnghhgmjobjaa
open Go Go.RowKit
namespace Tp
theorem mul_parts {a b c d re im : Nat} (h : cMulBits a b c d = some (re, im)) : ∃ ac bd ad bc, floatBits .mul .f64 a c = some ac ∧ floatBits .mul .f64 b d = some bd ∧ floatBits .sub .f64 ac bd = some re ∧ floatBits .mul .f64 a d = some ad ∧ floatBits .mul .f64 b c = some bc ∧ floatBits .add .f64 ad bc = some im := by
  unfold cMulBits at h
  cases h1 : floatBits .mul .f64 a c with
  | none => simp [h1] at h
  | some ac =>
  cases h2 : floatBits .mul .f64 b d with
  | none => simp [h1, h2] at h
  | some bd =>
  cases h3 : floatBits .sub .f64 ac bd with
  | none => simp [h1, h2, h3] at h
  | some x =>
  cases h4 : floatBits .mul .f64 a d with
  | none => simp [h1, h2, h3, h4] at h
  | some ad =>
  cases h5 : floatBits .mul .f64 b c with
  | none => simp [h1, h2, h3, h4, h5] at h
  | some bc =>
  cases h6 : floatBits .add .f64 ad bc with
  | none => simp [h1, h2, h3, h4, h5, h6] at h
  | some y =>
    simp [h1, h2, h3, h4, h5, h6] at h
    obtain ⟨rfl, rfl⟩ := h
    exact ⟨ac, bd, ad, bc, rfl, rfl, h3, rfl, rfl, h6⟩
set_option maxHeartbeats 1000000 in
theorem dtimes_any {a b c d re im : Nat} (h : mulC (a, b) (c, d) = some (re, im)) (w : World) :
    Calls Try.prog 83 #[.complex .f64 a b, .complex .f64 c d] w fun e w' => e = .returned (.complex .f64 re im) ∧ w = w' := by
  obtain ⟨ac, bd, ad, bc, h1, h2, h3, h4, h5, h6⟩ := mul_parts h
  have o1 : ∀ t w, (binOp .mul t (.float .f64 a) (.float .f64 c)).run Try.prog w = .ok (.float .f64 ac) w := fun t w => run_float_arith w .mul t .f64 _ _ _ h1
  have o2 : ∀ t w, (binOp .mul t (.float .f64 b) (.float .f64 d)).run Try.prog w = .ok (.float .f64 bd) w := fun t w => run_float_arith w .mul t .f64 _ _ _ h2
  have o3 : ∀ t w, (binOp .sub t (.float .f64 ac) (.float .f64 bd)).run Try.prog w = .ok (.float .f64 re) w := fun t w => run_float_arith w .sub t .f64 _ _ _ h3
  have o4 : ∀ t w, (binOp .mul t (.float .f64 a) (.float .f64 d)).run Try.prog w = .ok (.float .f64 ad) w := fun t w => run_float_arith w .mul t .f64 _ _ _ h4
  have o5 : ∀ t w, (binOp .mul t (.float .f64 b) (.float .f64 c)).run Try.prog w = .ok (.float .f64 bc) w := fun t w => run_float_arith w .mul t .f64 _ _ _ h5
  have o6 : ∀ t w, (binOp .add t (.float .f64 ad) (.float .f64 bc)).run Try.prog w = .ok (.float .f64 im) w := fun t w => run_float_arith w .add t .f64 _ _ _ h6
  clear h h1 h2 h3 h4 h5 h6
  go_enter Try.func83, Try.ntmps83
  go_wp2_with (simp only [o1, o2, o3, o4, o5, o6])
  go_ret
  exact ⟨rfl, rfl⟩
set_option maxHeartbeats 1000000 in
theorem rtimes_any {a b c d re im : Nat} (h : mulC (a, b) (c, d) = some (re, im)) (w : World) :
    Calls Try.prog 67 #[.complex .f64 a b, .complex .f64 c d] w fun e w' => e = .returned (.complex .f64 re im) ∧ w = w' := by
  obtain ⟨ac, bd, ad, bc, h1, h2, h3, h4, h5, h6⟩ := mul_parts h
  have o1 : ∀ t w, (binOp .mul t (.float .f64 a) (.float .f64 c)).run Try.prog w = .ok (.float .f64 ac) w := fun t w => run_float_arith w .mul t .f64 _ _ _ h1
  have o2 : ∀ t w, (binOp .mul t (.float .f64 b) (.float .f64 d)).run Try.prog w = .ok (.float .f64 bd) w := fun t w => run_float_arith w .mul t .f64 _ _ _ h2
  have o3 : ∀ t w, (binOp .sub t (.float .f64 ac) (.float .f64 bd)).run Try.prog w = .ok (.float .f64 re) w := fun t w => run_float_arith w .sub t .f64 _ _ _ h3
  have o4 : ∀ t w, (binOp .mul t (.float .f64 a) (.float .f64 d)).run Try.prog w = .ok (.float .f64 ad) w := fun t w => run_float_arith w .mul t .f64 _ _ _ h4
  have o5 : ∀ t w, (binOp .mul t (.float .f64 b) (.float .f64 c)).run Try.prog w = .ok (.float .f64 bc) w := fun t w => run_float_arith w .mul t .f64 _ _ _ h5
  have o6 : ∀ t w, (binOp .add t (.float .f64 ad) (.float .f64 bc)).run Try.prog w = .ok (.float .f64 im) w := fun t w => run_float_arith w .add t .f64 _ _ _ h6
  clear h h1 h2 h3 h4 h5 h6
  go_enter Try.func67, Try.ntmps67
  go_wp2_with (simp only [o1, o2, o3, o4, o5, o6])
  go_ret
  exact ⟨rfl, rfl⟩
def isZ (v : Nat) : Bool := FloatKind.f64.format.order v 0 == some .eq
def unsN (v : Nat) : Nat := if isZ v = true then 0 else v
theorem tunsigned_any (v : Nat) (w : World) : Calls Try.prog 65 #[.float .f64 v] w fun e w' => e = .returned (.float .f64 (unsN v)) ∧ w = w' := by
  cases hb : isZ v with
  | true =>
    have e : unsN v = 0 := by unfold unsN; rw [if_pos hb]
    rw [e]
    have hb' : (FloatKind.f64.format.order v 0 == some .eq) = true := hb
    go_enter Try.func65, Try.ntmps65
    go_wp2
    go_ret
    exact ⟨rfl, rfl⟩
  | false =>
    have e : unsN v = v := by unfold unsN; rw [hb]; rfl
    rw [e]
    have hb' : (FloatKind.f64.format.order v 0 == some .eq) = false := hb
    go_enter Try.func65, Try.ntmps65
    go_wp2
    go_ret
    exact ⟨rfl, rfl⟩
theorem runsigned_any (v : Nat) (w : World) : Calls Try.prog 68 #[.float .f64 v] w fun e w' => e = .returned (.float .f64 (unsN v)) ∧ w = w' := by
  cases hb : isZ v with
  | true =>
    have e : unsN v = 0 := by unfold unsN; rw [if_pos hb]
    rw [e]
    have hb' : (FloatKind.f64.format.order v 0 == some .eq) = true := hb
    go_enter Try.func68, Try.ntmps68
    go_wp2
    go_ret
    exact ⟨rfl, rfl⟩
  | false =>
    have e : unsN v = v := by unfold unsN; rw [hb]; rfl
    rw [e]
    have hb' : (FloatKind.f64.format.order v 0 == some .eq) = false := hb
    go_enter Try.func68, Try.ntmps68
    go_wp2
    go_ret
    exact ⟨rfl, rfl⟩
def nanC (v : Nat) : Bool := FloatKind.f64.format.order v v != some .eq
theorem isNaN7 (v : Nat) (w : World) : Calls Try.prog 45 #[.float .f64 v] w fun e w' => e = .returned (.bool (nanC v)) ∧ w = w' := by
  have h2 : (FloatKind.f64.format.order v v != some .eq) = nanC v := rfl
  go_enter Try.func45, Try.ntmps45
  go_wp2
  go_ret
  exact ⟨rfl, rfl⟩
set_option maxRecDepth 100000 in
theorem same3_self (v : Nat) (w : World) : Calls Try.prog 20 #[.float .f64 v, .float .f64 v] w fun e w' => e = .returned (.bool true) ∧ w = w' := by
  have HN := Lib.hid (fun w => isNaN7 v w)
  generalize nanC v = b at HN
  cases b with
  | true =>
    go_enter Try.func20, Try.ntmps20
    go_wp2_with (go_at_call 45; refine (HN.out _).mono ?_; rintro e w' ⟨rfl, rfl⟩)
    go_ret
    exact ⟨rfl, rfl⟩
  | false =>
    go_enter Try.func20, Try.ntmps20
    go_wp2_with (go_at_call 45; refine (HN.out _).mono ?_; rintro e w' ⟨rfl, rfl⟩)
    go_ret
    exact ⟨rfl, rfl⟩
set_option maxRecDepth 100000 in
theorem same_self (a b : Nat) (w : World) : Calls Try.prog 17 #[.complex .f64 a b, .complex .f64 a b] w fun e w' => e = .returned (.bool true) ∧ w = w' := by
  have H1 := Lib.hid (fun w => same3_self a w)
  have H2 := Lib.hid (fun w => same3_self b w)
  go_enter Try.func17, Try.ntmps17
  go_wp2_with (go_at_call 20; (first | with_reducible refine (H1.out _).mono ?_ | with_reducible refine (H2.out _).mono ?_); rintro e w' ⟨rfl, rfl⟩)
  go_ret
  exact ⟨rfl, rfl⟩
end Tp
end Go.Proofs.Ytepnghhgmjobjaa
