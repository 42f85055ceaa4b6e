/- package grain: samples; what package math asks of a float. -/
import Derived.Test.YtgdcahdnojaebaaFr
import Derived.Test.YtgdcahdnojaebaaChecked
import Derived.WalkKit
import Derived.WalkLawsBesides
import Derived.Lib.Hide
import Derived.Laws.Cover3
import Derived.Laws.FloatArith
import Derived.KernelRfl
namespace Go.Proofs.Ytgdcahdnojaebaa
open Go.RowKit Ieee Fl

@[go_sem] theorem call_bits (x : Nat) (w : World) : (callFunc 29 #[.float .f64 x]).run Try.prog w = .ok (.value (.int .u64 x)) w := by
  rw [run_callFunc_extern (e := Extern.MathFloatBits.float64bits) Try.func29 (by kernel_rfl) (by kernel_rfl) (by kernel_rfl) (by kernel_rfl)]; rfl
@[go_sem] theorem call_from (n : Int) (w : World) : (callFunc 41 #[.int .u64 n]).run Try.prog w = .ok (.value (.float .f64 n.toNat)) w := by
  rw [run_callFunc_extern (e := Extern.MathFloatBits.float64frombits) Try.func41 (by kernel_rfl) (by kernel_rfl) (by kernel_rfl) (by kernel_rfl)]; rfl

/-- Is the word a NaN? -/
def nanB (x : Nat) : Bool := decide (INF < rg x)
theorem nanB_no {x : Nat} (h : IsN x) : nanB x = false := decide_eq_false (by unfold IsN at h; omega)
theorem nanB_yes {x : Nat} (h : ¬ IsN x) : nanB x = true := decide_eq_true (by unfold IsN at h; omega)
theorem order_nan {x : Nat} (h : ¬ IsN x) (y : Nat) : double.order x y = none := by
  unfold Format.order
  rw [read_eq, if_neg (by unfold IsN INF at h; omega), if_neg (by unfold IsN INF at h; unfold INF; omega), if_neg (by unfold IsN at h; omega)]
  rfl
theorem order_self (x : Nat) : (double.order x x == some .eq) = !nanB x := by
  by_cases h : IsN x
  · rw [order_eq h h, nanB_no h]
    show (some (if sv x < sv x then Ordering.lt else if sv x = sv x then Ordering.eq else Ordering.gt) == some Ordering.eq) = true
    rw [if_neg (by omega), if_pos rfl]; rfl
  · rw [order_nan h, nanB_yes h]; rfl
theorem isNaN_any (x : Nat) (w : World) : Calls Try.prog 18 #[.float .f64 x] w fun e w' => e = .returned (.bool (nanB x)) ∧ w = w' := by
  have h1 := order_self x
  have h2 : (FloatKind.f64.format.order x x != some .eq) = nanB x := by
    show (!(double.order x x == some .eq)) = nanB x
    rw [h1]; simp
  clear h1
  go_enter Try.func18, Try.ntmps18
  go_wp2
  go_ret
  exact ⟨by first | rfl | rw [h2], rfl⟩

theorem isNaN_no {x : Nat} (h : IsN x) (w : World) : Calls Try.prog 18 #[.float .f64 x] w fun e w' => e = .returned (.bool false) ∧ w = w' := nanB_no h ▸ isNaN_any x w
theorem isNaN_yes {x : Nat} (h : ¬ IsN x) (w : World) : Calls Try.prog 18 #[.float .f64 x] w fun e w' => e = .returned (.bool true) ∧ w = w' := nanB_yes h ▸ isNaN_any x w
theorem lt_spell {x y : Nat} (hx : IsN x) (hy : IsN y) : (FloatKind.f64.format.order x y == some .lt) = decide (sv x < sv y) := by
  show (double.order x y == some .lt) = _
  rw [order_eq hx hy]
  show (some (if sv x < sv y then Ordering.lt else if sv x = sv y then Ordering.eq else Ordering.gt) == some Ordering.lt) = _
  by_cases h : sv x < sv y
  · simp [h]
  · by_cases h2 : sv x = sv y <;> simp [h, h2]
theorem gt_spell {x y : Nat} (hx : IsN x) (hy : IsN y) : (FloatKind.f64.format.order x y == some .gt) = decide (sv y < sv x) := by
  show (double.order x y == some .gt) = _
  rw [order_eq hx hy]
  show (some (if sv x < sv y then Ordering.lt else if sv x = sv y then Ordering.eq else Ordering.gt) == some Ordering.gt) = _
  by_cases h : sv x < sv y
  · have : ¬ sv y < sv x := by omega
    simp [h, this]
  · by_cases h2 : sv x = sv y
    · simp [h2]
    · have : sv y < sv x := by omega
      simp [h, h2, this]
theorem eq_spell {x y : Nat} (hx : IsN x) (hy : IsN y) : (FloatKind.f64.format.order x y == some .eq) = decide (sv x = sv y) := by
  show (double.order x y == some .eq) = _
  rw [order_eq hx hy]
  show (some (if sv x < sv y then Ordering.lt else if sv x = sv y then Ordering.eq else Ordering.gt) == some Ordering.eq) = _
  by_cases h : sv x < sv y
  · have : ¬ sv x = sv y := by omega
    simp [h, this]
  · by_cases h2 : sv x = sv y <;> simp [h2, h]
theorem isN_KM : IsN KM := by unfold IsN rg INF; decide

/-- The nearest sample of what is a number. -/
theorem sample_any (x : Nat) (hx : IsN x) (w : World) : Calls Try.prog 19 #[.float .f64 x] w fun e w' => e = .returned (.tuple #[.int .i16 (smp x), .bool (smpB x)]) ∧ w = w' := by
  have o1 : ∀ t w, (binOp .mul t (.float .f64 x) (.float .f64 4674736413210574848)).run Try.prog w = .ok (.float .f64 (s1 x)) w := fun t w => run_float_arith w .mul t .f64 x _ _ (mul_KL hx)
  have o2 : ∀ t w, (binOp .add t (.float .f64 (s1 x)) (.float .f64 4843621399236968448)).run Try.prog w = .ok (.float .f64 (s2 (s1 x))) w := fun t w => run_float_arith w .add t .f64 _ _ _ (add_KW (s1_num x))
  have o3 : ∀ t w, (binOp .sub t (.float .f64 (s2 (s1 x))) (.float .f64 4843621399236968448)).run Try.prog w = .ok (.float .f64 (near x)) w := fun t w => run_float_arith w .sub t .f64 _ _ _ (sub_KW (s2_num _))
  have nn := near_num x
  have g1 := gt_spell nn isN_KL
  have g2 := eq_spell nn isN_KL
  have g3 := lt_spell nn isN_KM
  have e1 : smp x = if sv KL ≤ sv (near x) then 32767 else if sv (near x) < sv KM then -32768 else tr (sv (near x)) := rfl
  have e2 : smpB x = if sv KL ≤ sv (near x) then false else if sv (near x) < sv KM then false else true := rfl
  unfold KL at g1 g2
  unfold KM at g3
  by_cases a : sv KL ≤ sv (near x)
  · have a1 : (FloatKind.f64.format.order (near x) 4674736413210574848 == some .gt || FloatKind.f64.format.order (near x) 4674736413210574848 == some .eq) = true := by
      unfold KL at a
      rw [g1, g2]; simp; omega
    rw [if_pos a] at e1 e2
    rw [e1, e2]
    clear g1 g2 g3 e1 e2 a
    go_enter Try.func19, Try.ntmps19
    go_wp2_with (first | (go_at_call 18; refine (isNaN_no hx _).mono ?_; rintro e w' ⟨rfl, rfl⟩) | simp only [o1, o2, o3])
    go_ret2
    exact ⟨rfl, rfl⟩
  · have a1 : (FloatKind.f64.format.order (near x) 4674736413210574848 == some .gt || FloatKind.f64.format.order (near x) 4674736413210574848 == some .eq) = false := by
      unfold KL at a
      rw [g1, g2]; simp; omega
    rw [if_neg a] at e1 e2
    by_cases b : sv (near x) < sv KM
    · have b1 : (FloatKind.f64.format.order (near x) 13898108450065350656 == some .lt) = true := by unfold KM at b; rw [g3]; simp [b]
      rw [if_pos b] at e1 e2
      rw [e1, e2]
      clear g1 g2 g3 e1 e2 a b
      go_enter Try.func19, Try.ntmps19
      go_wp2_with (first | (go_at_call 18; refine (isNaN_no hx _).mono ?_; rintro e w' ⟨rfl, rfl⟩) | simp only [o1, o2, o3])
      go_ret2
      exact ⟨rfl, rfl⟩
    · have b1 : (FloatKind.f64.format.order (near x) 13898108450065350656 == some .lt) = false := by unfold KM at b; rw [g3]; simp; omega
      rw [if_neg b] at e1 e2
      have hfin : FinW (near x) := by
        rcases fin_or nn with h | h
        · exact h
        · exfalso
          have hi := sv_inf h
          have hk : sv KL < V INF := (sv_fin (x := KL) (by unfold FinW rg INF; decide)).2
          have hm : -(V INF : Int) < sv KM := (sv_fin (x := KM) (by unfold FinW rg INF; decide)).1
          unfold sg at hi; split at hi <;> omega
      have hb := tr_bd (T := sv (near x)) (by omega) a
      have hc : ∀ w, (convert 22 28 (.float .f64 (near x))).run Try.prog w = .ok (.int .i16 (tr (sv (near x)))) w := fun w =>
        run_convert_float_int w _ _ .f64 .i16 _ _ (by kernel_rfl) Try.underlying28 (by
          unfold floatToIntVal
          rw [show FloatKind.f64.decode (near x) = double.read (near x) from rfl, toInt_eq hfin]
          show (if IntKind.i16.min ≤ tr (sv (near x)) ∧ tr (sv (near x)) ≤ IntKind.i16.max then some (tr (sv (near x))) else none) = _
          rw [if_pos ⟨hb.1, hb.2⟩])
      rw [e1, e2]
      clear g1 g2 g3 e1 e2 a b hb hfin
      go_enter Try.func19, Try.ntmps19
      go_wp2_with (first | (go_at_call 18; refine (isNaN_no hx _).mono ?_; rintro e w' ⟨rfl, rfl⟩) | simp only [o1, o2, o3, hc])
      go_ret2
      exact ⟨rfl, rfl⟩
end Go.Proofs.Ytgdcahdnojaebaa
