/- Contracts, in this order: Floats as whole numbers: rounding by rungs rises with what i · Floats as whole numbers of least units: what a word is worth · Samples: the three operations rise. · Samples rise with levels (plain). · package grain: samples; what package math asks of a float. · package math: Abs, IsInf. · package disc: what is no number comes of inf - inf. · The interpreter with floats that are no numbers: a product o -/
import Ieee.Arith
import Derived.Laws.FloatArith
import Derived.Test.YtjjbhadnakjhdaaGreatDoorChecked
import Derived.WalkKit
import Derived.WalkLawsBesides
import Derived.Lib.Hide
import Derived.Laws.Cover3
import Derived.KernelRfl
import Derived.Laws.BitsAllLaws
import Derived.Test.YtjjbhadnakjhdaaGreatDoorKdq07
import Derived.Test.YtjjbhadnakjhdaaGreatDoorKdq16
namespace Go.Proofs.YtjjbhadnakjhdaaGreatDoor
namespace Fl
open Ieee
def rne (n g : Nat) : Nat := n / g + (decide (g < 2 * (n % g)) || (g == 2 * (n % g) && n / g % 2 == 1)).toNat
def lastOf (m : Nat) (p : Int) : Int := max (p + m.log2 - 52) (-1074)
def kept (m : Nat) (p : Int) : Nat := rne (m * 2 ^ (p - lastOf m p).toNat) (2 ^ (lastOf m p - p).toNat)
def rung (m : Nat) (p : Int) : Nat := if m = 0 then 0 else min ((lastOf m p + 1074).toNat * 4503599627370496 + kept m p) 9218868437227405312
end Fl
end Go.Proofs.YtjjbhadnakjhdaaGreatDoor
namespace Go.Proofs.YtjjbhadnakjhdaaGreatDoor
namespace Fl
open Ieee
def V (r : Nat) : Nat := if r < 4503599627370496 then r else (4503599627370496 + r % 4503599627370496) * 2 ^ (r / 4503599627370496 - 1)
theorem V_lt {r s : Nat} (h : r < s) : V r < V s := by
  unfold V
  by_cases hr : r < 4503599627370496
  · rw [if_pos hr]
    by_cases hs : s < 4503599627370496
    · rw [if_pos hs]; exact h
    · rw [if_neg hs]
      have := Nat.le_mul_of_pos_right (4503599627370496 + s % 4503599627370496) (Nat.two_pow_pos (s / 4503599627370496 - 1))
      omega
  · rw [if_neg hr, if_neg (by omega)]
    by_cases hq : r / 4503599627370496 = s / 4503599627370496
    · rw [hq]; exact Nat.mul_lt_mul_of_pos_right (by omega) (Nat.two_pow_pos _)
    · have h1 : (4503599627370496 + r % 4503599627370496) * 2 ^ (r / 4503599627370496 - 1) < (4503599627370496 * 2) * 2 ^ (r / 4503599627370496 - 1) := Nat.mul_lt_mul_of_pos_right (by omega) (Nat.two_pow_pos _)
      rw [Nat.mul_assoc, ← Nat.pow_succ'] at h1
      have h2 : 4503599627370496 * 2 ^ (r / 4503599627370496 - 1 + 1) ≤ 4503599627370496 * 2 ^ (s / 4503599627370496 - 1) := Nat.mul_le_mul_left _ (Nat.pow_le_pow_right (by omega) (by omega))
      have h3 := Nat.mul_le_mul_right (2 ^ (s / 4503599627370496 - 1)) (Nat.le_add_right 4503599627370496 (s % 4503599627370496))
      omega
def INF : Nat := 9218868437227405312
def rg (x : Nat) : Nat := x % 9223372036854775808
def ngb (x : Nat) : Bool := x / 9223372036854775808 % 2 == 1
def IsN (x : Nat) : Prop := rg x ≤ INF
def FinW (x : Nat) : Prop := rg x < INF
def sg (s : Bool) (m : Nat) : Int := if s then -(m : Int) else m
def sv (x : Nat) : Int := sg (ngb x) (V (rg x))
def wd (s : Bool) (r : Nat) : Nat := if s then 9223372036854775808 + r else r
theorem read_eq (x : Nat) : double.read x = (if rg x < 4503599627370496 then .number (ngb x) (rg x) (-1074)
    else if rg x < INF then .number (ngb x) (4503599627370496 + rg x % 4503599627370496) (-1074 + (rg x / 4503599627370496 - 1 : Nat))
    else if rg x = INF then .infinity (ngb x) else .nan (ngb x) (rg x - INF)) := by
  unfold Format.read
  have e1 : double.leastPlace = -1074 := by decide
  have e2 : double.binade = 4503599627370496 := by decide
  have e3 : double.infRung = INF := by decide
  have e4 : double.signWeight = 9223372036854775808 := by decide
  simp only [e1, e2, e3, e4]
  rfl
theorem read_num {x : Nat} (h : FinW x) : ∃ m e : Nat, double.read x = .number (ngb x) m (-1074 + e) ∧ m * 2 ^ e = V (rg x) := by
  unfold FinW at h
  rw [read_eq]
  unfold V
  by_cases h1 : rg x < 4503599627370496
  · rw [if_pos h1, if_pos h1]; exact ⟨rg x, 0, rfl, by simp⟩
  · rw [if_neg h1, if_neg h1, if_pos h]; exact ⟨_, _, rfl, rfl⟩
theorem read_inf {x : Nat} (h : rg x = INF) : double.read x = .infinity (ngb x) := by
  rw [read_eq, h, if_neg (by unfold INF; omega), if_neg (by omega), if_pos rfl]
theorem fin_or {x : Nat} (h : IsN x) : FinW x ∨ rg x = INF := by unfold IsN at h; unfold FinW; omega
theorem signed_eq (s : Bool) (m k : Nat) : signed s m k = sg s m * (2 ^ k : Nat) := by
  unfold signed sg
  rw [Nat.shiftLeft_eq]
  cases s <;> simp [Int.neg_mul]
theorem sg_mul (s : Bool) (m k : Nat) : sg s m * (k : Int) = sg s (m * k) := by
  unfold sg; cases s <;> simp [Int.neg_mul]
theorem pow_pos (k : Nat) : (0 : Int) < (2 ^ k : Nat) := by have := Nat.two_pow_pos k; omega
theorem cmp_mul (a b : Int) {k : Int} (hk : 0 < k) : compare (a * k) (b * k) = compare a b := by
  have h1 : (a * k < b * k) ↔ a < b := ⟨fun h => Int.lt_of_mul_lt_mul_right h (Int.le_of_lt hk), fun h => Int.mul_lt_mul_of_pos_right h hk⟩
  have h2 : (a * k = b * k) ↔ a = b := ⟨fun h => Int.eq_of_mul_eq_mul_right (by omega) h, fun h => by rw [h]⟩
  show (if a * k < b * k then Ordering.lt else if a * k = b * k then Ordering.eq else Ordering.gt) = (if a < b then Ordering.lt else if a = b then Ordering.eq else Ordering.gt)
  simp only [h1, h2]
theorem V_fin {x : Nat} (h : FinW x) : V (rg x) < V INF := V_lt h
theorem sv_fin {x : Nat} (h : FinW x) : -(V INF : Int) < sv x ∧ sv x < V INF := by
  have := V_fin h; unfold sv sg; split <;> omega
theorem sv_inf {x : Nat} (h : rg x = INF) : sv x = sg (ngb x) (V INF) := by unfold sv; rw [h]
theorem V_inf_pos : 0 < V INF := V_lt (r := 0) (by unfold INF; omega)
theorem order_eq {x y : Nat} (hx : IsN x) (hy : IsN y) : double.order x y = some (compare (sv x) (sv y)) := by
  unfold Format.order
  have hp := V_inf_pos
  rcases fin_or hx with fx | ix <;> rcases fin_or hy with fy | iy
  · obtain ⟨m, e, hm, em⟩ := read_num fx
    obtain ⟨n, i, hn, en⟩ := read_num fy
    rw [hm, hn]
    show some (compare (signed _ _ _) (signed _ _ _)) = _
    rw [signed_eq, signed_eq]
    unfold sv
    rw [← em, ← en, ← sg_mul, ← sg_mul]
    rcases Nat.le_total e i with h | h
    · rw [show min (-1074 + (e : Int)) (-1074 + i) = -1074 + e by omega, show (-1074 + (e : Int) - (-1074 + e)).toNat = 0 by omega, show (-1074 + (i : Int) - (-1074 + e)).toNat = i - e by omega]
      rw [← cmp_mul _ _ (pow_pos e), Int.mul_assoc, Int.mul_assoc, ← Int.natCast_mul, ← Int.natCast_mul, ← Nat.pow_add, ← Nat.pow_add, show 0 + e = e by omega, show i - e + e = i by omega]
    · rw [show min (-1074 + (e : Int)) (-1074 + i) = -1074 + i by omega, show (-1074 + (i : Int) - (-1074 + i)).toNat = 0 by omega, show (-1074 + (e : Int) - (-1074 + i)).toNat = e - i by omega]
      rw [← cmp_mul _ _ (pow_pos i), Int.mul_assoc, Int.mul_assoc, ← Int.natCast_mul, ← Int.natCast_mul, ← Nat.pow_add, ← Nat.pow_add, show 0 + i = i by omega, show e - i + i = e by omega]
  · obtain ⟨m, e, hm, em⟩ := read_num fx
    have := sv_fin fx
    rw [hm, read_inf iy, sv_inf iy]
    show some (if ngb y then Ordering.gt else Ordering.lt) = some (if sv x < sg (ngb y) (V INF) then Ordering.lt else if sv x = sg (ngb y) (V INF) then Ordering.eq else Ordering.gt)
    unfold sg
    cases ngb y
    · rw [if_neg (by simp), if_pos (by simp; omega)]
    · rw [if_pos rfl, if_neg (by simp; omega), if_neg (by simp; omega)]
  · obtain ⟨m, e, hm, em⟩ := read_num fy
    have := sv_fin fy
    rw [hm, read_inf ix, sv_inf ix]
    show some (if ngb x then Ordering.lt else Ordering.gt) = some (if sg (ngb x) (V INF) < sv y then Ordering.lt else if sg (ngb x) (V INF) = sv y then Ordering.eq else Ordering.gt)
    unfold sg
    cases ngb x
    · rw [if_neg (by simp), if_neg (by simp; omega), if_neg (by simp; omega)]
    · rw [if_pos rfl, if_pos (by simp; omega)]
  · rw [read_inf ix, read_inf iy, sv_inf ix, sv_inf iy]
    show some (compare (ngb y).toNat (ngb x).toNat) = some (if sg (ngb x) (V INF) < sg (ngb y) (V INF) then Ordering.lt else if sg (ngb x) (V INF) = sg (ngb y) (V INF) then Ordering.eq else Ordering.gt)
    unfold sg
    cases ngb x <;> cases ngb y <;> simp
    · rw [if_neg (by omega), if_neg (by omega)]; rfl
    · rw [if_pos (by omega)]; rfl
def sumS (s t : Bool) (T : Int) : Bool := if T = 0 then s && t else decide (T < 0)
end Fl
end Go.Proofs.YtjjbhadnakjhdaaGreatDoor
namespace Go.Proofs.YtjjbhadnakjhdaaGreatDoor
namespace Fl
open Ieee
def KL : Nat := 4674736413210574848
def KW : Nat := 4843621399236968448
def s1 (x : Nat) : Nat := wd (ngb x) (rung (V (rg x)) (-1059))
def s2 (x : Nat) : Nat := if rg x = INF then wd (ngb x) INF else wd (sumS (ngb x) (ngb KW) (sv x + sv KW)) (rung (sv x + sv KW).natAbs (-1074))
def s3 (x : Nat) : Nat := if rg x = INF then wd (ngb x) INF else wd (sumS (ngb x) (!ngb KW) (sv x - sv KW)) (rung (sv x - sv KW).natAbs (-1074))
def E74 : Nat := 1074
def P74 : Nat := 2 ^ E74
def tr (T : Int) : Int := sg (decide (T < 0)) (T.natAbs / P74)
end Fl
end Go.Proofs.YtjjbhadnakjhdaaGreatDoor
namespace Go.Proofs.YtjjbhadnakjhdaaGreatDoor
namespace Fl
open Ieee
end Fl
end Go.Proofs.YtjjbhadnakjhdaaGreatDoor
namespace Go.Proofs.YtjjbhadnakjhdaaGreatDoor
open Go.RowKit Ieee Fl
@[go_sem] theorem call_bits (x : Nat) (w : World) : (callFunc 158 #[.float .f64 x]).run Tryz.prog w = .ok (.value (.int .u64 x)) w := by
  rw [run_callFunc_extern (e := Extern.MathFloatBits.float64bits) Tryz.func158 (by kernel_rfl) (by kernel_rfl) (by kernel_rfl) (by kernel_rfl)]; rfl
@[go_sem] theorem call_from (n : Int) (w : World) : (callFunc 26 #[.int .u64 n]).run Tryz.prog w = .ok (.value (.float .f64 n.toNat)) w := by
  rw [run_callFunc_extern (e := Extern.MathFloatBits.float64frombits) Tryz.func26 (by kernel_rfl) (by kernel_rfl) (by kernel_rfl) (by kernel_rfl)]; rfl
def nanB (x : Nat) : Bool := decide (INF < rg x)
theorem nanB_no {x : Nat} (h : IsN x) : nanB x = false := decide_eq_false (by unfold IsN at h; omega)
theorem nanB_yes {x : Nat} (h : ¬ IsN x) : nanB x = true := decide_eq_true (by unfold IsN at h; omega)
theorem order_nan {x : Nat} (h : ¬ IsN x) (y : Nat) : double.order x y = none := by
  unfold Format.order
  rw [read_eq, if_neg (by unfold IsN INF at h; omega), if_neg (by unfold IsN INF at h; unfold INF; omega), if_neg (by unfold IsN at h; omega)]
  rfl
theorem order_self (x : Nat) : (double.order x x == some .eq) = !nanB x := by
  by_cases h : IsN x
  · rw [order_eq h h, nanB_no h]
    show (some (if sv x < sv x then Ordering.lt else if sv x = sv x then Ordering.eq else Ordering.gt) == some Ordering.eq) = true
    rw [if_neg (by omega), if_pos rfl]; rfl
  · rw [order_nan h, nanB_yes h]; rfl
theorem isNaN_any (x : Nat) (w : World) : Calls Tryz.prog 156 #[.float .f64 x] w fun e w' => e = .returned (.bool (nanB x)) ∧ w = w' := by
  have h1 := order_self x
  have h2 : (FloatKind.f64.format.order x x != some .eq) = nanB x := by
    show (!(double.order x x == some .eq)) = nanB x
    rw [h1]; simp
  clear h1
  go_enter Tryz.func156, Tryz.ntmps156
  go_wp2
  go_ret
  exact ⟨by first | rfl | rw [h2], rfl⟩
theorem isNaN_yes {x : Nat} (h : ¬ IsN x) (w : World) : Calls Tryz.prog 156 #[.float .f64 x] w fun e w' => e = .returned (.bool true) ∧ w = w' := nanB_yes h ▸ isNaN_any x w
theorem gt_spell {x y : Nat} (hx : IsN x) (hy : IsN y) : (FloatKind.f64.format.order x y == some .gt) = decide (sv y < sv x) := by
  show (double.order x y == some .gt) = _
  rw [order_eq hx hy]
  show (some (if sv x < sv y then Ordering.lt else if sv x = sv y then Ordering.eq else Ordering.gt) == some Ordering.gt) = _
  by_cases h : sv x < sv y
  · have : ¬ sv y < sv x := by omega
    simp [h, this]
  · by_cases h2 : sv x = sv y
    · simp [h2]
    · have : sv y < sv x := by omega
      simp [h, h2, this]
end Go.Proofs.YtjjbhadnakjhdaaGreatDoor
namespace Go.Proofs.YtjjbhadnakjhdaaGreatDoor
open Go.RowKit Ieee Fl
theorem abs_bits (x : Nat) (hx : x < 18446744073709551616) : bits .andNot .u64 (x : Int) 9223372036854775808 = (rg x : Int) := by
  have h := u64_andNot_nat x 9223372036854775808 hx (by omega)
  rw [show ((9223372036854775808 : Nat) : Int) = 9223372036854775808 from rfl] at h
  rw [h, show 18446744073709551615 - 9223372036854775808 = 2 ^ 63 - 1 by decide, Nat.and_two_pow_sub_one_eq_mod]
  rfl
theorem abs_any (x : Nat) (hx : x < 18446744073709551616) (w : World) : Calls Tryz.prog 165 #[.float .f64 x] w fun e w' => e = .returned (.float .f64 (rg x)) ∧ w = w' := by
  have hb := abs_bits x hx
  have ht : ((rg x : Nat) : Int).toNat = rg x := Int.toNat_natCast _
  go_enter Tryz.func165, Tryz.ntmps165
  go_wp2
  go_ret
  exact ⟨rfl, rfl⟩
theorem rg_lt (x : Nat) : rg x < 9223372036854775808 := by unfold rg; omega
theorem rg_rg (x : Nat) : rg (rg x) = rg x := by unfold rg; omega
theorem ngb_rg (x : Nat) : ngb (rg x) = false := by have := rg_lt x; unfold ngb; simp; omega
theorem sv_rg (x : Nat) : sv (rg x) = V (rg x) := by unfold sv sg; rw [ngb_rg, rg_rg]; rfl
def MAXF : Nat := 9218868437227405311
theorem sv_MAXF : sv MAXF = V (INF - 1) := by
  unfold sv sg; rw [show ngb MAXF = false by decide, show rg MAXF = INF - 1 by decide]; rfl
theorem isInf_inf {x : Nat} (hx : x < 18446744073709551616) (h : rg x = INF) (w : World) : Calls Tryz.prog 155 #[.float .f64 x, .int .i64 0] w fun e w' => e = .returned (.bool true) ∧ w = w' := by
  have g := gt_spell (x := rg x) (y := MAXF) (by unfold IsN; rw [rg_rg, h]; exact Nat.le_refl _) (by unfold IsN; decide)
  have hd : sv MAXF < sv (rg x) := by
    rw [sv_MAXF, sv_rg, h]
    have := V_lt (r := INF - 1) (s := INF) (by unfold INF; omega)
    omega
  rw [decide_eq_true hd] at g
  unfold MAXF at g
  clear hd
  go_enter Tryz.func155, Tryz.ntmps155
  go_wp2_with (go_at_call 165; refine (abs_any x hx _).mono ?_; rintro e w' ⟨rfl, rfl⟩)
  go_ret
  exact ⟨rfl, rfl⟩
theorem isInf_nan {x : Nat} (hx : x < 18446744073709551616) (h : ¬ IsN x) (w : World) : Calls Tryz.prog 155 #[.float .f64 x, .int .i64 0] w fun e w' => e = .returned (.bool false) ∧ w = w' := by
  have g : (FloatKind.f64.format.order (rg x) 9218868437227405311 == some .gt) = false := by
    show (double.order (rg x) _ == some .gt) = false
    rw [order_nan (x := rg x) (by unfold IsN at *; rw [rg_rg]; exact h)]; rfl
  go_enter Tryz.func155, Tryz.ntmps155
  go_wp2_with (go_at_call 165; refine (abs_any x hx _).mono ?_; rintro e w' ⟨rfl, rfl⟩)
  go_ret
  exact ⟨rfl, rfl⟩
end Go.Proofs.YtjjbhadnakjhdaaGreatDoor
namespace Go.Proofs.YtjjbhadnakjhdaaGreatDoor
open Go.RowKit Ieee Fl
def NaNW (x : Nat) : Prop := x < 18446744073709551616 ∧ ¬ IsN x
theorem nan_word (t : Nat) : NaNW (t % 2 * 9223372036854775808 + 9218868437227405312 + 1 + t / 2 % 4503599627370495) := by
  unfold NaNW IsN rg INF
  have h1 : t % 2 < 2 := Nat.mod_lt _ (by decide)
  have h2 : t / 2 % 4503599627370495 < 4503599627370495 := Nat.mod_lt _ (by decide)
  generalize t % 2 = a at *
  generalize t / 2 % 4503599627370495 = b at *
  refine ⟨by omega, ?_⟩
  have : (a * 9223372036854775808 + 9218868437227405312 + 1 + b) % 9223372036854775808 = 9218868437227405312 + 1 + b := by
    rw [Nat.add_assoc, Nat.add_assoc, Nat.add_comm, Nat.add_mul_mod_self_right]
    omega
  omega
theorem order_swap_nan {x : Nat} (h : ¬ IsN x) (y : Nat) : double.order y x = none := by
  unfold Format.order
  rw [read_eq x, if_neg (by unfold IsN INF at h; omega), if_neg (by unfold IsN INF at h; unfold INF; omega), if_neg (by unfold IsN at h; omega)]
  cases double.read y <;> rfl
theorem max_nan' {x : Nat} (hx : NaNW x) (w : World) : ∃ y : Nat, (∀ ats ty, (Builtin.max_ ats ty #[.float .f64 9218868437227405312, .float .f64 x]).run Tryz.prog w = .ok (.float .f64 y) w.drew) ∧ NaNW y := by
  have h : FloatKind.f64.format.order 9218868437227405312 x = none := order_swap_nan hx.2 9218868437227405312
  refine ⟨_, fun ats ty => ?_, nan_word (w.tape w.drawn (.nanMinMax .f64 true 9218868437227405312 x))⟩
  simp [Builtin.max_, Builtin.max2, h, Question.forced, Question.cut]
theorem isFin_inf (w : World) : Calls Tryz.prog 174 #[.float .f64 9218868437227405312] w fun e w' => e = .returned (.bool false) ∧ w = w' := by
  have H := Lib.hid (fun W => isInf_inf (x := 9218868437227405312) (by decide) (by decide) W)
  go_enter Tryz.func174, Tryz.ntmps174
  go_wp2_with (go_at_call 155; refine (H.out _).mono ?_; rintro e w' ⟨rfl, rfl⟩)
  go_ret
  exact ⟨rfl, rfl⟩
theorem gAdd_nan (w : World) : Calls Tryz.prog 177 #[.float .f64 9218868437227405312, .float .f64 18442240474082181120] w fun e w' => ∃ x, e = .returned (.tuple #[.float .f64 x, .float .f64 x]) ∧ NaNW x ∧ Drew w w' := by
  have H := Lib.hid (fun W => isFin_inf W)
  obtain ⟨x, hx⟩ : ∃ x : Nat, ∀ t, (binOp .add t (.float .f64 9218868437227405312) (.float .f64 18442240474082181120)).run Tryz.prog w = .ok (.float .f64 x) w.drew ∧ NaNW x := by
    have h : FloatKind.f64.format.add 9218868437227405312 18442240474082181120 = none := by decide +kernel
    exact ⟨_, fun t => ⟨by simp [binOp, Op.floatArith, h, Question.forced, Question.cut], nan_word (w.tape w.drawn (.nanBits .f64 9218868437227405312 18442240474082181120))⟩⟩
  have o1 := fun t => (hx t).1
  have HX := Lib.hid (hx 0).2
  clear hx
  go_enter Tryz.func177, Tryz.ntmps177
  go_wp2_with (go_at_call 174; refine (H.out _).mono ?_; rintro e w' ⟨rfl, rfl⟩)
  go_ret2
  exact ⟨x, rfl, HX.out, ⟨1, rfl⟩⟩
theorem gAdd_inf (w : World) : Calls Tryz.prog 177 #[.float .f64 9218868437227405312, .float .f64 18442240474082181119] w fun e w' => e = .returned (.tuple #[.float .f64 9218868437227405312, .float .f64 9218868437227405312]) ∧ w = w' := by
  have H := Lib.hid (fun W => isFin_inf W)
  have o1 : ∀ t w, (binOp .add t (.float .f64 9218868437227405312) (.float .f64 18442240474082181119)).run Tryz.prog w = .ok (.float .f64 9218868437227405312) w := fun t w => run_float_arith w .add t .f64 _ _ _ (by decide +kernel)
  go_enter Tryz.func177, Tryz.ntmps177
  go_wp2_with (go_at_call 174; refine (H.out _).mono ?_; rintro e w' ⟨rfl, rfl⟩)
  go_ret2
  exact ⟨rfl, rfl⟩
theorem sumUp_nan (w : World) : Calls Tryz.prog 94 #[.float .f64 9218868437227405312, .float .f64 18442240474082181120] w fun e w' => ∃ x, e = .returned (.float .f64 x) ∧ NaNW x ∧ Drew w w' := by
  have H := Lib.hid (fun W => gAdd_nan W)
  go_enter Tryz.func94, Tryz.ntmps94
  go_wp2_with (go_at_call 177; refine (H.out _).mono ?_; rintro e w' ⟨x, rfl, hx, hw⟩)
  go_ret
  exact ⟨x, rfl, hx, hw⟩
theorem sumUp_inf (w : World) : Calls Tryz.prog 94 #[.float .f64 9218868437227405312, .float .f64 18442240474082181119] w fun e w' => e = .returned (.float .f64 9218868437227405312) ∧ w = w' := by
  have H := Lib.hid (fun W => gAdd_inf W)
  go_enter Tryz.func94, Tryz.ntmps94
  go_wp2_with (go_at_call 177; refine (H.out _).mono ?_; rintro e w' ⟨rfl, rfl⟩)
  go_ret
  exact ⟨rfl, rfl⟩
theorem disFin_nan {x : Nat} (hx : NaNW x) (w : World) : Calls Tryz.prog 96 #[.float .f64 x] w fun e w' => e = .returned (.bool false) ∧ w = w' := by
  have H := Lib.hid (fun W => isInf_nan hx.1 hx.2 W)
  have J := Lib.hid (fun W => isNaN_yes hx.2 W)
  clear hx
  go_enter Tryz.func96, Tryz.ntmps96
  go_wp2_with (first | (go_at_call 155; refine (H.out _).mono ?_; rintro e w' ⟨rfl, rfl⟩) | (go_at_call 156; refine (J.out _).mono ?_; rintro e w' ⟨rfl, rfl⟩))
  go_ret
  exact ⟨rfl, rfl⟩
theorem farthest_nan (w : World) : Calls Tryz.prog 179 #[.float .f64 9218868437227405312, .float .f64 9218868437227405311, .float .f64 9218868437227405312] w fun e w' => ∃ x, e = .returned (.float .f64 x) ∧ NaNW x ∧ Drew w w' := by
  have H := Lib.hid (fun W => sumUp_nan W)
  have J := Lib.hid (fun W => sumUp_inf W)
  have u1 : ∀ w, (Op.unary UnOp.neg (.float .f64 9218868437227405311)).run Tryz.prog w = .ok (.float .f64 18442240474082181119) w := fun w => by kernel_rfl
  have u2 : ∀ w, (Op.unary UnOp.neg (.float .f64 9218868437227405312)).run Tryz.prog w = .ok (.float .f64 18442240474082181120) w := fun w => by kernel_rfl
  go_enter Tryz.func179, Tryz.ntmps179
  go_wp2_with (first
    | (go_at_call 94; with_reducible refine (J.out _).mono ?_; rintro e w' ⟨rfl, rfl⟩)
    | (go_at_call 94; with_reducible refine (H.out _).mono ?_; rintro e w1 ⟨x, rfl, hx, hw⟩; obtain ⟨y, hy, hyn⟩ : ∃ y : Nat, (∀ ats ty, (Builtin.max_ ats ty #[.float .f64 9218868437227405312, .float .f64 x]).run Tryz.prog w1 = .ok (.float .f64 y) w1.drew) ∧ NaNW y := max_nan' hx w1))
  go_ret
  exact ⟨y, rfl, hyn, hw.drewN 1⟩
end Go.Proofs.YtjjbhadnakjhdaaGreatDoor
namespace Go.Proofs.YtjjbhadnakjhdaaGreatDoor
open Go Go.RowKit
namespace Ev
set_option maxRecDepth 100000
noncomputable def nanSig : Sig Unit where
  holds _ _ v := ∃ x, v = .float .f64 x ∧ NaNW x
  hid _ := false
  G := Tryz.prog.globals.size
  base := Tab
  baseS := natSig.baseS
  stable := fun _ _ _ _ h _ => h
noncomputable def nanCfg : Cfg Unit where
  hid _ := false
  G := Tryz.prog.globals.size
  tab f := Tryz.prog.funcs[f]?
  len _ := none
  hard _ _ := fail
instance nanHard : HardLoc nanCfg := ⟨fun _ _ => loc_fail⟩
theorem nanFits : Fits nanSig Tryz.prog nanCfg where
  hid := rfl
  G := rfl
  len := fun _ _ _ _ _ e => by cases e
  tab := natFits.tab
  mixed := natFits.mixed
  hard := fun o vs h nx x h' nx' R W _ e => by cases (show (fail : M Unit Nxt) h nx = _ from e)
noncomputable def farS (args : List Value) : Option (M Unit Value) := cond (eqL eqV [.float .f64 9218868437227405312, .float .f64 9218868437227405311, .float .f64 9218868437227405312] args) (some (newFact ())) none
theorem sum_far : SumF nanSig Tryz.prog 179 farS := by
  intro args m e
  unfold farS at e
  cases hk : eqL eqV [.float .f64 9218868437227405312, .float .f64 9218868437227405311, .float .f64 9218868437227405312] args with
  | false => rw [hk] at e; cases e
  | true =>
    rw [hk] at e
    cases e
    obtain rfl := eqL_ok eqV_ok hk
    refine ⟨loc_newFact _, ?_⟩
    intro h nx v h' nx' R W e r w args' ha hM hN
    obtain rfl := VsR_eq (by rfl) ha
    obtain ⟨i, h1, nx1, R1, W1, R2, W2, e1, e2, rfl, rfl⟩ := bind_ok e
    obtain ⟨rfl, rfl, rfl, rfl⟩ := ret_ok e2
    unfold fresh at e1
    cases e1
    refine (farthest_nan w).mono ?_
    rintro en w' ⟨x, rfl, hx, hw⟩
    obtain ⟨r', hX, hr⟩ := ext_fact (S := nanSig) (f := ()) (v' := .float .f64 x) hM (hw.below _) hN ⟨x, rfl, hx⟩ rfl
    exact ⟨_, r', rfl, .opq hr rfl, by simpa using hX.congr fun n => .inr (Tr.get_set _ _ _ _)⟩
noncomputable def finS (args : List Value) : Option (M Unit Value) := match args with
  | [a] => match a with
    | .chan i => some (bind (fact (.chan i)) fun _ => ret (.bool false))
    | _ => none
  | _ => none
theorem sum_fin : SumF nanSig Tryz.prog 96 finS := by
  intro args m e
  unfold finS at e
  rcases args with _ | ⟨a, _ | ⟨c, l⟩⟩ <;> simp only [reduceCtorEq] at e
  cases a <;> simp only [reduceCtorEq] at e
  rename_i i
  cases e
  refine ⟨loc_bind (loc_fact _) fun _ => loc_ret _, ?_⟩
  intro h nx v h' nx' R W e r w args' ha hM hN
  cases ha with
  | cons h1 h2 =>
    cases h2
    obtain ⟨f, g1, nx1, R1, W1, R2, W2, e1, e2, rfl, rfl⟩ := bind_ok e
    obtain ⟨rfl, rfl, rfl, hf⟩ := fact_ok e1 h1 hM
    obtain ⟨rfl, rfl, rfl, rfl⟩ := ret_ok e2
    obtain ⟨x, rfl, hx⟩ := hf
    refine (disFin_nan hx w).mono ?_
    rintro en w' ⟨rfl, rfl⟩
    exact ⟨_, r, rfl, .same rfl, by simpa using Ext.refl _ _ hM⟩
noncomputable def nanList : List (Nat × (List Value → Option (M Unit Value))) := [(179, farS), (96, finS)]
theorem nanList_ok : ∀ x ∈ nanList, SumF nanSig Tryz.prog x.1 x.2 := by
  unfold nanList
  intro x hx
  simp only [List.mem_cons, List.not_mem_nil, or_false] at hx
  rcases hx with rfl | rfl
  · exact sum_far
  · exact sum_fin
noncomputable def nanSums : Sums Unit := sumsOf (mkTab nanList)
theorem nanSums_ok : SumOK nanSig Tryz.prog nanSums := sumsOf_ok nanList_ok
noncomputable def mulNaN : Fact := ⟨28, [.agg ⟨[.complex .f64 9218868437227405311 0, .float .f64 0]⟩, .agg ⟨[.complex .f64 4611686018427387904 0, .float .f64 0]⟩], .tuple ⟨[.agg ⟨[.complex .f64 0 0, .float .f64 0]⟩, .int .i64 5]⟩⟩
theorem mulNaN_run : gives 100000 (call Tryz.prog nanCfg nanSums 300 mulNaN.f mulNaN.args) = some mulNaN.v := by kernel_rfl
theorem mulNaN_ok : mulNaN.ok := by
  refine ⟨by kernel_rfl, by kernel_rfl, fun w hG hT => ?_⟩
  exact gives_calls (S := nanSig) nanFits nanSums_ok mulNaN_run (by kernel_rfl) glob_few hG hT
end Ev
end Go.Proofs.YtjjbhadnakjhdaaGreatDoor
