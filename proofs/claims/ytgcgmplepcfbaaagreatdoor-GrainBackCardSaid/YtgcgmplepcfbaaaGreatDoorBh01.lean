/- Contracts, in this order: Floats as whole numbers: rounding by rungs rises with what is rounded. · Floats as whole numbers of least units: what a word is worth; sums, products, order. · Samples: the three operations rise. · Samples rise with levels (plain). · package grain: samples; what package math asks of a float. · What a sum of two floats loses is a float (Dekker). · A sum of two floats, less the greater one, and what it lost, are floats. -/
import Ieee.Arith
import Derived.Laws.FloatArith
import Derived.Test.YtgcgmplepcfbaaaGreatDoorChecked
import Derived.WalkKit
import Derived.WalkLawsBesides
import Derived.Lib.Hide
import Derived.Laws.Cover3
import Derived.KernelRfl
/- Floats as whole numbers: rounding by rungs rises with what is rounded. -/
namespace Go.Proofs.YtgcgmplepcfbaaaGreatDoor
namespace Fl
open Ieee

/-- The whole number nearest to n / g, of two the even one. -/
def rne (n g : Nat) : Nat := n / g + (decide (g < 2 * (n % g)) || (g == 2 * (n % g) && n / g % 2 == 1)).toNat

theorem rne_le (n g : Nat) : rne n g ≤ n / g + 1 := by
  unfold rne; have := Bool.toNat_le (decide (g < 2 * (n % g)) || (g == 2 * (n % g) && n / g % 2 == 1)); omega
theorem le_rne (n g : Nat) : n / g ≤ rne n g := by unfold rne; omega
theorem rne_one (n : Nat) : rne n 1 = n := by
  unfold rne; simp [Nat.mod_one]
theorem rne_mono {m n g : Nat} (h : m ≤ n) : rne m g ≤ rne n g := by
  have hq := Nat.div_le_div_right (c := g) h
  rcases Nat.lt_or_eq_of_le hq with hl | he
  · have := rne_le m g; have := le_rne n g; omega
  · have em := Nat.div_add_mod m g; have en := Nat.div_add_mod n g
    rw [he] at em
    have hr : m % g ≤ n % g := by omega
    unfold rne
    rw [he]
    apply Nat.add_le_add_left
    generalize m % g = a at *; generalize n % g = b at *; generalize n / g % 2 = c
    by_cases h1 : g < 2 * b
    · have : (decide (g < 2 * b) || (g == 2 * b && c == 1)) = true := by simp [h1]
      rw [this]; exact Bool.toNat_le _
    · have h2 : ¬ g < 2 * a := by omega
      rw [decide_eq_false h1, decide_eq_false h2]
      by_cases h3 : g = 2 * a
      · have h4 : g = 2 * b := by omega
        rw [show (g == 2 * a) = true from by simp [h3], show (g == 2 * b) = true from by simp [h4]]
        exact Nat.le_refl _
      · rw [show (g == 2 * a) = false from by simp [h3]]; simp
theorem rne_scale {k : Nat} (hk : 0 < k) (n g : Nat) : rne (n * k) (g * k) = rne n g := by
  unfold rne
  rw [Nat.mul_div_mul_right _ _ hk, Nat.mul_mod_mul_right]
  have e : 2 * (n % g * k) = (2 * (n % g)) * k := by rw [Nat.mul_assoc]
  rw [e]
  generalize 2 * (n % g) = a
  have h1 : decide (g * k < a * k) = decide (g < a) := decide_eq_decide.2 (Nat.mul_lt_mul_right hk)
  have h2 : (g * k == a * k) = (g == a) := by
    rw [Bool.eq_iff_iff]; simp only [beq_iff_eq]
    exact ⟨fun h => Nat.eq_of_mul_eq_mul_right hk h, fun h => by rw [h]⟩
  rw [h1, h2]

theorem cut_even (neg : Bool) (n drop : Nat) : Toward.even.cut neg n drop = rne n (2 ^ drop) := by
  unfold Toward.cut
  simp only [Nat.one_shiftLeft]
  by_cases h : drop ≤ n.log2 + 2
  · rw [Nat.min_eq_left h]; rfl
  · rw [Nat.min_eq_right (by omega)]
    have hn : n < 2 ^ (n.log2 + 1) := Nat.lt_log2_self
    have h2 : 2 ^ (n.log2 + 2) = 2 * 2 ^ (n.log2 + 1) := by rw [Nat.pow_succ, Nat.mul_comm]
    have h3 : 2 ^ (n.log2 + 2) ≤ 2 ^ drop := Nat.pow_le_pow_right (by omega) (by omega)
    have z : ∀ g, 2 * n < g → rne n g = 0 := by
      intro g hg
      unfold rne
      rw [Nat.div_eq_of_lt (by omega), Nat.mod_eq_of_lt (by omega), decide_eq_false (by omega), show (g == 2 * n) = false from by simp; omega]
      rfl
    rw [z (2 ^ drop) (by omega), ← z (2 ^ (n.log2 + 2)) (by omega)]
    rfl

/-- The rung nearest to m * 2 ^ p. -/
def lastOf (m : Nat) (p : Int) : Int := max (p + m.log2 - 52) (-1074)
def kept (m : Nat) (p : Int) : Nat := rne (m * 2 ^ (p - lastOf m p).toNat) (2 ^ (lastOf m p - p).toNat)
def rung (m : Nat) (p : Int) : Nat := if m = 0 then 0 else min ((lastOf m p + 1074).toNat * 4503599627370496 + kept m p) 9218868437227405312

theorem nearest_eq (neg : Bool) (m : Nat) (p : Int) : double.nearest neg m p = double.word neg (rung m p) := by
  unfold Format.nearest rung
  by_cases h : m = 0
  · rw [if_pos h, if_pos h]
  · rw [if_neg h, if_neg h]
    have e1 : double.leastPlace = -1074 := by decide
    have e2 : double.binade = 4503599627370496 := by decide
    have e3 : double.infRung = 9218868437227405312 := by decide
    have e4 : (double.fractionBits : Int) = 52 := rfl
    simp only [e1, e2, e3, e4, cut_even, Nat.shiftLeft_eq, Int.sub_neg]
    rfl

theorem log2_mul_pow (m k : Nat) (h : m ≠ 0) : (m * 2 ^ k).log2 = m.log2 + k := by
  induction k with
  | zero => simp
  | succ k ih => rw [Nat.pow_succ, ← Nat.mul_assoc, Nat.mul_comm _ 2, Nat.log2_two_mul (Nat.mul_ne_zero h (by have := Nat.two_pow_pos k; omega)), ih]; omega

theorem rung_shift (m k : Nat) (p : Int) : rung (m * 2 ^ k) p = rung m (p + k) := by
  have hk := Nat.two_pow_pos k
  unfold rung
  by_cases h : m = 0
  · simp [h]
  · have h' : m * 2 ^ k ≠ 0 := Nat.mul_ne_zero h (by omega)
    rw [if_neg h, if_neg h']
    have hl : lastOf (m * 2 ^ k) p = lastOf m (p + k) := by unfold lastOf; rw [log2_mul_pow m k h]; push_cast; congr 1; omega
    have hkept : kept (m * 2 ^ k) p = kept m (p + k) := by
      unfold kept
      rw [hl]
      generalize lastOf m (p + k) = l
      rcases Int.le_total l p with h1 | h1
      · rw [show (l - p).toNat = 0 by omega, show (l - (p + k)).toNat = 0 by omega, show (p + k - l).toNat = k + (p - l).toNat by omega, Nat.pow_add, Nat.mul_assoc]
      · rcases Int.le_total l (p + k) with h2 | h2
        · have e : k = (p + k - l).toNat + (l - p).toNat := by omega
          rw [show (p - l).toNat = 0 by omega, show (l - (p + k)).toNat = 0 by omega]
          have := rne_scale (Nat.two_pow_pos (l - p).toNat) (m * 2 ^ (p + k - l).toNat) 1
          rw [Nat.mul_assoc, ← Nat.pow_add, ← e] at this
          simpa using this
        · rw [show (p - l).toNat = 0 by omega, show (p + k - l).toNat = 0 by omega, show (l - p).toNat = (l - (p + k)).toNat + k by omega, Nat.pow_add]
          simpa using rne_scale hk m (2 ^ (l - (p + k)).toNat)
    rw [hl, hkept]

theorem rung_le (m : Nat) (p : Int) : rung m p ≤ 9218868437227405312 := by
  unfold rung; split
  · omega
  · exact Nat.min_le_right _ _

theorem kept_le (m : Nat) (p : Int) : kept m p ≤ 9007199254740992 := by
  unfold kept
  have hm : m < 2 ^ (m.log2 + 1) := Nat.lt_log2_self
  have hl : p + m.log2 - 52 ≤ lastOf m p := by unfold lastOf; omega
  generalize lastOf m p = l at *
  rcases Int.le_total l p with h | h
  · rw [show (l - p).toNat = 0 by omega, Nat.pow_zero, rne_one]
    have h1 : m * 2 ^ (p - l).toNat < 2 ^ (m.log2 + 1) * 2 ^ (p - l).toNat := Nat.mul_lt_mul_of_pos_right hm (Nat.two_pow_pos _)
    rw [← Nat.pow_add] at h1
    have h2 : 2 ^ (m.log2 + 1 + (p - l).toNat) ≤ 2 ^ 53 := Nat.pow_le_pow_right (by omega) (by omega)
    omega
  · rw [show (p - l).toNat = 0 by omega, Nat.pow_zero, Nat.mul_one]
    have h2 : 2 ^ (m.log2 + 1) ≤ 2 ^ (53 + (l - p).toNat) := Nat.pow_le_pow_right (by omega) (by omega)
    rw [Nat.pow_add 2 53] at h2
    have h3 : m / 2 ^ (l - p).toNat < 2 ^ 53 := Nat.div_lt_of_lt_mul (by rw [Nat.mul_comm]; omega)
    have := rne_le m (2 ^ (l - p).toNat)
    omega
theorem le_kept (m : Nat) (p : Int) (h0 : m ≠ 0) (hl : lastOf m p = p + m.log2 - 52) : 4503599627370496 ≤ kept m p := by
  unfold kept
  have hm : 2 ^ m.log2 ≤ m := Nat.log2_self_le h0
  rw [hl]
  rcases Nat.le_total m.log2 52 with h | h
  · rw [show (p + m.log2 - 52 - p).toNat = 0 by omega, Nat.pow_zero, rne_one, show (p - (p + m.log2 - 52)).toNat = 52 - m.log2 by omega]
    have h1 : 2 ^ m.log2 * 2 ^ (52 - m.log2) ≤ m * 2 ^ (52 - m.log2) := Nat.mul_le_mul_right _ hm
    rw [← Nat.pow_add, show m.log2 + (52 - m.log2) = 52 by omega] at h1
    exact h1
  · rw [show (p - (p + m.log2 - 52)).toNat = 0 by omega, Nat.pow_zero, Nat.mul_one, show (p + m.log2 - 52 - p).toNat = m.log2 - 52 by omega]
    refine Nat.le_trans ?_ (le_rne _ _)
    rw [Nat.le_div_iff_mul_le (Nat.two_pow_pos _), show 4503599627370496 = 2 ^ 52 from rfl, ← Nat.pow_add, show 52 + (m.log2 - 52) = m.log2 by omega]
    exact hm

theorem log2_mono {m n : Nat} (h0 : m ≠ 0) (h : m ≤ n) : m.log2 ≤ n.log2 := by
  have h1 := Nat.log2_self_le h0
  have h2 : n < 2 ^ (n.log2 + 1) := Nat.lt_log2_self
  have h3 : 2 ^ m.log2 < 2 ^ (n.log2 + 1) := by omega
  have := (Nat.pow_lt_pow_iff_right (a := 2) (by omega)).1 h3
  omega

theorem rung_mono {m n : Nat} (p : Int) (h : m ≤ n) : rung m p ≤ rung n p := by
  by_cases h0 : m = 0
  · unfold rung; rw [if_pos h0]; omega
  have hn : n ≠ 0 := by omega
  have hlog := log2_mono h0 h
  unfold rung
  rw [if_neg h0, if_neg hn]
  have key : (lastOf m p + 1074).toNat * 4503599627370496 + kept m p ≤ (lastOf n p + 1074).toNat * 4503599627370496 + kept n p := by
    by_cases he : lastOf m p = lastOf n p
    · rw [he]
      apply Nat.add_le_add_left
      unfold kept
      rw [he]
      exact rne_mono (Nat.mul_le_mul_right _ h)
    · have h1 := kept_le m p
      have hlt : lastOf m p < lastOf n p := by unfold lastOf at *; omega
      have hln : lastOf n p = p + n.log2 - 52 := by unfold lastOf at *; omega
      have hm : -1074 ≤ lastOf m p := by unfold lastOf; omega
      have h2 := le_kept n p hn hln
      have : (lastOf m p + 1074).toNat + 1 ≤ (lastOf n p + 1074).toNat := by omega
      omega
  omega
end Fl
end Go.Proofs.YtgcgmplepcfbaaaGreatDoor
/- Floats as whole numbers of least units: what a word is worth; sums, products, order. -/
namespace Go.Proofs.YtgcgmplepcfbaaaGreatDoor
namespace Fl
open Ieee

/-- What a rung is worth, in least units. -/
def V (r : Nat) : Nat := if r < 4503599627370496 then r else (4503599627370496 + r % 4503599627370496) * 2 ^ (r / 4503599627370496 - 1)
theorem V_lt {r s : Nat} (h : r < s) : V r < V s := by
  unfold V
  by_cases hr : r < 4503599627370496
  · rw [if_pos hr]
    by_cases hs : s < 4503599627370496
    · rw [if_pos hs]; exact h
    · rw [if_neg hs]
      have := Nat.le_mul_of_pos_right (4503599627370496 + s % 4503599627370496) (Nat.two_pow_pos (s / 4503599627370496 - 1))
      omega
  · rw [if_neg hr, if_neg (by omega)]
    by_cases hq : r / 4503599627370496 = s / 4503599627370496
    · rw [hq]; exact Nat.mul_lt_mul_of_pos_right (by omega) (Nat.two_pow_pos _)
    · have h1 : (4503599627370496 + r % 4503599627370496) * 2 ^ (r / 4503599627370496 - 1) < (4503599627370496 * 2) * 2 ^ (r / 4503599627370496 - 1) := Nat.mul_lt_mul_of_pos_right (by omega) (Nat.two_pow_pos _)
      rw [Nat.mul_assoc, ← Nat.pow_succ'] at h1
      have h2 : 4503599627370496 * 2 ^ (r / 4503599627370496 - 1 + 1) ≤ 4503599627370496 * 2 ^ (s / 4503599627370496 - 1) := Nat.mul_le_mul_left _ (Nat.pow_le_pow_right (by omega) (by omega))
      have h3 := Nat.mul_le_mul_right (2 ^ (s / 4503599627370496 - 1)) (Nat.le_add_right 4503599627370496 (s % 4503599627370496))
      omega
theorem V_le {r s : Nat} (h : r ≤ s) : V r ≤ V s := by
  rcases Nat.lt_or_eq_of_le h with h | h
  · exact Nat.le_of_lt (V_lt h)
  · rw [h]; exact Nat.le_refl _
theorem le_of_V {r s : Nat} (h : V r ≤ V s) : r ≤ s := by
  rcases Nat.lt_or_ge s r with h1 | h1
  · have := V_lt h1; omega
  · exact h1
theorem V_zero : V 0 = 0 := rfl
def INF : Nat := 9218868437227405312

def rg (x : Nat) : Nat := x % 9223372036854775808
def ngb (x : Nat) : Bool := x / 9223372036854775808 % 2 == 1
/-- The word is no NaN. -/
def IsN (x : Nat) : Prop := rg x ≤ INF
def FinW (x : Nat) : Prop := rg x < INF
def sg (s : Bool) (m : Nat) : Int := if s then -(m : Int) else m
/-- What a word is worth. -/
def sv (x : Nat) : Int := sg (ngb x) (V (rg x))
def wd (s : Bool) (r : Nat) : Nat := if s then 9223372036854775808 + r else r
theorem wd_eq (s : Bool) (r : Nat) : double.word s r = wd s r := by
  unfold Format.word wd
  have : double.signWeight = 9223372036854775808 := by decide
  rw [this]
theorem rg_wd (s : Bool) {r : Nat} (h : r ≤ INF) : rg (wd s r) = r := by
  unfold INF at h; unfold rg wd; cases s <;> simp <;> omega
theorem ngb_wd (s : Bool) {r : Nat} (h : r ≤ INF) : ngb (wd s r) = s := by
  unfold INF at h; unfold ngb wd
  cases s
  · simp; omega
  · simp; omega
theorem sv_wd (s : Bool) {r : Nat} (h : r ≤ INF) : sv (wd s r) = sg s (V r) := by unfold sv; rw [rg_wd s h, ngb_wd s h]
theorem isN_wd (s : Bool) {r : Nat} (h : r ≤ INF) : IsN (wd s r) := by unfold IsN; rw [rg_wd s h]; exact h

theorem read_eq (x : Nat) : double.read x = (if rg x < 4503599627370496 then .number (ngb x) (rg x) (-1074)
    else if rg x < INF then .number (ngb x) (4503599627370496 + rg x % 4503599627370496) (-1074 + (rg x / 4503599627370496 - 1 : Nat))
    else if rg x = INF then .infinity (ngb x) else .nan (ngb x) (rg x - INF)) := by
  unfold Format.read
  have e1 : double.leastPlace = -1074 := by decide
  have e2 : double.binade = 4503599627370496 := by decide
  have e3 : double.infRung = INF := by decide
  have e4 : double.signWeight = 9223372036854775808 := by decide
  simp only [e1, e2, e3, e4]
  rfl
theorem read_num {x : Nat} (h : FinW x) : ∃ m e : Nat, double.read x = .number (ngb x) m (-1074 + e) ∧ m * 2 ^ e = V (rg x) := by
  unfold FinW at h
  rw [read_eq]
  unfold V
  by_cases h1 : rg x < 4503599627370496
  · rw [if_pos h1, if_pos h1]; exact ⟨rg x, 0, rfl, by simp⟩
  · rw [if_neg h1, if_neg h1, if_pos h]; exact ⟨_, _, rfl, rfl⟩
theorem read_inf {x : Nat} (h : rg x = INF) : double.read x = .infinity (ngb x) := by
  rw [read_eq, h, if_neg (by unfold INF; omega), if_neg (by omega), if_pos rfl]
theorem fin_or {x : Nat} (h : IsN x) : FinW x ∨ rg x = INF := by unfold IsN at h; unfold FinW; omega

theorem signed_eq (s : Bool) (m k : Nat) : signed s m k = sg s m * (2 ^ k : Nat) := by
  unfold signed sg
  rw [Nat.shiftLeft_eq]
  cases s <;> simp [Int.neg_mul]
theorem sg_mul (s : Bool) (m k : Nat) : sg s m * (k : Int) = sg s (m * k) := by
  unfold sg; cases s <;> simp [Int.neg_mul]
theorem pow_pos (k : Nat) : (0 : Int) < (2 ^ k : Nat) := by have := Nat.two_pow_pos k; omega
theorem cmp_mul (a b : Int) {k : Int} (hk : 0 < k) : compare (a * k) (b * k) = compare a b := by
  have h1 : (a * k < b * k) ↔ a < b := ⟨fun h => Int.lt_of_mul_lt_mul_right h (Int.le_of_lt hk), fun h => Int.mul_lt_mul_of_pos_right h hk⟩
  have h2 : (a * k = b * k) ↔ a = b := ⟨fun h => Int.eq_of_mul_eq_mul_right (by omega) h, fun h => by rw [h]⟩
  show (if a * k < b * k then Ordering.lt else if a * k = b * k then Ordering.eq else Ordering.gt) = (if a < b then Ordering.lt else if a = b then Ordering.eq else Ordering.gt)
  simp only [h1, h2]
theorem V_fin {x : Nat} (h : FinW x) : V (rg x) < V INF := V_lt h
theorem sv_bd {x : Nat} (h : IsN x) : -(V INF : Int) ≤ sv x ∧ sv x ≤ V INF := by
  have := V_le h; unfold sv sg; split <;> omega
theorem sv_fin {x : Nat} (h : FinW x) : -(V INF : Int) < sv x ∧ sv x < V INF := by
  have := V_fin h; unfold sv sg; split <;> omega
theorem sv_inf {x : Nat} (h : rg x = INF) : sv x = sg (ngb x) (V INF) := by unfold sv; rw [h]
theorem V_inf_pos : 0 < V INF := V_lt (r := 0) (by unfold INF; omega)

/-- The order of two numbers is that of what they are worth. -/
theorem order_eq {x y : Nat} (hx : IsN x) (hy : IsN y) : double.order x y = some (compare (sv x) (sv y)) := by
  unfold Format.order
  have hp := V_inf_pos
  rcases fin_or hx with fx | ix <;> rcases fin_or hy with fy | iy
  · obtain ⟨m, e, hm, em⟩ := read_num fx
    obtain ⟨n, i, hn, en⟩ := read_num fy
    rw [hm, hn]
    show some (compare (signed _ _ _) (signed _ _ _)) = _
    rw [signed_eq, signed_eq]
    unfold sv
    rw [← em, ← en, ← sg_mul, ← sg_mul]
    rcases Nat.le_total e i with h | h
    · rw [show min (-1074 + (e : Int)) (-1074 + i) = -1074 + e by omega, show (-1074 + (e : Int) - (-1074 + e)).toNat = 0 by omega, show (-1074 + (i : Int) - (-1074 + e)).toNat = i - e by omega]
      rw [← cmp_mul _ _ (pow_pos e), Int.mul_assoc, Int.mul_assoc, ← Int.natCast_mul, ← Int.natCast_mul, ← Nat.pow_add, ← Nat.pow_add, show 0 + e = e by omega, show i - e + e = i by omega]
    · rw [show min (-1074 + (e : Int)) (-1074 + i) = -1074 + i by omega, show (-1074 + (i : Int) - (-1074 + i)).toNat = 0 by omega, show (-1074 + (e : Int) - (-1074 + i)).toNat = e - i by omega]
      rw [← cmp_mul _ _ (pow_pos i), Int.mul_assoc, Int.mul_assoc, ← Int.natCast_mul, ← Int.natCast_mul, ← Nat.pow_add, ← Nat.pow_add, show 0 + i = i by omega, show e - i + i = e by omega]
  · obtain ⟨m, e, hm, em⟩ := read_num fx
    have := sv_fin fx
    rw [hm, read_inf iy, sv_inf iy]
    show some (if ngb y then Ordering.gt else Ordering.lt) = some (if sv x < sg (ngb y) (V INF) then Ordering.lt else if sv x = sg (ngb y) (V INF) then Ordering.eq else Ordering.gt)
    unfold sg
    cases ngb y
    · rw [if_neg (by simp), if_pos (by simp; omega)]
    · rw [if_pos rfl, if_neg (by simp; omega), if_neg (by simp; omega)]
  · obtain ⟨m, e, hm, em⟩ := read_num fy
    have := sv_fin fy
    rw [hm, read_inf ix, sv_inf ix]
    show some (if ngb x then Ordering.lt else Ordering.gt) = some (if sg (ngb x) (V INF) < sv y then Ordering.lt else if sg (ngb x) (V INF) = sv y then Ordering.eq else Ordering.gt)
    unfold sg
    cases ngb x
    · rw [if_neg (by simp), if_neg (by simp; omega), if_neg (by simp; omega)]
    · rw [if_pos rfl, if_pos (by simp; omega)]
  · rw [read_inf ix, read_inf iy, sv_inf ix, sv_inf iy]
    show some (compare (ngb y).toNat (ngb x).toNat) = some (if sg (ngb x) (V INF) < sg (ngb y) (V INF) then Ordering.lt else if sg (ngb x) (V INF) = sg (ngb y) (V INF) then Ordering.eq else Ordering.gt)
    unfold sg
    cases ngb x <;> cases ngb y <;> simp
    · rw [if_neg (by omega), if_neg (by omega)]; rfl
    · rw [if_pos (by omega)]; rfl

/-- What a rung is worth is rounded to that rung. -/
theorem rung_V {r : Nat} (h : r ≤ INF) : rung (V r) (-1074) = r := by
  unfold INF at h
  unfold V
  by_cases h1 : r < 4503599627370496
  · rw [if_pos h1]
    unfold rung
    by_cases h0 : r = 0
    · rw [if_pos h0, h0]
    · rw [if_neg h0]
      have hl : r.log2 < 52 := (Nat.log2_lt h0).2 h1
      have e : lastOf r (-1074) = -1074 := by unfold lastOf; omega
      unfold kept
      rw [e]
      show min (0 * _ + rne (r * 1) 1) _ = r
      rw [rne_one]; omega
  · rw [if_neg h1, rung_shift]
    have hm : (4503599627370496 + r % 4503599627370496).log2 = 52 := by
      have a : 52 ≤ (4503599627370496 + r % 4503599627370496).log2 := (Nat.le_log2 (by omega)).2 (by omega)
      have b : (4503599627370496 + r % 4503599627370496).log2 < 53 := (Nat.log2_lt (by omega)).2 (by omega)
      omega
    have e : lastOf (4503599627370496 + r % 4503599627370496) (-1074 + (r / 4503599627370496 - 1 : Nat)) = -1074 + (r / 4503599627370496 - 1 : Nat) := by unfold lastOf; rw [hm]; omega
    unfold rung kept
    rw [e, if_neg (by omega), Int.sub_self]
    show min (_ + rne (_ * 1) 1) _ = r
    rw [rne_one]; omega

/-- An exact whole number of least units, rounded. -/
def Rd (T : Int) : Int := sg (decide (T < 0)) (V (rung T.natAbs (-1074)))
theorem Rd_mono {S T : Int} (h : S ≤ T) : Rd S ≤ Rd T := by
  unfold Rd sg
  by_cases h1 : S < 0
  · by_cases h2 : T < 0
    · have := V_le (rung_mono (m := T.natAbs) (n := S.natAbs) (-1074) (by omega))
      simp [h1, h2]; omega
    · simp [h1, h2]; try omega
  · have h2 : ¬ T < 0 := by omega
    have := V_le (rung_mono (m := S.natAbs) (n := T.natAbs) (-1074) (by omega))
    simp [h1, h2]; omega

def sumS (s t : Bool) (T : Int) : Bool := if T = 0 then s && t else decide (T < 0)
theorem sum_num (s t : Bool) (m n e i : Nat) : (Datum.sum (.number s m (-1074 + e)) (.number t n (-1074 + i))).map double.write
    = some (wd (sumS s t (sg s (m * 2 ^ e) + sg t (n * 2 ^ i))) (rung (sg s (m * 2 ^ e) + sg t (n * 2 ^ i)).natAbs (-1074))) := by
  have key : ∀ (T : Int) (k : Nat), double.write (.number (if T = 0 then s && t else decide (T < 0)) T.natAbs (-1074 + k)) = wd (sumS s t (T * (2 ^ k : Nat))) (rung (T * (2 ^ k : Nat)).natAbs (-1074)) := by
    intro T k
    show double.nearest _ _ _ = _
    rw [nearest_eq, wd_eq, ← rung_shift, Int.natAbs_mul, Int.natAbs_natCast]
    congr 1
    unfold sumS
    have hk := pow_pos k
    have h1 : (T * (2 ^ k : Nat) = 0) ↔ T = 0 := ⟨fun h => by rcases Int.mul_eq_zero.1 h with h | h <;> omega, fun h => by rw [h, Int.zero_mul]⟩
    have h2 : (T * (2 ^ k : Nat) < 0) ↔ T < 0 := ⟨fun h => Int.lt_of_mul_lt_mul_right (by rw [Int.zero_mul]; exact h) (Int.le_of_lt hk), fun h => Int.mul_neg_of_neg_of_pos h hk⟩
    simp only [h1, h2]
  show some (double.write (.number (if (signed _ _ _ + signed _ _ _) = 0 then s && t else decide ((signed _ _ _ + signed _ _ _) < 0)) (signed _ _ _ + signed _ _ _).natAbs _)) = _
  rw [signed_eq, signed_eq]
  rcases Nat.le_total e i with h | h
  · rw [show min (-1074 + (e : Int)) (-1074 + i) = -1074 + e by omega, show (-1074 + (e : Int) - (-1074 + e)).toNat = 0 by omega, show (-1074 + (i : Int) - (-1074 + e)).toNat = i - e by omega, key, Int.add_mul, Int.mul_assoc, Int.mul_assoc, ← Int.natCast_mul, ← Int.natCast_mul, ← Nat.pow_add, ← Nat.pow_add, sg_mul, sg_mul, show 0 + e = e by omega, show i - e + e = i by omega]
  · rw [show min (-1074 + (e : Int)) (-1074 + i) = -1074 + i by omega, show (-1074 + (i : Int) - (-1074 + i)).toNat = 0 by omega, show (-1074 + (e : Int) - (-1074 + i)).toNat = e - i by omega, key, Int.add_mul, Int.mul_assoc, Int.mul_assoc, ← Int.natCast_mul, ← Int.natCast_mul, ← Nat.pow_add, ← Nat.pow_add, sg_mul, sg_mul, show 0 + i = i by omega, show e - i + i = e by omega]
theorem add_fin {x y : Nat} (hx : FinW x) (hy : FinW y) : double.add x y = some (wd (sumS (ngb x) (ngb y) (sv x + sv y)) (rung (sv x + sv y).natAbs (-1074))) := by
  obtain ⟨m, e, hm, em⟩ := read_num hx
  obtain ⟨n, i, hn, en⟩ := read_num hy
  unfold Format.add
  rw [hm, hn, sum_num, em, en]
  rfl
theorem sub_fin {x y : Nat} (hx : FinW x) (hy : FinW y) : double.sub x y = some (wd (sumS (ngb x) (!ngb y) (sv x - sv y)) (rung (sv x - sv y).natAbs (-1074))) := by
  obtain ⟨m, e, hm, em⟩ := read_num hx
  obtain ⟨n, i, hn, en⟩ := read_num hy
  have e1 : sv x - sv y = sg (ngb x) (m * 2 ^ e) + sg (!ngb y) (n * 2 ^ i) := by
    unfold sv; rw [em, en]; unfold sg; cases ngb x <;> cases ngb y <;> simp <;> omega
  unfold Format.sub
  rw [hm, hn]
  show (Datum.sum (.number _ _ _) (.number _ _ _)).map double.write = _
  rw [sum_num, e1]
theorem sumS_sv (s t : Bool) (T : Int) : sv (wd (sumS s t T) (rung T.natAbs (-1074))) = Rd T := by
  rw [sv_wd _ (rung_le _ _)]
  unfold Rd sumS
  by_cases h : T = 0
  · subst h; simp [sg, rung, V_zero]
  · rw [if_neg h]
/-- A float more, or less, an infinite one. -/
theorem add_inf {x y : Nat} (hx : rg x = INF) (hy : FinW y) : double.add x y = some (wd (ngb x) INF) := by
  obtain ⟨n, i, hn, en⟩ := read_num hy
  unfold Format.add
  rw [hn, read_inf hx]
  show some (double.word _ double.infRung) = _
  rw [wd_eq, show double.infRung = INF by decide]
theorem sub_inf {x y : Nat} (hx : rg x = INF) (hy : FinW y) : double.sub x y = some (wd (ngb x) INF) := by
  obtain ⟨n, i, hn, en⟩ := read_num hy
  unfold Format.sub
  rw [hn, read_inf hx]
  show some (double.word _ double.infRung) = _
  rw [wd_eq, show double.infRung = INF by decide]
end Fl
end Go.Proofs.YtgcgmplepcfbaaaGreatDoor
/- Samples: the three operations rise. -/
namespace Go.Proofs.YtgcgmplepcfbaaaGreatDoor
namespace Fl
open Ieee

/-- 32768 as a word, and three times 2^51. -/
def KL : Nat := 4674736413210574848
def KW : Nat := 4843621399236968448
def s1 (x : Nat) : Nat := wd (ngb x) (rung (V (rg x)) (-1059))
theorem inf_1059 : rung (V INF) (-1059) = INF := by
  have h1 := rung_le (V INF) (-1059)
  have h2 : rung (V INF) (-1074) ≤ rung (V INF * 2 ^ 15) (-1074) := rung_mono _ (Nat.le_mul_of_pos_right _ (Nat.two_pow_pos _))
  rw [rung_V (Nat.le_refl _), rung_shift] at h2
  unfold INF at *; simp at h2; omega
theorem mul_KL {x : Nat} (h : IsN x) : double.mul x KL = some (s1 x) := by
  have hk : double.read KL = .number false 4503599627370496 (-37) := by decide
  unfold Format.mul s1
  rw [hk]
  rcases fin_or h with fx | ix
  · obtain ⟨m, e, hm, em⟩ := read_num fx
    rw [hm, ← em, rung_shift]
    show some (double.nearest (ngb x ^^ false) (m * 2 ^ 52) (-1074 + e + -37)) = _
    rw [nearest_eq, wd_eq, rung_shift, Bool.xor_false, show -1074 + (e : Int) + -37 + (52 : Nat) = -1059 + e by omega]
  · rw [read_inf ix, ix, inf_1059]
    show some (double.word (ngb x ^^ false) double.infRung) = _
    rw [wd_eq, show double.infRung = INF by decide, Bool.xor_false]
theorem s1_num (x : Nat) : IsN (s1 x) := isN_wd _ (rung_le _ _)
theorem s1_mono {x y : Nat} (h : sv x ≤ sv y) : sv (s1 x) ≤ sv (s1 y) := by
  unfold s1
  rw [sv_wd _ (rung_le _ _), sv_wd _ (rung_le _ _)]
  unfold sv sg at h
  unfold sg
  cases hx : ngb x <;> cases hy : ngb y <;> simp [hx, hy] at h ⊢
  · have := V_le (rung_mono (-1059) h); omega
  · have h1 : V (rg x) = 0 := by omega
    have h2 : V (rg y) = 0 := by omega
    rw [h1, h2]; simp [rung, V_zero]
  · have := V_le (rung_mono (-1059) h); omega

/-- An operation with a constant rises. -/
theorem op_mono {g : Nat → Nat} {D : Int} (hf : ∀ x, FinW x → sv (g x) = Rd (sv x + D)) (hi : ∀ x, rg x = INF → sv (g x) = sv x) {x y : Nat} (hx : IsN x) (hy : IsN y) (gx : IsN (g x)) (gy : IsN (g y)) (h : sv x ≤ sv y) : sv (g x) ≤ sv (g y) := by
  have b1 := sv_bd gx; have b2 := sv_bd gy; have hp := V_inf_pos
  rcases fin_or hx with fx | ix <;> rcases fin_or hy with fy | iy
  · rw [hf x fx, hf y fy]; exact Rd_mono (by omega)
  · have e := sv_inf iy
    have f := sv_fin fx
    rw [hi y iy]
    unfold sg at e; split at e <;> omega
  · have e := sv_inf ix
    have f := sv_fin fy
    rw [hi x ix]
    unfold sg at e; split at e <;> omega
  · rw [hi x ix, hi y iy]; exact h
theorem fin_KW : FinW KW := by unfold FinW rg KW INF; decide
def s2 (x : Nat) : Nat := if rg x = INF then wd (ngb x) INF else wd (sumS (ngb x) (ngb KW) (sv x + sv KW)) (rung (sv x + sv KW).natAbs (-1074))
def s3 (x : Nat) : Nat := if rg x = INF then wd (ngb x) INF else wd (sumS (ngb x) (!ngb KW) (sv x - sv KW)) (rung (sv x - sv KW).natAbs (-1074))
theorem add_KW {x : Nat} (h : IsN x) : double.add x KW = some (s2 x) := by
  unfold s2
  rcases fin_or h with fx | ix
  · rw [if_neg (by unfold FinW at fx; omega)]; exact add_fin fx fin_KW
  · rw [if_pos ix]; exact add_inf ix fin_KW
theorem sub_KW {x : Nat} (h : IsN x) : double.sub x KW = some (s3 x) := by
  unfold s3
  rcases fin_or h with fx | ix
  · rw [if_neg (by unfold FinW at fx; omega)]; exact sub_fin fx fin_KW
  · rw [if_pos ix]; exact sub_inf ix fin_KW
theorem s2_num (x : Nat) : IsN (s2 x) := by unfold s2; split <;> first | exact isN_wd _ (Nat.le_refl _) | exact isN_wd _ (rung_le _ _)
theorem s3_num (x : Nat) : IsN (s3 x) := by unfold s3; split <;> first | exact isN_wd _ (Nat.le_refl _) | exact isN_wd _ (rung_le _ _)
theorem s2_mono {x y : Nat} (hx : IsN x) (hy : IsN y) (h : sv x ≤ sv y) : sv (s2 x) ≤ sv (s2 y) := by
  refine op_mono (D := sv KW) (fun x hx => ?_) (fun x hx => ?_) hx hy (s2_num x) (s2_num y) h
  · unfold s2; rw [if_neg (by unfold FinW at hx; omega), sumS_sv]
  · unfold s2; rw [if_pos hx, sv_wd _ (Nat.le_refl _), sv_inf hx]
theorem s3_mono {x y : Nat} (hx : IsN x) (hy : IsN y) (h : sv x ≤ sv y) : sv (s3 x) ≤ sv (s3 y) := by
  refine op_mono (D := -sv KW) (fun x hx => ?_) (fun x hx => ?_) hx hy (s3_num x) (s3_num y) h
  · unfold s3; rw [if_neg (by unfold FinW at hx; omega), sumS_sv]; rfl
  · unfold s3; rw [if_pos hx, sv_wd _ (Nat.le_refl _), sv_inf hx]
/-- The level in samples, rounded to a whole one. -/
def near (x : Nat) : Nat := s3 (s2 (s1 x))
theorem near_num (x : Nat) : IsN (near x) := s3_num _
theorem near_mono {x y : Nat} (h : sv x ≤ sv y) : sv (near x) ≤ sv (near y) :=
  s3_mono (s2_num _) (s2_num _) (s2_mono (s1_num _) (s1_num _) (s1_mono h))

/-- 1 in least units. -/
def E74 : Nat := 1074
def P74 : Nat := 2 ^ E74
/-- Cut towards nought. -/
def tr (T : Int) : Int := sg (decide (T < 0)) (T.natAbs / P74)
theorem tr_mono {S T : Int} (h : S ≤ T) : tr S ≤ tr T := by
  unfold tr sg
  by_cases h1 : S < 0
  · by_cases h2 : T < 0
    · have := Nat.div_le_div_right (c := P74) (show T.natAbs ≤ S.natAbs by omega)
      generalize S.natAbs / P74 = a at *; generalize T.natAbs / P74 = b at *
      simp only [h1, h2, decide_true, if_true]; omega
    · generalize S.natAbs / P74 = a at *; generalize T.natAbs / P74 = b at *
      simp only [h1, h2, decide_true, decide_false, if_true, Bool.false_eq_true, if_false]; omega
  · have h2 : ¬ T < 0 := by omega
    have := Nat.div_le_div_right (c := P74) (show S.natAbs ≤ T.natAbs by omega)
    generalize S.natAbs / P74 = a at *; generalize T.natAbs / P74 = b at *
    simp only [h1, h2, decide_false, Bool.false_eq_true, if_false]; omega
theorem cut_zero (s : Bool) (n drop : Nat) : Toward.zero.cut s n drop = n / 2 ^ drop := by
  unfold Toward.cut
  simp only [Nat.one_shiftLeft]
  by_cases h : drop ≤ n.log2 + 2
  · rw [Nat.min_eq_left h]; rfl
  · rw [Nat.min_eq_right (by omega)]
    have hn : n < 2 ^ (n.log2 + 1) := Nat.lt_log2_self
    have h2 : 2 ^ (n.log2 + 1) ≤ 2 ^ (n.log2 + 2) := Nat.pow_le_pow_right (by omega) (by omega)
    have h3 : 2 ^ (n.log2 + 2) ≤ 2 ^ drop := Nat.pow_le_pow_right (by omega) (by omega)
    rw [Nat.div_eq_of_lt (by omega), Nat.div_eq_of_lt (by omega)]
    rfl
theorem toInt_eq {x : Nat} (h : FinW x) : (double.read x).toInt .zero = some (tr (sv x)) := by
  obtain ⟨m, e, hm, em⟩ := read_num h
  rw [hm]
  show some (signed _ (Toward.zero.cut _ _ _) 0) = _
  rw [signed_eq, cut_zero, show ((2 ^ 0 : Nat) : Int) = 1 from rfl, Int.mul_one]
  have e1 : (m <<< (-1074 + (e : Int)).toNat) / 2 ^ (-(-1074 + (e : Int))).toNat = V (rg x) / 2 ^ 1074 := by
    rw [← em, Nat.shiftLeft_eq]
    rcases Nat.le_total e 1074 with h | h
    · rw [show (-1074 + (e : Int)).toNat = 0 by omega, show (-(-1074 + (e : Int))).toNat = 1074 - e by omega, Nat.pow_zero, Nat.mul_one, show 1074 = (1074 - e) + e by omega, Nat.pow_add, Nat.mul_div_mul_right _ _ (Nat.two_pow_pos e), show 1074 - e + e - e = 1074 - e by omega]
    · rw [show (-1074 + (e : Int)).toNat = e - 1074 by omega, show (-(-1074 + (e : Int))).toNat = 0 by omega, Nat.pow_zero, Nat.div_one]
      conv => rhs; rw [show e = (e - 1074) + 1074 by omega, Nat.pow_add, ← Nat.mul_assoc, Nat.mul_div_cancel _ (Nat.two_pow_pos 1074)]
  rw [e1]
  unfold tr sv sg P74 E74
  generalize 2 ^ 1074 = P
  cases ngb x
  · have h1 : ¬ ((V (rg x) : Int) < 0) := by omega
    simp only [Bool.false_eq_true, if_false, decide_eq_false h1, Int.natAbs_natCast]
  · rcases Nat.eq_zero_or_pos (V (rg x)) with h0 | h0
    · simp [h0]
    · have h1 : -(V (rg x) : Int) < 0 := by omega
      simp only [if_true, decide_eq_true h1, Int.natAbs_neg, Int.natAbs_natCast]
end Fl
end Go.Proofs.YtgcgmplepcfbaaaGreatDoor
/- Samples rise with levels (plain). -/
namespace Go.Proofs.YtgcgmplepcfbaaaGreatDoor
namespace Fl
open Ieee

theorem pow_parts (n a b : Nat) (h : n = a + b) : 2 ^ n = 2 ^ a * 2 ^ b := by rw [h, Nat.pow_add]
theorem P74_eq : P74 = 2 ^ 37 * 2 ^ 1037 := by unfold P74; exact pow_parts E74 37 1037 (by decide)
theorem V_KL : V (rg KL) = 32768 * P74 := by
  have e1 : rg KL = 4674736413210574848 := by decide
  rw [e1, P74_eq, show (2 : Nat) ^ 37 = 137438953472 by decide]
  unfold V
  rw [if_neg (by omega), show 4674736413210574848 / 4503599627370496 - 1 = 1037 by decide, show 4674736413210574848 % 4503599627370496 = 0 by decide]
  generalize 2 ^ 1037 = Q
  omega
theorem sv_KL : sv KL = 32768 * (P74 : Int) := by
  unfold sv
  rw [V_KL, show ngb KL = false by decide]
  show ((32768 * P74 : Nat) : Int) = _
  rw [Int.natCast_mul]; rfl
theorem isN_KL : IsN KL := by unfold IsN rg INF; decide
/-- -32768, -1, 0.9999 and 32765 as words. -/
def KM : Nat := 13898108450065350656
def KO : Nat := 13830554455654793216
def KN : Nat := 4607181518080091934
def KQ : Nat := 4674735588576854016
theorem sv_neg {x y : Nat} (hr : rg x = rg y) (hx : ngb x = true) (hy : ngb y = false) : sv x = -sv y := by
  unfold sv sg; rw [hr, hx, hy]; simp
theorem sv_KM : sv KM = -(32768 * (P74 : Int)) := by rw [← sv_KL]; exact sv_neg (by decide) (by decide) (by decide)
theorem near_KO : near KO = KM := by decide +kernel
theorem near_KN : near KN = KQ := by decide +kernel
theorem sv_lt_KL {x : Nat} (hr : rg x < rg KL) (hx : ngb x = false) : sv x < sv KL := by
  have := V_lt hr
  unfold sv; rw [hx, show ngb KL = false by decide]; unfold sg; simp; exact this
theorem sv_KQ : sv KQ < 32768 * (P74 : Int) := by rw [← sv_KL]; exact sv_lt_KL (by decide) (by decide)
theorem P74_pos : 0 < P74 := by unfold P74; exact Nat.two_pow_pos E74

/-- The sample's number, and whether it is within. -/
def smp (x : Nat) : Int := if sv KL ≤ sv (near x) then 32767 else if sv (near x) < sv KM then -32768 else tr (sv (near x))
def smpB (x : Nat) : Bool := if sv KL ≤ sv (near x) then false else if sv (near x) < sv KM then false else true
theorem tr_bd {T : Int} (h1 : sv KM ≤ T) (h2 : ¬ sv KL ≤ T) : -32768 ≤ tr T ∧ tr T ≤ 32767 := by
  rw [sv_KM] at h1
  rw [sv_KL] at h2
  unfold tr sg
  have hp := P74_pos
  by_cases h : T < 0
  · have : T.natAbs / P74 ≤ 32768 := Nat.div_le_of_le_mul (by rw [Nat.mul_comm]; omega)
    generalize T.natAbs / P74 = q at *
    simp only [h, decide_true, if_true]; omega
  · have : T.natAbs / P74 < 32768 := Nat.div_lt_of_lt_mul (by rw [Nat.mul_comm]; omega)
    generalize T.natAbs / P74 = q at *
    simp only [h, decide_false, Bool.false_eq_true, if_false]; omega
theorem smp_bd (x : Nat) : -32768 ≤ smp x ∧ smp x ≤ 32767 := by
  unfold smp
  split
  · omega
  · split
    · omega
    · exact tr_bd (by omega) (by omega)
theorem smp_mono {x y : Nat} (h : sv x ≤ sv y) : smp x ≤ smp y := by
  have h1 := near_mono h
  have b1 := smp_bd x; have b2 := smp_bd y
  by_cases a : sv KL ≤ sv (near y)
  · have e : smp y = 32767 := if_pos a
    omega
  · by_cases b : sv (near x) < sv KM
    · have e : smp x = -32768 := by unfold smp; rw [if_neg (by omega), if_pos b]
      omega
    · unfold smp
      rw [if_neg (by omega), if_neg b, if_neg a, if_neg (by omega)]
      exact tr_mono h1
/-- What lies from -1 to below 0.9999 is within. -/
theorem smp_within {x : Nat} (h1 : sv KO ≤ sv x) (h2 : sv x < sv KN) : smpB x = true := by
  have a := near_mono h1
  have b := near_mono (Int.le_of_lt h2)
  rw [near_KO] at a
  rw [near_KN] at b
  have := sv_KQ
  unfold smpB
  rw [sv_KL, if_neg (by omega), if_neg (by omega)]
theorem smp_out {x : Nat} (h : smpB x = false) : smp x = 32767 ∨ smp x = -32768 := by
  unfold smpB at h; unfold smp
  split at h
  · rw [if_pos ‹_›]; exact .inl rfl
  · rw [if_neg ‹_›]
    split at h
    · rw [if_pos ‹_›]; exact .inr rfl
    · cases h
end Fl
end Go.Proofs.YtgcgmplepcfbaaaGreatDoor
/- package grain: samples; what package math asks of a float. -/
namespace Go.Proofs.YtgcgmplepcfbaaaGreatDoor
open Go.RowKit Ieee Fl

@[go_sem] theorem call_bits (x : Nat) (w : World) : (callFunc 157 #[.float .f64 x]).run Tryz.prog w = .ok (.value (.int .u64 x)) w := by
  rw [run_callFunc_extern (e := Extern.MathFloatBits.float64bits) Tryz.func157 (by kernel_rfl) (by kernel_rfl) (by kernel_rfl) (by kernel_rfl)]; rfl
@[go_sem] theorem call_from (n : Int) (w : World) : (callFunc 70 #[.int .u64 n]).run Tryz.prog w = .ok (.value (.float .f64 n.toNat)) w := by
  rw [run_callFunc_extern (e := Extern.MathFloatBits.float64frombits) Tryz.func70 (by kernel_rfl) (by kernel_rfl) (by kernel_rfl) (by kernel_rfl)]; rfl

/-- Is the word a NaN? -/
def nanB (x : Nat) : Bool := decide (INF < rg x)
theorem nanB_no {x : Nat} (h : IsN x) : nanB x = false := decide_eq_false (by unfold IsN at h; omega)
theorem nanB_yes {x : Nat} (h : ¬ IsN x) : nanB x = true := decide_eq_true (by unfold IsN at h; omega)
theorem order_nan {x : Nat} (h : ¬ IsN x) (y : Nat) : double.order x y = none := by
  unfold Format.order
  rw [read_eq, if_neg (by unfold IsN INF at h; omega), if_neg (by unfold IsN INF at h; unfold INF; omega), if_neg (by unfold IsN at h; omega)]
  rfl
theorem order_self (x : Nat) : (double.order x x == some .eq) = !nanB x := by
  by_cases h : IsN x
  · rw [order_eq h h, nanB_no h]
    show (some (if sv x < sv x then Ordering.lt else if sv x = sv x then Ordering.eq else Ordering.gt) == some Ordering.eq) = true
    rw [if_neg (by omega), if_pos rfl]; rfl
  · rw [order_nan h, nanB_yes h]; rfl
theorem isNaN_any (x : Nat) (w : World) : Calls Tryz.prog 51 #[.float .f64 x] w fun e w' => e = .returned (.bool (nanB x)) ∧ w = w' := by
  have h1 := order_self x
  have h2 : (FloatKind.f64.format.order x x != some .eq) = nanB x := by
    show (!(double.order x x == some .eq)) = nanB x
    rw [h1]; simp
  clear h1
  go_enter Tryz.func51, Tryz.ntmps51
  go_wp2
  go_ret
  exact ⟨by first | rfl | rw [h2], rfl⟩

theorem isNaN_no {x : Nat} (h : IsN x) (w : World) : Calls Tryz.prog 51 #[.float .f64 x] w fun e w' => e = .returned (.bool false) ∧ w = w' := nanB_no h ▸ isNaN_any x w
theorem isNaN_yes {x : Nat} (h : ¬ IsN x) (w : World) : Calls Tryz.prog 51 #[.float .f64 x] w fun e w' => e = .returned (.bool true) ∧ w = w' := nanB_yes h ▸ isNaN_any x w
theorem lt_spell {x y : Nat} (hx : IsN x) (hy : IsN y) : (FloatKind.f64.format.order x y == some .lt) = decide (sv x < sv y) := by
  show (double.order x y == some .lt) = _
  rw [order_eq hx hy]
  show (some (if sv x < sv y then Ordering.lt else if sv x = sv y then Ordering.eq else Ordering.gt) == some Ordering.lt) = _
  by_cases h : sv x < sv y
  · simp [h]
  · by_cases h2 : sv x = sv y <;> simp [h, h2]
theorem gt_spell {x y : Nat} (hx : IsN x) (hy : IsN y) : (FloatKind.f64.format.order x y == some .gt) = decide (sv y < sv x) := by
  show (double.order x y == some .gt) = _
  rw [order_eq hx hy]
  show (some (if sv x < sv y then Ordering.lt else if sv x = sv y then Ordering.eq else Ordering.gt) == some Ordering.gt) = _
  by_cases h : sv x < sv y
  · have : ¬ sv y < sv x := by omega
    simp [h, this]
  · by_cases h2 : sv x = sv y
    · simp [h2]
    · have : sv y < sv x := by omega
      simp [h, h2, this]
theorem eq_spell {x y : Nat} (hx : IsN x) (hy : IsN y) : (FloatKind.f64.format.order x y == some .eq) = decide (sv x = sv y) := by
  show (double.order x y == some .eq) = _
  rw [order_eq hx hy]
  show (some (if sv x < sv y then Ordering.lt else if sv x = sv y then Ordering.eq else Ordering.gt) == some Ordering.eq) = _
  by_cases h : sv x < sv y
  · have : ¬ sv x = sv y := by omega
    simp [h, this]
  · by_cases h2 : sv x = sv y <;> simp [h2, h]
theorem isN_KM : IsN KM := by unfold IsN rg INF; decide

/-- The nearest sample of what is a number. -/
theorem sample_any (x : Nat) (hx : IsN x) (w : World) : Calls Tryz.prog 61 #[.float .f64 x] w fun e w' => e = .returned (.tuple #[.int .i16 (smp x), .bool (smpB x)]) ∧ w = w' := by
  have o1 : ∀ t w, (binOp .mul t (.float .f64 x) (.float .f64 4674736413210574848)).run Tryz.prog w = .ok (.float .f64 (s1 x)) w := fun t w => run_float_arith w .mul t .f64 x _ _ (mul_KL hx)
  have o2 : ∀ t w, (binOp .add t (.float .f64 (s1 x)) (.float .f64 4843621399236968448)).run Tryz.prog w = .ok (.float .f64 (s2 (s1 x))) w := fun t w => run_float_arith w .add t .f64 _ _ _ (add_KW (s1_num x))
  have o3 : ∀ t w, (binOp .sub t (.float .f64 (s2 (s1 x))) (.float .f64 4843621399236968448)).run Tryz.prog w = .ok (.float .f64 (near x)) w := fun t w => run_float_arith w .sub t .f64 _ _ _ (sub_KW (s2_num _))
  have nn := near_num x
  have g1 := gt_spell nn isN_KL
  have g2 := eq_spell nn isN_KL
  have g3 := lt_spell nn isN_KM
  have e1 : smp x = if sv KL ≤ sv (near x) then 32767 else if sv (near x) < sv KM then -32768 else tr (sv (near x)) := rfl
  have e2 : smpB x = if sv KL ≤ sv (near x) then false else if sv (near x) < sv KM then false else true := rfl
  unfold KL at g1 g2
  unfold KM at g3
  by_cases a : sv KL ≤ sv (near x)
  · have a1 : (FloatKind.f64.format.order (near x) 4674736413210574848 == some .gt || FloatKind.f64.format.order (near x) 4674736413210574848 == some .eq) = true := by
      unfold KL at a
      rw [g1, g2]; simp; omega
    rw [if_pos a] at e1 e2
    rw [e1, e2]
    clear g1 g2 g3 e1 e2 a
    go_enter Tryz.func61, Tryz.ntmps61
    go_wp2_with (first | (go_at_call 51; refine (isNaN_no hx _).mono ?_; rintro e w' ⟨rfl, rfl⟩) | simp only [o1, o2, o3])
    go_ret2
    exact ⟨rfl, rfl⟩
  · have a1 : (FloatKind.f64.format.order (near x) 4674736413210574848 == some .gt || FloatKind.f64.format.order (near x) 4674736413210574848 == some .eq) = false := by
      unfold KL at a
      rw [g1, g2]; simp; omega
    rw [if_neg a] at e1 e2
    by_cases b : sv (near x) < sv KM
    · have b1 : (FloatKind.f64.format.order (near x) 13898108450065350656 == some .lt) = true := by unfold KM at b; rw [g3]; simp [b]
      rw [if_pos b] at e1 e2
      rw [e1, e2]
      clear g1 g2 g3 e1 e2 a b
      go_enter Tryz.func61, Tryz.ntmps61
      go_wp2_with (first | (go_at_call 51; refine (isNaN_no hx _).mono ?_; rintro e w' ⟨rfl, rfl⟩) | simp only [o1, o2, o3])
      go_ret2
      exact ⟨rfl, rfl⟩
    · have b1 : (FloatKind.f64.format.order (near x) 13898108450065350656 == some .lt) = false := by unfold KM at b; rw [g3]; simp; omega
      rw [if_neg b] at e1 e2
      have hfin : FinW (near x) := by
        rcases fin_or nn with h | h
        · exact h
        · exfalso
          have hi := sv_inf h
          have hk : sv KL < V INF := (sv_fin (x := KL) (by unfold FinW rg INF; decide)).2
          have hm : -(V INF : Int) < sv KM := (sv_fin (x := KM) (by unfold FinW rg INF; decide)).1
          unfold sg at hi; split at hi <;> omega
      have hb := tr_bd (T := sv (near x)) (by omega) a
      have hc : ∀ w, (convert 58 68 (.float .f64 (near x))).run Tryz.prog w = .ok (.int .i16 (tr (sv (near x)))) w := fun w =>
        run_convert_float_int w _ _ .f64 .i16 _ _ (by kernel_rfl) Tryz.underlying68 (by
          unfold floatToIntVal
          rw [show FloatKind.f64.decode (near x) = double.read (near x) from rfl, toInt_eq hfin]
          show (if IntKind.i16.min ≤ tr (sv (near x)) ∧ tr (sv (near x)) ≤ IntKind.i16.max then some (tr (sv (near x))) else none) = _
          rw [if_pos ⟨hb.1, hb.2⟩])
      rw [e1, e2]
      clear g1 g2 g3 e1 e2 a b hb hfin
      go_enter Tryz.func61, Tryz.ntmps61
      go_wp2_with (first | (go_at_call 51; refine (isNaN_no hx _).mono ?_; rintro e w' ⟨rfl, rfl⟩) | simp only [o1, o2, o3, hc])
      go_ret2
      exact ⟨rfl, rfl⟩
end Go.Proofs.YtgcgmplepcfbaaaGreatDoor
/- What a sum of two floats loses is a float (Dekker). -/
namespace Go.Proofs.YtgcgmplepcfbaaaGreatDoor
namespace Fl
open Ieee

/-- A magnitude that a finite or infinite word has. -/
def Rp (n : Nat) : Prop := ∃ r, r ≤ INF ∧ V r = n
def eo (r : Nat) : Nat := r / 4503599627370496 - 1
theorem V_eo (r : Nat) : ∃ m, m < 9007199254740992 ∧ V r = m * 2 ^ eo r := by
  unfold V eo
  by_cases h : r < 4503599627370496
  · rw [if_pos h, show r / 4503599627370496 - 1 = 0 by omega]; exact ⟨r, by omega, by simp⟩
  · rw [if_neg h]; exact ⟨_, by omega, rfl⟩
theorem eo_mono {r s : Nat} (h : r ≤ s) : eo r ≤ eo s := by
  unfold eo; have := Nat.div_le_div_right (c := 4503599627370496) h; omega
theorem V_norm {k E : Nat} (h1 : k ≤ 9007199254740992) (h2 : 0 < E → 4503599627370496 ≤ k) : V (E * 4503599627370496 + k) = k * 2 ^ E := by
  unfold V
  rcases Nat.eq_zero_or_pos E with h | h
  · subst h
    rw [Nat.zero_mul, Nat.zero_add, Nat.pow_zero, Nat.mul_one]
    by_cases a : k < 4503599627370496
    · rw [if_pos a]
    · rw [if_neg a]
      by_cases b : k = 9007199254740992
      · subst b; rfl
      · rw [show k / 4503599627370496 - 1 = 0 by omega, Nat.pow_zero]; omega
  · have := h2 h
    rw [if_neg (by omega)]
    by_cases b : k = 9007199254740992
    · subst b
      rw [show (E * 4503599627370496 + 9007199254740992) / 4503599627370496 - 1 = E + 1 by omega, show (E * 4503599627370496 + 9007199254740992) % 4503599627370496 = 0 by omega, Nat.pow_succ]
      omega
    · rw [show (E * 4503599627370496 + k) / 4503599627370496 - 1 = E by omega, show 4503599627370496 + (E * 4503599627370496 + k) % 4503599627370496 = k by omega]
/-- What is on a grid and not too many steps up is a float. -/
theorem rp_grid {n m e : Nat} (hn : n = m * 2 ^ e) (hm : m ≤ 9007199254740992) (hI : n ≤ V INF) : Rp n := by
  rcases Nat.eq_zero_or_pos m with h0 | h0
  · subst h0; exact ⟨0, Nat.zero_le _, by rw [hn, V_zero, Nat.zero_mul]⟩
  have key : ∃ k E, n = k * 2 ^ E ∧ k ≤ 9007199254740992 ∧ (0 < E → 4503599627370496 ≤ k) := by
    by_cases a : 4503599627370496 ≤ m
    · exact ⟨m, e, hn, hm, fun _ => a⟩
    · -- shift up as far as may be
      have hl := Nat.log2_self_le (n := m) (by omega)
      have hu : m < 2 ^ (m.log2 + 1) := Nat.lt_log2_self
      have hl52 : m.log2 < 52 := (Nat.log2_lt (by omega)).2 (by omega)
      by_cases b : e ≤ 52 - m.log2
      · refine ⟨m * 2 ^ e, 0, by rw [hn]; simp, ?_, fun h => absurd h (by omega)⟩
        have h1 : m * 2 ^ e < 2 ^ (m.log2 + 1) * 2 ^ e := Nat.mul_lt_mul_of_pos_right hu (Nat.two_pow_pos _)
        rw [← Nat.pow_add] at h1
        have h2 : 2 ^ (m.log2 + 1 + e) ≤ 2 ^ 53 := Nat.pow_le_pow_right (by omega) (by omega)
        omega
      · refine ⟨m * 2 ^ (52 - m.log2), e - (52 - m.log2), ?_, ?_, fun _ => ?_⟩
        · rw [Nat.mul_assoc, ← Nat.pow_add, show 52 - m.log2 + (e - (52 - m.log2)) = e by omega]; exact hn
        · have h1 : m * 2 ^ (52 - m.log2) < 2 ^ (m.log2 + 1) * 2 ^ (52 - m.log2) := Nat.mul_lt_mul_of_pos_right hu (Nat.two_pow_pos _)
          rw [← Nat.pow_add, show m.log2 + 1 + (52 - m.log2) = 53 by omega] at h1
          omega
        · have h1 : 2 ^ m.log2 * 2 ^ (52 - m.log2) ≤ m * 2 ^ (52 - m.log2) := Nat.mul_le_mul_right _ hl
          rw [← Nat.pow_add, show m.log2 + (52 - m.log2) = 52 by omega] at h1
          exact h1
  obtain ⟨k, E, e1, e2, e3⟩ := key
  have e4 := V_norm e2 e3
  exact ⟨_, le_of_V (by rw [e4, ← e1]; exact hI), by rw [e4, ← e1]⟩

def Eo (n : Nat) : Nat := n.log2 - 52
def rdn (n : Nat) : Nat := rne n (2 ^ Eo n) * 2 ^ Eo n
theorem top_lt (n : Nat) : n < 9007199254740992 * 2 ^ Eo n := by
  have h : n < 2 ^ (n.log2 + 1) := Nat.lt_log2_self
  have h2 : 2 ^ (n.log2 + 1) ≤ 2 ^ (53 + Eo n) := Nat.pow_le_pow_right (by omega) (by unfold Eo; omega)
  rw [Nat.pow_add 2 53] at h2
  omega
theorem top_le (n : Nat) (h : 0 < Eo n) : 4503599627370496 * 2 ^ Eo n ≤ n := by
  have h0 : n ≠ 0 := by intro e; subst e; simp [Eo] at h
  have h1 := Nat.log2_self_le h0
  have h2 : 2 ^ n.log2 = 2 ^ 52 * 2 ^ Eo n := by rw [← Nat.pow_add]; congr 1; unfold Eo at *; omega
  omega
/-- Rounding, where it stays finite. -/
theorem V_rung {n : Nat} (h : rung n (-1074) < INF) : V (rung n (-1074)) = rdn n := by
  by_cases h0 : n = 0
  · subst h0; simp [rung, V_zero, rdn, rne]
  have hk := kept_le n (-1074)
  have hlo : (lastOf n (-1074) + 1074).toNat = Eo n := by unfold lastOf Eo; omega
  have hkept : kept n (-1074) = rne n (2 ^ Eo n) := by
    unfold kept
    rw [show (-1074 - lastOf n (-1074)).toNat = 0 by unfold lastOf; omega, Nat.pow_zero, Nat.mul_one, show (lastOf n (-1074) - -1074).toNat = Eo n by rw [← hlo]; congr 1]
  have hge : 0 < Eo n → 4503599627370496 ≤ kept n (-1074) := fun hE => le_kept n (-1074) h0 (by unfold lastOf; unfold Eo at hE; omega)
  unfold rung at h ⊢
  rw [if_neg h0] at h ⊢
  rw [hlo] at h ⊢
  have e : min (Eo n * 4503599627370496 + kept n (-1074)) 9218868437227405312 = Eo n * 4503599627370496 + kept n (-1074) := by
    unfold INF at h; omega
  rw [e, V_norm hk hge, hkept]
  rfl
theorem rne_near (n g : Nat) (hg : 0 < g) : (rne n g = n / g ∧ 2 * (n % g) ≤ g) ∨ (rne n g = n / g + 1 ∧ g ≤ 2 * (n % g)) := by
  have hr := Nat.mod_lt n hg
  unfold rne
  cases hb : (decide (g < 2 * (n % g)) || (g == 2 * (n % g) && n / g % 2 == 1))
  · left
    simp only [Bool.or_eq_false_iff, decide_eq_false_iff_not] at hb
    exact ⟨by simp, by omega⟩
  · right
    simp only [Bool.or_eq_true, decide_eq_true_eq, Bool.and_eq_true, beq_iff_eq] at hb
    exact ⟨by simp, by omega⟩
/-- Floats lie on the grid of a number's last place, or below its top place. -/
theorem rp_below {n A : Nat} (hA : Rp A) (h : A ≤ n) : A ≤ n / 2 ^ Eo n * 2 ^ Eo n := by
  obtain ⟨r, -, rfl⟩ := hA
  obtain ⟨m, hm, e⟩ := V_eo r
  have hp := Nat.two_pow_pos (Eo n)
  rcases Nat.eq_zero_or_pos (Eo n) with h0 | h0
  · rw [h0]; simp; exact h
  have ht := top_le n h0
  rcases Nat.lt_or_ge (eo r) (Eo n) with hl | hl
  · have h1 : V r ≤ 4503599627370496 * 2 ^ Eo n := by
      rw [e]
      have h2 : m * 2 ^ eo r ≤ 9007199254740992 * 2 ^ eo r := Nat.mul_le_mul_right _ (by omega)
      have h3 : 2 ^ (eo r + 1) ≤ 2 ^ Eo n := Nat.pow_le_pow_right (by omega) hl
      rw [Nat.pow_succ] at h3
      omega
    refine Nat.le_trans h1 (Nat.mul_le_mul_right _ ?_)
    exact (Nat.le_div_iff_mul_le hp).2 ht
  · have e2 : V r = (m * 2 ^ (eo r - Eo n)) * 2 ^ Eo n := by rw [e, Nat.mul_assoc, ← Nat.pow_add, show eo r - Eo n + Eo n = eo r by omega]
    rw [e2] at h ⊢
    exact Nat.mul_le_mul_right _ ((Nat.le_div_iff_mul_le hp).2 h)
theorem rp_above {n A : Nat} (hA : Rp A) (h : n < A) : (n / 2 ^ Eo n + 1) * 2 ^ Eo n ≤ A := by
  obtain ⟨r, -, rfl⟩ := hA
  obtain ⟨m, hm, e⟩ := V_eo r
  have hp := Nat.two_pow_pos (Eo n)
  rcases Nat.eq_zero_or_pos (Eo n) with h0 | h0
  · rw [h0]; simp; omega
  have ht := top_le n h0
  rcases Nat.lt_or_ge (eo r) (Eo n) with hl | hl
  · exfalso
    have h2 : m * 2 ^ eo r ≤ 9007199254740992 * 2 ^ eo r := Nat.mul_le_mul_right _ (by omega)
    have h3 : 2 ^ (eo r + 1) ≤ 2 ^ Eo n := Nat.pow_le_pow_right (by omega) hl
    rw [Nat.pow_succ] at h3
    omega
  · have e2 : V r = (m * 2 ^ (eo r - Eo n)) * 2 ^ Eo n := by rw [e, Nat.mul_assoc, ← Nat.pow_add, show eo r - Eo n + Eo n = eo r by omega]
    rw [e2] at h ⊢
    exact Nat.mul_le_mul_right _ ((Nat.div_lt_iff_lt_mul hp).2 h)
/-- No float is nearer. -/
theorem rdn_near {n A : Nat} (hA : Rp A) : ((n : Int) - rdn n).natAbs ≤ ((n : Int) - A).natAbs := by
  have hp := Nat.two_pow_pos (Eo n)
  have hd := Nat.div_add_mod n (2 ^ Eo n)
  have hr := Nat.mod_lt n hp
  have hsucc : (n / 2 ^ Eo n + 1) * 2 ^ Eo n = n / 2 ^ Eo n * 2 ^ Eo n + 2 ^ Eo n := Nat.succ_mul _ _
  rw [Nat.mul_comm] at hd
  unfold rdn
  rcases Nat.lt_or_ge n A with h | h
  · have h1 := rp_above hA h
    rcases rne_near n (2 ^ Eo n) hp with ⟨e, h2⟩ | ⟨e, h2⟩ <;> rw [e] <;> omega
  · have h1 := rp_below hA h
    rcases rne_near n (2 ^ Eo n) hp with ⟨e, h2⟩ | ⟨e, h2⟩ <;> rw [e] <;> omega
theorem rdn_grid (n : Nat) : ∃ k, rdn n = k * 2 ^ Eo n := ⟨_, rfl⟩
theorem rdn_half (n : Nat) : 2 * ((n : Int) - rdn n).natAbs ≤ 2 ^ Eo n := by
  have hp := Nat.two_pow_pos (Eo n)
  have hd := Nat.div_add_mod n (2 ^ Eo n)
  have hr := Nat.mod_lt n hp
  have hsucc : (n / 2 ^ Eo n + 1) * 2 ^ Eo n = n / 2 ^ Eo n * 2 ^ Eo n + 2 ^ Eo n := Nat.succ_mul _ _
  rw [Nat.mul_comm] at hd
  unfold rdn
  rcases rne_near n (2 ^ Eo n) hp with ⟨e, h2⟩ | ⟨e, h2⟩ <;> rw [e] <;> omega
theorem rdn_zero (n : Nat) (h : Eo n = 0) : rdn n = n := by unfold rdn; rw [h]; simp [rne_one]
end Fl
end Go.Proofs.YtgcgmplepcfbaaaGreatDoor
/- A sum of two floats, less the greater one, and what it lost, are floats. -/
namespace Go.Proofs.YtgcgmplepcfbaaaGreatDoor
namespace Fl
open Ieee

theorem rp_dvd {n e : Nat} (hd : 2 ^ e ∣ n) (hm : n ≤ 9007199254740992 * 2 ^ e) (hI : n ≤ V INF) : Rp n := by
  obtain ⟨k, hk⟩ := hd
  rw [Nat.mul_comm] at hk
  exact rp_grid hk (Nat.le_of_mul_le_mul_right (by rw [← hk]; exact hm) (Nat.two_pow_pos e)) hI
theorem rdn_dvd {n : Nat} (h : 2 ^ Eo n ∣ n) : rdn n = n := by
  have hp := Nat.two_pow_pos (Eo n)
  have h0 := Nat.mod_eq_zero_of_dvd h
  have hd := Nat.div_mul_cancel h
  unfold rdn
  rcases rne_near n (2 ^ Eo n) hp with ⟨e, h2⟩ | ⟨e, h2⟩
  · rw [e]; exact hd
  · omega
theorem rp_le {n : Nat} (h : Rp n) : n ≤ V INF := by obtain ⟨r, h1, rfl⟩ := h; exact V_le h1
theorem rp_zero : Rp 0 := ⟨0, Nat.zero_le _, V_zero⟩
theorem V_dvd (r : Nat) : 2 ^ eo r ∣ V r := by obtain ⟨m, -, e⟩ := V_eo r; exact ⟨m, by rw [e, Nat.mul_comm]⟩
theorem V_top (r : Nat) : V r ≤ 9007199254740992 * 2 ^ eo r := by
  obtain ⟨m, h, e⟩ := V_eo r; rw [e]; exact Nat.mul_le_mul_right _ (by omega)

theorem dek {A B x : Nat} (hA : Rp A) (hB : Rp B) (hBA : B ≤ A) (hx : x = A + B ∨ x + B = A) (hS : rdn x ≤ V INF) :
    Rp ((rdn x : Int) - A).natAbs ∧ Rp ((x : Int) - rdn x).natAbs ∧ ((x : Int) - rdn x).natAbs ≤ rdn x := by
  have nA := rdn_near (n := x) hA
  have n0 := rdn_near (n := x) rp_zero
  have hh := rdn_half x
  have iA := rp_le hA
  have hA2 := hA
  have hB2 := hB
  obtain ⟨r, hr, eA⟩ := hA
  obtain ⟨s, hs, eB⟩ := hB
  have hsr : s ≤ r := le_of_V (by omega)
  have he := eo_mono hsr
  have dA : 2 ^ eo r ∣ A := eA ▸ V_dvd r
  have dB : 2 ^ eo s ∣ B := eB ▸ V_dvd s
  have dA' : 2 ^ eo s ∣ A := Nat.dvd_trans (Nat.pow_dvd_pow 2 he) dA
  have tA : A ≤ 9007199254740992 * 2 ^ eo r := eA ▸ V_top r
  have tB : B ≤ 9007199254740992 * 2 ^ eo s := eB ▸ V_top s
  have dx : 2 ^ eo s ∣ x := by
    rcases hx with h | h
    · rw [h]; exact Nat.dvd_add dA' dB
    · have : x = A - B := by omega
      rw [this]; exact Nat.dvd_sub dA' dB
  have tx := top_le x
  have dS : 2 ^ Eo x ∣ rdn x := ⟨_, Nat.mul_comm _ _⟩
  by_cases hE : Eo x ≤ eo s
  · have e : rdn x = x := rdn_dvd (Nat.dvd_trans (Nat.pow_dvd_pow 2 hE) dx)
    rw [e]
    refine ⟨?_, by rw [Int.sub_self]; exact rp_zero, by rw [Int.sub_self]; exact Nat.zero_le _⟩
    rw [show ((x : Int) - A).natAbs = B by omega]
    exact hB2
  · have hE : eo s < Eo x := by omega
    have p2 : 2 * 2 ^ eo s ≤ 2 ^ Eo x := by
      have := Nat.pow_le_pow_right (n := 2) (by omega) (show eo s + 1 ≤ Eo x from hE)
      rw [Nat.pow_succ] at this; omega
    have gt := tx (by omega)
    have dS' : 2 ^ eo s ∣ rdn x := Nat.dvd_trans (Nat.pow_dvd_pow 2 (by omega)) dS
    have sub_dvd : ∀ {k a b : Nat}, k ∣ a → k ∣ b → k ∣ ((a : Int) - b).natAbs := by
      intro k a b h1 h2
      rcases Nat.le_total a b with h | h
      · rw [show ((a : Int) - b).natAbs = b - a by omega]; exact Nat.dvd_sub h2 h1
      · rw [show ((a : Int) - b).natAbs = a - b by omega]; exact Nat.dvd_sub h1 h2
    have hSx : 2 ^ Eo x ≤ rdn x := by
      unfold rdn
      have h1 : 1 ≤ x / 2 ^ Eo x := (Nat.le_div_iff_mul_le (Nat.two_pow_pos _)).2 (by omega)
      have h2 := le_rne x (2 ^ Eo x)
      exact Nat.le_mul_of_pos_left _ (by omega)
    refine ⟨?_, ?_, by omega⟩
    · by_cases hEa : eo r ≤ Eo x
      · have dSa : 2 ^ eo r ∣ rdn x := Nat.dvd_trans (Nat.pow_dvd_pow 2 hEa) dS
        refine rp_dvd (sub_dvd dSa dA) ?_ ?_
        · refine Nat.le_trans ?_ tA
          rcases hx with h | h
          · have n2 : rdn x ≤ 2 * A := by
              by_cases h2 : 2 * A ≤ V INF
              · have hr2 : Rp (2 * A) := rp_dvd (e := eo r + 1) (by rw [Nat.pow_succ, Nat.mul_comm]; exact Nat.mul_dvd_mul_left 2 dA) (by rw [Nat.pow_succ]; omega) h2
                have := rdn_near (n := x) hr2
                omega
              · omega
            omega
          · omega
        · omega
      · refine rp_dvd (e := Eo x) (sub_dvd dS (Nat.dvd_trans (Nat.pow_dvd_pow 2 (by omega)) dA)) ?_ ?_
        · omega
        · omega
    · refine rp_dvd (sub_dvd dx dS') ?_ ?_
      · omega
      · omega

theorem sg_natAbs (s : Bool) (n : Nat) : (sg s n).natAbs = n := by unfold sg; cases s <;> simp
/-- With signs. -/
theorem dekI {A B : Int} (hA : Rp A.natAbs) (hB : Rp B.natAbs) (h : B.natAbs ≤ A.natAbs) (hS : rdn (A + B).natAbs ≤ V INF) :
    Rp (sg (decide (A + B < 0)) (rdn (A + B).natAbs) - A).natAbs ∧ Rp (A + B - sg (decide (A + B < 0)) (rdn (A + B).natAbs)).natAbs ∧
    (A + B - sg (decide (A + B < 0)) (rdn (A + B).natAbs)).natAbs ≤ rdn (A + B).natAbs ∧
    ((sg (decide (A + B < 0)) (rdn (A + B).natAbs) - A).natAbs ≤ rdn (A + B).natAbs ∨ (sg (decide (A + B < 0)) (rdn (A + B).natAbs) - A).natAbs ≤ A.natAbs) := by
  obtain ⟨x, hx⟩ : ∃ x, (A + B).natAbs = x := ⟨_, rfl⟩
  rw [hx] at hS ⊢
  have hz : x = 0 → rdn x = 0 := fun e => by subst e; rfl
  obtain ⟨h1, h2, h3⟩ := dek (x := x) hA hB h (by omega) hS
  generalize rdn x = S at *
  unfold sg
  by_cases hn : A + B < 0
  · simp only [hn, decide_true, if_true]
    refine ⟨?_, ?_, ?_, ?_⟩
    · rw [show (-(S : Int) - A).natAbs = ((S : Int) - A.natAbs).natAbs by omega]; exact h1
    · rw [show (A + B - -(S : Int)).natAbs = ((x : Int) - S).natAbs by omega]; exact h2
    · rw [show (A + B - -(S : Int)).natAbs = ((x : Int) - S).natAbs by omega]; exact h3
    · omega
  · simp only [hn, decide_false, Bool.false_eq_true, if_false]
    rcases Nat.eq_zero_or_pos x with h0 | h0
    · have := hz h0
      subst this; subst h0
      refine ⟨?_, ?_, ?_, ?_⟩
      · rw [show (((0 : Nat) : Int) - A).natAbs = A.natAbs by omega]; exact hA
      · rw [show (A + B - ((0 : Nat) : Int)).natAbs = 0 by omega]; exact rp_zero
      · omega
      · omega
    · refine ⟨?_, ?_, ?_, ?_⟩
      · rw [show ((S : Int) - A).natAbs = ((S : Int) - A.natAbs).natAbs by omega]; exact h1
      · rw [show (A + B - (S : Int)).natAbs = ((x : Int) - S).natAbs by omega]; exact h2
      · rw [show (A + B - (S : Int)).natAbs = ((x : Int) - S).natAbs by omega]; exact h3
      · omega
end Fl
end Go.Proofs.YtgcgmplepcfbaaaGreatDoor
