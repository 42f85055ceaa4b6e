/- Floats as whole numbers of least units: what a word is worth; sums, products, order. -/
import Derived.Test.YtgdcahdnojaebaaFl
namespace Go.Proofs.Ytgdcahdnojaebaa
namespace Fl
open Ieee

/-- What a rung is worth, in least units. -/
def V (r : Nat) : Nat := if r < 4503599627370496 then r else (4503599627370496 + r % 4503599627370496) * 2 ^ (r / 4503599627370496 - 1)
theorem V_lt {r s : Nat} (h : r < s) : V r < V s := by
  unfold V
  by_cases hr : r < 4503599627370496
  · rw [if_pos hr]
    by_cases hs : s < 4503599627370496
    · rw [if_pos hs]; exact h
    · rw [if_neg hs]
      have := Nat.le_mul_of_pos_right (4503599627370496 + s % 4503599627370496) (Nat.two_pow_pos (s / 4503599627370496 - 1))
      omega
  · rw [if_neg hr, if_neg (by omega)]
    by_cases hq : r / 4503599627370496 = s / 4503599627370496
    · rw [hq]; exact Nat.mul_lt_mul_of_pos_right (by omega) (Nat.two_pow_pos _)
    · have h1 : (4503599627370496 + r % 4503599627370496) * 2 ^ (r / 4503599627370496 - 1) < (4503599627370496 * 2) * 2 ^ (r / 4503599627370496 - 1) := Nat.mul_lt_mul_of_pos_right (by omega) (Nat.two_pow_pos _)
      rw [Nat.mul_assoc, ← Nat.pow_succ'] at h1
      have h2 : 4503599627370496 * 2 ^ (r / 4503599627370496 - 1 + 1) ≤ 4503599627370496 * 2 ^ (s / 4503599627370496 - 1) := Nat.mul_le_mul_left _ (Nat.pow_le_pow_right (by omega) (by omega))
      have h3 := Nat.mul_le_mul_right (2 ^ (s / 4503599627370496 - 1)) (Nat.le_add_right 4503599627370496 (s % 4503599627370496))
      omega
theorem V_le {r s : Nat} (h : r ≤ s) : V r ≤ V s := by
  rcases Nat.lt_or_eq_of_le h with h | h
  · exact Nat.le_of_lt (V_lt h)
  · rw [h]; exact Nat.le_refl _
theorem le_of_V {r s : Nat} (h : V r ≤ V s) : r ≤ s := by
  rcases Nat.lt_or_ge s r with h1 | h1
  · have := V_lt h1; omega
  · exact h1
theorem V_zero : V 0 = 0 := rfl
def INF : Nat := 9218868437227405312

def rg (x : Nat) : Nat := x % 9223372036854775808
def ngb (x : Nat) : Bool := x / 9223372036854775808 % 2 == 1
/-- The word is no NaN. -/
def IsN (x : Nat) : Prop := rg x ≤ INF
def FinW (x : Nat) : Prop := rg x < INF
def sg (s : Bool) (m : Nat) : Int := if s then -(m : Int) else m
/-- What a word is worth. -/
def sv (x : Nat) : Int := sg (ngb x) (V (rg x))
def wd (s : Bool) (r : Nat) : Nat := if s then 9223372036854775808 + r else r
theorem wd_eq (s : Bool) (r : Nat) : double.word s r = wd s r := by
  unfold Format.word wd
  have : double.signWeight = 9223372036854775808 := by decide
  rw [this]
theorem rg_wd (s : Bool) {r : Nat} (h : r ≤ INF) : rg (wd s r) = r := by
  unfold INF at h; unfold rg wd; cases s <;> simp <;> omega
theorem ngb_wd (s : Bool) {r : Nat} (h : r ≤ INF) : ngb (wd s r) = s := by
  unfold INF at h; unfold ngb wd
  cases s
  · simp; omega
  · simp; omega
theorem sv_wd (s : Bool) {r : Nat} (h : r ≤ INF) : sv (wd s r) = sg s (V r) := by unfold sv; rw [rg_wd s h, ngb_wd s h]
theorem isN_wd (s : Bool) {r : Nat} (h : r ≤ INF) : IsN (wd s r) := by unfold IsN; rw [rg_wd s h]; exact h

theorem read_eq (x : Nat) : double.read x = (if rg x < 4503599627370496 then .number (ngb x) (rg x) (-1074)
    else if rg x < INF then .number (ngb x) (4503599627370496 + rg x % 4503599627370496) (-1074 + (rg x / 4503599627370496 - 1 : Nat))
    else if rg x = INF then .infinity (ngb x) else .nan (ngb x) (rg x - INF)) := by
  unfold Format.read
  have e1 : double.leastPlace = -1074 := by decide
  have e2 : double.binade = 4503599627370496 := by decide
  have e3 : double.infRung = INF := by decide
  have e4 : double.signWeight = 9223372036854775808 := by decide
  simp only [e1, e2, e3, e4]
  rfl
theorem read_num {x : Nat} (h : FinW x) : ∃ m e : Nat, double.read x = .number (ngb x) m (-1074 + e) ∧ m * 2 ^ e = V (rg x) := by
  unfold FinW at h
  rw [read_eq]
  unfold V
  by_cases h1 : rg x < 4503599627370496
  · rw [if_pos h1, if_pos h1]; exact ⟨rg x, 0, rfl, by simp⟩
  · rw [if_neg h1, if_neg h1, if_pos h]; exact ⟨_, _, rfl, rfl⟩
theorem read_inf {x : Nat} (h : rg x = INF) : double.read x = .infinity (ngb x) := by
  rw [read_eq, h, if_neg (by unfold INF; omega), if_neg (by omega), if_pos rfl]
theorem fin_or {x : Nat} (h : IsN x) : FinW x ∨ rg x = INF := by unfold IsN at h; unfold FinW; omega

theorem signed_eq (s : Bool) (m k : Nat) : signed s m k = sg s m * (2 ^ k : Nat) := by
  unfold signed sg
  rw [Nat.shiftLeft_eq]
  cases s <;> simp [Int.neg_mul]
theorem sg_mul (s : Bool) (m k : Nat) : sg s m * (k : Int) = sg s (m * k) := by
  unfold sg; cases s <;> simp [Int.neg_mul]
theorem pow_pos (k : Nat) : (0 : Int) < (2 ^ k : Nat) := by have := Nat.two_pow_pos k; omega
theorem cmp_mul (a b : Int) {k : Int} (hk : 0 < k) : compare (a * k) (b * k) = compare a b := by
  have h1 : (a * k < b * k) ↔ a < b := ⟨fun h => Int.lt_of_mul_lt_mul_right h (Int.le_of_lt hk), fun h => Int.mul_lt_mul_of_pos_right h hk⟩
  have h2 : (a * k = b * k) ↔ a = b := ⟨fun h => Int.eq_of_mul_eq_mul_right (by omega) h, fun h => by rw [h]⟩
  show (if a * k < b * k then Ordering.lt else if a * k = b * k then Ordering.eq else Ordering.gt) = (if a < b then Ordering.lt else if a = b then Ordering.eq else Ordering.gt)
  simp only [h1, h2]
theorem V_fin {x : Nat} (h : FinW x) : V (rg x) < V INF := V_lt h
theorem sv_bd {x : Nat} (h : IsN x) : -(V INF : Int) ≤ sv x ∧ sv x ≤ V INF := by
  have := V_le h; unfold sv sg; split <;> omega
theorem sv_fin {x : Nat} (h : FinW x) : -(V INF : Int) < sv x ∧ sv x < V INF := by
  have := V_fin h; unfold sv sg; split <;> omega
theorem sv_inf {x : Nat} (h : rg x = INF) : sv x = sg (ngb x) (V INF) := by unfold sv; rw [h]
theorem V_inf_pos : 0 < V INF := V_lt (r := 0) (by unfold INF; omega)

/-- The order of two numbers is that of what they are worth. -/
theorem order_eq {x y : Nat} (hx : IsN x) (hy : IsN y) : double.order x y = some (compare (sv x) (sv y)) := by
  unfold Format.order
  have hp := V_inf_pos
  rcases fin_or hx with fx | ix <;> rcases fin_or hy with fy | iy
  · obtain ⟨m, e, hm, em⟩ := read_num fx
    obtain ⟨n, i, hn, en⟩ := read_num fy
    rw [hm, hn]
    show some (compare (signed _ _ _) (signed _ _ _)) = _
    rw [signed_eq, signed_eq]
    unfold sv
    rw [← em, ← en, ← sg_mul, ← sg_mul]
    rcases Nat.le_total e i with h | h
    · rw [show min (-1074 + (e : Int)) (-1074 + i) = -1074 + e by omega, show (-1074 + (e : Int) - (-1074 + e)).toNat = 0 by omega, show (-1074 + (i : Int) - (-1074 + e)).toNat = i - e by omega]
      rw [← cmp_mul _ _ (pow_pos e), Int.mul_assoc, Int.mul_assoc, ← Int.natCast_mul, ← Int.natCast_mul, ← Nat.pow_add, ← Nat.pow_add, show 0 + e = e by omega, show i - e + e = i by omega]
    · rw [show min (-1074 + (e : Int)) (-1074 + i) = -1074 + i by omega, show (-1074 + (i : Int) - (-1074 + i)).toNat = 0 by omega, show (-1074 + (e : Int) - (-1074 + i)).toNat = e - i by omega]
      rw [← cmp_mul _ _ (pow_pos i), Int.mul_assoc, Int.mul_assoc, ← Int.natCast_mul, ← Int.natCast_mul, ← Nat.pow_add, ← Nat.pow_add, show 0 + i = i by omega, show e - i + i = e by omega]
  · obtain ⟨m, e, hm, em⟩ := read_num fx
    have := sv_fin fx
    rw [hm, read_inf iy, sv_inf iy]
    show some (if ngb y then Ordering.gt else Ordering.lt) = some (if sv x < sg (ngb y) (V INF) then Ordering.lt else if sv x = sg (ngb y) (V INF) then Ordering.eq else Ordering.gt)
    unfold sg
    cases ngb y
    · rw [if_neg (by simp), if_pos (by simp; omega)]
    · rw [if_pos rfl, if_neg (by simp; omega), if_neg (by simp; omega)]
  · obtain ⟨m, e, hm, em⟩ := read_num fy
    have := sv_fin fy
    rw [hm, read_inf ix, sv_inf ix]
    show some (if ngb x then Ordering.lt else Ordering.gt) = some (if sg (ngb x) (V INF) < sv y then Ordering.lt else if sg (ngb x) (V INF) = sv y then Ordering.eq else Ordering.gt)
    unfold sg
    cases ngb x
    · rw [if_neg (by simp), if_neg (by simp; omega), if_neg (by simp; omega)]
    · rw [if_pos rfl, if_pos (by simp; omega)]
  · rw [read_inf ix, read_inf iy, sv_inf ix, sv_inf iy]
    show some (compare (ngb y).toNat (ngb x).toNat) = some (if sg (ngb x) (V INF) < sg (ngb y) (V INF) then Ordering.lt else if sg (ngb x) (V INF) = sg (ngb y) (V INF) then Ordering.eq else Ordering.gt)
    unfold sg
    cases ngb x <;> cases ngb y <;> simp
    · rw [if_neg (by omega), if_neg (by omega)]; rfl
    · rw [if_pos (by omega)]; rfl

/-- What a rung is worth is rounded to that rung. -/
theorem rung_V {r : Nat} (h : r ≤ INF) : rung (V r) (-1074) = r := by
  unfold INF at h
  unfold V
  by_cases h1 : r < 4503599627370496
  · rw [if_pos h1]
    unfold rung
    by_cases h0 : r = 0
    · rw [if_pos h0, h0]
    · rw [if_neg h0]
      have hl : r.log2 < 52 := (Nat.log2_lt h0).2 h1
      have e : lastOf r (-1074) = -1074 := by unfold lastOf; omega
      unfold kept
      rw [e]
      show min (0 * _ + rne (r * 1) 1) _ = r
      rw [rne_one]; omega
  · rw [if_neg h1, rung_shift]
    have hm : (4503599627370496 + r % 4503599627370496).log2 = 52 := by
      have a : 52 ≤ (4503599627370496 + r % 4503599627370496).log2 := (Nat.le_log2 (by omega)).2 (by omega)
      have b : (4503599627370496 + r % 4503599627370496).log2 < 53 := (Nat.log2_lt (by omega)).2 (by omega)
      omega
    have e : lastOf (4503599627370496 + r % 4503599627370496) (-1074 + (r / 4503599627370496 - 1 : Nat)) = -1074 + (r / 4503599627370496 - 1 : Nat) := by unfold lastOf; rw [hm]; omega
    unfold rung kept
    rw [e, if_neg (by omega), Int.sub_self]
    show min (_ + rne (_ * 1) 1) _ = r
    rw [rne_one]; omega

/-- An exact whole number of least units, rounded. -/
def Rd (T : Int) : Int := sg (decide (T < 0)) (V (rung T.natAbs (-1074)))
theorem Rd_mono {S T : Int} (h : S ≤ T) : Rd S ≤ Rd T := by
  unfold Rd sg
  by_cases h1 : S < 0
  · by_cases h2 : T < 0
    · have := V_le (rung_mono (m := T.natAbs) (n := S.natAbs) (-1074) (by omega))
      simp [h1, h2]; omega
    · simp [h1, h2]; try omega
  · have h2 : ¬ T < 0 := by omega
    have := V_le (rung_mono (m := S.natAbs) (n := T.natAbs) (-1074) (by omega))
    simp [h1, h2]; omega

def sumS (s t : Bool) (T : Int) : Bool := if T = 0 then s && t else decide (T < 0)
theorem sum_num (s t : Bool) (m n e i : Nat) : (Datum.sum (.number s m (-1074 + e)) (.number t n (-1074 + i))).map double.write
    = some (wd (sumS s t (sg s (m * 2 ^ e) + sg t (n * 2 ^ i))) (rung (sg s (m * 2 ^ e) + sg t (n * 2 ^ i)).natAbs (-1074))) := by
  have key : ∀ (T : Int) (k : Nat), double.write (.number (if T = 0 then s && t else decide (T < 0)) T.natAbs (-1074 + k)) = wd (sumS s t (T * (2 ^ k : Nat))) (rung (T * (2 ^ k : Nat)).natAbs (-1074)) := by
    intro T k
    show double.nearest _ _ _ = _
    rw [nearest_eq, wd_eq, ← rung_shift, Int.natAbs_mul, Int.natAbs_natCast]
    congr 1
    unfold sumS
    have hk := pow_pos k
    have h1 : (T * (2 ^ k : Nat) = 0) ↔ T = 0 := ⟨fun h => by rcases Int.mul_eq_zero.1 h with h | h <;> omega, fun h => by rw [h, Int.zero_mul]⟩
    have h2 : (T * (2 ^ k : Nat) < 0) ↔ T < 0 := ⟨fun h => Int.lt_of_mul_lt_mul_right (by rw [Int.zero_mul]; exact h) (Int.le_of_lt hk), fun h => Int.mul_neg_of_neg_of_pos h hk⟩
    simp only [h1, h2]
  show some (double.write (.number (if (signed _ _ _ + signed _ _ _) = 0 then s && t else decide ((signed _ _ _ + signed _ _ _) < 0)) (signed _ _ _ + signed _ _ _).natAbs _)) = _
  rw [signed_eq, signed_eq]
  rcases Nat.le_total e i with h | h
  · rw [show min (-1074 + (e : Int)) (-1074 + i) = -1074 + e by omega, show (-1074 + (e : Int) - (-1074 + e)).toNat = 0 by omega, show (-1074 + (i : Int) - (-1074 + e)).toNat = i - e by omega, key, Int.add_mul, Int.mul_assoc, Int.mul_assoc, ← Int.natCast_mul, ← Int.natCast_mul, ← Nat.pow_add, ← Nat.pow_add, sg_mul, sg_mul, show 0 + e = e by omega, show i - e + e = i by omega]
  · rw [show min (-1074 + (e : Int)) (-1074 + i) = -1074 + i by omega, show (-1074 + (i : Int) - (-1074 + i)).toNat = 0 by omega, show (-1074 + (e : Int) - (-1074 + i)).toNat = e - i by omega, key, Int.add_mul, Int.mul_assoc, Int.mul_assoc, ← Int.natCast_mul, ← Int.natCast_mul, ← Nat.pow_add, ← Nat.pow_add, sg_mul, sg_mul, show 0 + i = i by omega, show e - i + i = e by omega]
theorem add_fin {x y : Nat} (hx : FinW x) (hy : FinW y) : double.add x y = some (wd (sumS (ngb x) (ngb y) (sv x + sv y)) (rung (sv x + sv y).natAbs (-1074))) := by
  obtain ⟨m, e, hm, em⟩ := read_num hx
  obtain ⟨n, i, hn, en⟩ := read_num hy
  unfold Format.add
  rw [hm, hn, sum_num, em, en]
  rfl
theorem sub_fin {x y : Nat} (hx : FinW x) (hy : FinW y) : double.sub x y = some (wd (sumS (ngb x) (!ngb y) (sv x - sv y)) (rung (sv x - sv y).natAbs (-1074))) := by
  obtain ⟨m, e, hm, em⟩ := read_num hx
  obtain ⟨n, i, hn, en⟩ := read_num hy
  have e1 : sv x - sv y = sg (ngb x) (m * 2 ^ e) + sg (!ngb y) (n * 2 ^ i) := by
    unfold sv; rw [em, en]; unfold sg; cases ngb x <;> cases ngb y <;> simp <;> omega
  unfold Format.sub
  rw [hm, hn]
  show (Datum.sum (.number _ _ _) (.number _ _ _)).map double.write = _
  rw [sum_num, e1]
theorem sumS_sv (s t : Bool) (T : Int) : sv (wd (sumS s t T) (rung T.natAbs (-1074))) = Rd T := by
  rw [sv_wd _ (rung_le _ _)]
  unfold Rd sumS
  by_cases h : T = 0
  · subst h; simp [sg, rung, V_zero]
  · rw [if_neg h]
/-- A float more, or less, an infinite one. -/
theorem add_inf {x y : Nat} (hx : rg x = INF) (hy : FinW y) : double.add x y = some (wd (ngb x) INF) := by
  obtain ⟨n, i, hn, en⟩ := read_num hy
  unfold Format.add
  rw [hn, read_inf hx]
  show some (double.word _ double.infRung) = _
  rw [wd_eq, show double.infRung = INF by decide]
theorem sub_inf {x y : Nat} (hx : rg x = INF) (hy : FinW y) : double.sub x y = some (wd (ngb x) INF) := by
  obtain ⟨n, i, hn, en⟩ := read_num hy
  unfold Format.sub
  rw [hn, read_inf hx]
  show some (double.word _ double.infRung) = _
  rw [wd_eq, show double.infRung = INF by decide]
end Fl
end Go.Proofs.Ytgdcahdnojaebaa
