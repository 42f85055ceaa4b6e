/- Contracts, in this order: Floats as whole numbers: rounding by rungs rises with what i · Floats as whole numbers of least units: what a word is worth · Which parts of a point are nought: no program but what order · A block of known cells. -/
import Ieee.Arith
import Derived.Test.YtepnghhgmjobjaaTq21
import Derived.Test.YtepnghhgmjobjaaTq04
namespace Go.Proofs.Ytepnghhgmjobjaa
namespace Fl
open Ieee
def rne (n g : Nat) : Nat := n / g + (decide (g < 2 * (n % g)) || (g == 2 * (n % g) && n / g % 2 == 1)).toNat
def lastOf (m : Nat) (p : Int) : Int := max (p + m.log2 - 52) (-1074)
def kept (m : Nat) (p : Int) : Nat := rne (m * 2 ^ (p - lastOf m p).toNat) (2 ^ (lastOf m p - p).toNat)
def rung (m : Nat) (p : Int) : Nat := if m = 0 then 0 else min ((lastOf m p + 1074).toNat * 4503599627370496 + kept m p) 9218868437227405312
end Fl
end Go.Proofs.Ytepnghhgmjobjaa
namespace Go.Proofs.Ytepnghhgmjobjaa
namespace Fl
open Ieee
def V (r : Nat) : Nat := if r < 4503599627370496 then r else (4503599627370496 + r % 4503599627370496) * 2 ^ (r / 4503599627370496 - 1)
theorem V_lt {r s : Nat} (h : r < s) : V r < V s := by
  unfold V
  by_cases hr : r < 4503599627370496
  · rw [if_pos hr]
    by_cases hs : s < 4503599627370496
    · rw [if_pos hs]; exact h
    · rw [if_neg hs]
      have := Nat.le_mul_of_pos_right (4503599627370496 + s % 4503599627370496) (Nat.two_pow_pos (s / 4503599627370496 - 1))
      omega
  · rw [if_neg hr, if_neg (by omega)]
    by_cases hq : r / 4503599627370496 = s / 4503599627370496
    · rw [hq]; exact Nat.mul_lt_mul_of_pos_right (by omega) (Nat.two_pow_pos _)
    · have h1 : (4503599627370496 + r % 4503599627370496) * 2 ^ (r / 4503599627370496 - 1) < (4503599627370496 * 2) * 2 ^ (r / 4503599627370496 - 1) := Nat.mul_lt_mul_of_pos_right (by omega) (Nat.two_pow_pos _)
      rw [Nat.mul_assoc, ← Nat.pow_succ'] at h1
      have h2 : 4503599627370496 * 2 ^ (r / 4503599627370496 - 1 + 1) ≤ 4503599627370496 * 2 ^ (s / 4503599627370496 - 1) := Nat.mul_le_mul_left _ (Nat.pow_le_pow_right (by omega) (by omega))
      have h3 := Nat.mul_le_mul_right (2 ^ (s / 4503599627370496 - 1)) (Nat.le_add_right 4503599627370496 (s % 4503599627370496))
      omega
def INF : Nat := 9218868437227405312
def rg (x : Nat) : Nat := x % 9223372036854775808
def ngb (x : Nat) : Bool := x / 9223372036854775808 % 2 == 1
def IsN (x : Nat) : Prop := rg x ≤ INF
def FinW (x : Nat) : Prop := rg x < INF
def sg (s : Bool) (m : Nat) : Int := if s then -(m : Int) else m
def sv (x : Nat) : Int := sg (ngb x) (V (rg x))
def wd (s : Bool) (r : Nat) : Nat := if s then 9223372036854775808 + r else r
theorem read_eq (x : Nat) : double.read x = (if rg x < 4503599627370496 then .number (ngb x) (rg x) (-1074)
    else if rg x < INF then .number (ngb x) (4503599627370496 + rg x % 4503599627370496) (-1074 + (rg x / 4503599627370496 - 1 : Nat))
    else if rg x = INF then .infinity (ngb x) else .nan (ngb x) (rg x - INF)) := by
  unfold Format.read
  have e1 : double.leastPlace = -1074 := by decide
  have e2 : double.binade = 4503599627370496 := by decide
  have e3 : double.infRung = INF := by decide
  have e4 : double.signWeight = 9223372036854775808 := by decide
  simp only [e1, e2, e3, e4]
  rfl
theorem read_num {x : Nat} (h : FinW x) : ∃ m e : Nat, double.read x = .number (ngb x) m (-1074 + e) ∧ m * 2 ^ e = V (rg x) := by
  unfold FinW at h
  rw [read_eq]
  unfold V
  by_cases h1 : rg x < 4503599627370496
  · rw [if_pos h1, if_pos h1]; exact ⟨rg x, 0, rfl, by simp⟩
  · rw [if_neg h1, if_neg h1, if_pos h]; exact ⟨_, _, rfl, rfl⟩
theorem read_inf {x : Nat} (h : rg x = INF) : double.read x = .infinity (ngb x) := by
  rw [read_eq, h, if_neg (by unfold INF; omega), if_neg (by omega), if_pos rfl]
theorem fin_or {x : Nat} (h : IsN x) : FinW x ∨ rg x = INF := by unfold IsN at h; unfold FinW; omega
theorem signed_eq (s : Bool) (m k : Nat) : signed s m k = sg s m * (2 ^ k : Nat) := by
  unfold signed sg
  rw [Nat.shiftLeft_eq]
  cases s <;> simp [Int.neg_mul]
theorem sg_mul (s : Bool) (m k : Nat) : sg s m * (k : Int) = sg s (m * k) := by
  unfold sg; cases s <;> simp [Int.neg_mul]
theorem pow_pos (k : Nat) : (0 : Int) < (2 ^ k : Nat) := by have := Nat.two_pow_pos k; omega
theorem cmp_mul (a b : Int) {k : Int} (hk : 0 < k) : compare (a * k) (b * k) = compare a b := by
  have h1 : (a * k < b * k) ↔ a < b := ⟨fun h => Int.lt_of_mul_lt_mul_right h (Int.le_of_lt hk), fun h => Int.mul_lt_mul_of_pos_right h hk⟩
  have h2 : (a * k = b * k) ↔ a = b := ⟨fun h => Int.eq_of_mul_eq_mul_right (by omega) h, fun h => by rw [h]⟩
  show (if a * k < b * k then Ordering.lt else if a * k = b * k then Ordering.eq else Ordering.gt) = (if a < b then Ordering.lt else if a = b then Ordering.eq else Ordering.gt)
  simp only [h1, h2]
theorem V_fin {x : Nat} (h : FinW x) : V (rg x) < V INF := V_lt h
theorem sv_fin {x : Nat} (h : FinW x) : -(V INF : Int) < sv x ∧ sv x < V INF := by
  have := V_fin h; unfold sv sg; split <;> omega
theorem sv_inf {x : Nat} (h : rg x = INF) : sv x = sg (ngb x) (V INF) := by unfold sv; rw [h]
theorem V_inf_pos : 0 < V INF := V_lt (r := 0) (by unfold INF; omega)
theorem order_eq {x y : Nat} (hx : IsN x) (hy : IsN y) : double.order x y = some (compare (sv x) (sv y)) := by
  unfold Format.order
  have hp := V_inf_pos
  rcases fin_or hx with fx | ix <;> rcases fin_or hy with fy | iy
  · obtain ⟨m, e, hm, em⟩ := read_num fx
    obtain ⟨n, i, hn, en⟩ := read_num fy
    rw [hm, hn]
    show some (compare (signed _ _ _) (signed _ _ _)) = _
    rw [signed_eq, signed_eq]
    unfold sv
    rw [← em, ← en, ← sg_mul, ← sg_mul]
    rcases Nat.le_total e i with h | h
    · rw [show min (-1074 + (e : Int)) (-1074 + i) = -1074 + e by omega, show (-1074 + (e : Int) - (-1074 + e)).toNat = 0 by omega, show (-1074 + (i : Int) - (-1074 + e)).toNat = i - e by omega]
      rw [← cmp_mul _ _ (pow_pos e), Int.mul_assoc, Int.mul_assoc, ← Int.natCast_mul, ← Int.natCast_mul, ← Nat.pow_add, ← Nat.pow_add, show 0 + e = e by omega, show i - e + e = i by omega]
    · rw [show min (-1074 + (e : Int)) (-1074 + i) = -1074 + i by omega, show (-1074 + (i : Int) - (-1074 + i)).toNat = 0 by omega, show (-1074 + (e : Int) - (-1074 + i)).toNat = e - i by omega]
      rw [← cmp_mul _ _ (pow_pos i), Int.mul_assoc, Int.mul_assoc, ← Int.natCast_mul, ← Int.natCast_mul, ← Nat.pow_add, ← Nat.pow_add, show 0 + i = i by omega, show e - i + i = e by omega]
  · obtain ⟨m, e, hm, em⟩ := read_num fx
    have := sv_fin fx
    rw [hm, read_inf iy, sv_inf iy]
    show some (if ngb y then Ordering.gt else Ordering.lt) = some (if sv x < sg (ngb y) (V INF) then Ordering.lt else if sv x = sg (ngb y) (V INF) then Ordering.eq else Ordering.gt)
    unfold sg
    cases ngb y
    · rw [if_neg (by simp), if_pos (by simp; omega)]
    · rw [if_pos rfl, if_neg (by simp; omega), if_neg (by simp; omega)]
  · obtain ⟨m, e, hm, em⟩ := read_num fy
    have := sv_fin fy
    rw [hm, read_inf ix, sv_inf ix]
    show some (if ngb x then Ordering.lt else Ordering.gt) = some (if sg (ngb x) (V INF) < sv y then Ordering.lt else if sg (ngb x) (V INF) = sv y then Ordering.eq else Ordering.gt)
    unfold sg
    cases ngb x
    · rw [if_neg (by simp), if_neg (by simp; omega), if_neg (by simp; omega)]
    · rw [if_pos rfl, if_pos (by simp; omega)]
  · rw [read_inf ix, read_inf iy, sv_inf ix, sv_inf iy]
    show some (compare (ngb y).toNat (ngb x).toNat) = some (if sg (ngb x) (V INF) < sg (ngb y) (V INF) then Ordering.lt else if sg (ngb x) (V INF) = sg (ngb y) (V INF) then Ordering.eq else Ordering.gt)
    unfold sg
    cases ngb x <;> cases ngb y <;> simp
    · rw [if_neg (by omega), if_neg (by omega)]; rfl
    · rw [if_pos (by omega)]; rfl
end Fl
end Go.Proofs.Ytepnghhgmjobjaa
namespace Go.Proofs.Ytepnghhgmjobjaa
open Go Go.RowKit Ieee Fl
namespace Tp
set_option maxRecDepth 100000
theorem isZ_no {x : Nat} (h : x % 9223372036854775808 ≠ 0) : isZ x = false := by
  have hr : rg x ≠ 0 := h
  have hs : sv x ≠ 0 := by
    have := V_lt (show 0 < rg x by omega)
    unfold sv sg; split <;> omega
  have h0 : sv 0 = 0 := by decide
  show (double.order x 0 == some .eq) = false
  by_cases hn : IsN x
  · rw [order_eq hn (show IsN 0 by unfold IsN; decide), h0]
    show (some (if sv x < 0 then Ordering.lt else if sv x = 0 then Ordering.eq else Ordering.gt) == some Ordering.eq) = false
    rw [if_neg hs]
    split <;> rfl
  · have e : double.order x 0 = none := by
      unfold Format.order
      rw [read_eq, if_neg (by unfold IsN INF at hn; omega), if_neg (by unfold IsN INF at hn; unfold INF; omega), if_neg (by unfold IsN at hn; omega)]
      rfl
    rw [e]; rfl
theorem neg_mod (x : Nat) : Op.negFloat .f64 x % 9223372036854775808 = x % 9223372036854775808 := by
  show (x ^^^ 2 ^ 63) % 9223372036854775808 = _
  rw [show 9223372036854775808 = 2 ^ 63 from rfl, Nat.xor_mod_two_pow, Nat.mod_self, Nat.xor_zero]
def NZ (z : Nat × Nat) : Prop := z.1 % 9223372036854775808 ≠ 0 ∧ z.2 % 9223372036854775808 ≠ 0
theorem nz_is {z : Nat × Nat} (h : nz z = true) : NZ z := by
  unfold nz at h
  simp only [Bool.and_eq_true, Bool.not_eq_true'] at h
  have key : ∀ a : Nat, Nat.beq a 0 = false → a ≠ 0 := fun a ha h0 => by rw [h0] at ha; cases ha
  exact ⟨key _ h.1, key _ h.2⟩
theorem NZ.rot {z : Nat × Nat} (h : NZ z) : NZ (rot z) := ⟨by show Op.negFloat .f64 z.2 % _ ≠ 0; rw [neg_mod]; exact h.2, h.1⟩
theorem NZ.rotI {z : Nat × Nat} (h : NZ z) : ∀ n, NZ (rotI n z)
  | 0 => h
  | n + 1 => (NZ.rotI h n).rot
theorem NZ.swp {z : Nat × Nat} (h : NZ z) (m : Bool) : NZ (swp m z) := by
  unfold Tp.swp
  split
  · exact ⟨h.2, h.1⟩
  · exact h
theorem pt_yes {q : Nat} {m : Bool} {z : Nat × Nat} (h : NZ z) : isZ (ptC q m z).1 = false ∧ isZ (ptC q m z).2 = false := by
  have h1 := (h.swp m).rotI q
  have e : ∀ x, x % 9223372036854775808 ≠ 0 → isZ (unsN x) = false := fun x hx => by
    have := isZ_no hx
    unfold unsN
    rw [this]
    exact this
  exact ⟨e _ h1.1, e _ h1.2⟩
theorem pt_no {q : Nat} {m : Bool} (hq : q ≤ 3) : (isZ (ptC q m oneC).1 || isZ (ptC q m oneC).2) = true := by
  rcases (show q = 0 ∨ q = 1 ∨ q = 2 ∨ q = 3 by omega) with rfl | rfl | rfl | rfl <;> cases m <;> decide +kernel
theorem pt_zero {q r : Nat} {m : Bool} (hq : q ≤ 3) (hr : r ≤ 8192) : (r = 0 ∧ (isZ (ptC q m (zOf r)).1 || isZ (ptC q m (zOf r)).2) = true) ∨ (r ≠ 0 ∧ isZ (ptC q m (zOf r)).1 = false ∧ isZ (ptC q m (zOf r)).2 = false) := by
  obtain ⟨z, hz, h | h⟩ := good_all hr (Nat.le_refl 14)
  · have h0 := zero_of_noBit hr h.1
    have e : zOf r = oneC := by
      obtain ⟨a, b⟩ := z
      rw [zOf_is hz]
      exact h.2
    rw [e]
    exact .inl ⟨h0, pt_no hq⟩
  · have e : zOf r = z := by
      obtain ⟨a, b⟩ := z
      exact zOf_is hz
    have hr0 : r ≠ 0 := fun h0 => by
      subst h0
      exact h.1 fun t _ => Nat.zero_testBit _
    rw [e]
    exact .inr ⟨hr0, pt_yes (nz_is h.2)⟩
end Tp
end Go.Proofs.Ytepnghhgmjobjaa
namespace Go.Proofs.Ytepnghhgmjobjaa
open Go.RowKit
def AtL (w : World) (g : Nat) (T : TypeId) (cs : Array Value) : Prop := w.heap[g]? = some (.cells cs T (0, 0))
section
variable {w w' : World} {g : Nat} {T : TypeId} {cs : Array Value}
theorem AtL.lt (h : AtL w g T cs) : g < w.heap.size := by
  rcases Nat.lt_or_ge g w.heap.size with h1 | h1
  · exact h1
  · unfold AtL at h; rw [Array.getElem?_eq_none h1] at h; cases h
theorem AtL.cell (h : AtL w g T cs) (i : Nat) {x : Value} (hx : cs[i]? = some x) : w.cell? ⟨g, i, none⟩ = some x := by rw [cell_of_row w g i _ _ (0, 0) h]; exact hx
theorem AtL.frozen (h : AtL w g T cs) (i : Nat) : w.frozen? ⟨g, i, none⟩ = false := frozen_of_row w g i _ _ h
theorem AtL.new (w : World) (T : TypeId) (cs : Array Value) : AtL (w.alloc (.cells cs T)) w.heap.size T cs := heap_alloc_new w _
theorem AtL.alloc' (h : AtL w g T cs) (o : Obj) : AtL (w.alloc o) g T cs := (Below.heap_alloc w o g h.lt).trans h
theorem AtL.below (h : AtL w g T cs) {B : Nat} (hb : Below B w w') (hg : g < B) : AtL w' g T cs := (hb.block g hg).trans h
theorem AtL.keep (h : AtL w g T cs) (hb : Below w.heap.size w w') : AtL w' g T cs := h.below hb h.lt
theorem AtL.set (h : AtL w g T cs) (i : Nat) (x : Value) : AtL (w.setCell ⟨g, i, none⟩ x) g T (cs.setIfInBounds i x) := heap_setCell_same w g i _ _ x h
end
end Go.Proofs.Ytepnghhgmjobjaa
