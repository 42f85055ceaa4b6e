/- Contracts, in this order: Every point of the table is the product that it should be. N · The points of the table lie near the circle; the double of e · All products of the parts of a turn are numbers, those of th · Floats as whole numbers: rounding by rungs rises with what i · Floats as whole numbers of least units: what a word is worth · What a sum of two floats loses is a float (Dekker). · Floats that are whole multiples of 2^-75: their products, su · Products, noughts without a sign, comparison bit by bit: wha -/
import Derived.Test.YthfopepnofjcjaaTr03
import Derived.Test.YthfopepnofjcjaaTr04
import Derived.Test.YthfopepnofjcjaaTr05
import Derived.Test.YthfopepnofjcjaaTr06
import Derived.Test.YthfopepnofjcjaaTr07
import Derived.Test.YthfopepnofjcjaaTr08
import Derived.Test.YthfopepnofjcjaaTr09
import Derived.Test.YthfopepnofjcjaaTr10
import Derived.Test.YthfopepnofjcjaaTr02
import Ieee.Arith
import Derived.Test.YthfopepnofjcjaaTr01
import Derived.Test.YthfopepnofjcjaaChecked
import Derived.WalkKit
import Derived.WalkLawsBesides
import Derived.Lib.Hide
import Derived.Laws.Cover3
import Derived.Laws.FloatArith
namespace Go.Proofs.Ythfopepnofjcjaa
open Go
namespace Tp
set_option maxRecDepth 100000
theorem ptAll_is {i a : Nat} : ∀ {n : Nat}, ptAll i a n = true → ∀ k, k < n → ptOk (2 ^ i * (2 * (a + k) + 1)) i = true
  | 0, _, k, h => absurd h (Nat.not_lt_zero k)
  | n + 1, h, k, hk => by
    have h' : (ptAll i a n && ptOk (Nat.mul (Nat.pow 2 i) (Nat.succ (Nat.mul 2 (Nat.add a n)))) i) = true := h
    rw [Bool.and_eq_true] at h'
    rcases Nat.lt_or_ge k n with h1 | h1
    · exact ptAll_is h'.1 k h1
    · obtain rfl : k = n := by omega
      exact h'.2
theorem pt_at {i a n : Nat} (h : ptAll i a n = true) (j : Nat) (h1 : a ≤ j) (h2 : j < a + n) : ptOk (2 ^ i * (2 * j + 1)) i = true := by
  have := ptAll_is h (j - a) (by omega)
  rwa [show a + (j - a) = j by omega] at this
theorem ptr_0 (j : Nat) (h : j < 4096) : ptOk (2 ^ 0 * (2 * j + 1)) 0 = true := by
  rcases Nat.lt_or_ge j 512 with h0 | h0
  · exact pt_at pt_0_0 j (by omega) (by omega)
  rcases Nat.lt_or_ge j 1024 with h512 | h512
  · exact pt_at pt_0_512 j (by omega) (by omega)
  rcases Nat.lt_or_ge j 1536 with h1024 | h1024
  · exact pt_at pt_0_1024 j (by omega) (by omega)
  rcases Nat.lt_or_ge j 2048 with h1536 | h1536
  · exact pt_at pt_0_1536 j (by omega) (by omega)
  rcases Nat.lt_or_ge j 2560 with h2048 | h2048
  · exact pt_at pt_0_2048 j (by omega) (by omega)
  rcases Nat.lt_or_ge j 3072 with h2560 | h2560
  · exact pt_at pt_0_2560 j (by omega) (by omega)
  rcases Nat.lt_or_ge j 3584 with h3072 | h3072
  · exact pt_at pt_0_3072 j (by omega) (by omega)
  exact pt_at pt_0_3584 j (by omega) (by omega)
theorem ptr_1 (j : Nat) (h : j < 2048) : ptOk (2 ^ 1 * (2 * j + 1)) 1 = true := by
  rcases Nat.lt_or_ge j 512 with h0 | h0
  · exact pt_at pt_1_0 j (by omega) (by omega)
  rcases Nat.lt_or_ge j 1024 with h512 | h512
  · exact pt_at pt_1_512 j (by omega) (by omega)
  rcases Nat.lt_or_ge j 1536 with h1024 | h1024
  · exact pt_at pt_1_1024 j (by omega) (by omega)
  exact pt_at pt_1_1536 j (by omega) (by omega)
theorem ptr_2 (j : Nat) (h : j < 1024) : ptOk (2 ^ 2 * (2 * j + 1)) 2 = true := by
  rcases Nat.lt_or_ge j 512 with h0 | h0
  · exact pt_at pt_2_0 j (by omega) (by omega)
  exact pt_at pt_2_512 j (by omega) (by omega)
theorem ptr_3 (j : Nat) (h : j < 512) : ptOk (2 ^ 3 * (2 * j + 1)) 3 = true := by
  exact pt_at pt_3_0 j (by omega) (by omega)
theorem ptr_4 (j : Nat) (h : j < 256) : ptOk (2 ^ 4 * (2 * j + 1)) 4 = true := by
  exact pt_at pt_4_0 j (by omega) (by omega)
theorem ptr_5 (j : Nat) (h : j < 128) : ptOk (2 ^ 5 * (2 * j + 1)) 5 = true := by
  exact pt_at pt_5_0 j (by omega) (by omega)
theorem ptr_6 (j : Nat) (h : j < 64) : ptOk (2 ^ 6 * (2 * j + 1)) 6 = true := by
  exact pt_at pt_6_0 j (by omega) (by omega)
theorem ptr_7 (j : Nat) (h : j < 32) : ptOk (2 ^ 7 * (2 * j + 1)) 7 = true := by
  exact pt_at pt_7_0 j (by omega) (by omega)
theorem ptr_8 (j : Nat) (h : j < 16) : ptOk (2 ^ 8 * (2 * j + 1)) 8 = true := by
  exact pt_at pt_8_0 j (by omega) (by omega)
theorem ptr_9 (j : Nat) (h : j < 8) : ptOk (2 ^ 9 * (2 * j + 1)) 9 = true := by
  exact pt_at pt_9_0 j (by omega) (by omega)
theorem ptr_10 (j : Nat) (h : j < 4) : ptOk (2 ^ 10 * (2 * j + 1)) 10 = true := by
  exact pt_at pt_10_0 j (by omega) (by omega)
theorem ptr_11 (j : Nat) (h : j < 2) : ptOk (2 ^ 11 * (2 * j + 1)) 11 = true := by
  exact pt_at pt_11_0 j (by omega) (by omega)
theorem ptr_12 (j : Nat) (h : j < 1) : ptOk (2 ^ 12 * (2 * j + 1)) 12 = true := by
  exact pt_at pt_12_0 j (by omega) (by omega)
theorem ptr_13 (j : Nat) (h : j < 1) : ptOk (2 ^ 13 * (2 * j + 1)) 13 = true := by
  exact pt_at pt_13_0 j (by omega) (by omega)
theorem pt_all (i j : Nat) (h : 2 ^ i * (2 * j + 1) ≤ 8192) : i ≤ 13 ∧ ptOk (2 ^ i * (2 * j + 1)) i = true := by
  have hi : i ≤ 13 := by
    rcases Nat.lt_or_ge i 14 with h1 | h1
    · omega
    · have h2 : 2 ^ 14 ≤ 2 ^ i := Nat.pow_le_pow_right (by omega) h1
      have h3 : 2 ^ i * 1 ≤ 2 ^ i * (2 * j + 1) := Nat.mul_le_mul_left _ (by omega)
      omega
  refine ⟨hi, ?_⟩
  have hc : i = 0 ∨ i = 1 ∨ i = 2 ∨ i = 3 ∨ i = 4 ∨ i = 5 ∨ i = 6 ∨ i = 7 ∨ i = 8 ∨ i = 9 ∨ i = 10 ∨ i = 11 ∨ i = 12 ∨ i = 13 := by omega
  rcases hc with rfl | rfl | rfl | rfl | rfl | rfl | rfl | rfl | rfl | rfl | rfl | rfl | rfl | rfl
  · exact ptr_0 j (by rw [show (2 : Nat) ^ 0 = 1 from rfl] at h; omega)
  · exact ptr_1 j (by rw [show (2 : Nat) ^ 1 = 2 from rfl] at h; omega)
  · exact ptr_2 j (by rw [show (2 : Nat) ^ 2 = 4 from rfl] at h; omega)
  · exact ptr_3 j (by rw [show (2 : Nat) ^ 3 = 8 from rfl] at h; omega)
  · exact ptr_4 j (by rw [show (2 : Nat) ^ 4 = 16 from rfl] at h; omega)
  · exact ptr_5 j (by rw [show (2 : Nat) ^ 5 = 32 from rfl] at h; omega)
  · exact ptr_6 j (by rw [show (2 : Nat) ^ 6 = 64 from rfl] at h; omega)
  · exact ptr_7 j (by rw [show (2 : Nat) ^ 7 = 128 from rfl] at h; omega)
  · exact ptr_8 j (by rw [show (2 : Nat) ^ 8 = 256 from rfl] at h; omega)
  · exact ptr_9 j (by rw [show (2 : Nat) ^ 9 = 512 from rfl] at h; omega)
  · exact ptr_10 j (by rw [show (2 : Nat) ^ 10 = 1024 from rfl] at h; omega)
  · exact ptr_11 j (by rw [show (2 : Nat) ^ 11 = 2048 from rfl] at h; omega)
  · exact ptr_12 j (by rw [show (2 : Nat) ^ 12 = 4096 from rfl] at h; omega)
  · exact ptr_13 j (by rw [show (2 : Nat) ^ 13 = 8192 from rfl] at h; omega)
end Tp
end Go.Proofs.Ythfopepnofjcjaa
namespace Go.Proofs.Ythfopepnofjcjaa
open Go
namespace Tp
set_option maxRecDepth 100000
noncomputable def scv (b : Nat) : Nat := cond (Nat.beq b 0) 0 (Nat.mul (Nat.add 4503599627370496 (Nat.mod b 4503599627370496)) (Nat.pow 2 (Nat.sub (Nat.div b 4503599627370496) 1000)))
noncomputable def dif (a b : Nat) : Nat := Nat.add (Nat.sub a b) (Nat.sub b a)
def bnd : Nat := 2535301200456458802993406410752
def one75 : Nat := 37778931862957161709568
noncomputable def nearC (C S : Nat) : Bool := Nat.ble (dif (Nat.add (Nat.mul C C) (Nat.mul S S)) (Nat.mul one75 one75)) bnd
noncomputable def nearD (C S x y : Nat) : Bool := Nat.ble (dif (Nat.mul C C) (Nat.add (Nat.mul S S) (Nat.mul x one75))) bnd && Nat.ble (dif (Nat.mul 2 (Nat.mul C S)) (Nat.mul y one75)) bnd
noncomputable def nearR (r : Nat) : Bool := nearC (scv (pt r).1) (scv (pt r).2) && cond (Nat.ble r 4096) (nearD (scv (pt r).1) (scv (pt r).2) (scv (pt (2 * r)).1) (scv (pt (2 * r)).2)) (nearD (scv (pt r).1) (scv (pt r).2) (scv (pt (16384 - 2 * r)).2) (scv (pt (16384 - 2 * r)).1))
noncomputable def rngB (b : Nat) : Bool := Nat.ble 4503599627370496000 b && Nat.ble b 4607182418800017408
noncomputable def rngR (r : Nat) : Bool := rngB (pt r).1 && (Nat.beq r 0 || rngB (pt r).2)
noncomputable def okR (r : Nat) : Bool := nearR r && rngR r
noncomputable def okAll (a n : Nat) : Bool := Nat.rec (motive := fun _ => Bool) true (fun k ih => ih && okR (Nat.add a k)) n
theorem ok_0 : okAll 0 1024 = true := by decide +kernel
theorem ok_1024 : okAll 1024 1024 = true := by decide +kernel
theorem ok_2048 : okAll 2048 1024 = true := by decide +kernel
theorem ok_3072 : okAll 3072 1024 = true := by decide +kernel
theorem ok_4096 : okAll 4096 1024 = true := by decide +kernel
theorem ok_5120 : okAll 5120 1024 = true := by decide +kernel
theorem ok_6144 : okAll 6144 1024 = true := by decide +kernel
theorem ok_7168 : okAll 7168 1024 = true := by decide +kernel
theorem ok_8192 : okR 8192 = true := by decide +kernel
theorem okAll_is {a : Nat} : ∀ {n : Nat}, okAll a n = true → ∀ k, k < n → okR (a + k) = true
  | 0, _, k, h => absurd h (Nat.not_lt_zero k)
  | n + 1, h, k, hk => by
    have h' : (okAll a n && okR (Nat.add a n)) = true := h
    rw [Bool.and_eq_true] at h'
    rcases Nat.lt_or_ge k n with h1 | h1
    · exact okAll_is h'.1 k h1
    · obtain rfl : k = n := by omega
      exact h'.2
theorem ok_at {a n : Nat} (h : okAll a n = true) (r : Nat) (h1 : a ≤ r) (h2 : r < a + n) : okR r = true := by
  have := okAll_is h (r - a) (by omega)
  rwa [show a + (r - a) = r by omega] at this
theorem ok_all (r : Nat) (h : r ≤ 8192) : okR r = true := by
  rcases Nat.lt_or_ge r 1024 with h0 | h0
  · exact ok_at ok_0 r (by omega) (by omega)
  rcases Nat.lt_or_ge r 2048 with h1024 | h1024
  · exact ok_at ok_1024 r (by omega) (by omega)
  rcases Nat.lt_or_ge r 3072 with h2048 | h2048
  · exact ok_at ok_2048 r (by omega) (by omega)
  rcases Nat.lt_or_ge r 4096 with h3072 | h3072
  · exact ok_at ok_3072 r (by omega) (by omega)
  rcases Nat.lt_or_ge r 5120 with h4096 | h4096
  · exact ok_at ok_4096 r (by omega) (by omega)
  rcases Nat.lt_or_ge r 6144 with h5120 | h5120
  · exact ok_at ok_5120 r (by omega) (by omega)
  rcases Nat.lt_or_ge r 7168 with h6144 | h6144
  · exact ok_at ok_6144 r (by omega) (by omega)
  rcases Nat.lt_or_ge r 8192 with h7168 | h7168
  · exact ok_at ok_7168 r (by omega) (by omega)
  obtain rfl : r = 8192 := by omega
  exact ok_8192
end Tp
end Go.Proofs.Ythfopepnofjcjaa
namespace Go.Proofs.Ythfopepnofjcjaa
open Go
namespace Tp
set_option maxRecDepth 100000
theorem prod_congr {r s : Nat} : ∀ {j : Nat}, (∀ t, t < j → r.testBit (13 - t) = s.testBit (13 - t)) → prodC r j = prodC s j
  | 0, _ => rfl
  | j + 1, h => by
    show (prodC r j).bind _ = (prodC s j).bind _
    rw [prod_congr fun t ht => h t (by omega), h j (by omega)]
theorem prod_skip {r j : Nat} (h : r.testBit (13 - j) = false) : prodC r (j + 1) = prodC r j := by
  show (prodC r j).bind _ = _
  rw [h]
  cases prodC r j <;> rfl
theorem prod_tail {r j : Nat} : ∀ {n : Nat}, (∀ t, j ≤ t → t < j + n → r.testBit (13 - t) = false) → prodC r (j + n) = prodC r j
  | 0, _ => rfl
  | n + 1, h => by
    rw [← Nat.add_assoc, prod_skip (h (j + n) (by omega) (by omega))]
    exact prod_tail fun t h1 h2 => h t h1 (by omega)
theorem low_bit : ∀ r : Nat, 0 < r → ∃ i j, r = 2 ^ i * (2 * j + 1) := by
  intro r
  induction r using Nat.strongRecOn with
  | _ r ih =>
    intro h
    rcases Nat.mod_two_eq_zero_or_one r with h2 | h2
    · obtain ⟨i, j, e⟩ := ih (r / 2) (by omega) (by omega)
      refine ⟨i + 1, j, ?_⟩
      rw [Nat.pow_succ, Nat.mul_comm (2 ^ i) 2, Nat.mul_assoc, ← e]
      omega
    · exact ⟨0, r / 2, by rw [Nat.pow_zero]; omega⟩
theorem tab_zero : pt 0 = oneC := by decide +kernel
theorem pt_step {r i : Nat} (h : ptOk r i = true) : mulC (pt (r - 2 ^ i)) (pl.getD (13 - i) (0, 0)) = some (pt r) := by
  unfold ptOk at h
  change (match mulC (pt (r - 2 ^ i)) (pl.getD (13 - i) (0, 0)) with
    | some z => Nat.beq z.1 (pt r).1 && Nat.beq z.2 (pt r).2
    | none => false) = true at h
  cases hm : mulC (pt (r - 2 ^ i)) (pl.getD (13 - i) (0, 0)) with
  | none => rw [hm] at h; cases h
  | some z =>
    rw [hm] at h
    simp only [Bool.and_eq_true] at h
    have h1 := Nat.eq_of_beq_eq_true h.1
    have h2 := Nat.eq_of_beq_eq_true h.2
    rw [show z = pt r from Prod.ext h1 h2]
theorem prod_pt : ∀ r : Nat, r ≤ 8192 → prodC r 14 = some (pt r) := by
  intro r
  induction r using Nat.strongRecOn with
  | _ r ih =>
    intro hr
    rcases Nat.eq_zero_or_pos r with h0 | h0
    · subst h0
      rw [tab_zero]
      show prodC 0 (0 + 14) = _
      rw [prod_tail fun t _ _ => Nat.zero_testBit _]
      rfl
    · obtain ⟨i, j, e⟩ := low_bit r h0
      obtain ⟨hi, hok⟩ := pt_all i j (by rw [← e]; exact hr)
      have hp := Nat.two_pow_pos i
      have es : r - 2 ^ i = 2 ^ (i + 1) * j := by
        rw [e, Nat.pow_succ, Nat.mul_add, Nat.mul_one, Nat.add_sub_cancel, Nat.mul_assoc]
      have hs := ih (r - 2 ^ i) (by omega) (by omega)
      have hst := pt_step (r := r) (i := i) (by rw [e]; exact hok)
      rw [es] at hs hst
      have b1 : ∀ p, p ≤ i → (2 ^ (i + 1) * j).testBit p = false := fun p hp => by
        rw [Nat.testBit_two_pow_mul, decide_eq_false (by omega)]; rfl
      have b2 : ∀ p, i < p → r.testBit p = (2 ^ (i + 1) * j).testBit p := fun p hp => by
        rw [e, Nat.testBit_two_pow_mul, Nat.testBit_two_pow_mul, decide_eq_true (show i ≤ p by omega), decide_eq_true (show i + 1 ≤ p by omega)]
        obtain ⟨m, rfl⟩ : ∃ m, p = i + 1 + m := ⟨p - (i + 1), by omega⟩
        rw [show i + 1 + m - i = m + 1 by omega, show i + 1 + m - (i + 1) = m by omega, Nat.testBit_succ, show (2 * j + 1) / 2 = j by omega]
      have b3 : r.testBit i = true := by
        rw [e, Nat.testBit_two_pow_mul, decide_eq_true (Nat.le_refl i), Nat.sub_self, Nat.testBit_zero, show (2 * j + 1) % 2 = 1 by omega]; rfl
      have b4 : ∀ p, p < i → r.testBit p = false := fun p hp => by
        rw [e, Nat.testBit_two_pow_mul, decide_eq_false (by omega)]; rfl
      have t1 : prodC (2 ^ (i + 1) * j) (13 - i) = some (pt (2 ^ (i + 1) * j)) := by
        rw [← hs, show 14 = 13 - i + (i + 1) by omega]
        exact (prod_tail fun t h1 h2 => b1 _ (by omega)).symm
      have t2 : prodC r (13 - i) = some (pt (2 ^ (i + 1) * j)) := by
        rw [← t1]
        exact prod_congr fun t ht => b2 _ (by omega)
      have t3 : prodC r (13 - i + 1) = some (pt r) := by
        rw [prod_yes t2 (by rw [show 13 - (13 - i) = i by omega]; exact b3)]
        exact hst
      rw [← t3, show 14 = 13 - i + 1 + i by omega]
      exact prod_tail fun t h1 h2 => b4 _ (by omega)
theorem rng_nz {b : Nat} (h : rngB b = true) : (!(Nat.beq (b % 9223372036854775808) 0)) = true := by
  unfold rngB at h
  rw [Bool.and_eq_true] at h
  have h1 := Nat.le_of_ble_eq_true h.1
  have h2 := Nat.le_of_ble_eq_true h.2
  have : b % 9223372036854775808 ≠ 0 := by omega
  cases hb : Nat.beq (b % 9223372036854775808) 0 with
  | false => rfl
  | true => exact absurd (Nat.eq_of_beq_eq_true hb) this
theorem pt_nz {r : Nat} (h0 : r ≠ 0) (hr : r ≤ 8192) : nz (pt r) = true := by
  have h := ok_all r hr
  unfold okR rngR at h
  simp only [Bool.and_eq_true, Bool.or_eq_true] at h
  obtain ⟨-, h1, h2⟩ := h
  have h3 : rngB (pt r).2 = true := h2.resolve_left fun e => h0 (Nat.eq_of_beq_eq_true e)
  unfold nz
  rw [rng_nz h1, rng_nz h3]; rfl
theorem good_all {r : Nat} (hr : r ≤ 8192) {j : Nat} (hj : j ≤ 14) : Good r j := by
  -- the first j bits alone
  have hle : 2 ^ (14 - j) * (r / 2 ^ (14 - j)) ≤ r := Nat.mul_div_le r _
  have hb : ∀ p, (2 ^ (14 - j) * (r / 2 ^ (14 - j))).testBit p = (decide (14 - j ≤ p) && r.testBit p) := fun p => by
    rw [Nat.testBit_two_pow_mul, Nat.testBit_div_two_pow]
    by_cases h : 14 - j ≤ p
    · rw [decide_eq_true h, show p - (14 - j) + (14 - j) = p by omega]
    · rw [decide_eq_false h]; rfl
  have hz := prod_pt (2 ^ (14 - j) * (r / 2 ^ (14 - j))) (by omega)
  generalize 2 ^ (14 - j) * (r / 2 ^ (14 - j)) = s at hle hb hz
  have e1 : prodC r j = prodC s j := prod_congr fun t ht => by
    rw [hb, decide_eq_true (show 14 - j ≤ 13 - t by omega)]; rfl
  have e2 : prodC s 14 = prodC s j := by
    have := prod_tail (r := s) (j := j) (n := 14 - j) fun t h1 h2 => by
      rw [hb]
      rw [decide_eq_false (show ¬ 14 - j ≤ 13 - t by omega)]; rfl
    rwa [show j + (14 - j) = 14 by omega] at this
  refine ⟨pt s, by rw [e1, ← e2, hz], ?_⟩
  by_cases h0 : s = 0
  · left
    refine ⟨fun t ht => ?_, by rw [h0, tab_zero]⟩
    have := hb (13 - t)
    rw [h0, Nat.zero_testBit, decide_eq_true (show 14 - j ≤ 13 - t by omega)] at this
    simpa using this.symm
  · right
    refine ⟨fun hn => h0 ?_, pt_nz h0 (by omega)⟩
    apply Nat.eq_of_testBit_eq
    intro p
    rw [hb, Nat.zero_testBit]
    by_cases h : 14 - j ≤ p
    · rcases Nat.lt_or_ge p 14 with h1 | h1
      · have := hn (13 - p) (by omega)
        rw [show 13 - (13 - p) = p by omega] at this
        rw [this, Bool.and_false]
      · rw [Nat.testBit_lt_two_pow (Nat.lt_of_le_of_lt hr (Nat.lt_of_lt_of_le (show 8192 < 2 ^ 14 by decide) (Nat.pow_le_pow_right (by omega) h1))), Bool.and_false]
    · rw [decide_eq_false h]; rfl
theorem zero_of_noBit {r : Nat} (hr : r ≤ 8192) (h : noBit r 14) : r = 0 := by
  apply Nat.eq_of_testBit_eq
  intro i
  rw [Nat.zero_testBit]
  rcases Nat.lt_or_ge i 14 with hi | hi
  · have := h (13 - i) (by omega)
    rwa [show 13 - (13 - i) = i by omega] at this
  · exact Nat.testBit_lt_two_pow (Nat.lt_of_le_of_lt hr (Nat.lt_of_lt_of_le (show 8192 < 2 ^ 14 by decide) (Nat.pow_le_pow_right (by omega) hi)))
end Tp
end Go.Proofs.Ythfopepnofjcjaa
namespace Go.Proofs.Ythfopepnofjcjaa
namespace Fl
open Ieee
def rne (n g : Nat) : Nat := n / g + (decide (g < 2 * (n % g)) || (g == 2 * (n % g) && n / g % 2 == 1)).toNat
theorem rne_le (n g : Nat) : rne n g ≤ n / g + 1 := by
  unfold rne; have := Bool.toNat_le (decide (g < 2 * (n % g)) || (g == 2 * (n % g) && n / g % 2 == 1)); omega
theorem le_rne (n g : Nat) : n / g ≤ rne n g := by unfold rne; omega
theorem rne_one (n : Nat) : rne n 1 = n := by
  unfold rne; simp [Nat.mod_one]
theorem rne_mono {m n g : Nat} (h : m ≤ n) : rne m g ≤ rne n g := by
  have hq := Nat.div_le_div_right (c := g) h
  rcases Nat.lt_or_eq_of_le hq with hl | he
  · have := rne_le m g; have := le_rne n g; omega
  · have em := Nat.div_add_mod m g; have en := Nat.div_add_mod n g
    rw [he] at em
    have hr : m % g ≤ n % g := by omega
    unfold rne
    rw [he]
    apply Nat.add_le_add_left
    generalize m % g = a at *; generalize n % g = b at *; generalize n / g % 2 = c
    by_cases h1 : g < 2 * b
    · have : (decide (g < 2 * b) || (g == 2 * b && c == 1)) = true := by simp [h1]
      rw [this]; exact Bool.toNat_le _
    · have h2 : ¬ g < 2 * a := by omega
      rw [decide_eq_false h1, decide_eq_false h2]
      by_cases h3 : g = 2 * a
      · have h4 : g = 2 * b := by omega
        rw [show (g == 2 * a) = true from by simp [h3], show (g == 2 * b) = true from by simp [h4]]
        exact Nat.le_refl _
      · rw [show (g == 2 * a) = false from by simp [h3]]; simp
theorem rne_scale {k : Nat} (hk : 0 < k) (n g : Nat) : rne (n * k) (g * k) = rne n g := by
  unfold rne
  rw [Nat.mul_div_mul_right _ _ hk, Nat.mul_mod_mul_right]
  have e : 2 * (n % g * k) = (2 * (n % g)) * k := by rw [Nat.mul_assoc]
  rw [e]
  generalize 2 * (n % g) = a
  have h1 : decide (g * k < a * k) = decide (g < a) := decide_eq_decide.2 (Nat.mul_lt_mul_right hk)
  have h2 : (g * k == a * k) = (g == a) := by
    rw [Bool.eq_iff_iff]; simp only [beq_iff_eq]
    exact ⟨fun h => Nat.eq_of_mul_eq_mul_right hk h, fun h => by rw [h]⟩
  rw [h1, h2]
theorem cut_even (neg : Bool) (n drop : Nat) : Toward.even.cut neg n drop = rne n (2 ^ drop) := by
  unfold Toward.cut
  simp only [Nat.one_shiftLeft]
  by_cases h : drop ≤ n.log2 + 2
  · rw [Nat.min_eq_left h]; rfl
  · rw [Nat.min_eq_right (by omega)]
    have hn : n < 2 ^ (n.log2 + 1) := Nat.lt_log2_self
    have h2 : 2 ^ (n.log2 + 2) = 2 * 2 ^ (n.log2 + 1) := by rw [Nat.pow_succ, Nat.mul_comm]
    have h3 : 2 ^ (n.log2 + 2) ≤ 2 ^ drop := Nat.pow_le_pow_right (by omega) (by omega)
    have z : ∀ g, 2 * n < g → rne n g = 0 := by
      intro g hg
      unfold rne
      rw [Nat.div_eq_of_lt (by omega), Nat.mod_eq_of_lt (by omega), decide_eq_false (by omega), show (g == 2 * n) = false from by simp; omega]
      rfl
    rw [z (2 ^ drop) (by omega), ← z (2 ^ (n.log2 + 2)) (by omega)]
    rfl
def lastOf (m : Nat) (p : Int) : Int := max (p + m.log2 - 52) (-1074)
def kept (m : Nat) (p : Int) : Nat := rne (m * 2 ^ (p - lastOf m p).toNat) (2 ^ (lastOf m p - p).toNat)
def rung (m : Nat) (p : Int) : Nat := if m = 0 then 0 else min ((lastOf m p + 1074).toNat * 4503599627370496 + kept m p) 9218868437227405312
theorem nearest_eq (neg : Bool) (m : Nat) (p : Int) : double.nearest neg m p = double.word neg (rung m p) := by
  unfold Format.nearest rung
  by_cases h : m = 0
  · rw [if_pos h, if_pos h]
  · rw [if_neg h, if_neg h]
    have e1 : double.leastPlace = -1074 := by decide
    have e2 : double.binade = 4503599627370496 := by decide
    have e3 : double.infRung = 9218868437227405312 := by decide
    have e4 : (double.fractionBits : Int) = 52 := rfl
    simp only [e1, e2, e3, e4, cut_even, Nat.shiftLeft_eq, Int.sub_neg]
    rfl
theorem log2_mul_pow (m k : Nat) (h : m ≠ 0) : (m * 2 ^ k).log2 = m.log2 + k := by
  induction k with
  | zero => simp
  | succ k ih => rw [Nat.pow_succ, ← Nat.mul_assoc, Nat.mul_comm _ 2, Nat.log2_two_mul (Nat.mul_ne_zero h (by have := Nat.two_pow_pos k; omega)), ih]; omega
theorem rung_shift (m k : Nat) (p : Int) : rung (m * 2 ^ k) p = rung m (p + k) := by
  have hk := Nat.two_pow_pos k
  unfold rung
  by_cases h : m = 0
  · simp [h]
  · have h' : m * 2 ^ k ≠ 0 := Nat.mul_ne_zero h (by omega)
    rw [if_neg h, if_neg h']
    have hl : lastOf (m * 2 ^ k) p = lastOf m (p + k) := by unfold lastOf; rw [log2_mul_pow m k h]; push_cast; congr 1; omega
    have hkept : kept (m * 2 ^ k) p = kept m (p + k) := by
      unfold kept
      rw [hl]
      generalize lastOf m (p + k) = l
      rcases Int.le_total l p with h1 | h1
      · rw [show (l - p).toNat = 0 by omega, show (l - (p + k)).toNat = 0 by omega, show (p + k - l).toNat = k + (p - l).toNat by omega, Nat.pow_add, Nat.mul_assoc]
      · rcases Int.le_total l (p + k) with h2 | h2
        · have e : k = (p + k - l).toNat + (l - p).toNat := by omega
          rw [show (p - l).toNat = 0 by omega, show (l - (p + k)).toNat = 0 by omega]
          have := rne_scale (Nat.two_pow_pos (l - p).toNat) (m * 2 ^ (p + k - l).toNat) 1
          rw [Nat.mul_assoc, ← Nat.pow_add, ← e] at this
          simpa using this
        · rw [show (p - l).toNat = 0 by omega, show (p + k - l).toNat = 0 by omega, show (l - p).toNat = (l - (p + k)).toNat + k by omega, Nat.pow_add]
          simpa using rne_scale hk m (2 ^ (l - (p + k)).toNat)
    rw [hl, hkept]
theorem rung_le (m : Nat) (p : Int) : rung m p ≤ 9218868437227405312 := by
  unfold rung; split
  · omega
  · exact Nat.min_le_right _ _
theorem kept_le (m : Nat) (p : Int) : kept m p ≤ 9007199254740992 := by
  unfold kept
  have hm : m < 2 ^ (m.log2 + 1) := Nat.lt_log2_self
  have hl : p + m.log2 - 52 ≤ lastOf m p := by unfold lastOf; omega
  generalize lastOf m p = l at *
  rcases Int.le_total l p with h | h
  · rw [show (l - p).toNat = 0 by omega, Nat.pow_zero, rne_one]
    have h1 : m * 2 ^ (p - l).toNat < 2 ^ (m.log2 + 1) * 2 ^ (p - l).toNat := Nat.mul_lt_mul_of_pos_right hm (Nat.two_pow_pos _)
    rw [← Nat.pow_add] at h1
    have h2 : 2 ^ (m.log2 + 1 + (p - l).toNat) ≤ 2 ^ 53 := Nat.pow_le_pow_right (by omega) (by omega)
    omega
  · rw [show (p - l).toNat = 0 by omega, Nat.pow_zero, Nat.mul_one]
    have h2 : 2 ^ (m.log2 + 1) ≤ 2 ^ (53 + (l - p).toNat) := Nat.pow_le_pow_right (by omega) (by omega)
    rw [Nat.pow_add 2 53] at h2
    have h3 : m / 2 ^ (l - p).toNat < 2 ^ 53 := Nat.div_lt_of_lt_mul (by rw [Nat.mul_comm]; omega)
    have := rne_le m (2 ^ (l - p).toNat)
    omega
theorem le_kept (m : Nat) (p : Int) (h0 : m ≠ 0) (hl : lastOf m p = p + m.log2 - 52) : 4503599627370496 ≤ kept m p := by
  unfold kept
  have hm : 2 ^ m.log2 ≤ m := Nat.log2_self_le h0
  rw [hl]
  rcases Nat.le_total m.log2 52 with h | h
  · rw [show (p + m.log2 - 52 - p).toNat = 0 by omega, Nat.pow_zero, rne_one, show (p - (p + m.log2 - 52)).toNat = 52 - m.log2 by omega]
    have h1 : 2 ^ m.log2 * 2 ^ (52 - m.log2) ≤ m * 2 ^ (52 - m.log2) := Nat.mul_le_mul_right _ hm
    rw [← Nat.pow_add, show m.log2 + (52 - m.log2) = 52 by omega] at h1
    exact h1
  · rw [show (p - (p + m.log2 - 52)).toNat = 0 by omega, Nat.pow_zero, Nat.mul_one, show (p + m.log2 - 52 - p).toNat = m.log2 - 52 by omega]
    refine Nat.le_trans ?_ (le_rne _ _)
    rw [Nat.le_div_iff_mul_le (Nat.two_pow_pos _), show 4503599627370496 = 2 ^ 52 from rfl, ← Nat.pow_add, show 52 + (m.log2 - 52) = m.log2 by omega]
    exact hm
theorem log2_mono {m n : Nat} (h0 : m ≠ 0) (h : m ≤ n) : m.log2 ≤ n.log2 := by
  have h1 := Nat.log2_self_le h0
  have h2 : n < 2 ^ (n.log2 + 1) := Nat.lt_log2_self
  have h3 : 2 ^ m.log2 < 2 ^ (n.log2 + 1) := by omega
  have := (Nat.pow_lt_pow_iff_right (a := 2) (by omega)).1 h3
  omega
theorem rung_mono {m n : Nat} (p : Int) (h : m ≤ n) : rung m p ≤ rung n p := by
  by_cases h0 : m = 0
  · unfold rung; rw [if_pos h0]; omega
  have hn : n ≠ 0 := by omega
  have hlog := log2_mono h0 h
  unfold rung
  rw [if_neg h0, if_neg hn]
  have key : (lastOf m p + 1074).toNat * 4503599627370496 + kept m p ≤ (lastOf n p + 1074).toNat * 4503599627370496 + kept n p := by
    by_cases he : lastOf m p = lastOf n p
    · rw [he]
      apply Nat.add_le_add_left
      unfold kept
      rw [he]
      exact rne_mono (Nat.mul_le_mul_right _ h)
    · have h1 := kept_le m p
      have hlt : lastOf m p < lastOf n p := by unfold lastOf at *; omega
      have hln : lastOf n p = p + n.log2 - 52 := by unfold lastOf at *; omega
      have hm : -1074 ≤ lastOf m p := by unfold lastOf; omega
      have h2 := le_kept n p hn hln
      have : (lastOf m p + 1074).toNat + 1 ≤ (lastOf n p + 1074).toNat := by omega
      omega
  omega
end Fl
end Go.Proofs.Ythfopepnofjcjaa
namespace Go.Proofs.Ythfopepnofjcjaa
namespace Fl
open Ieee
def V (r : Nat) : Nat := if r < 4503599627370496 then r else (4503599627370496 + r % 4503599627370496) * 2 ^ (r / 4503599627370496 - 1)
theorem V_lt {r s : Nat} (h : r < s) : V r < V s := by
  unfold V
  by_cases hr : r < 4503599627370496
  · rw [if_pos hr]
    by_cases hs : s < 4503599627370496
    · rw [if_pos hs]; exact h
    · rw [if_neg hs]
      have := Nat.le_mul_of_pos_right (4503599627370496 + s % 4503599627370496) (Nat.two_pow_pos (s / 4503599627370496 - 1))
      omega
  · rw [if_neg hr, if_neg (by omega)]
    by_cases hq : r / 4503599627370496 = s / 4503599627370496
    · rw [hq]; exact Nat.mul_lt_mul_of_pos_right (by omega) (Nat.two_pow_pos _)
    · have h1 : (4503599627370496 + r % 4503599627370496) * 2 ^ (r / 4503599627370496 - 1) < (4503599627370496 * 2) * 2 ^ (r / 4503599627370496 - 1) := Nat.mul_lt_mul_of_pos_right (by omega) (Nat.two_pow_pos _)
      rw [Nat.mul_assoc, ← Nat.pow_succ'] at h1
      have h2 : 4503599627370496 * 2 ^ (r / 4503599627370496 - 1 + 1) ≤ 4503599627370496 * 2 ^ (s / 4503599627370496 - 1) := Nat.mul_le_mul_left _ (Nat.pow_le_pow_right (by omega) (by omega))
      have h3 := Nat.mul_le_mul_right (2 ^ (s / 4503599627370496 - 1)) (Nat.le_add_right 4503599627370496 (s % 4503599627370496))
      omega
theorem V_zero : V 0 = 0 := rfl
def INF : Nat := 9218868437227405312
def rg (x : Nat) : Nat := x % 9223372036854775808
def ngb (x : Nat) : Bool := x / 9223372036854775808 % 2 == 1
def IsN (x : Nat) : Prop := rg x ≤ INF
def FinW (x : Nat) : Prop := rg x < INF
def sg (s : Bool) (m : Nat) : Int := if s then -(m : Int) else m
def sv (x : Nat) : Int := sg (ngb x) (V (rg x))
def wd (s : Bool) (r : Nat) : Nat := if s then 9223372036854775808 + r else r
theorem wd_eq (s : Bool) (r : Nat) : double.word s r = wd s r := by
  unfold Format.word wd
  have : double.signWeight = 9223372036854775808 := by decide
  rw [this]
theorem rg_wd (s : Bool) {r : Nat} (h : r ≤ INF) : rg (wd s r) = r := by
  unfold INF at h; unfold rg wd; cases s <;> simp <;> omega
theorem ngb_wd (s : Bool) {r : Nat} (h : r ≤ INF) : ngb (wd s r) = s := by
  unfold INF at h; unfold ngb wd
  cases s
  · simp; omega
  · simp; omega
theorem sv_wd (s : Bool) {r : Nat} (h : r ≤ INF) : sv (wd s r) = sg s (V r) := by unfold sv; rw [rg_wd s h, ngb_wd s h]
theorem read_eq (x : Nat) : double.read x = (if rg x < 4503599627370496 then .number (ngb x) (rg x) (-1074)
    else if rg x < INF then .number (ngb x) (4503599627370496 + rg x % 4503599627370496) (-1074 + (rg x / 4503599627370496 - 1 : Nat))
    else if rg x = INF then .infinity (ngb x) else .nan (ngb x) (rg x - INF)) := by
  unfold Format.read
  have e1 : double.leastPlace = -1074 := by decide
  have e2 : double.binade = 4503599627370496 := by decide
  have e3 : double.infRung = INF := by decide
  have e4 : double.signWeight = 9223372036854775808 := by decide
  simp only [e1, e2, e3, e4]
  rfl
theorem read_num {x : Nat} (h : FinW x) : ∃ m e : Nat, double.read x = .number (ngb x) m (-1074 + e) ∧ m * 2 ^ e = V (rg x) := by
  unfold FinW at h
  rw [read_eq]
  unfold V
  by_cases h1 : rg x < 4503599627370496
  · rw [if_pos h1, if_pos h1]; exact ⟨rg x, 0, rfl, by simp⟩
  · rw [if_neg h1, if_neg h1, if_pos h]; exact ⟨_, _, rfl, rfl⟩
theorem read_inf {x : Nat} (h : rg x = INF) : double.read x = .infinity (ngb x) := by
  rw [read_eq, h, if_neg (by unfold INF; omega), if_neg (by omega), if_pos rfl]
theorem fin_or {x : Nat} (h : IsN x) : FinW x ∨ rg x = INF := by unfold IsN at h; unfold FinW; omega
theorem signed_eq (s : Bool) (m k : Nat) : signed s m k = sg s m * (2 ^ k : Nat) := by
  unfold signed sg
  rw [Nat.shiftLeft_eq]
  cases s <;> simp [Int.neg_mul]
theorem sg_mul (s : Bool) (m k : Nat) : sg s m * (k : Int) = sg s (m * k) := by
  unfold sg; cases s <;> simp [Int.neg_mul]
theorem pow_pos (k : Nat) : (0 : Int) < (2 ^ k : Nat) := by have := Nat.two_pow_pos k; omega
theorem cmp_mul (a b : Int) {k : Int} (hk : 0 < k) : compare (a * k) (b * k) = compare a b := by
  have h1 : (a * k < b * k) ↔ a < b := ⟨fun h => Int.lt_of_mul_lt_mul_right h (Int.le_of_lt hk), fun h => Int.mul_lt_mul_of_pos_right h hk⟩
  have h2 : (a * k = b * k) ↔ a = b := ⟨fun h => Int.eq_of_mul_eq_mul_right (by omega) h, fun h => by rw [h]⟩
  show (if a * k < b * k then Ordering.lt else if a * k = b * k then Ordering.eq else Ordering.gt) = (if a < b then Ordering.lt else if a = b then Ordering.eq else Ordering.gt)
  simp only [h1, h2]
theorem V_fin {x : Nat} (h : FinW x) : V (rg x) < V INF := V_lt h
theorem sv_fin {x : Nat} (h : FinW x) : -(V INF : Int) < sv x ∧ sv x < V INF := by
  have := V_fin h; unfold sv sg; split <;> omega
theorem sv_inf {x : Nat} (h : rg x = INF) : sv x = sg (ngb x) (V INF) := by unfold sv; rw [h]
theorem V_inf_pos : 0 < V INF := V_lt (r := 0) (by unfold INF; omega)
theorem order_eq {x y : Nat} (hx : IsN x) (hy : IsN y) : double.order x y = some (compare (sv x) (sv y)) := by
  unfold Format.order
  have hp := V_inf_pos
  rcases fin_or hx with fx | ix <;> rcases fin_or hy with fy | iy
  · obtain ⟨m, e, hm, em⟩ := read_num fx
    obtain ⟨n, i, hn, en⟩ := read_num fy
    rw [hm, hn]
    show some (compare (signed _ _ _) (signed _ _ _)) = _
    rw [signed_eq, signed_eq]
    unfold sv
    rw [← em, ← en, ← sg_mul, ← sg_mul]
    rcases Nat.le_total e i with h | h
    · rw [show min (-1074 + (e : Int)) (-1074 + i) = -1074 + e by omega, show (-1074 + (e : Int) - (-1074 + e)).toNat = 0 by omega, show (-1074 + (i : Int) - (-1074 + e)).toNat = i - e by omega]
      rw [← cmp_mul _ _ (pow_pos e), Int.mul_assoc, Int.mul_assoc, ← Int.natCast_mul, ← Int.natCast_mul, ← Nat.pow_add, ← Nat.pow_add, show 0 + e = e by omega, show i - e + e = i by omega]
    · rw [show min (-1074 + (e : Int)) (-1074 + i) = -1074 + i by omega, show (-1074 + (i : Int) - (-1074 + i)).toNat = 0 by omega, show (-1074 + (e : Int) - (-1074 + i)).toNat = e - i by omega]
      rw [← cmp_mul _ _ (pow_pos i), Int.mul_assoc, Int.mul_assoc, ← Int.natCast_mul, ← Int.natCast_mul, ← Nat.pow_add, ← Nat.pow_add, show 0 + i = i by omega, show e - i + i = e by omega]
  · obtain ⟨m, e, hm, em⟩ := read_num fx
    have := sv_fin fx
    rw [hm, read_inf iy, sv_inf iy]
    show some (if ngb y then Ordering.gt else Ordering.lt) = some (if sv x < sg (ngb y) (V INF) then Ordering.lt else if sv x = sg (ngb y) (V INF) then Ordering.eq else Ordering.gt)
    unfold sg
    cases ngb y
    · rw [if_neg (by simp), if_pos (by simp; omega)]
    · rw [if_pos rfl, if_neg (by simp; omega), if_neg (by simp; omega)]
  · obtain ⟨m, e, hm, em⟩ := read_num fy
    have := sv_fin fy
    rw [hm, read_inf ix, sv_inf ix]
    show some (if ngb x then Ordering.lt else Ordering.gt) = some (if sg (ngb x) (V INF) < sv y then Ordering.lt else if sg (ngb x) (V INF) = sv y then Ordering.eq else Ordering.gt)
    unfold sg
    cases ngb x
    · rw [if_neg (by simp), if_neg (by simp; omega), if_neg (by simp; omega)]
    · rw [if_pos rfl, if_pos (by simp; omega)]
  · rw [read_inf ix, read_inf iy, sv_inf ix, sv_inf iy]
    show some (compare (ngb y).toNat (ngb x).toNat) = some (if sg (ngb x) (V INF) < sg (ngb y) (V INF) then Ordering.lt else if sg (ngb x) (V INF) = sg (ngb y) (V INF) then Ordering.eq else Ordering.gt)
    unfold sg
    cases ngb x <;> cases ngb y <;> simp
    · rw [if_neg (by omega), if_neg (by omega)]; rfl
    · rw [if_pos (by omega)]; rfl
def Rd (T : Int) : Int := sg (decide (T < 0)) (V (rung T.natAbs (-1074)))
def sumS (s t : Bool) (T : Int) : Bool := if T = 0 then s && t else decide (T < 0)
theorem sum_num (s t : Bool) (m n e i : Nat) : (Datum.sum (.number s m (-1074 + e)) (.number t n (-1074 + i))).map double.write
    = some (wd (sumS s t (sg s (m * 2 ^ e) + sg t (n * 2 ^ i))) (rung (sg s (m * 2 ^ e) + sg t (n * 2 ^ i)).natAbs (-1074))) := by
  have key : ∀ (T : Int) (k : Nat), double.write (.number (if T = 0 then s && t else decide (T < 0)) T.natAbs (-1074 + k)) = wd (sumS s t (T * (2 ^ k : Nat))) (rung (T * (2 ^ k : Nat)).natAbs (-1074)) := by
    intro T k
    show double.nearest _ _ _ = _
    rw [nearest_eq, wd_eq, ← rung_shift, Int.natAbs_mul, Int.natAbs_natCast]
    congr 1
    unfold sumS
    have hk := pow_pos k
    have h1 : (T * (2 ^ k : Nat) = 0) ↔ T = 0 := ⟨fun h => by rcases Int.mul_eq_zero.1 h with h | h <;> omega, fun h => by rw [h, Int.zero_mul]⟩
    have h2 : (T * (2 ^ k : Nat) < 0) ↔ T < 0 := ⟨fun h => Int.lt_of_mul_lt_mul_right (by rw [Int.zero_mul]; exact h) (Int.le_of_lt hk), fun h => Int.mul_neg_of_neg_of_pos h hk⟩
    simp only [h1, h2]
  show some (double.write (.number (if (signed _ _ _ + signed _ _ _) = 0 then s && t else decide ((signed _ _ _ + signed _ _ _) < 0)) (signed _ _ _ + signed _ _ _).natAbs _)) = _
  rw [signed_eq, signed_eq]
  rcases Nat.le_total e i with h | h
  · rw [show min (-1074 + (e : Int)) (-1074 + i) = -1074 + e by omega, show (-1074 + (e : Int) - (-1074 + e)).toNat = 0 by omega, show (-1074 + (i : Int) - (-1074 + e)).toNat = i - e by omega, key, Int.add_mul, Int.mul_assoc, Int.mul_assoc, ← Int.natCast_mul, ← Int.natCast_mul, ← Nat.pow_add, ← Nat.pow_add, sg_mul, sg_mul, show 0 + e = e by omega, show i - e + e = i by omega]
  · rw [show min (-1074 + (e : Int)) (-1074 + i) = -1074 + i by omega, show (-1074 + (i : Int) - (-1074 + i)).toNat = 0 by omega, show (-1074 + (e : Int) - (-1074 + i)).toNat = e - i by omega, key, Int.add_mul, Int.mul_assoc, Int.mul_assoc, ← Int.natCast_mul, ← Int.natCast_mul, ← Nat.pow_add, ← Nat.pow_add, sg_mul, sg_mul, show 0 + i = i by omega, show e - i + i = e by omega]
theorem add_fin {x y : Nat} (hx : FinW x) (hy : FinW y) : double.add x y = some (wd (sumS (ngb x) (ngb y) (sv x + sv y)) (rung (sv x + sv y).natAbs (-1074))) := by
  obtain ⟨m, e, hm, em⟩ := read_num hx
  obtain ⟨n, i, hn, en⟩ := read_num hy
  unfold Format.add
  rw [hm, hn, sum_num, em, en]
  rfl
theorem sub_fin {x y : Nat} (hx : FinW x) (hy : FinW y) : double.sub x y = some (wd (sumS (ngb x) (!ngb y) (sv x - sv y)) (rung (sv x - sv y).natAbs (-1074))) := by
  obtain ⟨m, e, hm, em⟩ := read_num hx
  obtain ⟨n, i, hn, en⟩ := read_num hy
  have e1 : sv x - sv y = sg (ngb x) (m * 2 ^ e) + sg (!ngb y) (n * 2 ^ i) := by
    unfold sv; rw [em, en]; unfold sg; cases ngb x <;> cases ngb y <;> simp <;> omega
  unfold Format.sub
  rw [hm, hn]
  show (Datum.sum (.number _ _ _) (.number _ _ _)).map double.write = _
  rw [sum_num, e1]
theorem sumS_sv (s t : Bool) (T : Int) : sv (wd (sumS s t T) (rung T.natAbs (-1074))) = Rd T := by
  rw [sv_wd _ (rung_le _ _)]
  unfold Rd sumS
  by_cases h : T = 0
  · subst h; simp [sg, rung, V_zero]
  · rw [if_neg h]
end Fl
end Go.Proofs.Ythfopepnofjcjaa
namespace Go.Proofs.Ythfopepnofjcjaa
namespace Fl
open Ieee
def eo (r : Nat) : Nat := r / 4503599627370496 - 1
theorem V_norm {k E : Nat} (h1 : k ≤ 9007199254740992) (h2 : 0 < E → 4503599627370496 ≤ k) : V (E * 4503599627370496 + k) = k * 2 ^ E := by
  unfold V
  rcases Nat.eq_zero_or_pos E with h | h
  · subst h
    rw [Nat.zero_mul, Nat.zero_add, Nat.pow_zero, Nat.mul_one]
    by_cases a : k < 4503599627370496
    · rw [if_pos a]
    · rw [if_neg a]
      by_cases b : k = 9007199254740992
      · subst b; rfl
      · rw [show k / 4503599627370496 - 1 = 0 by omega, Nat.pow_zero]; omega
  · have := h2 h
    rw [if_neg (by omega)]
    by_cases b : k = 9007199254740992
    · subst b
      rw [show (E * 4503599627370496 + 9007199254740992) / 4503599627370496 - 1 = E + 1 by omega, show (E * 4503599627370496 + 9007199254740992) % 4503599627370496 = 0 by omega, Nat.pow_succ]
      omega
    · rw [show (E * 4503599627370496 + k) / 4503599627370496 - 1 = E by omega, show 4503599627370496 + (E * 4503599627370496 + k) % 4503599627370496 = k by omega]
def Eo (n : Nat) : Nat := n.log2 - 52
def rdn (n : Nat) : Nat := rne n (2 ^ Eo n) * 2 ^ Eo n
theorem V_rung {n : Nat} (h : rung n (-1074) < INF) : V (rung n (-1074)) = rdn n := by
  by_cases h0 : n = 0
  · subst h0; simp [rung, V_zero, rdn, rne]
  have hk := kept_le n (-1074)
  have hlo : (lastOf n (-1074) + 1074).toNat = Eo n := by unfold lastOf Eo; omega
  have hkept : kept n (-1074) = rne n (2 ^ Eo n) := by
    unfold kept
    rw [show (-1074 - lastOf n (-1074)).toNat = 0 by unfold lastOf; omega, Nat.pow_zero, Nat.mul_one, show (lastOf n (-1074) - -1074).toNat = Eo n by rw [← hlo]; congr 1]
  have hge : 0 < Eo n → 4503599627370496 ≤ kept n (-1074) := fun hE => le_kept n (-1074) h0 (by unfold lastOf; unfold Eo at hE; omega)
  unfold rung at h ⊢
  rw [if_neg h0] at h ⊢
  rw [hlo] at h ⊢
  have e : min (Eo n * 4503599627370496 + kept n (-1074)) 9218868437227405312 = Eo n * 4503599627370496 + kept n (-1074) := by
    unfold INF at h; omega
  rw [e, V_norm hk hge, hkept]
  rfl
theorem rne_near (n g : Nat) (hg : 0 < g) : (rne n g = n / g ∧ 2 * (n % g) ≤ g) ∨ (rne n g = n / g + 1 ∧ g ≤ 2 * (n % g)) := by
  have hr := Nat.mod_lt n hg
  unfold rne
  cases hb : (decide (g < 2 * (n % g)) || (g == 2 * (n % g) && n / g % 2 == 1))
  · left
    simp only [Bool.or_eq_false_iff, decide_eq_false_iff_not] at hb
    exact ⟨by simp, by omega⟩
  · right
    simp only [Bool.or_eq_true, decide_eq_true_eq, Bool.and_eq_true, beq_iff_eq] at hb
    exact ⟨by simp, by omega⟩
theorem rdn_half (n : Nat) : 2 * ((n : Int) - rdn n).natAbs ≤ 2 ^ Eo n := by
  have hp := Nat.two_pow_pos (Eo n)
  have hd := Nat.div_add_mod n (2 ^ Eo n)
  have hr := Nat.mod_lt n hp
  have hsucc : (n / 2 ^ Eo n + 1) * 2 ^ Eo n = n / 2 ^ Eo n * 2 ^ Eo n + 2 ^ Eo n := Nat.succ_mul _ _
  rw [Nat.mul_comm] at hd
  unfold rdn
  rcases rne_near n (2 ^ Eo n) hp with ⟨e, h2⟩ | ⟨e, h2⟩ <;> rw [e] <;> omega
end Fl
end Go.Proofs.Ythfopepnofjcjaa
namespace Go.Proofs.Ythfopepnofjcjaa
open Ieee Fl
namespace Tp
set_option maxRecDepth 100000
def U : Nat := 2 ^ 1022
theorem U_pos : 0 < U := by decide +kernel
theorem two_1076 : 2 ^ 1076 = 18014398509481984 * U := by decide +kernel
theorem rung_top : rung (2 ^ 1076) (-1074) < INF := by decide +kernel
theorem rung_fin {n : Nat} (h : n ≤ 2 ^ 1076) : rung n (-1074) < INF := Nat.lt_of_le_of_lt (rung_mono (-1074) h) rung_top
theorem pow_mono_any (a b : Nat) (h : a ≤ b) : 2 ^ a ≤ 2 ^ b := Nat.pow_le_pow_right (by omega) h
theorem rdn_err {n : Nat} (h : n < 2 ^ 1076) : (V (rung n (-1074)) : Int) - n ≤ U ∧ (n : Int) - V (rung n (-1074)) ≤ U := by
  rw [V_rung (rung_fin (Nat.le_of_lt h))]
  have h1 := rdn_half n
  have h2 : Eo n ≤ 1023 := by
    unfold Eo
    by_cases h0 : n = 0
    · subst h0; simp
    · have := (Nat.log2_lt h0).2 h
      omega
  have h3 := pow_mono_any _ _ h2
  have h4 : (2 : Nat) ^ 1023 = 2 * U := by decide +kernel
  rw [h4] at h3
  generalize 2 ^ Eo n = x at *
  generalize rdn n = y at *
  generalize U = u at *
  omega
theorem Rd_err {T : Int} (h1 : -(18014398509481984 * U : Nat) < T) (h2 : T < (18014398509481984 * U : Nat)) : Rd T - T ≤ U ∧ T - Rd T ≤ U := by
  have h : T.natAbs < 2 ^ 1076 := by rw [two_1076]; generalize 18014398509481984 * U = m at *; omega
  obtain ⟨e1, e2⟩ := rdn_err h
  unfold Rd sg
  generalize V (rung T.natAbs (-1074)) = x at *
  generalize U = u at *
  by_cases h0 : T < 0
  · rw [decide_eq_true h0, if_pos rfl]; omega
  · rw [decide_eq_false h0, if_neg (by simp)]; omega
theorem wd_fin {s : Bool} {r : Nat} (h : r < INF) : FinW (wd s r) := by unfold FinW; rw [rg_wd s (Nat.le_of_lt h)]; exact h
theorem abs_lt {T : Int} (h1 : -(18014398509481984 * U : Nat) < T) (h2 : T < (18014398509481984 * U : Nat)) : T.natAbs < 2 ^ 1076 := by
  rw [two_1076]; generalize 18014398509481984 * U = m at *; omega
theorem add_err {x y : Nat} (hx : FinW x) (hy : FinW y) (h1 : -(18014398509481984 * U : Nat) < sv x + sv y) (h2 : sv x + sv y < (18014398509481984 * U : Nat)) :
    ∃ z, double.add x y = some z ∧ FinW z ∧ sv z - (sv x + sv y) ≤ U ∧ (sv x + sv y) - sv z ≤ U := by
  refine ⟨_, add_fin hx hy, wd_fin (rung_fin (Nat.le_of_lt (abs_lt h1 h2))), ?_⟩
  rw [sumS_sv]
  exact Rd_err h1 h2
theorem sub_err {x y : Nat} (hx : FinW x) (hy : FinW y) (h1 : -(18014398509481984 * U : Nat) < sv x - sv y) (h2 : sv x - sv y < (18014398509481984 * U : Nat)) :
    ∃ z, double.sub x y = some z ∧ FinW z ∧ sv z - (sv x - sv y) ≤ U ∧ (sv x - sv y) - sv z ≤ U := by
  refine ⟨_, sub_fin hx hy, wd_fin (rung_fin (Nat.le_of_lt (abs_lt h1 h2))), ?_⟩
  rw [sumS_sv]
  exact Rd_err h1 h2
def Sc (x : Nat) (A : Int) : Prop := FinW x ∧ sv x = A * (2 ^ 999 : Nat)
theorem mul_fin {x y P : Nat} (hx : FinW x) (hy : FinW y) (hP : V (rg x) * V (rg y) = P * 2 ^ 1074) : double.mul x y = some (wd (ngb x ^^ ngb y) (rung P (-1074))) := by
  obtain ⟨m, e, hm, em⟩ := read_num hx
  obtain ⟨n, i, hn, en⟩ := read_num hy
  unfold Format.mul
  rw [hm, hn]
  show some (double.nearest (ngb x ^^ ngb y) (m * n) (-1074 + (e : Int) + (-1074 + (i : Int)))) = _
  have h : m * n * 2 ^ (e + i) = P * 2 ^ 1074 := by
    rw [← hP, ← em, ← en, Nat.pow_add]
    simp only [Nat.mul_assoc, Nat.mul_left_comm]
  have h2 : rung (m * n) (-1074 + (e : Int) + (-1074 + (i : Int))) = rung P (-1074) := by
    have a1 := rung_shift (m * n) (e + i) (-2148)
    have a2 := rung_shift P 1074 (-2148)
    rw [h] at a1
    rw [a1] at a2
    rw [show -1074 + (e : Int) + (-1074 + (i : Int)) = -2148 + ((e + i : Nat) : Int) by omega, a2]
    rfl
  rw [nearest_eq, wd_eq, h2]
theorem sg_xor (s t : Bool) (m n : Nat) : sg s m * sg t n = sg (s ^^ t) (m * n) := by
  unfold sg
  cases s <;> cases t <;> simp [Int.neg_mul, Int.mul_neg]
theorem mul_shape (A B g h k : Int) (hh : g * g = h * k) : A * g * (B * g) = A * B * h * k := by
  rw [Int.mul_assoc (A * B), ← hh]
  simp only [Int.mul_assoc, Int.mul_left_comm]
theorem mul_err {x y : Nat} {A B : Int} (hx : Sc x A) (hy : Sc y B) (h1 : -(18014398509481984 * U : Nat) < A * B * (2 ^ 924 : Nat)) (h2 : A * B * (2 ^ 924 : Nat) < (18014398509481984 * U : Nat)) :
    ∃ z, double.mul x y = some z ∧ FinW z ∧ sv z - A * B * (2 ^ 924 : Nat) ≤ U ∧ A * B * (2 ^ 924 : Nat) - sv z ≤ U := by
  obtain ⟨fx, ex⟩ := hx
  obtain ⟨fy, ey⟩ := hy
  have hpw : (0 : Int) < (2 ^ 1074 : Nat) := pow_pos 1074
  have e1 : ((2 ^ 999 : Nat) : Int) * (2 ^ 999 : Nat) = (2 ^ 924 : Nat) * (2 ^ 1074 : Nat) := by decide +kernel
  have e2 : sv x * sv y = A * B * (2 ^ 924 : Nat) * (2 ^ 1074 : Nat) := by
    rw [ex, ey]
    exact mul_shape A B _ _ _ e1
  have e3 : sv x * sv y = sg (ngb x ^^ ngb y) (V (rg x) * V (rg y)) := sg_xor _ _ _ _
  generalize hT : A * B * (2 ^ 924 : Nat) = T at *
  have hP : V (rg x) * V (rg y) = T.natAbs * 2 ^ 1074 := by
    have := congrArg Int.natAbs (e3.symm.trans e2)
    rw [Int.natAbs_mul, Int.natAbs_natCast] at this
    rw [← this]
    unfold sg
    split <;> simp [Int.natAbs_neg, Int.natAbs_natCast, Int.natAbs_mul]
  have hsg : sg (ngb x ^^ ngb y) T.natAbs = T := by
    rw [hP] at e3
    have : sg (ngb x ^^ ngb y) T.natAbs * (2 ^ 1074 : Nat) = T * (2 ^ 1074 : Nat) := by rw [sg_mul, ← e3, e2]
    exact Int.eq_of_mul_eq_mul_right (by omega) this
  have hb := abs_lt h1 h2
  refine ⟨_, mul_fin fx fy hP, wd_fin (rung_fin (Nat.le_of_lt hb)), ?_⟩
  rw [sv_wd _ (rung_le _ _)]
  obtain ⟨d1, d2⟩ := rdn_err hb
  generalize V (rung T.natAbs (-1074)) = v at *
  generalize U = u at *
  unfold sg at hsg ⊢
  cases hs : (ngb x ^^ ngb y) with
  | true => rw [hs] at hsg; simp only [if_true] at hsg ⊢; omega
  | false => rw [hs] at hsg; simp only [Bool.false_eq_true, if_false] at hsg ⊢; omega
end Tp
end Go.Proofs.Ythfopepnofjcjaa
namespace Go.Proofs.Ythfopepnofjcjaa
open Go Go.RowKit
namespace Tp
theorem mul_parts {a b c d re im : Nat} (h : cMulBits a b c d = some (re, im)) : ∃ ac bd ad bc, floatBits .mul .f64 a c = some ac ∧ floatBits .mul .f64 b d = some bd ∧ floatBits .sub .f64 ac bd = some re ∧ floatBits .mul .f64 a d = some ad ∧ floatBits .mul .f64 b c = some bc ∧ floatBits .add .f64 ad bc = some im := by
  unfold cMulBits at h
  cases h1 : floatBits .mul .f64 a c with
  | none => simp [h1] at h
  | some ac =>
  cases h2 : floatBits .mul .f64 b d with
  | none => simp [h1, h2] at h
  | some bd =>
  cases h3 : floatBits .sub .f64 ac bd with
  | none => simp [h1, h2, h3] at h
  | some x =>
  cases h4 : floatBits .mul .f64 a d with
  | none => simp [h1, h2, h3, h4] at h
  | some ad =>
  cases h5 : floatBits .mul .f64 b c with
  | none => simp [h1, h2, h3, h4, h5] at h
  | some bc =>
  cases h6 : floatBits .add .f64 ad bc with
  | none => simp [h1, h2, h3, h4, h5, h6] at h
  | some y =>
    simp [h1, h2, h3, h4, h5, h6] at h
    obtain ⟨rfl, rfl⟩ := h
    exact ⟨ac, bd, ad, bc, rfl, rfl, h3, rfl, rfl, h6⟩
set_option maxHeartbeats 1000000 in
theorem dtimes_any {a b c d re im : Nat} (h : mulC (a, b) (c, d) = some (re, im)) (w : World) :
    Calls Try.prog 71 #[.complex .f64 a b, .complex .f64 c d] w fun e w' => e = .returned (.complex .f64 re im) ∧ w = w' := by
  obtain ⟨ac, bd, ad, bc, h1, h2, h3, h4, h5, h6⟩ := mul_parts h
  have o1 : ∀ t w, (binOp .mul t (.float .f64 a) (.float .f64 c)).run Try.prog w = .ok (.float .f64 ac) w := fun t w => run_float_arith w .mul t .f64 _ _ _ h1
  have o2 : ∀ t w, (binOp .mul t (.float .f64 b) (.float .f64 d)).run Try.prog w = .ok (.float .f64 bd) w := fun t w => run_float_arith w .mul t .f64 _ _ _ h2
  have o3 : ∀ t w, (binOp .sub t (.float .f64 ac) (.float .f64 bd)).run Try.prog w = .ok (.float .f64 re) w := fun t w => run_float_arith w .sub t .f64 _ _ _ h3
  have o4 : ∀ t w, (binOp .mul t (.float .f64 a) (.float .f64 d)).run Try.prog w = .ok (.float .f64 ad) w := fun t w => run_float_arith w .mul t .f64 _ _ _ h4
  have o5 : ∀ t w, (binOp .mul t (.float .f64 b) (.float .f64 c)).run Try.prog w = .ok (.float .f64 bc) w := fun t w => run_float_arith w .mul t .f64 _ _ _ h5
  have o6 : ∀ t w, (binOp .add t (.float .f64 ad) (.float .f64 bc)).run Try.prog w = .ok (.float .f64 im) w := fun t w => run_float_arith w .add t .f64 _ _ _ h6
  clear h h1 h2 h3 h4 h5 h6
  go_enter Try.func71, Try.ntmps71
  go_wp2_with (simp only [o1, o2, o3, o4, o5, o6])
  go_ret
  exact ⟨rfl, rfl⟩
set_option maxHeartbeats 1000000 in
theorem rtimes_any {a b c d re im : Nat} (h : mulC (a, b) (c, d) = some (re, im)) (w : World) :
    Calls Try.prog 51 #[.complex .f64 a b, .complex .f64 c d] w fun e w' => e = .returned (.complex .f64 re im) ∧ w = w' := by
  obtain ⟨ac, bd, ad, bc, h1, h2, h3, h4, h5, h6⟩ := mul_parts h
  have o1 : ∀ t w, (binOp .mul t (.float .f64 a) (.float .f64 c)).run Try.prog w = .ok (.float .f64 ac) w := fun t w => run_float_arith w .mul t .f64 _ _ _ h1
  have o2 : ∀ t w, (binOp .mul t (.float .f64 b) (.float .f64 d)).run Try.prog w = .ok (.float .f64 bd) w := fun t w => run_float_arith w .mul t .f64 _ _ _ h2
  have o3 : ∀ t w, (binOp .sub t (.float .f64 ac) (.float .f64 bd)).run Try.prog w = .ok (.float .f64 re) w := fun t w => run_float_arith w .sub t .f64 _ _ _ h3
  have o4 : ∀ t w, (binOp .mul t (.float .f64 a) (.float .f64 d)).run Try.prog w = .ok (.float .f64 ad) w := fun t w => run_float_arith w .mul t .f64 _ _ _ h4
  have o5 : ∀ t w, (binOp .mul t (.float .f64 b) (.float .f64 c)).run Try.prog w = .ok (.float .f64 bc) w := fun t w => run_float_arith w .mul t .f64 _ _ _ h5
  have o6 : ∀ t w, (binOp .add t (.float .f64 ad) (.float .f64 bc)).run Try.prog w = .ok (.float .f64 im) w := fun t w => run_float_arith w .add t .f64 _ _ _ h6
  clear h h1 h2 h3 h4 h5 h6
  go_enter Try.func51, Try.ntmps51
  go_wp2_with (simp only [o1, o2, o3, o4, o5, o6])
  go_ret
  exact ⟨rfl, rfl⟩
def isZ (v : Nat) : Bool := FloatKind.f64.format.order v 0 == some .eq
def unsN (v : Nat) : Nat := if isZ v = true then 0 else v
theorem tunsigned_any (v : Nat) (w : World) : Calls Try.prog 49 #[.float .f64 v] w fun e w' => e = .returned (.float .f64 (unsN v)) ∧ w = w' := by
  cases hb : isZ v with
  | true =>
    have e : unsN v = 0 := by unfold unsN; rw [if_pos hb]
    rw [e]
    have hb' : (FloatKind.f64.format.order v 0 == some .eq) = true := hb
    go_enter Try.func49, Try.ntmps49
    go_wp2
    go_ret
    exact ⟨rfl, rfl⟩
  | false =>
    have e : unsN v = v := by unfold unsN; rw [hb]; rfl
    rw [e]
    have hb' : (FloatKind.f64.format.order v 0 == some .eq) = false := hb
    go_enter Try.func49, Try.ntmps49
    go_wp2
    go_ret
    exact ⟨rfl, rfl⟩
theorem runsigned_any (v : Nat) (w : World) : Calls Try.prog 52 #[.float .f64 v] w fun e w' => e = .returned (.float .f64 (unsN v)) ∧ w = w' := by
  cases hb : isZ v with
  | true =>
    have e : unsN v = 0 := by unfold unsN; rw [if_pos hb]
    rw [e]
    have hb' : (FloatKind.f64.format.order v 0 == some .eq) = true := hb
    go_enter Try.func52, Try.ntmps52
    go_wp2
    go_ret
    exact ⟨rfl, rfl⟩
  | false =>
    have e : unsN v = v := by unfold unsN; rw [hb]; rfl
    rw [e]
    have hb' : (FloatKind.f64.format.order v 0 == some .eq) = false := hb
    go_enter Try.func52, Try.ntmps52
    go_wp2
    go_ret
    exact ⟨rfl, rfl⟩
set_option maxRecDepth 100000 in
@[go_sem] theorem call_bits7 (x : Nat) (w : World) : (callFunc 27 #[.float .f64 x]).run Try.prog w = .ok (.value (.int .u64 x)) w := by
  rw [run_callFunc_extern (e := Extern.MathFloatBits.float64bits) Try.func27 (by kernel_rfl) (by kernel_rfl) (by kernel_rfl) (by kernel_rfl)]; rfl
end Tp
end Go.Proofs.Ythfopepnofjcjaa
