/- Contracts. -/
import Derived.Test.YtnlhjcfpfapafaaESq10
import Derived.Test.YtnlhjcfpfapafaaESq11
import Derived.Test.YtnlhjcfpfapafaaESq12
import Derived.Test.YtnlhjcfpfapafaaESq17
import Derived.Test.YtnlhjcfpfapafaaProg
import Derived.Test.YtnlhjcfpfapafaaShelf
import Derived.Lib.ItoaMem
import Derived.Lib.TrailingZeros
import Derived.Lib.AppendIntMem
import Derived.Lib.Walk
import Derived.WalkKit
import Derived.BigCall
import Derived.BigGuard
import Derived.Lib.Hide
import Derived.Test.YtnlhjcfpfapafaaESq09
namespace Go.Proofs.Ytnlhjcfpfapafaa.Big
def ng (q : Rat) : Bool := decide (q.num < 0)
def nu (q : Rat) : Nat := q.num.natAbs
def de (q : Rat) : Nat := q.den
def sI (b : Bool) (n : Nat) : Int := if b then -(n : Int) else (n : Int)
theorem sI_true (n : Nat) : sI true n = -(n : Int) := rfl
theorem sI_false (n : Nat) : sI false n = (n : Int) := rfl
theorem sI_abs (b : Bool) (n : Nat) : (sI b n).natAbs = n := by cases b <;> simp [sI]
theorem sI_mul (b : Bool) (n m : Nat) : sI b (n * m) = sI b n * (m : Int) := by cases b <;> simp [sI, Int.neg_mul]
theorem num_eq (q : Rat) : q.num = sI (ng q) (nu q) := by
 unfold ng nu sI
 by_cases h : q.num < 0
 ·rw [if_pos (decide_eq_true h)]; omega
 ·rw [if_neg (by simpa using h)]; omega
theorem ng_pos {q : Rat} (h : ng q = true) : 1 ≤ nu q := by
 unfold ng at h; unfold nu
 have := of_decide_eq_true h
 omega
theorem de_pos (q : Rat) : 1 ≤ de q := Nat.pos_of_ne_zero q.den_nz
theorem cop (q : Rat) : Nat.gcd (nu q) (de q) = 1 := q.reduced
theorem sI_neg {b : Bool} {n : Nat} (h : b = true → 1 ≤ n) : decide (sI b n < 0) = b := by
 cases b with
 | true => have := h rfl; rw [sI_true]; exact decide_eq_true (by omega)
 | false => rw [sI_false]; exact decide_eq_false (by omega)
theorem parts {b : Bool} {n d : Nat} (hd : 1 ≤ d) (hc : Nat.gcd n d = 1) (hs : b = true → 1 ≤ n) {N : Int} {D : Nat} (hD : D ≠ 0) (h : sI b n * (D : Int) = N * (d : Int)) {q : Rat} (hq : q = mkRat N D) :
  ng q = b ∧ nu q = n ∧ de q = d := by
 have hd0 : d ≠ 0 := by omega
 have e : q = (⟨sI b n, d, hd0, by rw [sI_abs]; exact hc⟩ : Rat) := by
  rw [Rat.mk_eq_mkRat, hq, Rat.mkRat_eq_iff hD hd0, h]
 rw [e]
 exact ⟨sI_neg hs, sI_abs b n, rfl⟩
theorem parts_of (q : Rat) (b : Bool) (n d : Nat) (h : ng q = b ∧ nu q = n ∧ de q = d) : q = mkRat (sI b n) d := by
 obtain ⟨rfl, rfl, rfl⟩ := h
 rw [← num_eq]; exact (Rat.mkRat_self q).symm
theorem is_mk (q : Rat) : q = mkRat (sI (ng q) (nu q)) (de q) := parts_of q _ _ _ ⟨rfl, rfl, rfl⟩
theorem gcd_pos_right {n d : Nat} (h : 1 ≤ d) : 1 ≤ Nat.gcd n d := Nat.gcd_pos_of_pos_right _ h
theorem cop_div {a b c d : Nat} (h : Nat.gcd a b = 1) (hc : c ∣ a) (hd : d ∣ b) : Nat.gcd c d = 1 := by
 refine Nat.dvd_one.1 ?_
 rw [← h]
 exact Nat.dvd_gcd (Nat.dvd_trans (Nat.gcd_dvd_left _ _) hc) (Nat.dvd_trans (Nat.gcd_dvd_right _ _) hd)
theorem of_parts (b : Bool) (n d : Nat) (hd : 1 ≤ d) :
  ng (mkRat (sI b n) d) = (b && decide (0 < n / Nat.gcd n d)) ∧ nu (mkRat (sI b n) d) = n / Nat.gcd n d ∧ de (mkRat (sI b n) d) = d / Nat.gcd n d := by
 have hg := gcd_pos_right (n := n) hd
 have e1 := Nat.div_mul_cancel (Nat.gcd_dvd_left n d)
 have e2 := Nat.div_mul_cancel (Nat.gcd_dvd_right n d)
 refine parts ?_ (Nat.gcd_div_gcd_div_gcd_of_pos_right hd) ?_ (show d ≠ 0 by omega) ?_ rfl
 ·exact Nat.div_pos (Nat.le_of_dvd hd (Nat.gcd_dvd_right _ _)) hg
 ·intro h
  rw [Bool.and_eq_true] at h
  exact of_decide_eq_true h.2
 ·generalize Nat.gcd n d = g at *
  generalize n / g = n' at *
  generalize d / g = d' at *
  subst e1 e2
  cases b
  ·simp [sI]; grind
  ·by_cases h0 : 0 < n'
   ·simp [sI, h0]; grind
   ·have : n' = 0 := by omega
    subst this; simp [sI]
theorem mul_parts (q r : Rat) :
  ng (q * r) = ((ng q != ng r) && decide (0 < nu q / Nat.gcd (nu q) (de r) * (nu r / Nat.gcd (nu r) (de q)))) ∧
  nu (q * r) = nu q / Nat.gcd (nu q) (de r) * (nu r / Nat.gcd (nu r) (de q)) ∧
  de (q * r) = de q / Nat.gcd (nu r) (de q) * (de r / Nat.gcd (nu q) (de r)) := by
 have hq := de_pos q
 have hr := de_pos r
 have cq := cop q
 have cr := cop r
 have eq : q * r = mkRat (sI (ng q) (nu q) * sI (ng r) (nu r)) (de q * de r) := by
  rw [Rat.mul_def', num_eq q, num_eq r]; rfl
 generalize nu q = n at *
 generalize de q = d at *
 generalize nu r = m at *
 generalize de r = e at *
 generalize ng q = b at *
 generalize ng r = c at *
 have g1 := gcd_pos_right (n := n) hr
 have g2 := gcd_pos_right (n := m) hq
 have a1 := Nat.div_mul_cancel (Nat.gcd_dvd_left n e)
 have a2 := Nat.div_mul_cancel (Nat.gcd_dvd_right n e)
 have a3 := Nat.div_mul_cancel (Nat.gcd_dvd_left m d)
 have a4 := Nat.div_mul_cancel (Nat.gcd_dvd_right m d)
 have c1 : Nat.gcd (n / Nat.gcd n e) (e / Nat.gcd n e) = 1 := Nat.gcd_div_gcd_div_gcd_of_pos_right hr
 have c2 : Nat.gcd (m / Nat.gcd m d) (d / Nat.gcd m d) = 1 := Nat.gcd_div_gcd_div_gcd_of_pos_right hq
 have p1 : 1 ≤ d / Nat.gcd m d := Nat.div_pos (Nat.le_of_dvd hq (Nat.gcd_dvd_right _ _)) g2
 have p2 : 1 ≤ e / Nat.gcd n e := Nat.div_pos (Nat.le_of_dvd hr (Nat.gcd_dvd_right _ _)) g1
 generalize Nat.gcd n e = g at *
 generalize Nat.gcd m d = k at *
 generalize n / g = n' at *
 generalize e / g = e' at *
 generalize m / k = m' at *
 generalize d / k = d' at *
 refine parts (Nat.mul_pos p1 p2) ?_ ?_ (Nat.ne_of_gt (Nat.mul_pos hq hr)) ?_ eq
 ·have x1 : Nat.Coprime n' d' := cop_div cq ⟨g, a1.symm⟩ ⟨k, a4.symm⟩
  have x2 : Nat.Coprime n' e' := c1
  have x3 : Nat.Coprime m' d' := c2
  have x4 : Nat.Coprime m' e' := cop_div cr ⟨k, a3.symm⟩ ⟨g, a2.symm⟩
  exact (Nat.Coprime.mul_right x1 x2).mul_left (Nat.Coprime.mul_right x3 x4)
 ·intro h
  rw [Bool.and_eq_true] at h
  exact of_decide_eq_true h.2
 ·clear c1 c2 cq cr eq p1 p2
  subst a1 a2 a3 a4
  by_cases h0 : 0 < n' * m'
  ·rw [decide_eq_true h0, Bool.and_true]
   cases b <;> cases c <;> simp [sI] <;> grind
  ·have h1 : n' * m' = 0 := by omega
   have h2 : n' = 0 ∨ m' = 0 := Nat.mul_eq_zero.1 h1
   rw [h1]
   rcases h2 with h2 | h2 <;> subst h2 <;> simp [sI]
theorem add_parts (q r : Rat) (s L R : Nat) (S : Int) (hs : s = Nat.gcd (de q) (de r)) (hL : L = de q / s) (hR : R = de r / s) (hS : S = sI (ng q) (nu q * R) + sI (ng r) (nu r * L)) :
  ng (q + r) = decide (S < 0) ∧ nu (q + r) = S.natAbs / Nat.gcd S.natAbs s ∧ de (q + r) = L * (de r / Nat.gcd S.natAbs s) := by
 have hq := de_pos q
 have hr := de_pos r
 have cq := cop q
 have cr := cop r
 have eq : q + r = mkRat (sI (ng q) (nu q) * de r + sI (ng r) (nu r) * de q) (de q * de r) := by
  rw [Rat.add_def', num_eq q, num_eq r]; rfl
 rw [sI_mul, sI_mul] at hS
 have kq : (sI (ng q) (nu q)).natAbs = nu q := sI_abs _ _
 have kr : (sI (ng r) (nu r)).natAbs = nu r := sI_abs _ _
 generalize nu q = n at *
 generalize de q = d at *
 generalize nu r = m at *
 generalize de r = e at *
 generalize sI (ng q) n = x at *
 generalize sI (ng r) m = y at *
 have hs1 : 1 ≤ s := by rw [hs]; exact gcd_pos_right hr
 have e1 : L * s = d := by rw [hL, hs]; exact Nat.div_mul_cancel (Nat.gcd_dvd_left _ _)
 have e2 : R * s = e := by rw [hR, hs]; exact Nat.div_mul_cancel (Nat.gcd_dvd_right _ _)
 have cLR : Nat.gcd L R = 1 := by rw [hL, hR, hs]; exact Nat.gcd_div_gcd_div_gcd_of_pos_right hr
 have hL1 : 1 ≤ L := by rcases Nat.eq_zero_or_pos L with h | h
                        ·rw [h] at e1; omega
                        ·exact h
 have hR1 : 1 ≤ R := by rcases Nat.eq_zero_or_pos R with h | h
                        ·rw [h] at e2; omega
                        ·exact h
 clear hL hR hs
 -- what goes into the sum and into L, or into R, is 1
 have oL : Nat.gcd S.natAbs L = 1 := by
  have hg1 : (Nat.gcd S.natAbs L) ∣ S.natAbs := Nat.gcd_dvd_left _ _
  have hg2 : (Nat.gcd S.natAbs L) ∣ L := Nat.gcd_dvd_right _ _
  generalize Nat.gcd S.natAbs L = g at *
  have h1 : (g : Int) ∣ S := Int.ofNat_dvd_left.2 hg1
  have h2 : (g : Int) ∣ y * (L : Int) := Int.dvd_trans (Int.natCast_dvd_natCast.2 hg2) (Int.dvd_mul_left _ _)
  have h3 : (g : Int) ∣ x * (R : Int) := by
   have : x * (R : Int) = S - y * (L : Int) := by rw [hS]; omega
   rw [this]; exact Int.dvd_sub h1 h2
  have h4 : g ∣ n * R := by
   have := Int.ofNat_dvd_left.1 h3
   rwa [Int.natAbs_mul, kq, Int.natAbs_natCast] at this
  have c1 : Nat.Coprime g n := Nat.Coprime.symm (cop_div cq (Nat.dvd_refl _) (Nat.dvd_trans hg2 ⟨s, e1.symm⟩))
  have c2 : Nat.Coprime g R := cop_div cLR hg2 (Nat.dvd_refl _)
  exact Nat.Coprime.eq_one_of_dvd (Nat.Coprime.mul_right c1 c2) h4
 have oR : Nat.gcd S.natAbs R = 1 := by
  have hg1 : (Nat.gcd S.natAbs R) ∣ S.natAbs := Nat.gcd_dvd_left _ _
  have hg2 : (Nat.gcd S.natAbs R) ∣ R := Nat.gcd_dvd_right _ _
  generalize Nat.gcd S.natAbs R = g at *
  have h1 : (g : Int) ∣ S := Int.ofNat_dvd_left.2 hg1
  have h2 : (g : Int) ∣ x * (R : Int) := Int.dvd_trans (Int.natCast_dvd_natCast.2 hg2) (Int.dvd_mul_left _ _)
  have h3 : (g : Int) ∣ y * (L : Int) := by
   have : y * (L : Int) = S - x * (R : Int) := by rw [hS]; omega
   rw [this]; exact Int.dvd_sub h1 h2
  have h4 : g ∣ m * L := by
   have := Int.ofNat_dvd_left.1 h3
   rwa [Int.natAbs_mul, kr, Int.natAbs_natCast] at this
  have c1 : Nat.Coprime g m := Nat.Coprime.symm (cop_div cr (Nat.dvd_refl _) (Nat.dvd_trans hg2 ⟨s, e2.symm⟩))
  have c2 : Nat.Coprime g L := Nat.Coprime.symm (cop_div cLR (Nat.dvd_refl _) hg2)
  exact Nat.Coprime.eq_one_of_dvd (Nat.Coprime.mul_right c1 c2) h4
 have hcs : Nat.gcd S.natAbs s ∣ s := Nat.gcd_dvd_right _ _
 have hcS : Nat.gcd S.natAbs s ∣ S.natAbs := Nat.gcd_dvd_left _ _
 have c3 : Nat.gcd (S.natAbs / Nat.gcd S.natAbs s) (s / Nat.gcd S.natAbs s) = 1 := Nat.gcd_div_gcd_div_gcd_of_pos_right hs1
 have hc1 : 1 ≤ Nat.gcd S.natAbs s := gcd_pos_right hs1
 have e3 := Nat.div_mul_cancel hcs
 have e4 := Nat.div_mul_cancel hcS
 have e5 : e / Nat.gcd S.natAbs s = R * (s / Nat.gcd S.natAbs s) := by rw [← e2, Nat.mul_div_assoc _ hcs]
 have hsc : 1 ≤ s / Nat.gcd S.natAbs s := Nat.div_pos (Nat.le_of_dvd hs1 hcs) hc1
 rw [e5]
 generalize Nat.gcd S.natAbs s = c at *
 have eS : S = sI (decide (S < 0)) S.natAbs := by
  unfold sI
  by_cases h : S < 0
  ·rw [if_pos (decide_eq_true h)]; omega
  ·rw [if_neg (by simpa using h)]; omega
 refine parts (Nat.mul_pos hL1 (Nat.mul_pos hR1 hsc)) ?_ ?_ (Nat.ne_of_gt (Nat.mul_pos hq hr)) ?_ eq
 ·have d1 : S.natAbs / c ∣ S.natAbs := ⟨c, e4.symm⟩
  have x1 : Nat.Coprime (S.natAbs / c) L := cop_div oL d1 (Nat.dvd_refl _)
  have x2 : Nat.Coprime (S.natAbs / c) R := cop_div oR d1 (Nat.dvd_refl _)
  exact Nat.Coprime.mul_right x1 (Nat.Coprime.mul_right x2 c3)
 ·intro h
  have h0 := of_decide_eq_true h
  rcases Nat.eq_zero_or_pos (S.natAbs / c) with h1 | h1
  ·rw [h1] at e4; omega
  ·exact h1
 ·have e6 : sI (decide (S < 0)) (S.natAbs / c) * (c : Int) = x * (R : Int) + y * (L : Int) := by
   rw [← sI_mul, e4, ← eS, hS]
  generalize sI (decide (S < 0)) (S.natAbs / c) = z at *
  generalize s / c = t at *
  rw [← e1, ← e2, ← e3]
  simp only [Int.natCast_mul]
  grind
theorem neg_parts (q : Rat) : ng (-q) = (!ng q && decide (0 < nu q)) ∧ nu (-q) = nu q ∧ de (-q) = de q := by
 unfold ng nu de
 rw [Rat.neg_num, Rat.neg_den]
 refine ⟨?_, by omega, rfl⟩
 by_cases h : q.num < 0
 ·rw [decide_eq_true h, decide_eq_false (by omega)]; rfl
 ·rw [decide_eq_false h]
  by_cases h0 : q.num = 0
  ·rw [h0]; rfl
  ·rw [decide_eq_true (by omega), decide_eq_true (by omega)]; rfl
theorem nu_zero {q : Rat} : nu q = 0 ↔ q = 0 := by
 unfold nu
 rw [Int.natAbs_eq_zero]; exact Rat.num_eq_zero
theorem inv_parts (q : Rat) (h : nu q ≠ 0) : ng q⁻¹ = ng q ∧ nu q⁻¹ = de q ∧ de q⁻¹ = nu q := by
 have e := is_mk q
 rw [← Rat.divInt_ofNat] at e
 have e2 : q⁻¹ = Rat.divInt (sI (ng q) (de q)) ((nu q : Nat) : Int) := by
  conv => lhs; rw [e, Rat.inv_divInt]
  cases ng q
  ·rfl
  ·rw [sI_true, sI_true, Rat.divInt_neg']
 rw [Rat.divInt_ofNat] at e2
 refine parts (by omega) (by rw [Nat.gcd_comm]; exact cop q) (fun _ => de_pos q) h rfl e2
def cmpQ (q r : Rat) : Int := if q < r then -1 else if q = r then 0 else 1
theorem lt_cross (q r : Rat) : q < r ↔ sI (ng q) (nu q) * (de r : Int) < sI (ng r) (nu r) * (de q : Int) := by
 rw [← num_eq, ← num_eq]; exact Rat.lt_iff q r
theorem eq_cross (q r : Rat) : q = r ↔ sI (ng q) (nu q) * (de r : Int) = sI (ng r) (nu r) * (de q : Int) := by
 rw [← num_eq, ← num_eq]; exact Rat.eq_iff_mul_eq_mul
theorem cmpQ_cross {q r : Rat} {a b : Int} (ha : a = sI (ng q) (nu q) * (de r : Int)) (hb : b = sI (ng r) (nu r) * (de q : Int)) : cmpQ q r = if a < b then -1 else if a = b then 0 else 1 := by
 unfold cmpQ
 simp only [lt_cross, eq_cross, ha, hb]
theorem cmpQ_neg_pos {q r : Rat} (h1 : ng q = true) (h2 : ng r = false) : cmpQ q r = -1 := by
 have p1 := ng_pos h1
 have hr := de_pos r
 rw [cmpQ_cross rfl rfl, if_pos]
 rw [h1, h2, sI_true, sI_false]
 have x1 : 0 < nu q * de r := Nat.mul_pos p1 hr
 have x2 : (0 : Int) ≤ ((nu r * de q : Nat) : Int) := Int.natCast_nonneg _
 have x3 : (0 : Int) < ((nu q * de r : Nat) : Int) := by omega
 rw [Int.natCast_mul] at x2 x3
 rw [Int.neg_mul]; omega
theorem cmpQ_pos_neg {q r : Rat} (h1 : ng q = false) (h2 : ng r = true) : cmpQ q r = 1 := by
 have p1 := ng_pos h2
 have hr := de_pos q
 have x1 : 0 < nu r * de q := Nat.mul_pos p1 hr
 have x2 : (0 : Int) ≤ ((nu q * de r : Nat) : Int) := Int.natCast_nonneg _
 have x3 : (0 : Int) < ((nu r * de q : Nat) : Int) := by omega
 rw [Int.natCast_mul] at x2 x3
 rw [cmpQ_cross rfl rfl, h1, h2, sI_true, sI_false, Int.neg_mul, if_neg (by omega), if_neg (by omega)]
theorem cmpQ_pos {q r : Rat} (h1 : ng q = false) (h2 : ng r = false) : cmpQ q r = cmpI (nu q * de r) (nu r * de q) := by
 rw [cmpQ_cross rfl rfl, h1, h2, sI_false, sI_false, ← Int.natCast_mul, ← Int.natCast_mul]
 unfold cmpI
 simp only [Int.ofNat_lt, Int.natCast_inj]
theorem cmpQ_neg {q r : Rat} (h1 : ng q = true) (h2 : ng r = true) : cmpQ q r = -cmpI (nu q * de r) (nu r * de q) := by
 rw [cmpQ_cross rfl rfl, h1, h2, sI_true, sI_true, Int.neg_mul, Int.neg_mul, ← Int.natCast_mul, ← Int.natCast_mul]
 unfold cmpI
 generalize nu q * de r = a
 generalize nu r * de q = b
 rcases Nat.lt_trichotomy a b with h | h | h
 ·rw [if_neg (by omega), if_neg (by omega), if_pos h]; rfl
 ·subst h; simp
 ·rw [if_pos (by omega), if_neg (by omega), if_neg (by omega)]
end Go.Proofs.Ytnlhjcfpfapafaa.Big
namespace Go.Proofs.Ytnlhjcfpfapafaa
open Go.RowKit
def szN (n : Nat) : Nat := if n = 0 then 0 else Nat.log2 n / 8 + 1
theorem szN_is (n : Nat) : Big.IsSize n (szN n) := by
 unfold szN
 by_cases h : n = 0
 ·subst h; exact Big.isSize_zero
 ·rw [if_neg h]
  have h1 := Nat.log2_self_le h
  have h2 : n < 2 ^ (Nat.log2 n + 1) := Nat.lt_log2_self
  generalize Nat.log2 n = b at *
  refine ⟨?_, fun _ => ?_⟩
  ·rw [Big.pow256]
   exact Nat.lt_of_lt_of_le h2 (Nat.pow_le_pow_right (by omega) (by omega))
  ·rw [Big.pow256]
   exact Nat.le_trans (Nat.pow_le_pow_right (by omega) (by omega)) h1
theorem szN_of {n s : Nat} (h : Big.IsSize n s) : s = szN n := Big.isSize_unique h (szN_is n)
theorem szN_le {n k : Nat} (h : n < 256 ^ k) : szN n ≤ k := by
 rcases Nat.lt_or_ge k (szN n) with h1 | h1
 ·have h2 := (szN_is n).2 (by omega)
  have h3 : 256 ^ k ≤ 256 ^ (szN n - 1) := Nat.pow_le_pow_right (by omega) (by omega)
  omega
 ·exact h1
theorem lt_szN {n k : Nat} (h : szN n ≤ k) : n < 256 ^ k :=
 Nat.lt_of_lt_of_le (szN_is n).1 (Nat.pow_le_pow_right (by omega) h)
theorem szN_mono {m n : Nat} (h : m ≤ n) : szN m ≤ szN n := szN_le (Nat.lt_of_le_of_lt h (szN_is n).1)
theorem szN_pos {n : Nat} (h : n ≠ 0) : 0 < szN n := by unfold szN; rw [if_neg h]; omega
def btx (n : Nat) : List UInt8 := Big.btext n (szN n)
theorem btx_of {n s : Nat} (h : Big.IsSize n s) : Big.btext n s = btx n := by rw [szN_of h]; rfl
theorem btx_length (n : Nat) : (btx n).length = szN n := Big.btext_length _ _
theorem btx_num (n : Nat) : Big.bnum (btx n) = n := Big.btext_num _ _ (szN_is n).1
def bst (n : Nat) : ByteArray := ⟨(btx n).toArray⟩
theorem bst_size (n : Nat) : (bst n).size = szN n := by
 show (btx n).toArray.size = _
 rw [List.size_toArray, btx_length]
theorem bst_list (n : Nat) : (bst n).data.toList = btx n := rfl
def Lead (l : List UInt8) : Prop := l.head? ≠ some 0
theorem rev_norm {l : List UInt8} (h : Lead l) : Big.Norm (Big.rev l) := by
 unfold Big.Norm Big.rev
 cases l with
 | nil => simp
 | cons c l =>
  simp
  intro e
  exact h (by simp; exact UInt8.toNat_inj.1 e)
theorem btx_bnum {l : List UInt8} (h : Lead l) : btx (Big.bnum l) = l := by
 have ok := Big.rev_ok l
 have h1 : Big.IsSize (Big.bnum l) l.length := by
  refine ⟨?_, fun hp => ?_⟩
  ·have := Big.val_lt _ ok; rwa [Big.rev_length] at this
  ·have := Big.norm_ge (B := 256) (Big.rev l) (rev_norm h) (by intro e; have := Big.rev_length l; rw [e] at this; simp at this; omega)
   rwa [Big.rev_length] at this
 rw [← btx_of h1]
 unfold Big.btext
 have e : Big.bd (Big.bnum l) l.length = Big.rev l := by
  have lb := Big.bd_length (Big.bnum l) l.length
  have lr := Big.rev_length l
  have ev : Big.val 256 (Big.bd (Big.bnum l) l.length) = Big.val 256 (Big.rev l) := by
   rw [Big.bd_val]; exact Nat.mod_eq_of_lt h1.1
  apply List.ext_getElem (by omega)
  intro i hi hj
  have n1 := Big.nth_div (B := 256) (by omega) _ (Big.bd_ok (Big.bnum l) l.length) i
  have n2 := Big.nth_div (B := 256) (by omega) _ ok i
  rw [ev, ← n2] at n1
  unfold Big.nth at n1
  rwa [List.getD_eq_getElem?_getD, List.getD_eq_getElem?_getD, List.getElem?_eq_getElem hi, List.getElem?_eq_getElem hj] at n1
 rw [e]
 unfold Big.rev
 rw [← List.map_reverse, List.reverse_reverse, List.map_map]
 conv => rhs; rw [← List.map_id l]
 apply List.map_congr_left
 intro c _
 exact UInt8.ofNat_toNat
theorem btx_lead (n : Nat) : Lead (btx n) := by
 intro h
 have hs := szN_is n
 have hl := btx_length n
 have h1 : Big.bnum (btx n) = n := btx_num n
 cases hb : btx n with
 | nil => rw [hb] at h; simp at h
 | cons c l =>
  rw [hb] at h h1 hl
  have hc : c = 0 := by simpa using h
  subst hc
  have hlen : szN n = l.length + 1 := by rw [← hl]; rfl
  have h2 := hs.2 (by omega)
  rw [hlen, Nat.add_sub_cancel] at h2
  have h3 : Big.bnum (0 :: l) = Big.bnum l := by
   unfold Big.bnum Big.rev
   rw [List.reverse_cons, List.map_append, Big.val_append]
   simp [Big.val]
  have h4 := Big.val_lt _ (Big.rev_ok l)
  rw [Big.rev_length] at h4
  have h5 : Big.bnum l < 256 ^ l.length := h4
  rw [← h3, h1] at h5
  omega
def fracV (q : Rat) : Value := .agg #[.bool (Big.ng q), .string (bst (Big.nu q)), .string (bst (Big.de q))]
structure Fit (q : Rat) : Prop where
 nu : szN (Big.nu q) ≤ 512
 de : szN (Big.de q) ≤ 512
def NumIn (w : World) (v : Value) (q : Rat) : Prop := ∃ a b, v = .agg #[.bool (Big.ng q), a, b] ∧ NatIn w a (Big.nu q) ∧ NatIn w b (Big.de q)
theorem NumIn.keep {w w' : World} {v : Value} {q : Rat} (h : NumIn w v q) (hb : Below w.heap.size w w') : NumIn w' v q := by
 obtain ⟨a, b, e, h1, h2⟩ := h; exact ⟨a, b, e, h1.keep hb, h2.keep hb⟩
theorem NumIn.drew {w w' : World} {v : Value} {q : Rat} (h : NumIn w v q) (hb : Drew w w') : NumIn w' v q := h.keep (hb.below _)
structure Sz (k n : Nat) : Prop where
 out : n < Big.M64 ^ k
theorem M64_gt : 1 < Big.M64 := by unfold Big.M64; omega
theorem Sz.up {k j n : Nat} (h : Sz k n) (hk : k ≤ j) : Sz j n := ⟨Nat.lt_of_lt_of_le h.out (Nat.pow_le_pow_right Big.M64_pos hk)⟩
theorem Sz.le {k m n : Nat} (h : Sz k n) (hm : m ≤ n) : Sz k m := ⟨Nat.lt_of_le_of_lt hm h.out⟩
theorem Sz.mul {k j m n : Nat} (h : Sz k n) (i : Sz j m) : Sz (k + j) (n * m) := by
 refine ⟨?_⟩
 rw [Nat.pow_add]
 exact Nat.mul_lt_mul'' h.out i.out
theorem Sz.add {k j m n : Nat} (h : Sz k n) (i : Sz j m) : Sz (k + j + 1) (n + m) := by
 have a := (h.up (show k ≤ k + j by omega)).out
 have b := (i.up (show j ≤ k + j by omega)).out
 refine ⟨?_⟩
 rw [Nat.pow_succ]
 have h2 : Big.M64 ^ (k + j) * 2 ≤ Big.M64 ^ (k + j) * Big.M64 := Nat.mul_le_mul_left _ (by have := M64_gt; omega)
 generalize Big.M64 ^ (k + j) = P at *
 generalize P * Big.M64 = Q at *
 omega
theorem Sz.bytes8 {n k : Nat} (h : szN n ≤ 8 * k) : Sz k n := by
 refine ⟨?_⟩
 rw [Big.M64_pow, ← Nat.pow_mul]
 exact lt_szN h
theorem Sz.bytes {n : Nat} (h : szN n ≤ 512) : Sz 64 n := Sz.bytes8 h
theorem sz_one : Sz 1 1 := ⟨by rw [Nat.pow_one]; exact M64_gt⟩
theorem sz_zero : Sz 0 0 := ⟨by simp⟩
theorem sz_word {n : Nat} (h : n < Big.M64) : Sz 1 n := ⟨by rwa [Nat.pow_one]⟩
structure Sm (k : Nat) (q : Rat) : Prop where
 nu : Sz k (Big.nu q)
 de : Sz k (Big.de q)
theorem Fit.sm {q : Rat} (h : Fit q) : Sm 64 q := ⟨Sz.bytes h.nu, Sz.bytes h.de⟩
theorem Sm.up {k j : Nat} {q : Rat} (h : Sm k q) (hk : k ≤ j) : Sm j q := ⟨h.nu.up hk, h.de.up hk⟩
theorem Sm.neg {k : Nat} {q : Rat} (h : Sm k q) : Sm k (-q) := by
 obtain ⟨_, h2, h3⟩ := Big.neg_parts q
 exact ⟨by rw [h2]; exact h.nu, by rw [h3]; exact h.de⟩
theorem Sm.mul {k j : Nat} {q r : Rat} (h : Sm k q) (i : Sm j r) : Sm (k + j) (q * r) := by
 obtain ⟨_, h2, h3⟩ := Big.mul_parts q r
 exact ⟨by rw [h2]; exact (h.nu.le (Nat.div_le_self _ _)).mul (i.nu.le (Nat.div_le_self _ _)), by rw [h3]; exact (h.de.le (Nat.div_le_self _ _)).mul (i.de.le (Nat.div_le_self _ _))⟩
theorem Sm.inv {k : Nat} {q : Rat} (h : Sm k q) (h0 : Big.nu q ≠ 0) : Sm k q⁻¹ := by
 obtain ⟨_, h2, h3⟩ := Big.inv_parts q h0
 exact ⟨by rw [h2]; exact h.de, by rw [h3]; exact h.nu⟩
theorem abs_sum_le (b c : Bool) (n m : Nat) : (Big.sI b n + Big.sI c m).natAbs ≤ n + m := by
 have h1 := Big.sI_abs b n
 have h2 := Big.sI_abs c m
 omega
theorem Sm.add {k j : Nat} {q r : Rat} (h : Sm k q) (i : Sm j r) : Sm (2 * k + 2 * j + 1) (q + r) := by
 obtain ⟨_, h2, h3⟩ := Big.add_parts q r _ _ _ _ rfl rfl rfl rfl
 refine ⟨?_, ?_⟩
 ·rw [h2]
  refine Sz.le ?_ (Nat.div_le_self _ _)
  refine Sz.le ?_ (abs_sum_le _ _ _ _)
  exact ((h.nu.mul (i.de.le (Nat.div_le_self _ _))).add (i.nu.mul (h.de.le (Nat.div_le_self _ _)))).up (by omega)
 ·rw [h3]
  exact ((h.de.le (Nat.div_le_self _ _)).mul (i.de.le (Nat.div_le_self _ _))).up (by omega)
structure By (k : Nat) (q : Rat) : Prop where
 nu : Big.nu q < 256 ^ k
 de : Big.de q < 256 ^ k
theorem By.fit {k : Nat} {q : Rat} (h : By k q) (hk : k ≤ 512) : Fit q := ⟨Nat.le_trans (szN_le h.nu) hk, Nat.le_trans (szN_le h.de) hk⟩
theorem By.up {k j : Nat} {q : Rat} (h : By k q) (hk : k ≤ j) : By j q :=
 ⟨Nat.lt_of_lt_of_le h.nu (Nat.pow_le_pow_right (by omega) hk), Nat.lt_of_lt_of_le h.de (Nat.pow_le_pow_right (by omega) hk)⟩
theorem By.neg {k : Nat} {q : Rat} (h : By k q) : By k (-q) := by
 obtain ⟨_, h2, h3⟩ := Big.neg_parts q
 exact ⟨by rw [h2]; exact h.nu, by rw [h3]; exact h.de⟩
theorem By.mul {k j : Nat} {q r : Rat} (h : By k q) (i : By j r) : By (k + j) (q * r) := by
 obtain ⟨_, h2, h3⟩ := Big.mul_parts q r
 refine ⟨?_, ?_⟩
 ·rw [h2, Nat.pow_add]
  exact Nat.mul_lt_mul'' (Nat.lt_of_le_of_lt (Nat.div_le_self _ _) h.nu) (Nat.lt_of_le_of_lt (Nat.div_le_self _ _) i.nu)
 ·rw [h3, Nat.pow_add]
  exact Nat.mul_lt_mul'' (Nat.lt_of_le_of_lt (Nat.div_le_self _ _) h.de) (Nat.lt_of_le_of_lt (Nat.div_le_self _ _) i.de)
theorem By.inv {k : Nat} {q : Rat} (h : By k q) (h0 : Big.nu q ≠ 0) : By k q⁻¹ := by
 obtain ⟨_, h2, h3⟩ := Big.inv_parts q h0
 exact ⟨by rw [h2]; exact h.de, by rw [h3]; exact h.nu⟩
theorem By.add {k j : Nat} {q r : Rat} (h : By k q) (i : By j r) : By (k + j + 1) (q + r) := by
 obtain ⟨_, h2, h3⟩ := Big.add_parts q r _ _ _ _ rfl rfl rfl rfl
 have e : 256 ^ (k + j + 1) = 256 ^ k * 256 ^ j * 256 := by rw [Nat.pow_succ, Nat.pow_add]
 refine ⟨?_, ?_⟩
 ·rw [h2, e]
  refine Nat.lt_of_le_of_lt (Nat.div_le_self _ _) (Nat.lt_of_le_of_lt (abs_sum_le _ _ _ _) ?_)
  have a1 := Nat.mul_lt_mul'' h.nu (Nat.lt_of_le_of_lt (Nat.div_le_self (Big.de r) (Nat.gcd (Big.de q) (Big.de r))) i.de)
  have a2 := Nat.mul_lt_mul'' i.nu (Nat.lt_of_le_of_lt (Nat.div_le_self (Big.de q) (Nat.gcd (Big.de q) (Big.de r))) h.de)
  rw [Nat.mul_comm (256 ^ j)] at a2
  generalize 256 ^ k * 256 ^ j = P at *
  omega
 ·rw [h3, e]
  have a1 := Nat.mul_lt_mul'' (Nat.lt_of_le_of_lt (Nat.div_le_self (Big.de q) (Nat.gcd (Big.de q) (Big.de r))) h.de) (Nat.lt_of_le_of_lt (Nat.div_le_self (Big.de r) (Nat.gcd (Big.sI (Big.ng q) (Big.nu q * (Big.de r / (Big.de q).gcd (Big.de r))) + Big.sI (Big.ng r) (Big.nu r * (Big.de q / (Big.de q).gcd (Big.de r)))).natAbs ((Big.de q).gcd (Big.de r)))) i.de)
  generalize 256 ^ k * 256 ^ j = P at *
  omega
theorem By.sub {k j : Nat} {q r : Rat} (h : By k q) (i : By j r) : By (k + j + 1) (q - r) := by rw [Rat.sub_eq_add_neg]; exact h.add i.neg
theorem By.div {k j : Nat} {q r : Rat} (h : By k q) (i : By j r) (h0 : Big.nu r ≠ 0) : By (k + j) (q / r) := by rw [Rat.div_def]; exact h.mul (i.inv h0)
theorem Sz.kx {k n : Nat} (h : Sz k n) (hk : k ≤ 100000000) : n < Big.M64 ^ Big.KX := (h.up (show k ≤ Big.KX by have := Big.KL_le; have := Big.KL_eq; omega)).out
theorem Sz.kl {k n : Nat} (h : Sz k n) (hk : k ≤ 100000000) : n < Big.M64 ^ Big.KL := (h.up (show k ≤ Big.KL by have := Big.KL_eq; omega)).out
theorem Sz.fits {k n : Nat} (h : Sz k n) (hk : k ≤ 100000000) : Fits n := ⟨h.kl hk⟩
def Nat1 (w : World) (r : Nat) (e : Ending) (w' : World) : Prop := ∃ v', e = .returned v' ∧ NatIn w' v' r ∧ Below w.heap.size w w'
theorem NatIn.len_zero {w : World} {A : Option Addr} {l c n : Nat} (h : NatIn w (.slice A l c) n) : l = 0 ↔ n = 0 := by
 obtain ⟨r, ⟨A', c', e, h1, h2, h3⟩, ok, nl, hv⟩ := h
 cases e
 constructor
 ·intro h0
  rw [List.length_eq_zero_iff.1 h0] at hv
  rw [← hv]; rfl
 ·intro h0
  rw [h0] at hv
  rw [Big.norm_zero Big.M64_pos r nl hv]; rfl
theorem NatIn.is_slice {w : World} {v : Value} {n : Nat} (h : NatIn w v n) : ∃ A l c, v = .slice A l c ∧ (l = 0 ↔ n = 0) := by
 have h' := h
 obtain ⟨r, ⟨A', c', rfl, h1, h2, h3⟩, ok, nl, hv⟩ := h
 exact ⟨_, _, _, rfl, h'.len_zero⟩
theorem one_iff {l : List Nat} (ok : Big.Ok Big.M64 l) (nl : Big.Norm l) : l = [1] ↔ Big.val Big.M64 l = 1 := by
 have n1 : Big.Norm [1] := by simp [Big.Norm]
 have o1 : Big.Ok Big.M64 [1] := Big.Ok.cons M64_gt Big.Ok.nil
 have v1 : Big.val Big.M64 [1] = 1 := by simp [Big.val]
 constructor
 ·intro e; rw [e, v1]
 ·intro e; exact Big.val_inj Big.M64_pos _ _ ok o1 nl n1 (by rw [v1]; exact e)
theorem isOne_num (w : World) (v : Value) (n : Nat) (h : NatIn w v n) :
  Calls Try.prog 66 #[v] w fun e w' => e = .returned (.bool (decide (n = 1))) ∧ w = w' := by
 obtain ⟨l, h1, ok, nl, rfl⟩ := h
 refine (isOne_any w v l h1).mono fun e w' ⟨he, hw⟩ => ⟨?_, hw⟩
 rw [he]
 exact ret_bool (by rw [decide_eq_decide]; exact one_iff ok nl)
theorem cmp_num (w : World) (v u : Value) (n m : Nat) (h : NatIn w v n) (k : NatIn w u m) :
  Calls Try.prog 71 #[v, u] w fun e w' => e = .returned (.int .i64 (Big.cmpI n m)) ∧ Drew w w' := by
 obtain ⟨l, h1, ok, nl, rfl⟩ := h
 obtain ⟨r, k1, kk, kl, rfl⟩ := k
 exact cmp_any w v u l r h1 k1 ok kk nl kl
theorem of_num (w : World) (n : Nat) (hn : n < Big.M64) : Calls Try.prog 86 #[.int .u64 (n : Int)] w (Nat1 w n) :=
 (natOf_any w n).mono fun _ _ ⟨v', h1, h2, h3⟩ => ⟨v', h1, ⟨_, h2, by
  split
  ·exact Big.Ok.nil
  ·exact Big.Ok.cons hn Big.Ok.nil, by
  split
  ·exact Big.norm_nil
  ·rename_i h0; simp [Big.Norm, h0], by
  split
  ·rename_i h0; rw [h0]; rfl
  ·simp [Big.val]⟩, h3⟩
theorem add_num (w : World) (v u : Value) (n m k j : Nat) (h : NatIn w v n) (i : NatIn w u m) (hn : Sz k n) (hm : Sz j m) (hk : k ≤ 100000000) (hj : j ≤ 100000000) :
  Calls Try.prog 102 #[v, u] w (Nat1 w (n + m)) := add_any w v u n m h i (hn.kx hk) (hm.kx hj)
theorem sub_num (w : World) (v u : Value) (n m k : Nat) (h : NatIn w v n) (i : NatIn w u m) (hn : Sz k n) (hk : k ≤ 100000000) :
  Calls Try.prog 103 #[v, u] w (Nat1 w (n - m)) := sub_any w v u n m h i (hn.kx hk)
theorem mul_num (w : World) (v u : Value) (n m k j : Nat) (h : NatIn w v n) (i : NatIn w u m) (hn : Sz k n) (hm : Sz j m) (hk : k ≤ 100000000) (hj : j ≤ 100000000) :
  Calls Try.prog 70 #[v, u] w (Nat1 w (n * m)) := mul_any w v u n m h i (hn.kl hk) (hm.kl hj)
theorem quo_num (w : World) (v u : Value) (n m k : Nat) (h : NatIn w v n) (i : NatIn w u m) (hn : Sz k n) (hk : k ≤ 100000000) :
  Calls Try.prog 74 #[v, u] w (Nat1 w (n / m)) := quo_any w v u n m h i (hn.kl hk)
theorem gcd_num (w : World) (v u : Value) (n m k j : Nat) (h : NatIn w v n) (i : NatIn w u m) (hn : Sz k n) (hm : Sz j m) (hk : k ≤ 100000000) (hj : j ≤ 100000000) :
  Calls Try.prog 65 #[v, u] w (Nat1 w (Nat.gcd n m)) := gcd_any w v u n m h i (hn.fits hk) (hm.fits hj)
theorem quoRem_num (w : World) (v u : Value) (n m k : Nat) (h : NatIn w v n) (i : NatIn w u m) (hn : Sz k n) (hk : k ≤ 100000000) :
  Calls Try.prog 94 #[v, u] w fun e w' => ∃ q r, e = .returned (.tuple #[q, r]) ∧ NatIn w' q (n / m) ∧ NatIn w' r (n % m) ∧ Below w.heap.size w w' :=
 quoRem_any w v u n m h i (hn.kl hk)
theorem size_num (w : World) (v : Value) (n k : Nat) (h : NatIn w v n) (hn : Sz k n) (hk : k ≤ 100000000) :
  Calls Try.prog 118 #[v] w fun e w' => e = .returned (.int .i64 ((szN n : Nat) : Int)) ∧ w = w' :=
 (size_any w v n h (hn.kx hk)).mono fun _ _ ⟨_, h1, h2, h3⟩ => ⟨by rw [h1, szN_of h2], h3⟩
theorem bytes_num (w : World) (v : Value) (n k : Nat) (h : NatIn w v n) (hn : Sz k n) (hk : k ≤ 100000000) :
  Calls Try.prog 101 #[v] w fun e w' => e = .returned (.string (bst n)) ∧ Below w.heap.size w w' :=
 (bytes_any w v n h (hn.kl hk)).mono fun _ _ ⟨_, h1, h2, h3⟩ => ⟨by rw [h1, btx_of h2]; rfl, h3⟩
theorem fromBytes_num (w : World) (n : Nat) (hn : szN n ≤ 1000000000) : Calls Try.prog 64 #[.string (bst n)] w (Nat1 w n) := by
 have h := fromBytes_any w (bst n) (by rw [bst_size]; exact hn)
 rw [bst_list, btx_num] at h
 exact h
def At3 (w : World) (g : Nat) (T : TypeId) (a b c : Value) : Prop := w.heap[g]? = some (.cells #[a, b, c] T (0, 0))
section
variable {w w' : World} {g : Nat} {T : TypeId} {a b c : Value}
theorem At3.lt (h : At3 w g T a b c) : g < w.heap.size := by
 rcases Nat.lt_or_ge g w.heap.size with h1 | h1
 ·exact h1
 ·unfold At3 at h; rw [Array.getElem?_eq_none h1] at h; cases h
theorem At3.c0 (h : At3 w g T a b c) : w.cell? ⟨g, 0, none⟩ = some a := by rw [cell_of_row w g 0 _ _ (0, 0) h]; rfl
theorem At3.c1 (h : At3 w g T a b c) : w.cell? ⟨g, 1, none⟩ = some b := by rw [cell_of_row w g 1 _ _ (0, 0) h]; rfl
theorem At3.c2 (h : At3 w g T a b c) : w.cell? ⟨g, 2, none⟩ = some c := by rw [cell_of_row w g 2 _ _ (0, 0) h]; rfl
theorem At3.frozen (h : At3 w g T a b c) (i : Nat) : w.frozen? ⟨g, i, none⟩ = false := frozen_of_row w g i _ _ h
theorem At3.new (w : World) (T : TypeId) (a b c : Value) : At3 (w.alloc (.cells #[a, b, c] T)) w.heap.size T a b c := heap_alloc_new w _
theorem At3.alloc' (h : At3 w g T a b c) (o : Obj) : At3 (w.alloc o) g T a b c := (Below.heap_alloc w o g h.lt).trans h
theorem At3.drewN (h : At3 w g T a b c) (n : Nat) : At3 (w.drewN n) g T a b c := h
theorem At3.below (h : At3 w g T a b c) {B : Nat} (hb : Below B w w') (hg : g < B) : At3 w' g T a b c := (hb.block g hg).trans h
theorem At3.keep (h : At3 w g T a b c) (hb : Below w.heap.size w w') : At3 w' g T a b c := h.below hb h.lt
theorem At3.far (h : At3 w g T a b c) {p : Addr} (hp : g ≠ p.block) (u : Value) : At3 (w.setCell p u) g T a b c := (heap_setCell_other w p g u hp).trans h
theorem At3.put (h : At3 w g T a b c) (a' b' c' : Value) : At3 (((w.setCell ⟨g, 0, none⟩ a').setCell ⟨g, 1, none⟩ b').setCell ⟨g, 2, none⟩ c') g T a' b' c' := by
 have h1 := heap_setCell_same w g 0 _ _ a' h
 have h2 := heap_setCell_same _ g 1 _ _ b' h1
 have h3 := heap_setCell_same _ g 2 _ _ c' h2
 exact h3
theorem put_below {B : Nat} {w0 w : World} {g : Nat} (hb : Below B w0 w) (hg : B ≤ g) (a b c : Value) :
  Below B w0 (((w.setCell ⟨g, 0, none⟩ a).setCell ⟨g, 1, none⟩ b).setCell ⟨g, 2, none⟩ c) :=
 ((hb.setCell (p := ⟨g, 0, none⟩) hg a).setCell (p := ⟨g, 1, none⟩) hg b).setCell (p := ⟨g, 2, none⟩) hg c
end
theorem put_only (w : World) (g : Nat) (a b c : Value) : Only g w (((w.setCell ⟨g, 0, none⟩ a).setCell ⟨g, 1, none⟩ b).setCell ⟨g, 2, none⟩ c) :=
 (((Only.refl g w).setCell 0 a).setCell 1 b).setCell 2 c
theorem NatIn.only {w w' : World} {v : Value} {n g : Nat} (h : NatIn w v n) (hg : ∀ i x, w.cell? ⟨g, i, none⟩ ≠ some (.int .u64 x)) (ho : Only g w w') : NatIn w' v n := by
 obtain ⟨l, ⟨A, c, rfl, h1, h2, h3⟩, ok⟩ := h
 refine ⟨l, ⟨A, c, rfl, h1, h2, fun hl => ?_⟩, ok⟩
 obtain ⟨b, o, rfl, hlt, hc, hty⟩ := h3 hl
 have hne : b ≠ g := by
  intro e; subst e
  exact hg _ _ (hc 0 hl)
 exact ⟨b, o, rfl, Nat.lt_of_lt_of_le hlt ho.size, fun i hi => (ho.cell hlt hne).trans (hc i hi), hty.same (ho.block b hlt (fun e => hne (by cases e; rfl)))⟩
def NumRes (w : World) (g : Nat) (T : TypeId) : Prop := At3 w g T (.bool false) (.slice none 0 0) (.slice none 0 0)
theorem NumRes.no_int {w : World} {g : Nat} {T : TypeId} (h : NumRes w g T) (i : Nat) (x : Int) : w.cell? ⟨g, i, none⟩ ≠ some (.int .u64 x) := by
 unfold NumRes At3 at h
 rw [cell_of_row w g i _ _ (0, 0) h]
 match i with
 | 0 => simp
 | 1 => simp
 | 2 => simp
 | k + 3 => simp
theorem num_done {B : Nat} {w W : World} {g : Nat} {T : TypeId} {q : Rat} {a c : Value} {bb : Bool} (h : NumRes W g T) (hb : Below B w W) (hB : B ≤ g) (ha : NatIn W a (Big.nu q)) (hc : NatIn W c (Big.de q)) (hbb : bb = Big.ng q) :
  At3 (((W.setCell ⟨g, 0, none⟩ (.bool bb)).setCell ⟨g, 1, none⟩ a).setCell ⟨g, 2, none⟩ c) g T (.bool bb) a c ∧
   NumIn (((W.setCell ⟨g, 0, none⟩ (.bool bb)).setCell ⟨g, 1, none⟩ a).setCell ⟨g, 2, none⟩ c) (.agg #[.bool bb, a, c]) q ∧
   Below B w (((W.setCell ⟨g, 0, none⟩ (.bool bb)).setCell ⟨g, 1, none⟩ a).setCell ⟨g, 2, none⟩ c) := by
 subst hbb
 have ho := put_only W g (.bool (Big.ng q)) a c
 exact ⟨At3.put h _ _ _, ⟨a, c, rfl, ha.only h.no_int ho, hc.only h.no_int ho⟩, put_below hb hB _ _ _⟩
def Num1 (w : World) (q : Rat) (e : Ending) (w' : World) : Prop := ∃ v', e = .returned v' ∧ NumIn w' v' q ∧ Below w.heap.size w w'
theorem NumIn.is_agg {w : World} {v : Value} {q : Rat} (h : NumIn w v q) : ∃ A l c A2 l2 c2, v = .agg #[.bool (Big.ng q), .slice A l c, .slice A2 l2 c2] ∧ NatIn w (.slice A l c) (Big.nu q) ∧ NatIn w (.slice A2 l2 c2) (Big.de q) := by
 obtain ⟨a, b, rfl, h1, h2⟩ := h
 have k1 := h1; have k2 := h2
 obtain ⟨_, ⟨A, c, rfl, _⟩, _⟩ := h1
 obtain ⟨_, ⟨A2, c2, rfl, _⟩, _⟩ := h2
 exact ⟨_, _, _, _, _, _, rfl, k1, k2⟩
def Nat2 (b w : World) (r : Nat) (e : Ending) (w' : World) : Prop := ∃ v', e = .returned v' ∧ NatIn w' v' r ∧ Below b.heap.size b w' ∧ Below w.heap.size w w'
theorem below_alloc {B : Nat} {w0 w : World} (h : Below B w0 w) (hB : B ≤ w0.heap.size) (o : Obj) : Below B w0 (w.alloc o) := h.alloc (Nat.le_trans hB h.size) o
theorem below_drew {B : Nat} {a w : World} (h : Below B a w) : Below B a w.drew := ⟨h.os, h.tape, h.output, h.size, h.block⟩
theorem NatIn.dr {w : World} {v : Value} {n : Nat} (h : NatIn w v n) : NatIn w.drew v n := h.keep (below_drew (Below.refl _ _))
theorem put_cell {w : World} {b i g : Nat} {x : Option Value} (h : w.cell? ⟨b, i, none⟩ = x) (hne : b ≠ g) (u v z : Value) : (((w.setCell ⟨g, 0, none⟩ u).setCell ⟨g, 1, none⟩ v).setCell ⟨g, 2, none⟩ z).cell? ⟨b, i, none⟩ = x := by
 rw [World.cell?_setCell_other _ _ _ _ (by simp), World.cell?_setCell_other _ _ _ _ (by simp), World.cell?_setCell_other _ _ _ _ (by simp)]; exact h
theorem alloc_size (w : World) (o : Obj) : (w.alloc o).heap.size = w.heap.size + 1 := by simp
theorem boxed3 (w : World) (T U : TypeId) (a b c a' b' c' x y z : Value) :
  At3 (((w.alloc (.cells #[a, b, c] T)).alloc (.cells #[a', b', c'] T)).alloc (.cells #[x, y, z] U)) w.heap.size T a b c ∧
  At3 (((w.alloc (.cells #[a, b, c] T)).alloc (.cells #[a', b', c'] T)).alloc (.cells #[x, y, z] U)) (w.heap.size + 1) T a' b' c' ∧
  At3 (((w.alloc (.cells #[a, b, c] T)).alloc (.cells #[a', b', c'] T)).alloc (.cells #[x, y, z] U)) (w.heap.size + 1 + 1) U x y z ∧
  Below w.heap.size w (((w.alloc (.cells #[a, b, c] T)).alloc (.cells #[a', b', c'] T)).alloc (.cells #[x, y, z] U)) := by
 refine ⟨((At3.new w T a b c).alloc' _).alloc' _, ?_, ?_, below_alloc (below_alloc (below_alloc (Below.refl _ _) (Nat.le_refl _) _) (Nat.le_refl _) _) (Nat.le_refl _) _⟩
 ·have h := (At3.new (w.alloc (.cells #[a, b, c] T)) T a' b' c').alloc' (.cells #[x, y, z] U)
  rwa [alloc_size] at h
 ·have h := At3.new ((w.alloc (.cells #[a, b, c] T)).alloc (.cells #[a', b', c'] T)) U x y z
  rwa [alloc_size, alloc_size] at h
theorem boxed2 (w : World) (T U : TypeId) (a b c x y z : Value) :
  At3 ((w.alloc (.cells #[a, b, c] T)).alloc (.cells #[x, y, z] U)) w.heap.size T a b c ∧
  At3 ((w.alloc (.cells #[a, b, c] T)).alloc (.cells #[x, y, z] U)) (w.heap.size + 1) U x y z ∧
  Below w.heap.size w ((w.alloc (.cells #[a, b, c] T)).alloc (.cells #[x, y, z] U)) := by
 refine ⟨(At3.new w T a b c).alloc' _, ?_, below_alloc (below_alloc (Below.refl _ _) (Nat.le_refl _) _) (Nat.le_refl _) _⟩
 have h := At3.new (w.alloc (.cells #[a, b, c] T)) U x y z
 rwa [alloc_size] at h
end Go.Proofs.Ytnlhjcfpfapafaa
namespace Go.Proofs.Ytnlhjcfpfapafaa
open Go.RowKit Go.Sort
def Tab (_ : World) : Prop := True
theorem Tab.keep {w w' : World} (_ : Tab w) (_ : Below w.heap.size w w') : Tab w' := trivial
abbrev TabB (w : World) : Prop := Tab w
theorem TabB.tab {w : World} (h : TabB w) : Tab w := h
end Go.Proofs.Ytnlhjcfpfapafaa
namespace Go.Proofs.Ytnlhjcfpfapafaa
open Go Go.RowKit
namespace Ev
def wordsN (n : Nat) : Nat := if n = 0 then 0 else Nat.log2 n / 64 + 1
theorem words_of {l : List Nat} (ol : Big.Ok Big.M64 l) (nl : Big.Norm l) : l.length = wordsN (Big.val Big.M64 l) := by
 unfold wordsN
 by_cases h0 : Big.val Big.M64 l = 0
 ·rw [if_pos h0, Big.norm_zero Big.M64_pos l nl h0]; rfl
 ·rw [if_neg h0]
  have hne : l ≠ [] := by intro e; subst e; exact h0 rfl
  have h1 := Big.norm_ge (B := Big.M64) l nl hne
  have h2 := Big.val_lt l ol
  generalize Big.val Big.M64 l = n at *
  have hM : ∀ k, Big.M64 ^ k = 2 ^ (64 * k) := fun k => by rw [Nat.pow_mul]; rfl
  rw [hM] at h1 h2
  have h3 := Nat.log2_self_le h0
  have h4 : n < 2 ^ (Nat.log2 n + 1) := Nat.lt_log2_self
  have hl : 0 < l.length := List.length_pos_iff.2 hne
  have h5 : Nat.log2 n < 64 * l.length := (Nat.pow_lt_pow_iff_right (by omega : 1 < 2)).1 (Nat.lt_of_le_of_lt h3 h2)
  have h6 : 64 * (l.length - 1) < Nat.log2 n + 1 := (Nat.pow_lt_pow_iff_right (by omega : 1 < 2)).1 (Nat.lt_of_le_of_lt h1 h4)
  omega
theorem nat_slice {w : World} {v : Value} {n : Nat} (h : NatIn w v n) : ∃ a c, v = .slice a (wordsN n) c := by
 obtain ⟨l, ⟨A, c, e, -, -, -⟩, ol, nl, rfl⟩ := h
 exact ⟨A, c, by rw [e, words_of ol nl]⟩
theorem nat_one {w : World} {v : Value} {n : Nat} (h : NatIn w v n) : isOne v = true := by
 obtain ⟨a, c, rfl⟩ := nat_slice h; rfl
theorem nat_stable {n : Nat} {w w' : World} {v : Value} (h : NatIn w v n) (hk : ∀ (b : Nat) (c : Array Value) (t : TypeId) (z : Nat × Nat), w.heap[b]? = some (.cells c t z) → Nat.beq t 126 = true → w'.heap[b]? = some (.cells c t z)) : NatIn w' v n := by
 obtain ⟨l, ⟨A, c, e, h1, h2, h3⟩, ol, nl, hv⟩ := h
 refine ⟨l, ⟨A, c, e, h1, h2, fun hp => ?_⟩, ol, nl, hv⟩
 obtain ⟨b, o, ea, hlt, hc, cs, hcs⟩ := h3 hp
 have hcs' := hk b cs _ _ hcs (Nat.beq_refl _)
 refine ⟨b, o, ea, (Array.getElem?_eq_some_iff.1 hcs').1, fun i hi => ?_, cs, hcs'⟩
 rw [← hc i hi]
 exact World.cell?_of_block (hcs'.trans hcs.symm)
noncomputable def natGlob : Nat → Option (List Value) := fun b =>
 (fun _ => none) b
noncomputable def natSig : Sig Nat where
 holds n w v := NatIn w v n
 hid _ t := Nat.beq t 126
 hn _ t := Nat.beq t 126
 lo := 0
 new := fun _ _ _ _ h => h
 G := Try.prog.globals.size
 base := TabB
 baseS := by
  intro w w' h hk
  exact trivial
 stable := fun _ _ _ _ h hk => nat_stable h hk
noncomputable def natCfg0 : Cfg Nat where
 hid _ t := Nat.beq t 126
 G := Try.prog.globals.size
 tab f := Try.prog.funcs[f]?
 len n := some (wordsN n)
 glob := natGlob
 hard _ _ := fail
noncomputable def natCfg : Cfg Nat where
 hid _ t := Nat.beq t 126
 G := Try.prog.globals.size
 tab f := Try.prog.funcs[f]?
 len n := some (wordsN n)
 glob := natGlob
 hard := memHard Try.prog natCfg0
instance natHard : HardLoc natCfg := ⟨fun o vs => loc_memHard Try.prog natCfg0 o vs⟩
theorem natFits : Fits natSig Try.prog natCfg where
 hid := rfl
 G := rfl
 len := fun f n w v h e => by
  have e' : wordsN f = n := Option.some.inj e
  obtain ⟨a, c, rfl⟩ := nat_slice h
  exact ⟨a, c, by rw [e']⟩
 glob := fun b cs h => by
  exact absurd (show (none : Option (List Value)) = some cs from h) (by simp)
 tab := fun f fn h => by
  refine ⟨h, ?_⟩
  have hall : (Try.prog.funcs.all fun fn => !(fn.name == "runtime.NumGoroutine")) = true := by kernel_rfl
  have h1 := Array.all_eq_true_iff_forall_mem.1 hall fn (Array.mem_of_getElem? h)
  simpa using h1
 mixed := by kernel_rfl
 hard := memHard_ok (C0 := natCfg0) rfl rfl rfl
section
variable {F : Type} {S : Sig F}
theorem ext_below {r : Ren} {g : Nat → Option (Blk F)} {w w' : World} (hM : Mod S r g w) (hb : Below w.heap.size w w') (nx : Nat) : Ext S r w nx nx [] g r w' := by
 have hk : ∀ (b : Nat) (o : Obj), w.heap[b]? = some o → w'.heap[b]? = some o := fun b o hbo => (hb.block b (Array.getElem?_eq_some_iff.1 hbo).1).trans hbo
 refine ⟨.refl r, ⟨hM.inj, fun n b hn => Nat.lt_of_lt_of_le (hM.lt n b hn) hb.size, fun n c t hn => ?_, fun n f hn => ?_, S.baseS w w' hM.base fun b o _ => hk b o, hM.glob, hM.own, fun n c t hn => ?_, Nat.le_trans hM.sz hb.size, hM.lp.mono (.refl r) (fun _ _ q => q) (fun b L => hk b _), hM.ow.all (.refl r) (fun _ _ q => q) hk, hM.ad⟩, fun _ h => .inl h, fun _ _ h => .inl h, fun b o hbo _ => hk b o hbo, hb.size, hb.os, hb.tape, hb.output, .of hk⟩
 ·obtain ⟨b, c', h1, h2, h3, h4⟩ := hM.cells n c t hn
  exact ⟨b, c', h1, hk b _ h2, h3, h4⟩
 ·obtain ⟨v, h1, h2, h3⟩ := hM.fact n f hn
  exact ⟨v, h1, S.stable f w w' v h2 fun b c t z hbo _ => hk b _ hbo, h3⟩
 ·obtain ⟨b, c', h1, h2, h3, h4, h5⟩ := hM.room n c t hn
  exact ⟨b, c', h1, hk b _ h2, h3, h4, h5⟩
theorem ext_fact {r : Ren} {g : Nat → Option (Blk F)} {w w' : World} {nx : Nat} {f : F} {v' : Value} (hM : Mod S r g w) (hb : Below w.heap.size w w') (hN : New r nx (nx + 1)) (hh : S.holds f w' v') (ho : isOne v' = true) :
  ∃ r', Ext S r w nx (nx + 1) [] (fun n => if n = nx then some (.fact f) else g n) r' w' ∧ r'.val nx = some v' := by
 have hno := hN nx (Nat.le_refl _) (Nat.lt_succ_self _)
 have hX := ext_below hM hb nx
 have hle : r.le ⟨r.blk, fun n => if n = nx then some v' else r.val n, r.len⟩ := by
  refine ⟨fun _ _ e => e, fun n v e => ?_, fun _ _ _ => rfl⟩
  have : n ≠ nx := fun h => by rw [h, hno.2] at e; cases e
  simp only [if_neg this, e]
 refine ⟨⟨r.blk, fun n => if n = nx then some v' else r.val n, r.len⟩, ⟨hle, ⟨fun n m b h1 h2 => (hM.inj n m b h1 h2).imp id (Or.imp (Gone.over_fact nx f) (Gone.over_fact nx f)), hX.mod.lt, fun n c t hn => ?_, fun n f' hn => ?_, hX.mod.base, hM.glob, hM.own, fun n c t hn => ?_, hX.mod.sz, hX.mod.lp.mono hle (fun n s hn => by
  by_cases h : n = nx
  ·simp only [if_pos h, Option.some.injEq] at hn; cases hn
  ·simpa only [if_neg h] using hn) (fun _ _ q => q), hX.mod.ow.all hle (fun n s hn => by
  by_cases h : n = nx
  ·simp only [if_pos h, Option.some.injEq] at hn; cases hn
  ·simpa only [if_neg h] using hn) (fun _ _ q => q), hX.mod.ad.mono hle fun n k x hn => by
  by_cases h : n = nx
  ·simp only [if_pos h, Option.some.injEq] at hn; cases hn
  ·simpa only [if_neg h] using hn⟩, fun n hn => ?_, fun _ _ h => .inl h, hX.keep, hX.size, hX.os, hX.tape, hX.output, hX.loops⟩, by simp⟩
 ·by_cases h : n = nx
  ·simp only [if_pos h, Option.some.injEq] at hn; cases hn
  ·simp only [if_neg h] at hn
   obtain ⟨b, c', h1, h2, h3, h4⟩ := hX.mod.cells n c t hn
   exact ⟨b, c', h1, h2, h3.mono hle, h4⟩
 ·by_cases h : n = nx
  ·simp only [if_pos h, Option.some.injEq, Blk.fact.injEq] at hn
   subst hn
   exact ⟨v', by simp [h], hh, ho⟩
  ·simp only [if_neg h] at hn
   obtain ⟨v, h1, h2, h3⟩ := hX.mod.fact n f' hn
   exact ⟨v, by simp only [if_neg h, h1], h2, h3⟩
 ·by_cases h : n = nx
  ·simp only [if_pos h, Option.some.injEq] at hn; cases hn
  ·simp only [if_neg h] at hn
   obtain ⟨b, c', h1, h2, h3, h4, h5⟩ := hX.mod.room n c t hn
   exact ⟨b, c', h1, h2, h3.mono hle, h4, h5⟩
 ·by_cases h : n = nx
  ·exact .inr ⟨by omega, by omega⟩
  ·simp only [if_neg h] at hn; exact .inl hn
end
noncomputable def isNilV : Value → Bool
 | .slice a n c => match a with
  | none => Nat.beq n 0 && Nat.beq c 0
  | some _ => false
 | _ => false
noncomputable def natV (v : Value) : M Nat Nat := cond (isNilV v) (ret 0) (fact v)
theorem loc_natV (v : Value) : Loc (natV v) := loc_cond (loc_ret _) (loc_fact v)
theorem fact_ok {F : Type} {S : Sig F} {v v' : Value} {f : F} {h h' : Tr (Blk F)} {nx nx' : Nat} {R W : List Nat} {r : Ren} {w : World} (e : (fact v : M F F) h nx = .ok f h' nx' R W) (hv : VR r v v') (hM : Mod S r h.get w) : h' = h ∧ nx' = nx ∧ W = [] ∧ S.holds f w v' := by
 unfold fact at e
 cases v with
 | chan i =>
  cases i with
  | none => simp [fail] at e
  | some i =>
   simp only at e
   obtain ⟨bl, h3, nx3, R3, W3, R4, W4, e3, e4, rfl, rfl⟩ := bind_ok e
   unfold rd at e3
   cases hg : h.get i with
   | none => rw [hg] at e3; cases e3
   | some bl2 =>
    rw [hg] at e3
    cases e3
    cases bl with
    | cells _ _ => simp [fail] at e4
    | room _ _ => simp [fail] at e4
    | opq => simp [fail] at e4
    | lp _ => simp [fail] at e4
    | ow _ => simp [fail] at e4
    | ad _ _ => simp [fail] at e4
    | fact f2 =>
     simp only at e4
     obtain ⟨rfl, rfl, rfl, rfl⟩ := ret_ok e4
     obtain ⟨v0, hv0, hh, ho⟩ := hM.fact _ _ hg
     refine ⟨rfl, rfl, by simp, ?_⟩
     cases hv with
     | same p => simp [plain] at p
     | opq hp _ => rw [hv0] at hp; injection hp with hp; subst hp; exact hh
 | _ => simp [fail] at e
theorem natV_ok {v v' : Value} {n : Nat} {h h' : Tr (Blk Nat)} {nx nx' : Nat} {R W : List Nat} {r : Ren} {w : World} (e : natV v h nx = .ok n h' nx' R W) (hv : VR r v v') (hM : Mod natSig r h.get w) : h' = h ∧ nx' = nx ∧ W = [] ∧ NatIn w v' n := by
 unfold natV at e
 cases hi : isNilV v with
 | true =>
  rw [hi] at e
  obtain ⟨rfl, rfl, rfl, rfl⟩ := ret_ok e
  refine ⟨rfl, rfl, rfl, ?_⟩
  cases v with
  | slice a m c =>
   cases a with
   | some _ => simp [isNilV] at hi
   | none =>
    simp only [isNilV, Bool.and_eq_true] at hi
    have h1 := Nat.eq_of_beq_eq_true hi.1
    have h2 := Nat.eq_of_beq_eq_true hi.2
    subst h1; subst h2
    rw [hv.nilslc]
    exact NatIn.nil_ w
  | _ => simp [isNilV] at hi
 | false =>
  rw [hi] at e
  exact fact_ok e hv hM
def SumF {F : Type} (S : Sig F) (P : Program) (f : FuncId) (g : List Value → Option (M F Value)) : Prop := ∀ args m, g args = some m → Loc m ∧ ∀ h nx v h' nx' R W, m h nx = .ok v h' nx' R W →
 ∀ (r : Ren) (w : World) (args' : List Value), VsR r args args' → Mod S r h.get w → New r nx nx' → Calls P f ⟨args'⟩ w fun e w' => ∃ v' r', e = .returned v' ∧ VR r' v v' ∧ Ext S r w nx nx' W h'.get r' w'
noncomputable def mkTab {G : Type} : List (Nat × G) → Tr G
 | [] => .nil
 | x :: l => (mkTab l).set x.1 x.2
theorem mkTab_get {G : Type} {f : Nat} {g : G} : ∀ {l : List (Nat × G)}, (mkTab l).get f = some g → (f, g) ∈ l
 | [], h => by simp [mkTab, Tr.get_nil] at h
 | x :: l, h => by
  rw [mkTab, Tr.get_set] at h
  by_cases e : f = x.1
  ·rw [if_pos e] at h
   injection h with h
   obtain ⟨a, b⟩ := x
   simp only at e h
   subst e; subst h
   exact List.mem_cons_self
  ·rw [if_neg e] at h
   exact List.mem_cons_of_mem _ (mkTab_get h)
noncomputable def sumsOf {F : Type} (t : Tr (List Value → Option (M F Value))) : Sums F := fun f args => match t.get f with
 | some g => g args
 | none => none
theorem sumsOf_ok {F : Type} {S : Sig F} {P : Program} {l : List (Nat × (List Value → Option (M F Value)))} (h : ∀ x ∈ l, SumF S P x.1 x.2) : SumOK S P (sumsOf (mkTab l)) := by
 have key : ∀ f args m, sumsOf (mkTab l) f args = some m → ∃ g, SumF S P f g ∧ g args = some m := by
  intro f args m e
  unfold sumsOf at e
  cases hg : (mkTab l).get f with
  | none => rw [hg] at e; cases e
  | some g => rw [hg] at e; exact ⟨g, h _ (mkTab_get hg), e⟩
 refine ⟨fun f args m e => ?_, fun f args m e h nx v h' nx' R W hr r w args' ha hM hN => ?_⟩
 ·obtain ⟨g, hs, hg⟩ := key f args m e
  exact (hs args m hg).1
 ·obtain ⟨g, hs, hg⟩ := key f args m e
  exact (hs args m hg).2 _ _ _ _ _ _ _ hr.ok r w args' ha hM hN
end Ev
end Go.Proofs.Ytnlhjcfpfapafaa
