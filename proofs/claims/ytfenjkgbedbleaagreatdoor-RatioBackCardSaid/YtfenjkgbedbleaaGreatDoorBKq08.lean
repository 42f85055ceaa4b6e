/- Contracts. -/
import Derived.Test.YtfenjkgbedbleaaGreatDoorBKq01
import Derived.Test.YtfenjkgbedbleaaGreatDoorBKq02
import Derived.Test.YtfenjkgbedbleaaGreatDoorBKq07
namespace Go.Proofs.YtfenjkgbedbleaaGreatDoor.Big
def ng (q : Rat) : Bool := decide (q.num < 0)
def nu (q : Rat) : Nat := q.num.natAbs
def de (q : Rat) : Nat := q.den
def sI (b : Bool) (n : Nat) : Int := if b then -(n : Int) else (n : Int)
theorem sI_true (n : Nat) : sI true n = -(n : Int) := rfl
theorem sI_false (n : Nat) : sI false n = (n : Int) := rfl
theorem sI_abs (b : Bool) (n : Nat) : (sI b n).natAbs = n := by cases b <;> simp [sI]
theorem sI_mul (b : Bool) (n m : Nat) : sI b (n * m) = sI b n * (m : Int) := by cases b <;> simp [sI, Int.neg_mul]
theorem num_eq (q : Rat) : q.num = sI (ng q) (nu q) := by
  unfold ng nu sI
  by_cases h : q.num < 0
  · rw [if_pos (decide_eq_true h)]; omega
  · rw [if_neg (by simpa using h)]; omega
theorem ng_pos {q : Rat} (h : ng q = true) : 1 ≤ nu q := by
  unfold ng at h; unfold nu
  have := of_decide_eq_true h
  omega
theorem de_pos (q : Rat) : 1 ≤ de q := Nat.pos_of_ne_zero q.den_nz
theorem cop (q : Rat) : Nat.gcd (nu q) (de q) = 1 := q.reduced
theorem sI_neg {b : Bool} {n : Nat} (h : b = true → 1 ≤ n) : decide (sI b n < 0) = b := by
  cases b with
  | true => have := h rfl; rw [sI_true]; exact decide_eq_true (by omega)
  | false => rw [sI_false]; exact decide_eq_false (by omega)
theorem parts {b : Bool} {n d : Nat} (hd : 1 ≤ d) (hc : Nat.gcd n d = 1) (hs : b = true → 1 ≤ n) {N : Int} {D : Nat} (hD : D ≠ 0) (h : sI b n * (D : Int) = N * (d : Int)) {q : Rat} (hq : q = mkRat N D) :
    ng q = b ∧ nu q = n ∧ de q = d := by
  have hd0 : d ≠ 0 := by omega
  have e : q = (⟨sI b n, d, hd0, by rw [sI_abs]; exact hc⟩ : Rat) := by
    rw [Rat.mk_eq_mkRat, hq, Rat.mkRat_eq_iff hD hd0, h]
  rw [e]
  exact ⟨sI_neg hs, sI_abs b n, rfl⟩
theorem parts_of (q : Rat) (b : Bool) (n d : Nat) (h : ng q = b ∧ nu q = n ∧ de q = d) : q = mkRat (sI b n) d := by
  obtain ⟨rfl, rfl, rfl⟩ := h
  rw [← num_eq]; exact (Rat.mkRat_self q).symm
theorem is_mk (q : Rat) : q = mkRat (sI (ng q) (nu q)) (de q) := parts_of q _ _ _ ⟨rfl, rfl, rfl⟩
theorem gcd_pos_right {n d : Nat} (h : 1 ≤ d) : 1 ≤ Nat.gcd n d := Nat.gcd_pos_of_pos_right _ h
theorem cop_div {a b c d : Nat} (h : Nat.gcd a b = 1) (hc : c ∣ a) (hd : d ∣ b) : Nat.gcd c d = 1 := by
  refine Nat.dvd_one.1 ?_
  rw [← h]
  exact Nat.dvd_gcd (Nat.dvd_trans (Nat.gcd_dvd_left _ _) hc) (Nat.dvd_trans (Nat.gcd_dvd_right _ _) hd)
theorem of_parts (b : Bool) (n d : Nat) (hd : 1 ≤ d) :
    ng (mkRat (sI b n) d) = (b && decide (0 < n / Nat.gcd n d)) ∧ nu (mkRat (sI b n) d) = n / Nat.gcd n d ∧ de (mkRat (sI b n) d) = d / Nat.gcd n d := by
  have hg := gcd_pos_right (n := n) hd
  have e1 := Nat.div_mul_cancel (Nat.gcd_dvd_left n d)
  have e2 := Nat.div_mul_cancel (Nat.gcd_dvd_right n d)
  refine parts ?_ (Nat.gcd_div_gcd_div_gcd_of_pos_right hd) ?_ (show d ≠ 0 by omega) ?_ rfl
  · exact Nat.div_pos (Nat.le_of_dvd hd (Nat.gcd_dvd_right _ _)) hg
  · intro h
    rw [Bool.and_eq_true] at h
    exact of_decide_eq_true h.2
  · generalize Nat.gcd n d = g at *
    generalize n / g = n' at *
    generalize d / g = d' at *
    subst e1 e2
    cases b
    · simp [sI]; grind
    · by_cases h0 : 0 < n'
      · simp [sI, h0]; grind
      · have : n' = 0 := by omega
        subst this; simp [sI]
theorem mul_parts (q r : Rat) :
    ng (q * r) = ((ng q != ng r) && decide (0 < nu q / Nat.gcd (nu q) (de r) * (nu r / Nat.gcd (nu r) (de q)))) ∧
    nu (q * r) = nu q / Nat.gcd (nu q) (de r) * (nu r / Nat.gcd (nu r) (de q)) ∧
    de (q * r) = de q / Nat.gcd (nu r) (de q) * (de r / Nat.gcd (nu q) (de r)) := by
  have hq := de_pos q
  have hr := de_pos r
  have cq := cop q
  have cr := cop r
  have eq : q * r = mkRat (sI (ng q) (nu q) * sI (ng r) (nu r)) (de q * de r) := by
    rw [Rat.mul_def', num_eq q, num_eq r]; rfl
  generalize nu q = n at *
  generalize de q = d at *
  generalize nu r = m at *
  generalize de r = e at *
  generalize ng q = b at *
  generalize ng r = c at *
  have g1 := gcd_pos_right (n := n) hr
  have g2 := gcd_pos_right (n := m) hq
  have a1 := Nat.div_mul_cancel (Nat.gcd_dvd_left n e)
  have a2 := Nat.div_mul_cancel (Nat.gcd_dvd_right n e)
  have a3 := Nat.div_mul_cancel (Nat.gcd_dvd_left m d)
  have a4 := Nat.div_mul_cancel (Nat.gcd_dvd_right m d)
  have c1 : Nat.gcd (n / Nat.gcd n e) (e / Nat.gcd n e) = 1 := Nat.gcd_div_gcd_div_gcd_of_pos_right hr
  have c2 : Nat.gcd (m / Nat.gcd m d) (d / Nat.gcd m d) = 1 := Nat.gcd_div_gcd_div_gcd_of_pos_right hq
  have p1 : 1 ≤ d / Nat.gcd m d := Nat.div_pos (Nat.le_of_dvd hq (Nat.gcd_dvd_right _ _)) g2
  have p2 : 1 ≤ e / Nat.gcd n e := Nat.div_pos (Nat.le_of_dvd hr (Nat.gcd_dvd_right _ _)) g1
  generalize Nat.gcd n e = g at *
  generalize Nat.gcd m d = k at *
  generalize n / g = n' at *
  generalize e / g = e' at *
  generalize m / k = m' at *
  generalize d / k = d' at *
  refine parts (Nat.mul_pos p1 p2) ?_ ?_ (Nat.ne_of_gt (Nat.mul_pos hq hr)) ?_ eq
  · have x1 : Nat.Coprime n' d' := cop_div cq ⟨g, a1.symm⟩ ⟨k, a4.symm⟩
    have x2 : Nat.Coprime n' e' := c1
    have x3 : Nat.Coprime m' d' := c2
    have x4 : Nat.Coprime m' e' := cop_div cr ⟨k, a3.symm⟩ ⟨g, a2.symm⟩
    exact (Nat.Coprime.mul_right x1 x2).mul_left (Nat.Coprime.mul_right x3 x4)
  · intro h
    rw [Bool.and_eq_true] at h
    exact of_decide_eq_true h.2
  · clear c1 c2 cq cr eq p1 p2
    subst a1 a2 a3 a4
    by_cases h0 : 0 < n' * m'
    · rw [decide_eq_true h0, Bool.and_true]
      cases b <;> cases c <;> simp [sI] <;> grind
    · have h1 : n' * m' = 0 := by omega
      have h2 : n' = 0 ∨ m' = 0 := Nat.mul_eq_zero.1 h1
      rw [h1]
      rcases h2 with h2 | h2 <;> subst h2 <;> simp [sI]
theorem add_parts (q r : Rat) (s L R : Nat) (S : Int) (hs : s = Nat.gcd (de q) (de r)) (hL : L = de q / s) (hR : R = de r / s) (hS : S = sI (ng q) (nu q * R) + sI (ng r) (nu r * L)) :
    ng (q + r) = decide (S < 0) ∧ nu (q + r) = S.natAbs / Nat.gcd S.natAbs s ∧ de (q + r) = L * (de r / Nat.gcd S.natAbs s) := by
  have hq := de_pos q
  have hr := de_pos r
  have cq := cop q
  have cr := cop r
  have eq : q + r = mkRat (sI (ng q) (nu q) * de r + sI (ng r) (nu r) * de q) (de q * de r) := by
    rw [Rat.add_def', num_eq q, num_eq r]; rfl
  rw [sI_mul, sI_mul] at hS
  have kq : (sI (ng q) (nu q)).natAbs = nu q := sI_abs _ _
  have kr : (sI (ng r) (nu r)).natAbs = nu r := sI_abs _ _
  generalize nu q = n at *
  generalize de q = d at *
  generalize nu r = m at *
  generalize de r = e at *
  generalize sI (ng q) n = x at *
  generalize sI (ng r) m = y at *
  have hs1 : 1 ≤ s := by rw [hs]; exact gcd_pos_right hr
  have e1 : L * s = d := by rw [hL, hs]; exact Nat.div_mul_cancel (Nat.gcd_dvd_left _ _)
  have e2 : R * s = e := by rw [hR, hs]; exact Nat.div_mul_cancel (Nat.gcd_dvd_right _ _)
  have cLR : Nat.gcd L R = 1 := by rw [hL, hR, hs]; exact Nat.gcd_div_gcd_div_gcd_of_pos_right hr
  have hL1 : 1 ≤ L := by rcases Nat.eq_zero_or_pos L with h | h
                         · rw [h] at e1; omega
                         · exact h
  have hR1 : 1 ≤ R := by rcases Nat.eq_zero_or_pos R with h | h
                         · rw [h] at e2; omega
                         · exact h
  clear hL hR hs
  -- what goes into the sum and into L, or into R, is 1
  have oL : Nat.gcd S.natAbs L = 1 := by
    have hg1 : (Nat.gcd S.natAbs L) ∣ S.natAbs := Nat.gcd_dvd_left _ _
    have hg2 : (Nat.gcd S.natAbs L) ∣ L := Nat.gcd_dvd_right _ _
    generalize Nat.gcd S.natAbs L = g at *
    have h1 : (g : Int) ∣ S := Int.ofNat_dvd_left.2 hg1
    have h2 : (g : Int) ∣ y * (L : Int) := Int.dvd_trans (Int.natCast_dvd_natCast.2 hg2) (Int.dvd_mul_left _ _)
    have h3 : (g : Int) ∣ x * (R : Int) := by
      have : x * (R : Int) = S - y * (L : Int) := by rw [hS]; omega
      rw [this]; exact Int.dvd_sub h1 h2
    have h4 : g ∣ n * R := by
      have := Int.ofNat_dvd_left.1 h3
      rwa [Int.natAbs_mul, kq, Int.natAbs_natCast] at this
    have c1 : Nat.Coprime g n := Nat.Coprime.symm (cop_div cq (Nat.dvd_refl _) (Nat.dvd_trans hg2 ⟨s, e1.symm⟩))
    have c2 : Nat.Coprime g R := cop_div cLR hg2 (Nat.dvd_refl _)
    exact Nat.Coprime.eq_one_of_dvd (Nat.Coprime.mul_right c1 c2) h4
  have oR : Nat.gcd S.natAbs R = 1 := by
    have hg1 : (Nat.gcd S.natAbs R) ∣ S.natAbs := Nat.gcd_dvd_left _ _
    have hg2 : (Nat.gcd S.natAbs R) ∣ R := Nat.gcd_dvd_right _ _
    generalize Nat.gcd S.natAbs R = g at *
    have h1 : (g : Int) ∣ S := Int.ofNat_dvd_left.2 hg1
    have h2 : (g : Int) ∣ x * (R : Int) := Int.dvd_trans (Int.natCast_dvd_natCast.2 hg2) (Int.dvd_mul_left _ _)
    have h3 : (g : Int) ∣ y * (L : Int) := by
      have : y * (L : Int) = S - x * (R : Int) := by rw [hS]; omega
      rw [this]; exact Int.dvd_sub h1 h2
    have h4 : g ∣ m * L := by
      have := Int.ofNat_dvd_left.1 h3
      rwa [Int.natAbs_mul, kr, Int.natAbs_natCast] at this
    have c1 : Nat.Coprime g m := Nat.Coprime.symm (cop_div cr (Nat.dvd_refl _) (Nat.dvd_trans hg2 ⟨s, e2.symm⟩))
    have c2 : Nat.Coprime g L := Nat.Coprime.symm (cop_div cLR (Nat.dvd_refl _) hg2)
    exact Nat.Coprime.eq_one_of_dvd (Nat.Coprime.mul_right c1 c2) h4
  have hcs : Nat.gcd S.natAbs s ∣ s := Nat.gcd_dvd_right _ _
  have hcS : Nat.gcd S.natAbs s ∣ S.natAbs := Nat.gcd_dvd_left _ _
  have c3 : Nat.gcd (S.natAbs / Nat.gcd S.natAbs s) (s / Nat.gcd S.natAbs s) = 1 := Nat.gcd_div_gcd_div_gcd_of_pos_right hs1
  have hc1 : 1 ≤ Nat.gcd S.natAbs s := gcd_pos_right hs1
  have e3 := Nat.div_mul_cancel hcs
  have e4 := Nat.div_mul_cancel hcS
  have e5 : e / Nat.gcd S.natAbs s = R * (s / Nat.gcd S.natAbs s) := by rw [← e2, Nat.mul_div_assoc _ hcs]
  have hsc : 1 ≤ s / Nat.gcd S.natAbs s := Nat.div_pos (Nat.le_of_dvd hs1 hcs) hc1
  rw [e5]
  generalize Nat.gcd S.natAbs s = c at *
  have eS : S = sI (decide (S < 0)) S.natAbs := by
    unfold sI
    by_cases h : S < 0
    · rw [if_pos (decide_eq_true h)]; omega
    · rw [if_neg (by simpa using h)]; omega
  refine parts (Nat.mul_pos hL1 (Nat.mul_pos hR1 hsc)) ?_ ?_ (Nat.ne_of_gt (Nat.mul_pos hq hr)) ?_ eq
  · have d1 : S.natAbs / c ∣ S.natAbs := ⟨c, e4.symm⟩
    have x1 : Nat.Coprime (S.natAbs / c) L := cop_div oL d1 (Nat.dvd_refl _)
    have x2 : Nat.Coprime (S.natAbs / c) R := cop_div oR d1 (Nat.dvd_refl _)
    exact Nat.Coprime.mul_right x1 (Nat.Coprime.mul_right x2 c3)
  · intro h
    have h0 := of_decide_eq_true h
    rcases Nat.eq_zero_or_pos (S.natAbs / c) with h1 | h1
    · rw [h1] at e4; omega
    · exact h1
  · have e6 : sI (decide (S < 0)) (S.natAbs / c) * (c : Int) = x * (R : Int) + y * (L : Int) := by
      rw [← sI_mul, e4, ← eS, hS]
    generalize sI (decide (S < 0)) (S.natAbs / c) = z at *
    generalize s / c = t at *
    rw [← e1, ← e2, ← e3]
    simp only [Int.natCast_mul]
    grind
def cmpQ (q r : Rat) : Int := if q < r then -1 else if q = r then 0 else 1
theorem lt_cross (q r : Rat) : q < r ↔ sI (ng q) (nu q) * (de r : Int) < sI (ng r) (nu r) * (de q : Int) := by
  rw [← num_eq, ← num_eq]; exact Rat.lt_iff q r
theorem eq_cross (q r : Rat) : q = r ↔ sI (ng q) (nu q) * (de r : Int) = sI (ng r) (nu r) * (de q : Int) := by
  rw [← num_eq, ← num_eq]; exact Rat.eq_iff_mul_eq_mul
theorem cmpQ_cross {q r : Rat} {a b : Int} (ha : a = sI (ng q) (nu q) * (de r : Int)) (hb : b = sI (ng r) (nu r) * (de q : Int)) : cmpQ q r = if a < b then -1 else if a = b then 0 else 1 := by
  unfold cmpQ
  simp only [lt_cross, eq_cross, ha, hb]
theorem cmpQ_neg_pos {q r : Rat} (h1 : ng q = true) (h2 : ng r = false) : cmpQ q r = -1 := by
  have p1 := ng_pos h1
  have hr := de_pos r
  rw [cmpQ_cross rfl rfl, if_pos]
  rw [h1, h2, sI_true, sI_false]
  have x1 : 0 < nu q * de r := Nat.mul_pos p1 hr
  have x2 : (0 : Int) ≤ ((nu r * de q : Nat) : Int) := Int.natCast_nonneg _
  have x3 : (0 : Int) < ((nu q * de r : Nat) : Int) := by omega
  rw [Int.natCast_mul] at x2 x3
  rw [Int.neg_mul]; omega
theorem cmpQ_pos_neg {q r : Rat} (h1 : ng q = false) (h2 : ng r = true) : cmpQ q r = 1 := by
  have p1 := ng_pos h2
  have hr := de_pos q
  have x1 : 0 < nu r * de q := Nat.mul_pos p1 hr
  have x2 : (0 : Int) ≤ ((nu q * de r : Nat) : Int) := Int.natCast_nonneg _
  have x3 : (0 : Int) < ((nu r * de q : Nat) : Int) := by omega
  rw [Int.natCast_mul] at x2 x3
  rw [cmpQ_cross rfl rfl, h1, h2, sI_true, sI_false, Int.neg_mul, if_neg (by omega), if_neg (by omega)]
theorem cmpQ_pos {q r : Rat} (h1 : ng q = false) (h2 : ng r = false) : cmpQ q r = cmpI (nu q * de r) (nu r * de q) := by
  rw [cmpQ_cross rfl rfl, h1, h2, sI_false, sI_false, ← Int.natCast_mul, ← Int.natCast_mul]
  unfold cmpI
  simp only [Int.ofNat_lt, Int.natCast_inj]
theorem cmpQ_neg {q r : Rat} (h1 : ng q = true) (h2 : ng r = true) : cmpQ q r = -cmpI (nu q * de r) (nu r * de q) := by
  rw [cmpQ_cross rfl rfl, h1, h2, sI_true, sI_true, Int.neg_mul, Int.neg_mul, ← Int.natCast_mul, ← Int.natCast_mul]
  unfold cmpI
  generalize nu q * de r = a
  generalize nu r * de q = b
  rcases Nat.lt_trichotomy a b with h | h | h
  · rw [if_neg (by omega), if_neg (by omega), if_pos h]; rfl
  · subst h; simp
  · rw [if_pos (by omega), if_neg (by omega), if_neg (by omega)]
def flQ (q : Rat) : Rat := (q.floor : Rat)
theorem flQ_parts (q : Rat) : ng (flQ q) = ng q ∧ nu (flQ q) = nu q / de q + (if ng q = true ∧ 0 < nu q % de q then 1 else 0) ∧ de (flQ q) = 1 := by
  have hd := de_pos q
  have e : q.floor = sI (ng q) (nu q) / (de q : Int) := by rw [Rat.floor_def, num_eq q]; rfl
  have hp : ng q = true → 1 ≤ nu q := ng_pos
  unfold flQ
  have e1 : ng (q.floor : Rat) = decide (q.floor < 0) := rfl
  have e2 : nu (q.floor : Rat) = q.floor.natAbs := rfl
  have e3 : de (q.floor : Rat) = 1 := rfl
  rw [e1, e2, e3, e]
  have dm := Nat.div_add_mod (nu q) (de q)
  have ml := Nat.mod_lt (nu q) hd
  generalize nu q = n at *
  generalize de q = d at *
  cases hb : ng q with
  | false =>
    rw [sI_false]
    have : ((n : Int) / (d : Int)) = ((n / d : Nat) : Int) := rfl
    rw [this]
    generalize n / d = k
    rw [Int.natAbs_natCast, if_neg (by simp)]
    exact ⟨decide_eq_false (by omega), rfl, rfl⟩
  | true =>
    have hp1 := hp hb
    rw [sI_true]
    generalize n / d = k at *
    generalize n % d = t at *
    have key : -(n : Int) / (d : Int) = -((k + (if 0 < t then 1 else 0) : Nat) : Int) := by
      have hdp : (0 : Int) < (d : Int) := by omega
      refine (Int.ediv_emod_unique (r := if 0 < t then (d : Int) - (t : Int) else 0) hdp).2 ?_ |>.1
      have hI : ((d : Int) * (k : Int) + (t : Int)) = (n : Int) := by rw [← dm]; simp
      split
      · refine ⟨?_, by omega, by omega⟩
        simp only [Int.natCast_add, Int.natCast_one]
        rw [Int.mul_neg, Int.mul_add, Int.mul_one]; omega
      · refine ⟨?_, by omega, by omega⟩
        rw [Nat.add_zero, Int.mul_neg]; omega
    rw [key]
    have hkt : 1 ≤ k + (if 0 < t then 1 else 0) := by
      split
      · omega
      · rcases Nat.eq_zero_or_pos k with h | h
        · subst h; omega
        · omega
    refine ⟨decide_eq_true (by omega), ?_, rfl⟩
    rw [Int.natAbs_neg, Int.natAbs_natCast]
    simp
theorem flQ_le (q : Rat) : flQ q ≤ q := Rat.floor_le q
theorem lt_flQ (q : Rat) : q < flQ q + 1 := by
  have := Rat.lt_floor_add_one q
  unfold flQ
  rwa [Rat.intCast_add] at this
end Go.Proofs.YtfenjkgbedbleaaGreatDoor.Big
namespace Go.Proofs.YtfenjkgbedbleaaGreatDoor
open Go.RowKit
def szN (n : Nat) : Nat := if n = 0 then 0 else Nat.log2 n / 8 + 1
theorem szN_is (n : Nat) : Big.IsSize n (szN n) := by
  unfold szN
  by_cases h : n = 0
  · subst h; exact Big.isSize_zero
  · rw [if_neg h]
    have h1 := Nat.log2_self_le h
    have h2 : n < 2 ^ (Nat.log2 n + 1) := Nat.lt_log2_self
    generalize Nat.log2 n = b at *
    refine ⟨?_, fun _ => ?_⟩
    · rw [Big.pow256]
      exact Nat.lt_of_lt_of_le h2 (Nat.pow_le_pow_right (by omega) (by omega))
    · rw [Big.pow256]
      exact Nat.le_trans (Nat.pow_le_pow_right (by omega) (by omega)) h1
theorem szN_of {n s : Nat} (h : Big.IsSize n s) : s = szN n := Big.isSize_unique h (szN_is n)
theorem szN_le {n k : Nat} (h : n < 256 ^ k) : szN n ≤ k := by
  rcases Nat.lt_or_ge k (szN n) with h1 | h1
  · have h2 := (szN_is n).2 (by omega)
    have h3 : 256 ^ k ≤ 256 ^ (szN n - 1) := Nat.pow_le_pow_right (by omega) (by omega)
    omega
  · exact h1
theorem lt_szN {n k : Nat} (h : szN n ≤ k) : n < 256 ^ k :=
  Nat.lt_of_lt_of_le (szN_is n).1 (Nat.pow_le_pow_right (by omega) h)
theorem szN_pos {n : Nat} (h : n ≠ 0) : 0 < szN n := by unfold szN; rw [if_neg h]; omega
def btx (n : Nat) : List UInt8 := Big.btext n (szN n)
theorem btx_of {n s : Nat} (h : Big.IsSize n s) : Big.btext n s = btx n := by rw [szN_of h]; rfl
theorem btx_length (n : Nat) : (btx n).length = szN n := Big.btext_length _ _
theorem btx_num (n : Nat) : Big.bnum (btx n) = n := Big.btext_num _ _ (szN_is n).1
def bst (n : Nat) : ByteArray := ⟨(btx n).toArray⟩
theorem bst_size (n : Nat) : (bst n).size = szN n := by
  show (btx n).toArray.size = _
  rw [List.size_toArray, btx_length]
theorem bst_list (n : Nat) : (bst n).data.toList = btx n := rfl
def Lead (l : List UInt8) : Prop := l.head? ≠ some 0
theorem btx_lead (n : Nat) : Lead (btx n) := by
  intro h
  have hs := szN_is n
  have hl := btx_length n
  have h1 : Big.bnum (btx n) = n := btx_num n
  cases hb : btx n with
  | nil => rw [hb] at h; simp at h
  | cons c l =>
    rw [hb] at h h1 hl
    have hc : c = 0 := by simpa using h
    subst hc
    have hlen : szN n = l.length + 1 := by rw [← hl]; rfl
    have h2 := hs.2 (by omega)
    rw [hlen, Nat.add_sub_cancel] at h2
    have h3 : Big.bnum (0 :: l) = Big.bnum l := by
      unfold Big.bnum Big.rev
      rw [List.reverse_cons, List.map_append, Big.val_append]
      simp [Big.val]
    have h4 := Big.val_lt _ (Big.rev_ok l)
    rw [Big.rev_length] at h4
    have h5 : Big.bnum l < 256 ^ l.length := h4
    rw [← h3, h1] at h5
    omega
def fracV (q : Rat) : Value := .agg #[.bool (Big.ng q), .string (bst (Big.nu q)), .string (bst (Big.de q))]
structure Fit (q : Rat) : Prop where
  nu : szN (Big.nu q) ≤ 512
  de : szN (Big.de q) ≤ 512
def NumIn (w : World) (v : Value) (q : Rat) : Prop := ∃ a b, v = .agg #[.bool (Big.ng q), a, b] ∧ NatIn w a (Big.nu q) ∧ NatIn w b (Big.de q)
theorem NumIn.keep {w w' : World} {v : Value} {q : Rat} (h : NumIn w v q) (hb : Below w.heap.size w w') : NumIn w' v q := by
  obtain ⟨a, b, e, h1, h2⟩ := h; exact ⟨a, b, e, h1.keep hb, h2.keep hb⟩
theorem NumIn.drew {w w' : World} {v : Value} {q : Rat} (h : NumIn w v q) (hb : Drew w w') : NumIn w' v q := h.keep (hb.below _)
structure Sz (k n : Nat) : Prop where
  out : n < Big.M64 ^ k
theorem M64_gt : 1 < Big.M64 := by unfold Big.M64; omega
theorem Sz.up {k j n : Nat} (h : Sz k n) (hk : k ≤ j) : Sz j n := ⟨Nat.lt_of_lt_of_le h.out (Nat.pow_le_pow_right Big.M64_pos hk)⟩
theorem Sz.le {k m n : Nat} (h : Sz k n) (hm : m ≤ n) : Sz k m := ⟨Nat.lt_of_le_of_lt hm h.out⟩
theorem Sz.mul {k j m n : Nat} (h : Sz k n) (i : Sz j m) : Sz (k + j) (n * m) := by
  refine ⟨?_⟩
  rw [Nat.pow_add]
  exact Nat.mul_lt_mul'' h.out i.out
theorem Sz.add {k j m n : Nat} (h : Sz k n) (i : Sz j m) : Sz (k + j + 1) (n + m) := by
  have a := (h.up (show k ≤ k + j by omega)).out
  have b := (i.up (show j ≤ k + j by omega)).out
  refine ⟨?_⟩
  rw [Nat.pow_succ]
  have h2 : Big.M64 ^ (k + j) * 2 ≤ Big.M64 ^ (k + j) * Big.M64 := Nat.mul_le_mul_left _ (by have := M64_gt; omega)
  generalize Big.M64 ^ (k + j) = P at *
  generalize P * Big.M64 = Q at *
  omega
theorem Sz.bytes8 {n k : Nat} (h : szN n ≤ 8 * k) : Sz k n := by
  refine ⟨?_⟩
  rw [Big.M64_pow, ← Nat.pow_mul]
  exact lt_szN h
theorem Sz.bytes {n : Nat} (h : szN n ≤ 512) : Sz 64 n := Sz.bytes8 h
theorem sz_one : Sz 1 1 := ⟨by rw [Nat.pow_one]; exact M64_gt⟩
theorem sz_word {n : Nat} (h : n < Big.M64) : Sz 1 n := ⟨by rwa [Nat.pow_one]⟩
structure Sm (k : Nat) (q : Rat) : Prop where
  nu : Sz k (Big.nu q)
  de : Sz k (Big.de q)
theorem Fit.sm {q : Rat} (h : Fit q) : Sm 64 q := ⟨Sz.bytes h.nu, Sz.bytes h.de⟩
theorem Sm.up {k j : Nat} {q : Rat} (h : Sm k q) (hk : k ≤ j) : Sm j q := ⟨h.nu.up hk, h.de.up hk⟩
theorem Sm.mul {k j : Nat} {q r : Rat} (h : Sm k q) (i : Sm j r) : Sm (k + j) (q * r) := by
  obtain ⟨_, h2, h3⟩ := Big.mul_parts q r
  exact ⟨by rw [h2]; exact (h.nu.le (Nat.div_le_self _ _)).mul (i.nu.le (Nat.div_le_self _ _)), by rw [h3]; exact (h.de.le (Nat.div_le_self _ _)).mul (i.de.le (Nat.div_le_self _ _))⟩
theorem abs_sum_le (b c : Bool) (n m : Nat) : (Big.sI b n + Big.sI c m).natAbs ≤ n + m := by
  have h1 := Big.sI_abs b n
  have h2 := Big.sI_abs c m
  omega
theorem Sm.add {k j : Nat} {q r : Rat} (h : Sm k q) (i : Sm j r) : Sm (2 * k + 2 * j + 1) (q + r) := by
  obtain ⟨_, h2, h3⟩ := Big.add_parts q r _ _ _ _ rfl rfl rfl rfl
  refine ⟨?_, ?_⟩
  · rw [h2]
    refine Sz.le ?_ (Nat.div_le_self _ _)
    refine Sz.le ?_ (abs_sum_le _ _ _ _)
    exact ((h.nu.mul (i.de.le (Nat.div_le_self _ _))).add (i.nu.mul (h.de.le (Nat.div_le_self _ _)))).up (by omega)
  · rw [h3]
    exact ((h.de.le (Nat.div_le_self _ _)).mul (i.de.le (Nat.div_le_self _ _))).up (by omega)
structure By (k : Nat) (q : Rat) : Prop where
  nu : Big.nu q < 256 ^ k
  de : Big.de q < 256 ^ k
theorem By.fit {k : Nat} {q : Rat} (h : By k q) (hk : k ≤ 512) : Fit q := ⟨Nat.le_trans (szN_le h.nu) hk, Nat.le_trans (szN_le h.de) hk⟩
theorem By.up {k j : Nat} {q : Rat} (h : By k q) (hk : k ≤ j) : By j q :=
  ⟨Nat.lt_of_lt_of_le h.nu (Nat.pow_le_pow_right (by omega) hk), Nat.lt_of_lt_of_le h.de (Nat.pow_le_pow_right (by omega) hk)⟩
theorem By.mul {k j : Nat} {q r : Rat} (h : By k q) (i : By j r) : By (k + j) (q * r) := by
  obtain ⟨_, h2, h3⟩ := Big.mul_parts q r
  refine ⟨?_, ?_⟩
  · rw [h2, Nat.pow_add]
    exact Nat.mul_lt_mul'' (Nat.lt_of_le_of_lt (Nat.div_le_self _ _) h.nu) (Nat.lt_of_le_of_lt (Nat.div_le_self _ _) i.nu)
  · rw [h3, Nat.pow_add]
    exact Nat.mul_lt_mul'' (Nat.lt_of_le_of_lt (Nat.div_le_self _ _) h.de) (Nat.lt_of_le_of_lt (Nat.div_le_self _ _) i.de)
theorem By.add {k j : Nat} {q r : Rat} (h : By k q) (i : By j r) : By (k + j + 1) (q + r) := by
  obtain ⟨_, h2, h3⟩ := Big.add_parts q r _ _ _ _ rfl rfl rfl rfl
  have e : 256 ^ (k + j + 1) = 256 ^ k * 256 ^ j * 256 := by rw [Nat.pow_succ, Nat.pow_add]
  refine ⟨?_, ?_⟩
  · rw [h2, e]
    refine Nat.lt_of_le_of_lt (Nat.div_le_self _ _) (Nat.lt_of_le_of_lt (abs_sum_le _ _ _ _) ?_)
    have a1 := Nat.mul_lt_mul'' h.nu (Nat.lt_of_le_of_lt (Nat.div_le_self (Big.de r) (Nat.gcd (Big.de q) (Big.de r))) i.de)
    have a2 := Nat.mul_lt_mul'' i.nu (Nat.lt_of_le_of_lt (Nat.div_le_self (Big.de q) (Nat.gcd (Big.de q) (Big.de r))) h.de)
    rw [Nat.mul_comm (256 ^ j)] at a2
    generalize 256 ^ k * 256 ^ j = P at *
    omega
  · rw [h3, e]
    have a1 := Nat.mul_lt_mul'' (Nat.lt_of_le_of_lt (Nat.div_le_self (Big.de q) (Nat.gcd (Big.de q) (Big.de r))) h.de) (Nat.lt_of_le_of_lt (Nat.div_le_self (Big.de r) (Nat.gcd (Big.sI (Big.ng q) (Big.nu q * (Big.de r / (Big.de q).gcd (Big.de r))) + Big.sI (Big.ng r) (Big.nu r * (Big.de q / (Big.de q).gcd (Big.de r)))).natAbs ((Big.de q).gcd (Big.de r)))) i.de)
    generalize 256 ^ k * 256 ^ j = P at *
    omega
theorem Sz.kx {k n : Nat} (h : Sz k n) (hk : k ≤ 100000000) : n < Big.M64 ^ Big.KX := (h.up (show k ≤ Big.KX by have := Big.KL_le; have := Big.KL_eq; omega)).out
theorem Sz.kl {k n : Nat} (h : Sz k n) (hk : k ≤ 100000000) : n < Big.M64 ^ Big.KL := (h.up (show k ≤ Big.KL by have := Big.KL_eq; omega)).out
theorem Sz.fits {k n : Nat} (h : Sz k n) (hk : k ≤ 100000000) : Fits n := ⟨h.kl hk⟩
def Nat1 (w : World) (r : Nat) (e : Ending) (w' : World) : Prop := ∃ v', e = .returned v' ∧ NatIn w' v' r ∧ Below w.heap.size w w'
theorem NatIn.len_zero {w : World} {A : Option Addr} {l c n : Nat} (h : NatIn w (.slice A l c) n) : l = 0 ↔ n = 0 := by
  obtain ⟨r, ⟨A', c', e, h1, h2, h3⟩, ok, nl, hv⟩ := h
  cases e
  constructor
  · intro h0
    rw [List.length_eq_zero_iff.1 h0] at hv
    rw [← hv]; rfl
  · intro h0
    rw [h0] at hv
    rw [Big.norm_zero Big.M64_pos r nl hv]; rfl
theorem NatIn.is_slice {w : World} {v : Value} {n : Nat} (h : NatIn w v n) : ∃ A l c, v = .slice A l c ∧ (l = 0 ↔ n = 0) := by
  have h' := h
  obtain ⟨r, ⟨A', c', rfl, h1, h2, h3⟩, ok, nl, hv⟩ := h
  exact ⟨_, _, _, rfl, h'.len_zero⟩
theorem one_iff {l : List Nat} (ok : Big.Ok Big.M64 l) (nl : Big.Norm l) : l = [1] ↔ Big.val Big.M64 l = 1 := by
  have n1 : Big.Norm [1] := by simp [Big.Norm]
  have o1 : Big.Ok Big.M64 [1] := Big.Ok.cons M64_gt Big.Ok.nil
  have v1 : Big.val Big.M64 [1] = 1 := by simp [Big.val]
  constructor
  · intro e; rw [e, v1]
  · intro e; exact Big.val_inj Big.M64_pos _ _ ok o1 nl n1 (by rw [v1]; exact e)
theorem isOne_num (w : World) (v : Value) (n : Nat) (h : NatIn w v n) :
    Calls Tryz.prog 38 #[v] w fun e w' => e = .returned (.bool (decide (n = 1))) ∧ w = w' := by
  obtain ⟨l, h1, ok, nl, rfl⟩ := h
  refine (isOne_any w v l h1).mono fun e w' ⟨he, hw⟩ => ⟨?_, hw⟩
  rw [he]
  exact ret_bool (by rw [decide_eq_decide]; exact one_iff ok nl)
theorem cmp_num (w : World) (v u : Value) (n m : Nat) (h : NatIn w v n) (k : NatIn w u m) :
    Calls Tryz.prog 42 #[v, u] w fun e w' => e = .returned (.int .i64 (Big.cmpI n m)) ∧ Drew w w' := by
  obtain ⟨l, h1, ok, nl, rfl⟩ := h
  obtain ⟨r, k1, kk, kl, rfl⟩ := k
  exact cmp_any w v u l r h1 k1 ok kk nl kl
theorem of_num (w : World) (n : Nat) (hn : n < Big.M64) : Calls Tryz.prog 31 #[.int .u64 (n : Int)] w (Nat1 w n) :=
  (natOf_any w n).mono fun _ _ ⟨v', h1, h2, h3⟩ => ⟨v', h1, ⟨_, h2, by
    split
    · exact Big.Ok.nil
    · exact Big.Ok.cons hn Big.Ok.nil, by
    split
    · exact Big.norm_nil
    · rename_i h0; simp [Big.Norm, h0], by
    split
    · rename_i h0; rw [h0]; rfl
    · simp [Big.val]⟩, h3⟩
theorem add_num (w : World) (v u : Value) (n m k j : Nat) (h : NatIn w v n) (i : NatIn w u m) (hn : Sz k n) (hm : Sz j m) (hk : k ≤ 100000000) (hj : j ≤ 100000000) :
    Calls Tryz.prog 44 #[v, u] w (Nat1 w (n + m)) := add_any w v u n m h i (hn.kx hk) (hm.kx hj)
theorem sub_num (w : World) (v u : Value) (n m k : Nat) (h : NatIn w v n) (i : NatIn w u m) (hn : Sz k n) (hk : k ≤ 100000000) :
    Calls Tryz.prog 72 #[v, u] w (Nat1 w (n - m)) := sub_any w v u n m h i (hn.kx hk)
theorem mul_num (w : World) (v u : Value) (n m k j : Nat) (h : NatIn w v n) (i : NatIn w u m) (hn : Sz k n) (hm : Sz j m) (hk : k ≤ 100000000) (hj : j ≤ 100000000) :
    Calls Tryz.prog 45 #[v, u] w (Nat1 w (n * m)) := mul_any w v u n m h i (hn.kl hk) (hm.kl hj)
theorem quo_num (w : World) (v u : Value) (n m k : Nat) (h : NatIn w v n) (i : NatIn w u m) (hn : Sz k n) (hk : k ≤ 100000000) :
    Calls Tryz.prog 30 #[v, u] w (Nat1 w (n / m)) := quo_any w v u n m h i (hn.kl hk)
theorem gcd_num (w : World) (v u : Value) (n m k j : Nat) (h : NatIn w v n) (i : NatIn w u m) (hn : Sz k n) (hm : Sz j m) (hk : k ≤ 100000000) (hj : j ≤ 100000000) :
    Calls Tryz.prog 29 #[v, u] w (Nat1 w (Nat.gcd n m)) := gcd_any w v u n m h i (hn.fits hk) (hm.fits hj)
theorem quoRem_num (w : World) (v u : Value) (n m k : Nat) (h : NatIn w v n) (i : NatIn w u m) (hn : Sz k n) (hk : k ≤ 100000000) :
    Calls Tryz.prog 43 #[v, u] w fun e w' => ∃ q r, e = .returned (.tuple #[q, r]) ∧ NatIn w' q (n / m) ∧ NatIn w' r (n % m) ∧ Below w.heap.size w w' :=
  quoRem_any w v u n m h i (hn.kl hk)
theorem size_num (w : World) (v : Value) (n k : Nat) (h : NatIn w v n) (hn : Sz k n) (hk : k ≤ 100000000) :
    Calls Tryz.prog 73 #[v] w fun e w' => e = .returned (.int .i64 ((szN n : Nat) : Int)) ∧ w = w' :=
  (size_any w v n h (hn.kx hk)).mono fun _ _ ⟨_, h1, h2, h3⟩ => ⟨by rw [h1, szN_of h2], h3⟩
theorem bytes_num (w : World) (v : Value) (n k : Nat) (h : NatIn w v n) (hn : Sz k n) (hk : k ≤ 100000000) :
    Calls Tryz.prog 48 #[v] w fun e w' => e = .returned (.string (bst n)) ∧ Below w.heap.size w w' :=
  (bytes_any w v n h (hn.kl hk)).mono fun _ _ ⟨_, h1, h2, h3⟩ => ⟨by rw [h1, btx_of h2]; rfl, h3⟩
theorem fromBytes_num (w : World) (n : Nat) (hn : szN n ≤ 1000000000) : Calls Tryz.prog 54 #[.string (bst n)] w (Nat1 w n) := by
  have h := fromBytes_any w (bst n) (by rw [bst_size]; exact hn)
  rw [bst_list, btx_num] at h
  exact h
def At3 (w : World) (g : Nat) (T : TypeId) (a b c : Value) : Prop := w.heap[g]? = some (.cells #[a, b, c] T (0, 0))
section
variable {w w' : World} {g : Nat} {T : TypeId} {a b c : Value}
theorem At3.lt (h : At3 w g T a b c) : g < w.heap.size := by
  rcases Nat.lt_or_ge g w.heap.size with h1 | h1
  · exact h1
  · unfold At3 at h; rw [Array.getElem?_eq_none h1] at h; cases h
theorem At3.c0 (h : At3 w g T a b c) : w.cell? ⟨g, 0, none⟩ = some a := by rw [cell_of_row w g 0 _ _ (0, 0) h]; rfl
theorem At3.c1 (h : At3 w g T a b c) : w.cell? ⟨g, 1, none⟩ = some b := by rw [cell_of_row w g 1 _ _ (0, 0) h]; rfl
theorem At3.c2 (h : At3 w g T a b c) : w.cell? ⟨g, 2, none⟩ = some c := by rw [cell_of_row w g 2 _ _ (0, 0) h]; rfl
theorem At3.frozen (h : At3 w g T a b c) (i : Nat) : w.frozen? ⟨g, i, none⟩ = false := frozen_of_row w g i _ _ h
theorem At3.new (w : World) (T : TypeId) (a b c : Value) : At3 (w.alloc (.cells #[a, b, c] T)) w.heap.size T a b c := heap_alloc_new w _
theorem At3.alloc' (h : At3 w g T a b c) (o : Obj) : At3 (w.alloc o) g T a b c := (Below.heap_alloc w o g h.lt).trans h
theorem At3.drewN (h : At3 w g T a b c) (n : Nat) : At3 (w.drewN n) g T a b c := h
theorem At3.below (h : At3 w g T a b c) {B : Nat} (hb : Below B w w') (hg : g < B) : At3 w' g T a b c := (hb.block g hg).trans h
theorem At3.keep (h : At3 w g T a b c) (hb : Below w.heap.size w w') : At3 w' g T a b c := h.below hb h.lt
theorem At3.far (h : At3 w g T a b c) {p : Addr} (hp : g ≠ p.block) (u : Value) : At3 (w.setCell p u) g T a b c := (heap_setCell_other w p g u hp).trans h
theorem At3.put (h : At3 w g T a b c) (a' b' c' : Value) : At3 (((w.setCell ⟨g, 0, none⟩ a').setCell ⟨g, 1, none⟩ b').setCell ⟨g, 2, none⟩ c') g T a' b' c' := by
  have h1 := heap_setCell_same w g 0 _ _ a' h
  have h2 := heap_setCell_same _ g 1 _ _ b' h1
  have h3 := heap_setCell_same _ g 2 _ _ c' h2
  exact h3
theorem put_below {B : Nat} {w0 w : World} {g : Nat} (hb : Below B w0 w) (hg : B ≤ g) (a b c : Value) :
    Below B w0 (((w.setCell ⟨g, 0, none⟩ a).setCell ⟨g, 1, none⟩ b).setCell ⟨g, 2, none⟩ c) :=
  ((hb.setCell (p := ⟨g, 0, none⟩) hg a).setCell (p := ⟨g, 1, none⟩) hg b).setCell (p := ⟨g, 2, none⟩) hg c
end
theorem put_only (w : World) (g : Nat) (a b c : Value) : Only g w (((w.setCell ⟨g, 0, none⟩ a).setCell ⟨g, 1, none⟩ b).setCell ⟨g, 2, none⟩ c) :=
  (((Only.refl g w).setCell 0 a).setCell 1 b).setCell 2 c
theorem NatIn.only {w w' : World} {v : Value} {n g : Nat} (h : NatIn w v n) (hg : ∀ i x, w.cell? ⟨g, i, none⟩ ≠ some (.int .u64 x)) (ho : Only g w w') : NatIn w' v n := by
  obtain ⟨l, ⟨A, c, rfl, h1, h2, h3⟩, ok⟩ := h
  refine ⟨l, ⟨A, c, rfl, h1, h2, fun hl => ?_⟩, ok⟩
  obtain ⟨b, o, rfl, hlt, hc, hty⟩ := h3 hl
  have hne : b ≠ g := by
    intro e; subst e
    exact hg _ _ (hc 0 hl)
  exact ⟨b, o, rfl, Nat.lt_of_lt_of_le hlt ho.size, fun i hi => (ho.cell hlt hne).trans (hc i hi), hty.same (ho.block b hlt (fun e => hne (by cases e; rfl)))⟩
def NumRes (w : World) (g : Nat) (T : TypeId) : Prop := At3 w g T (.bool false) (.slice none 0 0) (.slice none 0 0)
theorem NumRes.no_int {w : World} {g : Nat} {T : TypeId} (h : NumRes w g T) (i : Nat) (x : Int) : w.cell? ⟨g, i, none⟩ ≠ some (.int .u64 x) := by
  unfold NumRes At3 at h
  rw [cell_of_row w g i _ _ (0, 0) h]
  match i with
  | 0 => simp
  | 1 => simp
  | 2 => simp
  | k + 3 => simp
theorem num_done {B : Nat} {w W : World} {g : Nat} {T : TypeId} {q : Rat} {a c : Value} {bb : Bool} (h : NumRes W g T) (hb : Below B w W) (hB : B ≤ g) (ha : NatIn W a (Big.nu q)) (hc : NatIn W c (Big.de q)) (hbb : bb = Big.ng q) :
    At3 (((W.setCell ⟨g, 0, none⟩ (.bool bb)).setCell ⟨g, 1, none⟩ a).setCell ⟨g, 2, none⟩ c) g T (.bool bb) a c ∧
      NumIn (((W.setCell ⟨g, 0, none⟩ (.bool bb)).setCell ⟨g, 1, none⟩ a).setCell ⟨g, 2, none⟩ c) (.agg #[.bool bb, a, c]) q ∧
      Below B w (((W.setCell ⟨g, 0, none⟩ (.bool bb)).setCell ⟨g, 1, none⟩ a).setCell ⟨g, 2, none⟩ c) := by
  subst hbb
  have ho := put_only W g (.bool (Big.ng q)) a c
  exact ⟨At3.put h _ _ _, ⟨a, c, rfl, ha.only h.no_int ho, hc.only h.no_int ho⟩, put_below hb hB _ _ _⟩
def Num1 (w : World) (q : Rat) (e : Ending) (w' : World) : Prop := ∃ v', e = .returned v' ∧ NumIn w' v' q ∧ Below w.heap.size w w'
theorem NumIn.is_agg {w : World} {v : Value} {q : Rat} (h : NumIn w v q) : ∃ A l c A2 l2 c2, v = .agg #[.bool (Big.ng q), .slice A l c, .slice A2 l2 c2] ∧ NatIn w (.slice A l c) (Big.nu q) ∧ NatIn w (.slice A2 l2 c2) (Big.de q) := by
  obtain ⟨a, b, rfl, h1, h2⟩ := h
  have k1 := h1; have k2 := h2
  obtain ⟨_, ⟨A, c, rfl, _⟩, _⟩ := h1
  obtain ⟨_, ⟨A2, c2, rfl, _⟩, _⟩ := h2
  exact ⟨_, _, _, _, _, _, rfl, k1, k2⟩
def Nat2 (b w : World) (r : Nat) (e : Ending) (w' : World) : Prop := ∃ v', e = .returned v' ∧ NatIn w' v' r ∧ Below b.heap.size b w' ∧ Below w.heap.size w w'
theorem below_alloc {B : Nat} {w0 w : World} (h : Below B w0 w) (hB : B ≤ w0.heap.size) (o : Obj) : Below B w0 (w.alloc o) := h.alloc (Nat.le_trans hB h.size) o
theorem below_drew {B : Nat} {a w : World} (h : Below B a w) : Below B a w.drew := ⟨h.os, h.tape, h.output, h.size, h.block⟩
theorem NatIn.dr {w : World} {v : Value} {n : Nat} (h : NatIn w v n) : NatIn w.drew v n := h.keep (below_drew (Below.refl _ _))
theorem put_cell {w : World} {b i g : Nat} {x : Option Value} (h : w.cell? ⟨b, i, none⟩ = x) (hne : b ≠ g) (u v z : Value) : (((w.setCell ⟨g, 0, none⟩ u).setCell ⟨g, 1, none⟩ v).setCell ⟨g, 2, none⟩ z).cell? ⟨b, i, none⟩ = x := by
  rw [World.cell?_setCell_other _ _ _ _ (by simp), World.cell?_setCell_other _ _ _ _ (by simp), World.cell?_setCell_other _ _ _ _ (by simp)]; exact h
theorem alloc_size (w : World) (o : Obj) : (w.alloc o).heap.size = w.heap.size + 1 := by simp
theorem boxed3 (w : World) (T U : TypeId) (a b c a' b' c' x y z : Value) :
    At3 (((w.alloc (.cells #[a, b, c] T)).alloc (.cells #[a', b', c'] T)).alloc (.cells #[x, y, z] U)) w.heap.size T a b c ∧
    At3 (((w.alloc (.cells #[a, b, c] T)).alloc (.cells #[a', b', c'] T)).alloc (.cells #[x, y, z] U)) (w.heap.size + 1) T a' b' c' ∧
    At3 (((w.alloc (.cells #[a, b, c] T)).alloc (.cells #[a', b', c'] T)).alloc (.cells #[x, y, z] U)) (w.heap.size + 1 + 1) U x y z ∧
    Below w.heap.size w (((w.alloc (.cells #[a, b, c] T)).alloc (.cells #[a', b', c'] T)).alloc (.cells #[x, y, z] U)) := by
  refine ⟨((At3.new w T a b c).alloc' _).alloc' _, ?_, ?_, below_alloc (below_alloc (below_alloc (Below.refl _ _) (Nat.le_refl _) _) (Nat.le_refl _) _) (Nat.le_refl _) _⟩
  · have h := (At3.new (w.alloc (.cells #[a, b, c] T)) T a' b' c').alloc' (.cells #[x, y, z] U)
    rwa [alloc_size] at h
  · have h := At3.new ((w.alloc (.cells #[a, b, c] T)).alloc (.cells #[a', b', c'] T)) U x y z
    rwa [alloc_size, alloc_size] at h
theorem boxed2 (w : World) (T U : TypeId) (a b c x y z : Value) :
    At3 ((w.alloc (.cells #[a, b, c] T)).alloc (.cells #[x, y, z] U)) w.heap.size T a b c ∧
    At3 ((w.alloc (.cells #[a, b, c] T)).alloc (.cells #[x, y, z] U)) (w.heap.size + 1) U x y z ∧
    Below w.heap.size w ((w.alloc (.cells #[a, b, c] T)).alloc (.cells #[x, y, z] U)) := by
  refine ⟨(At3.new w T a b c).alloc' _, ?_, below_alloc (below_alloc (Below.refl _ _) (Nat.le_refl _) _) (Nat.le_refl _) _⟩
  have h := At3.new (w.alloc (.cells #[a, b, c] T)) U x y z
  rwa [alloc_size] at h
set_option maxRecDepth 100000 in
set_option maxHeartbeats 2000000 in
theorem exOf_any (w : World) (b : Bool) (v u : Value) (n d k j : Nat) (h : NatIn w v n) (i : NatIn w u d) (hn : Sz k n) (hm : Sz j d) (hk : k ≤ 100000000) (hj : j ≤ 100000000) (hd : 1 ≤ d) :
    Calls Tryz.prog 13 #[.bool b, v, u] w (Num1 w (mkRat (Big.sI b n) d)) := by
  obtain ⟨p1, p2, p3⟩ := Big.of_parts b n d hd
  have HP := Lib.hid (And.intro p1 (And.intro p2 p3))
  have HV := Lib.hid h; have HU := Lib.hid i; have HN := Lib.hid hn; have HM := Lib.hid hm
  obtain ⟨A, l, c, rfl, hl⟩ := h.is_slice
  obtain ⟨A2, l2, c2, rfl, hl2⟩ := i.is_slice
  have t1 : ((l2 : Int) == 0) = false := beq_eq_false_iff_ne.2 (by omega)
  clear p1 p2 p3 h i hn hm hl hl2 hd
  generalize mkRat (Big.sI b n) d = q at *
  go_enter Tryz.func13, Tryz.ntmps13
  go_wp2_with fail
  have HB0 := Lib.hid ((Below.refl w.heap.size w).alloc (Nat.le_refl _) (.cells #[.bool false, .slice none 0 0, .slice none 0 0] 42))
  have HR := Lib.hid (At3.new w 42 (.bool false) (.slice none 0 0) (.slice none 0 0))
  generalize w.alloc (.cells #[.bool false, .slice none 0 0, .slice none 0 0] 42) = w0 at *
  refine (gcd_num w0 _ _ n d k j (HV.out.keep HB0.out) (HU.out.keep HB0.out) HN.out HM.out hk hj).mono ?_
  rintro e w1 ⟨v1, rfl, hv1, hb1⟩
  have HV1 := Lib.hid hv1; have HB1 := Lib.hid (HB0.out.trans (hb1.mono HB0.out.size)); have HR1 := Lib.hid (HR.out.keep hb1)
  clear hv1 hb1 HR
  go_wp2_with fail
  refine (quo_num w1 _ _ n _ k (HV.out.keep HB1.out) HV1.out HN.out hk).mono ?_
  rintro e w2 ⟨v2, rfl, hv2, hb2⟩
  have HV2 := Lib.hid hv2
  obtain ⟨A3, l3, c3, rfl, hl3⟩ := hv2.is_slice
  have HV1' := Lib.hid (HV1.out.keep hb2)
  have HB2 := Lib.hid (HB1.out.trans (hb2.mono HB1.out.size)); have HR2 := Lib.hid (HR1.out.keep hb2)
  have HL3 := Lib.hid hl3
  clear hv2 hb2 HR1 hl3
  have g0 : n / Nat.gcd n d = 0 ↔ l3 = 0 := HL3.out.symm
  have CQ := Lib.hid (quo_num w2 _ _ d _ j (HU.out.keep HB2.out) HV1'.out HM.out hj)
  have HBR := Lib.hid (show NumRes w2 w.heap.size 42 from HR2.out)
  have f0 := fun W (hW : Below w2.heap.size w2 W) => (HR2.out.keep hW).frozen 0
  have done : ∀ (bb : Bool) (W : World) (v4 : Value), bb = (b && decide (0 < n / Nat.gcd n d)) → Below w2.heap.size w2 W → NatIn W v4 (d / Nat.gcd n d) →
      At3 (((W.setCell ⟨w.heap.size, 0, none⟩ (.bool bb)).setCell ⟨w.heap.size, 1, none⟩ (.slice A3 l3 c3)).setCell ⟨w.heap.size, 2, none⟩ v4) w.heap.size 42 (.bool bb) (.slice A3 l3 c3) v4 ∧
      Num1 w q (.returned (.agg #[.bool bb, .slice A3 l3 c3, v4])) (((W.setCell ⟨w.heap.size, 0, none⟩ (.bool bb)).setCell ⟨w.heap.size, 1, none⟩ (.slice A3 l3 c3)).setCell ⟨w.heap.size, 2, none⟩ v4) := by
    intro bb W v4 e hW hv4
    have h1 := HV2.out.keep hW
    rw [← HP.out.2.1] at h1
    rw [← HP.out.2.2] at hv4
    have D := num_done (show NumRes W w.heap.size _ from HR2.out.keep hW) (HB2.out.trans (hW.mono HB2.out.size)) (Nat.le_refl _) h1 hv4 (e.trans HP.out.1.symm)
    exact ⟨D.1, _, rfl, D.2⟩
  have DONE := Lib.hid done
  clear done f0
  have t2 : 0 < n / Nat.gcd n d ↔ 0 < l3 := by rw [Nat.pos_iff_ne_zero, Nat.pos_iff_ne_zero, Ne, Ne, g0]
  have t3 : (b && decide (0 < n / Nat.gcd n d)) = (b && decide (0 < l3)) := by rw [decide_eq_decide.2 t2]
  rw [t3] at DONE
  clear g0 t2 t3 HP HL3 HV HU HN HM HV1' HV2 HV1
  rcases Nat.eq_zero_or_pos l3 with hl0 | hl0
  · subst hl0
    rw [decide_eq_false (by omega)] at DONE
    cases b
    all_goals
      go_wp2_with fail
      refine CQ.out.mono ?_
      rintro e w3 ⟨v4, rfl, hv4, hb3⟩
      obtain ⟨A4, l4, c4, rfl, hl4⟩ := hv4.is_slice
      obtain ⟨D1, D2⟩ := DONE.out false w3 _ rfl hb3 hv4
      have R3 := HR2.out.keep hb3
      have k0 := R3.c0; have k1 := R3.c1; have k2 := R3.c2; have f0 := R3.frozen 0; have f1 := R3.frozen 1; have f2 := R3.frozen 2
      have HD1 := Lib.hid D1; have HD2 := Lib.hid D2
      clear D1 D2 R3 hv4 hb3 hl4
      go_wp2_with fail
      generalize (((w3.setCell ⟨w.heap.size, 0, none⟩ (.bool false)).setCell ⟨w.heap.size, 1, none⟩ (.slice A3 0 c3)).setCell ⟨w.heap.size, 2, none⟩ (.slice A4 l4 c4)) = wz at HD1 HD2 ⊢
      have r0 := HD1.out.c0; have r1 := HD1.out.c1; have r2 := HD1.out.c2
      exact bodyPost_ret (v := .agg #[.bool false, .slice A3 0 c3, .slice A4 l4 c4]) (by simp [results, Tryz.results13, go_sem, r0, r1, r2]) rfl HD2.out
  · have t4 : ((l3 : Int) > 0) := by omega
    rw [decide_eq_true (by omega)] at DONE
    cases b
    · go_wp2_with fail
      refine CQ.out.mono ?_
      rintro e w3 ⟨v4, rfl, hv4, hb3⟩
      obtain ⟨A4, l4, c4, rfl, hl4⟩ := hv4.is_slice
      obtain ⟨D1, D2⟩ := DONE.out false w3 _ rfl hb3 hv4
      have R3 := HR2.out.keep hb3
      have k0 := R3.c0; have k1 := R3.c1; have k2 := R3.c2; have f0 := R3.frozen 0; have f1 := R3.frozen 1; have f2 := R3.frozen 2
      have HD1 := Lib.hid D1; have HD2 := Lib.hid D2
      clear D1 D2 R3 hv4 hb3 hl4
      go_wp2_with fail
      generalize (((w3.setCell ⟨w.heap.size, 0, none⟩ (.bool false)).setCell ⟨w.heap.size, 1, none⟩ (.slice A3 l3 c3)).setCell ⟨w.heap.size, 2, none⟩ (.slice A4 l4 c4)) = wz at HD1 HD2 ⊢
      have r0 := HD1.out.c0; have r1 := HD1.out.c1; have r2 := HD1.out.c2
      exact bodyPost_ret (v := .agg #[.bool false, .slice A3 l3 c3, .slice A4 l4 c4]) (by simp [results, Tryz.results13, go_sem, r0, r1, r2]) rfl HD2.out
    · go_wp2_with fail
      refine CQ.out.mono ?_
      rintro e w3 ⟨v4, rfl, hv4, hb3⟩
      obtain ⟨A4, l4, c4, rfl, hl4⟩ := hv4.is_slice
      obtain ⟨D1, D2⟩ := DONE.out true w3 _ rfl hb3 hv4
      have R3 := HR2.out.keep hb3
      have k0 := R3.c0; have k1 := R3.c1; have k2 := R3.c2; have f0 := R3.frozen 0; have f1 := R3.frozen 1; have f2 := R3.frozen 2
      have HD1 := Lib.hid D1; have HD2 := Lib.hid D2
      clear D1 D2 R3 hv4 hb3 hl4
      go_wp2_with fail
      generalize (((w3.setCell ⟨w.heap.size, 0, none⟩ (.bool true)).setCell ⟨w.heap.size, 1, none⟩ (.slice A3 l3 c3)).setCell ⟨w.heap.size, 2, none⟩ (.slice A4 l4 c4)) = wz at HD1 HD2 ⊢
      have r0 := HD1.out.c0; have r1 := HD1.out.c1; have r2 := HD1.out.c2
      exact bodyPost_ret (v := .agg #[.bool true, .slice A3 l3 c3, .slice A4 l4 c4]) (by simp [results, Tryz.results13, go_sem, r0, r1, r2]) rfl HD2.out
def Sum1 (w : World) (S : Int) (e : Ending) (w' : World) : Prop := ∃ v', e = .returned (.tuple #[.bool (decide (S < 0)), v']) ∧ NatIn w' v' S.natAbs ∧ Below w.heap.size w w'
def Sum2 (b w : World) (S : Int) (e : Ending) (w' : World) : Prop := ∃ v', e = .returned (.tuple #[.bool (decide (S < 0)), v']) ∧ NatIn w' v' S.natAbs ∧ Below b.heap.size b w' ∧ Below w.heap.size w w'
theorem liftS {P : Program} {f : FuncId} {args : Array Value} {b W : World} {S : Int} (h : Below b.heap.size b W) (c : Calls P f args W (Sum1 W S)) : Calls P f args W (Sum2 b W S) :=
  c.mono fun _ _ ⟨v, h1, h2, h3⟩ => ⟨v, h1, h2, h.trans (h3.mono h.size), h3⟩
set_option maxRecDepth 100000 in
set_option maxHeartbeats 2000000 in
theorem exsum_any (w : World) (b c : Bool) (v u : Value) (n m k j : Nat) (h : NatIn w v n) (i : NatIn w u m) (hn : Sz k n) (hm : Sz j m) (hk : k ≤ 100000000) (hj : j ≤ 100000000) (hb : b = true → 1 ≤ n) (hc : c = true → 1 ≤ m) :
    Calls Tryz.prog 46 #[.bool b, v, .bool c, u] w (Sum1 w (Big.sI b n + Big.sI c m)) := by
  have CA := Lib.hid (add_num w v u n m k j h i hn hm hk hj)
  have C1 := Lib.hid (fun W (hW : Drew w W) => sub_num W v u n m k (h.drew hW) (i.drew hW) hn hk)
  have C2 := Lib.hid (fun W (hW : Drew w W) => sub_num W u v m n j (i.drew hW) (h.drew hW) hm hj)
  have CC := Lib.hid (cmp_num w v u n m h i)
  obtain ⟨A, l, c1, rfl, -⟩ := h.is_slice
  obtain ⟨A2, l2, c2, rfl, -⟩ := i.is_slice
  clear h i hn hm hk hj
  cases b
  · cases c
    · clear CC C1 C2 hb hc
      go_enter Tryz.func46, Tryz.ntmps46
      go_wp2_with fail
      refine CA.out.mono ?_
      rintro e w' ⟨v', rfl, hv, hb⟩
      have HV := Lib.hid hv; have HB := Lib.hid hb
      clear hv hb
      go_wp2_with fail
      go_ret2
      refine ⟨v', ?_, ?_, HB.out⟩
      · rw [Big.sI_false, Big.sI_false, decide_eq_false (by omega)]; rfl
      · rw [Big.sI_false, Big.sI_false]
        have e : ((n : Int) + (m : Int)).natAbs = n + m := by omega
        rw [e]; exact HV.out
    · rcases Nat.lt_trichotomy n m with hlt | heq | hgt
      · rw [Big.cmpI_lt hlt] at CC
        have HBC := Lib.hid (And.intro hb (And.intro hc hlt))
        clear hb hc hlt
        go_enter Tryz.func46, Tryz.ntmps46
        go_wp2_with fail
        refine CC.out.mono ?_
        rintro e w1 ⟨rfl, hd⟩
        have HD := Lib.hid hd
        clear hd
        go_wp2_with fail
        refine (C2.out _ HD.out).mono ?_
        rintro e w' ⟨v', rfl, hv, hb⟩
        have HV := Lib.hid hv; have HB := Lib.hid ((HD.out.below _).trans (hb.mono (by rw [HD.out.heap]; exact Nat.le_refl _)))
        clear hv hb
        go_wp2_with fail
        go_ret2
        have HL := HBC.out.2.2
        refine ⟨v', ?_, ?_, HB.out⟩
        · rw [Big.sI_false, Big.sI_true, decide_eq_true (by omega)]; rfl
        · rw [Big.sI_false, Big.sI_true]
          have e : ((n : Int) + -(m : Int)).natAbs = m - n := by omega
          rw [e]; exact HV.out
      · subst heq; rw [Big.cmpI_eq] at CC
        have HBC := Lib.hid (And.intro hb (And.intro hc True.intro))
        clear hb hc
        go_enter Tryz.func46, Tryz.ntmps46
        go_wp2_with fail
        refine CC.out.mono ?_
        rintro e w1 ⟨rfl, hd⟩
        have HD := Lib.hid hd
        clear hd
        go_wp2_with fail
        go_ret2
        refine ⟨.slice none 0 0, ?_, ?_, HD.out.below _⟩
        · rw [Big.sI_false, Big.sI_true, decide_eq_false (by omega)]; rfl
        · rw [Big.sI_false, Big.sI_true]
          have e : ((n : Int) + -(n : Int)).natAbs = 0 := by omega
          rw [e]; exact NatIn.nil_ _
      · rw [Big.cmpI_gt hgt] at CC
        have HBC := Lib.hid (And.intro hb (And.intro hc hgt))
        clear hb hc hgt
        go_enter Tryz.func46, Tryz.ntmps46
        go_wp2_with fail
        refine CC.out.mono ?_
        rintro e w1 ⟨rfl, hd⟩
        have HD := Lib.hid hd
        clear hd
        go_wp2_with fail
        refine (C1.out _ HD.out).mono ?_
        rintro e w' ⟨v', rfl, hv, hb⟩
        have HV := Lib.hid hv; have HB := Lib.hid ((HD.out.below _).trans (hb.mono (by rw [HD.out.heap]; exact Nat.le_refl _)))
        clear hv hb
        go_wp2_with fail
        go_ret2
        have HL := HBC.out.2.2
        refine ⟨v', ?_, ?_, HB.out⟩
        · rw [Big.sI_false, Big.sI_true, decide_eq_false (by omega)]; rfl
        · rw [Big.sI_false, Big.sI_true]
          have e : ((n : Int) + -(m : Int)).natAbs = n - m := by omega
          rw [e]; exact HV.out
  · cases c
    · rcases Nat.lt_trichotomy n m with hlt | heq | hgt
      · rw [Big.cmpI_lt hlt] at CC
        have HBC := Lib.hid (And.intro hb (And.intro hc hlt))
        clear hb hc hlt
        go_enter Tryz.func46, Tryz.ntmps46
        go_wp2_with fail
        refine CC.out.mono ?_
        rintro e w1 ⟨rfl, hd⟩
        have HD := Lib.hid hd
        clear hd
        go_wp2_with fail
        refine (C2.out _ HD.out).mono ?_
        rintro e w' ⟨v', rfl, hv, hb⟩
        have HV := Lib.hid hv; have HB := Lib.hid ((HD.out.below _).trans (hb.mono (by rw [HD.out.heap]; exact Nat.le_refl _)))
        clear hv hb
        go_wp2_with fail
        go_ret2
        have HL := HBC.out.2.2
        refine ⟨v', ?_, ?_, HB.out⟩
        · rw [Big.sI_true, Big.sI_false, decide_eq_false (by omega)]; rfl
        · rw [Big.sI_true, Big.sI_false]
          have e : (-(n : Int) + (m : Int)).natAbs = m - n := by omega
          rw [e]; exact HV.out
      · subst heq; rw [Big.cmpI_eq] at CC
        have HBC := Lib.hid (And.intro hb (And.intro hc True.intro))
        clear hb hc
        go_enter Tryz.func46, Tryz.ntmps46
        go_wp2_with fail
        refine CC.out.mono ?_
        rintro e w1 ⟨rfl, hd⟩
        have HD := Lib.hid hd
        clear hd
        go_wp2_with fail
        go_ret2
        refine ⟨.slice none 0 0, ?_, ?_, HD.out.below _⟩
        · rw [Big.sI_true, Big.sI_false, decide_eq_false (by omega)]; rfl
        · rw [Big.sI_true, Big.sI_false]
          have e : (-(n : Int) + (n : Int)).natAbs = 0 := by omega
          rw [e]; exact NatIn.nil_ _
      · rw [Big.cmpI_gt hgt] at CC
        have HBC := Lib.hid (And.intro hb (And.intro hc hgt))
        clear hb hc hgt
        go_enter Tryz.func46, Tryz.ntmps46
        go_wp2_with fail
        refine CC.out.mono ?_
        rintro e w1 ⟨rfl, hd⟩
        have HD := Lib.hid hd
        clear hd
        go_wp2_with fail
        refine (C1.out _ HD.out).mono ?_
        rintro e w' ⟨v', rfl, hv, hb⟩
        have HV := Lib.hid hv; have HB := Lib.hid ((HD.out.below _).trans (hb.mono (by rw [HD.out.heap]; exact Nat.le_refl _)))
        clear hv hb
        go_wp2_with fail
        go_ret2
        have HL := HBC.out.2.2
        refine ⟨v', ?_, ?_, HB.out⟩
        · rw [Big.sI_true, Big.sI_false, decide_eq_true (by omega)]; rfl
        · rw [Big.sI_true, Big.sI_false]
          have e : (-(n : Int) + (m : Int)).natAbs = n - m := by omega
          rw [e]; exact HV.out
    · have h1 := hb rfl
      clear CC C1 C2 hb hc
      go_enter Tryz.func46, Tryz.ntmps46
      go_wp2_with fail
      refine CA.out.mono ?_
      rintro e w' ⟨v', rfl, hv, hb⟩
      have HV := Lib.hid hv; have HB := Lib.hid hb
      clear hv hb
      go_wp2_with fail
      go_ret2
      refine ⟨v', ?_, ?_, HB.out⟩
      · rw [Big.sI_true, Big.sI_true, decide_eq_true (by omega)]; rfl
      · rw [Big.sI_true, Big.sI_true]
        have e : (-(n : Int) + -(m : Int)).natAbs = n + m := by omega
        rw [e]; exact HV.out
end Go.Proofs.YtfenjkgbedbleaaGreatDoor
