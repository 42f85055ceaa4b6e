/- What a sum of two floats loses is a float (Dekker). -/
import Derived.Test.YtgdcahdnojaebaaFv
namespace Go.Proofs.Ytgdcahdnojaebaa
namespace Fl
open Ieee

/-- A magnitude that a finite or infinite word has. -/
def Rp (n : Nat) : Prop := ∃ r, r ≤ INF ∧ V r = n
def eo (r : Nat) : Nat := r / 4503599627370496 - 1
theorem V_eo (r : Nat) : ∃ m, m < 9007199254740992 ∧ V r = m * 2 ^ eo r := by
  unfold V eo
  by_cases h : r < 4503599627370496
  · rw [if_pos h, show r / 4503599627370496 - 1 = 0 by omega]; exact ⟨r, by omega, by simp⟩
  · rw [if_neg h]; exact ⟨_, by omega, rfl⟩
theorem eo_mono {r s : Nat} (h : r ≤ s) : eo r ≤ eo s := by
  unfold eo; have := Nat.div_le_div_right (c := 4503599627370496) h; omega
theorem V_norm {k E : Nat} (h1 : k ≤ 9007199254740992) (h2 : 0 < E → 4503599627370496 ≤ k) : V (E * 4503599627370496 + k) = k * 2 ^ E := by
  unfold V
  rcases Nat.eq_zero_or_pos E with h | h
  · subst h
    rw [Nat.zero_mul, Nat.zero_add, Nat.pow_zero, Nat.mul_one]
    by_cases a : k < 4503599627370496
    · rw [if_pos a]
    · rw [if_neg a]
      by_cases b : k = 9007199254740992
      · subst b; rfl
      · rw [show k / 4503599627370496 - 1 = 0 by omega, Nat.pow_zero]; omega
  · have := h2 h
    rw [if_neg (by omega)]
    by_cases b : k = 9007199254740992
    · subst b
      rw [show (E * 4503599627370496 + 9007199254740992) / 4503599627370496 - 1 = E + 1 by omega, show (E * 4503599627370496 + 9007199254740992) % 4503599627370496 = 0 by omega, Nat.pow_succ]
      omega
    · rw [show (E * 4503599627370496 + k) / 4503599627370496 - 1 = E by omega, show 4503599627370496 + (E * 4503599627370496 + k) % 4503599627370496 = k by omega]
/-- What is on a grid and not too many steps up is a float. -/
theorem rp_grid {n m e : Nat} (hn : n = m * 2 ^ e) (hm : m ≤ 9007199254740992) (hI : n ≤ V INF) : Rp n := by
  rcases Nat.eq_zero_or_pos m with h0 | h0
  · subst h0; exact ⟨0, Nat.zero_le _, by rw [hn, V_zero, Nat.zero_mul]⟩
  have key : ∃ k E, n = k * 2 ^ E ∧ k ≤ 9007199254740992 ∧ (0 < E → 4503599627370496 ≤ k) := by
    by_cases a : 4503599627370496 ≤ m
    · exact ⟨m, e, hn, hm, fun _ => a⟩
    · -- shift up as far as may be
      have hl := Nat.log2_self_le (n := m) (by omega)
      have hu : m < 2 ^ (m.log2 + 1) := Nat.lt_log2_self
      have hl52 : m.log2 < 52 := (Nat.log2_lt (by omega)).2 (by omega)
      by_cases b : e ≤ 52 - m.log2
      · refine ⟨m * 2 ^ e, 0, by rw [hn]; simp, ?_, fun h => absurd h (by omega)⟩
        have h1 : m * 2 ^ e < 2 ^ (m.log2 + 1) * 2 ^ e := Nat.mul_lt_mul_of_pos_right hu (Nat.two_pow_pos _)
        rw [← Nat.pow_add] at h1
        have h2 : 2 ^ (m.log2 + 1 + e) ≤ 2 ^ 53 := Nat.pow_le_pow_right (by omega) (by omega)
        omega
      · refine ⟨m * 2 ^ (52 - m.log2), e - (52 - m.log2), ?_, ?_, fun _ => ?_⟩
        · rw [Nat.mul_assoc, ← Nat.pow_add, show 52 - m.log2 + (e - (52 - m.log2)) = e by omega]; exact hn
        · have h1 : m * 2 ^ (52 - m.log2) < 2 ^ (m.log2 + 1) * 2 ^ (52 - m.log2) := Nat.mul_lt_mul_of_pos_right hu (Nat.two_pow_pos _)
          rw [← Nat.pow_add, show m.log2 + 1 + (52 - m.log2) = 53 by omega] at h1
          omega
        · have h1 : 2 ^ m.log2 * 2 ^ (52 - m.log2) ≤ m * 2 ^ (52 - m.log2) := Nat.mul_le_mul_right _ hl
          rw [← Nat.pow_add, show m.log2 + (52 - m.log2) = 52 by omega] at h1
          exact h1
  obtain ⟨k, E, e1, e2, e3⟩ := key
  have e4 := V_norm e2 e3
  exact ⟨_, le_of_V (by rw [e4, ← e1]; exact hI), by rw [e4, ← e1]⟩

def Eo (n : Nat) : Nat := n.log2 - 52
def rdn (n : Nat) : Nat := rne n (2 ^ Eo n) * 2 ^ Eo n
theorem top_lt (n : Nat) : n < 9007199254740992 * 2 ^ Eo n := by
  have h : n < 2 ^ (n.log2 + 1) := Nat.lt_log2_self
  have h2 : 2 ^ (n.log2 + 1) ≤ 2 ^ (53 + Eo n) := Nat.pow_le_pow_right (by omega) (by unfold Eo; omega)
  rw [Nat.pow_add 2 53] at h2
  omega
theorem top_le (n : Nat) (h : 0 < Eo n) : 4503599627370496 * 2 ^ Eo n ≤ n := by
  have h0 : n ≠ 0 := by intro e; subst e; simp [Eo] at h
  have h1 := Nat.log2_self_le h0
  have h2 : 2 ^ n.log2 = 2 ^ 52 * 2 ^ Eo n := by rw [← Nat.pow_add]; congr 1; unfold Eo at *; omega
  omega
/-- Rounding, where it stays finite. -/
theorem V_rung {n : Nat} (h : rung n (-1074) < INF) : V (rung n (-1074)) = rdn n := by
  by_cases h0 : n = 0
  · subst h0; simp [rung, V_zero, rdn, rne]
  have hk := kept_le n (-1074)
  have hlo : (lastOf n (-1074) + 1074).toNat = Eo n := by unfold lastOf Eo; omega
  have hkept : kept n (-1074) = rne n (2 ^ Eo n) := by
    unfold kept
    rw [show (-1074 - lastOf n (-1074)).toNat = 0 by unfold lastOf; omega, Nat.pow_zero, Nat.mul_one, show (lastOf n (-1074) - -1074).toNat = Eo n by rw [← hlo]; congr 1]
  have hge : 0 < Eo n → 4503599627370496 ≤ kept n (-1074) := fun hE => le_kept n (-1074) h0 (by unfold lastOf; unfold Eo at hE; omega)
  unfold rung at h ⊢
  rw [if_neg h0] at h ⊢
  rw [hlo] at h ⊢
  have e : min (Eo n * 4503599627370496 + kept n (-1074)) 9218868437227405312 = Eo n * 4503599627370496 + kept n (-1074) := by
    unfold INF at h; omega
  rw [e, V_norm hk hge, hkept]
  rfl
theorem rne_near (n g : Nat) (hg : 0 < g) : (rne n g = n / g ∧ 2 * (n % g) ≤ g) ∨ (rne n g = n / g + 1 ∧ g ≤ 2 * (n % g)) := by
  have hr := Nat.mod_lt n hg
  unfold rne
  cases hb : (decide (g < 2 * (n % g)) || (g == 2 * (n % g) && n / g % 2 == 1))
  · left
    simp only [Bool.or_eq_false_iff, decide_eq_false_iff_not] at hb
    exact ⟨by simp, by omega⟩
  · right
    simp only [Bool.or_eq_true, decide_eq_true_eq, Bool.and_eq_true, beq_iff_eq] at hb
    exact ⟨by simp, by omega⟩
/-- Floats lie on the grid of a number's last place, or below its top place. -/
theorem rp_below {n A : Nat} (hA : Rp A) (h : A ≤ n) : A ≤ n / 2 ^ Eo n * 2 ^ Eo n := by
  obtain ⟨r, -, rfl⟩ := hA
  obtain ⟨m, hm, e⟩ := V_eo r
  have hp := Nat.two_pow_pos (Eo n)
  rcases Nat.eq_zero_or_pos (Eo n) with h0 | h0
  · rw [h0]; simp; exact h
  have ht := top_le n h0
  rcases Nat.lt_or_ge (eo r) (Eo n) with hl | hl
  · have h1 : V r ≤ 4503599627370496 * 2 ^ Eo n := by
      rw [e]
      have h2 : m * 2 ^ eo r ≤ 9007199254740992 * 2 ^ eo r := Nat.mul_le_mul_right _ (by omega)
      have h3 : 2 ^ (eo r + 1) ≤ 2 ^ Eo n := Nat.pow_le_pow_right (by omega) hl
      rw [Nat.pow_succ] at h3
      omega
    refine Nat.le_trans h1 (Nat.mul_le_mul_right _ ?_)
    exact (Nat.le_div_iff_mul_le hp).2 ht
  · have e2 : V r = (m * 2 ^ (eo r - Eo n)) * 2 ^ Eo n := by rw [e, Nat.mul_assoc, ← Nat.pow_add, show eo r - Eo n + Eo n = eo r by omega]
    rw [e2] at h ⊢
    exact Nat.mul_le_mul_right _ ((Nat.le_div_iff_mul_le hp).2 h)
theorem rp_above {n A : Nat} (hA : Rp A) (h : n < A) : (n / 2 ^ Eo n + 1) * 2 ^ Eo n ≤ A := by
  obtain ⟨r, -, rfl⟩ := hA
  obtain ⟨m, hm, e⟩ := V_eo r
  have hp := Nat.two_pow_pos (Eo n)
  rcases Nat.eq_zero_or_pos (Eo n) with h0 | h0
  · rw [h0]; simp; omega
  have ht := top_le n h0
  rcases Nat.lt_or_ge (eo r) (Eo n) with hl | hl
  · exfalso
    have h2 : m * 2 ^ eo r ≤ 9007199254740992 * 2 ^ eo r := Nat.mul_le_mul_right _ (by omega)
    have h3 : 2 ^ (eo r + 1) ≤ 2 ^ Eo n := Nat.pow_le_pow_right (by omega) hl
    rw [Nat.pow_succ] at h3
    omega
  · have e2 : V r = (m * 2 ^ (eo r - Eo n)) * 2 ^ Eo n := by rw [e, Nat.mul_assoc, ← Nat.pow_add, show eo r - Eo n + Eo n = eo r by omega]
    rw [e2] at h ⊢
    exact Nat.mul_le_mul_right _ ((Nat.div_lt_iff_lt_mul hp).2 h)
/-- No float is nearer. -/
theorem rdn_near {n A : Nat} (hA : Rp A) : ((n : Int) - rdn n).natAbs ≤ ((n : Int) - A).natAbs := by
  have hp := Nat.two_pow_pos (Eo n)
  have hd := Nat.div_add_mod n (2 ^ Eo n)
  have hr := Nat.mod_lt n hp
  have hsucc : (n / 2 ^ Eo n + 1) * 2 ^ Eo n = n / 2 ^ Eo n * 2 ^ Eo n + 2 ^ Eo n := Nat.succ_mul _ _
  rw [Nat.mul_comm] at hd
  unfold rdn
  rcases Nat.lt_or_ge n A with h | h
  · have h1 := rp_above hA h
    rcases rne_near n (2 ^ Eo n) hp with ⟨e, h2⟩ | ⟨e, h2⟩ <;> rw [e] <;> omega
  · have h1 := rp_below hA h
    rcases rne_near n (2 ^ Eo n) hp with ⟨e, h2⟩ | ⟨e, h2⟩ <;> rw [e] <;> omega
theorem rdn_grid (n : Nat) : ∃ k, rdn n = k * 2 ^ Eo n := ⟨_, rfl⟩
theorem rdn_half (n : Nat) : 2 * ((n : Int) - rdn n).natAbs ≤ 2 ^ Eo n := by
  have hp := Nat.two_pow_pos (Eo n)
  have hd := Nat.div_add_mod n (2 ^ Eo n)
  have hr := Nat.mod_lt n hp
  have hsucc : (n / 2 ^ Eo n + 1) * 2 ^ Eo n = n / 2 ^ Eo n * 2 ^ Eo n + 2 ^ Eo n := Nat.succ_mul _ _
  rw [Nat.mul_comm] at hd
  unfold rdn
  rcases rne_near n (2 ^ Eo n) hp with ⟨e, h2⟩ | ⟨e, h2⟩ <;> rw [e] <;> omega
theorem rdn_zero (n : Nat) (h : Eo n = 0) : rdn n = n := by unfold rdn; rw [h]; simp [rne_one]
end Fl
end Go.Proofs.Ytgdcahdnojaebaa
