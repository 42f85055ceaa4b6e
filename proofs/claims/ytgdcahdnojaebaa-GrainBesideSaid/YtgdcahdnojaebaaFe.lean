/- A sum of two floats, less the greater one, and what it lost, are floats. -/
import Derived.Test.YtgdcahdnojaebaaFd
namespace Go.Proofs.Ytgdcahdnojaebaa
namespace Fl
open Ieee

theorem rp_dvd {n e : Nat} (hd : 2 ^ e ∣ n) (hm : n ≤ 9007199254740992 * 2 ^ e) (hI : n ≤ V INF) : Rp n := by
  obtain ⟨k, hk⟩ := hd
  rw [Nat.mul_comm] at hk
  exact rp_grid hk (Nat.le_of_mul_le_mul_right (by rw [← hk]; exact hm) (Nat.two_pow_pos e)) hI
theorem rdn_dvd {n : Nat} (h : 2 ^ Eo n ∣ n) : rdn n = n := by
  have hp := Nat.two_pow_pos (Eo n)
  have h0 := Nat.mod_eq_zero_of_dvd h
  have hd := Nat.div_mul_cancel h
  unfold rdn
  rcases rne_near n (2 ^ Eo n) hp with ⟨e, h2⟩ | ⟨e, h2⟩
  · rw [e]; exact hd
  · omega
theorem rp_le {n : Nat} (h : Rp n) : n ≤ V INF := by obtain ⟨r, h1, rfl⟩ := h; exact V_le h1
theorem rp_zero : Rp 0 := ⟨0, Nat.zero_le _, V_zero⟩
theorem V_dvd (r : Nat) : 2 ^ eo r ∣ V r := by obtain ⟨m, -, e⟩ := V_eo r; exact ⟨m, by rw [e, Nat.mul_comm]⟩
theorem V_top (r : Nat) : V r ≤ 9007199254740992 * 2 ^ eo r := by
  obtain ⟨m, h, e⟩ := V_eo r; rw [e]; exact Nat.mul_le_mul_right _ (by omega)

theorem dek {A B x : Nat} (hA : Rp A) (hB : Rp B) (hBA : B ≤ A) (hx : x = A + B ∨ x + B = A) (hS : rdn x ≤ V INF) :
    Rp ((rdn x : Int) - A).natAbs ∧ Rp ((x : Int) - rdn x).natAbs ∧ ((x : Int) - rdn x).natAbs ≤ rdn x := by
  have nA := rdn_near (n := x) hA
  have n0 := rdn_near (n := x) rp_zero
  have hh := rdn_half x
  have iA := rp_le hA
  have hA2 := hA
  have hB2 := hB
  obtain ⟨r, hr, eA⟩ := hA
  obtain ⟨s, hs, eB⟩ := hB
  have hsr : s ≤ r := le_of_V (by omega)
  have he := eo_mono hsr
  have dA : 2 ^ eo r ∣ A := eA ▸ V_dvd r
  have dB : 2 ^ eo s ∣ B := eB ▸ V_dvd s
  have dA' : 2 ^ eo s ∣ A := Nat.dvd_trans (Nat.pow_dvd_pow 2 he) dA
  have tA : A ≤ 9007199254740992 * 2 ^ eo r := eA ▸ V_top r
  have tB : B ≤ 9007199254740992 * 2 ^ eo s := eB ▸ V_top s
  have dx : 2 ^ eo s ∣ x := by
    rcases hx with h | h
    · rw [h]; exact Nat.dvd_add dA' dB
    · have : x = A - B := by omega
      rw [this]; exact Nat.dvd_sub dA' dB
  have tx := top_le x
  have dS : 2 ^ Eo x ∣ rdn x := ⟨_, Nat.mul_comm _ _⟩
  by_cases hE : Eo x ≤ eo s
  · have e : rdn x = x := rdn_dvd (Nat.dvd_trans (Nat.pow_dvd_pow 2 hE) dx)
    rw [e]
    refine ⟨?_, by rw [Int.sub_self]; exact rp_zero, by rw [Int.sub_self]; exact Nat.zero_le _⟩
    rw [show ((x : Int) - A).natAbs = B by omega]
    exact hB2
  · have hE : eo s < Eo x := by omega
    have p2 : 2 * 2 ^ eo s ≤ 2 ^ Eo x := by
      have := Nat.pow_le_pow_right (n := 2) (by omega) (show eo s + 1 ≤ Eo x from hE)
      rw [Nat.pow_succ] at this; omega
    have gt := tx (by omega)
    have dS' : 2 ^ eo s ∣ rdn x := Nat.dvd_trans (Nat.pow_dvd_pow 2 (by omega)) dS
    have sub_dvd : ∀ {k a b : Nat}, k ∣ a → k ∣ b → k ∣ ((a : Int) - b).natAbs := by
      intro k a b h1 h2
      rcases Nat.le_total a b with h | h
      · rw [show ((a : Int) - b).natAbs = b - a by omega]; exact Nat.dvd_sub h2 h1
      · rw [show ((a : Int) - b).natAbs = a - b by omega]; exact Nat.dvd_sub h1 h2
    have hSx : 2 ^ Eo x ≤ rdn x := by
      unfold rdn
      have h1 : 1 ≤ x / 2 ^ Eo x := (Nat.le_div_iff_mul_le (Nat.two_pow_pos _)).2 (by omega)
      have h2 := le_rne x (2 ^ Eo x)
      exact Nat.le_mul_of_pos_left _ (by omega)
    refine ⟨?_, ?_, by omega⟩
    · by_cases hEa : eo r ≤ Eo x
      · have dSa : 2 ^ eo r ∣ rdn x := Nat.dvd_trans (Nat.pow_dvd_pow 2 hEa) dS
        refine rp_dvd (sub_dvd dSa dA) ?_ ?_
        · refine Nat.le_trans ?_ tA
          rcases hx with h | h
          · have n2 : rdn x ≤ 2 * A := by
              by_cases h2 : 2 * A ≤ V INF
              · have hr2 : Rp (2 * A) := rp_dvd (e := eo r + 1) (by rw [Nat.pow_succ, Nat.mul_comm]; exact Nat.mul_dvd_mul_left 2 dA) (by rw [Nat.pow_succ]; omega) h2
                have := rdn_near (n := x) hr2
                omega
              · omega
            omega
          · omega
        · omega
      · refine rp_dvd (e := Eo x) (sub_dvd dS (Nat.dvd_trans (Nat.pow_dvd_pow 2 (by omega)) dA)) ?_ ?_
        · omega
        · omega
    · refine rp_dvd (sub_dvd dx dS') ?_ ?_
      · omega
      · omega

theorem sg_natAbs (s : Bool) (n : Nat) : (sg s n).natAbs = n := by unfold sg; cases s <;> simp
/-- With signs. -/
theorem dekI {A B : Int} (hA : Rp A.natAbs) (hB : Rp B.natAbs) (h : B.natAbs ≤ A.natAbs) (hS : rdn (A + B).natAbs ≤ V INF) :
    Rp (sg (decide (A + B < 0)) (rdn (A + B).natAbs) - A).natAbs ∧ Rp (A + B - sg (decide (A + B < 0)) (rdn (A + B).natAbs)).natAbs ∧
    (A + B - sg (decide (A + B < 0)) (rdn (A + B).natAbs)).natAbs ≤ rdn (A + B).natAbs ∧
    ((sg (decide (A + B < 0)) (rdn (A + B).natAbs) - A).natAbs ≤ rdn (A + B).natAbs ∨ (sg (decide (A + B < 0)) (rdn (A + B).natAbs) - A).natAbs ≤ A.natAbs) := by
  obtain ⟨x, hx⟩ : ∃ x, (A + B).natAbs = x := ⟨_, rfl⟩
  rw [hx] at hS ⊢
  have hz : x = 0 → rdn x = 0 := fun e => by subst e; rfl
  obtain ⟨h1, h2, h3⟩ := dek (x := x) hA hB h (by omega) hS
  generalize rdn x = S at *
  unfold sg
  by_cases hn : A + B < 0
  · simp only [hn, decide_true, if_true]
    refine ⟨?_, ?_, ?_, ?_⟩
    · rw [show (-(S : Int) - A).natAbs = ((S : Int) - A.natAbs).natAbs by omega]; exact h1
    · rw [show (A + B - -(S : Int)).natAbs = ((x : Int) - S).natAbs by omega]; exact h2
    · rw [show (A + B - -(S : Int)).natAbs = ((x : Int) - S).natAbs by omega]; exact h3
    · omega
  · simp only [hn, decide_false, Bool.false_eq_true, if_false]
    rcases Nat.eq_zero_or_pos x with h0 | h0
    · have := hz h0
      subst this; subst h0
      refine ⟨?_, ?_, ?_, ?_⟩
      · rw [show (((0 : Nat) : Int) - A).natAbs = A.natAbs by omega]; exact hA
      · rw [show (A + B - ((0 : Nat) : Int)).natAbs = 0 by omega]; exact rp_zero
      · omega
      · omega
    · refine ⟨?_, ?_, ?_, ?_⟩
      · rw [show ((S : Int) - A).natAbs = ((S : Int) - A.natAbs).natAbs by omega]; exact h1
      · rw [show (A + B - (S : Int)).natAbs = ((x : Int) - S).natAbs by omega]; exact h2
      · rw [show (A + B - (S : Int)).natAbs = ((x : Int) - S).natAbs by omega]; exact h3
      · omega
end Fl
end Go.Proofs.Ytgdcahdnojaebaa
