/- Two: what a sum lost, and once more. -/
import Derived.Test.YtgdcahdnojaebaaFe
namespace Go.Proofs.Ytgdcahdnojaebaa
namespace Fl
open Ieee

def addw (x y : Nat) : Nat := wd (sumS (ngb x) (ngb y) (sv x + sv y)) (rung (sv x + sv y).natAbs (-1074))
def subw (x y : Nat) : Nat := wd (sumS (ngb x) (!ngb y) (sv x - sv y)) (rung (sv x - sv y).natAbs (-1074))
theorem sv_addw (x y : Nat) : sv (addw x y) = Rd (sv x + sv y) := sumS_sv _ _ _
theorem sv_subw (x y : Nat) : sv (subw x y) = Rd (sv x - sv y) := sumS_sv _ _ _
theorem rg_addw (x y : Nat) : rg (addw x y) = rung (sv x + sv y).natAbs (-1074) := rg_wd _ (rung_le _ _)
theorem rg_subw (x y : Nat) : rg (subw x y) = rung (sv x - sv y).natAbs (-1074) := rg_wd _ (rung_le _ _)
theorem addw_num (x y : Nat) : IsN (addw x y) := isN_wd _ (rung_le _ _)
theorem subw_num (x y : Nat) : IsN (subw x y) := isN_wd _ (rung_le _ _)
theorem sv_natAbs (x : Nat) : (sv x).natAbs = V (rg x) := sg_natAbs _ _
theorem rp_sv {x : Nat} (h : FinW x) : Rp (sv x).natAbs := ⟨rg x, Nat.le_of_lt h, (sv_natAbs x).symm⟩
theorem rung_rep {n : Nat} (h : Rp n) : V (rung n (-1074)) = n := by obtain ⟨r, h1, rfl⟩ := h; rw [rung_V h1]
theorem sg_self (T : Int) : sg (decide (T < 0)) T.natAbs = T := by
  unfold sg
  by_cases h : T < 0
  · simp only [h, decide_true, if_true]; omega
  · simp only [h, decide_false, Bool.false_eq_true, if_false]; omega
theorem rd_rep {T : Int} (h : Rp T.natAbs) : Rd T = T := by unfold Rd; rw [rung_rep h, sg_self]
theorem fin_of_V {x : Nat} (h : V (rg x) < V INF) : FinW x := by
  rcases Nat.lt_or_ge (rg x) INF with h1 | h1
  · exact h1
  · have := V_le h1; omega
theorem sub_rep {x y : Nat} (hx : FinW x) (hy : FinW y) (h : Rp (sv x - sv y).natAbs) (hl : (sv x - sv y).natAbs < V INF) :
    double.sub x y = some (subw x y) ∧ FinW (subw x y) ∧ sv (subw x y) = sv x - sv y :=
  ⟨sub_fin hx hy, fin_of_V (by rw [rg_subw, rung_rep h]; exact hl), by rw [sv_subw, rd_rep h]⟩
theorem sv_lt {x : Nat} (h : FinW x) : (sv x).natAbs < V INF := by rw [sv_natAbs]; exact V_fin h

/-- What a finite sum lost, with the greater one first. -/
theorem two_first {a b : Nat} (ha : FinW a) (hb : FinW b) (hab : V (rg b) ≤ V (rg a)) (hs : FinW (addw a b)) :
    double.sub (addw a b) a = some (subw (addw a b) a) ∧ FinW (subw (addw a b) a) ∧
    double.sub b (subw (addw a b) a) = some (subw b (subw (addw a b) a)) ∧ FinW (subw b (subw (addw a b) a)) ∧
    sv (subw b (subw (addw a b) a)) = sv a + sv b - sv (addw a b) ∧ V (rg (subw b (subw (addw a b) a))) ≤ V (rg (addw a b)) := by
  have hr : rung (sv a + sv b).natAbs (-1074) < INF := by have := hs; unfold FinW at this; rwa [rg_addw] at this
  have hV := V_rung hr
  have eS : sv (addw a b) = sg (decide (sv a + sv b < 0)) (rdn (sv a + sv b).natAbs) := by rw [sv_addw]; unfold Rd; rw [hV]
  have hSl := V_lt hr
  rw [hV] at hSl
  obtain ⟨d1, d2, d3, d4⟩ := dekI (rp_sv ha) (rp_sv hb) (by rw [sv_natAbs, sv_natAbs]; exact hab) (Nat.le_of_lt hSl)
  have la := sv_lt ha
  rw [← eS] at d1 d2 d3 d4
  obtain ⟨p1, p2, p3⟩ := sub_rep hs ha d1 (by omega)
  have e : sv b - sv (subw (addw a b) a) = sv a + sv b - sv (addw a b) := by rw [p3]; omega
  obtain ⟨q1, q2, q3⟩ := sub_rep hb p2 (by rw [e]; exact d2) (by rw [e]; omega)
  rw [e] at q3
  refine ⟨p1, p2, q1, q2, q3, ?_⟩
  rw [← sv_natAbs, ← sv_natAbs, q3]
  rw [show (sv (addw a b)).natAbs = rdn (sv a + sv b).natAbs by rw [eS, sg_natAbs]]
  exact d3
/-- The sum and what it lost, added again. -/
theorem two_again {s l : Nat} {T : Int} (hs : FinW s) (hl : FinW l) (hr : rung T.natAbs (-1074) < INF) (hT : Rd T = sv s) (hsl : sv s + sv l = T) :
    double.add s l = some (addw s l) ∧ FinW (addw s l) ∧ sv (addw s l) = sv s ∧
    double.sub (addw s l) s = some (subw (addw s l) s) ∧ FinW (subw (addw s l) s) ∧
    double.sub l (subw (addw s l) s) = some (subw l (subw (addw s l) s)) ∧ FinW (subw l (subw (addw s l) s)) ∧ sv (subw l (subw (addw s l) s)) = sv l := by
  have f1 : FinW (addw s l) := by unfold FinW; rw [rg_addw, hsl]; exact hr
  have e1 : sv (addw s l) = sv s := by rw [sv_addw, hsl, hT]
  have z : sv (addw s l) - sv s = 0 := by omega
  have hp := V_inf_pos
  obtain ⟨p1, p2, p3⟩ := sub_rep f1 hs (by rw [z]; exact rp_zero) (by rw [z]; exact hp)
  rw [z] at p3
  have z2 : sv l - sv (subw (addw s l) s) = sv l := by omega
  obtain ⟨q1, q2, q3⟩ := sub_rep hl p2 (by rw [z2]; exact rp_sv hl) (by rw [z2]; exact sv_lt hl)
  rw [z2] at q3
  exact ⟨add_fin hs hl, f1, e1, p1, p2, q1, q2, q3⟩
end Fl
end Go.Proofs.Ytgdcahdnojaebaa
