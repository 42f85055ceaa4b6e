/- Samples: the three operations rise. -/
import Derived.Test.YtgdcahdnojaebaaFv
import Derived.Laws.FloatArith
namespace Go.Proofs.Ytgdcahdnojaebaa
namespace Fl
open Ieee

/-- 32768 as a word, and three times 2^51. -/
def KL : Nat := 4674736413210574848
def KW : Nat := 4843621399236968448
def s1 (x : Nat) : Nat := wd (ngb x) (rung (V (rg x)) (-1059))
theorem inf_1059 : rung (V INF) (-1059) = INF := by
  have h1 := rung_le (V INF) (-1059)
  have h2 : rung (V INF) (-1074) ≤ rung (V INF * 2 ^ 15) (-1074) := rung_mono _ (Nat.le_mul_of_pos_right _ (Nat.two_pow_pos _))
  rw [rung_V (Nat.le_refl _), rung_shift] at h2
  unfold INF at *; simp at h2; omega
theorem mul_KL {x : Nat} (h : IsN x) : double.mul x KL = some (s1 x) := by
  have hk : double.read KL = .number false 4503599627370496 (-37) := by decide
  unfold Format.mul s1
  rw [hk]
  rcases fin_or h with fx | ix
  · obtain ⟨m, e, hm, em⟩ := read_num fx
    rw [hm, ← em, rung_shift]
    show some (double.nearest (ngb x ^^ false) (m * 2 ^ 52) (-1074 + e + -37)) = _
    rw [nearest_eq, wd_eq, rung_shift, Bool.xor_false, show -1074 + (e : Int) + -37 + (52 : Nat) = -1059 + e by omega]
  · rw [read_inf ix, ix, inf_1059]
    show some (double.word (ngb x ^^ false) double.infRung) = _
    rw [wd_eq, show double.infRung = INF by decide, Bool.xor_false]
theorem s1_num (x : Nat) : IsN (s1 x) := isN_wd _ (rung_le _ _)
theorem s1_mono {x y : Nat} (h : sv x ≤ sv y) : sv (s1 x) ≤ sv (s1 y) := by
  unfold s1
  rw [sv_wd _ (rung_le _ _), sv_wd _ (rung_le _ _)]
  unfold sv sg at h
  unfold sg
  cases hx : ngb x <;> cases hy : ngb y <;> simp [hx, hy] at h ⊢
  · have := V_le (rung_mono (-1059) h); omega
  · have h1 : V (rg x) = 0 := by omega
    have h2 : V (rg y) = 0 := by omega
    rw [h1, h2]; simp [rung, V_zero]
  · have := V_le (rung_mono (-1059) h); omega

/-- An operation with a constant rises. -/
theorem op_mono {g : Nat → Nat} {D : Int} (hf : ∀ x, FinW x → sv (g x) = Rd (sv x + D)) (hi : ∀ x, rg x = INF → sv (g x) = sv x) {x y : Nat} (hx : IsN x) (hy : IsN y) (gx : IsN (g x)) (gy : IsN (g y)) (h : sv x ≤ sv y) : sv (g x) ≤ sv (g y) := by
  have b1 := sv_bd gx; have b2 := sv_bd gy; have hp := V_inf_pos
  rcases fin_or hx with fx | ix <;> rcases fin_or hy with fy | iy
  · rw [hf x fx, hf y fy]; exact Rd_mono (by omega)
  · have e := sv_inf iy
    have f := sv_fin fx
    rw [hi y iy]
    unfold sg at e; split at e <;> omega
  · have e := sv_inf ix
    have f := sv_fin fy
    rw [hi x ix]
    unfold sg at e; split at e <;> omega
  · rw [hi x ix, hi y iy]; exact h
theorem fin_KW : FinW KW := by unfold FinW rg KW INF; decide
def s2 (x : Nat) : Nat := if rg x = INF then wd (ngb x) INF else wd (sumS (ngb x) (ngb KW) (sv x + sv KW)) (rung (sv x + sv KW).natAbs (-1074))
def s3 (x : Nat) : Nat := if rg x = INF then wd (ngb x) INF else wd (sumS (ngb x) (!ngb KW) (sv x - sv KW)) (rung (sv x - sv KW).natAbs (-1074))
theorem add_KW {x : Nat} (h : IsN x) : double.add x KW = some (s2 x) := by
  unfold s2
  rcases fin_or h with fx | ix
  · rw [if_neg (by unfold FinW at fx; omega)]; exact add_fin fx fin_KW
  · rw [if_pos ix]; exact add_inf ix fin_KW
theorem sub_KW {x : Nat} (h : IsN x) : double.sub x KW = some (s3 x) := by
  unfold s3
  rcases fin_or h with fx | ix
  · rw [if_neg (by unfold FinW at fx; omega)]; exact sub_fin fx fin_KW
  · rw [if_pos ix]; exact sub_inf ix fin_KW
theorem s2_num (x : Nat) : IsN (s2 x) := by unfold s2; split <;> first | exact isN_wd _ (Nat.le_refl _) | exact isN_wd _ (rung_le _ _)
theorem s3_num (x : Nat) : IsN (s3 x) := by unfold s3; split <;> first | exact isN_wd _ (Nat.le_refl _) | exact isN_wd _ (rung_le _ _)
theorem s2_mono {x y : Nat} (hx : IsN x) (hy : IsN y) (h : sv x ≤ sv y) : sv (s2 x) ≤ sv (s2 y) := by
  refine op_mono (D := sv KW) (fun x hx => ?_) (fun x hx => ?_) hx hy (s2_num x) (s2_num y) h
  · unfold s2; rw [if_neg (by unfold FinW at hx; omega), sumS_sv]
  · unfold s2; rw [if_pos hx, sv_wd _ (Nat.le_refl _), sv_inf hx]
theorem s3_mono {x y : Nat} (hx : IsN x) (hy : IsN y) (h : sv x ≤ sv y) : sv (s3 x) ≤ sv (s3 y) := by
  refine op_mono (D := -sv KW) (fun x hx => ?_) (fun x hx => ?_) hx hy (s3_num x) (s3_num y) h
  · unfold s3; rw [if_neg (by unfold FinW at hx; omega), sumS_sv]; rfl
  · unfold s3; rw [if_pos hx, sv_wd _ (Nat.le_refl _), sv_inf hx]
/-- The level in samples, rounded to a whole one. -/
def near (x : Nat) : Nat := s3 (s2 (s1 x))
theorem near_num (x : Nat) : IsN (near x) := s3_num _
theorem near_mono {x y : Nat} (h : sv x ≤ sv y) : sv (near x) ≤ sv (near y) :=
  s3_mono (s2_num _) (s2_num _) (s2_mono (s1_num _) (s1_num _) (s1_mono h))

/-- 1 in least units. -/
def E74 : Nat := 1074
def P74 : Nat := 2 ^ E74
/-- Cut towards nought. -/
def tr (T : Int) : Int := sg (decide (T < 0)) (T.natAbs / P74)
theorem tr_mono {S T : Int} (h : S ≤ T) : tr S ≤ tr T := by
  unfold tr sg
  by_cases h1 : S < 0
  · by_cases h2 : T < 0
    · have := Nat.div_le_div_right (c := P74) (show T.natAbs ≤ S.natAbs by omega)
      generalize S.natAbs / P74 = a at *; generalize T.natAbs / P74 = b at *
      simp only [h1, h2, decide_true, if_true]; omega
    · generalize S.natAbs / P74 = a at *; generalize T.natAbs / P74 = b at *
      simp only [h1, h2, decide_true, decide_false, if_true, Bool.false_eq_true, if_false]; omega
  · have h2 : ¬ T < 0 := by omega
    have := Nat.div_le_div_right (c := P74) (show S.natAbs ≤ T.natAbs by omega)
    generalize S.natAbs / P74 = a at *; generalize T.natAbs / P74 = b at *
    simp only [h1, h2, decide_false, Bool.false_eq_true, if_false]; omega
theorem cut_zero (s : Bool) (n drop : Nat) : Toward.zero.cut s n drop = n / 2 ^ drop := by
  unfold Toward.cut
  simp only [Nat.one_shiftLeft]
  by_cases h : drop ≤ n.log2 + 2
  · rw [Nat.min_eq_left h]; rfl
  · rw [Nat.min_eq_right (by omega)]
    have hn : n < 2 ^ (n.log2 + 1) := Nat.lt_log2_self
    have h2 : 2 ^ (n.log2 + 1) ≤ 2 ^ (n.log2 + 2) := Nat.pow_le_pow_right (by omega) (by omega)
    have h3 : 2 ^ (n.log2 + 2) ≤ 2 ^ drop := Nat.pow_le_pow_right (by omega) (by omega)
    rw [Nat.div_eq_of_lt (by omega), Nat.div_eq_of_lt (by omega)]
    rfl
theorem toInt_eq {x : Nat} (h : FinW x) : (double.read x).toInt .zero = some (tr (sv x)) := by
  obtain ⟨m, e, hm, em⟩ := read_num h
  rw [hm]
  show some (signed _ (Toward.zero.cut _ _ _) 0) = _
  rw [signed_eq, cut_zero, show ((2 ^ 0 : Nat) : Int) = 1 from rfl, Int.mul_one]
  have e1 : (m <<< (-1074 + (e : Int)).toNat) / 2 ^ (-(-1074 + (e : Int))).toNat = V (rg x) / 2 ^ 1074 := by
    rw [← em, Nat.shiftLeft_eq]
    rcases Nat.le_total e 1074 with h | h
    · rw [show (-1074 + (e : Int)).toNat = 0 by omega, show (-(-1074 + (e : Int))).toNat = 1074 - e by omega, Nat.pow_zero, Nat.mul_one, show 1074 = (1074 - e) + e by omega, Nat.pow_add, Nat.mul_div_mul_right _ _ (Nat.two_pow_pos e), show 1074 - e + e - e = 1074 - e by omega]
    · rw [show (-1074 + (e : Int)).toNat = e - 1074 by omega, show (-(-1074 + (e : Int))).toNat = 0 by omega, Nat.pow_zero, Nat.div_one]
      conv => rhs; rw [show e = (e - 1074) + 1074 by omega, Nat.pow_add, ← Nat.mul_assoc, Nat.mul_div_cancel _ (Nat.two_pow_pos 1074)]
  rw [e1]
  unfold tr sv sg P74 E74
  generalize 2 ^ 1074 = P
  cases ngb x
  · have h1 : ¬ ((V (rg x) : Int) < 0) := by omega
    simp only [Bool.false_eq_true, if_false, decide_eq_false h1, Int.natAbs_natCast]
  · rcases Nat.eq_zero_or_pos (V (rg x)) with h0 | h0
    · simp [h0]
    · have h1 : -(V (rg x) : Int) < 0 := by omega
      simp only [if_true, decide_eq_true h1, Int.natAbs_neg, Int.natAbs_natCast]
end Fl
end Go.Proofs.Ytgdcahdnojaebaa
