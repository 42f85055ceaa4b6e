/- Contracts, in this order: Two: what a sum lost, and once more. · Floats: a word without a sign as a whole number times a power of two; multiples by a power of two. · package math: Abs, IsInf. · package math: Inf, Copysign, Nextafter; package grain: Next. · package grain: unsigned, sides. · package grain: a third lies between two floats. · package math: normalize, Frexp, Ldexp of what has no sign, exactly. -/
import Derived.Test.YtgcgmplepcfbaaaGreatDoorBh01
import Derived.Laws.BitsAllLaws
/- Two: what a sum lost, and once more. -/
namespace Go.Proofs.YtgcgmplepcfbaaaGreatDoor
namespace Fl
open Ieee

def addw (x y : Nat) : Nat := wd (sumS (ngb x) (ngb y) (sv x + sv y)) (rung (sv x + sv y).natAbs (-1074))
def subw (x y : Nat) : Nat := wd (sumS (ngb x) (!ngb y) (sv x - sv y)) (rung (sv x - sv y).natAbs (-1074))
theorem sv_addw (x y : Nat) : sv (addw x y) = Rd (sv x + sv y) := sumS_sv _ _ _
theorem sv_subw (x y : Nat) : sv (subw x y) = Rd (sv x - sv y) := sumS_sv _ _ _
theorem rg_addw (x y : Nat) : rg (addw x y) = rung (sv x + sv y).natAbs (-1074) := rg_wd _ (rung_le _ _)
theorem rg_subw (x y : Nat) : rg (subw x y) = rung (sv x - sv y).natAbs (-1074) := rg_wd _ (rung_le _ _)
theorem addw_num (x y : Nat) : IsN (addw x y) := isN_wd _ (rung_le _ _)
theorem subw_num (x y : Nat) : IsN (subw x y) := isN_wd _ (rung_le _ _)
theorem sv_natAbs (x : Nat) : (sv x).natAbs = V (rg x) := sg_natAbs _ _
theorem rp_sv {x : Nat} (h : FinW x) : Rp (sv x).natAbs := ⟨rg x, Nat.le_of_lt h, (sv_natAbs x).symm⟩
theorem rung_rep {n : Nat} (h : Rp n) : V (rung n (-1074)) = n := by obtain ⟨r, h1, rfl⟩ := h; rw [rung_V h1]
theorem sg_self (T : Int) : sg (decide (T < 0)) T.natAbs = T := by
  unfold sg
  by_cases h : T < 0
  · simp only [h, decide_true, if_true]; omega
  · simp only [h, decide_false, Bool.false_eq_true, if_false]; omega
theorem rd_rep {T : Int} (h : Rp T.natAbs) : Rd T = T := by unfold Rd; rw [rung_rep h, sg_self]
theorem fin_of_V {x : Nat} (h : V (rg x) < V INF) : FinW x := by
  rcases Nat.lt_or_ge (rg x) INF with h1 | h1
  · exact h1
  · have := V_le h1; omega
theorem sub_rep {x y : Nat} (hx : FinW x) (hy : FinW y) (h : Rp (sv x - sv y).natAbs) (hl : (sv x - sv y).natAbs < V INF) :
    double.sub x y = some (subw x y) ∧ FinW (subw x y) ∧ sv (subw x y) = sv x - sv y :=
  ⟨sub_fin hx hy, fin_of_V (by rw [rg_subw, rung_rep h]; exact hl), by rw [sv_subw, rd_rep h]⟩
theorem sv_lt {x : Nat} (h : FinW x) : (sv x).natAbs < V INF := by rw [sv_natAbs]; exact V_fin h

/-- What a finite sum lost, with the greater one first. -/
theorem two_first {a b : Nat} (ha : FinW a) (hb : FinW b) (hab : V (rg b) ≤ V (rg a)) (hs : FinW (addw a b)) :
    double.sub (addw a b) a = some (subw (addw a b) a) ∧ FinW (subw (addw a b) a) ∧
    double.sub b (subw (addw a b) a) = some (subw b (subw (addw a b) a)) ∧ FinW (subw b (subw (addw a b) a)) ∧
    sv (subw b (subw (addw a b) a)) = sv a + sv b - sv (addw a b) ∧ V (rg (subw b (subw (addw a b) a))) ≤ V (rg (addw a b)) := by
  have hr : rung (sv a + sv b).natAbs (-1074) < INF := by have := hs; unfold FinW at this; rwa [rg_addw] at this
  have hV := V_rung hr
  have eS : sv (addw a b) = sg (decide (sv a + sv b < 0)) (rdn (sv a + sv b).natAbs) := by rw [sv_addw]; unfold Rd; rw [hV]
  have hSl := V_lt hr
  rw [hV] at hSl
  obtain ⟨d1, d2, d3, d4⟩ := dekI (rp_sv ha) (rp_sv hb) (by rw [sv_natAbs, sv_natAbs]; exact hab) (Nat.le_of_lt hSl)
  have la := sv_lt ha
  rw [← eS] at d1 d2 d3 d4
  obtain ⟨p1, p2, p3⟩ := sub_rep hs ha d1 (by omega)
  have e : sv b - sv (subw (addw a b) a) = sv a + sv b - sv (addw a b) := by rw [p3]; omega
  obtain ⟨q1, q2, q3⟩ := sub_rep hb p2 (by rw [e]; exact d2) (by rw [e]; omega)
  rw [e] at q3
  refine ⟨p1, p2, q1, q2, q3, ?_⟩
  rw [← sv_natAbs, ← sv_natAbs, q3]
  rw [show (sv (addw a b)).natAbs = rdn (sv a + sv b).natAbs by rw [eS, sg_natAbs]]
  exact d3
/-- The sum and what it lost, added again. -/
theorem two_again {s l : Nat} {T : Int} (hs : FinW s) (hl : FinW l) (hr : rung T.natAbs (-1074) < INF) (hT : Rd T = sv s) (hsl : sv s + sv l = T) :
    double.add s l = some (addw s l) ∧ FinW (addw s l) ∧ sv (addw s l) = sv s ∧
    double.sub (addw s l) s = some (subw (addw s l) s) ∧ FinW (subw (addw s l) s) ∧
    double.sub l (subw (addw s l) s) = some (subw l (subw (addw s l) s)) ∧ FinW (subw l (subw (addw s l) s)) ∧ sv (subw l (subw (addw s l) s)) = sv l := by
  have f1 : FinW (addw s l) := by unfold FinW; rw [rg_addw, hsl]; exact hr
  have e1 : sv (addw s l) = sv s := by rw [sv_addw, hsl, hT]
  have z : sv (addw s l) - sv s = 0 := by omega
  have hp := V_inf_pos
  obtain ⟨p1, p2, p3⟩ := sub_rep f1 hs (by rw [z]; exact rp_zero) (by rw [z]; exact hp)
  rw [z] at p3
  have z2 : sv l - sv (subw (addw s l) s) = sv l := by omega
  obtain ⟨q1, q2, q3⟩ := sub_rep hl p2 (by rw [z2]; exact rp_sv hl) (by rw [z2]; exact sv_lt hl)
  rw [z2] at q3
  exact ⟨add_fin hs hl, f1, e1, p1, p2, q1, q2, q3⟩
end Fl
end Go.Proofs.YtgcgmplepcfbaaaGreatDoor
/- Floats: a word without a sign as a whole number times a power of two; multiples by a power of two. -/
namespace Go.Proofs.YtgcgmplepcfbaaaGreatDoor
namespace Fl
open Ieee

theorem mul_pow2 {x : Nat} (h : FinW x) {C : Nat} (k : Int) (hk : double.read C = .number false 4503599627370496 (k - 52)) : double.mul C x = some (wd (ngb x) (rung (V (rg x)) (-1074 + k))) := by
  unfold Format.mul
  rw [hk]
  obtain ⟨m, e, hm, em⟩ := read_num h
  rw [hm, ← em, rung_shift]
  show some (double.nearest (false ^^ ngb x) (4503599627370496 * m) (k - 52 + (-1074 + (e : Int)))) = _
  rw [nearest_eq, wd_eq, Nat.mul_comm, show (4503599627370496 : Nat) = 2 ^ 52 from rfl, rung_shift, Bool.false_xor, show k - 52 + (-1074 + (e : Int)) + (52 : Nat) = -1074 + k + e by omega]
theorem mul_pow2' {x : Nat} (h : FinW x) {C : Nat} (k : Int) (hk : double.read C = .number false 4503599627370496 (k - 52)) : double.mul x C = some (wd (ngb x) (rung (V (rg x)) (-1074 + k))) := by
  unfold Format.mul
  rw [hk]
  obtain ⟨m, e, hm, em⟩ := read_num h
  rw [hm, ← em, rung_shift]
  show some (double.nearest (ngb x ^^ false) (m * 4503599627370496) (-1074 + (e : Int) + (k - 52))) = _
  rw [nearest_eq, wd_eq, show (4503599627370496 : Nat) = 2 ^ 52 from rfl, rung_shift, Bool.xor_false, show -1074 + (e : Int) + (k - 52) + (52 : Nat) = -1074 + k + e by omega]
theorem read_52 : double.read 4841369599423283200 = .number false 4503599627370496 (52 - 52) := by decide
theorem read_1 : double.read 4607182418800017408 = .number false 4503599627370496 (0 - 52) := by decide
theorem rg_self {r : Nat} (h : r < INF) : rg r = r := by unfold rg INF at *; omega
theorem ngb_self {r : Nat} (h : r < INF) : ngb r = false := by unfold ngb INF at *; simp; omega
theorem fin_self {r : Nat} (h : r < INF) : FinW r := by unfold FinW; rw [rg_self h]; exact h
theorem wd_false (r : Nat) : wd false r = r := rfl
/-- One times a word. -/
theorem mul_one_w {r : Nat} (h : r < INF) : double.mul 4607182418800017408 r = some r := by
  rw [mul_pow2 (fin_self h) 0 read_1, rg_self h, ngb_self h, Int.add_zero, rung_V (Nat.le_of_lt h), wd_false]
/-- The word with 52 places below its first digit, of the same number but for 2^52 where it lacked some. -/
def nrm (r : Nat) : Nat := if r < 4503599627370496 then rung (r * 2 ^ 52) (-1074) else r
def nrk (r : Nat) : Int := if r < 4503599627370496 then -52 else 0
theorem mul_52 {r : Nat} (h : r < 4503599627370496) : double.mul r 4841369599423283200 = some (nrm r) := by
  have hI : r < INF := by unfold INF; omega
  rw [mul_pow2' (fin_self hI) 52 read_52, rg_self hI, ngb_self hI]
  have hV : V r = r := by unfold V; rw [if_pos h]
  have hn : nrm r = rung (r * 2 ^ 52) (-1074) := by unfold nrm; rw [if_pos h]
  rw [hV, hn, rung_shift, wd_false]
  congr 2
theorem nrm_is {r : Nat} (h0 : 0 < r) (h : r < INF) : 4503599627370496 ≤ nrm r ∧ nrm r < INF ∧ V (nrm r) = V r * 2 ^ (-nrk r).toNat := by
  unfold nrm nrk
  by_cases hr : r < 4503599627370496
  · rw [if_pos hr, if_pos hr]
    have hV : V r = r := by unfold V; rw [if_pos hr]
    have hb : V 270215977642229760 < V INF := V_lt (by unfold INF; omega)
    have hbe : V 270215977642229760 = 2596148429267413814265248164610048 := by decide
    have hI : r * 2 ^ 52 < V INF := by
      have : r * 2 ^ 52 < 2596148429267413814265248164610048 := by omega
      omega
    have hR : Rp (r * 2 ^ 52) := rp_grid (m := r) (e := 52) rfl (by omega) (Nat.le_of_lt hI)
    have hv := rung_rep hR
    refine ⟨le_of_V ?_, ?_, ?_⟩
    · rw [hv, show V 4503599627370496 = 4503599627370496 by decide]; omega
    · rcases Nat.lt_or_ge (rung (r * 2 ^ 52) (-1074)) INF with h1 | h1
      · exact h1
      · have := V_le h1; rw [hv] at this; omega
    · rw [hv, hV]; rfl
  · rw [if_neg hr, if_neg hr]
    exact ⟨by omega, h, by simp⟩
/-- The digits of a word, and where they stand. -/
def mnt (r : Nat) : Nat := 4503599627370496 + nrm r % 4503599627370496
def unt (r : Nat) : Int := nrk r + (nrm r / 4503599627370496 : Nat) - 1
theorem mnt_bd (r : Nat) : 4503599627370496 ≤ mnt r ∧ mnt r < 9007199254740992 := by unfold mnt; omega
theorem V_mnt {r : Nat} (h0 : 0 < r) (h : r < INF) : V r * 2 ^ (-unt r).toNat = mnt r * 2 ^ (unt r).toNat ∧ -52 ≤ unt r ∧ unt r ≤ 2045 := by
  obtain ⟨h1, h2, h3⟩ := nrm_is h0 h
  have hV : V (nrm r) = mnt r * 2 ^ (nrm r / 4503599627370496 - 1) := by unfold mnt; conv => lhs; unfold V; rw [if_neg (by omega)]
  rw [hV] at h3
  have hb : 1 ≤ nrm r / 4503599627370496 ∧ nrm r / 4503599627370496 ≤ 2046 := by unfold INF at h2; omega
  unfold unt
  have hk : nrk r = 0 ∨ nrk r = -52 := by unfold nrk; split <;> simp
  generalize nrm r / 4503599627370496 = E at *
  rcases hk with hk | hk
  · rw [hk] at h3 ⊢
    refine ⟨?_, by omega, by omega⟩
    rw [show (-(0 + (E : Int) - 1)).toNat = 0 by omega, show (0 + (E : Int) - 1).toNat = E - 1 by omega]
    simpa using h3.symm
  · rw [hk] at h3 ⊢
    refine ⟨?_, by omega, by omega⟩
    rw [show (-(-52 : Int)).toNat = 52 by decide] at h3
    rcases Nat.le_total (E - 1) 52 with hE | hE
    · rw [show (-(-52 + (E : Int) - 1)).toNat = 52 - (E - 1) by omega, show (-52 + (E : Int) - 1).toNat = 0 by omega]
      have e : 2 ^ 52 = 2 ^ (52 - (E - 1)) * 2 ^ (E - 1) := by rw [← Nat.pow_add]; congr 1; omega
      rw [e, ← Nat.mul_assoc] at h3
      have := Nat.eq_of_mul_eq_mul_right (Nat.pow_pos (by omega)) h3
      omega
    · rw [show (-(-52 + (E : Int) - 1)).toNat = 0 by omega, show (-52 + (E : Int) - 1).toNat = E - 1 - 52 by omega]
      have e : 2 ^ (E - 1) = 2 ^ (E - 1 - 52) * 2 ^ 52 := by rw [← Nat.pow_add]; congr 1; omega
      rw [e, ← Nat.mul_assoc] at h3
      have := Nat.eq_of_mul_eq_mul_right (Nat.pow_pos (by omega)) h3
      omega
theorem and_keep {r : Nat} (h : r < INF) : r &&& 9227875636482146303 = r % 4503599627370496 := by
  have h1 : r < 2 ^ 63 := by unfold INF at h; omega
  have h2 : r &&& 9227875636482146303 = (r &&& 9227875636482146303) % 2 ^ 63 := (Nat.mod_eq_of_lt (Nat.lt_of_le_of_lt Nat.and_le_left h1)).symm
  rw [h2, Nat.and_mod_two_pow, show 9227875636482146303 % 2 ^ 63 = 2 ^ 52 - 1 by decide, Nat.and_two_pow_sub_one_eq_mod, Nat.mod_eq_of_lt h1]
theorem or_pack {m k : Nat} (h : m < 4503599627370496) : m ||| (k * 4503599627370496) = k * 4503599627370496 + m := by
  rw [Nat.or_comm, show k * 4503599627370496 = 2 ^ 52 * k by omega]
  exact (Nat.two_pow_add_eq_or_of_lt h k).symm
end Fl
end Go.Proofs.YtgcgmplepcfbaaaGreatDoor
/- package math: Abs, IsInf. -/
namespace Go.Proofs.YtgcgmplepcfbaaaGreatDoor
open Go.RowKit Ieee Fl

theorem abs_bits (x : Nat) (hx : x < 18446744073709551616) : bits .andNot .u64 (x : Int) 9223372036854775808 = (rg x : Int) := by
  have h := u64_andNot_nat x 9223372036854775808 hx (by omega)
  rw [show ((9223372036854775808 : Nat) : Int) = 9223372036854775808 from rfl] at h
  rw [h, show 18446744073709551615 - 9223372036854775808 = 2 ^ 63 - 1 by decide, Nat.and_two_pow_sub_one_eq_mod]
  rfl
theorem abs_any (x : Nat) (hx : x < 18446744073709551616) (w : World) : Calls Tryz.prog 155 #[.float .f64 x] w fun e w' => e = .returned (.float .f64 (rg x)) ∧ w = w' := by
  have hb := abs_bits x hx
  have ht : ((rg x : Nat) : Int).toNat = rg x := Int.toNat_natCast _
  go_enter Tryz.func155, Tryz.ntmps155
  go_wp2
  go_ret
  exact ⟨rfl, rfl⟩
theorem rg_lt (x : Nat) : rg x < 9223372036854775808 := by unfold rg; omega
theorem rg_rg (x : Nat) : rg (rg x) = rg x := by unfold rg; omega
theorem ngb_rg (x : Nat) : ngb (rg x) = false := by have := rg_lt x; unfold ngb; simp; omega
theorem sv_rg (x : Nat) : sv (rg x) = V (rg x) := by unfold sv sg; rw [ngb_rg, rg_rg]; rfl
def MAXF : Nat := 9218868437227405311
theorem sv_MAXF : sv MAXF = V (INF - 1) := by
  unfold sv sg; rw [show ngb MAXF = false by decide, show rg MAXF = INF - 1 by decide]; rfl
theorem isInf_fin {x : Nat} (hx : x < 18446744073709551616) (h : FinW x) (w : World) : Calls Tryz.prog 52 #[.float .f64 x, .int .i64 0] w fun e w' => e = .returned (.bool false) ∧ w = w' := by
  have g := gt_spell (x := rg x) (y := MAXF) (by unfold IsN; rw [rg_rg]; exact Nat.le_of_lt h) (by unfold IsN; decide)
  have hd : ¬ sv MAXF < sv (rg x) := by
    rw [sv_MAXF, sv_rg]
    have := V_le (r := rg x) (s := INF - 1) (by unfold FinW at h; omega)
    omega
  rw [decide_eq_false hd] at g
  unfold MAXF at g
  clear hd
  go_enter Tryz.func52, Tryz.ntmps52
  go_wp2_with (go_at_call 155; refine (abs_any x hx _).mono ?_; rintro e w' ⟨rfl, rfl⟩)
  go_ret
  exact ⟨rfl, rfl⟩
theorem isInf_inf {x : Nat} (hx : x < 18446744073709551616) (h : rg x = INF) (w : World) : Calls Tryz.prog 52 #[.float .f64 x, .int .i64 0] w fun e w' => e = .returned (.bool true) ∧ w = w' := by
  have g := gt_spell (x := rg x) (y := MAXF) (by unfold IsN; rw [rg_rg, h]; exact Nat.le_refl _) (by unfold IsN; decide)
  have hd : sv MAXF < sv (rg x) := by
    rw [sv_MAXF, sv_rg, h]
    have := V_lt (r := INF - 1) (s := INF) (by unfold INF; omega)
    omega
  rw [decide_eq_true hd] at g
  unfold MAXF at g
  clear hd
  go_enter Tryz.func52, Tryz.ntmps52
  go_wp2_with (go_at_call 155; refine (abs_any x hx _).mono ?_; rintro e w' ⟨rfl, rfl⟩)
  go_ret
  exact ⟨rfl, rfl⟩
theorem isInf_nan {x : Nat} (hx : x < 18446744073709551616) (h : ¬ IsN x) (w : World) : Calls Tryz.prog 52 #[.float .f64 x, .int .i64 0] w fun e w' => e = .returned (.bool false) ∧ w = w' := by
  have g : (FloatKind.f64.format.order (rg x) 9218868437227405311 == some .gt) = false := by
    show (double.order (rg x) _ == some .gt) = false
    rw [order_nan (x := rg x) (by unfold IsN at *; rw [rg_rg]; exact h)]; rfl
  go_enter Tryz.func52, Tryz.ntmps52
  go_wp2_with (go_at_call 155; refine (abs_any x hx _).mono ?_; rintro e w' ⟨rfl, rfl⟩)
  go_ret
  exact ⟨rfl, rfl⟩
end Go.Proofs.YtgcgmplepcfbaaaGreatDoor
/- package math: Inf, Copysign, Nextafter; package grain: Next. -/
namespace Go.Proofs.YtgcgmplepcfbaaaGreatDoor
open Go.RowKit Ieee Fl

def PINF : Nat := 9218868437227405312
def NINF : Nat := 18442240474082181120
theorem inf_pos (w : World) : Calls Tryz.prog 64 #[.int .i64 1] w fun e w' => e = .returned (.float .f64 9218868437227405312) ∧ w = w' := by
  go_enter Tryz.func64, Tryz.ntmps64
  go_wp2
  go_ret
  exact ⟨rfl, rfl⟩
theorem inf_neg (w : World) : Calls Tryz.prog 64 #[.int .i64 (-1)] w fun e w' => e = .returned (.float .f64 18442240474082181120) ∧ w = w' := by
  go_enter Tryz.func64, Tryz.ntmps64
  go_wp2
  go_ret
  exact ⟨rfl, rfl⟩
theorem copysign_pos (w : World) : Calls Tryz.prog 262 #[.float .f64 1, .float .f64 9218868437227405312] w fun e w' => e = .returned (.float .f64 1) ∧ w = w' := by
  go_enter Tryz.func262, Tryz.ntmps262
  go_wp2
  go_ret
  exact ⟨by kernel_rfl, rfl⟩
theorem copysign_neg (w : World) : Calls Tryz.prog 262 #[.float .f64 1, .float .f64 18442240474082181120] w fun e w' => e = .returned (.float .f64 9223372036854775809) ∧ w = w' := by
  go_enter Tryz.func262, Tryz.ntmps262
  go_wp2
  go_ret
  exact ⟨by kernel_rfl, rfl⟩
theorem nx_same {x y : Nat} (hx : IsN x) (hy : IsN y) (e1 : (FloatKind.f64.format.order x y == some .eq) = true) (w : World) : Calls Tryz.prog 351 #[.float .f64 x, .float .f64 y] w fun e w' => e = .returned (.float .f64 x) ∧ w = w' := by
  go_enter Tryz.func351, Tryz.ntmps351
  go_wp2_with (first | (go_at_call 51; (first | with_reducible refine (isNaN_no hx _).mono ?_ | with_reducible refine (isNaN_no hy _).mono ?_); rintro e w' ⟨rfl, rfl⟩))
  go_ret
  exact ⟨rfl, rfl⟩
theorem nx_zero_pos {x : Nat} (hx : IsN x) (e1 : (FloatKind.f64.format.order x 9218868437227405312 == some .eq) = false) (e2 : (FloatKind.f64.format.order x 0 == some .eq) = true) (w : World) : Calls Tryz.prog 351 #[.float .f64 x, .float .f64 9218868437227405312] w fun e w' => e = .returned (.float .f64 1) ∧ w = w' := by
  have hy : IsN 9218868437227405312 := by unfold IsN; decide
  go_enter Tryz.func351, Tryz.ntmps351
  go_wp2_with (first | (go_at_call 51; (first | with_reducible refine (isNaN_no hx _).mono ?_ | with_reducible refine (isNaN_no hy _).mono ?_); rintro e w' ⟨rfl, rfl⟩) | (go_at_call 262; refine (copysign_pos _).mono ?_; rintro e w' ⟨rfl, rfl⟩))
  go_ret
  exact ⟨rfl, rfl⟩
theorem nx_zero_neg {x : Nat} (hx : IsN x) (e1 : (FloatKind.f64.format.order x 18442240474082181120 == some .eq) = false) (e2 : (FloatKind.f64.format.order x 0 == some .eq) = true) (w : World) : Calls Tryz.prog 351 #[.float .f64 x, .float .f64 18442240474082181120] w fun e w' => e = .returned (.float .f64 9223372036854775809) ∧ w = w' := by
  have hy : IsN 18442240474082181120 := by unfold IsN; decide
  go_enter Tryz.func351, Tryz.ntmps351
  go_wp2_with (first | (go_at_call 51; (first | with_reducible refine (isNaN_no hx _).mono ?_ | with_reducible refine (isNaN_no hy _).mono ?_); rintro e w' ⟨rfl, rfl⟩) | (go_at_call 262; refine (copysign_neg _).mono ?_; rintro e w' ⟨rfl, rfl⟩))
  go_ret
  exact ⟨rfl, rfl⟩
theorem nx_up_true {x y : Nat} (hx : IsN x) (hy : IsN y) (e1 : (FloatKind.f64.format.order x y == some .eq) = false) (e2 : (FloatKind.f64.format.order x 0 == some .eq) = false) (e3 : (FloatKind.f64.format.order y x == some .gt) = true) (e4 : (FloatKind.f64.format.order x 0 == some .gt) = true) (hl : x + 1 < 18446744073709551616) (w : World) : Calls Tryz.prog 351 #[.float .f64 x, .float .f64 y] w fun e w' => e = .returned (.float .f64 (x + 1)) ∧ w = w' := by
  have ht : ((x : Int) + 1).toNat = x + 1 := by omega
  go_enter Tryz.func351, Tryz.ntmps351
  go_wp2_with (first | (go_at_call 51; (first | with_reducible refine (isNaN_no hx _).mono ?_ | with_reducible refine (isNaN_no hy _).mono ?_); rintro e w' ⟨rfl, rfl⟩))
  go_ret
  exact ⟨rfl, rfl⟩
theorem nx_dn_true {x y : Nat} (hx : IsN x) (hy : IsN y) (e1 : (FloatKind.f64.format.order x y == some .eq) = false) (e2 : (FloatKind.f64.format.order x 0 == some .eq) = false) (e3 : (FloatKind.f64.format.order y x == some .gt) = true) (e4 : (FloatKind.f64.format.order x 0 == some .gt) = false) (h0 : 1 ≤ x) (hl : x < 18446744073709551616) (w : World) : Calls Tryz.prog 351 #[.float .f64 x, .float .f64 y] w fun e w' => e = .returned (.float .f64 (x - 1)) ∧ w = w' := by
  have ht : ((x : Int) - 1).toNat = x - 1 := by omega
  go_enter Tryz.func351, Tryz.ntmps351
  go_wp2_with (first | (go_at_call 51; (first | with_reducible refine (isNaN_no hx _).mono ?_ | with_reducible refine (isNaN_no hy _).mono ?_); rintro e w' ⟨rfl, rfl⟩))
  go_ret
  exact ⟨rfl, rfl⟩
theorem nx_up_false {x y : Nat} (hx : IsN x) (hy : IsN y) (e1 : (FloatKind.f64.format.order x y == some .eq) = false) (e2 : (FloatKind.f64.format.order x 0 == some .eq) = false) (e3 : (FloatKind.f64.format.order y x == some .gt) = false) (e4 : (FloatKind.f64.format.order x 0 == some .gt) = false) (hl : x + 1 < 18446744073709551616) (w : World) : Calls Tryz.prog 351 #[.float .f64 x, .float .f64 y] w fun e w' => e = .returned (.float .f64 (x + 1)) ∧ w = w' := by
  have ht : ((x : Int) + 1).toNat = x + 1 := by omega
  go_enter Tryz.func351, Tryz.ntmps351
  go_wp2_with (first | (go_at_call 51; (first | with_reducible refine (isNaN_no hx _).mono ?_ | with_reducible refine (isNaN_no hy _).mono ?_); rintro e w' ⟨rfl, rfl⟩))
  go_ret
  exact ⟨rfl, rfl⟩
theorem nx_dn_false {x y : Nat} (hx : IsN x) (hy : IsN y) (e1 : (FloatKind.f64.format.order x y == some .eq) = false) (e2 : (FloatKind.f64.format.order x 0 == some .eq) = false) (e3 : (FloatKind.f64.format.order y x == some .gt) = false) (e4 : (FloatKind.f64.format.order x 0 == some .gt) = true) (h0 : 1 ≤ x) (hl : x < 18446744073709551616) (w : World) : Calls Tryz.prog 351 #[.float .f64 x, .float .f64 y] w fun e w' => e = .returned (.float .f64 (x - 1)) ∧ w = w' := by
  have ht : ((x : Int) - 1).toNat = x - 1 := by omega
  go_enter Tryz.func351, Tryz.ntmps351
  go_wp2_with (first | (go_at_call 51; (first | with_reducible refine (isNaN_no hx _).mono ?_ | with_reducible refine (isNaN_no hy _).mono ?_); rintro e w' ⟨rfl, rfl⟩))
  go_ret
  exact ⟨rfl, rfl⟩
theorem sv_PINF : sv PINF = V INF := by
  unfold sv sg; rw [show ngb PINF = false by decide, show rg PINF = INF by decide]; rfl
theorem sv_NINF : sv NINF = -(V INF : Int) := by
  unfold sv sg; rw [show ngb NINF = true by decide, show rg NINF = INF by decide]; rfl
theorem isN_PINF : IsN PINF := by unfold IsN; decide
theorem isN_NINF : IsN NINF := by unfold IsN; decide
theorem isN_0 : IsN 0 := by unfold IsN; decide
theorem sv_0 : sv 0 = 0 := by decide
/-- The next word upwards; downwards. -/
def nextU (x : Nat) : Nat := if sv x = sv PINF then x else if sv x = 0 then 1 else if 0 < sv x then x + 1 else x - 1
def nextD (x : Nat) : Nat := if sv x = sv NINF then x else if sv x = 0 then 9223372036854775809 else if 0 < sv x then x - 1 else x + 1
theorem ngb_pos {x : Nat} (h : 0 < sv x) : ngb x = false := by unfold sv sg at h; cases hn : ngb x <;> simp [hn] at h ⊢; omega
theorem ngb_neg {x : Nat} (h : sv x < 0) : ngb x = true := by unfold sv sg at h; cases hn : ngb x <;> simp [hn] at h ⊢; omega
theorem word_pos {x : Nat} (hx : x < 18446744073709551616) (h : ngb x = false) : x = rg x ∧ x < 9223372036854775808 := by
  unfold ngb at h; unfold rg; simp at h; omega
theorem word_neg {x : Nat} (hx : x < 18446744073709551616) (h : ngb x = true) : x = 9223372036854775808 + rg x := by
  unfold ngb at h; unfold rg; simp at h; omega
theorem nextafter_up {x : Nat} (hx : IsN x) (h64 : x < 18446744073709551616) (w : World) : Calls Tryz.prog 351 #[.float .f64 x, .float .f64 9218868437227405312] w fun e w' => e = .returned (.float .f64 (nextU x)) ∧ w = w' := by
  have bd := sv_bd hx
  have q1 := eq_spell hx isN_PINF
  have q2 := eq_spell hx isN_0
  have q3 := gt_spell isN_PINF hx
  have q4 := gt_spell hx isN_0
  unfold nextU
  rw [sv_0] at q2 q4
  rw [sv_PINF] at q1 q3 ⊢
  unfold PINF at q1 q3
  by_cases h1 : sv x = (V INF : Int)
  · rw [if_pos h1]; rw [decide_eq_true h1] at q1
    exact nx_same hx (by unfold IsN; decide) q1 w
  rw [if_neg h1]; rw [decide_eq_false h1] at q1
  by_cases h2 : sv x = 0
  · rw [if_pos h2]; rw [decide_eq_true h2] at q2
    exact nx_zero_pos hx q1 q2 w
  rw [if_neg h2]; rw [decide_eq_false h2] at q2
  rw [decide_eq_true (show sv x < (V INF : Int) by omega)] at q3
  by_cases h3 : 0 < sv x
  · rw [if_pos h3]; rw [decide_eq_true h3] at q4
    have := (word_pos h64 (ngb_pos h3)).2
    exact nx_up_true hx (by unfold IsN; decide) q1 q2 q3 q4 (by omega) w
  · rw [if_neg h3]; rw [decide_eq_false h3] at q4
    have := word_neg h64 (ngb_neg (x := x) (by omega))
    exact nx_dn_true hx (by unfold IsN; decide) q1 q2 q3 q4 (by omega) h64 w
theorem nextafter_dn {x : Nat} (hx : IsN x) (h64 : x < 18446744073709551616) (w : World) : Calls Tryz.prog 351 #[.float .f64 x, .float .f64 18442240474082181120] w fun e w' => e = .returned (.float .f64 (nextD x)) ∧ w = w' := by
  have bd := sv_bd hx
  have q1 := eq_spell hx isN_NINF
  have q2 := eq_spell hx isN_0
  have q3 := gt_spell isN_NINF hx
  have q4 := gt_spell hx isN_0
  unfold nextD
  rw [sv_0] at q2 q4
  rw [sv_NINF] at q1 q3 ⊢
  unfold NINF at q1 q3
  by_cases h1 : sv x = -(V INF : Int)
  · rw [if_pos h1]; rw [decide_eq_true h1] at q1
    exact nx_same hx (by unfold IsN; decide) q1 w
  rw [if_neg h1]; rw [decide_eq_false h1] at q1
  by_cases h2 : sv x = 0
  · rw [if_pos h2]; rw [decide_eq_true h2] at q2
    exact nx_zero_neg hx q1 q2 w
  rw [if_neg h2]; rw [decide_eq_false h2] at q2
  rw [decide_eq_false (show ¬ sv x < -(V INF : Int) by omega)] at q3
  by_cases h3 : 0 < sv x
  · rw [if_pos h3]; rw [decide_eq_true h3] at q4
    have hw := word_pos h64 (ngb_pos h3)
    have : x ≠ 0 := by intro e; subst e; exact h2 (by decide)
    exact nx_dn_false hx (by unfold IsN; decide) q1 q2 q3 q4 (by omega) h64 w
  · rw [if_neg h3]; rw [decide_eq_false h3] at q4
    have := word_neg h64 (ngb_neg (x := x) (by omega))
    unfold IsN INF at hx
    exact nx_up_false (by unfold IsN INF; exact hx) (by unfold IsN; decide) q1 q2 q3 q4 (by omega) w
theorem next_up {x : Nat} (hx : IsN x) (h64 : x < 18446744073709551616) (w : World) : Calls Tryz.prog 257 #[.float .f64 x, .bool true] w fun e w' => e = .returned (.float .f64 (nextU x)) ∧ w = w' := by
  go_enter Tryz.func257, Tryz.ntmps257
  go_wp2_with (first | (go_at_call 64; refine (inf_pos _).mono ?_; rintro e w' ⟨rfl, rfl⟩) | (go_at_call 351; refine (nextafter_up hx h64 _).mono ?_; rintro e w' ⟨rfl, rfl⟩))
  go_ret
  exact ⟨rfl, rfl⟩
theorem next_dn {x : Nat} (hx : IsN x) (h64 : x < 18446744073709551616) (w : World) : Calls Tryz.prog 257 #[.float .f64 x, .bool false] w fun e w' => e = .returned (.float .f64 (nextD x)) ∧ w = w' := by
  go_enter Tryz.func257, Tryz.ntmps257
  go_wp2_with (first | (go_at_call 64; refine (inf_neg _).mono ?_; rintro e w' ⟨rfl, rfl⟩) | (go_at_call 351; refine (nextafter_dn hx h64 _).mono ?_; rintro e w' ⟨rfl, rfl⟩))
  go_ret
  exact ⟨rfl, rfl⟩
end Go.Proofs.YtgcgmplepcfbaaaGreatDoor
/- package grain: unsigned, sides. -/
namespace Go.Proofs.YtgcgmplepcfbaaaGreatDoor
open Go.RowKit Ieee Fl

/-- Without the sign of a nought. -/
def unsg (x : Nat) : Nat := if sv x = 0 then 0 else x
theorem unsigned_any {x : Nat} (hx : IsN x) (w : World) : Calls Tryz.prog 258 #[.float .f64 x] w fun e w' => e = .returned (.float .f64 (unsg x)) ∧ w = w' := by
  have q2 := eq_spell hx isN_0
  rw [sv_0] at q2
  unfold unsg
  by_cases h : sv x = 0
  · rw [if_pos h]; rw [decide_eq_true h] at q2
    clear h
    go_enter Tryz.func258, Tryz.ntmps258
    go_wp2
    go_ret
    exact ⟨rfl, rfl⟩
  · rw [if_neg h]; rw [decide_eq_false h] at q2
    clear h
    go_enter Tryz.func258, Tryz.ntmps258
    go_wp2
    go_ret
    exact ⟨rfl, rfl⟩
theorem nextU_num {x : Nat} (hx : IsN x) (h64 : x < 18446744073709551616) : IsN (nextU x) ∧ nextU x < 18446744073709551616 := by
  unfold nextU
  have bd := sv_bd hx
  rw [sv_PINF]
  split
  · exact ⟨hx, h64⟩
  · split
    · exact ⟨by unfold IsN; decide, by omega⟩
    · split
      · rename_i h1 h2 h3
        have hn := word_pos h64 (ngb_pos h3)
        have hlt : rg x < INF := by
          rcases fin_or hx with h | h
          · exact h
          · exfalso; apply h1; unfold sv sg; rw [h, ngb_pos h3]; rfl
        refine ⟨?_, by omega⟩
        unfold IsN rg INF at *; omega
      · rename_i h1 h2 h3
        have hn := word_neg h64 (ngb_neg (x := x) (by omega))
        have : rg x ≠ 0 := by intro e; apply h2; unfold sv sg; rw [e, V_zero]; split <;> rfl
        refine ⟨?_, by omega⟩
        unfold IsN rg INF at *; omega
theorem nextD_num {x : Nat} (hx : IsN x) (h64 : x < 18446744073709551616) : IsN (nextD x) ∧ nextD x < 18446744073709551616 := by
  unfold nextD
  have bd := sv_bd hx
  rw [sv_NINF]
  split
  · exact ⟨hx, h64⟩
  · split
    · exact ⟨by unfold IsN; decide, by omega⟩
    · split
      · rename_i h1 h2 h3
        have hn := word_pos h64 (ngb_pos h3)
        have : rg x ≠ 0 := by intro e; apply h2; unfold sv sg; rw [e, V_zero]; split <;> rfl
        refine ⟨?_, by omega⟩
        unfold IsN rg INF at *; omega
      · rename_i h1 h2 h3
        have hn := word_neg h64 (ngb_neg (x := x) (by omega))
        have hlt : rg x < INF := by
          rcases fin_or hx with h | h
          · exact h
          · exfalso; apply h1; unfold sv sg; rw [h, ngb_neg (x := x) (by omega)]; rfl
        refine ⟨?_, by unfold INF at hlt; omega⟩
        unfold IsN rg INF at *; omega
theorem sides_up {x r : Nat} (hx : IsN x) (h64 : x < 18446744073709551616) (e1 : (FloatKind.f64.format.order r 0 == some .gt) = true) (w : World) : Calls Tryz.prog 164 #[.float .f64 x, .float .f64 r] w fun e w' => e = .returned (.tuple #[.float .f64 (unsg x), .float .f64 (unsg (nextU x))]) ∧ w = w' := by
  have hn := (nextU_num hx h64).1
  go_enter Tryz.func164, Tryz.ntmps164
  go_wp2_with (first | (go_at_call 258; (first | with_reducible refine (unsigned_any hx _).mono ?_ | with_reducible refine (unsigned_any hn _).mono ?_); rintro e w' ⟨rfl, rfl⟩) | (go_at_call 257; refine (next_up hx h64 _).mono ?_; rintro e w' ⟨rfl, rfl⟩))
  go_ret2
  exact ⟨rfl, rfl⟩
theorem sides_dn {x r : Nat} (hx : IsN x) (h64 : x < 18446744073709551616) (e1 : (FloatKind.f64.format.order r 0 == some .gt) = false) (e2 : (FloatKind.f64.format.order r 0 == some .lt) = true) (w : World) : Calls Tryz.prog 164 #[.float .f64 x, .float .f64 r] w fun e w' => e = .returned (.tuple #[.float .f64 (unsg (nextD x)), .float .f64 (unsg x)]) ∧ w = w' := by
  have hn := (nextD_num hx h64).1
  go_enter Tryz.func164, Tryz.ntmps164
  go_wp2_with (first | (go_at_call 258; (first | with_reducible refine (unsigned_any hx _).mono ?_ | with_reducible refine (unsigned_any hn _).mono ?_); rintro e w' ⟨rfl, rfl⟩) | (go_at_call 257; refine (next_dn hx h64 _).mono ?_; rintro e w' ⟨rfl, rfl⟩))
  go_ret2
  exact ⟨rfl, rfl⟩
theorem sides_no {x r : Nat} (hx : IsN x) (h64 : x < 18446744073709551616) (e1 : (FloatKind.f64.format.order r 0 == some .gt) = false) (e2 : (FloatKind.f64.format.order r 0 == some .lt) = false) (w : World) : Calls Tryz.prog 164 #[.float .f64 x, .float .f64 r] w fun e w' => e = .returned (.tuple #[.float .f64 (unsg x), .float .f64 (unsg x)]) ∧ w = w' := by
  go_enter Tryz.func164, Tryz.ntmps164
  go_wp2_with (first | (go_at_call 258; (first | with_reducible refine (unsigned_any hx _).mono ?_); rintro e w' ⟨rfl, rfl⟩))
  go_ret2
  exact ⟨rfl, rfl⟩
/-- What two sides may be. -/
def Sided (x d u : Nat) : Prop := (d = unsg x ∧ u = unsg x) ∨ (d = unsg x ∧ u = unsg (nextU x)) ∨ (d = unsg (nextD x) ∧ u = unsg x)
def SidesPost (x : Nat) (w : World) (e : Ending) (w' : World) : Prop := ∃ d u, e = .returned (.tuple #[.float .f64 d, .float .f64 u]) ∧ Sided x d u ∧ w = w'
theorem sides_any {x : Nat} (r : Nat) (hx : IsN x) (h64 : x < 18446744073709551616) (w : World) : Calls Tryz.prog 164 #[.float .f64 x, .float .f64 r] w (SidesPost x w) := by
  cases e1 : (FloatKind.f64.format.order r 0 == some .gt)
  · cases e2 : (FloatKind.f64.format.order r 0 == some .lt)
    · exact (sides_no hx h64 e1 e2 w).mono fun _ _ ⟨h1, h2⟩ => ⟨_, _, h1, .inl ⟨rfl, rfl⟩, h2⟩
    · exact (sides_dn hx h64 e1 e2 w).mono fun _ _ ⟨h1, h2⟩ => ⟨_, _, h1, .inr (.inr ⟨rfl, rfl⟩), h2⟩
  · exact (sides_up hx h64 e1 w).mono fun _ _ ⟨h1, h2⟩ => ⟨_, _, h1, .inr (.inl ⟨rfl, rfl⟩), h2⟩
end Go.Proofs.YtgcgmplepcfbaaaGreatDoor
/- package grain: a third lies between two floats. -/
namespace Go.Proofs.YtgcgmplepcfbaaaGreatDoor
open Go.RowKit Ieee Fl

theorem norm_1 (w : World) : Calls Tryz.prog 261 #[.float .f64 4607182418800017408] w fun e w' => e = .returned (.tuple #[.float .f64 4607182418800017408, .int .i64 0]) ∧ w = w' := by
  have c0 : (FloatKind.f64.format.order (rg 4607182418800017408) 4503599627370496 == some .lt) = false := by decide +kernel
  go_enter Tryz.func261, Tryz.ntmps261
  go_wp2_with (go_at_call 155; refine (abs_any _ (by decide) _).mono ?_; rintro e w' ⟨rfl, rfl⟩)
  go_ret2
  exact ⟨rfl, rfl⟩
theorem norm_3 (w : World) : Calls Tryz.prog 261 #[.float .f64 4613937818241073152] w fun e w' => e = .returned (.tuple #[.float .f64 4613937818241073152, .int .i64 0]) ∧ w = w' := by
  have c0 : (FloatKind.f64.format.order (rg 4613937818241073152) 4503599627370496 == some .lt) = false := by decide +kernel
  go_enter Tryz.func261, Tryz.ntmps261
  go_wp2_with (go_at_call 155; refine (abs_any _ (by decide) _).mono ?_; rintro e w' ⟨rfl, rfl⟩)
  go_ret2
  exact ⟨rfl, rfl⟩
theorem norm_13 (w : World) : Calls Tryz.prog 261 #[.float .f64 4599676419421066581] w fun e w' => e = .returned (.tuple #[.float .f64 4599676419421066581, .int .i64 0]) ∧ w = w' := by
  have c0 : (FloatKind.f64.format.order (rg 4599676419421066581) 4503599627370496 == some .lt) = false := by decide +kernel
  go_enter Tryz.func261, Tryz.ntmps261
  go_wp2_with (go_at_call 155; refine (abs_any _ (by decide) _).mono ?_; rintro e w' ⟨rfl, rfl⟩)
  go_ret2
  exact ⟨rfl, rfl⟩
theorem frexp_1 (w : World) : Calls Tryz.prog 350 #[.float .f64 4607182418800017408] w fun e w' => e = .returned (.tuple #[.float .f64 4602678819172646912, .int .i64 1]) ∧ w = w' := by
  have c0 : (FloatKind.f64.format.order 4607182418800017408 0 == some .eq) = false := by decide +kernel
  go_enter Tryz.func350, Tryz.ntmps350
  go_wp2_with (first | (go_at_call 52; refine (isInf_fin (by decide) (by unfold FinW; decide) _).mono ?_; rintro e w' ⟨rfl, rfl⟩) | (go_at_call 51; refine (isNaN_no (by unfold IsN; decide) _).mono ?_; rintro e w' ⟨rfl, rfl⟩) | (go_at_call 261; refine (norm_1 _).mono ?_; rintro e w' ⟨rfl, rfl⟩))
  go_ret2
  exact ⟨by kernel_rfl, rfl⟩
theorem Frexp_1 (w : World) : Calls Tryz.prog 254 #[.float .f64 4607182418800017408] w fun e w' => e = .returned (.tuple #[.float .f64 4602678819172646912, .int .i64 1]) ∧ w = w' := by
  go_enter Tryz.func254, Tryz.ntmps254
  go_wp2_with (go_at_call 350; refine (frexp_1 _).mono ?_; rintro e w' ⟨rfl, rfl⟩)
  go_ret2
  exact ⟨rfl, rfl⟩
theorem frexp_3 (w : World) : Calls Tryz.prog 350 #[.float .f64 4613937818241073152] w fun e w' => e = .returned (.tuple #[.float .f64 4604930618986332160, .int .i64 2]) ∧ w = w' := by
  have c0 : (FloatKind.f64.format.order 4613937818241073152 0 == some .eq) = false := by decide +kernel
  go_enter Tryz.func350, Tryz.ntmps350
  go_wp2_with (first | (go_at_call 52; refine (isInf_fin (by decide) (by unfold FinW; decide) _).mono ?_; rintro e w' ⟨rfl, rfl⟩) | (go_at_call 51; refine (isNaN_no (by unfold IsN; decide) _).mono ?_; rintro e w' ⟨rfl, rfl⟩) | (go_at_call 261; refine (norm_3 _).mono ?_; rintro e w' ⟨rfl, rfl⟩))
  go_ret2
  exact ⟨by kernel_rfl, rfl⟩
theorem Frexp_3 (w : World) : Calls Tryz.prog 254 #[.float .f64 4613937818241073152] w fun e w' => e = .returned (.tuple #[.float .f64 4604930618986332160, .int .i64 2]) ∧ w = w' := by
  go_enter Tryz.func254, Tryz.ntmps254
  go_wp2_with (go_at_call 350; refine (frexp_3 _).mono ?_; rintro e w' ⟨rfl, rfl⟩)
  go_ret2
  exact ⟨rfl, rfl⟩
theorem ldexp_13 (w : World) : Calls Tryz.prog 167 #[.float .f64 4599676419421066581, .int .i64 1] w fun e w' => e = .returned (.float .f64 4604180019048437077) ∧ w = w' := by
  have c0 : (FloatKind.f64.format.order 4599676419421066581 0 == some .eq) = false := by decide +kernel
  have o1 : ∀ t w, (binOp .mul t (.float .f64 4607182418800017408) (.float .f64 4604180019048437077)).run Tryz.prog w = .ok (.float .f64 4604180019048437077) w := fun t w => run_float_arith w .mul t .f64 _ _ _ (by decide +kernel)
  have b1 : bits .and .i64 1021 2047 = 1021 := by kernel_rfl
  have b2 : bits .andNot .u64 4599676419421066581 9218868437227405312 = 1501199875790165 := by kernel_rfl
  have b3 : bits .or .u64 1501199875790165 4602678819172646912 = 4604180019048437077 := by kernel_rfl
  go_enter Tryz.func167, Tryz.ntmps167
  go_wp2_with (first | simp only [o1] | (go_at_call 52; refine (isInf_fin (by decide) (by unfold FinW; decide) _).mono ?_; rintro e w' ⟨rfl, rfl⟩) | (go_at_call 51; refine (isNaN_no (by unfold IsN; decide) _).mono ?_; rintro e w' ⟨rfl, rfl⟩) | (go_at_call 261; refine (norm_13 _).mono ?_; rintro e w' ⟨rfl, rfl⟩))
  go_ret
  exact ⟨rfl, rfl⟩
theorem Ldexp_13 (w : World) : Calls Tryz.prog 65 #[.float .f64 4599676419421066581, .int .i64 1] w fun e w' => e = .returned (.float .f64 4604180019048437077) ∧ w = w' := by
  go_enter Tryz.func65, Tryz.ntmps65
  go_wp2_with (go_at_call 167; refine (ldexp_13 _).mono ?_; rintro e w' ⟨rfl, rfl⟩)
  go_ret
  exact ⟨rfl, rfl⟩
theorem isFinite_yes {x : Nat} (hx : x < 18446744073709551616) (h : FinW x) (w : World) : Calls Tryz.prog 259 #[.float .f64 x] w fun e w' => e = .returned (.bool true) ∧ w = w' := by
  go_enter Tryz.func259, Tryz.ntmps259
  go_wp2_with (first | (go_at_call 52; refine (isInf_fin hx h _).mono ?_; rintro e w' ⟨rfl, rfl⟩) | (go_at_call 51; refine (isNaN_no (Nat.le_of_lt h) _).mono ?_; rintro e w' ⟨rfl, rfl⟩))
  go_ret
  exact ⟨rfl, rfl⟩
@[go_sem] theorem unary_neg_float (k : FloatKind) (b : Nat) : Op.unary .neg (.float k b) = pure (.float k (Op.negFloat k b)) := rfl
def fmaTail (x y z : Nat) : Option Nat → Sem Value
  | some r => pure (.float .f64 r)
  | none => do
    let (a, b) := if Extern.MathFMA.isNaN x then (x, y) else if Extern.MathFMA.isNaN y then (y, z) else (z, z)
    pure (.float .f64 (← choose (.nanBits .f64 a b)))
theorem call_fma {x y z r : Nat} (h : double.fma x y z = some r) (w : World) : (callFunc 260 #[.float .f64 x, .float .f64 y, .float .f64 z]).run Tryz.prog w = .ok (.value (.float .f64 r)) w := by
  rw [run_callFunc_extern (e := Extern.MathFMA.fma) Tryz.func260 (by kernel_rfl) (by kernel_rfl) (by kernel_rfl) (by kernel_rfl)]
  have e : Extern.MathFMA.fma #[.float .f64 x, .float .f64 y, .float .f64 z] = fmaTail x y z (double.fma x y z) := rfl
  rw [e, h]; rfl
theorem nextU_13 : nextU 4599676419421066581 = 4599676419421066582 := by decide +kernel
theorem unsg_a : unsg 4599676419421066581 = 4599676419421066581 := by decide +kernel
theorem unsg_b : unsg 4599676419421066582 = 4599676419421066582 := by decide +kernel
theorem sides_13 (w : World) : Calls Tryz.prog 164 #[.float .f64 4599676419421066581, .float .f64 4359484439294640128] w fun e w' => e = .returned (.tuple #[.float .f64 4599676419421066581, .float .f64 4599676419421066582]) ∧ w = w' := by
  have h := sides_up (x := 4599676419421066581) (r := 4359484439294640128) (by unfold IsN; decide) (by decide) (by decide +kernel) w
  rw [nextU_13, unsg_a, unsg_b] at h
  exact h
theorem quo_13 (w : World) : Calls Tryz.prog 165 #[.float .f64 4607182418800017408, .float .f64 4613937818241073152] w fun e w' => e = .returned (.tuple #[.float .f64 4599676419421066581, .float .f64 4599676419421066582]) ∧ w = w' := by
  have c0 : (FloatKind.f64.format.order 4613937818241073152 0 == some .eq) = false := by decide +kernel
  have c1 : (FloatKind.f64.format.order 4613937818241073152 0 == some .lt) = false := by decide +kernel
  have o1 : ∀ t w, (binOp .quo t (.float .f64 4607182418800017408) (.float .f64 4613937818241073152)).run Tryz.prog w = .ok (.float .f64 4599676419421066581) w := fun t w => run_float_arith w .quo t .f64 _ _ _ (by decide +kernel)
  have o2 : ∀ w, (callFunc 260 #[.float .f64 13827552055903212885, .float .f64 4604930618986332160, .float .f64 4602678819172646912]).run Tryz.prog w = .ok (.value (.float .f64 4359484439294640128)) w := fun w => call_fma (by decide +kernel) w
  have o3 : Op.negFloat .f64 4604180019048437077 = 13827552055903212885 := by decide +kernel
  go_enter Tryz.func165, Tryz.ntmps165
  go_wp2_with (first | simp only [o1, o2] | (go_at_call 259; refine (isFinite_yes (by decide) (by unfold FinW; decide) _).mono ?_; rintro e w' ⟨rfl, rfl⟩) | (go_at_call 254; (first | with_reducible refine (Frexp_1 _).mono ?_ | with_reducible refine (Frexp_3 _).mono ?_); rintro e w' ⟨rfl, rfl⟩) | (go_at_call 65; refine (Ldexp_13 _).mono ?_; rintro e w' ⟨rfl, rfl⟩) | (go_at_call 164; refine (sides_13 _).mono ?_; rintro e w' ⟨rfl, rfl⟩))
  go_ret2
  exact ⟨rfl, rfl⟩
theorem gworks_any (w : World) : Calls Tryz.prog 63 #[] w fun e w' => e = .returned (.bool true) ∧ w = w' := by
  go_enter Tryz.func63, Tryz.ntmps63
  go_wp2_with (go_at_call 165; refine (quo_13 _).mono ?_; rintro e w' ⟨rfl, rfl⟩)
  go_ret
  exact ⟨rfl, rfl⟩
end Go.Proofs.YtgcgmplepcfbaaaGreatDoor
/- package math: normalize, Frexp, Ldexp of what has no sign, exactly. -/
namespace Go.Proofs.YtgcgmplepcfbaaaGreatDoor
open Go.RowKit Ieee Fl

theorem sv_r {r : Nat} (h : r < INF) : sv r = V r := by unfold sv sg; rw [rg_self h, ngb_self h]; rfl
theorem norm_r {r : Nat} (h : r < INF) (w : World) : Calls Tryz.prog 261 #[.float .f64 r] w fun e w' => e = .returned (.tuple #[.float .f64 (nrm r), .int .i64 (nrk r)]) ∧ w = w' := by
  have c0 := lt_spell (x := rg r) (y := 4503599627370496) (by unfold IsN; rw [rg_self h, rg_self h]; exact Nat.le_of_lt h) (by unfold IsN; decide)
  have h64 : r < 18446744073709551616 := by unfold INF at h; omega
  rw [rg_self h, sv_r h, show sv 4503599627370496 = (V 4503599627370496 : Int) by decide] at c0
  by_cases hr : r < 4503599627370496
  · rw [decide_eq_true (by have := V_lt hr; omega)] at c0
    have o1 : ∀ t w, (binOp .mul t (.float .f64 r) (.float .f64 4841369599423283200)).run Tryz.prog w = .ok (.float .f64 (nrm r)) w := fun t w => run_float_arith w .mul t .f64 _ _ _ (mul_52 hr)
    rw [show nrk r = -52 from if_pos hr]
    have ha := abs_any r h64
    rw [rg_self h] at ha
    clear h hr
    generalize nrm r = R at *
    go_enter Tryz.func261, Tryz.ntmps261
    go_wp2_with (first | simp only [o1] | (go_at_call 155; refine (ha _).mono ?_; rintro e w' ⟨rfl, rfl⟩))
    go_ret2
    exact ⟨rfl, rfl⟩
  · rw [decide_eq_false (by have := V_le (show 4503599627370496 ≤ r by omega); omega)] at c0
    rw [show nrk r = 0 from if_neg hr, show nrm r = r from if_neg hr]
    have ha := abs_any r h64
    rw [rg_self h] at ha
    clear h hr
    go_enter Tryz.func261, Tryz.ntmps261
    go_wp2_with (go_at_call 155; refine (ha _).mono ?_; rintro e w' ⟨rfl, rfl⟩)
    go_ret2
    exact ⟨rfl, rfl⟩
/-- What Frexp makes of a word. -/
def frw (r : Nat) : Nat := 1021 * 4503599627370496 + mnt r
theorem frw_bd (r : Nat) : 1022 * 4503599627370496 ≤ frw r ∧ frw r < 1023 * 4503599627370496 := by have := mnt_bd r; unfold frw; omega
theorem pack_eqs {R : Nat} (h : R < INF) :
    bits .and .u64 ((R : Int) / 4503599627370496) 2047 = ((R / 4503599627370496 : Nat) : Int) ∧ bits .andNot .u64 (R : Int) 9218868437227405312 = ((R % 4503599627370496 : Nat) : Int) ∧
    ∀ k : Nat, k ≤ 2046 → bits .or .u64 ((R % 4503599627370496 : Nat) : Int) ((k * 4503599627370496 : Nat) : Int) = ((k * 4503599627370496 + R % 4503599627370496 : Nat) : Int) := by
  have h2 : R < 18446744073709551616 := by unfold INF at h; omega
  have h3 : R / 4503599627370496 < 2047 := by unfold INF at h; omega
  refine ⟨?_, ?_, fun k hk => ?_⟩
  · have := u64_and_nat (R / 4503599627370496) 2047 (by omega) (by omega)
    rw [show ((2047 : Nat) : Int) = 2047 from rfl, show (2047 : Nat) = 2 ^ 11 - 1 from rfl, Nat.and_two_pow_sub_one_eq_mod, Nat.mod_eq_of_lt (by omega)] at this
    rw [show (R : Int) / 4503599627370496 = ((R / 4503599627370496 : Nat) : Int) by omega]
    exact this
  · have := u64_andNot_nat R 9218868437227405312 h2 (by omega)
    rw [show ((9218868437227405312 : Nat) : Int) = 9218868437227405312 from rfl, show 18446744073709551615 - 9218868437227405312 = 9227875636482146303 by decide, and_keep h] at this
    exact this
  · have := u64_or_nat (R % 4503599627370496) (k * 4503599627370496) (by omega) (by omega)
    rw [or_pack (by omega)] at this
    exact this
set_option maxRecDepth 100000 in
theorem frexp_r {r : Nat} (h0 : 0 < r) (h : r < INF) (w : World) : Calls Tryz.prog 350 #[.float .f64 r] w fun e w' => e = .returned (.tuple #[.float .f64 (frw r), .int .i64 (unt r - 1021)]) ∧ w = w' := by
  have c0 := eq_spell (x := r) (y := 0) (by unfold IsN; rw [rg_self h]; exact Nat.le_of_lt h) isN_0
  rw [sv_r h, sv_0, decide_eq_false (by have := V_lt h0; omega)] at c0
  have h64 : r < 18446744073709551616 := by unfold INF at h; omega
  have hf := fin_self h
  have hN := Lib.hid (norm_r h)
  obtain ⟨n1, n2, -⟩ := nrm_is h0 h
  obtain ⟨p1, p2, p3⟩ := pack_eqs n2
  have p4 := p3 1022 (by omega)
  have hk : nrk r = 0 ∨ nrk r = -52 := by unfold nrk; split <;> simp
  have hE : nrm r / 4503599627370496 ≤ 2046 := by unfold INF at n2; omega
  have e1 : frw r = 1022 * 4503599627370496 + nrm r % 4503599627370496 := by unfold frw mnt; omega
  have e2 : unt r - 1021 = nrk r + ((nrm r / 4503599627370496 : Nat) - 1023 + 1) := by unfold unt; omega
  rw [e1, e2]
  rw [show ((1022 * 4503599627370496 : Nat) : Int) = 4602678819172646912 from rfl] at p4
  generalize nrm r % 4503599627370496 = m at *
  generalize nrm r / 4503599627370496 = E at *
  generalize nrm r = R at *
  generalize nrk r = K at *
  obtain ⟨F, hF⟩ : ∃ F, 1022 * 4503599627370496 + m = F := ⟨_, rfl⟩
  rw [hF] at p4 ⊢
  have hk1 : -52 ≤ K := by omega
  have hk2 : K ≤ 0 := by omega
  have HF := Lib.hid hf
  clear hF p3 e1 e2 n1 n2 hk h h0 hf
  go_enter Tryz.func350, Tryz.ntmps350
  go_wp2_with (first | (go_at_call 52; refine (isInf_fin h64 HF.out _).mono ?_; rintro e w' ⟨rfl, rfl⟩) | (go_at_call 51; refine (isNaN_no (Nat.le_of_lt HF.out) _).mono ?_; rintro e w' ⟨rfl, rfl⟩) | (go_at_call 261; refine (hN.out _).mono ?_; rintro e w' ⟨rfl, rfl⟩))
  go_ret2
  exact ⟨rfl, rfl⟩
theorem Frexp_r {r : Nat} (h0 : 0 < r) (h : r < INF) (w : World) : Calls Tryz.prog 254 #[.float .f64 r] w fun e w' => e = .returned (.tuple #[.float .f64 (frw r), .int .i64 (unt r - 1021)]) ∧ w = w' := by
  have hN := Lib.hid (frexp_r h0 h)
  go_enter Tryz.func254, Tryz.ntmps254
  go_wp2_with (go_at_call 350; refine (hN.out _).mono ?_; rintro e w' ⟨rfl, rfl⟩)
  go_ret2
  exact ⟨rfl, rfl⟩
theorem i64_and2047 (n : Nat) (h : n < 2047) : bits .and .i64 (n : Int) 2047 = (n : Int) := by
  have h127 : (BitVec.ofInt 64 2047).toNat = 2 ^ 11 - 1 := by decide
  have key : (BitVec.ofInt 64 (n : Int) &&& BitVec.ofInt 64 2047).toNat = ((n : Int) % ((2 ^ 64 : Nat) : Int)).toNat % 2 ^ 11 := by
    rw [BitVec.toNat_and, BitVec.toNat_ofInt, h127, Nat.and_two_pow_sub_one_eq_mod]
  show IntKind.i64.wrap ((BitVec.ofInt 64 (n : Int) &&& BitVec.ofInt 64 2047).toNat : Nat) = (n : Int)
  rw [key, IntKind.wrap_i64]
  omega
set_option maxRecDepth 100000 in
theorem ldexp_n {F K : Nat} {k : Int} (h1 : 4503599627370496 ≤ F) (h2 : F < INF) (hk : k + ((F / 4503599627370496 : Nat) : Int) = K) (k1 : 1 ≤ K) (k2 : K ≤ 2046) (w : World) :
    Calls Tryz.prog 167 #[.float .f64 F, .int .i64 k] w fun e w' => e = .returned (.float .f64 (K * 4503599627370496 + F % 4503599627370496)) ∧ w = w' := by
  have c0 := eq_spell (x := F) (y := 0) (by unfold IsN; rw [rg_self h2]; exact Nat.le_of_lt h2) isN_0
  rw [sv_r h2, sv_0, decide_eq_false (by have := V_lt (show 0 < F by omega); omega)] at c0
  have h64 : F < 18446744073709551616 := by unfold INF at h2; omega
  have hN := Lib.hid (norm_r h2)
  rw [show nrm F = F from if_neg (by omega), show nrk F = 0 from if_neg (by omega)] at hN
  obtain ⟨p1, p2, p3⟩ := pack_eqs h2
  have p1' : bits .and .i64 ((F : Int) / 4503599627370496) 2047 = ((F / 4503599627370496 : Nat) : Int) := by
    have hE : F / 4503599627370496 < 2047 := by unfold INF at h2; omega
    rw [show (F : Int) / 4503599627370496 = ((F / 4503599627370496 : Nat) : Int) by omega]
    generalize F / 4503599627370496 = E at *
    exact i64_and2047 E hE
  have p4 := p3 K k2
  rw [show ((K * 4503599627370496 : Nat) : Int) = (K : Int) * 4503599627370496 by omega] at p4
  have hE : F / 4503599627370496 ≤ 2046 := by unfold INF at h2; omega
  have hG : K * 4503599627370496 + F % 4503599627370496 < INF := by unfold INF; omega
  have o1 : ∀ t w, (binOp .mul t (.float .f64 4607182418800017408) (.float .f64 (K * 4503599627370496 + F % 4503599627370496))).run Tryz.prog w = .ok (.float .f64 (K * 4503599627370496 + F % 4503599627370496)) w := fun t w => run_float_arith w .mul t .f64 _ _ _ (mul_one_w hG)
  have HF := Lib.hid (fin_self h2)
  have hX : k + (((F / 4503599627370496 : Nat) : Int) - 1023) = (K : Int) - 1023 := by omega
  obtain ⟨E, hEe⟩ : ∃ E, F / 4503599627370496 = E := ⟨_, rfl⟩
  obtain ⟨m, hm⟩ : ∃ m, F % 4503599627370496 = m := ⟨_, rfl⟩
  rw [hEe] at hX p1 p1' hE hk
  rw [hm] at p2 p4 o1 ⊢
  obtain ⟨G, hGe⟩ : ∃ G, K * 4503599627370496 + m = G := ⟨_, rfl⟩
  rw [hGe] at p4 o1 ⊢
  have b1 : -2045 ≤ k := by omega
  have b2 : k ≤ 2046 := by omega
  clear hEe hm hGe hG p3 h1 h2 hk
  go_enter Tryz.func167, Tryz.ntmps167
  go_wp2_with (first | simp only [o1] | (go_at_call 52; refine (isInf_fin h64 HF.out _).mono ?_; rintro e w' ⟨rfl, rfl⟩) | (go_at_call 51; refine (isNaN_no (Nat.le_of_lt HF.out) _).mono ?_; rintro e w' ⟨rfl, rfl⟩) | (go_at_call 261; refine (hN.out _).mono ?_; rintro e w' ⟨rfl, rfl⟩))
  go_ret
  exact ⟨rfl, rfl⟩
theorem Ldexp_n {F K : Nat} {k : Int} (h1 : 4503599627370496 ≤ F) (h2 : F < INF) (hk : k + ((F / 4503599627370496 : Nat) : Int) = K) (k1 : 1 ≤ K) (k2 : K ≤ 2046) (w : World) :
    Calls Tryz.prog 65 #[.float .f64 F, .int .i64 k] w fun e w' => e = .returned (.float .f64 (K * 4503599627370496 + F % 4503599627370496)) ∧ w = w' := by
  have hN := Lib.hid (fun W => ldexp_n h1 h2 hk k1 k2 W)
  generalize K * 4503599627370496 + F % 4503599627370496 = G at *
  clear h1 h2 hk k1 k2
  go_enter Tryz.func65, Tryz.ntmps65
  go_wp2_with (go_at_call 167; refine (hN.out _).mono ?_; rintro e w' ⟨rfl, rfl⟩)
  go_ret
  exact ⟨rfl, rfl⟩
/-- What FromFloat takes apart: the word 1074 * 2^52 + digits, which is the digits' number. -/
theorem Ldexp_53 (r : Nat) (w : World) : Calls Tryz.prog 65 #[.float .f64 (frw r), .int .i64 53] w fun e w' => e = .returned (.float .f64 (1074 * 4503599627370496 + mnt r)) ∧ w = w' := by
  have hb := frw_bd r
  have hm := mnt_bd r
  have h := Ldexp_n (F := frw r) (K := 1075) (k := 53) (by omega) (by unfold INF; omega) (by omega) (by omega) (by omega) w
  rw [show 1075 * 4503599627370496 + frw r % 4503599627370496 = 1074 * 4503599627370496 + mnt r by unfold frw; omega] at h
  exact h
end Go.Proofs.YtgcgmplepcfbaaaGreatDoor
