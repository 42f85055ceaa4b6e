/- Contracts, in this order: A point's parts as whole multiples of 2^-75: turned by quart · The three sums of TurnNear, by floats: each lies as near as  · The points of a turn, by their number: the mirrored one, the · A block of known cells. · turn.Parts, turn.Disc: what they answer. · ref07.Disc where there is a point. · ref07.part: the parts of a turn by roots, each by a run. -/
import Derived.Test.YthfopepnofjcjaaTr11
import Derived.Test.YthfopepnofjcjaaTr25
import Derived.Test.YthfopepnofjcjaaTr13
namespace Go.Proofs.Ythfopepnofjcjaa
open Go Ieee Fl
namespace Tp
set_option maxRecDepth 100000
theorem sc_pos {b : Nat} (h : rngB b = true) : Sc b (scv b) := by
  unfold rngB at h
  rw [Bool.and_eq_true] at h
  have h1 := Nat.le_of_ble_eq_true h.1
  have h2 := Nat.le_of_ble_eq_true h.2
  have hr : rg b = b := by unfold rg; omega
  have hn : ngb b = false := by unfold ngb; rw [show b / 9223372036854775808 = 0 by omega]; rfl
  refine ⟨by unfold FinW INF; rw [hr]; omega, ?_⟩
  unfold sv sg
  rw [hn, hr]
  simp only [Bool.false_eq_true, if_false]
  rw [← Int.natCast_mul]
  congr 1
  have h0 : Nat.beq b 0 = false := by
    cases hb : Nat.beq b 0 with
    | false => rfl
    | true => have := Nat.eq_of_beq_eq_true hb; omega
  unfold V scv
  rw [if_neg (by omega), h0]
  show _ = (4503599627370496 + b % 4503599627370496) * 2 ^ (b / 4503599627370496 - 1000) * 2 ^ 999
  have key : ∀ c d e : Nat, c * 2 ^ d * 2 ^ e = c * 2 ^ (d + e) := fun c d e => by rw [Nat.mul_assoc, ← Nat.pow_add]
  have := key (4503599627370496 + b % 4503599627370496) (b / 4503599627370496 - 1000) 999
  rw [show b / 4503599627370496 - 1000 + 999 = b / 4503599627370496 - 1 by omega] at this
  exact this.symm
theorem sc_zero : Sc 0 0 := ⟨by unfold FinW INF rg; decide, by decide +kernel⟩
theorem sc_of {r : Nat} (hr : r ≤ 8192) : Sc (pt r).1 (scv (pt r).1) ∧ Sc (pt r).2 (scv (pt r).2) := by
  have h := ok_all r hr
  unfold okR rngR at h
  simp only [Bool.and_eq_true, Bool.or_eq_true] at h
  obtain ⟨-, h1, h2⟩ := h
  refine ⟨sc_pos h1, ?_⟩
  rcases h2 with h2 | h2
  · rw [Nat.eq_of_beq_eq_true h2, tab_zero]
    exact sc_zero
  · exact sc_pos h2
theorem ngb_bit (x : Nat) : ngb x = x.testBit 63 := by
  unfold ngb
  rw [Nat.testBit_eq_decide_div_mod_eq, show (2 : Nat) ^ 63 = 9223372036854775808 from rfl]
  rfl
theorem ngb_neg (x : Nat) : ngb (Op.negFloat .f64 x) = !ngb x := by
  rw [ngb_bit, ngb_bit]
  show (x ^^^ 2 ^ 63).testBit 63 = _
  rw [Nat.testBit_xor, Nat.testBit_two_pow_self]
  cases x.testBit 63 <;> rfl
theorem sv_neg (x : Nat) : sv (Op.negFloat .f64 x) = -sv x := by
  unfold sv
  rw [ngb_neg, show rg (Op.negFloat .f64 x) = rg x from neg_mod x]
  unfold sg
  cases ngb x <;> simp
theorem sc_neg {x : Nat} {A : Int} (h : Sc x A) : Sc (Op.negFloat .f64 x) (-A) := by
  refine ⟨?_, by rw [sv_neg, h.2, Int.neg_mul]⟩
  unfold FinW
  rw [show rg (Op.negFloat .f64 x) = rg x from neg_mod x]
  exact h.1
theorem isN_of {x : Nat} (h : FinW x) : IsN x := Nat.le_of_lt h
theorem sc_uns {x : Nat} {A : Int} (h : Sc x A) : Sc (unsN x) A := by
  unfold unsN
  cases hz : isZ x with
  | false => simpa using h
  | true =>
    have e : double.order x 0 = some (compare (sv x) (sv 0)) := order_eq (isN_of h.1) (isN_of sc_zero.1)
    have hz' : (double.order x 0 == some .eq) = true := hz
    rw [e] at hz'
    have h0 : sv x = 0 := by
      have e2 : sv 0 = 0 := by decide +kernel
      rw [e2] at hz'
      have := eq_of_beq hz'
      injection this with this
      exact Std.LawfulEqCmp.eq_of_compare this
    have hA : A = 0 := by
      have := h.2
      rw [h0] at this
      have hp : (0 : Int) < ((2 ^ 999 : Nat) : Int) := pow_pos 999
      rcases Int.mul_eq_zero.1 this.symm with h | h
      · exact h
      · omega
    rw [hA]
    simpa using sc_zero
def rotZ : Nat → Int × Int → Int × Int
  | 0, z => z
  | q + 1, z => (-(rotZ q z).2, (rotZ q z).1)
def swpZ (m : Bool) (z : Int × Int) : Int × Int := if m = true then (z.2, z.1) else z
theorem sc_rot {z : Nat × Nat} {Z : Int × Int} (h : Sc z.1 Z.1 ∧ Sc z.2 Z.2) : ∀ q, Sc (rotI q z).1 (rotZ q Z).1 ∧ Sc (rotI q z).2 (rotZ q Z).2
  | 0 => h
  | q + 1 => ⟨sc_neg (sc_rot h q).2, (sc_rot h q).1⟩
theorem sc_swp {z : Nat × Nat} {Z : Int × Int} (m : Bool) (h : Sc z.1 Z.1 ∧ Sc z.2 Z.2) : Sc (swp m z).1 (swpZ m Z).1 ∧ Sc (swp m z).2 (swpZ m Z).2 := by
  unfold swp swpZ
  split
  · exact ⟨h.2, h.1⟩
  · exact h
noncomputable def ptZ (r : Nat) : Int × Int := ((scv (pt r).1 : Int), (scv (pt r).2 : Int))
theorem zOf_pt {r : Nat} (hr : r ≤ 8192) : zOf r = pt r := by
  have := prod_pt r hr
  exact zOf_is (a := (pt r).1) (b := (pt r).2) this
theorem sc_pt (q r : Nat) (m : Bool) (hr : r ≤ 8192) : Sc (ptC q m (zOf r)).1 (rotZ q (swpZ m (ptZ r))).1 ∧ Sc (ptC q m (zOf r)).2 (rotZ q (swpZ m (ptZ r))).2 := by
  rw [zOf_pt hr]
  have h := sc_rot (sc_swp m (Z := ptZ r) (sc_of hr)) q
  exact ⟨sc_uns h.1, sc_uns h.2⟩
def NrC (Z : Int × Int) : Prop := Z.1 * Z.1 + Z.2 * Z.2 - one75 * one75 ≤ bnd ∧ one75 * one75 - (Z.1 * Z.1 + Z.2 * Z.2) ≤ bnd
def NrD (Z X : Int × Int) : Prop := (Z.1 * Z.1 - Z.2 * Z.2 - X.1 * one75 ≤ bnd ∧ X.1 * one75 - (Z.1 * Z.1 - Z.2 * Z.2) ≤ bnd) ∧ (2 * (Z.1 * Z.2) - X.2 * one75 ≤ bnd ∧ X.2 * one75 - 2 * (Z.1 * Z.2) ≤ bnd)
theorem dif_eq (a b : Nat) : dif a b = (a - b) + (b - a) := rfl
theorem nrC_of {C S : Nat} (h : nearC C S = true) : NrC ((C : Int), (S : Int)) := by
  unfold nearC at h
  replace h := Nat.le_of_ble_eq_true h
  rw [dif_eq] at h
  simp only [Nat.mul_eq, Nat.add_eq] at h
  unfold NrC
  simp only [← Int.natCast_mul]
  generalize C * C = c at *
  generalize S * S = s at *
  generalize one75 * one75 = o at *
  generalize bnd = b at *
  omega
theorem nrD_of {C S x y : Nat} (h : nearD C S x y = true) : NrD ((C : Int), (S : Int)) ((x : Int), (y : Int)) := by
  unfold nearD at h
  rw [Bool.and_eq_true] at h
  have h1 := Nat.le_of_ble_eq_true h.1
  have h2 := Nat.le_of_ble_eq_true h.2
  rw [dif_eq] at h1 h2
  simp only [Nat.mul_eq, Nat.add_eq] at h1 h2
  clear h
  unfold NrD
  simp only [← Int.natCast_mul]
  generalize C * C = c at *
  generalize S * S = s at *
  generalize C * S = d at *
  generalize x * one75 = o at *
  generalize y * one75 = p at *
  generalize bnd = b at *
  omega
theorem nr_pt {r : Nat} (hr : r ≤ 8192) : NrC (ptZ r) ∧ (r ≤ 4096 → NrD (ptZ r) (ptZ (2 * r))) ∧ (4096 < r → NrD (ptZ r) (swpZ true (ptZ (16384 - 2 * r)))) := by
  have h := ok_all r hr
  unfold okR nearR at h
  unfold ptZ
  generalize pt r = z at *
  generalize pt (2 * r) = y at *
  generalize pt (16384 - 2 * r) = x at *
  simp only [Bool.and_eq_true] at h
  obtain ⟨⟨h1, h2⟩, -⟩ := h
  refine ⟨nrC_of h1, fun h3 => ?_, fun h3 => ?_⟩
  · rw [show Nat.ble r 4096 = true from Nat.ble_eq_true_of_le h3, cond_true] at h2
    exact nrD_of h2
  · have : Nat.ble r 4096 = false := by
      cases hb : Nat.ble r 4096 with
      | false => rfl
      | true => have := Nat.le_of_ble_eq_true hb; omega
    rw [this, cond_false] at h2
    exact nrD_of h2
end Tp
end Go.Proofs.Ythfopepnofjcjaa
namespace Go.Proofs.Ythfopepnofjcjaa
open Go Ieee Fl
namespace Tp
set_option maxRecDepth 100000
theorem bnd_u : (bnd : Int) * (2 ^ 924 : Nat) = 8 * (U : Int) := by decide +kernel
theorem one_u : (one75 : Int) * one75 * (2 ^ 924 : Nat) = 4503599627370496 * (U : Int) := by decide +kernel
theorem one_p : (one75 : Int) * (2 ^ 924 : Nat) = (2 ^ 999 : Nat) := by decide +kernel
theorem sv_one : sv 4607182418800017408 = 4503599627370496 * (U : Int) := by decide +kernel
theorem sv_far43 : sv 4413527634823086080 = 512 * (U : Int) := by decide +kernel
theorem sv_far42 : sv 4418031234450456576 = 1024 * (U : Int) := by decide +kernel
theorem fin_one : FinW 4607182418800017408 := by unfold FinW INF rg; decide
theorem fin_far43 : FinW 4413527634823086080 := by unfold FinW INF rg; decide
theorem fin_far42 : FinW 4418031234450456576 := by unfold FinW INF rg; decide
theorem U_lt : (U : Int) * 18014398509481984 = ((18014398509481984 * U : Nat) : Int) := by rw [Int.natCast_mul, Int.mul_comm]; rfl
theorem sq_nonneg (A : Int) : 0 ≤ A * A := by rw [← Int.natAbs_mul_self]; exact Int.natCast_nonneg _
theorem abs_far {t far : Nat} {n : Int} (ht : FinW t) (hf : FinW far) (hn : sv far = n) (h1 : sv t < n) (h2 : -n < sv t) : double.order (rg t) far = some .lt := by
  have hr : rg (rg t) = rg t := by unfold rg; omega
  have hb : ngb (rg t) = false := by
    unfold ngb rg
    rw [show t % 9223372036854775808 / 9223372036854775808 = 0 by omega]; rfl
  have hft : FinW (rg t) := by unfold FinW; rw [hr]; exact ht
  have e : sv (rg t) = V (rg t) := by
    unfold sv
    rw [hb, hr]; rfl
  have e2 : (V (rg t) : Int) < n := by
    unfold sv sg at h1 h2
    cases hn : ngb t <;> rw [hn] at h1 h2 <;> simp only [if_true, if_false, Bool.false_eq_true] at h1 h2 <;> omega
  rw [order_eq (isN_of hft) (isN_of hf), e, hn]
  congr 1
  exact Int.compare_eq_lt.2 e2
theorem dbl_err {x : Nat} (hx : FinW x) (h1 : -(18014398509481984 * U : Nat) < 2 * sv x) (h2 : 2 * sv x < (18014398509481984 * U : Nat)) :
    ∃ z, double.mul 4611686018427387904 x = some z ∧ FinW z ∧ sv z - 2 * sv x ≤ U ∧ 2 * sv x - sv z ≤ U := by
  have hv : V (rg 4611686018427387904) = 2 ^ 1075 := by decide +kernel
  have hP : V (rg 4611686018427387904) * V (rg x) = (2 * V (rg x)) * 2 ^ 1074 := by
    rw [hv, show (2 : Nat) ^ 1075 = 2 * 2 ^ 1074 by decide +kernel]
    generalize (2 : Nat) ^ 1074 = g
    rw [Nat.mul_assoc, Nat.mul_assoc, Nat.mul_comm g]
  have hb : (2 * V (rg x)) < 2 ^ 1076 := by
    rw [two_1076]
    unfold sv sg at h1 h2
    generalize 18014398509481984 * U = m at *
    cases hn : ngb x <;> rw [hn] at h1 h2 <;> simp only [if_true, if_false, Bool.false_eq_true] at h1 h2 <;> omega
  refine ⟨_, mul_fin (by unfold FinW INF rg; decide) hx hP, wd_fin (rung_fin (Nat.le_of_lt hb)), ?_⟩
  rw [sv_wd _ (rung_le _ _), show ngb 4611686018427387904 = false by decide, Bool.false_xor]
  obtain ⟨d1, d2⟩ := rdn_err hb
  generalize V (rung (2 * V (rg x)) (-1074)) = v at *
  unfold sv
  generalize V (rg x) = y at *
  generalize U = u at *
  unfold sg
  split <;> omega
theorem circle_near {a b : Nat} {A B : Int} (ha : Sc a A) (hb : Sc b B) (h : NrC (A, B)) :
    ∃ p q s t, double.mul a a = some p ∧ double.mul b b = some q ∧ double.add p q = some s ∧ double.sub s 4607182418800017408 = some t ∧ double.order (rg t) 4413527634823086080 = some .lt := by
  obtain ⟨n1, n2⟩ := h
  simp only at n1 n2
  have hg : (0 : Int) ≤ (2 ^ 924 : Nat) := Int.natCast_nonneg _
  have m1 := Int.mul_le_mul_of_nonneg_right n1 hg
  have m2 := Int.mul_le_mul_of_nonneg_right n2 hg
  rw [Int.sub_mul, Int.add_mul, bnd_u, one_u] at m1 m2
  have p1 := Int.mul_nonneg (sq_nonneg A) hg
  have p2 := Int.mul_nonneg (sq_nonneg B) hg
  have hu := U_pos
  have hU := U_lt
  have f1 := @mul_err a a A A ha ha
  have f2 := @mul_err b b B B hb hb
  generalize A * A * ((2 ^ 924 : Nat) : Int) = x at *
  generalize B * B * ((2 ^ 924 : Nat) : Int) = y at *
  have lim : (18014398509481984 * U : Nat) = 18014398509481984 * (U : Int) := by rw [Int.natCast_mul]; rfl
  rw [lim] at f1 f2
  obtain ⟨p, e1, fp, a1, a2⟩ := f1 (by omega) (by omega)
  obtain ⟨q, e2, fq, b1, b2⟩ := f2 (by omega) (by omega)
  obtain ⟨s, e3, fs, c1, c2⟩ := add_err fp fq (by rw [lim]; omega) (by rw [lim]; omega)
  obtain ⟨t, e4, ft, d1, d2⟩ := sub_err fs fin_one (by rw [lim, sv_one]; omega) (by rw [lim, sv_one]; omega)
  rw [sv_one] at d1 d2
  exact ⟨p, q, s, t, e1, e2, e3, e4, abs_far ft fin_far43 sv_far43 (by omega) (by omega)⟩
theorem double_near {a b c d : Nat} {A B C D : Int} (ha : Sc a A) (hb : Sc b B) (hc : Sc c C) (hd : Sc d D) (h : NrC (A, B)) (k : NrD (A, B) (C, D)) :
    (∃ p q s t, double.mul a a = some p ∧ double.mul b b = some q ∧ double.sub p q = some s ∧ double.sub s c = some t ∧ double.order (rg t) 4418031234450456576 = some .lt) ∧
    (∃ p s t, double.mul a b = some p ∧ double.mul 4611686018427387904 p = some s ∧ double.sub s d = some t ∧ double.order (rg t) 4418031234450456576 = some .lt) := by
  obtain ⟨n1, n2⟩ := h
  obtain ⟨⟨k1, k2⟩, k3, k4⟩ := k
  simp only at n1 n2 k1 k2 k3 k4
  have hg : (0 : Int) ≤ (2 ^ 924 : Nat) := Int.natCast_nonneg _
  have m1 := Int.mul_le_mul_of_nonneg_right n1 hg
  have m2 := Int.mul_le_mul_of_nonneg_right n2 hg
  have l1 := Int.mul_le_mul_of_nonneg_right k1 hg
  have l2 := Int.mul_le_mul_of_nonneg_right k2 hg
  have l3 := Int.mul_le_mul_of_nonneg_right k3 hg
  have l4 := Int.mul_le_mul_of_nonneg_right k4 hg
  rw [Int.sub_mul, Int.add_mul, bnd_u, one_u] at m1 m2
  rw [Int.sub_mul, Int.sub_mul, Int.mul_assoc C, one_p, ← hc.2, bnd_u] at l1 l2
  rw [Int.sub_mul, Int.mul_assoc 2, Int.mul_assoc D, one_p, ← hd.2, bnd_u] at l3 l4
  have p1 := Int.mul_nonneg (sq_nonneg A) hg
  have p2 := Int.mul_nonneg (sq_nonneg B) hg
  have p3 := Int.mul_nonneg (sq_nonneg (A - B)) hg
  have p4 := Int.mul_nonneg (sq_nonneg (A + B)) hg
  have s3 : (A - B) * (A - B) = A * A + B * B - 2 * (A * B) := by
    rw [Int.sub_mul, Int.mul_sub, Int.mul_sub, Int.mul_comm B A]; omega
  have s4 : (A + B) * (A + B) = A * A + B * B + 2 * (A * B) := by
    rw [Int.add_mul, Int.mul_add, Int.mul_add, Int.mul_comm B A]; omega
  rw [s3, Int.sub_mul, Int.add_mul, Int.mul_assoc 2] at p3
  rw [s4, Int.add_mul, Int.add_mul, Int.mul_assoc 2] at p4
  have hu := U_pos
  have f1 := @mul_err a a A A ha ha
  have f2 := @mul_err b b B B hb hb
  have f3 := @mul_err a b A B ha hb
  have fc := hc.1
  have fd := hd.1
  generalize A * A * ((2 ^ 924 : Nat) : Int) = x at *
  generalize B * B * ((2 ^ 924 : Nat) : Int) = y at *
  generalize A * B * ((2 ^ 924 : Nat) : Int) = z at *
  have lim : (18014398509481984 * U : Nat) = 18014398509481984 * (U : Int) := by rw [Int.natCast_mul]; rfl
  rw [lim] at f1 f2 f3
  clear n1 n2 k1 k2 k3 k4 hg ha hb hc hd s3 s4
  refine ⟨?_, ?_⟩
  · obtain ⟨p, e1, fp, a1, a2⟩ := f1 (by omega) (by omega)
    obtain ⟨q, e2, fq, b1, b2⟩ := f2 (by omega) (by omega)
    obtain ⟨s, e3, fs, c1, c2⟩ := sub_err fp fq (by rw [lim]; omega) (by rw [lim]; omega)
    obtain ⟨t, e4, ft, d1, d2⟩ := sub_err fs fc (by rw [lim]; omega) (by rw [lim]; omega)
    exact ⟨p, q, s, t, e1, e2, e3, e4, abs_far ft fin_far42 sv_far42 (by omega) (by omega)⟩
  · obtain ⟨p, e1, fp, a1, a2⟩ := f3 (by omega) (by omega)
    obtain ⟨s, e3, fs, c1, c2⟩ := dbl_err fp (by rw [lim]; omega) (by rw [lim]; omega)
    obtain ⟨t, e4, ft, d1, d2⟩ := sub_err fs fd (by rw [lim]; omega) (by rw [lim]; omega)
    exact ⟨p, s, t, e1, e3, e4, abs_far ft fin_far42 sv_far42 (by omega) (by omega)⟩
theorem sc_eq {x y : Nat} {A : Int} (hx : Sc x A) (hy : Sc y A) : double.order x y = some .eq := by
  rw [order_eq (isN_of hx.1) (isN_of hy.1), hx.2, hy.2]
  congr 1
  exact Std.ReflCmp.compare_self
end Tp
end Go.Proofs.Ythfopepnofjcjaa
namespace Go.Proofs.Ythfopepnofjcjaa
open Go Ieee Fl
namespace Tp
set_option maxRecDepth 100000
noncomputable def ZJ (j : Nat) : Int × Int := rotZ (j / 16384) (swpZ (mirOf j) (ptZ (restOf j)))
noncomputable def FJ (j : Nat) : Nat × Nat := ptC (j / 16384) (mirOf j) (zOf (restOf j))
theorem sc_FJ (j : Nat) : Sc (FJ j).1 (ZJ j).1 ∧ Sc (FJ j).2 (ZJ j).2 := sc_pt _ _ _ (restOf_le j)
theorem ZJ_lo {q t : Nat} (h : t ≤ 8192) : ZJ (16384 * q + t) = rotZ q (ptZ t) := by
  unfold ZJ mirOf restOf
  rw [show (16384 * q + t) / 16384 = q by omega, show (16384 * q + t) % 16384 = t by omega, if_neg (by omega), decide_eq_false (by omega)]
  rfl
theorem ZJ_hi {q t : Nat} (h1 : 8192 < t) (h2 : t < 16384) : ZJ (16384 * q + t) = rotZ q (swpZ true (ptZ (16384 - t))) := by
  unfold ZJ mirOf restOf
  rw [show (16384 * q + t) / 16384 = q by omega, show (16384 * q + t) % 16384 = t by omega, if_pos h1, decide_eq_true h1]
theorem rot_four (n : Nat) (x : Int × Int) : rotZ (n + 4) x = rotZ n x := by
  show (-(-(rotZ n x).1), -(-(rotZ n x).2)) = _
  rw [Int.neg_neg, Int.neg_neg]
theorem rot_two (n : Nat) (x : Int × Int) : rotZ (n + 2) x = (-(rotZ n x).1, -(rotZ n x).2) := rfl
theorem rot_add (n : Nat) (x : Int × Int) : rotZ (n + 1) x = rotZ n (rotZ 1 x) := by
  induction n with
  | zero => rfl
  | succ n ih =>
    show (-(rotZ (n + 1) x).2, (rotZ (n + 1) x).1) = (-(rotZ n (rotZ 1 x)).2, (rotZ n (rotZ 1 x)).1)
    rw [ih]
theorem nrC_rot {z : Int × Int} (h : NrC z) : ∀ q, NrC (rotZ q z)
  | 0 => h
  | q + 1 => by
    have := nrC_rot h q
    unfold NrC at *
    show -(rotZ q z).2 * -(rotZ q z).2 + (rotZ q z).1 * (rotZ q z).1 - _ ≤ _ ∧ _ - (-(rotZ q z).2 * -(rotZ q z).2 + (rotZ q z).1 * (rotZ q z).1) ≤ _
    rw [Int.neg_mul_neg, Int.add_comm]
    exact this
theorem nrC_swp {z : Int × Int} (m : Bool) (h : NrC z) : NrC (swpZ m z) := by
  unfold swpZ
  split
  · unfold NrC at *
    show z.2 * z.2 + z.1 * z.1 - _ ≤ _ ∧ _ - (z.2 * z.2 + z.1 * z.1) ≤ _
    rw [Int.add_comm]
    exact h
  · exact h
theorem nrD_rot1 {A B C D : Int} (h : NrD (A, B) (C, D)) : NrD (-B, A) (-C, -D) := by
  have h' : (A * A - B * B - C * one75 ≤ bnd ∧ C * one75 - (A * A - B * B) ≤ bnd) ∧ (2 * (A * B) - D * one75 ≤ bnd ∧ D * one75 - 2 * (A * B) ≤ bnd) := h
  show ((-B) * (-B) - A * A - (-C) * one75 ≤ bnd ∧ (-C) * one75 - ((-B) * (-B) - A * A) ≤ bnd) ∧ (2 * ((-B) * A) - (-D) * one75 ≤ bnd ∧ (-D) * one75 - 2 * ((-B) * A) ≤ bnd)
  rw [Int.neg_mul_neg, Int.neg_mul, Int.neg_mul, Int.neg_mul, Int.mul_comm B A]
  generalize A * A = a at *
  generalize B * B = b at *
  generalize A * B = c at *
  generalize C * (one75 : Int) = x at *
  generalize D * (one75 : Int) = y at *
  generalize (bnd : Int) = u at *
  omega
theorem nrD_swp {A B C D : Int} (h : NrD (A, B) (C, D)) : NrD (B, A) (-C, D) := by
  have h' : (A * A - B * B - C * one75 ≤ bnd ∧ C * one75 - (A * A - B * B) ≤ bnd) ∧ (2 * (A * B) - D * one75 ≤ bnd ∧ D * one75 - 2 * (A * B) ≤ bnd) := h
  show (B * B - A * A - (-C) * one75 ≤ bnd ∧ (-C) * one75 - (B * B - A * A) ≤ bnd) ∧ (2 * (B * A) - D * one75 ≤ bnd ∧ D * one75 - 2 * (B * A) ≤ bnd)
  rw [Int.neg_mul, Int.mul_comm B A]
  generalize A * A = a at *
  generalize B * B = b at *
  generalize A * B = c at *
  generalize C * (one75 : Int) = x at *
  generalize D * (one75 : Int) = y at *
  generalize (bnd : Int) = u at *
  omega
theorem nrD_rot {z x : Int × Int} (h : NrD z x) : ∀ q, NrD (rotZ q z) (rotZ (2 * q) x)
  | 0 => h
  | q + 1 => by
    have := nrD_rot h q
    rw [show 2 * (q + 1) = 2 * q + 2 by omega, rot_two]
    exact nrD_rot1 this
theorem ptZ_zero : (ptZ 0).2 = 0 := by
  unfold ptZ
  rw [tab_zero]
  rfl
theorem ptZ_mid : (ptZ 8192).1 = (ptZ 8192).2 := by
  unfold ptZ
  have : (pt 8192).1 = (pt 8192).2 := by decide +kernel
  simp only [this]
theorem nrC_J (j : Nat) : NrC (ZJ j) := nrC_rot (nrC_swp _ (nr_pt (restOf_le j)).1) _
theorem nrD_J {j : Nat} (hj : j < 65536) : NrD (ZJ j) (ZJ (2 * j % 65536)) := by
  obtain ⟨q, t, rfl, hq, ht⟩ : ∃ q t, j = 16384 * q + t ∧ q < 4 ∧ t < 16384 := ⟨j / 16384, j % 16384, by omega, by omega, by omega⟩
  -- twice the quarter, less whole turns
  have hr : ∀ x : Int × Int, rotZ (2 * q % 4) x = rotZ (2 * q) x := fun x => by
    have hc : q = 0 ∨ q = 1 ∨ q = 2 ∨ q = 3 := by omega
    rcases hc with rfl | rfl | rfl | rfl
    · rfl
    · rfl
    · exact (rot_four 0 x).symm
    · exact (rot_four 2 x).symm
  have hr1 : ∀ x : Int × Int, rotZ ((2 * q + 1) % 4) x = rotZ (2 * q) (rotZ 1 x) := fun x => by
    rw [← rot_add]
    have hc : q = 0 ∨ q = 1 ∨ q = 2 ∨ q = 3 := by omega
    rcases hc with rfl | rfl | rfl | rfl
    · rfl
    · rfl
    · exact (rot_four 1 x).symm
    · exact (rot_four 3 x).symm
  rcases Nat.lt_or_ge 8192 t with h | h
  · have hz := nr_pt (r := 16384 - t) (by omega)
    rw [ZJ_hi h ht]
    rcases Nat.lt_or_ge t 12288 with h2 | h2
    · rw [show 2 * (16384 * q + t) % 65536 = 16384 * ((2 * q + 1) % 4) + (2 * t - 16384) by omega, ZJ_lo (by omega), hr1]
      refine nrD_rot ?_ q
      have := nrD_swp (hz.2.2 (by omega))
      rwa [show 16384 - 2 * (16384 - t) = 2 * t - 16384 by omega] at this
    · have hx := nrD_swp (hz.2.1 (by omega))
      rcases Nat.eq_or_lt_of_le h2 with h3 | h3
      · subst h3
        rw [show 2 * (16384 * q + 12288) % 65536 = 16384 * ((2 * q + 1) % 4) + 8192 by omega, ZJ_lo (by omega), hr1]
        refine nrD_rot ?_ q
        show NrD _ (-(ptZ 8192).2, (ptZ 8192).1)
        rw [ptZ_mid, ← ptZ_mid]
        exact hx
      · rw [show 2 * (16384 * q + t) % 65536 = 16384 * ((2 * q + 1) % 4) + (2 * t - 16384) by omega, ZJ_hi (by omega) (by omega), hr1]
        refine nrD_rot ?_ q
        rw [show 16384 - (2 * t - 16384) = 2 * (16384 - t) by omega]
        exact hx
  · have hz := nr_pt (r := t) (by omega)
    rw [ZJ_lo h]
    rcases Nat.lt_or_ge 4096 t with h2 | h2
    · rcases Nat.eq_or_lt_of_le h with h3 | h3
      · subst h3
        rw [show 2 * (16384 * q + 8192) % 65536 = 16384 * ((2 * q + 1) % 4) + 0 by omega, ZJ_lo (by omega), hr1]
        refine nrD_rot ?_ q
        have := hz.2.2 h2
        show NrD _ (-(ptZ 0).2, (ptZ 0).1)
        have e : swpZ true (ptZ (16384 - 2 * 8192)) = ((ptZ 0).2, (ptZ 0).1) := rfl
        rw [e, ptZ_zero] at this
        rw [ptZ_zero]
        exact this
      · rw [show 2 * (16384 * q + t) % 65536 = 16384 * (2 * q % 4) + 2 * t by omega, ZJ_hi (by omega) (by omega), hr]
        exact nrD_rot (hz.2.2 h2) q
    · rw [show 2 * (16384 * q + t) % 65536 = 16384 * (2 * q % 4) + 2 * t by omega, ZJ_lo (by omega), hr]
      exact nrD_rot (hz.2.1 h2) q
theorem neg_J {j : Nat} (hj : j < 65536) : ZJ ((65536 - j) % 65536) = ((ZJ j).1, -(ZJ j).2) := by
  obtain ⟨q, t, rfl, hq, ht⟩ : ∃ q t, j = 16384 * q + t ∧ q < 4 ∧ t < 16384 := ⟨j / 16384, j % 16384, by omega, by omega, by omega⟩
  have hc : q = 0 ∨ q = 1 ∨ q = 2 ∨ q = 3 := by omega
  have key : ∀ z : Int × Int, rotZ (3 - q) (swpZ true z) = ((rotZ q z).1, -(rotZ q z).2) := fun z => by
    rcases hc with rfl | rfl | rfl | rfl <;> simp [rotZ, swpZ]
  rcases Nat.eq_zero_or_pos t with h0 | h0
  · subst h0
    rw [ZJ_lo (by omega)]
    have e : (65536 - (16384 * q + 0)) % 65536 = 16384 * ((4 - q) % 4) + 0 := by omega
    rw [e, ZJ_lo (by omega)]
    have hz := ptZ_zero
    generalize ptZ 0 = z at *
    rcases hc with rfl | rfl | rfl | rfl <;> (apply Prod.ext <;> simp [rotZ, hz])
  · rw [show (65536 - (16384 * q + t)) % 65536 = 16384 * (3 - q) + (16384 - t) by omega]
    rcases Nat.lt_or_ge 8192 t with h | h
    · rw [ZJ_hi h ht, ZJ_lo (by omega), ← key]
      rfl
    · rw [ZJ_lo h]
      rcases Nat.eq_or_lt_of_le h with h3 | h3
      · subst h3
        rw [show 16384 - 8192 = 8192 from rfl, ZJ_lo (by omega), ← key]
        have e : swpZ true (ptZ 8192) = ptZ 8192 := by
          show ((ptZ 8192).2, (ptZ 8192).1) = _
          exact Prod.ext ptZ_mid.symm ptZ_mid
        rw [e]
      · rw [ZJ_hi (by omega) (by omega), ← key, show 16384 - (16384 - t) = t by omega]
end Tp
end Go.Proofs.Ythfopepnofjcjaa
namespace Go.Proofs.Ythfopepnofjcjaa
open Go.RowKit
def AtL (w : World) (g : Nat) (T : TypeId) (cs : Array Value) : Prop := w.heap[g]? = some (.cells cs T (0, 0))
section
variable {w w' : World} {g : Nat} {T : TypeId} {cs : Array Value}
theorem AtL.lt (h : AtL w g T cs) : g < w.heap.size := by
  rcases Nat.lt_or_ge g w.heap.size with h1 | h1
  · exact h1
  · unfold AtL at h; rw [Array.getElem?_eq_none h1] at h; cases h
theorem AtL.cell (h : AtL w g T cs) (i : Nat) {x : Value} (hx : cs[i]? = some x) : w.cell? ⟨g, i, none⟩ = some x := by rw [cell_of_row w g i _ _ (0, 0) h]; exact hx
theorem AtL.frozen (h : AtL w g T cs) (i : Nat) : w.frozen? ⟨g, i, none⟩ = false := frozen_of_row w g i _ _ h
theorem AtL.new (w : World) (T : TypeId) (cs : Array Value) : AtL (w.alloc (.cells cs T)) w.heap.size T cs := heap_alloc_new w _
theorem AtL.alloc' (h : AtL w g T cs) (o : Obj) : AtL (w.alloc o) g T cs := (Below.heap_alloc w o g h.lt).trans h
theorem AtL.below (h : AtL w g T cs) {B : Nat} (hb : Below B w w') (hg : g < B) : AtL w' g T cs := (hb.block g hg).trans h
theorem AtL.keep (h : AtL w g T cs) (hb : Below w.heap.size w w') : AtL w' g T cs := h.below hb h.lt
theorem AtL.set (h : AtL w g T cs) (i : Nat) (x : Value) : AtL (w.setCell ⟨g, i, none⟩ x) g T (cs.setIfInBounds i x) := heap_setCell_same w g i _ _ x h
end
end Go.Proofs.Ythfopepnofjcjaa
namespace Go.Proofs.Ythfopepnofjcjaa
open Go Go.RowKit
namespace Tp
set_option maxRecDepth 100000
@[go_sem] theorem st_complex {P : Program} {w : World} {a : Addr} {m : Mode} (k : FloatKind) (x y : Nat) : (store a (.complex k x y) m).run P w = stored P w a (.complex k x y) m := run_store P w a _ m rfl
@[go_sem] theorem st_float {P : Program} {w : World} {a : Addr} {m : Mode} (k : FloatKind) (x : Nat) : (store a (.float k x) m).run P w = stored P w a (.float k x) m := run_store P w a _ m rfl
def WayRes (W : World) (q r : Int) (m : Bool) (c : Int) (e : Ending) (w' : World) : Prop := e = .returned (.tuple #[.agg #[.int .i64 q, .int .i64 r, .bool m], .int .i64 c]) ∧ Below W.heap.size W w'
set_option maxHeartbeats 4000000 in
theorem parts_err (w : World) (k n c : Int) (hc : c ≠ 0) (HW : ∀ W, Calls Try.prog 22 #[.int .i64 k, .int .i64 n] W (WayRes W 0 0 false c)) : Calls Try.prog 6 #[.int .i64 k, .int .i64 n] w fun e w' => e = .returned (.tuple #[.complex .f64 0 0, .int .i64 c]) ∧ Below w.heap.size w w' := by
  have H := Lib.hid (HW w)
  clear HW
  go_enter Try.func6, Try.ntmps6
  go_wp2_with fail
  refine H.out.mono ?_
  rintro e w1 ⟨rfl, hb1⟩
  have HB := Lib.hid (below_alloc hb1 (Nat.le_refl _) (.cells #[.int .i64 0, .int .i64 0, .bool false] 56))
  clear hb1 H
  go_wp2_with fail
  go_ret2
  exact ⟨rfl, HB.out⟩
set_option maxHeartbeats 4000000 in
theorem parts_ok (w : World) (k n q r : Int) (m : Bool) (c d : Nat) (HW : ∀ W, Calls Try.prog 22 #[.int .i64 k, .int .i64 n] W (WayRes W q r m 0)) (HP : ∀ W, Below w.heap.size w W → Calls Try.prog 23 #[.agg #[.int .i64 q, .int .i64 r, .bool m]] W fun e w' => e = .returned (.complex .f64 c d) ∧ Below W.heap.size W w') : Calls Try.prog 6 #[.int .i64 k, .int .i64 n] w fun e w' => e = .returned (.tuple #[.complex .f64 c d, .int .i64 0]) ∧ Below w.heap.size w w' := by
  have H := Lib.hid (HW w)
  have HP := Lib.hid HP
  clear HW
  go_enter Try.func6, Try.ntmps6
  go_wp2_with fail
  refine H.out.mono ?_
  rintro e w1 ⟨rfl, hb1⟩
  have HB := Lib.hid (below_alloc hb1 (Nat.le_refl _) (.cells #[.int .i64 q, .int .i64 r, .bool m] 56))
  have HN := Lib.hid (At3.new w1 56 (.int .i64 q) (.int .i64 r) (.bool m))
  have x0 := HN.out.c0; have x1 := HN.out.c1; have x2 := HN.out.c2
  clear hb1 H
  go_wp2_with (go_at_call 23; refine (HP.out _ HB.out).mono ?_; rintro e w2 ⟨rfl, hb2⟩)
  have HB2 := Lib.hid (HB.out.trans (hb2.mono HB.out.size))
  go_ret2
  exact ⟨rfl, HB2.out⟩
set_option maxHeartbeats 4000000 in
theorem disc_err (w : World) (k n c : Int) (hc : c ≠ 0) (HW : ∀ W, Calls Try.prog 22 #[.int .i64 k, .int .i64 n] W (WayRes W 0 0 false c)) : Calls Try.prog 9 #[.int .i64 k, .int .i64 n] w fun e w' => e = .returned (.tuple #[.agg #[.complex .f64 0 0, .float .f64 0], .int .i64 c]) ∧ Below w.heap.size w w' := by
  have HA := Lib.hid (box1_below w (.cells #[.complex .f64 0 0, .float .f64 0] 29))
  have HD := Lib.hid (AtL.new w 29 #[.complex .f64 0 0, .float .f64 0])
  have H := Lib.hid (HW (w.alloc (.cells #[.complex .f64 0 0, .float .f64 0] 29)))
  clear HW
  go_enter Try.func9, Try.ntmps9
  go_wp2_with fail
  refine H.out.mono ?_
  generalize w.alloc (.cells #[.complex .f64 0 0, .float .f64 0] 29) = wa at *
  rintro e w1 ⟨rfl, hb1⟩
  have HB := Lib.hid (below_alloc (HA.out.trans (hb1.mono HA.out.size)) (Nat.le_refl _) (.cells #[.int .i64 0, .int .i64 0, .bool false] 56))
  have HD1 := Lib.hid ((HD.out.keep hb1).alloc' (.cells #[.int .i64 0, .int .i64 0, .bool false] 56))
  have k0 := HD1.out.cell 0 rfl; have k1 := HD1.out.cell 1 rfl; have q0 := HD1.out.frozen 0; have q1 := HD1.out.frozen 1
  have HD2 := Lib.hid ((HD1.out.set 0 (.complex .f64 0 0)).set 1 (.float .f64 0))
  have HE := Lib.hid ((HB.out.setCell (p := ⟨w.heap.size, 0, none⟩) (Nat.le_refl _) (.complex .f64 0 0)).setCell (p := ⟨w.heap.size, 1, none⟩) (Nat.le_refl _) (.float .f64 0))
  clear hb1 H HA HD HB
  go_wp2_with fail
  have r0 := HD2.out.cell 0 rfl; have r1 := HD2.out.cell 1 rfl
  exact bodyPost_ret (v := .tuple #[.agg #[.complex .f64 0 0, .float .f64 0], .int .i64 c]) (by simp [results, Try.results9, go_sem, r0, r1]) rfl ⟨rfl, HE.out⟩
set_option maxHeartbeats 4000000 in
theorem disc_zero (w : World) (k n q : Int) (m : Bool) (c d : Nat) (HW : ∀ W, Calls Try.prog 22 #[.int .i64 k, .int .i64 n] W (WayRes W q 0 m 0)) (HP : ∀ W, Below w.heap.size w W → Calls Try.prog 23 #[.agg #[.int .i64 q, .int .i64 0, .bool m]] W fun e w' => e = .returned (.complex .f64 c d) ∧ Below W.heap.size W w') : Calls Try.prog 9 #[.int .i64 k, .int .i64 n] w fun e w' => e = .returned (.tuple #[.agg #[.complex .f64 c d, .float .f64 0], .int .i64 0]) ∧ Below w.heap.size w w' := by
  have HP := Lib.hid HP
  have HA := Lib.hid (box1_below w (.cells #[.complex .f64 0 0, .float .f64 0] 29))
  have HD := Lib.hid (AtL.new w 29 #[.complex .f64 0 0, .float .f64 0])
  have H := Lib.hid (HW (w.alloc (.cells #[.complex .f64 0 0, .float .f64 0] 29)))
  clear HW
  go_enter Try.func9, Try.ntmps9
  go_wp2_with fail
  refine H.out.mono ?_
  generalize w.alloc (.cells #[.complex .f64 0 0, .float .f64 0] 29) = wa at *
  rintro e w1 ⟨rfl, hb1⟩
  have HB := Lib.hid (below_alloc (HA.out.trans (hb1.mono HA.out.size)) (Nat.le_refl _) (.cells #[.int .i64 q, .int .i64 0, .bool m] 56))
  have HD1 := Lib.hid ((HD.out.keep hb1).alloc' (.cells #[.int .i64 q, .int .i64 0, .bool m] 56))
  have HN := Lib.hid (At3.new w1 56 (.int .i64 q) (.int .i64 0) (.bool m))
  have x0 := HN.out.c0; have x1 := HN.out.c1; have x2 := HN.out.c2
  clear hb1 H HA HD
  go_wp2_with fail
  refine (HP.out _ HB.out).mono ?_
  generalize w1.alloc (.cells #[.int .i64 q, .int .i64 0, .bool m] 56) = wb at *
  rintro e w2 ⟨rfl, hb2⟩
  have HB2 := Lib.hid (HB.out.trans (hb2.mono HB.out.size))
  have HD2 := Lib.hid (HD1.out.keep hb2)
  have k0 := HD2.out.cell 0 rfl; have k1 := HD2.out.cell 1 rfl; have q0 := HD2.out.frozen 0; have q1 := HD2.out.frozen 1
  have HD3 := Lib.hid ((HD2.out.set 0 (.complex .f64 c d)).set 1 (.float .f64 0))
  have HE := Lib.hid ((HB2.out.setCell (p := ⟨w.heap.size, 0, none⟩) (Nat.le_refl _) (.complex .f64 c d)).setCell (p := ⟨w.heap.size, 1, none⟩) (Nat.le_refl _) (.float .f64 0))
  clear hb2 HB HD1 HB2 x0 x1 x2 HN
  go_wp2_with fail
  have r0 := HD3.out.cell 0 rfl; have r1 := HD3.out.cell 1 rfl
  exact bodyPost_ret (v := .tuple #[.agg #[.complex .f64 c d, .float .f64 0], .int .i64 0]) (by simp [results, Try.results9, go_sem, r0, r1]) rfl ⟨rfl, HE.out⟩
set_option maxHeartbeats 4000000 in
theorem disc_pos (w : World) (k n q r : Int) (m : Bool) (c d : Nat) (hr : ¬ r = 0) (HW : ∀ W, Calls Try.prog 22 #[.int .i64 k, .int .i64 n] W (WayRes W q r m 0)) (HP : ∀ W, Below w.heap.size w W → Calls Try.prog 23 #[.agg #[.int .i64 q, .int .i64 r, .bool m]] W fun e w' => e = .returned (.complex .f64 c d) ∧ Below W.heap.size W w') : Calls Try.prog 9 #[.int .i64 k, .int .i64 n] w fun e w' => e = .returned (.tuple #[.agg #[.complex .f64 c d, .float .f64 4409024035195715584], .int .i64 0]) ∧ Below w.heap.size w w' := by
  have HP := Lib.hid HP
  have HA := Lib.hid (box1_below w (.cells #[.complex .f64 0 0, .float .f64 0] 29))
  have HD := Lib.hid (AtL.new w 29 #[.complex .f64 0 0, .float .f64 0])
  have H := Lib.hid (HW (w.alloc (.cells #[.complex .f64 0 0, .float .f64 0] 29)))
  clear HW
  go_enter Try.func9, Try.ntmps9
  go_wp2_with fail
  refine H.out.mono ?_
  generalize w.alloc (.cells #[.complex .f64 0 0, .float .f64 0] 29) = wa at *
  rintro e w1 ⟨rfl, hb1⟩
  have HB := Lib.hid (below_alloc (HA.out.trans (hb1.mono HA.out.size)) (Nat.le_refl _) (.cells #[.int .i64 q, .int .i64 r, .bool m] 56))
  have HD1 := Lib.hid ((HD.out.keep hb1).alloc' (.cells #[.int .i64 q, .int .i64 r, .bool m] 56))
  have HN := Lib.hid (At3.new w1 56 (.int .i64 q) (.int .i64 r) (.bool m))
  have x0 := HN.out.c0; have x1 := HN.out.c1; have x2 := HN.out.c2
  clear hb1 H HA HD
  go_wp2_with fail
  refine (HP.out _ HB.out).mono ?_
  generalize w1.alloc (.cells #[.int .i64 q, .int .i64 r, .bool m] 56) = wb at *
  rintro e w2 ⟨rfl, hb2⟩
  have HB2 := Lib.hid (HB.out.trans (hb2.mono HB.out.size))
  have HD2 := Lib.hid (HD1.out.keep hb2)
  have k0 := HD2.out.cell 0 rfl; have k1 := HD2.out.cell 1 rfl; have q0 := HD2.out.frozen 0; have q1 := HD2.out.frozen 1
  have HD3 := Lib.hid ((HD2.out.set 0 (.complex .f64 c d)).set 1 (.float .f64 4409024035195715584))
  have HE := Lib.hid ((HB2.out.setCell (p := ⟨w.heap.size, 0, none⟩) (Nat.le_refl _) (.complex .f64 c d)).setCell (p := ⟨w.heap.size, 1, none⟩) (Nat.le_refl _) (.float .f64 4409024035195715584))
  clear hb2 HB HD1 HB2 x0 x1 x2 HN
  go_wp2_with fail
  have r0 := HD3.out.cell 0 rfl; have r1 := HD3.out.cell 1 rfl
  exact bodyPost_ret (v := .tuple #[.agg #[.complex .f64 c d, .float .f64 4409024035195715584], .int .i64 0]) (by simp [results, Try.results9, go_sem, r0, r1]) rfl ⟨rfl, HE.out⟩
theorem may_low (w : World) (n : Int) (hn : n < 0) : Calls Try.prog 24 #[.int .i64 n] w fun e w' => e = .returned (.int .i64 2) ∧ w = w' := by
  go_enter Try.func24, Try.ntmps24
  go_wp2
  go_ret
  exact ⟨rfl, rfl⟩
theorem may_high (w : World) (n : Int) (hn : 16 < n) : Calls Try.prog 24 #[.int .i64 n] w fun e w' => e = .returned (.int .i64 3) ∧ w = w' := by
  have n0 : ¬ n < 0 := by omega
  go_enter Try.func24, Try.ntmps24
  go_wp2
  go_ret
  exact ⟨rfl, rfl⟩
theorem may_mid (w : World) (n : Int) (h0 : 0 ≤ n) (h1 : n ≤ 16) : Calls Try.prog 24 #[.int .i64 n] w fun e w' => e = .returned (.int .i64 0) ∧ w = w' := by
  have n0 : ¬ n < 0 := by omega
  have n1 : ¬ n > 16 := by omega
  go_enter Try.func24, Try.ntmps24
  go_wp2
  go_ret
  exact ⟨rfl, rfl⟩
theorem rparts_err (w : World) (k n c : Int) (hc : c ≠ 0) (HM : ∀ w, Calls Try.prog 24 #[.int .i64 n] w fun e w' => e = .returned (.int .i64 c) ∧ w = w') : Calls Try.prog 7 #[.int .i64 k, .int .i64 n] w fun e w' => e = .returned (.tuple #[.complex .f64 0 0, .int .i64 c]) ∧ Below w.heap.size w w' := by
  have HM := Lib.hid HM
  go_enter Try.func7, Try.ntmps7
  go_wp2_with (go_at_call 24; refine (HM.out _).mono ?_; rintro e w' ⟨rfl, rfl⟩)
  go_ret2
  exact ⟨rfl, Below.refl _ _⟩
theorem rparts_ok (w : World) (k n : Int) (c d : Nat) (HM : ∀ w, Calls Try.prog 24 #[.int .i64 n] w fun e w' => e = .returned (.int .i64 0) ∧ w = w') (HP : ∀ W, Below w.heap.size w W → Calls Try.prog 25 #[.int .i64 k, .int .i64 n] W fun e w' => e = .returned (.complex .f64 c d) ∧ Below W.heap.size W w') : Calls Try.prog 7 #[.int .i64 k, .int .i64 n] w fun e w' => e = .returned (.tuple #[.complex .f64 c d, .int .i64 0]) ∧ Below w.heap.size w w' := by
  have HM := Lib.hid HM
  have HP := Lib.hid (HP w (Below.refl _ _))
  go_enter Try.func7, Try.ntmps7
  go_wp2_with (first | (go_at_call 24; refine (HM.out _).mono ?_; rintro e w' ⟨rfl, rfl⟩) | (go_at_call 25; refine HP.out.mono ?_; rintro e w2 ⟨rfl, hb2⟩))
  go_ret2
  exact ⟨rfl, hb2⟩
set_option maxHeartbeats 4000000 in
theorem rdisc_err (w : World) (k n c : Int) (hc : c ≠ 0) (HM : ∀ w, Calls Try.prog 24 #[.int .i64 n] w fun e w' => e = .returned (.int .i64 c) ∧ w = w') : Calls Try.prog 10 #[.int .i64 k, .int .i64 n] w fun e w' => e = .returned (.tuple #[.agg #[.complex .f64 0 0, .float .f64 0], .int .i64 c]) ∧ Below w.heap.size w w' := by
  have HA := Lib.hid (box1_below w (.cells #[.complex .f64 0 0, .float .f64 0] 29))
  have HD := Lib.hid (AtL.new w 29 #[.complex .f64 0 0, .float .f64 0])
  have HM := Lib.hid HM
  have k0 := HD.out.cell 0 rfl; have k1 := HD.out.cell 1 rfl; have q0 := HD.out.frozen 0; have q1 := HD.out.frozen 1
  have HD2 := Lib.hid ((HD.out.set 0 (.complex .f64 0 0)).set 1 (.float .f64 0))
  have HE := Lib.hid ((HA.out.setCell (p := ⟨w.heap.size, 0, none⟩) (Nat.le_refl _) (.complex .f64 0 0)).setCell (p := ⟨w.heap.size, 1, none⟩) (Nat.le_refl _) (.float .f64 0))
  go_enter Try.func10, Try.ntmps10
  go_wp2_with (go_at_call 24; refine (HM.out _).mono ?_; rintro e w' ⟨rfl, rfl⟩)
  have r0 := HD2.out.cell 0 rfl; have r1 := HD2.out.cell 1 rfl; have s0 := HD.out.cell 0 rfl; have s1 := HD.out.cell 1 rfl
  first
    | exact bodyPost_ret (v := .tuple #[.agg #[.complex .f64 0 0, .float .f64 0], .int .i64 c]) (by simp [results, Try.results10, go_sem, s0, s1]) rfl ⟨rfl, HA.out⟩
    | exact bodyPost_ret (v := .tuple #[.agg #[.complex .f64 0 0, .float .f64 0], .int .i64 c]) (by simp [results, Try.results10, go_sem, r0, r1]) rfl ⟨rfl, HE.out⟩
end Tp
end Go.Proofs.Ythfopepnofjcjaa
namespace Go.Proofs.Ythfopepnofjcjaa
open Go Go.RowKit
namespace Tp
set_option maxRecDepth 100000
set_option maxHeartbeats 4000000 in
theorem rdisc_pos (w : World) (k n : Int) (c d : Nat) (hc : (FloatKind.f64.format.order c 0 == some .eq) = false) (hd : (FloatKind.f64.format.order d 0 == some .eq) = false) (HM : ∀ w, Calls Try.prog 24 #[.int .i64 n] w fun e w' => e = .returned (.int .i64 0) ∧ w = w') (HP : ∀ W, Below w.heap.size w W → Calls Try.prog 25 #[.int .i64 k, .int .i64 n] W fun e w' => e = .returned (.complex .f64 c d) ∧ Below W.heap.size W w') : Calls Try.prog 10 #[.int .i64 k, .int .i64 n] w fun e w' => e = .returned (.tuple #[.agg #[.complex .f64 c d, .float .f64 4409024035195715584], .int .i64 0]) ∧ Below w.heap.size w w' := by
  have HA := Lib.hid (box1_below w (.cells #[.complex .f64 0 0, .float .f64 0] 29))
  have HD := Lib.hid (AtL.new w 29 #[.complex .f64 0 0, .float .f64 0])
  have HM := Lib.hid HM
  have HP := Lib.hid (HP _ HA.out)
  go_enter Try.func10, Try.ntmps10
  go_wp2_with (go_at_call 24; refine (HM.out _).mono ?_; rintro e w' ⟨rfl, rfl⟩)
  refine HP.out.mono ?_
  generalize w.alloc (.cells #[.complex .f64 0 0, .float .f64 0] 29) = wa at *
  rintro e w1 ⟨rfl, hb1⟩
  have HB := Lib.hid (below_alloc (HA.out.trans (hb1.mono HA.out.size)) (Nat.le_refl _) (.cells #[.complex .f64 c d, .float .f64 4409024035195715584] 29))
  have HD1 := Lib.hid ((HD.out.keep hb1).alloc' (.cells #[.complex .f64 c d, .float .f64 4409024035195715584] 29))
  have HN := Lib.hid (AtL.new w1 29 #[.complex .f64 c d, .float .f64 4409024035195715584])
  have x0 := HN.out.cell 0 rfl; have x1 := HN.out.cell 1 rfl; have y1 := HN.out.frozen 1
  have HSZ := hb1.size
  have hsz : w.heap.size ≠ w1.heap.size := by have := HD.out.lt; omega
  clear hb1 HA HD HP
  have k0 := HD1.out.cell 0 rfl; have k1 := HD1.out.cell 1 rfl; have q0 := HD1.out.frozen 0; have q1 := HD1.out.frozen 1
  have HD2 := Lib.hid ((HD1.out.set 0 (.complex .f64 c d)).set 1 (.float .f64 4409024035195715584))
  have HE := Lib.hid ((HB.out.setCell (p := ⟨w.heap.size, 0, none⟩) (Nat.le_refl _) (.complex .f64 c d)).setCell (p := ⟨w.heap.size, 1, none⟩) (Nat.le_refl _) (.float .f64 4409024035195715584))
  go_wp2_with fail
  have r0 := HD2.out.cell 0 rfl; have r1 := HD2.out.cell 1 rfl
  exact bodyPost_ret (v := .tuple #[.agg #[.complex .f64 c d, .float .f64 4409024035195715584], .int .i64 0]) (by simp [results, Try.results10, go_sem, r0, r1]) rfl ⟨rfl, HE.out⟩
set_option maxHeartbeats 4000000 in
theorem rdisc_z1 (w : World) (k n : Int) (c d : Nat) (hc : (FloatKind.f64.format.order c 0 == some .eq) = true) (HM : ∀ w, Calls Try.prog 24 #[.int .i64 n] w fun e w' => e = .returned (.int .i64 0) ∧ w = w') (HP : ∀ W, Below w.heap.size w W → Calls Try.prog 25 #[.int .i64 k, .int .i64 n] W fun e w' => e = .returned (.complex .f64 c d) ∧ Below W.heap.size W w') : Calls Try.prog 10 #[.int .i64 k, .int .i64 n] w fun e w' => e = .returned (.tuple #[.agg #[.complex .f64 c d, .float .f64 0], .int .i64 0]) ∧ Below w.heap.size w w' := by
  have HA := Lib.hid (box1_below w (.cells #[.complex .f64 0 0, .float .f64 0] 29))
  have HD := Lib.hid (AtL.new w 29 #[.complex .f64 0 0, .float .f64 0])
  have HM := Lib.hid HM
  have HP := Lib.hid (HP _ HA.out)
  go_enter Try.func10, Try.ntmps10
  go_wp2_with (go_at_call 24; refine (HM.out _).mono ?_; rintro e w' ⟨rfl, rfl⟩)
  refine HP.out.mono ?_
  generalize w.alloc (.cells #[.complex .f64 0 0, .float .f64 0] 29) = wa at *
  rintro e w1 ⟨rfl, hb1⟩
  have HB := Lib.hid (below_alloc (HA.out.trans (hb1.mono HA.out.size)) (Nat.le_refl _) (.cells #[.complex .f64 c d, .float .f64 4409024035195715584] 29))
  have HD1 := Lib.hid ((HD.out.keep hb1).alloc' (.cells #[.complex .f64 c d, .float .f64 4409024035195715584] 29))
  have HN := Lib.hid (AtL.new w1 29 #[.complex .f64 c d, .float .f64 4409024035195715584])
  have x0 := HN.out.cell 0 rfl; have x1 := HN.out.cell 1 rfl; have y1 := HN.out.frozen 1
  have HBz := Lib.hid (below_alloc (HA.out.trans (hb1.mono HA.out.size)) (Nat.le_refl _) (.cells #[.complex .f64 c d, .float .f64 0] 29))
  have HDz := Lib.hid ((HD.out.keep hb1).alloc' (.cells #[.complex .f64 c d, .float .f64 0] 29))
  have HNz := Lib.hid (AtL.new w1 29 #[.complex .f64 c d, .float .f64 0])
  have z0 := HNz.out.cell 0 rfl; have z1 := HNz.out.cell 1 rfl
  have k0 := HDz.out.cell 0 rfl; have k1 := HDz.out.cell 1 rfl; have q0 := HDz.out.frozen 0; have q1 := HDz.out.frozen 1
  have HD2 := Lib.hid ((HDz.out.set 0 (.complex .f64 c d)).set 1 (.float .f64 0))
  have HE := Lib.hid ((HBz.out.setCell (p := ⟨w.heap.size, 0, none⟩) (Nat.le_refl _) (.complex .f64 c d)).setCell (p := ⟨w.heap.size, 1, none⟩) (Nat.le_refl _) (.float .f64 0))
  clear hb1 HA HD HP HB HD1
  go_wp2_with fail
  have r0 := HD2.out.cell 0 rfl; have r1 := HD2.out.cell 1 rfl
  exact bodyPost_ret (v := .tuple #[.agg #[.complex .f64 c d, .float .f64 0], .int .i64 0]) (by simp [results, Try.results10, go_sem, r0, r1]) rfl ⟨rfl, HE.out⟩
set_option maxHeartbeats 4000000 in
theorem rdisc_z2 (w : World) (k n : Int) (c d : Nat) (hc : (FloatKind.f64.format.order c 0 == some .eq) = false) (hd : (FloatKind.f64.format.order d 0 == some .eq) = true) (HM : ∀ w, Calls Try.prog 24 #[.int .i64 n] w fun e w' => e = .returned (.int .i64 0) ∧ w = w') (HP : ∀ W, Below w.heap.size w W → Calls Try.prog 25 #[.int .i64 k, .int .i64 n] W fun e w' => e = .returned (.complex .f64 c d) ∧ Below W.heap.size W w') : Calls Try.prog 10 #[.int .i64 k, .int .i64 n] w fun e w' => e = .returned (.tuple #[.agg #[.complex .f64 c d, .float .f64 0], .int .i64 0]) ∧ Below w.heap.size w w' := by
  have HA := Lib.hid (box1_below w (.cells #[.complex .f64 0 0, .float .f64 0] 29))
  have HD := Lib.hid (AtL.new w 29 #[.complex .f64 0 0, .float .f64 0])
  have HM := Lib.hid HM
  have HP := Lib.hid (HP _ HA.out)
  go_enter Try.func10, Try.ntmps10
  go_wp2_with (go_at_call 24; refine (HM.out _).mono ?_; rintro e w' ⟨rfl, rfl⟩)
  refine HP.out.mono ?_
  generalize w.alloc (.cells #[.complex .f64 0 0, .float .f64 0] 29) = wa at *
  rintro e w1 ⟨rfl, hb1⟩
  have HB := Lib.hid (below_alloc (HA.out.trans (hb1.mono HA.out.size)) (Nat.le_refl _) (.cells #[.complex .f64 c d, .float .f64 4409024035195715584] 29))
  have HD1 := Lib.hid ((HD.out.keep hb1).alloc' (.cells #[.complex .f64 c d, .float .f64 4409024035195715584] 29))
  have HN := Lib.hid (AtL.new w1 29 #[.complex .f64 c d, .float .f64 4409024035195715584])
  have x0 := HN.out.cell 0 rfl; have x1 := HN.out.cell 1 rfl; have y1 := HN.out.frozen 1
  have HBz := Lib.hid (below_alloc (HA.out.trans (hb1.mono HA.out.size)) (Nat.le_refl _) (.cells #[.complex .f64 c d, .float .f64 0] 29))
  have HDz := Lib.hid ((HD.out.keep hb1).alloc' (.cells #[.complex .f64 c d, .float .f64 0] 29))
  have HNz := Lib.hid (AtL.new w1 29 #[.complex .f64 c d, .float .f64 0])
  have z0 := HNz.out.cell 0 rfl; have z1 := HNz.out.cell 1 rfl
  have k0 := HDz.out.cell 0 rfl; have k1 := HDz.out.cell 1 rfl; have q0 := HDz.out.frozen 0; have q1 := HDz.out.frozen 1
  have HD2 := Lib.hid ((HDz.out.set 0 (.complex .f64 c d)).set 1 (.float .f64 0))
  have HE := Lib.hid ((HBz.out.setCell (p := ⟨w.heap.size, 0, none⟩) (Nat.le_refl _) (.complex .f64 c d)).setCell (p := ⟨w.heap.size, 1, none⟩) (Nat.le_refl _) (.float .f64 0))
  clear hb1 HA HD HP HB HD1
  go_wp2_with fail
  have r0 := HD2.out.cell 0 rfl; have r1 := HD2.out.cell 1 rfl
  exact bodyPost_ret (v := .tuple #[.agg #[.complex .f64 c d, .float .f64 0], .int .i64 0]) (by simp [results, Try.results10, go_sem, r0, r1]) rfl ⟨rfl, HE.out⟩
end Tp
end Go.Proofs.Ythfopepnofjcjaa
namespace Go.Proofs.Ythfopepnofjcjaa
open Go Go.RowKit
namespace Tp
set_option maxRecDepth 100000
def sqTail (x : Nat) : Option Nat → Sem Value
  | some r => pure (.float .f64 r)
  | none => do pure (.float .f64 (← choose (.nanBits .f64 x x)))
theorem call_sqrt {x r : Nat} (h : FloatKind.f64.format.sqrt x = some r) (w : World) : (callFunc 85 #[.float .f64 x]).run Try.prog w = .ok (.value (.float .f64 r)) w := by
  rw [run_callFunc_extern (e := Extern.MathSqrt.sqrt) Try.func85 (by kernel_rfl) (by kernel_rfl) (by kernel_rfl) (by kernel_rfl)]
  have e : Extern.MathSqrt.sqrt #[.float .f64 x] = sqTail x (FloatKind.f64.format.sqrt x) := rfl
  rw [e, h]; rfl
theorem msqrt_any {x r : Nat} (h : FloatKind.f64.format.sqrt x = some r) (w : World) : Calls Try.prog 72 #[.float .f64 x] w fun e w' => e = .returned (.float .f64 r) ∧ w = w' := by
  have o1 := fun w => call_sqrt h w
  clear h
  go_enter Try.func72, Try.ntmps72
  go_wp2_with (simp only [o1])
  go_ret
  exact ⟨rfl, rfl⟩
noncomputable def sqF (x r : Nat) : Ev.Fact := ⟨72, [.float .f64 x], .float .f64 r⟩
theorem sqF_ok {x r : Nat} (h : FloatKind.f64.format.sqrt x = some r) : (sqF x r).ok := ⟨rfl, rfl, fun w _ _ => (msqrt_any h w).mono fun _ _ hh => ⟨hh.1, hh.2 ▸ Below.refl _ _⟩⟩
noncomputable def sqL : List Ev.Fact := [sqF 4602678819172646912 4604544271217802189, sqF 4605863345008909798 4606496786581982534, sqF 4606839602690999971 4607009347991985328, sqF 4607095883396001368 4607139046673687846, sqF 4607160732736852627 4607171569234046334, sqF 4607176994017031871 4607179706000002317, sqF 4607181062400009862 4607181740574479067, sqF 4607182079687248238 4607182249242036882, sqF 4607182334021027145 4607182376410422530, sqF 4607182397605219969 4607182408202612454, sqF 4607182413501314931 4607182416150665780, sqF 4607182417475341594 4607182418137679477, sqF 4607182418468848442 4607182418634432923, sqF 4607182418717225166 4607182418758621287]
theorem sqL_ok : ∀ x ∈ sqL, x.ok := by
  intro x hx
  simp only [sqL, List.mem_cons, List.not_mem_nil, or_false] at hx
  rcases hx with rfl | rfl | rfl | rfl | rfl | rfl | rfl | rfl | rfl | rfl | rfl | rfl | rfl | rfl <;> exact sqF_ok (by decide +kernel)
noncomputable def ptF (i a b : Nat) : Ev.Fact := ⟨50, [.int .i64 (i : Nat)], .complex .f64 a b⟩
theorem ptF_0 : (ptF 3 4604544271217802189 4604544271217802189).ok := Ev.Fact.by_run (n := 80) sqL_ok (by kernel_rfl) rfl
theorem ptF_1 : (ptF 4 4606496786581982534 4600565431771507043).ok := Ev.Fact.by_run (n := 80) sqL_ok (by kernel_rfl) rfl
theorem ptF_2 : (ptF 5 4607009347991985328 4596196889902818827).ok := Ev.Fact.by_run (n := 80) sqL_ok (by kernel_rfl) rfl
theorem ptF_3 : (ptF 6 4607139046673687846 4591727299969791020).ok := Ev.Fact.by_run (n := 80) sqL_ok (by kernel_rfl) rfl
theorem ptF_4 : (ptF 7 4607171569234046334 4587232218149935124).ok := Ev.Fact.by_run (n := 80) sqL_ok (by kernel_rfl) rfl
theorem ptF_5 : (ptF 8 4607179706000002317 4582730748936808062).ok := Ev.Fact.by_run (n := 80) sqL_ok (by kernel_rfl) rfl
theorem ptF_6 : (ptF 9 4607181740574479067 4578227681973159813).ok := Ev.Fact.by_run (n := 80) sqL_ok (by kernel_rfl) rfl
theorem ptF_7 : (ptF 10 4607182249242036882 4573724215515480178).ok := Ev.Fact.by_run (n := 80) sqL_ok (by kernel_rfl) rfl
theorem ptF_8 : (ptF 11 4607182376410422530 4569220649180767419).ok := Ev.Fact.by_run (n := 80) sqL_ok (by kernel_rfl) rfl
theorem ptF_9 : (ptF 12 4607182408202612454 4564717057876576046).ok := Ev.Fact.by_run (n := 80) sqL_ok (by kernel_rfl) rfl
theorem ptF_10 : (ptF 13 4607182416150665780 4560213460330001249).ok := Ev.Fact.by_run (n := 80) sqL_ok (by kernel_rfl) rfl
theorem ptF_11 : (ptF 14 4607182418137679477 4555709861222829735).ok := Ev.Fact.by_run (n := 80) sqL_ok (by kernel_rfl) rfl
theorem ptF_12 : (ptF 15 4607182418634432923 4551206261725508989).ok := Ev.Fact.by_run (n := 80) sqL_ok (by kernel_rfl) rfl
theorem ptF_13 : (ptF 16 4607182418758621287 4546702662130650930).ok := Ev.Fact.by_run (n := 80) sqL_ok (by kernel_rfl) rfl
theorem part_any (w : World) (i : Nat) (hi : i < 14) (hG : Try.prog.globals.size ≤ w.heap.size) : Calls Try.prog 50 #[.int .i64 ((i + 3 : Nat) : Int)] w fun e w' => e = .returned (.complex .f64 (pl.getD i (0, 0)).1 (pl.getD i (0, 0)).2) ∧ Below w.heap.size w w' := by
  rcases (show i = 0 ∨ i = 1 ∨ i = 2 ∨ i = 3 ∨ i = 4 ∨ i = 5 ∨ i = 6 ∨ i = 7 ∨ i = 8 ∨ i = 9 ∨ i = 10 ∨ i = 11 ∨ i = 12 ∨ i = 13 by omega) with rfl | rfl | rfl | rfl | rfl | rfl | rfl | rfl | rfl | rfl | rfl | rfl | rfl | rfl
  · exact ptF_0.2.2 w hG trivial
  · exact ptF_1.2.2 w hG trivial
  · exact ptF_2.2.2 w hG trivial
  · exact ptF_3.2.2 w hG trivial
  · exact ptF_4.2.2 w hG trivial
  · exact ptF_5.2.2 w hG trivial
  · exact ptF_6.2.2 w hG trivial
  · exact ptF_7.2.2 w hG trivial
  · exact ptF_8.2.2 w hG trivial
  · exact ptF_9.2.2 w hG trivial
  · exact ptF_10.2.2 w hG trivial
  · exact ptF_11.2.2 w hG trivial
  · exact ptF_12.2.2 w hG trivial
  · exact ptF_13.2.2 w hG trivial
end Tp
end Go.Proofs.Ythfopepnofjcjaa
