/- Contracts, in this order: diapasonlaw07.TurnNear answers true. -/
import Derived.Test.YthfopepnofjcjaaTr27
namespace Go.Proofs.Ythfopepnofjcjaa
open Go Go.RowKit Ieee Fl
namespace Tp
set_option maxRecDepth 100000
theorem wrap_in {x : Int} (h1 : -300000 < x) (h2 : x < 300000) : wrap64 x = x := by unfold wrap64; omega
structure NF (k n a : Int) (m M : Nat) (K : Int) : Prop where
  e1 : n.tmod 17 = a
  e2 : wrap64 (a + 17) = a + 17
  e3 : (a + 17).tmod 17 = (m : Int)
  m16 : m ≤ 16
  e4 : wrap64 (2 ^ m) = (M : Int)
  M0 : ¬ (M : Int) = 0
  M1 : M ≤ 65536
  eP : (2 : Int) ^ m = (M : Int)
  e5 : k.tmod M = K
  k1 : -65536 < K
  k2 : K < 65536
  e6 : wrap64 (-K) = -K
  e7 : wrap64 (2 * K) = 2 * K
  e8 : wrap64 (4 * K) = 4 * K
  e9 : wrap64 ((m : Int) + 1) = (m : Int) + 1
theorem near_facts (k n : Int) : ∃ a m M K, NF k n a m M K := by
  obtain ⟨a, ha⟩ : ∃ a, n.tmod 17 = a := ⟨_, rfl⟩
  have ha1 : -17 < a ∧ a < 17 := by
    have e1 := Int.tmod_lt_of_pos n (show (0 : Int) < 17 by omega)
    have e2 := Int.tmod_lt_of_pos (-n) (show (0 : Int) < 17 by omega)
    rw [Int.neg_tmod] at e2
    omega
  obtain ⟨m, hm⟩ : ∃ m : Nat, (a + 17).tmod 17 = (m : Int) := by
    rw [Int.tmod_eq_emod_of_nonneg (by omega)]
    exact ⟨((a + 17) % 17).toNat, by omega⟩
  have hm16 : m ≤ 16 := by
    have := Int.tmod_lt_of_pos (a + 17) (show (0 : Int) < 17 by omega)
    omega
  have w1 : wrap64 (a + 17) = a + 17 := wrap_in (by omega) (by omega)
  have w2 : wrap64 ((m : Int) + 1) = (m : Int) + 1 := wrap_in (by omega) (by omega)
  obtain ⟨M, eM, hM0, hM1, -⟩ := pow_bd hm16
  have eI : (2 : Int) ^ m = (M : Int) := by rw [← eM, Int.natCast_pow]; rfl
  clear eM
  have w3 : wrap64 (2 ^ m) = (M : Int) := by rw [eI]; clear eI; exact wrap_in (by omega) (by omega)
  obtain ⟨K, hK⟩ : ∃ K, k.tmod M = K := ⟨_, rfl⟩
  have hK1 : -65536 < K ∧ K < 65536 := by
    clear eI w3
    have e1 := Int.tmod_lt_of_pos k (show (0 : Int) < (M : Int) by omega)
    have e2 := Int.tmod_lt_of_pos (-k) (show (0 : Int) < (M : Int) by omega)
    rw [Int.neg_tmod] at e2
    omega
  refine ⟨a, m, M, K, ha, w1, hm, hm16, w3, ?_, hM1, eI, hK, hK1.1, hK1.2, ?_, ?_, ?_, w2⟩
  · clear eI w3; omega
  all_goals (clear eI w3; exact wrap_in (by omega) (by omega))
set_option maxHeartbeats 8000000 in
theorem turnNear_any (w : World) (k n : Int) (_ : -9223372036854775808 ≤ k) (_ : k ≤ 9223372036854775807) (_ : -9223372036854775808 ≤ n) (_ : n ≤ 9223372036854775807) (hG : Try.prog.globals.size ≤ w.heap.size) (_ : Tab w) :
    Calls Try.prog 5 #[.int .i64 k, .int .i64 n] w fun e w' => e = .returned (.bool true) ∧ Below w.heap.size w w' := by
  obtain ⟨a, m, M, K, F⟩ := near_facts k n
  have hj := jN_lt K m
  have nC := nrC_J (jN K m)
  have nD := nrD_J hj
  have sz := sc_FJ (jN K m)
  have su := sc_FJ (jN (2 * K) m)
  have sw := sc_FJ (jN (-K) m)
  rw [jN_two] at su
  rw [jN_neg, neg_J hj] at sw
  have Hz := Lib.hid (fun W (h : Below w.heap.size w W) => partsJ W K m F.m16 (Nat.le_trans hG h.size))
  have Hw := Lib.hid (fun W (h : Below w.heap.size w W) => partsJ W (-K) m F.m16 (Nat.le_trans hG h.size))
  have Hu := Lib.hid (fun W (h : Below w.heap.size w W) => partsJ W (2 * K) m F.m16 (Nat.le_trans hG h.size))
  have hv0 : ∀ (hm : m < 16) W (h : Below w.heap.size w W), Calls Try.prog 6 #[.int .i64 (2 * K), .int .i64 ((m : Int) + 1)] W fun x w' => x = .returned (.tuple #[.complex .f64 (FJ (jN K m)).1 (FJ (jN K m)).2, .int .i64 0]) ∧ Below W.heap.size W w' := fun hm W h => by
    have := partsJ W (2 * K) (m + 1) (by omega) (Nat.le_trans hG h.size)
    rw [jN_fine K hm, Int.natCast_add] at this
    exact this
  have Hv := Lib.hid hv0
  clear hv0
  have Hd := Lib.hid (fun W (h : Below w.heap.size w W) => discJ W K m F.m16 (Nat.le_trans hG h.size))
  have HW := Lib.hid (fun W (h : Below w.heap.size w W) => (Ev.works7_ok.2.2 W (Nat.le_trans hG h.size) trivial : Calls Try.prog 12 #[] W fun e w' => e = .returned (.bool true) ∧ Below W.heap.size W w'))
  have hqt := jN_quarter K F.m16
  rw [F.eP] at hqt
  rw [jN_two] at Hu
  rw [jN_neg] at Hw
  generalize ZJ (jN K m) = Z at *
  generalize ZJ (2 * jN K m % 65536) = X at *
  generalize FJ (jN K m) = z at *
  generalize FJ (2 * jN K m % 65536) = u at *
  generalize FJ ((65536 - jN K m) % 65536) = v at *
  generalize restOf (jN K m) = rr at *
  obtain ⟨zx, zy⟩ := z
  obtain ⟨ux, uy⟩ := u
  obtain ⟨vx, vy⟩ := v
  obtain ⟨ZX, ZY⟩ := Z
  obtain ⟨XX, XY⟩ := X
  simp only at sz su sw Hz Hw Hu Hv Hd
  obtain ⟨p, q, s, t, c1, c2, c3, c4, c5⟩ := circle_near sz.1 sz.2 nC
  obtain ⟨⟨p', q', s2, t2, d1, d2, d3, d4, d5⟩, p3, s3, t3, d6, d7, d8, d9⟩ := double_near sz.1 sz.2 su.1 su.2 nC nD
  obtain rfl : p = p' := Option.some.inj (c1.symm.trans d1)
  obtain rfl : q = q' := Option.some.inj (c2.symm.trans d2)
  have N1 := Lib.hid (fun W => near_any W c4 c5)
  have N2 := Lib.hid (fun W => near_any W d4 d5)
  have N3 := Lib.hid (fun W => near_any W d8 d9)
  have O1 := Lib.hid (show ∀ y w, (binOp .mul y (.float .f64 zx) (.float .f64 zx)).run Try.prog w = .ok (.float .f64 p) w from fun y w => run_float_arith w .mul y .f64 _ _ _ c1)
  have O2 := Lib.hid (show ∀ y w, (binOp .mul y (.float .f64 zy) (.float .f64 zy)).run Try.prog w = .ok (.float .f64 q) w from fun y w => run_float_arith w .mul y .f64 _ _ _ c2)
  have O3 := Lib.hid (show ∀ y w, (binOp .add y (.float .f64 p) (.float .f64 q)).run Try.prog w = .ok (.float .f64 s) w from fun y w => run_float_arith w .add y .f64 _ _ _ c3)
  have O4 := Lib.hid (show ∀ y w, (binOp .sub y (.float .f64 p) (.float .f64 q)).run Try.prog w = .ok (.float .f64 s2) w from fun y w => run_float_arith w .sub y .f64 _ _ _ d3)
  have O5 := Lib.hid (show ∀ y w, (binOp .mul y (.float .f64 zx) (.float .f64 zy)).run Try.prog w = .ok (.float .f64 p3) w from fun y w => run_float_arith w .mul y .f64 _ _ _ d6)
  have O6 := Lib.hid (show ∀ y w, (binOp .mul y (.float .f64 4611686018427387904) (.float .f64 p3)).run Try.prog w = .ok (.float .f64 s3) w from fun y w => run_float_arith w .mul y .f64 _ _ _ d7)
  have F1 := Lib.hid (show FloatKind.f64.format.order vx zx = some .eq from sc_eq sw.1 sz.1)
  have F2 := Lib.hid (show FloatKind.f64.format.order vy (Op.negFloat .f64 zy) = some .eq from sc_eq sw.2 (sc_neg sz.2))
  have F3 := Lib.hid (show FloatKind.f64.format.order zx zx = some .eq from sc_eq sz.1 sz.1)
  have F4 := Lib.hid (show FloatKind.f64.format.order zy zy = some .eq from sc_eq sz.2 sz.2)
  have HF := Lib.hid F
  have HQ := Lib.hid hqt
  have e1 := F.e1; have e2 := F.e2; have e3 := F.e3; have e4 := F.e4; have M0 := F.M0; have e5 := F.e5; have m16 := F.m16
  have n0 : ¬ (m : Int) < 0 := by omega
  have mm : min m 64 = m := by omega
  have HG := Lib.hid hG
  have HB0 := Lib.hid (Below.refl w.heap.size w)
  clear F hG hj nC nD sz su sw hqt c1 c2 c3 c4 c5 d1 d2 d3 d4 d5 d6 d7 d8 d9
  go_enter Try.func5, Try.ntmps5
  go_wp2_with fail
  refine (Hz.out _ HB0.out).mono ?_
  rintro e w1 ⟨rfl, hw⟩
  have HB1 := Lib.hid (HB0.out.trans (hw.mono HB0.out.size))
  clear hw HB0 e1 e2 e3 e4 M0 e5 m16 n0 mm
  have e6 := HF.out.e6
  go_wp2_with fail
  refine (Hw.out _ HB1.out).mono ?_
  rintro e w2 ⟨rfl, hw⟩
  have HB2 := Lib.hid (HB1.out.trans (hw.mono HB1.out.size))
  clear hw HB1
  clear e6
  have o1 := O1.out; have o2 := O2.out; have o3 := O3.out
  go_wp2_with (first | simp only [o1, o2, o3] | fail)
  refine (N1.out _).mono ?_
  rintro e w3 ⟨rfl, rfl⟩
  clear o1 o2 o3
  have f1 := F1.out; have f2 := F2.out
  have e7 := HF.out.e7
  go_wp2_with fail
  clear f1 f2 e7
  refine (Hu.out _ HB2.out).mono ?_
  rintro e w4 ⟨rfl, hw⟩
  have HB4 := Lib.hid (HB2.out.trans (hw.mono HB2.out.size))
  clear hw HB2
  have o1 := O1.out; have o2 := O2.out; have o4 := O4.out
  go_wp2_with (first | simp only [o1, o2, o4] | fail)
  refine (N2.out _).mono ?_
  rintro e w5 ⟨rfl, rfl⟩
  clear o1 o2 o4
  have o5 := O5.out; have o6 := O6.out
  go_wp2_with (first | simp only [o5, o6] | fail)
  refine (N3.out _).mono ?_
  rintro e w6 ⟨rfl, rfl⟩
  clear o5 o6
  have m16 := HF.out.m16
  have n0 : ¬ (m : Int) < 0 := by omega
  have mm : min m 64 = m := by omega
  by_cases hm : m < 16
  · have hmi : (m : Int) < 16 := by omega
    have e7 := HF.out.e7
    have e9 := HF.out.e9
    go_wp2_with fail
    refine (Hv.out hm _ HB4.out).mono ?_
    rintro e w7 ⟨rfl, hw⟩
    have HB7 := Lib.hid (HB4.out.trans (hw.mono HB4.out.size))
    clear hw HB4 e7 e9 hmi
    have f3 := F3.out; have f4 := F4.out
    go_wp2_with fail
    clear f3 f4
    obtain ⟨r, hr, HD⟩ := Hd.out _ HB7.out
    refine HD.mono ?_
    rintro e w8 ⟨rfl, hw⟩
    have HB8 := Lib.hid (HB7.out.trans (hw.mono HB7.out.size))
    clear hw HB7 HD Hd Hv
    have f3 := F3.out; have f4 := F4.out
    have e8 := HF.out.e8
    have eP := HF.out.eP
    have M0 := HF.out.M0
    have e4 := HF.out.e4
    rcases hr with ⟨h0, rfl⟩ | ⟨h0, rfl⟩
    · have tq : (4 * K).tmod (M : Int) = 0 := Int.tmod_eq_zero_of_dvd (Int.dvd_of_emod_eq_zero (HQ.out.1 h0))
      clear h0 eP
      go_wp2_with fail
      have HBx := Lib.hid (HB8.out.trans ((box1_below w8 (.cells #[.complex .f64 zx zy, .float .f64 0] 29)).mono HB8.out.size))
      refine (HW.out _ HBx.out).mono ?_
      rintro e w9 ⟨rfl, hw⟩
      have HB9 := Lib.hid (HBx.out.trans (hw.mono HBx.out.size))
      clear hw HB8 HBx
      go_wp2_with fail
      go_ret
      exact ⟨rfl, HB9.out⟩
    · have tq : ((4 * K).tmod (M : Int) == 0) = false := beq_eq_false_iff_ne.2 fun h => h0 (HQ.out.2 (Int.emod_eq_zero_of_dvd (Int.dvd_of_tmod_eq_zero h)))
      clear h0 eP
      go_wp2_with fail
      have HBx := Lib.hid (HB8.out.trans ((box1_below w8 (.cells #[.complex .f64 zx zy, .float .f64 4409024035195715584] 29)).mono HB8.out.size))
      refine (HW.out _ HBx.out).mono ?_
      rintro e w9 ⟨rfl, hw⟩
      have HB9 := Lib.hid (HBx.out.trans (hw.mono HBx.out.size))
      clear hw HB8 HBx
      go_wp2_with fail
      go_ret
      exact ⟨rfl, HB9.out⟩
  · have hmi : ¬ (m : Int) < 16 := by omega
    go_wp2_with fail
    obtain ⟨r, hr, HD⟩ := Hd.out _ HB4.out
    refine HD.mono ?_
    rintro e w8 ⟨rfl, hw⟩
    have HB8 := Lib.hid (HB4.out.trans (hw.mono HB4.out.size))
    clear hw HB4 HD Hd Hv
    have f3 := F3.out; have f4 := F4.out
    have e8 := HF.out.e8
    have eP := HF.out.eP
    have M0 := HF.out.M0
    have e4 := HF.out.e4
    rcases hr with ⟨h0, rfl⟩ | ⟨h0, rfl⟩
    · have tq : (4 * K).tmod (M : Int) = 0 := Int.tmod_eq_zero_of_dvd (Int.dvd_of_emod_eq_zero (HQ.out.1 h0))
      clear h0 eP
      go_wp2_with fail
      have HBx := Lib.hid (HB8.out.trans ((box1_below w8 (.cells #[.complex .f64 zx zy, .float .f64 0] 29)).mono HB8.out.size))
      refine (HW.out _ HBx.out).mono ?_
      rintro e w9 ⟨rfl, hw⟩
      have HB9 := Lib.hid (HBx.out.trans (hw.mono HBx.out.size))
      clear hw HB8 HBx
      go_wp2_with fail
      go_ret
      exact ⟨rfl, HB9.out⟩
    · have tq : ((4 * K).tmod (M : Int) == 0) = false := beq_eq_false_iff_ne.2 fun h => h0 (HQ.out.2 (Int.emod_eq_zero_of_dvd (Int.dvd_of_tmod_eq_zero h)))
      clear h0 eP
      go_wp2_with fail
      have HBx := Lib.hid (HB8.out.trans ((box1_below w8 (.cells #[.complex .f64 zx zy, .float .f64 4409024035195715584] 29)).mono HB8.out.size))
      refine (HW.out _ HBx.out).mono ?_
      rintro e w9 ⟨rfl, hw⟩
      have HB9 := Lib.hid (HBx.out.trans (hw.mono HBx.out.size))
      clear hw HB8 HBx
      go_wp2_with fail
      go_ret
      exact ⟨rfl, HB9.out⟩
end Tp
end Go.Proofs.Ythfopepnofjcjaa
