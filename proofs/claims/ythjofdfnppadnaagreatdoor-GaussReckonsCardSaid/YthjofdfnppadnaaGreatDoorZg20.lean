/- Contracts, in this order: exact: Mul. · exact: Neg, Sign, IsWhole, Num, Den. · exact: Cmp. exact: Sub, Quo, Cmp. · exact: Size, Frac. · exact: Frac. · exact: mayBeBytes, Read. · ref90, ref00: numbers of 64 bits; bytes to a number. · ref90: numbers and fractions in memory, as what is known of  · ref90: the bytes of a size. -/
import Derived.Test.YthjofdfnppadnaaGreatDoorZg19
import Derived.Laws.IdiomStrings
import Derived.Lib.ConvBytes
import Derived.Laws.AppendOwn
import Derived.Lib.AtoiErrMem
import Derived.Test.YthjofdfnppadnaaGreatDoorZg15
import Derived.Test.YthjofdfnppadnaaGreatDoorZg13
import Derived.Laws.MakeOwn
namespace Go.Proofs.YthjofdfnppadnaaGreatDoor
open Go.RowKit
set_option maxRecDepth 100000 in
set_option maxHeartbeats 4000000 in
theorem exMul_any (w : World) (vx vy : Value) (q r : Rat) (k : Nat) (hx : NumIn w vx q) (hy : NumIn w vy r) (sx : Sm k q) (sy : Sm k r) (hk : k ≤ 10000000) :
    Calls Tryz.prog 74 #[vx, vy] w (Num1 w (q * r)) := by
  obtain ⟨A, l, c, A2, l2, c2, rfl, hx1, hx2⟩ := hx.is_agg
  obtain ⟨B, m, d, B2, m2, d2, rfl, hy1, hy2⟩ := hy.is_agg
  have HX := Lib.hid (And.intro hx1 hx2); have HY := Lib.hid (And.intro hy1 hy2)
  have SX := Lib.hid sx; have SY := Lib.hid sy
  have GX := Lib.hid (And.intro (@Big.ng_pos q) (And.intro (@Big.ng_pos r) (And.intro (Big.de_pos q) (Big.de_pos r))))
  have PP := Lib.hid (Big.mul_parts q r)
  clear hx hy hx1 hx2 hy1 hy2 sx sy
  obtain ⟨g1, hg1⟩ : ∃ z, Nat.gcd (Big.nu q) (Big.de r) = z := ⟨_, rfl⟩
  obtain ⟨g2, hg2⟩ : ∃ z, Nat.gcd (Big.nu r) (Big.de q) = z := ⟨_, rfl⟩
  have HG := Lib.hid (And.intro hg1 hg2)
  rw [hg1, hg2] at PP
  clear hg1 hg2
  generalize Big.ng q = nq at *
  generalize Big.ng r = nr at *
  go_enter Tryz.func74, Tryz.ntmps74
  go_wp2_with fail
  obtain ⟨X0, Y0, R0, B0⟩ := boxed3 w 71 71 (.bool nq) (.slice A l c) (.slice A2 l2 c2) (.bool nr) (.slice B m d) (.slice B2 m2 d2) (.bool false) (.slice none 0 0) (.slice none 0 0)
  have HX0 := Lib.hid X0; have HY0 := Lib.hid Y0; have HR0 := Lib.hid R0; have HB0 := Lib.hid B0
  clear X0 Y0 R0 B0
  generalize ((w.alloc (.cells #[.bool nq, .slice A l c, .slice A2 l2 c2] 71)).alloc (.cells #[.bool nr, .slice B m d, .slice B2 m2 d2] 71)).alloc (.cells #[.bool false, .slice none 0 0, .slice none 0 0] 71) = w0 at *
  have KX := Lib.hid (fun W (h : Below w0.heap.size w0 W) => And.intro (HX0.out.keep h).c1 (And.intro (HX0.out.keep h).c2 (And.intro (HY0.out.keep h).c1 (HY0.out.keep h).c2)))
  have C1 := Lib.hid (fun W (h : Below w0.heap.size w0 W) => lift2 h (HG.out.1 ▸ gcd_num W _ _ _ _ k k ((HX.out.1.keep HB0.out).keep h) ((HY.out.2.keep HB0.out).keep h) SX.out.nu SY.out.de (by omega) (by omega)))
  have C2 := Lib.hid (fun W (h : Below w0.heap.size w0 W) => lift2 h (HG.out.2 ▸ gcd_num W _ _ _ _ k k ((HY.out.1.keep HB0.out).keep h) ((HX.out.2.keep HB0.out).keep h) SY.out.nu SX.out.de (by omega) (by omega)))
  go_wp2_with fail
  go_region_held3 (fun w' => w'.cell? ⟨w.heap.size, 1, none⟩ = some (.slice A l c) ∧ w'.cell? ⟨w.heap.size, 2, none⟩ = some (.slice A2 l2 c2) ∧ w'.cell? ⟨w.heap.size + 1, 1, none⟩ = some (.slice B m d) ∧ w'.cell? ⟨w.heap.size + 1, 2, none⟩ = some (.slice B2 m2 d2))
    (exact KX.out _ (by first | assumption | exact Below.refl _ _ | exact below_drew (Below.refl _ _) | exact below_drew (by assumption)))
    (first
      | (go_at_call 117; (with_reducible refine (C1.out _ (by first | assumption | exact Below.refl _ _ | exact below_drew (Below.refl _ _) | exact below_drew (by assumption))).mono ?_); rintro e w2 ⟨v2, rfl, hv2, hw2, hw2'⟩)
      | (go_at_call 117; (with_reducible refine (C2.out _ (by first | assumption | exact Below.refl _ _ | exact below_drew (Below.refl _ _) | exact below_drew (by assumption))).mono ?_); rintro e w3 ⟨v3, rfl, hv3, hw3, hw3'⟩)
      | fail)
  have HB3 := Lib.hid (HB0.out.trans (hw3.mono HB0.out.size))
  have HX3 := Lib.hid (HX0.out.keep hw3); have HY3 := Lib.hid (HY0.out.keep hw3); have HR3 := Lib.hid (HR0.out.keep hw3)
  have HV := Lib.hid (And.intro (hv2.keep hw3') hv3)
  clear hv2 hw2 hw2' hv3 hw3 hw3' HX0 HY0 HR0 HB0 KX C1 C2
  have KX := Lib.hid (fun W (h : Below w3.heap.size w3 W) => And.intro (HX3.out.keep h).c1 (HY3.out.keep h).c1)
  have C1 := Lib.hid (fun W (h : Below w3.heap.size w3 W) => lift2 h (quo_num W _ _ _ _ k ((HX.out.1.keep HB3.out).keep h) (HV.out.1.keep h) SX.out.nu (by omega)))
  have C2 := Lib.hid (fun W (h : Below w3.heap.size w3 W) => lift2 h (quo_num W _ _ _ _ k ((HY.out.1.keep HB3.out).keep h) (HV.out.2.keep h) SY.out.nu (by omega)))
  have CM := Lib.hid (fun W a b (ha : NatIn W a (Big.nu q / g1)) (hb : NatIn W b (Big.nu r / g2)) (h : Below w3.heap.size w3 W) => lift2 h (mul_num W _ _ _ _ k k ha hb (SX.out.nu.le (Nat.div_le_self _ _)) (SY.out.nu.le (Nat.div_le_self _ _)) (by omega) (by omega)))
  go_wp2_with fail
  go_region_held3 (fun w' => w'.cell? ⟨w.heap.size, 1, none⟩ = some (.slice A l c) ∧ w'.cell? ⟨w.heap.size + 1, 1, none⟩ = some (.slice B m d))
    (exact KX.out _ (by first | assumption | exact Below.refl _ _ | exact below_drew (Below.refl _ _) | exact below_drew (by assumption)))
    (first
      | (go_at_call 118; (with_reducible refine (C1.out _ (by first | assumption | exact Below.refl _ _ | exact below_drew (Below.refl _ _) | exact below_drew (by assumption))).mono ?_); rintro e w4 ⟨v4, rfl, hv4, hw4, hw4'⟩)
      | (go_at_call 118; (with_reducible refine (C2.out _ (by first | assumption | exact Below.refl _ _ | exact below_drew (Below.refl _ _) | exact below_drew (by assumption))).mono ?_); rintro e w5 ⟨v5, rfl, hv5, hw5, hw5'⟩)
      | (go_at_call 133; (with_reducible refine (CM.out _ _ _ (by first | exact hv4.keep hw5' | exact NatIn.dr (hv4.keep hw5')) (by first | exact hv5 | exact NatIn.dr (hv5)) (by first | assumption | exact Below.refl _ _ | exact below_drew (Below.refl _ _) | exact below_drew (by assumption))).mono ?_); rintro e w6 ⟨v6, rfl, hv6, hw6, hw6'⟩)
      | fail)
  have HB6 := Lib.hid (HB3.out.trans (hw6.mono HB3.out.size))
  have HX6 := Lib.hid (HX3.out.keep hw6); have HY6 := Lib.hid (HY3.out.keep hw6); have HR6 := Lib.hid (HR3.out.keep hw6)
  have HV6 := Lib.hid (And.intro (HV.out.1.keep hw6) (And.intro (HV.out.2.keep hw6) hv6))
  clear hv4 hw4 hw4' hv5 hw5 hw5' hv6 hw6 hw6' HX3 HY3 HR3 HB3 HV KX C1 C2 CM
  have KX := Lib.hid (fun W (h : Below w6.heap.size w6 W) => And.intro (HX6.out.keep h).c2 (HY6.out.keep h).c2)
  have C1 := Lib.hid (fun W (h : Below w6.heap.size w6 W) => lift2 h (quo_num W _ _ _ _ k ((HX.out.2.keep HB6.out).keep h) (HV6.out.2.1.keep h) SX.out.de (by omega)))
  have C2 := Lib.hid (fun W (h : Below w6.heap.size w6 W) => lift2 h (quo_num W _ _ _ _ k ((HY.out.2.keep HB6.out).keep h) (HV6.out.1.keep h) SY.out.de (by omega)))
  have CM := Lib.hid (fun W a b (ha : NatIn W a (Big.de q / g2)) (hb : NatIn W b (Big.de r / g1)) (h : Below w6.heap.size w6 W) => lift2 h (mul_num W _ _ _ _ k k ha hb (SX.out.de.le (Nat.div_le_self _ _)) (SY.out.de.le (Nat.div_le_self _ _)) (by omega) (by omega)))
  go_wp2_with fail
  go_region_held3 (fun w' => w'.cell? ⟨w.heap.size, 2, none⟩ = some (.slice A2 l2 c2) ∧ w'.cell? ⟨w.heap.size + 1, 2, none⟩ = some (.slice B2 m2 d2))
    (exact KX.out _ (by first | assumption | exact Below.refl _ _ | exact below_drew (Below.refl _ _) | exact below_drew (by assumption)))
    (first
      | (go_at_call 118; (with_reducible refine (C1.out _ (by first | assumption | exact Below.refl _ _ | exact below_drew (Below.refl _ _) | exact below_drew (by assumption))).mono ?_); rintro e w7 ⟨v7, rfl, hv7, hw7, hw7'⟩)
      | (go_at_call 118; (with_reducible refine (C2.out _ (by first | assumption | exact Below.refl _ _ | exact below_drew (Below.refl _ _) | exact below_drew (by assumption))).mono ?_); rintro e w8 ⟨v8, rfl, hv8, hw8, hw8'⟩)
      | (go_at_call 133; (with_reducible refine (CM.out _ _ _ (by first | exact hv7.keep hw8' | exact NatIn.dr (hv7.keep hw8')) (by first | exact hv8 | exact NatIn.dr (hv8)) (by first | assumption | exact Below.refl _ _ | exact below_drew (Below.refl _ _) | exact below_drew (by assumption))).mono ?_); rintro e w9 ⟨v9, rfl, hv9, hw9, hw9'⟩)
      | fail)
  have HB9 := Lib.hid (HB6.out.trans (hw9.mono HB6.out.size))
  have X9 := HX6.out.keep hw9; have Y9 := HY6.out.keep hw9
  have x0 := X9.c0; have y0 := Y9.c0
  have RR := HR6.out.keep hw9
  have k0 := RR.c0; have k1 := RR.c1; have k2 := RR.c2; have f0 := RR.frozen 0; have f1 := RR.frozen 1; have f2 := RR.frozen 2
  have h6 := HV6.out.2.2.keep hw9
  obtain ⟨A6, l6, c6, rfl, hl6⟩ := h6.is_slice
  obtain ⟨A9, l9, c9, rfl, hl9⟩ := hv9.is_slice
  rw [← PP.out.2.2] at hv9
  rw [← PP.out.2.1] at h6 hl6
  have HH := Lib.hid (And.intro h6 hv9)
  have HNG := Lib.hid (show Big.ng (q * r) = ((nq != nr) && decide (0 < l6)) by
    rw [PP.out.1, ← PP.out.2.1]; congr 1; rw [decide_eq_decide, Nat.pos_iff_ne_zero, Nat.pos_iff_ne_zero, Ne, Ne, hl6])
  have HRR := Lib.hid RR
  clear hv7 hw7 hw7' hv8 hw8 hw8' hv9 hw9 hw9' HX6 HY6 HR6 HB6 HV6 KX C1 C2 CM X9 Y9 h6 hl6 hl9 RR PP HX HY SX SY GX HG
  rcases Nat.eq_zero_or_pos l6 with hl0 | hl0
  · subst hl0
    rw [decide_eq_false (by omega), Bool.and_false] at HNG
    cases nq
    · cases nr
      · go_wp2_with fail
        obtain ⟨D1, D2, D3⟩ := num_done (bb := false) (show NumRes w9 _ _ from HRR.out) HB9.out (by omega) HH.out.1 HH.out.2 HNG.out.symm
        have HD1 := Lib.hid D1; have HD2 := Lib.hid D2; have HD3 := Lib.hid D3
        clear D1 D2 D3 k0 k1 k2 f0 f1 f2
        generalize (((w9.setCell ⟨w.heap.size + 1 + 1, 0, none⟩ (.bool (false))).setCell ⟨w.heap.size + 1 + 1, 1, none⟩ (.slice A6 0 c6)).setCell ⟨w.heap.size + 1 + 1, 2, none⟩ (.slice A9 l9 c9)) = wz at HD1 HD2 HD3 ⊢
        have r0 := HD1.out.c0; have r1 := HD1.out.c1; have r2 := HD1.out.c2
        go_wp2_with fail
        exact bodyPost_ret (v := .agg #[.bool (false), (.slice A6 0 c6), (.slice A9 l9 c9)]) (by simp [results, Tryz.results74, go_sem, r0, r1, r2]) rfl ⟨_, rfl, HD2.out, HD3.out⟩
      · go_wp2_with fail
        obtain ⟨D1, D2, D3⟩ := num_done (bb := false) (show NumRes w9 _ _ from HRR.out) HB9.out (by omega) HH.out.1 HH.out.2 HNG.out.symm
        have HD1 := Lib.hid D1; have HD2 := Lib.hid D2; have HD3 := Lib.hid D3
        clear D1 D2 D3 k0 k1 k2 f0 f1 f2
        generalize (((w9.setCell ⟨w.heap.size + 1 + 1, 0, none⟩ (.bool (false))).setCell ⟨w.heap.size + 1 + 1, 1, none⟩ (.slice A6 0 c6)).setCell ⟨w.heap.size + 1 + 1, 2, none⟩ (.slice A9 l9 c9)) = wz at HD1 HD2 HD3 ⊢
        have r0 := HD1.out.c0; have r1 := HD1.out.c1; have r2 := HD1.out.c2
        go_wp2_with fail
        exact bodyPost_ret (v := .agg #[.bool (false), (.slice A6 0 c6), (.slice A9 l9 c9)]) (by simp [results, Tryz.results74, go_sem, r0, r1, r2]) rfl ⟨_, rfl, HD2.out, HD3.out⟩
    · cases nr
      · go_wp2_with fail
        obtain ⟨D1, D2, D3⟩ := num_done (bb := false) (show NumRes w9 _ _ from HRR.out) HB9.out (by omega) HH.out.1 HH.out.2 HNG.out.symm
        have HD1 := Lib.hid D1; have HD2 := Lib.hid D2; have HD3 := Lib.hid D3
        clear D1 D2 D3 k0 k1 k2 f0 f1 f2
        generalize (((w9.setCell ⟨w.heap.size + 1 + 1, 0, none⟩ (.bool (false))).setCell ⟨w.heap.size + 1 + 1, 1, none⟩ (.slice A6 0 c6)).setCell ⟨w.heap.size + 1 + 1, 2, none⟩ (.slice A9 l9 c9)) = wz at HD1 HD2 HD3 ⊢
        have r0 := HD1.out.c0; have r1 := HD1.out.c1; have r2 := HD1.out.c2
        go_wp2_with fail
        exact bodyPost_ret (v := .agg #[.bool (false), (.slice A6 0 c6), (.slice A9 l9 c9)]) (by simp [results, Tryz.results74, go_sem, r0, r1, r2]) rfl ⟨_, rfl, HD2.out, HD3.out⟩
      · go_wp2_with fail
        obtain ⟨D1, D2, D3⟩ := num_done (bb := false) (show NumRes w9 _ _ from HRR.out) HB9.out (by omega) HH.out.1 HH.out.2 HNG.out.symm
        have HD1 := Lib.hid D1; have HD2 := Lib.hid D2; have HD3 := Lib.hid D3
        clear D1 D2 D3 k0 k1 k2 f0 f1 f2
        generalize (((w9.setCell ⟨w.heap.size + 1 + 1, 0, none⟩ (.bool (false))).setCell ⟨w.heap.size + 1 + 1, 1, none⟩ (.slice A6 0 c6)).setCell ⟨w.heap.size + 1 + 1, 2, none⟩ (.slice A9 l9 c9)) = wz at HD1 HD2 HD3 ⊢
        have r0 := HD1.out.c0; have r1 := HD1.out.c1; have r2 := HD1.out.c2
        go_wp2_with fail
        exact bodyPost_ret (v := .agg #[.bool (false), (.slice A6 0 c6), (.slice A9 l9 c9)]) (by simp [results, Tryz.results74, go_sem, r0, r1, r2]) rfl ⟨_, rfl, HD2.out, HD3.out⟩
  · have t4 : ((l6 : Int) > 0) := by omega
    rw [decide_eq_true (by omega), Bool.and_true] at HNG
    cases nq
    · cases nr
      · go_wp2_with fail
        obtain ⟨D1, D2, D3⟩ := num_done (bb := false) (show NumRes w9 _ _ from HRR.out) HB9.out (by omega) HH.out.1 HH.out.2 HNG.out.symm
        have HD1 := Lib.hid D1; have HD2 := Lib.hid D2; have HD3 := Lib.hid D3
        clear D1 D2 D3 k0 k1 k2 f0 f1 f2
        generalize (((w9.setCell ⟨w.heap.size + 1 + 1, 0, none⟩ (.bool (false))).setCell ⟨w.heap.size + 1 + 1, 1, none⟩ (.slice A6 l6 c6)).setCell ⟨w.heap.size + 1 + 1, 2, none⟩ (.slice A9 l9 c9)) = wz at HD1 HD2 HD3 ⊢
        have r0 := HD1.out.c0; have r1 := HD1.out.c1; have r2 := HD1.out.c2
        go_wp2_with fail
        exact bodyPost_ret (v := .agg #[.bool (false), (.slice A6 l6 c6), (.slice A9 l9 c9)]) (by simp [results, Tryz.results74, go_sem, r0, r1, r2]) rfl ⟨_, rfl, HD2.out, HD3.out⟩
      · go_wp2_with fail
        obtain ⟨D1, D2, D3⟩ := num_done (bb := true) (show NumRes w9 _ _ from HRR.out) HB9.out (by omega) HH.out.1 HH.out.2 HNG.out.symm
        have HD1 := Lib.hid D1; have HD2 := Lib.hid D2; have HD3 := Lib.hid D3
        clear D1 D2 D3 k0 k1 k2 f0 f1 f2
        generalize (((w9.setCell ⟨w.heap.size + 1 + 1, 0, none⟩ (.bool (true))).setCell ⟨w.heap.size + 1 + 1, 1, none⟩ (.slice A6 l6 c6)).setCell ⟨w.heap.size + 1 + 1, 2, none⟩ (.slice A9 l9 c9)) = wz at HD1 HD2 HD3 ⊢
        have r0 := HD1.out.c0; have r1 := HD1.out.c1; have r2 := HD1.out.c2
        go_wp2_with fail
        exact bodyPost_ret (v := .agg #[.bool (true), (.slice A6 l6 c6), (.slice A9 l9 c9)]) (by simp [results, Tryz.results74, go_sem, r0, r1, r2]) rfl ⟨_, rfl, HD2.out, HD3.out⟩
    · cases nr
      · go_wp2_with fail
        obtain ⟨D1, D2, D3⟩ := num_done (bb := true) (show NumRes w9 _ _ from HRR.out) HB9.out (by omega) HH.out.1 HH.out.2 HNG.out.symm
        have HD1 := Lib.hid D1; have HD2 := Lib.hid D2; have HD3 := Lib.hid D3
        clear D1 D2 D3 k0 k1 k2 f0 f1 f2
        generalize (((w9.setCell ⟨w.heap.size + 1 + 1, 0, none⟩ (.bool (true))).setCell ⟨w.heap.size + 1 + 1, 1, none⟩ (.slice A6 l6 c6)).setCell ⟨w.heap.size + 1 + 1, 2, none⟩ (.slice A9 l9 c9)) = wz at HD1 HD2 HD3 ⊢
        have r0 := HD1.out.c0; have r1 := HD1.out.c1; have r2 := HD1.out.c2
        go_wp2_with fail
        exact bodyPost_ret (v := .agg #[.bool (true), (.slice A6 l6 c6), (.slice A9 l9 c9)]) (by simp [results, Tryz.results74, go_sem, r0, r1, r2]) rfl ⟨_, rfl, HD2.out, HD3.out⟩
      · go_wp2_with fail
        obtain ⟨D1, D2, D3⟩ := num_done (bb := false) (show NumRes w9 _ _ from HRR.out) HB9.out (by omega) HH.out.1 HH.out.2 HNG.out.symm
        have HD1 := Lib.hid D1; have HD2 := Lib.hid D2; have HD3 := Lib.hid D3
        clear D1 D2 D3 k0 k1 k2 f0 f1 f2
        generalize (((w9.setCell ⟨w.heap.size + 1 + 1, 0, none⟩ (.bool (false))).setCell ⟨w.heap.size + 1 + 1, 1, none⟩ (.slice A6 l6 c6)).setCell ⟨w.heap.size + 1 + 1, 2, none⟩ (.slice A9 l9 c9)) = wz at HD1 HD2 HD3 ⊢
        have r0 := HD1.out.c0; have r1 := HD1.out.c1; have r2 := HD1.out.c2
        go_wp2_with fail
        exact bodyPost_ret (v := .agg #[.bool (false), (.slice A6 l6 c6), (.slice A9 l9 c9)]) (by simp [results, Tryz.results74, go_sem, r0, r1, r2]) rfl ⟨_, rfl, HD2.out, HD3.out⟩
end Go.Proofs.YthjofdfnppadnaaGreatDoor
namespace Go.Proofs.YthjofdfnppadnaaGreatDoor
open Go.RowKit
def NumT (b w : World) (q : Rat) (e : Ending) (w' : World) : Prop := ∃ v', e = .returned v' ∧ NumIn w' v' q ∧ Below b.heap.size b w' ∧ Below w.heap.size w w'
theorem liftN {P : Program} {f : FuncId} {args : Array Value} {b W : World} {q : Rat} (h : Below b.heap.size b W) (c : Calls P f args W (Num1 W q)) : Calls P f args W (NumT b W q) :=
  c.mono fun _ _ ⟨v, h1, h2, h3⟩ => ⟨v, h1, h2, h.trans (h3.mono h.size), h3⟩
def sgQ (q : Rat) : Int := if Big.ng q = true then -1 else if Big.nu q = 0 then 0 else 1
theorem box1_below (w : World) (o : Obj) : Below w.heap.size w (w.alloc o) := below_alloc (Below.refl _ _) (Nat.le_refl _) o
set_option maxRecDepth 100000 in
set_option maxHeartbeats 4000000 in
theorem exNeg_any (w : World) (vx : Value) (q : Rat) (hx : NumIn w vx q) :
    Calls Tryz.prog 147 #[vx] w (Num1 w (-q)) := by
  obtain ⟨A, l, c, A2, l2, c2, rfl, hx1, hx2⟩ := hx.is_agg
  have HX := Lib.hid (And.intro hx1 hx2)
  obtain ⟨p1, p2, p3⟩ := Big.neg_parts q
  have hl := hx1.len_zero
  have HNG := Lib.hid (show Big.ng (-q) = (!Big.ng q && decide (0 < l)) by rw [p1]; congr 1; rw [decide_eq_decide, Nat.pos_iff_ne_zero, Nat.pos_iff_ne_zero, Ne, Ne, hl])
  have H0 := Lib.hid (show NatIn w (.slice A l c) (Big.nu (-q)) ∧ NatIn w (.slice A2 l2 c2) (Big.de (-q)) by rw [p2, p3]; exact ⟨hx1, hx2⟩)
  clear hx hx1 hx2 p1 p2 p3 hl HX
  generalize Big.ng q = nq at *
  rcases Nat.eq_zero_or_pos l with hl0 | hl0
  · subst hl0
    rw [decide_eq_false (by omega), Bool.and_false] at HNG
    cases nq
    · go_enter Tryz.func147, Tryz.ntmps147
      go_wp2_with fail
      obtain ⟨_, R0, B0⟩ := boxed2 w 71 71 (.bool false) (.slice A 0 c) (.slice A2 l2 c2) (.bool false) (.slice A 0 c) (.slice A2 l2 c2)
      have r0 := R0.c0; have r1 := R0.c1; have r2 := R0.c2
      exact bodyPost_ret (v := .agg #[.bool false, .slice A 0 c, .slice A2 l2 c2]) (by simp [results, Tryz.results147, go_sem, r0, r1, r2]) rfl ⟨_, rfl, ⟨_, _, by first | (rw [HNG.out]; done) | (rw [HNG.out]; rfl), H0.out.1.keep B0, H0.out.2.keep B0⟩, B0⟩
    · go_enter Tryz.func147, Tryz.ntmps147
      go_wp2_with fail
      obtain ⟨_, R0, B0⟩ := boxed2 w 71 71 (.bool true) (.slice A 0 c) (.slice A2 l2 c2) (.bool false) (.slice A 0 c) (.slice A2 l2 c2)
      have r0 := R0.c0; have r1 := R0.c1; have r2 := R0.c2
      exact bodyPost_ret (v := .agg #[.bool false, .slice A 0 c, .slice A2 l2 c2]) (by simp [results, Tryz.results147, go_sem, r0, r1, r2]) rfl ⟨_, rfl, ⟨_, _, by first | (rw [HNG.out]; done) | (rw [HNG.out]; rfl), H0.out.1.keep B0, H0.out.2.keep B0⟩, B0⟩
  · have t4 : ((l : Int) > 0) := by omega
    rw [decide_eq_true (by omega), Bool.and_true] at HNG
    cases nq
    · go_enter Tryz.func147, Tryz.ntmps147
      go_wp2_with fail
      obtain ⟨_, R0, B0⟩ := boxed2 w 71 71 (.bool false) (.slice A l c) (.slice A2 l2 c2) (.bool true) (.slice A l c) (.slice A2 l2 c2)
      have r0 := R0.c0; have r1 := R0.c1; have r2 := R0.c2
      exact bodyPost_ret (v := .agg #[.bool true, .slice A l c, .slice A2 l2 c2]) (by simp [results, Tryz.results147, go_sem, r0, r1, r2]) rfl ⟨_, rfl, ⟨_, _, by first | (rw [HNG.out]; done) | (rw [HNG.out]; rfl), H0.out.1.keep B0, H0.out.2.keep B0⟩, B0⟩
    · go_enter Tryz.func147, Tryz.ntmps147
      go_wp2_with fail
      obtain ⟨_, R0, B0⟩ := boxed2 w 71 71 (.bool true) (.slice A l c) (.slice A2 l2 c2) (.bool false) (.slice A l c) (.slice A2 l2 c2)
      have r0 := R0.c0; have r1 := R0.c1; have r2 := R0.c2
      exact bodyPost_ret (v := .agg #[.bool false, .slice A l c, .slice A2 l2 c2]) (by simp [results, Tryz.results147, go_sem, r0, r1, r2]) rfl ⟨_, rfl, ⟨_, _, by first | (rw [HNG.out]; done) | (rw [HNG.out]; rfl), H0.out.1.keep B0, H0.out.2.keep B0⟩, B0⟩
theorem exSign_any (w : World) (vx : Value) (q : Rat) (hx : NumIn w vx q) :
    Calls Tryz.prog 54 #[vx] w fun e w' => e = .returned (.int .i64 (sgQ q)) ∧ Below w.heap.size w w' := by
  obtain ⟨A, l, c, A2, l2, c2, rfl, hx1, hx2⟩ := hx.is_agg
  have HX := Lib.hid (And.intro hx1 hx2)
  have HB := Lib.hid (box1_below w (.cells #[.bool (Big.ng q), .slice A l c, .slice A2 l2 c2] 71))
  have hl := hx1.len_zero
  have HS := Lib.hid (show sgQ q = if Big.ng q = true then -1 else if l = 0 then 0 else 1 by unfold sgQ; simp only [hl])
  clear hx hx1 hx2 hl HX
  generalize sgQ q = z at *
  generalize Big.ng q = nq at *
  cases nq
  · rcases Nat.eq_zero_or_pos l with hl0 | hl0
    · subst hl0
      go_enter Tryz.func54, Tryz.ntmps54
      go_wp2_with fail
      go_ret
      exact ⟨ret_int HS.out.symm, HB.out⟩
    · have t : ((l : Int) == 0) = false := beq_eq_false_iff_ne.2 (by omega)
      rw [if_neg (by simp), if_neg (by omega)] at HS
      go_enter Tryz.func54, Tryz.ntmps54
      go_wp2_with fail
      go_ret
      exact ⟨ret_int HS.out.symm, HB.out⟩
  · go_enter Tryz.func54, Tryz.ntmps54
    go_wp2_with fail
    go_ret
    exact ⟨ret_int HS.out.symm, HB.out⟩
end Go.Proofs.YthjofdfnppadnaaGreatDoor
namespace Go.Proofs.YthjofdfnppadnaaGreatDoor
open Go.RowKit
end Go.Proofs.YthjofdfnppadnaaGreatDoor
namespace Go.Proofs.YthjofdfnppadnaaGreatDoor
open Go.RowKit
theorem sizeT {P : Program} {f : FuncId} {args : Array Value} {b W : World} {v : Value} (h : Below b.heap.size b W) (c : Calls P f args W fun e w' => e = .returned v ∧ W = w') :
    Calls P f args W fun e w' => e = .returned v ∧ Below b.heap.size b w' :=
  c.mono fun _ _ ⟨h1, h2⟩ => ⟨h1, h2 ▸ h⟩
set_option maxRecDepth 100000 in
set_option maxHeartbeats 4000000 in
theorem exSize_any (w : World) (vx : Value) (q : Rat) (k : Nat) (hx : NumIn w vx q) (sx : Sm k q) (hk : k ≤ 10000000) :
    Calls Tryz.prog 157 #[vx] w fun e w' => e = .returned (.int .i64 ((max (szN (Big.nu q)) (szN (Big.de q)) : Nat) : Int)) ∧ Below w.heap.size w w' := by
  obtain ⟨A, l, c, A2, l2, c2, rfl, hx1, hx2⟩ := hx.is_agg
  have HX := Lib.hid (And.intro hx1 hx2)
  have SX := Lib.hid sx
  have HB0 := Lib.hid (box1_below w (.cells #[.bool (Big.ng q), .slice A l c, .slice A2 l2 c2] 71))
  have HX0 := Lib.hid (At3.new w 71 (.bool (Big.ng q)) (.slice A l c) (.slice A2 l2 c2))
  clear hx hx1 hx2 sx
  generalize Big.ng q = nq at *
  go_enter Tryz.func157, Tryz.ntmps157
  go_wp2_with fail
  generalize w.alloc (.cells #[.bool nq, .slice A l c, .slice A2 l2 c2] 71) = w0 at *
  have KX := Lib.hid (fun W (h : Below w0.heap.size w0 W) => And.intro (HX0.out.keep h).c1 (HX0.out.keep h).c2)
  have C1 := Lib.hid (fun W (h : Below w0.heap.size w0 W) => sizeT h (size_num W _ _ k ((HX.out.1.keep HB0.out).keep h) SX.out.nu (by omega)))
  have C2 := Lib.hid (fun W (h : Below w0.heap.size w0 W) => sizeT h (size_num W _ _ k ((HX.out.2.keep HB0.out).keep h) SX.out.de (by omega)))
  go_region_held3 (fun w' => w'.cell? ⟨w.heap.size, 1, none⟩ = some (.slice A l c) ∧ w'.cell? ⟨w.heap.size, 2, none⟩ = some (.slice A2 l2 c2))
    (exact KX.out _ (by first | assumption | exact Below.refl _ _ | exact below_drew (Below.refl _ _) | exact below_drew (by assumption)))
    (first
      | (go_at_call 205; (with_reducible refine (C1.out _ (by first | assumption | exact Below.refl _ _ | exact below_drew (Below.refl _ _) | exact below_drew (by assumption))).mono ?_); rintro e w2 ⟨rfl, hw2⟩)
      | (go_at_call 205; (with_reducible refine (C2.out _ (by first | assumption | exact Below.refl _ _ | exact below_drew (Below.refl _ _) | exact below_drew (by assumption))).mono ?_); rintro e w3 ⟨rfl, hw3⟩)
      | fail)
  have HB3 := Lib.hid (HB0.out.trans (hw3.mono HB0.out.size))
  go_wp2_with fail
  go_ret
  refine ⟨?_, HB3.out⟩
  apply ret_int
  generalize szN (Big.nu q) = s1; generalize szN (Big.de q) = s2; omega
end Go.Proofs.YthjofdfnppadnaaGreatDoor
namespace Go.Proofs.YthjofdfnppadnaaGreatDoor
open Go.RowKit
def Frac1 (w : World) (v : Value) (b : Bool) (e : Ending) (w' : World) : Prop := e = .returned (.tuple #[v, .bool b]) ∧ Below w.heap.size w w'
def fracZ : Value := .agg #[.bool false, .string ⟨#[]⟩, .string ⟨#[]⟩]
theorem bytesT {P : Program} {f : FuncId} {args : Array Value} {b W : World} {v : Value} (h : Below b.heap.size b W) (c : Calls P f args W fun e w' => e = .returned v ∧ Below W.heap.size W w') :
    Calls P f args W fun e w' => e = .returned v ∧ Below b.heap.size b w' :=
  c.mono fun _ _ ⟨h1, h2⟩ => ⟨h1, h.trans (h2.mono h.size)⟩
set_option maxRecDepth 100000 in
set_option maxHeartbeats 4000000 in
theorem exFrac_fit (w : World) (vx : Value) (q : Rat) (k : Nat) (hx : NumIn w vx q) (sx : Sm k q) (hk : k ≤ 10000000) (hf : Fit q) :
    Calls Tryz.prog 99 #[vx] w (Frac1 w (fracV q) true) := by
  have e1 : szN (Big.nu q) ≤ 512 := hf.nu
  have e2 : szN (Big.de q) ≤ 512 := hf.de
  have HF := Lib.hid (show fracV q = .agg #[.bool (Big.ng q), .string (bst (Big.nu q)), .string (bst (Big.de q))] from rfl)
  clear hf
  generalize fracV q = fv at *
  have SX := Lib.hid sx
  obtain ⟨A, l, c, A2, l2, c2, rfl, hx1, hx2⟩ := hx.is_agg
  have HX := Lib.hid (And.intro hx1 hx2)
  have HQ := Lib.hid hx
  obtain ⟨X0, R0, B0⟩ := boxed2 w 71 23 (.bool (Big.ng q)) (.slice A l c) (.slice A2 l2 c2) (.bool false) (.string ⟨#[]⟩) (.string ⟨#[]⟩)
  have HX0 := Lib.hid X0; have HR0 := Lib.hid R0; have HB0 := Lib.hid B0
  clear hx hx1 hx2 sx X0 R0 B0
  generalize Big.ng q = nq at *
  go_enter Tryz.func99, Tryz.ntmps99
  go_wp2_with fail
  generalize (w.alloc (.cells #[.bool nq, .slice A l c, .slice A2 l2 c2] 71)).alloc (.cells #[.bool false, .string ⟨#[]⟩, .string ⟨#[]⟩] 23) = w0 at *
  have CS := Lib.hid (exSize_any w0 _ q k (HQ.out.keep HB0.out) SX.out hk)
  have hm : ¬ (max (szN (Big.nu q)) (szN (Big.de q)) : Nat) > 512 := by omega
  generalize max (szN (Big.nu q)) (szN (Big.de q)) = mx at *
  have hm' : ¬ ((mx : Int) > 512) := by omega
  clear hm e1 e2
  refine CS.out.mono ?_
  rintro e w1 ⟨rfl, hw1⟩
  have HB1 := Lib.hid (HB0.out.trans (hw1.mono HB0.out.size))
  have HX1 := Lib.hid (HX0.out.keep hw1); have HR1 := Lib.hid (HR0.out.keep hw1)
  clear hw1 HX0 HR0 CS
  have KX := Lib.hid (fun W (h : Below w1.heap.size w1 W) => And.intro (HX1.out.keep h).c0 (And.intro (HX1.out.keep h).c1 (HX1.out.keep h).c2))
  have KP := Lib.hid (fun W x y z (h : Below w1.heap.size w1 W) => And.intro (put_cell (KX.out W h).1 (show w.heap.size ≠ w.heap.size + 1 by omega) x y z) (And.intro (put_cell (KX.out W h).2.1 (show w.heap.size ≠ w.heap.size + 1 by omega) x y z) (put_cell (KX.out W h).2.2 (show w.heap.size ≠ w.heap.size + 1 by omega) x y z)))
  have C1 := Lib.hid (fun W (h : Below w1.heap.size w1 W) => bytesT h (bytes_num W _ _ k ((HX.out.1.keep HB1.out).keep h) SX.out.nu (by omega)))
  have C2 := Lib.hid (fun W (h : Below w1.heap.size w1 W) => bytesT h (bytes_num W _ _ k ((HX.out.2.keep HB1.out).keep h) SX.out.de (by omega)))
  have RES := Lib.hid (fun W (h : Below w1.heap.size w1 W) => HR1.out.keep h)
  go_wp2_with fail
  go_region_held3 (fun w' => w'.cell? ⟨w.heap.size, 0, none⟩ = some (.bool nq) ∧ w'.cell? ⟨w.heap.size, 1, none⟩ = some (.slice A l c) ∧ w'.cell? ⟨w.heap.size, 2, none⟩ = some (.slice A2 l2 c2))
    (first | exact KX.out _ (by first | assumption | exact Below.refl _ _ | exact below_drew (Below.refl _ _) | exact below_drew (by assumption)) | exact KP.out _ _ _ _ (by assumption))
    (first
      | (go_at_call 162; (with_reducible refine (C1.out _ (by first | assumption | exact Below.refl _ _ | exact below_drew (Below.refl _ _) | exact below_drew (by assumption))).mono ?_); rintro e w2 ⟨rfl, hw2⟩)
      | (go_at_call 162; (with_reducible refine (C2.out _ (by first | assumption | exact Below.refl _ _ | exact below_drew (Below.refl _ _) | exact below_drew (by assumption))).mono ?_); rintro e w3 ⟨rfl, hw3⟩; have RR := RES.out _ hw3; have k0 := RR.c0; have k1 := RR.c1; have k2 := RR.c2; have f0 := RR.frozen 0; have f1 := RR.frozen 1; have f2 := RR.frozen 2)
      | fail)
  have D1 := At3.put RR (.bool nq) (.string (bst (Big.nu q))) (.string (bst (Big.de q)))
  have D3 := put_below (HB1.out.trans (hw3.mono HB1.out.size)) (show w.heap.size ≤ w.heap.size + 1 by omega) (.bool nq) (.string (bst (Big.nu q))) (.string (bst (Big.de q)))
  have HD1 := Lib.hid D1; have HD3 := Lib.hid D3
  clear D1 D3 k0 k1 k2 f0 f1 f2 RR
  generalize (((w3.setCell ⟨w.heap.size + 1, 0, none⟩ (.bool nq)).setCell ⟨w.heap.size + 1, 1, none⟩ (.string (bst (Big.nu q)))).setCell ⟨w.heap.size + 1, 2, none⟩ (.string (bst (Big.de q)))) = wz at HD1 HD3 ⊢
  have r0 := HD1.out.c0; have r1 := HD1.out.c1; have r2 := HD1.out.c2
  go_wp2_with fail
  exact bodyPost_ret (v := .tuple #[.agg #[.bool nq, .string (bst (Big.nu q)), .string (bst (Big.de q))], .bool true]) (by simp [results, Tryz.results99, go_sem, r0, r1, r2]) rfl ⟨by rw [HF.out], HD3.out⟩
set_option maxRecDepth 100000 in
set_option maxHeartbeats 4000000 in
theorem exFrac_long (w : World) (vx : Value) (q : Rat) (k : Nat) (hx : NumIn w vx q) (sx : Sm k q) (hk : k ≤ 10000000) (hf : ¬ Fit q) :
    Calls Tryz.prog 99 #[vx] w (Frac1 w fracZ false) := by
  have e1 : ¬ (szN (Big.nu q) ≤ 512 ∧ szN (Big.de q) ≤ 512) := fun h => hf ⟨h.1, h.2⟩
  clear hf
  have SX := Lib.hid sx
  obtain ⟨A, l, c, A2, l2, c2, rfl, hx1, hx2⟩ := hx.is_agg
  have HX := Lib.hid (And.intro hx1 hx2)
  have HQ := Lib.hid hx
  obtain ⟨X0, R0, B0⟩ := boxed2 w 71 23 (.bool (Big.ng q)) (.slice A l c) (.slice A2 l2 c2) (.bool false) (.string ⟨#[]⟩) (.string ⟨#[]⟩)
  have HX0 := Lib.hid X0; have HR0 := Lib.hid R0; have HB0 := Lib.hid B0
  clear hx hx1 hx2 sx X0 R0 B0
  generalize Big.ng q = nq at *
  go_enter Tryz.func99, Tryz.ntmps99
  go_wp2_with fail
  generalize (w.alloc (.cells #[.bool nq, .slice A l c, .slice A2 l2 c2] 71)).alloc (.cells #[.bool false, .string ⟨#[]⟩, .string ⟨#[]⟩] 23) = w0 at *
  have CS := Lib.hid (exSize_any w0 _ q k (HQ.out.keep HB0.out) SX.out hk)
  have hm : (max (szN (Big.nu q)) (szN (Big.de q)) : Nat) > 512 := by omega
  generalize max (szN (Big.nu q)) (szN (Big.de q)) = mx at *
  have hm' : ((mx : Int) > 512) := by omega
  clear hm e1
  refine CS.out.mono ?_
  rintro e w1 ⟨rfl, hw1⟩
  have HB1 := Lib.hid (HB0.out.trans (hw1.mono HB0.out.size))
  have RR := HR0.out.keep hw1
  have k0 := RR.c0; have k1 := RR.c1; have k2 := RR.c2; have f0 := RR.frozen 0; have f1 := RR.frozen 1; have f2 := RR.frozen 2
  have HD1 := Lib.hid (At3.put RR (.bool false) (.string ⟨#[]⟩) (.string ⟨#[]⟩))
  have HD3 := Lib.hid (put_below HB1.out (show w.heap.size ≤ w.heap.size + 1 by omega) (.bool false) (.string ⟨#[]⟩) (.string ⟨#[]⟩))
  clear hw1 HX0 HR0 CS RR
  go_wp2_with fail
  generalize (((w1.setCell ⟨w.heap.size + 1, 0, none⟩ (.bool false)).setCell ⟨w.heap.size + 1, 1, none⟩ (.string ⟨#[]⟩)).setCell ⟨w.heap.size + 1, 2, none⟩ (.string ⟨#[]⟩)) = wz at HD1 HD3 ⊢
  clear k0 k1 k2 f0 f1 f2
  have r0 := HD1.out.c0; have r1 := HD1.out.c1; have r2 := HD1.out.c2
  exact bodyPost_ret (v := .tuple #[.agg #[.bool false, .string ⟨#[]⟩, .string ⟨#[]⟩], .bool false]) (by simp [results, Tryz.results99, go_sem, r0, r1, r2]) rfl ⟨rfl, HD3.out⟩
end Go.Proofs.YthjofdfnppadnaaGreatDoor
namespace Go.Proofs.YthjofdfnppadnaaGreatDoor
open Go.RowKit
def mayB (s : ByteArray) : Bool := decide (s.size ≤ 512) && !(s.data.toList.head? == some 0)
theorem mayB_bst {n : Nat} (h : szN n ≤ 512) : mayB (bst n) = true := by
  unfold mayB
  have h1 := btx_lead n
  rw [bst_size, bst_list, decide_eq_true h, Bool.true_and, Bool.not_eq_true', beq_eq_false_iff_ne]
  exact h1
theorem mayB_is {s : ByteArray} (h : mayB s = true) : s = bst (Big.bnum s.data.toList) ∧ szN (Big.bnum s.data.toList) ≤ 512 := by
  unfold mayB at h
  rw [Bool.and_eq_true, Bool.not_eq_true', beq_eq_false_iff_ne] at h
  have hl : Lead s.data.toList := h.2
  have e := btx_bnum hl
  have e2 : s = bst (Big.bnum s.data.toList) := by
    unfold bst; rw [e]
  refine ⟨e2, ?_⟩
  have h3 := of_decide_eq_true h.1
  rw [e2, bst_size] at h3
  exact h3
theorem empty_of {s : ByteArray} (h : s.size = 0) : s = ⟨#[]⟩ := by
  have h2 : s.data = #[] := Array.eq_empty_of_size_eq_zero h
  cases s; simp at h2; rw [h2]
theorem size_toList (s : ByteArray) : s.data.toList.length = s.size := by
  show s.data.toList.length = s.data.size; simp
theorem head_get {s : ByteArray} (h : 0 < s.size) : s.data.toList.head? = some s[0] := by
  have hl : 0 < s.data.toList.length := by rw [size_toList]; exact h
  rw [List.head?_eq_getElem?, List.getElem?_eq_getElem hl]; rfl
set_option maxRecDepth 100000 in
set_option maxHeartbeats 4000000 in
theorem mayBe_any (w : World) (s : ByteArray) (hs : s.size ≤ 1000000000000) :
    Calls Tryz.prog 175 #[.string s] w fun e w' => e = .returned (.bool (mayB s)) ∧ w = w' := by
  by_cases h5 : s.size ≤ 512
  · by_cases h0 : s.size = 0
    · have e := empty_of h0
      subst e
      have HD := Lib.hid (show mayB ⟨#[]⟩ = true by decide)
      go_enter Tryz.func175, Tryz.ntmps175
      go_wp2_with fail
      go_ret
      exact ⟨ret_bool HD.out.symm, rfl⟩
    · have i1 : (s.size : Int) ≤ 512 := by omega
      have p0 : 0 < s.size := by omega
      have HD := Lib.hid (show mayB s = ((s[0].toNat : Int) != 0) by
        unfold mayB
        rw [decide_eq_true h5, Bool.true_and, head_get p0, Bool.eq_iff_iff, Bool.not_eq_true', beq_eq_false_iff_ne, bne_iff_ne]
        constructor
        · intro h e; exact h (by rw [Option.some.injEq]; apply UInt8.toNat_inj.1; show _ = 0; omega)
        · intro h e; rw [Option.some.injEq] at e; rw [e] at h; exact h rfl)
      generalize mayB s = z at *
      have hne : ¬ s.toList = [] := by rw [ByteArray.toList_eq]; intro e; have := size_toList s; rw [e] at this; simp at this; omega
      have hne2 : s.toList.isEmpty = false := by rw [Bool.eq_false_iff]; intro e; exact hne (List.isEmpty_iff.1 e)
      clear h0
      go_enter Tryz.func175, Tryz.ntmps175
      go_wp2_with fail
      go_ret
      exact ⟨ret_bool (by rw [HD.out]), rfl⟩
  · have i1 : ¬ (s.size : Int) ≤ 512 := by omega
    have HD := Lib.hid (show mayB s = false by unfold mayB; rw [decide_eq_false h5]; rfl)
    generalize mayB s = z at *
    go_enter Tryz.func175, Tryz.ntmps175
    go_wp2_with fail
    go_ret
    exact ⟨ret_bool HD.out.symm, rfl⟩
end Go.Proofs.YthjofdfnppadnaaGreatDoor
namespace Go.Proofs.YthjofdfnppadnaaGreatDoor
namespace R
open Go.RowKit
theorem nin_stable {n : Nat} {w w' : World} {v : Value} (h : Nin w v n) (hk : ∀ (b : Nat) (c : Array Value) (t : TypeId) (z : Nat × Nat), w.heap[b]? = some (.cells c t z) → Nat.beq t 167 = true → w'.heap[b]? = some (.cells c t z)) : Nin w' v n := by
  obtain ⟨l, ⟨A, c, e, h1, h2, h3⟩, ol, nl, hv⟩ := h
  refine ⟨l, ⟨A, c, e, h1, h2, fun hp => ?_⟩, ol, nl, hv⟩
  obtain ⟨b, o, ea, hlt, hc, cs, hcs⟩ := h3 hp
  have hcs' := hk b cs _ _ hcs (Nat.beq_refl _)
  refine ⟨b, o, ea, (Array.getElem?_eq_some_iff.1 hcs').1, fun i hi => ?_, cs, hcs'⟩
  rw [← hc i hi]
  exact World.cell?_of_block (hcs'.trans hcs.symm)
theorem nin_set {w : World} {v x : Value} {n g o : Nat} {c : Array Value} {t : TypeId} {z : Nat × Nat} (h : Nin w v n) (hg : w.heap[g]? = some (.cells c t z)) (ht : Nat.beq t 167 = false) : Nin (w.setCell ⟨g, o, none⟩ x) v n :=
  nin_stable h fun b c' t' z' hb ht' => by
    have hne : g ≠ b := fun e => by
      subst e
      rw [hg] at hb
      simp only [Option.some.injEq, Obj.cells.injEq] at hb
      rw [← hb.2.1, ht] at ht'; cases ht'
    unfold World.setCell
    simp only [Array.getElem?_modify]
    rw [if_neg hne]; exact hb
theorem set_heap {w : World} {b o : Nat} {c : List Value} {t : TypeId} {v : Value} (h : w.heap[b]? = some (.cells ⟨c⟩ t (0, 0))) : (w.setCell ⟨b, o, none⟩ v).heap = w.heap.setIfInBounds b (.cells ⟨c.set o v⟩ t (0, 0)) := by
  apply Array.ext_getElem?
  intro i
  unfold World.setCell
  simp only [Array.getElem?_modify]
  by_cases hi : b = i
  · subst hi
    have hlt := (Array.getElem?_eq_some_iff.1 h).1
    rw [Array.getElem?_setIfInBounds_self_of_lt hlt]
    simp [h]
  · rw [if_neg hi, Array.getElem?_setIfInBounds_ne hi]
theorem cell_at {w : World} {b o : Nat} {c : List Value} {t : TypeId} {v : Value} {z : Nat × Nat} (h : w.heap[b]? = some (.cells ⟨c⟩ t z)) (hv : c[o]? = some v) : w.cell? ⟨b, o, none⟩ = some v := by
  unfold World.cell?
  simp only [h]
  simpa using hv
theorem frozen_at {w : World} {b o : Nat} {c : List Value} {t : TypeId} (h : w.heap[b]? = some (.cells ⟨c⟩ t (0, 0))) : w.frozen? ⟨b, o, none⟩ = false := by
  unfold World.frozen?
  simp [h]
theorem room_at {w : World} {b o : Nat} {c : List Value} {t : TypeId} (h : w.heap[b]? = some (.cells ⟨c⟩ t (0, 0))) (hl : o + 1 < c.length) : Room w b o :=
  ⟨⟨_, cell_at h (List.getElem?_eq_getElem (by omega))⟩, ⟨_, cell_at h (List.getElem?_eq_getElem hl)⟩, frozen_at h, frozen_at h⟩
def NewI (w : World) (b : Nat) (s : Bool) (n : Nat) (w' : World) : Prop :=
  w.heap.size ≤ b ∧ (∃ u, w'.heap[b]? = some (.cells ⟨[.bool s, u]⟩ 100 (0, 0)) ∧ Nin w' u n) ∧ Below w.heap.size w w'
theorem newI_of {w w0 w1 w' : World} {g n : Nat} {s : Bool} {u a b : Value} (h0 : Below w.heap.size w w0) (hg : w.heap.size ≤ g) (hb : w0.heap[g]? = some (.cells ⟨[a, b]⟩ 100 (0, 0)))
    (h1 : Below w0.heap.size w0 w1) (hu : Nin w1 u n) (e : w' = (w1.setCell ⟨g, 0, none⟩ (.bool s)).setCell ⟨g, 1, none⟩ u) : NewI w g s n w' := by
  subst e
  have hlt := (Array.getElem?_eq_some_iff.1 hb).1
  have hb1 : w1.heap[g]? = some (.cells ⟨[a, b]⟩ 100 (0, 0)) := (h1.block g hlt).trans hb
  have hB : Below w.heap.size w w1 := h0.trans (h1.mono h0.size)
  have hB2 : Below w.heap.size w ((w1.setCell ⟨g, 0, none⟩ (.bool s)).setCell ⟨g, 1, none⟩ u) := (hB.setCell hg _).setCell hg _
  have c1 : (w1.setCell ⟨g, 0, none⟩ (.bool s)).heap[g]? = some (.cells ⟨[.bool s, b]⟩ 100 (0, 0)) := by
    rw [set_heap (o := 0) (v := .bool s) hb1, Array.getElem?_setIfInBounds_self_of_lt (Array.getElem?_eq_some_iff.1 hb1).1]; rfl
  have c2 : ((w1.setCell ⟨g, 0, none⟩ (.bool s)).setCell ⟨g, 1, none⟩ u).heap[g]? = some (.cells ⟨[.bool s, u]⟩ 100 (0, 0)) := by
    rw [set_heap (o := 1) (v := u) c1, Array.getElem?_setIfInBounds_self_of_lt (Array.getElem?_eq_some_iff.1 c1).1]; rfl
  refine ⟨hg, ⟨u, c2, ?_⟩, hB2⟩
  exact nin_set (nin_set hu hb1 (by kernel_rfl)) c1 (by kernel_rfl)
set_option maxRecDepth 100000 in
theorem number_bad (w : World) (s : ByteArray) (h : mayB s = false) :
    Calls Tryz.prog 135 #[.string s] w fun e w' => e = .returned (.tuple #[.pointer none, .bool false]) ∧ w = w' := by
  by_cases h5 : s.size ≤ 512
  · by_cases h0 : s.size = 0
    · rw [empty_of h0] at h; cases h
    · have i1 : ¬ (s.size : Int) > 512 := by omega
      have p0 : 0 < s.size := by omega
      have i2 : (s.size : Int) > 0 := by omega
      have HD := (show ((s[0].toNat : Int) == 0) = true by
        unfold mayB at h
        rw [decide_eq_true h5, Bool.true_and, head_get p0, Bool.not_eq_false', beq_iff_eq, Option.some.injEq] at h
        rw [h]; rfl)
      have hne : ¬ s.toList = [] := by rw [ByteArray.toList_eq]; intro e; have := size_toList s; rw [e] at this; simp at this; omega
      have hne2 : s.toList.isEmpty = false := by rw [Bool.eq_false_iff]; intro e; exact hne (List.isEmpty_iff.1 e)
      clear h0 h
      go_enter Tryz.func135, Tryz.ntmps135
      go_wp2_with fail
      exact bodyPost_ret (v := .tuple #[.pointer none, .bool false]) (by simp [results, Tryz.results135, go_sem]) rfl ⟨rfl, rfl⟩
  · have i1 : (s.size : Int) > 512 := by omega
    clear h
    go_enter Tryz.func135, Tryz.ntmps135
    go_wp2_with fail
    exact bodyPost_ret (v := .tuple #[.pointer none, .bool false]) (by simp [results, Tryz.results135, go_sem]) rfl ⟨rfl, rfl⟩
theorem bytesWorld_bt (w : World) (s : ByteArray) (hs : s.size ≤ 512) :
    Bt (Lib.bytesWorld w 5 s) (.slice (some ⟨w.heap.size, 0, none⟩) s.size (grownCap w s.size 0 5)) s.data.toList := by
  have hl := size_toList s
  refine ⟨_, _, by rw [hl], by rw [hl]; exact grownCap_ge _ _ _ _, fun _ => ⟨w.heap.size, 0, rfl, by rw [Lib.bytesWorld_size]; omega, fun i hi => ?_, _, _, Lib.bytesWorld_at_new w 5 s⟩⟩
  rw [Nat.zero_add, Lib.bytesWorld_cell w 5 s i (by omega)]
  simp [List.getD, List.getElem?_eq_getElem hi]
theorem alloc_new (w : World) (c : List Value) (t : TypeId) : (w.alloc (.cells ⟨c⟩ t)).heap[w.heap.size]? = some (.cells ⟨c⟩ t (0, 0)) := by
  show (w.heap.push _)[w.heap.size]? = _
  simp
theorem alloc_below (w : World) (o : Obj) : Below w.heap.size w (w.alloc o) := (Below.refl w.heap.size w).alloc (Nat.le_refl _) o
theorem setNew (w : World) (s : ByteArray) (hs : s.size ≤ 512) :
    Calls Tryz.prog 195 #[.pointer (some ⟨w.heap.size, 0, none⟩), .slice (some ⟨w.heap.size + 1, 0, none⟩) s.size (grownCap (w.alloc (.cells #[.bool false, .slice none 0 0] 100)) s.size 0 5)]
      (Lib.bytesWorld (w.alloc (.cells #[.bool false, .slice none 0 0] 100)) 5 s) fun e w' => e = .returned (.pointer (some ⟨w.heap.size, 0, none⟩)) ∧ NewI w w.heap.size false (Big.bnum s.data.toList) w' := by
  have hnew := alloc_new w [.bool false, .slice none 0 0] 100
  have hb0 := alloc_below w (.cells #[.bool false, .slice none 0 0] 100)
  have hsz : (w.alloc (.cells #[.bool false, .slice none 0 0] 100)).heap.size = w.heap.size + 1 := by show (w.heap.push _).size = _; simp
  have hB := bytesWorld_bt (w.alloc (.cells #[.bool false, .slice none 0 0] 100)) s hs
  have hW := Lib.bytesWorld_below (w.alloc (.cells #[.bool false, .slice none 0 0] 100)) 5 s
  rw [hsz] at hB
  have hnew2 : (Lib.bytesWorld (w.alloc (.cells #[.bool false, .slice none 0 0] 100)) 5 s).heap[w.heap.size]? = some (.cells ⟨[.bool false, .slice none 0 0]⟩ 100 (0, 0)) :=
    (hW.block w.heap.size (by rw [hsz]; omega)).trans hnew
  refine (setBytes_any _ w.heap.size 0 _ _ hB (room_at hnew2 (by simp)) (by rw [size_toList]; omega)).mono ?_
  rintro e w' ⟨rfl, w1, u, h1, h2, h3⟩
  exact ⟨rfl, newI_of (hb0.trans (hW.mono hb0.size)) (Nat.le_refl _) hnew2 h1 h2 h3⟩
set_option maxRecDepth 100000 in
theorem number_ok (w : World) (n : Nat) (h : szN n ≤ 512) :
    Calls Tryz.prog 135 #[.string (bst n)] w fun e w' => ∃ b, e = .returned (.tuple #[.pointer (some ⟨b, 0, none⟩), .bool true]) ∧ NewI w b false n w' := by
  obtain ⟨s, hs⟩ : ∃ s, s = bst n := ⟨_, rfl⟩
  have hsz : s.size ≤ 512 := by rw [hs, bst_size]; exact h
  have HN := Lib.hid (show Big.bnum s.data.toList = n by rw [hs, bst_list, btx_num])
  have HL := Lib.hid (show s.data.toList.head? ≠ some 0 by rw [hs, bst_list]; exact btx_lead n)
  have HC := Lib.hid (setNew w s hsz)
  rw [HN.out] at HC
  rw [← hs]
  clear hs h
  have i1 : ¬ (s.size : Int) > 512 := by omega
  have hcv := fun W => Lib.run_convert_string_bytes (P := Tryz.prog) W 9 140 5 s (u := .string) Tryz.underlying9 Tryz.underlying140 Tryz.underlying5
  by_cases h0 : s.size = 0
  · have i2 : ¬ (s.size : Int) > 0 := by omega
    rw [h0] at HC
    go_enter Tryz.func135, Tryz.ntmps135
    go_wp2_with fail
    refine HC.out.mono ?_
    rintro e w2 ⟨rfl, h2⟩
    have H2 := Lib.hid h2
    clear h2
    go_wp2
    exact bodyPost_ret (v := .tuple #[.pointer (some ⟨w.heap.size, 0, none⟩), .bool true]) (by simp [results, Tryz.results135, go_sem]) rfl ⟨_, rfl, H2.out⟩
  · have p0 : 0 < s.size := by omega
    have i2 : (s.size : Int) > 0 := by omega
    have HD := (show ((s[0].toNat : Int) == 0) = false by
      have := HL.out
      rw [head_get p0] at this
      rw [beq_eq_false_iff_ne]
      intro e; exact this (by rw [Option.some.injEq]; apply UInt8.toNat_inj.1; show _ = 0; omega))
    have hne : ¬ s.toList = [] := by rw [ByteArray.toList_eq]; intro e; have := size_toList s; rw [e] at this; simp at this; omega
    have hne2 : s.toList.isEmpty = false := by rw [Bool.eq_false_iff]; intro e; exact hne (List.isEmpty_iff.1 e)
    go_enter Tryz.func135, Tryz.ntmps135
    go_wp2_with fail
    refine HC.out.mono ?_
    rintro e w2 ⟨rfl, h2⟩
    have H2 := Lib.hid h2
    clear h2
    go_wp2
    exact bodyPost_ret (v := .tuple #[.pointer (some ⟨w.heap.size, 0, none⟩), .bool true]) (by simp [results, Tryz.results135, go_sem]) rfl ⟨_, rfl, H2.out⟩
set_option maxRecDepth 100000 in
theorem setInt64_nat (w : World) (bz k : Nat) (hk : k < 9223372036854775808) (hz : Room w bz 0) : Calls Tryz.prog 152 #[.pointer (some ⟨bz, 0, none⟩), .int .i64 (k : Nat)] w (Put w bz 0 false k) := by
  have i1 : ¬ (k : Int) < 0 := by omega
  have e1 : IntKind.u64.wrap (k : Int) = (k : Int) := by rw [IntKind.wrap_u64]; omega
  have e2 : IntKind.u32.wrap (k : Int) = ((k % 4294967296 : Nat) : Int) := by rw [IntKind.wrap_u32]; omega
  have e3 : IntKind.u32.wrap ((k : Int) / 4294967296) = ((k / 4294967296 : Nat) : Int) := by rw [IntKind.wrap_u32]; omega
  go_enter Tryz.func152, Tryz.ntmps152
  go_wp2_with fail
  have hW : Wd (w.alloc (.cells #[.int .u32 ((k : Int) % 4294967296), .int .u32 ((k : Int) / 4294967296)] 167)) .u32 (.slice (some ⟨w.heap.size, 0, none⟩) 2 2) [k % 4294967296, k / 4294967296] :=
    Wd.new 2 2 rfl (by simp) (by omega) (alloc_new w [.int .u32 ((k : Int) % 4294967296), .int .u32 ((k : Int) / 4294967296)] 167) (fun i hi => by
      have : i = 0 ∨ i = 1 := by simp at hi; omega
      rcases this with rfl | rfl
      · show some (Value.int .u32 ((k : Int) % 4294967296)) = some (.int .u32 ((k % 4294967296 : Nat) : Int))
        congr 2
      · show some (Value.int .u32 ((k : Int) / 4294967296)) = some (.int .u32 ((k / 4294967296 : Nat) : Int))
        congr 2)
  have hA := alloc_below w (.cells #[.int .u32 ((k : Int) % 4294967296), .int .u32 ((k : Int) / 4294967296)] 167)
  have hok : Big.Ok M32 [k % 4294967296, k / 4294967296] := by
    intro d hd
    simp only [List.mem_cons, List.not_mem_nil, or_false] at hd
    rw [M32_eq]
    omega
  have hval : Big.val M32 [k % 4294967296, k / 4294967296] = k := by
    simp only [Big.val, M32_eq]; omega
  have HZ := Lib.hid (hz.keep hA)
  have HA := Lib.hid hA
  have HT := Lib.hid (trim_any _ _ _ hW)
  clear hW hA hz
  generalize w.alloc (.cells #[.int .u32 ((k : Int) % 4294967296), .int .u32 ((k : Int) / 4294967296)] 167) = wa at *
  refine HT.out.mono ?_
  rintro e w1 ⟨v1, rfl, hv1, rfl⟩
  have HN := Lib.hid (hval ▸ Nin.strip hv1 hok)
  have HP := Lib.hid (put_any wa bz 0 k false v1 HN.out HZ.out)
  clear hv1
  go_wp2_with fail
  refine HP.out.mono ?_
  rintro e w2 ⟨rfl, h2⟩
  have H2 := Lib.hid h2
  clear h2
  go_wp2
  go_ret
  exact ⟨rfl, wa, v1, HA.out, HN.out, H2.out.symm⟩
set_option maxRecDepth 100000 in
theorem newInt_nat (w : World) (k : Nat) (hk : k < 9223372036854775808) : Calls Tryz.prog 139 #[.int .i64 (k : Nat)] w fun e w' => ∃ b, e = .returned (.pointer (some ⟨b, 0, none⟩)) ∧ NewI w b false k w' := by
  have hnew := alloc_new w [.bool false, .slice none 0 0] 100
  have hb0 := alloc_below w (.cells #[.bool false, .slice none 0 0] 100)
  have HC := Lib.hid (setInt64_nat (w.alloc (.cells #[.bool false, .slice none 0 0] 100)) w.heap.size k hk (room_at hnew (by simp)))
  have HN := Lib.hid hnew
  have HB := Lib.hid hb0
  clear hnew hb0
  go_enter Tryz.func139, Tryz.ntmps139
  go_wp2_with fail
  refine HC.out.mono ?_
  rintro e w2 ⟨rfl, w1, u, h1, h2, h3⟩
  have H := Lib.hid (newI_of HB.out (Nat.le_refl _) HN.out h1 h2 h3)
  clear h1 h2 h3
  go_wp2
  go_ret
  exact ⟨_, rfl, H.out⟩
end R
end Go.Proofs.YthjofdfnppadnaaGreatDoor
namespace Go.Proofs.YthjofdfnppadnaaGreatDoor
open Go Go.RowKit
namespace Ev
theorem nin_one {w : World} {v : Value} {n : Nat} (h : R.Nin w v n) : isOne v = true := by
  obtain ⟨a, k, c, rfl⟩ := R.nin_slice h; rfl
def RatIn (w : World) (v : Value) (q : Rat) : Prop := ∃ b, v = .pointer (some ⟨b, 0, none⟩) ∧ Tryz.prog.globals.size ≤ b ∧ ∃ u d, w.heap[b]? = some (.cells ⟨[.bool (Big.ng q), u, .bool false, d]⟩ 102 (0, 0)) ∧ R.Nin w u (Big.nu q) ∧ R.Nin w d (Big.de q)
def IntIn (w : World) (v : Value) (s : Bool) (n : Nat) : Prop := ∃ b, v = .pointer (some ⟨b, 0, none⟩) ∧ Tryz.prog.globals.size ≤ b ∧ ∃ u, w.heap[b]? = some (.cells ⟨[.bool s, u]⟩ 100 (0, 0)) ∧ R.Nin w u n
noncomputable def refHid (t : TypeId) : Bool := Nat.beq t 167 || (Nat.beq t 102 || Nat.beq t 100)
def KeepR (w w' : World) : Prop := ∀ (b : Nat) (c : Array Value) (t : TypeId) (z : Nat × Nat), w.heap[b]? = some (.cells c t z) → refHid t = true → w'.heap[b]? = some (.cells c t z)
theorem KeepR.words {w w' : World} (h : KeepR w w') : ∀ (b : Nat) (c : Array Value) (t : TypeId) (z : Nat × Nat), w.heap[b]? = some (.cells c t z) → Nat.beq t 167 = true → w'.heap[b]? = some (.cells c t z) :=
  fun b c t z h1 h2 => h b c t z h1 (by unfold refHid; rw [h2]; rfl)
theorem ratIn_stable {w w' : World} {v : Value} {q : Rat} (h : RatIn w v q) (hk : KeepR w w') : RatIn w' v q := by
  obtain ⟨b, rfl, hg, u, d, hb, hu, hd⟩ := h
  exact ⟨b, rfl, hg, u, d, hk _ _ _ _ hb (by kernel_rfl), R.nin_stable hu hk.words, R.nin_stable hd hk.words⟩
theorem intIn_stable {w w' : World} {v : Value} {s : Bool} {n : Nat} (h : IntIn w v s n) (hk : KeepR w w') : IntIn w' v s n := by
  obtain ⟨b, rfl, hg, u, hb, hu⟩ := h
  exact ⟨b, rfl, hg, u, hk _ _ _ _ hb (by kernel_rfl), R.nin_stable hu hk.words⟩
theorem Below.keepR {w w' : World} (h : Below w.heap.size w w') : KeepR w w' := fun b c t z h1 _ => (h.block b (Array.getElem?_eq_some_iff.1 h1).1).trans h1
theorem RatIn.keep {w w' : World} {v : Value} {q : Rat} (h : RatIn w v q) (hb : Below w.heap.size w w') : RatIn w' v q := ratIn_stable h (Below.keepR hb)
theorem IntIn.keep {w w' : World} {v : Value} {s : Bool} {n : Nat} (h : IntIn w v s n) (hb : Below w.heap.size w w') : IntIn w' v s n := intIn_stable h (Below.keepR hb)
theorem ratIn_one {w : World} {v : Value} {q : Rat} (h : RatIn w v q) : isOne v = true := by
  obtain ⟨b, rfl, _⟩ := h; rfl
theorem intIn_one {w : World} {v : Value} {s : Bool} {n : Nat} (h : IntIn w v s n) : isOne v = true := by
  obtain ⟨b, rfl, _⟩ := h; rfl
end Ev
end Go.Proofs.YthjofdfnppadnaaGreatDoor
namespace Go.Proofs.YthjofdfnppadnaaGreatDoor
namespace R
open Go.RowKit
theorem infoU8 : (Tryz.prog.info? 5).map (fun i => (i.zero, i.size, i.bytes)) = some (some (.int .u8 0), 1, 1) := by kernel_rfl
theorem M32_pow : M32 = 256 ^ 4 := by unfold M32; decide
theorem byte_div (n q r : Nat) (hr : r < 4) : n / M32 ^ q % M32 / 2 ^ (8 * r) % 256 = n / 256 ^ (4 * q + r) % 256 := by
  rw [Nat.mul_comm 8 r, ← Big.pow256, M32_pow, ← Nat.pow_mul, Nat.pow_add, ← Nat.div_div_eq_div_mul]
  generalize n / 256 ^ (4 * q) = m
  have e : 256 ^ 4 = 256 ^ r * 256 ^ (4 - r) := by rw [← Nat.pow_add]; congr 1; omega
  rw [e, Nat.mod_mul_right_div_self]
  have e2 : 256 ^ (4 - r) = 256 * 256 ^ (4 - r - 1) := by rw [← Nat.pow_succ']; congr 1; omega
  rw [e2, Nat.mod_mul_right_mod]
theorem isSize_bits {n s : Nat} (h : IsBits n s) : Big.IsSize n ((s + 7) / 8) := by
  obtain ⟨h1, h2⟩ := h
  refine ⟨?_, fun hp => ?_⟩
  · rw [Big.pow256]
    exact Nat.lt_of_lt_of_le h1 (Nat.pow_le_pow_right (by omega) (by omega))
  · rw [Big.pow256]
    exact Nat.le_trans (Nat.pow_le_pow_right (by omega) (by omega)) (h2 (by omega))
theorem take_set {T : List Nat} {I s d : Nat} (hT : T.length = s) (hI : I < s) (hd : Big.nth T I = d) : (T.take I ++ List.replicate (s - I) 0).set I d = T.take (I + 1) ++ List.replicate (s - (I + 1)) 0 := by
  have hl : (T.take I).length = I := by simp; omega
  rw [List.set_append_right _ _ (by omega), hl, Nat.sub_self, show s - I = (s - (I + 1)) + 1 by omega, List.replicate_succ, List.set_cons_zero, Big.take_succ T I (by omega), hd]
  simp
theorem rev_bd (n s I : Nat) (h : I < s) : Big.nth (Big.bd n s).reverse I = n / 256 ^ (s - 1 - I) % 256 := by
  unfold Big.nth
  rw [List.getD_eq_getElem?_getD, List.getElem?_reverse (by rw [Big.bd_length]; exact h), Big.bd_length]
  unfold Big.bd
  rw [List.getElem?_map, List.getElem?_range (by omega)]
  rfl
set_option maxRecDepth 100000 in
set_option maxHeartbeats 400000 in
theorem bytes_any (w : World) (bx ox n : Nat) (s : Bool) (h : IntAt w bx ox s n) (hn : Sml n) :
    Calls Tryz.prog 200 #[.pointer (some ⟨bx, ox, none⟩)] w fun e w' => ∃ v', e = .returned v' ∧ Bt w' v' (btx n) ∧ Below w.heap.size w w' := by
  obtain ⟨-, u, hc, hu⟩ := h
  obtain ⟨l, hw, ol, nl, hv, hl⟩ := nin_list hu hn
  have HCB := Lib.hid (bitsOf_any w u l hw ol nl (by omega))
  rw [hv] at HCB
  have HW := Lib.hid hw; have OL := Lib.hid ol; have HVAL := Lib.hid hv
  obtain ⟨A, c, rfl, -, -, -⟩ := hw
  obtain ⟨i0, hi, hz0, hz1, hz2⟩ := info_parts infoU8
  have hlt := cell_lt hc
  clear ol nl hv hu hn
  go_enter Tryz.func200, Tryz.ntmps200
  go_wp2_with fail
  with_reducible refine HCB.out.mono ?_
  rintro e w1 ⟨sb, rfl, hsb, hsb1, -, rfl⟩
  obtain ⟨sz, hsz⟩ : ∃ z, (sb + 7) / 8 = z := ⟨_, rfl⟩
  have es : ((sb : Int) + 7) / 8 = (sz : Int) := by omega
  have HSZ := Lib.hid (show Big.IsSize n sz by rw [← hsz]; exact isSize_bits hsb)
  have hsb2 : sz ≤ 800000000 := by omega
  have hmk := fun W => make_words (P := Tryz.prog) Tryz.underlying140 hi hz0 hz1 (by rw [hz2]; omega) .i64 .i64 sz sz (Nat.le_refl _) (by omega) W
  have HB1 := Lib.hid (Blk.new w 5 .u8 (List.replicate sz 0))
  have HBel1 := Lib.hid ((Below.refl w.heap.size w).alloc (Nat.le_refl _) (.cells (cellsOf .u8 (List.replicate sz 0)) 5))
  clear hsb hsb1 hsz
  go_wp2_with fail
  clear hmk hi hz0 hz1 hz2
  simp only [es]
  go_loopw [5] (fun i wr => ∃ (I : Nat), I ≤ sz ∧ i = .int .i64 I ∧
      Hid (Blk wr w.heap.size 5 .u8 ((Big.bd n sz).reverse.take I ++ List.replicate (sz - I) 0)) ∧ Hid (Below w.heap.size w wr))
    (fun i _ => sz - (intOf i).toNat)
  case atStart => exact ⟨0, by omega, rfl, Lib.hid (by simpa using HB1.out), HBel1⟩
  case round =>
    obtain ⟨I, hI, rfl, HB, HBel⟩ := hrel
    by_cases hkn : I < sz
    · obtain ⟨k, hk⟩ : ∃ k, sz - 1 - I = k := ⟨_, rfl⟩
      have ek : (sz : Int) - 1 - (I : Int) = (k : Int) := by omega
      obtain ⟨q, r, hqr, hr⟩ : ∃ q r, k = 4 * q + r ∧ r < 4 := ⟨k / 4, k % 4, by omega, by omega⟩
      have hq : q < l.length := by
        rcases Nat.lt_or_ge q l.length with h1 | h1
        · exact h1
        · exfalso
          have h2 := HSZ.out.2 (by omega)
          have h3 := Big.val_lt l OL.out
          rw [HVAL.out, M32_pow, ← Nat.pow_mul] at h3
          have h4 : 256 ^ (4 * l.length) ≤ 256 ^ (sz - 1) := Nat.pow_le_pow_right (by omega) (by omega)
          omega
      obtain ⟨A', c', e, x1, x2, x3⟩ := HW.out
      cases e
      obtain ⟨b, o, rfl, hblt, hcc, -⟩ := x3 (by omega)
      have hcell := (HBel.out.cell (p := ⟨b, o + q, none⟩) hblt).trans (hcc q hq)
      have hcu := (HBel.out.cell (p := ⟨bx, ox + 1, none⟩) hlt).trans hc
      have hst := HB.out.cell I (by simp [Big.bd_length]; omega)
      have hfr := HB.out.frozen I
      have d1 : (k : Int) / 4 = (q : Int) := by omega
      have d2 : (k : Int) % 4 = (r : Int) := by omega
      have hql : (q : Int) < (l.length : Int) := by omega
      have ev := Big.nth_div M32_pos l OL.out q
      rw [HVAL.out] at ev
      have hxm := nth_lt OL.out q
      have hbyte := rev_bd n sz I hkn
      rw [hk] at hbyte
      generalize Big.nth l q = xq at hcell ev hxm
      have hv : ((xq : Nat) : Int) / 2 ^ (8 * r) % 256 = ((n / 256 ^ k % 256 : Nat) : Int) := by
        rw [hqr, ← byte_div n q r hr, ← ev]
        rw [show ((2 : Int) ^ (8 * r)) = ((2 ^ (8 * r) : Nat) : Int) by rw [Int.natCast_pow]; rfl]
        omega
      have HBY := Lib.hid hbyte
      obtain ⟨y, hy⟩ : ∃ y, n / 256 ^ k % 256 = y := ⟨_, rfl⟩
      rw [hy] at hv HBY
      have HV := Lib.hid hv
      have e8 : (8 * (r : Int)).toNat = 8 * r := by omega
      have hr8 : (8 * (r : Int)) < 32 := by omega
      clear hk hqr hcc x3 ev hbyte hy hv
      go_wp2_with fail
      rw [HV.out]
      refine ⟨⟨I + 1, by omega, by go_num, Lib.hid ?_, Lib.hid (HBel.out.setCell (Nat.le_refl _) _)⟩, by simp [intOf]; omega⟩
      have := HB.out.set I y
      rw [take_set (by simp [Big.bd_length]) hkn HBY.out] at this
      exact this
    · have hkl : I = sz := by omega
      subst hkl
      have hB := HB.out
      rw [Nat.sub_self, List.replicate_zero, List.append_nil, List.take_of_length_le (by simp [Big.bd_length])] at hB
      have HBB := Lib.hid hB
      clear hB
      go_wp2
      go_ret
      refine ⟨_, rfl, ?_, HBel.out⟩
      rw [← btx_of HSZ.out]
      have hbl := Big.btext_length n I
      refine ⟨some ⟨w.heap.size, 0, none⟩, I, by rw [hbl]; rfl, by rw [hbl]; exact Nat.le_refl _, fun _ => ⟨w.heap.size, 0, rfl, HBB.out.lt, fun i hi => ?_, _, _, HBB.out⟩⟩
      rw [Nat.zero_add, ← Big.btext_get n I i hi]
      exact HBB.out.cell i (by rw [List.length_reverse, Big.bd_length, ← hbl]; exact hi)
end R
end Go.Proofs.YthjofdfnppadnaaGreatDoor
