/- Contracts. -/
import Derived.Test.YtnlhjcfpfapafaaSSq17
import Derived.Deep.RegionHeld3
import Derived.Laws.IdiomStrings
namespace Go.Proofs.Ytnlhjcfpfapafaa
open Go.RowKit
theorem lift2 {P : Program} {f : FuncId} {args : Array Value} {b W : World} {r : Nat} (h : Below b.heap.size b W) (c : Calls P f args W (Nat1 W r)) : Calls P f args W (Nat2 b W r) :=
 c.mono fun _ _ ⟨v, h1, h2, h3⟩ => ⟨v, h1, h2, h.trans (h3.mono h.size), h3⟩
set_option maxRecDepth 100000 in
set_option maxHeartbeats 4000000 in
theorem exAdd_any (w : World) (vx vy : Value) (q r : Rat) (k : Nat) (hx : NumIn w vx q) (hy : NumIn w vy r) (sx : Sm k q) (sy : Sm k r) (hk : k ≤ 10000000) :
  Calls Try.prog 43 #[vx, vy] w (Num1 w (q + r)) := by
 obtain ⟨A, l, c, A2, l2, c2, rfl, hx1, hx2⟩ := hx.is_agg
 obtain ⟨B, m, d, B2, m2, d2, rfl, hy1, hy2⟩ := hy.is_agg
 have HX := Lib.hid (And.intro hx1 hx2); have HY := Lib.hid (And.intro hy1 hy2)
 have SX := Lib.hid sx; have SY := Lib.hid sy
 have PP := Lib.hid (Big.add_parts q r _ _ _ _ rfl rfl rfl rfl)
 have GX := Lib.hid (And.intro (@Big.ng_pos q) (And.intro (@Big.ng_pos r) (And.intro (Big.de_pos q) (Big.de_pos r))))
 clear hx hy hx1 hx2 hy1 hy2 sx sy
 generalize Big.ng q = nq at *
 generalize Big.ng r = nr at *
 go_enter Try.func43, Try.ntmps43
 go_wp2_with fail
 obtain ⟨X0, Y0, R0, B0⟩ := boxed3 w 70 70 (.bool nq) (.slice A l c) (.slice A2 l2 c2) (.bool nr) (.slice B m d) (.slice B2 m2 d2) (.bool false) (.slice none 0 0) (.slice none 0 0)
 have HX0 := Lib.hid X0; have HY0 := Lib.hid Y0; have HR0 := Lib.hid R0; have HB0 := Lib.hid B0
 clear X0 Y0 R0 B0
 generalize ((w.alloc (.cells #[.bool nq, .slice A l c, .slice A2 l2 c2] 70)).alloc (.cells #[.bool nr, .slice B m d, .slice B2 m2 d2] 70)).alloc (.cells #[.bool false, .slice none 0 0, .slice none 0 0] 70) = w0 at *
 have G0 := Lib.hid (gcd_num w0 _ _ _ _ k k (HX.out.2.keep HB0.out) (HY.out.2.keep HB0.out) SX.out.de SY.out.de (by omega) (by omega))
 obtain ⟨s, hs⟩ : ∃ s, Nat.gcd (Big.de q) (Big.de r) = s := ⟨_, rfl⟩
 rw [hs] at PP G0
 have hs1 : 1 ≤ s := by rw [← hs]; exact Big.gcd_pos_right GX.out.2.2.2
 have hsq : s ∣ Big.de q := by rw [← hs]; exact Nat.gcd_dvd_left _ _
 have hsr : s ∣ Big.de r := by rw [← hs]; exact Nat.gcd_dvd_right _ _
 have hR1 : 1 ≤ Big.de r / s := Nat.div_pos (Nat.le_of_dvd GX.out.2.2.2 hsr) hs1
 have hL1 : 1 ≤ Big.de q / s := Nat.div_pos (Nat.le_of_dvd GX.out.2.2.1 hsq) hs1
 have SS := Lib.hid (SX.out.de.le (Nat.le_of_dvd GX.out.2.2.1 hsq))
 have SL := Lib.hid (SX.out.de.le (Nat.div_le_self (Big.de q) s)); have SR := Lib.hid (SY.out.de.le (Nat.div_le_self (Big.de r) s))
 have CL := Lib.hid (fun W v (h : NatIn W (.slice A2 l2 c2) (Big.de q)) (i : NatIn W v s) => quo_num W _ _ _ _ k h i SX.out.de (by omega))
 have CR := Lib.hid (fun W v (h : NatIn W (.slice B2 m2 d2) (Big.de r)) (i : NatIn W v s) => quo_num W _ _ _ _ k h i SY.out.de (by omega))
 obtain ⟨L, hL⟩ : ∃ L, Big.de q / s = L := ⟨_, rfl⟩
 obtain ⟨R, hR⟩ : ∃ R, Big.de r / s = R := ⟨_, rfl⟩
 rw [hL] at PP CL SL hL1; rw [hR] at PP CR SR hR1
 clear hs hs1 hsq hsr hL hR
 refine G0.out.mono ?_
 rintro e w1 ⟨v1, rfl, hv1, hb1⟩
 have HV1 := Lib.hid hv1; have HB1 := Lib.hid (HB0.out.trans (hb1.mono HB0.out.size))
 have HX1 := Lib.hid (HX0.out.keep hb1); have HY1 := Lib.hid (HY0.out.keep hb1); have HR1 := Lib.hid (HR0.out.keep hb1)
 clear hv1 hb1 HX0 HY0 HR0 HB0
 have KX := Lib.hid (fun W (h : Below w1.heap.size w1 W) => And.intro (HX1.out.keep h).c2 (HY1.out.keep h).c2)
 have CQ1 := Lib.hid (fun W (h : Below w1.heap.size w1 W) => lift2 h (CL.out W v1 ((HX.out.2.keep HB1.out).keep h) (HV1.out.keep h)))
 have CQ2 := Lib.hid (fun W (h : Below w1.heap.size w1 W) => lift2 h (CR.out W v1 ((HY.out.2.keep HB1.out).keep h) (HV1.out.keep h)))
 go_wp2_with fail
 go_region_held3 (fun w' => w'.cell? ⟨w.heap.size, 2, none⟩ = some (.slice A2 l2 c2) ∧ w'.cell? ⟨w.heap.size + 1, 2, none⟩ = some (.slice B2 m2 d2))
  (exact KX.out _ (by first | assumption | exact Below.refl _ _ | exact below_drew (Below.refl _ _) | exact below_drew (by assumption)))
  (first
   | (go_at_call 74; (with_reducible refine (CQ1.out _ (by first | assumption | exact Below.refl _ _ | exact below_drew (Below.refl _ _) | exact below_drew (by assumption))).mono ?_); rintro e w2 ⟨v2, rfl, hv2, hw2, hw2'⟩)
   | (go_at_call 74; (with_reducible refine (CQ2.out _ (by first | assumption | exact Below.refl _ _ | exact below_drew (Below.refl _ _) | exact below_drew (by assumption))).mono ?_); rintro e w3 ⟨v3, rfl, hv3, hw3, hw3'⟩)
   | fail)
 have HB3 := Lib.hid (HB1.out.trans (hw3.mono HB1.out.size))
 have HX3 := Lib.hid (HX1.out.keep hw3); have HY3 := Lib.hid (HY1.out.keep hw3); have HR3 := Lib.hid (HR1.out.keep hw3)
 have HV := Lib.hid (And.intro (HV1.out.keep hw3) (And.intro (hv2.keep hw3') hv3))
 clear hv2 hw2 hw2' hv3 hw3 hw3' HX1 HY1 HR1 HB1 HV1 KX CQ1 CQ2 CL
 have KX := Lib.hid (fun W (h : Below w3.heap.size w3 W) => And.intro (HX3.out.keep h).c0 (And.intro (HX3.out.keep h).c1 (And.intro (HY3.out.keep h).c0 (HY3.out.keep h).c1)))
 have CM1 := Lib.hid (fun W (h : Below w3.heap.size w3 W) => lift2 h (mul_num W _ _ _ _ k k ((HX.out.1.keep HB3.out).keep h) (HV.out.2.2.keep h) SX.out.nu SR.out (by omega) (by omega)))
 have CM2 := Lib.hid (fun W (h : Below w3.heap.size w3 W) => lift2 h (mul_num W _ _ _ _ k k ((HY.out.1.keep HB3.out).keep h) (HV.out.2.1.keep h) SY.out.nu SL.out (by omega) (by omega)))
 have CS := Lib.hid (fun W a b (ha : NatIn W a (Big.nu q * R)) (hb : NatIn W b (Big.nu r * L)) (h : Below w3.heap.size w3 W) => liftS h (exsum_any W nq nr a b _ _ _ _ ha hb (SX.out.nu.mul SR.out) (SY.out.nu.mul SL.out) (by omega) (by omega) (fun e => Nat.mul_pos (GX.out.1 e) hR1) (fun e => Nat.mul_pos (GX.out.2.1 e) hL1)))
 have SSm := Lib.hid (((SX.out.nu.mul SR.out).add (SY.out.nu.mul SL.out)).le (abs_sum_le nq nr _ _))
 generalize Big.sI nq (Big.nu q * R) + Big.sI nr (Big.nu r * L) = S at *
 go_wp2_with fail
 go_region_held3 (fun w' => w'.cell? ⟨w.heap.size, 0, none⟩ = some (.bool nq) ∧ w'.cell? ⟨w.heap.size, 1, none⟩ = some (.slice A l c) ∧ w'.cell? ⟨w.heap.size + 1, 0, none⟩ = some (.bool nr) ∧ w'.cell? ⟨w.heap.size + 1, 1, none⟩ = some (.slice B m d))
  (exact KX.out _ (by first | assumption | exact Below.refl _ _ | exact below_drew (Below.refl _ _) | exact below_drew (by assumption)))
  (first
   | (go_at_call 70; (with_reducible refine (CM1.out _ (by first | assumption | exact Below.refl _ _ | exact below_drew (Below.refl _ _) | exact below_drew (by assumption))).mono ?_); rintro e w4 ⟨v4, rfl, hv4, hw4, hw4'⟩)
   | (go_at_call 70; (with_reducible refine (CM2.out _ (by first | assumption | exact Below.refl _ _ | exact below_drew (Below.refl _ _) | exact below_drew (by assumption))).mono ?_); rintro e w5 ⟨v5, rfl, hv5, hw5, hw5'⟩)
   | (go_at_call 75; (with_reducible refine (CS.out _ _ _ (by first | exact hv4.keep hw5' | exact NatIn.dr (hv4.keep hw5')) (by first | exact hv5 | exact NatIn.dr (hv5)) (by first | assumption | exact Below.refl _ _ | exact below_drew (Below.refl _ _) | exact below_drew (by assumption))).mono ?_); rintro e w6 ⟨v6, rfl, hv6, hw6, hw6'⟩)
   | fail)
 have HB6 := Lib.hid (HB3.out.trans (hw6.mono HB3.out.size))
 have HY6 := Lib.hid (HY3.out.keep hw6); have HR6 := Lib.hid (HR3.out.keep hw6)
 have HV6 := Lib.hid (And.intro (HV.out.1.keep hw6) (And.intro (HV.out.2.1.keep hw6) hv6))
 clear hv4 hw4 hw4' hv5 hw5 hw5' hv6 hw6 hw6' HX3 HY3 HR3 HB3 HV KX CM1 CM2 CS
 clear HX CR hL1 hR1
 have G6 := Lib.hid (gcd_num w6 _ _ _ _ _ k HV6.out.2.2 HV6.out.1 SSm.out SS.out (by omega) (by omega))
 obtain ⟨cm, hc⟩ : ∃ z, Nat.gcd S.natAbs s = z := ⟨_, rfl⟩
 rw [hc] at PP G6
 clear hc
 go_wp2_with fail
 refine G6.out.mono ?_
 rintro e w7 ⟨v7, rfl, hv7, hw7⟩
 have HB7 := Lib.hid (HB6.out.trans (hw7.mono HB6.out.size))
 have HY7 := Lib.hid (HY6.out.keep hw7); have HR7 := Lib.hid (HR6.out.keep hw7)
 have HV7 := Lib.hid (And.intro (HV6.out.2.1.keep hw7) (And.intro (HV6.out.2.2.keep hw7) hv7))
 clear hv7 hw7 HB6 HY6 HR6 HV6 G6
 have KX := Lib.hid (fun W (h : Below w7.heap.size w7 W) => (HY7.out.keep h).c2)
 have CQ1 := Lib.hid (fun W (h : Below w7.heap.size w7 W) => lift2 h (quo_num W _ _ _ _ _ (HV7.out.2.1.keep h) (HV7.out.2.2.keep h) SSm.out (by omega)))
 have CQ2 := Lib.hid (fun W (h : Below w7.heap.size w7 W) => lift2 h (quo_num W _ _ _ _ k ((HY.out.2.keep HB7.out).keep h) (HV7.out.2.2.keep h) SY.out.de (by omega)))
 have CM := Lib.hid (fun W a (ha : NatIn W a (Big.de r / cm)) (h : Below w7.heap.size w7 W) => lift2 h (mul_num W _ _ _ _ k k (HV7.out.1.keep h) ha SL.out (SY.out.de.le (Nat.div_le_self _ _)) (by omega) (by omega)))
 have KP := Lib.hid (fun W x y z (h : Below w7.heap.size w7 W) => put_cell (KX.out W h) (show w.heap.size + 1 ≠ w.heap.size + 1 + 1 by omega) x y z)
 have RES := Lib.hid (fun W (h : Below w7.heap.size w7 W) => HR7.out.keep h)
 go_wp2_with fail
 go_region_held3 (fun w' => w'.cell? ⟨w.heap.size + 1, 2, none⟩ = some (.slice B2 m2 d2))
  (first | exact KX.out _ (by first | assumption | exact Below.refl _ _ | exact below_drew (Below.refl _ _) | exact below_drew (by assumption)) | exact KP.out _ _ _ _ (by assumption))
  (first
   | (go_at_call 74; (with_reducible refine (CQ1.out _ (by first | assumption | exact Below.refl _ _ | exact below_drew (Below.refl _ _) | exact below_drew (by assumption))).mono ?_); rintro e w8 ⟨v8, rfl, hv8, hw8, hw8'⟩)
   | (go_at_call 74; (with_reducible refine (CQ2.out _ (by first | assumption | exact Below.refl _ _ | exact below_drew (Below.refl _ _) | exact below_drew (by assumption))).mono ?_); rintro e w9 ⟨v9, rfl, hv9, hw9, hw9'⟩)
   | (go_at_call 70; (with_reducible refine (CM.out _ _ (by first | exact hv9 | exact NatIn.dr (hv9)) (by first | assumption | exact Below.refl _ _ | exact below_drew (Below.refl _ _) | exact below_drew (by assumption))).mono ?_); rintro e w10 ⟨v10, rfl, hv10, hw10, hw10'⟩; have RR := RES.out _ hw10; have k0 := RR.c0; have k1 := RR.c1; have k2 := RR.c2; have f0 := RR.frozen 0; have f1 := RR.frozen 1; have f2 := RR.frozen 2; obtain ⟨A8, l8, c8, rfl, hl8⟩ := hv8.is_slice; obtain ⟨A10, l10, c10, rfl, hl10⟩ := hv10.is_slice)
   | fail)
 have h8 := (hv8.keep hw9').keep hw10'
 rw [← PP.out.2.1] at h8
 rw [← PP.out.2.2] at hv10
 obtain ⟨D1, D2, D3⟩ := num_done (show NumRes w10 _ _ from RR) (HB7.out.trans (hw10.mono HB7.out.size)) (by omega) h8 hv10 PP.out.1.symm
 have HD1 := Lib.hid D1; have HD2 := Lib.hid D2; have HD3 := Lib.hid D3
 clear D1 D2 D3 k0 k1 k2 f0 f1 f2 RR h8
 generalize (((w10.setCell ⟨w.heap.size + 1 + 1, 0, none⟩ (.bool (decide (S < 0)))).setCell ⟨w.heap.size + 1 + 1, 1, none⟩ (.slice A8 l8 c8)).setCell ⟨w.heap.size + 1 + 1, 2, none⟩ (.slice A10 l10 c10)) = wz at HD1 HD2 HD3 ⊢
 have r0 := HD1.out.c0; have r1 := HD1.out.c1; have r2 := HD1.out.c2
 go_wp2_with fail
 exact bodyPost_ret (v := .agg #[.bool (decide (S < 0)), .slice A8 l8 c8, .slice A10 l10 c10]) (by simp [results, Try.results43, go_sem, r0, r1, r2]) rfl ⟨_, rfl, HD2.out, HD3.out⟩
end Go.Proofs.Ytnlhjcfpfapafaa
namespace Go.Proofs.Ytnlhjcfpfapafaa
open Go.RowKit
set_option maxRecDepth 100000 in
set_option maxHeartbeats 4000000 in
theorem exMul_any (w : World) (vx vy : Value) (q r : Rat) (k : Nat) (hx : NumIn w vx q) (hy : NumIn w vy r) (sx : Sm k q) (sy : Sm k r) (hk : k ≤ 10000000) :
  Calls Try.prog 45 #[vx, vy] w (Num1 w (q * r)) := by
 obtain ⟨A, l, c, A2, l2, c2, rfl, hx1, hx2⟩ := hx.is_agg
 obtain ⟨B, m, d, B2, m2, d2, rfl, hy1, hy2⟩ := hy.is_agg
 have HX := Lib.hid (And.intro hx1 hx2); have HY := Lib.hid (And.intro hy1 hy2)
 have SX := Lib.hid sx; have SY := Lib.hid sy
 have GX := Lib.hid (And.intro (@Big.ng_pos q) (And.intro (@Big.ng_pos r) (And.intro (Big.de_pos q) (Big.de_pos r))))
 have PP := Lib.hid (Big.mul_parts q r)
 clear hx hy hx1 hx2 hy1 hy2 sx sy
 obtain ⟨g1, hg1⟩ : ∃ z, Nat.gcd (Big.nu q) (Big.de r) = z := ⟨_, rfl⟩
 obtain ⟨g2, hg2⟩ : ∃ z, Nat.gcd (Big.nu r) (Big.de q) = z := ⟨_, rfl⟩
 have HG := Lib.hid (And.intro hg1 hg2)
 rw [hg1, hg2] at PP
 clear hg1 hg2
 generalize Big.ng q = nq at *
 generalize Big.ng r = nr at *
 go_enter Try.func45, Try.ntmps45
 go_wp2_with fail
 obtain ⟨X0, Y0, R0, B0⟩ := boxed3 w 70 70 (.bool nq) (.slice A l c) (.slice A2 l2 c2) (.bool nr) (.slice B m d) (.slice B2 m2 d2) (.bool false) (.slice none 0 0) (.slice none 0 0)
 have HX0 := Lib.hid X0; have HY0 := Lib.hid Y0; have HR0 := Lib.hid R0; have HB0 := Lib.hid B0
 clear X0 Y0 R0 B0
 generalize ((w.alloc (.cells #[.bool nq, .slice A l c, .slice A2 l2 c2] 70)).alloc (.cells #[.bool nr, .slice B m d, .slice B2 m2 d2] 70)).alloc (.cells #[.bool false, .slice none 0 0, .slice none 0 0] 70) = w0 at *
 have KX := Lib.hid (fun W (h : Below w0.heap.size w0 W) => And.intro (HX0.out.keep h).c1 (And.intro (HX0.out.keep h).c2 (And.intro (HY0.out.keep h).c1 (HY0.out.keep h).c2)))
 have C1 := Lib.hid (fun W (h : Below w0.heap.size w0 W) => lift2 h (HG.out.1 ▸ gcd_num W _ _ _ _ k k ((HX.out.1.keep HB0.out).keep h) ((HY.out.2.keep HB0.out).keep h) SX.out.nu SY.out.de (by omega) (by omega)))
 have C2 := Lib.hid (fun W (h : Below w0.heap.size w0 W) => lift2 h (HG.out.2 ▸ gcd_num W _ _ _ _ k k ((HY.out.1.keep HB0.out).keep h) ((HX.out.2.keep HB0.out).keep h) SY.out.nu SX.out.de (by omega) (by omega)))
 go_wp2_with fail
 go_region_held3 (fun w' => w'.cell? ⟨w.heap.size, 1, none⟩ = some (.slice A l c) ∧ w'.cell? ⟨w.heap.size, 2, none⟩ = some (.slice A2 l2 c2) ∧ w'.cell? ⟨w.heap.size + 1, 1, none⟩ = some (.slice B m d) ∧ w'.cell? ⟨w.heap.size + 1, 2, none⟩ = some (.slice B2 m2 d2))
  (exact KX.out _ (by first | assumption | exact Below.refl _ _ | exact below_drew (Below.refl _ _) | exact below_drew (by assumption)))
  (first
   | (go_at_call 65; (with_reducible refine (C1.out _ (by first | assumption | exact Below.refl _ _ | exact below_drew (Below.refl _ _) | exact below_drew (by assumption))).mono ?_); rintro e w2 ⟨v2, rfl, hv2, hw2, hw2'⟩)
   | (go_at_call 65; (with_reducible refine (C2.out _ (by first | assumption | exact Below.refl _ _ | exact below_drew (Below.refl _ _) | exact below_drew (by assumption))).mono ?_); rintro e w3 ⟨v3, rfl, hv3, hw3, hw3'⟩)
   | fail)
 have HB3 := Lib.hid (HB0.out.trans (hw3.mono HB0.out.size))
 have HX3 := Lib.hid (HX0.out.keep hw3); have HY3 := Lib.hid (HY0.out.keep hw3); have HR3 := Lib.hid (HR0.out.keep hw3)
 have HV := Lib.hid (And.intro (hv2.keep hw3') hv3)
 clear hv2 hw2 hw2' hv3 hw3 hw3' HX0 HY0 HR0 HB0 KX C1 C2
 have KX := Lib.hid (fun W (h : Below w3.heap.size w3 W) => And.intro (HX3.out.keep h).c1 (HY3.out.keep h).c1)
 have C1 := Lib.hid (fun W (h : Below w3.heap.size w3 W) => lift2 h (quo_num W _ _ _ _ k ((HX.out.1.keep HB3.out).keep h) (HV.out.1.keep h) SX.out.nu (by omega)))
 have C2 := Lib.hid (fun W (h : Below w3.heap.size w3 W) => lift2 h (quo_num W _ _ _ _ k ((HY.out.1.keep HB3.out).keep h) (HV.out.2.keep h) SY.out.nu (by omega)))
 have CM := Lib.hid (fun W a b (ha : NatIn W a (Big.nu q / g1)) (hb : NatIn W b (Big.nu r / g2)) (h : Below w3.heap.size w3 W) => lift2 h (mul_num W _ _ _ _ k k ha hb (SX.out.nu.le (Nat.div_le_self _ _)) (SY.out.nu.le (Nat.div_le_self _ _)) (by omega) (by omega)))
 go_wp2_with fail
 go_region_held3 (fun w' => w'.cell? ⟨w.heap.size, 1, none⟩ = some (.slice A l c) ∧ w'.cell? ⟨w.heap.size + 1, 1, none⟩ = some (.slice B m d))
  (exact KX.out _ (by first | assumption | exact Below.refl _ _ | exact below_drew (Below.refl _ _) | exact below_drew (by assumption)))
  (first
   | (go_at_call 74; (with_reducible refine (C1.out _ (by first | assumption | exact Below.refl _ _ | exact below_drew (Below.refl _ _) | exact below_drew (by assumption))).mono ?_); rintro e w4 ⟨v4, rfl, hv4, hw4, hw4'⟩)
   | (go_at_call 74; (with_reducible refine (C2.out _ (by first | assumption | exact Below.refl _ _ | exact below_drew (Below.refl _ _) | exact below_drew (by assumption))).mono ?_); rintro e w5 ⟨v5, rfl, hv5, hw5, hw5'⟩)
   | (go_at_call 70; (with_reducible refine (CM.out _ _ _ (by first | exact hv4.keep hw5' | exact NatIn.dr (hv4.keep hw5')) (by first | exact hv5 | exact NatIn.dr (hv5)) (by first | assumption | exact Below.refl _ _ | exact below_drew (Below.refl _ _) | exact below_drew (by assumption))).mono ?_); rintro e w6 ⟨v6, rfl, hv6, hw6, hw6'⟩)
   | fail)
 have HB6 := Lib.hid (HB3.out.trans (hw6.mono HB3.out.size))
 have HX6 := Lib.hid (HX3.out.keep hw6); have HY6 := Lib.hid (HY3.out.keep hw6); have HR6 := Lib.hid (HR3.out.keep hw6)
 have HV6 := Lib.hid (And.intro (HV.out.1.keep hw6) (And.intro (HV.out.2.keep hw6) hv6))
 clear hv4 hw4 hw4' hv5 hw5 hw5' hv6 hw6 hw6' HX3 HY3 HR3 HB3 HV KX C1 C2 CM
 have KX := Lib.hid (fun W (h : Below w6.heap.size w6 W) => And.intro (HX6.out.keep h).c2 (HY6.out.keep h).c2)
 have C1 := Lib.hid (fun W (h : Below w6.heap.size w6 W) => lift2 h (quo_num W _ _ _ _ k ((HX.out.2.keep HB6.out).keep h) (HV6.out.2.1.keep h) SX.out.de (by omega)))
 have C2 := Lib.hid (fun W (h : Below w6.heap.size w6 W) => lift2 h (quo_num W _ _ _ _ k ((HY.out.2.keep HB6.out).keep h) (HV6.out.1.keep h) SY.out.de (by omega)))
 have CM := Lib.hid (fun W a b (ha : NatIn W a (Big.de q / g2)) (hb : NatIn W b (Big.de r / g1)) (h : Below w6.heap.size w6 W) => lift2 h (mul_num W _ _ _ _ k k ha hb (SX.out.de.le (Nat.div_le_self _ _)) (SY.out.de.le (Nat.div_le_self _ _)) (by omega) (by omega)))
 go_wp2_with fail
 go_region_held3 (fun w' => w'.cell? ⟨w.heap.size, 2, none⟩ = some (.slice A2 l2 c2) ∧ w'.cell? ⟨w.heap.size + 1, 2, none⟩ = some (.slice B2 m2 d2))
  (exact KX.out _ (by first | assumption | exact Below.refl _ _ | exact below_drew (Below.refl _ _) | exact below_drew (by assumption)))
  (first
   | (go_at_call 74; (with_reducible refine (C1.out _ (by first | assumption | exact Below.refl _ _ | exact below_drew (Below.refl _ _) | exact below_drew (by assumption))).mono ?_); rintro e w7 ⟨v7, rfl, hv7, hw7, hw7'⟩)
   | (go_at_call 74; (with_reducible refine (C2.out _ (by first | assumption | exact Below.refl _ _ | exact below_drew (Below.refl _ _) | exact below_drew (by assumption))).mono ?_); rintro e w8 ⟨v8, rfl, hv8, hw8, hw8'⟩)
   | (go_at_call 70; (with_reducible refine (CM.out _ _ _ (by first | exact hv7.keep hw8' | exact NatIn.dr (hv7.keep hw8')) (by first | exact hv8 | exact NatIn.dr (hv8)) (by first | assumption | exact Below.refl _ _ | exact below_drew (Below.refl _ _) | exact below_drew (by assumption))).mono ?_); rintro e w9 ⟨v9, rfl, hv9, hw9, hw9'⟩)
   | fail)
 have HB9 := Lib.hid (HB6.out.trans (hw9.mono HB6.out.size))
 have X9 := HX6.out.keep hw9; have Y9 := HY6.out.keep hw9
 have x0 := X9.c0; have y0 := Y9.c0
 have RR := HR6.out.keep hw9
 have k0 := RR.c0; have k1 := RR.c1; have k2 := RR.c2; have f0 := RR.frozen 0; have f1 := RR.frozen 1; have f2 := RR.frozen 2
 have h6 := HV6.out.2.2.keep hw9
 obtain ⟨A6, l6, c6, rfl, hl6⟩ := h6.is_slice
 obtain ⟨A9, l9, c9, rfl, hl9⟩ := hv9.is_slice
 rw [← PP.out.2.2] at hv9
 rw [← PP.out.2.1] at h6 hl6
 have HH := Lib.hid (And.intro h6 hv9)
 have HNG := Lib.hid (show Big.ng (q * r) = ((nq != nr) && decide (0 < l6)) by
  rw [PP.out.1, ← PP.out.2.1]; congr 1; rw [decide_eq_decide, Nat.pos_iff_ne_zero, Nat.pos_iff_ne_zero, Ne, Ne, hl6])
 have HRR := Lib.hid RR
 clear hv7 hw7 hw7' hv8 hw8 hw8' hv9 hw9 hw9' HX6 HY6 HR6 HB6 HV6 KX C1 C2 CM X9 Y9 h6 hl6 hl9 RR PP HX HY SX SY GX HG
 rcases Nat.eq_zero_or_pos l6 with hl0 | hl0
 ·subst hl0
  rw [decide_eq_false (by omega), Bool.and_false] at HNG
  cases nq
  ·cases nr
   ·go_wp2_with fail
    obtain ⟨D1, D2, D3⟩ := num_done (bb := false) (show NumRes w9 _ _ from HRR.out) HB9.out (by omega) HH.out.1 HH.out.2 HNG.out.symm
    have HD1 := Lib.hid D1; have HD2 := Lib.hid D2; have HD3 := Lib.hid D3
    clear D1 D2 D3 k0 k1 k2 f0 f1 f2
    generalize (((w9.setCell ⟨w.heap.size + 1 + 1, 0, none⟩ (.bool (false))).setCell ⟨w.heap.size + 1 + 1, 1, none⟩ (.slice A6 0 c6)).setCell ⟨w.heap.size + 1 + 1, 2, none⟩ (.slice A9 l9 c9)) = wz at HD1 HD2 HD3 ⊢
    have r0 := HD1.out.c0; have r1 := HD1.out.c1; have r2 := HD1.out.c2
    go_wp2_with fail
    exact bodyPost_ret (v := .agg #[.bool (false), (.slice A6 0 c6), (.slice A9 l9 c9)]) (by simp [results, Try.results45, go_sem, r0, r1, r2]) rfl ⟨_, rfl, HD2.out, HD3.out⟩
   ·go_wp2_with fail
    obtain ⟨D1, D2, D3⟩ := num_done (bb := false) (show NumRes w9 _ _ from HRR.out) HB9.out (by omega) HH.out.1 HH.out.2 HNG.out.symm
    have HD1 := Lib.hid D1; have HD2 := Lib.hid D2; have HD3 := Lib.hid D3
    clear D1 D2 D3 k0 k1 k2 f0 f1 f2
    generalize (((w9.setCell ⟨w.heap.size + 1 + 1, 0, none⟩ (.bool (false))).setCell ⟨w.heap.size + 1 + 1, 1, none⟩ (.slice A6 0 c6)).setCell ⟨w.heap.size + 1 + 1, 2, none⟩ (.slice A9 l9 c9)) = wz at HD1 HD2 HD3 ⊢
    have r0 := HD1.out.c0; have r1 := HD1.out.c1; have r2 := HD1.out.c2
    go_wp2_with fail
    exact bodyPost_ret (v := .agg #[.bool (false), (.slice A6 0 c6), (.slice A9 l9 c9)]) (by simp [results, Try.results45, go_sem, r0, r1, r2]) rfl ⟨_, rfl, HD2.out, HD3.out⟩
  ·cases nr
   ·go_wp2_with fail
    obtain ⟨D1, D2, D3⟩ := num_done (bb := false) (show NumRes w9 _ _ from HRR.out) HB9.out (by omega) HH.out.1 HH.out.2 HNG.out.symm
    have HD1 := Lib.hid D1; have HD2 := Lib.hid D2; have HD3 := Lib.hid D3
    clear D1 D2 D3 k0 k1 k2 f0 f1 f2
    generalize (((w9.setCell ⟨w.heap.size + 1 + 1, 0, none⟩ (.bool (false))).setCell ⟨w.heap.size + 1 + 1, 1, none⟩ (.slice A6 0 c6)).setCell ⟨w.heap.size + 1 + 1, 2, none⟩ (.slice A9 l9 c9)) = wz at HD1 HD2 HD3 ⊢
    have r0 := HD1.out.c0; have r1 := HD1.out.c1; have r2 := HD1.out.c2
    go_wp2_with fail
    exact bodyPost_ret (v := .agg #[.bool (false), (.slice A6 0 c6), (.slice A9 l9 c9)]) (by simp [results, Try.results45, go_sem, r0, r1, r2]) rfl ⟨_, rfl, HD2.out, HD3.out⟩
   ·go_wp2_with fail
    obtain ⟨D1, D2, D3⟩ := num_done (bb := false) (show NumRes w9 _ _ from HRR.out) HB9.out (by omega) HH.out.1 HH.out.2 HNG.out.symm
    have HD1 := Lib.hid D1; have HD2 := Lib.hid D2; have HD3 := Lib.hid D3
    clear D1 D2 D3 k0 k1 k2 f0 f1 f2
    generalize (((w9.setCell ⟨w.heap.size + 1 + 1, 0, none⟩ (.bool (false))).setCell ⟨w.heap.size + 1 + 1, 1, none⟩ (.slice A6 0 c6)).setCell ⟨w.heap.size + 1 + 1, 2, none⟩ (.slice A9 l9 c9)) = wz at HD1 HD2 HD3 ⊢
    have r0 := HD1.out.c0; have r1 := HD1.out.c1; have r2 := HD1.out.c2
    go_wp2_with fail
    exact bodyPost_ret (v := .agg #[.bool (false), (.slice A6 0 c6), (.slice A9 l9 c9)]) (by simp [results, Try.results45, go_sem, r0, r1, r2]) rfl ⟨_, rfl, HD2.out, HD3.out⟩
 ·have t4 : ((l6 : Int) > 0) := by omega
  rw [decide_eq_true (by omega), Bool.and_true] at HNG
  cases nq
  ·cases nr
   ·go_wp2_with fail
    obtain ⟨D1, D2, D3⟩ := num_done (bb := false) (show NumRes w9 _ _ from HRR.out) HB9.out (by omega) HH.out.1 HH.out.2 HNG.out.symm
    have HD1 := Lib.hid D1; have HD2 := Lib.hid D2; have HD3 := Lib.hid D3
    clear D1 D2 D3 k0 k1 k2 f0 f1 f2
    generalize (((w9.setCell ⟨w.heap.size + 1 + 1, 0, none⟩ (.bool (false))).setCell ⟨w.heap.size + 1 + 1, 1, none⟩ (.slice A6 l6 c6)).setCell ⟨w.heap.size + 1 + 1, 2, none⟩ (.slice A9 l9 c9)) = wz at HD1 HD2 HD3 ⊢
    have r0 := HD1.out.c0; have r1 := HD1.out.c1; have r2 := HD1.out.c2
    go_wp2_with fail
    exact bodyPost_ret (v := .agg #[.bool (false), (.slice A6 l6 c6), (.slice A9 l9 c9)]) (by simp [results, Try.results45, go_sem, r0, r1, r2]) rfl ⟨_, rfl, HD2.out, HD3.out⟩
   ·go_wp2_with fail
    obtain ⟨D1, D2, D3⟩ := num_done (bb := true) (show NumRes w9 _ _ from HRR.out) HB9.out (by omega) HH.out.1 HH.out.2 HNG.out.symm
    have HD1 := Lib.hid D1; have HD2 := Lib.hid D2; have HD3 := Lib.hid D3
    clear D1 D2 D3 k0 k1 k2 f0 f1 f2
    generalize (((w9.setCell ⟨w.heap.size + 1 + 1, 0, none⟩ (.bool (true))).setCell ⟨w.heap.size + 1 + 1, 1, none⟩ (.slice A6 l6 c6)).setCell ⟨w.heap.size + 1 + 1, 2, none⟩ (.slice A9 l9 c9)) = wz at HD1 HD2 HD3 ⊢
    have r0 := HD1.out.c0; have r1 := HD1.out.c1; have r2 := HD1.out.c2
    go_wp2_with fail
    exact bodyPost_ret (v := .agg #[.bool (true), (.slice A6 l6 c6), (.slice A9 l9 c9)]) (by simp [results, Try.results45, go_sem, r0, r1, r2]) rfl ⟨_, rfl, HD2.out, HD3.out⟩
  ·cases nr
   ·go_wp2_with fail
    obtain ⟨D1, D2, D3⟩ := num_done (bb := true) (show NumRes w9 _ _ from HRR.out) HB9.out (by omega) HH.out.1 HH.out.2 HNG.out.symm
    have HD1 := Lib.hid D1; have HD2 := Lib.hid D2; have HD3 := Lib.hid D3
    clear D1 D2 D3 k0 k1 k2 f0 f1 f2
    generalize (((w9.setCell ⟨w.heap.size + 1 + 1, 0, none⟩ (.bool (true))).setCell ⟨w.heap.size + 1 + 1, 1, none⟩ (.slice A6 l6 c6)).setCell ⟨w.heap.size + 1 + 1, 2, none⟩ (.slice A9 l9 c9)) = wz at HD1 HD2 HD3 ⊢
    have r0 := HD1.out.c0; have r1 := HD1.out.c1; have r2 := HD1.out.c2
    go_wp2_with fail
    exact bodyPost_ret (v := .agg #[.bool (true), (.slice A6 l6 c6), (.slice A9 l9 c9)]) (by simp [results, Try.results45, go_sem, r0, r1, r2]) rfl ⟨_, rfl, HD2.out, HD3.out⟩
   ·go_wp2_with fail
    obtain ⟨D1, D2, D3⟩ := num_done (bb := false) (show NumRes w9 _ _ from HRR.out) HB9.out (by omega) HH.out.1 HH.out.2 HNG.out.symm
    have HD1 := Lib.hid D1; have HD2 := Lib.hid D2; have HD3 := Lib.hid D3
    clear D1 D2 D3 k0 k1 k2 f0 f1 f2
    generalize (((w9.setCell ⟨w.heap.size + 1 + 1, 0, none⟩ (.bool (false))).setCell ⟨w.heap.size + 1 + 1, 1, none⟩ (.slice A6 l6 c6)).setCell ⟨w.heap.size + 1 + 1, 2, none⟩ (.slice A9 l9 c9)) = wz at HD1 HD2 HD3 ⊢
    have r0 := HD1.out.c0; have r1 := HD1.out.c1; have r2 := HD1.out.c2
    go_wp2_with fail
    exact bodyPost_ret (v := .agg #[.bool (false), (.slice A6 l6 c6), (.slice A9 l9 c9)]) (by simp [results, Try.results45, go_sem, r0, r1, r2]) rfl ⟨_, rfl, HD2.out, HD3.out⟩
end Go.Proofs.Ytnlhjcfpfapafaa
namespace Go.Proofs.Ytnlhjcfpfapafaa
open Go.RowKit
def NumT (b w : World) (q : Rat) (e : Ending) (w' : World) : Prop := ∃ v', e = .returned v' ∧ NumIn w' v' q ∧ Below b.heap.size b w' ∧ Below w.heap.size w w'
theorem liftN {P : Program} {f : FuncId} {args : Array Value} {b W : World} {q : Rat} (h : Below b.heap.size b W) (c : Calls P f args W (Num1 W q)) : Calls P f args W (NumT b W q) :=
 c.mono fun _ _ ⟨v, h1, h2, h3⟩ => ⟨v, h1, h2, h.trans (h3.mono h.size), h3⟩
def sgQ (q : Rat) : Int := if Big.ng q = true then -1 else if Big.nu q = 0 then 0 else 1
theorem box1_below (w : World) (o : Obj) : Below w.heap.size w (w.alloc o) := below_alloc (Below.refl _ _) (Nat.le_refl _) o
set_option maxRecDepth 100000 in
set_option maxHeartbeats 4000000 in
theorem exNeg_any (w : World) (vx : Value) (q : Rat) (hx : NumIn w vx q) :
  Calls Try.prog 73 #[vx] w (Num1 w (-q)) := by
 obtain ⟨A, l, c, A2, l2, c2, rfl, hx1, hx2⟩ := hx.is_agg
 have HX := Lib.hid (And.intro hx1 hx2)
 obtain ⟨p1, p2, p3⟩ := Big.neg_parts q
 have hl := hx1.len_zero
 have HNG := Lib.hid (show Big.ng (-q) = (!Big.ng q && decide (0 < l)) by rw [p1]; congr 1; rw [decide_eq_decide, Nat.pos_iff_ne_zero, Nat.pos_iff_ne_zero, Ne, Ne, hl])
 have H0 := Lib.hid (show NatIn w (.slice A l c) (Big.nu (-q)) ∧ NatIn w (.slice A2 l2 c2) (Big.de (-q)) by rw [p2, p3]; exact ⟨hx1, hx2⟩)
 clear hx hx1 hx2 p1 p2 p3 hl HX
 generalize Big.ng q = nq at *
 rcases Nat.eq_zero_or_pos l with hl0 | hl0
 ·subst hl0
  rw [decide_eq_false (by omega), Bool.and_false] at HNG
  cases nq
  ·go_enter Try.func73, Try.ntmps73
   go_wp2_with fail
   obtain ⟨_, R0, B0⟩ := boxed2 w 70 70 (.bool false) (.slice A 0 c) (.slice A2 l2 c2) (.bool false) (.slice A 0 c) (.slice A2 l2 c2)
   have r0 := R0.c0; have r1 := R0.c1; have r2 := R0.c2
   exact bodyPost_ret (v := .agg #[.bool false, .slice A 0 c, .slice A2 l2 c2]) (by simp [results, Try.results73, go_sem, r0, r1, r2]) rfl ⟨_, rfl, ⟨_, _, by first | (rw [HNG.out]; done) | (rw [HNG.out]; rfl), H0.out.1.keep B0, H0.out.2.keep B0⟩, B0⟩
  ·go_enter Try.func73, Try.ntmps73
   go_wp2_with fail
   obtain ⟨_, R0, B0⟩ := boxed2 w 70 70 (.bool true) (.slice A 0 c) (.slice A2 l2 c2) (.bool false) (.slice A 0 c) (.slice A2 l2 c2)
   have r0 := R0.c0; have r1 := R0.c1; have r2 := R0.c2
   exact bodyPost_ret (v := .agg #[.bool false, .slice A 0 c, .slice A2 l2 c2]) (by simp [results, Try.results73, go_sem, r0, r1, r2]) rfl ⟨_, rfl, ⟨_, _, by first | (rw [HNG.out]; done) | (rw [HNG.out]; rfl), H0.out.1.keep B0, H0.out.2.keep B0⟩, B0⟩
 ·have t4 : ((l : Int) > 0) := by omega
  rw [decide_eq_true (by omega), Bool.and_true] at HNG
  cases nq
  ·go_enter Try.func73, Try.ntmps73
   go_wp2_with fail
   obtain ⟨_, R0, B0⟩ := boxed2 w 70 70 (.bool false) (.slice A l c) (.slice A2 l2 c2) (.bool true) (.slice A l c) (.slice A2 l2 c2)
   have r0 := R0.c0; have r1 := R0.c1; have r2 := R0.c2
   exact bodyPost_ret (v := .agg #[.bool true, .slice A l c, .slice A2 l2 c2]) (by simp [results, Try.results73, go_sem, r0, r1, r2]) rfl ⟨_, rfl, ⟨_, _, by first | (rw [HNG.out]; done) | (rw [HNG.out]; rfl), H0.out.1.keep B0, H0.out.2.keep B0⟩, B0⟩
  ·go_enter Try.func73, Try.ntmps73
   go_wp2_with fail
   obtain ⟨_, R0, B0⟩ := boxed2 w 70 70 (.bool true) (.slice A l c) (.slice A2 l2 c2) (.bool false) (.slice A l c) (.slice A2 l2 c2)
   have r0 := R0.c0; have r1 := R0.c1; have r2 := R0.c2
   exact bodyPost_ret (v := .agg #[.bool false, .slice A l c, .slice A2 l2 c2]) (by simp [results, Try.results73, go_sem, r0, r1, r2]) rfl ⟨_, rfl, ⟨_, _, by first | (rw [HNG.out]; done) | (rw [HNG.out]; rfl), H0.out.1.keep B0, H0.out.2.keep B0⟩, B0⟩
theorem exSign_any (w : World) (vx : Value) (q : Rat) (hx : NumIn w vx q) :
  Calls Try.prog 35 #[vx] w fun e w' => e = .returned (.int .i64 (sgQ q)) ∧ Below w.heap.size w w' := by
 obtain ⟨A, l, c, A2, l2, c2, rfl, hx1, hx2⟩ := hx.is_agg
 have HX := Lib.hid (And.intro hx1 hx2)
 have HB := Lib.hid (box1_below w (.cells #[.bool (Big.ng q), .slice A l c, .slice A2 l2 c2] 70))
 have hl := hx1.len_zero
 have HS := Lib.hid (show sgQ q = if Big.ng q = true then -1 else if l = 0 then 0 else 1 by unfold sgQ; simp only [hl])
 clear hx hx1 hx2 hl HX
 generalize sgQ q = z at *
 generalize Big.ng q = nq at *
 cases nq
 ·rcases Nat.eq_zero_or_pos l with hl0 | hl0
  ·subst hl0
   go_enter Try.func35, Try.ntmps35
   go_wp2_with fail
   go_ret
   exact ⟨ret_int HS.out.symm, HB.out⟩
  ·have t : ((l : Int) == 0) = false := beq_eq_false_iff_ne.2 (by omega)
   rw [if_neg (by simp), if_neg (by omega)] at HS
   go_enter Try.func35, Try.ntmps35
   go_wp2_with fail
   go_ret
   exact ⟨ret_int HS.out.symm, HB.out⟩
 ·go_enter Try.func35, Try.ntmps35
  go_wp2_with fail
  go_ret
  exact ⟨ret_int HS.out.symm, HB.out⟩
end Go.Proofs.Ytnlhjcfpfapafaa
namespace Go.Proofs.Ytnlhjcfpfapafaa
open Go.RowKit
set_option maxRecDepth 100000 in
set_option maxHeartbeats 4000000 in
theorem exSub_any (w : World) (vx vy : Value) (q r : Rat) (k : Nat) (hx : NumIn w vx q) (hy : NumIn w vy r) (sx : Sm k q) (sy : Sm k r) (hk : k ≤ 10000000) :
  Calls Try.prog 39 #[vx, vy] w (Num1 w (q - r)) := by
 have HQ := Lib.hid hx; have HR := Lib.hid hy; have SN := Lib.hid sy.neg
 obtain ⟨A, l, c, A2, l2, c2, rfl, hx1, hx2⟩ := hx.is_agg
 obtain ⟨B, m, d, B2, m2, d2, rfl, hy1, hy2⟩ := hy.is_agg
 have HX := Lib.hid (And.intro hx1 hx2); have HY := Lib.hid (And.intro hy1 hy2)
 have SX := Lib.hid sx; have SY := Lib.hid sy
 have GX := Lib.hid (And.intro (@Big.ng_pos q) (And.intro (@Big.ng_pos r) (And.intro (Big.de_pos q) (Big.de_pos r))))
 rw [Rat.sub_eq_add_neg]
 clear hx hy hx1 hx2 hy1 hy2 sx sy GX HX HY
 generalize Big.ng q = nq at *
 generalize Big.ng r = nr at *
 go_enter Try.func39, Try.ntmps39
 go_wp2_with fail
 obtain ⟨X0, Y0, R0, B0⟩ := boxed3 w 70 70 (.bool nq) (.slice A l c) (.slice A2 l2 c2) (.bool nr) (.slice B m d) (.slice B2 m2 d2) (.bool false) (.slice none 0 0) (.slice none 0 0)
 have HX0 := Lib.hid X0; have HY0 := Lib.hid Y0; have HR0 := Lib.hid R0; have HB0 := Lib.hid B0
 clear X0 Y0 R0 B0
 generalize ((w.alloc (.cells #[.bool nq, .slice A l c, .slice A2 l2 c2] 70)).alloc (.cells #[.bool nr, .slice B m d, .slice B2 m2 d2] 70)).alloc (.cells #[.bool false, .slice none 0 0, .slice none 0 0] 70) = w0 at *
 have KX := Lib.hid (fun W (h : Below w0.heap.size w0 W) => And.intro (HX0.out.keep h).c0 (And.intro (HX0.out.keep h).c1 (And.intro (HX0.out.keep h).c2 (And.intro (HY0.out.keep h).c0 (And.intro (HY0.out.keep h).c1 (HY0.out.keep h).c2)))))
 have RES := Lib.hid (fun W (h : Below w0.heap.size w0 W) => HR0.out.keep h)
 have C1 := Lib.hid (fun W (h : Below w0.heap.size w0 W) => liftN h (exNeg_any W _ _ ((HR.out.keep HB0.out).keep h)))
 have C2 := Lib.hid (fun W v (hv : NumIn W v (-r)) (h : Below w0.heap.size w0 W) => liftN h (exAdd_any W _ v _ _ k ((HQ.out.keep HB0.out).keep h) hv SX.out SN.out hk))
 have KP := Lib.hid (fun W x y z (h : Below w0.heap.size w0 W) => show ((((W.setCell ⟨w.heap.size + 1 + 1, 0, none⟩ x).setCell ⟨w.heap.size + 1 + 1, 1, none⟩ y).setCell ⟨w.heap.size + 1 + 1, 2, none⟩ z).cell? ⟨w.heap.size, 0, none⟩ = some (.bool nq)) ∧ ((((W.setCell ⟨w.heap.size + 1 + 1, 0, none⟩ x).setCell ⟨w.heap.size + 1 + 1, 1, none⟩ y).setCell ⟨w.heap.size + 1 + 1, 2, none⟩ z).cell? ⟨w.heap.size, 1, none⟩ = some (.slice A l c)) ∧ ((((W.setCell ⟨w.heap.size + 1 + 1, 0, none⟩ x).setCell ⟨w.heap.size + 1 + 1, 1, none⟩ y).setCell ⟨w.heap.size + 1 + 1, 2, none⟩ z).cell? ⟨w.heap.size, 2, none⟩ = some (.slice A2 l2 c2)) ∧ ((((W.setCell ⟨w.heap.size + 1 + 1, 0, none⟩ x).setCell ⟨w.heap.size + 1 + 1, 1, none⟩ y).setCell ⟨w.heap.size + 1 + 1, 2, none⟩ z).cell? ⟨w.heap.size + 1, 0, none⟩ = some (.bool nr)) ∧ ((((W.setCell ⟨w.heap.size + 1 + 1, 0, none⟩ x).setCell ⟨w.heap.size + 1 + 1, 1, none⟩ y).setCell ⟨w.heap.size + 1 + 1, 2, none⟩ z).cell? ⟨w.heap.size + 1, 1, none⟩ = some (.slice B m d)) ∧ ((((W.setCell ⟨w.heap.size + 1 + 1, 0, none⟩ x).setCell ⟨w.heap.size + 1 + 1, 1, none⟩ y).setCell ⟨w.heap.size + 1 + 1, 2, none⟩ z).cell? ⟨w.heap.size + 1, 2, none⟩ = some (.slice B2 m2 d2)) from by exact ⟨put_cell (KX.out W h).1 (by omega) x y z, put_cell (KX.out W h).2.1 (by omega) x y z, put_cell (KX.out W h).2.2.1 (by omega) x y z, put_cell (KX.out W h).2.2.2.1 (by omega) x y z, put_cell (KX.out W h).2.2.2.2.1 (by omega) x y z, put_cell (KX.out W h).2.2.2.2.2 (by omega) x y z⟩)
 go_region_held3 (fun w' => w'.cell? ⟨w.heap.size, 0, none⟩ = some (.bool nq) ∧ w'.cell? ⟨w.heap.size, 1, none⟩ = some (.slice A l c) ∧ w'.cell? ⟨w.heap.size, 2, none⟩ = some (.slice A2 l2 c2) ∧ w'.cell? ⟨w.heap.size + 1, 0, none⟩ = some (.bool nr) ∧ w'.cell? ⟨w.heap.size + 1, 1, none⟩ = some (.slice B m d) ∧ w'.cell? ⟨w.heap.size + 1, 2, none⟩ = some (.slice B2 m2 d2))
  (first | exact KX.out _ (by first | assumption | exact Below.refl _ _ | exact below_drew (Below.refl _ _) | exact below_drew (by assumption)) | exact KP.out _ _ _ _ (by assumption))
  (first
   | (go_at_call 73; (with_reducible refine (C1.out _ (by first | assumption | exact Below.refl _ _ | exact below_drew (Below.refl _ _) | exact below_drew (by assumption))).mono ?_); rintro e w2 ⟨v2, rfl, hv2, hw2, hw2'⟩)
   | (go_at_call 43; (with_reducible refine (C2.out _ _ (by first | exact hv2 | exact hv2.keep (below_drew (Below.refl _ _))) (by first | assumption | exact Below.refl _ _ | exact below_drew (Below.refl _ _) | exact below_drew (by assumption))).mono ?_); rintro e w3 ⟨v3, rfl, hv3, hw3, hw3'⟩; have RR := RES.out _ hw3; have k0 := RR.c0; have k1 := RR.c1; have k2 := RR.c2; have f0 := RR.frozen 0; have f1 := RR.frozen 1; have f2 := RR.frozen 2; obtain ⟨A8, l8, c8, A9, l9, c9, rfl, h8, h9⟩ := hv3.is_agg; have HH := Lib.hid (And.intro h8 h9); clear hv3 h8 h9; obtain ⟨nz, hnz⟩ : ∃ z, Big.ng (q + -r) = z := ⟨_, rfl⟩; rw [hnz]; have HNZ := Lib.hid hnz; clear hnz)
   | fail)
 obtain ⟨D1, D2, D3⟩ := num_done (bb := nz) (show NumRes w3 _ _ from RR) (HB0.out.trans (hw3.mono HB0.out.size)) (by omega) HH.out.1 HH.out.2 HNZ.out.symm
 have HD1 := Lib.hid D1; have HD2 := Lib.hid D2; have HD3 := Lib.hid D3
 clear D1 D2 D3 k0 k1 k2 f0 f1 f2 RR
 generalize (((w3.setCell ⟨w.heap.size + 1 + 1, 0, none⟩ (.bool (nz))).setCell ⟨w.heap.size + 1 + 1, 1, none⟩ (.slice A8 l8 c8)).setCell ⟨w.heap.size + 1 + 1, 2, none⟩ (.slice A9 l9 c9)) = wz at HD1 HD2 HD3 ⊢
 have r0 := HD1.out.c0; have r1 := HD1.out.c1; have r2 := HD1.out.c2
 go_wp2_with fail
 exact bodyPost_ret (v := .agg #[.bool (nz), (.slice A8 l8 c8), (.slice A9 l9 c9)]) (by simp [results, Try.results39, go_sem, r0, r1, r2]) rfl ⟨_, rfl, HD2.out, HD3.out⟩
set_option maxRecDepth 100000 in
set_option maxHeartbeats 4000000 in
theorem exQuo_any (w : World) (vx vy : Value) (q r : Rat) (k : Nat) (hx : NumIn w vx q) (hy : NumIn w vy r) (sx : Sm k q) (sy : Sm k r) (hk : k ≤ 10000000) (h0 : Big.nu r ≠ 0) :
  Calls Try.prog 69 #[vx, vy] w (Num1 w (q / r)) := by
 have HQ := Lib.hid hx; have SN := Lib.hid (sy.inv h0)
 obtain ⟨A, l, c, A2, l2, c2, rfl, hx1, hx2⟩ := hx.is_agg
 obtain ⟨B, m, d, B2, m2, d2, rfl, hy1, hy2⟩ := hy.is_agg
 have HX := Lib.hid (And.intro hx1 hx2); have HY := Lib.hid (And.intro hy1 hy2)
 have SX := Lib.hid sx; have SY := Lib.hid sy
 have GX := Lib.hid (And.intro (@Big.ng_pos q) (And.intro (@Big.ng_pos r) (And.intro (Big.de_pos q) (Big.de_pos r))))
 rw [Rat.div_def]
 obtain ⟨i1, i2, i3⟩ := Big.inv_parts r h0
 have HI := Lib.hid (show NumIn w (.agg #[.bool (Big.ng r), .slice B2 m2 d2, .slice B m d]) r⁻¹ from ⟨_, _, by rw [i1], by rw [i2]; exact hy2, by rw [i3]; exact hy1⟩)
 have hm0 := hy1.len_zero
 have t0 : ((m : Int) == 0) = false := beq_eq_false_iff_ne.2 (by omega)
 clear hx hy hx1 hx2 hy1 hy2 sx sy GX HX HY i1 i2 i3 hm0 h0
 generalize Big.ng q = nq at *
 generalize Big.ng r = nr at *
 go_enter Try.func69, Try.ntmps69
 go_wp2_with fail
 obtain ⟨X0, Y0, R0, B0⟩ := boxed3 w 70 70 (.bool nq) (.slice A l c) (.slice A2 l2 c2) (.bool nr) (.slice B m d) (.slice B2 m2 d2) (.bool false) (.slice none 0 0) (.slice none 0 0)
 have HX0 := Lib.hid X0; have HY0 := Lib.hid Y0; have HR0 := Lib.hid R0; have HB0 := Lib.hid B0
 clear X0 Y0 R0 B0
 generalize ((w.alloc (.cells #[.bool nq, .slice A l c, .slice A2 l2 c2] 70)).alloc (.cells #[.bool nr, .slice B m d, .slice B2 m2 d2] 70)).alloc (.cells #[.bool false, .slice none 0 0, .slice none 0 0] 70) = w0 at *
 refine (exMul_any w0 _ _ _ _ k (HQ.out.keep HB0.out) (HI.out.keep HB0.out) SX.out SN.out hk).mono ?_
 rintro e w3 ⟨v3, rfl, hv3, hw3⟩
 have RR := HR0.out.keep hw3
 have k0 := RR.c0; have k1 := RR.c1; have k2 := RR.c2; have f0 := RR.frozen 0; have f1 := RR.frozen 1; have f2 := RR.frozen 2
 obtain ⟨A8, l8, c8, A9, l9, c9, rfl, h8, h9⟩ := hv3.is_agg
 have HH := Lib.hid (And.intro h8 h9)
 have HBF := Lib.hid (HB0.out.trans (hw3.mono HB0.out.size))
 clear hv3 h8 h9 hw3
 obtain ⟨nz, hnz⟩ : ∃ z, Big.ng (q * r⁻¹) = z := ⟨_, rfl⟩
 rw [hnz]
 have HNZ := Lib.hid hnz
 clear hnz
 go_wp2_with fail
 obtain ⟨D1, D2, D3⟩ := num_done (bb := nz) (show NumRes w3 _ _ from RR) HBF.out (by omega) HH.out.1 HH.out.2 HNZ.out.symm
 have HD1 := Lib.hid D1; have HD2 := Lib.hid D2; have HD3 := Lib.hid D3
 clear D1 D2 D3 k0 k1 k2 f0 f1 f2 RR
 generalize (((w3.setCell ⟨w.heap.size + 1 + 1, 0, none⟩ (.bool (nz))).setCell ⟨w.heap.size + 1 + 1, 1, none⟩ (.slice A8 l8 c8)).setCell ⟨w.heap.size + 1 + 1, 2, none⟩ (.slice A9 l9 c9)) = wz at HD1 HD2 HD3 ⊢
 have r0 := HD1.out.c0; have r1 := HD1.out.c1; have r2 := HD1.out.c2
 exact bodyPost_ret (v := .agg #[.bool (nz), (.slice A8 l8 c8), (.slice A9 l9 c9)]) (by simp [results, Try.results69, go_sem, r0, r1, r2]) rfl ⟨_, rfl, HD2.out, HD3.out⟩
end Go.Proofs.Ytnlhjcfpfapafaa
namespace Go.Proofs.Ytnlhjcfpfapafaa
open Go.RowKit
end Go.Proofs.Ytnlhjcfpfapafaa
namespace Go.Proofs.Ytnlhjcfpfapafaa
open Go.RowKit
theorem sizeT {P : Program} {f : FuncId} {args : Array Value} {b W : World} {v : Value} (h : Below b.heap.size b W) (c : Calls P f args W fun e w' => e = .returned v ∧ W = w') :
  Calls P f args W fun e w' => e = .returned v ∧ Below b.heap.size b w' :=
 c.mono fun _ _ ⟨h1, h2⟩ => ⟨h1, h2 ▸ h⟩
set_option maxRecDepth 100000 in
set_option maxHeartbeats 4000000 in
theorem exSize_any (w : World) (vx : Value) (q : Rat) (k : Nat) (hx : NumIn w vx q) (sx : Sm k q) (hk : k ≤ 10000000) :
  Calls Try.prog 100 #[vx] w fun e w' => e = .returned (.int .i64 ((max (szN (Big.nu q)) (szN (Big.de q)) : Nat) : Int)) ∧ Below w.heap.size w w' := by
 obtain ⟨A, l, c, A2, l2, c2, rfl, hx1, hx2⟩ := hx.is_agg
 have HX := Lib.hid (And.intro hx1 hx2)
 have SX := Lib.hid sx
 have HB0 := Lib.hid (box1_below w (.cells #[.bool (Big.ng q), .slice A l c, .slice A2 l2 c2] 70))
 have HX0 := Lib.hid (At3.new w 70 (.bool (Big.ng q)) (.slice A l c) (.slice A2 l2 c2))
 clear hx hx1 hx2 sx
 generalize Big.ng q = nq at *
 go_enter Try.func100, Try.ntmps100
 go_wp2_with fail
 generalize w.alloc (.cells #[.bool nq, .slice A l c, .slice A2 l2 c2] 70) = w0 at *
 have KX := Lib.hid (fun W (h : Below w0.heap.size w0 W) => And.intro (HX0.out.keep h).c1 (HX0.out.keep h).c2)
 have C1 := Lib.hid (fun W (h : Below w0.heap.size w0 W) => sizeT h (size_num W _ _ k ((HX.out.1.keep HB0.out).keep h) SX.out.nu (by omega)))
 have C2 := Lib.hid (fun W (h : Below w0.heap.size w0 W) => sizeT h (size_num W _ _ k ((HX.out.2.keep HB0.out).keep h) SX.out.de (by omega)))
 go_region_held3 (fun w' => w'.cell? ⟨w.heap.size, 1, none⟩ = some (.slice A l c) ∧ w'.cell? ⟨w.heap.size, 2, none⟩ = some (.slice A2 l2 c2))
  (exact KX.out _ (by first | assumption | exact Below.refl _ _ | exact below_drew (Below.refl _ _) | exact below_drew (by assumption)))
  (first
   | (go_at_call 118; (with_reducible refine (C1.out _ (by first | assumption | exact Below.refl _ _ | exact below_drew (Below.refl _ _) | exact below_drew (by assumption))).mono ?_); rintro e w2 ⟨rfl, hw2⟩)
   | (go_at_call 118; (with_reducible refine (C2.out _ (by first | assumption | exact Below.refl _ _ | exact below_drew (Below.refl _ _) | exact below_drew (by assumption))).mono ?_); rintro e w3 ⟨rfl, hw3⟩)
   | fail)
 have HB3 := Lib.hid (HB0.out.trans (hw3.mono HB0.out.size))
 go_wp2_with fail
 go_ret
 refine ⟨?_, HB3.out⟩
 apply ret_int
 generalize szN (Big.nu q) = s1; generalize szN (Big.de q) = s2; omega
end Go.Proofs.Ytnlhjcfpfapafaa
namespace Go.Proofs.Ytnlhjcfpfapafaa
open Go.RowKit
def Frac1 (w : World) (v : Value) (b : Bool) (e : Ending) (w' : World) : Prop := e = .returned (.tuple #[v, .bool b]) ∧ Below w.heap.size w w'
def fracZ : Value := .agg #[.bool false, .string ⟨#[]⟩, .string ⟨#[]⟩]
theorem bytesT {P : Program} {f : FuncId} {args : Array Value} {b W : World} {v : Value} (h : Below b.heap.size b W) (c : Calls P f args W fun e w' => e = .returned v ∧ Below W.heap.size W w') :
  Calls P f args W fun e w' => e = .returned v ∧ Below b.heap.size b w' :=
 c.mono fun _ _ ⟨h1, h2⟩ => ⟨h1, h.trans (h2.mono h.size)⟩
set_option maxRecDepth 100000 in
set_option maxHeartbeats 4000000 in
theorem exFrac_fit (w : World) (vx : Value) (q : Rat) (k : Nat) (hx : NumIn w vx q) (sx : Sm k q) (hk : k ≤ 10000000) (hf : Fit q) :
  Calls Try.prog 72 #[vx] w (Frac1 w (fracV q) true) := by
 have e1 : szN (Big.nu q) ≤ 512 := hf.nu
 have e2 : szN (Big.de q) ≤ 512 := hf.de
 have HF := Lib.hid (show fracV q = .agg #[.bool (Big.ng q), .string (bst (Big.nu q)), .string (bst (Big.de q))] from rfl)
 clear hf
 generalize fracV q = fv at *
 have SX := Lib.hid sx
 obtain ⟨A, l, c, A2, l2, c2, rfl, hx1, hx2⟩ := hx.is_agg
 have HX := Lib.hid (And.intro hx1 hx2)
 have HQ := Lib.hid hx
 obtain ⟨X0, R0, B0⟩ := boxed2 w 70 27 (.bool (Big.ng q)) (.slice A l c) (.slice A2 l2 c2) (.bool false) (.string ⟨#[]⟩) (.string ⟨#[]⟩)
 have HX0 := Lib.hid X0; have HR0 := Lib.hid R0; have HB0 := Lib.hid B0
 clear hx hx1 hx2 sx X0 R0 B0
 generalize Big.ng q = nq at *
 go_enter Try.func72, Try.ntmps72
 go_wp2_with fail
 generalize (w.alloc (.cells #[.bool nq, .slice A l c, .slice A2 l2 c2] 70)).alloc (.cells #[.bool false, .string ⟨#[]⟩, .string ⟨#[]⟩] 27) = w0 at *
 have CS := Lib.hid (exSize_any w0 _ q k (HQ.out.keep HB0.out) SX.out hk)
 have hm : ¬ (max (szN (Big.nu q)) (szN (Big.de q)) : Nat) > 512 := by omega
 generalize max (szN (Big.nu q)) (szN (Big.de q)) = mx at *
 have hm' : ¬ ((mx : Int) > 512) := by omega
 clear hm e1 e2
 refine CS.out.mono ?_
 rintro e w1 ⟨rfl, hw1⟩
 have HB1 := Lib.hid (HB0.out.trans (hw1.mono HB0.out.size))
 have HX1 := Lib.hid (HX0.out.keep hw1); have HR1 := Lib.hid (HR0.out.keep hw1)
 clear hw1 HX0 HR0 CS
 have KX := Lib.hid (fun W (h : Below w1.heap.size w1 W) => And.intro (HX1.out.keep h).c0 (And.intro (HX1.out.keep h).c1 (HX1.out.keep h).c2))
 have KP := Lib.hid (fun W x y z (h : Below w1.heap.size w1 W) => And.intro (put_cell (KX.out W h).1 (show w.heap.size ≠ w.heap.size + 1 by omega) x y z) (And.intro (put_cell (KX.out W h).2.1 (show w.heap.size ≠ w.heap.size + 1 by omega) x y z) (put_cell (KX.out W h).2.2 (show w.heap.size ≠ w.heap.size + 1 by omega) x y z)))
 have C1 := Lib.hid (fun W (h : Below w1.heap.size w1 W) => bytesT h (bytes_num W _ _ k ((HX.out.1.keep HB1.out).keep h) SX.out.nu (by omega)))
 have C2 := Lib.hid (fun W (h : Below w1.heap.size w1 W) => bytesT h (bytes_num W _ _ k ((HX.out.2.keep HB1.out).keep h) SX.out.de (by omega)))
 have RES := Lib.hid (fun W (h : Below w1.heap.size w1 W) => HR1.out.keep h)
 go_wp2_with fail
 go_region_held3 (fun w' => w'.cell? ⟨w.heap.size, 0, none⟩ = some (.bool nq) ∧ w'.cell? ⟨w.heap.size, 1, none⟩ = some (.slice A l c) ∧ w'.cell? ⟨w.heap.size, 2, none⟩ = some (.slice A2 l2 c2))
  (first | exact KX.out _ (by first | assumption | exact Below.refl _ _ | exact below_drew (Below.refl _ _) | exact below_drew (by assumption)) | exact KP.out _ _ _ _ (by assumption))
  (first
   | (go_at_call 101; (with_reducible refine (C1.out _ (by first | assumption | exact Below.refl _ _ | exact below_drew (Below.refl _ _) | exact below_drew (by assumption))).mono ?_); rintro e w2 ⟨rfl, hw2⟩)
   | (go_at_call 101; (with_reducible refine (C2.out _ (by first | assumption | exact Below.refl _ _ | exact below_drew (Below.refl _ _) | exact below_drew (by assumption))).mono ?_); rintro e w3 ⟨rfl, hw3⟩; have RR := RES.out _ hw3; have k0 := RR.c0; have k1 := RR.c1; have k2 := RR.c2; have f0 := RR.frozen 0; have f1 := RR.frozen 1; have f2 := RR.frozen 2)
   | fail)
 have D1 := At3.put RR (.bool nq) (.string (bst (Big.nu q))) (.string (bst (Big.de q)))
 have D3 := put_below (HB1.out.trans (hw3.mono HB1.out.size)) (show w.heap.size ≤ w.heap.size + 1 by omega) (.bool nq) (.string (bst (Big.nu q))) (.string (bst (Big.de q)))
 have HD1 := Lib.hid D1; have HD3 := Lib.hid D3
 clear D1 D3 k0 k1 k2 f0 f1 f2 RR
 generalize (((w3.setCell ⟨w.heap.size + 1, 0, none⟩ (.bool nq)).setCell ⟨w.heap.size + 1, 1, none⟩ (.string (bst (Big.nu q)))).setCell ⟨w.heap.size + 1, 2, none⟩ (.string (bst (Big.de q)))) = wz at HD1 HD3 ⊢
 have r0 := HD1.out.c0; have r1 := HD1.out.c1; have r2 := HD1.out.c2
 go_wp2_with fail
 exact bodyPost_ret (v := .tuple #[.agg #[.bool nq, .string (bst (Big.nu q)), .string (bst (Big.de q))], .bool true]) (by simp [results, Try.results72, go_sem, r0, r1, r2]) rfl ⟨by rw [HF.out], HD3.out⟩
set_option maxRecDepth 100000 in
set_option maxHeartbeats 4000000 in
theorem exFrac_long (w : World) (vx : Value) (q : Rat) (k : Nat) (hx : NumIn w vx q) (sx : Sm k q) (hk : k ≤ 10000000) (hf : ¬ Fit q) :
  Calls Try.prog 72 #[vx] w (Frac1 w fracZ false) := by
 have e1 : ¬ (szN (Big.nu q) ≤ 512 ∧ szN (Big.de q) ≤ 512) := fun h => hf ⟨h.1, h.2⟩
 clear hf
 have SX := Lib.hid sx
 obtain ⟨A, l, c, A2, l2, c2, rfl, hx1, hx2⟩ := hx.is_agg
 have HX := Lib.hid (And.intro hx1 hx2)
 have HQ := Lib.hid hx
 obtain ⟨X0, R0, B0⟩ := boxed2 w 70 27 (.bool (Big.ng q)) (.slice A l c) (.slice A2 l2 c2) (.bool false) (.string ⟨#[]⟩) (.string ⟨#[]⟩)
 have HX0 := Lib.hid X0; have HR0 := Lib.hid R0; have HB0 := Lib.hid B0
 clear hx hx1 hx2 sx X0 R0 B0
 generalize Big.ng q = nq at *
 go_enter Try.func72, Try.ntmps72
 go_wp2_with fail
 generalize (w.alloc (.cells #[.bool nq, .slice A l c, .slice A2 l2 c2] 70)).alloc (.cells #[.bool false, .string ⟨#[]⟩, .string ⟨#[]⟩] 27) = w0 at *
 have CS := Lib.hid (exSize_any w0 _ q k (HQ.out.keep HB0.out) SX.out hk)
 have hm : (max (szN (Big.nu q)) (szN (Big.de q)) : Nat) > 512 := by omega
 generalize max (szN (Big.nu q)) (szN (Big.de q)) = mx at *
 have hm' : ((mx : Int) > 512) := by omega
 clear hm e1
 refine CS.out.mono ?_
 rintro e w1 ⟨rfl, hw1⟩
 have HB1 := Lib.hid (HB0.out.trans (hw1.mono HB0.out.size))
 have RR := HR0.out.keep hw1
 have k0 := RR.c0; have k1 := RR.c1; have k2 := RR.c2; have f0 := RR.frozen 0; have f1 := RR.frozen 1; have f2 := RR.frozen 2
 have HD1 := Lib.hid (At3.put RR (.bool false) (.string ⟨#[]⟩) (.string ⟨#[]⟩))
 have HD3 := Lib.hid (put_below HB1.out (show w.heap.size ≤ w.heap.size + 1 by omega) (.bool false) (.string ⟨#[]⟩) (.string ⟨#[]⟩))
 clear hw1 HX0 HR0 CS RR
 go_wp2_with fail
 generalize (((w1.setCell ⟨w.heap.size + 1, 0, none⟩ (.bool false)).setCell ⟨w.heap.size + 1, 1, none⟩ (.string ⟨#[]⟩)).setCell ⟨w.heap.size + 1, 2, none⟩ (.string ⟨#[]⟩)) = wz at HD1 HD3 ⊢
 clear k0 k1 k2 f0 f1 f2
 have r0 := HD1.out.c0; have r1 := HD1.out.c1; have r2 := HD1.out.c2
 exact bodyPost_ret (v := .tuple #[.agg #[.bool false, .string ⟨#[]⟩, .string ⟨#[]⟩], .bool false]) (by simp [results, Try.results72, go_sem, r0, r1, r2]) rfl ⟨rfl, HD3.out⟩
end Go.Proofs.Ytnlhjcfpfapafaa
namespace Go.Proofs.Ytnlhjcfpfapafaa
open Go.RowKit
def mayB (s : ByteArray) : Bool := decide (s.size ≤ 512) && !(s.data.toList.head? == some 0)
theorem mayB_bst {n : Nat} (h : szN n ≤ 512) : mayB (bst n) = true := by
 unfold mayB
 have h1 := btx_lead n
 rw [bst_size, bst_list, decide_eq_true h, Bool.true_and, Bool.not_eq_true', beq_eq_false_iff_ne]
 exact h1
theorem mayB_is {s : ByteArray} (h : mayB s = true) : s = bst (Big.bnum s.data.toList) ∧ szN (Big.bnum s.data.toList) ≤ 512 := by
 unfold mayB at h
 rw [Bool.and_eq_true, Bool.not_eq_true', beq_eq_false_iff_ne] at h
 have hl : Lead s.data.toList := h.2
 have e := btx_bnum hl
 have e2 : s = bst (Big.bnum s.data.toList) := by
  unfold bst; rw [e]
 refine ⟨e2, ?_⟩
 have h3 := of_decide_eq_true h.1
 rw [e2, bst_size] at h3
 exact h3
theorem empty_of {s : ByteArray} (h : s.size = 0) : s = ⟨#[]⟩ := by
 have h2 : s.data = #[] := Array.eq_empty_of_size_eq_zero h
 cases s; simp at h2; rw [h2]
theorem size_toList (s : ByteArray) : s.data.toList.length = s.size := by
 show s.data.toList.length = s.data.size; simp
theorem head_get {s : ByteArray} (h : 0 < s.size) : s.data.toList.head? = some s[0] := by
 have hl : 0 < s.data.toList.length := by rw [size_toList]; exact h
 rw [List.head?_eq_getElem?, List.getElem?_eq_getElem hl]; rfl
set_option maxRecDepth 100000 in
set_option maxHeartbeats 4000000 in
theorem mayBe_any (w : World) (s : ByteArray) (hs : s.size ≤ 1000000000000) :
  Calls Try.prog 63 #[.string s] w fun e w' => e = .returned (.bool (mayB s)) ∧ w = w' := by
 by_cases h5 : s.size ≤ 512
 ·by_cases h0 : s.size = 0
  ·have e := empty_of h0
   subst e
   have HD := Lib.hid (show mayB ⟨#[]⟩ = true by decide)
   go_enter Try.func63, Try.ntmps63
   go_wp2_with fail
   go_ret
   exact ⟨ret_bool HD.out.symm, rfl⟩
  ·have i1 : (s.size : Int) ≤ 512 := by omega
   have p0 : 0 < s.size := by omega
   have HD := Lib.hid (show mayB s = ((s[0].toNat : Int) != 0) by
    unfold mayB
    rw [decide_eq_true h5, Bool.true_and, head_get p0, Bool.eq_iff_iff, Bool.not_eq_true', beq_eq_false_iff_ne, bne_iff_ne]
    constructor
    ·intro h e; exact h (by rw [Option.some.injEq]; apply UInt8.toNat_inj.1; show _ = 0; omega)
    ·intro h e; rw [Option.some.injEq] at e; rw [e] at h; exact h rfl)
   generalize mayB s = z at *
   have hne : ¬ s.toList = [] := by rw [ByteArray.toList_eq]; intro e; have := size_toList s; rw [e] at this; simp at this; omega
   have hne2 : s.toList.isEmpty = false := by rw [Bool.eq_false_iff]; intro e; exact hne (List.isEmpty_iff.1 e)
   clear h0
   go_enter Try.func63, Try.ntmps63
   go_wp2_with fail
   go_ret
   exact ⟨ret_bool (by rw [HD.out]), rfl⟩
 ·have i1 : ¬ (s.size : Int) ≤ 512 := by omega
  have HD := Lib.hid (show mayB s = false by unfold mayB; rw [decide_eq_false h5]; rfl)
  generalize mayB s = z at *
  go_enter Try.func63, Try.ntmps63
  go_wp2_with fail
  go_ret
  exact ⟨ret_bool HD.out.symm, rfl⟩
end Go.Proofs.Ytnlhjcfpfapafaa
