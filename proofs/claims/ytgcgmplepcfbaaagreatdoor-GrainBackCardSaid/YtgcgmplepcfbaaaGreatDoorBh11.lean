/- Contracts, in this order: exact: Add. · exact: Mul. · exact: Neg, Sign, IsWhole, Num, Den. · exact: Cmp. exact: Sub, Quo, Cmp. · exact: Size, Frac. · nat: Shl, Bits. -/
import Derived.Test.YtgcgmplepcfbaaaGreatDoorBh10
import Derived.Deep.RegionHeld3
import Derived.Test.YtgcgmplepcfbaaaGreatDoorBh06
import Derived.Test.YtgcgmplepcfbaaaGreatDoorBh05
import Derived.Deep.RegionWith
import Derived.StillTailTactics
/- exact: Add. -/
namespace Go.Proofs.YtgcgmplepcfbaaaGreatDoor
open Go.RowKit

theorem lift2 {P : Program} {f : FuncId} {args : Array Value} {b W : World} {r : Nat} (h : Below b.heap.size b W) (c : Calls P f args W (Nat1 W r)) : Calls P f args W (Nat2 b W r) :=
  c.mono fun _ _ ⟨v, h1, h2, h3⟩ => ⟨v, h1, h2, h.trans (h3.mono h.size), h3⟩

set_option maxRecDepth 100000 in
set_option maxHeartbeats 4000000 in
/-- exact.Add. -/
theorem exAdd_any (w : World) (vx vy : Value) (q r : Rat) (k : Nat) (hx : NumIn w vx q) (hy : NumIn w vy r) (sx : Sm k q) (sy : Sm k r) (hk : k ≤ 10000000) :
    Calls Tryz.prog 96 #[vx, vy] w (Num1 w (q + r)) := by
  obtain ⟨A, l, c, A2, l2, c2, rfl, hx1, hx2⟩ := hx.is_agg
  obtain ⟨B, m, d, B2, m2, d2, rfl, hy1, hy2⟩ := hy.is_agg
  have HX := Lib.hid (And.intro hx1 hx2); have HY := Lib.hid (And.intro hy1 hy2)
  have SX := Lib.hid sx; have SY := Lib.hid sy
  have PP := Lib.hid (Big.add_parts q r _ _ _ _ rfl rfl rfl rfl)
  have GX := Lib.hid (And.intro (@Big.ng_pos q) (And.intro (@Big.ng_pos r) (And.intro (Big.de_pos q) (Big.de_pos r))))
  clear hx hy hx1 hx2 hy1 hy2 sx sy
  generalize Big.ng q = nq at *
  generalize Big.ng r = nr at *
  go_enter Tryz.func96, Tryz.ntmps96
  go_wp2_with fail
  obtain ⟨X0, Y0, R0, B0⟩ := boxed3 w 123 123 (.bool nq) (.slice A l c) (.slice A2 l2 c2) (.bool nr) (.slice B m d) (.slice B2 m2 d2) (.bool false) (.slice none 0 0) (.slice none 0 0)
  have HX0 := Lib.hid X0; have HY0 := Lib.hid Y0; have HR0 := Lib.hid R0; have HB0 := Lib.hid B0
  clear X0 Y0 R0 B0
  generalize ((w.alloc (.cells #[.bool nq, .slice A l c, .slice A2 l2 c2] 123)).alloc (.cells #[.bool nr, .slice B m d, .slice B2 m2 d2] 123)).alloc (.cells #[.bool false, .slice none 0 0, .slice none 0 0] 123) = w0 at *
  have G0 := Lib.hid (gcd_num w0 _ _ _ _ k k (HX.out.2.keep HB0.out) (HY.out.2.keep HB0.out) SX.out.de SY.out.de (by omega) (by omega))
  obtain ⟨s, hs⟩ : ∃ s, Nat.gcd (Big.de q) (Big.de r) = s := ⟨_, rfl⟩
  rw [hs] at PP G0
  have hs1 : 1 ≤ s := by rw [← hs]; exact Big.gcd_pos_right GX.out.2.2.2
  have hsq : s ∣ Big.de q := by rw [← hs]; exact Nat.gcd_dvd_left _ _
  have hsr : s ∣ Big.de r := by rw [← hs]; exact Nat.gcd_dvd_right _ _
  have hR1 : 1 ≤ Big.de r / s := Nat.div_pos (Nat.le_of_dvd GX.out.2.2.2 hsr) hs1
  have hL1 : 1 ≤ Big.de q / s := Nat.div_pos (Nat.le_of_dvd GX.out.2.2.1 hsq) hs1
  have SS := Lib.hid (SX.out.de.le (Nat.le_of_dvd GX.out.2.2.1 hsq))
  have SL := Lib.hid (SX.out.de.le (Nat.div_le_self (Big.de q) s)); have SR := Lib.hid (SY.out.de.le (Nat.div_le_self (Big.de r) s))
  have CL := Lib.hid (fun W v (h : NatIn W (.slice A2 l2 c2) (Big.de q)) (i : NatIn W v s) => quo_num W _ _ _ _ k h i SX.out.de (by omega))
  have CR := Lib.hid (fun W v (h : NatIn W (.slice B2 m2 d2) (Big.de r)) (i : NatIn W v s) => quo_num W _ _ _ _ k h i SY.out.de (by omega))
  obtain ⟨L, hL⟩ : ∃ L, Big.de q / s = L := ⟨_, rfl⟩
  obtain ⟨R, hR⟩ : ∃ R, Big.de r / s = R := ⟨_, rfl⟩
  rw [hL] at PP CL SL hL1; rw [hR] at PP CR SR hR1
  clear hs hs1 hsq hsr hL hR
  refine G0.out.mono ?_
  rintro e w1 ⟨v1, rfl, hv1, hb1⟩
  have HV1 := Lib.hid hv1; have HB1 := Lib.hid (HB0.out.trans (hb1.mono HB0.out.size))
  have HX1 := Lib.hid (HX0.out.keep hb1); have HY1 := Lib.hid (HY0.out.keep hb1); have HR1 := Lib.hid (HR0.out.keep hb1)
  clear hv1 hb1 HX0 HY0 HR0 HB0
  have KX := Lib.hid (fun W (h : Below w1.heap.size w1 W) => And.intro (HX1.out.keep h).c2 (HY1.out.keep h).c2)
  have CQ1 := Lib.hid (fun W (h : Below w1.heap.size w1 W) => lift2 h (CL.out W v1 ((HX.out.2.keep HB1.out).keep h) (HV1.out.keep h)))
  have CQ2 := Lib.hid (fun W (h : Below w1.heap.size w1 W) => lift2 h (CR.out W v1 ((HY.out.2.keep HB1.out).keep h) (HV1.out.keep h)))
  go_wp2_with fail
  go_region_held3 (fun w' => w'.cell? ⟨w.heap.size, 2, none⟩ = some (.slice A2 l2 c2) ∧ w'.cell? ⟨w.heap.size + 1, 2, none⟩ = some (.slice B2 m2 d2))
    (exact KX.out _ (by first | assumption | exact Below.refl _ _ | exact below_drew (Below.refl _ _) | exact below_drew (by assumption)))
    (first
      | (go_at_call 199; (with_reducible refine (CQ1.out _ (by first | assumption | exact Below.refl _ _ | exact below_drew (Below.refl _ _) | exact below_drew (by assumption))).mono ?_); rintro e w2 ⟨v2, rfl, hv2, hw2, hw2'⟩)
      | (go_at_call 199; (with_reducible refine (CQ2.out _ (by first | assumption | exact Below.refl _ _ | exact below_drew (Below.refl _ _) | exact below_drew (by assumption))).mono ?_); rintro e w3 ⟨v3, rfl, hv3, hw3, hw3'⟩)
      | fail)
  have HB3 := Lib.hid (HB1.out.trans (hw3.mono HB1.out.size))
  have HX3 := Lib.hid (HX1.out.keep hw3); have HY3 := Lib.hid (HY1.out.keep hw3); have HR3 := Lib.hid (HR1.out.keep hw3)
  have HV := Lib.hid (And.intro (HV1.out.keep hw3) (And.intro (hv2.keep hw3') hv3))
  clear hv2 hw2 hw2' hv3 hw3 hw3' HX1 HY1 HR1 HB1 HV1 KX CQ1 CQ2 CL
  have KX := Lib.hid (fun W (h : Below w3.heap.size w3 W) => And.intro (HX3.out.keep h).c0 (And.intro (HX3.out.keep h).c1 (And.intro (HY3.out.keep h).c0 (HY3.out.keep h).c1)))
  have CM1 := Lib.hid (fun W (h : Below w3.heap.size w3 W) => lift2 h (mul_num W _ _ _ _ k k ((HX.out.1.keep HB3.out).keep h) (HV.out.2.2.keep h) SX.out.nu SR.out (by omega) (by omega)))
  have CM2 := Lib.hid (fun W (h : Below w3.heap.size w3 W) => lift2 h (mul_num W _ _ _ _ k k ((HY.out.1.keep HB3.out).keep h) (HV.out.2.1.keep h) SY.out.nu SL.out (by omega) (by omega)))
  have CS := Lib.hid (fun W a b (ha : NatIn W a (Big.nu q * R)) (hb : NatIn W b (Big.nu r * L)) (h : Below w3.heap.size w3 W) => liftS h (exsum_any W nq nr a b _ _ _ _ ha hb (SX.out.nu.mul SR.out) (SY.out.nu.mul SL.out) (by omega) (by omega) (fun e => Nat.mul_pos (GX.out.1 e) hR1) (fun e => Nat.mul_pos (GX.out.2.1 e) hL1)))
  have SSm := Lib.hid (((SX.out.nu.mul SR.out).add (SY.out.nu.mul SL.out)).le (abs_sum_le nq nr _ _))
  generalize Big.sI nq (Big.nu q * R) + Big.sI nr (Big.nu r * L) = S at *
  go_wp2_with fail
  go_region_held3 (fun w' => w'.cell? ⟨w.heap.size, 0, none⟩ = some (.bool nq) ∧ w'.cell? ⟨w.heap.size, 1, none⟩ = some (.slice A l c) ∧ w'.cell? ⟨w.heap.size + 1, 0, none⟩ = some (.bool nr) ∧ w'.cell? ⟨w.heap.size + 1, 1, none⟩ = some (.slice B m d))
    (exact KX.out _ (by first | assumption | exact Below.refl _ _ | exact below_drew (Below.refl _ _) | exact below_drew (by assumption)))
    (first
      | (go_at_call 201; (with_reducible refine (CM1.out _ (by first | assumption | exact Below.refl _ _ | exact below_drew (Below.refl _ _) | exact below_drew (by assumption))).mono ?_); rintro e w4 ⟨v4, rfl, hv4, hw4, hw4'⟩)
      | (go_at_call 201; (with_reducible refine (CM2.out _ (by first | assumption | exact Below.refl _ _ | exact below_drew (Below.refl _ _) | exact below_drew (by assumption))).mono ?_); rintro e w5 ⟨v5, rfl, hv5, hw5, hw5'⟩)
      | (go_at_call 200; (with_reducible refine (CS.out _ _ _ (by first | exact hv4.keep hw5' | exact NatIn.dr (hv4.keep hw5')) (by first | exact hv5 | exact NatIn.dr (hv5)) (by first | assumption | exact Below.refl _ _ | exact below_drew (Below.refl _ _) | exact below_drew (by assumption))).mono ?_); rintro e w6 ⟨v6, rfl, hv6, hw6, hw6'⟩)
      | fail)
  have HB6 := Lib.hid (HB3.out.trans (hw6.mono HB3.out.size))
  have HY6 := Lib.hid (HY3.out.keep hw6); have HR6 := Lib.hid (HR3.out.keep hw6)
  have HV6 := Lib.hid (And.intro (HV.out.1.keep hw6) (And.intro (HV.out.2.1.keep hw6) hv6))
  clear hv4 hw4 hw4' hv5 hw5 hw5' hv6 hw6 hw6' HX3 HY3 HR3 HB3 HV KX CM1 CM2 CS
  clear HX CR hL1 hR1
  have G6 := Lib.hid (gcd_num w6 _ _ _ _ _ k HV6.out.2.2 HV6.out.1 SSm.out SS.out (by omega) (by omega))
  obtain ⟨cm, hc⟩ : ∃ z, Nat.gcd S.natAbs s = z := ⟨_, rfl⟩
  rw [hc] at PP G6
  clear hc
  go_wp2_with fail
  refine G6.out.mono ?_
  rintro e w7 ⟨v7, rfl, hv7, hw7⟩
  have HB7 := Lib.hid (HB6.out.trans (hw7.mono HB6.out.size))
  have HY7 := Lib.hid (HY6.out.keep hw7); have HR7 := Lib.hid (HR6.out.keep hw7)
  have HV7 := Lib.hid (And.intro (HV6.out.2.1.keep hw7) (And.intro (HV6.out.2.2.keep hw7) hv7))
  clear hv7 hw7 HB6 HY6 HR6 HV6 G6
  have KX := Lib.hid (fun W (h : Below w7.heap.size w7 W) => (HY7.out.keep h).c2)
  have CQ1 := Lib.hid (fun W (h : Below w7.heap.size w7 W) => lift2 h (quo_num W _ _ _ _ _ (HV7.out.2.1.keep h) (HV7.out.2.2.keep h) SSm.out (by omega)))
  have CQ2 := Lib.hid (fun W (h : Below w7.heap.size w7 W) => lift2 h (quo_num W _ _ _ _ k ((HY.out.2.keep HB7.out).keep h) (HV7.out.2.2.keep h) SY.out.de (by omega)))
  have CM := Lib.hid (fun W a (ha : NatIn W a (Big.de r / cm)) (h : Below w7.heap.size w7 W) => lift2 h (mul_num W _ _ _ _ k k (HV7.out.1.keep h) ha SL.out (SY.out.de.le (Nat.div_le_self _ _)) (by omega) (by omega)))
  have KP := Lib.hid (fun W x y z (h : Below w7.heap.size w7 W) => put_cell (KX.out W h) (show w.heap.size + 1 ≠ w.heap.size + 1 + 1 by omega) x y z)
  have RES := Lib.hid (fun W (h : Below w7.heap.size w7 W) => HR7.out.keep h)
  go_wp2_with fail
  go_region_held3 (fun w' => w'.cell? ⟨w.heap.size + 1, 2, none⟩ = some (.slice B2 m2 d2))
    (first | exact KX.out _ (by first | assumption | exact Below.refl _ _ | exact below_drew (Below.refl _ _) | exact below_drew (by assumption)) | exact KP.out _ _ _ _ (by assumption))
    (first
      | (go_at_call 199; (with_reducible refine (CQ1.out _ (by first | assumption | exact Below.refl _ _ | exact below_drew (Below.refl _ _) | exact below_drew (by assumption))).mono ?_); rintro e w8 ⟨v8, rfl, hv8, hw8, hw8'⟩)
      | (go_at_call 199; (with_reducible refine (CQ2.out _ (by first | assumption | exact Below.refl _ _ | exact below_drew (Below.refl _ _) | exact below_drew (by assumption))).mono ?_); rintro e w9 ⟨v9, rfl, hv9, hw9, hw9'⟩)
      | (go_at_call 201; (with_reducible refine (CM.out _ _ (by first | exact hv9 | exact NatIn.dr (hv9)) (by first | assumption | exact Below.refl _ _ | exact below_drew (Below.refl _ _) | exact below_drew (by assumption))).mono ?_); rintro e w10 ⟨v10, rfl, hv10, hw10, hw10'⟩; have RR := RES.out _ hw10; have k0 := RR.c0; have k1 := RR.c1; have k2 := RR.c2; have f0 := RR.frozen 0; have f1 := RR.frozen 1; have f2 := RR.frozen 2; obtain ⟨A8, l8, c8, rfl, hl8⟩ := hv8.is_slice; obtain ⟨A10, l10, c10, rfl, hl10⟩ := hv10.is_slice)
      | fail)
  have h8 := (hv8.keep hw9').keep hw10'
  rw [← PP.out.2.1] at h8
  rw [← PP.out.2.2] at hv10
  obtain ⟨D1, D2, D3⟩ := num_done (show NumRes w10 _ _ from RR) (HB7.out.trans (hw10.mono HB7.out.size)) (by omega) h8 hv10 PP.out.1.symm
  have HD1 := Lib.hid D1; have HD2 := Lib.hid D2; have HD3 := Lib.hid D3
  clear D1 D2 D3 k0 k1 k2 f0 f1 f2 RR h8
  generalize (((w10.setCell ⟨w.heap.size + 1 + 1, 0, none⟩ (.bool (decide (S < 0)))).setCell ⟨w.heap.size + 1 + 1, 1, none⟩ (.slice A8 l8 c8)).setCell ⟨w.heap.size + 1 + 1, 2, none⟩ (.slice A10 l10 c10)) = wz at HD1 HD2 HD3 ⊢
  have r0 := HD1.out.c0; have r1 := HD1.out.c1; have r2 := HD1.out.c2
  go_wp2_with fail
  exact bodyPost_ret (v := .agg #[.bool (decide (S < 0)), .slice A8 l8 c8, .slice A10 l10 c10]) (by simp [results, Tryz.results96, go_sem, r0, r1, r2]) rfl ⟨_, rfl, HD2.out, HD3.out⟩
end Go.Proofs.YtgcgmplepcfbaaaGreatDoor
/- exact: Mul. -/
namespace Go.Proofs.YtgcgmplepcfbaaaGreatDoor
open Go.RowKit

set_option maxRecDepth 100000 in
set_option maxHeartbeats 4000000 in
/-- exact.Mul. -/
theorem exMul_any (w : World) (vx vy : Value) (q r : Rat) (k : Nat) (hx : NumIn w vx q) (hy : NumIn w vy r) (sx : Sm k q) (sy : Sm k r) (hk : k ≤ 10000000) :
    Calls Tryz.prog 107 #[vx, vy] w (Num1 w (q * r)) := by
  obtain ⟨A, l, c, A2, l2, c2, rfl, hx1, hx2⟩ := hx.is_agg
  obtain ⟨B, m, d, B2, m2, d2, rfl, hy1, hy2⟩ := hy.is_agg
  have HX := Lib.hid (And.intro hx1 hx2); have HY := Lib.hid (And.intro hy1 hy2)
  have SX := Lib.hid sx; have SY := Lib.hid sy
  have GX := Lib.hid (And.intro (@Big.ng_pos q) (And.intro (@Big.ng_pos r) (And.intro (Big.de_pos q) (Big.de_pos r))))
  have PP := Lib.hid (Big.mul_parts q r)
  clear hx hy hx1 hx2 hy1 hy2 sx sy
  obtain ⟨g1, hg1⟩ : ∃ z, Nat.gcd (Big.nu q) (Big.de r) = z := ⟨_, rfl⟩
  obtain ⟨g2, hg2⟩ : ∃ z, Nat.gcd (Big.nu r) (Big.de q) = z := ⟨_, rfl⟩
  have HG := Lib.hid (And.intro hg1 hg2)
  rw [hg1, hg2] at PP
  clear hg1 hg2
  generalize Big.ng q = nq at *
  generalize Big.ng r = nr at *
  go_enter Tryz.func107, Tryz.ntmps107
  go_wp2_with fail
  obtain ⟨X0, Y0, R0, B0⟩ := boxed3 w 123 123 (.bool nq) (.slice A l c) (.slice A2 l2 c2) (.bool nr) (.slice B m d) (.slice B2 m2 d2) (.bool false) (.slice none 0 0) (.slice none 0 0)
  have HX0 := Lib.hid X0; have HY0 := Lib.hid Y0; have HR0 := Lib.hid R0; have HB0 := Lib.hid B0
  clear X0 Y0 R0 B0
  generalize ((w.alloc (.cells #[.bool nq, .slice A l c, .slice A2 l2 c2] 123)).alloc (.cells #[.bool nr, .slice B m d, .slice B2 m2 d2] 123)).alloc (.cells #[.bool false, .slice none 0 0, .slice none 0 0] 123) = w0 at *
  have KX := Lib.hid (fun W (h : Below w0.heap.size w0 W) => And.intro (HX0.out.keep h).c1 (And.intro (HX0.out.keep h).c2 (And.intro (HY0.out.keep h).c1 (HY0.out.keep h).c2)))
  have C1 := Lib.hid (fun W (h : Below w0.heap.size w0 W) => lift2 h (HG.out.1 ▸ gcd_num W _ _ _ _ k k ((HX.out.1.keep HB0.out).keep h) ((HY.out.2.keep HB0.out).keep h) SX.out.nu SY.out.de (by omega) (by omega)))
  have C2 := Lib.hid (fun W (h : Below w0.heap.size w0 W) => lift2 h (HG.out.2 ▸ gcd_num W _ _ _ _ k k ((HY.out.1.keep HB0.out).keep h) ((HX.out.2.keep HB0.out).keep h) SY.out.nu SX.out.de (by omega) (by omega)))
  go_wp2_with fail
  go_region_held3 (fun w' => w'.cell? ⟨w.heap.size, 1, none⟩ = some (.slice A l c) ∧ w'.cell? ⟨w.heap.size, 2, none⟩ = some (.slice A2 l2 c2) ∧ w'.cell? ⟨w.heap.size + 1, 1, none⟩ = some (.slice B m d) ∧ w'.cell? ⟨w.heap.size + 1, 2, none⟩ = some (.slice B2 m2 d2))
    (exact KX.out _ (by first | assumption | exact Below.refl _ _ | exact below_drew (Below.refl _ _) | exact below_drew (by assumption)))
    (first
      | (go_at_call 198; (with_reducible refine (C1.out _ (by first | assumption | exact Below.refl _ _ | exact below_drew (Below.refl _ _) | exact below_drew (by assumption))).mono ?_); rintro e w2 ⟨v2, rfl, hv2, hw2, hw2'⟩)
      | (go_at_call 198; (with_reducible refine (C2.out _ (by first | assumption | exact Below.refl _ _ | exact below_drew (Below.refl _ _) | exact below_drew (by assumption))).mono ?_); rintro e w3 ⟨v3, rfl, hv3, hw3, hw3'⟩)
      | fail)
  have HB3 := Lib.hid (HB0.out.trans (hw3.mono HB0.out.size))
  have HX3 := Lib.hid (HX0.out.keep hw3); have HY3 := Lib.hid (HY0.out.keep hw3); have HR3 := Lib.hid (HR0.out.keep hw3)
  have HV := Lib.hid (And.intro (hv2.keep hw3') hv3)
  clear hv2 hw2 hw2' hv3 hw3 hw3' HX0 HY0 HR0 HB0 KX C1 C2
  have KX := Lib.hid (fun W (h : Below w3.heap.size w3 W) => And.intro (HX3.out.keep h).c1 (HY3.out.keep h).c1)
  have C1 := Lib.hid (fun W (h : Below w3.heap.size w3 W) => lift2 h (quo_num W _ _ _ _ k ((HX.out.1.keep HB3.out).keep h) (HV.out.1.keep h) SX.out.nu (by omega)))
  have C2 := Lib.hid (fun W (h : Below w3.heap.size w3 W) => lift2 h (quo_num W _ _ _ _ k ((HY.out.1.keep HB3.out).keep h) (HV.out.2.keep h) SY.out.nu (by omega)))
  have CM := Lib.hid (fun W a b (ha : NatIn W a (Big.nu q / g1)) (hb : NatIn W b (Big.nu r / g2)) (h : Below w3.heap.size w3 W) => lift2 h (mul_num W _ _ _ _ k k ha hb (SX.out.nu.le (Nat.div_le_self _ _)) (SY.out.nu.le (Nat.div_le_self _ _)) (by omega) (by omega)))
  go_wp2_with fail
  go_region_held3 (fun w' => w'.cell? ⟨w.heap.size, 1, none⟩ = some (.slice A l c) ∧ w'.cell? ⟨w.heap.size + 1, 1, none⟩ = some (.slice B m d))
    (exact KX.out _ (by first | assumption | exact Below.refl _ _ | exact below_drew (Below.refl _ _) | exact below_drew (by assumption)))
    (first
      | (go_at_call 199; (with_reducible refine (C1.out _ (by first | assumption | exact Below.refl _ _ | exact below_drew (Below.refl _ _) | exact below_drew (by assumption))).mono ?_); rintro e w4 ⟨v4, rfl, hv4, hw4, hw4'⟩)
      | (go_at_call 199; (with_reducible refine (C2.out _ (by first | assumption | exact Below.refl _ _ | exact below_drew (Below.refl _ _) | exact below_drew (by assumption))).mono ?_); rintro e w5 ⟨v5, rfl, hv5, hw5, hw5'⟩)
      | (go_at_call 201; (with_reducible refine (CM.out _ _ _ (by first | exact hv4.keep hw5' | exact NatIn.dr (hv4.keep hw5')) (by first | exact hv5 | exact NatIn.dr (hv5)) (by first | assumption | exact Below.refl _ _ | exact below_drew (Below.refl _ _) | exact below_drew (by assumption))).mono ?_); rintro e w6 ⟨v6, rfl, hv6, hw6, hw6'⟩)
      | fail)
  have HB6 := Lib.hid (HB3.out.trans (hw6.mono HB3.out.size))
  have HX6 := Lib.hid (HX3.out.keep hw6); have HY6 := Lib.hid (HY3.out.keep hw6); have HR6 := Lib.hid (HR3.out.keep hw6)
  have HV6 := Lib.hid (And.intro (HV.out.1.keep hw6) (And.intro (HV.out.2.keep hw6) hv6))
  clear hv4 hw4 hw4' hv5 hw5 hw5' hv6 hw6 hw6' HX3 HY3 HR3 HB3 HV KX C1 C2 CM
  have KX := Lib.hid (fun W (h : Below w6.heap.size w6 W) => And.intro (HX6.out.keep h).c2 (HY6.out.keep h).c2)
  have C1 := Lib.hid (fun W (h : Below w6.heap.size w6 W) => lift2 h (quo_num W _ _ _ _ k ((HX.out.2.keep HB6.out).keep h) (HV6.out.2.1.keep h) SX.out.de (by omega)))
  have C2 := Lib.hid (fun W (h : Below w6.heap.size w6 W) => lift2 h (quo_num W _ _ _ _ k ((HY.out.2.keep HB6.out).keep h) (HV6.out.1.keep h) SY.out.de (by omega)))
  have CM := Lib.hid (fun W a b (ha : NatIn W a (Big.de q / g2)) (hb : NatIn W b (Big.de r / g1)) (h : Below w6.heap.size w6 W) => lift2 h (mul_num W _ _ _ _ k k ha hb (SX.out.de.le (Nat.div_le_self _ _)) (SY.out.de.le (Nat.div_le_self _ _)) (by omega) (by omega)))
  go_wp2_with fail
  go_region_held3 (fun w' => w'.cell? ⟨w.heap.size, 2, none⟩ = some (.slice A2 l2 c2) ∧ w'.cell? ⟨w.heap.size + 1, 2, none⟩ = some (.slice B2 m2 d2))
    (exact KX.out _ (by first | assumption | exact Below.refl _ _ | exact below_drew (Below.refl _ _) | exact below_drew (by assumption)))
    (first
      | (go_at_call 199; (with_reducible refine (C1.out _ (by first | assumption | exact Below.refl _ _ | exact below_drew (Below.refl _ _) | exact below_drew (by assumption))).mono ?_); rintro e w7 ⟨v7, rfl, hv7, hw7, hw7'⟩)
      | (go_at_call 199; (with_reducible refine (C2.out _ (by first | assumption | exact Below.refl _ _ | exact below_drew (Below.refl _ _) | exact below_drew (by assumption))).mono ?_); rintro e w8 ⟨v8, rfl, hv8, hw8, hw8'⟩)
      | (go_at_call 201; (with_reducible refine (CM.out _ _ _ (by first | exact hv7.keep hw8' | exact NatIn.dr (hv7.keep hw8')) (by first | exact hv8 | exact NatIn.dr (hv8)) (by first | assumption | exact Below.refl _ _ | exact below_drew (Below.refl _ _) | exact below_drew (by assumption))).mono ?_); rintro e w9 ⟨v9, rfl, hv9, hw9, hw9'⟩)
      | fail)
  have HB9 := Lib.hid (HB6.out.trans (hw9.mono HB6.out.size))
  have X9 := HX6.out.keep hw9; have Y9 := HY6.out.keep hw9
  have x0 := X9.c0; have y0 := Y9.c0
  have RR := HR6.out.keep hw9
  have k0 := RR.c0; have k1 := RR.c1; have k2 := RR.c2; have f0 := RR.frozen 0; have f1 := RR.frozen 1; have f2 := RR.frozen 2
  have h6 := HV6.out.2.2.keep hw9
  obtain ⟨A6, l6, c6, rfl, hl6⟩ := h6.is_slice
  obtain ⟨A9, l9, c9, rfl, hl9⟩ := hv9.is_slice
  rw [← PP.out.2.2] at hv9
  rw [← PP.out.2.1] at h6 hl6
  have HH := Lib.hid (And.intro h6 hv9)
  have HNG := Lib.hid (show Big.ng (q * r) = ((nq != nr) && decide (0 < l6)) by
    rw [PP.out.1, ← PP.out.2.1]; congr 1; rw [decide_eq_decide, Nat.pos_iff_ne_zero, Nat.pos_iff_ne_zero, Ne, Ne, hl6])
  have HRR := Lib.hid RR
  clear hv7 hw7 hw7' hv8 hw8 hw8' hv9 hw9 hw9' HX6 HY6 HR6 HB6 HV6 KX C1 C2 CM X9 Y9 h6 hl6 hl9 RR PP HX HY SX SY GX HG
  rcases Nat.eq_zero_or_pos l6 with hl0 | hl0
  · subst hl0
    rw [decide_eq_false (by omega), Bool.and_false] at HNG
    cases nq
    · cases nr
      · go_wp2_with fail
        obtain ⟨D1, D2, D3⟩ := num_done (bb := false) (show NumRes w9 _ _ from HRR.out) HB9.out (by omega) HH.out.1 HH.out.2 HNG.out.symm
        have HD1 := Lib.hid D1; have HD2 := Lib.hid D2; have HD3 := Lib.hid D3
        clear D1 D2 D3 k0 k1 k2 f0 f1 f2
        generalize (((w9.setCell ⟨w.heap.size + 1 + 1, 0, none⟩ (.bool (false))).setCell ⟨w.heap.size + 1 + 1, 1, none⟩ (.slice A6 0 c6)).setCell ⟨w.heap.size + 1 + 1, 2, none⟩ (.slice A9 l9 c9)) = wz at HD1 HD2 HD3 ⊢
        have r0 := HD1.out.c0; have r1 := HD1.out.c1; have r2 := HD1.out.c2
        go_wp2_with fail
        exact bodyPost_ret (v := .agg #[.bool (false), (.slice A6 0 c6), (.slice A9 l9 c9)]) (by simp [results, Tryz.results107, go_sem, r0, r1, r2]) rfl ⟨_, rfl, HD2.out, HD3.out⟩
      · go_wp2_with fail
        obtain ⟨D1, D2, D3⟩ := num_done (bb := false) (show NumRes w9 _ _ from HRR.out) HB9.out (by omega) HH.out.1 HH.out.2 HNG.out.symm
        have HD1 := Lib.hid D1; have HD2 := Lib.hid D2; have HD3 := Lib.hid D3
        clear D1 D2 D3 k0 k1 k2 f0 f1 f2
        generalize (((w9.setCell ⟨w.heap.size + 1 + 1, 0, none⟩ (.bool (false))).setCell ⟨w.heap.size + 1 + 1, 1, none⟩ (.slice A6 0 c6)).setCell ⟨w.heap.size + 1 + 1, 2, none⟩ (.slice A9 l9 c9)) = wz at HD1 HD2 HD3 ⊢
        have r0 := HD1.out.c0; have r1 := HD1.out.c1; have r2 := HD1.out.c2
        go_wp2_with fail
        exact bodyPost_ret (v := .agg #[.bool (false), (.slice A6 0 c6), (.slice A9 l9 c9)]) (by simp [results, Tryz.results107, go_sem, r0, r1, r2]) rfl ⟨_, rfl, HD2.out, HD3.out⟩
    · cases nr
      · go_wp2_with fail
        obtain ⟨D1, D2, D3⟩ := num_done (bb := false) (show NumRes w9 _ _ from HRR.out) HB9.out (by omega) HH.out.1 HH.out.2 HNG.out.symm
        have HD1 := Lib.hid D1; have HD2 := Lib.hid D2; have HD3 := Lib.hid D3
        clear D1 D2 D3 k0 k1 k2 f0 f1 f2
        generalize (((w9.setCell ⟨w.heap.size + 1 + 1, 0, none⟩ (.bool (false))).setCell ⟨w.heap.size + 1 + 1, 1, none⟩ (.slice A6 0 c6)).setCell ⟨w.heap.size + 1 + 1, 2, none⟩ (.slice A9 l9 c9)) = wz at HD1 HD2 HD3 ⊢
        have r0 := HD1.out.c0; have r1 := HD1.out.c1; have r2 := HD1.out.c2
        go_wp2_with fail
        exact bodyPost_ret (v := .agg #[.bool (false), (.slice A6 0 c6), (.slice A9 l9 c9)]) (by simp [results, Tryz.results107, go_sem, r0, r1, r2]) rfl ⟨_, rfl, HD2.out, HD3.out⟩
      · go_wp2_with fail
        obtain ⟨D1, D2, D3⟩ := num_done (bb := false) (show NumRes w9 _ _ from HRR.out) HB9.out (by omega) HH.out.1 HH.out.2 HNG.out.symm
        have HD1 := Lib.hid D1; have HD2 := Lib.hid D2; have HD3 := Lib.hid D3
        clear D1 D2 D3 k0 k1 k2 f0 f1 f2
        generalize (((w9.setCell ⟨w.heap.size + 1 + 1, 0, none⟩ (.bool (false))).setCell ⟨w.heap.size + 1 + 1, 1, none⟩ (.slice A6 0 c6)).setCell ⟨w.heap.size + 1 + 1, 2, none⟩ (.slice A9 l9 c9)) = wz at HD1 HD2 HD3 ⊢
        have r0 := HD1.out.c0; have r1 := HD1.out.c1; have r2 := HD1.out.c2
        go_wp2_with fail
        exact bodyPost_ret (v := .agg #[.bool (false), (.slice A6 0 c6), (.slice A9 l9 c9)]) (by simp [results, Tryz.results107, go_sem, r0, r1, r2]) rfl ⟨_, rfl, HD2.out, HD3.out⟩
  · have t4 : ((l6 : Int) > 0) := by omega
    rw [decide_eq_true (by omega), Bool.and_true] at HNG
    cases nq
    · cases nr
      · go_wp2_with fail
        obtain ⟨D1, D2, D3⟩ := num_done (bb := false) (show NumRes w9 _ _ from HRR.out) HB9.out (by omega) HH.out.1 HH.out.2 HNG.out.symm
        have HD1 := Lib.hid D1; have HD2 := Lib.hid D2; have HD3 := Lib.hid D3
        clear D1 D2 D3 k0 k1 k2 f0 f1 f2
        generalize (((w9.setCell ⟨w.heap.size + 1 + 1, 0, none⟩ (.bool (false))).setCell ⟨w.heap.size + 1 + 1, 1, none⟩ (.slice A6 l6 c6)).setCell ⟨w.heap.size + 1 + 1, 2, none⟩ (.slice A9 l9 c9)) = wz at HD1 HD2 HD3 ⊢
        have r0 := HD1.out.c0; have r1 := HD1.out.c1; have r2 := HD1.out.c2
        go_wp2_with fail
        exact bodyPost_ret (v := .agg #[.bool (false), (.slice A6 l6 c6), (.slice A9 l9 c9)]) (by simp [results, Tryz.results107, go_sem, r0, r1, r2]) rfl ⟨_, rfl, HD2.out, HD3.out⟩
      · go_wp2_with fail
        obtain ⟨D1, D2, D3⟩ := num_done (bb := true) (show NumRes w9 _ _ from HRR.out) HB9.out (by omega) HH.out.1 HH.out.2 HNG.out.symm
        have HD1 := Lib.hid D1; have HD2 := Lib.hid D2; have HD3 := Lib.hid D3
        clear D1 D2 D3 k0 k1 k2 f0 f1 f2
        generalize (((w9.setCell ⟨w.heap.size + 1 + 1, 0, none⟩ (.bool (true))).setCell ⟨w.heap.size + 1 + 1, 1, none⟩ (.slice A6 l6 c6)).setCell ⟨w.heap.size + 1 + 1, 2, none⟩ (.slice A9 l9 c9)) = wz at HD1 HD2 HD3 ⊢
        have r0 := HD1.out.c0; have r1 := HD1.out.c1; have r2 := HD1.out.c2
        go_wp2_with fail
        exact bodyPost_ret (v := .agg #[.bool (true), (.slice A6 l6 c6), (.slice A9 l9 c9)]) (by simp [results, Tryz.results107, go_sem, r0, r1, r2]) rfl ⟨_, rfl, HD2.out, HD3.out⟩
    · cases nr
      · go_wp2_with fail
        obtain ⟨D1, D2, D3⟩ := num_done (bb := true) (show NumRes w9 _ _ from HRR.out) HB9.out (by omega) HH.out.1 HH.out.2 HNG.out.symm
        have HD1 := Lib.hid D1; have HD2 := Lib.hid D2; have HD3 := Lib.hid D3
        clear D1 D2 D3 k0 k1 k2 f0 f1 f2
        generalize (((w9.setCell ⟨w.heap.size + 1 + 1, 0, none⟩ (.bool (true))).setCell ⟨w.heap.size + 1 + 1, 1, none⟩ (.slice A6 l6 c6)).setCell ⟨w.heap.size + 1 + 1, 2, none⟩ (.slice A9 l9 c9)) = wz at HD1 HD2 HD3 ⊢
        have r0 := HD1.out.c0; have r1 := HD1.out.c1; have r2 := HD1.out.c2
        go_wp2_with fail
        exact bodyPost_ret (v := .agg #[.bool (true), (.slice A6 l6 c6), (.slice A9 l9 c9)]) (by simp [results, Tryz.results107, go_sem, r0, r1, r2]) rfl ⟨_, rfl, HD2.out, HD3.out⟩
      · go_wp2_with fail
        obtain ⟨D1, D2, D3⟩ := num_done (bb := false) (show NumRes w9 _ _ from HRR.out) HB9.out (by omega) HH.out.1 HH.out.2 HNG.out.symm
        have HD1 := Lib.hid D1; have HD2 := Lib.hid D2; have HD3 := Lib.hid D3
        clear D1 D2 D3 k0 k1 k2 f0 f1 f2
        generalize (((w9.setCell ⟨w.heap.size + 1 + 1, 0, none⟩ (.bool (false))).setCell ⟨w.heap.size + 1 + 1, 1, none⟩ (.slice A6 l6 c6)).setCell ⟨w.heap.size + 1 + 1, 2, none⟩ (.slice A9 l9 c9)) = wz at HD1 HD2 HD3 ⊢
        have r0 := HD1.out.c0; have r1 := HD1.out.c1; have r2 := HD1.out.c2
        go_wp2_with fail
        exact bodyPost_ret (v := .agg #[.bool (false), (.slice A6 l6 c6), (.slice A9 l9 c9)]) (by simp [results, Tryz.results107, go_sem, r0, r1, r2]) rfl ⟨_, rfl, HD2.out, HD3.out⟩
end Go.Proofs.YtgcgmplepcfbaaaGreatDoor
/- exact: Neg, Sign, IsWhole, Num, Den. -/
namespace Go.Proofs.YtgcgmplepcfbaaaGreatDoor
open Go.RowKit

/-- A number comes back, b the world that is looked back to. -/
def NumT (b w : World) (q : Rat) (e : Ending) (w' : World) : Prop := ∃ v', e = .returned v' ∧ NumIn w' v' q ∧ Below b.heap.size b w' ∧ Below w.heap.size w w'
theorem liftN {P : Program} {f : FuncId} {args : Array Value} {b W : World} {q : Rat} (h : Below b.heap.size b W) (c : Calls P f args W (Num1 W q)) : Calls P f args W (NumT b W q) :=
  c.mono fun _ _ ⟨v, h1, h2, h3⟩ => ⟨v, h1, h2, h.trans (h3.mono h.size), h3⟩
/-- The sign as a number. -/
def sgQ (q : Rat) : Int := if Big.ng q = true then -1 else if Big.nu q = 0 then 0 else 1
theorem box1_below (w : World) (o : Obj) : Below w.heap.size w (w.alloc o) := below_alloc (Below.refl _ _) (Nat.le_refl _) o

set_option maxRecDepth 100000 in
set_option maxHeartbeats 4000000 in
/-- exact.Neg. -/
theorem exNeg_any (w : World) (vx : Value) (q : Rat) (hx : NumIn w vx q) :
    Calls Tryz.prog 214 #[vx] w (Num1 w (-q)) := by
  obtain ⟨A, l, c, A2, l2, c2, rfl, hx1, hx2⟩ := hx.is_agg
  have HX := Lib.hid (And.intro hx1 hx2)
  obtain ⟨p1, p2, p3⟩ := Big.neg_parts q
  have hl := hx1.len_zero
  have HNG := Lib.hid (show Big.ng (-q) = (!Big.ng q && decide (0 < l)) by rw [p1]; congr 1; rw [decide_eq_decide, Nat.pos_iff_ne_zero, Nat.pos_iff_ne_zero, Ne, Ne, hl])
  have H0 := Lib.hid (show NatIn w (.slice A l c) (Big.nu (-q)) ∧ NatIn w (.slice A2 l2 c2) (Big.de (-q)) by rw [p2, p3]; exact ⟨hx1, hx2⟩)
  clear hx hx1 hx2 p1 p2 p3 hl HX
  generalize Big.ng q = nq at *
  rcases Nat.eq_zero_or_pos l with hl0 | hl0
  · subst hl0
    rw [decide_eq_false (by omega), Bool.and_false] at HNG
    cases nq
    · go_enter Tryz.func214, Tryz.ntmps214
      go_wp2_with fail
      obtain ⟨_, R0, B0⟩ := boxed2 w 123 123 (.bool false) (.slice A 0 c) (.slice A2 l2 c2) (.bool false) (.slice A 0 c) (.slice A2 l2 c2)
      have r0 := R0.c0; have r1 := R0.c1; have r2 := R0.c2
      exact bodyPost_ret (v := .agg #[.bool false, .slice A 0 c, .slice A2 l2 c2]) (by simp [results, Tryz.results214, go_sem, r0, r1, r2]) rfl ⟨_, rfl, ⟨_, _, by first | (rw [HNG.out]; done) | (rw [HNG.out]; rfl), H0.out.1.keep B0, H0.out.2.keep B0⟩, B0⟩
    · go_enter Tryz.func214, Tryz.ntmps214
      go_wp2_with fail
      obtain ⟨_, R0, B0⟩ := boxed2 w 123 123 (.bool true) (.slice A 0 c) (.slice A2 l2 c2) (.bool false) (.slice A 0 c) (.slice A2 l2 c2)
      have r0 := R0.c0; have r1 := R0.c1; have r2 := R0.c2
      exact bodyPost_ret (v := .agg #[.bool false, .slice A 0 c, .slice A2 l2 c2]) (by simp [results, Tryz.results214, go_sem, r0, r1, r2]) rfl ⟨_, rfl, ⟨_, _, by first | (rw [HNG.out]; done) | (rw [HNG.out]; rfl), H0.out.1.keep B0, H0.out.2.keep B0⟩, B0⟩
  · have t4 : ((l : Int) > 0) := by omega
    rw [decide_eq_true (by omega), Bool.and_true] at HNG
    cases nq
    · go_enter Tryz.func214, Tryz.ntmps214
      go_wp2_with fail
      obtain ⟨_, R0, B0⟩ := boxed2 w 123 123 (.bool false) (.slice A l c) (.slice A2 l2 c2) (.bool true) (.slice A l c) (.slice A2 l2 c2)
      have r0 := R0.c0; have r1 := R0.c1; have r2 := R0.c2
      exact bodyPost_ret (v := .agg #[.bool true, .slice A l c, .slice A2 l2 c2]) (by simp [results, Tryz.results214, go_sem, r0, r1, r2]) rfl ⟨_, rfl, ⟨_, _, by first | (rw [HNG.out]; done) | (rw [HNG.out]; rfl), H0.out.1.keep B0, H0.out.2.keep B0⟩, B0⟩
    · go_enter Tryz.func214, Tryz.ntmps214
      go_wp2_with fail
      obtain ⟨_, R0, B0⟩ := boxed2 w 123 123 (.bool true) (.slice A l c) (.slice A2 l2 c2) (.bool false) (.slice A l c) (.slice A2 l2 c2)
      have r0 := R0.c0; have r1 := R0.c1; have r2 := R0.c2
      exact bodyPost_ret (v := .agg #[.bool false, .slice A l c, .slice A2 l2 c2]) (by simp [results, Tryz.results214, go_sem, r0, r1, r2]) rfl ⟨_, rfl, ⟨_, _, by first | (rw [HNG.out]; done) | (rw [HNG.out]; rfl), H0.out.1.keep B0, H0.out.2.keep B0⟩, B0⟩

theorem exNum_any (w : World) (vx : Value) (q : Rat) (hx : NumIn w vx q) :
    Calls Tryz.prog 123 #[vx] w (Nat1 w (Big.nu q)) := by
  obtain ⟨A, l, c, A2, l2, c2, rfl, hx1, hx2⟩ := hx.is_agg
  have HX := Lib.hid (And.intro hx1 hx2)
  have HB := Lib.hid (box1_below w (.cells #[.bool (Big.ng q), .slice A l c, .slice A2 l2 c2] 123))
  have HQ := Lib.hid (HX.out.1.keep HB.out)
  clear hx hx1 hx2 HX
  go_enter Tryz.func123, Tryz.ntmps123
  go_wp2_with fail
  go_ret
  exact ⟨_, rfl, HQ.out, HB.out⟩
theorem exDen_any (w : World) (vx : Value) (q : Rat) (hx : NumIn w vx q) :
    Calls Tryz.prog 130 #[vx] w (Nat1 w (Big.de q)) := by
  obtain ⟨A, l, c, A2, l2, c2, rfl, hx1, hx2⟩ := hx.is_agg
  have HX := Lib.hid (And.intro hx1 hx2)
  have HB := Lib.hid (box1_below w (.cells #[.bool (Big.ng q), .slice A l c, .slice A2 l2 c2] 123))
  have HQ := Lib.hid (HX.out.2.keep HB.out)
  clear hx hx1 hx2 HX
  go_enter Tryz.func130, Tryz.ntmps130
  go_wp2_with fail
  go_ret
  exact ⟨_, rfl, HQ.out, HB.out⟩
theorem exIsWhole_any (w : World) (vx : Value) (q : Rat) (hx : NumIn w vx q) :
    Calls Tryz.prog 122 #[vx] w fun e w' => e = .returned (.bool (decide (Big.de q = 1))) ∧ Below w.heap.size w w' := by
  obtain ⟨A, l, c, A2, l2, c2, rfl, hx1, hx2⟩ := hx.is_agg
  have HX := Lib.hid (And.intro hx1 hx2)
  have HB := Lib.hid (box1_below w (.cells #[.bool (Big.ng q), .slice A l c, .slice A2 l2 c2] 123))
  have C := Lib.hid (isOne_num _ _ _ (HX.out.2.keep HB.out))
  clear hx hx1 hx2 HX
  go_enter Tryz.func122, Tryz.ntmps122
  go_wp2_with fail
  refine C.out.mono ?_
  rintro e w' ⟨rfl, rfl⟩
  go_wp2_with fail
  go_ret
  exact ⟨rfl, HB.out⟩
theorem exSign_any (w : World) (vx : Value) (q : Rat) (hx : NumIn w vx q) :
    Calls Tryz.prog 109 #[vx] w fun e w' => e = .returned (.int .i64 (sgQ q)) ∧ Below w.heap.size w w' := by
  obtain ⟨A, l, c, A2, l2, c2, rfl, hx1, hx2⟩ := hx.is_agg
  have HX := Lib.hid (And.intro hx1 hx2)
  have HB := Lib.hid (box1_below w (.cells #[.bool (Big.ng q), .slice A l c, .slice A2 l2 c2] 123))
  have hl := hx1.len_zero
  have HS := Lib.hid (show sgQ q = if Big.ng q = true then -1 else if l = 0 then 0 else 1 by unfold sgQ; simp only [hl])
  clear hx hx1 hx2 hl HX
  generalize sgQ q = z at *
  generalize Big.ng q = nq at *
  cases nq
  · rcases Nat.eq_zero_or_pos l with hl0 | hl0
    · subst hl0
      go_enter Tryz.func109, Tryz.ntmps109
      go_wp2_with fail
      go_ret
      exact ⟨ret_int HS.out.symm, HB.out⟩
    · have t : ((l : Int) == 0) = false := beq_eq_false_iff_ne.2 (by omega)
      rw [if_neg (by simp), if_neg (by omega)] at HS
      go_enter Tryz.func109, Tryz.ntmps109
      go_wp2_with fail
      go_ret
      exact ⟨ret_int HS.out.symm, HB.out⟩
  · go_enter Tryz.func109, Tryz.ntmps109
    go_wp2_with fail
    go_ret
    exact ⟨ret_int HS.out.symm, HB.out⟩
end Go.Proofs.YtgcgmplepcfbaaaGreatDoor
/- exact: Cmp. exact: Sub, Quo, Cmp. -/
namespace Go.Proofs.YtgcgmplepcfbaaaGreatDoor
open Go.RowKit

theorem cmpT {P : Program} {f : FuncId} {args : Array Value} {b W : World} {v : Value} (h : Below b.heap.size b W) (c : Calls P f args W fun e w' => e = .returned v ∧ Drew W w') :
    Calls P f args W fun e w' => e = .returned v ∧ Below b.heap.size b w' :=
  c.mono fun _ _ ⟨h1, h2⟩ => ⟨h1, h.trans (h2.below _)⟩

set_option maxRecDepth 100000 in
set_option maxHeartbeats 4000000 in
/-- exact.Cmp. -/
theorem exCmp_any (w : World) (vx vy : Value) (q r : Rat) (k : Nat) (hx : NumIn w vx q) (hy : NumIn w vy r) (sx : Sm k q) (sy : Sm k r) (hk : k ≤ 10000000) :
    Calls Tryz.prog 117 #[vx, vy] w fun e w' => e = .returned (.int .i64 (Big.cmpQ q r)) ∧ Below w.heap.size w w' := by
  obtain ⟨A, l, c, A2, l2, c2, rfl, hx1, hx2⟩ := hx.is_agg
  obtain ⟨B, m, d, B2, m2, d2, rfl, hy1, hy2⟩ := hy.is_agg
  have HX := Lib.hid (And.intro hx1 hx2); have HY := Lib.hid (And.intro hy1 hy2)
  have SX := Lib.hid sx; have SY := Lib.hid sy
  have GX := Lib.hid (And.intro (@Big.ng_pos q) (And.intro (@Big.ng_pos r) (And.intro (Big.de_pos q) (Big.de_pos r))))
  have H1 := Lib.hid (@Big.cmpQ_neg_pos q r); have H2 := Lib.hid (@Big.cmpQ_pos_neg q r); have H3 := Lib.hid (@Big.cmpQ_pos q r); have H4 := Lib.hid (@Big.cmpQ_neg q r)
  have hcb : -1 ≤ Big.cmpI (Big.nu q * Big.de r) (Big.nu r * Big.de q) ∧ Big.cmpI (Big.nu q * Big.de r) (Big.nu r * Big.de q) ≤ 1 := by
    unfold Big.cmpI; split
    · omega
    · split <;> omega
  clear hx hy hx1 hx2 hy1 hy2 sx sy GX
  generalize Big.ng q = nq at *
  generalize Big.ng r = nr at *
  generalize Big.cmpQ q r = z at *
  have X0 := At3.new w 123 (.bool nq) (.slice A l c) (.slice A2 l2 c2)
  have HB0 := Lib.hid (below_alloc (below_alloc (Below.refl w.heap.size w) (Nat.le_refl _) (.cells #[.bool nq, .slice A l c, .slice A2 l2 c2] 123)) (Nat.le_refl _) (.cells #[.bool nr, .slice B m d, .slice B2 m2 d2] 123))
  have HX0 := Lib.hid (X0.alloc' (.cells #[.bool nr, .slice B m d, .slice B2 m2 d2] 123))
  have Y0 := At3.new (w.alloc (.cells #[.bool nq, .slice A l c, .slice A2 l2 c2] 123)) 123 (.bool nr) (.slice B m d) (.slice B2 m2 d2)
  rw [alloc_size] at Y0
  have HY0 := Lib.hid Y0
  clear X0 Y0
  cases nq
  · cases nr
    · have HZ := Lib.hid (H3.out rfl rfl)
      clear H1 H2 H3 H4
      go_enter Tryz.func117, Tryz.ntmps117
      go_wp2_with fail
      generalize (w.alloc (.cells #[.bool false, .slice A l c, .slice A2 l2 c2] 123)).alloc (.cells #[.bool false, .slice B m d, .slice B2 m2 d2] 123) = w0 at *
      have KX := Lib.hid (fun W (h : Below w0.heap.size w0 W) => And.intro (HX0.out.keep h).c1 (And.intro (HX0.out.keep h).c2 (And.intro (HY0.out.keep h).c1 (HY0.out.keep h).c2)))
      have C1 := Lib.hid (fun W (h : Below w0.heap.size w0 W) => lift2 h (mul_num W _ _ _ _ k k ((HX.out.1.keep HB0.out).keep h) ((HY.out.2.keep HB0.out).keep h) SX.out.nu SY.out.de (by omega) (by omega)))
      have C2 := Lib.hid (fun W (h : Below w0.heap.size w0 W) => lift2 h (mul_num W _ _ _ _ k k ((HY.out.1.keep HB0.out).keep h) ((HX.out.2.keep HB0.out).keep h) SY.out.nu SX.out.de (by omega) (by omega)))
      have C3 := Lib.hid (fun W a b (ha : NatIn W a (Big.nu q * Big.de r)) (hb : NatIn W b (Big.nu r * Big.de q)) (h : Below w0.heap.size w0 W) => cmpT h (cmp_num W a b _ _ ha hb))
      generalize Big.cmpI (Big.nu q * Big.de r) (Big.nu r * Big.de q) = far at *
      obtain ⟨hc1, hc2⟩ := hcb
      go_region_held3 (fun w' => w'.cell? ⟨w.heap.size, 1, none⟩ = some (.slice A l c) ∧ w'.cell? ⟨w.heap.size, 2, none⟩ = some (.slice A2 l2 c2) ∧ w'.cell? ⟨w.heap.size + 1, 1, none⟩ = some (.slice B m d) ∧ w'.cell? ⟨w.heap.size + 1, 2, none⟩ = some (.slice B2 m2 d2))
        (exact KX.out _ (by first | assumption | exact Below.refl _ _ | exact below_drew (Below.refl _ _) | exact below_drew (by assumption)))
        (first
          | (go_at_call 201; (with_reducible refine (C1.out _ (by first | assumption | exact Below.refl _ _ | exact below_drew (Below.refl _ _) | exact below_drew (by assumption))).mono ?_); rintro e w2 ⟨v2, rfl, hv2, hw2, hw2'⟩)
          | (go_at_call 201; (with_reducible refine (C2.out _ (by first | assumption | exact Below.refl _ _ | exact below_drew (Below.refl _ _) | exact below_drew (by assumption))).mono ?_); rintro e w3 ⟨v3, rfl, hv3, hw3, hw3'⟩)
          | (go_at_call 217; (with_reducible refine (C3.out _ _ _ (by first | exact hv2.keep hw3' | exact NatIn.dr (hv2.keep hw3')) (by first | exact hv3 | exact NatIn.dr (hv3)) (by first | assumption | exact Below.refl _ _ | exact below_drew (Below.refl _ _) | exact below_drew (by assumption))).mono ?_); rintro e w4 ⟨rfl, hw4⟩)
          | fail)
      have X4 := HX0.out.keep hw4
      have x0 := X4.c0
      have HB4 := Lib.hid (HB0.out.trans (hw4.mono HB0.out.size))
      clear hv2 hv3 hw2 hw3 hw2' hw3' hw4 X4
      go_wp2_with fail
      go_ret
      exact ⟨ret_int HZ.out.symm, HB4.out⟩
    · have HZ := Lib.hid (H2.out rfl rfl)
      clear H1 H2 H3 H4
      have X4 := HX0.out
      have x0 := X4.c0
      clear X4
      go_enter Tryz.func117, Tryz.ntmps117
      go_wp2_with fail
      go_ret
      exact ⟨ret_int HZ.out.symm, HB0.out⟩
  · cases nr
    · have HZ := Lib.hid (H1.out rfl rfl)
      clear H1 H2 H3 H4
      have X4 := HX0.out
      have x0 := X4.c0
      clear X4
      go_enter Tryz.func117, Tryz.ntmps117
      go_wp2_with fail
      go_ret
      exact ⟨ret_int HZ.out.symm, HB0.out⟩
    · have HZ := Lib.hid (H4.out rfl rfl)
      clear H1 H2 H3 H4
      go_enter Tryz.func117, Tryz.ntmps117
      go_wp2_with fail
      generalize (w.alloc (.cells #[.bool true, .slice A l c, .slice A2 l2 c2] 123)).alloc (.cells #[.bool true, .slice B m d, .slice B2 m2 d2] 123) = w0 at *
      have KX := Lib.hid (fun W (h : Below w0.heap.size w0 W) => And.intro (HX0.out.keep h).c1 (And.intro (HX0.out.keep h).c2 (And.intro (HY0.out.keep h).c1 (HY0.out.keep h).c2)))
      have C1 := Lib.hid (fun W (h : Below w0.heap.size w0 W) => lift2 h (mul_num W _ _ _ _ k k ((HX.out.1.keep HB0.out).keep h) ((HY.out.2.keep HB0.out).keep h) SX.out.nu SY.out.de (by omega) (by omega)))
      have C2 := Lib.hid (fun W (h : Below w0.heap.size w0 W) => lift2 h (mul_num W _ _ _ _ k k ((HY.out.1.keep HB0.out).keep h) ((HX.out.2.keep HB0.out).keep h) SY.out.nu SX.out.de (by omega) (by omega)))
      have C3 := Lib.hid (fun W a b (ha : NatIn W a (Big.nu q * Big.de r)) (hb : NatIn W b (Big.nu r * Big.de q)) (h : Below w0.heap.size w0 W) => cmpT h (cmp_num W a b _ _ ha hb))
      generalize Big.cmpI (Big.nu q * Big.de r) (Big.nu r * Big.de q) = far at *
      obtain ⟨hc1, hc2⟩ := hcb
      go_region_held3 (fun w' => w'.cell? ⟨w.heap.size, 1, none⟩ = some (.slice A l c) ∧ w'.cell? ⟨w.heap.size, 2, none⟩ = some (.slice A2 l2 c2) ∧ w'.cell? ⟨w.heap.size + 1, 1, none⟩ = some (.slice B m d) ∧ w'.cell? ⟨w.heap.size + 1, 2, none⟩ = some (.slice B2 m2 d2))
        (exact KX.out _ (by first | assumption | exact Below.refl _ _ | exact below_drew (Below.refl _ _) | exact below_drew (by assumption)))
        (first
          | (go_at_call 201; (with_reducible refine (C1.out _ (by first | assumption | exact Below.refl _ _ | exact below_drew (Below.refl _ _) | exact below_drew (by assumption))).mono ?_); rintro e w2 ⟨v2, rfl, hv2, hw2, hw2'⟩)
          | (go_at_call 201; (with_reducible refine (C2.out _ (by first | assumption | exact Below.refl _ _ | exact below_drew (Below.refl _ _) | exact below_drew (by assumption))).mono ?_); rintro e w3 ⟨v3, rfl, hv3, hw3, hw3'⟩)
          | (go_at_call 217; (with_reducible refine (C3.out _ _ _ (by first | exact hv2.keep hw3' | exact NatIn.dr (hv2.keep hw3')) (by first | exact hv3 | exact NatIn.dr (hv3)) (by first | assumption | exact Below.refl _ _ | exact below_drew (Below.refl _ _) | exact below_drew (by assumption))).mono ?_); rintro e w4 ⟨rfl, hw4⟩)
          | fail)
      have X4 := HX0.out.keep hw4
      have x0 := X4.c0
      have HB4 := Lib.hid (HB0.out.trans (hw4.mono HB0.out.size))
      clear hv2 hv3 hw2 hw3 hw2' hw3' hw4 X4
      go_wp2_with fail
      go_ret
      exact ⟨ret_int HZ.out.symm, HB4.out⟩
end Go.Proofs.YtgcgmplepcfbaaaGreatDoor
/- exact: Size, Frac. -/
namespace Go.Proofs.YtgcgmplepcfbaaaGreatDoor
open Go.RowKit

theorem sizeT {P : Program} {f : FuncId} {args : Array Value} {b W : World} {v : Value} (h : Below b.heap.size b W) (c : Calls P f args W fun e w' => e = .returned v ∧ W = w') :
    Calls P f args W fun e w' => e = .returned v ∧ Below b.heap.size b w' :=
  c.mono fun _ _ ⟨h1, h2⟩ => ⟨h1, h2 ▸ h⟩
set_option maxRecDepth 100000 in
set_option maxHeartbeats 4000000 in
/-- exact.Size. -/
theorem exSize_any (w : World) (vx : Value) (q : Rat) (k : Nat) (hx : NumIn w vx q) (sx : Sm k q) (hk : k ≤ 10000000) :
    Calls Tryz.prog 190 #[vx] w fun e w' => e = .returned (.int .i64 ((max (szN (Big.nu q)) (szN (Big.de q)) : Nat) : Int)) ∧ Below w.heap.size w w' := by
  obtain ⟨A, l, c, A2, l2, c2, rfl, hx1, hx2⟩ := hx.is_agg
  have HX := Lib.hid (And.intro hx1 hx2)
  have SX := Lib.hid sx
  have HB0 := Lib.hid (box1_below w (.cells #[.bool (Big.ng q), .slice A l c, .slice A2 l2 c2] 123))
  have HX0 := Lib.hid (At3.new w 123 (.bool (Big.ng q)) (.slice A l c) (.slice A2 l2 c2))
  clear hx hx1 hx2 sx
  generalize Big.ng q = nq at *
  go_enter Tryz.func190, Tryz.ntmps190
  go_wp2_with fail
  generalize w.alloc (.cells #[.bool nq, .slice A l c, .slice A2 l2 c2] 123) = w0 at *
  have KX := Lib.hid (fun W (h : Below w0.heap.size w0 W) => And.intro (HX0.out.keep h).c1 (HX0.out.keep h).c2)
  have C1 := Lib.hid (fun W (h : Below w0.heap.size w0 W) => sizeT h (size_num W _ _ k ((HX.out.1.keep HB0.out).keep h) SX.out.nu (by omega)))
  have C2 := Lib.hid (fun W (h : Below w0.heap.size w0 W) => sizeT h (size_num W _ _ k ((HX.out.2.keep HB0.out).keep h) SX.out.de (by omega)))
  go_region_held3 (fun w' => w'.cell? ⟨w.heap.size, 1, none⟩ = some (.slice A l c) ∧ w'.cell? ⟨w.heap.size, 2, none⟩ = some (.slice A2 l2 c2))
    (exact KX.out _ (by first | assumption | exact Below.refl _ _ | exact below_drew (Below.refl _ _) | exact below_drew (by assumption)))
    (first
      | (go_at_call 284; (with_reducible refine (C1.out _ (by first | assumption | exact Below.refl _ _ | exact below_drew (Below.refl _ _) | exact below_drew (by assumption))).mono ?_); rintro e w2 ⟨rfl, hw2⟩)
      | (go_at_call 284; (with_reducible refine (C2.out _ (by first | assumption | exact Below.refl _ _ | exact below_drew (Below.refl _ _) | exact below_drew (by assumption))).mono ?_); rintro e w3 ⟨rfl, hw3⟩)
      | fail)
  have HB3 := Lib.hid (HB0.out.trans (hw3.mono HB0.out.size))
  go_wp2_with fail
  go_ret
  refine ⟨?_, HB3.out⟩
  apply ret_int
  generalize szN (Big.nu q) = s1; generalize szN (Big.de q) = s2; omega
end Go.Proofs.YtgcgmplepcfbaaaGreatDoor
/- nat: Shl, Bits. -/
namespace Go.Proofs.YtgcgmplepcfbaaaGreatDoor
open Go.RowKit

theorem splice_at (k : IntKind) (off : Nat) (cur xs : List Nat) : splice (cellsOf k cur).toList off (xs.map fun d => Value.int k ((d : Nat) : Int)) = (cellsOf k (cur.take off ++ (xs ++ cur.drop (off + xs.length)))).toList := by
  simp [splice, cellsOf_toList, List.map_drop, List.map_take]
set_option maxRecDepth 100000 in
/-- copy of a whole block of words into another one, from a place on. -/
theorem copy_run (W : World) (g off g2 n : Nat) (cur xs : List Nat) (hb : Blk W g 90 .u64 cur) (hs : Blk W g2 90 .u64 xs) (hx : xs.length = n) (hfit : off + n ≤ cur.length) (ty : TypeId) :
    ∃ W', (Builtin.copy_ #[121, 121] ty #[.slice (some ⟨g, off, none⟩) n n, .slice (some ⟨g2, 0, none⟩) n n]).run Tryz.prog W = .ok (.int .i64 (n : Int)) W' ∧
      Hid (Blk W' g 90 .u64 (cur.take off ++ (xs ++ cur.drop (off + n))) ∧ ∀ B w0, Below B w0 W → B ≤ g → Below B w0 W') := by
  subst hx
  have hu : (Tryz.prog.info? 90).map (·.size) = some 1 := by
    obtain ⟨i0, hi, -, hz1, -⟩ := info_parts Tryz.infoU64
    rw [hi]; simp [hz1]
  have hlen : (xs.map fun d => Value.int .u64 ((d : Nat) : Int)).length = xs.length := by simp
  have h := run_copy_row (P := Tryz.prog) W 121 121 ty 90 g off xs.length xs.length ⟨g2, 0, none⟩ xs.length xs.length (cellsOf .u64 cur) 90 (xs.map fun d => Value.int .u64 ((d : Nat) : Int))
    Tryz.underlying121 hu hb (by rw [hlen]; exact (Nat.min_self _).symm) (fun j v hv => by
      have hj : j < xs.length := by
        rcases Nat.lt_or_ge j xs.length with h | h
        · exact h
        · rw [List.getElem?_eq_none (by simpa using h)] at hv; cases hv
      rw [List.getElem?_map, List.getElem?_eq_getElem hj] at hv
      have := hs.cell j hj
      unfold Big.nth at this
      rw [List.getD_eq_getElem?_getD, List.getElem?_eq_getElem hj] at this
      simp at hv
      rw [← hv]
      unfold Addr.add
      split
      · rename_i h0; subst h0; simpa using this
      · simpa using this) (by rw [hlen]; simpa [cellsOf] using hfit) (by intro v hv; simp at hv; obtain ⟨_, _, rfl⟩ := hv; rfl)
  rw [hlen] at h
  refine ⟨_, h, Lib.hid ⟨?_, fun B w0 hB hg => below_setRow hB hg _⟩⟩
  have e := setRow_heap W g (cellsOf .u64 cur) ((cellsOf .u64 cur).toList.take off ++ (xs.map fun d => Value.int .u64 ((d : Nat) : Int)) ++ (cellsOf .u64 cur).toList.drop (off + xs.length)).toArray 90 _ hb
  unfold Blk
  rw [e]
  congr 2
  simp [cellsOf, List.map_drop, List.map_take]

/-- How many binary digits. -/
def IsBits (n s : Nat) : Prop := (n = 0 ∧ s = 0) ∨ (1 ≤ s ∧ 2 ^ (s - 1) ≤ n ∧ n < 2 ^ s)
theorem M64_pow (k : Nat) : Big.M64 ^ k = 2 ^ (64 * k) := by rw [Big.M64_eq, show (18446744073709551616 : Nat) = 2 ^ 64 by decide, ← Nat.pow_mul]
theorem isBits_top {r : List Nat} {t b : Nat} (or : Big.Ok Big.M64 r) (h1 : 2 ^ (b - 1) ≤ t) (h2 : t < 2 ^ b) (hb : 1 ≤ b) : IsBits (Big.val Big.M64 (r ++ [t])) (64 * r.length + b) := by
  rw [Big.val_snoc, M64_pow]
  have hr := Big.val_lt r or
  rw [M64_pow] at hr
  refine .inr ⟨by omega, ?_, ?_⟩
  · rw [show 64 * r.length + b - 1 = 64 * r.length + (b - 1) by omega, Nat.pow_add]
    have := Nat.mul_le_mul_left (2 ^ (64 * r.length)) h1
    omega
  · rw [Nat.pow_add]
    have := Nat.mul_le_mul_left (2 ^ (64 * r.length)) (show t + 1 ≤ 2 ^ b from h2)
    rw [Nat.mul_add] at this
    omega
theorem bits_any (w : World) (v : Value) (n : Nat) (h : NatIn w v n) (hn : n < Big.M64 ^ Big.KX) :
    Calls Tryz.prog 333 #[v] w fun e w' => ∃ s : Nat, e = .returned (.int .i64 (s : Int)) ∧ IsBits n s ∧ s ≤ 64000000000 ∧ w = w' := by
  obtain ⟨l, hw, ol, nl, rfl⟩ := h
  have hl := len_of_lt nl hn
  rw [Big.KX_eq] at hl
  obtain ⟨A, c, rfl, h1, h2, h3⟩ := hw
  by_cases hne : l = []
  · subst hne
    clear hn h3 nl ol
    go_enter Tryz.func333, Tryz.ntmps333
    go_wp2
    go_ret
    exact ⟨0, rfl, .inl ⟨rfl, rfl⟩, by omega, rfl⟩
  · obtain ⟨r, t, rfl, ht0⟩ := norm_last nl hne
    have hlr : (r ++ [t]).length = r.length + 1 := by simp
    obtain ⟨b, o, rfl, hlt, hc, -⟩ := h3 (by omega)
    have hcell := hc r.length (by omega)
    have ent : Big.nth (r ++ [t]) r.length = t := by unfold Big.nth; rw [List.getD_eq_getElem?_getD, List.getElem?_append_right (Nat.le_refl _)]; simp
    rw [ent] at hcell
    have htM : t < 18446744073709551616 := by rw [← Big.M64_eq]; exact ol t (by simp)
    obtain ⟨b1, b2, b3, b4⟩ := bitLen_bd t htM ht0
    have HS := Lib.hid (isBits_top (b := Lib.bitLen t) (fun d hd => ol d (by simp [hd]) : Big.Ok Big.M64 r) b3 b4 b1)
    have hc0 : (((r ++ [t]).length : Int) == 0) = false := beq_eq_false_iff_ne.2 (by omega)
    have CL := Lib.hid (lz_any t htM)
    rw [hlr] at h1 hl hc0 ⊢
    clear h3 hc hlr ent b3 b4 htM hne nl ol hn
    generalize Lib.bitLen t = bl at *
    generalize Big.val Big.M64 (r ++ [t]) = N at *
    generalize r.length = m at *
    have hc1 : ((m : Int) + 1 == 0) = false := beq_eq_false_iff_ne.2 (by omega)
    go_enter Tryz.func333, Tryz.ntmps333
    go_wp2_with (go_at_call 310; refine (CL.out _).mono ?_; rintro e w' ⟨rfl, rfl⟩)
    go_ret
    refine ⟨_, ?_, HS.out, by omega, rfl⟩
    apply ret_int
    omega
theorem shl_val {l Z : List Nat} {d r : Nat} (oZ : Big.Ok Big.M64 Z) (hZ : Z.length = l.length + 1) (hv : Big.val Big.M64 Z = Big.val Big.M64 l * 2 ^ r) :
    Big.Ok Big.M64 ((List.replicate (d + (l.length + 1)) 0).take d ++ (Z ++ (List.replicate (d + (l.length + 1)) 0).drop (d + (l.length + 1)))) ∧ Big.val Big.M64 ((List.replicate (d + (l.length + 1)) 0).take d ++ (Z ++ (List.replicate (d + (l.length + 1)) 0).drop (d + (l.length + 1)))) = Big.val Big.M64 l * 2 ^ (64 * d + r) ∧
    ((List.replicate (d + (l.length + 1)) 0).take d ++ (Z ++ (List.replicate (d + (l.length + 1)) 0).drop (d + (l.length + 1)))).length = d + (l.length + 1) := by
  rw [List.drop_eq_nil_of_le (by simp), List.append_nil, List.take_replicate, show min d (d + (l.length + 1)) = d by omega]
  refine ⟨Big.Ok.append (fun x hx => by rw [List.mem_replicate] at hx; rw [hx.2]; exact Big.M64_pos) oZ, ?_, by simp [hZ]⟩
  rw [Big.val_append, Big.val_replicate, List.length_replicate, hv, M64_pow, Nat.pow_add, Nat.zero_add, Nat.mul_left_comm]
theorem alloc_sz (w : World) (o : Obj) : (w.alloc o).heap.size = w.heap.size + 1 := by simp
set_option maxRecDepth 100000 in
theorem slice_from (g d n : Nat) (W : World) :
    (Instr.slice 121 (.slice (some ⟨g, 0, none⟩) (d + (n + 1)) (d + (n + 1))) (some (.int .i64 (d : Int))) none none).run Tryz.prog W = .ok (.slice (some ⟨g, d, none⟩) (n + 1) (n + 1)) W := by
  have e : Tryz.prog.elem 121 = 90 := by kernel_rfl
  have hs : (sizeOf 90).run Tryz.prog W = .ok 1 W := by kernel_rfl
  rw [run_slice_l (P := Tryz.prog) (w := W) 121 (some ⟨g, 0, none⟩) (d + (n + 1)) (d + (n + 1)) (by rw [e]; exact Tryz.underlying121) .i64 (d : Int) (by omega) (by omega), e, hs]
  show Result.ok _ W = _
  simp only [sliced, Int.toNat_natCast, Nat.mul_one]
  rw [if_neg (by omega), show d + (n + 1) - d = n + 1 by omega]
  congr 1
  simp [Addr.add]
  omega
theorem shl_fin {w : World} {g d n x : Nat} {R : List Nat} (hd : d ≤ 1000000000) (hl : n ≤ 1000000000) (hb : Blk w g 90 .u64 R) (h : Big.Ok Big.M64 R ∧ Big.val Big.M64 R = x ∧ R.length = d + (n + 1)) :
    ∃ R : List Nat, Wd w .u64 (.slice (some ⟨g, 0, none⟩) (d + (n + 1)) (d + (n + 1))) R ∧ Big.Ok Big.M64 R ∧ Big.val Big.M64 R = x := by
  obtain ⟨h1, h2, h3⟩ := h
  refine ⟨R, ?_, h1, h2⟩
  have := hb.wd0 (d + (n + 1)) (by omega) (by omega)
  rwa [h3] at this
set_option maxRecDepth 100000 in
set_option maxHeartbeats 2000000 in
theorem shl_words (w : World) (v : Value) (l : List Nat) (d r : Nat) (h : Wd w .u64 v l) (ol : Big.Ok Big.M64 l) (hl0 : l.length ≠ 0) (hr : r ≤ 63) (hd : d ≤ 1000000000) (h0 : 64 * d + r ≠ 0) (hl : l.length ≤ 1000000000) :
    Calls Tryz.prog 244 #[v, .int .i64 ((64 * d + r : Nat) : Int)] w fun e w' => ∃ v', e = .returned v' ∧ NatIn w' v' (Big.val Big.M64 l * 2 ^ (64 * d + r)) ∧ Below w.heap.size w w' := by
  obtain ⟨i0, hi, hz0, hz1, hz2⟩ := info_parts Tryz.infoU64
  have hmk := fun W => make_words (P := Tryz.prog) Tryz.underlying121 hi hz0 hz1 (by rw [hz2]; omega) .i64 .i64 (d + (l.length + 1)) (d + (l.length + 1)) (Nat.le_refl _) (by omega) W
  rw [show ((d + (l.length + 1) : Nat) : Int) = (d : Int) + (l.length : Int) + 1 by omega] at hmk
  have hu : (Tryz.prog.info? 90).map (·.size) = some 1 := by rw [hi]; simp [hz1]
  have hb0 : Blk (w.alloc (.cells (cellsOf .u64 (List.replicate (d + (l.length + 1)) 0)) 90)) w.heap.size 90 .u64 (List.replicate (d + (l.length + 1)) 0) := Blk.new _ _ _ _
  have hbel0 : Below w.heap.size w (w.alloc (.cells (cellsOf .u64 (List.replicate (d + (l.length + 1)) 0)) 90)) := (Below.refl _ _).alloc (Nat.le_refl _) _
  have hw0 : Wd (w.alloc (.cells (cellsOf .u64 (List.replicate (d + (l.length + 1)) 0)) 90)) .u64 v l := Wd.keep h hbel0
  have H0 := Lib.hid (And.intro hb0 (And.intro hbel0 hw0))
  have CS := Lib.hid (show ∀ W (hW : Wd W .u64 v l) (hs : W.heap.size = w.heap.size + 1), Calls Tryz.prog 311 #[v, .int .i64 (r : Int)] W fun e w' => e = .returned (.slice (some ⟨w.heap.size + 1, 0, none⟩) (l.length + 1) (l.length + 1)) ∧
      ∃ Z, Blk w' (w.heap.size + 1) 90 .u64 Z ∧ Z.length = l.length + 1 ∧ Big.Ok Big.M64 Z ∧ Big.val Big.M64 Z = Big.val Big.M64 l * 2 ^ r ∧ Below (w.heap.size + 1) W w' from fun W hW hs => by
    have h := shifted_any W v l r hW ol hr hl
    rw [hs] at h; exact h)
  have hsz : ((w.alloc (.cells (cellsOf .u64 (List.replicate (d + (l.length + 1)) 0)) 90)).drew).heap.size = w.heap.size + 1 := alloc_sz w _
  have HSZ := Lib.hid hsz
  have HV := Lib.hid (fun Z (o : Big.Ok Big.M64 Z) e1 e2 => shl_val (l := l) (d := d) (r := r) (Z := Z) o e1 e2)
  obtain ⟨n, hn⟩ : ∃ n : Int, ((64 * d + r : Nat) : Int) = n := ⟨_, rfl⟩
  have q1 : Int.tdiv n 64 = d := by subst hn; rw [Int.tdiv_eq_ediv_of_nonneg (Int.natCast_nonneg _)]; omega
  have q2 : Int.tmod n 64 = r := by subst hn; rw [Int.tmod_eq_emod_of_nonneg (Int.natCast_nonneg _)]; omega
  have q3 : (n ≤ 0) = False := by rw [eq_iff_iff, iff_false]; omega
  rw [hn]
  have hc0 : ((l.length : Int) == 0) = false := beq_eq_false_iff_ne.2 (by omega)
  obtain ⟨A, c, rfl, h1, h2, h3⟩ := h
  clear hb0 hbel0 hw0 h3 ol hn hsz
  have hcap : ¬ (d + (l.length + 1) = d) := by omega
  have hcap2 : d + (l.length + 1) - d = l.length + 1 := by omega
  have hw3 : (d : Int) ≤ (d : Int) + (l.length + 1 : Int) := by omega
  have hwr : IntKind.i64.wrap ((d : Nat) : Int) = (d : Int) := by rw [IntKind.wrap_i64]; omega
  go_enter Tryz.func244, Tryz.ntmps244
  go_wp2_with fail
  go_region_with (first
    | (go_at_call 311; (with_reducible refine (CS.out _ (H0.out.2.2.keep (Below.refl _ _).drew) HSZ.out).mono ?_); rintro e w2 ⟨rfl, Z, hB, hZ, oZ, vZ, hw2⟩; obtain ⟨w3, hcp, HC⟩ := copy_run w2 w.heap.size d (w.heap.size + 1) _ _ _ (Blk.below' (H0.out.1.drewN 1) hw2 (Nat.lt_succ_self _)) hB hZ (by simp) 3;
       have HF := Lib.hid (shl_fin hd hl HC.out.1 (HV.out Z oZ hZ vZ)); have HBel := Lib.hid (HC.out.2 _ _ ((H0.out.2.1.drew).trans (hw2.mono (Nat.le_succ _))) (Nat.le_refl _)); clear HC hB hZ oZ vZ hw2))
  all_goals
    go_wp2_with (go_at_call 229; (with_reducible refine (trim_any _ _ _ HF.out.choose_spec.1).mono ?_); rintro e w' ⟨v', rfl, hv', rfl⟩)
    go_ret
    exact ⟨v', rfl, ⟨_, hv', Big.strip_ok HF.out.choose_spec.2.1, Big.strip_norm _, by rw [Big.strip_val, HF.out.choose_spec.2.2]⟩, HBel.out⟩
theorem shl_any (w : World) (v : Value) (x : Nat) (n : Int) (h : NatIn w v x) (hx : x < Big.M64 ^ Big.KX) (hn : n ≤ 64000000000) :
    Calls Tryz.prog 244 #[v, .int .i64 n] w fun e w' => ∃ v', e = .returned v' ∧ NatIn w' v' (x * 2 ^ n.toNat) ∧ Below w.heap.size w w' := by
  have HN := h
  obtain ⟨l, h1, h2, h3, rfl⟩ := h
  have hl := len_of_lt h3 hx
  rw [Big.KX_eq] at hl
  by_cases l0 : l.length = 0
  · obtain rfl : l = [] := List.eq_nil_of_length_eq_zero l0
    have H := Lib.hid HN
    obtain ⟨A, c, rfl, -, -, -⟩ := h1
    simp only [Big.val, Nat.zero_mul]
    clear hx hn h2 h3 hl HN
    go_enter Tryz.func244, Tryz.ntmps244
    go_wp2
    go_ret
    exact ⟨_, rfl, H.out, Below.refl _ _⟩
  by_cases n0 : n ≤ 0
  · have H := Lib.hid HN
    obtain ⟨A, c, rfl, -, -, -⟩ := h1
    have t1 : ((l.length : Int) == 0) = false := beq_eq_false_iff_ne.2 (by omega)
    rw [show n.toNat = 0 by omega, Nat.pow_zero, Nat.mul_one]
    generalize Big.val Big.M64 l = X at *
    clear hx hn h2 h3 hl HN l0
    go_enter Tryz.func244, Tryz.ntmps244
    go_wp2
    go_ret
    exact ⟨_, rfl, H.out, Below.refl _ _⟩
  obtain ⟨N, rfl⟩ : ∃ N : Nat, n = N := ⟨n.toNat, by omega⟩
  rw [Int.toNat_natCast]
  have e : 64 * (N / 64) + N % 64 = N := Nat.div_add_mod N 64
  have C := shl_words w v l (N / 64) (N % 64) h1 h2 l0 (by omega) (by omega) (by omega) hl
  rw [e] at C
  exact C
theorem isBits_fn {n s t : Nat} (h : IsBits n s) (k : IsBits n t) : s = t := by
  rcases h with ⟨rfl, rfl⟩ | ⟨h1, h2, h3⟩ <;> rcases k with ⟨k0, rfl⟩ | ⟨k1, k2, k3⟩
  · rfl
  · have := Nat.pow_pos (n := t - 1) (show 0 < 2 by omega); omega
  · have := Nat.pow_pos (n := s - 1) (show 0 < 2 by omega); omega
  · rcases Nat.lt_trichotomy s t with h | h | h
    · have := Nat.pow_le_pow_right (show 0 < 2 by omega) (show s ≤ t - 1 by omega); omega
    · exact h
    · have := Nat.pow_le_pow_right (show 0 < 2 by omega) (show t ≤ s - 1 by omega); omega
end Go.Proofs.YtgcgmplepcfbaaaGreatDoor
