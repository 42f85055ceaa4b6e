/- Contracts. -/
import Derived.Test.YtfenjkgbedbleaaGreatDoorBKq08
import Derived.Deep.RegionHeld3
import Derived.Laws.IdiomStrings
import Derived.Lib.ItoaMem
namespace Go.Proofs.YtfenjkgbedbleaaGreatDoor
open Go.RowKit
theorem lift2 {P : Program} {f : FuncId} {args : Array Value} {b W : World} {r : Nat} (h : Below b.heap.size b W) (c : Calls P f args W (Nat1 W r)) : Calls P f args W (Nat2 b W r) :=
  c.mono fun _ _ ⟨v, h1, h2, h3⟩ => ⟨v, h1, h2, h.trans (h3.mono h.size), h3⟩
set_option maxRecDepth 100000 in
set_option maxHeartbeats 4000000 in
theorem exAdd_any (w : World) (vx vy : Value) (q r : Rat) (k : Nat) (hx : NumIn w vx q) (hy : NumIn w vy r) (sx : Sm k q) (sy : Sm k r) (hk : k ≤ 10000000) :
    Calls Tryz.prog 26 #[vx, vy] w (Num1 w (q + r)) := by
  obtain ⟨A, l, c, A2, l2, c2, rfl, hx1, hx2⟩ := hx.is_agg
  obtain ⟨B, m, d, B2, m2, d2, rfl, hy1, hy2⟩ := hy.is_agg
  have HX := Lib.hid (And.intro hx1 hx2); have HY := Lib.hid (And.intro hy1 hy2)
  have SX := Lib.hid sx; have SY := Lib.hid sy
  have PP := Lib.hid (Big.add_parts q r _ _ _ _ rfl rfl rfl rfl)
  have GX := Lib.hid (And.intro (@Big.ng_pos q) (And.intro (@Big.ng_pos r) (And.intro (Big.de_pos q) (Big.de_pos r))))
  clear hx hy hx1 hx2 hy1 hy2 sx sy
  generalize Big.ng q = nq at *
  generalize Big.ng r = nr at *
  go_enter Tryz.func26, Tryz.ntmps26
  go_wp2_with fail
  obtain ⟨X0, Y0, R0, B0⟩ := boxed3 w 42 42 (.bool nq) (.slice A l c) (.slice A2 l2 c2) (.bool nr) (.slice B m d) (.slice B2 m2 d2) (.bool false) (.slice none 0 0) (.slice none 0 0)
  have HX0 := Lib.hid X0; have HY0 := Lib.hid Y0; have HR0 := Lib.hid R0; have HB0 := Lib.hid B0
  clear X0 Y0 R0 B0
  generalize ((w.alloc (.cells #[.bool nq, .slice A l c, .slice A2 l2 c2] 42)).alloc (.cells #[.bool nr, .slice B m d, .slice B2 m2 d2] 42)).alloc (.cells #[.bool false, .slice none 0 0, .slice none 0 0] 42) = w0 at *
  have G0 := Lib.hid (gcd_num w0 _ _ _ _ k k (HX.out.2.keep HB0.out) (HY.out.2.keep HB0.out) SX.out.de SY.out.de (by omega) (by omega))
  obtain ⟨s, hs⟩ : ∃ s, Nat.gcd (Big.de q) (Big.de r) = s := ⟨_, rfl⟩
  rw [hs] at PP G0
  have hs1 : 1 ≤ s := by rw [← hs]; exact Big.gcd_pos_right GX.out.2.2.2
  have hsq : s ∣ Big.de q := by rw [← hs]; exact Nat.gcd_dvd_left _ _
  have hsr : s ∣ Big.de r := by rw [← hs]; exact Nat.gcd_dvd_right _ _
  have hR1 : 1 ≤ Big.de r / s := Nat.div_pos (Nat.le_of_dvd GX.out.2.2.2 hsr) hs1
  have hL1 : 1 ≤ Big.de q / s := Nat.div_pos (Nat.le_of_dvd GX.out.2.2.1 hsq) hs1
  have SS := Lib.hid (SX.out.de.le (Nat.le_of_dvd GX.out.2.2.1 hsq))
  have SL := Lib.hid (SX.out.de.le (Nat.div_le_self (Big.de q) s)); have SR := Lib.hid (SY.out.de.le (Nat.div_le_self (Big.de r) s))
  have CL := Lib.hid (fun W v (h : NatIn W (.slice A2 l2 c2) (Big.de q)) (i : NatIn W v s) => quo_num W _ _ _ _ k h i SX.out.de (by omega))
  have CR := Lib.hid (fun W v (h : NatIn W (.slice B2 m2 d2) (Big.de r)) (i : NatIn W v s) => quo_num W _ _ _ _ k h i SY.out.de (by omega))
  obtain ⟨L, hL⟩ : ∃ L, Big.de q / s = L := ⟨_, rfl⟩
  obtain ⟨R, hR⟩ : ∃ R, Big.de r / s = R := ⟨_, rfl⟩
  rw [hL] at PP CL SL hL1; rw [hR] at PP CR SR hR1
  clear hs hs1 hsq hsr hL hR
  refine G0.out.mono ?_
  rintro e w1 ⟨v1, rfl, hv1, hb1⟩
  have HV1 := Lib.hid hv1; have HB1 := Lib.hid (HB0.out.trans (hb1.mono HB0.out.size))
  have HX1 := Lib.hid (HX0.out.keep hb1); have HY1 := Lib.hid (HY0.out.keep hb1); have HR1 := Lib.hid (HR0.out.keep hb1)
  clear hv1 hb1 HX0 HY0 HR0 HB0
  have KX := Lib.hid (fun W (h : Below w1.heap.size w1 W) => And.intro (HX1.out.keep h).c2 (HY1.out.keep h).c2)
  have CQ1 := Lib.hid (fun W (h : Below w1.heap.size w1 W) => lift2 h (CL.out W v1 ((HX.out.2.keep HB1.out).keep h) (HV1.out.keep h)))
  have CQ2 := Lib.hid (fun W (h : Below w1.heap.size w1 W) => lift2 h (CR.out W v1 ((HY.out.2.keep HB1.out).keep h) (HV1.out.keep h)))
  go_wp2_with fail
  go_region_held3 (fun w' => w'.cell? ⟨w.heap.size, 2, none⟩ = some (.slice A2 l2 c2) ∧ w'.cell? ⟨w.heap.size + 1, 2, none⟩ = some (.slice B2 m2 d2))
    (exact KX.out _ (by first | assumption | exact Below.refl _ _ | exact below_drew (Below.refl _ _) | exact below_drew (by assumption)))
    (first
      | (go_at_call 30; (with_reducible refine (CQ1.out _ (by first | assumption | exact Below.refl _ _ | exact below_drew (Below.refl _ _) | exact below_drew (by assumption))).mono ?_); rintro e w2 ⟨v2, rfl, hv2, hw2, hw2'⟩)
      | (go_at_call 30; (with_reducible refine (CQ2.out _ (by first | assumption | exact Below.refl _ _ | exact below_drew (Below.refl _ _) | exact below_drew (by assumption))).mono ?_); rintro e w3 ⟨v3, rfl, hv3, hw3, hw3'⟩)
      | fail)
  have HB3 := Lib.hid (HB1.out.trans (hw3.mono HB1.out.size))
  have HX3 := Lib.hid (HX1.out.keep hw3); have HY3 := Lib.hid (HY1.out.keep hw3); have HR3 := Lib.hid (HR1.out.keep hw3)
  have HV := Lib.hid (And.intro (HV1.out.keep hw3) (And.intro (hv2.keep hw3') hv3))
  clear hv2 hw2 hw2' hv3 hw3 hw3' HX1 HY1 HR1 HB1 HV1 KX CQ1 CQ2 CL
  have KX := Lib.hid (fun W (h : Below w3.heap.size w3 W) => And.intro (HX3.out.keep h).c0 (And.intro (HX3.out.keep h).c1 (And.intro (HY3.out.keep h).c0 (HY3.out.keep h).c1)))
  have CM1 := Lib.hid (fun W (h : Below w3.heap.size w3 W) => lift2 h (mul_num W _ _ _ _ k k ((HX.out.1.keep HB3.out).keep h) (HV.out.2.2.keep h) SX.out.nu SR.out (by omega) (by omega)))
  have CM2 := Lib.hid (fun W (h : Below w3.heap.size w3 W) => lift2 h (mul_num W _ _ _ _ k k ((HY.out.1.keep HB3.out).keep h) (HV.out.2.1.keep h) SY.out.nu SL.out (by omega) (by omega)))
  have CS := Lib.hid (fun W a b (ha : NatIn W a (Big.nu q * R)) (hb : NatIn W b (Big.nu r * L)) (h : Below w3.heap.size w3 W) => liftS h (exsum_any W nq nr a b _ _ _ _ ha hb (SX.out.nu.mul SR.out) (SY.out.nu.mul SL.out) (by omega) (by omega) (fun e => Nat.mul_pos (GX.out.1 e) hR1) (fun e => Nat.mul_pos (GX.out.2.1 e) hL1)))
  have SSm := Lib.hid (((SX.out.nu.mul SR.out).add (SY.out.nu.mul SL.out)).le (abs_sum_le nq nr _ _))
  generalize Big.sI nq (Big.nu q * R) + Big.sI nr (Big.nu r * L) = S at *
  go_wp2_with fail
  go_region_held3 (fun w' => w'.cell? ⟨w.heap.size, 0, none⟩ = some (.bool nq) ∧ w'.cell? ⟨w.heap.size, 1, none⟩ = some (.slice A l c) ∧ w'.cell? ⟨w.heap.size + 1, 0, none⟩ = some (.bool nr) ∧ w'.cell? ⟨w.heap.size + 1, 1, none⟩ = some (.slice B m d))
    (exact KX.out _ (by first | assumption | exact Below.refl _ _ | exact below_drew (Below.refl _ _) | exact below_drew (by assumption)))
    (first
      | (go_at_call 45; (with_reducible refine (CM1.out _ (by first | assumption | exact Below.refl _ _ | exact below_drew (Below.refl _ _) | exact below_drew (by assumption))).mono ?_); rintro e w4 ⟨v4, rfl, hv4, hw4, hw4'⟩)
      | (go_at_call 45; (with_reducible refine (CM2.out _ (by first | assumption | exact Below.refl _ _ | exact below_drew (Below.refl _ _) | exact below_drew (by assumption))).mono ?_); rintro e w5 ⟨v5, rfl, hv5, hw5, hw5'⟩)
      | (go_at_call 46; (with_reducible refine (CS.out _ _ _ (by first | exact hv4.keep hw5' | exact NatIn.dr (hv4.keep hw5')) (by first | exact hv5 | exact NatIn.dr (hv5)) (by first | assumption | exact Below.refl _ _ | exact below_drew (Below.refl _ _) | exact below_drew (by assumption))).mono ?_); rintro e w6 ⟨v6, rfl, hv6, hw6, hw6'⟩)
      | fail)
  have HB6 := Lib.hid (HB3.out.trans (hw6.mono HB3.out.size))
  have HY6 := Lib.hid (HY3.out.keep hw6); have HR6 := Lib.hid (HR3.out.keep hw6)
  have HV6 := Lib.hid (And.intro (HV.out.1.keep hw6) (And.intro (HV.out.2.1.keep hw6) hv6))
  clear hv4 hw4 hw4' hv5 hw5 hw5' hv6 hw6 hw6' HX3 HY3 HR3 HB3 HV KX CM1 CM2 CS
  clear HX CR hL1 hR1
  have G6 := Lib.hid (gcd_num w6 _ _ _ _ _ k HV6.out.2.2 HV6.out.1 SSm.out SS.out (by omega) (by omega))
  obtain ⟨cm, hc⟩ : ∃ z, Nat.gcd S.natAbs s = z := ⟨_, rfl⟩
  rw [hc] at PP G6
  clear hc
  go_wp2_with fail
  refine G6.out.mono ?_
  rintro e w7 ⟨v7, rfl, hv7, hw7⟩
  have HB7 := Lib.hid (HB6.out.trans (hw7.mono HB6.out.size))
  have HY7 := Lib.hid (HY6.out.keep hw7); have HR7 := Lib.hid (HR6.out.keep hw7)
  have HV7 := Lib.hid (And.intro (HV6.out.2.1.keep hw7) (And.intro (HV6.out.2.2.keep hw7) hv7))
  clear hv7 hw7 HB6 HY6 HR6 HV6 G6
  have KX := Lib.hid (fun W (h : Below w7.heap.size w7 W) => (HY7.out.keep h).c2)
  have CQ1 := Lib.hid (fun W (h : Below w7.heap.size w7 W) => lift2 h (quo_num W _ _ _ _ _ (HV7.out.2.1.keep h) (HV7.out.2.2.keep h) SSm.out (by omega)))
  have CQ2 := Lib.hid (fun W (h : Below w7.heap.size w7 W) => lift2 h (quo_num W _ _ _ _ k ((HY.out.2.keep HB7.out).keep h) (HV7.out.2.2.keep h) SY.out.de (by omega)))
  have CM := Lib.hid (fun W a (ha : NatIn W a (Big.de r / cm)) (h : Below w7.heap.size w7 W) => lift2 h (mul_num W _ _ _ _ k k (HV7.out.1.keep h) ha SL.out (SY.out.de.le (Nat.div_le_self _ _)) (by omega) (by omega)))
  have KP := Lib.hid (fun W x y z (h : Below w7.heap.size w7 W) => put_cell (KX.out W h) (show w.heap.size + 1 ≠ w.heap.size + 1 + 1 by omega) x y z)
  have RES := Lib.hid (fun W (h : Below w7.heap.size w7 W) => HR7.out.keep h)
  go_wp2_with fail
  go_region_held3 (fun w' => w'.cell? ⟨w.heap.size + 1, 2, none⟩ = some (.slice B2 m2 d2))
    (first | exact KX.out _ (by first | assumption | exact Below.refl _ _ | exact below_drew (Below.refl _ _) | exact below_drew (by assumption)) | exact KP.out _ _ _ _ (by assumption))
    (first
      | (go_at_call 30; (with_reducible refine (CQ1.out _ (by first | assumption | exact Below.refl _ _ | exact below_drew (Below.refl _ _) | exact below_drew (by assumption))).mono ?_); rintro e w8 ⟨v8, rfl, hv8, hw8, hw8'⟩)
      | (go_at_call 30; (with_reducible refine (CQ2.out _ (by first | assumption | exact Below.refl _ _ | exact below_drew (Below.refl _ _) | exact below_drew (by assumption))).mono ?_); rintro e w9 ⟨v9, rfl, hv9, hw9, hw9'⟩)
      | (go_at_call 45; (with_reducible refine (CM.out _ _ (by first | exact hv9 | exact NatIn.dr (hv9)) (by first | assumption | exact Below.refl _ _ | exact below_drew (Below.refl _ _) | exact below_drew (by assumption))).mono ?_); rintro e w10 ⟨v10, rfl, hv10, hw10, hw10'⟩; have RR := RES.out _ hw10; have k0 := RR.c0; have k1 := RR.c1; have k2 := RR.c2; have f0 := RR.frozen 0; have f1 := RR.frozen 1; have f2 := RR.frozen 2; obtain ⟨A8, l8, c8, rfl, hl8⟩ := hv8.is_slice; obtain ⟨A10, l10, c10, rfl, hl10⟩ := hv10.is_slice)
      | fail)
  have h8 := (hv8.keep hw9').keep hw10'
  rw [← PP.out.2.1] at h8
  rw [← PP.out.2.2] at hv10
  obtain ⟨D1, D2, D3⟩ := num_done (show NumRes w10 _ _ from RR) (HB7.out.trans (hw10.mono HB7.out.size)) (by omega) h8 hv10 PP.out.1.symm
  have HD1 := Lib.hid D1; have HD2 := Lib.hid D2; have HD3 := Lib.hid D3
  clear D1 D2 D3 k0 k1 k2 f0 f1 f2 RR h8
  generalize (((w10.setCell ⟨w.heap.size + 1 + 1, 0, none⟩ (.bool (decide (S < 0)))).setCell ⟨w.heap.size + 1 + 1, 1, none⟩ (.slice A8 l8 c8)).setCell ⟨w.heap.size + 1 + 1, 2, none⟩ (.slice A10 l10 c10)) = wz at HD1 HD2 HD3 ⊢
  have r0 := HD1.out.c0; have r1 := HD1.out.c1; have r2 := HD1.out.c2
  go_wp2_with fail
  exact bodyPost_ret (v := .agg #[.bool (decide (S < 0)), .slice A8 l8 c8, .slice A10 l10 c10]) (by simp [results, Tryz.results26, go_sem, r0, r1, r2]) rfl ⟨_, rfl, HD2.out, HD3.out⟩
def sgQ (q : Rat) : Int := if Big.ng q = true then -1 else if Big.nu q = 0 then 0 else 1
theorem box1_below (w : World) (o : Obj) : Below w.heap.size w (w.alloc o) := below_alloc (Below.refl _ _) (Nat.le_refl _) o
theorem exNum_any (w : World) (vx : Value) (q : Rat) (hx : NumIn w vx q) :
    Calls Tryz.prog 16 #[vx] w (Nat1 w (Big.nu q)) := by
  obtain ⟨A, l, c, A2, l2, c2, rfl, hx1, hx2⟩ := hx.is_agg
  have HX := Lib.hid (And.intro hx1 hx2)
  have HB := Lib.hid (box1_below w (.cells #[.bool (Big.ng q), .slice A l c, .slice A2 l2 c2] 42))
  have HQ := Lib.hid (HX.out.1.keep HB.out)
  clear hx hx1 hx2 HX
  go_enter Tryz.func16, Tryz.ntmps16
  go_wp2_with fail
  go_ret
  exact ⟨_, rfl, HQ.out, HB.out⟩
theorem exDen_any (w : World) (vx : Value) (q : Rat) (hx : NumIn w vx q) :
    Calls Tryz.prog 20 #[vx] w (Nat1 w (Big.de q)) := by
  obtain ⟨A, l, c, A2, l2, c2, rfl, hx1, hx2⟩ := hx.is_agg
  have HX := Lib.hid (And.intro hx1 hx2)
  have HB := Lib.hid (box1_below w (.cells #[.bool (Big.ng q), .slice A l c, .slice A2 l2 c2] 42))
  have HQ := Lib.hid (HX.out.2.keep HB.out)
  clear hx hx1 hx2 HX
  go_enter Tryz.func20, Tryz.ntmps20
  go_wp2_with fail
  go_ret
  exact ⟨_, rfl, HQ.out, HB.out⟩
theorem exIsWhole_any (w : World) (vx : Value) (q : Rat) (hx : NumIn w vx q) :
    Calls Tryz.prog 19 #[vx] w fun e w' => e = .returned (.bool (decide (Big.de q = 1))) ∧ Below w.heap.size w w' := by
  obtain ⟨A, l, c, A2, l2, c2, rfl, hx1, hx2⟩ := hx.is_agg
  have HX := Lib.hid (And.intro hx1 hx2)
  have HB := Lib.hid (box1_below w (.cells #[.bool (Big.ng q), .slice A l c, .slice A2 l2 c2] 42))
  have C := Lib.hid (isOne_num _ _ _ (HX.out.2.keep HB.out))
  clear hx hx1 hx2 HX
  go_enter Tryz.func19, Tryz.ntmps19
  go_wp2_with fail
  refine C.out.mono ?_
  rintro e w' ⟨rfl, rfl⟩
  go_wp2_with fail
  go_ret
  exact ⟨rfl, HB.out⟩
theorem exSign_any (w : World) (vx : Value) (q : Rat) (hx : NumIn w vx q) :
    Calls Tryz.prog 18 #[vx] w fun e w' => e = .returned (.int .i64 (sgQ q)) ∧ Below w.heap.size w w' := by
  obtain ⟨A, l, c, A2, l2, c2, rfl, hx1, hx2⟩ := hx.is_agg
  have HX := Lib.hid (And.intro hx1 hx2)
  have HB := Lib.hid (box1_below w (.cells #[.bool (Big.ng q), .slice A l c, .slice A2 l2 c2] 42))
  have hl := hx1.len_zero
  have HS := Lib.hid (show sgQ q = if Big.ng q = true then -1 else if l = 0 then 0 else 1 by unfold sgQ; simp only [hl])
  clear hx hx1 hx2 hl HX
  generalize sgQ q = z at *
  generalize Big.ng q = nq at *
  cases nq
  · rcases Nat.eq_zero_or_pos l with hl0 | hl0
    · subst hl0
      go_enter Tryz.func18, Tryz.ntmps18
      go_wp2_with fail
      go_ret
      exact ⟨ret_int HS.out.symm, HB.out⟩
    · have t : ((l : Int) == 0) = false := beq_eq_false_iff_ne.2 (by omega)
      rw [if_neg (by simp), if_neg (by omega)] at HS
      go_enter Tryz.func18, Tryz.ntmps18
      go_wp2_with fail
      go_ret
      exact ⟨ret_int HS.out.symm, HB.out⟩
  · go_enter Tryz.func18, Tryz.ntmps18
    go_wp2_with fail
    go_ret
    exact ⟨ret_int HS.out.symm, HB.out⟩
theorem cmpT {P : Program} {f : FuncId} {args : Array Value} {b W : World} {v : Value} (h : Below b.heap.size b W) (c : Calls P f args W fun e w' => e = .returned v ∧ Drew W w') :
    Calls P f args W fun e w' => e = .returned v ∧ Below b.heap.size b w' :=
  c.mono fun _ _ ⟨h1, h2⟩ => ⟨h1, h.trans (h2.below _)⟩
set_option maxRecDepth 100000 in
set_option maxHeartbeats 4000000 in
theorem exCmp_any (w : World) (vx vy : Value) (q r : Rat) (k : Nat) (hx : NumIn w vx q) (hy : NumIn w vy r) (sx : Sm k q) (sy : Sm k r) (hk : k ≤ 10000000) :
    Calls Tryz.prog 23 #[vx, vy] w fun e w' => e = .returned (.int .i64 (Big.cmpQ q r)) ∧ Below w.heap.size w w' := by
  obtain ⟨A, l, c, A2, l2, c2, rfl, hx1, hx2⟩ := hx.is_agg
  obtain ⟨B, m, d, B2, m2, d2, rfl, hy1, hy2⟩ := hy.is_agg
  have HX := Lib.hid (And.intro hx1 hx2); have HY := Lib.hid (And.intro hy1 hy2)
  have SX := Lib.hid sx; have SY := Lib.hid sy
  have GX := Lib.hid (And.intro (@Big.ng_pos q) (And.intro (@Big.ng_pos r) (And.intro (Big.de_pos q) (Big.de_pos r))))
  have H1 := Lib.hid (@Big.cmpQ_neg_pos q r); have H2 := Lib.hid (@Big.cmpQ_pos_neg q r); have H3 := Lib.hid (@Big.cmpQ_pos q r); have H4 := Lib.hid (@Big.cmpQ_neg q r)
  have hcb : -1 ≤ Big.cmpI (Big.nu q * Big.de r) (Big.nu r * Big.de q) ∧ Big.cmpI (Big.nu q * Big.de r) (Big.nu r * Big.de q) ≤ 1 := by
    unfold Big.cmpI; split
    · omega
    · split <;> omega
  clear hx hy hx1 hx2 hy1 hy2 sx sy GX
  generalize Big.ng q = nq at *
  generalize Big.ng r = nr at *
  generalize Big.cmpQ q r = z at *
  have X0 := At3.new w 42 (.bool nq) (.slice A l c) (.slice A2 l2 c2)
  have HB0 := Lib.hid (below_alloc (below_alloc (Below.refl w.heap.size w) (Nat.le_refl _) (.cells #[.bool nq, .slice A l c, .slice A2 l2 c2] 42)) (Nat.le_refl _) (.cells #[.bool nr, .slice B m d, .slice B2 m2 d2] 42))
  have HX0 := Lib.hid (X0.alloc' (.cells #[.bool nr, .slice B m d, .slice B2 m2 d2] 42))
  have Y0 := At3.new (w.alloc (.cells #[.bool nq, .slice A l c, .slice A2 l2 c2] 42)) 42 (.bool nr) (.slice B m d) (.slice B2 m2 d2)
  rw [alloc_size] at Y0
  have HY0 := Lib.hid Y0
  clear X0 Y0
  cases nq
  · cases nr
    · have HZ := Lib.hid (H3.out rfl rfl)
      clear H1 H2 H3 H4
      go_enter Tryz.func23, Tryz.ntmps23
      go_wp2_with fail
      generalize (w.alloc (.cells #[.bool false, .slice A l c, .slice A2 l2 c2] 42)).alloc (.cells #[.bool false, .slice B m d, .slice B2 m2 d2] 42) = w0 at *
      have KX := Lib.hid (fun W (h : Below w0.heap.size w0 W) => And.intro (HX0.out.keep h).c1 (And.intro (HX0.out.keep h).c2 (And.intro (HY0.out.keep h).c1 (HY0.out.keep h).c2)))
      have C1 := Lib.hid (fun W (h : Below w0.heap.size w0 W) => lift2 h (mul_num W _ _ _ _ k k ((HX.out.1.keep HB0.out).keep h) ((HY.out.2.keep HB0.out).keep h) SX.out.nu SY.out.de (by omega) (by omega)))
      have C2 := Lib.hid (fun W (h : Below w0.heap.size w0 W) => lift2 h (mul_num W _ _ _ _ k k ((HY.out.1.keep HB0.out).keep h) ((HX.out.2.keep HB0.out).keep h) SY.out.nu SX.out.de (by omega) (by omega)))
      have C3 := Lib.hid (fun W a b (ha : NatIn W a (Big.nu q * Big.de r)) (hb : NatIn W b (Big.nu r * Big.de q)) (h : Below w0.heap.size w0 W) => cmpT h (cmp_num W a b _ _ ha hb))
      generalize Big.cmpI (Big.nu q * Big.de r) (Big.nu r * Big.de q) = far at *
      obtain ⟨hc1, hc2⟩ := hcb
      go_region_held3 (fun w' => w'.cell? ⟨w.heap.size, 1, none⟩ = some (.slice A l c) ∧ w'.cell? ⟨w.heap.size, 2, none⟩ = some (.slice A2 l2 c2) ∧ w'.cell? ⟨w.heap.size + 1, 1, none⟩ = some (.slice B m d) ∧ w'.cell? ⟨w.heap.size + 1, 2, none⟩ = some (.slice B2 m2 d2))
        (exact KX.out _ (by first | assumption | exact Below.refl _ _ | exact below_drew (Below.refl _ _) | exact below_drew (by assumption)))
        (first
          | (go_at_call 45; (with_reducible refine (C1.out _ (by first | assumption | exact Below.refl _ _ | exact below_drew (Below.refl _ _) | exact below_drew (by assumption))).mono ?_); rintro e w2 ⟨v2, rfl, hv2, hw2, hw2'⟩)
          | (go_at_call 45; (with_reducible refine (C2.out _ (by first | assumption | exact Below.refl _ _ | exact below_drew (Below.refl _ _) | exact below_drew (by assumption))).mono ?_); rintro e w3 ⟨v3, rfl, hv3, hw3, hw3'⟩)
          | (go_at_call 42; (with_reducible refine (C3.out _ _ _ (by first | exact hv2.keep hw3' | exact NatIn.dr (hv2.keep hw3')) (by first | exact hv3 | exact NatIn.dr (hv3)) (by first | assumption | exact Below.refl _ _ | exact below_drew (Below.refl _ _) | exact below_drew (by assumption))).mono ?_); rintro e w4 ⟨rfl, hw4⟩)
          | fail)
      have X4 := HX0.out.keep hw4
      have x0 := X4.c0
      have HB4 := Lib.hid (HB0.out.trans (hw4.mono HB0.out.size))
      clear hv2 hv3 hw2 hw3 hw2' hw3' hw4 X4
      go_wp2_with fail
      go_ret
      exact ⟨ret_int HZ.out.symm, HB4.out⟩
    · have HZ := Lib.hid (H2.out rfl rfl)
      clear H1 H2 H3 H4
      have X4 := HX0.out
      have x0 := X4.c0
      clear X4
      go_enter Tryz.func23, Tryz.ntmps23
      go_wp2_with fail
      go_ret
      exact ⟨ret_int HZ.out.symm, HB0.out⟩
  · cases nr
    · have HZ := Lib.hid (H1.out rfl rfl)
      clear H1 H2 H3 H4
      have X4 := HX0.out
      have x0 := X4.c0
      clear X4
      go_enter Tryz.func23, Tryz.ntmps23
      go_wp2_with fail
      go_ret
      exact ⟨ret_int HZ.out.symm, HB0.out⟩
    · have HZ := Lib.hid (H4.out rfl rfl)
      clear H1 H2 H3 H4
      go_enter Tryz.func23, Tryz.ntmps23
      go_wp2_with fail
      generalize (w.alloc (.cells #[.bool true, .slice A l c, .slice A2 l2 c2] 42)).alloc (.cells #[.bool true, .slice B m d, .slice B2 m2 d2] 42) = w0 at *
      have KX := Lib.hid (fun W (h : Below w0.heap.size w0 W) => And.intro (HX0.out.keep h).c1 (And.intro (HX0.out.keep h).c2 (And.intro (HY0.out.keep h).c1 (HY0.out.keep h).c2)))
      have C1 := Lib.hid (fun W (h : Below w0.heap.size w0 W) => lift2 h (mul_num W _ _ _ _ k k ((HX.out.1.keep HB0.out).keep h) ((HY.out.2.keep HB0.out).keep h) SX.out.nu SY.out.de (by omega) (by omega)))
      have C2 := Lib.hid (fun W (h : Below w0.heap.size w0 W) => lift2 h (mul_num W _ _ _ _ k k ((HY.out.1.keep HB0.out).keep h) ((HX.out.2.keep HB0.out).keep h) SY.out.nu SX.out.de (by omega) (by omega)))
      have C3 := Lib.hid (fun W a b (ha : NatIn W a (Big.nu q * Big.de r)) (hb : NatIn W b (Big.nu r * Big.de q)) (h : Below w0.heap.size w0 W) => cmpT h (cmp_num W a b _ _ ha hb))
      generalize Big.cmpI (Big.nu q * Big.de r) (Big.nu r * Big.de q) = far at *
      obtain ⟨hc1, hc2⟩ := hcb
      go_region_held3 (fun w' => w'.cell? ⟨w.heap.size, 1, none⟩ = some (.slice A l c) ∧ w'.cell? ⟨w.heap.size, 2, none⟩ = some (.slice A2 l2 c2) ∧ w'.cell? ⟨w.heap.size + 1, 1, none⟩ = some (.slice B m d) ∧ w'.cell? ⟨w.heap.size + 1, 2, none⟩ = some (.slice B2 m2 d2))
        (exact KX.out _ (by first | assumption | exact Below.refl _ _ | exact below_drew (Below.refl _ _) | exact below_drew (by assumption)))
        (first
          | (go_at_call 45; (with_reducible refine (C1.out _ (by first | assumption | exact Below.refl _ _ | exact below_drew (Below.refl _ _) | exact below_drew (by assumption))).mono ?_); rintro e w2 ⟨v2, rfl, hv2, hw2, hw2'⟩)
          | (go_at_call 45; (with_reducible refine (C2.out _ (by first | assumption | exact Below.refl _ _ | exact below_drew (Below.refl _ _) | exact below_drew (by assumption))).mono ?_); rintro e w3 ⟨v3, rfl, hv3, hw3, hw3'⟩)
          | (go_at_call 42; (with_reducible refine (C3.out _ _ _ (by first | exact hv2.keep hw3' | exact NatIn.dr (hv2.keep hw3')) (by first | exact hv3 | exact NatIn.dr (hv3)) (by first | assumption | exact Below.refl _ _ | exact below_drew (Below.refl _ _) | exact below_drew (by assumption))).mono ?_); rintro e w4 ⟨rfl, hw4⟩)
          | fail)
      have X4 := HX0.out.keep hw4
      have x0 := X4.c0
      have HB4 := Lib.hid (HB0.out.trans (hw4.mono HB0.out.size))
      clear hv2 hv3 hw2 hw3 hw2' hw3' hw4 X4
      go_wp2_with fail
      go_ret
      exact ⟨ret_int HZ.out.symm, HB4.out⟩
theorem sizeT {P : Program} {f : FuncId} {args : Array Value} {b W : World} {v : Value} (h : Below b.heap.size b W) (c : Calls P f args W fun e w' => e = .returned v ∧ W = w') :
    Calls P f args W fun e w' => e = .returned v ∧ Below b.heap.size b w' :=
  c.mono fun _ _ ⟨h1, h2⟩ => ⟨h1, h2 ▸ h⟩
set_option maxRecDepth 100000 in
set_option maxHeartbeats 4000000 in
theorem exSize_any (w : World) (vx : Value) (q : Rat) (k : Nat) (hx : NumIn w vx q) (sx : Sm k q) (hk : k ≤ 10000000) :
    Calls Tryz.prog 47 #[vx] w fun e w' => e = .returned (.int .i64 ((max (szN (Big.nu q)) (szN (Big.de q)) : Nat) : Int)) ∧ Below w.heap.size w w' := by
  obtain ⟨A, l, c, A2, l2, c2, rfl, hx1, hx2⟩ := hx.is_agg
  have HX := Lib.hid (And.intro hx1 hx2)
  have SX := Lib.hid sx
  have HB0 := Lib.hid (box1_below w (.cells #[.bool (Big.ng q), .slice A l c, .slice A2 l2 c2] 42))
  have HX0 := Lib.hid (At3.new w 42 (.bool (Big.ng q)) (.slice A l c) (.slice A2 l2 c2))
  clear hx hx1 hx2 sx
  generalize Big.ng q = nq at *
  go_enter Tryz.func47, Tryz.ntmps47
  go_wp2_with fail
  generalize w.alloc (.cells #[.bool nq, .slice A l c, .slice A2 l2 c2] 42) = w0 at *
  have KX := Lib.hid (fun W (h : Below w0.heap.size w0 W) => And.intro (HX0.out.keep h).c1 (HX0.out.keep h).c2)
  have C1 := Lib.hid (fun W (h : Below w0.heap.size w0 W) => sizeT h (size_num W _ _ k ((HX.out.1.keep HB0.out).keep h) SX.out.nu (by omega)))
  have C2 := Lib.hid (fun W (h : Below w0.heap.size w0 W) => sizeT h (size_num W _ _ k ((HX.out.2.keep HB0.out).keep h) SX.out.de (by omega)))
  go_region_held3 (fun w' => w'.cell? ⟨w.heap.size, 1, none⟩ = some (.slice A l c) ∧ w'.cell? ⟨w.heap.size, 2, none⟩ = some (.slice A2 l2 c2))
    (exact KX.out _ (by first | assumption | exact Below.refl _ _ | exact below_drew (Below.refl _ _) | exact below_drew (by assumption)))
    (first
      | (go_at_call 73; (with_reducible refine (C1.out _ (by first | assumption | exact Below.refl _ _ | exact below_drew (Below.refl _ _) | exact below_drew (by assumption))).mono ?_); rintro e w2 ⟨rfl, hw2⟩)
      | (go_at_call 73; (with_reducible refine (C2.out _ (by first | assumption | exact Below.refl _ _ | exact below_drew (Below.refl _ _) | exact below_drew (by assumption))).mono ?_); rintro e w3 ⟨rfl, hw3⟩)
      | fail)
  have HB3 := Lib.hid (HB0.out.trans (hw3.mono HB0.out.size))
  go_wp2_with fail
  go_ret
  refine ⟨?_, HB3.out⟩
  apply ret_int
  generalize szN (Big.nu q) = s1; generalize szN (Big.de q) = s2; omega
def Frac1 (w : World) (v : Value) (b : Bool) (e : Ending) (w' : World) : Prop := e = .returned (.tuple #[v, .bool b]) ∧ Below w.heap.size w w'
theorem bytesT {P : Program} {f : FuncId} {args : Array Value} {b W : World} {v : Value} (h : Below b.heap.size b W) (c : Calls P f args W fun e w' => e = .returned v ∧ Below W.heap.size W w') :
    Calls P f args W fun e w' => e = .returned v ∧ Below b.heap.size b w' :=
  c.mono fun _ _ ⟨h1, h2⟩ => ⟨h1, h.trans (h2.mono h.size)⟩
set_option maxRecDepth 100000 in
set_option maxHeartbeats 4000000 in
theorem exFrac_fit (w : World) (vx : Value) (q : Rat) (k : Nat) (hx : NumIn w vx q) (sx : Sm k q) (hk : k ≤ 10000000) (hf : Fit q) :
    Calls Tryz.prog 28 #[vx] w (Frac1 w (fracV q) true) := by
  have e1 : szN (Big.nu q) ≤ 512 := hf.nu
  have e2 : szN (Big.de q) ≤ 512 := hf.de
  have HF := Lib.hid (show fracV q = .agg #[.bool (Big.ng q), .string (bst (Big.nu q)), .string (bst (Big.de q))] from rfl)
  clear hf
  generalize fracV q = fv at *
  have SX := Lib.hid sx
  obtain ⟨A, l, c, A2, l2, c2, rfl, hx1, hx2⟩ := hx.is_agg
  have HX := Lib.hid (And.intro hx1 hx2)
  have HQ := Lib.hid hx
  obtain ⟨X0, R0, B0⟩ := boxed2 w 42 23 (.bool (Big.ng q)) (.slice A l c) (.slice A2 l2 c2) (.bool false) (.string ⟨#[]⟩) (.string ⟨#[]⟩)
  have HX0 := Lib.hid X0; have HR0 := Lib.hid R0; have HB0 := Lib.hid B0
  clear hx hx1 hx2 sx X0 R0 B0
  generalize Big.ng q = nq at *
  go_enter Tryz.func28, Tryz.ntmps28
  go_wp2_with fail
  generalize (w.alloc (.cells #[.bool nq, .slice A l c, .slice A2 l2 c2] 42)).alloc (.cells #[.bool false, .string ⟨#[]⟩, .string ⟨#[]⟩] 23) = w0 at *
  have CS := Lib.hid (exSize_any w0 _ q k (HQ.out.keep HB0.out) SX.out hk)
  have hm : ¬ (max (szN (Big.nu q)) (szN (Big.de q)) : Nat) > 512 := by omega
  generalize max (szN (Big.nu q)) (szN (Big.de q)) = mx at *
  have hm' : ¬ ((mx : Int) > 512) := by omega
  clear hm e1 e2
  refine CS.out.mono ?_
  rintro e w1 ⟨rfl, hw1⟩
  have HB1 := Lib.hid (HB0.out.trans (hw1.mono HB0.out.size))
  have HX1 := Lib.hid (HX0.out.keep hw1); have HR1 := Lib.hid (HR0.out.keep hw1)
  clear hw1 HX0 HR0 CS
  have KX := Lib.hid (fun W (h : Below w1.heap.size w1 W) => And.intro (HX1.out.keep h).c0 (And.intro (HX1.out.keep h).c1 (HX1.out.keep h).c2))
  have KP := Lib.hid (fun W x y z (h : Below w1.heap.size w1 W) => And.intro (put_cell (KX.out W h).1 (show w.heap.size ≠ w.heap.size + 1 by omega) x y z) (And.intro (put_cell (KX.out W h).2.1 (show w.heap.size ≠ w.heap.size + 1 by omega) x y z) (put_cell (KX.out W h).2.2 (show w.heap.size ≠ w.heap.size + 1 by omega) x y z)))
  have C1 := Lib.hid (fun W (h : Below w1.heap.size w1 W) => bytesT h (bytes_num W _ _ k ((HX.out.1.keep HB1.out).keep h) SX.out.nu (by omega)))
  have C2 := Lib.hid (fun W (h : Below w1.heap.size w1 W) => bytesT h (bytes_num W _ _ k ((HX.out.2.keep HB1.out).keep h) SX.out.de (by omega)))
  have RES := Lib.hid (fun W (h : Below w1.heap.size w1 W) => HR1.out.keep h)
  go_wp2_with fail
  go_region_held3 (fun w' => w'.cell? ⟨w.heap.size, 0, none⟩ = some (.bool nq) ∧ w'.cell? ⟨w.heap.size, 1, none⟩ = some (.slice A l c) ∧ w'.cell? ⟨w.heap.size, 2, none⟩ = some (.slice A2 l2 c2))
    (first | exact KX.out _ (by first | assumption | exact Below.refl _ _ | exact below_drew (Below.refl _ _) | exact below_drew (by assumption)) | exact KP.out _ _ _ _ (by assumption))
    (first
      | (go_at_call 48; (with_reducible refine (C1.out _ (by first | assumption | exact Below.refl _ _ | exact below_drew (Below.refl _ _) | exact below_drew (by assumption))).mono ?_); rintro e w2 ⟨rfl, hw2⟩)
      | (go_at_call 48; (with_reducible refine (C2.out _ (by first | assumption | exact Below.refl _ _ | exact below_drew (Below.refl _ _) | exact below_drew (by assumption))).mono ?_); rintro e w3 ⟨rfl, hw3⟩; have RR := RES.out _ hw3; have k0 := RR.c0; have k1 := RR.c1; have k2 := RR.c2; have f0 := RR.frozen 0; have f1 := RR.frozen 1; have f2 := RR.frozen 2)
      | fail)
  have D1 := At3.put RR (.bool nq) (.string (bst (Big.nu q))) (.string (bst (Big.de q)))
  have D3 := put_below (HB1.out.trans (hw3.mono HB1.out.size)) (show w.heap.size ≤ w.heap.size + 1 by omega) (.bool nq) (.string (bst (Big.nu q))) (.string (bst (Big.de q)))
  have HD1 := Lib.hid D1; have HD3 := Lib.hid D3
  clear D1 D3 k0 k1 k2 f0 f1 f2 RR
  generalize (((w3.setCell ⟨w.heap.size + 1, 0, none⟩ (.bool nq)).setCell ⟨w.heap.size + 1, 1, none⟩ (.string (bst (Big.nu q)))).setCell ⟨w.heap.size + 1, 2, none⟩ (.string (bst (Big.de q)))) = wz at HD1 HD3 ⊢
  have r0 := HD1.out.c0; have r1 := HD1.out.c1; have r2 := HD1.out.c2
  go_wp2_with fail
  exact bodyPost_ret (v := .tuple #[.agg #[.bool nq, .string (bst (Big.nu q)), .string (bst (Big.de q))], .bool true]) (by simp [results, Tryz.results28, go_sem, r0, r1, r2]) rfl ⟨by rw [HF.out], HD3.out⟩
def mayB (s : ByteArray) : Bool := decide (s.size ≤ 512) && !(s.data.toList.head? == some 0)
theorem mayB_bst {n : Nat} (h : szN n ≤ 512) : mayB (bst n) = true := by
  unfold mayB
  have h1 := btx_lead n
  rw [bst_size, bst_list, decide_eq_true h, Bool.true_and, Bool.not_eq_true', beq_eq_false_iff_ne]
  exact h1
theorem empty_of {s : ByteArray} (h : s.size = 0) : s = ⟨#[]⟩ := by
  have h2 : s.data = #[] := Array.eq_empty_of_size_eq_zero h
  cases s; simp at h2; rw [h2]
theorem size_toList (s : ByteArray) : s.data.toList.length = s.size := by
  show s.data.toList.length = s.data.size; simp
theorem head_get {s : ByteArray} (h : 0 < s.size) : s.data.toList.head? = some s[0] := by
  have hl : 0 < s.data.toList.length := by rw [size_toList]; exact h
  rw [List.head?_eq_getElem?, List.getElem?_eq_getElem hl]; rfl
set_option maxRecDepth 100000 in
set_option maxHeartbeats 4000000 in
theorem mayBe_any (w : World) (s : ByteArray) (hs : s.size ≤ 1000000000000) :
    Calls Tryz.prog 53 #[.string s] w fun e w' => e = .returned (.bool (mayB s)) ∧ w = w' := by
  by_cases h5 : s.size ≤ 512
  · by_cases h0 : s.size = 0
    · have e := empty_of h0
      subst e
      have HD := Lib.hid (show mayB ⟨#[]⟩ = true by decide)
      go_enter Tryz.func53, Tryz.ntmps53
      go_wp2_with fail
      go_ret
      exact ⟨ret_bool HD.out.symm, rfl⟩
    · have i1 : (s.size : Int) ≤ 512 := by omega
      have p0 : 0 < s.size := by omega
      have HD := Lib.hid (show mayB s = ((s[0].toNat : Int) != 0) by
        unfold mayB
        rw [decide_eq_true h5, Bool.true_and, head_get p0, Bool.eq_iff_iff, Bool.not_eq_true', beq_eq_false_iff_ne, bne_iff_ne]
        constructor
        · intro h e; exact h (by rw [Option.some.injEq]; apply UInt8.toNat_inj.1; show _ = 0; omega)
        · intro h e; rw [Option.some.injEq] at e; rw [e] at h; exact h rfl)
      generalize mayB s = z at *
      have hne : ¬ s.toList = [] := by rw [ByteArray.toList_eq]; intro e; have := size_toList s; rw [e] at this; simp at this; omega
      have hne2 : s.toList.isEmpty = false := by rw [Bool.eq_false_iff]; intro e; exact hne (List.isEmpty_iff.1 e)
      clear h0
      go_enter Tryz.func53, Tryz.ntmps53
      go_wp2_with fail
      go_ret
      exact ⟨ret_bool (by rw [HD.out]), rfl⟩
  · have i1 : ¬ (s.size : Int) ≤ 512 := by omega
    have HD := Lib.hid (show mayB s = false by unfold mayB; rw [decide_eq_false h5]; rfl)
    generalize mayB s = z at *
    go_enter Tryz.func53, Tryz.ntmps53
    go_wp2_with fail
    go_ret
    exact ⟨ret_bool HD.out.symm, rfl⟩
def Read1 (w : World) (q : Rat) (e : Ending) (w' : World) : Prop := ∃ v', e = .returned (.tuple #[v', .bool true]) ∧ NumIn w' v' q ∧ Below w.heap.size w w'
theorem bst_ne {n : Nat} (h : n ≠ 0) : ¬ (bst n).toList = [] := by
  rw [ByteArray.toList_eq, bst_list]; intro e
  have h1 := btx_length n
  rw [e] at h1
  have h2 := szN_pos h
  rw [← h1] at h2
  exact absurd h2 (by simp)
theorem bst_ne2 {n : Nat} (h : n ≠ 0) : (bst n).toList.isEmpty = false := by
  rw [Bool.eq_false_iff]; intro e; exact bst_ne h (List.isEmpty_iff.1 e)
set_option maxRecDepth 100000 in
set_option maxHeartbeats 4000000 in
theorem exRead_ok (w : World) (q : Rat) (hf : Fit q) :
    Calls Tryz.prog 32 #[.agg #[.bool (Big.ng q), .string (bst (Big.nu q)), .string (bst (Big.de q))]] w (Read1 w q) := by
  have M1 := Lib.hid (fun W => mayBe_any W (bst (Big.nu q)) (by rw [bst_size]; have := hf.nu; omega))
  have M2 := Lib.hid (fun W => mayBe_any W (bst (Big.de q)) (by rw [bst_size]; have := hf.de; omega))
  rw [mayB_bst hf.nu] at M1
  rw [mayB_bst hf.de] at M2
  have S := Lib.hid hf.sm
  have P := Lib.hid (show NumIn w (.agg #[.bool (Big.ng q), .slice none 0 0, .slice none 0 0]) q → True from fun _ => trivial)
  have F1 := Lib.hid (fun W => fromBytes_num W (Big.nu q) (by have := hf.nu; omega))
  have F2 := Lib.hid (fun W => fromBytes_num W (Big.de q) (by have := hf.de; omega))
  have d1 := bst_ne (n := Big.de q) (by have := Big.de_pos q; omega)
  have d2 := bst_ne2 (n := Big.de q) (by have := Big.de_pos q; omega)
  have n0 : Big.ng q = true → ¬ (bst (Big.nu q)).toList = [] ∧ (bst (Big.nu q)).toList.isEmpty = false := fun h => by
    have h1 := Big.ng_pos h
    exact ⟨bst_ne (by omega), bst_ne2 (by omega)⟩
  obtain ⟨X0, R0, B0⟩ := boxed2 w 23 42 (.bool (Big.ng q)) (.string (bst (Big.nu q))) (.string (bst (Big.de q))) (.bool false) (.slice none 0 0) (.slice none 0 0)
  have HX0 := Lib.hid X0; have HR0 := Lib.hid R0; have HB0 := Lib.hid B0
  have HC := Lib.hid (Big.cop q)
  have HNG := Lib.hid (rfl : Big.ng q = Big.ng q)
  clear hf X0 R0 B0 P HNG
  obtain ⟨nq, hnq⟩ : ∃ z, Big.ng q = z := ⟨_, rfl⟩
  rw [hnq] at n0 HX0 HR0 HB0 ⊢
  have HNQ := Lib.hid hnq
  clear hnq
  have HN0 := Lib.hid n0
  clear n0
  cases nq
  · go_enter Tryz.func32, Tryz.ntmps32
    go_wp2_with fail
    generalize (w.alloc (.cells #[.bool false, .string (bst (Big.nu q)), .string (bst (Big.de q))] 23)).alloc (.cells #[.bool false, .slice none 0 0, .slice none 0 0] 42) = w0 at *
    have x0 := HX0.out.c0; have x1 := HX0.out.c1; have x2 := HX0.out.c2
    go_wp2_with (first
      | (go_at_call 53; with_reducible refine (M1.out _).mono ?_; rintro e w' ⟨rfl, rfl⟩)
      | (go_at_call 53; with_reducible refine (M2.out _).mono ?_; rintro e w' ⟨rfl, rfl⟩))
    clear x0 x1 x2 d1 d2
    have KX := Lib.hid (fun W (h : Below w0.heap.size w0 W) => And.intro (HX0.out.keep h).c1 (HX0.out.keep h).c2)
    have C1 := Lib.hid (fun W (h : Below w0.heap.size w0 W) => lift2 h (F1.out W))
    have C2 := Lib.hid (fun W (h : Below w0.heap.size w0 W) => lift2 h (F2.out W))
    go_region_held3 (fun w' => w'.cell? ⟨w.heap.size, 1, none⟩ = some (.string (bst (Big.nu q))) ∧ w'.cell? ⟨w.heap.size, 2, none⟩ = some (.string (bst (Big.de q))))
      (exact KX.out _ (by first | assumption | exact Below.refl _ _ | exact below_drew (Below.refl _ _) | exact below_drew (by assumption)))
      (first
        | (go_at_call 54; (with_reducible refine (C1.out _ (by first | assumption | exact Below.refl _ _ | exact below_drew (Below.refl _ _) | exact below_drew (by assumption))).mono ?_); rintro e w2 ⟨v2, rfl, hv2, hw2, hw2'⟩)
        | (go_at_call 54; (with_reducible refine (C2.out _ (by first | assumption | exact Below.refl _ _ | exact below_drew (Below.refl _ _) | exact below_drew (by assumption))).mono ?_); rintro e w3 ⟨v3, rfl, hv3, hw3, hw3'⟩)
        | fail)
    have HB3 := Lib.hid (HB0.out.trans (hw3.mono HB0.out.size))
    have HX3 := Lib.hid (HX0.out.keep hw3); have HR3 := Lib.hid (HR0.out.keep hw3)
    have HV := Lib.hid (And.intro (hv2.keep hw3') hv3)
    clear hv2 hv3 hw2 hw2' hw3 hw3' HX0 HR0 HB0 KX C1 C2
    have G := Lib.hid (gcd_num w3 _ _ _ _ 64 64 HV.out.1 HV.out.2 S.out.nu S.out.de (by omega) (by omega))
    rw [HC.out] at G
    go_wp2_with fail
    refine G.out.mono ?_
    rintro e w4 ⟨v4, rfl, hv4, hw4⟩
    have I := Lib.hid (isOne_num w4 v4 1 hv4)
    rw [decide_eq_true rfl] at I
    have HB4 := Lib.hid (HB3.out.trans (hw4.mono HB3.out.size))
    have HX4 := Lib.hid (HX3.out.keep hw4); have HR4 := Lib.hid (HR3.out.keep hw4)
    have HV4 := Lib.hid (And.intro (HV.out.1.keep hw4) (HV.out.2.keep hw4))
    clear hv4 hw4 HB3 HX3 HR3 HV G
    go_wp2_with fail
    refine I.out.mono ?_
    rintro e w' ⟨rfl, rfl⟩
    obtain ⟨A8, l8, c8, rfl, -⟩ := HV4.out.1.is_slice
    obtain ⟨A9, l9, c9, rfl, -⟩ := HV4.out.2.is_slice
    have RR := HR4.out
    have x0 := HX4.out.c0
    have k0 := RR.c0; have k1 := RR.c1; have k2 := RR.c2; have f0 := RR.frozen 0; have f1 := RR.frozen 1; have f2 := RR.frozen 2
    go_wp2_with fail
    obtain ⟨D1, D2, D3⟩ := num_done (bb := false) (show NumRes w4 _ _ from RR) HB4.out (by omega) HV4.out.1 HV4.out.2 HNQ.out.symm
    have HD1 := Lib.hid D1; have HD2 := Lib.hid D2; have HD3 := Lib.hid D3
    clear D1 D2 D3 k0 k1 k2 f0 f1 f2 RR
    generalize (((w4.setCell ⟨w.heap.size + 1, 0, none⟩ (.bool (false))).setCell ⟨w.heap.size + 1, 1, none⟩ (.slice A8 l8 c8)).setCell ⟨w.heap.size + 1, 2, none⟩ (.slice A9 l9 c9)) = wz at HD1 HD2 HD3 ⊢
    have r0 := HD1.out.c0; have r1 := HD1.out.c1; have r2 := HD1.out.c2
    exact bodyPost_ret (v := .tuple #[.agg #[.bool (false), .slice A8 l8 c8, .slice A9 l9 c9], .bool true]) (by simp [results, Tryz.results32, go_sem, r0, r1, r2]) rfl ⟨_, rfl, HD2.out, HD3.out⟩
  · obtain ⟨z1, z2⟩ := HN0.out rfl
    go_enter Tryz.func32, Tryz.ntmps32
    go_wp2_with fail
    generalize (w.alloc (.cells #[.bool true, .string (bst (Big.nu q)), .string (bst (Big.de q))] 23)).alloc (.cells #[.bool false, .slice none 0 0, .slice none 0 0] 42) = w0 at *
    have x0 := HX0.out.c0; have x1 := HX0.out.c1; have x2 := HX0.out.c2
    go_wp2_with (first
      | (go_at_call 53; with_reducible refine (M1.out _).mono ?_; rintro e w' ⟨rfl, rfl⟩)
      | (go_at_call 53; with_reducible refine (M2.out _).mono ?_; rintro e w' ⟨rfl, rfl⟩))
    clear x0 x1 x2 d1 d2
    have KX := Lib.hid (fun W (h : Below w0.heap.size w0 W) => And.intro (HX0.out.keep h).c1 (HX0.out.keep h).c2)
    have C1 := Lib.hid (fun W (h : Below w0.heap.size w0 W) => lift2 h (F1.out W))
    have C2 := Lib.hid (fun W (h : Below w0.heap.size w0 W) => lift2 h (F2.out W))
    go_region_held3 (fun w' => w'.cell? ⟨w.heap.size, 1, none⟩ = some (.string (bst (Big.nu q))) ∧ w'.cell? ⟨w.heap.size, 2, none⟩ = some (.string (bst (Big.de q))))
      (exact KX.out _ (by first | assumption | exact Below.refl _ _ | exact below_drew (Below.refl _ _) | exact below_drew (by assumption)))
      (first
        | (go_at_call 54; (with_reducible refine (C1.out _ (by first | assumption | exact Below.refl _ _ | exact below_drew (Below.refl _ _) | exact below_drew (by assumption))).mono ?_); rintro e w2 ⟨v2, rfl, hv2, hw2, hw2'⟩)
        | (go_at_call 54; (with_reducible refine (C2.out _ (by first | assumption | exact Below.refl _ _ | exact below_drew (Below.refl _ _) | exact below_drew (by assumption))).mono ?_); rintro e w3 ⟨v3, rfl, hv3, hw3, hw3'⟩)
        | fail)
    have HB3 := Lib.hid (HB0.out.trans (hw3.mono HB0.out.size))
    have HX3 := Lib.hid (HX0.out.keep hw3); have HR3 := Lib.hid (HR0.out.keep hw3)
    have HV := Lib.hid (And.intro (hv2.keep hw3') hv3)
    clear hv2 hv3 hw2 hw2' hw3 hw3' HX0 HR0 HB0 KX C1 C2
    have G := Lib.hid (gcd_num w3 _ _ _ _ 64 64 HV.out.1 HV.out.2 S.out.nu S.out.de (by omega) (by omega))
    rw [HC.out] at G
    go_wp2_with fail
    refine G.out.mono ?_
    rintro e w4 ⟨v4, rfl, hv4, hw4⟩
    have I := Lib.hid (isOne_num w4 v4 1 hv4)
    rw [decide_eq_true rfl] at I
    have HB4 := Lib.hid (HB3.out.trans (hw4.mono HB3.out.size))
    have HX4 := Lib.hid (HX3.out.keep hw4); have HR4 := Lib.hid (HR3.out.keep hw4)
    have HV4 := Lib.hid (And.intro (HV.out.1.keep hw4) (HV.out.2.keep hw4))
    clear hv4 hw4 HB3 HX3 HR3 HV G
    go_wp2_with fail
    refine I.out.mono ?_
    rintro e w' ⟨rfl, rfl⟩
    obtain ⟨A8, l8, c8, rfl, -⟩ := HV4.out.1.is_slice
    obtain ⟨A9, l9, c9, rfl, -⟩ := HV4.out.2.is_slice
    have RR := HR4.out
    have x0 := HX4.out.c0
    have k0 := RR.c0; have k1 := RR.c1; have k2 := RR.c2; have f0 := RR.frozen 0; have f1 := RR.frozen 1; have f2 := RR.frozen 2
    go_wp2_with fail
    obtain ⟨D1, D2, D3⟩ := num_done (bb := true) (show NumRes w4 _ _ from RR) HB4.out (by omega) HV4.out.1 HV4.out.2 HNQ.out.symm
    have HD1 := Lib.hid D1; have HD2 := Lib.hid D2; have HD3 := Lib.hid D3
    clear D1 D2 D3 k0 k1 k2 f0 f1 f2 RR
    generalize (((w4.setCell ⟨w.heap.size + 1, 0, none⟩ (.bool (true))).setCell ⟨w.heap.size + 1, 1, none⟩ (.slice A8 l8 c8)).setCell ⟨w.heap.size + 1, 2, none⟩ (.slice A9 l9 c9)) = wz at HD1 HD2 HD3 ⊢
    have r0 := HD1.out.c0; have r1 := HD1.out.c1; have r2 := HD1.out.c2
    exact bodyPost_ret (v := .tuple #[.agg #[.bool (true), .slice A8 l8 c8, .slice A9 l9 c9], .bool true]) (by simp [results, Tryz.results32, go_sem, r0, r1, r2]) rfl ⟨_, rfl, HD2.out, HD3.out⟩
set_option maxRecDepth 100000 in
set_option maxHeartbeats 4000000 in
theorem rasize_any (w : World) (n : Int) (h0 : -9223372036854775808 ≤ n) (h1 : n ≤ 9223372036854775807) :
    Calls Tryz.prog 14 #[.int .i64 n] w (Nat1 w n.natAbs) := by
  have hM : n.natAbs < Big.M64 := by unfold Big.M64; omega
  have C := Lib.hid (of_num w n.natAbs hM)
  clear hM
  by_cases hn : n < 0
  · obtain ⟨u, rfl⟩ : ∃ u : Nat, n = -(u : Int) := ⟨n.natAbs, by omega⟩
    have e : (-(u : Int)).natAbs = u := by omega
    rw [e] at C ⊢
    have hwr : IntKind.u64.wrap (-IntKind.u64.wrap (-(u : Int))) = (u : Int) := by rw [IntKind.wrap_u64, IntKind.wrap_u64]; omega
    clear e
    go_enter Tryz.func14, Tryz.ntmps14
    go_wp2_with fail
    refine C.out.mono ?_
    rintro e w' ⟨v', rfl, hv, hb⟩
    go_wp2_with fail
    go_ret
    exact ⟨_, rfl, hv, hb⟩
  · obtain ⟨u, rfl⟩ : ∃ u : Nat, n = (u : Int) := ⟨n.natAbs, by omega⟩
    have e : ((u : Int)).natAbs = u := by omega
    rw [e] at C ⊢
    clear e
    go_enter Tryz.func14, Tryz.ntmps14
    go_wp2_with fail
    refine C.out.mono ?_
    rintro e w' ⟨v', rfl, hv, hb⟩
    go_wp2_with fail
    go_ret
    exact ⟨_, rfl, hv, hb⟩
def Ret2 (w : World) (v : Value) (n : Int) (e : Ending) (w' : World) : Prop := e = .returned (.tuple #[v, .int .i64 n]) ∧ Below w.heap.size w w'
theorem At3.both {w w' : World} {g : Nat} {T : TypeId} {a b c : Value} (h : At3 w g T a b c) (hb : Below w.heap.size w w') (B : Nat) (w0 : World) (hB : Below B w0 w) : At3 w' g T a b c ∧ Below B w0 w' → At3 w' g T a b c := fun _ => h.keep hb
set_option maxRecDepth 100000 in
set_option maxHeartbeats 4000000 in
theorem answer_fit (w : World) (vx : Value) (q : Rat) (k : Nat) (hx : NumIn w vx q) (sx : Sm k q) (hk : k ≤ 10000000) (hf : Fit q) :
    Calls Tryz.prog 12 #[vx] w (Ret2 w (fracV q) 0) := by
  have SX := Lib.hid sx; have HF := Lib.hid hf
  obtain ⟨A, l, c, A2, l2, c2, rfl, hx1, hx2⟩ := hx.is_agg
  have HX := Lib.hid (And.intro hx1 hx2)
  have HQ := Lib.hid hx
  obtain ⟨X0, R0, B0⟩ := boxed2 w 42 23 (.bool (Big.ng q)) (.slice A l c) (.slice A2 l2 c2) (.bool false) (.string ⟨#[]⟩) (.string ⟨#[]⟩)
  have HR0 := Lib.hid R0; have HB0 := Lib.hid B0
  have x0 := X0.c0; have x1 := X0.c1; have x2 := X0.c2
  have C := Lib.hid (fun W (h : Below w.heap.size w W) => exFrac_fit W _ q k (HQ.out.keep h) SX.out hk HF.out)
  clear hx hx1 hx2 sx X0 R0 B0 hf
  go_enter Tryz.func12, Tryz.ntmps12
  go_wp2_with fail
  refine (C.out _ HB0.out).mono ?_
  generalize (w.alloc (.cells #[.bool (Big.ng q), .slice A l c, .slice A2 l2 c2] 42)).alloc (.cells #[.bool false, .string ⟨#[]⟩, .string ⟨#[]⟩] 23) = w0 at *
  rintro e w1 ⟨rfl, hw1⟩
  unfold fracV
  have HB1 := Lib.hid (HB0.out.trans (hw1.mono HB0.out.size))
  have R1 := HR0.out.keep hw1
  have hlt := R1.lt
  have HD := Lib.hid ((At3.put R1 (.bool (Big.ng q)) (.string (bst (Big.nu q))) (.string (bst (Big.de q)))).alloc' (.cells #[.bool (Big.ng q), .string (bst (Big.nu q)), .string (bst (Big.de q))] 23))
  have HE := Lib.hid (below_alloc (put_below HB1.out (show w.heap.size ≤ w.heap.size + 1 by omega) (.bool (Big.ng q)) (.string (bst (Big.nu q))) (.string (bst (Big.de q)))) (Nat.le_refl _) (.cells #[.bool (Big.ng q), .string (bst (Big.nu q)), .string (bst (Big.de q))] 23))
  have k0 := R1.c0; have k1 := R1.c1; have k2 := R1.c2; have f0 := R1.frozen 0; have f1 := R1.frozen 1; have f2 := R1.frozen 2
  clear R1 hw1 x0 x1 x2 HR0 C
  go_wp2_with fail
  generalize ((((w1.setCell ⟨w.heap.size + 1, 0, none⟩ (.bool (Big.ng q))).setCell ⟨w.heap.size + 1, 1, none⟩ (.string (bst (Big.nu q)))).setCell ⟨w.heap.size + 1, 2, none⟩ (.string (bst (Big.de q)))).alloc (.cells #[.bool (Big.ng q), .string (bst (Big.nu q)), .string (bst (Big.de q))] 23)) = wz at HD HE ⊢
  clear k0 k1 k2 f0 f1 f2
  have r0 := HD.out.c0; have r1 := HD.out.c1; have r2 := HD.out.c2
  exact bodyPost_ret (v := .tuple #[.agg #[.bool (Big.ng q), .string (bst (Big.nu q)), .string (bst (Big.de q))], .int .i64 0]) (by simp [results, Tryz.results12, go_sem, r0, r1, r2]) rfl ⟨rfl, HE.out⟩
def ofQ (n d : Int) : Rat := mkRat (Big.sI (decide (n < 0) != decide (d < 0)) n.natAbs) d.natAbs
theorem ofQ_by {n d : Int} {k : Nat} (hn : n.natAbs < 256 ^ k) (hd : d.natAbs < 256 ^ k) (h0 : d ≠ 0) : By k (ofQ n d) := by
  obtain ⟨_, p2, p3⟩ := Big.of_parts (decide (n < 0) != decide (d < 0)) n.natAbs d.natAbs (by omega)
  unfold ofQ
  exact ⟨by rw [p2]; exact Nat.lt_of_le_of_lt (Nat.div_le_self _ _) hn, by rw [p3]; exact Nat.lt_of_le_of_lt (Nat.div_le_self _ _) hd⟩
set_option maxRecDepth 100000 in
set_option maxHeartbeats 4000000 in
theorem raOf_any (w : World) (n d : Int) (h0 : -9223372036854775808 ≤ n) (h1 : n ≤ 9223372036854775807) (h2 : -9223372036854775808 ≤ d) (h3 : d ≤ 9223372036854775807) (hd : d ≠ 0) :
    Calls Tryz.prog 4 #[.int .i64 n, .int .i64 d] w (Ret2 w (fracV (ofQ n d)) 0) := by
  have hb : By 8 (ofQ n d) := ofQ_by (by omega) (by omega) hd
  have HF := Lib.hid (hb.fit (by omega))
  have C1 := Lib.hid (fun W => rasize_any W n h0 h1)
  have C2 := Lib.hid (fun W => rasize_any W d h2 h3)
  have z1 : Sz 1 n.natAbs := sz_word (by unfold Big.M64; omega)
  have z2 : Sz 1 d.natAbs := sz_word (by unfold Big.M64; omega)
  have C3 := Lib.hid (fun W b v u (h : NatIn W v n.natAbs) (i : NatIn W u d.natAbs) => exOf_any W b v u n.natAbs d.natAbs 1 1 h i z1 z2 (by omega) (by omega) (by omega))
  have C4 := Lib.hid (fun W v (h : NumIn W v (ofQ n d)) => answer_fit W v _ 64 h HF.out.sm (by omega) HF.out)
  have hd0 : (d == 0) = false := beq_eq_false_iff_ne.2 hd
  have HOF := Lib.hid (show ofQ n d = mkRat (Big.sI (!(decide (n < 0) == decide (d < 0))) n.natAbs) d.natAbs from rfl)
  have HR0 := Lib.hid (At3.new w 23 (.bool false) (.string ⟨#[]⟩) (.string ⟨#[]⟩))
  have HB0 := Lib.hid (box1_below w (.cells #[.bool false, .string ⟨#[]⟩, .string ⟨#[]⟩] 23))
  clear hb z1 z2 hd h0 h1 h2 h3
  obtain ⟨Q, hQ⟩ : ∃ Q, ofQ n d = Q := ⟨_, rfl⟩
  rw [hQ] at HF C4 HOF ⊢
  clear hQ
  go_enter Tryz.func4, Tryz.ntmps4
  go_wp2_with fail
  generalize w.alloc (.cells #[.bool false, .string ⟨#[]⟩, .string ⟨#[]⟩] 23) = w0 at *
  refine (C1.out _).mono ?_
  rintro e w1 ⟨v1, rfl, hv1, hw1⟩
  go_wp2_with fail
  refine (C2.out _).mono ?_
  rintro e w2 ⟨v2, rfl, hv2, hw2⟩
  go_wp2_with fail
  refine (C3.out _ _ _ _ (hv1.keep hw2) hv2).mono ?_
  rintro e w3 ⟨v3, rfl, hv3, hw3⟩
  rw [← HOF.out] at hv3
  go_wp2_with fail
  refine (C4.out _ _ hv3).mono ?_
  rintro e w4 ⟨rfl, hw4⟩
  unfold fracV
  have b1 := HB0.out.trans (hw1.mono HB0.out.size)
  have b2 := b1.trans (hw2.mono b1.size)
  have b3 := b2.trans (hw3.mono b2.size)
  have b4 := b3.trans (hw4.mono b3.size)
  have R4 := (((HR0.out.keep hw1).keep hw2).keep hw3).keep hw4
  have HD := Lib.hid (At3.put R4 (.bool (Big.ng Q)) (.string (bst (Big.nu Q))) (.string (bst (Big.de Q))))
  have HE := Lib.hid (put_below b4 (Nat.le_refl _) (.bool (Big.ng Q)) (.string (bst (Big.nu Q))) (.string (bst (Big.de Q))))
  have k0 := R4.c0; have k1 := R4.c1; have k2 := R4.c2; have f0 := R4.frozen 0; have f1 := R4.frozen 1; have f2 := R4.frozen 2
  clear R4 b1 b2 b3 b4 hw1 hw2 hw3 hw4 hv1 hv2 hv3 C1 C2 C3 C4 HOF HR0 HB0
  go_wp2_with fail
  generalize (((w4.setCell ⟨w.heap.size, 0, none⟩ (.bool (Big.ng Q))).setCell ⟨w.heap.size, 1, none⟩ (.string (bst (Big.nu Q)))).setCell ⟨w.heap.size, 2, none⟩ (.string (bst (Big.de Q)))) = wz at HD HE ⊢
  clear k0 k1 k2 f0 f1 f2
  have r0 := HD.out.c0; have r1 := HD.out.c1; have r2 := HD.out.c2
  exact bodyPost_ret (v := .tuple #[.agg #[.bool (Big.ng Q), .string (bst (Big.nu Q)), .string (bst (Big.de Q))], .int .i64 0]) (by simp [results, Tryz.results4, go_sem, r0, r1, r2]) rfl ⟨rfl, HE.out⟩
def AtL (w : World) (g : Nat) (T : TypeId) (cs : Array Value) : Prop := w.heap[g]? = some (.cells cs T (0, 0))
section
variable {w w' : World} {g : Nat} {T : TypeId} {cs : Array Value}
theorem AtL.lt (h : AtL w g T cs) : g < w.heap.size := by
  rcases Nat.lt_or_ge g w.heap.size with h1 | h1
  · exact h1
  · unfold AtL at h; rw [Array.getElem?_eq_none h1] at h; cases h
theorem AtL.cell (h : AtL w g T cs) (i : Nat) {x : Value} (hx : cs[i]? = some x) : w.cell? ⟨g, i, none⟩ = some x := by rw [cell_of_row w g i _ _ (0, 0) h]; exact hx
theorem AtL.frozen (h : AtL w g T cs) (i : Nat) : w.frozen? ⟨g, i, none⟩ = false := frozen_of_row w g i _ _ h
theorem AtL.new (w : World) (T : TypeId) (cs : Array Value) : AtL (w.alloc (.cells cs T)) w.heap.size T cs := heap_alloc_new w _
theorem AtL.alloc' (h : AtL w g T cs) (o : Obj) : AtL (w.alloc o) g T cs := (Below.heap_alloc w o g h.lt).trans h
theorem AtL.below (h : AtL w g T cs) {B : Nat} (hb : Below B w w') (hg : g < B) : AtL w' g T cs := (hb.block g hg).trans h
theorem AtL.keep (h : AtL w g T cs) (hb : Below w.heap.size w w') : AtL w' g T cs := h.below hb h.lt
theorem AtL.set (h : AtL w g T cs) (i : Nat) (x : Value) : AtL (w.setCell ⟨g, i, none⟩ x) g T (cs.setIfInBounds i x) := heap_setCell_same w g i _ _ x h
end
end Go.Proofs.YtfenjkgbedbleaaGreatDoor
