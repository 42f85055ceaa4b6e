/- Contracts, in this order: ratio: simplestAbove. · ratio: simplest. -/
import Derived.Test.YtepnghhgmjobjaaDoorRs12
import Derived.Test.YtepnghhgmjobjaaDoorRs09
import Derived.LoopN
import Derived.Handy
import Derived.Deep.DeepCutAuto
import Derived.Test.YtepnghhgmjobjaaDoorRs08
namespace Go.Proofs.YtepnghhgmjobjaaDoor
open Go.RowKit
theorem numAt_in {w : World} {v : Value} {n : Nat} (h : NatIn w v n) : numAt w v = n := by
  obtain ⟨l, ⟨A, c, rfl, h1, h2, h3⟩, ok, nl, rfl⟩ := h
  rcases Nat.eq_zero_or_pos l.length with h0 | h0
  · obtain rfl := List.length_eq_zero_iff.1 h0
    cases A <;> rfl
  · obtain ⟨b, o, rfl, hb, hc⟩ := h3 h0
    have e : (List.range l.length).map (wordAt w ⟨b, o, none⟩) = l := by
      apply List.ext_getElem
      · simp
      · intro i h1 h2
        have h3 : i < l.length := h2
        simp only [List.getElem_map, List.getElem_range]
        unfold wordAt
        rw [hc.1 i h3]
        show (intOf (.int .u64 ((Big.nth l i : Nat) : Int))).toNat = _
        simp [intOf, Big.nth, h3]
    show Big.val Big.M64 ((List.range l.length).map (wordAt w ⟨b, o, none⟩)) = _
    rw [e]
def Nat22 (w : World) (X Y : Nat) (e : Ending) (w' : World) : Prop := ∃ u v, e = .returned (.tuple #[u, v]) ∧ NatIn w' u X ∧ NatIn w' v Y ∧ Below w.heap.size w w'
theorem numB {P : Program} {f : FuncId} {args : Array Value} {b W : World} {r : Nat} (h : Below b.heap.size b W) (c : Calls P f args W (Nat1 W r)) : Calls P f args W (Nat2 b W r) :=
  c.mono fun _ _ ⟨v, h1, h2, h3⟩ => ⟨v, h1, h2, h.trans (h3.mono h.size), h3⟩
theorem conv_bounds {A B X Y a b c d p p' q q' f : Nat} (h : Big.Conv A B X Y a b c d p p' q q' f) (h1 : 1 ≤ p + q) (h2 : 1 ≤ p' + q') : a + c ≤ A + B ∧ b + d ≤ A + B := by
  have e1 := h.np
  have e2 := h.nq
  have x1 : 1 * (a + c) ≤ (p + q) * (a + c) := Nat.mul_le_mul_right _ h1
  have x2 : 1 * (b + d) ≤ (p' + q') * (b + d) := Nat.mul_le_mul_right _ h2
  rw [Nat.add_mul, Nat.one_mul] at x1 x2
  generalize p * (a + c) = m1 at *
  generalize p' * (b + d) = m2 at *
  generalize q * (a + c) = m3 at *
  generalize q' * (b + d) = m4 at *
  omega
set_option maxRecDepth 100000 in
set_option maxHeartbeats 4000000 in
theorem above_any (w : World) (vx vy : Value) (x y : Rat) (hx : NumIn w vx x) (hy : NumIn w vy y) (ng1 : Big.ng x = false) (ng2 : Big.ng y = false) (hlt : x < y) (A B X Y : Nat) (hA : Big.nu x + Big.nu y = A) (hB : Big.de x + Big.de y = B)
    (hX : (Big.sp (Big.spm (Big.nu x) (Big.de x) (Big.nu y) (Big.de y) + 1) (Big.nu x) (Big.de x) (Big.nu y) (Big.de y)).1 = X) (hY : (Big.sp (Big.spm (Big.nu x) (Big.de x) (Big.nu y) (Big.de y) + 1) (Big.nu x) (Big.de x) (Big.nu y) (Big.de y)).2 = Y) (hS : Sz 300 (A + B)) :
    Calls Tryd.prog 48 #[vx, vy] w (Nat22 w X Y) := by
  have HCV0 := Lib.hid (hX ▸ hY ▸ hA ▸ hB ▸ Big.Conv.start (Big.ends_of ng1 ng2 hlt) (Nat.lt_succ_self _))
  have HS := Lib.hid hS
  obtain ⟨A1, l1, c1, A2, l2, c2, rfl, -, -⟩ := hx.is_agg
  obtain ⟨B1, m1, d1, B2, m2, d2, rfl, -, -⟩ := hy.is_agg
  have HX := Lib.hid hx; have HY := Lib.hid hy
  obtain ⟨X0, Y0, B0⟩ := boxed2 w 45 45 (.bool (Big.ng x)) (.slice A1 l1 c1) (.slice A2 l2 c2) (.bool (Big.ng y)) (.slice B1 m1 d1) (.slice B2 m2 d2)
  have HX0 := Lib.hid X0; have HY0 := Lib.hid Y0; have HB0 := Lib.hid B0
  clear X0 Y0 B0 hX hY hA hB hS hx hy ng1 ng2 hlt
  go_enter Tryd.func48, Tryd.ntmps48
  go_wp2_with fail
  refine (of_num _ 1 M64_gt).mono ?_
  generalize (w.alloc (.cells #[.bool (Big.ng x), .slice A1 l1 c1, .slice A2 l2 c2] 45)).alloc (.cells #[.bool (Big.ng y), .slice B1 m1 d1, .slice B2 m2 d2] 45) = w0 at *
  rintro e w1 ⟨v1, rfl, n1, hw1⟩
  obtain ⟨O, lo, co, rfl, -⟩ := n1.is_slice
  have hb1 := HB0.out.trans (hw1.mono HB0.out.size)
  have HX1 := Lib.hid (HX0.out.keep hw1); have HY1 := Lib.hid (HY0.out.keep hw1)
  have KX := Lib.hid (show ∀ W, Below w1.heap.size w1 W → W.cell? ⟨w.heap.size, 0, none⟩ = some (.bool (Big.ng x)) ∧ W.cell? ⟨w.heap.size, 1, none⟩ = some (.slice A1 l1 c1) ∧ W.cell? ⟨w.heap.size, 2, none⟩ = some (.slice A2 l2 c2) ∧ W.cell? ⟨w.heap.size + 1, 0, none⟩ = some (.bool (Big.ng y)) ∧ W.cell? ⟨w.heap.size + 1, 1, none⟩ = some (.slice B1 m1 d1) ∧ W.cell? ⟨w.heap.size + 1, 2, none⟩ = some (.slice B2 m2 d2) from fun W h => ⟨(HX1.out.keep h).c0, (HX1.out.keep h).c1, (HX1.out.keep h).c2, (HY1.out.keep h).c0, (HY1.out.keep h).c1, (HY1.out.keep h).c2⟩)
  have CN1 := Lib.hid (fun W (h : Below w1.heap.size w1 W) => numB h (exNum_any W _ x ((HX.out.keep hb1).keep h)))
  have CD1 := Lib.hid (fun W (h : Below w1.heap.size w1 W) => numB h (exDen_any W _ x ((HX.out.keep hb1).keep h)))
  have CN2 := Lib.hid (fun W (h : Below w1.heap.size w1 W) => numB h (exNum_any W _ y ((HY.out.keep hb1).keep h)))
  have CD2 := Lib.hid (fun W (h : Below w1.heap.size w1 W) => numB h (exDen_any W _ y ((HY.out.keep hb1).keep h)))
  have H1 := Lib.hid n1
  have HBL1 := Lib.hid hb1
  clear n1 hw1 hb1 HX HY HX0 HY0 HX1 HY1 HB0
  go_wp2_with fail
  go_region_held3 (fun w' => w'.cell? ⟨w.heap.size, 0, none⟩ = some (.bool (Big.ng x)) ∧ w'.cell? ⟨w.heap.size, 1, none⟩ = some (.slice A1 l1 c1) ∧ w'.cell? ⟨w.heap.size, 2, none⟩ = some (.slice A2 l2 c2) ∧ w'.cell? ⟨w.heap.size + 1, 0, none⟩ = some (.bool (Big.ng y)) ∧ w'.cell? ⟨w.heap.size + 1, 1, none⟩ = some (.slice B1 m1 d1) ∧ w'.cell? ⟨w.heap.size + 1, 2, none⟩ = some (.slice B2 m2 d2))
    (exact KX.out _ (by first | assumption | exact Below.refl _ _ | exact below_drew (Below.refl _ _) | exact below_drew (by assumption)))
    (first
      | (go_at_call 34; (with_reducible refine (CN1.out _ (by first | assumption | exact Below.refl _ _ | exact below_drew (Below.refl _ _) | exact below_drew (by assumption))).mono ?_); rintro e w2 ⟨va, rfl, na, hw2, hw2'⟩)
      | (go_at_call 46; (with_reducible refine (CD1.out _ (by first | assumption | exact Below.refl _ _ | exact below_drew (Below.refl _ _) | exact below_drew (by assumption))).mono ?_); rintro e w3 ⟨vb, rfl, nb, hw3, hw3'⟩)
      | fail)
  go_wp2_with fail
  go_region_held3 (fun w' => w'.cell? ⟨w.heap.size, 0, none⟩ = some (.bool (Big.ng x)) ∧ w'.cell? ⟨w.heap.size, 1, none⟩ = some (.slice A1 l1 c1) ∧ w'.cell? ⟨w.heap.size, 2, none⟩ = some (.slice A2 l2 c2) ∧ w'.cell? ⟨w.heap.size + 1, 0, none⟩ = some (.bool (Big.ng y)) ∧ w'.cell? ⟨w.heap.size + 1, 1, none⟩ = some (.slice B1 m1 d1) ∧ w'.cell? ⟨w.heap.size + 1, 2, none⟩ = some (.slice B2 m2 d2))
    (exact KX.out _ (by first | assumption | exact Below.refl _ _ | exact below_drew (Below.refl _ _) | exact below_drew (by assumption)))
    (first
      | (go_at_call 34; (with_reducible refine (CN2.out _ (by first | assumption | exact Below.refl _ _ | exact below_drew (Below.refl _ _) | exact below_drew (by assumption))).mono ?_); rintro e w4 ⟨vc, rfl, nc, hw4, hw4'⟩)
      | (go_at_call 46; (with_reducible refine (CD2.out _ (by first | assumption | exact Below.refl _ _ | exact below_drew (Below.refl _ _) | exact below_drew (by assumption))).mono ?_); rintro e w5 ⟨ve, rfl, ne, hw5, hw5'⟩)
      | fail)
  obtain ⟨wl, hwl⟩ : ∃ z, z = w5 := ⟨_, rfl⟩
  have n1' := Lib.hid (H1.out.keep hw5)
  have na' := Lib.hid (((NatIn.dr (na.keep hw3')).keep hw4').keep hw5')
  have nb' := Lib.hid (((NatIn.dr nb).keep hw4').keep hw5')
  have nc' := Lib.hid (nc.keep hw5'); have ne' := Lib.hid ne
  have HBL := Lib.hid (HBL1.out.trans (hw5.mono HBL1.out.size))
  rw [← hwl] at *
  clear hwl
  go_wp2_with fail
  go_loopw [4, 5, 7, 8, 9, 10, 11, 12] (fun vn vd va vb vc ve vp vq wr => ∃ a b c d p p' q q' f : Nat, Hid (Big.Conv A B X Y a b c d p p' q q' f) ∧ Hid (1 ≤ p + q ∧ 1 ≤ p' + q') ∧ Hid (NatIn wr vn p) ∧ Hid (NatIn wr vd q) ∧ Hid (NatIn wr va a) ∧ Hid (NatIn wr vb b) ∧ Hid (NatIn wr vc c) ∧ Hid (NatIn wr ve d) ∧ Hid (NatIn wr vp p') ∧ Hid (NatIn wr vq q') ∧ Hid (Below wl.heap.size wl wr)) (fun vn vd va vb vc ve vp vq wr => Big.spm (numAt wr va) (numAt wr vb) (numAt wr vc) (numAt wr ve))
  case atStart => exact ⟨_, _, _, _, _, _, _, _, _, HCV0, ⟨by omega, by omega⟩, n1', Lib.hid (NatIn.nil_ _), na', nb', nc', ne', Lib.hid (NatIn.nil_ _), n1', Lib.hid (Below.refl _ _)⟩
  case round =>
    obtain ⟨a, b, c, d, p, p', q, q', f, HCV, HPQ, HN, HD, HA, HBb, HC, HE, HP, HQ, HBr⟩ := hrel
    obtain ⟨k1, k2⟩ := conv_bounds HCV.out HPQ.out.1 HPQ.out.2
    obtain ⟨k3, k4, k5, k6⟩ := HCV.out.le
    have sA : ∀ n, n ≤ A + B → Sz 300 n := fun n h => HS.out.le h
    have SZ := Lib.hid (show Sz 300 a ∧ Sz 300 b ∧ Sz 300 c ∧ Sz 300 d ∧ Sz 300 p ∧ Sz 300 p' ∧ Sz 300 q ∧ Sz 300 q' from ⟨sA _ (by omega), sA _ (by omega), sA _ (by omega), sA _ (by omega), sA _ (by omega), sA _ (by omega), sA _ (by omega), sA _ (by omega)⟩)
    have SW := Lib.hid (SZ.out.1.le (Nat.div_le_self a b))
    have SW1 := Lib.hid (SW.out.add sz_one)
    have HPQ2 := Lib.hid (show 1 ≤ (a / b * p + p') + (a / b * q + q') ∧ 1 ≤ p + q from ⟨by have := HPQ.out.2; omega, HPQ.out.1⟩)
    have HMs := Lib.hid (And.intro HA.out (And.intro HBb.out (And.intro HC.out HE.out)))
    have H1 := Lib.hid (n1'.out.keep HBr.out)
    clear k1 k2 k3 k4 k5 k6 sA
    go_wp2_with fail
    refine (quoRem_num _ _ _ a b 300 HA.out HBb.out SZ.out.1 (by omega)).mono ?_
    rintro e x0 ⟨w0, r0, rfl, nw, nr, hx0⟩
    have Hvnx0 := Lib.hid (HN.out.keep hx0)
    have Hvdx0 := Lib.hid (HD.out.keep hx0)
    have Hvax0 := Lib.hid (HA.out.keep hx0)
    have Hvbx0 := Lib.hid (HBb.out.keep hx0)
    have Hvcx0 := Lib.hid (HC.out.keep hx0)
    have Hvex0 := Lib.hid (HE.out.keep hx0)
    have Hvpx0 := Lib.hid (HP.out.keep hx0)
    have Hvqx0 := Lib.hid (HQ.out.keep hx0)
    have Hv1x0 := Lib.hid (H1.out.keep hx0)
    have HBx0 := Lib.hid (HBr.out.trans (hx0.mono HBr.out.size))
    clear hx0 HBr HN HD HA HBb HC HE HP HQ H1
    obtain ⟨Aw, lw, cw, rfl, -⟩ := nw.is_slice
    obtain ⟨Ar, lr, cr, rfl, -⟩ := nr.is_slice
    have Hwwx0 := Lib.hid nw; have Hrrx0 := Lib.hid nr
    clear nw nr
    go_wp2_with fail
    refine (add_num _ _ _ (a / b) 1 300 1 Hwwx0.out Hv1x0.out SW.out sz_one (by omega) (by omega)).mono ?_
    rintro e x1 ⟨ab, rfl, nab, hx1⟩
    have Hvnx1 := Lib.hid (Hvnx0.out.keep hx1)
    have Hvdx1 := Lib.hid (Hvdx0.out.keep hx1)
    have Hvax1 := Lib.hid (Hvax0.out.keep hx1)
    have Hvbx1 := Lib.hid (Hvbx0.out.keep hx1)
    have Hvcx1 := Lib.hid (Hvcx0.out.keep hx1)
    have Hvex1 := Lib.hid (Hvex0.out.keep hx1)
    have Hvpx1 := Lib.hid (Hvpx0.out.keep hx1)
    have Hvqx1 := Lib.hid (Hvqx0.out.keep hx1)
    have Hv1x1 := Lib.hid (Hv1x0.out.keep hx1)
    have Hwwx1 := Lib.hid (Hwwx0.out.keep hx1)
    have Hrrx1 := Lib.hid (Hrrx0.out.keep hx1)
    have HBx1 := Lib.hid (HBx0.out.trans (hx1.mono HBx0.out.size))
    clear hx1 HBx0 Hvnx0 Hvdx0 Hvax0 Hvbx0 Hvcx0 Hvex0 Hvpx0 Hvqx0 Hv1x0 Hwwx0 Hrrx0
    obtain ⟨Aab, lab, cab, rfl, -⟩ := nab.is_slice
    have Habx1 := Lib.hid nab
    clear nab
    go_wp2_with fail
    refine (mul_num _ _ _ (a / b + 1) d 302 300 Habx1.out Hvex1.out SW1.out SZ.out.2.2.2.1 (by omega) (by omega)).mono ?_
    rintro e x2 ⟨m1, rfl, nm1, hx2⟩
    have Hvnx2 := Lib.hid (Hvnx1.out.keep hx2)
    have Hvdx2 := Lib.hid (Hvdx1.out.keep hx2)
    have Hvax2 := Lib.hid (Hvax1.out.keep hx2)
    have Hvbx2 := Lib.hid (Hvbx1.out.keep hx2)
    have Hvcx2 := Lib.hid (Hvcx1.out.keep hx2)
    have Hvex2 := Lib.hid (Hvex1.out.keep hx2)
    have Hvpx2 := Lib.hid (Hvpx1.out.keep hx2)
    have Hvqx2 := Lib.hid (Hvqx1.out.keep hx2)
    have Hv1x2 := Lib.hid (Hv1x1.out.keep hx2)
    have Hwwx2 := Lib.hid (Hwwx1.out.keep hx2)
    have Hrrx2 := Lib.hid (Hrrx1.out.keep hx2)
    have Habx2 := Lib.hid (Habx1.out.keep hx2)
    have HBx2 := Lib.hid (HBx1.out.trans (hx2.mono HBx1.out.size))
    clear hx2 HBx1 Hvnx1 Hvdx1 Hvax1 Hvbx1 Hvcx1 Hvex1 Hvpx1 Hvqx1 Hv1x1 Hwwx1 Hrrx1 Habx1
    obtain ⟨Am1, lm1, cm1, rfl, -⟩ := nm1.is_slice
    have Hm1x2 := Lib.hid nm1
    clear nm1
    go_wp2_with fail
    refine (cmp_num _ _ _ _ _ Hm1x2.out Hvcx2.out).mono ?_
    rintro e xc ⟨rfl, hxc⟩
    have hxc' := hxc.below x2.heap.size
    clear hxc
    have Hvnxc := Lib.hid (Hvnx2.out.keep hxc')
    have Hvdxc := Lib.hid (Hvdx2.out.keep hxc')
    have Hvaxc := Lib.hid (Hvax2.out.keep hxc')
    have Hvbxc := Lib.hid (Hvbx2.out.keep hxc')
    have Hvcxc := Lib.hid (Hvcx2.out.keep hxc')
    have Hvexc := Lib.hid (Hvex2.out.keep hxc')
    have Hvpxc := Lib.hid (Hvpx2.out.keep hxc')
    have Hvqxc := Lib.hid (Hvqx2.out.keep hxc')
    have Hv1xc := Lib.hid (Hv1x2.out.keep hxc')
    have Hwwxc := Lib.hid (Hwwx2.out.keep hxc')
    have Hrrxc := Lib.hid (Hrrx2.out.keep hxc')
    have Habxc := Lib.hid (Habx2.out.keep hxc')
    have Hm1xc := Lib.hid (Hm1x2.out.keep hxc')
    have HBxc := Lib.hid (HBx2.out.trans (hxc'.mono HBx2.out.size))
    clear hxc' HBx2 Hvnx2 Hvdx2 Hvax2 Hvbx2 Hvcx2 Hvex2 Hvpx2 Hvqx2 Hv1x2 Hwwx2 Hrrx2 Habx2 Hm1x2
    by_cases hn : (a / b + 1) * d < c
    · rw [Big.cmpI_lt hn]
      have HX := Lib.hid (HCV.out.done hn)
      go_wp2_with fail
      refine (mul_num _ _ _ (a / b + 1) p 302 300 Habxc.out Hvnxc.out SW1.out SZ.out.2.2.2.2.1 (by omega) (by omega)).mono ?_
      rintro e x3 ⟨m2, rfl, nm2, hx3⟩
      have Hvnx3 := Lib.hid (Hvnxc.out.keep hx3)
      have Hvdx3 := Lib.hid (Hvdxc.out.keep hx3)
      have Hvax3 := Lib.hid (Hvaxc.out.keep hx3)
      have Hvbx3 := Lib.hid (Hvbxc.out.keep hx3)
      have Hvcx3 := Lib.hid (Hvcxc.out.keep hx3)
      have Hvex3 := Lib.hid (Hvexc.out.keep hx3)
      have Hvpx3 := Lib.hid (Hvpxc.out.keep hx3)
      have Hvqx3 := Lib.hid (Hvqxc.out.keep hx3)
      have Hv1x3 := Lib.hid (Hv1xc.out.keep hx3)
      have Hwwx3 := Lib.hid (Hwwxc.out.keep hx3)
      have Hrrx3 := Lib.hid (Hrrxc.out.keep hx3)
      have Habx3 := Lib.hid (Habxc.out.keep hx3)
      have Hm1x3 := Lib.hid (Hm1xc.out.keep hx3)
      have HBx3 := Lib.hid (HBxc.out.trans (hx3.mono HBxc.out.size))
      clear hx3 HBxc Hvnxc Hvdxc Hvaxc Hvbxc Hvcxc Hvexc Hvpxc Hvqxc Hv1xc Hwwxc Hrrxc Habxc Hm1xc
      obtain ⟨Am2, lm2, cm2, rfl, -⟩ := nm2.is_slice
      have Hm2x3 := Lib.hid nm2
      clear nm2
      go_wp2_with fail
      refine (add_num _ _ _ ((a / b + 1) * p) p' 602 300 Hm2x3.out Hvpx3.out (SW1.out.mul SZ.out.2.2.2.2.1) SZ.out.2.2.2.2.2.1 (by omega) (by omega)).mono ?_
      rintro e x4 ⟨u1, rfl, nu1, hx4⟩
      have Hvnx4 := Lib.hid (Hvnx3.out.keep hx4)
      have Hvdx4 := Lib.hid (Hvdx3.out.keep hx4)
      have Hvax4 := Lib.hid (Hvax3.out.keep hx4)
      have Hvbx4 := Lib.hid (Hvbx3.out.keep hx4)
      have Hvcx4 := Lib.hid (Hvcx3.out.keep hx4)
      have Hvex4 := Lib.hid (Hvex3.out.keep hx4)
      have Hvpx4 := Lib.hid (Hvpx3.out.keep hx4)
      have Hvqx4 := Lib.hid (Hvqx3.out.keep hx4)
      have Hv1x4 := Lib.hid (Hv1x3.out.keep hx4)
      have Hwwx4 := Lib.hid (Hwwx3.out.keep hx4)
      have Hrrx4 := Lib.hid (Hrrx3.out.keep hx4)
      have Habx4 := Lib.hid (Habx3.out.keep hx4)
      have Hm1x4 := Lib.hid (Hm1x3.out.keep hx4)
      have Hm2x4 := Lib.hid (Hm2x3.out.keep hx4)
      have HBx4 := Lib.hid (HBx3.out.trans (hx4.mono HBx3.out.size))
      clear hx4 HBx3 Hvnx3 Hvdx3 Hvax3 Hvbx3 Hvcx3 Hvex3 Hvpx3 Hvqx3 Hv1x3 Hwwx3 Hrrx3 Habx3 Hm1x3 Hm2x3
      obtain ⟨Au1, lu1, cu1, rfl, -⟩ := nu1.is_slice
      have Hu1x4 := Lib.hid nu1
      clear nu1
      go_wp2_with fail
      refine (mul_num _ _ _ (a / b + 1) q 302 300 Habx4.out Hvdx4.out SW1.out SZ.out.2.2.2.2.2.2.1 (by omega) (by omega)).mono ?_
      rintro e x5 ⟨m3, rfl, nm3, hx5⟩
      have Hvnx5 := Lib.hid (Hvnx4.out.keep hx5)
      have Hvdx5 := Lib.hid (Hvdx4.out.keep hx5)
      have Hvax5 := Lib.hid (Hvax4.out.keep hx5)
      have Hvbx5 := Lib.hid (Hvbx4.out.keep hx5)
      have Hvcx5 := Lib.hid (Hvcx4.out.keep hx5)
      have Hvex5 := Lib.hid (Hvex4.out.keep hx5)
      have Hvpx5 := Lib.hid (Hvpx4.out.keep hx5)
      have Hvqx5 := Lib.hid (Hvqx4.out.keep hx5)
      have Hv1x5 := Lib.hid (Hv1x4.out.keep hx5)
      have Hwwx5 := Lib.hid (Hwwx4.out.keep hx5)
      have Hrrx5 := Lib.hid (Hrrx4.out.keep hx5)
      have Habx5 := Lib.hid (Habx4.out.keep hx5)
      have Hm1x5 := Lib.hid (Hm1x4.out.keep hx5)
      have Hm2x5 := Lib.hid (Hm2x4.out.keep hx5)
      have Hu1x5 := Lib.hid (Hu1x4.out.keep hx5)
      have HBx5 := Lib.hid (HBx4.out.trans (hx5.mono HBx4.out.size))
      clear hx5 HBx4 Hvnx4 Hvdx4 Hvax4 Hvbx4 Hvcx4 Hvex4 Hvpx4 Hvqx4 Hv1x4 Hwwx4 Hrrx4 Habx4 Hm1x4 Hm2x4 Hu1x4
      obtain ⟨Am3, lm3, cm3, rfl, -⟩ := nm3.is_slice
      have Hm3x5 := Lib.hid nm3
      clear nm3
      go_wp2_with fail
      refine (add_num _ _ _ ((a / b + 1) * q) q' 602 300 Hm3x5.out Hvqx5.out (SW1.out.mul SZ.out.2.2.2.2.2.2.1) SZ.out.2.2.2.2.2.2.2 (by omega) (by omega)).mono ?_
      rintro e x6 ⟨u2, rfl, nu2, hx6⟩
      have Hvnx6 := Lib.hid (Hvnx5.out.keep hx6)
      have Hvdx6 := Lib.hid (Hvdx5.out.keep hx6)
      have Hvax6 := Lib.hid (Hvax5.out.keep hx6)
      have Hvbx6 := Lib.hid (Hvbx5.out.keep hx6)
      have Hvcx6 := Lib.hid (Hvcx5.out.keep hx6)
      have Hvex6 := Lib.hid (Hvex5.out.keep hx6)
      have Hvpx6 := Lib.hid (Hvpx5.out.keep hx6)
      have Hvqx6 := Lib.hid (Hvqx5.out.keep hx6)
      have Hv1x6 := Lib.hid (Hv1x5.out.keep hx6)
      have Hwwx6 := Lib.hid (Hwwx5.out.keep hx6)
      have Hrrx6 := Lib.hid (Hrrx5.out.keep hx6)
      have Habx6 := Lib.hid (Habx5.out.keep hx6)
      have Hm1x6 := Lib.hid (Hm1x5.out.keep hx6)
      have Hm2x6 := Lib.hid (Hm2x5.out.keep hx6)
      have Hu1x6 := Lib.hid (Hu1x5.out.keep hx6)
      have Hm3x6 := Lib.hid (Hm3x5.out.keep hx6)
      have HBx6 := Lib.hid (HBx5.out.trans (hx6.mono HBx5.out.size))
      clear hx6 HBx5 Hvnx5 Hvdx5 Hvax5 Hvbx5 Hvcx5 Hvex5 Hvpx5 Hvqx5 Hv1x5 Hwwx5 Hrrx5 Habx5 Hm1x5 Hm2x5 Hu1x5 Hm3x5
      obtain ⟨Au2, lu2, cu2, rfl, -⟩ := nu2.is_slice
      have Hu2x6 := Lib.hid nu2
      clear nu2
      go_wp2_with fail
      have r1 := Hu1x6.out; have r2 := Hu2x6.out
      rw [HX.out.1] at r1; rw [HX.out.2] at r2
      go_ret2
      exact ⟨_, _, rfl, r1, r2, HBL.out.trans (HBx6.out.mono HBL.out.size)⟩
    · have tn : decide (Big.cmpI ((a / b + 1) * d) c < 0) = false := decide_eq_false (by unfold Big.cmpI; rw [if_neg hn]; split <;> omega)
      generalize Big.cmpI ((a / b + 1) * d) c = cc at *
      go_wp2_with fail
      refine (mul_num _ _ _ (a / b) p 300 300 Hwwxc.out Hvnxc.out SW.out SZ.out.2.2.2.2.1 (by omega) (by omega)).mono ?_
      rintro e x3 ⟨m2, rfl, nm2, hx3⟩
      have Hvnx3 := Lib.hid (Hvnxc.out.keep hx3)
      have Hvdx3 := Lib.hid (Hvdxc.out.keep hx3)
      have Hvax3 := Lib.hid (Hvaxc.out.keep hx3)
      have Hvbx3 := Lib.hid (Hvbxc.out.keep hx3)
      have Hvcx3 := Lib.hid (Hvcxc.out.keep hx3)
      have Hvex3 := Lib.hid (Hvexc.out.keep hx3)
      have Hvpx3 := Lib.hid (Hvpxc.out.keep hx3)
      have Hvqx3 := Lib.hid (Hvqxc.out.keep hx3)
      have Hv1x3 := Lib.hid (Hv1xc.out.keep hx3)
      have Hwwx3 := Lib.hid (Hwwxc.out.keep hx3)
      have Hrrx3 := Lib.hid (Hrrxc.out.keep hx3)
      have Habx3 := Lib.hid (Habxc.out.keep hx3)
      have Hm1x3 := Lib.hid (Hm1xc.out.keep hx3)
      have HBx3 := Lib.hid (HBxc.out.trans (hx3.mono HBxc.out.size))
      clear hx3 HBxc Hvnxc Hvdxc Hvaxc Hvbxc Hvcxc Hvexc Hvpxc Hvqxc Hv1xc Hwwxc Hrrxc Habxc Hm1xc
      obtain ⟨Am2, lm2, cm2, rfl, -⟩ := nm2.is_slice
      have Hm2x3 := Lib.hid nm2
      clear nm2
      go_wp2_with fail
      refine (add_num _ _ _ (a / b * p) p' 600 300 Hm2x3.out Hvpx3.out (SW.out.mul SZ.out.2.2.2.2.1) SZ.out.2.2.2.2.2.1 (by omega) (by omega)).mono ?_
      rintro e x4 ⟨u1, rfl, nu1, hx4⟩
      have Hvnx4 := Lib.hid (Hvnx3.out.keep hx4)
      have Hvdx4 := Lib.hid (Hvdx3.out.keep hx4)
      have Hvax4 := Lib.hid (Hvax3.out.keep hx4)
      have Hvbx4 := Lib.hid (Hvbx3.out.keep hx4)
      have Hvcx4 := Lib.hid (Hvcx3.out.keep hx4)
      have Hvex4 := Lib.hid (Hvex3.out.keep hx4)
      have Hvpx4 := Lib.hid (Hvpx3.out.keep hx4)
      have Hvqx4 := Lib.hid (Hvqx3.out.keep hx4)
      have Hv1x4 := Lib.hid (Hv1x3.out.keep hx4)
      have Hwwx4 := Lib.hid (Hwwx3.out.keep hx4)
      have Hrrx4 := Lib.hid (Hrrx3.out.keep hx4)
      have Habx4 := Lib.hid (Habx3.out.keep hx4)
      have Hm1x4 := Lib.hid (Hm1x3.out.keep hx4)
      have Hm2x4 := Lib.hid (Hm2x3.out.keep hx4)
      have HBx4 := Lib.hid (HBx3.out.trans (hx4.mono HBx3.out.size))
      clear hx4 HBx3 Hvnx3 Hvdx3 Hvax3 Hvbx3 Hvcx3 Hvex3 Hvpx3 Hvqx3 Hv1x3 Hwwx3 Hrrx3 Habx3 Hm1x3 Hm2x3
      obtain ⟨Au1, lu1, cu1, rfl, -⟩ := nu1.is_slice
      have Hu1x4 := Lib.hid nu1
      clear nu1
      go_wp2_with fail
      refine (mul_num _ _ _ (a / b) q 300 300 Hwwx4.out Hvdx4.out SW.out SZ.out.2.2.2.2.2.2.1 (by omega) (by omega)).mono ?_
      rintro e x5 ⟨m3, rfl, nm3, hx5⟩
      have Hvnx5 := Lib.hid (Hvnx4.out.keep hx5)
      have Hvdx5 := Lib.hid (Hvdx4.out.keep hx5)
      have Hvax5 := Lib.hid (Hvax4.out.keep hx5)
      have Hvbx5 := Lib.hid (Hvbx4.out.keep hx5)
      have Hvcx5 := Lib.hid (Hvcx4.out.keep hx5)
      have Hvex5 := Lib.hid (Hvex4.out.keep hx5)
      have Hvpx5 := Lib.hid (Hvpx4.out.keep hx5)
      have Hvqx5 := Lib.hid (Hvqx4.out.keep hx5)
      have Hv1x5 := Lib.hid (Hv1x4.out.keep hx5)
      have Hwwx5 := Lib.hid (Hwwx4.out.keep hx5)
      have Hrrx5 := Lib.hid (Hrrx4.out.keep hx5)
      have Habx5 := Lib.hid (Habx4.out.keep hx5)
      have Hm1x5 := Lib.hid (Hm1x4.out.keep hx5)
      have Hm2x5 := Lib.hid (Hm2x4.out.keep hx5)
      have Hu1x5 := Lib.hid (Hu1x4.out.keep hx5)
      have HBx5 := Lib.hid (HBx4.out.trans (hx5.mono HBx4.out.size))
      clear hx5 HBx4 Hvnx4 Hvdx4 Hvax4 Hvbx4 Hvcx4 Hvex4 Hvpx4 Hvqx4 Hv1x4 Hwwx4 Hrrx4 Habx4 Hm1x4 Hm2x4 Hu1x4
      obtain ⟨Am3, lm3, cm3, rfl, -⟩ := nm3.is_slice
      have Hm3x5 := Lib.hid nm3
      clear nm3
      go_wp2_with fail
      refine (add_num _ _ _ (a / b * q) q' 600 300 Hm3x5.out Hvqx5.out (SW.out.mul SZ.out.2.2.2.2.2.2.1) SZ.out.2.2.2.2.2.2.2 (by omega) (by omega)).mono ?_
      rintro e x6 ⟨u2, rfl, nu2, hx6⟩
      have Hvnx6 := Lib.hid (Hvnx5.out.keep hx6)
      have Hvdx6 := Lib.hid (Hvdx5.out.keep hx6)
      have Hvax6 := Lib.hid (Hvax5.out.keep hx6)
      have Hvbx6 := Lib.hid (Hvbx5.out.keep hx6)
      have Hvcx6 := Lib.hid (Hvcx5.out.keep hx6)
      have Hvex6 := Lib.hid (Hvex5.out.keep hx6)
      have Hvpx6 := Lib.hid (Hvpx5.out.keep hx6)
      have Hvqx6 := Lib.hid (Hvqx5.out.keep hx6)
      have Hv1x6 := Lib.hid (Hv1x5.out.keep hx6)
      have Hwwx6 := Lib.hid (Hwwx5.out.keep hx6)
      have Hrrx6 := Lib.hid (Hrrx5.out.keep hx6)
      have Habx6 := Lib.hid (Habx5.out.keep hx6)
      have Hm1x6 := Lib.hid (Hm1x5.out.keep hx6)
      have Hm2x6 := Lib.hid (Hm2x5.out.keep hx6)
      have Hu1x6 := Lib.hid (Hu1x5.out.keep hx6)
      have Hm3x6 := Lib.hid (Hm3x5.out.keep hx6)
      have HBx6 := Lib.hid (HBx5.out.trans (hx6.mono HBx5.out.size))
      clear hx6 HBx5 Hvnx5 Hvdx5 Hvax5 Hvbx5 Hvcx5 Hvex5 Hvpx5 Hvqx5 Hv1x5 Hwwx5 Hrrx5 Habx5 Hm1x5 Hm2x5 Hu1x5 Hm3x5
      obtain ⟨Au2, lu2, cu2, rfl, -⟩ := nu2.is_slice
      have Hu2x6 := Lib.hid nu2
      clear nu2
      go_wp2_with fail
      refine (mul_num _ _ _ (a / b) d 300 300 Hwwx6.out Hvex6.out SW.out SZ.out.2.2.2.1 (by omega) (by omega)).mono ?_
      rintro e x7 ⟨m4, rfl, nm4, hx7⟩
      have Hvnx7 := Lib.hid (Hvnx6.out.keep hx7)
      have Hvdx7 := Lib.hid (Hvdx6.out.keep hx7)
      have Hvax7 := Lib.hid (Hvax6.out.keep hx7)
      have Hvbx7 := Lib.hid (Hvbx6.out.keep hx7)
      have Hvcx7 := Lib.hid (Hvcx6.out.keep hx7)
      have Hvex7 := Lib.hid (Hvex6.out.keep hx7)
      have Hvpx7 := Lib.hid (Hvpx6.out.keep hx7)
      have Hvqx7 := Lib.hid (Hvqx6.out.keep hx7)
      have Hv1x7 := Lib.hid (Hv1x6.out.keep hx7)
      have Hwwx7 := Lib.hid (Hwwx6.out.keep hx7)
      have Hrrx7 := Lib.hid (Hrrx6.out.keep hx7)
      have Habx7 := Lib.hid (Habx6.out.keep hx7)
      have Hm1x7 := Lib.hid (Hm1x6.out.keep hx7)
      have Hm2x7 := Lib.hid (Hm2x6.out.keep hx7)
      have Hu1x7 := Lib.hid (Hu1x6.out.keep hx7)
      have Hm3x7 := Lib.hid (Hm3x6.out.keep hx7)
      have Hu2x7 := Lib.hid (Hu2x6.out.keep hx7)
      have HBx7 := Lib.hid (HBx6.out.trans (hx7.mono HBx6.out.size))
      clear hx7 HBx6 Hvnx6 Hvdx6 Hvax6 Hvbx6 Hvcx6 Hvex6 Hvpx6 Hvqx6 Hv1x6 Hwwx6 Hrrx6 Habx6 Hm1x6 Hm2x6 Hu1x6 Hm3x6 Hu2x6
      obtain ⟨Am4, lm4, cm4, rfl, -⟩ := nm4.is_slice
      have Hm4x7 := Lib.hid nm4
      clear nm4
      go_wp2_with fail
      refine (sub_num _ _ _ c (a / b * d) 300 Hvcx7.out Hm4x7.out SZ.out.2.2.1 (by omega)).mono ?_
      rintro e x8 ⟨u3, rfl, nu3, hx8⟩
      have Hvnx8 := Lib.hid (Hvnx7.out.keep hx8)
      have Hvdx8 := Lib.hid (Hvdx7.out.keep hx8)
      have Hvax8 := Lib.hid (Hvax7.out.keep hx8)
      have Hvbx8 := Lib.hid (Hvbx7.out.keep hx8)
      have Hvcx8 := Lib.hid (Hvcx7.out.keep hx8)
      have Hvex8 := Lib.hid (Hvex7.out.keep hx8)
      have Hvpx8 := Lib.hid (Hvpx7.out.keep hx8)
      have Hvqx8 := Lib.hid (Hvqx7.out.keep hx8)
      have Hv1x8 := Lib.hid (Hv1x7.out.keep hx8)
      have Hwwx8 := Lib.hid (Hwwx7.out.keep hx8)
      have Hrrx8 := Lib.hid (Hrrx7.out.keep hx8)
      have Habx8 := Lib.hid (Habx7.out.keep hx8)
      have Hm1x8 := Lib.hid (Hm1x7.out.keep hx8)
      have Hm2x8 := Lib.hid (Hm2x7.out.keep hx8)
      have Hu1x8 := Lib.hid (Hu1x7.out.keep hx8)
      have Hm3x8 := Lib.hid (Hm3x7.out.keep hx8)
      have Hu2x8 := Lib.hid (Hu2x7.out.keep hx8)
      have Hm4x8 := Lib.hid (Hm4x7.out.keep hx8)
      have HBx8 := Lib.hid (HBx7.out.trans (hx8.mono HBx7.out.size))
      clear hx8 HBx7 Hvnx7 Hvdx7 Hvax7 Hvbx7 Hvcx7 Hvex7 Hvpx7 Hvqx7 Hv1x7 Hwwx7 Hrrx7 Habx7 Hm1x7 Hm2x7 Hu1x7 Hm3x7 Hu2x7 Hm4x7
      obtain ⟨Au3, lu3, cu3, rfl, -⟩ := nu3.is_slice
      have Hu3x8 := Lib.hid nu3
      clear nu3
      go_wp2_with fail
      obtain ⟨gf, hgf, HCV2⟩ := HCV.out.step hn
      refine ⟨⟨_, _, _, _, _, _, _, _, gf, Lib.hid HCV2, HPQ2, Hu1x8, Hu2x8, Hvex8, Hu3x8, Hvbx8, Hrrx8, Hvnx8, Hvdx8, HBx8⟩, ?_⟩
      rw [numAt_in HMs.out.1, numAt_in HMs.out.2.1, numAt_in HMs.out.2.2.1, numAt_in HMs.out.2.2.2, numAt_in Hvex8.out, numAt_in Hu3x8.out, numAt_in Hvbx8.out, numAt_in Hrrx8.out]
      exact HCV.out.ends.fall hn
end Go.Proofs.YtepnghhgmjobjaaDoor
namespace Go.Proofs.YtepnghhgmjobjaaDoor
open Go.RowKit
def NumX (b : World) (q : Rat) (e : Ending) (w' : World) : Prop := ∃ v', e = .returned v' ∧ NumIn w' v' q ∧ Below b.heap.size b w'
theorem numX {P : Program} {f : FuncId} {args : Array Value} {b W : World} {q : Rat} (h : Below b.heap.size b W) (c : Calls P f args W (Num1 W q)) : Calls P f args W (NumX b q) :=
  c.mono fun _ _ ⟨v, h1, h2, h3⟩ => ⟨v, h1, h2, h.trans (h3.mono h.size)⟩
def NatX (b : World) (X Y : Nat) (e : Ending) (w' : World) : Prop := ∃ u v, e = .returned (.tuple #[u, v]) ∧ NatIn w' u X ∧ NatIn w' v Y ∧ Below b.heap.size b w'
def NumY (b W : World) (q : Rat) (e : Ending) (w' : World) : Prop := ∃ v', e = .returned v' ∧ NumIn w' v' q ∧ Below b.heap.size b w' ∧ Below W.heap.size W w'
theorem numY {P : Program} {f : FuncId} {args : Array Value} {b W : World} {q : Rat} (h : Below b.heap.size b W) (c : Calls P f args W (Num1 W q)) : Calls P f args W (NumY b W q) :=
  c.mono fun _ _ ⟨v, h1, h2, h3⟩ => ⟨v, h1, h2, h.trans (h3.mono h.size), h3⟩
theorem numdr {w : World} {v : Value} {q : Rat} (h : NumIn w v q) : NumIn w.drew v q := h.keep (below_drew (Below.refl _ _))
def Nat1X (b : World) (X : Nat) (e : Ending) (w' : World) : Prop := ∃ u, e = .returned u ∧ NatIn w' u X ∧ Below b.heap.size b w'
theorem nat1X {P : Program} {f : FuncId} {args : Array Value} {b W : World} {X : Nat} (h : Below b.heap.size b W) (c : Calls P f args W (Nat1 W X)) : Calls P f args W (Nat1X b X) :=
  c.mono fun _ _ ⟨u, h1, h2, h4⟩ => ⟨u, h1, h2, h.trans (h4.mono h.size)⟩
theorem natX {P : Program} {f : FuncId} {args : Array Value} {b W : World} {X Y : Nat} (h : Below b.heap.size b W) (c : Calls P f args W (Nat22 W X Y)) : Calls P f args W (NatX b X Y) :=
  c.mono fun _ _ ⟨u, v, h1, h2, h3, h4⟩ => ⟨u, v, h1, h2, h3, h.trans (h4.mono h.size)⟩
theorem signX {P : Program} {f : FuncId} {args : Array Value} {b W : World} {v : Value} (h : Below b.heap.size b W) (c : Calls P f args W fun e w' => e = .returned v ∧ Below W.heap.size W w') :
    Calls P f args W fun e w' => e = .returned v ∧ Below b.heap.size b w' :=
  c.mono fun _ _ ⟨h1, h2⟩ => ⟨h1, h.trans (h2.mono h.size)⟩
theorem spQ_of {x y : Rat} (hx : Big.ng x = false) (hy : Big.ng y = false) (h : x < y) :
    ∃ X Y : Nat, (Big.sp (Big.spm (Big.nu x) (Big.de x) (Big.nu y) (Big.de y) + 1) (Big.nu x) (Big.de x) (Big.nu y) (Big.de y)).1 = X ∧ (Big.sp (Big.spm (Big.nu x) (Big.de x) (Big.nu y) (Big.de y) + 1) (Big.nu x) (Big.de x) (Big.nu y) (Big.de y)).2 = Y ∧
      X ≤ Big.nu x + Big.nu y ∧ Y ≤ Big.de x + Big.de y ∧ 1 ≤ Y ∧ mkRat (Big.sI false X) Y = Big.spQ x y ∧ mkRat (Big.sI true X) Y = -Big.spQ x y := by
  obtain ⟨-, -, -, i4, i5, i6, -⟩ := Big.sp_all _ _ _ _ _ (Big.ends_of hx hy h) (Nat.lt_succ_self _)
  refine ⟨_, _, rfl, rfl, i5, i6, i4, rfl, ?_⟩
  unfold Big.spQ
  rw [Big.sI_true, Rat.neg_mkRat]
theorem sg_neg {q : Rat} (h : Big.ng q = true) : decide (sgQ q < 0) = true := by
  unfold sgQ; rw [if_pos (by rw [h])]; decide
theorem sg_nn {q : Rat} (h : Big.ng q = false) : decide (sgQ q < 0) = false := by
  unfold sgQ; rw [if_neg (by rw [h]; simp)]; split <;> decide
theorem sg_pos {q : Rat} (h : 0 < q) : decide (0 < sgQ q) = true := by
  have hn : Big.ng q = false := Big.not_neg.2 (Rat.le_of_lt h)
  unfold sgQ; rw [if_neg (by rw [hn]; simp)]
  have : Big.nu q ≠ 0 := by
    intro e
    have hz : q = 0 := Rat.num_eq_zero.1 (by unfold Big.nu at e; omega)
    rw [hz] at h; exact absurd h (by decide)
  rw [if_neg this]; decide
theorem sg_npos {q : Rat} (h : q ≤ 0) : decide (0 < sgQ q) = false := by
  unfold sgQ
  cases hn : Big.ng q
  · have h1 := Big.not_neg.1 hn
    have hz : q = 0 := Rat.le_antisymm h h1
    subst hz; decide
  · rw [if_pos rfl]; decide
set_option maxRecDepth 100000 in
set_option maxHeartbeats 4000000 in
theorem simplest_pos (w : World) (vx vy : Value) (x y : Rat) (hx : NumIn w vx x) (hy : NumIn w vy y) (zx : Sm 64 x) (zy : Sm 64 y) (hlt : x < y) (hgx : Big.ng x = false) :
    Calls Tryd.prog 29 #[vx, vy] w (Num1 w (Big.simplest x y)) := by
  have hgy : Big.ng y = false := Big.not_neg.2 (Rat.le_trans (Big.not_neg.1 hgx) (Rat.le_of_lt hlt))
  obtain ⟨X, Y, e1, e2, e3, e4, e5, e6, -⟩ := spQ_of hgx hgy hlt
  have es : Big.simplest x y = Big.spQ x y := by unfold Big.simplest; rw [hgx]; rfl
  rw [es]
  obtain ⟨Z, hZ⟩ : ∃ z, Big.spQ x y = z := ⟨_, rfl⟩
  rw [hZ] at e6 ⊢
  have hS : Sz 300 (Big.nu x + Big.nu y + (Big.de x + Big.de y)) := ((zx.nu.add zy.nu).add (zx.de.add zy.de)).up (by omega)
  have sX := hS.le (show X ≤ _ by omega); have sY := hS.le (show Y ≤ _ by omega)
  have HAb := Lib.hid (fun W v u (h : NumIn W v x) (i : NumIn W u y) => above_any W v u x y h i hgx hgy hlt _ _ X Y rfl rfl e1 e2 hS)
  have HO := Lib.hid (show ∀ W v u, NatIn W v X → NatIn W u Y → Calls Tryd.prog 31 #[.bool false, v, u] W (Num1 W Z) from fun W v u h i => by
    have c := exOf_any W false v u X Y 300 300 h i sX sY (by omega) (by omega) e5
    rw [e6] at c; exact c)
  have t1 := sg_nn hgx
  clear es hZ e1 e2 e3 e4 e5 e6 hS sX sY zx zy hlt hgx hgy
  obtain ⟨A1, l1, c1, A2, l2, c2, rfl, -, -⟩ := hx.is_agg
  obtain ⟨B1, m1, d1, B2, m2, d2, rfl, -, -⟩ := hy.is_agg
  obtain ⟨nx, hnx⟩ : ∃ z, Big.ng x = z := ⟨_, rfl⟩
  obtain ⟨ny, hny⟩ : ∃ z, Big.ng y = z := ⟨_, rfl⟩
  obtain ⟨sx, hsx⟩ : ∃ z, sgQ x = z := ⟨_, rfl⟩
  obtain ⟨sy, hsy⟩ : ∃ z, sgQ y = z := ⟨_, rfl⟩
  rw [hnx] at hx ⊢
  rw [hny] at hy ⊢
  obtain ⟨X0, Y0, R0, B0⟩ := boxed3 w 45 45 (.bool nx) (.slice A1 l1 c1) (.slice A2 l2 c2) (.bool ny) (.slice B1 m1 d1) (.slice B2 m2 d2) (.bool false) (.slice none 0 0) (.slice none 0 0)
  have HXi := Lib.hid (hx.keep B0); have HYi := Lib.hid (hy.keep B0)
  have HX0 := Lib.hid X0; have HY0 := Lib.hid Y0; have HR0 := Lib.hid R0; have HB0 := Lib.hid B0
  clear X0 Y0 R0 B0 hx hy
  rw [hsx] at t1
  go_enter Tryd.func29, Tryd.ntmps29
  go_upto_region 1 with fail
  generalize ((w.alloc (.cells #[.bool nx, .slice A1 l1 c1, .slice A2 l2 c2] 45)).alloc (.cells #[.bool ny, .slice B1 m1 d1, .slice B2 m2 d2] 45)).alloc (.cells #[.bool false, .slice none 0 0, .slice none 0 0] 45) = w0 at *
  have KX := Lib.hid (show ∀ w', Below w0.heap.size w0 w' → w'.cell? ⟨w.heap.size, 0, none⟩ = some (.bool nx) ∧ w'.cell? ⟨w.heap.size, 1, none⟩ = some (.slice A1 l1 c1) ∧ w'.cell? ⟨w.heap.size, 2, none⟩ = some (.slice A2 l2 c2) ∧ w'.cell? ⟨w.heap.size + 1, 0, none⟩ = some (.bool ny) ∧ w'.cell? ⟨w.heap.size + 1, 1, none⟩ = some (.slice B1 m1 d1) ∧ w'.cell? ⟨w.heap.size + 1, 2, none⟩ = some (.slice B2 m2 d2) from fun W h => ⟨(HX0.out.keep h).c0, (HX0.out.keep h).c1, (HX0.out.keep h).c2, (HY0.out.keep h).c0, (HY0.out.keep h).c1, (HY0.out.keep h).c2⟩)
  have CSX := Lib.hid (show ∀ W, Below w0.heap.size w0 W → Calls Tryd.prog 23 #[.agg #[.bool nx, .slice A1 l1 c1, .slice A2 l2 c2]] W fun e w' => e = .returned (.int .i64 sx) ∧ Below w0.heap.size w0 w' from fun W h => signX h (hsx ▸ exSign_any W _ x (HXi.out.keep h)))
  have CSY := Lib.hid (show ∀ W, Below w0.heap.size w0 W → Calls Tryd.prog 23 #[.agg #[.bool ny, .slice B1 m1 d1, .slice B2 m2 d2]] W fun e w' => e = .returned (.int .i64 sy) ∧ Below w0.heap.size w0 w' from fun W h => signX h (hsy ▸ exSign_any W _ y (HYi.out.keep h)))
  have CAb := Lib.hid (show ∀ W, Below w0.heap.size w0 W → Calls Tryd.prog 48 #[.agg #[.bool nx, .slice A1 l1 c1, .slice A2 l2 c2], .agg #[.bool ny, .slice B1 m1 d1, .slice B2 m2 d2]] W (NatX w0 X Y) from fun W h => natX h (HAb.out W _ _ (HXi.out.keep h) (HYi.out.keep h)))
  have CO := Lib.hid (show ∀ W v u, Below w0.heap.size w0 W → NatIn W v X → NatIn W u Y → Calls Tryd.prog 31 #[.bool false, v, u] W (NumX w0 Z) from fun W v u h a b => numX h (HO.out W v u a b))
  have HSS := Lib.hid (And.intro hsx hsy); have HNN := Lib.hid (And.intro hnx hny)
  clear HAb HO hsx hsy hnx hny
  have hb0 := Below.refl w0.heap.size w0
  obtain ⟨k0, k1, k2, k3, k4, k5⟩ := KX.out _ hb0
  go_wp2_with (first | (go_at_call 23; (first | with_reducible refine (CSX.out _ (by first | assumption | exact Below.refl _ _ | exact below_drew (Below.refl _ _) | exact below_drew (by assumption))).mono ?_ | with_reducible refine (CSY.out _ (by first | assumption | exact Below.refl _ _ | exact below_drew (Below.refl _ _) | exact below_drew (by assumption))).mono ?_); rintro e w2 ⟨rfl, hw2⟩; obtain ⟨k0, k1, k2, k3, k4, k5⟩ := KX.out _ hw2) | (go_at_call 48; (with_reducible refine (CAb.out _ (by first | assumption | exact Below.refl _ _ | exact below_drew (Below.refl _ _) | exact below_drew (by assumption))).mono ?_); rintro e w3 ⟨u, v, rfl, hu, hv, hw3⟩; have HU := Lib.hid (And.intro hu hv); clear hu hv; obtain ⟨k0, k1, k2, k3, k4, k5⟩ := KX.out _ hw3) | fail)
  refine (CO.out _ _ _ (by first | assumption | exact Below.refl _ _ | exact below_drew (Below.refl _ _) | exact below_drew (by assumption)) HU.out.1 HU.out.2).mono ?_
  rintro e w4 ⟨v4, rfl, hv4, hw4⟩
  have RR := HR0.out.keep hw4
  have f0 := RR.frozen 0; have f1 := RR.frozen 1; have f2 := RR.frozen 2
  have q0 := RR.c0; have q1 := RR.c1; have q2 := RR.c2
  obtain ⟨A8, l8, c8, A9, l9, c9, rfl, h8, h9⟩ := hv4.is_agg
  have HH := Lib.hid (And.intro h8 h9)
  have HBF := Lib.hid (HB0.out.trans (hw4.mono HB0.out.size))
  clear hv4 h8 h9
  obtain ⟨nz, hnz⟩ : ∃ z, Big.ng Z = z := ⟨_, rfl⟩
  rw [hnz]
  have HNZ := Lib.hid hnz
  clear hnz
  go_wp2_with fail
  obtain ⟨D1, D2, D3⟩ := num_done (bb := nz) (show NumRes w4 _ _ from RR) HBF.out (by omega) HH.out.1 HH.out.2 HNZ.out.symm
  have HD1 := Lib.hid D1; have HD2 := Lib.hid D2; have HD3 := Lib.hid D3
  clear D1 D2 D3 q0 q1 q2 f0 f1 f2 RR k0 k1 k2 k3 k4 k5
  generalize (((w4.setCell ⟨w.heap.size + 1 + 1, 0, none⟩ (.bool (nz))).setCell ⟨w.heap.size + 1 + 1, 1, none⟩ (.slice A8 l8 c8)).setCell ⟨w.heap.size + 1 + 1, 2, none⟩ (.slice A9 l9 c9)) = wz at HD1 HD2 HD3 ⊢
  have r0 := HD1.out.c0; have r1 := HD1.out.c1; have r2 := HD1.out.c2
  exact bodyPost_ret (v := .agg #[.bool (nz), (.slice A8 l8 c8), (.slice A9 l9 c9)]) (by simp [results, Tryd.results29, go_sem, r0, r1, r2]) rfl ⟨_, rfl, HD2.out, HD3.out⟩
set_option maxRecDepth 100000 in
set_option maxHeartbeats 4000000 in
theorem simplest_mid (w : World) (vx vy : Value) (x y : Rat) (hx : NumIn w vx x) (hy : NumIn w vy y) (hgx : Big.ng x = true) (hy0 : 0 < y) :
    Calls Tryd.prog 29 #[vx, vy] w (Num1 w (Big.simplest x y)) := by
  have hgy : Big.ng y = false := Big.not_neg.2 (Rat.le_of_lt hy0)
  have hny0 : Big.nu y ≠ 0 := by
    intro e; rw [Big.nu_zero.1 e] at hy0; exact absurd hy0 (by decide)
  have es : Big.simplest x y = 0 := by unfold Big.simplest; rw [if_pos hgx, if_pos ⟨hgy, by omega⟩]
  rw [es]
  have HO := Lib.hid (show ∀ W v u, NatIn W v 0 → NatIn W u 1 → Calls Tryd.prog 31 #[.bool false, v, u] W (Num1 W 0) from fun W v u h i => by
    have c := exOf_any W false v u 0 1 1 1 h i ⟨by decide⟩ ⟨by decide⟩ (by omega) (by omega) (by omega)
    rw [show mkRat (Big.sI false 0) 1 = 0 from by decide +kernel] at c; exact c)
  have t1 := sg_neg hgx
  have t2 := sg_pos hy0
  clear es hgx hgy hy0 hny0
  obtain ⟨A1, l1, c1, A2, l2, c2, rfl, -, -⟩ := hx.is_agg
  obtain ⟨B1, m1, d1, B2, m2, d2, rfl, -, -⟩ := hy.is_agg
  obtain ⟨nx, hnx⟩ : ∃ z, Big.ng x = z := ⟨_, rfl⟩
  obtain ⟨ny, hny⟩ : ∃ z, Big.ng y = z := ⟨_, rfl⟩
  obtain ⟨sx, hsx⟩ : ∃ z, sgQ x = z := ⟨_, rfl⟩
  obtain ⟨sy, hsy⟩ : ∃ z, sgQ y = z := ⟨_, rfl⟩
  rw [hnx] at hx ⊢
  rw [hny] at hy ⊢
  obtain ⟨X0, Y0, R0, B0⟩ := boxed3 w 45 45 (.bool nx) (.slice A1 l1 c1) (.slice A2 l2 c2) (.bool ny) (.slice B1 m1 d1) (.slice B2 m2 d2) (.bool false) (.slice none 0 0) (.slice none 0 0)
  have HXi := Lib.hid (hx.keep B0); have HYi := Lib.hid (hy.keep B0)
  have HX0 := Lib.hid X0; have HY0 := Lib.hid Y0; have HR0 := Lib.hid R0; have HB0 := Lib.hid B0
  clear X0 Y0 R0 B0 hx hy
  rw [hsx] at t1
  rw [hsy] at t2
  go_enter Tryd.func29, Tryd.ntmps29
  go_upto_region 1 with fail
  generalize ((w.alloc (.cells #[.bool nx, .slice A1 l1 c1, .slice A2 l2 c2] 45)).alloc (.cells #[.bool ny, .slice B1 m1 d1, .slice B2 m2 d2] 45)).alloc (.cells #[.bool false, .slice none 0 0, .slice none 0 0] 45) = w0 at *
  have KX := Lib.hid (show ∀ w', Below w0.heap.size w0 w' → w'.cell? ⟨w.heap.size, 0, none⟩ = some (.bool nx) ∧ w'.cell? ⟨w.heap.size, 1, none⟩ = some (.slice A1 l1 c1) ∧ w'.cell? ⟨w.heap.size, 2, none⟩ = some (.slice A2 l2 c2) ∧ w'.cell? ⟨w.heap.size + 1, 0, none⟩ = some (.bool ny) ∧ w'.cell? ⟨w.heap.size + 1, 1, none⟩ = some (.slice B1 m1 d1) ∧ w'.cell? ⟨w.heap.size + 1, 2, none⟩ = some (.slice B2 m2 d2) from fun W h => ⟨(HX0.out.keep h).c0, (HX0.out.keep h).c1, (HX0.out.keep h).c2, (HY0.out.keep h).c0, (HY0.out.keep h).c1, (HY0.out.keep h).c2⟩)
  have CSX := Lib.hid (show ∀ W, Below w0.heap.size w0 W → Calls Tryd.prog 23 #[.agg #[.bool nx, .slice A1 l1 c1, .slice A2 l2 c2]] W fun e w' => e = .returned (.int .i64 sx) ∧ Below w0.heap.size w0 w' from fun W h => signX h (hsx ▸ exSign_any W _ x (HXi.out.keep h)))
  have CSY := Lib.hid (show ∀ W, Below w0.heap.size w0 W → Calls Tryd.prog 23 #[.agg #[.bool ny, .slice B1 m1 d1, .slice B2 m2 d2]] W fun e w' => e = .returned (.int .i64 sy) ∧ Below w0.heap.size w0 w' from fun W h => signX h (hsy ▸ exSign_any W _ y (HYi.out.keep h)))
  have CO := Lib.hid (show ∀ W u, Below w0.heap.size w0 W → NatIn W u 1 → Calls Tryd.prog 31 #[.bool false, .slice none 0 0, u] W (NumX w0 0) from fun W u h b => numX h (HO.out W _ u (NatIn.nil_ _) b))
  have CN := Lib.hid (show ∀ W, Below w0.heap.size w0 W → Calls Tryd.prog 47 #[.int .u64 1] W (Nat1X w0 1) from fun W h => nat1X h (of_num W 1 (by decide)))
  have HSS := Lib.hid (And.intro hsx hsy); have HNN := Lib.hid (And.intro hnx hny)
  clear HO hsx hsy hnx hny
  have hb0 := Below.refl w0.heap.size w0
  obtain ⟨k0, k1, k2, k3, k4, k5⟩ := KX.out _ hb0
  go_wp2_with (first | (go_at_call 23; (first | with_reducible refine (CSX.out _ (by first | assumption | exact Below.refl _ _ | exact below_drew (Below.refl _ _) | exact below_drew (by assumption))).mono ?_ | with_reducible refine (CSY.out _ (by first | assumption | exact Below.refl _ _ | exact below_drew (Below.refl _ _) | exact below_drew (by assumption))).mono ?_); rintro e w2 ⟨rfl, hw2⟩; obtain ⟨k0, k1, k2, k3, k4, k5⟩ := KX.out _ hw2) | (go_at_call 47; (with_reducible refine (CN.out _ (by first | assumption | exact Below.refl _ _ | exact below_drew (Below.refl _ _) | exact below_drew (by assumption))).mono ?_); rintro e w3 ⟨u, rfl, hu, hw3⟩; have HU := Lib.hid hu; clear hu; obtain ⟨k0, k1, k2, k3, k4, k5⟩ := KX.out _ hw3) | fail)
  refine (CO.out _ _ (by first | assumption | exact Below.refl _ _ | exact below_drew (Below.refl _ _) | exact below_drew (by assumption)) HU.out).mono ?_
  rintro e w4 ⟨v4, rfl, hv4, hw4⟩
  have RR := HR0.out.keep hw4
  have f0 := RR.frozen 0; have f1 := RR.frozen 1; have f2 := RR.frozen 2
  have q0 := RR.c0; have q1 := RR.c1; have q2 := RR.c2
  obtain ⟨A8, l8, c8, A9, l9, c9, rfl, h8, h9⟩ := hv4.is_agg
  have HH := Lib.hid (And.intro h8 h9)
  have HBF := Lib.hid (HB0.out.trans (hw4.mono HB0.out.size))
  clear hv4 h8 h9
  obtain ⟨nz, hnz⟩ : ∃ z, Big.ng (0 : Rat) = z := ⟨_, rfl⟩
  rw [hnz]
  have HNZ := Lib.hid hnz
  clear hnz
  go_wp2_with fail
  obtain ⟨D1, D2, D3⟩ := num_done (bb := nz) (show NumRes w4 _ _ from RR) HBF.out (by omega) HH.out.1 HH.out.2 HNZ.out.symm
  have HD1 := Lib.hid D1; have HD2 := Lib.hid D2; have HD3 := Lib.hid D3
  clear D1 D2 D3 q0 q1 q2 f0 f1 f2 RR k0 k1 k2 k3 k4 k5
  generalize (((w4.setCell ⟨w.heap.size + 1 + 1, 0, none⟩ (.bool (nz))).setCell ⟨w.heap.size + 1 + 1, 1, none⟩ (.slice A8 l8 c8)).setCell ⟨w.heap.size + 1 + 1, 2, none⟩ (.slice A9 l9 c9)) = wz at HD1 HD2 HD3 ⊢
  have r0 := HD1.out.c0; have r1 := HD1.out.c1; have r2 := HD1.out.c2
  exact bodyPost_ret (v := .agg #[.bool (nz), (.slice A8 l8 c8), (.slice A9 l9 c9)]) (by simp [results, Tryd.results29, go_sem, r0, r1, r2]) rfl ⟨_, rfl, HD2.out, HD3.out⟩
set_option maxRecDepth 100000 in
set_option maxHeartbeats 4000000 in
theorem simplest_neg (w : World) (vx vy : Value) (x y : Rat) (hx : NumIn w vx x) (hy : NumIn w vy y) (zx : Sm 64 x) (zy : Sm 64 y) (hlt : x < y) (hy0 : y ≤ 0) :
    Calls Tryd.prog 29 #[vx, vy] w (Num1 w (Big.simplest x y)) := by
  have hlt' : -y < -x := Rat.neg_lt_neg hlt
  have hgx : Big.ng x = true := by
    cases h : Big.ng x
    · have h1 := Big.not_neg.1 h
      exact absurd hlt (Rat.not_lt.2 (Rat.le_trans hy0 h1))
    · rfl
  have hny : Big.ng (-y) = false := Big.not_neg.2 (by have := Rat.neg_le_neg hy0; simpa using this)
  have hnx : Big.ng (-x) = false := Big.not_neg.2 (Rat.le_trans (Big.not_neg.1 hny) (Rat.le_of_lt hlt'))
  obtain ⟨X, Y, e1, e2, e3, e4, e5, -, e6⟩ := spQ_of hny hnx hlt'
  have es : Big.simplest x y = -Big.spQ (-y) (-x) := by
    unfold Big.simplest
    rw [if_pos hgx, if_neg (by
      rintro ⟨h1, h2⟩
      have h3 : y = 0 := Rat.le_antisymm hy0 (Big.not_neg.1 h1)
      rw [h3] at h2; exact absurd h2 (by decide))]
  rw [es]
  obtain ⟨Z, hZ⟩ : ∃ z, -Big.spQ (-y) (-x) = z := ⟨_, rfl⟩
  rw [hZ] at e6 ⊢
  have hS : Sz 300 (Big.nu (-y) + Big.nu (-x) + (Big.de (-y) + Big.de (-x))) := ((zy.neg.nu.add zx.neg.nu).add (zy.neg.de.add zx.neg.de)).up (by omega)
  have sX := hS.le (show X ≤ _ by omega); have sY := hS.le (show Y ≤ _ by omega)
  have HAb := Lib.hid (fun W v u (h : NumIn W v (-y)) (i : NumIn W u (-x)) => above_any W v u (-y) (-x) h i hny hnx hlt' _ _ X Y rfl rfl e1 e2 hS)
  have HO := Lib.hid (show ∀ W v u, NatIn W v X → NatIn W u Y → Calls Tryd.prog 31 #[.bool true, v, u] W (Num1 W Z) from fun W v u h i => by
    have c := exOf_any W true v u X Y 300 300 h i sX sY (by omega) (by omega) e5
    rw [e6] at c; exact c)
  have t1 := sg_neg hgx
  have t2 := sg_npos hy0
  clear es hZ e1 e2 e3 e4 e5 e6 hS sX sY zx zy hlt hlt' hgx hny hnx hy0
  obtain ⟨A1, l1, c1, A2, l2, c2, rfl, -, -⟩ := hx.is_agg
  obtain ⟨B1, m1, d1, B2, m2, d2, rfl, -, -⟩ := hy.is_agg
  obtain ⟨nx, hnx⟩ : ∃ z, Big.ng x = z := ⟨_, rfl⟩
  obtain ⟨ny, hny⟩ : ∃ z, Big.ng y = z := ⟨_, rfl⟩
  obtain ⟨sx, hsx⟩ : ∃ z, sgQ x = z := ⟨_, rfl⟩
  obtain ⟨sy, hsy⟩ : ∃ z, sgQ y = z := ⟨_, rfl⟩
  rw [hnx] at hx ⊢
  rw [hny] at hy ⊢
  obtain ⟨X0, Y0, R0, B0⟩ := boxed3 w 45 45 (.bool nx) (.slice A1 l1 c1) (.slice A2 l2 c2) (.bool ny) (.slice B1 m1 d1) (.slice B2 m2 d2) (.bool false) (.slice none 0 0) (.slice none 0 0)
  have HXi := Lib.hid (hx.keep B0); have HYi := Lib.hid (hy.keep B0)
  have HX0 := Lib.hid X0; have HY0 := Lib.hid Y0; have HR0 := Lib.hid R0; have HB0 := Lib.hid B0
  clear X0 Y0 R0 B0 hx hy
  rw [hsx] at t1
  rw [hsy] at t2
  go_enter Tryd.func29, Tryd.ntmps29
  go_upto_region 1 with fail
  generalize ((w.alloc (.cells #[.bool nx, .slice A1 l1 c1, .slice A2 l2 c2] 45)).alloc (.cells #[.bool ny, .slice B1 m1 d1, .slice B2 m2 d2] 45)).alloc (.cells #[.bool false, .slice none 0 0, .slice none 0 0] 45) = w0 at *
  have KX := Lib.hid (show ∀ w', Below w0.heap.size w0 w' → w'.cell? ⟨w.heap.size, 0, none⟩ = some (.bool nx) ∧ w'.cell? ⟨w.heap.size, 1, none⟩ = some (.slice A1 l1 c1) ∧ w'.cell? ⟨w.heap.size, 2, none⟩ = some (.slice A2 l2 c2) ∧ w'.cell? ⟨w.heap.size + 1, 0, none⟩ = some (.bool ny) ∧ w'.cell? ⟨w.heap.size + 1, 1, none⟩ = some (.slice B1 m1 d1) ∧ w'.cell? ⟨w.heap.size + 1, 2, none⟩ = some (.slice B2 m2 d2) from fun W h => ⟨(HX0.out.keep h).c0, (HX0.out.keep h).c1, (HX0.out.keep h).c2, (HY0.out.keep h).c0, (HY0.out.keep h).c1, (HY0.out.keep h).c2⟩)
  have CSX := Lib.hid (show ∀ W, Below w0.heap.size w0 W → Calls Tryd.prog 23 #[.agg #[.bool nx, .slice A1 l1 c1, .slice A2 l2 c2]] W fun e w' => e = .returned (.int .i64 sx) ∧ Below w0.heap.size w0 w' from fun W h => signX h (hsx ▸ exSign_any W _ x (HXi.out.keep h)))
  have CSY := Lib.hid (show ∀ W, Below w0.heap.size w0 W → Calls Tryd.prog 23 #[.agg #[.bool ny, .slice B1 m1 d1, .slice B2 m2 d2]] W fun e w' => e = .returned (.int .i64 sy) ∧ Below w0.heap.size w0 w' from fun W h => signX h (hsy ▸ exSign_any W _ y (HYi.out.keep h)))
  have CAb := Lib.hid (show ∀ W v u, Below w0.heap.size w0 W → NumIn W v (-y) → NumIn W u (-x) → Calls Tryd.prog 48 #[v, u] W (NatX w0 X Y) from fun W v u h a b => natX h (HAb.out W _ _ a b))
  have CNX := Lib.hid (show ∀ W, Below w0.heap.size w0 W → Calls Tryd.prog 41 #[.agg #[.bool nx, .slice A1 l1 c1, .slice A2 l2 c2]] W (NumY w0 W (-x)) from fun W h => numY h (exNeg_any W _ x (HXi.out.keep h)))
  have CNY := Lib.hid (show ∀ W, Below w0.heap.size w0 W → Calls Tryd.prog 41 #[.agg #[.bool ny, .slice B1 m1 d1, .slice B2 m2 d2]] W (NumY w0 W (-y)) from fun W h => numY h (exNeg_any W _ y (HYi.out.keep h)))
  have CO := Lib.hid (show ∀ W v u, Below w0.heap.size w0 W → NatIn W v X → NatIn W u Y → Calls Tryd.prog 31 #[.bool true, v, u] W (NumX w0 Z) from fun W v u h a b => numX h (HO.out W v u a b))
  have HSS := Lib.hid (And.intro hsx hsy); have HNN := Lib.hid (And.intro hnx hny)
  clear HAb HO hsx hsy hnx hny
  have hb0 := Below.refl w0.heap.size w0
  obtain ⟨k0, k1, k2, k3, k4, k5⟩ := KX.out _ hb0
  go_upto_region 4 with (first | (go_at_call 23; (first | with_reducible refine (CSX.out _ (by first | assumption | exact Below.refl _ _ | exact below_drew (Below.refl _ _) | exact below_drew (by assumption))).mono ?_ | with_reducible refine (CSY.out _ (by first | assumption | exact Below.refl _ _ | exact below_drew (Below.refl _ _) | exact below_drew (by assumption))).mono ?_); rintro e w2 ⟨rfl, hw2⟩; obtain ⟨k0, k1, k2, k3, k4, k5⟩ := KX.out _ hw2) | fail)
  go_region_held3 (fun w' => w'.cell? ⟨w.heap.size, 0, none⟩ = some (.bool nx) ∧ w'.cell? ⟨w.heap.size, 1, none⟩ = some (.slice A1 l1 c1) ∧ w'.cell? ⟨w.heap.size, 2, none⟩ = some (.slice A2 l2 c2) ∧ w'.cell? ⟨w.heap.size + 1, 0, none⟩ = some (.bool ny) ∧ w'.cell? ⟨w.heap.size + 1, 1, none⟩ = some (.slice B1 m1 d1) ∧ w'.cell? ⟨w.heap.size + 1, 2, none⟩ = some (.slice B2 m2 d2))
    (exact KX.out _ (by first | assumption | exact Below.refl _ _ | exact below_drew (Below.refl _ _) | exact below_drew (by assumption)))
    (first
      | (go_at_call 41; (with_reducible refine (CNY.out _ (by first | assumption | exact Below.refl _ _ | exact below_drew (Below.refl _ _) | exact below_drew (by assumption))).mono ?_); rintro e w6 ⟨vny, rfl, hvny, hw6, hw6'⟩; have HVY := Lib.hid hvny; clear hvny)
      | (go_at_call 41; (with_reducible refine (CNX.out _ (by first | assumption | exact Below.refl _ _ | exact below_drew (Below.refl _ _) | exact below_drew (by assumption))).mono ?_); rintro e w5 ⟨vnx, rfl, hvnx, hw5, hw5'⟩; have HVX := Lib.hid hvnx; clear hvnx; have HV5 := Lib.hid (show NumIn w5 vny (-y) from by first | exact HVY.out.keep hw5' | exact (numdr HVY.out).keep hw5'))
      | (go_at_call 48; (with_reducible refine (CAb.out _ _ _ (by first | assumption | exact Below.refl _ _ | exact below_drew (Below.refl _ _) | exact below_drew (by assumption)) (by first | exact HV5.out | exact numdr HV5.out) (by first | exact HVX.out | exact numdr HVX.out)).mono ?_); rintro e w7 ⟨u, v, rfl, hu, hv, hw7⟩; have HU := Lib.hid (And.intro hu hv); clear hu hv)
      | fail)
  go_wp2_with fail
  refine (CO.out _ _ _ (by first | assumption | exact Below.refl _ _ | exact below_drew (Below.refl _ _) | exact below_drew (by assumption)) (by first | exact HU.out.1 | exact NatIn.dr HU.out.1) (by first | exact HU.out.2 | exact NatIn.dr HU.out.2)).mono ?_
  rintro e w4 ⟨v4, rfl, hv4, hw4⟩
  have RR := HR0.out.keep hw4
  have f0 := RR.frozen 0; have f1 := RR.frozen 1; have f2 := RR.frozen 2
  have q0 := RR.c0; have q1 := RR.c1; have q2 := RR.c2
  obtain ⟨A8, l8, c8, A9, l9, c9, rfl, h8, h9⟩ := hv4.is_agg
  have HH := Lib.hid (And.intro h8 h9)
  have HBF := Lib.hid (HB0.out.trans (hw4.mono HB0.out.size))
  clear hv4 h8 h9
  obtain ⟨nz, hnz⟩ : ∃ z, Big.ng Z = z := ⟨_, rfl⟩
  rw [hnz]
  have HNZ := Lib.hid hnz
  clear hnz
  go_wp2_with fail
  obtain ⟨D1, D2, D3⟩ := num_done (bb := nz) (show NumRes w4 _ _ from RR) HBF.out (by omega) HH.out.1 HH.out.2 HNZ.out.symm
  have HD1 := Lib.hid D1; have HD2 := Lib.hid D2; have HD3 := Lib.hid D3
  clear D1 D2 D3 q0 q1 q2 f0 f1 f2 RR k0 k1 k2 k3 k4 k5
  generalize (((w4.setCell ⟨w.heap.size + 1 + 1, 0, none⟩ (.bool (nz))).setCell ⟨w.heap.size + 1 + 1, 1, none⟩ (.slice A8 l8 c8)).setCell ⟨w.heap.size + 1 + 1, 2, none⟩ (.slice A9 l9 c9)) = wz at HD1 HD2 HD3 ⊢
  have r0 := HD1.out.c0; have r1 := HD1.out.c1; have r2 := HD1.out.c2
  exact bodyPost_ret (v := .agg #[.bool (nz), (.slice A8 l8 c8), (.slice A9 l9 c9)]) (by simp [results, Tryd.results29, go_sem, r0, r1, r2]) rfl ⟨_, rfl, HD2.out, HD3.out⟩
end Go.Proofs.YtepnghhgmjobjaaDoor
