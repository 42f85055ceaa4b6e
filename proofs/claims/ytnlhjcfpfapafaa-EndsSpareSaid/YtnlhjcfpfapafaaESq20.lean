/- Contracts. -/
import Derived.Test.YtnlhjcfpfapafaaESq19
import Derived.Laws.IdiomStrings
import Derived.Test.YtnlhjcfpfapafaaESq18
namespace Go.Proofs.Ytnlhjcfpfapafaa
open Go.RowKit
set_option maxRecDepth 100000 in
set_option maxHeartbeats 4000000 in
theorem exSub_any (w : World) (vx vy : Value) (q r : Rat) (k : Nat) (hx : NumIn w vx q) (hy : NumIn w vy r) (sx : Sm k q) (sy : Sm k r) (hk : k ≤ 10000000) :
  Calls Try.prog 39 #[vx, vy] w (Num1 w (q - r)) := by
 have HQ := Lib.hid hx; have HR := Lib.hid hy; have SN := Lib.hid sy.neg
 obtain ⟨A, l, c, A2, l2, c2, rfl, hx1, hx2⟩ := hx.is_agg
 obtain ⟨B, m, d, B2, m2, d2, rfl, hy1, hy2⟩ := hy.is_agg
 have HX := Lib.hid (And.intro hx1 hx2); have HY := Lib.hid (And.intro hy1 hy2)
 have SX := Lib.hid sx; have SY := Lib.hid sy
 have GX := Lib.hid (And.intro (@Big.ng_pos q) (And.intro (@Big.ng_pos r) (And.intro (Big.de_pos q) (Big.de_pos r))))
 rw [Rat.sub_eq_add_neg]
 clear hx hy hx1 hx2 hy1 hy2 sx sy GX HX HY
 generalize Big.ng q = nq at *
 generalize Big.ng r = nr at *
 go_enter Try.func39, Try.ntmps39
 go_wp2_with fail
 obtain ⟨X0, Y0, R0, B0⟩ := boxed3 w 70 70 (.bool nq) (.slice A l c) (.slice A2 l2 c2) (.bool nr) (.slice B m d) (.slice B2 m2 d2) (.bool false) (.slice none 0 0) (.slice none 0 0)
 have HX0 := Lib.hid X0; have HY0 := Lib.hid Y0; have HR0 := Lib.hid R0; have HB0 := Lib.hid B0
 clear X0 Y0 R0 B0
 generalize ((w.alloc (.cells #[.bool nq, .slice A l c, .slice A2 l2 c2] 70)).alloc (.cells #[.bool nr, .slice B m d, .slice B2 m2 d2] 70)).alloc (.cells #[.bool false, .slice none 0 0, .slice none 0 0] 70) = w0 at *
 have KX := Lib.hid (fun W (h : Below w0.heap.size w0 W) => And.intro (HX0.out.keep h).c0 (And.intro (HX0.out.keep h).c1 (And.intro (HX0.out.keep h).c2 (And.intro (HY0.out.keep h).c0 (And.intro (HY0.out.keep h).c1 (HY0.out.keep h).c2)))))
 have RES := Lib.hid (fun W (h : Below w0.heap.size w0 W) => HR0.out.keep h)
 have C1 := Lib.hid (fun W (h : Below w0.heap.size w0 W) => liftN h (exNeg_any W _ _ ((HR.out.keep HB0.out).keep h)))
 have C2 := Lib.hid (fun W v (hv : NumIn W v (-r)) (h : Below w0.heap.size w0 W) => liftN h (exAdd_any W _ v _ _ k ((HQ.out.keep HB0.out).keep h) hv SX.out SN.out hk))
 have KP := Lib.hid (fun W x y z (h : Below w0.heap.size w0 W) => show ((((W.setCell ⟨w.heap.size + 1 + 1, 0, none⟩ x).setCell ⟨w.heap.size + 1 + 1, 1, none⟩ y).setCell ⟨w.heap.size + 1 + 1, 2, none⟩ z).cell? ⟨w.heap.size, 0, none⟩ = some (.bool nq)) ∧ ((((W.setCell ⟨w.heap.size + 1 + 1, 0, none⟩ x).setCell ⟨w.heap.size + 1 + 1, 1, none⟩ y).setCell ⟨w.heap.size + 1 + 1, 2, none⟩ z).cell? ⟨w.heap.size, 1, none⟩ = some (.slice A l c)) ∧ ((((W.setCell ⟨w.heap.size + 1 + 1, 0, none⟩ x).setCell ⟨w.heap.size + 1 + 1, 1, none⟩ y).setCell ⟨w.heap.size + 1 + 1, 2, none⟩ z).cell? ⟨w.heap.size, 2, none⟩ = some (.slice A2 l2 c2)) ∧ ((((W.setCell ⟨w.heap.size + 1 + 1, 0, none⟩ x).setCell ⟨w.heap.size + 1 + 1, 1, none⟩ y).setCell ⟨w.heap.size + 1 + 1, 2, none⟩ z).cell? ⟨w.heap.size + 1, 0, none⟩ = some (.bool nr)) ∧ ((((W.setCell ⟨w.heap.size + 1 + 1, 0, none⟩ x).setCell ⟨w.heap.size + 1 + 1, 1, none⟩ y).setCell ⟨w.heap.size + 1 + 1, 2, none⟩ z).cell? ⟨w.heap.size + 1, 1, none⟩ = some (.slice B m d)) ∧ ((((W.setCell ⟨w.heap.size + 1 + 1, 0, none⟩ x).setCell ⟨w.heap.size + 1 + 1, 1, none⟩ y).setCell ⟨w.heap.size + 1 + 1, 2, none⟩ z).cell? ⟨w.heap.size + 1, 2, none⟩ = some (.slice B2 m2 d2)) from by exact ⟨put_cell (KX.out W h).1 (by omega) x y z, put_cell (KX.out W h).2.1 (by omega) x y z, put_cell (KX.out W h).2.2.1 (by omega) x y z, put_cell (KX.out W h).2.2.2.1 (by omega) x y z, put_cell (KX.out W h).2.2.2.2.1 (by omega) x y z, put_cell (KX.out W h).2.2.2.2.2 (by omega) x y z⟩)
 go_region_held3 (fun w' => w'.cell? ⟨w.heap.size, 0, none⟩ = some (.bool nq) ∧ w'.cell? ⟨w.heap.size, 1, none⟩ = some (.slice A l c) ∧ w'.cell? ⟨w.heap.size, 2, none⟩ = some (.slice A2 l2 c2) ∧ w'.cell? ⟨w.heap.size + 1, 0, none⟩ = some (.bool nr) ∧ w'.cell? ⟨w.heap.size + 1, 1, none⟩ = some (.slice B m d) ∧ w'.cell? ⟨w.heap.size + 1, 2, none⟩ = some (.slice B2 m2 d2))
  (first | exact KX.out _ (by first | assumption | exact Below.refl _ _ | exact below_drew (Below.refl _ _) | exact below_drew (by assumption)) | exact KP.out _ _ _ _ (by assumption))
  (first
   | (go_at_call 73; (with_reducible refine (C1.out _ (by first | assumption | exact Below.refl _ _ | exact below_drew (Below.refl _ _) | exact below_drew (by assumption))).mono ?_); rintro e w2 ⟨v2, rfl, hv2, hw2, hw2'⟩)
   | (go_at_call 43; (with_reducible refine (C2.out _ _ (by first | exact hv2 | exact hv2.keep (below_drew (Below.refl _ _))) (by first | assumption | exact Below.refl _ _ | exact below_drew (Below.refl _ _) | exact below_drew (by assumption))).mono ?_); rintro e w3 ⟨v3, rfl, hv3, hw3, hw3'⟩; have RR := RES.out _ hw3; have k0 := RR.c0; have k1 := RR.c1; have k2 := RR.c2; have f0 := RR.frozen 0; have f1 := RR.frozen 1; have f2 := RR.frozen 2; obtain ⟨A8, l8, c8, A9, l9, c9, rfl, h8, h9⟩ := hv3.is_agg; have HH := Lib.hid (And.intro h8 h9); clear hv3 h8 h9; obtain ⟨nz, hnz⟩ : ∃ z, Big.ng (q + -r) = z := ⟨_, rfl⟩; rw [hnz]; have HNZ := Lib.hid hnz; clear hnz)
   | fail)
 obtain ⟨D1, D2, D3⟩ := num_done (bb := nz) (show NumRes w3 _ _ from RR) (HB0.out.trans (hw3.mono HB0.out.size)) (by omega) HH.out.1 HH.out.2 HNZ.out.symm
 have HD1 := Lib.hid D1; have HD2 := Lib.hid D2; have HD3 := Lib.hid D3
 clear D1 D2 D3 k0 k1 k2 f0 f1 f2 RR
 generalize (((w3.setCell ⟨w.heap.size + 1 + 1, 0, none⟩ (.bool (nz))).setCell ⟨w.heap.size + 1 + 1, 1, none⟩ (.slice A8 l8 c8)).setCell ⟨w.heap.size + 1 + 1, 2, none⟩ (.slice A9 l9 c9)) = wz at HD1 HD2 HD3 ⊢
 have r0 := HD1.out.c0; have r1 := HD1.out.c1; have r2 := HD1.out.c2
 go_wp2_with fail
 exact bodyPost_ret (v := .agg #[.bool (nz), (.slice A8 l8 c8), (.slice A9 l9 c9)]) (by simp [results, Try.results39, go_sem, r0, r1, r2]) rfl ⟨_, rfl, HD2.out, HD3.out⟩
set_option maxRecDepth 100000 in
set_option maxHeartbeats 4000000 in
theorem exQuo_any (w : World) (vx vy : Value) (q r : Rat) (k : Nat) (hx : NumIn w vx q) (hy : NumIn w vy r) (sx : Sm k q) (sy : Sm k r) (hk : k ≤ 10000000) (h0 : Big.nu r ≠ 0) :
  Calls Try.prog 69 #[vx, vy] w (Num1 w (q / r)) := by
 have HQ := Lib.hid hx; have SN := Lib.hid (sy.inv h0)
 obtain ⟨A, l, c, A2, l2, c2, rfl, hx1, hx2⟩ := hx.is_agg
 obtain ⟨B, m, d, B2, m2, d2, rfl, hy1, hy2⟩ := hy.is_agg
 have HX := Lib.hid (And.intro hx1 hx2); have HY := Lib.hid (And.intro hy1 hy2)
 have SX := Lib.hid sx; have SY := Lib.hid sy
 have GX := Lib.hid (And.intro (@Big.ng_pos q) (And.intro (@Big.ng_pos r) (And.intro (Big.de_pos q) (Big.de_pos r))))
 rw [Rat.div_def]
 obtain ⟨i1, i2, i3⟩ := Big.inv_parts r h0
 have HI := Lib.hid (show NumIn w (.agg #[.bool (Big.ng r), .slice B2 m2 d2, .slice B m d]) r⁻¹ from ⟨_, _, by rw [i1], by rw [i2]; exact hy2, by rw [i3]; exact hy1⟩)
 have hm0 := hy1.len_zero
 have t0 : ((m : Int) == 0) = false := beq_eq_false_iff_ne.2 (by omega)
 clear hx hy hx1 hx2 hy1 hy2 sx sy GX HX HY i1 i2 i3 hm0 h0
 generalize Big.ng q = nq at *
 generalize Big.ng r = nr at *
 go_enter Try.func69, Try.ntmps69
 go_wp2_with fail
 obtain ⟨X0, Y0, R0, B0⟩ := boxed3 w 70 70 (.bool nq) (.slice A l c) (.slice A2 l2 c2) (.bool nr) (.slice B m d) (.slice B2 m2 d2) (.bool false) (.slice none 0 0) (.slice none 0 0)
 have HX0 := Lib.hid X0; have HY0 := Lib.hid Y0; have HR0 := Lib.hid R0; have HB0 := Lib.hid B0
 clear X0 Y0 R0 B0
 generalize ((w.alloc (.cells #[.bool nq, .slice A l c, .slice A2 l2 c2] 70)).alloc (.cells #[.bool nr, .slice B m d, .slice B2 m2 d2] 70)).alloc (.cells #[.bool false, .slice none 0 0, .slice none 0 0] 70) = w0 at *
 refine (exMul_any w0 _ _ _ _ k (HQ.out.keep HB0.out) (HI.out.keep HB0.out) SX.out SN.out hk).mono ?_
 rintro e w3 ⟨v3, rfl, hv3, hw3⟩
 have RR := HR0.out.keep hw3
 have k0 := RR.c0; have k1 := RR.c1; have k2 := RR.c2; have f0 := RR.frozen 0; have f1 := RR.frozen 1; have f2 := RR.frozen 2
 obtain ⟨A8, l8, c8, A9, l9, c9, rfl, h8, h9⟩ := hv3.is_agg
 have HH := Lib.hid (And.intro h8 h9)
 have HBF := Lib.hid (HB0.out.trans (hw3.mono HB0.out.size))
 clear hv3 h8 h9 hw3
 obtain ⟨nz, hnz⟩ : ∃ z, Big.ng (q * r⁻¹) = z := ⟨_, rfl⟩
 rw [hnz]
 have HNZ := Lib.hid hnz
 clear hnz
 go_wp2_with fail
 obtain ⟨D1, D2, D3⟩ := num_done (bb := nz) (show NumRes w3 _ _ from RR) HBF.out (by omega) HH.out.1 HH.out.2 HNZ.out.symm
 have HD1 := Lib.hid D1; have HD2 := Lib.hid D2; have HD3 := Lib.hid D3
 clear D1 D2 D3 k0 k1 k2 f0 f1 f2 RR
 generalize (((w3.setCell ⟨w.heap.size + 1 + 1, 0, none⟩ (.bool (nz))).setCell ⟨w.heap.size + 1 + 1, 1, none⟩ (.slice A8 l8 c8)).setCell ⟨w.heap.size + 1 + 1, 2, none⟩ (.slice A9 l9 c9)) = wz at HD1 HD2 HD3 ⊢
 have r0 := HD1.out.c0; have r1 := HD1.out.c1; have r2 := HD1.out.c2
 exact bodyPost_ret (v := .agg #[.bool (nz), (.slice A8 l8 c8), (.slice A9 l9 c9)]) (by simp [results, Try.results69, go_sem, r0, r1, r2]) rfl ⟨_, rfl, HD2.out, HD3.out⟩
theorem cmpT {P : Program} {f : FuncId} {args : Array Value} {b W : World} {v : Value} (h : Below b.heap.size b W) (c : Calls P f args W fun e w' => e = .returned v ∧ Drew W w') :
  Calls P f args W fun e w' => e = .returned v ∧ Below b.heap.size b w' :=
 c.mono fun _ _ ⟨h1, h2⟩ => ⟨h1, h.trans (h2.below _)⟩
set_option maxRecDepth 100000 in
set_option maxHeartbeats 4000000 in
theorem exCmp_any (w : World) (vx vy : Value) (q r : Rat) (k : Nat) (hx : NumIn w vx q) (hy : NumIn w vy r) (sx : Sm k q) (sy : Sm k r) (hk : k ≤ 10000000) :
  Calls Try.prog 37 #[vx, vy] w fun e w' => e = .returned (.int .i64 (Big.cmpQ q r)) ∧ Below w.heap.size w w' := by
 obtain ⟨A, l, c, A2, l2, c2, rfl, hx1, hx2⟩ := hx.is_agg
 obtain ⟨B, m, d, B2, m2, d2, rfl, hy1, hy2⟩ := hy.is_agg
 have HX := Lib.hid (And.intro hx1 hx2); have HY := Lib.hid (And.intro hy1 hy2)
 have SX := Lib.hid sx; have SY := Lib.hid sy
 have GX := Lib.hid (And.intro (@Big.ng_pos q) (And.intro (@Big.ng_pos r) (And.intro (Big.de_pos q) (Big.de_pos r))))
 have H1 := Lib.hid (@Big.cmpQ_neg_pos q r); have H2 := Lib.hid (@Big.cmpQ_pos_neg q r); have H3 := Lib.hid (@Big.cmpQ_pos q r); have H4 := Lib.hid (@Big.cmpQ_neg q r)
 have hcb : -1 ≤ Big.cmpI (Big.nu q * Big.de r) (Big.nu r * Big.de q) ∧ Big.cmpI (Big.nu q * Big.de r) (Big.nu r * Big.de q) ≤ 1 := by
  unfold Big.cmpI; split
  ·omega
  ·split <;> omega
 clear hx hy hx1 hx2 hy1 hy2 sx sy GX
 generalize Big.ng q = nq at *
 generalize Big.ng r = nr at *
 generalize Big.cmpQ q r = z at *
 have X0 := At3.new w 70 (.bool nq) (.slice A l c) (.slice A2 l2 c2)
 have HB0 := Lib.hid (below_alloc (below_alloc (Below.refl w.heap.size w) (Nat.le_refl _) (.cells #[.bool nq, .slice A l c, .slice A2 l2 c2] 70)) (Nat.le_refl _) (.cells #[.bool nr, .slice B m d, .slice B2 m2 d2] 70))
 have HX0 := Lib.hid (X0.alloc' (.cells #[.bool nr, .slice B m d, .slice B2 m2 d2] 70))
 have Y0 := At3.new (w.alloc (.cells #[.bool nq, .slice A l c, .slice A2 l2 c2] 70)) 70 (.bool nr) (.slice B m d) (.slice B2 m2 d2)
 rw [alloc_size] at Y0
 have HY0 := Lib.hid Y0
 clear X0 Y0
 cases nq
 ·cases nr
  ·have HZ := Lib.hid (H3.out rfl rfl)
   clear H1 H2 H3 H4
   go_enter Try.func37, Try.ntmps37
   go_wp2_with fail
   generalize (w.alloc (.cells #[.bool false, .slice A l c, .slice A2 l2 c2] 70)).alloc (.cells #[.bool false, .slice B m d, .slice B2 m2 d2] 70) = w0 at *
   have KX := Lib.hid (fun W (h : Below w0.heap.size w0 W) => And.intro (HX0.out.keep h).c1 (And.intro (HX0.out.keep h).c2 (And.intro (HY0.out.keep h).c1 (HY0.out.keep h).c2)))
   have C1 := Lib.hid (fun W (h : Below w0.heap.size w0 W) => lift2 h (mul_num W _ _ _ _ k k ((HX.out.1.keep HB0.out).keep h) ((HY.out.2.keep HB0.out).keep h) SX.out.nu SY.out.de (by omega) (by omega)))
   have C2 := Lib.hid (fun W (h : Below w0.heap.size w0 W) => lift2 h (mul_num W _ _ _ _ k k ((HY.out.1.keep HB0.out).keep h) ((HX.out.2.keep HB0.out).keep h) SY.out.nu SX.out.de (by omega) (by omega)))
   have C3 := Lib.hid (fun W a b (ha : NatIn W a (Big.nu q * Big.de r)) (hb : NatIn W b (Big.nu r * Big.de q)) (h : Below w0.heap.size w0 W) => cmpT h (cmp_num W a b _ _ ha hb))
   generalize Big.cmpI (Big.nu q * Big.de r) (Big.nu r * Big.de q) = far at *
   obtain ⟨hc1, hc2⟩ := hcb
   go_region_held3 (fun w' => w'.cell? ⟨w.heap.size, 1, none⟩ = some (.slice A l c) ∧ w'.cell? ⟨w.heap.size, 2, none⟩ = some (.slice A2 l2 c2) ∧ w'.cell? ⟨w.heap.size + 1, 1, none⟩ = some (.slice B m d) ∧ w'.cell? ⟨w.heap.size + 1, 2, none⟩ = some (.slice B2 m2 d2))
    (exact KX.out _ (by first | assumption | exact Below.refl _ _ | exact below_drew (Below.refl _ _) | exact below_drew (by assumption)))
    (first
     | (go_at_call 70; (with_reducible refine (C1.out _ (by first | assumption | exact Below.refl _ _ | exact below_drew (Below.refl _ _) | exact below_drew (by assumption))).mono ?_); rintro e w2 ⟨v2, rfl, hv2, hw2, hw2'⟩)
     | (go_at_call 70; (with_reducible refine (C2.out _ (by first | assumption | exact Below.refl _ _ | exact below_drew (Below.refl _ _) | exact below_drew (by assumption))).mono ?_); rintro e w3 ⟨v3, rfl, hv3, hw3, hw3'⟩)
     | (go_at_call 71; (with_reducible refine (C3.out _ _ _ (by first | exact hv2.keep hw3' | exact NatIn.dr (hv2.keep hw3')) (by first | exact hv3 | exact NatIn.dr (hv3)) (by first | assumption | exact Below.refl _ _ | exact below_drew (Below.refl _ _) | exact below_drew (by assumption))).mono ?_); rintro e w4 ⟨rfl, hw4⟩)
     | fail)
   have X4 := HX0.out.keep hw4
   have x0 := X4.c0
   have HB4 := Lib.hid (HB0.out.trans (hw4.mono HB0.out.size))
   clear hv2 hv3 hw2 hw3 hw2' hw3' hw4 X4
   go_wp2_with fail
   go_ret
   exact ⟨ret_int HZ.out.symm, HB4.out⟩
  ·have HZ := Lib.hid (H2.out rfl rfl)
   clear H1 H2 H3 H4
   have X4 := HX0.out
   have x0 := X4.c0
   clear X4
   go_enter Try.func37, Try.ntmps37
   go_wp2_with fail
   go_ret
   exact ⟨ret_int HZ.out.symm, HB0.out⟩
 ·cases nr
  ·have HZ := Lib.hid (H1.out rfl rfl)
   clear H1 H2 H3 H4
   have X4 := HX0.out
   have x0 := X4.c0
   clear X4
   go_enter Try.func37, Try.ntmps37
   go_wp2_with fail
   go_ret
   exact ⟨ret_int HZ.out.symm, HB0.out⟩
  ·have HZ := Lib.hid (H4.out rfl rfl)
   clear H1 H2 H3 H4
   go_enter Try.func37, Try.ntmps37
   go_wp2_with fail
   generalize (w.alloc (.cells #[.bool true, .slice A l c, .slice A2 l2 c2] 70)).alloc (.cells #[.bool true, .slice B m d, .slice B2 m2 d2] 70) = w0 at *
   have KX := Lib.hid (fun W (h : Below w0.heap.size w0 W) => And.intro (HX0.out.keep h).c1 (And.intro (HX0.out.keep h).c2 (And.intro (HY0.out.keep h).c1 (HY0.out.keep h).c2)))
   have C1 := Lib.hid (fun W (h : Below w0.heap.size w0 W) => lift2 h (mul_num W _ _ _ _ k k ((HX.out.1.keep HB0.out).keep h) ((HY.out.2.keep HB0.out).keep h) SX.out.nu SY.out.de (by omega) (by omega)))
   have C2 := Lib.hid (fun W (h : Below w0.heap.size w0 W) => lift2 h (mul_num W _ _ _ _ k k ((HY.out.1.keep HB0.out).keep h) ((HX.out.2.keep HB0.out).keep h) SY.out.nu SX.out.de (by omega) (by omega)))
   have C3 := Lib.hid (fun W a b (ha : NatIn W a (Big.nu q * Big.de r)) (hb : NatIn W b (Big.nu r * Big.de q)) (h : Below w0.heap.size w0 W) => cmpT h (cmp_num W a b _ _ ha hb))
   generalize Big.cmpI (Big.nu q * Big.de r) (Big.nu r * Big.de q) = far at *
   obtain ⟨hc1, hc2⟩ := hcb
   go_region_held3 (fun w' => w'.cell? ⟨w.heap.size, 1, none⟩ = some (.slice A l c) ∧ w'.cell? ⟨w.heap.size, 2, none⟩ = some (.slice A2 l2 c2) ∧ w'.cell? ⟨w.heap.size + 1, 1, none⟩ = some (.slice B m d) ∧ w'.cell? ⟨w.heap.size + 1, 2, none⟩ = some (.slice B2 m2 d2))
    (exact KX.out _ (by first | assumption | exact Below.refl _ _ | exact below_drew (Below.refl _ _) | exact below_drew (by assumption)))
    (first
     | (go_at_call 70; (with_reducible refine (C1.out _ (by first | assumption | exact Below.refl _ _ | exact below_drew (Below.refl _ _) | exact below_drew (by assumption))).mono ?_); rintro e w2 ⟨v2, rfl, hv2, hw2, hw2'⟩)
     | (go_at_call 70; (with_reducible refine (C2.out _ (by first | assumption | exact Below.refl _ _ | exact below_drew (Below.refl _ _) | exact below_drew (by assumption))).mono ?_); rintro e w3 ⟨v3, rfl, hv3, hw3, hw3'⟩)
     | (go_at_call 71; (with_reducible refine (C3.out _ _ _ (by first | exact hv2.keep hw3' | exact NatIn.dr (hv2.keep hw3')) (by first | exact hv3 | exact NatIn.dr (hv3)) (by first | assumption | exact Below.refl _ _ | exact below_drew (Below.refl _ _) | exact below_drew (by assumption))).mono ?_); rintro e w4 ⟨rfl, hw4⟩)
     | fail)
   have X4 := HX0.out.keep hw4
   have x0 := X4.c0
   have HB4 := Lib.hid (HB0.out.trans (hw4.mono HB0.out.size))
   clear hv2 hv3 hw2 hw3 hw2' hw3' hw4 X4
   go_wp2_with fail
   go_ret
   exact ⟨ret_int HZ.out.symm, HB4.out⟩
theorem sizeT {P : Program} {f : FuncId} {args : Array Value} {b W : World} {v : Value} (h : Below b.heap.size b W) (c : Calls P f args W fun e w' => e = .returned v ∧ W = w') :
  Calls P f args W fun e w' => e = .returned v ∧ Below b.heap.size b w' :=
 c.mono fun _ _ ⟨h1, h2⟩ => ⟨h1, h2 ▸ h⟩
set_option maxRecDepth 100000 in
set_option maxHeartbeats 4000000 in
theorem exSize_any (w : World) (vx : Value) (q : Rat) (k : Nat) (hx : NumIn w vx q) (sx : Sm k q) (hk : k ≤ 10000000) :
  Calls Try.prog 100 #[vx] w fun e w' => e = .returned (.int .i64 ((max (szN (Big.nu q)) (szN (Big.de q)) : Nat) : Int)) ∧ Below w.heap.size w w' := by
 obtain ⟨A, l, c, A2, l2, c2, rfl, hx1, hx2⟩ := hx.is_agg
 have HX := Lib.hid (And.intro hx1 hx2)
 have SX := Lib.hid sx
 have HB0 := Lib.hid (box1_below w (.cells #[.bool (Big.ng q), .slice A l c, .slice A2 l2 c2] 70))
 have HX0 := Lib.hid (At3.new w 70 (.bool (Big.ng q)) (.slice A l c) (.slice A2 l2 c2))
 clear hx hx1 hx2 sx
 generalize Big.ng q = nq at *
 go_enter Try.func100, Try.ntmps100
 go_wp2_with fail
 generalize w.alloc (.cells #[.bool nq, .slice A l c, .slice A2 l2 c2] 70) = w0 at *
 have KX := Lib.hid (fun W (h : Below w0.heap.size w0 W) => And.intro (HX0.out.keep h).c1 (HX0.out.keep h).c2)
 have C1 := Lib.hid (fun W (h : Below w0.heap.size w0 W) => sizeT h (size_num W _ _ k ((HX.out.1.keep HB0.out).keep h) SX.out.nu (by omega)))
 have C2 := Lib.hid (fun W (h : Below w0.heap.size w0 W) => sizeT h (size_num W _ _ k ((HX.out.2.keep HB0.out).keep h) SX.out.de (by omega)))
 go_region_held3 (fun w' => w'.cell? ⟨w.heap.size, 1, none⟩ = some (.slice A l c) ∧ w'.cell? ⟨w.heap.size, 2, none⟩ = some (.slice A2 l2 c2))
  (exact KX.out _ (by first | assumption | exact Below.refl _ _ | exact below_drew (Below.refl _ _) | exact below_drew (by assumption)))
  (first
   | (go_at_call 118; (with_reducible refine (C1.out _ (by first | assumption | exact Below.refl _ _ | exact below_drew (Below.refl _ _) | exact below_drew (by assumption))).mono ?_); rintro e w2 ⟨rfl, hw2⟩)
   | (go_at_call 118; (with_reducible refine (C2.out _ (by first | assumption | exact Below.refl _ _ | exact below_drew (Below.refl _ _) | exact below_drew (by assumption))).mono ?_); rintro e w3 ⟨rfl, hw3⟩)
   | fail)
 have HB3 := Lib.hid (HB0.out.trans (hw3.mono HB0.out.size))
 go_wp2_with fail
 go_ret
 refine ⟨?_, HB3.out⟩
 apply ret_int
 generalize szN (Big.nu q) = s1; generalize szN (Big.de q) = s2; omega
def Frac1 (w : World) (v : Value) (b : Bool) (e : Ending) (w' : World) : Prop := e = .returned (.tuple #[v, .bool b]) ∧ Below w.heap.size w w'
def fracZ : Value := .agg #[.bool false, .string ⟨#[]⟩, .string ⟨#[]⟩]
theorem bytesT {P : Program} {f : FuncId} {args : Array Value} {b W : World} {v : Value} (h : Below b.heap.size b W) (c : Calls P f args W fun e w' => e = .returned v ∧ Below W.heap.size W w') :
  Calls P f args W fun e w' => e = .returned v ∧ Below b.heap.size b w' :=
 c.mono fun _ _ ⟨h1, h2⟩ => ⟨h1, h.trans (h2.mono h.size)⟩
set_option maxRecDepth 100000 in
set_option maxHeartbeats 4000000 in
theorem exFrac_fit (w : World) (vx : Value) (q : Rat) (k : Nat) (hx : NumIn w vx q) (sx : Sm k q) (hk : k ≤ 10000000) (hf : Fit q) :
  Calls Try.prog 72 #[vx] w (Frac1 w (fracV q) true) := by
 have e1 : szN (Big.nu q) ≤ 512 := hf.nu
 have e2 : szN (Big.de q) ≤ 512 := hf.de
 have HF := Lib.hid (show fracV q = .agg #[.bool (Big.ng q), .string (bst (Big.nu q)), .string (bst (Big.de q))] from rfl)
 clear hf
 generalize fracV q = fv at *
 have SX := Lib.hid sx
 obtain ⟨A, l, c, A2, l2, c2, rfl, hx1, hx2⟩ := hx.is_agg
 have HX := Lib.hid (And.intro hx1 hx2)
 have HQ := Lib.hid hx
 obtain ⟨X0, R0, B0⟩ := boxed2 w 70 27 (.bool (Big.ng q)) (.slice A l c) (.slice A2 l2 c2) (.bool false) (.string ⟨#[]⟩) (.string ⟨#[]⟩)
 have HX0 := Lib.hid X0; have HR0 := Lib.hid R0; have HB0 := Lib.hid B0
 clear hx hx1 hx2 sx X0 R0 B0
 generalize Big.ng q = nq at *
 go_enter Try.func72, Try.ntmps72
 go_wp2_with fail
 generalize (w.alloc (.cells #[.bool nq, .slice A l c, .slice A2 l2 c2] 70)).alloc (.cells #[.bool false, .string ⟨#[]⟩, .string ⟨#[]⟩] 27) = w0 at *
 have CS := Lib.hid (exSize_any w0 _ q k (HQ.out.keep HB0.out) SX.out hk)
 have hm : ¬ (max (szN (Big.nu q)) (szN (Big.de q)) : Nat) > 512 := by omega
 generalize max (szN (Big.nu q)) (szN (Big.de q)) = mx at *
 have hm' : ¬ ((mx : Int) > 512) := by omega
 clear hm e1 e2
 refine CS.out.mono ?_
 rintro e w1 ⟨rfl, hw1⟩
 have HB1 := Lib.hid (HB0.out.trans (hw1.mono HB0.out.size))
 have HX1 := Lib.hid (HX0.out.keep hw1); have HR1 := Lib.hid (HR0.out.keep hw1)
 clear hw1 HX0 HR0 CS
 have KX := Lib.hid (fun W (h : Below w1.heap.size w1 W) => And.intro (HX1.out.keep h).c0 (And.intro (HX1.out.keep h).c1 (HX1.out.keep h).c2))
 have KP := Lib.hid (fun W x y z (h : Below w1.heap.size w1 W) => And.intro (put_cell (KX.out W h).1 (show w.heap.size ≠ w.heap.size + 1 by omega) x y z) (And.intro (put_cell (KX.out W h).2.1 (show w.heap.size ≠ w.heap.size + 1 by omega) x y z) (put_cell (KX.out W h).2.2 (show w.heap.size ≠ w.heap.size + 1 by omega) x y z)))
 have C1 := Lib.hid (fun W (h : Below w1.heap.size w1 W) => bytesT h (bytes_num W _ _ k ((HX.out.1.keep HB1.out).keep h) SX.out.nu (by omega)))
 have C2 := Lib.hid (fun W (h : Below w1.heap.size w1 W) => bytesT h (bytes_num W _ _ k ((HX.out.2.keep HB1.out).keep h) SX.out.de (by omega)))
 have RES := Lib.hid (fun W (h : Below w1.heap.size w1 W) => HR1.out.keep h)
 go_wp2_with fail
 go_region_held3 (fun w' => w'.cell? ⟨w.heap.size, 0, none⟩ = some (.bool nq) ∧ w'.cell? ⟨w.heap.size, 1, none⟩ = some (.slice A l c) ∧ w'.cell? ⟨w.heap.size, 2, none⟩ = some (.slice A2 l2 c2))
  (first | exact KX.out _ (by first | assumption | exact Below.refl _ _ | exact below_drew (Below.refl _ _) | exact below_drew (by assumption)) | exact KP.out _ _ _ _ (by assumption))
  (first
   | (go_at_call 101; (with_reducible refine (C1.out _ (by first | assumption | exact Below.refl _ _ | exact below_drew (Below.refl _ _) | exact below_drew (by assumption))).mono ?_); rintro e w2 ⟨rfl, hw2⟩)
   | (go_at_call 101; (with_reducible refine (C2.out _ (by first | assumption | exact Below.refl _ _ | exact below_drew (Below.refl _ _) | exact below_drew (by assumption))).mono ?_); rintro e w3 ⟨rfl, hw3⟩; have RR := RES.out _ hw3; have k0 := RR.c0; have k1 := RR.c1; have k2 := RR.c2; have f0 := RR.frozen 0; have f1 := RR.frozen 1; have f2 := RR.frozen 2)
   | fail)
 have D1 := At3.put RR (.bool nq) (.string (bst (Big.nu q))) (.string (bst (Big.de q)))
 have D3 := put_below (HB1.out.trans (hw3.mono HB1.out.size)) (show w.heap.size ≤ w.heap.size + 1 by omega) (.bool nq) (.string (bst (Big.nu q))) (.string (bst (Big.de q)))
 have HD1 := Lib.hid D1; have HD3 := Lib.hid D3
 clear D1 D3 k0 k1 k2 f0 f1 f2 RR
 generalize (((w3.setCell ⟨w.heap.size + 1, 0, none⟩ (.bool nq)).setCell ⟨w.heap.size + 1, 1, none⟩ (.string (bst (Big.nu q)))).setCell ⟨w.heap.size + 1, 2, none⟩ (.string (bst (Big.de q)))) = wz at HD1 HD3 ⊢
 have r0 := HD1.out.c0; have r1 := HD1.out.c1; have r2 := HD1.out.c2
 go_wp2_with fail
 exact bodyPost_ret (v := .tuple #[.agg #[.bool nq, .string (bst (Big.nu q)), .string (bst (Big.de q))], .bool true]) (by simp [results, Try.results72, go_sem, r0, r1, r2]) rfl ⟨by rw [HF.out], HD3.out⟩
set_option maxRecDepth 100000 in
set_option maxHeartbeats 4000000 in
theorem exFrac_long (w : World) (vx : Value) (q : Rat) (k : Nat) (hx : NumIn w vx q) (sx : Sm k q) (hk : k ≤ 10000000) (hf : ¬ Fit q) :
  Calls Try.prog 72 #[vx] w (Frac1 w fracZ false) := by
 have e1 : ¬ (szN (Big.nu q) ≤ 512 ∧ szN (Big.de q) ≤ 512) := fun h => hf ⟨h.1, h.2⟩
 clear hf
 have SX := Lib.hid sx
 obtain ⟨A, l, c, A2, l2, c2, rfl, hx1, hx2⟩ := hx.is_agg
 have HX := Lib.hid (And.intro hx1 hx2)
 have HQ := Lib.hid hx
 obtain ⟨X0, R0, B0⟩ := boxed2 w 70 27 (.bool (Big.ng q)) (.slice A l c) (.slice A2 l2 c2) (.bool false) (.string ⟨#[]⟩) (.string ⟨#[]⟩)
 have HX0 := Lib.hid X0; have HR0 := Lib.hid R0; have HB0 := Lib.hid B0
 clear hx hx1 hx2 sx X0 R0 B0
 generalize Big.ng q = nq at *
 go_enter Try.func72, Try.ntmps72
 go_wp2_with fail
 generalize (w.alloc (.cells #[.bool nq, .slice A l c, .slice A2 l2 c2] 70)).alloc (.cells #[.bool false, .string ⟨#[]⟩, .string ⟨#[]⟩] 27) = w0 at *
 have CS := Lib.hid (exSize_any w0 _ q k (HQ.out.keep HB0.out) SX.out hk)
 have hm : (max (szN (Big.nu q)) (szN (Big.de q)) : Nat) > 512 := by omega
 generalize max (szN (Big.nu q)) (szN (Big.de q)) = mx at *
 have hm' : ((mx : Int) > 512) := by omega
 clear hm e1
 refine CS.out.mono ?_
 rintro e w1 ⟨rfl, hw1⟩
 have HB1 := Lib.hid (HB0.out.trans (hw1.mono HB0.out.size))
 have RR := HR0.out.keep hw1
 have k0 := RR.c0; have k1 := RR.c1; have k2 := RR.c2; have f0 := RR.frozen 0; have f1 := RR.frozen 1; have f2 := RR.frozen 2
 have HD1 := Lib.hid (At3.put RR (.bool false) (.string ⟨#[]⟩) (.string ⟨#[]⟩))
 have HD3 := Lib.hid (put_below HB1.out (show w.heap.size ≤ w.heap.size + 1 by omega) (.bool false) (.string ⟨#[]⟩) (.string ⟨#[]⟩))
 clear hw1 HX0 HR0 CS RR
 go_wp2_with fail
 generalize (((w1.setCell ⟨w.heap.size + 1, 0, none⟩ (.bool false)).setCell ⟨w.heap.size + 1, 1, none⟩ (.string ⟨#[]⟩)).setCell ⟨w.heap.size + 1, 2, none⟩ (.string ⟨#[]⟩)) = wz at HD1 HD3 ⊢
 clear k0 k1 k2 f0 f1 f2
 have r0 := HD1.out.c0; have r1 := HD1.out.c1; have r2 := HD1.out.c2
 exact bodyPost_ret (v := .tuple #[.agg #[.bool false, .string ⟨#[]⟩, .string ⟨#[]⟩], .bool false]) (by simp [results, Try.results72, go_sem, r0, r1, r2]) rfl ⟨rfl, HD3.out⟩
def mayB (s : ByteArray) : Bool := decide (s.size ≤ 512) && !(s.data.toList.head? == some 0)
theorem mayB_bst {n : Nat} (h : szN n ≤ 512) : mayB (bst n) = true := by
 unfold mayB
 have h1 := btx_lead n
 rw [bst_size, bst_list, decide_eq_true h, Bool.true_and, Bool.not_eq_true', beq_eq_false_iff_ne]
 exact h1
theorem mayB_is {s : ByteArray} (h : mayB s = true) : s = bst (Big.bnum s.data.toList) ∧ szN (Big.bnum s.data.toList) ≤ 512 := by
 unfold mayB at h
 rw [Bool.and_eq_true, Bool.not_eq_true', beq_eq_false_iff_ne] at h
 have hl : Lead s.data.toList := h.2
 have e := btx_bnum hl
 have e2 : s = bst (Big.bnum s.data.toList) := by
  unfold bst; rw [e]
 refine ⟨e2, ?_⟩
 have h3 := of_decide_eq_true h.1
 rw [e2, bst_size] at h3
 exact h3
theorem empty_of {s : ByteArray} (h : s.size = 0) : s = ⟨#[]⟩ := by
 have h2 : s.data = #[] := Array.eq_empty_of_size_eq_zero h
 cases s; simp at h2; rw [h2]
theorem size_toList (s : ByteArray) : s.data.toList.length = s.size := by
 show s.data.toList.length = s.data.size; simp
theorem head_get {s : ByteArray} (h : 0 < s.size) : s.data.toList.head? = some s[0] := by
 have hl : 0 < s.data.toList.length := by rw [size_toList]; exact h
 rw [List.head?_eq_getElem?, List.getElem?_eq_getElem hl]; rfl
set_option maxRecDepth 100000 in
set_option maxHeartbeats 4000000 in
theorem mayBe_any (w : World) (s : ByteArray) (hs : s.size ≤ 1000000000000) :
  Calls Try.prog 63 #[.string s] w fun e w' => e = .returned (.bool (mayB s)) ∧ w = w' := by
 by_cases h5 : s.size ≤ 512
 ·by_cases h0 : s.size = 0
  ·have e := empty_of h0
   subst e
   have HD := Lib.hid (show mayB ⟨#[]⟩ = true by decide)
   go_enter Try.func63, Try.ntmps63
   go_wp2_with fail
   go_ret
   exact ⟨ret_bool HD.out.symm, rfl⟩
  ·have i1 : (s.size : Int) ≤ 512 := by omega
   have p0 : 0 < s.size := by omega
   have HD := Lib.hid (show mayB s = ((s[0].toNat : Int) != 0) by
    unfold mayB
    rw [decide_eq_true h5, Bool.true_and, head_get p0, Bool.eq_iff_iff, Bool.not_eq_true', beq_eq_false_iff_ne, bne_iff_ne]
    constructor
    ·intro h e; exact h (by rw [Option.some.injEq]; apply UInt8.toNat_inj.1; show _ = 0; omega)
    ·intro h e; rw [Option.some.injEq] at e; rw [e] at h; exact h rfl)
   generalize mayB s = z at *
   have hne : ¬ s.toList = [] := by rw [ByteArray.toList_eq]; intro e; have := size_toList s; rw [e] at this; simp at this; omega
   have hne2 : s.toList.isEmpty = false := by rw [Bool.eq_false_iff]; intro e; exact hne (List.isEmpty_iff.1 e)
   clear h0
   go_enter Try.func63, Try.ntmps63
   go_wp2_with fail
   go_ret
   exact ⟨ret_bool (by rw [HD.out]), rfl⟩
 ·have i1 : ¬ (s.size : Int) ≤ 512 := by omega
  have HD := Lib.hid (show mayB s = false by unfold mayB; rw [decide_eq_false h5]; rfl)
  generalize mayB s = z at *
  go_enter Try.func63, Try.ntmps63
  go_wp2_with fail
  go_ret
  exact ⟨ret_bool HD.out.symm, rfl⟩
def Read1 (w : World) (q : Rat) (e : Ending) (w' : World) : Prop := ∃ v', e = .returned (.tuple #[v', .bool true]) ∧ NumIn w' v' q ∧ Below w.heap.size w w'
theorem bst_ne {n : Nat} (h : n ≠ 0) : ¬ (bst n).toList = [] := by
 rw [ByteArray.toList_eq, bst_list]; intro e
 have h1 := btx_length n
 rw [e] at h1
 have h2 := szN_pos h
 rw [← h1] at h2
 exact absurd h2 (by simp)
theorem bst_ne2 {n : Nat} (h : n ≠ 0) : (bst n).toList.isEmpty = false := by
 rw [Bool.eq_false_iff]; intro e; exact bst_ne h (List.isEmpty_iff.1 e)
set_option maxRecDepth 100000 in
set_option maxHeartbeats 4000000 in
theorem exRead_ok (w : World) (q : Rat) (hf : Fit q) :
  Calls Try.prog 34 #[.agg #[.bool (Big.ng q), .string (bst (Big.nu q)), .string (bst (Big.de q))]] w (Read1 w q) := by
 have M1 := Lib.hid (fun W => mayBe_any W (bst (Big.nu q)) (by rw [bst_size]; have := hf.nu; omega))
 have M2 := Lib.hid (fun W => mayBe_any W (bst (Big.de q)) (by rw [bst_size]; have := hf.de; omega))
 rw [mayB_bst hf.nu] at M1
 rw [mayB_bst hf.de] at M2
 have S := Lib.hid hf.sm
 have P := Lib.hid (show NumIn w (.agg #[.bool (Big.ng q), .slice none 0 0, .slice none 0 0]) q → True from fun _ => trivial)
 have F1 := Lib.hid (fun W => fromBytes_num W (Big.nu q) (by have := hf.nu; omega))
 have F2 := Lib.hid (fun W => fromBytes_num W (Big.de q) (by have := hf.de; omega))
 have d1 := bst_ne (n := Big.de q) (by have := Big.de_pos q; omega)
 have d2 := bst_ne2 (n := Big.de q) (by have := Big.de_pos q; omega)
 have n0 : Big.ng q = true → ¬ (bst (Big.nu q)).toList = [] ∧ (bst (Big.nu q)).toList.isEmpty = false := fun h => by
  have h1 := Big.ng_pos h
  exact ⟨bst_ne (by omega), bst_ne2 (by omega)⟩
 obtain ⟨X0, R0, B0⟩ := boxed2 w 27 70 (.bool (Big.ng q)) (.string (bst (Big.nu q))) (.string (bst (Big.de q))) (.bool false) (.slice none 0 0) (.slice none 0 0)
 have HX0 := Lib.hid X0; have HR0 := Lib.hid R0; have HB0 := Lib.hid B0
 have HC := Lib.hid (Big.cop q)
 have HNG := Lib.hid (rfl : Big.ng q = Big.ng q)
 clear hf X0 R0 B0 P HNG
 obtain ⟨nq, hnq⟩ : ∃ z, Big.ng q = z := ⟨_, rfl⟩
 rw [hnq] at n0 HX0 HR0 HB0 ⊢
 have HNQ := Lib.hid hnq
 clear hnq
 have HN0 := Lib.hid n0
 clear n0
 cases nq
 ·go_enter Try.func34, Try.ntmps34
  go_wp2_with fail
  generalize (w.alloc (.cells #[.bool false, .string (bst (Big.nu q)), .string (bst (Big.de q))] 27)).alloc (.cells #[.bool false, .slice none 0 0, .slice none 0 0] 70) = w0 at *
  have x0 := HX0.out.c0; have x1 := HX0.out.c1; have x2 := HX0.out.c2
  go_wp2_with (first
   | (go_at_call 63; with_reducible refine (M1.out _).mono ?_; rintro e w' ⟨rfl, rfl⟩)
   | (go_at_call 63; with_reducible refine (M2.out _).mono ?_; rintro e w' ⟨rfl, rfl⟩))
  clear x0 x1 x2 d1 d2
  have KX := Lib.hid (fun W (h : Below w0.heap.size w0 W) => And.intro (HX0.out.keep h).c1 (HX0.out.keep h).c2)
  have C1 := Lib.hid (fun W (h : Below w0.heap.size w0 W) => lift2 h (F1.out W))
  have C2 := Lib.hid (fun W (h : Below w0.heap.size w0 W) => lift2 h (F2.out W))
  go_region_held3 (fun w' => w'.cell? ⟨w.heap.size, 1, none⟩ = some (.string (bst (Big.nu q))) ∧ w'.cell? ⟨w.heap.size, 2, none⟩ = some (.string (bst (Big.de q))))
   (exact KX.out _ (by first | assumption | exact Below.refl _ _ | exact below_drew (Below.refl _ _) | exact below_drew (by assumption)))
   (first
    | (go_at_call 64; (with_reducible refine (C1.out _ (by first | assumption | exact Below.refl _ _ | exact below_drew (Below.refl _ _) | exact below_drew (by assumption))).mono ?_); rintro e w2 ⟨v2, rfl, hv2, hw2, hw2'⟩)
    | (go_at_call 64; (with_reducible refine (C2.out _ (by first | assumption | exact Below.refl _ _ | exact below_drew (Below.refl _ _) | exact below_drew (by assumption))).mono ?_); rintro e w3 ⟨v3, rfl, hv3, hw3, hw3'⟩)
    | fail)
  have HB3 := Lib.hid (HB0.out.trans (hw3.mono HB0.out.size))
  have HX3 := Lib.hid (HX0.out.keep hw3); have HR3 := Lib.hid (HR0.out.keep hw3)
  have HV := Lib.hid (And.intro (hv2.keep hw3') hv3)
  clear hv2 hv3 hw2 hw2' hw3 hw3' HX0 HR0 HB0 KX C1 C2
  have G := Lib.hid (gcd_num w3 _ _ _ _ 64 64 HV.out.1 HV.out.2 S.out.nu S.out.de (by omega) (by omega))
  rw [HC.out] at G
  go_wp2_with fail
  refine G.out.mono ?_
  rintro e w4 ⟨v4, rfl, hv4, hw4⟩
  have I := Lib.hid (isOne_num w4 v4 1 hv4)
  rw [decide_eq_true rfl] at I
  have HB4 := Lib.hid (HB3.out.trans (hw4.mono HB3.out.size))
  have HX4 := Lib.hid (HX3.out.keep hw4); have HR4 := Lib.hid (HR3.out.keep hw4)
  have HV4 := Lib.hid (And.intro (HV.out.1.keep hw4) (HV.out.2.keep hw4))
  clear hv4 hw4 HB3 HX3 HR3 HV G
  go_wp2_with fail
  refine I.out.mono ?_
  rintro e w' ⟨rfl, rfl⟩
  obtain ⟨A8, l8, c8, rfl, -⟩ := HV4.out.1.is_slice
  obtain ⟨A9, l9, c9, rfl, -⟩ := HV4.out.2.is_slice
  have RR := HR4.out
  have x0 := HX4.out.c0
  have k0 := RR.c0; have k1 := RR.c1; have k2 := RR.c2; have f0 := RR.frozen 0; have f1 := RR.frozen 1; have f2 := RR.frozen 2
  go_wp2_with fail
  obtain ⟨D1, D2, D3⟩ := num_done (bb := false) (show NumRes w4 _ _ from RR) HB4.out (by omega) HV4.out.1 HV4.out.2 HNQ.out.symm
  have HD1 := Lib.hid D1; have HD2 := Lib.hid D2; have HD3 := Lib.hid D3
  clear D1 D2 D3 k0 k1 k2 f0 f1 f2 RR
  generalize (((w4.setCell ⟨w.heap.size + 1, 0, none⟩ (.bool (false))).setCell ⟨w.heap.size + 1, 1, none⟩ (.slice A8 l8 c8)).setCell ⟨w.heap.size + 1, 2, none⟩ (.slice A9 l9 c9)) = wz at HD1 HD2 HD3 ⊢
  have r0 := HD1.out.c0; have r1 := HD1.out.c1; have r2 := HD1.out.c2
  exact bodyPost_ret (v := .tuple #[.agg #[.bool (false), .slice A8 l8 c8, .slice A9 l9 c9], .bool true]) (by simp [results, Try.results34, go_sem, r0, r1, r2]) rfl ⟨_, rfl, HD2.out, HD3.out⟩
 ·obtain ⟨z1, z2⟩ := HN0.out rfl
  go_enter Try.func34, Try.ntmps34
  go_wp2_with fail
  generalize (w.alloc (.cells #[.bool true, .string (bst (Big.nu q)), .string (bst (Big.de q))] 27)).alloc (.cells #[.bool false, .slice none 0 0, .slice none 0 0] 70) = w0 at *
  have x0 := HX0.out.c0; have x1 := HX0.out.c1; have x2 := HX0.out.c2
  go_wp2_with (first
   | (go_at_call 63; with_reducible refine (M1.out _).mono ?_; rintro e w' ⟨rfl, rfl⟩)
   | (go_at_call 63; with_reducible refine (M2.out _).mono ?_; rintro e w' ⟨rfl, rfl⟩))
  clear x0 x1 x2 d1 d2
  have KX := Lib.hid (fun W (h : Below w0.heap.size w0 W) => And.intro (HX0.out.keep h).c1 (HX0.out.keep h).c2)
  have C1 := Lib.hid (fun W (h : Below w0.heap.size w0 W) => lift2 h (F1.out W))
  have C2 := Lib.hid (fun W (h : Below w0.heap.size w0 W) => lift2 h (F2.out W))
  go_region_held3 (fun w' => w'.cell? ⟨w.heap.size, 1, none⟩ = some (.string (bst (Big.nu q))) ∧ w'.cell? ⟨w.heap.size, 2, none⟩ = some (.string (bst (Big.de q))))
   (exact KX.out _ (by first | assumption | exact Below.refl _ _ | exact below_drew (Below.refl _ _) | exact below_drew (by assumption)))
   (first
    | (go_at_call 64; (with_reducible refine (C1.out _ (by first | assumption | exact Below.refl _ _ | exact below_drew (Below.refl _ _) | exact below_drew (by assumption))).mono ?_); rintro e w2 ⟨v2, rfl, hv2, hw2, hw2'⟩)
    | (go_at_call 64; (with_reducible refine (C2.out _ (by first | assumption | exact Below.refl _ _ | exact below_drew (Below.refl _ _) | exact below_drew (by assumption))).mono ?_); rintro e w3 ⟨v3, rfl, hv3, hw3, hw3'⟩)
    | fail)
  have HB3 := Lib.hid (HB0.out.trans (hw3.mono HB0.out.size))
  have HX3 := Lib.hid (HX0.out.keep hw3); have HR3 := Lib.hid (HR0.out.keep hw3)
  have HV := Lib.hid (And.intro (hv2.keep hw3') hv3)
  clear hv2 hv3 hw2 hw2' hw3 hw3' HX0 HR0 HB0 KX C1 C2
  have G := Lib.hid (gcd_num w3 _ _ _ _ 64 64 HV.out.1 HV.out.2 S.out.nu S.out.de (by omega) (by omega))
  rw [HC.out] at G
  go_wp2_with fail
  refine G.out.mono ?_
  rintro e w4 ⟨v4, rfl, hv4, hw4⟩
  have I := Lib.hid (isOne_num w4 v4 1 hv4)
  rw [decide_eq_true rfl] at I
  have HB4 := Lib.hid (HB3.out.trans (hw4.mono HB3.out.size))
  have HX4 := Lib.hid (HX3.out.keep hw4); have HR4 := Lib.hid (HR3.out.keep hw4)
  have HV4 := Lib.hid (And.intro (HV.out.1.keep hw4) (HV.out.2.keep hw4))
  clear hv4 hw4 HB3 HX3 HR3 HV G
  go_wp2_with fail
  refine I.out.mono ?_
  rintro e w' ⟨rfl, rfl⟩
  obtain ⟨A8, l8, c8, rfl, -⟩ := HV4.out.1.is_slice
  obtain ⟨A9, l9, c9, rfl, -⟩ := HV4.out.2.is_slice
  have RR := HR4.out
  have x0 := HX4.out.c0
  have k0 := RR.c0; have k1 := RR.c1; have k2 := RR.c2; have f0 := RR.frozen 0; have f1 := RR.frozen 1; have f2 := RR.frozen 2
  go_wp2_with fail
  obtain ⟨D1, D2, D3⟩ := num_done (bb := true) (show NumRes w4 _ _ from RR) HB4.out (by omega) HV4.out.1 HV4.out.2 HNQ.out.symm
  have HD1 := Lib.hid D1; have HD2 := Lib.hid D2; have HD3 := Lib.hid D3
  clear D1 D2 D3 k0 k1 k2 f0 f1 f2 RR
  generalize (((w4.setCell ⟨w.heap.size + 1, 0, none⟩ (.bool (true))).setCell ⟨w.heap.size + 1, 1, none⟩ (.slice A8 l8 c8)).setCell ⟨w.heap.size + 1, 2, none⟩ (.slice A9 l9 c9)) = wz at HD1 HD2 HD3 ⊢
  have r0 := HD1.out.c0; have r1 := HD1.out.c1; have r2 := HD1.out.c2
  exact bodyPost_ret (v := .tuple #[.agg #[.bool (true), .slice A8 l8 c8, .slice A9 l9 c9], .bool true]) (by simp [results, Try.results34, go_sem, r0, r1, r2]) rfl ⟨_, rfl, HD2.out, HD3.out⟩
set_option maxRecDepth 100000 in
set_option maxHeartbeats 2000000 in
theorem exOf_any (w : World) (b : Bool) (v u : Value) (n d k j : Nat) (h : NatIn w v n) (i : NatIn w u d) (hn : Sz k n) (hm : Sz j d) (hk : k ≤ 100000000) (hj : j ≤ 100000000) (hd : 1 ≤ d) :
  Calls Try.prog 61 #[.bool b, v, u] w (Num1 w (mkRat (Big.sI b n) d)) := by
 obtain ⟨p1, p2, p3⟩ := Big.of_parts b n d hd
 have HP := Lib.hid (And.intro p1 (And.intro p2 p3))
 have HV := Lib.hid h; have HU := Lib.hid i; have HN := Lib.hid hn; have HM := Lib.hid hm
 obtain ⟨A, l, c, rfl, hl⟩ := h.is_slice
 obtain ⟨A2, l2, c2, rfl, hl2⟩ := i.is_slice
 have t1 : ((l2 : Int) == 0) = false := beq_eq_false_iff_ne.2 (by omega)
 clear p1 p2 p3 h i hn hm hl hl2 hd
 generalize mkRat (Big.sI b n) d = q at *
 go_enter Try.func61, Try.ntmps61
 go_wp2_with fail
 have HB0 := Lib.hid ((Below.refl w.heap.size w).alloc (Nat.le_refl _) (.cells #[.bool false, .slice none 0 0, .slice none 0 0] 70))
 have HR := Lib.hid (At3.new w 70 (.bool false) (.slice none 0 0) (.slice none 0 0))
 generalize w.alloc (.cells #[.bool false, .slice none 0 0, .slice none 0 0] 70) = w0 at *
 refine (gcd_num w0 _ _ n d k j (HV.out.keep HB0.out) (HU.out.keep HB0.out) HN.out HM.out hk hj).mono ?_
 rintro e w1 ⟨v1, rfl, hv1, hb1⟩
 have HV1 := Lib.hid hv1; have HB1 := Lib.hid (HB0.out.trans (hb1.mono HB0.out.size)); have HR1 := Lib.hid (HR.out.keep hb1)
 clear hv1 hb1 HR
 go_wp2_with fail
 refine (quo_num w1 _ _ n _ k (HV.out.keep HB1.out) HV1.out HN.out hk).mono ?_
 rintro e w2 ⟨v2, rfl, hv2, hb2⟩
 have HV2 := Lib.hid hv2
 obtain ⟨A3, l3, c3, rfl, hl3⟩ := hv2.is_slice
 have HV1' := Lib.hid (HV1.out.keep hb2)
 have HB2 := Lib.hid (HB1.out.trans (hb2.mono HB1.out.size)); have HR2 := Lib.hid (HR1.out.keep hb2)
 have HL3 := Lib.hid hl3
 clear hv2 hb2 HR1 hl3
 have g0 : n / Nat.gcd n d = 0 ↔ l3 = 0 := HL3.out.symm
 have CQ := Lib.hid (quo_num w2 _ _ d _ j (HU.out.keep HB2.out) HV1'.out HM.out hj)
 have HBR := Lib.hid (show NumRes w2 w.heap.size 70 from HR2.out)
 have f0 := fun W (hW : Below w2.heap.size w2 W) => (HR2.out.keep hW).frozen 0
 have done : ∀ (bb : Bool) (W : World) (v4 : Value), bb = (b && decide (0 < n / Nat.gcd n d)) → Below w2.heap.size w2 W → NatIn W v4 (d / Nat.gcd n d) →
   At3 (((W.setCell ⟨w.heap.size, 0, none⟩ (.bool bb)).setCell ⟨w.heap.size, 1, none⟩ (.slice A3 l3 c3)).setCell ⟨w.heap.size, 2, none⟩ v4) w.heap.size 70 (.bool bb) (.slice A3 l3 c3) v4 ∧
   Num1 w q (.returned (.agg #[.bool bb, .slice A3 l3 c3, v4])) (((W.setCell ⟨w.heap.size, 0, none⟩ (.bool bb)).setCell ⟨w.heap.size, 1, none⟩ (.slice A3 l3 c3)).setCell ⟨w.heap.size, 2, none⟩ v4) := by
  intro bb W v4 e hW hv4
  have h1 := HV2.out.keep hW
  rw [← HP.out.2.1] at h1
  rw [← HP.out.2.2] at hv4
  have D := num_done (show NumRes W w.heap.size _ from HR2.out.keep hW) (HB2.out.trans (hW.mono HB2.out.size)) (Nat.le_refl _) h1 hv4 (e.trans HP.out.1.symm)
  exact ⟨D.1, _, rfl, D.2⟩
 have DONE := Lib.hid done
 clear done f0
 have t2 : 0 < n / Nat.gcd n d ↔ 0 < l3 := by rw [Nat.pos_iff_ne_zero, Nat.pos_iff_ne_zero, Ne, Ne, g0]
 have t3 : (b && decide (0 < n / Nat.gcd n d)) = (b && decide (0 < l3)) := by rw [decide_eq_decide.2 t2]
 rw [t3] at DONE
 clear g0 t2 t3 HP HL3 HV HU HN HM HV1' HV2 HV1
 rcases Nat.eq_zero_or_pos l3 with hl0 | hl0
 ·subst hl0
  rw [decide_eq_false (by omega)] at DONE
  cases b
  all_goals
   go_wp2_with fail
   refine CQ.out.mono ?_
   rintro e w3 ⟨v4, rfl, hv4, hb3⟩
   obtain ⟨A4, l4, c4, rfl, hl4⟩ := hv4.is_slice
   obtain ⟨D1, D2⟩ := DONE.out false w3 _ rfl hb3 hv4
   have R3 := HR2.out.keep hb3
   have k0 := R3.c0; have k1 := R3.c1; have k2 := R3.c2; have f0 := R3.frozen 0; have f1 := R3.frozen 1; have f2 := R3.frozen 2
   have HD1 := Lib.hid D1; have HD2 := Lib.hid D2
   clear D1 D2 R3 hv4 hb3 hl4
   go_wp2_with fail
   generalize (((w3.setCell ⟨w.heap.size, 0, none⟩ (.bool false)).setCell ⟨w.heap.size, 1, none⟩ (.slice A3 0 c3)).setCell ⟨w.heap.size, 2, none⟩ (.slice A4 l4 c4)) = wz at HD1 HD2 ⊢
   have r0 := HD1.out.c0; have r1 := HD1.out.c1; have r2 := HD1.out.c2
   exact bodyPost_ret (v := .agg #[.bool false, .slice A3 0 c3, .slice A4 l4 c4]) (by simp [results, Try.results61, go_sem, r0, r1, r2]) rfl HD2.out
 ·have t4 : ((l3 : Int) > 0) := by omega
  rw [decide_eq_true (by omega)] at DONE
  cases b
  ·go_wp2_with fail
   refine CQ.out.mono ?_
   rintro e w3 ⟨v4, rfl, hv4, hb3⟩
   obtain ⟨A4, l4, c4, rfl, hl4⟩ := hv4.is_slice
   obtain ⟨D1, D2⟩ := DONE.out false w3 _ rfl hb3 hv4
   have R3 := HR2.out.keep hb3
   have k0 := R3.c0; have k1 := R3.c1; have k2 := R3.c2; have f0 := R3.frozen 0; have f1 := R3.frozen 1; have f2 := R3.frozen 2
   have HD1 := Lib.hid D1; have HD2 := Lib.hid D2
   clear D1 D2 R3 hv4 hb3 hl4
   go_wp2_with fail
   generalize (((w3.setCell ⟨w.heap.size, 0, none⟩ (.bool false)).setCell ⟨w.heap.size, 1, none⟩ (.slice A3 l3 c3)).setCell ⟨w.heap.size, 2, none⟩ (.slice A4 l4 c4)) = wz at HD1 HD2 ⊢
   have r0 := HD1.out.c0; have r1 := HD1.out.c1; have r2 := HD1.out.c2
   exact bodyPost_ret (v := .agg #[.bool false, .slice A3 l3 c3, .slice A4 l4 c4]) (by simp [results, Try.results61, go_sem, r0, r1, r2]) rfl HD2.out
  ·go_wp2_with fail
   refine CQ.out.mono ?_
   rintro e w3 ⟨v4, rfl, hv4, hb3⟩
   obtain ⟨A4, l4, c4, rfl, hl4⟩ := hv4.is_slice
   obtain ⟨D1, D2⟩ := DONE.out true w3 _ rfl hb3 hv4
   have R3 := HR2.out.keep hb3
   have k0 := R3.c0; have k1 := R3.c1; have k2 := R3.c2; have f0 := R3.frozen 0; have f1 := R3.frozen 1; have f2 := R3.frozen 2
   have HD1 := Lib.hid D1; have HD2 := Lib.hid D2
   clear D1 D2 R3 hv4 hb3 hl4
   go_wp2_with fail
   generalize (((w3.setCell ⟨w.heap.size, 0, none⟩ (.bool true)).setCell ⟨w.heap.size, 1, none⟩ (.slice A3 l3 c3)).setCell ⟨w.heap.size, 2, none⟩ (.slice A4 l4 c4)) = wz at HD1 HD2 ⊢
   have r0 := HD1.out.c0; have r1 := HD1.out.c1; have r2 := HD1.out.c2
   exact bodyPost_ret (v := .agg #[.bool true, .slice A3 l3 c3, .slice A4 l4 c4]) (by simp [results, Try.results61, go_sem, r0, r1, r2]) rfl HD2.out
end Go.Proofs.Ytnlhjcfpfapafaa
