/- Contracts, in this order: ratio: Mul, by reckon. · diapasonlaw01: add, mul. · RatioSimple's first statement: what holds between its operat · The simplest fraction between two: the continued fraction th -/
import Derived.Test.YtepnghhgmjobjaaDoorRs10
import Derived.Test.YtepnghhgmjobjaaDoorRs09
import Derived.Test.YtepnghhgmjobjaaDoorRs11
import Derived.Test.YtepnghhgmjobjaaDoorRs01
import Derived.Test.YtepnghhgmjobjaaDoorRs08
namespace Go.Proofs.YtepnghhgmjobjaaDoor
open Go.RowKit
set_option maxRecDepth 100000 in
set_option maxHeartbeats 4000000 in
theorem Mul1_any (b w : World) (vx vy : Value) (q r : Rat) (hx : NumIn w vx q) (hy : NumIn w vy r) (sx : Sm 64 q) (sy : Sm 64 r) (hbw : Below b.heap.size b w) :
    Calls Tryd.prog 39 #[vx, vy] w (NumE b w (q * r)) := by
  have C := Lib.hid (fun W a c (h : NumIn W a q) (i : NumIn W c r) => exMul_any W a c q r 64 h i sx sy (by omega))
  have HQ := Lib.hid hx; have HR := Lib.hid hy; have HBW := Lib.hid hbw
  obtain ⟨A, l, c, A2, l2, c2, rfl, -, -⟩ := hx.is_agg
  obtain ⟨B, m, d, B2, m2, d2, rfl, -, -⟩ := hy.is_agg
  clear hx hy sx sy hbw
  obtain ⟨X0, Y0, R0, B0⟩ := boxed3 w 45 45 (.bool (Big.ng q)) (.slice A l c) (.slice A2 l2 c2) (.bool (Big.ng r)) (.slice B m d) (.slice B2 m2 d2) (.bool false) (.slice none 0 0) (.slice none 0 0)
  have HR0 := Lib.hid R0; have HB0 := Lib.hid B0
  have HXX := Lib.hid X0; have HYY := Lib.hid Y0
  clear X0 Y0 R0 B0
  go_enter Tryd.func39, Tryd.ntmps39
  go_wp2_with fail
  generalize ((w.alloc (.cells #[.bool (Big.ng q), .slice A l c, .slice A2 l2 c2] 45)).alloc (.cells #[.bool (Big.ng r), .slice B m d, .slice B2 m2 d2] 45)).alloc (.cells #[.bool false, .slice none 0 0, .slice none 0 0] 45) = w0 at *
  refine (C.out _ _ _ (HQ.out.keep HB0.out) (HR.out.keep HB0.out)).mono ?_
  rintro e w1 ⟨v1, rfl, hv1, hw1⟩
  have B1 := HB0.out.trans (hw1.mono HB0.out.size)
  have R1 := HR0.out.keep hw1
  obtain ⟨A8, l8, c8, A9, l9, c9, rfl, h8, h9⟩ := hv1.is_agg
  have HH := Lib.hid (And.intro h8 h9); have HB1 := Lib.hid B1
  have k0 := R1.c0; have k1 := R1.c1; have k2 := R1.c2; have f0 := R1.frozen 0; have f1 := R1.frozen 1; have f2 := R1.frozen 2
  obtain ⟨nz, hnz⟩ : ∃ z, Big.ng (q * r) = z := ⟨_, rfl⟩
  rw [hnz]
  have HNZ := Lib.hid hnz
  have RR := R1
  clear hv1 h8 h9 hw1 hnz B1 R1 C HQ HR HR0 HB0
  go_wp2_with fail
  obtain ⟨D1, D2, D3⟩ := num_done (bb := nz) (show NumRes w1 _ _ from RR) HB1.out (by omega) HH.out.1 HH.out.2 HNZ.out.symm
  have HD1 := Lib.hid D1; have HD2 := Lib.hid D2; have HD3 := Lib.hid D3
  clear D1 D2 D3 k0 k1 k2 f0 f1 f2 RR
  generalize (((w1.setCell ⟨w.heap.size + 1 + 1, 0, none⟩ (.bool (nz))).setCell ⟨w.heap.size + 1 + 1, 1, none⟩ (.slice A8 l8 c8)).setCell ⟨w.heap.size + 1 + 1, 2, none⟩ (.slice A9 l9 c9)) = wz at HD1 HD2 HD3 ⊢
  have r0 := HD1.out.c0; have r1 := HD1.out.c1; have r2 := HD1.out.c2
  exact bodyPost_ret (v := .tuple #[.agg #[.bool (nz), .slice A8 l8 c8, .slice A9 l9 c9], .int .i64 0]) (by simp [results, Tryd.results39, go_sem, r0, r1, r2]) rfl ⟨_, rfl, HD2.out, HBW.out.trans (HD3.out.mono HBW.out.size), HD3.out⟩
set_option maxRecDepth 100000 in
set_option maxHeartbeats 600000 in
theorem reckonMul_fit (w : World) (q r z : Rat) (k : Nat) (hq : Fit q) (hr : Fit r) (hz : Fit z) (sz : Sm k z) (hk : k ≤ 10000000)
    (hF : ∀ b W v u, NumIn W v q → NumIn W u r → Below b.heap.size b W → Calls Tryd.prog 39 #[v, u] W (NumE b W z)) :
    Calls Tryd.prog 19 #[.func (.func 39) #[] #[], .agg #[.bool (Big.ng q), .string (bst (Big.nu q)), .string (bst (Big.de q))], .agg #[.bool (Big.ng r), .string (bst (Big.nu r)), .string (bst (Big.de r))]] w (Ret2 w (fracV z) 0) := by
  have HRD := Lib.hid (fun W g (h : AtL W g 26 #[.bool (Big.ng q), .string (bst (Big.nu q)), .string (bst (Big.de q)), .bool (Big.ng r), .string (bst (Big.nu r)), .string (bst (Big.de r))]) => read2_any W g q r h hq hr)
  have HF := Lib.hid hF
  have CA := Lib.hid (fun W v (h : NumIn W v z) => answer_fit W v z k h sz hk hz)
  obtain ⟨X0, Y0, R0, B0⟩ := boxed3 w 26 26 (.bool (Big.ng q)) (.string (bst (Big.nu q))) (.string (bst (Big.de q))) (.bool (Big.ng r)) (.string (bst (Big.nu r))) (.string (bst (Big.de r))) (.bool false) (.string ⟨#[]⟩) (.string ⟨#[]⟩)
  have HR0 := Lib.hid R0; have HB0 := Lib.hid B0
  have x0 := X0.c0; have x1 := X0.c1; have x2 := X0.c2
  have y0 := Y0.c0; have y1 := Y0.c1; have y2 := Y0.c2
  clear hF hz sz hq hr X0 Y0 R0 B0
  go_enter Tryd.func19, Tryd.ntmps19
  go_wp2_with fail
  have hs : (((w.alloc (.cells #[.bool (Big.ng q), .string (bst (Big.nu q)), .string (bst (Big.de q))] 26)).alloc (.cells #[.bool (Big.ng r), .string (bst (Big.nu r)), .string (bst (Big.de r))] 26)).alloc (.cells #[.bool false, .string ⟨#[]⟩, .string ⟨#[]⟩] 26)).heap.size = w.heap.size + 1 + 1 + 1 := by rw [alloc_size, alloc_size, alloc_size]
  generalize ((w.alloc (.cells #[.bool (Big.ng q), .string (bst (Big.nu q)), .string (bst (Big.de q))] 26)).alloc (.cells #[.bool (Big.ng r), .string (bst (Big.nu r)), .string (bst (Big.de r))] 26)).alloc (.cells #[.bool false, .string ⟨#[]⟩, .string ⟨#[]⟩] 26) = w0 at *
  have HN := AtL.new w0 26 #[.bool (Big.ng q), .string (bst (Big.nu q)), .string (bst (Big.de q)), .bool (Big.ng r), .string (bst (Big.nu r)), .string (bst (Big.de r))]
  rw [hs] at HN
  have HN := Lib.hid HN
  clear hs
  have HB1 := Lib.hid (below_alloc HB0.out (Nat.le_refl _) (.cells #[.bool (Big.ng q), .string (bst (Big.nu q)), .string (bst (Big.de q)), .bool (Big.ng r), .string (bst (Big.nu r)), .string (bst (Big.de r))] 26))
  have HR1 := Lib.hid (HR0.out.alloc' (.cells #[.bool (Big.ng q), .string (bst (Big.nu q)), .string (bst (Big.de q)), .bool (Big.ng r), .string (bst (Big.nu r)), .string (bst (Big.de r))] 26))
  refine (HRD.out _ _ HN.out).mono ?_
  generalize w0.alloc (.cells #[.bool (Big.ng q), .string (bst (Big.nu q)), .string (bst (Big.de q)), .bool (Big.ng r), .string (bst (Big.nu r)), .string (bst (Big.de r))] 26) = wa at *
  rintro e w1 ⟨v1, rfl, ⟨g, a, b, c, d, rfl, hat, hnq, hnr⟩, hw1⟩
  have HB2 := Lib.hid (HB1.out.trans (hw1.mono HB1.out.size))
  have HR2 := Lib.hid (HR1.out.keep hw1)
  obtain ⟨A, l, cc, B, m, dd, e1, -, -⟩ := hnq.is_agg
  obtain ⟨A2, l2, cc2, B2, m2, dd2, e2, -, -⟩ := hnr.is_agg
  simp only [Value.agg.injEq] at e1 e2
  have e1a : a = .slice A l cc := by have := congrArg (fun z : Array Value => z[1]?) e1; simpa using this
  have e1b : b = .slice B m dd := by have := congrArg (fun z : Array Value => z[2]?) e1; simpa using this
  have e2a : c = .slice A2 l2 cc2 := by have := congrArg (fun z : Array Value => z[1]?) e2; simpa using this
  have e2b : d = .slice B2 m2 dd2 := by have := congrArg (fun z : Array Value => z[2]?) e2; simpa using this
  subst e1a e1b e2a e2b
  have KX := Lib.hid (fun W (h : Below w1.heap.size w1 W) => And.intro ((hat.keep h).cell 0 rfl) (And.intro ((hat.keep h).cell 1 rfl) (And.intro ((hat.keep h).cell 2 rfl) (And.intro ((hat.keep h).cell 3 rfl) (And.intro ((hat.keep h).cell 4 rfl) ((hat.keep h).cell 5 rfl))))))
  have hgl := hat.lt
  have KQ := Lib.hid (fun W x y z' (h : Below w1.heap.size w1 W) (_ : g < w1.heap.size) => And.intro (put_cell (g := w1.heap.size) (KX.out W h).1 (by omega) x y z') (And.intro (put_cell (g := w1.heap.size) (KX.out W h).2.1 (by omega) x y z') (And.intro (put_cell (g := w1.heap.size) (KX.out W h).2.2.1 (by omega) x y z') (And.intro (put_cell (g := w1.heap.size) (KX.out W h).2.2.2.1 (by omega) x y z') (And.intro (put_cell (g := w1.heap.size) (KX.out W h).2.2.2.2.1 (by omega) x y z') (put_cell (g := w1.heap.size) (KX.out W h).2.2.2.2.2 (by omega) x y z'))))))
  have CF := Lib.hid (fun W (h : Below w1.heap.size w1 W) => HF.out w1 W _ _ (hnq.keep h) (hnr.keep h) h)
  clear e1 e2 hat hnq hnr hw1 HB1 HR1 HN HRD x0 x1 x2 y0 y1 y2
  go_wp2_with fail
  go_region_held3 (fun w' => w'.cell? ⟨g, 0, none⟩ = some (.bool (Big.ng q)) ∧ w'.cell? ⟨g, 1, none⟩ = some (.slice A l cc) ∧ w'.cell? ⟨g, 2, none⟩ = some (.slice B m dd) ∧ w'.cell? ⟨g, 3, none⟩ = some (.bool (Big.ng r)) ∧ w'.cell? ⟨g, 4, none⟩ = some (.slice A2 l2 cc2) ∧ w'.cell? ⟨g, 5, none⟩ = some (.slice B2 m2 dd2))
    (first | exact KX.out _ (by first | assumption | exact Below.refl _ _ | exact below_drew (Below.refl _ _) | exact below_drew (by assumption) | exact below_drew (below_alloc (Below.refl _ _) (Nat.le_refl _) _) | exact below_alloc (by assumption) (Nat.le_refl _) _ | exact below_alloc (Below.refl _ _) (Nat.le_refl _) _) | exact KX.out _ (below_alloc (by first | assumption | exact Below.refl _ _ | exact below_drew (Below.refl _ _) | exact below_drew (by assumption)) (Nat.le_refl _) _) | exact KQ.out _ _ _ _ (by assumption) hgl)
    (first
      | (go_at_call 39; (with_reducible refine (CF.out _ (by first | assumption | exact Below.refl _ _ | exact below_drew (Below.refl _ _) | exact below_drew (by assumption) | exact below_drew (below_alloc (Below.refl _ _) (Nat.le_refl _) _) | exact below_alloc (by assumption) (Nat.le_refl _) _ | exact below_alloc (Below.refl _ _) (Nat.le_refl _) _)).mono ?_); rintro e w3 ⟨v3, rfl, hv3, hw3, hw3'⟩; obtain ⟨A3, l3, c3, B3, m3, d3, rfl, hq3, hr3⟩ := hv3.is_agg; have hlt3 := hw3.size; try (have R3 := At3.keep (show At3 ((w1.alloc (.cells #[.bool false, .slice none 0 0, .slice none 0 0] 45)).drew) w1.heap.size 45 (.bool false) (.slice none 0 0) (.slice none 0 0) from At3.new w1 _ _ _ _) hw3'; have k0 := R3.c0; have k1 := R3.c1; have k2 := R3.c2; have f0 := R3.frozen 0; have f1 := R3.frozen 1; have f2 := R3.frozen 2))
      | fail)
  all_goals
    have HB3 := HB2.out.trans (hw3.mono HB2.out.size)
    have RW3 := HR2.out.keep hw3
    have hne : w.heap.size + 1 + 1 ≠ w1.heap.size := by have := HR2.out.lt; omega
    have hge : w.heap.size ≤ w1.heap.size := by have := HR2.out.lt; omega
    have HFR := Lib.hid (And.intro HB3 (And.intro RW3 (And.intro hne hge)))
    clear HB3 RW3 hne hge
    go_wp2_with fail
    refine (CA.out _ _ ?_).mono ?_
    · first
        | exact hv3.keep (box1_below _ _)
        | exact hv3.only (NumRes.no_int (show NumRes w3 _ _ from R3)) (put_only _ _ _ _ _)
    rintro e w4 ⟨rfl, hw4⟩
    have R4 : At3 w4 (w.heap.size + 1 + 1) 26 (.bool false) (.string ⟨#[]⟩) (.string ⟨#[]⟩) := by
      first
        | exact (HFR.out.2.1.alloc' _).keep hw4
        | exact (((HFR.out.2.1.far HFR.out.2.2.1 _).far HFR.out.2.2.1 _).far HFR.out.2.2.1 _).keep hw4
    have B4 : Below w.heap.size w w4 := by
      first
        | exact (below_alloc HFR.out.1 (Nat.le_refl _) _).trans (hw4.mono (below_alloc HFR.out.1 (Nat.le_refl _) _).size)
        | exact (put_below HFR.out.1 HFR.out.2.2.2 _ _ _).trans (hw4.mono (put_below HFR.out.1 HFR.out.2.2.2 _ _ _).size)
    unfold fracV
    clear hw4 HFR hv3 hw3 hw3' hq3 hr3 hlt3
    try clear R3 k0 k1 k2 f0 f1 f2
    have HD := Lib.hid (At3.put R4 (.bool (Big.ng z)) (.string (bst (Big.nu z))) (.string (bst (Big.de z))))
    have HE := Lib.hid (put_below B4 (show w.heap.size ≤ w.heap.size + 1 + 1 by omega) (.bool (Big.ng z)) (.string (bst (Big.nu z))) (.string (bst (Big.de z))))
    have k0 := R4.c0; have k1 := R4.c1; have k2 := R4.c2; have f0 := R4.frozen 0; have f1 := R4.frozen 1; have f2 := R4.frozen 2
    clear R4 B4
    go_wp2_with fail
    generalize (((w4.setCell ⟨w.heap.size + 1 + 1, 0, none⟩ (.bool (Big.ng z))).setCell ⟨w.heap.size + 1 + 1, 1, none⟩ (.string (bst (Big.nu z)))).setCell ⟨w.heap.size + 1 + 1, 2, none⟩ (.string (bst (Big.de z)))) = wz at HD HE ⊢
    clear k0 k1 k2 f0 f1 f2
    have r0 := HD.out.c0; have r1 := HD.out.c1; have r2 := HD.out.c2
    exact bodyPost_ret (v := .tuple #[.agg #[.bool (Big.ng z), .string (bst (Big.nu z)), .string (bst (Big.de z))], .int .i64 0]) (by simp [results, Tryd.results19, go_sem, r0, r1, r2]) rfl ⟨rfl, HE.out⟩
set_option maxRecDepth 100000 in
set_option maxHeartbeats 4000000 in
theorem raMul_fit (w : World) (q r : Rat) (hq : Fit q) (hr : Fit r) (hz : Fit (q * r)) :
    Calls Tryd.prog 18 #[.agg #[.bool (Big.ng q), .string (bst (Big.nu q)), .string (bst (Big.de q))], .agg #[.bool (Big.ng r), .string (bst (Big.nu r)), .string (bst (Big.de r))]] w (Ret2 w (fracV (q * r)) 0) := by
  have sz : Sm (2 * 64 + 2 * 64 + 1) (q * r) := ((hq.sm.mul hr.sm).up (by omega))
  have C := Lib.hid (fun W => reckonMul_fit W q r (q * r) _ hq hr hz sz (by omega) (fun b W' v u h i hb => Mul1_any b W' v u q r h i hq.sm hr.sm hb))
  obtain ⟨X0, Y0, R0, B0⟩ := boxed3 w 26 26 (.bool (Big.ng q)) (.string (bst (Big.nu q))) (.string (bst (Big.de q))) (.bool (Big.ng r)) (.string (bst (Big.nu r))) (.string (bst (Big.de r))) (.bool false) (.string ⟨#[]⟩) (.string ⟨#[]⟩)
  have HR0 := Lib.hid R0; have HB0 := Lib.hid B0
  clear X0 Y0 R0 B0 hq hr hz sz
  obtain ⟨Z, hZ⟩ : ∃ Z, q * r = Z := ⟨_, rfl⟩
  rw [hZ] at C ⊢
  clear hZ
  go_enter Tryd.func18, Tryd.ntmps18
  go_wp2_with fail
  refine (C.out _).mono ?_
  generalize ((w.alloc (.cells #[.bool (Big.ng q), .string (bst (Big.nu q)), .string (bst (Big.de q))] 26)).alloc (.cells #[.bool (Big.ng r), .string (bst (Big.nu r)), .string (bst (Big.de r))] 26)).alloc (.cells #[.bool false, .string ⟨#[]⟩, .string ⟨#[]⟩] 26) = w0 at *
  rintro e w4 ⟨rfl, hw4⟩
  unfold fracV
  have R4 := HR0.out.keep hw4
  have HD := Lib.hid (At3.put R4 (.bool (Big.ng Z)) (.string (bst (Big.nu Z))) (.string (bst (Big.de Z))))
  have HE := Lib.hid (put_below (HB0.out.trans (hw4.mono HB0.out.size)) (show w.heap.size ≤ w.heap.size + 1 + 1 by omega) (.bool (Big.ng Z)) (.string (bst (Big.nu Z))) (.string (bst (Big.de Z))))
  have k0 := R4.c0; have k1 := R4.c1; have k2 := R4.c2; have f0 := R4.frozen 0; have f1 := R4.frozen 1; have f2 := R4.frozen 2
  clear R4 hw4 HR0 HB0 C
  go_wp2_with fail
  generalize (((w4.setCell ⟨w.heap.size + 1 + 1, 0, none⟩ (.bool (Big.ng Z))).setCell ⟨w.heap.size + 1 + 1, 1, none⟩ (.string (bst (Big.nu Z)))).setCell ⟨w.heap.size + 1 + 1, 2, none⟩ (.string (bst (Big.de Z)))) = wz at HD HE ⊢
  clear k0 k1 k2 f0 f1 f2
  have r0 := HD.out.c0; have r1 := HD.out.c1; have r2 := HD.out.c2
  exact bodyPost_ret (v := .tuple #[.agg #[.bool (Big.ng Z), .string (bst (Big.nu Z)), .string (bst (Big.de Z))], .int .i64 0]) (by simp [results, Tryd.results18, go_sem, r0, r1, r2]) rfl ⟨rfl, HE.out⟩
end Go.Proofs.YtepnghhgmjobjaaDoor
namespace Go.Proofs.YtepnghhgmjobjaaDoor
open Go.RowKit
set_option maxRecDepth 100000 in
set_option maxHeartbeats 4000000 in
theorem ladd_any (w : World) (q r : Rat) (hq : Fit q) (hr : Fit r) (hz : Fit (q + r)) :
    Calls Tryd.prog 6 #[.agg #[.bool (Big.ng q), .string (bst (Big.nu q)), .string (bst (Big.de q))], .agg #[.bool (Big.ng r), .string (bst (Big.nu r)), .string (bst (Big.de r))]] w (Fr1 w (q + r)) := by
  have C := Lib.hid (fun W => raAdd_fit W q r hq hr hz)
  obtain ⟨X0, Y0, R0, B0⟩ := boxed3 w 26 26 (.bool (Big.ng q)) (.string (bst (Big.nu q))) (.string (bst (Big.de q))) (.bool (Big.ng r)) (.string (bst (Big.nu r))) (.string (bst (Big.de r))) (.bool false) (.string ⟨#[]⟩) (.string ⟨#[]⟩)
  have HR0 := Lib.hid R0; have HB0 := Lib.hid B0
  clear X0 Y0 R0 B0 hq hr hz
  obtain ⟨Z, hZ⟩ : ∃ Z, q + r = Z := ⟨_, rfl⟩
  rw [hZ] at C ⊢
  clear hZ
  go_enter Tryd.func6, Tryd.ntmps6
  go_wp2_with fail
  refine (C.out _).mono ?_
  generalize ((w.alloc (.cells #[.bool (Big.ng q), .string (bst (Big.nu q)), .string (bst (Big.de q))] 26)).alloc (.cells #[.bool (Big.ng r), .string (bst (Big.nu r)), .string (bst (Big.de r))] 26)).alloc (.cells #[.bool false, .string ⟨#[]⟩, .string ⟨#[]⟩] 26) = w0 at *
  rintro e w1 ⟨rfl, hw1⟩
  unfold fracV
  have R1 := HR0.out.keep hw1
  have hlt := R1.lt
  have HB1 := Lib.hid (HB0.out.trans (hw1.mono HB0.out.size))
  have HD := Lib.hid ((At3.put R1 (.bool (Big.ng Z)) (.string (bst (Big.nu Z))) (.string (bst (Big.de Z)))).alloc' (.cells #[.bool (Big.ng Z), .string (bst (Big.nu Z)), .string (bst (Big.de Z))] 26))
  have HE := Lib.hid (below_alloc (put_below HB1.out (show w.heap.size ≤ w.heap.size + 1 + 1 by omega) (.bool (Big.ng Z)) (.string (bst (Big.nu Z))) (.string (bst (Big.de Z)))) (Nat.le_refl _) (.cells #[.bool (Big.ng Z), .string (bst (Big.nu Z)), .string (bst (Big.de Z))] 26))
  have k0 := R1.c0; have k1 := R1.c1; have k2 := R1.c2; have f0 := R1.frozen 0; have f1 := R1.frozen 1; have f2 := R1.frozen 2
  clear R1 hw1 HR0 HB0 C
  go_wp2_with fail
  generalize ((((w1.setCell ⟨w.heap.size + 1 + 1, 0, none⟩ (.bool (Big.ng Z))).setCell ⟨w.heap.size + 1 + 1, 1, none⟩ (.string (bst (Big.nu Z)))).setCell ⟨w.heap.size + 1 + 1, 2, none⟩ (.string (bst (Big.de Z)))).alloc (.cells #[.bool (Big.ng Z), .string (bst (Big.nu Z)), .string (bst (Big.de Z))] 26)) = wz at HD HE ⊢
  clear k0 k1 k2 f0 f1 f2
  have r0 := HD.out.c0; have r1 := HD.out.c1; have r2 := HD.out.c2
  exact bodyPost_ret (v := .agg #[.bool (Big.ng Z), .string (bst (Big.nu Z)), .string (bst (Big.de Z))]) (by simp [results, Tryd.results6, go_sem, r0, r1, r2]) rfl ⟨rfl, HE.out⟩
set_option maxRecDepth 100000 in
set_option maxHeartbeats 4000000 in
theorem lmul_any (w : World) (q r : Rat) (hq : Fit q) (hr : Fit r) (hz : Fit (q * r)) :
    Calls Tryd.prog 7 #[.agg #[.bool (Big.ng q), .string (bst (Big.nu q)), .string (bst (Big.de q))], .agg #[.bool (Big.ng r), .string (bst (Big.nu r)), .string (bst (Big.de r))]] w (Fr1 w (q * r)) := by
  have C := Lib.hid (fun W => raMul_fit W q r hq hr hz)
  obtain ⟨X0, Y0, R0, B0⟩ := boxed3 w 26 26 (.bool (Big.ng q)) (.string (bst (Big.nu q))) (.string (bst (Big.de q))) (.bool (Big.ng r)) (.string (bst (Big.nu r))) (.string (bst (Big.de r))) (.bool false) (.string ⟨#[]⟩) (.string ⟨#[]⟩)
  have HR0 := Lib.hid R0; have HB0 := Lib.hid B0
  clear X0 Y0 R0 B0 hq hr hz
  obtain ⟨Z, hZ⟩ : ∃ Z, q * r = Z := ⟨_, rfl⟩
  rw [hZ] at C ⊢
  clear hZ
  go_enter Tryd.func7, Tryd.ntmps7
  go_wp2_with fail
  refine (C.out _).mono ?_
  generalize ((w.alloc (.cells #[.bool (Big.ng q), .string (bst (Big.nu q)), .string (bst (Big.de q))] 26)).alloc (.cells #[.bool (Big.ng r), .string (bst (Big.nu r)), .string (bst (Big.de r))] 26)).alloc (.cells #[.bool false, .string ⟨#[]⟩, .string ⟨#[]⟩] 26) = w0 at *
  rintro e w1 ⟨rfl, hw1⟩
  unfold fracV
  have R1 := HR0.out.keep hw1
  have hlt := R1.lt
  have HB1 := Lib.hid (HB0.out.trans (hw1.mono HB0.out.size))
  have HD := Lib.hid ((At3.put R1 (.bool (Big.ng Z)) (.string (bst (Big.nu Z))) (.string (bst (Big.de Z)))).alloc' (.cells #[.bool (Big.ng Z), .string (bst (Big.nu Z)), .string (bst (Big.de Z))] 26))
  have HE := Lib.hid (below_alloc (put_below HB1.out (show w.heap.size ≤ w.heap.size + 1 + 1 by omega) (.bool (Big.ng Z)) (.string (bst (Big.nu Z))) (.string (bst (Big.de Z)))) (Nat.le_refl _) (.cells #[.bool (Big.ng Z), .string (bst (Big.nu Z)), .string (bst (Big.de Z))] 26))
  have k0 := R1.c0; have k1 := R1.c1; have k2 := R1.c2; have f0 := R1.frozen 0; have f1 := R1.frozen 1; have f2 := R1.frozen 2
  clear R1 hw1 HR0 HB0 C
  go_wp2_with fail
  generalize ((((w1.setCell ⟨w.heap.size + 1 + 1, 0, none⟩ (.bool (Big.ng Z))).setCell ⟨w.heap.size + 1 + 1, 1, none⟩ (.string (bst (Big.nu Z)))).setCell ⟨w.heap.size + 1 + 1, 2, none⟩ (.string (bst (Big.de Z)))).alloc (.cells #[.bool (Big.ng Z), .string (bst (Big.nu Z)), .string (bst (Big.de Z))] 26)) = wz at HD HE ⊢
  clear k0 k1 k2 f0 f1 f2
  have r0 := HD.out.c0; have r1 := HD.out.c1; have r2 := HD.out.c2
  exact bodyPost_ret (v := .agg #[.bool (Big.ng Z), .string (bst (Big.nu Z)), .string (bst (Big.de Z))]) (by simp [results, Tryd.results7, go_sem, r0, r1, r2]) rfl ⟨rfl, HE.out⟩
end Go.Proofs.YtepnghhgmjobjaaDoor
namespace Go.Proofs.YtepnghhgmjobjaaDoor
open Go.RowKit
structure LF (w0 w : World) (L : Array Bool) (g0 : Nat) (a b c d : Int) (x y : Rat) (b0 b1 s0 s1 s2 s3 s4 s5 s6 s7 s8 s9 : Value) : Prop where
  hb : Below w0.heap.size w0 w
  p0 : L.getD 0 false = true → s0 = .pointer (some ⟨g0, 0, none⟩)
  p1 : L.getD 1 false = true → s1 = .int .i16 a
  p2 : L.getD 2 false = true → s2 = .pointer (some ⟨g0, 1, none⟩)
  p3 : L.getD 3 false = true → s3 = .int .i16 b
  p4 : L.getD 4 false = true → s4 = .agg #[.bool (Big.ng x), .string (bst (Big.nu x)), .string (bst (Big.de x))]
  p5 : L.getD 5 false = true → s5 = .pointer (some ⟨g0, 2, none⟩)
  p6 : L.getD 6 false = true → s6 = .int .i16 c
  p7 : L.getD 7 false = true → s7 = .pointer (some ⟨g0, 3, none⟩)
  p8 : L.getD 8 false = true → s8 = .int .i16 d
  p9 : L.getD 9 false = true → s9 = .agg #[.bool (Big.ng y), .string (bst (Big.nu y)), .string (bst (Big.de y))]
  x0 : L.getD 10 false = true → ∃ g, b0 = .pointer (some ⟨g, 0, none⟩) ∧ w0.heap.size ≤ g ∧ (∃ a b c, At3 w g 26 a b c) ∧ (L.getD 12 false = true → At3 w g 26 (.bool (Big.ng x)) (.string (bst (Big.nu x))) (.string (bst (Big.de x))))
  x1 : L.getD 11 false = true → ∃ g, b1 = .pointer (some ⟨g, 0, none⟩) ∧ w0.heap.size ≤ g ∧ (∃ a b c, At3 w g 26 a b c) ∧ (L.getD 13 false = true → At3 w g 26 (.bool (Big.ng y)) (.string (bst (Big.nu y))) (.string (bst (Big.de y))))
  d01 : L.getD 10 false = true → L.getD 11 false = true → b0 ≠ b1
  y0 : L.getD 12 false = true → L.getD 10 false = true
  y1 : L.getD 13 false = true → L.getD 11 false = true
section
variable {w0 w : World} {L : Array Bool} {g0 : Nat} {a b c d : Int} {x y : Rat} {b0 b1 s0 s1 s2 s3 s4 s5 s6 s7 s8 s9 : Value}
theorem LF.move {w' : World} (F : LF w0 w L g0 a b c d x y b0 b1 s0 s1 s2 s3 s4 s5 s6 s7 s8 s9) (h : Below w.heap.size w w') : LF w0 w' L g0 a b c d x y b0 b1 s0 s1 s2 s3 s4 s5 s6 s7 s8 s9 :=
  { hb := F.hb.trans (h.mono F.hb.size)
    p0 := F.p0
    p1 := F.p1
    p2 := F.p2
    p3 := F.p3
    p4 := F.p4
    p5 := F.p5
    p6 := F.p6
    p7 := F.p7
    p8 := F.p8
    p9 := F.p9
    x0 := fun l => by
      obtain ⟨g, e, hg, ⟨a, b, c, hs⟩, hx⟩ := F.x0 l
      exact ⟨g, e, hg, ⟨a, b, c, hs.keep h⟩, fun l' => (hx l').keep h⟩
    x1 := fun l => by
      obtain ⟨g, e, hg, ⟨a, b, c, hs⟩, hx⟩ := F.x1 l
      exact ⟨g, e, hg, ⟨a, b, c, hs.keep h⟩, fun l' => (hx l').keep h⟩
    d01 := F.d01
    y0 := F.y0
    y1 := F.y1 }
theorem LF.set0 (F : LF w0 w L g0 a b c d x y b0 b1 s0 s1 s2 s3 s4 s5 s6 s7 s8 s9) {v : Value} (n : v = .pointer (some ⟨g0, 0, none⟩)) : LF w0 w (L.setIfInBounds 0 true) g0 a b c d x y b0 b1 v s1 s2 s3 s4 s5 s6 s7 s8 s9 :=
  { hb := F.hb
    p0 := fun _ => n
    p1 := fun l => F.p1 (lis (by decide) l)
    p2 := fun l => F.p2 (lis (by decide) l)
    p3 := fun l => F.p3 (lis (by decide) l)
    p4 := fun l => F.p4 (lis (by decide) l)
    p5 := fun l => F.p5 (lis (by decide) l)
    p6 := fun l => F.p6 (lis (by decide) l)
    p7 := fun l => F.p7 (lis (by decide) l)
    p8 := fun l => F.p8 (lis (by decide) l)
    p9 := fun l => F.p9 (lis (by decide) l)
    x0 := fun l => by
      obtain ⟨g, e, hg, hs, hx⟩ := F.x0 (lis (by decide) l)
      exact ⟨g, e, hg, hs, fun l' => hx (lis (by decide) l')⟩
    x1 := fun l => by
      obtain ⟨g, e, hg, hs, hx⟩ := F.x1 (lis (by decide) l)
      exact ⟨g, e, hg, hs, fun l' => hx (lis (by decide) l')⟩
    d01 := fun l l' => F.d01 (lis (by decide) l) (lis (by decide) l')
    y0 := fun l => getD_set_true (F.y0 (lis (by decide) l))
    y1 := fun l => getD_set_true (F.y1 (lis (by decide) l)) }
theorem LF.set1 (F : LF w0 w L g0 a b c d x y b0 b1 s0 s1 s2 s3 s4 s5 s6 s7 s8 s9) {v : Value} (n : v = .int .i16 a) : LF w0 w (L.setIfInBounds 1 true) g0 a b c d x y b0 b1 s0 v s2 s3 s4 s5 s6 s7 s8 s9 :=
  { hb := F.hb
    p0 := fun l => F.p0 (lis (by decide) l)
    p1 := fun _ => n
    p2 := fun l => F.p2 (lis (by decide) l)
    p3 := fun l => F.p3 (lis (by decide) l)
    p4 := fun l => F.p4 (lis (by decide) l)
    p5 := fun l => F.p5 (lis (by decide) l)
    p6 := fun l => F.p6 (lis (by decide) l)
    p7 := fun l => F.p7 (lis (by decide) l)
    p8 := fun l => F.p8 (lis (by decide) l)
    p9 := fun l => F.p9 (lis (by decide) l)
    x0 := fun l => by
      obtain ⟨g, e, hg, hs, hx⟩ := F.x0 (lis (by decide) l)
      exact ⟨g, e, hg, hs, fun l' => hx (lis (by decide) l')⟩
    x1 := fun l => by
      obtain ⟨g, e, hg, hs, hx⟩ := F.x1 (lis (by decide) l)
      exact ⟨g, e, hg, hs, fun l' => hx (lis (by decide) l')⟩
    d01 := fun l l' => F.d01 (lis (by decide) l) (lis (by decide) l')
    y0 := fun l => getD_set_true (F.y0 (lis (by decide) l))
    y1 := fun l => getD_set_true (F.y1 (lis (by decide) l)) }
theorem LF.set2 (F : LF w0 w L g0 a b c d x y b0 b1 s0 s1 s2 s3 s4 s5 s6 s7 s8 s9) {v : Value} (n : v = .pointer (some ⟨g0, 1, none⟩)) : LF w0 w (L.setIfInBounds 2 true) g0 a b c d x y b0 b1 s0 s1 v s3 s4 s5 s6 s7 s8 s9 :=
  { hb := F.hb
    p0 := fun l => F.p0 (lis (by decide) l)
    p1 := fun l => F.p1 (lis (by decide) l)
    p2 := fun _ => n
    p3 := fun l => F.p3 (lis (by decide) l)
    p4 := fun l => F.p4 (lis (by decide) l)
    p5 := fun l => F.p5 (lis (by decide) l)
    p6 := fun l => F.p6 (lis (by decide) l)
    p7 := fun l => F.p7 (lis (by decide) l)
    p8 := fun l => F.p8 (lis (by decide) l)
    p9 := fun l => F.p9 (lis (by decide) l)
    x0 := fun l => by
      obtain ⟨g, e, hg, hs, hx⟩ := F.x0 (lis (by decide) l)
      exact ⟨g, e, hg, hs, fun l' => hx (lis (by decide) l')⟩
    x1 := fun l => by
      obtain ⟨g, e, hg, hs, hx⟩ := F.x1 (lis (by decide) l)
      exact ⟨g, e, hg, hs, fun l' => hx (lis (by decide) l')⟩
    d01 := fun l l' => F.d01 (lis (by decide) l) (lis (by decide) l')
    y0 := fun l => getD_set_true (F.y0 (lis (by decide) l))
    y1 := fun l => getD_set_true (F.y1 (lis (by decide) l)) }
theorem LF.set3 (F : LF w0 w L g0 a b c d x y b0 b1 s0 s1 s2 s3 s4 s5 s6 s7 s8 s9) {v : Value} (n : v = .int .i16 b) : LF w0 w (L.setIfInBounds 3 true) g0 a b c d x y b0 b1 s0 s1 s2 v s4 s5 s6 s7 s8 s9 :=
  { hb := F.hb
    p0 := fun l => F.p0 (lis (by decide) l)
    p1 := fun l => F.p1 (lis (by decide) l)
    p2 := fun l => F.p2 (lis (by decide) l)
    p3 := fun _ => n
    p4 := fun l => F.p4 (lis (by decide) l)
    p5 := fun l => F.p5 (lis (by decide) l)
    p6 := fun l => F.p6 (lis (by decide) l)
    p7 := fun l => F.p7 (lis (by decide) l)
    p8 := fun l => F.p8 (lis (by decide) l)
    p9 := fun l => F.p9 (lis (by decide) l)
    x0 := fun l => by
      obtain ⟨g, e, hg, hs, hx⟩ := F.x0 (lis (by decide) l)
      exact ⟨g, e, hg, hs, fun l' => hx (lis (by decide) l')⟩
    x1 := fun l => by
      obtain ⟨g, e, hg, hs, hx⟩ := F.x1 (lis (by decide) l)
      exact ⟨g, e, hg, hs, fun l' => hx (lis (by decide) l')⟩
    d01 := fun l l' => F.d01 (lis (by decide) l) (lis (by decide) l')
    y0 := fun l => getD_set_true (F.y0 (lis (by decide) l))
    y1 := fun l => getD_set_true (F.y1 (lis (by decide) l)) }
theorem LF.set4 (F : LF w0 w L g0 a b c d x y b0 b1 s0 s1 s2 s3 s4 s5 s6 s7 s8 s9) {v : Value} (n : v = .agg #[.bool (Big.ng x), .string (bst (Big.nu x)), .string (bst (Big.de x))]) : LF w0 w (L.setIfInBounds 4 true) g0 a b c d x y b0 b1 s0 s1 s2 s3 v s5 s6 s7 s8 s9 :=
  { hb := F.hb
    p0 := fun l => F.p0 (lis (by decide) l)
    p1 := fun l => F.p1 (lis (by decide) l)
    p2 := fun l => F.p2 (lis (by decide) l)
    p3 := fun l => F.p3 (lis (by decide) l)
    p4 := fun _ => n
    p5 := fun l => F.p5 (lis (by decide) l)
    p6 := fun l => F.p6 (lis (by decide) l)
    p7 := fun l => F.p7 (lis (by decide) l)
    p8 := fun l => F.p8 (lis (by decide) l)
    p9 := fun l => F.p9 (lis (by decide) l)
    x0 := fun l => by
      obtain ⟨g, e, hg, hs, hx⟩ := F.x0 (lis (by decide) l)
      exact ⟨g, e, hg, hs, fun l' => hx (lis (by decide) l')⟩
    x1 := fun l => by
      obtain ⟨g, e, hg, hs, hx⟩ := F.x1 (lis (by decide) l)
      exact ⟨g, e, hg, hs, fun l' => hx (lis (by decide) l')⟩
    d01 := fun l l' => F.d01 (lis (by decide) l) (lis (by decide) l')
    y0 := fun l => getD_set_true (F.y0 (lis (by decide) l))
    y1 := fun l => getD_set_true (F.y1 (lis (by decide) l)) }
theorem LF.set5 (F : LF w0 w L g0 a b c d x y b0 b1 s0 s1 s2 s3 s4 s5 s6 s7 s8 s9) {v : Value} (n : v = .pointer (some ⟨g0, 2, none⟩)) : LF w0 w (L.setIfInBounds 5 true) g0 a b c d x y b0 b1 s0 s1 s2 s3 s4 v s6 s7 s8 s9 :=
  { hb := F.hb
    p0 := fun l => F.p0 (lis (by decide) l)
    p1 := fun l => F.p1 (lis (by decide) l)
    p2 := fun l => F.p2 (lis (by decide) l)
    p3 := fun l => F.p3 (lis (by decide) l)
    p4 := fun l => F.p4 (lis (by decide) l)
    p5 := fun _ => n
    p6 := fun l => F.p6 (lis (by decide) l)
    p7 := fun l => F.p7 (lis (by decide) l)
    p8 := fun l => F.p8 (lis (by decide) l)
    p9 := fun l => F.p9 (lis (by decide) l)
    x0 := fun l => by
      obtain ⟨g, e, hg, hs, hx⟩ := F.x0 (lis (by decide) l)
      exact ⟨g, e, hg, hs, fun l' => hx (lis (by decide) l')⟩
    x1 := fun l => by
      obtain ⟨g, e, hg, hs, hx⟩ := F.x1 (lis (by decide) l)
      exact ⟨g, e, hg, hs, fun l' => hx (lis (by decide) l')⟩
    d01 := fun l l' => F.d01 (lis (by decide) l) (lis (by decide) l')
    y0 := fun l => getD_set_true (F.y0 (lis (by decide) l))
    y1 := fun l => getD_set_true (F.y1 (lis (by decide) l)) }
theorem LF.set6 (F : LF w0 w L g0 a b c d x y b0 b1 s0 s1 s2 s3 s4 s5 s6 s7 s8 s9) {v : Value} (n : v = .int .i16 c) : LF w0 w (L.setIfInBounds 6 true) g0 a b c d x y b0 b1 s0 s1 s2 s3 s4 s5 v s7 s8 s9 :=
  { hb := F.hb
    p0 := fun l => F.p0 (lis (by decide) l)
    p1 := fun l => F.p1 (lis (by decide) l)
    p2 := fun l => F.p2 (lis (by decide) l)
    p3 := fun l => F.p3 (lis (by decide) l)
    p4 := fun l => F.p4 (lis (by decide) l)
    p5 := fun l => F.p5 (lis (by decide) l)
    p6 := fun _ => n
    p7 := fun l => F.p7 (lis (by decide) l)
    p8 := fun l => F.p8 (lis (by decide) l)
    p9 := fun l => F.p9 (lis (by decide) l)
    x0 := fun l => by
      obtain ⟨g, e, hg, hs, hx⟩ := F.x0 (lis (by decide) l)
      exact ⟨g, e, hg, hs, fun l' => hx (lis (by decide) l')⟩
    x1 := fun l => by
      obtain ⟨g, e, hg, hs, hx⟩ := F.x1 (lis (by decide) l)
      exact ⟨g, e, hg, hs, fun l' => hx (lis (by decide) l')⟩
    d01 := fun l l' => F.d01 (lis (by decide) l) (lis (by decide) l')
    y0 := fun l => getD_set_true (F.y0 (lis (by decide) l))
    y1 := fun l => getD_set_true (F.y1 (lis (by decide) l)) }
theorem LF.set7 (F : LF w0 w L g0 a b c d x y b0 b1 s0 s1 s2 s3 s4 s5 s6 s7 s8 s9) {v : Value} (n : v = .pointer (some ⟨g0, 3, none⟩)) : LF w0 w (L.setIfInBounds 7 true) g0 a b c d x y b0 b1 s0 s1 s2 s3 s4 s5 s6 v s8 s9 :=
  { hb := F.hb
    p0 := fun l => F.p0 (lis (by decide) l)
    p1 := fun l => F.p1 (lis (by decide) l)
    p2 := fun l => F.p2 (lis (by decide) l)
    p3 := fun l => F.p3 (lis (by decide) l)
    p4 := fun l => F.p4 (lis (by decide) l)
    p5 := fun l => F.p5 (lis (by decide) l)
    p6 := fun l => F.p6 (lis (by decide) l)
    p7 := fun _ => n
    p8 := fun l => F.p8 (lis (by decide) l)
    p9 := fun l => F.p9 (lis (by decide) l)
    x0 := fun l => by
      obtain ⟨g, e, hg, hs, hx⟩ := F.x0 (lis (by decide) l)
      exact ⟨g, e, hg, hs, fun l' => hx (lis (by decide) l')⟩
    x1 := fun l => by
      obtain ⟨g, e, hg, hs, hx⟩ := F.x1 (lis (by decide) l)
      exact ⟨g, e, hg, hs, fun l' => hx (lis (by decide) l')⟩
    d01 := fun l l' => F.d01 (lis (by decide) l) (lis (by decide) l')
    y0 := fun l => getD_set_true (F.y0 (lis (by decide) l))
    y1 := fun l => getD_set_true (F.y1 (lis (by decide) l)) }
theorem LF.set8 (F : LF w0 w L g0 a b c d x y b0 b1 s0 s1 s2 s3 s4 s5 s6 s7 s8 s9) {v : Value} (n : v = .int .i16 d) : LF w0 w (L.setIfInBounds 8 true) g0 a b c d x y b0 b1 s0 s1 s2 s3 s4 s5 s6 s7 v s9 :=
  { hb := F.hb
    p0 := fun l => F.p0 (lis (by decide) l)
    p1 := fun l => F.p1 (lis (by decide) l)
    p2 := fun l => F.p2 (lis (by decide) l)
    p3 := fun l => F.p3 (lis (by decide) l)
    p4 := fun l => F.p4 (lis (by decide) l)
    p5 := fun l => F.p5 (lis (by decide) l)
    p6 := fun l => F.p6 (lis (by decide) l)
    p7 := fun l => F.p7 (lis (by decide) l)
    p8 := fun _ => n
    p9 := fun l => F.p9 (lis (by decide) l)
    x0 := fun l => by
      obtain ⟨g, e, hg, hs, hx⟩ := F.x0 (lis (by decide) l)
      exact ⟨g, e, hg, hs, fun l' => hx (lis (by decide) l')⟩
    x1 := fun l => by
      obtain ⟨g, e, hg, hs, hx⟩ := F.x1 (lis (by decide) l)
      exact ⟨g, e, hg, hs, fun l' => hx (lis (by decide) l')⟩
    d01 := fun l l' => F.d01 (lis (by decide) l) (lis (by decide) l')
    y0 := fun l => getD_set_true (F.y0 (lis (by decide) l))
    y1 := fun l => getD_set_true (F.y1 (lis (by decide) l)) }
theorem LF.set9 (F : LF w0 w L g0 a b c d x y b0 b1 s0 s1 s2 s3 s4 s5 s6 s7 s8 s9) {v : Value} (n : v = .agg #[.bool (Big.ng y), .string (bst (Big.nu y)), .string (bst (Big.de y))]) : LF w0 w (L.setIfInBounds 9 true) g0 a b c d x y b0 b1 s0 s1 s2 s3 s4 s5 s6 s7 s8 v :=
  { hb := F.hb
    p0 := fun l => F.p0 (lis (by decide) l)
    p1 := fun l => F.p1 (lis (by decide) l)
    p2 := fun l => F.p2 (lis (by decide) l)
    p3 := fun l => F.p3 (lis (by decide) l)
    p4 := fun l => F.p4 (lis (by decide) l)
    p5 := fun l => F.p5 (lis (by decide) l)
    p6 := fun l => F.p6 (lis (by decide) l)
    p7 := fun l => F.p7 (lis (by decide) l)
    p8 := fun l => F.p8 (lis (by decide) l)
    p9 := fun _ => n
    x0 := fun l => by
      obtain ⟨g, e, hg, hs, hx⟩ := F.x0 (lis (by decide) l)
      exact ⟨g, e, hg, hs, fun l' => hx (lis (by decide) l')⟩
    x1 := fun l => by
      obtain ⟨g, e, hg, hs, hx⟩ := F.x1 (lis (by decide) l)
      exact ⟨g, e, hg, hs, fun l' => hx (lis (by decide) l')⟩
    d01 := fun l l' => F.d01 (lis (by decide) l) (lis (by decide) l')
    y0 := fun l => getD_set_true (F.y0 (lis (by decide) l))
    y1 := fun l => getD_set_true (F.y1 (lis (by decide) l)) }
theorem LF.box0 (F : LF w0 w L g0 a b c d x y b0 b1 s0 s1 s2 s3 s4 s5 s6 s7 s8 s9) {v : Value} (n : ∃ g, v = .pointer (some ⟨g, 0, none⟩) ∧ w0.heap.size ≤ g ∧ (∃ a b c, At3 w g 26 a b c) ∧ ((L.setIfInBounds 10 true).getD 12 false = true → At3 w g 26 (.bool (Big.ng x)) (.string (bst (Big.nu x))) (.string (bst (Big.de x))))) (n1 : L.getD 11 false = true → v ≠ b1) : LF w0 w (L.setIfInBounds 10 true) g0 a b c d x y v b1 s0 s1 s2 s3 s4 s5 s6 s7 s8 s9 :=
  { hb := F.hb
    p0 := fun l => F.p0 (lis (by decide) l)
    p1 := fun l => F.p1 (lis (by decide) l)
    p2 := fun l => F.p2 (lis (by decide) l)
    p3 := fun l => F.p3 (lis (by decide) l)
    p4 := fun l => F.p4 (lis (by decide) l)
    p5 := fun l => F.p5 (lis (by decide) l)
    p6 := fun l => F.p6 (lis (by decide) l)
    p7 := fun l => F.p7 (lis (by decide) l)
    p8 := fun l => F.p8 (lis (by decide) l)
    p9 := fun l => F.p9 (lis (by decide) l)
    x0 := fun _ => n
    x1 := fun l => by
      obtain ⟨g, e, hg, hs, hx⟩ := F.x1 (lis (by decide) l)
      exact ⟨g, e, hg, hs, fun l' => hx (lis (by decide) l')⟩
    d01 := fun _ l => n1 (lis (by decide) l)
    y0 := fun l => getD_set_true (F.y0 (lis (by decide) l))
    y1 := fun l => getD_set_true (F.y1 (lis (by decide) l)) }
theorem LF.box1 (F : LF w0 w L g0 a b c d x y b0 b1 s0 s1 s2 s3 s4 s5 s6 s7 s8 s9) {v : Value} (n : ∃ g, v = .pointer (some ⟨g, 0, none⟩) ∧ w0.heap.size ≤ g ∧ (∃ a b c, At3 w g 26 a b c) ∧ ((L.setIfInBounds 11 true).getD 13 false = true → At3 w g 26 (.bool (Big.ng y)) (.string (bst (Big.nu y))) (.string (bst (Big.de y))))) (n0 : L.getD 10 false = true → v ≠ b0) : LF w0 w (L.setIfInBounds 11 true) g0 a b c d x y b0 v s0 s1 s2 s3 s4 s5 s6 s7 s8 s9 :=
  { hb := F.hb
    p0 := fun l => F.p0 (lis (by decide) l)
    p1 := fun l => F.p1 (lis (by decide) l)
    p2 := fun l => F.p2 (lis (by decide) l)
    p3 := fun l => F.p3 (lis (by decide) l)
    p4 := fun l => F.p4 (lis (by decide) l)
    p5 := fun l => F.p5 (lis (by decide) l)
    p6 := fun l => F.p6 (lis (by decide) l)
    p7 := fun l => F.p7 (lis (by decide) l)
    p8 := fun l => F.p8 (lis (by decide) l)
    p9 := fun l => F.p9 (lis (by decide) l)
    x0 := fun l => by
      obtain ⟨g, e, hg, hs, hx⟩ := F.x0 (lis (by decide) l)
      exact ⟨g, e, hg, hs, fun l' => hx (lis (by decide) l')⟩
    x1 := fun _ => n
    d01 := fun l _ => (n0 (lis (by decide) l)).symm
    y0 := fun l => getD_set_true (F.y0 (lis (by decide) l))
    y1 := fun l => getD_set_true (F.y1 (lis (by decide) l)) }
theorem LF.put0 (F : LF w0 w L g0 a b c d x y b0 b1 s0 s1 s2 s3 s4 s5 s6 s7 s8 s9) (l0 : L.getD 10 false = true) (l1 : L.getD 11 false = true) {g : Nat} (eg : b0 = .pointer (some ⟨g, 0, none⟩)) : LF w0 (((w.setCell ⟨g, 0, none⟩ (.bool (Big.ng x))).setCell ⟨g, 1, none⟩ (.string (bst (Big.nu x)))).setCell ⟨g, 2, none⟩ (.string (bst (Big.de x)))) (L.setIfInBounds 12 true) g0 a b c d x y b0 b1 s0 s1 s2 s3 s4 s5 s6 s7 s8 s9 := by
  obtain ⟨g', e', hg, ⟨a, b, c, hs⟩, -⟩ := F.x0 l0
  obtain rfl : g' = g := by rw [e'] at eg; simpa using eg
  exact {
    hb := put_below F.hb hg _ _ _
    p0 := fun l => F.p0 (lis (by decide) l)
    p1 := fun l => F.p1 (lis (by decide) l)
    p2 := fun l => F.p2 (lis (by decide) l)
    p3 := fun l => F.p3 (lis (by decide) l)
    p4 := fun l => F.p4 (lis (by decide) l)
    p5 := fun l => F.p5 (lis (by decide) l)
    p6 := fun l => F.p6 (lis (by decide) l)
    p7 := fun l => F.p7 (lis (by decide) l)
    p8 := fun l => F.p8 (lis (by decide) l)
    p9 := fun l => F.p9 (lis (by decide) l)
    x0 := fun _ => ⟨g', e', hg, ⟨_, _, _, hs.put _ _ _⟩, fun _ => hs.put _ _ _⟩
    x1 := fun l => by
      obtain ⟨h, e, hh, ⟨a2, b2, c2, hs2⟩, hx⟩ := F.x1 (lis (by decide) l)
      have hne : h ≠ g' := by
        intro q; subst q; exact F.d01 l0 l1 (e'.trans e.symm)
      exact ⟨h, e, hh, ⟨_, _, _, ((hs2.far (p := ⟨g', 0, none⟩) hne _).far (p := ⟨g', 1, none⟩) hne _).far (p := ⟨g', 2, none⟩) hne _⟩, fun l' => (((hx (lis (by decide) l')).far (p := ⟨g', 0, none⟩) hne _).far (p := ⟨g', 1, none⟩) hne _).far (p := ⟨g', 2, none⟩) hne _⟩
    d01 := fun l l' => F.d01 (lis (by decide) l) (lis (by decide) l')
    y0 := fun _ => getD_set_true l0
    y1 := fun l => getD_set_true (F.y1 (lis (by decide) l)) }
theorem LF.put1 (F : LF w0 w L g0 a b c d x y b0 b1 s0 s1 s2 s3 s4 s5 s6 s7 s8 s9) (l0 : L.getD 10 false = true) (l1 : L.getD 11 false = true) {g : Nat} (eg : b1 = .pointer (some ⟨g, 0, none⟩)) : LF w0 (((w.setCell ⟨g, 0, none⟩ (.bool (Big.ng y))).setCell ⟨g, 1, none⟩ (.string (bst (Big.nu y)))).setCell ⟨g, 2, none⟩ (.string (bst (Big.de y)))) (L.setIfInBounds 13 true) g0 a b c d x y b0 b1 s0 s1 s2 s3 s4 s5 s6 s7 s8 s9 := by
  obtain ⟨g', e', hg, ⟨a, b, c, hs⟩, -⟩ := F.x1 l1
  obtain rfl : g' = g := by rw [e'] at eg; simpa using eg
  exact {
    hb := put_below F.hb hg _ _ _
    p0 := fun l => F.p0 (lis (by decide) l)
    p1 := fun l => F.p1 (lis (by decide) l)
    p2 := fun l => F.p2 (lis (by decide) l)
    p3 := fun l => F.p3 (lis (by decide) l)
    p4 := fun l => F.p4 (lis (by decide) l)
    p5 := fun l => F.p5 (lis (by decide) l)
    p6 := fun l => F.p6 (lis (by decide) l)
    p7 := fun l => F.p7 (lis (by decide) l)
    p8 := fun l => F.p8 (lis (by decide) l)
    p9 := fun l => F.p9 (lis (by decide) l)
    x0 := fun l => by
      obtain ⟨h, e, hh, ⟨a2, b2, c2, hs2⟩, hx⟩ := F.x0 (lis (by decide) l)
      have hne : h ≠ g' := by
        intro q; subst q; exact F.d01 l0 l1 (e.trans e'.symm)
      exact ⟨h, e, hh, ⟨_, _, _, ((hs2.far (p := ⟨g', 0, none⟩) hne _).far (p := ⟨g', 1, none⟩) hne _).far (p := ⟨g', 2, none⟩) hne _⟩, fun l' => (((hx (lis (by decide) l')).far (p := ⟨g', 0, none⟩) hne _).far (p := ⟨g', 1, none⟩) hne _).far (p := ⟨g', 2, none⟩) hne _⟩
    x1 := fun _ => ⟨g', e', hg, ⟨_, _, _, hs.put _ _ _⟩, fun _ => hs.put _ _ _⟩
    d01 := fun l l' => F.d01 (lis (by decide) l) (lis (by decide) l')
    y0 := fun l => getD_set_true (F.y0 (lis (by decide) l))
    y1 := fun _ => getD_set_true l1 }
theorem LF.new0 (F : LF w0 w L g0 a b c d x y b0 b1 s0 s1 s2 s3 s4 s5 s6 s7 s8 s9) (l : L.getD 10 false = true) : Value.pointer (some ⟨w.heap.size, 0, none⟩) ≠ b0 := by
  obtain ⟨g, e, _, ⟨_, _, _, hs⟩, _⟩ := F.x0 l
  intro q
  rw [e] at q
  have := hs.lt
  simp at q <;> omega
theorem LF.new1 (F : LF w0 w L g0 a b c d x y b0 b1 s0 s1 s2 s3 s4 s5 s6 s7 s8 s9) (l : L.getD 11 false = true) : Value.pointer (some ⟨w.heap.size, 0, none⟩) ≠ b1 := by
  obtain ⟨g, e, _, ⟨_, _, _, hs⟩, _⟩ := F.x1 l
  intro q
  rw [e] at q
  have := hs.lt
  simp at q <;> omega
end
end Go.Proofs.YtepnghhgmjobjaaDoor
namespace Go.Proofs.YtepnghhgmjobjaaDoor.Big
def sp : Nat → Nat → Nat → Nat → Nat → Nat × Nat
  | 0, _, _, _, _ => (0, 1)
  | f + 1, a, b, c, d => if (a / b + 1) * d < c then (a / b + 1, 1) else (a / b * (sp f d (c - a / b * d) b (a % b)).1 + (sp f d (c - a / b * d) b (a % b)).2, (sp f d (c - a / b * d) b (a % b)).1)
theorem sp_found {f a b c d : Nat} (h : (a / b + 1) * d < c) : sp (f + 1) a b c d = (a / b + 1, 1) := by rw [sp, if_pos h]
theorem sp_on {f a b c d : Nat} (h : ¬ (a / b + 1) * d < c) : sp (f + 1) a b c d = (a / b * (sp f d (c - a / b * d) b (a % b)).1 + (sp f d (c - a / b * d) b (a % b)).2, (sp f d (c - a / b * d) b (a % b)).1) := by rw [sp, if_neg h]
def spm (a b c d : Nat) : Nat := 2 * (a + b + c + d) + (if a < b then 1 else 0)
structure Ends (a b c d : Nat) : Prop where
  b1 : 1 ≤ b
  lt : a * d < c * b
theorem Ends.c1 {a b c d : Nat} (h : Ends a b c d) : 1 ≤ c := by
  have := h.lt
  rcases Nat.eq_zero_or_pos c with h0 | h0
  · subst h0; simp at this
  · exact h0
theorem Ends.wd {a b c d : Nat} (h : Ends a b c d) : a / b * d < c := by
  have h1 := h.lt
  have h2 := Nat.div_mul_le_self a b
  have h3 : a / b * d * b ≤ a * d := by
    rw [Nat.mul_right_comm]; exact Nat.mul_le_mul_right _ h2
  exact Nat.lt_of_mul_lt_mul_right (Nat.lt_of_le_of_lt h3 h1)
theorem Ends.next {a b c d : Nat} (h : Ends a b c d) : Ends d (c - a / b * d) b (a % b) := by
  have hw := h.wd
  refine ⟨by omega, ?_⟩
  have h1 := h.lt
  have dm := Nat.div_add_mod a b
  generalize a / b = w at *
  generalize a % b = r at *
  subst dm
  obtain ⟨e, he⟩ : ∃ e, c = w * d + e := ⟨c - w * d, by omega⟩
  subst he
  rw [Nat.add_sub_cancel_left]
  have e1 : (b * w + r) * d = b * w * d + r * d := Nat.add_mul ..
  have e2 : (w * d + e) * b = b * w * d + b * e := by grind
  rw [e1, e2] at h1
  rw [Nat.mul_comm d r]
  omega
theorem Ends.fall {a b c d : Nat} (h : Ends a b c d) (hn : ¬ (a / b + 1) * d < c) : spm d (c - a / b * d) b (a % b) < spm a b c d := by
  have hw := h.wd
  have hb := h.b1
  have dm := Nat.div_add_mod a b
  have hr := Nat.mod_lt a hb
  unfold spm
  by_cases hab : a < b
  · have h0 : a / b = 0 := Nat.div_eq_of_lt hab
    have ha : a % b = a := Nat.mod_eq_of_lt hab
    rw [h0, Nat.zero_add, Nat.one_mul] at hn
    rw [h0, ha, if_pos hab, Nat.zero_mul, Nat.sub_zero, if_neg hn]
    omega
  · have h0 : 1 ≤ a / b := (Nat.le_div_iff_mul_le hb).2 (by omega)
    rw [if_neg hab]
    have h1 : b * 1 ≤ b * (a / b) := Nat.mul_le_mul_left _ h0
    have h2 : 1 * d ≤ a / b * d := Nat.mul_le_mul_right _ h0
    generalize a / b = w at *
    generalize a % b = r at *
    generalize w * d = wd at *
    generalize b * w = bw at *
    split <;> omega
theorem sp_all : ∀ (f a b c d : Nat), Ends a b c d → spm a b c d < f → a * (sp f a b c d).2 < (sp f a b c d).1 * b ∧ (sp f a b c d).1 * d < c * (sp f a b c d).2 ∧ 1 ≤ (sp f a b c d).1 ∧ 1 ≤ (sp f a b c d).2 ∧
    (sp f a b c d).1 ≤ a + c ∧ (sp f a b c d).2 ≤ b + d ∧ Nat.gcd (sp f a b c d).1 (sp f a b c d).2 = 1
  | 0, a, b, c, d, _, hf => absurd hf (by omega)
  | f + 1, a, b, c, d, h, hf => by
    have hb := h.b1
    have hc := h.c1
    have dm := Nat.div_add_mod a b
    have hr := Nat.mod_lt a hb
    by_cases hn : (a / b + 1) * d < c
    · rw [sp_found hn]
      have hwa : a / b ≤ a := Nat.div_le_self _ _
      refine ⟨?_, by simpa using hn, Nat.le_add_left _ _, Nat.le_refl _, by show a / b + 1 ≤ a + c; omega, by show 1 ≤ b + d; omega, by simp⟩
      show a * 1 < (a / b + 1) * b
      rw [Nat.add_mul, Nat.mul_comm (a / b) b]; omega
    · have ih := sp_all f _ _ _ _ h.next (by have := h.fall hn; omega)
      rw [sp_on hn]
      have hw := h.wd
      generalize sp f d (c - a / b * d) b (a % b) = z at *
      obtain ⟨n, m⟩ := z
      obtain ⟨i1, i2, i3, i4, i5, i6, i7⟩ := ih
      simp only at *
      have e7 : Nat.gcd (a / b * n + m) n = 1 := by
        rw [Nat.gcd_comm, Nat.mul_comm, Nat.gcd_mul_left_add_right]; exact i7
      generalize a / b = w at *
      generalize a % b = r at *
      obtain ⟨e, he⟩ : ∃ e, c = w * d + e := ⟨c - w * d, by omega⟩
      subst he
      rw [Nat.add_sub_cancel_left] at *
      subst dm
      refine ⟨?_, ?_, by omega, i3, ?_, ?_, e7⟩
      · have e1 : (b * w + r) * n = b * w * n + n * r := by grind
        have e2 : (w * n + m) * b = b * w * n + b * m := by grind
        rw [e1, e2]; omega
      · have e1 : (w * n + m) * d = w * d * n + d * m := by grind
        have e2 : (w * d + e) * n = w * d * n + n * e := by grind
        rw [e1, e2]; omega
      · have e1 : w * n ≤ w * (d + b) := Nat.mul_le_mul_left _ i5
        rw [Nat.mul_add, Nat.mul_comm w b] at e1
        omega
      · omega
theorem sp_whole {f a b c d k : Nat} (h : Ends a b c d) (h1 : a < k * b) (h2 : k * d < c) : (sp (f + 1) a b c d).2 = 1 := by
  have hb := h.b1
  have h3 : a / b < k := (Nat.div_lt_iff_lt_mul hb).2 h1
  have h4 : (a / b + 1) * d ≤ k * d := Nat.mul_le_mul_right _ h3
  rw [sp_found (by omega)]
structure Conv (A B X Y a b c d p p' q q' : Nat) (f : Nat) : Prop where
  ends : Ends a b c d
  fuel : spm a b c d < f
  np : p * (a + c) + p' * (b + d) = A
  nq : q * (a + c) + q' * (b + d) = B
  n : p * (sp f a b c d).1 + p' * (sp f a b c d).2 = X
  m : q * (sp f a b c d).1 + q' * (sp f a b c d).2 = Y
theorem Conv.start {a b c d f : Nat} (h : Ends a b c d) (hf : spm a b c d < f) : Conv (a + c) (b + d) (sp f a b c d).1 (sp f a b c d).2 a b c d 1 0 0 1 f :=
  ⟨h, hf, by omega, by omega, by omega, by omega⟩
theorem Conv.done {A B X Y a b c d p p' q q' f : Nat} (h : Conv A B X Y a b c d p p' q q' f) (hn : (a / b + 1) * d < c) : (a / b + 1) * p + p' = X ∧ (a / b + 1) * q + q' = Y := by
  obtain ⟨h1, h2, -, -, h3, h4⟩ := h
  obtain ⟨g, rfl⟩ : ∃ g, f = g + 1 := ⟨f - 1, by omega⟩
  rw [sp_found hn] at h3 h4
  rw [← h3, ← h4]
  constructor <;> grind
theorem Conv.step {A B X Y a b c d p p' q q' f : Nat} (h : Conv A B X Y a b c d p p' q q' f) (hn : ¬ (a / b + 1) * d < c) :
    ∃ g, g < f ∧ Conv A B X Y d (c - a / b * d) b (a % b) (a / b * p + p') p (a / b * q + q') q g := by
  obtain ⟨h1, h2, h5, h6, h3, h4⟩ := h
  have hfall := h1.fall hn
  have hw := h1.wd
  have hnx := h1.next
  obtain ⟨g, rfl⟩ : ∃ g, f = g + 1 := ⟨f - 1, by omega⟩
  rw [sp_on hn] at h3 h4
  refine ⟨g, by omega, hnx, by omega, ?_, ?_, ?_, ?_⟩
  · have dm := Nat.div_add_mod a b
    generalize a / b = w at *
    generalize a % b = r at *
    obtain ⟨e, he⟩ : ∃ e, c = w * d + e := ⟨c - w * d, by omega⟩
    subst he dm
    rw [Nat.add_sub_cancel_left]
    rw [← h5]; grind
  · have dm := Nat.div_add_mod a b
    generalize a / b = w at *
    generalize a % b = r at *
    obtain ⟨e, he⟩ : ∃ e, c = w * d + e := ⟨c - w * d, by omega⟩
    subst he dm
    rw [Nat.add_sub_cancel_left]
    rw [← h6]; grind
  · rw [← h3]; grind
  · rw [← h4]; grind
theorem Conv.le {A B X Y a b c d p p' q q' f : Nat} (h : Conv A B X Y a b c d p p' q q' f) : p ≤ A ∧ p' ≤ A ∧ q ≤ B ∧ q' ≤ B := by
  obtain ⟨h1, h2, h5, h6, h3, h4⟩ := h
  have c1 := h1.c1
  have b1 := h1.b1
  have x1 : p * 1 ≤ p * (a + c) := Nat.mul_le_mul_left _ (by omega)
  have x2 : p' * 1 ≤ p' * (b + d) := Nat.mul_le_mul_left _ (by omega)
  have x3 : q * 1 ≤ q * (a + c) := Nat.mul_le_mul_left _ (by omega)
  have x4 : q' * 1 ≤ q' * (b + d) := Nat.mul_le_mul_left _ (by omega)
  omega
def spQ (x y : Rat) : Rat :=
  let z := sp (spm (nu x) (de x) (nu y) (de y) + 1) (nu x) (de x) (nu y) (de y)
  mkRat (z.1 : Int) z.2
def simplest (x y : Rat) : Rat := if ng x = true then (if ng y = false ∧ 0 < nu y then 0 else -spQ (-y) (-x)) else spQ x y
theorem ends_of {x y : Rat} (hx : ng x = false) (hy : ng y = false) (h : x < y) : Ends (nu x) (de x) (nu y) (de y) := by
  refine ⟨de_pos x, ?_⟩
  rw [lt_cross, hx, hy, sI_false, sI_false, ← Int.natCast_mul, ← Int.natCast_mul] at h
  omega
theorem spQ_parts {x y : Rat} (hx : ng x = false) (hy : ng y = false) (h : x < y) :
    ng (spQ x y) = false ∧ nu (spQ x y) = (sp (spm (nu x) (de x) (nu y) (de y) + 1) (nu x) (de x) (nu y) (de y)).1 ∧ de (spQ x y) = (sp (spm (nu x) (de x) (nu y) (de y) + 1) (nu x) (de x) (nu y) (de y)).2 := by
  have he := ends_of hx hy h
  obtain ⟨i1, i2, i3, i4, i5, i6, i7⟩ := sp_all _ _ _ _ _ he (Nat.lt_succ_self _)
  unfold spQ
  simp only at *
  generalize sp (spm (nu x) (de x) (nu y) (de y) + 1) (nu x) (de x) (nu y) (de y) = z at *
  have := of_parts false z.1 z.2 i4
  rw [i7, Nat.div_one, Nat.div_one] at this
  exact this
theorem spQ_between {x y : Rat} (hx : ng x = false) (hy : ng y = false) (h : x < y) : x < spQ x y ∧ spQ x y < y := by
  have he := ends_of hx hy h
  obtain ⟨p1, p2, p3⟩ := spQ_parts hx hy h
  obtain ⟨i1, i2, i3, i4, i5, i6, i7⟩ := sp_all _ _ _ _ _ he (Nat.lt_succ_self _)
  rw [← p2, ← p3] at i1 i2
  rw [lt_cross, lt_cross, hx, hy, p1, sI_false, sI_false, sI_false]
  simp only [← Int.natCast_mul]
  omega
theorem neg_lt {q : Rat} : ng q = true ↔ q < 0 := by
  unfold ng
  rw [decide_eq_true_iff, Rat.lt_iff]
  simp
theorem not_neg {q : Rat} : ng q = false ↔ 0 ≤ q := by
  rw [← Bool.not_eq_true, neg_lt, Rat.not_lt]
theorem pos_iff {q : Rat} : ng q = false ∧ 0 < nu q ↔ 0 < q := by
  rw [not_neg, Nat.pos_iff_ne_zero, Ne, nu_zero, Rat.lt_iff_le_and_ne]
  constructor
  · intro ⟨a, b⟩; exact ⟨a, fun e => b e.symm⟩
  · intro ⟨a, b⟩; exact ⟨a, fun e => b e.symm⟩
theorem simplest_between {x y : Rat} (h : x < y) : x < simplest x y ∧ simplest x y < y := by
  unfold simplest
  by_cases hx : ng x = true
  · rw [if_pos hx]
    by_cases hy : ng y = false ∧ 0 < nu y
    · rw [if_pos hy]
      exact ⟨neg_lt.1 hx, pos_iff.1 hy⟩
    · rw [if_neg hy]
      have hy0 : ¬ 0 < y := fun e => hy (pos_iff.2 e)
      have hy1 : y ≤ 0 := Rat.not_lt.1 hy0
      have n1 : ng (-y) = false := not_neg.2 (by have := Rat.neg_le_neg hy1; simpa using this)
      have n2 : ng (-x) = false := not_neg.2 (by have := Rat.neg_le_neg (Rat.le_of_lt (neg_lt.1 hx)); simpa using this)
      obtain ⟨k1, k2⟩ := spQ_between n1 n2 (Rat.neg_lt_neg h)
      exact ⟨by rw [Rat.lt_neg_iff]; exact k2, by rw [Rat.neg_lt_iff]; exact k1⟩
  · rw [if_neg hx]
    have hx' : ng x = false := by simpa using hx
    have hy' : ng y = false := not_neg.2 (Rat.le_trans (not_neg.1 hx') (Rat.le_of_lt h))
    exact spQ_between hx' hy' h
theorem simplest_turned {x y : Rat} (h : x < y) : simplest (-y) (-x) = -simplest x y := by
  unfold simplest
  have c1 : ng (-y) = true ↔ 0 < y := by rw [neg_lt, Rat.neg_lt_iff]; simp
  have c2 : (ng (-x) = false ∧ 0 < nu (-x)) ↔ ng x = true := by rw [pos_iff, neg_lt, Rat.lt_neg_iff]; simp
  have c3 : (ng y = false ∧ 0 < nu y) ↔ 0 < y := pos_iff
  by_cases hx : ng x = true
  · by_cases hy : 0 < y
    · rw [if_pos (c1.2 hy), if_pos (c2.2 hx), if_pos hx, if_pos (c3.2 hy)]; simp
    · rw [if_neg (fun e => hy (c1.1 e)), if_pos hx, if_neg (fun e => hy (c3.1 e)), Rat.neg_neg]
  · have hy : 0 < y := by
      have hx' : ng x = false := by simpa using hx
      have h1 := not_neg.1 hx'
      rcases Rat.lt_iff_le_and_ne.1 h with ⟨_, _⟩
      exact Rat.not_le.1 (fun e => absurd (Rat.le_trans e h1) (Rat.not_le.2 h))
    rw [if_pos (c1.2 hy), if_neg (fun e => hx (c2.1 e)), if_neg hx, Rat.neg_neg, Rat.neg_neg]
theorem spQ_whole {x y : Rat} (hx : ng x = false) (hy : ng y = false) (h : x < y) {k : Int} (h1 : x < (k : Rat)) (h2 : (k : Rat) < y) : de (spQ x y) = 1 := by
  obtain ⟨p1, p2, p3⟩ := spQ_parts hx hy h
  rw [p3]
  have k0 : 0 ≤ (k : Rat) := Rat.le_of_lt (Rat.not_le.1 (fun e => absurd (Rat.le_trans e (not_neg.1 hx)) (Rat.not_le.2 h1)))
  have kI : 0 ≤ k := Rat.intCast_nonneg.1 k0
  obtain ⟨n, rfl⟩ : ∃ n : Nat, k = n := ⟨k.toNat, by omega⟩
  have e1 : (nu x : Int) * 1 < (n : Int) * de x := by
    have := (Rat.lt_iff _ _).1 h1
    rw [num_eq x, hx, sI_false] at this
    exact this
  have e2 : (n : Int) * de y < (nu y : Int) * 1 := by
    have := (Rat.lt_iff _ _).1 h2
    rw [num_eq y, hy, sI_false] at this
    exact this
  rw [← Int.natCast_mul] at e1 e2
  exact sp_whole (k := n) (ends_of hx hy h) (by omega) (by omega)
theorem simplest_whole {x y : Rat} (h : x < y) {k : Int} (h1 : x < (k : Rat)) (h2 : (k : Rat) < y) : de (simplest x y) = 1 := by
  unfold simplest
  by_cases hx : ng x = true
  · rw [if_pos hx]
    by_cases hy : ng y = false ∧ 0 < nu y
    · rw [if_pos hy]; rfl
    · rw [if_neg hy, (neg_parts _).2.2]
      have hy0 : ¬ 0 < y := fun e => hy (pos_iff.2 e)
      have hy1 : y ≤ 0 := Rat.not_lt.1 hy0
      have n1 : ng (-y) = false := not_neg.2 (by have := Rat.neg_le_neg hy1; simpa using this)
      have n2 : ng (-x) = false := not_neg.2 (by have := Rat.neg_le_neg (Rat.le_of_lt (neg_lt.1 hx)); simpa using this)
      refine spQ_whole (k := -k) n1 n2 (Rat.neg_lt_neg h) ?_ ?_
      · rw [Rat.intCast_neg]; exact Rat.neg_lt_neg h2
      · rw [Rat.intCast_neg]; exact Rat.neg_lt_neg h1
  · rw [if_neg hx]
    have hx' : ng x = false := by simpa using hx
    have hy' : ng y = false := not_neg.2 (Rat.le_trans (not_neg.1 hx') (Rat.le_of_lt h))
    exact spQ_whole hx' hy' h h1 h2
theorem not_whole {x y : Rat} (h : x < y) (hd : de (simplest x y) ≠ 1) : y ≤ flQ x + 1 := by
  refine Rat.not_lt.1 (fun e => hd ?_)
  refine simplest_whole h (k := x.floor + 1) ?_ ?_
  · exact Rat.lt_floor_add_one x
  · rw [Rat.intCast_add]; exact e
theorem spQ_le {x y : Rat} (hx : ng x = false) (hy : ng y = false) (h : x < y) : nu (spQ x y) ≤ nu x + nu y ∧ de (spQ x y) ≤ de x + de y := by
  obtain ⟨p1, p2, p3⟩ := spQ_parts hx hy h
  obtain ⟨i1, i2, i3, i4, i5, i6, i7⟩ := sp_all _ _ _ _ _ (ends_of hx hy h) (Nat.lt_succ_self _)
  rw [p2, p3]
  exact ⟨i5, i6⟩
theorem simplest_le {x y : Rat} (h : x < y) : nu (simplest x y) ≤ nu x + nu y ∧ de (simplest x y) ≤ de x + de y := by
  unfold simplest
  by_cases hx : ng x = true
  · rw [if_pos hx]
    by_cases hy : ng y = false ∧ 0 < nu y
    · rw [if_pos hy]
      have := de_pos x
      exact ⟨by show 0 ≤ _; omega, by show 1 ≤ _; omega⟩
    · rw [if_neg hy, (neg_parts _).2.1, (neg_parts _).2.2]
      have hy0 : ¬ 0 < y := fun e => hy (pos_iff.2 e)
      have hy1 : y ≤ 0 := Rat.not_lt.1 hy0
      have n1 : ng (-y) = false := not_neg.2 (by have := Rat.neg_le_neg hy1; simpa using this)
      have n2 : ng (-x) = false := not_neg.2 (by have := Rat.neg_le_neg (Rat.le_of_lt (neg_lt.1 hx)); simpa using this)
      have := spQ_le n1 n2 (Rat.neg_lt_neg h)
      rw [(neg_parts _).2.1, (neg_parts _).2.2, (neg_parts _).2.1, (neg_parts _).2.2] at this
      omega
  · rw [if_neg hx]
    have hx' : ng x = false := by simpa using hx
    have hy' : ng y = false := not_neg.2 (Rat.le_trans (not_neg.1 hx') (Rat.le_of_lt h))
    exact spQ_le hx' hy' h
end Go.Proofs.YtepnghhgmjobjaaDoor.Big
