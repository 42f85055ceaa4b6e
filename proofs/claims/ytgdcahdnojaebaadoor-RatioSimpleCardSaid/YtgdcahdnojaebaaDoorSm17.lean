/- Contracts, in this order: diapasonlaw01: of. · ratio: Mul, by reckon. · diapasonlaw01: add, mul. · RatioSimple's first statement: what holds between its operations. -/
import Derived.Test.YtgdcahdnojaebaaDoorSm16
import Derived.Test.YtgdcahdnojaebaaDoorSm15
import Derived.Test.YtgdcahdnojaebaaDoorSm13
import Derived.Test.YtgdcahdnojaebaaDoorSm01
import Derived.Test.YtgdcahdnojaebaaDoorSm12
/- diapasonlaw01: of. -/
namespace Go.Proofs.YtgdcahdnojaebaaDoor
open Go.RowKit

set_option maxRecDepth 100000 in
set_option maxHeartbeats 4000000 in
theorem lof_any (w : World) (n d : Int) (h0 : -32768 ≤ n) (h1 : n ≤ 32767) (h2 : -32768 ≤ d) (h3 : d ≤ 32767) :
    Calls Tryd.prog 6 #[.int .i16 n, .int .i16 d] w (Fr1 w (lofQ n d)) := by
  have HR0 := Lib.hid (At3.new w 26 (.bool false) (.string ⟨#[]⟩) (.string ⟨#[]⟩))
  have HB0 := Lib.hid (box1_below w (.cells #[.bool false, .string ⟨#[]⟩, .string ⟨#[]⟩] 26))
  by_cases hd : d = 0
  · subst hd
    have e : lofQ n 0 = ofQ n 1 := by unfold lofQ; rw [if_pos rfl]
    rw [e]
    have C := Lib.hid (fun W => raOf_any W n 1 (by omega) (by omega) (by omega) (by omega) (by omega))
    obtain ⟨Z, hZ⟩ : ∃ Z, ofQ n 1 = Z := ⟨_, rfl⟩
    rw [hZ] at C ⊢
    clear hZ e
    go_enter Tryd.func6, Tryd.ntmps6
    go_wp2_with fail
    refine (C.out _).mono ?_
    generalize w.alloc (.cells #[.bool false, .string ⟨#[]⟩, .string ⟨#[]⟩] 26) = w0 at *
    rintro e w1 ⟨rfl, hw1⟩
    unfold fracV
    have R1 := HR0.out.keep hw1
    have hlt := R1.lt
    have HB1 := Lib.hid (HB0.out.trans (hw1.mono HB0.out.size))
    have HD := Lib.hid ((At3.put R1 (.bool (Big.ng Z)) (.string (bst (Big.nu Z))) (.string (bst (Big.de Z)))).alloc' (.cells #[.bool (Big.ng Z), .string (bst (Big.nu Z)), .string (bst (Big.de Z))] 26))
    have HE := Lib.hid (below_alloc (put_below HB1.out (Nat.le_refl _) (.bool (Big.ng Z)) (.string (bst (Big.nu Z))) (.string (bst (Big.de Z)))) (Nat.le_refl _) (.cells #[.bool (Big.ng Z), .string (bst (Big.nu Z)), .string (bst (Big.de Z))] 26))
    have k0 := R1.c0; have k1 := R1.c1; have k2 := R1.c2; have f0 := R1.frozen 0; have f1 := R1.frozen 1; have f2 := R1.frozen 2
    clear R1 hw1 HR0 HB0 C
    go_wp2_with fail
    generalize ((((w1.setCell ⟨w.heap.size, 0, none⟩ (.bool (Big.ng Z))).setCell ⟨w.heap.size, 1, none⟩ (.string (bst (Big.nu Z)))).setCell ⟨w.heap.size, 2, none⟩ (.string (bst (Big.de Z)))).alloc (.cells #[.bool (Big.ng Z), .string (bst (Big.nu Z)), .string (bst (Big.de Z))] 26)) = wz at HD HE ⊢
    clear k0 k1 k2 f0 f1 f2
    have r0 := HD.out.c0; have r1 := HD.out.c1; have r2 := HD.out.c2
    exact bodyPost_ret (v := .agg #[.bool (Big.ng Z), .string (bst (Big.nu Z)), .string (bst (Big.de Z))]) (by simp [results, Tryd.results6, go_sem, r0, r1, r2]) rfl ⟨rfl, HE.out⟩
  · have e : lofQ n d = ofQ n d := by unfold lofQ; rw [if_neg hd]
    rw [e]
    have C := Lib.hid (fun W => raOf_any W n d (by omega) (by omega) (by omega) (by omega) hd)
    have hd0 : (d == 0) = false := beq_eq_false_iff_ne.2 hd
    obtain ⟨Z, hZ⟩ : ∃ Z, ofQ n d = Z := ⟨_, rfl⟩
    rw [hZ] at C ⊢
    clear hZ e hd
    go_enter Tryd.func6, Tryd.ntmps6
    go_wp2_with fail
    refine (C.out _).mono ?_
    generalize w.alloc (.cells #[.bool false, .string ⟨#[]⟩, .string ⟨#[]⟩] 26) = w0 at *
    rintro e w1 ⟨rfl, hw1⟩
    unfold fracV
    have R1 := HR0.out.keep hw1
    have hlt := R1.lt
    have HB1 := Lib.hid (HB0.out.trans (hw1.mono HB0.out.size))
    have HD := Lib.hid ((At3.put R1 (.bool (Big.ng Z)) (.string (bst (Big.nu Z))) (.string (bst (Big.de Z)))).alloc' (.cells #[.bool (Big.ng Z), .string (bst (Big.nu Z)), .string (bst (Big.de Z))] 26))
    have HE := Lib.hid (below_alloc (put_below HB1.out (Nat.le_refl _) (.bool (Big.ng Z)) (.string (bst (Big.nu Z))) (.string (bst (Big.de Z)))) (Nat.le_refl _) (.cells #[.bool (Big.ng Z), .string (bst (Big.nu Z)), .string (bst (Big.de Z))] 26))
    have k0 := R1.c0; have k1 := R1.c1; have k2 := R1.c2; have f0 := R1.frozen 0; have f1 := R1.frozen 1; have f2 := R1.frozen 2
    clear R1 hw1 HR0 HB0 C
    go_wp2_with fail
    generalize ((((w1.setCell ⟨w.heap.size, 0, none⟩ (.bool (Big.ng Z))).setCell ⟨w.heap.size, 1, none⟩ (.string (bst (Big.nu Z)))).setCell ⟨w.heap.size, 2, none⟩ (.string (bst (Big.de Z)))).alloc (.cells #[.bool (Big.ng Z), .string (bst (Big.nu Z)), .string (bst (Big.de Z))] 26)) = wz at HD HE ⊢
    clear k0 k1 k2 f0 f1 f2
    have r0 := HD.out.c0; have r1 := HD.out.c1; have r2 := HD.out.c2
    exact bodyPost_ret (v := .agg #[.bool (Big.ng Z), .string (bst (Big.nu Z)), .string (bst (Big.de Z))]) (by simp [results, Tryd.results6, go_sem, r0, r1, r2]) rfl ⟨rfl, HE.out⟩

end Go.Proofs.YtgdcahdnojaebaaDoor
/- ratio: Mul, by reckon. -/
namespace Go.Proofs.YtgdcahdnojaebaaDoor
open Go.RowKit

set_option maxRecDepth 100000 in
set_option maxHeartbeats 4000000 in
theorem Mul1_any (b w : World) (vx vy : Value) (q r : Rat) (hx : NumIn w vx q) (hy : NumIn w vy r) (sx : Sm 64 q) (sy : Sm 64 r) (hbw : Below b.heap.size b w) :
    Calls Tryd.prog 74 #[vx, vy] w (NumE b w (q * r)) := by
  have C := Lib.hid (fun W a c (h : NumIn W a q) (i : NumIn W c r) => exMul_any W a c q r 64 h i sx sy (by omega))
  have HQ := Lib.hid hx; have HR := Lib.hid hy; have HBW := Lib.hid hbw
  obtain ⟨A, l, c, A2, l2, c2, rfl, -, -⟩ := hx.is_agg
  obtain ⟨B, m, d, B2, m2, d2, rfl, -, -⟩ := hy.is_agg
  clear hx hy sx sy hbw
  obtain ⟨X0, Y0, R0, B0⟩ := boxed3 w 61 61 (.bool (Big.ng q)) (.slice A l c) (.slice A2 l2 c2) (.bool (Big.ng r)) (.slice B m d) (.slice B2 m2 d2) (.bool false) (.slice none 0 0) (.slice none 0 0)
  have HR0 := Lib.hid R0; have HB0 := Lib.hid B0
  have HXX := Lib.hid X0; have HYY := Lib.hid Y0
  clear X0 Y0 R0 B0
  go_enter Tryd.func74, Tryd.ntmps74
  go_wp2_with fail
  generalize ((w.alloc (.cells #[.bool (Big.ng q), .slice A l c, .slice A2 l2 c2] 61)).alloc (.cells #[.bool (Big.ng r), .slice B m d, .slice B2 m2 d2] 61)).alloc (.cells #[.bool false, .slice none 0 0, .slice none 0 0] 61) = w0 at *
  refine (C.out _ _ _ (HQ.out.keep HB0.out) (HR.out.keep HB0.out)).mono ?_
  rintro e w1 ⟨v1, rfl, hv1, hw1⟩
  have B1 := HB0.out.trans (hw1.mono HB0.out.size)
  have R1 := HR0.out.keep hw1
  obtain ⟨A8, l8, c8, A9, l9, c9, rfl, h8, h9⟩ := hv1.is_agg
  have HH := Lib.hid (And.intro h8 h9); have HB1 := Lib.hid B1
  have k0 := R1.c0; have k1 := R1.c1; have k2 := R1.c2; have f0 := R1.frozen 0; have f1 := R1.frozen 1; have f2 := R1.frozen 2
  obtain ⟨nz, hnz⟩ : ∃ z, Big.ng (q * r) = z := ⟨_, rfl⟩
  rw [hnz]
  have HNZ := Lib.hid hnz
  have RR := R1
  clear hv1 h8 h9 hw1 hnz B1 R1 C HQ HR HR0 HB0
  go_wp2_with fail
  obtain ⟨D1, D2, D3⟩ := num_done (bb := nz) (show NumRes w1 _ _ from RR) HB1.out (by omega) HH.out.1 HH.out.2 HNZ.out.symm
  have HD1 := Lib.hid D1; have HD2 := Lib.hid D2; have HD3 := Lib.hid D3
  clear D1 D2 D3 k0 k1 k2 f0 f1 f2 RR
  generalize (((w1.setCell ⟨w.heap.size + 1 + 1, 0, none⟩ (.bool (nz))).setCell ⟨w.heap.size + 1 + 1, 1, none⟩ (.slice A8 l8 c8)).setCell ⟨w.heap.size + 1 + 1, 2, none⟩ (.slice A9 l9 c9)) = wz at HD1 HD2 HD3 ⊢
  have r0 := HD1.out.c0; have r1 := HD1.out.c1; have r2 := HD1.out.c2
  exact bodyPost_ret (v := .tuple #[.agg #[.bool (nz), .slice A8 l8 c8, .slice A9 l9 c9], .int .i64 0]) (by simp [results, Tryd.results74, go_sem, r0, r1, r2]) rfl ⟨_, rfl, HD2.out, HBW.out.trans (HD3.out.mono HBW.out.size), HD3.out⟩

set_option maxRecDepth 100000 in
set_option maxHeartbeats 600000 in
theorem reckonMul_fit (w : World) (q r z : Rat) (k : Nat) (hq : Fit q) (hr : Fit r) (hz : Fit z) (sz : Sm k z) (hk : k ≤ 10000000)
    (hF : ∀ b W v u, NumIn W v q → NumIn W u r → Below b.heap.size b W → Calls Tryd.prog 74 #[v, u] W (NumE b W z)) :
    Calls Tryd.prog 31 #[.func (.func 74) #[] #[], .agg #[.bool (Big.ng q), .string (bst (Big.nu q)), .string (bst (Big.de q))], .agg #[.bool (Big.ng r), .string (bst (Big.nu r)), .string (bst (Big.de r))]] w (Ret2 w (fracV z) 0) := by
  have HRD := Lib.hid (fun W g (h : AtL W g 26 #[.bool (Big.ng q), .string (bst (Big.nu q)), .string (bst (Big.de q)), .bool (Big.ng r), .string (bst (Big.nu r)), .string (bst (Big.de r))]) => read2_any W g q r h hq hr)
  have HF := Lib.hid hF
  have CA := Lib.hid (fun W v (h : NumIn W v z) => answer_fit W v z k h sz hk hz)
  obtain ⟨X0, Y0, R0, B0⟩ := boxed3 w 26 26 (.bool (Big.ng q)) (.string (bst (Big.nu q))) (.string (bst (Big.de q))) (.bool (Big.ng r)) (.string (bst (Big.nu r))) (.string (bst (Big.de r))) (.bool false) (.string ⟨#[]⟩) (.string ⟨#[]⟩)
  have HR0 := Lib.hid R0; have HB0 := Lib.hid B0
  have x0 := X0.c0; have x1 := X0.c1; have x2 := X0.c2
  have y0 := Y0.c0; have y1 := Y0.c1; have y2 := Y0.c2
  clear hF hz sz hq hr X0 Y0 R0 B0
  go_enter Tryd.func31, Tryd.ntmps31
  go_wp2_with fail
  have hs : (((w.alloc (.cells #[.bool (Big.ng q), .string (bst (Big.nu q)), .string (bst (Big.de q))] 26)).alloc (.cells #[.bool (Big.ng r), .string (bst (Big.nu r)), .string (bst (Big.de r))] 26)).alloc (.cells #[.bool false, .string ⟨#[]⟩, .string ⟨#[]⟩] 26)).heap.size = w.heap.size + 1 + 1 + 1 := by rw [alloc_size, alloc_size, alloc_size]
  generalize ((w.alloc (.cells #[.bool (Big.ng q), .string (bst (Big.nu q)), .string (bst (Big.de q))] 26)).alloc (.cells #[.bool (Big.ng r), .string (bst (Big.nu r)), .string (bst (Big.de r))] 26)).alloc (.cells #[.bool false, .string ⟨#[]⟩, .string ⟨#[]⟩] 26) = w0 at *
  have HN := AtL.new w0 26 #[.bool (Big.ng q), .string (bst (Big.nu q)), .string (bst (Big.de q)), .bool (Big.ng r), .string (bst (Big.nu r)), .string (bst (Big.de r))]
  rw [hs] at HN
  have HN := Lib.hid HN
  clear hs
  have HB1 := Lib.hid (below_alloc HB0.out (Nat.le_refl _) (.cells #[.bool (Big.ng q), .string (bst (Big.nu q)), .string (bst (Big.de q)), .bool (Big.ng r), .string (bst (Big.nu r)), .string (bst (Big.de r))] 26))
  have HR1 := Lib.hid (HR0.out.alloc' (.cells #[.bool (Big.ng q), .string (bst (Big.nu q)), .string (bst (Big.de q)), .bool (Big.ng r), .string (bst (Big.nu r)), .string (bst (Big.de r))] 26))
  refine (HRD.out _ _ HN.out).mono ?_
  generalize w0.alloc (.cells #[.bool (Big.ng q), .string (bst (Big.nu q)), .string (bst (Big.de q)), .bool (Big.ng r), .string (bst (Big.nu r)), .string (bst (Big.de r))] 26) = wa at *
  rintro e w1 ⟨v1, rfl, ⟨g, a, b, c, d, rfl, hat, hnq, hnr⟩, hw1⟩
  have HB2 := Lib.hid (HB1.out.trans (hw1.mono HB1.out.size))
  have HR2 := Lib.hid (HR1.out.keep hw1)
  obtain ⟨A, l, cc, B, m, dd, e1, -, -⟩ := hnq.is_agg
  obtain ⟨A2, l2, cc2, B2, m2, dd2, e2, -, -⟩ := hnr.is_agg
  simp only [Value.agg.injEq] at e1 e2
  have e1a : a = .slice A l cc := by have := congrArg (fun z : Array Value => z[1]?) e1; simpa using this
  have e1b : b = .slice B m dd := by have := congrArg (fun z : Array Value => z[2]?) e1; simpa using this
  have e2a : c = .slice A2 l2 cc2 := by have := congrArg (fun z : Array Value => z[1]?) e2; simpa using this
  have e2b : d = .slice B2 m2 dd2 := by have := congrArg (fun z : Array Value => z[2]?) e2; simpa using this
  subst e1a e1b e2a e2b
  have KX := Lib.hid (fun W (h : Below w1.heap.size w1 W) => And.intro ((hat.keep h).cell 0 rfl) (And.intro ((hat.keep h).cell 1 rfl) (And.intro ((hat.keep h).cell 2 rfl) (And.intro ((hat.keep h).cell 3 rfl) (And.intro ((hat.keep h).cell 4 rfl) ((hat.keep h).cell 5 rfl))))))
  have hgl := hat.lt
  have KQ := Lib.hid (fun W x y z' (h : Below w1.heap.size w1 W) (_ : g < w1.heap.size) => And.intro (put_cell (g := w1.heap.size) (KX.out W h).1 (by omega) x y z') (And.intro (put_cell (g := w1.heap.size) (KX.out W h).2.1 (by omega) x y z') (And.intro (put_cell (g := w1.heap.size) (KX.out W h).2.2.1 (by omega) x y z') (And.intro (put_cell (g := w1.heap.size) (KX.out W h).2.2.2.1 (by omega) x y z') (And.intro (put_cell (g := w1.heap.size) (KX.out W h).2.2.2.2.1 (by omega) x y z') (put_cell (g := w1.heap.size) (KX.out W h).2.2.2.2.2 (by omega) x y z'))))))
  have CF := Lib.hid (fun W (h : Below w1.heap.size w1 W) => HF.out w1 W _ _ (hnq.keep h) (hnr.keep h) h)
  clear e1 e2 hat hnq hnr hw1 HB1 HR1 HN HRD x0 x1 x2 y0 y1 y2
  go_wp2_with fail
  go_region_held3 (fun w' => w'.cell? ⟨g, 0, none⟩ = some (.bool (Big.ng q)) ∧ w'.cell? ⟨g, 1, none⟩ = some (.slice A l cc) ∧ w'.cell? ⟨g, 2, none⟩ = some (.slice B m dd) ∧ w'.cell? ⟨g, 3, none⟩ = some (.bool (Big.ng r)) ∧ w'.cell? ⟨g, 4, none⟩ = some (.slice A2 l2 cc2) ∧ w'.cell? ⟨g, 5, none⟩ = some (.slice B2 m2 dd2))
    (first | exact KX.out _ (by first | assumption | exact Below.refl _ _ | exact below_drew (Below.refl _ _) | exact below_drew (by assumption) | exact below_drew (below_alloc (Below.refl _ _) (Nat.le_refl _) _) | exact below_alloc (by assumption) (Nat.le_refl _) _ | exact below_alloc (Below.refl _ _) (Nat.le_refl _) _) | exact KX.out _ (below_alloc (by first | assumption | exact Below.refl _ _ | exact below_drew (Below.refl _ _) | exact below_drew (by assumption)) (Nat.le_refl _) _) | exact KQ.out _ _ _ _ (by assumption) hgl)
    (first
      | (go_at_call 74; (with_reducible refine (CF.out _ (by first | assumption | exact Below.refl _ _ | exact below_drew (Below.refl _ _) | exact below_drew (by assumption) | exact below_drew (below_alloc (Below.refl _ _) (Nat.le_refl _) _) | exact below_alloc (by assumption) (Nat.le_refl _) _ | exact below_alloc (Below.refl _ _) (Nat.le_refl _) _)).mono ?_); rintro e w3 ⟨v3, rfl, hv3, hw3, hw3'⟩; obtain ⟨A3, l3, c3, B3, m3, d3, rfl, hq3, hr3⟩ := hv3.is_agg; have hlt3 := hw3.size; try (have R3 := At3.keep (show At3 ((w1.alloc (.cells #[.bool false, .slice none 0 0, .slice none 0 0] 61)).drew) w1.heap.size 61 (.bool false) (.slice none 0 0) (.slice none 0 0) from At3.new w1 _ _ _ _) hw3'; have k0 := R3.c0; have k1 := R3.c1; have k2 := R3.c2; have f0 := R3.frozen 0; have f1 := R3.frozen 1; have f2 := R3.frozen 2))
      | fail)
  all_goals
    have HB3 := HB2.out.trans (hw3.mono HB2.out.size)
    have RW3 := HR2.out.keep hw3
    have hne : w.heap.size + 1 + 1 ≠ w1.heap.size := by have := HR2.out.lt; omega
    have hge : w.heap.size ≤ w1.heap.size := by have := HR2.out.lt; omega
    have HFR := Lib.hid (And.intro HB3 (And.intro RW3 (And.intro hne hge)))
    clear HB3 RW3 hne hge
    go_wp2_with fail
    refine (CA.out _ _ ?_).mono ?_
    · first
        | exact hv3.keep (box1_below _ _)
        | exact hv3.only (NumRes.no_int (show NumRes w3 _ _ from R3)) (put_only _ _ _ _ _)
    rintro e w4 ⟨rfl, hw4⟩
    have R4 : At3 w4 (w.heap.size + 1 + 1) 26 (.bool false) (.string ⟨#[]⟩) (.string ⟨#[]⟩) := by
      first
        | exact (HFR.out.2.1.alloc' _).keep hw4
        | exact (((HFR.out.2.1.far HFR.out.2.2.1 _).far HFR.out.2.2.1 _).far HFR.out.2.2.1 _).keep hw4
    have B4 : Below w.heap.size w w4 := by
      first
        | exact (below_alloc HFR.out.1 (Nat.le_refl _) _).trans (hw4.mono (below_alloc HFR.out.1 (Nat.le_refl _) _).size)
        | exact (put_below HFR.out.1 HFR.out.2.2.2 _ _ _).trans (hw4.mono (put_below HFR.out.1 HFR.out.2.2.2 _ _ _).size)
    unfold fracV
    clear hw4 HFR hv3 hw3 hw3' hq3 hr3 hlt3
    try clear R3 k0 k1 k2 f0 f1 f2
    have HD := Lib.hid (At3.put R4 (.bool (Big.ng z)) (.string (bst (Big.nu z))) (.string (bst (Big.de z))))
    have HE := Lib.hid (put_below B4 (show w.heap.size ≤ w.heap.size + 1 + 1 by omega) (.bool (Big.ng z)) (.string (bst (Big.nu z))) (.string (bst (Big.de z))))
    have k0 := R4.c0; have k1 := R4.c1; have k2 := R4.c2; have f0 := R4.frozen 0; have f1 := R4.frozen 1; have f2 := R4.frozen 2
    clear R4 B4
    go_wp2_with fail
    generalize (((w4.setCell ⟨w.heap.size + 1 + 1, 0, none⟩ (.bool (Big.ng z))).setCell ⟨w.heap.size + 1 + 1, 1, none⟩ (.string (bst (Big.nu z)))).setCell ⟨w.heap.size + 1 + 1, 2, none⟩ (.string (bst (Big.de z)))) = wz at HD HE ⊢
    clear k0 k1 k2 f0 f1 f2
    have r0 := HD.out.c0; have r1 := HD.out.c1; have r2 := HD.out.c2
    exact bodyPost_ret (v := .tuple #[.agg #[.bool (Big.ng z), .string (bst (Big.nu z)), .string (bst (Big.de z))], .int .i64 0]) (by simp [results, Tryd.results31, go_sem, r0, r1, r2]) rfl ⟨rfl, HE.out⟩

set_option maxRecDepth 100000 in
set_option maxHeartbeats 4000000 in
theorem raMul_fit (w : World) (q r : Rat) (hq : Fit q) (hr : Fit r) (hz : Fit (q * r)) :
    Calls Tryd.prog 39 #[.agg #[.bool (Big.ng q), .string (bst (Big.nu q)), .string (bst (Big.de q))], .agg #[.bool (Big.ng r), .string (bst (Big.nu r)), .string (bst (Big.de r))]] w (Ret2 w (fracV (q * r)) 0) := by
  have sz : Sm (2 * 64 + 2 * 64 + 1) (q * r) := ((hq.sm.mul hr.sm).up (by omega))
  have C := Lib.hid (fun W => reckonMul_fit W q r (q * r) _ hq hr hz sz (by omega) (fun b W' v u h i hb => Mul1_any b W' v u q r h i hq.sm hr.sm hb))
  obtain ⟨X0, Y0, R0, B0⟩ := boxed3 w 26 26 (.bool (Big.ng q)) (.string (bst (Big.nu q))) (.string (bst (Big.de q))) (.bool (Big.ng r)) (.string (bst (Big.nu r))) (.string (bst (Big.de r))) (.bool false) (.string ⟨#[]⟩) (.string ⟨#[]⟩)
  have HR0 := Lib.hid R0; have HB0 := Lib.hid B0
  clear X0 Y0 R0 B0 hq hr hz sz
  obtain ⟨Z, hZ⟩ : ∃ Z, q * r = Z := ⟨_, rfl⟩
  rw [hZ] at C ⊢
  clear hZ
  go_enter Tryd.func39, Tryd.ntmps39
  go_wp2_with fail
  refine (C.out _).mono ?_
  generalize ((w.alloc (.cells #[.bool (Big.ng q), .string (bst (Big.nu q)), .string (bst (Big.de q))] 26)).alloc (.cells #[.bool (Big.ng r), .string (bst (Big.nu r)), .string (bst (Big.de r))] 26)).alloc (.cells #[.bool false, .string ⟨#[]⟩, .string ⟨#[]⟩] 26) = w0 at *
  rintro e w4 ⟨rfl, hw4⟩
  unfold fracV
  have R4 := HR0.out.keep hw4
  have HD := Lib.hid (At3.put R4 (.bool (Big.ng Z)) (.string (bst (Big.nu Z))) (.string (bst (Big.de Z))))
  have HE := Lib.hid (put_below (HB0.out.trans (hw4.mono HB0.out.size)) (show w.heap.size ≤ w.heap.size + 1 + 1 by omega) (.bool (Big.ng Z)) (.string (bst (Big.nu Z))) (.string (bst (Big.de Z))))
  have k0 := R4.c0; have k1 := R4.c1; have k2 := R4.c2; have f0 := R4.frozen 0; have f1 := R4.frozen 1; have f2 := R4.frozen 2
  clear R4 hw4 HR0 HB0 C
  go_wp2_with fail
  generalize (((w4.setCell ⟨w.heap.size + 1 + 1, 0, none⟩ (.bool (Big.ng Z))).setCell ⟨w.heap.size + 1 + 1, 1, none⟩ (.string (bst (Big.nu Z)))).setCell ⟨w.heap.size + 1 + 1, 2, none⟩ (.string (bst (Big.de Z)))) = wz at HD HE ⊢
  clear k0 k1 k2 f0 f1 f2
  have r0 := HD.out.c0; have r1 := HD.out.c1; have r2 := HD.out.c2
  exact bodyPost_ret (v := .tuple #[.agg #[.bool (Big.ng Z), .string (bst (Big.nu Z)), .string (bst (Big.de Z))], .int .i64 0]) (by simp [results, Tryd.results39, go_sem, r0, r1, r2]) rfl ⟨rfl, HE.out⟩

end Go.Proofs.YtgdcahdnojaebaaDoor
/- diapasonlaw01: add, mul. -/
namespace Go.Proofs.YtgdcahdnojaebaaDoor
open Go.RowKit

set_option maxRecDepth 100000 in
set_option maxHeartbeats 4000000 in
theorem ladd_any (w : World) (q r : Rat) (hq : Fit q) (hr : Fit r) (hz : Fit (q + r)) :
    Calls Tryd.prog 14 #[.agg #[.bool (Big.ng q), .string (bst (Big.nu q)), .string (bst (Big.de q))], .agg #[.bool (Big.ng r), .string (bst (Big.nu r)), .string (bst (Big.de r))]] w (Fr1 w (q + r)) := by
  have C := Lib.hid (fun W => raAdd_fit W q r hq hr hz)
  obtain ⟨X0, Y0, R0, B0⟩ := boxed3 w 26 26 (.bool (Big.ng q)) (.string (bst (Big.nu q))) (.string (bst (Big.de q))) (.bool (Big.ng r)) (.string (bst (Big.nu r))) (.string (bst (Big.de r))) (.bool false) (.string ⟨#[]⟩) (.string ⟨#[]⟩)
  have HR0 := Lib.hid R0; have HB0 := Lib.hid B0
  clear X0 Y0 R0 B0 hq hr hz
  obtain ⟨Z, hZ⟩ : ∃ Z, q + r = Z := ⟨_, rfl⟩
  rw [hZ] at C ⊢
  clear hZ
  go_enter Tryd.func14, Tryd.ntmps14
  go_wp2_with fail
  refine (C.out _).mono ?_
  generalize ((w.alloc (.cells #[.bool (Big.ng q), .string (bst (Big.nu q)), .string (bst (Big.de q))] 26)).alloc (.cells #[.bool (Big.ng r), .string (bst (Big.nu r)), .string (bst (Big.de r))] 26)).alloc (.cells #[.bool false, .string ⟨#[]⟩, .string ⟨#[]⟩] 26) = w0 at *
  rintro e w1 ⟨rfl, hw1⟩
  unfold fracV
  have R1 := HR0.out.keep hw1
  have hlt := R1.lt
  have HB1 := Lib.hid (HB0.out.trans (hw1.mono HB0.out.size))
  have HD := Lib.hid ((At3.put R1 (.bool (Big.ng Z)) (.string (bst (Big.nu Z))) (.string (bst (Big.de Z)))).alloc' (.cells #[.bool (Big.ng Z), .string (bst (Big.nu Z)), .string (bst (Big.de Z))] 26))
  have HE := Lib.hid (below_alloc (put_below HB1.out (show w.heap.size ≤ w.heap.size + 1 + 1 by omega) (.bool (Big.ng Z)) (.string (bst (Big.nu Z))) (.string (bst (Big.de Z)))) (Nat.le_refl _) (.cells #[.bool (Big.ng Z), .string (bst (Big.nu Z)), .string (bst (Big.de Z))] 26))
  have k0 := R1.c0; have k1 := R1.c1; have k2 := R1.c2; have f0 := R1.frozen 0; have f1 := R1.frozen 1; have f2 := R1.frozen 2
  clear R1 hw1 HR0 HB0 C
  go_wp2_with fail
  generalize ((((w1.setCell ⟨w.heap.size + 1 + 1, 0, none⟩ (.bool (Big.ng Z))).setCell ⟨w.heap.size + 1 + 1, 1, none⟩ (.string (bst (Big.nu Z)))).setCell ⟨w.heap.size + 1 + 1, 2, none⟩ (.string (bst (Big.de Z)))).alloc (.cells #[.bool (Big.ng Z), .string (bst (Big.nu Z)), .string (bst (Big.de Z))] 26)) = wz at HD HE ⊢
  clear k0 k1 k2 f0 f1 f2
  have r0 := HD.out.c0; have r1 := HD.out.c1; have r2 := HD.out.c2
  exact bodyPost_ret (v := .agg #[.bool (Big.ng Z), .string (bst (Big.nu Z)), .string (bst (Big.de Z))]) (by simp [results, Tryd.results14, go_sem, r0, r1, r2]) rfl ⟨rfl, HE.out⟩

set_option maxRecDepth 100000 in
set_option maxHeartbeats 4000000 in
theorem lmul_any (w : World) (q r : Rat) (hq : Fit q) (hr : Fit r) (hz : Fit (q * r)) :
    Calls Tryd.prog 11 #[.agg #[.bool (Big.ng q), .string (bst (Big.nu q)), .string (bst (Big.de q))], .agg #[.bool (Big.ng r), .string (bst (Big.nu r)), .string (bst (Big.de r))]] w (Fr1 w (q * r)) := by
  have C := Lib.hid (fun W => raMul_fit W q r hq hr hz)
  obtain ⟨X0, Y0, R0, B0⟩ := boxed3 w 26 26 (.bool (Big.ng q)) (.string (bst (Big.nu q))) (.string (bst (Big.de q))) (.bool (Big.ng r)) (.string (bst (Big.nu r))) (.string (bst (Big.de r))) (.bool false) (.string ⟨#[]⟩) (.string ⟨#[]⟩)
  have HR0 := Lib.hid R0; have HB0 := Lib.hid B0
  clear X0 Y0 R0 B0 hq hr hz
  obtain ⟨Z, hZ⟩ : ∃ Z, q * r = Z := ⟨_, rfl⟩
  rw [hZ] at C ⊢
  clear hZ
  go_enter Tryd.func11, Tryd.ntmps11
  go_wp2_with fail
  refine (C.out _).mono ?_
  generalize ((w.alloc (.cells #[.bool (Big.ng q), .string (bst (Big.nu q)), .string (bst (Big.de q))] 26)).alloc (.cells #[.bool (Big.ng r), .string (bst (Big.nu r)), .string (bst (Big.de r))] 26)).alloc (.cells #[.bool false, .string ⟨#[]⟩, .string ⟨#[]⟩] 26) = w0 at *
  rintro e w1 ⟨rfl, hw1⟩
  unfold fracV
  have R1 := HR0.out.keep hw1
  have hlt := R1.lt
  have HB1 := Lib.hid (HB0.out.trans (hw1.mono HB0.out.size))
  have HD := Lib.hid ((At3.put R1 (.bool (Big.ng Z)) (.string (bst (Big.nu Z))) (.string (bst (Big.de Z)))).alloc' (.cells #[.bool (Big.ng Z), .string (bst (Big.nu Z)), .string (bst (Big.de Z))] 26))
  have HE := Lib.hid (below_alloc (put_below HB1.out (show w.heap.size ≤ w.heap.size + 1 + 1 by omega) (.bool (Big.ng Z)) (.string (bst (Big.nu Z))) (.string (bst (Big.de Z)))) (Nat.le_refl _) (.cells #[.bool (Big.ng Z), .string (bst (Big.nu Z)), .string (bst (Big.de Z))] 26))
  have k0 := R1.c0; have k1 := R1.c1; have k2 := R1.c2; have f0 := R1.frozen 0; have f1 := R1.frozen 1; have f2 := R1.frozen 2
  clear R1 hw1 HR0 HB0 C
  go_wp2_with fail
  generalize ((((w1.setCell ⟨w.heap.size + 1 + 1, 0, none⟩ (.bool (Big.ng Z))).setCell ⟨w.heap.size + 1 + 1, 1, none⟩ (.string (bst (Big.nu Z)))).setCell ⟨w.heap.size + 1 + 1, 2, none⟩ (.string (bst (Big.de Z)))).alloc (.cells #[.bool (Big.ng Z), .string (bst (Big.nu Z)), .string (bst (Big.de Z))] 26)) = wz at HD HE ⊢
  clear k0 k1 k2 f0 f1 f2
  have r0 := HD.out.c0; have r1 := HD.out.c1; have r2 := HD.out.c2
  exact bodyPost_ret (v := .agg #[.bool (Big.ng Z), .string (bst (Big.nu Z)), .string (bst (Big.de Z))]) (by simp [results, Tryd.results11, go_sem, r0, r1, r2]) rfl ⟨rfl, HE.out⟩

end Go.Proofs.YtgdcahdnojaebaaDoor
/- RatioSimple's first statement: what holds between its operations. -/
namespace Go.Proofs.YtgdcahdnojaebaaDoor
open Go.RowKit

structure LF (w0 w : World) (L : Array Bool) (g0 : Nat) (a b c d : Int) (x y : Rat) (b0 b1 s0 s1 s2 s3 s4 s5 s6 s7 s8 s9 : Value) : Prop where
  hb : Below w0.heap.size w0 w
  p0 : L.getD 0 false = true → s0 = .pointer (some ⟨g0, 0, none⟩)
  p1 : L.getD 1 false = true → s1 = .int .i16 a
  p2 : L.getD 2 false = true → s2 = .pointer (some ⟨g0, 1, none⟩)
  p3 : L.getD 3 false = true → s3 = .int .i16 b
  p4 : L.getD 4 false = true → s4 = .agg #[.bool (Big.ng x), .string (bst (Big.nu x)), .string (bst (Big.de x))]
  p5 : L.getD 5 false = true → s5 = .pointer (some ⟨g0, 2, none⟩)
  p6 : L.getD 6 false = true → s6 = .int .i16 c
  p7 : L.getD 7 false = true → s7 = .pointer (some ⟨g0, 3, none⟩)
  p8 : L.getD 8 false = true → s8 = .int .i16 d
  p9 : L.getD 9 false = true → s9 = .agg #[.bool (Big.ng y), .string (bst (Big.nu y)), .string (bst (Big.de y))]
  x0 : L.getD 10 false = true → ∃ g, b0 = .pointer (some ⟨g, 0, none⟩) ∧ w0.heap.size ≤ g ∧ (∃ a b c, At3 w g 26 a b c) ∧ (L.getD 12 false = true → At3 w g 26 (.bool (Big.ng x)) (.string (bst (Big.nu x))) (.string (bst (Big.de x))))
  x1 : L.getD 11 false = true → ∃ g, b1 = .pointer (some ⟨g, 0, none⟩) ∧ w0.heap.size ≤ g ∧ (∃ a b c, At3 w g 26 a b c) ∧ (L.getD 13 false = true → At3 w g 26 (.bool (Big.ng y)) (.string (bst (Big.nu y))) (.string (bst (Big.de y))))
  d01 : L.getD 10 false = true → L.getD 11 false = true → b0 ≠ b1
  y0 : L.getD 12 false = true → L.getD 10 false = true
  y1 : L.getD 13 false = true → L.getD 11 false = true
section
variable {w0 w : World} {L : Array Bool} {g0 : Nat} {a b c d : Int} {x y : Rat} {b0 b1 s0 s1 s2 s3 s4 s5 s6 s7 s8 s9 : Value}
theorem LF.move {w' : World} (F : LF w0 w L g0 a b c d x y b0 b1 s0 s1 s2 s3 s4 s5 s6 s7 s8 s9) (h : Below w.heap.size w w') : LF w0 w' L g0 a b c d x y b0 b1 s0 s1 s2 s3 s4 s5 s6 s7 s8 s9 :=
  { hb := F.hb.trans (h.mono F.hb.size)
    p0 := F.p0
    p1 := F.p1
    p2 := F.p2
    p3 := F.p3
    p4 := F.p4
    p5 := F.p5
    p6 := F.p6
    p7 := F.p7
    p8 := F.p8
    p9 := F.p9
    x0 := fun l => by
      obtain ⟨g, e, hg, ⟨a, b, c, hs⟩, hx⟩ := F.x0 l
      exact ⟨g, e, hg, ⟨a, b, c, hs.keep h⟩, fun l' => (hx l').keep h⟩
    x1 := fun l => by
      obtain ⟨g, e, hg, ⟨a, b, c, hs⟩, hx⟩ := F.x1 l
      exact ⟨g, e, hg, ⟨a, b, c, hs.keep h⟩, fun l' => (hx l').keep h⟩
    d01 := F.d01
    y0 := F.y0
    y1 := F.y1 }
theorem LF.set0 (F : LF w0 w L g0 a b c d x y b0 b1 s0 s1 s2 s3 s4 s5 s6 s7 s8 s9) {v : Value} (n : v = .pointer (some ⟨g0, 0, none⟩)) : LF w0 w (L.setIfInBounds 0 true) g0 a b c d x y b0 b1 v s1 s2 s3 s4 s5 s6 s7 s8 s9 :=
  { hb := F.hb
    p0 := fun _ => n
    p1 := fun l => F.p1 (lis (by decide) l)
    p2 := fun l => F.p2 (lis (by decide) l)
    p3 := fun l => F.p3 (lis (by decide) l)
    p4 := fun l => F.p4 (lis (by decide) l)
    p5 := fun l => F.p5 (lis (by decide) l)
    p6 := fun l => F.p6 (lis (by decide) l)
    p7 := fun l => F.p7 (lis (by decide) l)
    p8 := fun l => F.p8 (lis (by decide) l)
    p9 := fun l => F.p9 (lis (by decide) l)
    x0 := fun l => by
      obtain ⟨g, e, hg, hs, hx⟩ := F.x0 (lis (by decide) l)
      exact ⟨g, e, hg, hs, fun l' => hx (lis (by decide) l')⟩
    x1 := fun l => by
      obtain ⟨g, e, hg, hs, hx⟩ := F.x1 (lis (by decide) l)
      exact ⟨g, e, hg, hs, fun l' => hx (lis (by decide) l')⟩
    d01 := fun l l' => F.d01 (lis (by decide) l) (lis (by decide) l')
    y0 := fun l => getD_set_true (F.y0 (lis (by decide) l))
    y1 := fun l => getD_set_true (F.y1 (lis (by decide) l)) }
theorem LF.set1 (F : LF w0 w L g0 a b c d x y b0 b1 s0 s1 s2 s3 s4 s5 s6 s7 s8 s9) {v : Value} (n : v = .int .i16 a) : LF w0 w (L.setIfInBounds 1 true) g0 a b c d x y b0 b1 s0 v s2 s3 s4 s5 s6 s7 s8 s9 :=
  { hb := F.hb
    p0 := fun l => F.p0 (lis (by decide) l)
    p1 := fun _ => n
    p2 := fun l => F.p2 (lis (by decide) l)
    p3 := fun l => F.p3 (lis (by decide) l)
    p4 := fun l => F.p4 (lis (by decide) l)
    p5 := fun l => F.p5 (lis (by decide) l)
    p6 := fun l => F.p6 (lis (by decide) l)
    p7 := fun l => F.p7 (lis (by decide) l)
    p8 := fun l => F.p8 (lis (by decide) l)
    p9 := fun l => F.p9 (lis (by decide) l)
    x0 := fun l => by
      obtain ⟨g, e, hg, hs, hx⟩ := F.x0 (lis (by decide) l)
      exact ⟨g, e, hg, hs, fun l' => hx (lis (by decide) l')⟩
    x1 := fun l => by
      obtain ⟨g, e, hg, hs, hx⟩ := F.x1 (lis (by decide) l)
      exact ⟨g, e, hg, hs, fun l' => hx (lis (by decide) l')⟩
    d01 := fun l l' => F.d01 (lis (by decide) l) (lis (by decide) l')
    y0 := fun l => getD_set_true (F.y0 (lis (by decide) l))
    y1 := fun l => getD_set_true (F.y1 (lis (by decide) l)) }
theorem LF.set2 (F : LF w0 w L g0 a b c d x y b0 b1 s0 s1 s2 s3 s4 s5 s6 s7 s8 s9) {v : Value} (n : v = .pointer (some ⟨g0, 1, none⟩)) : LF w0 w (L.setIfInBounds 2 true) g0 a b c d x y b0 b1 s0 s1 v s3 s4 s5 s6 s7 s8 s9 :=
  { hb := F.hb
    p0 := fun l => F.p0 (lis (by decide) l)
    p1 := fun l => F.p1 (lis (by decide) l)
    p2 := fun _ => n
    p3 := fun l => F.p3 (lis (by decide) l)
    p4 := fun l => F.p4 (lis (by decide) l)
    p5 := fun l => F.p5 (lis (by decide) l)
    p6 := fun l => F.p6 (lis (by decide) l)
    p7 := fun l => F.p7 (lis (by decide) l)
    p8 := fun l => F.p8 (lis (by decide) l)
    p9 := fun l => F.p9 (lis (by decide) l)
    x0 := fun l => by
      obtain ⟨g, e, hg, hs, hx⟩ := F.x0 (lis (by decide) l)
      exact ⟨g, e, hg, hs, fun l' => hx (lis (by decide) l')⟩
    x1 := fun l => by
      obtain ⟨g, e, hg, hs, hx⟩ := F.x1 (lis (by decide) l)
      exact ⟨g, e, hg, hs, fun l' => hx (lis (by decide) l')⟩
    d01 := fun l l' => F.d01 (lis (by decide) l) (lis (by decide) l')
    y0 := fun l => getD_set_true (F.y0 (lis (by decide) l))
    y1 := fun l => getD_set_true (F.y1 (lis (by decide) l)) }
theorem LF.set3 (F : LF w0 w L g0 a b c d x y b0 b1 s0 s1 s2 s3 s4 s5 s6 s7 s8 s9) {v : Value} (n : v = .int .i16 b) : LF w0 w (L.setIfInBounds 3 true) g0 a b c d x y b0 b1 s0 s1 s2 v s4 s5 s6 s7 s8 s9 :=
  { hb := F.hb
    p0 := fun l => F.p0 (lis (by decide) l)
    p1 := fun l => F.p1 (lis (by decide) l)
    p2 := fun l => F.p2 (lis (by decide) l)
    p3 := fun _ => n
    p4 := fun l => F.p4 (lis (by decide) l)
    p5 := fun l => F.p5 (lis (by decide) l)
    p6 := fun l => F.p6 (lis (by decide) l)
    p7 := fun l => F.p7 (lis (by decide) l)
    p8 := fun l => F.p8 (lis (by decide) l)
    p9 := fun l => F.p9 (lis (by decide) l)
    x0 := fun l => by
      obtain ⟨g, e, hg, hs, hx⟩ := F.x0 (lis (by decide) l)
      exact ⟨g, e, hg, hs, fun l' => hx (lis (by decide) l')⟩
    x1 := fun l => by
      obtain ⟨g, e, hg, hs, hx⟩ := F.x1 (lis (by decide) l)
      exact ⟨g, e, hg, hs, fun l' => hx (lis (by decide) l')⟩
    d01 := fun l l' => F.d01 (lis (by decide) l) (lis (by decide) l')
    y0 := fun l => getD_set_true (F.y0 (lis (by decide) l))
    y1 := fun l => getD_set_true (F.y1 (lis (by decide) l)) }
theorem LF.set4 (F : LF w0 w L g0 a b c d x y b0 b1 s0 s1 s2 s3 s4 s5 s6 s7 s8 s9) {v : Value} (n : v = .agg #[.bool (Big.ng x), .string (bst (Big.nu x)), .string (bst (Big.de x))]) : LF w0 w (L.setIfInBounds 4 true) g0 a b c d x y b0 b1 s0 s1 s2 s3 v s5 s6 s7 s8 s9 :=
  { hb := F.hb
    p0 := fun l => F.p0 (lis (by decide) l)
    p1 := fun l => F.p1 (lis (by decide) l)
    p2 := fun l => F.p2 (lis (by decide) l)
    p3 := fun l => F.p3 (lis (by decide) l)
    p4 := fun _ => n
    p5 := fun l => F.p5 (lis (by decide) l)
    p6 := fun l => F.p6 (lis (by decide) l)
    p7 := fun l => F.p7 (lis (by decide) l)
    p8 := fun l => F.p8 (lis (by decide) l)
    p9 := fun l => F.p9 (lis (by decide) l)
    x0 := fun l => by
      obtain ⟨g, e, hg, hs, hx⟩ := F.x0 (lis (by decide) l)
      exact ⟨g, e, hg, hs, fun l' => hx (lis (by decide) l')⟩
    x1 := fun l => by
      obtain ⟨g, e, hg, hs, hx⟩ := F.x1 (lis (by decide) l)
      exact ⟨g, e, hg, hs, fun l' => hx (lis (by decide) l')⟩
    d01 := fun l l' => F.d01 (lis (by decide) l) (lis (by decide) l')
    y0 := fun l => getD_set_true (F.y0 (lis (by decide) l))
    y1 := fun l => getD_set_true (F.y1 (lis (by decide) l)) }
theorem LF.set5 (F : LF w0 w L g0 a b c d x y b0 b1 s0 s1 s2 s3 s4 s5 s6 s7 s8 s9) {v : Value} (n : v = .pointer (some ⟨g0, 2, none⟩)) : LF w0 w (L.setIfInBounds 5 true) g0 a b c d x y b0 b1 s0 s1 s2 s3 s4 v s6 s7 s8 s9 :=
  { hb := F.hb
    p0 := fun l => F.p0 (lis (by decide) l)
    p1 := fun l => F.p1 (lis (by decide) l)
    p2 := fun l => F.p2 (lis (by decide) l)
    p3 := fun l => F.p3 (lis (by decide) l)
    p4 := fun l => F.p4 (lis (by decide) l)
    p5 := fun _ => n
    p6 := fun l => F.p6 (lis (by decide) l)
    p7 := fun l => F.p7 (lis (by decide) l)
    p8 := fun l => F.p8 (lis (by decide) l)
    p9 := fun l => F.p9 (lis (by decide) l)
    x0 := fun l => by
      obtain ⟨g, e, hg, hs, hx⟩ := F.x0 (lis (by decide) l)
      exact ⟨g, e, hg, hs, fun l' => hx (lis (by decide) l')⟩
    x1 := fun l => by
      obtain ⟨g, e, hg, hs, hx⟩ := F.x1 (lis (by decide) l)
      exact ⟨g, e, hg, hs, fun l' => hx (lis (by decide) l')⟩
    d01 := fun l l' => F.d01 (lis (by decide) l) (lis (by decide) l')
    y0 := fun l => getD_set_true (F.y0 (lis (by decide) l))
    y1 := fun l => getD_set_true (F.y1 (lis (by decide) l)) }
theorem LF.set6 (F : LF w0 w L g0 a b c d x y b0 b1 s0 s1 s2 s3 s4 s5 s6 s7 s8 s9) {v : Value} (n : v = .int .i16 c) : LF w0 w (L.setIfInBounds 6 true) g0 a b c d x y b0 b1 s0 s1 s2 s3 s4 s5 v s7 s8 s9 :=
  { hb := F.hb
    p0 := fun l => F.p0 (lis (by decide) l)
    p1 := fun l => F.p1 (lis (by decide) l)
    p2 := fun l => F.p2 (lis (by decide) l)
    p3 := fun l => F.p3 (lis (by decide) l)
    p4 := fun l => F.p4 (lis (by decide) l)
    p5 := fun l => F.p5 (lis (by decide) l)
    p6 := fun _ => n
    p7 := fun l => F.p7 (lis (by decide) l)
    p8 := fun l => F.p8 (lis (by decide) l)
    p9 := fun l => F.p9 (lis (by decide) l)
    x0 := fun l => by
      obtain ⟨g, e, hg, hs, hx⟩ := F.x0 (lis (by decide) l)
      exact ⟨g, e, hg, hs, fun l' => hx (lis (by decide) l')⟩
    x1 := fun l => by
      obtain ⟨g, e, hg, hs, hx⟩ := F.x1 (lis (by decide) l)
      exact ⟨g, e, hg, hs, fun l' => hx (lis (by decide) l')⟩
    d01 := fun l l' => F.d01 (lis (by decide) l) (lis (by decide) l')
    y0 := fun l => getD_set_true (F.y0 (lis (by decide) l))
    y1 := fun l => getD_set_true (F.y1 (lis (by decide) l)) }
theorem LF.set7 (F : LF w0 w L g0 a b c d x y b0 b1 s0 s1 s2 s3 s4 s5 s6 s7 s8 s9) {v : Value} (n : v = .pointer (some ⟨g0, 3, none⟩)) : LF w0 w (L.setIfInBounds 7 true) g0 a b c d x y b0 b1 s0 s1 s2 s3 s4 s5 s6 v s8 s9 :=
  { hb := F.hb
    p0 := fun l => F.p0 (lis (by decide) l)
    p1 := fun l => F.p1 (lis (by decide) l)
    p2 := fun l => F.p2 (lis (by decide) l)
    p3 := fun l => F.p3 (lis (by decide) l)
    p4 := fun l => F.p4 (lis (by decide) l)
    p5 := fun l => F.p5 (lis (by decide) l)
    p6 := fun l => F.p6 (lis (by decide) l)
    p7 := fun _ => n
    p8 := fun l => F.p8 (lis (by decide) l)
    p9 := fun l => F.p9 (lis (by decide) l)
    x0 := fun l => by
      obtain ⟨g, e, hg, hs, hx⟩ := F.x0 (lis (by decide) l)
      exact ⟨g, e, hg, hs, fun l' => hx (lis (by decide) l')⟩
    x1 := fun l => by
      obtain ⟨g, e, hg, hs, hx⟩ := F.x1 (lis (by decide) l)
      exact ⟨g, e, hg, hs, fun l' => hx (lis (by decide) l')⟩
    d01 := fun l l' => F.d01 (lis (by decide) l) (lis (by decide) l')
    y0 := fun l => getD_set_true (F.y0 (lis (by decide) l))
    y1 := fun l => getD_set_true (F.y1 (lis (by decide) l)) }
theorem LF.set8 (F : LF w0 w L g0 a b c d x y b0 b1 s0 s1 s2 s3 s4 s5 s6 s7 s8 s9) {v : Value} (n : v = .int .i16 d) : LF w0 w (L.setIfInBounds 8 true) g0 a b c d x y b0 b1 s0 s1 s2 s3 s4 s5 s6 s7 v s9 :=
  { hb := F.hb
    p0 := fun l => F.p0 (lis (by decide) l)
    p1 := fun l => F.p1 (lis (by decide) l)
    p2 := fun l => F.p2 (lis (by decide) l)
    p3 := fun l => F.p3 (lis (by decide) l)
    p4 := fun l => F.p4 (lis (by decide) l)
    p5 := fun l => F.p5 (lis (by decide) l)
    p6 := fun l => F.p6 (lis (by decide) l)
    p7 := fun l => F.p7 (lis (by decide) l)
    p8 := fun _ => n
    p9 := fun l => F.p9 (lis (by decide) l)
    x0 := fun l => by
      obtain ⟨g, e, hg, hs, hx⟩ := F.x0 (lis (by decide) l)
      exact ⟨g, e, hg, hs, fun l' => hx (lis (by decide) l')⟩
    x1 := fun l => by
      obtain ⟨g, e, hg, hs, hx⟩ := F.x1 (lis (by decide) l)
      exact ⟨g, e, hg, hs, fun l' => hx (lis (by decide) l')⟩
    d01 := fun l l' => F.d01 (lis (by decide) l) (lis (by decide) l')
    y0 := fun l => getD_set_true (F.y0 (lis (by decide) l))
    y1 := fun l => getD_set_true (F.y1 (lis (by decide) l)) }
theorem LF.set9 (F : LF w0 w L g0 a b c d x y b0 b1 s0 s1 s2 s3 s4 s5 s6 s7 s8 s9) {v : Value} (n : v = .agg #[.bool (Big.ng y), .string (bst (Big.nu y)), .string (bst (Big.de y))]) : LF w0 w (L.setIfInBounds 9 true) g0 a b c d x y b0 b1 s0 s1 s2 s3 s4 s5 s6 s7 s8 v :=
  { hb := F.hb
    p0 := fun l => F.p0 (lis (by decide) l)
    p1 := fun l => F.p1 (lis (by decide) l)
    p2 := fun l => F.p2 (lis (by decide) l)
    p3 := fun l => F.p3 (lis (by decide) l)
    p4 := fun l => F.p4 (lis (by decide) l)
    p5 := fun l => F.p5 (lis (by decide) l)
    p6 := fun l => F.p6 (lis (by decide) l)
    p7 := fun l => F.p7 (lis (by decide) l)
    p8 := fun l => F.p8 (lis (by decide) l)
    p9 := fun _ => n
    x0 := fun l => by
      obtain ⟨g, e, hg, hs, hx⟩ := F.x0 (lis (by decide) l)
      exact ⟨g, e, hg, hs, fun l' => hx (lis (by decide) l')⟩
    x1 := fun l => by
      obtain ⟨g, e, hg, hs, hx⟩ := F.x1 (lis (by decide) l)
      exact ⟨g, e, hg, hs, fun l' => hx (lis (by decide) l')⟩
    d01 := fun l l' => F.d01 (lis (by decide) l) (lis (by decide) l')
    y0 := fun l => getD_set_true (F.y0 (lis (by decide) l))
    y1 := fun l => getD_set_true (F.y1 (lis (by decide) l)) }
theorem LF.box0 (F : LF w0 w L g0 a b c d x y b0 b1 s0 s1 s2 s3 s4 s5 s6 s7 s8 s9) {v : Value} (n : ∃ g, v = .pointer (some ⟨g, 0, none⟩) ∧ w0.heap.size ≤ g ∧ (∃ a b c, At3 w g 26 a b c) ∧ ((L.setIfInBounds 10 true).getD 12 false = true → At3 w g 26 (.bool (Big.ng x)) (.string (bst (Big.nu x))) (.string (bst (Big.de x))))) (n1 : L.getD 11 false = true → v ≠ b1) : LF w0 w (L.setIfInBounds 10 true) g0 a b c d x y v b1 s0 s1 s2 s3 s4 s5 s6 s7 s8 s9 :=
  { hb := F.hb
    p0 := fun l => F.p0 (lis (by decide) l)
    p1 := fun l => F.p1 (lis (by decide) l)
    p2 := fun l => F.p2 (lis (by decide) l)
    p3 := fun l => F.p3 (lis (by decide) l)
    p4 := fun l => F.p4 (lis (by decide) l)
    p5 := fun l => F.p5 (lis (by decide) l)
    p6 := fun l => F.p6 (lis (by decide) l)
    p7 := fun l => F.p7 (lis (by decide) l)
    p8 := fun l => F.p8 (lis (by decide) l)
    p9 := fun l => F.p9 (lis (by decide) l)
    x0 := fun _ => n
    x1 := fun l => by
      obtain ⟨g, e, hg, hs, hx⟩ := F.x1 (lis (by decide) l)
      exact ⟨g, e, hg, hs, fun l' => hx (lis (by decide) l')⟩
    d01 := fun _ l => n1 (lis (by decide) l)
    y0 := fun l => getD_set_true (F.y0 (lis (by decide) l))
    y1 := fun l => getD_set_true (F.y1 (lis (by decide) l)) }
theorem LF.box1 (F : LF w0 w L g0 a b c d x y b0 b1 s0 s1 s2 s3 s4 s5 s6 s7 s8 s9) {v : Value} (n : ∃ g, v = .pointer (some ⟨g, 0, none⟩) ∧ w0.heap.size ≤ g ∧ (∃ a b c, At3 w g 26 a b c) ∧ ((L.setIfInBounds 11 true).getD 13 false = true → At3 w g 26 (.bool (Big.ng y)) (.string (bst (Big.nu y))) (.string (bst (Big.de y))))) (n0 : L.getD 10 false = true → v ≠ b0) : LF w0 w (L.setIfInBounds 11 true) g0 a b c d x y b0 v s0 s1 s2 s3 s4 s5 s6 s7 s8 s9 :=
  { hb := F.hb
    p0 := fun l => F.p0 (lis (by decide) l)
    p1 := fun l => F.p1 (lis (by decide) l)
    p2 := fun l => F.p2 (lis (by decide) l)
    p3 := fun l => F.p3 (lis (by decide) l)
    p4 := fun l => F.p4 (lis (by decide) l)
    p5 := fun l => F.p5 (lis (by decide) l)
    p6 := fun l => F.p6 (lis (by decide) l)
    p7 := fun l => F.p7 (lis (by decide) l)
    p8 := fun l => F.p8 (lis (by decide) l)
    p9 := fun l => F.p9 (lis (by decide) l)
    x0 := fun l => by
      obtain ⟨g, e, hg, hs, hx⟩ := F.x0 (lis (by decide) l)
      exact ⟨g, e, hg, hs, fun l' => hx (lis (by decide) l')⟩
    x1 := fun _ => n
    d01 := fun l _ => (n0 (lis (by decide) l)).symm
    y0 := fun l => getD_set_true (F.y0 (lis (by decide) l))
    y1 := fun l => getD_set_true (F.y1 (lis (by decide) l)) }
theorem LF.put0 (F : LF w0 w L g0 a b c d x y b0 b1 s0 s1 s2 s3 s4 s5 s6 s7 s8 s9) (l0 : L.getD 10 false = true) (l1 : L.getD 11 false = true) {g : Nat} (eg : b0 = .pointer (some ⟨g, 0, none⟩)) : LF w0 (((w.setCell ⟨g, 0, none⟩ (.bool (Big.ng x))).setCell ⟨g, 1, none⟩ (.string (bst (Big.nu x)))).setCell ⟨g, 2, none⟩ (.string (bst (Big.de x)))) (L.setIfInBounds 12 true) g0 a b c d x y b0 b1 s0 s1 s2 s3 s4 s5 s6 s7 s8 s9 := by
  obtain ⟨g', e', hg, ⟨a, b, c, hs⟩, -⟩ := F.x0 l0
  obtain rfl : g' = g := by rw [e'] at eg; simpa using eg
  exact {
    hb := put_below F.hb hg _ _ _
    p0 := fun l => F.p0 (lis (by decide) l)
    p1 := fun l => F.p1 (lis (by decide) l)
    p2 := fun l => F.p2 (lis (by decide) l)
    p3 := fun l => F.p3 (lis (by decide) l)
    p4 := fun l => F.p4 (lis (by decide) l)
    p5 := fun l => F.p5 (lis (by decide) l)
    p6 := fun l => F.p6 (lis (by decide) l)
    p7 := fun l => F.p7 (lis (by decide) l)
    p8 := fun l => F.p8 (lis (by decide) l)
    p9 := fun l => F.p9 (lis (by decide) l)
    x0 := fun _ => ⟨g', e', hg, ⟨_, _, _, hs.put _ _ _⟩, fun _ => hs.put _ _ _⟩
    x1 := fun l => by
      obtain ⟨h, e, hh, ⟨a2, b2, c2, hs2⟩, hx⟩ := F.x1 (lis (by decide) l)
      have hne : h ≠ g' := by
        intro q; subst q; exact F.d01 l0 l1 (e'.trans e.symm)
      exact ⟨h, e, hh, ⟨_, _, _, ((hs2.far (p := ⟨g', 0, none⟩) hne _).far (p := ⟨g', 1, none⟩) hne _).far (p := ⟨g', 2, none⟩) hne _⟩, fun l' => (((hx (lis (by decide) l')).far (p := ⟨g', 0, none⟩) hne _).far (p := ⟨g', 1, none⟩) hne _).far (p := ⟨g', 2, none⟩) hne _⟩
    d01 := fun l l' => F.d01 (lis (by decide) l) (lis (by decide) l')
    y0 := fun _ => getD_set_true l0
    y1 := fun l => getD_set_true (F.y1 (lis (by decide) l)) }
theorem LF.put1 (F : LF w0 w L g0 a b c d x y b0 b1 s0 s1 s2 s3 s4 s5 s6 s7 s8 s9) (l0 : L.getD 10 false = true) (l1 : L.getD 11 false = true) {g : Nat} (eg : b1 = .pointer (some ⟨g, 0, none⟩)) : LF w0 (((w.setCell ⟨g, 0, none⟩ (.bool (Big.ng y))).setCell ⟨g, 1, none⟩ (.string (bst (Big.nu y)))).setCell ⟨g, 2, none⟩ (.string (bst (Big.de y)))) (L.setIfInBounds 13 true) g0 a b c d x y b0 b1 s0 s1 s2 s3 s4 s5 s6 s7 s8 s9 := by
  obtain ⟨g', e', hg, ⟨a, b, c, hs⟩, -⟩ := F.x1 l1
  obtain rfl : g' = g := by rw [e'] at eg; simpa using eg
  exact {
    hb := put_below F.hb hg _ _ _
    p0 := fun l => F.p0 (lis (by decide) l)
    p1 := fun l => F.p1 (lis (by decide) l)
    p2 := fun l => F.p2 (lis (by decide) l)
    p3 := fun l => F.p3 (lis (by decide) l)
    p4 := fun l => F.p4 (lis (by decide) l)
    p5 := fun l => F.p5 (lis (by decide) l)
    p6 := fun l => F.p6 (lis (by decide) l)
    p7 := fun l => F.p7 (lis (by decide) l)
    p8 := fun l => F.p8 (lis (by decide) l)
    p9 := fun l => F.p9 (lis (by decide) l)
    x0 := fun l => by
      obtain ⟨h, e, hh, ⟨a2, b2, c2, hs2⟩, hx⟩ := F.x0 (lis (by decide) l)
      have hne : h ≠ g' := by
        intro q; subst q; exact F.d01 l0 l1 (e.trans e'.symm)
      exact ⟨h, e, hh, ⟨_, _, _, ((hs2.far (p := ⟨g', 0, none⟩) hne _).far (p := ⟨g', 1, none⟩) hne _).far (p := ⟨g', 2, none⟩) hne _⟩, fun l' => (((hx (lis (by decide) l')).far (p := ⟨g', 0, none⟩) hne _).far (p := ⟨g', 1, none⟩) hne _).far (p := ⟨g', 2, none⟩) hne _⟩
    x1 := fun _ => ⟨g', e', hg, ⟨_, _, _, hs.put _ _ _⟩, fun _ => hs.put _ _ _⟩
    d01 := fun l l' => F.d01 (lis (by decide) l) (lis (by decide) l')
    y0 := fun l => getD_set_true (F.y0 (lis (by decide) l))
    y1 := fun _ => getD_set_true l1 }
theorem LF.new0 (F : LF w0 w L g0 a b c d x y b0 b1 s0 s1 s2 s3 s4 s5 s6 s7 s8 s9) (l : L.getD 10 false = true) : Value.pointer (some ⟨w.heap.size, 0, none⟩) ≠ b0 := by
  obtain ⟨g, e, _, ⟨_, _, _, hs⟩, _⟩ := F.x0 l
  intro q
  rw [e] at q
  have := hs.lt
  simp at q <;> omega
theorem LF.new1 (F : LF w0 w L g0 a b c d x y b0 b1 s0 s1 s2 s3 s4 s5 s6 s7 s8 s9) (l : L.getD 11 false = true) : Value.pointer (some ⟨w.heap.size, 0, none⟩) ≠ b1 := by
  obtain ⟨g, e, _, ⟨_, _, _, hs⟩, _⟩ := F.x1 l
  intro q
  rw [e] at q
  have := hs.lt
  simp at q <;> omega
end
end Go.Proofs.YtgdcahdnojaebaaDoor
