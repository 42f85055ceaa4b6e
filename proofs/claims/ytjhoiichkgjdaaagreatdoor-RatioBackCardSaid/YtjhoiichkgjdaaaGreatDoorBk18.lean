/- Contracts, in this order: ratio: Add, by reckon. · diapasonlaw01: works. · RatioBack: its numbers; equality of fractions. · nat: groupValue, isText (of what is a text). · nat: power10. · nat: mulAddWord. -/
import Derived.Test.YtjhoiichkgjdaaaGreatDoorBk15
import Derived.Test.YtjhoiichkgjdaaaGreatDoorBk14
import Derived.Test.YtjhoiichkgjdaaaGreatDoorBk17
import Derived.Laws.StructEq
import Derived.Test.YtjhoiichkgjdaaaGreatDoorProg
import Derived.Test.YtjhoiichkgjdaaaGreatDoorBk16
import Derived.Test.YtjhoiichkgjdaaaGreatDoorBk01
import Derived.IntWalk
import Derived.LoopN
import Derived.Laws.IdiomStrings
import Derived.Test.YtjhoiichkgjdaaaGreatDoorBk11
/- ratio: Add, by reckon. -/
namespace Go.Proofs.YtjhoiichkgjdaaaGreatDoor
open Go.RowKit

set_option maxRecDepth 100000 in
set_option maxHeartbeats 4000000 in
theorem Add1_any (b w : World) (vx vy : Value) (q r : Rat) (hx : NumIn w vx q) (hy : NumIn w vy r) (sx : Sm 64 q) (sy : Sm 64 r) (hbw : Below b.heap.size b w) :
    Calls Tryz.prog 62 #[vx, vy] w (NumE b w (q + r)) := by
  have C := Lib.hid (fun W a c (h : NumIn W a q) (i : NumIn W c r) => exAdd_any W a c q r 64 h i sx sy (by omega))
  have HQ := Lib.hid hx; have HR := Lib.hid hy; have HBW := Lib.hid hbw
  obtain ⟨A, l, c, A2, l2, c2, rfl, -, -⟩ := hx.is_agg
  obtain ⟨B, m, d, B2, m2, d2, rfl, -, -⟩ := hy.is_agg
  clear hx hy sx sy hbw
  obtain ⟨X0, Y0, R0, B0⟩ := boxed3 w 80 80 (.bool (Big.ng q)) (.slice A l c) (.slice A2 l2 c2) (.bool (Big.ng r)) (.slice B m d) (.slice B2 m2 d2) (.bool false) (.slice none 0 0) (.slice none 0 0)
  have HR0 := Lib.hid R0; have HB0 := Lib.hid B0
  have HXX := Lib.hid X0; have HYY := Lib.hid Y0
  clear X0 Y0 R0 B0
  go_enter Tryz.func62, Tryz.ntmps62
  go_wp2_with fail
  generalize ((w.alloc (.cells #[.bool (Big.ng q), .slice A l c, .slice A2 l2 c2] 80)).alloc (.cells #[.bool (Big.ng r), .slice B m d, .slice B2 m2 d2] 80)).alloc (.cells #[.bool false, .slice none 0 0, .slice none 0 0] 80) = w0 at *
  refine (C.out _ _ _ (HQ.out.keep HB0.out) (HR.out.keep HB0.out)).mono ?_
  rintro e w1 ⟨v1, rfl, hv1, hw1⟩
  have B1 := HB0.out.trans (hw1.mono HB0.out.size)
  have R1 := HR0.out.keep hw1
  obtain ⟨A8, l8, c8, A9, l9, c9, rfl, h8, h9⟩ := hv1.is_agg
  have HH := Lib.hid (And.intro h8 h9); have HB1 := Lib.hid B1
  have k0 := R1.c0; have k1 := R1.c1; have k2 := R1.c2; have f0 := R1.frozen 0; have f1 := R1.frozen 1; have f2 := R1.frozen 2
  obtain ⟨nz, hnz⟩ : ∃ z, Big.ng (q + r) = z := ⟨_, rfl⟩
  rw [hnz]
  have HNZ := Lib.hid hnz
  have RR := R1
  clear hv1 h8 h9 hw1 hnz B1 R1 C HQ HR HR0 HB0
  go_wp2_with fail
  obtain ⟨D1, D2, D3⟩ := num_done (bb := nz) (show NumRes w1 _ _ from RR) HB1.out (by omega) HH.out.1 HH.out.2 HNZ.out.symm
  have HD1 := Lib.hid D1; have HD2 := Lib.hid D2; have HD3 := Lib.hid D3
  clear D1 D2 D3 k0 k1 k2 f0 f1 f2 RR
  generalize (((w1.setCell ⟨w.heap.size + 1 + 1, 0, none⟩ (.bool (nz))).setCell ⟨w.heap.size + 1 + 1, 1, none⟩ (.slice A8 l8 c8)).setCell ⟨w.heap.size + 1 + 1, 2, none⟩ (.slice A9 l9 c9)) = wz at HD1 HD2 HD3 ⊢
  have r0 := HD1.out.c0; have r1 := HD1.out.c1; have r2 := HD1.out.c2
  exact bodyPost_ret (v := .tuple #[.agg #[.bool (nz), .slice A8 l8 c8, .slice A9 l9 c9], .int .i64 0]) (by simp [results, Tryz.results62, go_sem, r0, r1, r2]) rfl ⟨_, rfl, HD2.out, HBW.out.trans (HD3.out.mono HBW.out.size), HD3.out⟩

set_option maxRecDepth 100000 in
set_option maxHeartbeats 600000 in
theorem reckonAdd_fit (w : World) (q r z : Rat) (k : Nat) (hq : Fit q) (hr : Fit r) (hz : Fit z) (sz : Sm k z) (hk : k ≤ 10000000)
    (hF : ∀ b W v u, NumIn W v q → NumIn W u r → Below b.heap.size b W → Calls Tryz.prog 62 #[v, u] W (NumE b W z)) :
    Calls Tryz.prog 61 #[.func (.func 62) #[] #[], .agg #[.bool (Big.ng q), .string (bst (Big.nu q)), .string (bst (Big.de q))], .agg #[.bool (Big.ng r), .string (bst (Big.nu r)), .string (bst (Big.de r))]] w (Ret2 w (fracV z) 0) := by
  have HRD := Lib.hid (fun W g (h : AtL W g 23 #[.bool (Big.ng q), .string (bst (Big.nu q)), .string (bst (Big.de q)), .bool (Big.ng r), .string (bst (Big.nu r)), .string (bst (Big.de r))]) => read2_any W g q r h hq hr)
  have HF := Lib.hid hF
  have CA := Lib.hid (fun W v (h : NumIn W v z) => answer_fit W v z k h sz hk hz)
  obtain ⟨X0, Y0, R0, B0⟩ := boxed3 w 23 23 (.bool (Big.ng q)) (.string (bst (Big.nu q))) (.string (bst (Big.de q))) (.bool (Big.ng r)) (.string (bst (Big.nu r))) (.string (bst (Big.de r))) (.bool false) (.string ⟨#[]⟩) (.string ⟨#[]⟩)
  have HR0 := Lib.hid R0; have HB0 := Lib.hid B0
  have x0 := X0.c0; have x1 := X0.c1; have x2 := X0.c2
  have y0 := Y0.c0; have y1 := Y0.c1; have y2 := Y0.c2
  clear hF hz sz hq hr X0 Y0 R0 B0
  go_enter Tryz.func61, Tryz.ntmps61
  go_wp2_with fail
  have hs : (((w.alloc (.cells #[.bool (Big.ng q), .string (bst (Big.nu q)), .string (bst (Big.de q))] 23)).alloc (.cells #[.bool (Big.ng r), .string (bst (Big.nu r)), .string (bst (Big.de r))] 23)).alloc (.cells #[.bool false, .string ⟨#[]⟩, .string ⟨#[]⟩] 23)).heap.size = w.heap.size + 1 + 1 + 1 := by rw [alloc_size, alloc_size, alloc_size]
  generalize ((w.alloc (.cells #[.bool (Big.ng q), .string (bst (Big.nu q)), .string (bst (Big.de q))] 23)).alloc (.cells #[.bool (Big.ng r), .string (bst (Big.nu r)), .string (bst (Big.de r))] 23)).alloc (.cells #[.bool false, .string ⟨#[]⟩, .string ⟨#[]⟩] 23) = w0 at *
  have HN := AtL.new w0 23 #[.bool (Big.ng q), .string (bst (Big.nu q)), .string (bst (Big.de q)), .bool (Big.ng r), .string (bst (Big.nu r)), .string (bst (Big.de r))]
  rw [hs] at HN
  have HN := Lib.hid HN
  clear hs
  have HB1 := Lib.hid (below_alloc HB0.out (Nat.le_refl _) (.cells #[.bool (Big.ng q), .string (bst (Big.nu q)), .string (bst (Big.de q)), .bool (Big.ng r), .string (bst (Big.nu r)), .string (bst (Big.de r))] 23))
  have HR1 := Lib.hid (HR0.out.alloc' (.cells #[.bool (Big.ng q), .string (bst (Big.nu q)), .string (bst (Big.de q)), .bool (Big.ng r), .string (bst (Big.nu r)), .string (bst (Big.de r))] 23))
  refine (HRD.out _ _ HN.out).mono ?_
  generalize w0.alloc (.cells #[.bool (Big.ng q), .string (bst (Big.nu q)), .string (bst (Big.de q)), .bool (Big.ng r), .string (bst (Big.nu r)), .string (bst (Big.de r))] 23) = wa at *
  rintro e w1 ⟨v1, rfl, ⟨g, a, b, c, d, rfl, hat, hnq, hnr⟩, hw1⟩
  have HB2 := Lib.hid (HB1.out.trans (hw1.mono HB1.out.size))
  have HR2 := Lib.hid (HR1.out.keep hw1)
  obtain ⟨A, l, cc, B, m, dd, e1, -, -⟩ := hnq.is_agg
  obtain ⟨A2, l2, cc2, B2, m2, dd2, e2, -, -⟩ := hnr.is_agg
  simp only [Value.agg.injEq] at e1 e2
  have e1a : a = .slice A l cc := by have := congrArg (fun z : Array Value => z[1]?) e1; simpa using this
  have e1b : b = .slice B m dd := by have := congrArg (fun z : Array Value => z[2]?) e1; simpa using this
  have e2a : c = .slice A2 l2 cc2 := by have := congrArg (fun z : Array Value => z[1]?) e2; simpa using this
  have e2b : d = .slice B2 m2 dd2 := by have := congrArg (fun z : Array Value => z[2]?) e2; simpa using this
  subst e1a e1b e2a e2b
  have KX := Lib.hid (fun W (h : Below w1.heap.size w1 W) => And.intro ((hat.keep h).cell 0 rfl) (And.intro ((hat.keep h).cell 1 rfl) (And.intro ((hat.keep h).cell 2 rfl) (And.intro ((hat.keep h).cell 3 rfl) (And.intro ((hat.keep h).cell 4 rfl) ((hat.keep h).cell 5 rfl))))))
  have hgl := hat.lt
  have KQ := Lib.hid (fun W x y z' (h : Below w1.heap.size w1 W) (_ : g < w1.heap.size) => And.intro (put_cell (g := w1.heap.size) (KX.out W h).1 (by omega) x y z') (And.intro (put_cell (g := w1.heap.size) (KX.out W h).2.1 (by omega) x y z') (And.intro (put_cell (g := w1.heap.size) (KX.out W h).2.2.1 (by omega) x y z') (And.intro (put_cell (g := w1.heap.size) (KX.out W h).2.2.2.1 (by omega) x y z') (And.intro (put_cell (g := w1.heap.size) (KX.out W h).2.2.2.2.1 (by omega) x y z') (put_cell (g := w1.heap.size) (KX.out W h).2.2.2.2.2 (by omega) x y z'))))))
  have CF := Lib.hid (fun W (h : Below w1.heap.size w1 W) => HF.out w1 W _ _ (hnq.keep h) (hnr.keep h) h)
  clear e1 e2 hat hnq hnr hw1 HB1 HR1 HN HRD x0 x1 x2 y0 y1 y2
  go_wp2_with fail
  go_region_held3 (fun w' => w'.cell? ⟨g, 0, none⟩ = some (.bool (Big.ng q)) ∧ w'.cell? ⟨g, 1, none⟩ = some (.slice A l cc) ∧ w'.cell? ⟨g, 2, none⟩ = some (.slice B m dd) ∧ w'.cell? ⟨g, 3, none⟩ = some (.bool (Big.ng r)) ∧ w'.cell? ⟨g, 4, none⟩ = some (.slice A2 l2 cc2) ∧ w'.cell? ⟨g, 5, none⟩ = some (.slice B2 m2 dd2))
    (first | exact KX.out _ (by first | assumption | exact Below.refl _ _ | exact below_drew (Below.refl _ _) | exact below_drew (by assumption) | exact below_drew (below_alloc (Below.refl _ _) (Nat.le_refl _) _) | exact below_alloc (by assumption) (Nat.le_refl _) _ | exact below_alloc (Below.refl _ _) (Nat.le_refl _) _) | exact KX.out _ (below_alloc (by first | assumption | exact Below.refl _ _ | exact below_drew (Below.refl _ _) | exact below_drew (by assumption)) (Nat.le_refl _) _) | exact KQ.out _ _ _ _ (by assumption) hgl)
    (first
      | (go_at_call 62; (with_reducible refine (CF.out _ (by first | assumption | exact Below.refl _ _ | exact below_drew (Below.refl _ _) | exact below_drew (by assumption) | exact below_drew (below_alloc (Below.refl _ _) (Nat.le_refl _) _) | exact below_alloc (by assumption) (Nat.le_refl _) _ | exact below_alloc (Below.refl _ _) (Nat.le_refl _) _)).mono ?_); rintro e w3 ⟨v3, rfl, hv3, hw3, hw3'⟩; obtain ⟨A3, l3, c3, B3, m3, d3, rfl, hq3, hr3⟩ := hv3.is_agg; have hlt3 := hw3.size; try (have R3 := At3.keep (show At3 ((w1.alloc (.cells #[.bool false, .slice none 0 0, .slice none 0 0] 80)).drew) w1.heap.size 80 (.bool false) (.slice none 0 0) (.slice none 0 0) from At3.new w1 _ _ _ _) hw3'; have k0 := R3.c0; have k1 := R3.c1; have k2 := R3.c2; have f0 := R3.frozen 0; have f1 := R3.frozen 1; have f2 := R3.frozen 2))
      | fail)
  all_goals
    have HB3 := HB2.out.trans (hw3.mono HB2.out.size)
    have RW3 := HR2.out.keep hw3
    have hne : w.heap.size + 1 + 1 ≠ w1.heap.size := by have := HR2.out.lt; omega
    have hge : w.heap.size ≤ w1.heap.size := by have := HR2.out.lt; omega
    have HFR := Lib.hid (And.intro HB3 (And.intro RW3 (And.intro hne hge)))
    clear HB3 RW3 hne hge
    go_wp2_with fail
    refine (CA.out _ _ ?_).mono ?_
    · first
        | exact hv3.keep (box1_below _ _)
        | exact hv3.only (NumRes.no_int (show NumRes w3 _ _ from R3)) (put_only _ _ _ _ _)
    rintro e w4 ⟨rfl, hw4⟩
    have R4 : At3 w4 (w.heap.size + 1 + 1) 23 (.bool false) (.string ⟨#[]⟩) (.string ⟨#[]⟩) := by
      first
        | exact (HFR.out.2.1.alloc' _).keep hw4
        | exact (((HFR.out.2.1.far HFR.out.2.2.1 _).far HFR.out.2.2.1 _).far HFR.out.2.2.1 _).keep hw4
    have B4 : Below w.heap.size w w4 := by
      first
        | exact (below_alloc HFR.out.1 (Nat.le_refl _) _).trans (hw4.mono (below_alloc HFR.out.1 (Nat.le_refl _) _).size)
        | exact (put_below HFR.out.1 HFR.out.2.2.2 _ _ _).trans (hw4.mono (put_below HFR.out.1 HFR.out.2.2.2 _ _ _).size)
    unfold fracV
    clear hw4 HFR hv3 hw3 hw3' hq3 hr3 hlt3
    try clear R3 k0 k1 k2 f0 f1 f2
    have HD := Lib.hid (At3.put R4 (.bool (Big.ng z)) (.string (bst (Big.nu z))) (.string (bst (Big.de z))))
    have HE := Lib.hid (put_below B4 (show w.heap.size ≤ w.heap.size + 1 + 1 by omega) (.bool (Big.ng z)) (.string (bst (Big.nu z))) (.string (bst (Big.de z))))
    have k0 := R4.c0; have k1 := R4.c1; have k2 := R4.c2; have f0 := R4.frozen 0; have f1 := R4.frozen 1; have f2 := R4.frozen 2
    clear R4 B4
    go_wp2_with fail
    generalize (((w4.setCell ⟨w.heap.size + 1 + 1, 0, none⟩ (.bool (Big.ng z))).setCell ⟨w.heap.size + 1 + 1, 1, none⟩ (.string (bst (Big.nu z)))).setCell ⟨w.heap.size + 1 + 1, 2, none⟩ (.string (bst (Big.de z)))) = wz at HD HE ⊢
    clear k0 k1 k2 f0 f1 f2
    have r0 := HD.out.c0; have r1 := HD.out.c1; have r2 := HD.out.c2
    exact bodyPost_ret (v := .tuple #[.agg #[.bool (Big.ng z), .string (bst (Big.nu z)), .string (bst (Big.de z))], .int .i64 0]) (by simp [results, Tryz.results61, go_sem, r0, r1, r2]) rfl ⟨rfl, HE.out⟩

set_option maxRecDepth 100000 in
set_option maxHeartbeats 4000000 in
theorem raAdd_fit (w : World) (q r : Rat) (hq : Fit q) (hr : Fit r) (hz : Fit (q + r)) :
    Calls Tryz.prog 13 #[.agg #[.bool (Big.ng q), .string (bst (Big.nu q)), .string (bst (Big.de q))], .agg #[.bool (Big.ng r), .string (bst (Big.nu r)), .string (bst (Big.de r))]] w (Ret2 w (fracV (q + r)) 0) := by
  have sz : Sm (2 * 64 + 2 * 64 + 1) (q + r) := (hq.sm.add hr.sm)
  have C := Lib.hid (fun W => reckonAdd_fit W q r (q + r) _ hq hr hz sz (by omega) (fun b W' v u h i hb => Add1_any b W' v u q r h i hq.sm hr.sm hb))
  obtain ⟨X0, Y0, R0, B0⟩ := boxed3 w 23 23 (.bool (Big.ng q)) (.string (bst (Big.nu q))) (.string (bst (Big.de q))) (.bool (Big.ng r)) (.string (bst (Big.nu r))) (.string (bst (Big.de r))) (.bool false) (.string ⟨#[]⟩) (.string ⟨#[]⟩)
  have HR0 := Lib.hid R0; have HB0 := Lib.hid B0
  clear X0 Y0 R0 B0 hq hr hz sz
  obtain ⟨Z, hZ⟩ : ∃ Z, q + r = Z := ⟨_, rfl⟩
  rw [hZ] at C ⊢
  clear hZ
  go_enter Tryz.func13, Tryz.ntmps13
  go_wp2_with fail
  refine (C.out _).mono ?_
  generalize ((w.alloc (.cells #[.bool (Big.ng q), .string (bst (Big.nu q)), .string (bst (Big.de q))] 23)).alloc (.cells #[.bool (Big.ng r), .string (bst (Big.nu r)), .string (bst (Big.de r))] 23)).alloc (.cells #[.bool false, .string ⟨#[]⟩, .string ⟨#[]⟩] 23) = w0 at *
  rintro e w4 ⟨rfl, hw4⟩
  unfold fracV
  have R4 := HR0.out.keep hw4
  have HD := Lib.hid (At3.put R4 (.bool (Big.ng Z)) (.string (bst (Big.nu Z))) (.string (bst (Big.de Z))))
  have HE := Lib.hid (put_below (HB0.out.trans (hw4.mono HB0.out.size)) (show w.heap.size ≤ w.heap.size + 1 + 1 by omega) (.bool (Big.ng Z)) (.string (bst (Big.nu Z))) (.string (bst (Big.de Z))))
  have k0 := R4.c0; have k1 := R4.c1; have k2 := R4.c2; have f0 := R4.frozen 0; have f1 := R4.frozen 1; have f2 := R4.frozen 2
  clear R4 hw4 HR0 HB0 C
  go_wp2_with fail
  generalize (((w4.setCell ⟨w.heap.size + 1 + 1, 0, none⟩ (.bool (Big.ng Z))).setCell ⟨w.heap.size + 1 + 1, 1, none⟩ (.string (bst (Big.nu Z)))).setCell ⟨w.heap.size + 1 + 1, 2, none⟩ (.string (bst (Big.de Z)))) = wz at HD HE ⊢
  clear k0 k1 k2 f0 f1 f2
  have r0 := HD.out.c0; have r1 := HD.out.c1; have r2 := HD.out.c2
  exact bodyPost_ret (v := .tuple #[.agg #[.bool (Big.ng Z), .string (bst (Big.nu Z)), .string (bst (Big.de Z))], .int .i64 0]) (by simp [results, Tryz.results13, go_sem, r0, r1, r2]) rfl ⟨rfl, HE.out⟩

end Go.Proofs.YtjhoiichkgjdaaaGreatDoor
/- diapasonlaw01: works. -/
namespace Go.Proofs.YtjhoiichkgjdaaaGreatDoor
open Go.RowKit

theorem By.add_fit {q r : Rat} {k j : Nat} (h : By k q) (i : By j r) (hk : k + j + 1 ≤ 512) : Fit (q + r) := (h.add i).fit hk
/-- A fraction comes back. -/
def Fr1 (w : World) (q : Rat) (e : Ending) (w' : World) : Prop := e = .returned (fracV q) ∧ Below w.heap.size w w'
def Fr2 (b w : World) (q : Rat) (e : Ending) (w' : World) : Prop := e = .returned (fracV q) ∧ Below b.heap.size b w' ∧ Below w.heap.size w w'
theorem liftF {P : Program} {f : FuncId} {args : Array Value} {b W : World} {q : Rat} (h : Below b.heap.size b W) (c : Calls P f args W (Fr1 W q)) : Calls P f args W (Fr2 b W q) :=
  c.mono fun _ _ ⟨h1, h3⟩ => ⟨h1, h.trans (h3.mono h.size), h3⟩
/-- of(n, d). -/
def lofQ (n d : Int) : Rat := ofQ n (if d = 0 then 1 else d)
theorem lofQ_by {n d : Int} (hn : n.natAbs < 65536) (hd : d.natAbs < 65536) : By 2 (lofQ n d) := by
  unfold lofQ
  refine ofQ_by (by omega) ?_ ?_
  · split <;> omega
  · split <;> omega
set_option maxRecDepth 100000 in
set_option maxHeartbeats 4000000 in
theorem lworks_any (w : World) (htab : Tab w) :
    Calls Tryz.prog 18 #[] w fun e w' => e = .returned (.bool true) ∧ Below w.heap.size w w' := by
  have q1 : ofQ 1 2 + ofQ 1 3 = ofQ 5 6 := by decide +kernel
  have tx : txQ (ofQ 5 6) = [53, 47, 54] := by
    unfold txQ
    have e1 : Big.ng (ofQ 5 6) = false := by decide +kernel
    have e2 : Big.nu (ofQ 5 6) = 5 := by decide +kernel
    have e3 : Big.de (ofQ 5 6) = 6 := by decide +kernel
    rw [e1, e2, e3, if_neg (by simp), if_neg (by omega), Lib.decDigits_one (by omega), Lib.decDigits_one (by omega)]
    rfl
  have f1 : Fit (ofQ 1 2) := (ofQ_by (k := 1) (by omega) (by omega) (by omega)).fit (by omega)
  have f2 : Fit (ofQ 1 3) := (ofQ_by (k := 1) (by omega) (by omega) (by omega)).fit (by omega)
  have f3 : Fit (ofQ 5 6) := (ofQ_by (k := 1) (by omega) (by omega) (by omega)).fit (by omega)
  have C1 := Lib.hid (fun W => raOf_any W 1 2 (by omega) (by omega) (by omega) (by omega) (by omega))
  have C2 := Lib.hid (fun W => raOf_any W 1 3 (by omega) (by omega) (by omega) (by omega) (by omega))
  have C3 := Lib.hid (fun W => raAdd_fit W _ _ f1 f2 (by rw [q1]; exact f3))
  have C4 := Lib.hid (fun W h => raText_any W _ f3 h)
  rw [q1] at C3
  rw [tx] at C4
  have HT := Lib.hid htab
  clear q1 tx f1 f2 f3 htab
  obtain ⟨x, hx⟩ : ∃ z, ofQ 1 2 = z := ⟨_, rfl⟩
  obtain ⟨y, hy⟩ : ∃ z, ofQ 1 3 = z := ⟨_, rfl⟩
  obtain ⟨z, hz⟩ : ∃ z, ofQ 5 6 = z := ⟨_, rfl⟩
  rw [hx] at C1 C3; rw [hy] at C2 C3; rw [hz] at C3 C4
  clear hx hy hz
  go_enter Tryz.func18, Tryz.ntmps18
  go_wp2_with fail
  refine (C1.out _).mono ?_
  rintro e w1 ⟨rfl, hw1⟩
  unfold fracV
  go_wp2_with fail
  have HA1 := Lib.hid (At3.new w1 23 (.bool (Big.ng x)) (.string (bst (Big.nu x))) (.string (bst (Big.de x)))); have HB1 := Lib.hid (below_alloc hw1 (Nat.le_refl _) (.cells #[.bool (Big.ng x), .string (bst (Big.nu x)), .string (bst (Big.de x))] 23))
  refine (C2.out _).mono ?_
  generalize w1.alloc (.cells #[.bool (Big.ng x), .string (bst (Big.nu x)), .string (bst (Big.de x))] 23) = wa at *
  rintro e w2 ⟨rfl, hw2⟩
  unfold fracV
  have HA2 := Lib.hid (HA1.out.keep hw2)
  have HB2 := Lib.hid (HB1.out.trans (hw2.mono HB1.out.size))
  clear hw1 hw2 HA1 HB1
  have x0 := (HA2.out.alloc' (.cells #[.bool (Big.ng y), .string (bst (Big.nu y)), .string (bst (Big.de y))] 23)).c0; have x1 := (HA2.out.alloc' (.cells #[.bool (Big.ng y), .string (bst (Big.nu y)), .string (bst (Big.de y))] 23)).c1; have x2 := (HA2.out.alloc' (.cells #[.bool (Big.ng y), .string (bst (Big.nu y)), .string (bst (Big.de y))] 23)).c2
  have HB3 := Lib.hid (below_alloc HB2.out (Nat.le_refl _) (.cells #[.bool (Big.ng y), .string (bst (Big.nu y)), .string (bst (Big.de y))] 23))
  go_wp2_with fail
  refine (C3.out _).mono ?_
  generalize w2.alloc (.cells #[.bool (Big.ng y), .string (bst (Big.nu y)), .string (bst (Big.de y))] 23) = wb at *
  rintro e w3 ⟨rfl, hw3⟩
  unfold fracV
  have HB4 := Lib.hid (HB3.out.trans (hw3.mono HB3.out.size))
  clear x0 x1 x2 hw3 HA2 HB2 HB3
  have HB5 := Lib.hid (below_alloc HB4.out (Nat.le_refl _) (.cells #[.bool (Big.ng z), .string (bst (Big.nu z)), .string (bst (Big.de z))] 23))
  go_wp2_with fail
  refine (C4.out _ (HT.out.keep HB5.out)).mono ?_
  generalize w3.alloc (.cells #[.bool (Big.ng z), .string (bst (Big.nu z)), .string (bst (Big.de z))] 23) = wc at *
  rintro e w4 ⟨rfl, hw4⟩
  have HB6 := Lib.hid (HB5.out.trans (hw4.mono HB5.out.size))
  clear hw4
  go_wp2_with fail
  go_ret
  exact ⟨rfl, HB6.out⟩

end Go.Proofs.YtjhoiichkgjdaaaGreatDoor
/- RatioBack: its numbers; equality of fractions. -/
namespace Go.Proofs.YtjhoiichkgjdaaaGreatDoor
open Go.RowKit

/-- '==' of a fraction with itself. -/
@[go_sem] theorem eq_same (a : Bool) (s t : ByteArray) (w : World) : (Op.equalIn 10000 23 (.agg #[.bool a, .string s, .string t]) (.agg #[.bool a, .string s, .string t])).run Tryz.prog w = .ok true w := by
  have hS : Tryz.prog.underlying 23 = some (.struct (Tryz.prog.fieldsOf 23)) := by kernel_rfl
  have hp : Tryz.prog.stoodInHeld 23 = false := by kernel_rfl
  rw [show (10000 : Nat) = 9999 + 1 from rfl, run_equalIn_struct w 9999 23 _ _ hS hp]
  simp only [Program.fieldsOf, Tryz.underlying23]
  go_simp
theorem cmp_fl (q : Rat) : Big.cmpQ (Big.flQ q) q ≤ 0 := by
  have h := Big.flQ_le q
  unfold Big.cmpQ
  split
  · omega
  · split
    · omega
    · next h1 h2 => exact absurd (Rat.le_antisymm h (Rat.not_lt.1 h1)) h2
theorem one_eq : ofQ 1 1 = 1 := by decide +kernel
theorem cmp_next (q : Rat) : 0 < Big.cmpQ (Big.flQ q + ofQ 1 1) q := by
  have h := Big.lt_flQ q
  rw [one_eq]
  unfold Big.cmpQ
  have h2 : ¬ Big.flQ q + 1 < q := fun c => absurd (Rat.le_of_lt c) (Rat.not_le.2 h)
  have h3 : ¬ Big.flQ q + 1 = q := fun c => by rw [c] at h; exact absurd Rat.le_refl (Rat.not_le.2 h)
  rw [if_neg h2, if_neg h3]
  omega
set_option maxHeartbeats 1000000 in
theorem back_small (n d : Int) (h0 : -9223372036854775808 ≤ n) (h1 : n ≤ 9223372036854775807) (h2 : -9223372036854775808 ≤ d) (h3 : d ≤ 9223372036854775807) (hd : d ≠ 0) :
    Big.nu (Big.flQ (ofQ n d)) ≤ 9223372036854775808 ∧ (Big.nu (Big.flQ (ofQ n d)) = 9223372036854775808 → Big.ng (Big.flQ (ofQ n d)) = true ∨ d = -1) := by
  obtain ⟨p1, p2, p3⟩ := Big.of_parts (decide (n < 0) != decide (d < 0)) n.natAbs d.natAbs (by omega)
  obtain ⟨f1, f2, f3⟩ := Big.flQ_parts (ofQ n d)
  rw [f1, f2]
  change Big.ng (ofQ n d) = _ at p1
  change Big.nu (ofQ n d) = _ at p2
  change Big.de (ofQ n d) = _ at p3
  have hg := Big.gcd_pos_right (n := n.natAbs) (d := d.natAbs) (by omega)
  have g1 := Nat.div_mul_cancel (Nat.gcd_dvd_left n.natAbs d.natAbs)
  have g2 := Nat.div_mul_cancel (Nat.gcd_dvd_right n.natAbs d.natAbs)
  rw [p1, p2, p3]
  generalize Nat.gcd n.natAbs d.natAbs = g at *
  generalize hA : n.natAbs / g = A at *
  generalize hB : d.natAbs / g = B at *
  have hB1 : 1 ≤ B := by
    rcases Nat.eq_zero_or_pos B with e | e
    · rw [e, Nat.zero_mul] at g2; omega
    · exact e
  have hA2 : A ≤ n.natAbs := by rw [← g1]; exact Nat.le_mul_of_pos_right _ hg
  have dm := Nat.div_add_mod A B
  have hK : A / B ≤ B * (A / B) := Nat.le_mul_of_pos_left _ hB1
  have hup : A / B + (if ((decide (n < 0) != decide (d < 0)) && decide (0 < A)) = true ∧ 0 < A % B then 1 else 0) ≤ 9223372036854775808 := by
    split
    · next h =>
      have := h.2
      omega
    · omega
  refine ⟨hup, fun he => ?_⟩
  by_cases hs : ((decide (n < 0) != decide (d < 0)) && decide (0 < A)) = true
  · exact Or.inl hs
  · right
    rw [if_neg (fun h => hs h.1), Nat.add_zero] at he
    have hAe : A = 9223372036854775808 := by omega
    have hBe : B = 1 := by
      rw [he] at dm
      have : B * 9223372036854775808 ≤ 9223372036854775808 := by omega
      omega
    have hge : g = 1 := by
      rw [hAe] at g1
      have : 9223372036854775808 * g ≤ 9223372036854775808 := by omega
      omega
    rw [hBe, hge] at g2
    have hn : n = -9223372036854775808 := by
      rw [hAe, hge] at g1; omega
    have hdd : d = 1 ∨ d = -1 := by omega
    rcases hdd with e | e
    · exfalso; apply hs
      rw [hn, hAe, e]; decide
    · exact e
/-- Floor's number is an int64's, but of -1<<63 over -1. -/
theorem back_int64 (n d : Int) (h0 : -9223372036854775808 ≤ n) (h1 : n ≤ 9223372036854775807) (h2 : -9223372036854775808 ≤ d) (h3 : d ≤ 9223372036854775807) (hd : d ≠ 0) :
    ∃ i b, (∀ w, Calls Tryz.prog 29 #[.agg #[.bool (Big.ng (Big.flQ (ofQ n d))), .string (bst (Big.nu (Big.flQ (ofQ n d)))), .string (bst (Big.de (Big.flQ (ofQ n d))))]] w (Int2 w (i, b))) ∧ (b = true ∨ (d == -1) = true) := by
  obtain ⟨s1, s2⟩ := back_small n d h0 h1 h2 h3 hd
  obtain ⟨-, -, f3⟩ := Big.flQ_parts (ofQ n d)
  have hM : Big.M64 = 18446744073709551616 := by decide
  have hF : Fit (Big.flQ (ofQ n d)) := (By.fit (k := 8) ⟨Nat.lt_of_le_of_lt s1 (by decide), by rw [f3]; decide⟩ (by omega))
  generalize Big.flQ (ofQ n d) = F at *
  by_cases hm : (Big.nu F : Int) ≤ 9223372036854775807
  · cases hng : Big.ng F with
    | true => exact ⟨_, _, fun w => hng ▸ int64_neg w F hF f3 (by omega) hm hng, Or.inl rfl⟩
    | false => exact ⟨_, _, fun w => hng ▸ int64_pos w F hF f3 (by omega) hm (by rw [hng]; simp), Or.inl rfl⟩
  · have he : Big.nu F = 9223372036854775808 := by omega
    rcases s2 he with hng | hd
    · exact ⟨_, _, fun w => int64_least w F hF f3 (by omega) hm (by rw [he]; rfl) hng, Or.inl rfl⟩
    · cases hng : Big.ng F with
      | true => exact ⟨_, _, fun w => hng ▸ int64_least w F hF f3 (by omega) hm (by rw [he]; rfl) hng, Or.inl rfl⟩
      | false => exact ⟨_, _, fun w => hng ▸ int64_over w F hF f3 (by omega) hm (by rw [he]; rfl) (by rw [hng]; simp), Or.inr (by rw [hd]; rfl)⟩
end Go.Proofs.YtjhoiichkgjdaaaGreatDoor
/- nat: groupValue, isText (of what is a text). -/
namespace Go.Proofs.YtjhoiichkgjdaaaGreatDoor
open Go.RowKit

theorem digs_at {s : ByteArray} (h : Big.Digs s.data.toList) (i : Nat) (hi : i < s.size) : 48 ≤ (s[i]).toNat ∧ (s[i]).toNat ≤ 57 :=
  h _ (by
    have h1 : i < s.data.size := hi
    have : s[i] = s.data[i] := rfl
    rw [this]; exact Array.getElem_mem_toList h1)
theorem take_snoc_bytes (s : ByteArray) (k : Nat) (h : k < s.size) : s.data.toList.take (k + 1) = s.data.toList.take k ++ [s[k]] := by
  have h1 : k < s.data.toList.length := by rw [Array.length_toList]; exact h
  rw [List.take_succ_eq_append_getElem h1]; rfl

set_option maxRecDepth 100000 in
set_option maxHeartbeats 1000000 in
/-- nat.groupValue. -/
theorem groupValue_any (w : World) (s : ByteArray) (h : Big.Digs s.data.toList) (hs : s.size ≤ 19) :
    Calls Tryz.prog 237 #[.string s] w fun e w' => e = .returned (.int .u64 ((Big.dnum s.data.toList : Nat) : Int)) ∧ w = w' := by
  have HD := Lib.hid h
  clear h
  go_enter Tryz.func237, Tryz.ntmps237
  go_wp2_with fail
  go_loop [3, 7] (fun a i => ∃ k : Nat, k ≤ s.size ∧ i = .int .i64 k ∧ a = .int .u64 ((Big.dnum (s.data.toList.take k) : Nat) : Int)) (fun _ i => s.size - (intOf i).toNat)
  case atStart => exact ⟨0, by omega, rfl, rfl⟩
  case round =>
    obtain ⟨k, hk, rfl, rfl⟩ := hrel
    by_cases hks : k < s.size
    · have hkI : (k : Int) < (s.size : Int) := by omega
      obtain ⟨d1, d2⟩ := digs_at HD.out k hks
      have hb := Big.dnum_lt (l := s.data.toList.take k) (fun c hc => HD.out c (List.mem_of_mem_take hc))
      have hl : (s.data.toList.take k).length = k := by rw [List.length_take, Array.length_toList]; exact Nat.min_eq_left hk
      rw [hl] at hb
      have hp : 10 ^ k ≤ 10 ^ 18 := Nat.pow_le_pow_right (by omega) (by omega)
      have hb2 : Big.dnum (s.data.toList.take k) < 1000000000000000000 := by omega
      have HE := Lib.hid (show Big.dnum (s.data.toList.take (k + 1)) = Big.dnum (s.data.toList.take k) * 10 + ((s[k]).toNat - 48) by rw [take_snoc_bytes s k hks, Big.dnum_snoc])
      generalize Big.dnum (s.data.toList.take k) = D at *
      clear hb hl hp
      go_wp2_with fail
      go_round
      case rel => exact ⟨k + 1, by omega, by go_num, by rw [HE.out]; apply congrArg; omega⟩
      case measure => simp [intOf]; omega
    · have hkl : k = s.size := by omega
      subst hkl
      have he : s.data.toList.take s.size = s.data.toList := List.take_of_length_le (by rw [Array.length_toList]; exact Nat.le_refl _)
      rw [he]
      clear he
      go_wp2_with fail
      go_ret
      exact ⟨rfl, rfl⟩

set_option maxRecDepth 100000 in
set_option maxHeartbeats 1000000 in
/-- nat.isText, of a number's text. -/
theorem isText_true (w : World) (s : ByteArray) (h : Big.IsText s.data.toList) (hs : s.size ≤ 1000000000) :
    Calls Tryz.prog 234 #[.string s] w fun e w' => e = .returned (.bool true) ∧ w = w' := by
  obtain ⟨h1, h2, h3⟩ := h
  have hpos : 0 < s.size := by
    rcases Nat.eq_zero_or_pos s.size with e | e
    · exact absurd (List.length_eq_zero_iff.1 (by rw [Array.length_toList]; exact e)) h1
    · exact e
  have n1 : ¬ s.toList = [] := by rw [ByteArray.toList_eq]; exact h1
  have n2 : s.toList.isEmpty = false := by rw [Bool.eq_false_iff]; intro e; exact n1 (List.isEmpty_iff.1 e)
  have HD := Lib.hid h3
  have hz : s = ⟨#[48]⟩ ∨ ((s[0].toNat : Int) == 48) = false := by
    by_cases e : s[0].toNat = 48
    · left
      have e1 : s.data.toList.head? = some 48 := by
        have hl : 0 < s.data.toList.length := by rw [Array.length_toList]; exact hpos
        rw [List.head?_eq_getElem?, List.getElem?_eq_getElem hl]
        congr 1
        apply UInt8.toNat_inj.1
        exact e
      have e2 := h2 e1
      have e3 : s.data = #[48] := by apply Array.ext'; rw [e2]
      cases s; simp at e3; rw [e3]
    · right; rw [beq_eq_false_iff_ne]; omega
  rcases hz with rfl | hz
  · clear h1 h2 h3 n1 n2 HD hpos hs
    go_enter Tryz.func234, Tryz.ntmps234
    go_wp2_with fail
    refine wp_loop_rounds 2 ?_
    rw [rounds_succ]
    go_wp2_with fail
    rw [rounds_succ]
    go_wp2_with fail
    go_ret
    exact ⟨rfl, rfl⟩
  · clear h1 h2 h3
    go_enter Tryz.func234, Tryz.ntmps234
    go_wp2_with fail
    go_loop [17] (fun i => ∃ k : Nat, k ≤ s.size ∧ i = .int .i64 k) (fun i => s.size - (intOf i).toNat)
    case atStart => exact ⟨0, by omega, rfl⟩
    case round =>
      obtain ⟨k, hk, rfl⟩ := hrel
      by_cases hks : k < s.size
      · have hkI : (k : Int) < (s.size : Int) := by omega
        obtain ⟨d1, d2⟩ := digs_at HD.out k hks
        have q1 : ¬ ((s[k].toNat : Int) < 48) := by omega
        have q2 : ¬ ((s[k].toNat : Int) > 57) := by omega
        go_wp2_with fail
        go_round
        case rel => exact ⟨k + 1, by omega, by go_num⟩
        case measure => simp [intOf]; omega
      · have hkl : k = s.size := by omega
        subst hkl
        go_wp2_with fail
        go_ret
        exact ⟨rfl, rfl⟩
end Go.Proofs.YtjhoiichkgjdaaaGreatDoor
/- nat: power10. -/
namespace Go.Proofs.YtjhoiichkgjdaaaGreatDoor
open Go.RowKit

theorem pow10_lt {n : Nat} (h : n ≤ 19) : 10 ^ n < Big.M64 :=
  Nat.lt_of_le_of_lt (Nat.pow_le_pow_right (by omega) h) (by unfold Big.M64; omega)

set_option maxRecDepth 100000 in
set_option maxHeartbeats 2000000 in
/-- nat.power10. -/
theorem power10_any (w : World) (n : Nat) (hn : n ≤ 19) :
    Calls Tryz.prog 236 #[.int .i64 (n : Int)] w fun e w' => e = .returned (.int .u64 ((10 ^ n : Nat) : Int)) ∧ w = w' := by
  obtain ⟨R, hR⟩ : ∃ R, 10 ^ n = R := ⟨_, rfl⟩
  rw [hR]
  have HR := Lib.hid hR
  clear hR
  go_enter Tryz.func236, Tryz.ntmps236
  go_wp2_with fail
  go_loopw [3, 5] (fun a i wr => ∃ k P : Nat, k ≤ n ∧ i = .int .i64 k ∧ a = .int .u64 (P : Int) ∧ Hid (P = 10 ^ k) ∧ wr = w) (fun _ i _ => n - (intOf i).toNat)
  case atStart => exact ⟨0, 1, by omega, rfl, rfl, Lib.hid rfl, rfl⟩
  case round =>
    obtain ⟨k, P, hk, rfl, rfl, HP, rfl⟩ := hrel
    by_cases hkn : k < n
    · have hlt := pow10_lt (n := k + 1) (by omega)
      have e : 10 ^ (k + 1) = P * 10 := by rw [Nat.pow_succ, HP.out]
      rw [e, Big.M64_eq] at hlt
      have HP' := Lib.hid e.symm
      have a1 : IntKind.u64.wrap ((P : Int) * 10) = ((P * 10 : Nat) : Int) := by
        rw [show (P : Int) * 10 = ((P * 10 : Nat) : Int) by omega]; exact wrapN _ hlt
      obtain ⟨P', hP'⟩ : ∃ z, P * 10 = z := ⟨_, rfl⟩
      rw [hP'] at a1 HP'
      clear e hlt hP'
      go_wp2_with fail
      go_roundw
      case rel => exact ⟨k + 1, P', by omega, by go_num, rfl, HP', by first | trivial | rfl⟩
      case measure => simp [intOf]; omega
    · have hkl : k = n := by omega
      subst hkl
      go_wp2
      go_ret
      exact ⟨ret_int (by rw [HP.out, HR.out]), rfl⟩
end Go.Proofs.YtjhoiichkgjdaaaGreatDoor
/- nat: mulAddWord. -/
namespace Go.Proofs.YtjhoiichkgjdaaaGreatDoor
open Go.RowKit

theorem muladd_round {l zs : List Nat} {k m o : Nat} {x0 : Nat} (ol : Big.Ok Big.M64 l) (hm : m < Big.M64) (ho : o < Big.M64)
    (h : zs.length = k ∧ Big.Ok Big.M64 zs ∧ Big.val Big.M64 zs + Big.M64 ^ k * o = Big.val Big.M64 (l.take k) * m + x0) :
    hi64 (Big.nth l k * m + o) < Big.M64 ∧ (zs ++ [lo64 (Big.nth l k * m + o)]).length = k + 1 ∧ Big.Ok Big.M64 (zs ++ [lo64 (Big.nth l k * m + o)]) ∧
      Big.val Big.M64 (zs ++ [lo64 (Big.nth l k * m + o)]) + Big.M64 ^ (k + 1) * hi64 (Big.nth l k * m + o) = Big.val Big.M64 (l.take (k + 1)) * m + x0 := by
  obtain ⟨h1, h2, h3⟩ := h
  refine ⟨hi64_mul (ol.nth Big.M64_pos k) hm ho, by simp [h1], h2.append (Big.Ok.cons (by rw [Big.M64_eq]; exact lo64_lt _) Big.Ok.nil), ?_⟩
  rw [Big.val_snoc, h1, Big.val_take_succ', Nat.pow_succ]
  have e := lo_hi (Big.nth l k * m + o)
  rw [← Big.M64_eq] at e
  generalize lo64 (Big.nth l k * m + o) = a at *
  generalize hi64 (Big.nth l k * m + o) = b at *
  generalize Big.M64 ^ k = P at *
  generalize Big.val Big.M64 (l.take k) = V at *
  generalize Big.val Big.M64 zs = Z at *
  generalize Big.nth l k = x at *
  grind

theorem norm_of_ge {zs : List Nat} (oz : Big.Ok Big.M64 zs) (h : zs ≠ [] → Big.M64 ^ (zs.length - 1) ≤ Big.val Big.M64 zs) : Big.Norm zs := by
  intro hl
  obtain ⟨r, rfl⟩ := List.getLast?_eq_some_iff.1 hl
  have h1 := h (by simp)
  rw [Big.val_snoc, Nat.mul_zero, Nat.add_zero] at h1
  have h2 := Big.val_lt r (fun d hd => oz d (by simp [hd]))
  simp at h1
  omega

set_option maxRecDepth 100000 in
set_option maxHeartbeats 4000000 in
/-- nat.mulAddWord, where there is room. -/
theorem mulAddWord_any (w : World) (g c n m o : Nat) (v : Value) (h : OwnNat w v g c n) (hm : m < Big.M64) (hm1 : 1 ≤ m) (ho : o < Big.M64) (hf : n * m + o < Big.M64 ^ c) (hc : c ≤ 1000000000) :
    Calls Tryz.prog 235 #[v, .int .u64 (m : Int), .int .u64 (o : Int)] w fun e w' => ∃ v', e = .returned v' ∧ OwnNat w' v' g c (n * m + o) ∧ Only g w w' := by
  obtain ⟨k, X, rfl, hb, hk, hcX, hcl, oX, nX, lX, hv⟩ := h.len
  have HB0 := Lib.hid hb; have OX := Lib.hid oX; have NX := Lib.hid (And.intro nX (And.intro lX hv))
  have HM := Lib.hid hm; have HM1 := Lib.hid hm1; have HO := Lib.hid ho; have HF := Lib.hid (And.intro hcX hcl)
  clear hb oX nX lX hv hm ho h hcX
  go_enter Tryz.func235, Tryz.ntmps235
  go_wp2_with fail
  have HFF := Lib.hid hf
  clear hf
  go_loopw [2, 10] (fun a i wr => ∃ (j q : Nat) (zs : List Nat), j ≤ k ∧ i = .int .i64 j ∧ a = .int .u64 (q : Int) ∧ Hid (q < Big.M64) ∧
      Hid (zs.length = j ∧ Big.Ok Big.M64 zs ∧ Big.val Big.M64 zs + Big.M64 ^ j * q = Big.val Big.M64 (X.take j) * m + o) ∧
      Hid (Blk wr g 106 .u64 (zs ++ X.drop j)) ∧ Hid (Only g w wr)) (fun _ i _ => k - (intOf i).toNat)
  case atStart => exact ⟨0, o, [], by omega, rfl, rfl, HO, Lib.hid ⟨rfl, Big.Ok.nil, by simp [Big.val]⟩, HB0, Lib.hid (Only.refl _ _)⟩
  case round =>
    obtain ⟨j, q, zs, hj, rfl, rfl, HQ, HZ, HB, HOn⟩ := hrel
    by_cases hjk : j < k
    · have hst := HB.out.cell j (by have := HZ.out.1; have := HF.out.1; simp; omega)
      rw [nth_at HZ.out.1] at hst
      have hfr := HB.out.frozen j
      have R := muladd_round OX.out HM.out HQ.out HZ.out
      have hxM := OX.out.nth Big.M64_pos j
      obtain ⟨x, hx⟩ : ∃ z, Big.nth X j = z := ⟨_, rfl⟩
      rw [hx] at R hst hxM
      have CT := Lib.hid (fun W => timesPlus_any x m q (by rw [← Big.M64_eq]; exact hxM) (by rw [← Big.M64_eq]; exact HM.out) (by rw [← Big.M64_eq]; exact HQ.out) W)
      have R0 := Lib.hid R.1
      have R2 := Lib.hid R.2
      have HB' := Lib.hid (HB.out.set j (lo64 (x * m + q)))
      have HO' := Lib.hid (HOn.out.setCell j (.int .u64 ((lo64 (x * m + q) : Nat) : Int)))
      have hjI : (j : Int) < (k : Int) := by omega
      clear R hx hxM
      go_wp2_with (go_at_call 265; refine (CT.out _).mono ?_; rintro e w' ⟨rfl, rfl⟩)
      go_roundw
      case rel =>
        refine ⟨j + 1, _, _, by omega, by go_num, rfl, R0, R2, Lib.hid ?_, HO'⟩
        have h1 := HB'.out
        rw [set_drop zs X j _ HZ.out.1 (by have := HF.out.1; omega)] at h1
        exact h1
      case measure => simp [intOf]; omega
    · have hkl : j = k := by omega
      subst hkl
      have Z := HZ.out
      rw [NX.out.2.2] at Z
      by_cases hq : q = 0
      · subst hq
        clear Z
        go_wp2_with fail
        go_ret
        have Z := HZ.out
        rw [NX.out.2.2, Nat.mul_zero, Nat.add_zero] at Z
        have e : (zs ++ X.drop j).take j = zs := by rw [List.take_append_of_le_length (by omega), List.take_of_length_le (by omega)]
        refine ⟨_, rfl, ⟨zs ++ X.drop j, j, rfl, HB.out, by have := HF.out.1; simp; omega, Z.2.1.append (OX.out.drop _), hk, HF.out.2, ?_, by rw [e]; exact Z.2.2⟩, HOn.out⟩
        rw [e]
        refine norm_of_ge Z.2.1 (fun hne => ?_)
        have hj0 : 0 < zs.length := List.length_pos_iff.2 hne
        have h1 := Big.norm_ge (B := Big.M64) (X.take j) NX.out.1 (by intro e2; have := NX.out.2.1; rw [e2] at this; simp at this; omega)
        rw [NX.out.2.2, NX.out.2.1] at h1
        rw [Z.2.2, Z.1]
        have h2 := Nat.mul_le_mul_left n HM1.out
        omega
      · have hq1 : ((q : Int) != 0) = true := by rw [bne_iff_ne]; omega
        have hM1 : 1 < Big.M64 := by unfold Big.M64; omega
        have hjc : j < c := by
          have h1 := HFF.out
          rw [← Z.2.2] at h1
          have h2 := Nat.mul_le_mul_left (Big.M64 ^ j) (show 1 ≤ q by omega)
          exact (Nat.pow_lt_pow_iff_right hM1).1 (by omega)
        have hroom : (j : Int) + 1 ≤ (c : Int) := by omega
        have hBa := HB.out.alloc' (.cells #[.int .u64 (q : Int)] 106)
        have hst := hBa.cell j (by have := HF.out.1; simp; omega)
        have hfr := hBa.frozen j
        have HB' := Lib.hid (hBa.set j q)
        have HO' := Lib.hid (Only.setCell (HOn.out.trans (Only.of_below ((Below.refl wr.heap.size wr).alloc (Nat.le_refl _) (.cells #[.int .u64 (q : Int)] 106)))) j (.int .u64 (q : Int)))
        have HZ2 := Lib.hid Z
        clear Z hBa hM1
        go_wp2_with fail
        go_ret
        have hB := HB'.out
        rw [set_drop zs X j _ HZ.out.1 (by have := HF.out.1; omega)] at hB
        have hl1 : (zs ++ [q]).length = j + 1 := by simp [HZ.out.1]
        have e : ((zs ++ [q]) ++ X.drop (j + 1)).take (j + 1) = zs ++ [q] := by rw [List.take_append_of_le_length (by omega), List.take_of_length_le (by omega)]
        have hval : Big.val Big.M64 (zs ++ [q]) = n * m + o := by
          rw [Big.val_snoc, HZ.out.1]; exact HZ2.out.2.2
        refine ⟨_, rfl, ⟨(zs ++ [q]) ++ X.drop (j + 1), j + 1, rfl, hB, by have := HF.out.1; simp [HZ.out.1]; omega, (HZ.out.2.1.append (Big.Ok.cons HQ.out Big.Ok.nil)).append (OX.out.drop _), by omega, HF.out.2, ?_, by rw [e]; exact hval⟩, HO'.out⟩
        rw [e]
        simp [Big.Norm, hq]
end Go.Proofs.YtjhoiichkgjdaaaGreatDoor
