/- Contracts, in this order: diapasonlaw01.RatioTells answers true. -/
import Derived.Test.YthjofdfnppadnaaGreatDoorZt29
namespace Go.Proofs.YthjofdfnppadnaaGreatDoor
open Go Go.RowKit
namespace Ev
namespace Tl
set_option maxRecDepth 100000
def From (w : World) (f g : FuncId) (args : List Value) (v : Value) : Prop := ∀ W, Below w.heap.size w W →
  Calls Tryz.prog f ⟨args⟩ W (fun e w' => e = .returned v ∧ Below W.heap.size W w') ∧ Calls Tryz.prog g ⟨args⟩ W (fun e w' => e = .returned v ∧ Below W.heap.size W w')
theorem Both.here {f g : FuncId} {args : List Value} {v : Value} (h : Both f g args v) {w : World} (hG : Tryz.prog.globals.size ≤ w.heap.size) (hT : Tab w) : From w f g args v := fun W hb =>
  h W (Nat.le_trans hG hb.size) (hT.keep hb)
theorem works_here {w : World} (hG : Tryz.prog.globals.size ≤ w.heap.size) (hT : Tab w) (W : World) (hb : Below w.heap.size w W) : Calls Tryz.prog 18 #[] W fun e w' => e = .returned (.bool true) ∧ Below W.heap.size W w' :=
  worksT_ok.2.2 W (Nat.le_trans hG hb.size) (hT.keep hb)
theorem put_other {w : World} {g g' : Nat} {o : Obj} (h : w.heap[g]? = some o) (hne : g ≠ g') (a b c : Value) : (((w.setCell ⟨g', 0, none⟩ a).setCell ⟨g', 1, none⟩ b).setCell ⟨g', 2, none⟩ c).heap[g]? = some o := by
  rw [heap_setCell_other _ _ _ _ hne, heap_setCell_other _ _ _ _ hne, heap_setCell_other _ _ _ _ hne]; exact h
theorem From.up {w v : World} {f g : FuncId} {args : List Value} {r : Value} (h : From w f g args r) (hb : Below w.heap.size w v) : From v f g args r := fun W hW => h W (hb.trans (hW.mono hb.size))
theorem From.l {w : World} {f g : FuncId} {args : List Value} {r : Value} (h : From w f g args r) (W : World) (hb : Below w.heap.size w W) : Calls Tryz.prog f ⟨args⟩ W fun e w' => e = .returned r ∧ Below w.heap.size w w' :=
  (h W hb).1.mono fun e w' hh => ⟨hh.1, hb.trans (hh.2.mono hb.size)⟩
theorem From.r {w : World} {f g : FuncId} {args : List Value} {r : Value} (h : From w f g args r) (W : World) (hb : Below w.heap.size w W) : Calls Tryz.prog g ⟨args⟩ W fun e w' => e = .returned r ∧ Below w.heap.size w w' :=
  (h W hb).2.mono fun e w' hh => ⟨hh.1, hb.trans (hh.2.mono hb.size)⟩
set_option maxHeartbeats 8000000 in
theorem ratioTells_any (w : World) (x y : Tri) (n d : Int) (h1 : -9223372036854775808 ≤ n) (h2 : n ≤ 9223372036854775807) (h3 : -9223372036854775808 ≤ d) (h4 : d ≤ 9223372036854775807) (hG : Tryz.prog.globals.size ≤ w.heap.size) (hT : Tab w) :
    Calls Tryz.prog 5 #[.agg ⟨cel x ++ cel y⟩, .int .i64 n, .int .i64 d] w fun e w' => e = .returned (.bool true) ∧ Below w.heap.size w w' := by
  obtain ⟨t1, e1, HO⟩ := of_both n d h1 h2 h3 h4
  obtain ⟨n2, HC⟩ := check_both x
  obtain ⟨n3, HS⟩ := sign_both x
  obtain ⟨n4, e4, HM⟩ := cmp_both x y
  obtain ⟨t5, e5, HF⟩ := floor_both x
  obtain ⟨n6, b6, HI⟩ := int64_both x
  obtain ⟨s7, e7, HX⟩ := text_both x
  replace HO := HO.here hG hT
  replace HC := HC.here hG hT
  replace HS := HS.here hG hT
  replace HM := HM.here hG hT
  replace HF := HF.here hG hT
  replace HI := HI.here hG hT
  replace HX := HX.here hG hT
  have HW := Lib.hid (works_here hG hT)
  obtain ⟨sx, nx, dx⟩ := x
  obtain ⟨sy, ny, dy⟩ := y
  obtain ⟨s1, c1, k1⟩ := t1
  obtain ⟨s5, c5, k5⟩ := t5
  have e6 : cel (sx, nx, dx) ++ cel (sy, ny, dy) = [.bool sx, .string nx, .string dx, .bool sy, .string ny, .string dy] := rfl
  rw [e6]
  unfold cel at HO HC HS HM HF HI HX
  replace HO := Lib.hid HO
  replace HC := Lib.hid HC
  replace HS := Lib.hid HS
  replace HM := Lib.hid HM
  replace HF := Lib.hid HF
  replace HI := Lib.hid HI
  replace HX := Lib.hid HX
  have HB := Lib.hid (box1_below w (.cells #[.bool sx, .string nx, .string dx, .bool sy, .string ny, .string dy] 39))
  have HN := Lib.hid (AtL.new w 39 #[.bool sx, .string nx, .string dx, .bool sy, .string ny, .string dy])
  clear h1 h2 h3 h4 hG hT e6
  go_enter Tryz.func5, Tryz.ntmps5
  go_wp2_with fail
  refine ((HO.out _ HB.out).1).mono ?_
  generalize w.alloc (.cells #[.bool sx, .string nx, .string dx, .bool sy, .string ny, .string dy] 39) = v0 at *
  rintro e w1 ⟨rfl, hw⟩
  replace HB := Lib.hid (HB.out.trans (hw.mono HB.out.size))
  replace HN := Lib.hid (HN.out.keep hw)
  clear hw
  have hlt1 := HN.out.lt
  have HP := Lib.hid (At3.new w1 23 (.bool s1) (.string c1) (.string k1))
  replace HB := Lib.hid (below_alloc HB.out (Nat.le_refl _) (.cells #[.bool s1, .string c1, .string k1] 23))
  replace HN := Lib.hid (HN.out.keep (box1_below w1 (.cells #[.bool s1, .string c1, .string k1] 23)))
  have q0 := HN.out.cell 0 rfl; have q1 := HN.out.cell 1 rfl; have q2 := HN.out.cell 2 rfl; have q3 := HN.out.cell 3 rfl; have q4 := HN.out.cell 4 rfl; have q5 := HN.out.cell 5 rfl
  go_wp2_with fail
  refine ((HO.out _ HB.out).2).mono ?_
  generalize w1.alloc (.cells #[.bool s1, .string c1, .string k1] 23) = v1 at *
  generalize hg1 : w1.heap.size = g1 at *
  clear q0 q1 q2 q3 q4 q5
  rintro e w2 ⟨rfl, hw⟩
  replace HB := Lib.hid (HB.out.trans (hw.mono HB.out.size))
  replace HN := Lib.hid (HN.out.keep hw)
  replace HP := Lib.hid (HP.out.keep hw)
  clear hw
  have hlt2 := HN.out.lt
  have hltp := HP.out.lt
  have HR := Lib.hid (At3.new w2 23 (.bool s1) (.string c1) (.string k1))
  replace HB := Lib.hid (below_alloc HB.out (Nat.le_refl _) (.cells #[.bool s1, .string c1, .string k1] 23))
  replace HN := Lib.hid (HN.out.keep (box1_below w2 (.cells #[.bool s1, .string c1, .string k1] 23)))
  replace HP := Lib.hid (HP.out.keep (box1_below w2 (.cells #[.bool s1, .string c1, .string k1] 23)))
  have q0 := HN.out.cell 0 rfl; have q1 := HN.out.cell 1 rfl; have q2 := HN.out.cell 2 rfl; have q3 := HN.out.cell 3 rfl; have q4 := HN.out.cell 4 rfl; have q5 := HN.out.cell 5 rfl
  have o0 := HP.out.c0; have o1 := HP.out.c1; have o2 := HP.out.c2; have p0 := HR.out.c0; have p1 := HR.out.c1; have p2 := HR.out.c2
  go_wp2_with fail
  generalize w2.alloc (.cells #[.bool s1, .string c1, .string k1] 23) = v2 at *
  generalize hg2 : w2.heap.size = g2 at *
  have KX := Lib.hid (fun W (h : Below v2.heap.size v2 W) => And.intro ((HN.out.keep h).cell 0 rfl) (And.intro ((HN.out.keep h).cell 1 rfl) (And.intro ((HN.out.keep h).cell 2 rfl) (And.intro (HP.out.keep h).c0 (And.intro (HP.out.keep h).c1 (And.intro (HP.out.keep h).c2 (And.intro (HR.out.keep h).c0 (And.intro (HR.out.keep h).c1 (HR.out.keep h).c2))))))))
  have C1 := Lib.hid (HC.out.up HB.out).l
  have C2 := Lib.hid (HC.out.up HB.out).r
  have C3 := Lib.hid (HS.out.up HB.out).l
  have C4 := Lib.hid (HS.out.up HB.out).r
  go_region_held3 (fun w' => w'.cell? ⟨w.heap.size, 0, none⟩ = some (.bool sx) ∧ w'.cell? ⟨w.heap.size, 1, none⟩ = some (.string nx) ∧ w'.cell? ⟨w.heap.size, 2, none⟩ = some (.string dx) ∧ w'.cell? ⟨g1, 0, none⟩ = some (.bool s1) ∧ w'.cell? ⟨g1, 1, none⟩ = some (.string c1) ∧ w'.cell? ⟨g1, 2, none⟩ = some (.string k1) ∧ w'.cell? ⟨g2, 0, none⟩ = some (.bool s1) ∧ w'.cell? ⟨g2, 1, none⟩ = some (.string c1) ∧ w'.cell? ⟨g2, 2, none⟩ = some (.string k1))
    (exact KX.out _ (by first | assumption | exact Below.refl _ _ | exact below_drew (Below.refl _ _) | exact below_drew (by assumption)))
    (first
      | (go_at_call 24; (with_reducible refine (C1.out _ (by first | assumption | exact Below.refl _ _ | exact below_drew (Below.refl _ _) | exact below_drew (by assumption))).mono ?_); rintro e w3 ⟨rfl, hw3⟩)
      | (go_at_call 25; (with_reducible refine (C2.out _ (by first | assumption | exact Below.refl _ _ | exact below_drew (Below.refl _ _) | exact below_drew (by assumption))).mono ?_); rintro e w4 ⟨rfl, hw4⟩)
      | (go_at_call 26; (with_reducible refine (C3.out _ (by first | assumption | exact Below.refl _ _ | exact below_drew (Below.refl _ _) | exact below_drew (by assumption))).mono ?_); rintro e w5 ⟨rfl, hw5⟩)
      | (go_at_call 27; (with_reducible refine (C4.out _ (by first | assumption | exact Below.refl _ _ | exact below_drew (Below.refl _ _) | exact below_drew (by assumption))).mono ?_); rintro e w6 ⟨rfl, hw6⟩)
      | fail)
  replace HB := Lib.hid (HB.out.trans (hw6.mono HB.out.size))
  replace HN := Lib.hid (HN.out.keep hw6)
  replace HP := Lib.hid (HP.out.keep hw6)
  replace HR := Lib.hid (HR.out.keep hw6)
  clear q0 q1 q2 q3 q4 q5 o0 o1 o2 p0 p1 p2 hw3 hw4 hw5 hw6 KX C1 C2 C3 C4
  have q0 := HN.out.cell 0 rfl; have q1 := HN.out.cell 1 rfl; have q2 := HN.out.cell 2 rfl; have q3 := HN.out.cell 3 rfl; have q4 := HN.out.cell 4 rfl; have q5 := HN.out.cell 5 rfl
  have o0 := HP.out.c0; have o1 := HP.out.c1; have o2 := HP.out.c2; have p0 := HR.out.c0; have p1 := HR.out.c1; have p2 := HR.out.c2
  go_wp2_with fail
  refine ((HM.out _ HB.out).1).mono ?_
  clear q0 q1 q2 q3 q4 q5
  clear o0 o1 o2 p0 p1 p2
  rintro e w7 ⟨rfl, hw⟩
  replace HB := Lib.hid (HB.out.trans (hw.mono HB.out.size))
  replace HN := Lib.hid (HN.out.keep hw)
  replace HP := Lib.hid (HP.out.keep hw)
  replace HR := Lib.hid (HR.out.keep hw)
  clear hw
  have q0 := HN.out.cell 0 rfl; have q1 := HN.out.cell 1 rfl; have q2 := HN.out.cell 2 rfl; have q3 := HN.out.cell 3 rfl; have q4 := HN.out.cell 4 rfl; have q5 := HN.out.cell 5 rfl
  have o0 := HP.out.c0; have o1 := HP.out.c1; have o2 := HP.out.c2; have p0 := HR.out.c0; have p1 := HR.out.c1; have p2 := HR.out.c2
  go_wp2_with fail
  refine ((HM.out _ HB.out).2).mono ?_
  clear q0 q1 q2 q3 q4 q5
  clear o0 o1 o2 p0 p1 p2
  rintro e w8 ⟨rfl, hw⟩
  replace HB := Lib.hid (HB.out.trans (hw.mono HB.out.size))
  replace HN := Lib.hid (HN.out.keep hw)
  replace HP := Lib.hid (HP.out.keep hw)
  replace HR := Lib.hid (HR.out.keep hw)
  clear hw
  have q0 := HN.out.cell 0 rfl; have q1 := HN.out.cell 1 rfl; have q2 := HN.out.cell 2 rfl; have q3 := HN.out.cell 3 rfl; have q4 := HN.out.cell 4 rfl; have q5 := HN.out.cell 5 rfl
  have o0 := HP.out.c0; have o1 := HP.out.c1; have o2 := HP.out.c2; have p0 := HR.out.c0; have p1 := HR.out.c1; have p2 := HR.out.c2
  go_wp2_with fail
  refine ((HF.out _ HB.out).1).mono ?_
  clear q0 q1 q2 q3 q4 q5
  clear o0 o1 o2 p0 p1 p2
  rintro e w9 ⟨rfl, hw⟩
  replace HB := Lib.hid (HB.out.trans (hw.mono HB.out.size))
  replace HN := Lib.hid (HN.out.keep hw)
  replace HP := Lib.hid (HP.out.keep hw)
  replace HR := Lib.hid (HR.out.keep hw)
  clear hw
  have R1 := HP.out
  have k0 := R1.c0; have k1 := R1.c1; have k2 := R1.c2; have f0 := R1.frozen 0; have f1 := R1.frozen 1; have f2 := R1.frozen 2
  clear R1
  replace HB := Lib.hid (put_below (g := g1) HB.out (by omega) (.bool s5) (.string c5) (.string k5) : Below w.heap.size w _)
  replace HN := Lib.hid (show AtL _ _ _ _ from put_other (g := w.heap.size) (g' := g1) HN.out (by omega) (.bool s5) (.string c5) (.string k5))
  replace HR := Lib.hid (show At3 _ _ _ _ _ _ from put_other (g := g2) (g' := g1) HR.out (by omega) (.bool s5) (.string c5) (.string k5))
  replace HP := Lib.hid (At3.put HP.out (.bool s5) (.string c5) (.string k5))
  have q0 := HN.out.cell 0 rfl; have q1 := HN.out.cell 1 rfl; have q2 := HN.out.cell 2 rfl; have q3 := HN.out.cell 3 rfl; have q4 := HN.out.cell 4 rfl; have q5 := HN.out.cell 5 rfl
  have o0 := HP.out.c0; have o1 := HP.out.c1; have o2 := HP.out.c2; have p0 := HR.out.c0; have p1 := HR.out.c1; have p2 := HR.out.c2
  go_wp2_with fail
  refine ((HF.out _ HB.out).2).mono ?_
  generalize (((w9.setCell ⟨g1, 0, none⟩ (.bool s5)).setCell ⟨g1, 1, none⟩ (.string c5)).setCell ⟨g1, 2, none⟩ (.string k5)) = v9 at *
  clear q0 q1 q2 q3 q4 q5
  clear o0 o1 o2 p0 p1 p2
  clear f0 f1 f2
  rintro e w10 ⟨rfl, hw⟩
  replace HB := Lib.hid (HB.out.trans (hw.mono HB.out.size))
  replace HN := Lib.hid (HN.out.keep hw)
  replace HP := Lib.hid (HP.out.keep hw)
  replace HR := Lib.hid (HR.out.keep hw)
  clear hw
  have R1 := HR.out
  have k0 := R1.c0; have k1 := R1.c1; have k2 := R1.c2; have f0 := R1.frozen 0; have f1 := R1.frozen 1; have f2 := R1.frozen 2
  clear R1
  replace HB := Lib.hid (put_below (g := g2) HB.out (by omega) (.bool s5) (.string c5) (.string k5) : Below w.heap.size w _)
  replace HN := Lib.hid (show AtL _ _ _ _ from put_other (g := w.heap.size) (g' := g2) HN.out (by omega) (.bool s5) (.string c5) (.string k5))
  replace HP := Lib.hid (show At3 _ _ _ _ _ _ from put_other (g := g1) (g' := g2) HP.out (by omega) (.bool s5) (.string c5) (.string k5))
  replace HR := Lib.hid (At3.put HR.out (.bool s5) (.string c5) (.string k5))
  have q0 := HN.out.cell 0 rfl; have q1 := HN.out.cell 1 rfl; have q2 := HN.out.cell 2 rfl; have q3 := HN.out.cell 3 rfl; have q4 := HN.out.cell 4 rfl; have q5 := HN.out.cell 5 rfl
  have o0 := HP.out.c0; have o1 := HP.out.c1; have o2 := HP.out.c2; have p0 := HR.out.c0; have p1 := HR.out.c1; have p2 := HR.out.c2
  go_wp2_with fail
  refine ((HI.out _ HB.out).1).mono ?_
  generalize (((w10.setCell ⟨g2, 0, none⟩ (.bool s5)).setCell ⟨g2, 1, none⟩ (.string c5)).setCell ⟨g2, 2, none⟩ (.string k5)) = v10 at *
  clear q0 q1 q2 q3 q4 q5
  clear o0 o1 o2 p0 p1 p2
  clear f0 f1 f2
  rintro e w11 ⟨rfl, hw⟩
  replace HB := Lib.hid (HB.out.trans (hw.mono HB.out.size))
  replace HN := Lib.hid (HN.out.keep hw)
  replace HP := Lib.hid (HP.out.keep hw)
  replace HR := Lib.hid (HR.out.keep hw)
  clear hw
  have q0 := HN.out.cell 0 rfl; have q1 := HN.out.cell 1 rfl; have q2 := HN.out.cell 2 rfl; have q3 := HN.out.cell 3 rfl; have q4 := HN.out.cell 4 rfl; have q5 := HN.out.cell 5 rfl
  have o0 := HP.out.c0; have o1 := HP.out.c1; have o2 := HP.out.c2; have p0 := HR.out.c0; have p1 := HR.out.c1; have p2 := HR.out.c2
  go_wp2_with fail
  refine ((HI.out _ HB.out).2).mono ?_
  clear q0 q1 q2 q3 q4 q5
  clear o0 o1 o2 p0 p1 p2
  rintro e w12 ⟨rfl, hw⟩
  replace HB := Lib.hid (HB.out.trans (hw.mono HB.out.size))
  replace HN := Lib.hid (HN.out.keep hw)
  replace HP := Lib.hid (HP.out.keep hw)
  replace HR := Lib.hid (HR.out.keep hw)
  clear hw
  have q0 := HN.out.cell 0 rfl; have q1 := HN.out.cell 1 rfl; have q2 := HN.out.cell 2 rfl; have q3 := HN.out.cell 3 rfl; have q4 := HN.out.cell 4 rfl; have q5 := HN.out.cell 5 rfl
  have o0 := HP.out.c0; have o1 := HP.out.c1; have o2 := HP.out.c2; have p0 := HR.out.c0; have p1 := HR.out.c1; have p2 := HR.out.c2
  go_wp2_with fail
  refine ((HX.out _ HB.out).1).mono ?_
  clear q0 q1 q2 q3 q4 q5
  clear o0 o1 o2 p0 p1 p2
  rintro e w13 ⟨rfl, hw⟩
  replace HB := Lib.hid (HB.out.trans (hw.mono HB.out.size))
  replace HN := Lib.hid (HN.out.keep hw)
  replace HP := Lib.hid (HP.out.keep hw)
  replace HR := Lib.hid (HR.out.keep hw)
  clear hw
  have q0 := HN.out.cell 0 rfl; have q1 := HN.out.cell 1 rfl; have q2 := HN.out.cell 2 rfl; have q3 := HN.out.cell 3 rfl; have q4 := HN.out.cell 4 rfl; have q5 := HN.out.cell 5 rfl
  have o0 := HP.out.c0; have o1 := HP.out.c1; have o2 := HP.out.c2; have p0 := HR.out.c0; have p1 := HR.out.c1; have p2 := HR.out.c2
  go_wp2_with fail
  refine ((HX.out _ HB.out).2).mono ?_
  clear q0 q1 q2 q3 q4 q5
  clear o0 o1 o2 p0 p1 p2
  rintro e w14 ⟨rfl, hw⟩
  replace HB := Lib.hid (HB.out.trans (hw.mono HB.out.size))
  replace HN := Lib.hid (HN.out.keep hw)
  replace HP := Lib.hid (HP.out.keep hw)
  replace HR := Lib.hid (HR.out.keep hw)
  clear hw
  have q0 := HN.out.cell 0 rfl; have q1 := HN.out.cell 1 rfl; have q2 := HN.out.cell 2 rfl; have q3 := HN.out.cell 3 rfl; have q4 := HN.out.cell 4 rfl; have q5 := HN.out.cell 5 rfl
  have o0 := HP.out.c0; have o1 := HP.out.c1; have o2 := HP.out.c2; have p0 := HR.out.c0; have p1 := HR.out.c1; have p2 := HR.out.c2
  go_wp2_with fail
  refine (HW.out _ HB.out).mono ?_
  clear q0 q1 q2 q3 q4 q5
  clear o0 o1 o2 p0 p1 p2
  rintro e w15 ⟨rfl, hw⟩
  replace HB := Lib.hid (HB.out.trans (hw.mono HB.out.size))
  replace HN := Lib.hid (HN.out.keep hw)
  replace HP := Lib.hid (HP.out.keep hw)
  replace HR := Lib.hid (HR.out.keep hw)
  clear hw
  have q0 := HN.out.cell 0 rfl; have q1 := HN.out.cell 1 rfl; have q2 := HN.out.cell 2 rfl; have q3 := HN.out.cell 3 rfl; have q4 := HN.out.cell 4 rfl; have q5 := HN.out.cell 5 rfl
  have o0 := HP.out.c0; have o1 := HP.out.c1; have o2 := HP.out.c2; have p0 := HR.out.c0; have p1 := HR.out.c1; have p2 := HR.out.c2
  go_wp2_with fail
  go_ret
  exact ⟨rfl, HB.out⟩
end Tl
end Ev
end Go.Proofs.YthjofdfnppadnaaGreatDoor
