/- Contracts. -/
import Derived.Test.YtfenjkgbedbleaaGreatDoorBKq09
import Derived.LoopN
import Derived.Test.YtfenjkgbedbleaaGreatDoorProg
import Derived.Test.YtfenjkgbedbleaaGreatDoorShelf
import Derived.Lib.ItoaMem
import Derived.Lib.TrailingZeros
import Derived.Lib.AppendIntMem
import Derived.Lib.Walk
import Derived.WalkKit
import Derived.BigCall
import Derived.BigGuard
import Derived.Lib.Hide
import Derived.Lib.ItoaNum
import Derived.Test.YtfenjkgbedbleaaGreatDoorBKq01
import Derived.Test.YtfenjkgbedbleaaGreatDoorBKq08
import Derived.Lib.Slices
import Derived.Lib.OwnKind
import Derived.Laws.AppendOwn
import Derived.Lib.AppendStr
import Derived.OwnWalk
namespace Go.Proofs.YtfenjkgbedbleaaGreatDoor
open Go.RowKit
def One (w : World) (v : Value) (q : Rat) : Prop := ∃ g a b, v = .slice (some ⟨g, 0, none⟩) 1 1 ∧ AtL w g 42 #[.bool (Big.ng q), a, b] ∧ NumIn w (.agg #[.bool (Big.ng q), a, b]) q
def Two (w : World) (v : Value) (q r : Rat) : Prop := ∃ g a b c d, v = .slice (some ⟨g, 0, none⟩) 2 2 ∧ AtL w g 42 #[.bool (Big.ng q), a, b, .bool (Big.ng r), c, d] ∧ NumIn w (.agg #[.bool (Big.ng q), a, b]) q ∧ NumIn w (.agg #[.bool (Big.ng r), c, d]) r
def OneR (w : World) (q : Rat) (e : Ending) (w' : World) : Prop := ∃ v, e = .returned (.tuple #[v, .bool true]) ∧ One w' v q ∧ Below w.heap.size w w'
def TwoR (w : World) (q r : Rat) (e : Ending) (w' : World) : Prop := ∃ v, e = .returned (.tuple #[v, .bool true]) ∧ Two w' v q r ∧ Below w.heap.size w w'
theorem Tryz.infoNum : (Tryz.prog.info? 42).map (fun i => (i.zero, i.size, i.bytes)) = some (some (.agg #[.bool false, .slice none 0 0, .slice none 0 0]), 3, 56) := by kernel_rfl
theorem make_nums (n : Nat) (hn : n ≤ 1000) (cs : Array Value) (hcs : madeCells (Value.agg #[.bool false, .slice none 0 0, .slice none 0 0]).cells (n * 3) = cs) (w : World) :
    (Instr.makeSlice 45 (.int .i64 ((n : Nat) : Int)) (.int .i64 ((n : Nat) : Int))).run Tryz.prog w = .ok (.slice (some ⟨w.heap.size, 0, none⟩) n n) (w.alloc (.cells cs 42)) := by
  obtain ⟨i0, hi, hz0, hz1, hz2⟩ := info_parts Tryz.infoNum
  have hr := run_make (P := Tryz.prog) w 45 42 i0 _ Tryz.underlying45 hi hz0 .i64 .i64 (n : Int) (n : Int) (by omega) (by omega) (by rw [hz2]; omega) (by omega)
  rw [hz1] at hr
  simp only [Int.toNat_natCast] at hr
  rw [hr, hcs]
theorem AtL.no_int {w : World} {g : Nat} {T : TypeId} {cs : Array Value} (h : AtL w g T cs) (hc : ∀ v ∈ cs.toList, ∀ x, v ≠ .int .u64 x) (i : Nat) (x : Int) : w.cell? ⟨g, i, none⟩ ≠ some (.int .u64 x) := by
  rw [cell_of_row w g i _ _ (0, 0) h]
  intro e
  exact hc _ (by rw [Array.mem_toList_iff]; exact Array.mem_of_getElem? e) x rfl
theorem NumIn.only {w w' : World} {v : Value} {q : Rat} {g : Nat} (h : NumIn w v q) (hg : ∀ i x, w.cell? ⟨g, i, none⟩ ≠ some (.int .u64 x)) (ho : Only g w w') : NumIn w' v q := by
  obtain ⟨a, b, e, h1, h2⟩ := h; exact ⟨a, b, e, h1.only hg ho, h2.only hg ho⟩
theorem Only.alloc {g : Nat} {w w' : World} (h : Only g w w') (o : Obj) : Only g w (w'.alloc o) := h.trans (Only.of_below (box1_below w' o))
set_option maxRecDepth 100000 in
set_option maxHeartbeats 4000000 in
theorem read1_any (w : World) (g : Nat) (q : Rat) (h : AtL w g 23 #[.bool (Big.ng q), .string (bst (Big.nu q)), .string (bst (Big.de q))]) (hfq : Fit q) :
    Calls Tryz.prog 15 #[.slice (some ⟨g, 0, none⟩) 1 1] w (OneR w q) := by
  have hmk : ∀ W, (Instr.makeSlice 45 (.int .i64 1) (.int .i64 1)).run Tryz.prog W = .ok (.slice (some ⟨W.heap.size, 0, none⟩) 1 1) (W.alloc (.cells #[.bool false, .slice none 0 0, .slice none 0 0] 42)) := fun W => make_nums 1 (by omega) #[.bool false, .slice none 0 0, .slice none 0 0] (by first | kernel_rfl | (simp [madeCells]; rfl)) W
  have HA := Lib.hid h
  have HRq := Lib.hid (fun W => exRead_ok W q hfq)
  have HN := Lib.hid (AtL.new w 42 #[.bool false, .slice none 0 0, .slice none 0 0])
  have HB := Lib.hid (box1_below w (.cells #[.bool false, .slice none 0 0, .slice none 0 0] 42))
  have hg := h.lt
  have h' := h.alloc' (.cells #[.bool false, .slice none 0 0, .slice none 0 0] 42)
  have c0 := h'.cell 0 rfl
  have c1 := h'.cell 1 rfl
  have c2 := h'.cell 2 rfl
  clear h h' hfq
  go_enter Tryz.func15, Tryz.ntmps15
  go_wp2_with fail
  refine wp_loop_rounds 2 ?_
  rw [rounds_succ]
  go_wp2_with fail
  clear hmk c0 c1 c2
  have HN0 := Lib.hid (HN.out.alloc' (.cells #[.bool (Big.ng q), .string (bst (Big.nu q)), .string (bst (Big.de q))] 23))
  have HB0 := Lib.hid (below_alloc HB.out (Nat.le_refl _) (.cells #[.bool (Big.ng q), .string (bst (Big.nu q)), .string (bst (Big.de q))] 23))
  generalize (w.alloc (.cells #[.bool false, .slice none 0 0, .slice none 0 0] 42)).alloc (.cells #[.bool (Big.ng q), .string (bst (Big.nu q)), .string (bst (Big.de q))] 23) = wa0 at *
  refine (HRq.out _).mono ?_
  rintro e w0 ⟨v0, rfl, hv0, hw0⟩
  obtain ⟨A0, l0, c0, B0, m0, d0, rfl, ha0, hb0⟩ := hv0.is_agg
  have n0 := HN0.out.keep hw0
  have hlt0 := n0.lt
  have k0 := n0.cell 0 rfl; have k1 := n0.cell 1 rfl; have k2 := n0.cell 2 rfl
  have f0 := n0.frozen 0; have f1 := n0.frozen 1; have f2 := n0.frozen 2
  have s0 : AtL (((w0.setCell ⟨w.heap.size, 0, none⟩ (.bool (Big.ng q))).setCell ⟨w.heap.size, 1, none⟩ (.slice A0 l0 c0)).setCell ⟨w.heap.size, 2, none⟩ (.slice B0 m0 d0)) w.heap.size 42 #[.bool (Big.ng q), .slice A0 l0 c0, .slice B0 m0 d0] := ((n0.set 0 (.bool (Big.ng q))).set 1 (.slice A0 l0 c0)).set 2 (.slice B0 m0 d0)
  have o0 := (((Only.refl w.heap.size w0).setCell 0 (.bool (Big.ng q))).setCell 1 (.slice A0 l0 c0)).setCell 2 (.slice B0 m0 d0)
  have ni0 := n0.no_int (by simp)
  have b0 := HB0.out.trans (hw0.mono HB0.out.size)
  have bb0 : Below w.heap.size w (((w0.setCell ⟨w.heap.size, 0, none⟩ (.bool (Big.ng q))).setCell ⟨w.heap.size, 1, none⟩ (.slice A0 l0 c0)).setCell ⟨w.heap.size, 2, none⟩ (.slice B0 m0 d0)) := ((b0.setCell (p := ⟨w.heap.size, 0, none⟩) (Nat.le_refl _) _).setCell (p := ⟨w.heap.size, 1, none⟩) (Nat.le_refl _) _).setCell (p := ⟨w.heap.size, 2, none⟩) (Nat.le_refl _) _
  have HS0 := Lib.hid (s0.alloc' (.cells #[.bool (Big.ng q), .slice A0 l0 c0, .slice B0 m0 d0] 42))
  have HO0 := Lib.hid (And.intro (hv0.only ni0 (o0.alloc (.cells #[.bool (Big.ng q), .slice A0 l0 c0, .slice B0 m0 d0] 42))) (below_alloc bb0 (Nat.le_refl _) (.cells #[.bool (Big.ng q), .slice A0 l0 c0, .slice B0 m0 d0] 42)))
  clear hv0 hw0 ha0 hb0 n0 s0 o0 ni0 b0 bb0
  go_wp2_with fail
  generalize ((((w0.setCell ⟨w.heap.size, 0, none⟩ (.bool (Big.ng q))).setCell ⟨w.heap.size, 1, none⟩ (.slice A0 l0 c0)).setCell ⟨w.heap.size, 2, none⟩ (.slice B0 m0 d0)).alloc (.cells #[.bool (Big.ng q), .slice A0 l0 c0, .slice B0 m0 d0] 42)) = wz0 at HS0 HO0  ⊢
  clear k0 k1 k2 f0 f1 f2
  rw [rounds_succ]
  go_wp2_with fail
  go_ret2
  exact ⟨_, rfl, ⟨_, _, _, rfl, HS0.out, HO0.out.1⟩, HO0.out.2⟩
set_option maxRecDepth 100000 in
set_option maxHeartbeats 4000000 in
theorem read2_any (w : World) (g : Nat) (q r : Rat) (h : AtL w g 23 #[.bool (Big.ng q), .string (bst (Big.nu q)), .string (bst (Big.de q)), .bool (Big.ng r), .string (bst (Big.nu r)), .string (bst (Big.de r))]) (hfq : Fit q) (hfr : Fit r) :
    Calls Tryz.prog 15 #[.slice (some ⟨g, 0, none⟩) 2 2] w (TwoR w q r) := by
  have hmk : ∀ W, (Instr.makeSlice 45 (.int .i64 2) (.int .i64 2)).run Tryz.prog W = .ok (.slice (some ⟨W.heap.size, 0, none⟩) 2 2) (W.alloc (.cells #[.bool false, .slice none 0 0, .slice none 0 0, .bool false, .slice none 0 0, .slice none 0 0] 42)) := fun W => make_nums 2 (by omega) #[.bool false, .slice none 0 0, .slice none 0 0, .bool false, .slice none 0 0, .slice none 0 0] (by first | kernel_rfl | (simp [madeCells]; rfl)) W
  have HA := Lib.hid h
  have HRq := Lib.hid (fun W => exRead_ok W q hfq)
  have HRr := Lib.hid (fun W => exRead_ok W r hfr)
  have HN := Lib.hid (AtL.new w 42 #[.bool false, .slice none 0 0, .slice none 0 0, .bool false, .slice none 0 0, .slice none 0 0])
  have HB := Lib.hid (box1_below w (.cells #[.bool false, .slice none 0 0, .slice none 0 0, .bool false, .slice none 0 0, .slice none 0 0] 42))
  have hg := h.lt
  have h' := h.alloc' (.cells #[.bool false, .slice none 0 0, .slice none 0 0, .bool false, .slice none 0 0, .slice none 0 0] 42)
  have c0 := h'.cell 0 rfl
  have c1 := h'.cell 1 rfl
  have c2 := h'.cell 2 rfl
  clear h h' hfq hfr
  go_enter Tryz.func15, Tryz.ntmps15
  go_wp2_with fail
  refine wp_loop_rounds 3 ?_
  rw [rounds_succ]
  go_wp2_with fail
  clear hmk c0 c1 c2
  have HN0 := Lib.hid (HN.out.alloc' (.cells #[.bool (Big.ng q), .string (bst (Big.nu q)), .string (bst (Big.de q))] 23))
  have HB0 := Lib.hid (below_alloc HB.out (Nat.le_refl _) (.cells #[.bool (Big.ng q), .string (bst (Big.nu q)), .string (bst (Big.de q))] 23))
  generalize (w.alloc (.cells #[.bool false, .slice none 0 0, .slice none 0 0, .bool false, .slice none 0 0, .slice none 0 0] 42)).alloc (.cells #[.bool (Big.ng q), .string (bst (Big.nu q)), .string (bst (Big.de q))] 23) = wa0 at *
  refine (HRq.out _).mono ?_
  rintro e w0 ⟨v0, rfl, hv0, hw0⟩
  obtain ⟨A0, l0, c0, B0, m0, d0, rfl, ha0, hb0⟩ := hv0.is_agg
  have n0 := HN0.out.keep hw0
  have hlt0 := n0.lt
  have k0 := n0.cell 0 rfl; have k1 := n0.cell 1 rfl; have k2 := n0.cell 2 rfl
  have f0 := n0.frozen 0; have f1 := n0.frozen 1; have f2 := n0.frozen 2
  have s0 : AtL (((w0.setCell ⟨w.heap.size, 0, none⟩ (.bool (Big.ng q))).setCell ⟨w.heap.size, 1, none⟩ (.slice A0 l0 c0)).setCell ⟨w.heap.size, 2, none⟩ (.slice B0 m0 d0)) w.heap.size 42 #[.bool (Big.ng q), .slice A0 l0 c0, .slice B0 m0 d0, .bool false, .slice none 0 0, .slice none 0 0] := ((n0.set 0 (.bool (Big.ng q))).set 1 (.slice A0 l0 c0)).set 2 (.slice B0 m0 d0)
  have o0 := (((Only.refl w.heap.size w0).setCell 0 (.bool (Big.ng q))).setCell 1 (.slice A0 l0 c0)).setCell 2 (.slice B0 m0 d0)
  have ni0 := n0.no_int (by simp)
  have b0 := HB0.out.trans (hw0.mono HB0.out.size)
  have bb0 : Below w.heap.size w (((w0.setCell ⟨w.heap.size, 0, none⟩ (.bool (Big.ng q))).setCell ⟨w.heap.size, 1, none⟩ (.slice A0 l0 c0)).setCell ⟨w.heap.size, 2, none⟩ (.slice B0 m0 d0)) := ((b0.setCell (p := ⟨w.heap.size, 0, none⟩) (Nat.le_refl _) _).setCell (p := ⟨w.heap.size, 1, none⟩) (Nat.le_refl _) _).setCell (p := ⟨w.heap.size, 2, none⟩) (Nat.le_refl _) _
  have HS0 := Lib.hid (s0.alloc' (.cells #[.bool (Big.ng q), .slice A0 l0 c0, .slice B0 m0 d0] 42))
  have HO0 := Lib.hid (And.intro (hv0.only ni0 (o0.alloc (.cells #[.bool (Big.ng q), .slice A0 l0 c0, .slice B0 m0 d0] 42))) (below_alloc bb0 (Nat.le_refl _) (.cells #[.bool (Big.ng q), .slice A0 l0 c0, .slice B0 m0 d0] 42)))
  clear hv0 hw0 ha0 hb0 n0 s0 o0 ni0 b0 bb0
  go_wp2_with fail
  generalize ((((w0.setCell ⟨w.heap.size, 0, none⟩ (.bool (Big.ng q))).setCell ⟨w.heap.size, 1, none⟩ (.slice A0 l0 c0)).setCell ⟨w.heap.size, 2, none⟩ (.slice B0 m0 d0)).alloc (.cells #[.bool (Big.ng q), .slice A0 l0 c0, .slice B0 m0 d0] 42)) = wz0 at HS0 HO0  ⊢
  clear k0 k1 k2 f0 f1 f2
  have HQq := Lib.hid HO0.out.1; have HBz0 := Lib.hid HO0.out.2
  have h' := HA.out.keep HBz0.out
  have c0 := h'.cell 3 rfl
  have c1 := h'.cell 4 rfl
  have c2 := h'.cell 5 rfl
  clear h' HO0
  rw [rounds_succ]
  go_wp2_with fail
  clear c0 c1 c2
  have HN1 := Lib.hid (HS0.out.alloc' (.cells #[.bool (Big.ng r), .string (bst (Big.nu r)), .string (bst (Big.de r))] 23))
  have HB1 := Lib.hid (below_alloc HBz0.out (Nat.le_refl _) (.cells #[.bool (Big.ng r), .string (bst (Big.nu r)), .string (bst (Big.de r))] 23))
  have HQq1 := Lib.hid (HQq.out.keep (box1_below _ (.cells #[.bool (Big.ng r), .string (bst (Big.nu r)), .string (bst (Big.de r))] 23)))
  generalize wz0.alloc (.cells #[.bool (Big.ng r), .string (bst (Big.nu r)), .string (bst (Big.de r))] 23) = wa1 at *
  refine (HRr.out _).mono ?_
  rintro e w1 ⟨v1, rfl, hv1, hw1⟩
  obtain ⟨A1, l1, c1, B1, m1, d1, rfl, ha1, hb1⟩ := hv1.is_agg
  have n1 := HN1.out.keep hw1
  have hlt1 := n1.lt
  have k0 := n1.cell 3 rfl; have k1 := n1.cell 4 rfl; have k2 := n1.cell 5 rfl
  have f0 := n1.frozen 3; have f1 := n1.frozen 4; have f2 := n1.frozen 5
  have s1 : AtL (((w1.setCell ⟨w.heap.size, 3, none⟩ (.bool (Big.ng r))).setCell ⟨w.heap.size, 4, none⟩ (.slice A1 l1 c1)).setCell ⟨w.heap.size, 5, none⟩ (.slice B1 m1 d1)) w.heap.size 42 #[.bool (Big.ng q), .slice A0 l0 c0, .slice B0 m0 d0, .bool (Big.ng r), .slice A1 l1 c1, .slice B1 m1 d1] := ((n1.set 3 (.bool (Big.ng r))).set 4 (.slice A1 l1 c1)).set 5 (.slice B1 m1 d1)
  have o1 := (((Only.refl w.heap.size w1).setCell 3 (.bool (Big.ng r))).setCell 4 (.slice A1 l1 c1)).setCell 5 (.slice B1 m1 d1)
  have ni1 := n1.no_int (by simp)
  have b1 := HB1.out.trans (hw1.mono HB1.out.size)
  have bb1 : Below w.heap.size w (((w1.setCell ⟨w.heap.size, 3, none⟩ (.bool (Big.ng r))).setCell ⟨w.heap.size, 4, none⟩ (.slice A1 l1 c1)).setCell ⟨w.heap.size, 5, none⟩ (.slice B1 m1 d1)) := ((b1.setCell (p := ⟨w.heap.size, 3, none⟩) (Nat.le_refl _) _).setCell (p := ⟨w.heap.size, 4, none⟩) (Nat.le_refl _) _).setCell (p := ⟨w.heap.size, 5, none⟩) (Nat.le_refl _) _
  have HS1 := Lib.hid (s1.alloc' (.cells #[.bool (Big.ng r), .slice A1 l1 c1, .slice B1 m1 d1] 42))
  have HO1 := Lib.hid (And.intro (hv1.only ni1 (o1.alloc (.cells #[.bool (Big.ng r), .slice A1 l1 c1, .slice B1 m1 d1] 42))) (below_alloc bb1 (Nat.le_refl _) (.cells #[.bool (Big.ng r), .slice A1 l1 c1, .slice B1 m1 d1] 42)))
  have HQqX := Lib.hid ((HQq1.out.keep hw1).only ni1 (o1.alloc (.cells #[.bool (Big.ng r), .slice A1 l1 c1, .slice B1 m1 d1] 42)))
  clear hv1 hw1 ha1 hb1 n1 s1 o1 ni1 b1 bb1
  go_wp2_with fail
  generalize ((((w1.setCell ⟨w.heap.size, 3, none⟩ (.bool (Big.ng r))).setCell ⟨w.heap.size, 4, none⟩ (.slice A1 l1 c1)).setCell ⟨w.heap.size, 5, none⟩ (.slice B1 m1 d1)).alloc (.cells #[.bool (Big.ng r), .slice A1 l1 c1, .slice B1 m1 d1] 42)) = wz1 at HS1 HO1 HQqX ⊢
  clear k0 k1 k2 f0 f1 f2
  rw [rounds_succ]
  go_wp2_with fail
  go_ret2
  exact ⟨_, rfl, ⟨_, _, _, _, _, rfl, HS1.out, HQqX.out, HO1.out.1⟩, HO1.out.2⟩
def NumE (b w : World) (z : Rat) (e : Ending) (w' : World) : Prop := ∃ v', e = .returned (.tuple #[v', .int .i64 0]) ∧ NumIn w' v' z ∧ Below b.heap.size b w' ∧ Below w.heap.size w w'
theorem cmpB {P : Program} {f : FuncId} {args : Array Value} {b W : World} {v : Value} (h : Below b.heap.size b W) (c : Calls P f args W fun e w' => e = .returned v ∧ Below W.heap.size W w') :
    Calls P f args W fun e w' => e = .returned v ∧ Below b.heap.size b w' :=
  c.mono fun _ _ ⟨h1, h2⟩ => ⟨h1, h.trans (h2.mono h.size)⟩
set_option maxRecDepth 100000 in
set_option maxHeartbeats 4000000 in
theorem raCmp_any (w : World) (q r : Rat) (hq : Fit q) (hr : Fit r) :
    Calls Tryz.prog 8 #[.agg #[.bool (Big.ng q), .string (bst (Big.nu q)), .string (bst (Big.de q))], .agg #[.bool (Big.ng r), .string (bst (Big.nu r)), .string (bst (Big.de r))]] w (Ret2 w (.int .i64 (Big.cmpQ q r)) 0) := by
  have HRD := Lib.hid (fun W g (h : AtL W g 23 #[.bool (Big.ng q), .string (bst (Big.nu q)), .string (bst (Big.de q)), .bool (Big.ng r), .string (bst (Big.nu r)), .string (bst (Big.de r))]) => read2_any W g q r h hq hr)
  have CC := Lib.hid (fun b W v u (h : NumIn W v q) (i : NumIn W u r) (hb : Below b.heap.size b W) => cmpB hb (exCmp_any W v u q r 64 h i hq.sm hr.sm (by omega)))
  have HB1 := Lib.hid (below_alloc (below_alloc (box1_below w (.cells #[.bool (Big.ng q), .string (bst (Big.nu q)), .string (bst (Big.de q))] 23)) (Nat.le_refl _) (.cells #[.bool (Big.ng r), .string (bst (Big.nu r)), .string (bst (Big.de r))] 23)) (Nat.le_refl _) (.cells #[.bool (Big.ng q), .string (bst (Big.nu q)), .string (bst (Big.de q)), .bool (Big.ng r), .string (bst (Big.nu r)), .string (bst (Big.de r))] 23))
  have HN1 := AtL.new ((w.alloc (.cells #[.bool (Big.ng q), .string (bst (Big.nu q)), .string (bst (Big.de q))] 23)).alloc (.cells #[.bool (Big.ng r), .string (bst (Big.nu r)), .string (bst (Big.de r))] 23)) 23 #[.bool (Big.ng q), .string (bst (Big.nu q)), .string (bst (Big.de q)), .bool (Big.ng r), .string (bst (Big.nu r)), .string (bst (Big.de r))]
  rw [alloc_size, alloc_size] at HN1
  have HN1 := Lib.hid HN1
  clear hq hr
  obtain ⟨Z, hZ⟩ : ∃ Z, Big.cmpQ q r = Z := ⟨_, rfl⟩
  rw [hZ] at CC ⊢
  clear hZ
  go_enter Tryz.func8, Tryz.ntmps8
  go_wp2_with fail
  refine (HRD.out _ _ HN1.out).mono ?_
  generalize ((w.alloc (.cells #[.bool (Big.ng q), .string (bst (Big.nu q)), .string (bst (Big.de q))] 23)).alloc (.cells #[.bool (Big.ng r), .string (bst (Big.nu r)), .string (bst (Big.de r))] 23)).alloc (.cells #[.bool (Big.ng q), .string (bst (Big.nu q)), .string (bst (Big.de q)), .bool (Big.ng r), .string (bst (Big.nu r)), .string (bst (Big.de r))] 23) = wa at *
  rintro e w1 ⟨v1, rfl, ⟨g, a, b, c, d, rfl, hat, hnq, hnr⟩, hw1⟩
  have HB2 := Lib.hid (HB1.out.trans (hw1.mono HB1.out.size))
  obtain ⟨A, l, cc, B, m, dd, e1, -, -⟩ := hnq.is_agg
  obtain ⟨A2, l2, cc2, B2, m2, dd2, e2, -, -⟩ := hnr.is_agg
  simp only [Value.agg.injEq] at e1 e2
  have e1a : a = .slice A l cc := by have := congrArg (fun z : Array Value => z[1]?) e1; simpa using this
  have e1b : b = .slice B m dd := by have := congrArg (fun z : Array Value => z[2]?) e1; simpa using this
  have e2a : c = .slice A2 l2 cc2 := by have := congrArg (fun z : Array Value => z[1]?) e2; simpa using this
  have e2b : d = .slice B2 m2 dd2 := by have := congrArg (fun z : Array Value => z[2]?) e2; simpa using this
  subst e1a e1b e2a e2b
  have KX := Lib.hid (fun W (h : Below w1.heap.size w1 W) => And.intro ((hat.keep h).cell 0 rfl) (And.intro ((hat.keep h).cell 1 rfl) (And.intro ((hat.keep h).cell 2 rfl) (And.intro ((hat.keep h).cell 3 rfl) (And.intro ((hat.keep h).cell 4 rfl) ((hat.keep h).cell 5 rfl))))))
  have CF := Lib.hid (fun W (h : Below w1.heap.size w1 W) => CC.out w1 W _ _ (hnq.keep h) (hnr.keep h) h)
  clear e1 e2 hat hnq hnr hw1 HB1 HN1 HRD CC
  go_wp2_with fail
  go_region_held3 (fun w' => w'.cell? ⟨g, 0, none⟩ = some (.bool (Big.ng q)) ∧ w'.cell? ⟨g, 1, none⟩ = some (.slice A l cc) ∧ w'.cell? ⟨g, 2, none⟩ = some (.slice B m dd) ∧ w'.cell? ⟨g, 3, none⟩ = some (.bool (Big.ng r)) ∧ w'.cell? ⟨g, 4, none⟩ = some (.slice A2 l2 cc2) ∧ w'.cell? ⟨g, 5, none⟩ = some (.slice B2 m2 dd2))
    (exact KX.out _ (by first | assumption | exact Below.refl _ _ | exact below_drew (Below.refl _ _) | exact below_drew (by assumption)))
    (first
      | (go_at_call 23; (with_reducible refine (CF.out _ (by first | assumption | exact Below.refl _ _ | exact below_drew (Below.refl _ _) | exact below_drew (by assumption))).mono ?_); rintro e w3 ⟨rfl, hw3⟩)
      | fail)
  have HB3 := Lib.hid (HB2.out.trans (hw3.mono HB2.out.size))
  clear hw3
  go_wp2_with fail
  go_ret2
  exact ⟨rfl, HB3.out⟩
set_option maxRecDepth 100000 in
set_option maxHeartbeats 4000000 in
theorem exFloor_any (w : World) (vx : Value) (q : Rat) (k : Nat) (hx : NumIn w vx q) (sx : Sm k q) (hk : k ≤ 10000000) :
    Calls Tryz.prog 22 #[vx] w (Num1 w (Big.flQ q)) := by
  have SX := Lib.hid sx
  obtain ⟨A, l, c, A2, l2, c2, rfl, hx1, hx2⟩ := hx.is_agg
  have HX := Lib.hid (And.intro hx1 hx2)
  have HP := Lib.hid (Big.flQ_parts q)
  obtain ⟨X0, R0, B0⟩ := boxed2 w 42 42 (.bool (Big.ng q)) (.slice A l c) (.slice A2 l2 c2) (.bool false) (.slice none 0 0) (.slice none 0 0)
  have HX0 := Lib.hid X0; have HR0 := Lib.hid R0; have HB0 := Lib.hid B0
  clear hx hx1 hx2 sx X0 R0 B0
  generalize Big.flQ q = F at *
  obtain ⟨nq, hnq⟩ : ∃ z, Big.ng q = z := ⟨_, rfl⟩
  rw [hnq] at HP HX0 HR0 HB0 ⊢
  clear hnq
  go_enter Tryz.func22, Tryz.ntmps22
  go_wp2_with fail
  generalize (w.alloc (.cells #[.bool nq, .slice A l c, .slice A2 l2 c2] 42)).alloc (.cells #[.bool false, .slice none 0 0, .slice none 0 0] 42) = w0 at *
  refine (of_num w0 1 M64_gt).mono ?_
  rintro e w1 ⟨v1, rfl, hv1, hw1⟩
  obtain ⟨A8, l8, c8, rfl, -⟩ := hv1.is_slice
  have HV1 := Lib.hid hv1
  have HB1 := Lib.hid (HB0.out.trans (hw1.mono HB0.out.size)); have HX1 := Lib.hid (HX0.out.keep hw1); have HR1 := Lib.hid (HR0.out.keep hw1)
  clear hv1 hw1 HX0 HR0
  have x0 := HX1.out.c0; have x1 := HX1.out.c1; have x2 := HX1.out.c2
  go_wp2_with fail
  refine (quoRem_num w1 _ _ _ _ k (HX.out.1.keep HB1.out) (HX.out.2.keep HB1.out) SX.out.nu (by omega)).mono ?_
  rintro e w2 ⟨v2, v3, rfl, hv2, hv3, hw2⟩
  obtain ⟨A3, l3, c3, rfl, hl3⟩ := hv3.is_slice
  obtain ⟨A4, l4, c4, rfl, -⟩ := hv2.is_slice
  have HV2 := Lib.hid (And.intro hv2 (HV1.out.keep hw2))
  have HB2 := Lib.hid (HB1.out.trans (hw2.mono HB1.out.size)); have HX2 := Lib.hid (HX1.out.keep hw2); have HR2 := Lib.hid (HR1.out.keep hw2)
  have HL3 := Lib.hid hl3
  clear hv2 hv3 hw2 hl3 x0 x1 x2 HX1 HR1 HV1 HB1
  have x0 := HX2.out.c0
  cases nq
  · have e1 : Big.nu F = Big.nu q / Big.de q := by rw [HP.out.2.1, if_neg (by simp)]; rfl
    have e2 := HP.out.2.2
    have h1 := HV2.out.1; have h2 := HV2.out.2
    rw [← e1] at h1; rw [← e2] at h2
    have HHH := Lib.hid (And.intro h1 h2)
    clear e1 e2 h1 h2
    have RR := HR2.out
    have k0 := RR.c0; have k1 := RR.c1; have k2 := RR.c2; have f0 := RR.frozen 0; have f1 := RR.frozen 1; have f2 := RR.frozen 2
    go_wp2_with fail
    obtain ⟨D1, D2, D3⟩ := num_done (bb := false) (show NumRes w2 _ _ from RR) HB2.out (by omega) HHH.out.1 HHH.out.2 HP.out.1.symm
    have HD1 := Lib.hid D1; have HD2 := Lib.hid D2; have HD3 := Lib.hid D3
    clear D1 D2 D3 k0 k1 k2 f0 f1 f2 RR
    generalize (((w2.setCell ⟨w.heap.size + 1, 0, none⟩ (.bool (false))).setCell ⟨w.heap.size + 1, 1, none⟩ (.slice A4 l4 c4)).setCell ⟨w.heap.size + 1, 2, none⟩ (.slice A8 l8 c8)) = wz at HD1 HD2 HD3 ⊢
    have r0 := HD1.out.c0; have r1 := HD1.out.c1; have r2 := HD1.out.c2
    exact bodyPost_ret (v := .agg #[.bool (false), (.slice A4 l4 c4), (.slice A8 l8 c8)]) (by simp [results, Tryz.results22, go_sem, r0, r1, r2]) rfl ⟨_, rfl, HD2.out, HD3.out⟩
  · rcases Nat.eq_zero_or_pos l3 with hl0 | hl0
    · have e0 := HL3.out.1 hl0
      subst hl0
      have e1 : Big.nu F = Big.nu q / Big.de q := by rw [HP.out.2.1, if_neg (by omega)]; rfl
      have e2 := HP.out.2.2
      have h1 := HV2.out.1; have h2 := HV2.out.2
      rw [← e1] at h1; rw [← e2] at h2
      have HHH := Lib.hid (And.intro h1 h2)
      clear e0 e1 e2 h1 h2
      have RR := HR2.out
      have k0 := RR.c0; have k1 := RR.c1; have k2 := RR.c2; have f0 := RR.frozen 0; have f1 := RR.frozen 1; have f2 := RR.frozen 2
      go_wp2_with fail
      obtain ⟨D1, D2, D3⟩ := num_done (bb := true) (show NumRes w2 _ _ from RR) HB2.out (by omega) HHH.out.1 HHH.out.2 HP.out.1.symm
      have HD1 := Lib.hid D1; have HD2 := Lib.hid D2; have HD3 := Lib.hid D3
      clear D1 D2 D3 k0 k1 k2 f0 f1 f2 RR
      generalize (((w2.setCell ⟨w.heap.size + 1, 0, none⟩ (.bool (true))).setCell ⟨w.heap.size + 1, 1, none⟩ (.slice A4 l4 c4)).setCell ⟨w.heap.size + 1, 2, none⟩ (.slice A8 l8 c8)) = wz at HD1 HD2 HD3 ⊢
      have r0 := HD1.out.c0; have r1 := HD1.out.c1; have r2 := HD1.out.c2
      exact bodyPost_ret (v := .agg #[.bool (true), (.slice A4 l4 c4), (.slice A8 l8 c8)]) (by simp [results, Tryz.results22, go_sem, r0, r1, r2]) rfl ⟨_, rfl, HD2.out, HD3.out⟩
    · have t4 : ((l3 : Int) > 0) := by omega
      have e0 : 0 < Big.nu q % Big.de q := by
        rcases Nat.eq_zero_or_pos (Big.nu q % Big.de q) with e | e
        · have := HL3.out.2 e; omega
        · exact e
      have e1 : Big.nu F = Big.nu q / Big.de q + 1 := by rw [HP.out.2.1, if_pos ⟨rfl, e0⟩]
      have e2 := HP.out.2.2
      have CA := Lib.hid (add_num w2 _ _ _ _ k 1 HV2.out.1 HV2.out.2 (SX.out.nu.le (Nat.div_le_self _ _)) sz_one (by omega) (by omega))
      rw [← e1] at CA
      have HE2 := Lib.hid e2
      clear e0 e1 e2
      go_wp2_with fail
      refine CA.out.mono ?_
      rintro e w3 ⟨v5, rfl, hv5, hw3⟩
      obtain ⟨A5, l5, c5, rfl, -⟩ := hv5.is_slice
      have h2 := HV2.out.2.keep hw3
      rw [← HE2.out] at h2
      have HHH := Lib.hid (And.intro hv5 h2)
      have HB3 := Lib.hid (HB2.out.trans (hw3.mono HB2.out.size)); have HR3 := Lib.hid (HR2.out.keep hw3)
      have x0' := (HX2.out.keep hw3).c0
      clear hv5 h2 hw3 x0 HR2
      have RR := HR3.out
      have k0 := RR.c0; have k1 := RR.c1; have k2 := RR.c2; have f0 := RR.frozen 0; have f1 := RR.frozen 1; have f2 := RR.frozen 2
      go_wp2_with fail
      obtain ⟨D1, D2, D3⟩ := num_done (bb := true) (show NumRes w3 _ _ from RR) HB3.out (by omega) HHH.out.1 HHH.out.2 HP.out.1.symm
      have HD1 := Lib.hid D1; have HD2 := Lib.hid D2; have HD3 := Lib.hid D3
      clear D1 D2 D3 k0 k1 k2 f0 f1 f2 RR
      generalize (((w3.setCell ⟨w.heap.size + 1, 0, none⟩ (.bool (true))).setCell ⟨w.heap.size + 1, 1, none⟩ (.slice A5 l5 c5)).setCell ⟨w.heap.size + 1, 2, none⟩ (.slice A8 l8 c8)) = wz at HD1 HD2 HD3 ⊢
      have r0 := HD1.out.c0; have r1 := HD1.out.c1; have r2 := HD1.out.c2
      exact bodyPost_ret (v := .agg #[.bool (true), (.slice A5 l5 c5), (.slice A8 l8 c8)]) (by simp [results, Tryz.results22, go_sem, r0, r1, r2]) rfl ⟨_, rfl, HD2.out, HD3.out⟩
set_option maxRecDepth 100000 in
set_option maxHeartbeats 4000000 in
theorem raFloor_fit (w : World) (q : Rat) (hq : Fit q) (hz : Fit (Big.flQ q)) :
    Calls Tryz.prog 7 #[.agg #[.bool (Big.ng q), .string (bst (Big.nu q)), .string (bst (Big.de q))]] w (Ret2 w (fracV (Big.flQ q)) 0) := by
  have HRD := Lib.hid (fun W g (h : AtL W g 23 #[.bool (Big.ng q), .string (bst (Big.nu q)), .string (bst (Big.de q))]) => read1_any W g q h hq)
  have CF := Lib.hid (fun W v (h : NumIn W v q) => exFloor_any W v q 64 h hq.sm (by omega))
  have CA := Lib.hid (fun W v (h : NumIn W v (Big.flQ q)) => answer_fit W v _ 64 h hz.sm (by omega) hz)
  obtain ⟨X0, R0, B0⟩ := boxed2 w 23 23 (.bool (Big.ng q)) (.string (bst (Big.nu q))) (.string (bst (Big.de q))) (.bool false) (.string ⟨#[]⟩) (.string ⟨#[]⟩)
  have HR0 := Lib.hid (R0.alloc' (.cells #[.bool (Big.ng q), .string (bst (Big.nu q)), .string (bst (Big.de q))] 23)); have HB0 := Lib.hid (below_alloc B0 (Nat.le_refl _) (.cells #[.bool (Big.ng q), .string (bst (Big.nu q)), .string (bst (Big.de q))] 23))
  have HN1 := AtL.new ((w.alloc (.cells #[.bool (Big.ng q), .string (bst (Big.nu q)), .string (bst (Big.de q))] 23)).alloc (.cells #[.bool false, .string ⟨#[]⟩, .string ⟨#[]⟩] 23)) 23 #[.bool (Big.ng q), .string (bst (Big.nu q)), .string (bst (Big.de q))]
  rw [alloc_size, alloc_size] at HN1
  have HN1 := Lib.hid HN1
  clear hq hz X0 R0 B0
  obtain ⟨Z, hZ⟩ : ∃ Z, Big.flQ q = Z := ⟨_, rfl⟩
  rw [hZ] at CF CA ⊢
  clear hZ
  go_enter Tryz.func7, Tryz.ntmps7
  go_wp2_with fail
  refine (HRD.out _ _ HN1.out).mono ?_
  generalize ((w.alloc (.cells #[.bool (Big.ng q), .string (bst (Big.nu q)), .string (bst (Big.de q))] 23)).alloc (.cells #[.bool false, .string ⟨#[]⟩, .string ⟨#[]⟩] 23)).alloc (.cells #[.bool (Big.ng q), .string (bst (Big.nu q)), .string (bst (Big.de q))] 23) = wa at *
  rintro e w1 ⟨v1, rfl, ⟨g, a, b, rfl, hat, hnq⟩, hw1⟩
  have HB2 := Lib.hid (HB0.out.trans (hw1.mono HB0.out.size)); have HR2 := Lib.hid (HR0.out.keep hw1)
  obtain ⟨A, l, cc, B, m, dd, e1, -, -⟩ := hnq.is_agg
  simp only [Value.agg.injEq] at e1
  have e1a : a = .slice A l cc := by have := congrArg (fun z : Array Value => z[1]?) e1; simpa using this
  have e1b : b = .slice B m dd := by have := congrArg (fun z : Array Value => z[2]?) e1; simpa using this
  subst e1a e1b
  have HAT := Lib.hid hat; have HNQ := Lib.hid hnq
  clear e1 hat hnq hw1 HN1 HRD HB0 HR0
  have c0 := HAT.out.cell 0 rfl; have c1 := HAT.out.cell 1 rfl; have c2 := HAT.out.cell 2 rfl
  go_wp2_with fail
  refine (CF.out _ _ HNQ.out).mono ?_
  rintro e w3 ⟨v3, rfl, hv3, hw3⟩
  have HB3 := Lib.hid (HB2.out.trans (hw3.mono HB2.out.size)); have HR3 := Lib.hid (HR2.out.keep hw3)
  clear hw3 c0 c1 c2 HR2
  go_wp2_with fail
  refine (CA.out _ _ hv3).mono ?_
  rintro e w4 ⟨rfl, hw4⟩
  unfold fracV
  have R4 := HR3.out.keep hw4
  have HD := Lib.hid (At3.put R4 (.bool (Big.ng Z)) (.string (bst (Big.nu Z))) (.string (bst (Big.de Z))))
  have HE := Lib.hid (put_below (HB3.out.trans (hw4.mono HB3.out.size)) (show w.heap.size ≤ w.heap.size + 1 by omega) (.bool (Big.ng Z)) (.string (bst (Big.nu Z))) (.string (bst (Big.de Z))))
  have k0 := R4.c0; have k1 := R4.c1; have k2 := R4.c2; have f0 := R4.frozen 0; have f1 := R4.frozen 1; have f2 := R4.frozen 2
  clear R4 hw4 hv3 HR3 HB3 CF CA
  go_wp2_with fail
  generalize (((w4.setCell ⟨w.heap.size + 1, 0, none⟩ (.bool (Big.ng Z))).setCell ⟨w.heap.size + 1, 1, none⟩ (.string (bst (Big.nu Z)))).setCell ⟨w.heap.size + 1, 2, none⟩ (.string (bst (Big.de Z)))) = wz at HD HE ⊢
  clear k0 k1 k2 f0 f1 f2
  have r0 := HD.out.c0; have r1 := HD.out.c1; have r2 := HD.out.c2
  exact bodyPost_ret (v := .tuple #[.agg #[.bool (Big.ng Z), .string (bst (Big.nu Z)), .string (bst (Big.de Z))], .int .i64 0]) (by simp [results, Tryz.results7, go_sem, r0, r1, r2]) rfl ⟨rfl, HE.out⟩
end Go.Proofs.YtfenjkgbedbleaaGreatDoor
namespace Go.Proofs.YtfenjkgbedbleaaGreatDoor
open Go.RowKit Go.Sort
def Tab (w : World) : Prop := Lib.TabIs Tryz.prog w "internal/strconv.uint64pow10" .u64 Lib.pow10Tab
theorem Tab.keep {w w' : World} (h : Tab w) (hb : Below w.heap.size w w') : Tab w' := Lib.tabBelow_of_tabIs h w' hb
set_option maxHeartbeats 4000000 in
set_option maxRecDepth 100000 in
theorem intFormatUint (u : Nat) (hu : u < 18446744073709551616) (w : World) (htab : Tab w) :
    Calls Tryz.prog 79 #[.int .u64 (u : Int), .int .i64 10] w fun e w' => e = .returned (.string ⟨(Lib.decDigits u).toArray⟩) ∧ Below w.heap.size w w' := by
  by_cases hs : u < 100
  · have C := Lib.hid (fun W => Tryz.internal_strconv_small u hs W)
    have i1 : (u : Int) < 100 := by omega
    go_enter Tryz.func79, Tryz.ntmps79
    go_wp2_with (go_at_call 75; refine (C.out _).mono ?_; rintro e w' ⟨rfl, rfl⟩)
    go_ret
    exact ⟨rfl, Below.refl _ _⟩
  · have hu1 : 1 ≤ u := by omega
    have i1 : ¬ (u : Int) < 100 := by omega
    have hnd20 : Lib.nDigits u ≤ 20 := by have := Lib.numDigits_eq u hu1 hu; split at this <;> omega
    have hal : Tryz.prog.arrayLen 107 = 24 := by kernel_rfl
    have hsl : ∀ W, (Instr.sliceAt 107 (.pointer (some ⟨w.heap.size, 0, none⟩)) none (some (.int .i64 (Lib.nDigits u : Int))) none).run Tryz.prog W = .ok (.slice (some ⟨w.heap.size, 0, none⟩) (Lib.nDigits u) 24) W := fun W => by
      rw [run_sliceAt_array_h W 107 ⟨w.heap.size, 0, none⟩ (by simp [Program.arrayLen, Program.elem, Tryz.underlying107]) .i64 (Lib.nDigits u : Int) (by omega) (by rw [hal]; omega)]
      go_simp
    have hH0 := Lib.holds_zero0 w 107 (Lib.nDigits u) (by omega)
    have hfmt := Tryz.internal_strconv_formatBase10 w.heap.size 0 24 u (Array.replicate (Lib.nDigits u) 0) (w.alloc (.cells Lib.zeros24 107)) hH0 (by rw [Array.size_replicate]; exact Lib.lt_pow_nDigits u) hu (by rw [Array.size_replicate]; omega)
    rw [Array.size_replicate] at hfmt
    have HH0 := Lib.hid hH0
    have HT := Lib.hid htab
    have HF := Lib.hid hfmt
    clear hH0 hal htab hfmt
    go_enter Tryz.func79, Tryz.ntmps79
    go_wp2_with (go_at_call 76; refine (Tryz.internal_strconv_numDigits u hu1 hu _ (Lib.tabIs_alloc HT.out _)).mono ?_; rintro e w' ⟨rfl, rfl⟩)
    refine HF.out.mono ?_
    rintro e w' ⟨rfl, k, v', dk, rfl, hF⟩
    have hcv : (convert 68 9 (.slice (some ⟨w.heap.size, 0, none⟩) (Lib.nDigits u) 24)).run Tryz.prog ((putRow (fun (b : UInt8) => Value.int .u8 (b.toNat : Int)) (w.alloc (.cells Lib.zeros24 107)) w.heap.size 0 dk).drewN k) = .ok (.string ⟨(Lib.decDigits u).toArray⟩) ((putRow (fun (b : UInt8) => Value.int .u8 (b.toNat : Int)) (w.alloc (.cells Lib.zeros24 107)) w.heap.size 0 dk).drewN k) := by
      have h := run_convert_bytes_back (P := Tryz.prog) ((putRow (fun (b : UInt8) => Value.int .u8 (b.toNat : Int)) (w.alloc (.cells Lib.zeros24 107)) w.heap.size 0 dk).drewN k) 68 9 5 ⟨w.heap.size, 0, none⟩ 24 (Lib.decDigits u) Tryz.underlying68 Tryz.underlying5 Tryz.underlying9 (fun j hj => by
        rw [Lib.row_is_numeral hF j hj, Lib.add_plain, World.cell?_drewN]
        exact cell?_putRow (fun (b : UInt8) => Value.int .u8 (b.toNat : Int)) _ w.heap.size 0 _ dk HH0.out (by rw [hF.size, Array.size_replicate]) j (by rw [hF.size]; rw [Lib.decDigits_length] at hj; exact hj))
      rw [Lib.decDigits_length] at h
      exact h
    obtain ⟨os, eo⟩ := Lib.fin_at w (.cells Lib.zeros24 107) dk k 0
    have HBel := Lib.hid (show Below w.heap.size w ((putRow (fun (b : UInt8) => Value.int .u8 (b.toNat : Int)) (w.alloc (.cells Lib.zeros24 107)) w.heap.size 0 dk).drewN k) by rw [eo]; exact Lib.below_grow w.heap.size w (Nat.le_refl _) k os)
    clear eo hF
    go_wp2_with fail
    go_ret
    exact ⟨rfl, HBel.out⟩
theorem formatUint_any (u : Nat) (hu : u < 18446744073709551616) (w : World) (htab : Tab w) :
    Calls Tryz.prog 57 #[.int .u64 (u : Int), .int .i64 10] w fun e w' => e = .returned (.string ⟨(Lib.decDigits u).toArray⟩) ∧ Below w.heap.size w w' := by
  have C := Lib.hid (fun W h => intFormatUint u hu W h)
  have HT := Lib.hid htab
  clear htab hu
  go_enter Tryz.func57, Tryz.ntmps57
  go_wp2_with fail
  refine (C.out _ HT.out).mono ?_
  rintro e w' ⟨rfl, hb⟩
  go_wp2_with fail
  go_ret
  exact ⟨rfl, hb⟩
theorem appendUint_any (B n u : Nat) (hu : u < 18446744073709551616) (sv : Value) (xs : List Value) (w : World) (hown : w.ownsRow B 5 1 sv n xs) (hBw : B ≤ w.heap.size) (hlim : n + 20 ≤ 140737488355328) (htab : Tab w) :
    Calls Tryz.prog 36 #[sv, .int .u64 (u : Int), .int .i64 10] w fun e w' => ∃ v', e = .returned v' ∧ w'.ownsRow B 5 1 v' (n + (Lib.decDigits u).length) (xs ++ Lib.byteCells (Lib.decDigits u)) ∧ Below B w w' := by
  have C := Lib.hid (Tryz.internal_strconv_AppendUint_10 B n u hu sv xs w hown hBw hlim htab)
  clear hown hBw hlim htab hu
  go_enter Tryz.func36, Tryz.ntmps36
  go_wp2_with fail
  refine C.out.mono ?_
  rintro e w' ⟨v', rfl, h1, h2, -⟩
  go_wp2_with fail
  go_ret
  exact ⟨_, rfl, h1, h2⟩
end Go.Proofs.YtfenjkgbedbleaaGreatDoor
namespace Go.Proofs.YtfenjkgbedbleaaGreatDoor.Big
open Go
def pad : Nat → Nat → List UInt8
  | 0, _ => []
  | k + 1, r => pad k (r / 10) ++ [UInt8.ofNat (48 + r % 10)]
theorem pad_length : ∀ (k r : Nat), (pad k r).length = k
  | 0, _ => rfl
  | k + 1, r => by simp [pad, pad_length k]
theorem dec_big {u : Nat} (h : ¬ u < 10) : Lib.decDigits u = Lib.decDigits (u / 10) ++ [UInt8.ofNat (48 + u % 10)] := by
  rw [Lib.decDigits, dif_neg h]
theorem dec_pad : ∀ (k q r : Nat), 1 ≤ q → r < 10 ^ k → Lib.decDigits (q * 10 ^ k + r) = Lib.decDigits q ++ pad k r
  | 0, q, r, _, hr => by
    have : r = 0 := by simpa using hr
    subst this; simp [pad]
  | k + 1, q, r, hq, hr => by
    rw [Nat.pow_succ] at hr
    have hk : 1 ≤ 10 ^ k := Nat.one_le_pow _ _ (by decide)
    have e1 : (q * 10 ^ (k + 1) + r) / 10 = q * 10 ^ k + r / 10 := by
      rw [Nat.pow_succ, ← Nat.mul_assoc]; omega
    have e2 : (q * 10 ^ (k + 1) + r) % 10 = r % 10 := by
      rw [Nat.pow_succ, ← Nat.mul_assoc]; omega
    have e3 : ¬ (q * 10 ^ (k + 1) + r < 10) := by
      have : 1 * 10 ^ k ≤ q * 10 ^ k := Nat.mul_le_mul_right _ hq
      rw [Nat.pow_succ, ← Nat.mul_assoc]; omega
    rw [dec_big e3, e1, e2, dec_pad k q (r / 10) hq (by omega), pad, List.append_assoc]
theorem pad_nought (k : Nat) : pad k 0 = List.replicate k 48 := by
  induction k with
  | zero => rfl
  | succ k ih => rw [pad, ih, List.replicate_succ']; rfl
theorem pad_dec : ∀ (k r : Nat), 1 ≤ k → r < 10 ^ k → List.replicate (k - (Lib.decDigits r).length) 48 ++ Lib.decDigits r = pad k r
  | 0, _, h, _ => absurd h (by omega)
  | k + 1, r, _, hr => by
    by_cases h10 : r < 10
    · rw [Lib.decDigits_one h10, pad, Nat.div_eq_of_lt h10, pad_nought, Nat.mod_eq_of_lt h10]; simp
    · rw [dec_big h10, pad]
      have hr' : r / 10 < 10 ^ k := by rw [Nat.pow_succ] at hr; omega
      have hk : 1 ≤ k := by
        rcases k with _ | k
        · simp at hr'; omega
        · omega
      rw [← pad_dec k (r / 10) hk hr', List.length_append, List.append_assoc]
      have e : k + 1 - ((Lib.decDigits (r / 10)).length + [UInt8.ofNat (48 + r % 10)].length) = k - (Lib.decDigits (r / 10)).length := by
        rw [List.length_singleton]; omega
      rw [e]
theorem rev_ind {α : Type} {p : List α → Prop} (h0 : p []) (h1 : ∀ l c, p l → p (l ++ [c])) (l : List α) : p l := by
  obtain ⟨n, hn⟩ : ∃ n, l.length = n := ⟨_, rfl⟩
  induction n generalizing l with
  | zero => rw [List.length_eq_zero_iff.1 hn]; exact h0
  | succ n ih =>
    have hne : l ≠ [] := by intro e; rw [e] at hn; simp at hn
    rw [← List.dropLast_concat_getLast hne]
    exact h1 _ _ (ih _ (by rw [List.length_dropLast, hn]; rfl))
theorem head_append {α : Type} {l m : List α} (h : l ≠ []) : (l ++ m).head? = l.head? := by
  cases l with
  | nil => exact absurd rfl h
  | cons a l => rfl
def dnum (l : List UInt8) : Nat := l.foldl (fun n c => n * 10 + (c.toNat - 48)) 0
theorem foldl_dnum (l : List UInt8) (a : Nat) : l.foldl (fun n c => n * 10 + (c.toNat - 48)) a = a * 10 ^ l.length + dnum l := by
  induction l generalizing a with
  | nil => simp [dnum]
  | cons c l ih =>
    unfold dnum
    rw [List.foldl_cons, List.foldl_cons, ih, ih (0 * 10 + (c.toNat - 48)), List.length_cons, Nat.pow_succ]
    grind
theorem dnum_append (a b : List UInt8) : dnum (a ++ b) = dnum a * 10 ^ b.length + dnum b := by
  unfold dnum
  rw [List.foldl_append, foldl_dnum b]
  rfl
theorem dnum_one (c : UInt8) : dnum [c] = c.toNat - 48 := by simp [dnum]
theorem dnum_snoc (a : List UInt8) (c : UInt8) : dnum (a ++ [c]) = dnum a * 10 + (c.toNat - 48) := by rw [dnum_append, dnum_one]; simp
def Digs (l : List UInt8) : Prop := ∀ c ∈ l, 48 ≤ c.toNat ∧ c.toNat ≤ 57
theorem Digs.append {a b : List UInt8} (h : Digs a) (k : Digs b) : Digs (a ++ b) := fun c hc => (List.mem_append.1 hc).elim (h c) (k c)
theorem digs_one {d : Nat} (h : d < 10) : Digs [UInt8.ofNat (48 + d)] := by
  intro c hc
  rw [List.mem_singleton.1 hc]
  have : (UInt8.ofNat (48 + d)).toNat = 48 + d := by rw [UInt8.toNat_ofNat']; exact Nat.mod_eq_of_lt (by omega)
  omega
theorem toNat_digit {d : Nat} (h : d < 10) : (UInt8.ofNat (48 + d)).toNat = 48 + d := by rw [UInt8.toNat_ofNat']; exact Nat.mod_eq_of_lt (by omega)
theorem digs_dec (n : Nat) : Digs (Lib.decDigits n) := by
  induction n using Nat.strongRecOn with
  | _ n ih =>
    by_cases h : n < 10
    · rw [Lib.decDigits_one h]; exact digs_one h
    · rw [dec_big h]; exact (ih (n / 10) (by omega)).append (digs_one (by omega))
theorem dnum_dec (n : Nat) : dnum (Lib.decDigits n) = n := by
  induction n using Nat.strongRecOn with
  | _ n ih =>
    by_cases h : n < 10
    · rw [Lib.decDigits_one h, dnum_one, toNat_digit h]; omega
    · rw [dec_big h, dnum_snoc, ih (n / 10) (by omega), toNat_digit (by omega)]; omega
theorem dnum_lt {l : List UInt8} (h : Digs l) : dnum l < 10 ^ l.length := by
  revert h
  refine rev_ind (p := fun l => Digs l → dnum l < 10 ^ l.length) ?_ ?_ l
  · intro _; simp [dnum]
  · intro l c ih h
    have h1 := ih (fun d hd => h d (by simp [hd]))
    have h2 := h c (by simp)
    rw [dnum_snoc, List.length_append, List.length_singleton, Nat.pow_succ]
    omega
def IsText (l : List UInt8) : Prop := l ≠ [] ∧ (l.head? = some 48 → l = [48]) ∧ Digs l
theorem dec_ne (n : Nat) : Lib.decDigits n ≠ [] := by
  intro h
  have := Lib.decDigits_length n
  have := Lib.nDigits_pos n
  rw [h] at *
  simp at *; omega
theorem head_dec (n : Nat) (h : 1 ≤ n) : (Lib.decDigits n).head? ≠ some 48 := by
  induction n using Nat.strongRecOn with
  | _ n ih =>
    by_cases h10 : n < 10
    · rw [Lib.decDigits_one h10]
      intro e
      have e2 : UInt8.ofNat (48 + n) = 48 := by simpa using e
      have e3 := congrArg UInt8.toNat e2
      rw [toNat_digit h10] at e3
      have : (48 : UInt8).toNat = 48 := rfl
      omega
    · rw [dec_big h10, head_append (dec_ne _)]
      exact ih (n / 10) (by omega) (by omega)
theorem isText_dec (n : Nat) : IsText (Lib.decDigits n) := by
  refine ⟨dec_ne n, fun h => ?_, digs_dec n⟩
  rcases Nat.eq_zero_or_pos n with h0 | h0
  · subst h0; rw [Lib.decDigits_one (by omega)]; rfl
  · exact absurd h (head_dec n h0)
def G19 : Nat := 10000000000000000000
theorem G19_eq : G19 = 10 ^ 19 := by unfold G19; decide
theorem G19_pos : 0 < G19 := by unfold G19; omega
theorem dec_groups {gs : List Nat} {i : Nat} (ok : Ok G19 gs) (hi : i < gs.length) (h1 : 1 ≤ val G19 (gs.drop (i + 1))) :
    Lib.decDigits (val G19 (gs.drop i)) = Lib.decDigits (val G19 (gs.drop (i + 1))) ++ pad 19 (nth gs i) := by
  rw [drop_cons gs i hi]
  have h2 := ok.nth G19_pos i
  rw [← dec_pad 19 _ _ h1 (by rw [← G19_eq]; exact h2), ← G19_eq]
  congr 1
  simp only [val]
  rw [Nat.mul_comm, Nat.add_comm]
theorem dec_len_le {k n : Nat} (hk : 1 ≤ k) (h : n < 10 ^ k) : (Lib.decDigits n).length ≤ k := by
  have e := congrArg List.length (pad_dec k n hk h)
  rw [pad_length, List.length_append, List.length_replicate] at e
  omega
theorem dec_len_words {K n : Nat} (hK : 1 ≤ K) (h : n < M64 ^ K) : (Lib.decDigits n).length ≤ 20 * K := by
  refine dec_len_le (by omega) (Nat.lt_of_lt_of_le h ?_)
  rw [Nat.pow_mul]
  exact Nat.pow_le_pow_left (by unfold M64; omega) K
theorem val_drop_pos {r : List Nat} {t j : Nat} (ht : 1 ≤ t) (hj : j < (r ++ [t]).length) : 1 ≤ val G19 ((r ++ [t]).drop j) := by
  have hj' : j ≤ r.length := by simp at hj; omega
  rw [List.drop_append_of_le_length hj', val_append]
  have h1 : 1 ≤ G19 ^ (r.drop j).length := Nat.one_le_pow _ _ G19_pos
  have h2 : 1 * 1 ≤ G19 ^ (r.drop j).length * val G19 [t] := Nat.mul_le_mul h1 (by simp [val]; omega)
  omega
theorem groups_few {gs : List Nat} {R n K : Nat} (h : val G19 gs + G19 ^ gs.length * R = n) (hR : 1 ≤ R) (hn : n < M64 ^ K) : gs.length < 2 * K := by
  have h1 : G19 ^ gs.length * 1 ≤ G19 ^ gs.length * R := Nat.mul_le_mul_left _ hR
  have h2 : M64 ≤ G19 ^ 2 := by unfold M64 G19; omega
  have h3 : M64 ^ K ≤ G19 ^ (2 * K) := by rw [Nat.pow_mul]; exact Nat.pow_le_pow_left h2 K
  exact (Nat.pow_lt_pow_iff_right (by unfold G19; omega)).1 (show G19 ^ gs.length < G19 ^ (2 * K) by omega)
theorem val_snoc_group {gs : List Nat} {R n r q : Nat} (h : val G19 gs + G19 ^ gs.length * R = n) (e : R = q * G19 + r) : val G19 (gs ++ [r]) + G19 ^ (gs ++ [r]).length * q = n := by
  rw [val_snoc, List.length_append, List.length_singleton, Nat.pow_succ, ← h, e]
  generalize G19 ^ gs.length = P
  grind
end Go.Proofs.YtfenjkgbedbleaaGreatDoor.Big
namespace Go.Proofs.YtfenjkgbedbleaaGreatDoor
open Go.RowKit
theorem Tryz.infoByte : (Tryz.prog.info? 5).map (fun i => (i.zero, i.size, i.bytes)) = some (some (.int .u8 0), 1, 1) := by kernel_rfl
def Row (w : World) (B : Nat) (v : Value) (n : Nat) (l : List UInt8) : Prop := w.ownsRow B 5 1 v n (Lib.byteCells l)
set_option maxHeartbeats 2000000 in
set_option maxRecDepth 100000 in
theorem appendGroup_any (B n g : Nat) (hg : g < 10000000000000000000) (sv : Value) (l : List UInt8) (w : World) (hown : Row w B sv n l) (hBw : B ≤ w.heap.size) (hlim : n ≤ 100000000000000) (htab : Tab w) :
    Calls Tryz.prog 37 #[sv, .int .u64 (g : Int)] w fun e w' => ∃ v', e = .returned v' ∧ Row w' B v' (n + 19) (l ++ Big.pad 19 g) ∧ Below B w w' := by
  obtain ⟨i0, hi, hz0, hz1, hz2⟩ := info_parts Tryz.infoByte
  have hg' : g < 10 ^ 19 := by omega
  have HPAD := Lib.hid (Big.pad_dec 19 g (by omega) hg')
  have hl1 := Lib.decDigits_length g
  have hl2 : (Lib.decDigits g).length ≤ 19 := by
    rw [hl1]
    rcases Nat.lt_or_ge 19 (Lib.nDigits g) with h | h
    · exfalso
      have e := Big.pad_length 19 g
      rw [← HPAD.out, List.length_append, List.length_replicate, hl1] at e
      omega
    · exact h
  have C := Lib.hid (formatUint_any g (by omega) w htab)
  obtain ⟨D, hD⟩ : ∃ D, Lib.decDigits g = D := ⟨_, rfl⟩
  rw [hD] at HPAD hl2 C
  have hsz : (⟨D.toArray⟩ : ByteArray).size = D.length := by simp [ByteArray.size]
  obtain ⟨S, hS⟩ : ∃ S : ByteArray, (⟨D.toArray⟩ : ByteArray) = S := ⟨_, rfl⟩
  obtain ⟨m, hm⟩ : ∃ m, D.length = m := ⟨_, rfl⟩
  rw [hS] at hsz C
  rw [hm] at hsz hl2 HPAD
  have HS := Lib.hid (And.intro hS (And.intro hsz hm))
  have HO := Lib.hid hown
  have hc19 : (19 : Int) - (m : Int) = ((19 - m : Nat) : Int) := by omega
  have hw19 : IntKind.i64.wrap ((19 : Int) - (m : Int)) = ((19 - m : Nat) : Int) := by rw [hc19]; exact IntWalk.i64_in _ (by omega)
  obtain ⟨c, hc⟩ : ∃ c, 19 - m = c := ⟨_, rfl⟩
  rw [hc] at hc19 hw19 HPAD
  have hcl : c + m = 19 := by omega
  have HC := Lib.hid hc
  clear hl1 hS hm hown htab hD hg hg' hc
  go_enter Tryz.func37, Tryz.ntmps37
  go_wp2_with fail
  refine C.out.mono ?_
  rintro e w1 ⟨rfl, hw1⟩
  have HO1 := Lib.hid (show Row w1 B sv n l from World.ownsRow.kept HO.out (row := none) ⟨hw1.os, hw1.tape, hw1.output, hw1.size, fun k hk _ => hw1.block k hk⟩ (by cases hv : sv.ownBlock <;> simp))
  have HB1 := Lib.hid (hw1.mono hBw)
  have hBw1 : B ≤ w1.heap.size := Nat.le_trans hBw hw1.size
  have hsz := HS.out.2.1
  clear hw1
  go_wp2_with fail
  clear hsz hw19 hc19
  go_loopw [0, 11] (fun s i wr => ∃ k : Nat, k ≤ c ∧ i = .int .i64 k ∧ Hid (Row wr B s (n + k) (l ++ List.replicate k 48)) ∧ Hid (Below B w wr) ∧ B ≤ wr.heap.size) (fun _ i _ => c - (intOf i).toNat)
  case atStart => exact ⟨0, by omega, rfl, Lib.hid (by simpa using HO1.out), HB1, hBw1⟩
  case round =>
    obtain ⟨k, hk, rfl, HR, HB, hBr⟩ := hrel
    by_cases hkc : k < c
    · have hkI : (k : Int) < (c : Int) := by omega
      have HO := Lib.hid (HR.out.alloc (.cells #[.int .u8 48] 5))
      go_wp2_with (at_builtin; refine wpList_append_own _ rfl _ _ 68 rfl B 5 i0 (.int .u8 0) 1 1 Tryz.underlying68 hi hz0 hz1 hz2 rfl (by decide) _ _ _ rfl HO.out ⟨_, 0, none⟩ 1 1 [Value.int .u8 48] rfl rfl (by intro j u' hj; match j, hj with | 0, hj => simp at hj; subst hj; simp [Addr.add]) (by intro u' hu'; simp at hu'; subst hu'; rfl) (by unfold maxLen; omega) (by omega) (by simp; omega) ?_)
      intro v1 w2 hown1 hgrow _
      have HO2 := Lib.hid hown1
      have HB2 := Lib.hid ((below_alloc HB.out (Nat.le_trans hBw (Nat.le_refl _)) (.cells #[.int .u8 48] 5)).grown hgrow (by simp; omega) (fun k hk => (HR.out.lt k hk).1))
      have hBr2 : B ≤ w2.heap.size := by have := hgrow.size; simp at this; omega
      clear hown1 hgrow
      go_wp2_with fail
      go_roundw
      case rel =>
        refine ⟨k + 1, by omega, by go_num, Lib.hid ?_, HB2, hBr2⟩
        have h1 := HO2.out
        unfold Row
        rw [List.replicate_succ', ← List.append_assoc, Lib.byteCells_append]
        exact h1
      case measure => simp [intOf]; omega
    · have hkl : k = c := by omega
      subst hkl
      go_wp2_with (at_builtin; refine Lib.wpList_append_own_string _ rfl _ _ 68 9 rfl B 5 i0 Tryz.underlying68 Tryz.underlying9 hi hz0 hz1 hz2 _ _ _ rfl HR.out S rfl (by rw [HS.out.2.1]; unfold maxLen; omega) (by rw [HS.out.2.1]; omega) hBr ?_)
      intro v1 w2 hown1 hgrow _
      have HO2 := Lib.hid hown1
      have HB2 := Lib.hid (HB.out.grown hgrow hBr (fun k hk => (HR.out.lt k hk).1))
      clear hown1 hgrow
      go_wp2_with fail
      go_ret
      refine ⟨_, rfl, ?_, HB2.out⟩
      have h1 := HO2.out
      rw [show n + k + m = n + 19 by omega, Lib.byteCells_append, List.append_assoc] at h1
      have e : Lib.strCells S = Lib.byteCells D := by rw [← HS.out.1]; simp [Lib.strCells, Lib.byteCells]
      rw [e] at h1
      unfold Row
      rw [← HPAD.out, Lib.byteCells_append, Lib.byteCells_append]
      exact h1
end Go.Proofs.YtfenjkgbedbleaaGreatDoor
