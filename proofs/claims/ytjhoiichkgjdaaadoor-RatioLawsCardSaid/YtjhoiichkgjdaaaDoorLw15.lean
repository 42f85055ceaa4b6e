/- Contracts, in this order: ratio: size, answer, Of. · ratio: Of. · ratio: read, of one and of two. · ratio: reckon. · ratio: Sign, Cmp. · strconv: FormatUint, AppendUint at base 10. -/
import Derived.Test.YtjhoiichkgjdaaaDoorLw12
import Derived.Test.YtjhoiichkgjdaaaDoorLw14
import Derived.Lib.ItoaMem
import Derived.LoopN
import Derived.Test.YtjhoiichkgjdaaaDoorProg
import Derived.Test.YtjhoiichkgjdaaaDoorShelf
import Derived.Lib.AppendIntMem
import Derived.Lib.Walk
import Derived.WalkKit
import Derived.BigCall
import Derived.BigGuard
import Derived.Lib.Hide
/- ratio: size, answer, Of. -/
namespace Go.Proofs.YtjhoiichkgjdaaaDoor
open Go.RowKit

set_option maxRecDepth 100000 in
set_option maxHeartbeats 4000000 in
/-- ratio.size: the number without its sign. -/
theorem rasize_any (w : World) (n : Int) (h0 : -9223372036854775808 ≤ n) (h1 : n ≤ 9223372036854775807) :
    Calls Tryd.prog 32 #[.int .i64 n] w (Nat1 w n.natAbs) := by
  have hM : n.natAbs < Big.M64 := by unfold Big.M64; omega
  have C := Lib.hid (of_num w n.natAbs hM)
  clear hM
  by_cases hn : n < 0
  · obtain ⟨u, rfl⟩ : ∃ u : Nat, n = -(u : Int) := ⟨n.natAbs, by omega⟩
    have e : (-(u : Int)).natAbs = u := by omega
    rw [e] at C ⊢
    have hwr : IntKind.u64.wrap (-IntKind.u64.wrap (-(u : Int))) = (u : Int) := by rw [IntKind.wrap_u64, IntKind.wrap_u64]; omega
    clear e
    go_enter Tryd.func32, Tryd.ntmps32
    go_wp2_with fail
    refine C.out.mono ?_
    rintro e w' ⟨v', rfl, hv, hb⟩
    go_wp2_with fail
    go_ret
    exact ⟨_, rfl, hv, hb⟩
  · obtain ⟨u, rfl⟩ : ∃ u : Nat, n = (u : Int) := ⟨n.natAbs, by omega⟩
    have e : ((u : Int)).natAbs = u := by omega
    rw [e] at C ⊢
    clear e
    go_enter Tryd.func32, Tryd.ntmps32
    go_wp2_with fail
    refine C.out.mono ?_
    rintro e w' ⟨v', rfl, hv, hb⟩
    go_wp2_with fail
    go_ret
    exact ⟨_, rfl, hv, hb⟩

/-- A value and an error's number come back. -/
def Ret2 (w : World) (v : Value) (n : Int) (e : Ending) (w' : World) : Prop := e = .returned (.tuple #[v, .int .i64 n]) ∧ Below w.heap.size w w'
theorem At3.both {w w' : World} {g : Nat} {T : TypeId} {a b c : Value} (h : At3 w g T a b c) (hb : Below w.heap.size w w') (B : Nat) (w0 : World) (hB : Below B w0 w) : At3 w' g T a b c ∧ Below B w0 w' → At3 w' g T a b c := fun _ => h.keep hb

set_option maxRecDepth 100000 in
set_option maxHeartbeats 4000000 in
theorem answer_fit (w : World) (vx : Value) (q : Rat) (k : Nat) (hx : NumIn w vx q) (sx : Sm k q) (hk : k ≤ 10000000) (hf : Fit q) :
    Calls Tryd.prog 30 #[vx] w (Ret2 w (fracV q) 0) := by
  have SX := Lib.hid sx; have HF := Lib.hid hf
  obtain ⟨A, l, c, A2, l2, c2, rfl, hx1, hx2⟩ := hx.is_agg
  have HX := Lib.hid (And.intro hx1 hx2)
  have HQ := Lib.hid hx
  obtain ⟨X0, R0, B0⟩ := boxed2 w 45 26 (.bool (Big.ng q)) (.slice A l c) (.slice A2 l2 c2) (.bool false) (.string ⟨#[]⟩) (.string ⟨#[]⟩)
  have HR0 := Lib.hid R0; have HB0 := Lib.hid B0
  have x0 := X0.c0; have x1 := X0.c1; have x2 := X0.c2
  have C := Lib.hid (fun W (h : Below w.heap.size w W) => exFrac_fit W _ q k (HQ.out.keep h) SX.out hk HF.out)
  clear hx hx1 hx2 sx X0 R0 B0 hf
  go_enter Tryd.func30, Tryd.ntmps30
  go_wp2_with fail
  refine (C.out _ HB0.out).mono ?_
  generalize (w.alloc (.cells #[.bool (Big.ng q), .slice A l c, .slice A2 l2 c2] 45)).alloc (.cells #[.bool false, .string ⟨#[]⟩, .string ⟨#[]⟩] 26) = w0 at *
  rintro e w1 ⟨rfl, hw1⟩
  unfold fracV
  have HB1 := Lib.hid (HB0.out.trans (hw1.mono HB0.out.size))
  have R1 := HR0.out.keep hw1
  have hlt := R1.lt
  have HD := Lib.hid ((At3.put R1 (.bool (Big.ng q)) (.string (bst (Big.nu q))) (.string (bst (Big.de q)))).alloc' (.cells #[.bool (Big.ng q), .string (bst (Big.nu q)), .string (bst (Big.de q))] 26))
  have HE := Lib.hid (below_alloc (put_below HB1.out (show w.heap.size ≤ w.heap.size + 1 by omega) (.bool (Big.ng q)) (.string (bst (Big.nu q))) (.string (bst (Big.de q)))) (Nat.le_refl _) (.cells #[.bool (Big.ng q), .string (bst (Big.nu q)), .string (bst (Big.de q))] 26))
  have k0 := R1.c0; have k1 := R1.c1; have k2 := R1.c2; have f0 := R1.frozen 0; have f1 := R1.frozen 1; have f2 := R1.frozen 2
  clear R1 hw1 x0 x1 x2 HR0 C
  go_wp2_with fail
  generalize ((((w1.setCell ⟨w.heap.size + 1, 0, none⟩ (.bool (Big.ng q))).setCell ⟨w.heap.size + 1, 1, none⟩ (.string (bst (Big.nu q)))).setCell ⟨w.heap.size + 1, 2, none⟩ (.string (bst (Big.de q)))).alloc (.cells #[.bool (Big.ng q), .string (bst (Big.nu q)), .string (bst (Big.de q))] 26)) = wz at HD HE ⊢
  clear k0 k1 k2 f0 f1 f2
  have r0 := HD.out.c0; have r1 := HD.out.c1; have r2 := HD.out.c2
  exact bodyPost_ret (v := .tuple #[.agg #[.bool (Big.ng q), .string (bst (Big.nu q)), .string (bst (Big.de q))], .int .i64 0]) (by simp [results, Tryd.results30, go_sem, r0, r1, r2]) rfl ⟨rfl, HE.out⟩

set_option maxRecDepth 100000 in
set_option maxHeartbeats 4000000 in
theorem answer_long (w : World) (vx : Value) (q : Rat) (k : Nat) (hx : NumIn w vx q) (sx : Sm k q) (hk : k ≤ 10000000) (hf : ¬ Fit q) :
    Calls Tryd.prog 30 #[vx] w (Ret2 w fracZ 3) := by
  have SX := Lib.hid sx; have HF := Lib.hid hf
  obtain ⟨A, l, c, A2, l2, c2, rfl, hx1, hx2⟩ := hx.is_agg
  have HX := Lib.hid (And.intro hx1 hx2)
  have HQ := Lib.hid hx
  obtain ⟨X0, R0, B0⟩ := boxed2 w 45 26 (.bool (Big.ng q)) (.slice A l c) (.slice A2 l2 c2) (.bool false) (.string ⟨#[]⟩) (.string ⟨#[]⟩)
  have HR0 := Lib.hid R0; have HB0 := Lib.hid B0
  have x0 := X0.c0; have x1 := X0.c1; have x2 := X0.c2
  have C := Lib.hid (fun W (h : Below w.heap.size w W) => exFrac_long W _ q k (HQ.out.keep h) SX.out hk HF.out)
  clear hx hx1 hx2 sx X0 R0 B0 hf
  go_enter Tryd.func30, Tryd.ntmps30
  go_wp2_with fail
  refine (C.out _ HB0.out).mono ?_
  generalize (w.alloc (.cells #[.bool (Big.ng q), .slice A l c, .slice A2 l2 c2] 45)).alloc (.cells #[.bool false, .string ⟨#[]⟩, .string ⟨#[]⟩] 26) = w0 at *
  rintro e w1 ⟨rfl, hw1⟩
  unfold fracZ
  have HB1 := Lib.hid (HB0.out.trans (hw1.mono HB0.out.size))
  have R1 := HR0.out.keep hw1
  have hlt := R1.lt
  have HD := Lib.hid ((At3.put R1 (.bool false) (.string ⟨#[]⟩) (.string ⟨#[]⟩)).alloc' (.cells #[.bool false, .string ⟨#[]⟩, .string ⟨#[]⟩] 26))
  have HE := Lib.hid (below_alloc (put_below HB1.out (show w.heap.size ≤ w.heap.size + 1 by omega) (.bool false) (.string ⟨#[]⟩) (.string ⟨#[]⟩)) (Nat.le_refl _) (.cells #[.bool false, .string ⟨#[]⟩, .string ⟨#[]⟩] 26))
  have k0 := R1.c0; have k1 := R1.c1; have k2 := R1.c2; have f0 := R1.frozen 0; have f1 := R1.frozen 1; have f2 := R1.frozen 2
  clear R1 hw1 x0 x1 x2 HR0 C
  go_wp2_with fail
  generalize ((((w1.setCell ⟨w.heap.size + 1, 0, none⟩ (.bool false)).setCell ⟨w.heap.size + 1, 1, none⟩ (.string ⟨#[]⟩)).setCell ⟨w.heap.size + 1, 2, none⟩ (.string ⟨#[]⟩)).alloc (.cells #[.bool false, .string ⟨#[]⟩, .string ⟨#[]⟩] 26)) = wz at HD HE ⊢
  clear k0 k1 k2 f0 f1 f2
  have r0 := HD.out.c0; have r1 := HD.out.c1; have r2 := HD.out.c2
  exact bodyPost_ret (v := .tuple #[.agg #[.bool false, .string ⟨#[]⟩, .string ⟨#[]⟩], .int .i64 3]) (by simp [results, Tryd.results30, go_sem, r0, r1, r2]) rfl ⟨rfl, HE.out⟩

end Go.Proofs.YtjhoiichkgjdaaaDoor
/- ratio: Of. -/
namespace Go.Proofs.YtjhoiichkgjdaaaDoor
open Go.RowKit

/-- n / d. -/
def ofQ (n d : Int) : Rat := mkRat (Big.sI (decide (n < 0) != decide (d < 0)) n.natAbs) d.natAbs
theorem ofQ_by {n d : Int} {k : Nat} (hn : n.natAbs < 256 ^ k) (hd : d.natAbs < 256 ^ k) (h0 : d ≠ 0) : By k (ofQ n d) := by
  obtain ⟨_, p2, p3⟩ := Big.of_parts (decide (n < 0) != decide (d < 0)) n.natAbs d.natAbs (by omega)
  unfold ofQ
  exact ⟨by rw [p2]; exact Nat.lt_of_le_of_lt (Nat.div_le_self _ _) hn, by rw [p3]; exact Nat.lt_of_le_of_lt (Nat.div_le_self _ _) hd⟩
set_option maxRecDepth 100000 in
set_option maxHeartbeats 4000000 in
theorem raOf_any (w : World) (n d : Int) (h0 : -9223372036854775808 ≤ n) (h1 : n ≤ 9223372036854775807) (h2 : -9223372036854775808 ≤ d) (h3 : d ≤ 9223372036854775807) (hd : d ≠ 0) :
    Calls Tryd.prog 14 #[.int .i64 n, .int .i64 d] w (Ret2 w (fracV (ofQ n d)) 0) := by
  have hb : By 8 (ofQ n d) := ofQ_by (by omega) (by omega) hd
  have HF := Lib.hid (hb.fit (by omega))
  have C1 := Lib.hid (fun W => rasize_any W n h0 h1)
  have C2 := Lib.hid (fun W => rasize_any W d h2 h3)
  have z1 : Sz 1 n.natAbs := sz_word (by unfold Big.M64; omega)
  have z2 : Sz 1 d.natAbs := sz_word (by unfold Big.M64; omega)
  have C3 := Lib.hid (fun W b v u (h : NatIn W v n.natAbs) (i : NatIn W u d.natAbs) => exOf_any W b v u n.natAbs d.natAbs 1 1 h i z1 z2 (by omega) (by omega) (by omega))
  have C4 := Lib.hid (fun W v (h : NumIn W v (ofQ n d)) => answer_fit W v _ 64 h HF.out.sm (by omega) HF.out)
  have hd0 : (d == 0) = false := beq_eq_false_iff_ne.2 hd
  have HOF := Lib.hid (show ofQ n d = mkRat (Big.sI (!(decide (n < 0) == decide (d < 0))) n.natAbs) d.natAbs from rfl)
  have HR0 := Lib.hid (At3.new w 26 (.bool false) (.string ⟨#[]⟩) (.string ⟨#[]⟩))
  have HB0 := Lib.hid (box1_below w (.cells #[.bool false, .string ⟨#[]⟩, .string ⟨#[]⟩] 26))
  clear hb z1 z2 hd h0 h1 h2 h3
  obtain ⟨Q, hQ⟩ : ∃ Q, ofQ n d = Q := ⟨_, rfl⟩
  rw [hQ] at HF C4 HOF ⊢
  clear hQ
  go_enter Tryd.func14, Tryd.ntmps14
  go_wp2_with fail
  generalize w.alloc (.cells #[.bool false, .string ⟨#[]⟩, .string ⟨#[]⟩] 26) = w0 at *
  refine (C1.out _).mono ?_
  rintro e w1 ⟨v1, rfl, hv1, hw1⟩
  go_wp2_with fail
  refine (C2.out _).mono ?_
  rintro e w2 ⟨v2, rfl, hv2, hw2⟩
  go_wp2_with fail
  refine (C3.out _ _ _ _ (hv1.keep hw2) hv2).mono ?_
  rintro e w3 ⟨v3, rfl, hv3, hw3⟩
  rw [← HOF.out] at hv3
  go_wp2_with fail
  refine (C4.out _ _ hv3).mono ?_
  rintro e w4 ⟨rfl, hw4⟩
  unfold fracV
  have b1 := HB0.out.trans (hw1.mono HB0.out.size)
  have b2 := b1.trans (hw2.mono b1.size)
  have b3 := b2.trans (hw3.mono b2.size)
  have b4 := b3.trans (hw4.mono b3.size)
  have R4 := (((HR0.out.keep hw1).keep hw2).keep hw3).keep hw4
  have HD := Lib.hid (At3.put R4 (.bool (Big.ng Q)) (.string (bst (Big.nu Q))) (.string (bst (Big.de Q))))
  have HE := Lib.hid (put_below b4 (Nat.le_refl _) (.bool (Big.ng Q)) (.string (bst (Big.nu Q))) (.string (bst (Big.de Q))))
  have k0 := R4.c0; have k1 := R4.c1; have k2 := R4.c2; have f0 := R4.frozen 0; have f1 := R4.frozen 1; have f2 := R4.frozen 2
  clear R4 b1 b2 b3 b4 hw1 hw2 hw3 hw4 hv1 hv2 hv3 C1 C2 C3 C4 HOF HR0 HB0
  go_wp2_with fail
  generalize (((w4.setCell ⟨w.heap.size, 0, none⟩ (.bool (Big.ng Q))).setCell ⟨w.heap.size, 1, none⟩ (.string (bst (Big.nu Q)))).setCell ⟨w.heap.size, 2, none⟩ (.string (bst (Big.de Q)))) = wz at HD HE ⊢
  clear k0 k1 k2 f0 f1 f2
  have r0 := HD.out.c0; have r1 := HD.out.c1; have r2 := HD.out.c2
  exact bodyPost_ret (v := .tuple #[.agg #[.bool (Big.ng Q), .string (bst (Big.nu Q)), .string (bst (Big.de Q))], .int .i64 0]) (by simp [results, Tryd.results14, go_sem, r0, r1, r2]) rfl ⟨rfl, HE.out⟩
end Go.Proofs.YtjhoiichkgjdaaaDoor
/- ratio: read, of one and of two. -/
namespace Go.Proofs.YtjhoiichkgjdaaaDoor
open Go.RowKit

/-- Block g is just these cells. -/
def AtL (w : World) (g : Nat) (T : TypeId) (cs : Array Value) : Prop := w.heap[g]? = some (.cells cs T (0, 0))
section
variable {w w' : World} {g : Nat} {T : TypeId} {cs : Array Value}
theorem AtL.lt (h : AtL w g T cs) : g < w.heap.size := by
  rcases Nat.lt_or_ge g w.heap.size with h1 | h1
  · exact h1
  · unfold AtL at h; rw [Array.getElem?_eq_none h1] at h; cases h
theorem AtL.cell (h : AtL w g T cs) (i : Nat) {x : Value} (hx : cs[i]? = some x) : w.cell? ⟨g, i, none⟩ = some x := by rw [cell_of_row w g i _ _ (0, 0) h]; exact hx
theorem AtL.frozen (h : AtL w g T cs) (i : Nat) : w.frozen? ⟨g, i, none⟩ = false := frozen_of_row w g i _ _ h
theorem AtL.new (w : World) (T : TypeId) (cs : Array Value) : AtL (w.alloc (.cells cs T)) w.heap.size T cs := heap_alloc_new w _
theorem AtL.alloc' (h : AtL w g T cs) (o : Obj) : AtL (w.alloc o) g T cs := (Below.heap_alloc w o g h.lt).trans h
theorem AtL.below (h : AtL w g T cs) {B : Nat} (hb : Below B w w') (hg : g < B) : AtL w' g T cs := (hb.block g hg).trans h
theorem AtL.keep (h : AtL w g T cs) (hb : Below w.heap.size w w') : AtL w' g T cs := h.below hb h.lt
theorem AtL.set (h : AtL w g T cs) (i : Nat) (x : Value) : AtL (w.setCell ⟨g, i, none⟩ x) g T (cs.setIfInBounds i x) := heap_setCell_same w g i _ _ x h
end
/-- One number, two numbers, as read hands them back. -/
def One (w : World) (v : Value) (q : Rat) : Prop := ∃ g a b, v = .slice (some ⟨g, 0, none⟩) 1 1 ∧ AtL w g 45 #[.bool (Big.ng q), a, b] ∧ NumIn w (.agg #[.bool (Big.ng q), a, b]) q
def Two (w : World) (v : Value) (q r : Rat) : Prop := ∃ g a b c d, v = .slice (some ⟨g, 0, none⟩) 2 2 ∧ AtL w g 45 #[.bool (Big.ng q), a, b, .bool (Big.ng r), c, d] ∧ NumIn w (.agg #[.bool (Big.ng q), a, b]) q ∧ NumIn w (.agg #[.bool (Big.ng r), c, d]) r
def OneR (w : World) (q : Rat) (e : Ending) (w' : World) : Prop := ∃ v, e = .returned (.tuple #[v, .bool true]) ∧ One w' v q ∧ Below w.heap.size w w'
def TwoR (w : World) (q r : Rat) (e : Ending) (w' : World) : Prop := ∃ v, e = .returned (.tuple #[v, .bool true]) ∧ Two w' v q r ∧ Below w.heap.size w w'
theorem Tryd.infoNum : (Tryd.prog.info? 45).map (fun i => (i.zero, i.size, i.bytes)) = some (some (.agg #[.bool false, .slice none 0 0, .slice none 0 0]), 3, 56) := by kernel_rfl
theorem make_nums (n : Nat) (hn : n ≤ 1000) (cs : Array Value) (hcs : madeCells (Value.agg #[.bool false, .slice none 0 0, .slice none 0 0]).cells (n * 3) = cs) (w : World) :
    (Instr.makeSlice 48 (.int .i64 ((n : Nat) : Int)) (.int .i64 ((n : Nat) : Int))).run Tryd.prog w = .ok (.slice (some ⟨w.heap.size, 0, none⟩) n n) (w.alloc (.cells cs 45)) := by
  obtain ⟨i0, hi, hz0, hz1, hz2⟩ := info_parts Tryd.infoNum
  have hr := run_make (P := Tryd.prog) w 48 45 i0 _ Tryd.underlying48 hi hz0 .i64 .i64 (n : Int) (n : Int) (by omega) (by omega) (by rw [hz2]; omega) (by omega)
  rw [hz1] at hr
  simp only [Int.toNat_natCast] at hr
  rw [hr, hcs]
theorem AtL.no_int {w : World} {g : Nat} {T : TypeId} {cs : Array Value} (h : AtL w g T cs) (hc : ∀ v ∈ cs.toList, ∀ x, v ≠ .int .u64 x) (i : Nat) (x : Int) : w.cell? ⟨g, i, none⟩ ≠ some (.int .u64 x) := by
  rw [cell_of_row w g i _ _ (0, 0) h]
  intro e
  exact hc _ (by rw [Array.mem_toList_iff]; exact Array.mem_of_getElem? e) x rfl
theorem NumIn.only {w w' : World} {v : Value} {q : Rat} {g : Nat} (h : NumIn w v q) (hg : ∀ i x, w.cell? ⟨g, i, none⟩ ≠ some (.int .u64 x)) (ho : Only g w w') : NumIn w' v q := by
  obtain ⟨a, b, e, h1, h2⟩ := h; exact ⟨a, b, e, h1.only hg ho, h2.only hg ho⟩
theorem Only.alloc {g : Nat} {w w' : World} (h : Only g w w') (o : Obj) : Only g w (w'.alloc o) := h.trans (Only.of_below (box1_below w' o))
set_option maxRecDepth 100000 in
set_option maxHeartbeats 4000000 in
theorem read1_any (w : World) (g : Nat) (q : Rat) (h : AtL w g 26 #[.bool (Big.ng q), .string (bst (Big.nu q)), .string (bst (Big.de q))]) (hfq : Fit q) :
    Calls Tryd.prog 22 #[.slice (some ⟨g, 0, none⟩) 1 1] w (OneR w q) := by
  have hmk : ∀ W, (Instr.makeSlice 48 (.int .i64 1) (.int .i64 1)).run Tryd.prog W = .ok (.slice (some ⟨W.heap.size, 0, none⟩) 1 1) (W.alloc (.cells #[.bool false, .slice none 0 0, .slice none 0 0] 45)) := fun W => make_nums 1 (by omega) #[.bool false, .slice none 0 0, .slice none 0 0] (by first | kernel_rfl | (simp [madeCells]; rfl)) W
  have HA := Lib.hid h
  have HRq := Lib.hid (fun W => exRead_ok W q hfq)
  have HN := Lib.hid (AtL.new w 45 #[.bool false, .slice none 0 0, .slice none 0 0])
  have HB := Lib.hid (box1_below w (.cells #[.bool false, .slice none 0 0, .slice none 0 0] 45))
  have hg := h.lt
  have h' := h.alloc' (.cells #[.bool false, .slice none 0 0, .slice none 0 0] 45)
  have c0 := h'.cell 0 rfl
  have c1 := h'.cell 1 rfl
  have c2 := h'.cell 2 rfl
  clear h h' hfq
  go_enter Tryd.func22, Tryd.ntmps22
  go_wp2_with fail
  refine wp_loop_rounds 2 ?_
  rw [rounds_succ]
  go_wp2_with fail
  clear hmk c0 c1 c2
  have HN0 := Lib.hid (HN.out.alloc' (.cells #[.bool (Big.ng q), .string (bst (Big.nu q)), .string (bst (Big.de q))] 26))
  have HB0 := Lib.hid (below_alloc HB.out (Nat.le_refl _) (.cells #[.bool (Big.ng q), .string (bst (Big.nu q)), .string (bst (Big.de q))] 26))
  generalize (w.alloc (.cells #[.bool false, .slice none 0 0, .slice none 0 0] 45)).alloc (.cells #[.bool (Big.ng q), .string (bst (Big.nu q)), .string (bst (Big.de q))] 26) = wa0 at *
  refine (HRq.out _).mono ?_
  rintro e w0 ⟨v0, rfl, hv0, hw0⟩
  obtain ⟨A0, l0, c0, B0, m0, d0, rfl, ha0, hb0⟩ := hv0.is_agg
  have n0 := HN0.out.keep hw0
  have hlt0 := n0.lt
  have k0 := n0.cell 0 rfl; have k1 := n0.cell 1 rfl; have k2 := n0.cell 2 rfl
  have f0 := n0.frozen 0; have f1 := n0.frozen 1; have f2 := n0.frozen 2
  have s0 : AtL (((w0.setCell ⟨w.heap.size, 0, none⟩ (.bool (Big.ng q))).setCell ⟨w.heap.size, 1, none⟩ (.slice A0 l0 c0)).setCell ⟨w.heap.size, 2, none⟩ (.slice B0 m0 d0)) w.heap.size 45 #[.bool (Big.ng q), .slice A0 l0 c0, .slice B0 m0 d0] := ((n0.set 0 (.bool (Big.ng q))).set 1 (.slice A0 l0 c0)).set 2 (.slice B0 m0 d0)
  have o0 := (((Only.refl w.heap.size w0).setCell 0 (.bool (Big.ng q))).setCell 1 (.slice A0 l0 c0)).setCell 2 (.slice B0 m0 d0)
  have ni0 := n0.no_int (by simp)
  have b0 := HB0.out.trans (hw0.mono HB0.out.size)
  have bb0 : Below w.heap.size w (((w0.setCell ⟨w.heap.size, 0, none⟩ (.bool (Big.ng q))).setCell ⟨w.heap.size, 1, none⟩ (.slice A0 l0 c0)).setCell ⟨w.heap.size, 2, none⟩ (.slice B0 m0 d0)) := ((b0.setCell (p := ⟨w.heap.size, 0, none⟩) (Nat.le_refl _) _).setCell (p := ⟨w.heap.size, 1, none⟩) (Nat.le_refl _) _).setCell (p := ⟨w.heap.size, 2, none⟩) (Nat.le_refl _) _
  have HS0 := Lib.hid (s0.alloc' (.cells #[.bool (Big.ng q), .slice A0 l0 c0, .slice B0 m0 d0] 45))
  have HO0 := Lib.hid (And.intro (hv0.only ni0 (o0.alloc (.cells #[.bool (Big.ng q), .slice A0 l0 c0, .slice B0 m0 d0] 45))) (below_alloc bb0 (Nat.le_refl _) (.cells #[.bool (Big.ng q), .slice A0 l0 c0, .slice B0 m0 d0] 45)))
  clear hv0 hw0 ha0 hb0 n0 s0 o0 ni0 b0 bb0
  go_wp2_with fail
  generalize ((((w0.setCell ⟨w.heap.size, 0, none⟩ (.bool (Big.ng q))).setCell ⟨w.heap.size, 1, none⟩ (.slice A0 l0 c0)).setCell ⟨w.heap.size, 2, none⟩ (.slice B0 m0 d0)).alloc (.cells #[.bool (Big.ng q), .slice A0 l0 c0, .slice B0 m0 d0] 45)) = wz0 at HS0 HO0  ⊢
  clear k0 k1 k2 f0 f1 f2
  rw [rounds_succ]
  go_wp2_with fail
  go_ret2
  exact ⟨_, rfl, ⟨_, _, _, rfl, HS0.out, HO0.out.1⟩, HO0.out.2⟩

set_option maxRecDepth 100000 in
set_option maxHeartbeats 4000000 in
theorem read2_any (w : World) (g : Nat) (q r : Rat) (h : AtL w g 26 #[.bool (Big.ng q), .string (bst (Big.nu q)), .string (bst (Big.de q)), .bool (Big.ng r), .string (bst (Big.nu r)), .string (bst (Big.de r))]) (hfq : Fit q) (hfr : Fit r) :
    Calls Tryd.prog 22 #[.slice (some ⟨g, 0, none⟩) 2 2] w (TwoR w q r) := by
  have hmk : ∀ W, (Instr.makeSlice 48 (.int .i64 2) (.int .i64 2)).run Tryd.prog W = .ok (.slice (some ⟨W.heap.size, 0, none⟩) 2 2) (W.alloc (.cells #[.bool false, .slice none 0 0, .slice none 0 0, .bool false, .slice none 0 0, .slice none 0 0] 45)) := fun W => make_nums 2 (by omega) #[.bool false, .slice none 0 0, .slice none 0 0, .bool false, .slice none 0 0, .slice none 0 0] (by first | kernel_rfl | (simp [madeCells]; rfl)) W
  have HA := Lib.hid h
  have HRq := Lib.hid (fun W => exRead_ok W q hfq)
  have HRr := Lib.hid (fun W => exRead_ok W r hfr)
  have HN := Lib.hid (AtL.new w 45 #[.bool false, .slice none 0 0, .slice none 0 0, .bool false, .slice none 0 0, .slice none 0 0])
  have HB := Lib.hid (box1_below w (.cells #[.bool false, .slice none 0 0, .slice none 0 0, .bool false, .slice none 0 0, .slice none 0 0] 45))
  have hg := h.lt
  have h' := h.alloc' (.cells #[.bool false, .slice none 0 0, .slice none 0 0, .bool false, .slice none 0 0, .slice none 0 0] 45)
  have c0 := h'.cell 0 rfl
  have c1 := h'.cell 1 rfl
  have c2 := h'.cell 2 rfl
  clear h h' hfq hfr
  go_enter Tryd.func22, Tryd.ntmps22
  go_wp2_with fail
  refine wp_loop_rounds 3 ?_
  rw [rounds_succ]
  go_wp2_with fail
  clear hmk c0 c1 c2
  have HN0 := Lib.hid (HN.out.alloc' (.cells #[.bool (Big.ng q), .string (bst (Big.nu q)), .string (bst (Big.de q))] 26))
  have HB0 := Lib.hid (below_alloc HB.out (Nat.le_refl _) (.cells #[.bool (Big.ng q), .string (bst (Big.nu q)), .string (bst (Big.de q))] 26))
  generalize (w.alloc (.cells #[.bool false, .slice none 0 0, .slice none 0 0, .bool false, .slice none 0 0, .slice none 0 0] 45)).alloc (.cells #[.bool (Big.ng q), .string (bst (Big.nu q)), .string (bst (Big.de q))] 26) = wa0 at *
  refine (HRq.out _).mono ?_
  rintro e w0 ⟨v0, rfl, hv0, hw0⟩
  obtain ⟨A0, l0, c0, B0, m0, d0, rfl, ha0, hb0⟩ := hv0.is_agg
  have n0 := HN0.out.keep hw0
  have hlt0 := n0.lt
  have k0 := n0.cell 0 rfl; have k1 := n0.cell 1 rfl; have k2 := n0.cell 2 rfl
  have f0 := n0.frozen 0; have f1 := n0.frozen 1; have f2 := n0.frozen 2
  have s0 : AtL (((w0.setCell ⟨w.heap.size, 0, none⟩ (.bool (Big.ng q))).setCell ⟨w.heap.size, 1, none⟩ (.slice A0 l0 c0)).setCell ⟨w.heap.size, 2, none⟩ (.slice B0 m0 d0)) w.heap.size 45 #[.bool (Big.ng q), .slice A0 l0 c0, .slice B0 m0 d0, .bool false, .slice none 0 0, .slice none 0 0] := ((n0.set 0 (.bool (Big.ng q))).set 1 (.slice A0 l0 c0)).set 2 (.slice B0 m0 d0)
  have o0 := (((Only.refl w.heap.size w0).setCell 0 (.bool (Big.ng q))).setCell 1 (.slice A0 l0 c0)).setCell 2 (.slice B0 m0 d0)
  have ni0 := n0.no_int (by simp)
  have b0 := HB0.out.trans (hw0.mono HB0.out.size)
  have bb0 : Below w.heap.size w (((w0.setCell ⟨w.heap.size, 0, none⟩ (.bool (Big.ng q))).setCell ⟨w.heap.size, 1, none⟩ (.slice A0 l0 c0)).setCell ⟨w.heap.size, 2, none⟩ (.slice B0 m0 d0)) := ((b0.setCell (p := ⟨w.heap.size, 0, none⟩) (Nat.le_refl _) _).setCell (p := ⟨w.heap.size, 1, none⟩) (Nat.le_refl _) _).setCell (p := ⟨w.heap.size, 2, none⟩) (Nat.le_refl _) _
  have HS0 := Lib.hid (s0.alloc' (.cells #[.bool (Big.ng q), .slice A0 l0 c0, .slice B0 m0 d0] 45))
  have HO0 := Lib.hid (And.intro (hv0.only ni0 (o0.alloc (.cells #[.bool (Big.ng q), .slice A0 l0 c0, .slice B0 m0 d0] 45))) (below_alloc bb0 (Nat.le_refl _) (.cells #[.bool (Big.ng q), .slice A0 l0 c0, .slice B0 m0 d0] 45)))
  clear hv0 hw0 ha0 hb0 n0 s0 o0 ni0 b0 bb0
  go_wp2_with fail
  generalize ((((w0.setCell ⟨w.heap.size, 0, none⟩ (.bool (Big.ng q))).setCell ⟨w.heap.size, 1, none⟩ (.slice A0 l0 c0)).setCell ⟨w.heap.size, 2, none⟩ (.slice B0 m0 d0)).alloc (.cells #[.bool (Big.ng q), .slice A0 l0 c0, .slice B0 m0 d0] 45)) = wz0 at HS0 HO0  ⊢
  clear k0 k1 k2 f0 f1 f2
  have HQq := Lib.hid HO0.out.1; have HBz0 := Lib.hid HO0.out.2
  have h' := HA.out.keep HBz0.out
  have c0 := h'.cell 3 rfl
  have c1 := h'.cell 4 rfl
  have c2 := h'.cell 5 rfl
  clear h' HO0
  rw [rounds_succ]
  go_wp2_with fail
  clear c0 c1 c2
  have HN1 := Lib.hid (HS0.out.alloc' (.cells #[.bool (Big.ng r), .string (bst (Big.nu r)), .string (bst (Big.de r))] 26))
  have HB1 := Lib.hid (below_alloc HBz0.out (Nat.le_refl _) (.cells #[.bool (Big.ng r), .string (bst (Big.nu r)), .string (bst (Big.de r))] 26))
  have HQq1 := Lib.hid (HQq.out.keep (box1_below _ (.cells #[.bool (Big.ng r), .string (bst (Big.nu r)), .string (bst (Big.de r))] 26)))
  generalize wz0.alloc (.cells #[.bool (Big.ng r), .string (bst (Big.nu r)), .string (bst (Big.de r))] 26) = wa1 at *
  refine (HRr.out _).mono ?_
  rintro e w1 ⟨v1, rfl, hv1, hw1⟩
  obtain ⟨A1, l1, c1, B1, m1, d1, rfl, ha1, hb1⟩ := hv1.is_agg
  have n1 := HN1.out.keep hw1
  have hlt1 := n1.lt
  have k0 := n1.cell 3 rfl; have k1 := n1.cell 4 rfl; have k2 := n1.cell 5 rfl
  have f0 := n1.frozen 3; have f1 := n1.frozen 4; have f2 := n1.frozen 5
  have s1 : AtL (((w1.setCell ⟨w.heap.size, 3, none⟩ (.bool (Big.ng r))).setCell ⟨w.heap.size, 4, none⟩ (.slice A1 l1 c1)).setCell ⟨w.heap.size, 5, none⟩ (.slice B1 m1 d1)) w.heap.size 45 #[.bool (Big.ng q), .slice A0 l0 c0, .slice B0 m0 d0, .bool (Big.ng r), .slice A1 l1 c1, .slice B1 m1 d1] := ((n1.set 3 (.bool (Big.ng r))).set 4 (.slice A1 l1 c1)).set 5 (.slice B1 m1 d1)
  have o1 := (((Only.refl w.heap.size w1).setCell 3 (.bool (Big.ng r))).setCell 4 (.slice A1 l1 c1)).setCell 5 (.slice B1 m1 d1)
  have ni1 := n1.no_int (by simp)
  have b1 := HB1.out.trans (hw1.mono HB1.out.size)
  have bb1 : Below w.heap.size w (((w1.setCell ⟨w.heap.size, 3, none⟩ (.bool (Big.ng r))).setCell ⟨w.heap.size, 4, none⟩ (.slice A1 l1 c1)).setCell ⟨w.heap.size, 5, none⟩ (.slice B1 m1 d1)) := ((b1.setCell (p := ⟨w.heap.size, 3, none⟩) (Nat.le_refl _) _).setCell (p := ⟨w.heap.size, 4, none⟩) (Nat.le_refl _) _).setCell (p := ⟨w.heap.size, 5, none⟩) (Nat.le_refl _) _
  have HS1 := Lib.hid (s1.alloc' (.cells #[.bool (Big.ng r), .slice A1 l1 c1, .slice B1 m1 d1] 45))
  have HO1 := Lib.hid (And.intro (hv1.only ni1 (o1.alloc (.cells #[.bool (Big.ng r), .slice A1 l1 c1, .slice B1 m1 d1] 45))) (below_alloc bb1 (Nat.le_refl _) (.cells #[.bool (Big.ng r), .slice A1 l1 c1, .slice B1 m1 d1] 45)))
  have HQqX := Lib.hid ((HQq1.out.keep hw1).only ni1 (o1.alloc (.cells #[.bool (Big.ng r), .slice A1 l1 c1, .slice B1 m1 d1] 45)))
  clear hv1 hw1 ha1 hb1 n1 s1 o1 ni1 b1 bb1
  go_wp2_with fail
  generalize ((((w1.setCell ⟨w.heap.size, 3, none⟩ (.bool (Big.ng r))).setCell ⟨w.heap.size, 4, none⟩ (.slice A1 l1 c1)).setCell ⟨w.heap.size, 5, none⟩ (.slice B1 m1 d1)).alloc (.cells #[.bool (Big.ng r), .slice A1 l1 c1, .slice B1 m1 d1] 45)) = wz1 at HS1 HO1 HQqX ⊢
  clear k0 k1 k2 f0 f1 f2
  rw [rounds_succ]
  go_wp2_with fail
  go_ret2
  exact ⟨_, rfl, ⟨_, _, _, _, _, rfl, HS1.out, HQqX.out, HO1.out.1⟩, HO1.out.2⟩

end Go.Proofs.YtjhoiichkgjdaaaDoor
/- ratio: reckon. -/
namespace Go.Proofs.YtjhoiichkgjdaaaDoor
open Go.RowKit

def NumE (b w : World) (z : Rat) (e : Ending) (w' : World) : Prop := ∃ v', e = .returned (.tuple #[v', .int .i64 0]) ∧ NumIn w' v' z ∧ Below b.heap.size b w' ∧ Below w.heap.size w w'
end Go.Proofs.YtjhoiichkgjdaaaDoor
/- ratio: Sign, Cmp. -/
namespace Go.Proofs.YtjhoiichkgjdaaaDoor
open Go.RowKit

set_option maxRecDepth 100000 in
set_option maxHeartbeats 4000000 in
theorem raSign_any (w : World) (q : Rat) (hq : Fit q) :
    Calls Tryd.prog 9 #[.agg #[.bool (Big.ng q), .string (bst (Big.nu q)), .string (bst (Big.de q))]] w fun e w' => e = .returned (.int .i64 (sgQ q)) ∧ Below w.heap.size w w' := by
  have HRD := Lib.hid (fun W g (h : AtL W g 26 #[.bool (Big.ng q), .string (bst (Big.nu q)), .string (bst (Big.de q))]) => read1_any W g q h hq)
  have HB1 := Lib.hid (below_alloc (box1_below w (.cells #[.bool (Big.ng q), .string (bst (Big.nu q)), .string (bst (Big.de q))] 26)) (Nat.le_refl _) (.cells #[.bool (Big.ng q), .string (bst (Big.nu q)), .string (bst (Big.de q))] 26))
  have HN1 := AtL.new (w.alloc (.cells #[.bool (Big.ng q), .string (bst (Big.nu q)), .string (bst (Big.de q))] 26)) 26 #[.bool (Big.ng q), .string (bst (Big.nu q)), .string (bst (Big.de q))]
  rw [alloc_size] at HN1
  have HN1 := Lib.hid HN1
  clear hq
  go_enter Tryd.func9, Tryd.ntmps9
  go_wp2_with fail
  refine (HRD.out _ _ HN1.out).mono ?_
  generalize (w.alloc (.cells #[.bool (Big.ng q), .string (bst (Big.nu q)), .string (bst (Big.de q))] 26)).alloc (.cells #[.bool (Big.ng q), .string (bst (Big.nu q)), .string (bst (Big.de q))] 26) = wa at *
  rintro e w1 ⟨v1, rfl, ⟨g, a, b, rfl, hat, hnq⟩, hw1⟩
  have HB2 := Lib.hid (HB1.out.trans (hw1.mono HB1.out.size))
  obtain ⟨A, l, cc, B, m, dd, e1, -, -⟩ := hnq.is_agg
  simp only [Value.agg.injEq] at e1
  have e1a : a = .slice A l cc := by have := congrArg (fun z : Array Value => z[1]?) e1; simpa using this
  have e1b : b = .slice B m dd := by have := congrArg (fun z : Array Value => z[2]?) e1; simpa using this
  subst e1a e1b
  have HAT := Lib.hid hat; have HNQ := Lib.hid hnq
  clear e1 hat hnq hw1 HB1 HN1 HRD
  have c0 := HAT.out.cell 0 rfl; have c1 := HAT.out.cell 1 rfl; have c2 := HAT.out.cell 2 rfl
  go_wp2_with fail
  refine (exSign_any _ _ q HNQ.out).mono ?_
  rintro e w2 ⟨rfl, hw2⟩
  have HB3 := Lib.hid (HB2.out.trans (hw2.mono HB2.out.size))
  clear hw2 c0 c1 c2
  go_wp2_with fail
  go_ret
  exact ⟨rfl, HB3.out⟩

theorem cmpB {P : Program} {f : FuncId} {args : Array Value} {b W : World} {v : Value} (h : Below b.heap.size b W) (c : Calls P f args W fun e w' => e = .returned v ∧ Below W.heap.size W w') :
    Calls P f args W fun e w' => e = .returned v ∧ Below b.heap.size b w' :=
  c.mono fun _ _ ⟨h1, h2⟩ => ⟨h1, h.trans (h2.mono h.size)⟩
set_option maxRecDepth 100000 in
set_option maxHeartbeats 4000000 in
theorem raCmp_any (w : World) (q r : Rat) (hq : Fit q) (hr : Fit r) :
    Calls Tryd.prog 11 #[.agg #[.bool (Big.ng q), .string (bst (Big.nu q)), .string (bst (Big.de q))], .agg #[.bool (Big.ng r), .string (bst (Big.nu r)), .string (bst (Big.de r))]] w (Ret2 w (.int .i64 (Big.cmpQ q r)) 0) := by
  have HRD := Lib.hid (fun W g (h : AtL W g 26 #[.bool (Big.ng q), .string (bst (Big.nu q)), .string (bst (Big.de q)), .bool (Big.ng r), .string (bst (Big.nu r)), .string (bst (Big.de r))]) => read2_any W g q r h hq hr)
  have CC := Lib.hid (fun b W v u (h : NumIn W v q) (i : NumIn W u r) (hb : Below b.heap.size b W) => cmpB hb (exCmp_any W v u q r 64 h i hq.sm hr.sm (by omega)))
  have HB1 := Lib.hid (below_alloc (below_alloc (box1_below w (.cells #[.bool (Big.ng q), .string (bst (Big.nu q)), .string (bst (Big.de q))] 26)) (Nat.le_refl _) (.cells #[.bool (Big.ng r), .string (bst (Big.nu r)), .string (bst (Big.de r))] 26)) (Nat.le_refl _) (.cells #[.bool (Big.ng q), .string (bst (Big.nu q)), .string (bst (Big.de q)), .bool (Big.ng r), .string (bst (Big.nu r)), .string (bst (Big.de r))] 26))
  have HN1 := AtL.new ((w.alloc (.cells #[.bool (Big.ng q), .string (bst (Big.nu q)), .string (bst (Big.de q))] 26)).alloc (.cells #[.bool (Big.ng r), .string (bst (Big.nu r)), .string (bst (Big.de r))] 26)) 26 #[.bool (Big.ng q), .string (bst (Big.nu q)), .string (bst (Big.de q)), .bool (Big.ng r), .string (bst (Big.nu r)), .string (bst (Big.de r))]
  rw [alloc_size, alloc_size] at HN1
  have HN1 := Lib.hid HN1
  clear hq hr
  obtain ⟨Z, hZ⟩ : ∃ Z, Big.cmpQ q r = Z := ⟨_, rfl⟩
  rw [hZ] at CC ⊢
  clear hZ
  go_enter Tryd.func11, Tryd.ntmps11
  go_wp2_with fail
  refine (HRD.out _ _ HN1.out).mono ?_
  generalize ((w.alloc (.cells #[.bool (Big.ng q), .string (bst (Big.nu q)), .string (bst (Big.de q))] 26)).alloc (.cells #[.bool (Big.ng r), .string (bst (Big.nu r)), .string (bst (Big.de r))] 26)).alloc (.cells #[.bool (Big.ng q), .string (bst (Big.nu q)), .string (bst (Big.de q)), .bool (Big.ng r), .string (bst (Big.nu r)), .string (bst (Big.de r))] 26) = wa at *
  rintro e w1 ⟨v1, rfl, ⟨g, a, b, c, d, rfl, hat, hnq, hnr⟩, hw1⟩
  have HB2 := Lib.hid (HB1.out.trans (hw1.mono HB1.out.size))
  obtain ⟨A, l, cc, B, m, dd, e1, -, -⟩ := hnq.is_agg
  obtain ⟨A2, l2, cc2, B2, m2, dd2, e2, -, -⟩ := hnr.is_agg
  simp only [Value.agg.injEq] at e1 e2
  have e1a : a = .slice A l cc := by have := congrArg (fun z : Array Value => z[1]?) e1; simpa using this
  have e1b : b = .slice B m dd := by have := congrArg (fun z : Array Value => z[2]?) e1; simpa using this
  have e2a : c = .slice A2 l2 cc2 := by have := congrArg (fun z : Array Value => z[1]?) e2; simpa using this
  have e2b : d = .slice B2 m2 dd2 := by have := congrArg (fun z : Array Value => z[2]?) e2; simpa using this
  subst e1a e1b e2a e2b
  have KX := Lib.hid (fun W (h : Below w1.heap.size w1 W) => And.intro ((hat.keep h).cell 0 rfl) (And.intro ((hat.keep h).cell 1 rfl) (And.intro ((hat.keep h).cell 2 rfl) (And.intro ((hat.keep h).cell 3 rfl) (And.intro ((hat.keep h).cell 4 rfl) ((hat.keep h).cell 5 rfl))))))
  have CF := Lib.hid (fun W (h : Below w1.heap.size w1 W) => CC.out w1 W _ _ (hnq.keep h) (hnr.keep h) h)
  clear e1 e2 hat hnq hnr hw1 HB1 HN1 HRD CC
  go_wp2_with fail
  go_region_held3 (fun w' => w'.cell? ⟨g, 0, none⟩ = some (.bool (Big.ng q)) ∧ w'.cell? ⟨g, 1, none⟩ = some (.slice A l cc) ∧ w'.cell? ⟨g, 2, none⟩ = some (.slice B m dd) ∧ w'.cell? ⟨g, 3, none⟩ = some (.bool (Big.ng r)) ∧ w'.cell? ⟨g, 4, none⟩ = some (.slice A2 l2 cc2) ∧ w'.cell? ⟨g, 5, none⟩ = some (.slice B2 m2 dd2))
    (exact KX.out _ (by first | assumption | exact Below.refl _ _ | exact below_drew (Below.refl _ _) | exact below_drew (by assumption)))
    (first
      | (go_at_call 26; (with_reducible refine (CF.out _ (by first | assumption | exact Below.refl _ _ | exact below_drew (Below.refl _ _) | exact below_drew (by assumption))).mono ?_); rintro e w3 ⟨rfl, hw3⟩)
      | fail)
  have HB3 := Lib.hid (HB2.out.trans (hw3.mono HB2.out.size))
  clear hw3
  go_wp2_with fail
  go_ret2
  exact ⟨rfl, HB3.out⟩
end Go.Proofs.YtjhoiichkgjdaaaDoor
/- strconv: FormatUint, AppendUint at base 10. -/
namespace Go.Proofs.YtjhoiichkgjdaaaDoor
open Go.RowKit Go.Sort

/-- The table of powers of ten lies in memory as the program's text lays it. -/
def Tab (w : World) : Prop := Lib.TabIs Tryd.prog w "internal/strconv.uint64pow10" .u64 Lib.pow10Tab
theorem Tab.keep {w w' : World} (h : Tab w) (hb : Below w.heap.size w w') : Tab w' := Lib.tabBelow_of_tabIs h w' hb

set_option maxHeartbeats 4000000 in
set_option maxRecDepth 100000 in
theorem intFormatUint (u : Nat) (hu : u < 18446744073709551616) (w : World) (htab : Tab w) :
    Calls Tryd.prog 95 #[.int .u64 (u : Int), .int .i64 10] w fun e w' => e = .returned (.string ⟨(Lib.decDigits u).toArray⟩) ∧ Below w.heap.size w w' := by
  by_cases hs : u < 100
  · have C := Lib.hid (fun W => Tryd.internal_strconv_small u hs W)
    have i1 : (u : Int) < 100 := by omega
    go_enter Tryd.func95, Tryd.ntmps95
    go_wp2_with (go_at_call 91; refine (C.out _).mono ?_; rintro e w' ⟨rfl, rfl⟩)
    go_ret
    exact ⟨rfl, Below.refl _ _⟩
  · have hu1 : 1 ≤ u := by omega
    have i1 : ¬ (u : Int) < 100 := by omega
    have hnd20 : Lib.nDigits u ≤ 20 := by have := Lib.numDigits_eq u hu1 hu; split at this <;> omega
    have hal : Tryd.prog.arrayLen 108 = 24 := by kernel_rfl
    have hsl : ∀ W, (Instr.sliceAt 108 (.pointer (some ⟨w.heap.size, 0, none⟩)) none (some (.int .i64 (Lib.nDigits u : Int))) none).run Tryd.prog W = .ok (.slice (some ⟨w.heap.size, 0, none⟩) (Lib.nDigits u) 24) W := fun W => by
      rw [run_sliceAt_array_h W 108 ⟨w.heap.size, 0, none⟩ (by simp [Program.arrayLen, Program.elem, Tryd.underlying108]) .i64 (Lib.nDigits u : Int) (by omega) (by rw [hal]; omega)]
      go_simp
    have hH0 := Lib.holds_zero0 w 108 (Lib.nDigits u) (by omega)
    have hfmt := Tryd.internal_strconv_formatBase10 w.heap.size 0 24 u (Array.replicate (Lib.nDigits u) 0) (w.alloc (.cells Lib.zeros24 108)) hH0 (by rw [Array.size_replicate]; exact Lib.lt_pow_nDigits u) hu (by rw [Array.size_replicate]; omega)
    rw [Array.size_replicate] at hfmt
    have HH0 := Lib.hid hH0
    have HT := Lib.hid htab
    have HF := Lib.hid hfmt
    clear hH0 hal htab hfmt
    go_enter Tryd.func95, Tryd.ntmps95
    go_wp2_with (go_at_call 92; refine (Tryd.internal_strconv_numDigits u hu1 hu _ (Lib.tabIs_alloc HT.out _)).mono ?_; rintro e w' ⟨rfl, rfl⟩)
    refine HF.out.mono ?_
    rintro e w' ⟨rfl, k, v', dk, rfl, hF⟩
    have hcv : (convert 84 9 (.slice (some ⟨w.heap.size, 0, none⟩) (Lib.nDigits u) 24)).run Tryd.prog ((putRow (fun (b : UInt8) => Value.int .u8 (b.toNat : Int)) (w.alloc (.cells Lib.zeros24 108)) w.heap.size 0 dk).drewN k) = .ok (.string ⟨(Lib.decDigits u).toArray⟩) ((putRow (fun (b : UInt8) => Value.int .u8 (b.toNat : Int)) (w.alloc (.cells Lib.zeros24 108)) w.heap.size 0 dk).drewN k) := by
      have h := run_convert_bytes_back (P := Tryd.prog) ((putRow (fun (b : UInt8) => Value.int .u8 (b.toNat : Int)) (w.alloc (.cells Lib.zeros24 108)) w.heap.size 0 dk).drewN k) 84 9 5 ⟨w.heap.size, 0, none⟩ 24 (Lib.decDigits u) Tryd.underlying84 Tryd.underlying5 Tryd.underlying9 (fun j hj => by
        rw [Lib.row_is_numeral hF j hj, Lib.add_plain, World.cell?_drewN]
        exact cell?_putRow (fun (b : UInt8) => Value.int .u8 (b.toNat : Int)) _ w.heap.size 0 _ dk HH0.out (by rw [hF.size, Array.size_replicate]) j (by rw [hF.size]; rw [Lib.decDigits_length] at hj; exact hj))
      rw [Lib.decDigits_length] at h
      exact h
    obtain ⟨os, eo⟩ := Lib.fin_at w (.cells Lib.zeros24 108) dk k 0
    have HBel := Lib.hid (show Below w.heap.size w ((putRow (fun (b : UInt8) => Value.int .u8 (b.toNat : Int)) (w.alloc (.cells Lib.zeros24 108)) w.heap.size 0 dk).drewN k) by rw [eo]; exact Lib.below_grow w.heap.size w (Nat.le_refl _) k os)
    clear eo hF
    go_wp2_with fail
    go_ret
    exact ⟨rfl, HBel.out⟩
/-- strconv.FormatUint at base 10. -/
theorem formatUint_any (u : Nat) (hu : u < 18446744073709551616) (w : World) (htab : Tab w) :
    Calls Tryd.prog 81 #[.int .u64 (u : Int), .int .i64 10] w fun e w' => e = .returned (.string ⟨(Lib.decDigits u).toArray⟩) ∧ Below w.heap.size w w' := by
  have C := Lib.hid (fun W h => intFormatUint u hu W h)
  have HT := Lib.hid htab
  clear htab hu
  go_enter Tryd.func81, Tryd.ntmps81
  go_wp2_with fail
  refine (C.out _ HT.out).mono ?_
  rintro e w' ⟨rfl, hb⟩
  go_wp2_with fail
  go_ret
  exact ⟨rfl, hb⟩
/-- strconv.AppendUint at base 10: the digits behind what the slice holds. -/
theorem appendUint_any (B n u : Nat) (hu : u < 18446744073709551616) (sv : Value) (xs : List Value) (w : World) (hown : w.ownsRow B 5 1 sv n xs) (hBw : B ≤ w.heap.size) (hlim : n + 20 ≤ 140737488355328) (htab : Tab w) :
    Calls Tryd.prog 63 #[sv, .int .u64 (u : Int), .int .i64 10] w fun e w' => ∃ v', e = .returned v' ∧ w'.ownsRow B 5 1 v' (n + (Lib.decDigits u).length) (xs ++ Lib.byteCells (Lib.decDigits u)) ∧ Below B w w' := by
  have C := Lib.hid (Tryd.internal_strconv_AppendUint_10 B n u hu sv xs w hown hBw hlim htab)
  clear hown hBw hlim htab hu
  go_enter Tryd.func63, Tryd.ntmps63
  go_wp2_with fail
  refine C.out.mono ?_
  rintro e w' ⟨v', rfl, h1, h2, -⟩
  go_wp2_with fail
  go_ret
  exact ⟨_, rfl, h1, h2⟩
end Go.Proofs.YtjhoiichkgjdaaaDoor
