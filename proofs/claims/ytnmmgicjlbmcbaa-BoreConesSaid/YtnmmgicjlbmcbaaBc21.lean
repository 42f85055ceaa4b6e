/- Contracts, in this order: gauss: what its functions answer, by runs over numbers told  · ratio: size, answer, Of. · ratio: Of. · A block of known cells. · ratio: read, of one and of two. · ratio: reckon. · ratio: Sign, Cmp. · bore.Step over numbers told by expressions: bytes, and what  · bore.Step over numbers told by expressions: the sums. -/
import Derived.Test.YtnmmgicjlbmcbaaBc20
import Derived.Test.YtnmmgicjlbmcbaaBc18
import Derived.Lib.ItoaMem
import Derived.Test.YtnmmgicjlbmcbaaBc16
import Derived.LoopN
import Derived.Test.YtnmmgicjlbmcbaaBc19
namespace Go.Proofs.Ytnmmgicjlbmcbaa
open Go Go.RowKit
namespace Ev
noncomputable def symC : Cfg Sy := symCfg (fun _ _ => fail)
instance symCHard : HardLoc symC := ⟨fun _ _ => loc_fail⟩
theorem symLen_ok (ρ : Env) : ∀ f n w v, (symSig ρ).holds f w v → symLen f = some n → ∃ a c, v = .slice a n c := fun f n w v h e => by
  cases f with
  | n k =>
    have e' : wordsN k = n := Option.some.inj e
    obtain ⟨a, c, rfl⟩ := nat_slice (show NatIn w v k from h)
    exact ⟨a, c, by rw [e']⟩
  | _ => cases e
noncomputable def v0 : Qe := .v 0
noncomputable def v1 : Qe := .v 1
noncomputable def v2 : Qe := .v 2
noncomputable def v3 : Qe := .v 3
noncomputable def fits (e f : Qe) (s t : Bool) : List As := [⟨0, e, z0, s⟩, ⟨0, f, z0, t⟩]
set_option maxRecDepth 100000
end Ev
end Go.Proofs.Ytnmmgicjlbmcbaa
namespace Go.Proofs.Ytnmmgicjlbmcbaa
open Go.RowKit
set_option maxRecDepth 100000 in
set_option maxHeartbeats 4000000 in
theorem rasize_any (w : World) (n : Int) (h0 : -9223372036854775808 ≤ n) (h1 : n ≤ 9223372036854775807) :
    Calls Try.prog 30 #[.int .i64 n] w (Nat1 w n.natAbs) := by
  have hM : n.natAbs < Big.M64 := by unfold Big.M64; omega
  have C := Lib.hid (of_num w n.natAbs hM)
  clear hM
  by_cases hn : n < 0
  · obtain ⟨u, rfl⟩ : ∃ u : Nat, n = -(u : Int) := ⟨n.natAbs, by omega⟩
    have e : (-(u : Int)).natAbs = u := by omega
    rw [e] at C ⊢
    have hwr : IntKind.u64.wrap (-IntKind.u64.wrap (-(u : Int))) = (u : Int) := by rw [IntKind.wrap_u64, IntKind.wrap_u64]; omega
    clear e
    go_enter Try.func30, Try.ntmps30
    go_wp2_with fail
    refine C.out.mono ?_
    rintro e w' ⟨v', rfl, hv, hb⟩
    go_wp2_with fail
    go_ret
    exact ⟨_, rfl, hv, hb⟩
  · obtain ⟨u, rfl⟩ : ∃ u : Nat, n = (u : Int) := ⟨n.natAbs, by omega⟩
    have e : ((u : Int)).natAbs = u := by omega
    rw [e] at C ⊢
    clear e
    go_enter Try.func30, Try.ntmps30
    go_wp2_with fail
    refine C.out.mono ?_
    rintro e w' ⟨v', rfl, hv, hb⟩
    go_wp2_with fail
    go_ret
    exact ⟨_, rfl, hv, hb⟩
def Ret2 (w : World) (v : Value) (n : Int) (e : Ending) (w' : World) : Prop := e = .returned (.tuple #[v, .int .i64 n]) ∧ Below w.heap.size w w'
theorem At3.both {w w' : World} {g : Nat} {T : TypeId} {a b c : Value} (h : At3 w g T a b c) (hb : Below w.heap.size w w') (B : Nat) (w0 : World) (hB : Below B w0 w) : At3 w' g T a b c ∧ Below B w0 w' → At3 w' g T a b c := fun _ => h.keep hb
set_option maxRecDepth 100000 in
set_option maxHeartbeats 4000000 in
theorem answer_fit (w : World) (vx : Value) (q : Rat) (k : Nat) (hx : NumIn w vx q) (sx : Sm k q) (hk : k ≤ 10000000) (hf : Fit q) :
    Calls Try.prog 28 #[vx] w (Ret2 w (fracV q) 0) := by
  have SX := Lib.hid sx; have HF := Lib.hid hf
  obtain ⟨A, l, c, A2, l2, c2, rfl, hx1, hx2⟩ := hx.is_agg
  have HX := Lib.hid (And.intro hx1 hx2)
  have HQ := Lib.hid hx
  obtain ⟨X0, R0, B0⟩ := boxed2 w 53 25 (.bool (Big.ng q)) (.slice A l c) (.slice A2 l2 c2) (.bool false) (.string ⟨#[]⟩) (.string ⟨#[]⟩)
  have HR0 := Lib.hid R0; have HB0 := Lib.hid B0
  have x0 := X0.c0; have x1 := X0.c1; have x2 := X0.c2
  have C := Lib.hid (fun W (h : Below w.heap.size w W) => exFrac_fit W _ q k (HQ.out.keep h) SX.out hk HF.out)
  clear hx hx1 hx2 sx X0 R0 B0 hf
  go_enter Try.func28, Try.ntmps28
  go_wp2_with fail
  refine (C.out _ HB0.out).mono ?_
  generalize (w.alloc (.cells #[.bool (Big.ng q), .slice A l c, .slice A2 l2 c2] 53)).alloc (.cells #[.bool false, .string ⟨#[]⟩, .string ⟨#[]⟩] 25) = w0 at *
  rintro e w1 ⟨rfl, hw1⟩
  unfold fracV
  have HB1 := Lib.hid (HB0.out.trans (hw1.mono HB0.out.size))
  have R1 := HR0.out.keep hw1
  have hlt := R1.lt
  have HD := Lib.hid ((At3.put R1 (.bool (Big.ng q)) (.string (bst (Big.nu q))) (.string (bst (Big.de q)))).alloc' (.cells #[.bool (Big.ng q), .string (bst (Big.nu q)), .string (bst (Big.de q))] 25))
  have HE := Lib.hid (below_alloc (put_below HB1.out (show w.heap.size ≤ w.heap.size + 1 by omega) (.bool (Big.ng q)) (.string (bst (Big.nu q))) (.string (bst (Big.de q)))) (Nat.le_refl _) (.cells #[.bool (Big.ng q), .string (bst (Big.nu q)), .string (bst (Big.de q))] 25))
  have k0 := R1.c0; have k1 := R1.c1; have k2 := R1.c2; have f0 := R1.frozen 0; have f1 := R1.frozen 1; have f2 := R1.frozen 2
  clear R1 hw1 x0 x1 x2 HR0 C
  go_wp2_with fail
  generalize ((((w1.setCell ⟨w.heap.size + 1, 0, none⟩ (.bool (Big.ng q))).setCell ⟨w.heap.size + 1, 1, none⟩ (.string (bst (Big.nu q)))).setCell ⟨w.heap.size + 1, 2, none⟩ (.string (bst (Big.de q)))).alloc (.cells #[.bool (Big.ng q), .string (bst (Big.nu q)), .string (bst (Big.de q))] 25)) = wz at HD HE ⊢
  clear k0 k1 k2 f0 f1 f2
  have r0 := HD.out.c0; have r1 := HD.out.c1; have r2 := HD.out.c2
  exact bodyPost_ret (v := .tuple #[.agg #[.bool (Big.ng q), .string (bst (Big.nu q)), .string (bst (Big.de q))], .int .i64 0]) (by simp [results, Try.results28, go_sem, r0, r1, r2]) rfl ⟨rfl, HE.out⟩
end Go.Proofs.Ytnmmgicjlbmcbaa
namespace Go.Proofs.Ytnmmgicjlbmcbaa
open Go.RowKit
def ofQ (n d : Int) : Rat := mkRat (Big.sI (decide (n < 0) != decide (d < 0)) n.natAbs) d.natAbs
theorem ofQ_by {n d : Int} {k : Nat} (hn : n.natAbs < 256 ^ k) (hd : d.natAbs < 256 ^ k) (h0 : d ≠ 0) : By k (ofQ n d) := by
  obtain ⟨_, p2, p3⟩ := Big.of_parts (decide (n < 0) != decide (d < 0)) n.natAbs d.natAbs (by omega)
  unfold ofQ
  exact ⟨by rw [p2]; exact Nat.lt_of_le_of_lt (Nat.div_le_self _ _) hn, by rw [p3]; exact Nat.lt_of_le_of_lt (Nat.div_le_self _ _) hd⟩
set_option maxRecDepth 100000 in
set_option maxHeartbeats 4000000 in
theorem raOf_any (w : World) (n d : Int) (h0 : -9223372036854775808 ≤ n) (h1 : n ≤ 9223372036854775807) (h2 : -9223372036854775808 ≤ d) (h3 : d ≤ 9223372036854775807) (hd : d ≠ 0) :
    Calls Try.prog 13 #[.int .i64 n, .int .i64 d] w (Ret2 w (fracV (ofQ n d)) 0) := by
  have hb : By 8 (ofQ n d) := ofQ_by (by omega) (by omega) hd
  have HF := Lib.hid (hb.fit (by omega))
  have C1 := Lib.hid (fun W => rasize_any W n h0 h1)
  have C2 := Lib.hid (fun W => rasize_any W d h2 h3)
  have z1 : Sz 1 n.natAbs := sz_word (by unfold Big.M64; omega)
  have z2 : Sz 1 d.natAbs := sz_word (by unfold Big.M64; omega)
  have C3 := Lib.hid (fun W b v u (h : NatIn W v n.natAbs) (i : NatIn W u d.natAbs) => exOf_any W b v u n.natAbs d.natAbs 1 1 h i z1 z2 (by omega) (by omega) (by omega))
  have C4 := Lib.hid (fun W v (h : NumIn W v (ofQ n d)) => answer_fit W v _ 64 h HF.out.sm (by omega) HF.out)
  have hd0 : (d == 0) = false := beq_eq_false_iff_ne.2 hd
  have HOF := Lib.hid (show ofQ n d = mkRat (Big.sI (!(decide (n < 0) == decide (d < 0))) n.natAbs) d.natAbs from rfl)
  have HR0 := Lib.hid (At3.new w 25 (.bool false) (.string ⟨#[]⟩) (.string ⟨#[]⟩))
  have HB0 := Lib.hid (box1_below w (.cells #[.bool false, .string ⟨#[]⟩, .string ⟨#[]⟩] 25))
  clear hb z1 z2 hd h0 h1 h2 h3
  obtain ⟨Q, hQ⟩ : ∃ Q, ofQ n d = Q := ⟨_, rfl⟩
  rw [hQ] at HF C4 HOF ⊢
  clear hQ
  go_enter Try.func13, Try.ntmps13
  go_wp2_with fail
  generalize w.alloc (.cells #[.bool false, .string ⟨#[]⟩, .string ⟨#[]⟩] 25) = w0 at *
  refine (C1.out _).mono ?_
  rintro e w1 ⟨v1, rfl, hv1, hw1⟩
  go_wp2_with fail
  refine (C2.out _).mono ?_
  rintro e w2 ⟨v2, rfl, hv2, hw2⟩
  go_wp2_with fail
  refine (C3.out _ _ _ _ (hv1.keep hw2) hv2).mono ?_
  rintro e w3 ⟨v3, rfl, hv3, hw3⟩
  rw [← HOF.out] at hv3
  go_wp2_with fail
  refine (C4.out _ _ hv3).mono ?_
  rintro e w4 ⟨rfl, hw4⟩
  unfold fracV
  have b1 := HB0.out.trans (hw1.mono HB0.out.size)
  have b2 := b1.trans (hw2.mono b1.size)
  have b3 := b2.trans (hw3.mono b2.size)
  have b4 := b3.trans (hw4.mono b3.size)
  have R4 := (((HR0.out.keep hw1).keep hw2).keep hw3).keep hw4
  have HD := Lib.hid (At3.put R4 (.bool (Big.ng Q)) (.string (bst (Big.nu Q))) (.string (bst (Big.de Q))))
  have HE := Lib.hid (put_below b4 (Nat.le_refl _) (.bool (Big.ng Q)) (.string (bst (Big.nu Q))) (.string (bst (Big.de Q))))
  have k0 := R4.c0; have k1 := R4.c1; have k2 := R4.c2; have f0 := R4.frozen 0; have f1 := R4.frozen 1; have f2 := R4.frozen 2
  clear R4 b1 b2 b3 b4 hw1 hw2 hw3 hw4 hv1 hv2 hv3 C1 C2 C3 C4 HOF HR0 HB0
  go_wp2_with fail
  generalize (((w4.setCell ⟨w.heap.size, 0, none⟩ (.bool (Big.ng Q))).setCell ⟨w.heap.size, 1, none⟩ (.string (bst (Big.nu Q)))).setCell ⟨w.heap.size, 2, none⟩ (.string (bst (Big.de Q)))) = wz at HD HE ⊢
  clear k0 k1 k2 f0 f1 f2
  have r0 := HD.out.c0; have r1 := HD.out.c1; have r2 := HD.out.c2
  exact bodyPost_ret (v := .tuple #[.agg #[.bool (Big.ng Q), .string (bst (Big.nu Q)), .string (bst (Big.de Q))], .int .i64 0]) (by simp [results, Try.results13, go_sem, r0, r1, r2]) rfl ⟨rfl, HE.out⟩
end Go.Proofs.Ytnmmgicjlbmcbaa
namespace Go.Proofs.Ytnmmgicjlbmcbaa
open Go.RowKit
def AtL (w : World) (g : Nat) (T : TypeId) (cs : Array Value) : Prop := w.heap[g]? = some (.cells cs T (0, 0))
section
variable {w w' : World} {g : Nat} {T : TypeId} {cs : Array Value}
theorem AtL.lt (h : AtL w g T cs) : g < w.heap.size := by
  rcases Nat.lt_or_ge g w.heap.size with h1 | h1
  · exact h1
  · unfold AtL at h; rw [Array.getElem?_eq_none h1] at h; cases h
theorem AtL.cell (h : AtL w g T cs) (i : Nat) {x : Value} (hx : cs[i]? = some x) : w.cell? ⟨g, i, none⟩ = some x := by rw [cell_of_row w g i _ _ (0, 0) h]; exact hx
theorem AtL.frozen (h : AtL w g T cs) (i : Nat) : w.frozen? ⟨g, i, none⟩ = false := frozen_of_row w g i _ _ h
theorem AtL.new (w : World) (T : TypeId) (cs : Array Value) : AtL (w.alloc (.cells cs T)) w.heap.size T cs := heap_alloc_new w _
theorem AtL.alloc' (h : AtL w g T cs) (o : Obj) : AtL (w.alloc o) g T cs := (Below.heap_alloc w o g h.lt).trans h
theorem AtL.below (h : AtL w g T cs) {B : Nat} (hb : Below B w w') (hg : g < B) : AtL w' g T cs := (hb.block g hg).trans h
theorem AtL.keep (h : AtL w g T cs) (hb : Below w.heap.size w w') : AtL w' g T cs := h.below hb h.lt
theorem AtL.set (h : AtL w g T cs) (i : Nat) (x : Value) : AtL (w.setCell ⟨g, i, none⟩ x) g T (cs.setIfInBounds i x) := heap_setCell_same w g i _ _ x h
end
end Go.Proofs.Ytnmmgicjlbmcbaa
namespace Go.Proofs.Ytnmmgicjlbmcbaa
open Go.RowKit
def One (w : World) (v : Value) (q : Rat) : Prop := ∃ g a b, v = .slice (some ⟨g, 0, none⟩) 1 1 ∧ AtL w g 53 #[.bool (Big.ng q), a, b] ∧ NumIn w (.agg #[.bool (Big.ng q), a, b]) q
def Two (w : World) (v : Value) (q r : Rat) : Prop := ∃ g a b c d, v = .slice (some ⟨g, 0, none⟩) 2 2 ∧ AtL w g 53 #[.bool (Big.ng q), a, b, .bool (Big.ng r), c, d] ∧ NumIn w (.agg #[.bool (Big.ng q), a, b]) q ∧ NumIn w (.agg #[.bool (Big.ng r), c, d]) r
def TwoR (w : World) (q r : Rat) (e : Ending) (w' : World) : Prop := ∃ v, e = .returned (.tuple #[v, .bool true]) ∧ Two w' v q r ∧ Below w.heap.size w w'
theorem Try.infoNum : (Try.prog.info? 53).map (fun i => (i.zero, i.size, i.bytes)) = some (some (.agg #[.bool false, .slice none 0 0, .slice none 0 0]), 3, 56) := by kernel_rfl
theorem make_nums (n : Nat) (hn : n ≤ 1000) (cs : Array Value) (hcs : madeCells (Value.agg #[.bool false, .slice none 0 0, .slice none 0 0]).cells (n * 3) = cs) (w : World) :
    (Instr.makeSlice 63 (.int .i64 ((n : Nat) : Int)) (.int .i64 ((n : Nat) : Int))).run Try.prog w = .ok (.slice (some ⟨w.heap.size, 0, none⟩) n n) (w.alloc (.cells cs 53)) := by
  obtain ⟨i0, hi, hz0, hz1, hz2⟩ := info_parts Try.infoNum
  have hr := run_make (P := Try.prog) w 63 53 i0 _ Try.underlying63 hi hz0 .i64 .i64 (n : Int) (n : Int) (by omega) (by omega) (by rw [hz2]; omega) (by omega)
  rw [hz1] at hr
  simp only [Int.toNat_natCast] at hr
  rw [hr, hcs]
theorem AtL.no_int {w : World} {g : Nat} {T : TypeId} {cs : Array Value} (h : AtL w g T cs) (hc : ∀ v ∈ cs.toList, ∀ x, v ≠ .int .u64 x) (i : Nat) (x : Int) : w.cell? ⟨g, i, none⟩ ≠ some (.int .u64 x) := by
  rw [cell_of_row w g i _ _ (0, 0) h]
  intro e
  exact hc _ (by rw [Array.mem_toList_iff]; exact Array.mem_of_getElem? e) x rfl
theorem NumIn.only {w w' : World} {v : Value} {q : Rat} {g : Nat} (h : NumIn w v q) (hg : ∀ i x, w.cell? ⟨g, i, none⟩ ≠ some (.int .u64 x)) (ho : Only g w w') : NumIn w' v q := by
  obtain ⟨a, b, e, h1, h2⟩ := h; exact ⟨a, b, e, h1.only hg ho, h2.only hg ho⟩
theorem Only.alloc {g : Nat} {w w' : World} (h : Only g w w') (o : Obj) : Only g w (w'.alloc o) := h.trans (Only.of_below (box1_below w' o))
set_option maxRecDepth 100000 in
set_option maxHeartbeats 4000000 in
theorem read2_any (w : World) (g : Nat) (q r : Rat) (h : AtL w g 25 #[.bool (Big.ng q), .string (bst (Big.nu q)), .string (bst (Big.de q)), .bool (Big.ng r), .string (bst (Big.nu r)), .string (bst (Big.de r))]) (hfq : Fit q) (hfr : Fit r) :
    Calls Try.prog 21 #[.slice (some ⟨g, 0, none⟩) 2 2] w (TwoR w q r) := by
  have hmk : ∀ W, (Instr.makeSlice 63 (.int .i64 2) (.int .i64 2)).run Try.prog W = .ok (.slice (some ⟨W.heap.size, 0, none⟩) 2 2) (W.alloc (.cells #[.bool false, .slice none 0 0, .slice none 0 0, .bool false, .slice none 0 0, .slice none 0 0] 53)) := fun W => make_nums 2 (by omega) #[.bool false, .slice none 0 0, .slice none 0 0, .bool false, .slice none 0 0, .slice none 0 0] (by first | kernel_rfl | (simp [madeCells]; rfl)) W
  have HA := Lib.hid h
  have HRq := Lib.hid (fun W => exRead_ok W q hfq)
  have HRr := Lib.hid (fun W => exRead_ok W r hfr)
  have HN := Lib.hid (AtL.new w 53 #[.bool false, .slice none 0 0, .slice none 0 0, .bool false, .slice none 0 0, .slice none 0 0])
  have HB := Lib.hid (box1_below w (.cells #[.bool false, .slice none 0 0, .slice none 0 0, .bool false, .slice none 0 0, .slice none 0 0] 53))
  have hg := h.lt
  have h' := h.alloc' (.cells #[.bool false, .slice none 0 0, .slice none 0 0, .bool false, .slice none 0 0, .slice none 0 0] 53)
  have c0 := h'.cell 0 rfl
  have c1 := h'.cell 1 rfl
  have c2 := h'.cell 2 rfl
  clear h h' hfq hfr
  go_enter Try.func21, Try.ntmps21
  go_wp2_with fail
  refine wp_loop_rounds 3 ?_
  rw [rounds_succ]
  go_wp2_with fail
  clear hmk c0 c1 c2
  have HN0 := Lib.hid (HN.out.alloc' (.cells #[.bool (Big.ng q), .string (bst (Big.nu q)), .string (bst (Big.de q))] 25))
  have HB0 := Lib.hid (below_alloc HB.out (Nat.le_refl _) (.cells #[.bool (Big.ng q), .string (bst (Big.nu q)), .string (bst (Big.de q))] 25))
  generalize (w.alloc (.cells #[.bool false, .slice none 0 0, .slice none 0 0, .bool false, .slice none 0 0, .slice none 0 0] 53)).alloc (.cells #[.bool (Big.ng q), .string (bst (Big.nu q)), .string (bst (Big.de q))] 25) = wa0 at *
  refine (HRq.out _).mono ?_
  rintro e w0 ⟨v0, rfl, hv0, hw0⟩
  obtain ⟨A0, l0, c0, B0, m0, d0, rfl, ha0, hb0⟩ := hv0.is_agg
  have n0 := HN0.out.keep hw0
  have hlt0 := n0.lt
  have k0 := n0.cell 0 rfl; have k1 := n0.cell 1 rfl; have k2 := n0.cell 2 rfl
  have f0 := n0.frozen 0; have f1 := n0.frozen 1; have f2 := n0.frozen 2
  have s0 : AtL (((w0.setCell ⟨w.heap.size, 0, none⟩ (.bool (Big.ng q))).setCell ⟨w.heap.size, 1, none⟩ (.slice A0 l0 c0)).setCell ⟨w.heap.size, 2, none⟩ (.slice B0 m0 d0)) w.heap.size 53 #[.bool (Big.ng q), .slice A0 l0 c0, .slice B0 m0 d0, .bool false, .slice none 0 0, .slice none 0 0] := ((n0.set 0 (.bool (Big.ng q))).set 1 (.slice A0 l0 c0)).set 2 (.slice B0 m0 d0)
  have o0 := (((Only.refl w.heap.size w0).setCell 0 (.bool (Big.ng q))).setCell 1 (.slice A0 l0 c0)).setCell 2 (.slice B0 m0 d0)
  have ni0 := n0.no_int (by simp)
  have b0 := HB0.out.trans (hw0.mono HB0.out.size)
  have bb0 : Below w.heap.size w (((w0.setCell ⟨w.heap.size, 0, none⟩ (.bool (Big.ng q))).setCell ⟨w.heap.size, 1, none⟩ (.slice A0 l0 c0)).setCell ⟨w.heap.size, 2, none⟩ (.slice B0 m0 d0)) := ((b0.setCell (p := ⟨w.heap.size, 0, none⟩) (Nat.le_refl _) _).setCell (p := ⟨w.heap.size, 1, none⟩) (Nat.le_refl _) _).setCell (p := ⟨w.heap.size, 2, none⟩) (Nat.le_refl _) _
  have HS0 := Lib.hid (s0.alloc' (.cells #[.bool (Big.ng q), .slice A0 l0 c0, .slice B0 m0 d0] 53))
  have HO0 := Lib.hid (And.intro (hv0.only ni0 (o0.alloc (.cells #[.bool (Big.ng q), .slice A0 l0 c0, .slice B0 m0 d0] 53))) (below_alloc bb0 (Nat.le_refl _) (.cells #[.bool (Big.ng q), .slice A0 l0 c0, .slice B0 m0 d0] 53)))
  clear hv0 hw0 ha0 hb0 n0 s0 o0 ni0 b0 bb0
  go_wp2_with fail
  generalize ((((w0.setCell ⟨w.heap.size, 0, none⟩ (.bool (Big.ng q))).setCell ⟨w.heap.size, 1, none⟩ (.slice A0 l0 c0)).setCell ⟨w.heap.size, 2, none⟩ (.slice B0 m0 d0)).alloc (.cells #[.bool (Big.ng q), .slice A0 l0 c0, .slice B0 m0 d0] 53)) = wz0 at HS0 HO0  ⊢
  clear k0 k1 k2 f0 f1 f2
  have HQq := Lib.hid HO0.out.1; have HBz0 := Lib.hid HO0.out.2
  have h' := HA.out.keep HBz0.out
  have c0 := h'.cell 3 rfl
  have c1 := h'.cell 4 rfl
  have c2 := h'.cell 5 rfl
  clear h' HO0
  rw [rounds_succ]
  go_wp2_with fail
  clear c0 c1 c2
  have HN1 := Lib.hid (HS0.out.alloc' (.cells #[.bool (Big.ng r), .string (bst (Big.nu r)), .string (bst (Big.de r))] 25))
  have HB1 := Lib.hid (below_alloc HBz0.out (Nat.le_refl _) (.cells #[.bool (Big.ng r), .string (bst (Big.nu r)), .string (bst (Big.de r))] 25))
  have HQq1 := Lib.hid (HQq.out.keep (box1_below _ (.cells #[.bool (Big.ng r), .string (bst (Big.nu r)), .string (bst (Big.de r))] 25)))
  generalize wz0.alloc (.cells #[.bool (Big.ng r), .string (bst (Big.nu r)), .string (bst (Big.de r))] 25) = wa1 at *
  refine (HRr.out _).mono ?_
  rintro e w1 ⟨v1, rfl, hv1, hw1⟩
  obtain ⟨A1, l1, c1, B1, m1, d1, rfl, ha1, hb1⟩ := hv1.is_agg
  have n1 := HN1.out.keep hw1
  have hlt1 := n1.lt
  have k0 := n1.cell 3 rfl; have k1 := n1.cell 4 rfl; have k2 := n1.cell 5 rfl
  have f0 := n1.frozen 3; have f1 := n1.frozen 4; have f2 := n1.frozen 5
  have s1 : AtL (((w1.setCell ⟨w.heap.size, 3, none⟩ (.bool (Big.ng r))).setCell ⟨w.heap.size, 4, none⟩ (.slice A1 l1 c1)).setCell ⟨w.heap.size, 5, none⟩ (.slice B1 m1 d1)) w.heap.size 53 #[.bool (Big.ng q), .slice A0 l0 c0, .slice B0 m0 d0, .bool (Big.ng r), .slice A1 l1 c1, .slice B1 m1 d1] := ((n1.set 3 (.bool (Big.ng r))).set 4 (.slice A1 l1 c1)).set 5 (.slice B1 m1 d1)
  have o1 := (((Only.refl w.heap.size w1).setCell 3 (.bool (Big.ng r))).setCell 4 (.slice A1 l1 c1)).setCell 5 (.slice B1 m1 d1)
  have ni1 := n1.no_int (by simp)
  have b1 := HB1.out.trans (hw1.mono HB1.out.size)
  have bb1 : Below w.heap.size w (((w1.setCell ⟨w.heap.size, 3, none⟩ (.bool (Big.ng r))).setCell ⟨w.heap.size, 4, none⟩ (.slice A1 l1 c1)).setCell ⟨w.heap.size, 5, none⟩ (.slice B1 m1 d1)) := ((b1.setCell (p := ⟨w.heap.size, 3, none⟩) (Nat.le_refl _) _).setCell (p := ⟨w.heap.size, 4, none⟩) (Nat.le_refl _) _).setCell (p := ⟨w.heap.size, 5, none⟩) (Nat.le_refl _) _
  have HS1 := Lib.hid (s1.alloc' (.cells #[.bool (Big.ng r), .slice A1 l1 c1, .slice B1 m1 d1] 53))
  have HO1 := Lib.hid (And.intro (hv1.only ni1 (o1.alloc (.cells #[.bool (Big.ng r), .slice A1 l1 c1, .slice B1 m1 d1] 53))) (below_alloc bb1 (Nat.le_refl _) (.cells #[.bool (Big.ng r), .slice A1 l1 c1, .slice B1 m1 d1] 53)))
  have HQqX := Lib.hid ((HQq1.out.keep hw1).only ni1 (o1.alloc (.cells #[.bool (Big.ng r), .slice A1 l1 c1, .slice B1 m1 d1] 53)))
  clear hv1 hw1 ha1 hb1 n1 s1 o1 ni1 b1 bb1
  go_wp2_with fail
  generalize ((((w1.setCell ⟨w.heap.size, 3, none⟩ (.bool (Big.ng r))).setCell ⟨w.heap.size, 4, none⟩ (.slice A1 l1 c1)).setCell ⟨w.heap.size, 5, none⟩ (.slice B1 m1 d1)).alloc (.cells #[.bool (Big.ng r), .slice A1 l1 c1, .slice B1 m1 d1] 53)) = wz1 at HS1 HO1 HQqX ⊢
  clear k0 k1 k2 f0 f1 f2
  rw [rounds_succ]
  go_wp2_with fail
  go_ret2
  exact ⟨_, rfl, ⟨_, _, _, _, _, rfl, HS1.out, HQqX.out, HO1.out.1⟩, HO1.out.2⟩
end Go.Proofs.Ytnmmgicjlbmcbaa
namespace Go.Proofs.Ytnmmgicjlbmcbaa
open Go.RowKit
end Go.Proofs.Ytnmmgicjlbmcbaa
namespace Go.Proofs.Ytnmmgicjlbmcbaa
open Go.RowKit
theorem cmpB {P : Program} {f : FuncId} {args : Array Value} {b W : World} {v : Value} (h : Below b.heap.size b W) (c : Calls P f args W fun e w' => e = .returned v ∧ Below W.heap.size W w') :
    Calls P f args W fun e w' => e = .returned v ∧ Below b.heap.size b w' :=
  c.mono fun _ _ ⟨h1, h2⟩ => ⟨h1, h.trans (h2.mono h.size)⟩
set_option maxRecDepth 100000 in
set_option maxHeartbeats 4000000 in
theorem raCmp_any (w : World) (q r : Rat) (hq : Fit q) (hr : Fit r) :
    Calls Try.prog 7 #[.agg #[.bool (Big.ng q), .string (bst (Big.nu q)), .string (bst (Big.de q))], .agg #[.bool (Big.ng r), .string (bst (Big.nu r)), .string (bst (Big.de r))]] w (Ret2 w (.int .i64 (Big.cmpQ q r)) 0) := by
  have HRD := Lib.hid (fun W g (h : AtL W g 25 #[.bool (Big.ng q), .string (bst (Big.nu q)), .string (bst (Big.de q)), .bool (Big.ng r), .string (bst (Big.nu r)), .string (bst (Big.de r))]) => read2_any W g q r h hq hr)
  have CC := Lib.hid (fun b W v u (h : NumIn W v q) (i : NumIn W u r) (hb : Below b.heap.size b W) => cmpB hb (exCmp_any W v u q r 64 h i hq.sm hr.sm (by omega)))
  have HB1 := Lib.hid (below_alloc (below_alloc (box1_below w (.cells #[.bool (Big.ng q), .string (bst (Big.nu q)), .string (bst (Big.de q))] 25)) (Nat.le_refl _) (.cells #[.bool (Big.ng r), .string (bst (Big.nu r)), .string (bst (Big.de r))] 25)) (Nat.le_refl _) (.cells #[.bool (Big.ng q), .string (bst (Big.nu q)), .string (bst (Big.de q)), .bool (Big.ng r), .string (bst (Big.nu r)), .string (bst (Big.de r))] 25))
  have HN1 := AtL.new ((w.alloc (.cells #[.bool (Big.ng q), .string (bst (Big.nu q)), .string (bst (Big.de q))] 25)).alloc (.cells #[.bool (Big.ng r), .string (bst (Big.nu r)), .string (bst (Big.de r))] 25)) 25 #[.bool (Big.ng q), .string (bst (Big.nu q)), .string (bst (Big.de q)), .bool (Big.ng r), .string (bst (Big.nu r)), .string (bst (Big.de r))]
  rw [alloc_size, alloc_size] at HN1
  have HN1 := Lib.hid HN1
  clear hq hr
  obtain ⟨Z, hZ⟩ : ∃ Z, Big.cmpQ q r = Z := ⟨_, rfl⟩
  rw [hZ] at CC ⊢
  clear hZ
  go_enter Try.func7, Try.ntmps7
  go_wp2_with fail
  refine (HRD.out _ _ HN1.out).mono ?_
  generalize ((w.alloc (.cells #[.bool (Big.ng q), .string (bst (Big.nu q)), .string (bst (Big.de q))] 25)).alloc (.cells #[.bool (Big.ng r), .string (bst (Big.nu r)), .string (bst (Big.de r))] 25)).alloc (.cells #[.bool (Big.ng q), .string (bst (Big.nu q)), .string (bst (Big.de q)), .bool (Big.ng r), .string (bst (Big.nu r)), .string (bst (Big.de r))] 25) = wa at *
  rintro e w1 ⟨v1, rfl, ⟨g, a, b, c, d, rfl, hat, hnq, hnr⟩, hw1⟩
  have HB2 := Lib.hid (HB1.out.trans (hw1.mono HB1.out.size))
  obtain ⟨A, l, cc, B, m, dd, e1, -, -⟩ := hnq.is_agg
  obtain ⟨A2, l2, cc2, B2, m2, dd2, e2, -, -⟩ := hnr.is_agg
  simp only [Value.agg.injEq] at e1 e2
  have e1a : a = .slice A l cc := by have := congrArg (fun z : Array Value => z[1]?) e1; simpa using this
  have e1b : b = .slice B m dd := by have := congrArg (fun z : Array Value => z[2]?) e1; simpa using this
  have e2a : c = .slice A2 l2 cc2 := by have := congrArg (fun z : Array Value => z[1]?) e2; simpa using this
  have e2b : d = .slice B2 m2 dd2 := by have := congrArg (fun z : Array Value => z[2]?) e2; simpa using this
  subst e1a e1b e2a e2b
  have KX := Lib.hid (fun W (h : Below w1.heap.size w1 W) => And.intro ((hat.keep h).cell 0 rfl) (And.intro ((hat.keep h).cell 1 rfl) (And.intro ((hat.keep h).cell 2 rfl) (And.intro ((hat.keep h).cell 3 rfl) (And.intro ((hat.keep h).cell 4 rfl) ((hat.keep h).cell 5 rfl))))))
  have CF := Lib.hid (fun W (h : Below w1.heap.size w1 W) => CC.out w1 W _ _ (hnq.keep h) (hnr.keep h) h)
  clear e1 e2 hat hnq hnr hw1 HB1 HN1 HRD CC
  go_wp2_with fail
  go_region_held3 (fun w' => w'.cell? ⟨g, 0, none⟩ = some (.bool (Big.ng q)) ∧ w'.cell? ⟨g, 1, none⟩ = some (.slice A l cc) ∧ w'.cell? ⟨g, 2, none⟩ = some (.slice B m dd) ∧ w'.cell? ⟨g, 3, none⟩ = some (.bool (Big.ng r)) ∧ w'.cell? ⟨g, 4, none⟩ = some (.slice A2 l2 cc2) ∧ w'.cell? ⟨g, 5, none⟩ = some (.slice B2 m2 dd2))
    (exact KX.out _ (by first | assumption | exact Below.refl _ _ | exact below_drew (Below.refl _ _) | exact below_drew (by assumption)))
    (first
      | (go_at_call 22; (with_reducible refine (CF.out _ (by first | assumption | exact Below.refl _ _ | exact below_drew (Below.refl _ _) | exact below_drew (by assumption))).mono ?_); rintro e w3 ⟨rfl, hw3⟩)
      | fail)
  have HB3 := Lib.hid (HB2.out.trans (hw3.mono HB2.out.size))
  clear hw3
  go_wp2_with fail
  go_ret2
  exact ⟨rfl, HB3.out⟩
end Go.Proofs.Ytnmmgicjlbmcbaa
namespace Go.Proofs.Ytnmmgicjlbmcbaa
open Go Go.RowKit
namespace Ev
set_option maxRecDepth 100000
noncomputable def isU8 (v : Value) (n : Nat) : Bool := match v with
  | .int k m => match k with
    | .u8 => match m with
      | .ofNat j => Nat.beq j n
      | _ => false
    | _ => false
  | _ => false
theorem isU8_ok {v : Value} {n : Nat} (h : isU8 v n = true) : v = .int .u8 (n : Nat) := by
  unfold isU8 at h
  split at h
  · split at h
    · split at h
      · rw [Nat.eq_of_beq_eq_true h]; rfl
      · cases h
    · cases h
  · cases h
noncomputable def natI (v : Value) : Option Nat := match v with
  | .int k m => match k with
    | .i64 => match m with
      | .ofNat j => some j
      | _ => none
    | _ => none
  | _ => none
theorem natI_ok {v : Value} {n : Nat} (h : natI v = some n) : v = .int .i64 (n : Nat) := by
  unfold natI at h
  split at h
  · split at h
    · split at h
      · cases h; rfl
      · cases h
    · cases h
  · cases h
noncomputable def natU (v : Value) : Option Nat := match v with
  | .int k m => match k with
    | .u64 => match m with
      | .ofNat j => some j
      | _ => none
    | _ => none
  | _ => none
theorem natU_ok {v : Value} {n : Nat} (h : natU v = some n) : v = .int .u64 (n : Nat) := by
  unfold natU at h
  split at h
  · split at h
    · split at h
      · cases h; rfl
      · cases h
    · cases h
  · cases h
noncomputable def cVal (f : Sy) : M Sy Nxt := bind (newFact f) fun v => val v
theorem loc_cVal (f : Sy) : Loc (cVal f) := loc_bind (loc_newFact _) fun _ => loc_val _
noncomputable def cRem (b : Value) (x : Sy) : M Sy Nxt := match x with
  | .bj k i => match k with
    | 0 => cond (isU8 b 20) (cVal (.bj 1 i)) fail
    | _ => fail
  | .bk m k => cond (isU8 b m && Nat.ble 1 m) (val (.int .u8 (Int.ofNat k))) fail
  | _ => fail
noncomputable def cAdd (b : Value) (x : Sy) : M Sy Nxt := match x with
  | .bj k i => match k with
    | 2 => match natI b with
      | some n => cond (Nat.beq n 1) (cVal (.bj 3 i)) fail
      | none => fail
    | _ => fail
  | _ => fail
noncomputable def cConv (x : Sy) : M Sy Nxt := match x with
  | .bj k i => match k with
    | 1 => cVal (.bj 2 i)
    | _ => fail
  | _ => fail
noncomputable def cHard (o : Oper) (vs : List Value) : M Sy Nxt := match o.op with
  | .binOp op _ _ _ _ => match vs with
    | [a, b] => match op with
      | .rem => bind (fact a) (cRem b)
      | .add => bind (fact a) (cAdd b)
      | _ => fail
    | _ => fail
  | .convert s d _ => match vs with
    | [a] => cond (Nat.beq s 5 && Nat.beq d 2) (bind (fact a) cConv) fail
    | _ => fail
  | _ => fail
theorem loc_cHard (o : Oper) (vs : List Value) : Loc (cHard o vs) := by
  unfold cHard
  (repeat' split) <;> first
    | exact loc_fail
    | (refine loc_bind (loc_fact _) fun x => ?_
       first | unfold cRem | unfold cAdd
       (repeat' split) <;> first | exact loc_fail | exact loc_cond (loc_cVal _) loc_fail | exact loc_cond (loc_val _) loc_fail)
    | (refine loc_cond (loc_bind (loc_fact _) fun x => ?_) loc_fail
       unfold cConv
       (repeat' split) <;> first | exact loc_fail | exact loc_cVal _)
theorem wrap_low {x : Int} (h0 : 0 ≤ x) (h1 : x < 1000) : IntKind.i64.wrap x = x := by
  have e : (2 : Int) ^ IntKind.i64.bits = 18446744073709551616 := by decide
  have e2 : (2 : Int) ^ (IntKind.i64.bits - 1) = 9223372036854775808 := by decide
  unfold IntKind.wrap
  simp [e, e2]
  omega
theorem rem_u8 (t : TypeId) (p q : Operand) (a m : Nat) (hm : m ≠ 0) (w : World) :
    (do eqGuard .rem t p q (.int .u8 (a : Nat)) (.int .u8 (m : Nat)); binOp .rem t (.int .u8 (a : Nat)) (.int .u8 (m : Nat)) : Sem Value).run Try.prog w = .ok (.int .u8 ((a % m : Nat) : Int)) w := by
  have h0 : ((m : Nat) : Int) ≠ 0 := by omega
  simp [eqGuard, binOp, Op.intDiv, h0, hm]
  exact Int.tmod_eq_emod_of_nonneg (by omega)
theorem add_i64 (t : TypeId) (p q : Operand) (n : Nat) (hn : n < 20) (w : World) :
    (do eqGuard .add t p q (.int .i64 (n : Nat)) (.int .i64 ((1 : Nat) : Int)); binOp .add t (.int .i64 (n : Nat)) (.int .i64 ((1 : Nat) : Int)) : Sem Value).run Try.prog w = .ok (.int .i64 ((n + 1 : Nat) : Int)) w := by
  have h : IntKind.i64.wrap ((n : Int) + 1) = (n : Int) + 1 := wrap_low (by omega) (by omega)
  simp [eqGuard, binOp, Op.intArith, h]
theorem conv_u8 (n : Nat) (hn : n < 20) (w : World) : (convert 5 2 (.int .u8 (n : Nat))).run Try.prog w = .ok (.int .i64 (n : Nat)) w := by
  have h := run_convert_int (P := Try.prog) w 5 2 .u8 (n : Int) (by kernel_rfl) (by kernel_rfl)
  rw [h]
  have e : Try.prog.intKind 2 = .i64 := by kernel_rfl
  rw [e]
  have h : IntKind.i64.wrap (n : Int) = (n : Int) := wrap_low (by omega) (by omega)
  rw [h]
section
variable {ρ : Env} {A : List As} {h h' : Tr (Blk Sy)} {nx nx' : Nat} {R W : List Nat} {r : Ren} {w : World}
theorem cVal_ok {f : Sy} {x : Nxt} {v' : Value} (e : cVal f h nx = .ok x h' nx' R W) (hM : Mod (symSig ρ) r h.get w) (hN : New r nx nx') (hv : f.holds ρ w v') :
    nx ≤ nx' ∧ ∃ v r', x = .val v ∧ VR r' v v' ∧ Ext (symSig ρ) r w nx nx' W h'.get r' w := by
  obtain ⟨v, h0, nx0, R0, W0, R1, W1, e0, e1, rfl, rfl⟩ := bind_ok e
  obtain ⟨rfl, rfl, rfl, rfl⟩ := val_ok e1
  obtain ⟨i, h2, nx2, R2, W2, R3, W3, e2, e3, rfl, rfl⟩ := bind_ok e0
  obtain ⟨rfl, rfl, rfl, rfl⟩ := ret_ok e3
  unfold fresh at e2
  cases e2
  obtain ⟨r', hX, hr⟩ := ext_fact (S := symSig ρ) (f := f) hM (Below.refl _ w) hN hv (Sy.one hv)
  exact ⟨Nat.le_succ _, _, r', rfl, .opq hr (Sy.one hv), by simpa using hX.congr fun n => .inr (Tr.get_set _ _ _ _)⟩
theorem cHard_ok {C : Cfg Sy} (hC : C.hard = cHard) : HardOK (symSig ρ) Try.prog C := by
  intro o vs h nx x h' nx' R W hs e r w ρo hM hN hv
  rw [hC] at e
  unfold cHard at e
  cases hop : o.op with
  | binOp op t p q yt =>
    rw [hop] at e
    simp only at e
    have hops : o.op.operands.toList.map ρo = [ρo p, ρo q] := by rw [hop]; rfl
    rw [hops] at hv
    rcases vs with _ | ⟨u, _ | ⟨v, _ | ⟨z, l⟩⟩⟩ <;> first | (cases (show (fail : M Sy Nxt) h nx = _ from e); done) | skip
    cases hv with
    | cons hu hv => cases hv with
      | cons hv hn =>
        cases op <;> first | (cases (show (fail : M Sy Nxt) h nx = _ from e); done) | skip
        · -- add
          obtain ⟨f, h1, nx1, R1, W1, R2, W2, e3, e4, rfl, rfl⟩ := bind_ok (show bind (fact u) (cAdd v) h nx = _ from e)
          obtain ⟨rfl, rfl, rfl, hf⟩ := fact_ok e3 hu hM
          unfold cAdd at e4
          cases f <;> first | (cases (show (fail : M Sy Nxt) _ _ = _ from e4); done) | skip
          rename_i k i
          rcases k with _ | _ | _ | k <;> first | (cases (show (fail : M Sy Nxt) _ _ = _ from e4); done) | skip
          simp only at e4
          cases hb : natI v with
          | none => rw [hb] at e4; cases (show (fail : M Sy Nxt) _ _ = _ from e4)
          | some n1 =>
            rw [hb] at e4
            obtain ⟨hk, e5⟩ := cond_ok e4
            have := Nat.eq_of_beq_eq_true hk
            subst this
            have := natI_ok hb
            subst this
            have hq : ρo q = .int .i64 ((1 : Nat) : Int) := hv.eq_of_plain rfl
            obtain ⟨n, hn20, hρ, hp⟩ := hf
            have hp : ρo p = .int .i64 (n : Nat) := hp
            obtain ⟨hle, v1, r', rfl, hvr, hX⟩ := cVal_ok (v' := .int .i64 ((n + 1 : Nat) : Int)) e5 hM hN ⟨n, hn20, hρ, rfl⟩
            refine ⟨hle, _, w, r', ?_, hvr, by simpa using hX⟩
            simp only [execOp, hop, hp, hq]
            rw [Sem.run_bind, add_i64 t p q n hn20 w]
            rfl
        · -- rem
          obtain ⟨f, h1, nx1, R1, W1, R2, W2, e3, e4, rfl, rfl⟩ := bind_ok (show bind (fact u) (cRem v) h nx = _ from e)
          obtain ⟨rfl, rfl, rfl, hf⟩ := fact_ok e3 hu hM
          unfold cRem at e4
          cases f <;> first | (cases (show (fail : M Sy Nxt) _ _ = _ from e4); done) | skip
          · rename_i k i
            rcases k with _ | k <;> first | (cases (show (fail : M Sy Nxt) _ _ = _ from e4); done) | skip
            obtain ⟨hk, e5⟩ := cond_ok e4
            have := isU8_ok hk
            subst this
            have hq : ρo q = .int .u8 ((20 : Nat) : Int) := hv.eq_of_plain rfl
            obtain ⟨n, hn20, hρ, x0, hx, hxn, hp⟩ := hf
            obtain ⟨hle, v1, r', rfl, hvr, hX⟩ := cVal_ok (v' := .int .u8 (n : Nat)) e5 hM hN ⟨n, hn20, hρ, rfl⟩
            refine ⟨hle, _, w, r', ?_, hvr, by simpa using hX⟩
            simp only [execOp, hop, hp, hq]
            rw [Sem.run_bind, rem_u8 t p q x0 20 (by decide) w, hxn]
            rfl
          · rename_i m k
            obtain ⟨hk, e5⟩ := cond_ok e4
            simp only [Bool.and_eq_true] at hk
            have := isU8_ok hk.1
            subst this
            have hm := Nat.le_of_ble_eq_true hk.2
            have hq : ρo q = .int .u8 (m : Nat) := hv.eq_of_plain rfl
            obtain ⟨x0, hx, hxk, hp⟩ := hf
            obtain ⟨rfl, rfl, rfl, rfl⟩ := val_ok e5
            refine ⟨Nat.le_refl _, _, w, r, ?_, .same rfl, by simpa using Ext.refl _ _ hM⟩
            simp only [execOp, hop, hp, hq]
            rw [Sem.run_bind, rem_u8 t p q x0 m (by omega) w, hxk]
            rfl
  | convert s d y =>
    rw [hop] at e
    simp only at e
    have hops : o.op.operands.toList.map ρo = [ρo y] := by rw [hop]; rfl
    rw [hops] at hv
    rcases vs with _ | ⟨u, _ | ⟨z, l⟩⟩ <;> first | (cases (show (fail : M Sy Nxt) h nx = _ from e); done) | skip
    cases hv with
    | cons hu hv =>
      obtain ⟨hk, e0⟩ := cond_ok e
      simp only [Bool.and_eq_true] at hk
      obtain rfl := Nat.eq_of_beq_eq_true hk.1
      obtain rfl := Nat.eq_of_beq_eq_true hk.2
      obtain ⟨f, h1, nx1, R1, W1, R2, W2, e3, e4, rfl, rfl⟩ := bind_ok e0
      obtain ⟨rfl, rfl, rfl, hf⟩ := fact_ok e3 hu hM
      unfold cConv at e4
      cases f <;> first | (cases (show (fail : M Sy Nxt) _ _ = _ from e4); done) | skip
      rename_i k i
      rcases k with _ | _ | k <;> first | (cases (show (fail : M Sy Nxt) _ _ = _ from e4); done) | skip
      obtain ⟨n, hn20, hρ, hp⟩ := hf
      have hp : ρo y = .int .u8 (n : Nat) := hp
      obtain ⟨hle, v1, r', rfl, hvr, hX⟩ := cVal_ok (v' := .int .i64 (n : Nat)) e4 hM hN ⟨n, hn20, hρ, rfl⟩
      refine ⟨hle, _, w, r', ?_, hvr, by simpa using hX⟩
      simp only [execOp, hop, hp]
      rw [Sem.run_bind, conv_u8 n hn20 w]
      rfl
  | _ => rw [hop] at e; cases (show (fail : M Sy Nxt) h nx = _ from e)
end
end Ev
end Go.Proofs.Ytnmmgicjlbmcbaa
namespace Go.Proofs.Ytnmmgicjlbmcbaa
open Go Go.RowKit
namespace Ev
set_option maxRecDepth 100000
theorem mod_Gc {F : Type} {S : Sig F} {r : Ren} {w : World} {g : Nat → Option (Blk F)} (hM : Mod S r g w) (hG : S.G = Try.prog.globals.size) : Try.prog.globals.size ≤ w.heap.size := by
  rcases Nat.eq_zero_or_pos Try.prog.globals.size with h0 | h0
  · omega
  · have := hM.lt _ _ (hM.glob (Try.prog.globals.size - 1) (by rw [hG]; omega))
    omega
theorem bfact {ρ : Env} {f0 : Sy} {f : FuncId} {args' : List Value} {h h' : Tr (Blk Sy)} {nx nx' : Nat} {R W : List Nat} {r : Ren} {w : World} {v : Value} (e : (newFact f0 : M Sy Value) h nx = .ok v h' nx' R W) (hM : Mod (symSig ρ) r h.get w) (hN : New r nx nx')
    (c : Calls Try.prog f ⟨args'⟩ w fun e w' => ∃ v', e = .returned v' ∧ f0.holds ρ w' v' ∧ Below w.heap.size w w') : GoesS ρ f args' r w nx nx' W h'.get v := by
  obtain ⟨i, h1, nx1, R1, W1, R2, W2, e1, e2, rfl, rfl⟩ := bind_ok e
  obtain ⟨rfl, rfl, rfl, rfl⟩ := ret_ok e2
  unfold fresh at e1
  cases e1
  refine c.mono ?_
  rintro en w' ⟨v', rfl, hv, hb⟩
  obtain ⟨r', hX, hr⟩ := ext_fact (S := symSig ρ) (f := f0) hM hb hN hv (Sy.one hv)
  exact ⟨v', r', rfl, .opq hr (Sy.one hv), by simpa using hX.congr fun n => .inr (Tr.get_set _ _ _ _)⟩
noncomputable def lowE (A : List As) (e : Qe) : Bool := match ask A 8 e z0 with
  | some t => t
  | none => false
theorem lowE_ok {ρ : Env} {A : List As} (hA : AllH ρ A) {e : Qe} (h : lowE A e = true) : Big.nu (e.ev ρ.q) < 65535 ∧ Big.de (e.ev ρ.q) < 65535 := by
  unfold lowE at h
  cases ha : ask A 8 e z0 with
  | none => rw [ha] at h; cases h
  | some t =>
    rw [ha] at h
    obtain ⟨x, hx, h1, rfl, _, rfl⟩ := ask_ok ha
    have := hA x hx
    unfold As.holds at this
    rw [h1] at this
    exact this h
noncomputable def ofS (args : List Value) : Option (M Sy Value) := match args with
  | [a] => match natU a with
    | some n => cond (Nat.ble n 65535) (some (newFact (.n n))) none
    | none => none
  | _ => none
noncomputable def cmA (A : List As) (x : Sy) : M Sy Value := match x with
  | .nu e => cond (lowE A e) (ret (.int .i64 (-1))) fail
  | .de e => cond (lowE A e) (ret (.int .i64 (-1))) fail
  | _ => fail
noncomputable def is6 (x : Sy) : Bool := match x with
  | .n k => Nat.beq k 65535
  | _ => false
noncomputable def cmpS (A : List As) (args : List Value) : Option (M Sy Value) := match args with
  | [a, b] => some (bind (fact b) fun y => cond (is6 y) (bind (fact a) (cmA A)) fail)
  | _ => none
noncomputable def wholeS (args : List Value) : Option (M Sy Value) := match args with
  | [a] => match natI a with
    | some n => cond (Nat.ble 1 n && Nat.ble n 30) (some (newNum (.c false n 1))) none
    | none => none
  | _ => none
noncomputable def ofA (x : Sy) : M Sy Value := match x with
  | .bj k i => match k with
    | 3 => bind (newFacts [.ng (.v i), .fn (.v i), .fd (.v i)]) fun vs => ret (.tuple ⟨[.agg ⟨vs⟩, .int .i64 0]⟩)
    | _ => fail
  | _ => fail
noncomputable def ofR (args : List Value) : Option (M Sy Value) := match args with
  | [a, b] => match natI b with
    | some n => cond (Nat.beq n 4) (some (bind (fact a) ofA)) none
    | none => none
  | _ => none
noncomputable def cmpE (A : List As) (e g : Qe) : Option Int := match ask A 9 e g with
  | some t => cond t (some (-1)) (match ask A 2 e g with
    | some t => some (cond t 0 1)
    | none => none)
  | none => none
theorem cmpE_ok {ρ : Env} {A : List As} (hA : AllH ρ A) {e g : Qe} {z : Int} (h : cmpE A e g = some z) : z = Big.cmpQ (e.ev ρ.q) (g.ev ρ.q) := by
  unfold cmpE at h
  unfold Big.cmpQ
  cases ha : ask A 9 e g with
  | none => rw [ha] at h; cases h
  | some t =>
    rw [ha] at h
    obtain ⟨x, hx, h1, rfl, rfl, rfl⟩ := ask_ok ha
    have hl := hA x hx
    unfold As.holds at hl
    rw [h1] at hl
    have hl : x.t = true ↔ x.a.ev ρ.q < x.b.ev ρ.q := hl
    cases ht : x.t with
    | true =>
      rw [ht] at h hl
      cases h
      rw [if_pos (hl.1 rfl)]
    | false =>
      rw [ht] at h hl
      have hn : ¬ x.a.ev ρ.q < x.b.ev ρ.q := fun q => by cases hl.2 q
      rw [if_neg hn]
      simp only [cond_false] at h
      cases hs : ask A 2 x.a x.b with
      | none => rw [hs] at h; cases h
      | some t2 =>
        rw [hs] at h
        have he := ask_same hA hs
        cases t2 with
        | true => cases h; rw [if_pos (he.1 rfl)]; rfl
        | false =>
          cases h
          rw [if_neg fun q => by cases he.2 q]; rfl
noncomputable def cmpR (A : List As) (args : List Value) : Option (M Sy Value) := match args with
  | [a, b] => match a with
    | .agg x => match b with
      | .agg y => some (bind (frcV x.toList) fun o => bind (frcV y.toList) fun p => match o with
        | some e => match p with
          | some g => match fitB A e with
            | some s => match fitB A g with
              | some t => cond (s && t) (match cmpE A e g with
                | some z => ret (.tuple ⟨[.int .i64 z, .int .i64 0]⟩)
                | none => fail) fail
              | none => fail
            | none => fail
          | none => fail
        | none => fail)
      | _ => none
    | _ => none
  | _ => none
theorem loc_cmA (A : List As) (x : Sy) : Loc (cmA A x) := by
  unfold cmA
  (repeat' split) <;> first | exact loc_fail | exact loc_cond (loc_ret _) loc_fail
theorem loc_ofA (x : Sy) : Loc (ofA x) := by
  unfold ofA
  (repeat' split) <;> first | exact loc_fail | exact loc_bind (loc_newFacts _) fun _ => loc_ret _
section
variable {ρ : Env} {A : List As}
theorem c_of : SumF (symSig ρ) Try.prog 41 ofS := by
  intro args m e
  unfold ofS at e
  rcases args with _ | ⟨a, _ | ⟨c, l⟩⟩ <;> simp only [reduceCtorEq] at e
  cases hn : natU a with
  | none => rw [hn] at e; cases e
  | some n =>
    rw [hn] at e
    simp only at e
    cases hb : Nat.ble n 65535 with
    | false => rw [hb] at e; cases e
    | true =>
      rw [hb] at e
      cases e
      refine ⟨loc_newFact _, fun h nx v h' nx' R W e r w args' ha hM hN => ?_⟩
      have := natU_ok hn
      subst this
      cases ha with
      | cons h1 h2 =>
        cases h2
        rw [h1.eq_of_plain rfl]
        have hlt := Nat.le_of_ble_eq_true hb
        exact bfact e hM hN (of_num w n (Nat.lt_of_le_of_lt hlt (by decide)))
theorem c_cmp (hA : AllH ρ A) : SumF (symSig ρ) Try.prog 43 (cmpS A) := by
  intro args m e
  unfold cmpS at e
  rcases args with _ | ⟨a, _ | ⟨b, _ | ⟨c, l⟩⟩⟩ <;> simp only [reduceCtorEq, Option.some.injEq] at e
  subst e
  refine ⟨loc_bind (loc_fact _) fun y => loc_cond (loc_bind (loc_fact _) fun x => loc_cmA A x) loc_fail, fun h nx v h' nx' R W e r w args' ha hM hN => ?_⟩
  cases ha with
  | cons h1 h2 => cases h2 with
    | cons h2 h3 =>
      cases h3
      obtain ⟨y, k1, nx1, R1, W1, R2, W2, e1, e2, rfl, rfl⟩ := bind_ok e
      obtain ⟨rfl, rfl, rfl, hy⟩ := fact_ok e1 h2 hM
      obtain ⟨hk, e3⟩ := cond_ok e2
      obtain ⟨x, k2, nx2, R3, W3, R4, W4, e4, e5, rfl, rfl⟩ := bind_ok e3
      obtain ⟨rfl, rfl, rfl, hx⟩ := fact_ok e4 h1 hM
      unfold is6 at hk
      cases y <;> first | (cases hk; done) | skip
      have := Nat.eq_of_beq_eq_true hk
      subst this
      have key : ∀ (n : Nat) (u : Value), NatIn w u n → n < 65535 → (ret (.int .i64 (-1)) : M Sy Value) k2 nx2 = .ok v h' nx' R4 W4 → GoesS ρ 43 [u, _] r w nx2 nx' W4 h'.get v := fun n u hu hn e6 =>
        goes_pl e6 rfl hM ((drew_below (cmp_num w u _ n 65535 hu hy)).mono fun _ _ ⟨q1, q2⟩ => ⟨by rw [q1, show Big.cmpI n 65535 = -1 from by unfold Big.cmpI; rw [if_pos hn]], q2⟩)
      unfold cmA at e5
      cases x <;> first | (cases (show (fail : M Sy Value) _ _ = _ from e5); done) | skip
      · obtain ⟨hl, e6⟩ := cond_ok e5
        simpa [GoesS] using key _ _ hx (lowE_ok hA hl).1 e6
      · obtain ⟨hl, e6⟩ := cond_ok e5
        simpa [GoesS] using key _ _ hx (lowE_ok hA hl).2 e6
theorem ofQ_4 (n : Nat) : ofQ ((n + 1 : Nat) : Int) ((4 : Nat) : Int) = mkRat ((n + 1 : Nat) : Int) 4 := by
  unfold ofQ
  have h1 : decide ((((n + 1 : Nat) : Int)) < 0) = false := decide_eq_false (by omega)
  have h2 : decide ((((4 : Nat) : Int)) < 0) = false := by decide
  rw [h1, h2]
  rfl
theorem c_ofr : SumF (symSig ρ) Try.prog 13 ofR := by
  intro args m e
  unfold ofR at e
  rcases args with _ | ⟨a, _ | ⟨b, _ | ⟨c, l⟩⟩⟩ <;> simp only [reduceCtorEq] at e
  cases hn : natI b with
  | none => rw [hn] at e; cases e
  | some n =>
    rw [hn] at e
    simp only at e
    cases hb : Nat.beq n 4 with
    | false => rw [hb] at e; cases e
    | true =>
      rw [hb] at e
      cases e
      obtain rfl := Nat.eq_of_beq_eq_true hb
      refine ⟨loc_bind (loc_fact _) fun x => loc_ofA x, fun h nx v h' nx' R W e r w args' ha hM hN => ?_⟩
      have := natI_ok hn
      subst this
      cases ha with
      | cons h1 h2 => cases h2 with
        | cons h2 h3 =>
          cases h3
          rw [h2.eq_of_plain rfl]
          obtain ⟨x, k1, nx1, R1, W1, R2, W2, e1, e2, rfl, rfl⟩ := bind_ok e
          obtain ⟨rfl, rfl, rfl, hx⟩ := fact_ok e1 h1 hM
          unfold ofA at e2
          cases x <;> first | (cases (show (fail : M Sy Value) _ _ = _ from e2); done) | skip
          rename_i k i
          rcases k with _ | _ | _ | _ | k <;> first | (cases (show (fail : M Sy Value) _ _ = _ from e2); done) | skip
          obtain ⟨n, hn20, hρ, hp⟩ := hx
          have hp : _ = Value.int .i64 ((n + 1 : Nat) : Int) := hp
          subst hp
          have c := raOf_any w ((n + 1 : Nat) : Int) ((4 : Nat) : Int) (by omega) (by omega) (by decide) (by decide) (by decide)
          rw [ofQ_4, ← hρ] at c
          refine goes_aggT (u := .int .i64 0) rfl (show (bind (newFacts [.ng (.v i), .fn (.v i), .fd (.v i)]) fun vs => ret (.tuple ⟨[.agg ⟨vs⟩, .int .i64 0]⟩) : M Sy Value) _ _ = _ from e2) hM hN (c.mono fun _ w' ⟨q1, q2⟩ => ⟨_, q1, frac_holds (w := w') (.v i), q2⟩) |> fun g => by simpa [GoesS] using g
theorem c_cmpr (hA : AllH ρ A) : SumF (symSig ρ) Try.prog 7 (cmpR A) := by
  intro args m e
  unfold cmpR at e
  rcases args with _ | ⟨a, _ | ⟨b, _ | ⟨c, l⟩⟩⟩ <;> simp only [reduceCtorEq] at e
  cases a <;> simp only [reduceCtorEq] at e
  rename_i x
  cases b <;> simp only [reduceCtorEq, Option.some.injEq] at e
  rename_i y
  subst e
  obtain ⟨x⟩ := x
  obtain ⟨y⟩ := y
  refine ⟨loc_bind (loc_frcV _) fun o => loc_bind (loc_frcV _) fun p => by
    (repeat' split) <;> first | exact loc_fail | exact loc_cond (loc_ret _) loc_fail | exact loc_cond loc_fail loc_fail, fun h nx v h' nx' R W e r w args' ha hM hN => ?_⟩
  cases ha with
  | cons h1 h2 => cases h2 with
    | cons h2 h3 =>
      cases h3
      obtain ⟨x', rfl, hx⟩ := vr_agg h1
      obtain ⟨y', rfl, hy⟩ := vr_agg h2
      obtain ⟨o, k1, nx1, R1, W1, R2, W2, e1, e2, rfl, rfl⟩ := bind_ok e
      obtain ⟨rfl, rfl, rfl, ho⟩ := frcV_ok e1 hx hM
      obtain ⟨p, k2, nx2, R3, W3, R4, W4, e3, e4, rfl, rfl⟩ := bind_ok e2
      obtain ⟨rfl, rfl, rfl, hp⟩ := frcV_ok e3 hy hM
      cases o with
      | none => cases (show (fail : M Sy Value) _ _ = _ from e4)
      | some e0 =>
        cases p with
        | none => cases (show (fail : M Sy Value) _ _ = _ from e4)
        | some g0 =>
          simp only at e4
          cases hf1 : fitB A e0 with
          | none => rw [hf1] at e4; cases (show (fail : M Sy Value) _ _ = _ from e4)
          | some s =>
            rw [hf1] at e4
            simp only at e4
            cases hf2 : fitB A g0 with
            | none => rw [hf2] at e4; cases (show (fail : M Sy Value) _ _ = _ from e4)
            | some t =>
              rw [hf2] at e4
              obtain ⟨hst, e5⟩ := cond_ok e4
              simp only [Bool.and_eq_true] at hst
              obtain ⟨rfl, rfl⟩ := hst
              cases hz : cmpE A e0 g0 with
              | none => rw [hz] at e5; cases (show (fail : M Sy Value) _ _ = _ from e5)
              | some z =>
                rw [hz] at e5
                have hz' := cmpE_ok hA hz
                subst hz'
                obtain rfl : x' = _ := ho
                obtain rfl : y' = _ := hp
                have c := raCmp_any w _ _ ((fitB_ok hA hf1).1 rfl) ((fitB_ok hA hf2).1 rfl)
                have g := goes_pl e5 rfl hM c
                simpa [GoesS] using g
noncomputable def wrun (n : Nat) : Option (D3 Nat) := tells [] [.p (.int .i64 (Int.ofNat n))] (call Try.prog natCfg natSums 100 35)
noncomputable def wans (n : Nat) : Option (D3 Nat) := some (.one (.agg [.p (.bool false), .f n, .f 1]))
theorem wrun_all : (List.range 31).map wrun = (List.range 31).map wans := by kernel_rfl
theorem whole_any (w : World) (n : Nat) (h1 : 1 ≤ n) (h2 : n ≤ 30) (hG : Try.prog.globals.size ≤ w.heap.size) (hT : TabB w) : Calls Try.prog 35 ⟨[.int .i64 (n : Nat)]⟩ w (Num1 w (mkRat (Big.sI false n) 1)) := by
  have hr : wrun n = wans n := by
    have := congrArg (fun l : List (Option (D3 Nat)) => l[n]?) wrun_all
    simp only [List.getElem?_map, List.getElem?_range (show n < 31 by omega), Option.map_some, Option.some.injEq] at this
    exact this
  refine (tells_calls natFits natSums_ok (show tells [] [.p (.int .i64 (Int.ofNat n))] (call Try.prog natCfg natSums 100 35) = some _ from hr) rfl glob_few (us := []) rfl hG hT).mono ?_
  rintro e w' ⟨v, rfl, ⟨vs, rfl, v1, u1, rfl, h1', v2, u2, rfl, h2', v3, u3, rfl, h3', rfl⟩, hb⟩
  obtain rfl : v1 = .bool false := h1'
  obtain ⟨p1, p2, p3⟩ := parts_c (s := false) (n := n) (d := 1) (Nat.gcd_one_right n) (Nat.le_refl 1) (fun h => by cases h)
  refine ⟨_, rfl, ⟨v2, v3, ?_, ?_, ?_⟩, hb⟩
  · rw [p1]
  · rw [p2]; exact h2'
  · rw [p3]; exact h3'
theorem c_whole : SumF (symSig ρ) Try.prog 35 wholeS := by
  intro args m e
  unfold wholeS at e
  rcases args with _ | ⟨a, _ | ⟨c, l⟩⟩ <;> simp only [reduceCtorEq] at e
  cases hn : natI a with
  | none => rw [hn] at e; cases e
  | some n =>
    rw [hn] at e
    simp only at e
    cases hb : (Nat.ble 1 n && Nat.ble n 30) with
    | false => rw [hb] at e; cases e
    | true =>
      rw [hb] at e
      cases e
      refine ⟨loc_newNum _, fun h nx v h' nx' R W e r w args' ha hM hN => ?_⟩
      have := natI_ok hn
      subst this
      simp only [Bool.and_eq_true] at hb
      cases ha with
      | cons h1 h2 =>
        cases h2
        rw [h1.eq_of_plain rfl]
        exact goes_num e hM hN (whole_any w n (Nat.le_of_ble_eq_true hb.1) (Nat.le_of_ble_eq_true hb.2) (mod_Gc hM rfl) hM.base)
end
noncomputable def coneList (A : List As) : List (Nat × (List Value → Option (M Sy Value))) := (41, ofS) :: (43, cmpS A) :: (13, ofR) :: (7, cmpR A) :: (35, wholeS) :: symList A
theorem coneList_ok {ρ : Env} {A : List As} (hA : AllH ρ A) : ∀ x ∈ coneList A, SumF (symSig ρ) Try.prog x.1 x.2 := by
  intro x hx
  simp only [coneList, List.mem_cons] at hx
  rcases hx with rfl | rfl | rfl | rfl | rfl | hx
  · exact c_of
  · exact c_cmp hA
  · exact c_ofr
  · exact c_cmpr hA
  · exact c_whole
  · exact symList_ok hA x hx
noncomputable def coneC : Cfg Sy := symCfg cHard
instance coneHard : HardLoc coneC := ⟨loc_cHard⟩
theorem coneFits (ρ : Env) : Fits (symSig ρ) Try.prog coneC where
  hid := rfl
  G := rfl
  len := symLen_ok ρ
  tab := natFits.tab
  glob := natFits.glob
  mixed := natFits.mixed
  hard := cHard_ok rfl
noncomputable def coneSums (A : List As) : Sums Sy := sumsOf (mkTab (coneList A))
theorem coneSums_ok {ρ : Env} {A : List As} (hA : AllH ρ A) : SumOK (symSig ρ) Try.prog (coneSums A) := sumsOf_ok (coneList_ok hA)
end Ev
end Go.Proofs.Ytnmmgicjlbmcbaa
