/- Contracts. -/
import Derived.Test.YtnlhjcfpfapafaaESq29
import Derived.Test.YtnlhjcfpfapafaaESq28
import Derived.Test.YtnlhjcfpfapafaaESq18
import Derived.Test.YtnlhjcfpfapafaaESq30
import Derived.LoopN
import Derived.Test.YtnlhjcfpfapafaaESq20
namespace Go.Proofs.Ytnlhjcfpfapafaa
open Go Go.RowKit
namespace Ev
theorem rises_lt {qs : List Rat} (h : Rises qs) {i : Nat} : ∀ {j : Nat}, i < j → j < qs.length → qs.getD i 0 < qs.getD j 0
 | 0, h1, _ => absurd h1 (Nat.not_lt_zero _)
 | j + 1, h1, h2 => by
  have h3 := h j h2
  by_cases e : i = j
  ·subst e; exact h3
  ·have h4 := rises_lt h (i := i) (j := j) (by omega) (by omega)
   grind
def PlAt (qs : List Rat) (x : Rat) (c : Nat) : Prop := c ≤ qs.length ∧ (∀ t, t < c → qs.getD t 0 < x) ∧ (∀ t, c ≤ t → t < qs.length → ¬ qs.getD t 0 < x)
theorem place {qs : List Rat} (h : Rises qs) (x : Rat) : ∃ c, PlAt qs x c := by
 have key : ∀ n, n ≤ qs.length → ∃ c, c ≤ n ∧ (∀ t, t < c → qs.getD t 0 < x) ∧ (∀ t, c ≤ t → t < n → ¬ qs.getD t 0 < x) := by
  intro n
  induction n with
  | zero => intro _; exact ⟨0, Nat.le_refl _, fun t ht => absurd ht (Nat.not_lt_zero _), fun t _ ht => absurd ht (Nat.not_lt_zero _)⟩
  | succ n ih =>
   intro hn
   obtain ⟨c, h1, h2, h3⟩ := ih (by omega)
   by_cases hc : c < n
   ·refine ⟨c, by omega, h2, fun t ht1 ht2 => ?_⟩
    by_cases e : t = n
    ·subst e
     have h4 := rises_lt h hc (by omega)
     have h5 := h3 c (Nat.le_refl _) hc
     grind
    ·exact h3 t ht1 (by omega)
   ·obtain rfl : c = n := by omega
    by_cases hx : qs.getD c 0 < x
    ·refine ⟨c + 1, Nat.le_refl _, fun t ht => ?_, fun t ht1 ht2 => by omega⟩
     by_cases e : t = c
     ·subst e; exact hx
     ·exact h2 t (by omega)
    ·refine ⟨c, by omega, h2, fun t ht1 ht2 => ?_⟩
     obtain rfl : t = c := by omega
     exact hx
 obtain ⟨c, h1, h2, h3⟩ := key qs.length (Nat.le_refl _)
 exact ⟨c, h1, h2, h3⟩
theorem PlAt.eq {qs : List Rat} {x : Rat} {c d : Nat} (h : PlAt qs x c) (k : PlAt qs x d) : c = d := by
 obtain ⟨h1, h2, h3⟩ := h
 obtain ⟨k1, k2, k3⟩ := k
 rcases Nat.lt_trichotomy c d with q | q | q
 ·exact absurd (k2 c q) (h3 c (Nat.le_refl _) (by omega))
 ·exact q
 ·exact absurd (h2 d q) (k3 d (Nat.le_refl _) (by omega))
theorem rat_div_mul {a b : Rat} (h : b ≠ 0) : a / b * b = a := by grind
section
variable {qs rs : List Rat} {x y : Rat} {c : Nat}
end
section
variable {qs rs : List Rat} {x y x2 y2 : Rat} {c c2 : Nat}
end
set_option maxRecDepth 100000
inductive Pt where
 | p (v : Value)
 | f (x : Sy)
 | fr (e : Qe)
structure An where
 fs : List Sy
 ls : List Lay
 t : Bool
noncomputable def An.wrap (a : An) (vs : List Value) : Value := cond a.t (.tuple ⟨split a.ls vs⟩) ((split a.ls vs).headD undef)
noncomputable def frQ (x : Rat) : Value := .agg ⟨frC x⟩
def Pt.is (ρ : Env) (w : World) : Pt → Value → Prop
 | .p u, v => v = u
 | .f x, v => x.holds ρ w v
 | .fr e, v => v = frQ (e.ev ρ.q)
section
variable {ρ : Env} {A : List As} {B : List Ix} {h h' : Tr (Blk Sy)} {nx nx' : Nat} {R W : List Nat} {r : Ren} {w : World}
end
noncomputable def cvI (s t : TypeId) (v : Value) : M Sy Nxt := bind (fact v) fun f => match f with
 | .is e => cond (hasT s && isI64 (intK t)) (lVal (.it e)) fail
 | _ => fail
theorem loc_cvI (s t : TypeId) (v : Value) : Loc (cvI s t v) := by
 refine loc_bind (loc_fact _) fun f => ?_
 split
 ·exact loc_cond (loc_lVal _) loc_fail
 ·exact loc_fail
noncomputable def lwH (B : List Ix) (G : Oper → List Value → M Sy Nxt) (o : Oper) (vs : List Value) : M Sy Nxt := match o.op with
 | .convert s t _ => match oneM vs with
  | some v => cvI s t v
  | none => fail
 | .binOp op _ _ _ _ => match twoM vs with
  | some y => cond (isOpq y.1) (bind (ixV y.1) fun p => bind (ixV y.2) fun q => iBin B op p q) (G o vs)
  | none => fail
 | _ => G o vs
theorem loc_lwH {G : Oper → List Value → M Sy Nxt} (hG : ∀ o vs, Loc (G o vs)) (B : List Ix) (o : Oper) (vs : List Value) : Loc (lwH B G o vs) := by
 unfold lwH
 (repeat' split) <;> first
  | exact loc_fail
  | exact loc_cvI _ _ _
  | exact loc_cond (loc_bind (loc_ixV _) fun _ => loc_bind (loc_ixV _) fun _ => loc_iBin _ _ _ _) (hG _ _)
  | exact hG _ _
section
variable {ρ : Env} {A : List As} {B : List Ix} {h h' : Tr (Blk Sy)} {nx nx' : Nat} {R W : List Nat} {r : Ren} {w : World}
end
noncomputable def memFz (fz : TypeId → Bool) : Cfg Sy where
 hid _ t := fz t || symHid t
 G := natCfg.G
 glob := natCfg.glob
 tab := natCfg.tab
 len := symLen
 hard := fun _ _ => fail
noncomputable def lwCfg (fz : TypeId → Bool) (A : List As) (B : List Ix) : Cfg Sy where
 hid _ t := fz t || symHid t
 G := natCfg.G
 glob := natCfg.glob
 tab := natCfg.tab
 len := symLen
 hard := rwH B (lwH B (Fq.frH A (memHard Try.prog (memFz fz))))
instance lwCfgI (fz : TypeId → Bool) (A : List As) (B : List Ix) : HardLoc (lwCfg fz A B) := ⟨loc_rwH (loc_lwH (Fq.loc_frH (loc_memHard Try.prog (memFz fz)) A) B) B⟩
set_option maxRecDepth 100000
end Ev
end Go.Proofs.Ytnlhjcfpfapafaa
namespace Go.Proofs.Ytnlhjcfpfapafaa
open Go.RowKit
def AtL (w : World) (g : Nat) (T : TypeId) (cs : Array Value) : Prop := w.heap[g]? = some (.cells cs T (0, 0))
section
variable {w w' : World} {g : Nat} {T : TypeId} {cs : Array Value}
theorem AtL.lt (h : AtL w g T cs) : g < w.heap.size := by
 rcases Nat.lt_or_ge g w.heap.size with h1 | h1
 ·exact h1
 ·unfold AtL at h; rw [Array.getElem?_eq_none h1] at h; cases h
theorem AtL.cell (h : AtL w g T cs) (i : Nat) {x : Value} (hx : cs[i]? = some x) : w.cell? ⟨g, i, none⟩ = some x := by rw [cell_of_row w g i _ _ (0, 0) h]; exact hx
theorem AtL.frozen (h : AtL w g T cs) (i : Nat) : w.frozen? ⟨g, i, none⟩ = false := frozen_of_row w g i _ _ h
theorem AtL.new (w : World) (T : TypeId) (cs : Array Value) : AtL (w.alloc (.cells cs T)) w.heap.size T cs := heap_alloc_new w _
theorem AtL.alloc' (h : AtL w g T cs) (o : Obj) : AtL (w.alloc o) g T cs := (Below.heap_alloc w o g h.lt).trans h
theorem AtL.below (h : AtL w g T cs) {B : Nat} (hb : Below B w w') (hg : g < B) : AtL w' g T cs := (hb.block g hg).trans h
theorem AtL.keep (h : AtL w g T cs) (hb : Below w.heap.size w w') : AtL w' g T cs := h.below hb h.lt
theorem AtL.set (h : AtL w g T cs) (i : Nat) (x : Value) : AtL (w.setCell ⟨g, i, none⟩ x) g T (cs.setIfInBounds i x) := heap_setCell_same w g i _ _ x h
end
def One (w : World) (v : Value) (q : Rat) : Prop := ∃ g a b, v = .slice (some ⟨g, 0, none⟩) 1 1 ∧ AtL w g 70 #[.bool (Big.ng q), a, b] ∧ NumIn w (.agg #[.bool (Big.ng q), a, b]) q
def Two (w : World) (v : Value) (q r : Rat) : Prop := ∃ g a b c d, v = .slice (some ⟨g, 0, none⟩) 2 2 ∧ AtL w g 70 #[.bool (Big.ng q), a, b, .bool (Big.ng r), c, d] ∧ NumIn w (.agg #[.bool (Big.ng q), a, b]) q ∧ NumIn w (.agg #[.bool (Big.ng r), c, d]) r
def TwoR (w : World) (q r : Rat) (e : Ending) (w' : World) : Prop := ∃ v, e = .returned (.tuple #[v, .bool true]) ∧ Two w' v q r ∧ Below w.heap.size w w'
theorem Try.infoNum : (Try.prog.info? 70).map (fun i => (i.zero, i.size, i.bytes)) = some (some (.agg #[.bool false, .slice none 0 0, .slice none 0 0]), 3, 56) := by kernel_rfl
theorem make_nums (n : Nat) (hn : n ≤ 1000) (cs : Array Value) (hcs : madeCells (Value.agg #[.bool false, .slice none 0 0, .slice none 0 0]).cells (n * 3) = cs) (w : World) :
  (Instr.makeSlice 35 (.int .i64 ((n : Nat) : Int)) (.int .i64 ((n : Nat) : Int))).run Try.prog w = .ok (.slice (some ⟨w.heap.size, 0, none⟩) n n) (w.alloc (.cells cs 70)) := by
 obtain ⟨i0, hi, hz0, hz1, hz2⟩ := info_parts Try.infoNum
 have hr := run_make (P := Try.prog) w 35 70 i0 _ Try.underlying35 hi hz0 .i64 .i64 (n : Int) (n : Int) (by omega) (by omega) (by rw [hz2]; omega) (by omega)
 rw [hz1] at hr
 simp only [Int.toNat_natCast] at hr
 rw [hr, hcs]
theorem AtL.no_int {w : World} {g : Nat} {T : TypeId} {cs : Array Value} (h : AtL w g T cs) (hc : ∀ v ∈ cs.toList, ∀ x, v ≠ .int .u64 x) (i : Nat) (x : Int) : w.cell? ⟨g, i, none⟩ ≠ some (.int .u64 x) := by
 rw [cell_of_row w g i _ _ (0, 0) h]
 intro e
 exact hc _ (by rw [Array.mem_toList_iff]; exact Array.mem_of_getElem? e) x rfl
theorem NumIn.only {w w' : World} {v : Value} {q : Rat} {g : Nat} (h : NumIn w v q) (hg : ∀ i x, w.cell? ⟨g, i, none⟩ ≠ some (.int .u64 x)) (ho : Only g w w') : NumIn w' v q := by
 obtain ⟨a, b, e, h1, h2⟩ := h; exact ⟨a, b, e, h1.only hg ho, h2.only hg ho⟩
theorem Only.alloc {g : Nat} {w w' : World} (h : Only g w w') (o : Obj) : Only g w (w'.alloc o) := h.trans (Only.of_below (box1_below w' o))
set_option maxRecDepth 100000 in
set_option maxHeartbeats 4000000 in
theorem read2_any (w : World) (g : Nat) (q r : Rat) (h : AtL w g 27 #[.bool (Big.ng q), .string (bst (Big.nu q)), .string (bst (Big.de q)), .bool (Big.ng r), .string (bst (Big.nu r)), .string (bst (Big.de r))]) (hfq : Fit q) (hfr : Fit r) :
  Calls Try.prog 40 #[.slice (some ⟨g, 0, none⟩) 2 2] w (TwoR w q r) := by
 have hmk : ∀ W, (Instr.makeSlice 35 (.int .i64 2) (.int .i64 2)).run Try.prog W = .ok (.slice (some ⟨W.heap.size, 0, none⟩) 2 2) (W.alloc (.cells #[.bool false, .slice none 0 0, .slice none 0 0, .bool false, .slice none 0 0, .slice none 0 0] 70)) := fun W => make_nums 2 (by omega) #[.bool false, .slice none 0 0, .slice none 0 0, .bool false, .slice none 0 0, .slice none 0 0] (by first | kernel_rfl | (simp [madeCells]; rfl)) W
 have HA := Lib.hid h
 have HRq := Lib.hid (fun W => exRead_ok W q hfq)
 have HRr := Lib.hid (fun W => exRead_ok W r hfr)
 have HN := Lib.hid (AtL.new w 70 #[.bool false, .slice none 0 0, .slice none 0 0, .bool false, .slice none 0 0, .slice none 0 0])
 have HB := Lib.hid (box1_below w (.cells #[.bool false, .slice none 0 0, .slice none 0 0, .bool false, .slice none 0 0, .slice none 0 0] 70))
 have hg := h.lt
 have h' := h.alloc' (.cells #[.bool false, .slice none 0 0, .slice none 0 0, .bool false, .slice none 0 0, .slice none 0 0] 70)
 have c0 := h'.cell 0 rfl
 have c1 := h'.cell 1 rfl
 have c2 := h'.cell 2 rfl
 clear h h' hfq hfr
 go_enter Try.func40, Try.ntmps40
 go_wp2_with fail
 refine wp_loop_rounds 3 ?_
 rw [rounds_succ]
 go_wp2_with fail
 clear hmk c0 c1 c2
 have HN0 := Lib.hid (HN.out.alloc' (.cells #[.bool (Big.ng q), .string (bst (Big.nu q)), .string (bst (Big.de q))] 27))
 have HB0 := Lib.hid (below_alloc HB.out (Nat.le_refl _) (.cells #[.bool (Big.ng q), .string (bst (Big.nu q)), .string (bst (Big.de q))] 27))
 generalize (w.alloc (.cells #[.bool false, .slice none 0 0, .slice none 0 0, .bool false, .slice none 0 0, .slice none 0 0] 70)).alloc (.cells #[.bool (Big.ng q), .string (bst (Big.nu q)), .string (bst (Big.de q))] 27) = wa0 at *
 refine (HRq.out _).mono ?_
 rintro e w0 ⟨v0, rfl, hv0, hw0⟩
 obtain ⟨A0, l0, c0, B0, m0, d0, rfl, ha0, hb0⟩ := hv0.is_agg
 have n0 := HN0.out.keep hw0
 have hlt0 := n0.lt
 have k0 := n0.cell 0 rfl; have k1 := n0.cell 1 rfl; have k2 := n0.cell 2 rfl
 have f0 := n0.frozen 0; have f1 := n0.frozen 1; have f2 := n0.frozen 2
 have s0 : AtL (((w0.setCell ⟨w.heap.size, 0, none⟩ (.bool (Big.ng q))).setCell ⟨w.heap.size, 1, none⟩ (.slice A0 l0 c0)).setCell ⟨w.heap.size, 2, none⟩ (.slice B0 m0 d0)) w.heap.size 70 #[.bool (Big.ng q), .slice A0 l0 c0, .slice B0 m0 d0, .bool false, .slice none 0 0, .slice none 0 0] := ((n0.set 0 (.bool (Big.ng q))).set 1 (.slice A0 l0 c0)).set 2 (.slice B0 m0 d0)
 have o0 := (((Only.refl w.heap.size w0).setCell 0 (.bool (Big.ng q))).setCell 1 (.slice A0 l0 c0)).setCell 2 (.slice B0 m0 d0)
 have ni0 := n0.no_int (by simp)
 have b0 := HB0.out.trans (hw0.mono HB0.out.size)
 have bb0 : Below w.heap.size w (((w0.setCell ⟨w.heap.size, 0, none⟩ (.bool (Big.ng q))).setCell ⟨w.heap.size, 1, none⟩ (.slice A0 l0 c0)).setCell ⟨w.heap.size, 2, none⟩ (.slice B0 m0 d0)) := ((b0.setCell (p := ⟨w.heap.size, 0, none⟩) (Nat.le_refl _) _).setCell (p := ⟨w.heap.size, 1, none⟩) (Nat.le_refl _) _).setCell (p := ⟨w.heap.size, 2, none⟩) (Nat.le_refl _) _
 have HS0 := Lib.hid (s0.alloc' (.cells #[.bool (Big.ng q), .slice A0 l0 c0, .slice B0 m0 d0] 70))
 have HO0 := Lib.hid (And.intro (hv0.only ni0 (o0.alloc (.cells #[.bool (Big.ng q), .slice A0 l0 c0, .slice B0 m0 d0] 70))) (below_alloc bb0 (Nat.le_refl _) (.cells #[.bool (Big.ng q), .slice A0 l0 c0, .slice B0 m0 d0] 70)))
 clear hv0 hw0 ha0 hb0 n0 s0 o0 ni0 b0 bb0
 go_wp2_with fail
 generalize ((((w0.setCell ⟨w.heap.size, 0, none⟩ (.bool (Big.ng q))).setCell ⟨w.heap.size, 1, none⟩ (.slice A0 l0 c0)).setCell ⟨w.heap.size, 2, none⟩ (.slice B0 m0 d0)).alloc (.cells #[.bool (Big.ng q), .slice A0 l0 c0, .slice B0 m0 d0] 70)) = wz0 at HS0 HO0  ⊢
 clear k0 k1 k2 f0 f1 f2
 have HQq := Lib.hid HO0.out.1; have HBz0 := Lib.hid HO0.out.2
 have h' := HA.out.keep HBz0.out
 have c0 := h'.cell 3 rfl
 have c1 := h'.cell 4 rfl
 have c2 := h'.cell 5 rfl
 clear h' HO0
 rw [rounds_succ]
 go_wp2_with fail
 clear c0 c1 c2
 have HN1 := Lib.hid (HS0.out.alloc' (.cells #[.bool (Big.ng r), .string (bst (Big.nu r)), .string (bst (Big.de r))] 27))
 have HB1 := Lib.hid (below_alloc HBz0.out (Nat.le_refl _) (.cells #[.bool (Big.ng r), .string (bst (Big.nu r)), .string (bst (Big.de r))] 27))
 have HQq1 := Lib.hid (HQq.out.keep (box1_below _ (.cells #[.bool (Big.ng r), .string (bst (Big.nu r)), .string (bst (Big.de r))] 27)))
 generalize wz0.alloc (.cells #[.bool (Big.ng r), .string (bst (Big.nu r)), .string (bst (Big.de r))] 27) = wa1 at *
 refine (HRr.out _).mono ?_
 rintro e w1 ⟨v1, rfl, hv1, hw1⟩
 obtain ⟨A1, l1, c1, B1, m1, d1, rfl, ha1, hb1⟩ := hv1.is_agg
 have n1 := HN1.out.keep hw1
 have hlt1 := n1.lt
 have k0 := n1.cell 3 rfl; have k1 := n1.cell 4 rfl; have k2 := n1.cell 5 rfl
 have f0 := n1.frozen 3; have f1 := n1.frozen 4; have f2 := n1.frozen 5
 have s1 : AtL (((w1.setCell ⟨w.heap.size, 3, none⟩ (.bool (Big.ng r))).setCell ⟨w.heap.size, 4, none⟩ (.slice A1 l1 c1)).setCell ⟨w.heap.size, 5, none⟩ (.slice B1 m1 d1)) w.heap.size 70 #[.bool (Big.ng q), .slice A0 l0 c0, .slice B0 m0 d0, .bool (Big.ng r), .slice A1 l1 c1, .slice B1 m1 d1] := ((n1.set 3 (.bool (Big.ng r))).set 4 (.slice A1 l1 c1)).set 5 (.slice B1 m1 d1)
 have o1 := (((Only.refl w.heap.size w1).setCell 3 (.bool (Big.ng r))).setCell 4 (.slice A1 l1 c1)).setCell 5 (.slice B1 m1 d1)
 have ni1 := n1.no_int (by simp)
 have b1 := HB1.out.trans (hw1.mono HB1.out.size)
 have bb1 : Below w.heap.size w (((w1.setCell ⟨w.heap.size, 3, none⟩ (.bool (Big.ng r))).setCell ⟨w.heap.size, 4, none⟩ (.slice A1 l1 c1)).setCell ⟨w.heap.size, 5, none⟩ (.slice B1 m1 d1)) := ((b1.setCell (p := ⟨w.heap.size, 3, none⟩) (Nat.le_refl _) _).setCell (p := ⟨w.heap.size, 4, none⟩) (Nat.le_refl _) _).setCell (p := ⟨w.heap.size, 5, none⟩) (Nat.le_refl _) _
 have HS1 := Lib.hid (s1.alloc' (.cells #[.bool (Big.ng r), .slice A1 l1 c1, .slice B1 m1 d1] 70))
 have HO1 := Lib.hid (And.intro (hv1.only ni1 (o1.alloc (.cells #[.bool (Big.ng r), .slice A1 l1 c1, .slice B1 m1 d1] 70))) (below_alloc bb1 (Nat.le_refl _) (.cells #[.bool (Big.ng r), .slice A1 l1 c1, .slice B1 m1 d1] 70)))
 have HQqX := Lib.hid ((HQq1.out.keep hw1).only ni1 (o1.alloc (.cells #[.bool (Big.ng r), .slice A1 l1 c1, .slice B1 m1 d1] 70)))
 clear hv1 hw1 ha1 hb1 n1 s1 o1 ni1 b1 bb1
 go_wp2_with fail
 generalize ((((w1.setCell ⟨w.heap.size, 3, none⟩ (.bool (Big.ng r))).setCell ⟨w.heap.size, 4, none⟩ (.slice A1 l1 c1)).setCell ⟨w.heap.size, 5, none⟩ (.slice B1 m1 d1)).alloc (.cells #[.bool (Big.ng r), .slice A1 l1 c1, .slice B1 m1 d1] 70)) = wz1 at HS1 HO1 HQqX ⊢
 clear k0 k1 k2 f0 f1 f2
 rw [rounds_succ]
 go_wp2_with fail
 go_ret2
 exact ⟨_, rfl, ⟨_, _, _, _, _, rfl, HS1.out, HQqX.out, HO1.out.1⟩, HO1.out.2⟩
def NumE (b w : World) (z : Rat) (e : Ending) (w' : World) : Prop := ∃ v', e = .returned (.tuple #[v', .int .i64 0]) ∧ NumIn w' v' z ∧ Below b.heap.size b w' ∧ Below w.heap.size w w'
set_option maxRecDepth 100000 in
set_option maxHeartbeats 4000000 in
theorem Add1_any (b w : World) (vx vy : Value) (q r : Rat) (hx : NumIn w vx q) (hy : NumIn w vy r) (sx : Sm 64 q) (sy : Sm 64 r) (hbw : Below b.heap.size b w) :
  Calls Try.prog 42 #[vx, vy] w (NumE b w (q + r)) := by
 have C := Lib.hid (fun W a c (h : NumIn W a q) (i : NumIn W c r) => exAdd_any W a c q r 64 h i sx sy (by omega))
 have HQ := Lib.hid hx; have HR := Lib.hid hy; have HBW := Lib.hid hbw
 obtain ⟨A, l, c, A2, l2, c2, rfl, -, -⟩ := hx.is_agg
 obtain ⟨B, m, d, B2, m2, d2, rfl, -, -⟩ := hy.is_agg
 clear hx hy sx sy hbw
 obtain ⟨X0, Y0, R0, B0⟩ := boxed3 w 70 70 (.bool (Big.ng q)) (.slice A l c) (.slice A2 l2 c2) (.bool (Big.ng r)) (.slice B m d) (.slice B2 m2 d2) (.bool false) (.slice none 0 0) (.slice none 0 0)
 have HR0 := Lib.hid R0; have HB0 := Lib.hid B0
 have HXX := Lib.hid X0; have HYY := Lib.hid Y0
 clear X0 Y0 R0 B0
 go_enter Try.func42, Try.ntmps42
 go_wp2_with fail
 generalize ((w.alloc (.cells #[.bool (Big.ng q), .slice A l c, .slice A2 l2 c2] 70)).alloc (.cells #[.bool (Big.ng r), .slice B m d, .slice B2 m2 d2] 70)).alloc (.cells #[.bool false, .slice none 0 0, .slice none 0 0] 70) = w0 at *
 refine (C.out _ _ _ (HQ.out.keep HB0.out) (HR.out.keep HB0.out)).mono ?_
 rintro e w1 ⟨v1, rfl, hv1, hw1⟩
 have B1 := HB0.out.trans (hw1.mono HB0.out.size)
 have R1 := HR0.out.keep hw1
 obtain ⟨A8, l8, c8, A9, l9, c9, rfl, h8, h9⟩ := hv1.is_agg
 have HH := Lib.hid (And.intro h8 h9); have HB1 := Lib.hid B1
 have k0 := R1.c0; have k1 := R1.c1; have k2 := R1.c2; have f0 := R1.frozen 0; have f1 := R1.frozen 1; have f2 := R1.frozen 2
 obtain ⟨nz, hnz⟩ : ∃ z, Big.ng (q + r) = z := ⟨_, rfl⟩
 rw [hnz]
 have HNZ := Lib.hid hnz
 have RR := R1
 clear hv1 h8 h9 hw1 hnz B1 R1 C HQ HR HR0 HB0
 go_wp2_with fail
 obtain ⟨D1, D2, D3⟩ := num_done (bb := nz) (show NumRes w1 _ _ from RR) HB1.out (by omega) HH.out.1 HH.out.2 HNZ.out.symm
 have HD1 := Lib.hid D1; have HD2 := Lib.hid D2; have HD3 := Lib.hid D3
 clear D1 D2 D3 k0 k1 k2 f0 f1 f2 RR
 generalize (((w1.setCell ⟨w.heap.size + 1 + 1, 0, none⟩ (.bool (nz))).setCell ⟨w.heap.size + 1 + 1, 1, none⟩ (.slice A8 l8 c8)).setCell ⟨w.heap.size + 1 + 1, 2, none⟩ (.slice A9 l9 c9)) = wz at HD1 HD2 HD3 ⊢
 have r0 := HD1.out.c0; have r1 := HD1.out.c1; have r2 := HD1.out.c2
 exact bodyPost_ret (v := .tuple #[.agg #[.bool (nz), .slice A8 l8 c8, .slice A9 l9 c9], .int .i64 0]) (by simp [results, Try.results42, go_sem, r0, r1, r2]) rfl ⟨_, rfl, HD2.out, HBW.out.trans (HD3.out.mono HBW.out.size), HD3.out⟩
set_option maxRecDepth 100000 in
set_option maxHeartbeats 600000 in
theorem reckonAdd_fit (w : World) (q r z : Rat) (k : Nat) (hq : Fit q) (hr : Fit r) (hz : Fit z) (sz : Sm k z) (hk : k ≤ 10000000)
  (hF : ∀ b W v u, NumIn W v q → NumIn W u r → Below b.heap.size b W → Calls Try.prog 42 #[v, u] W (NumE b W z)) :
  Calls Try.prog 41 #[.func (.func 42) #[] #[], .agg #[.bool (Big.ng q), .string (bst (Big.nu q)), .string (bst (Big.de q))], .agg #[.bool (Big.ng r), .string (bst (Big.nu r)), .string (bst (Big.de r))]] w (Ret2 w (fracV z) 0) := by
 have HRD := Lib.hid (fun W g (h : AtL W g 27 #[.bool (Big.ng q), .string (bst (Big.nu q)), .string (bst (Big.de q)), .bool (Big.ng r), .string (bst (Big.nu r)), .string (bst (Big.de r))]) => read2_any W g q r h hq hr)
 have HF := Lib.hid hF
 have CA := Lib.hid (fun W v (h : NumIn W v z) => answer_fit W v z k h sz hk hz)
 obtain ⟨X0, Y0, R0, B0⟩ := boxed3 w 27 27 (.bool (Big.ng q)) (.string (bst (Big.nu q))) (.string (bst (Big.de q))) (.bool (Big.ng r)) (.string (bst (Big.nu r))) (.string (bst (Big.de r))) (.bool false) (.string ⟨#[]⟩) (.string ⟨#[]⟩)
 have HR0 := Lib.hid R0; have HB0 := Lib.hid B0
 have x0 := X0.c0; have x1 := X0.c1; have x2 := X0.c2
 have y0 := Y0.c0; have y1 := Y0.c1; have y2 := Y0.c2
 clear hF hz sz hq hr X0 Y0 R0 B0
 go_enter Try.func41, Try.ntmps41
 go_wp2_with fail
 have hs : (((w.alloc (.cells #[.bool (Big.ng q), .string (bst (Big.nu q)), .string (bst (Big.de q))] 27)).alloc (.cells #[.bool (Big.ng r), .string (bst (Big.nu r)), .string (bst (Big.de r))] 27)).alloc (.cells #[.bool false, .string ⟨#[]⟩, .string ⟨#[]⟩] 27)).heap.size = w.heap.size + 1 + 1 + 1 := by rw [alloc_size, alloc_size, alloc_size]
 generalize ((w.alloc (.cells #[.bool (Big.ng q), .string (bst (Big.nu q)), .string (bst (Big.de q))] 27)).alloc (.cells #[.bool (Big.ng r), .string (bst (Big.nu r)), .string (bst (Big.de r))] 27)).alloc (.cells #[.bool false, .string ⟨#[]⟩, .string ⟨#[]⟩] 27) = w0 at *
 have HN := AtL.new w0 27 #[.bool (Big.ng q), .string (bst (Big.nu q)), .string (bst (Big.de q)), .bool (Big.ng r), .string (bst (Big.nu r)), .string (bst (Big.de r))]
 rw [hs] at HN
 have HN := Lib.hid HN
 clear hs
 have HB1 := Lib.hid (below_alloc HB0.out (Nat.le_refl _) (.cells #[.bool (Big.ng q), .string (bst (Big.nu q)), .string (bst (Big.de q)), .bool (Big.ng r), .string (bst (Big.nu r)), .string (bst (Big.de r))] 27))
 have HR1 := Lib.hid (HR0.out.alloc' (.cells #[.bool (Big.ng q), .string (bst (Big.nu q)), .string (bst (Big.de q)), .bool (Big.ng r), .string (bst (Big.nu r)), .string (bst (Big.de r))] 27))
 refine (HRD.out _ _ HN.out).mono ?_
 generalize w0.alloc (.cells #[.bool (Big.ng q), .string (bst (Big.nu q)), .string (bst (Big.de q)), .bool (Big.ng r), .string (bst (Big.nu r)), .string (bst (Big.de r))] 27) = wa at *
 rintro e w1 ⟨v1, rfl, ⟨g, a, b, c, d, rfl, hat, hnq, hnr⟩, hw1⟩
 have HB2 := Lib.hid (HB1.out.trans (hw1.mono HB1.out.size))
 have HR2 := Lib.hid (HR1.out.keep hw1)
 obtain ⟨A, l, cc, B, m, dd, e1, -, -⟩ := hnq.is_agg
 obtain ⟨A2, l2, cc2, B2, m2, dd2, e2, -, -⟩ := hnr.is_agg
 simp only [Value.agg.injEq] at e1 e2
 have e1a : a = .slice A l cc := by have := congrArg (fun z : Array Value => z[1]?) e1; simpa using this
 have e1b : b = .slice B m dd := by have := congrArg (fun z : Array Value => z[2]?) e1; simpa using this
 have e2a : c = .slice A2 l2 cc2 := by have := congrArg (fun z : Array Value => z[1]?) e2; simpa using this
 have e2b : d = .slice B2 m2 dd2 := by have := congrArg (fun z : Array Value => z[2]?) e2; simpa using this
 subst e1a e1b e2a e2b
 have KX := Lib.hid (fun W (h : Below w1.heap.size w1 W) => And.intro ((hat.keep h).cell 0 rfl) (And.intro ((hat.keep h).cell 1 rfl) (And.intro ((hat.keep h).cell 2 rfl) (And.intro ((hat.keep h).cell 3 rfl) (And.intro ((hat.keep h).cell 4 rfl) ((hat.keep h).cell 5 rfl))))))
 have hgl := hat.lt
 have KQ := Lib.hid (fun W x y z' (h : Below w1.heap.size w1 W) (_ : g < w1.heap.size) => And.intro (put_cell (g := w1.heap.size) (KX.out W h).1 (by omega) x y z') (And.intro (put_cell (g := w1.heap.size) (KX.out W h).2.1 (by omega) x y z') (And.intro (put_cell (g := w1.heap.size) (KX.out W h).2.2.1 (by omega) x y z') (And.intro (put_cell (g := w1.heap.size) (KX.out W h).2.2.2.1 (by omega) x y z') (And.intro (put_cell (g := w1.heap.size) (KX.out W h).2.2.2.2.1 (by omega) x y z') (put_cell (g := w1.heap.size) (KX.out W h).2.2.2.2.2 (by omega) x y z'))))))
 have CF := Lib.hid (fun W (h : Below w1.heap.size w1 W) => HF.out w1 W _ _ (hnq.keep h) (hnr.keep h) h)
 clear e1 e2 hat hnq hnr hw1 HB1 HR1 HN HRD x0 x1 x2 y0 y1 y2
 go_wp2_with fail
 go_region_held3 (fun w' => w'.cell? ⟨g, 0, none⟩ = some (.bool (Big.ng q)) ∧ w'.cell? ⟨g, 1, none⟩ = some (.slice A l cc) ∧ w'.cell? ⟨g, 2, none⟩ = some (.slice B m dd) ∧ w'.cell? ⟨g, 3, none⟩ = some (.bool (Big.ng r)) ∧ w'.cell? ⟨g, 4, none⟩ = some (.slice A2 l2 cc2) ∧ w'.cell? ⟨g, 5, none⟩ = some (.slice B2 m2 dd2))
  (first | exact KX.out _ (by first | assumption | exact Below.refl _ _ | exact below_drew (Below.refl _ _) | exact below_drew (by assumption) | exact below_drew (below_alloc (Below.refl _ _) (Nat.le_refl _) _) | exact below_alloc (by assumption) (Nat.le_refl _) _ | exact below_alloc (Below.refl _ _) (Nat.le_refl _) _) | exact KX.out _ (below_alloc (by first | assumption | exact Below.refl _ _ | exact below_drew (Below.refl _ _) | exact below_drew (by assumption)) (Nat.le_refl _) _) | exact KQ.out _ _ _ _ (by assumption) hgl)
  (first
   | (go_at_call 42; (with_reducible refine (CF.out _ (by first | assumption | exact Below.refl _ _ | exact below_drew (Below.refl _ _) | exact below_drew (by assumption) | exact below_drew (below_alloc (Below.refl _ _) (Nat.le_refl _) _) | exact below_alloc (by assumption) (Nat.le_refl _) _ | exact below_alloc (Below.refl _ _) (Nat.le_refl _) _)).mono ?_); rintro e w3 ⟨v3, rfl, hv3, hw3, hw3'⟩; obtain ⟨A3, l3, c3, B3, m3, d3, rfl, hq3, hr3⟩ := hv3.is_agg; have hlt3 := hw3.size; try (have R3 := At3.keep (show At3 ((w1.alloc (.cells #[.bool false, .slice none 0 0, .slice none 0 0] 70)).drew) w1.heap.size 70 (.bool false) (.slice none 0 0) (.slice none 0 0) from At3.new w1 _ _ _ _) hw3'; have k0 := R3.c0; have k1 := R3.c1; have k2 := R3.c2; have f0 := R3.frozen 0; have f1 := R3.frozen 1; have f2 := R3.frozen 2))
   | fail)
 all_goals
  have HB3 := HB2.out.trans (hw3.mono HB2.out.size)
  have RW3 := HR2.out.keep hw3
  have hne : w.heap.size + 1 + 1 ≠ w1.heap.size := by have := HR2.out.lt; omega
  have hge : w.heap.size ≤ w1.heap.size := by have := HR2.out.lt; omega
  have HFR := Lib.hid (And.intro HB3 (And.intro RW3 (And.intro hne hge)))
  clear HB3 RW3 hne hge
  go_wp2_with fail
  refine (CA.out _ _ ?_).mono ?_
  ·first
    | exact hv3.keep (box1_below _ _)
    | exact hv3.only (NumRes.no_int (show NumRes w3 _ _ from R3)) (put_only _ _ _ _ _)
  rintro e w4 ⟨rfl, hw4⟩
  have R4 : At3 w4 (w.heap.size + 1 + 1) 27 (.bool false) (.string ⟨#[]⟩) (.string ⟨#[]⟩) := by
   first
    | exact (HFR.out.2.1.alloc' _).keep hw4
    | exact (((HFR.out.2.1.far HFR.out.2.2.1 _).far HFR.out.2.2.1 _).far HFR.out.2.2.1 _).keep hw4
  have B4 : Below w.heap.size w w4 := by
   first
    | exact (below_alloc HFR.out.1 (Nat.le_refl _) _).trans (hw4.mono (below_alloc HFR.out.1 (Nat.le_refl _) _).size)
    | exact (put_below HFR.out.1 HFR.out.2.2.2 _ _ _).trans (hw4.mono (put_below HFR.out.1 HFR.out.2.2.2 _ _ _).size)
  unfold fracV
  clear hw4 HFR hv3 hw3 hw3' hq3 hr3 hlt3
  try clear R3 k0 k1 k2 f0 f1 f2
  have HD := Lib.hid (At3.put R4 (.bool (Big.ng z)) (.string (bst (Big.nu z))) (.string (bst (Big.de z))))
  have HE := Lib.hid (put_below B4 (show w.heap.size ≤ w.heap.size + 1 + 1 by omega) (.bool (Big.ng z)) (.string (bst (Big.nu z))) (.string (bst (Big.de z))))
  have k0 := R4.c0; have k1 := R4.c1; have k2 := R4.c2; have f0 := R4.frozen 0; have f1 := R4.frozen 1; have f2 := R4.frozen 2
  clear R4 B4
  go_wp2_with fail
  generalize (((w4.setCell ⟨w.heap.size + 1 + 1, 0, none⟩ (.bool (Big.ng z))).setCell ⟨w.heap.size + 1 + 1, 1, none⟩ (.string (bst (Big.nu z)))).setCell ⟨w.heap.size + 1 + 1, 2, none⟩ (.string (bst (Big.de z)))) = wz at HD HE ⊢
  clear k0 k1 k2 f0 f1 f2
  have r0 := HD.out.c0; have r1 := HD.out.c1; have r2 := HD.out.c2
  exact bodyPost_ret (v := .tuple #[.agg #[.bool (Big.ng z), .string (bst (Big.nu z)), .string (bst (Big.de z))], .int .i64 0]) (by simp [results, Try.results41, go_sem, r0, r1, r2]) rfl ⟨rfl, HE.out⟩
set_option maxRecDepth 100000 in
set_option maxHeartbeats 4000000 in
theorem raAdd_fit (w : World) (q r : Rat) (hq : Fit q) (hr : Fit r) (hz : Fit (q + r)) :
  Calls Try.prog 16 #[.agg #[.bool (Big.ng q), .string (bst (Big.nu q)), .string (bst (Big.de q))], .agg #[.bool (Big.ng r), .string (bst (Big.nu r)), .string (bst (Big.de r))]] w (Ret2 w (fracV (q + r)) 0) := by
 have sz : Sm (2 * 64 + 2 * 64 + 1) (q + r) := (hq.sm.add hr.sm)
 have C := Lib.hid (fun W => reckonAdd_fit W q r (q + r) _ hq hr hz sz (by omega) (fun b W' v u h i hb => Add1_any b W' v u q r h i hq.sm hr.sm hb))
 obtain ⟨X0, Y0, R0, B0⟩ := boxed3 w 27 27 (.bool (Big.ng q)) (.string (bst (Big.nu q))) (.string (bst (Big.de q))) (.bool (Big.ng r)) (.string (bst (Big.nu r))) (.string (bst (Big.de r))) (.bool false) (.string ⟨#[]⟩) (.string ⟨#[]⟩)
 have HR0 := Lib.hid R0; have HB0 := Lib.hid B0
 clear X0 Y0 R0 B0 hq hr hz sz
 obtain ⟨Z, hZ⟩ : ∃ Z, q + r = Z := ⟨_, rfl⟩
 rw [hZ] at C ⊢
 clear hZ
 go_enter Try.func16, Try.ntmps16
 go_wp2_with fail
 refine (C.out _).mono ?_
 generalize ((w.alloc (.cells #[.bool (Big.ng q), .string (bst (Big.nu q)), .string (bst (Big.de q))] 27)).alloc (.cells #[.bool (Big.ng r), .string (bst (Big.nu r)), .string (bst (Big.de r))] 27)).alloc (.cells #[.bool false, .string ⟨#[]⟩, .string ⟨#[]⟩] 27) = w0 at *
 rintro e w4 ⟨rfl, hw4⟩
 unfold fracV
 have R4 := HR0.out.keep hw4
 have HD := Lib.hid (At3.put R4 (.bool (Big.ng Z)) (.string (bst (Big.nu Z))) (.string (bst (Big.de Z))))
 have HE := Lib.hid (put_below (HB0.out.trans (hw4.mono HB0.out.size)) (show w.heap.size ≤ w.heap.size + 1 + 1 by omega) (.bool (Big.ng Z)) (.string (bst (Big.nu Z))) (.string (bst (Big.de Z))))
 have k0 := R4.c0; have k1 := R4.c1; have k2 := R4.c2; have f0 := R4.frozen 0; have f1 := R4.frozen 1; have f2 := R4.frozen 2
 clear R4 hw4 HR0 HB0 C
 go_wp2_with fail
 generalize (((w4.setCell ⟨w.heap.size + 1 + 1, 0, none⟩ (.bool (Big.ng Z))).setCell ⟨w.heap.size + 1 + 1, 1, none⟩ (.string (bst (Big.nu Z)))).setCell ⟨w.heap.size + 1 + 1, 2, none⟩ (.string (bst (Big.de Z)))) = wz at HD HE ⊢
 clear k0 k1 k2 f0 f1 f2
 have r0 := HD.out.c0; have r1 := HD.out.c1; have r2 := HD.out.c2
 exact bodyPost_ret (v := .tuple #[.agg #[.bool (Big.ng Z), .string (bst (Big.nu Z)), .string (bst (Big.de Z))], .int .i64 0]) (by simp [results, Try.results16, go_sem, r0, r1, r2]) rfl ⟨rfl, HE.out⟩
end Go.Proofs.Ytnlhjcfpfapafaa
namespace Go.Proofs.Ytnlhjcfpfapafaa
open Go Go.RowKit
namespace Ev
set_option maxRecDepth 100000
theorem ofQ_val {n : Int} {d : Nat} (hd : 0 < d) : ofQ n (d : Int) = (n : Rat) / (d : Rat) := by
 unfold ofQ
 have h2 : decide (((d : Nat) : Int) < 0) = false := decide_eq_false (by omega)
 rw [h2]
 have e : Big.sI (decide (n < 0) != false) n.natAbs = n := by
  unfold Big.sI
  by_cases h : n < 0
  ·rw [decide_eq_true h]
   simp
   omega
  ·rw [decide_eq_false h]
   simp
   omega
 rw [e, Int.natAbs_natCast, Rat.mkRat_eq_div]
theorem ofQ_lt {n m : Int} {d : Nat} (hd : 0 < d) (h : n < m) : ofQ n (d : Int) < ofQ m (d : Int) := by
 rw [ofQ_val hd, ofQ_val hd]
 have h1 : (n : Rat) < (m : Rat) := by exact_mod_cast h
 have h2 : (0 : Rat) < (d : Rat) := by exact_mod_cast hd
 obtain ⟨t, ht⟩ : ∃ t, t = (n : Rat) / (d : Rat) := ⟨_, rfl⟩
 obtain ⟨u, hu⟩ : ∃ u, u = (m : Rat) / (d : Rat) := ⟨_, rfl⟩
 have ht2 : t * (d : Rat) = n := by rw [ht]; exact rat_div_mul (by grind)
 have hu2 : u * (d : Rat) = m := by rw [hu]; exact rat_div_mul (by grind)
 rw [← ht, ← hu]
 apply Rat.not_le.1
 intro hle
 have := Rat.mul_le_mul_of_nonneg_right hle (Rat.le_of_lt h2)
 grind
theorem sm_by {k : Nat} {q : Rat} (h : Sm k q) : By (8 * k) q := by
 have h1 := h.nu.out
 have h2 := h.de.out
 rw [Big.M64_pow, ← Nat.pow_mul] at h1 h2
 exact ⟨h1, h2⟩
theorem sm_fit {k : Nat} {q : Rat} (h : Sm k q) (hk : 8 * k ≤ 512) : Fit q := (sm_by h).fit hk
theorem by_sm1 {q : Rat} (h : By 8 q) : Sm 1 q := ⟨Sz.bytes8 (szN_le h.nu), Sz.bytes8 (szN_le h.de)⟩
theorem ofQ_sm {n : Int} {d : Nat} (hd : 0 < d) (h0 : -9223372036854775808 ≤ n) (h1 : n ≤ 9223372036854775807) (h2 : d < 1000) : Sm 1 (ofQ n (d : Int)) := by_sm1 (ofQ_by (k := 8) (n := n) (d := (d : Int)) (by omega) (by omega) (by omega))
def ebN (ss : List (Nat × Nat)) : Nat := min ss.length 29 + 1
theorem rwQ_get (ss : List (Nat × Nat)) {N i : Nat} (h : i < N) : (rwQ ss N).getD i 0 = ofQ (stpA ss i) 4 := by
 rw [List.getD_eq_getElem?_getD]; simp [rwQ, List.getElem?_range h]
theorem rwR_get (ss : List (Nat × Nat)) {N i : Nat} (h : i < N) : (rwR ss N).getD i 0 = ofQ (stpB ss i) 6 := by
 rw [List.getD_eq_getElem?_getD]; simp [rwR, List.getElem?_range h]
section
variable {ss : List (Nat × Nat)} (hs : ∀ p ∈ ss, p.1 < 256 ∧ p.2 < 256)
include hs
theorem rwQ_sm {N : Nat} (hN : N ≤ 30) : ∀ q ∈ rwQ ss N, Sm 1 q := fun q hq => by
 simp only [rwQ, List.mem_map, List.mem_range] at hq
 obtain ⟨i, hi, rfl⟩ := hq
 have := stpA_bd hs i
 exact ofQ_sm (d := 4) (by omega) (by omega) (by omega) (by omega)
theorem rwR_sm {N : Nat} (hN : N ≤ 30) : ∀ q ∈ rwR ss N, Sm 1 q := fun q hq => by
 simp only [rwR, List.mem_map, List.mem_range] at hq
 obtain ⟨i, hi, rfl⟩ := hq
 have := stpB_bd hs i
 exact ofQ_sm (d := 6) (by omega) (by omega) (by omega) (by omega)
omit hs in
theorem rwQ_rises (N : Nat) : Rises (rwQ ss N) := fun i hi => by
 have hl : (rwQ ss N).length = N := by simp [rwQ]
 rw [rwQ_get ss (by omega), rwQ_get ss (by omega)]
 refine ofQ_lt (d := 4) (by omega) ?_
 show stpA ss i < stpA ss i + 1 + _
 omega
omit hs in
theorem rwR_rises (N : Nat) : Rises (rwR ss N) := fun i hi => by
 have hl : (rwR ss N).length = N := by simp [rwR]
 rw [rwR_get ss (by omega), rwR_get ss (by omega)]
 refine ofQ_lt (d := 6) (by omega) ?_
 show stpB ss i < stpB ss i + 1 + _
 omega
end
def ebQ (n m : Int) (qs : List Rat) (a b : Rat) : Nat → Rat
 | 1 => n
 | 2 => m
 | 5 => qs.getD 0 0
 | 6 => qs.getD (qs.length - 1) 0
 | 8 => ofQ n (12 : Nat)
 | 9 => ofQ m (12 : Nat)
 | 11 => a
 | 12 => b
 | 13 => a + ofQ 5 (3 : Nat)
 | 14 => ofQ 5 (3 : Nat)
 | _ => 0
section
variable {n m : Int} {ss : List (Nat × Nat)} {lo : Nat} {a b : Rat}
variable {qs rs : List Rat} {hf : ∀ i, Fit (ebQ n m qs a b i)}
structure EbOK (n m : Int) (ss : List (Nat × Nat)) (qs rs : List Rat) (a b : Rat) (gx gy : Bool) (s0 sL sxy : Int) : Prop where
 hn : -32768 ≤ n ∧ n ≤ 32767
 hm : -32768 ≤ m ∧ m ≤ 32767
 hq : ∀ q ∈ qs, Sm 1 q
 hr : ∀ q ∈ rs, Sm 1 q
 q1 : qs = rwQ ss (ebN ss)
 r1 : rs = rwR ss (ebN ss)
 ha : Sm 11 a
 hb : Sm 11 b
 la : ∃ c, PlAt qs (ofQ n (12 : Nat)) c ∧ linAt qs rs (ofQ n (12 : Nat)) c = cond gx (some a) none
 lb : ∃ c, PlAt qs (ofQ m (12 : Nat)) c ∧ linAt qs rs (ofQ m (12 : Nat)) c = cond gy (some b) none
 c0 : sgQ (ofQ n (12 : Nat) - qs.getD 0 0) = s0
 cL : sgQ (ofQ n (12 : Nat) - qs.getD (qs.length - 1) 0) = sL
 cx : gx = true → gy = true → sgQ (ofQ n (12 : Nat) - ofQ m (12 : Nat)) = sxy
 ca : gx = true → gy = true → sgQ (a - b) = sxy
section
variable {gx gy : Bool} {s0 sL sxy : Int} (H : EbOK n m ss qs rs a b gx gy s0 sL sxy)
include H
omit H in
end
end
section
variable {n m : Int} {ss : List (Nat × Nat)} {lo : Nat} {a b : Rat} {qs rs : List Rat} {hf : ∀ i, Fit (ebQ n m qs a b i)} {gx gy : Bool} {s0 sL sxy : Int} (H : EbOK n m ss qs rs a b gx gy s0 sL sxy)
include H
omit H in
omit H in
end
def midL (qs : List Rat) (i : Nat) : List Rat := qs.take i ++ (qs.getD (i - 1) 0 + qs.getD i 0) * (1 / 2) :: qs.drop i
theorem midL_len (qs : List Rat) {i : Nat} (hi : i ≤ qs.length) : (midL qs i).length = qs.length + 1 := by
 unfold midL
 simp only [List.length_append, List.length_take, List.length_cons, List.length_drop]
 omega
theorem midL_get (qs : List Rat) {i : Nat} (hi : i ≤ qs.length) (t : Nat) : (midL qs i).getD t 0 = if t < i then qs.getD t 0 else if t = i then (qs.getD (i - 1) 0 + qs.getD i 0) * (1 / 2) else qs.getD (t - 1) 0 := by
 unfold midL
 generalize (qs.getD (i - 1) 0 + qs.getD i 0) * (1 / 2) = m
 simp only [List.getD_eq_getElem?_getD]
 have hl : (qs.take i).length = i := by rw [List.length_take]; omega
 by_cases h1 : t < i
 ·rw [if_pos h1, List.getElem?_append_left (by omega), List.getElem?_take, if_pos h1]
 ·rw [if_neg h1, List.getElem?_append_right (by omega), hl]
  by_cases h2 : t = i
  ·rw [if_pos h2, h2, Nat.sub_self]; simp
  ·rw [if_neg h2]
   obtain ⟨k, hk⟩ : ∃ k, t - i = k + 1 := ⟨t - i - 1, by omega⟩
   rw [hk, List.getElem?_cons_succ, List.getElem?_drop]
   have e : i + k = t - 1 := by omega
   rw [e]
theorem midL_low (qs : List Rat) {i t : Nat} (hi : i ≤ qs.length) (h : t < i) : (midL qs i).getD t 0 = qs.getD t 0 := by rw [midL_get qs hi, if_pos h]
theorem midL_at (qs : List Rat) {i : Nat} (hi : i ≤ qs.length) : (midL qs i).getD i 0 = (qs.getD (i - 1) 0 + qs.getD i 0) * (1 / 2) := by rw [midL_get qs hi, if_neg (by omega), if_pos rfl]
theorem midL_up (qs : List Rat) {i t : Nat} (hi : i ≤ qs.length) (h : i < t) : (midL qs i).getD t 0 = qs.getD (t - 1) 0 := by rw [midL_get qs hi, if_neg (by omega), if_neg (by omega)]
theorem midL_rises {qs : List Rat} (h : Rises qs) {i : Nat} (h0 : 0 < i) (hi : i < qs.length) : Rises (midL qs i) := fun t ht => by
 have hil : i ≤ qs.length := by omega
 rw [midL_len qs hil] at ht
 have hm := h (i - 1) (by omega)
 rw [Nat.sub_add_cancel h0] at hm
 by_cases c1 : t + 1 < i
 ·rw [midL_low qs hil (by omega), midL_low qs hil c1]
  exact h t (by omega)
 by_cases c2 : t + 1 = i
 ·have e : t = i - 1 := by omega
  rw [midL_low qs hil (by omega), c2, midL_at qs hil, e]
  grind
 by_cases c3 : t = i
 ·rw [c3, midL_at qs hil, midL_up qs hil (by omega), Nat.add_sub_cancel]
  grind
 ·rw [midL_up qs hil (by omega), midL_up qs hil (by omega), Nat.add_sub_cancel]
  have hm2 := h (t - 1) (by omega)
  rw [Nat.sub_add_cancel (by omega)] at hm2
  exact hm2
theorem mid_one {a b p q : Rat} (h : a < b) : (p + q) * (1 / 2) = p + (q - p) * ((a + b) * (1 / 2) - a) / (b - a) := by
 have hd : b - a ≠ 0 := by grind
 grind
theorem mid_two {a b p q x : Rat} (h : a < b) : p + ((p + q) * (1 / 2) - p) * (x - a) / ((a + b) * (1 / 2) - a) = p + (q - p) * (x - a) / (b - a) := by
 have hd : b - a ≠ 0 := by grind
 have he : (a + b) * (1 / 2) - a ≠ 0 := by grind
 grind
theorem mid_three {a b p q x : Rat} (h : a < b) : (p + q) * (1 / 2) + (q - (p + q) * (1 / 2)) * (x - (a + b) * (1 / 2)) / (b - (a + b) * (1 / 2)) = p + (q - p) * (x - a) / (b - a) := by
 have hd : b - a ≠ 0 := by grind
 have he : b - (a + b) * (1 / 2) ≠ 0 := by grind
 grind
theorem lin_mid {qs rs : List Rat} {x : Rat} {c i : Nat} (hq : Rises qs) (h0 : 0 < i) (hi : i < qs.length) (hlr : rs.length = qs.length) (hc : PlAt qs x c) : ∃ d, PlAt (midL qs i) x d ∧ linAt (midL qs i) (midL rs i) x d = linAt qs rs x c := by
 obtain ⟨h1, h2, h3⟩ := hc
 have hil : i ≤ qs.length := by omega
 have hir : i ≤ rs.length := by omega
 have hlen := midL_len qs hil
 have hm := hq (i - 1) (by omega)
 rw [Nat.sub_add_cancel h0] at hm
 rcases Nat.lt_trichotomy c i with hci | hci | hci
 ·refine ⟨c, ⟨by omega, fun t ht => ?_, fun t ht1 ht2 => ?_⟩, ?_⟩
  ·rw [midL_low qs hil (by omega)]; exact h2 t ht
  ·by_cases k1 : t < i
   ·rw [midL_low qs hil k1]; exact h3 t ht1 (by omega)
   ·have := h3 (i - 1) (by omega) (by omega)
    by_cases k2 : t = i
    ·rw [k2, midL_at qs hil]; grind
    ·rw [midL_up qs hil (by omega)]; exact h3 (t - 1) (by omega) (by omega)
  ·unfold linAt
   rw [if_neg (show ¬ c = (midL qs i).length by omega), if_neg (show ¬ c = qs.length by omega), midL_low qs hil hci, midL_low rs hir hci]
   by_cases k : c = 0
   ·simp only [if_pos k]
   ·simp only [if_neg k]
    rw [midL_low qs hil (by omega), midL_low rs hir (by omega)]
 ·subst hci
  have ha := h2 (c - 1) (by omega)
  have hb := h3 c (Nat.le_refl _) hi
  by_cases k : x ≤ (qs.getD (c - 1) 0 + qs.getD c 0) * (1 / 2)
  ·refine ⟨c, ⟨by omega, fun t ht => ?_, fun t ht1 ht2 => ?_⟩, ?_⟩
   ·rw [midL_low qs hil (by omega)]; exact h2 t ht
   ·by_cases k2 : t = c
    ·rw [k2, midL_at qs hil]; grind
    ·rw [midL_up qs hil (by omega)]; exact h3 (t - 1) (by omega) (by omega)
   ·unfold linAt
    rw [if_neg (show ¬ c = (midL qs c).length by omega), if_neg (show ¬ c = qs.length by omega), if_neg (show ¬ qs.getD c 0 = x by grind), midL_at qs hil, midL_at rs hir, if_neg (show ¬ c = 0 by omega), if_neg (show ¬ c = 0 by omega), midL_low qs hil (by omega), midL_low rs hir (by omega)]
    by_cases k3 : (qs.getD (c - 1) 0 + qs.getD c 0) * (1 / 2) = x
    ·rw [if_pos k3, ← k3, ← mid_one hm]
    ·rw [if_neg k3, mid_two hm]
  ·refine ⟨c + 1, ⟨by omega, fun t ht => ?_, fun t ht1 ht2 => ?_⟩, ?_⟩
   ·by_cases k1 : t < c
    ·rw [midL_low qs hil k1]; exact h2 t k1
    ·have e : t = c := by omega
     rw [e, midL_at qs hil]; grind
   ·rw [midL_up qs hil (by omega)]; exact h3 (t - 1) (by omega) (by omega)
   ·unfold linAt
    rw [if_neg (show ¬ c + 1 = (midL qs c).length by omega), if_neg (show ¬ c = qs.length by omega), midL_up qs hil (show c < c + 1 by omega), midL_up rs hir (show c < c + 1 by omega), Nat.add_sub_cancel, midL_at qs hil, midL_at rs hir, if_neg (show ¬ c + 1 = 0 by omega), if_neg (show ¬ c = 0 by omega), mid_three hm]
 ·refine ⟨c + 1, ⟨by omega, fun t ht => ?_, fun t ht1 ht2 => ?_⟩, ?_⟩
  ·by_cases k1 : t < i
   ·rw [midL_low qs hil k1]; exact h2 t (by omega)
   ·by_cases k2 : t = i
    ·have := h2 i hci
     rw [k2, midL_at qs hil]; grind
    ·rw [midL_up qs hil (by omega)]; exact h2 (t - 1) (by omega)
  ·rw [midL_up qs hil (by omega)]; exact h3 (t - 1) (by omega) (by omega)
  ·unfold linAt
   rw [midL_up qs hil (show i < c + 1 by omega), midL_up rs hir (show i < c + 1 by omega), Nat.add_sub_cancel, midL_up qs hil hci, midL_up rs hir hci, if_neg (show ¬ c + 1 = 0 by omega), if_neg (show ¬ c = 0 by omega), hlen]
   by_cases k : c = qs.length
   ·rw [if_pos (show c + 1 = qs.length + 1 by omega), if_pos k]
   ·rw [if_neg (show ¬ c + 1 = qs.length + 1 by omega), if_neg k]
end Ev
end Go.Proofs.Ytnlhjcfpfapafaa
namespace Go.Proofs.Ytnlhjcfpfapafaa
open Go.RowKit
set_option maxRecDepth 100000 in
set_option maxHeartbeats 4000000 in
theorem Mul1_any (b w : World) (vx vy : Value) (q r : Rat) (hx : NumIn w vx q) (hy : NumIn w vy r) (sx : Sm 64 q) (sy : Sm 64 r) (hbw : Below b.heap.size b w) :
  Calls Try.prog 44 #[vx, vy] w (NumE b w (q * r)) := by
 have C := Lib.hid (fun W a c (h : NumIn W a q) (i : NumIn W c r) => exMul_any W a c q r 64 h i sx sy (by omega))
 have HQ := Lib.hid hx; have HR := Lib.hid hy; have HBW := Lib.hid hbw
 obtain ⟨A, l, c, A2, l2, c2, rfl, -, -⟩ := hx.is_agg
 obtain ⟨B, m, d, B2, m2, d2, rfl, -, -⟩ := hy.is_agg
 clear hx hy sx sy hbw
 obtain ⟨X0, Y0, R0, B0⟩ := boxed3 w 70 70 (.bool (Big.ng q)) (.slice A l c) (.slice A2 l2 c2) (.bool (Big.ng r)) (.slice B m d) (.slice B2 m2 d2) (.bool false) (.slice none 0 0) (.slice none 0 0)
 have HR0 := Lib.hid R0; have HB0 := Lib.hid B0
 have HXX := Lib.hid X0; have HYY := Lib.hid Y0
 clear X0 Y0 R0 B0
 go_enter Try.func44, Try.ntmps44
 go_wp2_with fail
 generalize ((w.alloc (.cells #[.bool (Big.ng q), .slice A l c, .slice A2 l2 c2] 70)).alloc (.cells #[.bool (Big.ng r), .slice B m d, .slice B2 m2 d2] 70)).alloc (.cells #[.bool false, .slice none 0 0, .slice none 0 0] 70) = w0 at *
 refine (C.out _ _ _ (HQ.out.keep HB0.out) (HR.out.keep HB0.out)).mono ?_
 rintro e w1 ⟨v1, rfl, hv1, hw1⟩
 have B1 := HB0.out.trans (hw1.mono HB0.out.size)
 have R1 := HR0.out.keep hw1
 obtain ⟨A8, l8, c8, A9, l9, c9, rfl, h8, h9⟩ := hv1.is_agg
 have HH := Lib.hid (And.intro h8 h9); have HB1 := Lib.hid B1
 have k0 := R1.c0; have k1 := R1.c1; have k2 := R1.c2; have f0 := R1.frozen 0; have f1 := R1.frozen 1; have f2 := R1.frozen 2
 obtain ⟨nz, hnz⟩ : ∃ z, Big.ng (q * r) = z := ⟨_, rfl⟩
 rw [hnz]
 have HNZ := Lib.hid hnz
 have RR := R1
 clear hv1 h8 h9 hw1 hnz B1 R1 C HQ HR HR0 HB0
 go_wp2_with fail
 obtain ⟨D1, D2, D3⟩ := num_done (bb := nz) (show NumRes w1 _ _ from RR) HB1.out (by omega) HH.out.1 HH.out.2 HNZ.out.symm
 have HD1 := Lib.hid D1; have HD2 := Lib.hid D2; have HD3 := Lib.hid D3
 clear D1 D2 D3 k0 k1 k2 f0 f1 f2 RR
 generalize (((w1.setCell ⟨w.heap.size + 1 + 1, 0, none⟩ (.bool (nz))).setCell ⟨w.heap.size + 1 + 1, 1, none⟩ (.slice A8 l8 c8)).setCell ⟨w.heap.size + 1 + 1, 2, none⟩ (.slice A9 l9 c9)) = wz at HD1 HD2 HD3 ⊢
 have r0 := HD1.out.c0; have r1 := HD1.out.c1; have r2 := HD1.out.c2
 exact bodyPost_ret (v := .tuple #[.agg #[.bool (nz), .slice A8 l8 c8, .slice A9 l9 c9], .int .i64 0]) (by simp [results, Try.results44, go_sem, r0, r1, r2]) rfl ⟨_, rfl, HD2.out, HBW.out.trans (HD3.out.mono HBW.out.size), HD3.out⟩
set_option maxRecDepth 100000 in
set_option maxHeartbeats 600000 in
theorem reckonMul_fit (w : World) (q r z : Rat) (k : Nat) (hq : Fit q) (hr : Fit r) (hz : Fit z) (sz : Sm k z) (hk : k ≤ 10000000)
  (hF : ∀ b W v u, NumIn W v q → NumIn W u r → Below b.heap.size b W → Calls Try.prog 44 #[v, u] W (NumE b W z)) :
  Calls Try.prog 41 #[.func (.func 44) #[] #[], .agg #[.bool (Big.ng q), .string (bst (Big.nu q)), .string (bst (Big.de q))], .agg #[.bool (Big.ng r), .string (bst (Big.nu r)), .string (bst (Big.de r))]] w (Ret2 w (fracV z) 0) := by
 have HRD := Lib.hid (fun W g (h : AtL W g 27 #[.bool (Big.ng q), .string (bst (Big.nu q)), .string (bst (Big.de q)), .bool (Big.ng r), .string (bst (Big.nu r)), .string (bst (Big.de r))]) => read2_any W g q r h hq hr)
 have HF := Lib.hid hF
 have CA := Lib.hid (fun W v (h : NumIn W v z) => answer_fit W v z k h sz hk hz)
 obtain ⟨X0, Y0, R0, B0⟩ := boxed3 w 27 27 (.bool (Big.ng q)) (.string (bst (Big.nu q))) (.string (bst (Big.de q))) (.bool (Big.ng r)) (.string (bst (Big.nu r))) (.string (bst (Big.de r))) (.bool false) (.string ⟨#[]⟩) (.string ⟨#[]⟩)
 have HR0 := Lib.hid R0; have HB0 := Lib.hid B0
 have x0 := X0.c0; have x1 := X0.c1; have x2 := X0.c2
 have y0 := Y0.c0; have y1 := Y0.c1; have y2 := Y0.c2
 clear hF hz sz hq hr X0 Y0 R0 B0
 go_enter Try.func41, Try.ntmps41
 go_wp2_with fail
 have hs : (((w.alloc (.cells #[.bool (Big.ng q), .string (bst (Big.nu q)), .string (bst (Big.de q))] 27)).alloc (.cells #[.bool (Big.ng r), .string (bst (Big.nu r)), .string (bst (Big.de r))] 27)).alloc (.cells #[.bool false, .string ⟨#[]⟩, .string ⟨#[]⟩] 27)).heap.size = w.heap.size + 1 + 1 + 1 := by rw [alloc_size, alloc_size, alloc_size]
 generalize ((w.alloc (.cells #[.bool (Big.ng q), .string (bst (Big.nu q)), .string (bst (Big.de q))] 27)).alloc (.cells #[.bool (Big.ng r), .string (bst (Big.nu r)), .string (bst (Big.de r))] 27)).alloc (.cells #[.bool false, .string ⟨#[]⟩, .string ⟨#[]⟩] 27) = w0 at *
 have HN := AtL.new w0 27 #[.bool (Big.ng q), .string (bst (Big.nu q)), .string (bst (Big.de q)), .bool (Big.ng r), .string (bst (Big.nu r)), .string (bst (Big.de r))]
 rw [hs] at HN
 have HN := Lib.hid HN
 clear hs
 have HB1 := Lib.hid (below_alloc HB0.out (Nat.le_refl _) (.cells #[.bool (Big.ng q), .string (bst (Big.nu q)), .string (bst (Big.de q)), .bool (Big.ng r), .string (bst (Big.nu r)), .string (bst (Big.de r))] 27))
 have HR1 := Lib.hid (HR0.out.alloc' (.cells #[.bool (Big.ng q), .string (bst (Big.nu q)), .string (bst (Big.de q)), .bool (Big.ng r), .string (bst (Big.nu r)), .string (bst (Big.de r))] 27))
 refine (HRD.out _ _ HN.out).mono ?_
 generalize w0.alloc (.cells #[.bool (Big.ng q), .string (bst (Big.nu q)), .string (bst (Big.de q)), .bool (Big.ng r), .string (bst (Big.nu r)), .string (bst (Big.de r))] 27) = wa at *
 rintro e w1 ⟨v1, rfl, ⟨g, a, b, c, d, rfl, hat, hnq, hnr⟩, hw1⟩
 have HB2 := Lib.hid (HB1.out.trans (hw1.mono HB1.out.size))
 have HR2 := Lib.hid (HR1.out.keep hw1)
 obtain ⟨A, l, cc, B, m, dd, e1, -, -⟩ := hnq.is_agg
 obtain ⟨A2, l2, cc2, B2, m2, dd2, e2, -, -⟩ := hnr.is_agg
 simp only [Value.agg.injEq] at e1 e2
 have e1a : a = .slice A l cc := by have := congrArg (fun z : Array Value => z[1]?) e1; simpa using this
 have e1b : b = .slice B m dd := by have := congrArg (fun z : Array Value => z[2]?) e1; simpa using this
 have e2a : c = .slice A2 l2 cc2 := by have := congrArg (fun z : Array Value => z[1]?) e2; simpa using this
 have e2b : d = .slice B2 m2 dd2 := by have := congrArg (fun z : Array Value => z[2]?) e2; simpa using this
 subst e1a e1b e2a e2b
 have KX := Lib.hid (fun W (h : Below w1.heap.size w1 W) => And.intro ((hat.keep h).cell 0 rfl) (And.intro ((hat.keep h).cell 1 rfl) (And.intro ((hat.keep h).cell 2 rfl) (And.intro ((hat.keep h).cell 3 rfl) (And.intro ((hat.keep h).cell 4 rfl) ((hat.keep h).cell 5 rfl))))))
 have hgl := hat.lt
 have KQ := Lib.hid (fun W x y z' (h : Below w1.heap.size w1 W) (_ : g < w1.heap.size) => And.intro (put_cell (g := w1.heap.size) (KX.out W h).1 (by omega) x y z') (And.intro (put_cell (g := w1.heap.size) (KX.out W h).2.1 (by omega) x y z') (And.intro (put_cell (g := w1.heap.size) (KX.out W h).2.2.1 (by omega) x y z') (And.intro (put_cell (g := w1.heap.size) (KX.out W h).2.2.2.1 (by omega) x y z') (And.intro (put_cell (g := w1.heap.size) (KX.out W h).2.2.2.2.1 (by omega) x y z') (put_cell (g := w1.heap.size) (KX.out W h).2.2.2.2.2 (by omega) x y z'))))))
 have CF := Lib.hid (fun W (h : Below w1.heap.size w1 W) => HF.out w1 W _ _ (hnq.keep h) (hnr.keep h) h)
 clear e1 e2 hat hnq hnr hw1 HB1 HR1 HN HRD x0 x1 x2 y0 y1 y2
 go_wp2_with fail
 go_region_held3 (fun w' => w'.cell? ⟨g, 0, none⟩ = some (.bool (Big.ng q)) ∧ w'.cell? ⟨g, 1, none⟩ = some (.slice A l cc) ∧ w'.cell? ⟨g, 2, none⟩ = some (.slice B m dd) ∧ w'.cell? ⟨g, 3, none⟩ = some (.bool (Big.ng r)) ∧ w'.cell? ⟨g, 4, none⟩ = some (.slice A2 l2 cc2) ∧ w'.cell? ⟨g, 5, none⟩ = some (.slice B2 m2 dd2))
  (first | exact KX.out _ (by first | assumption | exact Below.refl _ _ | exact below_drew (Below.refl _ _) | exact below_drew (by assumption) | exact below_drew (below_alloc (Below.refl _ _) (Nat.le_refl _) _) | exact below_alloc (by assumption) (Nat.le_refl _) _ | exact below_alloc (Below.refl _ _) (Nat.le_refl _) _) | exact KX.out _ (below_alloc (by first | assumption | exact Below.refl _ _ | exact below_drew (Below.refl _ _) | exact below_drew (by assumption)) (Nat.le_refl _) _) | exact KQ.out _ _ _ _ (by assumption) hgl)
  (first
   | (go_at_call 44; (with_reducible refine (CF.out _ (by first | assumption | exact Below.refl _ _ | exact below_drew (Below.refl _ _) | exact below_drew (by assumption) | exact below_drew (below_alloc (Below.refl _ _) (Nat.le_refl _) _) | exact below_alloc (by assumption) (Nat.le_refl _) _ | exact below_alloc (Below.refl _ _) (Nat.le_refl _) _)).mono ?_); rintro e w3 ⟨v3, rfl, hv3, hw3, hw3'⟩; obtain ⟨A3, l3, c3, B3, m3, d3, rfl, hq3, hr3⟩ := hv3.is_agg; have hlt3 := hw3.size; try (have R3 := At3.keep (show At3 ((w1.alloc (.cells #[.bool false, .slice none 0 0, .slice none 0 0] 70)).drew) w1.heap.size 70 (.bool false) (.slice none 0 0) (.slice none 0 0) from At3.new w1 _ _ _ _) hw3'; have k0 := R3.c0; have k1 := R3.c1; have k2 := R3.c2; have f0 := R3.frozen 0; have f1 := R3.frozen 1; have f2 := R3.frozen 2))
   | fail)
 all_goals
  have HB3 := HB2.out.trans (hw3.mono HB2.out.size)
  have RW3 := HR2.out.keep hw3
  have hne : w.heap.size + 1 + 1 ≠ w1.heap.size := by have := HR2.out.lt; omega
  have hge : w.heap.size ≤ w1.heap.size := by have := HR2.out.lt; omega
  have HFR := Lib.hid (And.intro HB3 (And.intro RW3 (And.intro hne hge)))
  clear HB3 RW3 hne hge
  go_wp2_with fail
  refine (CA.out _ _ ?_).mono ?_
  ·first
    | exact hv3.keep (box1_below _ _)
    | exact hv3.only (NumRes.no_int (show NumRes w3 _ _ from R3)) (put_only _ _ _ _ _)
  rintro e w4 ⟨rfl, hw4⟩
  have R4 : At3 w4 (w.heap.size + 1 + 1) 27 (.bool false) (.string ⟨#[]⟩) (.string ⟨#[]⟩) := by
   first
    | exact (HFR.out.2.1.alloc' _).keep hw4
    | exact (((HFR.out.2.1.far HFR.out.2.2.1 _).far HFR.out.2.2.1 _).far HFR.out.2.2.1 _).keep hw4
  have B4 : Below w.heap.size w w4 := by
   first
    | exact (below_alloc HFR.out.1 (Nat.le_refl _) _).trans (hw4.mono (below_alloc HFR.out.1 (Nat.le_refl _) _).size)
    | exact (put_below HFR.out.1 HFR.out.2.2.2 _ _ _).trans (hw4.mono (put_below HFR.out.1 HFR.out.2.2.2 _ _ _).size)
  unfold fracV
  clear hw4 HFR hv3 hw3 hw3' hq3 hr3 hlt3
  try clear R3 k0 k1 k2 f0 f1 f2
  have HD := Lib.hid (At3.put R4 (.bool (Big.ng z)) (.string (bst (Big.nu z))) (.string (bst (Big.de z))))
  have HE := Lib.hid (put_below B4 (show w.heap.size ≤ w.heap.size + 1 + 1 by omega) (.bool (Big.ng z)) (.string (bst (Big.nu z))) (.string (bst (Big.de z))))
  have k0 := R4.c0; have k1 := R4.c1; have k2 := R4.c2; have f0 := R4.frozen 0; have f1 := R4.frozen 1; have f2 := R4.frozen 2
  clear R4 B4
  go_wp2_with fail
  generalize (((w4.setCell ⟨w.heap.size + 1 + 1, 0, none⟩ (.bool (Big.ng z))).setCell ⟨w.heap.size + 1 + 1, 1, none⟩ (.string (bst (Big.nu z)))).setCell ⟨w.heap.size + 1 + 1, 2, none⟩ (.string (bst (Big.de z)))) = wz at HD HE ⊢
  clear k0 k1 k2 f0 f1 f2
  have r0 := HD.out.c0; have r1 := HD.out.c1; have r2 := HD.out.c2
  exact bodyPost_ret (v := .tuple #[.agg #[.bool (Big.ng z), .string (bst (Big.nu z)), .string (bst (Big.de z))], .int .i64 0]) (by simp [results, Try.results41, go_sem, r0, r1, r2]) rfl ⟨rfl, HE.out⟩
set_option maxRecDepth 100000 in
set_option maxHeartbeats 4000000 in
theorem raMul_fit (w : World) (q r : Rat) (hq : Fit q) (hr : Fit r) (hz : Fit (q * r)) :
  Calls Try.prog 18 #[.agg #[.bool (Big.ng q), .string (bst (Big.nu q)), .string (bst (Big.de q))], .agg #[.bool (Big.ng r), .string (bst (Big.nu r)), .string (bst (Big.de r))]] w (Ret2 w (fracV (q * r)) 0) := by
 have sz : Sm (2 * 64 + 2 * 64 + 1) (q * r) := ((hq.sm.mul hr.sm).up (by omega))
 have C := Lib.hid (fun W => reckonMul_fit W q r (q * r) _ hq hr hz sz (by omega) (fun b W' v u h i hb => Mul1_any b W' v u q r h i hq.sm hr.sm hb))
 obtain ⟨X0, Y0, R0, B0⟩ := boxed3 w 27 27 (.bool (Big.ng q)) (.string (bst (Big.nu q))) (.string (bst (Big.de q))) (.bool (Big.ng r)) (.string (bst (Big.nu r))) (.string (bst (Big.de r))) (.bool false) (.string ⟨#[]⟩) (.string ⟨#[]⟩)
 have HR0 := Lib.hid R0; have HB0 := Lib.hid B0
 clear X0 Y0 R0 B0 hq hr hz sz
 obtain ⟨Z, hZ⟩ : ∃ Z, q * r = Z := ⟨_, rfl⟩
 rw [hZ] at C ⊢
 clear hZ
 go_enter Try.func18, Try.ntmps18
 go_wp2_with fail
 refine (C.out _).mono ?_
 generalize ((w.alloc (.cells #[.bool (Big.ng q), .string (bst (Big.nu q)), .string (bst (Big.de q))] 27)).alloc (.cells #[.bool (Big.ng r), .string (bst (Big.nu r)), .string (bst (Big.de r))] 27)).alloc (.cells #[.bool false, .string ⟨#[]⟩, .string ⟨#[]⟩] 27) = w0 at *
 rintro e w4 ⟨rfl, hw4⟩
 unfold fracV
 have R4 := HR0.out.keep hw4
 have HD := Lib.hid (At3.put R4 (.bool (Big.ng Z)) (.string (bst (Big.nu Z))) (.string (bst (Big.de Z))))
 have HE := Lib.hid (put_below (HB0.out.trans (hw4.mono HB0.out.size)) (show w.heap.size ≤ w.heap.size + 1 + 1 by omega) (.bool (Big.ng Z)) (.string (bst (Big.nu Z))) (.string (bst (Big.de Z))))
 have k0 := R4.c0; have k1 := R4.c1; have k2 := R4.c2; have f0 := R4.frozen 0; have f1 := R4.frozen 1; have f2 := R4.frozen 2
 clear R4 hw4 HR0 HB0 C
 go_wp2_with fail
 generalize (((w4.setCell ⟨w.heap.size + 1 + 1, 0, none⟩ (.bool (Big.ng Z))).setCell ⟨w.heap.size + 1 + 1, 1, none⟩ (.string (bst (Big.nu Z)))).setCell ⟨w.heap.size + 1 + 1, 2, none⟩ (.string (bst (Big.de Z)))) = wz at HD HE ⊢
 clear k0 k1 k2 f0 f1 f2
 have r0 := HD.out.c0; have r1 := HD.out.c1; have r2 := HD.out.c2
 exact bodyPost_ret (v := .tuple #[.agg #[.bool (Big.ng Z), .string (bst (Big.nu Z)), .string (bst (Big.de Z))], .int .i64 0]) (by simp [results, Try.results18, go_sem, r0, r1, r2]) rfl ⟨rfl, HE.out⟩
end Go.Proofs.Ytnlhjcfpfapafaa
