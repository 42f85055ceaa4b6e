/- Contracts, in this order: Which parts of a point are nought: no program but what order · A block of known cells. · turn.Parts, turn.Disc: what they answer. · ref07.Disc where there is a point. · ref07.part: the parts of a turn by roots, each by a run. · ref07.At: the point at k parts, by floats. · exact: Mul. · exact: Sub, Quo, Cmp. · exact: Cmp. exact: Sub, Quo, Cmp. · exact: Size, Frac. · exact: Frac. · exact: mayBeBytes, Read. · exact: Read, of what may be. · exact: Read, of what may not be. · The interpreter over numbers told by expressions of those ha · The interpreter over numbers told by expressions: reading wh -/
import Derived.Test.YtepnghhgmjobjaaTq16
import Derived.Test.YtepnghhgmjobjaaTq02
import Derived.Test.YtepnghhgmjobjaaTq01
import Derived.Deep.QuietTactic
import Derived.BigQuiet
import Derived.Test.YtepnghhgmjobjaaTq08
import Derived.Laws.IdiomStrings
namespace Go.Proofs.Ytepnghhgmjobjaa
open Go Go.RowKit Ieee Fl
namespace Tp
set_option maxRecDepth 100000
theorem isZ_no {x : Nat} (h : x % 9223372036854775808 ≠ 0) : isZ x = false := by
  have hr : rg x ≠ 0 := h
  have hs : sv x ≠ 0 := by
    have := V_lt (show 0 < rg x by omega)
    unfold sv sg; split <;> omega
  have h0 : sv 0 = 0 := by decide
  show (double.order x 0 == some .eq) = false
  by_cases hn : IsN x
  · rw [order_eq hn (show IsN 0 by unfold IsN; decide), h0]
    show (some (if sv x < 0 then Ordering.lt else if sv x = 0 then Ordering.eq else Ordering.gt) == some Ordering.eq) = false
    rw [if_neg hs]
    split <;> rfl
  · have e : double.order x 0 = none := by
      unfold Format.order
      rw [read_eq, if_neg (by unfold IsN INF at hn; omega), if_neg (by unfold IsN INF at hn; unfold INF; omega), if_neg (by unfold IsN at hn; omega)]
      rfl
    rw [e]; rfl
theorem neg_mod (x : Nat) : Op.negFloat .f64 x % 9223372036854775808 = x % 9223372036854775808 := by
  show (x ^^^ 2 ^ 63) % 9223372036854775808 = _
  rw [show 9223372036854775808 = 2 ^ 63 from rfl, Nat.xor_mod_two_pow, Nat.mod_self, Nat.xor_zero]
def NZ (z : Nat × Nat) : Prop := z.1 % 9223372036854775808 ≠ 0 ∧ z.2 % 9223372036854775808 ≠ 0
theorem nz_is {z : Nat × Nat} (h : nz z = true) : NZ z := by
  unfold nz at h
  simp only [Bool.and_eq_true, Bool.not_eq_true'] at h
  have key : ∀ a : Nat, Nat.beq a 0 = false → a ≠ 0 := fun a ha h0 => by rw [h0] at ha; cases ha
  exact ⟨key _ h.1, key _ h.2⟩
theorem NZ.rot {z : Nat × Nat} (h : NZ z) : NZ (rot z) := ⟨by show Op.negFloat .f64 z.2 % _ ≠ 0; rw [neg_mod]; exact h.2, h.1⟩
theorem NZ.rotI {z : Nat × Nat} (h : NZ z) : ∀ n, NZ (rotI n z)
  | 0 => h
  | n + 1 => (NZ.rotI h n).rot
theorem NZ.swp {z : Nat × Nat} (h : NZ z) (m : Bool) : NZ (swp m z) := by
  unfold Tp.swp
  split
  · exact ⟨h.2, h.1⟩
  · exact h
theorem pt_yes {q : Nat} {m : Bool} {z : Nat × Nat} (h : NZ z) : isZ (ptC q m z).1 = false ∧ isZ (ptC q m z).2 = false := by
  have h1 := (h.swp m).rotI q
  have e : ∀ x, x % 9223372036854775808 ≠ 0 → isZ (unsN x) = false := fun x hx => by
    have := isZ_no hx
    unfold unsN
    rw [this]
    exact this
  exact ⟨e _ h1.1, e _ h1.2⟩
theorem pt_no {q : Nat} {m : Bool} (hq : q ≤ 3) : (isZ (ptC q m oneC).1 || isZ (ptC q m oneC).2) = true := by
  rcases (show q = 0 ∨ q = 1 ∨ q = 2 ∨ q = 3 by omega) with rfl | rfl | rfl | rfl <;> cases m <;> decide +kernel
theorem pt_zero {q r : Nat} {m : Bool} (hq : q ≤ 3) (hr : r ≤ 8192) : (r = 0 ∧ (isZ (ptC q m (zOf r)).1 || isZ (ptC q m (zOf r)).2) = true) ∨ (r ≠ 0 ∧ isZ (ptC q m (zOf r)).1 = false ∧ isZ (ptC q m (zOf r)).2 = false) := by
  obtain ⟨z, hz, h | h⟩ := good_all hr (Nat.le_refl 14)
  · have h0 := zero_of_noBit hr h.1
    have e : zOf r = oneC := by
      obtain ⟨a, b⟩ := z
      rw [zOf_is hz]
      exact h.2
    rw [e]
    exact .inl ⟨h0, pt_no hq⟩
  · have e : zOf r = z := by
      obtain ⟨a, b⟩ := z
      exact zOf_is hz
    have hr0 : r ≠ 0 := fun h0 => by
      subst h0
      exact h.1 fun t _ => Nat.zero_testBit _
    rw [e]
    exact .inr ⟨hr0, pt_yes (nz_is h.2)⟩
end Tp
end Go.Proofs.Ytepnghhgmjobjaa
namespace Go.Proofs.Ytepnghhgmjobjaa
open Go.RowKit
def AtL (w : World) (g : Nat) (T : TypeId) (cs : Array Value) : Prop := w.heap[g]? = some (.cells cs T (0, 0))
section
variable {w w' : World} {g : Nat} {T : TypeId} {cs : Array Value}
theorem AtL.lt (h : AtL w g T cs) : g < w.heap.size := by
  rcases Nat.lt_or_ge g w.heap.size with h1 | h1
  · exact h1
  · unfold AtL at h; rw [Array.getElem?_eq_none h1] at h; cases h
theorem AtL.cell (h : AtL w g T cs) (i : Nat) {x : Value} (hx : cs[i]? = some x) : w.cell? ⟨g, i, none⟩ = some x := by rw [cell_of_row w g i _ _ (0, 0) h]; exact hx
theorem AtL.frozen (h : AtL w g T cs) (i : Nat) : w.frozen? ⟨g, i, none⟩ = false := frozen_of_row w g i _ _ h
theorem AtL.new (w : World) (T : TypeId) (cs : Array Value) : AtL (w.alloc (.cells cs T)) w.heap.size T cs := heap_alloc_new w _
theorem AtL.alloc' (h : AtL w g T cs) (o : Obj) : AtL (w.alloc o) g T cs := (Below.heap_alloc w o g h.lt).trans h
theorem AtL.below (h : AtL w g T cs) {B : Nat} (hb : Below B w w') (hg : g < B) : AtL w' g T cs := (hb.block g hg).trans h
theorem AtL.keep (h : AtL w g T cs) (hb : Below w.heap.size w w') : AtL w' g T cs := h.below hb h.lt
theorem AtL.set (h : AtL w g T cs) (i : Nat) (x : Value) : AtL (w.setCell ⟨g, i, none⟩ x) g T (cs.setIfInBounds i x) := heap_setCell_same w g i _ _ x h
end
end Go.Proofs.Ytepnghhgmjobjaa
namespace Go.Proofs.Ytepnghhgmjobjaa
open Go Go.RowKit
namespace Tp
set_option maxRecDepth 100000
@[go_sem] theorem st_complex {P : Program} {w : World} {a : Addr} {m : Mode} (k : FloatKind) (x y : Nat) : (store a (.complex k x y) m).run P w = stored P w a (.complex k x y) m := run_store P w a _ m rfl
@[go_sem] theorem st_float {P : Program} {w : World} {a : Addr} {m : Mode} (k : FloatKind) (x : Nat) : (store a (.float k x) m).run P w = stored P w a (.float k x) m := run_store P w a _ m rfl
def WayRes (W : World) (q r : Int) (m : Bool) (c : Int) (e : Ending) (w' : World) : Prop := e = .returned (.tuple #[.agg #[.int .i64 q, .int .i64 r, .bool m], .int .i64 c]) ∧ Below W.heap.size W w'
set_option maxHeartbeats 4000000 in
theorem parts_err (w : World) (k n c : Int) (hc : c ≠ 0) (HW : ∀ W, Calls Try.prog 41 #[.int .i64 k, .int .i64 n] W (WayRes W 0 0 false c)) : Calls Try.prog 15 #[.int .i64 k, .int .i64 n] w fun e w' => e = .returned (.tuple #[.complex .f64 0 0, .int .i64 c]) ∧ Below w.heap.size w w' := by
  have H := Lib.hid (HW w)
  clear HW
  go_enter Try.func15, Try.ntmps15
  go_wp2_with fail
  refine H.out.mono ?_
  rintro e w1 ⟨rfl, hb1⟩
  have HB := Lib.hid (below_alloc hb1 (Nat.le_refl _) (.cells #[.int .i64 0, .int .i64 0, .bool false] 81))
  clear hb1 H
  go_wp2_with fail
  go_ret2
  exact ⟨rfl, HB.out⟩
set_option maxHeartbeats 4000000 in
theorem parts_ok (w : World) (k n q r : Int) (m : Bool) (c d : Nat) (HW : ∀ W, Calls Try.prog 41 #[.int .i64 k, .int .i64 n] W (WayRes W q r m 0)) (HP : ∀ W, Below w.heap.size w W → Calls Try.prog 42 #[.agg #[.int .i64 q, .int .i64 r, .bool m]] W fun e w' => e = .returned (.complex .f64 c d) ∧ Below W.heap.size W w') : Calls Try.prog 15 #[.int .i64 k, .int .i64 n] w fun e w' => e = .returned (.tuple #[.complex .f64 c d, .int .i64 0]) ∧ Below w.heap.size w w' := by
  have H := Lib.hid (HW w)
  have HP := Lib.hid HP
  clear HW
  go_enter Try.func15, Try.ntmps15
  go_wp2_with fail
  refine H.out.mono ?_
  rintro e w1 ⟨rfl, hb1⟩
  have HB := Lib.hid (below_alloc hb1 (Nat.le_refl _) (.cells #[.int .i64 q, .int .i64 r, .bool m] 81))
  have HN := Lib.hid (At3.new w1 81 (.int .i64 q) (.int .i64 r) (.bool m))
  have x0 := HN.out.c0; have x1 := HN.out.c1; have x2 := HN.out.c2
  clear hb1 H
  go_wp2_with (go_at_call 42; refine (HP.out _ HB.out).mono ?_; rintro e w2 ⟨rfl, hb2⟩)
  have HB2 := Lib.hid (HB.out.trans (hb2.mono HB.out.size))
  go_ret2
  exact ⟨rfl, HB2.out⟩
set_option maxHeartbeats 4000000 in
theorem disc_err (w : World) (k n c : Int) (hc : c ≠ 0) (HW : ∀ W, Calls Try.prog 41 #[.int .i64 k, .int .i64 n] W (WayRes W 0 0 false c)) : Calls Try.prog 18 #[.int .i64 k, .int .i64 n] w fun e w' => e = .returned (.tuple #[.agg #[.complex .f64 0 0, .float .f64 0], .int .i64 c]) ∧ Below w.heap.size w w' := by
  have HA := Lib.hid (box1_below w (.cells #[.complex .f64 0 0, .float .f64 0] 49))
  have HD := Lib.hid (AtL.new w 49 #[.complex .f64 0 0, .float .f64 0])
  have H := Lib.hid (HW (w.alloc (.cells #[.complex .f64 0 0, .float .f64 0] 49)))
  clear HW
  go_enter Try.func18, Try.ntmps18
  go_wp2_with fail
  refine H.out.mono ?_
  generalize w.alloc (.cells #[.complex .f64 0 0, .float .f64 0] 49) = wa at *
  rintro e w1 ⟨rfl, hb1⟩
  have HB := Lib.hid (below_alloc (HA.out.trans (hb1.mono HA.out.size)) (Nat.le_refl _) (.cells #[.int .i64 0, .int .i64 0, .bool false] 81))
  have HD1 := Lib.hid ((HD.out.keep hb1).alloc' (.cells #[.int .i64 0, .int .i64 0, .bool false] 81))
  have k0 := HD1.out.cell 0 rfl; have k1 := HD1.out.cell 1 rfl; have q0 := HD1.out.frozen 0; have q1 := HD1.out.frozen 1
  have HD2 := Lib.hid ((HD1.out.set 0 (.complex .f64 0 0)).set 1 (.float .f64 0))
  have HE := Lib.hid ((HB.out.setCell (p := ⟨w.heap.size, 0, none⟩) (Nat.le_refl _) (.complex .f64 0 0)).setCell (p := ⟨w.heap.size, 1, none⟩) (Nat.le_refl _) (.float .f64 0))
  clear hb1 H HA HD HB
  go_wp2_with fail
  have r0 := HD2.out.cell 0 rfl; have r1 := HD2.out.cell 1 rfl
  exact bodyPost_ret (v := .tuple #[.agg #[.complex .f64 0 0, .float .f64 0], .int .i64 c]) (by simp [results, Try.results18, go_sem, r0, r1]) rfl ⟨rfl, HE.out⟩
set_option maxHeartbeats 4000000 in
theorem disc_zero (w : World) (k n q : Int) (m : Bool) (c d : Nat) (HW : ∀ W, Calls Try.prog 41 #[.int .i64 k, .int .i64 n] W (WayRes W q 0 m 0)) (HP : ∀ W, Below w.heap.size w W → Calls Try.prog 42 #[.agg #[.int .i64 q, .int .i64 0, .bool m]] W fun e w' => e = .returned (.complex .f64 c d) ∧ Below W.heap.size W w') : Calls Try.prog 18 #[.int .i64 k, .int .i64 n] w fun e w' => e = .returned (.tuple #[.agg #[.complex .f64 c d, .float .f64 0], .int .i64 0]) ∧ Below w.heap.size w w' := by
  have HP := Lib.hid HP
  have HA := Lib.hid (box1_below w (.cells #[.complex .f64 0 0, .float .f64 0] 49))
  have HD := Lib.hid (AtL.new w 49 #[.complex .f64 0 0, .float .f64 0])
  have H := Lib.hid (HW (w.alloc (.cells #[.complex .f64 0 0, .float .f64 0] 49)))
  clear HW
  go_enter Try.func18, Try.ntmps18
  go_wp2_with fail
  refine H.out.mono ?_
  generalize w.alloc (.cells #[.complex .f64 0 0, .float .f64 0] 49) = wa at *
  rintro e w1 ⟨rfl, hb1⟩
  have HB := Lib.hid (below_alloc (HA.out.trans (hb1.mono HA.out.size)) (Nat.le_refl _) (.cells #[.int .i64 q, .int .i64 0, .bool m] 81))
  have HD1 := Lib.hid ((HD.out.keep hb1).alloc' (.cells #[.int .i64 q, .int .i64 0, .bool m] 81))
  have HN := Lib.hid (At3.new w1 81 (.int .i64 q) (.int .i64 0) (.bool m))
  have x0 := HN.out.c0; have x1 := HN.out.c1; have x2 := HN.out.c2
  clear hb1 H HA HD
  go_wp2_with fail
  refine (HP.out _ HB.out).mono ?_
  generalize w1.alloc (.cells #[.int .i64 q, .int .i64 0, .bool m] 81) = wb at *
  rintro e w2 ⟨rfl, hb2⟩
  have HB2 := Lib.hid (HB.out.trans (hb2.mono HB.out.size))
  have HD2 := Lib.hid (HD1.out.keep hb2)
  have k0 := HD2.out.cell 0 rfl; have k1 := HD2.out.cell 1 rfl; have q0 := HD2.out.frozen 0; have q1 := HD2.out.frozen 1
  have HD3 := Lib.hid ((HD2.out.set 0 (.complex .f64 c d)).set 1 (.float .f64 0))
  have HE := Lib.hid ((HB2.out.setCell (p := ⟨w.heap.size, 0, none⟩) (Nat.le_refl _) (.complex .f64 c d)).setCell (p := ⟨w.heap.size, 1, none⟩) (Nat.le_refl _) (.float .f64 0))
  clear hb2 HB HD1 HB2 x0 x1 x2 HN
  go_wp2_with fail
  have r0 := HD3.out.cell 0 rfl; have r1 := HD3.out.cell 1 rfl
  exact bodyPost_ret (v := .tuple #[.agg #[.complex .f64 c d, .float .f64 0], .int .i64 0]) (by simp [results, Try.results18, go_sem, r0, r1]) rfl ⟨rfl, HE.out⟩
set_option maxHeartbeats 4000000 in
theorem disc_pos (w : World) (k n q r : Int) (m : Bool) (c d : Nat) (hr : ¬ r = 0) (HW : ∀ W, Calls Try.prog 41 #[.int .i64 k, .int .i64 n] W (WayRes W q r m 0)) (HP : ∀ W, Below w.heap.size w W → Calls Try.prog 42 #[.agg #[.int .i64 q, .int .i64 r, .bool m]] W fun e w' => e = .returned (.complex .f64 c d) ∧ Below W.heap.size W w') : Calls Try.prog 18 #[.int .i64 k, .int .i64 n] w fun e w' => e = .returned (.tuple #[.agg #[.complex .f64 c d, .float .f64 4409024035195715584], .int .i64 0]) ∧ Below w.heap.size w w' := by
  have HP := Lib.hid HP
  have HA := Lib.hid (box1_below w (.cells #[.complex .f64 0 0, .float .f64 0] 49))
  have HD := Lib.hid (AtL.new w 49 #[.complex .f64 0 0, .float .f64 0])
  have H := Lib.hid (HW (w.alloc (.cells #[.complex .f64 0 0, .float .f64 0] 49)))
  clear HW
  go_enter Try.func18, Try.ntmps18
  go_wp2_with fail
  refine H.out.mono ?_
  generalize w.alloc (.cells #[.complex .f64 0 0, .float .f64 0] 49) = wa at *
  rintro e w1 ⟨rfl, hb1⟩
  have HB := Lib.hid (below_alloc (HA.out.trans (hb1.mono HA.out.size)) (Nat.le_refl _) (.cells #[.int .i64 q, .int .i64 r, .bool m] 81))
  have HD1 := Lib.hid ((HD.out.keep hb1).alloc' (.cells #[.int .i64 q, .int .i64 r, .bool m] 81))
  have HN := Lib.hid (At3.new w1 81 (.int .i64 q) (.int .i64 r) (.bool m))
  have x0 := HN.out.c0; have x1 := HN.out.c1; have x2 := HN.out.c2
  clear hb1 H HA HD
  go_wp2_with fail
  refine (HP.out _ HB.out).mono ?_
  generalize w1.alloc (.cells #[.int .i64 q, .int .i64 r, .bool m] 81) = wb at *
  rintro e w2 ⟨rfl, hb2⟩
  have HB2 := Lib.hid (HB.out.trans (hb2.mono HB.out.size))
  have HD2 := Lib.hid (HD1.out.keep hb2)
  have k0 := HD2.out.cell 0 rfl; have k1 := HD2.out.cell 1 rfl; have q0 := HD2.out.frozen 0; have q1 := HD2.out.frozen 1
  have HD3 := Lib.hid ((HD2.out.set 0 (.complex .f64 c d)).set 1 (.float .f64 4409024035195715584))
  have HE := Lib.hid ((HB2.out.setCell (p := ⟨w.heap.size, 0, none⟩) (Nat.le_refl _) (.complex .f64 c d)).setCell (p := ⟨w.heap.size, 1, none⟩) (Nat.le_refl _) (.float .f64 4409024035195715584))
  clear hb2 HB HD1 HB2 x0 x1 x2 HN
  go_wp2_with fail
  have r0 := HD3.out.cell 0 rfl; have r1 := HD3.out.cell 1 rfl
  exact bodyPost_ret (v := .tuple #[.agg #[.complex .f64 c d, .float .f64 4409024035195715584], .int .i64 0]) (by simp [results, Try.results18, go_sem, r0, r1]) rfl ⟨rfl, HE.out⟩
theorem may_low (w : World) (n : Int) (hn : n < 0) : Calls Try.prog 43 #[.int .i64 n] w fun e w' => e = .returned (.int .i64 2) ∧ w = w' := by
  go_enter Try.func43, Try.ntmps43
  go_wp2
  go_ret
  exact ⟨rfl, rfl⟩
theorem may_high (w : World) (n : Int) (hn : 16 < n) : Calls Try.prog 43 #[.int .i64 n] w fun e w' => e = .returned (.int .i64 3) ∧ w = w' := by
  have n0 : ¬ n < 0 := by omega
  go_enter Try.func43, Try.ntmps43
  go_wp2
  go_ret
  exact ⟨rfl, rfl⟩
theorem may_mid (w : World) (n : Int) (h0 : 0 ≤ n) (h1 : n ≤ 16) : Calls Try.prog 43 #[.int .i64 n] w fun e w' => e = .returned (.int .i64 0) ∧ w = w' := by
  have n0 : ¬ n < 0 := by omega
  have n1 : ¬ n > 16 := by omega
  go_enter Try.func43, Try.ntmps43
  go_wp2
  go_ret
  exact ⟨rfl, rfl⟩
theorem rparts_err (w : World) (k n c : Int) (hc : c ≠ 0) (HM : ∀ w, Calls Try.prog 43 #[.int .i64 n] w fun e w' => e = .returned (.int .i64 c) ∧ w = w') : Calls Try.prog 16 #[.int .i64 k, .int .i64 n] w fun e w' => e = .returned (.tuple #[.complex .f64 0 0, .int .i64 c]) ∧ Below w.heap.size w w' := by
  have HM := Lib.hid HM
  go_enter Try.func16, Try.ntmps16
  go_wp2_with (go_at_call 43; refine (HM.out _).mono ?_; rintro e w' ⟨rfl, rfl⟩)
  go_ret2
  exact ⟨rfl, Below.refl _ _⟩
theorem rparts_ok (w : World) (k n : Int) (c d : Nat) (HM : ∀ w, Calls Try.prog 43 #[.int .i64 n] w fun e w' => e = .returned (.int .i64 0) ∧ w = w') (HP : ∀ W, Below w.heap.size w W → Calls Try.prog 44 #[.int .i64 k, .int .i64 n] W fun e w' => e = .returned (.complex .f64 c d) ∧ Below W.heap.size W w') : Calls Try.prog 16 #[.int .i64 k, .int .i64 n] w fun e w' => e = .returned (.tuple #[.complex .f64 c d, .int .i64 0]) ∧ Below w.heap.size w w' := by
  have HM := Lib.hid HM
  have HP := Lib.hid (HP w (Below.refl _ _))
  go_enter Try.func16, Try.ntmps16
  go_wp2_with (first | (go_at_call 43; refine (HM.out _).mono ?_; rintro e w' ⟨rfl, rfl⟩) | (go_at_call 44; refine HP.out.mono ?_; rintro e w2 ⟨rfl, hb2⟩))
  go_ret2
  exact ⟨rfl, hb2⟩
set_option maxHeartbeats 4000000 in
theorem rdisc_err (w : World) (k n c : Int) (hc : c ≠ 0) (HM : ∀ w, Calls Try.prog 43 #[.int .i64 n] w fun e w' => e = .returned (.int .i64 c) ∧ w = w') : Calls Try.prog 19 #[.int .i64 k, .int .i64 n] w fun e w' => e = .returned (.tuple #[.agg #[.complex .f64 0 0, .float .f64 0], .int .i64 c]) ∧ Below w.heap.size w w' := by
  have HA := Lib.hid (box1_below w (.cells #[.complex .f64 0 0, .float .f64 0] 49))
  have HD := Lib.hid (AtL.new w 49 #[.complex .f64 0 0, .float .f64 0])
  have HM := Lib.hid HM
  have k0 := HD.out.cell 0 rfl; have k1 := HD.out.cell 1 rfl; have q0 := HD.out.frozen 0; have q1 := HD.out.frozen 1
  have HD2 := Lib.hid ((HD.out.set 0 (.complex .f64 0 0)).set 1 (.float .f64 0))
  have HE := Lib.hid ((HA.out.setCell (p := ⟨w.heap.size, 0, none⟩) (Nat.le_refl _) (.complex .f64 0 0)).setCell (p := ⟨w.heap.size, 1, none⟩) (Nat.le_refl _) (.float .f64 0))
  go_enter Try.func19, Try.ntmps19
  go_wp2_with (go_at_call 43; refine (HM.out _).mono ?_; rintro e w' ⟨rfl, rfl⟩)
  have r0 := HD2.out.cell 0 rfl; have r1 := HD2.out.cell 1 rfl; have s0 := HD.out.cell 0 rfl; have s1 := HD.out.cell 1 rfl
  first
    | exact bodyPost_ret (v := .tuple #[.agg #[.complex .f64 0 0, .float .f64 0], .int .i64 c]) (by simp [results, Try.results19, go_sem, s0, s1]) rfl ⟨rfl, HA.out⟩
    | exact bodyPost_ret (v := .tuple #[.agg #[.complex .f64 0 0, .float .f64 0], .int .i64 c]) (by simp [results, Try.results19, go_sem, r0, r1]) rfl ⟨rfl, HE.out⟩
end Tp
end Go.Proofs.Ytepnghhgmjobjaa
namespace Go.Proofs.Ytepnghhgmjobjaa
open Go Go.RowKit
namespace Tp
set_option maxRecDepth 100000
set_option maxHeartbeats 4000000 in
theorem rdisc_pos (w : World) (k n : Int) (c d : Nat) (hc : (FloatKind.f64.format.order c 0 == some .eq) = false) (hd : (FloatKind.f64.format.order d 0 == some .eq) = false) (HM : ∀ w, Calls Try.prog 43 #[.int .i64 n] w fun e w' => e = .returned (.int .i64 0) ∧ w = w') (HP : ∀ W, Below w.heap.size w W → Calls Try.prog 44 #[.int .i64 k, .int .i64 n] W fun e w' => e = .returned (.complex .f64 c d) ∧ Below W.heap.size W w') : Calls Try.prog 19 #[.int .i64 k, .int .i64 n] w fun e w' => e = .returned (.tuple #[.agg #[.complex .f64 c d, .float .f64 4409024035195715584], .int .i64 0]) ∧ Below w.heap.size w w' := by
  have HA := Lib.hid (box1_below w (.cells #[.complex .f64 0 0, .float .f64 0] 49))
  have HD := Lib.hid (AtL.new w 49 #[.complex .f64 0 0, .float .f64 0])
  have HM := Lib.hid HM
  have HP := Lib.hid (HP _ HA.out)
  go_enter Try.func19, Try.ntmps19
  go_wp2_with (go_at_call 43; refine (HM.out _).mono ?_; rintro e w' ⟨rfl, rfl⟩)
  refine HP.out.mono ?_
  generalize w.alloc (.cells #[.complex .f64 0 0, .float .f64 0] 49) = wa at *
  rintro e w1 ⟨rfl, hb1⟩
  have HB := Lib.hid (below_alloc (HA.out.trans (hb1.mono HA.out.size)) (Nat.le_refl _) (.cells #[.complex .f64 c d, .float .f64 4409024035195715584] 49))
  have HD1 := Lib.hid ((HD.out.keep hb1).alloc' (.cells #[.complex .f64 c d, .float .f64 4409024035195715584] 49))
  have HN := Lib.hid (AtL.new w1 49 #[.complex .f64 c d, .float .f64 4409024035195715584])
  have x0 := HN.out.cell 0 rfl; have x1 := HN.out.cell 1 rfl; have y1 := HN.out.frozen 1
  have HSZ := hb1.size
  have hsz : w.heap.size ≠ w1.heap.size := by have := HD.out.lt; omega
  clear hb1 HA HD HP
  have k0 := HD1.out.cell 0 rfl; have k1 := HD1.out.cell 1 rfl; have q0 := HD1.out.frozen 0; have q1 := HD1.out.frozen 1
  have HD2 := Lib.hid ((HD1.out.set 0 (.complex .f64 c d)).set 1 (.float .f64 4409024035195715584))
  have HE := Lib.hid ((HB.out.setCell (p := ⟨w.heap.size, 0, none⟩) (Nat.le_refl _) (.complex .f64 c d)).setCell (p := ⟨w.heap.size, 1, none⟩) (Nat.le_refl _) (.float .f64 4409024035195715584))
  go_wp2_with fail
  have r0 := HD2.out.cell 0 rfl; have r1 := HD2.out.cell 1 rfl
  exact bodyPost_ret (v := .tuple #[.agg #[.complex .f64 c d, .float .f64 4409024035195715584], .int .i64 0]) (by simp [results, Try.results19, go_sem, r0, r1]) rfl ⟨rfl, HE.out⟩
set_option maxHeartbeats 4000000 in
theorem rdisc_z1 (w : World) (k n : Int) (c d : Nat) (hc : (FloatKind.f64.format.order c 0 == some .eq) = true) (HM : ∀ w, Calls Try.prog 43 #[.int .i64 n] w fun e w' => e = .returned (.int .i64 0) ∧ w = w') (HP : ∀ W, Below w.heap.size w W → Calls Try.prog 44 #[.int .i64 k, .int .i64 n] W fun e w' => e = .returned (.complex .f64 c d) ∧ Below W.heap.size W w') : Calls Try.prog 19 #[.int .i64 k, .int .i64 n] w fun e w' => e = .returned (.tuple #[.agg #[.complex .f64 c d, .float .f64 0], .int .i64 0]) ∧ Below w.heap.size w w' := by
  have HA := Lib.hid (box1_below w (.cells #[.complex .f64 0 0, .float .f64 0] 49))
  have HD := Lib.hid (AtL.new w 49 #[.complex .f64 0 0, .float .f64 0])
  have HM := Lib.hid HM
  have HP := Lib.hid (HP _ HA.out)
  go_enter Try.func19, Try.ntmps19
  go_wp2_with (go_at_call 43; refine (HM.out _).mono ?_; rintro e w' ⟨rfl, rfl⟩)
  refine HP.out.mono ?_
  generalize w.alloc (.cells #[.complex .f64 0 0, .float .f64 0] 49) = wa at *
  rintro e w1 ⟨rfl, hb1⟩
  have HB := Lib.hid (below_alloc (HA.out.trans (hb1.mono HA.out.size)) (Nat.le_refl _) (.cells #[.complex .f64 c d, .float .f64 4409024035195715584] 49))
  have HD1 := Lib.hid ((HD.out.keep hb1).alloc' (.cells #[.complex .f64 c d, .float .f64 4409024035195715584] 49))
  have HN := Lib.hid (AtL.new w1 49 #[.complex .f64 c d, .float .f64 4409024035195715584])
  have x0 := HN.out.cell 0 rfl; have x1 := HN.out.cell 1 rfl; have y1 := HN.out.frozen 1
  have HBz := Lib.hid (below_alloc (HA.out.trans (hb1.mono HA.out.size)) (Nat.le_refl _) (.cells #[.complex .f64 c d, .float .f64 0] 49))
  have HDz := Lib.hid ((HD.out.keep hb1).alloc' (.cells #[.complex .f64 c d, .float .f64 0] 49))
  have HNz := Lib.hid (AtL.new w1 49 #[.complex .f64 c d, .float .f64 0])
  have z0 := HNz.out.cell 0 rfl; have z1 := HNz.out.cell 1 rfl
  have k0 := HDz.out.cell 0 rfl; have k1 := HDz.out.cell 1 rfl; have q0 := HDz.out.frozen 0; have q1 := HDz.out.frozen 1
  have HD2 := Lib.hid ((HDz.out.set 0 (.complex .f64 c d)).set 1 (.float .f64 0))
  have HE := Lib.hid ((HBz.out.setCell (p := ⟨w.heap.size, 0, none⟩) (Nat.le_refl _) (.complex .f64 c d)).setCell (p := ⟨w.heap.size, 1, none⟩) (Nat.le_refl _) (.float .f64 0))
  clear hb1 HA HD HP HB HD1
  go_wp2_with fail
  have r0 := HD2.out.cell 0 rfl; have r1 := HD2.out.cell 1 rfl
  exact bodyPost_ret (v := .tuple #[.agg #[.complex .f64 c d, .float .f64 0], .int .i64 0]) (by simp [results, Try.results19, go_sem, r0, r1]) rfl ⟨rfl, HE.out⟩
set_option maxHeartbeats 4000000 in
theorem rdisc_z2 (w : World) (k n : Int) (c d : Nat) (hc : (FloatKind.f64.format.order c 0 == some .eq) = false) (hd : (FloatKind.f64.format.order d 0 == some .eq) = true) (HM : ∀ w, Calls Try.prog 43 #[.int .i64 n] w fun e w' => e = .returned (.int .i64 0) ∧ w = w') (HP : ∀ W, Below w.heap.size w W → Calls Try.prog 44 #[.int .i64 k, .int .i64 n] W fun e w' => e = .returned (.complex .f64 c d) ∧ Below W.heap.size W w') : Calls Try.prog 19 #[.int .i64 k, .int .i64 n] w fun e w' => e = .returned (.tuple #[.agg #[.complex .f64 c d, .float .f64 0], .int .i64 0]) ∧ Below w.heap.size w w' := by
  have HA := Lib.hid (box1_below w (.cells #[.complex .f64 0 0, .float .f64 0] 49))
  have HD := Lib.hid (AtL.new w 49 #[.complex .f64 0 0, .float .f64 0])
  have HM := Lib.hid HM
  have HP := Lib.hid (HP _ HA.out)
  go_enter Try.func19, Try.ntmps19
  go_wp2_with (go_at_call 43; refine (HM.out _).mono ?_; rintro e w' ⟨rfl, rfl⟩)
  refine HP.out.mono ?_
  generalize w.alloc (.cells #[.complex .f64 0 0, .float .f64 0] 49) = wa at *
  rintro e w1 ⟨rfl, hb1⟩
  have HB := Lib.hid (below_alloc (HA.out.trans (hb1.mono HA.out.size)) (Nat.le_refl _) (.cells #[.complex .f64 c d, .float .f64 4409024035195715584] 49))
  have HD1 := Lib.hid ((HD.out.keep hb1).alloc' (.cells #[.complex .f64 c d, .float .f64 4409024035195715584] 49))
  have HN := Lib.hid (AtL.new w1 49 #[.complex .f64 c d, .float .f64 4409024035195715584])
  have x0 := HN.out.cell 0 rfl; have x1 := HN.out.cell 1 rfl; have y1 := HN.out.frozen 1
  have HBz := Lib.hid (below_alloc (HA.out.trans (hb1.mono HA.out.size)) (Nat.le_refl _) (.cells #[.complex .f64 c d, .float .f64 0] 49))
  have HDz := Lib.hid ((HD.out.keep hb1).alloc' (.cells #[.complex .f64 c d, .float .f64 0] 49))
  have HNz := Lib.hid (AtL.new w1 49 #[.complex .f64 c d, .float .f64 0])
  have z0 := HNz.out.cell 0 rfl; have z1 := HNz.out.cell 1 rfl
  have k0 := HDz.out.cell 0 rfl; have k1 := HDz.out.cell 1 rfl; have q0 := HDz.out.frozen 0; have q1 := HDz.out.frozen 1
  have HD2 := Lib.hid ((HDz.out.set 0 (.complex .f64 c d)).set 1 (.float .f64 0))
  have HE := Lib.hid ((HBz.out.setCell (p := ⟨w.heap.size, 0, none⟩) (Nat.le_refl _) (.complex .f64 c d)).setCell (p := ⟨w.heap.size, 1, none⟩) (Nat.le_refl _) (.float .f64 0))
  clear hb1 HA HD HP HB HD1
  go_wp2_with fail
  have r0 := HD2.out.cell 0 rfl; have r1 := HD2.out.cell 1 rfl
  exact bodyPost_ret (v := .tuple #[.agg #[.complex .f64 c d, .float .f64 0], .int .i64 0]) (by simp [results, Try.results19, go_sem, r0, r1]) rfl ⟨rfl, HE.out⟩
end Tp
end Go.Proofs.Ytepnghhgmjobjaa
namespace Go.Proofs.Ytepnghhgmjobjaa
open Go Go.RowKit
namespace Tp
set_option maxRecDepth 100000
def sqTail (x : Nat) : Option Nat → Sem Value
  | some r => pure (.float .f64 r)
  | none => do pure (.float .f64 (← choose (.nanBits .f64 x x)))
theorem call_sqrt {x r : Nat} (h : FloatKind.f64.format.sqrt x = some r) (w : World) : (callFunc 96 #[.float .f64 x]).run Try.prog w = .ok (.value (.float .f64 r)) w := by
  rw [run_callFunc_extern (e := Extern.MathSqrt.sqrt) Try.func96 (by kernel_rfl) (by kernel_rfl) (by kernel_rfl) (by kernel_rfl)]
  have e : Extern.MathSqrt.sqrt #[.float .f64 x] = sqTail x (FloatKind.f64.format.sqrt x) := rfl
  rw [e, h]; rfl
theorem msqrt_any {x r : Nat} (h : FloatKind.f64.format.sqrt x = some r) (w : World) : Calls Try.prog 84 #[.float .f64 x] w fun e w' => e = .returned (.float .f64 r) ∧ w = w' := by
  have o1 := fun w => call_sqrt h w
  clear h
  go_enter Try.func84, Try.ntmps84
  go_wp2_with (simp only [o1])
  go_ret
  exact ⟨rfl, rfl⟩
noncomputable def sqF (x r : Nat) : Ev.Fact := ⟨84, [.float .f64 x], .float .f64 r⟩
theorem sqF_ok {x r : Nat} (h : FloatKind.f64.format.sqrt x = some r) : (sqF x r).ok := ⟨rfl, rfl, fun w _ _ => (msqrt_any h w).mono fun _ _ hh => ⟨hh.1, hh.2 ▸ Below.refl _ _⟩⟩
noncomputable def sqL : List Ev.Fact := [sqF 4602678819172646912 4604544271217802189, sqF 4605863345008909798 4606496786581982534, sqF 4606839602690999971 4607009347991985328, sqF 4607095883396001368 4607139046673687846, sqF 4607160732736852627 4607171569234046334, sqF 4607176994017031871 4607179706000002317, sqF 4607181062400009862 4607181740574479067, sqF 4607182079687248238 4607182249242036882, sqF 4607182334021027145 4607182376410422530, sqF 4607182397605219969 4607182408202612454, sqF 4607182413501314931 4607182416150665780, sqF 4607182417475341594 4607182418137679477, sqF 4607182418468848442 4607182418634432923, sqF 4607182418717225166 4607182418758621287]
theorem sqL_ok : ∀ x ∈ sqL, x.ok := by
  intro x hx
  simp only [sqL, List.mem_cons, List.not_mem_nil, or_false] at hx
  rcases hx with rfl | rfl | rfl | rfl | rfl | rfl | rfl | rfl | rfl | rfl | rfl | rfl | rfl | rfl <;> exact sqF_ok (by decide +kernel)
noncomputable def ptF (i a b : Nat) : Ev.Fact := ⟨66, [.int .i64 (i : Nat)], .complex .f64 a b⟩
theorem ptF_0 : (ptF 3 4604544271217802189 4604544271217802189).ok := Ev.Fact.by_run (n := 80) sqL_ok (by kernel_rfl) rfl
theorem ptF_1 : (ptF 4 4606496786581982534 4600565431771507043).ok := Ev.Fact.by_run (n := 80) sqL_ok (by kernel_rfl) rfl
theorem ptF_2 : (ptF 5 4607009347991985328 4596196889902818827).ok := Ev.Fact.by_run (n := 80) sqL_ok (by kernel_rfl) rfl
theorem ptF_3 : (ptF 6 4607139046673687846 4591727299969791020).ok := Ev.Fact.by_run (n := 80) sqL_ok (by kernel_rfl) rfl
theorem ptF_4 : (ptF 7 4607171569234046334 4587232218149935124).ok := Ev.Fact.by_run (n := 80) sqL_ok (by kernel_rfl) rfl
theorem ptF_5 : (ptF 8 4607179706000002317 4582730748936808062).ok := Ev.Fact.by_run (n := 80) sqL_ok (by kernel_rfl) rfl
theorem ptF_6 : (ptF 9 4607181740574479067 4578227681973159813).ok := Ev.Fact.by_run (n := 80) sqL_ok (by kernel_rfl) rfl
theorem ptF_7 : (ptF 10 4607182249242036882 4573724215515480178).ok := Ev.Fact.by_run (n := 80) sqL_ok (by kernel_rfl) rfl
theorem ptF_8 : (ptF 11 4607182376410422530 4569220649180767419).ok := Ev.Fact.by_run (n := 80) sqL_ok (by kernel_rfl) rfl
theorem ptF_9 : (ptF 12 4607182408202612454 4564717057876576046).ok := Ev.Fact.by_run (n := 80) sqL_ok (by kernel_rfl) rfl
theorem ptF_10 : (ptF 13 4607182416150665780 4560213460330001249).ok := Ev.Fact.by_run (n := 80) sqL_ok (by kernel_rfl) rfl
theorem ptF_11 : (ptF 14 4607182418137679477 4555709861222829735).ok := Ev.Fact.by_run (n := 80) sqL_ok (by kernel_rfl) rfl
theorem ptF_12 : (ptF 15 4607182418634432923 4551206261725508989).ok := Ev.Fact.by_run (n := 80) sqL_ok (by kernel_rfl) rfl
theorem ptF_13 : (ptF 16 4607182418758621287 4546702662130650930).ok := Ev.Fact.by_run (n := 80) sqL_ok (by kernel_rfl) rfl
theorem part_any (w : World) (i : Nat) (hi : i < 14) (hG : Try.prog.globals.size ≤ w.heap.size) : Calls Try.prog 66 #[.int .i64 ((i + 3 : Nat) : Int)] w fun e w' => e = .returned (.complex .f64 (pl.getD i (0, 0)).1 (pl.getD i (0, 0)).2) ∧ Below w.heap.size w w' := by
  rcases (show i = 0 ∨ i = 1 ∨ i = 2 ∨ i = 3 ∨ i = 4 ∨ i = 5 ∨ i = 6 ∨ i = 7 ∨ i = 8 ∨ i = 9 ∨ i = 10 ∨ i = 11 ∨ i = 12 ∨ i = 13 by omega) with rfl | rfl | rfl | rfl | rfl | rfl | rfl | rfl | rfl | rfl | rfl | rfl | rfl | rfl
  · exact ptF_0.2.2 w hG trivial
  · exact ptF_1.2.2 w hG trivial
  · exact ptF_2.2.2 w hG trivial
  · exact ptF_3.2.2 w hG trivial
  · exact ptF_4.2.2 w hG trivial
  · exact ptF_5.2.2 w hG trivial
  · exact ptF_6.2.2 w hG trivial
  · exact ptF_7.2.2 w hG trivial
  · exact ptF_8.2.2 w hG trivial
  · exact ptF_9.2.2 w hG trivial
  · exact ptF_10.2.2 w hG trivial
  · exact ptF_11.2.2 w hG trivial
  · exact ptF_12.2.2 w hG trivial
  · exact ptF_13.2.2 w hG trivial
end Tp
end Go.Proofs.Ytepnghhgmjobjaa
namespace Go.Proofs.Ytepnghhgmjobjaa
open Go Go.RowKit
namespace Tp
set_option maxRecDepth 100000
theorem ref_facts (k : Int) (n : Nat) (hn : n ≤ 16) : ∃ (M a t p : Int), wrap64 (2 ^ n) = M ∧ 0 < M ∧ M ≤ 65536 ∧ k.tmod M = a ∧ IntKind.i64.wrap (a + M) = a + M ∧ (a + M).tmod M = t ∧ (65536 : Int).tdiv M = p ∧ IntKind.i64.wrap (t * p) = (jN k n : Int) := by
  have hj := ref_j k n hn
  have hl := jN_lt k n
  have hM : (0 : Int) < 2 ^ n ∧ (2 : Int) ^ n ≤ 65536 := by
    have h1 : (2 : Nat) ^ n ≤ 2 ^ 16 := Nat.pow_le_pow_right (by omega) hn
    have h2 : 0 < (2 : Nat) ^ n := Nat.pow_pos (by omega)
    have e : ((2 ^ n : Nat) : Int) = (2 : Int) ^ n := by rw [Int.natCast_pow]; rfl
    rw [← e]
    omega
  generalize (2 : Int) ^ n = M at *
  have h3 := Int.tmod_lt_of_pos k hM.1
  have h4 : -M < k.tmod M := by
    have := Int.tmod_lt_of_pos (-k) hM.1
    rw [Int.neg_tmod] at this
    omega
  refine ⟨M, _, _, _, ?_, hM.1, hM.2, rfl, ?_, rfl, rfl, ?_⟩
  · unfold wrap64
    omega
  · exact IntWalk.i64_in _ (by omega)
  · rw [hj]
    exact IntWalk.i64_in _ (by omega)
theorem shr_test {r t : Nat} : (((r / 2 ^ t) &&& 1 : Nat) : Int) = if r.testBit t = true then 1 else 0 := by
  rw [Nat.and_one_is_mod, Nat.testBit_eq_decide_div_mod_eq]
  by_cases h : r / 2 ^ t % 2 = 1
  · rw [h]; simp [h]
  · have : r / 2 ^ t % 2 = 0 := by omega
    rw [this]; simp
theorem shr_bits {r t : Nat} (hr : r ≤ 8192) : bits .and .i64 ((r : Int) / 2 ^ t) 1 = if r.testBit t = true then 1 else 0 := by
  have e1 : (r : Int) / 2 ^ t = ((r / 2 ^ t : Nat) : Int) := by
    rw [Int.natCast_ediv, Int.natCast_pow]; rfl
  have h2 := Nat.div_le_self r (2 ^ t)
  rw [e1, show (1 : Int) = ((1 : Nat) : Int) from rfl, and_i64_nat _ _ (by omega) (by decide)]
  exact shr_test
set_option maxHeartbeats 16000000 in
theorem at_any (w : World) (k : Int) (n : Nat) (hn : n ≤ 16) (h0 : -9223372036854775808 ≤ k) (h1 : k ≤ 9223372036854775807) (hG : Try.prog.globals.size ≤ w.heap.size) : Calls Try.prog 44 #[.int .i64 k, .int .i64 n] w fun e w' => e = .returned (.complex .f64 (ptC (jN k n / 16384) (mirOf (jN k n)) (zOf (restOf (jN k n)))).1 (ptC (jN k n / 16384) (mirOf (jN k n)) (zOf (restOf (jN k n)))).2) ∧ Below w.heap.size w w' := by
  have n0 : ¬ (n : Int) < 0 := by omega
  obtain ⟨M, a, t, p, hM, hM0, hM1, ha, hs, ht, hp, hj⟩ := ref_facts k n hn
  have hjl := jN_lt k n
  generalize jN k n = j at *
  have hMn : ¬ M = 0 := by omega
  have hpb : 0 ≤ p ∧ p ≤ 65536 := by
    rw [← hp]
    have h2 : Int.tdiv 65536 M = 65536 / M := Int.tdiv_eq_ediv_of_nonneg (by omega)
    rw [h2]
    refine ⟨Int.ediv_nonneg (by omega) (by omega), ?_⟩
    exact Int.ediv_le_self _ (by omega)
  have hpw : wrap64 p = p := by
    unfold wrap64
    omega
  have hjw : wrap64 (t * p) = (j : Int) := by
    rw [IntKind.wrap_i64] at hj
    generalize t * p = x at *
    unfold wrap64
    omega
  obtain ⟨q, hq⟩ : ∃ q, j / 16384 = q := ⟨_, rfl⟩
  obtain ⟨r, hr⟩ : ∃ r, j % 16384 = r := ⟨_, rfl⟩
  have hq' : ((j : Nat) : Int).tdiv 16384 = (q : Int) := by rw [Int.tdiv_eq_ediv_of_nonneg (by omega)]; omega
  have hr' : ((j : Nat) : Int).tmod 16384 = (r : Int) := by rw [Int.tmod_eq_emod_of_nonneg (by omega)]; omega
  have hqw : wrap64 (q : Int) = (q : Int) := by
    unfold wrap64
    omega
  obtain ⟨rr, hrr⟩ : ∃ rr, restOf j = rr := ⟨_, rfl⟩
  have hrl : rr ≤ 8192 := hrr ▸ restOf_le j
  obtain ⟨mm, hmm⟩ : ∃ mm, mirOf j = mm := ⟨_, rfl⟩
  rw [hq, hrr, hmm]
  have HGd := Lib.hid (fun j (hj : j ≤ 14) => good_all hrl hj)
  have HPt := Lib.hid (fun W i hi (h : Below w.heap.size w W) => part_any W i hi (Nat.le_trans hG h.size))
  have hml : (mm = true ∧ (8192 : Int) < (r : Int) ∧ wrap64 (16384 - (r : Int)) = (rr : Int)) ∨ (mm = false ∧ ¬ (8192 : Int) < (r : Int) ∧ rr = r) := by
    by_cases hm : 8192 < r
    · refine .inl ⟨by rw [← hmm]; unfold mirOf; rw [hr]; exact decide_eq_true hm, by omega, ?_⟩
      rw [← hrr]; unfold restOf; rw [hr, if_pos hm]
      unfold wrap64
      omega
    · refine .inr ⟨by rw [← hmm]; unfold mirOf; rw [hr]; exact decide_eq_false hm, by omega, ?_⟩
      rw [← hrr]; unfold restOf; rw [hr, if_neg hm]
  have hq3 : q ≤ 3 := by
    rw [← hq]
    exact Nat.le_of_lt_succ (Nat.div_lt_of_lt_mul (show j < 16384 * 4 from hjl))
  clear hj hrr hmm hG hq hr
  go_enter Try.func44, Try.ntmps44
  go_wp2_with fail
  go_quiet (fail)
  have HB := Lib.hid (below_drewN (Below.refl w.heap.size w) nq)
  generalize w.drewN nq = wd at *
  clear hM ha hs ht hp hMn hM0 hM1 h0 h1 hn
  rcases hml with ⟨rfl, hm', hs'⟩ | ⟨rfl, hm', rfl⟩
  · go_wp2_with fail
    rw [hs']
    try rw [hqw]
    clear hpw hjw hq' hr' hqw hm' hs' hpb hjl
    go_loopw [10, 11, 12] (fun zv fv bv wr => ∃ (i a b : Nat) (f : Bool), i ≤ 14 ∧ bv = .int .i64 (13 - (i : Int)) ∧ fv = .bool f ∧ zv = .complex .f64 a b ∧ Hid (prodC rr i = some (a, b)) ∧ Hid (f = true → (a, b) = oneC) ∧ Hid (Below w.heap.size w wr)) (fun _ _ bv _ => ((intOf bv) + 1).toNat)
    case atStart => exact ⟨0, _, _, true, by omega, rfl, rfl, rfl, Lib.hid rfl, Lib.hid fun _ => rfl, HB⟩
    case round =>
      obtain ⟨i, a, b, f, hi, rfl, rfl, rfl, HPr, HF, HBr⟩ := hrel
      by_cases hlt : i < 14
      · obtain ⟨tt, htt⟩ : ∃ tt : Nat, 13 - (i : Int) = (tt : Int) := ⟨13 - i, by omega⟩
        have ht13 : 13 - i = tt := by omega
        have hstep : (tt : Int) - 1 = 13 - ((i + 1 : Nat) : Int) := by omega
        have hmes : ((tt : Int) - 1 + 1).toNat < ((tt : Int) + 1).toNat := by omega
        rw [htt]
        have htl : (tt : Int) ≥ 0 := by omega
        have htl2 : tt ≤ 13 := by omega
        have hbt := shr_bits (t := tt) hrl
        obtain ⟨z, hz, -⟩ := HGd.out (i + 1) (by omega)
        have HST := Lib.hid (And.intro hstep hmes)
        cases hb : rr.testBit tt with
        | false =>
          rw [hb, if_neg (by simp)] at hbt
          have HZ := Lib.hid (prod_no HPr.out (by rw [ht13]; exact hb))
          have hi1 : i + 1 ≤ 14 := by omega
          clear hz hb HPr hi hlt hstep hmes ht13 htt
          go_wp2_with fail
          go_roundw
          case rel => exact ⟨i + 1, a, b, f, hi1, by rw [HST.out.1], rfl, rfl, HZ, HF, HBr⟩
          case measure => exact HST.out.2
        | true =>
          rw [hb, if_pos rfl] at hbt
          have hp := prod_yes HPr.out (by rw [ht13]; exact hb)
          have HP1 := HPt.out wr i hlt HBr.out
          have e16 : (16 : Int) - (tt : Int) = ((i + 3 : Nat) : Int) := by omega
          rw [← e16] at HP1
          obtain ⟨c, d, hcd⟩ : ∃ c d, pl.getD i (0, 0) = (c, d) := ⟨_, _, rfl⟩
          have hone := one_part hlt
          rw [hcd] at HP1 hp hone
          have HPa := Lib.hid HP1
          have hi1 : i + 1 ≤ 14 := by omega
          cases f with
          | true =>
            have hab := HF.out rfl
            rw [hab, hone] at hp
            have HZ := Lib.hid hp
            clear hz hb HPr hi hlt hstep hmes ht13 htt hp HP1 hcd hone hab HF e16
            go_wp2_with (go_at_call 66; refine HPa.out.mono ?_; rintro e w1 ⟨rfl, hb1⟩)
            have HB1 := Lib.hid (HBr.out.trans (hb1.mono HBr.out.size))
            go_roundw
            case rel => exact ⟨i + 1, c, d, false, hi1, by rw [HST.out.1], rfl, rfl, HZ, Lib.hid (fun h => by cases h), HB1⟩
            case measure => exact HST.out.2
          | false =>
            obtain ⟨a2, b2⟩ := z
            rw [hz] at hp
            have HT := Lib.hid (fun w => rtimes_any hp.symm w)
            have HZ := Lib.hid hz
            clear hz hb HPr hi hlt hstep hmes ht13 htt hp HP1 hcd hone HF e16
            go_wp2_with (first | (go_at_call 66; refine HPa.out.mono ?_; rintro e w1 ⟨rfl, hb1⟩) | (go_at_call 67; refine (HT.out _).mono ?_; rintro e w2 ⟨rfl, rfl⟩))
            have HB1 := Lib.hid (HBr.out.trans (hb1.mono HBr.out.size))
            go_roundw
            case rel => exact ⟨i + 1, a2, b2, false, hi1, by rw [HST.out.1], rfl, rfl, HZ, Lib.hid (fun h => by cases h), HB1⟩
            case measure => exact HST.out.2
      · obtain rfl : i = 14 := by omega
        have HZ := Lib.hid (zOf_is HPr.out)
        have HS := Lib.hid (show swp true (zOf rr) = (b, a) by unfold swp; rw [HZ.out]; rfl)
        have hlt' : ¬ (13 - ((14 : Nat) : Int)) ≥ 0 := by omega
        clear HPr HF HPt HGd HZ hlt
        go_wp2_with fail
        go_loopw [10, 13] (fun zv iv wr => ∃ (i : Nat), i ≤ q ∧ iv = .int .i64 i ∧ zv = .complex .f64 (rotI i (b, a)).1 (rotI i (b, a)).2 ∧ Hid (Below w.heap.size w wr)) (fun _ iv _ => q - (intOf iv).toNat)
        case atStart => exact ⟨0, by omega, rfl, rfl, HBr⟩
        case round =>
          obtain ⟨i, hi, rfl, rfl, HBs⟩ := hrel
          by_cases hlt : i < q
          · have hlt' : (i : Int) < (q : Int) := by omega
            go_wp2_with fail
            go_roundw
            case rel => exact ⟨i + 1, by omega, by go_num, rfl, HBs⟩
            case measure => simp [intOf]; omega
          · have hlt' : ¬ (i : Int) < (q : Int) := by omega
            obtain rfl : i = q := by omega
            obtain ⟨c, d, hcd⟩ : ∃ c d, rotI i (b, a) = (c, d) := ⟨_, _, rfl⟩
            have HC := Lib.hid (show ptC i true (zOf rr) = (unsN c, unsN d) by unfold ptC; rw [HS.out, hcd])
            rw [hcd]
            have H1 := Lib.hid (fun w => runsigned_any c w)
            have H2 := Lib.hid (fun w => runsigned_any d w)
            clear hcd HS
            generalize unsN c = c2 at *
            generalize unsN d = d2 at *
            go_wp2_with (go_at_call 68; (first | with_reducible refine (H1.out _).mono ?_ | with_reducible refine (H2.out _).mono ?_); rintro e w' ⟨rfl, rfl⟩)
            go_ret
            exact ⟨by rw [HC.out]; rfl, HBs.out⟩
  · go_wp2_with fail
    try rw [hqw]
    clear hpw hjw hq' hr' hqw hm' hpb hjl
    go_loopw [10, 11, 12] (fun zv fv bv wr => ∃ (i a b : Nat) (f : Bool), i ≤ 14 ∧ bv = .int .i64 (13 - (i : Int)) ∧ fv = .bool f ∧ zv = .complex .f64 a b ∧ Hid (prodC rr i = some (a, b)) ∧ Hid (f = true → (a, b) = oneC) ∧ Hid (Below w.heap.size w wr)) (fun _ _ bv _ => ((intOf bv) + 1).toNat)
    case atStart => exact ⟨0, _, _, true, by omega, rfl, rfl, rfl, Lib.hid rfl, Lib.hid fun _ => rfl, HB⟩
    case round =>
      obtain ⟨i, a, b, f, hi, rfl, rfl, rfl, HPr, HF, HBr⟩ := hrel
      by_cases hlt : i < 14
      · obtain ⟨tt, htt⟩ : ∃ tt : Nat, 13 - (i : Int) = (tt : Int) := ⟨13 - i, by omega⟩
        have ht13 : 13 - i = tt := by omega
        have hstep : (tt : Int) - 1 = 13 - ((i + 1 : Nat) : Int) := by omega
        have hmes : ((tt : Int) - 1 + 1).toNat < ((tt : Int) + 1).toNat := by omega
        rw [htt]
        have htl : (tt : Int) ≥ 0 := by omega
        have htl2 : tt ≤ 13 := by omega
        have hbt := shr_bits (t := tt) hrl
        obtain ⟨z, hz, -⟩ := HGd.out (i + 1) (by omega)
        have HST := Lib.hid (And.intro hstep hmes)
        cases hb : rr.testBit tt with
        | false =>
          rw [hb, if_neg (by simp)] at hbt
          have HZ := Lib.hid (prod_no HPr.out (by rw [ht13]; exact hb))
          have hi1 : i + 1 ≤ 14 := by omega
          clear hz hb HPr hi hlt hstep hmes ht13 htt
          go_wp2_with fail
          go_roundw
          case rel => exact ⟨i + 1, a, b, f, hi1, by rw [HST.out.1], rfl, rfl, HZ, HF, HBr⟩
          case measure => exact HST.out.2
        | true =>
          rw [hb, if_pos rfl] at hbt
          have hp := prod_yes HPr.out (by rw [ht13]; exact hb)
          have HP1 := HPt.out wr i hlt HBr.out
          have e16 : (16 : Int) - (tt : Int) = ((i + 3 : Nat) : Int) := by omega
          rw [← e16] at HP1
          obtain ⟨c, d, hcd⟩ : ∃ c d, pl.getD i (0, 0) = (c, d) := ⟨_, _, rfl⟩
          have hone := one_part hlt
          rw [hcd] at HP1 hp hone
          have HPa := Lib.hid HP1
          have hi1 : i + 1 ≤ 14 := by omega
          cases f with
          | true =>
            have hab := HF.out rfl
            rw [hab, hone] at hp
            have HZ := Lib.hid hp
            clear hz hb HPr hi hlt hstep hmes ht13 htt hp HP1 hcd hone hab HF e16
            go_wp2_with (go_at_call 66; refine HPa.out.mono ?_; rintro e w1 ⟨rfl, hb1⟩)
            have HB1 := Lib.hid (HBr.out.trans (hb1.mono HBr.out.size))
            go_roundw
            case rel => exact ⟨i + 1, c, d, false, hi1, by rw [HST.out.1], rfl, rfl, HZ, Lib.hid (fun h => by cases h), HB1⟩
            case measure => exact HST.out.2
          | false =>
            obtain ⟨a2, b2⟩ := z
            rw [hz] at hp
            have HT := Lib.hid (fun w => rtimes_any hp.symm w)
            have HZ := Lib.hid hz
            clear hz hb HPr hi hlt hstep hmes ht13 htt hp HP1 hcd hone HF e16
            go_wp2_with (first | (go_at_call 66; refine HPa.out.mono ?_; rintro e w1 ⟨rfl, hb1⟩) | (go_at_call 67; refine (HT.out _).mono ?_; rintro e w2 ⟨rfl, rfl⟩))
            have HB1 := Lib.hid (HBr.out.trans (hb1.mono HBr.out.size))
            go_roundw
            case rel => exact ⟨i + 1, a2, b2, false, hi1, by rw [HST.out.1], rfl, rfl, HZ, Lib.hid (fun h => by cases h), HB1⟩
            case measure => exact HST.out.2
      · obtain rfl : i = 14 := by omega
        have HZ := Lib.hid (zOf_is HPr.out)
        have HS := Lib.hid (show swp false (zOf rr) = (a, b) by unfold swp; rw [HZ.out]; rfl)
        have hlt' : ¬ (13 - ((14 : Nat) : Int)) ≥ 0 := by omega
        clear HPr HF HPt HGd HZ hlt
        go_wp2_with fail
        go_loopw [10, 13] (fun zv iv wr => ∃ (i : Nat), i ≤ q ∧ iv = .int .i64 i ∧ zv = .complex .f64 (rotI i (a, b)).1 (rotI i (a, b)).2 ∧ Hid (Below w.heap.size w wr)) (fun _ iv _ => q - (intOf iv).toNat)
        case atStart => exact ⟨0, by omega, rfl, rfl, HBr⟩
        case round =>
          obtain ⟨i, hi, rfl, rfl, HBs⟩ := hrel
          by_cases hlt : i < q
          · have hlt' : (i : Int) < (q : Int) := by omega
            go_wp2_with fail
            go_roundw
            case rel => exact ⟨i + 1, by omega, by go_num, rfl, HBs⟩
            case measure => simp [intOf]; omega
          · have hlt' : ¬ (i : Int) < (q : Int) := by omega
            obtain rfl : i = q := by omega
            obtain ⟨c, d, hcd⟩ : ∃ c d, rotI i (a, b) = (c, d) := ⟨_, _, rfl⟩
            have HC := Lib.hid (show ptC i false (zOf rr) = (unsN c, unsN d) by unfold ptC; rw [HS.out, hcd])
            rw [hcd]
            have H1 := Lib.hid (fun w => runsigned_any c w)
            have H2 := Lib.hid (fun w => runsigned_any d w)
            clear hcd HS
            generalize unsN c = c2 at *
            generalize unsN d = d2 at *
            go_wp2_with (go_at_call 68; (first | with_reducible refine (H1.out _).mono ?_ | with_reducible refine (H2.out _).mono ?_); rintro e w' ⟨rfl, rfl⟩)
            go_ret
            exact ⟨by rw [HC.out]; rfl, HBs.out⟩
end Tp
end Go.Proofs.Ytepnghhgmjobjaa
namespace Go.Proofs.Ytepnghhgmjobjaa
open Go.RowKit
end Go.Proofs.Ytepnghhgmjobjaa
namespace Go.Proofs.Ytepnghhgmjobjaa
open Go.RowKit
end Go.Proofs.Ytepnghhgmjobjaa
namespace Go.Proofs.Ytepnghhgmjobjaa
open Go.RowKit
end Go.Proofs.Ytepnghhgmjobjaa
namespace Go.Proofs.Ytepnghhgmjobjaa
open Go.RowKit
theorem sizeT {P : Program} {f : FuncId} {args : Array Value} {b W : World} {v : Value} (h : Below b.heap.size b W) (c : Calls P f args W fun e w' => e = .returned v ∧ W = w') :
    Calls P f args W fun e w' => e = .returned v ∧ Below b.heap.size b w' :=
  c.mono fun _ _ ⟨h1, h2⟩ => ⟨h1, h2 ▸ h⟩
end Go.Proofs.Ytepnghhgmjobjaa
namespace Go.Proofs.Ytepnghhgmjobjaa
open Go.RowKit
end Go.Proofs.Ytepnghhgmjobjaa
namespace Go.Proofs.Ytepnghhgmjobjaa
open Go.RowKit
end Go.Proofs.Ytepnghhgmjobjaa
namespace Go.Proofs.Ytepnghhgmjobjaa
open Go.RowKit
end Go.Proofs.Ytepnghhgmjobjaa
namespace Go.Proofs.Ytepnghhgmjobjaa
open Go.RowKit
def BadF (x : Bool × ByteArray × ByteArray) : Prop := ∀ q : Rat, Fit q → ¬ (x.1 = Big.ng q ∧ x.2.1 = bst (Big.nu q) ∧ x.2.2 = bst (Big.de q))
end Go.Proofs.Ytepnghhgmjobjaa
namespace Go.Proofs.Ytepnghhgmjobjaa
open Go Go.RowKit
namespace Ev
inductive Qe where
  | v (i : Nat)
  | c (s : Bool) (n d : Nat)
  | neg (a : Qe)
  | add (a b : Qe)
  | sub (a b : Qe)
  | mul (a b : Qe)
  | quo (a b : Qe)
def Qe.ev (ρ : Nat → Rat) : Qe → Rat
  | .v i => ρ i
  | .c s n d => mkRat (Big.sI s n) d
  | .neg a => -(a.ev ρ)
  | .add a b => a.ev ρ + b.ev ρ
  | .sub a b => a.ev ρ - b.ev ρ
  | .mul a b => a.ev ρ * b.ev ρ
  | .quo a b => a.ev ρ / b.ev ρ
noncomputable def beqB (a b : Bool) : Bool := Bool.rec (motive := fun _ => Bool) (Bool.rec (motive := fun _ => Bool) true false b) b a
noncomputable def Qe.beq : Qe → Qe → Bool := Qe.rec (motive := fun _ => Qe → Bool)
  (fun i y => match y with | .v j => Nat.beq i j | _ => false)
  (fun s n d y => match y with | .c s' n' d' => beqB s s' && (Nat.beq n n' && Nat.beq d d') | _ => false)
  (fun _ ih y => match y with | .neg b => ih b | _ => false)
  (fun _ _ iha ihb y => match y with | .add a b => iha a && ihb b | _ => false)
  (fun _ _ iha ihb y => match y with | .sub a b => iha a && ihb b | _ => false)
  (fun _ _ iha ihb y => match y with | .mul a b => iha a && ihb b | _ => false)
  (fun _ _ iha ihb y => match y with | .quo a b => iha a && ihb b | _ => false)
noncomputable def Qe.bnd : Qe → Nat := Qe.rec (motive := fun _ => Nat)
  (fun i => cond (Nat.ble 100 i) 4096 64)
  (fun _ n d => Nat.add (Nat.add (Nat.div (Nat.log2 n) 64) (Nat.div (Nat.log2 d) 64)) 1)
  (fun _ a => a)
  (fun _ _ a b => Nat.succ (Nat.mul 2 (Nat.add a b)))
  (fun _ _ a b => Nat.succ (Nat.mul 2 (Nat.add a b)))
  (fun _ _ a b => Nat.add a b)
  (fun _ _ a b => Nat.add a b)
theorem Qe.bnd_pos : ∀ e : Qe, 1 ≤ e.bnd := by
  intro e
  induction e with
  | v i => show 1 ≤ cond (Nat.ble 100 i) 4096 64; cases Nat.ble 100 i <;> decide
  | c s n d => exact Nat.succ_le_succ (Nat.zero_le _)
  | neg a ih => exact ih
  | add a b _ _ => exact Nat.succ_le_succ (Nat.zero_le _)
  | sub a b _ _ => exact Nat.succ_le_succ (Nat.zero_le _)
  | mul a b iha _ => exact Nat.le_trans iha (Nat.le_add_right _ _)
  | quo a b iha _ => exact Nat.le_trans iha (Nat.le_add_right _ _)
theorem sm_zero {k : Nat} (hk : 1 ≤ k) : Sm k 0 := ⟨sz_zero.up (Nat.zero_le _), sz_one.up hk⟩
theorem sm_sub {k j : Nat} {q r : Rat} (h : Sm k q) (i : Sm j r) : Sm (2 * k + 2 * j + 1) (q - r) := by
  rw [Rat.sub_eq_add_neg]
  exact h.add i.neg
theorem Qe.sm {ρ : Nat → Rat} (hρ : ∀ i, i < 100 → Fit (ρ i)) (hβ : ∀ i, Sm 4096 (ρ i)) : ∀ e : Qe, Sm e.bnd (e.ev ρ) := by
  intro e
  induction e with
  | v i =>
    show Sm (cond (Nat.ble 100 i) 4096 64) (ρ i)
    cases hi : Nat.ble 100 i with
    | true => exact hβ i
    | false => exact (hρ i (by
        rcases Nat.lt_or_ge i 100 with h | h
        · exact h
        · rw [Nat.ble_eq_true_of_le h] at hi; cases hi)).sm
  | c s n d =>
    show Sm (Nat.div (Nat.log2 n) 64 + Nat.div (Nat.log2 d) 64 + 1) (mkRat (Big.sI s n) d)
    have e1 : Nat.div (Nat.log2 n) 64 = Nat.log2 n / 64 := rfl
    have e2 : Nat.div (Nat.log2 d) 64 = Nat.log2 d / 64 := rfl
    rw [e1, e2]
    rcases Nat.eq_zero_or_pos d with h0 | h0
    · subst h0
      rw [Rat.mkRat_zero]
      exact sm_zero (by omega)
    · obtain ⟨_, p2, p3⟩ := Big.of_parts s n d h0
      refine ⟨?_, ?_⟩
      · rw [p2]; exact (sz_log (k := Nat.log2 n / 64 + Nat.log2 d / 64 + 1) (by omega)).le (Nat.div_le_self _ _)
      · rw [p3]; exact (sz_log (k := Nat.log2 n / 64 + Nat.log2 d / 64 + 1) (by omega)).le (Nat.div_le_self _ _)
  | neg a ih => exact ih.neg
  | add a b iha ihb => exact (iha.add ihb).up (by show _ ≤ 2 * (a.bnd + b.bnd) + 1; omega)
  | sub a b iha ihb => exact (sm_sub iha ihb).up (by show _ ≤ 2 * (a.bnd + b.bnd) + 1; omega)
  | mul a b iha ihb => exact iha.mul ihb
  | quo a b iha ihb =>
    show Sm (a.bnd + b.bnd) (a.ev ρ / b.ev ρ)
    by_cases h0 : Big.nu (b.ev ρ) = 0
    · rw [Big.nu_zero.1 h0, Rat.div_def, Rat.inv_zero, Rat.mul_zero]
      exact sm_zero (Nat.le_trans a.bnd_pos (Nat.le_add_right _ _))
    · rw [Rat.div_def]
      exact iha.mul (ihb.inv h0)
structure Env where
  q : Nat → Rat
  raw : Nat → Bool × ByteArray × ByteArray
  fit : ∀ i, i < 100 → Fit (q i)
  big : ∀ i, Sm 4096 (q i)
  bad : ∀ i, BadF (raw i)
inductive Sy where
  | n (n : Nat)
  | ng (e : Qe)
  | nu (e : Qe)
  | de (e : Qe)
  | fn (e : Qe)
  | fd (e : Qe)
  | rg (i : Nat)
  | rn (i : Nat)
  | rd (i : Nat)
  | it (e : Qe)
  | is (e : Qe)
  | lg (l : List Nat)
def lenC (ρ : Env) (c : Nat) : Int := match c % 4 with
  | 0 => ((szN (Big.nu (ρ.q (c / 4))) : Nat) : Int)
  | 1 => ((szN (Big.de (ρ.q (c / 4))) : Nat) : Int)
  | 2 => (((ρ.raw (c / 4)).2.1.size : Nat) : Int)
  | _ => (((ρ.raw (c / 4)).2.2.size : Nat) : Int)
def lenSum (ρ : Env) : List Nat → Int
  | [] => 0
  | c :: l => match l with
    | [] => lenC ρ c
    | _ => IntKind.i64.wrap (lenSum ρ l + lenC ρ c)
structure I16 (q : Rat) : Prop where
  lo : -32768 ≤ q.num
  hi : q.num ≤ 32767
  den : q.den = 1
def Sy.holds (ρ : Env) : Sy → World → Value → Prop
  | .n k, w, v => NatIn w v k
  | .ng e, _, v => v = .bool (Big.ng (e.ev ρ.q))
  | .nu e, w, v => NatIn w v (Big.nu (e.ev ρ.q))
  | .de e, w, v => NatIn w v (Big.de (e.ev ρ.q))
  | .fn e, _, v => v = .string (bst (Big.nu (e.ev ρ.q)))
  | .fd e, _, v => v = .string (bst (Big.de (e.ev ρ.q)))
  | .rg i, _, v => v = .bool (ρ.raw i).1
  | .rn i, _, v => v = .string (ρ.raw i).2.1
  | .rd i, _, v => v = .string (ρ.raw i).2.2
  | .it e, _, v => v = .int .i64 (e.ev ρ.q).num
  | .is e, _, v => v = .int .i16 (e.ev ρ.q).num ∧ I16 (e.ev ρ.q)
  | .lg l, _, v => v = .int .i64 (lenSum ρ l)
theorem Sy.one {ρ : Env} {f : Sy} {w : World} {v : Value} (h : f.holds ρ w v) : isOne v = true := by
  cases f <;> first | exact nat_one h | (rw [show v = _ from h]; rfl) | (rw [h.1]; rfl) | skip
noncomputable def symHid : TypeId → Bool := natSig.hid
theorem symHid_nat {t : TypeId} (h : natSig.hid t = true) : symHid t = true := h
noncomputable def symSig (ρ : Env) : Sig Sy where
  holds := Sy.holds ρ
  hid := symHid
  G := natSig.G
  base := natSig.base
  baseS := natSig.baseS
  stable := fun f _ _ _ h hk => by
    have hn := fun (b : Nat) (c : Array Value) (t : TypeId) (z : Nat × Nat) h1 h2 => hk b c t z h1 (symHid_nat h2)
    cases f <;> first | exact nat_stable h hn | exact h | skip
noncomputable def symLen : Sy → Option Nat
  | .n k => some (wordsN k)
  | _ => none
structure As where
  k : Nat
  a : Qe
  b : Qe
  t : Bool
def As.holds (ρ : Nat → Rat) (x : As) : Prop := match x.k with
  | 0 => x.t = true ↔ Fit (x.a.ev ρ)
  | 1 => x.t = true ↔ x.a.ev ρ = 0
  | 2 => x.t = true ↔ x.a.ev ρ = x.b.ev ρ
  | 5 => x.t = true → (x.b.ev ρ).num = (x.a.ev ρ).num.tmod 12
  | 6 => x.t = true → IntKind.i64.wrap ((x.a.ev ρ).num + (x.b.ev ρ).num) = ((Qe.add x.a x.b).ev ρ).num
  | _ => x.t = Big.ng (x.a.ev ρ)
def z0 : Qe := .v 0
noncomputable def ask (A : List As) (k : Nat) (a b : Qe) : Option Bool := List.rec (motive := fun _ => Option Bool) none
  (fun x _ ih => Bool.rec (motive := fun _ => Option Bool) ih (some x.t) (Nat.beq k x.k && (a.beq x.a && b.beq x.b))) A
section
variable {ρ : Env} {A : List As} {a b : Qe} {t : Bool}
end
noncomputable def fitC (n d : Nat) : Bool := Nat.ble (szN n) 512 && Nat.ble (szN d) 512
noncomputable def fitB (A : List As) (e : Qe) : Option Bool := match ask A 0 e z0 with
  | some t => some t
  | none => match e with
    | .v i => cond (Nat.ble 100 i) none (some true)
    | .c _ n d => cond (fitC n d) (some true) none
    | _ => none
end Ev
end Go.Proofs.Ytepnghhgmjobjaa
namespace Go.Proofs.Ytepnghhgmjobjaa
open Go Go.RowKit
namespace Ev
section
variable {F : Type}
noncomputable def newFacts : List F → M F (List Value) := List.rec (motive := fun _ => M F (List Value)) (ret []) (fun f _ ih => bind (newFact f) fun x => bind ih fun l => ret (x :: l))
def HoldsL (S : Sig F) (w : World) : List F → List Value → Prop
  | [], us => us = []
  | f :: l, us => ∃ u us', us = u :: us' ∧ S.holds f w u ∧ isOne u = true ∧ HoldsL S w l us'
end
noncomputable def getFn : Sy → Option Qe | .fn e => some e | _ => none
noncomputable def getFd : Sy → Option Qe | .fd e => some e | _ => none
noncomputable def getRn : Sy → Option Nat | .rn e => some e | _ => none
noncomputable def getRd : Sy → Option Nat | .rd e => some e | _ => none
noncomputable def knw {α : Type} (g : Sy → Option α) (v : Value) : M Sy α := bind (fact v) fun f => ofOpt (g f)
theorem loc_knw {α : Type} (g : Sy → Option α) (v : Value) : Loc (knw g v) := loc_bind (loc_fact v) fun _ => loc_opt _
section
variable {ρ : Env} {h h' : Tr (Blk Sy)} {nx nx' : Nat} {R W : List Nat} {r : Ren} {w : World}
end
section
variable {ρ : Env} {h h' : Tr (Blk Sy)} {nx nx' : Nat} {R W : List Nat} {r : Ren} {w : World}
theorem frac_holds (e : Qe) : HoldsL (symSig ρ) w [.ng e, .fn e, .fd e] [.bool (Big.ng (e.ev ρ.q)), .string (bst (Big.nu (e.ev ρ.q))), .string (bst (Big.de (e.ev ρ.q)))] :=
  ⟨_, _, rfl, rfl, rfl, _, _, rfl, rfl, rfl, _, _, rfl, rfl, rfl, rfl⟩
end
noncomputable def frc (a b : Value) (e : Qe) : M Sy (Option Qe) := bind (knw getFn a) fun e2 => bind (knw getFd b) fun e3 => cond (e.beq e2 && e.beq e3) (ret (some e)) fail
noncomputable def raw (a b : Value) (i : Nat) : M Sy (Option Qe) := bind (knw getRn a) fun j => bind (knw getRd b) fun k => cond (Nat.beq i j && Nat.beq i k) (ret none) fail
noncomputable def isB (n : Nat) (s : ByteArray) : Bool := eqL eqC (btx n) s.data.toList
noncomputable def cst (s : Bool) (a b : Value) : Option (Option Qe) := match a with
  | .string x => match b with
    | .string y => cond (Nat.ble y.size 0 && (Nat.ble x.size 0 && !s)) (some none)
        (cond (Nat.beq (Nat.gcd (Big.bnum x.data.toList) (Big.bnum y.data.toList)) 1 && (Nat.ble 1 (Big.bnum y.data.toList) && ((!s || Nat.ble 1 (Big.bnum x.data.toList)) && (isB (Big.bnum x.data.toList) x && isB (Big.bnum y.data.toList) y))))
          (some (some (.c s (Big.bnum x.data.toList) (Big.bnum y.data.toList)))) none)
    | _ => none
  | _ => none
noncomputable def frg (b c : Value) (f : Sy) : M Sy (Option Qe) := match f with
  | .ng e => frc b c e
  | .rg i => raw b c i
  | _ => fail
noncomputable def frcV (l : List Value) : M Sy (Option Qe) := match l with
  | [a, b, c] => match a with
    | .bool s => ofOpt (cst s b c)
    | a => bind (fact a) (frg b c)
  | _ => fail
theorem loc_frg (b c : Value) (f : Sy) : Loc (frg b c f) := by
  unfold frg frc raw
  split
  · exact loc_bind (loc_knw _ _) fun _ => loc_bind (loc_knw _ _) fun _ => loc_cond (loc_ret _) loc_fail
  · exact loc_bind (loc_knw _ _) fun _ => loc_bind (loc_knw _ _) fun _ => loc_cond (loc_ret _) loc_fail
  · exact loc_fail
theorem loc_frcV (l : List Value) : Loc (frcV l) := by
  unfold frcV
  split
  · split
    · exact loc_opt _
    · exact loc_bind (loc_fact _) fun _ => loc_frg _ _ _
  · exact loc_fail
section
variable {ρ : Env} {h h' : Tr (Blk Sy)} {nx nx' : Nat} {R W : List Nat} {r : Ren} {w : World}
end
end Ev
end Go.Proofs.Ytepnghhgmjobjaa
