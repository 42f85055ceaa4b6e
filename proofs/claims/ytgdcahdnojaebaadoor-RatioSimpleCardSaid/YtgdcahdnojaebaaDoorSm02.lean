/- Contracts, in this order: Plain arithmetic: one word of a sum, of a difference, of a product; guesses at digits. No program. · A block of the call's own that holds words: made, filled, stored into, read as a slice. No program. · nat: sums and differences. -/
import Derived.Test.YtgdcahdnojaebaaDoorSm01
import Derived.Laws.CopyOwn
import Derived.Laws.MakeOwn
import Derived.OwnWalk
import Derived.Deep.RegionHeld3
/- Plain arithmetic: one word of a sum, of a difference, of a product; guesses at digits. No program. -/
namespace Go.Proofs.YtgdcahdnojaebaaDoor
namespace Big
section
variable {B : Nat}

theorem val_snoc (zs : List Nat) (s : Nat) : val B (zs ++ [s]) = val B zs + B ^ zs.length * s := by
  rw [val_append]; simp [val]

/-- One word of a sum. -/
theorem add_step {zs : List Nat} {k o o' s x y X Y : Nat} (hl : zs.length = k) (h : val B zs + B ^ k * o = X + Y) (hs : x + y + o = s + B * o') :
    val B (zs ++ [s]) + B ^ (k + 1) * o' = (X + B ^ k * x) + (Y + B ^ k * y) := by
  subst hl
  rw [val_snoc, Nat.pow_succ, Nat.mul_assoc]
  have e : B ^ zs.length * (x + y + o) = B ^ zs.length * (s + B * o') := by rw [hs]
  simp only [Nat.mul_add] at e
  omega
/-- One word of a difference. -/
theorem sub_step {zs : List Nat} {k o o' s x y X Y : Nat} (hl : zs.length = k) (h : val B zs + Y = X + B ^ k * o) (hs : x + B * o' = s + y + o) :
    val B (zs ++ [s]) + (Y + B ^ k * y) = (X + B ^ k * x) + B ^ (k + 1) * o' := by
  subst hl
  rw [val_snoc, Nat.pow_succ, Nat.mul_assoc]
  have e : B ^ zs.length * (x + B * o') = B ^ zs.length * (s + y + o) := by rw [hs]
  simp only [Nat.mul_add] at e
  omega
/-- One word of z + y w. -/
theorem mul_step {zs : List Nat} {k o o' s z v w Z Y : Nat} (hl : zs.length = k) (h : val B zs + B ^ k * o = Z + Y * w) (hs : z + v * w + o = s + B * o') :
    val B (zs ++ [s]) + B ^ (k + 1) * o' = (Z + B ^ k * z) + (Y + B ^ k * v) * w := by
  subst hl
  rw [val_snoc, Nat.pow_succ, Nat.mul_assoc]
  have e : B ^ zs.length * (z + v * w + o) = B ^ zs.length * (s + B * o') := by rw [hs]
  simp only [Nat.mul_add, Nat.add_mul] at e ⊢
  rw [Nat.mul_assoc (B ^ zs.length) v w]
  omega
/-- One word of x - y w: o is carried up, l lent. -/
theorem mulsub_step {zs : List Nat} {k o o' l l' s x v w t X Y : Nat} (hl : zs.length = k)
    (h : val B zs + Y * w = X + B ^ k * o + B ^ k * l) (h1 : v * w + o = t + B * o') (h2 : x + B * l' = s + t + l) :
    val B (zs ++ [s]) + (Y + B ^ k * v) * w = (X + B ^ k * x) + B ^ (k + 1) * o' + B ^ (k + 1) * l' := by
  subst hl
  rw [val_snoc, Nat.pow_succ, Nat.mul_assoc, Nat.mul_assoc]
  have e1 : B ^ zs.length * (v * w + o) = B ^ zs.length * (t + B * o') := by rw [h1]
  have e2 : B ^ zs.length * (x + B * l') = B ^ zs.length * (s + t + l) := by rw [h2]
  simp only [Nat.mul_add, Nat.add_mul] at e1 e2 ⊢
  rw [Nat.mul_assoc (B ^ zs.length) v w]
  omega
end

/-- A guess off the highest word is not too small. X = xx B^m + xlow, Y = yy B^m + ylow, q Y ≤ X: then q yy ≤ xx. -/
theorem guess_ge {P X Y q xx xl yy yl : Nat} (hX : X = xx * P + xl) (hxl : xl < P) (hY : Y = yy * P + yl) (h : q * Y ≤ X) : q * yy ≤ xx := by
  have h1 : q * (yy * P) ≤ q * Y := Nat.mul_le_mul_left q (by omega)
  have h2 : q * yy * P < (xx + 1) * P := by rw [Nat.mul_assoc, Nat.add_mul]; omega
  have := Nat.lt_of_mul_lt_mul_right h2
  omega
theorem guess_div {P X Y q xx xl yy yl : Nat} (hX : X = xx * P + xl) (hxl : xl < P) (hY : Y = yy * P + yl) (h : q * Y ≤ X) (hyy : 0 < yy) : q ≤ xx / yy :=
  (Nat.le_div_iff_mul_le hyy).2 (guess_ge hX hxl hY h)

/-- With the two highest words of Y held against, a guess is one too great at most. -/
theorem guess_le {P B X Y q g xx xl yy yl : Nat} (hX : X = xx * P + xl) (hY : Y = yy * P + yl) (hyl : yl < P) (hg : g * yy ≤ xx) (hq : X < (q + 1) * Y) (hgB : g ≤ B) (hyy : B ≤ yy) : g ≤ q + 1 := by
  rcases Nat.lt_or_ge (q + 1) g with hlt | hge
  · exfalso
    have h1 : (q + 1) * Y ≤ (g - 1) * Y := Nat.mul_le_mul_right Y (by omega)
    have h2 : (g - 1) * Y ≤ (g - 1) * (yy * P + P) := Nat.mul_le_mul_left _ (by omega)
    have h3 : (g - 1) * (yy * P + P) = (g - 1) * (yy + 1) * P := by rw [Nat.mul_assoc, Nat.add_mul, Nat.one_mul]
    have h4 : g * yy * P ≤ xx * P := Nat.mul_le_mul_right P hg
    have h5 : g * yy * P < (g - 1) * (yy + 1) * P := by omega
    have h6 := Nat.lt_of_mul_lt_mul_right h5
    have h7 : g * yy = (g - 1) * yy + yy := by
      conv => lhs; rw [show g = g - 1 + 1 by omega]
      rw [Nat.add_mul, Nat.one_mul]
    rw [Nat.mul_add, Nat.mul_one] at h6
    omega
  · exact hge
end Big
end Go.Proofs.YtgdcahdnojaebaaDoor
/- A block of the call's own that holds words: made, filled, stored into, read as a slice. No program. -/
namespace Go.Proofs.YtgdcahdnojaebaaDoor
open Go.RowKit

def cellsOf (k : IntKind) (l : List Nat) : Array Value := (l.map fun d => Value.int k ((d : Nat) : Int)).toArray
theorem cellsOf_size (k : IntKind) (l : List Nat) : (cellsOf k l).size = l.length := by simp [cellsOf]
theorem cellsOf_get (k : IntKind) (l : List Nat) (i : Nat) (h : i < l.length) : (cellsOf k l)[i]? = some (.int k ((Big.nth l i : Nat) : Int)) := by
  simp [cellsOf, h, Big.nth]
theorem cellsOf_set (k : IntKind) (l : List Nat) (i x : Nat) : (cellsOf k l).setIfInBounds i (.int k ((x : Nat) : Int)) = cellsOf k (l.set i x) := by
  simp [cellsOf, List.map_set]
theorem cellsOf_toList (k : IntKind) (l : List Nat) : (cellsOf k l).toList = l.map fun d => Value.int k ((d : Nat) : Int) := by simp [cellsOf]
theorem cellsOf_zero (k : IntKind) (n : Nat) : madeCells #[.int k 0] n = cellsOf k (List.replicate n 0) := by
  apply Array.ext'
  rw [toList_madeCells_one, cellsOf_toList]; simp

/-- Block g is just these words, of element type t. -/
def Blk (w : World) (g : Nat) (t : TypeId) (k : IntKind) (l : List Nat) : Prop := w.heap[g]? = some (.cells (cellsOf k l) t (0, 0))
section
variable {w w' : World} {g : Nat} {t : TypeId} {k : IntKind} {l : List Nat}
theorem Blk.lt (h : Blk w g t k l) : g < w.heap.size := by
  rcases Nat.lt_or_ge g w.heap.size with h1 | h1
  · exact h1
  · unfold Blk at h; rw [Array.getElem?_eq_none h1] at h; cases h
theorem Blk.cell (h : Blk w g t k l) (i : Nat) (hi : i < l.length) : w.cell? ⟨g, i, none⟩ = some (.int k ((Big.nth l i : Nat) : Int)) := by
  rw [cell_of_row w g i _ t (0, 0) h]; exact cellsOf_get k l i hi
theorem Blk.frozen (h : Blk w g t k l) (i : Nat) : w.frozen? ⟨g, i, none⟩ = false := frozen_of_row w g i _ t h
theorem Blk.new (w : World) (t : TypeId) (k : IntKind) (l : List Nat) : Blk (w.alloc (.cells (cellsOf k l) t)) w.heap.size t k l := heap_alloc_new w _
theorem Blk.set (h : Blk w g t k l) (i x : Nat) : Blk (w.setCell ⟨g, i, none⟩ (.int k ((x : Nat) : Int))) g t k (l.set i x) := by
  unfold Blk
  rw [heap_setCell_same w g i _ t _ h, cellsOf_set]
theorem Blk.alloc' (h : Blk w g t k l) (o : Obj) : Blk (w.alloc o) g t k l := (Below.heap_alloc w o g h.lt).trans h
theorem Blk.drewN (h : Blk w g t k l) (n : Nat) : Blk (w.drewN n) g t k l := h
theorem Blk.drew (h : Blk w g t k l) (hd : Drew w w') : Blk w' g t k l := by unfold Blk; rw [hd.heap]; exact h
theorem Blk.below (h : Blk w g t k l) (hb : Below w.heap.size w w') : Blk w' g t k l := (hb.block g h.lt).trans h
theorem Blk.below' {B : Nat} (h : Blk w g t k l) (hb : Below B w w') (hg : g < B) : Blk w' g t k l := (hb.block g hg).trans h
theorem Blk.far (h : Blk w g t k l) {p : Addr} (hp : g ≠ p.block) (u : Value) : Blk (w.setCell p u) g t k l := (heap_setCell_other w p g u hp).trans h
/-- The slice from o on, of n words. -/
theorem Blk.wd (h : Blk w g t k l) (o n c : Nat) (hn : o + n ≤ l.length) (hc : n ≤ c) (hc2 : c ≤ 1152921504606846976) : Wd w k (.slice (some ⟨g, o, none⟩) n c) ((l.drop o).take n) := by
  have hl : ((l.drop o).take n).length = n := by rw [List.length_take, List.length_drop]; omega
  refine ⟨_, c, by rw [hl], by omega, hc2, fun _ => ⟨g, o, rfl, h.lt, fun i hi => ?_⟩⟩
  rw [h.cell (o + i) (by omega)]
  unfold Big.nth
  rw [List.getD_eq_getElem?_getD, List.getD_eq_getElem?_getD, List.getElem?_take_of_lt (by omega), List.getElem?_drop]
theorem Blk.wd0 (h : Blk w g t k l) (c : Nat) (hc : l.length ≤ c) (hc2 : c ≤ 1152921504606846976) : Wd w k (.slice (some ⟨g, 0, none⟩) l.length c) l := by
  have := h.wd 0 l.length c (by omega) hc hc2
  simpa using this
end

theorem set_at (zs r : List Nat) (k x : Nat) (h : zs.length = k) : (zs ++ r).set k x = zs ++ r.set 0 x := by
  rw [List.set_append_right k x (by omega), h, Nat.sub_self]
theorem set_drop (zs l : List Nat) (k x : Nat) (h : zs.length = k) (hk : k < l.length) : (zs ++ l.drop k).set k x = (zs ++ [x]) ++ l.drop (k + 1) := by
  rw [set_at zs _ k x h, Big.drop_cons l k hk]; simp

/-- make of n words. -/
theorem make_words {P : Program} {t e : TypeId} {i : TypeInfo} {k : IntKind} (ht : P.underlying t = some (.slice e)) (hi : P.info? e = some i) (hz : i.zero = some (.int k 0)) (hs : i.size = 1) (hb : i.bytes ≤ 8)
    (kl kc : IntKind) (n c : Nat) (hnc : n ≤ c) (hn : c ≤ 2000000000000) (w : World) :
    (Instr.makeSlice t (.int kl ((n : Nat) : Int)) (.int kc ((c : Nat) : Int))).run P w = .ok (.slice (some ⟨w.heap.size, 0, none⟩) n c) (w.alloc (.cells (cellsOf k (List.replicate c 0)) e)) := by
  have hbb : (i.bytes : Int) * (c : Int) ≤ 281474976710656 := by
    have h : i.bytes * c ≤ 8 * c := Nat.mul_le_mul_right c hb
    have h2 : ((i.bytes * c : Nat) : Int) ≤ 281474976710656 := by omega
    rwa [Int.natCast_mul] at h2
  have hr := run_make (P := P) w t e i _ ht hi hz kl kc n c (by omega) (by omega) hbb (by omega)
  simp only [Int.toNat_natCast, hs, Nat.mul_one] at hr
  rw [hr]
  show Result.ok _ (w.alloc (.cells (madeCells #[.int k 0] c) e)) = _
  rw [cellsOf_zero]

theorem splice_words (k : IntKind) (cur xs : List Nat) : splice (cellsOf k cur).toList 0 (xs.map fun d => Value.int k ((d : Nat) : Int)) = (cellsOf k (xs ++ cur.drop xs.length)).toList := by
  simp [splice, cellsOf_toList, List.map_drop]

/-- copy of words into a block of the call's own, from its head on. -/
theorem wpList_copy_words {P : Program} {w : World} {ops : Array Oper} {rest : List Oper} {o : Oper} {a : Act} {Q : Exit → Act → World → Prop} (hgd : o.guard = none) (d s : Operand) (dT sT : TypeId)
    (ho : o.op = .call { callee := .builtin .copy, args := #[d, s], argTypes := #[dT, sT] }) (elem : TypeId) (hu : P.underlying dT = some (.slice elem)) (hsz : (P.info? elem).map (·.size) = some 1)
    (g t : Nat) (k : IntKind) (cur xs : List Nat) (dLen dCap : Nat) (A : Option Addr) (c : Nat) (hd : a.eval d = .slice (some ⟨g, 0, none⟩) dLen dCap) (hs : a.eval s = .slice A xs.length c)
    (hr : Wd w k (.slice A xs.length c) xs) (hb : Blk w g t k cur) (hn : xs.length ≤ dLen) (hfit : dLen ≤ cur.length) (B : Nat) (w0 : World) (hB : Below B w0 w) (hBg : B ≤ g)
    (h : ∀ w', Blk w' g t k (xs ++ cur.drop xs.length) → Below B w0 w' → wpList P ops Q rest (a.put o.dst (goInt xs.length)) w') :
    wpList P ops Q (o :: rest) a w := by
  have hlen : (xs.map fun d => Value.int k ((d : Nat) : Int)).length = xs.length := by simp
  refine wpList_copy_splice hgd d s dT sT ho elem hu hsz _ _ dLen dCap xs.length c hd hs g 0 (cellsOf k cur).toList t (by rw [Array.toArray_toList]; exact hb) (xs.map fun d => Value.int k ((d : Nat) : Int))
    (by rw [hlen]; exact (Nat.min_eq_left hn).symm) (fun hp => ⟨rfl, ?_⟩) (by rw [hlen, cellsOf_toList]; simp; omega) (by intro v hv; simp at hv; obtain ⟨_, _, rfl⟩ := hv; rfl) B w0 hB hBg ?_
  · obtain ⟨A', c', e, h1, h2, h3⟩ := hr
    cases e
    obtain ⟨b, o', rfl, hlt, hc⟩ := h3 (by simpa using hp)
    refine ⟨_, rfl, fun j v hv => ?_⟩
    have hj : j < xs.length := by
      rcases Nat.lt_or_ge j xs.length with h | h
      · exact h
      · rw [List.getElem?_eq_none (by simpa using h)] at hv; cases hv
    rw [List.getElem?_map, List.getElem?_eq_getElem hj] at hv
    have := hc j hj
    unfold Big.nth at this
    rw [List.getD_eq_getElem?_getD, List.getElem?_eq_getElem hj] at this
    simp at hv
    rw [← hv]
    unfold Addr.add
    split
    · rename_i h0; subst h0; simpa using this
    · simpa using this
  · intro w' hh hbel
    have hh' := hh.out
    rw [splice_words] at hh'
    rw [hlen]
    exact h w' (by unfold Blk; rw [Array.toArray_toList] at hh'; exact hh') hbel
end Go.Proofs.YtgdcahdnojaebaaDoor
/- nat: sums and differences. -/
namespace Go.Proofs.YtgdcahdnojaebaaDoor
open Go.RowKit

theorem Tryd.infoU64 : (Tryd.prog.info? 71).map (fun i => (i.zero, i.size, i.bytes)) = some (some (.int .u64 0), 1, 8) := by kernel_rfl

theorem add_round {l m zs : List Nat} {k n : Nat} (ol : Big.Ok Big.M64 l) (om : Big.Ok Big.M64 m) (hn : n ≤ 1)
    (h : zs.length = k ∧ Big.Ok Big.M64 zs ∧ Big.val Big.M64 zs + Big.M64 ^ k * n = Big.val Big.M64 (l.take k) + Big.val Big.M64 (m.take k)) :
    hi64 (Big.nth l k + Big.nth m k + n) ≤ 1 ∧ (zs ++ [lo64 (Big.nth l k + Big.nth m k + n)]).length = k + 1 ∧ Big.Ok Big.M64 (zs ++ [lo64 (Big.nth l k + Big.nth m k + n)]) ∧
      Big.val Big.M64 (zs ++ [lo64 (Big.nth l k + Big.nth m k + n)]) + Big.M64 ^ (k + 1) * hi64 (Big.nth l k + Big.nth m k + n) = Big.val Big.M64 (l.take (k + 1)) + Big.val Big.M64 (m.take (k + 1)) := by
  obtain ⟨h1, h2, h3⟩ := h
  have a := ol.nth Big.M64_pos k
  have b := om.nth Big.M64_pos k
  refine ⟨hi64_carry (by rw [← Big.M64_eq]; exact a) (by rw [← Big.M64_eq]; exact b) hn, by simp [h1], h2.append (Big.Ok.cons (by rw [Big.M64_eq]; exact lo64_lt _) Big.Ok.nil), ?_⟩
  rw [Big.val_take_succ', Big.val_take_succ']
  exact Big.add_step h1 h3 (by rw [Big.M64_eq]; exact lo_hi _)

set_option maxRecDepth 100000 in
set_option maxHeartbeats 1000000 in
theorem add_ge (w : World) (v u : Value) (l m : List Nat) (h : Wd w .u64 v l) (k : Wd w .u64 u m) (ol : Big.Ok Big.M64 l) (om : Big.Ok Big.M64 m)
    (hl : l.length ≤ 1000000000000) (hlm : m.length ≤ l.length) :
    Calls Tryd.prog 78 #[v, u] w fun e w' => ∃ v', e = .returned v' ∧ NatIn w' v' (Big.val Big.M64 l + Big.val Big.M64 m) ∧ Below w.heap.size w w' := by
  obtain ⟨A, c, rfl, h1, h2, h3⟩ := h
  obtain ⟨A2, c2, rfl, k1, k2, k3⟩ := k
  obtain ⟨i0, hi, hz0, hz1, hz2⟩ := info_parts Tryd.infoU64
  have OL := Lib.hid ol; have OM := Lib.hid om
  clear ol om
  have hmk := fun W => make_words (P := Tryd.prog) Tryd.underlying59 hi hz0 hz1 (by rw [hz2]; omega) .i64 .i64 (l.length + 1) (l.length + 1) (Nat.le_refl _) (by omega) W
  rw [show ((l.length + 1 : Nat) : Int) = (l.length : Int) + 1 by omega] at hmk
  have hnlt : ¬ ((l.length : Int) < m.length) := by omega
  have hb0 : Blk (w.alloc (.cells (cellsOf .u64 (List.replicate (l.length + 1) 0)) 71)) w.heap.size 71 .u64 (List.replicate (l.length + 1) 0) := Blk.new _ _ _ _
  have hbel0 : Below w.heap.size w (w.alloc (.cells (cellsOf .u64 (List.replicate (l.length + 1) 0)) 71)) := (Below.refl _ _).alloc (Nat.le_refl _) _
  have hw0 : Wd (w.alloc (.cells (cellsOf .u64 (List.replicate (l.length + 1) 0)) 71)) .u64 (.slice A l.length c) l := Wd.keep ⟨A, c, rfl, h1, h2, h3⟩ hbel0
  have H0 := Lib.hid (And.intro hb0 (And.intro hbel0 hw0))
  clear hb0 hbel0 hw0
  have hu : (Tryd.prog.info? 71).map (·.size) = some 1 := by rw [hi]; simp [hz1]
  go_enter Tryd.func78, Tryd.ntmps78
  go_wp2_with (first
    | (with_reducible refine wpList_copy_words rfl (.tmp 19) (.tmp 20) 59 59 rfl 71 Tryd.underlying59 hu w.heap.size 71 .u64 (List.replicate (l.length + 1) 0) l (l.length + 1) (l.length + 1) A c rfl rfl H0.out.2.2 H0.out.1 (by omega) (by simp) w.heap.size w H0.out.2.1 (Nat.le_refl _) ?_))
  intro w1 hB1 hBel1
  have HW1 := Lib.hid (show Wd w .u64 (.slice A l.length c) l from ⟨A, c, rfl, h1, h2, h3⟩)
  have HW2 := Lib.hid (show Wd w .u64 (.slice A2 m.length c2) m from ⟨A2, c2, rfl, k1, k2, k3⟩)
  have HB1 := Lib.hid hB1; have HBel1 := Lib.hid hBel1
  clear hB1 hBel1 H0 hmk h3 k3
  go_wp2_with fail
  go_loopw [6, 24] (fun o i wr => ∃ (k n : Nat) (zs : List Nat), k ≤ l.length ∧ i = .int .i64 k ∧ o = .int .u64 n ∧ n ≤ 1 ∧
      Hid (zs.length = k ∧ Big.Ok Big.M64 zs ∧ Big.val Big.M64 zs + Big.M64 ^ k * n = Big.val Big.M64 (l.take k) + Big.val Big.M64 (m.take k)) ∧
      Hid (Blk wr w.heap.size 71 .u64 (zs ++ (l ++ [0]).drop k)) ∧ Hid (Below w.heap.size w wr))
    (fun _ i _ => l.length - (intOf i).toNat)
  case atStart => exact ⟨0, 0, [], by omega, rfl, rfl, by omega, Lib.hid ⟨rfl, Big.Ok.nil, by simp [Big.val]⟩, Lib.hid (by simpa using HB1.out), HBel1⟩
  case round =>
    obtain ⟨k, n, zs, hk, rfl, rfl, hn1, HZ, HB, HBel⟩ := hrel
    by_cases hlt : k < l.length
    · have hX := HW1.out
      obtain ⟨A', c', e, x1, x2, x3⟩ := hX
      cases e
      obtain ⟨b, o, rfl, hblt, hc⟩ := x3 (by omega)
      have hcell := (HBel.out.cell (p := ⟨b, o + k, none⟩) hblt).trans (hc k hlt)
      have hadd := fun W => add64 (Big.nth l k) (Big.nth m k) n hn1 W
      have hst := HB.out.cell k (by have := HZ.out.1; simp; omega)
      have hfr := HB.out.frozen k
      have HY := Lib.hid (HW2.out.keep HBel.out)
      have HYd := Lib.hid (HY.out.drew ⟨1, rfl⟩ : Wd wr.drew .u64 _ m)
      have hz1 : (k : Int) < (l.length : Int) + 1 := by omega
      have hz0 : (0 : Int) ≤ (k : Int) := by omega
      clear hc x3
      go_wp2_with fail
      go_region_held3 (fun w' => w'.cell? ⟨b, o + k, none⟩ = some (.int .u64 ((Big.nth l k : Nat) : Int)))
        (first | exact hcell | exact (World.cell?_setCell_other _ _ _ _ (by intro e; injection e; omega)).trans hcell)
        (first | (go_at_call 115; refine (word_any _ _ m k HYd.out).mono ?_; rintro e w' ⟨rfl, rfl⟩) | fail)
      have R := add_round OL.out OM.out hn1 HZ.out
      have R1 := Lib.hid R.2
      have R0 := R.1
      have HB' := Lib.hid (HB.out.set k (lo64 (Big.nth l k + Big.nth m k + n)))
      clear R
      go_wp2
      go_roundw
      case rel =>
        refine ⟨k + 1, _, _, by omega, by go_num, rfl, R0, R1, Lib.hid ?_, Lib.hid (((HBel.out).drew).setCell (Nat.le_refl _) _)⟩
        have := HB'.out
        rw [set_drop zs (l ++ [0]) k _ HZ.out.1 (by simp; omega)] at this
        exact this
      case measure => simp [intOf]; omega
    · have hkl : k = l.length := by omega
      subst hkl
      have hst := HB.out.cell l.length (by have := HZ.out.1; simp; omega)
      have hfr := HB.out.frozen l.length
      have HB' := Lib.hid (HB.out.set l.length n)
      have HBel' := Lib.hid (HBel.out.setCell (p := ⟨w.heap.size, l.length, none⟩) (Nat.le_refl _) (.int .u64 (n : Int)))
      have hz1 : (l.length : Int) < (l.length : Int) + 1 := by omega
      go_wp2_with fail
      refine (trim_any _ _ (zs ++ [n]) ?_).mono ?_
      · have h1 := HB'.out
        rw [set_drop zs (l ++ [0]) l.length _ HZ.out.1 (by simp)] at h1
        rw [show List.drop (l.length + 1) (l ++ [0]) = [] from List.drop_eq_nil_of_le (by simp), List.append_nil] at h1
        have h2 := h1.wd0 (l.length + 1) (by have := HZ.out.1; simp; omega) (by omega)
        rw [show (zs ++ [n]).length = l.length + 1 by have := HZ.out.1; simp; omega] at h2
        exact h2
      · rintro e w' ⟨v', rfl, hv', rfl⟩
        have HV := Lib.hid hv'
        clear hv'
        go_wp2
        go_ret
        have Z := HZ.out
        have oz : Big.Ok Big.M64 (zs ++ [n]) := Z.2.1.append (Big.Ok.cons (by unfold Big.M64; omega) Big.Ok.nil)
        refine ⟨v', rfl, ⟨Big.strip (zs ++ [n]), HV.out, Big.strip_ok oz, Big.strip_norm _, ?_⟩, HBel'.out⟩
        have e1 := Z.2.2
        rw [Big.val_take_all l _ (Nat.le_refl _), Big.val_take_all m _ (by omega)] at e1
        rw [Big.strip_val, Big.val_snoc, Z.1]
        exact e1

set_option maxRecDepth 100000 in
set_option maxHeartbeats 1000000 in
theorem add_lt (w : World) (v u : Value) (l m : List Nat) (h : Wd w .u64 v l) (k : Wd w .u64 u m) (ol : Big.Ok Big.M64 l) (om : Big.Ok Big.M64 m)
    (hl : l.length ≤ 1000000000000) (hlm : m.length < l.length) :
    Calls Tryd.prog 78 #[u, v] w fun e w' => ∃ v', e = .returned v' ∧ NatIn w' v' (Big.val Big.M64 l + Big.val Big.M64 m) ∧ Below w.heap.size w w' := by
  obtain ⟨A, c, rfl, h1, h2, h3⟩ := h
  obtain ⟨A2, c2, rfl, k1, k2, k3⟩ := k
  obtain ⟨i0, hi, hz0, hz1, hz2⟩ := info_parts Tryd.infoU64
  have OL := Lib.hid ol; have OM := Lib.hid om
  clear ol om
  have hmk := fun W => make_words (P := Tryd.prog) Tryd.underlying59 hi hz0 hz1 (by rw [hz2]; omega) .i64 .i64 (l.length + 1) (l.length + 1) (Nat.le_refl _) (by omega) W
  rw [show ((l.length + 1 : Nat) : Int) = (l.length : Int) + 1 by omega] at hmk
  have hnlt : ((m.length : Int) < l.length) := by omega
  have hb0 : Blk (w.alloc (.cells (cellsOf .u64 (List.replicate (l.length + 1) 0)) 71)) w.heap.size 71 .u64 (List.replicate (l.length + 1) 0) := Blk.new _ _ _ _
  have hbel0 : Below w.heap.size w (w.alloc (.cells (cellsOf .u64 (List.replicate (l.length + 1) 0)) 71)) := (Below.refl _ _).alloc (Nat.le_refl _) _
  have hw0 : Wd (w.alloc (.cells (cellsOf .u64 (List.replicate (l.length + 1) 0)) 71)) .u64 (.slice A l.length c) l := Wd.keep ⟨A, c, rfl, h1, h2, h3⟩ hbel0
  have H0 := Lib.hid (And.intro hb0 (And.intro hbel0 hw0))
  clear hb0 hbel0 hw0
  have hu : (Tryd.prog.info? 71).map (·.size) = some 1 := by rw [hi]; simp [hz1]
  go_enter Tryd.func78, Tryd.ntmps78
  go_wp2_with (first
    | (with_reducible refine wpList_copy_words rfl (.tmp 19) (.tmp 20) 59 59 rfl 71 Tryd.underlying59 hu w.heap.size 71 .u64 (List.replicate (l.length + 1) 0) l (l.length + 1) (l.length + 1) A c rfl rfl H0.out.2.2 H0.out.1 (by omega) (by simp) w.heap.size w H0.out.2.1 (Nat.le_refl _) ?_))
  intro w1 hB1 hBel1
  have HW1 := Lib.hid (show Wd w .u64 (.slice A l.length c) l from ⟨A, c, rfl, h1, h2, h3⟩)
  have HW2 := Lib.hid (show Wd w .u64 (.slice A2 m.length c2) m from ⟨A2, c2, rfl, k1, k2, k3⟩)
  have HB1 := Lib.hid hB1; have HBel1 := Lib.hid hBel1
  clear hB1 hBel1 H0 hmk h3 k3
  go_wp2_with fail
  go_loopw [6, 24] (fun o i wr => ∃ (k n : Nat) (zs : List Nat), k ≤ l.length ∧ i = .int .i64 k ∧ o = .int .u64 n ∧ n ≤ 1 ∧
      Hid (zs.length = k ∧ Big.Ok Big.M64 zs ∧ Big.val Big.M64 zs + Big.M64 ^ k * n = Big.val Big.M64 (l.take k) + Big.val Big.M64 (m.take k)) ∧
      Hid (Blk wr w.heap.size 71 .u64 (zs ++ (l ++ [0]).drop k)) ∧ Hid (Below w.heap.size w wr))
    (fun _ i _ => l.length - (intOf i).toNat)
  case atStart => exact ⟨0, 0, [], by omega, rfl, rfl, by omega, Lib.hid ⟨rfl, Big.Ok.nil, by simp [Big.val]⟩, Lib.hid (by simpa using HB1.out), HBel1⟩
  case round =>
    obtain ⟨k, n, zs, hk, rfl, rfl, hn1, HZ, HB, HBel⟩ := hrel
    by_cases hlt : k < l.length
    · have hX := HW1.out
      obtain ⟨A', c', e, x1, x2, x3⟩ := hX
      cases e
      obtain ⟨b, o, rfl, hblt, hc⟩ := x3 (by omega)
      have hcell := (HBel.out.cell (p := ⟨b, o + k, none⟩) hblt).trans (hc k hlt)
      have hadd := fun W => add64 (Big.nth l k) (Big.nth m k) n hn1 W
      have hst := HB.out.cell k (by have := HZ.out.1; simp; omega)
      have hfr := HB.out.frozen k
      have HY := Lib.hid (HW2.out.keep HBel.out)
      have HYd := Lib.hid (HY.out.drew ⟨1, rfl⟩ : Wd wr.drew .u64 _ m)
      have hz1 : (k : Int) < (l.length : Int) + 1 := by omega
      have hz0 : (0 : Int) ≤ (k : Int) := by omega
      clear hc x3
      go_wp2_with fail
      go_region_held3 (fun w' => w'.cell? ⟨b, o + k, none⟩ = some (.int .u64 ((Big.nth l k : Nat) : Int)))
        (first | exact hcell | exact (World.cell?_setCell_other _ _ _ _ (by intro e; injection e; omega)).trans hcell)
        (first | (go_at_call 115; refine (word_any _ _ m k HYd.out).mono ?_; rintro e w' ⟨rfl, rfl⟩) | fail)
      have R := add_round OL.out OM.out hn1 HZ.out
      have R1 := Lib.hid R.2
      have R0 := R.1
      have HB' := Lib.hid (HB.out.set k (lo64 (Big.nth l k + Big.nth m k + n)))
      clear R
      go_wp2
      go_roundw
      case rel =>
        refine ⟨k + 1, _, _, by omega, by go_num, rfl, R0, R1, Lib.hid ?_, Lib.hid (((HBel.out).drew).setCell (Nat.le_refl _) _)⟩
        have := HB'.out
        rw [set_drop zs (l ++ [0]) k _ HZ.out.1 (by simp; omega)] at this
        exact this
      case measure => simp [intOf]; omega
    · have hkl : k = l.length := by omega
      subst hkl
      have hst := HB.out.cell l.length (by have := HZ.out.1; simp; omega)
      have hfr := HB.out.frozen l.length
      have HB' := Lib.hid (HB.out.set l.length n)
      have HBel' := Lib.hid (HBel.out.setCell (p := ⟨w.heap.size, l.length, none⟩) (Nat.le_refl _) (.int .u64 (n : Int)))
      have hz1 : (l.length : Int) < (l.length : Int) + 1 := by omega
      go_wp2_with fail
      refine (trim_any _ _ (zs ++ [n]) ?_).mono ?_
      · have h1 := HB'.out
        rw [set_drop zs (l ++ [0]) l.length _ HZ.out.1 (by simp)] at h1
        rw [show List.drop (l.length + 1) (l ++ [0]) = [] from List.drop_eq_nil_of_le (by simp), List.append_nil] at h1
        have h2 := h1.wd0 (l.length + 1) (by have := HZ.out.1; simp; omega) (by omega)
        rw [show (zs ++ [n]).length = l.length + 1 by have := HZ.out.1; simp; omega] at h2
        exact h2
      · rintro e w' ⟨v', rfl, hv', rfl⟩
        have HV := Lib.hid hv'
        clear hv'
        go_wp2
        go_ret
        have Z := HZ.out
        have oz : Big.Ok Big.M64 (zs ++ [n]) := Z.2.1.append (Big.Ok.cons (by unfold Big.M64; omega) Big.Ok.nil)
        refine ⟨v', rfl, ⟨Big.strip (zs ++ [n]), HV.out, Big.strip_ok oz, Big.strip_norm _, ?_⟩, HBel'.out⟩
        have e1 := Z.2.2
        rw [Big.val_take_all l _ (Nat.le_refl _), Big.val_take_all m _ (by omega)] at e1
        rw [Big.strip_val, Big.val_snoc, Z.1]
        exact e1

/-- nat.Add: the sum. -/
theorem add_any (w : World) (v u : Value) (n m : Nat) (h : NatIn w v n) (k : NatIn w u m) (hn : n < Big.M64 ^ Big.KX) (hm : m < Big.M64 ^ Big.KX) :
    Calls Tryd.prog 78 #[v, u] w fun e w' => ∃ v', e = .returned v' ∧ NatIn w' v' (n + m) ∧ Below w.heap.size w w' := by
  obtain ⟨l, h1, h2, h3, rfl⟩ := h
  obtain ⟨r, k1, k2, k3, rfl⟩ := k
  have hl := len_of_lt h3 hn
  rw [Big.KX_eq] at hl
  have hr := len_of_lt k3 hm
  rw [Big.KX_eq] at hr
  rcases Nat.lt_or_ge l.length r.length with hlt | hge
  · rw [Nat.add_comm]
    exact add_lt w u v r l k1 h1 k2 h2 (by omega) hlt
  · exact add_ge w v u l r h1 k1 h2 k2 (by omega) hge

theorem sub_round {l m zs : List Nat} {k n : Nat} (ol : Big.Ok Big.M64 l) (om : Big.Ok Big.M64 m) (hn : n ≤ 1)
    (h : zs.length = k ∧ Big.Ok Big.M64 zs ∧ Big.val Big.M64 zs + Big.val Big.M64 (m.take k) = Big.val Big.M64 (l.take k) + Big.M64 ^ k * n) :
    bor64 (Big.nth l k) (Big.nth m k) n ≤ 1 ∧ (zs ++ [dif64 (Big.nth l k) (Big.nth m k) n]).length = k + 1 ∧ Big.Ok Big.M64 (zs ++ [dif64 (Big.nth l k) (Big.nth m k) n]) ∧
      Big.val Big.M64 (zs ++ [dif64 (Big.nth l k) (Big.nth m k) n]) + Big.val Big.M64 (m.take (k + 1)) = Big.val Big.M64 (l.take (k + 1)) + Big.M64 ^ (k + 1) * bor64 (Big.nth l k) (Big.nth m k) n := by
  obtain ⟨h1, h2, h3⟩ := h
  have a := ol.nth Big.M64_pos k
  have b := om.nth Big.M64_pos k
  refine ⟨bor64_le _ _ _, by simp [h1], h2.append (Big.Ok.cons (by rw [Big.M64_eq]; exact dif64_lt _ _ _) Big.Ok.nil), ?_⟩
  rw [Big.val_take_succ', Big.val_take_succ']
  exact Big.sub_step h1 h3 (by rw [Big.M64_eq]; exact dif_bor (by rw [← Big.M64_eq]; exact a) (by rw [← Big.M64_eq]; exact b) hn)

set_option maxRecDepth 100000 in
set_option maxHeartbeats 1000000 in
/-- nat.Sub: the difference; nought, if y is above x. -/
theorem sub_any (w : World) (v u : Value) (n' m' : Nat) (h : NatIn w v n') (k : NatIn w u m') (hn : n' < Big.M64 ^ Big.KX) :
    Calls Tryd.prog 98 #[v, u] w fun e w' => ∃ v', e = .returned v' ∧ NatIn w' v' (n' - m') ∧ Below w.heap.size w w' := by
  obtain ⟨l, hx, ol, nl, rfl⟩ := h
  obtain ⟨m, hy, om, nm, rfl⟩ := k
  have hl := len_of_lt nl hn
  rw [Big.KX_eq] at hl
  clear hn
  have CMP := Lib.hid (cmp_any w v u l m hx hy ol om nl nm)
  have HW1 := Lib.hid hx; have HW2 := Lib.hid hy
  have OL := Lib.hid ol; have OM := Lib.hid om
  have NL := Lib.hid nl; have NM := Lib.hid nm
  clear hx hy ol om nl nm
  obtain ⟨A, c, rfl, -, -, -⟩ := HW1.out
  obtain ⟨i0, hi, hz0, hz1, hz2⟩ := info_parts Tryd.infoU64
  have hmk := fun W => make_words (P := Tryd.prog) Tryd.underlying59 hi hz0 hz1 (by rw [hz2]; omega) .i64 .i64 l.length l.length (Nat.le_refl _) (by omega) W
  rcases Nat.lt_or_ge (Big.val Big.M64 l) (Big.val Big.M64 m) with hlt | hge
  · have hc := Big.cmpI_lt hlt
    rw [hc] at CMP
    rw [Nat.sub_eq_zero_of_le (Nat.le_of_lt hlt)]
    clear hmk hlt hc
    go_enter Tryd.func98, Tryd.ntmps98
    go_wp2_with (go_at_call 63; refine CMP.out.mono ?_; rintro e w1 ⟨rfl, hd⟩)
    go_ret
    exact ⟨_, rfl, NatIn.nil_ _, (by assumption : Drew w w1).below _⟩
  · have hc : 0 ≤ Big.cmpI (Big.val Big.M64 l) (Big.val Big.M64 m) := by unfold Big.cmpI; split <;> (try split) <;> omega
    generalize Big.cmpI (Big.val Big.M64 l) (Big.val Big.M64 m) = cc at CMP hc
    have hnlt : ¬ (cc < 0) := by omega
    have HGE := Lib.hid hge
    clear hge
    go_enter Tryd.func98, Tryd.ntmps98
    go_wp2_with (go_at_call 63; refine CMP.out.mono ?_; rintro e w1 ⟨rfl, hd⟩; have HD := Lib.hid hd; clear hd)
    have hs : w1.heap.size = w.heap.size := by rw [HD.out.heap]
    have HS := Lib.hid hs
    have hbel1 := HD.out.below w.heap.size
    have HB1 := Lib.hid (Blk.new w1 71 .u64 (List.replicate l.length 0))
    have HBel1 := Lib.hid (hbel1.alloc (by omega) (.cells (cellsOf .u64 (List.replicate l.length 0)) 71))
    clear hmk hs hbel1
    go_loopw [6, 17] (fun o i wr => ∃ (k n : Nat) (zs : List Nat), k ≤ l.length ∧ i = .int .i64 k ∧ o = .int .u64 n ∧ n ≤ 1 ∧
        Hid (zs.length = k ∧ Big.Ok Big.M64 zs ∧ Big.val Big.M64 zs + Big.val Big.M64 (m.take k) = Big.val Big.M64 (l.take k) + Big.M64 ^ k * n) ∧
        Hid (Blk wr w1.heap.size 71 .u64 (zs ++ (List.replicate l.length 0).drop k)) ∧ Hid (Below w.heap.size w wr))
      (fun _ i _ => l.length - (intOf i).toNat)
    case atStart => exact ⟨0, 0, [], by omega, rfl, rfl, by omega, Lib.hid ⟨rfl, Big.Ok.nil, by simp [Big.val]⟩, Lib.hid (by simpa using HB1.out), HBel1⟩
    case round =>
      obtain ⟨k, n, zs, hk, rfl, rfl, hn1, HZ, HB, HBel⟩ := hrel
      by_cases hlt : k < l.length
      · have hX := HW1.out
        obtain ⟨A', c', e, x1, x2, x3⟩ := hX
        cases e
        obtain ⟨b, o, rfl, hblt, hc⟩ := x3 (by omega)
        have hcell := (HBel.out.cell (p := ⟨b, o + k, none⟩) hblt).trans (hc k hlt)
        have hsub := fun W => sub64 (Big.nth l k) (Big.nth m k) n hn1 W
        have hst := HB.out.cell k (by have := HZ.out.1; simp; omega)
        have hfr := HB.out.frozen k
        have HY := Lib.hid (HW2.out.keep HBel.out)
        have HYd := Lib.hid (HY.out.drew ⟨1, rfl⟩ : Wd wr.drew .u64 _ m)
        have hz1 : (k : Int) < (l.length : Int) := by omega
        have hz0 : (0 : Int) ≤ (k : Int) := by omega
        have hbne : b ≠ w1.heap.size := by have := HS.out; omega
        clear hc x3
        go_wp2_with fail
        go_region_held3 (fun w' => w'.cell? ⟨b, o + k, none⟩ = some (.int .u64 ((Big.nth l k : Nat) : Int)))
          (first | exact hcell | exact (World.cell?_setCell_other _ _ _ _ (by intro e; injection e; omega)).trans hcell)
          (first | (go_at_call 115; refine (word_any _ _ m k HYd.out).mono ?_; rintro e w' ⟨rfl, rfl⟩) | fail)
        have R := sub_round OL.out OM.out hn1 HZ.out
        have R1 := Lib.hid R.2
        have R0 := R.1
        have HB' := Lib.hid (HB.out.set k (dif64 (Big.nth l k) (Big.nth m k) n))
        have hle : w.heap.size ≤ w1.heap.size := by have := HS.out; omega
        clear R
        go_wp2
        go_roundw
        case rel =>
          refine ⟨k + 1, _, _, by omega, by go_num, rfl, R0, R1, Lib.hid ?_, Lib.hid (((HBel.out).drew).setCell hle _)⟩
          have := HB'.out
          rw [set_drop zs (List.replicate l.length 0) k _ HZ.out.1 (by simp; omega)] at this
          exact this
        case measure => simp [intOf]; omega
      · have hkl : k = l.length := by omega
        subst hkl
        go_wp2_with fail
        refine (trim_any _ _ zs ?_).mono ?_
        · have h1 := HB.out
          rw [List.drop_eq_nil_of_le (by simp), List.append_nil] at h1
          have h2 := h1.wd0 l.length (by have := HZ.out.1; omega) (by omega)
          rw [HZ.out.1] at h2
          exact h2
        · rintro e w' ⟨v', rfl, hv', rfl⟩
          have HV := Lib.hid hv'
          clear hv'
          go_wp2
          go_ret
          have Z := HZ.out
          refine ⟨v', rfl, ⟨Big.strip zs, HV.out, Big.strip_ok Z.2.1, Big.strip_norm _, ?_⟩, HBel.out⟩
          have hml : m.length ≤ l.length := Big.length_le Big.M64_pos NM.out OL.out HGE.out
          have e1 := Z.2.2
          rw [Big.val_take_all l _ (Nat.le_refl _), Big.val_take_all m _ hml] at e1
          rw [Big.strip_val]
          have hz := Big.val_lt zs Z.2.1
          rw [Z.1] at hz
          have hge := HGE.out
          rcases Nat.eq_zero_or_pos n with h0 | h0
          · subst h0; omega
          · have : n = 1 := by omega
            subst this; omega
end Go.Proofs.YtgdcahdnojaebaaDoor
