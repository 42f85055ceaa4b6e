/- Contracts. -/
import Derived.Test.YtnlhjcfpfapafaaGreatDoorPOq07
import Derived.Laws.CopyOwn
import Derived.Laws.MakeOwn
import Derived.OwnWalk
import Derived.Deep.RegionHeld3
namespace Go.Proofs.YtnlhjcfpfapafaaGreatDoor
open Go.RowKit
def cellsOf (k : IntKind) (l : List Nat) : Array Value := (l.map fun d => Value.int k ((d : Nat) : Int)).toArray
theorem Qr (k : IntKind) (l : List Nat) (i : Nat) (h : i < l.length) : (cellsOf k l)[i]? = some (.int k ((Big.nth l i : Nat) : Int)) := by
 simp [cellsOf, h, Big.nth]
theorem ZbP (k : IntKind) (l : List Nat) (i x : Nat) : (cellsOf k l).setIfInBounds i (.int k ((x : Nat) : Int)) = cellsOf k (l.set i x) := by
 simp [cellsOf, List.map_set]
theorem Z8 (k : IntKind) (l : List Nat) : (cellsOf k l).toList = l.map fun d => Value.int k ((d : Nat) : Int) := by simp [cellsOf]
theorem ZaB (k : IntKind) (n : Nat) : madeCells #[.int k 0] n = cellsOf k (List.replicate n 0) := by
 apply Array.ext'
 rw [toList_madeCells_one, Z8]; simp
def Blk (w : World) (g : Nat) (t : TypeId) (k : IntKind) (l : List Nat) : Prop := w.heap[g]? = some (.cells (cellsOf k l) t (0, 0))
section
variable {w w' : World} {g : Nat} {t : TypeId} {k : IntKind} {l : List Nat}
theorem Blk.lt (h : Blk w g t k l) : g < w.heap.size := by
 rcases Nat.lt_or_ge g w.heap.size with h1 | h1
 ·exact h1
 ·unfold Blk at h; rw [Array.getElem?_eq_none h1] at h; cases h
theorem Blk.cell (h : Blk w g t k l) (i : Nat) (hi : i < l.length) : w.cell? ⟨g, i, none⟩ = some (.int k ((Big.nth l i : Nat) : Int)) := by
 rw [cell_of_row w g i _ t (0, 0) h]; exact Qr k l i hi
theorem Blk.frozen (h : Blk w g t k l) (i : Nat) : w.frozen? ⟨g, i, none⟩ = false := frozen_of_row w g i _ t h
theorem Blk.new (w : World) (t : TypeId) (k : IntKind) (l : List Nat) : Blk (w.alloc (.cells (cellsOf k l) t)) w.heap.size t k l := heap_alloc_new w _
theorem Blk.set (h : Blk w g t k l) (i x : Nat) : Blk (w.setCell ⟨g, i, none⟩ (.int k ((x : Nat) : Int))) g t k (l.set i x) := by
 unfold Blk
 rw [heap_setCell_same w g i _ t _ h, ZbP]
theorem Blk.alloc' (h : Blk w g t k l) (o : Obj) : Blk (w.alloc o) g t k l := (Below.heap_alloc w o g h.lt).trans h
theorem Blk.drewN (h : Blk w g t k l) (n : Nat) : Blk (w.drewN n) g t k l := h
theorem Blk.drew (h : Blk w g t k l) (hd : Zv w w') : Blk w' g t k l := by unfold Blk; rw [hd.heap]; exact h
theorem Blk.below (h : Blk w g t k l) (hb : Below w.heap.size w w') : Blk w' g t k l := (hb.block g h.lt).trans h
theorem Blk.far (h : Blk w g t k l) {p : Addr} (hp : g ≠ p.block) (u : Value) : Blk (w.setCell p u) g t k l := (heap_setCell_other w p g u hp).trans h
theorem Blk.wd (h : Blk w g 112 k l) (o n c : Nat) (hn : o + n ≤ l.length) (hc : n ≤ c) (hc2 : c ≤ 1152921504606846976) : Wd w k (.slice (some ⟨g, o, none⟩) n c) ((l.drop o).take n) := by
 have hl : ((l.drop o).take n).length = n := by rw [List.length_take, List.length_drop]; omega
 refine ⟨_, c, by rw [hl], by omega, hc2, fun _ => ⟨g, o, rfl, h.lt, fun i hi => ?_, _, h⟩⟩
 rw [h.cell (o + i) (by omega)]
 unfold Big.nth
 rw [List.getD_eq_getElem?_getD, List.getD_eq_getElem?_getD, List.getElem?_take_of_lt (by omega), List.getElem?_drop]
theorem Blk.wd0 (h : Blk w g 112 k l) (c : Nat) (hc : l.length ≤ c) (hc2 : c ≤ 1152921504606846976) : Wd w k (.slice (some ⟨g, 0, none⟩) l.length c) l := by
 have := h.wd 0 l.length c (by omega) hc hc2
 simpa using this
end
theorem VI (zs r : List Nat) (k x : Nat) (h : zs.length = k) : (zs ++ r).set k x = zs ++ r.set 0 x := by
 rw [List.set_append_right k x (by omega), h, Nat.sub_self]
theorem ZY (zs l : List Nat) (k x : Nat) (h : zs.length = k) (hk : k < l.length) : (zs ++ l.drop k).set k x = (zs ++ [x]) ++ l.drop (k + 1) := by
 rw [VI zs _ k x h, Big.drop_cons l k hk]; simp
theorem ZZ {P : Program} {t e : TypeId} {i : TypeInfo} {k : IntKind} (ht : P.underlying t = some (.slice e)) (hi : P.info? e = some i) (hz : i.zero = some (.int k 0)) (hs : i.size = 1) (hb : i.bytes ≤ 8)
  (kl kc : IntKind) (n c : Nat) (hnc : n ≤ c) (hn : c ≤ 2000000000000) (w : World) :
  (Instr.makeSlice t (.int kl ((n : Nat) : Int)) (.int kc ((c : Nat) : Int))).run P w = .ok (.slice (some ⟨w.heap.size, 0, none⟩) n c) (w.alloc (.cells (cellsOf k (List.replicate c 0)) e)) := by
 have hbb : (i.bytes : Int) * (c : Int) ≤ 281474976710656 := by
  have h : i.bytes * c ≤ 8 * c := Nat.mul_le_mul_right c hb
  have h2 : ((i.bytes * c : Nat) : Int) ≤ 281474976710656 := by omega
  rwa [Int.natCast_mul] at h2
 have hr := run_make (P := P) w t e i _ ht hi hz kl kc n c (by omega) (by omega) hbb (by omega)
 simp only [Int.toNat_natCast, hs, Nat.mul_one] at hr
 rw [hr]
 show Result.ok _ (w.alloc (.cells (madeCells #[.int k 0] c) e)) = _
 rw [ZaB]
theorem Ub (k : IntKind) (cur xs : List Nat) : splice (cellsOf k cur).toList 0 (xs.map fun d => Value.int k ((d : Nat) : Int)) = (cellsOf k (xs ++ cur.drop xs.length)).toList := by
 simp [splice, Z8, List.map_drop]
theorem wpList_copy_words {P : Program} {w : World} {ops : Array Oper} {rest : List Oper} {o : Oper} {a : Act} {Q : Exit → Act → World → Prop} (hgd : o.guard = none) (d s : Operand) (dT sT : TypeId)
  (ho : o.op = .call { callee := .builtin .copy, args := #[d, s], argTypes := #[dT, sT] }) (elem : TypeId) (hu : P.underlying dT = some (.slice elem)) (hsz : (P.info? elem).map (·.size) = some 1)
  (g t : Nat) (k : IntKind) (cur xs : List Nat) (dLen dCap : Nat) (A : Option Addr) (c : Nat) (hd : a.eval d = .slice (some ⟨g, 0, none⟩) dLen dCap) (hs : a.eval s = .slice A xs.length c)
  (hr : Wd w k (.slice A xs.length c) xs) (hb : Blk w g t k cur) (hn : xs.length ≤ dLen) (hfit : dLen ≤ cur.length) (B : Nat) (w0 : World) (hB : Below B w0 w) (hBg : B ≤ g)
  (h : ∀ w', Blk w' g t k (xs ++ cur.drop xs.length) → Below B w0 w' → wpList P ops Q rest (a.put o.dst (goInt xs.length)) w') :
  wpList P ops Q (o :: rest) a w := by
 have hlen : (xs.map fun d => Value.int k ((d : Nat) : Int)).length = xs.length := by simp
 refine wpList_copy_splice hgd d s dT sT ho elem hu hsz _ _ dLen dCap xs.length c hd hs g 0 (cellsOf k cur).toList t (by rw [Array.toArray_toList]; exact hb) (xs.map fun d => Value.int k ((d : Nat) : Int))
  (by rw [hlen]; exact (Nat.min_eq_left hn).symm) (fun hp => ⟨rfl, ?_⟩) (by rw [hlen, Z8]; simp; omega) (by intro v hv; simp at hv; obtain ⟨_, _, rfl⟩ := hv; rfl) B w0 hB hBg ?_
 ·obtain ⟨A', c', e, h1, h2, h3⟩ := hr
  cases e
  obtain ⟨b, o', rfl, hlt, hc, -⟩ := h3 (by simpa using hp)
  refine ⟨_, rfl, fun j v hv => ?_⟩
  have hj : j < xs.length := by
   rcases Nat.lt_or_ge j xs.length with h | h
   ·exact h
   ·rw [List.getElem?_eq_none (by simpa using h)] at hv; cases hv
  rw [List.getElem?_map, List.getElem?_eq_getElem hj] at hv
  have := hc j hj
  unfold Big.nth at this
  rw [List.getD_eq_getElem?_getD, List.getElem?_eq_getElem hj] at this
  simp at hv
  rw [← hv]
  unfold Addr.add
  split
  ·rename_i h0; subst h0; simpa using this
  ·simpa using this
 ·intro w' hh hbel
  have hh' := hh.out
  rw [Ub] at hh'
  rw [hlen]
  exact h w' (by unfold Blk; rw [Array.toArray_toList] at hh'; exact hh') hbel
theorem Tryz.infoU64 : (Tryz.prog.info? 112).map (fun i => (i.zero, i.size, i.bytes)) = some (some (.int .u64 0), 1, 8) := by kernel_rfl
theorem add_round {l m zs : List Nat} {k n : Nat} (ol : Big.Ok Big.M64 l) (om : Big.Ok Big.M64 m) (hn : n ≤ 1)
  (h : zs.length = k ∧ Big.Ok Big.M64 zs ∧ Big.val Big.M64 zs + Big.M64 ^ k * n = Big.val Big.M64 (l.take k) + Big.val Big.M64 (m.take k)) :
  ZN (Big.nth l k + Big.nth m k + n) ≤ 1 ∧ (zs ++ [Zs (Big.nth l k + Big.nth m k + n)]).length = k + 1 ∧ Big.Ok Big.M64 (zs ++ [Zs (Big.nth l k + Big.nth m k + n)]) ∧
   Big.val Big.M64 (zs ++ [Zs (Big.nth l k + Big.nth m k + n)]) + Big.M64 ^ (k + 1) * ZN (Big.nth l k + Big.nth m k + n) = Big.val Big.M64 (l.take (k + 1)) + Big.val Big.M64 (m.take (k + 1)) := by
 obtain ⟨h1, h2, h3⟩ := h
 have a := ol.nth Big.M64_pos k
 have b := om.nth Big.M64_pos k
 refine ⟨Zc6 (by rw [← Big.M64_eq]; exact a) (by rw [← Big.M64_eq]; exact b) hn, by simp [h1], h2.append (Big.Ok.cons (by rw [Big.M64_eq]; exact XO _) Big.Ok.nil), ?_⟩
 rw [Big.val_take_succ', Big.val_take_succ']
 exact Big.add_step h1 h3 (by rw [Big.M64_eq]; exact lo_hi _)
set_option maxRecDepth 100000 in
set_option maxHeartbeats 1000000 in
theorem Zmn (w : World) (v u : Value) (l m : List Nat) (h : Wd w .u64 v l) (k : Wd w .u64 u m) (ol : Big.Ok Big.M64 l) (om : Big.Ok Big.M64 m)
  (hl : l.length ≤ 1000000000000) (hlm : m.length ≤ l.length) :
  Calls Tryz.prog 122 #[v, u] w fun e w' => ∃ v', e = .returned v' ∧ Zj w' v' (Big.val Big.M64 l + Big.val Big.M64 m) ∧ Below w.heap.size w w' := by
 obtain ⟨A, c, rfl, h1, h2, h3⟩ := h
 obtain ⟨A2, c2, rfl, k1, k2, k3⟩ := k
 obtain ⟨i0, hi, hz0, hz1, hz2⟩ := info_parts Tryz.infoU64
 have OL := Lib.hid ol; have OM := Lib.hid om
 clear ol om
 have hmk := fun W => ZZ (P := Tryz.prog) Tryz.underlying58 hi hz0 hz1 (by rw [hz2]; omega) .i64 .i64 (l.length + 1) (l.length + 1) (Nat.le_refl _) (by omega) W
 rw [show ((l.length + 1 : Nat) : Int) = (l.length : Int) + 1 by omega] at hmk
 have hnlt : ¬ ((l.length : Int) < m.length) := by omega
 have hb0 : Blk (w.alloc (.cells (cellsOf .u64 (List.replicate (l.length + 1) 0)) 112)) w.heap.size 112 .u64 (List.replicate (l.length + 1) 0) := Blk.new _ _ _ _
 have hbel0 : Below w.heap.size w (w.alloc (.cells (cellsOf .u64 (List.replicate (l.length + 1) 0)) 112)) := (Below.refl _ _).alloc (Nat.le_refl _) _
 have hw0 : Wd (w.alloc (.cells (cellsOf .u64 (List.replicate (l.length + 1) 0)) 112)) .u64 (.slice A l.length c) l := Wd.keep ⟨A, c, rfl, h1, h2, h3⟩ hbel0
 have H0 := Lib.hid (And.intro hb0 (And.intro hbel0 hw0))
 clear hb0 hbel0 hw0
 have hu : (Tryz.prog.info? 112).map (·.size) = some 1 := by rw [hi]; simp [hz1]
 go_enter Tryz.func122, Tryz.ntmps122
 go_wp2_with (first
  | (with_reducible refine wpList_copy_words rfl (.tmp 19) (.tmp 20) 58 58 rfl 112 Tryz.underlying58 hu w.heap.size 112 .u64 (List.replicate (l.length + 1) 0) l (l.length + 1) (l.length + 1) A c rfl rfl H0.out.2.2 H0.out.1 (by omega) (by simp) w.heap.size w H0.out.2.1 (Nat.le_refl _) ?_))
 intro w1 hB1 hBel1
 have HW1 := Lib.hid (show Wd w .u64 (.slice A l.length c) l from ⟨A, c, rfl, h1, h2, h3⟩)
 have HW2 := Lib.hid (show Wd w .u64 (.slice A2 m.length c2) m from ⟨A2, c2, rfl, k1, k2, k3⟩)
 have HB1 := Lib.hid hB1; have HBel1 := Lib.hid hBel1
 clear hB1 hBel1 H0 hmk h3 k3
 go_wp2_with fail
 go_loopw [6, 24] (fun o i wr => ∃ (k n : Nat) (zs : List Nat), k ≤ l.length ∧ i = .int .i64 k ∧ o = .int .u64 n ∧ n ≤ 1 ∧
   Hid (zs.length = k ∧ Big.Ok Big.M64 zs ∧ Big.val Big.M64 zs + Big.M64 ^ k * n = Big.val Big.M64 (l.take k) + Big.val Big.M64 (m.take k)) ∧
   Hid (Blk wr w.heap.size 112 .u64 (zs ++ (l ++ [0]).drop k)) ∧ Hid (Below w.heap.size w wr))
  (fun _ i _ => l.length - (intOf i).toNat)
 case atStart => exact ⟨0, 0, [], by omega, rfl, rfl, by omega, Lib.hid ⟨rfl, Big.Ok.nil, by simp [Big.val]⟩, Lib.hid (by simpa using HB1.out), HBel1⟩
 case round =>
  obtain ⟨k, n, zs, hk, rfl, rfl, hn1, HZ, HB, HBel⟩ := hrel
  by_cases hlt : k < l.length
  ·have hX := HW1.out
   obtain ⟨A', c', e, x1, x2, x3⟩ := hX
   cases e
   obtain ⟨b, o, rfl, hblt, hc, -⟩ := x3 (by omega)
   have hcell := (HBel.out.cell (p := ⟨b, o + k, none⟩) hblt).trans (hc k hlt)
   have hadd := fun W => ZbN (Big.nth l k) (Big.nth m k) n hn1 W
   have hst := HB.out.cell k (by have := HZ.out.1; simp; omega)
   have hfr := HB.out.frozen k
   have HY := Lib.hid (HW2.out.keep HBel.out)
   have HYd := Lib.hid (HY.out.drew ⟨1, rfl⟩ : Wd wr.drew .u64 _ m)
   have hz1 : (k : Int) < (l.length : Int) + 1 := by omega
   have hz0 : (0 : Int) ≤ (k : Int) := by omega
   clear hc x3
   go_wp2_with fail
   go_region_held3 (fun w' => w'.cell? ⟨b, o + k, none⟩ = some (.int .u64 ((Big.nth l k : Nat) : Int)))
    (first | exact hcell | exact (World.cell?_setCell_other _ _ _ _ (by intro e; injection e; omega)).trans hcell)
    (first | (go_at_call 130; refine (X6 _ _ m k HYd.out).mono ?_; rintro e w' ⟨rfl, rfl⟩) | fail)
   have R := add_round OL.out OM.out hn1 HZ.out
   have R1 := Lib.hid R.2
   have R0 := R.1
   have HB' := Lib.hid (HB.out.set k (Zs (Big.nth l k + Big.nth m k + n)))
   clear R
   go_wp2
   go_roundw
   case rel =>
    refine ⟨k + 1, _, _, by omega, by go_num, rfl, R0, R1, Lib.hid ?_, Lib.hid (((HBel.out).drew).setCell (Nat.le_refl _) _)⟩
    have := HB'.out
    rw [ZY zs (l ++ [0]) k _ HZ.out.1 (by simp; omega)] at this
    exact this
   case measure => simp [intOf]; omega
  ·have hkl : k = l.length := by omega
   subst hkl
   have hst := HB.out.cell l.length (by have := HZ.out.1; simp; omega)
   have hfr := HB.out.frozen l.length
   have HB' := Lib.hid (HB.out.set l.length n)
   have HBel' := Lib.hid (HBel.out.setCell (p := ⟨w.heap.size, l.length, none⟩) (Nat.le_refl _) (.int .u64 (n : Int)))
   have hz1 : (l.length : Int) < (l.length : Int) + 1 := by omega
   go_wp2_with fail
   refine (trim_any _ _ (zs ++ [n]) ?_).mono ?_
   ·have h1 := HB'.out
    rw [ZY zs (l ++ [0]) l.length _ HZ.out.1 (by simp)] at h1
    rw [show List.drop (l.length + 1) (l ++ [0]) = [] from List.drop_eq_nil_of_le (by simp), List.append_nil] at h1
    have h2 := h1.wd0 (l.length + 1) (by have := HZ.out.1; simp; omega) (by omega)
    rw [show (zs ++ [n]).length = l.length + 1 by have := HZ.out.1; simp; omega] at h2
    exact h2
   ·rintro e w' ⟨v', rfl, hv', rfl⟩
    have HV := Lib.hid hv'
    clear hv'
    go_wp2
    go_ret
    have Z := HZ.out
    have oz : Big.Ok Big.M64 (zs ++ [n]) := Z.2.1.append (Big.Ok.cons (by unfold Big.M64; omega) Big.Ok.nil)
    refine ⟨v', rfl, ⟨Big.strip (zs ++ [n]), HV.out, Big.strip_ok oz, Big.strip_norm _, ?_⟩, HBel'.out⟩
    have e1 := Z.2.2
    rw [Big.val_take_all l _ (Nat.le_refl _), Big.val_take_all m _ (by omega)] at e1
    rw [Big.strip_val, Big.val_snoc, Z.1]
    exact e1
set_option maxRecDepth 100000 in
set_option maxHeartbeats 1000000 in
theorem Zmo (w : World) (v u : Value) (l m : List Nat) (h : Wd w .u64 v l) (k : Wd w .u64 u m) (ol : Big.Ok Big.M64 l) (om : Big.Ok Big.M64 m)
  (hl : l.length ≤ 1000000000000) (hlm : m.length < l.length) :
  Calls Tryz.prog 122 #[u, v] w fun e w' => ∃ v', e = .returned v' ∧ Zj w' v' (Big.val Big.M64 l + Big.val Big.M64 m) ∧ Below w.heap.size w w' := by
 obtain ⟨A, c, rfl, h1, h2, h3⟩ := h
 obtain ⟨A2, c2, rfl, k1, k2, k3⟩ := k
 obtain ⟨i0, hi, hz0, hz1, hz2⟩ := info_parts Tryz.infoU64
 have OL := Lib.hid ol; have OM := Lib.hid om
 clear ol om
 have hmk := fun W => ZZ (P := Tryz.prog) Tryz.underlying58 hi hz0 hz1 (by rw [hz2]; omega) .i64 .i64 (l.length + 1) (l.length + 1) (Nat.le_refl _) (by omega) W
 rw [show ((l.length + 1 : Nat) : Int) = (l.length : Int) + 1 by omega] at hmk
 have hnlt : ((m.length : Int) < l.length) := by omega
 have hb0 : Blk (w.alloc (.cells (cellsOf .u64 (List.replicate (l.length + 1) 0)) 112)) w.heap.size 112 .u64 (List.replicate (l.length + 1) 0) := Blk.new _ _ _ _
 have hbel0 : Below w.heap.size w (w.alloc (.cells (cellsOf .u64 (List.replicate (l.length + 1) 0)) 112)) := (Below.refl _ _).alloc (Nat.le_refl _) _
 have hw0 : Wd (w.alloc (.cells (cellsOf .u64 (List.replicate (l.length + 1) 0)) 112)) .u64 (.slice A l.length c) l := Wd.keep ⟨A, c, rfl, h1, h2, h3⟩ hbel0
 have H0 := Lib.hid (And.intro hb0 (And.intro hbel0 hw0))
 clear hb0 hbel0 hw0
 have hu : (Tryz.prog.info? 112).map (·.size) = some 1 := by rw [hi]; simp [hz1]
 go_enter Tryz.func122, Tryz.ntmps122
 go_wp2_with (first
  | (with_reducible refine wpList_copy_words rfl (.tmp 19) (.tmp 20) 58 58 rfl 112 Tryz.underlying58 hu w.heap.size 112 .u64 (List.replicate (l.length + 1) 0) l (l.length + 1) (l.length + 1) A c rfl rfl H0.out.2.2 H0.out.1 (by omega) (by simp) w.heap.size w H0.out.2.1 (Nat.le_refl _) ?_))
 intro w1 hB1 hBel1
 have HW1 := Lib.hid (show Wd w .u64 (.slice A l.length c) l from ⟨A, c, rfl, h1, h2, h3⟩)
 have HW2 := Lib.hid (show Wd w .u64 (.slice A2 m.length c2) m from ⟨A2, c2, rfl, k1, k2, k3⟩)
 have HB1 := Lib.hid hB1; have HBel1 := Lib.hid hBel1
 clear hB1 hBel1 H0 hmk h3 k3
 go_wp2_with fail
 go_loopw [6, 24] (fun o i wr => ∃ (k n : Nat) (zs : List Nat), k ≤ l.length ∧ i = .int .i64 k ∧ o = .int .u64 n ∧ n ≤ 1 ∧
   Hid (zs.length = k ∧ Big.Ok Big.M64 zs ∧ Big.val Big.M64 zs + Big.M64 ^ k * n = Big.val Big.M64 (l.take k) + Big.val Big.M64 (m.take k)) ∧
   Hid (Blk wr w.heap.size 112 .u64 (zs ++ (l ++ [0]).drop k)) ∧ Hid (Below w.heap.size w wr))
  (fun _ i _ => l.length - (intOf i).toNat)
 case atStart => exact ⟨0, 0, [], by omega, rfl, rfl, by omega, Lib.hid ⟨rfl, Big.Ok.nil, by simp [Big.val]⟩, Lib.hid (by simpa using HB1.out), HBel1⟩
 case round =>
  obtain ⟨k, n, zs, hk, rfl, rfl, hn1, HZ, HB, HBel⟩ := hrel
  by_cases hlt : k < l.length
  ·have hX := HW1.out
   obtain ⟨A', c', e, x1, x2, x3⟩ := hX
   cases e
   obtain ⟨b, o, rfl, hblt, hc, -⟩ := x3 (by omega)
   have hcell := (HBel.out.cell (p := ⟨b, o + k, none⟩) hblt).trans (hc k hlt)
   have hadd := fun W => ZbN (Big.nth l k) (Big.nth m k) n hn1 W
   have hst := HB.out.cell k (by have := HZ.out.1; simp; omega)
   have hfr := HB.out.frozen k
   have HY := Lib.hid (HW2.out.keep HBel.out)
   have HYd := Lib.hid (HY.out.drew ⟨1, rfl⟩ : Wd wr.drew .u64 _ m)
   have hz1 : (k : Int) < (l.length : Int) + 1 := by omega
   have hz0 : (0 : Int) ≤ (k : Int) := by omega
   clear hc x3
   go_wp2_with fail
   go_region_held3 (fun w' => w'.cell? ⟨b, o + k, none⟩ = some (.int .u64 ((Big.nth l k : Nat) : Int)))
    (first | exact hcell | exact (World.cell?_setCell_other _ _ _ _ (by intro e; injection e; omega)).trans hcell)
    (first | (go_at_call 130; refine (X6 _ _ m k HYd.out).mono ?_; rintro e w' ⟨rfl, rfl⟩) | fail)
   have R := add_round OL.out OM.out hn1 HZ.out
   have R1 := Lib.hid R.2
   have R0 := R.1
   have HB' := Lib.hid (HB.out.set k (Zs (Big.nth l k + Big.nth m k + n)))
   clear R
   go_wp2
   go_roundw
   case rel =>
    refine ⟨k + 1, _, _, by omega, by go_num, rfl, R0, R1, Lib.hid ?_, Lib.hid (((HBel.out).drew).setCell (Nat.le_refl _) _)⟩
    have := HB'.out
    rw [ZY zs (l ++ [0]) k _ HZ.out.1 (by simp; omega)] at this
    exact this
   case measure => simp [intOf]; omega
  ·have hkl : k = l.length := by omega
   subst hkl
   have hst := HB.out.cell l.length (by have := HZ.out.1; simp; omega)
   have hfr := HB.out.frozen l.length
   have HB' := Lib.hid (HB.out.set l.length n)
   have HBel' := Lib.hid (HBel.out.setCell (p := ⟨w.heap.size, l.length, none⟩) (Nat.le_refl _) (.int .u64 (n : Int)))
   have hz1 : (l.length : Int) < (l.length : Int) + 1 := by omega
   go_wp2_with fail
   refine (trim_any _ _ (zs ++ [n]) ?_).mono ?_
   ·have h1 := HB'.out
    rw [ZY zs (l ++ [0]) l.length _ HZ.out.1 (by simp)] at h1
    rw [show List.drop (l.length + 1) (l ++ [0]) = [] from List.drop_eq_nil_of_le (by simp), List.append_nil] at h1
    have h2 := h1.wd0 (l.length + 1) (by have := HZ.out.1; simp; omega) (by omega)
    rw [show (zs ++ [n]).length = l.length + 1 by have := HZ.out.1; simp; omega] at h2
    exact h2
   ·rintro e w' ⟨v', rfl, hv', rfl⟩
    have HV := Lib.hid hv'
    clear hv'
    go_wp2
    go_ret
    have Z := HZ.out
    have oz : Big.Ok Big.M64 (zs ++ [n]) := Z.2.1.append (Big.Ok.cons (by unfold Big.M64; omega) Big.Ok.nil)
    refine ⟨v', rfl, ⟨Big.strip (zs ++ [n]), HV.out, Big.strip_ok oz, Big.strip_norm _, ?_⟩, HBel'.out⟩
    have e1 := Z.2.2
    rw [Big.val_take_all l _ (Nat.le_refl _), Big.val_take_all m _ (by omega)] at e1
    rw [Big.strip_val, Big.val_snoc, Z.1]
    exact e1
theorem ZjN (w : World) (v u : Value) (n m : Nat) (h : Zj w v n) (k : Zj w u m) (hn : n < Big.M64 ^ Big.KX) (hm : m < Big.M64 ^ Big.KX) :
  Calls Tryz.prog 122 #[v, u] w fun e w' => ∃ v', e = .returned v' ∧ Zj w' v' (n + m) ∧ Below w.heap.size w w' := by
 obtain ⟨l, h1, h2, h3, rfl⟩ := h
 obtain ⟨r, k1, k2, k3, rfl⟩ := k
 have hl := Yh h3 hn
 rw [Big.KX_eq] at hl
 have hr := Yh k3 hm
 rw [Big.KX_eq] at hr
 rcases Nat.lt_or_ge l.length r.length with hlt | hge
 ·rw [Nat.add_comm]
  exact Zmo w u v r l k1 h1 k2 h2 (by omega) hlt
 ·exact Zmn w v u l r h1 k1 h2 k2 (by omega) hge
theorem sub_round {l m zs : List Nat} {k n : Nat} (ol : Big.Ok Big.M64 l) (om : Big.Ok Big.M64 m) (hn : n ≤ 1)
  (h : zs.length = k ∧ Big.Ok Big.M64 zs ∧ Big.val Big.M64 zs + Big.val Big.M64 (m.take k) = Big.val Big.M64 (l.take k) + Big.M64 ^ k * n) :
  X5 (Big.nth l k) (Big.nth m k) n ≤ 1 ∧ (zs ++ [Z7 (Big.nth l k) (Big.nth m k) n]).length = k + 1 ∧ Big.Ok Big.M64 (zs ++ [Z7 (Big.nth l k) (Big.nth m k) n]) ∧
   Big.val Big.M64 (zs ++ [Z7 (Big.nth l k) (Big.nth m k) n]) + Big.val Big.M64 (m.take (k + 1)) = Big.val Big.M64 (l.take (k + 1)) + Big.M64 ^ (k + 1) * X5 (Big.nth l k) (Big.nth m k) n := by
 obtain ⟨h1, h2, h3⟩ := h
 have a := ol.nth Big.M64_pos k
 have b := om.nth Big.M64_pos k
 refine ⟨V8 _ _ _, by simp [h1], h2.append (Big.Ok.cons (by rw [Big.M64_eq]; exact V9 _ _ _) Big.Ok.nil), ?_⟩
 rw [Big.val_take_succ', Big.val_take_succ']
 exact Big.sub_step h1 h3 (by rw [Big.M64_eq]; exact QM (by rw [← Big.M64_eq]; exact a) (by rw [← Big.M64_eq]; exact b) hn)
set_option maxRecDepth 100000 in
set_option maxHeartbeats 1000000 in
theorem ZjO (w : World) (v u : Value) (n' m' : Nat) (h : Zj w v n') (k : Zj w u m') (hn : n' < Big.M64 ^ Big.KX) :
  Calls Tryz.prog 123 #[v, u] w fun e w' => ∃ v', e = .returned v' ∧ Zj w' v' (n' - m') ∧ Below w.heap.size w w' := by
 obtain ⟨l, hx, ol, nl, rfl⟩ := h
 obtain ⟨m, hy, om, nm, rfl⟩ := k
 have hl := Yh nl hn
 rw [Big.KX_eq] at hl
 clear hn
 have CMP := Lib.hid (cmp_any w v u l m hx hy ol om nl nm)
 have HW1 := Lib.hid hx; have HW2 := Lib.hid hy
 have OL := Lib.hid ol; have OM := Lib.hid om
 have NL := Lib.hid nl; have NM := Lib.hid nm
 clear hx hy ol om nl nm
 obtain ⟨A, c, rfl, -, -, -⟩ := HW1.out
 obtain ⟨i0, hi, hz0, hz1, hz2⟩ := info_parts Tryz.infoU64
 have hmk := fun W => ZZ (P := Tryz.prog) Tryz.underlying58 hi hz0 hz1 (by rw [hz2]; omega) .i64 .i64 l.length l.length (Nat.le_refl _) (by omega) W
 rcases Nat.lt_or_ge (Big.val Big.M64 l) (Big.val Big.M64 m) with hlt | hge
 ·have hc := Big.cmpI_lt hlt
  rw [hc] at CMP
  rw [Nat.sub_eq_zero_of_le (Nat.le_of_lt hlt)]
  clear hmk hlt hc
  go_enter Tryz.func123, Tryz.ntmps123
  go_wp2_with (go_at_call 101; refine CMP.out.mono ?_; rintro e w1 ⟨rfl, hd⟩)
  go_ret
  exact ⟨_, rfl, Zj.nil_ _, (by assumption : Zv w w1).below _⟩
 ·have hc : 0 ≤ Big.cmpI (Big.val Big.M64 l) (Big.val Big.M64 m) := by unfold Big.cmpI; split <;> (try split) <;> omega
  generalize Big.cmpI (Big.val Big.M64 l) (Big.val Big.M64 m) = cc at CMP hc
  have hnlt : ¬ (cc < 0) := by omega
  have HGE := Lib.hid hge
  clear hge
  go_enter Tryz.func123, Tryz.ntmps123
  go_wp2_with (go_at_call 101; refine CMP.out.mono ?_; rintro e w1 ⟨rfl, hd⟩; have HD := Lib.hid hd; clear hd)
  have hs : w1.heap.size = w.heap.size := by rw [HD.out.heap]
  have HS := Lib.hid hs
  have hbel1 := HD.out.below w.heap.size
  have HB1 := Lib.hid (Blk.new w1 112 .u64 (List.replicate l.length 0))
  have HBel1 := Lib.hid (hbel1.alloc (by omega) (.cells (cellsOf .u64 (List.replicate l.length 0)) 112))
  clear hmk hs hbel1
  go_loopw [6, 17] (fun o i wr => ∃ (k n : Nat) (zs : List Nat), k ≤ l.length ∧ i = .int .i64 k ∧ o = .int .u64 n ∧ n ≤ 1 ∧
    Hid (zs.length = k ∧ Big.Ok Big.M64 zs ∧ Big.val Big.M64 zs + Big.val Big.M64 (m.take k) = Big.val Big.M64 (l.take k) + Big.M64 ^ k * n) ∧
    Hid (Blk wr w1.heap.size 112 .u64 (zs ++ (List.replicate l.length 0).drop k)) ∧ Hid (Below w.heap.size w wr))
   (fun _ i _ => l.length - (intOf i).toNat)
  case atStart => exact ⟨0, 0, [], by omega, rfl, rfl, by omega, Lib.hid ⟨rfl, Big.Ok.nil, by simp [Big.val]⟩, Lib.hid (by simpa using HB1.out), HBel1⟩
  case round =>
   obtain ⟨k, n, zs, hk, rfl, rfl, hn1, HZ, HB, HBel⟩ := hrel
   by_cases hlt : k < l.length
   ·have hX := HW1.out
    obtain ⟨A', c', e, x1, x2, x3⟩ := hX
    cases e
    obtain ⟨b, o, rfl, hblt, hc, -⟩ := x3 (by omega)
    have hcell := (HBel.out.cell (p := ⟨b, o + k, none⟩) hblt).trans (hc k hlt)
    have hsub := fun W => ZbO (Big.nth l k) (Big.nth m k) n hn1 W
    have hst := HB.out.cell k (by have := HZ.out.1; simp; omega)
    have hfr := HB.out.frozen k
    have HY := Lib.hid (HW2.out.keep HBel.out)
    have HYd := Lib.hid (HY.out.drew ⟨1, rfl⟩ : Wd wr.drew .u64 _ m)
    have hz1 : (k : Int) < (l.length : Int) := by omega
    have hz0 : (0 : Int) ≤ (k : Int) := by omega
    have hbne : b ≠ w1.heap.size := by have := HS.out; omega
    clear hc x3
    go_wp2_with fail
    go_region_held3 (fun w' => w'.cell? ⟨b, o + k, none⟩ = some (.int .u64 ((Big.nth l k : Nat) : Int)))
     (first | exact hcell | exact (World.cell?_setCell_other _ _ _ _ (by intro e; injection e; omega)).trans hcell)
     (first | (go_at_call 130; refine (X6 _ _ m k HYd.out).mono ?_; rintro e w' ⟨rfl, rfl⟩) | fail)
    have R := sub_round OL.out OM.out hn1 HZ.out
    have R1 := Lib.hid R.2
    have R0 := R.1
    have HB' := Lib.hid (HB.out.set k (Z7 (Big.nth l k) (Big.nth m k) n))
    have hle : w.heap.size ≤ w1.heap.size := by have := HS.out; omega
    clear R
    go_wp2
    go_roundw
    case rel =>
     refine ⟨k + 1, _, _, by omega, by go_num, rfl, R0, R1, Lib.hid ?_, Lib.hid (((HBel.out).drew).setCell hle _)⟩
     have := HB'.out
     rw [ZY zs (List.replicate l.length 0) k _ HZ.out.1 (by simp; omega)] at this
     exact this
    case measure => simp [intOf]; omega
   ·have hkl : k = l.length := by omega
    subst hkl
    go_wp2_with fail
    refine (trim_any _ _ zs ?_).mono ?_
    ·have h1 := HB.out
     rw [List.drop_eq_nil_of_le (by simp), List.append_nil] at h1
     have h2 := h1.wd0 l.length (by have := HZ.out.1; omega) (by omega)
     rw [HZ.out.1] at h2
     exact h2
    ·rintro e w' ⟨v', rfl, hv', rfl⟩
     have HV := Lib.hid hv'
     clear hv'
     go_wp2
     go_ret
     have Z := HZ.out
     refine ⟨v', rfl, ⟨Big.strip zs, HV.out, Big.strip_ok Z.2.1, Big.strip_norm _, ?_⟩, HBel.out⟩
     have hml : m.length ≤ l.length := Big.length_le Big.M64_pos NM.out OL.out HGE.out
     have e1 := Z.2.2
     rw [Big.val_take_all l _ (Nat.le_refl _), Big.val_take_all m _ hml] at e1
     rw [Big.strip_val]
     have hz := Big.val_lt zs Z.2.1
     rw [Z.1] at hz
     have hge := HGE.out
     rcases Nat.eq_zero_or_pos n with h0 | h0
     ·subst h0; omega
     ·have : n = 1 := by omega
      subst this; omega
theorem Zg9 (p z : Nat) : ZN p + ZN (z + Zs p) = ZN (z + p) := by unfold ZN Zs; omega
theorem Zha (p z : Nat) : Zs (z + Zs p) = Zs (z + p) := by unfold Zs; omega
theorem ZjP {z x y c : Nat} (hz : z < 18446744073709551616) (hx : x < 18446744073709551616) (hy : y < 18446744073709551616) (hc : c < 18446744073709551616) : ZN (z + (x * y + c)) < 18446744073709551616 := by
 have : x * y ≤ 18446744073709551615 * 18446744073709551615 := Nat.mul_le_mul (by omega) (by omega)
 unfold ZN; omega
theorem mul_round {Z m zs : List Nat} {k n x : Nat} (oZ : Big.Ok Big.M64 Z) (om : Big.Ok Big.M64 m) (hn : n < Big.M64) (hx : x < Big.M64)
  (h : zs.length = k ∧ Big.Ok Big.M64 zs ∧ Big.val Big.M64 zs + Big.M64 ^ k * n = Big.val Big.M64 (Z.take k) + Big.val Big.M64 (m.take k) * x) :
  ZN (Big.nth Z k + (Big.nth m k * x + n)) < Big.M64 ∧ (zs ++ [Zs (Big.nth Z k + (Big.nth m k * x + n))]).length = k + 1 ∧ Big.Ok Big.M64 (zs ++ [Zs (Big.nth Z k + (Big.nth m k * x + n))]) ∧
   Big.val Big.M64 (zs ++ [Zs (Big.nth Z k + (Big.nth m k * x + n))]) + Big.M64 ^ (k + 1) * ZN (Big.nth Z k + (Big.nth m k * x + n)) = Big.val Big.M64 (Z.take (k + 1)) + Big.val Big.M64 (m.take (k + 1)) * x := by
 obtain ⟨h1, h2, h3⟩ := h
 have a := oZ.nth Big.M64_pos k
 have b := om.nth Big.M64_pos k
 refine ⟨ZjP a b hx hn, by simp [h1], h2.append (Big.Ok.cons (by rw [Big.M64_eq]; exact XO _) Big.Ok.nil), ?_⟩
 rw [Big.val_take_succ', Big.val_take_succ']
 exact Big.mul_step h1 h3 (by rw [Big.M64_eq, ← Nat.add_assoc] at *; exact lo_hi _)
theorem nth_drop_take (l : List Nat) (off n i : Nat) (hi : i < n) : Big.nth ((l.drop off).take n) i = Big.nth l (off + i) := by
 unfold Big.nth
 rw [List.getD_eq_getElem?_getD, List.getD_eq_getElem?_getD, List.getElem?_take_of_lt hi, List.getElem?_drop]
theorem set_mid (p zs r : List Nat) (off k x : Nat) (hp : p.length = off) (hz : zs.length = k) : (p ++ (zs ++ r)).set (off + k) x = p ++ (zs ++ r.set 0 x) := by
 rw [← List.append_assoc, List.set_append_right _ _ (by simp; omega)]
 simp [hp, hz]
set_option maxRecDepth 100000 in
set_option maxHeartbeats 1000000 in
theorem Jm (w : World) (g off n c x : Nat) (L m : List Nat) (u : Value) (hb : Blk w g 112 .u64 L) (hL : off + n ≤ L.length) (hnc : n ≤ c) (hc : c ≤ 1152921504606846976)
  (hoL : Big.Ok Big.M64 L) (hu : WdB g w .u64 u m) (hm : m.length = n) (om : Big.Ok Big.M64 m) (hx : x < Big.M64) :
  Calls Tryz.prog 124 #[.slice (some ⟨g, off, none⟩) n c, u, .int .u64 (x : Int)] w fun e w' =>
   ∃ (o : Nat) (zs : List Nat), e = .returned (.int .u64 (o : Int)) ∧ o < Big.M64 ∧ zs.length = n ∧ Big.Ok Big.M64 zs ∧
    Big.val Big.M64 zs + Big.M64 ^ n * o = Big.val Big.M64 ((L.drop off).take n) + Big.val Big.M64 m * x ∧ Blk w' g 112 .u64 (L.take off ++ (zs ++ L.drop (off + n))) ∧ ZP g w w' := by
 have hlt := hb.lt
 have HB0 := Lib.hid hb
 have HU := Lib.hid hu
 have OL := Lib.hid hoL; have OM := Lib.hid om
 have HX := Lib.hid hx
 obtain ⟨A, c2, rfl, k1, k2, k3⟩ := hu
 rw [hm] at k1 ⊢
 have HM := Lib.hid hm
 clear hb hoL om hm k3 hx
 go_enter Tryz.func124, Tryz.ntmps124
 go_wp2_with fail
 go_loopw [7, 15] (fun o i wr => ∃ (k q : Nat) (zs : List Nat), k ≤ n ∧ i = .int .i64 k ∧ o = .int .u64 q ∧
   Hid (q < Big.M64) ∧ Hid (zs.length = k ∧ Big.Ok Big.M64 zs ∧ Big.val Big.M64 zs + Big.M64 ^ k * q = Big.val Big.M64 (((L.drop off).take n).take k) + Big.val Big.M64 (m.take k) * x) ∧
   Hid (Blk wr g 112 .u64 (L.take off ++ (zs ++ L.drop (off + k)))) ∧ Hid (ZP g w wr))
  (fun _ i _ => n - (intOf i).toNat)
 case atStart => exact ⟨0, 0, [], by omega, rfl, rfl, Lib.hid Big.M64_pos, Lib.hid ⟨rfl, Big.Ok.nil, by simp [Big.val]⟩, Lib.hid (by simpa using HB0.out), Lib.hid (ZP.refl _ _)⟩
 case round =>
  obtain ⟨k, q, zs, hk, rfl, rfl, HQ, HZ, HB, HO⟩ := hrel
  by_cases hkn : k < n
  ·have hX := HU.out
   obtain ⟨A', c', e, x1, x2, x3⟩ := hX
   cases e
   obtain ⟨b, o, rfl, hblt, hcc, -⟩ := x3 (by have := HM.out; omega)
   have hcell := (HO.out.cell (o := o + k) (by omega : b < w.heap.size) (by omega)).trans (hcc k (by have := HM.out; omega))
   have hlen : (L.take off ++ (zs ++ L.drop (off + k))).length = L.length := by have := HZ.out.1; simp; omega
   have hst := HB.out.cell (off + k) (by omega)
   have ez : Big.nth (L.take off ++ (zs ++ L.drop (off + k))) (off + k) = Big.nth ((L.drop off).take n) k := by
    rw [nth_drop_take _ _ _ _ hkn]
    have h1 := HZ.out.1
    unfold Big.nth
    rw [List.getD_eq_getElem?_getD, List.getD_eq_getElem?_getD, List.getElem?_append_right (by simp; omega), List.getElem?_append_right (by simp; omega), List.getElem?_drop]
    congr 2
    simp
    omega
   rw [ez] at hst
   have hfr := HB.out.frozen (off + k)
   have oZ : Big.Ok Big.M64 ((L.drop off).take n) := (OL.out.drop _).take _
   have hvm := OM.out.nth Big.M64_pos k
   have hvz := oZ.nth Big.M64_pos k
   have R := mul_round oZ OM.out HQ.out HX.out HZ.out
   have R0 := Lib.hid R.1
   have R1 := Lib.hid R.2
   have HVM := Lib.hid hvm
   generalize hz' : Big.nth ((L.drop off).take n) k = zk at *
   generalize hy' : Big.nth m k = yk at *
   have HZ' := Lib.hid hz'; have HY' := Lib.hid hy'
   have hadd := fun W => Vj zk (Zs (yk * x + q)) W
   have HP := Lib.hid (Zg9 (yk * x + q) zk)
   have HL := Lib.hid (Zha (yk * x + q) zk)
   have hbd : ((ZN (yk * x + q) : Nat) : Int) + ((ZN (zk + Zs (yk * x + q)) : Nat) : Int) < 18446744073709551616 := by
    have := HP.out
    have := R0.out
    unfold Big.M64 at this
    omega
   have HB' := Lib.hid (HB.out.set (off + k) (Zs (zk + Zs (yk * x + q))))
   have HO' := Lib.hid (HO.out.setCell (off + k) (.int .u64 ((Zs (zk + Zs (yk * x + q)) : Nat) : Int)))
   clear hcc x3 R hvm hvz oZ ez hz' hy' hlen
   go_wp2_with (go_at_call 156; refine (Yi _ _ _ HVM.out HX.out HQ.out _).mono ?_; rintro e w' ⟨rfl, rfl⟩)
   go_roundw
   case rel =>
    refine ⟨k + 1, ZN (zk + (yk * x + q)), zs ++ [Zs (zk + (yk * x + q))], by omega, by go_num, ?_, R0, R1, Lib.hid ?_, HO'⟩
    ·rw [← HP.out]; go_num
    ·have := HB'.out
     rw [set_mid _ _ _ off k _ (by simp; omega) HZ.out.1, Big.drop_cons L (off + k) (by omega)] at this
     rw [← HL.out]
     simpa [Nat.add_assoc] using this
   case measure => simp [intOf]; omega
  ·have hkl : k = n := by omega
   subst hkl
   go_wp2
   go_ret
   have Z := HZ.out
   refine ⟨q, zs, rfl, HQ.out, Z.1, Z.2.1, ?_, HB.out, HO.out⟩
   have := Z.2.2
   rw [Big.val_take_all m _ (by have := HM.out; omega), List.take_take, Nat.min_self] at this
   exact this
set_option maxRecDepth 100000 in
set_option maxHeartbeats 1000000 in
theorem Xv (w : World) (v : Value) (l : List Nat) (h : Wd w .u64 v l) (hl : l.length ≤ 1000000000000) :
  Calls Tryz.prog 102 #[v] w fun e w' => e = .returned (.slice (some ⟨w.heap.size, 0, none⟩) l.length (l.length + 1)) ∧
   Blk w' w.heap.size 112 .u64 (l ++ [0]) ∧ Below w.heap.size w w' := by
 obtain ⟨i0, hi, hz0, hz1, hz2⟩ := info_parts Tryz.infoU64
 have hmk := fun W => ZZ (P := Tryz.prog) Tryz.underlying58 hi hz0 hz1 (by rw [hz2]; omega) .i64 .i64 l.length (l.length + 1) (by omega) (by omega) W
 rw [show ((l.length + 1 : Nat) : Int) = (l.length : Int) + 1 by omega] at hmk
 obtain ⟨A, c, rfl, h1, h2, h3⟩ := h
 have hb0 : Blk (w.alloc (.cells (cellsOf .u64 (List.replicate (l.length + 1) 0)) 112)) w.heap.size 112 .u64 (List.replicate (l.length + 1) 0) := Blk.new _ _ _ _
 have hbel0 : Below w.heap.size w (w.alloc (.cells (cellsOf .u64 (List.replicate (l.length + 1) 0)) 112)) := (Below.refl _ _).alloc (Nat.le_refl _) _
 have hw0 : Wd (w.alloc (.cells (cellsOf .u64 (List.replicate (l.length + 1) 0)) 112)) .u64 (.slice A l.length c) l := Wd.keep ⟨A, c, rfl, h1, h2, h3⟩ hbel0
 have H0 := Lib.hid (And.intro hb0 (And.intro hbel0 hw0))
 clear hb0 hbel0 hw0 h3
 have hu : (Tryz.prog.info? 112).map (·.size) = some 1 := by rw [hi]; simp [hz1]
 go_enter Tryz.func102, Tryz.ntmps102
 go_wp2_with (first
  | (with_reducible refine wpList_copy_words rfl _ _ 58 58 rfl 112 Tryz.underlying58 hu w.heap.size 112 .u64 (List.replicate (l.length + 1) 0) l l.length (l.length + 1) A c rfl rfl H0.out.2.2 H0.out.1 (by omega) (by simp) w.heap.size w H0.out.2.1 (Nat.le_refl _) ?_))
 intro w1 hB1 hBel1
 have HB1 := Lib.hid hB1; have HBel1 := Lib.hid hBel1
 clear hB1 hBel1 H0 hmk
 go_wp2
 go_ret
 exact ⟨rfl, by simpa [List.drop_replicate] using HB1.out, HBel1.out⟩
theorem UT (n : Nat) : Big.val Big.M64 (List.replicate n 0) = 0 := Big.val_replicate n
theorem Jn {l m Z zs : List Nat} {i o : Nat} (hi : i < l.length) (oZ : Big.Ok Big.M64 Z) (hZ : Z.length = l.length + m.length) (hz : zs.length = m.length) (oz : Big.Ok Big.M64 zs) (ho : o < Big.M64)
  (hrest : Z.drop (i + m.length) = List.replicate (l.length - i) 0)
  (hv : Big.val Big.M64 Z = Big.val Big.M64 (l.take i) * Big.val Big.M64 m)
  (h : Big.val Big.M64 zs + Big.M64 ^ m.length * o = Big.val Big.M64 ((Z.drop i).take m.length) + Big.val Big.M64 m * Big.nth l i) :
  Big.Ok Big.M64 ((Z.take i ++ (zs ++ Z.drop (i + m.length))).set (i + m.length) o) ∧ ((Z.take i ++ (zs ++ Z.drop (i + m.length))).set (i + m.length) o).length = l.length + m.length ∧
   ((Z.take i ++ (zs ++ Z.drop (i + m.length))).set (i + m.length) o).drop (i + 1 + m.length) = List.replicate (l.length - (i + 1)) 0 ∧
   Big.val Big.M64 ((Z.take i ++ (zs ++ Z.drop (i + m.length))).set (i + m.length) o) = Big.val Big.M64 (l.take (i + 1)) * Big.val Big.M64 m := by
 obtain ⟨q, hq⟩ : ∃ q, l.length - i = q + 1 := ⟨l.length - i - 1, by omega⟩
 rw [hrest, hq, set_mid _ _ _ i m.length o (by simp; omega) hz]
 have e0 : (List.replicate (q + 1) 0).set 0 o = o :: List.replicate q 0 := by simp [List.replicate_succ]
 rw [e0]
 have er : Big.Ok Big.M64 (List.replicate q 0) := by intro d hd; rw [List.eq_of_mem_replicate hd]; exact Big.M64_pos
 refine ⟨(oZ.take _).append (oz.append (Big.Ok.cons ho er)), by simp; omega, ?_, ?_⟩
 ·rw [← List.append_assoc, ← List.singleton_append, ← List.append_assoc, List.drop_append_of_le_length (by simp; omega), List.drop_eq_nil_of_le (by simp; omega), List.nil_append]
  congr 1; omega
 ·have e1 : Big.val Big.M64 Z = Big.val Big.M64 (Z.take i) + Big.M64 ^ i * Big.val Big.M64 ((Z.drop i).take m.length) := by
   rw [Big.val_take_drop Z i (by omega)]
   congr 2
   rw [Big.val_take_drop (Z.drop i) m.length (by simp; omega), List.drop_drop, hrest, UT]
   simp
  rw [Big.val_append, Big.val_append, Big.val_take_succ l i hi]
  simp only [Big.val, UT]
  rw [List.length_take, Nat.min_eq_left (by omega), hz]
  rw [Nat.add_mul, ← hv, e1]
  have e2 : Big.M64 ^ i * (Big.val Big.M64 zs + Big.M64 ^ m.length * o) = Big.M64 ^ i * (Big.val Big.M64 ((Z.drop i).take m.length) + Big.val Big.M64 m * Big.nth l i) := by rw [h]
  simp only [Nat.mul_add, Nat.mul_zero, Nat.add_zero] at e2 ⊢
  rw [Nat.mul_assoc (Big.M64 ^ i) (Big.nth l i), Nat.mul_comm (Big.nth l i)]
  omega
set_option maxRecDepth 100000 in
set_option maxHeartbeats 2000000 in
theorem Zhb (w : World) (v u : Value) (l m : List Nat) (hx : Wd w .u64 v l) (hy : Wd w .u64 u m) (ol : Big.Ok Big.M64 l) (om : Big.Ok Big.M64 m) (hl : l.length ≤ 100000000000) (hm : m.length ≤ 100000000000)
  (l0 : l.length ≠ 0) (m0 : m.length ≠ 0) (l1 : l ≠ [1]) (m1 : m ≠ [1]) :
  Calls Tryz.prog 94 #[v, u] w fun e w' => ∃ v', e = .returned v' ∧ Zj w' v' (Big.val Big.M64 l * Big.val Big.M64 m) ∧ Below w.heap.size w w' := by
 have HW1 := Lib.hid hx; have HW2 := Lib.hid hy
 have OL := Lib.hid ol; have OM := Lib.hid om
 have c1 := ZO w v l hx
 have c2 := ZO w u m hy
 rw [decide_eq_false l1] at c1
 rw [decide_eq_false m1] at c2
 have C1 := Lib.hid c1; have C2 := Lib.hid c2
 obtain ⟨A, c, rfl, -, -, -⟩ := hx
 obtain ⟨A2, cc2, rfl, -, hcc2, -⟩ := hy
 obtain ⟨i0, hi, hz0, hz1, hz2⟩ := info_parts Tryz.infoU64
 have hmk := fun W => ZZ (P := Tryz.prog) Tryz.underlying58 hi hz0 hz1 (by rw [hz2]; omega) .i64 .i64 (l.length + m.length) (l.length + m.length) (Nat.le_refl _) (by omega) W
 rw [show ((l.length + m.length : Nat) : Int) = (l.length : Int) + m.length by omega] at hmk
 have t1 : ((l.length : Int) == 0) = false := beq_eq_false_iff_ne.2 (by omega)
 have t2 : ((m.length : Int) == 0) = false := beq_eq_false_iff_ne.2 (by omega)
 have HB1 := Lib.hid (Blk.new w 112 .u64 (List.replicate (l.length + m.length) 0))
 have HBel1 := Lib.hid ((Below.refl w.heap.size w).alloc (Nat.le_refl _) (.cells (cellsOf .u64 (List.replicate (l.length + m.length) 0)) 112))
 have L1 := Lib.hid l1; have M1 := Lib.hid m1
 clear c1 c2 l1 m1 ol om
 go_enter Tryz.func94, Tryz.ntmps94
 go_wp2_with fail
 refine C1.out.mono ?_
 rintro e w' ⟨rfl, rfl⟩
 go_wp2_with fail
 refine C2.out.mono ?_
 rintro e w' ⟨rfl, rfl⟩
 go_wp2_with fail
 clear hmk
 go_loopw [33] (fun i wr => ∃ (k : Nat) (Z : List Nat), k ≤ l.length ∧ i = .int .i64 k ∧
   Hid (Big.Ok Big.M64 Z ∧ Z.length = l.length + m.length ∧ Z.drop (k + m.length) = List.replicate (l.length - k) 0 ∧ Big.val Big.M64 Z = Big.val Big.M64 (l.take k) * Big.val Big.M64 m) ∧
   Hid (Blk wr w.heap.size 112 .u64 Z) ∧ Hid (Below w.heap.size w wr))
  (fun i _ => l.length - (intOf i).toNat)
 case atStart =>
  refine ⟨0, List.replicate (l.length + m.length) 0, by omega, rfl, Lib.hid ⟨?_, by simp, by simp, by simp [Big.val, UT]⟩, HB1, HBel1⟩
  intro d hd; rw [List.eq_of_mem_replicate hd]; exact Big.M64_pos
 case round =>
  obtain ⟨k, Z, hk, rfl, HZ, HB, HBel⟩ := hrel
  by_cases hkn : k < l.length
  ·have hX := HW1.out
   obtain ⟨A', c', e, x1, x2, x3⟩ := hX
   cases e
   obtain ⟨b, o, rfl, hblt, hcc, -⟩ := x3 (by omega)
   have hcell := (HBel.out.cell (p := ⟨b, o + k, none⟩) hblt).trans (hcc k hkn)
   have hcap : ¬ (l.length + m.length = k) := by omega
   have hw : (0 : Int) ≤ (k : Int) + m.length := by omega
   have hw2 : (k : Int) + m.length ≤ (l.length : Int) + m.length := by omega
   have hw3 : (k : Int) ≤ (k : Int) + m.length := by omega
   have ht : ((k : Int) + m.length).toNat = k + m.length := by omega
   clear hcc x3
   go_wp2_with fail
   refine (Jm _ _ k m.length _ _ Z m _ HB.out (by have := HZ.out.2.1; omega) (by omega) (by omega) HZ.out.1 (HW2.out.wdB.below HBel.out) rfl OM.out (OL.out.nth Big.M64_pos k)).mono ?_
   rintro e w2 ⟨q, zs, rfl, hq, hzl, hzo, hzv, hB2, hO2⟩
   have R := Jn hkn HZ.out.1 HZ.out.2.1 hzl hzo hq HZ.out.2.2.1 HZ.out.2.2.2 hzv
   have hl2 : (Z.take k ++ (zs ++ Z.drop (k + m.length))).length = l.length + m.length := by have := HZ.out.2.1; simp; omega
   have hst := hB2.cell (k + m.length) (by omega)
   have hfr := hB2.frozen (k + m.length)
   have HB' := Lib.hid (hB2.set (k + m.length) q)
   have HBel2 := Lib.hid (hO2.below HBel.out (Nat.le_refl _) HBel.out.size)
   have R1 := Lib.hid R
   have hkm : (k : Int) + m.length < (l.length : Int) + m.length := by omega
   clear R hq hzl hzo hzv hB2 hO2 hl2
   go_wp2
   go_roundw
   case rel => exact ⟨k + 1, _, by omega, by go_num, R1, HB', Lib.hid (HBel2.out.setCell (Nat.le_refl _) _)⟩
   case measure => simp [intOf]; omega
  ·have hkl : k = l.length := by omega
   subst hkl
   go_wp2_with fail
   refine (trim_any _ _ Z ?_).mono ?_
   ·have h1 := HB.out.wd0 (l.length + m.length) (by have := HZ.out.2.1; omega) (by omega)
    rw [HZ.out.2.1] at h1
    exact h1
   ·rintro e w' ⟨v', rfl, hv', rfl⟩
    have HV := Lib.hid hv'
    clear hv'
    go_wp2
    go_ret
    have Z' := HZ.out
    refine ⟨v', rfl, ⟨Big.strip Z, HV.out, Big.strip_ok Z'.1, Big.strip_norm _, ?_⟩, HBel.out⟩
    rw [Big.strip_val, Z'.2.2.2, Big.val_take_all l _ (Nat.le_refl _)]
set_option maxRecDepth 100000 in
set_option maxHeartbeats 2000000 in
theorem ZjQ (w : World) (v u : Value) (n m : Nat) (h : Zj w v n) (k : Zj w u m) (hn : n < Big.M64 ^ Big.KL) (hm : m < Big.M64 ^ Big.KL) :
  Calls Tryz.prog 94 #[v, u] w fun e w' => ∃ v', e = .returned v' ∧ Zj w' v' (n * m) ∧ Below w.heap.size w w' := by
 obtain ⟨l, h1, h2, h3, rfl⟩ := h
 obtain ⟨r, k1, k2, k3, rfl⟩ := k
 have hl := Yh h3 hn
 rw [Big.KL_eq] at hl
 have hr := Yh k3 hm
 rw [Big.KL_eq] at hr
 by_cases l0 : l.length = 0
 ·obtain rfl : l = [] := List.eq_nil_of_length_eq_zero l0
  obtain ⟨A, c, rfl, -, -, -⟩ := h1
  obtain ⟨A2, c2, rfl, -, -, -⟩ := k1
  simp only [Big.val, Nat.zero_mul]
  clear hn hm hl hr h2 h3 k2 k3
  go_enter Tryz.func94, Tryz.ntmps94
  go_wp2
  go_ret
  exact ⟨_, rfl, Zj.nil_ _, Below.refl _ _⟩
 by_cases m0 : r.length = 0
 ·obtain rfl : r = [] := List.eq_nil_of_length_eq_zero m0
  obtain ⟨A, c, rfl, -, -, -⟩ := h1
  obtain ⟨A2, c2, rfl, -, -, -⟩ := k1
  have t1 : ((l.length : Int) == 0) = false := beq_eq_false_iff_ne.2 (by omega)
  simp only [Big.val, Nat.mul_zero]
  clear hn hm hl hr h2 h3 k2 k3 l0
  go_enter Tryz.func94, Tryz.ntmps94
  go_wp2
  go_ret
  exact ⟨_, rfl, Zj.nil_ _, Below.refl _ _⟩
 by_cases l1 : l = [1]
 ·subst l1
  have HY : Zj w u (Big.val Big.M64 [1] * Big.val Big.M64 r) := ⟨r, k1, k2, k3, by simp [Big.val]⟩
  have HYh := Lib.hid HY
  have c1 := ZO w v [1] h1
  obtain ⟨A2, c2, rfl, -, -, -⟩ := k1
  obtain ⟨A, c, rfl, -, -, -⟩ := h1
  have C1 := Lib.hid c1
  have t2 : ((r.length : Int) == 0) = false := beq_eq_false_iff_ne.2 (by omega)
  clear hn hm hl hr h2 h3 k2 k3 c1 HY l0 m0
  generalize Big.val Big.M64 [1] * Big.val Big.M64 r = N at HYh ⊢
  go_enter Tryz.func94, Tryz.ntmps94
  go_wp2_with fail
  refine C1.out.mono ?_
  rintro e w' ⟨rfl, rfl⟩
  go_wp2
  go_ret
  exact ⟨_, rfl, HYh.out, Below.refl _ _⟩
 by_cases m1 : r = [1]
 ·subst m1
  have HY : Zj w v (Big.val Big.M64 l * Big.val Big.M64 [1]) := ⟨l, h1, h2, h3, by simp [Big.val]⟩
  have HYh := Lib.hid HY
  have c1 := ZO w v l h1
  rw [decide_eq_false l1] at c1
  have c2 := ZO w u [1] k1
  obtain ⟨A2, d2, rfl, -, -, -⟩ := k1
  obtain ⟨A, d, rfl, -, -, -⟩ := h1
  have C1 := Lib.hid c1
  have C2 := Lib.hid c2
  have t2 : ((l.length : Int) == 0) = false := beq_eq_false_iff_ne.2 (by omega)
  have L1 := Lib.hid l1
  clear hn hm hl hr h2 h3 k2 k3 c1 c2 HY l0 m0 l1
  generalize Big.val Big.M64 l * Big.val Big.M64 [1] = N at HYh ⊢
  go_enter Tryz.func94, Tryz.ntmps94
  go_wp2_with fail
  refine C1.out.mono ?_
  rintro e w' ⟨rfl, rfl⟩
  go_wp2_with fail
  refine C2.out.mono ?_
  rintro e w' ⟨rfl, rfl⟩
  go_wp2
  go_ret
  exact ⟨_, rfl, HYh.out, Below.refl _ _⟩
 exact Zhb w v u l r h1 k1 h2 k2 (by omega) (by omega) l0 m0 l1 m1
end Go.Proofs.YtnlhjcfpfapafaaGreatDoor
namespace Go.Proofs.YtnlhjcfpfapafaaGreatDoor
namespace Big
theorem val_take_drop' {B : Nat} (l : List Nat) (k : Nat) : val B l = val B (l.take k) + B ^ k * val B (l.drop k) := by
 rcases Nat.lt_or_ge l.length k with h | h
 ·rw [List.take_of_length_le (by omega), List.drop_eq_nil_of_le (by omega)]; simp [val]
 ·exact val_take_drop l k h
theorem Vx (d : Nat) (l : List Nat) : nth (d :: l) 0 = d := rfl
theorem Vy (d : Nat) (l : List Nat) (j : Nat) : nth (d :: l) (j + 1) = nth l j := rfl
theorem nth_set (l : List Nat) (i j x : Nat) : nth (l.set i x) j = if i = j ∧ j < l.length then x else nth l j := by
 unfold nth
 rw [List.getD_eq_getElem?_getD, List.getD_eq_getElem?_getD, List.getElem?_set]
 by_cases h : i = j
 ·subst h
  by_cases h2 : i < l.length <;> simp [h2]
 ·simp [h]
theorem nth_replicate (n i : Nat) : nth (List.replicate n 0) i = 0 := by
 unfold nth
 rw [List.getD_eq_getElem?_getD, List.getElem?_replicate]
 split <;> rfl
theorem regroup {b k C : Nat} (hC : C = b ^ k) (X R : List Nat) (hl : R.length ≤ k * X.length) (h : ∀ j, j < X.length → nth X j = val b ((R.drop (k * j)).take k)) : val C X = val b R := by
 induction X generalizing R with
 | nil => obtain rfl : R = [] := List.eq_nil_of_length_eq_zero (by simpa using hl); rfl
 | cons x X ih =>
  have h0 := h 0 (by simp)
  rw [Vx, Nat.mul_zero, List.drop_zero] at h0
  rw [val_take_drop' R k]
  simp only [val, h0, hC]
  congr 2
  rw [← hC]
  apply ih
  ·simp only [List.length_cons, Nat.mul_add, List.length_drop] at hl ⊢; omega
  ·intro j hj
   have := h (j + 1) (by simpa using hj)
   rw [Vy] at this
   rw [this, List.drop_drop]
   congr 3
   rw [Nat.mul_add]; omega
theorem byte_step {k : Nat} (hk : 0 < k) {b : Nat} {X R : List Nat} {q r : Nat} (hr : r < k) (hi : k * q + r < R.length) (hq : q < X.length)
  (h : ∀ j, j < X.length → nth X j = val b (((R.take (k * q + r)).drop (k * j)).take k)) :
  ∀ j, j < (X.set q (nth X q + b ^ r * nth R (k * q + r))).length → nth (X.set q (nth X q + b ^ r * nth R (k * q + r))) j = val b (((R.take (k * q + r + 1)).drop (k * j)).take k) := by
 intro j hj
 simp only [List.length_set] at hj
 rw [nth_set]
 by_cases e : q = j
 ·subst e
  rw [if_pos ⟨rfl, hq⟩, h q hq]
  have e1 : (R.take (k * q + r + 1)).drop (k * q) = (R.take (k * q + r)).drop (k * q) ++ [nth R (k * q + r)] := by
   rw [take_succ R _ hi, List.drop_append_of_le_length (by simp; omega)]
  have l1 : ((R.take (k * q + r)).drop (k * q)).length = r := by simp; omega
  have a1 : List.take k ((R.take (k * q + r)).drop (k * q)) = (R.take (k * q + r)).drop (k * q) := List.take_of_length_le (by omega)
  have a2 : List.take k ((R.take (k * q + r)).drop (k * q) ++ [nth R (k * q + r)]) = (R.take (k * q + r)).drop (k * q) ++ [nth R (k * q + r)] := List.take_of_length_le (by rw [List.length_append, l1]; simp; omega)
  rw [e1, a1, a2, val_snoc, l1]
 ·rw [if_neg (by intro h; exact e h.1), h j hj]
  rcases Nat.lt_or_ge j q with hlt | hge
  ·have e2 : k * (j + 1) ≤ k * q := Nat.mul_le_mul_left k hlt
   rw [Nat.mul_add, Nat.mul_one] at e2
   rw [List.drop_take, List.drop_take, List.take_take, List.take_take, Nat.min_eq_left (by omega), Nat.min_eq_left (by omega)]
  ·have e2 : k * (q + 1) ≤ k * j := Nat.mul_le_mul_left k (by omega)
   rw [Nat.mul_add, Nat.mul_one] at e2
   rw [List.drop_eq_nil_of_le (by simp; omega), List.drop_eq_nil_of_le (by simp; omega)]
def rev (l : List UInt8) : List Nat := l.reverse.map (·.toNat)
def bnum (l : List UInt8) : Nat := val 256 (rev l)
theorem rev_length (l : List UInt8) : (rev l).length = l.length := by simp [rev]
theorem rev_ok (l : List UInt8) : Ok 256 (rev l) := by
 intro d hd
 simp [rev] at hd
 obtain ⟨a, _, rfl⟩ := hd
 exact a.toNat_lt
theorem rev_nth (l : List UInt8) (i : Nat) (h : i < l.length) : nth (rev l) i = (l[l.length - 1 - i]'(by omega)).toNat := by
 unfold nth rev
 rw [List.getD_eq_getElem?_getD, List.getElem?_map, List.getElem?_reverse h, List.getElem?_eq_getElem (by omega)]
 rfl
theorem pow256 (r : Nat) : 256 ^ r = 2 ^ (r * 8) := by rw [Nat.mul_comm, Nat.pow_mul]
theorem M64_pow : M64 = 256 ^ 8 := by unfold M64; decide
theorem or_byte {x r b : Nat} (hx : x < 256 ^ r) : x ||| b * 2 ^ (r * 8) = x + 256 ^ r * b := by
 rw [pow256] at *
 rw [Nat.or_comm, ← Nat.shiftLeft_eq, ← Nat.shiftLeft_add_eq_or_of_lt hx, Nat.shiftLeft_eq]
 rw [Nat.mul_comm b]; omega
theorem byte_bound {b r : Nat} (hb : b < 256) (hr : r < 8) : b * 2 ^ (r * 8) < 18446744073709551616 := by
 have h1 : 2 ^ (r * 8) ≤ 2 ^ 56 := Nat.pow_le_pow_right (by omega) (by omega)
 have h2 : b * 2 ^ (r * 8) ≤ 255 * 2 ^ 56 := Nat.mul_le_mul (by omega) h1
 omega
def IsSize (n s : Nat) : Prop := n < 256 ^ s ∧ (0 < s → 256 ^ (s - 1) ≤ n)
theorem isSize_zero : IsSize 0 0 := ⟨by simp, fun h => absurd h (by omega)⟩
theorem isSize_top {l : List Nat} {t b : Nat} (hl : Ok M64 l) (ht : t < 2 ^ b) (ht2 : 2 ^ (b - 1) ≤ t) (hb : 1 ≤ b) (hb2 : b ≤ 64) :
  IsSize (val M64 (l ++ [t])) (8 * l.length + 8 - (64 - b) / 8) := by
 have h1 := val_lt l hl
 rw [M64_pow, ← Nat.pow_mul] at h1
 have hM : M64 ^ l.length = 256 ^ (8 * l.length) := by rw [M64_pow, ← Nat.pow_mul]
 rw [M64_pow] at *
 obtain ⟨d, hd⟩ : ∃ d, d = (64 - b) / 8 := ⟨_, rfl⟩
 have e1 : 8 * l.length + 8 - (64 - b) / 8 = 8 * l.length + (8 - d) := by omega
 have hp : t < 256 ^ (8 - d) := by
  refine Nat.lt_of_lt_of_le ht ?_
  rw [pow256]
  exact Nat.pow_le_pow_right (by omega) (by omega)
 have hq : 256 ^ (8 - d - 1) ≤ t := by
  refine Nat.le_trans ?_ ht2
  rw [pow256]
  exact Nat.pow_le_pow_right (by omega) (by omega)
 rw [e1]
 refine ⟨?_, fun _ => ?_⟩
 ·rw [val_snoc, hM, Nat.pow_add]
  have : 256 ^ (8 * l.length) * (t + 1) ≤ 256 ^ (8 * l.length) * 256 ^ (8 - d) := Nat.mul_le_mul_left _ hp
  rw [Nat.mul_add] at this
  omega
 ·rw [val_snoc, hM, show 8 * l.length + (8 - d) - 1 = 8 * l.length + (8 - d - 1) by omega, Nat.pow_add]
  have := Nat.mul_le_mul_left (256 ^ (8 * l.length)) hq
  omega
theorem isSize_unique {n s t : Nat} (h : IsSize n s) (k : IsSize n t) : s = t := by
 rcases Nat.lt_trichotomy s t with hlt | he | hgt
 ·have h1 := k.2 (by omega)
  have h2 : 256 ^ s ≤ 256 ^ (t - 1) := Nat.pow_le_pow_right (by omega) (by omega)
  have := h.1; omega
 ·exact he
 ·have h1 := h.2 (by omega)
  have h2 : 256 ^ t ≤ 256 ^ (s - 1) := Nat.pow_le_pow_right (by omega) (by omega)
  have := k.1; omega
theorem nth_div {B : Nat} (hB : 0 < B) (l : List Nat) (h : Ok B l) (q : Nat) : nth l q = val B l / B ^ q % B := by
 induction l generalizing q with
 | nil => simp [nth, val]
 | cons d l ih =>
  have hd := h.head
  cases q with
  | zero => rw [Vx]; simp [val, Nat.mod_eq_of_lt hd]
  | succ q =>
   rw [Vy, ih h.tail]
   simp only [val]
   rw [Nat.pow_succ', ← Nat.div_div_eq_div_mul, Nat.add_mul_div_left _ _ hB, Nat.div_eq_of_lt hd, Nat.zero_add]
theorem byte_div (n q r : Nat) (hr : r < 8) : n / M64 ^ q % M64 / 2 ^ (r * 8) % 256 = n / 256 ^ (8 * q + r) % 256 := by
 rw [← pow256, M64_pow, ← Nat.pow_mul, Nat.pow_add, ← Nat.div_div_eq_div_mul]
 generalize n / 256 ^ (8 * q) = m
 have e : 256 ^ 8 = 256 ^ r * 256 ^ (8 - r) := by rw [← Nat.pow_add]; congr 1; omega
 rw [e, Nat.mod_mul_right_div_self]
 have e2 : 256 ^ (8 - r) = 256 * 256 ^ (8 - r - 1) := by rw [← Nat.pow_succ']; congr 1; omega
 rw [e2, Nat.mod_mul_right_mod]
def bd (n k : Nat) : List Nat := (List.range k).map fun j => n / 256 ^ j % 256
theorem bd_length (n k : Nat) : (bd n k).length = k := by simp [bd]
theorem Zeu (n k : Nat) : bd n (k + 1) = bd n k ++ [n / 256 ^ k % 256] := by simp [bd, List.range_succ]
theorem ZlS (n k : Nat) : Ok 256 (bd n k) := by
 intro d hd; simp [bd] at hd; obtain ⟨j, _, rfl⟩ := hd; exact Nat.mod_lt _ (by omega)
theorem Zmp (n k : Nat) : val 256 (bd n k) = n % 256 ^ k := by
 induction k with
 | zero => simp [bd, val, Nat.mod_one]
 | succ k ih => rw [Zeu, val_snoc, bd_length, ih, Nat.pow_succ, Nat.mod_mul]
theorem bd_set (n k s : Nat) (h : k < s) : (List.replicate (s - k) 0 ++ (bd n k).reverse).set (s - 1 - k) (n / 256 ^ k % 256) = List.replicate (s - (k + 1)) 0 ++ (bd n (k + 1)).reverse := by
 have e : s - k = (s - (k + 1)) + 1 := by omega
 rw [e, List.replicate_succ', List.append_assoc, List.set_append_right _ _ (by simp; omega)]
 simp only [List.length_replicate]
 rw [show s - 1 - k - (s - (k + 1)) = 0 by omega, Zeu]
 simp
def btext (n k : Nat) : List UInt8 := (bd n k).reverse.map UInt8.ofNat
theorem btext_length (n k : Nat) : (btext n k).length = k := by simp [btext, bd_length]
theorem btext_get (n k j : Nat) (hj : j < (btext n k).length) : nth (bd n k).reverse j = (btext n k)[j].toNat := by
 have hj' : j < (bd n k).reverse.length := by simpa [btext_length, bd_length] using hj
 have h1 : nth (bd n k).reverse j = (bd n k).reverse[j] := by unfold nth; rw [List.getD_eq_getElem?_getD, List.getElem?_eq_getElem hj']; rfl
 have h2 := ZlS n k _ (List.mem_reverse.1 (List.getElem_mem hj'))
 have h3 : (btext n k)[j] = UInt8.ofNat (bd n k).reverse[j] := List.getElem_map ..
 rw [h1, h3]
 generalize (bd n k).reverse[j] = x at *
 have h4 : (UInt8.ofNat x).toNat = x % 256 := by simp
 rw [h4, Nat.mod_eq_of_lt h2]
theorem btext_num (n k : Nat) (h : n < 256 ^ k) : bnum (btext n k) = n := by
 unfold bnum rev btext
 rw [← List.map_reverse, List.reverse_reverse, List.map_map]
 have e : (bd n k).map ((fun x => x.toNat) ∘ UInt8.ofNat) = bd n k := by
  conv => rhs; rw [← List.map_id (bd n k)]
  apply List.map_congr_left
  intro d hd
  have := ZlS n k d hd
  simp [Nat.mod_eq_of_lt this]
 rw [e, Zmp, Nat.mod_eq_of_lt h]
end Big
end Go.Proofs.YtnlhjcfpfapafaaGreatDoor
