/- Contracts. -/
import Derived.Test.YtnlhjcfpfapafaaESq30
import Derived.ChangeArms
import Derived.WideShapes
namespace Go.Proofs.Ytnlhjcfpfapafaa
open Go Go.ChangeShapes Go.WideShapes Go.ChangeAt Go.RowKit Ev
set_option maxRecDepth 100000
theorem c_u8S : Try.prog.cellsOf 5 = 1 := by kernel_rfl
theorem c_stepS : Try.prog.cellsOf 78 = 2 := by kernel_rfl
def datS {H : Type} (t : Nat × Nat) : DataW H := .agg [.lit (.int .u8 (t.1 : Int)), .lit (.int .u8 (t.2 : Int))]
def triS {H : Type} (y : DataW H × List MemPlace) : Nat × Nat := match y.1 with
 | .agg [.lit (.int .u8 a), .lit (.int .u8 b)] => (a.toNat, b.toNat)
 | _ => (0, 0)
def rawS (t : Nat × Nat) : List Value := [.int .u8 (t.1 : Int), .int .u8 (t.2 : Int)]
def wfS (t : Nat × Nat) : Prop := t.1 < 256 ∧ t.2 < 256
def zeS : Nat × Nat := (0, 0)
section
variable {H : Type} {enc : TypeId × Value → H} {w : World} {base : Nat} {spare : Nat → Bool} {held : Bool}
theorem step_inS {fuel : Nat} {cs : List Value} {x : DataW H × List MemPlace} (h : DataW.trod enc Try.prog w base spare held fuel 78 cs = some x) : ∃ t : Nat × Nat, cs = rawS t ∧ x = (datS t, []) ∧ wfS t := by
 obtain ⟨xs, n, -, hx, hl, hlen, hg⟩ := DataW.trod_array Try.underlying78 h
 rw [c_stepS] at hl
 match cs, hl, xs, hlen with
 | [u0, u1], _, [y0, y1], _ =>
  have h0 := hg 0 (by omega)
  simp only [c_u8S, List.drop, List.take, List.getElem?_cons_zero] at h0
  obtain ⟨a, e0, z0, w0⟩ := DataW.trod_int Try.underlying5 h0
  obtain rfl := (List.cons.inj e0).1; clear e0
  subst z0
  have h1 := hg 1 (by omega)
  simp only [c_u8S, List.drop, List.take, List.getElem?_cons_zero, List.getElem?_cons_succ] at h1
  obtain ⟨b, e1, z1, w1⟩ := DataW.trod_int Try.underlying5 h1
  obtain rfl := (List.cons.inj e1).1; clear e1
  subst z1
  have ha := bounds_u8 w0
  have hb := bounds_u8 w1
  refine ⟨(a.toNat, b.toNat), ?_, ?_, ?_⟩
  ·simp [rawS, Int.toNat_of_nonneg ha.1, Int.toNat_of_nonneg hb.1]
  ·rw [hx]; simp [datS, Int.toNat_of_nonneg ha.1, Int.toNat_of_nonneg hb.1]
  ·constructor
   ·show a.toNat < 256
    omega
   ·show b.toNat < 256
    omega
theorem u8_wfS {n : Nat} (h : n < 256) : (Lit.int .u8 (n : Int)).wf = true := by
 simp [Lit.wf, IntKind.min, IntKind.max, IntKind.signed, IntKind.bits]
 omega
theorem step_mkS {t : Nat × Nat} (h : wfS t) (n : Nat) : DataW.trod enc Try.prog w base spare held (n + 2) 78 (rawS t) = some (datS t, []) := by
 obtain ⟨a, b⟩ := t
 have k1 : ∀ a : Nat, a < 256 → DataW.trod enc Try.prog w base spare held (n + 1) 5 [.int .u8 (a : Int)] = some (.lit (.int .u8 (a : Int)), []) := fun a ha => trod_int_mk n Try.underlying5 (u8_wfS ha)
 have r2 : List.range 2 = [0, 1] := rfl
 unfold DataW.trod
 simp [Try.underlying78, c_u8S, c_stepS, rawS, datS, r2, k1 a h.1, k1 b h.2]
theorem steps_in {fuel : Nat} {cs : List Value} {x : DataW H × List MemPlace} (h : DataW.trod enc Try.prog w 0 (fun _ => true) held fuel 40 cs = some x) :
  (cs = [.slice none 0 0] ∧ x = (.nil, [])) ∨
  ∃ (a : Addr) (len cap : Nat) (ts : List (Nat × Nat)), cs = [.slice (some a) len cap] ∧ len ≤ cap ∧ cap ≤ maxLen ∧ ts.length = cap ∧ x = (.slice ((ts.take len).map datS) ((ts.drop len).map datS), MemPlace.row a (cap * 2)) ∧
   (∀ i, i < cap → w.cells? 0 (a.add (i * 2)) 2 = some (rawS (ts.getD i zeS))) ∧ ∀ t ∈ ts, wfS t := by
 rcases DataW.trod_slice Try.underlying40 h with h0 | ⟨a, len, cap, elems, rest, n, _, rfl, rfl, hb, hl, hm, hlen, hel, hsp, _⟩
 ·exact Or.inl h0
 right
 obtain ⟨hrl, hr⟩ := hsp rfl
 rw [c_stepS] at hel hr
 have each : ∀ i y, (elems ++ rest)[i]? = some y → y = (datS (triS y), []) ∧ wfS (triS y) ∧ w.cells? 0 (a.add (i * 2)) 2 = some (rawS (triS y)) := by
  intro i y hy
  have hb' : (w.cells? 0 (a.add (i * 2)) 2).bind (DataW.trod enc Try.prog w 0 (fun _ => true) held n 78) = some y := by
   by_cases hi : i < len
   ·rw [hel i hi, ← hy, List.getElem?_append_left (by omega)]
   ·have hi' : i - len < rest.length := by
     have := (List.getElem?_eq_some_iff.1 hy).1
     simp at this
     omega
    have := hr (i - len) (by omega)
    rw [show len + (i - len) = i by omega] at this
    rw [this, ← hy, List.getElem?_append_right (by omega), hlen]
  rw [Option.bind_eq_some_iff] at hb'
  obtain ⟨cs', hcs, hy'⟩ := hb'
  obtain ⟨t, rfl, rfl, hw⟩ := step_inS hy'
  exact ⟨rfl, hw, hcs⟩
 have mem : ∀ y ∈ elems ++ rest, y = (datS (triS y), []) ∧ wfS (triS y) := by
  intro y hy
  obtain ⟨i, hi⟩ := List.getElem?_of_mem hy
  exact ⟨(each i y hi).1, (each i y hi).2.1⟩
 refine ⟨a, len, cap, (elems ++ rest).map triS, rfl, hl, hm, ?_, ?_, ?_, ?_⟩
 ·simp only [List.length_map, List.length_append, hlen, hrl]; omega
 ·have e1 : ((elems ++ rest).map triS).take len = elems.map triS := by rw [← List.map_take, ← hlen, List.take_left]
  have e2 : ((elems ++ rest).map triS).drop len = rest.map triS := by rw [← List.map_drop, ← hlen, List.drop_left]
  have f1 : ∀ l : List (DataW H × List MemPlace), (∀ y ∈ l, y ∈ elems ++ rest) → l.map (·.1) = (l.map triS).map datS := by
   intro l hl'
   simp only [List.map_map]
   exact List.map_congr_left (fun y hy => by
    have := (mem y (hl' y hy)).1
    exact congrArg Prod.fst this)
  have f2 : (elems ++ rest).flatMap (·.2) = [] := by
   rw [List.flatMap_eq_nil_iff]
   intro y hy
   exact congrArg Prod.snd (mem y hy).1
  have f3 : (elems.length + rest.length) * Try.prog.cellsOf 78 = cap * 2 := by rw [c_stepS, hlen, hrl]; congr 1; omega
  rw [e1, e2, f1 elems (fun y hy => by simp [hy]), f1 rest (fun y hy => by simp [hy]), f2, f3]
  simp
 ·intro i hi
  have hi2 : i < (elems ++ rest).length := by rw [List.length_append]; omega
  have hy : (elems ++ rest)[i]? = some ((elems ++ rest)[i]'hi2) := List.getElem?_eq_getElem hi2
  have := (each i _ hy).2.2
  have e : ((elems ++ rest).map triS).getD i zeS = triS ((elems ++ rest)[i]'hi2) := by rw [List.getD_eq_getElem?_getD, List.getElem?_map, hy]; rfl
  rw [this, e]
 ·intro m hm'
  obtain ⟨y, hy, rfl⟩ := List.mem_map.1 hm'
  exact (mem y hy).2
theorem steps_mk {a : Addr} {len cap : Nat} {ts : List (Nat × Nat)} (m : Nat) (hl : len ≤ cap) (hm : cap ≤ maxLen) (hz : ts.length = cap) (hsp : 0 < cap → spare a.block = true) (hcell : ∀ i, i < cap → w.cells? 0 (a.add (i * 2)) 2 = some (rawS (ts.getD i zeS))) (hw : ∀ t ∈ ts, wfS t) :
  DataW.trod enc Try.prog w 0 spare held (m + 3) 40 [.slice (some a) len cap] = some (.slice ((ts.take len).map datS) ((ts.drop len).map datS), MemPlace.row a (cap * 2)) := by
 have one : ∀ i, i < cap → (w.cells? 0 (a.add (i * Try.prog.cellsOf 78)) (Try.prog.cellsOf 78)).bind (DataW.trod enc Try.prog w 0 spare held (m + 2) 78) = some ((datS (ts.getD i zeS), []) : DataW H × List MemPlace) := by
  intro i hi
  rw [c_stepS, hcell i hi]
  exact step_mkS (hw _ (by
   rw [List.getD_eq_getElem?_getD, List.getElem?_eq_getElem (show i < ts.length by omega)]
   exact List.getElem_mem _)) m
 have t1 : (List.range len).map (fun i => ((datS (ts.getD i zeS), []) : DataW H × List MemPlace)) = (ts.take len).map fun n => (datS n, []) := by
  apply List.ext_getElem?
  intro i
  by_cases hi : i < len
  ·simp [hi, List.getD, show i < ts.length by omega]
  ·simp [hi, List.getElem?_take]
 have t2 : (List.range (cap - len)).map (fun j => ((datS (ts.getD (len + j) zeS), []) : DataW H × List MemPlace)) = (ts.drop len).map fun n => (datS n, []) := by
  apply List.ext_getElem?
  intro j
  by_cases hj : j < ts.length - len
  ·simp [show j < cap - len by omega, List.getD, show len + j < ts.length by omega]
  ·simp [show ¬ j < cap - len by omega, hj]
 have z : ∀ l : List (Nat × Nat), (l.map fun n => ((datS n, []) : DataW H × List MemPlace)).flatMap (·.2) = [] := fun l =>
  List.flatMap_eq_nil_iff.2 fun y hy => by
   obtain ⟨n, _, rfl⟩ := List.mem_map.1 hy
   rfl
 have z1 : ∀ l : List (Nat × Nat), (l.map fun n => ((datS n, []) : DataW H × List MemPlace)).map (·.1) = l.map datS := fun l => by
  rw [List.map_map]; rfl
 rw [DataW.trod_step]
 unfold DataW.trodStep
 simp only [Try.underlying40]
 rw [if_pos ⟨Nat.zero_le _, hl, hm⟩, mapM_range_of len (fun i hi => one i (by omega)), t1]
 simp only [Option.bind_some]
 rcases Nat.eq_zero_or_pos cap with h0 | h0
 ·have hts : ts = [] := List.length_eq_zero_iff.1 (by omega)
  have hl0 : len = 0 := by omega
  subst hts hl0 h0
  cases spare a.block <;> simp
 ·rw [if_pos (hsp h0), mapM_range_of (cap - len) (fun j hj => one (len + j) (by omega)), t2, Option.map_some, List.flatMap_append, z, z, z1, z1, List.length_map, List.length_map, List.length_take, List.length_drop, c_stepS, show min len ts.length + (ts.length - len) = cap by omega]
  simp
end
theorem cells_rowS {w : World} {b off : Nat} {cl : List Value} {t : TypeId} {z : Nat × Nat} {l : List Value} (h : w.cells? 0 ⟨b, off, none⟩ l.length = some l) (hh : w.heap[b]? = some (.cells ⟨cl⟩ t z)) : (cl.drop off).take l.length = l := by
 obtain ⟨_, _, hc⟩ := World.cells?_some h
 apply List.ext_getElem?
 intro k
 by_cases hk : k < l.length
 ·have h1 := hc k hk
  rw [add_off] at h1
  rw [List.getElem?_take, if_pos hk, List.getElem?_drop, ← h1]
  simp [World.cell?, hh]
 ·rw [List.getElem?_take, if_neg hk, List.getElem?_eq_none (by omega)]
theorem cells_belowS {W W' : World} (hb : Below W.heap.size W W') {a : Addr} {n : Nat} (h : a.block < W.heap.size) : W'.cells? 0 a n = W.cells? 0 a n := by
 unfold World.cells?
 rw [show (fun i => W'.cell? (a.add i)) = fun i => W.cell? (a.add i) from funext fun i => cell_below hb (by rw [block_add]; exact h)]
theorem steps_st {w : World} {a : Addr} {len cap : Nat} {ts : List (Nat × Nat)} (hl : len ≤ cap) (hz : ts.length = cap) (hcell : ∀ i, i < cap → w.cells? 0 (a.add (i * 2)) 2 = some (rawS (ts.getD i zeS))) (hw : ∀ t ∈ ts, wfS t) : StIn w.heap.size w (.slice (some a) len cap) (ts.take len) := by
 have hlt : (ts.take len).length = len := by rw [List.length_take]; omega
 refine ⟨some a, cap, by rw [hlt], fun p hp => hw p (List.mem_of_mem_take hp), fun hne => ?_⟩
 have hp : 0 < len := by rw [← hlt]; exact List.length_pos_iff.2 hne
 have h0 := hcell 0 (by omega)
 obtain ⟨_, hlen0, hc0⟩ := World.cells?_some h0
 have hc00 := hc0 0 (by omega)
 obtain ⟨b, off, spot⟩ := a
 have hsp : spot = none := by
  cases spot with
  | none => rfl
  | some s =>
   exfalso
   simp [World.cell?, Addr.add, rawS] at hc00
   split at hc00 <;> simp_all
 subst hsp
 cases hh : w.heap[b]? with
 | none => simp [World.cell?, Addr.add, hh, rawS] at hc00
 | some o =>
  cases o with
  | cells c t z =>
   obtain ⟨cl⟩ := c
   refine ⟨b, off, cl, t, z, rfl, (Array.getElem?_eq_some_iff.1 hh).1, hh, fun i p hi => ?_⟩
   have hil : i < len := by rw [← hlt]; exact (List.getElem?_eq_some_iff.1 hi).1
   have hx' : ts[i]? = some p := by
    rw [List.getElem?_take, if_pos hil] at hi; exact hi
   have h6 := hcell i (by omega)
   rw [add_off, List.getD_eq_getElem?_getD, hx'] at h6
   have hrow := cells_rowS (l := rawS p) h6 hh
   have hd : ∀ k, k < 2 → cl[off + i * 2 + k]? = (rawS p)[k]? := fun k hk => by
    rw [← hrow, List.getElem?_take, if_pos (show k < (rawS p).length from hk), List.getElem?_drop]
   exact ⟨hd 0 (by omega), hd 1 (by omega)⟩
  | _ => simp [World.cell?, Addr.add, hh, rawS] at hc00
theorem steps_open {H : Type} {enc : TypeId × Value → H} {W : World} {b0 : Nat} {v : Value} {d : DataW H} {p : List MemPlace} (hval : Value.okWide Try.prog W .any b0 40 v)
  (h0 : DataW.Trod enc Try.prog W 0 (fun _ => true) true 40 v d p) :
  ∃ ss : List (Nat × Nat), StIn W.heap.size W v ss ∧
   ∀ (W' : World) (sp : Nat → Bool), Below W.heap.size W W' → (∀ q ∈ p, sp q.block = true) → DataW.Trod enc Try.prog W' 0 sp true 40 v d p := by
 obtain ⟨a0, len0, cap0, rfl⟩ := okWide_slice Try.underlying40 hval
 obtain ⟨fuel, hf⟩ := h0
 rcases steps_in hf with ⟨e3, hx⟩ | ⟨a, len, cap, ts, e3, hl9, hm, hz9, hx, hcell, hw⟩
 ·simp [Value.cells] at e3
  obtain ⟨rfl, rfl, rfl⟩ := e3
  simp only [Prod.mk.injEq] at hx
  obtain ⟨rfl, rfl⟩ := hx
  exact ⟨[], ⟨none, 0, rfl, fun _ h => by simp at h, fun h => absurd rfl h⟩, fun W' sp _ _ => shut_slice_nil Try.underlying40⟩
 ·simp [Value.cells] at e3
  obtain ⟨rfl, rfl, rfl⟩ := e3
  simp only [Prod.mk.injEq] at hx
  obtain ⟨rfl, rfl⟩ := hx
  refine ⟨ts.take len0, steps_st hl9 hz9 hcell hw, fun W' sp hb hsp => ⟨3, ?_⟩⟩
  have t0 := steps_mk (enc := enc) (w := W') (spare := sp) (held := true) 0 hl9 hm hz9 (fun hp => hsp (MemPlace.cell a.block (a.off + 0)) (MemPlace.mem_row.2 ⟨0, by omega, rfl⟩)) (fun i hi => by
   have h6 := hcell i hi
   have hlt : a.block < W.heap.size := by
    obtain ⟨_, _, hc⟩ := World.cells?_some h6
    have h7 := hc 0 (by omega)
    have h8 := cell_lt (show W.cell? ((a.add (i * 2)).add 0) = some _ from h7)
    rw [block_add, block_add] at h8
    exact h8
   rw [cells_belowS hb (by rw [block_add]; exact hlt)]
   exact h6) hw
  simpa [Value.cells] using t0
end Go.Proofs.Ytnlhjcfpfapafaa
