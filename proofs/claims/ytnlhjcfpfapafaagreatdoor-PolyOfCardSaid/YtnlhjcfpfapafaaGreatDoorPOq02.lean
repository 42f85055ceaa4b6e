/- Contracts. -/
import Derived.Test.YtnlhjcfpfapafaaGreatDoorPOq01
import Derived.Laws.Rows
import Derived.Laws.Cells
import Derived.Laws.CopyRow
namespace Go.Proofs.YtnlhjcfpfapafaaGreatDoor
open Go
namespace Ev
structure Ren where
 blk : Nat → Option Nat
 val : Nat → Option Value
 len : Nat → Nat
structure Ren.le (r s : Ren) : Prop where
 blk : ∀ n b, r.blk n = some b → s.blk n = some b
 val : ∀ n v, r.val n = some v → s.val n = some v
 len : ∀ n b, r.blk n = some b → s.len n = r.len n
theorem Ren.le.refl (r : Ren) : r.le r := ⟨fun _ _ h => h, fun _ _ h => h, fun _ _ _ => rfl⟩
theorem Ren.le.trans {r s t : Ren} (h : r.le s) (i : s.le t) : r.le t := ⟨fun n b e => i.blk n b (h.blk n b e), fun n b e => i.val n b (h.val n b e), fun n b e => (i.len n b (h.blk n b e)).trans (h.len n b e)⟩
mutual
inductive VR (r : Ren) : Value → Value → Prop
 | same {v : Value} (h : plain v = true) : VR r v v
 | ptr {n off : Nat} {spot : Option Nat} {b : Nat} (h : r.blk n = some b) : VR r (.pointer (some ⟨n, off, spot⟩)) (.pointer (some ⟨b, off, spot⟩))
 | slice {n off : Nat} {spot : Option Nat} {b l c : Nat} (h : r.blk n = some b) (hc : c < ZH) : VR r (.slice (some ⟨n, off, spot⟩) l c) (.slice (some ⟨b, off, spot⟩) l c)
 | slicex {n off b l s c c' : Nat} (h : r.blk n = some b) (hc : c < ZH) (h1 : c ≤ c') (h2 : off + c' * s ≤ r.len n) : VR r (.slice (some ⟨n, off, none⟩) l (ZH * (s + 1) + c)) (.slice (some ⟨b, off, none⟩) l c')
 | opq {n : Nat} {v : Value} (h : r.val n = some v) (ho : ZR v = true) : VR r (.chan (some n)) v
 | any {n : Nat} {v : Value} (h : r.val n = some v) : VR r (.map (some n)) v
 | func {fn : Fn} {a b a' b' : List Value} (ha : VsR r a a') (hb : VsR r b b') : VR r (.func fn ⟨a⟩ ⟨b⟩) (.func fn ⟨a'⟩ ⟨b'⟩)
 | iface {t : TypeId} {v v' : Value} (h : VR r v v') : VR r (.iface t v) (.iface t v')
 | agg {a a' : List Value} (h : VsR r a a') : VR r (.agg ⟨a⟩) (.agg ⟨a'⟩)
 | tuple {a a' : List Value} (h : VsR r a a') : VR r (.tuple ⟨a⟩) (.tuple ⟨a'⟩)
inductive VsR (r : Ren) : List Value → List Value → Prop
 | nil : VsR r [] []
 | cons {v v' : Value} {l l' : List Value} (h : VR r v v') (hl : VsR r l l') : VsR r (v :: l) (v' :: l')
end
mutual
theorem VR.mono {r s : Ren} (h : r.le s) : ∀ {v v' : Value}, VR r v v' → VR s v v'
 | _, _, .same p => .same p
 | _, _, .ptr p => .ptr (h.blk _ _ p)
 | _, _, .slice p hc => .slice (h.blk _ _ p) hc
 | _, _, .slicex p hc h1 h2 => .slicex (h.blk _ _ p) hc h1 (by rw [h.len _ _ p]; exact h2)
 | _, _, .opq p o => .opq (h.val _ _ p) o
 | _, _, .any p => .any (h.val _ _ p)
 | _, _, .func a b => .func (VsR.mono h a) (VsR.mono h b)
 | _, _, .iface p => .iface (VR.mono h p)
 | _, _, .agg a => .agg (VsR.mono h a)
 | _, _, .tuple a => .tuple (VsR.mono h a)
theorem VsR.mono {r s : Ren} (h : r.le s) : ∀ {v v' : List Value}, VsR r v v' → VsR s v v'
 | _, _, .nil => .nil
 | _, _, .cons a b => .cons (VR.mono h a) (VsR.mono h b)
end
section
variable {r : Ren}
theorem VsR.length : ∀ {l l' : List Value}, VsR r l l' → l'.length = l.length
 | _, _, .nil => rfl
 | _, _, .cons _ h => by simp [VsR.length h]
theorem VsR.get : ∀ {l l' : List Value}, VsR r l l' → ∀ {i : Nat} {v : Value}, l[i]? = some v → ∃ v', l'[i]? = some v' ∧ VR r v v'
 | _, _, .nil, i, v, h => by simp at h
 | _, _, .cons a b, 0, v, h => by
  simp only [List.getElem?_cons_zero, Option.some.injEq] at h
  subst h; exact ⟨_, rfl, a⟩
 | _, _, .cons a b, i + 1, v, h => by
  simp only [List.getElem?_cons_succ] at h ⊢
  exact VsR.get b h
theorem VsR.append {l l' m m' : List Value} (h : VsR r l l') (i : VsR r m m') : VsR r (l ++ m) (l' ++ m') :=
 match h with
 | .nil => i
 | .cons a b => .cons a (VsR.append b i)
theorem VsR.take : ∀ {l l' : List Value}, VsR r l l' → ∀ n, VsR r (l.take n) (l'.take n)
 | _, _, _, 0 => by simpa using VsR.nil
 | _, _, .nil, _ + 1 => by simpa using VsR.nil
 | _, _, .cons a b, n + 1 => by simpa using VsR.cons a (VsR.take b n)
theorem VsR.drop : ∀ {l l' : List Value}, VsR r l l' → ∀ n, VsR r (l.drop n) (l'.drop n)
 | _, _, h, 0 => by simpa using h
 | _, _, .nil, _ + 1 => by simpa using VsR.nil
 | _, _, .cons a b, n + 1 => by simpa using VsR.drop b n
theorem VsR.same : ∀ {l : List Value}, ZV plain l = true → VsR r l l
 | [], _ => .nil
 | v :: l, h => by
  simp only [ZV, Bool.and_eq_true] at h
  exact .cons (.same h.1) (VsR.same h.2)
theorem VR.same2 {v : Value} (h : Zx v = true) : VR r v v := by
 cases v with
 | agg cs => cases cs; exact .agg (VsR.same (by simpa [Zx] using h))
 | tuple cs => cases cs; exact .tuple (VsR.same (by simpa [Zx] using h))
 | _ => exact .same (by simpa [Zx] using h)
mutual
theorem VR.eq_of_plain : ∀ {v v' : Value}, VR r v v' → plain v = true → v' = v
 | _, _, .same _, _ => rfl
 | _, _, .ptr _, h => by simp [plain] at h
 | _, _, .slice _ _, h => by simp [plain] at h
 | _, _, .slicex _ _ _ _, h => by simp [plain] at h
 | _, _, .opq _ _, h => by simp [plain] at h
 | _, _, .any _, h => by simp [plain] at h
 | _, _, .func (a := []) (b := []) ha hb, _ => by cases ha; cases hb; rfl
 | _, _, .func (a := _ :: _) _ _, h => by simp [plain] at h
 | _, _, .func (a := []) (b := _ :: _) _ _, h => by simp [plain] at h
 | _, _, .iface p, h => by rw [VR.eq_of_plain p (by simpa [plain] using h)]
 | _, _, .agg _, h => by simp [plain] at h
 | _, _, .tuple _, h => by simp [plain] at h
theorem VsR.eq_of_plain : ∀ {l l' : List Value}, VsR r l l' → ZV plain l = true → l' = l
 | _, _, .nil, _ => rfl
 | _, _, .cons a b, h => by
  simp only [ZV, Bool.and_eq_true] at h
  rw [VR.eq_of_plain a h.1, VsR.eq_of_plain b h.2]
end
theorem VR.eq_of_plain2 {v v' : Value} (h : VR r v v') (hp : Zx v = true) : v' = v := by
 cases h with
 | agg a => rw [VsR.eq_of_plain a (by simpa [Zx] using hp)]
 | tuple a => rw [VsR.eq_of_plain a (by simpa [Zx] using hp)]
 | same p => rfl
 | ptr p => exact VR.eq_of_plain (.ptr p) hp
 | slice p hc => exact VR.eq_of_plain (.slice p hc) hp
 | slicex p hc h1 h2 => exact VR.eq_of_plain (.slicex p hc h1 h2) hp
 | opq p o => exact VR.eq_of_plain (.opq p o) hp
 | any p => exact VR.eq_of_plain (.any p) hp
 | func a b => exact VR.eq_of_plain (.func a b) hp
 | iface p => exact VR.eq_of_plain (.iface p) hp
theorem Ja {v : Value} (h : ZR v = true) : v.oneCell' = true := by cases v <;> first | rfl | (simp [ZR] at h; done)
theorem VR.cellsOf {v v' : Value} (h : VR r v v') (hj : Wl v = false) : VsR r (cellsOf v) v'.cells.toList := by
 cases h with
 | same p => cases v <;> first | (simp [plain] at p; done) | exact .cons (.same p) .nil
 | ptr p => exact .cons (.ptr p) .nil
 | slice p hc => exact .cons (.slice p hc) .nil
 | slicex p hc h1 h2 => exact .cons (.slicex p hc h1 h2) .nil
 | opq p o => cases v' <;> first | (simp [ZR] at o; done) | exact .cons (.opq p o) .nil
 | any p => simp [Wl] at hj
 | func a b => exact .cons (.func a b) .nil
 | iface p => exact .cons (.iface p) .nil
 | agg a => exact a
 | tuple a => exact .cons (.tuple a) .nil
theorem VR.one {v v' : Value} (h : VR r v v') (ho : ZR v = true) : ZR v' = true := by
 cases h with
 | opq p o => exact o
 | any p => simp [ZR] at ho
 | same p => exact ho
 | agg a => simp [ZR] at ho
 | tuple a => simp [ZR] at ho
 | _ => rfl
theorem VsR.ones : ∀ {l l' : List Value}, VsR r l l' → ZV ZR l = true → ∀ v ∈ l', v.oneCell' = true
 | _, _, .nil, _ => by simp
 | _, _, .cons a b, h => by
  simp only [ZV, Bool.and_eq_true] at h
  intro v hv
  rcases List.mem_cons.1 hv with rfl | hv
  ·exact Ja (a.one h.1)
  ·exact VsR.ones b h.2 v hv
end
def XY : Value → Option Nat
 | .slice (some a) _ _ => some a.block
 | .pointer (some a) => some a.block
 | _ => none
structure Sig (F : Type) where
 holds : F → World → Value → Prop
 hid : Nat → TypeId → Bool
 hn : Nat → TypeId → Bool
 lo : Nat
 new : ∀ n b t, lo ≤ b → hn n t = false → hid b t = false
 G : Nat
 base : World → Prop
 baseS : ∀ w w', base w → (∀ (b : Nat) (o : Obj), b < G → w.heap[b]? = some o → w'.heap[b]? = some o) → base w'
 ow : F → World → Value → Prop := fun _ _ _ => False
 at_ : F → Nat → Prop := fun _ _ => False
 owS : ∀ f w w' v, ow f w v → (∀ (b : Nat) (c : Array Value) (t : TypeId) (z : Nat × Nat), w.heap[b]? = some (.cells c t z) → hid b t = true ∨ XY v = some b → w'.heap[b]? = some (.cells c t z)) → ow f w' v := by exact fun _ _ _ _ h _ => False.elim h
 stable : ∀ f w w' v, holds f w v → (∀ (b : Nat) (c : Array Value) (t : TypeId) (z : Nat × Nat), w.heap[b]? = some (.cells c t z) → hid b t = true → w'.heap[b]? = some (.cells c t z)) → holds f w' v
section
variable {F : Type} (S : Sig F)
def KD (L L' : Loop) : Prop := L' = L ∨ (L.state = .ready ∧ ∃ c, L' = { L with state := .done, pending := some c })
theorem KD.trans {L L1 L2 : Loop} (h : KD L L1) (i : KD L1 L2) : KD L L2 := by
 rcases h with rfl | ⟨h, c, rfl⟩
 ·exact i
 ·rcases i with rfl | ⟨i, _⟩
  ·exact .inr ⟨h, c, rfl⟩
  ·cases i
structure Loops (w w' : World) : Prop where
 lp : ∀ (b : Nat) (L : Loop), w.heap[b]? = some (.loop L) → ∃ L', w'.heap[b]? = some (.loop L') ∧ KD L L'
 sh : ∀ (b : Nat) (c : Array Value) (t : TypeId) (z : Nat × Nat), w.heap[b]? = some (.cells c t z) → ∃ c2 : Array Value, w'.heap[b]? = some (.cells c2 t z) ∧ c2.size = c.size
theorem Loops.refl (w : World) : Loops w w := ⟨fun _ L h => ⟨L, h, .inl rfl⟩, fun _ c _ _ h => ⟨c, h, rfl⟩⟩
theorem Loops.trans {w w1 w2 : World} (h : Loops w w1) (i : Loops w1 w2) : Loops w w2 := ⟨fun b L hb => by
 obtain ⟨L1, h1, s1⟩ := h.lp b L hb
 obtain ⟨L2, h2, s2⟩ := i.lp b L1 h1
 exact ⟨L2, h2, s1.trans s2⟩, fun b c t z hb => by
 obtain ⟨c1, h1, s1⟩ := h.sh b c t z hb
 obtain ⟨c2, h2, s2⟩ := i.sh b c1 t z h1
 exact ⟨c2, h2, s2.trans s1⟩⟩
theorem Loops.of {w w' : World} (h : ∀ (b : Nat) (o : Obj), w.heap[b]? = some o → w'.heap[b]? = some o) : Loops w w' := ⟨fun b L hb => ⟨L, h b _ hb, .inl rfl⟩, fun b c t z hb => ⟨c, h b _ hb, rfl⟩⟩
def Lst.state : Lst → LoopState
 | .live => .ready
 | .busy => .busy
 | .ret => .done
 | .exit _ => .done
def Lst.pend : Lst → Option Code
 | .live => none
 | .busy => none
 | .ret => some .ret
 | .exit i => some (.exit i)
def Yx (g : Nat → Option (Blk F)) (n : Nat) : Prop := (∀ c t, g n ≠ some (.cells c t)) ∧ (∀ c t, g n = some (.room c t) → c = []) ∧ (∀ s, g n ≠ some (.lp s)) ∧ ∀ f, g n ≠ some (.ow f)
def Zjz (r : Ren) (g : Nat → Option (Blk F)) (w : World) : Prop := ∀ n s, g n = some (.lp s) → ∃ b L, r.blk n = some b ∧ r.val n = some (.func (.yield b) #[] #[]) ∧ w.heap[b]? = some (.loop L) ∧ L.state = s.state ∧ L.pending = s.pend
theorem Zjz.mono {r r' : Ren} {g g' : Nat → Option (Blk F)} {w w' : World} (h : Zjz r g w) (hr : r.le r') (hg : ∀ n s, g' n = some (.lp s) → g n = some (.lp s)) (hw : ∀ (b : Nat) (L : Loop), w.heap[b]? = some (.loop L) → w'.heap[b]? = some (.loop L)) : Zjz r' g' w' := fun n s hn => by
 obtain ⟨b, L, h1, h2, h3, h4⟩ := h n s (hg n s hn)
 exact ⟨b, L, hr.blk _ _ h1, hr.val _ _ h2, hw b L h3, h4⟩
def ZcN (r : Ren) (g : Nat → Option (Blk F)) (w : World) : Prop := ∀ n f, g n = some (.ow f) → ∃ v, r.val n = some v ∧ S.ow f w v ∧ ZR v = true ∧ ∀ b, XY v = some b → r.blk n = some b ∧ S.G ≤ b ∧ ∃ c t z, w.heap[b]? = some (.cells c t z) ∧ S.hid b t = false
def ZjA (r : Ren) (g : Nat → Option (Blk F)) : Prop := ∀ n m x, g n = some (.ad m x) → ∃ b off, r.blk m = some b ∧ r.val n = some (.pointer (some ⟨b, off, none⟩)) ∧ S.at_ x off
variable {S} in
theorem ZcN.mono {r r' : Ren} {g g' : Nat → Option (Blk F)} {w w' : World} (h : ZcN S r g w) (hr : r.le r') (hg : ∀ n f, g' n = some (.ow f) → g n = some (.ow f))
  (hw : ∀ (b : Nat) (c : Array Value) (t : TypeId) (z : Nat × Nat), w.heap[b]? = some (.cells c t z) → S.hid b t = true ∨ (∃ n f, g' n = some (.ow f) ∧ r.blk n = some b) → w'.heap[b]? = some (.cells c t z)) : ZcN S r' g' w' := fun n f hn => by
 obtain ⟨v, h1, h2, h3, h4⟩ := h n f (hg n f hn)
 refine ⟨v, hr.val _ _ h1, S.owS f w w' v h2 fun b c t z hb hq => hw b c t z hb (hq.imp id fun q => ⟨n, f, hn, (h4 b q).1⟩), h3, fun b hb => ?_⟩
 obtain ⟨h5, hG, c, t, z, h6, h7⟩ := h4 b hb
 exact ⟨hr.blk _ _ h5, hG, c, t, z, hw b c t z h6 (.inr ⟨n, f, hn, h5⟩), h7⟩
variable {S} in
theorem ZcN.all {r r' : Ren} {g g' : Nat → Option (Blk F)} {w w' : World} (h : ZcN S r g w) (hr : r.le r') (hg : ∀ n f, g' n = some (.ow f) → g n = some (.ow f)) (hw : ∀ (b : Nat) (o : Obj), w.heap[b]? = some o → w'.heap[b]? = some o) : ZcN S r' g' w' :=
 h.mono hr hg fun b _ _ _ hb _ => hw b _ hb
variable {S} in
theorem ZjA.mono {r r' : Ren} {g g' : Nat → Option (Blk F)} (h : ZjA S r g) (hr : r.le r') (hg : ∀ n m x, g' n = some (.ad m x) → g n = some (.ad m x)) : ZjA S r' g' := fun n m x hn => by
 obtain ⟨b, off, h1, h2, h3⟩ := h n m x (hg n m x hn)
 exact ⟨b, off, hr.blk _ _ h1, hr.val _ _ h2, h3⟩
structure Mod (r : Ren) (g : Nat → Option (Blk F)) (w : World) : Prop where
 inj : ∀ n m b, r.blk n = some b → r.blk m = some b → n = m ∨ Yx g n ∨ Yx g m
 lt : ∀ n b, r.blk n = some b → b < w.heap.size
 cells : ∀ n c t, g n = some (.cells c t) → ∃ b c', r.blk n = some b ∧ w.heap[b]? = some (.cells ⟨c'⟩ t (0, 0)) ∧ VsR r c c' ∧ (S.hn n t = false → S.hid b t = false)
 fact : ∀ n f, g n = some (.fact f) → ∃ v, r.val n = some v ∧ S.holds f w v ∧ ZR v = true
 base : S.base w
 glob : ∀ n, n < S.G → r.blk n = some n
 own : ∀ n b, r.blk n = some b → S.G ≤ n → S.G ≤ b
 room : ∀ n c t, g n = some (.room c t) → ∃ b c', r.blk n = some b ∧ w.heap[b]? = some (.cells ⟨c'⟩ t (0, 0)) ∧ VsR r c (c'.take c.length) ∧ (S.hn n t = false → S.hid b t = false) ∧ r.len n ≤ c'.length
 sz : S.lo ≤ w.heap.size
 lp : Zjz r g w
 ow : ZcN S r g w
 ad : ZjA S r g
def New (r : Ren) (lo hi : Nat) : Prop := ∀ n, lo ≤ n → n < hi → r.blk n = none ∧ r.val n = none
structure Ext (r : Ren) (w : World) (lo hi : Nat) (W : List Nat) (g' : Nat → Option (Blk F)) (r' : Ren) (w' : World) : Prop where
 le : r.le r'
 mod : Mod S r' g' w'
 dom : ∀ n, r'.blk n ≠ none ∨ r'.val n ≠ none → (r.blk n ≠ none ∨ r.val n ≠ none) ∨ (lo ≤ n ∧ n < hi)
 new : ∀ n b, r'.blk n = some b → r.blk n = some b ∨ w.heap.size ≤ b ∨ ∃ k ∈ W, r.blk k = some b
 keep : ∀ (b : Nat) (o : Obj), w.heap[b]? = some o → (∀ n ∈ W, r.blk n ≠ some b) → w'.heap[b]? = some o
 size : w.heap.size ≤ w'.heap.size
 os : w'.os = w.os
 tape : w'.tape = w.tape
 output : w'.output = w.output
 loops : Loops w w'
variable {S}
theorem Yx.congr {g g' : Nat → Option (Blk F)} {n : Nat} (e : ∀ n, g' n = none ∨ g' n = g n) (h : Yx g n) : Yx g' n := by
 rcases e n with e | e
 ·exact ⟨fun c t k => (by rw [e] at k; cases k), fun c t k => (by rw [e] at k; cases k), ⟨fun s k => (by rw [e] at k; cases k), fun f k => (by rw [e] at k; cases k)⟩⟩
 ·exact ⟨fun c t k => h.1 c t (e ▸ k), fun c t k => h.2.1 c t (e ▸ k), ⟨fun s k => h.2.2.1 s (e ▸ k), fun f k => h.2.2.2 f (e ▸ k)⟩⟩
theorem Yx.over_fact {g : Nat → Option (Blk F)} {n : Nat} (nx : Nat) (f : F) (h : Yx g n) : Yx (fun n => if n = nx then some (.fact f) else g n) n := by
 by_cases e : n = nx
 ·exact ⟨fun c t => by simp [e], fun c t q => by simp [e] at q, ⟨fun s => by simp [e], fun f => by simp [e]⟩⟩
 ·exact ⟨fun c t => by simpa only [if_neg e] using h.1 c t, fun c t => by simpa only [if_neg e] using h.2.1 c t, ⟨fun s => by simpa only [if_neg e] using h.2.2.1 s, fun f => by simpa only [if_neg e] using h.2.2.2 f⟩⟩
theorem Mod.congr {r : Ren} {g g' : Nat → Option (Blk F)} {w : World} (h : Mod S r g w) (e : ∀ n, g' n = none ∨ g' n = g n) : Mod S r g' w :=
 ⟨fun n m b h1 h2 => (h.inj n m b h1 h2).imp id (Or.imp (Yx.congr e) (Yx.congr e)), h.lt, fun n c t hn => h.cells n c t (by rcases e n with e | e <;> rw [e] at hn <;> first | (cases hn; done) | exact hn), fun n f hn => h.fact n f (by rcases e n with e | e <;> rw [e] at hn <;> first | (cases hn; done) | exact hn), h.base, h.glob, h.own, fun n c t hn => h.room n c t (by rcases e n with e | e <;> rw [e] at hn <;> first | (cases hn; done) | exact hn), h.sz, h.lp.mono (.refl r) (fun n s hn => by rcases e n with e | e <;> rw [e] at hn <;> first | (cases hn; done) | exact hn) fun _ _ q => q, h.ow.all (.refl r) (fun n s hn => by rcases e n with e | e <;> rw [e] at hn <;> first | (cases hn; done) | exact hn) fun _ _ q => q, h.ad.mono (.refl r) fun n m x hn => by rcases e n with e | e <;> rw [e] at hn <;> first | (cases hn; done) | exact hn⟩
theorem Ext.refl {r : Ren} {w : World} {g : Nat → Option (Blk F)} (lo hi : Nat) (h : Mod S r g w) : Ext S r w lo hi [] g r w :=
 ⟨.refl r, h, fun _ h => .inl h, fun _ _ h => .inl h, fun _ _ h _ => h, Nat.le_refl _, rfl, rfl, rfl, .refl w⟩
theorem Ext.congr {r r' : Ren} {w w' : World} {lo hi : Nat} {W : List Nat} {g g' : Nat → Option (Blk F)} (h : Ext S r w lo hi W g r' w') (e : ∀ n, g' n = none ∨ g' n = g n) : Ext S r w lo hi W g' r' w' :=
 { h with mod := h.mod.congr e }
theorem Ext.trans {r r1 r2 : Ren} {w w1 w2 : World} {lo mid hi : Nat} {W W2 : List Nat} {g1 g2 : Nat → Option (Blk F)} (h : Ext S r w lo mid W g1 r1 w1) (i : Ext S r1 w1 mid hi W2 g2 r2 w2) (l1 : lo ≤ mid) (l2 : mid ≤ hi) : Ext S r w lo hi (W ++ W2) g2 r2 w2 := by
 refine ⟨h.le.trans i.le, i.mod, fun n hn => ?_, fun n b hn => ?_, fun b o hb hw => ?_, Nat.le_trans h.size i.size, i.os.trans h.os, i.tape.trans h.tape, i.output.trans h.output, h.loops.trans i.loops⟩
 ·rcases i.dom n hn with a | ⟨a, b⟩
  ·rcases h.dom n a with a | ⟨a, b⟩
   ·exact .inl a
   ·exact .inr ⟨a, by omega⟩
  ·exact .inr ⟨by omega, b⟩
 ·rcases i.new n b hn with a | a | ⟨k, hk, a⟩
  ·exact (h.new n b a).imp id (Or.imp id fun ⟨k, hk, q⟩ => ⟨k, List.mem_append_left _ hk, q⟩)
  ·exact .inr (.inl (Nat.le_trans h.size a))
  ·rcases h.new k b a with a | a | ⟨j, hj, a⟩
   ·exact .inr (.inr ⟨k, List.mem_append_right _ hk, a⟩)
   ·exact .inr (.inl a)
   ·exact .inr (.inr ⟨j, List.mem_append_left _ hj, a⟩)
 ·refine i.keep b o (h.keep b o hb fun n hn => hw n (List.mem_append_left _ hn)) fun n hn e => ?_
  rcases h.new n b e with a | a | ⟨k, hk, a⟩
  ·exact hw n (List.mem_append_right _ hn) a
  ·have := (Array.getElem?_eq_some_iff.1 hb).1
   omega
  ·exact hw k (List.mem_append_left _ hk) a
theorem New.after {r r1 : Ren} {w w1 : World} {lo mid hi : Nat} {W : List Nat} {g1 : Nat → Option (Blk F)} (hn : New r lo hi) (h : Ext S r w lo mid W g1 r1 w1) (l1 : lo ≤ mid) : New r1 mid hi := by
 intro n a b
 have h0 := hn n (by omega) b
 constructor
 ·cases e : r1.blk n with
  | none => rfl
  | some x =>
   rcases h.dom n (.inl (by rw [e]; simp)) with c | c
   ·rcases c with c | c
    ·exact absurd h0.1 c
    ·exact absurd h0.2 c
   ·omega
 ·cases e : r1.val n with
  | none => rfl
  | some x =>
   rcases h.dom n (.inr (by rw [e]; simp)) with c | c
   ·rcases c with c | c
    ·exact absurd h0.1 c
    ·exact absurd h0.2 c
   ·omega
theorem New.sub {r : Ren} {lo hi lo' hi' : Nat} (h : New r lo hi) (a : lo ≤ lo') (b : hi' ≤ hi) : New r lo' hi' := fun n x y => h n (by omega) (by omega)
theorem Ext.below {r r' : Ren} {w w' : World} {lo hi : Nat} {W : List Nat} {g : Nat → Option (Blk F)} (h : Ext S r w lo hi W g r' w') (hN : New r lo hi) (hW : ∀ n ∈ W, n < hi) : Ext S r w lo hi (below lo W) g r' w' :=
 ⟨h.le, h.mod, h.dom, fun n b hn => (h.new n b hn).imp id (Or.imp id fun ⟨k, hk, e⟩ => ⟨k, ZF.2 ⟨(by
   rcases Nat.lt_or_ge k lo with hl | hl
   ·exact hl
   ·have := (hN k hl (hW k hk)).1
    rw [this] at e; cases e), hk⟩, e⟩), fun b o hb hw => h.keep b o hb fun n hn e => (by
   rcases Nat.lt_or_ge n lo with hl | hl
   ·exact hw n (ZF.2 ⟨hl, hn⟩) e
   ·have := (hN n hl (hW n hn)).1
    rw [this] at e; cases e), h.size, h.os, h.tape, h.output, h.loops⟩
theorem Mod.fits {r : Ren} {g : Nat → Option (Blk F)} {w : World} (h : Mod S r g w) : S.G ≤ w.heap.size := by
 rcases Nat.eq_zero_or_pos S.G with e | e
 ·omega
 ·have := h.lt _ _ (h.glob (S.G - 1) (by omega)); omega
theorem VE {w w0 : World} (e : w0.heap = w.heap) (o1 : Obj) (b : Nat) (o : Obj) (hb : w.heap[b]? = some o) : (w0.alloc o1).heap[b]? = some o := by
 have hlt := (Array.getElem?_eq_some_iff.1 hb).1
 show (w0.heap.push _)[b]? = _
 rw [e, Array.getElem?_push_lt hlt, ← hb, Array.getElem?_eq_getElem hlt]
theorem ZjB {r : Ren} {w w0 : World} {g : Nat → Option (Blk F)} {nx : Nat} {x : Blk F} {c' : List Value} {t : TypeId} (hM : Mod S r g w) (hN : New r nx (nx + 1)) (e0 : w0.heap = w.heap) (e1 : w0.os = w.os) (e2 : w0.tape = w.tape) (e3 : w0.output = w.output)
  (hx : (∃ c, x = .cells c t ∧ VsR r c c') ∨ ∃ c, x = .room c t ∧ VsR r c (c'.take c.length)) :
  ∃ r', Ext S r w nx (nx + 1) [] (fun n => if n = nx then some x else g n) r' (w0.alloc (.cells ⟨c'⟩ t)) ∧ r'.blk nx = some w.heap.size ∧ r'.len nx = c'.length := by
 have hno := hN nx (Nat.le_refl _) (Nat.lt_succ_self _)
 have hle : r.le ⟨fun n => if n = nx then some w.heap.size else r.blk n, r.val, fun n => if n = nx then c'.length else r.len n⟩ := by
  refine ⟨fun n b e => ?_, fun _ _ e => e, fun n b e => ?_⟩
  ·have : n ≠ nx := fun h => by rw [h, hno.1] at e; cases e
   simp only [if_neg this, e]
  ·have : n ≠ nx := fun h => by rw [h, hno.1] at e; cases e
   simp only [if_neg this]
 have hkeep := VE (w := w) e0 (.cells ⟨c'⟩ t)
 have hnew : (w0.alloc (.cells ⟨c'⟩ t)).heap[w.heap.size]? = some (.cells ⟨c'⟩ t (0, 0)) := by show (w0.heap.push _)[w.heap.size]? = _; rw [e0]; simp
 refine ⟨⟨fun n => if n = nx then some w.heap.size else r.blk n, r.val, fun n => if n = nx then c'.length else r.len n⟩, ⟨hle, ⟨?_, ?_, ?_, ?_, S.baseS _ _ hM.base fun b o _ hb => hkeep b o hb, fun n hn => hle.blk _ _ (hM.glob n hn), ?_, ?_, ?_, hM.lp.mono hle (fun n s hn => by
  by_cases h : n = nx
  ·simp only [if_pos h, Option.some.injEq] at hn
   rcases hx with ⟨c, rfl, _⟩ | ⟨c, rfl, _⟩ <;> cases hn
  ·simpa only [if_neg h] using hn) fun b L hb => hkeep b _ hb, hM.ow.all hle (fun n s hn => by
  by_cases h : n = nx
  ·simp only [if_pos h, Option.some.injEq] at hn
   rcases hx with ⟨c, rfl, _⟩ | ⟨c, rfl, _⟩ <;> cases hn
  ·simpa only [if_neg h] using hn) hkeep, hM.ad.mono hle fun n m x hn => by
  by_cases h : n = nx
  ·simp only [if_pos h, Option.some.injEq] at hn
   rcases hx with ⟨c, rfl, _⟩ | ⟨c, rfl, _⟩ <;> cases hn
  ·simpa only [if_neg h] using hn⟩, ?_, ?_, fun b o hb _ => hkeep b o hb, ?_, e1, e2, e3, .of hkeep⟩, by simp, by simp⟩
 ·intro n m b hn hm
  simp only at hn hm
  split at hn <;> split at hm
  ·exact .inl (by omega)
  ·have := hM.lt m b hm
   simp only [Option.some.injEq] at hn; omega
  ·have := hM.lt n b hn
   simp only [Option.some.injEq] at hm; omega
  ·rename_i h1 h2
   refine (hM.inj n m b hn hm).imp id (Or.imp (fun k => ?_) (fun k => ?_))
   ·exact ⟨fun c t => by simpa only [if_neg h1] using k.1 c t, fun c t => by simpa only [if_neg h1] using k.2.1 c t, ⟨fun s => by simpa only [if_neg h1] using k.2.2.1 s, fun f => by simpa only [if_neg h1] using k.2.2.2 f⟩⟩
   ·exact ⟨fun c t => by simpa only [if_neg h2] using k.1 c t, fun c t => by simpa only [if_neg h2] using k.2.1 c t, ⟨fun s => by simpa only [if_neg h2] using k.2.2.1 s, fun f => by simpa only [if_neg h2] using k.2.2.2 f⟩⟩
 ·intro n b hn
  have hs : (w0.alloc (.cells ⟨c'⟩ t)).heap.size = w.heap.size + 1 := by show (w0.heap.push _).size = _; rw [e0]; simp
  rw [hs]
  simp only at hn
  split at hn
  ·simp only [Option.some.injEq] at hn; omega
  ·have := hM.lt n b hn; omega
 ·intro n d u hn
  by_cases h : n = nx
  ·simp only [if_pos h, Option.some.injEq] at hn
   rcases hx with ⟨c, rfl, hc⟩ | ⟨c, rfl, hc⟩
   ·cases hn
    exact ⟨w.heap.size, c', by simp [h], hnew, hc.mono hle, S.new _ _ _ hM.sz⟩
   ·cases hn
  ·simp only [if_neg h] at hn
   obtain ⟨b, d', h1, h2, h3, h4⟩ := hM.cells n d u hn
   exact ⟨b, d', by simp only [if_neg h, h1], hkeep b _ h2, h3.mono hle, h4⟩
 ·intro n f hn
  by_cases h : n = nx
  ·simp only [if_pos h, Option.some.injEq] at hn
   rcases hx with ⟨c, rfl, hc⟩ | ⟨c, rfl, hc⟩ <;> cases hn
  ·simp only [if_neg h] at hn
   obtain ⟨v, h1, h2, h3⟩ := hM.fact n f hn
   exact ⟨v, h1, S.stable f w _ v h2 fun b c t z hb _ => hkeep b _ hb, h3⟩
 ·intro n b hn hG
  simp only at hn
  split at hn
  ·simp only [Option.some.injEq] at hn; have := hM.fits; omega
  ·exact hM.own n b hn hG
 ·intro n d u hn
  by_cases h : n = nx
  ·simp only [if_pos h, Option.some.injEq] at hn
   rcases hx with ⟨c, rfl, hc⟩ | ⟨c, rfl, hc⟩
   ·cases hn
   ·cases hn
    exact ⟨w.heap.size, c', by simp [h], hnew, hc.mono hle, S.new _ _ _ hM.sz, by simp [h]⟩
  ·simp only [if_neg h] at hn
   obtain ⟨b, d', h1, h2, h3, h4, h5⟩ := hM.room n d u hn
   exact ⟨b, d', by simp only [if_neg h, h1], hkeep b _ h2, h3.mono hle, h4, by simp only [if_neg h]; exact h5⟩
 ·show S.lo ≤ (w0.heap.push _).size
  have := hM.sz
  rw [e0]; simp; omega
 ·intro n hn
  by_cases h : n = nx
  ·exact .inr ⟨by omega, by omega⟩
  ·simp only [if_neg h] at hn
   exact .inl hn
 ·intro n b hn
  simp only at hn
  split at hn
  ·simp only [Option.some.injEq] at hn; exact .inr (.inl (by omega))
  ·exact .inl hn
 ·show w.heap.size ≤ (w0.heap.push _).size
  rw [e0]; simp
theorem Vd {r : Ren} {w : World} {g : Nat → Option (Blk F)} {nx : Nat} {c c' : List Value} {t : TypeId} (hM : Mod S r g w) (hN : New r nx (nx + 1)) (hc : VsR r c c') :
  ∃ r', Ext S r w nx (nx + 1) [] (fun n => if n = nx then some (.cells c t) else g n) r' (w.alloc (.cells ⟨c'⟩ t)) ∧ r'.blk nx = some w.heap.size := by
 obtain ⟨r', h1, h2, _⟩ := ZjB (x := .cells c t) hM hN rfl rfl rfl rfl (.inl ⟨c, rfl, hc⟩)
 exact ⟨r', h1, h2⟩
theorem Zeg {r : Ren} {w : World} {g : Nat → Option (Blk F)} {nx m : Nat} {x y : Blk F} {c c' d d' : List Value} {t : TypeId} {b : Nat} (hM : Mod S r g w) (hg : g m = some x) (hb : r.blk m = some b)
  (hx : (x = .cells c t ∧ y = .cells d t ∧ VsR r d d') ∨ (x = .room c t ∧ y = .room d t ∧ VsR r d (d'.take d.length)))
  (hc : c ≠ []) (hh : w.heap[b]? = some (.cells ⟨c'⟩ t (0, 0))) (hl : d'.length = c'.length)
  (hG : S.G ≤ m) (hn : S.hn m t = false) {w' : World} (hw : w'.heap = w.heap.setIfInBounds b (.cells ⟨d'⟩ t (0, 0))) (e1 : w'.os = w.os) (e2 : w'.tape = w.tape) (e3 : w'.output = w.output) :
  Ext S r w nx nx [m] (fun n => if n = m then some y else g n) r w' := by
 have ht : S.hid b t = false := by
  rcases hx with ⟨rfl, _, _⟩ | ⟨rfl, _, _⟩
  ·obtain ⟨b2, _, q1, _, _, q⟩ := hM.cells m c t hg
   rw [hb] at q1; cases q1; exact q hn
  ·obtain ⟨b2, _, q1, _, _, q, _⟩ := hM.room m c t hg
   rw [hb] at q1; cases q1; exact q hn
 have hgm : ¬ Yx g m := by
  intro q
  rcases hx with ⟨rfl, _, _⟩ | ⟨rfl, _, _⟩
  ·exact absurd hg (q.1 c t)
  ·exact hc (q.2.1 c t hg)
 have hlt := hM.lt m b hb
 have hs : w'.heap.size = w.heap.size := by rw [hw]; simp
 have hne : ∀ x, x ≠ b → w'.heap[x]? = w.heap[x]? := fun x hx => by rw [hw, Array.getElem?_setIfInBounds_ne (fun e => hx e.symm)]
 have hself : w'.heap[b]? = some (.cells ⟨d'⟩ t (0, 0)) := by rw [hw]; simp [hlt]
 have hGk : ∀ k, Yx g k → Yx (fun n => if n = m then some y else g n) k := by
  intro k hk
  have e : k ≠ m := fun e => hgm (e ▸ hk)
  exact ⟨fun c t => by simpa only [if_neg e] using hk.1 c t, fun c t => by simpa only [if_neg e] using hk.2.1 c t, ⟨fun s => by simpa only [if_neg e] using hk.2.2.1 s, fun f => by simpa only [if_neg e] using hk.2.2.2 f⟩⟩
 have hlo : ∀ (x : Nat) (L : Loop), w.heap[x]? = some (.loop L) → w'.heap[x]? = some (.loop L) := fun x L q => by
  rw [hne x (fun e => by rw [e, hh] at q; cases q)]; exact q
 refine ⟨.refl r, ⟨fun n k b h1 h2 => (hM.inj n k b h1 h2).imp id (Or.imp (hGk _) (hGk _)), fun n b hn => by rw [hs]; exact hM.lt n b hn, ?_, ?_, S.baseS w _ hM.base (fun x o hx ho => by rw [hne x (fun e => by have := hM.own m b hb hG; omega)]; exact ho), hM.glob, hM.own, ?_, by rw [hs]; exact hM.sz, hM.lp.mono (.refl r) (fun n s hn => by
  by_cases h : n = m
  ·simp only [if_pos h, Option.some.injEq] at hn
   rcases hx with ⟨_, rfl, _⟩ | ⟨_, rfl, _⟩ <;> cases hn
  ·simpa only [if_neg h] using hn) hlo, hM.ow.mono (.refl r) (fun n s hn => by
  by_cases h : n = m
  ·simp only [if_pos h, Option.some.injEq] at hn
   rcases hx with ⟨_, rfl, _⟩ | ⟨_, rfl, _⟩ <;> cases hn
  ·simpa only [if_neg h] using hn) (fun x c2 t2 z hx2 hq => by
  rw [hne x (fun e => ?_)]
  ·exact hx2
  ·subst e
   rcases hq with hid | ⟨n, f, hn, hnb⟩
   ·rw [hh] at hx2
    simp only [Option.some.injEq, Obj.cells.injEq] at hx2
    rw [← hx2.2.1, ht] at hid; cases hid
   ·by_cases h : n = m
    ·simp only [if_pos h, Option.some.injEq] at hn
     rcases hx with ⟨_, rfl, _⟩ | ⟨_, rfl, _⟩ <;> cases hn
    ·simp only [if_neg h] at hn
     rcases hM.inj n m x hnb hb with q | q | q
     ·exact h q
     ·exact q.2.2.2 f hn
     ·exact hgm q), hM.ad.mono (.refl r) fun n k x hn => by
  by_cases h : n = m
  ·simp only [if_pos h, Option.some.injEq] at hn
   rcases hx with ⟨_, rfl, _⟩ | ⟨_, rfl, _⟩ <;> cases hn
  ·simpa only [if_neg h] using hn⟩, fun _ h => .inl h, fun _ _ h => .inl h, ?_, by rw [hs]; exact Nat.le_refl _, e1, e2, e3, ⟨fun x L q => ⟨L, hlo x L q, .inl rfl⟩, fun x c2 t2 z q => by
  by_cases e : x = b
  ·subst e
   rw [hh] at q
   simp only [Option.some.injEq, Obj.cells.injEq] at q
   obtain ⟨q1, rfl, rfl⟩ := q
   exact ⟨⟨d'⟩, hself, by rw [← q1]; simpa using hl⟩
  ·exact ⟨c2, by rw [hne x e]; exact q, rfl⟩⟩⟩
 ·intro n e u hn
  by_cases h : n = m
  ·simp only [if_pos h, Option.some.injEq] at hn
   rcases hx with ⟨rfl, rfl, hd⟩ | ⟨rfl, rfl, hd⟩
   ·cases hn
    exact ⟨b, d', by rw [h]; exact hb, hself, hd, fun _ => ht⟩
   ·cases hn
  ·simp only [if_neg h] at hn
   obtain ⟨b2, d2, h1, h2, h3, h4⟩ := hM.cells n e u hn
   refine ⟨b2, d2, h1, ?_, h3, h4⟩
   rw [hne b2 (fun q => ?_)]
   ·exact h2
   ·subst q
    rcases hM.inj n m b2 h1 hb with q | q | q
    ·exact h q
    ·exact q.1 e u hn
    ·exact hgm q
 ·intro n f hn
  by_cases h : n = m
  ·simp only [if_pos h, Option.some.injEq] at hn
   rcases hx with ⟨rfl, rfl, hd⟩ | ⟨rfl, rfl, hd⟩ <;> cases hn
  ·simp only [if_neg h] at hn
   obtain ⟨v, h1, h2, h3⟩ := hM.fact n f hn
   refine ⟨v, h1, S.stable f w _ v h2 fun x c2 t2 z hx hid => ?_, h3⟩
   rw [hne x (fun e => by
    rw [e, hh] at hx
    simp only [Option.some.injEq, Obj.cells.injEq] at hx
    rw [e, ← hx.2.1, ht] at hid; cases hid)]
   exact hx
 ·intro n e u hn
  by_cases h : n = m
  ·simp only [if_pos h, Option.some.injEq] at hn
   rcases hx with ⟨rfl, rfl, hd⟩ | ⟨rfl, rfl, hd⟩
   ·cases hn
   ·cases hn
    subst h
    obtain ⟨b2, d2, h1, h2, _, _, h5⟩ := hM.room _ _ _ hg
    obtain rfl : b2 = b := by rw [hb] at h1; injection h1 with q; exact q.symm
    rw [hh] at h2
    simp only [Option.some.injEq, Obj.cells.injEq, Array.mk.injEq] at h2
    exact ⟨b2, d', hb, hself, hd, fun _ => ht, by rw [hl, h2.1]; exact h5⟩
  ·simp only [if_neg h] at hn
   obtain ⟨b2, d2, h1, h2, h3, h4, h5⟩ := hM.room n e u hn
   by_cases hbb : b2 = b
   ·subst hbb
    rcases hM.inj n m b2 h1 hb with q | q | q
    ·exact absurd q h
    ·obtain rfl := q.2.1 e u hn
     rw [hh] at h2
     simp only [Option.some.injEq, Obj.cells.injEq, Array.mk.injEq] at h2
     obtain ⟨h2, rfl, _⟩ := h2
     exact ⟨b2, d', h1, hself, by simpa using VsR.nil, h4, by rw [hl, h2]; exact h5⟩
    ·exact absurd q hgm
   ·exact ⟨b2, d2, h1, by rw [hne b2 hbb]; exact h2, h3, h4, h5⟩
 ·intro x o hx hn
  rw [hne x (fun e => hn m (by simp) (e ▸ hb))]; exact hx
end
end Ev
end Go.Proofs.YtnlhjcfpfapafaaGreatDoor
namespace Go.Proofs.YtnlhjcfpfapafaaGreatDoor
open Go
namespace Ev
theorem Y9 {P : Program} : ∀ {α : Type} (s : Sem α) {a : α}, Yb P s = some a → ∀ w, s.run P w = .ok a w := by
 intro α s
 induction s with
 | pure b => intro a h w; simp only [Yb, Option.some.injEq] at h; subst h; rfl
 | program k ih => intro a h w; simp only [Yb] at h; exact ih P h w
 | mark m k ih => intro a h w; simp only [Yb] at h; exact ih h w
 | _ => intro a h; simp [Yb] at h
theorem ZgL {ts : Tr Value} {o : Op} (h : Zam ts o = true) : ∀ x ∈ o.operands, Zx (opd ts x) = true := by
 intro x hx
 have : ∀ (l : List Operand), ZV Zx (l.map (opd ts)) = true → ∀ x ∈ l, Zx (opd ts x) = true := by
  intro l
  induction l with
  | nil => intro _ x hx; simp at hx
  | cons y l ih =>
   intro h x hx
   simp only [List.map_cons, ZV, Bool.and_eq_true] at h
   rcases List.mem_cons.1 hx with rfl | hx
   ·exact h.1
   ·exact ih h.2 x hx
 exact this _ h x (by simpa using hx)
section
variable {F : Type} {S : Sig F} {P : Program} {C : Cfg F}
def TR (r : Ren) (ts : Tr Value) (a : Act) : Prop := ∀ t, VR r (opd ts (.tmp t)) (a.eval (.tmp t))
theorem TR.mono {r s : Ren} {ts : Tr Value} {a : Act} (h : TR r ts a) (l : r.le s) : TR s ts a := fun t => (h t).mono l
theorem ZcO {l : List Operand} (h : Zai C l = true) : ∀ x ∈ l, Q3 C x = true := by
 induction l with
 | nil => intro x hx; simp at hx
 | cons y l ih =>
  intro x hx
  simp only [Zai, Bool.and_eq_true] at h
  rcases List.mem_cons.1 hx with rfl | hx
  ·exact h.1
  ·exact ih h.2 x hx
def OR (r : Ren) (ts : Tr Value) (a : Act) (l : List Operand) : Prop := ∀ x ∈ l, VR r (opd ts x) (a.eval x)
theorem ZgM {r : Ren} {ts : Tr Value} {a : Act} {x : Operand} (h : ∀ t, x = .tmp t → VR r (opd ts (.tmp t)) (a.eval (.tmp t))) (hg : ∀ n, n < C.G → r.blk n = some n) (ho : Q3 C x = true) : VR r (opd ts x) (a.eval x) := by
 cases x with
 | tmp t => exact h t rfl
 | const v => exact VR.same2 ho
 | global g => exact .ptr (hg g (Nat.le_of_ble_eq_true ho))
 | func f => exact .same rfl
theorem Yc {t s : Nat} (h : sizeT P t = some s) (w : World) : (sizeOf t).run P w = .ok s w := by
 unfold sizeT at h
 cases hi : P.info? t with
 | none => rw [hi] at h; cases h
 | some i => rw [hi] at h; simp only [Option.map_some, Option.some.injEq] at h; simp [sizeOf, typeInfo, hi, h]
theorem WH {t : Nat} {b : Bool} (h : XS P t = some b) (w : World) : (isAgg t).run P w = .ok b w := by
 unfold XS at h
 unfold isAgg
 cases hu : P.underlying t with
 | none => rw [hu] at h; cases h
 | some d =>
  rw [Sem.run_bind, run_underlying hu w]
  rw [hu] at h
  cases d <;> simp at h <;> subst h <;> rfl
theorem Jb {t : Nat} {fs : Array Field} (h : Vc P t = some fs) : P.underlying t = some (.struct fs) := by
 unfold Vc at h
 (repeat' split at h) <;> first | (cases h; done) | (cases h; assumption)
theorem Zw {t e : Nat} (h : Zz P t = some e) : P.underlying t = some (.slice e) := by
 unfold Zz at h
 (repeat' split at h) <;> first | (cases h; done) | (cases h; assumption)
theorem KE {t : Nat} {x : Nat × TypeId} (h : UB P t = some x) : P.underlying t = some (.array x.1 x.2) := by
 unfold UB at h
 (repeat' split at h) <;> first | (cases h; done) | (cases h; assumption)
theorem VZ {t : Nat} {z : Value} (h : Vu P t = some z) : Zx z = true ∧ ∃ i, P.info? t = some i ∧ i.zero = some z := by
 unfold Vu at h
 split at h
 case h_2 => cases h
 case h_1 i hi =>
  split at h
  case h_2 => cases h
  case h_1 z' hz =>
   cases hp : Zx z' with
   | false => rw [hp] at h; cases h
   | true => rw [hp] at h; cases h; exact ⟨hp, i, hi, hz⟩
theorem Yu (b off j : Nat) : (⟨b, off, none⟩ : Addr).add j = ⟨b, off + j, none⟩ := by unfold Addr.add; split <;> simp_all
theorem Xu {v : Value} {x : Nat × Nat} (h : Z6 v = some x) : v = Xk x.1 x.2 := by
 cases v with
 | pointer a =>
  cases a with
  | none => simp [Z6] at h
  | some a =>
   obtain ⟨b, off, sp⟩ := a
   cases sp with
   | none => simp only [Z6, Option.some.injEq] at h; subst h; rfl
   | some _ => simp [Z6] at h
 | _ => simp [Z6] at h
theorem Wo {v : Value} {x : Option (Nat × Nat) × Nat × Nat} (h : Yt v = some x) : v = .slice (x.1.map fun y => ⟨y.1, y.2, none⟩) x.2.1 x.2.2 := by
 cases v with
 | slice a n c =>
  cases a with
  | none => simp only [Yt, Option.some.injEq] at h; subst h; rfl
  | some a =>
   obtain ⟨b, off, sp⟩ := a
   cases sp with
   | none => simp only [Yt, Option.some.injEq] at h; subst h; rfl
   | some _ => simp [Yt] at h
 | _ => simp [Yt] at h
theorem XZ {v : Value} {n : Nat} (h : Xf v = some n) : ∃ k, v = .int k n := by
 unfold Xf at h
 (repeat' split at h) <;> first | (cases h; done) | skip
 cases h
 exact ⟨_, rfl⟩
theorem VR.int {r : Ren} {k : IntKind} {n : Int} {v : Value} (h : VR r (.int k n) v) : v = .int k n := h.eq_of_plain rfl
theorem VR.bool {r : Ren} {b : Bool} {v : Value} (h : VR r (.bool b) v) : v = .bool b := h.eq_of_plain rfl
theorem VR.str {r : Ren} {s : ByteArray} {v : Value} (h : VR r (.string s) v) : v = .string s := h.eq_of_plain rfl
theorem VR.pointer {r : Ren} {b off : Nat} {v : Value} (h : VR r (Xk b off) v) : ∃ b', r.blk b = some b' ∧ v = Xk b' off := by
 unfold Xk at h
 cases h with
 | same p => simp [plain] at p
 | ptr hb => exact ⟨_, hb, rfl⟩
theorem VR.slc {r : Ren} {b off n c : Nat} {v : Value} (h : VR r (Z5 b off n c) v) : ∃ b' c', r.blk b = some b' ∧ v = Z5 b' off n c' := by
 unfold Z5 at h
 cases h with
 | same p => simp [plain] at p
 | slice hb hc => exact ⟨_, _, hb, rfl⟩
 | slicex hb hc h1 h2 => exact ⟨_, _, hb, rfl⟩
theorem VR.nilslc {r : Ren} {n c : Nat} {v : Value} (h : VR r (.slice none n c) v) : v = .slice none n c := h.eq_of_plain rfl
variable {h h' : Tr (Blk F)} {nx nx' : Nat} {R W : List Nat} {r : Ren} {w : World}
theorem Zt {v : Value} {x : Nxt} (e : (val v : M F Nxt) h nx = .ok x h' nx' R W) : x = .val v ∧ h' = h ∧ nx' = nx ∧ W = [] := by
 unfold val at e; cases e; exact ⟨rfl, rfl, rfl, rfl⟩
theorem Zh {α : Type} {v x : α} (e : (ret v : M F α) h nx = .ok x h' nx' R W) : x = v ∧ h' = h ∧ nx' = nx ∧ W = [] := by
 unfold ret at e; cases e; exact ⟨rfl, rfl, rfl, rfl⟩
theorem UK {o : Option Value} {x : Nxt} (e : (Uz o : M F Nxt) h nx = .ok x h' nx' R W) : ∃ v, o = some v ∧ x = .val v ∧ h' = h ∧ nx' = nx ∧ W = [] := by
 cases o with
 | none => simp [Uz, fail] at e
 | some v => exact ⟨v, rfl, Zt e⟩
theorem Wp {b : Nat} {x : List Value × TypeId} (e : (Y6 b : M F _) h nx = .ok x h' nx' R W) : h.get b = some (.cells x.1 x.2) ∧ h' = h ∧ nx' = nx ∧ W = [] := by
 unfold Y6 at e
 split at e
 case h_2 => cases e
 case h_1 c t hg => cases e; exact ⟨hg, rfl, rfl, rfl⟩
theorem V0 {b : Nat} {x : List Value × TypeId × Bool} (e : (Vt b : M F _) h nx = .ok x h' nx' R W) : h.get b = some (Zbn x.2.2 x.1 x.2.1) ∧ h' = h ∧ nx' = nx ∧ W = [] := by
 unfold Vt at e
 cases hg : h.get b with
 | none => rw [hg] at e; cases e
 | some y =>
  rw [hg] at e
  cases y with
  | cells c t => cases e; exact ⟨rfl, rfl, rfl, rfl⟩
  | room c t => cases e; exact ⟨rfl, rfl, rfl, rfl⟩
  | fact f => cases e
  | opq => cases e
  | lp s => cases e
  | ow f => cases e
  | ad m x => cases e
theorem Mod.any {b : Nat} {rm : Bool} {c : List Value} {t : TypeId} (hM : Mod S r h.get w) (hg : h.get b = some (Zbn rm c t)) :
  ∃ b' c', r.blk b = some b' ∧ w.heap[b']? = some (.cells ⟨c'⟩ t (0, 0)) ∧ VsR r c (c'.take c.length) ∧ (S.hn b t = false → S.hid b' t = false) ∧ (rm = false → VsR r c c') ∧ (rm = true → r.len b ≤ c'.length) := by
 cases rm with
 | false =>
  obtain ⟨b', c', h1, h2, h3, h4⟩ := hM.cells b c t hg
  exact ⟨b', c', h1, h2, by rw [List.take_of_length_le (Nat.le_of_eq h3.length)]; exact h3, h4, fun _ => h3, fun q => by cases q⟩
 | true =>
  obtain ⟨b', c', h1, h2, h3, h4, h5⟩ := hM.room b c t hg
  exact ⟨b', c', h1, h2, h3, h4, fun q => (by cases q), fun _ => h5⟩
theorem ZjC {c c' : List Value} (hc : VsR r c (c'.take c.length)) {i : Nat} {v : Value} (hi : c[i]? = some v) : ∃ v', c'[i]? = some v' ∧ VR r v v' := by
 obtain ⟨v', h1, h2⟩ := hc.get hi
 have hlt := (List.getElem?_eq_some_iff.1 hi).1
 rw [List.getElem?_take_of_lt hlt] at h1
 exact ⟨v', h1, h2⟩
theorem Zeh {c c' : List Value} (hc : VsR r c (c'.take c.length)) : c.length ≤ c'.length := by
 have := hc.length
 rw [List.length_take] at this; omega
theorem Zei {c c' : List Value} {off n : Nat} (hc : VsR r c (c'.take c.length)) (hl : ((c.drop off).take n).length = n) : VsR r ((c.drop off).take n) ((c'.drop off).take n) := by
 have h1 := (hc.drop off).take n
 rw [List.length_take, List.length_drop] at hl
 rw [List.drop_take, List.take_take, Nat.min_eq_left (by omega)] at h1
 exact h1
theorem ZcP {c c' vs vs' : List Value} {off : Nat} (hc : VsR r c (c'.take c.length)) (hv : VsR r vs vs') (hl : off + vs.length ≤ c.length) :
  VsR r (c.take off ++ vs ++ c.drop (off + vs.length)) ((c'.take off ++ vs' ++ c'.drop (off + vs'.length)).take (c.take off ++ vs ++ c.drop (off + vs.length)).length) := by
 have hle := Zeh hc
 have hlv := hv.length
 have e : (c.take off ++ vs ++ c.drop (off + vs.length)).length = c.length := by simp; omega
 have h1 := (((hc.take off).append hv).append (hc.drop (off + vs.length)))
 rw [e]
 have e2 : (c'.take off ++ vs' ++ c'.drop (off + vs'.length)).take c.length = (c'.take c.length).take off ++ vs' ++ (c'.take c.length).drop (off + vs.length) := by
  rw [List.take_append, List.take_append, List.take_take, List.take_take, List.drop_take, hlv]
  have a1 : min c.length off = off := by omega
  have a2 : min off c.length = off := by omega
  have a3 : (c'.take off).length = off := by rw [List.length_take]; omega
  rw [a1, a2, a3, List.take_of_length_le (l := vs') (by omega), List.length_append, a3, hlv]
 rw [e2]; exact h1
theorem Zi {α : Type} {b : Bool} {m : M F α} {x : α} (e : cond b m fail h nx = .ok x h' nx' R W) : b = true ∧ m h nx = .ok x h' nx' R W := by
 cases b with
 | false => simp [fail] at e
 | true => exact ⟨rfl, e⟩
theorem QJ {α : Type} {b : Bool} {m : M F α} {x : α} (e : cond b fail m h nx = .ok x h' nx' R W) : b = false ∧ m h nx = .ok x h' nx' R W := by
 cases b with
 | true => simp [fail] at e
 | false => exact ⟨rfl, e⟩
theorem Zfo {c l : List Value} {o n : Nat} (h : Zaj c o n = some l) : l = (c.drop o).take n ∧ ((c.drop o).take n).length = n := by
 unfold Zaj at h
 cases hl : Nat.beq ((c.drop o).take n).length n with
 | false => rw [hl] at h; cases h
 | true =>
  rw [hl] at h
  simp only [cond_true, Option.some.injEq] at h
  exact ⟨h.symm, Nat.eq_of_beq_eq_true hl⟩
theorem Zas {b2 off n : Nat} {c' : List Value} {t : TypeId} {z : Nat × Nat} (hh : w.heap[b2]? = some (.cells ⟨c'⟩ t z)) (hl3 : ((c'.drop off).take n).length = n) :
  (loadCells ⟨b2, off, none⟩ n).run P w = .ok ((c'.drop off).take n).toArray w := by
 have hlc := run_loadCells_list (P := P) w ⟨b2, off, none⟩ ((c'.drop off).take n) (fun j v hv => by
  rw [Yu]
  simp only [World.cell?, hh]
  rw [List.getElem?_take] at hv
  split at hv
  ·rw [List.getElem?_drop] at hv; simpa using hv
  ·cases hv)
 rw [hl3] at hlc
 exact hlc
theorem Zej {t off : Nat} {cs cs' : List Value} {v : Value} (h : Vs P t cs off = some v) (hc : VsR r cs cs') (w : World) : ∃ v', (part t ⟨cs'⟩ off).run P w = .ok v' w ∧ VR r v v' := by
 unfold Vs at h
 cases hag : XS P t with
 | none => rw [hag] at h; cases h
 | some ag =>
  rw [hag] at h
  have hag' := WH hag w
  cases ag with
  | true =>
   simp only at h
   cases hs : sizeT P t with
   | none => rw [hs] at h; cases h
   | some s =>
    rw [hs] at h; simp only at h
    have h2 : some (Value.agg ((cs.drop off).take s).toArray) = some v := by
     cases hb : Nat.beq ((cs.drop off).take s).length s with
     | false => rw [hb] at h; cases h
     | true => rw [hb] at h; exact h
    injection h2 with h2
    subst h2
    have hs' := Yc hs w
    refine ⟨.agg ((cs'.drop off).take s).toArray, ?_, .agg ((hc.drop off).take s)⟩
    simp [part, hag', hs', List.extract_eq_take_drop]
  | false =>
   simp only at h
   obtain ⟨v', hv', hvr⟩ := hc.get h
   refine ⟨v', ?_, hvr⟩
   simp [part, hag', hv']
theorem Zek {t : Nat} {a v : Value} (e : Q4 P t a h nx = .ok v h' nx' R W) (hM : Mod S r h.get w) {a' : Value} (ha : VR r a a') :
  h' = h ∧ nx' = nx ∧ W = [] ∧ ∃ v' ad, a' = .pointer (some ad) ∧ (loadVar t ad).run P w = .ok v' w ∧ VR r v v' := by
 unfold Q4 at e
 cases hao : Z6 a with
 | none => rw [hao] at e; simp [fail] at e
 | some y =>
  obtain ⟨b, off⟩ := y
  rw [hao] at e
  simp only at e
  rw [Xu hao] at ha
  obtain ⟨b2, hb, rfl⟩ := ha.pointer
  obtain ⟨x, h1, nx1, R1, W1, R2, W2, e1, e2, rfl, rfl⟩ := Zc e
  obtain ⟨hg, rfl, rfl, rfl⟩ := V0 e1
  cases hp : Vs P t x.1 off with
  | none => rw [hp] at e2; simp [fail] at e2
  | some y =>
   rw [hp] at e2
   obtain ⟨rfl, rfl, rfl, rfl⟩ := Zh e2
   obtain ⟨b3, c', hb3, hh, hc, -⟩ := hM.any hg
   have : b3 = b2 := by
    have hb' : r.blk b = some b2 := hb
    rw [hb'] at hb3; injection hb3 with e; exact e.symm
   subst this
   refine ⟨rfl, rfl, rfl, ?_⟩
   unfold Vs at hp
   cases hag : XS P t with
   | none => rw [hag] at hp; cases hp
   | some ag =>
    rw [hag] at hp
    have hag' := WH hag w
    cases ag with
    | true =>
     simp only at hp
     cases hs : sizeT P t with
     | none => rw [hs] at hp; cases hp
     | some s =>
      rw [hs] at hp; simp only at hp
      have hs' := Yc hs w
      cases hrow : Nat.beq ((x.1.drop off).take s).length s with
      | false => rw [hrow] at hp; cases hp
      | true =>
       rw [hrow] at hp; simp only [cond_true, Option.some.injEq] at hp
       subst hp
       have hsg := Zei hc (Nat.eq_of_beq_eq_true hrow)
       have hl := Zas (P := P) hh (by rw [hsg.length]; exact Nat.eq_of_beq_eq_true hrow)
       exact ⟨_, _, rfl, by simp [loadVar, hag', hs', hl], .agg hsg⟩
    | false =>
     simp only at hp
     obtain ⟨v', hv', hvr⟩ := ZjC hc hp
     refine ⟨v', _, rfl, ?_, hvr⟩
     simp [loadVar, hag', World.cell?, hh, hv']
theorem ZgN {t : Nat} {a v : Value} (e : KC P C t a h nx = .ok v h' nx' R W) (hM : Mod S r h.get w) (hg : ∀ b cs, C.glob b = some cs → ZV plain cs = true ∧ b < S.G ∧ ∀ w, S.base w → ∃ t z, w.heap[b]? = some (.cells ⟨cs⟩ t z)) {a' : Value} (ha : VR r a a') :
  h' = h ∧ nx' = nx ∧ W = [] ∧ ∃ v' ad, a' = .pointer (some ad) ∧ (loadVar t ad).run P w = .ok v' w ∧ VR r v v' := by
 unfold KC at e
 cases hgl : ZcK C a with
 | none => rw [hgl] at e; exact Zek e hM ha
 | some x =>
  obtain ⟨cs, off⟩ := x
  rw [hgl] at e
  simp only at e
  unfold ZcK at hgl
  cases hao : Z6 a with
  | none => rw [hao] at hgl; cases hgl
  | some y =>
   obtain ⟨b, o2⟩ := y
   rw [hao] at hgl
   simp only at hgl
   cases hc : C.glob b with
   | none => rw [hc] at hgl; cases hgl
   | some cs2 =>
    rw [hc] at hgl
    cases hgl
    obtain ⟨hp, hlt, hw⟩ := hg b cs hc
    obtain ⟨t0, z, hh⟩ := hw w hM.base
    rw [Xu hao] at ha
    obtain ⟨b2, hb, rfl⟩ := ha.pointer
    have hbb : b2 = b := by
     have := hM.glob b hlt
     rw [this] at hb; injection hb with q; exact q.symm
    subst hbb
    cases hpa : Vs P t cs off with
    | none => rw [hpa] at e; simp [fail] at e
    | some y =>
     rw [hpa] at e
     obtain ⟨rfl, rfl, rfl, rfl⟩ := Zh e
     refine ⟨rfl, rfl, rfl, ?_⟩
     have hcs : VsR r cs cs := VsR.same hp
     unfold Vs at hpa
     cases hag : XS P t with
     | none => rw [hag] at hpa; cases hpa
     | some ag =>
      rw [hag] at hpa
      have hag' := WH hag w
      cases ag with
      | true =>
       simp only at hpa
       cases hs : sizeT P t with
       | none => rw [hs] at hpa; cases hpa
       | some s =>
        rw [hs] at hpa; simp only at hpa
        have hs' := Yc hs w
        cases hrow : Nat.beq ((cs.drop off).take s).length s with
        | false => rw [hrow] at hpa; cases hpa
        | true =>
         rw [hrow] at hpa; simp only [cond_true, Option.some.injEq] at hpa
         subst hpa
         have hl := Zas (P := P) hh (Nat.eq_of_beq_eq_true hrow)
         exact ⟨_, _, rfl, by simp [loadVar, hag', hs', hl], .agg ((hcs.drop off).take s)⟩
      | false =>
       simp only at hpa
       obtain ⟨v', hv', hvr⟩ := hcs.get hpa
       refine ⟨v', _, rfl, ?_, hvr⟩
       simp [loadVar, hag', World.cell?, hh, hv']
theorem Zfp (l : List Value) (o : Nat) (vs : List Value) : splice l o vs = cond (Nat.ble (o + vs.length) l.length) (some (l.take o ++ vs ++ l.drop (o + vs.length))) none := by
 unfold splice
 cases hk : (Nat.beq o 0 && Nat.beq vs.length l.length) with
 | false => rfl
 | true =>
  simp only [Bool.and_eq_true] at hk
  obtain rfl := Nat.eq_of_beq_eq_true hk.1
  have h2 : vs.length = l.length := Nat.eq_of_beq_eq_true hk.2
  rw [cond_true, Nat.zero_add, h2, Nat.ble_eq_true_of_le (Nat.le_refl _), cond_true, List.take_zero, List.nil_append, List.drop_length, List.append_nil]
theorem ZcQ {b off : Nat} {vs vs' : List Value} {u : Unit} (e : storeAt C b off vs h nx = .ok u h' nx' R W) (hG : C.G = S.G) (hC : C.hid = S.hn) (hM : Mod S r h.get w) {b2 : Nat} (hb : r.blk b = some b2) (hv : VsR r vs vs') :
  nx' = nx ∧ ∃ w', (∀ i : Unit, (storeCells ⟨b2, off, none⟩ vs').run P w = .ok () w') ∧ Ext S r w nx nx W h'.get r w' := by
 unfold storeAt at e
 obtain ⟨x, h1, nx1, R1, W1, R2, W2, e1, e2, rfl, rfl⟩ := Zc e
 obtain ⟨hg, rfl, rfl, rfl⟩ := V0 e1
 cases hsp : splice x.1 off vs with
 | none => rw [hsp] at e2; simp [fail] at e2
 | some c2 =>
  rw [hsp] at e2
  obtain ⟨hk, e3⟩ := Zi e2
  unfold wr at e3
  rw [hg] at e3
  simp only at e3
  cases e3
  simp only [Bool.and_eq_true] at hk
  obtain ⟨⟨⟨hk1, hk2⟩, hk3⟩, hk4⟩ := hk
  have hmore : x.1 ≠ [] := fun q => by rw [q] at hk3; cases hk3
  obtain ⟨b3, c', hb3, hh, hc, ht, hex, hrm⟩ := hM.any hg
  have : b3 = b2 := by rw [hb] at hb3; injection hb3 with e; exact e.symm
  subst this
  have hlen := hv.length
  have hones := hv.ones hk2
  rw [Zfp] at hsp
  cases hle : Nat.ble (off + vs.length) x.1.length with
  | false => rw [hle] at hsp; cases hsp
  | true =>
   rw [hle] at hsp
   simp only [cond_true, Option.some.injEq] at hsp
   have hle2 := Nat.le_of_ble_eq_true hle
   have hcl := Zeh hc
   have hrun := run_storeCells_at P b3 off x.2.1 vs' 0 ⟨c'⟩ w hh (by simp only [List.size_toArray]; rw [hlen]; omega) hones
   refine ⟨rfl, w.setRow b3 (c'.take (off + 0) ++ vs' ++ c'.drop (off + 0 + vs'.length)).toArray, fun _ => hrun, ?_⟩
   have hd2 : VsR r c2 ((c'.take off ++ vs' ++ c'.drop (off + vs'.length)).take c2.length) := by rw [← hsp]; exact ZcP hc hv hle2
   have hX := Zeg (nx := nx') (x := Zbn x.2.2 x.1 x.2.1) (y := Zbn x.2.2 c2 x.2.1) hM hg hb (d := c2) (d' := c'.take off ++ vs' ++ c'.drop (off + vs'.length)) (by
    cases hr : x.2.2 with
    | false =>
     refine .inl ⟨rfl, rfl, ?_⟩
     rw [← hsp, hlen]
     exact (((hex hr).take off).append hv).append ((hex hr).drop _)
    | true => exact .inr ⟨rfl, rfl, hd2⟩) hmore hh (by simp; omega) (by rw [← hG]; exact Nat.le_of_ble_eq_true hk1) (by rw [← hC]; simpa using hk4) (w' := w.setRow b3 (c'.take (off + 0) ++ vs' ++ c'.drop (off + 0 + vs'.length)).toArray) (by
    simp only [Nat.add_zero]
    unfold World.setRow
    simp only
    apply Array.ext
    ·simp
    ·intro k h1 h2
     rw [Array.getElem_modify, Array.getElem_setIfInBounds]
     ·by_cases hkk : b3 = k
      ·subst hkk
       have := (Array.getElem?_eq_some_iff.1 hh).2
       simp [this]
      ·simp [hkk]
     ·simpa using h2) rfl rfl rfl
   refine Ext.congr ?_ (fun n => .inr (Tr.get_set _ _ _ _))
   simpa using hX
theorem ZgO {t : Nat} {a v : Value} {u : Unit} (e : UA P C t a v h nx = .ok u h' nx' R W) (hG : C.G = S.G) (hC : C.hid = S.hn) (hM : Mod S r h.get w) {a' v' : Value} (ha : VR r a a') (hv : VR r v v') :
  nx' = nx ∧ ∃ ad w', a' = .pointer (some ad) ∧ (storeVar t ad v').run P w = .ok () w' ∧ Ext S r w nx nx W h'.get r w' := by
 unfold UA at e
 cases hao : Z6 a with
 | none => rw [hao] at e; simp [fail] at e
 | some y =>
  obtain ⟨b, off⟩ := y
  rw [hao] at e
  simp only at e
  rw [Xu hao] at ha
  obtain ⟨b2, hb, rfl⟩ := ha.pointer
  cases hs : sizeT P t with
  | none => rw [hs] at e; simp [fail] at e
  | some s =>
   rw [hs] at e
   obtain ⟨hk, e⟩ := Zi e
   simp only [Bool.and_eq_true, Bool.not_eq_true'] at hk
   have hvc := hv.cellsOf hk.2
   obtain ⟨rfl, w', hrun, hX⟩ := ZcQ (P := P) e hG hC hM hb hvc
   refine ⟨rfl, _, w', rfl, ?_, hX⟩
   have hs' := Yc hs w
   have hsz : v'.cells.size = s := by rw [← Array.length_toList, hvc.length]; exact (Nat.eq_of_beq_eq_true hk.1).symm
   simp [storeVar, hs', hsz, hrun ()]
end
end Ev
end Go.Proofs.YtnlhjcfpfapafaaGreatDoor
