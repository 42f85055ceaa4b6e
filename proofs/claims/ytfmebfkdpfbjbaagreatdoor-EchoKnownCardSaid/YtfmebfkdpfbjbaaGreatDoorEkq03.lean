/- Contracts, in this order: The interpreter and memory: how values with names stand for  -/
import Derived.Test.YtfmebfkdpfbjbaaGreatDoorEkq02
import Derived.Laws.Rows
import Derived.Laws.Cells
import Derived.Laws.CopyRow
namespace Go.Proofs.YtfmebfkdpfbjbaaGreatDoor
open Go
namespace Ev
structure Ren where
  blk : Nat → Option Nat
  val : Nat → Option Value
  len : Nat → Nat
structure Ren.le (r s : Ren) : Prop where
  blk : ∀ n b, r.blk n = some b → s.blk n = some b
  val : ∀ n v, r.val n = some v → s.val n = some v
  len : ∀ n b, r.blk n = some b → s.len n = r.len n
theorem Ren.le.refl (r : Ren) : r.le r := ⟨fun _ _ h => h, fun _ _ h => h, fun _ _ _ => rfl⟩
theorem Ren.le.trans {r s t : Ren} (h : r.le s) (i : s.le t) : r.le t := ⟨fun n b e => i.blk n b (h.blk n b e), fun n b e => i.val n b (h.val n b e), fun n b e => (i.len n b (h.blk n b e)).trans (h.len n b e)⟩
mutual
inductive VR (r : Ren) : Value → Value → Prop
  | same {v : Value} (h : plain v = true) : VR r v v
  | ptr {n off : Nat} {spot : Option Nat} {b : Nat} (h : r.blk n = some b) : VR r (.pointer (some ⟨n, off, spot⟩)) (.pointer (some ⟨b, off, spot⟩))
  | slice {n off : Nat} {spot : Option Nat} {b l c : Nat} (h : r.blk n = some b) (hc : c < capX) : VR r (.slice (some ⟨n, off, spot⟩) l c) (.slice (some ⟨b, off, spot⟩) l c)
  | slicex {n off b l s c c' : Nat} (h : r.blk n = some b) (hc : c < capX) (h1 : c ≤ c') (h2 : off + c' * s ≤ r.len n) : VR r (.slice (some ⟨n, off, none⟩) l (capX * (s + 1) + c)) (.slice (some ⟨b, off, none⟩) l c')
  | opq {n : Nat} {v : Value} (h : r.val n = some v) (ho : isOne v = true) : VR r (.chan (some n)) v
  | any {n : Nat} {v : Value} (h : r.val n = some v) : VR r (.map (some n)) v
  | func {fn : Fn} {a b a' b' : List Value} (ha : VsR r a a') (hb : VsR r b b') : VR r (.func fn ⟨a⟩ ⟨b⟩) (.func fn ⟨a'⟩ ⟨b'⟩)
  | iface {t : TypeId} {v v' : Value} (h : VR r v v') : VR r (.iface t v) (.iface t v')
  | agg {a a' : List Value} (h : VsR r a a') : VR r (.agg ⟨a⟩) (.agg ⟨a'⟩)
  | tuple {a a' : List Value} (h : VsR r a a') : VR r (.tuple ⟨a⟩) (.tuple ⟨a'⟩)
inductive VsR (r : Ren) : List Value → List Value → Prop
  | nil : VsR r [] []
  | cons {v v' : Value} {l l' : List Value} (h : VR r v v') (hl : VsR r l l') : VsR r (v :: l) (v' :: l')
end
mutual
theorem VR.mono {r s : Ren} (h : r.le s) : ∀ {v v' : Value}, VR r v v' → VR s v v'
  | _, _, .same p => .same p
  | _, _, .ptr p => .ptr (h.blk _ _ p)
  | _, _, .slice p hc => .slice (h.blk _ _ p) hc
  | _, _, .slicex p hc h1 h2 => .slicex (h.blk _ _ p) hc h1 (by rw [h.len _ _ p]; exact h2)
  | _, _, .opq p o => .opq (h.val _ _ p) o
  | _, _, .any p => .any (h.val _ _ p)
  | _, _, .func a b => .func (VsR.mono h a) (VsR.mono h b)
  | _, _, .iface p => .iface (VR.mono h p)
  | _, _, .agg a => .agg (VsR.mono h a)
  | _, _, .tuple a => .tuple (VsR.mono h a)
theorem VsR.mono {r s : Ren} (h : r.le s) : ∀ {v v' : List Value}, VsR r v v' → VsR s v v'
  | _, _, .nil => .nil
  | _, _, .cons a b => .cons (VR.mono h a) (VsR.mono h b)
end
section
variable {r : Ren}
theorem VsR.length : ∀ {l l' : List Value}, VsR r l l' → l'.length = l.length
  | _, _, .nil => rfl
  | _, _, .cons _ h => by simp [VsR.length h]
theorem VsR.get : ∀ {l l' : List Value}, VsR r l l' → ∀ {i : Nat} {v : Value}, l[i]? = some v → ∃ v', l'[i]? = some v' ∧ VR r v v'
  | _, _, .nil, i, v, h => by simp at h
  | _, _, .cons a b, 0, v, h => by
    simp only [List.getElem?_cons_zero, Option.some.injEq] at h
    subst h; exact ⟨_, rfl, a⟩
  | _, _, .cons a b, i + 1, v, h => by
    simp only [List.getElem?_cons_succ] at h ⊢
    exact VsR.get b h
theorem VsR.append {l l' m m' : List Value} (h : VsR r l l') (i : VsR r m m') : VsR r (l ++ m) (l' ++ m') :=
  match h with
  | .nil => i
  | .cons a b => .cons a (VsR.append b i)
theorem VsR.take : ∀ {l l' : List Value}, VsR r l l' → ∀ n, VsR r (l.take n) (l'.take n)
  | _, _, _, 0 => by simpa using VsR.nil
  | _, _, .nil, _ + 1 => by simpa using VsR.nil
  | _, _, .cons a b, n + 1 => by simpa using VsR.cons a (VsR.take b n)
theorem VsR.drop : ∀ {l l' : List Value}, VsR r l l' → ∀ n, VsR r (l.drop n) (l'.drop n)
  | _, _, h, 0 => by simpa using h
  | _, _, .nil, _ + 1 => by simpa using VsR.nil
  | _, _, .cons a b, n + 1 => by simpa using VsR.drop b n
theorem VsR.same : ∀ {l : List Value}, plainL plain l = true → VsR r l l
  | [], _ => .nil
  | v :: l, h => by
    simp only [plainL, Bool.and_eq_true] at h
    exact .cons (.same h.1) (VsR.same h.2)
theorem VR.same2 {v : Value} (h : plain2 v = true) : VR r v v := by
  cases v with
  | agg cs => cases cs; exact .agg (VsR.same (by simpa [plain2] using h))
  | tuple cs => cases cs; exact .tuple (VsR.same (by simpa [plain2] using h))
  | _ => exact .same (by simpa [plain2] using h)
mutual
theorem VR.eq_of_plain : ∀ {v v' : Value}, VR r v v' → plain v = true → v' = v
  | _, _, .same _, _ => rfl
  | _, _, .ptr _, h => by simp [plain] at h
  | _, _, .slice _ _, h => by simp [plain] at h
  | _, _, .slicex _ _ _ _, h => by simp [plain] at h
  | _, _, .opq _ _, h => by simp [plain] at h
  | _, _, .any _, h => by simp [plain] at h
  | _, _, .func (a := []) (b := []) ha hb, _ => by cases ha; cases hb; rfl
  | _, _, .func (a := _ :: _) _ _, h => by simp [plain] at h
  | _, _, .func (a := []) (b := _ :: _) _ _, h => by simp [plain] at h
  | _, _, .iface p, h => by rw [VR.eq_of_plain p (by simpa [plain] using h)]
  | _, _, .agg _, h => by simp [plain] at h
  | _, _, .tuple _, h => by simp [plain] at h
theorem VsR.eq_of_plain : ∀ {l l' : List Value}, VsR r l l' → plainL plain l = true → l' = l
  | _, _, .nil, _ => rfl
  | _, _, .cons a b, h => by
    simp only [plainL, Bool.and_eq_true] at h
    rw [VR.eq_of_plain a h.1, VsR.eq_of_plain b h.2]
end
theorem VR.eq_of_plain2 {v v' : Value} (h : VR r v v') (hp : plain2 v = true) : v' = v := by
  cases h with
  | agg a => rw [VsR.eq_of_plain a (by simpa [plain2] using hp)]
  | tuple a => rw [VsR.eq_of_plain a (by simpa [plain2] using hp)]
  | same p => rfl
  | ptr p => exact VR.eq_of_plain (.ptr p) hp
  | slice p hc => exact VR.eq_of_plain (.slice p hc) hp
  | slicex p hc h1 h2 => exact VR.eq_of_plain (.slicex p hc h1 h2) hp
  | opq p o => exact VR.eq_of_plain (.opq p o) hp
  | any p => exact VR.eq_of_plain (.any p) hp
  | func a b => exact VR.eq_of_plain (.func a b) hp
  | iface p => exact VR.eq_of_plain (.iface p) hp
theorem isOne_one' {v : Value} (h : isOne v = true) : v.oneCell' = true := by cases v <;> first | rfl | (simp [isOne] at h; done)
theorem VR.cellsOf {v v' : Value} (h : VR r v v') (hj : isJunk v = false) : VsR r (cellsOf v) v'.cells.toList := by
  cases h with
  | same p => cases v <;> first | (simp [plain] at p; done) | exact .cons (.same p) .nil
  | ptr p => exact .cons (.ptr p) .nil
  | slice p hc => exact .cons (.slice p hc) .nil
  | slicex p hc h1 h2 => exact .cons (.slicex p hc h1 h2) .nil
  | opq p o => cases v' <;> first | (simp [isOne] at o; done) | exact .cons (.opq p o) .nil
  | any p => simp [isJunk] at hj
  | func a b => exact .cons (.func a b) .nil
  | iface p => exact .cons (.iface p) .nil
  | agg a => exact a
  | tuple a => exact .cons (.tuple a) .nil
theorem VR.one {v v' : Value} (h : VR r v v') (ho : isOne v = true) : isOne v' = true := by
  cases h with
  | opq p o => exact o
  | any p => simp [isOne] at ho
  | same p => exact ho
  | agg a => simp [isOne] at ho
  | tuple a => simp [isOne] at ho
  | _ => rfl
theorem VsR.ones : ∀ {l l' : List Value}, VsR r l l' → plainL isOne l = true → ∀ v ∈ l', v.oneCell' = true
  | _, _, .nil, _ => by simp
  | _, _, .cons a b, h => by
    simp only [plainL, Bool.and_eq_true] at h
    intro v hv
    rcases List.mem_cons.1 hv with rfl | hv
    · exact isOne_one' (a.one h.1)
    · exact VsR.ones b h.2 v hv
end
def blkV : Value → Option Nat
  | .slice (some a) _ _ => some a.block
  | .pointer (some a) => some a.block
  | _ => none
structure Sig (F : Type) where
  holds : F → World → Value → Prop
  hid : Nat → TypeId → Bool
  hn : Nat → TypeId → Bool
  lo : Nat
  new : ∀ n b t, lo ≤ b → hn n t = false → hid b t = false
  G : Nat
  base : World → Prop
  baseS : ∀ w w', base w → (∀ (b : Nat) (o : Obj), b < G → w.heap[b]? = some o → w'.heap[b]? = some o) → base w'
  ow : F → World → Value → Prop := fun _ _ _ => False
  at_ : F → Nat → Prop := fun _ _ => False
  owS : ∀ f w w' v, ow f w v → (∀ (b : Nat) (c : Array Value) (t : TypeId) (z : Nat × Nat), w.heap[b]? = some (.cells c t z) → hid b t = true ∨ blkV v = some b → w'.heap[b]? = some (.cells c t z)) → ow f w' v := by exact fun _ _ _ _ h _ => False.elim h
  stable : ∀ f w w' v, holds f w v → (∀ (b : Nat) (c : Array Value) (t : TypeId) (z : Nat × Nat), w.heap[b]? = some (.cells c t z) → hid b t = true → w'.heap[b]? = some (.cells c t z)) → holds f w' v
section
variable {F : Type} (S : Sig F)
def LStep (L L' : Loop) : Prop := L' = L ∨ (L.state = .ready ∧ ∃ c, L' = { L with state := .done, pending := some c })
theorem LStep.trans {L L1 L2 : Loop} (h : LStep L L1) (i : LStep L1 L2) : LStep L L2 := by
  rcases h with rfl | ⟨h, c, rfl⟩
  · exact i
  · rcases i with rfl | ⟨i, _⟩
    · exact .inr ⟨h, c, rfl⟩
    · cases i
theorem LStep.ready {L L' : Loop} (h : LStep L L') (e : L'.state = .ready) : L' = L := by
  rcases h with h | ⟨_, c, rfl⟩
  · exact h
  · cases e
theorem LStep.busy {L L' : Loop} (h : LStep L L') (e : L.state ≠ .ready) : L' = L := by
  rcases h with h | ⟨q, _⟩
  · exact h
  · exact absurd q e
structure Loops (w w' : World) : Prop where
  lp : ∀ (b : Nat) (L : Loop), w.heap[b]? = some (.loop L) → ∃ L', w'.heap[b]? = some (.loop L') ∧ LStep L L'
  sh : ∀ (b : Nat) (c : Array Value) (t : TypeId) (z : Nat × Nat), w.heap[b]? = some (.cells c t z) → ∃ c2 : Array Value, w'.heap[b]? = some (.cells c2 t z) ∧ c2.size = c.size
theorem Loops.refl (w : World) : Loops w w := ⟨fun _ L h => ⟨L, h, .inl rfl⟩, fun _ c _ _ h => ⟨c, h, rfl⟩⟩
theorem Loops.trans {w w1 w2 : World} (h : Loops w w1) (i : Loops w1 w2) : Loops w w2 := ⟨fun b L hb => by
  obtain ⟨L1, h1, s1⟩ := h.lp b L hb
  obtain ⟨L2, h2, s2⟩ := i.lp b L1 h1
  exact ⟨L2, h2, s1.trans s2⟩, fun b c t z hb => by
  obtain ⟨c1, h1, s1⟩ := h.sh b c t z hb
  obtain ⟨c2, h2, s2⟩ := i.sh b c1 t z h1
  exact ⟨c2, h2, s2.trans s1⟩⟩
theorem Loops.of {w w' : World} (h : ∀ (b : Nat) (o : Obj), w.heap[b]? = some o → w'.heap[b]? = some o) : Loops w w' := ⟨fun b L hb => ⟨L, h b _ hb, .inl rfl⟩, fun b c t z hb => ⟨c, h b _ hb, rfl⟩⟩
def Lst.state : Lst → LoopState
  | .live => .ready
  | .busy => .busy
  | .ret => .done
  | .exit _ => .done
def Lst.pend : Lst → Option Code
  | .live => none
  | .busy => none
  | .ret => some .ret
  | .exit i => some (.exit i)
def Gone (g : Nat → Option (Blk F)) (n : Nat) : Prop := (∀ c t, g n ≠ some (.cells c t)) ∧ (∀ c t, g n = some (.room c t) → c = []) ∧ (∀ s, g n ≠ some (.lp s)) ∧ ∀ f, g n ≠ some (.ow f)
def LpOK (r : Ren) (g : Nat → Option (Blk F)) (w : World) : Prop := ∀ n s, g n = some (.lp s) → ∃ b L, r.blk n = some b ∧ r.val n = some (.func (.yield b) #[] #[]) ∧ w.heap[b]? = some (.loop L) ∧ L.state = s.state ∧ L.pending = s.pend
theorem LpOK.mono {r r' : Ren} {g g' : Nat → Option (Blk F)} {w w' : World} (h : LpOK r g w) (hr : r.le r') (hg : ∀ n s, g' n = some (.lp s) → g n = some (.lp s)) (hw : ∀ (b : Nat) (L : Loop), w.heap[b]? = some (.loop L) → w'.heap[b]? = some (.loop L)) : LpOK r' g' w' := fun n s hn => by
  obtain ⟨b, L, h1, h2, h3, h4⟩ := h n s (hg n s hn)
  exact ⟨b, L, hr.blk _ _ h1, hr.val _ _ h2, hw b L h3, h4⟩
def OwOK (r : Ren) (g : Nat → Option (Blk F)) (w : World) : Prop := ∀ n f, g n = some (.ow f) → ∃ v, r.val n = some v ∧ S.ow f w v ∧ isOne v = true ∧ ∀ b, blkV v = some b → r.blk n = some b ∧ S.G ≤ b ∧ ∃ c t z, w.heap[b]? = some (.cells c t z) ∧ S.hid b t = false
def AdOK (r : Ren) (g : Nat → Option (Blk F)) : Prop := ∀ n m x, g n = some (.ad m x) → ∃ b off, r.blk m = some b ∧ r.val n = some (.pointer (some ⟨b, off, none⟩)) ∧ S.at_ x off
variable {S} in
theorem OwOK.mono {r r' : Ren} {g g' : Nat → Option (Blk F)} {w w' : World} (h : OwOK S r g w) (hr : r.le r') (hg : ∀ n f, g' n = some (.ow f) → g n = some (.ow f))
    (hw : ∀ (b : Nat) (c : Array Value) (t : TypeId) (z : Nat × Nat), w.heap[b]? = some (.cells c t z) → S.hid b t = true ∨ (∃ n f, g' n = some (.ow f) ∧ r.blk n = some b) → w'.heap[b]? = some (.cells c t z)) : OwOK S r' g' w' := fun n f hn => by
  obtain ⟨v, h1, h2, h3, h4⟩ := h n f (hg n f hn)
  refine ⟨v, hr.val _ _ h1, S.owS f w w' v h2 fun b c t z hb hq => hw b c t z hb (hq.imp id fun q => ⟨n, f, hn, (h4 b q).1⟩), h3, fun b hb => ?_⟩
  obtain ⟨h5, hG, c, t, z, h6, h7⟩ := h4 b hb
  exact ⟨hr.blk _ _ h5, hG, c, t, z, hw b c t z h6 (.inr ⟨n, f, hn, h5⟩), h7⟩
variable {S} in
theorem OwOK.all {r r' : Ren} {g g' : Nat → Option (Blk F)} {w w' : World} (h : OwOK S r g w) (hr : r.le r') (hg : ∀ n f, g' n = some (.ow f) → g n = some (.ow f)) (hw : ∀ (b : Nat) (o : Obj), w.heap[b]? = some o → w'.heap[b]? = some o) : OwOK S r' g' w' :=
  h.mono hr hg fun b _ _ _ hb _ => hw b _ hb
variable {S} in
theorem AdOK.mono {r r' : Ren} {g g' : Nat → Option (Blk F)} (h : AdOK S r g) (hr : r.le r') (hg : ∀ n m x, g' n = some (.ad m x) → g n = some (.ad m x)) : AdOK S r' g' := fun n m x hn => by
  obtain ⟨b, off, h1, h2, h3⟩ := h n m x (hg n m x hn)
  exact ⟨b, off, hr.blk _ _ h1, hr.val _ _ h2, h3⟩
structure Mod (r : Ren) (g : Nat → Option (Blk F)) (w : World) : Prop where
  inj : ∀ n m b, r.blk n = some b → r.blk m = some b → n = m ∨ Gone g n ∨ Gone g m
  lt : ∀ n b, r.blk n = some b → b < w.heap.size
  cells : ∀ n c t, g n = some (.cells c t) → ∃ b c', r.blk n = some b ∧ w.heap[b]? = some (.cells ⟨c'⟩ t (0, 0)) ∧ VsR r c c' ∧ (S.hn n t = false → S.hid b t = false)
  fact : ∀ n f, g n = some (.fact f) → ∃ v, r.val n = some v ∧ S.holds f w v ∧ isOne v = true
  base : S.base w
  glob : ∀ n, n < S.G → r.blk n = some n
  own : ∀ n b, r.blk n = some b → S.G ≤ n → S.G ≤ b
  room : ∀ n c t, g n = some (.room c t) → ∃ b c', r.blk n = some b ∧ w.heap[b]? = some (.cells ⟨c'⟩ t (0, 0)) ∧ VsR r c (c'.take c.length) ∧ (S.hn n t = false → S.hid b t = false) ∧ r.len n ≤ c'.length
  sz : S.lo ≤ w.heap.size
  lp : LpOK r g w
  ow : OwOK S r g w
  ad : AdOK S r g
def New (r : Ren) (lo hi : Nat) : Prop := ∀ n, lo ≤ n → n < hi → r.blk n = none ∧ r.val n = none
structure Ext (r : Ren) (w : World) (lo hi : Nat) (W : List Nat) (g' : Nat → Option (Blk F)) (r' : Ren) (w' : World) : Prop where
  le : r.le r'
  mod : Mod S r' g' w'
  dom : ∀ n, r'.blk n ≠ none ∨ r'.val n ≠ none → (r.blk n ≠ none ∨ r.val n ≠ none) ∨ (lo ≤ n ∧ n < hi)
  new : ∀ n b, r'.blk n = some b → r.blk n = some b ∨ w.heap.size ≤ b ∨ ∃ k ∈ W, r.blk k = some b
  keep : ∀ (b : Nat) (o : Obj), w.heap[b]? = some o → (∀ n ∈ W, r.blk n ≠ some b) → w'.heap[b]? = some o
  size : w.heap.size ≤ w'.heap.size
  os : w'.os = w.os
  tape : w'.tape = w.tape
  output : w'.output = w.output
  loops : Loops w w'
variable {S}
theorem Gone.congr {g g' : Nat → Option (Blk F)} {n : Nat} (e : ∀ n, g' n = none ∨ g' n = g n) (h : Gone g n) : Gone g' n := by
  rcases e n with e | e
  · exact ⟨fun c t k => (by rw [e] at k; cases k), fun c t k => (by rw [e] at k; cases k), ⟨fun s k => (by rw [e] at k; cases k), fun f k => (by rw [e] at k; cases k)⟩⟩
  · exact ⟨fun c t k => h.1 c t (e ▸ k), fun c t k => h.2.1 c t (e ▸ k), ⟨fun s k => h.2.2.1 s (e ▸ k), fun f k => h.2.2.2 f (e ▸ k)⟩⟩
theorem Gone.over_fact {g : Nat → Option (Blk F)} {n : Nat} (nx : Nat) (f : F) (h : Gone g n) : Gone (fun n => if n = nx then some (.fact f) else g n) n := by
  by_cases e : n = nx
  · exact ⟨fun c t => by simp [e], fun c t q => by simp [e] at q, ⟨fun s => by simp [e], fun f => by simp [e]⟩⟩
  · exact ⟨fun c t => by simpa only [if_neg e] using h.1 c t, fun c t => by simpa only [if_neg e] using h.2.1 c t, ⟨fun s => by simpa only [if_neg e] using h.2.2.1 s, fun f => by simpa only [if_neg e] using h.2.2.2 f⟩⟩
theorem Mod.congr {r : Ren} {g g' : Nat → Option (Blk F)} {w : World} (h : Mod S r g w) (e : ∀ n, g' n = none ∨ g' n = g n) : Mod S r g' w :=
  ⟨fun n m b h1 h2 => (h.inj n m b h1 h2).imp id (Or.imp (Gone.congr e) (Gone.congr e)), h.lt, fun n c t hn => h.cells n c t (by rcases e n with e | e <;> rw [e] at hn <;> first | (cases hn; done) | exact hn), fun n f hn => h.fact n f (by rcases e n with e | e <;> rw [e] at hn <;> first | (cases hn; done) | exact hn), h.base, h.glob, h.own, fun n c t hn => h.room n c t (by rcases e n with e | e <;> rw [e] at hn <;> first | (cases hn; done) | exact hn), h.sz, h.lp.mono (.refl r) (fun n s hn => by rcases e n with e | e <;> rw [e] at hn <;> first | (cases hn; done) | exact hn) fun _ _ q => q, h.ow.all (.refl r) (fun n s hn => by rcases e n with e | e <;> rw [e] at hn <;> first | (cases hn; done) | exact hn) fun _ _ q => q, h.ad.mono (.refl r) fun n m x hn => by rcases e n with e | e <;> rw [e] at hn <;> first | (cases hn; done) | exact hn⟩
theorem Ext.refl {r : Ren} {w : World} {g : Nat → Option (Blk F)} (lo hi : Nat) (h : Mod S r g w) : Ext S r w lo hi [] g r w :=
  ⟨.refl r, h, fun _ h => .inl h, fun _ _ h => .inl h, fun _ _ h _ => h, Nat.le_refl _, rfl, rfl, rfl, .refl w⟩
theorem Ext.congr {r r' : Ren} {w w' : World} {lo hi : Nat} {W : List Nat} {g g' : Nat → Option (Blk F)} (h : Ext S r w lo hi W g r' w') (e : ∀ n, g' n = none ∨ g' n = g n) : Ext S r w lo hi W g' r' w' :=
  { h with mod := h.mod.congr e }
theorem Ext.trans {r r1 r2 : Ren} {w w1 w2 : World} {lo mid hi : Nat} {W W2 : List Nat} {g1 g2 : Nat → Option (Blk F)} (h : Ext S r w lo mid W g1 r1 w1) (i : Ext S r1 w1 mid hi W2 g2 r2 w2) (l1 : lo ≤ mid) (l2 : mid ≤ hi) : Ext S r w lo hi (W ++ W2) g2 r2 w2 := by
  refine ⟨h.le.trans i.le, i.mod, fun n hn => ?_, fun n b hn => ?_, fun b o hb hw => ?_, Nat.le_trans h.size i.size, i.os.trans h.os, i.tape.trans h.tape, i.output.trans h.output, h.loops.trans i.loops⟩
  · rcases i.dom n hn with a | ⟨a, b⟩
    · rcases h.dom n a with a | ⟨a, b⟩
      · exact .inl a
      · exact .inr ⟨a, by omega⟩
    · exact .inr ⟨by omega, b⟩
  · rcases i.new n b hn with a | a | ⟨k, hk, a⟩
    · exact (h.new n b a).imp id (Or.imp id fun ⟨k, hk, q⟩ => ⟨k, List.mem_append_left _ hk, q⟩)
    · exact .inr (.inl (Nat.le_trans h.size a))
    · rcases h.new k b a with a | a | ⟨j, hj, a⟩
      · exact .inr (.inr ⟨k, List.mem_append_right _ hk, a⟩)
      · exact .inr (.inl a)
      · exact .inr (.inr ⟨j, List.mem_append_left _ hj, a⟩)
  · refine i.keep b o (h.keep b o hb fun n hn => hw n (List.mem_append_left _ hn)) fun n hn e => ?_
    rcases h.new n b e with a | a | ⟨k, hk, a⟩
    · exact hw n (List.mem_append_right _ hn) a
    · have := (Array.getElem?_eq_some_iff.1 hb).1
      omega
    · exact hw k (List.mem_append_left _ hk) a
theorem New.after {r r1 : Ren} {w w1 : World} {lo mid hi : Nat} {W : List Nat} {g1 : Nat → Option (Blk F)} (hn : New r lo hi) (h : Ext S r w lo mid W g1 r1 w1) (l1 : lo ≤ mid) : New r1 mid hi := by
  intro n a b
  have h0 := hn n (by omega) b
  constructor
  · cases e : r1.blk n with
    | none => rfl
    | some x =>
      rcases h.dom n (.inl (by rw [e]; simp)) with c | c
      · rcases c with c | c
        · exact absurd h0.1 c
        · exact absurd h0.2 c
      · omega
  · cases e : r1.val n with
    | none => rfl
    | some x =>
      rcases h.dom n (.inr (by rw [e]; simp)) with c | c
      · rcases c with c | c
        · exact absurd h0.1 c
        · exact absurd h0.2 c
      · omega
theorem New.sub {r : Ren} {lo hi lo' hi' : Nat} (h : New r lo hi) (a : lo ≤ lo') (b : hi' ≤ hi) : New r lo' hi' := fun n x y => h n (by omega) (by omega)
theorem Ext.below {r r' : Ren} {w w' : World} {lo hi : Nat} {W : List Nat} {g : Nat → Option (Blk F)} (h : Ext S r w lo hi W g r' w') (hN : New r lo hi) (hW : ∀ n ∈ W, n < hi) : Ext S r w lo hi (below lo W) g r' w' :=
  ⟨h.le, h.mod, h.dom, fun n b hn => (h.new n b hn).imp id (Or.imp id fun ⟨k, hk, e⟩ => ⟨k, mem_below.2 ⟨(by
      rcases Nat.lt_or_ge k lo with hl | hl
      · exact hl
      · have := (hN k hl (hW k hk)).1
        rw [this] at e; cases e), hk⟩, e⟩), fun b o hb hw => h.keep b o hb fun n hn e => (by
      rcases Nat.lt_or_ge n lo with hl | hl
      · exact hw n (mem_below.2 ⟨hl, hn⟩) e
      · have := (hN n hl (hW n hn)).1
        rw [this] at e; cases e), h.size, h.os, h.tape, h.output, h.loops⟩
theorem Mod.fits {r : Ren} {g : Nat → Option (Blk F)} {w : World} (h : Mod S r g w) : S.G ≤ w.heap.size := by
  rcases Nat.eq_zero_or_pos S.G with e | e
  · omega
  · have := h.lt _ _ (h.glob (S.G - 1) (by omega)); omega
theorem keep_alloc {w w0 : World} (e : w0.heap = w.heap) (o1 : Obj) (b : Nat) (o : Obj) (hb : w.heap[b]? = some o) : (w0.alloc o1).heap[b]? = some o := by
  have hlt := (Array.getElem?_eq_some_iff.1 hb).1
  show (w0.heap.push _)[b]? = _
  rw [e, Array.getElem?_push_lt hlt, ← hb, Array.getElem?_eq_getElem hlt]
theorem ext_new {r : Ren} {w w0 : World} {g : Nat → Option (Blk F)} {nx : Nat} {x : Blk F} {c' : List Value} {t : TypeId} (hM : Mod S r g w) (hN : New r nx (nx + 1)) (e0 : w0.heap = w.heap) (e1 : w0.os = w.os) (e2 : w0.tape = w.tape) (e3 : w0.output = w.output)
    (hx : (∃ c, x = .cells c t ∧ VsR r c c') ∨ ∃ c, x = .room c t ∧ VsR r c (c'.take c.length)) :
    ∃ r', Ext S r w nx (nx + 1) [] (fun n => if n = nx then some x else g n) r' (w0.alloc (.cells ⟨c'⟩ t)) ∧ r'.blk nx = some w.heap.size ∧ r'.len nx = c'.length := by
  have hno := hN nx (Nat.le_refl _) (Nat.lt_succ_self _)
  have hle : r.le ⟨fun n => if n = nx then some w.heap.size else r.blk n, r.val, fun n => if n = nx then c'.length else r.len n⟩ := by
    refine ⟨fun n b e => ?_, fun _ _ e => e, fun n b e => ?_⟩
    · have : n ≠ nx := fun h => by rw [h, hno.1] at e; cases e
      simp only [if_neg this, e]
    · have : n ≠ nx := fun h => by rw [h, hno.1] at e; cases e
      simp only [if_neg this]
  have hkeep := keep_alloc (w := w) e0 (.cells ⟨c'⟩ t)
  have hnew : (w0.alloc (.cells ⟨c'⟩ t)).heap[w.heap.size]? = some (.cells ⟨c'⟩ t (0, 0)) := by show (w0.heap.push _)[w.heap.size]? = _; rw [e0]; simp
  refine ⟨⟨fun n => if n = nx then some w.heap.size else r.blk n, r.val, fun n => if n = nx then c'.length else r.len n⟩, ⟨hle, ⟨?_, ?_, ?_, ?_, S.baseS _ _ hM.base fun b o _ hb => hkeep b o hb, fun n hn => hle.blk _ _ (hM.glob n hn), ?_, ?_, ?_, hM.lp.mono hle (fun n s hn => by
    by_cases h : n = nx
    · simp only [if_pos h, Option.some.injEq] at hn
      rcases hx with ⟨c, rfl, _⟩ | ⟨c, rfl, _⟩ <;> cases hn
    · simpa only [if_neg h] using hn) fun b L hb => hkeep b _ hb, hM.ow.all hle (fun n s hn => by
    by_cases h : n = nx
    · simp only [if_pos h, Option.some.injEq] at hn
      rcases hx with ⟨c, rfl, _⟩ | ⟨c, rfl, _⟩ <;> cases hn
    · simpa only [if_neg h] using hn) hkeep, hM.ad.mono hle fun n m x hn => by
    by_cases h : n = nx
    · simp only [if_pos h, Option.some.injEq] at hn
      rcases hx with ⟨c, rfl, _⟩ | ⟨c, rfl, _⟩ <;> cases hn
    · simpa only [if_neg h] using hn⟩, ?_, ?_, fun b o hb _ => hkeep b o hb, ?_, e1, e2, e3, .of hkeep⟩, by simp, by simp⟩
  · intro n m b hn hm
    simp only at hn hm
    split at hn <;> split at hm
    · exact .inl (by omega)
    · have := hM.lt m b hm
      simp only [Option.some.injEq] at hn; omega
    · have := hM.lt n b hn
      simp only [Option.some.injEq] at hm; omega
    · rename_i h1 h2
      refine (hM.inj n m b hn hm).imp id (Or.imp (fun k => ?_) (fun k => ?_))
      · exact ⟨fun c t => by simpa only [if_neg h1] using k.1 c t, fun c t => by simpa only [if_neg h1] using k.2.1 c t, ⟨fun s => by simpa only [if_neg h1] using k.2.2.1 s, fun f => by simpa only [if_neg h1] using k.2.2.2 f⟩⟩
      · exact ⟨fun c t => by simpa only [if_neg h2] using k.1 c t, fun c t => by simpa only [if_neg h2] using k.2.1 c t, ⟨fun s => by simpa only [if_neg h2] using k.2.2.1 s, fun f => by simpa only [if_neg h2] using k.2.2.2 f⟩⟩
  · intro n b hn
    have hs : (w0.alloc (.cells ⟨c'⟩ t)).heap.size = w.heap.size + 1 := by show (w0.heap.push _).size = _; rw [e0]; simp
    rw [hs]
    simp only at hn
    split at hn
    · simp only [Option.some.injEq] at hn; omega
    · have := hM.lt n b hn; omega
  · intro n d u hn
    by_cases h : n = nx
    · simp only [if_pos h, Option.some.injEq] at hn
      rcases hx with ⟨c, rfl, hc⟩ | ⟨c, rfl, hc⟩
      · cases hn
        exact ⟨w.heap.size, c', by simp [h], hnew, hc.mono hle, S.new _ _ _ hM.sz⟩
      · cases hn
    · simp only [if_neg h] at hn
      obtain ⟨b, d', h1, h2, h3, h4⟩ := hM.cells n d u hn
      exact ⟨b, d', by simp only [if_neg h, h1], hkeep b _ h2, h3.mono hle, h4⟩
  · intro n f hn
    by_cases h : n = nx
    · simp only [if_pos h, Option.some.injEq] at hn
      rcases hx with ⟨c, rfl, hc⟩ | ⟨c, rfl, hc⟩ <;> cases hn
    · simp only [if_neg h] at hn
      obtain ⟨v, h1, h2, h3⟩ := hM.fact n f hn
      exact ⟨v, h1, S.stable f w _ v h2 fun b c t z hb _ => hkeep b _ hb, h3⟩
  · intro n b hn hG
    simp only at hn
    split at hn
    · simp only [Option.some.injEq] at hn; have := hM.fits; omega
    · exact hM.own n b hn hG
  · intro n d u hn
    by_cases h : n = nx
    · simp only [if_pos h, Option.some.injEq] at hn
      rcases hx with ⟨c, rfl, hc⟩ | ⟨c, rfl, hc⟩
      · cases hn
      · cases hn
        exact ⟨w.heap.size, c', by simp [h], hnew, hc.mono hle, S.new _ _ _ hM.sz, by simp [h]⟩
    · simp only [if_neg h] at hn
      obtain ⟨b, d', h1, h2, h3, h4, h5⟩ := hM.room n d u hn
      exact ⟨b, d', by simp only [if_neg h, h1], hkeep b _ h2, h3.mono hle, h4, by simp only [if_neg h]; exact h5⟩
  · show S.lo ≤ (w0.heap.push _).size
    have := hM.sz
    rw [e0]; simp; omega
  · intro n hn
    by_cases h : n = nx
    · exact .inr ⟨by omega, by omega⟩
    · simp only [if_neg h] at hn
      exact .inl hn
  · intro n b hn
    simp only at hn
    split at hn
    · simp only [Option.some.injEq] at hn; exact .inr (.inl (by omega))
    · exact .inl hn
  · show w.heap.size ≤ (w0.heap.push _).size
    rw [e0]; simp
theorem ext_fresh {r : Ren} {w : World} {g : Nat → Option (Blk F)} {nx : Nat} {c c' : List Value} {t : TypeId} (hM : Mod S r g w) (hN : New r nx (nx + 1)) (hc : VsR r c c') :
    ∃ r', Ext S r w nx (nx + 1) [] (fun n => if n = nx then some (.cells c t) else g n) r' (w.alloc (.cells ⟨c'⟩ t)) ∧ r'.blk nx = some w.heap.size := by
  obtain ⟨r', h1, h2, _⟩ := ext_new (x := .cells c t) hM hN rfl rfl rfl rfl (.inl ⟨c, rfl, hc⟩)
  exact ⟨r', h1, h2⟩
theorem Mod.kill {r : Ren} {g : Nat → Option (Blk F)} {w : World} {n : Nat} {c : List Value} {t : TypeId} (h : Mod S r g w) (hn : g n = some (.room c t)) : Mod S r (fun k => if k = n then some (.room [] t) else g k) w := by
  have hG : ∀ k, Gone g k → Gone (fun k => if k = n then some (.room [] t) else g k) k := by
    intro k hk
    by_cases e : k = n
    · subst e; exact ⟨fun c t => by simp, fun c t q => by simp at q; exact q.1, ⟨fun s => by simp, fun f => by simp⟩⟩
    · exact ⟨fun c t => by simpa only [if_neg e] using hk.1 c t, fun c t => by simpa only [if_neg e] using hk.2.1 c t, ⟨fun s => by simpa only [if_neg e] using hk.2.2.1 s, fun f => by simpa only [if_neg e] using hk.2.2.2 f⟩⟩
  refine ⟨fun a m b h1 h2 => (h.inj a m b h1 h2).imp id (Or.imp (hG _) (hG _)), h.lt, fun k d u hk => ?_, fun k f hk => ?_, h.base, h.glob, h.own, fun k d u hk => ?_, h.sz, h.lp.mono (.refl r) (fun k s hk => by
    by_cases e : k = n
    · simp only [if_pos e, Option.some.injEq] at hk; cases hk
    · simpa only [if_neg e] using hk) fun _ _ q => q, h.ow.all (.refl r) (fun k s hk => by
    by_cases e : k = n
    · simp only [if_pos e, Option.some.injEq] at hk; cases hk
    · simpa only [if_neg e] using hk) fun _ _ q => q, h.ad.mono (.refl r) fun k m x hk => by
    by_cases e : k = n
    · simp only [if_pos e, Option.some.injEq] at hk; cases hk
    · simpa only [if_neg e] using hk⟩
  · by_cases e : k = n
    · simp only [if_pos e, Option.some.injEq] at hk; cases hk
    · simp only [if_neg e] at hk; exact h.cells k d u hk
  · by_cases e : k = n
    · simp only [if_pos e, Option.some.injEq] at hk; cases hk
    · simp only [if_neg e] at hk; exact h.fact k f hk
  · by_cases e : k = n
    · simp only [if_pos e, Option.some.injEq] at hk
      cases hk
      subst e
      obtain ⟨b, c', h1, h2, h3, h4, h5⟩ := h.room _ c t hn
      exact ⟨b, c', h1, h2, by simpa using VsR.nil, h4, h5⟩
    · simp only [if_neg e] at hk; exact h.room k d u hk
theorem ext_put {r : Ren} {w : World} {g : Nat → Option (Blk F)} {nx m : Nat} {x y : Blk F} {c c' d d' : List Value} {t : TypeId} {b : Nat} (hM : Mod S r g w) (hg : g m = some x) (hb : r.blk m = some b)
    (hx : (x = .cells c t ∧ y = .cells d t ∧ VsR r d d') ∨ (x = .room c t ∧ y = .room d t ∧ VsR r d (d'.take d.length)))
    (hc : c ≠ []) (hh : w.heap[b]? = some (.cells ⟨c'⟩ t (0, 0))) (hl : d'.length = c'.length)
    (hG : S.G ≤ m) (hn : S.hn m t = false) {w' : World} (hw : w'.heap = w.heap.setIfInBounds b (.cells ⟨d'⟩ t (0, 0))) (e1 : w'.os = w.os) (e2 : w'.tape = w.tape) (e3 : w'.output = w.output) :
    Ext S r w nx nx [m] (fun n => if n = m then some y else g n) r w' := by
  have ht : S.hid b t = false := by
    rcases hx with ⟨rfl, _, _⟩ | ⟨rfl, _, _⟩
    · obtain ⟨b2, _, q1, _, _, q⟩ := hM.cells m c t hg
      rw [hb] at q1; cases q1; exact q hn
    · obtain ⟨b2, _, q1, _, _, q, _⟩ := hM.room m c t hg
      rw [hb] at q1; cases q1; exact q hn
  have hgm : ¬ Gone g m := by
    intro q
    rcases hx with ⟨rfl, _, _⟩ | ⟨rfl, _, _⟩
    · exact absurd hg (q.1 c t)
    · exact hc (q.2.1 c t hg)
  have hlt := hM.lt m b hb
  have hs : w'.heap.size = w.heap.size := by rw [hw]; simp
  have hne : ∀ x, x ≠ b → w'.heap[x]? = w.heap[x]? := fun x hx => by rw [hw, Array.getElem?_setIfInBounds_ne (fun e => hx e.symm)]
  have hself : w'.heap[b]? = some (.cells ⟨d'⟩ t (0, 0)) := by rw [hw]; simp [hlt]
  have hGk : ∀ k, Gone g k → Gone (fun n => if n = m then some y else g n) k := by
    intro k hk
    have e : k ≠ m := fun e => hgm (e ▸ hk)
    exact ⟨fun c t => by simpa only [if_neg e] using hk.1 c t, fun c t => by simpa only [if_neg e] using hk.2.1 c t, ⟨fun s => by simpa only [if_neg e] using hk.2.2.1 s, fun f => by simpa only [if_neg e] using hk.2.2.2 f⟩⟩
  have hlo : ∀ (x : Nat) (L : Loop), w.heap[x]? = some (.loop L) → w'.heap[x]? = some (.loop L) := fun x L q => by
    rw [hne x (fun e => by rw [e, hh] at q; cases q)]; exact q
  refine ⟨.refl r, ⟨fun n k b h1 h2 => (hM.inj n k b h1 h2).imp id (Or.imp (hGk _) (hGk _)), fun n b hn => by rw [hs]; exact hM.lt n b hn, ?_, ?_, S.baseS w _ hM.base (fun x o hx ho => by rw [hne x (fun e => by have := hM.own m b hb hG; omega)]; exact ho), hM.glob, hM.own, ?_, by rw [hs]; exact hM.sz, hM.lp.mono (.refl r) (fun n s hn => by
    by_cases h : n = m
    · simp only [if_pos h, Option.some.injEq] at hn
      rcases hx with ⟨_, rfl, _⟩ | ⟨_, rfl, _⟩ <;> cases hn
    · simpa only [if_neg h] using hn) hlo, hM.ow.mono (.refl r) (fun n s hn => by
    by_cases h : n = m
    · simp only [if_pos h, Option.some.injEq] at hn
      rcases hx with ⟨_, rfl, _⟩ | ⟨_, rfl, _⟩ <;> cases hn
    · simpa only [if_neg h] using hn) (fun x c2 t2 z hx2 hq => by
    rw [hne x (fun e => ?_)]
    · exact hx2
    · subst e
      rcases hq with hid | ⟨n, f, hn, hnb⟩
      · rw [hh] at hx2
        simp only [Option.some.injEq, Obj.cells.injEq] at hx2
        rw [← hx2.2.1, ht] at hid; cases hid
      · by_cases h : n = m
        · simp only [if_pos h, Option.some.injEq] at hn
          rcases hx with ⟨_, rfl, _⟩ | ⟨_, rfl, _⟩ <;> cases hn
        · simp only [if_neg h] at hn
          rcases hM.inj n m x hnb hb with q | q | q
          · exact h q
          · exact q.2.2.2 f hn
          · exact hgm q), hM.ad.mono (.refl r) fun n k x hn => by
    by_cases h : n = m
    · simp only [if_pos h, Option.some.injEq] at hn
      rcases hx with ⟨_, rfl, _⟩ | ⟨_, rfl, _⟩ <;> cases hn
    · simpa only [if_neg h] using hn⟩, fun _ h => .inl h, fun _ _ h => .inl h, ?_, by rw [hs]; exact Nat.le_refl _, e1, e2, e3, ⟨fun x L q => ⟨L, hlo x L q, .inl rfl⟩, fun x c2 t2 z q => by
    by_cases e : x = b
    · subst e
      rw [hh] at q
      simp only [Option.some.injEq, Obj.cells.injEq] at q
      obtain ⟨q1, rfl, rfl⟩ := q
      exact ⟨⟨d'⟩, hself, by rw [← q1]; simpa using hl⟩
    · exact ⟨c2, by rw [hne x e]; exact q, rfl⟩⟩⟩
  · intro n e u hn
    by_cases h : n = m
    · simp only [if_pos h, Option.some.injEq] at hn
      rcases hx with ⟨rfl, rfl, hd⟩ | ⟨rfl, rfl, hd⟩
      · cases hn
        exact ⟨b, d', by rw [h]; exact hb, hself, hd, fun _ => ht⟩
      · cases hn
    · simp only [if_neg h] at hn
      obtain ⟨b2, d2, h1, h2, h3, h4⟩ := hM.cells n e u hn
      refine ⟨b2, d2, h1, ?_, h3, h4⟩
      rw [hne b2 (fun q => ?_)]
      · exact h2
      · subst q
        rcases hM.inj n m b2 h1 hb with q | q | q
        · exact h q
        · exact q.1 e u hn
        · exact hgm q
  · intro n f hn
    by_cases h : n = m
    · simp only [if_pos h, Option.some.injEq] at hn
      rcases hx with ⟨rfl, rfl, hd⟩ | ⟨rfl, rfl, hd⟩ <;> cases hn
    · simp only [if_neg h] at hn
      obtain ⟨v, h1, h2, h3⟩ := hM.fact n f hn
      refine ⟨v, h1, S.stable f w _ v h2 fun x c2 t2 z hx hid => ?_, h3⟩
      rw [hne x (fun e => by
        rw [e, hh] at hx
        simp only [Option.some.injEq, Obj.cells.injEq] at hx
        rw [e, ← hx.2.1, ht] at hid; cases hid)]
      exact hx
  · intro n e u hn
    by_cases h : n = m
    · simp only [if_pos h, Option.some.injEq] at hn
      rcases hx with ⟨rfl, rfl, hd⟩ | ⟨rfl, rfl, hd⟩
      · cases hn
      · cases hn
        subst h
        obtain ⟨b2, d2, h1, h2, _, _, h5⟩ := hM.room _ _ _ hg
        obtain rfl : b2 = b := by rw [hb] at h1; injection h1 with q; exact q.symm
        rw [hh] at h2
        simp only [Option.some.injEq, Obj.cells.injEq, Array.mk.injEq] at h2
        exact ⟨b2, d', hb, hself, hd, fun _ => ht, by rw [hl, h2.1]; exact h5⟩
    · simp only [if_neg h] at hn
      obtain ⟨b2, d2, h1, h2, h3, h4, h5⟩ := hM.room n e u hn
      by_cases hbb : b2 = b
      · subst hbb
        rcases hM.inj n m b2 h1 hb with q | q | q
        · exact absurd q h
        · obtain rfl := q.2.1 e u hn
          rw [hh] at h2
          simp only [Option.some.injEq, Obj.cells.injEq, Array.mk.injEq] at h2
          obtain ⟨h2, rfl, _⟩ := h2
          exact ⟨b2, d', h1, hself, by simpa using VsR.nil, h4, by rw [hl, h2]; exact h5⟩
        · exact absurd q hgm
      · exact ⟨b2, d2, h1, by rw [hne b2 hbb]; exact h2, h3, h4, h5⟩
  · intro x o hx hn
    rw [hne x (fun e => hn m (by simp) (e ▸ hb))]; exact hx
theorem ext_move {r : Ren} {w : World} {g : Nat → Option (Blk F)} {nx m : Nat} {c c' d d' : List Value} {t : TypeId} {b : Nat} (hM : Mod S r g w) (hN : New r nx (nx + 1)) (hm : m ≠ nx) (hg : g m = some (.room c t)) (hb : r.blk m = some b)
    (hc : c ≠ []) (hd : VsR r d (d'.take d.length)) (hh : w.heap[b]? = some (.cells ⟨c'⟩ t (0, 0))) (hl : d'.length = c'.length)
    (hG : S.G ≤ m) (hn : S.hn m t = false) {w' : World} (hw : w'.heap = w.heap.setIfInBounds b (.cells ⟨d'⟩ t (0, 0))) (e1 : w'.os = w.os) (e2 : w'.tape = w.tape) (e3 : w'.output = w.output) :
    ∃ r', Ext S r w nx (nx + 1) [m] (fun n => if n = nx then some (.room d t) else if n = m then some (.room [] t) else g n) r' w' ∧ r'.blk nx = some b ∧ r'.len nx = d'.length := by
  have hX := ext_put (nx := nx) (y := .room d t) hM hg hb (.inr ⟨rfl, rfl, hd⟩) hc hh hl hG hn hw e1 e2 e3
  have hK := hX.mod.kill (n := m) (c := d) (t := t) (by simp)
  have hno := hN nx (Nat.le_refl _) (Nat.lt_succ_self _)
  have hself : w'.heap[b]? = some (.cells ⟨d'⟩ t (0, 0)) := by rw [hw]; simp [hM.lt m b hb]
  have ht : S.hid b t = false := by
    obtain ⟨b2, _, q1, _, _, q, _⟩ := hM.room m c t hg
    rw [hb] at q1; cases q1; exact q hn
  have hle : r.le ⟨fun n => if n = nx then some b else r.blk n, r.val, fun n => if n = nx then d'.length else r.len n⟩ := by
    refine ⟨fun n b e => ?_, fun _ _ e => e, fun n b e => ?_⟩
    · have : n ≠ nx := fun h => by rw [h, hno.1] at e; cases e
      simp only [if_neg this, e]
    · have : n ≠ nx := fun h => by rw [h, hno.1] at e; cases e
      simp only [if_neg this]
  have hGo : ∀ k, k ≠ nx → Gone (fun k => if k = m then some (.room [] t) else (fun n => if n = m then some (Blk.room d t) else g n) k) k → Gone (fun n => if n = nx then some (.room d t) else if n = m then some (.room [] t) else g n) k := by
    intro k hk q
    refine ⟨fun c t => ?_, fun c t => ?_, fun s => ?_, fun f => ?_⟩
    · have := q.1 c t
      simp only [if_neg hk]
      by_cases e : k = m
      · simp [e]
      · simpa only [if_neg e] using this
    · have := q.2.1 c t
      simp only [if_neg hk]
      by_cases e : k = m
      · simp only [if_pos e, Option.some.injEq, Blk.room.injEq]; exact fun q => q.1.symm
      · simpa only [if_neg e] using this
    · have := q.2.2.1 s
      simp only [if_neg hk]
      by_cases e : k = m
      · simp [e]
      · simpa only [if_neg e] using this
    · have := q.2.2.2 f
      simp only [if_neg hk]
      by_cases e : k = m
      · simp [e]
      · simpa only [if_neg e] using this
  have hGm : Gone (fun n => if n = nx then some (Blk.room d t) else if n = m then some (.room [] t) else g n) m := by
    have : m ≠ nx := hm
    exact ⟨fun c t => by simp [this], fun c t q => by simp [this] at q; exact q.1, ⟨fun s => by simp [this], fun f => by simp [this]⟩⟩
  refine ⟨⟨fun n => if n = nx then some b else r.blk n, r.val, fun n => if n = nx then d'.length else r.len n⟩, ⟨hle, ⟨?_, ?_, ?_, ?_, hK.base, fun n hn => hle.blk _ _ (hK.glob n hn), ?_, ?_, hK.sz, hK.lp.mono hle (fun n s hn => by
    by_cases h : n = nx
    · simp only [if_pos h, Option.some.injEq] at hn; cases hn
    · simp only [if_neg h] at hn
      by_cases h' : n = m
      · simp only [if_pos h', Option.some.injEq] at hn; cases hn
      · simp only [if_neg h'] at hn ⊢; exact hn) fun _ _ q => q, hK.ow.all hle (fun n s hn => by
    by_cases h : n = nx
    · simp only [if_pos h, Option.some.injEq] at hn; cases hn
    · simp only [if_neg h] at hn
      by_cases h' : n = m
      · simp only [if_pos h', Option.some.injEq] at hn; cases hn
      · simp only [if_neg h'] at hn ⊢; exact hn) fun _ _ q => q, hK.ad.mono hle fun n k x hn => by
    by_cases h : n = nx
    · simp only [if_pos h, Option.some.injEq] at hn; cases hn
    · simp only [if_neg h] at hn
      by_cases h' : n = m
      · simp only [if_pos h', Option.some.injEq] at hn; cases hn
      · simp only [if_neg h'] at hn ⊢; exact hn⟩, ?_, ?_, hX.keep, hX.size, hX.os, hX.tape, hX.output, hX.loops⟩, by simp, by simp⟩
  · intro n k a hn hk
    simp only at hn hk
    by_cases h1 : n = nx <;> by_cases h2 : k = nx
    · exact .inl (by omega)
    · simp only [if_pos h1, if_neg h2, Option.some.injEq] at hn hk
      subst hn
      rcases hK.inj k m b hk hb with q | q | q
      · subst q; exact .inr (.inr hGm)
      · exact .inr (.inr (hGo k h2 q))
      · exact (hM.inj k m b hk hb).elim (fun q => by subst q; exact .inr (.inr hGm)) (fun q => q.elim (fun q => .inr (.inr (hGo k h2 (by
          by_cases e : k = m
          · subst e; exact ⟨fun c t => by simp, fun c t q => by simp at q; exact q.1, ⟨fun s => by simp, fun f => by simp⟩⟩
          · exact ⟨fun c t => by simpa only [if_neg e] using q.1 c t, fun c t => by simpa only [if_neg e] using q.2.1 c t, ⟨fun s => by simpa only [if_neg e] using q.2.2.1 s, fun f => by simpa only [if_neg e] using q.2.2.2 f⟩⟩)))) (fun q => absurd (q.2.1 c t hg) hc))
    · simp only [if_neg h1, if_pos h2, Option.some.injEq] at hn hk
      subst hk
      exact (hM.inj n m b hn hb).elim (fun q => by subst q; exact .inr (.inl hGm)) (fun q => q.elim (fun q => .inr (.inl (hGo n h1 (by
          by_cases e : n = m
          · subst e; exact ⟨fun c t => by simp, fun c t q => by simp at q; exact q.1, ⟨fun s => by simp, fun f => by simp⟩⟩
          · exact ⟨fun c t => by simpa only [if_neg e] using q.1 c t, fun c t => by simpa only [if_neg e] using q.2.1 c t, ⟨fun s => by simpa only [if_neg e] using q.2.2.1 s, fun f => by simpa only [if_neg e] using q.2.2.2 f⟩⟩)))) (fun q => absurd (q.2.1 c t hg) hc))
    · simp only [if_neg h1, if_neg h2] at hn hk
      exact (hK.inj n k a hn hk).imp id (Or.imp (hGo n h1) (hGo k h2))
  · intro n a hn
    simp only at hn
    split at hn
    · simp only [Option.some.injEq] at hn; subst hn; exact hK.lt m b hb
    · exact hK.lt n a hn
  · intro n e u hn
    by_cases h : n = nx
    · simp only [if_pos h, Option.some.injEq] at hn; cases hn
    · simp only [if_neg h] at hn
      by_cases h' : n = m
      · simp only [if_pos h', Option.some.injEq] at hn; cases hn
      · simp only [if_neg h'] at hn
        obtain ⟨b2, d2, h1, h2, h3, h4⟩ := hK.cells n e u (by simp only [if_neg h']; exact hn)
        exact ⟨b2, d2, by simp only [if_neg h, h1], h2, h3.mono hle, h4⟩
  · intro n f hn
    by_cases h : n = nx
    · simp only [if_pos h, Option.some.injEq] at hn; cases hn
    · simp only [if_neg h] at hn
      by_cases h' : n = m
      · simp only [if_pos h', Option.some.injEq] at hn; cases hn
      · simp only [if_neg h'] at hn
        obtain ⟨v, h1, h2, h3⟩ := hK.fact n f (by simp only [if_neg h']; exact hn)
        exact ⟨v, h1, h2, h3⟩
  · intro n a hn hGn
    simp only at hn
    split at hn
    · simp only [Option.some.injEq] at hn; subst hn; exact hM.own m b hb hG
    · exact hM.own n a hn hGn
  · intro n e u hn
    by_cases h : n = nx
    · simp only [if_pos h, Option.some.injEq, Blk.room.injEq] at hn
      obtain ⟨rfl, rfl⟩ := hn
      exact ⟨b, d', by simp [h], hself, hd.mono hle, fun _ => ht, by simp [h]⟩
    · simp only [if_neg h] at hn
      obtain ⟨b2, d2, h1, h2, h3, h4, h5⟩ := hK.room n e u (by
        by_cases h' : n = m
        · simp only [if_pos h'] at hn ⊢; exact hn
        · simp only [if_neg h'] at hn ⊢; exact hn)
      exact ⟨b2, d2, by simp only [if_neg h, h1], h2, h3.mono hle, h4, by simp only [if_neg h]; exact h5⟩
  · intro n hn
    by_cases h : n = nx
    · exact .inr ⟨by omega, by omega⟩
    · simp only [if_neg h] at hn; exact .inl hn
  · intro n a hn
    simp only at hn
    split at hn
    · simp only [Option.some.injEq] at hn; subst hn; exact .inr (.inr ⟨m, by simp, hb⟩)
    · exact .inl hn
end
end Ev
end Go.Proofs.YtfmebfkdpfbjbaaGreatDoor
