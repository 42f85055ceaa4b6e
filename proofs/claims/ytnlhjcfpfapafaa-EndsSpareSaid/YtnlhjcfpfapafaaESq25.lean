/- Contracts. -/
import Derived.Test.YtnlhjcfpfapafaaESq23
import Derived.Test.YtnlhjcfpfapafaaESq24
namespace Go.Proofs.Ytnlhjcfpfapafaa
open Go Go.RowKit
namespace Ev
section
variable {F : Type} {S : Sig F}
theorem Mod.reown {r : Ren} {g : Nat → Option (Blk F)} {w : World} {m : Nat} {x : F} {v : Value} (hM : Mod S r g w) (hv : (Sl.ow x).is S w v) (hval : r.val m = some v) (hb : ∀ b, blkV v = some b → r.blk m = some b)
  (hu : ∀ b k, r.blk m = some b → k ≠ m → r.blk k = some b → Gone g k) : Mod S r (fun n => if n = m then some (.ow x) else g n) w := by
 have hgo : ∀ k, k ≠ m → Gone g k → Gone (fun n => if n = m then some (.ow x) else g n) k := fun k e q =>
  ⟨fun c t => by simpa only [if_neg e] using q.1 c t, fun c t => by simpa only [if_neg e] using q.2.1 c t, ⟨fun s => by simpa only [if_neg e] using q.2.2.1 s, fun f => by simpa only [if_neg e] using q.2.2.2 f⟩⟩
 refine ⟨fun n k b h1 h2 => ?_, hM.lt, fun n c t h1 => ?_, fun n f h1 => ?_, hM.base, hM.glob, hM.own, fun n c t h1 => ?_, hM.sz, hM.lp.mono (.refl r) (fun n s h1 => ?_) (fun _ _ q => q), fun n f h1 => ?_, hM.ad.mono (.refl r) fun n k y h1 => ?_⟩
 ·by_cases e1 : n = m <;> by_cases e2 : k = m
  ·exact .inl (by omega)
  ·exact .inr (.inr (hgo k e2 (hu b k (e1 ▸ h1) e2 h2)))
  ·exact .inr (.inl (hgo n e1 (hu b n (e2 ▸ h2) e1 h1)))
  ·exact (hM.inj n k b h1 h2).imp id (Or.imp (hgo n e1) (hgo k e2))
 ·split at h1
  ·cases h1
  ·exact hM.cells n c t h1
 ·split at h1
  ·cases h1
  ·exact hM.fact n f h1
 ·split at h1
  ·cases h1
  ·exact hM.room n c t h1
 ·split at h1
  ·cases h1
  ·exact h1
 ·split at h1
  ·rename_i e
   cases h1
   subst e
   exact ⟨v, hval, hv.1, hv.2.1, fun b q => ⟨hb b q, hv.2.2 b q⟩⟩
  ·exact hM.ow n f h1
 ·split at h1
  ·cases h1
  ·exact h1
theorem frm_set {w w' : World} {b : Nat} {c' d' : List Value} {t : TypeId} {z : Nat × Nat} (hh : w.heap[b]? = some (.cells ⟨c'⟩ t z)) (hl : d'.length = c'.length) (hw : w'.heap = w.heap.setIfInBounds b (.cells ⟨d'⟩ t z)) (e1 : w'.os = w.os) (e2 : w'.tape = w.tape) (e3 : w'.output = w.output) : Frm [b] w w' := by
 have hne : ∀ x, x ≠ b → w'.heap[x]? = w.heap[x]? := fun x hx => by rw [hw, Array.getElem?_setIfInBounds_ne (fun e => hx e.symm)]
 have hlt := (Array.getElem?_eq_some_iff.1 hh).1
 have hself : w'.heap[b]? = some (.cells ⟨d'⟩ t z) := by rw [hw]; simp [hlt]
 refine ⟨fun x o hx hn => by rw [hne x (by simpa using hn)]; exact hx, by rw [hw]; simp, e1, e2, e3, ⟨fun x L q => ⟨L, ?_, .inl rfl⟩, fun x c2 t2 z2 q => ?_⟩⟩
 ·rw [hne x (fun e => by rw [e, hh] at q; cases q)]; exact q
 ·by_cases e : x = b
  ·subst e
   rw [hh] at q
   simp only [Option.some.injEq, Obj.cells.injEq] at q
   obtain ⟨q1, rfl, rfl⟩ := q
   exact ⟨⟨d'⟩, hself, by rw [← q1]; simpa using hl⟩
  ·exact ⟨c2, by rw [hne x e]; exact q, rfl⟩
theorem ext_owput {r : Ren} {w w' : World} {g : Nat → Option (Blk F)} {nx m : Nat} {f f' : F} {v : Value} {b : Nat} {c' d' : List Value} {t : TypeId} {z : Nat × Nat} (hM : Mod S r g w) (hg : g m = some (.ow f)) (hval : r.val m = some v) (hbv : blkV v = some b) (hh : w.heap[b]? = some (.cells ⟨c'⟩ t z)) (hl : d'.length = c'.length)
  (hw : w'.heap = w.heap.setIfInBounds b (.cells ⟨d'⟩ t z)) (e1 : w'.os = w.os) (e2 : w'.tape = w.tape) (e3 : w'.output = w.output) (hf : S.ow f' w' v) : Ext S r w nx nx [m] (fun n => if n = m then some (.ow f') else g n) r w' := by
 obtain ⟨v0, q1, q2, q3, q4⟩ := hM.ow m f hg
 rw [hval] at q1
 cases q1
 obtain ⟨k1, k2, c0, t0, z0, k3, k4⟩ := q4 b hbv
 have hF := frm_set hh hl hw e1 e2 e3
 have hself : w'.heap[b]? = some (.cells ⟨d'⟩ t z) := by rw [hw]; simp [(Array.getElem?_eq_some_iff.1 hh).1]
 rw [hh] at k3
 simp only [Option.some.injEq, Obj.cells.injEq] at k3
 obtain ⟨_, rfl, rfl⟩ := k3
 have hMf := mod_frame (I := [m]) (O := [b]) hM (fun i hi => ⟨f, by rw [List.mem_singleton.1 hi]; exact hg⟩) (fun x hx => ⟨m, by simp, by rw [List.mem_singleton.1 hx]; exact k1⟩) (fun x hx => by rw [List.mem_singleton.1 hx]; exact ⟨k2, _, _, _, hh, k4⟩) hF
 have hMr := hMf.reown (m := m) (x := f') (v := v) ⟨hf, q3, fun x hx => by rw [hbv] at hx; cases hx; exact ⟨k2, _, _, _, hself, k4⟩⟩ hval (fun x hx => by rw [hbv] at hx; cases hx; exact k1) fun x k hx hk hk2 => by
  rcases hM.inj k m x hk2 hx with q | q | q
  ·exact absurd q hk
  ·have e : k ∉ [m] := by simpa using hk
   exact ⟨fun c t => by simpa only [if_neg e] using q.1 c t, fun c t => by simpa only [if_neg e] using q.2.1 c t, ⟨fun s => by simpa only [if_neg e] using q.2.2.1 s, fun f => by simpa only [if_neg e] using q.2.2.2 f⟩⟩
  ·exact absurd hg (q.2.2.2 f)
 refine ⟨.refl r, hMr.congr fun n => .inr ?_, fun _ h => .inl h, fun _ _ h => .inl h, fun x o hx hn => hF.keep x o hx fun q => hn m (by simp) (by rw [List.mem_singleton.1 q]; exact k1), hF.size, e1, e2, e3, hF.loops⟩
 by_cases e : n = m
 ·simp [e]
 ·simp [e]
theorem ext_ownew {r : Ren} {g : Nat → Option (Blk F)} {w w' : World} {nx : Nat} {I O : List Nat} {x : F} {v : Value} (hM : Mod S r g w) (hN : New r nx (nx + 1)) (hI : ∀ i ∈ I, ∃ y, g i = some (.ow y)) (hO : ∀ b ∈ O, ∃ i ∈ I, r.blk i = some b) (hOc : ∀ b ∈ O, S.G ≤ b ∧ ∃ c t z, w.heap[b]? = some (.cells c t z) ∧ S.hid b t = false)
  (hf : Frm O w w') (hv : (Sl.ow x).is S w' v) (hb : ∀ b, blkV v = some b → b ∈ O ∨ w.heap.size ≤ b) :
  ∃ r', Ext S r w nx (nx + 1) I (fun n => if n = nx then some (.ow x) else if n ∈ I then some .opq else g n) r' w' ∧ r'.val nx = some v := by
 have hM1 := mod_frame hM hI hO hOc hf
 obtain ⟨hle, hM2⟩ := mod_ow (x := x) (v := v) hM1 hN hv fun b hbv k hk => by
  rcases hb b hbv with q | q
  ·obtain ⟨i, g1, g2⟩ := hO b q
   obtain ⟨y, g3⟩ := hI i g1
   by_cases e : k ∈ I
   ·exact ⟨fun c t => by simp [e], fun c t q => by simp [e] at q, ⟨fun s => by simp [e], fun f => by simp [e]⟩⟩
   ·rcases hM.inj k i b hk g2 with q | q | q
    ·exact absurd (q ▸ g1) e
    ·exact ⟨fun c t => by simpa only [if_neg e] using q.1 c t, fun c t => by simpa only [if_neg e] using q.2.1 c t, ⟨fun s => by simpa only [if_neg e] using q.2.2.1 s, fun f => by simpa only [if_neg e] using q.2.2.2 f⟩⟩
    ·exact absurd g3 (q.2.2.2 y)
  ·have := hM.lt k b hk; omega
 refine ⟨_, ⟨hle, hM2, fun n q => ?_, fun n b q => ?_, fun b o hbo hw => hf.keep b o hbo fun q => ?_, hf.size, hf.os, hf.tape, hf.output, hf.loops⟩, by simp⟩
 ·by_cases e : n = nx
  ·exact .inr ⟨by omega, by omega⟩
  ·simp only [if_neg e] at q; exact .inl q
 ·simp only at q
  split at q
  ·rcases hb b q with q | q
   ·obtain ⟨i, g1, g2⟩ := hO b q
    exact .inr (.inr ⟨i, g1, g2⟩)
   ·exact .inr (.inl q)
  ·exact .inl q
 ·obtain ⟨i, g1, g2⟩ := hO b q
  exact hw i g1 g2
theorem ext_ad {r : Ren} {g : Nat → Option (Blk F)} {w : World} {nx m : Nat} {x : F} {b off : Nat} (hM : Mod S r g w) (hN : New r nx (nx + 1)) (hb : r.blk m = some b) (hx : S.at_ x off) :
  ∃ r', Ext S r w nx (nx + 1) [] (fun n => if n = nx then some (.ad m x) else g n) r' w ∧ r'.val nx = some (.pointer (some ⟨b, off, none⟩)) := by
 have hno := hN nx (Nat.le_refl _) (Nat.lt_succ_self _)
 have hle : r.le ⟨r.blk, fun n => if n = nx then some (.pointer (some ⟨b, off, none⟩)) else r.val n, r.len⟩ := by
  refine ⟨fun _ _ q => q, fun n u e => ?_, fun _ _ _ => rfl⟩
  have : n ≠ nx := fun q => by rw [q, hno.2] at e; cases e
  simp only [if_neg this, e]
 have hgo : ∀ k, Gone g k → Gone (fun n => if n = nx then some (.ad m x) else g n) k := fun k q => by
  by_cases e : k = nx
  ·exact ⟨fun c t => by simp [e], fun c t q => by simp [e] at q, ⟨fun s => by simp [e], fun f => by simp [e]⟩⟩
  ·exact ⟨fun c t => by simpa only [if_neg e] using q.1 c t, fun c t => by simpa only [if_neg e] using q.2.1 c t, ⟨fun s => by simpa only [if_neg e] using q.2.2.1 s, fun f => by simpa only [if_neg e] using q.2.2.2 f⟩⟩
 have hM2 : Mod S ⟨r.blk, fun n => if n = nx then some (.pointer (some ⟨b, off, none⟩)) else r.val n, r.len⟩ (fun n => if n = nx then some (.ad m x) else g n) w := by
  refine ⟨fun n k b h1 h2 => (hM.inj n k b h1 h2).imp id (Or.imp (hgo n) (hgo k)), hM.lt, fun n c t h1 => ?_, fun n f h1 => ?_, hM.base, hM.glob, hM.own, fun n c t h1 => ?_, hM.sz, hM.lp.mono hle (fun n s h1 => ?_) (fun _ _ q => q), hM.ow.all hle (fun n f h1 => ?_) (fun _ _ q => q), fun n k y h1 => ?_⟩
  ·split at h1
   ·cases h1
   ·obtain ⟨b, c', q1, q2, q3, q4⟩ := hM.cells n c t h1
    exact ⟨b, c', q1, q2, q3.mono hle, q4⟩
  ·split at h1
   ·cases h1
   ·obtain ⟨v, q1, q2, q3⟩ := hM.fact n f h1
    exact ⟨v, hle.val _ _ q1, q2, q3⟩
  ·split at h1
   ·cases h1
   ·obtain ⟨b, c', q1, q2, q3, q4, q5⟩ := hM.room n c t h1
    exact ⟨b, c', q1, q2, q3.mono hle, q4, q5⟩
  ·split at h1
   ·cases h1
   ·exact h1
  ·split at h1
   ·cases h1
   ·exact h1
  ·split at h1
   ·rename_i e
    cases h1
    exact ⟨b, off, hb, by simp [e], hx⟩
   ·obtain ⟨b2, o2, q1, q2, q3⟩ := hM.ad n k y h1
    exact ⟨b2, o2, q1, hle.val _ _ q2, q3⟩
 refine ⟨_, ⟨hle, hM2, fun n q => ?_, fun n b q => .inl q, fun _ _ h _ => h, Nat.le_refl _, rfl, rfl, rfl, .refl w⟩, by simp⟩
 by_cases e : n = nx
 ·exact .inr ⟨by omega, by omega⟩
 ·simp only [if_neg e] at q; exact .inl q
end
set_option maxRecDepth 100000
noncomputable def notB (o : Option Bool) : Bool := match o with
 | some b => !b
 | none => false
noncomputable def yesB (o : Option Bool) : Bool := match o with
 | some b => b
 | none => false
theorem notB_ok {o : Option Bool} (h : notB o = true) : o = some false := by
 cases o with
 | none => cases h
 | some b => cases b with
  | true => cases h
  | false => rfl
theorem yesB_ok {o : Option Bool} (h : yesB o = true) : o = some true := by
 cases o with
 | none => cases h
 | some b => cases b with
  | true => rfl
  | false => cases h
noncomputable def geZ (B : List Ix) (a : Nat) (s : Int) : Bool := decide (0 ≤ s) || notB (ltB B a s 0 0)
noncomputable def leN (B : List Ix) (l : Le) : Option (Nat × Int) := Le.rec (motive := fun _ => Option (Nat × Int)) (some (0, 0)) (fun c => lnP B c) (fun _ _ ih => match ih with
  | some p => some (p.1, p.2 + 1)
  | none => none) (fun _ a s ih => match ih with
  | some p => cond (geZ B a s && notB (ltB B p.1 p.2 a s)) (some (a, s)) none
  | none => none) l
noncomputable def leE (B : List Ix) (a : Nat) (s : Int) (l : Le) : Option Qe := Le.rec (motive := fun _ => Option Qe) none (fun c => elB B c a s) (fun l e ih => match leN B l with
  | some p => cond (Nat.beq p.1 a && eqI p.2 s) (some e) ih
  | none => ih) (fun _ a' s' ih => cond (yesB (ltB B a s a' s')) ih none) l
noncomputable def olN (B : List Ix) (l : Le) (z : Option (Nat × Int)) : Option (Nat × Int) := match z with
 | some p => some p
 | none => leN B l
section
variable {ρ : Env} {B : List Ix}
theorem atIx00 : atIx ρ 0 0 = 0 := by unfold atIx; rw [ρ.nat0]; rfl
theorem geZ_ok (hB : AllX ρ B) {a : Nat} {s : Int} (h : geZ B a s = true) : 0 ≤ atIx ρ a s := by
 simp only [geZ, Bool.or_eq_true, decide_eq_true_eq] at h
 rcases h with h | h
 ·unfold atIx; omega
 ·have q := ltB_ok hB (notB_ok h)
  rw [atIx00] at q
  rcases Int.lt_or_le (atIx ρ a s) 0 with q1 | q1
  ·have := q.2 q1; cases this
  ·exact q1
theorem leN_ok (hB : AllX ρ B) : ∀ {l : Le} {p : Nat × Int}, leN B l = some p → (((l.ev ρ).length : Nat) : Int) = atIx ρ p.1 p.2
 | .nil, p, h => by
  cases (show some ((0 : Nat), (0 : Int)) = some p from h)
  rw [atIx00]; rfl
 | .v c, p, h => lnP_ok hB (show lnP B c = some p from h)
 | .snoc l e, p, h => by
  have h' : (match leN B l with
   | some p => some (p.1, p.2 + 1)
   | none => none) = some p := h
  cases hn : leN B l with
  | none => rw [hn] at h'; cases h'
  | some q =>
   rw [hn] at h'
   cases h'
   have := leN_ok hB hn
   show (((l.ev ρ ++ [e.ev ρ.q]).length : Nat) : Int) = _
   unfold atIx at this ⊢
   simp only [List.length_append, List.length_singleton]
   omega
 | .take l a s, p, h => by
  have h' : (match leN B l with
   | some p => cond (geZ B a s && notB (ltB B p.1 p.2 a s)) (some (a, s)) none
   | none => none) = some p := h
  cases hn : leN B l with
  | none => rw [hn] at h'; cases h'
  | some q =>
   rw [hn] at h'
   simp only at h'
   cases hc : (geZ B a s && notB (ltB B q.1 q.2 a s)) with
   | false => rw [hc] at h'; cases h'
   | true =>
    rw [hc] at h'
    cases h'
    simp only [Bool.and_eq_true] at hc
    have h0 := geZ_ok hB hc.1
    have h1 := leN_ok hB hn
    have h2 := ltB_ok hB (notB_ok hc.2)
    have h3 : ¬ atIx ρ q.1 q.2 < atIx ρ a s := fun q => by have := h2.2 q; cases this
    show ((((l.ev ρ).take ((ρ.nat a : Int) + s).toNat).length : Nat) : Int) = atIx ρ a s
    unfold atIx at *
    rw [List.length_take]
    omega
theorem leE_ok (hB : AllX ρ B) {a : Nat} {s : Int} : ∀ {l : Le} {e : Qe}, leE B a s l = some e → ∃ i : Nat, (i : Int) = atIx ρ a s ∧ (l.ev ρ)[i]? = some (e.ev ρ.q)
 | .nil, e, h => by cases (show none = some e from h)
 | .v c, e, h => elB_ok hB (show elB B c a s = some e from h)
 | .snoc l x, e, h => by
  have old : leE B a s l = some e → ∃ i : Nat, (i : Int) = atIx ρ a s ∧ (l.ev ρ ++ [x.ev ρ.q])[i]? = some (e.ev ρ.q) := fun q => by
   obtain ⟨i, h1, h2⟩ := leE_ok hB q
   refine ⟨i, h1, ?_⟩
   rw [List.getElem?_append_left (List.getElem?_eq_some_iff.1 h2).1]
   exact h2
  have h' : (match leN B l with
   | some p => cond (Nat.beq p.1 a && eqI p.2 s) (some x) (leE B a s l)
   | none => leE B a s l) = some e := h
  cases hn : leN B l with
  | none => rw [hn] at h'; exact old h'
  | some p =>
   rw [hn] at h'
   simp only at h'
   cases hc : (Nat.beq p.1 a && eqI p.2 s) with
   | false => rw [hc] at h'; exact old h'
   | true =>
    rw [hc] at h'
    cases h'
    simp only [Bool.and_eq_true] at hc
    have h1 := leN_ok hB hn
    rw [Nat.eq_of_beq_eq_true hc.1, eqI_ok hc.2] at h1
    refine ⟨(l.ev ρ).length, h1, ?_⟩
    show (l.ev ρ ++ [x.ev ρ.q])[(l.ev ρ).length]? = _
    simp
 | .take l a' s', e, h => by
  have h' : cond (yesB (ltB B a s a' s')) (leE B a s l) none = some e := h
  cases hc : yesB (ltB B a s a' s') with
  | false => rw [hc] at h'; cases h'
  | true =>
   rw [hc] at h'
   obtain ⟨i, h1, h2⟩ := leE_ok hB (show leE B a s l = some e from h')
   have h3 := (ltB_ok hB (yesB_ok hc)).1 rfl
   refine ⟨i, h1, ?_⟩
   show ((l.ev ρ).take ((ρ.nat a' : Int) + s').toNat)[i]? = _
   rw [List.getElem?_take, if_pos (by unfold atIx at *; omega)]
   exact h2
theorem olIs.at (hB : AllX ρ B) {K : Nat} {l : Le} {z : Option (Nat × Int)} {w : World} {v : Value} {p : Nat × Int} (h : olIs ρ K l z w v) (hp : olN B l z = some p) : ∃ a n m, v = .slice a n m ∧ n ≤ m ∧ ((n : Nat) : Int) = atIx ρ p.1 p.2 ∧ (l.ev ρ).length ≤ n ∧ (a = none → m = 0) ∧
  ∀ ad, a = some ad → ∃ cl, ad = ⟨ad.block, 0, none⟩ ∧ w.heap[ad.block]? = some (.cells ⟨cl⟩ (tyK K) (0, 0)) ∧ cl.length = m * elSz K ∧ RowAt K w cl 0 (l.ev ρ) ∧ ∀ i, (l.ev ρ).length ≤ i → i < n → (cl.drop (i * elSz K)).take (elSz K) = zeroK K := by
 obtain ⟨a, n, m, h1, h2, h3, h4, h5, h6⟩ := h
 refine ⟨a, n, m, h1, h2, ?_, h3, h5, h6⟩
 cases z with
 | some q =>
  cases hp
  exact h4
 | none =>
  rw [show n = (l.ev ρ).length from h4]
  exact leN_ok hB hp
end
noncomputable def ownAt (m : Nat) : M Sy (Nat × Le × Option (Nat × Int)) := bind (rd m) fun x => match x with
 | .ow f => match f with
  | .ol K l z => ret (K, l, z)
  | _ => fail
 | _ => fail
theorem loc_ownAt (m : Nat) : Loc (ownAt m) := by
 refine loc_bind (loc_rd _) fun x => ?_
 (repeat' split) <;> first | exact loc_ret _ | exact loc_fail
noncomputable def oIx (B : List Ix) (t : TypeId) (p : Nat × Int) (m : Nat) : M Sy Nxt := bind (ownAt m) fun y => match sliceT Try.prog t with
 | some e => match sizeT Try.prog e with
  | some s => match olN B y.2.1 y.2.2 with
   | some q => cond (Nat.beq s (elSz y.1) && (geZ B p.1 p.2 && yesB (ltB B p.1 p.2 q.1 q.2))) (bind (fresh (.ad m (.pl y.1 p.1 p.2))) fun i => val (.chan (some i))) fail
   | none => fail
  | none => fail
 | none => fail
theorem loc_oIx (B : List Ix) (t : TypeId) (p : Nat × Int) (m : Nat) : Loc (oIx B t p m) := by
 refine loc_bind (loc_ownAt _) fun y => ?_
 (repeat' split) <;> first | exact loc_fail | exact loc_cond (loc_bind (loc_fresh _) fun _ => loc_val _) loc_fail
noncomputable def oLd (B : List Ix) (t : TypeId) (i : Nat) : M Sy Nxt := bind (rd i) fun x => match x with
 | .fact f => lLd B t f
 | .ad m f => match f with
  | .pl K a s => bind (ownAt m) fun y => cond (Nat.beq K y.1) (match leE B a s y.2.1 with
   | some e => elLoad t K e
   | none => fail) fail
  | _ => fail
 | _ => fail
theorem loc_oLd (B : List Ix) (t : TypeId) (i : Nat) : Loc (oLd B t i) := by
 refine loc_bind (loc_rd _) fun x => ?_
 split
 ·exact loc_lLd _ _ _
 ·split
  ·refine loc_bind (loc_ownAt _) fun y => loc_cond ?_ loc_fail
   split
   ·exact loc_elLoad _ _ _
   ·exact loc_fail
  ·exact loc_fail
 ·exact loc_fail
noncomputable def oLn (B : List Ix) (m : Nat) : M Sy Nxt := bind (rd m) fun x => match x with
 | .fact f => lLn B f
 | .ow f => match f with
  | .ol _ l z => match olN B l z with
   | some p => lVal (.ix p.1 p.2)
   | none => fail
  | _ => fail
 | _ => fail
theorem loc_oLn (B : List Ix) (m : Nat) : Loc (oLn B m) := by
 refine loc_bind (loc_rd _) fun x => ?_
 (repeat' split) <;> first | exact loc_lLn _ _ | exact loc_lVal _ | exact loc_fail
section
variable {ρ : Env} {B : List Ix} {h h' : Tr (Blk Sy)} {nx nx' : Nat} {R W : List Nat} {r : Ren} {w : World}
theorem rdb_ok {F : Type} {n : Nat} {x : Blk F} {h h' : Tr (Blk F)} (e : (rd n : M F (Blk F)) h nx = .ok x h' nx' R W) : h.get n = some x ∧ h' = h ∧ nx' = nx ∧ W = [] := by
 unfold rd at e
 cases hg : h.get n with
 | none => rw [hg] at e; cases e
 | some y => rw [hg] at e; cases e; exact ⟨rfl, rfl, rfl, rfl⟩
theorem ownAt_ok {m : Nat} {y : Nat × Le × Option (Nat × Int)} (e : ownAt m h nx = .ok y h' nx' R W) : h.get m = some (.ow (.ol y.1 y.2.1 y.2.2)) ∧ h' = h ∧ nx' = nx ∧ W = [] := by
 obtain ⟨x, h1, nx1, R1, W1, R2, W2, e1, e2, rfl, rfl⟩ := bind_ok e
 obtain ⟨hg, rfl, rfl, rfl⟩ := rdb_ok e1
 cases x <;> first | (cases (show (fail : M Sy (Nat × Le × Option (Nat × Int))) _ _ = _ from e2); done) | skip
 rename_i f
 cases f <;> first | (cases (show (fail : M Sy (Nat × Le × Option (Nat × Int))) _ _ = _ from e2); done) | skip
 obtain ⟨rfl, rfl, rfl, rfl⟩ := ret_ok (show (ret _ : M Sy (Nat × Le × Option (Nat × Int))) _ _ = _ from e2)
 exact ⟨hg, rfl, rfl, rfl⟩
theorem oIx_ok (hB : AllX ρ B) {t : TypeId} {p : Nat × Int} {m : Nat} {v' : Value} {x : Nxt} (e : oIx B t p m h nx = .ok x h' nx' R W) (hv : r.val m = some v') (hM : Mod (symSig ρ) r h.get w) (hN : New r nx nx') :
  nx ≤ nx' ∧ ∃ v u r', x = .val v ∧ (Instr.indexAt t v' (.int .i64 (atIx ρ p.1 p.2))).run Try.prog w = .ok u w ∧ VR r' v u ∧ Ext (symSig ρ) r w nx nx' W h'.get r' w := by
 obtain ⟨⟨K, l, z⟩, h1, nx1, R1, W1, R2, W2, e1, e2, rfl, rfl⟩ := bind_ok e
 obtain ⟨hg, rfl, rfl, rfl⟩ := ownAt_ok e1
 simp only at e2 hg
 cases hs : sliceT Try.prog t with
 | none => rw [hs] at e2; cases (show (fail : M Sy Nxt) _ _ = _ from e2)
 | some el =>
  rw [hs] at e2; simp only at e2
  cases hz : sizeT Try.prog el with
  | none => rw [hz] at e2; cases (show (fail : M Sy Nxt) _ _ = _ from e2)
  | some s =>
   rw [hz] at e2; simp only at e2
   cases hn : olN B l z with
   | none => rw [hn] at e2; cases (show (fail : M Sy Nxt) _ _ = _ from e2)
   | some q =>
    rw [hn] at e2; simp only at e2
    obtain ⟨hk, e3⟩ := cond_ok e2
    simp only [Bool.and_eq_true] at hk
    obtain rfl := Nat.eq_of_beq_eq_true hk.1
    have h0 := geZ_ok hB hk.2.1
    have hlt := (ltB_ok hB (yesB_ok hk.2.2)).1 rfl
    obtain ⟨i, h2, nx2, R3, W3, R4, W4, e4, e5, rfl, rfl⟩ := bind_ok e3
    obtain ⟨rfl, rfl, rfl, rfl⟩ := val_ok e5
    unfold fresh at e4
    cases e4
    obtain ⟨v0, q1, q2, q3, q4⟩ := hM.ow m _ hg
    rw [hv] at q1
    cases q1
    obtain ⟨a, n, c, rfl, k1, k2, k3, k4, k5⟩ := olIs.at hB q2 hn
    cases a with
    | none => have := k4 rfl; omega
    | some ad =>
     obtain ⟨cl, had, k6, _⟩ := k5 ad rfl
     obtain ⟨j, hj⟩ := Int.eq_ofNat_of_zero_le h0
     obtain ⟨r', hX, hr⟩ := ext_ad (S := symSig ρ) (m := m) (x := .pl K p.1 p.2) (b := ad.block) (off := j * elSz K) hM hN (q4 _ rfl).1 ⟨j, rfl, by rw [← hj]; rfl⟩
     refine ⟨Nat.le_succ _, _, vptr ad.block (j * elSz K), r', rfl, ?_, .opq hr rfl, by simpa using hX.congr fun n => .inr (Tr.get_set _ _ _ _)⟩
     rw [hj]
     rw [hj] at hlt
     have c1 : (0 : Int) ≤ (j : Int) ∧ (j : Int) < (n : Int) := by omega
     rw [had]
     simp [Instr.indexAt, asIntOf, run_underlying (sliceT_of hs), c1, size_of hz, add_off, vptr]
     intro hle; omega
theorem oLd_ok (hB : AllX ρ B) {t : TypeId} {i : Nat} {v' : Value} {x : Nxt} (e : oLd B t i h nx = .ok x h' nx' R W) (hv : r.val i = some v') (hM : Mod (symSig ρ) r h.get w) (hN : New r nx nx') :
  nx ≤ nx' ∧ ∃ v u ad r', x = .val v ∧ v' = .pointer (some ad) ∧ (loadVar t ad).run Try.prog w = .ok u w ∧ VR r' v u ∧ Ext (symSig ρ) r w nx nx' W h'.get r' w := by
 obtain ⟨y, h1, nx1, R1, W1, R2, W2, e1, e2, rfl, rfl⟩ := bind_ok e
 obtain ⟨hg, rfl, rfl, rfl⟩ := rdb_ok e1
 cases y <;> first | (cases (show (fail : M Sy Nxt) _ _ = _ from e2); done) | skip
 ·rename_i f
  obtain ⟨v0, q1, q2, _⟩ := hM.fact i f hg
  rw [hv] at q1
  cases q1
  simpa using lLd_ok hB e2 q2 hM hN
 ·rename_i m f
  cases f <;> first | (cases (show (fail : M Sy Nxt) _ _ = _ from e2); done) | skip
  rename_i K a s
  obtain ⟨⟨K2, l, z⟩, h3, nx3, R3, W3, R4, W4, e3, e4, rfl, rfl⟩ := bind_ok (show bind (ownAt m) _ _ _ = _ from e2)
  obtain ⟨hg2, rfl, rfl, rfl⟩ := ownAt_ok e3
  obtain ⟨hk, e5⟩ := cond_ok e4
  obtain rfl := Nat.eq_of_beq_eq_true hk
  simp only at e5 hg2
  cases hl : leE B a s l with
  | none => rw [hl] at e5; cases (show (fail : M Sy Nxt) _ _ = _ from e5)
  | some q =>
   rw [hl] at e5; simp only at e5
   obtain ⟨b, off, k1, k2, j, rfl, k3⟩ := hM.ad i m _ hg
   rw [hv] at k2
   cases k2
   obtain ⟨v0, q1, q2, q3, q4⟩ := hM.ow m _ hg2
   obtain ⟨j', hj, hel⟩ := leE_ok hB hl
   have : j = j' := by have : (j : Int) = j' := k3.trans hj.symm; omega
   subst this
   have hlt := (List.getElem?_eq_some_iff.1 hel).1
   obtain ⟨a, n, c, rfl, g1, g2, g3, g4, g5⟩ := (show olIs ρ K l z w v0 from q2)
   cases a with
   | none => have := g4 rfl; omega
   | some ad =>
    obtain ⟨cl, had, g6, g7, g8, g9⟩ := g5 ad rfl
    have hb := (q4 _ rfl).1
    rw [k1] at hb
    cases hb
    have hrow := g8 j _ hel
    rw [Nat.zero_add] at hrow
    obtain ⟨hle, v, u, r', rfl, hr, hv2, hX⟩ := elLoad_ok e5 hM hN g6 hrow
    exact ⟨hle, v, u, _, r', rfl, rfl, hr, hv2, by simpa using hX⟩
theorem oLn_ok (hB : AllX ρ B) {t ty : TypeId} {el : TypeId} {v' : Value} {m : Nat} {x : Nxt} (hs : sliceT Try.prog t = some el) (e : oLn B m h nx = .ok x h' nx' R W) (hv : r.val m = some v') (hM : Mod (symSig ρ) r h.get w) (hN : New r nx nx') :
  nx ≤ nx' ∧ ∃ v u r', x = .val v ∧ (Builtin.len_ #[t] ty #[v']).run Try.prog w = .ok u w ∧ VR r' v u ∧ Ext (symSig ρ) r w nx nx' W h'.get r' w := by
 obtain ⟨y, h1, nx1, R1, W1, R2, W2, e1, e2, rfl, rfl⟩ := bind_ok e
 obtain ⟨hg, rfl, rfl, rfl⟩ := rdb_ok e1
 cases y <;> first | (cases (show (fail : M Sy Nxt) _ _ = _ from e2); done) | skip
 ·rename_i f
  obtain ⟨v0, q1, q2, _⟩ := hM.fact m f hg
  rw [hv] at q1
  cases q1
  simpa using lLn_ok (ty := ty) hB hs e2 q2 hM hN
 ·rename_i f
  cases f <;> first | (cases (show (fail : M Sy Nxt) _ _ = _ from e2); done) | skip
  rename_i K l z
  obtain ⟨v0, q1, q2, _⟩ := hM.ow m _ hg
  rw [hv] at q1
  cases q1
  simp only at e2
  cases hn : olN B l z with
  | none => rw [hn] at e2; cases (show (fail : M Sy Nxt) _ _ = _ from e2)
  | some p =>
   rw [hn] at e2; simp only at e2
   obtain ⟨a, n, c, rfl, k1, k2, _⟩ := olIs.at hB q2 hn
   obtain ⟨hle, v, r', rfl, hv2, hX⟩ := lVal_ok (v' := .int .i64 ((n : Nat) : Int)) e2 hM hN (by
    show Value.int .i64 _ = .int .i64 _
    rw [k2]; rfl)
   exact ⟨hle, v, _, r', rfl, by simp [Builtin.len_, run_underlying (sliceT_of hs), goInt], hv2, by simpa using hX⟩
end
set_option maxRecDepth 100000
section
variable {α : Type}
theorem splice_at {l us : List α} {z j : Nat} (hu : us.length = z) (hj : (j + 1) * z ≤ l.length) (i : Nat) : ((l.take (j * z) ++ us ++ l.drop (j * z + z)).drop (i * z)).take z = if i = j then us else (l.drop (i * z)).take z := by
 have hjz : j * z + z ≤ l.length := by rw [Nat.add_mul, Nat.one_mul] at hj; exact hj
 have hl : (l.take (j * z)).length = j * z := by rw [List.length_take]; omega
 by_cases e : i = j
 ·subst e
  rw [if_pos rfl, List.append_assoc]
  have h1 : (l.take (i * z) ++ (us ++ l.drop (i * z + z))).drop (i * z) = us ++ l.drop (i * z + z) := by
   conv => lhs; rw [show i * z = (l.take (i * z)).length from hl.symm]
   rw [hl]
   exact List.drop_left' hl
  rw [h1]
  exact List.take_left' hu
 ·rw [if_neg e]
  apply List.ext_getElem?
  intro k
  rw [List.getElem?_take, List.getElem?_take]
  by_cases hk : k < z
  ·rw [if_pos hk, if_pos hk, List.getElem?_drop, List.getElem?_drop]
   rcases Nat.lt_or_gt_of_ne e with h | h
   ·have h2 := Nat.mul_le_mul_right z (show i + 1 ≤ j from h)
    rw [Nat.add_mul, Nat.one_mul] at h2
    rw [List.append_assoc, List.getElem?_append_left (by rw [hl]; omega), List.getElem?_take, if_pos (by omega)]
   ·have h2 := Nat.mul_le_mul_right z (show j + 1 ≤ i from h)
    rw [Nat.add_mul, Nat.one_mul] at h2
    have h3 : (l.take (j * z) ++ us).length = j * z + z := by rw [List.length_append, hl, hu]
    rw [List.getElem?_append_right (by rw [h3]; omega), h3, List.getElem?_drop]
    congr 1
    omega
  ·rw [if_neg hk, if_neg hk]
end
noncomputable def elV (K : Nat) (v : Value) : M Sy Qe := match K with
 | 0 => match v with
  | .agg cs => bind (frcV cs.toList) ofOpt
  | _ => fail
 | 1 => numV v
 | 2 => bind (fact v) fun f => match f with
  | .iz k e => cond (Nat.beq k 0) (ret e) fail
  | _ => fail
 | 3 => bind (fact v) fun f => match f with
  | .iz k e => cond (Nat.beq k 1) (ret e) fail
  | _ => fail
 | _ => fail
theorem loc_elV (K : Nat) (v : Value) : Loc (elV K v) := by
 unfold elV
 split
 ·split
  ·exact loc_bind (loc_frcV _) fun _ => loc_opt _
  ·exact loc_fail
 ·exact loc_numV _
 ·refine loc_bind (loc_fact _) fun f => ?_
  split
  ·exact loc_cond (loc_ret _) loc_fail
  ·exact loc_fail
 ·refine loc_bind (loc_fact _) fun f => ?_
  split
  ·exact loc_cond (loc_ret _) loc_fail
  ·exact loc_fail
 ·exact loc_fail
noncomputable def oSt (B : List Ix) (t : TypeId) (i : Nat) (v : Value) : M Sy Nxt := bind (rd i) fun x => match x with
 | .ad m f => match f with
  | .pl K a s => bind (ownAt m) fun y => bind (elV K v) fun e => match y.2.2 with
   | some q => match leN B y.2.1 with
    | some p => match sizeT Try.prog t with
     | some sz => cond (Nat.beq K y.1 && (Nat.beq sz (elSz K) && (Nat.beq p.1 a && (eqI p.2 s && yesB (ltB B a s q.1 q.2))))) (bind (wr m (.ow (.ol K (.snoc y.2.1 e) (some q)))) fun _ => ret .skip)
      (cond (Nat.beq K y.1 && (Nat.beq sz (elSz K) && (Nat.beq p.1 a && eqI p.2 (s + 1)))) (bind (wr m (.ow (.ol K (.snoc (.take y.2.1 a s) e) (some q)))) fun _ => ret .skip) fail)
     | none => fail
    | none => fail
   | none => fail
  | _ => fail
 | _ => fail
theorem loc_oSt (B : List Ix) (t : TypeId) (i : Nat) (v : Value) : Loc (oSt B t i v) := by
 refine loc_bind (loc_rd _) fun x => ?_
 split
 ·split
  ·refine loc_bind (loc_ownAt _) fun y => loc_bind (loc_elV _ _) fun e => ?_
   (repeat' split) <;> first | exact loc_fail | exact loc_cond (loc_bind (loc_wr _ _) fun _ => loc_ret _) (loc_cond (loc_bind (loc_wr _ _) fun _ => loc_ret _) loc_fail)
  ·exact loc_fail
 ·exact loc_fail
noncomputable def kOf (e : TypeId) : Option Nat := cond (Nat.beq e (tyK 0)) (some 0) (cond (Nat.beq e (tyK 1)) (some 1) (cond (Nat.beq e (tyK 2)) (some 2) (cond (Nat.beq e (tyK 3)) (some 3) none)))
theorem pickK {b : Bool} {K K2 : Nat} {o : Option Nat} (h : cond b (some K2) o = some K) : (b = true ∧ K = K2) ∨ o = some K := by
 cases b with
 | true => exact .inl ⟨rfl, (Option.some.inj h).symm⟩
 | false => exact .inr h
theorem kOf_ok {e : TypeId} {K : Nat} (h : kOf e = some K) : e = tyK K := by
 unfold kOf at h
 rcases pickK h with ⟨hc, rfl⟩ | h
 ·exact Nat.eq_of_beq_eq_true hc
 rcases pickK h with ⟨hc, rfl⟩ | h
 ·exact Nat.eq_of_beq_eq_true hc
 rcases pickK h with ⟨hc, rfl⟩ | h
 ·exact Nat.eq_of_beq_eq_true hc
 rcases pickK h with ⟨hc, rfl⟩ | h
 ·exact Nat.eq_of_beq_eq_true hc
 cases h
noncomputable def oMk (B : List Ix) (t : TypeId) (p q : Nat × Int) : M Sy Nxt := match sliceT Try.prog t with
 | some e => match kOf e with
  | some K => match Try.prog.info? e with
   | some i => match i.zero with
    | some z => cond (Nat.beq p.1 q.1 && (eqI p.2 q.2 && (geZ B p.1 p.2 && (bdB B p.1 && (smallI p.2 && (Nat.beq i.size (elSz K) && (Nat.ble i.bytes 64 && (eqL eq0 z.cells.toList (zeroK K) && !symHid e))))))))
       (bind (fresh (.ow (.ol K .nil (some p)))) fun i => val (.chan (some i))) fail
    | none => fail
   | none => fail
  | none => fail
 | none => fail
theorem loc_oMk (B : List Ix) (t : TypeId) (p q : Nat × Int) : Loc (oMk B t p q) := by
 unfold oMk
 (repeat' split) <;> first | exact loc_fail | exact loc_cond (loc_bind (loc_fresh _) fun _ => loc_val _) loc_fail
section
variable {ρ : Env} {B : List Ix} {h h' : Tr (Blk Sy)} {nx nx' : Nat} {R W : List Nat} {r : Ren} {w : World}
theorem elIs_ones {K : Nat} {q : Rat} {l : List Value} (h : elIs K w q l) : ∀ v ∈ l, isOne v = true := by
 rcases K with _ | _ | _ | _ | K
 ·obtain rfl := (show l = _ from h)
  simp [isOne]
 ·obtain ⟨a, b, rfl, h1, h2⟩ := h
  have := nat_one h1
  have := nat_one h2
  simp_all [isOne]
 ·obtain ⟨v, rfl, h1⟩ := h
  rw [h1.1]
  simp [isOne]
 ·obtain ⟨v, rfl, h1⟩ := h
  rw [h1.1]
  simp [isOne]
 ·exact h.elim
theorem elV_ok {K : Nat} {v v' : Value} {q : Qe} (e : elV K v h nx = .ok q h' nx' R W) (hv : VR r v v') (hM : Mod (symSig ρ) r h.get w) : h' = h ∧ nx' = nx ∧ W = [] ∧ elIs K w (q.ev ρ.q) v'.cells.toList := by
 rcases K with _ | _ | _ | _ | K
 ·unfold elV at e
  cases v <;> first | (cases (show (fail : M Sy Qe) h nx = _ from e); done) | skip
  rename_i cs
  obtain ⟨l⟩ := cs
  obtain ⟨l', rfl, hl⟩ := vr_agg hv
  obtain ⟨o, h1, nx1, R1, W1, R2, W2, e1, e2, rfl, rfl⟩ := bind_ok e
  obtain ⟨rfl, rfl, rfl, hf⟩ := frcV_ok e1 hl hM
  cases o with
  | none => simp [ofOpt, fail] at e2
  | some x =>
   obtain ⟨rfl, rfl, rfl, rfl⟩ := ret_ok (show (ret x : M Sy Qe) _ _ = _ from e2)
   exact ⟨rfl, rfl, rfl, hf⟩
 ·obtain ⟨rfl, rfl, rfl, a, b, rfl, h1, h2⟩ := numV_ok (show numV v h nx = _ from e) hv hM
  exact ⟨rfl, rfl, rfl, a, b, rfl, h1, h2⟩
 ·obtain ⟨f, h1, nx1, R1, W1, R2, W2, e1, e2, rfl, rfl⟩ := bind_ok (show bind (fact v) _ h nx = _ from e)
  obtain ⟨rfl, rfl, rfl, hf⟩ := fact_ok e1 hv hM
  cases f <;> first | (cases (show (fail : M Sy Qe) _ _ = _ from e2); done) | skip
  obtain ⟨hk, e3⟩ := cond_ok e2
  obtain ⟨rfl, rfl, rfl, rfl⟩ := ret_ok e3
  obtain rfl := Nat.eq_of_beq_eq_true hk
  have hf' : izIs 0 (q.ev ρ.q) v' := hf
  refine ⟨rfl, rfl, rfl, v', ?_, hf'⟩
  rw [hf'.1]; rfl
 ·obtain ⟨f, h1, nx1, R1, W1, R2, W2, e1, e2, rfl, rfl⟩ := bind_ok (show bind (fact v) _ h nx = _ from e)
  obtain ⟨rfl, rfl, rfl, hf⟩ := fact_ok e1 hv hM
  cases f <;> first | (cases (show (fail : M Sy Qe) _ _ = _ from e2); done) | skip
  obtain ⟨hk, e3⟩ := cond_ok e2
  obtain ⟨rfl, rfl, rfl, rfl⟩ := ret_ok e3
  obtain rfl := Nat.eq_of_beq_eq_true hk
  have hf' : izIs 1 (q.ev ρ.q) v' := hf
  refine ⟨rfl, rfl, rfl, v', ?_, hf'⟩
  rw [hf'.1]; rfl
 ·cases (show (fail : M Sy Qe) h nx = _ from e)
theorem setRow_heap {w : World} {b : Nat} {c' : Array Value} {t : TypeId} {d : List Value} (hh : w.heap[b]? = some (.cells c' t (0, 0))) : (w.setRow b d.toArray).heap = w.heap.setIfInBounds b (.cells ⟨d⟩ t (0, 0)) := by
 unfold World.setRow
 simp only
 apply Array.ext
 ·simp
 ·intro k h1 h2
  rw [Array.getElem_modify, Array.getElem_setIfInBounds]
  ·by_cases hkk : b = k
   ·subst hkk
    have := (Array.getElem?_eq_some_iff.1 hh).2
    simp [this]
   ·simp [hkk]
  ·simpa using h2
theorem oSt_ok (hB : AllX ρ B) {t : TypeId} {i : Nat} {v' u u' : Value} {x : Nxt} (e : oSt B t i u h nx = .ok x h' nx' R W) (hv : r.val i = some v') (hu : VR r u u') (hM : Mod (symSig ρ) r h.get w) :
  nx' = nx ∧ x = .skip ∧ ∃ ad w', v' = .pointer (some ad) ∧ (storeVar t ad u').run Try.prog w = .ok () w' ∧ Ext (symSig ρ) r w nx nx W h'.get r w' := by
 obtain ⟨y, h1, nx1, R1, W1, R2, W2, e1, e2, rfl, rfl⟩ := bind_ok e
 obtain ⟨hg, rfl, rfl, rfl⟩ := rdb_ok e1
 cases y <;> first | (cases (show (fail : M Sy Nxt) _ _ = _ from e2); done) | skip
 rename_i m f
 cases f <;> first | (cases (show (fail : M Sy Nxt) _ _ = _ from e2); done) | skip
 rename_i K a s
 obtain ⟨⟨K2, l, z⟩, h3, nx3, R3, W3, R4, W4, e3, e4, rfl, rfl⟩ := bind_ok (show bind (ownAt m) _ _ _ = _ from e2)
 obtain ⟨hg2, rfl, rfl, rfl⟩ := ownAt_ok e3
 obtain ⟨q0, h5, nx5, R5, W5, R6, W6, e5, e6, rfl, rfl⟩ := bind_ok e4
 obtain ⟨rfl, rfl, rfl, hel⟩ := elV_ok e5 hu hM
 simp only at e6 hg2
 cases z with
 | none => cases (show (fail : M Sy Nxt) _ _ = _ from e6)
 | some q =>
  simp only at e6
  cases hn : leN B l with
  | none => rw [hn] at e6; cases (show (fail : M Sy Nxt) _ _ = _ from e6)
  | some p =>
   rw [hn] at e6; simp only at e6
   cases hs : sizeT Try.prog t with
   | none => rw [hs] at e6; cases (show (fail : M Sy Nxt) _ _ = _ from e6)
   | some sz =>
    rw [hs] at e6; simp only at e6
    have hln := leN_ok hB hn
    have hcase : ∃ l2 : Le, (Nat.beq K K2 = true ∧ Nat.beq sz (elSz K) = true) ∧ (bind (wr m (.ow (.ol K (.snoc l2 q0) (some q)))) fun _ => ret .skip : M Sy Nxt) h5 nx5 = .ok x h' nx' R6 W6 ∧
      ((l2 = l ∧ atIx ρ a s = (((l.ev ρ).length : Nat) : Int) ∧ atIx ρ a s < atIx ρ q.1 q.2) ∨ (l2 = .take l a s ∧ atIx ρ a s + 1 = (((l.ev ρ).length : Nat) : Int))) := by
     rcases condB e6 with ⟨hk, e7⟩ | ⟨_, e7⟩
     ·simp only [Bool.and_eq_true] at hk
      refine ⟨l, ⟨hk.1, hk.2.1⟩, e7, .inl ⟨rfl, ?_, (ltB_ok hB (yesB_ok hk.2.2.2.2)).1 rfl⟩⟩
      rw [hln, Nat.eq_of_beq_eq_true hk.2.2.1, eqI_ok hk.2.2.2.1]
     ·obtain ⟨hk, e8⟩ := cond_ok e7
      simp only [Bool.and_eq_true] at hk
      refine ⟨.take l a s, ⟨hk.1, hk.2.1⟩, e8, .inr ⟨rfl, ?_⟩⟩
      rw [hln, Nat.eq_of_beq_eq_true hk.2.2.1, eqI_ok hk.2.2.2]
      unfold atIx; omega
    clear e6
    obtain ⟨l2, ⟨hk1, hk2⟩, e7, hcase⟩ := hcase
    obtain rfl := Nat.eq_of_beq_eq_true hk1
    obtain rfl := Nat.eq_of_beq_eq_true hk2
    obtain ⟨_, h8, nx8, R8, W8, R9, W9, e8, e9, rfl, rfl⟩ := bind_ok e7
    obtain ⟨rfl, rfl, rfl⟩ := wr_ok e8
    obtain ⟨rfl, rfl, rfl, rfl⟩ := ret_ok e9
    obtain ⟨b, off, k1, k2, j, rfl, k3⟩ := hM.ad i m _ hg
    rw [hv] at k2
    cases k2
    obtain ⟨v0, q1, q2, q3, q4⟩ := hM.ow m _ hg2
    obtain ⟨a0, n, c, rfl, g1, g2, g3, g4, g5⟩ := (show olIs ρ K l (some q) w v0 from q2)
    have k3' : ((j : Nat) : Int) = atIx ρ a s := k3
    have hn3 : ((n : Nat) : Int) = atIx ρ q.1 q.2 := g3
    have hjn : j < n := by
     rcases hcase with ⟨_, _, h3⟩ | ⟨_, h2⟩ <;> omega
    have hj2 : (l2.ev ρ).length = j := by
     rcases hcase with ⟨rfl, h2, _⟩ | ⟨rfl, h2⟩
     ·omega
     ·show ((l.ev ρ).take ((ρ.nat a : Int) + s).toNat).length = j
      rw [List.length_take]
      unfold atIx at *
      omega
    have hl2 : ∀ i2, i2 < j → (l2.ev ρ)[i2]? = (l.ev ρ)[i2]? := by
     intro i2 hi2
     rcases hcase with ⟨rfl, _, _⟩ | ⟨rfl, h2⟩
     ·rfl
     ·show ((l.ev ρ).take ((ρ.nat a : Int) + s).toNat)[i2]? = _
      rw [List.getElem?_take, if_pos (by unfold atIx at *; omega)]
    have hle2 : (l.ev ρ).length ≤ j + 1 := by
     rcases hcase with ⟨_, h2, _⟩ | ⟨_, h2⟩ <;> omega
    cases a0 with
    | none => have := g4 rfl; omega
    | some ad =>
     obtain ⟨cl, had, g6, g7, g8, g9⟩ := g5 ad rfl
     have hb := (q4 _ rfl).1
     rw [k1] at hb
     cases hb
     have hus := elIs_len hel
     have hjz : (j + 1) * elSz K ≤ cl.length := by
      rw [g7]; exact Nat.mul_le_mul_right _ (by omega)
     have hjz' : j * elSz K + elSz K ≤ cl.length := by
      rw [Nat.add_mul, Nat.one_mul] at hjz; exact hjz
     have hrun := run_storeCells_at Try.prog ad.block (j * elSz K) (tyK K) u'.cells.toList 0 ⟨cl⟩ w g6 (by simp only [List.size_toArray]; rw [hus]; omega) (fun v hv => isOne_one' (elIs_ones hel v hv))
     rw [Nat.add_zero, hus] at hrun
     have hkeep : Kept (fun _ => symHid) w (w.setRow ad.block (cl.take (j * elSz K) ++ u'.cells.toList ++ cl.drop (j * elSz K + elSz K)).toArray) := fun b2 c2 t2 z2 hb2 hh2 => by
      rw [setRow_heap g6, Array.getElem?_setIfInBounds_ne]
      ·exact hb2
      ·intro eq
       subst eq
       rw [g6] at hb2
       simp only [Option.some.injEq, Obj.cells.injEq] at hb2
       obtain ⟨_, c3, t3, z3, h3, h4⟩ := (q4 _ rfl).2
       rw [g6] at h3
       simp only [Option.some.injEq, Obj.cells.injEq] at h3
       rw [← h3.2.1, hb2.2.1] at h4
       have h4' : (Nat.blt ad.block ρ.lo || (ρ.fz.t t2 || symHid t2)) = false := h4
       rw [show symHid t2 = true from hh2, Bool.or_true, Bool.or_true] at h4'
       cases h4'
     have hX := ext_owput (nx := nx') (f' := .ol K (.snoc l2 q0) (some q)) hM hg2 q1 rfl g6 (d' := cl.take (j * elSz K) ++ u'.cells.toList ++ cl.drop (j * elSz K + elSz K)) (by simp only [List.length_append, List.length_take, List.length_drop, hus]; omega) (w' := w.setRow ad.block (cl.take (j * elSz K) ++ u'.cells.toList ++ cl.drop (j * elSz K + elSz K)).toArray) (setRow_heap g6) rfl rfl rfl ?_
     ·refine ⟨rfl, rfl, _, _, rfl, ?_, (by simpa using hX.congr fun n => .inr (Tr.get_set _ _ _ _))⟩
      have hsz : u'.cells.size = elSz K := by rw [← Array.length_toList, hus]
      simp [storeVar, size_of hs w, hsz, hrun]
     ·refine ⟨_, n, c, rfl, g1, ?_, g3, fun q => (by cases q), fun ad2 h2 => ?_⟩
      ·show (l2.ev ρ ++ [q0.ev ρ.q]).length ≤ n
       rw [List.length_append, List.length_singleton]; omega
      ·cases h2
       refine ⟨cl.take (j * elSz K) ++ u'.cells.toList ++ cl.drop (j * elSz K + elSz K), had, ?_, by simp only [List.length_append, List.length_take, List.length_drop, hus]; omega, fun i2 q2 hi => ?_, fun i2 hi hi2 => ?_⟩
       ·rw [setRow_heap g6]
        simp [(Array.getElem?_eq_some_iff.1 g6).1]
       ·rw [Nat.zero_add, splice_at hus hjz]
        have hi' : (l2.ev ρ ++ [q0.ev ρ.q])[i2]? = some q2 := hi
        by_cases e0 : i2 = j
        ·rw [if_pos e0]
         rw [e0, ← hj2] at hi'
         simp at hi'
         rw [← hi']
         exact hel.stable hkeep
        ·rw [if_neg e0]
         have hlt2 : i2 < (l2.ev ρ).length := by
          have := (List.getElem?_eq_some_iff.1 hi').1
          rw [List.length_append, List.length_singleton] at this
          omega
         rw [List.getElem?_append_left hlt2, hl2 i2 (by omega)] at hi'
         have := g8 i2 q2 hi'
         rw [Nat.zero_add] at this
         exact this.stable hkeep
       ·have hi' : (l2.ev ρ ++ [q0.ev ρ.q]).length ≤ i2 := hi
        rw [List.length_append, List.length_singleton] at hi'
        rw [splice_at hus hjz, if_neg (by omega)]
        exact g9 i2 (by omega) hi2
end
set_option maxRecDepth 100000
theorem made_at {Z : Array Value} {s n i : Nat} (hs : Z.size = s) (h1 : 1 ≤ s) (hi : i < n) : ((madeCells Z (n * s)).toList.drop (i * s)).take s = Z.toList := by
 apply List.ext_getElem?
 intro k
 rw [List.getElem?_take]
 by_cases hk : k < s
 ·rw [if_pos hk, List.getElem?_drop, Array.getElem?_toList, Array.getElem?_toList]
  have h2 := Nat.mul_le_mul_right s (show i + 1 ≤ n from hi)
  rw [Nat.add_mul, Nat.one_mul] at h2
  have h3 : (i * s + k) % Z.size = k := by rw [hs, Nat.mul_comm, Nat.mul_add_mod, Nat.mod_eq_of_lt hk]
  unfold madeCells
  rw [Array.getElem?_map, Array.getElem?_range, if_pos (by omega)]
  simp only [Option.map_some]
  rw [h3, getElem!_pos Z k (by omega)]
  exact (Array.getElem?_eq_getElem (by omega)).symm
 ·rw [if_neg hk]
  exact (List.getElem?_eq_none (by simp; omega)).symm
theorem frm_alloc (w : World) (o : Obj) : Frm [] w (w.alloc o) := by
 have hk : ∀ (b : Nat) (o2 : Obj), w.heap[b]? = some o2 → (w.alloc o).heap[b]? = some o2 := keep_alloc (w := w) rfl o
 exact ⟨fun b o2 h _ => hk b o2 h, by show w.heap.size ≤ (w.heap.push o).size; simp, rfl, rfl, rfl, .of hk⟩
section
variable {ρ : Env} {B : List Ix} {h h' : Tr (Blk Sy)} {nx nx' : Nat} {R W : List Nat} {r : Ren} {w : World}
theorem bound_ok (hB : AllX ρ B) {a : Nat} {s : Int} (h : bdB B a = true) (hs : smallI s = true) : atIx ρ a s ≤ 1010000 := by
 have h1 := bdB_ok hB h
 have h2 := smallI_ok hs
 unfold atIx
 omega
theorem oMk_ok (hB : AllX ρ B) {t : TypeId} {p q : Nat × Int} {x : Nxt} (e : oMk B t p q h nx = .ok x h' nx' R W) (hM : Mod (symSig ρ) r h.get w) (hN : New r nx nx') (hf : Pl ρ) :
  nx ≤ nx' ∧ ∃ v u r' w', x = .val v ∧ (Instr.makeSlice t (.int .i64 (atIx ρ p.1 p.2)) (.int .i64 (atIx ρ q.1 q.2))).run Try.prog w = .ok u w' ∧ VR r' v u ∧ Ext (symSig ρ) r w nx nx' W h'.get r' w' := by
 unfold oMk at e
 cases hs : sliceT Try.prog t with
 | none => rw [hs] at e; cases (show (fail : M Sy Nxt) _ _ = _ from e)
 | some el =>
  rw [hs] at e; simp only at e
  cases hK : kOf el with
  | none => rw [hK] at e; cases (show (fail : M Sy Nxt) _ _ = _ from e)
  | some K =>
   rw [hK] at e; simp only at e
   cases hi : (Try.prog).info? el with
   | none => rw [hi] at e; cases (show (fail : M Sy Nxt) _ _ = _ from e)
   | some i =>
    rw [hi] at e; simp only at e
    cases hz : i.zero with
    | none => rw [hz] at e; cases (show (fail : M Sy Nxt) _ _ = _ from e)
    | some z =>
     rw [hz] at e; simp only at e
     obtain ⟨hk, e2⟩ := cond_ok e
     simp only [Bool.and_eq_true, Bool.not_eq_true'] at hk
     obtain ⟨k1, k2, k3, k4, k5, k6, k7, k8, k9⟩ := hk
     obtain ⟨m, h1, nx1, R1, W1, R2, W2, e3, e4, rfl, rfl⟩ := bind_ok e2
     obtain ⟨rfl, rfl, rfl, rfl⟩ := val_ok e4
     unfold fresh at e3
     cases e3
     have hq : atIx ρ q.1 q.2 = atIx ρ p.1 p.2 := by rw [Nat.eq_of_beq_eq_true k1, eqI_ok k2]
     have h0 := geZ_ok hB k3
     have hbd := bound_ok hB k4 k5
     have hsz := Nat.eq_of_beq_eq_true k6
     have hby := Nat.le_of_ble_eq_true k7
     have hzr := eqL_ok eq0_ok k8
     obtain ⟨n, hn⟩ := Int.eq_ofNat_of_zero_le h0
     have hz3 : elSz K ≤ 3 := by rw [elSz_agg]; cases isAggK K <;> decide
     have hzl : (zeroK K).length = elSz K := by rcases K with _ | _ | _ | _ | K <;> rfl
     have hzs : z.cells.size = elSz K := by rw [← Array.length_toList, hzr, hzl]
     have hn1 : n ≤ 1010000 := by omega
     have hprod : n * elSz K ≤ 3030000 := Nat.le_trans (Nat.mul_le_mul hn1 hz3) (by decide)
     have hbyt : i.bytes * n ≤ 64 * 1010000 := Nat.mul_le_mul hby hn1
     have hrun := run_makeSlice (P := Try.prog) w t el i z (sliceT_of hs) hi hz .i64 .i64 (n : Int) (n : Int) (by omega) (by omega) (by rw [hsz]; simp only [Int.toNat_natCast]; omega) (by
      have : (i.bytes : Int) * (n : Int) = ((i.bytes * n : Nat) : Int) := by simp
      rw [this]; omega) (by omega)
     simp only [Int.toNat_natCast] at hrun
     have htk := kOf_ok hK
     have hlo : (symSig ρ).lo ≤ w.heap.size := hM.sz
     have hnew : (w.alloc (.cells (madeCells z.cells (n * i.size)) el)).heap[w.heap.size]? = some (.cells (madeCells z.cells (n * i.size)) el (0, 0)) := by
      show (w.heap.push _)[w.heap.size]? = _
      simp
     obtain ⟨r', hX, hr⟩ := ext_ownew (S := symSig ρ) (I := []) (O := []) (x := .ol K .nil (some p)) (v := .slice (some ⟨w.heap.size, 0, none⟩) n n) hM hN (fun _ h => by simp at h) (fun _ h => by simp at h) (fun _ h => by simp at h) (frm_alloc w (.cells (madeCells z.cells (n * i.size)) el))
      ⟨⟨_, n, n, rfl, Nat.le_refl _, Nat.zero_le _, hn.symm, fun q => (by cases q), fun ad had => by
        cases had
        refine ⟨(madeCells z.cells (n * i.size)).toList, rfl, ?_, ?_, fun i2 q2 hi2 => ?_, fun i2 _ hi2 => ?_⟩
        ·rw [htk] at hnew ⊢
         exact hnew
        ·rw [Array.length_toList, size_madeCells, hsz]
        ·have : ([] : List Rat)[i2]? = some q2 := hi2
         simp at this
        ·rw [hsz, made_at hzs (elSz_pos K) hi2, hzr]⟩, rfl, fun b hb => by
        cases hb
        exact ⟨hM.fits, _, _, _, hnew, new_pl hf hlo k9⟩⟩ fun b hb => by
        cases hb
        exact .inr (Nat.le_refl _)
     refine ⟨Nat.le_succ _, _, _, r', w.alloc (.cells (madeCells z.cells (n * i.size)) el), rfl, ?_, .opq hr rfl, ?_⟩
     ·rw [hq, hn]
      exact hrun
     ·have hX2 := hX.congr (g' := (h.set nx (.ow (.ol K .nil (some p)))).get) fun n => .inr (by rw [Tr.get_set]; simp)
      simpa using hX2
end
end Ev
end Go.Proofs.Ytnlhjcfpfapafaa
