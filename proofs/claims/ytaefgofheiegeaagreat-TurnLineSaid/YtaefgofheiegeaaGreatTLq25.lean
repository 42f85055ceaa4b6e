/- Contracts. -/
import Derived.Test.YtaefgofheiegeaaGreatTLq24
namespace Go.Proofs.YtaefgofheiegeaaGreat
open Go Go.RowKit
namespace Ev
set_option maxRecDepth 100000
noncomputable def vOf (K : Nat) (y : Nat × Le) : Option Nat := match y.2 with
  | .v c => cond (Nat.beq y.1 K) (some c) none
  | _ => none
theorem vOf_ok {K c : Nat} {y : Nat × Le} (h : vOf K y = some c) : y = (K, .v c) := by
  obtain ⟨a, l⟩ := y
  cases l <;> first | (cases (show none = some c from h); done) | skip
  rename_i d
  have h' : cond (Nat.beq a K) (some d) none = some c := h
  cases hb : Nat.beq a K with
  | false => rw [hb] at h'; cases h'
  | true =>
    rw [hb] at h'
    cases h'
    rw [Nat.eq_of_beq_eq_true hb]
abbrev Tri3 := List (Nat × Nat × Nat)
noncomputable def findL (L : Tri3) (c d : Nat) : Option Nat := List.rec (motive := fun _ => Option Nat) none (fun x _ ih => cond (Nat.beq x.1 c && Nat.beq x.2.1 d) (some x.2.2) ih) L
theorem findL_ok {c d e : Nat} : ∀ {L : Tri3}, findL L c d = some e → (c, d, e) ∈ L
  | [], h => by cases h
  | x :: L, h => by
    obtain ⟨a, b, g⟩ := x
    have h' : cond (Nat.beq a c && Nat.beq b d) (some g) (findL L c d) = some e := h
    cases hb : (Nat.beq a c && Nat.beq b d) with
    | false => rw [hb] at h'; exact List.mem_cons_of_mem _ (findL_ok h')
    | true =>
      rw [hb] at h'
      cases h'
      simp only [Bool.and_eq_true] at hb
      rw [Nat.eq_of_beq_eq_true hb.1, Nat.eq_of_beq_eq_true hb.2]
      exact List.mem_cons_self
noncomputable def unA (B : List Ix) (K : Nat) (L : Tri3) (k : Nat → M Sy Value) (args : List Value) : Option (M Sy Value) := match args with
  | [a] => some (bind (lsArg B a) fun y => match vOf K y with
    | some c => match findL L c 0 with
      | some e => k e
      | none => fail
    | none => fail)
  | _ => none
noncomputable def giveO (K : Nat) (e : Nat) : M Sy Value := newOw (.ol K (.v e) none)
noncomputable def giveT (K : Nat) (u : Value) (e : Nat) : M Sy Value := bind (newOw (.ol K (.v e) none)) fun x => ret (.tuple ⟨[x, u]⟩)
theorem loc_giveO (K e : Nat) : Loc (giveO K e) := loc_newOw _
theorem loc_giveT (K : Nat) (u : Value) (e : Nat) : Loc (giveT K u e) := loc_bind (loc_newOw _) fun _ => loc_ret _
section
variable {ρ : Env} {B : List Ix}
def UnOK (ρ : Env) (f : FuncId) (K : Nat) (L : Tri3) (Q : Nat → World → Ending → World → Prop) : Prop := ∀ c e, (c, 0, e) ∈ L → ∀ (w : World) (v : Value), LsIn K w v (ρ.lst c) → Tryz.prog.globals.size ≤ w.heap.size → natSig.base w → Calls Tryz.prog f ⟨[v]⟩ w fun en w' => Q e w en w' ∧ Below w.heap.size w w'
def BiOK (ρ : Env) (f : FuncId) (K : Nat) (L : Tri3) (Q : Nat → World → Ending → World → Prop) : Prop := ∀ c d e, (c, d, e) ∈ L → ∀ (w : World) (v u : Value), LsIn K w v (ρ.lst c) → LsIn K w u (ρ.lst d) → Tryz.prog.globals.size ≤ w.heap.size → natSig.base w → Calls Tryz.prog f ⟨[v, u]⟩ w fun en w' => Q e w en w' ∧ Below w.heap.size w w'
def QO (ρ : Env) (K : Nat) (e : Nat) (w : World) (en : Ending) (w' : World) : Prop := ∃ u, en = .returned u ∧ NewOl K w w' u (ρ.lst e)
def QT (ρ : Env) (K : Nat) (u2 : Value) (e : Nat) (w : World) (en : Ending) (w' : World) : Prop := ∃ u, en = .returned (.tuple ⟨[u, u2]⟩) ∧ NewOl K w w' u (ρ.lst e)
theorem giveO_ok {K e : Nat} {f : FuncId} {args' : List Value} {h h' : Tr (Blk Sy)} {nx nx' : Nat} {R W : List Nat} {r : Ren} {w : World} {v : Value} (e1 : giveO K e h nx = .ok v h' nx' R W) (hM : Mod (symSig ρ) r h.get w) (hN : New r nx nx')
    (c : Calls Tryz.prog f ⟨args'⟩ w fun en w' => QO ρ K e w en w' ∧ Below w.heap.size w w') : Calls Tryz.prog f ⟨args'⟩ w fun e w' => ∃ v' r', e = .returned v' ∧ VR r' v v' ∧ Ext (symSig ρ) r w nx nx' W h'.get r' w' :=
  goes_ow (l := .v e) e1 hM hN (c.mono fun en w' hh => by
    obtain ⟨⟨u, q1, q2⟩, q3⟩ := hh
    exact ⟨u, q1, q2, q3⟩)
theorem giveT_ok {K e : Nat} {u2 : Value} (hp : plain u2 = true) {f : FuncId} {args' : List Value} {h h' : Tr (Blk Sy)} {nx nx' : Nat} {R W : List Nat} {r : Ren} {w : World} {v : Value} (e1 : giveT K u2 e h nx = .ok v h' nx' R W) (hM : Mod (symSig ρ) r h.get w) (hN : New r nx nx')
    (c : Calls Tryz.prog f ⟨args'⟩ w fun en w' => QT ρ K u2 e w en w' ∧ Below w.heap.size w w') : Calls Tryz.prog f ⟨args'⟩ w fun e w' => ∃ v' r', e = .returned v' ∧ VR r' v v' ∧ Ext (symSig ρ) r w nx nx' W h'.get r' w' :=
  goes_owT (l := .v e) hp e1 hM hN (c.mono fun en w' hh => by
    obtain ⟨⟨u, q1, q2⟩, q3⟩ := hh
    exact ⟨u, q1, q2, q3⟩)
theorem unA_ok (hB : AllX ρ B) {f : FuncId} {K : Nat} {L : Tri3} {k : Nat → M Sy Value} {Q : Nat → World → Ending → World → Prop} (hl : ∀ e, Loc (k e)) (hf : UnOK ρ f K L Q)
    (hk : ∀ e (args' : List Value) (h : Tr (Blk Sy)) nx v h' nx' R W r w, k e h nx = .ok v h' nx' R W → Mod (symSig ρ) r h.get w → New r nx nx' → (Calls Tryz.prog f ⟨args'⟩ w fun en w' => Q e w en w' ∧ Below w.heap.size w w') →
      Calls Tryz.prog f ⟨args'⟩ w fun e w' => ∃ v' r', e = .returned v' ∧ VR r' v v' ∧ Ext (symSig ρ) r w nx nx' W h'.get r' w') : SumF (symSig ρ) Tryz.prog f (unA B K L k) := by
  intro args m hm
  rcases args with _ | ⟨a, _ | ⟨b, l⟩⟩ <;> first | (cases (show none = some m from hm); done) | skip
  cases hm
  refine ⟨loc_bind (loc_lsArg _ _) fun y => ?_, fun h nx v h' nx' R W e r w args' hv hM hN => ?_⟩
  · (repeat' split) <;> first | exact loc_fail | exact hl _
  cases hv with
  | cons h1 h2 =>
    cases h2
    obtain ⟨y, g1, nx1, R1, W1, R2, W2, e1, e2, rfl, rfl⟩ := bind_ok e
    obtain ⟨rfl, rfl, rfl, hls⟩ := lsArg_ok hB e1 h1 hM
    cases hy : vOf K y with
    | none => rw [hy] at e2; cases (show (fail : M Sy Value) _ _ = _ from e2)
    | some c =>
      rw [hy] at e2; simp only at e2
      cases hc : findL L c 0 with
      | none => rw [hc] at e2; cases (show (fail : M Sy Value) _ _ = _ from e2)
      | some d =>
        rw [hc] at e2
        obtain rfl := vOf_ok hy
        have := hk d _ _ _ _ _ _ _ _ _ _ e2 hM hN (hf c d (findL_ok hc) w _ hls hM.fits hM.base)
        simp only [List.nil_append]
        exact this
end
noncomputable def litEs (K n : Nat) : List Value → M Sy (List Qe) := Nat.rec (motive := fun _ => List Value → M Sy (List Qe)) (fun _ => ret []) (fun _ ih l => bind (elV K (.agg ⟨l.take 3⟩)) fun e => bind (ih (l.drop 3)) fun es => ret (e :: es)) n
theorem loc_litEs (K : Nat) : ∀ (n : Nat) (l : List Value), Loc (litEs K n l)
  | 0, _ => loc_ret _
  | n + 1, l => loc_bind (loc_elV _ _) fun _ => loc_bind (loc_litEs K n _) fun _ => loc_ret _
noncomputable def litArg (K : Nat) (v : Value) : M Sy (List Qe) := match sliceOf v with
  | some y => cond (isAggK K && (Nat.ble y.2.1 y.2.2 && Nat.blt y.2.2 capX)) (bind (rowsO y.1 y.2.1 3) fun l => litEs K y.2.1 l) fail
  | none => fail
theorem loc_litArg (K : Nat) (v : Value) : Loc (litArg K v) := by
  unfold litArg
  split
  · exact loc_cond (loc_bind (loc_rowsO _ _ _) fun _ => loc_litEs _ _ _) loc_fail
  · exact loc_fail
noncomputable def beqL (es fs : List Qe) : Bool := List.rec (motive := fun _ => List Qe → Bool) (fun fs => match fs with
    | [] => true
    | _ => false) (fun e _ ih fs => match fs with
    | f :: fs => e.beq f && ih fs
    | [] => false) es fs
theorem beqL_ok : ∀ {es fs : List Qe}, beqL es fs = true → es = fs
  | [], [], _ => rfl
  | [], _ :: _, h => by cases h
  | _ :: _, [], h => by cases h
  | e :: es, f :: fs, h => by
    have h' := Bool.and_eq_true_iff.1 (show (e.beq f && beqL es fs) = true from h)
    rw [Qe.beq_ok _ _ h'.1, beqL_ok h'.2]
abbrev LitT := List (List Qe × Nat)
abbrev LeT := List (Le × Nat)
noncomputable def findT (T : LitT) (es : List Qe) : Option Nat := List.rec (motive := fun _ => Option Nat) none (fun x _ ih => cond (beqL x.1 es) (some x.2) ih) T
noncomputable def findE (T : LeT) (l : Le) : Option Nat := List.rec (motive := fun _ => Option Nat) none (fun x _ ih => cond (x.1.beq l) (some x.2) ih) T
theorem findT_ok {es : List Qe} {c : Nat} : ∀ {T : LitT}, findT T es = some c → (es, c) ∈ T
  | [], h => by cases h
  | x :: T, h => by
    have h' : cond (beqL x.1 es) (some x.2) (findT T es) = some c := h
    cases hb : beqL x.1 es with
    | true =>
      rw [hb] at h'
      cases h'
      rw [← beqL_ok hb]
      exact List.mem_cons_self
    | false => rw [hb] at h'; exact List.mem_cons_of_mem _ (findT_ok h')
theorem findE_ok {l : Le} {c : Nat} : ∀ {T : LeT}, findE T l = some c → (l, c) ∈ T
  | [], h => by cases h
  | x :: T, h => by
    have h' : cond (x.1.beq l) (some x.2) (findE T l) = some c := h
    cases hb : x.1.beq l with
    | true =>
      rw [hb] at h'
      cases h'
      rw [← Le.beq_ok _ _ hb]
      exact List.mem_cons_self
    | false => rw [hb] at h'; exact List.mem_cons_of_mem _ (findE_ok h')
structure Nms where
  T : LitT
  E : LeT
def NmsOK (ρ : Env) (N : Nms) : Prop := (∀ es c, (es, c) ∈ N.T → ρ.lst c = es.map fun e => e.ev ρ.q) ∧ ∀ l c, (l, c) ∈ N.E → ρ.lst c = l.ev ρ
noncomputable def nameV (B : List Ix) (N : Nms) (K : Nat) (v : Value) : M Sy Nat := match chanOf v with
  | some _ => bind (lsArg B v) fun y => cond (Nat.beq y.1 K) (match vOf K y with
    | some c => ret c
    | none => ofOpt (findE N.E y.2)) fail
  | none => bind (litArg K v) fun es => ofOpt (findT N.T es)
theorem loc_nameV (B : List Ix) (N : Nms) (K : Nat) (v : Value) : Loc (nameV B N K v) := by
  unfold nameV
  split
  · refine loc_bind (loc_lsArg _ _) fun y => loc_cond ?_ loc_fail
    split
    · exact loc_ret _
    · exact loc_opt _
  · exact loc_bind (loc_litArg _ _) fun _ => loc_opt _
section
variable {ρ : Env} {B : List Ix} {N : Nms} {h h' : Tr (Blk Sy)} {nx nx' : Nat} {R W : List Nat} {r : Ren} {w : World}
theorem vsr_take : ∀ {l l' : List Value}, VsR r l l' → ∀ n, VsR r (l.take n) (l'.take n) ∧ VsR r (l.drop n) (l'.drop n)
  | [], l', h, n => by
    cases h
    simp only [List.take_nil, List.drop_nil]
    exact ⟨.nil, .nil⟩
  | a :: l, l', h, n => by
    cases h with
    | cons h1 h2 =>
      cases n with
      | zero => exact ⟨.nil, .cons h1 h2⟩
      | succ n => exact ⟨.cons h1 (vsr_take h2 n).1, (vsr_take h2 n).2⟩
theorem litEs_ok {K : Nat} : ∀ {n : Nat} {l l' : List Value} {es : List Qe} {h h' : Tr (Blk Sy)} {nx nx' : Nat} {R W : List Nat}, litEs K n l h nx = .ok es h' nx' R W → VsR r l l' → Mod (symSig ρ) r h.get w →
    h' = h ∧ nx' = nx ∧ W = [] ∧ es.length = n ∧ ∀ i e, es[i]? = some e → elIs K w (e.ev ρ.q) ((l'.drop (i * 3)).take 3)
  | 0, l, l', es, h, h', nx, nx', R, W, e, _, _ => by
    obtain ⟨rfl, rfl, rfl, rfl⟩ := ret_ok (show (ret [] : M Sy (List Qe)) _ _ = _ from e)
    exact ⟨rfl, rfl, rfl, rfl, fun i e h => by simp at h⟩
  | n + 1, l, l', es, h, h', nx, nx', R, W, e, hv, hM => by
    obtain ⟨q, h1, nx1, R1, W1, R2, W2, e1, e2, rfl, rfl⟩ := bind_ok (show bind (elV K (.agg ⟨l.take 3⟩)) (fun e => bind (litEs K n (l.drop 3)) fun es => ret (e :: es)) h nx = _ from e)
    obtain ⟨rfl, rfl, rfl, hq⟩ := elV_ok (ρ := ρ) (w := w) (v' := .agg ⟨l'.take 3⟩) e1 (.agg (vsr_take hv 3).1) hM
    obtain ⟨qs, h2, nx2, R3, W3, R4, W4, e3, e4, rfl, rfl⟩ := bind_ok e2
    obtain ⟨rfl, rfl, rfl, hl, ih⟩ := litEs_ok e3 (vsr_take hv 3).2 hM
    obtain ⟨rfl, rfl, rfl, rfl⟩ := ret_ok e4
    refine ⟨rfl, rfl, by simp, by simp [hl], fun i e he => ?_⟩
    cases i with
    | zero =>
      simp only [List.getElem?_cons_zero, Option.some.injEq] at he
      subst he
      rw [Nat.zero_mul, List.drop_zero]
      exact hq
    | succ i =>
      rw [List.getElem?_cons_succ] at he
      have := ih i e he
      rw [List.drop_drop] at this
      rw [show (i + 1) * 3 = 3 + i * 3 by omega]
      exact this
theorem litArg_ok {K : Nat} {v v' : Value} {es : List Qe} (e : litArg K v h nx = .ok es h' nx' R W) (hv : VR r v v') (hM : Mod (symSig ρ) r h.get w) : h' = h ∧ nx' = nx ∧ W = [] ∧ LsIn K w v' (es.map fun e => e.ev ρ.q) := by
  unfold litArg at e
  cases hs : sliceOf v with
  | none => rw [hs] at e; cases (show (fail : M Sy (List Qe)) h nx = _ from e)
  | some y =>
    rw [hs] at e; simp only at e
    obtain ⟨hk, e2⟩ := cond_ok e
    simp only [Bool.and_eq_true] at hk
    obtain ⟨hK, hn, hc⟩ := hk
    have hn := Nat.le_of_ble_eq_true hn
    have hc : y.2.2 < capX := Nat.le_of_ble_eq_true hc
    have hsz : elSz K = 3 := by rw [elSz_agg, hK]; rfl
    obtain ⟨l, h1, nx1, R1, W1, R2, W2, e3, e4, rfl, rfl⟩ := bind_ok e2
    rw [sliceOf_of hs] at hv
    obtain ⟨rfl, rfl, rfl, hl, a', c', l', rfl, g1, g2, g3⟩ := rowsO_ok e3 hM hv
    obtain ⟨rfl, rfl, rfl, hlen, hel⟩ := litEs_ok e4 g1 hM
    have hlm : (es.map fun e => e.ev ρ.q).length = y.2.1 := by rw [List.length_map, hlen]
    have hl' : l'.length = y.2.1 * 3 := by rw [g1.length, hl]
    obtain ⟨base, n, c⟩ := y
    have hn : n ≤ c := hn
    have hc : c < capX := hc
    have hlm : (es.map fun e => e.ev ρ.q).length = n := hlm
    have hl' : l'.length = n * 3 := hl'
    have hlen : es.length = n := hlen
    cases base with
    | none =>
      have hv' : VR r (.slice none n c) (.slice a' n c') := hv
      have hq := VR.nilslc hv'
      simp only [Value.slice.injEq, true_and] at hq
      obtain ⟨rfl, rfl⟩ := hq
      refine ⟨rfl, rfl, by simp, none, c', by rw [hlm], by rw [hlm]; exact hn, fun hp => ?_⟩
      have g3' : n = 0 ∧ l' = [] := g3
      rw [g3'.1] at hlm
      exact absurd (List.length_eq_zero_iff.1 hlm) hp
    | some p =>
      obtain ⟨b, off⟩ := p
      obtain ⟨b', c2, hb, heq, hcc⟩ := slice_cases (b := b) (off := off) hv
      unfold vslice at heq
      cases heq
      have hcc2 : c' = c := by
        rcases hcc with ⟨_, rfl⟩ | ⟨s, c0, q1, _, _, _⟩
        · rfl
        · exfalso
          have : capX ≤ capX * (s + 1) := Nat.le_mul_of_pos_right _ (by omega)
          omega
      subst hcc2
      refine ⟨rfl, rfl, by simp, some ⟨b', off, none⟩, c', by rw [hlm], by rw [hlm]; exact hn, fun hp => ?_⟩
      have g3' : ∀ j u, l'[j]? = some u → w.cell? ((⟨b', off, none⟩ : Addr).add j) = some u := g3
      have hpos : 0 < n := by
        rcases Nat.eq_zero_or_pos n with q | q
        · rw [q] at hlm; exact absurd (List.length_eq_zero_iff.1 hlm) hp
        · exact q
      have h0 := g3' 0 (l'[0]'(by omega)) (List.getElem?_eq_getElem (by omega))
      cases hh : w.heap[b']? with
      | none => simp [World.cell?, Addr.add, hh] at h0
      | some o =>
        cases o with
        | cells cs t z =>
          obtain ⟨cl⟩ := cs
          refine ⟨b', off, cl, t, z, rfl, hh, fun i q hi => ?_⟩
          rw [List.getElem?_map] at hi
          obtain ⟨x, hx, rfl⟩ := Option.map_eq_some_iff.1 hi
          have hi2 := (List.getElem?_eq_some_iff.1 hx).1
          have := hel i x hx
          rw [hsz]
          have heq : (cl.drop (off + i * 3)).take 3 = (l'.drop (i * 3)).take 3 := by
            apply List.ext_getElem?
            intro k
            rw [List.getElem?_take, List.getElem?_take]
            by_cases hk : k < 3
            · rw [if_pos hk, if_pos hk, List.getElem?_drop, List.getElem?_drop]
              have h1 := g3' (i * 3 + k) (l'[i * 3 + k]'(by omega)) (List.getElem?_eq_getElem (by omega))
              rw [add_off] at h1
              have h2 : cl[off + (i * 3 + k)]? = some (l'[i * 3 + k]'(by omega)) := by simpa [World.cell?, hh] using h1
              rw [Nat.add_assoc, h2, List.getElem?_eq_getElem (by omega)]
            · rw [if_neg hk, if_neg hk]
          rw [heq]
          exact this
        | _ => simp [World.cell?, Addr.add, hh] at h0
theorem opt_ok {α : Type} {o : Option α} {x : α} (e : (ofOpt o : M Sy α) h nx = .ok x h' nx' R W) : o = some x ∧ h' = h ∧ nx' = nx ∧ W = [] := by
  cases o with
  | none => cases (show (fail : M Sy α) h nx = _ from e)
  | some y =>
    obtain ⟨rfl, rfl, rfl, rfl⟩ := ret_ok (show (ret y : M Sy α) h nx = _ from e)
    exact ⟨rfl, rfl, rfl, rfl⟩
theorem nameV_ok (hB : AllX ρ B) (hN : NmsOK ρ N) {K c : Nat} {v v' : Value} (e : nameV B N K v h nx = .ok c h' nx' R W) (hv : VR r v v') (hM : Mod (symSig ρ) r h.get w) : h' = h ∧ nx' = nx ∧ W = [] ∧ LsIn K w v' (ρ.lst c) := by
  unfold nameV at e
  cases hc : chanOf v with
  | some i =>
    rw [hc] at e; simp only at e
    obtain ⟨y, g1, nx1, R1, W1, R2, W2, e1, e2, rfl, rfl⟩ := bind_ok e
    obtain ⟨rfl, rfl, rfl, hls⟩ := lsArg_ok hB e1 hv hM
    obtain ⟨hk, e3⟩ := cond_ok e2
    obtain ⟨a, l⟩ := y
    have hk : a = K := Nat.eq_of_beq_eq_true hk
    subst hk
    cases hy : vOf a (a, l) with
    | some d =>
      rw [hy] at e3
      obtain ⟨rfl, rfl, rfl, rfl⟩ := ret_ok (show (ret d : M Sy Nat) _ _ = _ from e3)
      have := vOf_ok hy
      cases this
      exact ⟨rfl, rfl, by simp, hls⟩
    | none =>
      rw [hy] at e3
      obtain ⟨h1, rfl, rfl, rfl⟩ := opt_ok (show (ofOpt (findE N.E l) : M Sy Nat) _ _ = _ from e3)
      rw [hN.2 _ _ (findE_ok h1)]
      exact ⟨rfl, rfl, by simp, hls⟩
  | none =>
    rw [hc] at e; simp only at e
    obtain ⟨es, g1, nx1, R1, W1, R2, W2, e1, e2, rfl, rfl⟩ := bind_ok e
    obtain ⟨rfl, rfl, rfl, hls⟩ := litArg_ok (ρ := ρ) e1 hv hM
    obtain ⟨h1, rfl, rfl, rfl⟩ := opt_ok e2
    rw [hN.1 _ _ (findT_ok h1)]
    exact ⟨rfl, rfl, by simp, hls⟩
end
abbrev TriS := List (Nat × Qe × Nat)
noncomputable def findS (L : TriS) (c : Nat) (x : Qe) : Option Nat := List.rec (motive := fun _ => Option Nat) none (fun y _ ih => cond (Nat.beq y.1 c && y.2.1.beq x) (some y.2.2) ih) L
theorem findS_ok {c e : Nat} {x : Qe} : ∀ {L : TriS}, findS L c x = some e → (c, x, e) ∈ L
  | [], h => by cases h
  | y :: L, h => by
    obtain ⟨a, b, g⟩ := y
    have h' : cond (Nat.beq a c && b.beq x) (some g) (findS L c x) = some e := h
    cases hb : (Nat.beq a c && b.beq x) with
    | false => rw [hb] at h'; exact List.mem_cons_of_mem _ (findS_ok h')
    | true =>
      rw [hb] at h'
      cases h'
      simp only [Bool.and_eq_true] at hb
      rw [Nat.eq_of_beq_eq_true hb.1, Qe.beq_ok _ _ hb.2]
      exact List.mem_cons_self
noncomputable def unN (B : List Ix) (N : Nms) (K : Nat) (L : Tri3) (k : Nat → M Sy Value) (args : List Value) : Option (M Sy Value) := match args with
  | [a] => some (bind (nameV B N K a) fun c => match findL L c 0 with
    | some e => k e
    | none => fail)
  | _ => none
noncomputable def biN (B : List Ix) (N : Nms) (K : Nat) (L : Tri3) (k : Nat → M Sy Value) (args : List Value) : Option (M Sy Value) := match args with
  | [a, b] => some (bind (nameV B N K a) fun c => bind (nameV B N K b) fun d => match findL L c d with
    | some e => k e
    | none => fail)
  | _ => none
noncomputable def siN (B : List Ix) (N : Nms) (K : Nat) (L : TriS) (k : Nat → M Sy Value) (args : List Value) : Option (M Sy Value) := match args with
  | [a, b] => some (bind (nameV B N K a) fun c => bind (numV b) fun x => match findS L c x with
    | some e => k e
    | none => fail)
  | _ => none
section
variable {ρ : Env} {B : List Ix} {N : Nms}
def SiOK (ρ : Env) (f : FuncId) (K : Nat) (L : TriS) (Q : Nat → World → Ending → World → Prop) : Prop := ∀ c x e, (c, x, e) ∈ L → ∀ (w : World) (v u : Value), LsIn K w v (ρ.lst c) → NumIn w u (x.ev ρ.q) → Tryz.prog.globals.size ≤ w.heap.size → natSig.base w → Calls Tryz.prog f ⟨[v, u]⟩ w fun en w' => Q e w en w' ∧ Below w.heap.size w w'
abbrev GivesOK (ρ : Env) (f : FuncId) (k : Nat → M Sy Value) (Q : Nat → World → Ending → World → Prop) : Prop := ∀ e (args' : List Value) (h : Tr (Blk Sy)) nx v h' nx' R W r w, k e h nx = .ok v h' nx' R W → Mod (symSig ρ) r h.get w → New r nx nx' → (Calls Tryz.prog f ⟨args'⟩ w fun en w' => Q e w en w' ∧ Below w.heap.size w w') →
      Calls Tryz.prog f ⟨args'⟩ w fun e w' => ∃ v' r', e = .returned v' ∧ VR r' v v' ∧ Ext (symSig ρ) r w nx nx' W h'.get r' w'
theorem unN_ok (hB : AllX ρ B) (hNm : NmsOK ρ N) {f : FuncId} {K : Nat} {L : Tri3} {k : Nat → M Sy Value} {Q : Nat → World → Ending → World → Prop} (hl : ∀ e, Loc (k e)) (hf : UnOK ρ f K L Q) (hk : GivesOK ρ f k Q) : SumF (symSig ρ) Tryz.prog f (unN B N K L k) := by
  intro args m hm
  rcases args with _ | ⟨a, _ | ⟨b, l⟩⟩ <;> first | (cases (show none = some m from hm); done) | skip
  cases hm
  refine ⟨loc_bind (loc_nameV _ _ _ _) fun y => ?_, fun h nx v h' nx' R W e r w args' hv hM hN => ?_⟩
  · split <;> first | exact loc_fail | exact hl _
  cases hv with
  | cons h1 h2 =>
    cases h2
    obtain ⟨c, g1, nx1, R1, W1, R2, W2, e1, e2, rfl, rfl⟩ := bind_ok e
    obtain ⟨rfl, rfl, rfl, hls⟩ := nameV_ok hB hNm e1 h1 hM
    cases hc : findL L c 0 with
    | none => rw [hc] at e2; cases (show (fail : M Sy Value) _ _ = _ from e2)
    | some d =>
      rw [hc] at e2
      have := hk d _ _ _ _ _ _ _ _ _ _ e2 hM hN (hf c d (findL_ok hc) w _ hls hM.fits hM.base)
      simp only [List.nil_append]
      exact this
theorem biN_ok (hB : AllX ρ B) (hNm : NmsOK ρ N) {f : FuncId} {K : Nat} {L : Tri3} {k : Nat → M Sy Value} {Q : Nat → World → Ending → World → Prop} (hl : ∀ e, Loc (k e)) (hf : BiOK ρ f K L Q) (hk : GivesOK ρ f k Q) : SumF (symSig ρ) Tryz.prog f (biN B N K L k) := by
  intro args m hm
  rcases args with _ | ⟨a, _ | ⟨b, _ | ⟨z, l⟩⟩⟩ <;> first | (cases (show none = some m from hm); done) | skip
  cases hm
  refine ⟨loc_bind (loc_nameV _ _ _ _) fun y => loc_bind (loc_nameV _ _ _ _) fun z => ?_, fun h nx v h' nx' R W e r w args' hv hM hN => ?_⟩
  · split <;> first | exact loc_fail | exact hl _
  cases hv with
  | cons h1 hv => cases hv with
    | cons h2 h3 =>
      cases h3
      obtain ⟨c, g1, nx1, R1, W1, R2, W2, e1, e2, rfl, rfl⟩ := bind_ok e
      obtain ⟨rfl, rfl, rfl, hls⟩ := nameV_ok hB hNm e1 h1 hM
      obtain ⟨d, g3, nx3, R3, W3, R4, W4, e3, e4, rfl, rfl⟩ := bind_ok e2
      obtain ⟨rfl, rfl, rfl, hls2⟩ := nameV_ok hB hNm e3 h2 hM
      cases hc : findL L c d with
      | none => rw [hc] at e4; cases (show (fail : M Sy Value) _ _ = _ from e4)
      | some g =>
        rw [hc] at e4
        have := hk g _ _ _ _ _ _ _ _ _ _ e4 hM hN (hf c d g (findL_ok hc) w _ _ hls hls2 hM.fits hM.base)
        simp only [List.nil_append]
        exact this
theorem siN_ok (hB : AllX ρ B) (hNm : NmsOK ρ N) {f : FuncId} {K : Nat} {L : TriS} {k : Nat → M Sy Value} {Q : Nat → World → Ending → World → Prop} (hl : ∀ e, Loc (k e)) (hf : SiOK ρ f K L Q) (hk : GivesOK ρ f k Q) : SumF (symSig ρ) Tryz.prog f (siN B N K L k) := by
  intro args m hm
  rcases args with _ | ⟨a, _ | ⟨b, _ | ⟨z, l⟩⟩⟩ <;> first | (cases (show none = some m from hm); done) | skip
  cases hm
  refine ⟨loc_bind (loc_nameV _ _ _ _) fun y => loc_bind (loc_numV _) fun z => ?_, fun h nx v h' nx' R W e r w args' hv hM hN => ?_⟩
  · split <;> first | exact loc_fail | exact hl _
  cases hv with
  | cons h1 hv => cases hv with
    | cons h2 h3 =>
      cases h3
      obtain ⟨c, g1, nx1, R1, W1, R2, W2, e1, e2, rfl, rfl⟩ := bind_ok e
      obtain ⟨rfl, rfl, rfl, hls⟩ := nameV_ok hB hNm e1 h1 hM
      obtain ⟨x, g3, nx3, R3, W3, R4, W4, e3, e4, rfl, rfl⟩ := bind_ok e2
      obtain ⟨rfl, rfl, rfl, hx⟩ := numV_ok e3 h2 hM
      cases hc : findS L c x with
      | none => rw [hc] at e4; cases (show (fail : M Sy Value) _ _ = _ from e4)
      | some g =>
        rw [hc] at e4
        have := hk g _ _ _ _ _ _ _ _ _ _ e4 hM hN (hf c x g (findS_ok hc) w _ _ hls hx hM.fits hM.base)
        simp only [List.nil_append]
        exact this
theorem giveO_gives {K : Nat} {f : FuncId} : GivesOK ρ f (giveO K) (QO ρ K) := fun _ _ _ _ _ _ _ _ _ _ _ e hM hN c => giveO_ok e hM hN c
theorem giveT_gives {K : Nat} {u : Value} (hp : plain u = true) {f : FuncId} : GivesOK ρ f (giveT K u) (QT ρ K u) := fun _ _ _ _ _ _ _ _ _ _ _ e hM hN c => giveT_ok hp e hM hN c
end
abbrev NatL := List (Sy × Sy × Sy)
noncomputable def eqSn (a b : Sy) : Bool := match a with
  | .n k => match b with
    | .n j => Nat.beq k j
    | _ => false
  | _ => eqSy a b
theorem eqSn_ok {a b : Sy} (h : eqSn a b = true) : a = b := by
  unfold eqSn at h
  split at h
  · split at h
    · rw [Nat.eq_of_beq_eq_true h]
    · cases h
  · exact eqSy_ok _ _ h
noncomputable def findNt (L : NatL) (a b : Sy) : Option Sy := List.rec (motive := fun _ => Option Sy) none (fun x _ ih => cond (eqSn x.1 a && eqSn x.2.1 b) (some x.2.2) ih) L
theorem findNt_ok {a b c : Sy} : ∀ {L : NatL}, findNt L a b = some c → (a, b, c) ∈ L
  | [], h => by cases h
  | x :: L, h => by
    obtain ⟨p, q, g⟩ := x
    have h' : cond (eqSn p a && eqSn q b) (some g) (findNt L a b) = some c := h
    cases hb : (eqSn p a && eqSn q b) with
    | false => rw [hb] at h'; exact List.mem_cons_of_mem _ (findNt_ok h')
    | true =>
      rw [hb] at h'
      cases h'
      simp only [Bool.and_eq_true] at hb
      rw [eqSn_ok hb.1, eqSn_ok hb.2]
      exact List.mem_cons_self
noncomputable def natT (L : NatL) (args : List Value) : Option (M Sy Value) := match args with
  | [a, b] => some (bind (fact a) fun f => bind (fact b) fun g => match findNt L f g with
    | some h => newFact h
    | none => fail)
  | _ => none
def NatLOK (ρ : Env) (F : FuncId) (L : NatL) : Prop := ∀ f g k, (f, g, k) ∈ L → ∀ (w : World) (v u : Value), f.holds ρ w v → g.holds ρ w u → Tryz.prog.globals.size ≤ w.heap.size → natSig.base w → Calls Tryz.prog F ⟨[v, u]⟩ w fun e w' => ∃ x, e = .returned x ∧ k.holds ρ w' x ∧ Below w.heap.size w w'
theorem natT_ok {ρ : Env} {F : FuncId} {L : NatL} (hL : NatLOK ρ F L) : SumF (symSig ρ) Tryz.prog F (natT L) := by
  intro args m e
  rcases args with _ | ⟨a, _ | ⟨b, _ | ⟨c, l⟩⟩⟩ <;> first | (cases (show none = some m from e); done) | skip
  cases e
  refine ⟨loc_bind (loc_fact _) fun f => loc_bind (loc_fact _) fun g => ?_, fun h nx v h' nx' R W e r w args' ha hM hN => ?_⟩
  · split
    · exact loc_newFact _
    · exact loc_fail
  · cases ha with
    | cons h1 ha => cases ha with
      | cons h2 ha =>
        cases ha
        obtain ⟨f, g1, nx1, R1, W1, R2, W2, e1, e2, rfl, rfl⟩ := bind_ok e
        obtain ⟨rfl, rfl, rfl, hf⟩ := fact_ok e1 h1 hM
        obtain ⟨g, g3, nx3, R3, W3, R4, W4, e3, e4, rfl, rfl⟩ := bind_ok e2
        obtain ⟨rfl, rfl, rfl, hg⟩ := fact_ok e3 h2 hM
        cases hc : findNt L f g with
        | none => rw [hc] at e4; cases (show (fail : M Sy Value) _ _ = _ from e4)
        | some k =>
          rw [hc] at e4
          have := goes_fact e4 hM hN ((hL f g k (findNt_ok hc) w _ _ hf hg hM.fits hM.base).mono fun en w' hh => by
            obtain ⟨u, q1, q2, q3⟩ := hh
            exact ⟨u, q1, q2, Sy.one q2, q3⟩)
          simp only [List.nil_append]
          exact this
theorem sz_dvd {k n m : Nat} (h : Sz k n) (hn : 0 < n) (hd : m ∣ n) : Sz k m := h.le (Nat.le_of_dvd hn hd)
def lcN (a b : Nat) : Nat := a * (b / Nat.gcd a b)
def lcQ (x y : Rat) : Nat → Rat
  | 1 => x
  | 2 => y
  | 103 => wq (Nat.gcd (Big.de x) (Big.de y))
  | 104 => wq (Big.de y / Nat.gcd (Big.de x) (Big.de y))
  | 105 => wq (lcN (Big.de x) (Big.de y))
  | _ => 0
theorem wq_sm {k n : Nat} (h : Sz k n) (hk : 1 ≤ k) : Sm k (wq n) := by
  obtain ⟨_, p2, p3⟩ := wq_parts n
  exact ⟨by rw [p2]; exact h, by rw [p3]; exact sz_one.up hk⟩
theorem lcN_sz {x y : Rat} (hx : Fit x) (hy : Fit y) : Sz 128 (lcN (Big.de x) (Big.de y)) := by
  have h := hx.sm.de.mul (hy.sm.de.le (Nat.div_le_self (Big.de y) (Nat.gcd (Big.de x) (Big.de y))))
  exact h
theorem lcQ_fit {x y : Rat} (hx : Fit x) (hy : Fit y) {i : Nat} (h : i < 100) : Fit (lcQ x y i) := by
  unfold lcQ
  split <;> first | omega | exact hx | exact hy | exact fit00
theorem lcQ_big {x y : Rat} (hx : Fit x) (hy : Fit y) (i : Nat) : Sm 4096 (lcQ x y i) := by
  unfold lcQ
  split
  · exact hx.sm.up (by decide)
  · exact hy.sm.up (by decide)
  · exact wq_sm ((sz_dvd hx.sm.de (Big.de_pos x) (Nat.gcd_dvd_left _ _)).up (by decide)) (by decide)
  · exact wq_sm ((hy.sm.de.le (Nat.div_le_self _ _)).up (by decide)) (by decide)
  · exact wq_sm ((lcN_sz hx hy).up (by decide)) (by decide)
  · exact fit00.sm.up (by decide)
def lcEnv (x y : Rat) (hx : Fit x) (hy : Fit y) (lo : Nat) : Env := ⟨lcQ x y, fun _ => (false, ⟨#[]⟩, ⟨#[]⟩), fun _ h => lcQ_fit hx hy h, fun i => lcQ_big hx hy i, fun _ => bad_zero, lo, fun _ => [], fun _ => 0, rfl⟩
noncomputable def lcF : Nat := 47
noncomputable def lcSums : Sums Sy := sumsOf (mkTab [(58, natT [(.de (.v 1), .de (.v 2), .nu (.v 103))]), (65, natT [(.de (.v 2), .nu (.v 103), .nu (.v 104))]), (67, natT [(.de (.v 1), .nu (.v 104), .nu (.v 105))])])
set_option maxHeartbeats 4000000 in
theorem lc_run : tells [.de (.v 1), .de (.v 2)] [.one, .one] (call Tryz.prog (lsCfg false [] [] noJ) lcSums 20 lcF) = some (.one (.one (.f (.nu (.v 105))))) := by kernel_rfl
theorem lcm_any (w : World) {x y : Rat} (hx : Fit x) (hy : Fit y) {v u : Value} (hv : NatIn w v (Big.de x)) (hu : NatIn w u (Big.de y)) (hG : Tryz.prog.globals.size ≤ w.heap.size) (hT : natSig.base w) :
    Calls Tryz.prog lcF ⟨[v, u]⟩ w fun e w' => ∃ z, e = .returned z ∧ NatIn w' z (lcN (Big.de x) (Big.de y)) ∧ Below w.heap.size w w' := by
  have hA : AllH (lcEnv x y hx hy w.heap.size) [] := fun x hx => by simp at hx
  have hB : AllX (lcEnv x y hx hy w.heap.size) [] := fun x hx => by simp at hx
  have sx := hx.sm.de
  have sy := hy.sm.de
  have g0 := Big.de_pos x
  have sg : Sz 64 (Nat.gcd (Big.de x) (Big.de y)) := sz_dvd sx g0 (Nat.gcd_dvd_left _ _)
  have p1 := (wq_parts (Nat.gcd (Big.de x) (Big.de y))).2.1
  have p2 := (wq_parts (Big.de y / Nat.gcd (Big.de x) (Big.de y))).2.1
  have p3 := (wq_parts (lcN (Big.de x) (Big.de y))).2.1
  have hS : SumOK (symSig (lcEnv x y hx hy w.heap.size)) Tryz.prog lcSums := sumsOf_ok fun z hz => by
    simp only [List.mem_cons, List.not_mem_nil, or_false] at hz
    rcases hz with rfl | rfl | rfl
    · refine natT_ok fun f g k hm w v u hv hu hG hT => ?_
      simp only [List.mem_cons, List.not_mem_nil, or_false, Prod.mk.injEq] at hm
      obtain ⟨rfl, rfl, rfl⟩ := hm
      have hv' : NatIn w v (Big.de x) := hv
      have hu' : NatIn w u (Big.de y) := hu
      refine (gcd_num w v u _ _ 64 64 hv' hu' sx sy (by decide) (by decide)).mono ?_
      rintro e w' ⟨z, q1, q2, q3⟩
      refine ⟨z, q1, ?_, q3⟩
      show NatIn w' z (Big.nu (wq _))
      rw [p1]; exact q2
    · refine natT_ok fun f g k hm w v u hv hu hG hT => ?_
      simp only [List.mem_cons, List.not_mem_nil, or_false, Prod.mk.injEq] at hm
      obtain ⟨rfl, rfl, rfl⟩ := hm
      have hv' : NatIn w v (Big.de y) := hv
      have hu' : NatIn w u (Big.nu (wq (Nat.gcd (Big.de x) (Big.de y)))) := hu
      rw [p1] at hu'
      refine (quo_num w v u _ _ 64 hv' hu' sy (by decide)).mono ?_
      rintro e w' ⟨z, q1, q2, q3⟩
      refine ⟨z, q1, ?_, q3⟩
      show NatIn w' z (Big.nu (wq _))
      rw [p2]; exact q2
    · refine natT_ok fun f g k hm w v u hv hu hG hT => ?_
      simp only [List.mem_cons, List.not_mem_nil, or_false, Prod.mk.injEq] at hm
      obtain ⟨rfl, rfl, rfl⟩ := hm
      have hv' : NatIn w v (Big.de x) := hv
      have hu' : NatIn w u (Big.nu (wq (Big.de y / Nat.gcd (Big.de x) (Big.de y)))) := hu
      rw [p2] at hu'
      refine (mul_num w v u _ _ 64 64 hv' hu' sx (sy.le (Nat.div_le_self _ _)) (by decide) (by decide)).mono ?_
      rintro e w' ⟨z, q1, q2, q3⟩
      refine ⟨z, q1, ?_, q3⟩
      show NatIn w' z (Big.nu (wq _))
      rw [p3]; exact q2
  have hh : HoldsL (symSig (lcEnv x y hx hy w.heap.size)) w [.de (.v 1), .de (.v 2)] [v, u] := ⟨v, _, rfl, hv, nat_one hv, u, _, rfl, hu, nat_one hu, rfl⟩
  refine (tells_calls (lsFits hA hB) hS lc_run rfl glob_few hh hG hT (Nat.le_refl _) (.none rfl)).mono ?_
  rintro e w' ⟨v', rfl, h1, hb⟩
  refine ⟨v', rfl, ?_, hb⟩
  have h1' : NatIn w' v' (Big.nu (wq (lcN (Big.de x) (Big.de y)))) := h1
  rwa [p3] at h1'
theorem lcN_one : lcN 1 1 = 1 := by decide
def elRow (c : Nat) : Nat → List Ix
  | 0 => []
  | k + 1 => .el c 0 k (.v (10 + k)) :: elRow c k
theorem elRow_ok {ρ : Env} {c : Nat} {p : List Rat} (hc : ρ.lst c = p) (hq : ∀ i, i < p.length → ρ.q (10 + i) = p.getD i 0) : ∀ {n : Nat}, n ≤ p.length → AllX ρ (elRow c n)
  | 0, _ => fun x hx => by simp [elRow] at hx
  | n + 1, h => fun x hx => by
    rcases List.mem_cons.1 hx with rfl | hx
    · refine ⟨n, ?_, ?_⟩
      · unfold atIx; rw [ρ.nat0]; simp
      · rw [hc]
        show p[n]? = some (ρ.q (10 + n))
        rw [hq n (by omega), List.getD_eq_getElem?_getD, List.getElem?_eq_getElem (by omega)]; rfl
    · exact elRow_ok hc hq (by omega) x hx
theorem atQ_el (p : List Rat) (x : Rat) (i : Nat) : atQ p x (10 + i) = p.getD i 0 := by
  unfold atQ
  rw [if_neg (by omega), Nat.add_sub_cancel_left]
noncomputable def dnF : Nat := 17
def dnL : Nat → NatL
  | 0 => []
  | k + 1 => (.n 1, .de (.v (10 + k)), .n 1) :: dnL k
noncomputable def dnSums : Sums Sy := sumsOf (mkTab [natOfL, (lcF, natT (dnL 9))])
noncomputable def dnRun (n : Nat) : Option (D3 Sy) := tells [.ls 1 0] [.one] (call Tryz.prog (lsCfg false [] (.lc 0 n :: elRow 0 n) noJ) dnSums 20 dnF)
noncomputable def isN1 (d : Option (D3 Sy)) : Bool := match d with
  | some (.one (.one (.f a))) => eqSn a (.n 1)
  | _ => false
theorem isN1_ok {d : Option (D3 Sy)} (h : isN1 d = true) : d = some (.one (.one (.f (.n 1)))) := by
  unfold isN1 at h
  split at h
  · rw [eqSn_ok h]
  · cases h
set_option maxHeartbeats 4000000 in
theorem dn_runs : (List.range 10).all (fun n => isN1 (dnRun n)) = true := by kernel_rfl
theorem dnL_mem {f g k : Sy} : ∀ {n : Nat}, (f, g, k) ∈ dnL n → f = .n 1 ∧ k = .n 1 ∧ ∃ i, g = .de (.v (10 + i))
  | 0, h => by simp [dnL] at h
  | n + 1, h => by
    rcases List.mem_cons.1 h with h | h
    · cases h; exact ⟨rfl, rfl, n, rfl⟩
    · exact dnL_mem h
theorem lc_fit1 : Fit (1 : Rat) := by
  have := wq_fit (i := 1) (by decide)
  rw [wq_is] at this
  exact this
theorem denE_any (w : World) {p : List Rat} (hp : ∀ y ∈ p, Fit y) (hd : ∀ y ∈ p, Big.de y = 1) (hl : p.length ≤ 9) {u : Value} (hu : LsIn 1 w u p) (hG : Tryz.prog.globals.size ≤ w.heap.size) (hT : natSig.base w) :
    Calls Tryz.prog dnF ⟨[u]⟩ w fun e w' => ∃ y, e = .returned y ∧ NatIn w' y 1 ∧ Below w.heap.size w w' := by
  let E := atEnv p 0 hp fit00 w.heap.size
  have hr := isN1_ok (List.all_eq_true.1 dn_runs p.length (List.mem_range.2 (by omega)))
  have hA : AllH E [] := fun x hx => by simp at hx
  have hB : AllX E (.lc 0 p.length :: elRow 0 p.length) := fun x hx => by
    rcases List.mem_cons.1 hx with rfl | hx
    · rfl
    · exact elRow_ok (ρ := E) (c := 0) (p := p) rfl (fun i _ => atQ_el p 0 i) (Nat.le_refl _) x hx
  have de0 : Big.de (0 : Rat) = 1 := rfl
  have hde : ∀ i, Big.de (E.q (10 + i)) = 1 := fun i => by
    show Big.de (atQ p 0 (10 + i)) = 1
    rw [atQ_el, List.getD_eq_getElem?_getD]
    cases hi : p[i]? with
    | none => exact de0
    | some x => exact hd x (List.mem_of_getElem? hi)
  have de1 : Big.de (1 : Rat) = 1 := rfl
  have hS : SumOK (symSig E) Tryz.prog dnSums := sumsOf_ok fun z hz => by
    simp only [List.mem_cons, List.not_mem_nil, or_false] at hz
    rcases hz with rfl | rfl
    · exact natOfL_ok
    · refine natT_ok fun f g k hm w v u hv hu hG hT => ?_
      obtain ⟨rfl, rfl, i, rfl⟩ := dnL_mem hm
      have hv' : NatIn w v (Big.de (1 : Rat)) := hv
      have hu' : NatIn w u (Big.de (E.q (10 + i))) := hu
      refine (lcm_any w (x := 1) (y := E.q (10 + i)) lc_fit1 (atQ_fit hp fit00 _) hv' hu' hG hT).mono ?_
      rintro e w' ⟨z, q1, q2, q3⟩
      refine ⟨z, q1, ?_, q3⟩
      rw [hde i, de1, lcN_one] at q2
      exact q2
  refine (tells_calls (lsFits hA hB) hS hr rfl glob_few (us := [u]) ⟨_, _, rfl, LsIn.ls hu rfl, by obtain ⟨a, m, rfl, _⟩ := hu; rfl, rfl⟩ hG hT (Nat.le_refl _) (.none rfl)).mono ?_
  rintro e w' ⟨v', rfl, h1, hb⟩
  exact ⟨v', rfl, h1, hb⟩
noncomputable def snE (e : Nat → Qe) (n : Nat) : Le := Nat.rec (motive := fun _ => Le) .nil (fun k ih => .snoc ih (e k)) n
theorem snE_ev (ρ : Env) (e : Nat → Qe) : ∀ n, (snE e n).ev ρ = (List.range n).map fun k => (e k).ev ρ.q
  | 0 => rfl
  | n + 1 => by
    rw [List.range_succ, List.map_append]
    show (snE e n).ev ρ ++ [(e n).ev ρ.q] = _
    rw [snE_ev ρ e n]; rfl
noncomputable def trA (e : Nat → Qe) (m : Nat) (s : Bool) (n : Nat) : List As := Nat.rec (motive := fun _ => List As) [] (fun k ih => cond (Nat.blt k m) (cond (Nat.beq (k + 1) m) (⟨1, e k, z0, false⟩ :: ⟨3, e k, z0, s⟩ :: ih) ih) (⟨1, e k, z0, true⟩ :: ih)) n
theorem trA_ok {ρ : Env} {e : Nat → Qe} {l : List Rat} {m : Nat} (hm : TrimAt l m) (he : ∀ i, i < l.length → (e i).ev ρ.q = l.getD i 0) : ∀ n, n ≤ l.length → AllH ρ (trA e m (Big.ng (l.getD (m - 1) 0)) n)
  | 0, _ => fun x hx => by
    have hx' : x ∈ ([] : List As) := hx
    simp at hx'
  | n + 1, hn => fun x hx => by
    have ih := trA_ok hm he n (by omega)
    have hx' : x ∈ cond (Nat.blt n m) (cond (Nat.beq (n + 1) m) (⟨1, e n, z0, false⟩ :: ⟨3, e n, z0, Big.ng (l.getD (m - 1) 0)⟩ :: trA e m (Big.ng (l.getD (m - 1) 0)) n) (trA e m (Big.ng (l.getD (m - 1) 0)) n)) (⟨1, e n, z0, true⟩ :: trA e m (Big.ng (l.getD (m - 1) 0)) n) := hx
    cases hb : Nat.blt n m with
    | true =>
      rw [hb] at hx'
      simp only [cond_true] at hx'
      cases hc : Nat.beq (n + 1) m with
      | true =>
        rw [hc] at hx'
        simp only [cond_true, List.mem_cons] at hx'
        have hnm := Nat.eq_of_beq_eq_true hc
        rcases hx' with rfl | rfl | hx'
        · show false = true ↔ (e n).ev ρ.q = 0
          rw [he n (by omega)]
          have := hm.last (by omega)
          rw [show m - 1 = n by omega] at this
          exact ⟨fun h => (by cases h), fun h => absurd h this⟩
        · show Big.ng (l.getD (m - 1) 0) = Big.ng ((e n).ev ρ.q)
          rw [he n (by omega), show m - 1 = n by omega]
        · exact ih x hx'
      | false => rw [hc] at hx'; exact ih x hx'
    | false =>
      rw [hb] at hx'
      simp only [cond_false, List.mem_cons] at hx'
      have hnm : ¬ n < m := fun h => by
        have : Nat.blt n m = true := Nat.ble_eq_true_of_le h
        rw [hb] at this; cases this
      rcases hx' with rfl | hx'
      · show true = true ↔ (e n).ev ρ.q = 0
        rw [he n (by omega), List.getD_eq_getElem?_getD, hm.zero n (by omega) (by omega)]
        exact ⟨fun _ => rfl, fun _ => rfl⟩
      · exact ih x hx'
noncomputable def isOl (K : Nat) (l : Le) (d : Option (D3 Sy)) : Bool := match d with
  | some (.one (.one (.ow a))) => eqSy a (.ol K l none)
  | _ => false
theorem isOl_ok {K : Nat} {l : Le} {d : Option (D3 Sy)} (h : isOl K l d = true) : d = some (.one (.one (.ow (.ol K l none)))) := by
  unfold isOl at h
  split at h
  · rw [eqSy_ok _ _ h]
  · cases h
noncomputable def isOT (K : Nat) (l : Le) (n : Nat) (d : Option (D3 Sy)) : Bool := match d with
  | some (.tuple [.one (.ow a), .one (.p (.bool b))]) => b && eqSy a (.ol K l (some (0, (n : Int))))
  | _ => false
theorem isOT_ok {K n : Nat} {l : Le} {d : Option (D3 Sy)} (h : isOT K l n d = true) : d = some (.tuple [.one (.ow (.ol K l (some (0, (n : Int))))), .one (.p (.bool true))]) := by
  unfold isOT at h
  split at h
  · rename_i b
    simp only [Bool.and_eq_true] at h
    obtain ⟨rfl, h2⟩ := h
    rw [eqSy_ok _ _ h2]
  · cases h
theorem all_two {P : Nat → Nat → Bool → Bool} {N : Nat} (h : (List.range N).all (fun n => (List.range (n + 1)).all fun m => P n m true && P n m false) = true) {n m : Nat} (hn : n < N) (hm : m ≤ n) (s : Bool) : P n m s = true := by
  have h1 := List.all_eq_true.1 (List.all_eq_true.1 h n (List.mem_range.2 hn)) m (List.mem_range.2 (by omega))
  simp only [Bool.and_eq_true] at h1
  cases s
  · exact h1.2
  · exact h1.1
noncomputable def scF : Nat := 19
noncomputable def scE (k : Nat) : Qe := .mul (.v (10 + k)) (.v 9)
noncomputable def scRun (n m : Nat) (s : Bool) : Option (D3 Sy) := tells [.ls 1 0, .ng (.v 9), .nu (.v 9), .de (.v 9)] [.one, .agg 3] (call Tryz.prog (lsCfg false (trA scE m s n) (.lc 0 n :: elRow 0 n) noJ) (lsSumsW (trA scE m s n)) 60 scF)
noncomputable def scOK (n m : Nat) (s : Bool) : Bool := isOl 1 (.take (snE scE n) 0 (m : Int)) (scRun n m s)
set_option maxHeartbeats 4000000 in
theorem sc_runs : (List.range 10).all (fun n => (List.range (n + 1)).all fun m => scOK n m true && scOK n m false) = true := by kernel_rfl
noncomputable def ovF : Nat := 21
noncomputable def ovE (k : Nat) : Qe := .quo (.v (10 + k)) (.v 9)
noncomputable def ovA (n : Nat) : List As := ⟨1, .v 9, z0, false⟩ :: Nat.rec (motive := fun _ => List As) [] (fun k ih => ⟨0, ovE k, z0, true⟩ :: ih) n
noncomputable def ovRun (n : Nat) : Option (D3 Sy) := tells [.ls 1 0, .ng (.v 9), .nu (.v 9), .de (.v 9)] [.one, .agg 3] (call Tryz.prog (lsCfg false (ovA n) (.lc 0 n :: elRow 0 n) noJ) (lsSumsW (ovA n)) 60 ovF)
set_option maxHeartbeats 4000000 in
theorem ov_runs : (List.range 10).all (fun n => isOT 0 (snE ovE n) n (ovRun n)) = true := by kernel_rfl
def sc (p : List Rat) (x : Rat) : List Rat := p.map (· * x)
def ov (p : List Rat) (x : Rat) : List Rat := p.map (· / x)
theorem range_getD (p : List Rat) (f : Rat → Rat) : (List.range p.length).map (fun k => f (p.getD k 0)) = p.map f := by
  apply List.ext_getElem?
  intro i
  rw [List.getElem?_map, List.getElem?_map]
  rcases Nat.lt_or_ge i p.length with h | h
  · rw [List.getElem?_range h, List.getElem?_eq_getElem h]
    simp [List.getD_eq_getElem?_getD, List.getElem?_eq_getElem h]
  · rw [List.getElem?_eq_none (by simpa using h), List.getElem?_eq_none h]; rfl
theorem map_getD (p : List Rat) (f : Rat → Rat) {i : Nat} (h : i < p.length) : (p.map f).getD i 0 = f (p.getD i 0) := by
  rw [List.getD_eq_getElem?_getD, List.getD_eq_getElem?_getD, List.getElem?_map, List.getElem?_eq_getElem h]; rfl
section
variable {p : List Rat} {x : Rat} (hp : ∀ y ∈ p, Fit y) (hx : Fit x) (lo : Nat)
theorem sc_holds {w : World} {u v : Value} (hu : LsIn 1 w u p) (hv : NumIn w v x) (hlo : w.heap.size = lo) : ∃ a b c, v = .agg ⟨[a, b, c]⟩ ∧ HoldsL (symSig (atEnv p x hp hx lo)) w [.ls 1 0, .ng (.v 9), .nu (.v 9), .de (.v 9)] [u, a, b, c] := by
  obtain ⟨us, rfl, hus⟩ := num_holds (e := .v 9) (ρ := atEnv p x hp hx lo) hv
  obtain ⟨a, l1, rfl, g1, o1, b, l2, rfl, g2, o2, c, l3, rfl, g3, o3, rfl⟩ := hus
  exact ⟨a, b, c, rfl, u, _, rfl, LsIn.ls hu hlo.symm, by obtain ⟨a, m, rfl, _⟩ := hu; rfl, _, _, rfl, g1, o1, _, _, rfl, g2, o2, _, _, rfl, g3, o3, rfl⟩
theorem row_B : AllX (atEnv p x hp hx lo) (.lc 0 p.length :: elRow 0 p.length) := fun y hy => by
  rcases List.mem_cons.1 hy with rfl | hy
  · rfl
  · exact elRow_ok (ρ := atEnv p x hp hx lo) (c := 0) (p := p) rfl (fun i _ => atQ_el p x i) (Nat.le_refl _) y hy
end
theorem scaleE_any (w : World) {p : List Rat} {x : Rat} (hp : ∀ y ∈ p, Fit y) (hx : Fit x) (hl : p.length ≤ 9) {m : Nat} (hm : TrimAt (sc p x) m) {u v : Value} (hu : LsIn 1 w u p) (hv : NumIn w v x) (hG : Tryz.prog.globals.size ≤ w.heap.size) (hT : natSig.base w) :
    Calls Tryz.prog scF ⟨[u, v]⟩ w fun e w' => ∃ y, e = .returned y ∧ NewOl 1 w w' y ((sc p x).take m) ∧ Below w.heap.size w w' := by
  have hle := hm.le
  have hsl : (sc p x).length = p.length := by simp [sc]
  have hr := isOl_ok (all_two (P := scOK) sc_runs (n := p.length) (m := m) (by omega) (by omega) (Big.ng ((sc p x).getD (m - 1) 0)))
  have hA := trA_ok (ρ := atEnv p x hp hx w.heap.size) (e := scE) hm (fun i hi => by
    rw [hsl] at hi
    show atQ p x (10 + i) * atQ p x 9 = _
    rw [atQ_el]
    unfold sc
    rw [map_getD _ _ hi]; rfl) p.length (by omega)
  have hB := row_B hp hx w.heap.size
  obtain ⟨a0, b0, c0, rfl, hh⟩ := sc_holds hp hx w.heap.size hu hv rfl
  refine (tells_calls (lsFits hA hB) (lsSumsW_ok hA) hr rfl glob_few hh hG hT (Nat.le_refl _) (.none rfl)).mono ?_
  rintro e w' ⟨v', rfl, h1, hb⟩
  refine ⟨v', rfl, newOl_of (ρ := atEnv p x hp hx w.heap.size) rfl h1 ?_ (fun p hp => by cases hp), hb⟩
  show ((snE scE p.length).ev _).take (((0 : Nat) : Int) + (m : Int)).toNat = _
  rw [snE_ev, show (((0 : Nat) : Int) + (m : Int)).toNat = m by omega]
  congr 1
  unfold sc
  rw [← range_getD p (· * x)]
  refine List.map_congr_left fun k _ => ?_
  show atQ p x (10 + k) * atQ p x 9 = _
  rw [atQ_el]; rfl
theorem overE_any (w : World) {p : List Rat} {x : Rat} (hp : ∀ y ∈ p, Fit y) (hx : Fit x) (h0 : x ≠ 0) (hf : ∀ y ∈ ov p x, Fit y) (hl : p.length ≤ 9) {u v : Value} (hu : LsIn 1 w u p) (hv : NumIn w v x) (hG : Tryz.prog.globals.size ≤ w.heap.size) (hT : natSig.base w) :
    Calls Tryz.prog ovF ⟨[u, v]⟩ w fun e w' => ∃ y, e = .returned (.tuple ⟨[y, .bool true]⟩) ∧ NewOl 0 w w' y (ov p x) ∧ Below w.heap.size w w' := by
  have hr := isOT_ok (List.all_eq_true.1 ov_runs p.length (List.mem_range.2 (by omega)))
  have hev : ∀ k, (ovE k).ev (atQ p x) = p.getD k 0 / x := fun k => by
    show atQ p x (10 + k) / atQ p x 9 = _
    rw [atQ_el]; rfl
  have hrow : ∀ n, n ≤ p.length → ∀ y ∈ (Nat.rec (motive := fun _ => List As) [] (fun k ih => ⟨0, ovE k, z0, true⟩ :: ih) n : List As), y.holds (atQ p x) := by
    intro n
    induction n with
    | zero =>
      intro _ y hy
      have hy' : y ∈ ([] : List As) := hy
      simp at hy'
    | succ n ih =>
      intro hn y hy
      rcases List.mem_cons.1 hy with rfl | hy
      · show true = true ↔ Fit ((ovE n).ev (atQ p x))
        rw [hev]
        refine ⟨fun _ => hf _ ?_, fun _ => rfl⟩
        unfold ov
        rw [List.mem_map]
        exact ⟨p.getD n 0, by rw [List.getD_eq_getElem?_getD, List.getElem?_eq_getElem (by omega)]; exact List.getElem_mem _, rfl⟩
      · exact ih (by omega) y hy
  have hA : AllH (atEnv p x hp hx w.heap.size) (ovA p.length) := fun y hy => by
    rcases List.mem_cons.1 hy with rfl | hy
    · show false = true ↔ x = 0
      exact ⟨fun h => (by cases h), fun h => absurd h h0⟩
    · exact hrow _ (Nat.le_refl _) y hy
  have hB := row_B hp hx w.heap.size
  obtain ⟨a0, b0, c0, rfl, hh⟩ := sc_holds hp hx w.heap.size hu hv rfl
  refine (tells_calls (lsFits hA hB) (lsSumsW_ok hA) hr rfl glob_few hh hG hT (Nat.le_refl _) (.none rfl)).mono ?_
  rintro e w' ⟨v', rfl, ⟨vs, rfl, a, l1, rfl, h1, u2, l2, rfl, h2, rfl⟩, hb⟩
  have h2' : u2 = .bool true := h2
  subst h2'
  have hlist : (snE ovE p.length).ev (atEnv p x hp hx w.heap.size) = ov p x := by
    rw [snE_ev]
    unfold ov
    rw [← range_getD p (· / x)]
    exact List.map_congr_left fun k _ => hev k
  refine ⟨a, rfl, newOl_of (ρ := atEnv p x hp hx w.heap.size) rfl h1 hlist (fun q hq => ?_), hb⟩
  cases hq
  show (((ov p x).length : Nat) : Int) = ((0 : Nat) : Int) + (p.length : Int)
  unfold ov
  rw [List.length_map]; omega
section
variable {ρ : Env}
theorem rpU {L : Tri3} (h : ∀ c e, (c, 0, e) ∈ L → ρ.lst e = ρ.lst c ∧ PolyOK (ρ.lst c) ∧ (ρ.lst c).length ≤ 33) : UnOK ρ rpF 0 L (QT ρ 1 (.bool true)) := fun c e hm w v hv hG hT => by
  obtain ⟨h1, h2, h3⟩ := h c e hm
  refine (readPoly_any w h2 h3 hv hG hT).mono ?_
  rintro en w' ⟨u, q1, q2, q3, q4⟩
  refine ⟨⟨u, q1, ?_⟩, q4⟩
  rw [h1]
  exact ⟨q2, q3⟩
end
noncomputable def rpG (B : List Ix) (L : Tri3) : Nat × (List Value → Option (M Sy Value)) := (rpF, unA B 0 L (giveT 1 (.bool true)))
theorem rpG_ok {ρ : Env} {B : List Ix} {L : Tri3} (hB : AllX ρ B) (h : ∀ c e, (c, 0, e) ∈ L → ρ.lst e = ρ.lst c ∧ PolyOK (ρ.lst c) ∧ (ρ.lst c).length ≤ 33) : SumF (symSig ρ) Tryz.prog (rpG B L).1 (rpG B L).2 :=
  unA_ok hB (loc_giveT _ _) (rpU h) fun _ _ _ _ _ _ _ _ _ _ _ e hM hN c => giveT_ok rfl e hM hN c
def l3Nat (a b : Nat) : Nat → Nat
  | 1 => a
  | 2 => b
  | 5 => a + b
  | _ => 0
def l3Lst (p q r : List Rat) : Nat → List Rat
  | 0 => p
  | 3 => q
  | 5 => r
  | _ => []
def l3Q (x y : Rat) : Nat → Rat
  | 6 => y
  | 9 => x
  | _ => 0
theorem l3Q_fit {x y : Rat} (hx : Fit x) (hy : Fit y) (i : Nat) : Fit (l3Q x y i) := by
  unfold l3Q
  split
  · exact hy
  · exact hx
  · exact fit00
def l3Env (p q r : List Rat) (x y : Rat) (hx : Fit x) (hy : Fit y) (lo : Nat) : Env := ⟨l3Q x y, fun _ => (false, ⟨#[]⟩, ⟨#[]⟩), fun i _ => l3Q_fit hx hy i, fun i => (l3Q_fit hx hy i).sm.up (by decide), fun _ => bad_zero, lo, l3Lst p q r, l3Nat p.length q.length, rfl⟩
noncomputable def pAF : Nat := 7
noncomputable def atS : Nat × (List Value → Option (M Sy Value)) := (atF, fun args => match args with
  | [a, c] => some (bind (lsArg [] a) fun y => bind (numV c) fun x => match vOf 1 y with
    | some d => cond (Nat.beq d 0 && x.beq (.v 9)) (newNum (.v 6)) fail
    | none => fail)
  | _ => none)
noncomputable def pASums : Sums Sy := sumsOf (mkTab (rpG [] [(0, 0, 0)] :: atS :: symList []))
set_option maxHeartbeats 4000000 in
theorem pA_run : tells [.ls 0 0, .ng (.v 9), .fn (.v 9), .fd (.v 9)] [.one, .agg 3] (call Tryz.prog (lsCfg true [] [] noJ) pASums 20 pAF) = some (.tuple [.agg [.f (.ng (.v 6)), .f (.fn (.v 6)), .f (.fd (.v 6))], .one (.p (.int .i64 0))]) := by kernel_rfl
theorem two_mem {c d e a b g : Nat} (h : (c, d, e) ∈ [((a, b, g) : Nat × Nat × Nat)]) : c = a ∧ d = b ∧ e = g := by
  simpa using h
theorem atS_ok {ρ : Env} (hp : ∀ y ∈ ρ.lst 0, Fit y) (hl : (ρ.lst 0).length ≤ 20) (hx : Fit (ρ.q 9)) (h6 : ρ.q 6 = evL (ρ.q 9) (ρ.lst 0)) : SumF (symSig ρ) Tryz.prog atS.1 atS.2 := by
  intro args m hm
  rcases args with _ | ⟨a, _ | ⟨b, _ | ⟨z, l⟩⟩⟩ <;> first | (cases (show none = some m from hm); done) | skip
  cases hm
  refine ⟨loc_bind (loc_lsArg _ _) fun y => loc_bind (loc_numV _) fun x => ?_, fun h nx v h' nx' R W e r w args' hv hM hN => ?_⟩
  · split
    · exact loc_cond (loc_newNum _) loc_fail
    · exact loc_fail
  cases hv with
  | cons h1 hv => cases hv with
    | cons h2 h3 =>
      cases h3
      obtain ⟨y, g1, nx1, R1, W1, R2, W2, e1, e2, rfl, rfl⟩ := bind_ok e
      obtain ⟨rfl, rfl, rfl, hls⟩ := lsArg_ok (ρ := ρ) (fun x hx => by simp at hx) e1 h1 hM
      obtain ⟨x, g3, nx3, R3, W3, R4, W4, e3, e4, rfl, rfl⟩ := bind_ok e2
      obtain ⟨rfl, rfl, rfl, hxv⟩ := numV_ok e3 h2 hM
      cases hy : vOf 1 y with
      | none => rw [hy] at e4; cases (show (fail : M Sy Value) _ _ = _ from e4)
      | some d =>
        rw [hy] at e4
        obtain ⟨hk, e5⟩ := cond_ok e4
        simp only [Bool.and_eq_true] at hk
        obtain rfl := vOf_ok hy
        obtain rfl := Nat.eq_of_beq_eq_true hk.1
        rw [Qe.beq_ok _ _ hk.2] at hxv
        have := goes_agg (f := atF) e5 hM hN ((atE_any w hp hx hl hls (show NumIn w _ (ρ.q 9) from hxv) hM.fits hM.base).mono fun en w' hh => by
          obtain ⟨u, rfl, hu, hb⟩ := hh
          rw [← h6] at hu
          obtain ⟨us, rfl, hus⟩ := num_holds (e := .v 6) (ρ := ρ) hu
          exact ⟨us, rfl, hus, hb⟩)
        simp only [List.nil_append]
        exact this
theorem pAt_any (w : World) {p : List Rat} {x : Rat} (hp : PolyOK p) (hl : p.length ≤ 20) (hx : Fit x) (hy : Fit (evL x p)) {u : Value} (hu : LsIn 0 w u p) (hG : Tryz.prog.globals.size ≤ w.heap.size) (hT : natSig.base w) :
    Calls Tryz.prog pAF ⟨[u, .agg ⟨[.bool (Big.ng x), .string (bst (Big.nu x)), .string (bst (Big.de x))]⟩]⟩ w fun e w' => e = .returned (.tuple ⟨[.agg ⟨[.bool (Big.ng (evL x p)), .string (bst (Big.nu (evL x p))), .string (bst (Big.de (evL x p)))]⟩, .int .i64 0]⟩) ∧ Below w.heap.size w w' := by
  let E := l3Env p [] [] x (evL x p) hx hy w.heap.size
  obtain ⟨a, l1, e1, g1, o1, b, l2, rfl, g2, o2, c, l3, rfl, g3, o3, rfl⟩ := frac_holds (ρ := E) (w := w) (.v 9)
  simp only [List.cons.injEq, and_true] at e1
  obtain ⟨rfl, rfl, rfl⟩ := e1
  have hh : HoldsL (symSig E) w [.ls 0 0, .ng (.v 9), .fn (.v 9), .fd (.v 9)] [u, .bool (Big.ng x), .string (bst (Big.nu x)), .string (bst (Big.de x))] := ⟨u, _, rfl, LsIn.ls hu rfl, by obtain ⟨a, m, rfl, _⟩ := hu; rfl, _, _, rfl, g1, o1, _, _, rfl, g2, o2, _, _, rfl, g3, o3, rfl⟩
  have hA : AllH E [] := fun x hx => by simp at hx
  have hB : AllX E [] := fun x hx => by simp at hx
  have hS : SumOK (symSig E) Tryz.prog pASums := sumsOf_ok fun y hy => by
    rcases List.mem_cons.1 hy with rfl | hy
    · refine rpG_ok hB fun c e hm2 => ?_
      obtain ⟨rfl, _, rfl⟩ := two_mem hm2
      exact ⟨rfl, hp, show p.length ≤ 33 by omega⟩
    rcases List.mem_cons.1 hy with rfl | hy
    · exact atS_ok (ρ := E) hp.fit hl hx rfl
    · exact symList_ok hA y hy
  refine (tells_calls (lsFits hA hB) hS pA_run rfl glob_few hh hG hT (Nat.le_refl _) (.none rfl)).mono ?_
  rintro e w' ⟨v', rfl, ⟨vs, rfl, a, l1, rfl, ⟨us, rfl, a1, m1, rfl, k1, a2, m2, rfl, k2, a3, m3, rfl, k3, rfl⟩, u2, l2, rfl, h2, rfl⟩, hb⟩
  have k1' : a1 = .bool (Big.ng (evL x p)) := k1
  have k2' : a2 = .string (bst (Big.nu (evL x p))) := k2
  have k3' : a3 = .string (bst (Big.de (evL x p))) := k3
  have h2' : u2 = .int .i64 0 := h2
  subst k1' k2' k3' h2'
  exact ⟨rfl, hb⟩
noncomputable def isIc (k : Int) (v : Value) : Bool := match v with
  | .int t z => match t with
    | .i64 => eqI z k
    | _ => false
  | _ => false
theorem isIc_ok {k : Int} {v : Value} (h : isIc k v = true) : v = .int .i64 k := by
  cases v <;> first | (cases h; done) | skip
  rename_i t z
  cases t <;> first | (cases h; done) | skip
  rw [eqI_ok (show eqI z k = true from h)]
noncomputable def giveF (e : Nat) : M Sy Value := bind (newFacts [.ng (.v e), .fn (.v e), .fd (.v e)]) fun vs => ret (.tuple ⟨[.agg ⟨vs⟩, .int .i64 0]⟩)
theorem loc_giveF (e : Nat) : Loc (giveF e) := loc_bind (loc_newFacts _) fun _ => loc_ret _
end Ev
end Go.Proofs.YtaefgofheiegeaaGreat
