/- Contracts. -/
import Derived.Test.YtnlhjcfpfapafaaSSq26
namespace Go.Proofs.Ytnlhjcfpfapafaa
open Go Go.RowKit
namespace Ev
set_option maxRecDepth 100000
noncomputable def litEs (K n : Nat) : List Value → M Sy (List Qe) := Nat.rec (motive := fun _ => List Value → M Sy (List Qe)) (fun _ => ret []) (fun _ ih l => bind (elV K (.agg ⟨l.take 3⟩)) fun e => bind (ih (l.drop 3)) fun es => ret (e :: es)) n
theorem loc_litEs (K : Nat) : ∀ (n : Nat) (l : List Value), Loc (litEs K n l)
 | 0, _ => loc_ret _
 | n + 1, l => loc_bind (loc_elV _ _) fun _ => loc_bind (loc_litEs K n _) fun _ => loc_ret _
noncomputable def litArg (K : Nat) (v : Value) : M Sy (List Qe) := match sliceOf v with
 | some y => cond (isAggK K && (Nat.ble y.2.1 y.2.2 && Nat.blt y.2.2 capX)) (bind (rowsO y.1 y.2.1 3) fun l => litEs K y.2.1 l) fail
 | none => fail
theorem loc_litArg (K : Nat) (v : Value) : Loc (litArg K v) := by
 unfold litArg
 split
 ·exact loc_cond (loc_bind (loc_rowsO _ _ _) fun _ => loc_litEs _ _ _) loc_fail
 ·exact loc_fail
noncomputable def beqL (es fs : List Qe) : Bool := List.rec (motive := fun _ => List Qe → Bool) (fun fs => match fs with
  | [] => true
  | _ => false) (fun e _ ih fs => match fs with
  | f :: fs => e.beq f && ih fs
  | [] => false) es fs
theorem beqL_ok : ∀ {es fs : List Qe}, beqL es fs = true → es = fs
 | [], [], _ => rfl
 | [], _ :: _, h => by cases h
 | _ :: _, [], h => by cases h
 | e :: es, f :: fs, h => by
  have h' := Bool.and_eq_true_iff.1 (show (e.beq f && beqL es fs) = true from h)
  rw [Qe.beq_ok _ _ h'.1, beqL_ok h'.2]
abbrev LitT := List (List Qe × Nat)
abbrev LeT := List (Le × Nat)
noncomputable def findT (T : LitT) (es : List Qe) : Option Nat := List.rec (motive := fun _ => Option Nat) none (fun x _ ih => cond (beqL x.1 es) (some x.2) ih) T
noncomputable def findE (T : LeT) (l : Le) : Option Nat := List.rec (motive := fun _ => Option Nat) none (fun x _ ih => cond (x.1.beq l) (some x.2) ih) T
theorem findT_ok {es : List Qe} {c : Nat} : ∀ {T : LitT}, findT T es = some c → (es, c) ∈ T
 | [], h => by cases h
 | x :: T, h => by
  have h' : cond (beqL x.1 es) (some x.2) (findT T es) = some c := h
  cases hb : beqL x.1 es with
  | true =>
   rw [hb] at h'
   cases h'
   rw [← beqL_ok hb]
   exact List.mem_cons_self
  | false => rw [hb] at h'; exact List.mem_cons_of_mem _ (findT_ok h')
theorem findE_ok {l : Le} {c : Nat} : ∀ {T : LeT}, findE T l = some c → (l, c) ∈ T
 | [], h => by cases h
 | x :: T, h => by
  have h' : cond (x.1.beq l) (some x.2) (findE T l) = some c := h
  cases hb : x.1.beq l with
  | true =>
   rw [hb] at h'
   cases h'
   rw [← Le.beq_ok _ _ hb]
   exact List.mem_cons_self
  | false => rw [hb] at h'; exact List.mem_cons_of_mem _ (findE_ok h')
structure Nms where
 T : LitT
 E : LeT
def NmsOK (ρ : Env) (N : Nms) : Prop := (∀ es c, (es, c) ∈ N.T → ρ.lst c = es.map fun e => e.ev ρ.q) ∧ ∀ l c, (l, c) ∈ N.E → ρ.lst c = l.ev ρ
noncomputable def nameV (B : List Ix) (N : Nms) (K : Nat) (v : Value) : M Sy Nat := match chanOf v with
 | some _ => bind (lsArg B v) fun y => cond (Nat.beq y.1 K) (match vOf K y with
  | some c => ret c
  | none => ofOpt (findE N.E y.2)) fail
 | none => bind (litArg K v) fun es => ofOpt (findT N.T es)
theorem loc_nameV (B : List Ix) (N : Nms) (K : Nat) (v : Value) : Loc (nameV B N K v) := by
 unfold nameV
 split
 ·refine loc_bind (loc_lsArg _ _) fun y => loc_cond ?_ loc_fail
  split
  ·exact loc_ret _
  ·exact loc_opt _
 ·exact loc_bind (loc_litArg _ _) fun _ => loc_opt _
section
variable {ρ : Env} {B : List Ix} {N : Nms} {h h' : Tr (Blk Sy)} {nx nx' : Nat} {R W : List Nat} {r : Ren} {w : World}
theorem vsr_take : ∀ {l l' : List Value}, VsR r l l' → ∀ n, VsR r (l.take n) (l'.take n) ∧ VsR r (l.drop n) (l'.drop n)
 | [], l', h, n => by
  cases h
  simp only [List.take_nil, List.drop_nil]
  exact ⟨.nil, .nil⟩
 | a :: l, l', h, n => by
  cases h with
  | cons h1 h2 =>
   cases n with
   | zero => exact ⟨.nil, .cons h1 h2⟩
   | succ n => exact ⟨.cons h1 (vsr_take h2 n).1, (vsr_take h2 n).2⟩
theorem litEs_ok {K : Nat} : ∀ {n : Nat} {l l' : List Value} {es : List Qe} {h h' : Tr (Blk Sy)} {nx nx' : Nat} {R W : List Nat}, litEs K n l h nx = .ok es h' nx' R W → VsR r l l' → Mod (symSig ρ) r h.get w →
  h' = h ∧ nx' = nx ∧ W = [] ∧ es.length = n ∧ ∀ i e, es[i]? = some e → elIs K w (e.ev ρ.q) ((l'.drop (i * 3)).take 3)
 | 0, l, l', es, h, h', nx, nx', R, W, e, _, _ => by
  obtain ⟨rfl, rfl, rfl, rfl⟩ := ret_ok (show (ret [] : M Sy (List Qe)) _ _ = _ from e)
  exact ⟨rfl, rfl, rfl, rfl, fun i e h => by simp at h⟩
 | n + 1, l, l', es, h, h', nx, nx', R, W, e, hv, hM => by
  obtain ⟨q, h1, nx1, R1, W1, R2, W2, e1, e2, rfl, rfl⟩ := bind_ok (show bind (elV K (.agg ⟨l.take 3⟩)) (fun e => bind (litEs K n (l.drop 3)) fun es => ret (e :: es)) h nx = _ from e)
  obtain ⟨rfl, rfl, rfl, hq⟩ := elV_ok (ρ := ρ) (w := w) (v' := .agg ⟨l'.take 3⟩) e1 (.agg (vsr_take hv 3).1) hM
  obtain ⟨qs, h2, nx2, R3, W3, R4, W4, e3, e4, rfl, rfl⟩ := bind_ok e2
  obtain ⟨rfl, rfl, rfl, hl, ih⟩ := litEs_ok e3 (vsr_take hv 3).2 hM
  obtain ⟨rfl, rfl, rfl, rfl⟩ := ret_ok e4
  refine ⟨rfl, rfl, by simp, by simp [hl], fun i e he => ?_⟩
  cases i with
  | zero =>
   simp only [List.getElem?_cons_zero, Option.some.injEq] at he
   subst he
   rw [Nat.zero_mul, List.drop_zero]
   exact hq
  | succ i =>
   rw [List.getElem?_cons_succ] at he
   have := ih i e he
   rw [List.drop_drop] at this
   rw [show (i + 1) * 3 = 3 + i * 3 by omega]
   exact this
theorem litArg_ok {K : Nat} {v v' : Value} {es : List Qe} (e : litArg K v h nx = .ok es h' nx' R W) (hv : VR r v v') (hM : Mod (symSig ρ) r h.get w) : h' = h ∧ nx' = nx ∧ W = [] ∧ LsIn K w v' (es.map fun e => e.ev ρ.q) := by
 unfold litArg at e
 cases hs : sliceOf v with
 | none => rw [hs] at e; cases (show (fail : M Sy (List Qe)) h nx = _ from e)
 | some y =>
  rw [hs] at e; simp only at e
  obtain ⟨hk, e2⟩ := cond_ok e
  simp only [Bool.and_eq_true] at hk
  obtain ⟨hK, hn, hc⟩ := hk
  have hn := Nat.le_of_ble_eq_true hn
  have hc : y.2.2 < capX := Nat.le_of_ble_eq_true hc
  have hsz : elSz K = 3 := by rw [elSz_agg, hK]; rfl
  obtain ⟨l, h1, nx1, R1, W1, R2, W2, e3, e4, rfl, rfl⟩ := bind_ok e2
  rw [sliceOf_of hs] at hv
  obtain ⟨rfl, rfl, rfl, hl, a', c', l', rfl, g1, g2, g3⟩ := rowsO_ok e3 hM hv
  obtain ⟨rfl, rfl, rfl, hlen, hel⟩ := litEs_ok e4 g1 hM
  have hlm : (es.map fun e => e.ev ρ.q).length = y.2.1 := by rw [List.length_map, hlen]
  have hl' : l'.length = y.2.1 * 3 := by rw [g1.length, hl]
  obtain ⟨base, n, c⟩ := y
  have hn : n ≤ c := hn
  have hc : c < capX := hc
  have hlm : (es.map fun e => e.ev ρ.q).length = n := hlm
  have hl' : l'.length = n * 3 := hl'
  have hlen : es.length = n := hlen
  cases base with
  | none =>
   have hv' : VR r (.slice none n c) (.slice a' n c') := hv
   have hq := VR.nilslc hv'
   simp only [Value.slice.injEq, true_and] at hq
   obtain ⟨rfl, rfl⟩ := hq
   refine ⟨rfl, rfl, by simp, none, c', by rw [hlm], by rw [hlm]; exact hn, fun hp => ?_⟩
   have g3' : n = 0 ∧ l' = [] := g3
   rw [g3'.1] at hlm
   exact absurd (List.length_eq_zero_iff.1 hlm) hp
  | some p =>
   obtain ⟨b, off⟩ := p
   obtain ⟨b', c2, hb, heq, hcc⟩ := slice_cases (b := b) (off := off) hv
   unfold vslice at heq
   cases heq
   have hcc2 : c' = c := by
    rcases hcc with ⟨_, rfl⟩ | ⟨s, c0, q1, _, _, _⟩
    ·rfl
    ·exfalso
     have : capX ≤ capX * (s + 1) := Nat.le_mul_of_pos_right _ (by omega)
     omega
   subst hcc2
   refine ⟨rfl, rfl, by simp, some ⟨b', off, none⟩, c', by rw [hlm], by rw [hlm]; exact hn, fun hp => ?_⟩
   have g3' : ∀ j u, l'[j]? = some u → w.cell? ((⟨b', off, none⟩ : Addr).add j) = some u := g3
   have hpos : 0 < n := by
    rcases Nat.eq_zero_or_pos n with q | q
    ·rw [q] at hlm; exact absurd (List.length_eq_zero_iff.1 hlm) hp
    ·exact q
   have h0 := g3' 0 (l'[0]'(by omega)) (List.getElem?_eq_getElem (by omega))
   cases hh : w.heap[b']? with
   | none => simp [World.cell?, Addr.add, hh] at h0
   | some o =>
    cases o with
    | cells cs t z =>
     obtain ⟨cl⟩ := cs
     refine ⟨b', off, cl, t, z, rfl, hh, fun i q hi => ?_⟩
     rw [List.getElem?_map] at hi
     obtain ⟨x, hx, rfl⟩ := Option.map_eq_some_iff.1 hi
     have hi2 := (List.getElem?_eq_some_iff.1 hx).1
     have := hel i x hx
     rw [hsz]
     have heq : (cl.drop (off + i * 3)).take 3 = (l'.drop (i * 3)).take 3 := by
      apply List.ext_getElem?
      intro k
      rw [List.getElem?_take, List.getElem?_take]
      by_cases hk : k < 3
      ·rw [if_pos hk, if_pos hk, List.getElem?_drop, List.getElem?_drop]
       have h1 := g3' (i * 3 + k) (l'[i * 3 + k]'(by omega)) (List.getElem?_eq_getElem (by omega))
       rw [add_off] at h1
       have h2 : cl[off + (i * 3 + k)]? = some (l'[i * 3 + k]'(by omega)) := by simpa [World.cell?, hh] using h1
       rw [Nat.add_assoc, h2, List.getElem?_eq_getElem (by omega)]
      ·rw [if_neg hk, if_neg hk]
     rw [heq]
     exact this
    | _ => simp [World.cell?, Addr.add, hh] at h0
theorem opt_ok {α : Type} {o : Option α} {x : α} (e : (ofOpt o : M Sy α) h nx = .ok x h' nx' R W) : o = some x ∧ h' = h ∧ nx' = nx ∧ W = [] := by
 cases o with
 | none => cases (show (fail : M Sy α) h nx = _ from e)
 | some y =>
  obtain ⟨rfl, rfl, rfl, rfl⟩ := ret_ok (show (ret y : M Sy α) h nx = _ from e)
  exact ⟨rfl, rfl, rfl, rfl⟩
theorem nameV_ok (hB : AllX ρ B) (hN : NmsOK ρ N) {K c : Nat} {v v' : Value} (e : nameV B N K v h nx = .ok c h' nx' R W) (hv : VR r v v') (hM : Mod (symSig ρ) r h.get w) : h' = h ∧ nx' = nx ∧ W = [] ∧ LsIn K w v' (ρ.lst c) := by
 unfold nameV at e
 cases hc : chanOf v with
 | some i =>
  rw [hc] at e; simp only at e
  obtain ⟨y, g1, nx1, R1, W1, R2, W2, e1, e2, rfl, rfl⟩ := bind_ok e
  obtain ⟨rfl, rfl, rfl, hls⟩ := lsArg_ok hB e1 hv hM
  obtain ⟨hk, e3⟩ := cond_ok e2
  obtain ⟨a, l⟩ := y
  have hk : a = K := Nat.eq_of_beq_eq_true hk
  subst hk
  cases hy : vOf a (a, l) with
  | some d =>
   rw [hy] at e3
   obtain ⟨rfl, rfl, rfl, rfl⟩ := ret_ok (show (ret d : M Sy Nat) _ _ = _ from e3)
   have := vOf_ok hy
   cases this
   exact ⟨rfl, rfl, by simp, hls⟩
  | none =>
   rw [hy] at e3
   obtain ⟨h1, rfl, rfl, rfl⟩ := opt_ok (show (ofOpt (findE N.E l) : M Sy Nat) _ _ = _ from e3)
   rw [hN.2 _ _ (findE_ok h1)]
   exact ⟨rfl, rfl, by simp, hls⟩
 | none =>
  rw [hc] at e; simp only at e
  obtain ⟨es, g1, nx1, R1, W1, R2, W2, e1, e2, rfl, rfl⟩ := bind_ok e
  obtain ⟨rfl, rfl, rfl, hls⟩ := litArg_ok (ρ := ρ) e1 hv hM
  obtain ⟨h1, rfl, rfl, rfl⟩ := opt_ok e2
  rw [hN.1 _ _ (findT_ok h1)]
  exact ⟨rfl, rfl, by simp, hls⟩
end
abbrev TriS := List (Nat × Qe × Nat)
noncomputable def findS (L : TriS) (c : Nat) (x : Qe) : Option Nat := List.rec (motive := fun _ => Option Nat) none (fun y _ ih => cond (Nat.beq y.1 c && y.2.1.beq x) (some y.2.2) ih) L
theorem findS_ok {c e : Nat} {x : Qe} : ∀ {L : TriS}, findS L c x = some e → (c, x, e) ∈ L
 | [], h => by cases h
 | y :: L, h => by
  obtain ⟨a, b, g⟩ := y
  have h' : cond (Nat.beq a c && b.beq x) (some g) (findS L c x) = some e := h
  cases hb : (Nat.beq a c && b.beq x) with
  | false => rw [hb] at h'; exact List.mem_cons_of_mem _ (findS_ok h')
  | true =>
   rw [hb] at h'
   cases h'
   simp only [Bool.and_eq_true] at hb
   rw [Nat.eq_of_beq_eq_true hb.1, Qe.beq_ok _ _ hb.2]
   exact List.mem_cons_self
noncomputable def unN (B : List Ix) (N : Nms) (K : Nat) (L : Tri3) (k : Nat → M Sy Value) (args : List Value) : Option (M Sy Value) := match args with
 | [a] => some (bind (nameV B N K a) fun c => match findL L c 0 with
  | some e => k e
  | none => fail)
 | _ => none
noncomputable def biN (B : List Ix) (N : Nms) (K : Nat) (L : Tri3) (k : Nat → M Sy Value) (args : List Value) : Option (M Sy Value) := match args with
 | [a, b] => some (bind (nameV B N K a) fun c => bind (nameV B N K b) fun d => match findL L c d with
  | some e => k e
  | none => fail)
 | _ => none
noncomputable def siN (B : List Ix) (N : Nms) (K : Nat) (L : TriS) (k : Nat → M Sy Value) (args : List Value) : Option (M Sy Value) := match args with
 | [a, b] => some (bind (nameV B N K a) fun c => bind (numV b) fun x => match findS L c x with
  | some e => k e
  | none => fail)
 | _ => none
section
variable {ρ : Env} {B : List Ix} {N : Nms}
def SiOK (ρ : Env) (f : FuncId) (K : Nat) (L : TriS) (Q : Nat → World → Ending → World → Prop) : Prop := ∀ c x e, (c, x, e) ∈ L → ∀ (w : World) (v u : Value), LsIn K w v (ρ.lst c) → NumIn w u (x.ev ρ.q) → Try.prog.globals.size ≤ w.heap.size → natSig.base w → Calls Try.prog f ⟨[v, u]⟩ w fun en w' => Q e w en w' ∧ Below w.heap.size w w'
abbrev GivesOK (ρ : Env) (f : FuncId) (k : Nat → M Sy Value) (Q : Nat → World → Ending → World → Prop) : Prop := ∀ e (args' : List Value) (h : Tr (Blk Sy)) nx v h' nx' R W r w, k e h nx = .ok v h' nx' R W → Mod (symSig ρ) r h.get w → New r nx nx' → (Calls Try.prog f ⟨args'⟩ w fun en w' => Q e w en w' ∧ Below w.heap.size w w') →
   Calls Try.prog f ⟨args'⟩ w fun e w' => ∃ v' r', e = .returned v' ∧ VR r' v v' ∧ Ext (symSig ρ) r w nx nx' W h'.get r' w'
theorem unN_ok (hB : AllX ρ B) (hNm : NmsOK ρ N) {f : FuncId} {K : Nat} {L : Tri3} {k : Nat → M Sy Value} {Q : Nat → World → Ending → World → Prop} (hl : ∀ e, Loc (k e)) (hf : UnOK ρ f K L Q) (hk : GivesOK ρ f k Q) : SumF (symSig ρ) Try.prog f (unN B N K L k) := by
 intro args m hm
 rcases args with _ | ⟨a, _ | ⟨b, l⟩⟩ <;> first | (cases (show none = some m from hm); done) | skip
 cases hm
 refine ⟨loc_bind (loc_nameV _ _ _ _) fun y => ?_, fun h nx v h' nx' R W e r w args' hv hM hN => ?_⟩
 ·split <;> first | exact loc_fail | exact hl _
 cases hv with
 | cons h1 h2 =>
  cases h2
  obtain ⟨c, g1, nx1, R1, W1, R2, W2, e1, e2, rfl, rfl⟩ := bind_ok e
  obtain ⟨rfl, rfl, rfl, hls⟩ := nameV_ok hB hNm e1 h1 hM
  cases hc : findL L c 0 with
  | none => rw [hc] at e2; cases (show (fail : M Sy Value) _ _ = _ from e2)
  | some d =>
   rw [hc] at e2
   have := hk d _ _ _ _ _ _ _ _ _ _ e2 hM hN (hf c d (findL_ok hc) w _ hls hM.fits hM.base)
   simp only [List.nil_append]
   exact this
theorem biN_ok (hB : AllX ρ B) (hNm : NmsOK ρ N) {f : FuncId} {K : Nat} {L : Tri3} {k : Nat → M Sy Value} {Q : Nat → World → Ending → World → Prop} (hl : ∀ e, Loc (k e)) (hf : BiOK ρ f K L Q) (hk : GivesOK ρ f k Q) : SumF (symSig ρ) Try.prog f (biN B N K L k) := by
 intro args m hm
 rcases args with _ | ⟨a, _ | ⟨b, _ | ⟨z, l⟩⟩⟩ <;> first | (cases (show none = some m from hm); done) | skip
 cases hm
 refine ⟨loc_bind (loc_nameV _ _ _ _) fun y => loc_bind (loc_nameV _ _ _ _) fun z => ?_, fun h nx v h' nx' R W e r w args' hv hM hN => ?_⟩
 ·split <;> first | exact loc_fail | exact hl _
 cases hv with
 | cons h1 hv => cases hv with
  | cons h2 h3 =>
   cases h3
   obtain ⟨c, g1, nx1, R1, W1, R2, W2, e1, e2, rfl, rfl⟩ := bind_ok e
   obtain ⟨rfl, rfl, rfl, hls⟩ := nameV_ok hB hNm e1 h1 hM
   obtain ⟨d, g3, nx3, R3, W3, R4, W4, e3, e4, rfl, rfl⟩ := bind_ok e2
   obtain ⟨rfl, rfl, rfl, hls2⟩ := nameV_ok hB hNm e3 h2 hM
   cases hc : findL L c d with
   | none => rw [hc] at e4; cases (show (fail : M Sy Value) _ _ = _ from e4)
   | some g =>
    rw [hc] at e4
    have := hk g _ _ _ _ _ _ _ _ _ _ e4 hM hN (hf c d g (findL_ok hc) w _ _ hls hls2 hM.fits hM.base)
    simp only [List.nil_append]
    exact this
theorem siN_ok (hB : AllX ρ B) (hNm : NmsOK ρ N) {f : FuncId} {K : Nat} {L : TriS} {k : Nat → M Sy Value} {Q : Nat → World → Ending → World → Prop} (hl : ∀ e, Loc (k e)) (hf : SiOK ρ f K L Q) (hk : GivesOK ρ f k Q) : SumF (symSig ρ) Try.prog f (siN B N K L k) := by
 intro args m hm
 rcases args with _ | ⟨a, _ | ⟨b, _ | ⟨z, l⟩⟩⟩ <;> first | (cases (show none = some m from hm); done) | skip
 cases hm
 refine ⟨loc_bind (loc_nameV _ _ _ _) fun y => loc_bind (loc_numV _) fun z => ?_, fun h nx v h' nx' R W e r w args' hv hM hN => ?_⟩
 ·split <;> first | exact loc_fail | exact hl _
 cases hv with
 | cons h1 hv => cases hv with
  | cons h2 h3 =>
   cases h3
   obtain ⟨c, g1, nx1, R1, W1, R2, W2, e1, e2, rfl, rfl⟩ := bind_ok e
   obtain ⟨rfl, rfl, rfl, hls⟩ := nameV_ok hB hNm e1 h1 hM
   obtain ⟨x, g3, nx3, R3, W3, R4, W4, e3, e4, rfl, rfl⟩ := bind_ok e2
   obtain ⟨rfl, rfl, rfl, hx⟩ := numV_ok e3 h2 hM
   cases hc : findS L c x with
   | none => rw [hc] at e4; cases (show (fail : M Sy Value) _ _ = _ from e4)
   | some g =>
    rw [hc] at e4
    have := hk g _ _ _ _ _ _ _ _ _ _ e4 hM hN (hf c x g (findS_ok hc) w _ _ hls hx hM.fits hM.base)
    simp only [List.nil_append]
    exact this
theorem giveO_gives {K : Nat} {f : FuncId} : GivesOK ρ f (giveO K) (QO ρ K) := fun _ _ _ _ _ _ _ _ _ _ _ e hM hN c => giveO_ok e hM hN c
theorem giveT_gives {K : Nat} {u : Value} (hp : plain u = true) {f : FuncId} : GivesOK ρ f (giveT K u) (QT ρ K u) := fun _ _ _ _ _ _ _ _ _ _ _ e hM hN c => giveT_ok hp e hM hN c
end
def elRow (c : Nat) : Nat → List Ix
 | 0 => []
 | k + 1 => .el c 0 k (.v (10 + k)) :: elRow c k
theorem elRow_ok {ρ : Env} {c : Nat} {p : List Rat} (hc : ρ.lst c = p) (hq : ∀ i, i < p.length → ρ.q (10 + i) = p.getD i 0) : ∀ {n : Nat}, n ≤ p.length → AllX ρ (elRow c n)
 | 0, _ => fun x hx => by simp [elRow] at hx
 | n + 1, h => fun x hx => by
  rcases List.mem_cons.1 hx with rfl | hx
  ·refine ⟨n, ?_, ?_⟩
   ·unfold atIx; rw [ρ.nat0]; simp
   ·rw [hc]
    show p[n]? = some (ρ.q (10 + n))
    rw [hq n (by omega), List.getD_eq_getElem?_getD, List.getElem?_eq_getElem (by omega)]; rfl
  ·exact elRow_ok hc hq (by omega) x hx
noncomputable def snE (e : Nat → Qe) (n : Nat) : Le := Nat.rec (motive := fun _ => Le) .nil (fun k ih => .snoc ih (e k)) n
theorem snE_ev (ρ : Env) (e : Nat → Qe) : ∀ n, (snE e n).ev ρ = (List.range n).map fun k => (e k).ev ρ.q
 | 0 => rfl
 | n + 1 => by
  rw [List.range_succ, List.map_append]
  show (snE e n).ev ρ ++ [(e n).ev ρ.q] = _
  rw [snE_ev ρ e n]; rfl
noncomputable def trA (e : Nat → Qe) (m : Nat) (s : Bool) (n : Nat) : List As := Nat.rec (motive := fun _ => List As) [] (fun k ih => cond (Nat.blt k m) (cond (Nat.beq (k + 1) m) (⟨1, e k, z0, false⟩ :: ⟨3, e k, z0, s⟩ :: ih) ih) (⟨1, e k, z0, true⟩ :: ih)) n
theorem trA_ok {ρ : Env} {e : Nat → Qe} {l : List Rat} {m : Nat} (hm : TrimAt l m) (he : ∀ i, i < l.length → (e i).ev ρ.q = l.getD i 0) : ∀ n, n ≤ l.length → AllH ρ (trA e m (Big.ng (l.getD (m - 1) 0)) n)
 | 0, _ => fun x hx => by
  have hx' : x ∈ ([] : List As) := hx
  simp at hx'
 | n + 1, hn => fun x hx => by
  have ih := trA_ok hm he n (by omega)
  have hx' : x ∈ cond (Nat.blt n m) (cond (Nat.beq (n + 1) m) (⟨1, e n, z0, false⟩ :: ⟨3, e n, z0, Big.ng (l.getD (m - 1) 0)⟩ :: trA e m (Big.ng (l.getD (m - 1) 0)) n) (trA e m (Big.ng (l.getD (m - 1) 0)) n)) (⟨1, e n, z0, true⟩ :: trA e m (Big.ng (l.getD (m - 1) 0)) n) := hx
  cases hb : Nat.blt n m with
  | true =>
   rw [hb] at hx'
   simp only [cond_true] at hx'
   cases hc : Nat.beq (n + 1) m with
   | true =>
    rw [hc] at hx'
    simp only [cond_true, List.mem_cons] at hx'
    have hnm := Nat.eq_of_beq_eq_true hc
    rcases hx' with rfl | rfl | hx'
    ·show false = true ↔ (e n).ev ρ.q = 0
     rw [he n (by omega)]
     have := hm.last (by omega)
     rw [show m - 1 = n by omega] at this
     exact ⟨fun h => (by cases h), fun h => absurd h this⟩
    ·show Big.ng (l.getD (m - 1) 0) = Big.ng ((e n).ev ρ.q)
     rw [he n (by omega), show m - 1 = n by omega]
    ·exact ih x hx'
   | false => rw [hc] at hx'; exact ih x hx'
  | false =>
   rw [hb] at hx'
   simp only [cond_false, List.mem_cons] at hx'
   have hnm : ¬ n < m := fun h => by
    have : Nat.blt n m = true := Nat.ble_eq_true_of_le h
    rw [hb] at this; cases this
   rcases hx' with rfl | hx'
   ·show true = true ↔ (e n).ev ρ.q = 0
    rw [he n (by omega), List.getD_eq_getElem?_getD, hm.zero n (by omega) (by omega)]
    exact ⟨fun _ => rfl, fun _ => rfl⟩
   ·exact ih x hx'
noncomputable def isOl (K : Nat) (l : Le) (d : Option (D3 Sy)) : Bool := match d with
 | some (.one (.one (.ow a))) => eqSy a (.ol K l none)
 | _ => false
theorem isOl_ok {K : Nat} {l : Le} {d : Option (D3 Sy)} (h : isOl K l d = true) : d = some (.one (.one (.ow (.ol K l none)))) := by
 unfold isOl at h
 split at h
 ·rw [eqSy_ok _ _ h]
 ·cases h
noncomputable def isOT (K : Nat) (l : Le) (n : Nat) (d : Option (D3 Sy)) : Bool := match d with
 | some (.tuple [.one (.ow a), .one (.p (.bool b))]) => b && eqSy a (.ol K l (some (0, (n : Int))))
 | _ => false
theorem isOT_ok {K n : Nat} {l : Le} {d : Option (D3 Sy)} (h : isOT K l n d = true) : d = some (.tuple [.one (.ow (.ol K l (some (0, (n : Int))))), .one (.p (.bool true))]) := by
 unfold isOT at h
 split at h
 ·rename_i b
  simp only [Bool.and_eq_true] at h
  obtain ⟨rfl, h2⟩ := h
  rw [eqSy_ok _ _ h2]
 ·cases h
noncomputable def scF : Nat := 52
noncomputable def ovF : Nat := 49
def sc (p : List Rat) (x : Rat) : List Rat := p.map (· * x)
def ov (p : List Rat) (x : Rat) : List Rat := p.map (· / x)
theorem range_getD (p : List Rat) (f : Rat → Rat) : (List.range p.length).map (fun k => f (p.getD k 0)) = p.map f := by
 apply List.ext_getElem?
 intro i
 rw [List.getElem?_map, List.getElem?_map]
 rcases Nat.lt_or_ge i p.length with h | h
 ·rw [List.getElem?_range h, List.getElem?_eq_getElem h]
  simp [List.getD_eq_getElem?_getD, List.getElem?_eq_getElem h]
 ·rw [List.getElem?_eq_none (by simpa using h), List.getElem?_eq_none h]; rfl
theorem map_getD (p : List Rat) (f : Rat → Rat) {i : Nat} (h : i < p.length) : (p.map f).getD i 0 = f (p.getD i 0) := by
 rw [List.getD_eq_getElem?_getD, List.getD_eq_getElem?_getD, List.getElem?_map, List.getElem?_eq_getElem h]; rfl
section
variable {p : List Rat} {x : Rat} (hp : ∀ y ∈ p, Fit y) (hx : Fit x) (lo : Nat)
end
noncomputable def qmF : Nat := 81
noncomputable def qmT2 : List Nat := [5, 0, 1, 24, 25, 6, 7]
noncomputable def qmS2 (l : Le) (k : Sl Sy) : List (Sl Sy) := [.ow (.ol 1 l (some (5, 0))), .f (.ls 1 0), .f (.ls 1 3), .f (.ix 5 0), .f (.ix 4 0), .f (.ix 4 0), k]
noncomputable def qmB2 : List Ix := [.ln 0 1, .ln 3 2, .ln 1 4, .bd 1, .bd 4, .bd 13, .bi 2 4 0 1 (-1) 10 0, .lt 10 0 13 0 false, .lt 4 0 5 0 true, .lt 13 0 1 0 true, .el 0 13 0 (.v 103), .df 4 0 13 0 11, .lt 11 0 2 0 true, .el 3 11 0 (.v 104)]
noncomputable def qmCs2 : List (Sl Sy) := qmS2 (.snoc (.v 1) (.v 102)) (.f (.ix 13 0))
noncomputable def qmCs2' : List (Sl Sy) := qmS2 (.snoc (.take (.snoc (.v 1) (.v 102)) 4 0) (.add (.v 102) (.mul (.v 103) (.v 104)))) (.f (.ix 13 1))
set_option maxHeartbeats 4000000 in
theorem qm_round2 : roundT Try.prog (lsCfg false [] qmB2 noJ) (lsClW false [] qmB2 20) 68 20 eqSy qmT2 qmCs2 qmCs2' (loopOf qmF 1) = true := by kernel_rfl
noncomputable def qmPre2 : List (Sl Sy) := qmS2 (.snoc (.v 1) (.c false 0 1)) (.f (.ix 9 0))
noncomputable def qmPost2 : List (Sl Sy) := qmS2 (.v 7) (.f (.ix 10 1))
noncomputable def qmJ2 : Tr Value → M Sy (Tr Value) := jumpM eqSy 68 qmT2 qmPre2 qmPost2
noncomputable def qmT1 : List Nat := [5, 0, 1, 24, 25]
noncomputable def qmS1 (l : Le) (i : Sl Sy) : List (Sl Sy) := [.ow (.ol 1 l (some (5, 0))), .f (.ls 1 0), .f (.ls 1 3), .f (.ix 5 0), i]
noncomputable def qmB1 : List Ix := [.ln 0 1, .ln 3 2, .ln 1 4, .bd 1, .bd 4, .bd 12, .lt 4 0 5 0 true, .bi 1 4 0 2 0 12 (-5000), .bi 3 0 0 12 (-4999) 9 0, .bi 2 4 0 1 (-1) 10 0]
noncomputable def qmCl (B : List Ix) (n : Nat) : Cl Sy := ⟨callY Try.prog (lsCfg false [] B noJ) (lsSumsW []) n, [], fun x => cond (Nat.beq (ops1 x) 7) (some qmJ2) none⟩
set_option maxHeartbeats 4000000 in
theorem qm_round1 : roundT Try.prog (lsCfg false [] qmB1 noJ) (qmCl qmB1 20) 68 20 eqSy qmT1 (qmS1 (.v 1) (.f (.ix 4 0))) (qmS1 (.v 7) (.f (.ix 4 1))) (loopOf qmF 0) = true := by kernel_rfl
noncomputable def qmJ1 : Tr Value → M Sy (Tr Value) := jumpM eqSy 68 qmT1 (qmS1 .nil (.p (.int .i64 0))) (qmS1 (.v 8) (.f (.ix 5 0)))
noncomputable def qmJ : Jmps := fun f x => cond (Nat.beq f qmF && Nat.beq (ops1 x) 1) (some qmJ1) none
noncomputable def qmB0 (a b : Bool) : List Ix := [.ln 0 1, .ln 3 2, .bd 1, .lt 1 0 0 0 false, .lt 0 0 1 0 a, .lt 2 0 0 0 false, .lt 0 0 2 0 b] ++ cond (a && b) [.bd 5, .bi 0 1 0 2 0 5 1, .lt 5 0 0 0 false] []
set_option maxHeartbeats 4000000 in
theorem qm_runT : tells [.ls 1 0, .ls 1 3] [.one, .one] (call Try.prog (lsCfg false [] (qmB0 true true) qmJ) (lsSumsW []) 20 qmF) = some (.one (.one (.ow (.ol 1 (.v 8) (some (5, 0)))))) := by kernel_rfl
set_option maxHeartbeats 4000000 in
theorem qm_runF (a b : Bool) (h : (a && b) = false) : tells [.ls 1 0, .ls 1 3] [.one, .one] (call Try.prog (lsCfg false [] (qmB0 a b) noJ) (lsSumsW []) 20 qmF) = some (.one (.one (.p (.slice none 0 0)))) := by
 cases a <;> cases b <;> first | (cases h; done) | kernel_rfl
theorem qm_two : ∃ fn c, (Try.prog).funcs[qmF]? = some fn ∧ fn.body = some c ∧ fn.ntmps = 68 ∧ loopsIn c = [loopOf qmF 0, loopOf qmF 1] ∧ loopsIn (loopOf qmF 0) = [loopOf qmF 1] ∧ Nat.beq (ops1 (loopOf qmF 0)) 1 = true ∧ Nat.beq (ops1 (loopOf qmF 1)) 1 = false ∧ Nat.beq (ops1 (loopOf qmF 1)) 7 = true := ⟨_, _, rfl, rfl, rfl, rfl, rfl, rfl, rfl, rfl⟩
theorem getD_sm {p : List Rat} (h : ∀ x ∈ p, Sm 4096 x) (k : Nat) : Sm 4096 (p.getD k 0) := by
 rw [List.getD_eq_getElem?_getD]
 cases hk : p[k]? with
 | none => exact fit00.sm.up (by decide)
 | some x => exact h x (List.mem_of_getElem? hk)
def qmQ (p q : List Rat) (i k : Nat) : Nat → Rat
 | 102 => ps p q i (min k (i + 1))
 | 103 => p.getD k 0
 | 104 => q.getD (i - k) 0
 | _ => 0
structure QmFit (p q : List Rat) : Prop where
 fp : ∀ x ∈ p, Sm 4096 x
 fq : ∀ x ∈ q, Sm 4096 x
 fs : ∀ i k, k ≤ i + 1 → Sm 4096 (ps p q i k)
theorem qmQ_fit {p q : List Rat} (h : QmFit p q) (i k n : Nat) : Sm 4096 (qmQ p q i k n) := by
 unfold qmQ
 split
 ·exact h.fs _ _ (by omega)
 ·exact getD_sm h.fp _
 ·exact getD_sm h.fq _
 ·exact fit00.sm.up (by decide)
theorem qmQ_low (p q : List Rat) (i k n : Nat) (hn : n < 100) : Fit (qmQ p q i k n) := by
 unfold qmQ
 split <;> first | omega | exact fit00
def qmNat (a b i k : Nat) : Nat → Nat
 | 1 => a
 | 2 => b
 | 4 => i
 | 5 => a + b - 1
 | 9 => i + 1 - b
 | 10 => min i (a - 1)
 | 11 => i - k
 | 12 => i + 5000 - b
 | 13 => k
 | _ => 0
def qmLst (p q : List Rat) (i : Nat) : Nat → List Rat
 | 0 => p
 | 3 => q
 | 1 => (pd p q).take i
 | 7 => (pd p q).take (i + 1)
 | 8 => pd p q
 | _ => []
def qmEnv (p q : List Rat) (h : QmFit p q) (lo i k : Nat) : Env := ⟨qmQ p q i k, fun _ => (false, ⟨#[]⟩, ⟨#[]⟩), fun n hn => qmQ_low p q i k n hn, fun n => qmQ_fit h i k n, fun _ => bad_zero, lo, qmLst p q i, qmNat p.length q.length i k, rfl⟩
section
variable {p q : List Rat} (hf : QmFit p q) (lo : Nat)
theorem qm_B2 (hp : 0 < p.length) (hq : 0 < q.length) (hp9 : p.length ≤ 1000) (hq9 : q.length ≤ 1000) {i k : Nat} (hi : i < p.length + q.length - 1) (hk : i + 1 - q.length ≤ k) (hk2 : k ≤ min i (p.length - 1)) : AllX (qmEnv p q hf lo i k) qmB2 := by
 intro x hx
 simp only [qmB2, List.mem_cons, List.not_mem_nil, or_false] at hx
 rcases hx with rfl | rfl | rfl | rfl | rfl | rfl | rfl | rfl | rfl | rfl | rfl | rfl | rfl | rfl
 ·rfl
 ·rfl
 ·show ((pd p q).take i).length = i
  rw [List.length_take, pd_len hp hq]; omega
 ·show p.length ≤ 10000
  omega
 ·show i ≤ 10000
  omega
 ·show k ≤ 10000
  omega
 ·show biF 2 (((i : Nat) : Int) + 0) (((p.length : Nat) : Int) + (-1)) = ((min i (p.length - 1) : Nat) : Int) + 0 ∧ min i (p.length - 1) ≤ 10000
  refine ⟨?_, by omega⟩
  unfold biF
  simp only
  split <;> omega
 ·show false = true ↔ ((min i (p.length - 1) : Nat) : Int) + 0 < ((k : Nat) : Int) + 0
  exact ⟨fun h => (by cases h), fun h => by omega⟩
 ·show true = true ↔ ((i : Nat) : Int) + 0 < ((p.length + q.length - 1 : Nat) : Int) + 0
  exact ⟨fun _ => by omega, fun _ => rfl⟩
 ·show true = true ↔ ((k : Nat) : Int) + 0 < ((p.length : Nat) : Int) + 0
  exact ⟨fun _ => by omega, fun _ => rfl⟩
 ·refine ⟨k, ?_, ?_⟩
  ·show ((k : Nat) : Int) = ((k : Nat) : Int) + 0
   omega
  ·show p[k]? = some (p.getD k 0)
   rw [List.getD_eq_getElem?_getD, List.getElem?_eq_getElem (by omega)]; rfl
 ·show ((i : Nat) : Int) + 0 - (((k : Nat) : Int) + 0) = ((i - k : Nat) : Int) ∧ i - k ≤ 10000
  exact ⟨by omega, by omega⟩
 ·show true = true ↔ ((i - k : Nat) : Int) + 0 < ((q.length : Nat) : Int) + 0
  exact ⟨fun _ => by omega, fun _ => rfl⟩
 ·refine ⟨i - k, ?_, ?_⟩
  ·show ((i - k : Nat) : Int) = ((i - k : Nat) : Int) + 0
   omega
  ·show q[i - k]? = some (q.getD (i - k) 0)
   rw [List.getD_eq_getElem?_getD, List.getElem?_eq_getElem (by omega)]; rfl
theorem qm_jmp2 (hp : 0 < p.length) (hq : 0 < q.length) (hp9 : p.length ≤ 1000) (hq9 : q.length ≤ 1000) {i : Nat} (hi : i < p.length + q.length - 1) : JmpOK (symSig (qmEnv p q hf lo i 0)) Try.prog 68 (loopOf qmF 1) (jumpM eqSy 68 qmT2 qmPre2 qmPost2) := by
 have hlen : ((pd p q).take i).length = i := by rw [List.length_take, pd_len hp hq]; omega
 refine @jmp_ok Sy (symSig (qmEnv p q hf lo i 0)) Try.prog eqSy eqSy_ok 68 (loopOf qmF 1) qmT2 qmPre2 qmCs2 qmCs2' qmPost2 (min i (p.length - 1) + 1 - (i + 1 - q.length)) (fun j => symSig (qmEnv p q hf lo i (i + 1 - q.length + j))) (fun k => sig_same _ _ (show lo = lo from rfl)) rfl rfl rfl rfl ?_ ?_ ?_ ?_
 ·intro w vs h
  obtain ⟨v1, l1, rfl, a1, v2, l2, rfl, a2, v3, l3, rfl, a3, v4, l4, rfl, a4, v5, l5, rfl, a5, v6, l6, rfl, a6, v7, l7, rfl, a7, rfl⟩ := h
  refine ⟨v1, _, rfl, ⟨?_, a1.2⟩, v2, _, rfl, a2, v3, _, rfl, a3, v4, _, rfl, a4, v5, _, rfl, a5, v6, _, rfl, a6, v7, _, rfl, ⟨?_, a7.2⟩, rfl⟩
  ·refine olIs.env (ρ := qmEnv p q hf lo i 0) (l' := .snoc (.v 1) (.v 102)) (z' := some (5, 0)) (show olIs _ 1 (.snoc (.v 1) (.c false 0 1)) (some (5, 0)) w v1 from a1.1) ?_ rfl
   show (pd p q).take i ++ [ps p q i (min (i + 1 - q.length + 0) (i + 1))] = (pd p q).take i ++ [Qe.ev (qmQ p q i 0) (.c false 0 1)]
   have h0 : ps p q i (min (i + 1 - q.length + 0) (i + 1)) = 0 := by
    rw [show min (i + 1 - q.length + 0) (i + 1) = i + 1 - q.length by omega]
    rcases Nat.le_total (i + 1) q.length with h | h
    ·rw [show i + 1 - q.length = 0 by omega]; rfl
    ·exact ps_low p q i _ (by omega)
   rw [h0]; rfl
  ·have h7 : v7 = .int .i64 (((i + 1 - q.length : Nat) : Int) + 0) := a7.1
   show v7 = .int .i64 (((i + 1 - q.length + 0 : Nat) : Int) + 0)
   rw [h7]; rfl
 ·intro j hj w vs h
  obtain ⟨v1, l1, rfl, a1, v2, l2, rfl, a2, v3, l3, rfl, a3, v4, l4, rfl, a4, v5, l5, rfl, a5, v6, l6, rfl, a6, v7, l7, rfl, a7, rfl⟩ := h
  refine ⟨v1, _, rfl, ⟨?_, a1.2⟩, v2, _, rfl, a2, v3, _, rfl, a3, v4, _, rfl, a4, v5, _, rfl, a5, v6, _, rfl, a6, v7, _, rfl, ⟨?_, a7.2⟩, rfl⟩
  ·refine olIs.env (ρ := qmEnv p q hf lo i (i + 1 - q.length + j)) (l' := .snoc (.v 1) (.v 102)) (z' := some (5, 0)) (show olIs _ 1 (.snoc (.take (.snoc (.v 1) (.v 102)) 4 0) (.add (.v 102) (.mul (.v 103) (.v 104)))) (some (5, 0)) w v1 from a1.1) ?_ rfl
   generalize hk : i + 1 - q.length + j = k at *
   have hkj : i + 1 - q.length + (j + 1) = k + 1 := by omega
   rw [hkj]
   show (pd p q).take i ++ [ps p q i (min (k + 1) (i + 1))] = ((pd p q).take i ++ [ps p q i (min k (i + 1))]).take (((i : Nat) : Int) + 0).toNat ++ [ps p q i (min k (i + 1)) + p.getD k 0 * q.getD (i - k) 0]
   rw [show (((i : Nat) : Int) + 0).toNat = i by omega, show min (k + 1) (i + 1) = k + 1 by omega, show min k (i + 1) = k by omega, List.take_left' hlen]
   rfl
  ·have h7 : v7 = .int .i64 (((i + 1 - q.length + j : Nat) : Int) + 1) := a7.1
   show v7 = .int .i64 (((i + 1 - q.length + (j + 1) : Nat) : Int) + 0)
   rw [h7]; congr 1
 ·intro w vs h
  obtain ⟨v1, l1, rfl, a1, v2, l2, rfl, a2, v3, l3, rfl, a3, v4, l4, rfl, a4, v5, l5, rfl, a5, v6, l6, rfl, a6, v7, l7, rfl, a7, rfl⟩ := h
  refine ⟨v1, _, rfl, ⟨?_, a1.2⟩, v2, _, rfl, a2, v3, _, rfl, a3, v4, _, rfl, a4, v5, _, rfl, a5, v6, _, rfl, a6, v7, _, rfl, ⟨?_, a7.2⟩, rfl⟩
  ·refine olIs.env (ρ := qmEnv p q hf lo i (i + 1 - q.length + (min i (p.length - 1) + 1 - (i + 1 - q.length)))) (l' := .v 7) (z' := some (5, 0)) (show olIs _ 1 (.snoc (.v 1) (.v 102)) (some (5, 0)) w v1 from a1.1) ?_ rfl
   have hkj : i + 1 - q.length + (min i (p.length - 1) + 1 - (i + 1 - q.length)) = min i (p.length - 1) + 1 := by omega
   rw [hkj]
   show (pd p q).take (i + 1) = (pd p q).take i ++ [ps p q i (min (min i (p.length - 1) + 1) (i + 1))]
   rw [show min (min i (p.length - 1) + 1) (i + 1) = min i (p.length - 1) + 1 by omega, ps_min hp, List.take_add_one, pd_get hp hq hi]; rfl
  ·have h7 : v7 = .int .i64 (((i + 1 - q.length + (min i (p.length - 1) + 1 - (i + 1 - q.length)) : Nat) : Int) + 0) := a7.1
   show v7 = .int .i64 (((min i (p.length - 1) : Nat) : Int) + 1)
   rw [h7]; congr 1; omega
 ·intro j hj ro d B0 D0 a w hAt
  have hB := qm_B2 hf lo hp hq hp9 hq9 hi (k := i + 1 - q.length + j) (by omega) (by omega)
  have hA : AllH (qmEnv p q hf lo i (i + 1 - q.length + j)) [] := fun x hx => by simp at hx
  exact round_run (C := lsCfg false [] qmB2 noJ) (call := lsClW false [] qmB2 20) (fuel := 20) (lsFits hA hB) (lsClW_ok hA hB) rfl (fun y _ m e => by cases e) eqSy_ok qm_round2 few5 hAt
theorem qm_B1 (hp : 0 < p.length) (hq : 0 < q.length) (hp9 : p.length ≤ 1000) (hq9 : q.length ≤ 1000) {i : Nat} (hi : i < p.length + q.length - 1) : AllX (qmEnv p q hf lo i 0) qmB1 := by
 intro x hx
 simp only [qmB1, List.mem_cons, List.not_mem_nil, or_false] at hx
 rcases hx with rfl | rfl | rfl | rfl | rfl | rfl | rfl | rfl | rfl | rfl
 ·rfl
 ·rfl
 ·show ((pd p q).take i).length = i
  rw [List.length_take, pd_len hp hq]; omega
 ·show p.length ≤ 10000
  omega
 ·show i ≤ 10000
  omega
 ·show i + 5000 - q.length ≤ 10000
  omega
 ·show true = true ↔ ((i : Nat) : Int) + 0 < ((p.length + q.length - 1 : Nat) : Int) + 0
  exact ⟨fun _ => by omega, fun _ => rfl⟩
 ·show (((i : Nat) : Int) + 0) - (((q.length : Nat) : Int) + 0) = ((i + 5000 - q.length : Nat) : Int) + (-5000) ∧ i + 5000 - q.length ≤ 10000
  exact ⟨by omega, by omega⟩
 ·show biF 3 (((0 : Nat) : Int) + 0) (((i + 5000 - q.length : Nat) : Int) + (-4999)) = ((i + 1 - q.length : Nat) : Int) + 0 ∧ i + 1 - q.length ≤ 10000
  refine ⟨?_, by omega⟩
  unfold biF
  simp only
  split <;> omega
 ·show biF 2 (((i : Nat) : Int) + 0) (((p.length : Nat) : Int) + (-1)) = ((min i (p.length - 1) : Nat) : Int) + 0 ∧ min i (p.length - 1) ≤ 10000
  refine ⟨?_, by omega⟩
  unfold biF
  simp only
  split <;> omega
theorem qmCl_ok {ρ : Env} {B : List Ix} {n : Nat} (hB : AllX ρ B) : ClOK (symSig ρ) Try.prog (qmCl B n) :=
 have hA : AllH ρ [] := fun x hx => by simp at hx
 have h := callY_ok (C := lsCfg false [] B noJ) (lsFits hA hB) (.none rfl) (lsSumsW_ok hA) n
 ⟨⟨h.1, by intro x hx; simp [qmCl] at hx, fun x m e ts => by
   obtain ⟨_, e2⟩ := condJ' (show cond (Nat.beq (ops1 x) 7) (some qmJ2) none = some m from e)
   cases e2
   exact loc_jumpM _ _ _ _ _⟩, h.2⟩
theorem qm_jmp1 (hp : 0 < p.length) (hq : 0 < q.length) (hp9 : p.length ≤ 1000) (hq9 : q.length ≤ 1000) : JmpOK (symSig (qmEnv p q hf lo 0 0)) Try.prog 68 (loopOf qmF 0) (jumpM eqSy 68 qmT1 (qmS1 .nil (.p (.int .i64 0))) (qmS1 (.v 8) (.f (.ix 5 0)))) := by
 have hlen := pd_len hp hq
 refine @jmp_ok Sy (symSig (qmEnv p q hf lo 0 0)) Try.prog eqSy eqSy_ok 68 (loopOf qmF 0) qmT1 (qmS1 .nil (.p (.int .i64 0))) (qmS1 (.v 1) (.f (.ix 4 0))) (qmS1 (.v 7) (.f (.ix 4 1))) (qmS1 (.v 8) (.f (.ix 5 0))) (p.length + q.length - 1) (fun i => symSig (qmEnv p q hf lo i 0)) (fun k => sig_same _ _ (show lo = lo from rfl)) rfl rfl rfl rfl ?_ ?_ ?_ ?_
 ·intro w vs h
  obtain ⟨v1, l1, rfl, a1, v2, l2, rfl, a2, v3, l3, rfl, a3, v4, l4, rfl, a4, v5, l5, rfl, a5, rfl⟩ := h
  refine ⟨v1, _, rfl, ⟨?_, a1.2⟩, v2, _, rfl, a2, v3, _, rfl, a3, v4, _, rfl, a4, v5, _, rfl, ⟨?_, ?_⟩, rfl⟩
  ·exact olIs.env (l' := .v 1) (z' := some (5, 0)) (show olIs _ 1 .nil (some (5, 0)) w v1 from a1.1) rfl rfl
  ·rw [show v5 = .int .i64 0 from a5]; rfl
  ·rw [show v5 = .int .i64 0 from a5]; rfl
 ·intro i hi w vs h
  obtain ⟨v1, l1, rfl, a1, v2, l2, rfl, a2, v3, l3, rfl, a3, v4, l4, rfl, a4, v5, l5, rfl, a5, rfl⟩ := h
  refine ⟨v1, _, rfl, ⟨?_, a1.2⟩, v2, _, rfl, a2, v3, _, rfl, a3, v4, _, rfl, a4, v5, _, rfl, ⟨?_, a5.2⟩, rfl⟩
  ·exact olIs.env (ρ := qmEnv p q hf lo i 0) (l' := .v 1) (z' := some (5, 0)) (show olIs _ 1 (.v 7) (some (5, 0)) w v1 from a1.1) rfl rfl
  ·have h5 : v5 = .int .i64 (((i : Nat) : Int) + 1) := a5.1
   show v5 = .int .i64 (((i + 1 : Nat) : Int) + 0)
   rw [h5]; congr 1
 ·intro w vs h
  obtain ⟨v1, l1, rfl, a1, v2, l2, rfl, a2, v3, l3, rfl, a3, v4, l4, rfl, a4, v5, l5, rfl, a5, rfl⟩ := h
  refine ⟨v1, _, rfl, ⟨?_, a1.2⟩, v2, _, rfl, a2, v3, _, rfl, a3, v4, _, rfl, a4, v5, _, rfl, ⟨a5.1, a5.2⟩, rfl⟩
  refine olIs.env (ρ := qmEnv p q hf lo (p.length + q.length - 1) 0) (l' := .v 8) (z' := some (5, 0)) (show olIs _ 1 (.v 1) (some (5, 0)) w v1 from a1.1) ?_ rfl
  show pd p q = (pd p q).take (p.length + q.length - 1)
  rw [List.take_of_length_le (by omega)]
 ·intro i hi ro d B0 D0 a w hAt
  have hB := qm_B1 hf lo hp hq hp9 hq9 hi
  have hA : AllH (qmEnv p q hf lo i 0) [] := fun x hx => by simp at hx
  refine round_run (C := lsCfg false [] qmB1 noJ) (call := qmCl qmB1 20) (fuel := 20) (lsFits hA hB) (qmCl_ok hB) rfl (fun y hy m e => ?_) eqSy_ok qm_round1 few5 hAt
  obtain ⟨fn0, c0, _, _, _, _, q5, _⟩ := qm_two
  rw [q5] at hy
  obtain rfl := List.mem_singleton.1 hy
  obtain ⟨_, e2⟩ := condJ' (show cond (Nat.beq (ops1 (loopOf qmF 1)) 7) (some qmJ2) none = some m from e)
  cases e2
  exact @qm_jmp2 p q hf lo hp hq hp9 hq9 i hi
theorem qm_all {A : List As} {B : List Ix} (hp : 0 < p.length) (hq : 0 < q.length) (hp9 : p.length ≤ 1000) (hq9 : q.length ≤ 1000) : JmpAll (symSig (qmEnv p q hf lo 0 0)) Try.prog (lsCfg false A B qmJ) := by
 refine ⟨fun f x m e ts => ?_, fun f fn c x m ht hb hx e => ?_⟩
 ·obtain ⟨_, e2⟩ := condJ' (show cond (Nat.beq f qmF && Nat.beq (ops1 x) 1) (some qmJ1) none = some m from e)
  cases e2
  exact loc_jumpM _ _ _ _ _
 ·obtain ⟨h1, e2⟩ := condJ' (show cond (Nat.beq f qmF && Nat.beq (ops1 x) 1) (some qmJ1) none = some m from e)
  cases e2
  simp only [Bool.and_eq_true] at h1
  obtain rfl := Nat.eq_of_beq_eq_true h1.1
  obtain ⟨fn0, c0, q1, q2, q3, q4, _, q6, q7, _⟩ := qm_two
  have hf' : (Try.prog).funcs[qmF]? = some fn := ht
  rw [q1] at hf'
  cases hf'
  rw [q2] at hb
  cases hb
  rw [q4] at hx
  rw [q3]
  simp only [List.mem_cons, List.not_mem_nil, or_false] at hx
  rcases hx with rfl | rfl
  ·exact @qm_jmp1 p q hf lo hp hq hp9 hq9
  ·rw [q7] at h1; cases h1.2
end
theorem mulG_any (w : World) {p q : List Rat} (hf : QmFit p q) (hp9 : p.length ≤ 1000) (hq9 : q.length ≤ 1000) {u v : Value} (hu : LsIn 1 w u p) (hv : LsIn 1 w v q) (hG : Try.prog.globals.size ≤ w.heap.size) (hT : natSig.base w) :
  Calls Try.prog qmF ⟨[u, v]⟩ w fun e w' => ∃ x, e = .returned x ∧ NewOl 1 w w' x (pd p q) ∧ Below w.heap.size w w' := by
 have hh : HoldsL (symSig (qmEnv p q hf w.heap.size 0 0)) w [.ls 1 0, .ls 1 3] [u, v] := ⟨u, _, rfl, LsIn.ls hu rfl, by obtain ⟨a, m, rfl, _⟩ := hu; rfl, v, _, rfl, LsIn.ls hv rfl, by obtain ⟨a, m, rfl, _⟩ := hv; rfl, rfl⟩
 have hA : AllH (qmEnv p q hf w.heap.size 0 0) [] := fun x hx => by simp at hx
 obtain ⟨a, ha⟩ : ∃ a : Bool, a = true ↔ 0 < p.length := ⟨decide (0 < p.length), by rw [decide_eq_true_iff]⟩
 obtain ⟨b, hb⟩ : ∃ b : Bool, b = true ↔ 0 < q.length := ⟨decide (0 < q.length), by rw [decide_eq_true_iff]⟩
 have hB : AllX (qmEnv p q hf w.heap.size 0 0) (qmB0 a b) := by
  intro x hx
  unfold qmB0 at hx
  rcases List.mem_append.1 hx with hx | hx
  ·simp only [List.mem_cons, List.not_mem_nil, or_false] at hx
   rcases hx with rfl | rfl | rfl | rfl | rfl | rfl | rfl
   ·rfl
   ·rfl
   ·show p.length ≤ 10000
    omega
   ·show false = true ↔ ((p.length : Nat) : Int) + 0 < ((0 : Nat) : Int) + 0
    exact ⟨fun h => (by cases h), fun h => by omega⟩
   ·show a = true ↔ ((0 : Nat) : Int) + 0 < ((p.length : Nat) : Int) + 0
    rw [ha]; omega
   ·show false = true ↔ ((q.length : Nat) : Int) + 0 < ((0 : Nat) : Int) + 0
    exact ⟨fun h => (by cases h), fun h => by omega⟩
   ·show b = true ↔ ((0 : Nat) : Int) + 0 < ((q.length : Nat) : Int) + 0
    rw [hb]; omega
  ·cases hab : (a && b) with
   | false => rw [hab] at hx; simp at hx
   | true =>
    rw [hab] at hx
    simp only [Bool.and_eq_true] at hab
    have h1 := ha.1 hab.1
    have h2 := hb.1 hab.2
    simp only [cond_true, List.mem_cons, List.not_mem_nil, or_false] at hx
    rcases hx with rfl | rfl | rfl
    ·show p.length + q.length - 1 ≤ 10000
     omega
    ·show (((p.length : Nat) : Int) + 0) + (((q.length : Nat) : Int) + 0) = ((p.length + q.length - 1 : Nat) : Int) + 1 ∧ p.length + q.length - 1 ≤ 10000
     exact ⟨by omega, by omega⟩
    ·show false = true ↔ ((p.length + q.length - 1 : Nat) : Int) + 0 < ((0 : Nat) : Int) + 0
     exact ⟨fun h => (by cases h), fun h => by omega⟩
 cases hab : (a && b) with
 | false =>
  refine (tells_calls (lsFits hA hB) (lsSumsW_ok hA) (qm_runF a b hab) rfl glob_few hh hG hT (Nat.le_refl _) (.none rfl)).mono ?_
  rintro e w' ⟨v', rfl, h1, hbl⟩
  have h1' : v' = .slice none 0 0 := h1
  subst h1'
  refine ⟨_, rfl, ?_, hbl⟩
  have hn : p.length = 0 ∨ q.length = 0 := by
   rcases Nat.eq_zero_or_pos p.length with h | h
   ·exact .inl h
   ·rcases Nat.eq_zero_or_pos q.length with h' | h'
    ·exact .inr h'
    ·rw [ha.2 h, hb.2 h'] at hab; cases hab
  rw [pd_none hn]
  exact newOl_nil
 | true =>
  have hab' := hab
  simp only [Bool.and_eq_true] at hab'
  have h1 := ha.1 hab'.1
  have h2 := hb.1 hab'.2
  obtain rfl := hab'.1
  obtain rfl := hab'.2
  refine (tells_calls (lsFits hA hB) (lsSumsW_ok hA) qm_runT rfl glob_few hh hG hT (Nat.le_refl _) (qm_all hf w.heap.size h1 h2 hp9 hq9)).mono ?_
  rintro e w' ⟨v', rfl, h3, hbl⟩
  exact ⟨v', rfl, newOl_of (ρ := qmEnv p q hf w.heap.size 0 0) rfl h3 rfl (fun z hz => by
   cases hz
   show (((pd p q).length : Nat) : Int) = ((p.length + q.length - 1 : Nat) : Int) + 0
   rw [pd_len h1 h2]; omega), hbl⟩
noncomputable def qaF : Nat := 58
noncomputable def qrF : Nat := 82
noncomputable def qaT : List Nat := [7, 0, 1, 2, 16, 17]
noncomputable def qaS (l : Le) (i : Sl Sy) : List (Sl Sy) := [.ow (.ol 1 l (some (5, 0))), .p (.func (.func 89) #[] #[]), .f (.ls 1 0), .f (.ls 1 3), .f (.ix 5 0), i]
noncomputable def qaB1 (a b : Bool) : List Ix := [.ln 0 1, .ln 3 2, .ln 1 4, .bd 4, .lt 4 0 5 0 true, .lt 4 0 1 0 a, .lt 4 0 2 0 b] ++ (cond a [.el 0 4 0 (.v 102)] [] ++ cond b [.el 3 4 0 (.v 103)] [])
noncomputable def qaA1 (a b : Bool) : List As := cond a (cond b [] [⟨1, .v 103, z0, true⟩]) [⟨1, .v 102, z0, true⟩]
set_option maxHeartbeats 4000000 in
theorem qa_round (a b : Bool) (h : (a || b) = true) : roundT Try.prog (lsCfg false (qaA1 a b) (qaB1 a b) noJ) (lsClW false (qaA1 a b) (qaB1 a b) 20) 34 20 eqSy qaT (qaS (.v 1) (.f (.ix 4 0))) (qaS (.snoc (.v 1) (.add (.v 102) (.v 103))) (.f (.ix 4 1))) (loopOf qrF 0) = true := by cases a <;> cases b <;> first | (cases h; done) | kernel_rfl
noncomputable def uqSl (x : Sy) : List (Sl Sy) := [.ow (.ol 1 (.v 8) (some (5, 0))), .f x]
noncomputable def uqB1 : List Ix := [.ln 8 5, .bd 7, .lt 0 0 7 0 true, .lt 7 (-1) 0 0 false, .lt 7 (-1) 5 0 true, .el 8 7 (-1) (.v 109)]
noncomputable def uqA1 : List As := [⟨1, .v 109, z0, true⟩]
set_option maxHeartbeats 4000000 in
theorem uq_round : roundT Try.prog (lsCfg false uqA1 uqB1 noJ) (lsClW false uqA1 uqB1 20) 22 20 eqSy trTm (uqSl (.ix 7 0)) (uqSl (.ix 7 (-1))) (loopOf trF 0) = true := by kernel_rfl
noncomputable def uqJ : Jmps := fun f _ => cond (Nat.beq f trF) (some (jumpM eqSy 22 trTm (uqSl (.ix 5 0)) (uqSl (.ix 6 0)))) none
noncomputable def qaJ : Jmps := fun f x => cond (Nat.beq f qrF) (some (jumpM eqSy 34 qaT (qaS .nil (.p (.int .i64 0))) (qaS (.v 8) (.f (.ix 5 0))))) (uqJ f x)
noncomputable def uqA0 (p s : Bool) : List As := cond p [⟨1, .v 104, z0, false⟩, ⟨3, .v 104, z0, s⟩] []
noncomputable def uqB0 (p : Bool) : List Ix := cond p [.bd 5, .ln 8 5, .lt 5 0 6 0 false, .lt 0 0 6 0 true, .lt 6 (-1) 0 0 false, .lt 6 (-1) 5 0 true, .el 8 6 (-1) (.v 104), .bd 6] [.bd 5, .ln 8 5, .lt 5 0 6 0 false, .lt 0 0 6 0 false, .bd 6]
noncomputable def qaB0 (p : Bool) : List Ix := .ln 0 1 :: .ln 3 2 :: .bi 3 1 0 2 0 5 0 :: uqB0 p
set_option maxHeartbeats 4000000 in
theorem qa_run (p s : Bool) : tells [.ls 1 0, .ls 1 3] [.one, .one] (call Try.prog (lsCfg false (uqA0 p s) (qaB0 p) qaJ) (lsSumsW (uqA0 p s)) 20 qaF) = some (.one (.one (.ow (.ol 1 (.take (.v 8) 6 0) none)))) := by cases p <;> cases s <;> kernel_rfl
theorem qr_one : ∃ fn c, (Try.prog).funcs[qrF]? = some fn ∧ fn.body = some c ∧ fn.ntmps = 34 ∧ loopsIn c = [loopOf qrF 0] := ⟨_, _, rfl, rfl, rfl, rfl⟩
end Ev
end Go.Proofs.Ytnlhjcfpfapafaa
