/- Contracts. -/
import Derived.Test.YtnlhjcfpfapafaaEBq21
import Derived.Test.YtnlhjcfpfapafaaEBq19
import Derived.Test.YtnlhjcfpfapafaaEBq26
namespace Go.Proofs.Ytnlhjcfpfapafaa
open Go Go.RowKit
namespace Ev
section
variable {F : Type} {S : Sig F}
theorem mod_old {r : Ren} {g : Nat → Option (Blk F)} {w : World} {nx b : Nat} {c c' : List Value} {t : TypeId} (hM : Mod S r g w) (hN : r.blk nx = none ∧ r.val nx = none) (hb : w.heap[b]? = some (.cells ⟨c'⟩ t (0, 0))) (hc : VsR r c c') (ht : S.hid b t = false) (hno : ∀ n, r.blk n ≠ some b) :
  r.le ⟨fun n => if n = nx then some b else r.blk n, r.val, r.len⟩ ∧ Mod S ⟨fun n => if n = nx then some b else r.blk n, r.val, r.len⟩ (fun n => if n = nx then some (.cells c t) else g n) w := by
 have hle : r.le ⟨fun n => if n = nx then some b else r.blk n, r.val, r.len⟩ := by
  refine ⟨fun n a e => ?_, fun _ _ e => e, fun _ _ _ => rfl⟩
  have : n ≠ nx := fun h => by rw [h, hN.1] at e; cases e
  simp only [if_neg this, e]
 refine ⟨hle, ⟨fun n m a h1 h2 => ?_, fun n a h1 => ?_, fun n d s h1 => ?_, fun n f h1 => ?_, hM.base, fun n hn => hle.blk _ _ (hM.glob n hn), fun n a h1 hn => ?_, fun n d s h1 => ?_, hM.sz, hM.lp.mono hle (fun n s h1 => ?_) (fun _ _ h => h), hM.ow.mono hle (fun n f h1 => ?_) (fun _ _ _ _ h _ => h), fun n m x h1 => ?_⟩⟩
 ·try simp only at h1 h2
  split at h1 <;> split at h2
  ·rename_i e1 e2; exact .inl (e1.trans e2.symm)
  ·cases h1; exact absurd h2 (hno m)
  ·cases h2; exact absurd h1 (hno n)
  ·rename_i e1 e2
   refine (hM.inj n m a h1 h2).imp id (Or.imp (fun k => ?_) (fun k => ?_))
   ·exact ⟨fun c t => by simpa only [if_neg e1] using k.1 c t, fun c t => by simpa only [if_neg e1] using k.2.1 c t, fun s => by simpa only [if_neg e1] using k.2.2.1 s, fun f => by simpa only [if_neg e1] using k.2.2.2 f⟩
   ·exact ⟨fun c t => by simpa only [if_neg e2] using k.1 c t, fun c t => by simpa only [if_neg e2] using k.2.1 c t, fun s => by simpa only [if_neg e2] using k.2.2.1 s, fun f => by simpa only [if_neg e2] using k.2.2.2 f⟩
 ·try simp only at h1
  split at h1
  ·cases h1; exact (Array.getElem?_eq_some_iff.1 hb).1
  ·exact hM.lt n a h1
 ·try simp only at h1
  split at h1
  ·rename_i e; subst e
   cases h1
   exact ⟨b, c', if_pos rfl, hb, hc.mono hle, fun _ => ht⟩
  ·obtain ⟨b2, c2, k1, k2, k3, k4⟩ := hM.cells n d s h1
   exact ⟨b2, c2, hle.blk _ _ k1, k2, k3.mono hle, k4⟩
 ·try simp only at h1
  split at h1
  ·cases h1
  ·obtain ⟨v, k1, k2⟩ := hM.fact n f h1
   exact ⟨v, k1, k2⟩
 ·try simp only at h1
  split at h1
  ·cases h1
   rcases Nat.lt_or_ge b S.G with q | q
   ·exact absurd (hM.glob b q) (hno b)
   ·exact q
  ·exact hM.own n a h1 hn
 ·try simp only at h1
  split at h1
  ·cases h1
  ·obtain ⟨b2, c2, k1, k2, k3, k4, k5⟩ := hM.room n d s h1
   exact ⟨b2, c2, hle.blk _ _ k1, k2, k3.mono hle, k4, k5⟩
 ·try simp only at h1
  split at h1
  ·cases h1
  ·exact h1
 ·try simp only at h1
  split at h1
  ·cases h1
  ·exact h1
 ·try simp only at h1
  split at h1
  ·cases h1
  ·obtain ⟨b2, off, k1, k2, k3⟩ := hM.ad n m x h1
   exact ⟨b2, off, hle.blk _ _ k1, hle.val _ _ k2, k3⟩
structure BL (F : Type) where
 t : TypeId
 fs : List F
 ls : List Lay
noncomputable def vpt0 (i : Nat) : Value := .pointer (some ⟨i, 0, none⟩)
noncomputable def newBlks : List (BL F) → M F (List Value) := List.rec (motive := fun _ => M F (List Value)) (ret []) (fun x _ ih => bind (newFacts x.fs) fun vs => bind (fresh (.cells (split x.ls vs) x.t)) fun i => bind ih fun l => ret (vpt0 i :: l))
def BlksAre (S : Sig F) (w : World) : List (BL F) → List Nat → Prop
 | [], bs => bs = []
 | x :: l, bs => ∃ b bs', bs = b :: bs' ∧ (∃ us, HoldsL S w x.fs us ∧ w.heap[b]? = some (.cells ⟨split x.ls us⟩ x.t (0, 0))) ∧ b ∉ bs' ∧ S.G ≤ b ∧ BlksAre S w l bs'
noncomputable def okBL (hid : TypeId → Bool) (l : List (BL F)) : Bool := List.rec (motive := fun _ => Bool) true (fun x _ ih => plainLay x.ls && (!hid x.t && ih)) l
theorem loc_newBlks : ∀ l : List (BL F), Loc (newBlks l)
 | [] => loc_ret _
 | x :: l => loc_bind (loc_newFacts x.fs) fun _ => loc_bind (loc_fresh _) fun _ => loc_bind (loc_newBlks l) fun _ => loc_ret _
theorem newBlks_ok : ∀ (l : List (BL F)) {h h' : Tr (Blk F)} {nx nx' : Nat} {R W : List Nat} {vs : List Value} {r : Ren} {w : World} {bs : List Nat}, newBlks l h nx = .ok vs h' nx' R W → okBL (S.hn 0) l = true → (∀ b ∈ bs, ∀ t, S.hn 0 t = false → S.hid b t = false) → Mod S r h.get w → (∀ hi, New r nx hi) → BlksAre S w l bs → (∀ n b, r.blk n = some b → b ∉ bs) →
  W = [] ∧ nx ≤ nx' ∧ ∃ r', r.le r' ∧ Mod S r' h'.get w ∧ (∀ hi, New r' nx' hi) ∧ VsR r' vs (bs.map vpt0)
 | [], h, h', nx, nx', R, W, vs, r, w, bs, e, _, _, hM, hN, hB, hno => by
  obtain ⟨rfl, rfl, rfl, rfl⟩ := ret_ok (show (ret [] : M F _) h nx = _ from e)
  obtain rfl : bs = [] := hB
  exact ⟨rfl, Nat.le_refl _, r, .refl r, hM, hN, .nil⟩
 | x :: l, h, h', nx, nx', R, W, vs, r, w, bs, e, hok, hh, hM, hN, hB, hno => by
  obtain ⟨b, bs', rfl, ⟨us, hu, hb⟩, hnb, hG, hB'⟩ := hB
  have hok' : (plainLay x.ls && (!S.hn 0 x.t && okBL (S.hn 0) l)) = true := hok
  simp only [Bool.and_eq_true] at hok'
  obtain ⟨ho1, ho2, ho3⟩ := hok'
  have ht : S.hid b x.t = false := hh b List.mem_cons_self _ (by simpa using ho2)
  obtain ⟨us0, h1, nx1, R1, W1, R2, W2, e1, e2, rfl, rfl⟩ := bind_ok (show bind (newFacts x.fs) (fun vs => bind (fresh (.cells (split x.ls vs) x.t)) fun i => bind (newBlks l) fun l => ret (vpt0 i :: l)) h nx = _ from e)
  have hW1 := newFacts_W _ e1
  subst hW1
  obtain ⟨i, h2, nx2, R3, W3, R4, W4, e3, e4, rfl, rfl⟩ := bind_ok e2
  unfold fresh at e3
  cases e3
  obtain ⟨ps, h5, nx5, R5, W5, R6, W6, e5, e6, rfl, rfl⟩ := bind_ok e4
  obtain ⟨rfl, rfl, rfl, rfl⟩ := ret_ok e6
  obtain ⟨hle1, r1, hX, hvs⟩ := newFacts_ok x.fs e1 hM (hN _) hu
  have hN1 : ∀ hi, New r1 nx1 hi := fun hi => New.after (hN hi) hX hle1
  have hno1 : ∀ n c, r1.blk n = some c → c ∉ b :: bs' := fun n c hc => by
   rcases hX.new n c hc with h | h | ⟨_, h, _⟩
   ·exact hno n c h
   ·have := hX.mod.lt n c hc
    omega
   ·cases h
  obtain ⟨hle2, hM2⟩ := mod_old hX.mod (hN1 (nx1 + 1) nx1 (Nat.le_refl _) (Nat.lt_succ_self _)) hb (split_ok ho1 hvs) ht fun n hn => hno1 n b hn (List.mem_cons_self)
  have hM2' := Mod.congr (g' := (h1.set nx1 (.cells (split x.ls us0) x.t)).get) hM2 fun n => .inr (Tr.get_set _ _ _ _)
  obtain ⟨rfl, hle5, r5, hle, hM5, hN5, hps⟩ := newBlks_ok l e5 ho3 (fun b hb => hh b (List.mem_cons_of_mem _ hb)) hM2' (fun hi n a c => by
    have := hN1 hi n (by omega) c
    refine ⟨?_, this.2⟩
    show (if n = nx1 then some b else r1.blk n) = none
    rw [if_neg (by omega)]; exact this.1) hB' (fun n c hc => by
    simp only at hc
    split at hc
    ·cases hc; exact hnb
    ·exact fun hm => hno1 n c hc (List.mem_cons_of_mem _ hm))
  refine ⟨rfl, by omega, r5, (hX.le.trans hle2).trans hle, hM5, hN5, .cons (.ptr (hle.blk _ _ ?_)) hps⟩
  show (if nx1 = nx1 then some b else r1.blk nx1) = some b
  rw [if_pos rfl]
noncomputable def isPtr0 (v : Value) : Option Nat := match v with
 | .pointer a => match a with
  | some p => match p.off with
   | 0 => match p.spot with
    | none => some p.block
    | some _ => none
   | _ => none
  | none => none
 | _ => none
inductive E1 (F : Type) where
 | d (x : D2 F)
 | b (t : TypeId) (l : List (D1 F))
 | o (i : Nat)
inductive E3 (F : Type) where
 | one (e : E1 F)
 | agg (l : List (E1 F))
 | tuple (l : List (E1 F))
def E1.is (S : Sig F) (lo : Nat) (bs : List Nat) (w : World) : E1 F → Value → Prop
 | .d x, v => x.is S w v
 | .b t l, v => ∃ b vs, v = vpt0 b ∧ lo ≤ b ∧ w.heap[b]? = some (.cells ⟨vs⟩ t (0, 0)) ∧ D1.all S w l vs
 | .o i, v => ∃ b, bs[i]? = some b ∧ v = vpt0 b
def E1.all (S : Sig F) (lo : Nat) (bs : List Nat) (w : World) : List (E1 F) → List Value → Prop
 | [], l => l = []
 | e0 :: es, l => ∃ v vs, l = v :: vs ∧ e0.is S lo bs w v ∧ E1.all S lo bs w es vs
def E3.is (S : Sig F) (lo : Nat) (bs : List Nat) (w : World) : E3 F → Value → Prop
 | .one e, v => e.is S lo bs w v
 | .agg es, v => ∃ vs, v = .agg ⟨vs⟩ ∧ E1.all S lo bs w es vs
 | .tuple es, v => ∃ vs, v = .tuple ⟨vs⟩ ∧ E1.all S lo bs w es vs
noncomputable def whichB (n : Nat) (ps : List Value) : Option Nat := List.rec (motive := fun _ => Option Nat) none (fun p _ ih => match isPtr0 p with
 | some m => cond (Nat.beq m n) (some 0) (ih.map Nat.succ)
 | none => none) ps
noncomputable def seeE1 (h : Tr (Blk F)) (ps : List Value) (lo : Nat) (v : Value) : Option (E1 F) := match isPtr0 v with
 | some n => cond (Nat.ble lo n) (match h.get n with
  | some b => match b with
   | .cells c t => (seeL (see1 h) c).map fun l => .b t l
   | .fact _ => none
   | .room _ _ => none
   | .opq => none
   | .lp _ => none
   | .ow _ => none
   | .ad _ _ => none
  | none => none) ((whichB n ps).map .o)
 | none => (see2 h v).map .d
noncomputable def seeE (h : Tr (Blk F)) (ps : List Value) (lo : Nat) (v : Value) : Option (E3 F) := match v with
 | .tuple cs => (seeL (seeE1 h ps lo) cs.toList).map .tuple
 | .agg cs => (seeL (seeE1 h ps lo) cs.toList).map .agg
 | v => (seeE1 h ps lo v).map .one
theorem isPtr0_of {v : Value} {n : Nat} (e : isPtr0 v = some n) : v = vpt0 n := by
 cases v with
 | pointer a =>
  cases a with
  | none => cases (show (none : Option Nat) = some n from e)
  | some p =>
   obtain ⟨b, o, s⟩ := p
   cases o with
   | zero =>
    cases s with
    | none => cases (show some b = some n from e); rfl
    | some _ => cases (show (none : Option Nat) = some n from e)
   | succ _ => cases (show (none : Option Nat) = some n from e)
 | _ => cases (show (none : Option Nat) = some n from e)
theorem whichB_ok {r : Ren} {n : Nat} : ∀ {ps : List Value} {bs : List Nat} {i b : Nat}, whichB n ps = some i → VsR r ps (bs.map vpt0) → r.blk n = some b → bs[i]? = some b
 | [], _, i, b, e, _, _ => by cases (show (none : Option Nat) = some i from e)
 | p :: ps, bs, i, b, e, hv, hb => by
  have e' : (match isPtr0 p with
   | some m => cond (Nat.beq m n) (some 0) ((whichB n ps).map Nat.succ)
   | none => none) = some i := e
  cases bs with
  | nil => cases hv
  | cons c bs =>
   have hv' : VsR r (p :: ps) (vpt0 c :: bs.map vpt0) := hv
   cases hv' with
   | cons h1 h2 =>
    cases hp : isPtr0 p with
    | none => rw [hp] at e'; cases e'
    | some m =>
     rw [hp] at e'
     have := isPtr0_of hp
     subst this
     simp only at e'
     cases hm : Nat.beq m n with
     | true =>
      rw [hm] at e'
      cases e'
      have := Nat.eq_of_beq_eq_true hm
      subst this
      have h1' : VR r (vpt0 m) (vpt0 c) := h1
      unfold vpt0 at h1'
      cases h1' with
      | same p => simp [plain] at p
      | ptr hc =>
       rw [hb] at hc
       injection hc with hc
       subst hc
       rfl
     | false =>
      rw [hm] at e'
      obtain ⟨j, hj, rfl⟩ := Option.map_eq_some_iff.1 (show (whichB n ps).map Nat.succ = some i from e')
      have h3 : bs[j]? = some b := whichB_ok hj h2 hb
      simpa using h3
theorem seeE1_ok {h : Tr (Blk F)} {ps : List Value} {bs : List Nat} {lo L : Nat} {r : Ren} {w : World} {v v' : Value} {d : E1 F} (e : seeE1 h ps lo v = some d) (hM : Mod S r h.get w) (hv : VR r v v') (hps : VsR r ps (bs.map vpt0)) (hL : ∀ n b, lo ≤ n → r.blk n = some b → L ≤ b) : d.is S L bs w v' := by
 unfold seeE1 at e
 cases hp : isPtr0 v with
 | none =>
  rw [hp] at e
  obtain ⟨x, hx, rfl⟩ := Option.map_eq_some_iff.1 e
  exact see2_ok hx hM hv
 | some n =>
  rw [hp] at e
  have := isPtr0_of hp
  subst this
  simp only at e
  have hptr : ∃ b, r.blk n = some b ∧ v' = vpt0 b := by
   unfold vpt0 at hv
   cases hv with
   | same p => simp [plain] at p
   | ptr hb => exact ⟨_, hb, rfl⟩
  obtain ⟨b0, hb0, rfl⟩ := hptr
  cases hl : Nat.ble lo n with
  | false =>
   rw [hl] at e
   obtain ⟨i, hi, rfl⟩ := Option.map_eq_some_iff.1 (show (whichB n ps).map E1.o = some d from e)
   exact ⟨b0, whichB_ok hi hps hb0, rfl⟩
  | true =>
   rw [hl] at e
   simp only [cond_true] at e
   cases hg : h.get n with
   | none => rw [hg] at e; cases e
   | some b =>
    rw [hg] at e
    cases b with
    | fact _ => cases e
    | room _ _ => cases e
    | opq => cases e
    | lp _ => cases e
    | ow _ => cases e
    | ad _ _ => cases e
    | cells c t =>
     obtain ⟨l, hl2, rfl⟩ := Option.map_eq_some_iff.1 e
     obtain ⟨b, c', h1, h2, h3, _⟩ := hM.cells n c t hg
     rw [h1] at hb0
     injection hb0 with hb0
     subst hb0
     exact ⟨b, c', rfl, hL n b (Nat.le_of_ble_eq_true hl) h1, h2, seeL1_ok hl2 hM h3⟩
theorem seeLE_ok {h : Tr (Blk F)} {ps : List Value} {bs : List Nat} {lo L : Nat} {r : Ren} {w : World} : ∀ {l l' : List Value} {ds : List (E1 F)}, seeL (seeE1 h ps lo) l = some ds → Mod S r h.get w → VsR r l l' → VsR r ps (bs.map vpt0) → (∀ n b, lo ≤ n → r.blk n = some b → L ≤ b) → E1.all S L bs w ds l'
 | [], _, ds, e, hM, hv, _, _ => by
  cases hv
  cases (show some [] = some ds from e)
  rfl
 | v :: l, _, ds, e, hM, hv, hps, hL => by
  have e' : consO (seeE1 h ps lo v) (seeL (seeE1 h ps lo) l) = some ds := e
  unfold consO at e'
  cases hv with
  | cons ha hb =>
   cases h1 : seeE1 h ps lo v with
   | none => rw [h1] at e'; cases e'
   | some d =>
    rw [h1] at e'
    cases h2 : seeL (seeE1 h ps lo) l with
    | none => rw [h2] at e'; cases e'
    | some ds2 =>
     rw [h2] at e'
     cases e'
     exact ⟨_, _, rfl, seeE1_ok h1 hM ha hps hL, seeLE_ok h2 hM hb hps hL⟩
theorem seeE_ok {h : Tr (Blk F)} {ps : List Value} {bs : List Nat} {lo L : Nat} {r : Ren} {w : World} {v v' : Value} {d : E3 F} (e : seeE h ps lo v = some d) (hM : Mod S r h.get w) (hv : VR r v v') (hps : VsR r ps (bs.map vpt0)) (hL : ∀ n b, lo ≤ n → r.blk n = some b → L ≤ b) : d.is S L bs w v' := by
 unfold seeE at e
 cases v with
 | tuple cs =>
  obtain ⟨l⟩ := cs
  simp only at e
  obtain ⟨ds, h1, rfl⟩ := Option.map_eq_some_iff.1 e
  cases hv with
  | same p => simp [plain] at p
  | tuple hl => exact ⟨_, rfl, seeLE_ok h1 hM hl hps hL⟩
 | agg cs =>
  obtain ⟨l⟩ := cs
  simp only at e
  obtain ⟨ds, h1, rfl⟩ := Option.map_eq_some_iff.1 e
  obtain ⟨l', rfl, hl⟩ := vr_agg hv
  exact ⟨_, rfl, seeLE_ok h1 hM hl hps hL⟩
 | _ =>
  simp only at e
  obtain ⟨d1, h1, rfl⟩ := Option.map_eq_some_iff.1 e
  exact seeE1_ok h1 hM hv hps hL
noncomputable def tellsB (bl : List (BL F)) (fs : List F) (mk : List Value → List Value → List Value) (m : List Value → M F Value) : Option (E3 F) := match newBlks bl .nil 100000 with
 | .no => none
 | .ok ps h0 nx0 _ _ => match newFacts fs h0 nx0 with
  | .no => none
  | .ok vs h1 nx1 _ _ => match m (mk ps vs) h1 nx1 with
   | .no => none
   | .ok a h2 _ _ W => cond (geAll nx1 W) (seeE h2 ps nx1 a) none
theorem blksAre_ge {w : World} : ∀ {l : List (BL F)} {bs : List Nat}, BlksAre S w l bs → ∀ b ∈ bs, S.G ≤ b
 | [], bs, h, b, hb => by
  obtain rfl : bs = [] := h
  cases hb
 | x :: l, bs, h, b, hb => by
  obtain ⟨b0, bs', rfl, _, _, hG, h'⟩ := h
  rcases List.mem_cons.1 hb with rfl | hb
  ·exact hG
  ·exact blksAre_ge h' b hb
theorem tellsB_calls {P : Program} {C : Cfg F} [HardLoc C] {sum : Sums F} {n : Nat} {f : FuncId} {bl : List (BL F)} {fs : List F} {mk : List Value → List Value → List Value} {d : E3 F} (hF : Fits S P C) (hs : SumOK S P sum)
  (e : tellsB bl fs mk (call P C sum n f) = some d) (ha : ∀ r ps qs vs us, VsR r ps qs → VsR r vs us → VsR r (mk ps vs) (mk qs us)) (hok : okBL (S.hn 0) bl = true) (hx : S.G ≤ 100000)
  {w : World} {bs : List Nat} {us : List Value} (hB : BlksAre S w bl bs) (hu : HoldsL S w fs us) (hG : S.G ≤ w.heap.size) (hb : S.base w) (hhid : ∀ b ∈ bs, ∀ t, S.hn 0 t = false → S.hid b t = false := by exact fun _ _ _ h => h) (hlo : S.lo ≤ w.heap.size := by exact Nat.zero_le _) (hJ : JmpAll S P C := by exact .none rfl) :
  Calls P f ⟨mk (bs.map vpt0) us⟩ w fun e w' => ∃ v', e = .returned v' ∧ d.is S w.heap.size bs w' v' ∧ Below w.heap.size w w' := by
 unfold tellsB at e
 cases h0 : newBlks bl .nil 100000 with
 | no => rw [h0] at e; cases e
 | ok ps hh0 nx0 R0 W0 =>
 rw [h0] at e
 simp only at e
 cases h1 : newFacts fs hh0 nx0 with
 | no => rw [h1] at e; cases e
 | ok vs hh nx1 R1 W1 =>
  rw [h1] at e
  simp only at e
  cases h2 : call P C sum n f (mk ps vs) hh nx1 with
  | no => rw [h2] at e; cases e
  | ok a h3 nx2 R W =>
   rw [h2] at e
   simp only at e
   cases hc : geAll nx1 W with
   | false => rw [hc] at e; cases e
   | true =>
    rw [hc] at e
    simp only [cond_true] at e
    have hW := geAll_ok hc
    have hW1 := newFacts_W fs h1
    subst hW1
    have hg : (Tr.get (.nil : Tr (Blk F))) = fun _ => none := funext fun k => Tr.get_nil k
    have hN0 : ∀ m, New (ren0 S.G) 100000 m := fun m k h1 _ => ⟨if_neg (by omega), rfl⟩
    obtain ⟨rfl, hle0, r0, hler, hM0, hNr, hps⟩ := newBlks_ok bl h0 hok hhid (by rw [hg]; exact mod0 hG hb hlo) hN0 hB (fun k b hk hm => by
     have := blksAre_ge hB b hm
     by_cases hk2 : k < S.G
     ·rw [show (ren0 S.G).blk k = some k from if_pos hk2] at hk
      injection hk with hk; omega
     ·rw [show (ren0 S.G).blk k = none from if_neg hk2] at hk; cases hk)
    obtain ⟨hle, r1, hX, hvs⟩ := newFacts_ok fs h1 hM0 (hNr nx1) hu
    have hcl := call_ok hF hs n hJ
    have hfr0 : Fr hh0 nx0 := ((loc_newBlks bl).2 _ _ _ _ _ _ _ h0 (fun k _ => Tr.get_nil k)).fr
    have hfr : Fr hh nx1 := ((loc_newFacts fs).2 _ _ _ _ _ _ _ h1 hfr0).fr
    have hrun := Run.self (hcl.loc f _) h2 hfr
    have hN : ∀ hi, New r1 nx1 hi := fun hi => New.after (hNr hi) hX hle
    refine (hcl.run f _ _ _ _ _ _ _ _ hrun r1 w _ (ha _ _ _ _ _ (hps.mono hX.le) hvs) hX.mod (hN nx2)).mono ?_
    rintro en w' ⟨v', r', rfl, hv, hY⟩
    have hnone : ∀ k, nx1 ≤ k → r1.blk k = none := fun k hk => (hN (k + 1) k hk (Nat.lt_succ_self k)).1
    refine ⟨v', rfl, seeE_ok e hY.mod hv ((hps.mono hX.le).mono hY.le) (fun k b hk hb' => ?_), hY.os, hY.tape, hY.output, hY.size, fun b hb' => ?_⟩
    ·rcases hY.new k b hb' with h5 | h5 | ⟨m, hm, h5⟩
     ·rw [hnone k hk] at h5; cases h5
     ·exact h5
     ·rw [hnone m (hW m hm)] at h5; cases h5
    ·have hbo : w.heap[b]? = some w.heap[b] := Array.getElem?_eq_getElem hb'
     rw [hbo]
     refine hY.keep b _ hbo fun k hk he => ?_
     rw [hnone k (hW k hk)] at he
     cases he
end
set_option maxRecDepth 100000
theorem cmpQ_sgn (x y : Rat) : Big.cmpQ x y = sgQ (x - y) := by
 unfold Big.cmpQ sgQ
 have hng : Big.ng (x - y) = decide ((x - y).num < 0) := rfl
 have hnu : Big.nu (x - y) = (x - y).num.natAbs := rfl
 rw [hng, hnu]
 have hle : 0 ≤ (x - y).num ↔ y ≤ x := by rw [Rat.num_nonneg]; exact (Rat.le_iff_sub_nonneg y x).symm
 by_cases h1 : x < y
 ·have : ¬ y ≤ x := Rat.not_le.2 h1
  have h0 : ¬ 0 ≤ (x - y).num := fun h => this (hle.1 h)
  rw [if_pos h1, if_pos (decide_eq_true (by omega))]
 ·have h2 : y ≤ x := Rat.not_lt.1 h1
  have h3 := hle.2 h2
  have h4 : ¬ (decide ((x - y).num < 0) = true) := fun hd => by have := of_decide_eq_true hd; omega
  rw [if_neg h1, if_neg h4]
  by_cases e : x = y
  ·subst e
   rw [if_pos rfl, Rat.sub_self]; rfl
  ·rw [if_neg e, if_neg]
   intro hz
   have h5 : (x - y).num = 0 := by omega
   have h6 := Rat.num_eq_zero.1 h5
   apply e
   have h7 : x - y + y = x := by rw [Rat.sub_eq_add_neg, Rat.add_assoc, Rat.neg_add_cancel, Rat.add_zero]
   rw [← h7, h6, Rat.zero_add]
set_option maxRecDepth 100000
noncomputable def ecmpK (A : List As) (x y : Qe) : M Sy Value := match signB A (.sub x y) with
 | some z => ret (.int .i64 z)
 | none => fail
noncomputable def ecmpS (A : List As) : Nat × (List Value → Option (M Sy Value)) := (37, fun args => num2 args (ecmpK A))
theorem ecmpS_ok {ρ : Env} {A : List As} (hA : AllH ρ A) : SumF (symSig ρ) Try.prog (ecmpS A).1 (ecmpS A).2 :=
 num2_ok (fun _ _ => by
  unfold ecmpK
  split
  ·exact loc_ret _
  ·exact loc_fail) fun x y h nx v h' nx' R W e r w a b ha hb sa sb hk hM hN => by
  unfold ecmpK at e
  cases hz : signB A (.sub x y) with
  | none => rw [hz] at e; cases (show (fail : M Sy Value) _ _ = _ from e)
  | some z =>
   rw [hz] at e
   have hzz := signB_ok hA hz
   have c := exCmp_any w a b _ _ _ ha hb sa sb hk
   rw [cmpQ_sgn] at c
   rw [show sgQ (x.ev ρ.q - y.ev ρ.q) = z from hzz.symm] at c
   exact goes_pl (show (ret (.int .i64 z) : M Sy Value) _ _ = .ok v h' nx' _ _ from e) rfl hM c
noncomputable def enSums (A : List As) : Sums Sy := sumsOf (mkTab (ecmpS A :: symList A))
theorem enSums_ok {ρ : Env} {A : List As} (hA : AllH ρ A) : SumOK (symSig ρ) Try.prog (enSums A) := sumsOf_ok fun x hx => by
 rcases List.mem_cons.1 hx with rfl | hx
 ·exact ecmpS_ok hA
 ·exact symList_ok hA x hx
noncomputable def esF : Nat := 68
noncomputable def esA (eq lt : Bool) : List As := [⟨1, .sub (.v 2) (.v 8), z0, eq⟩, ⟨3, .sub (.v 2) (.v 8), z0, lt⟩]
noncomputable def esB : List Ix := [.ln 0 1, .bd 2, .lt 2 0 1 0 true, .el 0 2 0 (.v 2)]
noncomputable def esBl : List (BL Sy) := [⟨35, [.ls 1 0], [.one]⟩, ⟨70, [.ng (.v 8), .nu (.v 8), .de (.v 8)], [.one, .one, .one]⟩]
noncomputable def esMk (ps vs : List Value) : List Value := vs ++ ps
noncomputable def esRun (eq lt : Bool) : Option (E3 Sy) := tellsB esBl [.ix 2 0] esMk (call Try.prog (lsCfg false (esA eq lt) esB noJ) (enSums (esA eq lt)) 20 esF)
set_option maxHeartbeats 4000000 in
theorem es_run (eq lt : Bool) (h : (eq && lt) = false) : esRun eq lt = some (.one (.d (.one (.p (.bool !lt))))) := by cases eq <;> cases lt <;> first | (cases h; done) | kernel_rfl
def esQ (a x : Rat) : Nat → Rat
 | 2 => a
 | 8 => x
 | _ => 0
theorem esQ_fit {a x : Rat} (ha : Fit a) (hx : Fit x) (i : Nat) : Fit (esQ a x i) := by
 unfold esQ
 split
 ·exact ha
 ·exact hx
 ·exact fit00
def esNat (n k : Nat) : Nat → Nat
 | 1 => n
 | 2 => k
 | _ => 0
def esLst (qs : List Rat) : Nat → List Rat
 | 0 => qs
 | _ => []
def esEnv (qs : List Rat) (a x : Rat) (ha : Fit a) (hx : Fit x) (k lo : Nat) : Env := ⟨esQ a x, fun _ => (false, ⟨#[]⟩, ⟨#[]⟩), fun i _ => esQ_fit ha hx i, fun i => (esQ_fit ha hx i).sm.up (by decide), fun _ => bad_zero, lo, esLst qs, esNat qs.length k, rfl⟩
def LsLo (lo K : Nat) (w : World) (v : Value) (qs : List Rat) : Prop := ∃ a m, v = .slice a qs.length m ∧ qs.length ≤ m ∧ (qs ≠ [] → ∃ b off cl t z, a = some ⟨b, off, none⟩ ∧ b < lo ∧ w.heap[b]? = some (.cells ⟨cl⟩ t z) ∧ RowAt K w cl off qs)
theorem Below.rowAt {w w' : World} (hb : Below w.heap.size w w') {K off : Nat} {cl : List Value} {qs : List Rat} (h : RowAt K w cl off qs) : RowAt K w' cl off qs := h.stable fun b c t z h1 _ => (hb.block b (Array.getElem?_eq_some_iff.1 h1).1).trans h1
theorem LsLo.keep {lo K : Nat} {w w' : World} {v : Value} {qs : List Rat} (h : LsLo lo K w v qs) (hb : Below w.heap.size w w') : LsLo lo K w' v qs := by
 obtain ⟨a, m, h1, h2, h3⟩ := h
 exact ⟨a, m, h1, h2, fun hp => by
  obtain ⟨b, off, cl, t, z, k1, k2, k3, k4⟩ := h3 hp
  exact ⟨b, off, cl, t, z, k1, k2, (hb.block b (Array.getElem?_eq_some_iff.1 k3).1).trans k3, Below.rowAt hb k4⟩⟩
theorem closure_any (w : World) {qs : List Rat} {x : Rat} (hq : ∀ y ∈ qs, Fit y) (hx : Fit x) (hl : qs.length ≤ 10000) {b3 b5 lo : Nat} {v : Value} {cl : List Value} (l3 : lo ≤ b3) (l5 : lo ≤ b5) (h3 : w.heap[b3]? = some (.cells ⟨[v]⟩ 35 (0, 0))) (hv : LsLo lo 1 w v qs)
  (h5 : w.heap[b5]? = some (.cells ⟨cl⟩ 70 (0, 0))) (hc : NumIn w (.agg ⟨cl⟩) x) (g3 : Try.prog.globals.size ≤ b3) (g5 : Try.prog.globals.size ≤ b5) {i : Nat} (hi : i < qs.length) (hG : Try.prog.globals.size ≤ w.heap.size) (hT : natSig.base w) :
  Calls Try.prog esF ⟨[.int .i64 (i : Int), vpt0 b3, vpt0 b5]⟩ w fun e w' => e = .returned (.bool (!decide (qs.getD i 0 < x))) ∧ Below w.heap.size w w' := by
 have hne : b3 ≠ b5 := by
  intro q
  subst q
  rw [h3] at h5
  simp only [Option.some.injEq, Obj.cells.injEq] at h5
  exact absurd h5.2.1 (by decide)
 have ha := getD_fit hq i
 let E := esEnv qs (qs.getD i 0) x ha hx i lo
 obtain ⟨eq, heq⟩ : ∃ b : Bool, b = true ↔ qs.getD i 0 - x = 0 := ⟨decide (qs.getD i 0 - x = 0), by rw [decide_eq_true_iff]⟩
 have hlt : Big.ng (qs.getD i 0 - x) = decide (qs.getD i 0 < x) := by
  rw [Bool.eq_iff_iff, decide_eq_true_iff]
  unfold Big.ng
  rw [decide_eq_true_iff, ← Int.not_le, Rat.num_nonneg, Rat.not_le]
  constructor
  ·intro h; grind
  ·intro h; grind
 have hA : AllH E (esA eq (Big.ng (qs.getD i 0 - x))) := fun y hy => by
  simp only [esA, List.mem_cons, List.not_mem_nil, or_false] at hy
  rcases hy with rfl | rfl
  ·exact heq
  ·rfl
 have hB : AllX E esB := fun y hy => by
  simp only [esB, List.mem_cons, List.not_mem_nil, or_false] at hy
  rcases hy with rfl | rfl | rfl | rfl
  ·rfl
  ·show i ≤ 10000
   omega
  ·show true = true ↔ ((i : Nat) : Int) + 0 < ((qs.length : Nat) : Int) + 0
   exact ⟨fun _ => by omega, fun _ => rfl⟩
  ·refine ⟨i, ?_, ?_⟩
   ·show ((i : Nat) : Int) = ((i : Nat) : Int) + 0
    omega
   ·show qs[i]? = some (qs.getD i 0)
    rw [List.getD_eq_getElem?_getD, List.getElem?_eq_getElem hi]; rfl
 have hel : (eq && Big.ng (qs.getD i 0 - x)) = false := by
  cases he : eq with
  | false => rfl
  | true =>
   have := heq.1 he
   rw [this]; rfl
 obtain ⟨us, hus, hh⟩ := num_holds (ρ := E) (e := .v 8) (w := w) hc
 have hbl : BlksAre (symSig E) w esBl [b3, b5] := by
  refine ⟨b3, [b5], rfl, ⟨[v], ⟨_, _, rfl, hv, by obtain ⟨a, m, rfl, _⟩ := hv; rfl, rfl⟩, h3⟩, by simpa using hne, g3, b5, [], rfl, ⟨us, hh, ?_⟩, by simp, g5, rfl⟩
  have hcl : cl = us := by
   have := congrArg (fun v : Value => match v with | .agg a => a.toList | _ => []) hus
   simpa using this
  rw [h5, hcl]
  obtain ⟨u1, l1, rfl, _, _, u2, l2, rfl, _, _, u3, l3, rfl, _, _, rfl⟩ := hh
  rfl
 have hu : HoldsL (symSig E) w [.ix 2 0] [.int .i64 (i : Int)] := ⟨_, _, rfl, by
  show Value.int .i64 ((i : Nat) : Int) = .int .i64 (((i : Nat) : Int) + 0)
  rw [Int.add_zero], rfl, rfl⟩
 refine (tellsB_calls (lsFits hA hB) (enSums_ok hA) (es_run eq _ hel) (fun r ps qs vs us h1 h2 => h2.append h1) (by kernel_rfl) glob_few hbl hu hG hT (fun b hb t h => ?_) (Nat.le_trans l3 (Nat.le_of_lt (Array.getElem?_eq_some_iff.1 h3).1)) (.none rfl)).mono ?_
 ·have hlo : lo ≤ b := by
   simp only [List.mem_cons, List.not_mem_nil, or_false] at hb
   rcases hb with rfl | rfl
   ·exact l3
   ·exact l5
  show (Nat.blt b lo || symHid t) = false
  have h' : symHid t = false := h
  rw [h', Bool.or_false]
  cases hq : Nat.blt b lo with
  | false => rfl
  | true => have := Nat.le_of_ble_eq_true hq; omega
 rintro e w' ⟨v', rfl, h1, hb⟩
 have h1' : v' = .bool (!Big.ng (qs.getD i 0 - x)) := h1
 rw [hlt] at h1'
 exact ⟨by rw [h1'], hb⟩
set_option maxRecDepth 100000
noncomputable def isFnE (f : Fn) : Bool := match f with
 | .func g => Nat.beq g esF
 | _ => false
theorem isFnE_ok {f : Fn} (h : isFnE f = true) : f = .func esF := by
 cases f <;> first | (cases (show false = true from h); done) | skip
 rw [Nat.eq_of_beq_eq_true (show Nat.beq _ esF = true from h)]
noncomputable def isIxE (a : Nat) (f : Sy) : Bool := match f with
 | .ix b s => Nat.beq b a && eqI s 0
 | _ => false
theorem isIxE_ok {a : Nat} {f : Sy} (h : isIxE a f = true) : f = .ix a 0 := by
 cases f <;> first | (cases (show false = true from h); done) | skip
 have h' := Bool.and_eq_true_iff.1 (show (Nat.beq _ a && eqI _ 0) = true from h)
 rw [Nat.eq_of_beq_eq_true h'.1, eqI_ok h'.2]
noncomputable def isLsE (K c : Nat) (f : Sy) : Bool := match f with
 | .ls k d => Nat.beq k K && Nat.beq d c
 | _ => false
theorem isLsE_ok {K c : Nat} {f : Sy} (h : isLsE K c f = true) : f = .ls K c := by
 cases f <;> first | (cases (show false = true from h); done) | skip
 have h' := Bool.and_eq_true_iff.1 (show (Nat.beq _ K && Nat.beq _ c) = true from h)
 rw [Nat.eq_of_beq_eq_true h'.1, Nat.eq_of_beq_eq_true h'.2]
noncomputable def boxL (n : Nat) : M Sy Unit := bind (rd n) fun y => match y with
 | .cells c t => match c with
  | [v] => bind (fact v) fun z => cond (Nat.beq t 35 && isLsE 1 0 z) (ret ()) fail
  | _ => fail
 | _ => fail
noncomputable def boxX (n : Nat) : M Sy Unit := bind (rd n) fun y => match y with
 | .cells c t => bind (numV (.agg ⟨c⟩)) fun q => cond (Nat.beq t 70 && q.beq (.v 8)) (ret ()) fail
 | _ => fail
theorem loc_boxL (n : Nat) : Loc (boxL n) := loc_bind (loc_rd _) fun y => by
 (repeat' split) <;> first | exact loc_fail | exact loc_bind (loc_fact _) fun _ => loc_cond (loc_ret _) loc_fail
theorem loc_boxX (n : Nat) : Loc (boxX n) := loc_bind (loc_rd _) fun y => by
 (repeat' split) <;> first | exact loc_fail | exact loc_bind (loc_numV _) fun _ => loc_cond (loc_ret _) loc_fail
section
variable {ρ : Env} {h h' : Tr (Blk Sy)} {nx nx' : Nat} {R W : List Nat} {r : Ren} {w : World} {u : Unit}
theorem lo_of {b : Nat} {t : TypeId} (hd : (symSig ρ).hid b t = false) : ρ.lo ≤ b := by
 have hd' : (Nat.blt b ρ.lo || (ρ.fz.t t || symHid t)) = false := hd
 rw [Bool.or_eq_false_iff] at hd'
 replace hd' := hd'.1
 apply Nat.le_of_not_lt
 intro q
 have : Nat.blt b ρ.lo = true := Nat.ble_eq_true_of_le q
 rw [hd'] at this; cases this
theorem boxL_ok {n b : Nat} (e : boxL n h nx = .ok u h' nx' R W) (hM : Mod (symSig ρ) r h.get w) (hb : r.blk n = some b) (hf0 : Pl ρ) : h' = h ∧ nx' = nx ∧ W = [] ∧ ρ.lo ≤ b ∧ ∃ v, w.heap[b]? = some (.cells ⟨[v]⟩ 35 (0, 0)) ∧ LsLo ρ.lo 1 w v (ρ.lst 0) := by
 obtain ⟨y, h1, nx1, R1, W1, R2, W2, e1, e2, rfl, rfl⟩ := bind_ok e
 obtain ⟨hg, rfl, rfl, rfl⟩ := rdb_ok e1
 cases y <;> first | (cases (show (fail : M Sy Unit) _ _ = _ from e2); done) | skip
 rename_i c t
 rcases c with _ | ⟨v, _ | ⟨v2, c⟩⟩ <;> first | (cases (show (fail : M Sy Unit) _ _ = _ from e2); done) | skip
 obtain ⟨z, h3, nx3, R3, W3, R4, W4, e3, e4, rfl, rfl⟩ := bind_ok e2
 obtain ⟨b', c', k1, k2, k3, k4⟩ := hM.cells n _ _ hg
 rw [hb] at k1
 cases k1
 cases k3 with
 | cons k5 k6 =>
  cases k6
  obtain ⟨rfl, rfl, rfl, hf⟩ := fact_ok e3 k5 hM
  obtain ⟨hk, e5⟩ := cond_ok e4
  obtain ⟨_, rfl, rfl, rfl⟩ := ret_ok e5
  simp only [Bool.and_eq_true] at hk
  have ht := Nat.eq_of_beq_eq_true hk.1
  subst ht
  rw [isLsE_ok hk.2] at hf
  exact ⟨rfl, rfl, rfl, lo_of (k4 (show (ρ.fz.t _ || symHid _) = false from by rw [hf0]; kernel_rfl)), _, k2, hf⟩
theorem boxX_ok {n b : Nat} (e : boxX n h nx = .ok u h' nx' R W) (hM : Mod (symSig ρ) r h.get w) (hb : r.blk n = some b) (hf0 : Pl ρ) : h' = h ∧ nx' = nx ∧ W = [] ∧ ρ.lo ≤ b ∧ ∃ cl, w.heap[b]? = some (.cells ⟨cl⟩ 70 (0, 0)) ∧ NumIn w (.agg ⟨cl⟩) (ρ.q 8) := by
 obtain ⟨y, h1, nx1, R1, W1, R2, W2, e1, e2, rfl, rfl⟩ := bind_ok e
 obtain ⟨hg, rfl, rfl, rfl⟩ := rdb_ok e1
 cases y <;> first | (cases (show (fail : M Sy Unit) _ _ = _ from e2); done) | skip
 rename_i c t
 obtain ⟨q, h3, nx3, R3, W3, R4, W4, e3, e4, rfl, rfl⟩ := bind_ok e2
 obtain ⟨b', c', k1, k2, k3, k4⟩ := hM.cells n _ _ hg
 rw [hb] at k1
 cases k1
 obtain ⟨rfl, rfl, rfl, hn⟩ := numV_ok e3 (.agg k3) hM
 obtain ⟨hk, e5⟩ := cond_ok e4
 obtain ⟨_, rfl, rfl, rfl⟩ := ret_ok e5
 simp only [Bool.and_eq_true] at hk
 have ht := Nat.eq_of_beq_eq_true hk.1
 subst ht
 rw [Qe.beq_ok _ _ hk.2] at hn
 exact ⟨rfl, rfl, rfl, lo_of (k4 (show (ρ.fz.t _ || symHid _) = false from by rw [hf0]; kernel_rfl)), _, k2, hn⟩
end
theorem search_lst (w : World) {qs : List Rat} {x : Rat} (hq : ∀ y ∈ qs, Fit y) (hx : Fit x) (hl : qs.length ≤ 10000) {b3 b5 lo c : Nat} {v : Value} {cl : List Value} (l3 : lo ≤ b3) (l5 : lo ≤ b5) (h3 : w.heap[b3]? = some (.cells ⟨[v]⟩ 35 (0, 0))) (hv : LsLo lo 1 w v qs)
  (h5 : w.heap[b5]? = some (.cells ⟨cl⟩ 70 (0, 0))) (hc : NumIn w (.agg ⟨cl⟩) x) (g3 : Try.prog.globals.size ≤ b3) (g5 : Try.prog.globals.size ≤ b5) (h6 : c ≤ qs.length) (hb : ∀ t, t < c → qs.getD t 0 < x) (ha : ∀ t, c ≤ t → t < qs.length → ¬ qs.getD t 0 < x) (hG : Try.prog.globals.size ≤ w.heap.size) (hT : natSig.base w) :
  Calls Try.prog 67 ⟨[.int .i64 ((qs.length : Nat) : Int), .func (.func esF) ⟨[]⟩ ⟨[vpt0 b3, vpt0 b5]⟩]⟩ w fun e w' => e = .returned (.int .i64 (c : Int)) ∧ Below w.heap.size w w' := by
 refine search_any w ⟨[vpt0 b3, vpt0 b5]⟩ qs.length c (fun i => !decide (qs.getD i 0 < x)) hl (fun W' i hbW hi => ?_) h6 (fun t ht => ?_) (fun t h1 h2 => ?_)
 ·have k3 := (hbW.block b3 (Array.getElem?_eq_some_iff.1 h3).1).trans h3
  have k5 := (hbW.block b5 (Array.getElem?_eq_some_iff.1 h5).1).trans h5
  have c0 := closure_any W' hq hx hl l3 l5 k3 (hv.keep hbW) k5 (hc.keep hbW) g3 g5 hi (Nat.le_trans hG hbW.size) (natSig.baseS w W' hT fun b o hb ho => (hbW.block b (Nat.lt_of_lt_of_le hb hG)).trans ho)
  have e0 : (#[.int .i64 (i : Int)] : Array Value) ++ ⟨[vpt0 b3, vpt0 b5]⟩ = ⟨[.int .i64 (i : Int), vpt0 b3, vpt0 b5]⟩ := by simp
  rw [e0]
  exact Calls.mono c0 fun e W2 hh => ⟨hh.1, hbW.trans (hh.2.mono hbW.size)⟩
 ·rw [decide_eq_true (hb t ht)]; rfl
 ·rw [decide_eq_false (ha t h1 h2)]; rfl
theorem vr_clo {r : Ren} {fn : Fn} {n k : Nat} {v' : Value} (h : VR r (.func fn ⟨[]⟩ ⟨[vpt0 n, vpt0 k]⟩) v') : ∃ b3 b5, r.blk n = some b3 ∧ r.blk k = some b5 ∧ v' = .func fn ⟨[]⟩ ⟨[vpt0 b3, vpt0 b5]⟩ := by
 cases h with
 | same p => simp [plain] at p
 | func z1 z2 =>
  cases z1
  cases z2 with
  | cons z3 z4 => cases z4 with
   | cons z5 z6 =>
    cases z6
    unfold vpt0 at z3 z5
    cases z3 with
    | same p => simp [plain] at p
    | ptr y3 => cases z5 with
     | same p => simp [plain] at p
     | ptr y5 => exact ⟨_, _, y3, y5, rfl⟩
noncomputable def srcS : Nat × (List Value → Option (M Sy Value)) := (67, fun args => match args with
 | [a, f] => match f with
  | .func fn first cap => match first.toList with
   | [] => match cap.toList with
    | [p, q] => match isPtr0 p with
     | some n => match isPtr0 q with
      | some m => some (bind (fact a) fun x => bind (boxL n) fun _ => bind (boxX m) fun _ => cond (isFnE fn && (isIxE 1 x && (Nat.ble 100000 n && Nat.ble 100000 m))) (newFact (.ix 6 0)) fail)
      | none => none
     | none => none
    | _ => none
   | _ => none
  | _ => none
 | _ => none)
theorem srcS_ok {ρ : Env} (hq : ∀ y ∈ ρ.lst 0, Fit y) (hx : Fit (ρ.q 8)) (hl : (ρ.lst 0).length ≤ 10000) (h1 : ρ.nat 1 = (ρ.lst 0).length) (h6 : ρ.nat 6 ≤ (ρ.lst 0).length) (hb : ∀ t, t < ρ.nat 6 → (ρ.lst 0).getD t 0 < ρ.q 8) (ha : ∀ t, ρ.nat 6 ≤ t → t < (ρ.lst 0).length → ¬ (ρ.lst 0).getD t 0 < ρ.q 8) (hf0 : Pl ρ := by rfl) :
  SumF (symSig ρ) Try.prog srcS.1 srcS.2 := by
 intro args m e
 rcases args with _ | ⟨a, _ | ⟨f, _ | ⟨z, l⟩⟩⟩ <;> first | (cases (show none = some m from e); done) | skip
 cases f <;> first | (cases (show none = some m from e); done) | skip
 rename_i fn first cap
 obtain ⟨first⟩ := first
 obtain ⟨cap⟩ := cap
 rcases first with _ | ⟨f1, first⟩ <;> first | (cases (show none = some m from e); done) | skip
 rcases cap with _ | ⟨p, _ | ⟨q, _ | ⟨q2, cap⟩⟩⟩ <;> first | (cases (show none = some m from e); done) | skip
 cases hp : isPtr0 p with
 | none => simp only [srcS, hp] at e; cases e
 | some n =>
  cases hq2 : isPtr0 q with
  | none => simp only [srcS, hp, hq2] at e; cases e
  | some k =>
   simp only [srcS, hp, hq2, Option.some.injEq] at e
   subst e
   have e1 := isPtr0_of hp
   have e2 := isPtr0_of hq2
   subst e1 e2
   refine ⟨loc_bind (loc_fact _) fun _ => loc_bind (loc_boxL _) fun _ => loc_bind (loc_boxX _) fun _ => loc_cond (loc_newFact _) loc_fail, fun h nx v h' nx' R W e r w args' hv hM hN => ?_⟩
   cases hv with
   | cons v1 hv => cases hv with
    | cons v2 hv =>
     cases hv
     obtain ⟨x, g1, nx1, R1, W1, R2, W2, e1, e2, rfl, rfl⟩ := bind_ok e
     obtain ⟨rfl, rfl, rfl, hf⟩ := fact_ok e1 v1 hM
     obtain ⟨_, g3, nx3, R3, W3, R4, W4, e3, e4, rfl, rfl⟩ := bind_ok e2
     obtain ⟨_, g5, nx5, R5, W5, R6, W6, e5, e6, rfl, rfl⟩ := bind_ok e4
     obtain ⟨b3, b5, hb3, hb5, rfl⟩ := vr_clo v2
     obtain ⟨rfl, rfl, rfl, l3, v3, c3, d3⟩ := boxL_ok e3 hM hb3 hf0
     obtain ⟨rfl, rfl, rfl, l5, cl5, c5, d5⟩ := boxX_ok e5 hM hb5 hf0
     obtain ⟨hk, e7⟩ := cond_ok e6
     simp only [Bool.and_eq_true] at hk
     obtain ⟨k1, k2, k3, k4⟩ := hk
     have hfn := isFnE_ok k1
     subst hfn
     rw [isIxE_ok k2] at hf
     have hf' : _ = Value.int .i64 (((ρ.nat 1 : Nat) : Int) + 0) := hf
     rw [Int.add_zero, h1] at hf'
     subst hf'
     have hgl : (symSig ρ).G ≤ 100000 := glob_few
     have g3' : Try.prog.globals.size ≤ b3 := hM.own n b3 hb3 (Nat.le_trans hgl (Nat.le_of_ble_eq_true k3))
     have g5' : Try.prog.globals.size ≤ b5 := hM.own k b5 hb5 (Nat.le_trans hgl (Nat.le_of_ble_eq_true k4))
     simp only [List.nil_append]
     have hG : Try.prog.globals.size ≤ w.heap.size := hM.fits
     have cS := search_lst w hq hx hl l3 l5 c3 d3 c5 d5 g3' g5' h6 hb ha hG hM.base
     obtain ⟨i9, q1, nq1, Rq, Wq, Rq2, Wq2, f1, f2, rfl, rfl⟩ := bind_ok e7
     obtain ⟨rfl, rfl, rfl, rfl⟩ := ret_ok f2
     unfold fresh at f1
     cases f1
     refine Calls.mono cS ?_
     rintro en w' ⟨rfl, hbb⟩
     have hh : (Sy.ix 6 0).holds ρ w' (.int .i64 ((ρ.nat 6 : Nat) : Int)) := by
      show Value.int .i64 ((ρ.nat 6 : Nat) : Int) = .int .i64 (((ρ.nat 6 : Nat) : Int) + 0)
      rw [Int.add_zero]
     obtain ⟨r', hX, hr⟩ := ext_fact (S := symSig ρ) (f := .ix 6 0) hM hbb hN hh rfl
     exact ⟨_, r', rfl, .opq hr rfl, by simpa using hX.congr fun n => .inr (Tr.get_set _ _ _ _)⟩
set_option maxRecDepth 100000
noncomputable def stF : Nat := 36
noncomputable def stD : Qe := .sub (.v 2) (.v 8)
noncomputable def stE : Qe := .add (.v 5) (.quo (.mul (.sub (.v 3) (.v 5)) (.sub (.v 8) (.v 4))) (.sub (.v 2) (.v 4)))
noncomputable def stSums (A : List As) : Sums Sy := sumsOf (mkTab (srcS :: ecmpS A :: symList A))
noncomputable def stB (k : Nat) : List Ix := [.ln 0 1, .ln 3 1, .bd 1, .bd 6, .lt 1 0 6 0 false] ++ (match k with
 | 0 => [.lt 6 0 1 0 false]
 | 1 => [.lt 6 0 1 0 true, .el 0 6 0 (.v 2), .el 3 6 0 (.v 3)]
 | 2 => [.lt 6 0 1 0 true, .el 0 6 0 (.v 2), .el 3 6 0 (.v 3), .lt 6 0 0 0 false, .lt 0 0 6 0 false]
 | _ => [.lt 6 0 1 0 true, .el 0 6 0 (.v 2), .el 3 6 0 (.v 3), .lt 6 0 0 0 false, .lt 0 0 6 0 true, .lt 6 (-1) 0 0 false, .lt 6 (-1) 1 0 true, .el 0 6 (-1) (.v 4), .el 3 6 (-1) (.v 5)])
noncomputable def stA (k : Nat) : List As := match k with
 | 0 => []
 | 1 => [⟨1, stD, z0, true⟩]
 | 2 => [⟨1, stD, z0, false⟩, ⟨3, stD, z0, false⟩]
 | _ => [⟨1, stD, z0, false⟩, ⟨3, stD, z0, false⟩, ⟨1, .sub (.v 2) (.v 4), z0, false⟩]
noncomputable def stRun (k : Nat) : Option (D3 Sy) := tells [.ls 1 0, .ls 1 3, .ng (.v 8), .nu (.v 8), .de (.v 8)] [.one, .one, .agg 3] (call Try.prog (lsCfg false (stA k) (stB k) noJ) (stSums (stA k)) 30 stF)
noncomputable def stNo : D3 Sy := .tuple [.agg [.p (.bool false), .p (.slice none 0 0), .p (.slice none 0 0)], .one (.p (.bool false))]
noncomputable def stYes (e : Qe) : D3 Sy := .tuple [.agg [.f (.ng e), .f (.nu e), .f (.de e)], .one (.p (.bool true))]
set_option maxHeartbeats 4000000 in
theorem st_runs : stRun 0 = some stNo ∧ stRun 1 = some (stYes (.v 3)) ∧ stRun 2 = some stNo ∧ stRun 3 = some (stYes stE) := ⟨by kernel_rfl, by kernel_rfl, by kernel_rfl, by kernel_rfl⟩
def stQ (qs rs : List Rat) (x : Rat) (c : Nat) : Nat → Rat
 | 2 => qs.getD c 0
 | 3 => rs.getD c 0
 | 4 => qs.getD (c - 1) 0
 | 5 => rs.getD (c - 1) 0
 | 8 => x
 | _ => 0
theorem stQ_fit {qs rs : List Rat} {x : Rat} (hq : ∀ y ∈ qs, Fit y) (hr : ∀ y ∈ rs, Fit y) (hx : Fit x) (c i : Nat) : Fit (stQ qs rs x c i) := by
 unfold stQ
 split
 ·exact getD_fit hq _
 ·exact getD_fit hr _
 ·exact getD_fit hq _
 ·exact getD_fit hr _
 ·exact hx
 ·exact fit00
def stNat (n c : Nat) : Nat → Nat
 | 1 => n
 | 6 => c
 | _ => 0
def stLst (qs rs : List Rat) : Nat → List Rat
 | 0 => qs
 | 3 => rs
 | _ => []
def stEnv (qs rs : List Rat) (x : Rat) (hq : ∀ y ∈ qs, Fit y) (hr : ∀ y ∈ rs, Fit y) (hx : Fit x) (c lo : Nat) : Env := ⟨stQ qs rs x c, fun _ => (false, ⟨#[]⟩, ⟨#[]⟩), fun i _ => stQ_fit hq hr hx c i, fun i => (stQ_fit hq hr hx c i).sm.up (by decide), fun _ => bad_zero, lo, stLst qs rs, stNat qs.length c, rfl⟩
def linAt (qs rs : List Rat) (x : Rat) (c : Nat) : Option Rat :=
 if c = qs.length then none else if qs.getD c 0 = x then some (rs.getD c 0) else if c = 0 then none
 else some (rs.getD (c - 1) 0 + (rs.getD c 0 - rs.getD (c - 1) 0) * (x - qs.getD (c - 1) 0) / (qs.getD c 0 - qs.getD (c - 1) 0))
def StRes (o : Option Rat) (e : Ending) (w' : World) : Prop := match o with
 | none => e = .returned (.tuple ⟨[.agg ⟨[.bool false, .slice none 0 0, .slice none 0 0]⟩, .bool false]⟩)
 | some y => ∃ z, e = .returned (.tuple ⟨[z, .bool true]⟩) ∧ NumIn w' z y
theorem straight_any (w : World) {qs rs : List Rat} {x : Rat} (hq : ∀ y ∈ qs, Fit y) (hr : ∀ y ∈ rs, Fit y) (hx : Fit x) (hl : qs.length ≤ 10000) (hlr : rs.length = qs.length) {c : Nat} (h6 : c ≤ qs.length) (hb : ∀ t, t < c → qs.getD t 0 < x) (ha : ∀ t, c ≤ t → t < qs.length → ¬ qs.getD t 0 < x)
  {v u z : Value} (hv : LsIn 1 w v qs) (hu : LsIn 1 w u rs) (hz : NumIn w z x) (hG : Try.prog.globals.size ≤ w.heap.size) (hT : natSig.base w) :
  Calls Try.prog stF ⟨[v, u, z]⟩ w fun e w' => StRes (linAt qs rs x c) e w' ∧ Below w.heap.size w w' := by
 let E := stEnv qs rs x hq hr hx c w.heap.size
 obtain ⟨us, rfl, hh⟩ := num_holds (ρ := E) (e := .v 8) (w := w) hz
 have hin : HoldsL (symSig E) w [.ls 1 0, .ls 1 3, .ng (.v 8), .nu (.v 8), .de (.v 8)] (v :: u :: us) := ⟨_, _, rfl, LsIn.ls hv rfl, by obtain ⟨a, m, rfl, _⟩ := hv; rfl, _, _, rfl, LsIn.ls hu rfl, by obtain ⟨a, m, rfl, _⟩ := hu; rfl, hh⟩
 have h3 : us.length = 3 := by
  obtain ⟨u1, l1, rfl, _, _, u2, l2, rfl, _, _, u3, l3, rfl, _, _, rfl⟩ := hh
  rfl
 have hS : ∀ A, AllH E A → SumOK (symSig E) Try.prog (stSums A) := fun A hA => sumsOf_ok fun y hy => by
  rcases List.mem_cons.1 hy with rfl | hy
  ·exact srcS_ok (ρ := E) hq hx hl rfl h6 hb ha
  rcases List.mem_cons.1 hy with rfl | hy
  ·exact ecmpS_ok hA
  ·exact symList_ok hA y hy
 have hB0 : ∀ y ∈ ([.ln 0 1, .ln 3 1, .bd 1, .bd 6, .lt 1 0 6 0 false] : List Ix), y.holds E := fun y hy => by
  simp only [List.mem_cons, List.not_mem_nil, or_false] at hy
  rcases hy with rfl | rfl | rfl | rfl | rfl
  ·rfl
  ·exact hlr
  ·exact hl
  ·show c ≤ 10000
   omega
  ·show false = true ↔ ((qs.length : Nat) : Int) + 0 < ((c : Nat) : Int) + 0
   exact ⟨fun h => (by cases h), fun h => by omega⟩
 have hlt : c < qs.length → ∀ y ∈ ([.lt 6 0 1 0 true, .el 0 6 0 (.v 2), .el 3 6 0 (.v 3)] : List Ix), y.holds E := fun hc y hy => by
  simp only [List.mem_cons, List.not_mem_nil, or_false] at hy
  rcases hy with rfl | rfl | rfl
  ·show true = true ↔ ((c : Nat) : Int) + 0 < ((qs.length : Nat) : Int) + 0
   exact ⟨fun _ => by omega, fun _ => rfl⟩
  ·refine ⟨c, (Int.add_zero _).symm, ?_⟩
   show qs[c]? = some (qs.getD c 0)
   rw [List.getD_eq_getElem?_getD, List.getElem?_eq_getElem hc]; rfl
  ·refine ⟨c, (Int.add_zero _).symm, ?_⟩
   show rs[c]? = some (rs.getD c 0)
   rw [List.getD_eq_getElem?_getD, List.getElem?_eq_getElem (by omega)]; rfl
 have run : ∀ {k : Nat} {d : D3 Sy} {Q : Ending → World → Prop}, AllH E (stA k) → AllX E (stB k) → stRun k = some d → (∀ w' v', d.is (symSig E) w' v' → Q (.returned v') w') → Calls Try.prog stF ⟨[v, u, .agg ⟨us⟩]⟩ w fun e w' => Q e w' ∧ Below w.heap.size w w' := fun {k d Q} hA hB hr hd => by
  have c0 := tells_calls (lsFits hA hB) (hS _ hA) hr rfl glob_few hin hG hT (Nat.le_refl _) (.none rfl)
  have e0 : split [.one, .one, .agg 3] (v :: u :: us) = [v, u, .agg ⟨us⟩] := by
   show [v, u, .agg ⟨us.take 3⟩] = _
   rw [List.take_of_length_le (by omega)]
  rw [e0] at c0
  refine c0.mono ?_
  rintro e w' ⟨v', rfl, h1, hb⟩
  exact ⟨hd w' v' h1, hb⟩
 have no : ∀ w' v', stNo.is (symSig E) w' v' → StRes none (.returned v') w' := fun w' v' h => by
  obtain ⟨vs, rfl, a, l1, rfl, ⟨us, rfl, a1, m1, rfl, k1, a2, m2, rfl, k2, a3, m3, rfl, k3, rfl⟩, u2, l2, rfl, h2, rfl⟩ := h
  have k1' : a1 = .bool false := k1
  have k2' : a2 = .slice none 0 0 := k2
  have k3' : a3 = .slice none 0 0 := k3
  have h2' : u2 = .bool false := h2
  subst k1' k2' k3' h2'
  rfl
 have yes : ∀ (e : Qe) w' v', (stYes e).is (symSig E) w' v' → StRes (some (e.ev E.q)) (.returned v') w' := fun e w' v' h => by
  obtain ⟨vs, rfl, a, l1, rfl, ⟨us, rfl, a1, m1, rfl, k1, a2, m2, rfl, k2, a3, m3, rfl, k3, rfl⟩, u2, l2, rfl, h2, rfl⟩ := h
  have k1' : a1 = .bool (Big.ng (e.ev E.q)) := k1
  have h2' : u2 = .bool true := h2
  subst k1' h2'
  exact ⟨_, rfl, ⟨a2, a3, rfl, k2, k3⟩⟩
 by_cases hcn : c = qs.length
 ·have e0 : linAt qs rs x c = none := by unfold linAt; rw [if_pos hcn]
  rw [e0]
  refine run (k := 0) (fun y hy => by simp [stA] at hy) (fun y hy => ?_) st_runs.1 no
  rcases List.mem_append.1 hy with hy | hy
  ·exact hB0 y hy
  ·obtain rfl := List.mem_singleton.1 hy
   show false = true ↔ ((c : Nat) : Int) + 0 < ((qs.length : Nat) : Int) + 0
   exact ⟨fun h => (by cases h), fun h => by omega⟩
 have hc : c < qs.length := by omega
 by_cases he : qs.getD c 0 = x
 ·have e0 : linAt qs rs x c = some (rs.getD c 0) := by unfold linAt; rw [if_neg hcn, if_pos he]
  rw [e0]
  refine run (k := 1) (fun y hy => ?_) (fun y hy => ?_) st_runs.2.1 (yes (.v 3))
  ·obtain rfl := List.mem_singleton.1 hy
   show true = true ↔ qs.getD c 0 - x = 0
   exact ⟨fun _ => by rw [he]; grind, fun _ => rfl⟩
  ·rcases List.mem_append.1 hy with hy | hy
   ·exact hB0 y hy
   ·exact hlt hc y hy
 have hgt : x < qs.getD c 0 := by
  have h1 := ha c (Nat.le_refl _) hc
  grind
 have hA2 : ∀ y ∈ ([⟨1, stD, z0, false⟩, ⟨3, stD, z0, false⟩] : List As), y.holds E.q := fun y hy => by
  simp only [List.mem_cons, List.not_mem_nil, or_false] at hy
  rcases hy with rfl | rfl
  ·show false = true ↔ qs.getD c 0 - x = 0
   exact ⟨fun h => (by cases h), fun h => absurd (show qs.getD c 0 = x by grind) he⟩
  ·show false = Big.ng (qs.getD c 0 - x)
   unfold Big.ng
   symm
   rw [decide_eq_false_iff_not, Int.not_lt, Rat.num_nonneg]
   grind
 by_cases h0 : c = 0
 ·have e0 : linAt qs rs x c = none := by unfold linAt; rw [if_neg hcn, if_neg he, if_pos h0]
  rw [e0]
  refine run (k := 2) hA2 (fun y hy => ?_) st_runs.2.2.1 no
  rcases List.mem_append.1 hy with hy | hy
  ·exact hB0 y hy
  ·rcases List.mem_append.1 (show y ∈ ([.lt 6 0 1 0 true, .el 0 6 0 (.v 2), .el 3 6 0 (.v 3)] : List Ix) ++ [.lt 6 0 0 0 false, .lt 0 0 6 0 false] from hy) with hy | hy
   ·exact hlt hc y hy
   ·simp only [List.mem_cons, List.not_mem_nil, or_false] at hy
    rcases hy with rfl | rfl
    ·show false = true ↔ ((c : Nat) : Int) + 0 < ((0 : Nat) : Int) + 0
     exact ⟨fun h => (by cases h), fun h => by omega⟩
    ·show false = true ↔ ((0 : Nat) : Int) + 0 < ((c : Nat) : Int) + 0
     exact ⟨fun h => (by cases h), fun h => by omega⟩
 ·have e0 : linAt qs rs x c = some (stE.ev E.q) := by unfold linAt; rw [if_neg hcn, if_neg he, if_neg h0]; rfl
  rw [e0]
  have hlow := hb (c - 1) (by omega)
  refine run (k := 3) (fun y hy => ?_) (fun y hy => ?_) st_runs.2.2.2 (yes stE)
  ·rcases List.mem_append.1 (show y ∈ ([⟨1, stD, z0, false⟩, ⟨3, stD, z0, false⟩] : List As) ++ [⟨1, .sub (.v 2) (.v 4), z0, false⟩] from hy) with hy | hy
   ·exact hA2 y hy
   ·obtain rfl := List.mem_singleton.1 hy
    show false = true ↔ qs.getD c 0 - qs.getD (c - 1) 0 = 0
    exact ⟨fun h => (by cases h), fun h => by grind⟩
  ·rcases List.mem_append.1 hy with hy | hy
   ·exact hB0 y hy
   ·rcases List.mem_append.1 (show y ∈ ([.lt 6 0 1 0 true, .el 0 6 0 (.v 2), .el 3 6 0 (.v 3)] : List Ix) ++ [.lt 6 0 0 0 false, .lt 0 0 6 0 true, .lt 6 (-1) 0 0 false, .lt 6 (-1) 1 0 true, .el 0 6 (-1) (.v 4), .el 3 6 (-1) (.v 5)] from hy) with hy | hy
    ·exact hlt hc y hy
    ·simp only [List.mem_cons, List.not_mem_nil, or_false] at hy
     rcases hy with rfl | rfl | rfl | rfl | rfl | rfl
     ·show false = true ↔ ((c : Nat) : Int) + 0 < ((0 : Nat) : Int) + 0
      exact ⟨fun h => (by cases h), fun h => by omega⟩
     ·show true = true ↔ ((0 : Nat) : Int) + 0 < ((c : Nat) : Int) + 0
      exact ⟨fun _ => by omega, fun _ => rfl⟩
     ·show false = true ↔ ((c : Nat) : Int) + (-1) < ((0 : Nat) : Int) + 0
      exact ⟨fun h => (by cases h), fun h => by omega⟩
     ·show true = true ↔ ((c : Nat) : Int) + (-1) < ((qs.length : Nat) : Int) + 0
      exact ⟨fun _ => by omega, fun _ => rfl⟩
     ·refine ⟨c - 1, ?_, ?_⟩
      ·show ((c - 1 : Nat) : Int) = ((c : Nat) : Int) + (-1)
       omega
      ·show qs[c - 1]? = some (qs.getD (c - 1) 0)
       rw [List.getD_eq_getElem?_getD, List.getElem?_eq_getElem (by omega)]; rfl
     ·refine ⟨c - 1, ?_, ?_⟩
      ·show ((c - 1 : Nat) : Int) = ((c : Nat) : Int) + (-1)
       omega
      ·show rs[c - 1]? = some (rs.getD (c - 1) 0)
       rw [List.getD_eq_getElem?_getD, List.getElem?_eq_getElem (by omega)]; rfl
set_option maxRecDepth 100000
section
variable {qs : List Rat} (hq : ∀ q ∈ qs, Fit q) (lo : Nat)
end
set_option maxRecDepth 100000
noncomputable def isLe (y : Nat × Le) (K c : Nat) : Bool := Nat.beq y.1 K && y.2.beq (.v c)
theorem isLe_ok {y : Nat × Le} {K c : Nat} (h : isLe y K c = true) : y = (K, .v c) := by
 obtain ⟨a, l⟩ := y
 have h' := Bool.and_eq_true_iff.1 (show (Nat.beq a K && l.beq (.v c)) = true from h)
 rw [Nat.eq_of_beq_eq_true h'.1, Le.beq_ok _ _ h'.2]
section
variable {ρ : Env} {B : List Ix}
end
end Ev
end Go.Proofs.Ytnlhjcfpfapafaa
