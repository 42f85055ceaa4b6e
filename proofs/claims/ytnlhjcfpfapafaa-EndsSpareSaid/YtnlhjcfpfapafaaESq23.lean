/- Contracts. -/
import Derived.Test.YtnlhjcfpfapafaaESq22
import Derived.Test.YtnlhjcfpfapafaaESq21
namespace Go.Proofs.Ytnlhjcfpfapafaa
open Go Go.RowKit
namespace Ev
inductive D1 (F : Type) where
 | p (v : Value)
 | f (x : F)
 | ow (x : F)
inductive D2 (F : Type) where
 | one (d : D1 F)
 | agg (l : List (D1 F))
inductive D3 (F : Type) where
 | one (d : D2 F)
 | tuple (l : List (D2 F))
section
variable {F : Type}
def D1.is (S : Sig F) (w : World) : D1 F → Value → Prop
 | .p u, v => v = u
 | .f x, v => S.holds x w v
 | .ow x, v => S.ow x w v ∧ isOne v = true ∧ ∀ b, blkV v = some b → S.G ≤ b ∧ ∃ c t z, w.heap[b]? = some (.cells c t z) ∧ S.hid b t = false
def D1.all (S : Sig F) (w : World) : List (D1 F) → List Value → Prop
 | [], l => l = []
 | d :: ds, l => ∃ v vs, l = v :: vs ∧ d.is S w v ∧ D1.all S w ds vs
def D2.is (S : Sig F) (w : World) : D2 F → Value → Prop
 | .one d, v => d.is S w v
 | .agg ds, v => ∃ vs, v = .agg ⟨vs⟩ ∧ D1.all S w ds vs
def D2.all (S : Sig F) (w : World) : List (D2 F) → List Value → Prop
 | [], l => l = []
 | d :: ds, l => ∃ v vs, l = v :: vs ∧ d.is S w v ∧ D2.all S w ds vs
def D3.is (S : Sig F) (w : World) : D3 F → Value → Prop
 | .one d, v => d.is S w v
 | .tuple ds, v => ∃ vs, v = .tuple ⟨vs⟩ ∧ D2.all S w ds vs
noncomputable def isChan : Value → Option Nat
 | .chan i => i
 | _ => none
noncomputable def see1 (h : Tr (Blk F)) (v : Value) : Option (D1 F) := match isChan v with
 | some i => match h.get i with
  | some b => match b with
   | .fact f => some (.f f)
   | .cells _ _ => none
   | .room _ _ => none
   | .opq => none
   | .lp _ => none
   | .ow f => some (.ow f)
   | .ad _ _ => none
  | none => none
 | none => cond (plain v) (some (.p v)) none
noncomputable def consO {α : Type} (a : Option α) (b : Option (List α)) : Option (List α) := match a with
 | some d => match b with
  | some ds => some (d :: ds)
  | none => none
 | none => none
noncomputable def seeL {α : Type} (s : Value → Option α) (l : List Value) : Option (List α) := List.rec (motive := fun _ => Option (List α)) (some []) (fun v _ ih => consO (s v) ih) l
noncomputable def see2 (h : Tr (Blk F)) (v : Value) : Option (D2 F) := match v with
 | .agg cs => (seeL (see1 h) cs.toList).map .agg
 | v => (see1 h v).map .one
noncomputable def see3 (h : Tr (Blk F)) (v : Value) : Option (D3 F) := match v with
 | .tuple cs => (seeL (see2 h) cs.toList).map .tuple
 | v => (see2 h v).map .one
variable {S : Sig F} {r : Ren} {h : Tr (Blk F)} {w : World}
theorem isChan_of {v : Value} {i : Nat} (e : isChan v = some i) : v = .chan (some i) := by
 cases v <;> simp [isChan] at e
 subst e; rfl
theorem see1_ok {v v' : Value} {d : D1 F} (e : see1 h v = some d) (hM : Mod S r h.get w) (hv : VR r v v') : d.is S w v' := by
 unfold see1 at e
 cases hc : isChan v with
 | none =>
  rw [hc] at e
  simp only at e
  cases hp : plain v with
  | false => rw [hp] at e; cases e
  | true =>
   rw [hp] at e
   cases e
   exact hv.eq_of_plain hp
 | some i =>
  rw [hc] at e
  have := isChan_of hc
  subst this
  simp only at e
  cases hg : h.get i with
  | none => rw [hg] at e; cases e
  | some b =>
   rw [hg] at e
   cases b with
   | cells _ _ => cases e
   | room _ _ => cases e
   | opq => cases e
   | lp _ => cases e
   | ad _ _ => cases e
   | ow f =>
    cases e
    obtain ⟨v0, hv0, hh, ho, hb⟩ := hM.ow _ _ hg
    cases hv with
    | same p => simp [plain] at p
    | opq hp _ => rw [hv0] at hp; injection hp with hp; subst hp; exact ⟨hh, ho, fun b q => (hb b q).2⟩
   | fact f =>
    cases e
    obtain ⟨v0, hv0, hh, ho⟩ := hM.fact _ _ hg
    cases hv with
    | same p => simp [plain] at p
    | opq hp _ => rw [hv0] at hp; injection hp with hp; subst hp; exact hh
theorem seeL1_ok : ∀ {l l' : List Value} {ds : List (D1 F)}, seeL (see1 h) l = some ds → Mod S r h.get w → VsR r l l' → D1.all S w ds l'
 | [], _, ds, e, hM, hv => by
  cases hv
  cases (show some [] = some ds from e)
  rfl
 | v :: l, _, ds, e, hM, hv => by
  have e' : consO (see1 h v) (seeL (see1 h) l) = some ds := e
  unfold consO at e'
  cases hv with
  | cons ha hb =>
   cases h1 : see1 h v with
   | none => rw [h1] at e'; cases e'
   | some d =>
    rw [h1] at e'
    cases h2 : seeL (see1 h) l with
    | none => rw [h2] at e'; cases e'
    | some ds2 =>
     rw [h2] at e'
     cases e'
     exact ⟨_, _, rfl, see1_ok h1 hM ha, seeL1_ok h2 hM hb⟩
theorem see2_ok {v v' : Value} {d : D2 F} (e : see2 h v = some d) (hM : Mod S r h.get w) (hv : VR r v v') : d.is S w v' := by
 unfold see2 at e
 cases v with
 | agg cs =>
  obtain ⟨l⟩ := cs
  simp only at e
  cases h1 : seeL (see1 h) l with
  | none => rw [h1] at e; cases e
  | some ds =>
   rw [h1] at e
   cases e
   obtain ⟨l', rfl, hl⟩ := vr_agg hv
   exact ⟨_, rfl, seeL1_ok h1 hM hl⟩
 | _ =>
  simp only at e
  obtain ⟨d1, h1, rfl⟩ := Option.map_eq_some_iff.1 e
  exact see1_ok h1 hM hv
theorem seeL2_ok : ∀ {l l' : List Value} {ds : List (D2 F)}, seeL (see2 h) l = some ds → Mod S r h.get w → VsR r l l' → D2.all S w ds l'
 | [], _, ds, e, hM, hv => by
  cases hv
  cases (show some [] = some ds from e)
  rfl
 | v :: l, _, ds, e, hM, hv => by
  have e' : consO (see2 h v) (seeL (see2 h) l) = some ds := e
  unfold consO at e'
  cases hv with
  | cons ha hb =>
   cases h1 : see2 h v with
   | none => rw [h1] at e'; cases e'
   | some d =>
    rw [h1] at e'
    cases h2 : seeL (see2 h) l with
    | none => rw [h2] at e'; cases e'
    | some ds2 =>
     rw [h2] at e'
     cases e'
     exact ⟨_, _, rfl, see2_ok h1 hM ha, seeL2_ok h2 hM hb⟩
theorem see3_ok {v v' : Value} {d : D3 F} (e : see3 h v = some d) (hM : Mod S r h.get w) (hv : VR r v v') : d.is S w v' := by
 unfold see3 at e
 cases v with
 | tuple cs =>
  obtain ⟨l⟩ := cs
  simp only at e
  cases h1 : seeL (see2 h) l with
  | none => rw [h1] at e; cases e
  | some ds =>
   rw [h1] at e
   cases e
   cases hv with
   | same p => simp [plain] at p
   | tuple hl => exact ⟨_, rfl, seeL2_ok h1 hM hl⟩
 | _ =>
  simp only at e
  obtain ⟨d1, h1, rfl⟩ := Option.map_eq_some_iff.1 e
  exact see2_ok h1 hM hv
inductive Lay where
 | p (v : Value)
 | one
 | agg (k : Nat)
 | agq (k : Nat) (v : Value)
noncomputable def split (l : List Lay) : List Value → List Value := List.rec (motive := fun _ => List Value → List Value) (fun _ => []) (fun x _ ih vs => match x with
 | .p v => v :: ih vs
 | .one => vs.headD undef :: ih vs.tail
 | .agg k => .agg ⟨vs.take k⟩ :: ih (vs.drop k)
 | .agq k v => .agg ⟨vs.take k ++ [v]⟩ :: ih (vs.drop k)) l
noncomputable def plainLay (l : List Lay) : Bool := List.rec (motive := fun _ => Bool) true (fun x _ ih => match x with
 | .p v => plain2 v && ih
 | .agq _ v => plain2 v && ih
 | _ => ih) l
theorem split_ok : ∀ {l : List Lay}, plainLay l = true → ∀ {vs us : List Value}, VsR r vs us → VsR r (split l vs) (split l us)
 | [], _, _, _, _ => .nil
 | .p v :: l, hp, vs, us, hv => by
  have hp' : (plain2 v && plainLay l) = true := hp
  simp only [Bool.and_eq_true] at hp'
  exact .cons (VR.same2 hp'.1) (split_ok hp'.2 hv)
 | .one :: l, hp, vs, us, hv => by
  refine .cons ?_ (split_ok (l := l) hp ?_)
  ·cases hv with
   | nil => exact vr_undef
   | cons a _ => exact a
  ·cases hv with
   | nil => exact .nil
   | cons _ b => exact b
 | .agg k :: l, hp, vs, us, hv => .cons (.agg (hv.take k)) (split_ok (l := l) hp (hv.drop k))
 | .agq k v :: l, hp, vs, us, hv => by
  have hp' : (plain2 v && plainLay l) = true := hp
  simp only [Bool.and_eq_true] at hp'
  exact .cons (.agg ((hv.take k).append (.cons (VR.same2 hp'.1) .nil))) (split_ok hp'.2 (hv.drop k))
noncomputable def tells (fs : List F) (ls : List Lay) (m : List Value → M F Value) : Option (D3 F) := match newFacts fs .nil 100000 with
 | .no => none
 | .ok vs h1 nx1 _ _ => match m (split ls vs) h1 nx1 with
  | .no => none
  | .ok a h2 _ _ W => cond (geAll nx1 W) (see3 h2 a) none
theorem newFacts_W : ∀ (l : List F) {h h' : Tr (Blk F)} {nx nx' : Nat} {R W : List Nat} {vs : List Value}, newFacts l h nx = .ok vs h' nx' R W → W = []
 | [], h, h', nx, nx', R, W, vs, e => (ret_ok (show (ret [] : M F _) h nx = _ from e)).2.2.2
 | f :: l, h, h', nx, nx', R, W, vs, e => by
  obtain ⟨x, h3, nx3, R3, W3, R4, W4, e3, e4, rfl, rfl⟩ := bind_ok (show bind (newFact f) (fun x => bind (newFacts l) fun l => ret (x :: l)) h nx = _ from e)
  obtain ⟨i, h5, nx5, R5, W5, R6, W6, e5, e6, rfl, rfl⟩ := bind_ok e3
  obtain ⟨rfl, rfl, rfl, rfl⟩ := ret_ok e6
  unfold fresh at e5
  cases e5
  obtain ⟨xs, h7, nx7, R7, W7, R8, W8, e7, e8, rfl, rfl⟩ := bind_ok e4
  obtain ⟨rfl, rfl, rfl, rfl⟩ := ret_ok e8
  rw [newFacts_W l e7]; rfl
theorem tells_calls {P : Program} {C : Cfg F} [HardLoc C] {sum : Sums F} {n : Nat} {f : FuncId} {fs : List F} {ls : List Lay} {d : D3 F} (hF : Fits S P C) (hs : SumOK S P sum) (e : tells fs ls (call P C sum n f) = some d) (ha : plainLay ls = true) (hx : S.G ≤ 100000)
  {w : World} {us : List Value} (hu : HoldsL S w fs us) (hG : S.G ≤ w.heap.size) (hb : S.base w) (hlo : S.lo ≤ w.heap.size := by first | exact Nat.zero_le _ | exact Nat.le_trans (Nat.le_of_eq (by assumption)) (Nat.zero_le _)) (hJ : JmpAll S P C := by exact .none rfl) :
  Calls P f ⟨split ls us⟩ w fun e w' => ∃ v', e = .returned v' ∧ d.is S w' v' ∧ Below w.heap.size w w' := by
 unfold tells at e
 cases h1 : newFacts fs .nil 100000 with
 | no => rw [h1] at e; cases e
 | ok vs hh nx1 R1 W1 =>
  rw [h1] at e
  simp only at e
  cases h2 : call P C sum n f (split ls vs) hh nx1 with
  | no => rw [h2] at e; cases e
  | ok a h3 nx2 R W =>
   rw [h2] at e
   simp only at e
   cases hc : geAll nx1 W with
   | false => rw [hc] at e; cases e
   | true =>
    rw [hc] at e
    simp only [cond_true] at e
    have hW := geAll_ok hc
    have hW1 := newFacts_W fs h1
    subst hW1
    have hg : (Tr.get (.nil : Tr (Blk F))) = fun _ => none := funext fun k => Tr.get_nil k
    have hN0 : ∀ m, New (ren0 S.G) 100000 m := fun m k h1 _ => ⟨if_neg (by omega), rfl⟩
    obtain ⟨hle, r1, hX, hvs⟩ := newFacts_ok fs h1 (by rw [hg]; exact mod0 hG hb hlo) (hN0 nx1) hu
    have hcl := call_ok hF hs n hJ
    have hfr : Fr hh nx1 := ((loc_newFacts fs).2 _ _ _ _ _ _ _ h1 (fun k _ => Tr.get_nil k)).fr
    have hrun := Run.self (hcl.loc f _) h2 hfr
    have hN : New r1 nx1 nx2 := New.after (hN0 nx2) hX hle
    refine (hcl.run f _ _ _ _ _ _ _ _ hrun r1 w _ (split_ok ha hvs) hX.mod hN).mono ?_
    rintro en w' ⟨v', r', rfl, hv, hY⟩
    refine ⟨v', rfl, see3_ok e hY.mod hv, hY.os, hY.tape, hY.output, hY.size, fun b hb' => ?_⟩
    have hbo : w.heap[b]? = some w.heap[b] := Array.getElem?_eq_getElem hb'
    rw [hbo]
    refine hY.keep b _ hbo fun k hk he => ?_
    have hge := hW k hk
    rcases hX.new k b he with h5 | h5 | ⟨_, h5, _⟩
    ·rw [show (ren0 S.G).blk k = none from if_neg (by omega)] at h5; cases h5
    ·omega
    ·cases h5
end
noncomputable def symCfg (hd : Oper → List Value → M Sy Nxt) : Cfg Sy where
 hid _ := symHid
 G := natCfg.G
 glob := natCfg.glob
 tab := natCfg.tab
 len := symLen
 hard := hd
inductive Sl (F : Type) where
 | p (v : Value)
 | f (x : F)
 | ow (x : F)
section
variable {F : Type} {S : Sig F} {P : Program} {C : Cfg F}
def Sl.is (S : Sig F) (w : World) : Sl F → Value → Prop
 | .p u, v => v = u
 | .f x, v => S.holds x w v ∧ isOne v = true
 | .ow x, v => S.ow x w v ∧ isOne v = true ∧ ∀ b, blkV v = some b → S.G ≤ b ∧ ∃ c t z, w.heap[b]? = some (.cells c t z) ∧ S.hid b t = false
def AtV (S : Sig F) (w : World) : List (Sl F) → List Value → Prop
 | [], l => l = []
 | d :: ds, l => ∃ v vs, l = v :: vs ∧ d.is S w v ∧ AtV S w ds vs
def ownOf : Sl F → Value → List Nat
 | .ow _, v => (blkV v).toList
 | _, _ => []
def owns : List (Sl F) → List Value → List Nat
 | [], _ => []
 | _, [] => []
 | d :: ds, v :: vs => ownOf d v ++ owns ds vs
theorem ownOf_cells {w : World} {d : Sl F} {v : Value} (h : d.is S w v) {b : Nat} (hb : b ∈ ownOf d v) : S.G ≤ b ∧ ∃ c t z, w.heap[b]? = some (.cells c t z) ∧ S.hid b t = false := by
 cases d with
 | ow x => exact h.2.2 b (by simpa [ownOf] using hb)
 | _ => simp [ownOf] at hb
theorem owns_cells {w : World} : ∀ {ds : List (Sl F)} {vs : List Value}, AtV S w ds vs → ∀ {b : Nat}, b ∈ owns ds vs → S.G ≤ b ∧ ∃ c t z, w.heap[b]? = some (.cells c t z) ∧ S.hid b t = false
 | [], vs, _, b, hb => by simp [owns] at hb
 | d :: ds, vs, h, b, hb => by
  obtain ⟨v, vs, rfl, h1, h2⟩ := h
  simp only [owns, List.mem_append] at hb
  rcases hb with hb | hb
  ·exact ownOf_cells h1 hb
  ·exact owns_cells h2 hb
noncomputable def newSl (d : Sl F) : M F Value := match d with
 | .p v => ret v
 | .f x => newFact x
 | .ow x => bind (fresh (.ow x)) fun i => ret (.chan (some i))
noncomputable def newSls (l : List (Sl F)) : M F (List Value) := List.rec (motive := fun _ => M F (List Value)) (ret []) (fun d _ ih => bind (newSl d) fun v => bind ih fun vs => ret (v :: vs)) l
noncomputable def plainSls (l : List (Sl F)) : Bool := List.rec (motive := fun _ => Bool) true (fun d _ ih => match d with
 | .p v => plain2 v && ih
 | _ => ih) l
theorem loc_newSl (d : Sl F) : Loc (newSl d) := by
 cases d with
 | p v => exact loc_ret _
 | f x => exact loc_newFact _
 | ow x => exact loc_bind (loc_fresh _) fun _ => loc_ret _
theorem loc_newSls : ∀ l : List (Sl F), Loc (newSls l)
 | [] => loc_ret _
 | d :: l => loc_bind (loc_newSl d) fun _ => loc_bind (loc_newSls l) fun _ => loc_ret _
theorem mod_ow {r : Ren} {g : Nat → Option (Blk F)} {w : World} {nx : Nat} {x : F} {v : Value} (hM : Mod S r g w) (hN : New r nx (nx + 1)) (hv : (Sl.ow x).is S w v) (hb : ∀ b, blkV v = some b → ∀ k, r.blk k = some b → Gone g k) :
  r.le ⟨fun n => if n = nx then blkV v else r.blk n, fun n => if n = nx then some v else r.val n, r.len⟩ ∧
  Mod S ⟨fun n => if n = nx then blkV v else r.blk n, fun n => if n = nx then some v else r.val n, r.len⟩ (fun n => if n = nx then some (.ow x) else g n) w := by
 have hno := hN nx (Nat.le_refl _) (Nat.lt_succ_self _)
 have hle : r.le ⟨fun n => if n = nx then blkV v else r.blk n, fun n => if n = nx then some v else r.val n, r.len⟩ := by
  refine ⟨fun n b e => ?_, fun n u e => ?_, fun _ _ _ => rfl⟩
  ·have : n ≠ nx := fun q => by rw [q, hno.1] at e; cases e
   simp only [if_neg this, e]
  ·have : n ≠ nx := fun q => by rw [q, hno.2] at e; cases e
   simp only [if_neg this, e]
 have hgo : ∀ k, k ≠ nx → Gone g k → Gone (fun n => if n = nx then some (.ow x) else g n) k := fun k e q =>
  ⟨fun c t => by simpa only [if_neg e] using q.1 c t, fun c t => by simpa only [if_neg e] using q.2.1 c t, ⟨fun s => by simpa only [if_neg e] using q.2.2.1 s, fun f => by simpa only [if_neg e] using q.2.2.2 f⟩⟩
 refine ⟨hle, fun n m b h1 h2 => ?_, fun n b h1 => ?_, fun n c t h1 => ?_, fun n f h1 => ?_, hM.base, fun n hn => hle.blk _ _ (hM.glob n hn), fun n b h1 hn => ?_, fun n c t h1 => ?_, hM.sz, hM.lp.mono hle (fun n s h1 => ?_) (fun _ _ q => q), fun n f h1 => ?_, hM.ad.mono hle fun n m y h1 => ?_⟩
 ·simp only at h1 h2
  by_cases e1 : n = nx <;> by_cases e2 : m = nx
  ·exact .inl (by omega)
  ·rw [if_pos e1] at h1
   rw [if_neg e2] at h2
   exact .inr (.inr (hgo m e2 (hb b h1 m h2)))
  ·rw [if_neg e1] at h1
   rw [if_pos e2] at h2
   exact .inr (.inl (hgo n e1 (hb b h2 n h1)))
  ·rw [if_neg e1] at h1
   rw [if_neg e2] at h2
   exact (hM.inj n m b h1 h2).imp id (Or.imp (hgo n e1) (hgo m e2))
 ·simp only at h1
  split at h1
  ·obtain ⟨_, c, t, z, h2, _⟩ := hv.2.2 b h1
   exact (Array.getElem?_eq_some_iff.1 h2).1
  ·exact hM.lt n b h1
 ·split at h1
  ·cases h1
  ·obtain ⟨b, c', q1, q2, q3, q4⟩ := hM.cells n c t h1
   exact ⟨b, c', hle.blk _ _ q1, q2, q3.mono hle, q4⟩
 ·split at h1
  ·cases h1
  ·obtain ⟨u, q1, q2, q3⟩ := hM.fact n f h1
   exact ⟨u, hle.val _ _ q1, q2, q3⟩
 ·simp only at h1
  split at h1
  ·exact (hv.2.2 b h1).1
  ·exact hM.own n b h1 hn
 ·split at h1
  ·cases h1
  ·obtain ⟨b, c', q1, q2, q3, q4, q5⟩ := hM.room n c t h1
   exact ⟨b, c', hle.blk _ _ q1, q2, q3.mono hle, q4, q5⟩
 ·split at h1
  ·cases h1
  ·exact h1
 ·split at h1
  ·rename_i e
   cases h1
   refine ⟨v, by simp [e], hv.1, hv.2.1, fun b hb2 => ⟨by simp [e, hb2], hv.2.2 b hb2⟩⟩
  ·obtain ⟨u, q1, q2, q3, q4⟩ := hM.ow n f h1
   exact ⟨u, hle.val _ _ q1, q2, q3, fun b hb2 => ⟨hle.blk _ _ (q4 b hb2).1, (q4 b hb2).2⟩⟩
 ·split at h1
  ·cases h1
  ·exact h1
theorem newSls_ok : ∀ (l : List (Sl F)) {h h' : Tr (Blk F)} {nx nx' : Nat} {R W : List Nat} {us vs : List Value} {r : Ren} {w : World} {hi : Nat}, newSls l h nx = .ok us h' nx' R W → plainSls l = true → Mod S r h.get w → New r nx hi → nx' ≤ hi →
  AtV S w l vs → (owns l vs).Nodup → (∀ b ∈ owns l vs, ∀ k, r.blk k = some b → Gone h.get k) →
  W = [] ∧ nx ≤ nx' ∧ ∃ r', r.le r' ∧ Mod S r' h'.get w ∧ VsR r' us vs ∧ (∀ n b, r'.blk n = some b → r.blk n = some b ∨ (nx ≤ n ∧ n < nx' ∧ b ∈ owns l vs)) ∧ (∀ n, r'.blk n ≠ none ∨ r'.val n ≠ none → (r.blk n ≠ none ∨ r.val n ≠ none) ∨ (nx ≤ n ∧ n < nx')) ∧ New r' nx' hi
 | [], h, h', nx, nx', R, W, us, vs, r, w, hi, e, _, hM, hN, _, hv, _, _ => by
  obtain ⟨rfl, rfl, rfl, rfl⟩ := ret_ok (show (ret [] : M F _) h nx = _ from e)
  cases hv
  exact ⟨rfl, Nat.le_refl _, r, .refl r, hM, .nil, fun _ _ q => .inl q, fun _ q => .inl q, hN⟩
 | d :: l, h, h', nx, nx', R, W, us, vs, r, w, hi, e, hp, hM, hN, hhi, hv, hnd, hgo => by
  obtain ⟨v, vs, rfl, hv1, hv2⟩ := hv
  obtain ⟨u, h1, nx1, R1, W1, R2, W2, e1, e2, rfl, rfl⟩ := bind_ok (show bind (newSl d) (fun v => bind (newSls l) fun vs => ret (v :: vs)) h nx = _ from e)
  obtain ⟨us2, h2, nx2, R3, W3, R4, W4, e3, e4, rfl, rfl⟩ := bind_ok e2
  obtain ⟨rfl, rfl, rfl, rfl⟩ := ret_ok e4
  simp only [owns] at hnd hgo
  obtain ⟨n1, n2, n3⟩ := List.nodup_append.1 hnd
  have hm1 := (loc_newSls l).1 _ _ _ _ _ _ _ e3
  have hm0 := (loc_newSl d).1 _ _ _ _ _ _ _ e1
  have key : ∃ r1, W1 = [] ∧ nx ≤ nx1 ∧ r.le r1 ∧ Mod S r1 h1.get w ∧ VR r1 u v ∧ plainSls l = true ∧ (∀ n b, r1.blk n = some b → r.blk n = some b ∨ (nx ≤ n ∧ n < nx1 ∧ b ∈ ownOf d v)) ∧ (∀ n, r1.blk n ≠ none ∨ r1.val n ≠ none → (r.blk n ≠ none ∨ r.val n ≠ none) ∨ (nx ≤ n ∧ n < nx1)) ∧ New r1 nx1 hi ∧ (∀ k, k < nx ∨ nx1 ≤ k → h1.get k = h.get k) := by
   cases d with
   | p u0 =>
    obtain ⟨rfl, rfl, rfl, rfl⟩ := ret_ok (show (ret u0 : M F _) h nx = _ from e1)
    have hp' : (plain2 u && plainSls l) = true := hp
    simp only [Bool.and_eq_true] at hp'
    have hv1' : v = u := hv1
    subst hv1'
    exact ⟨r, rfl, Nat.le_refl _, .refl r, hM, .same2 hp'.1, hp'.2, fun _ _ q => .inl q, fun _ q => .inl q, hN, fun _ _ => rfl⟩
   | f x =>
    obtain ⟨i, h5, nx5, R5, W5, R6, W6, e5, e6, rfl, rfl⟩ := bind_ok (show bind (fresh (.fact x)) (fun i => (ret (.chan (some i)) : M F Value)) h nx = _ from e1)
    obtain ⟨rfl, rfl, rfl, rfl⟩ := ret_ok e6
    unfold fresh at e5
    cases e5
    obtain ⟨r1, hX, hr⟩ := ext_fact (S := S) (f := x) hM (Below.refl _ w) (hN.sub (Nat.le_refl _) (by omega)) hv1.1 hv1.2
    refine ⟨r1, rfl, Nat.le_succ _, hX.le, hX.mod.congr fun n => .inr (Tr.get_set _ _ _ _), .opq hr hv1.2, hp, fun n b q => .inl ?_, hX.dom, hN.after hX (Nat.le_succ _), fun k hk => ?_⟩
    ·rcases hX.new n b q with q1 | q1 | ⟨_, q1, _⟩
     ·exact q1
     ·have := hX.mod.lt n b q; omega
     ·simp at q1
    ·have : nx + 1 = Nat.succ nx := rfl
     rw [Tr.get_set, if_neg (by omega)]
   | ow x =>
    obtain ⟨i, h5, nx5, R5, W5, R6, W6, e5, e6, rfl, rfl⟩ := bind_ok (show bind (fresh (.ow x)) (fun i => (ret (.chan (some i)) : M F Value)) h nx = _ from e1)
    obtain ⟨rfl, rfl, rfl, rfl⟩ := ret_ok e6
    unfold fresh at e5
    cases e5
    obtain ⟨hle, hM1⟩ := mod_ow (x := x) (v := v) hM (hN.sub (Nat.le_refl _) (by omega)) hv1 fun b hb k hk => hgo b (by simp [ownOf, hb]) k hk
    refine ⟨_, rfl, Nat.le_succ _, hle, hM1.congr fun n => .inr (Tr.get_set _ _ _ _), .opq (by simp) hv1.2.1, hp, fun n b q => ?_, fun n q => ?_, fun n a b => ?_, fun k hk => ?_⟩
    ·simp only at q
     split at q
     ·exact .inr ⟨by omega, by omega, by simp [ownOf, q]⟩
     ·exact .inl q
    ·by_cases en : n = nx
     ·exact .inr ⟨by omega, by omega⟩
     ·simp only [if_neg en] at q
      exact .inl q
    ·have : nx + 1 ≤ n := a
     have hn : n ≠ nx := by omega
     simp only [if_neg hn]
     exact hN n (by omega) b
    ·have : nx + 1 = Nat.succ nx := rfl
     rw [Tr.get_set, if_neg (by omega)]
  obtain ⟨r1, rfl, k1, k2, k3, k4, k5, k6, k7, k8, k9⟩ := key
  obtain ⟨rfl, j1, r2, j2, j3, j4, j5, j6, j7⟩ := newSls_ok l e3 k5 k3 k8 hhi hv2 n2 fun b hb k hk => by
   rcases k6 k b hk with q | ⟨q1, q2, q3⟩
   ·have hl : k < nx ∨ nx1 ≤ k := by
     rcases Nat.lt_or_ge k nx with hl | hl
     ·exact .inl hl
     ·rcases Nat.lt_or_ge k nx1 with h9 | h9
      ·have := (hN k hl (by omega)).1
       rw [this] at q; cases q
      ·exact .inr h9
    have hg := hgo b (List.mem_append_right _ hb) k q
    exact ⟨fun c t => by rw [k9 k hl]; exact hg.1 c t, fun c t => by rw [k9 k hl]; exact hg.2.1 c t, ⟨fun s => by rw [k9 k hl]; exact hg.2.2.1 s, fun f => by rw [k9 k hl]; exact hg.2.2.2 f⟩⟩
   ·exact absurd rfl (n3 b q3 b hb)
  refine ⟨rfl, Nat.le_trans k1 j1, r2, k2.trans j2, j3, .cons (k4.mono j2) j4, fun n b q => ?_, fun n q => ?_, j7⟩
  ·rcases j5 n b q with q | ⟨q1, q2, q3⟩
   ·rcases k6 n b q with q | ⟨q1, q2, q3⟩
    ·exact .inl q
    ·exact .inr ⟨q1, by omega, by simp only [owns]; exact List.mem_append_left _ q3⟩
   ·exact .inr ⟨by omega, q2, by simp only [owns]; exact List.mem_append_right _ q3⟩
  ·rcases j6 n q with q | ⟨q1, q2⟩
   ·rcases k7 n q with q | ⟨q1, q2⟩
    ·exact .inl q
    ·exact .inr ⟨q1, by omega⟩
   ·exact .inr ⟨by omega, q2⟩
noncomputable def junkT (N : Nat) : Tr Value := Nat.rec (motive := fun _ => Tr Value) .nil (fun t ih => ih.set t (.map (some (50000 + t)))) N
theorem junkT_get : ∀ (N t : Nat), (junkT N).get t = if t < N then some (.map (some (50000 + t))) else none
 | 0, t => by rw [if_neg (by omega)]; exact Tr.get_nil t
 | N + 1, t => by
  show ((junkT N).set N (.map (some (50000 + N)))).get t = _
  rw [Tr.get_set, junkT_get N t]
  by_cases e : t = N
  ·subst e; rw [if_pos rfl, if_pos (by omega)]
  ·rw [if_neg e]
   by_cases h : t < N
   ·rw [if_pos h, if_pos (by omega)]
   ·rw [if_neg h, if_neg (by omega)]
noncomputable def ren1 (G N : Nat) (a : Act) : Ren := ⟨fun n => if n < G then some n else none, fun n => if 50000 ≤ n ∧ n < 50000 + N then some (a.eval (.tmp (n - 50000))) else none, fun _ => 0⟩
theorem mod1 {w : World} (N : Nat) (a : Act) (hG : S.G ≤ w.heap.size) (hb : S.base w) (hlo : S.lo ≤ w.heap.size) : Mod S (ren1 S.G N a) (fun _ => none) w :=
 have m := mod0 hG hb hlo
 ⟨m.inj, m.lt, fun _ _ _ h => (by cases h), fun _ _ h => (by cases h), m.base, m.glob, m.own, fun _ _ _ h => (by cases h), m.sz, fun _ _ h => (by cases h), fun _ _ h => (by cases h), fun _ _ _ h => (by cases h)⟩
theorem tr_junk {G N : Nat} {a : Act} (hN : a.tmps.size = N) : TR (ren1 G N a) (junkT N) a := by
 intro (t : Nat)
 show VR _ (((junkT N).get t).getD undef) (a.tmps.getD t undef)
 rw [junkT_get]
 by_cases h : t < N
 ·rw [if_pos h]
  refine .any ?_
  show (if 50000 ≤ 50000 + t ∧ 50000 + t < 50000 + N then some (a.eval (.tmp (50000 + t - 50000))) else none) = _
  rw [if_pos ⟨by omega, by omega⟩, Nat.add_sub_cancel_left]
  rfl
 ·rw [if_neg h, Array.getD_eq_getD_getElem?, Array.getElem?_eq_none (by omega)]
  exact vr_undef
def valsOf (tms : List Nat) (a : Act) : List Value := tms.map fun t => a.eval (.tmp t)
theorem tr_sets {r : Ren} {a : Act} : ∀ (tms : List Nat) {us : List Value} {ts : Tr Value}, TR r ts a → VsR r us (valsOf tms a) → TR r (putAll ts tms us) a
 | [], us, ts, h, _ => by unfold putAll; exact h
 | t :: tms, us, ts, h, hv => by
  cases hv with
  | cons h1 h2 =>
   refine tr_sets tms (fun t' => ?_) h2
   show VR r (((ts.set t _).get t').getD undef) _
   rw [Tr.get_set]
   by_cases e : t' = t
   ·subst e; rw [if_pos rfl]; exact h1
   ·rw [if_neg e]; exact h t'
end
section
variable {F : Type} {S : Sig F} {P : Program} {C : Cfg F}
def ren00 : Ren := ⟨fun _ => none, fun _ => none, fun _ => 0⟩
def MarksV (S : Sig F) (B0 : Nat) (ds : List Deferred) (w : World) : Prop := Marks S B0 ds ren00 w
theorem Marks.drop {B0 : Nat} : ∀ {ds : List Deferred} {r : Ren} {w : World}, Marks S B0 ds r w → MarksV S B0 ds w
 | [], _, _, h => h
 | _ :: _, _, _, ⟨h, D, h1, h2, _, h4⟩ => ⟨Marks.drop h, D, h1, h2, fun _ q => (by cases q), h4⟩
theorem MarksV.name {B0 : Nat} {r : Ren} {w : World} : ∀ {ds : List Deferred}, MarksV S B0 ds w → (∀ e ∈ ds, ∀ D, e.target = .collected D → w.heap[D]? = some (.deferred (some [])) → S.G ≤ D → ∀ k, r.blk k ≠ some D) → Marks S B0 ds r w
 | [], h, _ => h
 | _ :: _, ⟨h, D, h1, h2, _, h4, h5, h6⟩, hr => ⟨MarksV.name h fun e he => hr e (List.mem_cons_of_mem _ he), D, h1, h2, hr _ List.mem_cons_self D (by rw [h1]) h2 h4, h4, h5, h6⟩
theorem MarksV.sig {T : Sig F} (hG : T.G = S.G) {B0 : Nat} {w : World} : ∀ {ds : List Deferred}, MarksV S B0 ds w → MarksV T B0 ds w
 | [], h => h
 | _ :: _, ⟨h, D, h1, h2, h3, h4, h5⟩ => ⟨MarksV.sig hG h, D, h1, h2, h3, by rw [hG]; exact h4, h5⟩
noncomputable def chanOf : Value → Option Nat
 | .chan i => i
 | _ => none
theorem chanOf_of {v : Value} {i : Nat} (e : chanOf v = some i) : v = .chan (some i) := by
 cases v <;> simp [chanOf] at e
 subst e; rfl
theorem vr_chan {r : Ren} {i : Nat} {v' v : Value} (hv : VR r (.chan (some i)) v') (h : r.val i = some v) : v' = v := by
 cases hv with
 | same p => simp [plain] at p
 | opq p _ => rw [h] at p; cases p; rfl
noncomputable def nil0 (v : Value) : Bool := match v with
 | .slice a n c => match a with
  | none => Nat.beq n 0 && Nat.beq c 0
  | some _ => false
 | _ => false
theorem nil0_ok {v : Value} (h : nil0 v = true) : v = .slice none 0 0 := by
 cases v <;> first | (cases h; done) | skip
 rename_i a n c
 cases a with
 | some _ => cases h
 | none =>
  have h' := Bool.and_eq_true_iff.1 (show (Nat.beq n 0 && Nat.beq c 0) = true from h)
  rw [Nat.eq_of_beq_eq_true h'.1, Nat.eq_of_beq_eq_true h'.2]
noncomputable def fn0 (v : Value) : Option Nat := match v with
 | .func fn a b => match fn with
  | .func f => cond (a.toList.isEmpty && b.toList.isEmpty) (some f) none
  | _ => none
 | _ => none
theorem fn0_ok {v : Value} {f : Nat} (h : fn0 v = some f) : v = .func (.func f) #[] #[] := by
 unfold fn0 at h
 split at h <;> first | (cases h; done) | skip
 rename_i fn a b
 split at h <;> first | (cases h; done) | skip
 rename_i g
 cases hc : (a.toList.isEmpty && b.toList.isEmpty) with
 | false => rw [hc] at h; cases h
 | true =>
  rw [hc] at h
  cases h
  simp only [Bool.and_eq_true, List.isEmpty_iff] at hc
  obtain ⟨a⟩ := a
  obtain ⟨b⟩ := b
  have h1 : a = [] := hc.1
  have h2 : b = [] := hc.2
  rw [h1, h2]
noncomputable def eqFn (v w : Value) : Bool := match fn0 v with
 | some f => match fn0 w with
  | some g => Nat.beq f g
  | none => false
 | none => false
theorem eqFn_ok {v w : Value} (h : eqFn v w = true) : v = w := by
 unfold eqFn at h
 cases h1 : fn0 v with
 | none => rw [h1] at h; cases h
 | some f =>
  rw [h1] at h
  cases h2 : fn0 w with
  | none => rw [h2] at h; cases h
  | some g =>
   rw [h2] at h
   rw [fn0_ok h1, fn0_ok h2, Nat.eq_of_beq_eq_true h]
noncomputable def eq0 (v w : Value) : Bool := eqFn v w || ((nil0 v && nil0 w) || eqV v w)
theorem eq0_ok (v w : Value) (h : eq0 v w = true) : v = w := by
 rcases Bool.or_eq_true_iff.1 (show (eqFn v w || ((nil0 v && nil0 w) || eqV v w)) = true from h) with q | q
 ·exact eqFn_ok q
 rcases Bool.or_eq_true_iff.1 q with q | q
 ·have q' := Bool.and_eq_true_iff.1 q
  rw [nil0_ok q'.1, nil0_ok q'.2]
 ·exact eqV_ok _ _ q
noncomputable def isSl (eqF : F → F → Bool) (h : Tr (Blk F)) (v : Value) (d : Sl F) : Bool := match d with
 | .p u => plain2 u && eq0 v u
 | .f x => match chanOf v with
  | some i => match h.get i with
   | some b => match b with
    | .fact y => eqF x y
    | _ => false
   | none => false
  | none => false
 | .ow x => match chanOf v with
  | some i => match h.get i with
   | some b => match b with
    | .ow y => eqF x y
    | _ => false
   | none => false
  | none => false
variable {eqF : F → F → Bool}
theorem isSl_ok (heq : ∀ x y, eqF x y = true → x = y) {h : Tr (Blk F)} {v v' : Value} {d : Sl F} {r : Ren} {w : World} (e : isSl eqF h v d = true) (hM : Mod S r h.get w) (hv : VR r v v') :
  d.is S w v' ∧ ∀ b ∈ ownOf d v', ∃ i y, chanOf v = some i ∧ r.blk i = some b ∧ h.get i = some (.ow y) := by
 cases d with
 | p u =>
  simp only [isSl, Bool.and_eq_true] at e
  obtain rfl := eq0_ok _ _ e.2
  exact ⟨hv.eq_of_plain2 e.1, fun b hb => by simp [ownOf] at hb⟩
 | f x =>
  unfold isSl at e
  simp only at e
  cases hc : chanOf v with
  | none => rw [hc] at e; cases e
  | some i =>
   rw [hc] at e
   obtain rfl := chanOf_of hc
   simp only at e
   cases hg : h.get i with
   | none => rw [hg] at e; cases e
   | some b =>
    rw [hg] at e
    cases b <;> first | (cases e; done) | skip
    rename_i y
    obtain rfl := heq _ _ e
    obtain ⟨u, q1, q2, q3⟩ := hM.fact i _ hg
    obtain rfl := vr_chan hv q1
    exact ⟨⟨q2, q3⟩, fun b hb => by simp [ownOf] at hb⟩
 | ow x =>
  unfold isSl at e
  simp only at e
  cases hc : chanOf v with
  | none => rw [hc] at e; cases e
  | some i =>
   rw [hc] at e
   obtain rfl := chanOf_of hc
   simp only at e
   cases hg : h.get i with
   | none => rw [hg] at e; cases e
   | some b =>
    rw [hg] at e
    cases b <;> first | (cases e; done) | skip
    rename_i y
    obtain rfl := heq _ _ e
    obtain ⟨u, q1, q2, q3, q4⟩ := hM.ow i _ hg
    obtain rfl := vr_chan hv q1
    exact ⟨⟨q2, q3, fun b hb => (q4 b hb).2⟩, fun b hb => ⟨i, x, rfl, (q4 b (by simpa [ownOf] using hb)).1, hg⟩⟩
noncomputable def ownNm (ts : Tr Value) : List Nat → List (Sl F) → List Nat
 | [], _ => []
 | _, [] => []
 | t :: tms, d :: ds => (match d with
  | .ow _ => (chanOf (opd ts (.tmp t))).toList
  | _ => []) ++ ownNm ts tms ds
noncomputable def seeSls (eqF : F → F → Bool) (h : Tr (Blk F)) (ts : Tr Value) : List Nat → List (Sl F) → Bool
 | [], [] => true
 | t :: tms, d :: ds => isSl eqF h (opd ts (.tmp t)) d && seeSls eqF h ts tms ds
 | _, _ => false
noncomputable def distinct : List Nat → Bool
 | [] => true
 | n :: l => !elem n l && distinct l
theorem distinct_ok : ∀ {l : List Nat}, distinct l = true → l.Nodup
 | [], _ => List.nodup_nil
 | n :: l, h => by
  simp only [distinct, Bool.and_eq_true, Bool.not_eq_true'] at h
  refine List.nodup_cons.2 ⟨fun q => ?_, distinct_ok h.2⟩
  rw [elem_iff.2 q] at h
  cases h.1
theorem seeSls_ok (heq : ∀ x y, eqF x y = true → x = y) {h : Tr (Blk F)} {ts : Tr Value} {r : Ren} {w : World} {a : Act} (hM : Mod S r h.get w) (hT : TR r ts a) : ∀ {tms : List Nat} {ds : List (Sl F)}, seeSls eqF h ts tms ds = true → (ownNm ts tms ds).Nodup →
  AtV S w ds (valsOf tms a) ∧ (owns ds (valsOf tms a)).Nodup ∧ ∀ b ∈ owns ds (valsOf tms a), ∃ i y, i ∈ ownNm ts tms ds ∧ r.blk i = some b ∧ h.get i = some (.ow y)
 | [], [], _, _ => ⟨rfl, List.nodup_nil, fun b hb => by simp [owns] at hb⟩
 | [], _ :: _, e, _ => by cases (show false = true from e)
 | _ :: _, [], e, _ => by cases (show false = true from e)
 | t :: tms, d :: ds, e, hn => by
  have e' : (isSl eqF h (opd ts (.tmp t)) d && seeSls eqF h ts tms ds) = true := e
  simp only [Bool.and_eq_true] at e'
  obtain ⟨h1, h2⟩ := isSl_ok heq e'.1 hM (hT t)
  simp only [ownNm] at hn
  obtain ⟨n1, n2, n3⟩ := List.nodup_append.1 hn
  obtain ⟨k1, k2, k3⟩ := seeSls_ok heq hM hT e'.2 n2
  have hin : ∀ b ∈ ownOf d (a.eval (.tmp t)), ∃ i y, i ∈ (match d with
    | .ow _ => (chanOf (opd ts (.tmp t))).toList
    | _ => []) ∧ r.blk i = some b ∧ h.get i = some (.ow y) := fun b hb => by
   obtain ⟨i, y, q1, q2, q3⟩ := h2 b hb
   cases d with
   | ow x => exact ⟨i, y, by simp [q1], q2, q3⟩
   | _ => simp [ownOf] at hb
  refine ⟨⟨_, _, rfl, h1, k1⟩, ?_, fun b hb => ?_⟩
  ·show (ownOf d (a.eval (.tmp t)) ++ owns ds (valsOf tms a)).Nodup
   refine List.nodup_append.2 ⟨?_, k2, fun b hb b' hb' q => ?_⟩
   ·cases d with
    | ow x => show ((blkV _).toList).Nodup; cases blkV (a.eval (.tmp t)) <;> simp
    | _ => exact List.nodup_nil
   ·subst q
    obtain ⟨i, y, q1, q2, q3⟩ := hin b hb
    obtain ⟨j, z, q4, q5, q6⟩ := k3 b hb'
    rcases hM.inj i j b q2 q5 with q | q | q
    ·exact n3 i q1 j q4 q
    ·exact q.2.2.2 y q3
    ·exact q.2.2.2 z q6
  ·have hb' : b ∈ ownOf d (a.eval (.tmp t)) ++ owns ds (valsOf tms a) := hb
   rcases List.mem_append.1 hb' with hb' | hb'
   ·obtain ⟨i, y, q1, q2, q3⟩ := hin b hb'
    exact ⟨i, y, by simp only [ownNm]; exact List.mem_append_left _ q1, q2, q3⟩
   ·obtain ⟨i, y, q1, q2, q3⟩ := k3 b hb'
    exact ⟨i, y, by simp only [ownNm]; exact List.mem_append_right _ q1, q2, q3⟩
structure Frm (O : List Nat) (w w' : World) : Prop where
 keep : ∀ (b : Nat) (o : Obj), w.heap[b]? = some o → b ∉ O → w'.heap[b]? = some o
 size : w.heap.size ≤ w'.heap.size
 os : w'.os = w.os
 tape : w'.tape = w.tape
 output : w'.output = w.output
 loops : Loops w w'
structure AtL (S : Sig F) (N : Nat) (tms : List Nat) (cs : List (Sl F)) (B0 : Nat) (D0 : Df) (ro : Option Nat) (a : Act) (w : World) : Prop where
 size : a.tmps.size = N
 at_ : AtV S w cs (valsOf tms a)
 nd : (owns cs (valsOf tms a)).Nodup
 marks : MarksV S B0 a.defers w
 round : InRound ro w
 dfs : DfOK D0 a.defers w
 G : S.G ≤ w.heap.size
 base : S.base w
 lo : S.lo ≤ w.heap.size
structure RPost (S : Sig F) (N : Nat) (tms : List Nat) (cs cs' : List (Sl F)) (B0 : Nat) (D0 : Df) (ro : Option Nat) (a : Act) (w : World) (a' : Act) (w' : World) : Prop where
 size : a'.tmps.size = N
 at_ : AtV S w' cs' (valsOf tms a')
 nd : (owns cs' (valsOf tms a')).Nodup
 new : ∀ b ∈ owns cs' (valsOf tms a'), b ∈ owns cs (valsOf tms a) ∨ w.heap.size ≤ b
 frm : Frm (owns cs (valsOf tms a)) w w'
 marks : MarksV S B0 a'.defers w'
 round : InRound ro w'
 dfs : DfOK D0 a'.defers w'
noncomputable def roundT (P : Program) (C : Cfg F) (call : Cl F) (N fuel : Nat) (eqF : F → F → Bool) (tms : List Nat) (cs cs' : List (Sl F)) (x : Code) : Bool := match newSls cs .nil 100000 with
 | .no => false
 | .ok us h nx _ _ => match code P C call N fuel x (putAll (junkT N) tms us) h nx with
  | .no => false
  | .ok e h' _ _ W => match e.1 with
   | .normal => geAll 100000 W && (seeSls eqF h' e.2 tms cs' && (distinct (ownNm e.2 tms cs') && (plainSls cs && Nat.ble N 50000)))
   | .exit _ => false
   | .ret => false
theorem round_run [HardLoc C] {call : Cl F} {N fuel : Nat} {x : Code} {tms : List Nat} {cs cs' : List (Sl F)} (hF : Fits S P C) (hc : ClOK S P call) (hys : call.ys = []) (hJ : ∀ y ∈ loopsIn x, ∀ m, call.jmp y = some m → JmpOK S P N y m) (heq : ∀ x y, eqF x y = true → x = y)
  (e : roundT P C call N fuel eqF tms cs cs' x = true) (hG5 : S.G ≤ 50000) {ro : Option Nat} {d B0 : Nat} {D0 : Df} {a : Act} {w : World} (h : AtL S N tms cs B0 D0 ro a w) :
  x.wpIn (RF ro) d P (Exit.then (RPost S N tms cs cs' B0 D0 ro a w) (fun _ _ _ => False)) a w := by
 unfold roundT at e
 cases h1 : newSls cs .nil 100000 with
 | no => rw [h1] at e; cases e
 | ok us hh nx1 R1 W1 =>
  rw [h1] at e
  simp only at e
  cases h2 : code P C call N fuel x (putAll (junkT N) tms us) hh nx1 with
  | no => rw [h2] at e; cases e
  | ok ee h3 nx2 R W =>
   rw [h2] at e
   simp only at e
   obtain ⟨ex, ts'⟩ := ee
   cases ex with
   | exit j => cases e
   | ret => cases e
   | normal =>
    simp only [Bool.and_eq_true] at e
    obtain ⟨e1, e2, e3, e4, e5⟩ := e
    have hW := geAll_ok e1
    have hN5 := Nat.le_of_ble_eq_true e5
    have hg : (Tr.get (.nil : Tr (Blk F))) = fun _ => none := funext fun k => Tr.get_nil k
    have hN0 : ∀ hi, New (ren1 S.G N a) 100000 hi := fun hi k q1 q2 => ⟨if_neg (by omega), if_neg (by omega)⟩
    obtain ⟨-, hle, r1, q1, q2, q3, q4, q5, q6⟩ := newSls_ok cs h1 e4 (by rw [hg]; exact mod1 N a h.G h.base h.lo) (hN0 (max nx1 nx2)) (Nat.le_max_left _ _) h.at_ h.nd (fun b _ k _ => by
     refine ⟨fun c t => ?_, fun c t => ?_, fun s => ?_, fun f => ?_⟩ <;> rw [hg] <;> simp)
    have hnm : ∀ n b, r1.blk n = some b → (n < S.G ∧ b = n) ∨ b ∈ owns cs (valsOf tms a) := fun n b q => by
     rcases q4 n b q with q | ⟨_, _, q⟩
     ·left
      have q' : (if n < S.G then some n else none) = some b := q
      split at q'
      ·cases q'; exact ⟨by assumption, rfl⟩
      ·cases q'
     ·exact .inr q
    have hfr : Fr hh nx1 := ((loc_newSls cs).2 _ _ _ _ _ _ _ h1 (fun k _ => Tr.get_nil k)).fr
    have hrun := Run.self (loc_code P C N fuel hc.loc x _) h2 hfr
    have hSt : St S P call.ys N ro B0 D0 (putAll (junkT N) tms us) r1 w a := by
     refine ⟨tr_sets tms ((tr_junk h.size).mono q1) q3, h.size, h.marks.name fun e _ D _ hD hGD k hk => ?_, h.round, by rw [hys]; trivial, h.dfs⟩
     rcases hnm k D hk with ⟨_, q⟩ | q
     ·omega
     ·obtain ⟨_, c, t, z, q, _⟩ := owns_cells h.at_ q
      rw [hD] at q; cases q
    refine code_ok hF hc x hJ hrun q2 (q6.sub (Nat.le_refl _) (Nat.le_max_right _ _)) hSt _ fun a' r' w' hS' hX => ?_
    obtain ⟨k1, k2, k3⟩ := seeSls_ok heq hX.mod hS'.T e2 (distinct_ok e3)
    refine ⟨hS'.size, k1, k2, fun b hb => ?_, ⟨fun b o hb hn => hX.keep b o hb fun n hn2 q => ?_, hX.size, hX.os, hX.tape, hX.output, hX.loops⟩, hS'.marks.drop, hS'.round, hS'.dfs⟩
    ·obtain ⟨i, y, _, q8, _⟩ := k3 b hb
     have hGb := (owns_cells k1 hb).1
     rcases hX.new i b q8 with q | q | ⟨k, hk, q⟩
     ·rcases hnm i b q with ⟨_, q⟩ | q
      ·omega
      ·exact .inl q
     ·exact .inr q
     ·rcases hnm k b q with ⟨_, q⟩ | q
      ·omega
      ·exact .inl q
    ·have := hW n hn2
     rcases hnm n b q with ⟨q, _⟩ | q
     ·omega
     ·exact hn q
end
section
variable {F : Type} {S : Sig F} {P : Program} {C : Cfg F} {eqF : F → F → Bool}
noncomputable def takeSl (eqF : F → F → Bool) (v : Value) (d : Sl F) : M F Unit := match d with
 | .p u => guard (plain2 u && eq0 v u)
 | .f x => bind (fact v) fun y => guard (eqF x y)
 | .ow x => match chanOf v with
  | some i => bind (rd i) fun b => match b with
   | .ow y => cond (eqF x y) (wr i .opq) fail
   | _ => fail
  | none => fail
noncomputable def takeSls (eqF : F → F → Bool) (ts : Tr Value) : List Nat → List (Sl F) → M F Unit
 | [], [] => ret ()
 | t :: tms, d :: ds => bind (takeSl eqF (opd ts (.tmp t)) d) fun _ => takeSls eqF ts tms ds
 | _, _ => fail
noncomputable def junks (N : Nat) : Tr Value → M F (Tr Value) := Nat.rec (motive := fun _ => Tr Value → M F (Tr Value)) (fun ts => ret ts) (fun t ih ts => bind (fresh .opq) fun m => ih (ts.set t (.map (some m)))) N
noncomputable def jumpM (eqF : F → F → Bool) (N : Nat) (tms : List Nat) (pre post : List (Sl F)) (ts : Tr Value) : M F (Tr Value) :=
 bind (takeSls eqF ts tms pre) fun _ => bind (newSls post) fun us => bind (junks N .nil) fun js => ret (putAll js tms us)
theorem loc_guard (b : Bool) : Loc (guard b : M F Unit) := loc_cond (loc_ret _) loc_fail
theorem loc_takeSl (v : Value) (d : Sl F) : Loc (takeSl eqF v d) := by
 cases d with
 | p u => exact loc_guard _
 | f x => exact loc_bind (loc_fact _) fun _ => loc_guard _
 | ow x =>
  unfold takeSl
  simp only
  split
  ·refine loc_bind (loc_rd _) fun b => ?_
   split
   ·exact loc_cond (loc_wr _ _) loc_fail
   ·exact loc_fail
  ·exact loc_fail
theorem loc_takeSls (ts : Tr Value) : ∀ (tms : List Nat) (ds : List (Sl F)), Loc (takeSls eqF ts tms ds)
 | [], [] => loc_ret _
 | [], _ :: _ => loc_fail
 | _ :: _, [] => loc_fail
 | _ :: tms, _ :: ds => loc_bind (loc_takeSl _ _) fun _ => loc_takeSls ts tms ds
theorem loc_junks : ∀ (N : Nat) (ts : Tr Value), Loc (junks N ts : M F (Tr Value))
 | 0, _ => loc_ret _
 | N + 1, _ => loc_bind (loc_fresh _) fun _ => loc_junks N _
theorem loc_jumpM (N : Nat) (tms : List Nat) (pre post : List (Sl F)) (ts : Tr Value) : Loc (jumpM eqF N tms pre post ts) :=
 loc_bind (loc_takeSls _ _ _) fun _ => loc_bind (loc_newSls _) fun _ => loc_bind (loc_junks _ _) fun _ => loc_ret _
theorem Mod.opqd {r : Ren} {g : Nat → Option (Blk F)} {w : World} (hM : Mod S r g w) (i : Nat) : Mod S r (fun n => if n = i then some .opq else g n) w := by
 have hgo : ∀ k, Gone g k → Gone (fun n => if n = i then some .opq else g n) k := fun k q => by
  by_cases e : k = i
  ·exact ⟨fun c t => by simp [e], fun c t q => by simp [e] at q, ⟨fun s => by simp [e], fun f => by simp [e]⟩⟩
  ·exact ⟨fun c t => by simpa only [if_neg e] using q.1 c t, fun c t => by simpa only [if_neg e] using q.2.1 c t, ⟨fun s => by simpa only [if_neg e] using q.2.2.1 s, fun f => by simpa only [if_neg e] using q.2.2.2 f⟩⟩
 refine ⟨fun n m b h1 h2 => (hM.inj n m b h1 h2).imp id (Or.imp (hgo n) (hgo m)), hM.lt, fun n c t h1 => ?_, fun n f h1 => ?_, hM.base, hM.glob, hM.own, fun n c t h1 => ?_, hM.sz, hM.lp.mono (.refl r) (fun n s h1 => ?_) (fun _ _ q => q), hM.ow.all (.refl r) (fun n f h1 => ?_) (fun _ _ q => q), hM.ad.mono (.refl r) fun n m y h1 => ?_⟩ <;> (split at h1; cases h1)
 ·exact hM.cells n c t h1
 ·exact hM.fact n f h1
 ·exact hM.room n c t h1
 ·exact h1
 ·exact h1
 ·exact h1
theorem takeSls_ok (heq : ∀ x y, eqF x y = true → x = y) {ts : Tr Value} {r : Ren} {w : World} {a : Act} (hT : TR r ts a) : ∀ {tms : List Nat} {ds : List (Sl F)} {h h' : Tr (Blk F)} {nx nx' : Nat} {R W : List Nat} {u : Unit}, takeSls eqF ts tms ds h nx = .ok u h' nx' R W → Mod S r h.get w →
  nx' = nx ∧ AtV S w ds (valsOf tms a) ∧ (owns ds (valsOf tms a)).Nodup ∧ (∀ n, h'.get n = if n ∈ W then some .opq else h.get n) ∧ (∀ i ∈ W, ∃ y, h.get i = some (.ow y)) ∧ ∀ b ∈ owns ds (valsOf tms a), ∃ i ∈ W, r.blk i = some b
 | [], [], h, h', nx, nx', R, W, u, e, hM => by
  obtain ⟨_, rfl, rfl, rfl⟩ := ret_ok (show (ret () : M F Unit) h nx = _ from e)
  exact ⟨rfl, rfl, List.nodup_nil, fun n => by simp, fun i hi => by simp at hi, fun b hb => by simp [owns] at hb⟩
 | [], _ :: _, h, h', nx, nx', R, W, u, e, _ => by cases (show (fail : M F Unit) h nx = _ from e)
 | _ :: _, [], h, h', nx, nx', R, W, u, e, _ => by cases (show (fail : M F Unit) h nx = _ from e)
 | t :: tms, d :: ds, h, h', nx, nx', R, W, u, e, hM => by
  obtain ⟨_, h1, nx1, R1, W1, R2, W2, e1, e2, rfl, rfl⟩ := bind_ok (show bind (takeSl eqF (opd ts (.tmp t)) d) (fun _ => takeSls eqF ts tms ds) h nx = _ from e)
  have hv := hT t
  have key : nx1 = nx ∧ d.is S w (a.eval (.tmp t)) ∧ (∀ n, h1.get n = if n ∈ W1 then some .opq else h.get n) ∧ (∀ i ∈ W1, ∃ y, h.get i = some (.ow y)) ∧ (∀ b ∈ ownOf d (a.eval (.tmp t)), ∃ i ∈ W1, r.blk i = some b) ∧ Mod S r h1.get w := by
   cases d with
   | p v =>
    unfold takeSl guard at e1
    obtain ⟨hp, e1⟩ := cond_ok e1
    obtain ⟨_, rfl, rfl, rfl⟩ := ret_ok e1
    simp only [Bool.and_eq_true] at hp
    have := eq0_ok _ _ hp.2
    rw [this] at hv
    exact ⟨rfl, hv.eq_of_plain2 hp.1, fun n => by simp, fun i hi => by simp at hi, fun b hb => by simp [ownOf] at hb, hM⟩
   | f x =>
    obtain ⟨y, h5, nx5, R5, W5, R6, W6, e5, e6, rfl, rfl⟩ := bind_ok (show bind (fact (opd ts (.tmp t))) (fun y => guard (eqF x y)) h nx = _ from e1)
    unfold guard at e6
    obtain ⟨hq, e6⟩ := cond_ok e6
    obtain ⟨_, rfl, rfl, rfl⟩ := ret_ok e6
    obtain rfl := heq _ _ hq
    obtain ⟨rfl, rfl, rfl, hh⟩ := fact_ok e5 hv hM
    have ho : isOne (a.eval (.tmp t)) = true := by
     unfold fact at e5
     cases ho : opd ts (.tmp t) with
     | chan i =>
      cases i with
      | none => rw [ho] at e5; simp [fail] at e5
      | some i =>
       rw [ho] at hv
       generalize a.eval (.tmp t) = z at hv
       cases hv with
       | same p => simp [plain] at p
       | opq _ q => exact q
     | _ => rw [ho] at e5; simp [fail] at e5
    exact ⟨rfl, ⟨hh, ho⟩, fun n => by simp, fun i hi => by simp at hi, fun b hb => by simp [ownOf] at hb, hM⟩
   | ow x =>
    unfold takeSl at e1
    simp only at e1
    cases hc : chanOf (opd ts (.tmp t)) with
    | none => rw [hc] at e1; simp [fail] at e1
    | some i =>
     rw [hc] at e1
     simp only at e1
     have hc' := chanOf_of hc
     obtain ⟨y, h5, nx5, R5, W5, R6, W6, e5, e6, rfl, rfl⟩ := bind_ok e1
     unfold rd at e5
     cases hg : h.get i with
     | none => rw [hg] at e5; cases e5
     | some bb =>
      rw [hg] at e5
      cases e5
      cases y <;> first | (cases (show (fail : M F Unit) _ _ = _ from e6); done) | skip
      rename_i y
      simp only at e6
      obtain ⟨hq, e7⟩ := cond_ok e6
      clear e6
      obtain rfl := heq _ _ hq
      unfold wr at e7
      rw [hg] at e7
      cases e7
      obtain ⟨v, q1, q2, q3, q4⟩ := hM.ow i _ hg
      rw [hc'] at hv
      obtain rfl := vr_chan hv q1
      refine ⟨rfl, ⟨q2, q3, fun b hb => (q4 b hb).2⟩, fun n => ?_, fun j hj => ?_, fun b hb => ⟨i, by simp, (q4 b (by simpa [ownOf] using hb)).1⟩, (hM.opqd i).congr fun n => .inr (Tr.get_set _ _ _ _)⟩
      ·rw [Tr.get_set]; simp
      ·have : j = i := by simpa using hj
       subst this; exact ⟨_, hg⟩
  obtain ⟨rfl, k1, k2, k3, k4, k5⟩ := key
  obtain ⟨rfl, j1, j2, j3, j4, j5⟩ := takeSls_ok heq hT e2 k5
  have hout : ∀ i ∈ W2, i ∉ W1 ∧ ∃ y, h.get i = some (.ow y) := fun i hi => by
   obtain ⟨y, q⟩ := j4 i hi
   rw [k2] at q
   split at q
   ·cases q
   ·exact ⟨by assumption, y, q⟩
  refine ⟨rfl, ⟨_, _, rfl, k1, j1⟩, ?_, fun n => ?_, fun i hi => ?_, fun b hb => ?_⟩
  ·show (ownOf d (a.eval (.tmp t)) ++ owns ds (valsOf tms a)).Nodup
   refine List.nodup_append.2 ⟨?_, j2, fun b hb b' hb' q => ?_⟩
   ·cases d with
    | ow x => show ((blkV _).toList).Nodup; cases blkV (a.eval (.tmp t)) <;> simp
    | _ => exact List.nodup_nil
   ·subst q
    obtain ⟨i, q1, q2⟩ := k4 b hb
    obtain ⟨j, q3, q4⟩ := j5 b hb'
    obtain ⟨y, q5⟩ := k3 i q1
    obtain ⟨q6, z, q7⟩ := hout j q3
    rcases hM.inj i j b q2 q4 with q | q | q
    ·exact q6 (q ▸ q1)
    ·exact q.2.2.2 y q5
    ·exact q.2.2.2 z q7
  ·rw [j3, k2]
   by_cases h2 : n ∈ W2
   ·rw [if_pos h2, if_pos (List.mem_append_right _ h2)]
   ·rw [if_neg h2]
    by_cases h1 : n ∈ W1
    ·rw [if_pos h1, if_pos (List.mem_append_left _ h1)]
    ·rw [if_neg h1, if_neg (fun q => (List.mem_append.1 q).elim h1 h2)]
  ·rcases List.mem_append.1 hi with hi | hi
   ·exact k3 i hi
   ·exact (hout i hi).2
  ·have hb' : b ∈ ownOf d (a.eval (.tmp t)) ++ owns ds (valsOf tms a) := hb
   rcases List.mem_append.1 hb' with hb' | hb'
   ·obtain ⟨i, q1, q2⟩ := k4 b hb'
    exact ⟨i, List.mem_append_left _ q1, q2⟩
   ·obtain ⟨i, q1, q2⟩ := j5 b hb'
    exact ⟨i, List.mem_append_right _ q1, q2⟩
theorem mod_frame {r : Ren} {g : Nat → Option (Blk F)} {w w' : World} {I O : List Nat} (hM : Mod S r g w) (hI : ∀ i ∈ I, ∃ y, g i = some (.ow y)) (hO : ∀ b ∈ O, ∃ i ∈ I, r.blk i = some b) (hOc : ∀ b ∈ O, S.G ≤ b ∧ ∃ c t z, w.heap[b]? = some (.cells c t z) ∧ S.hid b t = false) (hf : Frm O w w') :
  Mod S r (fun n => if n ∈ I then some .opq else g n) w' := by
 have hgo : ∀ k, Gone g k → Gone (fun n => if n ∈ I then some .opq else g n) k := fun k q => by
  by_cases e : k ∈ I
  ·exact ⟨fun c t => by simp [e], fun c t q => by simp [e] at q, ⟨fun s => by simp [e], fun f => by simp [e]⟩⟩
  ·exact ⟨fun c t => by simpa only [if_neg e] using q.1 c t, fun c t => by simpa only [if_neg e] using q.2.1 c t, ⟨fun s => by simpa only [if_neg e] using q.2.2.1 s, fun f => by simpa only [if_neg e] using q.2.2.2 f⟩⟩
 have hnot : ∀ n b, n ∉ I → r.blk n = some b → ¬ Gone g n → b ∉ O := fun n b hn hb hg hq => by
  obtain ⟨i, h1, h2⟩ := hO b hq
  obtain ⟨y, h3⟩ := hI i h1
  rcases hM.inj n i b hb h2 with q | q | q
  ·exact hn (q ▸ h1)
  ·exact hg q
  ·exact q.2.2.2 y h3
 have hloop : ∀ (b : Nat) (L : Loop), w.heap[b]? = some (.loop L) → w'.heap[b]? = some (.loop L) := fun b L hb => hf.keep b _ hb fun q => by
  obtain ⟨_, c, t, z, h, _⟩ := hOc b q
  rw [hb] at h; cases h
 have hhid : ∀ (b : Nat) (c : Array Value) (t : TypeId) (z : Nat × Nat), w.heap[b]? = some (.cells c t z) → S.hid b t = true → w'.heap[b]? = some (.cells c t z) := fun b c t z hb hh => hf.keep b _ hb fun q => by
  obtain ⟨_, c2, t2, z2, h, h2⟩ := hOc b q
  rw [hb] at h
  cases h
  rw [hh] at h2; cases h2
 refine ⟨fun n m b h1 h2 => (hM.inj n m b h1 h2).imp id (Or.imp (hgo n) (hgo m)), fun n b h1 => Nat.lt_of_lt_of_le (hM.lt n b h1) hf.size, fun n c t h1 => ?_, fun n f h1 => ?_, S.baseS w w' hM.base fun b o hb ho => hf.keep b o ho fun q => ?_, hM.glob, hM.own, fun n c t h1 => ?_, Nat.le_trans hM.sz hf.size, hM.lp.mono (.refl r) (fun n s h1 => ?_) hloop,
  hM.ow.mono (.refl r) (fun n f h1 => ?_) (fun b c t z hb hq => ?_), hM.ad.mono (.refl r) fun n m y h1 => ?_⟩
 ·split at h1
  ·cases h1
  ·rename_i hn
   obtain ⟨b, c', q1, q2, q3, q4⟩ := hM.cells n c t h1
   exact ⟨b, c', q1, hf.keep b _ q2 (hnot n b hn q1 fun q => q.1 c t h1), q3, q4⟩
 ·split at h1
  ·cases h1
  ·obtain ⟨v, q1, q2, q3⟩ := hM.fact n f h1
   exact ⟨v, q1, S.stable f w w' v q2 hhid, q3⟩
 ·have := (hOc b q).1; omega
 ·split at h1
  ·cases h1
  ·rename_i hn
   obtain ⟨b, c', q1, q2, q3, q4, q5⟩ := hM.room n c t h1
   cases c with
   | nil =>
    obtain ⟨⟨c2⟩, h2, h3⟩ := hf.loops.sh b _ _ _ q2
    exact ⟨b, c2, q1, h2, by simpa using VsR.nil, q4, by
     have : c2.length = c'.length := h3
     omega⟩
   | cons v c => exact ⟨b, c', q1, hf.keep b _ q2 (hnot n b hn q1 fun q => by cases q.2.1 _ _ h1), q3, q4, q5⟩
 ·split at h1
  ·cases h1
  ·exact h1
 ·split at h1
  ·cases h1
  ·exact h1
 ·rcases hq with hh | ⟨n, f, h1, hb2⟩
  ·exact hhid b c t z hb hh
  ·split at h1
   ·cases h1
   ·rename_i hn
    exact hf.keep b _ hb (hnot n b hn hb2 fun q => q.2.2.2 f h1)
 ·split at h1
  ·cases h1
  ·exact h1
end
end Ev
end Go.Proofs.Ytnlhjcfpfapafaa
