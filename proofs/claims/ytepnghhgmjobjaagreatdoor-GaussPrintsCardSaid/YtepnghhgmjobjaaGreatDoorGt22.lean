/- Contracts, in this order: Runs over ref90's numbers: sums, differences, products, orde · The interpreter over numbers told by expressions: package ex · The interpreter over numbers told by expressions: from a run · Runs with blocks that are handed in, and a new one as the an · Runs over ref90's numbers: SetFrac stores a fraction; what t -/
import Derived.Test.YtepnghhgmjobjaaGreatDoorGt20
import Derived.Test.YtepnghhgmjobjaaGreatDoorGt21
namespace Go.Proofs.YtepnghhgmjobjaaGreatDoor
open Go Go.RowKit
namespace Ev
set_option maxRecDepth 100000
noncomputable def wv (v : Value) : M Wf Xe := cond (isNilV v) (ret x0) (bind (fact v) fun f => match f with
  | .wd e => ret e
  | _ => fail)
theorem loc_wv (v : Value) : Loc (wv v) := by
  unfold wv
  refine loc_cond (loc_ret _) (loc_bind (loc_fact _) fun f => ?_)
  split <;> first | exact loc_ret _ | exact loc_fail
noncomputable def w2 (args : List Value) (k : Xe → Xe → M Wf Value) : Option (M Wf Value) := match args with
  | [a, b] => some (bind (wv a) fun x => bind (wv b) fun y => cond (xokB x && xokB y) (k x y) fail)
  | _ => none
noncomputable def newW (e : Xe) : M Wf Value := newFact (.wd e)
noncomputable def subA (A : List Xs) (x y : Xe) : M Wf Value := match askX A 3 x y with
  | some t => cond t fail (newW (.sub x y))
  | none => match askX A 3 y x with
    | some t => cond t (newW (.sub x y)) fail
    | none => fail
noncomputable def cmpA (A : List Xs) (x y : Xe) : M Wf Value := match askX A 3 x y with
  | some t => cond t (ret (.int .i64 (-1))) (match askX A 2 x y with
    | some u => ret (.int .i64 (cond u 0 1))
    | none => fail)
  | none => fail
theorem loc_newW (e : Xe) : Loc (newW e) := loc_newFact _
theorem loc_subA (A : List Xs) (x y : Xe) : Loc (subA A x y) := by
  unfold subA
  (repeat' split) <;> first | exact loc_cond loc_fail (loc_newW _) | exact loc_cond (loc_newW _) loc_fail | exact loc_fail
theorem loc_cmpA (A : List Xs) (x y : Xe) : Loc (cmpA A x y) := by
  unfold cmpA
  split
  · refine loc_cond (loc_ret _) ?_
    split <;> first | exact loc_ret _ | exact loc_fail
  · exact loc_fail
section
variable {ρ : XEnv} {A : List Xs} {h h' : Tr (Blk Wf)} {nx nx' : Nat} {Q W : List Nat} {r : Ren} {w : World}
theorem wv_ok {v v' : Value} {x : Xe} (e : wv v h nx = .ok x h' nx' Q W) (hv : VR r v v') (hM : Mod (wSig ρ) r h.get w) : h' = h ∧ nx' = nx ∧ W = [] ∧ R.Nin w v' (x.ev ρ.q) := by
  unfold wv at e
  cases hi : isNilV v with
  | true =>
    rw [hi] at e
    obtain ⟨rfl, rfl, rfl, rfl⟩ := ret_ok e
    refine ⟨rfl, rfl, rfl, ?_⟩
    cases v with
    | slice a m c =>
      cases a with
      | some _ => simp [isNilV] at hi
      | none =>
        simp only [isNilV, Bool.and_eq_true] at hi
        have h1 := Nat.eq_of_beq_eq_true hi.1
        have h2 := Nat.eq_of_beq_eq_true hi.2
        subst h1; subst h2
        rw [hv.nilslc]
        exact R.Nin.nil_ w
    | _ => simp [isNilV] at hi
  | false =>
    rw [hi] at e
    obtain ⟨f, h1, nx1, R1, W1, R2, W2, e1, e2, rfl, rfl⟩ := bind_ok (show bind (fact v) (fun f => match f with
      | .wd e => ret e
      | _ => fail : Wf → M Wf Xe) h nx = _ from e)
    obtain ⟨rfl, rfl, rfl, hh⟩ := fact_ok e1 hv hM
    cases f with
    | lp _ => cases (show (fail : M Wf Xe) _ _ = _ from e2)
    | st _ => cases (show (fail : M Wf Xe) _ _ = _ from e2)
    | sb => cases (show (fail : M Wf Xe) _ _ = _ from e2)
    | by_ _ => cases (show (fail : M Wf Xe) _ _ = _ from e2)
    | sx _ => cases (show (fail : M Wf Xe) _ _ = _ from e2)
    | ln _ => cases (show (fail : M Wf Xe) _ _ = _ from e2)
    | iv _ _ => cases (show (fail : M Wf Xe) _ _ = _ from e2)
    | wd e0 =>
      obtain ⟨rfl, rfl, rfl, rfl⟩ := ret_ok e2
      exact ⟨rfl, rfl, by simp, hh⟩
def GoesW (ρ : XEnv) (f : FuncId) (args' : List Value) (r : Ren) (w : World) (nx nx' : Nat) (W : List Nat) (g' : Nat → Option (Blk Wf)) (v : Value) : Prop :=
  Calls Tryz.prog f ⟨args'⟩ w fun e w' => ∃ v' r', e = .returned v' ∧ VR r' v v' ∧ Ext (wSig ρ) r w nx nx' W g' r' w'
theorem w2_ok {f : FuncId} {k : Xe → Xe → M Wf Value} (hl : ∀ n m, Loc (k n m)) (hk : ∀ x y (h : Tr (Blk Wf)) nx v h' nx' Q W, k x y h nx = .ok v h' nx' Q W → ∀ r w a b, R.Nin w a (x.ev ρ.q) → R.Nin w b (y.ev ρ.q) → R.Sml (x.ev ρ.q) → R.Sml (y.ev ρ.q) → Mod (wSig ρ) r h.get w → New r nx nx' → GoesW ρ f [a, b] r w nx nx' W h'.get v) :
    SumF (wSig ρ) Tryz.prog f (fun args => w2 args k) := by
  intro args m e
  unfold w2 at e
  rcases args with _ | ⟨a, _ | ⟨b, _ | ⟨c, l⟩⟩⟩ <;> simp only [reduceCtorEq, Option.some.injEq] at e
  subst e
  refine ⟨loc_bind (loc_wv a) fun n => loc_bind (loc_wv b) fun m => loc_cond (hl n m) loc_fail, ?_⟩
  intro h nx v h' nx' Q W e r w args' ha hM hN
  cases ha with
  | cons ha1 ha2 =>
    cases ha2 with
    | cons hb1 hb2 =>
      cases hb2
      obtain ⟨n, h1, nx1, R1, W1, R2, W2, e1, e2, rfl, rfl⟩ := bind_ok e
      obtain ⟨rfl, rfl, rfl, hn⟩ := wv_ok e1 ha1 hM
      obtain ⟨m, h2, nx2, R3, W3, R4, W4, e3, e4, rfl, rfl⟩ := bind_ok e2
      obtain ⟨rfl, rfl, rfl, hm⟩ := wv_ok e3 hb1 hM
      obtain ⟨hs, e5⟩ := cond_ok e4
      simp only [Bool.and_eq_true] at hs
      simpa [GoesW] using hk n m _ _ _ _ _ _ _ e5 r w _ _ hn hm (xokB_sml hs.1) (xokB_sml hs.2) hM hN
theorem goes_w {e0 : Xe} {f : FuncId} {args' : List Value} {v : Value} (e : newW e0 h nx = .ok v h' nx' Q W) (hM : Mod (wSig ρ) r h.get w) (hN : New r nx nx')
    (c : Calls Tryz.prog f ⟨args'⟩ w fun e w' => ∃ v', e = .returned v' ∧ R.Nin w' v' (e0.ev ρ.q) ∧ Below w.heap.size w w') : GoesW ρ f args' r w nx nx' W h'.get v := by
  unfold newW at e
  obtain ⟨i, h1, nx1, R1, W1, R2, W2, e1, e2, rfl, rfl⟩ := bind_ok e
  obtain ⟨rfl, rfl, rfl, rfl⟩ := ret_ok e2
  unfold fresh at e1
  cases e1
  refine c.mono ?_
  rintro en w' ⟨v', rfl, hv, hb⟩
  obtain ⟨r', hX, hr⟩ := ext_fact (S := wSig ρ) (f := .wd e0) hM hb hN hv (nin_one hv)
  exact ⟨v', r', rfl, .opq hr (nin_one hv), by simpa using hX.congr fun n => .inr (Tr.get_set _ _ _ _)⟩
theorem w_mul : SumF (wSig ρ) Tryz.prog 202 (fun args => w2 args fun x y => newW (.mul x y)) :=
  w2_ok (fun _ _ => loc_newW _) fun x y h nx v h' nx' Q W e r w a b ha hb hx hy hM hN => goes_w e hM hN (R.mul_nat w a b _ _ ha hb hx hy)
theorem w_add : SumF (wSig ρ) Tryz.prog 203 (fun args => w2 args fun x y => newW (.add x y)) :=
  w2_ok (fun _ _ => loc_newW _) fun x y h nx v h' nx' Q W e r w a b ha hb hx hy hM hN => goes_w e hM hN (R.add_nat w a b _ _ ha hb hx hy)
theorem w_gcd : SumF (wSig ρ) Tryz.prog 187 (fun args => w2 args fun x y => newW (.gcd x y)) :=
  w2_ok (fun _ _ => loc_newW _) fun x y h nx v h' nx' Q W e r w a b ha hb hx hy hM hN => goes_w e hM hN (R.gcd_nat w a b _ _ ha hb hx hy)
theorem w_sub (hA : AllX ρ A) : SumF (wSig ρ) Tryz.prog 204 (fun args => w2 args (subA A)) :=
  w2_ok (fun _ _ => loc_subA A _ _) fun x y h nx v h' nx' Q W e r w a b ha hb hx hy hM hN => by
    have fin : y.ev ρ.q ≤ x.ev ρ.q → newW (.sub x y) h nx = .ok v h' nx' Q W → GoesW ρ _ [a, b] r w nx nx' W h'.get v := fun hle e => goes_w e hM hN (R.less_nat w a b _ _ ha hb hx hle)
    unfold subA at e
    cases h3 : askX A 3 x y with
    | some t =>
      rw [h3] at e
      cases t with
      | true => cases (show (fail : M Wf Value) h nx = _ from e)
      | false =>
        have := askX_less hA h3
        exact fin (Nat.le_of_not_lt fun hl => by cases this.2 hl) e
    | none =>
      rw [h3] at e
      cases h4 : askX A 3 y x with
      | none => rw [h4] at e; cases (show (fail : M Wf Value) h nx = _ from e)
      | some t =>
        rw [h4] at e
        cases t with
        | false => cases (show (fail : M Wf Value) h nx = _ from e)
        | true => exact fin (Nat.le_of_lt ((askX_less hA h4).1 rfl)) e
theorem w_cmp (hA : AllX ρ A) : SumF (wSig ρ) Tryz.prog 196 (fun args => w2 args (cmpA A)) :=
  w2_ok (fun _ _ => loc_cmpA A _ _) fun x y h nx v h' nx' Q W e r w a b ha hb hx hy hM hN => by
    have c := R.cmp_nat w a b _ _ ha hb
    have fin : ∀ i : Int, Big.cmpI (x.ev ρ.q) (y.ev ρ.q) = i → (ret (.int .i64 i) : M Wf Value) h nx = .ok v h' nx' Q W → GoesW ρ _ [a, b] r w nx nx' W h'.get v := fun i hi e => by
      rw [hi] at c
      exact goes_pl e rfl hM (c.mono fun _ _ hh => ⟨hh.1, hh.2.below _⟩)
    unfold cmpA at e
    cases h3 : askX A 3 x y with
    | none => rw [h3] at e; cases (show (fail : M Wf Value) h nx = _ from e)
    | some t =>
      rw [h3] at e
      have h3' := askX_less hA h3
      cases t with
      | true => exact fin _ (Big.cmpI_lt (h3'.1 rfl)) e
      | false =>
        have hn : ¬ x.ev ρ.q < y.ev ρ.q := fun hl => by cases h3'.2 hl
        cases h2 : askX A 2 x y with
        | none =>
          simp only [cond_false, h2] at e
          cases (show (fail : M Wf Value) h nx = _ from e)
        | some u =>
          simp only [cond_false, h2] at e
          have h2' := askX_same hA h2
          cases u with
          | true => exact fin _ (by rw [h2'.1 rfl]; exact Big.cmpI_eq _) e
          | false =>
            have hne : x.ev ρ.q ≠ y.ev ρ.q := fun hl => by cases h2'.2 hl
            exact fin _ (Big.cmpI_gt (by omega)) e
end
end Ev
end Go.Proofs.YtepnghhgmjobjaaGreatDoor
namespace Go.Proofs.YtepnghhgmjobjaaGreatDoor
open Go Go.RowKit
namespace Ev
section
variable {ρ : Env} {A : List As}
def GoesS (ρ : Env) (f : FuncId) (args' : List Value) (r : Ren) (w : World) (nx nx' : Nat) (W : List Nat) (g' : Nat → Option (Blk Sy)) (v : Value) : Prop :=
  Calls Tryz.prog f ⟨args'⟩ w fun e w' => ∃ v' r', e = .returned v' ∧ VR r' v v' ∧ Ext (symSig ρ) r w nx nx' W g' r' w'
noncomputable def zeroNum : Value := .agg ⟨[.bool false, .slice none 0 0, .slice none 0 0]⟩
noncomputable def readK (A : List As) (o : Option Qe) : M Sy Value := match o with
  | some e => match fitB A e with
    | some t => cond t (bind (newFacts [.ng e, .nu e, .de e]) fun vs => ret (.tuple ⟨[.agg ⟨vs⟩, .bool true]⟩)) fail
    | none => fail
  | none => ret (.tuple ⟨[zeroNum, .bool false]⟩)
theorem ssum_read (hA : AllH ρ A) : SumF (symSig ρ) Tryz.prog 95 (fun args => match args with
    | [a] => match a with
      | .agg cs => some (bind (frcV cs.toList) (readK A))
      | _ => none
    | _ => none) := by
  intro args m e
  rcases args with _ | ⟨a, _ | ⟨c, l⟩⟩ <;> simp only [reduceCtorEq] at e
  cases a with
  | agg cs =>
    obtain ⟨l⟩ := cs
    simp only [Option.some.injEq] at e
    subst e
    refine ⟨loc_bind (loc_frcV _) fun o => ?_, ?_⟩
    · unfold readK
      cases o with
      | none => exact loc_ret _
      | some e =>
        simp only
        cases fitB A e with
        | none => exact loc_fail
        | some t => exact loc_cond (loc_bind (loc_newFacts _) fun _ => loc_ret _) loc_fail
    · intro h nx v h' nx' R W e r w args' ha hM hN
      cases ha with
      | cons ha1 ha2 =>
        cases ha2
        obtain ⟨l', rfl, hl⟩ := vr_agg ha1
        obtain ⟨o, h1, nx1, R1, W1, R2, W2, e1, e2, rfl, rfl⟩ := bind_ok e
        obtain ⟨rfl, rfl, rfl, ho⟩ := frcV_ok e1 hl hM
        unfold readK at e2
        cases o with
        | none =>
          obtain ⟨x, hx, rfl⟩ := ho
          simpa using goes_pl e2 rfl hM (exRead_bad w x hx)
        | some q =>
          simp only at e2
          cases hs : fitB A q with
          | none => rw [hs] at e2; exact absurd e2 (by simp [fail])
          | some t =>
            rw [hs] at e2
            obtain ⟨ht, e3⟩ := cond_ok e2
            subst ht
            have hf := (fitB_ok hA hs).1 rfl
            obtain rfl : l' = _ := ho
            simpa using goes_aggT rfl e3 hM hN ((exRead_ok w _ hf).mono fun _ w' ⟨v', h1, h2, h3⟩ => by
              obtain ⟨us, rfl, hu⟩ := num_holds (w := w') h2
              exact ⟨us, h1, hu, h3⟩)
  | _ => simp at e
end
end Ev
end Go.Proofs.YtepnghhgmjobjaaGreatDoor
namespace Go.Proofs.YtepnghhgmjobjaaGreatDoor
open Go Go.RowKit
namespace Ev
inductive D1 (F : Type) where
  | p (v : Value)
  | f (x : F)
inductive D2 (F : Type) where
  | one (d : D1 F)
  | agg (l : List (D1 F))
inductive D3 (F : Type) where
  | one (d : D2 F)
  | tuple (l : List (D2 F))
section
variable {F : Type}
def D1.is (S : Sig F) (w : World) : D1 F → Value → Prop
  | .p u, v => v = u
  | .f x, v => S.holds x w v
def D1.all (S : Sig F) (w : World) : List (D1 F) → List Value → Prop
  | [], l => l = []
  | d :: ds, l => ∃ v vs, l = v :: vs ∧ d.is S w v ∧ D1.all S w ds vs
def D2.is (S : Sig F) (w : World) : D2 F → Value → Prop
  | .one d, v => d.is S w v
  | .agg ds, v => ∃ vs, v = .agg ⟨vs⟩ ∧ D1.all S w ds vs
def D2.all (S : Sig F) (w : World) : List (D2 F) → List Value → Prop
  | [], l => l = []
  | d :: ds, l => ∃ v vs, l = v :: vs ∧ d.is S w v ∧ D2.all S w ds vs
def D3.is (S : Sig F) (w : World) : D3 F → Value → Prop
  | .one d, v => d.is S w v
  | .tuple ds, v => ∃ vs, v = .tuple ⟨vs⟩ ∧ D2.all S w ds vs
noncomputable def isChan : Value → Option Nat
  | .chan i => i
  | _ => none
noncomputable def see1 (h : Tr (Blk F)) (v : Value) : Option (D1 F) := match isChan v with
  | some i => match h.get i with
    | some b => match b with
      | .fact f => some (.f f)
      | .cells _ _ => none
    | none => none
  | none => cond (plain v) (some (.p v)) none
noncomputable def consO {α : Type} (a : Option α) (b : Option (List α)) : Option (List α) := match a with
  | some d => match b with
    | some ds => some (d :: ds)
    | none => none
  | none => none
noncomputable def seeL {α : Type} (s : Value → Option α) (l : List Value) : Option (List α) := List.rec (motive := fun _ => Option (List α)) (some []) (fun v _ ih => consO (s v) ih) l
noncomputable def see2 (h : Tr (Blk F)) (v : Value) : Option (D2 F) := match v with
  | .agg cs => (seeL (see1 h) cs.toList).map .agg
  | v => (see1 h v).map .one
noncomputable def see3 (h : Tr (Blk F)) (v : Value) : Option (D3 F) := match v with
  | .tuple cs => (seeL (see2 h) cs.toList).map .tuple
  | v => (see2 h v).map .one
variable {S : Sig F} {r : Ren} {h : Tr (Blk F)} {w : World}
theorem isChan_of {v : Value} {i : Nat} (e : isChan v = some i) : v = .chan (some i) := by
  cases v <;> simp [isChan] at e
  subst e; rfl
theorem see1_ok {v v' : Value} {d : D1 F} (e : see1 h v = some d) (hM : Mod S r h.get w) (hv : VR r v v') : d.is S w v' := by
  unfold see1 at e
  cases hc : isChan v with
  | none =>
    rw [hc] at e
    simp only at e
    cases hp : plain v with
    | false => rw [hp] at e; cases e
    | true =>
      rw [hp] at e
      cases e
      exact hv.eq_of_plain hp
  | some i =>
    rw [hc] at e
    have := isChan_of hc
    subst this
    simp only at e
    cases hg : h.get i with
    | none => rw [hg] at e; cases e
    | some b =>
      rw [hg] at e
      cases b with
      | cells _ _ => cases e
      | fact f =>
        cases e
        obtain ⟨v0, hv0, hh, ho⟩ := hM.fact _ _ hg
        cases hv with
        | same p => simp [plain] at p
        | opq hp _ => rw [hv0] at hp; injection hp with hp; subst hp; exact hh
theorem seeL1_ok : ∀ {l l' : List Value} {ds : List (D1 F)}, seeL (see1 h) l = some ds → Mod S r h.get w → VsR r l l' → D1.all S w ds l'
  | [], _, ds, e, hM, hv => by
    cases hv
    cases (show some [] = some ds from e)
    rfl
  | v :: l, _, ds, e, hM, hv => by
    have e' : consO (see1 h v) (seeL (see1 h) l) = some ds := e
    unfold consO at e'
    cases hv with
    | cons ha hb =>
      cases h1 : see1 h v with
      | none => rw [h1] at e'; cases e'
      | some d =>
        rw [h1] at e'
        cases h2 : seeL (see1 h) l with
        | none => rw [h2] at e'; cases e'
        | some ds2 =>
          rw [h2] at e'
          cases e'
          exact ⟨_, _, rfl, see1_ok h1 hM ha, seeL1_ok h2 hM hb⟩
theorem see2_ok {v v' : Value} {d : D2 F} (e : see2 h v = some d) (hM : Mod S r h.get w) (hv : VR r v v') : d.is S w v' := by
  unfold see2 at e
  cases v with
  | agg cs =>
    obtain ⟨l⟩ := cs
    simp only at e
    cases h1 : seeL (see1 h) l with
    | none => rw [h1] at e; cases e
    | some ds =>
      rw [h1] at e
      cases e
      obtain ⟨l', rfl, hl⟩ := vr_agg hv
      exact ⟨_, rfl, seeL1_ok h1 hM hl⟩
  | _ =>
    simp only at e
    obtain ⟨d1, h1, rfl⟩ := Option.map_eq_some_iff.1 e
    exact see1_ok h1 hM hv
theorem seeL2_ok : ∀ {l l' : List Value} {ds : List (D2 F)}, seeL (see2 h) l = some ds → Mod S r h.get w → VsR r l l' → D2.all S w ds l'
  | [], _, ds, e, hM, hv => by
    cases hv
    cases (show some [] = some ds from e)
    rfl
  | v :: l, _, ds, e, hM, hv => by
    have e' : consO (see2 h v) (seeL (see2 h) l) = some ds := e
    unfold consO at e'
    cases hv with
    | cons ha hb =>
      cases h1 : see2 h v with
      | none => rw [h1] at e'; cases e'
      | some d =>
        rw [h1] at e'
        cases h2 : seeL (see2 h) l with
        | none => rw [h2] at e'; cases e'
        | some ds2 =>
          rw [h2] at e'
          cases e'
          exact ⟨_, _, rfl, see2_ok h1 hM ha, seeL2_ok h2 hM hb⟩
theorem see3_ok {v v' : Value} {d : D3 F} (e : see3 h v = some d) (hM : Mod S r h.get w) (hv : VR r v v') : d.is S w v' := by
  unfold see3 at e
  cases v with
  | tuple cs =>
    obtain ⟨l⟩ := cs
    simp only at e
    cases h1 : seeL (see2 h) l with
    | none => rw [h1] at e; cases e
    | some ds =>
      rw [h1] at e
      cases e
      cases hv with
      | same p => simp [plain] at p
      | tuple hl => exact ⟨_, rfl, seeL2_ok h1 hM hl⟩
  | _ =>
    simp only at e
    obtain ⟨d1, h1, rfl⟩ := Option.map_eq_some_iff.1 e
    exact see2_ok h1 hM hv
inductive Lay where
  | p (v : Value)
  | one
  | agg (k : Nat)
noncomputable def split (l : List Lay) : List Value → List Value := List.rec (motive := fun _ => List Value → List Value) (fun _ => []) (fun x _ ih vs => match x with
  | .p v => v :: ih vs
  | .one => vs.headD undef :: ih vs.tail
  | .agg k => .agg ⟨vs.take k⟩ :: ih (vs.drop k)) l
noncomputable def plainLay (l : List Lay) : Bool := List.rec (motive := fun _ => Bool) true (fun x _ ih => match x with
  | .p v => plain2 v && ih
  | _ => ih) l
theorem split_ok : ∀ {l : List Lay}, plainLay l = true → ∀ {vs us : List Value}, VsR r vs us → VsR r (split l vs) (split l us)
  | [], _, _, _, _ => .nil
  | .p v :: l, hp, vs, us, hv => by
    have hp' : (plain2 v && plainLay l) = true := hp
    simp only [Bool.and_eq_true] at hp'
    exact .cons (VR.same2 hp'.1) (split_ok hp'.2 hv)
  | .one :: l, hp, vs, us, hv => by
    refine .cons ?_ (split_ok (l := l) hp ?_)
    · cases hv with
      | nil => exact vr_undef
      | cons a _ => exact a
    · cases hv with
      | nil => exact .nil
      | cons _ b => exact b
  | .agg k :: l, hp, vs, us, hv => .cons (.agg (hv.take k)) (split_ok (l := l) hp (hv.drop k))
noncomputable def tells (fs : List F) (ls : List Lay) (m : List Value → M F Value) : Option (D3 F) := match newFacts fs .nil 100000 with
  | .no => none
  | .ok vs h1 nx1 _ _ => match m (split ls vs) h1 nx1 with
    | .no => none
    | .ok a h2 _ _ W => cond (geAll nx1 W) (see3 h2 a) none
theorem newFacts_W : ∀ (l : List F) {h h' : Tr (Blk F)} {nx nx' : Nat} {R W : List Nat} {vs : List Value}, newFacts l h nx = .ok vs h' nx' R W → W = []
  | [], h, h', nx, nx', R, W, vs, e => (ret_ok (show (ret [] : M F _) h nx = _ from e)).2.2.2
  | f :: l, h, h', nx, nx', R, W, vs, e => by
    obtain ⟨x, h3, nx3, R3, W3, R4, W4, e3, e4, rfl, rfl⟩ := bind_ok (show bind (newFact f) (fun x => bind (newFacts l) fun l => ret (x :: l)) h nx = _ from e)
    obtain ⟨i, h5, nx5, R5, W5, R6, W6, e5, e6, rfl, rfl⟩ := bind_ok e3
    obtain ⟨rfl, rfl, rfl, rfl⟩ := ret_ok e6
    unfold fresh at e5
    cases e5
    obtain ⟨xs, h7, nx7, R7, W7, R8, W8, e7, e8, rfl, rfl⟩ := bind_ok e4
    obtain ⟨rfl, rfl, rfl, rfl⟩ := ret_ok e8
    rw [newFacts_W l e7]; rfl
theorem tells_calls {P : Program} {C : Cfg F} [HardLoc C] {sum : Sums F} {n : Nat} {f : FuncId} {fs : List F} {ls : List Lay} {d : D3 F} (hF : Fits S P C) (hs : SumOK S P sum) (e : tells fs ls (call P C sum n f) = some d) (ha : plainLay ls = true) (hx : S.G ≤ 100000)
    {w : World} {us : List Value} (hu : HoldsL S w fs us) (hG : S.G ≤ w.heap.size) (hb : S.base w) :
    Calls P f ⟨split ls us⟩ w fun e w' => ∃ v', e = .returned v' ∧ d.is S w' v' ∧ Below w.heap.size w w' := by
  unfold tells at e
  cases h1 : newFacts fs .nil 100000 with
  | no => rw [h1] at e; cases e
  | ok vs hh nx1 R1 W1 =>
    rw [h1] at e
    simp only at e
    cases h2 : call P C sum n f (split ls vs) hh nx1 with
    | no => rw [h2] at e; cases e
    | ok a h3 nx2 R W =>
      rw [h2] at e
      simp only at e
      cases hc : geAll nx1 W with
      | false => rw [hc] at e; cases e
      | true =>
        rw [hc] at e
        simp only [cond_true] at e
        have hW := geAll_ok hc
        have hW1 := newFacts_W fs h1
        subst hW1
        have hg : (Tr.get (.nil : Tr (Blk F))) = fun _ => none := funext fun k => Tr.get_nil k
        have hN0 : ∀ m, New (ren0 S.G) 100000 m := fun m k h1 _ => ⟨if_neg (by omega), rfl⟩
        obtain ⟨hle, r1, hX, hvs⟩ := newFacts_ok fs h1 (by rw [hg]; exact mod0 hG hb) (hN0 nx1) hu
        have hcl := call_ok hF hs n
        have hfr : Fr hh nx1 := ((loc_newFacts fs).2 _ _ _ _ _ _ _ h1 (fun k _ => Tr.get_nil k)).fr
        have hrun := Run.self (hcl.loc f _) h2 hfr
        have hN : New r1 nx1 nx2 := New.after (hN0 nx2) hX hle
        refine (hcl.run f _ _ _ _ _ _ _ _ hrun r1 w _ (split_ok ha hvs) hX.mod hN).mono ?_
        rintro en w' ⟨v', r', rfl, hv, hY⟩
        refine ⟨v', rfl, see3_ok e hY.mod hv, hY.os, hY.tape, hY.output, hY.size, fun b hb' => ?_⟩
        have hbo : w.heap[b]? = some w.heap[b] := Array.getElem?_eq_getElem hb'
        rw [hbo]
        refine hY.keep b _ hbo fun k hk he => ?_
        have hge := hW k hk
        rcases hX.new k b he with h5 | h5
        · rw [show (ren0 S.G).blk k = none from if_neg (by omega)] at h5; cases h5
        · omega
end
noncomputable def symCfg (hd : Oper → List Value → M Sy Nxt) : Cfg Sy where
  hid := symHid
  G := natCfg.G
  tab := natCfg.tab
  len := symLen
  hard := hd
end Ev
end Go.Proofs.YtepnghhgmjobjaaGreatDoor
namespace Go.Proofs.YtepnghhgmjobjaaGreatDoor
open Go Go.RowKit
namespace Ev
section
variable {F : Type} {S : Sig F}
theorem mod_old {r : Ren} {g : Nat → Option (Blk F)} {w : World} {nx b : Nat} {c c' : List Value} {t : TypeId} (hM : Mod S r g w) (hN : r.blk nx = none ∧ r.val nx = none) (hb : w.heap[b]? = some (.cells ⟨c'⟩ t (0, 0))) (hc : VsR r c c') (ht : S.hid t = false) (hno : ∀ n, r.blk n ≠ some b) :
    r.le ⟨fun n => if n = nx then some b else r.blk n, r.val⟩ ∧ Mod S ⟨fun n => if n = nx then some b else r.blk n, r.val⟩ (fun n => if n = nx then some (.cells c t) else g n) w := by
  have hle : r.le ⟨fun n => if n = nx then some b else r.blk n, r.val⟩ := by
    refine ⟨fun n a e => ?_, fun _ _ e => e⟩
    have : n ≠ nx := fun h => by rw [h, hN.1] at e; cases e
    simp only [if_neg this, e]
  refine ⟨hle, ⟨fun n m a h1 h2 => ?_, fun n a h1 => ?_, fun n d s h1 => ?_, fun n f h1 => ?_, hM.base, fun n hn => hle.blk _ _ (hM.glob n hn)⟩⟩
  · try simp only at h1 h2
    split at h1 <;> split at h2
    · rename_i e1 e2; rw [e1, e2]
    · cases h1; exact absurd h2 (hno m)
    · cases h2; exact absurd h1 (hno n)
    · exact hM.inj n m a h1 h2
  · try simp only at h1
    split at h1
    · cases h1; exact (Array.getElem?_eq_some_iff.1 hb).1
    · exact hM.lt n a h1
  · try simp only at h1
    split at h1
    · rename_i e; subst e
      cases h1
      exact ⟨b, c', if_pos rfl, hb, hc.mono hle, ht⟩
    · obtain ⟨b2, c2, k1, k2, k3, k4⟩ := hM.cells n d s h1
      exact ⟨b2, c2, hle.blk _ _ k1, k2, k3.mono hle, k4⟩
  · try simp only at h1
    split at h1
    · cases h1
    · obtain ⟨v, k1, k2⟩ := hM.fact n f h1
      exact ⟨v, k1, k2⟩
structure BL (F : Type) where
  t : TypeId
  fs : List F
  ls : List Lay
noncomputable def vpt0 (i : Nat) : Value := .pointer (some ⟨i, 0, none⟩)
noncomputable def newBlks : List (BL F) → M F (List Value) := List.rec (motive := fun _ => M F (List Value)) (ret []) (fun x _ ih => bind (newFacts x.fs) fun vs => bind (fresh (.cells (split x.ls vs) x.t)) fun i => bind ih fun l => ret (vpt0 i :: l))
def BlksAre (S : Sig F) (w : World) : List (BL F) → List Nat → Prop
  | [], bs => bs = []
  | x :: l, bs => ∃ b bs', bs = b :: bs' ∧ (∃ us, HoldsL S w x.fs us ∧ w.heap[b]? = some (.cells ⟨split x.ls us⟩ x.t (0, 0))) ∧ b ∉ bs' ∧ S.G ≤ b ∧ BlksAre S w l bs'
noncomputable def okBL (hid : TypeId → Bool) (l : List (BL F)) : Bool := List.rec (motive := fun _ => Bool) true (fun x _ ih => plainLay x.ls && (!hid x.t && ih)) l
theorem loc_newBlks : ∀ l : List (BL F), Loc (newBlks l)
  | [] => loc_ret _
  | x :: l => loc_bind (loc_newFacts x.fs) fun _ => loc_bind (loc_fresh _) fun _ => loc_bind (loc_newBlks l) fun _ => loc_ret _
theorem newBlks_ok : ∀ (l : List (BL F)) {h h' : Tr (Blk F)} {nx nx' : Nat} {R W : List Nat} {vs : List Value} {r : Ren} {w : World} {bs : List Nat}, newBlks l h nx = .ok vs h' nx' R W → okBL S.hid l = true → Mod S r h.get w → (∀ hi, New r nx hi) → BlksAre S w l bs → (∀ n b, r.blk n = some b → b ∉ bs) →
    W = [] ∧ nx ≤ nx' ∧ ∃ r', r.le r' ∧ Mod S r' h'.get w ∧ (∀ hi, New r' nx' hi) ∧ VsR r' vs (bs.map vpt0)
  | [], h, h', nx, nx', R, W, vs, r, w, bs, e, _, hM, hN, hB, hno => by
    obtain ⟨rfl, rfl, rfl, rfl⟩ := ret_ok (show (ret [] : M F _) h nx = _ from e)
    obtain rfl : bs = [] := hB
    exact ⟨rfl, Nat.le_refl _, r, .refl r, hM, hN, .nil⟩
  | x :: l, h, h', nx, nx', R, W, vs, r, w, bs, e, hok, hM, hN, hB, hno => by
    obtain ⟨b, bs', rfl, ⟨us, hu, hb⟩, hnb, hG, hB'⟩ := hB
    have hok' : (plainLay x.ls && (!S.hid x.t && okBL S.hid l)) = true := hok
    simp only [Bool.and_eq_true] at hok'
    obtain ⟨ho1, ho2, ho3⟩ := hok'
    have ht : S.hid x.t = false := by simpa using ho2
    obtain ⟨us0, h1, nx1, R1, W1, R2, W2, e1, e2, rfl, rfl⟩ := bind_ok (show bind (newFacts x.fs) (fun vs => bind (fresh (.cells (split x.ls vs) x.t)) fun i => bind (newBlks l) fun l => ret (vpt0 i :: l)) h nx = _ from e)
    have hW1 := newFacts_W _ e1
    subst hW1
    obtain ⟨i, h2, nx2, R3, W3, R4, W4, e3, e4, rfl, rfl⟩ := bind_ok e2
    unfold fresh at e3
    cases e3
    obtain ⟨ps, h5, nx5, R5, W5, R6, W6, e5, e6, rfl, rfl⟩ := bind_ok e4
    obtain ⟨rfl, rfl, rfl, rfl⟩ := ret_ok e6
    obtain ⟨hle1, r1, hX, hvs⟩ := newFacts_ok x.fs e1 hM (hN _) hu
    have hN1 : ∀ hi, New r1 nx1 hi := fun hi => New.after (hN hi) hX hle1
    have hno1 : ∀ n c, r1.blk n = some c → c ∉ b :: bs' := fun n c hc => by
      rcases hX.new n c hc with h | h
      · exact hno n c h
      · have := hX.mod.lt n c hc
        omega
    obtain ⟨hle2, hM2⟩ := mod_old hX.mod (hN1 (nx1 + 1) nx1 (Nat.le_refl _) (Nat.lt_succ_self _)) hb (split_ok ho1 hvs) ht fun n hn => hno1 n b hn (List.mem_cons_self)
    have hM2' := Mod.congr (g' := (h1.set nx1 (.cells (split x.ls us0) x.t)).get) hM2 fun n => .inr (Tr.get_set _ _ _ _)
    obtain ⟨rfl, hle5, r5, hle, hM5, hN5, hps⟩ := newBlks_ok l e5 ho3 hM2' (fun hi n a c => by
        have := hN1 hi n (by omega) c
        refine ⟨?_, this.2⟩
        show (if n = nx1 then some b else r1.blk n) = none
        rw [if_neg (by omega)]; exact this.1) hB' (fun n c hc => by
        simp only at hc
        split at hc
        · cases hc; exact hnb
        · exact fun hm => hno1 n c hc (List.mem_cons_of_mem _ hm))
    refine ⟨rfl, by omega, r5, (hX.le.trans hle2).trans hle, hM5, hN5, .cons (.ptr (hle.blk _ _ ?_)) hps⟩
    show (if nx1 = nx1 then some b else r1.blk nx1) = some b
    rw [if_pos rfl]
noncomputable def sel (is : List Nat) (l : List Value) : List Value := is.map fun i => (l[i]?).getD undef
theorem sel_ok {r : Ren} {vs us : List Value} (h : VsR r vs us) : ∀ is : List Nat, VsR r (sel is vs) (sel is us)
  | [] => .nil
  | i :: is => by
    refine .cons ?_ (sel_ok h is)
    cases hi : vs[i]? with
    | none =>
      have : us[i]? = none := by
        rw [List.getElem?_eq_none_iff] at hi ⊢
        rw [h.length]; exact hi
      simp only [hi, this]
      exact vr_undef
    | some v =>
      obtain ⟨v', h1, h2⟩ := h.get hi
      simp only [hi, h1]
      exact h2
noncomputable def isPtr0 (v : Value) : Option Nat := match v with
  | .pointer a => match a with
    | some p => match p.off with
      | 0 => match p.spot with
        | none => some p.block
        | some _ => none
      | _ => none
    | none => none
  | _ => none
inductive E1 (F : Type) where
  | d (x : D2 F)
  | b (t : TypeId) (l : List (D1 F))
  | o (i : Nat)
inductive E3 (F : Type) where
  | one (e : E1 F)
  | agg (l : List (E1 F))
  | tuple (l : List (E1 F))
def E1.is (S : Sig F) (lo : Nat) (bs : List Nat) (w : World) : E1 F → Value → Prop
  | .d x, v => x.is S w v
  | .b t l, v => ∃ b vs, v = vpt0 b ∧ lo ≤ b ∧ w.heap[b]? = some (.cells ⟨vs⟩ t (0, 0)) ∧ D1.all S w l vs
  | .o i, v => ∃ b, bs[i]? = some b ∧ v = vpt0 b
def E1.all (S : Sig F) (lo : Nat) (bs : List Nat) (w : World) : List (E1 F) → List Value → Prop
  | [], l => l = []
  | e0 :: es, l => ∃ v vs, l = v :: vs ∧ e0.is S lo bs w v ∧ E1.all S lo bs w es vs
def E3.is (S : Sig F) (lo : Nat) (bs : List Nat) (w : World) : E3 F → Value → Prop
  | .one e, v => e.is S lo bs w v
  | .agg es, v => ∃ vs, v = .agg ⟨vs⟩ ∧ E1.all S lo bs w es vs
  | .tuple es, v => ∃ vs, v = .tuple ⟨vs⟩ ∧ E1.all S lo bs w es vs
noncomputable def whichB (n : Nat) (ps : List Value) : Option Nat := List.rec (motive := fun _ => Option Nat) none (fun p _ ih => match isPtr0 p with
  | some m => cond (Nat.beq m n) (some 0) (ih.map Nat.succ)
  | none => none) ps
noncomputable def seeE1 (h : Tr (Blk F)) (ps : List Value) (lo : Nat) (v : Value) : Option (E1 F) := match isPtr0 v with
  | some n => cond (Nat.ble lo n) (match h.get n with
    | some b => match b with
      | .cells c t => (seeL (see1 h) c).map fun l => .b t l
      | .fact _ => none
    | none => none) ((whichB n ps).map .o)
  | none => (see2 h v).map .d
noncomputable def seeE (h : Tr (Blk F)) (ps : List Value) (lo : Nat) (v : Value) : Option (E3 F) := match v with
  | .tuple cs => (seeL (seeE1 h ps lo) cs.toList).map .tuple
  | .agg cs => (seeL (seeE1 h ps lo) cs.toList).map .agg
  | v => (seeE1 h ps lo v).map .one
theorem isPtr0_of {v : Value} {n : Nat} (e : isPtr0 v = some n) : v = vpt0 n := by
  cases v with
  | pointer a =>
    cases a with
    | none => cases (show (none : Option Nat) = some n from e)
    | some p =>
      obtain ⟨b, o, s⟩ := p
      cases o with
      | zero =>
        cases s with
        | none => cases (show some b = some n from e); rfl
        | some _ => cases (show (none : Option Nat) = some n from e)
      | succ _ => cases (show (none : Option Nat) = some n from e)
  | _ => cases (show (none : Option Nat) = some n from e)
theorem whichB_ok {r : Ren} {n : Nat} : ∀ {ps : List Value} {bs : List Nat} {i b : Nat}, whichB n ps = some i → VsR r ps (bs.map vpt0) → r.blk n = some b → bs[i]? = some b
  | [], _, i, b, e, _, _ => by cases (show (none : Option Nat) = some i from e)
  | p :: ps, bs, i, b, e, hv, hb => by
    have e' : (match isPtr0 p with
      | some m => cond (Nat.beq m n) (some 0) ((whichB n ps).map Nat.succ)
      | none => none) = some i := e
    cases bs with
    | nil => cases hv
    | cons c bs =>
      have hv' : VsR r (p :: ps) (vpt0 c :: bs.map vpt0) := hv
      cases hv' with
      | cons h1 h2 =>
        cases hp : isPtr0 p with
        | none => rw [hp] at e'; cases e'
        | some m =>
          rw [hp] at e'
          have := isPtr0_of hp
          subst this
          simp only at e'
          cases hm : Nat.beq m n with
          | true =>
            rw [hm] at e'
            cases e'
            have := Nat.eq_of_beq_eq_true hm
            subst this
            have h1' : VR r (vpt0 m) (vpt0 c) := h1
            unfold vpt0 at h1'
            cases h1' with
            | same p => simp [plain] at p
            | ptr hc =>
              rw [hb] at hc
              injection hc with hc
              subst hc
              rfl
          | false =>
            rw [hm] at e'
            obtain ⟨j, hj, rfl⟩ := Option.map_eq_some_iff.1 (show (whichB n ps).map Nat.succ = some i from e')
            have h3 : bs[j]? = some b := whichB_ok hj h2 hb
            simpa using h3
theorem seeE1_ok {h : Tr (Blk F)} {ps : List Value} {bs : List Nat} {lo L : Nat} {r : Ren} {w : World} {v v' : Value} {d : E1 F} (e : seeE1 h ps lo v = some d) (hM : Mod S r h.get w) (hv : VR r v v') (hps : VsR r ps (bs.map vpt0)) (hL : ∀ n b, lo ≤ n → r.blk n = some b → L ≤ b) : d.is S L bs w v' := by
  unfold seeE1 at e
  cases hp : isPtr0 v with
  | none =>
    rw [hp] at e
    obtain ⟨x, hx, rfl⟩ := Option.map_eq_some_iff.1 e
    exact see2_ok hx hM hv
  | some n =>
    rw [hp] at e
    have := isPtr0_of hp
    subst this
    simp only at e
    have hptr : ∃ b, r.blk n = some b ∧ v' = vpt0 b := by
      unfold vpt0 at hv
      cases hv with
      | same p => simp [plain] at p
      | ptr hb => exact ⟨_, hb, rfl⟩
    obtain ⟨b0, hb0, rfl⟩ := hptr
    cases hl : Nat.ble lo n with
    | false =>
      rw [hl] at e
      obtain ⟨i, hi, rfl⟩ := Option.map_eq_some_iff.1 (show (whichB n ps).map E1.o = some d from e)
      exact ⟨b0, whichB_ok hi hps hb0, rfl⟩
    | true =>
      rw [hl] at e
      simp only [cond_true] at e
      cases hg : h.get n with
      | none => rw [hg] at e; cases e
      | some b =>
        rw [hg] at e
        cases b with
        | fact _ => cases e
        | cells c t =>
          obtain ⟨l, hl2, rfl⟩ := Option.map_eq_some_iff.1 e
          obtain ⟨b, c', h1, h2, h3, _⟩ := hM.cells n c t hg
          rw [h1] at hb0
          injection hb0 with hb0
          subst hb0
          exact ⟨b, c', rfl, hL n b (Nat.le_of_ble_eq_true hl) h1, h2, seeL1_ok hl2 hM h3⟩
theorem seeLE_ok {h : Tr (Blk F)} {ps : List Value} {bs : List Nat} {lo L : Nat} {r : Ren} {w : World} : ∀ {l l' : List Value} {ds : List (E1 F)}, seeL (seeE1 h ps lo) l = some ds → Mod S r h.get w → VsR r l l' → VsR r ps (bs.map vpt0) → (∀ n b, lo ≤ n → r.blk n = some b → L ≤ b) → E1.all S L bs w ds l'
  | [], _, ds, e, hM, hv, _, _ => by
    cases hv
    cases (show some [] = some ds from e)
    rfl
  | v :: l, _, ds, e, hM, hv, hps, hL => by
    have e' : consO (seeE1 h ps lo v) (seeL (seeE1 h ps lo) l) = some ds := e
    unfold consO at e'
    cases hv with
    | cons ha hb =>
      cases h1 : seeE1 h ps lo v with
      | none => rw [h1] at e'; cases e'
      | some d =>
        rw [h1] at e'
        cases h2 : seeL (seeE1 h ps lo) l with
        | none => rw [h2] at e'; cases e'
        | some ds2 =>
          rw [h2] at e'
          cases e'
          exact ⟨_, _, rfl, seeE1_ok h1 hM ha hps hL, seeLE_ok h2 hM hb hps hL⟩
theorem seeE_ok {h : Tr (Blk F)} {ps : List Value} {bs : List Nat} {lo L : Nat} {r : Ren} {w : World} {v v' : Value} {d : E3 F} (e : seeE h ps lo v = some d) (hM : Mod S r h.get w) (hv : VR r v v') (hps : VsR r ps (bs.map vpt0)) (hL : ∀ n b, lo ≤ n → r.blk n = some b → L ≤ b) : d.is S L bs w v' := by
  unfold seeE at e
  cases v with
  | tuple cs =>
    obtain ⟨l⟩ := cs
    simp only at e
    obtain ⟨ds, h1, rfl⟩ := Option.map_eq_some_iff.1 e
    cases hv with
    | same p => simp [plain] at p
    | tuple hl => exact ⟨_, rfl, seeLE_ok h1 hM hl hps hL⟩
  | agg cs =>
    obtain ⟨l⟩ := cs
    simp only at e
    obtain ⟨ds, h1, rfl⟩ := Option.map_eq_some_iff.1 e
    obtain ⟨l', rfl, hl⟩ := vr_agg hv
    exact ⟨_, rfl, seeLE_ok h1 hM hl hps hL⟩
  | _ =>
    simp only at e
    obtain ⟨d1, h1, rfl⟩ := Option.map_eq_some_iff.1 e
    exact seeE1_ok h1 hM hv hps hL
noncomputable def tellsB (bl : List (BL F)) (fs : List F) (mk : List Value → List Value → List Value) (m : List Value → M F Value) : Option (E3 F) := match newBlks bl .nil 100000 with
  | .no => none
  | .ok ps h0 nx0 _ _ => match newFacts fs h0 nx0 with
    | .no => none
    | .ok vs h1 nx1 _ _ => match m (mk ps vs) h1 nx1 with
      | .no => none
      | .ok a h2 _ _ W => cond (geAll nx1 W) (seeE h2 ps nx1 a) none
theorem blksAre_ge {w : World} : ∀ {l : List (BL F)} {bs : List Nat}, BlksAre S w l bs → ∀ b ∈ bs, S.G ≤ b
  | [], bs, h, b, hb => by
    obtain rfl : bs = [] := h
    cases hb
  | x :: l, bs, h, b, hb => by
    obtain ⟨b0, bs', rfl, _, _, hG, h'⟩ := h
    rcases List.mem_cons.1 hb with rfl | hb
    · exact hG
    · exact blksAre_ge h' b hb
theorem tellsB_calls {P : Program} {C : Cfg F} [HardLoc C] {sum : Sums F} {n : Nat} {f : FuncId} {bl : List (BL F)} {fs : List F} {mk : List Value → List Value → List Value} {d : E3 F} (hF : Fits S P C) (hs : SumOK S P sum)
    (e : tellsB bl fs mk (call P C sum n f) = some d) (ha : ∀ r ps qs vs us, VsR r ps qs → VsR r vs us → VsR r (mk ps vs) (mk qs us)) (hok : okBL S.hid bl = true) (hx : S.G ≤ 100000)
    {w : World} {bs : List Nat} {us : List Value} (hB : BlksAre S w bl bs) (hu : HoldsL S w fs us) (hG : S.G ≤ w.heap.size) (hb : S.base w) :
    Calls P f ⟨mk (bs.map vpt0) us⟩ w fun e w' => ∃ v', e = .returned v' ∧ d.is S w.heap.size bs w' v' ∧ Below w.heap.size w w' := by
  unfold tellsB at e
  cases h0 : newBlks bl .nil 100000 with
  | no => rw [h0] at e; cases e
  | ok ps hh0 nx0 R0 W0 =>
  rw [h0] at e
  simp only at e
  cases h1 : newFacts fs hh0 nx0 with
  | no => rw [h1] at e; cases e
  | ok vs hh nx1 R1 W1 =>
    rw [h1] at e
    simp only at e
    cases h2 : call P C sum n f (mk ps vs) hh nx1 with
    | no => rw [h2] at e; cases e
    | ok a h3 nx2 R W =>
      rw [h2] at e
      simp only at e
      cases hc : geAll nx1 W with
      | false => rw [hc] at e; cases e
      | true =>
        rw [hc] at e
        simp only [cond_true] at e
        have hW := geAll_ok hc
        have hW1 := newFacts_W fs h1
        subst hW1
        have hg : (Tr.get (.nil : Tr (Blk F))) = fun _ => none := funext fun k => Tr.get_nil k
        have hN0 : ∀ m, New (ren0 S.G) 100000 m := fun m k h1 _ => ⟨if_neg (by omega), rfl⟩
        obtain ⟨rfl, hle0, r0, hler, hM0, hNr, hps⟩ := newBlks_ok bl h0 hok (by rw [hg]; exact mod0 hG hb) hN0 hB (fun k b hk hm => by
          have := blksAre_ge hB b hm
          by_cases hk2 : k < S.G
          · rw [show (ren0 S.G).blk k = some k from if_pos hk2] at hk
            injection hk with hk; omega
          · rw [show (ren0 S.G).blk k = none from if_neg hk2] at hk; cases hk)
        obtain ⟨hle, r1, hX, hvs⟩ := newFacts_ok fs h1 hM0 (hNr nx1) hu
        have hcl := call_ok hF hs n
        have hfr0 : Fr hh0 nx0 := ((loc_newBlks bl).2 _ _ _ _ _ _ _ h0 (fun k _ => Tr.get_nil k)).fr
        have hfr : Fr hh nx1 := ((loc_newFacts fs).2 _ _ _ _ _ _ _ h1 hfr0).fr
        have hrun := Run.self (hcl.loc f _) h2 hfr
        have hN : ∀ hi, New r1 nx1 hi := fun hi => New.after (hNr hi) hX hle
        refine (hcl.run f _ _ _ _ _ _ _ _ hrun r1 w _ (ha _ _ _ _ _ (hps.mono hX.le) hvs) hX.mod (hN nx2)).mono ?_
        rintro en w' ⟨v', r', rfl, hv, hY⟩
        have hnone : ∀ k, nx1 ≤ k → r1.blk k = none := fun k hk => (hN (k + 1) k hk (Nat.lt_succ_self k)).1
        refine ⟨v', rfl, seeE_ok e hY.mod hv ((hps.mono hX.le).mono hY.le) (fun k b hk hb' => ?_), hY.os, hY.tape, hY.output, hY.size, fun b hb' => ?_⟩
        · rcases hY.new k b hb' with h5 | h5
          · rw [hnone k hk] at h5; cases h5
          · exact h5
        · have hbo : w.heap[b]? = some w.heap[b] := Array.getElem?_eq_getElem hb'
          rw [hbo]
          refine hY.keep b _ hbo fun k hk he => ?_
          rw [hnone k (hW k hk)] at he
          cases he
theorem ext_fact2 {r : Ren} {g : Nat → Option (Blk F)} {w w' : World} {nx : Nat} {f : F} {v' : Value} (hM : Mod S r g w) (hb : Below w.heap.size w w') (hN : New r nx (nx + 1)) (hh : S.holds f w' v') (ho : isOne v' = true) :
    ∃ r', Ext S r w nx (nx + 1) [] (fun n => if n = nx then some (.fact f) else g n) r' w' ∧ r'.val nx = some v' ∧ r'.blk = r.blk := by
  have hno := hN nx (Nat.le_refl _) (Nat.lt_succ_self _)
  have hX := ext_below hM hb nx
  have hle : r.le ⟨r.blk, fun n => if n = nx then some v' else r.val n⟩ := by
    refine ⟨fun _ _ e => e, fun n v e => ?_⟩
    have : n ≠ nx := fun h => by rw [h, hno.2] at e; cases e
    simp only [if_neg this, e]
  refine ⟨⟨r.blk, fun n => if n = nx then some v' else r.val n⟩, ⟨hle, ⟨hM.inj, hX.mod.lt, fun n c t hn => ?_, fun n f' hn => ?_, hX.mod.base, hM.glob⟩, fun n hn => ?_, fun _ _ h => .inl h, hX.keep, hX.size, hX.os, hX.tape, hX.output⟩, by simp, rfl⟩
  · by_cases h : n = nx
    · simp only [if_pos h, Option.some.injEq] at hn; cases hn
    · simp only [if_neg h] at hn
      obtain ⟨b, c', h1, h2, h3, h4⟩ := hX.mod.cells n c t hn
      exact ⟨b, c', h1, h2, h3.mono hle, h4⟩
  · by_cases h : n = nx
    · simp only [if_pos h, Option.some.injEq, Blk.fact.injEq] at hn
      subst hn
      exact ⟨v', by simp [h], hh, ho⟩
    · simp only [if_neg h] at hn
      obtain ⟨v, h1, h2, h3⟩ := hX.mod.fact n f' hn
      exact ⟨v, by simp only [if_neg h, h1], h2, h3⟩
  · by_cases h : n = nx
    · exact .inr ⟨by omega, by omega⟩
    · simp only [if_neg h] at hn; exact .inl hn
theorem ext_adopt {r r1 : Ren} {g : Nat → Option (Blk F)} {w w' : World} {nx nx1 b : Nat} {c c' : List Value} {t : TypeId} (hM : Mod S r (fun _ => none) w) (hX : Ext S r w nx nx1 [] g r1 w') (hblk : r1.blk = r.blk) (hN : New r1 nx1 (nx1 + 1)) (hle : nx ≤ nx1) (hge : w.heap.size ≤ b)
    (hB : w'.heap[b]? = some (.cells ⟨c'⟩ t (0, 0))) (hc : VsR r1 c c') (ht : S.hid t = false) :
    ∃ r2, Ext S r w nx (nx1 + 1) [] (fun n => if n = nx1 then some (.cells c t) else g n) r2 w' ∧ r2.blk nx1 = some b := by
  have hno := hN nx1 (Nat.le_refl _) (Nat.lt_succ_self _)
  obtain ⟨hle2, hM2⟩ := mod_old hX.mod hno hB hc ht (fun n hn => by rw [hblk] at hn; have := hM.lt n b hn; omega)
  refine ⟨_, ⟨hX.le.trans hle2, hM2, fun n hn => ?_, fun n x hn => ?_, hX.keep, hX.size, hX.os, hX.tape, hX.output⟩, if_pos rfl⟩
  · by_cases h : n = nx1
    · exact .inr ⟨by omega, by omega⟩
    · simp only [if_neg h] at hn
      rcases hX.dom n hn with h1 | h1
      · exact .inl h1
      · exact .inr ⟨h1.1, by omega⟩
  · by_cases h : n = nx1
    · simp only [if_pos h, Option.some.injEq] at hn
      exact .inr (by omega)
    · simp only [if_neg h] at hn
      exact hX.new n x hn
end
end Ev
end Go.Proofs.YtepnghhgmjobjaaGreatDoor
namespace Go.Proofs.YtepnghhgmjobjaaGreatDoor
open Go Go.RowKit
namespace Ev
set_option maxRecDepth 100000
noncomputable def int2 (l : List Value) : M Wf (Bool × Xe) := match l with
  | s :: u :: _ => match s with
    | .bool t => bind (wv u) fun e => ret (t, e)
    | _ => fail
  | _ => fail
noncomputable def rdInt (v : Value) : M Wf (Bool × Xe) := match addrOf v with
  | some x => bind (rdCells x.1) fun c => int2 (c.1.drop x.2)
  | none => fail
noncomputable def signX (A : List Xs) (b : Bool) (e : Xe) : Option Bool := cond b (match askX A 1 e x0 with
  | some t => some (!t)
  | none => none) (some false)
noncomputable def row4 (s : Bool) (vs : List Value) : List Value := match vs with
  | [u, v] => [.bool s, u, .bool false, v]
  | _ => []
noncomputable def putF (z : Value) (s : Bool) (n d : Xe) : M Wf Value := match addrOf z with
  | some x => cond (Nat.beq x.2 0 && Nat.ble natCfg.G x.1) (bind (rdCells x.1) fun c0 => cond (Nat.beq c0.1.length 4)
      (bind (newFacts [.wd (.quo n (.gcd n d)), .wd (.quo d (.gcd n d))]) fun vs => bind (rdCells x.1) fun c => bind (wr x.1 (.cells (row4 s vs) c.2)) fun _ => ret z) fail) fail
  | none => fail
noncomputable def setFracM (A : List Xs) (args : List Value) : Option (M Wf Value) := match args with
  | [z, x, y] => some (bind (rdInt x) fun a => bind (rdInt y) fun c => cond (xokB a.2 && xokB c.2) (match askX A 1 c.2 x0 with
    | some t => cond t fail (match signX A (xor a.1 c.1) a.2 with
      | some s => putF z s a.2 c.2
      | none => fail)
    | none => fail) fail)
  | _ => none
theorem loc_int2 (l : List Value) : Loc (int2 l) := by
  unfold int2
  (repeat' split) <;> first | exact loc_fail | exact loc_bind (loc_wv _) fun _ => loc_ret _
theorem loc_rdInt (v : Value) : Loc (rdInt v) := by
  unfold rdInt
  split
  · exact loc_bind (loc_rdCells _) fun _ => loc_int2 _
  · exact loc_fail
theorem loc_putF (z : Value) (s : Bool) (n d : Xe) : Loc (putF z s n d) := by
  unfold putF
  split
  · exact loc_cond (loc_bind (loc_rdCells _) fun _ => loc_cond (loc_bind (loc_newFacts _) fun _ => loc_bind (loc_rdCells _) fun _ => loc_bind (loc_wr _ _) fun _ => loc_ret _) loc_fail) loc_fail
  · exact loc_fail
section
variable {ρ : XEnv} {A : List Xs} {h h' : Tr (Blk Wf)} {nx nx' : Nat} {Q W : List Nat} {r : Ren} {w : World}
theorem ptr_vr {v v' : Value} {b o : Nat} (e : addrOf v = some (b, o)) (hv : VR r v v') : ∃ b', r.blk b = some b' ∧ v' = .pointer (some ⟨b', o, none⟩) ∧ v = .pointer (some ⟨b, o, none⟩) := by
  rw [addrOf_of e] at hv ⊢
  obtain ⟨b2, hb, rfl⟩ := hv.pointer
  exact ⟨b2, hb, rfl, rfl⟩
theorem rdInt_ok {v v' : Value} {x : Bool × Xe} (e : rdInt v h nx = .ok x h' nx' Q W) (hv : VR r v v') (hM : Mod (wSig ρ) r h.get w) :
    h' = h ∧ nx' = nx ∧ W = [] ∧ ∃ b o, v' = .pointer (some ⟨b, o, none⟩) ∧ R.IntAt w b o x.1 (x.2.ev ρ.q) := by
  unfold rdInt at e
  cases ha : addrOf v with
  | none => rw [ha] at e; cases (show (fail : M Wf (Bool × Xe)) h nx = _ from e)
  | some y =>
    obtain ⟨b, o⟩ := y
    rw [ha] at e
    obtain ⟨c, h1, nx1, R1, W1, R2, W2, e1, e2, rfl, rfl⟩ := bind_ok (show bind (rdCells b) (fun c => int2 (c.1.drop o)) h nx = _ from e)
    obtain ⟨hg, rfl, rfl, rfl⟩ := rdCells_ok e1
    obtain ⟨b2, hb2, rfl, -⟩ := ptr_vr ha hv
    obtain ⟨b3, c', hb3, hh, hc, -⟩ := hM.cells _ _ _ hg
    obtain rfl : b3 = b2 := by rw [hb2] at hb3; injection hb3 with e; exact e.symm
    have hd := hc.drop o
    cases hl : c.1.drop o with
    | nil => rw [hl] at e2; cases (show (fail : M Wf (Bool × Xe)) h1 nx1 = _ from e2)
    | cons s l2 =>
      rw [hl] at e2 hd
      cases l2 with
      | nil => cases (show (fail : M Wf (Bool × Xe)) h1 nx1 = _ from e2)
      | cons u l3 =>
        cases s <;> first | (cases (show (fail : M Wf (Bool × Xe)) h1 nx1 = _ from e2); done) | skip
        rename_i t
        obtain ⟨x1, h3, nx3, R3, W3, R4, W4, e3, e4, rfl, rfl⟩ := bind_ok (show bind (wv u) (fun e => ret (t, e)) h1 nx1 = _ from e2)
        generalize hdd : c'.drop o = d' at hd
        cases hd with
        | cons hs hd2 =>
          cases hd2 with
          | cons hu _ =>
            obtain ⟨rfl, rfl, rfl, hn⟩ := wv_ok e3 hu hM
            obtain ⟨rfl, rfl, rfl, rfl⟩ := ret_ok e4
            have hs' := hs.eq_of_plain rfl
            subst hs'
            refine ⟨rfl, rfl, rfl, b3, o, rfl, R.cell_at hh ?_, _, R.cell_at hh (v := _) ?_, hn⟩
            · have := congrArg (fun l => l[0]?) hdd
              simpa using this
            · have := congrArg (fun l => l[1]?) hdd
              simpa using this
theorem set_four {w : World} {b : Nat} {c : List Value} {t : TypeId} {x y z u : Value} (h : w.heap[b]? = some (.cells ⟨c⟩ t (0, 0))) (hl : c.length = 4) :
    ((((w.setCell ⟨b, 0, none⟩ x).setCell ⟨b, 1, none⟩ y).setCell ⟨b, 2, none⟩ z).setCell ⟨b, 3, none⟩ u).heap = w.heap.setIfInBounds b (.cells ⟨[x, y, z, u]⟩ t (0, 0)) := by
  have hlt := (Array.getElem?_eq_some_iff.1 h).1
  match c, hl with
  | [c0, c1, c2, c3], _ =>
  have s1 := R.set_heap (o := 0) (v := x) h
  have g1 : (w.setCell ⟨b, 0, none⟩ x).heap[b]? = some (.cells ⟨[x, c1, c2, c3]⟩ t (0, 0)) := by rw [s1, Array.getElem?_setIfInBounds_self_of_lt hlt]; rfl
  have s2 := R.set_heap (o := 1) (v := y) g1
  have g2 : ((w.setCell ⟨b, 0, none⟩ x).setCell ⟨b, 1, none⟩ y).heap[b]? = some (.cells ⟨[x, y, c2, c3]⟩ t (0, 0)) := by rw [s2, Array.getElem?_setIfInBounds_self_of_lt (Array.getElem?_eq_some_iff.1 g1).1]; rfl
  have s3 := R.set_heap (o := 2) (v := z) g2
  have g3 : (((w.setCell ⟨b, 0, none⟩ x).setCell ⟨b, 1, none⟩ y).setCell ⟨b, 2, none⟩ z).heap[b]? = some (.cells ⟨[x, y, z, c3]⟩ t (0, 0)) := by rw [s3, Array.getElem?_setIfInBounds_self_of_lt (Array.getElem?_eq_some_iff.1 g2).1]; rfl
  rw [R.set_heap (o := 3) (v := u) g3, s3, s2, s1]
  simp
theorem w_setFrac (hA : AllX ρ A) : SumF (wSig ρ) Tryz.prog 115 (setFracM A) := by
  intro args m e
  unfold setFracM at e
  rcases args with _ | ⟨z, _ | ⟨x, _ | ⟨y, _ | ⟨c, l⟩⟩⟩⟩ <;> simp only [reduceCtorEq, Option.some.injEq] at e
  subst e
  refine ⟨loc_bind (loc_rdInt x) fun a => loc_bind (loc_rdInt y) fun c => loc_cond ?_ loc_fail, ?_⟩
  · split
    · refine loc_cond loc_fail ?_
      split
      · exact loc_putF _ _ _ _
      · exact loc_fail
    · exact loc_fail
  intro h nx v h' nx' Q W e r w args' ha hM hN
  cases ha with
  | cons hz ha =>
  cases ha with
  | cons hx ha =>
  cases ha with
  | cons hy ha =>
  cases ha
  obtain ⟨a, h1, nx1, R1, W1, R2, W2, e1, e2, rfl, rfl⟩ := bind_ok e
  obtain ⟨rfl, rfl, rfl, bx, ox, rfl, hax⟩ := rdInt_ok e1 hx hM
  obtain ⟨c, h2, nx2, R3, W3, R4, W4, e3, e4, rfl, rfl⟩ := bind_ok e2
  obtain ⟨rfl, rfl, rfl, by_, oy, rfl, hay⟩ := rdInt_ok e3 hy hM
  obtain ⟨hs, e5⟩ := cond_ok e4
  simp only [Bool.and_eq_true] at hs
  cases h0 : askX A 1 c.2 x0 with
  | none => rw [h0] at e5; cases (show (fail : M Wf Value) _ _ = _ from e5)
  | some t =>
  rw [h0] at e5
  obtain ⟨rfl, e6⟩ := cond_no e5
  have hd0 : 0 < c.2.ev ρ.q := by
    have := askX_nought hA h0
    rcases Nat.eq_zero_or_pos (c.2.ev ρ.q) with h | h
    · exact absurd (this.2 h) (by simp)
    · exact h
  cases hsg : signX A (xor a.1 c.1) a.2 with
  | none => rw [hsg] at e6; cases (show (fail : M Wf Value) _ _ = _ from e6)
  | some s =>
  rw [hsg] at e6
  have hsv : ((a.1 != c.1) && decide (0 < a.2.ev ρ.q)) = s := by
    unfold signX at hsg
    have hx : (a.1 != c.1) = xor a.1 c.1 := by cases a.1 <;> cases c.1 <;> rfl
    rw [hx]
    cases hb : xor a.1 c.1 with
    | false => rw [hb] at hsg; cases hsg; rfl
    | true =>
      rw [hb] at hsg
      simp only [cond_true] at hsg
      cases h1 : askX A 1 a.2 x0 with
      | none => rw [h1] at hsg; cases hsg
      | some t =>
        rw [h1] at hsg
        cases hsg
        have := askX_nought hA h1
        rcases Nat.eq_zero_or_pos (a.2.ev ρ.q) with h | h
        · rw [this.2 h, h]; rfl
        · have ht : t = false := by
            cases t with
            | false => rfl
            | true => have := this.1 rfl; omega
          rw [ht, decide_eq_true h]; rfl
  have e7 : putF z s a.2 c.2 h2 nx2 = .ok v h' nx' R4 W4 := e6
  unfold putF at e7
  cases haz : addrOf z with
  | none => rw [haz] at e7; cases (show (fail : M Wf Value) _ _ = _ from e7)
  | some y =>
  obtain ⟨zb, zo⟩ := y
  rw [haz] at e7
  obtain ⟨hk, e8⟩ := cond_ok e7
  simp only [Bool.and_eq_true] at hk
  obtain rfl : zo = 0 := Nat.eq_of_beq_eq_true hk.1
  have hG : natSig.G ≤ zb := Nat.le_of_ble_eq_true hk.2
  obtain ⟨c0, h3, nx3, R5, W5, R6, W6, e9, e10, rfl, rfl⟩ := bind_ok e8
  obtain ⟨hg0, rfl, rfl, rfl⟩ := rdCells_ok e9
  obtain ⟨hl4, e11⟩ := cond_ok e10
  obtain ⟨vs, h5, nx5, R7, W7, R8, W8, e12, e13, rfl, rfl⟩ := bind_ok e11
  obtain ⟨c1, h6, nx6, R9, W9, R10, W10, e14, e15, rfl, rfl⟩ := bind_ok e13
  obtain ⟨hg1, rfl, rfl, rfl⟩ := rdCells_ok e14
  obtain ⟨u0, h7, nx7, R11, W11, R12, W12, e16, e17, rfl, rfl⟩ := bind_ok e15
  obtain ⟨rfl, rfl, rfl, rfl⟩ := ret_ok e17
  unfold wr at e16
  rw [hg1] at e16
  cases e16
  obtain ⟨b2, hb2, rfl, hzv⟩ := ptr_vr haz hz
  obtain ⟨b3, c', hb3, hh, hc, -⟩ := hM.cells _ _ _ hg0
  obtain rfl : b3 = b2 := by rw [hb2] at hb3; injection hb3 with e; exact e.symm
  have hcl : c'.length = 4 := by rw [hc.length]; exact Nat.eq_of_beq_eq_true hl4
  have hW7 := newFacts_W _ e12
  subst hW7
  refine (R.setFrac_any w b3 bx ox by_ oy _ _ a.1 c.1 (R.room_at hh (by omega)) (R.room_at hh (by omega)) hax hay (xokB_sml hs.1) (xokB_sml hs.2) hd0).mono ?_
  rintro en w' ⟨rfl, w1, u, d, hb, hu, hd, rfl⟩
  rw [hsv]
  have hX1 := ext_below hM hb nx3
  obtain ⟨hle, r', hX2, hvs⟩ := newFacts_ok (S := wSig ρ) _ e12 hX1.mod hN ⟨u, [d], rfl, hu, nin_one hu, d, [], rfl, hd, nin_one hd, rfl⟩
  obtain ⟨x1, l1, rfl, hx1⟩ : ∃ x y, vs = [x, y] ∧ VsR r' [x, y] [u, d] := by
    have hlen := hvs.length
    match vs, hvs, hlen with
    | [x, y], hvs, _ => exact ⟨x, y, rfl, hvs⟩
  cases hx1 with
  | cons k1 k2 =>
  cases k2 with
  | cons k2 _ =>
  have hw1 : w1.heap[b3]? = some (.cells ⟨c'⟩ c0.2 (0, 0)) := (hb.block b3 (Array.getElem?_eq_some_iff.1 hh).1).trans hh
  obtain ⟨b4, c4, hb4, hh4, hc4, ht4⟩ := hX2.mod.cells _ _ _ hg1
  have hb3' := hX2.le.blk _ _ hb2
  obtain rfl : b4 = b3 := by rw [hb3'] at hb4; injection hb4 with e; exact e.symm
  have hty : c1.2 = c0.2 := by
    rw [hw1] at hh4
    simp only [Option.some.injEq, Obj.cells.injEq] at hh4
    exact hh4.2.1.symm
  have hX3 := ext_write (nx := nx') (d := row4 s [x1, l1]) (d' := [.bool s, u, .bool false, d]) hX2.mod hg1 hb3' (.cons (.same rfl) (.cons k1 (.cons (.same rfl) (.cons k2 .nil)))) hG
    (w' := (((w1.setCell ⟨b4, 0, none⟩ (.bool s)).setCell ⟨b4, 1, none⟩ u).setCell ⟨b4, 2, none⟩ (.bool false)).setCell ⟨b4, 3, none⟩ d) (by rw [hty]; exact set_four hw1 hcl) rfl rfl rfl
  have hX := (hX1.trans hX2 (Nat.le_refl _) hle).trans hX3 hle (Nat.le_refl _)
  refine ⟨_, r', rfl, ?_, by simpa using hX.congr fun n => .inr (Tr.get_set _ _ _ _)⟩
  rw [hzv]
  exact .ptr hb3'
end
noncomputable def wCfg (A : List Xs) : Cfg Wf where
  hid := wHid
  G := natCfg.G
  tab := natCfg.tab
  len _ := none
  hard := wHard A
instance wCfgHard (A : List Xs) : HardLoc (wCfg A) := ⟨fun o vs => loc_wHard A o vs⟩
theorem wFits {ρ : XEnv} {A : List Xs} (hA : AllX ρ A) : Fits (wSig ρ) Tryz.prog (wCfg A) where
  hid := rfl
  G := rfl
  len := fun f n w v _ e => by cases e
  tab := natFits.tab
  mixed := natFits.mixed
  hard := wHard_ok hA rfl
noncomputable def wList (A : List Xs) : List (Nat × (List Value → Option (M Wf Value))) := [
  (202, fun args => w2 args fun x y => newW (.mul x y)),
  (203, fun args => w2 args fun x y => newW (.add x y)),
  (187, fun args => w2 args fun x y => newW (.gcd x y)),
  (204, fun args => w2 args (subA A)),
  (196, fun args => w2 args (cmpA A)),
  (115, setFracM A)]
theorem wList_ok {ρ : XEnv} {A : List Xs} (hA : AllX ρ A) : ∀ x ∈ wList A, SumF (wSig ρ) Tryz.prog x.1 x.2 := by
  intro x hx
  simp only [wList, List.mem_cons, List.not_mem_nil, or_false] at hx
  rcases hx with rfl | rfl | rfl | rfl | rfl | rfl
  · exact w_mul
  · exact w_add
  · exact w_gcd
  · exact w_sub hA
  · exact w_cmp hA
  · exact w_setFrac hA
noncomputable def wSums (A : List Xs) : Sums Wf := sumsOf (mkTab (wList A))
theorem wSums_ok {ρ : XEnv} {A : List Xs} (hA : AllX ρ A) : SumOK (wSig ρ) Tryz.prog (wSums A) := sumsOf_ok (wList_ok hA)
end Ev
end Go.Proofs.YtepnghhgmjobjaaGreatDoor
