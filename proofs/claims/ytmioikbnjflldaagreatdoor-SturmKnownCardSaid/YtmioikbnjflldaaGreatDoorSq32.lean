/- Contracts, in this order: The interpreter: calls of structs with numbers in them, and  -/
import Derived.Test.YtmioikbnjflldaaGreatDoorSq31
namespace Go.Proofs.YtmioikbnjflldaaGreatDoor
open Go Go.RowKit
namespace Ev
inductive NCell where
  | p (v : Value)
  | n (k : Nat)
inductive NArg where
  | one (c : NCell)
  | agg (cs : List NCell)
def NCell.is (w : World) : NCell → Value → Prop
  | .p v, u => u = v
  | .n k, u => NatIn w u k
def CellsN (w : World) : List NCell → List Value → Prop
  | [], us => us = []
  | c :: cs, us => ∃ u vs, us = u :: vs ∧ c.is w u ∧ CellsN w cs vs
def NArg.is (w : World) : NArg → Value → Prop
  | .one c, u => c.is w u
  | .agg cs, u => ∃ us, u = .agg ⟨us⟩ ∧ CellsN w cs us
def ArgsN (w : World) : List NArg → List Value → Prop
  | [], vs => vs = []
  | x :: l, vs => ∃ u us, vs = u :: us ∧ x.is w u ∧ ArgsN w l us
structure NFact where
  f : FuncId
  args : List NArg
  v : NArg
def NFact.ok (x : NFact) : Prop := ∀ (w : World) (vs : List Value), Tryz.prog.globals.size ≤ w.heap.size → TabB w → ArgsN w x.args vs →
  Calls Tryz.prog x.f ⟨vs⟩ w fun e w' => ∃ v', e = .returned v' ∧ x.v.is w' v' ∧ Below w.heap.size w w'
noncomputable def newN (c : NCell) : M Nat Value := match c with
  | .p v => cond (plain v) (ret v) fail
  | .n k => newFact k
noncomputable def newNs (cs : List NCell) : M Nat (List Value) := List.rec (motive := fun _ => M Nat (List Value)) (ret []) (fun c _ ih => bind (newN c) fun v => bind ih fun vs => ret (v :: vs)) cs
noncomputable def newA (a : NArg) : M Nat Value := match a with
  | .one c => match c with
    | .p v => cond (plain3 v) (ret v) fail
    | .n k => newFact k
  | .agg cs => bind (newNs cs) fun vs => ret (.agg ⟨vs⟩)
noncomputable def newAs (l : List NArg) : M Nat (List Value) := List.rec (motive := fun _ => M Nat (List Value)) (ret []) (fun c _ ih => bind (newA c) fun v => bind ih fun vs => ret (v :: vs)) l
theorem loc_newN (c : NCell) : Loc (newN c) := by
  unfold newN
  split
  · exact loc_cond (loc_ret _) loc_fail
  · exact loc_newFact _
theorem loc_newNs : ∀ cs : List NCell, Loc (newNs cs)
  | [] => loc_ret _
  | c :: cs => loc_bind (loc_newN c) fun _ => loc_bind (loc_newNs cs) fun _ => loc_ret _
theorem loc_newA (a : NArg) : Loc (newA a) := by
  unfold newA
  split
  · split
    · exact loc_cond (loc_ret _) loc_fail
    · exact loc_newFact _
  · exact loc_bind (loc_newNs _) fun _ => loc_ret _
theorem loc_newAs : ∀ l : List NArg, Loc (newAs l)
  | [] => loc_ret _
  | c :: cs => loc_bind (loc_newA c) fun _ => loc_bind (loc_newAs cs) fun _ => loc_ret _
section
variable {h h' : Tr (Blk Nat)} {nx nx' : Nat} {R W : List Nat} {r : Ren} {w : World}
theorem newF_ok {k : Nat} {v u : Value} (e : (newFact k : M Nat Value) h nx = .ok v h' nx' R W) (hM : Mod natSig r h.get w) (hN : New r nx nx') (hu : NatIn w u k) : nx ≤ nx' ∧ ∃ r', VR r' v u ∧ Ext natSig r w nx nx' W h'.get r' w := by
  obtain ⟨i, h1, nx1, R1, W1, R2, W2, e1, e2, rfl, rfl⟩ := bind_ok e
  obtain ⟨rfl, rfl, rfl, rfl⟩ := ret_ok e2
  unfold fresh at e1
  cases e1
  obtain ⟨r', hX, hr⟩ := ext_fact (S := natSig) (f := k) hM (Below.refl _ w) hN hu (nat_one hu)
  exact ⟨Nat.le_succ _, r', .opq hr (nat_one hu), by simpa using hX.congr fun n => .inr (Tr.get_set _ _ _ _)⟩
theorem newN_ok {c : NCell} {v u : Value} (e : newN c h nx = .ok v h' nx' R W) (hM : Mod natSig r h.get w) (hN : New r nx nx') (hu : c.is w u) : nx ≤ nx' ∧ ∃ r', VR r' v u ∧ Ext natSig r w nx nx' W h'.get r' w := by
  unfold newN at e
  cases c with
  | p x =>
    obtain ⟨hp, e⟩ := cond_ok e
    obtain ⟨rfl, rfl, rfl, rfl⟩ := ret_ok e
    obtain rfl : u = v := hu
    exact ⟨Nat.le_refl _, r, .same hp, Ext.refl _ _ hM⟩
  | n k => exact newF_ok e hM hN hu
theorem newNs_ok : ∀ {cs : List NCell} {h h' : Tr (Blk Nat)} {nx nx' : Nat} {R W : List Nat} {r : Ren} {vs us : List Value}, newNs cs h nx = .ok vs h' nx' R W → Mod natSig r h.get w → New r nx nx' → CellsN w cs us → nx ≤ nx' ∧ ∃ r', VsR r' vs us ∧ Ext natSig r w nx nx' W h'.get r' w
  | [], h, h', nx, nx', R, W, r, vs, us, e, hM, hN, hu => by
    obtain ⟨rfl, rfl, rfl, rfl⟩ := ret_ok (show (ret [] : M Nat _) h nx = _ from e)
    obtain rfl : us = [] := hu
    exact ⟨Nat.le_refl _, r, .nil, Ext.refl _ _ hM⟩
  | c :: cs, h, h', nx, nx', R, W, r, vs, us, e, hM, hN, hu => by
    obtain ⟨u, us, rfl, hu1, hu2⟩ := hu
    obtain ⟨v, h1, nx1, R1, W1, R2, W2, e1, e2, rfl, rfl⟩ := bind_ok (show bind (newN c) (fun v => bind (newNs cs) fun vs => ret (v :: vs)) h nx = _ from e)
    obtain ⟨ws, h2, nx2, R3, W3, R4, W4, e3, e4, rfl, rfl⟩ := bind_ok e2
    obtain ⟨rfl, rfl, rfl, rfl⟩ := ret_ok e4
    have l2 := (loc_newNs cs).1 _ _ _ _ _ _ _ e3
    obtain ⟨l1, r1, hv, hX⟩ := newN_ok e1 hM (hN.sub (Nat.le_refl _) l2) hu1
    obtain ⟨_, r2, hvs, hY⟩ := newNs_ok e3 hX.mod (hN.after hX l1) hu2
    exact ⟨by omega, r2, .cons (hv.mono hY.le) hvs, by simpa using hX.trans hY l1 l2⟩
theorem newA_ok {a : NArg} {v u : Value} (e : newA a h nx = .ok v h' nx' R W) (hM : Mod natSig r h.get w) (hN : New r nx nx') (hu : a.is w u) : nx ≤ nx' ∧ ∃ r', VR r' v u ∧ Ext natSig r w nx nx' W h'.get r' w := by
  unfold newA at e
  cases a with
  | one c =>
    cases c with
    | p x =>
      obtain ⟨hp, e⟩ := cond_ok e
      obtain ⟨rfl, rfl, rfl, rfl⟩ := ret_ok e
      obtain rfl : u = v := hu
      exact ⟨Nat.le_refl _, r, same3 hp, Ext.refl _ _ hM⟩
    | n k => exact newF_ok e hM hN hu
  | agg cs =>
    obtain ⟨us, rfl, hu⟩ := hu
    obtain ⟨ws, h1, nx1, R1, W1, R2, W2, e1, e2, rfl, rfl⟩ := bind_ok e
    obtain ⟨rfl, rfl, rfl, rfl⟩ := ret_ok e2
    obtain ⟨l1, r1, hv, hX⟩ := newNs_ok e1 hM hN hu
    exact ⟨l1, r1, .agg hv, by simpa using hX⟩
theorem newAs_ok : ∀ {l : List NArg} {h h' : Tr (Blk Nat)} {nx nx' : Nat} {R W : List Nat} {r : Ren} {vs us : List Value}, newAs l h nx = .ok vs h' nx' R W → Mod natSig r h.get w → New r nx nx' → ArgsN w l us → nx ≤ nx' ∧ ∃ r', VsR r' vs us ∧ Ext natSig r w nx nx' W h'.get r' w
  | [], h, h', nx, nx', R, W, r, vs, us, e, hM, hN, hu => by
    obtain ⟨rfl, rfl, rfl, rfl⟩ := ret_ok (show (ret [] : M Nat _) h nx = _ from e)
    obtain rfl : us = [] := hu
    exact ⟨Nat.le_refl _, r, .nil, Ext.refl _ _ hM⟩
  | c :: cs, h, h', nx, nx', R, W, r, vs, us, e, hM, hN, hu => by
    obtain ⟨u, us, rfl, hu1, hu2⟩ := hu
    obtain ⟨v, h1, nx1, R1, W1, R2, W2, e1, e2, rfl, rfl⟩ := bind_ok (show bind (newA c) (fun v => bind (newAs cs) fun vs => ret (v :: vs)) h nx = _ from e)
    obtain ⟨ws, h2, nx2, R3, W3, R4, W4, e3, e4, rfl, rfl⟩ := bind_ok e2
    obtain ⟨rfl, rfl, rfl, rfl⟩ := ret_ok e4
    have l2 := (loc_newAs cs).1 _ _ _ _ _ _ _ e3
    obtain ⟨l1, r1, hv, hX⟩ := newA_ok e1 hM (hN.sub (Nat.le_refl _) l2) hu1
    obtain ⟨_, r2, hvs, hY⟩ := newAs_ok e3 hX.mod (hN.after hX l1) hu2
    exact ⟨by omega, r2, .cons (hv.mono hY.le) hvs, by simpa using hX.trans hY l1 l2⟩
end
noncomputable def seeN (h : Tr (Blk Nat)) (v : Value) : Option NCell := match v with
  | .chan i => match i with
    | some i => match h.get i with
      | some b => match b with
        | .fact k => some (.n k)
        | _ => none
      | none => none
    | none => none
  | v => cond (plain v) (some (.p v)) none
noncomputable def seeNs (h : Tr (Blk Nat)) (l : List Value) : Option (List NCell) := List.rec (motive := fun _ => Option (List NCell)) (some []) (fun v _ ih => match seeN h v with
  | some c => match ih with
    | some cs => some (c :: cs)
    | none => none
  | none => none) l
noncomputable def seeA (h : Tr (Blk Nat)) (v : Value) : Option NArg := match v with
  | .agg l => match seeNs h l.toList with
    | some cs => some (.agg cs)
    | none => none
  | .chan i => match seeN h (.chan i) with
    | some c => some (.one c)
    | none => none
  | v => cond (plain3 v) (some (.one (.p v))) none
theorem seeN_ok {h : Tr (Blk Nat)} {v u : Value} {c : NCell} {r : Ren} {w : World} (e : seeN h v = some c) (hv : VR r v u) (hM : Mod natSig r h.get w) : c.is w u := by
  have key : ∀ x, (cond (plain x) (some (.p x)) none : Option NCell) = some c → VR r x u → c.is w u := fun x q hx => by
    cases hp : plain x with
    | false => rw [hp] at q; cases q
    | true => rw [hp] at q; cases q; exact hx.eq_of_plain hp
  unfold seeN at e
  cases v with
  | chan i =>
    cases i with
    | none => cases e
    | some i =>
      simp only at e
      cases hg : h.get i with
      | none => rw [hg] at e; cases e
      | some b =>
        rw [hg] at e
        cases b with
        | fact k =>
          cases e
          obtain ⟨v0, h1, h2, h3⟩ := hM.fact _ _ hg
          cases hv with
          | same p => simp [plain] at p
          | opq hp _ => rw [h1] at hp; cases hp; exact h2
        | _ => cases e
  | _ => exact key _ e hv
theorem seeNs_ok {h : Tr (Blk Nat)} {r : Ren} {w : World} (hM : Mod natSig r h.get w) : ∀ {l us : List Value} {cs : List NCell}, seeNs h l = some cs → VsR r l us → CellsN w cs us
  | [], us, cs, e, hv => by cases e; cases hv; rfl
  | v :: l, us, cs, e, hv => by
    have e' : (match seeN h v with
      | some c => match seeNs h l with
        | some cs => some (c :: cs)
        | none => none
      | none => none) = some cs := e
    cases h1 : seeN h v with
    | none => rw [h1] at e'; cases e'
    | some c =>
      rw [h1] at e'
      cases h2 : seeNs h l with
      | none => rw [h2] at e'; cases e'
      | some cs2 =>
        rw [h2] at e'
        cases e'
        cases hv with
        | cons a b => exact ⟨_, _, rfl, seeN_ok h1 a hM, seeNs_ok hM h2 b⟩
theorem seeA_ok {h : Tr (Blk Nat)} {v u : Value} {a : NArg} {r : Ren} {w : World} (e : seeA h v = some a) (hv : VR r v u) (hM : Mod natSig r h.get w) : a.is w u := by
  have key : ∀ x, (cond (plain3 x) (some (.one (.p x))) none : Option NArg) = some a → VR r x u → a.is w u := fun x q hx => by
    cases hp : plain3 x with
    | false => rw [hp] at q; cases q
    | true => rw [hp] at q; cases q; exact eq_of_plain3 hx hp
  unfold seeA at e
  cases v with
  | agg l =>
    simp only at e
    cases h1 : seeNs h l.toList with
    | none => rw [h1] at e; cases e
    | some cs =>
      rw [h1] at e
      cases e
      cases hv with
      | same p => simp [plain] at p
      | agg q => exact ⟨_, rfl, seeNs_ok hM h1 q⟩
  | chan i =>
    simp only at e
    cases h1 : seeN h (.chan i) with
    | none => rw [h1] at e; cases e
    | some c => rw [h1] at e; cases e; exact seeN_ok h1 hv hM
  | _ => exact key _ e hv
noncomputable def nrun (l : List Fact) (n : Nat) (f : FuncId) (args : List NArg) : Option NArg :=
  match newAs args .nil 100000 with
  | .no => none
  | .ok vs h nx _ W0 => match call Tryz.prog natCfg (knownR l) n f vs h nx with
    | .no => none
    | .ok v h' _ _ W => cond (geAll 100000 W && geAll 100000 W0) (seeA h' v) none
theorem NFact.by_run {l : List Fact} (hl : ∀ x ∈ l, x.ok) {x : NFact} {n : Nat} (h : nrun l n x.f x.args = some x.v) : x.ok := by
  intro w vs hG hT hA
  unfold nrun at h
  cases e0 : newAs x.args .nil 100000 with
  | no => rw [e0] at h; cases h
  | ok us h0 nx R0 W0 =>
    rw [e0] at h
    simp only at h
    cases hc : call Tryz.prog natCfg (knownR l) n x.f us h0 nx with
    | no => rw [hc] at h; cases h
    | ok v h' nx' R W =>
      rw [hc] at h
      simp only at h
      cases hg : (geAll 100000 W && geAll 100000 W0) with
      | false => rw [hg] at h; cases h
      | true =>
        rw [hg] at h
        simp only [cond_true] at h
        simp only [Bool.and_eq_true] at hg
        have hGf := globs_few
        have hfr0 : Fr (.nil : Tr (Blk Nat)) 100000 := fun k _ => Tr.get_nil k
        have L0 := (loc_newAs x.args).2 _ _ _ _ _ _ _ e0 hfr0
        have hcl := call_ok natFits (knownR_ok hl) n
        have hrun := Run.self (hcl.loc x.f us) hc L0.fr
        have L := (hcl.loc x.f us).2 _ _ _ _ _ _ _ hc L0.fr
        have hle0 := L0.le
        have hle := L.le
        have hgn : (Tr.get (.nil : Tr (Blk Nat))) = fun _ => none := funext fun k => Tr.get_nil k
        have hM0 : Mod natSig (ren0 Tryz.prog.globals.size) (Tr.get (.nil : Tr (Blk Nat))) w := by rw [hgn]; exact mod0 (S := natSig) hG hT
        have hN0 : New (ren0 Tryz.prog.globals.size) 100000 nx' := fun k h1 h2 => ⟨if_neg (by omega), rfl⟩
        obtain ⟨l1, r1, hvs, hX⟩ := newAs_ok e0 hM0 (hN0.sub (Nat.le_refl _) hle) hA
        refine (hcl.run x.f us _ _ _ _ _ _ _ hrun r1 w vs hvs hX.mod (hN0.after hX l1)).mono ?_
        rintro en w' ⟨v', r', rfl, hv, hY⟩
        have hZ := hX.trans hY l1 hle
        refine ⟨v', rfl, seeA_ok h hv hZ.mod, hZ.os, hZ.tape, hZ.output, hZ.size, fun b hb' => ?_⟩
        have hbo : w.heap[b]? = some w.heap[b] := Array.getElem?_eq_getElem hb'
        rw [hbo]
        exact hZ.keep b _ hbo fun k hk => by
          have : 100000 ≤ k := by
            rcases List.mem_append.1 hk with q | q
            · exact geAll_ok hg.2 k q
            · exact geAll_ok hg.1 k q
          show ¬ (if k < Tryz.prog.globals.size then some k else none) = some b
          rw [if_neg (by omega)]
          simp
noncomputable def eqN (c : NCell) (v : Value) : M Nat Bool := match c with
  | .p u => ret (eqV u v && plain u)
  | .n k => bind (natV v) fun m => ret (Nat.beq m k)
noncomputable def eqNs (cs : List NCell) : List Value → M Nat Bool := List.rec (motive := fun _ => List Value → M Nat Bool) (fun vs => match vs with
    | [] => ret true
    | _ :: _ => ret false)
  (fun c _ ih vs => match vs with
    | [] => ret false
    | v :: vs => bind (eqN c v) fun b => cond b (ih vs) (ret false)) cs
noncomputable def eqA (a : NArg) (v : Value) : M Nat Bool := match a with
  | .one c => match c with
    | .p u => ret (eqV u v && plain2 u)
    | .n k => bind (natV v) fun m => ret (Nat.beq m k)
  | .agg cs => match v with
    | .agg l => eqNs cs l.toList
    | _ => ret false
noncomputable def eqAs (l : List NArg) : List Value → M Nat Bool := List.rec (motive := fun _ => List Value → M Nat Bool) (fun vs => match vs with
    | [] => ret true
    | _ :: _ => ret false)
  (fun c _ ih vs => match vs with
    | [] => ret false
    | v :: vs => bind (eqA c v) fun b => cond b (ih vs) (ret false)) l
theorem loc_eqN (c : NCell) (v : Value) : Loc (eqN c v) := by
  unfold eqN
  split
  · exact loc_ret _
  · exact loc_bind (loc_natV _) fun _ => loc_ret _
theorem loc_eqNs : ∀ (cs : List NCell) (vs : List Value), Loc (eqNs cs vs)
  | [], [] => loc_ret _
  | [], _ :: _ => loc_ret _
  | _ :: _, [] => loc_ret _
  | c :: cs, v :: vs => loc_bind (loc_eqN c v) fun _ => loc_cond (loc_eqNs cs vs) (loc_ret _)
theorem loc_eqA (a : NArg) (v : Value) : Loc (eqA a v) := by
  unfold eqA
  (repeat' split) <;> first | exact loc_ret _ | exact loc_eqNs _ _ | exact loc_bind (loc_natV _) fun _ => loc_ret _
theorem loc_eqAs : ∀ (l : List NArg) (vs : List Value), Loc (eqAs l vs)
  | [], [] => loc_ret _
  | [], _ :: _ => loc_ret _
  | _ :: _, [] => loc_ret _
  | c :: cs, v :: vs => loc_bind (loc_eqA c v) fun _ => loc_cond (loc_eqAs cs vs) (loc_ret _)
section
variable {h h' : Tr (Blk Nat)} {nx nx' : Nat} {R W : List Nat} {r : Ren} {w : World}
theorem eqK_ok {k : Nat} {v u : Value} {b : Bool} (e : (bind (natV v) fun m => ret (Nat.beq m k) : M Nat Bool) h nx = .ok b h' nx' R W) (hv : VR r v u) (hM : Mod natSig r h.get w) : h' = h ∧ nx' = nx ∧ W = [] ∧ (b = true → NatIn w u k) := by
  obtain ⟨m, h1, nx1, R1, W1, R2, W2, e1, e2, rfl, rfl⟩ := bind_ok e
  obtain ⟨rfl, rfl, rfl, rfl⟩ := ret_ok e2
  obtain ⟨rfl, rfl, rfl, hn⟩ := natV_ok e1 hv hM
  exact ⟨rfl, rfl, rfl, fun hb => by rw [← Nat.eq_of_beq_eq_true hb]; exact hn⟩
theorem eqN_ok {c : NCell} {v u : Value} {b : Bool} (e : eqN c v h nx = .ok b h' nx' R W) (hv : VR r v u) (hM : Mod natSig r h.get w) : h' = h ∧ nx' = nx ∧ W = [] ∧ (b = true → c.is w u) := by
  unfold eqN at e
  cases c with
  | p x =>
    obtain ⟨rfl, rfl, rfl, rfl⟩ := ret_ok e
    refine ⟨rfl, rfl, rfl, fun hb => ?_⟩
    simp only [Bool.and_eq_true] at hb
    obtain rfl := eqV_ok _ _ hb.1
    exact hv.eq_of_plain hb.2
  | n k => exact eqK_ok e hv hM
theorem eqNs_ok : ∀ {cs : List NCell} {vs us : List Value} {h h' : Tr (Blk Nat)} {nx nx' : Nat} {R W : List Nat} {b : Bool}, eqNs cs vs h nx = .ok b h' nx' R W → VsR r vs us → Mod natSig r h.get w → h' = h ∧ nx' = nx ∧ W = [] ∧ (b = true → CellsN w cs us)
  | [], [], us, h, h', nx, nx', R, W, b, e, hv, hM => by
    obtain ⟨rfl, rfl, rfl, rfl⟩ := ret_ok (show (ret true : M Nat _) h nx = _ from e)
    cases hv
    exact ⟨rfl, rfl, rfl, fun _ => rfl⟩
  | [], _ :: _, us, h, h', nx, nx', R, W, b, e, hv, hM => by
    obtain ⟨rfl, rfl, rfl, rfl⟩ := ret_ok (show (ret false : M Nat _) h nx = _ from e)
    exact ⟨rfl, rfl, rfl, fun q => by cases q⟩
  | _ :: _, [], us, h, h', nx, nx', R, W, b, e, hv, hM => by
    obtain ⟨rfl, rfl, rfl, rfl⟩ := ret_ok (show (ret false : M Nat _) h nx = _ from e)
    exact ⟨rfl, rfl, rfl, fun q => by cases q⟩
  | c :: cs, v :: vs, us, h, h', nx, nx', R, W, b, e, hv, hM => by
    cases hv with
    | cons hv1 hv2 =>
      obtain ⟨b1, h1, nx1, R1, W1, R2, W2, e1, e2, rfl, rfl⟩ := bind_ok (show bind (eqN c v) (fun b => cond b (eqNs cs vs) (ret false)) h nx = _ from e)
      obtain ⟨rfl, rfl, rfl, hb⟩ := eqN_ok e1 hv1 hM
      cases b1 with
      | false =>
        obtain ⟨rfl, rfl, rfl, rfl⟩ := ret_ok (show (ret false : M Nat _) _ _ = _ from e2)
        exact ⟨rfl, rfl, rfl, fun q => by cases q⟩
      | true =>
        obtain ⟨q1, q2, q3, q4⟩ := eqNs_ok (show eqNs cs vs _ _ = _ from e2) hv2 hM
        exact ⟨q1, q2, by simpa using q3, fun q => ⟨_, _, rfl, hb rfl, q4 q⟩⟩
theorem eqA_ok {a : NArg} {v u : Value} {b : Bool} (e : eqA a v h nx = .ok b h' nx' R W) (hv : VR r v u) (hM : Mod natSig r h.get w) : h' = h ∧ nx' = nx ∧ W = [] ∧ (b = true → a.is w u) := by
  unfold eqA at e
  cases a with
  | one c =>
    cases c with
    | p x =>
      obtain ⟨rfl, rfl, rfl, rfl⟩ := ret_ok e
      refine ⟨rfl, rfl, rfl, fun hb => ?_⟩
      simp only [Bool.and_eq_true] at hb
      obtain rfl := eqV_ok _ _ hb.1
      exact hv.eq_of_plain2 hb.2
    | n k => exact eqK_ok e hv hM
  | agg cs =>
    cases v with
    | agg l =>
      cases hv with
      | same p => simp [plain] at p
      | agg q =>
        obtain ⟨q1, q2, q3, q4⟩ := eqNs_ok (show eqNs cs _ h nx = _ from e) q hM
        exact ⟨q1, q2, q3, fun hb => ⟨_, rfl, q4 hb⟩⟩
    | _ =>
      obtain ⟨rfl, rfl, rfl, rfl⟩ := ret_ok (show (ret false : M Nat _) h nx = _ from e)
      exact ⟨rfl, rfl, rfl, fun q => by cases q⟩
theorem eqAs_ok : ∀ {l : List NArg} {vs us : List Value} {h h' : Tr (Blk Nat)} {nx nx' : Nat} {R W : List Nat} {b : Bool}, eqAs l vs h nx = .ok b h' nx' R W → VsR r vs us → Mod natSig r h.get w → h' = h ∧ nx' = nx ∧ W = [] ∧ (b = true → ArgsN w l us)
  | [], [], us, h, h', nx, nx', R, W, b, e, hv, hM => by
    obtain ⟨rfl, rfl, rfl, rfl⟩ := ret_ok (show (ret true : M Nat _) h nx = _ from e)
    cases hv
    exact ⟨rfl, rfl, rfl, fun _ => rfl⟩
  | [], _ :: _, us, h, h', nx, nx', R, W, b, e, hv, hM => by
    obtain ⟨rfl, rfl, rfl, rfl⟩ := ret_ok (show (ret false : M Nat _) h nx = _ from e)
    exact ⟨rfl, rfl, rfl, fun q => by cases q⟩
  | _ :: _, [], us, h, h', nx, nx', R, W, b, e, hv, hM => by
    obtain ⟨rfl, rfl, rfl, rfl⟩ := ret_ok (show (ret false : M Nat _) h nx = _ from e)
    exact ⟨rfl, rfl, rfl, fun q => by cases q⟩
  | c :: cs, v :: vs, us, h, h', nx, nx', R, W, b, e, hv, hM => by
    cases hv with
    | cons hv1 hv2 =>
      obtain ⟨b1, h1, nx1, R1, W1, R2, W2, e1, e2, rfl, rfl⟩ := bind_ok (show bind (eqA c v) (fun b => cond b (eqAs cs vs) (ret false)) h nx = _ from e)
      obtain ⟨rfl, rfl, rfl, hb⟩ := eqA_ok e1 hv1 hM
      cases b1 with
      | false =>
        obtain ⟨rfl, rfl, rfl, rfl⟩ := ret_ok (show (ret false : M Nat _) _ _ = _ from e2)
        exact ⟨rfl, rfl, rfl, fun q => by cases q⟩
      | true =>
        obtain ⟨q1, q2, q3, q4⟩ := eqAs_ok (show eqAs cs vs _ _ = _ from e2) hv2 hM
        exact ⟨q1, q2, by simpa using q3, fun q => ⟨_, _, rfl, hb rfl, q4 q⟩⟩
end
noncomputable def tryN (args : List Value) (m : M Nat Value) (l : List NFact) : M Nat Value := List.rec (motive := fun _ => M Nat Value) m (fun x _ ih => bind (eqAs x.args args) fun b => cond b (newA x.v) ih) l
noncomputable def ofN (f : FuncId) (l : List NFact) : List NFact := List.rec (motive := fun _ => List NFact) [] (fun x _ ih => cond (Nat.beq x.f f) (x :: ih) ih) l
noncomputable def nsumS (t : Tr (List NFact)) (l : List Fact) : Sums Nat := fun f args => match t.get f with
  | some fs => some (tryN args fail fs)
  | none => knownR l f args
noncomputable def ntab (l : List NFact) : List FuncId → Tr (List NFact)
  | [] => .nil
  | f :: fs => (ntab l fs).set f (ofN f l)
theorem ofN_ok {f : FuncId} : ∀ {l : List NFact}, (∀ x ∈ l, x.ok) → ∀ x ∈ ofN f l, x.ok ∧ x.f = f
  | [], _, x, hx => by simp [ofN] at hx
  | y :: l, h, x, hx => by
    have e : ofN f (y :: l) = cond (Nat.beq y.f f) (y :: ofN f l) (ofN f l) := rfl
    rw [e] at hx
    cases hb : Nat.beq y.f f with
    | false => rw [hb] at hx; exact ofN_ok (fun z hz => h z (List.mem_cons_of_mem _ hz)) x hx
    | true =>
      rw [hb] at hx
      rcases List.mem_cons.1 hx with rfl | hx
      · exact ⟨h x List.mem_cons_self, Nat.eq_of_beq_eq_true hb⟩
      · exact ofN_ok (fun z hz => h z (List.mem_cons_of_mem _ hz)) x hx
theorem ntab_ok {l : List NFact} (h : ∀ x ∈ l, x.ok) : ∀ {fs : List FuncId} {f : FuncId} {xs : List NFact}, (ntab l fs).get f = some xs → ∀ x ∈ xs, x.ok ∧ x.f = f
  | [], f, xs, e => by rw [show ntab l [] = .nil from rfl, Tr.get_nil] at e; cases e
  | g :: fs, f, xs, e => by
    rw [show ntab l (g :: fs) = (ntab l fs).set g (ofN g l) from rfl, Tr.get_set] at e
    split at e
    · rename_i q
      subst q
      cases e
      exact ofN_ok h
    · exact ntab_ok h e
theorem loc_tryN (args : List Value) : ∀ l : List NFact, Loc (tryN args fail l)
  | [] => loc_fail
  | _ :: l => loc_bind (loc_eqAs _ _) fun _ => loc_cond (loc_newA _) (loc_tryN args l)
theorem tryN_ok {f : FuncId} {args : List Value} : ∀ {l : List NFact}, (∀ x ∈ l, x.ok ∧ x.f = f) → ∀ {h h' : Tr (Blk Nat)} {nx nx' : Nat} {R W : List Nat} {v : Value}, tryN args fail l h nx = .ok v h' nx' R W → ∀ (r : Ren) (w : World) (args' : List Value), VsR r args args' → Mod natSig r h.get w → New r nx nx' → Goes f args' r w nx nx' W h'.get v
  | [], _, h, h', nx, nx', R, W, v, e => by exact absurd (show (fail : M Nat Value) h nx = _ from e) (by simp [fail])
  | x :: l, hl, h, h', nx, nx', R, W, v, e => by
    intro r w args' ha hM hN
    obtain ⟨b, h1, nx1, R1, W1, R2, W2, e1, e2, rfl, rfl⟩ := bind_ok (show bind (eqAs x.args args) (fun b => cond b (newA x.v) (tryN args fail l)) h nx = _ from e)
    obtain ⟨rfl, rfl, rfl, hb⟩ := eqAs_ok e1 ha hM
    cases b with
    | false => simpa using tryN_ok (fun y hy => hl y (List.mem_cons_of_mem _ hy)) (show tryN args fail l _ _ = _ from e2) r w args' ha hM hN
    | true =>
      obtain ⟨hok, rfl⟩ := hl x List.mem_cons_self
      refine (hok w args' hM.fits hM.base (hb rfl)).mono ?_
      rintro en w' ⟨v', rfl, hv, hbl⟩
      have hX := ext_below hM hbl nx1
      obtain ⟨l1, r', hvr, hY⟩ := newA_ok (show newA x.v _ _ = _ from e2) hX.mod (hN.after hX (Nat.le_refl _)) hv
      exact ⟨v', r', rfl, hvr, by simpa using hX.trans hY (Nat.le_refl _) l1⟩
theorem nsumS_ok {ln : List NFact} {l : List Fact} (fs : List FuncId) (hn : ∀ x ∈ ln, x.ok) (hl : ∀ x ∈ l, x.ok) : SumOK natSig Tryz.prog (nsumS (ntab ln fs) l) := by
  have hk := knownR_ok hl
  refine ⟨fun f args m e => ?_, fun f args m e h nx v h' nx' R W hr r w args' ha hM hN => ?_⟩
  · unfold nsumS at e
    cases hq : (ntab ln fs).get f with
    | none => rw [hq] at e; exact hk.loc f args m e
    | some xs => rw [hq] at e; cases e; exact loc_tryN _ _
  · unfold nsumS at e
    cases hq : (ntab ln fs).get f with
    | none => rw [hq] at e; exact hk.run f args m e h nx v h' nx' R W hr r w args' ha hM hN
    | some xs =>
      rw [hq] at e
      cases e
      exact tryN_ok (ntab_ok hn hq) hr.ok r w args' ha hM hN
noncomputable def brunS (sum : Sums Nat) (n : Nat) (f : FuncId) (args : List BArg) : Option BAns :=
  cond (argOk args && Nat.ble args.length 1000) (match call Tryz.prog natCfg sum n f (argV args 100000) (mkTab (argH args 100000)) 200000 with
    | .no => none
    | .ok v h _ _ W => cond (geAll 200000 W) (ansB h 200000 v) none) none
theorem BFact.by_runS {sum : Sums Nat} (hs : SumOK natSig Tryz.prog sum) {x : BFact} {n : Nat} (h : brunS sum n x.f x.args = some x.v) : x.ok := by
  intro w vs bs hG hT hA
  unfold brunS at h
  cases hok0 : (argOk x.args && Nat.ble x.args.length 1000) with
  | false => rw [hok0] at h; cases h
  | true =>
    rw [hok0] at h
    simp only [cond_true] at h
    simp only [Bool.and_eq_true] at hok0
    obtain ⟨hok, hfew⟩ := hok0
    have hfew := Nat.le_trans (args_few hA) (Nat.le_of_ble_eq_true hfew)
    cases hc : call Tryz.prog natCfg sum n x.f (argV x.args 100000) (mkTab (argH x.args 100000)) 200000 with
    | no => rw [hc] at h; cases h
    | ok v h' nx' R W =>
      rw [hc] at h
      simp only at h
      cases hg : geAll 200000 W with
      | false => rw [hg] at h; cases h
      | true =>
        rw [hg] at h
        simp only [cond_true] at h
        have hW := geAll_ok hg
        obtain ⟨ap1, ap2⟩ := args_apart hA
        have hGf := globs_few
        have hfr : Fr (mkTab (argH x.args 100000)) 200000 := fr_mkTab fun y hy => by
          have := argsAre_len hA 100000 y hy
          omega
        have hcl := call_ok natFits hs n
        have hrun := Run.self (hcl.loc x.f (argV x.args 100000)) hc hfr
        have L := (hcl.loc x.f (argV x.args 100000)).2 _ _ _ _ _ _ _ hc hfr
        obtain ⟨r1, hr1⟩ : ∃ r1 : Ren, r1 = ⟨fun n => if n < Tryz.prog.globals.size then some n else if 100000 ≤ n then bs[n - 100000]? else none, fun _ => none, fun n => match bs[n - 100000]? with
            | some b => match w.heap[b]? with
              | some (.cells c _ _) => c.size
              | _ => 0
            | none => 0⟩ := ⟨_, rfl⟩
        have hb1 : ∀ n, r1.blk n = if n < Tryz.prog.globals.size then some n else if 100000 ≤ n then bs[n - 100000]? else none := fun n => by rw [hr1]
        have hbig : ∀ n, 100000 ≤ n → r1.blk n = bs[n - 100000]? := fun n hn => by rw [hb1, if_neg (by omega), if_pos hn]
        have hbr : BRen r1 w 100000 bs := fun j b hj => by
          have hj2 := (List.getElem?_eq_some_iff.1 hj).1
          have e1 : 100000 + j - 100000 = j := by omega
          obtain ⟨_, cl, t, hh⟩ := ap2 b (List.mem_of_getElem? hj)
          refine ⟨by rw [hbig _ (by omega), e1]; exact hj, cl, t, hh, ?_⟩
          rw [hr1]
          simp only [e1, hj, hh]
          simp
        have hrow : ∀ n b, 100000 ≤ n → r1.blk n = some b → bs[n - 100000]? = some b := fun n b hn q => by rw [hbig n hn] at q; exact q
        have hM : Mod natSig r1 (mkTab (argH x.args 100000)).get w := by
          have hno : ∀ n bl, (mkTab (argH x.args 100000)).get n = some bl → ∃ j b cs t, n = 100000 + j ∧ bl = .room cs t ∧ bs[j]? = some b ∧ (∃ cl, w.heap[b]? = some (.cells ⟨cl⟩ t (0, 0)) ∧ cl.take cs.length = cs) ∧ plainL plain cs = true := fun n bl hn => by
            obtain ⟨j, b, cs, t, q1, q2⟩ := argH_room (i := 100000) hA hok _ (mkTab_get hn)
            cases q1
            exact ⟨j, b, cs, t, rfl, rfl, q2⟩
          refine ⟨fun n m b q1 q2 => ?_, fun n b q => ?_, fun n c t q => ?_, fun n k q => ?_, hT, fun n hn => by rw [hb1]; exact if_pos hn, fun n b q hn => ?_, fun n c t q => ?_, Nat.zero_le _⟩
          · left
            rw [hb1] at q1 q2
            split at q1 <;> split at q2
            · cases q1; cases q2; rfl
            · rename_i a1 a2
              split at q2
              · cases q1
                have := (ap2 _ (List.mem_of_getElem? q2)).1
                omega
              · cases q2
            · rename_i a1 a2
              split at q1
              · cases q2
                have := (ap2 _ (List.mem_of_getElem? q1)).1
                omega
              · cases q1
            · split at q1
              · split at q2
                · have := ap1 _ _ b q1 q2
                  omega
                · cases q2
              · cases q1
          · rw [hb1] at q
            split at q
            · cases q; omega
            · split at q
              · obtain ⟨_, cl, t, hh⟩ := ap2 b (List.mem_of_getElem? q)
                exact (Array.getElem?_eq_some_iff.1 hh).1
              · cases q
          · obtain ⟨_, _, _, _, _, q2, _⟩ := hno n _ q
            cases q2
          · obtain ⟨_, _, _, _, _, q2, _⟩ := hno n _ q
            cases q2
          · rw [hb1] at q
            split at q
            · rename_i a; exact absurd a (Nat.not_lt.2 hn)
            · split at q
              · exact (ap2 b (List.mem_of_getElem? q)).1
              · cases q
          · obtain ⟨j, b, cs, t', rfl, q2, q3, ⟨cl, q4, q5⟩, q6⟩ := hno n _ q
            cases q2
            obtain ⟨p1, cl2, t2, p2, p3⟩ := hbr j b q3
            rw [q4] at p2
            simp only [Option.some.injEq, Obj.cells.injEq, Array.mk.injEq] at p2
            exact ⟨b, cl, p1, q4, plain_pre q5 q6, id, by rw [p3, p2.1]; exact Nat.le_refl _⟩
        have hN : New r1 200000 nx' := fun n q1 q2 => by
          refine ⟨?_, by rw [hr1]⟩
          rw [hbig n (by omega)]
          exact List.getElem?_eq_none_iff.2 (by omega)
        refine (hcl.run x.f _ _ _ _ _ _ _ _ hrun r1 w vs (args_vr hA hok hbr) hM hN).mono ?_
        rintro en w' ⟨v', r', rfl, hv, hX⟩
        have hnone : ∀ m, 200000 ≤ m → r1.blk m = none := fun m hm => by
          rw [hbig m (by omega)]
          exact List.getElem?_eq_none_iff.2 (by omega)
        refine ⟨v', rfl, ansB_ok h hv hX.mod (fun m b hm hb => ?_), hX.os, hX.tape, hX.output, hX.size, fun b hb' => ?_⟩
        · rcases hX.new m b hb with q | q | ⟨k, hk, q⟩
          · rw [hnone m hm] at q; cases q
          · exact q
          · rw [hnone k (hW k hk)] at q; cases q
        · have hbo : w.heap[b]? = some w.heap[b] := Array.getElem?_eq_getElem hb'
          rw [hbo]
          exact hX.keep b _ hbo fun k hk q => by rw [hnone k (hW k hk)] at q; cases q
end Ev
end Go.Proofs.YtmioikbnjflldaaGreatDoor
