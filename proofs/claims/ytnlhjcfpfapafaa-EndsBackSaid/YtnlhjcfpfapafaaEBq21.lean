/- Contracts. -/
import Derived.Test.YtnlhjcfpfapafaaEBq20
namespace Go.Proofs.Ytnlhjcfpfapafaa
open Go Go.RowKit
namespace Ev
section
variable {F : Type}
noncomputable def newFacts : List F → M F (List Value) := List.rec (motive := fun _ => M F (List Value)) (ret []) (fun f _ ih => bind (newFact f) fun x => bind ih fun l => ret (x :: l))
def HoldsL (S : Sig F) (w : World) : List F → List Value → Prop
 | [], us => us = []
 | f :: l, us => ∃ u us', us = u :: us' ∧ S.holds f w u ∧ isOne u = true ∧ HoldsL S w l us'
theorem loc_newFacts : ∀ l : List F, Loc (newFacts l)
 | [] => loc_ret _
 | f :: l => loc_bind (loc_newFact f) fun _ => loc_bind (loc_newFacts l) fun _ => loc_ret _
theorem newFacts_ok {S : Sig F} : ∀ (l : List F) {h h' : Tr (Blk F)} {nx nx' : Nat} {R W : List Nat} {vs : List Value} {r : Ren} {w : World} {us : List Value}, newFacts l h nx = .ok vs h' nx' R W → Mod S r h.get w → New r nx nx' → HoldsL S w l us →
  nx ≤ nx' ∧ ∃ r', Ext S r w nx nx' W h'.get r' w ∧ VsR r' vs us
 | [], h, h', nx, nx', R, W, vs, r, w, us, e, hM, hN, hu => by
  obtain ⟨rfl, rfl, rfl, rfl⟩ := ret_ok (show (ret [] : M F _) h nx = _ from e)
  obtain rfl : us = [] := hu
  exact ⟨Nat.le_refl _, r, Ext.refl _ _ hM, .nil⟩
 | f :: l, h, h', nx, nx', R, W, vs, r, w, us, e, hM, hN, hu => by
  obtain ⟨u, us', rfl, h1, ho, h2⟩ := hu
  obtain ⟨x, h3, nx3, R3, W3, R4, W4, e3, e4, rfl, rfl⟩ := bind_ok (show bind (newFact f) (fun x => bind (newFacts l) fun l => ret (x :: l)) h nx = _ from e)
  obtain ⟨i, h5, nx5, R5, W5, R6, W6, e5, e6, rfl, rfl⟩ := bind_ok e3
  obtain ⟨rfl, rfl, rfl, rfl⟩ := ret_ok e6
  unfold fresh at e5
  cases e5
  obtain ⟨xs, h7, nx7, R7, W7, R8, W8, e7, e8, rfl, rfl⟩ := bind_ok e4
  obtain ⟨rfl, rfl, rfl, rfl⟩ := ret_ok e8
  have hle : nx + 1 ≤ nx' := (loc_newFacts l).1 _ _ _ _ _ _ _ e7
  obtain ⟨r1, hX, hr⟩ := ext_fact (S := S) (f := f) hM (Below.refl _ w) (hN.sub (Nat.le_refl _) hle) h1 ho
  have hX' : Ext S r w nx (nx + 1) [] (h.set nx (.fact f)).get r1 w := hX.congr fun n => .inr (Tr.get_set _ _ _ _)
  obtain ⟨_, r2, hY, hs⟩ := newFacts_ok l e7 hX'.mod (New.after hN hX' (by omega)) h2
  refine ⟨by omega, r2, by simpa using hX'.trans hY (by omega) hle, .cons (.opq (hY.le.val _ _ hr) ho) hs⟩
theorem goes_agg {S : Sig F} {P : Program} {l : List F} {f : FuncId} {args' : List Value} {h h' : Tr (Blk F)} {nx nx' : Nat} {R W : List Nat} {r : Ren} {w : World} {v : Value}
  (e : (bind (newFacts l) fun vs => ret (.agg ⟨vs⟩) : M F Value) h nx = .ok v h' nx' R W) (hM : Mod S r h.get w) (hN : New r nx nx') (c : Calls P f ⟨args'⟩ w fun e w' => ∃ us, e = .returned (.agg ⟨us⟩) ∧ HoldsL S w' l us ∧ Below w.heap.size w w') :
  Calls P f ⟨args'⟩ w fun e w' => ∃ v' r', e = .returned v' ∧ VR r' v v' ∧ Ext S r w nx nx' W h'.get r' w' := by
 obtain ⟨vs, h1, nx1, R1, W1, R2, W2, e1, e2, rfl, rfl⟩ := bind_ok e
 obtain ⟨rfl, rfl, rfl, rfl⟩ := ret_ok e2
 refine c.mono ?_
 rintro en w' ⟨us, rfl, hu, hb⟩
 have hX := ext_below hM hb nx
 obtain ⟨hle, r', hY, hv⟩ := newFacts_ok l e1 hX.mod hN hu
 exact ⟨_, r', rfl, .agg hv, by simpa using hX.trans hY (Nat.le_refl _) hle⟩
theorem goes_aggT {S : Sig F} {P : Program} {l : List F} {f : FuncId} {args' : List Value} {h h' : Tr (Blk F)} {nx nx' : Nat} {R W : List Nat} {r : Ren} {w : World} {v u : Value} (hp : plain u = true)
  (e : (bind (newFacts l) fun vs => ret (.tuple ⟨[.agg ⟨vs⟩, u]⟩) : M F Value) h nx = .ok v h' nx' R W) (hM : Mod S r h.get w) (hN : New r nx nx') (c : Calls P f ⟨args'⟩ w fun e w' => ∃ us, e = .returned (.tuple ⟨[.agg ⟨us⟩, u]⟩) ∧ HoldsL S w' l us ∧ Below w.heap.size w w') :
  Calls P f ⟨args'⟩ w fun e w' => ∃ v' r', e = .returned v' ∧ VR r' v v' ∧ Ext S r w nx nx' W h'.get r' w' := by
 obtain ⟨vs, h1, nx1, R1, W1, R2, W2, e1, e2, rfl, rfl⟩ := bind_ok e
 obtain ⟨rfl, rfl, rfl, rfl⟩ := ret_ok e2
 refine c.mono ?_
 rintro en w' ⟨us, rfl, hu, hb⟩
 have hX := ext_below hM hb nx
 obtain ⟨hle, r', hY, hv⟩ := newFacts_ok l e1 hX.mod hN hu
 exact ⟨_, r', rfl, .tuple (.cons (.agg hv) (.cons (.same hp) .nil)), by simpa using hX.trans hY (Nat.le_refl _) hle⟩
theorem goes_pl {S : Sig F} {P : Program} {f : FuncId} {args' : List Value} {h h' : Tr (Blk F)} {nx nx' : Nat} {R W : List Nat} {r : Ren} {w : World} {u v : Value} (e : (ret u : M F Value) h nx = .ok v h' nx' R W) (hp : plain3 u = true) (hM : Mod S r h.get w)
  (c : Calls P f ⟨args'⟩ w fun e w' => e = .returned u ∧ Below w.heap.size w w') : Calls P f ⟨args'⟩ w fun e w' => ∃ v' r', e = .returned v' ∧ VR r' v v' ∧ Ext S r w nx nx' W h'.get r' w' := by
 obtain ⟨rfl, rfl, rfl, rfl⟩ := ret_ok e
 refine c.mono ?_
 rintro en w' ⟨rfl, hb⟩
 exact ⟨_, r, rfl, same3 hp, ext_below hM hb _⟩
end
noncomputable def getNg : Sy → Option Qe | .ng e => some e | _ => none
noncomputable def getNu : Sy → Option Qe | .nu e => some e | _ => none
noncomputable def getDe : Sy → Option Qe | .de e => some e | _ => none
noncomputable def getFn : Sy → Option Qe | .fn e => some e | _ => none
noncomputable def getFd : Sy → Option Qe | .fd e => some e | _ => none
noncomputable def getRn : Sy → Option Nat | .rn e => some e | _ => none
noncomputable def getRd : Sy → Option Nat | .rd e => some e | _ => none
noncomputable def knw {α : Type} (g : Sy → Option α) (v : Value) : M Sy α := bind (fact v) fun f => ofOpt (g f)
theorem loc_knw {α : Type} (g : Sy → Option α) (v : Value) : Loc (knw g v) := loc_bind (loc_fact v) fun _ => loc_opt _
section
variable {ρ : Env} {h h' : Tr (Blk Sy)} {nx nx' : Nat} {R W : List Nat} {r : Ren} {w : World}
theorem knw_ok {α : Type} {g : Sy → Option α} {v v' : Value} {x : α} (e : knw g v h nx = .ok x h' nx' R W) (hv : VR r v v') (hM : Mod (symSig ρ) r h.get w) : h' = h ∧ nx' = nx ∧ W = [] ∧ ∃ f, g f = some x ∧ f.holds ρ w v' := by
 obtain ⟨f, h1, nx1, R1, W1, R2, W2, e1, e2, rfl, rfl⟩ := bind_ok e
 obtain ⟨rfl, rfl, rfl, hh⟩ : h1 = h ∧ nx1 = nx ∧ W1 = [] ∧ (symSig ρ).holds f w v' := by
  have e1' : (fact v : M Sy Sy) h nx = .ok f h1 nx1 R1 W1 := e1
  exact fact_ok e1' hv hM
 cases hg : g f with
 | none => rw [hg] at e2; exact absurd e2 (by simp [ofOpt, fail])
 | some y =>
  rw [hg] at e2
  obtain ⟨rfl, rfl, rfl, rfl⟩ := ret_ok e2
  exact ⟨rfl, rfl, rfl, f, hg, hh⟩
theorem ng_of {f : Sy} {e : Qe} {v : Value} (hg : getNg f = some e) (h : f.holds ρ w v) : v = .bool (Big.ng (e.ev ρ.q)) := by cases f <;> simp [getNg] at hg; subst hg; exact h
theorem nu_of {f : Sy} {e : Qe} {v : Value} (hg : getNu f = some e) (h : f.holds ρ w v) : NatIn w v (Big.nu (e.ev ρ.q)) := by cases f <;> simp [getNu] at hg; subst hg; exact h
theorem de_of {f : Sy} {e : Qe} {v : Value} (hg : getDe f = some e) (h : f.holds ρ w v) : NatIn w v (Big.de (e.ev ρ.q)) := by cases f <;> simp [getDe] at hg; subst hg; exact h
theorem fn_of {f : Sy} {e : Qe} {v : Value} (hg : getFn f = some e) (h : f.holds ρ w v) : v = .string (bst (Big.nu (e.ev ρ.q))) := by cases f <;> simp [getFn] at hg; subst hg; exact h
theorem fd_of {f : Sy} {e : Qe} {v : Value} (hg : getFd f = some e) (h : f.holds ρ w v) : v = .string (bst (Big.de (e.ev ρ.q))) := by cases f <;> simp [getFd] at hg; subst hg; exact h
theorem rn_of {f : Sy} {e : Nat} {v : Value} (hg : getRn f = some e) (h : f.holds ρ w v) : v = .string (ρ.raw e).2.1 := by cases f <;> simp [getRn] at hg; subst hg; exact h
theorem rd_of {f : Sy} {e : Nat} {v : Value} (hg : getRd f = some e) (h : f.holds ρ w v) : v = .string (ρ.raw e).2.2 := by cases f <;> simp [getRd] at hg; subst hg; exact h
theorem vr_agg {l : List Value} {v' : Value} (h : VR r (.agg ⟨l⟩) v') : ∃ l', v' = .agg ⟨l'⟩ ∧ VsR r l l' := by
 cases h with
 | same p => simp [plain] at p
 | agg a => exact ⟨_, rfl, a⟩
end
noncomputable def num3 (l : List Value) : M Sy Qe := match l with
 | [a, b, c] => bind (knw getNg a) fun e => bind (knw getNu b) fun e2 => bind (knw getDe c) fun e3 => cond (e.beq e2 && e.beq e3) (ret e) fail
 | _ => fail
noncomputable def numV (v : Value) : M Sy Qe := match v with
 | .agg cs => num3 cs.toList
 | _ => fail
theorem loc_num3 (l : List Value) : Loc (num3 l) := by
 unfold num3
 split
 ·exact loc_bind (loc_knw _ _) fun _ => loc_bind (loc_knw _ _) fun _ => loc_bind (loc_knw _ _) fun _ => loc_cond (loc_ret _) loc_fail
 ·exact loc_fail
theorem loc_numV (v : Value) : Loc (numV v) := by
 unfold numV
 split
 ·exact loc_num3 _
 ·exact loc_fail
section
variable {ρ : Env} {h h' : Tr (Blk Sy)} {nx nx' : Nat} {R W : List Nat} {r : Ren} {w : World}
theorem num3_ok {l l' : List Value} {q : Qe} (e : num3 l h nx = .ok q h' nx' R W) (hv : VsR r l l') (hM : Mod (symSig ρ) r h.get w) : h' = h ∧ nx' = nx ∧ W = [] ∧ NumIn w (.agg ⟨l'⟩) (q.ev ρ.q) := by
 unfold num3 at e
 rcases l with _ | ⟨a, _ | ⟨b, _ | ⟨c, _ | ⟨d, l⟩⟩⟩⟩ <;> first | (cases (show (fail : M Sy Qe) h nx = _ from e); done) | skip
 cases hv with
 | cons ha hv => cases hv with
  | cons hb hv => cases hv with
   | cons hc hv =>
    cases hv
    obtain ⟨e1, h1, nx1, R1, W1, R2, W2, q1, q2, rfl, rfl⟩ := bind_ok e
    obtain ⟨rfl, rfl, rfl, f1, g1, k1⟩ := knw_ok q1 ha hM
    obtain ⟨e2, h2, nx2, R3, W3, R4, W4, q3, q4, rfl, rfl⟩ := bind_ok q2
    obtain ⟨rfl, rfl, rfl, f2, g2, k2⟩ := knw_ok q3 hb hM
    obtain ⟨e3, h3, nx3, R5, W5, R6, W6, q5, q6, rfl, rfl⟩ := bind_ok q4
    obtain ⟨rfl, rfl, rfl, f3, g3, k3⟩ := knw_ok q5 hc hM
    obtain ⟨hbq, q7⟩ := cond_ok q6
    obtain ⟨rfl, rfl, rfl, rfl⟩ := ret_ok q7
    simp only [Bool.and_eq_true] at hbq
    have x2 := Qe.beq_ok _ _ hbq.1
    have x3 := Qe.beq_ok _ _ hbq.2
    subst x2; subst x3
    refine ⟨rfl, rfl, by simp, _, _, ?_, nu_of g2 k2, de_of g3 k3⟩
    rw [ng_of g1 k1]
theorem numV_ok {v v' : Value} {q : Qe} (e : numV v h nx = .ok q h' nx' R W) (hv : VR r v v') (hM : Mod (symSig ρ) r h.get w) : h' = h ∧ nx' = nx ∧ W = [] ∧ NumIn w v' (q.ev ρ.q) := by
 unfold numV at e
 cases v with
 | agg cs =>
  obtain ⟨l⟩ := cs
  obtain ⟨l', rfl, hl⟩ := vr_agg hv
  exact num3_ok e hl hM
 | _ => exact absurd e (by simp [fail])
theorem num_holds {v' : Value} {e : Qe} (h : NumIn w v' (e.ev ρ.q)) : ∃ us, v' = .agg ⟨us⟩ ∧ HoldsL (symSig ρ) w [.ng e, .nu e, .de e] us := by
 obtain ⟨a, b, rfl, h1, h2⟩ := h
 exact ⟨[.bool (Big.ng (e.ev ρ.q)), a, b], rfl, _, _, rfl, rfl, rfl, _, _, rfl, h1, nat_one h1, _, _, rfl, h2, nat_one h2, rfl⟩
theorem frac_holds (e : Qe) : HoldsL (symSig ρ) w [.ng e, .fn e, .fd e] [.bool (Big.ng (e.ev ρ.q)), .string (bst (Big.nu (e.ev ρ.q))), .string (bst (Big.de (e.ev ρ.q)))] :=
 ⟨_, _, rfl, rfl, rfl, _, _, rfl, rfl, rfl, _, _, rfl, rfl, rfl, rfl⟩
end
noncomputable def frc (a b : Value) (e : Qe) : M Sy (Option Qe) := bind (knw getFn a) fun e2 => bind (knw getFd b) fun e3 => cond (e.beq e2 && e.beq e3) (ret (some e)) fail
noncomputable def raw (a b : Value) (i : Nat) : M Sy (Option Qe) := bind (knw getRn a) fun j => bind (knw getRd b) fun k => cond (Nat.beq i j && Nat.beq i k) (ret none) fail
noncomputable def isB (n : Nat) (s : ByteArray) : Bool := eqL eqC (btx n) s.data.toList
noncomputable def cst (s : Bool) (a b : Value) : Option (Option Qe) := match a with
 | .string x => match b with
  | .string y => cond (Nat.ble y.size 0 && (Nat.ble x.size 0 && !s)) (some none)
     (cond (Nat.beq (Nat.gcd (Big.bnum x.data.toList) (Big.bnum y.data.toList)) 1 && (Nat.ble 1 (Big.bnum y.data.toList) && ((!s || Nat.ble 1 (Big.bnum x.data.toList)) && (isB (Big.bnum x.data.toList) x && isB (Big.bnum y.data.toList) y))))
      (some (some (.c s (Big.bnum x.data.toList) (Big.bnum y.data.toList)))) none)
  | _ => none
 | _ => none
noncomputable def frg (b c : Value) (f : Sy) : M Sy (Option Qe) := match f with
 | .ng e => frc b c e
 | .rg i => raw b c i
 | _ => fail
noncomputable def frcV (l : List Value) : M Sy (Option Qe) := match l with
 | [a, b, c] => match a with
  | .bool s => ofOpt (cst s b c)
  | a => bind (fact a) (frg b c)
 | _ => fail
theorem loc_frg (b c : Value) (f : Sy) : Loc (frg b c f) := by
 unfold frg frc raw
 split
 ·exact loc_bind (loc_knw _ _) fun _ => loc_bind (loc_knw _ _) fun _ => loc_cond (loc_ret _) loc_fail
 ·exact loc_bind (loc_knw _ _) fun _ => loc_bind (loc_knw _ _) fun _ => loc_cond (loc_ret _) loc_fail
 ·exact loc_fail
theorem loc_frcV (l : List Value) : Loc (frcV l) := by
 unfold frcV
 split
 ·split
  ·exact loc_opt _
  ·exact loc_bind (loc_fact _) fun _ => loc_frg _ _ _
 ·exact loc_fail
theorem bad_zero : BadF (false, ⟨#[]⟩, ⟨#[]⟩) := by
 intro q _ ⟨_, _, h⟩
 have h1 : (⟨#[]⟩ : ByteArray).size = (bst (Big.de q)).size := congrArg ByteArray.size h
 have h2 := szN_pos (n := Big.de q) (by have := Big.de_pos q; omega)
 rw [bst_size] at h1
 have : (⟨#[]⟩ : ByteArray).size = 0 := rfl
 omega
def FrcIs (ρ : Env) (l' : List Value) : Option Qe → Prop
 | some e => l' = [.bool (Big.ng (e.ev ρ.q)), .string (bst (Big.nu (e.ev ρ.q))), .string (bst (Big.de (e.ev ρ.q)))]
 | none => ∃ x, BadF x ∧ l' = [.bool x.1, .string x.2.1, .string x.2.2]
theorem isB_ok {n : Nat} {s : ByteArray} (h : isB n s = true) : s = bst n := by
 have h1 := eqL_ok eqC_ok h
 obtain ⟨⟨l⟩⟩ := s
 unfold bst
 rw [h1]
theorem parts_c {s : Bool} {n d : Nat} (h1 : Nat.gcd n d = 1) (h2 : 1 ≤ d) (h3 : s = true → 1 ≤ n) : Big.ng (mkRat (Big.sI s n) d) = s ∧ Big.nu (mkRat (Big.sI s n) d) = n ∧ Big.de (mkRat (Big.sI s n) d) = d :=
 Big.parts h2 h1 h3 (show d ≠ 0 by omega) rfl rfl
theorem cst_ok {ρ : Env} {s : Bool} {a b : Value} {o : Option Qe} (h : cst s a b = some o) : FrcIs ρ [.bool s, a, b] o := by
 unfold cst at h
 cases a with
 | string x =>
  cases b with
  | string y =>
   simp only at h
   cases hz : (Nat.ble y.size 0 && (Nat.ble x.size 0 && !s)) with
   | true =>
    rw [hz] at h
    simp only [cond_true, Option.some.injEq] at h
    subst h
    simp only [Bool.and_eq_true, Bool.not_eq_true'] at hz
    have y0 := empty_of (Nat.le_zero.1 (Nat.le_of_ble_eq_true hz.1))
    have x0 := empty_of (Nat.le_zero.1 (Nat.le_of_ble_eq_true hz.2.1))
    have s0 := hz.2.2
    subst y0; subst x0; subst s0
    exact ⟨(false, ⟨#[]⟩, ⟨#[]⟩), bad_zero, rfl⟩
   | false =>
    rw [hz] at h
    simp only [cond_false] at h
    cases hk : (Nat.beq (Nat.gcd (Big.bnum x.data.toList) (Big.bnum y.data.toList)) 1 && (Nat.ble 1 (Big.bnum y.data.toList) && ((!s || Nat.ble 1 (Big.bnum x.data.toList)) && (isB (Big.bnum x.data.toList) x && isB (Big.bnum y.data.toList) y)))) with
    | false => rw [hk] at h; cases h
    | true =>
     rw [hk] at h
     simp only [cond_true, Option.some.injEq] at h
     subst h
     simp only [Bool.and_eq_true, Bool.or_eq_true, Bool.not_eq_true'] at hk
     obtain ⟨k1, k2, k3, k4, k5⟩ := hk
     obtain ⟨p1, p2, p3⟩ := parts_c (s := s) (Nat.eq_of_beq_eq_true k1) (Nat.le_of_ble_eq_true k2) (fun hs => by
      rcases k3 with k3 | k3
      ·rw [hs] at k3; cases k3
      ·exact Nat.le_of_ble_eq_true k3)
     show [Value.bool s, .string x, .string y] = [.bool (Big.ng (mkRat (Big.sI s (Big.bnum x.data.toList)) (Big.bnum y.data.toList))), .string (bst (Big.nu (mkRat (Big.sI s (Big.bnum x.data.toList)) (Big.bnum y.data.toList)))), .string (bst (Big.de (mkRat (Big.sI s (Big.bnum x.data.toList)) (Big.bnum y.data.toList))))]
     rw [p1, p2, p3, ← isB_ok k4, ← isB_ok k5]
  | _ => simp at h
 | _ => simp at h
section
variable {ρ : Env} {h h' : Tr (Blk Sy)} {nx nx' : Nat} {R W : List Nat} {r : Ren} {w : World}
theorem frg_ok {b c b' c' v : Value} {f : Sy} {o : Option Qe} (e : frg b c f h nx = .ok o h' nx' R W) (hb : VR r b b') (hc : VR r c c') (hf : f.holds ρ w v) (hM : Mod (symSig ρ) r h.get w) : h' = h ∧ nx' = nx ∧ W = [] ∧ FrcIs ρ [v, b', c'] o := by
 unfold frg at e
 cases f with
 | ng q =>
  obtain ⟨e2, h2, nx2, R3, W3, R4, W4, q3, q4, rfl, rfl⟩ := bind_ok (show frc b c q h nx = _ from e)
  obtain ⟨rfl, rfl, rfl, f2, g2, k2⟩ := knw_ok q3 hb hM
  obtain ⟨e3, h3, nx3, R5, W5, R6, W6, q5, q6, rfl, rfl⟩ := bind_ok q4
  obtain ⟨rfl, rfl, rfl, f3, g3, k3⟩ := knw_ok q5 hc hM
  obtain ⟨hbq, q7⟩ := cond_ok q6
  obtain ⟨rfl, rfl, rfl, rfl⟩ := ret_ok q7
  simp only [Bool.and_eq_true] at hbq
  have x2 := Qe.beq_ok _ _ hbq.1
  have x3 := Qe.beq_ok _ _ hbq.2
  subst x2; subst x3
  refine ⟨rfl, rfl, by simp, ?_⟩
  show [v, b', c'] = _
  rw [show v = .bool (Big.ng (q.ev ρ.q)) from hf, fn_of g2 k2, fd_of g3 k3]
 | rg i =>
  obtain ⟨e2, h2, nx2, R3, W3, R4, W4, q3, q4, rfl, rfl⟩ := bind_ok (show raw b c i h nx = _ from e)
  obtain ⟨rfl, rfl, rfl, f2, g2, k2⟩ := knw_ok q3 hb hM
  obtain ⟨e3, h3, nx3, R5, W5, R6, W6, q5, q6, rfl, rfl⟩ := bind_ok q4
  obtain ⟨rfl, rfl, rfl, f3, g3, k3⟩ := knw_ok q5 hc hM
  obtain ⟨hbq, q7⟩ := cond_ok q6
  obtain ⟨rfl, rfl, rfl, rfl⟩ := ret_ok q7
  simp only [Bool.and_eq_true] at hbq
  have x2 := Nat.eq_of_beq_eq_true hbq.1
  have x3 := Nat.eq_of_beq_eq_true hbq.2
  subst x2; subst x3
  refine ⟨rfl, rfl, by simp, ρ.raw i, ρ.bad i, ?_⟩
  rw [show v = .bool (ρ.raw i).1 from hf, rn_of g2 k2, rd_of g3 k3]
 | _ => exact absurd e (by simp [fail])
theorem frcV_ok {l l' : List Value} {o : Option Qe} (e : frcV l h nx = .ok o h' nx' R W) (hv : VsR r l l') (hM : Mod (symSig ρ) r h.get w) : h' = h ∧ nx' = nx ∧ W = [] ∧ FrcIs ρ l' o := by
 unfold frcV at e
 rcases l with _ | ⟨a, _ | ⟨b, _ | ⟨c, _ | ⟨d, l⟩⟩⟩⟩ <;> first | (cases (show (fail : M Sy (Option Qe)) h nx = _ from e); done) | skip
 cases hv with
 | cons ha hv => cases hv with
  | cons hb hv => cases hv with
   | cons hc hv =>
    cases hv
    simp only at e
    split at e
    ·rename_i s
     cases hcs : cst s b c with
     | none => rw [hcs] at e; exact absurd e (by simp [ofOpt, fail])
     | some o2 =>
      rw [hcs] at e
      obtain ⟨rfl, rfl, rfl, rfl⟩ := ret_ok e
      refine ⟨rfl, rfl, rfl, ?_⟩
      rw [ha.bool]
      have hb2 : plain b = true ∧ plain c = true := by
       unfold cst at hcs
       cases b <;> simp at hcs <;> cases c <;> simp at hcs <;> exact ⟨rfl, rfl⟩
      rw [hb.eq_of_plain hb2.1, hc.eq_of_plain hb2.2]
      exact cst_ok hcs
    ·obtain ⟨f, h1, nx1, R1, W1, R2, W2, q1, q2, rfl, rfl⟩ := bind_ok e
     obtain ⟨rfl, rfl, rfl, hf⟩ := fact_ok q1 ha hM
     obtain ⟨rfl, rfl, rfl, k⟩ := frg_ok q2 hb hc hf hM
     exact ⟨rfl, rfl, by simp, k⟩
end
noncomputable def newNum (e : Qe) : M Sy Value := bind (newFacts [.ng e, .nu e, .de e]) fun vs => ret (.agg ⟨vs⟩)
theorem loc_newNum (e : Qe) : Loc (newNum e) := loc_bind (loc_newFacts _) fun _ => loc_ret _
section
variable {ρ : Env} {A : List As}
noncomputable def num2 (args : List Value) (k : Qe → Qe → M Sy Value) : Option (M Sy Value) := match args with
 | [a, b] => some (bind (numV a) fun x => bind (numV b) fun y => cond (okB x && okB y) (k x y) fail)
 | _ => none
noncomputable def num1 (args : List Value) (k : Qe → M Sy Value) : Option (M Sy Value) := match args with
 | [a] => some (bind (numV a) fun x => cond (okB x) (k x) fail)
 | _ => none
def GoesS (ρ : Env) (f : FuncId) (args' : List Value) (r : Ren) (w : World) (nx nx' : Nat) (W : List Nat) (g' : Nat → Option (Blk Sy)) (v : Value) : Prop :=
 Calls Try.prog f ⟨args'⟩ w fun e w' => ∃ v' r', e = .returned v' ∧ VR r' v v' ∧ Ext (symSig ρ) r w nx nx' W g' r' w'
theorem num2_ok {f : FuncId} {k : Qe → Qe → M Sy Value} (hl : ∀ n m, Loc (k n m)) (hk : ∀ x y (h : Tr (Blk Sy)) nx v h' nx' R W, k x y h nx = .ok v h' nx' R W → ∀ r w a b, NumIn w a (x.ev ρ.q) → NumIn w b (y.ev ρ.q) → Sm (max x.bnd y.bnd) (x.ev ρ.q) → Sm (max x.bnd y.bnd) (y.ev ρ.q) → max x.bnd y.bnd ≤ 10000000 → Mod (symSig ρ) r h.get w → New r nx nx' → GoesS ρ f [a, b] r w nx nx' W h'.get v) :
  SumF (symSig ρ) Try.prog f (fun args => num2 args k) := by
 intro args m e
 unfold num2 at e
 rcases args with _ | ⟨a, _ | ⟨b, _ | ⟨c, l⟩⟩⟩ <;> simp only [reduceCtorEq, Option.some.injEq] at e
 subst e
 refine ⟨loc_bind (loc_numV a) fun n => loc_bind (loc_numV b) fun m => loc_cond (hl n m) loc_fail, ?_⟩
 intro h nx v h' nx' R W e r w args' ha hM hN
 cases ha with
 | cons ha1 ha2 =>
  cases ha2 with
  | cons hb1 hb2 =>
   cases hb2
   obtain ⟨n, h1, nx1, R1, W1, R2, W2, e1, e2, rfl, rfl⟩ := bind_ok e
   obtain ⟨rfl, rfl, rfl, hn⟩ := numV_ok e1 ha1 hM
   obtain ⟨m, h2, nx2, R3, W3, R4, W4, e3, e4, rfl, rfl⟩ := bind_ok e2
   obtain ⟨rfl, rfl, rfl, hm⟩ := numV_ok e3 hb1 hM
   obtain ⟨hs, e5⟩ := cond_ok e4
   simp only [Bool.and_eq_true] at hs
   have l1 := okB_le hs.1
   have l2 := okB_le hs.2
   simpa [GoesS] using hk n m _ _ _ _ _ _ _ e5 r w _ _ hn hm ((okB_sm hs.1).up (Nat.le_max_left _ _)) ((okB_sm hs.2).up (Nat.le_max_right _ _)) (by omega) hM hN
theorem num1_ok {f : FuncId} {k : Qe → M Sy Value} (hl : ∀ n, Loc (k n)) (hk : ∀ x (h : Tr (Blk Sy)) nx v h' nx' R W, k x h nx = .ok v h' nx' R W → ∀ r w a, NumIn w a (x.ev ρ.q) → Sm x.bnd (x.ev ρ.q) → x.bnd ≤ 10000000 → Mod (symSig ρ) r h.get w → New r nx nx' → GoesS ρ f [a] r w nx nx' W h'.get v) :
  SumF (symSig ρ) Try.prog f (fun args => num1 args k) := by
 intro args m e
 unfold num1 at e
 rcases args with _ | ⟨a, _ | ⟨c, l⟩⟩ <;> simp only [reduceCtorEq, Option.some.injEq] at e
 subst e
 refine ⟨loc_bind (loc_numV a) fun n => loc_cond (hl n) loc_fail, ?_⟩
 intro h nx v h' nx' R W e r w args' ha hM hN
 cases ha with
 | cons ha1 ha2 =>
  cases ha2
  obtain ⟨n, h1, nx1, R1, W1, R2, W2, e1, e2, rfl, rfl⟩ := bind_ok e
  obtain ⟨rfl, rfl, rfl, hn⟩ := numV_ok e1 ha1 hM
  obtain ⟨hs, e5⟩ := cond_ok e2
  simpa [GoesS] using hk n _ _ _ _ _ _ _ e5 r w _ hn (okB_sm hs) (okB_le hs) hM hN
theorem goes_num {e : Qe} {f : FuncId} {args' : List Value} {h h' : Tr (Blk Sy)} {nx nx' : Nat} {R W : List Nat} {r : Ren} {w : World} {v : Value} (he : newNum e h nx = .ok v h' nx' R W) (hM : Mod (symSig ρ) r h.get w) (hN : New r nx nx') (c : Calls Try.prog f ⟨args'⟩ w (Num1 w (e.ev ρ.q))) : GoesS ρ f args' r w nx nx' W h'.get v :=
 goes_agg he hM hN (c.mono fun _ w' ⟨v', h1, h2, h3⟩ => by
  obtain ⟨us, rfl, hu⟩ := num_holds (w := w') h2
  exact ⟨us, h1, hu, h3⟩)
theorem ssum_add : SumF (symSig ρ) Try.prog 43 (fun args => num2 args fun x y => newNum (.add x y)) :=
 num2_ok (fun _ _ => loc_newNum _) fun x y h nx v h' nx' R W e r w a b ha hb sa sb hk hM hN => goes_num e hM hN (exAdd_any w a b _ _ _ ha hb sa sb hk)
theorem ssum_sub : SumF (symSig ρ) Try.prog 39 (fun args => num2 args fun x y => newNum (.sub x y)) :=
 num2_ok (fun _ _ => loc_newNum _) fun x y h nx v h' nx' R W e r w a b ha hb sa sb hk hM hN => goes_num e hM hN (exSub_any w a b _ _ _ ha hb sa sb hk)
theorem ssum_mul : SumF (symSig ρ) Try.prog 45 (fun args => num2 args fun x y => newNum (.mul x y)) :=
 num2_ok (fun _ _ => loc_newNum _) fun x y h nx v h' nx' R W e r w a b ha hb sa sb hk hM hN => goes_num e hM hN (exMul_any w a b _ _ _ ha hb sa sb hk)
theorem ssum_neg : SumF (symSig ρ) Try.prog 73 (fun args => num1 args fun x => newNum (.neg x)) :=
 num1_ok (fun _ => loc_newNum _) fun x h nx v h' nx' R W e r w a ha _ _ hM hN => goes_num e hM hN (exNeg_any w a _ ha)
noncomputable def noughtB (A : List As) (e : Qe) : Option Bool := match ask A 1 e z0 with
 | some t => some t
 | none => match e with
  | .c _ n d => cond (Nat.ble 1 n && Nat.ble 1 d) (some false) (cond (Nat.ble n 0) (some true) none)
  | _ => none
theorem noughtB_ok (hA : AllH ρ A) {e : Qe} {t : Bool} (h : noughtB A e = some t) : t = true ↔ e.ev ρ.q = 0 := by
 unfold noughtB at h
 cases ha : ask A 1 e z0 with
 | some u => rw [ha] at h; cases h; exact ask_nought hA ha
 | none =>
  rw [ha] at h
  cases e with
  | c s n d =>
   simp only at h
   cases hc : (Nat.ble 1 n && Nat.ble 1 d) with
   | true =>
    rw [hc] at h
    simp only [cond_true, Option.some.injEq] at h
    subst h
    simp only [Bool.and_eq_true] at hc
    have h1 := Nat.le_of_ble_eq_true hc.1
    have h2 := Nat.le_of_ble_eq_true hc.2
    refine ⟨fun h => (by cases h), fun h => ?_⟩
    have h3 := (Rat.mkRat_eq_zero (n := Big.sI s n) (show d ≠ 0 by omega)).1 h
    have h4 := Big.sI_abs s n
    rw [h3] at h4
    simp at h4
    omega
   | false =>
    rw [hc] at h
    simp only [cond_false] at h
    cases hd : Nat.ble n 0 with
    | false => rw [hd] at h; cases h
    | true =>
     rw [hd] at h
     simp only [cond_true, Option.some.injEq] at h
     subst h
     have hn : n = 0 := Nat.le_zero.1 (Nat.le_of_ble_eq_true hd)
     subst hn
     refine ⟨fun _ => ?_, fun _ => rfl⟩
     show mkRat (Big.sI s 0) d = 0
     have : Big.sI s 0 = 0 := by cases s <;> rfl
     rw [this, Rat.zero_mkRat]
  | _ => cases h
theorem ssum_quo (hA : AllH ρ A) : SumF (symSig ρ) Try.prog 69 (fun args => num2 args fun x y => match noughtB A y with
  | some t => cond t fail (newNum (.quo x y))
  | none => fail) :=
 num2_ok (fun _ y => by
  cases noughtB A y with
  | none => exact loc_fail
  | some t => exact loc_cond loc_fail (loc_newNum _)) fun x y h nx v h' nx' R W e r w a b ha hb sa sb hk hM hN => by
  cases hn : noughtB A y with
  | none => rw [hn] at e; exact absurd e (by simp [fail])
  | some t =>
   rw [hn] at e
   obtain ⟨rfl, e⟩ := cond_no e
   have h0 := noughtB_ok hA hn
   exact goes_num e hM hN (exQuo_any w a b _ _ _ ha hb sa sb hk (fun h => by
    have := h0.2 (Big.nu_zero.1 h)
    cases this))
noncomputable def signB (A : List As) (e : Qe) : Option Int := match noughtB A e with
 | some t => cond t (some 0) (match ask A 3 e z0 with
  | some t => some (cond t (-1) 1)
  | none => none)
 | none => none
theorem signB_ok (hA : AllH ρ A) {e : Qe} {z : Int} (h : signB A e = some z) : z = sgQ (e.ev ρ.q) := by
 unfold signB at h
 cases hn : noughtB A e with
 | none => rw [hn] at h; cases h
 | some t =>
  rw [hn] at h
  have h0 := noughtB_ok hA hn
  cases t with
  | true =>
   cases h
   rw [h0.1 rfl]
   rfl
  | false =>
   simp only [cond_false] at h
   cases hb : ask A 3 e z0 with
   | none => rw [hb] at h; cases h
   | some u =>
    rw [hb] at h
    cases h
    have hu := ask_below hA hb
    have hz : Big.nu (e.ev ρ.q) ≠ 0 := fun h => by
     have := h0.2 (Big.nu_zero.1 h)
     cases this
    unfold sgQ
    rw [← hu]
    cases u
    ·rw [if_neg (by simp), if_neg hz]; rfl
    ·rfl
theorem ssum_sign (hA : AllH ρ A) : SumF (symSig ρ) Try.prog 35 (fun args => num1 args fun x => match signB A x with
  | some z => ret (.int .i64 z)
  | none => fail) :=
 num1_ok (fun x => by
  cases signB A x with
  | none => exact loc_fail
  | some z => exact loc_ret _) fun x h nx v h' nx' R W e r w a ha _ _ hM hN => by
  cases hs : signB A x with
  | none => rw [hs] at e; exact absurd e (by simp [fail])
  | some z =>
   rw [hs] at e
   rw [signB_ok hA hs] at e
   exact goes_pl e rfl hM (exSign_any w a _ ha)
theorem ssum_frac (hA : AllH ρ A) : SumF (symSig ρ) Try.prog 72 (fun args => num1 args fun x => match fitB A x with
  | some t => cond t (bind (newFacts [.ng x, .fn x, .fd x]) fun vs => ret (.tuple ⟨[.agg ⟨vs⟩, .bool true]⟩)) (ret (.tuple ⟨[.agg ⟨[.bool false, .string ⟨#[]⟩, .string ⟨#[]⟩]⟩, .bool false]⟩))
  | none => fail) :=
 num1_ok (fun x => by
  cases fitB A x with
  | none => exact loc_fail
  | some t => exact loc_cond (loc_bind (loc_newFacts _) fun _ => loc_ret _) (loc_ret _)) fun x h nx v h' nx' R W e r w a ha sa hk hM hN => by
  cases hs : fitB A x with
  | none => rw [hs] at e; exact absurd e (by simp [fail])
  | some t =>
   rw [hs] at e
   have hf := fitB_ok hA hs
   cases t with
   | true =>
    simp only [cond_true] at e
    exact goes_aggT rfl e hM hN ((exFrac_fit w a _ _ ha sa hk (hf.1 rfl)).mono fun _ w' ⟨h1, h2⟩ => ⟨_, h1, frac_holds (w := w') x, h2⟩)
   | false =>
    simp only [cond_false] at e
    exact goes_pl e rfl hM (exFrac_long w a _ _ ha sa hk (fun h => by have := hf.2 h; cases this))
noncomputable def readK (A : List As) (o : Option Qe) : M Sy Value := match o with
 | some e => match fitB A e with
  | some t => cond t (bind (newFacts [.ng e, .nu e, .de e]) fun vs => ret (.tuple ⟨[.agg ⟨vs⟩, .bool true]⟩)) fail
  | none => fail
 | none => fail
theorem ssum_read (hA : AllH ρ A) : SumF (symSig ρ) Try.prog 34 (fun args => match args with
  | [a] => match a with
   | .agg cs => some (bind (frcV cs.toList) (readK A))
   | _ => none
  | _ => none) := by
 intro args m e
 rcases args with _ | ⟨a, _ | ⟨c, l⟩⟩ <;> simp only [reduceCtorEq] at e
 cases a with
 | agg cs =>
  obtain ⟨l⟩ := cs
  simp only [Option.some.injEq] at e
  subst e
  refine ⟨loc_bind (loc_frcV _) fun o => ?_, ?_⟩
  ·unfold readK
   cases o with
   | none => exact loc_fail
   | some e =>
    simp only
    cases fitB A e with
    | none => exact loc_fail
    | some t => exact loc_cond (loc_bind (loc_newFacts _) fun _ => loc_ret _) loc_fail
  ·intro h nx v h' nx' R W e r w args' ha hM hN
   cases ha with
   | cons ha1 ha2 =>
    cases ha2
    obtain ⟨l', rfl, hl⟩ := vr_agg ha1
    obtain ⟨o, h1, nx1, R1, W1, R2, W2, e1, e2, rfl, rfl⟩ := bind_ok e
    obtain ⟨rfl, rfl, rfl, ho⟩ := frcV_ok e1 hl hM
    unfold readK at e2
    cases o with
    | none => exact absurd e2 (by simp [fail])
    | some q =>
     simp only at e2
     cases hs : fitB A q with
     | none => rw [hs] at e2; exact absurd e2 (by simp [fail])
     | some t =>
      rw [hs] at e2
      obtain ⟨ht, e3⟩ := cond_ok e2
      subst ht
      have hf := (fitB_ok hA hs).1 rfl
      obtain rfl : l' = _ := ho
      simpa using goes_aggT rfl e3 hM hN ((exRead_ok w _ hf).mono fun _ w' ⟨v', h1, h2, h3⟩ => by
       obtain ⟨us, rfl, hu⟩ := num_holds (w := w') h2
       exact ⟨us, h1, hu, h3⟩)
 | _ => simp at e
noncomputable def symList (A : List As) : List (Nat × (List Value → Option (M Sy Value))) := [
 (43, fun args => num2 args fun x y => newNum (.add x y)),
 (39, fun args => num2 args fun x y => newNum (.sub x y)),
 (45, fun args => num2 args fun x y => newNum (.mul x y)),
 (73, fun args => num1 args fun x => newNum (.neg x)),
 (69, fun args => num2 args fun x y => match noughtB A y with
  | some t => cond t fail (newNum (.quo x y))
  | none => fail),
 (34, fun args => match args with
  | [a] => match a with
   | .agg cs => some (bind (frcV cs.toList) (readK A))
   | _ => none
  | _ => none),
 (35, fun args => num1 args fun x => match signB A x with
  | some z => ret (.int .i64 z)
  | none => fail),
 (72, fun args => num1 args fun x => match fitB A x with
  | some t => cond t (bind (newFacts [.ng x, .fn x, .fd x]) fun vs => ret (.tuple ⟨[.agg ⟨vs⟩, .bool true]⟩)) (ret (.tuple ⟨[.agg ⟨[.bool false, .string ⟨#[]⟩, .string ⟨#[]⟩]⟩, .bool false]⟩))
  | none => fail)]
theorem symList_ok (hA : AllH ρ A) : ∀ x ∈ symList A, SumF (symSig ρ) Try.prog x.1 x.2 := by
 unfold symList
 intro x hx
 simp only [List.mem_cons, List.not_mem_nil, or_false] at hx
 repeat' (rcases hx with rfl | hx)
 all_goals first
  | exact ssum_add
  | exact ssum_mul
  | exact ssum_sign hA
  | exact ssum_frac hA
  | exact ssum_read hA
  | exact ssum_sub
  | exact ssum_neg
  | exact ssum_quo hA
end
inductive D1 (F : Type) where
 | p (v : Value)
 | f (x : F)
 | ow (x : F)
inductive D2 (F : Type) where
 | one (d : D1 F)
 | agg (l : List (D1 F))
inductive D3 (F : Type) where
 | one (d : D2 F)
 | tuple (l : List (D2 F))
section
variable {F : Type}
def D1.is (S : Sig F) (w : World) : D1 F → Value → Prop
 | .p u, v => v = u
 | .f x, v => S.holds x w v
 | .ow x, v => S.ow x w v ∧ isOne v = true ∧ ∀ b, blkV v = some b → S.G ≤ b ∧ ∃ c t z, w.heap[b]? = some (.cells c t z) ∧ S.hid b t = false
def D1.all (S : Sig F) (w : World) : List (D1 F) → List Value → Prop
 | [], l => l = []
 | d :: ds, l => ∃ v vs, l = v :: vs ∧ d.is S w v ∧ D1.all S w ds vs
def D2.is (S : Sig F) (w : World) : D2 F → Value → Prop
 | .one d, v => d.is S w v
 | .agg ds, v => ∃ vs, v = .agg ⟨vs⟩ ∧ D1.all S w ds vs
def D2.all (S : Sig F) (w : World) : List (D2 F) → List Value → Prop
 | [], l => l = []
 | d :: ds, l => ∃ v vs, l = v :: vs ∧ d.is S w v ∧ D2.all S w ds vs
def D3.is (S : Sig F) (w : World) : D3 F → Value → Prop
 | .one d, v => d.is S w v
 | .tuple ds, v => ∃ vs, v = .tuple ⟨vs⟩ ∧ D2.all S w ds vs
noncomputable def isChan : Value → Option Nat
 | .chan i => i
 | _ => none
noncomputable def see1 (h : Tr (Blk F)) (v : Value) : Option (D1 F) := match isChan v with
 | some i => match h.get i with
  | some b => match b with
   | .fact f => some (.f f)
   | .cells _ _ => none
   | .room _ _ => none
   | .opq => none
   | .lp _ => none
   | .ow f => some (.ow f)
   | .ad _ _ => none
  | none => none
 | none => cond (plain v) (some (.p v)) none
noncomputable def consO {α : Type} (a : Option α) (b : Option (List α)) : Option (List α) := match a with
 | some d => match b with
  | some ds => some (d :: ds)
  | none => none
 | none => none
noncomputable def seeL {α : Type} (s : Value → Option α) (l : List Value) : Option (List α) := List.rec (motive := fun _ => Option (List α)) (some []) (fun v _ ih => consO (s v) ih) l
noncomputable def see2 (h : Tr (Blk F)) (v : Value) : Option (D2 F) := match v with
 | .agg cs => (seeL (see1 h) cs.toList).map .agg
 | v => (see1 h v).map .one
noncomputable def see3 (h : Tr (Blk F)) (v : Value) : Option (D3 F) := match v with
 | .tuple cs => (seeL (see2 h) cs.toList).map .tuple
 | v => (see2 h v).map .one
variable {S : Sig F} {r : Ren} {h : Tr (Blk F)} {w : World}
theorem isChan_of {v : Value} {i : Nat} (e : isChan v = some i) : v = .chan (some i) := by
 cases v <;> simp [isChan] at e
 subst e; rfl
theorem see1_ok {v v' : Value} {d : D1 F} (e : see1 h v = some d) (hM : Mod S r h.get w) (hv : VR r v v') : d.is S w v' := by
 unfold see1 at e
 cases hc : isChan v with
 | none =>
  rw [hc] at e
  simp only at e
  cases hp : plain v with
  | false => rw [hp] at e; cases e
  | true =>
   rw [hp] at e
   cases e
   exact hv.eq_of_plain hp
 | some i =>
  rw [hc] at e
  have := isChan_of hc
  subst this
  simp only at e
  cases hg : h.get i with
  | none => rw [hg] at e; cases e
  | some b =>
   rw [hg] at e
   cases b with
   | cells _ _ => cases e
   | room _ _ => cases e
   | opq => cases e
   | lp _ => cases e
   | ad _ _ => cases e
   | ow f =>
    cases e
    obtain ⟨v0, hv0, hh, ho, hb⟩ := hM.ow _ _ hg
    cases hv with
    | same p => simp [plain] at p
    | opq hp _ => rw [hv0] at hp; injection hp with hp; subst hp; exact ⟨hh, ho, fun b q => (hb b q).2⟩
   | fact f =>
    cases e
    obtain ⟨v0, hv0, hh, ho⟩ := hM.fact _ _ hg
    cases hv with
    | same p => simp [plain] at p
    | opq hp _ => rw [hv0] at hp; injection hp with hp; subst hp; exact hh
theorem seeL1_ok : ∀ {l l' : List Value} {ds : List (D1 F)}, seeL (see1 h) l = some ds → Mod S r h.get w → VsR r l l' → D1.all S w ds l'
 | [], _, ds, e, hM, hv => by
  cases hv
  cases (show some [] = some ds from e)
  rfl
 | v :: l, _, ds, e, hM, hv => by
  have e' : consO (see1 h v) (seeL (see1 h) l) = some ds := e
  unfold consO at e'
  cases hv with
  | cons ha hb =>
   cases h1 : see1 h v with
   | none => rw [h1] at e'; cases e'
   | some d =>
    rw [h1] at e'
    cases h2 : seeL (see1 h) l with
    | none => rw [h2] at e'; cases e'
    | some ds2 =>
     rw [h2] at e'
     cases e'
     exact ⟨_, _, rfl, see1_ok h1 hM ha, seeL1_ok h2 hM hb⟩
theorem see2_ok {v v' : Value} {d : D2 F} (e : see2 h v = some d) (hM : Mod S r h.get w) (hv : VR r v v') : d.is S w v' := by
 unfold see2 at e
 cases v with
 | agg cs =>
  obtain ⟨l⟩ := cs
  simp only at e
  cases h1 : seeL (see1 h) l with
  | none => rw [h1] at e; cases e
  | some ds =>
   rw [h1] at e
   cases e
   obtain ⟨l', rfl, hl⟩ := vr_agg hv
   exact ⟨_, rfl, seeL1_ok h1 hM hl⟩
 | _ =>
  simp only at e
  obtain ⟨d1, h1, rfl⟩ := Option.map_eq_some_iff.1 e
  exact see1_ok h1 hM hv
theorem seeL2_ok : ∀ {l l' : List Value} {ds : List (D2 F)}, seeL (see2 h) l = some ds → Mod S r h.get w → VsR r l l' → D2.all S w ds l'
 | [], _, ds, e, hM, hv => by
  cases hv
  cases (show some [] = some ds from e)
  rfl
 | v :: l, _, ds, e, hM, hv => by
  have e' : consO (see2 h v) (seeL (see2 h) l) = some ds := e
  unfold consO at e'
  cases hv with
  | cons ha hb =>
   cases h1 : see2 h v with
   | none => rw [h1] at e'; cases e'
   | some d =>
    rw [h1] at e'
    cases h2 : seeL (see2 h) l with
    | none => rw [h2] at e'; cases e'
    | some ds2 =>
     rw [h2] at e'
     cases e'
     exact ⟨_, _, rfl, see2_ok h1 hM ha, seeL2_ok h2 hM hb⟩
theorem see3_ok {v v' : Value} {d : D3 F} (e : see3 h v = some d) (hM : Mod S r h.get w) (hv : VR r v v') : d.is S w v' := by
 unfold see3 at e
 cases v with
 | tuple cs =>
  obtain ⟨l⟩ := cs
  simp only at e
  cases h1 : seeL (see2 h) l with
  | none => rw [h1] at e; cases e
  | some ds =>
   rw [h1] at e
   cases e
   cases hv with
   | same p => simp [plain] at p
   | tuple hl => exact ⟨_, rfl, seeL2_ok h1 hM hl⟩
 | _ =>
  simp only at e
  obtain ⟨d1, h1, rfl⟩ := Option.map_eq_some_iff.1 e
  exact see2_ok h1 hM hv
inductive Lay where
 | p (v : Value)
 | one
 | agg (k : Nat)
 | agq (k : Nat) (v : Value)
noncomputable def split (l : List Lay) : List Value → List Value := List.rec (motive := fun _ => List Value → List Value) (fun _ => []) (fun x _ ih vs => match x with
 | .p v => v :: ih vs
 | .one => vs.headD undef :: ih vs.tail
 | .agg k => .agg ⟨vs.take k⟩ :: ih (vs.drop k)
 | .agq k v => .agg ⟨vs.take k ++ [v]⟩ :: ih (vs.drop k)) l
noncomputable def plainLay (l : List Lay) : Bool := List.rec (motive := fun _ => Bool) true (fun x _ ih => match x with
 | .p v => plain2 v && ih
 | .agq _ v => plain2 v && ih
 | _ => ih) l
theorem split_ok : ∀ {l : List Lay}, plainLay l = true → ∀ {vs us : List Value}, VsR r vs us → VsR r (split l vs) (split l us)
 | [], _, _, _, _ => .nil
 | .p v :: l, hp, vs, us, hv => by
  have hp' : (plain2 v && plainLay l) = true := hp
  simp only [Bool.and_eq_true] at hp'
  exact .cons (VR.same2 hp'.1) (split_ok hp'.2 hv)
 | .one :: l, hp, vs, us, hv => by
  refine .cons ?_ (split_ok (l := l) hp ?_)
  ·cases hv with
   | nil => exact vr_undef
   | cons a _ => exact a
  ·cases hv with
   | nil => exact .nil
   | cons _ b => exact b
 | .agg k :: l, hp, vs, us, hv => .cons (.agg (hv.take k)) (split_ok (l := l) hp (hv.drop k))
 | .agq k v :: l, hp, vs, us, hv => by
  have hp' : (plain2 v && plainLay l) = true := hp
  simp only [Bool.and_eq_true] at hp'
  exact .cons (.agg ((hv.take k).append (.cons (VR.same2 hp'.1) .nil))) (split_ok hp'.2 (hv.drop k))
noncomputable def tells (fs : List F) (ls : List Lay) (m : List Value → M F Value) : Option (D3 F) := match newFacts fs .nil 100000 with
 | .no => none
 | .ok vs h1 nx1 _ _ => match m (split ls vs) h1 nx1 with
  | .no => none
  | .ok a h2 _ _ W => cond (geAll nx1 W) (see3 h2 a) none
theorem newFacts_W : ∀ (l : List F) {h h' : Tr (Blk F)} {nx nx' : Nat} {R W : List Nat} {vs : List Value}, newFacts l h nx = .ok vs h' nx' R W → W = []
 | [], h, h', nx, nx', R, W, vs, e => (ret_ok (show (ret [] : M F _) h nx = _ from e)).2.2.2
 | f :: l, h, h', nx, nx', R, W, vs, e => by
  obtain ⟨x, h3, nx3, R3, W3, R4, W4, e3, e4, rfl, rfl⟩ := bind_ok (show bind (newFact f) (fun x => bind (newFacts l) fun l => ret (x :: l)) h nx = _ from e)
  obtain ⟨i, h5, nx5, R5, W5, R6, W6, e5, e6, rfl, rfl⟩ := bind_ok e3
  obtain ⟨rfl, rfl, rfl, rfl⟩ := ret_ok e6
  unfold fresh at e5
  cases e5
  obtain ⟨xs, h7, nx7, R7, W7, R8, W8, e7, e8, rfl, rfl⟩ := bind_ok e4
  obtain ⟨rfl, rfl, rfl, rfl⟩ := ret_ok e8
  rw [newFacts_W l e7]; rfl
theorem tells_calls {P : Program} {C : Cfg F} [HardLoc C] {sum : Sums F} {n : Nat} {f : FuncId} {fs : List F} {ls : List Lay} {d : D3 F} (hF : Fits S P C) (hs : SumOK S P sum) (e : tells fs ls (call P C sum n f) = some d) (ha : plainLay ls = true) (hx : S.G ≤ 100000)
  {w : World} {us : List Value} (hu : HoldsL S w fs us) (hG : S.G ≤ w.heap.size) (hb : S.base w) (hlo : S.lo ≤ w.heap.size := by first | exact Nat.zero_le _ | exact Nat.le_trans (Nat.le_of_eq (by assumption)) (Nat.zero_le _)) (hJ : JmpAll S P C := by exact .none rfl) :
  Calls P f ⟨split ls us⟩ w fun e w' => ∃ v', e = .returned v' ∧ d.is S w' v' ∧ Below w.heap.size w w' := by
 unfold tells at e
 cases h1 : newFacts fs .nil 100000 with
 | no => rw [h1] at e; cases e
 | ok vs hh nx1 R1 W1 =>
  rw [h1] at e
  simp only at e
  cases h2 : call P C sum n f (split ls vs) hh nx1 with
  | no => rw [h2] at e; cases e
  | ok a h3 nx2 R W =>
   rw [h2] at e
   simp only at e
   cases hc : geAll nx1 W with
   | false => rw [hc] at e; cases e
   | true =>
    rw [hc] at e
    simp only [cond_true] at e
    have hW := geAll_ok hc
    have hW1 := newFacts_W fs h1
    subst hW1
    have hg : (Tr.get (.nil : Tr (Blk F))) = fun _ => none := funext fun k => Tr.get_nil k
    have hN0 : ∀ m, New (ren0 S.G) 100000 m := fun m k h1 _ => ⟨if_neg (by omega), rfl⟩
    obtain ⟨hle, r1, hX, hvs⟩ := newFacts_ok fs h1 (by rw [hg]; exact mod0 hG hb hlo) (hN0 nx1) hu
    have hcl := call_ok hF hs n hJ
    have hfr : Fr hh nx1 := ((loc_newFacts fs).2 _ _ _ _ _ _ _ h1 (fun k _ => Tr.get_nil k)).fr
    have hrun := Run.self (hcl.loc f _) h2 hfr
    have hN : New r1 nx1 nx2 := New.after (hN0 nx2) hX hle
    refine (hcl.run f _ _ _ _ _ _ _ _ hrun r1 w _ (split_ok ha hvs) hX.mod hN).mono ?_
    rintro en w' ⟨v', r', rfl, hv, hY⟩
    refine ⟨v', rfl, see3_ok e hY.mod hv, hY.os, hY.tape, hY.output, hY.size, fun b hb' => ?_⟩
    have hbo : w.heap[b]? = some w.heap[b] := Array.getElem?_eq_getElem hb'
    rw [hbo]
    refine hY.keep b _ hbo fun k hk he => ?_
    have hge := hW k hk
    rcases hX.new k b he with h5 | h5 | ⟨_, h5, _⟩
    ·rw [show (ren0 S.G).blk k = none from if_neg (by omega)] at h5; cases h5
    ·omega
    ·cases h5
end
noncomputable def symCfg (hd : Oper → List Value → M Sy Nxt) : Cfg Sy where
 hid _ := symHid
 G := natCfg.G
 glob := natCfg.glob
 tab := natCfg.tab
 len := symLen
 hard := hd
inductive Sl (F : Type) where
 | p (v : Value)
 | f (x : F)
 | ow (x : F)
section
variable {F : Type} {S : Sig F} {P : Program} {C : Cfg F}
def Sl.is (S : Sig F) (w : World) : Sl F → Value → Prop
 | .p u, v => v = u
 | .f x, v => S.holds x w v ∧ isOne v = true
 | .ow x, v => S.ow x w v ∧ isOne v = true ∧ ∀ b, blkV v = some b → S.G ≤ b ∧ ∃ c t z, w.heap[b]? = some (.cells c t z) ∧ S.hid b t = false
def AtV (S : Sig F) (w : World) : List (Sl F) → List Value → Prop
 | [], l => l = []
 | d :: ds, l => ∃ v vs, l = v :: vs ∧ d.is S w v ∧ AtV S w ds vs
def ownOf : Sl F → Value → List Nat
 | .ow _, v => (blkV v).toList
 | _, _ => []
def owns : List (Sl F) → List Value → List Nat
 | [], _ => []
 | _, [] => []
 | d :: ds, v :: vs => ownOf d v ++ owns ds vs
theorem ownOf_cells {w : World} {d : Sl F} {v : Value} (h : d.is S w v) {b : Nat} (hb : b ∈ ownOf d v) : S.G ≤ b ∧ ∃ c t z, w.heap[b]? = some (.cells c t z) ∧ S.hid b t = false := by
 cases d with
 | ow x => exact h.2.2 b (by simpa [ownOf] using hb)
 | _ => simp [ownOf] at hb
theorem owns_cells {w : World} : ∀ {ds : List (Sl F)} {vs : List Value}, AtV S w ds vs → ∀ {b : Nat}, b ∈ owns ds vs → S.G ≤ b ∧ ∃ c t z, w.heap[b]? = some (.cells c t z) ∧ S.hid b t = false
 | [], vs, _, b, hb => by simp [owns] at hb
 | d :: ds, vs, h, b, hb => by
  obtain ⟨v, vs, rfl, h1, h2⟩ := h
  simp only [owns, List.mem_append] at hb
  rcases hb with hb | hb
  ·exact ownOf_cells h1 hb
  ·exact owns_cells h2 hb
noncomputable def newSl (d : Sl F) : M F Value := match d with
 | .p v => ret v
 | .f x => newFact x
 | .ow x => bind (fresh (.ow x)) fun i => ret (.chan (some i))
noncomputable def newSls (l : List (Sl F)) : M F (List Value) := List.rec (motive := fun _ => M F (List Value)) (ret []) (fun d _ ih => bind (newSl d) fun v => bind ih fun vs => ret (v :: vs)) l
noncomputable def plainSls (l : List (Sl F)) : Bool := List.rec (motive := fun _ => Bool) true (fun d _ ih => match d with
 | .p v => plain2 v && ih
 | _ => ih) l
theorem loc_newSl (d : Sl F) : Loc (newSl d) := by
 cases d with
 | p v => exact loc_ret _
 | f x => exact loc_newFact _
 | ow x => exact loc_bind (loc_fresh _) fun _ => loc_ret _
theorem loc_newSls : ∀ l : List (Sl F), Loc (newSls l)
 | [] => loc_ret _
 | d :: l => loc_bind (loc_newSl d) fun _ => loc_bind (loc_newSls l) fun _ => loc_ret _
theorem mod_ow {r : Ren} {g : Nat → Option (Blk F)} {w : World} {nx : Nat} {x : F} {v : Value} (hM : Mod S r g w) (hN : New r nx (nx + 1)) (hv : (Sl.ow x).is S w v) (hb : ∀ b, blkV v = some b → ∀ k, r.blk k = some b → Gone g k) :
  r.le ⟨fun n => if n = nx then blkV v else r.blk n, fun n => if n = nx then some v else r.val n, r.len⟩ ∧
  Mod S ⟨fun n => if n = nx then blkV v else r.blk n, fun n => if n = nx then some v else r.val n, r.len⟩ (fun n => if n = nx then some (.ow x) else g n) w := by
 have hno := hN nx (Nat.le_refl _) (Nat.lt_succ_self _)
 have hle : r.le ⟨fun n => if n = nx then blkV v else r.blk n, fun n => if n = nx then some v else r.val n, r.len⟩ := by
  refine ⟨fun n b e => ?_, fun n u e => ?_, fun _ _ _ => rfl⟩
  ·have : n ≠ nx := fun q => by rw [q, hno.1] at e; cases e
   simp only [if_neg this, e]
  ·have : n ≠ nx := fun q => by rw [q, hno.2] at e; cases e
   simp only [if_neg this, e]
 have hgo : ∀ k, k ≠ nx → Gone g k → Gone (fun n => if n = nx then some (.ow x) else g n) k := fun k e q =>
  ⟨fun c t => by simpa only [if_neg e] using q.1 c t, fun c t => by simpa only [if_neg e] using q.2.1 c t, ⟨fun s => by simpa only [if_neg e] using q.2.2.1 s, fun f => by simpa only [if_neg e] using q.2.2.2 f⟩⟩
 refine ⟨hle, fun n m b h1 h2 => ?_, fun n b h1 => ?_, fun n c t h1 => ?_, fun n f h1 => ?_, hM.base, fun n hn => hle.blk _ _ (hM.glob n hn), fun n b h1 hn => ?_, fun n c t h1 => ?_, hM.sz, hM.lp.mono hle (fun n s h1 => ?_) (fun _ _ q => q), fun n f h1 => ?_, hM.ad.mono hle fun n m y h1 => ?_⟩
 ·simp only at h1 h2
  by_cases e1 : n = nx <;> by_cases e2 : m = nx
  ·exact .inl (by omega)
  ·rw [if_pos e1] at h1
   rw [if_neg e2] at h2
   exact .inr (.inr (hgo m e2 (hb b h1 m h2)))
  ·rw [if_neg e1] at h1
   rw [if_pos e2] at h2
   exact .inr (.inl (hgo n e1 (hb b h2 n h1)))
  ·rw [if_neg e1] at h1
   rw [if_neg e2] at h2
   exact (hM.inj n m b h1 h2).imp id (Or.imp (hgo n e1) (hgo m e2))
 ·simp only at h1
  split at h1
  ·obtain ⟨_, c, t, z, h2, _⟩ := hv.2.2 b h1
   exact (Array.getElem?_eq_some_iff.1 h2).1
  ·exact hM.lt n b h1
 ·split at h1
  ·cases h1
  ·obtain ⟨b, c', q1, q2, q3, q4⟩ := hM.cells n c t h1
   exact ⟨b, c', hle.blk _ _ q1, q2, q3.mono hle, q4⟩
 ·split at h1
  ·cases h1
  ·obtain ⟨u, q1, q2, q3⟩ := hM.fact n f h1
   exact ⟨u, hle.val _ _ q1, q2, q3⟩
 ·simp only at h1
  split at h1
  ·exact (hv.2.2 b h1).1
  ·exact hM.own n b h1 hn
 ·split at h1
  ·cases h1
  ·obtain ⟨b, c', q1, q2, q3, q4, q5⟩ := hM.room n c t h1
   exact ⟨b, c', hle.blk _ _ q1, q2, q3.mono hle, q4, q5⟩
 ·split at h1
  ·cases h1
  ·exact h1
 ·split at h1
  ·rename_i e
   cases h1
   refine ⟨v, by simp [e], hv.1, hv.2.1, fun b hb2 => ⟨by simp [e, hb2], hv.2.2 b hb2⟩⟩
  ·obtain ⟨u, q1, q2, q3, q4⟩ := hM.ow n f h1
   exact ⟨u, hle.val _ _ q1, q2, q3, fun b hb2 => ⟨hle.blk _ _ (q4 b hb2).1, (q4 b hb2).2⟩⟩
 ·split at h1
  ·cases h1
  ·exact h1
theorem newSls_ok : ∀ (l : List (Sl F)) {h h' : Tr (Blk F)} {nx nx' : Nat} {R W : List Nat} {us vs : List Value} {r : Ren} {w : World} {hi : Nat}, newSls l h nx = .ok us h' nx' R W → plainSls l = true → Mod S r h.get w → New r nx hi → nx' ≤ hi →
  AtV S w l vs → (owns l vs).Nodup → (∀ b ∈ owns l vs, ∀ k, r.blk k = some b → Gone h.get k) →
  W = [] ∧ nx ≤ nx' ∧ ∃ r', r.le r' ∧ Mod S r' h'.get w ∧ VsR r' us vs ∧ (∀ n b, r'.blk n = some b → r.blk n = some b ∨ (nx ≤ n ∧ n < nx' ∧ b ∈ owns l vs)) ∧ (∀ n, r'.blk n ≠ none ∨ r'.val n ≠ none → (r.blk n ≠ none ∨ r.val n ≠ none) ∨ (nx ≤ n ∧ n < nx')) ∧ New r' nx' hi
 | [], h, h', nx, nx', R, W, us, vs, r, w, hi, e, _, hM, hN, _, hv, _, _ => by
  obtain ⟨rfl, rfl, rfl, rfl⟩ := ret_ok (show (ret [] : M F _) h nx = _ from e)
  cases hv
  exact ⟨rfl, Nat.le_refl _, r, .refl r, hM, .nil, fun _ _ q => .inl q, fun _ q => .inl q, hN⟩
 | d :: l, h, h', nx, nx', R, W, us, vs, r, w, hi, e, hp, hM, hN, hhi, hv, hnd, hgo => by
  obtain ⟨v, vs, rfl, hv1, hv2⟩ := hv
  obtain ⟨u, h1, nx1, R1, W1, R2, W2, e1, e2, rfl, rfl⟩ := bind_ok (show bind (newSl d) (fun v => bind (newSls l) fun vs => ret (v :: vs)) h nx = _ from e)
  obtain ⟨us2, h2, nx2, R3, W3, R4, W4, e3, e4, rfl, rfl⟩ := bind_ok e2
  obtain ⟨rfl, rfl, rfl, rfl⟩ := ret_ok e4
  simp only [owns] at hnd hgo
  obtain ⟨n1, n2, n3⟩ := List.nodup_append.1 hnd
  have hm1 := (loc_newSls l).1 _ _ _ _ _ _ _ e3
  have hm0 := (loc_newSl d).1 _ _ _ _ _ _ _ e1
  have key : ∃ r1, W1 = [] ∧ nx ≤ nx1 ∧ r.le r1 ∧ Mod S r1 h1.get w ∧ VR r1 u v ∧ plainSls l = true ∧ (∀ n b, r1.blk n = some b → r.blk n = some b ∨ (nx ≤ n ∧ n < nx1 ∧ b ∈ ownOf d v)) ∧ (∀ n, r1.blk n ≠ none ∨ r1.val n ≠ none → (r.blk n ≠ none ∨ r.val n ≠ none) ∨ (nx ≤ n ∧ n < nx1)) ∧ New r1 nx1 hi ∧ (∀ k, k < nx ∨ nx1 ≤ k → h1.get k = h.get k) := by
   cases d with
   | p u0 =>
    obtain ⟨rfl, rfl, rfl, rfl⟩ := ret_ok (show (ret u0 : M F _) h nx = _ from e1)
    have hp' : (plain2 u && plainSls l) = true := hp
    simp only [Bool.and_eq_true] at hp'
    have hv1' : v = u := hv1
    subst hv1'
    exact ⟨r, rfl, Nat.le_refl _, .refl r, hM, .same2 hp'.1, hp'.2, fun _ _ q => .inl q, fun _ q => .inl q, hN, fun _ _ => rfl⟩
   | f x =>
    obtain ⟨i, h5, nx5, R5, W5, R6, W6, e5, e6, rfl, rfl⟩ := bind_ok (show bind (fresh (.fact x)) (fun i => (ret (.chan (some i)) : M F Value)) h nx = _ from e1)
    obtain ⟨rfl, rfl, rfl, rfl⟩ := ret_ok e6
    unfold fresh at e5
    cases e5
    obtain ⟨r1, hX, hr⟩ := ext_fact (S := S) (f := x) hM (Below.refl _ w) (hN.sub (Nat.le_refl _) (by omega)) hv1.1 hv1.2
    refine ⟨r1, rfl, Nat.le_succ _, hX.le, hX.mod.congr fun n => .inr (Tr.get_set _ _ _ _), .opq hr hv1.2, hp, fun n b q => .inl ?_, hX.dom, hN.after hX (Nat.le_succ _), fun k hk => ?_⟩
    ·rcases hX.new n b q with q1 | q1 | ⟨_, q1, _⟩
     ·exact q1
     ·have := hX.mod.lt n b q; omega
     ·simp at q1
    ·have : nx + 1 = Nat.succ nx := rfl
     rw [Tr.get_set, if_neg (by omega)]
   | ow x =>
    obtain ⟨i, h5, nx5, R5, W5, R6, W6, e5, e6, rfl, rfl⟩ := bind_ok (show bind (fresh (.ow x)) (fun i => (ret (.chan (some i)) : M F Value)) h nx = _ from e1)
    obtain ⟨rfl, rfl, rfl, rfl⟩ := ret_ok e6
    unfold fresh at e5
    cases e5
    obtain ⟨hle, hM1⟩ := mod_ow (x := x) (v := v) hM (hN.sub (Nat.le_refl _) (by omega)) hv1 fun b hb k hk => hgo b (by simp [ownOf, hb]) k hk
    refine ⟨_, rfl, Nat.le_succ _, hle, hM1.congr fun n => .inr (Tr.get_set _ _ _ _), .opq (by simp) hv1.2.1, hp, fun n b q => ?_, fun n q => ?_, fun n a b => ?_, fun k hk => ?_⟩
    ·simp only at q
     split at q
     ·exact .inr ⟨by omega, by omega, by simp [ownOf, q]⟩
     ·exact .inl q
    ·by_cases en : n = nx
     ·exact .inr ⟨by omega, by omega⟩
     ·simp only [if_neg en] at q
      exact .inl q
    ·have : nx + 1 ≤ n := a
     have hn : n ≠ nx := by omega
     simp only [if_neg hn]
     exact hN n (by omega) b
    ·have : nx + 1 = Nat.succ nx := rfl
     rw [Tr.get_set, if_neg (by omega)]
  obtain ⟨r1, rfl, k1, k2, k3, k4, k5, k6, k7, k8, k9⟩ := key
  obtain ⟨rfl, j1, r2, j2, j3, j4, j5, j6, j7⟩ := newSls_ok l e3 k5 k3 k8 hhi hv2 n2 fun b hb k hk => by
   rcases k6 k b hk with q | ⟨q1, q2, q3⟩
   ·have hl : k < nx ∨ nx1 ≤ k := by
     rcases Nat.lt_or_ge k nx with hl | hl
     ·exact .inl hl
     ·rcases Nat.lt_or_ge k nx1 with h9 | h9
      ·have := (hN k hl (by omega)).1
       rw [this] at q; cases q
      ·exact .inr h9
    have hg := hgo b (List.mem_append_right _ hb) k q
    exact ⟨fun c t => by rw [k9 k hl]; exact hg.1 c t, fun c t => by rw [k9 k hl]; exact hg.2.1 c t, ⟨fun s => by rw [k9 k hl]; exact hg.2.2.1 s, fun f => by rw [k9 k hl]; exact hg.2.2.2 f⟩⟩
   ·exact absurd rfl (n3 b q3 b hb)
  refine ⟨rfl, Nat.le_trans k1 j1, r2, k2.trans j2, j3, .cons (k4.mono j2) j4, fun n b q => ?_, fun n q => ?_, j7⟩
  ·rcases j5 n b q with q | ⟨q1, q2, q3⟩
   ·rcases k6 n b q with q | ⟨q1, q2, q3⟩
    ·exact .inl q
    ·exact .inr ⟨q1, by omega, by simp only [owns]; exact List.mem_append_left _ q3⟩
   ·exact .inr ⟨by omega, q2, by simp only [owns]; exact List.mem_append_right _ q3⟩
  ·rcases j6 n q with q | ⟨q1, q2⟩
   ·rcases k7 n q with q | ⟨q1, q2⟩
    ·exact .inl q
    ·exact .inr ⟨q1, by omega⟩
   ·exact .inr ⟨by omega, q2⟩
noncomputable def junkT (N : Nat) : Tr Value := Nat.rec (motive := fun _ => Tr Value) .nil (fun t ih => ih.set t (.map (some (50000 + t)))) N
theorem junkT_get : ∀ (N t : Nat), (junkT N).get t = if t < N then some (.map (some (50000 + t))) else none
 | 0, t => by rw [if_neg (by omega)]; exact Tr.get_nil t
 | N + 1, t => by
  show ((junkT N).set N (.map (some (50000 + N)))).get t = _
  rw [Tr.get_set, junkT_get N t]
  by_cases e : t = N
  ·subst e; rw [if_pos rfl, if_pos (by omega)]
  ·rw [if_neg e]
   by_cases h : t < N
   ·rw [if_pos h, if_pos (by omega)]
   ·rw [if_neg h, if_neg (by omega)]
noncomputable def ren1 (G N : Nat) (a : Act) : Ren := ⟨fun n => if n < G then some n else none, fun n => if 50000 ≤ n ∧ n < 50000 + N then some (a.eval (.tmp (n - 50000))) else none, fun _ => 0⟩
theorem mod1 {w : World} (N : Nat) (a : Act) (hG : S.G ≤ w.heap.size) (hb : S.base w) (hlo : S.lo ≤ w.heap.size) : Mod S (ren1 S.G N a) (fun _ => none) w :=
 have m := mod0 hG hb hlo
 ⟨m.inj, m.lt, fun _ _ _ h => (by cases h), fun _ _ h => (by cases h), m.base, m.glob, m.own, fun _ _ _ h => (by cases h), m.sz, fun _ _ h => (by cases h), fun _ _ h => (by cases h), fun _ _ _ h => (by cases h)⟩
theorem tr_junk {G N : Nat} {a : Act} (hN : a.tmps.size = N) : TR (ren1 G N a) (junkT N) a := by
 intro (t : Nat)
 show VR _ (((junkT N).get t).getD undef) (a.tmps.getD t undef)
 rw [junkT_get]
 by_cases h : t < N
 ·rw [if_pos h]
  refine .any ?_
  show (if 50000 ≤ 50000 + t ∧ 50000 + t < 50000 + N then some (a.eval (.tmp (50000 + t - 50000))) else none) = _
  rw [if_pos ⟨by omega, by omega⟩, Nat.add_sub_cancel_left]
  rfl
 ·rw [if_neg h, Array.getD_eq_getD_getElem?, Array.getElem?_eq_none (by omega)]
  exact vr_undef
def valsOf (tms : List Nat) (a : Act) : List Value := tms.map fun t => a.eval (.tmp t)
theorem tr_sets {r : Ren} {a : Act} : ∀ (tms : List Nat) {us : List Value} {ts : Tr Value}, TR r ts a → VsR r us (valsOf tms a) → TR r (putAll ts tms us) a
 | [], us, ts, h, _ => by unfold putAll; exact h
 | t :: tms, us, ts, h, hv => by
  cases hv with
  | cons h1 h2 =>
   refine tr_sets tms (fun t' => ?_) h2
   show VR r (((ts.set t _).get t').getD undef) _
   rw [Tr.get_set]
   by_cases e : t' = t
   ·subst e; rw [if_pos rfl]; exact h1
   ·rw [if_neg e]; exact h t'
end
end Ev
end Go.Proofs.Ytnlhjcfpfapafaa
