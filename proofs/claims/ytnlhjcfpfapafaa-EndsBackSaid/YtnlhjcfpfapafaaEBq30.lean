/- Contracts. -/
import Derived.Test.YtnlhjcfpfapafaaEBq26
import Derived.Test.YtnlhjcfpfapafaaEBq17
import Derived.Test.YtnlhjcfpfapafaaEBq29
import Derived.LoopN
import Derived.Test.YtnlhjcfpfapafaaEBq19
namespace Go.Proofs.Ytnlhjcfpfapafaa
open Go Go.RowKit
namespace Ev
set_option maxRecDepth 100000
inductive Pt where
 | p (v : Value)
 | f (x : Sy)
 | fr (e : Qe)
structure An where
 fs : List Sy
 ls : List Lay
 t : Bool
noncomputable def An.wrap (a : An) (vs : List Value) : Value := cond a.t (.tuple ⟨split a.ls vs⟩) ((split a.ls vs).headD undef)
noncomputable def eqIs (x : Sy) (y : Blk Sy) : Bool := match y with
 | .fact z => eqSy x z || (match x with
  | .it e => match z with
   | .it f => e.beq f
   | _ => false
  | _ => false)
 | _ => false
noncomputable def ptM (x : Pt) (v : Value) : M Sy Bool := match x with
 | .p u => ret (eqV u v && plain u)
 | .f x => match chanOf v with
  | some i => bind (rd i) fun y => ret (eqIs x y)
  | none => ret false
 | .fr e => match v with
  | .agg cs => bind (frcV cs.toList) fun o => ret (match o with
   | some q => e.beq q
   | none => false)
  | _ => ret false
noncomputable def ptsM (l : List Pt) : List Value → M Sy Bool := List.rec (motive := fun _ => List Value → M Sy Bool) (fun vs => ret vs.isEmpty) (fun x _ ih vs => match vs with
 | v :: vs => bind (ptM x v) fun b => cond b (ih vs) (ret false)
 | [] => ret false) l
noncomputable def anM (a : An) : M Sy Value := bind (newFacts a.fs) fun vs => ret (a.wrap vs)
noncomputable def tabM (l : List (List Pt × An)) (vs : List Value) : M Sy Value := List.rec (motive := fun _ => M Sy Value) fail (fun x _ ih => bind (ptsM x.1 vs) fun b => cond b (anM x.2) ih) l
noncomputable def tabS (f : Nat) (l : List (List Pt × An)) : Nat × (List Value → Option (M Sy Value)) := (f, fun args => some (tabM l args))
noncomputable def frQ (x : Rat) : Value := .agg ⟨frC x⟩
def Pt.is (ρ : Env) (w : World) : Pt → Value → Prop
 | .p u, v => v = u
 | .f x, v => x.holds ρ w v
 | .fr e, v => v = frQ (e.ev ρ.q)
def PtsIs (ρ : Env) (w : World) : List Pt → List Value → Prop
 | [], l => l = []
 | d :: ds, l => ∃ v vs, l = v :: vs ∧ d.is ρ w v ∧ PtsIs ρ w ds vs
def TabOK (ρ : Env) (f : FuncId) (l : List (List Pt × An)) : Prop := ∀ x ∈ l, ∀ (w : World) (vs : List Value), PtsIs ρ w x.1 vs → Try.prog.globals.size ≤ w.heap.size → natSig.base w → ρ.lo ≤ w.heap.size →
 Calls Try.prog f ⟨vs⟩ w fun e w' => ∃ us, HoldsL (symSig ρ) w' x.2.fs us ∧ e = .returned (x.2.wrap us) ∧ Below w.heap.size w w'
noncomputable def layOK (l : List (List Pt × An)) : Bool := List.rec (motive := fun _ => Bool) true (fun x _ ih => plainLay x.2.ls && ih) l
theorem loc_ptM (x : Pt) (v : Value) : Loc (ptM x v) := by
 cases x with
 | p u => exact loc_ret _
 | f x =>
  unfold ptM
  simp only
  split
  ·exact loc_bind (loc_rd _) fun _ => loc_ret _
  ·exact loc_ret _
 | fr e =>
  unfold ptM
  simp only
  split
  ·exact loc_bind (loc_frcV _) fun _ => loc_ret _
  ·exact loc_ret _
theorem loc_ptsM : ∀ (l : List Pt) (vs : List Value), Loc (ptsM l vs)
 | [], _ => loc_ret _
 | x :: l, vs => by
  cases vs with
  | nil => exact loc_ret _
  | cons v vs => exact loc_bind (loc_ptM x v) fun b => loc_cond (loc_ptsM l vs) (loc_ret _)
theorem loc_anM (a : An) : Loc (anM a) := loc_bind (loc_newFacts _) fun _ => loc_ret _
theorem loc_tabM : ∀ (l : List (List Pt × An)) (vs : List Value), Loc (tabM l vs)
 | [], _ => loc_fail
 | x :: l, vs => loc_bind (loc_ptsM x.1 vs) fun b => loc_cond (loc_anM x.2) (loc_tabM l vs)
section
variable {ρ : Env} {A : List As} {B : List Ix} {h h' : Tr (Blk Sy)} {nx nx' : Nat} {R W : List Nat} {r : Ren} {w : World}
theorem eqIs_ok {x : Sy} {i : Nat} {y : Blk Sy} {v' : Value} (e : eqIs x y = true) (hg : h.get i = some y) (hM : Mod (symSig ρ) r h.get w) (hv : r.val i = some v') : x.holds ρ w v' := by
 cases y <;> first | (cases e; done) | skip
 rename_i z
 obtain ⟨v0, q1, q2, _⟩ := hM.fact i _ hg
 rw [hv] at q1
 cases q1
 have q2' : z.holds ρ w v' := q2
 rcases Bool.or_eq_true_iff.1 e with e | e
 ·rw [eqSy_ok _ _ e]; exact q2'
 ·cases x <;> first | (cases e; done) | skip
  cases z <;> first | (cases e; done) | skip
  rw [Qe.beq_ok _ _ e]; exact q2'
theorem ptM_ok {x : Pt} {v v' : Value} {b : Bool} (e : ptM x v h nx = .ok b h' nx' R W) (hv : VR r v v') (hM : Mod (symSig ρ) r h.get w) : h' = h ∧ nx' = nx ∧ W = [] ∧ (b = true → x.is ρ w v') := by
 cases x with
 | p u =>
  obtain ⟨rfl, rfl, rfl, rfl⟩ := ret_ok (show (ret _ : M Sy Bool) h nx = _ from e)
  refine ⟨rfl, rfl, rfl, fun hb => ?_⟩
  simp only [Bool.and_eq_true] at hb
  obtain rfl := eqV_ok _ _ hb.1
  exact hv.eq_of_plain hb.2
 | f x =>
  unfold ptM at e
  simp only at e
  cases hc : chanOf v with
  | none =>
   rw [hc] at e
   obtain ⟨rfl, rfl, rfl, rfl⟩ := ret_ok (show (ret _ : M Sy Bool) h nx = _ from e)
   exact ⟨rfl, rfl, rfl, fun h => (by cases h)⟩
  | some i =>
   rw [hc] at e
   obtain ⟨y, h1, nx1, R1, W1, R2, W2, e1, e2, rfl, rfl⟩ := bind_ok e
   obtain ⟨hg, rfl, rfl, rfl⟩ := rdb_ok e1
   obtain ⟨rfl, rfl, rfl, rfl⟩ := ret_ok e2
   exact ⟨rfl, rfl, rfl, fun hb => eqIs_ok hb hg hM (vr_chanV hc hv)⟩
 | fr q =>
  unfold ptM at e
  simp only at e
  cases v <;> first | (obtain ⟨rfl, rfl, rfl, rfl⟩ := ret_ok (show (ret false : M Sy Bool) h nx = _ from e); exact ⟨rfl, rfl, rfl, fun h => (by cases h)⟩) | skip
  rename_i cs
  obtain ⟨cl⟩ := cs
  obtain ⟨cl', rfl, hcl⟩ := vr_agg hv
  obtain ⟨o, h1, nx1, R1, W1, R2, W2, e1, e2, rfl, rfl⟩ := bind_ok (show bind (frcV cl) _ h nx = _ from e)
  obtain ⟨rfl, rfl, rfl, hf⟩ := frcV_ok e1 hcl hM
  obtain ⟨rfl, rfl, rfl, rfl⟩ := ret_ok e2
  refine ⟨rfl, rfl, rfl, fun hb => ?_⟩
  cases o with
  | none => cases hb
  | some q2 =>
   have hb' : q.beq q2 = true := hb
   obtain rfl := Qe.beq_ok _ _ hb'
   have hf' : cl' = frC (q.ev ρ.q) := hf
   show _ = frQ _
   rw [hf']; rfl
theorem ptsM_ok : ∀ {l : List Pt} {vs vs' : List Value} {h h' : Tr (Blk Sy)} {nx nx' : Nat} {R W : List Nat} {b : Bool}, ptsM l vs h nx = .ok b h' nx' R W → VsR r vs vs' → Mod (symSig ρ) r h.get w → h' = h ∧ nx' = nx ∧ W = [] ∧ (b = true → PtsIs ρ w l vs')
 | [], vs, vs', h, h', nx, nx', R, W, b, e, hv, hM => by
  obtain ⟨rfl, rfl, rfl, rfl⟩ := ret_ok (show (ret vs.isEmpty : M Sy Bool) h nx = _ from e)
  refine ⟨rfl, rfl, rfl, fun hb => ?_⟩
  cases vs with
  | nil => cases hv; rfl
  | cons _ _ => cases hb
 | x :: l, vs, vs', h, h', nx, nx', R, W, b, e, hv, hM => by
  cases vs with
  | nil =>
   obtain ⟨rfl, rfl, rfl, rfl⟩ := ret_ok (show (ret false : M Sy Bool) h nx = _ from e)
   exact ⟨rfl, rfl, rfl, fun hb => (by cases hb)⟩
  | cons v vs =>
   cases hv with
   | cons h1 h2 =>
    obtain ⟨k, g1, nx1, R1, W1, R2, W2, e1, e2, rfl, rfl⟩ := bind_ok (show bind (ptM x v) (fun b => cond b (ptsM l vs) (ret false)) h nx = _ from e)
    obtain ⟨rfl, rfl, rfl, hk⟩ := ptM_ok e1 h1 hM
    cases k with
    | true =>
     obtain ⟨rfl, rfl, rfl, hl⟩ := ptsM_ok (show ptsM l vs _ _ = _ from e2) h2 hM
     exact ⟨rfl, rfl, rfl, fun hb => ⟨_, _, rfl, hk rfl, hl hb⟩⟩
    | false =>
     obtain ⟨rfl, rfl, rfl, rfl⟩ := ret_ok (show (ret false : M Sy Bool) _ _ = _ from e2)
     exact ⟨rfl, rfl, rfl, fun hb => (by cases hb)⟩
theorem wrap_ok {a : An} (hp : plainLay a.ls = true) {vs us : List Value} (h : VsR r vs us) : VR r (a.wrap vs) (a.wrap us) := by
 have hs := split_ok hp h
 unfold An.wrap
 cases a.t with
 | true => exact .tuple hs
 | false =>
  show VR r ((split a.ls vs).headD undef) ((split a.ls us).headD undef)
  generalize split a.ls vs = X at hs ⊢
  generalize split a.ls us = Y at hs ⊢
  cases hs with
  | nil => exact vr_undef
  | cons x _ => exact x
theorem tabM_ok {f : FuncId} : ∀ {l : List (List Pt × An)}, layOK l = true → TabOK ρ f l → ∀ {args args' : List Value} {h h' : Tr (Blk Sy)} {nx nx' : Nat} {R W : List Nat} {v : Value}, tabM l args h nx = .ok v h' nx' R W → VsR r args args' → Mod (symSig ρ) r h.get w → New r nx nx' →
  Calls Try.prog f ⟨args'⟩ w fun e w' => ∃ v' r', e = .returned v' ∧ VR r' v v' ∧ Ext (symSig ρ) r w nx nx' W h'.get r' w'
 | [], _, _, args, args', h, h', nx, nx', R, W, v, e, _, _, _ => by cases (show (fail : M Sy Value) h nx = _ from e)
 | x :: l, hl, ht, args, args', h, h', nx, nx', R, W, v, e, hv, hM, hN => by
  have hl' : (plainLay x.2.ls && layOK l) = true := hl
  simp only [Bool.and_eq_true] at hl'
  obtain ⟨k, g1, nx1, R1, W1, R2, W2, e1, e2, rfl, rfl⟩ := bind_ok (show bind (ptsM x.1 args) (fun b => cond b (anM x.2) (tabM l args)) h nx = _ from e)
  obtain ⟨rfl, rfl, rfl, hk⟩ := ptsM_ok e1 hv hM
  simp only [List.nil_append]
  cases k with
  | true =>
   obtain ⟨vs, g3, nx3, R3, W3, R4, W4, e3, e4, rfl, rfl⟩ := bind_ok (show anM x.2 _ _ = _ from e2)
   obtain ⟨rfl, rfl, rfl, rfl⟩ := ret_ok e4
   refine (ht x List.mem_cons_self w args' (hk rfl) hM.fits hM.base hM.sz).mono ?_
   rintro en w' ⟨us, hu, rfl, hb⟩
   have hX := ext_below hM hb nx1
   obtain ⟨hle, r', hY, hvs⟩ := newFacts_ok x.2.fs e3 hX.mod hN hu
   exact ⟨_, r', rfl, wrap_ok hl'.1 hvs, by simpa using hX.trans hY (Nat.le_refl _) hle⟩
  | false => exact tabM_ok hl'.2 (fun y hy => ht y (List.mem_cons_of_mem _ hy)) (show tabM l args _ _ = _ from e2) hv hM hN
theorem tabS_ok {f : FuncId} {l : List (List Pt × An)} (hl : layOK l = true) (ht : TabOK ρ f l) : SumF (symSig ρ) Try.prog (tabS f l).1 (tabS f l).2 := by
 intro args m e
 cases e
 exact ⟨loc_tabM _ _, fun h nx v h' nx' R W e r w args' hv hM hN => tabM_ok hl ht e hv hM hN⟩
end
noncomputable def cvI (s t : TypeId) (v : Value) : M Sy Nxt := bind (fact v) fun f => match f with
 | .is e => cond (hasT s && isI64 (intK t)) (lVal (.it e)) fail
 | _ => fail
theorem loc_cvI (s t : TypeId) (v : Value) : Loc (cvI s t v) := by
 refine loc_bind (loc_fact _) fun f => ?_
 split
 ·exact loc_cond (loc_lVal _) loc_fail
 ·exact loc_fail
noncomputable def lwH (B : List Ix) (G : Oper → List Value → M Sy Nxt) (o : Oper) (vs : List Value) : M Sy Nxt := match o.op with
 | .convert s t _ => match oneM vs with
  | some v => cvI s t v
  | none => fail
 | .binOp op _ _ _ _ => match twoM vs with
  | some y => cond (isOpq y.1) (bind (ixV y.1) fun p => bind (ixV y.2) fun q => iBin B op p q) (G o vs)
  | none => fail
 | _ => G o vs
theorem loc_lwH {G : Oper → List Value → M Sy Nxt} (hG : ∀ o vs, Loc (G o vs)) (B : List Ix) (o : Oper) (vs : List Value) : Loc (lwH B G o vs) := by
 unfold lwH
 (repeat' split) <;> first
  | exact loc_fail
  | exact loc_cvI _ _ _
  | exact loc_cond (loc_bind (loc_ixV _) fun _ => loc_bind (loc_ixV _) fun _ => loc_iBin _ _ _ _) (hG _ _)
  | exact hG _ _
section
variable {ρ : Env} {A : List As} {B : List Ix} {h h' : Tr (Blk Sy)} {nx nx' : Nat} {R W : List Nat} {r : Ren} {w : World}
theorem cvI_ok {s t : TypeId} {v v' : Value} {x : Nxt} (e : cvI s t v h nx = .ok x h' nx' R W) (hv : VR r v v') (hM : Mod (symSig ρ) r h.get w) (hN : New r nx nx') :
  nx ≤ nx' ∧ ∃ v u r', x = .val v ∧ (convert s t v').run Try.prog w = .ok u w ∧ VR r' v u ∧ Ext (symSig ρ) r w nx nx' W h'.get r' w := by
 obtain ⟨f, h1, nx1, R1, W1, R2, W2, e1, e2, rfl, rfl⟩ := bind_ok e
 obtain ⟨rfl, rfl, rfl, hf⟩ := fact_ok e1 hv hM
 cases f <;> first | (cases (show (fail : M Sy Nxt) _ _ = _ from e2); done) | skip
 rename_i q
 obtain ⟨hk, e3⟩ := cond_ok e2
 simp only [Bool.and_eq_true] at hk
 obtain ⟨hf1, hf2⟩ := (show v' = .int .i16 (q.ev ρ.q).num ∧ I16 (q.ev ρ.q) from hf)
 obtain ⟨hle, v1, r', rfl, hv2, hX⟩ := lVal_ok (v' := .int .i64 (q.ev ρ.q).num) e3 hM hN rfl
 refine ⟨hle, v1, _, r', rfl, ?_, hv2, by simpa using hX⟩
 have hs : ∃ d, (Try.prog).underlying s = some d := by
  have := hk.1
  unfold hasT at this
  split at this
  ·exact ⟨_, by assumption⟩
  ·cases this
 have ht : (Try.prog).underlying t = some (.int .i64) := by
  have := hk.2
  unfold intK at this
  cases hu : (Try.prog).underlying t with
  | none => rw [hu] at this; cases this
  | some d =>
   rw [hu] at this
   cases d <;> first | (cases this; done) | skip
   rename_i k2
   cases k2 <;> first | rfl | (cases this; done)
 obtain ⟨d, hs⟩ := hs
 rw [hf1]
 have h1 := hf2.lo
 have h2 := hf2.hi
 have hw : IntKind.i64.wrap (q.ev ρ.q).num = (q.ev ρ.q).num := by rw [IntKind.wrap_i64]; omega
 simp [convert, run_underlying hs, run_underlying ht, Conv.intToInt, hw]
theorem lwH_ok (hB : AllX ρ B) {G : Oper → List Value → M Sy Nxt} {C : Cfg Sy} (hG : HardOK (symSig ρ) Try.prog { C with hard := G }) (hC : C.hard = lwH B G) : HardOK (symSig ρ) Try.prog C := by
 intro o vs h nx x h' nx' R W hs e r w ρo hM hN hv
 rw [hC] at e
 unfold lwH at e
 have back : G o vs h nx = .ok x h' nx' R W → nx ≤ nx' ∧ After (symSig ρ) Try.prog ((execOp ρo o).run Try.prog w) r w nx nx' W h'.get x := fun e2 => hG o vs h nx x h' nx' R W hs e2 r w ρo hM hN hv
 cases hop : o.op with
 | convert s t y =>
  rw [hop] at e
  simp only at e
  have hops : o.op.operands.toList.map ρo = [ρo y] := by rw [hop]; rfl
  rw [hops] at hv
  rcases vs with _ | ⟨u, _ | ⟨z, l⟩⟩ <;> first | (cases (show (fail : M Sy Nxt) h nx = _ from e); done) | skip
  simp only [oneM] at e
  cases hv with
  | cons hu hv =>
   obtain ⟨hle, v, u2, r', rfl, hl, hvr, hX⟩ := cvI_ok e hu hM hN
   refine ⟨hle, u2, w, r', ?_, hvr, hX⟩
   simp only [execOp, hop, Sem.run_bind, hl, Result.andThen_ok, Sem.run_pure]
 | binOp op t p q yt =>
  rw [hop] at e
  simp only at e
  have hops : o.op.operands.toList.map ρo = [ρo p, ρo q] := by rw [hop]; rfl
  rw [hops] at hv
  rcases vs with _ | ⟨u, _ | ⟨z1, _ | ⟨z2, l⟩⟩⟩ <;> first | (cases (show (fail : M Sy Nxt) h nx = _ from e); done) | skip
  simp only [twoM] at e
  rcases condH e with e1 | e1
  ·cases hv with
   | cons hu hv => cases hv with
    | cons hz hv =>
     obtain ⟨x1, h3, nx3, R3, W3, R4, W4, e4, e5, rfl, rfl⟩ := bind_ok e1
     obtain ⟨rfl, rfl, rfl, hp⟩ := ixV_ok e4 hu hM
     obtain ⟨y1, h5, nx5, R5, W5, R6, W6, e6, e7, rfl, rfl⟩ := bind_ok e5
     obtain ⟨rfl, rfl, rfl, hq⟩ := ixV_ok e6 hz hM
     obtain ⟨hle, v, u2, r', rfl, hl, hvr, hX⟩ := iBin_ok hB e7 hM hN t p q
     refine ⟨hle, u2, w, r', ?_, hvr, by simpa using hX⟩
     simp only [execOp, hop, hp, hq]
     rw [Sem.run_bind, hl]
     rfl
  ·exact back e1
 | _ => rw [hop] at e; exact back e
end
noncomputable def memFz (fz : TypeId → Bool) : Cfg Sy where
 hid _ t := fz t || symHid t
 G := natCfg.G
 glob := natCfg.glob
 tab := natCfg.tab
 len := symLen
 hard := fun _ _ => fail
noncomputable def lwCfg (fz : TypeId → Bool) (A : List As) (B : List Ix) : Cfg Sy where
 hid _ t := fz t || symHid t
 G := natCfg.G
 glob := natCfg.glob
 tab := natCfg.tab
 len := symLen
 hard := rwH B (lwH B (Fq.frH A (memHard Try.prog (memFz fz))))
instance lwCfgI (fz : TypeId → Bool) (A : List As) (B : List Ix) : HardLoc (lwCfg fz A B) := ⟨loc_rwH (loc_lwH (Fq.loc_frH (loc_memHard Try.prog (memFz fz)) A) B) B⟩
theorem lwFits {ρ : Env} {fz : TypeId → Bool} {A : List As} {B : List Ix} (hA : AllH ρ A) (hB : AllX ρ B) (hf : ρ.fz.t = fz) : Fits (symSig ρ) Try.prog (lwCfg fz A B) where
 hid := by subst hf; rfl
 G := rfl
 len := lsLen_ok ρ
 tab := natFits.tab
 glob := natFits.glob
 mixed := natFits.mixed
 hard := rwH_ok hB (lwH_ok hB (Fq.frH_ok hA (memHard_ok (C0 := memFz fz) rfl (by subst hf; rfl) rfl) rfl) rfl) rfl
noncomputable def ebF : Nat := 4
noncomputable def ebFz (t : TypeId) : Bool := Nat.beq t 37 || (Nat.beq t 30 || Nat.beq t 70)
noncomputable def anF (e : Qe) : An := ⟨[.ng e, .fn e, .fd e], [.agg 3], false⟩
noncomputable def anFE (e : Qe) (n : Int) : An := ⟨[.ng e, .fn e, .fd e], [.agg 3, .p (.int .i64 n)], true⟩
noncomputable def anZ (n : Int) : An := ⟨[], [.p (.agg ⟨[.bool false, .string ⟨#[]⟩, .string ⟨#[]⟩]⟩), .p (.int .i64 n)], true⟩
noncomputable def anI (n : Int) : An := ⟨[], [.p (.int .i64 n)], false⟩
noncomputable def anII (n m : Int) : An := ⟨[], [.p (.int .i64 n), .p (.int .i64 m)], true⟩
noncomputable def anB (b : Bool) : An := ⟨[], [.p (.bool b)], false⟩
noncomputable def ptI (n : Int) : Pt := .p (.int .i64 n)
noncomputable def ebRows : List (List Pt × An) := [([.f (.oq 0)], ⟨[.rl 0], [.one], false⟩)]
noncomputable def ebNew : List (List Pt × An) := [([.f (.rl 0)], ⟨[.oq 1], [.one, .p (.int .i64 0)], true⟩)]
noncomputable def ebOf : List (List Pt × An) := [([.f (.it (.v 1)), ptI 12], anF (.v 8)), ([.f (.it (.v 2)), ptI 12], anF (.v 9)), ([ptI 5, ptI 3], anF (.v 14))]
noncomputable def ebAt (gx gy : Bool) : List (List Pt × An) := [([.f (.oq 1), .fr (.v 8)], cond gx (anFE (.v 11) 0) (anZ 130)), ([.f (.oq 1), .fr (.v 9)], cond gy (anFE (.v 12) 0) (anZ 130))]
noncomputable def ebCmp (gx gy : Bool) (s0 sL sxy : Int) : List (List Pt × An) := [([.fr (.v 8), .fr (.v 5)], anII s0 0), ([.fr (.v 8), .fr (.v 6)], anII sL 0)] ++ cond (gx && gy) [([.fr (.v 8), .fr (.v 9)], anII sxy 0), ([.fr (.v 11), .fr (.v 12)], anII sxy 0)] []
noncomputable def ebBk (gx : Bool) : List (List Pt × An) := cond gx [([.f (.oq 1), .fr (.v 11)], anFE (.v 8) 0)] []
noncomputable def ebAdd (gx : Bool) : List (List Pt × An) := cond gx [([.fr (.v 11), .fr (.v 14)], anFE (.v 13) 0)] []
noncomputable def ebCut (gx : Bool) : List (List Pt × An) := cond gx [([.f (.oq 1), .fr (.v 13), .fr (.v 8)], anFE (.v 14) 0), ([.f (.oq 1), .fr (.v 11), .fr (.v 8)], anZ 10)] []
noncomputable def ebSgn (gx : Bool) : List (List Pt × An) := cond gx [([.fr (.v 11)], anI 1)] []
noncomputable def ebWks : List (List Pt × An) := [([], anB true)]
noncomputable def ebSums (gx gy : Bool) (s0 sL sxy : Int) : Sums Sy := sumsOf (mkTab [tabS 14 ebRows, tabS 7 ebNew, tabS 8 ebOf, tabS 9 (ebAt gx gy), tabS 15 (ebCmp gx gy s0 sL sxy), tabS 11 (ebBk gx), tabS 16 (ebAdd gx), tabS 10 (ebCut gx), tabS 17 (ebSgn gx), tabS 13 ebWks])
noncomputable def ebB : List Ix := [.ln 0 1, .bd 1, .lt 0 0 1 0 true, .lt 1 (-1) 0 0 false, .lt 1 (-1) 1 0 true, .el 0 0 0 (.v 5), .el 0 1 (-1) (.v 6)]
noncomputable def ebRun (gx gy : Bool) (s0 sL sxy : Int) : Option (D3 Sy) := tells [.oq 0, .is (.v 1), .is (.v 2)] [.one, .one, .one] (call Try.prog (lwCfg ebFz [] ebB) (ebSums gx gy s0 sL sxy) 30 ebF)
noncomputable def ebT : Option (D3 Sy) := some (.one (.one (.p (.bool true))))
noncomputable def sg (k : Nat) : Int := match k with
 | 0 => -1
 | 1 => 0
 | _ => 1
set_option maxHeartbeats 4000000 in
theorem eb_in (gy : Bool) : ∀ i j k : Nat, i < 2 → j < 2 → k < 3 → ebRun true gy (sg (i + 1)) (sg j) (sg k) = ebT
 | 0, 0, 0, _, _, _ => by cases gy <;> kernel_rfl
 | 0, 0, 1, _, _, _ => by cases gy <;> kernel_rfl
 | 0, 0, 2, _, _, _ => by cases gy <;> kernel_rfl
 | 0, 1, 0, _, _, _ => by cases gy <;> kernel_rfl
 | 0, 1, 1, _, _, _ => by cases gy <;> kernel_rfl
 | 0, 1, 2, _, _, _ => by cases gy <;> kernel_rfl
 | 1, 0, 0, _, _, _ => by cases gy <;> kernel_rfl
 | 1, 0, 1, _, _, _ => by cases gy <;> kernel_rfl
 | 1, 0, 2, _, _, _ => by cases gy <;> kernel_rfl
 | 1, 1, 0, _, _, _ => by cases gy <;> kernel_rfl
 | 1, 1, 1, _, _, _ => by cases gy <;> kernel_rfl
 | 1, 1, 2, _, _, _ => by cases gy <;> kernel_rfl
 | n + 2, _, _, h, _, _ => by omega
 | _, n + 2, _, _, h, _ => by omega
 | _, _, n + 3, _, _, h => by omega
set_option maxHeartbeats 4000000 in
theorem eb_out (gy : Bool) : ∀ i j : Nat, i < 3 → j < 3 → (i = 0 ∨ j = 2) → ebRun false gy (sg i) (sg j) 0 = ebT
 | 0, 0, _, _, _ => by cases gy <;> kernel_rfl
 | 0, 1, _, _, _ => by cases gy <;> kernel_rfl
 | 0, 2, _, _, _ => by cases gy <;> kernel_rfl
 | 1, 2, _, _, _ => by cases gy <;> kernel_rfl
 | 2, 2, _, _, _ => by cases gy <;> kernel_rfl
 | 1, 0, _, _, h => by omega
 | 1, 1, _, _, h => by omega
 | 2, 0, _, _, h => by omega
 | 2, 1, _, _, h => by omega
 | n + 3, _, h, _, _ => by omega
 | _, n + 3, _, h, _ => by omega
end Ev
end Go.Proofs.Ytnlhjcfpfapafaa
namespace Go.Proofs.Ytnlhjcfpfapafaa
open Go.RowKit
def AtL (w : World) (g : Nat) (T : TypeId) (cs : Array Value) : Prop := w.heap[g]? = some (.cells cs T (0, 0))
section
variable {w w' : World} {g : Nat} {T : TypeId} {cs : Array Value}
theorem AtL.lt (h : AtL w g T cs) : g < w.heap.size := by
 rcases Nat.lt_or_ge g w.heap.size with h1 | h1
 ·exact h1
 ·unfold AtL at h; rw [Array.getElem?_eq_none h1] at h; cases h
theorem AtL.cell (h : AtL w g T cs) (i : Nat) {x : Value} (hx : cs[i]? = some x) : w.cell? ⟨g, i, none⟩ = some x := by rw [cell_of_row w g i _ _ (0, 0) h]; exact hx
theorem AtL.frozen (h : AtL w g T cs) (i : Nat) : w.frozen? ⟨g, i, none⟩ = false := frozen_of_row w g i _ _ h
theorem AtL.new (w : World) (T : TypeId) (cs : Array Value) : AtL (w.alloc (.cells cs T)) w.heap.size T cs := heap_alloc_new w _
theorem AtL.alloc' (h : AtL w g T cs) (o : Obj) : AtL (w.alloc o) g T cs := (Below.heap_alloc w o g h.lt).trans h
theorem AtL.below (h : AtL w g T cs) {B : Nat} (hb : Below B w w') (hg : g < B) : AtL w' g T cs := (hb.block g hg).trans h
theorem AtL.keep (h : AtL w g T cs) (hb : Below w.heap.size w w') : AtL w' g T cs := h.below hb h.lt
theorem AtL.set (h : AtL w g T cs) (i : Nat) (x : Value) : AtL (w.setCell ⟨g, i, none⟩ x) g T (cs.setIfInBounds i x) := heap_setCell_same w g i _ _ x h
end
def One (w : World) (v : Value) (q : Rat) : Prop := ∃ g a b, v = .slice (some ⟨g, 0, none⟩) 1 1 ∧ AtL w g 70 #[.bool (Big.ng q), a, b] ∧ NumIn w (.agg #[.bool (Big.ng q), a, b]) q
def Two (w : World) (v : Value) (q r : Rat) : Prop := ∃ g a b c d, v = .slice (some ⟨g, 0, none⟩) 2 2 ∧ AtL w g 70 #[.bool (Big.ng q), a, b, .bool (Big.ng r), c, d] ∧ NumIn w (.agg #[.bool (Big.ng q), a, b]) q ∧ NumIn w (.agg #[.bool (Big.ng r), c, d]) r
def OneR (w : World) (q : Rat) (e : Ending) (w' : World) : Prop := ∃ v, e = .returned (.tuple #[v, .bool true]) ∧ One w' v q ∧ Below w.heap.size w w'
def TwoR (w : World) (q r : Rat) (e : Ending) (w' : World) : Prop := ∃ v, e = .returned (.tuple #[v, .bool true]) ∧ Two w' v q r ∧ Below w.heap.size w w'
theorem Try.infoNum : (Try.prog.info? 70).map (fun i => (i.zero, i.size, i.bytes)) = some (some (.agg #[.bool false, .slice none 0 0, .slice none 0 0]), 3, 56) := by kernel_rfl
theorem make_nums (n : Nat) (hn : n ≤ 1000) (cs : Array Value) (hcs : madeCells (Value.agg #[.bool false, .slice none 0 0, .slice none 0 0]).cells (n * 3) = cs) (w : World) :
  (Instr.makeSlice 35 (.int .i64 ((n : Nat) : Int)) (.int .i64 ((n : Nat) : Int))).run Try.prog w = .ok (.slice (some ⟨w.heap.size, 0, none⟩) n n) (w.alloc (.cells cs 70)) := by
 obtain ⟨i0, hi, hz0, hz1, hz2⟩ := info_parts Try.infoNum
 have hr := run_make (P := Try.prog) w 35 70 i0 _ Try.underlying35 hi hz0 .i64 .i64 (n : Int) (n : Int) (by omega) (by omega) (by rw [hz2]; omega) (by omega)
 rw [hz1] at hr
 simp only [Int.toNat_natCast] at hr
 rw [hr, hcs]
theorem AtL.no_int {w : World} {g : Nat} {T : TypeId} {cs : Array Value} (h : AtL w g T cs) (hc : ∀ v ∈ cs.toList, ∀ x, v ≠ .int .u64 x) (i : Nat) (x : Int) : w.cell? ⟨g, i, none⟩ ≠ some (.int .u64 x) := by
 rw [cell_of_row w g i _ _ (0, 0) h]
 intro e
 exact hc _ (by rw [Array.mem_toList_iff]; exact Array.mem_of_getElem? e) x rfl
theorem NumIn.only {w w' : World} {v : Value} {q : Rat} {g : Nat} (h : NumIn w v q) (hg : ∀ i x, w.cell? ⟨g, i, none⟩ ≠ some (.int .u64 x)) (ho : Only g w w') : NumIn w' v q := by
 obtain ⟨a, b, e, h1, h2⟩ := h; exact ⟨a, b, e, h1.only hg ho, h2.only hg ho⟩
theorem Only.alloc {g : Nat} {w w' : World} (h : Only g w w') (o : Obj) : Only g w (w'.alloc o) := h.trans (Only.of_below (box1_below w' o))
set_option maxRecDepth 100000 in
set_option maxHeartbeats 4000000 in
theorem read1_any (w : World) (g : Nat) (q : Rat) (h : AtL w g 27 #[.bool (Big.ng q), .string (bst (Big.nu q)), .string (bst (Big.de q))]) (hfq : Fit q) :
  Calls Try.prog 40 #[.slice (some ⟨g, 0, none⟩) 1 1] w (OneR w q) := by
 have hmk : ∀ W, (Instr.makeSlice 35 (.int .i64 1) (.int .i64 1)).run Try.prog W = .ok (.slice (some ⟨W.heap.size, 0, none⟩) 1 1) (W.alloc (.cells #[.bool false, .slice none 0 0, .slice none 0 0] 70)) := fun W => make_nums 1 (by omega) #[.bool false, .slice none 0 0, .slice none 0 0] (by first | kernel_rfl | (simp [madeCells]; rfl)) W
 have HA := Lib.hid h
 have HRq := Lib.hid (fun W => exRead_ok W q hfq)
 have HN := Lib.hid (AtL.new w 70 #[.bool false, .slice none 0 0, .slice none 0 0])
 have HB := Lib.hid (box1_below w (.cells #[.bool false, .slice none 0 0, .slice none 0 0] 70))
 have hg := h.lt
 have h' := h.alloc' (.cells #[.bool false, .slice none 0 0, .slice none 0 0] 70)
 have c0 := h'.cell 0 rfl
 have c1 := h'.cell 1 rfl
 have c2 := h'.cell 2 rfl
 clear h h' hfq
 go_enter Try.func40, Try.ntmps40
 go_wp2_with fail
 refine wp_loop_rounds 2 ?_
 rw [rounds_succ]
 go_wp2_with fail
 clear hmk c0 c1 c2
 have HN0 := Lib.hid (HN.out.alloc' (.cells #[.bool (Big.ng q), .string (bst (Big.nu q)), .string (bst (Big.de q))] 27))
 have HB0 := Lib.hid (below_alloc HB.out (Nat.le_refl _) (.cells #[.bool (Big.ng q), .string (bst (Big.nu q)), .string (bst (Big.de q))] 27))
 generalize (w.alloc (.cells #[.bool false, .slice none 0 0, .slice none 0 0] 70)).alloc (.cells #[.bool (Big.ng q), .string (bst (Big.nu q)), .string (bst (Big.de q))] 27) = wa0 at *
 refine (HRq.out _).mono ?_
 rintro e w0 ⟨v0, rfl, hv0, hw0⟩
 obtain ⟨A0, l0, c0, B0, m0, d0, rfl, ha0, hb0⟩ := hv0.is_agg
 have n0 := HN0.out.keep hw0
 have hlt0 := n0.lt
 have k0 := n0.cell 0 rfl; have k1 := n0.cell 1 rfl; have k2 := n0.cell 2 rfl
 have f0 := n0.frozen 0; have f1 := n0.frozen 1; have f2 := n0.frozen 2
 have s0 : AtL (((w0.setCell ⟨w.heap.size, 0, none⟩ (.bool (Big.ng q))).setCell ⟨w.heap.size, 1, none⟩ (.slice A0 l0 c0)).setCell ⟨w.heap.size, 2, none⟩ (.slice B0 m0 d0)) w.heap.size 70 #[.bool (Big.ng q), .slice A0 l0 c0, .slice B0 m0 d0] := ((n0.set 0 (.bool (Big.ng q))).set 1 (.slice A0 l0 c0)).set 2 (.slice B0 m0 d0)
 have o0 := (((Only.refl w.heap.size w0).setCell 0 (.bool (Big.ng q))).setCell 1 (.slice A0 l0 c0)).setCell 2 (.slice B0 m0 d0)
 have ni0 := n0.no_int (by simp)
 have b0 := HB0.out.trans (hw0.mono HB0.out.size)
 have bb0 : Below w.heap.size w (((w0.setCell ⟨w.heap.size, 0, none⟩ (.bool (Big.ng q))).setCell ⟨w.heap.size, 1, none⟩ (.slice A0 l0 c0)).setCell ⟨w.heap.size, 2, none⟩ (.slice B0 m0 d0)) := ((b0.setCell (p := ⟨w.heap.size, 0, none⟩) (Nat.le_refl _) _).setCell (p := ⟨w.heap.size, 1, none⟩) (Nat.le_refl _) _).setCell (p := ⟨w.heap.size, 2, none⟩) (Nat.le_refl _) _
 have HS0 := Lib.hid (s0.alloc' (.cells #[.bool (Big.ng q), .slice A0 l0 c0, .slice B0 m0 d0] 70))
 have HO0 := Lib.hid (And.intro (hv0.only ni0 (o0.alloc (.cells #[.bool (Big.ng q), .slice A0 l0 c0, .slice B0 m0 d0] 70))) (below_alloc bb0 (Nat.le_refl _) (.cells #[.bool (Big.ng q), .slice A0 l0 c0, .slice B0 m0 d0] 70)))
 clear hv0 hw0 ha0 hb0 n0 s0 o0 ni0 b0 bb0
 go_wp2_with fail
 generalize ((((w0.setCell ⟨w.heap.size, 0, none⟩ (.bool (Big.ng q))).setCell ⟨w.heap.size, 1, none⟩ (.slice A0 l0 c0)).setCell ⟨w.heap.size, 2, none⟩ (.slice B0 m0 d0)).alloc (.cells #[.bool (Big.ng q), .slice A0 l0 c0, .slice B0 m0 d0] 70)) = wz0 at HS0 HO0  ⊢
 clear k0 k1 k2 f0 f1 f2
 rw [rounds_succ]
 go_wp2_with fail
 go_ret2
 exact ⟨_, rfl, ⟨_, _, _, rfl, HS0.out, HO0.out.1⟩, HO0.out.2⟩
set_option maxRecDepth 100000 in
set_option maxHeartbeats 4000000 in
theorem read2_any (w : World) (g : Nat) (q r : Rat) (h : AtL w g 27 #[.bool (Big.ng q), .string (bst (Big.nu q)), .string (bst (Big.de q)), .bool (Big.ng r), .string (bst (Big.nu r)), .string (bst (Big.de r))]) (hfq : Fit q) (hfr : Fit r) :
  Calls Try.prog 40 #[.slice (some ⟨g, 0, none⟩) 2 2] w (TwoR w q r) := by
 have hmk : ∀ W, (Instr.makeSlice 35 (.int .i64 2) (.int .i64 2)).run Try.prog W = .ok (.slice (some ⟨W.heap.size, 0, none⟩) 2 2) (W.alloc (.cells #[.bool false, .slice none 0 0, .slice none 0 0, .bool false, .slice none 0 0, .slice none 0 0] 70)) := fun W => make_nums 2 (by omega) #[.bool false, .slice none 0 0, .slice none 0 0, .bool false, .slice none 0 0, .slice none 0 0] (by first | kernel_rfl | (simp [madeCells]; rfl)) W
 have HA := Lib.hid h
 have HRq := Lib.hid (fun W => exRead_ok W q hfq)
 have HRr := Lib.hid (fun W => exRead_ok W r hfr)
 have HN := Lib.hid (AtL.new w 70 #[.bool false, .slice none 0 0, .slice none 0 0, .bool false, .slice none 0 0, .slice none 0 0])
 have HB := Lib.hid (box1_below w (.cells #[.bool false, .slice none 0 0, .slice none 0 0, .bool false, .slice none 0 0, .slice none 0 0] 70))
 have hg := h.lt
 have h' := h.alloc' (.cells #[.bool false, .slice none 0 0, .slice none 0 0, .bool false, .slice none 0 0, .slice none 0 0] 70)
 have c0 := h'.cell 0 rfl
 have c1 := h'.cell 1 rfl
 have c2 := h'.cell 2 rfl
 clear h h' hfq hfr
 go_enter Try.func40, Try.ntmps40
 go_wp2_with fail
 refine wp_loop_rounds 3 ?_
 rw [rounds_succ]
 go_wp2_with fail
 clear hmk c0 c1 c2
 have HN0 := Lib.hid (HN.out.alloc' (.cells #[.bool (Big.ng q), .string (bst (Big.nu q)), .string (bst (Big.de q))] 27))
 have HB0 := Lib.hid (below_alloc HB.out (Nat.le_refl _) (.cells #[.bool (Big.ng q), .string (bst (Big.nu q)), .string (bst (Big.de q))] 27))
 generalize (w.alloc (.cells #[.bool false, .slice none 0 0, .slice none 0 0, .bool false, .slice none 0 0, .slice none 0 0] 70)).alloc (.cells #[.bool (Big.ng q), .string (bst (Big.nu q)), .string (bst (Big.de q))] 27) = wa0 at *
 refine (HRq.out _).mono ?_
 rintro e w0 ⟨v0, rfl, hv0, hw0⟩
 obtain ⟨A0, l0, c0, B0, m0, d0, rfl, ha0, hb0⟩ := hv0.is_agg
 have n0 := HN0.out.keep hw0
 have hlt0 := n0.lt
 have k0 := n0.cell 0 rfl; have k1 := n0.cell 1 rfl; have k2 := n0.cell 2 rfl
 have f0 := n0.frozen 0; have f1 := n0.frozen 1; have f2 := n0.frozen 2
 have s0 : AtL (((w0.setCell ⟨w.heap.size, 0, none⟩ (.bool (Big.ng q))).setCell ⟨w.heap.size, 1, none⟩ (.slice A0 l0 c0)).setCell ⟨w.heap.size, 2, none⟩ (.slice B0 m0 d0)) w.heap.size 70 #[.bool (Big.ng q), .slice A0 l0 c0, .slice B0 m0 d0, .bool false, .slice none 0 0, .slice none 0 0] := ((n0.set 0 (.bool (Big.ng q))).set 1 (.slice A0 l0 c0)).set 2 (.slice B0 m0 d0)
 have o0 := (((Only.refl w.heap.size w0).setCell 0 (.bool (Big.ng q))).setCell 1 (.slice A0 l0 c0)).setCell 2 (.slice B0 m0 d0)
 have ni0 := n0.no_int (by simp)
 have b0 := HB0.out.trans (hw0.mono HB0.out.size)
 have bb0 : Below w.heap.size w (((w0.setCell ⟨w.heap.size, 0, none⟩ (.bool (Big.ng q))).setCell ⟨w.heap.size, 1, none⟩ (.slice A0 l0 c0)).setCell ⟨w.heap.size, 2, none⟩ (.slice B0 m0 d0)) := ((b0.setCell (p := ⟨w.heap.size, 0, none⟩) (Nat.le_refl _) _).setCell (p := ⟨w.heap.size, 1, none⟩) (Nat.le_refl _) _).setCell (p := ⟨w.heap.size, 2, none⟩) (Nat.le_refl _) _
 have HS0 := Lib.hid (s0.alloc' (.cells #[.bool (Big.ng q), .slice A0 l0 c0, .slice B0 m0 d0] 70))
 have HO0 := Lib.hid (And.intro (hv0.only ni0 (o0.alloc (.cells #[.bool (Big.ng q), .slice A0 l0 c0, .slice B0 m0 d0] 70))) (below_alloc bb0 (Nat.le_refl _) (.cells #[.bool (Big.ng q), .slice A0 l0 c0, .slice B0 m0 d0] 70)))
 clear hv0 hw0 ha0 hb0 n0 s0 o0 ni0 b0 bb0
 go_wp2_with fail
 generalize ((((w0.setCell ⟨w.heap.size, 0, none⟩ (.bool (Big.ng q))).setCell ⟨w.heap.size, 1, none⟩ (.slice A0 l0 c0)).setCell ⟨w.heap.size, 2, none⟩ (.slice B0 m0 d0)).alloc (.cells #[.bool (Big.ng q), .slice A0 l0 c0, .slice B0 m0 d0] 70)) = wz0 at HS0 HO0  ⊢
 clear k0 k1 k2 f0 f1 f2
 have HQq := Lib.hid HO0.out.1; have HBz0 := Lib.hid HO0.out.2
 have h' := HA.out.keep HBz0.out
 have c0 := h'.cell 3 rfl
 have c1 := h'.cell 4 rfl
 have c2 := h'.cell 5 rfl
 clear h' HO0
 rw [rounds_succ]
 go_wp2_with fail
 clear c0 c1 c2
 have HN1 := Lib.hid (HS0.out.alloc' (.cells #[.bool (Big.ng r), .string (bst (Big.nu r)), .string (bst (Big.de r))] 27))
 have HB1 := Lib.hid (below_alloc HBz0.out (Nat.le_refl _) (.cells #[.bool (Big.ng r), .string (bst (Big.nu r)), .string (bst (Big.de r))] 27))
 have HQq1 := Lib.hid (HQq.out.keep (box1_below _ (.cells #[.bool (Big.ng r), .string (bst (Big.nu r)), .string (bst (Big.de r))] 27)))
 generalize wz0.alloc (.cells #[.bool (Big.ng r), .string (bst (Big.nu r)), .string (bst (Big.de r))] 27) = wa1 at *
 refine (HRr.out _).mono ?_
 rintro e w1 ⟨v1, rfl, hv1, hw1⟩
 obtain ⟨A1, l1, c1, B1, m1, d1, rfl, ha1, hb1⟩ := hv1.is_agg
 have n1 := HN1.out.keep hw1
 have hlt1 := n1.lt
 have k0 := n1.cell 3 rfl; have k1 := n1.cell 4 rfl; have k2 := n1.cell 5 rfl
 have f0 := n1.frozen 3; have f1 := n1.frozen 4; have f2 := n1.frozen 5
 have s1 : AtL (((w1.setCell ⟨w.heap.size, 3, none⟩ (.bool (Big.ng r))).setCell ⟨w.heap.size, 4, none⟩ (.slice A1 l1 c1)).setCell ⟨w.heap.size, 5, none⟩ (.slice B1 m1 d1)) w.heap.size 70 #[.bool (Big.ng q), .slice A0 l0 c0, .slice B0 m0 d0, .bool (Big.ng r), .slice A1 l1 c1, .slice B1 m1 d1] := ((n1.set 3 (.bool (Big.ng r))).set 4 (.slice A1 l1 c1)).set 5 (.slice B1 m1 d1)
 have o1 := (((Only.refl w.heap.size w1).setCell 3 (.bool (Big.ng r))).setCell 4 (.slice A1 l1 c1)).setCell 5 (.slice B1 m1 d1)
 have ni1 := n1.no_int (by simp)
 have b1 := HB1.out.trans (hw1.mono HB1.out.size)
 have bb1 : Below w.heap.size w (((w1.setCell ⟨w.heap.size, 3, none⟩ (.bool (Big.ng r))).setCell ⟨w.heap.size, 4, none⟩ (.slice A1 l1 c1)).setCell ⟨w.heap.size, 5, none⟩ (.slice B1 m1 d1)) := ((b1.setCell (p := ⟨w.heap.size, 3, none⟩) (Nat.le_refl _) _).setCell (p := ⟨w.heap.size, 4, none⟩) (Nat.le_refl _) _).setCell (p := ⟨w.heap.size, 5, none⟩) (Nat.le_refl _) _
 have HS1 := Lib.hid (s1.alloc' (.cells #[.bool (Big.ng r), .slice A1 l1 c1, .slice B1 m1 d1] 70))
 have HO1 := Lib.hid (And.intro (hv1.only ni1 (o1.alloc (.cells #[.bool (Big.ng r), .slice A1 l1 c1, .slice B1 m1 d1] 70))) (below_alloc bb1 (Nat.le_refl _) (.cells #[.bool (Big.ng r), .slice A1 l1 c1, .slice B1 m1 d1] 70)))
 have HQqX := Lib.hid ((HQq1.out.keep hw1).only ni1 (o1.alloc (.cells #[.bool (Big.ng r), .slice A1 l1 c1, .slice B1 m1 d1] 70)))
 clear hv1 hw1 ha1 hb1 n1 s1 o1 ni1 b1 bb1
 go_wp2_with fail
 generalize ((((w1.setCell ⟨w.heap.size, 3, none⟩ (.bool (Big.ng r))).setCell ⟨w.heap.size, 4, none⟩ (.slice A1 l1 c1)).setCell ⟨w.heap.size, 5, none⟩ (.slice B1 m1 d1)).alloc (.cells #[.bool (Big.ng r), .slice A1 l1 c1, .slice B1 m1 d1] 70)) = wz1 at HS1 HO1 HQqX ⊢
 clear k0 k1 k2 f0 f1 f2
 rw [rounds_succ]
 go_wp2_with fail
 go_ret2
 exact ⟨_, rfl, ⟨_, _, _, _, _, rfl, HS1.out, HQqX.out, HO1.out.1⟩, HO1.out.2⟩
def NumE (b w : World) (z : Rat) (e : Ending) (w' : World) : Prop := ∃ v', e = .returned (.tuple #[v', .int .i64 0]) ∧ NumIn w' v' z ∧ Below b.heap.size b w' ∧ Below w.heap.size w w'
set_option maxRecDepth 100000 in
set_option maxHeartbeats 4000000 in
theorem Add1_any (b w : World) (vx vy : Value) (q r : Rat) (hx : NumIn w vx q) (hy : NumIn w vy r) (sx : Sm 64 q) (sy : Sm 64 r) (hbw : Below b.heap.size b w) :
  Calls Try.prog 42 #[vx, vy] w (NumE b w (q + r)) := by
 have C := Lib.hid (fun W a c (h : NumIn W a q) (i : NumIn W c r) => exAdd_any W a c q r 64 h i sx sy (by omega))
 have HQ := Lib.hid hx; have HR := Lib.hid hy; have HBW := Lib.hid hbw
 obtain ⟨A, l, c, A2, l2, c2, rfl, -, -⟩ := hx.is_agg
 obtain ⟨B, m, d, B2, m2, d2, rfl, -, -⟩ := hy.is_agg
 clear hx hy sx sy hbw
 obtain ⟨X0, Y0, R0, B0⟩ := boxed3 w 70 70 (.bool (Big.ng q)) (.slice A l c) (.slice A2 l2 c2) (.bool (Big.ng r)) (.slice B m d) (.slice B2 m2 d2) (.bool false) (.slice none 0 0) (.slice none 0 0)
 have HR0 := Lib.hid R0; have HB0 := Lib.hid B0
 have HXX := Lib.hid X0; have HYY := Lib.hid Y0
 clear X0 Y0 R0 B0
 go_enter Try.func42, Try.ntmps42
 go_wp2_with fail
 generalize ((w.alloc (.cells #[.bool (Big.ng q), .slice A l c, .slice A2 l2 c2] 70)).alloc (.cells #[.bool (Big.ng r), .slice B m d, .slice B2 m2 d2] 70)).alloc (.cells #[.bool false, .slice none 0 0, .slice none 0 0] 70) = w0 at *
 refine (C.out _ _ _ (HQ.out.keep HB0.out) (HR.out.keep HB0.out)).mono ?_
 rintro e w1 ⟨v1, rfl, hv1, hw1⟩
 have B1 := HB0.out.trans (hw1.mono HB0.out.size)
 have R1 := HR0.out.keep hw1
 obtain ⟨A8, l8, c8, A9, l9, c9, rfl, h8, h9⟩ := hv1.is_agg
 have HH := Lib.hid (And.intro h8 h9); have HB1 := Lib.hid B1
 have k0 := R1.c0; have k1 := R1.c1; have k2 := R1.c2; have f0 := R1.frozen 0; have f1 := R1.frozen 1; have f2 := R1.frozen 2
 obtain ⟨nz, hnz⟩ : ∃ z, Big.ng (q + r) = z := ⟨_, rfl⟩
 rw [hnz]
 have HNZ := Lib.hid hnz
 have RR := R1
 clear hv1 h8 h9 hw1 hnz B1 R1 C HQ HR HR0 HB0
 go_wp2_with fail
 obtain ⟨D1, D2, D3⟩ := num_done (bb := nz) (show NumRes w1 _ _ from RR) HB1.out (by omega) HH.out.1 HH.out.2 HNZ.out.symm
 have HD1 := Lib.hid D1; have HD2 := Lib.hid D2; have HD3 := Lib.hid D3
 clear D1 D2 D3 k0 k1 k2 f0 f1 f2 RR
 generalize (((w1.setCell ⟨w.heap.size + 1 + 1, 0, none⟩ (.bool (nz))).setCell ⟨w.heap.size + 1 + 1, 1, none⟩ (.slice A8 l8 c8)).setCell ⟨w.heap.size + 1 + 1, 2, none⟩ (.slice A9 l9 c9)) = wz at HD1 HD2 HD3 ⊢
 have r0 := HD1.out.c0; have r1 := HD1.out.c1; have r2 := HD1.out.c2
 exact bodyPost_ret (v := .tuple #[.agg #[.bool (nz), .slice A8 l8 c8, .slice A9 l9 c9], .int .i64 0]) (by simp [results, Try.results42, go_sem, r0, r1, r2]) rfl ⟨_, rfl, HD2.out, HBW.out.trans (HD3.out.mono HBW.out.size), HD3.out⟩
set_option maxRecDepth 100000 in
set_option maxHeartbeats 600000 in
theorem reckonAdd_fit (w : World) (q r z : Rat) (k : Nat) (hq : Fit q) (hr : Fit r) (hz : Fit z) (sz : Sm k z) (hk : k ≤ 10000000)
  (hF : ∀ b W v u, NumIn W v q → NumIn W u r → Below b.heap.size b W → Calls Try.prog 42 #[v, u] W (NumE b W z)) :
  Calls Try.prog 41 #[.func (.func 42) #[] #[], .agg #[.bool (Big.ng q), .string (bst (Big.nu q)), .string (bst (Big.de q))], .agg #[.bool (Big.ng r), .string (bst (Big.nu r)), .string (bst (Big.de r))]] w (Ret2 w (fracV z) 0) := by
 have HRD := Lib.hid (fun W g (h : AtL W g 27 #[.bool (Big.ng q), .string (bst (Big.nu q)), .string (bst (Big.de q)), .bool (Big.ng r), .string (bst (Big.nu r)), .string (bst (Big.de r))]) => read2_any W g q r h hq hr)
 have HF := Lib.hid hF
 have CA := Lib.hid (fun W v (h : NumIn W v z) => answer_fit W v z k h sz hk hz)
 obtain ⟨X0, Y0, R0, B0⟩ := boxed3 w 27 27 (.bool (Big.ng q)) (.string (bst (Big.nu q))) (.string (bst (Big.de q))) (.bool (Big.ng r)) (.string (bst (Big.nu r))) (.string (bst (Big.de r))) (.bool false) (.string ⟨#[]⟩) (.string ⟨#[]⟩)
 have HR0 := Lib.hid R0; have HB0 := Lib.hid B0
 have x0 := X0.c0; have x1 := X0.c1; have x2 := X0.c2
 have y0 := Y0.c0; have y1 := Y0.c1; have y2 := Y0.c2
 clear hF hz sz hq hr X0 Y0 R0 B0
 go_enter Try.func41, Try.ntmps41
 go_wp2_with fail
 have hs : (((w.alloc (.cells #[.bool (Big.ng q), .string (bst (Big.nu q)), .string (bst (Big.de q))] 27)).alloc (.cells #[.bool (Big.ng r), .string (bst (Big.nu r)), .string (bst (Big.de r))] 27)).alloc (.cells #[.bool false, .string ⟨#[]⟩, .string ⟨#[]⟩] 27)).heap.size = w.heap.size + 1 + 1 + 1 := by rw [alloc_size, alloc_size, alloc_size]
 generalize ((w.alloc (.cells #[.bool (Big.ng q), .string (bst (Big.nu q)), .string (bst (Big.de q))] 27)).alloc (.cells #[.bool (Big.ng r), .string (bst (Big.nu r)), .string (bst (Big.de r))] 27)).alloc (.cells #[.bool false, .string ⟨#[]⟩, .string ⟨#[]⟩] 27) = w0 at *
 have HN := AtL.new w0 27 #[.bool (Big.ng q), .string (bst (Big.nu q)), .string (bst (Big.de q)), .bool (Big.ng r), .string (bst (Big.nu r)), .string (bst (Big.de r))]
 rw [hs] at HN
 have HN := Lib.hid HN
 clear hs
 have HB1 := Lib.hid (below_alloc HB0.out (Nat.le_refl _) (.cells #[.bool (Big.ng q), .string (bst (Big.nu q)), .string (bst (Big.de q)), .bool (Big.ng r), .string (bst (Big.nu r)), .string (bst (Big.de r))] 27))
 have HR1 := Lib.hid (HR0.out.alloc' (.cells #[.bool (Big.ng q), .string (bst (Big.nu q)), .string (bst (Big.de q)), .bool (Big.ng r), .string (bst (Big.nu r)), .string (bst (Big.de r))] 27))
 refine (HRD.out _ _ HN.out).mono ?_
 generalize w0.alloc (.cells #[.bool (Big.ng q), .string (bst (Big.nu q)), .string (bst (Big.de q)), .bool (Big.ng r), .string (bst (Big.nu r)), .string (bst (Big.de r))] 27) = wa at *
 rintro e w1 ⟨v1, rfl, ⟨g, a, b, c, d, rfl, hat, hnq, hnr⟩, hw1⟩
 have HB2 := Lib.hid (HB1.out.trans (hw1.mono HB1.out.size))
 have HR2 := Lib.hid (HR1.out.keep hw1)
 obtain ⟨A, l, cc, B, m, dd, e1, -, -⟩ := hnq.is_agg
 obtain ⟨A2, l2, cc2, B2, m2, dd2, e2, -, -⟩ := hnr.is_agg
 simp only [Value.agg.injEq] at e1 e2
 have e1a : a = .slice A l cc := by have := congrArg (fun z : Array Value => z[1]?) e1; simpa using this
 have e1b : b = .slice B m dd := by have := congrArg (fun z : Array Value => z[2]?) e1; simpa using this
 have e2a : c = .slice A2 l2 cc2 := by have := congrArg (fun z : Array Value => z[1]?) e2; simpa using this
 have e2b : d = .slice B2 m2 dd2 := by have := congrArg (fun z : Array Value => z[2]?) e2; simpa using this
 subst e1a e1b e2a e2b
 have KX := Lib.hid (fun W (h : Below w1.heap.size w1 W) => And.intro ((hat.keep h).cell 0 rfl) (And.intro ((hat.keep h).cell 1 rfl) (And.intro ((hat.keep h).cell 2 rfl) (And.intro ((hat.keep h).cell 3 rfl) (And.intro ((hat.keep h).cell 4 rfl) ((hat.keep h).cell 5 rfl))))))
 have hgl := hat.lt
 have KQ := Lib.hid (fun W x y z' (h : Below w1.heap.size w1 W) (_ : g < w1.heap.size) => And.intro (put_cell (g := w1.heap.size) (KX.out W h).1 (by omega) x y z') (And.intro (put_cell (g := w1.heap.size) (KX.out W h).2.1 (by omega) x y z') (And.intro (put_cell (g := w1.heap.size) (KX.out W h).2.2.1 (by omega) x y z') (And.intro (put_cell (g := w1.heap.size) (KX.out W h).2.2.2.1 (by omega) x y z') (And.intro (put_cell (g := w1.heap.size) (KX.out W h).2.2.2.2.1 (by omega) x y z') (put_cell (g := w1.heap.size) (KX.out W h).2.2.2.2.2 (by omega) x y z'))))))
 have CF := Lib.hid (fun W (h : Below w1.heap.size w1 W) => HF.out w1 W _ _ (hnq.keep h) (hnr.keep h) h)
 clear e1 e2 hat hnq hnr hw1 HB1 HR1 HN HRD x0 x1 x2 y0 y1 y2
 go_wp2_with fail
 go_region_held3 (fun w' => w'.cell? ⟨g, 0, none⟩ = some (.bool (Big.ng q)) ∧ w'.cell? ⟨g, 1, none⟩ = some (.slice A l cc) ∧ w'.cell? ⟨g, 2, none⟩ = some (.slice B m dd) ∧ w'.cell? ⟨g, 3, none⟩ = some (.bool (Big.ng r)) ∧ w'.cell? ⟨g, 4, none⟩ = some (.slice A2 l2 cc2) ∧ w'.cell? ⟨g, 5, none⟩ = some (.slice B2 m2 dd2))
  (first | exact KX.out _ (by first | assumption | exact Below.refl _ _ | exact below_drew (Below.refl _ _) | exact below_drew (by assumption) | exact below_drew (below_alloc (Below.refl _ _) (Nat.le_refl _) _) | exact below_alloc (by assumption) (Nat.le_refl _) _ | exact below_alloc (Below.refl _ _) (Nat.le_refl _) _) | exact KX.out _ (below_alloc (by first | assumption | exact Below.refl _ _ | exact below_drew (Below.refl _ _) | exact below_drew (by assumption)) (Nat.le_refl _) _) | exact KQ.out _ _ _ _ (by assumption) hgl)
  (first
   | (go_at_call 42; (with_reducible refine (CF.out _ (by first | assumption | exact Below.refl _ _ | exact below_drew (Below.refl _ _) | exact below_drew (by assumption) | exact below_drew (below_alloc (Below.refl _ _) (Nat.le_refl _) _) | exact below_alloc (by assumption) (Nat.le_refl _) _ | exact below_alloc (Below.refl _ _) (Nat.le_refl _) _)).mono ?_); rintro e w3 ⟨v3, rfl, hv3, hw3, hw3'⟩; obtain ⟨A3, l3, c3, B3, m3, d3, rfl, hq3, hr3⟩ := hv3.is_agg; have hlt3 := hw3.size; try (have R3 := At3.keep (show At3 ((w1.alloc (.cells #[.bool false, .slice none 0 0, .slice none 0 0] 70)).drew) w1.heap.size 70 (.bool false) (.slice none 0 0) (.slice none 0 0) from At3.new w1 _ _ _ _) hw3'; have k0 := R3.c0; have k1 := R3.c1; have k2 := R3.c2; have f0 := R3.frozen 0; have f1 := R3.frozen 1; have f2 := R3.frozen 2))
   | fail)
 all_goals
  have HB3 := HB2.out.trans (hw3.mono HB2.out.size)
  have RW3 := HR2.out.keep hw3
  have hne : w.heap.size + 1 + 1 ≠ w1.heap.size := by have := HR2.out.lt; omega
  have hge : w.heap.size ≤ w1.heap.size := by have := HR2.out.lt; omega
  have HFR := Lib.hid (And.intro HB3 (And.intro RW3 (And.intro hne hge)))
  clear HB3 RW3 hne hge
  go_wp2_with fail
  refine (CA.out _ _ ?_).mono ?_
  ·first
    | exact hv3.keep (box1_below _ _)
    | exact hv3.only (NumRes.no_int (show NumRes w3 _ _ from R3)) (put_only _ _ _ _ _)
  rintro e w4 ⟨rfl, hw4⟩
  have R4 : At3 w4 (w.heap.size + 1 + 1) 27 (.bool false) (.string ⟨#[]⟩) (.string ⟨#[]⟩) := by
   first
    | exact (HFR.out.2.1.alloc' _).keep hw4
    | exact (((HFR.out.2.1.far HFR.out.2.2.1 _).far HFR.out.2.2.1 _).far HFR.out.2.2.1 _).keep hw4
  have B4 : Below w.heap.size w w4 := by
   first
    | exact (below_alloc HFR.out.1 (Nat.le_refl _) _).trans (hw4.mono (below_alloc HFR.out.1 (Nat.le_refl _) _).size)
    | exact (put_below HFR.out.1 HFR.out.2.2.2 _ _ _).trans (hw4.mono (put_below HFR.out.1 HFR.out.2.2.2 _ _ _).size)
  unfold fracV
  clear hw4 HFR hv3 hw3 hw3' hq3 hr3 hlt3
  try clear R3 k0 k1 k2 f0 f1 f2
  have HD := Lib.hid (At3.put R4 (.bool (Big.ng z)) (.string (bst (Big.nu z))) (.string (bst (Big.de z))))
  have HE := Lib.hid (put_below B4 (show w.heap.size ≤ w.heap.size + 1 + 1 by omega) (.bool (Big.ng z)) (.string (bst (Big.nu z))) (.string (bst (Big.de z))))
  have k0 := R4.c0; have k1 := R4.c1; have k2 := R4.c2; have f0 := R4.frozen 0; have f1 := R4.frozen 1; have f2 := R4.frozen 2
  clear R4 B4
  go_wp2_with fail
  generalize (((w4.setCell ⟨w.heap.size + 1 + 1, 0, none⟩ (.bool (Big.ng z))).setCell ⟨w.heap.size + 1 + 1, 1, none⟩ (.string (bst (Big.nu z)))).setCell ⟨w.heap.size + 1 + 1, 2, none⟩ (.string (bst (Big.de z)))) = wz at HD HE ⊢
  clear k0 k1 k2 f0 f1 f2
  have r0 := HD.out.c0; have r1 := HD.out.c1; have r2 := HD.out.c2
  exact bodyPost_ret (v := .tuple #[.agg #[.bool (Big.ng z), .string (bst (Big.nu z)), .string (bst (Big.de z))], .int .i64 0]) (by simp [results, Try.results41, go_sem, r0, r1, r2]) rfl ⟨rfl, HE.out⟩
set_option maxRecDepth 100000 in
set_option maxHeartbeats 4000000 in
theorem raAdd_fit (w : World) (q r : Rat) (hq : Fit q) (hr : Fit r) (hz : Fit (q + r)) :
  Calls Try.prog 16 #[.agg #[.bool (Big.ng q), .string (bst (Big.nu q)), .string (bst (Big.de q))], .agg #[.bool (Big.ng r), .string (bst (Big.nu r)), .string (bst (Big.de r))]] w (Ret2 w (fracV (q + r)) 0) := by
 have sz : Sm (2 * 64 + 2 * 64 + 1) (q + r) := (hq.sm.add hr.sm)
 have C := Lib.hid (fun W => reckonAdd_fit W q r (q + r) _ hq hr hz sz (by omega) (fun b W' v u h i hb => Add1_any b W' v u q r h i hq.sm hr.sm hb))
 obtain ⟨X0, Y0, R0, B0⟩ := boxed3 w 27 27 (.bool (Big.ng q)) (.string (bst (Big.nu q))) (.string (bst (Big.de q))) (.bool (Big.ng r)) (.string (bst (Big.nu r))) (.string (bst (Big.de r))) (.bool false) (.string ⟨#[]⟩) (.string ⟨#[]⟩)
 have HR0 := Lib.hid R0; have HB0 := Lib.hid B0
 clear X0 Y0 R0 B0 hq hr hz sz
 obtain ⟨Z, hZ⟩ : ∃ Z, q + r = Z := ⟨_, rfl⟩
 rw [hZ] at C ⊢
 clear hZ
 go_enter Try.func16, Try.ntmps16
 go_wp2_with fail
 refine (C.out _).mono ?_
 generalize ((w.alloc (.cells #[.bool (Big.ng q), .string (bst (Big.nu q)), .string (bst (Big.de q))] 27)).alloc (.cells #[.bool (Big.ng r), .string (bst (Big.nu r)), .string (bst (Big.de r))] 27)).alloc (.cells #[.bool false, .string ⟨#[]⟩, .string ⟨#[]⟩] 27) = w0 at *
 rintro e w4 ⟨rfl, hw4⟩
 unfold fracV
 have R4 := HR0.out.keep hw4
 have HD := Lib.hid (At3.put R4 (.bool (Big.ng Z)) (.string (bst (Big.nu Z))) (.string (bst (Big.de Z))))
 have HE := Lib.hid (put_below (HB0.out.trans (hw4.mono HB0.out.size)) (show w.heap.size ≤ w.heap.size + 1 + 1 by omega) (.bool (Big.ng Z)) (.string (bst (Big.nu Z))) (.string (bst (Big.de Z))))
 have k0 := R4.c0; have k1 := R4.c1; have k2 := R4.c2; have f0 := R4.frozen 0; have f1 := R4.frozen 1; have f2 := R4.frozen 2
 clear R4 hw4 HR0 HB0 C
 go_wp2_with fail
 generalize (((w4.setCell ⟨w.heap.size + 1 + 1, 0, none⟩ (.bool (Big.ng Z))).setCell ⟨w.heap.size + 1 + 1, 1, none⟩ (.string (bst (Big.nu Z)))).setCell ⟨w.heap.size + 1 + 1, 2, none⟩ (.string (bst (Big.de Z)))) = wz at HD HE ⊢
 clear k0 k1 k2 f0 f1 f2
 have r0 := HD.out.c0; have r1 := HD.out.c1; have r2 := HD.out.c2
 exact bodyPost_ret (v := .tuple #[.agg #[.bool (Big.ng Z), .string (bst (Big.nu Z)), .string (bst (Big.de Z))], .int .i64 0]) (by simp [results, Try.results16, go_sem, r0, r1, r2]) rfl ⟨rfl, HE.out⟩
theorem cmpB {P : Program} {f : FuncId} {args : Array Value} {b W : World} {v : Value} (h : Below b.heap.size b W) (c : Calls P f args W fun e w' => e = .returned v ∧ Below W.heap.size W w') :
  Calls P f args W fun e w' => e = .returned v ∧ Below b.heap.size b w' :=
 c.mono fun _ _ ⟨h1, h2⟩ => ⟨h1, h.trans (h2.mono h.size)⟩
set_option maxRecDepth 100000 in
set_option maxHeartbeats 4000000 in
theorem raCmp_any (w : World) (q r : Rat) (hq : Fit q) (hr : Fit r) :
  Calls Try.prog 15 #[.agg #[.bool (Big.ng q), .string (bst (Big.nu q)), .string (bst (Big.de q))], .agg #[.bool (Big.ng r), .string (bst (Big.nu r)), .string (bst (Big.de r))]] w (Ret2 w (.int .i64 (Big.cmpQ q r)) 0) := by
 have HRD := Lib.hid (fun W g (h : AtL W g 27 #[.bool (Big.ng q), .string (bst (Big.nu q)), .string (bst (Big.de q)), .bool (Big.ng r), .string (bst (Big.nu r)), .string (bst (Big.de r))]) => read2_any W g q r h hq hr)
 have CC := Lib.hid (fun b W v u (h : NumIn W v q) (i : NumIn W u r) (hb : Below b.heap.size b W) => cmpB hb (exCmp_any W v u q r 64 h i hq.sm hr.sm (by omega)))
 have HB1 := Lib.hid (below_alloc (below_alloc (box1_below w (.cells #[.bool (Big.ng q), .string (bst (Big.nu q)), .string (bst (Big.de q))] 27)) (Nat.le_refl _) (.cells #[.bool (Big.ng r), .string (bst (Big.nu r)), .string (bst (Big.de r))] 27)) (Nat.le_refl _) (.cells #[.bool (Big.ng q), .string (bst (Big.nu q)), .string (bst (Big.de q)), .bool (Big.ng r), .string (bst (Big.nu r)), .string (bst (Big.de r))] 27))
 have HN1 := AtL.new ((w.alloc (.cells #[.bool (Big.ng q), .string (bst (Big.nu q)), .string (bst (Big.de q))] 27)).alloc (.cells #[.bool (Big.ng r), .string (bst (Big.nu r)), .string (bst (Big.de r))] 27)) 27 #[.bool (Big.ng q), .string (bst (Big.nu q)), .string (bst (Big.de q)), .bool (Big.ng r), .string (bst (Big.nu r)), .string (bst (Big.de r))]
 rw [alloc_size, alloc_size] at HN1
 have HN1 := Lib.hid HN1
 clear hq hr
 obtain ⟨Z, hZ⟩ : ∃ Z, Big.cmpQ q r = Z := ⟨_, rfl⟩
 rw [hZ] at CC ⊢
 clear hZ
 go_enter Try.func15, Try.ntmps15
 go_wp2_with fail
 refine (HRD.out _ _ HN1.out).mono ?_
 generalize ((w.alloc (.cells #[.bool (Big.ng q), .string (bst (Big.nu q)), .string (bst (Big.de q))] 27)).alloc (.cells #[.bool (Big.ng r), .string (bst (Big.nu r)), .string (bst (Big.de r))] 27)).alloc (.cells #[.bool (Big.ng q), .string (bst (Big.nu q)), .string (bst (Big.de q)), .bool (Big.ng r), .string (bst (Big.nu r)), .string (bst (Big.de r))] 27) = wa at *
 rintro e w1 ⟨v1, rfl, ⟨g, a, b, c, d, rfl, hat, hnq, hnr⟩, hw1⟩
 have HB2 := Lib.hid (HB1.out.trans (hw1.mono HB1.out.size))
 obtain ⟨A, l, cc, B, m, dd, e1, -, -⟩ := hnq.is_agg
 obtain ⟨A2, l2, cc2, B2, m2, dd2, e2, -, -⟩ := hnr.is_agg
 simp only [Value.agg.injEq] at e1 e2
 have e1a : a = .slice A l cc := by have := congrArg (fun z : Array Value => z[1]?) e1; simpa using this
 have e1b : b = .slice B m dd := by have := congrArg (fun z : Array Value => z[2]?) e1; simpa using this
 have e2a : c = .slice A2 l2 cc2 := by have := congrArg (fun z : Array Value => z[1]?) e2; simpa using this
 have e2b : d = .slice B2 m2 dd2 := by have := congrArg (fun z : Array Value => z[2]?) e2; simpa using this
 subst e1a e1b e2a e2b
 have KX := Lib.hid (fun W (h : Below w1.heap.size w1 W) => And.intro ((hat.keep h).cell 0 rfl) (And.intro ((hat.keep h).cell 1 rfl) (And.intro ((hat.keep h).cell 2 rfl) (And.intro ((hat.keep h).cell 3 rfl) (And.intro ((hat.keep h).cell 4 rfl) ((hat.keep h).cell 5 rfl))))))
 have CF := Lib.hid (fun W (h : Below w1.heap.size w1 W) => CC.out w1 W _ _ (hnq.keep h) (hnr.keep h) h)
 clear e1 e2 hat hnq hnr hw1 HB1 HN1 HRD CC
 go_wp2_with fail
 go_region_held3 (fun w' => w'.cell? ⟨g, 0, none⟩ = some (.bool (Big.ng q)) ∧ w'.cell? ⟨g, 1, none⟩ = some (.slice A l cc) ∧ w'.cell? ⟨g, 2, none⟩ = some (.slice B m dd) ∧ w'.cell? ⟨g, 3, none⟩ = some (.bool (Big.ng r)) ∧ w'.cell? ⟨g, 4, none⟩ = some (.slice A2 l2 cc2) ∧ w'.cell? ⟨g, 5, none⟩ = some (.slice B2 m2 dd2))
  (exact KX.out _ (by first | assumption | exact Below.refl _ _ | exact below_drew (Below.refl _ _) | exact below_drew (by assumption)))
  (first
   | (go_at_call 37; (with_reducible refine (CF.out _ (by first | assumption | exact Below.refl _ _ | exact below_drew (Below.refl _ _) | exact below_drew (by assumption))).mono ?_); rintro e w3 ⟨rfl, hw3⟩)
   | fail)
 have HB3 := Lib.hid (HB2.out.trans (hw3.mono HB2.out.size))
 clear hw3
 go_wp2_with fail
 go_ret2
 exact ⟨rfl, HB3.out⟩
set_option maxRecDepth 100000 in
set_option maxHeartbeats 4000000 in
theorem raSign_any (w : World) (q : Rat) (hq : Fit q) :
  Calls Try.prog 17 #[.agg #[.bool (Big.ng q), .string (bst (Big.nu q)), .string (bst (Big.de q))]] w fun e w' => e = .returned (.int .i64 (sgQ q)) ∧ Below w.heap.size w w' := by
 have HRD := Lib.hid (fun W g (h : AtL W g 27 #[.bool (Big.ng q), .string (bst (Big.nu q)), .string (bst (Big.de q))]) => read1_any W g q h hq)
 have HB1 := Lib.hid (below_alloc (box1_below w (.cells #[.bool (Big.ng q), .string (bst (Big.nu q)), .string (bst (Big.de q))] 27)) (Nat.le_refl _) (.cells #[.bool (Big.ng q), .string (bst (Big.nu q)), .string (bst (Big.de q))] 27))
 have HN1 := AtL.new (w.alloc (.cells #[.bool (Big.ng q), .string (bst (Big.nu q)), .string (bst (Big.de q))] 27)) 27 #[.bool (Big.ng q), .string (bst (Big.nu q)), .string (bst (Big.de q))]
 rw [alloc_size] at HN1
 have HN1 := Lib.hid HN1
 clear hq
 go_enter Try.func17, Try.ntmps17
 go_wp2_with fail
 refine (HRD.out _ _ HN1.out).mono ?_
 generalize (w.alloc (.cells #[.bool (Big.ng q), .string (bst (Big.nu q)), .string (bst (Big.de q))] 27)).alloc (.cells #[.bool (Big.ng q), .string (bst (Big.nu q)), .string (bst (Big.de q))] 27) = wa at *
 rintro e w1 ⟨v1, rfl, ⟨g, a, b, rfl, hat, hnq⟩, hw1⟩
 have HB2 := Lib.hid (HB1.out.trans (hw1.mono HB1.out.size))
 obtain ⟨A, l, cc, B, m, dd, e1, -, -⟩ := hnq.is_agg
 simp only [Value.agg.injEq] at e1
 have e1a : a = .slice A l cc := by have := congrArg (fun z : Array Value => z[1]?) e1; simpa using this
 have e1b : b = .slice B m dd := by have := congrArg (fun z : Array Value => z[2]?) e1; simpa using this
 subst e1a e1b
 have HAT := Lib.hid hat; have HNQ := Lib.hid hnq
 clear e1 hat hnq hw1 HB1 HN1 HRD
 have c0 := HAT.out.cell 0 rfl; have c1 := HAT.out.cell 1 rfl; have c2 := HAT.out.cell 2 rfl
 go_wp2_with fail
 refine (exSign_any _ _ q HNQ.out).mono ?_
 rintro e w2 ⟨rfl, hw2⟩
 have HB3 := Lib.hid (HB2.out.trans (hw2.mono HB2.out.size))
 clear hw2 c0 c1 c2
 go_wp2_with fail
 go_ret
 exact ⟨rfl, HB3.out⟩
end Go.Proofs.Ytnlhjcfpfapafaa
