/- Contracts. -/
import Derived.Test.YtnlhjcfpfapafaaSSq24
import Derived.Laws.Small
namespace Go.Proofs.Ytnlhjcfpfapafaa
open Go Go.RowKit
namespace Ev
set_option maxRecDepth 100000
noncomputable def opqHead (vs : List Value) : Bool := match vs with
 | v :: _ => isOpq v
 | [] => false
noncomputable def bltH (B : List Ix) (c : Call) (vs : List Value) : M Sy Nxt := match c.callee with
 | .builtin b => match c.argTypes[0]? with
  | some t => match b with
   | .len => match oneM vs with
    | some v => match chanOf v with
     | some m => match sliceT Try.prog t with
      | some _ => oLn B m
      | none => fail
     | none => fail
    | none => fail
   | .append => match twoM vs with
    | some y => match chanOf y.1 with
     | some m => match c.argTypes[1]? with
      | some tx => oAp B t tx m y.2
      | none => fail
     | none => fail
    | none => fail
   | _ => fail
  | none => fail
 | _ => fail
theorem loc_bltH (B : List Ix) (c : Call) (vs : List Value) : Loc (bltH B c vs) := by
 unfold bltH
 (repeat' split) <;> first | exact loc_fail | exact loc_oLn _ _ | exact loc_oAp _ _ _ _ _
noncomputable def mmB (c : Call) : Option Nat := match c.callee with
 | .builtin b => match b with
  | .min => some 2
  | .max => some 3
  | _ => none
 | _ => none
noncomputable def mmH (B : List Ix) (k : Nat) (vs : List Value) : M Sy Nxt := match twoM vs with
 | some y => bind (ixV y.1) fun p => bind (ixV y.2) fun q => biH B k p q
 | none => fail
theorem loc_mmH (B : List Ix) (k : Nat) (vs : List Value) : Loc (mmH B k vs) := by
 unfold mmH
 split
 ·exact loc_bind (loc_ixV _) fun _ => loc_bind (loc_ixV _) fun _ => loc_biH _ _ _ _
 ·exact loc_fail
noncomputable def lsHard (kp : Bool) (A : List As) (B : List Ix) (G : Oper → List Value → M Sy Nxt) (o : Oper) (vs : List Value) : M Sy Nxt := match o.op with
 | .load t _ => match oneM vs with
  | some v => match chanOf v with
   | some i => oLd B t i
   | none => fail
  | none => fail
 | .store t _ _ => match twoM vs with
  | some y => match chanOf y.1 with
   | some i => oSt B t i y.2
   | none => fail
  | none => fail
 | .indexAddr t _ _ => match twoM vs with
  | some y => match chanOf y.1 with
   | some m => bind (ixV y.2) fun p => oIxA B t p m
   | none => fail
  | none => fail
 | .makeSlice t _ _ => match twoM vs with
  | some y => bind (ixV y.1) fun p => bind (ixV y.2) fun q => oMk B t p q
  | none => fail
 | .convert s t _ => match oneM vs with
  | some v => cvH s t v
  | none => fail
 | .slice t _ lo hi mx => cond (opqHead vs) (cond (lo.isNone && (hi.isSome && mx.isNone)) (match twoM vs with
  | some y => shH B kp t y.1 y.2
  | none => fail) (cond (lo.isSome && (hi.isNone && mx.isNone)) (match twoM vs with
  | some y => tlH B t y.1 y.2
  | none => fail) fail)) (G o vs)
 | .binOp op _ _ _ _ => match twoM vs with
  | some y => cond (isOpq y.1 || isOpq y.2) (binH A B op y.1 y.2) (G o vs)
  | none => fail
 | .call c => match mmB c with
  | some k => mmH B k vs
  | none => cond (opqHead vs) (bltH B c vs) (G o vs)
 | _ => G o vs
theorem loc_lsHard {G : Oper → List Value → M Sy Nxt} (hG : ∀ o vs, Loc (G o vs)) (kp : Bool) (A : List As) (B : List Ix) (o : Oper) (vs : List Value) : Loc (lsHard kp A B G o vs) := by
 unfold lsHard
 (repeat' split) <;> first
  | exact loc_fail
  | exact loc_oLd _ _ _
  | exact loc_oSt _ _ _ _
  | exact loc_bind (loc_ixV _) fun _ => loc_oIxA _ _ _ _
  | exact loc_bind (loc_ixV _) fun _ => loc_bind (loc_ixV _) fun _ => loc_oMk _ _ _ _
  | exact loc_cvH _ _ _
  | exact loc_cond (loc_cond (loc_shH _ _ _ _ _) (loc_cond (loc_tlH _ _ _ _) loc_fail)) (hG _ _)
  | exact loc_cond (loc_cond loc_fail (loc_cond loc_fail loc_fail)) (hG _ _)
  | exact loc_cond (loc_binH _ _ _ _ _) (hG _ _)
  | exact loc_mmH _ _ _
  | exact loc_cond (loc_bltH _ _ _) (hG _ _)
  | exact hG _ _
section
variable {ρ : Env} {A : List As} {B : List Ix}
theorem lsHard_ok (hA : AllH ρ A) (hB : AllX ρ B) {G : Oper → List Value → M Sy Nxt} {C : Cfg Sy} (hG : HardOK (symSig ρ) Try.prog { C with hard := G }) {kp : Bool} (hC : C.hard = lsHard kp A B G) : HardOK (symSig ρ) Try.prog C := by
 intro o vs h nx x h' nx' R W hs e r w ρo hM hN hv
 rw [hC] at e
 unfold lsHard at e
 have back : G o vs h nx = .ok x h' nx' R W → nx ≤ nx' ∧ After (symSig ρ) Try.prog ((execOp ρo o).run Try.prog w) r w nx nx' W h'.get x := fun e2 => hG o vs h nx x h' nx' R W hs e2 r w ρo hM hN hv
 cases hop : o.op with
 | load t y =>
  rw [hop] at e
  simp only at e
  have hops : o.op.operands.toList.map ρo = [ρo y] := by rw [hop]; rfl
  rw [hops] at hv
  rcases vs with _ | ⟨u, _ | ⟨z, l⟩⟩ <;> first | (cases (show (fail : M Sy Nxt) h nx = _ from e); done) | skip
  simp only [oneM] at e
  cases hv with
  | cons hu hv =>
   cases hc : chanOf u with
   | none => rw [hc] at e; cases (show (fail : M Sy Nxt) h nx = _ from e)
   | some i =>
    rw [hc] at e
    obtain ⟨hle, v, u2, ad, r', rfl, hp, hl, hvr, hX⟩ := oLd_ok hB e (vr_chanV hc hu) hM hN
    refine ⟨hle, u2, w, r', ?_, hvr, hX⟩
    simp only [execOp, hop, hp, Instr.loadAt, Instr.sureAddr, Sem.run_bind, Sem.run_pure, Result.andThen_ok, hl]
 | store t y z =>
  rw [hop] at e
  simp only at e
  have hops : o.op.operands.toList.map ρo = [ρo y, ρo z] := by rw [hop]; rfl
  rw [hops] at hv
  rcases vs with _ | ⟨u, _ | ⟨z1, _ | ⟨z2, l⟩⟩⟩ <;> first | (cases (show (fail : M Sy Nxt) h nx = _ from e); done) | skip
  simp only [twoM] at e
  cases hv with
  | cons hu hv => cases hv with
   | cons hz hv =>
    cases hc : chanOf u with
    | none => rw [hc] at e; cases (show (fail : M Sy Nxt) h nx = _ from e)
    | some i =>
     rw [hc] at e
     obtain ⟨rfl, rfl, ad, w', hp, hl, hX⟩ := oSt_ok hB e (vr_chanV hc hu) hz hM
     refine ⟨Nat.le_refl _, w', r, ?_, hX⟩
     simp only [execOp, hop, hp, Instr.storeAt, Instr.sureAddr, Sem.run_bind, Sem.run_pure, Result.andThen_ok, hl]
 | indexAddr t y i =>
  rw [hop] at e
  simp only at e
  have hops : o.op.operands.toList.map ρo = [ρo y, ρo i] := by rw [hop]; rfl
  rw [hops] at hv
  rcases vs with _ | ⟨u, _ | ⟨z1, _ | ⟨z2, l⟩⟩⟩ <;> first | (cases (show (fail : M Sy Nxt) h nx = _ from e); done) | skip
  simp only [twoM] at e
  cases hv with
  | cons hu hv => cases hv with
   | cons hz hv =>
    cases hc : chanOf u with
    | none => rw [hc] at e; cases (show (fail : M Sy Nxt) h nx = _ from e)
    | some m =>
     rw [hc] at e
     obtain ⟨p, h1, nx1, R1, W1, R2, W2, e1, e2, rfl, rfl⟩ := bind_ok e
     obtain ⟨rfl, rfl, rfl, hp⟩ := ixV_ok e1 hz hM
     obtain ⟨hle, v, u2, r', rfl, hl, hvr, hX⟩ := oIxA_ok hB e2 (vr_chanV hc hu) hM hN
     refine ⟨hle, u2, w, r', ?_, hvr, by simpa using hX⟩
     simp only [execOp, hop, hp, Sem.run_bind, hl, Result.andThen_ok, Sem.run_pure]
 | makeSlice t y i =>
  rw [hop] at e
  simp only at e
  have hops : o.op.operands.toList.map ρo = [ρo y, ρo i] := by rw [hop]; rfl
  rw [hops] at hv
  rcases vs with _ | ⟨u, _ | ⟨z1, _ | ⟨z2, l⟩⟩⟩ <;> first | (cases (show (fail : M Sy Nxt) h nx = _ from e); done) | skip
  simp only [twoM] at e
  cases hv with
  | cons hu hv => cases hv with
   | cons hz hv =>
    obtain ⟨p, h1, nx1, R1, W1, R2, W2, e1, e2, rfl, rfl⟩ := bind_ok e
    obtain ⟨rfl, rfl, rfl, hp⟩ := ixV_ok e1 hu hM
    obtain ⟨q, h3, nx3, R3, W3, R4, W4, e3, e4, rfl, rfl⟩ := bind_ok e2
    obtain ⟨rfl, rfl, rfl, hq⟩ := ixV_ok e3 hz hM
    obtain ⟨hle, v, u2, r', w', rfl, hl, hvr, hX⟩ := oMk_ok hB e4 hM hN
    refine ⟨hle, u2, w', r', ?_, hvr, by simpa using hX⟩
    simp only [execOp, hop, hp, hq, Sem.run_bind, hl, Result.andThen_ok, Sem.run_pure]
 | convert s t y =>
  rw [hop] at e
  simp only at e
  have hops : o.op.operands.toList.map ρo = [ρo y] := by rw [hop]; rfl
  rw [hops] at hv
  rcases vs with _ | ⟨u, _ | ⟨z, l⟩⟩ <;> first | (cases (show (fail : M Sy Nxt) h nx = _ from e); done) | skip
  simp only [oneM] at e
  cases hv with
  | cons hu hv =>
   obtain ⟨hle, v, u2, r', rfl, hl, hvr, hX⟩ := cvH_ok e hu hM hN
   refine ⟨hle, u2, w, r', ?_, hvr, hX⟩
   simp only [execOp, hop, Sem.run_bind, hl, Result.andThen_ok, Sem.run_pure]
 | slice t y lo hi mx =>
  rw [hop] at e
  simp only at e
  rcases condH e with e1 | e1
  ·rcases condB e1 with ⟨hk, e2⟩ | ⟨_, e1⟩
   case inr =>
    obtain ⟨hk, e2⟩ := cond_ok e1
    simp only [Bool.and_eq_true, Option.isNone_iff_eq_none] at hk
    obtain ⟨hk2, rfl, rfl⟩ := hk
    obtain ⟨b, rfl⟩ := Option.isSome_iff_exists.1 hk2
    have hops : o.op.operands.toList.map ρo = [ρo y, ρo b] := by rw [hop]; rfl
    rw [hops] at hv
    rcases vs with _ | ⟨u, _ | ⟨z1, _ | ⟨z2, l⟩⟩⟩ <;> first | (cases (show (fail : M Sy Nxt) h nx = _ from e2); done) | skip
    simp only [twoM] at e2
    cases hv with
    | cons hu hv => cases hv with
     | cons hz hv =>
      obtain ⟨hle, v, u2, r', rfl, hl, hvr, hX⟩ := tlH_ok hB e2 hu hz hM hN
      refine ⟨hle, u2, w, r', ?_, hvr, by simpa using hX⟩
      simp only [execOp, hop, Option.map_some, Option.map_none, Sem.run_bind, hl, Result.andThen_ok, Sem.run_pure]
   simp only [Bool.and_eq_true, Option.isNone_iff_eq_none] at hk
   obtain ⟨rfl, hk2, rfl⟩ := hk
   obtain ⟨b, rfl⟩ := Option.isSome_iff_exists.1 hk2
   have hops : o.op.operands.toList.map ρo = [ρo y, ρo b] := by rw [hop]; rfl
   rw [hops] at hv
   rcases vs with _ | ⟨u, _ | ⟨z1, _ | ⟨z2, l⟩⟩⟩ <;> first | (cases (show (fail : M Sy Nxt) h nx = _ from e2); done) | skip
   simp only [twoM] at e2
   cases hv with
   | cons hu hv => cases hv with
    | cons hz hv =>
     have e0 : bind (isFc u) (fun k => cond k (hdH B t u z1) (slH B kp t u z1)) h nx = .ok x h' nx' R W := e2
     clear e2
     obtain ⟨kf, h1, nx1, R1, W1, R2, W2, e3, e2, rfl, rfl⟩ := bind_ok e0
     obtain ⟨rfl, rfl, rfl⟩ := isFc_ok e3
     rcases condB e2 with ⟨_, e2⟩ | ⟨_, e2⟩
     case inl =>
      obtain ⟨hle, v, u2, r', rfl, hl, hvr, hX⟩ := hdH_ok hB e2 hu hz hM hN
      refine ⟨hle, u2, w, r', ?_, hvr, by simpa using hX⟩
      simp only [execOp, hop, Option.map_some, Option.map_none, Sem.run_bind, hl, Result.andThen_ok, Sem.run_pure]
     unfold slH at e2
     cases hc : chanOf u with
     | none => rw [hc] at e2; cases (show (fail : M Sy Nxt) _ _ = _ from e2)
     | some m =>
      rw [hc] at e2
      obtain ⟨p, h1, nx1, R1, W1, R2, W2, e3, e4, rfl, rfl⟩ := bind_ok e2
      obtain ⟨rfl, rfl, rfl, hp⟩ := ixV_ok e3 hz hM
      obtain ⟨hle, v, u2, r', rfl, hl, hvr, hX⟩ := oSl_ok hB e4 (vr_chanV hc hu) hM hN
      refine ⟨hle, u2, w, r', ?_, hvr, by simpa using hX⟩
      simp only [execOp, hop, hp, Option.map_some, Option.map_none, Sem.run_bind, hl, Result.andThen_ok, Sem.run_pure]
  ·exact back e1
 | binOp op t p q yt =>
  rw [hop] at e
  simp only at e
  have hops : o.op.operands.toList.map ρo = [ρo p, ρo q] := by rw [hop]; rfl
  have hv0 := hv
  rw [hops] at hv
  rcases vs with _ | ⟨u, _ | ⟨z1, _ | ⟨z2, l⟩⟩⟩ <;> first | (cases (show (fail : M Sy Nxt) h nx = _ from e); done) | skip
  simp only [twoM] at e
  rcases condH e with e1 | e1
  ·cases hv with
   | cons hu hv => cases hv with
    | cons hz hv =>
     obtain ⟨f, h1, nx1, R1, W1, R2, W2, e2, e3, rfl, rfl⟩ := bind_ok (show binH A B op u z1 h nx = _ from e1)
     have hcv : VR r (cond (isOpq u) u z1) (cond (isOpq u) (ρo p) (ρo q)) := by cases isOpq u <;> assumption
     obtain ⟨rfl, rfl, rfl, hf⟩ := fact_ok e2 hcv hM
     cases f <;> first | (cases (show (fail : M Sy Nxt) _ _ = _ from e3); done) | skip
     ·obtain ⟨x1, h3, nx3, R3, W3, R4, W4, e4, e5, rfl, rfl⟩ := bind_ok (show bind (ixV u) _ _ _ = _ from e3)
      obtain ⟨rfl, rfl, rfl, hp⟩ := ixV_ok e4 hu hM
      obtain ⟨y1, h5, nx5, R5, W5, R6, W6, e6, e7, rfl, rfl⟩ := bind_ok e5
      obtain ⟨rfl, rfl, rfl, hq⟩ := ixV_ok e6 hz hM
      obtain ⟨hle, v, u2, r', rfl, hl, hvr, hX⟩ := iBin_ok hB e7 hM hN t p q
      refine ⟨hle, u2, w, r', ?_, hvr, by simpa using hX⟩
      simp only [execOp, hop, hp, hq]
      rw [Sem.run_bind, hl]
      rfl
     ·rename_i k qe
      obtain ⟨hk, e4⟩ := cond_ok (show cond (isOpq u) (izH A B op k qe z1) fail _ _ = _ from e3)
      rw [hk] at hf
      have hf2 : izIs k (qe.ev ρ.q) (ρo p) := hf
      obtain ⟨rfl, rfl, rfl, b, rfl, hpb, hl⟩ := izH_ok (w := w) hA hB e4 hf2 hz t p q
      refine ⟨Nat.le_refl _, b, w, r, ?_, .same hpb, by simpa using Ext.refl _ _ hM⟩
      simp only [execOp, hop]
      rw [Sem.run_bind, hl]
      rfl
  ·exact back e1
 | call c =>
  rw [hop] at e
  simp only at e
  cases hmm : mmB c with
  | some k =>
   rw [hmm] at e
   simp only at e
   unfold mmB at hmm
   obtain ⟨callee, args, ats⟩ := c
   unfold mmH at e
   rcases vs with _ | ⟨u, _ | ⟨z, _ | ⟨z2, l⟩⟩⟩ <;> first | (cases (show (fail : M Sy Nxt) h nx = _ from e); done) | skip
   simp only [twoM] at e
   have hops : o.op.operands.toList.map ρo = args.toList.map ρo := by
    cases callee with
    | builtin b => rw [hop]; simp [Op.operands, Call.operands]
    | _ => simp at hmm
   rw [hops] at hv
   generalize hl : args.toList.map ρo = al at hv
   cases hv with
   | cons hu hv => cases hv with
    | cons hz hn =>
     cases hn
     rename_i u' z'
     have hA : args.map ρo = #[u', z'] := by rw [map_list, hl]
     obtain ⟨p, h1, nx1, R1, W1, R2, W2, e1, e2, rfl, rfl⟩ := bind_ok e
     obtain ⟨rfl, rfl, rfl, hp⟩ := ixV_ok e1 hu hM
     obtain ⟨q, h3, nx3, R3, W3, R4, W4, e3, e4, rfl, rfl⟩ := bind_ok e2
     obtain ⟨rfl, rfl, rfl, hq⟩ := ixV_ok e3 hz hM
     obtain ⟨t, g1, g2, hle, v, r', rfl, hvr, hX⟩ := biH_ok hB e4 hM hN
     refine ⟨hle, .int .i64 t, w, r', ?_, hvr, by simpa using hX⟩
     subst hp hq
     cases callee with
     | builtin b =>
      cases b <;> simp only [reduceCtorEq, Option.some.injEq] at hmm
      ·subst hmm
       have g1' : (if atIx ρ q.1 q.2 > atIx ρ p.1 p.2 then atIx ρ q.1 q.2 else atIx ρ p.1 p.2) = t := g1
       simp only [execOp, hop, resolve, hA, Sem.run_bind, Sem.run_pure, Result.andThen_ok, invoke, builtin, run_max_int2, g1']
      ·subst hmm
       have g1' : (if atIx ρ q.1 q.2 < atIx ρ p.1 p.2 then atIx ρ q.1 q.2 else atIx ρ p.1 p.2) = t := g1
       simp only [execOp, hop, resolve, hA, Sem.run_bind, Sem.run_pure, Result.andThen_ok, invoke, builtin, run_min_int2, g1']
     | _ => simp at hmm
  | none =>
  rw [hmm] at e
  simp only at e
  rcases condH e with e1 | e1
  ·obtain ⟨callee, args, ats⟩ := c
   unfold bltH at e1
   cases callee with
   | builtin b =>
    simp only at e1
    have hops : o.op.operands.toList.map ρo = args.toList.map ρo := by rw [hop]; simp [Op.operands, Call.operands]
    rw [hops] at hv
    cases ha0 : ats[0]? with
    | none => rw [ha0] at e1; cases (show (fail : M Sy Nxt) h nx = _ from e1)
    | some t =>
     rw [ha0] at e1; simp only at e1
     cases b <;> first
      | (cases (show (fail : M Sy Nxt) h nx = _ from e1); done)
      | skip
     ·-- append
      rcases vs with _ | ⟨u, _ | ⟨z, _ | ⟨z2, l⟩⟩⟩ <;> first | (cases (show (fail : M Sy Nxt) h nx = _ from e1); done) | skip
      simp only [twoM] at e1
      generalize hl : args.toList.map ρo = al at hv
      cases hv with
      | cons hu hv => cases hv with
       | cons hz hn =>
        cases hn
        rename_i u' z'
        have hA : args.map ρo = #[u', z'] := by rw [map_list, hl]
        cases hc : chanOf u with
        | none => rw [hc] at e1; cases (show (fail : M Sy Nxt) h nx = _ from e1)
        | some m =>
         rw [hc] at e1; simp only at e1
         cases ha1 : ats[1]? with
         | none => rw [ha1] at e1; cases (show (fail : M Sy Nxt) h nx = _ from e1)
         | some tx =>
          rw [ha1] at e1
          obtain ⟨hle, v, u2, r', w', rfl, hrun, hvr, hX⟩ := oAp_ok (ty := o.type) hB e1 (vr_chanV hc hu) hz hM hN
          refine ⟨hle, u2, w', r', ?_, hvr, hX⟩
          have hsame : Builtin.append_ ats o.type #[u', z'] = Builtin.append_ #[t, tx] o.type #[u', z'] := by simp [Builtin.append_, ha0, ha1]
          simp only [execOp, hop, resolve, hA, Sem.run_bind, Sem.run_pure, Result.andThen_ok, invoke, builtin, hsame, hrun]
     ·-- len
      rcases vs with _ | ⟨u, _ | ⟨z, l⟩⟩ <;> first | (cases (show (fail : M Sy Nxt) h nx = _ from e1); done) | skip
      simp only [oneM] at e1
      generalize hl : args.toList.map ρo = al at hv
      cases hv with
      | cons hu hn =>
       cases hn
       rename_i u'
       have hA : args.map ρo = #[u'] := by rw [map_list, hl]
       cases hc : chanOf u with
       | none => rw [hc] at e1; cases (show (fail : M Sy Nxt) h nx = _ from e1)
       | some m =>
        rw [hc] at e1; simp only at e1
        cases hs2 : sliceT Try.prog t with
        | none => rw [hs2] at e1; cases (show (fail : M Sy Nxt) h nx = _ from e1)
        | some el =>
         rw [hs2] at e1
         obtain ⟨hle, v, u2, r', rfl, hrun, hvr, hX⟩ := oLn_ok (ty := o.type) hB hs2 e1 (vr_chanV hc hu) hM hN
         refine ⟨hle, u2, w, r', ?_, hvr, hX⟩
         have hsame : Builtin.len_ ats o.type #[u'] = Builtin.len_ #[t] o.type #[u'] := by simp [Builtin.len_, ha0]
         simp only [execOp, hop, resolve, hA, Sem.run_bind, Sem.run_pure, Result.andThen_ok, invoke, builtin, hsame, hrun]
   | _ => cases (show (fail : M Sy Nxt) h nx = _ from e1)
  ·exact back e1
 | _ => rw [hop] at e; exact back e
end
noncomputable def Le.beq (a : Le) : Le → Bool := Le.rec (motive := fun _ => Le → Bool) (fun b => match b with
  | .nil => true
  | _ => false) (fun c b => match b with
  | .v d => Nat.beq c d
  | _ => false) (fun _ e ih b => match b with
  | .snoc l f => ih l && e.beq f
  | _ => false) (fun _ x s ih b => match b with
  | .take l y t => ih l && (Nat.beq x y && eqI s t)
  | _ => false) a
theorem Le.beq_ok : ∀ (a b : Le), a.beq b = true → a = b
 | .nil, b, h => by cases b <;> first | rfl | (cases (show false = true from h); done)
 | .v c, b, h => by
  cases b <;> first | (cases (show false = true from h); done) | skip
  rw [Nat.eq_of_beq_eq_true (show Nat.beq c _ = true from h)]
 | .snoc l e, b, h => by
  cases b <;> first | (cases (show false = true from h); done) | skip
  have h' := Bool.and_eq_true_iff.1 (show (l.beq _ && e.beq _) = true from h)
  rw [Le.beq_ok l _ h'.1, Qe.beq_ok _ _ h'.2]
 | .take l x s, b, h => by
  cases b <;> first | (cases (show false = true from h); done) | skip
  have h' := Bool.and_eq_true_iff.1 (show (l.beq _ && (Nat.beq x _ && eqI s _)) = true from h)
  have h2 := Bool.and_eq_true_iff.1 h'.2
  rw [Le.beq_ok l _ h'.1, Nat.eq_of_beq_eq_true h2.1, eqI_ok h2.2]
noncomputable def eqZ (z y : Option (Nat × Int)) : Bool := match z with
 | none => match y with
  | none => true
  | some _ => false
 | some p => match y with
  | some q => Nat.beq p.1 q.1 && eqI p.2 q.2
  | none => false
theorem eqZ_ok {z y : Option (Nat × Int)} (h : eqZ z y = true) : z = y := by
 cases z <;> cases y <;> first | rfl | (cases h; done) | skip
 rename_i p q
 obtain ⟨a, s⟩ := p
 obtain ⟨b, t⟩ := q
 have h' := Bool.and_eq_true_iff.1 (show (Nat.beq a b && eqI s t) = true from h)
 rw [Nat.eq_of_beq_eq_true h'.1, eqI_ok h'.2]
noncomputable def eqSy (a b : Sy) : Bool := match a with
 | .ng e => match b with
  | .ng f => e.beq f
  | _ => false
 | .nu e => match b with
  | .nu f => e.beq f
  | _ => false
 | .de e => match b with
  | .de f => e.beq f
  | _ => false
 | .fn e => match b with
  | .fn f => e.beq f
  | _ => false
 | .fd e => match b with
  | .fd f => e.beq f
  | _ => false
 | .is e => match b with
  | .is f => e.beq f
  | _ => false
 | .ix x s => match b with
  | .ix y t => Nat.beq x y && eqI s t
  | _ => false
 | .iz k e => match b with
  | .iz l f => Nat.beq k l && e.beq f
  | _ => false
 | .ls K c => match b with
  | .ls L d => Nat.beq K L && Nat.beq c d
  | _ => false
 | .ol K l z => match b with
  | .ol L m y => Nat.beq K L && (l.beq m && eqZ z y)
  | _ => false
 | .wl x s => match b with
  | .wl y t => Nat.beq x y && eqI s t
  | _ => false
 | .lr c x => match b with
  | .lr d y => Nat.beq c d && Nat.beq x y
  | _ => false
 | _ => false
theorem eqSy_ok (a b : Sy) (h : eqSy a b = true) : a = b := by
 cases a <;> first | (cases (show false = true from h); done) | skip
 all_goals (cases b <;> first | (cases (show false = true from h); done) | skip)
 ·rw [Qe.beq_ok _ _ (show Qe.beq _ _ = true from h)]
 ·rw [Qe.beq_ok _ _ (show Qe.beq _ _ = true from h)]
 ·rw [Qe.beq_ok _ _ (show Qe.beq _ _ = true from h)]
 ·rw [Qe.beq_ok _ _ (show Qe.beq _ _ = true from h)]
 ·rw [Qe.beq_ok _ _ (show Qe.beq _ _ = true from h)]
 ·rw [Qe.beq_ok _ _ (show Qe.beq _ _ = true from h)]
 ·have h' := Bool.and_eq_true_iff.1 (show (Nat.beq _ _ && eqI _ _) = true from h)
  rw [Nat.eq_of_beq_eq_true h'.1, eqI_ok h'.2]
 ·have h' := Bool.and_eq_true_iff.1 (show (Nat.beq _ _ && Qe.beq _ _) = true from h)
  rw [Nat.eq_of_beq_eq_true h'.1, Qe.beq_ok _ _ h'.2]
 ·have h' := Bool.and_eq_true_iff.1 (show (Nat.beq _ _ && Nat.beq _ _) = true from h)
  rw [Nat.eq_of_beq_eq_true h'.1, Nat.eq_of_beq_eq_true h'.2]
 ·have h' := Bool.and_eq_true_iff.1 (show (Nat.beq _ _ && (Le.beq _ _ && eqZ _ _)) = true from h)
  have h2 := Bool.and_eq_true_iff.1 h'.2
  rw [Nat.eq_of_beq_eq_true h'.1, Le.beq_ok _ _ h2.1, eqZ_ok h2.2]
 ·have h' := Bool.and_eq_true_iff.1 (show (Nat.beq _ _ && eqI _ _) = true from h)
  rw [Nat.eq_of_beq_eq_true h'.1, eqI_ok h'.2]
 ·have h' := Bool.and_eq_true_iff.1 (show (Nat.beq _ _ && Nat.beq _ _) = true from h)
  rw [Nat.eq_of_beq_eq_true h'.1, Nat.eq_of_beq_eq_true h'.2]
theorem lsLen_ok (ρ : Env) : ∀ f n w v, (symSig ρ).holds f w v → symLen f = some n → ∃ a c, v = .slice a n c := fun f n w v h e => by
 cases f <;> first | (cases e; done) | skip
 rename_i k
 have e' : wordsN k = n := Option.some.inj e
 obtain ⟨a, c, rfl⟩ := nat_slice (show NatIn w v k from h)
 exact ⟨a, c, by rw [e']⟩
noncomputable def memC : Cfg Sy := symCfg fun _ _ => fail
instance memHardL : HardLoc (symCfg (memHard Try.prog memC)) := ⟨loc_memHard Try.prog memC⟩
abbrev Jmps := FuncId → Code → Option (Tr Value → M Sy (Tr Value))
noncomputable def lsCfg (kp : Bool) (A : List As) (B : List Ix) (j : Jmps) : Cfg Sy where
 hid _ := symHid
 G := natCfg.G
 glob := natCfg.glob
 tab := natCfg.tab
 len := symLen
 jmp := j
 hard := lsHard kp A B (memHard Try.prog memC)
instance lsHardL (kp : Bool) (A : List As) (B : List Ix) (j : Jmps) : HardLoc (lsCfg kp A B j) := ⟨loc_lsHard (loc_memHard Try.prog memC) kp A B⟩
theorem lsFits {ρ : Env} {kp : Bool} {A : List As} {B : List Ix} {j : Jmps} (hA : AllH ρ A) (hB : AllX ρ B) : Fits (symSig ρ) Try.prog (lsCfg kp A B j) where
 hid := rfl
 G := rfl
 len := lsLen_ok ρ
 tab := natFits.tab
 glob := natFits.glob
 mixed := natFits.mixed
 hard := lsHard_ok hA hB (memHard_ok (C0 := memC) rfl rfl rfl) rfl
noncomputable def lsSums (A : List As) : Sums Sy := sumsOf (mkTab (symList A))
theorem lsSums_ok {ρ : Env} {A : List As} (hA : AllH ρ A) : SumOK (symSig ρ) Try.prog (lsSums A) := sumsOf_ok (symList_ok hA)
theorem olIs.env {ρ ρ' : Env} {K : Nat} {l l' : Le} {z z' : Option (Nat × Int)} {w : World} {v : Value} (h : olIs ρ K l z w v) (hl : l'.ev ρ' = l.ev ρ) (hz : match z' with
  | none => match z with
   | none => True
   | some p => (((l.ev ρ).length : Nat) : Int) = ρ.nat p.1 + p.2
  | some q => match z with
   | none => (((l.ev ρ).length : Nat) : Int) = ρ'.nat q.1 + q.2
   | some p => ((ρ.nat p.1 : Nat) : Int) + p.2 = ρ'.nat q.1 + q.2) : olIs ρ' K l' z' w v := by
 obtain ⟨a, n, m, h1, h2, h3, h4, h5, h6⟩ := h
 refine ⟨a, n, m, h1, h2, by rw [hl]; exact h3, ?_, h5, fun ad had => ?_⟩
 ·cases z' with
  | none => cases z with
   | none => show n = (l'.ev ρ').length; rw [hl]; exact h4
   | some p =>
    have h4' : ((n : Nat) : Int) = ρ.nat p.1 + p.2 := h4
    have hz' : (((l.ev ρ).length : Nat) : Int) = ρ.nat p.1 + p.2 := hz
    show n = (l'.ev ρ').length
    rw [hl]; omega
  | some q => cases z with
   | none =>
    have h4' : n = (l.ev ρ).length := h4
    have hz' : (((l.ev ρ).length : Nat) : Int) = ρ'.nat q.1 + q.2 := hz
    show ((n : Nat) : Int) = ρ'.nat q.1 + q.2
    rw [h4']; exact hz'
   | some p =>
    have h4' : ((n : Nat) : Int) = ρ.nat p.1 + p.2 := h4
    have hz' : ((ρ.nat p.1 : Nat) : Int) + p.2 = ρ'.nat q.1 + q.2 := hz
    exact h4'.trans hz'
 ·obtain ⟨cl, g1, g2, g3, g4, g5⟩ := h6 ad had
  exact ⟨cl, g1, g2, g3, by rw [hl]; exact g4, by rw [hl]; exact g5⟩
def LsIn (K : Nat) (w : World) (v : Value) (qs : List Rat) : Prop := ∃ a m, v = .slice a qs.length m ∧ qs.length ≤ m ∧ (qs ≠ [] → ∃ b off cl t z, a = some ⟨b, off, none⟩ ∧ w.heap[b]? = some (.cells ⟨cl⟩ t z) ∧ RowAt K w cl off qs)
theorem LsIn.ls {ρ : Env} {K c : Nat} {w : World} {v : Value} (h : LsIn K w v (ρ.lst c)) (hlo : ρ.lo = w.heap.size) : lsIs ρ K c w v := by
 obtain ⟨a, m, h1, h2, h3⟩ := h
 exact ⟨a, m, h1, h2, fun hp => by
  obtain ⟨b, off, cl, t, z, h4, h5, h6⟩ := h3 hp
  exact ⟨b, off, cl, t, z, h4, by rw [hlo]; exact (Array.getElem?_eq_some_iff.1 h5).1, h5, h6⟩⟩
def OlIn (K : Nat) (w : World) (v : Value) (qs : List Rat) : Prop := ∃ a m, v = .slice a qs.length m ∧ qs.length ≤ m ∧ (a = none → m = 0) ∧ ∀ ad, a = some ad → ∃ cl, ad = ⟨ad.block, 0, none⟩ ∧ w.heap[ad.block]? = some (.cells ⟨cl⟩ (tyK K) (0, 0)) ∧ cl.length = m * elSz K ∧ RowAt K w cl 0 qs
theorem olIs.to {ρ : Env} {K : Nat} {l : Le} {w : World} {v : Value} (h : olIs ρ K l none w v) : OlIn K w v (l.ev ρ) := by
 obtain ⟨a, n, m, h1, h2, h3, h4, h5, h6⟩ := h
 have h4' : n = (l.ev ρ).length := h4
 subst h4'
 exact ⟨a, m, h1, h2, h5, fun ad had => by
  obtain ⟨cl, g1, g2, g3, g4, _⟩ := h6 ad had
  exact ⟨cl, g1, g2, g3, g4⟩⟩
theorem OlIn.ol {ρ : Env} {K : Nat} {l : Le} {w : World} {v : Value} (h : OlIn K w v (l.ev ρ)) : olIs ρ K l none w v := by
 obtain ⟨a, m, h1, h2, h5, h6⟩ := h
 exact ⟨a, _, m, h1, h2, Nat.le_refl _, rfl, h5, fun ad had => by
  obtain ⟨cl, g1, g2, g3, g4⟩ := h6 ad had
  exact ⟨cl, g1, g2, g3, g4, fun i a b => by omega⟩⟩
theorem OlIn.ls {K : Nat} {w : World} {v : Value} {qs : List Rat} (h : OlIn K w v qs) : LsIn K w v qs := by
 obtain ⟨a, m, h1, h2, h5, h6⟩ := h
 refine ⟨a, m, h1, h2, fun hp => ?_⟩
 cases a with
 | none => have := h5 rfl; cases qs with
  | nil => exact absurd rfl hp
  | cons q l => simp only [List.length_cons] at h2; omega
 | some ad =>
  obtain ⟨cl, g1, g2, g3, g4⟩ := h6 ad rfl
  exact ⟨ad.block, 0, cl, _, _, by rw [← g1], g2, g4⟩
noncomputable def loopOf (f n : Nat) : Code := match (Try.prog).funcs[f]? with
 | some fn => match fn.body with
  | some c => ((loopsIn c)[n]?).getD .skip
  | none => .skip
 | none => .skip
noncomputable def noJ : Jmps := fun _ _ => none
noncomputable def lsCl (kp : Bool) (A : List As) (B : List Ix) (n : Nat) : Cl Sy := ⟨callY Try.prog (lsCfg kp A B noJ) (lsSums A) n, [], fun _ => none⟩
theorem lsCl_ok {ρ : Env} {kp : Bool} {A : List As} {B : List Ix} {n : Nat} (hA : AllH ρ A) (hB : AllX ρ B) : ClOK (symSig ρ) Try.prog (lsCl kp A B n) :=
 have h := callY_ok (C := lsCfg kp A B noJ) (lsFits hA hB) (.none rfl) (lsSums_ok hA) n
 ⟨⟨h.1, by intro x hx; simp [lsCl] at hx, fun x m e => (by cases e)⟩, h.2⟩
noncomputable def rpF : Nat := 54
noncomputable def rpTm : List Nat := [4, 15, 16, 17]
noncomputable def rpPre : List (Sl Sy) := [.ow (.ol 1 .nil (some (1, 0))), .f (.ls 0 0), .f (.ix 1 0), .p (.int .i64 0)]
noncomputable def rpCs : List (Sl Sy) := [.ow (.ol 1 (.v 1) (some (1, 0))), .f (.ls 0 0), .f (.ix 1 0), .f (.ix 2 0)]
noncomputable def rpCs' : List (Sl Sy) := [.ow (.ol 1 (.snoc (.v 1) (.v 2)) (some (1, 0))), .f (.ls 0 0), .f (.ix 1 0), .f (.ix 2 1)]
noncomputable def rpPost : List (Sl Sy) := [.ow (.ol 1 (.v 0) (some (1, 0))), .f (.ls 0 0), .f (.ix 1 0), .f (.ix 1 0)]
noncomputable def rpB1 : List Ix := [.ln 0 1, .ln 1 2, .bd 1, .bd 2, .lt 2 0 1 0 true, .el 0 2 0 (.v 2)]
set_option maxHeartbeats 4000000 in
theorem rp_round : roundT Try.prog (lsCfg true [] rpB1 noJ) (lsCl true [] rpB1 20) 41 20 eqSy rpTm rpCs rpCs' (loopOf rpF 0) = true := by kernel_rfl
noncomputable def rpJ : Jmps := fun f _ => cond (Nat.beq f rpF) (some (jumpM eqSy 41 rpTm rpPre rpPost)) none
noncomputable def rpA (p s : Bool) : List As := cond p [⟨1, .v 1, z0, false⟩, ⟨3, .v 1, z0, s⟩] []
noncomputable def rpB0 (p : Bool) : List Ix := [.ln 0 1, .bd 1, .lt 0 33 1 0 false, .lt 0 0 1 0 p, .lt 1 (-1) 0 0 false, .el 0 1 (-1) (.v 1)]
set_option maxHeartbeats 4000000 in
theorem rp_runT (s : Bool) : tells [.ls 0 0] [.one] (call Try.prog (lsCfg true (rpA true s) (rpB0 true) rpJ) (lsSums (rpA true s)) 20 rpF) = some (.tuple [.one (.ow (.ol 1 (.v 0) (some (1, 0)))), .one (.p (.bool true))]) := by
 cases s <;> kernel_rfl
set_option maxHeartbeats 4000000 in
theorem rp_runF : tells [.ls 0 0] [.one] (call Try.prog (lsCfg true (rpA false false) [.ln 0 1, .bd 1, .lt 0 33 1 0 false, .lt 0 0 1 0 false] rpJ) (lsSums (rpA false false)) 20 rpF) = some (.tuple [.one (.ow (.ol 1 (.v 0) (some (1, 0)))), .one (.p (.bool true))]) := by
 kernel_rfl
theorem fit00 : Fit (0 : Rat) := ⟨by decide, by decide⟩
def rdQ (qs : List Rat) (k : Nat) : Nat → Rat
 | 1 => qs.getLastD 0
 | 2 => qs.getD k 0
 | _ => 0
theorem rdQ_fit {qs : List Rat} (hq : ∀ q ∈ qs, Fit q) (k i : Nat) : Fit (rdQ qs k i) := by
 unfold rdQ
 split
 ·cases qs with
  | nil => exact fit00
  | cons a l =>
   rw [List.getLastD_cons]
   cases l with
   | nil => exact hq a (by simp)
   | cons b l => exact hq _ (by rw [List.getLastD_cons, ← List.getLast_eq_getLastD (by simp)]; exact List.mem_cons_of_mem _ (List.getLast_mem _))
 ·rw [List.getD_eq_getElem?_getD]
  cases h : qs[k]? with
  | none => exact fit00
  | some x => exact hq x (List.mem_of_getElem? h)
 ·exact fit00
def rdNat (n k : Nat) : Nat → Nat
 | 1 => n
 | 2 => k
 | _ => 0
def rdLst (qs : List Rat) (k : Nat) : Nat → List Rat
 | 0 => qs
 | 1 => qs.take k
 | _ => []
def rdEnv (qs : List Rat) (hq : ∀ q ∈ qs, Fit q) (lo k : Nat) : Env := ⟨rdQ qs k, fun _ => (false, ⟨#[]⟩, ⟨#[]⟩), fun i _ => rdQ_fit hq k i, fun i => (rdQ_fit hq k i).sm.up (by decide), fun _ => bad_zero, lo, rdLst qs k, rdNat qs.length k, rfl⟩
theorem few5 : (symSig (rdEnv [] (fun _ h => by simp at h) 0 0)).G ≤ 50000 := Nat.le_of_ble_eq_true (by kernel_rfl)
section
variable {qs : List Rat} (hq : ∀ q ∈ qs, Fit q) (lo : Nat)
theorem rp_B1 (hl : qs.length ≤ 10000) {k : Nat} (hk : k < qs.length) : AllX (rdEnv qs hq lo k) rpB1 := by
 intro x hx
 simp only [rpB1, List.mem_cons, List.not_mem_nil, or_false] at hx
 rcases hx with rfl | rfl | rfl | rfl | rfl | rfl
 ·rfl
 ·show (qs.take k).length = k
  rw [List.length_take]; omega
 ·exact hl
 ·show k ≤ 10000
  omega
 ·show true = true ↔ ((k : Nat) : Int) + 0 < ((qs.length : Nat) : Int) + 0
  constructor
  ·intro _; omega
  ·intro _; rfl
 ·refine ⟨k, ?_, ?_⟩
  ·show ((k : Nat) : Int) = ((k : Nat) : Int) + 0
   omega
  ·show qs[k]? = some (qs.getD k 0)
   rw [List.getD_eq_getElem?_getD, List.getElem?_eq_getElem hk]; rfl
theorem rp_jmp (hl : qs.length ≤ 10000) : JmpOK (symSig (rdEnv qs hq lo 0)) Try.prog 41 (loopOf rpF 0) (jumpM eqSy 41 rpTm rpPre rpPost) := by
 refine @jmp_ok Sy (symSig (rdEnv qs hq lo 0)) Try.prog eqSy eqSy_ok 41 (loopOf rpF 0) rpTm rpPre rpCs rpCs' rpPost qs.length (fun k => symSig (rdEnv qs hq lo k)) (fun k => ⟨rfl, rfl, rfl⟩) rfl rfl rfl rfl ?_ ?_ ?_ ?_
 ·intro w vs h
  obtain ⟨v1, l1, rfl, a1, v2, l2, rfl, a2, v3, l3, rfl, a3, v4, l4, rfl, a4, rfl⟩ := h
  refine ⟨v1, _, rfl, ⟨?_, a1.2⟩, v2, _, rfl, a2, v3, _, rfl, a3, v4, _, rfl, ⟨?_, ?_⟩, rfl⟩
  ·exact olIs.env (l' := .v 1) (z' := some (1, 0)) (show olIs _ 1 .nil (some (1, 0)) w v1 from a1.1) rfl rfl
  ·rw [show v4 = .int .i64 0 from a4]; rfl
  ·rw [show v4 = .int .i64 0 from a4]; rfl
 ·intro k hk w vs h
  obtain ⟨v1, l1, rfl, a1, v2, l2, rfl, a2, v3, l3, rfl, a3, v4, l4, rfl, a4, rfl⟩ := h
  refine ⟨v1, _, rfl, ⟨?_, a1.2⟩, v2, _, rfl, a2, v3, _, rfl, a3, v4, _, rfl, ⟨?_, a4.2⟩, rfl⟩
  ·refine olIs.env (ρ := rdEnv qs hq lo k) (l' := .v 1) (z' := some (1, 0)) (show olIs _ 1 (.snoc (.v 1) (.v 2)) (some (1, 0)) w v1 from a1.1) ?_ rfl
   show qs.take (k + 1) = qs.take k ++ [qs.getD k 0]
   rw [List.take_add_one, List.getD_eq_getElem?_getD, List.getElem?_eq_getElem hk]; rfl
  ·have h4 : v4 = .int .i64 (((k : Nat) : Int) + 1) := a4.1
   show v4 = .int .i64 (((k + 1 : Nat) : Int) + 0)
   rw [h4]; congr 1
 ·intro w vs h
  obtain ⟨v1, l1, rfl, a1, v2, l2, rfl, a2, v3, l3, rfl, a3, v4, l4, rfl, a4, rfl⟩ := h
  refine ⟨v1, _, rfl, ⟨?_, a1.2⟩, v2, _, rfl, a2, v3, _, rfl, a3, v4, _, rfl, ⟨a4.1, a4.2⟩, rfl⟩
  refine olIs.env (ρ := rdEnv qs hq lo qs.length) (l' := .v 0) (z' := some (1, 0)) (show olIs _ 1 (.v 1) (some (1, 0)) w v1 from a1.1) ?_ rfl
  show qs = qs.take qs.length
  rw [List.take_length]
 ·intro k hk ro d B0 D0 a w hAt
  have hB := rp_B1 hq lo hl hk
  have hA : AllH (rdEnv qs hq lo k) [] := fun x hx => by simp at hx
  exact round_run (C := lsCfg true [] rpB1 noJ) (call := lsCl true [] rpB1 20) (fuel := 20) (lsFits hA hB) (lsCl_ok hA hB) rfl (fun y _ m e => by cases e) eqSy_ok rp_round few5 hAt
theorem rp_one : ∃ fn c, (Try.prog).funcs[rpF]? = some fn ∧ fn.body = some c ∧ fn.ntmps = 41 ∧ loopsIn c = [loopOf rpF 0] := ⟨_, _, rfl, rfl, rfl, rfl⟩
theorem rp_all {kp : Bool} {A : List As} {B : List Ix} (hl : qs.length ≤ 10000) : JmpAll (symSig (rdEnv qs hq lo 0)) Try.prog (lsCfg kp A B rpJ) := by
 refine ⟨fun f x m e ts => ?_, fun f fn c x m ht hb hx e => ?_⟩
 ·have e' : cond (Nat.beq f rpF) (some (jumpM eqSy 41 rpTm rpPre rpPost)) none = some m := e
  cases hf : Nat.beq f rpF with
  | false => rw [hf] at e'; cases e'
  | true => rw [hf] at e'; cases e'; exact loc_jumpM _ _ _ _ _
 ·have e' : cond (Nat.beq f rpF) (some (jumpM eqSy 41 rpTm rpPre rpPost)) none = some m := e
  cases hf : Nat.beq f rpF with
  | false => rw [hf] at e'; cases e'
  | true =>
   rw [hf] at e'
   cases e'
   obtain rfl := Nat.eq_of_beq_eq_true hf
   obtain ⟨fn0, c0, q1, q2, q3, q4⟩ := rp_one
   have ht' : (Try.prog).funcs[rpF]? = some fn := ht
   rw [q1] at ht'
   cases ht'
   rw [q2] at hb
   cases hb
   rw [q4] at hx
   obtain rfl := List.mem_singleton.1 hx
   rw [q3]
   exact @rp_jmp qs hq lo hl
theorem rp_A {p s : Bool} (hp : p = true → (qs.getLastD 0 ≠ 0 ∧ s = Big.ng (qs.getLastD 0))) : AllH (rdEnv qs hq lo 0) (rpA p s) := by
 cases p with
 | false => intro x hx; simp [rpA] at hx
 | true =>
  obtain ⟨h1, h2⟩ := hp rfl
  intro x hx
  simp only [rpA, cond_true, List.mem_cons, List.not_mem_nil, or_false] at hx
  rcases hx with rfl | rfl
  ·show false = true ↔ qs.getLastD 0 = 0
   exact ⟨fun h => (by cases h), fun h => absurd h h1⟩
  ·exact h2
theorem rp_B0 (hl : qs.length ≤ 33) (p : Bool) (hp : p = true ↔ 0 < qs.length) : AllX (rdEnv qs hq lo 0) (cond p (rpB0 true) [.ln 0 1, .bd 1, .lt 0 33 1 0 false, .lt 0 0 1 0 false]) := by
 cases p with
 | true =>
  have hp' := hp.1 rfl
  intro x hx
  simp only [rpB0, cond_true, List.mem_cons, List.not_mem_nil, or_false] at hx
  rcases hx with rfl | rfl | rfl | rfl | rfl | rfl
  ·rfl
  ·show qs.length ≤ 10000
   omega
  ·show false = true ↔ ((0 : Nat) : Int) + 33 < ((qs.length : Nat) : Int) + 0
   exact ⟨fun h => (by cases h), fun h => by omega⟩
  ·show true = true ↔ ((0 : Nat) : Int) + 0 < ((qs.length : Nat) : Int) + 0
   exact ⟨fun _ => by omega, fun _ => rfl⟩
  ·show false = true ↔ ((qs.length : Nat) : Int) + (-1) < ((0 : Nat) : Int) + 0
   exact ⟨fun h => (by cases h), fun h => by omega⟩
  ·refine ⟨qs.length - 1, ?_, ?_⟩
   ·show ((qs.length - 1 : Nat) : Int) = ((qs.length : Nat) : Int) + (-1)
    omega
   ·show qs[qs.length - 1]? = some (qs.getLastD 0)
    rw [← List.getLast?_eq_getElem?]
    cases qs with
    | nil => simp at hp'
    | cons a l => rw [List.getLastD_cons, List.getLast?_cons, List.getLastD_eq_getLast?]
 | false =>
  intro x hx
  simp only [cond_false, List.mem_cons, List.not_mem_nil, or_false] at hx
  rcases hx with rfl | rfl | rfl | rfl
  ·rfl
  ·show qs.length ≤ 10000
   omega
  ·show false = true ↔ ((0 : Nat) : Int) + 33 < ((qs.length : Nat) : Int) + 0
   exact ⟨fun h => (by cases h), fun h => by omega⟩
  ·show false = true ↔ ((0 : Nat) : Int) + 0 < ((qs.length : Nat) : Int) + 0
   exact ⟨fun h => (by cases h), fun h => absurd (hp.2 (by omega)) (by simp)⟩
end
structure PolyOK (qs : List Rat) : Prop where
 fit : ∀ q ∈ qs, Fit q
 last : qs ≠ [] → qs.getLastD 0 ≠ 0
theorem readPoly_any (w : World) {qs : List Rat} (hp : PolyOK qs) (hl : qs.length ≤ 33) {v : Value} (hv : LsIn 0 w v qs) (hG : Try.prog.globals.size ≤ w.heap.size) (hT : natSig.base w) :
  Calls Try.prog rpF ⟨[v]⟩ w fun e w' => ∃ u, e = .returned (.tuple ⟨[u, .bool true]⟩) ∧ OlIn 1 w' u qs ∧ (∀ b, blkV u = some b → w.heap.size ≤ b ∧ ∃ c t z, w'.heap[b]? = some (.cells c t z) ∧ symHid t = false) ∧ Below w.heap.size w w' := by
 have hu : HoldsL (symSig (rdEnv qs hp.fit w.heap.size 0)) w [.ls 0 0] [v] := ⟨v, [], rfl, LsIn.ls hv rfl, by obtain ⟨a, m, rfl, _⟩ := hv; rfl, rfl⟩
 have post : ∀ {e : Ending} {w' : World}, (∃ v', e = .returned v' ∧ (D3.tuple [.one (.ow (.ol 1 (.v 0) (some (1, 0)))), .one (.p (.bool true))] : D3 Sy).is (symSig (rdEnv qs hp.fit w.heap.size 0)) w' v' ∧ Below w.heap.size w w') →
   ∃ u, e = .returned (.tuple ⟨[u, .bool true]⟩) ∧ OlIn 1 w' u qs ∧ (∀ b, blkV u = some b → w.heap.size ≤ b ∧ ∃ c t z, w'.heap[b]? = some (.cells c t z) ∧ symHid t = false) ∧ Below w.heap.size w w' := by
  rintro e w' ⟨v', rfl, ⟨vs, rfl, u, l1, rfl, h1, u2, l2, rfl, h2, rfl⟩, hb⟩
  have h2' : u2 = .bool true := h2
  subst h2'
  have h1' : olIs (rdEnv qs hp.fit w.heap.size 0) 1 (.v 0) (some (1, 0)) w' u := h1.1
  refine ⟨u, rfl, olIs.to (ρ := rdEnv qs hp.fit w.heap.size 0) (l := .v 0) (h1'.env (l' := .v 0) (z' := none) rfl (by
   show ((qs.length : Nat) : Int) = ((qs.length : Nat) : Int) + 0
   omega)), fun b hbu => ?_, hb⟩
  obtain ⟨_, c, t, z, g1, g2⟩ := h1.2.2 b hbu
  have g2' : (Nat.blt b w.heap.size || symHid t) = false := g2
  rw [Bool.or_eq_false_iff] at g2'
  refine ⟨?_, c, t, z, g1, g2'.2⟩
  rcases Nat.lt_or_ge b w.heap.size with q | q
  ·have : Nat.blt b w.heap.size = true := Nat.ble_eq_true_of_le q
   rw [this] at g2'
   cases g2'.1
  ·exact q
 rcases Nat.eq_zero_or_pos qs.length with h0 | h0
 ·have hA := rp_A hp.fit w.heap.size (p := false) (s := false) fun h => by cases h
  have hB := rp_B0 hp.fit w.heap.size hl false ⟨fun h => (by cases h), fun h => by omega⟩
  exact (tells_calls (lsFits hA hB) (lsSums_ok hA) rp_runF rfl glob_few hu hG hT (Nat.le_refl _) (rp_all hp.fit w.heap.size (by omega))).mono fun e w' h => post h
 ·have hne : qs ≠ [] := fun q => by rw [q] at h0; simp at h0
  have hA := rp_A hp.fit w.heap.size (p := true) (s := Big.ng (qs.getLastD 0)) fun _ => ⟨hp.last hne, rfl⟩
  have hB := rp_B0 hp.fit w.heap.size hl true ⟨fun _ => h0, fun _ => rfl⟩
  exact (tells_calls (lsFits hA hB) (lsSums_ok hA) (rp_runT _) rfl glob_few hu hG hT (Nat.le_refl _) (rp_all hp.fit w.heap.size (by omega))).mono fun e w' h => post h
noncomputable def newOw (f : Sy) : M Sy Value := bind (fresh (.ow f)) fun i => ret (.chan (some i))
theorem loc_newOw (f : Sy) : Loc (newOw f) := loc_bind (loc_fresh _) fun _ => loc_ret _
noncomputable def lsArg (B : List Ix) (v : Value) : M Sy (Nat × Le) := match chanOf v with
 | some i => bind (rd i) fun x => match x with
  | .fact f => match f with
   | .ls K c => ret (K, .v c)
   | _ => fail
  | .ow f => match f with
   | .ol K l z => match z with
    | none => ret (K, l)
    | some q => match leN B l with
     | some p => cond (Nat.beq p.1 q.1 && eqI p.2 q.2) (ret (K, l)) fail
     | none => fail
   | _ => fail
  | _ => fail
 | none => fail
theorem loc_lsArg (B : List Ix) (v : Value) : Loc (lsArg B v) := by
 unfold lsArg
 split
 ·refine loc_bind (loc_rd _) fun x => ?_
  (repeat' split) <;> first | exact loc_ret _ | exact loc_cond (loc_ret _) loc_fail | exact loc_fail
 ·exact loc_fail
structure NewOl (K : Nat) (w w' : World) (u : Value) (qs : List Rat) : Prop where
 ol : OlIn K w' u qs
 new : ∀ b, blkV u = some b → w.heap.size ≤ b ∧ ∃ c t z, w'.heap[b]? = some (.cells c t z) ∧ symHid t = false
theorem frm_below {w w' : World} (hb : Below w.heap.size w w') : Frm [] w w' := by
 have hk : ∀ (b : Nat) (o : Obj), w.heap[b]? = some o → w'.heap[b]? = some o := fun b o hbo => (hb.block b (Array.getElem?_eq_some_iff.1 hbo).1).trans hbo
 exact ⟨fun b o h _ => hk b o h, hb.size, hb.os, hb.tape, hb.output, .of hk⟩
section
variable {ρ : Env} {B : List Ix} {h h' : Tr (Blk Sy)} {nx nx' : Nat} {R W : List Nat} {r : Ren} {w : World}
theorem newOw_ok {K : Nat} {l : Le} {w' : World} {u v : Value} (e : newOw (.ol K l none) h nx = .ok v h' nx' R W) (hM : Mod (symSig ρ) r h.get w) (hN : New r nx nx') (hb : Below w.heap.size w w') (hu : NewOl K w w' u (l.ev ρ)) :
  nx ≤ nx' ∧ ∃ r', VR r' v u ∧ Ext (symSig ρ) r w nx nx' W h'.get r' w' := by
 obtain ⟨i, h2, nx2, R2, W2, R3, W3, e2, e3, rfl, rfl⟩ := bind_ok e
 obtain ⟨rfl, rfl, rfl, rfl⟩ := ret_ok e3
 unfold fresh at e2
 cases e2
 have hone : isOne u = true := by obtain ⟨a, m, rfl, _⟩ := hu.ol; rfl
 obtain ⟨r', hX, hr⟩ := ext_ownew (S := symSig ρ) (I := []) (O := []) (x := .ol K l none) (v := u) hM hN (fun _ h => by simp at h) (fun _ h => by simp at h) (fun _ h => by simp at h) (frm_below hb)
  ⟨OlIn.ol hu.ol, hone, fun b hbu => by
   obtain ⟨g1, c, t, z, g2, g3⟩ := hu.new b hbu
   exact ⟨Nat.le_trans hM.fits g1, c, t, z, g2, (symSig ρ).new 0 _ _ (Nat.le_trans hM.sz g1) g3⟩⟩ fun b hbu => .inr (hu.new b hbu).1
 refine ⟨Nat.le_succ _, r', .opq hr hone, ?_⟩
 have hX2 := hX.congr (g' := (h.set nx (.ow (.ol K l none))).get) fun n => .inr (by rw [Tr.get_set]; simp)
 simpa using hX2
theorem lsArg_ok (hB : AllX ρ B) {v v' : Value} {y : Nat × Le} (e : lsArg B v h nx = .ok y h' nx' R W) (hv : VR r v v') (hM : Mod (symSig ρ) r h.get w) : h' = h ∧ nx' = nx ∧ W = [] ∧ LsIn y.1 w v' (y.2.ev ρ) := by
 unfold lsArg at e
 cases hc : chanOf v with
 | none => rw [hc] at e; cases (show (fail : M Sy (Nat × Le)) h nx = _ from e)
 | some i =>
  rw [hc] at e
  have hv' := vr_chanV hc hv
  obtain ⟨x, h1, nx1, R1, W1, R2, W2, e1, e2, rfl, rfl⟩ := bind_ok e
  obtain ⟨hg, rfl, rfl, rfl⟩ := rdb_ok e1
  cases x <;> first | (cases (show (fail : M Sy (Nat × Le)) _ _ = _ from e2); done) | skip
  ·rename_i f
   cases f <;> first | (cases (show (fail : M Sy (Nat × Le)) _ _ = _ from e2); done) | skip
   rename_i K c
   obtain ⟨rfl, rfl, rfl, rfl⟩ := ret_ok (show (ret (K, Le.v c) : M Sy (Nat × Le)) _ _ = _ from e2)
   obtain ⟨v0, q1, q2, _⟩ := hM.fact i _ hg
   rw [hv'] at q1
   cases q1
   obtain ⟨a, m, k1, k2, k3⟩ := (show lsIs ρ K c w v' from q2)
   exact ⟨rfl, rfl, rfl, a, m, k1, k2, fun hp => by
    obtain ⟨b, off, cl, t, z, g1, _, g2, g3⟩ := k3 hp
    exact ⟨b, off, cl, t, z, g1, g2, g3⟩⟩
  ·rename_i f
   cases f <;> first | (cases (show (fail : M Sy (Nat × Le)) _ _ = _ from e2); done) | skip
   rename_i K l z
   obtain ⟨v0, q1, q2, _⟩ := hM.ow i _ hg
   rw [hv'] at q1
   cases q1
   have q2' : olIs ρ K l z w v' := q2
   cases z with
   | none =>
    obtain ⟨rfl, rfl, rfl, rfl⟩ := ret_ok (show (ret (K, l) : M Sy (Nat × Le)) _ _ = _ from e2)
    exact ⟨rfl, rfl, rfl, (olIs.to q2').ls⟩
   | some q =>
    simp only at e2
    cases hn : leN B l with
    | none => rw [hn] at e2; cases (show (fail : M Sy (Nat × Le)) _ _ = _ from e2)
    | some p =>
     rw [hn] at e2
     obtain ⟨hk, e3⟩ := cond_ok e2
     obtain ⟨rfl, rfl, rfl, rfl⟩ := ret_ok e3
     simp only [Bool.and_eq_true] at hk
     have hln := leN_ok hB hn
     rw [Nat.eq_of_beq_eq_true hk.1, eqI_ok hk.2] at hln
     exact ⟨rfl, rfl, rfl, (olIs.to (q2'.env (l' := l) (z' := none) rfl hln)).ls⟩
theorem goes_ow {P : Program} {K : Nat} {l : Le} {f : FuncId} {args' : List Value} {v : Value} (e : newOw (.ol K l none) h nx = .ok v h' nx' R W) (hM : Mod (symSig ρ) r h.get w) (hN : New r nx nx')
  (c : Calls P f ⟨args'⟩ w fun e w' => ∃ u, e = .returned u ∧ NewOl K w w' u (l.ev ρ) ∧ Below w.heap.size w w') :
  Calls P f ⟨args'⟩ w fun e w' => ∃ v' r', e = .returned v' ∧ VR r' v v' ∧ Ext (symSig ρ) r w nx nx' W h'.get r' w' := by
 refine c.mono ?_
 rintro en w' ⟨u, rfl, hu, hb⟩
 obtain ⟨_, r', hv, hX⟩ := newOw_ok e hM hN hb hu
 exact ⟨u, r', rfl, hv, hX⟩
theorem goes_owT {P : Program} {K : Nat} {l : Le} {f : FuncId} {args' : List Value} {v u2 : Value} (hp : plain u2 = true) (e : (bind (newOw (.ol K l none)) fun x => ret (.tuple ⟨[x, u2]⟩) : M Sy Value) h nx = .ok v h' nx' R W) (hM : Mod (symSig ρ) r h.get w) (hN : New r nx nx')
  (c : Calls P f ⟨args'⟩ w fun e w' => ∃ u, e = .returned (.tuple ⟨[u, u2]⟩) ∧ NewOl K w w' u (l.ev ρ) ∧ Below w.heap.size w w') :
  Calls P f ⟨args'⟩ w fun e w' => ∃ v' r', e = .returned v' ∧ VR r' v v' ∧ Ext (symSig ρ) r w nx nx' W h'.get r' w' := by
 obtain ⟨x, h1, nx1, R1, W1, R2, W2, e1, e2, rfl, rfl⟩ := bind_ok e
 obtain ⟨rfl, rfl, rfl, rfl⟩ := ret_ok e2
 refine c.mono ?_
 rintro en w' ⟨u, rfl, hu, hb⟩
 obtain ⟨_, r', hv, hX⟩ := newOw_ok e1 hM hN hb hu
 exact ⟨_, r', rfl, .tuple (.cons hv (.cons (.same hp) .nil)), by simpa using hX⟩
end
noncomputable def ppF : Nat := 88
noncomputable def ppPre : List (Sl Sy) := [.ow (.ol 0 .nil (some (1, 0))), .f (.ls 1 0), .f (.ix 1 0), .p (.int .i64 0)]
noncomputable def ppCs : List (Sl Sy) := [.ow (.ol 0 (.v 1) (some (1, 0))), .f (.ls 1 0), .f (.ix 1 0), .f (.ix 2 0)]
noncomputable def ppCs' : List (Sl Sy) := [.ow (.ol 0 (.snoc (.v 1) (.v 2)) (some (1, 0))), .f (.ls 1 0), .f (.ix 1 0), .f (.ix 2 1)]
noncomputable def ppPost : List (Sl Sy) := [.ow (.ol 0 (.v 0) (some (1, 0))), .f (.ls 1 0), .f (.ix 1 0), .f (.ix 1 0)]
set_option maxHeartbeats 4000000 in
theorem pp_round : roundT Try.prog (lsCfg true [] rpB1 noJ) (lsCl true [] rpB1 20) 35 20 eqSy rpTm ppCs ppCs' (loopOf ppF 0) = true := by kernel_rfl
noncomputable def ppJ : Jmps := fun f _ => cond (Nat.beq f ppF) (some (jumpM eqSy 35 rpTm ppPre ppPost)) none
noncomputable def ppB0 : List Ix := [.ln 0 1, .bd 1, .lt 0 33 1 0 false]
set_option maxHeartbeats 4000000 in
theorem pp_run : tells [.ls 1 0] [.one] (call Try.prog (lsCfg true [] ppB0 ppJ) (lsSums []) 20 ppF) = some (.tuple [.one (.ow (.ol 0 (.v 0) (some (1, 0)))), .one (.p (.bool true))]) := by kernel_rfl
section
variable {qs : List Rat} (hq : ∀ q ∈ qs, Fit q) (lo : Nat)
theorem pp_jmp (hl : qs.length ≤ 10000) : JmpOK (symSig (rdEnv qs hq lo 0)) Try.prog 35 (loopOf ppF 0) (jumpM eqSy 35 rpTm ppPre ppPost) := by
 refine @jmp_ok Sy (symSig (rdEnv qs hq lo 0)) Try.prog eqSy eqSy_ok 35 (loopOf ppF 0) rpTm ppPre ppCs ppCs' ppPost qs.length (fun k => symSig (rdEnv qs hq lo k)) (fun k => ⟨rfl, rfl, rfl⟩) rfl rfl rfl rfl ?_ ?_ ?_ ?_
 ·intro w vs h
  obtain ⟨v1, l1, rfl, a1, v2, l2, rfl, a2, v3, l3, rfl, a3, v4, l4, rfl, a4, rfl⟩ := h
  refine ⟨v1, _, rfl, ⟨?_, a1.2⟩, v2, _, rfl, a2, v3, _, rfl, a3, v4, _, rfl, ⟨?_, ?_⟩, rfl⟩
  ·exact olIs.env (l' := .v 1) (z' := some (1, 0)) (show olIs _ 0 .nil (some (1, 0)) w v1 from a1.1) rfl rfl
  ·rw [show v4 = .int .i64 0 from a4]; rfl
  ·rw [show v4 = .int .i64 0 from a4]; rfl
 ·intro k hk w vs h
  obtain ⟨v1, l1, rfl, a1, v2, l2, rfl, a2, v3, l3, rfl, a3, v4, l4, rfl, a4, rfl⟩ := h
  refine ⟨v1, _, rfl, ⟨?_, a1.2⟩, v2, _, rfl, a2, v3, _, rfl, a3, v4, _, rfl, ⟨?_, a4.2⟩, rfl⟩
  ·refine olIs.env (ρ := rdEnv qs hq lo k) (l' := .v 1) (z' := some (1, 0)) (show olIs _ 0 (.snoc (.v 1) (.v 2)) (some (1, 0)) w v1 from a1.1) ?_ rfl
   show qs.take (k + 1) = qs.take k ++ [qs.getD k 0]
   rw [List.take_add_one, List.getD_eq_getElem?_getD, List.getElem?_eq_getElem hk]; rfl
  ·have h4 : v4 = .int .i64 (((k : Nat) : Int) + 1) := a4.1
   show v4 = .int .i64 (((k + 1 : Nat) : Int) + 0)
   rw [h4]; congr 1
 ·intro w vs h
  obtain ⟨v1, l1, rfl, a1, v2, l2, rfl, a2, v3, l3, rfl, a3, v4, l4, rfl, a4, rfl⟩ := h
  refine ⟨v1, _, rfl, ⟨?_, a1.2⟩, v2, _, rfl, a2, v3, _, rfl, a3, v4, _, rfl, ⟨a4.1, a4.2⟩, rfl⟩
  refine olIs.env (ρ := rdEnv qs hq lo qs.length) (l' := .v 0) (z' := some (1, 0)) (show olIs _ 0 (.v 1) (some (1, 0)) w v1 from a1.1) ?_ rfl
  show qs = qs.take qs.length
  rw [List.take_length]
 ·intro k hk ro d B0 D0 a w hAt
  have hB := rp_B1 hq lo hl hk
  have hA : AllH (rdEnv qs hq lo k) [] := fun x hx => by simp at hx
  exact round_run (C := lsCfg true [] rpB1 noJ) (call := lsCl true [] rpB1 20) (fuel := 20) (lsFits hA hB) (lsCl_ok hA hB) rfl (fun y _ m e => by cases e) eqSy_ok pp_round few5 hAt
theorem pp_one : ∃ fn c, (Try.prog).funcs[ppF]? = some fn ∧ fn.body = some c ∧ fn.ntmps = 35 ∧ loopsIn c = [loopOf ppF 0] := ⟨_, _, rfl, rfl, rfl, rfl⟩
theorem pp_all {kp : Bool} {A : List As} {B : List Ix} (hl : qs.length ≤ 10000) : JmpAll (symSig (rdEnv qs hq lo 0)) Try.prog (lsCfg kp A B ppJ) := by
 refine ⟨fun f x m e ts => ?_, fun f fn c x m ht hb hx e => ?_⟩
 ·have e' : cond (Nat.beq f ppF) (some (jumpM eqSy 35 rpTm ppPre ppPost)) none = some m := e
  cases hf : Nat.beq f ppF with
  | false => rw [hf] at e'; cases e'
  | true => rw [hf] at e'; cases e'; exact loc_jumpM _ _ _ _ _
 ·have e' : cond (Nat.beq f ppF) (some (jumpM eqSy 35 rpTm ppPre ppPost)) none = some m := e
  cases hf : Nat.beq f ppF with
  | false => rw [hf] at e'; cases e'
  | true =>
   rw [hf] at e'
   cases e'
   obtain rfl := Nat.eq_of_beq_eq_true hf
   obtain ⟨fn0, c0, q1, q2, q3, q4⟩ := pp_one
   have ht' : (Try.prog).funcs[ppF]? = some fn := ht
   rw [q1] at ht'
   cases ht'
   rw [q2] at hb
   cases hb
   rw [q4] at hx
   obtain rfl := List.mem_singleton.1 hx
   rw [q3]
   exact @pp_jmp qs hq lo hl
end
theorem newOl_of {ρ : Env} {K : Nat} {l : Le} {z : Option (Nat × Int)} {w w' : World} {u : Value} {qs : List Rat} (hlo : ρ.lo = w.heap.size) (h : (D1.ow (.ol K l z) : D1 Sy).is (symSig ρ) w' u) (hl : l.ev ρ = qs) (hz : ∀ p, z = some p → ((qs.length : Nat) : Int) = ρ.nat p.1 + p.2) : NewOl K w w' u qs := by
 subst hl
 refine ⟨olIs.to (ρ := ρ) (l := l) (olIs.env (show olIs ρ K l z w' u from h.1) (l' := l) (z' := none) rfl ?_), fun b hbu => ?_⟩
 ·cases z with
  | none => trivial
  | some p => exact hz p rfl
 ·obtain ⟨_, c, t, z, g1, g2⟩ := h.2.2 b hbu
  have g2' : (Nat.blt b ρ.lo || symHid t) = false := g2
  rw [Bool.or_eq_false_iff] at g2'
  refine ⟨?_, c, t, z, g1, g2'.2⟩
  rcases Nat.lt_or_ge b w.heap.size with q | q
  ·have : Nat.blt b ρ.lo = true := by rw [hlo]; exact Nat.ble_eq_true_of_le q
   rw [this] at g2'
   cases g2'.1
  ·exact q
theorem polyPoly_any (w : World) {qs : List Rat} (hq : ∀ q ∈ qs, Fit q) (hl : qs.length ≤ 33) {v : Value} (hv : LsIn 1 w v qs) (hG : Try.prog.globals.size ≤ w.heap.size) (hT : natSig.base w) :
  Calls Try.prog ppF ⟨[v]⟩ w fun e w' => ∃ u, e = .returned (.tuple ⟨[u, .bool true]⟩) ∧ NewOl 0 w w' u qs ∧ Below w.heap.size w w' := by
 have hu : HoldsL (symSig (rdEnv qs hq w.heap.size 0)) w [.ls 1 0] [v] := ⟨v, [], rfl, LsIn.ls hv rfl, by obtain ⟨a, m, rfl, _⟩ := hv; rfl, rfl⟩
 have hA : AllH (rdEnv qs hq w.heap.size 0) [] := fun x hx => by simp at hx
 have hB : AllX (rdEnv qs hq w.heap.size 0) ppB0 := by
  intro x hx
  simp only [ppB0, List.mem_cons, List.not_mem_nil, or_false] at hx
  rcases hx with rfl | rfl | rfl
  ·rfl
  ·show qs.length ≤ 10000
   omega
  ·show false = true ↔ ((0 : Nat) : Int) + 33 < ((qs.length : Nat) : Int) + 0
   exact ⟨fun h => (by cases h), fun h => by omega⟩
 refine (tells_calls (lsFits hA hB) (lsSums_ok hA) pp_run rfl glob_few hu hG hT (Nat.le_refl _) (pp_all hq w.heap.size (by omega))).mono ?_
 rintro e w' ⟨v', rfl, ⟨vs, rfl, u, l1, rfl, h1, u2, l2, rfl, h2, rfl⟩, hb⟩
 have h2' : u2 = .bool true := h2
 subst h2'
 exact ⟨u, rfl, newOl_of (ρ := rdEnv qs hq w.heap.size 0) rfl h1 rfl fun p hp => by
  cases hp
  show ((qs.length : Nat) : Int) = ((qs.length : Nat) : Int) + 0
  omega, hb⟩
end Ev
end Go.Proofs.Ytnlhjcfpfapafaa
