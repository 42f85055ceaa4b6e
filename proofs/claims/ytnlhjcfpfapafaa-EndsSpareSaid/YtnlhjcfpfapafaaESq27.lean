/- Contracts. -/
import Derived.Test.YtnlhjcfpfapafaaESq26
import Derived.Laws.Small
import Derived.Laws.StructEq
namespace Go.Proofs.Ytnlhjcfpfapafaa
open Go Go.RowKit
namespace Ev
set_option maxRecDepth 100000
noncomputable def opqHead (vs : List Value) : Bool := match vs with
 | v :: _ => isOpq v
 | [] => false
noncomputable def bltH (B : List Ix) (c : Call) (vs : List Value) : M Sy Nxt := match c.callee with
 | .builtin b => match c.argTypes[0]? with
  | some t => match b with
   | .len => match oneM vs with
    | some v => match chanOf v with
     | some m => match sliceT Try.prog t with
      | some _ => oLn B m
      | none => fail
     | none => fail
    | none => fail
   | .append => match twoM vs with
    | some y => match chanOf y.1 with
     | some m => match c.argTypes[1]? with
      | some tx => oAp B t tx m y.2
      | none => fail
     | none => fail
    | none => fail
   | _ => fail
  | none => fail
 | _ => fail
theorem loc_bltH (B : List Ix) (c : Call) (vs : List Value) : Loc (bltH B c vs) := by
 unfold bltH
 (repeat' split) <;> first | exact loc_fail | exact loc_oLn _ _ | exact loc_oAp _ _ _ _ _
noncomputable def mmB (c : Call) : Option Nat := match c.callee with
 | .builtin b => match b with
  | .min => some 2
  | .max => some 3
  | _ => none
 | _ => none
noncomputable def mmH (B : List Ix) (k : Nat) (vs : List Value) : M Sy Nxt := match twoM vs with
 | some y => bind (ixV y.1) fun p => bind (ixV y.2) fun q => biH B k p q
 | none => fail
theorem loc_mmH (B : List Ix) (k : Nat) (vs : List Value) : Loc (mmH B k vs) := by
 unfold mmH
 split
 ·exact loc_bind (loc_ixV _) fun _ => loc_bind (loc_ixV _) fun _ => loc_biH _ _ _ _
 ·exact loc_fail
noncomputable def lsHard (kp : Bool) (A : List As) (B : List Ix) (G : Oper → List Value → M Sy Nxt) (o : Oper) (vs : List Value) : M Sy Nxt := match o.op with
 | .load t _ => match oneM vs with
  | some v => match chanOf v with
   | some i => oLd B t i
   | none => fail
  | none => fail
 | .store t _ _ => match twoM vs with
  | some y => match chanOf y.1 with
   | some i => oSt B t i y.2
   | none => fail
  | none => fail
 | .indexAddr t _ _ => match twoM vs with
  | some y => match chanOf y.1 with
   | some m => bind (ixV y.2) fun p => oIxA B t p m
   | none => fail
  | none => fail
 | .makeSlice t _ _ => match twoM vs with
  | some y => bind (ixV y.1) fun p => bind (ixV y.2) fun q => oMk B t p q
  | none => fail
 | .convert s t _ => match oneM vs with
  | some v => cvH s t v
  | none => fail
 | .slice t _ lo hi mx => cond (opqHead vs) (cond (lo.isNone && (hi.isSome && mx.isNone)) (match twoM vs with
  | some y => shH B kp t y.1 y.2
  | none => fail) (cond (lo.isSome && (hi.isNone && mx.isNone)) (match twoM vs with
  | some y => tlH B t y.1 y.2
  | none => fail) fail)) (G o vs)
 | .binOp op _ _ _ _ => match twoM vs with
  | some y => cond (isOpq y.1 || isOpq y.2) (binH A B op y.1 y.2) (G o vs)
  | none => fail
 | .call c => match mmB c with
  | some k => mmH B k vs
  | none => cond (opqHead vs) (bltH B c vs) (G o vs)
 | _ => G o vs
theorem loc_lsHard {G : Oper → List Value → M Sy Nxt} (hG : ∀ o vs, Loc (G o vs)) (kp : Bool) (A : List As) (B : List Ix) (o : Oper) (vs : List Value) : Loc (lsHard kp A B G o vs) := by
 unfold lsHard
 (repeat' split) <;> first
  | exact loc_fail
  | exact loc_oLd _ _ _
  | exact loc_oSt _ _ _ _
  | exact loc_bind (loc_ixV _) fun _ => loc_oIxA _ _ _ _
  | exact loc_bind (loc_ixV _) fun _ => loc_bind (loc_ixV _) fun _ => loc_oMk _ _ _ _
  | exact loc_cvH _ _ _
  | exact loc_cond (loc_cond (loc_shH _ _ _ _ _) (loc_cond (loc_tlH _ _ _ _) loc_fail)) (hG _ _)
  | exact loc_cond (loc_cond loc_fail (loc_cond loc_fail loc_fail)) (hG _ _)
  | exact loc_cond (loc_binH _ _ _ _ _) (hG _ _)
  | exact loc_mmH _ _ _
  | exact loc_cond (loc_bltH _ _ _) (hG _ _)
  | exact hG _ _
section
variable {ρ : Env} {A : List As} {B : List Ix}
theorem lsHard_ok (hA : AllH ρ A) (hB : AllX ρ B) {G : Oper → List Value → M Sy Nxt} {C : Cfg Sy} (hG : HardOK (symSig ρ) Try.prog { C with hard := G }) {kp : Bool} (hC : C.hard = lsHard kp A B G) (hf : Pl ρ) : HardOK (symSig ρ) Try.prog C := by
 intro o vs h nx x h' nx' R W hs e r w ρo hM hN hv
 rw [hC] at e
 unfold lsHard at e
 have back : G o vs h nx = .ok x h' nx' R W → nx ≤ nx' ∧ After (symSig ρ) Try.prog ((execOp ρo o).run Try.prog w) r w nx nx' W h'.get x := fun e2 => hG o vs h nx x h' nx' R W hs e2 r w ρo hM hN hv
 cases hop : o.op with
 | load t y =>
  rw [hop] at e
  simp only at e
  have hops : o.op.operands.toList.map ρo = [ρo y] := by rw [hop]; rfl
  rw [hops] at hv
  rcases vs with _ | ⟨u, _ | ⟨z, l⟩⟩ <;> first | (cases (show (fail : M Sy Nxt) h nx = _ from e); done) | skip
  simp only [oneM] at e
  cases hv with
  | cons hu hv =>
   cases hc : chanOf u with
   | none => rw [hc] at e; cases (show (fail : M Sy Nxt) h nx = _ from e)
   | some i =>
    rw [hc] at e
    obtain ⟨hle, v, u2, ad, r', rfl, hp, hl, hvr, hX⟩ := oLd_ok hB e (vr_chanV hc hu) hM hN
    refine ⟨hle, u2, w, r', ?_, hvr, hX⟩
    simp only [execOp, hop, hp, Instr.loadAt, Instr.sureAddr, Sem.run_bind, Sem.run_pure, Result.andThen_ok, hl]
 | store t y z =>
  rw [hop] at e
  simp only at e
  have hops : o.op.operands.toList.map ρo = [ρo y, ρo z] := by rw [hop]; rfl
  rw [hops] at hv
  rcases vs with _ | ⟨u, _ | ⟨z1, _ | ⟨z2, l⟩⟩⟩ <;> first | (cases (show (fail : M Sy Nxt) h nx = _ from e); done) | skip
  simp only [twoM] at e
  cases hv with
  | cons hu hv => cases hv with
   | cons hz hv =>
    cases hc : chanOf u with
    | none => rw [hc] at e; cases (show (fail : M Sy Nxt) h nx = _ from e)
    | some i =>
     rw [hc] at e
     obtain ⟨rfl, rfl, ad, w', hp, hl, hX⟩ := oSt_ok hB e (vr_chanV hc hu) hz hM
     refine ⟨Nat.le_refl _, w', r, ?_, hX⟩
     simp only [execOp, hop, hp, Instr.storeAt, Instr.sureAddr, Sem.run_bind, Sem.run_pure, Result.andThen_ok, hl]
 | indexAddr t y i =>
  rw [hop] at e
  simp only at e
  have hops : o.op.operands.toList.map ρo = [ρo y, ρo i] := by rw [hop]; rfl
  rw [hops] at hv
  rcases vs with _ | ⟨u, _ | ⟨z1, _ | ⟨z2, l⟩⟩⟩ <;> first | (cases (show (fail : M Sy Nxt) h nx = _ from e); done) | skip
  simp only [twoM] at e
  cases hv with
  | cons hu hv => cases hv with
   | cons hz hv =>
    cases hc : chanOf u with
    | none => rw [hc] at e; cases (show (fail : M Sy Nxt) h nx = _ from e)
    | some m =>
     rw [hc] at e
     obtain ⟨p, h1, nx1, R1, W1, R2, W2, e1, e2, rfl, rfl⟩ := bind_ok e
     obtain ⟨rfl, rfl, rfl, hp⟩ := ixV_ok e1 hz hM
     obtain ⟨hle, v, u2, r', rfl, hl, hvr, hX⟩ := oIxA_ok hB e2 (vr_chanV hc hu) hM hN
     refine ⟨hle, u2, w, r', ?_, hvr, by simpa using hX⟩
     simp only [execOp, hop, hp, Sem.run_bind, hl, Result.andThen_ok, Sem.run_pure]
 | makeSlice t y i =>
  rw [hop] at e
  simp only at e
  have hops : o.op.operands.toList.map ρo = [ρo y, ρo i] := by rw [hop]; rfl
  rw [hops] at hv
  rcases vs with _ | ⟨u, _ | ⟨z1, _ | ⟨z2, l⟩⟩⟩ <;> first | (cases (show (fail : M Sy Nxt) h nx = _ from e); done) | skip
  simp only [twoM] at e
  cases hv with
  | cons hu hv => cases hv with
   | cons hz hv =>
    obtain ⟨p, h1, nx1, R1, W1, R2, W2, e1, e2, rfl, rfl⟩ := bind_ok e
    obtain ⟨rfl, rfl, rfl, hp⟩ := ixV_ok e1 hu hM
    obtain ⟨q, h3, nx3, R3, W3, R4, W4, e3, e4, rfl, rfl⟩ := bind_ok e2
    obtain ⟨rfl, rfl, rfl, hq⟩ := ixV_ok e3 hz hM
    obtain ⟨hle, v, u2, r', w', rfl, hl, hvr, hX⟩ := oMk_ok hB e4 hM hN hf
    refine ⟨hle, u2, w', r', ?_, hvr, by simpa using hX⟩
    simp only [execOp, hop, hp, hq, Sem.run_bind, hl, Result.andThen_ok, Sem.run_pure]
 | convert s t y =>
  rw [hop] at e
  simp only at e
  have hops : o.op.operands.toList.map ρo = [ρo y] := by rw [hop]; rfl
  rw [hops] at hv
  rcases vs with _ | ⟨u, _ | ⟨z, l⟩⟩ <;> first | (cases (show (fail : M Sy Nxt) h nx = _ from e); done) | skip
  simp only [oneM] at e
  cases hv with
  | cons hu hv =>
   obtain ⟨hle, v, u2, r', rfl, hl, hvr, hX⟩ := cvH_ok e hu hM hN
   refine ⟨hle, u2, w, r', ?_, hvr, hX⟩
   simp only [execOp, hop, Sem.run_bind, hl, Result.andThen_ok, Sem.run_pure]
 | slice t y lo hi mx =>
  rw [hop] at e
  simp only at e
  rcases condH e with e1 | e1
  ·rcases condB e1 with ⟨hk, e2⟩ | ⟨_, e1⟩
   case inr =>
    obtain ⟨hk, e2⟩ := cond_ok e1
    simp only [Bool.and_eq_true, Option.isNone_iff_eq_none] at hk
    obtain ⟨hk2, rfl, rfl⟩ := hk
    obtain ⟨b, rfl⟩ := Option.isSome_iff_exists.1 hk2
    have hops : o.op.operands.toList.map ρo = [ρo y, ρo b] := by rw [hop]; rfl
    rw [hops] at hv
    rcases vs with _ | ⟨u, _ | ⟨z1, _ | ⟨z2, l⟩⟩⟩ <;> first | (cases (show (fail : M Sy Nxt) h nx = _ from e2); done) | skip
    simp only [twoM] at e2
    cases hv with
    | cons hu hv => cases hv with
     | cons hz hv =>
      obtain ⟨hle, v, u2, r', rfl, hl, hvr, hX⟩ := tlH_ok hB e2 hu hz hM hN
      refine ⟨hle, u2, w, r', ?_, hvr, by simpa using hX⟩
      simp only [execOp, hop, Option.map_some, Option.map_none, Sem.run_bind, hl, Result.andThen_ok, Sem.run_pure]
   simp only [Bool.and_eq_true, Option.isNone_iff_eq_none] at hk
   obtain ⟨rfl, hk2, rfl⟩ := hk
   obtain ⟨b, rfl⟩ := Option.isSome_iff_exists.1 hk2
   have hops : o.op.operands.toList.map ρo = [ρo y, ρo b] := by rw [hop]; rfl
   rw [hops] at hv
   rcases vs with _ | ⟨u, _ | ⟨z1, _ | ⟨z2, l⟩⟩⟩ <;> first | (cases (show (fail : M Sy Nxt) h nx = _ from e2); done) | skip
   simp only [twoM] at e2
   cases hv with
   | cons hu hv => cases hv with
    | cons hz hv =>
     have e0 : bind (isFc u) (fun k => cond k (hdH B t u z1) (slH B kp t u z1)) h nx = .ok x h' nx' R W := e2
     clear e2
     obtain ⟨kf, h1, nx1, R1, W1, R2, W2, e3, e2, rfl, rfl⟩ := bind_ok e0
     obtain ⟨rfl, rfl, rfl⟩ := isFc_ok e3
     rcases condB e2 with ⟨_, e2⟩ | ⟨_, e2⟩
     case inl =>
      obtain ⟨hle, v, u2, r', rfl, hl, hvr, hX⟩ := hdH_ok hB e2 hu hz hM hN
      refine ⟨hle, u2, w, r', ?_, hvr, by simpa using hX⟩
      simp only [execOp, hop, Option.map_some, Option.map_none, Sem.run_bind, hl, Result.andThen_ok, Sem.run_pure]
     unfold slH at e2
     cases hc : chanOf u with
     | none => rw [hc] at e2; cases (show (fail : M Sy Nxt) _ _ = _ from e2)
     | some m =>
      rw [hc] at e2
      obtain ⟨p, h1, nx1, R1, W1, R2, W2, e3, e4, rfl, rfl⟩ := bind_ok e2
      obtain ⟨rfl, rfl, rfl, hp⟩ := ixV_ok e3 hz hM
      obtain ⟨hle, v, u2, r', rfl, hl, hvr, hX⟩ := oSl_ok hB e4 (vr_chanV hc hu) hM hN
      refine ⟨hle, u2, w, r', ?_, hvr, by simpa using hX⟩
      simp only [execOp, hop, hp, Option.map_some, Option.map_none, Sem.run_bind, hl, Result.andThen_ok, Sem.run_pure]
  ·exact back e1
 | binOp op t p q yt =>
  rw [hop] at e
  simp only at e
  have hops : o.op.operands.toList.map ρo = [ρo p, ρo q] := by rw [hop]; rfl
  have hv0 := hv
  rw [hops] at hv
  rcases vs with _ | ⟨u, _ | ⟨z1, _ | ⟨z2, l⟩⟩⟩ <;> first | (cases (show (fail : M Sy Nxt) h nx = _ from e); done) | skip
  simp only [twoM] at e
  rcases condH e with e1 | e1
  ·cases hv with
   | cons hu hv => cases hv with
    | cons hz hv =>
     obtain ⟨f, h1, nx1, R1, W1, R2, W2, e2, e3, rfl, rfl⟩ := bind_ok (show binH A B op u z1 h nx = _ from e1)
     have hcv : VR r (cond (isOpq u) u z1) (cond (isOpq u) (ρo p) (ρo q)) := by cases isOpq u <;> assumption
     obtain ⟨rfl, rfl, rfl, hf⟩ := fact_ok e2 hcv hM
     cases f <;> first | (cases (show (fail : M Sy Nxt) _ _ = _ from e3); done) | skip
     ·obtain ⟨x1, h3, nx3, R3, W3, R4, W4, e4, e5, rfl, rfl⟩ := bind_ok (show bind (ixV u) _ _ _ = _ from e3)
      obtain ⟨rfl, rfl, rfl, hp⟩ := ixV_ok e4 hu hM
      obtain ⟨y1, h5, nx5, R5, W5, R6, W6, e6, e7, rfl, rfl⟩ := bind_ok e5
      obtain ⟨rfl, rfl, rfl, hq⟩ := ixV_ok e6 hz hM
      obtain ⟨hle, v, u2, r', rfl, hl, hvr, hX⟩ := iBin_ok hB e7 hM hN t p q
      refine ⟨hle, u2, w, r', ?_, hvr, by simpa using hX⟩
      simp only [execOp, hop, hp, hq]
      rw [Sem.run_bind, hl]
      rfl
     ·rename_i k qe
      obtain ⟨hk, e4⟩ := cond_ok (show cond (isOpq u) (izH A B op k qe z1) fail _ _ = _ from e3)
      rw [hk] at hf
      have hf2 : izIs k (qe.ev ρ.q) (ρo p) := hf
      obtain ⟨rfl, rfl, rfl, b, rfl, hpb, hl⟩ := izH_ok (w := w) hA hB e4 hf2 hz t p q
      refine ⟨Nat.le_refl _, b, w, r, ?_, .same hpb, by simpa using Ext.refl _ _ hM⟩
      simp only [execOp, hop]
      rw [Sem.run_bind, hl]
      rfl
  ·exact back e1
 | call c =>
  rw [hop] at e
  simp only at e
  cases hmm : mmB c with
  | some k =>
   rw [hmm] at e
   simp only at e
   unfold mmB at hmm
   obtain ⟨callee, args, ats⟩ := c
   unfold mmH at e
   rcases vs with _ | ⟨u, _ | ⟨z, _ | ⟨z2, l⟩⟩⟩ <;> first | (cases (show (fail : M Sy Nxt) h nx = _ from e); done) | skip
   simp only [twoM] at e
   have hops : o.op.operands.toList.map ρo = args.toList.map ρo := by
    cases callee with
    | builtin b => rw [hop]; simp [Op.operands, Call.operands]
    | _ => simp at hmm
   rw [hops] at hv
   generalize hl : args.toList.map ρo = al at hv
   cases hv with
   | cons hu hv => cases hv with
    | cons hz hn =>
     cases hn
     rename_i u' z'
     have hA : args.map ρo = #[u', z'] := by rw [map_list, hl]
     obtain ⟨p, h1, nx1, R1, W1, R2, W2, e1, e2, rfl, rfl⟩ := bind_ok e
     obtain ⟨rfl, rfl, rfl, hp⟩ := ixV_ok e1 hu hM
     obtain ⟨q, h3, nx3, R3, W3, R4, W4, e3, e4, rfl, rfl⟩ := bind_ok e2
     obtain ⟨rfl, rfl, rfl, hq⟩ := ixV_ok e3 hz hM
     obtain ⟨t, g1, g2, hle, v, r', rfl, hvr, hX⟩ := biH_ok hB e4 hM hN
     refine ⟨hle, .int .i64 t, w, r', ?_, hvr, by simpa using hX⟩
     subst hp hq
     cases callee with
     | builtin b =>
      cases b <;> simp only [reduceCtorEq, Option.some.injEq] at hmm
      ·subst hmm
       have g1' : (if atIx ρ q.1 q.2 > atIx ρ p.1 p.2 then atIx ρ q.1 q.2 else atIx ρ p.1 p.2) = t := g1
       simp only [execOp, hop, resolve, hA, Sem.run_bind, Sem.run_pure, Result.andThen_ok, invoke, builtin, run_max_int2, g1']
      ·subst hmm
       have g1' : (if atIx ρ q.1 q.2 < atIx ρ p.1 p.2 then atIx ρ q.1 q.2 else atIx ρ p.1 p.2) = t := g1
       simp only [execOp, hop, resolve, hA, Sem.run_bind, Sem.run_pure, Result.andThen_ok, invoke, builtin, run_min_int2, g1']
     | _ => simp at hmm
  | none =>
  rw [hmm] at e
  simp only at e
  rcases condH e with e1 | e1
  ·obtain ⟨callee, args, ats⟩ := c
   unfold bltH at e1
   cases callee with
   | builtin b =>
    simp only at e1
    have hops : o.op.operands.toList.map ρo = args.toList.map ρo := by rw [hop]; simp [Op.operands, Call.operands]
    rw [hops] at hv
    cases ha0 : ats[0]? with
    | none => rw [ha0] at e1; cases (show (fail : M Sy Nxt) h nx = _ from e1)
    | some t =>
     rw [ha0] at e1; simp only at e1
     cases b <;> first
      | (cases (show (fail : M Sy Nxt) h nx = _ from e1); done)
      | skip
     ·-- append
      rcases vs with _ | ⟨u, _ | ⟨z, _ | ⟨z2, l⟩⟩⟩ <;> first | (cases (show (fail : M Sy Nxt) h nx = _ from e1); done) | skip
      simp only [twoM] at e1
      generalize hl : args.toList.map ρo = al at hv
      cases hv with
      | cons hu hv => cases hv with
       | cons hz hn =>
        cases hn
        rename_i u' z'
        have hA : args.map ρo = #[u', z'] := by rw [map_list, hl]
        cases hc : chanOf u with
        | none => rw [hc] at e1; cases (show (fail : M Sy Nxt) h nx = _ from e1)
        | some m =>
         rw [hc] at e1; simp only at e1
         cases ha1 : ats[1]? with
         | none => rw [ha1] at e1; cases (show (fail : M Sy Nxt) h nx = _ from e1)
         | some tx =>
          rw [ha1] at e1
          obtain ⟨hle, v, u2, r', w', rfl, hrun, hvr, hX⟩ := oAp_ok (ty := o.type) hB e1 (vr_chanV hc hu) hz hM hN hf
          refine ⟨hle, u2, w', r', ?_, hvr, hX⟩
          have hsame : Builtin.append_ ats o.type #[u', z'] = Builtin.append_ #[t, tx] o.type #[u', z'] := by simp [Builtin.append_, ha0, ha1]
          simp only [execOp, hop, resolve, hA, Sem.run_bind, Sem.run_pure, Result.andThen_ok, invoke, builtin, hsame, hrun]
     ·-- len
      rcases vs with _ | ⟨u, _ | ⟨z, l⟩⟩ <;> first | (cases (show (fail : M Sy Nxt) h nx = _ from e1); done) | skip
      simp only [oneM] at e1
      generalize hl : args.toList.map ρo = al at hv
      cases hv with
      | cons hu hn =>
       cases hn
       rename_i u'
       have hA : args.map ρo = #[u'] := by rw [map_list, hl]
       cases hc : chanOf u with
       | none => rw [hc] at e1; cases (show (fail : M Sy Nxt) h nx = _ from e1)
       | some m =>
        rw [hc] at e1; simp only at e1
        cases hs2 : sliceT Try.prog t with
        | none => rw [hs2] at e1; cases (show (fail : M Sy Nxt) h nx = _ from e1)
        | some el =>
         rw [hs2] at e1
         obtain ⟨hle, v, u2, r', rfl, hrun, hvr, hX⟩ := oLn_ok (ty := o.type) hB hs2 e1 (vr_chanV hc hu) hM hN
         refine ⟨hle, u2, w, r', ?_, hvr, hX⟩
         have hsame : Builtin.len_ ats o.type #[u'] = Builtin.len_ #[t] o.type #[u'] := by simp [Builtin.len_, ha0]
         simp only [execOp, hop, resolve, hA, Sem.run_bind, Sem.run_pure, Result.andThen_ok, invoke, builtin, hsame, hrun]
   | _ => cases (show (fail : M Sy Nxt) h nx = _ from e1)
  ·exact back e1
 | _ => rw [hop] at e; exact back e
end
noncomputable def Le.beq (a : Le) : Le → Bool := Le.rec (motive := fun _ => Le → Bool) (fun b => match b with
  | .nil => true
  | _ => false) (fun c b => match b with
  | .v d => Nat.beq c d
  | _ => false) (fun _ e ih b => match b with
  | .snoc l f => ih l && e.beq f
  | _ => false) (fun _ x s ih b => match b with
  | .take l y t => ih l && (Nat.beq x y && eqI s t)
  | _ => false) a
theorem Le.beq_ok : ∀ (a b : Le), a.beq b = true → a = b
 | .nil, b, h => by cases b <;> first | rfl | (cases (show false = true from h); done)
 | .v c, b, h => by
  cases b <;> first | (cases (show false = true from h); done) | skip
  rw [Nat.eq_of_beq_eq_true (show Nat.beq c _ = true from h)]
 | .snoc l e, b, h => by
  cases b <;> first | (cases (show false = true from h); done) | skip
  have h' := Bool.and_eq_true_iff.1 (show (l.beq _ && e.beq _) = true from h)
  rw [Le.beq_ok l _ h'.1, Qe.beq_ok _ _ h'.2]
 | .take l x s, b, h => by
  cases b <;> first | (cases (show false = true from h); done) | skip
  have h' := Bool.and_eq_true_iff.1 (show (l.beq _ && (Nat.beq x _ && eqI s _)) = true from h)
  have h2 := Bool.and_eq_true_iff.1 h'.2
  rw [Le.beq_ok l _ h'.1, Nat.eq_of_beq_eq_true h2.1, eqI_ok h2.2]
noncomputable def eqZ (z y : Option (Nat × Int)) : Bool := match z with
 | none => match y with
  | none => true
  | some _ => false
 | some p => match y with
  | some q => Nat.beq p.1 q.1 && eqI p.2 q.2
  | none => false
theorem eqZ_ok {z y : Option (Nat × Int)} (h : eqZ z y = true) : z = y := by
 cases z <;> cases y <;> first | rfl | (cases h; done) | skip
 rename_i p q
 obtain ⟨a, s⟩ := p
 obtain ⟨b, t⟩ := q
 have h' := Bool.and_eq_true_iff.1 (show (Nat.beq a b && eqI s t) = true from h)
 rw [Nat.eq_of_beq_eq_true h'.1, eqI_ok h'.2]
noncomputable def eqSy (a b : Sy) : Bool := match a with
 | .ng e => match b with
  | .ng f => e.beq f
  | _ => false
 | .nu e => match b with
  | .nu f => e.beq f
  | _ => false
 | .de e => match b with
  | .de f => e.beq f
  | _ => false
 | .fn e => match b with
  | .fn f => e.beq f
  | _ => false
 | .fd e => match b with
  | .fd f => e.beq f
  | _ => false
 | .is e => match b with
  | .is f => e.beq f
  | _ => false
 | .ix x s => match b with
  | .ix y t => Nat.beq x y && eqI s t
  | _ => false
 | .iz k e => match b with
  | .iz l f => Nat.beq k l && e.beq f
  | _ => false
 | .ls K c => match b with
  | .ls L d => Nat.beq K L && Nat.beq c d
  | _ => false
 | .ol K l z => match b with
  | .ol L m y => Nat.beq K L && (l.beq m && eqZ z y)
  | _ => false
 | .wl x s => match b with
  | .wl y t => Nat.beq x y && eqI s t
  | _ => false
 | .lr c x => match b with
  | .lr d y => Nat.beq c d && Nat.beq x y
  | _ => false
 | .rl c => match b with
  | .rl d => Nat.beq c d
  | _ => false
 | .oq i => match b with
  | .oq j => Nat.beq i j
  | _ => false
 | _ => false
theorem eqSy_ok (a b : Sy) (h : eqSy a b = true) : a = b := by
 cases a <;> first | (cases (show false = true from h); done) | skip
 all_goals (cases b <;> first | (cases (show false = true from h); done) | skip)
 ·rw [Qe.beq_ok _ _ (show Qe.beq _ _ = true from h)]
 ·rw [Qe.beq_ok _ _ (show Qe.beq _ _ = true from h)]
 ·rw [Qe.beq_ok _ _ (show Qe.beq _ _ = true from h)]
 ·rw [Qe.beq_ok _ _ (show Qe.beq _ _ = true from h)]
 ·rw [Qe.beq_ok _ _ (show Qe.beq _ _ = true from h)]
 ·rw [Qe.beq_ok _ _ (show Qe.beq _ _ = true from h)]
 ·have h' := Bool.and_eq_true_iff.1 (show (Nat.beq _ _ && eqI _ _) = true from h)
  rw [Nat.eq_of_beq_eq_true h'.1, eqI_ok h'.2]
 ·have h' := Bool.and_eq_true_iff.1 (show (Nat.beq _ _ && Qe.beq _ _) = true from h)
  rw [Nat.eq_of_beq_eq_true h'.1, Qe.beq_ok _ _ h'.2]
 ·have h' := Bool.and_eq_true_iff.1 (show (Nat.beq _ _ && Nat.beq _ _) = true from h)
  rw [Nat.eq_of_beq_eq_true h'.1, Nat.eq_of_beq_eq_true h'.2]
 ·have h' := Bool.and_eq_true_iff.1 (show (Nat.beq _ _ && (Le.beq _ _ && eqZ _ _)) = true from h)
  have h2 := Bool.and_eq_true_iff.1 h'.2
  rw [Nat.eq_of_beq_eq_true h'.1, Le.beq_ok _ _ h2.1, eqZ_ok h2.2]
 ·have h' := Bool.and_eq_true_iff.1 (show (Nat.beq _ _ && eqI _ _) = true from h)
  rw [Nat.eq_of_beq_eq_true h'.1, eqI_ok h'.2]
 ·have h' := Bool.and_eq_true_iff.1 (show (Nat.beq _ _ && Nat.beq _ _) = true from h)
  rw [Nat.eq_of_beq_eq_true h'.1, Nat.eq_of_beq_eq_true h'.2]
 ·rw [Nat.eq_of_beq_eq_true (show Nat.beq _ _ = true from h)]
 ·rw [Nat.eq_of_beq_eq_true (show Nat.beq _ _ = true from h)]
theorem lsLen_ok (ρ : Env) : ∀ f n w v, (symSig ρ).holds f w v → symLen f = some n → ∃ a c, v = .slice a n c := fun f n w v h e => by
 cases f <;> first | (cases e; done) | skip
 rename_i k
 have e' : wordsN k = n := Option.some.inj e
 obtain ⟨a, c, rfl⟩ := nat_slice (show NatIn w v k from h)
 exact ⟨a, c, by rw [e']⟩
noncomputable def memC : Cfg Sy := symCfg fun _ _ => fail
instance memHardL : HardLoc (symCfg (memHard Try.prog memC)) := ⟨loc_memHard Try.prog memC⟩
abbrev Jmps := FuncId → Code → Option (Tr Value → M Sy (Tr Value))
noncomputable def lsCfg (kp : Bool) (A : List As) (B : List Ix) (j : Jmps) : Cfg Sy where
 hid _ := symHid
 G := natCfg.G
 glob := natCfg.glob
 tab := natCfg.tab
 len := symLen
 jmp := j
 hard := lsHard kp A B (memHard Try.prog memC)
instance lsHardL (kp : Bool) (A : List As) (B : List Ix) (j : Jmps) : HardLoc (lsCfg kp A B j) := ⟨loc_lsHard (loc_memHard Try.prog memC) kp A B⟩
theorem lsFits {ρ : Env} {kp : Bool} {A : List As} {B : List Ix} {j : Jmps} (hA : AllH ρ A) (hB : AllX ρ B) (hf : Pl ρ := by rfl) : Fits (symSig ρ) Try.prog (lsCfg kp A B j) where
 hid := hn_of hf
 G := rfl
 len := lsLen_ok ρ
 tab := natFits.tab
 glob := natFits.glob
 mixed := natFits.mixed
 hard := lsHard_ok hA hB (memHard_ok (C0 := memC) rfl (hn_of hf) rfl) rfl hf
theorem olIs.env {ρ ρ' : Env} {K : Nat} {l l' : Le} {z z' : Option (Nat × Int)} {w : World} {v : Value} (h : olIs ρ K l z w v) (hl : l'.ev ρ' = l.ev ρ) (hz : match z' with
  | none => match z with
   | none => True
   | some p => (((l.ev ρ).length : Nat) : Int) = ρ.nat p.1 + p.2
  | some q => match z with
   | none => (((l.ev ρ).length : Nat) : Int) = ρ'.nat q.1 + q.2
   | some p => ((ρ.nat p.1 : Nat) : Int) + p.2 = ρ'.nat q.1 + q.2) : olIs ρ' K l' z' w v := by
 obtain ⟨a, n, m, h1, h2, h3, h4, h5, h6⟩ := h
 refine ⟨a, n, m, h1, h2, by rw [hl]; exact h3, ?_, h5, fun ad had => ?_⟩
 ·cases z' with
  | none => cases z with
   | none => show n = (l'.ev ρ').length; rw [hl]; exact h4
   | some p =>
    have h4' : ((n : Nat) : Int) = ρ.nat p.1 + p.2 := h4
    have hz' : (((l.ev ρ).length : Nat) : Int) = ρ.nat p.1 + p.2 := hz
    show n = (l'.ev ρ').length
    rw [hl]; omega
  | some q => cases z with
   | none =>
    have h4' : n = (l.ev ρ).length := h4
    have hz' : (((l.ev ρ).length : Nat) : Int) = ρ'.nat q.1 + q.2 := hz
    show ((n : Nat) : Int) = ρ'.nat q.1 + q.2
    rw [h4']; exact hz'
   | some p =>
    have h4' : ((n : Nat) : Int) = ρ.nat p.1 + p.2 := h4
    have hz' : ((ρ.nat p.1 : Nat) : Int) + p.2 = ρ'.nat q.1 + q.2 := hz
    exact h4'.trans hz'
 ·obtain ⟨cl, g1, g2, g3, g4, g5⟩ := h6 ad had
  exact ⟨cl, g1, g2, g3, by rw [hl]; exact g4, by rw [hl]; exact g5⟩
def LsIn (K : Nat) (w : World) (v : Value) (qs : List Rat) : Prop := ∃ a m, v = .slice a qs.length m ∧ qs.length ≤ m ∧ (qs ≠ [] → ∃ b off cl t z, a = some ⟨b, off, none⟩ ∧ w.heap[b]? = some (.cells ⟨cl⟩ t z) ∧ RowAt K w cl off qs)
theorem LsIn.ls {ρ : Env} {K c : Nat} {w : World} {v : Value} (h : LsIn K w v (ρ.lst c)) (hlo : ρ.lo = w.heap.size) : lsIs ρ K c w v := by
 obtain ⟨a, m, h1, h2, h3⟩ := h
 exact ⟨a, m, h1, h2, fun hp => by
  obtain ⟨b, off, cl, t, z, h4, h5, h6⟩ := h3 hp
  exact ⟨b, off, cl, t, z, h4, by rw [hlo]; exact (Array.getElem?_eq_some_iff.1 h5).1, h5, h6⟩⟩
def OlIn (K : Nat) (w : World) (v : Value) (qs : List Rat) : Prop := ∃ a m, v = .slice a qs.length m ∧ qs.length ≤ m ∧ (a = none → m = 0) ∧ ∀ ad, a = some ad → ∃ cl, ad = ⟨ad.block, 0, none⟩ ∧ w.heap[ad.block]? = some (.cells ⟨cl⟩ (tyK K) (0, 0)) ∧ cl.length = m * elSz K ∧ RowAt K w cl 0 qs
theorem olIs.to {ρ : Env} {K : Nat} {l : Le} {w : World} {v : Value} (h : olIs ρ K l none w v) : OlIn K w v (l.ev ρ) := by
 obtain ⟨a, n, m, h1, h2, h3, h4, h5, h6⟩ := h
 have h4' : n = (l.ev ρ).length := h4
 subst h4'
 exact ⟨a, m, h1, h2, h5, fun ad had => by
  obtain ⟨cl, g1, g2, g3, g4, _⟩ := h6 ad had
  exact ⟨cl, g1, g2, g3, g4⟩⟩
theorem OlIn.ol {ρ : Env} {K : Nat} {l : Le} {w : World} {v : Value} (h : OlIn K w v (l.ev ρ)) : olIs ρ K l none w v := by
 obtain ⟨a, m, h1, h2, h5, h6⟩ := h
 exact ⟨a, _, m, h1, h2, Nat.le_refl _, rfl, h5, fun ad had => by
  obtain ⟨cl, g1, g2, g3, g4⟩ := h6 ad had
  exact ⟨cl, g1, g2, g3, g4, fun i a b => by omega⟩⟩
theorem OlIn.ls {K : Nat} {w : World} {v : Value} {qs : List Rat} (h : OlIn K w v qs) : LsIn K w v qs := by
 obtain ⟨a, m, h1, h2, h5, h6⟩ := h
 refine ⟨a, m, h1, h2, fun hp => ?_⟩
 cases a with
 | none => have := h5 rfl; cases qs with
  | nil => exact absurd rfl hp
  | cons q l => simp only [List.length_cons] at h2; omega
 | some ad =>
  obtain ⟨cl, g1, g2, g3, g4⟩ := h6 ad rfl
  exact ⟨ad.block, 0, cl, _, _, by rw [← g1], g2, g4⟩
noncomputable def loopOf (f n : Nat) : Code := match (Try.prog).funcs[f]? with
 | some fn => match fn.body with
  | some c => ((loopsIn c)[n]?).getD .skip
  | none => .skip
 | none => .skip
noncomputable def noJ : Jmps := fun _ _ => none
theorem fit00 : Fit (0 : Rat) := ⟨by decide, by decide⟩
def rdQ (qs : List Rat) (k : Nat) : Nat → Rat
 | 1 => qs.getLastD 0
 | 2 => qs.getD k 0
 | _ => 0
theorem rdQ_fit {qs : List Rat} (hq : ∀ q ∈ qs, Fit q) (k i : Nat) : Fit (rdQ qs k i) := by
 unfold rdQ
 split
 ·cases qs with
  | nil => exact fit00
  | cons a l =>
   rw [List.getLastD_cons]
   cases l with
   | nil => exact hq a (by simp)
   | cons b l => exact hq _ (by rw [List.getLastD_cons, ← List.getLast_eq_getLastD (by simp)]; exact List.mem_cons_of_mem _ (List.getLast_mem _))
 ·rw [List.getD_eq_getElem?_getD]
  cases h : qs[k]? with
  | none => exact fit00
  | some x => exact hq x (List.mem_of_getElem? h)
 ·exact fit00
def rdNat (n k : Nat) : Nat → Nat
 | 1 => n
 | 2 => k
 | _ => 0
def rdLst (qs : List Rat) (k : Nat) : Nat → List Rat
 | 0 => qs
 | 1 => qs.take k
 | _ => []
def rdEnv (qs : List Rat) (hq : ∀ q ∈ qs, Fit q) (lo k : Nat) : Env := ⟨rdQ qs k, fun _ => (false, ⟨#[]⟩, ⟨#[]⟩), fun i _ => rdQ_fit hq k i, fun i => (rdQ_fit hq k i).sm.up (by decide), fun _ => bad_zero, lo, rdLst qs k, rdNat qs.length k, rfl⟩
theorem few5 : (symSig (rdEnv [] (fun _ h => by simp at h) 0 0)).G ≤ 50000 := Nat.le_of_ble_eq_true (by kernel_rfl)
section
variable {qs : List Rat} (hq : ∀ q ∈ qs, Fit q) (lo : Nat)
end
structure PolyOK (qs : List Rat) : Prop where
 fit : ∀ q ∈ qs, Fit q
 last : qs ≠ [] → qs.getLastD 0 ≠ 0
noncomputable def lsArg (B : List Ix) (v : Value) : M Sy (Nat × Le) := match chanOf v with
 | some i => bind (rd i) fun x => match x with
  | .fact f => match f with
   | .ls K c => ret (K, .v c)
   | _ => fail
  | .ow f => match f with
   | .ol K l z => match z with
    | none => ret (K, l)
    | some q => match leN B l with
     | some p => cond (Nat.beq p.1 q.1 && eqI p.2 q.2) (ret (K, l)) fail
     | none => fail
   | _ => fail
  | _ => fail
 | none => fail
theorem loc_lsArg (B : List Ix) (v : Value) : Loc (lsArg B v) := by
 unfold lsArg
 split
 ·refine loc_bind (loc_rd _) fun x => ?_
  (repeat' split) <;> first | exact loc_ret _ | exact loc_cond (loc_ret _) loc_fail | exact loc_fail
 ·exact loc_fail
structure NewOl (K : Nat) (w w' : World) (u : Value) (qs : List Rat) : Prop where
 ol : OlIn K w' u qs
 new : ∀ b, blkV u = some b → w.heap.size ≤ b ∧ ∃ c t z, w'.heap[b]? = some (.cells c t z) ∧ symHid t = false
section
variable {ρ : Env} {B : List Ix} {h h' : Tr (Blk Sy)} {nx nx' : Nat} {R W : List Nat} {r : Ren} {w : World}
theorem lsArg_ok (hB : AllX ρ B) {v v' : Value} {y : Nat × Le} (e : lsArg B v h nx = .ok y h' nx' R W) (hv : VR r v v') (hM : Mod (symSig ρ) r h.get w) : h' = h ∧ nx' = nx ∧ W = [] ∧ LsIn y.1 w v' (y.2.ev ρ) := by
 unfold lsArg at e
 cases hc : chanOf v with
 | none => rw [hc] at e; cases (show (fail : M Sy (Nat × Le)) h nx = _ from e)
 | some i =>
  rw [hc] at e
  have hv' := vr_chanV hc hv
  obtain ⟨x, h1, nx1, R1, W1, R2, W2, e1, e2, rfl, rfl⟩ := bind_ok e
  obtain ⟨hg, rfl, rfl, rfl⟩ := rdb_ok e1
  cases x <;> first | (cases (show (fail : M Sy (Nat × Le)) _ _ = _ from e2); done) | skip
  ·rename_i f
   cases f <;> first | (cases (show (fail : M Sy (Nat × Le)) _ _ = _ from e2); done) | skip
   rename_i K c
   obtain ⟨rfl, rfl, rfl, rfl⟩ := ret_ok (show (ret (K, Le.v c) : M Sy (Nat × Le)) _ _ = _ from e2)
   obtain ⟨v0, q1, q2, _⟩ := hM.fact i _ hg
   rw [hv'] at q1
   cases q1
   obtain ⟨a, m, k1, k2, k3⟩ := (show lsIs ρ K c w v' from q2)
   exact ⟨rfl, rfl, rfl, a, m, k1, k2, fun hp => by
    obtain ⟨b, off, cl, t, z, g1, _, g2, g3⟩ := k3 hp
    exact ⟨b, off, cl, t, z, g1, g2, g3⟩⟩
  ·rename_i f
   cases f <;> first | (cases (show (fail : M Sy (Nat × Le)) _ _ = _ from e2); done) | skip
   rename_i K l z
   obtain ⟨v0, q1, q2, _⟩ := hM.ow i _ hg
   rw [hv'] at q1
   cases q1
   have q2' : olIs ρ K l z w v' := q2
   cases z with
   | none =>
    obtain ⟨rfl, rfl, rfl, rfl⟩ := ret_ok (show (ret (K, l) : M Sy (Nat × Le)) _ _ = _ from e2)
    exact ⟨rfl, rfl, rfl, (olIs.to q2').ls⟩
   | some q =>
    simp only at e2
    cases hn : leN B l with
    | none => rw [hn] at e2; cases (show (fail : M Sy (Nat × Le)) _ _ = _ from e2)
    | some p =>
     rw [hn] at e2
     obtain ⟨hk, e3⟩ := cond_ok e2
     obtain ⟨rfl, rfl, rfl, rfl⟩ := ret_ok e3
     simp only [Bool.and_eq_true] at hk
     have hln := leN_ok hB hn
     rw [Nat.eq_of_beq_eq_true hk.1, eqI_ok hk.2] at hln
     exact ⟨rfl, rfl, rfl, (olIs.to (q2'.env (l' := l) (z' := none) rfl hln)).ls⟩
end
section
variable {qs : List Rat} (hq : ∀ q ∈ qs, Fit q) (lo : Nat)
end
theorem newOl_of {ρ : Env} {K : Nat} {l : Le} {z : Option (Nat × Int)} {w w' : World} {u : Value} {qs : List Rat} (hlo : ρ.lo = w.heap.size) (h : (D1.ow (.ol K l z) : D1 Sy).is (symSig ρ) w' u) (hl : l.ev ρ = qs) (hz : ∀ p, z = some p → ((qs.length : Nat) : Int) = ρ.nat p.1 + p.2) : NewOl K w w' u qs := by
 subst hl
 refine ⟨olIs.to (ρ := ρ) (l := l) (olIs.env (show olIs ρ K l z w' u from h.1) (l' := l) (z' := none) rfl ?_), fun b hbu => ?_⟩
 ·cases z with
  | none => trivial
  | some p => exact hz p rfl
 ·obtain ⟨_, c, t, z, g1, g2⟩ := h.2.2 b hbu
  have g2' : (Nat.blt b ρ.lo || (ρ.fz.t t || symHid t)) = false := g2
  rw [Bool.or_eq_false_iff] at g2'
  refine ⟨?_, c, t, z, g1, (Bool.or_eq_false_iff.1 g2'.2).2⟩
  rcases Nat.lt_or_ge b w.heap.size with q | q
  ·have : Nat.blt b ρ.lo = true := by rw [hlo]; exact Nat.ble_eq_true_of_le q
   rw [this] at g2'
   cases g2'.1
  ·exact q
structure TrimAt (l : List Rat) (m : Nat) : Prop where
 le : m ≤ l.length
 zero : ∀ i, m ≤ i → i < l.length → l[i]? = some 0
 last : 0 < m → l.getD (m - 1) 0 ≠ 0
theorem getD_fit {l : List Rat} (hq : ∀ q ∈ l, Fit q) (k : Nat) : Fit (l.getD k 0) := by
 rw [List.getD_eq_getElem?_getD]
 cases h : l[k]? with
 | none => exact fit00
 | some x => exact hq x (List.mem_of_getElem? h)
section
variable {qs : List Rat} (hq : ∀ q ∈ qs, Fit q) (lo : Nat) {n m : Nat}
end
section
variable {qs : List Rat} (hq : ∀ q ∈ qs, Fit q) (lo : Nat) {n m : Nat}
end
namespace Fq
set_option maxRecDepth 100000
noncomputable def sameO (A : List As) (l m : List Value) (o p : Option Qe) : Option Bool := match o with
 | some e => match p with
  | some f => cond (e.beq f) (some true) (ask A 2 e f)
  | none => match fitB A e with
   | some t => cond t (some false) none
   | none => none
 | none => match p with
  | some f => match fitB A f with
   | some t => cond t (some false) none
   | none => none
  | none => cond (eqL eq1 l m && plainL plain l) (some true) none
noncomputable def eq3 (A : List As) (l m : List Value) : M Sy (Option Bool) := bind (frcV l) fun o => bind (frcV m) fun p => ret (sameO A l m o p)
noncomputable def ansEq (op : BinOp) (b : Option Bool) : M Sy Nxt := match b with
 | some b => match op with
  | .eql => val (.bool b)
  | .neq => val (.bool (!b))
  | _ => fail
 | none => fail
noncomputable def frH (A : List As) (G : Oper → List Value → M Sy Nxt) (o : Oper) (vs : List Value) : M Sy Nxt := match o.op with
 | .binOp op t _ _ _ => match twoM vs with
  | some y => match y.1 with
   | .agg cs => match y.2 with
    | .agg ds => cond (Nat.beq t 27) (bind (eq3 A cs.toList ds.toList) (ansEq op)) fail
    | _ => fail
   | _ => G o vs
  | none => fail
 | _ => G o vs
theorem loc_eq3 (A : List As) (l m : List Value) : Loc (eq3 A l m) := loc_bind (loc_frcV _) fun _ => loc_bind (loc_frcV _) fun _ => loc_ret _
theorem loc_ansEq (op : BinOp) (b : Option Bool) : Loc (ansEq op b) := by
 unfold ansEq
 (repeat' split) <;> first | exact loc_val _ | exact loc_fail
theorem loc_frH {G : Oper → List Value → M Sy Nxt} (hG : ∀ o vs, Loc (G o vs)) (A : List As) (o : Oper) (vs : List Value) : Loc (frH A G o vs) := by
 unfold frH
 (repeat' split) <;> first
  | exact loc_fail
  | exact loc_cond (loc_bind (loc_eq3 _ _ _) fun _ => loc_ansEq _ _) loc_fail
  | exact hG _ _
section
variable {ρ : Env} {A : List As} {h h' : Tr (Blk Sy)} {nx nx' : Nat} {R W : List Nat} {r : Ren} {w : World}
end
noncomputable def lsCfgQ (kp : Bool) (A : List As) (B : List Ix) (j : Jmps) : Cfg Sy where
 hid _ := symHid
 G := natCfg.G
 glob := natCfg.glob
 tab := natCfg.tab
 len := symLen
 jmp := j
 hard := lsHard kp A B (frH A (memHard Try.prog memC))
instance lsHardQ (kp : Bool) (A : List As) (B : List Ix) (j : Jmps) : HardLoc (lsCfgQ kp A B j) := ⟨loc_lsHard (loc_frH (loc_memHard Try.prog memC) A) kp A B⟩
end Fq
end Ev
end Go.Proofs.Ytnlhjcfpfapafaa
