/- Contracts. -/
import Derived.Test.YtnlhjcfpfapafaaGreatDoorPOq25
import Derived.Laws.Small
import Derived.Laws.StructEq
namespace Go.Proofs.YtnlhjcfpfapafaaGreatDoor
open Go Go.RowKit
namespace Ev
set_option maxRecDepth 100000
noncomputable def ZeW (vs : List Value) : Bool := match vs with
 | v :: _ => YC v
 | [] => false
noncomputable def ZkY (B : List Ix) (c : Call) (vs : List Value) : M Sy Nxt := match c.callee with
 | .builtin b => match c.argTypes[0]? with
  | some t => match b with
   | .len => match Zfz vs with
    | some v => match ZK v with
     | some m => match Zz Tryz.prog t with
      | some _ => oLn B m
      | none => fail
     | none => fail
    | none => fail
   | .append => match WF vs with
    | some y => match ZK y.1 with
     | some m => match c.argTypes[1]? with
      | some tx => oAp B t tx m y.2
      | none => fail
     | none => fail
    | none => fail
   | _ => fail
  | none => fail
 | _ => fail
theorem Zip (B : List Ix) (c : Call) (vs : List Value) : Loc (ZkY B c vs) := by
 unfold ZkY
 (repeat' split) <;> first | exact Za | exact ZkG _ _ | exact ZkL _ _ _ _ _
noncomputable def mmB (c : Call) : Option Nat := match c.callee with
 | .builtin b => match b with
  | .min => some 2
  | .max => some 3
  | _ => none
 | _ => none
noncomputable def mmH (B : List Ix) (k : Nat) (vs : List Value) : M Sy Nxt := match WF vs with
 | some y => bind (ixV y.1) fun p => bind (ixV y.2) fun q => biH B k p q
 | none => fail
theorem ZkZ (B : List Ix) (k : Nat) (vs : List Value) : Loc (mmH B k vs) := by
 unfold mmH
 split
 ·exact Zb (Y8 _) fun _ => Zb (Y8 _) fun _ => Za9 _ _ _ _
 ·exact Za
noncomputable def Qg (kp : Bool) (A : List As) (B : List Ix) (G : Oper → List Value → M Sy Nxt) (o : Oper) (vs : List Value) : M Sy Nxt := match o.op with
 | .load t _ => match Zfz vs with
  | some v => match ZK v with
   | some i => oLd B t i
   | none => fail
  | none => fail
 | .store t _ _ => match WF vs with
  | some y => match ZK y.1 with
   | some i => oSt B t i y.2
   | none => fail
  | none => fail
 | .indexAddr t _ _ => match WF vs with
  | some y => match ZK y.1 with
   | some m => bind (ixV y.2) fun p => Zm6 B t p m
   | none => fail
  | none => fail
 | .makeSlice t _ _ => match WF vs with
  | some y => bind (ixV y.1) fun p => bind (ixV y.2) fun q => oMk B t p q
  | none => fail
 | .convert s t _ => match Zfz vs with
  | some v => cvH s t v
  | none => fail
 | .slice t _ lo hi mx => cond (ZeW vs) (cond (lo.isNone && (hi.isSome && mx.isNone)) (match WF vs with
  | some y => shH B kp t y.1 y.2
  | none => fail) (cond (lo.isSome && (hi.isNone && mx.isNone)) (match WF vs with
  | some y => tlH B t y.1 y.2
  | none => fail) fail)) (G o vs)
 | .binOp op _ _ _ _ => match WF vs with
  | some y => cond (YC y.1 || YC y.2) (Zm9 A B op y.1 y.2) (G o vs)
  | none => fail
 | .call c => match mmB c with
  | some k => mmH B k vs
  | none => cond (ZeW vs) (ZkY B c vs) (G o vs)
 | _ => G o vs
theorem J5 {G : Oper → List Value → M Sy Nxt} (hG : ∀ o vs, Loc (G o vs)) (kp : Bool) (A : List As) (B : List Ix) (o : Oper) (vs : List Value) : Loc (Qg kp A B G o vs) := by
 unfold Qg
 (repeat' split) <;> first
  | exact Za
  | exact ZkF _ _ _
  | exact ZkH _ _ _ _
  | exact Zb (Y8 _) fun _ => Zil _ _ _ _
  | exact Zb (Y8 _) fun _ => Zb (Y8 _) fun _ => ZkI _ _ _ _
  | exact ZkO _ _ _
  | exact Ze (Ze (ZkV _ _ _ _ _) (Ze (ZkT _ _ _ _) Za)) (hG _ _)
  | exact Ze (Ze Za (Ze Za Za)) (hG _ _)
  | exact Ze (Zim _ _ _ _ _) (hG _ _)
  | exact ZkZ _ _ _
  | exact Ze (Zip _ _ _) (hG _ _)
  | exact hG _ _
section
variable {ρ : Env} {A : List As} {B : List Ix}
theorem K9 (hA : Yd ρ A) (hB : ZD ρ B) {G : Oper → List Value → M Sy Nxt} {C : Cfg Sy} (hG : Xg (Zf ρ) Tryz.prog { C with hard := G }) {kp : Bool} (hC : C.hard = Qg kp A B G) : Xg (Zf ρ) Tryz.prog C := by
 intro o vs h nx x h' nx' R W hs e r w ρo hM hN hv
 rw [hC] at e
 unfold Qg at e
 have back : G o vs h nx = .ok x h' nx' R W → nx ≤ nx' ∧ WB (Zf ρ) Tryz.prog ((execOp ρo o).run Tryz.prog w) r w nx nx' W h'.get x := fun e2 => hG o vs h nx x h' nx' R W hs e2 r w ρo hM hN hv
 cases hop : o.op with
 | load t y =>
  rw [hop] at e
  simp only at e
  have hops : o.op.operands.toList.map ρo = [ρo y] := by rw [hop]; rfl
  rw [hops] at hv
  rcases vs with _ | ⟨u, _ | ⟨z, l⟩⟩ <;> first | (cases (show (fail : M Sy Nxt) h nx = _ from e); done) | skip
  simp only [Zfz] at e
  cases hv with
  | cons hu hv =>
   cases hc : ZK u with
   | none => rw [hc] at e; cases (show (fail : M Sy Nxt) h nx = _ from e)
   | some i =>
    rw [hc] at e
    obtain ⟨hle, v, u2, ad, r', rfl, hp, hl, hvr, hX⟩ := ZmZ hB e (XI hc hu) hM hN
    refine ⟨hle, u2, w, r', ?_, hvr, hX⟩
    simp only [execOp, hop, hp, Instr.loadAt, Instr.sureAddr, Sem.run_bind, Sem.run_pure, Result.andThen_ok, hl]
 | store t y z =>
  rw [hop] at e
  simp only at e
  have hops : o.op.operands.toList.map ρo = [ρo y, ρo z] := by rw [hop]; rfl
  rw [hops] at hv
  rcases vs with _ | ⟨u, _ | ⟨z1, _ | ⟨z2, l⟩⟩⟩ <;> first | (cases (show (fail : M Sy Nxt) h nx = _ from e); done) | skip
  simp only [WF] at e
  cases hv with
  | cons hu hv => cases hv with
   | cons hz hv =>
    cases hc : ZK u with
    | none => rw [hc] at e; cases (show (fail : M Sy Nxt) h nx = _ from e)
    | some i =>
     rw [hc] at e
     obtain ⟨rfl, rfl, ad, w', hp, hl, hX⟩ := Zm2 hB e (XI hc hu) hz hM
     refine ⟨Nat.le_refl _, w', r, ?_, hX⟩
     simp only [execOp, hop, hp, Instr.storeAt, Instr.sureAddr, Sem.run_bind, Sem.run_pure, Result.andThen_ok, hl]
 | indexAddr t y i =>
  rw [hop] at e
  simp only at e
  have hops : o.op.operands.toList.map ρo = [ρo y, ρo i] := by rw [hop]; rfl
  rw [hops] at hv
  rcases vs with _ | ⟨u, _ | ⟨z1, _ | ⟨z2, l⟩⟩⟩ <;> first | (cases (show (fail : M Sy Nxt) h nx = _ from e); done) | skip
  simp only [WF] at e
  cases hv with
  | cons hu hv => cases hv with
   | cons hz hv =>
    cases hc : ZK u with
    | none => rw [hc] at e; cases (show (fail : M Sy Nxt) h nx = _ from e)
    | some m =>
     rw [hc] at e
     obtain ⟨p, h1, nx1, R1, W1, R2, W2, e1, e2, rfl, rfl⟩ := Zc e
     obtain ⟨rfl, rfl, rfl, hp⟩ := XV e1 hz hM
     obtain ⟨hle, v, u2, r', rfl, hl, hvr, hX⟩ := ZkX hB e2 (XI hc hu) hM hN
     refine ⟨hle, u2, w, r', ?_, hvr, by simpa using hX⟩
     simp only [execOp, hop, hp, Sem.run_bind, hl, Result.andThen_ok, Sem.run_pure]
 | makeSlice t y i =>
  rw [hop] at e
  simp only at e
  have hops : o.op.operands.toList.map ρo = [ρo y, ρo i] := by rw [hop]; rfl
  rw [hops] at hv
  rcases vs with _ | ⟨u, _ | ⟨z1, _ | ⟨z2, l⟩⟩⟩ <;> first | (cases (show (fail : M Sy Nxt) h nx = _ from e); done) | skip
  simp only [WF] at e
  cases hv with
  | cons hu hv => cases hv with
   | cons hz hv =>
    obtain ⟨p, h1, nx1, R1, W1, R2, W2, e1, e2, rfl, rfl⟩ := Zc e
    obtain ⟨rfl, rfl, rfl, hp⟩ := XV e1 hu hM
    obtain ⟨q, h3, nx3, R3, W3, R4, W4, e3, e4, rfl, rfl⟩ := Zc e2
    obtain ⟨rfl, rfl, rfl, hq⟩ := XV e3 hz hM
    obtain ⟨hle, v, u2, r', w', rfl, hl, hvr, hX⟩ := Zm3 hB e4 hM hN
    refine ⟨hle, u2, w', r', ?_, hvr, by simpa using hX⟩
    simp only [execOp, hop, hp, hq, Sem.run_bind, hl, Result.andThen_ok, Sem.run_pure]
 | convert s t y =>
  rw [hop] at e
  simp only at e
  have hops : o.op.operands.toList.map ρo = [ρo y] := by rw [hop]; rfl
  rw [hops] at hv
  rcases vs with _ | ⟨u, _ | ⟨z, l⟩⟩ <;> first | (cases (show (fail : M Sy Nxt) h nx = _ from e); done) | skip
  simp only [Zfz] at e
  cases hv with
  | cons hu hv =>
   obtain ⟨hle, v, u2, r', rfl, hl, hvr, hX⟩ := Znd e hu hM hN
   refine ⟨hle, u2, w, r', ?_, hvr, hX⟩
   simp only [execOp, hop, Sem.run_bind, hl, Result.andThen_ok, Sem.run_pure]
 | slice t y lo hi mx =>
  rw [hop] at e
  simp only at e
  rcases V2 e with e1 | e1
  ·rcases Zce e1 with ⟨hk, e2⟩ | ⟨_, e1⟩
   case inr =>
    obtain ⟨hk, e2⟩ := Zi e1
    simp only [Bool.and_eq_true, Option.isNone_iff_eq_none] at hk
    obtain ⟨hk2, rfl, rfl⟩ := hk
    obtain ⟨b, rfl⟩ := Option.isSome_iff_exists.1 hk2
    have hops : o.op.operands.toList.map ρo = [ρo y, ρo b] := by rw [hop]; rfl
    rw [hops] at hv
    rcases vs with _ | ⟨u, _ | ⟨z1, _ | ⟨z2, l⟩⟩⟩ <;> first | (cases (show (fail : M Sy Nxt) h nx = _ from e2); done) | skip
    simp only [WF] at e2
    cases hv with
    | cons hu hv => cases hv with
     | cons hz hv =>
      obtain ⟨hle, v, u2, r', rfl, hl, hvr, hX⟩ := Znb hB e2 hu hz hM hN
      refine ⟨hle, u2, w, r', ?_, hvr, by simpa using hX⟩
      simp only [execOp, hop, Option.map_some, Option.map_none, Sem.run_bind, hl, Result.andThen_ok, Sem.run_pure]
   simp only [Bool.and_eq_true, Option.isNone_iff_eq_none] at hk
   obtain ⟨rfl, hk2, rfl⟩ := hk
   obtain ⟨b, rfl⟩ := Option.isSome_iff_exists.1 hk2
   have hops : o.op.operands.toList.map ρo = [ρo y, ρo b] := by rw [hop]; rfl
   rw [hops] at hv
   rcases vs with _ | ⟨u, _ | ⟨z1, _ | ⟨z2, l⟩⟩⟩ <;> first | (cases (show (fail : M Sy Nxt) h nx = _ from e2); done) | skip
   simp only [WF] at e2
   cases hv with
   | cons hu hv => cases hv with
    | cons hz hv =>
     have e0 : bind (Zf2 u) (fun k => cond k (hdH B t u z1) (slH B kp t u z1)) h nx = .ok x h' nx' R W := e2
     clear e2
     obtain ⟨kf, h1, nx1, R1, W1, R2, W2, e3, e2, rfl, rfl⟩ := Zc e0
     obtain ⟨rfl, rfl, rfl⟩ := ZkW e3
     rcases Zce e2 with ⟨_, e2⟩ | ⟨_, e2⟩
     case inl =>
      obtain ⟨hle, v, u2, r', rfl, hl, hvr, hX⟩ := Zna hB e2 hu hz hM hN
      refine ⟨hle, u2, w, r', ?_, hvr, by simpa using hX⟩
      simp only [execOp, hop, Option.map_some, Option.map_none, Sem.run_bind, hl, Result.andThen_ok, Sem.run_pure]
     unfold slH at e2
     cases hc : ZK u with
     | none => rw [hc] at e2; cases (show (fail : M Sy Nxt) _ _ = _ from e2)
     | some m =>
      rw [hc] at e2
      obtain ⟨p, h1, nx1, R1, W1, R2, W2, e3, e4, rfl, rfl⟩ := Zc e2
      obtain ⟨rfl, rfl, rfl, hp⟩ := XV e3 hz hM
      obtain ⟨hle, v, u2, r', rfl, hl, hvr, hX⟩ := Znc hB e4 (XI hc hu) hM hN
      refine ⟨hle, u2, w, r', ?_, hvr, by simpa using hX⟩
      simp only [execOp, hop, hp, Option.map_some, Option.map_none, Sem.run_bind, hl, Result.andThen_ok, Sem.run_pure]
  ·exact back e1
 | binOp op t p q yt =>
  rw [hop] at e
  simp only at e
  have hops : o.op.operands.toList.map ρo = [ρo p, ρo q] := by rw [hop]; rfl
  have hv0 := hv
  rw [hops] at hv
  rcases vs with _ | ⟨u, _ | ⟨z1, _ | ⟨z2, l⟩⟩⟩ <;> first | (cases (show (fail : M Sy Nxt) h nx = _ from e); done) | skip
  simp only [WF] at e
  rcases V2 e with e1 | e1
  ·cases hv with
   | cons hu hv => cases hv with
    | cons hz hv =>
     obtain ⟨f, h1, nx1, R1, W1, R2, W2, e2, e3, rfl, rfl⟩ := Zc (show Zm9 A B op u z1 h nx = _ from e1)
     have hcv : VR r (cond (YC u) u z1) (cond (YC u) (ρo p) (ρo q)) := by cases YC u <;> assumption
     obtain ⟨rfl, rfl, rfl, hf⟩ := ZB e2 hcv hM
     cases f <;> first | (cases (show (fail : M Sy Nxt) _ _ = _ from e3); done) | skip
     ·obtain ⟨x1, h3, nx3, R3, W3, R4, W4, e4, e5, rfl, rfl⟩ := Zc (show bind (ixV u) _ _ _ = _ from e3)
      obtain ⟨rfl, rfl, rfl, hp⟩ := XV e4 hu hM
      obtain ⟨y1, h5, nx5, R5, W5, R6, W6, e6, e7, rfl, rfl⟩ := Zc e5
      obtain ⟨rfl, rfl, rfl, hq⟩ := XV e6 hz hM
      obtain ⟨hle, v, u2, r', rfl, hl, hvr, hX⟩ := ZkA hB e7 hM hN t p q
      refine ⟨hle, u2, w, r', ?_, hvr, by simpa using hX⟩
      simp only [execOp, hop, hp, hq]
      rw [Sem.run_bind, hl]
      rfl
     ·rename_i k qe
      obtain ⟨hk, e4⟩ := Zi (show cond (YC u) (izH A B op k qe z1) fail _ _ = _ from e3)
      rw [hk] at hf
      have hf2 : JQ k (qe.ev ρ.q) (ρo p) := hf
      obtain ⟨rfl, rfl, rfl, b, rfl, hpb, hl⟩ := Zne (w := w) hA hB e4 hf2 hz t p q
      refine ⟨Nat.le_refl _, b, w, r, ?_, .same hpb, by simpa using Ext.refl _ _ hM⟩
      simp only [execOp, hop]
      rw [Sem.run_bind, hl]
      rfl
  ·exact back e1
 | call c =>
  rw [hop] at e
  simp only at e
  cases hmm : mmB c with
  | some k =>
   rw [hmm] at e
   simp only at e
   unfold mmB at hmm
   obtain ⟨callee, args, ats⟩ := c
   unfold mmH at e
   rcases vs with _ | ⟨u, _ | ⟨z, _ | ⟨z2, l⟩⟩⟩ <;> first | (cases (show (fail : M Sy Nxt) h nx = _ from e); done) | skip
   simp only [WF] at e
   have hops : o.op.operands.toList.map ρo = args.toList.map ρo := by
    cases callee with
    | builtin b => rw [hop]; simp [Op.operands, Call.operands]
    | _ => simp at hmm
   rw [hops] at hv
   generalize hl : args.toList.map ρo = al at hv
   cases hv with
   | cons hu hv => cases hv with
    | cons hz hn =>
     cases hn
     rename_i u' z'
     have hA : args.map ρo = #[u', z'] := by rw [YP, hl]
     obtain ⟨p, h1, nx1, R1, W1, R2, W2, e1, e2, rfl, rfl⟩ := Zc e
     obtain ⟨rfl, rfl, rfl, hp⟩ := XV e1 hu hM
     obtain ⟨q, h3, nx3, R3, W3, R4, W4, e3, e4, rfl, rfl⟩ := Zc e2
     obtain ⟨rfl, rfl, rfl, hq⟩ := XV e3 hz hM
     obtain ⟨t, g1, g2, hle, v, r', rfl, hvr, hX⟩ := ZdM hB e4 hM hN
     refine ⟨hle, .int .i64 t, w, r', ?_, hvr, by simpa using hX⟩
     subst hp hq
     cases callee with
     | builtin b =>
      cases b <;> simp only [reduceCtorEq, Option.some.injEq] at hmm
      ·subst hmm
       have g1' : (if Zl ρ q.1 q.2 > Zl ρ p.1 p.2 then Zl ρ q.1 q.2 else Zl ρ p.1 p.2) = t := g1
       simp only [execOp, hop, resolve, hA, Sem.run_bind, Sem.run_pure, Result.andThen_ok, invoke, builtin, run_max_int2, g1']
      ·subst hmm
       have g1' : (if Zl ρ q.1 q.2 < Zl ρ p.1 p.2 then Zl ρ q.1 q.2 else Zl ρ p.1 p.2) = t := g1
       simp only [execOp, hop, resolve, hA, Sem.run_bind, Sem.run_pure, Result.andThen_ok, invoke, builtin, run_min_int2, g1']
     | _ => simp at hmm
  | none =>
  rw [hmm] at e
  simp only at e
  rcases V2 e with e1 | e1
  ·obtain ⟨callee, args, ats⟩ := c
   unfold ZkY at e1
   cases callee with
   | builtin b =>
    simp only at e1
    have hops : o.op.operands.toList.map ρo = args.toList.map ρo := by rw [hop]; simp [Op.operands, Call.operands]
    rw [hops] at hv
    cases ha0 : ats[0]? with
    | none => rw [ha0] at e1; cases (show (fail : M Sy Nxt) h nx = _ from e1)
    | some t =>
     rw [ha0] at e1; simp only at e1
     cases b <;> first
      | (cases (show (fail : M Sy Nxt) h nx = _ from e1); done)
      | skip
     ·-- append
      rcases vs with _ | ⟨u, _ | ⟨z, _ | ⟨z2, l⟩⟩⟩ <;> first | (cases (show (fail : M Sy Nxt) h nx = _ from e1); done) | skip
      simp only [WF] at e1
      generalize hl : args.toList.map ρo = al at hv
      cases hv with
      | cons hu hv => cases hv with
       | cons hz hn =>
        cases hn
        rename_i u' z'
        have hA : args.map ρo = #[u', z'] := by rw [YP, hl]
        cases hc : ZK u with
        | none => rw [hc] at e1; cases (show (fail : M Sy Nxt) h nx = _ from e1)
        | some m =>
         rw [hc] at e1; simp only at e1
         cases ha1 : ats[1]? with
         | none => rw [ha1] at e1; cases (show (fail : M Sy Nxt) h nx = _ from e1)
         | some tx =>
          rw [ha1] at e1
          obtain ⟨hle, v, u2, r', w', rfl, hrun, hvr, hX⟩ := Zm5 (ty := o.type) hB e1 (XI hc hu) hz hM hN
          refine ⟨hle, u2, w', r', ?_, hvr, hX⟩
          have hsame : Builtin.append_ ats o.type #[u', z'] = Builtin.append_ #[t, tx] o.type #[u', z'] := by simp [Builtin.append_, ha0, ha1]
          simp only [execOp, hop, resolve, hA, Sem.run_bind, Sem.run_pure, Result.andThen_ok, invoke, builtin, hsame, hrun]
     ·-- len
      rcases vs with _ | ⟨u, _ | ⟨z, l⟩⟩ <;> first | (cases (show (fail : M Sy Nxt) h nx = _ from e1); done) | skip
      simp only [Zfz] at e1
      generalize hl : args.toList.map ρo = al at hv
      cases hv with
      | cons hu hn =>
       cases hn
       rename_i u'
       have hA : args.map ρo = #[u'] := by rw [YP, hl]
       cases hc : ZK u with
       | none => rw [hc] at e1; cases (show (fail : M Sy Nxt) h nx = _ from e1)
       | some m =>
        rw [hc] at e1; simp only at e1
        cases hs2 : Zz Tryz.prog t with
        | none => rw [hs2] at e1; cases (show (fail : M Sy Nxt) h nx = _ from e1)
        | some el =>
         rw [hs2] at e1
         obtain ⟨hle, v, u2, r', rfl, hrun, hvr, hX⟩ := Zm0 (ty := o.type) hB hs2 e1 (XI hc hu) hM hN
         refine ⟨hle, u2, w, r', ?_, hvr, hX⟩
         have hsame : Builtin.len_ ats o.type #[u'] = Builtin.len_ #[t] o.type #[u'] := by simp [Builtin.len_, ha0]
         simp only [execOp, hop, resolve, hA, Sem.run_bind, Sem.run_pure, Result.andThen_ok, invoke, builtin, hsame, hrun]
   | _ => cases (show (fail : M Sy Nxt) h nx = _ from e1)
  ·exact back e1
 | _ => rw [hop] at e; exact back e
end
noncomputable def Le.beq (a : Le) : Le → Bool := Le.rec (motive := fun _ => Le → Bool) (fun b => match b with
  | .nil => true
  | _ => false) (fun c b => match b with
  | .v d => Nat.beq c d
  | _ => false) (fun _ e ih b => match b with
  | .snoc l f => ih l && e.beq f
  | _ => false) (fun _ x s ih b => match b with
  | .take l y t => ih l && (Nat.beq x y && eqI s t)
  | _ => false) a
theorem Le.beq_ok : ∀ (a b : Le), a.beq b = true → a = b
 | .nil, b, h => by cases b <;> first | rfl | (cases (show false = true from h); done)
 | .v c, b, h => by
  cases b <;> first | (cases (show false = true from h); done) | skip
  rw [Nat.eq_of_beq_eq_true (show Nat.beq c _ = true from h)]
 | .snoc l e, b, h => by
  cases b <;> first | (cases (show false = true from h); done) | skip
  have h' := Bool.and_eq_true_iff.1 (show (l.beq _ && e.beq _) = true from h)
  rw [Le.beq_ok l _ h'.1, Qe.beq_ok _ _ h'.2]
 | .take l x s, b, h => by
  cases b <;> first | (cases (show false = true from h); done) | skip
  have h' := Bool.and_eq_true_iff.1 (show (l.beq _ && (Nat.beq x _ && eqI s _)) = true from h)
  have h2 := Bool.and_eq_true_iff.1 h'.2
  rw [Le.beq_ok l _ h'.1, Nat.eq_of_beq_eq_true h2.1, Z2 h2.2]
noncomputable def eqZ (z y : Option (Nat × Int)) : Bool := match z with
 | none => match y with
  | none => true
  | some _ => false
 | some p => match y with
  | some q => Nat.beq p.1 q.1 && eqI p.2 q.2
  | none => false
theorem Znf {z y : Option (Nat × Int)} (h : eqZ z y = true) : z = y := by
 cases z <;> cases y <;> first | rfl | (cases h; done) | skip
 rename_i p q
 obtain ⟨a, s⟩ := p
 obtain ⟨b, t⟩ := q
 have h' := Bool.and_eq_true_iff.1 (show (Nat.beq a b && eqI s t) = true from h)
 rw [Nat.eq_of_beq_eq_true h'.1, Z2 h'.2]
noncomputable def Yl (a b : Sy) : Bool := match a with
 | .ng e => match b with
  | .ng f => e.beq f
  | _ => false
 | .nu e => match b with
  | .nu f => e.beq f
  | _ => false
 | .de e => match b with
  | .de f => e.beq f
  | _ => false
 | .fn e => match b with
  | .fn f => e.beq f
  | _ => false
 | .fd e => match b with
  | .fd f => e.beq f
  | _ => false
 | .is e => match b with
  | .is f => e.beq f
  | _ => false
 | .ix x s => match b with
  | .ix y t => Nat.beq x y && eqI s t
  | _ => false
 | .iz k e => match b with
  | .iz l f => Nat.beq k l && e.beq f
  | _ => false
 | .ls K c => match b with
  | .ls L d => Nat.beq K L && Nat.beq c d
  | _ => false
 | .ol K l z => match b with
  | .ol L m y => Nat.beq K L && (l.beq m && eqZ z y)
  | _ => false
 | .wl x s => match b with
  | .wl y t => Nat.beq x y && eqI s t
  | _ => false
 | .lr c x => match b with
  | .lr d y => Nat.beq c d && Nat.beq x y
  | _ => false
 | _ => false
theorem YH (a b : Sy) (h : Yl a b = true) : a = b := by
 cases a <;> first | (cases (show false = true from h); done) | skip
 all_goals (cases b <;> first | (cases (show false = true from h); done) | skip)
 ·rw [Qe.beq_ok _ _ (show Qe.beq _ _ = true from h)]
 ·rw [Qe.beq_ok _ _ (show Qe.beq _ _ = true from h)]
 ·rw [Qe.beq_ok _ _ (show Qe.beq _ _ = true from h)]
 ·rw [Qe.beq_ok _ _ (show Qe.beq _ _ = true from h)]
 ·rw [Qe.beq_ok _ _ (show Qe.beq _ _ = true from h)]
 ·rw [Qe.beq_ok _ _ (show Qe.beq _ _ = true from h)]
 ·have h' := Bool.and_eq_true_iff.1 (show (Nat.beq _ _ && eqI _ _) = true from h)
  rw [Nat.eq_of_beq_eq_true h'.1, Z2 h'.2]
 ·have h' := Bool.and_eq_true_iff.1 (show (Nat.beq _ _ && Qe.beq _ _) = true from h)
  rw [Nat.eq_of_beq_eq_true h'.1, Qe.beq_ok _ _ h'.2]
 ·have h' := Bool.and_eq_true_iff.1 (show (Nat.beq _ _ && Nat.beq _ _) = true from h)
  rw [Nat.eq_of_beq_eq_true h'.1, Nat.eq_of_beq_eq_true h'.2]
 ·have h' := Bool.and_eq_true_iff.1 (show (Nat.beq _ _ && (Le.beq _ _ && eqZ _ _)) = true from h)
  have h2 := Bool.and_eq_true_iff.1 h'.2
  rw [Nat.eq_of_beq_eq_true h'.1, Le.beq_ok _ _ h2.1, Znf h2.2]
 ·have h' := Bool.and_eq_true_iff.1 (show (Nat.beq _ _ && eqI _ _) = true from h)
  rw [Nat.eq_of_beq_eq_true h'.1, Z2 h'.2]
 ·have h' := Bool.and_eq_true_iff.1 (show (Nat.beq _ _ && Nat.beq _ _) = true from h)
  rw [Nat.eq_of_beq_eq_true h'.1, Nat.eq_of_beq_eq_true h'.2]
theorem Zch (ρ : Env) : ∀ f n w v, (Zf ρ).holds f w v → ZaZ f = some n → ∃ a c, v = .slice a n c := fun f n w v h e => by
 cases f <;> first | (cases e; done) | skip
 rename_i k
 have e' : WO k = n := Option.some.inj e
 obtain ⟨a, c, rfl⟩ := UY (show Zj w v k from h)
 exact ⟨a, c, by rw [e']⟩
noncomputable def Zci : Cfg Sy := ZdB fun _ _ => fail
instance memHardL : HardLoc (ZdB (XL Tryz.prog Zci)) := ⟨XM Tryz.prog Zci⟩
abbrev J6 := FuncId → Code → Option (Tr Value → M Sy (Tr Value))
noncomputable def Yo (kp : Bool) (A : List As) (B : List Ix) (j : J6) : Cfg Sy where
 hid _ := ZW
 G := Yy.G
 glob := Yy.glob
 tab := Yy.tab
 len := ZaZ
 jmp := j
 hard := Qg kp A B (XL Tryz.prog Zci)
instance lsHardL (kp : Bool) (A : List As) (B : List Ix) (j : J6) : HardLoc (Yo kp A B j) := ⟨J5 (XM Tryz.prog Zci) kp A B⟩
theorem YW {ρ : Env} {kp : Bool} {A : List As} {B : List Ix} {j : J6} (hA : Yd ρ A) (hB : ZD ρ B) : Fits (Zf ρ) Tryz.prog (Yo kp A B j) where
 hid := rfl
 G := rfl
 len := Zch ρ
 tab := Y7.tab
 glob := Y7.glob
 mixed := Y7.mixed
 hard := K9 hA hB (VH (C0 := Zci) rfl rfl rfl) rfl
noncomputable def ZdO (A : List As) : WE Sy := Xi (Xj (QV A))
theorem Zaa {ρ : Env} {A : List As} (hA : Yd ρ A) : SumOK (Zf ρ) Tryz.prog (ZdO A) := YO (JS hA)
theorem Yq.env {ρ ρ' : Env} {K : Nat} {l l' : Le} {z z' : Option (Nat × Int)} {w : World} {v : Value} (h : Yq ρ K l z w v) (hl : l'.ev ρ' = l.ev ρ) (hz : match z' with
  | none => match z with
   | none => True
   | some p => (((l.ev ρ).length : Nat) : Int) = ρ.nat p.1 + p.2
  | some q => match z with
   | none => (((l.ev ρ).length : Nat) : Int) = ρ'.nat q.1 + q.2
   | some p => ((ρ.nat p.1 : Nat) : Int) + p.2 = ρ'.nat q.1 + q.2) : Yq ρ' K l' z' w v := by
 obtain ⟨a, n, m, h1, h2, h3, h4, h5, h6⟩ := h
 refine ⟨a, n, m, h1, h2, by rw [hl]; exact h3, ?_, h5, fun ad had => ?_⟩
 ·cases z' with
  | none => cases z with
   | none => show n = (l'.ev ρ').length; rw [hl]; exact h4
   | some p =>
    have h4' : ((n : Nat) : Int) = ρ.nat p.1 + p.2 := h4
    have hz' : (((l.ev ρ).length : Nat) : Int) = ρ.nat p.1 + p.2 := hz
    show n = (l'.ev ρ').length
    rw [hl]; omega
  | some q => cases z with
   | none =>
    have h4' : n = (l.ev ρ).length := h4
    have hz' : (((l.ev ρ).length : Nat) : Int) = ρ'.nat q.1 + q.2 := hz
    show ((n : Nat) : Int) = ρ'.nat q.1 + q.2
    rw [h4']; exact hz'
   | some p =>
    have h4' : ((n : Nat) : Int) = ρ.nat p.1 + p.2 := h4
    have hz' : ((ρ.nat p.1 : Nat) : Int) + p.2 = ρ'.nat q.1 + q.2 := hz
    exact h4'.trans hz'
 ·obtain ⟨cl, g1, g2, g3, g4, g5⟩ := h6 ad had
  exact ⟨cl, g1, g2, g3, by rw [hl]; exact g4, by rw [hl]; exact g5⟩
def LsIn (K : Nat) (w : World) (v : Value) (qs : List Rat) : Prop := ∃ a m, v = .slice a qs.length m ∧ qs.length ≤ m ∧ (qs ≠ [] → ∃ b off cl t z, a = some ⟨b, off, none⟩ ∧ w.heap[b]? = some (.cells ⟨cl⟩ t z) ∧ WT K w cl off qs)
theorem LsIn.ls {ρ : Env} {K c : Nat} {w : World} {v : Value} (h : LsIn K w v (ρ.lst c)) (hlo : ρ.lo = w.heap.size) : ZaY ρ K c w v := by
 obtain ⟨a, m, h1, h2, h3⟩ := h
 exact ⟨a, m, h1, h2, fun hp => by
  obtain ⟨b, off, cl, t, z, h4, h5, h6⟩ := h3 hp
  exact ⟨b, off, cl, t, z, h4, by rw [hlo]; exact (Array.getElem?_eq_some_iff.1 h5).1, h5, h6⟩⟩
def ZdP (K : Nat) (w : World) (v : Value) (qs : List Rat) : Prop := ∃ a m, v = .slice a qs.length m ∧ qs.length ≤ m ∧ (a = none → m = 0) ∧ ∀ ad, a = some ad → ∃ cl, ad = ⟨ad.block, 0, none⟩ ∧ w.heap[ad.block]? = some (.cells ⟨cl⟩ (tyK K) (0, 0)) ∧ cl.length = m * Zq K ∧ WT K w cl 0 qs
theorem Yq.to {ρ : Env} {K : Nat} {l : Le} {w : World} {v : Value} (h : Yq ρ K l none w v) : ZdP K w v (l.ev ρ) := by
 obtain ⟨a, n, m, h1, h2, h3, h4, h5, h6⟩ := h
 have h4' : n = (l.ev ρ).length := h4
 subst h4'
 exact ⟨a, m, h1, h2, h5, fun ad had => by
  obtain ⟨cl, g1, g2, g3, g4, _⟩ := h6 ad had
  exact ⟨cl, g1, g2, g3, g4⟩⟩
theorem ZdP.ol {ρ : Env} {K : Nat} {l : Le} {w : World} {v : Value} (h : ZdP K w v (l.ev ρ)) : Yq ρ K l none w v := by
 obtain ⟨a, m, h1, h2, h5, h6⟩ := h
 exact ⟨a, _, m, h1, h2, Nat.le_refl _, rfl, h5, fun ad had => by
  obtain ⟨cl, g1, g2, g3, g4⟩ := h6 ad had
  exact ⟨cl, g1, g2, g3, g4, fun i a b => by omega⟩⟩
theorem ZdP.ls {K : Nat} {w : World} {v : Value} {qs : List Rat} (h : ZdP K w v qs) : LsIn K w v qs := by
 obtain ⟨a, m, h1, h2, h5, h6⟩ := h
 refine ⟨a, m, h1, h2, fun hp => ?_⟩
 cases a with
 | none => have := h5 rfl; cases qs with
  | nil => exact absurd rfl hp
  | cons q l => simp only [List.length_cons] at h2; omega
 | some ad =>
  obtain ⟨cl, g1, g2, g3, g4⟩ := h6 ad rfl
  exact ⟨ad.block, 0, cl, _, _, by rw [← g1], g2, g4⟩
noncomputable def ZL (f n : Nat) : Code := match (Tryz.prog).funcs[f]? with
 | some fn => match fn.body with
  | some c => ((ZS c)[n]?).getD .skip
  | none => .skip
 | none => .skip
noncomputable def noJ : J6 := fun _ _ => none
noncomputable def Zf3 : List Ix := [.ln 0 1, .ln 1 2, .bd 1, .bd 2, .lt 2 0 1 0 true, .el 0 2 0 (.v 2)]
theorem Un : Fit (0 : Rat) := ⟨by decide, by decide⟩
def rdQ (qs : List Rat) (k : Nat) : Nat → Rat
 | 1 => qs.getLastD 0
 | 2 => qs.getD k 0
 | _ => 0
theorem ZeX {qs : List Rat} (hq : ∀ q ∈ qs, Fit q) (k i : Nat) : Fit (rdQ qs k i) := by
 unfold rdQ
 split
 ·cases qs with
  | nil => exact Un
  | cons a l =>
   rw [List.getLastD_cons]
   cases l with
   | nil => exact hq a (by simp)
   | cons b l => exact hq _ (by rw [List.getLastD_cons, ← List.getLast_eq_getLastD (by simp)]; exact List.mem_cons_of_mem _ (List.getLast_mem _))
 ·rw [List.getD_eq_getElem?_getD]
  cases h : qs[k]? with
  | none => exact Un
  | some x => exact hq x (List.mem_of_getElem? h)
 ·exact Un
def Zoq (n k : Nat) : Nat → Nat
 | 1 => n
 | 2 => k
 | _ => 0
def Zor (qs : List Rat) (k : Nat) : Nat → List Rat
 | 0 => qs
 | 1 => qs.take k
 | _ => []
def Vz (qs : List Rat) (hq : ∀ q ∈ qs, Fit q) (lo k : Nat) : Env := ⟨rdQ qs k, fun _ => (false, ⟨#[]⟩, ⟨#[]⟩), fun i _ => ZeX hq k i, fun i => (ZeX hq k i).sm.up (by decide), fun _ => Wc, lo, Zor qs k, Zoq qs.length k, rfl⟩
theorem Zf4 : (Zf (Vz [] (fun _ h => by simp at h) 0 0)).G ≤ 50000 := Nat.le_of_ble_eq_true (by kernel_rfl)
section
variable {qs : List Rat} (hq : ∀ q ∈ qs, Fit q) (lo : Nat)
theorem Zos (hl : qs.length ≤ 10000) {k : Nat} (hk : k < qs.length) : ZD (Vz qs hq lo k) Zf3 := by
 intro x hx
 simp only [Zf3, List.mem_cons, List.not_mem_nil, or_false] at hx
 rcases hx with rfl | rfl | rfl | rfl | rfl | rfl
 ·rfl
 ·show (qs.take k).length = k
  rw [List.length_take]; omega
 ·exact hl
 ·show k ≤ 10000
  omega
 ·show true = true ↔ ((k : Nat) : Int) + 0 < ((qs.length : Nat) : Int) + 0
  constructor
  ·intro _; omega
  ·intro _; rfl
 ·refine ⟨k, ?_, ?_⟩
  ·show ((k : Nat) : Int) = ((k : Nat) : Int) + 0
   omega
  ·show qs[k]? = some (qs.getD k 0)
   rw [List.getD_eq_getElem?_getD, List.getElem?_eq_getElem hk]; rfl
end
structure PolyOK (qs : List Rat) : Prop where
 fit : ∀ q ∈ qs, Fit q
 last : qs ≠ [] → qs.getLastD 0 ≠ 0
noncomputable def Zab (f : Sy) : M Sy Value := bind (fresh (.ow f)) fun i => ret (.chan (some i))
theorem Zac (f : Sy) : Loc (Zab f) := Zb (ZX _) fun _ => Zg _
noncomputable def Qy (B : List Ix) (v : Value) : M Sy (Nat × Le) := match ZK v with
 | some i => bind (rd i) fun x => match x with
  | .fact f => match f with
   | .ls K c => ret (K, .v c)
   | _ => fail
  | .ow f => match f with
   | .ol K l z => match z with
    | none => ret (K, l)
    | some q => match leN B l with
     | some p => cond (Nat.beq p.1 q.1 && eqI p.2 q.2) (ret (K, l)) fail
     | none => fail
   | _ => fail
  | _ => fail
 | none => fail
theorem Vp (B : List Ix) (v : Value) : Loc (Qy B v) := by
 unfold Qy
 split
 ·refine Zb (XT _) fun x => ?_
  (repeat' split) <;> first | exact Zg _ | exact Ze (Zg _) Za | exact Za
 ·exact Za
structure NewOl (K : Nat) (w w' : World) (u : Value) (qs : List Rat) : Prop where
 ol : ZdP K w' u qs
 new : ∀ b, XY u = some b → w.heap.size ≤ b ∧ ∃ c t z, w'.heap[b]? = some (.cells c t z) ∧ ZW t = false
theorem Zf5 {w w' : World} (hb : Below w.heap.size w w') : Frm [] w w' := by
 have hk : ∀ (b : Nat) (o : Obj), w.heap[b]? = some o → w'.heap[b]? = some o := fun b o hbo => (hb.block b (Array.getElem?_eq_some_iff.1 hbo).1).trans hbo
 exact ⟨fun b o h _ => hk b o h, hb.size, hb.os, hb.tape, hb.output, .of hk⟩
section
variable {ρ : Env} {B : List Ix} {h h' : Tr (Blk Sy)} {nx nx' : Nat} {R W : List Nat} {r : Ren} {w : World}
theorem Zcj {K : Nat} {l : Le} {w' : World} {u v : Value} (e : Zab (.ol K l none) h nx = .ok v h' nx' R W) (hM : Mod (Zf ρ) r h.get w) (hN : New r nx nx') (hb : Below w.heap.size w w') (hu : NewOl K w w' u (l.ev ρ)) :
  nx ≤ nx' ∧ ∃ r', VR r' v u ∧ Ext (Zf ρ) r w nx nx' W h'.get r' w' := by
 obtain ⟨i, h2, nx2, R2, W2, R3, W3, e2, e3, rfl, rfl⟩ := Zc e
 obtain ⟨rfl, rfl, rfl, rfl⟩ := Zh e3
 unfold fresh at e2
 cases e2
 have hone : ZR u = true := by obtain ⟨a, m, rfl, _⟩ := hu.ol; rfl
 obtain ⟨r', hX, hr⟩ := Wj (S := Zf ρ) (I := []) (O := []) (x := .ol K l none) (v := u) hM hN (fun _ h => by simp at h) (fun _ h => by simp at h) (fun _ h => by simp at h) (Zf5 hb)
  ⟨ZdP.ol hu.ol, hone, fun b hbu => by
   obtain ⟨g1, c, t, z, g2, g3⟩ := hu.new b hbu
   exact ⟨Nat.le_trans hM.fits g1, c, t, z, g2, (Zf ρ).new 0 _ _ (Nat.le_trans hM.sz g1) g3⟩⟩ fun b hbu => .inr (hu.new b hbu).1
 refine ⟨Nat.le_succ _, r', .opq hr hone, ?_⟩
 have hX2 := hX.congr (g' := (h.set nx (.ow (.ol K l none))).get) fun n => .inr (by rw [Tr.get_set]; simp)
 simpa using hX2
theorem Uo (hB : ZD ρ B) {v v' : Value} {y : Nat × Le} (e : Qy B v h nx = .ok y h' nx' R W) (hv : VR r v v') (hM : Mod (Zf ρ) r h.get w) : h' = h ∧ nx' = nx ∧ W = [] ∧ LsIn y.1 w v' (y.2.ev ρ) := by
 unfold Qy at e
 cases hc : ZK v with
 | none => rw [hc] at e; cases (show (fail : M Sy (Nat × Le)) h nx = _ from e)
 | some i =>
  rw [hc] at e
  have hv' := XI hc hv
  obtain ⟨x, h1, nx1, R1, W1, R2, W2, e1, e2, rfl, rfl⟩ := Zc e
  obtain ⟨hg, rfl, rfl, rfl⟩ := VS e1
  cases x <;> first | (cases (show (fail : M Sy (Nat × Le)) _ _ = _ from e2); done) | skip
  ·rename_i f
   cases f <;> first | (cases (show (fail : M Sy (Nat × Le)) _ _ = _ from e2); done) | skip
   rename_i K c
   obtain ⟨rfl, rfl, rfl, rfl⟩ := Zh (show (ret (K, Le.v c) : M Sy (Nat × Le)) _ _ = _ from e2)
   obtain ⟨v0, q1, q2, _⟩ := hM.fact i _ hg
   rw [hv'] at q1
   cases q1
   obtain ⟨a, m, k1, k2, k3⟩ := (show ZaY ρ K c w v' from q2)
   exact ⟨rfl, rfl, rfl, a, m, k1, k2, fun hp => by
    obtain ⟨b, off, cl, t, z, g1, _, g2, g3⟩ := k3 hp
    exact ⟨b, off, cl, t, z, g1, g2, g3⟩⟩
  ·rename_i f
   cases f <;> first | (cases (show (fail : M Sy (Nat × Le)) _ _ = _ from e2); done) | skip
   rename_i K l z
   obtain ⟨v0, q1, q2, _⟩ := hM.ow i _ hg
   rw [hv'] at q1
   cases q1
   have q2' : Yq ρ K l z w v' := q2
   cases z with
   | none =>
    obtain ⟨rfl, rfl, rfl, rfl⟩ := Zh (show (ret (K, l) : M Sy (Nat × Le)) _ _ = _ from e2)
    exact ⟨rfl, rfl, rfl, (Yq.to q2').ls⟩
   | some q =>
    simp only at e2
    cases hn : leN B l with
    | none => rw [hn] at e2; cases (show (fail : M Sy (Nat × Le)) _ _ = _ from e2)
    | some p =>
     rw [hn] at e2
     obtain ⟨hk, e3⟩ := Zi e2
     obtain ⟨rfl, rfl, rfl, rfl⟩ := Zh e3
     simp only [Bool.and_eq_true] at hk
     have hln := WV hB hn
     rw [Nat.eq_of_beq_eq_true hk.1, Z2 hk.2] at hln
     exact ⟨rfl, rfl, rfl, (Yq.to (q2'.env (l' := l) (z' := none) rfl hln)).ls⟩
theorem Zk0 {P : Program} {K : Nat} {l : Le} {f : FuncId} {args' : List Value} {v : Value} (e : Zab (.ol K l none) h nx = .ok v h' nx' R W) (hM : Mod (Zf ρ) r h.get w) (hN : New r nx nx')
  (c : Calls P f ⟨args'⟩ w fun e w' => ∃ u, e = .returned u ∧ NewOl K w w' u (l.ev ρ) ∧ Below w.heap.size w w') :
  Calls P f ⟨args'⟩ w fun e w' => ∃ v' r', e = .returned v' ∧ VR r' v v' ∧ Ext (Zf ρ) r w nx nx' W h'.get r' w' := by
 refine c.mono ?_
 rintro en w' ⟨u, rfl, hu, hb⟩
 obtain ⟨_, r', hv, hX⟩ := Zcj e hM hN hb hu
 exact ⟨u, r', rfl, hv, hX⟩
theorem Ziq {P : Program} {K : Nat} {l : Le} {f : FuncId} {args' : List Value} {v u2 : Value} (hp : plain u2 = true) (e : (bind (Zab (.ol K l none)) fun x => ret (.tuple ⟨[x, u2]⟩) : M Sy Value) h nx = .ok v h' nx' R W) (hM : Mod (Zf ρ) r h.get w) (hN : New r nx nx')
  (c : Calls P f ⟨args'⟩ w fun e w' => ∃ u, e = .returned (.tuple ⟨[u, u2]⟩) ∧ NewOl K w w' u (l.ev ρ) ∧ Below w.heap.size w w') :
  Calls P f ⟨args'⟩ w fun e w' => ∃ v' r', e = .returned v' ∧ VR r' v v' ∧ Ext (Zf ρ) r w nx nx' W h'.get r' w' := by
 obtain ⟨x, h1, nx1, R1, W1, R2, W2, e1, e2, rfl, rfl⟩ := Zc e
 obtain ⟨rfl, rfl, rfl, rfl⟩ := Zh e2
 refine c.mono ?_
 rintro en w' ⟨u, rfl, hu, hb⟩
 obtain ⟨_, r', hv, hX⟩ := Zcj e1 hM hN hb hu
 exact ⟨_, r', rfl, .tuple (.cons hv (.cons (.same hp) .nil)), by simpa using hX⟩
end
section
variable {qs : List Rat} (hq : ∀ q ∈ qs, Fit q) (lo : Nat)
end
theorem J7 {ρ : Env} {K : Nat} {l : Le} {z : Option (Nat × Int)} {w w' : World} {u : Value} {qs : List Rat} (hlo : ρ.lo = w.heap.size) (h : (D1.ow (.ol K l z) : D1 Sy).is (Zf ρ) w' u) (hl : l.ev ρ = qs) (hz : ∀ p, z = some p → ((qs.length : Nat) : Int) = ρ.nat p.1 + p.2) : NewOl K w w' u qs := by
 subst hl
 refine ⟨Yq.to (ρ := ρ) (l := l) (Yq.env (show Yq ρ K l z w' u from h.1) (l' := l) (z' := none) rfl ?_), fun b hbu => ?_⟩
 ·cases z with
  | none => trivial
  | some p => exact hz p rfl
 ·obtain ⟨_, c, t, z, g1, g2⟩ := h.2.2 b hbu
  have g2' : (Nat.blt b ρ.lo || ZW t) = false := g2
  rw [Bool.or_eq_false_iff] at g2'
  refine ⟨?_, c, t, z, g1, g2'.2⟩
  rcases Nat.lt_or_ge b w.heap.size with q | q
  ·have : Nat.blt b ρ.lo = true := by rw [hlo]; exact Nat.ble_eq_true_of_le q
   rw [this] at g2'
   cases g2'.1
  ·exact q
noncomputable def Zk1 : List As := [⟨1, .v 3, z0, true⟩]
def tv (qs : List Rat) (n : Nat) : List Rat := (List.range (n + 1)).map fun k => qs.getD (n - k) 0
structure TrimAt (l : List Rat) (m : Nat) : Prop where
 le : m ≤ l.length
 zero : ∀ i, m ≤ i → i < l.length → l[i]? = some 0
 last : 0 < m → l.getD (m - 1) 0 ≠ 0
theorem WY {l : List Rat} (hq : ∀ q ∈ l, Fit q) (k : Nat) : Fit (l.getD k 0) := by
 rw [List.getD_eq_getElem?_getD]
 cases h : l[k]? with
 | none => exact Un
 | some x => exact hq x (List.mem_of_getElem? h)
section
variable {qs : List Rat} (hq : ∀ q ∈ qs, Fit q) (lo : Nat) {n m : Nat}
end
theorem J8 {b : Bool} {m m2 : Tr Value → M Sy (Tr Value)} {o : Option (Tr Value → M Sy (Tr Value))} (h : cond b (some m2) o = some m) : (b = true ∧ m = m2) ∨ (b = false ∧ o = some m) := by
 cases b with
 | true => exact .inl ⟨rfl, (Option.some.inj h).symm⟩
 | false => exact .inr ⟨rfl, h⟩
theorem QY {S : Sig Sy} {f N : Nat} {m : Tr Value → M Sy (Tr Value)} (ho : ∃ fn c, (Tryz.prog).funcs[f]? = some fn ∧ fn.body = some c ∧ fn.ntmps = N ∧ ZS c = [ZL f 0]) (hj : X3 S Tryz.prog N (ZL f 0) m)
  {fn : Func} {c x : Code} (ht : (Tryz.prog).funcs[f]? = some fn) (hb : fn.body = some c) (hx : x ∈ ZS c) : X3 S Tryz.prog fn.ntmps x m := by
 obtain ⟨fn0, c0, q1, q2, q3, q4⟩ := ho
 rw [q1] at ht
 cases ht
 rw [q2] at hb
 cases hb
 rw [q4] at hx
 obtain rfl := List.mem_singleton.1 hx
 rw [q3]
 exact @hj
section
variable {qs : List Rat} (hq : ∀ q ∈ qs, Fit q) (lo : Nat) {n m : Nat}
end
namespace Fq
set_option maxRecDepth 100000
abbrev Tri := Bool × ByteArray × ByteArray
def tri (q : Rat) : Tri := (Big.ng q, bst (Big.nu q), bst (Big.de q))
def cel (x : Tri) : List Value := [.bool x.1, .string x.2.1, .string x.2.2]
theorem tri_inj {p q : Rat} (h : tri p = tri q) : p = q := by
 unfold tri at h
 simp only [Prod.mk.injEq] at h
 exact Big.parts_eq h.1 (QQ h.2.1) (QQ h.2.2)
theorem not_bad {q : Rat} (h : Fit q) : ¬ ZfQ (tri q) := fun hb => hb q h ⟨rfl, rfl, rfl⟩
def ZdQ (x y : Tri) : Bool := x.1 == y.1 && (x.2.1.toList == y.2.1.toList && x.2.2.toList == y.2.2.toList)
theorem Up {x y : Tri} : ZdQ x y = true ↔ x = y := by
 obtain ⟨a, s, t⟩ := x
 obtain ⟨b, u, v⟩ := y
 have key : ∀ p q : ByteArray, (p.toList == q.toList) = true ↔ p = q := fun p q => by
  rw [beq_iff_eq, ByteArray.toList_eq, ByteArray.toList_eq]
  obtain ⟨⟨p⟩⟩ := p
  obtain ⟨⟨q⟩⟩ := q
  simp
 simp only [ZdQ, Bool.and_eq_true, key, beq_iff_eq, Prod.mk.injEq]
theorem Zf6 (d : Nat) (x y : Tri) (w : World) : (Op.equalIn (d + 2) 31 (.agg ⟨cel x⟩) (.agg ⟨cel y⟩)).run Tryz.prog w = .ok (ZdQ x y) w := by
 have hS : Tryz.prog.underlying 31 = some (.struct (Tryz.prog.fieldsOf 31)) := by kernel_rfl
 have hp : Tryz.prog.stoodInHeld 31 = false := by kernel_rfl
 obtain ⟨a, s, t⟩ := x
 obtain ⟨b, u, v⟩ := y
 rw [show d + 2 = (d + 1) + 1 from rfl, run_equalIn_struct w (d + 1) 31 _ _ hS hp]
 simp only [Program.fieldsOf, Tryz.underlying31, cel, ZdQ]
 generalize hx : (s.toList == u.toList) = b1
 generalize hy : (t.toList == v.toList) = b2
 cases a <;> cases b <;> cases b1 <;> cases b2 <;> go_simp <;> simp [hx, hy]
noncomputable def Zl0 (A : List As) (l m : List Value) (o p : Option Qe) : Option Bool := match o with
 | some e => match p with
  | some f => cond (e.beq f) (some true) (ask A 2 e f)
  | none => match QF A e with
   | some t => cond t (some false) none
   | none => none
 | none => match p with
  | some f => match QF A f with
   | some t => cond t (some false) none
   | none => none
  | none => cond (eqL eq1 l m && ZV plain l) (some true) none
noncomputable def eq3 (A : List As) (l m : List Value) : M Sy (Option Bool) := bind (Zdz l) fun o => bind (Zdz m) fun p => ret (Zl0 A l m o p)
noncomputable def Zck (op : BinOp) (b : Option Bool) : M Sy Nxt := match b with
 | some b => match op with
  | .eql => val (.bool b)
  | .neq => val (.bool (!b))
  | _ => fail
 | none => fail
noncomputable def frH (A : List As) (G : Oper → List Value → M Sy Nxt) (o : Oper) (vs : List Value) : M Sy Nxt := match o.op with
 | .binOp op t _ _ _ => match WF vs with
  | some y => match y.1 with
   | .agg cs => match y.2 with
    | .agg ds => cond (Nat.beq t 31) (bind (eq3 A cs.toList ds.toList) (Zck op)) fail
    | _ => fail
   | _ => G o vs
  | none => fail
 | _ => G o vs
theorem Zk2 (A : List As) (l m : List Value) : Loc (eq3 A l m) := Zb (JR _) fun _ => Zb (JR _) fun _ => Zg _
theorem Zf7 (op : BinOp) (b : Option Bool) : Loc (Zck op b) := by
 unfold Zck
 (repeat' split) <;> first | exact Zm _ | exact Za
theorem Zk3 {G : Oper → List Value → M Sy Nxt} (hG : ∀ o vs, Loc (G o vs)) (A : List As) (o : Oper) (vs : List Value) : Loc (frH A G o vs) := by
 unfold frH
 (repeat' split) <;> first
  | exact Za
  | exact Ze (Zb (Zk2 _ _ _) fun _ => Zf7 _ _) Za
  | exact hG _ _
theorem ZeY {ρ : Env} {l : List Value} {o : Option Qe} (h : ZeP ρ l o) : ∃ x : Tri, l = cel x ∧ (∀ e, o = some e → x = tri (e.ev ρ.q)) ∧ (o = none → ZfQ x) := by
 cases o with
 | some e =>
  obtain rfl : l = _ := h
  exact ⟨tri (e.ev ρ.q), rfl, fun e' he => by cases he; rfl, fun h => (by cases h)⟩
 | none =>
  obtain ⟨x, hx, rfl⟩ := h
  exact ⟨x, rfl, fun e' he => (by cases he), fun _ => hx⟩
section
variable {ρ : Env} {A : List As} {h h' : Tr (Blk Sy)} {nx nx' : Nat} {R W : List Nat} {r : Ren} {w : World}
theorem Zk4 {x y : Tri} (h : cel x = cel y) : x = y := by
 obtain ⟨a, s, t⟩ := x
 obtain ⟨b, u, v⟩ := y
 simp only [cel, List.cons.injEq, Value.bool.injEq, Value.string.injEq, and_true] at h
 obtain ⟨rfl, rfl, rfl⟩ := h
 rfl
theorem Zng (hA : Yd ρ A) {l m l' m' : List Value} {b : Option Bool} (e : eq3 A l m h nx = .ok b h' nx' R W) (hl : VsR r l l') (hm : VsR r m m') (hM : Mod (Zf ρ) r h.get w) :
  h' = h ∧ nx' = nx ∧ W = [] ∧ ∃ x y : Tri, l' = cel x ∧ m' = cel y ∧ ∀ t, b = some t → t = ZdQ x y := by
 obtain ⟨o, h1, nx1, R1, W1, R2, W2, q1, q2, rfl, rfl⟩ := Zc e
 obtain ⟨rfl, rfl, rfl, i1⟩ := Za0 q1 hl hM
 obtain ⟨p, h2, nx2, R3, W3, R4, W4, q3, q4, rfl, rfl⟩ := Zc q2
 obtain ⟨rfl, rfl, rfl, i2⟩ := Za0 q3 hm hM
 obtain ⟨rfl, rfl, rfl, rfl⟩ := Zh q4
 obtain ⟨x, rfl, x1, x2⟩ := ZeY i1
 obtain ⟨y, rfl, y1, y2⟩ := ZeY i2
 refine ⟨rfl, rfl, by simp, x, y, rfl, rfl, fun t ht => ?_⟩
 have neg : x ≠ y → ZdQ x y = false := fun hn => by
  cases hb : ZdQ x y with
  | false => rfl
  | true => exact absurd (Up.1 hb) hn
 unfold Zl0 at ht
 cases o with
 | some e0 =>
  have hx := x1 e0 rfl
  cases p with
  | some f =>
   have hy := y1 f rfl
   simp only at ht
   cases hb : e0.beq f with
   | true =>
    rw [hb] at ht
    cases ht
    rw [hx, hy, Qe.beq_ok _ _ hb]
    exact (Up.2 rfl).symm
   | false =>
    rw [hb] at ht
    have hs := ZhX hA ht
    cases t with
    | true => rw [hx, hy, hs.1 rfl]; exact (Up.2 rfl).symm
    | false =>
     refine (neg fun h => ?_).symm
     rw [hx, hy] at h
     have := hs.2 (tri_inj h)
     cases this
  | none =>
   simp only at ht
   cases hf : QF A e0 with
   | none => rw [hf] at ht; cases ht
   | some u =>
    rw [hf] at ht
    cases u with
    | false => cases ht
    | true =>
     cases ht
     refine (neg fun h => ?_).symm
     have hbad := y2 rfl
     rw [← h, hx] at hbad
     exact not_bad ((QS hA hf).1 rfl) hbad
 | none =>
  cases p with
  | some f =>
   have hy := y1 f rfl
   simp only at ht
   cases hf : QF A f with
   | none => rw [hf] at ht; cases ht
   | some u =>
    rw [hf] at ht
    cases u with
    | false => cases ht
    | true =>
     cases ht
     refine (neg fun h => ?_).symm
     have hbad := x2 rfl
     rw [h, hy] at hbad
     exact not_bad ((QS hA hf).1 rfl) hbad
  | none =>
   simp only at ht
   cases hk : (eqL eq1 l m && ZV plain l) with
   | false => rw [hk] at ht; cases ht
   | true =>
    rw [hk] at ht
    cases ht
    simp only [Bool.and_eq_true] at hk
    have e1 := U0 Zdt hk.1
    subst e1
    have e2 := hl.eq_of_plain hk.2
    have e3 := hm.eq_of_plain hk.2
    rw [← e2] at e3
    rw [Zk4 e3]
    exact (Up.2 rfl).symm
theorem Zk5 (op : BinOp) (t : TypeId) (x y : Operand) (cs ds : Array Value) (b : Bool) (v : Value) (hm : Tryz.prog.eqGuardType Tryz.prog.depth t = false) (he : (Op.equalIn 10000 t (.agg cs) (.agg ds)).run Tryz.prog w = .ok b w) (hv : (op = .eql ∧ v = .bool b) ∨ (op = .neq ∧ v = .bool (!b))) :
  (do eqGuard op t x y (.agg cs) (.agg ds); binOp op t (.agg cs) (.agg ds) : Sem Value).run Tryz.prog w = .ok v w := by
 have hg := run_eqGuard_agg (P := Tryz.prog) w op t x y cs ds hm
 have he' : (Op.equal t (.agg cs) (.agg ds)).run Tryz.prog w = .ok b w := he
 rcases hv with ⟨rfl, rfl⟩ | ⟨rfl, rfl⟩
 ·rw [Sem.run_bind, hg]
  simp [binOp, he']
 ·rw [Sem.run_bind, hg]
  simp [binOp, he']
theorem Zir {op : BinOp} {b : Option Bool} {x : Nxt} (e : Zck op b h nx = .ok x h' nx' R W) : h' = h ∧ nx' = nx ∧ W = [] ∧ ∃ t v, b = some t ∧ x = .val v ∧ ((op = .eql ∧ v = .bool t) ∨ (op = .neq ∧ v = .bool (!t))) := by
 unfold Zck at e
 cases b with
 | none => cases (show (fail : M Sy Nxt) h nx = _ from e)
 | some t =>
  cases op with
  | eql =>
   obtain ⟨rfl, rfl, rfl, rfl⟩ := Zt (show (val (.bool t) : M Sy Nxt) h nx = _ from e)
   exact ⟨rfl, rfl, rfl, t, _, rfl, rfl, .inl ⟨rfl, rfl⟩⟩
  | neq =>
   obtain ⟨rfl, rfl, rfl, rfl⟩ := Zt (show (val (.bool (!t)) : M Sy Nxt) h nx = _ from e)
   exact ⟨rfl, rfl, rfl, t, _, rfl, rfl, .inr ⟨rfl, rfl⟩⟩
  | _ => cases (show (fail : M Sy Nxt) h nx = _ from e)
theorem Znh (hA : Yd ρ A) {G : Oper → List Value → M Sy Nxt} {C : Cfg Sy} (hG : Xg (Zf ρ) Tryz.prog { C with hard := G }) (hC : C.hard = frH A G) : Xg (Zf ρ) Tryz.prog C := by
 intro o vs h nx x h' nx' R W hs e r w ρo hM hN hv
 rw [hC] at e
 unfold frH at e
 have back : G o vs h nx = .ok x h' nx' R W → nx ≤ nx' ∧ WB (Zf ρ) Tryz.prog ((execOp ρo o).run Tryz.prog w) r w nx nx' W h'.get x := fun e2 => hG o vs h nx x h' nx' R W hs e2 r w ρo hM hN hv
 cases hop : o.op with
 | binOp op t p q yt =>
  rw [hop] at e
  simp only at e
  have hops : o.op.operands.toList.map ρo = [ρo p, ρo q] := by rw [hop]; rfl
  rw [hops] at hv
  rcases vs with _ | ⟨u, _ | ⟨v, _ | ⟨z, l⟩⟩⟩ <;> first | (cases (show (fail : M Sy Nxt) h nx = _ from e); done) | skip
  simp only [WF] at e
  cases hv with
  | cons hu hv => cases hv with
   | cons hv hn =>
    cases u <;> first | exact back e | skip
    rename_i cs
    cases v <;> first | (cases (show (fail : M Sy Nxt) h nx = _ from e); done) | skip
    rename_i ds
    obtain ⟨cl⟩ := cs
    obtain ⟨dl⟩ := ds
    obtain ⟨cl', hc1, hc2⟩ := U6 hu
    obtain ⟨dl', hd1, hd2⟩ := U6 hv
    simp only at e
    obtain ⟨ht, e⟩ := Zi e
    have htt := Nat.eq_of_beq_eq_true ht
    have fin : ∀ {b : Bool} {v : Value}, (Op.equalIn 10000 t (.agg ⟨cl'⟩) (.agg ⟨dl'⟩)).run Tryz.prog w = .ok b w → Tryz.prog.eqGuardType Tryz.prog.depth t = false → ((op = .eql ∧ v = .bool b) ∨ (op = .neq ∧ v = .bool (!b))) →
      (execOp ρo o).run Tryz.prog w = .ok (.value v) w := fun he hm hv => by
     have := Zk5 op t p q ⟨cl'⟩ ⟨dl'⟩ _ _ hm he hv
     simp only [execOp, hop, hc1, hd1]
     rw [Sem.run_bind, this]
     rfl
    obtain ⟨b, h1, nx1, R1, W1, R2, W2, e1, e2, rfl, rfl⟩ := Zc e
    obtain ⟨rfl, rfl, rfl, x1, y1, rfl, rfl, hb⟩ := Zng hA e1 hc2 hd2 hM
    obtain ⟨rfl, rfl, rfl, t1, v1, rfl, rfl, hv1⟩ := Zir e2
    have := hb t1 rfl
    subst this
    refine ⟨Nat.le_refl _, v1, w, r, fin (by rw [htt]; exact Zf6 9998 x1 y1 w) (by rw [htt]; kernel_rfl) hv1, ?_, by simpa using Ext.refl _ _ hM⟩
    rcases hv1 with ⟨_, rfl⟩ | ⟨_, rfl⟩ <;> exact .same rfl
 | _ => rw [hop] at e; exact back e
end
noncomputable def lsCfgQ (kp : Bool) (A : List As) (B : List Ix) (j : J6) : Cfg Sy where
 hid _ := ZW
 G := Yy.G
 glob := Yy.glob
 tab := Yy.tab
 len := ZaZ
 jmp := j
 hard := Qg kp A B (frH A (XL Tryz.prog Zci))
instance lsHardQ (kp : Bool) (A : List As) (B : List Ix) (j : J6) : HardLoc (lsCfgQ kp A B j) := ⟨J5 (Zk3 (XM Tryz.prog Zci) A) kp A B⟩
theorem lsFitsQ {ρ : Env} {kp : Bool} {A : List As} {B : List Ix} {j : J6} (hA : Yd ρ A) (hB : ZD ρ B) : Fits (Zf ρ) Tryz.prog (lsCfgQ kp A B j) where
 hid := rfl
 G := rfl
 len := Zch ρ
 tab := Y7.tab
 glob := Y7.glob
 mixed := Y7.mixed
 hard := K9 hA hB (Znh hA (VH (C0 := Zci) rfl rfl rfl) rfl) rfl
end Fq
noncomputable def ZeZ (kp : Bool) (A : List As) (B : List Ix) (n : Nat) : Cl Sy := ⟨Vw Tryz.prog (Fq.lsCfgQ kp A B noJ) (ZdO A) n, [], fun _ => none⟩
theorem Zis {ρ : Env} {kp : Bool} {A : List As} {B : List Ix} {n : Nat} (hA : Yd ρ A) (hB : ZD ρ B) : ClOK (Zf ρ) Tryz.prog (ZeZ kp A B n) :=
 have h := X4 (C := Fq.lsCfgQ kp A B noJ) (Fq.lsFitsQ hA hB) (.none rfl) (Zaa hA) n
 ⟨⟨h.1, by intro x hx; simp [ZeZ] at hx, fun x m e => (by cases e)⟩, h.2⟩
section
variable {qs : List Rat} (hq : ∀ q ∈ qs, Fit q) (lo : Nat)
end
section
variable {ρ : Env} {B : List Ix}
end
theorem Zk6 : ∀ (l : List Rat), ∃ m, TrimAt l m := by
 have key : ∀ (k : Nat) (l : List Rat), k ≤ l.length → (∀ i, k ≤ i → i < l.length → l[i]? = some 0) → ∃ m, TrimAt l m := by
  intro k
  induction k with
  | zero => exact fun l _ hz => ⟨0, Nat.zero_le _, hz, fun h => by omega⟩
  | succ k ih =>
   intro l hk hz
   by_cases h0 : l.getD k 0 = 0
   ·refine ih l (by omega) fun i h1 h2 => ?_
    rcases Nat.eq_or_lt_of_le h1 with q | q
    ·subst q
     rw [List.getD_eq_getElem?_getD, List.getElem?_eq_getElem h2] at h0
     rw [List.getElem?_eq_getElem h2]
     exact congrArg some h0
    ·exact hz i q h2
   ·exact ⟨k + 1, hk, hz, fun _ => h0⟩
 exact fun l => key l.length l (Nat.le_refl _) fun i h1 h2 => by omega
end Ev
end Go.Proofs.YtnlhjcfpfapafaaGreatDoor
