/- Contracts. -/
import Derived.Test.YtnlhjcfpfapafaaESq27
import Derived.Test.YtnlhjcfpfapafaaESq11
import Derived.Test.YtnlhjcfpfapafaaESq01
import Derived.Test.YtnlhjcfpfapafaaESq23
import Derived.Test.YtnlhjcfpfapafaaESq22
import Derived.Test.YtnlhjcfpfapafaaESq20
namespace Go.Proofs.Ytnlhjcfpfapafaa
open Go Go.RowKit
namespace Ev
set_option maxRecDepth 100000
noncomputable def asRp (x : Blk Sy) : Option (Nat × Nat × Nat × Int) := match x with
 | .fact f => match f with
  | .rp c f a s => some (c, f, a, s)
  | _ => none
 | _ => none
noncomputable def asRl (x : Blk Sy) : Option Nat := match x with
 | .fact f => match f with
  | .rl c => some c
  | _ => none
 | _ => none
noncomputable def rpOf (v : Value) : M Sy (Option (Nat × Nat × Nat × Int)) := match chanOf v with
 | some i => bind (rd i) fun x => ret (asRp x)
 | none => ret none
noncomputable def rlOf (v : Value) : M Sy (Option Nat) := match chanOf v with
 | some i => bind (rd i) fun x => ret (asRl x)
 | none => ret none
theorem loc_rpOf (v : Value) : Loc (rpOf v) := by
 unfold rpOf
 split
 ·exact loc_bind (loc_rd _) fun _ => loc_ret _
 ·exact loc_ret _
theorem loc_rlOf (v : Value) : Loc (rlOf v) := by
 unfold rlOf
 split
 ·exact loc_bind (loc_rd _) fun _ => loc_ret _
 ·exact loc_ret _
noncomputable def hdV (vs : List Value) : Value := match vs with
 | v :: _ => v
 | [] => undef
noncomputable def rwLoad (B : List Ix) (t : TypeId) (c f a : Nat) (s : Int) : M Sy Nxt := match isAggT Try.prog t with
 | some b => cond b (match sizeT Try.prog t with
  | some z => match elB B (c + f) a s with
   | some e => cond (Nat.beq z 3) (bind (newFacts [.ng e, .fn e, .fd e]) fun vs => val (.agg ⟨vs⟩))
    (cond (Nat.beq z 6 && Nat.beq f 0) (match elB B (c + 1) a s with
     | some g => bind (newFacts [.ng e, .fn e, .fd e, .ng g, .fn g, .fd g]) fun vs => val (.agg ⟨vs⟩)
     | none => fail) fail)
   | none => fail
  | none => fail) fail
 | none => fail
noncomputable def rwField (s : TypeId) (f : Nat) (p : Nat × Nat × Nat × Int) : M Sy Nxt := match structT Try.prog s with
 | some fs => match fs[f]? with
  | some fd => match sizeT Try.prog fd.type with
   | some n => cond (Nat.beq n 3 && (Nat.beq p.2.1 0 && (Nat.ble f 1 && Nat.beq fd.offset (f * 3)))) (lVal (.rp p.1 f p.2.2.1 p.2.2.2)) fail
   | none => fail
  | none => fail
 | none => fail
noncomputable def rwIx (B : List Ix) (t : TypeId) (p : Nat × Int) (c : Nat) : M Sy Nxt := match sliceT Try.prog t with
 | some e => match sizeT Try.prog e with
  | some z => match lnP B c with
   | some n => cond (Nat.beq z 6 && inB B p.1 p.2 n) (lVal (.rp c 0 p.1 p.2)) fail
   | none => fail
  | none => fail
 | none => fail
noncomputable def rwLen (B : List Ix) (l : Call) (vs : List Value) (c : Nat) : M Sy Nxt := match l.callee with
 | .builtin b => match b with
  | .len => match l.argTypes[0]? with
   | some t => match oneM vs with
    | some _ => match sliceT Try.prog t with
     | some _ => match lnP B c with
      | some n => lVal (.ix n.1 n.2)
      | none => fail
     | none => fail
    | none => fail
   | none => fail
  | _ => fail
 | _ => fail
noncomputable def rwH (B : List Ix) (G : Oper → List Value → M Sy Nxt) (o : Oper) (vs : List Value) : M Sy Nxt := match o.op with
 | .load t _ => bind (rpOf (hdV vs)) fun y => match y with
  | some p => rwLoad B t p.1 p.2.1 p.2.2.1 p.2.2.2
  | none => G o vs
 | .fieldAddr s _ f => bind (rpOf (hdV vs)) fun y => match y with
  | some p => rwField s f p
  | none => G o vs
 | .indexAddr t _ _ => bind (rlOf (hdV vs)) fun y => match y with
  | some c => match twoM vs with
   | some z => bind (ixV z.2) fun p => rwIx B t p c
   | none => fail
  | none => G o vs
 | .call l => bind (rlOf (hdV vs)) fun y => match y with
  | some c => rwLen B l vs c
  | none => G o vs
 | _ => G o vs
theorem loc_rwLoad (B : List Ix) (t : TypeId) (c f a : Nat) (s : Int) : Loc (rwLoad B t c f a s) := by
 unfold rwLoad
 split
 ·refine loc_cond ?_ loc_fail
  split
  ·split
   ·refine loc_cond (loc_bind (loc_newFacts _) fun _ => loc_val _) (loc_cond ?_ loc_fail)
    split
    ·exact loc_bind (loc_newFacts _) fun _ => loc_val _
    ·exact loc_fail
   ·exact loc_fail
  ·exact loc_fail
 ·exact loc_fail
theorem loc_rwH {G : Oper → List Value → M Sy Nxt} (hG : ∀ o vs, Loc (G o vs)) (B : List Ix) (o : Oper) (vs : List Value) : Loc (rwH B G o vs) := by
 unfold rwH
 split
 ·refine loc_bind (loc_rpOf _) fun y => ?_
  split
  ·exact loc_rwLoad _ _ _ _ _ _
  ·exact hG _ _
 ·refine loc_bind (loc_rpOf _) fun y => ?_
  split
  ·unfold rwField
   (repeat' split) <;> first | exact loc_fail | exact loc_cond (loc_lVal _) loc_fail
  ·exact hG _ _
 ·refine loc_bind (loc_rlOf _) fun y => ?_
  split
  ·split
   ·refine loc_bind (loc_ixV _) fun _ => ?_
    unfold rwIx
    (repeat' split) <;> first | exact loc_fail | exact loc_cond (loc_lVal _) loc_fail
   ·exact loc_fail
  ·exact hG _ _
 ·refine loc_bind (loc_rlOf _) fun y => ?_
  split
  ·unfold rwLen
   (repeat' split) <;> first | exact loc_fail | exact loc_lVal _
  ·exact hG _ _
 ·exact hG _ _
section
variable {ρ : Env} {A : List As} {B : List Ix} {h h' : Tr (Blk Sy)} {nx nx' : Nat} {R W : List Nat} {r : Ren} {w : World}
theorem rpOf_ok {v v' : Value} {y : Option (Nat × Nat × Nat × Int)} (e : rpOf v h nx = .ok y h' nx' R W) (hv : VR r v v') (hM : Mod (symSig ρ) r h.get w) : h' = h ∧ nx' = nx ∧ W = [] ∧ ∀ p, y = some p → rpIs ρ p.1 p.2.1 p.2.2.1 p.2.2.2 w v' := by
 unfold rpOf at e
 cases hc : chanOf v with
 | none =>
  rw [hc] at e
  obtain ⟨rfl, rfl, rfl, rfl⟩ := ret_ok e
  exact ⟨rfl, rfl, rfl, fun p hp => (by cases hp)⟩
 | some i =>
  rw [hc] at e
  have hv' := vr_chanV hc hv
  obtain ⟨x, h1, nx1, R1, W1, R2, W2, e1, e2, rfl, rfl⟩ := bind_ok e
  obtain ⟨hg, rfl, rfl, rfl⟩ := rdb_ok e1
  obtain ⟨rfl, rfl, rfl, rfl⟩ := ret_ok e2
  refine ⟨rfl, rfl, rfl, fun p hp => ?_⟩
  cases x <;> first | (cases hp; done) | skip
  rename_i f
  cases f <;> first | (cases hp; done) | skip
  cases hp
  obtain ⟨v0, q1, q2, _⟩ := hM.fact i _ hg
  rw [hv'] at q1
  cases q1
  exact q2
theorem rlOf_ok {v v' : Value} {y : Option Nat} (e : rlOf v h nx = .ok y h' nx' R W) (hv : VR r v v') (hM : Mod (symSig ρ) r h.get w) : h' = h ∧ nx' = nx ∧ W = [] ∧ ∀ c, y = some c → rlIs ρ c w v' := by
 unfold rlOf at e
 cases hc : chanOf v with
 | none =>
  rw [hc] at e
  obtain ⟨rfl, rfl, rfl, rfl⟩ := ret_ok e
  exact ⟨rfl, rfl, rfl, fun p hp => (by cases hp)⟩
 | some i =>
  rw [hc] at e
  have hv' := vr_chanV hc hv
  obtain ⟨x, h1, nx1, R1, W1, R2, W2, e1, e2, rfl, rfl⟩ := bind_ok e
  obtain ⟨hg, rfl, rfl, rfl⟩ := rdb_ok e1
  obtain ⟨rfl, rfl, rfl, rfl⟩ := ret_ok e2
  refine ⟨rfl, rfl, rfl, fun p hp => ?_⟩
  cases x <;> first | (cases hp; done) | skip
  rename_i f
  cases f <;> first | (cases hp; done) | skip
  cases hp
  obtain ⟨v0, q1, q2, _⟩ := hM.fact i _ hg
  rw [hv'] at q1
  cases q1
  exact q2
theorem frC_holds (e : Qe) : HoldsL (symSig ρ) w [.ng e, .fn e, .fd e] (frC (e.ev ρ.q)) := ⟨_, _, rfl, rfl, rfl, _, _, rfl, rfl, rfl, _, _, rfl, rfl, rfl, rfl⟩
theorem frC2_holds (e g : Qe) : HoldsL (symSig ρ) w [.ng e, .fn e, .fd e, .ng g, .fn g, .fd g] (frC (e.ev ρ.q) ++ frC (g.ev ρ.q)) := ⟨_, _, rfl, rfl, rfl, _, _, rfl, rfl, rfl, _, _, rfl, rfl, rfl, _, _, rfl, rfl, rfl, _, _, rfl, rfl, rfl, _, _, rfl, rfl, rfl, rfl⟩
theorem RowsAt.part {cl : List Value} {off : Nat} {qs rs : List Rat} (h : RowsAt cl off qs rs) {i : Nat} {q p : Rat} (hq : qs[i]? = some q) (hp : rs[i]? = some p) (f : Nat) (hf : f < 2) : (cl.drop (off + i * 6 + f * 3)).take 3 = frC (cond (Nat.beq f 0) q p) := by
 have h6 := h.2 i q p hq hp
 have e : (cl.drop (off + i * 6 + f * 3)).take 3 = (((cl.drop (off + i * 6)).take 6).drop (f * 3)).take 3 := by
  rw [List.drop_take, List.drop_drop, List.take_take, Nat.min_eq_left (by omega)]
 rw [e, h6]
 rcases f with _ | _ | f
 ·rfl
 ·rfl
 ·omega
theorem rwLoad_ok (hB : AllX ρ B) {t : TypeId} {c f a : Nat} {s : Int} {v' : Value} {x : Nxt} (e : rwLoad B t c f a s h nx = .ok x h' nx' R W) (hx : rpIs ρ c f a s w v') (hM : Mod (symSig ρ) r h.get w) (hN : New r nx nx') :
  nx ≤ nx' ∧ ∃ v u ad r', x = .val v ∧ v' = .pointer (some ad) ∧ (loadVar t ad).run Try.prog w = .ok u w ∧ VR r' v u ∧ Ext (symSig ρ) r w nx nx' W h'.get r' w := by
 obtain ⟨hf2, b, off, cl, ty, z, i, rfl, hi, hlt, q1, q2, q3⟩ := hx
 unfold rwLoad at e
 cases hag : isAggT Try.prog t with
 | none => rw [hag] at e; cases (show (fail : M Sy Nxt) h nx = _ from e)
 | some ag =>
  rw [hag] at e; simp only at e
  have hag' := isAgg_of hag w
  obtain ⟨hk, e2⟩ := cond_ok e
  subst hk
  cases hs : sizeT Try.prog t with
  | none => rw [hs] at e2; cases (show (fail : M Sy Nxt) h nx = _ from e2)
  | some n =>
   rw [hs] at e2; simp only at e2
   have hs' := size_of hs w
   cases he : elB B (c + f) a s with
   | none => rw [he] at e2; cases (show (fail : M Sy Nxt) h nx = _ from e2)
   | some q =>
    rw [he] at e2; simp only at e2
    obtain ⟨j, hj, hel⟩ := elB_ok hB he
    have : j = i := by have : (j : Int) = i := hj.trans hi.symm; omega
    subst this
    have hlr : j < (ρ.lst (c + 1)).length := by rw [q3.1]; exact hlt
    obtain ⟨q0, hq0⟩ : ∃ q0, (ρ.lst c)[j]? = some q0 := ⟨_, List.getElem?_eq_getElem hlt⟩
    obtain ⟨p0, hp0⟩ : ∃ p0, (ρ.lst (c + 1))[j]? = some p0 := ⟨_, List.getElem?_eq_getElem hlr⟩
    have hqe : cond (Nat.beq f 0) q0 p0 = q.ev ρ.q := by
     rcases f with _ | _ | f
     ·rw [Nat.add_zero, hq0] at hel; exact Option.some.inj hel
     ·rw [hp0] at hel; exact Option.some.inj hel
     ·omega
    rcases condB e2 with ⟨hk3, e3⟩ | ⟨_, e3⟩
    ·obtain rfl := Nat.eq_of_beq_eq_true hk3
     obtain ⟨vs, h1, nx1, R1, W1, R2, W2, e5, e6, rfl, rfl⟩ := bind_ok e3
     obtain ⟨rfl, rfl, rfl, rfl⟩ := val_ok e6
     have h3 := q3.part hq0 hp0 f hf2
     rw [hqe] at h3
     obtain ⟨hle, r', hX, hv⟩ := newFacts_ok _ e5 hM hN (frC_holds q)
     rw [← h3] at hv
     have hl := row_at (P := Try.prog) q2 (off := off + j * 6 + f * 3) (n := 3) (by rw [h3]; rfl)
     exact ⟨hle, _, .agg ⟨(cl.drop (off + j * 6 + f * 3)).take 3⟩, _, r', rfl, rfl, by simp [loadVar, hag', hs', hl], .agg hv, by simpa using hX⟩
    ·obtain ⟨hk3, e4⟩ := cond_ok e3
     simp only [Bool.and_eq_true] at hk3
     obtain rfl := Nat.eq_of_beq_eq_true hk3.1
     obtain rfl := Nat.eq_of_beq_eq_true hk3.2
     cases hg : elB B (c + 1) a s with
     | none => rw [hg] at e4; cases (show (fail : M Sy Nxt) h nx = _ from e4)
     | some g =>
      rw [hg] at e4; simp only at e4
      obtain ⟨k, hk, hkl⟩ := elB_ok hB hg
      have : k = j := by have : (k : Int) = j := hk.trans hi.symm; omega
      subst this
      obtain ⟨vs, h1, nx1, R1, W1, R2, W2, e5, e6, rfl, rfl⟩ := bind_ok e4
      obtain ⟨rfl, rfl, rfl, rfl⟩ := val_ok e6
      have h6 := q3.2 k _ _ hq0 hp0
      rw [show q0 = q.ev ρ.q from hqe, show p0 = g.ev ρ.q from by rw [hp0] at hkl; exact Option.some.inj hkl] at h6
      obtain ⟨hle, r', hX, hv⟩ := newFacts_ok _ e5 hM hN (frC2_holds q g)
      rw [← h6] at hv
      have hl := row_at (P := Try.prog) q2 (off := off + k * 6) (n := 6) (by rw [h6]; rfl)
      exact ⟨hle, _, .agg ⟨(cl.drop (off + k * 6)).take 6⟩, _, r', rfl, rfl, by simp [loadVar, hag', hs', hl], .agg hv, by simpa using hX⟩
theorem rwField_ok {s : TypeId} {f : Nat} {p : Nat × Nat × Nat × Int} {v' : Value} {x : Nxt} (e : rwField s f p h nx = .ok x h' nx' R W) (hx : rpIs ρ p.1 p.2.1 p.2.2.1 p.2.2.2 w v') (hM : Mod (symSig ρ) r h.get w) (hN : New r nx nx') :
  nx ≤ nx' ∧ ∃ v u r', x = .val v ∧ (Instr.fieldAt s v' f).run Try.prog w = .ok u w ∧ VR r' v u ∧ Ext (symSig ρ) r w nx nx' W h'.get r' w := by
 obtain ⟨c, f0, a, k⟩ := p
 obtain ⟨_, b, off, cl, ty, z, i, rfl, hi, hlt, q1, q2, q3⟩ := hx
 unfold rwField at e
 cases hs : structT Try.prog s with
 | none => rw [hs] at e; cases (show (fail : M Sy Nxt) h nx = _ from e)
 | some fs =>
  rw [hs] at e; simp only at e
  cases hf : fs[f]? with
  | none => rw [hf] at e; cases (show (fail : M Sy Nxt) h nx = _ from e)
  | some fd =>
   rw [hf] at e; simp only at e
   cases hz : sizeT Try.prog fd.type with
   | none => rw [hz] at e; cases (show (fail : M Sy Nxt) h nx = _ from e)
   | some n =>
    rw [hz] at e; simp only at e
    obtain ⟨hk, e2⟩ := cond_ok e
    simp only [Bool.and_eq_true] at hk
    obtain ⟨k1, k2, k3, k4⟩ := hk
    obtain rfl := Nat.eq_of_beq_eq_true k1
    obtain rfl := Nat.eq_of_beq_eq_true k2
    have k3' := Nat.le_of_ble_eq_true k3
    have k4' := Nat.eq_of_beq_eq_true k4
    obtain ⟨hle, v, r', rfl, hv, hX⟩ := lVal_ok (v' := vptr b (off + i * 6 + f * 3)) e2 hM hN ⟨by omega, b, off, cl, ty, z, i, rfl, hi, hlt, q1, q2, q3⟩
    refine ⟨hle, v, _, r', rfl, ?_, hv, hX⟩
    simp [Instr.fieldAt, run_underlying (structT_of hs), hf, Instr.sureAddr, vptr, fieldPlace, size_of hz, add_off, k4']
theorem rwIx_ok (hB : AllX ρ B) {t : TypeId} {p : Nat × Int} {c : Nat} {v' : Value} {x : Nxt} (e : rwIx B t p c h nx = .ok x h' nx' R W) (hx : rlIs ρ c w v') (hM : Mod (symSig ρ) r h.get w) (hN : New r nx nx') :
  nx ≤ nx' ∧ ∃ v u r', x = .val v ∧ (Instr.indexAt t v' (.int .i64 (atIx ρ p.1 p.2))).run Try.prog w = .ok u w ∧ VR r' v u ∧ Ext (symSig ρ) r w nx nx' W h'.get r' w := by
 unfold rwIx at e
 cases hs : sliceT Try.prog t with
 | none => rw [hs] at e; cases (show (fail : M Sy Nxt) h nx = _ from e)
 | some el =>
  rw [hs] at e; simp only at e
  cases hz : sizeT Try.prog el with
  | none => rw [hz] at e; cases (show (fail : M Sy Nxt) h nx = _ from e)
  | some s =>
   rw [hz] at e; simp only at e
   cases hn : lnP B c with
   | none => rw [hn] at e; cases (show (fail : M Sy Nxt) h nx = _ from e)
   | some n =>
    rw [hn] at e; simp only at e
    obtain ⟨hk, e2⟩ := cond_ok e
    simp only [Bool.and_eq_true] at hk
    obtain rfl := Nat.eq_of_beq_eq_true hk.1
    obtain ⟨i, hi, hlt⟩ := inB_ok hB hk.2
    rw [← lnP_ok hB hn] at hlt
    have hlt : i < (ρ.lst c).length := by omega
    obtain ⟨a, m, rfl, hc, hl⟩ := hx
    obtain ⟨b, off, cl, ty, z, rfl, q1, q2, q3⟩ := hl (fun q => by rw [q] at hlt; simp at hlt)
    obtain ⟨hle, v, r', rfl, hv, hX⟩ := lVal_ok (v' := vptr b (off + i * 6)) e2 hM hN ⟨by omega, b, off, cl, ty, z, i, by rw [Nat.zero_mul, Nat.add_zero]; rfl, hi, hlt, q1, q2, q3⟩
    refine ⟨hle, v, vptr b (off + i * 6), r', rfl, ?_, hv, hX⟩
    rw [← hi]
    have c1 : (0 : Int) ≤ (i : Int) ∧ (i : Int) < ((ρ.lst c).length : Int) := by omega
    simp [Instr.indexAt, asIntOf, run_underlying (sliceT_of hs), c1, size_of hz, add_off, vptr]
    intro hle; omega
set_option maxHeartbeats 1000000 in
theorem rwH_ok (hB : AllX ρ B) {G : Oper → List Value → M Sy Nxt} {C : Cfg Sy} (hG : HardOK (symSig ρ) Try.prog { C with hard := G }) (hC : C.hard = rwH B G) : HardOK (symSig ρ) Try.prog C := by
 intro o vs h nx x h' nx' R W hs e r w ρo hM hN hv
 rw [hC] at e
 unfold rwH at e
 have back : ∀ {h1 : Tr (Blk Sy)} {nx1 : Nat} {R1 W1 : List Nat}, h1 = h → nx1 = nx → G o vs h1 nx1 = .ok x h' nx' R1 W1 → nx ≤ nx' ∧ After (symSig ρ) Try.prog ((execOp ρo o).run Try.prog w) r w nx nx' W1 h'.get x := fun q1 q2 e2 => by
  subst q1 q2
  exact hG o vs _ _ x h' nx' _ _ hs e2 r w ρo hM hN hv
 cases hop : o.op with
 | load t y =>
  rw [hop] at e
  simp only at e
  have hops : o.op.operands.toList.map ρo = [ρo y] := by rw [hop]; rfl
  obtain ⟨k, h1, nx1, R1, W1, R2, W2, e1, e2, rfl, rfl⟩ := bind_ok e
  have hv0 := hv
  rw [hops] at hv
  cases hv with
  | cons hu hn =>
   cases hn
   obtain ⟨rfl, rfl, rfl, hp⟩ := rpOf_ok e1 hu hM
   cases k with
   | none => simpa using back rfl rfl e2
   | some p =>
    obtain ⟨hle, v, u2, ad, r', rfl, hp2, hl, hvr, hX⟩ := rwLoad_ok hB e2 (hp p rfl) hM hN
    refine ⟨hle, u2, w, r', ?_, hvr, by simpa using hX⟩
    simp only [execOp, hop, hp2, Instr.loadAt, Instr.sureAddr, Sem.run_bind, Sem.run_pure, Result.andThen_ok, hl]
 | fieldAddr s y f =>
  rw [hop] at e
  simp only at e
  have hops : o.op.operands.toList.map ρo = [ρo y] := by rw [hop]; rfl
  obtain ⟨k, h1, nx1, R1, W1, R2, W2, e1, e2, rfl, rfl⟩ := bind_ok e
  rw [hops] at hv
  cases hv with
  | cons hu hn =>
   cases hn
   obtain ⟨rfl, rfl, rfl, hp⟩ := rpOf_ok e1 hu hM
   cases k with
   | none => simpa using back rfl rfl e2
   | some p =>
    obtain ⟨hle, v, u2, r', rfl, hl, hvr, hX⟩ := rwField_ok e2 (hp p rfl) hM hN
    refine ⟨hle, u2, w, r', ?_, hvr, by simpa using hX⟩
    simp only [execOp, hop, Sem.run_bind, hl, Result.andThen_ok, Sem.run_pure]
 | indexAddr t y i =>
  rw [hop] at e
  simp only at e
  have hops : o.op.operands.toList.map ρo = [ρo y, ρo i] := by rw [hop]; rfl
  obtain ⟨k, h1, nx1, R1, W1, R2, W2, e1, e2, rfl, rfl⟩ := bind_ok e
  rw [hops] at hv
  cases hv with
  | cons hu hn => cases hn with
   | cons hz hn =>
    cases hn
    obtain ⟨rfl, rfl, rfl, hp⟩ := rlOf_ok e1 hu hM
    cases k with
    | none => simpa using back rfl rfl e2
    | some c =>
     simp only [twoM] at e2
     obtain ⟨p, h3, nx3, R3, W3, R4, W4, e3, e4, rfl, rfl⟩ := bind_ok e2
     obtain ⟨rfl, rfl, rfl, hpi⟩ := ixV_ok e3 hz hM
     obtain ⟨hle, v, u2, r', rfl, hl, hvr, hX⟩ := rwIx_ok hB e4 (hp c rfl) hM hN
     refine ⟨hle, u2, w, r', ?_, hvr, by simpa using hX⟩
     simp only [execOp, hop, hpi, Sem.run_bind, hl, Result.andThen_ok, Sem.run_pure]
 | call l =>
  rw [hop] at e
  simp only at e
  obtain ⟨k, h1, nx1, R1, W1, R2, W2, e1, e2, rfl, rfl⟩ := bind_ok e
  obtain ⟨callee, args, ats⟩ := l
  have hhd : h1 = h ∧ nx1 = nx ∧ W1 = [] := by
   unfold rlOf at e1
   cases hc : chanOf (hdV vs) with
   | some i =>
    rw [hc] at e1
    obtain ⟨x1, h3, nx3, R3, W3, R4, W4, e3, e4, rfl, rfl⟩ := bind_ok e1
    obtain ⟨_, rfl, rfl, rfl⟩ := rdb_ok e3
    obtain ⟨rfl, rfl, rfl, rfl⟩ := ret_ok e4
    exact ⟨rfl, rfl, rfl⟩
   | none =>
    rw [hc] at e1
    obtain ⟨rfl, rfl, rfl, rfl⟩ := ret_ok e1
    exact ⟨rfl, rfl, rfl⟩
  obtain ⟨rfl, rfl, rfl⟩ := hhd
  cases k with
  | none => simpa using back rfl rfl e2
  | some c =>
   simp only at e2
   unfold rwLen at e2
   cases callee with
   | builtin b =>
    simp only at e2
    cases b <;> first | (cases (show (fail : M Sy Nxt) _ _ = _ from e2); done) | skip
    simp only at e2
    cases ha0 : ats[0]? with
    | none => rw [ha0] at e2; cases (show (fail : M Sy Nxt) _ _ = _ from e2)
    | some t =>
     rw [ha0] at e2; simp only at e2
     have hops : o.op.operands.toList.map ρo = args.toList.map ρo := by rw [hop]; simp [Op.operands, Call.operands]
     rw [hops] at hv
     generalize hl : args.toList.map ρo = al at hv
     rcases vs with _ | ⟨u, _ | ⟨z, l⟩⟩ <;> first | (cases (show (fail : M Sy Nxt) _ _ = _ from e2); done) | skip
     simp only [oneM] at e2
     cases hv with
     | cons hu hn =>
      cases hn
      rename_i u'
      obtain ⟨_, _, _, hp⟩ := rlOf_ok e1 hu hM
      have hA : args.map ρo = #[u'] := by rw [map_list, hl]
      cases hs2 : sliceT Try.prog t with
      | none => rw [hs2] at e2; cases (show (fail : M Sy Nxt) _ _ = _ from e2)
      | some el =>
       rw [hs2] at e2; simp only at e2
       cases hn : lnP B c with
       | none => rw [hn] at e2; cases (show (fail : M Sy Nxt) _ _ = _ from e2)
       | some n =>
        rw [hn] at e2; simp only at e2
        obtain ⟨a, m, rfl, hc, _⟩ := hp c rfl
        have hln := lnP_ok hB hn
        obtain ⟨hle, v, r', rfl, hvr, hX⟩ := lVal_ok (v' := .int .i64 (((ρ.lst c).length : Nat) : Int)) e2 hM hN (by
         show Value.int .i64 _ = .int .i64 _
         rw [hln]; rfl)
        refine ⟨hle, _, w, r', ?_, hvr, by simpa using hX⟩
        have hrun : (Builtin.len_ #[t] o.type #[.slice a (ρ.lst c).length m]).run Try.prog w = .ok (.int .i64 (((ρ.lst c).length : Nat) : Int)) w := by simp [Builtin.len_, run_underlying (sliceT_of hs2), goInt]
        have hsame : Builtin.len_ ats o.type #[.slice a (ρ.lst c).length m] = Builtin.len_ #[t] o.type #[.slice a (ρ.lst c).length m] := by simp [Builtin.len_, ha0]
        simp only [execOp, hop, resolve, hA, Sem.run_bind, Sem.run_pure, Result.andThen_ok, invoke, builtin, hsame, hrun]
   | _ => cases (show (fail : M Sy Nxt) _ _ = _ from e2)
 | _ => rw [hop] at e; exact back rfl rfl e
end
end Ev
end Go.Proofs.Ytnlhjcfpfapafaa
namespace Go.Proofs.Ytnlhjcfpfapafaa
open Go Go.RowKit
theorem search_any (w : World) (cb : Array Value) (n c : Nat) (p : Nat → Bool) (hn : n ≤ 10000)
  (hf : ∀ (W : World) (i : Nat), Below w.heap.size w W → i < n → Calls Try.prog 68 (#[.int .i64 (i : Int)] ++ cb) W fun e W' => e = .returned (.bool (p i)) ∧ Below w.heap.size w W')
  (hc : c ≤ n) (h0 : ∀ t, t < c → p t = false) (h1 : ∀ t, c ≤ t → t < n → p t = true) :
  Calls Try.prog 67 #[.int .i64 (n : Int), .func (.func 68) #[] cb] w fun e w' => e = .returned (.int .i64 (c : Int)) ∧ Below w.heap.size w w' := by
 have HF := Lib.hid hf
 have H0 := Lib.hid h0; have H1 := Lib.hid h1
 clear hf h0 h1
 go_enter Try.func67, Try.ntmps67
 go_wp2_with fail
 go_loopw [5, 6] (fun i j wr => ∃ lo hi : Nat, i = .int .i64 (lo : Int) ∧ j = .int .i64 (hi : Int) ∧ lo ≤ c ∧ c ≤ hi ∧ hi ≤ n ∧ Hid (Below w.heap.size w wr)) (fun i j _ => (intOf j - intOf i).toNat)
 case atStart => exact ⟨0, n, rfl, rfl, Nat.zero_le _, hc, Nat.le_refl _, Lib.hid (Below.refl _ _)⟩
 case round =>
  obtain ⟨lo, hi, rfl, rfl, hlc, hch, hhn, HB⟩ := hrel
  by_cases hlt : lo < hi
  ·have hcl := HF.out wr ((lo + hi) / 2) HB.out (by omega)
   rw [show (((lo + hi) / 2 : Nat) : Int) = ((lo : Int) + (hi : Int)) / 2 by omega] at hcl
   have hL : (lo : Int) < (hi : Int) := by omega
   cases hp : p ((lo + hi) / 2) <;> rw [hp] at hcl
   ·have hm : (lo + hi) / 2 < c := by
     apply Nat.lt_of_not_le
     intro q
     have := H1.out _ q (by omega)
     rw [hp] at this; cases this
    clear hp
    go_wp2_with (go_at_call 68; refine hcl.mono ?_; rintro e w' ⟨rfl, hbb⟩)
    go_roundw
    case measure => simp [intOf]; omega
    case rel => exact ⟨(lo + hi) / 2 + 1, hi, by rw [show ((lo : Int) + (hi : Int)) / 2 + 1 = (((lo + hi) / 2 + 1 : Nat) : Int) by omega], rfl, by omega, hch, hhn, Lib.hid hbb⟩
   ·have hm : c ≤ (lo + hi) / 2 := by
     apply Nat.le_of_not_lt
     intro q
     have := H0.out _ q
     rw [hp] at this; cases this
    clear hp
    go_wp2_with (go_at_call 68; refine hcl.mono ?_; rintro e w' ⟨rfl, hbb⟩)
    go_roundw
    case measure => simp [intOf]; omega
    case rel => exact ⟨lo, (lo + hi) / 2, rfl, by rw [show ((lo : Int) + (hi : Int)) / 2 = (((lo + hi) / 2 : Nat) : Int) by omega], hlc, hm, by omega, Lib.hid hbb⟩
  ·obtain rfl : lo = c := by omega
   have hL : ¬ (lo : Int) < (hi : Int) := by omega
   go_wp2_with fail
   go_ret
   exact ⟨rfl, HB.out⟩
end Go.Proofs.Ytnlhjcfpfapafaa
namespace Go.Proofs.Ytnlhjcfpfapafaa
open Go Go.RowKit
namespace Ev
section
variable {F : Type} {S : Sig F}
theorem mod_old {r : Ren} {g : Nat → Option (Blk F)} {w : World} {nx b : Nat} {c c' : List Value} {t : TypeId} (hM : Mod S r g w) (hN : r.blk nx = none ∧ r.val nx = none) (hb : w.heap[b]? = some (.cells ⟨c'⟩ t (0, 0))) (hc : VsR r c c') (ht : S.hid b t = false) (hno : ∀ n, r.blk n ≠ some b) :
  r.le ⟨fun n => if n = nx then some b else r.blk n, r.val, r.len⟩ ∧ Mod S ⟨fun n => if n = nx then some b else r.blk n, r.val, r.len⟩ (fun n => if n = nx then some (.cells c t) else g n) w := by
 have hle : r.le ⟨fun n => if n = nx then some b else r.blk n, r.val, r.len⟩ := by
  refine ⟨fun n a e => ?_, fun _ _ e => e, fun _ _ _ => rfl⟩
  have : n ≠ nx := fun h => by rw [h, hN.1] at e; cases e
  simp only [if_neg this, e]
 refine ⟨hle, ⟨fun n m a h1 h2 => ?_, fun n a h1 => ?_, fun n d s h1 => ?_, fun n f h1 => ?_, hM.base, fun n hn => hle.blk _ _ (hM.glob n hn), fun n a h1 hn => ?_, fun n d s h1 => ?_, hM.sz, hM.lp.mono hle (fun n s h1 => ?_) (fun _ _ h => h), hM.ow.mono hle (fun n f h1 => ?_) (fun _ _ _ _ h _ => h), fun n m x h1 => ?_⟩⟩
 ·try simp only at h1 h2
  split at h1 <;> split at h2
  ·rename_i e1 e2; exact .inl (e1.trans e2.symm)
  ·cases h1; exact absurd h2 (hno m)
  ·cases h2; exact absurd h1 (hno n)
  ·rename_i e1 e2
   refine (hM.inj n m a h1 h2).imp id (Or.imp (fun k => ?_) (fun k => ?_))
   ·exact ⟨fun c t => by simpa only [if_neg e1] using k.1 c t, fun c t => by simpa only [if_neg e1] using k.2.1 c t, fun s => by simpa only [if_neg e1] using k.2.2.1 s, fun f => by simpa only [if_neg e1] using k.2.2.2 f⟩
   ·exact ⟨fun c t => by simpa only [if_neg e2] using k.1 c t, fun c t => by simpa only [if_neg e2] using k.2.1 c t, fun s => by simpa only [if_neg e2] using k.2.2.1 s, fun f => by simpa only [if_neg e2] using k.2.2.2 f⟩
 ·try simp only at h1
  split at h1
  ·cases h1; exact (Array.getElem?_eq_some_iff.1 hb).1
  ·exact hM.lt n a h1
 ·try simp only at h1
  split at h1
  ·rename_i e; subst e
   cases h1
   exact ⟨b, c', if_pos rfl, hb, hc.mono hle, fun _ => ht⟩
  ·obtain ⟨b2, c2, k1, k2, k3, k4⟩ := hM.cells n d s h1
   exact ⟨b2, c2, hle.blk _ _ k1, k2, k3.mono hle, k4⟩
 ·try simp only at h1
  split at h1
  ·cases h1
  ·obtain ⟨v, k1, k2⟩ := hM.fact n f h1
   exact ⟨v, k1, k2⟩
 ·try simp only at h1
  split at h1
  ·cases h1
   rcases Nat.lt_or_ge b S.G with q | q
   ·exact absurd (hM.glob b q) (hno b)
   ·exact q
  ·exact hM.own n a h1 hn
 ·try simp only at h1
  split at h1
  ·cases h1
  ·obtain ⟨b2, c2, k1, k2, k3, k4, k5⟩ := hM.room n d s h1
   exact ⟨b2, c2, hle.blk _ _ k1, k2, k3.mono hle, k4, k5⟩
 ·try simp only at h1
  split at h1
  ·cases h1
  ·exact h1
 ·try simp only at h1
  split at h1
  ·cases h1
  ·exact h1
 ·try simp only at h1
  split at h1
  ·cases h1
  ·obtain ⟨b2, off, k1, k2, k3⟩ := hM.ad n m x h1
   exact ⟨b2, off, hle.blk _ _ k1, hle.val _ _ k2, k3⟩
structure BL (F : Type) where
 t : TypeId
 fs : List F
 ls : List Lay
noncomputable def vpt0 (i : Nat) : Value := .pointer (some ⟨i, 0, none⟩)
noncomputable def newBlks : List (BL F) → M F (List Value) := List.rec (motive := fun _ => M F (List Value)) (ret []) (fun x _ ih => bind (newFacts x.fs) fun vs => bind (fresh (.cells (split x.ls vs) x.t)) fun i => bind ih fun l => ret (vpt0 i :: l))
def BlksAre (S : Sig F) (w : World) : List (BL F) → List Nat → Prop
 | [], bs => bs = []
 | x :: l, bs => ∃ b bs', bs = b :: bs' ∧ (∃ us, HoldsL S w x.fs us ∧ w.heap[b]? = some (.cells ⟨split x.ls us⟩ x.t (0, 0))) ∧ b ∉ bs' ∧ S.G ≤ b ∧ BlksAre S w l bs'
noncomputable def okBL (hid : TypeId → Bool) (l : List (BL F)) : Bool := List.rec (motive := fun _ => Bool) true (fun x _ ih => plainLay x.ls && (!hid x.t && ih)) l
theorem loc_newBlks : ∀ l : List (BL F), Loc (newBlks l)
 | [] => loc_ret _
 | x :: l => loc_bind (loc_newFacts x.fs) fun _ => loc_bind (loc_fresh _) fun _ => loc_bind (loc_newBlks l) fun _ => loc_ret _
theorem newBlks_ok : ∀ (l : List (BL F)) {h h' : Tr (Blk F)} {nx nx' : Nat} {R W : List Nat} {vs : List Value} {r : Ren} {w : World} {bs : List Nat}, newBlks l h nx = .ok vs h' nx' R W → okBL (S.hn 0) l = true → (∀ b ∈ bs, ∀ t, S.hn 0 t = false → S.hid b t = false) → Mod S r h.get w → (∀ hi, New r nx hi) → BlksAre S w l bs → (∀ n b, r.blk n = some b → b ∉ bs) →
  W = [] ∧ nx ≤ nx' ∧ ∃ r', r.le r' ∧ Mod S r' h'.get w ∧ (∀ hi, New r' nx' hi) ∧ VsR r' vs (bs.map vpt0)
 | [], h, h', nx, nx', R, W, vs, r, w, bs, e, _, _, hM, hN, hB, hno => by
  obtain ⟨rfl, rfl, rfl, rfl⟩ := ret_ok (show (ret [] : M F _) h nx = _ from e)
  obtain rfl : bs = [] := hB
  exact ⟨rfl, Nat.le_refl _, r, .refl r, hM, hN, .nil⟩
 | x :: l, h, h', nx, nx', R, W, vs, r, w, bs, e, hok, hh, hM, hN, hB, hno => by
  obtain ⟨b, bs', rfl, ⟨us, hu, hb⟩, hnb, hG, hB'⟩ := hB
  have hok' : (plainLay x.ls && (!S.hn 0 x.t && okBL (S.hn 0) l)) = true := hok
  simp only [Bool.and_eq_true] at hok'
  obtain ⟨ho1, ho2, ho3⟩ := hok'
  have ht : S.hid b x.t = false := hh b List.mem_cons_self _ (by simpa using ho2)
  obtain ⟨us0, h1, nx1, R1, W1, R2, W2, e1, e2, rfl, rfl⟩ := bind_ok (show bind (newFacts x.fs) (fun vs => bind (fresh (.cells (split x.ls vs) x.t)) fun i => bind (newBlks l) fun l => ret (vpt0 i :: l)) h nx = _ from e)
  have hW1 := newFacts_W _ e1
  subst hW1
  obtain ⟨i, h2, nx2, R3, W3, R4, W4, e3, e4, rfl, rfl⟩ := bind_ok e2
  unfold fresh at e3
  cases e3
  obtain ⟨ps, h5, nx5, R5, W5, R6, W6, e5, e6, rfl, rfl⟩ := bind_ok e4
  obtain ⟨rfl, rfl, rfl, rfl⟩ := ret_ok e6
  obtain ⟨hle1, r1, hX, hvs⟩ := newFacts_ok x.fs e1 hM (hN _) hu
  have hN1 : ∀ hi, New r1 nx1 hi := fun hi => New.after (hN hi) hX hle1
  have hno1 : ∀ n c, r1.blk n = some c → c ∉ b :: bs' := fun n c hc => by
   rcases hX.new n c hc with h | h | ⟨_, h, _⟩
   ·exact hno n c h
   ·have := hX.mod.lt n c hc
    omega
   ·cases h
  obtain ⟨hle2, hM2⟩ := mod_old hX.mod (hN1 (nx1 + 1) nx1 (Nat.le_refl _) (Nat.lt_succ_self _)) hb (split_ok ho1 hvs) ht fun n hn => hno1 n b hn (List.mem_cons_self)
  have hM2' := Mod.congr (g' := (h1.set nx1 (.cells (split x.ls us0) x.t)).get) hM2 fun n => .inr (Tr.get_set _ _ _ _)
  obtain ⟨rfl, hle5, r5, hle, hM5, hN5, hps⟩ := newBlks_ok l e5 ho3 (fun b hb => hh b (List.mem_cons_of_mem _ hb)) hM2' (fun hi n a c => by
    have := hN1 hi n (by omega) c
    refine ⟨?_, this.2⟩
    show (if n = nx1 then some b else r1.blk n) = none
    rw [if_neg (by omega)]; exact this.1) hB' (fun n c hc => by
    simp only at hc
    split at hc
    ·cases hc; exact hnb
    ·exact fun hm => hno1 n c hc (List.mem_cons_of_mem _ hm))
  refine ⟨rfl, by omega, r5, (hX.le.trans hle2).trans hle, hM5, hN5, .cons (.ptr (hle.blk _ _ ?_)) hps⟩
  show (if nx1 = nx1 then some b else r1.blk nx1) = some b
  rw [if_pos rfl]
noncomputable def isPtr0 (v : Value) : Option Nat := match v with
 | .pointer a => match a with
  | some p => match p.off with
   | 0 => match p.spot with
    | none => some p.block
    | some _ => none
   | _ => none
  | none => none
 | _ => none
inductive E1 (F : Type) where
 | d (x : D2 F)
 | b (t : TypeId) (l : List (D1 F))
 | o (i : Nat)
inductive E3 (F : Type) where
 | one (e : E1 F)
 | agg (l : List (E1 F))
 | tuple (l : List (E1 F))
def E1.is (S : Sig F) (lo : Nat) (bs : List Nat) (w : World) : E1 F → Value → Prop
 | .d x, v => x.is S w v
 | .b t l, v => ∃ b vs, v = vpt0 b ∧ lo ≤ b ∧ w.heap[b]? = some (.cells ⟨vs⟩ t (0, 0)) ∧ D1.all S w l vs
 | .o i, v => ∃ b, bs[i]? = some b ∧ v = vpt0 b
def E1.all (S : Sig F) (lo : Nat) (bs : List Nat) (w : World) : List (E1 F) → List Value → Prop
 | [], l => l = []
 | e0 :: es, l => ∃ v vs, l = v :: vs ∧ e0.is S lo bs w v ∧ E1.all S lo bs w es vs
def E3.is (S : Sig F) (lo : Nat) (bs : List Nat) (w : World) : E3 F → Value → Prop
 | .one e, v => e.is S lo bs w v
 | .agg es, v => ∃ vs, v = .agg ⟨vs⟩ ∧ E1.all S lo bs w es vs
 | .tuple es, v => ∃ vs, v = .tuple ⟨vs⟩ ∧ E1.all S lo bs w es vs
noncomputable def whichB (n : Nat) (ps : List Value) : Option Nat := List.rec (motive := fun _ => Option Nat) none (fun p _ ih => match isPtr0 p with
 | some m => cond (Nat.beq m n) (some 0) (ih.map Nat.succ)
 | none => none) ps
noncomputable def seeE1 (h : Tr (Blk F)) (ps : List Value) (lo : Nat) (v : Value) : Option (E1 F) := match isPtr0 v with
 | some n => cond (Nat.ble lo n) (match h.get n with
  | some b => match b with
   | .cells c t => (seeL (see1 h) c).map fun l => .b t l
   | .fact _ => none
   | .room _ _ => none
   | .opq => none
   | .lp _ => none
   | .ow _ => none
   | .ad _ _ => none
  | none => none) ((whichB n ps).map .o)
 | none => (see2 h v).map .d
noncomputable def seeE (h : Tr (Blk F)) (ps : List Value) (lo : Nat) (v : Value) : Option (E3 F) := match v with
 | .tuple cs => (seeL (seeE1 h ps lo) cs.toList).map .tuple
 | .agg cs => (seeL (seeE1 h ps lo) cs.toList).map .agg
 | v => (seeE1 h ps lo v).map .one
theorem isPtr0_of {v : Value} {n : Nat} (e : isPtr0 v = some n) : v = vpt0 n := by
 cases v with
 | pointer a =>
  cases a with
  | none => cases (show (none : Option Nat) = some n from e)
  | some p =>
   obtain ⟨b, o, s⟩ := p
   cases o with
   | zero =>
    cases s with
    | none => cases (show some b = some n from e); rfl
    | some _ => cases (show (none : Option Nat) = some n from e)
   | succ _ => cases (show (none : Option Nat) = some n from e)
 | _ => cases (show (none : Option Nat) = some n from e)
theorem whichB_ok {r : Ren} {n : Nat} : ∀ {ps : List Value} {bs : List Nat} {i b : Nat}, whichB n ps = some i → VsR r ps (bs.map vpt0) → r.blk n = some b → bs[i]? = some b
 | [], _, i, b, e, _, _ => by cases (show (none : Option Nat) = some i from e)
 | p :: ps, bs, i, b, e, hv, hb => by
  have e' : (match isPtr0 p with
   | some m => cond (Nat.beq m n) (some 0) ((whichB n ps).map Nat.succ)
   | none => none) = some i := e
  cases bs with
  | nil => cases hv
  | cons c bs =>
   have hv' : VsR r (p :: ps) (vpt0 c :: bs.map vpt0) := hv
   cases hv' with
   | cons h1 h2 =>
    cases hp : isPtr0 p with
    | none => rw [hp] at e'; cases e'
    | some m =>
     rw [hp] at e'
     have := isPtr0_of hp
     subst this
     simp only at e'
     cases hm : Nat.beq m n with
     | true =>
      rw [hm] at e'
      cases e'
      have := Nat.eq_of_beq_eq_true hm
      subst this
      have h1' : VR r (vpt0 m) (vpt0 c) := h1
      unfold vpt0 at h1'
      cases h1' with
      | same p => simp [plain] at p
      | ptr hc =>
       rw [hb] at hc
       injection hc with hc
       subst hc
       rfl
     | false =>
      rw [hm] at e'
      obtain ⟨j, hj, rfl⟩ := Option.map_eq_some_iff.1 (show (whichB n ps).map Nat.succ = some i from e')
      have h3 : bs[j]? = some b := whichB_ok hj h2 hb
      simpa using h3
theorem seeE1_ok {h : Tr (Blk F)} {ps : List Value} {bs : List Nat} {lo L : Nat} {r : Ren} {w : World} {v v' : Value} {d : E1 F} (e : seeE1 h ps lo v = some d) (hM : Mod S r h.get w) (hv : VR r v v') (hps : VsR r ps (bs.map vpt0)) (hL : ∀ n b, lo ≤ n → r.blk n = some b → L ≤ b) : d.is S L bs w v' := by
 unfold seeE1 at e
 cases hp : isPtr0 v with
 | none =>
  rw [hp] at e
  obtain ⟨x, hx, rfl⟩ := Option.map_eq_some_iff.1 e
  exact see2_ok hx hM hv
 | some n =>
  rw [hp] at e
  have := isPtr0_of hp
  subst this
  simp only at e
  have hptr : ∃ b, r.blk n = some b ∧ v' = vpt0 b := by
   unfold vpt0 at hv
   cases hv with
   | same p => simp [plain] at p
   | ptr hb => exact ⟨_, hb, rfl⟩
  obtain ⟨b0, hb0, rfl⟩ := hptr
  cases hl : Nat.ble lo n with
  | false =>
   rw [hl] at e
   obtain ⟨i, hi, rfl⟩ := Option.map_eq_some_iff.1 (show (whichB n ps).map E1.o = some d from e)
   exact ⟨b0, whichB_ok hi hps hb0, rfl⟩
  | true =>
   rw [hl] at e
   simp only [cond_true] at e
   cases hg : h.get n with
   | none => rw [hg] at e; cases e
   | some b =>
    rw [hg] at e
    cases b with
    | fact _ => cases e
    | room _ _ => cases e
    | opq => cases e
    | lp _ => cases e
    | ow _ => cases e
    | ad _ _ => cases e
    | cells c t =>
     obtain ⟨l, hl2, rfl⟩ := Option.map_eq_some_iff.1 e
     obtain ⟨b, c', h1, h2, h3, _⟩ := hM.cells n c t hg
     rw [h1] at hb0
     injection hb0 with hb0
     subst hb0
     exact ⟨b, c', rfl, hL n b (Nat.le_of_ble_eq_true hl) h1, h2, seeL1_ok hl2 hM h3⟩
theorem seeLE_ok {h : Tr (Blk F)} {ps : List Value} {bs : List Nat} {lo L : Nat} {r : Ren} {w : World} : ∀ {l l' : List Value} {ds : List (E1 F)}, seeL (seeE1 h ps lo) l = some ds → Mod S r h.get w → VsR r l l' → VsR r ps (bs.map vpt0) → (∀ n b, lo ≤ n → r.blk n = some b → L ≤ b) → E1.all S L bs w ds l'
 | [], _, ds, e, hM, hv, _, _ => by
  cases hv
  cases (show some [] = some ds from e)
  rfl
 | v :: l, _, ds, e, hM, hv, hps, hL => by
  have e' : consO (seeE1 h ps lo v) (seeL (seeE1 h ps lo) l) = some ds := e
  unfold consO at e'
  cases hv with
  | cons ha hb =>
   cases h1 : seeE1 h ps lo v with
   | none => rw [h1] at e'; cases e'
   | some d =>
    rw [h1] at e'
    cases h2 : seeL (seeE1 h ps lo) l with
    | none => rw [h2] at e'; cases e'
    | some ds2 =>
     rw [h2] at e'
     cases e'
     exact ⟨_, _, rfl, seeE1_ok h1 hM ha hps hL, seeLE_ok h2 hM hb hps hL⟩
theorem seeE_ok {h : Tr (Blk F)} {ps : List Value} {bs : List Nat} {lo L : Nat} {r : Ren} {w : World} {v v' : Value} {d : E3 F} (e : seeE h ps lo v = some d) (hM : Mod S r h.get w) (hv : VR r v v') (hps : VsR r ps (bs.map vpt0)) (hL : ∀ n b, lo ≤ n → r.blk n = some b → L ≤ b) : d.is S L bs w v' := by
 unfold seeE at e
 cases v with
 | tuple cs =>
  obtain ⟨l⟩ := cs
  simp only at e
  obtain ⟨ds, h1, rfl⟩ := Option.map_eq_some_iff.1 e
  cases hv with
  | same p => simp [plain] at p
  | tuple hl => exact ⟨_, rfl, seeLE_ok h1 hM hl hps hL⟩
 | agg cs =>
  obtain ⟨l⟩ := cs
  simp only at e
  obtain ⟨ds, h1, rfl⟩ := Option.map_eq_some_iff.1 e
  obtain ⟨l', rfl, hl⟩ := vr_agg hv
  exact ⟨_, rfl, seeLE_ok h1 hM hl hps hL⟩
 | _ =>
  simp only at e
  obtain ⟨d1, h1, rfl⟩ := Option.map_eq_some_iff.1 e
  exact seeE1_ok h1 hM hv hps hL
noncomputable def tellsB (bl : List (BL F)) (fs : List F) (mk : List Value → List Value → List Value) (m : List Value → M F Value) : Option (E3 F) := match newBlks bl .nil 100000 with
 | .no => none
 | .ok ps h0 nx0 _ _ => match newFacts fs h0 nx0 with
  | .no => none
  | .ok vs h1 nx1 _ _ => match m (mk ps vs) h1 nx1 with
   | .no => none
   | .ok a h2 _ _ W => cond (geAll nx1 W) (seeE h2 ps nx1 a) none
theorem blksAre_ge {w : World} : ∀ {l : List (BL F)} {bs : List Nat}, BlksAre S w l bs → ∀ b ∈ bs, S.G ≤ b
 | [], bs, h, b, hb => by
  obtain rfl : bs = [] := h
  cases hb
 | x :: l, bs, h, b, hb => by
  obtain ⟨b0, bs', rfl, _, _, hG, h'⟩ := h
  rcases List.mem_cons.1 hb with rfl | hb
  ·exact hG
  ·exact blksAre_ge h' b hb
theorem tellsB_calls {P : Program} {C : Cfg F} [HardLoc C] {sum : Sums F} {n : Nat} {f : FuncId} {bl : List (BL F)} {fs : List F} {mk : List Value → List Value → List Value} {d : E3 F} (hF : Fits S P C) (hs : SumOK S P sum)
  (e : tellsB bl fs mk (call P C sum n f) = some d) (ha : ∀ r ps qs vs us, VsR r ps qs → VsR r vs us → VsR r (mk ps vs) (mk qs us)) (hok : okBL (S.hn 0) bl = true) (hx : S.G ≤ 100000)
  {w : World} {bs : List Nat} {us : List Value} (hB : BlksAre S w bl bs) (hu : HoldsL S w fs us) (hG : S.G ≤ w.heap.size) (hb : S.base w) (hhid : ∀ b ∈ bs, ∀ t, S.hn 0 t = false → S.hid b t = false := by exact fun _ _ _ h => h) (hlo : S.lo ≤ w.heap.size := by exact Nat.zero_le _) (hJ : JmpAll S P C := by exact .none rfl) :
  Calls P f ⟨mk (bs.map vpt0) us⟩ w fun e w' => ∃ v', e = .returned v' ∧ d.is S w.heap.size bs w' v' ∧ Below w.heap.size w w' := by
 unfold tellsB at e
 cases h0 : newBlks bl .nil 100000 with
 | no => rw [h0] at e; cases e
 | ok ps hh0 nx0 R0 W0 =>
 rw [h0] at e
 simp only at e
 cases h1 : newFacts fs hh0 nx0 with
 | no => rw [h1] at e; cases e
 | ok vs hh nx1 R1 W1 =>
  rw [h1] at e
  simp only at e
  cases h2 : call P C sum n f (mk ps vs) hh nx1 with
  | no => rw [h2] at e; cases e
  | ok a h3 nx2 R W =>
   rw [h2] at e
   simp only at e
   cases hc : geAll nx1 W with
   | false => rw [hc] at e; cases e
   | true =>
    rw [hc] at e
    simp only [cond_true] at e
    have hW := geAll_ok hc
    have hW1 := newFacts_W fs h1
    subst hW1
    have hg : (Tr.get (.nil : Tr (Blk F))) = fun _ => none := funext fun k => Tr.get_nil k
    have hN0 : ∀ m, New (ren0 S.G) 100000 m := fun m k h1 _ => ⟨if_neg (by omega), rfl⟩
    obtain ⟨rfl, hle0, r0, hler, hM0, hNr, hps⟩ := newBlks_ok bl h0 hok hhid (by rw [hg]; exact mod0 hG hb hlo) hN0 hB (fun k b hk hm => by
     have := blksAre_ge hB b hm
     by_cases hk2 : k < S.G
     ·rw [show (ren0 S.G).blk k = some k from if_pos hk2] at hk
      injection hk with hk; omega
     ·rw [show (ren0 S.G).blk k = none from if_neg hk2] at hk; cases hk)
    obtain ⟨hle, r1, hX, hvs⟩ := newFacts_ok fs h1 hM0 (hNr nx1) hu
    have hcl := call_ok hF hs n hJ
    have hfr0 : Fr hh0 nx0 := ((loc_newBlks bl).2 _ _ _ _ _ _ _ h0 (fun k _ => Tr.get_nil k)).fr
    have hfr : Fr hh nx1 := ((loc_newFacts fs).2 _ _ _ _ _ _ _ h1 hfr0).fr
    have hrun := Run.self (hcl.loc f _) h2 hfr
    have hN : ∀ hi, New r1 nx1 hi := fun hi => New.after (hNr hi) hX hle
    refine (hcl.run f _ _ _ _ _ _ _ _ hrun r1 w _ (ha _ _ _ _ _ (hps.mono hX.le) hvs) hX.mod (hN nx2)).mono ?_
    rintro en w' ⟨v', r', rfl, hv, hY⟩
    have hnone : ∀ k, nx1 ≤ k → r1.blk k = none := fun k hk => (hN (k + 1) k hk (Nat.lt_succ_self k)).1
    refine ⟨v', rfl, seeE_ok e hY.mod hv ((hps.mono hX.le).mono hY.le) (fun k b hk hb' => ?_), hY.os, hY.tape, hY.output, hY.size, fun b hb' => ?_⟩
    ·rcases hY.new k b hb' with h5 | h5 | ⟨m, hm, h5⟩
     ·rw [hnone k hk] at h5; cases h5
     ·exact h5
     ·rw [hnone m (hW m hm)] at h5; cases h5
    ·have hbo : w.heap[b]? = some w.heap[b] := Array.getElem?_eq_getElem hb'
     rw [hbo]
     refine hY.keep b _ hbo fun k hk he => ?_
     rw [hnone k (hW k hk)] at he
     cases he
end
set_option maxRecDepth 100000
theorem cmpQ_sgn (x y : Rat) : Big.cmpQ x y = sgQ (x - y) := by
 unfold Big.cmpQ sgQ
 have hng : Big.ng (x - y) = decide ((x - y).num < 0) := rfl
 have hnu : Big.nu (x - y) = (x - y).num.natAbs := rfl
 rw [hng, hnu]
 have hle : 0 ≤ (x - y).num ↔ y ≤ x := by rw [Rat.num_nonneg]; exact (Rat.le_iff_sub_nonneg y x).symm
 by_cases h1 : x < y
 ·have : ¬ y ≤ x := Rat.not_le.2 h1
  have h0 : ¬ 0 ≤ (x - y).num := fun h => this (hle.1 h)
  rw [if_pos h1, if_pos (decide_eq_true (by omega))]
 ·have h2 : y ≤ x := Rat.not_lt.1 h1
  have h3 := hle.2 h2
  have h4 : ¬ (decide ((x - y).num < 0) = true) := fun hd => by have := of_decide_eq_true hd; omega
  rw [if_neg h1, if_neg h4]
  by_cases e : x = y
  ·subst e
   rw [if_pos rfl, Rat.sub_self]; rfl
  ·rw [if_neg e, if_neg]
   intro hz
   have h5 : (x - y).num = 0 := by omega
   have h6 := Rat.num_eq_zero.1 h5
   apply e
   have h7 : x - y + y = x := by rw [Rat.sub_eq_add_neg, Rat.add_assoc, Rat.neg_add_cancel, Rat.add_zero]
   rw [← h7, h6, Rat.zero_add]
set_option maxRecDepth 100000
noncomputable def ecmpK (A : List As) (x y : Qe) : M Sy Value := match signB A (.sub x y) with
 | some z => ret (.int .i64 z)
 | none => fail
noncomputable def ecmpS (A : List As) : Nat × (List Value → Option (M Sy Value)) := (37, fun args => num2 args (ecmpK A))
theorem ecmpS_ok {ρ : Env} {A : List As} (hA : AllH ρ A) : SumF (symSig ρ) Try.prog (ecmpS A).1 (ecmpS A).2 :=
 num2_ok (fun _ _ => by
  unfold ecmpK
  split
  ·exact loc_ret _
  ·exact loc_fail) fun x y h nx v h' nx' R W e r w a b ha hb sa sb hk hM hN => by
  unfold ecmpK at e
  cases hz : signB A (.sub x y) with
  | none => rw [hz] at e; cases (show (fail : M Sy Value) _ _ = _ from e)
  | some z =>
   rw [hz] at e
   have hzz := signB_ok hA hz
   have c := exCmp_any w a b _ _ _ ha hb sa sb hk
   rw [cmpQ_sgn] at c
   rw [show sgQ (x.ev ρ.q - y.ev ρ.q) = z from hzz.symm] at c
   exact goes_pl (show (ret (.int .i64 z) : M Sy Value) _ _ = .ok v h' nx' _ _ from e) rfl hM c
noncomputable def enSums (A : List As) : Sums Sy := sumsOf (mkTab (ecmpS A :: symList A))
theorem enSums_ok {ρ : Env} {A : List As} (hA : AllH ρ A) : SumOK (symSig ρ) Try.prog (enSums A) := sumsOf_ok fun x hx => by
 rcases List.mem_cons.1 hx with rfl | hx
 ·exact ecmpS_ok hA
 ·exact symList_ok hA x hx
noncomputable def esF : Nat := 68
noncomputable def esA (eq lt : Bool) : List As := [⟨1, .sub (.v 2) (.v 8), z0, eq⟩, ⟨3, .sub (.v 2) (.v 8), z0, lt⟩]
noncomputable def esB : List Ix := [.ln 0 1, .bd 2, .lt 2 0 1 0 true, .el 0 2 0 (.v 2)]
noncomputable def esBl : List (BL Sy) := [⟨35, [.ls 1 0], [.one]⟩, ⟨70, [.ng (.v 8), .nu (.v 8), .de (.v 8)], [.one, .one, .one]⟩]
noncomputable def esMk (ps vs : List Value) : List Value := vs ++ ps
noncomputable def esRun (eq lt : Bool) : Option (E3 Sy) := tellsB esBl [.ix 2 0] esMk (call Try.prog (lsCfg false (esA eq lt) esB noJ) (enSums (esA eq lt)) 20 esF)
set_option maxHeartbeats 4000000 in
theorem es_run (eq lt : Bool) (h : (eq && lt) = false) : esRun eq lt = some (.one (.d (.one (.p (.bool !lt))))) := by cases eq <;> cases lt <;> first | (cases h; done) | kernel_rfl
def esQ (a x : Rat) : Nat → Rat
 | 2 => a
 | 8 => x
 | _ => 0
theorem esQ_fit {a x : Rat} (ha : Fit a) (hx : Fit x) (i : Nat) : Fit (esQ a x i) := by
 unfold esQ
 split
 ·exact ha
 ·exact hx
 ·exact fit00
def esNat (n k : Nat) : Nat → Nat
 | 1 => n
 | 2 => k
 | _ => 0
def esLst (qs : List Rat) : Nat → List Rat
 | 0 => qs
 | _ => []
def esEnv (qs : List Rat) (a x : Rat) (ha : Fit a) (hx : Fit x) (k lo : Nat) : Env := ⟨esQ a x, fun _ => (false, ⟨#[]⟩, ⟨#[]⟩), fun i _ => esQ_fit ha hx i, fun i => (esQ_fit ha hx i).sm.up (by decide), fun _ => bad_zero, lo, esLst qs, esNat qs.length k, rfl⟩
def LsLo (lo K : Nat) (w : World) (v : Value) (qs : List Rat) : Prop := ∃ a m, v = .slice a qs.length m ∧ qs.length ≤ m ∧ (qs ≠ [] → ∃ b off cl t z, a = some ⟨b, off, none⟩ ∧ b < lo ∧ w.heap[b]? = some (.cells ⟨cl⟩ t z) ∧ RowAt K w cl off qs)
theorem Below.rowAt {w w' : World} (hb : Below w.heap.size w w') {K off : Nat} {cl : List Value} {qs : List Rat} (h : RowAt K w cl off qs) : RowAt K w' cl off qs := h.stable fun b c t z h1 _ => (hb.block b (Array.getElem?_eq_some_iff.1 h1).1).trans h1
theorem LsLo.keep {lo K : Nat} {w w' : World} {v : Value} {qs : List Rat} (h : LsLo lo K w v qs) (hb : Below w.heap.size w w') : LsLo lo K w' v qs := by
 obtain ⟨a, m, h1, h2, h3⟩ := h
 exact ⟨a, m, h1, h2, fun hp => by
  obtain ⟨b, off, cl, t, z, k1, k2, k3, k4⟩ := h3 hp
  exact ⟨b, off, cl, t, z, k1, k2, (hb.block b (Array.getElem?_eq_some_iff.1 k3).1).trans k3, Below.rowAt hb k4⟩⟩
theorem closure_any (w : World) {qs : List Rat} {x : Rat} (hq : ∀ y ∈ qs, Fit y) (hx : Fit x) (hl : qs.length ≤ 10000) {b3 b5 lo : Nat} {v : Value} {cl : List Value} (l3 : lo ≤ b3) (l5 : lo ≤ b5) (h3 : w.heap[b3]? = some (.cells ⟨[v]⟩ 35 (0, 0))) (hv : LsLo lo 1 w v qs)
  (h5 : w.heap[b5]? = some (.cells ⟨cl⟩ 70 (0, 0))) (hc : NumIn w (.agg ⟨cl⟩) x) (g3 : Try.prog.globals.size ≤ b3) (g5 : Try.prog.globals.size ≤ b5) {i : Nat} (hi : i < qs.length) (hG : Try.prog.globals.size ≤ w.heap.size) (hT : natSig.base w) :
  Calls Try.prog esF ⟨[.int .i64 (i : Int), vpt0 b3, vpt0 b5]⟩ w fun e w' => e = .returned (.bool (!decide (qs.getD i 0 < x))) ∧ Below w.heap.size w w' := by
 have hne : b3 ≠ b5 := by
  intro q
  subst q
  rw [h3] at h5
  simp only [Option.some.injEq, Obj.cells.injEq] at h5
  exact absurd h5.2.1 (by decide)
 have ha := getD_fit hq i
 let E := esEnv qs (qs.getD i 0) x ha hx i lo
 obtain ⟨eq, heq⟩ : ∃ b : Bool, b = true ↔ qs.getD i 0 - x = 0 := ⟨decide (qs.getD i 0 - x = 0), by rw [decide_eq_true_iff]⟩
 have hlt : Big.ng (qs.getD i 0 - x) = decide (qs.getD i 0 < x) := by
  rw [Bool.eq_iff_iff, decide_eq_true_iff]
  unfold Big.ng
  rw [decide_eq_true_iff, ← Int.not_le, Rat.num_nonneg, Rat.not_le]
  constructor
  ·intro h; grind
  ·intro h; grind
 have hA : AllH E (esA eq (Big.ng (qs.getD i 0 - x))) := fun y hy => by
  simp only [esA, List.mem_cons, List.not_mem_nil, or_false] at hy
  rcases hy with rfl | rfl
  ·exact heq
  ·rfl
 have hB : AllX E esB := fun y hy => by
  simp only [esB, List.mem_cons, List.not_mem_nil, or_false] at hy
  rcases hy with rfl | rfl | rfl | rfl
  ·rfl
  ·show i ≤ 10000
   omega
  ·show true = true ↔ ((i : Nat) : Int) + 0 < ((qs.length : Nat) : Int) + 0
   exact ⟨fun _ => by omega, fun _ => rfl⟩
  ·refine ⟨i, ?_, ?_⟩
   ·show ((i : Nat) : Int) = ((i : Nat) : Int) + 0
    omega
   ·show qs[i]? = some (qs.getD i 0)
    rw [List.getD_eq_getElem?_getD, List.getElem?_eq_getElem hi]; rfl
 have hel : (eq && Big.ng (qs.getD i 0 - x)) = false := by
  cases he : eq with
  | false => rfl
  | true =>
   have := heq.1 he
   rw [this]; rfl
 obtain ⟨us, hus, hh⟩ := num_holds (ρ := E) (e := .v 8) (w := w) hc
 have hbl : BlksAre (symSig E) w esBl [b3, b5] := by
  refine ⟨b3, [b5], rfl, ⟨[v], ⟨_, _, rfl, hv, by obtain ⟨a, m, rfl, _⟩ := hv; rfl, rfl⟩, h3⟩, by simpa using hne, g3, b5, [], rfl, ⟨us, hh, ?_⟩, by simp, g5, rfl⟩
  have hcl : cl = us := by
   have := congrArg (fun v : Value => match v with | .agg a => a.toList | _ => []) hus
   simpa using this
  rw [h5, hcl]
  obtain ⟨u1, l1, rfl, _, _, u2, l2, rfl, _, _, u3, l3, rfl, _, _, rfl⟩ := hh
  rfl
 have hu : HoldsL (symSig E) w [.ix 2 0] [.int .i64 (i : Int)] := ⟨_, _, rfl, by
  show Value.int .i64 ((i : Nat) : Int) = .int .i64 (((i : Nat) : Int) + 0)
  rw [Int.add_zero], rfl, rfl⟩
 refine (tellsB_calls (lsFits hA hB) (enSums_ok hA) (es_run eq _ hel) (fun r ps qs vs us h1 h2 => h2.append h1) (by kernel_rfl) glob_few hbl hu hG hT (fun b hb t h => ?_) (Nat.le_trans l3 (Nat.le_of_lt (Array.getElem?_eq_some_iff.1 h3).1)) (.none rfl)).mono ?_
 ·have hlo : lo ≤ b := by
   simp only [List.mem_cons, List.not_mem_nil, or_false] at hb
   rcases hb with rfl | rfl
   ·exact l3
   ·exact l5
  show (Nat.blt b lo || symHid t) = false
  have h' : symHid t = false := h
  rw [h', Bool.or_false]
  cases hq : Nat.blt b lo with
  | false => rfl
  | true => have := Nat.le_of_ble_eq_true hq; omega
 rintro e w' ⟨v', rfl, h1, hb⟩
 have h1' : v' = .bool (!Big.ng (qs.getD i 0 - x)) := h1
 rw [hlt] at h1'
 exact ⟨by rw [h1'], hb⟩
end Ev
end Go.Proofs.Ytnlhjcfpfapafaa
