/- Contracts. -/
import Derived.Test.YtnlhjcfpfapafaaGreatDoorPOq27
import Derived.Test.YtnlhjcfpfapafaaGreatDoorPOq15
import Derived.Laws.BytesString
import Derived.Test.YtnlhjcfpfapafaaGreatDoorPOq21
import Derived.Test.YtnlhjcfpfapafaaGreatDoorPOq22
namespace Go.Proofs.YtnlhjcfpfapafaaGreatDoor
open Go Go.RowKit
namespace Ev
set_option maxRecDepth 100000
noncomputable def Zk8 (v : Value) : Bool := match v with
 | .int k m => match k with
  | .i64 => match m with
   | .ofNat j => Nat.beq j 0
   | _ => false
  | _ => false
 | _ => false
theorem Zk9 {v : Value} (h : Zk8 v = true) : v = .int .i64 ((0 : Nat) : Int) := by
 unfold Zk8 at h
 split at h
 ·split at h
  ·split at h
   ·rw [Nat.eq_of_beq_eq_true h]; rfl
   ·cases h
  ·cases h
 ·cases h
noncomputable def ZiA (a : Value) : M Wf Nxt := bind (fact a) fun x => match x with
 | .wd e => bind (Zo (.lp e)) fun v => val v
 | _ => fail
noncomputable def Ut (op : BinOp) (t : Bool) : M Wf Nxt := match op with
 | .eql => val (.bool t)
 | .neq => val (.bool (!t))
 | .gtr => val (.bool (!t))
 | _ => fail
noncomputable def Ze5 (v : Value) : Bool := match v with
 | .int k m => match k with
  | .i64 => match m with
   | .ofNat j => Nat.beq j 512
   | _ => false
  | _ => false
 | _ => false
theorem ZiB {v : Value} (h : Ze5 v = true) : v = .int .i64 ((512 : Nat) : Int) := by
 unfold Ze5 at h
 split at h
 ·split at h
  ·split at h
   ·rw [Nat.eq_of_beq_eq_true h]; rfl
   ·cases h
  ·cases h
 ·cases h
noncomputable def ZiC (op : BinOp) (t : Bool) : M Wf Nxt := match op with
 | .gtr => val (.bool t)
 | _ => fail
noncomputable def Zco (A : List Xs) (op : BinOp) (a : Value) : M Wf Nxt := bind (fact a) fun x => match x with
 | .ln e => match XK A 4 e x0 with
  | some t => ZiC op t
  | none => fail
 | _ => fail
noncomputable def Uu (A : List Xs) (op : BinOp) (a : Value) : M Wf Nxt := bind (fact a) fun x => match x with
 | .lp e => match XK A 1 e x0 with
  | some t => Ut op t
  | none => fail
 | _ => fail
noncomputable def Zla (A : List Xs) (op : BinOp) (a b : Value) : M Wf Nxt := cond (Zk8 b) (Uu A op a) (cond (Ze5 b) (Zco A op a) fail)
noncomputable def Zcp (a : Value) : M Wf Nxt := bind (fact a) fun x => match x with
 | .sx e => bind (Zo (.ln e)) fun v => val v
 | _ => fail
noncomputable def Zlb (a : Value) : M Wf Nxt := bind (fact a) fun x => match x with
 | .by_ e => bind (Zo (.sx e)) fun v => val v
 | _ => fail
noncomputable def ZdV (c : Call) : Bool := match c.argTypes[0]? with
 | some t => Nat.beq t 9
 | none => false
noncomputable def ZiD (c : Call) : Bool := match (c.argTypes[0]?).bind (Zz Tryz.prog) with
 | some _ => true
 | none => false
noncomputable def Zcq (A : List Xs) (o : Oper) (vs : List Value) : M Wf Nxt := match o.op with
 | .binOp op _ _ _ _ => match vs with
  | [a, b] => Zla A op a b
  | _ => fail
 | .call c => match c.callee with
  | .builtin b => match b with
   | .len => match vs with
    | [a] => cond (ZiD c) (ZiA a) (cond (ZdV c) (Zcp a) fail)
    | _ => fail
   | _ => fail
  | _ => fail
 | .convert src dst _ => match vs with
  | [a] => cond (Nat.beq src 121 && Nat.beq dst 9) (Zlb a) fail
  | _ => fail
 | _ => fail
theorem ZiE (a : Value) : Loc (ZiA a) := by
 unfold ZiA
 refine Zb (ZA _) fun x => ?_
 split
 ·exact Zb (Zp _) fun _ => Zm _
 ·exact Za
theorem Zcr (op : BinOp) (t : Bool) : Loc (Ut op t) := by
 unfold Ut
 split <;> first | exact Zm _ | exact Za
theorem ZiF (op : BinOp) (t : Bool) : Loc (ZiC op t) := by
 unfold ZiC
 split <;> first | exact Zm _ | exact Za
theorem Zcs (A : List Xs) (op : BinOp) (a : Value) : Loc (Uu A op a) := by
 unfold Uu
 refine Zb (ZA _) fun x => ?_
 split
 ·split
  ·exact Zcr _ _
  ·exact Za
 ·exact Za
theorem Zgg (A : List Xs) (op : BinOp) (a : Value) : Loc (Zco A op a) := by
 unfold Zco
 refine Zb (ZA _) fun x => ?_
 split
 ·split
  ·exact ZiF _ _
  ·exact Za
 ·exact Za
theorem ZiG (A : List Xs) (op : BinOp) (a b : Value) : Loc (Zla A op a b) := Ze (Zcs _ _ _) (Ze (Zgg _ _ _) Za)
theorem Zgh (a : Value) : Loc (Zcp a) := by
 unfold Zcp
 refine Zb (ZA _) fun x => ?_
 split
 ·exact Zb (Zp _) fun _ => Zm _
 ·exact Za
theorem ZiH (a : Value) : Loc (Zlb a) := by
 unfold Zlb
 refine Zb (ZA _) fun x => ?_
 split
 ·exact Zb (Zp _) fun _ => Zm _
 ·exact Za
theorem Zgi (A : List Xs) (o : Oper) (vs : List Value) : Loc (Zcq A o vs) := by
 unfold Zcq
 (repeat' split) <;> first | exact Za | exact ZiG _ _ _ _ | exact Ze (ZiE _) (Ze (Zgh _) Za) | exact Ze (ZiH _) Za
theorem ZiI (l : List UInt8) : ∀ s : ByteArray, (l.map fun b => ((b.toNat : Nat) : Int)).foldl (fun r n => r.push (UInt8.ofNat n.toNat)) s = ⟨s.data ++ l.toArray⟩ := by
 induction l with
 | nil => intro s; simp
 | cons b l ih =>
  intro s
  rw [List.map_cons, List.foldl_cons, ih]
  have : UInt8.ofNat ((b.toNat : Nat) : Int).toNat = b := by simp
  rw [this]
  simp [ByteArray.push]
theorem ZdW {w : World} {v : Value} {n : Nat} (h : R.Bt w v (btx n)) : (convert 121 9 v).run Tryz.prog w = .ok (.string (bst n)) w := by
 obtain ⟨A, c, rfl, -, h3⟩ := h
 rw [run_convert_bytes_string w 121 9 5 A _ c Tryz.underlying121 Tryz.underlying5 Tryz.underlying9]
 rcases Nat.eq_zero_or_pos (btx n).length with h0 | h0
 ·have hnil := List.eq_nil_of_length_eq_zero h0
  have hb : bst n = ⟨#[]⟩ := by unfold bst; rw [hnil]
  rw [hb, hnil]
  cases A with
  | none => simp [Conv.bytesToString, Sem.run_pure]; rfl
  | some a =>
   rw [run_bytesToString w a _ c [] (by simpa using run_loadCells_list (P := Tryz.prog) (w := w) a [] (fun j v h => by simp at h))]
   rfl
 ·obtain ⟨b, o, rfl, hlt, hc, -⟩ := h3 h0
  have := run_loadCells_list (P := Tryz.prog) (w := w) ⟨b, o, none⟩ ((btx n).map fun x => Value.int .u8 ((x.toNat : Nat) : Int)) (fun j v hv => by
   rw [List.getElem?_map] at hv
   obtain ⟨x, hx, rfl⟩ := Option.map_eq_some_iff.1 hv
   obtain ⟨hj, rfl⟩ := List.getElem?_eq_some_iff.1 hx
   have hcj := hc j hj
   unfold Addr.add
   split
   ·rename_i hj0; subst hj0; exact hcj
   ·exact hcj)
  rw [run_bytesToString w ⟨b, o, none⟩ _ c ((btx n).map fun x => ((x.toNat : Nat) : Int)) (by
   simpa [List.map_map, Function.comp_def] using this), ZiI]
  unfold bst
  simp [ByteArray.empty, ByteArray.emptyWithCapacity]
  try rfl
section
variable {ρ : XEnv} {A : List Xs} {h h' : Tr (Blk Wf)} {nx nx' : Nat} {R W : List Nat} {r : Ren} {w : World}
theorem Qi {f : Wf} {x : Nxt} {v' : Value} (e : (bind (Zo f) fun v => val v : M Wf Nxt) h nx = .ok x h' nx' R W) (hM : Mod (YA ρ) r h.get w) (hN : New r nx nx') (hv : f.holds ρ w v') (ho : ZR v' = true) :
  nx ≤ nx' ∧ ∃ v r', x = .val v ∧ VR r' v v' ∧ Ext (YA ρ) r w nx nx' W h'.get r' w := by
 obtain ⟨v, h0, nx0, R0, W0, R1, W1, e0, e1, rfl, rfl⟩ := Zc e
 obtain ⟨rfl, rfl, rfl, rfl⟩ := Zt e1
 obtain ⟨i, h2, nx2, R2, W2, R3, W3, e2, e3, rfl, rfl⟩ := Zc e0
 obtain ⟨rfl, rfl, rfl, rfl⟩ := Zh e3
 unfold fresh at e2
 cases e2
 obtain ⟨r', hX, hr⟩ := YF (S := YA ρ) (f := f) hM (Below.refl _ w) hN hv ho
 exact ⟨Nat.le_succ _, _, r', rfl, .opq hr ho, by simpa using hX.congr fun n => .inr (Tr.get_set _ _ _ _)⟩
theorem Zbh {op : BinOp} {k : Nat} {t : Bool} {x : Nxt} (ht : t = decide (k = 0)) (e : Ut op t h nx = .ok x h' nx' R W) :
  h' = h ∧ nx' = nx ∧ W = [] ∧ ∃ v, x = .val v ∧ plain v = true ∧ Wm Tryz.prog op (.int .i64 (k : Int)) (.int .i64 ((0 : Nat) : Int)) = some v := by
 subst ht
 unfold Ut at e
 cases op <;> first | (cases (show (fail : M Wf Nxt) h nx = _ from e); done) | skip
 all_goals
  obtain ⟨rfl, rfl, rfl, rfl⟩ := Zt e
  refine ⟨rfl, rfl, rfl, _, rfl, rfl, ?_⟩
  rcases Nat.eq_zero_or_pos k with h0 | h0
  ·subst h0; rfl
  ·obtain ⟨m, rfl⟩ : ∃ m, k = m + 1 := ⟨k - 1, by omega⟩
   simp [Wm, Zjs]
   try omega
theorem ZiJ (hA : YX ρ A) {C : Cfg Wf} (hC : C.hard = Zcq A) : Xg (YA ρ) Tryz.prog C := by
 intro o vs h nx x h' nx' R W hs e r w ρo hM hN hv
 rw [hC] at e
 unfold Zcq at e
 cases hop : o.op with
 | binOp op t p q yt =>
  rw [hop] at e
  simp only at e
  have hops : o.op.operands.toList.map ρo = [ρo p, ρo q] := by rw [hop]; rfl
  rw [hops] at hv
  rcases vs with _ | ⟨u, _ | ⟨v, _ | ⟨z, l⟩⟩⟩ <;> first | (cases (show (fail : M Wf Nxt) h nx = _ from e); done) | skip
  cases hv with
  | cons hu hv => cases hv with
   | cons hv hn =>
    have e0 : Zla A op u v h nx = .ok x h' nx' R W := e
    clear e
    unfold Zla at e0
    cases hk : Zk8 v with
    | true =>
     rw [hk] at e0
     have hb := Zk9 hk
     subst hb
     have hb' : ρo q = .int .i64 (0 : Nat) := hv.eq_of_plain rfl
     have e0 : Uu A op u h nx = .ok x h' nx' R W := e0
     unfold Uu at e0
     obtain ⟨f, h1, nx1, R1, W1, R2, W2, e2, e3, rfl, rfl⟩ := Zc e0
     obtain ⟨rfl, rfl, rfl, hh⟩ := ZB e2 hu hM
     cases f with
     | lp e0 =>
      simp only at e3
      cases ha : XK A 1 e0 x0 with
      | none => rw [ha] at e3; cases (show (fail : M Wf Nxt) _ _ = _ from e3)
      | some t0 =>
       rw [ha] at e3
       simp only at e3
       obtain ⟨k, hkv, hk0⟩ := hh
       have ht : t0 = decide (k = 0) := by
        have := Va hA ha
        rw [← hk0] at this
        cases t0 with
        | true => rw [decide_eq_true (this.1 rfl)]
        | false => rw [decide_eq_false (fun h => by cases this.2 h)]
       obtain ⟨rfl, rfl, rfl, v, rfl, hp, hq⟩ := Zbh ht e3
       refine ⟨Nat.le_refl _, v, w, r, ?_, .same hp, Ext.refl _ _ hM⟩
       simp only [execOp, hop, hkv, hb']
       rw [Sem.run_bind, UM hq]
       rfl
     | _ => cases (show (fail : M Wf Nxt) _ _ = _ from e3)
    | false =>
     rw [hk] at e0
     obtain ⟨hk2, e1⟩ := Zi (show cond (Ze5 v) (Zco A op u) fail h nx = _ from e0)
     have hb := ZiB hk2
     subst hb
     have hb' : ρo q = .int .i64 (512 : Nat) := hv.eq_of_plain rfl
     unfold Zco at e1
     obtain ⟨f, h1, nx1, R1, W1, R2, W2, e2, e3, rfl, rfl⟩ := Zc e1
     obtain ⟨rfl, rfl, rfl, hh⟩ := ZB e2 hu hM
     cases f with
     | ln e0 =>
      simp only at e3
      cases ha : XK A 4 e0 x0 with
      | none => rw [ha] at e3; cases (show (fail : M Wf Nxt) _ _ = _ from e3)
      | some t0 =>
       rw [ha] at e3
       have hkv : ρo p = .int .i64 (szN (e0.ev ρ.q) : Nat) := hh
       have ht := Zgf hA ha
       generalize szN (e0.ev ρ.q) = k at hkv ht
       have e4 : ZiC op t0 h1 nx1 = .ok x h' nx' R2 W2 := e3
       unfold ZiC at e4
       cases op <;> first | (cases (show (fail : M Wf Nxt) _ _ = _ from e4); done) | skip
       obtain ⟨rfl, rfl, rfl, rfl⟩ := Zt e4
       refine ⟨Nat.le_refl _, _, w, r, ?_, .same rfl, Ext.refl _ _ hM⟩
       have hd : decide (512 < k) = t0 := by
        cases t0 with
        | true => exact decide_eq_true (ht.1 rfl)
        | false => exact decide_eq_false (fun h => by cases ht.2 h)
       simp only [execOp, hop, hkv, hb']
       rw [Sem.run_bind, UM (z := .bool t0) (by
        rw [← hd]
        simp [Wm, Zjs]
        try omega)]
       rfl
     | _ => cases (show (fail : M Wf Nxt) _ _ = _ from e3)
 | call c =>
  rw [hop] at e
  obtain ⟨callee, args, ats⟩ := c
  cases callee with
  | builtin b =>
   simp only at e
   cases b <;> first | (cases (show (fail : M Wf Nxt) h nx = _ from e); done) | skip
   simp only at e
   have hops : o.op.operands.toList.map ρo = args.toList.map ρo := by rw [hop]; simp [Op.operands, Call.operands]
   rw [hops] at hv
   rcases vs with _ | ⟨u, _ | ⟨z, l⟩⟩ <;> first | (cases (show (fail : M Wf Nxt) h nx = _ from e); done) | skip
   generalize hl : args.toList.map ρo = al at hv
   cases hv with
   | cons hu hv =>
    cases hv
    rename_i u'
    have hargs : args.map ρo = #[u'] := by rw [YP, hl]
    cases hsl : ZiD ⟨.builtin .len, args, ats⟩ with
    | true =>
     rw [hsl] at e
     have e1 : ZiA u h nx = .ok x h' nx' R W := e
     unfold ZiA at e1
     obtain ⟨f, h1, nx1, R1, W1, R2, W2, e2, e3, rfl, rfl⟩ := Zc e1
     obtain ⟨rfl, rfl, rfl, hh⟩ := ZB e2 hu hM
     cases f with
     | wd e0 =>
      simp only at e3
      obtain ⟨a, k, c, rfl, hk0⟩ := Zgd hh
      obtain ⟨hle, v1, r', rfl, hvr, hX⟩ := Qi e3 hM hN (v' := .int .i64 (k : Nat)) ⟨k, rfl, hk0⟩ rfl
      refine ⟨hle, _, w, r', ?_, hvr, by simpa using hX⟩
      unfold ZiD at hsl
      cases hq : (ats[0]?).bind (Zz Tryz.prog) with
      | none => rw [hq] at hsl; cases hsl
      | some e2 =>
       obtain ⟨t, ht, hsl2⟩ := Option.bind_eq_some_iff.1 hq
       have hu := run_underlying (Zw hsl2) w
       simp [execOp, hop, resolve, hargs, invoke, builtin, Builtin.len_, ht, hu, goInt]
     | _ => cases (show (fail : M Wf Nxt) _ _ = _ from e3)
    | false =>
     rw [hsl] at e
     obtain ⟨hst, e1⟩ := Zi (show cond (ZdV ⟨.builtin .len, args, ats⟩) (Zcp u) fail h nx = _ from e)
     unfold Zcp at e1
     obtain ⟨f, h1, nx1, R1, W1, R2, W2, e2, e3, rfl, rfl⟩ := Zc e1
     obtain ⟨rfl, rfl, rfl, hh⟩ := ZB e2 hu hM
     cases f with
     | sx e0 =>
      simp only at e3
      obtain rfl : u' = .string (bst (e0.ev ρ.q)) := hh
      obtain ⟨hle, v1, r', rfl, hvr, hX⟩ := Qi (f := .ln e0) e3 hM hN (v' := .int .i64 (szN (e0.ev ρ.q) : Nat)) rfl rfl
      refine ⟨hle, _, w, r', ?_, hvr, by simpa using hX⟩
      unfold ZdV at hst
      cases ht : ats[0]? with
      | none => simp only [ht] at hst; cases hst
      | some t =>
       simp only [ht] at hst
       obtain rfl := Nat.eq_of_beq_eq_true hst
       have hu := run_underlying (P := Tryz.prog) Tryz.underlying9 w
       simp [execOp, hop, resolve, hargs, invoke, builtin, Builtin.len_, ht, hu, goInt, Ju]
     | _ => cases (show (fail : M Wf Nxt) _ _ = _ from e3)
  | _ => cases (show (fail : M Wf Nxt) h nx = _ from e)
 | convert src dst p =>
  rw [hop] at e
  simp only at e
  have hops : o.op.operands.toList.map ρo = [ρo p] := by rw [hop]; rfl
  rw [hops] at hv
  rcases vs with _ | ⟨u, _ | ⟨z, l⟩⟩ <;> first | (cases (show (fail : M Wf Nxt) h nx = _ from e); done) | skip
  cases hv with
  | cons hu hv =>
   obtain ⟨hk, e1⟩ := Zi e
   simp only [Bool.and_eq_true] at hk
   obtain rfl := Nat.eq_of_beq_eq_true hk.1
   obtain rfl := Nat.eq_of_beq_eq_true hk.2
   unfold Zlb at e1
   obtain ⟨f, h1, nx1, R1, W1, R2, W2, e2, e3, rfl, rfl⟩ := Zc e1
   obtain ⟨rfl, rfl, rfl, hh⟩ := ZB e2 hu hM
   cases f with
   | by_ e0 =>
    simp only at e3
    obtain ⟨hle, v1, r', rfl, hvr, hX⟩ := Qi (f := .sx e0) e3 hM hN (v' := .string (bst (e0.ev ρ.q))) rfl rfl
    refine ⟨hle, _, w, r', ?_, hvr, by simpa using hX⟩
    simp only [execOp, hop]
    rw [Sem.run_bind, ZdW (w := w) (v := ρo p) (n := e0.ev ρ.q) hh]
    rfl
   | _ => cases (show (fail : M Wf Nxt) _ _ = _ from e3)
 | _ => rw [hop] at e; cases (show (fail : M Wf Nxt) h nx = _ from e)
end
noncomputable def wv (v : Value) : M Wf Xe := cond (XU v) (ret x0) (bind (fact v) fun f => match f with
 | .wd e => ret e
 | _ => fail)
theorem ZdX (v : Value) : Loc (wv v) := by
 unfold wv
 refine Ze (Zg _) (Zb (ZA _) fun f => ?_)
 split <;> first | exact Zg _ | exact Za
noncomputable def w2 (args : List Value) (k : Xe → Xe → M Wf Value) : Option (M Wf Value) := match args with
 | [a, b] => some (bind (wv a) fun x => bind (wv b) fun y => cond (Zgb x && Zgb y) (k x y) fail)
 | _ => none
noncomputable def QH (e : Xe) : M Wf Value := Zo (.wd e)
noncomputable def ZiK (A : List Xs) (x y : Xe) : M Wf Value := match XK A 3 x y with
 | some t => cond t fail (QH (.sub x y))
 | none => match XK A 3 y x with
  | some t => cond t (QH (.sub x y)) fail
  | none => fail
noncomputable def ZiL (A : List Xs) (x y : Xe) : M Wf Value := match XK A 3 x y with
 | some t => cond t (ret (.int .i64 (-1))) (match XK A 2 x y with
  | some u => ret (.int .i64 (cond u 0 1))
  | none => fail)
 | none => fail
theorem Vb (e : Xe) : Loc (QH e) := Zp _
theorem ZiM (A : List Xs) (x y : Xe) : Loc (ZiK A x y) := by
 unfold ZiK
 (repeat' split) <;> first | exact Ze Za (Vb _) | exact Ze (Vb _) Za | exact Za
theorem ZiN (A : List Xs) (x y : Xe) : Loc (ZiL A x y) := by
 unfold ZiL
 split
 ·refine Ze (Zg _) ?_
  split <;> first | exact Zg _ | exact Za
 ·exact Za
section
variable {ρ : XEnv} {A : List Xs} {h h' : Tr (Blk Wf)} {nx nx' : Nat} {Q W : List Nat} {r : Ren} {w : World}
theorem ZiO {v v' : Value} {x : Xe} (e : wv v h nx = .ok x h' nx' Q W) (hv : VR r v v') (hM : Mod (YA ρ) r h.get w) : h' = h ∧ nx' = nx ∧ W = [] ∧ R.Nin w v' (x.ev ρ.q) := by
 unfold wv at e
 cases hi : XU v with
 | true =>
  rw [hi] at e
  obtain ⟨rfl, rfl, rfl, rfl⟩ := Zh e
  refine ⟨rfl, rfl, rfl, ?_⟩
  cases v with
  | slice a m c =>
   cases a with
   | some _ => simp [XU] at hi
   | none =>
    simp only [XU, Bool.and_eq_true] at hi
    have h1 := Nat.eq_of_beq_eq_true hi.1
    have h2 := Nat.eq_of_beq_eq_true hi.2
    subst h1; subst h2
    rw [hv.nilslc]
    exact R.Nin.nil_ w
  | _ => simp [XU] at hi
 | false =>
  rw [hi] at e
  obtain ⟨f, h1, nx1, R1, W1, R2, W2, e1, e2, rfl, rfl⟩ := Zc (show bind (fact v) (fun f => match f with
   | .wd e => ret e
   | _ => fail : Wf → M Wf Xe) h nx = _ from e)
  obtain ⟨rfl, rfl, rfl, hh⟩ := ZB e1 hv hM
  cases f with
  | lp _ => cases (show (fail : M Wf Xe) _ _ = _ from e2)
  | st _ => cases (show (fail : M Wf Xe) _ _ = _ from e2)
  | sb => cases (show (fail : M Wf Xe) _ _ = _ from e2)
  | by_ _ => cases (show (fail : M Wf Xe) _ _ = _ from e2)
  | sx _ => cases (show (fail : M Wf Xe) _ _ = _ from e2)
  | ln _ => cases (show (fail : M Wf Xe) _ _ = _ from e2)
  | iv _ _ => cases (show (fail : M Wf Xe) _ _ = _ from e2)
  | wd e0 =>
   obtain ⟨rfl, rfl, rfl, rfl⟩ := Zh e2
   exact ⟨rfl, rfl, by simp, hh⟩
def Uv (ρ : XEnv) (f : FuncId) (args' : List Value) (r : Ren) (w : World) (nx nx' : Nat) (W : List Nat) (g' : Nat → Option (Blk Wf)) (v : Value) : Prop :=
 Calls Tryz.prog f ⟨args'⟩ w fun e w' => ∃ v' r', e = .returned v' ∧ VR r' v v' ∧ Ext (YA ρ) r w nx nx' W g' r' w'
theorem Zct {f : FuncId} {k : Xe → Xe → M Wf Value} (hl : ∀ n m, Loc (k n m)) (hk : ∀ x y (h : Tr (Blk Wf)) nx v h' nx' Q W, k x y h nx = .ok v h' nx' Q W → ∀ r w a b, R.Nin w a (x.ev ρ.q) → R.Nin w b (y.ev ρ.q) → R.Sml (x.ev ρ.q) → R.Sml (y.ev ρ.q) → Mod (YA ρ) r h.get w → New r nx nx' → Uv ρ f [a, b] r w nx nx' W h'.get v) :
  Z3 (YA ρ) Tryz.prog f (fun args => w2 args k) := by
 intro args m e
 unfold w2 at e
 rcases args with _ | ⟨a, _ | ⟨b, _ | ⟨c, l⟩⟩⟩ <;> simp only [reduceCtorEq, Option.some.injEq] at e
 subst e
 refine ⟨Zb (ZdX a) fun n => Zb (ZdX b) fun m => Ze (hl n m) Za, ?_⟩
 intro h nx v h' nx' Q W e r w args' ha hM hN
 cases ha with
 | cons ha1 ha2 =>
  cases ha2 with
  | cons hb1 hb2 =>
   cases hb2
   obtain ⟨n, h1, nx1, R1, W1, R2, W2, e1, e2, rfl, rfl⟩ := Zc e
   obtain ⟨rfl, rfl, rfl, hn⟩ := ZiO e1 ha1 hM
   obtain ⟨m, h2, nx2, R3, W3, R4, W4, e3, e4, rfl, rfl⟩ := Zc e2
   obtain ⟨rfl, rfl, rfl, hm⟩ := ZiO e3 hb1 hM
   obtain ⟨hs, e5⟩ := Zi e4
   simp only [Bool.and_eq_true] at hs
   simpa [Uv] using hk n m _ _ _ _ _ _ _ e5 r w _ _ hn hm (WZ hs.1) (WZ hs.2) hM hN
theorem Zbi {e0 : Xe} {f : FuncId} {args' : List Value} {v : Value} (e : QH e0 h nx = .ok v h' nx' Q W) (hM : Mod (YA ρ) r h.get w) (hN : New r nx nx')
  (c : Calls Tryz.prog f ⟨args'⟩ w fun e w' => ∃ v', e = .returned v' ∧ R.Nin w' v' (e0.ev ρ.q) ∧ Below w.heap.size w w') : Uv ρ f args' r w nx nx' W h'.get v := by
 unfold QH at e
 obtain ⟨i, h1, nx1, R1, W1, R2, W2, e1, e2, rfl, rfl⟩ := Zc e
 obtain ⟨rfl, rfl, rfl, rfl⟩ := Zh e2
 unfold fresh at e1
 cases e1
 refine c.mono ?_
 rintro en w' ⟨v', rfl, hv, hb⟩
 obtain ⟨r', hX, hr⟩ := YF (S := YA ρ) (f := .wd e0) hM hb hN hv (Xq hv)
 exact ⟨v', r', rfl, .opq hr (Xq hv), by simpa using hX.congr fun n => .inr (Tr.get_set _ _ _ _)⟩
theorem Zov : Z3 (YA ρ) Tryz.prog 125 (fun args => w2 args fun x y => QH (.mul x y)) :=
 Zct (fun _ _ => Vb _) fun x y h nx v h' nx' Q W e r w a b ha hb hx hy hM hN => Zbi e hM hN (R.mul_nat w a b _ _ ha hb hx hy)
theorem Zow : Z3 (YA ρ) Tryz.prog 126 (fun args => w2 args fun x y => QH (.add x y)) :=
 Zct (fun _ _ => Vb _) fun x y h nx v h' nx' Q W e r w a b ha hb hx hy hM hN => Zbi e hM hN (R.add_nat w a b _ _ ha hb hx hy)
theorem Zox : Z3 (YA ρ) Tryz.prog 110 (fun args => w2 args fun x y => QH (.gcd x y)) :=
 Zct (fun _ _ => Vb _) fun x y h nx v h' nx' Q W e r w a b ha hb hx hy hM hN => Zbi e hM hN (R.gcd_nat w a b _ _ ha hb hx hy)
theorem Zoy (hA : YX ρ A) : Z3 (YA ρ) Tryz.prog 127 (fun args => w2 args (ZiK A)) :=
 Zct (fun _ _ => ZiM A _ _) fun x y h nx v h' nx' Q W e r w a b ha hb hx hy hM hN => by
  have fin : y.ev ρ.q ≤ x.ev ρ.q → QH (.sub x y) h nx = .ok v h' nx' Q W → Uv ρ _ [a, b] r w nx nx' W h'.get v := fun hle e => Zbi e hM hN (R.less_nat w a b _ _ ha hb hx hle)
  unfold ZiK at e
  cases h3 : XK A 3 x y with
  | some t =>
   rw [h3] at e
   cases t with
   | true => cases (show (fail : M Wf Value) h nx = _ from e)
   | false =>
    have := Qh hA h3
    exact fin (Nat.le_of_not_lt fun hl => by cases this.2 hl) e
  | none =>
   rw [h3] at e
   cases h4 : XK A 3 y x with
   | none => rw [h4] at e; cases (show (fail : M Wf Value) h nx = _ from e)
   | some t =>
    rw [h4] at e
    cases t with
    | false => cases (show (fail : M Wf Value) h nx = _ from e)
    | true => exact fin (Nat.le_of_lt ((Qh hA h4).1 rfl)) e
theorem Zoz (hA : YX ρ A) : Z3 (YA ρ) Tryz.prog 111 (fun args => w2 args (ZiL A)) :=
 Zct (fun _ _ => ZiN A _ _) fun x y h nx v h' nx' Q W e r w a b ha hb hx hy hM hN => by
  have c := R.cmp_nat w a b _ _ ha hb
  have fin : ∀ i : Int, Big.cmpI (x.ev ρ.q) (y.ev ρ.q) = i → (ret (.int .i64 i) : M Wf Value) h nx = .ok v h' nx' Q W → Uv ρ _ [a, b] r w nx nx' W h'.get v := fun i hi e => by
   rw [hi] at c
   exact Xr e rfl hM (c.mono fun _ _ hh => ⟨hh.1, hh.2.below _⟩)
  unfold ZiL at e
  cases h3 : XK A 3 x y with
  | none => rw [h3] at e; cases (show (fail : M Wf Value) h nx = _ from e)
  | some t =>
   rw [h3] at e
   have h3' := Qh hA h3
   cases t with
   | true => exact fin _ (Big.cmpI_lt (h3'.1 rfl)) e
   | false =>
    have hn : ¬ x.ev ρ.q < y.ev ρ.q := fun hl => by cases h3'.2 hl
    cases h2 : XK A 2 x y with
    | none =>
     simp only [cond_false, h2] at e
     cases (show (fail : M Wf Value) h nx = _ from e)
    | some u =>
     simp only [cond_false, h2] at e
     have h2' := Zge hA h2
     cases u with
     | true => exact fin _ (by rw [h2'.1 rfl]; exact Big.cmpI_eq _) e
     | false =>
      have hne : x.ev ρ.q ≠ y.ev ρ.q := fun hl => by cases h2'.2 hl
      exact fin _ (Big.cmpI_gt (by omega)) e
end
section
variable {F : Type} {S : Sig F}
theorem Ze6 {r : Ren} {g : Nat → Option (Blk F)} {w : World} {nx b : Nat} {c c' : List Value} {t : TypeId} (hM : Mod S r g w) (hN : r.blk nx = none ∧ r.val nx = none) (hb : w.heap[b]? = some (.cells ⟨c'⟩ t (0, 0))) (hc : VsR r c c') (ht : S.hid b t = false) (hno : ∀ n, r.blk n ≠ some b) :
  r.le ⟨fun n => if n = nx then some b else r.blk n, r.val, r.len⟩ ∧ Mod S ⟨fun n => if n = nx then some b else r.blk n, r.val, r.len⟩ (fun n => if n = nx then some (.cells c t) else g n) w := by
 have hle : r.le ⟨fun n => if n = nx then some b else r.blk n, r.val, r.len⟩ := by
  refine ⟨fun n a e => ?_, fun _ _ e => e, fun _ _ _ => rfl⟩
  have : n ≠ nx := fun h => by rw [h, hN.1] at e; cases e
  simp only [if_neg this, e]
 refine ⟨hle, ⟨fun n m a h1 h2 => ?_, fun n a h1 => ?_, fun n d s h1 => ?_, fun n f h1 => ?_, hM.base, fun n hn => hle.blk _ _ (hM.glob n hn), fun n a h1 hn => ?_, fun n d s h1 => ?_, hM.sz, hM.lp.mono hle (fun n s h1 => ?_) (fun _ _ h => h), hM.ow.mono hle (fun n f h1 => ?_) (fun _ _ _ _ h _ => h), fun n m x h1 => ?_⟩⟩
 ·try simp only at h1 h2
  split at h1 <;> split at h2
  ·rename_i e1 e2; exact .inl (e1.trans e2.symm)
  ·cases h1; exact absurd h2 (hno m)
  ·cases h2; exact absurd h1 (hno n)
  ·rename_i e1 e2
   refine (hM.inj n m a h1 h2).imp id (Or.imp (fun k => ?_) (fun k => ?_))
   ·exact ⟨fun c t => by simpa only [if_neg e1] using k.1 c t, fun c t => by simpa only [if_neg e1] using k.2.1 c t, fun s => by simpa only [if_neg e1] using k.2.2.1 s, fun f => by simpa only [if_neg e1] using k.2.2.2 f⟩
   ·exact ⟨fun c t => by simpa only [if_neg e2] using k.1 c t, fun c t => by simpa only [if_neg e2] using k.2.1 c t, fun s => by simpa only [if_neg e2] using k.2.2.1 s, fun f => by simpa only [if_neg e2] using k.2.2.2 f⟩
 ·try simp only at h1
  split at h1
  ·cases h1; exact (Array.getElem?_eq_some_iff.1 hb).1
  ·exact hM.lt n a h1
 ·try simp only at h1
  split at h1
  ·rename_i e; subst e
   cases h1
   exact ⟨b, c', if_pos rfl, hb, hc.mono hle, fun _ => ht⟩
  ·obtain ⟨b2, c2, k1, k2, k3, k4⟩ := hM.cells n d s h1
   exact ⟨b2, c2, hle.blk _ _ k1, k2, k3.mono hle, k4⟩
 ·try simp only at h1
  split at h1
  ·cases h1
  ·obtain ⟨v, k1, k2⟩ := hM.fact n f h1
   exact ⟨v, k1, k2⟩
 ·try simp only at h1
  split at h1
  ·cases h1
   rcases Nat.lt_or_ge b S.G with q | q
   ·exact absurd (hM.glob b q) (hno b)
   ·exact q
  ·exact hM.own n a h1 hn
 ·try simp only at h1
  split at h1
  ·cases h1
  ·obtain ⟨b2, c2, k1, k2, k3, k4, k5⟩ := hM.room n d s h1
   exact ⟨b2, c2, hle.blk _ _ k1, k2, k3.mono hle, k4, k5⟩
 ·try simp only at h1
  split at h1
  ·cases h1
  ·exact h1
 ·try simp only at h1
  split at h1
  ·cases h1
  ·exact h1
 ·try simp only at h1
  split at h1
  ·cases h1
  ·obtain ⟨b2, off, k1, k2, k3⟩ := hM.ad n m x h1
   exact ⟨b2, off, hle.blk _ _ k1, hle.val _ _ k2, k3⟩
structure BL (F : Type) where
 t : TypeId
 fs : List F
 ls : List Lay
noncomputable def WG (i : Nat) : Value := .pointer (some ⟨i, 0, none⟩)
noncomputable def Uw : List (BL F) → M F (List Value) := List.rec (motive := fun _ => M F (List Value)) (ret []) (fun x _ ih => bind (ZG x.fs) fun vs => bind (fresh (.cells (split x.ls vs) x.t)) fun i => bind ih fun l => ret (WG i :: l))
def QZ (S : Sig F) (w : World) : List (BL F) → List Nat → Prop
 | [], bs => bs = []
 | x :: l, bs => ∃ b bs', bs = b :: bs' ∧ (∃ us, Yz S w x.fs us ∧ w.heap[b]? = some (.cells ⟨split x.ls us⟩ x.t (0, 0))) ∧ b ∉ bs' ∧ S.G ≤ b ∧ QZ S w l bs'
noncomputable def Znp (hid : TypeId → Bool) (l : List (BL F)) : Bool := List.rec (motive := fun _ => Bool) true (fun x _ ih => We x.ls && (!hid x.t && ih)) l
theorem Qz : ∀ l : List (BL F), Loc (Uw l)
 | [] => Zg _
 | x :: l => Zb (ZC x.fs) fun _ => Zb (ZX _) fun _ => Zb (Qz l) fun _ => Zg _
theorem Ka : ∀ (l : List (BL F)) {h h' : Tr (Blk F)} {nx nx' : Nat} {R W : List Nat} {vs : List Value} {r : Ren} {w : World} {bs : List Nat}, Uw l h nx = .ok vs h' nx' R W → Znp (S.hn 0) l = true → (∀ b t, S.hn 0 t = false → S.hid b t = false) → Mod S r h.get w → (∀ hi, New r nx hi) → QZ S w l bs → (∀ n b, r.blk n = some b → b ∉ bs) →
  W = [] ∧ nx ≤ nx' ∧ ∃ r', r.le r' ∧ Mod S r' h'.get w ∧ (∀ hi, New r' nx' hi) ∧ VsR r' vs (bs.map WG)
 | [], h, h', nx, nx', R, W, vs, r, w, bs, e, _, _, hM, hN, hB, hno => by
  obtain ⟨rfl, rfl, rfl, rfl⟩ := Zh (show (ret [] : M F _) h nx = _ from e)
  obtain rfl : bs = [] := hB
  exact ⟨rfl, Nat.le_refl _, r, .refl r, hM, hN, .nil⟩
 | x :: l, h, h', nx, nx', R, W, vs, r, w, bs, e, hok, hh, hM, hN, hB, hno => by
  obtain ⟨b, bs', rfl, ⟨us, hu, hb⟩, hnb, hG, hB'⟩ := hB
  have hok' : (We x.ls && (!S.hn 0 x.t && Znp (S.hn 0) l)) = true := hok
  simp only [Bool.and_eq_true] at hok'
  obtain ⟨ho1, ho2, ho3⟩ := hok'
  have ht : S.hid b x.t = false := hh b _ (by simpa using ho2)
  obtain ⟨us0, h1, nx1, R1, W1, R2, W2, e1, e2, rfl, rfl⟩ := Zc (show bind (ZG x.fs) (fun vs => bind (fresh (.cells (split x.ls vs) x.t)) fun i => bind (Uw l) fun l => ret (WG i :: l)) h nx = _ from e)
  have hW1 := XE _ e1
  subst hW1
  obtain ⟨i, h2, nx2, R3, W3, R4, W4, e3, e4, rfl, rfl⟩ := Zc e2
  unfold fresh at e3
  cases e3
  obtain ⟨ps, h5, nx5, R5, W5, R6, W6, e5, e6, rfl, rfl⟩ := Zc e4
  obtain ⟨rfl, rfl, rfl, rfl⟩ := Zh e6
  obtain ⟨hle1, r1, hX, hvs⟩ := Z4 x.fs e1 hM (hN _) hu
  have hN1 : ∀ hi, New r1 nx1 hi := fun hi => New.after (hN hi) hX hle1
  have hno1 : ∀ n c, r1.blk n = some c → c ∉ b :: bs' := fun n c hc => by
   rcases hX.new n c hc with h | h | ⟨_, h, _⟩
   ·exact hno n c h
   ·have := hX.mod.lt n c hc
    omega
   ·cases h
  obtain ⟨hle2, hM2⟩ := Ze6 hX.mod (hN1 (nx1 + 1) nx1 (Nat.le_refl _) (Nat.lt_succ_self _)) hb (Wg ho1 hvs) ht fun n hn => hno1 n b hn (List.mem_cons_self)
  have hM2' := Mod.congr (g' := (h1.set nx1 (.cells (split x.ls us0) x.t)).get) hM2 fun n => .inr (Tr.get_set _ _ _ _)
  obtain ⟨rfl, hle5, r5, hle, hM5, hN5, hps⟩ := Ka l e5 ho3 hh hM2' (fun hi n a c => by
    have := hN1 hi n (by omega) c
    refine ⟨?_, this.2⟩
    show (if n = nx1 then some b else r1.blk n) = none
    rw [if_neg (by omega)]; exact this.1) hB' (fun n c hc => by
    simp only at hc
    split at hc
    ·cases hc; exact hnb
    ·exact fun hm => hno1 n c hc (List.mem_cons_of_mem _ hm))
  refine ⟨rfl, by omega, r5, (hX.le.trans hle2).trans hle, hM5, hN5, .cons (.ptr (hle.blk _ _ ?_)) hps⟩
  show (if nx1 = nx1 then some b else r1.blk nx1) = some b
  rw [if_pos rfl]
noncomputable def sel (is : List Nat) (l : List Value) : List Value := is.map fun i => (l[i]?).getD undef
theorem ZdY {r : Ren} {vs us : List Value} (h : VsR r vs us) : ∀ is : List Nat, VsR r (sel is vs) (sel is us)
 | [] => .nil
 | i :: is => by
  refine .cons ?_ (ZdY h is)
  cases hi : vs[i]? with
  | none =>
   have : us[i]? = none := by
    rw [List.getElem?_eq_none_iff] at hi ⊢
    rw [h.length]; exact hi
   simp only [hi, this]
   exact XB
  | some v =>
   obtain ⟨v', h1, h2⟩ := h.get hi
   simp only [hi, h1]
   exact h2
noncomputable def Qj (v : Value) : Option Nat := match v with
 | .pointer a => match a with
  | some p => match p.off with
   | 0 => match p.spot with
    | none => some p.block
    | some _ => none
   | _ => none
  | none => none
 | _ => none
inductive E1 (F : Type) where
 | d (x : D2 F)
 | b (t : TypeId) (l : List (D1 F))
 | o (i : Nat)
inductive E3 (F : Type) where
 | one (e : E1 F)
 | agg (l : List (E1 F))
 | tuple (l : List (E1 F))
def E1.is (S : Sig F) (lo : Nat) (bs : List Nat) (w : World) : E1 F → Value → Prop
 | .d x, v => x.is S w v
 | .b t l, v => ∃ b vs, v = WG b ∧ lo ≤ b ∧ w.heap[b]? = some (.cells ⟨vs⟩ t (0, 0)) ∧ D1.all S w l vs
 | .o i, v => ∃ b, bs[i]? = some b ∧ v = WG b
def E1.all (S : Sig F) (lo : Nat) (bs : List Nat) (w : World) : List (E1 F) → List Value → Prop
 | [], l => l = []
 | e0 :: es, l => ∃ v vs, l = v :: vs ∧ e0.is S lo bs w v ∧ E1.all S lo bs w es vs
def E3.is (S : Sig F) (lo : Nat) (bs : List Nat) (w : World) : E3 F → Value → Prop
 | .one e, v => e.is S lo bs w v
 | .agg es, v => ∃ vs, v = .agg ⟨vs⟩ ∧ E1.all S lo bs w es vs
 | .tuple es, v => ∃ vs, v = .tuple ⟨vs⟩ ∧ E1.all S lo bs w es vs
noncomputable def Kb (n : Nat) (ps : List Value) : Option Nat := List.rec (motive := fun _ => Option Nat) none (fun p _ ih => match Qj p with
 | some m => cond (Nat.beq m n) (some 0) (ih.map Nat.succ)
 | none => none) ps
noncomputable def VA (h : Tr (Blk F)) (ps : List Value) (lo : Nat) (v : Value) : Option (E1 F) := match Qj v with
 | some n => cond (Nat.ble lo n) (match h.get n with
  | some b => match b with
   | .cells c t => (Vr (JT h) c).map fun l => .b t l
   | .fact _ => none
   | .room _ _ => none
   | .opq => none
   | .lp _ => none
   | .ow _ => none
   | .ad _ _ => none
  | none => none) ((Kb n ps).map .o)
 | none => (JV h v).map .d
noncomputable def Znq (h : Tr (Blk F)) (ps : List Value) (lo : Nat) (v : Value) : Option (E3 F) := match v with
 | .tuple cs => (Vr (VA h ps lo) cs.toList).map .tuple
 | .agg cs => (Vr (VA h ps lo) cs.toList).map .agg
 | v => (VA h ps lo v).map .one
theorem Zad {v : Value} {n : Nat} (e : Qj v = some n) : v = WG n := by
 cases v with
 | pointer a =>
  cases a with
  | none => cases (show (none : Option Nat) = some n from e)
  | some p =>
   obtain ⟨b, o, s⟩ := p
   cases o with
   | zero =>
    cases s with
    | none => cases (show some b = some n from e); rfl
    | some _ => cases (show (none : Option Nat) = some n from e)
   | succ _ => cases (show (none : Option Nat) = some n from e)
 | _ => cases (show (none : Option Nat) = some n from e)
theorem Zae {r : Ren} {n : Nat} : ∀ {ps : List Value} {bs : List Nat} {i b : Nat}, Kb n ps = some i → VsR r ps (bs.map WG) → r.blk n = some b → bs[i]? = some b
 | [], _, i, b, e, _, _ => by cases (show (none : Option Nat) = some i from e)
 | p :: ps, bs, i, b, e, hv, hb => by
  have e' : (match Qj p with
   | some m => cond (Nat.beq m n) (some 0) ((Kb n ps).map Nat.succ)
   | none => none) = some i := e
  cases bs with
  | nil => cases hv
  | cons c bs =>
   have hv' : VsR r (p :: ps) (WG c :: bs.map WG) := hv
   cases hv' with
   | cons h1 h2 =>
    cases hp : Qj p with
    | none => rw [hp] at e'; cases e'
    | some m =>
     rw [hp] at e'
     have := Zad hp
     subst this
     simp only at e'
     cases hm : Nat.beq m n with
     | true =>
      rw [hm] at e'
      cases e'
      have := Nat.eq_of_beq_eq_true hm
      subst this
      have h1' : VR r (WG m) (WG c) := h1
      unfold WG at h1'
      cases h1' with
      | same p => simp [plain] at p
      | ptr hc =>
       rw [hb] at hc
       injection hc with hc
       subst hc
       rfl
     | false =>
      rw [hm] at e'
      obtain ⟨j, hj, rfl⟩ := Option.map_eq_some_iff.1 (show (Kb n ps).map Nat.succ = some i from e')
      have h3 : bs[j]? = some b := Zae hj h2 hb
      simpa using h3
theorem Zcu {h : Tr (Blk F)} {ps : List Value} {bs : List Nat} {lo L : Nat} {r : Ren} {w : World} {v v' : Value} {d : E1 F} (e : VA h ps lo v = some d) (hM : Mod S r h.get w) (hv : VR r v v') (hps : VsR r ps (bs.map WG)) (hL : ∀ n b, lo ≤ n → r.blk n = some b → L ≤ b) : d.is S L bs w v' := by
 unfold VA at e
 cases hp : Qj v with
 | none =>
  rw [hp] at e
  obtain ⟨x, hx, rfl⟩ := Option.map_eq_some_iff.1 e
  exact Za2 hx hM hv
 | some n =>
  rw [hp] at e
  have := Zad hp
  subst this
  simp only at e
  have hptr : ∃ b, r.blk n = some b ∧ v' = WG b := by
   unfold WG at hv
   cases hv with
   | same p => simp [plain] at p
   | ptr hb => exact ⟨_, hb, rfl⟩
  obtain ⟨b0, hb0, rfl⟩ := hptr
  cases hl : Nat.ble lo n with
  | false =>
   rw [hl] at e
   obtain ⟨i, hi, rfl⟩ := Option.map_eq_some_iff.1 (show (Kb n ps).map E1.o = some d from e)
   exact ⟨b0, Zae hi hps hb0, rfl⟩
  | true =>
   rw [hl] at e
   simp only [cond_true] at e
   cases hg : h.get n with
   | none => rw [hg] at e; cases e
   | some b =>
    rw [hg] at e
    cases b with
    | fact _ => cases e
    | room _ _ => cases e
    | opq => cases e
    | lp _ => cases e
    | ow _ => cases e
    | ad _ _ => cases e
    | cells c t =>
     obtain ⟨l, hl2, rfl⟩ := Option.map_eq_some_iff.1 e
     obtain ⟨b, c', h1, h2, h3, _⟩ := hM.cells n c t hg
     rw [h1] at hb0
     injection hb0 with hb0
     subst hb0
     exact ⟨b, c', rfl, hL n b (Nat.le_of_ble_eq_true hl) h1, h2, JW hl2 hM h3⟩
theorem Kc {h : Tr (Blk F)} {ps : List Value} {bs : List Nat} {lo L : Nat} {r : Ren} {w : World} : ∀ {l l' : List Value} {ds : List (E1 F)}, Vr (VA h ps lo) l = some ds → Mod S r h.get w → VsR r l l' → VsR r ps (bs.map WG) → (∀ n b, lo ≤ n → r.blk n = some b → L ≤ b) → E1.all S L bs w ds l'
 | [], _, ds, e, hM, hv, _, _ => by
  cases hv
  cases (show some [] = some ds from e)
  rfl
 | v :: l, _, ds, e, hM, hv, hps, hL => by
  have e' : JU (VA h ps lo v) (Vr (VA h ps lo) l) = some ds := e
  unfold JU at e'
  cases hv with
  | cons ha hb =>
   cases h1 : VA h ps lo v with
   | none => rw [h1] at e'; cases e'
   | some d =>
    rw [h1] at e'
    cases h2 : Vr (VA h ps lo) l with
    | none => rw [h2] at e'; cases e'
    | some ds2 =>
     rw [h2] at e'
     cases e'
     exact ⟨_, _, rfl, Zcu h1 hM ha hps hL, Kc h2 hM hb hps hL⟩
theorem Zlc {h : Tr (Blk F)} {ps : List Value} {bs : List Nat} {lo L : Nat} {r : Ren} {w : World} {v v' : Value} {d : E3 F} (e : Znq h ps lo v = some d) (hM : Mod S r h.get w) (hv : VR r v v') (hps : VsR r ps (bs.map WG)) (hL : ∀ n b, lo ≤ n → r.blk n = some b → L ≤ b) : d.is S L bs w v' := by
 unfold Znq at e
 cases v with
 | tuple cs =>
  obtain ⟨l⟩ := cs
  simp only at e
  obtain ⟨ds, h1, rfl⟩ := Option.map_eq_some_iff.1 e
  cases hv with
  | same p => simp [plain] at p
  | tuple hl => exact ⟨_, rfl, Kc h1 hM hl hps hL⟩
 | agg cs =>
  obtain ⟨l⟩ := cs
  simp only at e
  obtain ⟨ds, h1, rfl⟩ := Option.map_eq_some_iff.1 e
  obtain ⟨l', rfl, hl⟩ := U6 hv
  exact ⟨_, rfl, Kc h1 hM hl hps hL⟩
 | _ =>
  simp only at e
  obtain ⟨d1, h1, rfl⟩ := Option.map_eq_some_iff.1 e
  exact Zcu h1 hM hv hps hL
noncomputable def Kd (bl : List (BL F)) (fs : List F) (mk : List Value → List Value → List Value) (m : List Value → M F Value) : Option (E3 F) := match Uw bl .nil 100000 with
 | .no => none
 | .ok ps h0 nx0 _ _ => match ZG fs h0 nx0 with
  | .no => none
  | .ok vs h1 nx1 _ _ => match m (mk ps vs) h1 nx1 with
   | .no => none
   | .ok a h2 _ _ W => cond (Ue nx1 W) (Znq h2 ps nx1 a) none
theorem Ke {w : World} : ∀ {l : List (BL F)} {bs : List Nat}, QZ S w l bs → ∀ b ∈ bs, S.G ≤ b
 | [], bs, h, b, hb => by
  obtain rfl : bs = [] := h
  cases hb
 | x :: l, bs, h, b, hb => by
  obtain ⟨b0, bs', rfl, _, _, hG, h'⟩ := h
  rcases List.mem_cons.1 hb with rfl | hb
  ·exact hG
  ·exact Ke h' b hb
theorem Wz {P : Program} {C : Cfg F} [HardLoc C] {sum : WE F} {n : Nat} {f : FuncId} {bl : List (BL F)} {fs : List F} {mk : List Value → List Value → List Value} {d : E3 F} (hF : Fits S P C) (hs : SumOK S P sum)
  (e : Kd bl fs mk (call P C sum n f) = some d) (ha : ∀ r ps qs vs us, VsR r ps qs → VsR r vs us → VsR r (mk ps vs) (mk qs us)) (hok : Znp (S.hn 0) bl = true) (hx : S.G ≤ 100000)
  {w : World} {bs : List Nat} {us : List Value} (hB : QZ S w bl bs) (hu : Yz S w fs us) (hG : S.G ≤ w.heap.size) (hb : S.base w) (hhid : ∀ b t, S.hn 0 t = false → S.hid b t = false := by exact fun _ _ h => h) (hlo : S.lo ≤ w.heap.size := by exact Nat.zero_le _) (hJ : JmpAll S P C := by exact .none rfl) :
  Calls P f ⟨mk (bs.map WG) us⟩ w fun e w' => ∃ v', e = .returned v' ∧ d.is S w.heap.size bs w' v' ∧ Below w.heap.size w w' := by
 unfold Kd at e
 cases h0 : Uw bl .nil 100000 with
 | no => rw [h0] at e; cases e
 | ok ps hh0 nx0 R0 W0 =>
 rw [h0] at e
 simp only at e
 cases h1 : ZG fs hh0 nx0 with
 | no => rw [h1] at e; cases e
 | ok vs hh nx1 R1 W1 =>
  rw [h1] at e
  simp only at e
  cases h2 : call P C sum n f (mk ps vs) hh nx1 with
  | no => rw [h2] at e; cases e
  | ok a h3 nx2 R W =>
   rw [h2] at e
   simp only at e
   cases hc : Ue nx1 W with
   | false => rw [hc] at e; cases e
   | true =>
    rw [hc] at e
    simp only [cond_true] at e
    have hW := WP hc
    have hW1 := XE fs h1
    subst hW1
    have hg : (Tr.get (.nil : Tr (Blk F))) = fun _ => none := funext fun k => Tr.get_nil k
    have hN0 : ∀ m, New (JD S.G) 100000 m := fun m k h1 _ => ⟨if_neg (by omega), rfl⟩
    obtain ⟨rfl, hle0, r0, hler, hM0, hNr, hps⟩ := Ka bl h0 hok hhid (by rw [hg]; exact Zkf hG hb hlo) hN0 hB (fun k b hk hm => by
     have := Ke hB b hm
     by_cases hk2 : k < S.G
     ·rw [show (JD S.G).blk k = some k from if_pos hk2] at hk
      injection hk with hk; omega
     ·rw [show (JD S.G).blk k = none from if_neg hk2] at hk; cases hk)
    obtain ⟨hle, r1, hX, hvs⟩ := Z4 fs h1 hM0 (hNr nx1) hu
    have hcl := Zay hF hs n hJ
    have hfr0 : Fr hh0 nx0 := ((Qz bl).2 _ _ _ _ _ _ _ h0 (fun k _ => Tr.get_nil k)).fr
    have hfr : Fr hh nx1 := ((ZC fs).2 _ _ _ _ _ _ _ h1 hfr0).fr
    have hrun := Run.self (hcl.loc f _) h2 hfr
    have hN : ∀ hi, New r1 nx1 hi := fun hi => New.after (hNr hi) hX hle
    refine (hcl.run f _ _ _ _ _ _ _ _ hrun r1 w _ (ha _ _ _ _ _ (hps.mono hX.le) hvs) hX.mod (hN nx2)).mono ?_
    rintro en w' ⟨v', r', rfl, hv, hY⟩
    have hnone : ∀ k, nx1 ≤ k → r1.blk k = none := fun k hk => (hN (k + 1) k hk (Nat.lt_succ_self k)).1
    refine ⟨v', rfl, Zlc e hY.mod hv ((hps.mono hX.le).mono hY.le) (fun k b hk hb' => ?_), hY.os, hY.tape, hY.output, hY.size, fun b hb' => ?_⟩
    ·rcases hY.new k b hb' with h5 | h5 | ⟨m, hm, h5⟩
     ·rw [hnone k hk] at h5; cases h5
     ·exact h5
     ·rw [hnone m (hW m hm)] at h5; cases h5
    ·have hbo : w.heap[b]? = some w.heap[b] := Array.getElem?_eq_getElem hb'
     rw [hbo]
     refine hY.keep b _ hbo fun k hk he => ?_
     rw [hnone k (hW k hk)] at he
     cases he
theorem Zgj {r : Ren} {g : Nat → Option (Blk F)} {w w' : World} {nx : Nat} {f : F} {v' : Value} (hM : Mod S r g w) (hb : Below w.heap.size w w') (hN : New r nx (nx + 1)) (hh : S.holds f w' v') (ho : ZR v' = true) :
  ∃ r', Ext S r w nx (nx + 1) [] (fun n => if n = nx then some (.fact f) else g n) r' w' ∧ r'.val nx = some v' ∧ r'.blk = r.blk := by
 have hno := hN nx (Nat.le_refl _) (Nat.lt_succ_self _)
 have hX := Xw hM hb nx
 have hle : r.le ⟨r.blk, fun n => if n = nx then some v' else r.val n, r.len⟩ := by
  refine ⟨fun _ _ e => e, fun n v e => ?_, fun _ _ _ => rfl⟩
  have : n ≠ nx := fun h => by rw [h, hno.2] at e; cases e
  simp only [if_neg this, e]
 refine ⟨⟨r.blk, fun n => if n = nx then some v' else r.val n, r.len⟩, ⟨hle, ⟨fun n m b h1 h2 => (hM.inj n m b h1 h2).imp id (Or.imp (Yx.over_fact nx f) (Yx.over_fact nx f)), hX.mod.lt, fun n c t hn => ?_, fun n f' hn => ?_, hX.mod.base, hM.glob, hM.own, fun n c t hn => ?_, hX.mod.sz, hX.mod.lp.mono hle (fun n s h1 => ?_) (fun _ _ h => h), hX.mod.ow.mono hle (fun n f h1 => ?_) (fun _ _ _ _ h _ => h), fun n m x h1 => ?_⟩, fun n hn => ?_, fun _ _ h => .inl h, hX.keep, hX.size, hX.os, hX.tape, hX.output, hX.loops⟩, by simp, rfl⟩
 ·by_cases h : n = nx
  ·simp only [if_pos h, Option.some.injEq] at hn; cases hn
  ·simp only [if_neg h] at hn
   obtain ⟨b, c', h1, h2, h3, h4⟩ := hX.mod.cells n c t hn
   exact ⟨b, c', h1, h2, h3.mono hle, h4⟩
 ·by_cases h : n = nx
  ·simp only [if_pos h, Option.some.injEq, Blk.fact.injEq] at hn
   subst hn
   exact ⟨v', by simp [h], hh, ho⟩
  ·simp only [if_neg h] at hn
   obtain ⟨v, h1, h2, h3⟩ := hX.mod.fact n f' hn
   exact ⟨v, by simp only [if_neg h, h1], h2, h3⟩
 ·by_cases h : n = nx
  ·simp only [if_pos h, Option.some.injEq] at hn; cases hn
  ·simp only [if_neg h] at hn
   obtain ⟨b, c', h1, h2, h3, h4, h5⟩ := hX.mod.room n c t hn
   exact ⟨b, c', h1, h2, h3.mono hle, h4, h5⟩
 ·by_cases h : n = nx
  ·simp only [if_pos h, Option.some.injEq] at h1; cases h1
  ·simp only [if_neg h] at h1; exact h1
 ·by_cases h : n = nx
  ·simp only [if_pos h, Option.some.injEq] at h1; cases h1
  ·simp only [if_neg h] at h1; exact h1
 ·by_cases h : n = nx
  ·simp only [if_pos h, Option.some.injEq] at h1; cases h1
  ·simp only [if_neg h] at h1
   obtain ⟨b2, off, k1, k2, k3⟩ := hX.mod.ad n m x h1
   exact ⟨b2, off, k1, hle.val _ _ k2, k3⟩
 ·by_cases h : n = nx
  ·exact .inr ⟨by omega, by omega⟩
  ·simp only [if_neg h] at hn; exact .inl hn
theorem Zgk {r r1 : Ren} {g : Nat → Option (Blk F)} {w w' : World} {nx nx1 b : Nat} {c c' : List Value} {t : TypeId} (hM : Mod S r (fun _ => none) w) (hX : Ext S r w nx nx1 [] g r1 w') (hblk : r1.blk = r.blk) (hN : New r1 nx1 (nx1 + 1)) (hle : nx ≤ nx1) (hge : w.heap.size ≤ b)
  (hB : w'.heap[b]? = some (.cells ⟨c'⟩ t (0, 0))) (hc : VsR r1 c c') (ht : S.hid b t = false) :
  ∃ r2, Ext S r w nx (nx1 + 1) [] (fun n => if n = nx1 then some (.cells c t) else g n) r2 w' ∧ r2.blk nx1 = some b := by
 have hno := hN nx1 (Nat.le_refl _) (Nat.lt_succ_self _)
 obtain ⟨hle2, hM2⟩ := Ze6 hX.mod hno hB hc ht (fun n hn => by rw [hblk] at hn; have := hM.lt n b hn; omega)
 refine ⟨_, ⟨hX.le.trans hle2, hM2, fun n hn => ?_, fun n x hn => ?_, hX.keep, hX.size, hX.os, hX.tape, hX.output, hX.loops⟩, if_pos rfl⟩
 ·by_cases h : n = nx1
  ·exact .inr ⟨by omega, by omega⟩
  ·simp only [if_neg h] at hn
   rcases hX.dom n hn with h1 | h1
   ·exact .inl h1
   ·exact .inr ⟨h1.1, by omega⟩
 ·by_cases h : n = nx1
  ·simp only [if_pos h, Option.some.injEq] at hn
   exact .inr (.inl (by omega))
  ·simp only [if_neg h] at hn
   exact hX.new n x hn
end
end Ev
end Go.Proofs.YtnlhjcfpfapafaaGreatDoor
