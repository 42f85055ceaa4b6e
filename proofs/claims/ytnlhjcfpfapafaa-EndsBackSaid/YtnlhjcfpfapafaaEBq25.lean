/- Contracts. -/
import Derived.Test.YtnlhjcfpfapafaaEBq24
import Derived.Laws.Small
namespace Go.Proofs.Ytnlhjcfpfapafaa
open Go Go.RowKit
namespace Ev
set_option maxRecDepth 100000
noncomputable def oIxA (B : List Ix) (t : TypeId) (p : Nat × Int) (m : Nat) : M Sy Nxt := bind (rd m) fun x => match x with
 | .fact f => lIx B t p f
 | .ow _ => oIx B t p m
 | _ => fail
theorem loc_oIxA (B : List Ix) (t : TypeId) (p : Nat × Int) (m : Nat) : Loc (oIxA B t p m) := by
 refine loc_bind (loc_rd _) fun x => ?_
 split <;> first | exact loc_lIx _ _ _ _ | exact loc_oIx _ _ _ _ | exact loc_fail
noncomputable def intK (t : TypeId) : Option IntKind := match (Try.prog).underlying t with
 | some d => match d with
  | .int k => some k
  | _ => none
 | none => none
noncomputable def hasT (t : TypeId) : Bool := match (Try.prog).underlying t with
 | some _ => true
 | none => false
noncomputable def isI64 (k : Option IntKind) : Bool := match k with
 | some k => match k with
  | .i64 => true
  | _ => false
 | none => false
noncomputable def cvH (s t : TypeId) (v : Value) : M Sy Nxt := bind (fact v) fun f => match f with
 | .iz _ e => cond (hasT s && isI64 (intK t)) (lVal (.iz 0 e)) fail
 | _ => fail
theorem loc_cvH (s t : TypeId) (v : Value) : Loc (cvH s t v) := by
 refine loc_bind (loc_fact _) fun f => ?_
 split
 ·exact loc_cond (loc_lVal _) loc_fail
 ·exact loc_fail
noncomputable def isKd (k : Nat) (t : IntKind) : Bool := match t with
 | .i64 => Nat.beq k 0
 | .i8 => !Nat.beq k 0
 | _ => false
noncomputable def isZ (k : Nat) (v : Value) : Bool := match v with
 | .int t z => eqI z 0 && isKd k t
 | _ => false
theorem isZ_ok {k : Nat} {v : Value} (h : isZ k v = true) : v = .int (ikOf k) 0 := by
 cases v <;> first | (cases h; done) | skip
 rename_i t z
 simp only [isZ, Bool.and_eq_true] at h
 obtain rfl := eqI_ok h.1
 cases t <;> first | (cases h.2; done) | skip
 ·have h2 : (!Nat.beq k 0) = true := h.2
  cases k with
  | zero => cases h2
  | succ k => rfl
 ·have h2 : Nat.beq k 0 = true := h.2
  obtain rfl := Nat.eq_of_beq_eq_true h2
  rfl
noncomputable def zH (A : List As) (op : BinOp) (k : Nat) (e : Qe) (v : Value) : M Sy Nxt := cond (isZ k v) (match ask A 1 e z0 with
 | some t => match op with
  | .eql => val (.bool t)
  | .neq => val (.bool (!t))
  | _ => fail
 | none => fail) fail
theorem loc_zH (A : List As) (op : BinOp) (k : Nat) (e : Qe) (v : Value) : Loc (zH A op k e v) := by
 refine loc_cond ?_ loc_fail
 (repeat' split) <;> first | exact loc_val _ | exact loc_fail
noncomputable def is20 (v : Value) : Bool := match v with
 | .int k z => match k with
  | .i64 => eqI z 20
  | _ => false
 | _ => false
theorem is20_ok {v : Value} (h : is20 v = true) : v = .int .i64 20 := by
 cases v <;> first | (cases h; done) | skip
 rename_i k z
 cases k <;> first | (cases h; done) | skip
 rw [eqI_ok (show eqI z 20 = true from h)]
noncomputable def rmH (B : List Ix) (k : Nat) (e : Qe) (v : Value) : M Sy Nxt := cond (Nat.beq k 0 && is20 v) (match rmB B e with
 | some z => val (.int .i64 z)
 | none => fail) fail
theorem loc_rmH (B : List Ix) (k : Nat) (e : Qe) (v : Value) : Loc (rmH B k e v) := by
 refine loc_cond ?_ loc_fail
 split
 ·exact loc_val _
 ·exact loc_fail
noncomputable def izH (A : List As) (B : List Ix) (op : BinOp) (k : Nat) (e : Qe) (v : Value) : M Sy Nxt := match op with
 | .rem => rmH B k e v
 | op => zH A op k e v
theorem loc_izH (A : List As) (B : List Ix) (op : BinOp) (k : Nat) (e : Qe) (v : Value) : Loc (izH A B op k e v) := by
 unfold izH
 split
 ·exact loc_rmH _ _ _ _
 ·exact loc_zH _ _ _ _ _
noncomputable def binH (A : List As) (B : List Ix) (op : BinOp) (u v : Value) : M Sy Nxt := bind (fact (cond (isOpq u) u v)) fun f => match f with
 | .ix _ _ => bind (ixV u) fun p => bind (ixV v) fun q => iBin B op p q
 | .iz k e => cond (isOpq u) (izH A B op k e v) fail
 | _ => fail
theorem loc_binH (A : List As) (B : List Ix) (op : BinOp) (u v : Value) : Loc (binH A B op u v) := by
 refine loc_bind (loc_fact _) fun f => ?_
 split
 ·exact loc_bind (loc_ixV _) fun _ => loc_bind (loc_ixV _) fun _ => loc_iBin _ _ _ _
 ·exact loc_cond (loc_izH _ _ _ _ _ _) loc_fail
 ·exact loc_fail
noncomputable def slH (B : List Ix) (kp : Bool) (t : TypeId) (x b : Value) : M Sy Nxt := match chanOf x with
 | some m => bind (ixV b) fun p => oSl B kp t m p
 | none => fail
theorem loc_slH (B : List Ix) (kp : Bool) (t : TypeId) (x b : Value) : Loc (slH B kp t x b) := by
 unfold slH
 split
 ·exact loc_bind (loc_ixV _) fun _ => loc_oSl _ _ _ _ _
 ·exact loc_fail
noncomputable def tlH (B : List Ix) (t : TypeId) (x b : Value) : M Sy Nxt := bind (fact x) fun f => bind (ixV b) fun p => match f with
 | .ls K c => match tlB B c with
  | some d => match sliceT Try.prog t with
   | some e => match sizeT Try.prog e with
    | some s => cond (Nat.beq s (elSz K) && (Nat.beq p.1 0 && eqI p.2 1)) (lVal (.ls K d)) fail
    | none => fail
   | none => fail
  | none => fail
 | _ => fail
theorem loc_tlH (B : List Ix) (t : TypeId) (x b : Value) : Loc (tlH B t x b) := by
 refine loc_bind (loc_fact _) fun f => loc_bind (loc_ixV _) fun p => ?_
 (repeat' split) <;> first | exact loc_fail | exact loc_cond (loc_lVal _) loc_fail
noncomputable def hdH (B : List Ix) (t : TypeId) (x b : Value) : M Sy Nxt := bind (fact x) fun f => bind (ixV b) fun p => match f with
 | .ls K c => match hdB B c p.1 p.2 with
  | some d => match sliceT Try.prog t with
   | some e => match sizeT Try.prog e with
    | some s => cond (Nat.beq s (elSz K)) (lVal (.ls K d)) fail
    | none => fail
   | none => fail
  | none => fail
 | _ => fail
theorem loc_hdH (B : List Ix) (t : TypeId) (x b : Value) : Loc (hdH B t x b) := by
 refine loc_bind (loc_fact _) fun f => loc_bind (loc_ixV _) fun p => ?_
 (repeat' split) <;> first | exact loc_fail | exact loc_cond (loc_lVal _) loc_fail
noncomputable def isFc (x : Value) : M Sy Bool := match chanOf x with
 | some m => bind (rd m) fun y => match y with
  | .fact _ => ret true
  | _ => ret false
 | none => fail
theorem loc_isFc (x : Value) : Loc (isFc x) := by
 unfold isFc
 split
 ·refine loc_bind (loc_rd _) fun y => ?_
  split <;> exact loc_ret _
 ·exact loc_fail
noncomputable def shH (B : List Ix) (kp : Bool) (t : TypeId) (x b : Value) : M Sy Nxt := bind (isFc x) fun k => cond k (hdH B t x b) (slH B kp t x b)
theorem loc_shH (B : List Ix) (kp : Bool) (t : TypeId) (x b : Value) : Loc (shH B kp t x b) := loc_bind (loc_isFc _) fun _ => loc_cond (loc_hdH _ _ _ _) (loc_slH _ _ _ _ _)
section
variable {ρ : Env} {A : List As} {B : List Ix} {h h' : Tr (Blk Sy)} {nx nx' : Nat} {R W : List Nat} {r : Ren} {w : World}
theorem isFc_ok {x : Value} {k : Bool} (e : isFc x h nx = .ok k h' nx' R W) : h' = h ∧ nx' = nx ∧ W = [] := by
 unfold isFc at e
 cases hc : chanOf x with
 | none => rw [hc] at e; cases (show (fail : M Sy Bool) h nx = _ from e)
 | some m =>
  rw [hc] at e
  obtain ⟨y, h1, nx1, R1, W1, R2, W2, e1, e2, rfl, rfl⟩ := bind_ok e
  obtain ⟨_, rfl, rfl, rfl⟩ := rdb_ok e1
  cases y <;> (obtain ⟨rfl, rfl, rfl, rfl⟩ := ret_ok e2; exact ⟨rfl, rfl, rfl⟩)
theorem hdH_ok (hB : AllX ρ B) {t : TypeId} {x b v' b' : Value} {z : Nxt} (e : hdH B t x b h nx = .ok z h' nx' R W) (hv : VR r x v') (hb : VR r b b') (hM : Mod (symSig ρ) r h.get w) (hN : New r nx nx') :
  nx ≤ nx' ∧ ∃ v u r', z = .val v ∧ (Instr.sliceAt t v' none (some b') none).run Try.prog w = .ok u w ∧ VR r' v u ∧ Ext (symSig ρ) r w nx nx' W h'.get r' w := by
 obtain ⟨f, h1, nx1, R1, W1, R2, W2, e1, e2, rfl, rfl⟩ := bind_ok e
 obtain ⟨rfl, rfl, rfl, hf⟩ := fact_ok e1 hv hM
 obtain ⟨p, h3, nx3, R3, W3, R4, W4, e3, e4, rfl, rfl⟩ := bind_ok e2
 obtain ⟨rfl, rfl, rfl, hp⟩ := ixV_ok e3 hb hM
 cases f <;> first | (cases (show (fail : M Sy Nxt) _ _ = _ from e4); done) | skip
 rename_i K c
 simp only at e4
 cases hd : hdB B c p.1 p.2 with
 | none => rw [hd] at e4; cases (show (fail : M Sy Nxt) _ _ = _ from e4)
 | some d =>
  rw [hd] at e4; simp only at e4
  cases hs : sliceT Try.prog t with
  | none => rw [hs] at e4; cases (show (fail : M Sy Nxt) _ _ = _ from e4)
  | some el =>
   rw [hs] at e4; simp only at e4
   cases hz : sizeT Try.prog el with
   | none => rw [hz] at e4; cases (show (fail : M Sy Nxt) _ _ = _ from e4)
   | some s =>
    rw [hz] at e4
    obtain ⟨hk, e5⟩ := cond_ok (show cond (Nat.beq s (elSz K)) (lVal (.ls K d)) fail _ _ = _ from e4)
    obtain ⟨h0, hle0, hdl⟩ := hdB_ok hB hd
    obtain ⟨k, hk2⟩ := Int.eq_ofNat_of_zero_le h0
    obtain ⟨a, m, rfl, hm, hrow⟩ := (show lsIs ρ K c w v' from hf)
    have hkl : k ≤ (ρ.lst c).length := by omega
    rw [hk2] at hdl hp
    subst hp
    have hbd := run_bounds (P := Try.prog) (len := (ρ.lst c).length) (cap := m) (lo := none) (hi := some k) (mx := none) (lo' := none) (hi' := some (.int .i64 (k : Nat))) (mx' := none) (.inl ⟨rfl, rfl⟩) (.inr ⟨.i64, k, rfl, rfl⟩) (.inl ⟨rfl, rfl⟩) (fun q => by cases q) (Nat.zero_le _) (by show k ≤ m; omega) (Nat.le_refl _) w
    have hcut := run_cut (a := a) (sliceT_of hs) hz hbd
    have ha : (if m = 0 then a else a.map (·.add (0 * s))) = a := by
     split
     ·rfl
     ·cases a with
      | none => rfl
      | some ad => simp [Addr.add]
    have hcut' : (Instr.sliceAt t (.slice a (ρ.lst c).length m) none (some (.int .i64 (k : Nat))) none).run Try.prog w = .ok (.slice a k m) w := by
     rw [hcut]
     show Result.ok (Value.slice (if m = 0 then a else a.map (·.add (0 * s))) (k - 0) (m - 0)) w = _
     rw [ha]; rfl
    have hls : lsIs ρ K d w (.slice a k m) := by
     have hlen : (ρ.lst d).length = k := by
      rw [hdl, List.length_take]
      show min k _ = k
      omega
     refine ⟨a, m, by rw [hlen], by rw [hlen]; omega, fun hne => ?_⟩
     have hne2 : ρ.lst c ≠ [] := fun q => hne (by rw [hdl, q, List.take_nil])
     obtain ⟨b, off, cl, t2, z2, h4, g1, g2, g3⟩ := hrow hne2
     refine ⟨b, off, cl, t2, z2, h4, g1, g2, fun i q hi => g3 i q ?_⟩
     rw [hdl, List.getElem?_take] at hi
     split at hi
     ·exact hi
     ·cases hi
    obtain ⟨hle, v, r', rfl, hv2, hX⟩ := lVal_ok e5 hM hN hls
    exact ⟨hle, v, _, r', rfl, hcut', hv2, by simpa using hX⟩
theorem tlH_ok (hB : AllX ρ B) {t : TypeId} {x b v' b' : Value} {z : Nxt} (e : tlH B t x b h nx = .ok z h' nx' R W) (hv : VR r x v') (hb : VR r b b') (hM : Mod (symSig ρ) r h.get w) (hN : New r nx nx') :
  nx ≤ nx' ∧ ∃ v u r', z = .val v ∧ (Instr.sliceAt t v' (some b') none none).run Try.prog w = .ok u w ∧ VR r' v u ∧ Ext (symSig ρ) r w nx nx' W h'.get r' w := by
 obtain ⟨f, h1, nx1, R1, W1, R2, W2, e1, e2, rfl, rfl⟩ := bind_ok e
 obtain ⟨rfl, rfl, rfl, hf⟩ := fact_ok e1 hv hM
 obtain ⟨p, h3, nx3, R3, W3, R4, W4, e3, e4, rfl, rfl⟩ := bind_ok e2
 obtain ⟨rfl, rfl, rfl, hp⟩ := ixV_ok e3 hb hM
 cases f <;> first | (cases (show (fail : M Sy Nxt) _ _ = _ from e4); done) | skip
 rename_i K c
 simp only at e4
 cases hd : tlB B c with
 | none => rw [hd] at e4; cases (show (fail : M Sy Nxt) _ _ = _ from e4)
 | some d =>
  rw [hd] at e4; simp only at e4
  cases hs : sliceT Try.prog t with
  | none => rw [hs] at e4; cases (show (fail : M Sy Nxt) _ _ = _ from e4)
  | some el =>
   rw [hs] at e4; simp only at e4
   cases hz : sizeT Try.prog el with
   | none => rw [hz] at e4; cases (show (fail : M Sy Nxt) _ _ = _ from e4)
   | some s =>
    rw [hz] at e4
    obtain ⟨hk, e5⟩ := cond_ok (show cond (Nat.beq s (elSz K) && (Nat.beq p.1 0 && eqI p.2 1)) (lVal (.ls K d)) fail _ _ = _ from e4)
    simp only [Bool.and_eq_true] at hk
    have hsz := Nat.eq_of_beq_eq_true hk.1
    have hp1 : atIx ρ p.1 p.2 = ((1 : Nat) : Int) := by
     rw [Nat.eq_of_beq_eq_true hk.2.1, eqI_ok hk.2.2]
     unfold atIx; rw [ρ.nat0]; rfl
    rw [hp1] at hp
    subst hp
    obtain ⟨hne, hdl⟩ := tlB_ok hB hd
    obtain ⟨a, m, rfl, hm, hrow⟩ := (show lsIs ρ K c w v' from hf)
    have hpos : 1 ≤ (ρ.lst c).length := by
     rcases Nat.eq_zero_or_pos (ρ.lst c).length with q | q
     ·exact absurd (List.length_eq_zero_iff.1 q) hne
     ·exact q
    have hbd := run_bounds (P := Try.prog) (len := (ρ.lst c).length) (cap := m) (lo := some 1) (hi := none) (mx := none) (lo' := some (.int .i64 ((1 : Nat) : Int))) (hi' := none) (mx' := none) (.inr ⟨.i64, 1, rfl, rfl⟩) (.inl ⟨rfl, rfl⟩) (.inl ⟨rfl, rfl⟩) (fun _ => rfl) hpos hm (Nat.le_refl _) w
    have hcut := run_cut (a := a) (sliceT_of hs) hz hbd
    have hcut' : (Instr.sliceAt t (.slice a (ρ.lst c).length m) (some (.int .i64 ((1 : Nat) : Int))) none none).run Try.prog w = .ok (.slice (if m = 1 then a else a.map (·.add (1 * s))) ((ρ.lst c).length - 1) (m - 1)) w := hcut
    have hls : lsIs ρ K d w (.slice (if m = 1 then a else a.map (·.add (1 * s))) ((ρ.lst c).length - 1) (m - 1)) := by
     have hlen : (ρ.lst d).length = (ρ.lst c).length - 1 := by rw [hdl, List.length_tail]
     refine ⟨_, m - 1, by rw [hlen], by rw [hlen]; omega, fun hne2 => ?_⟩
     obtain ⟨b, off, cl, t2, z2, rfl, g1, g2, g3⟩ := hrow hne
     have h2 : 2 ≤ (ρ.lst c).length := by
      have : (ρ.lst d).length ≠ 0 := fun q => hne2 (List.length_eq_zero_iff.1 q)
      omega
     rw [if_neg (by omega)]
     refine ⟨b, off + 1 * s, cl, t2, z2, by simp [Addr.add], g1, g2, fun i q hi => ?_⟩
     rw [hdl, List.getElem?_tail] at hi
     have := g3 (i + 1) q hi
     rw [hsz, show off + 1 * elSz K + i * elSz K = off + (i + 1) * elSz K by rw [Nat.add_mul]; omega]
     exact this
    obtain ⟨hle, v, r', rfl, hv2, hX⟩ := lVal_ok e5 hM hN hls
    exact ⟨hle, v, _, r', rfl, hcut', hv2, by simpa using hX⟩
theorem vr_chanV {i : Nat} {v v' : Value} (hc : chanOf v = some i) (hv : VR r v v') : r.val i = some v' := by
 obtain rfl := chanOf_of hc
 cases hv with
 | same p => simp [plain] at p
 | opq p _ => exact p
theorem oSl_ok (hB : AllX ρ B) {kp : Bool} {t : TypeId} {m : Nat} {p : Nat × Int} {v' : Value} {x : Nxt} (e : oSl B kp t m p h nx = .ok x h' nx' R W) (hv : r.val m = some v') (hM : Mod (symSig ρ) r h.get w) (hN : New r nx nx') :
  nx ≤ nx' ∧ ∃ v u r', x = .val v ∧ (Instr.sliceAt t v' none (some (.int .i64 (atIx ρ p.1 p.2))) none).run Try.prog w = .ok u w ∧ VR r' v u ∧ Ext (symSig ρ) r w nx nx' W h'.get r' w := by
 obtain ⟨⟨K, l, z0⟩, h1, nx1, R1, W1, R2, W2, e1, e2, rfl, rfl⟩ := bind_ok e
 obtain ⟨hg, rfl, rfl, rfl⟩ := ownAt_ok e1
 simp only at e2 hg
 cases hs : sliceT Try.prog t with
 | none => rw [hs] at e2; cases (show (fail : M Sy Nxt) _ _ = _ from e2)
 | some el =>
  rw [hs] at e2; simp only at e2
  cases hz : sizeT Try.prog el with
  | none => rw [hz] at e2; cases (show (fail : M Sy Nxt) _ _ = _ from e2)
  | some s =>
   rw [hz] at e2; simp only at e2
   cases hn : leN B l with
   | none => rw [hn] at e2; cases (show (fail : M Sy Nxt) _ _ = _ from e2)
   | some q =>
    rw [hn] at e2; simp only at e2
    obtain ⟨hk, e3⟩ := cond_ok e2
    simp only [Bool.and_eq_true] at hk
    have h0 := geZ_ok hB hk.1
    have hnl : ¬ atIx ρ q.1 q.2 < atIx ρ p.1 p.2 := fun h => by
     have := (ltB_ok hB (notB_ok hk.2)).2 h
     cases this
    have hln := leN_ok hB hn
    obtain ⟨v0, q1, q2, q3, q4⟩ := hM.ow m _ hg
    rw [hv] at q1
    cases q1
    obtain ⟨a0, n, c, rfl, g1, g2, g3, g4, g5⟩ := (show olIs ρ K l z0 w _ from q2)
    obtain ⟨k, hk2⟩ := Int.eq_ofNat_of_zero_le h0
    have hkl : k ≤ (l.ev ρ).length := by omega
    have hcutr : (Instr.sliceAt t (.slice a0 n c) none (some (.int .i64 (atIx ρ p.1 p.2))) none).run Try.prog w = .ok (.slice a0 k c) w := by
     rw [hk2]
     have hbd := run_bounds (P := Try.prog) (len := n) (cap := c) (lo := none) (hi := some k) (mx := none) (lo' := none) (hi' := some (.int .i64 (k : Nat))) (mx' := none) (.inl ⟨rfl, rfl⟩) (.inr ⟨.i64, k, rfl, rfl⟩) (.inl ⟨rfl, rfl⟩) (fun q => by cases q) (Nat.zero_le _) (by show k ≤ c; omega) (Nat.le_refl _) w
     have hcut := run_cut (a := a0) (sliceT_of hs) hz hbd
     have ha : (if c = 0 then a0 else a0.map (·.add (0 * s))) = a0 := by
      split
      ·rfl
      ·cases a0 with
       | none => rfl
       | some ad => simp [Addr.add]
     show (Instr.sliceAt t (.slice a0 n c) none (some (.int .i64 (k : Nat))) none).run Try.prog w = _
     rw [hcut]
     show Result.ok (Value.slice (if c = 0 then a0 else a0.map (·.add (0 * s))) (k - 0) (c - 0)) w = _
     rw [ha]; rfl
    cases kp with
    | true =>
     simp only [cond_true] at e3
     obtain ⟨hle, v, r', rfl, hv2, hX⟩ := lVal_ok (v' := .slice a0 k c) e3 hM hN ⟨a0, k, c, rfl, hk2.symm⟩
     exact ⟨hle, v, _, r', rfl, hcutr, hv2, by simpa using hX⟩
    | false =>
     simp only [cond_false] at e3
     obtain ⟨_, h6, nx6, R7, W7, R8, W8, e9, e10, rfl, rfl⟩ := bind_ok e3
     obtain ⟨rfl, rfl, rfl⟩ := wr_ok e9
     obtain ⟨j, h7, nx7, R9, W9, R10, W10, e11, e12, rfl, rfl⟩ := bind_ok e10
     obtain ⟨rfl, rfl, rfl, rfl⟩ := val_ok e12
     unfold fresh at e11
     cases e11
     have htk : (Le.ev ρ (.take l p.1 p.2)) = (l.ev ρ).take k := by
      show (l.ev ρ).take ((ρ.nat p.1 : Int) + p.2).toNat = _
      have : ((ρ.nat p.1 : Int) + p.2) = (k : Int) := hk2
      rw [this]; rfl
     have htl : ((l.ev ρ).take k).length = k := by rw [List.length_take]; omega
     have hbk : blkV (.slice a0 k c) = blkV (.slice a0 n c) := by cases a0 <;> rfl
     obtain ⟨r', hX, hr⟩ := ext_ownew (S := symSig ρ) (w' := w) (I := [m]) (O := (blkV (.slice a0 n c)).toList) (x := .ol K (.take l p.1 p.2) none) (v := .slice a0 k c) hM hN (fun i hi => ⟨.ol K l z0, by rw [List.mem_singleton.1 hi]; exact hg⟩) (fun b hb => ⟨m, by simp, (q4 b (by simpa using hb)).1⟩) (fun b hb => (q4 b (by simpa using hb)).2) (Frm.refl _ w)
      ⟨⟨a0, k, c, rfl, by omega, by rw [htk, htl]; omega, by rw [htk, htl], g4, fun ad had => by
        obtain ⟨cl, k1, k2, k3, k4, k5⟩ := g5 ad had
        refine ⟨cl, k1, k2, k3, fun i2 qq hi => ?_, fun i2 hi hi2 => ?_⟩
        ·rw [htk, List.getElem?_take] at hi
         split at hi
         ·exact k4 i2 qq hi
         ·cases hi
        ·rw [htk, htl] at hi; omega⟩, rfl, fun b hb => (q4 b (hbk ▸ hb)).2⟩ (fun b hb => .inl (by rw [hbk] at hb; simpa using hb))
     refine ⟨Nat.le_succ _, _, .slice a0 k c, r', rfl, hcutr, .opq hr rfl, ?_⟩
     have hX2 := hX.congr (g' := ((h1.set m .opq).set _ (.ow (.ol K (.take l p.1 p.2) none))).get) fun n => .inr (opq_set (g := h1.get) h1 n)
     simpa using hX2
theorem oIxA_ok (hB : AllX ρ B) {t : TypeId} {p : Nat × Int} {m : Nat} {v' : Value} {x : Nxt} (e : oIxA B t p m h nx = .ok x h' nx' R W) (hv : r.val m = some v') (hM : Mod (symSig ρ) r h.get w) (hN : New r nx nx') :
  nx ≤ nx' ∧ ∃ v u r', x = .val v ∧ (Instr.indexAt t v' (.int .i64 (atIx ρ p.1 p.2))).run Try.prog w = .ok u w ∧ VR r' v u ∧ Ext (symSig ρ) r w nx nx' W h'.get r' w := by
 obtain ⟨y, h1, nx1, R1, W1, R2, W2, e1, e2, rfl, rfl⟩ := bind_ok e
 obtain ⟨hg, rfl, rfl, rfl⟩ := rdb_ok e1
 cases y <;> first | (cases (show (fail : M Sy Nxt) _ _ = _ from e2); done) | skip
 ·rename_i f
  obtain ⟨v0, q1, q2, _⟩ := hM.fact m f hg
  rw [hv] at q1
  cases q1
  simpa using lIx_ok hB e2 q2 hM hN
 ·simpa using oIx_ok hB e2 hv hM hN
theorem cvH_ok {s t : TypeId} {v v' : Value} {x : Nxt} (e : cvH s t v h nx = .ok x h' nx' R W) (hv : VR r v v') (hM : Mod (symSig ρ) r h.get w) (hN : New r nx nx') :
  nx ≤ nx' ∧ ∃ v u r', x = .val v ∧ (convert s t v').run Try.prog w = .ok u w ∧ VR r' v u ∧ Ext (symSig ρ) r w nx nx' W h'.get r' w := by
 obtain ⟨f, h1, nx1, R1, W1, R2, W2, e1, e2, rfl, rfl⟩ := bind_ok e
 obtain ⟨rfl, rfl, rfl, hf⟩ := fact_ok e1 hv hM
 cases f <;> first | (cases (show (fail : M Sy Nxt) _ _ = _ from e2); done) | skip
 rename_i k q
 obtain ⟨hk, e3⟩ := cond_ok e2
 simp only [Bool.and_eq_true] at hk
 obtain ⟨hf1, hf2, hf3, hf4⟩ := (show izIs k (q.ev ρ.q) v' from hf)
 obtain ⟨hle, v1, r', rfl, hv2, hX⟩ := lVal_ok (v' := .int .i64 (q.ev ρ.q).num) e3 hM hN ⟨rfl, hf2, hf3, hf4⟩
 refine ⟨hle, v1, _, r', rfl, ?_, hv2, by simpa using hX⟩
 have hs : ∃ d, (Try.prog).underlying s = some d := by
  have := hk.1
  unfold hasT at this
  split at this
  ·exact ⟨_, by assumption⟩
  ·cases this
 have ht : (Try.prog).underlying t = some (.int .i64) := by
  have := hk.2
  unfold intK at this
  cases hu : (Try.prog).underlying t with
  | none => rw [hu] at this; cases this
  | some d =>
   rw [hu] at this
   cases d <;> first | (cases this; done) | skip
   rename_i k2
   cases k2 <;> first | rfl | (cases this; done)
 obtain ⟨d, hs⟩ := hs
 rw [hf1]
 have hw : IntKind.i64.wrap (q.ev ρ.q).num = (q.ev ρ.q).num := by rw [IntKind.wrap_i64]; omega
 simp [convert, run_underlying hs, run_underlying ht, Conv.intToInt, hw]
theorem num_zero {q : Rat} : q.num = 0 ↔ q = 0 := Rat.num_eq_zero
theorem zH_ok (hA : AllH ρ A) {op : BinOp} {k : Nat} {q : Qe} {v u' v' : Value} {x : Nxt} (e : zH A op k q v h nx = .ok x h' nx' R W) (hu : izIs k (q.ev ρ.q) u') (hv : VR r v v') (ty : TypeId) (p1 p2 : Operand) :
  h' = h ∧ nx' = nx ∧ W = [] ∧ ∃ b, x = .val (.bool b) ∧ (do eqGuard op ty p1 p2 u' v'; binOp op ty u' v' : Sem Value).run Try.prog w = .ok (.bool b) w := by
 obtain ⟨hk, e2⟩ := cond_ok (show cond (isZ k v) _ fail h nx = _ from e)
 have hz := isZ_ok hk
 subst hz
 have hv' := hv.int
 subst hv'
 cases ha : ask A 1 q z0 with
 | none => rw [ha] at e2; cases (show (fail : M Sy Nxt) _ _ = _ from e2)
 | some t =>
  rw [ha] at e2; simp only at e2
  have ht := ask_nought hA ha
  have hb : ((q.ev ρ.q).num == 0) = t := by
   rw [Bool.eq_iff_iff, beq_iff_eq, num_zero]
   exact ht.symm
  have hb2 : ((q.ev ρ.q).num != 0) = !t := by rw [bne, hb]
  have hu1 := hu.1
  clear hu
  generalize (q.ev ρ.q).num = N at *
  rw [hu1]
  cases op <;> first | (cases (show (fail : M Sy Nxt) _ _ = _ from e2); done) | skip
  ·obtain ⟨rfl, rfl, rfl, rfl⟩ := val_ok e2
   refine ⟨rfl, rfl, rfl, t, rfl, ?_⟩
   rcases k with _ | k <;> simp [eqGuard, binOp, Op.intCmp, ikOf, hb]
  ·obtain ⟨rfl, rfl, rfl, rfl⟩ := val_ok e2
   refine ⟨rfl, rfl, rfl, !t, rfl, ?_⟩
   rcases k with _ | k <;> simp [eqGuard, binOp, Op.intCmp, ikOf, hb2]
theorem izH_ok (hA : AllH ρ A) (hB : AllX ρ B) {op : BinOp} {k : Nat} {q : Qe} {v u' v' : Value} {x : Nxt} (e : izH A B op k q v h nx = .ok x h' nx' R W) (hu : izIs k (q.ev ρ.q) u') (hv : VR r v v') (ty : TypeId) (p1 p2 : Operand) :
  h' = h ∧ nx' = nx ∧ W = [] ∧ ∃ u, x = .val u ∧ plain u = true ∧ (do eqGuard op ty p1 p2 u' v'; binOp op ty u' v' : Sem Value).run Try.prog w = .ok u w := by
 have back : zH A op k q v h nx = .ok x h' nx' R W → h' = h ∧ nx' = nx ∧ W = [] ∧ ∃ u, x = .val u ∧ plain u = true ∧ (do eqGuard op ty p1 p2 u' v'; binOp op ty u' v' : Sem Value).run Try.prog w = .ok u w := fun e => by
  obtain ⟨h1, h2, h3, b, h4, h5⟩ := zH_ok (w := w) hA e hu hv ty p1 p2
  exact ⟨h1, h2, h3, .bool b, h4, rfl, h5⟩
 cases op <;> first | exact back e | skip
 obtain ⟨hk, e2⟩ := cond_ok (show rmH B k q v h nx = _ from e)
 simp only [Bool.and_eq_true] at hk
 obtain rfl := Nat.eq_of_beq_eq_true hk.1
 obtain rfl := is20_ok hk.2
 have hv' := hv.int
 subst hv'
 cases hr : rmB B q with
 | none => rw [hr] at e2; cases (show (fail : M Sy Nxt) _ _ = _ from e2)
 | some z =>
  rw [hr] at e2
  obtain ⟨rfl, rfl, rfl, rfl⟩ := val_ok e2
  have hz := rmB_ok hB hr
  refine ⟨rfl, rfl, rfl, .int .i64 z, rfl, rfl, ?_⟩
  rw [hu.1, ← hz]
  simp [eqGuard, binOp, Op.intDiv, ikOf]
end
noncomputable def opqHead (vs : List Value) : Bool := match vs with
 | v :: _ => isOpq v
 | [] => false
noncomputable def bltH (B : List Ix) (c : Call) (vs : List Value) : M Sy Nxt := match c.callee with
 | .builtin b => match c.argTypes[0]? with
  | some t => match b with
   | .len => match oneM vs with
    | some v => match chanOf v with
     | some m => match sliceT Try.prog t with
      | some _ => oLn B m
      | none => fail
     | none => fail
    | none => fail
   | .append => match twoM vs with
    | some y => match chanOf y.1 with
     | some m => match c.argTypes[1]? with
      | some tx => oAp B t tx m y.2
      | none => fail
     | none => fail
    | none => fail
   | _ => fail
  | none => fail
 | _ => fail
theorem loc_bltH (B : List Ix) (c : Call) (vs : List Value) : Loc (bltH B c vs) := by
 unfold bltH
 (repeat' split) <;> first | exact loc_fail | exact loc_oLn _ _ | exact loc_oAp _ _ _ _ _
noncomputable def mmB (c : Call) : Option Nat := match c.callee with
 | .builtin b => match b with
  | .min => some 2
  | .max => some 3
  | _ => none
 | _ => none
noncomputable def mmH (B : List Ix) (k : Nat) (vs : List Value) : M Sy Nxt := match twoM vs with
 | some y => bind (ixV y.1) fun p => bind (ixV y.2) fun q => biH B k p q
 | none => fail
theorem loc_mmH (B : List Ix) (k : Nat) (vs : List Value) : Loc (mmH B k vs) := by
 unfold mmH
 split
 ·exact loc_bind (loc_ixV _) fun _ => loc_bind (loc_ixV _) fun _ => loc_biH _ _ _ _
 ·exact loc_fail
noncomputable def lsHard (kp : Bool) (A : List As) (B : List Ix) (G : Oper → List Value → M Sy Nxt) (o : Oper) (vs : List Value) : M Sy Nxt := match o.op with
 | .load t _ => match oneM vs with
  | some v => match chanOf v with
   | some i => oLd B t i
   | none => fail
  | none => fail
 | .store t _ _ => match twoM vs with
  | some y => match chanOf y.1 with
   | some i => oSt B t i y.2
   | none => fail
  | none => fail
 | .indexAddr t _ _ => match twoM vs with
  | some y => match chanOf y.1 with
   | some m => bind (ixV y.2) fun p => oIxA B t p m
   | none => fail
  | none => fail
 | .makeSlice t _ _ => match twoM vs with
  | some y => bind (ixV y.1) fun p => bind (ixV y.2) fun q => oMk B t p q
  | none => fail
 | .convert s t _ => match oneM vs with
  | some v => cvH s t v
  | none => fail
 | .slice t _ lo hi mx => cond (opqHead vs) (cond (lo.isNone && (hi.isSome && mx.isNone)) (match twoM vs with
  | some y => shH B kp t y.1 y.2
  | none => fail) (cond (lo.isSome && (hi.isNone && mx.isNone)) (match twoM vs with
  | some y => tlH B t y.1 y.2
  | none => fail) fail)) (G o vs)
 | .binOp op _ _ _ _ => match twoM vs with
  | some y => cond (isOpq y.1 || isOpq y.2) (binH A B op y.1 y.2) (G o vs)
  | none => fail
 | .call c => match mmB c with
  | some k => mmH B k vs
  | none => cond (opqHead vs) (bltH B c vs) (G o vs)
 | _ => G o vs
theorem loc_lsHard {G : Oper → List Value → M Sy Nxt} (hG : ∀ o vs, Loc (G o vs)) (kp : Bool) (A : List As) (B : List Ix) (o : Oper) (vs : List Value) : Loc (lsHard kp A B G o vs) := by
 unfold lsHard
 (repeat' split) <;> first
  | exact loc_fail
  | exact loc_oLd _ _ _
  | exact loc_oSt _ _ _ _
  | exact loc_bind (loc_ixV _) fun _ => loc_oIxA _ _ _ _
  | exact loc_bind (loc_ixV _) fun _ => loc_bind (loc_ixV _) fun _ => loc_oMk _ _ _ _
  | exact loc_cvH _ _ _
  | exact loc_cond (loc_cond (loc_shH _ _ _ _ _) (loc_cond (loc_tlH _ _ _ _) loc_fail)) (hG _ _)
  | exact loc_cond (loc_cond loc_fail (loc_cond loc_fail loc_fail)) (hG _ _)
  | exact loc_cond (loc_binH _ _ _ _ _) (hG _ _)
  | exact loc_mmH _ _ _
  | exact loc_cond (loc_bltH _ _ _) (hG _ _)
  | exact hG _ _
section
variable {ρ : Env} {A : List As} {B : List Ix}
theorem lsHard_ok (hA : AllH ρ A) (hB : AllX ρ B) {G : Oper → List Value → M Sy Nxt} {C : Cfg Sy} (hG : HardOK (symSig ρ) Try.prog { C with hard := G }) {kp : Bool} (hC : C.hard = lsHard kp A B G) (hf : Pl ρ) : HardOK (symSig ρ) Try.prog C := by
 intro o vs h nx x h' nx' R W hs e r w ρo hM hN hv
 rw [hC] at e
 unfold lsHard at e
 have back : G o vs h nx = .ok x h' nx' R W → nx ≤ nx' ∧ After (symSig ρ) Try.prog ((execOp ρo o).run Try.prog w) r w nx nx' W h'.get x := fun e2 => hG o vs h nx x h' nx' R W hs e2 r w ρo hM hN hv
 cases hop : o.op with
 | load t y =>
  rw [hop] at e
  simp only at e
  have hops : o.op.operands.toList.map ρo = [ρo y] := by rw [hop]; rfl
  rw [hops] at hv
  rcases vs with _ | ⟨u, _ | ⟨z, l⟩⟩ <;> first | (cases (show (fail : M Sy Nxt) h nx = _ from e); done) | skip
  simp only [oneM] at e
  cases hv with
  | cons hu hv =>
   cases hc : chanOf u with
   | none => rw [hc] at e; cases (show (fail : M Sy Nxt) h nx = _ from e)
   | some i =>
    rw [hc] at e
    obtain ⟨hle, v, u2, ad, r', rfl, hp, hl, hvr, hX⟩ := oLd_ok hB e (vr_chanV hc hu) hM hN
    refine ⟨hle, u2, w, r', ?_, hvr, hX⟩
    simp only [execOp, hop, hp, Instr.loadAt, Instr.sureAddr, Sem.run_bind, Sem.run_pure, Result.andThen_ok, hl]
 | store t y z =>
  rw [hop] at e
  simp only at e
  have hops : o.op.operands.toList.map ρo = [ρo y, ρo z] := by rw [hop]; rfl
  rw [hops] at hv
  rcases vs with _ | ⟨u, _ | ⟨z1, _ | ⟨z2, l⟩⟩⟩ <;> first | (cases (show (fail : M Sy Nxt) h nx = _ from e); done) | skip
  simp only [twoM] at e
  cases hv with
  | cons hu hv => cases hv with
   | cons hz hv =>
    cases hc : chanOf u with
    | none => rw [hc] at e; cases (show (fail : M Sy Nxt) h nx = _ from e)
    | some i =>
     rw [hc] at e
     obtain ⟨rfl, rfl, ad, w', hp, hl, hX⟩ := oSt_ok hB e (vr_chanV hc hu) hz hM
     refine ⟨Nat.le_refl _, w', r, ?_, hX⟩
     simp only [execOp, hop, hp, Instr.storeAt, Instr.sureAddr, Sem.run_bind, Sem.run_pure, Result.andThen_ok, hl]
 | indexAddr t y i =>
  rw [hop] at e
  simp only at e
  have hops : o.op.operands.toList.map ρo = [ρo y, ρo i] := by rw [hop]; rfl
  rw [hops] at hv
  rcases vs with _ | ⟨u, _ | ⟨z1, _ | ⟨z2, l⟩⟩⟩ <;> first | (cases (show (fail : M Sy Nxt) h nx = _ from e); done) | skip
  simp only [twoM] at e
  cases hv with
  | cons hu hv => cases hv with
   | cons hz hv =>
    cases hc : chanOf u with
    | none => rw [hc] at e; cases (show (fail : M Sy Nxt) h nx = _ from e)
    | some m =>
     rw [hc] at e
     obtain ⟨p, h1, nx1, R1, W1, R2, W2, e1, e2, rfl, rfl⟩ := bind_ok e
     obtain ⟨rfl, rfl, rfl, hp⟩ := ixV_ok e1 hz hM
     obtain ⟨hle, v, u2, r', rfl, hl, hvr, hX⟩ := oIxA_ok hB e2 (vr_chanV hc hu) hM hN
     refine ⟨hle, u2, w, r', ?_, hvr, by simpa using hX⟩
     simp only [execOp, hop, hp, Sem.run_bind, hl, Result.andThen_ok, Sem.run_pure]
 | makeSlice t y i =>
  rw [hop] at e
  simp only at e
  have hops : o.op.operands.toList.map ρo = [ρo y, ρo i] := by rw [hop]; rfl
  rw [hops] at hv
  rcases vs with _ | ⟨u, _ | ⟨z1, _ | ⟨z2, l⟩⟩⟩ <;> first | (cases (show (fail : M Sy Nxt) h nx = _ from e); done) | skip
  simp only [twoM] at e
  cases hv with
  | cons hu hv => cases hv with
   | cons hz hv =>
    obtain ⟨p, h1, nx1, R1, W1, R2, W2, e1, e2, rfl, rfl⟩ := bind_ok e
    obtain ⟨rfl, rfl, rfl, hp⟩ := ixV_ok e1 hu hM
    obtain ⟨q, h3, nx3, R3, W3, R4, W4, e3, e4, rfl, rfl⟩ := bind_ok e2
    obtain ⟨rfl, rfl, rfl, hq⟩ := ixV_ok e3 hz hM
    obtain ⟨hle, v, u2, r', w', rfl, hl, hvr, hX⟩ := oMk_ok hB e4 hM hN hf
    refine ⟨hle, u2, w', r', ?_, hvr, by simpa using hX⟩
    simp only [execOp, hop, hp, hq, Sem.run_bind, hl, Result.andThen_ok, Sem.run_pure]
 | convert s t y =>
  rw [hop] at e
  simp only at e
  have hops : o.op.operands.toList.map ρo = [ρo y] := by rw [hop]; rfl
  rw [hops] at hv
  rcases vs with _ | ⟨u, _ | ⟨z, l⟩⟩ <;> first | (cases (show (fail : M Sy Nxt) h nx = _ from e); done) | skip
  simp only [oneM] at e
  cases hv with
  | cons hu hv =>
   obtain ⟨hle, v, u2, r', rfl, hl, hvr, hX⟩ := cvH_ok e hu hM hN
   refine ⟨hle, u2, w, r', ?_, hvr, hX⟩
   simp only [execOp, hop, Sem.run_bind, hl, Result.andThen_ok, Sem.run_pure]
 | slice t y lo hi mx =>
  rw [hop] at e
  simp only at e
  rcases condH e with e1 | e1
  ·rcases condB e1 with ⟨hk, e2⟩ | ⟨_, e1⟩
   case inr =>
    obtain ⟨hk, e2⟩ := cond_ok e1
    simp only [Bool.and_eq_true, Option.isNone_iff_eq_none] at hk
    obtain ⟨hk2, rfl, rfl⟩ := hk
    obtain ⟨b, rfl⟩ := Option.isSome_iff_exists.1 hk2
    have hops : o.op.operands.toList.map ρo = [ρo y, ρo b] := by rw [hop]; rfl
    rw [hops] at hv
    rcases vs with _ | ⟨u, _ | ⟨z1, _ | ⟨z2, l⟩⟩⟩ <;> first | (cases (show (fail : M Sy Nxt) h nx = _ from e2); done) | skip
    simp only [twoM] at e2
    cases hv with
    | cons hu hv => cases hv with
     | cons hz hv =>
      obtain ⟨hle, v, u2, r', rfl, hl, hvr, hX⟩ := tlH_ok hB e2 hu hz hM hN
      refine ⟨hle, u2, w, r', ?_, hvr, by simpa using hX⟩
      simp only [execOp, hop, Option.map_some, Option.map_none, Sem.run_bind, hl, Result.andThen_ok, Sem.run_pure]
   simp only [Bool.and_eq_true, Option.isNone_iff_eq_none] at hk
   obtain ⟨rfl, hk2, rfl⟩ := hk
   obtain ⟨b, rfl⟩ := Option.isSome_iff_exists.1 hk2
   have hops : o.op.operands.toList.map ρo = [ρo y, ρo b] := by rw [hop]; rfl
   rw [hops] at hv
   rcases vs with _ | ⟨u, _ | ⟨z1, _ | ⟨z2, l⟩⟩⟩ <;> first | (cases (show (fail : M Sy Nxt) h nx = _ from e2); done) | skip
   simp only [twoM] at e2
   cases hv with
   | cons hu hv => cases hv with
    | cons hz hv =>
     have e0 : bind (isFc u) (fun k => cond k (hdH B t u z1) (slH B kp t u z1)) h nx = .ok x h' nx' R W := e2
     clear e2
     obtain ⟨kf, h1, nx1, R1, W1, R2, W2, e3, e2, rfl, rfl⟩ := bind_ok e0
     obtain ⟨rfl, rfl, rfl⟩ := isFc_ok e3
     rcases condB e2 with ⟨_, e2⟩ | ⟨_, e2⟩
     case inl =>
      obtain ⟨hle, v, u2, r', rfl, hl, hvr, hX⟩ := hdH_ok hB e2 hu hz hM hN
      refine ⟨hle, u2, w, r', ?_, hvr, by simpa using hX⟩
      simp only [execOp, hop, Option.map_some, Option.map_none, Sem.run_bind, hl, Result.andThen_ok, Sem.run_pure]
     unfold slH at e2
     cases hc : chanOf u with
     | none => rw [hc] at e2; cases (show (fail : M Sy Nxt) _ _ = _ from e2)
     | some m =>
      rw [hc] at e2
      obtain ⟨p, h1, nx1, R1, W1, R2, W2, e3, e4, rfl, rfl⟩ := bind_ok e2
      obtain ⟨rfl, rfl, rfl, hp⟩ := ixV_ok e3 hz hM
      obtain ⟨hle, v, u2, r', rfl, hl, hvr, hX⟩ := oSl_ok hB e4 (vr_chanV hc hu) hM hN
      refine ⟨hle, u2, w, r', ?_, hvr, by simpa using hX⟩
      simp only [execOp, hop, hp, Option.map_some, Option.map_none, Sem.run_bind, hl, Result.andThen_ok, Sem.run_pure]
  ·exact back e1
 | binOp op t p q yt =>
  rw [hop] at e
  simp only at e
  have hops : o.op.operands.toList.map ρo = [ρo p, ρo q] := by rw [hop]; rfl
  have hv0 := hv
  rw [hops] at hv
  rcases vs with _ | ⟨u, _ | ⟨z1, _ | ⟨z2, l⟩⟩⟩ <;> first | (cases (show (fail : M Sy Nxt) h nx = _ from e); done) | skip
  simp only [twoM] at e
  rcases condH e with e1 | e1
  ·cases hv with
   | cons hu hv => cases hv with
    | cons hz hv =>
     obtain ⟨f, h1, nx1, R1, W1, R2, W2, e2, e3, rfl, rfl⟩ := bind_ok (show binH A B op u z1 h nx = _ from e1)
     have hcv : VR r (cond (isOpq u) u z1) (cond (isOpq u) (ρo p) (ρo q)) := by cases isOpq u <;> assumption
     obtain ⟨rfl, rfl, rfl, hf⟩ := fact_ok e2 hcv hM
     cases f <;> first | (cases (show (fail : M Sy Nxt) _ _ = _ from e3); done) | skip
     ·obtain ⟨x1, h3, nx3, R3, W3, R4, W4, e4, e5, rfl, rfl⟩ := bind_ok (show bind (ixV u) _ _ _ = _ from e3)
      obtain ⟨rfl, rfl, rfl, hp⟩ := ixV_ok e4 hu hM
      obtain ⟨y1, h5, nx5, R5, W5, R6, W6, e6, e7, rfl, rfl⟩ := bind_ok e5
      obtain ⟨rfl, rfl, rfl, hq⟩ := ixV_ok e6 hz hM
      obtain ⟨hle, v, u2, r', rfl, hl, hvr, hX⟩ := iBin_ok hB e7 hM hN t p q
      refine ⟨hle, u2, w, r', ?_, hvr, by simpa using hX⟩
      simp only [execOp, hop, hp, hq]
      rw [Sem.run_bind, hl]
      rfl
     ·rename_i k qe
      obtain ⟨hk, e4⟩ := cond_ok (show cond (isOpq u) (izH A B op k qe z1) fail _ _ = _ from e3)
      rw [hk] at hf
      have hf2 : izIs k (qe.ev ρ.q) (ρo p) := hf
      obtain ⟨rfl, rfl, rfl, b, rfl, hpb, hl⟩ := izH_ok (w := w) hA hB e4 hf2 hz t p q
      refine ⟨Nat.le_refl _, b, w, r, ?_, .same hpb, by simpa using Ext.refl _ _ hM⟩
      simp only [execOp, hop]
      rw [Sem.run_bind, hl]
      rfl
  ·exact back e1
 | call c =>
  rw [hop] at e
  simp only at e
  cases hmm : mmB c with
  | some k =>
   rw [hmm] at e
   simp only at e
   unfold mmB at hmm
   obtain ⟨callee, args, ats⟩ := c
   unfold mmH at e
   rcases vs with _ | ⟨u, _ | ⟨z, _ | ⟨z2, l⟩⟩⟩ <;> first | (cases (show (fail : M Sy Nxt) h nx = _ from e); done) | skip
   simp only [twoM] at e
   have hops : o.op.operands.toList.map ρo = args.toList.map ρo := by
    cases callee with
    | builtin b => rw [hop]; simp [Op.operands, Call.operands]
    | _ => simp at hmm
   rw [hops] at hv
   generalize hl : args.toList.map ρo = al at hv
   cases hv with
   | cons hu hv => cases hv with
    | cons hz hn =>
     cases hn
     rename_i u' z'
     have hA : args.map ρo = #[u', z'] := by rw [map_list, hl]
     obtain ⟨p, h1, nx1, R1, W1, R2, W2, e1, e2, rfl, rfl⟩ := bind_ok e
     obtain ⟨rfl, rfl, rfl, hp⟩ := ixV_ok e1 hu hM
     obtain ⟨q, h3, nx3, R3, W3, R4, W4, e3, e4, rfl, rfl⟩ := bind_ok e2
     obtain ⟨rfl, rfl, rfl, hq⟩ := ixV_ok e3 hz hM
     obtain ⟨t, g1, g2, hle, v, r', rfl, hvr, hX⟩ := biH_ok hB e4 hM hN
     refine ⟨hle, .int .i64 t, w, r', ?_, hvr, by simpa using hX⟩
     subst hp hq
     cases callee with
     | builtin b =>
      cases b <;> simp only [reduceCtorEq, Option.some.injEq] at hmm
      ·subst hmm
       have g1' : (if atIx ρ q.1 q.2 > atIx ρ p.1 p.2 then atIx ρ q.1 q.2 else atIx ρ p.1 p.2) = t := g1
       simp only [execOp, hop, resolve, hA, Sem.run_bind, Sem.run_pure, Result.andThen_ok, invoke, builtin, run_max_int2, g1']
      ·subst hmm
       have g1' : (if atIx ρ q.1 q.2 < atIx ρ p.1 p.2 then atIx ρ q.1 q.2 else atIx ρ p.1 p.2) = t := g1
       simp only [execOp, hop, resolve, hA, Sem.run_bind, Sem.run_pure, Result.andThen_ok, invoke, builtin, run_min_int2, g1']
     | _ => simp at hmm
  | none =>
  rw [hmm] at e
  simp only at e
  rcases condH e with e1 | e1
  ·obtain ⟨callee, args, ats⟩ := c
   unfold bltH at e1
   cases callee with
   | builtin b =>
    simp only at e1
    have hops : o.op.operands.toList.map ρo = args.toList.map ρo := by rw [hop]; simp [Op.operands, Call.operands]
    rw [hops] at hv
    cases ha0 : ats[0]? with
    | none => rw [ha0] at e1; cases (show (fail : M Sy Nxt) h nx = _ from e1)
    | some t =>
     rw [ha0] at e1; simp only at e1
     cases b <;> first
      | (cases (show (fail : M Sy Nxt) h nx = _ from e1); done)
      | skip
     ·-- append
      rcases vs with _ | ⟨u, _ | ⟨z, _ | ⟨z2, l⟩⟩⟩ <;> first | (cases (show (fail : M Sy Nxt) h nx = _ from e1); done) | skip
      simp only [twoM] at e1
      generalize hl : args.toList.map ρo = al at hv
      cases hv with
      | cons hu hv => cases hv with
       | cons hz hn =>
        cases hn
        rename_i u' z'
        have hA : args.map ρo = #[u', z'] := by rw [map_list, hl]
        cases hc : chanOf u with
        | none => rw [hc] at e1; cases (show (fail : M Sy Nxt) h nx = _ from e1)
        | some m =>
         rw [hc] at e1; simp only at e1
         cases ha1 : ats[1]? with
         | none => rw [ha1] at e1; cases (show (fail : M Sy Nxt) h nx = _ from e1)
         | some tx =>
          rw [ha1] at e1
          obtain ⟨hle, v, u2, r', w', rfl, hrun, hvr, hX⟩ := oAp_ok (ty := o.type) hB e1 (vr_chanV hc hu) hz hM hN hf
          refine ⟨hle, u2, w', r', ?_, hvr, hX⟩
          have hsame : Builtin.append_ ats o.type #[u', z'] = Builtin.append_ #[t, tx] o.type #[u', z'] := by simp [Builtin.append_, ha0, ha1]
          simp only [execOp, hop, resolve, hA, Sem.run_bind, Sem.run_pure, Result.andThen_ok, invoke, builtin, hsame, hrun]
     ·-- len
      rcases vs with _ | ⟨u, _ | ⟨z, l⟩⟩ <;> first | (cases (show (fail : M Sy Nxt) h nx = _ from e1); done) | skip
      simp only [oneM] at e1
      generalize hl : args.toList.map ρo = al at hv
      cases hv with
      | cons hu hn =>
       cases hn
       rename_i u'
       have hA : args.map ρo = #[u'] := by rw [map_list, hl]
       cases hc : chanOf u with
       | none => rw [hc] at e1; cases (show (fail : M Sy Nxt) h nx = _ from e1)
       | some m =>
        rw [hc] at e1; simp only at e1
        cases hs2 : sliceT Try.prog t with
        | none => rw [hs2] at e1; cases (show (fail : M Sy Nxt) h nx = _ from e1)
        | some el =>
         rw [hs2] at e1
         obtain ⟨hle, v, u2, r', rfl, hrun, hvr, hX⟩ := oLn_ok (ty := o.type) hB hs2 e1 (vr_chanV hc hu) hM hN
         refine ⟨hle, u2, w, r', ?_, hvr, hX⟩
         have hsame : Builtin.len_ ats o.type #[u'] = Builtin.len_ #[t] o.type #[u'] := by simp [Builtin.len_, ha0]
         simp only [execOp, hop, resolve, hA, Sem.run_bind, Sem.run_pure, Result.andThen_ok, invoke, builtin, hsame, hrun]
   | _ => cases (show (fail : M Sy Nxt) h nx = _ from e1)
  ·exact back e1
 | _ => rw [hop] at e; exact back e
end
noncomputable def Le.beq (a : Le) : Le → Bool := Le.rec (motive := fun _ => Le → Bool) (fun b => match b with
  | .nil => true
  | _ => false) (fun c b => match b with
  | .v d => Nat.beq c d
  | _ => false) (fun _ e ih b => match b with
  | .snoc l f => ih l && e.beq f
  | _ => false) (fun _ x s ih b => match b with
  | .take l y t => ih l && (Nat.beq x y && eqI s t)
  | _ => false) a
theorem Le.beq_ok : ∀ (a b : Le), a.beq b = true → a = b
 | .nil, b, h => by cases b <;> first | rfl | (cases (show false = true from h); done)
 | .v c, b, h => by
  cases b <;> first | (cases (show false = true from h); done) | skip
  rw [Nat.eq_of_beq_eq_true (show Nat.beq c _ = true from h)]
 | .snoc l e, b, h => by
  cases b <;> first | (cases (show false = true from h); done) | skip
  have h' := Bool.and_eq_true_iff.1 (show (l.beq _ && e.beq _) = true from h)
  rw [Le.beq_ok l _ h'.1, Qe.beq_ok _ _ h'.2]
 | .take l x s, b, h => by
  cases b <;> first | (cases (show false = true from h); done) | skip
  have h' := Bool.and_eq_true_iff.1 (show (l.beq _ && (Nat.beq x _ && eqI s _)) = true from h)
  have h2 := Bool.and_eq_true_iff.1 h'.2
  rw [Le.beq_ok l _ h'.1, Nat.eq_of_beq_eq_true h2.1, eqI_ok h2.2]
noncomputable def eqZ (z y : Option (Nat × Int)) : Bool := match z with
 | none => match y with
  | none => true
  | some _ => false
 | some p => match y with
  | some q => Nat.beq p.1 q.1 && eqI p.2 q.2
  | none => false
theorem eqZ_ok {z y : Option (Nat × Int)} (h : eqZ z y = true) : z = y := by
 cases z <;> cases y <;> first | rfl | (cases h; done) | skip
 rename_i p q
 obtain ⟨a, s⟩ := p
 obtain ⟨b, t⟩ := q
 have h' := Bool.and_eq_true_iff.1 (show (Nat.beq a b && eqI s t) = true from h)
 rw [Nat.eq_of_beq_eq_true h'.1, eqI_ok h'.2]
noncomputable def eqSy (a b : Sy) : Bool := match a with
 | .ng e => match b with
  | .ng f => e.beq f
  | _ => false
 | .nu e => match b with
  | .nu f => e.beq f
  | _ => false
 | .de e => match b with
  | .de f => e.beq f
  | _ => false
 | .fn e => match b with
  | .fn f => e.beq f
  | _ => false
 | .fd e => match b with
  | .fd f => e.beq f
  | _ => false
 | .is e => match b with
  | .is f => e.beq f
  | _ => false
 | .ix x s => match b with
  | .ix y t => Nat.beq x y && eqI s t
  | _ => false
 | .iz k e => match b with
  | .iz l f => Nat.beq k l && e.beq f
  | _ => false
 | .ls K c => match b with
  | .ls L d => Nat.beq K L && Nat.beq c d
  | _ => false
 | .ol K l z => match b with
  | .ol L m y => Nat.beq K L && (l.beq m && eqZ z y)
  | _ => false
 | .wl x s => match b with
  | .wl y t => Nat.beq x y && eqI s t
  | _ => false
 | .lr c x => match b with
  | .lr d y => Nat.beq c d && Nat.beq x y
  | _ => false
 | .rl c => match b with
  | .rl d => Nat.beq c d
  | _ => false
 | .oq i => match b with
  | .oq j => Nat.beq i j
  | _ => false
 | _ => false
theorem eqSy_ok (a b : Sy) (h : eqSy a b = true) : a = b := by
 cases a <;> first | (cases (show false = true from h); done) | skip
 all_goals (cases b <;> first | (cases (show false = true from h); done) | skip)
 ·rw [Qe.beq_ok _ _ (show Qe.beq _ _ = true from h)]
 ·rw [Qe.beq_ok _ _ (show Qe.beq _ _ = true from h)]
 ·rw [Qe.beq_ok _ _ (show Qe.beq _ _ = true from h)]
 ·rw [Qe.beq_ok _ _ (show Qe.beq _ _ = true from h)]
 ·rw [Qe.beq_ok _ _ (show Qe.beq _ _ = true from h)]
 ·rw [Qe.beq_ok _ _ (show Qe.beq _ _ = true from h)]
 ·have h' := Bool.and_eq_true_iff.1 (show (Nat.beq _ _ && eqI _ _) = true from h)
  rw [Nat.eq_of_beq_eq_true h'.1, eqI_ok h'.2]
 ·have h' := Bool.and_eq_true_iff.1 (show (Nat.beq _ _ && Qe.beq _ _) = true from h)
  rw [Nat.eq_of_beq_eq_true h'.1, Qe.beq_ok _ _ h'.2]
 ·have h' := Bool.and_eq_true_iff.1 (show (Nat.beq _ _ && Nat.beq _ _) = true from h)
  rw [Nat.eq_of_beq_eq_true h'.1, Nat.eq_of_beq_eq_true h'.2]
 ·have h' := Bool.and_eq_true_iff.1 (show (Nat.beq _ _ && (Le.beq _ _ && eqZ _ _)) = true from h)
  have h2 := Bool.and_eq_true_iff.1 h'.2
  rw [Nat.eq_of_beq_eq_true h'.1, Le.beq_ok _ _ h2.1, eqZ_ok h2.2]
 ·have h' := Bool.and_eq_true_iff.1 (show (Nat.beq _ _ && eqI _ _) = true from h)
  rw [Nat.eq_of_beq_eq_true h'.1, eqI_ok h'.2]
 ·have h' := Bool.and_eq_true_iff.1 (show (Nat.beq _ _ && Nat.beq _ _) = true from h)
  rw [Nat.eq_of_beq_eq_true h'.1, Nat.eq_of_beq_eq_true h'.2]
 ·rw [Nat.eq_of_beq_eq_true (show Nat.beq _ _ = true from h)]
 ·rw [Nat.eq_of_beq_eq_true (show Nat.beq _ _ = true from h)]
theorem lsLen_ok (ρ : Env) : ∀ f n w v, (symSig ρ).holds f w v → symLen f = some n → ∃ a c, v = .slice a n c := fun f n w v h e => by
 cases f <;> first | (cases e; done) | skip
 rename_i k
 have e' : wordsN k = n := Option.some.inj e
 obtain ⟨a, c, rfl⟩ := nat_slice (show NatIn w v k from h)
 exact ⟨a, c, by rw [e']⟩
noncomputable def memC : Cfg Sy := symCfg fun _ _ => fail
instance memHardL : HardLoc (symCfg (memHard Try.prog memC)) := ⟨loc_memHard Try.prog memC⟩
abbrev Jmps := FuncId → Code → Option (Tr Value → M Sy (Tr Value))
noncomputable def lsCfg (kp : Bool) (A : List As) (B : List Ix) (j : Jmps) : Cfg Sy where
 hid _ := symHid
 G := natCfg.G
 glob := natCfg.glob
 tab := natCfg.tab
 len := symLen
 jmp := j
 hard := lsHard kp A B (memHard Try.prog memC)
instance lsHardL (kp : Bool) (A : List As) (B : List Ix) (j : Jmps) : HardLoc (lsCfg kp A B j) := ⟨loc_lsHard (loc_memHard Try.prog memC) kp A B⟩
theorem lsFits {ρ : Env} {kp : Bool} {A : List As} {B : List Ix} {j : Jmps} (hA : AllH ρ A) (hB : AllX ρ B) (hf : Pl ρ := by rfl) : Fits (symSig ρ) Try.prog (lsCfg kp A B j) where
 hid := hn_of hf
 G := rfl
 len := lsLen_ok ρ
 tab := natFits.tab
 glob := natFits.glob
 mixed := natFits.mixed
 hard := lsHard_ok hA hB (memHard_ok (C0 := memC) rfl (hn_of hf) rfl) rfl hf
theorem olIs.env {ρ ρ' : Env} {K : Nat} {l l' : Le} {z z' : Option (Nat × Int)} {w : World} {v : Value} (h : olIs ρ K l z w v) (hl : l'.ev ρ' = l.ev ρ) (hz : match z' with
  | none => match z with
   | none => True
   | some p => (((l.ev ρ).length : Nat) : Int) = ρ.nat p.1 + p.2
  | some q => match z with
   | none => (((l.ev ρ).length : Nat) : Int) = ρ'.nat q.1 + q.2
   | some p => ((ρ.nat p.1 : Nat) : Int) + p.2 = ρ'.nat q.1 + q.2) : olIs ρ' K l' z' w v := by
 obtain ⟨a, n, m, h1, h2, h3, h4, h5, h6⟩ := h
 refine ⟨a, n, m, h1, h2, by rw [hl]; exact h3, ?_, h5, fun ad had => ?_⟩
 ·cases z' with
  | none => cases z with
   | none => show n = (l'.ev ρ').length; rw [hl]; exact h4
   | some p =>
    have h4' : ((n : Nat) : Int) = ρ.nat p.1 + p.2 := h4
    have hz' : (((l.ev ρ).length : Nat) : Int) = ρ.nat p.1 + p.2 := hz
    show n = (l'.ev ρ').length
    rw [hl]; omega
  | some q => cases z with
   | none =>
    have h4' : n = (l.ev ρ).length := h4
    have hz' : (((l.ev ρ).length : Nat) : Int) = ρ'.nat q.1 + q.2 := hz
    show ((n : Nat) : Int) = ρ'.nat q.1 + q.2
    rw [h4']; exact hz'
   | some p =>
    have h4' : ((n : Nat) : Int) = ρ.nat p.1 + p.2 := h4
    have hz' : ((ρ.nat p.1 : Nat) : Int) + p.2 = ρ'.nat q.1 + q.2 := hz
    exact h4'.trans hz'
 ·obtain ⟨cl, g1, g2, g3, g4, g5⟩ := h6 ad had
  exact ⟨cl, g1, g2, g3, by rw [hl]; exact g4, by rw [hl]; exact g5⟩
def LsIn (K : Nat) (w : World) (v : Value) (qs : List Rat) : Prop := ∃ a m, v = .slice a qs.length m ∧ qs.length ≤ m ∧ (qs ≠ [] → ∃ b off cl t z, a = some ⟨b, off, none⟩ ∧ w.heap[b]? = some (.cells ⟨cl⟩ t z) ∧ RowAt K w cl off qs)
theorem LsIn.ls {ρ : Env} {K c : Nat} {w : World} {v : Value} (h : LsIn K w v (ρ.lst c)) (hlo : ρ.lo = w.heap.size) : lsIs ρ K c w v := by
 obtain ⟨a, m, h1, h2, h3⟩ := h
 exact ⟨a, m, h1, h2, fun hp => by
  obtain ⟨b, off, cl, t, z, h4, h5, h6⟩ := h3 hp
  exact ⟨b, off, cl, t, z, h4, by rw [hlo]; exact (Array.getElem?_eq_some_iff.1 h5).1, h5, h6⟩⟩
def OlIn (K : Nat) (w : World) (v : Value) (qs : List Rat) : Prop := ∃ a m, v = .slice a qs.length m ∧ qs.length ≤ m ∧ (a = none → m = 0) ∧ ∀ ad, a = some ad → ∃ cl, ad = ⟨ad.block, 0, none⟩ ∧ w.heap[ad.block]? = some (.cells ⟨cl⟩ (tyK K) (0, 0)) ∧ cl.length = m * elSz K ∧ RowAt K w cl 0 qs
theorem olIs.to {ρ : Env} {K : Nat} {l : Le} {w : World} {v : Value} (h : olIs ρ K l none w v) : OlIn K w v (l.ev ρ) := by
 obtain ⟨a, n, m, h1, h2, h3, h4, h5, h6⟩ := h
 have h4' : n = (l.ev ρ).length := h4
 subst h4'
 exact ⟨a, m, h1, h2, h5, fun ad had => by
  obtain ⟨cl, g1, g2, g3, g4, _⟩ := h6 ad had
  exact ⟨cl, g1, g2, g3, g4⟩⟩
theorem OlIn.ol {ρ : Env} {K : Nat} {l : Le} {w : World} {v : Value} (h : OlIn K w v (l.ev ρ)) : olIs ρ K l none w v := by
 obtain ⟨a, m, h1, h2, h5, h6⟩ := h
 exact ⟨a, _, m, h1, h2, Nat.le_refl _, rfl, h5, fun ad had => by
  obtain ⟨cl, g1, g2, g3, g4⟩ := h6 ad had
  exact ⟨cl, g1, g2, g3, g4, fun i a b => by omega⟩⟩
theorem OlIn.ls {K : Nat} {w : World} {v : Value} {qs : List Rat} (h : OlIn K w v qs) : LsIn K w v qs := by
 obtain ⟨a, m, h1, h2, h5, h6⟩ := h
 refine ⟨a, m, h1, h2, fun hp => ?_⟩
 cases a with
 | none => have := h5 rfl; cases qs with
  | nil => exact absurd rfl hp
  | cons q l => simp only [List.length_cons] at h2; omega
 | some ad =>
  obtain ⟨cl, g1, g2, g3, g4⟩ := h6 ad rfl
  exact ⟨ad.block, 0, cl, _, _, by rw [← g1], g2, g4⟩
noncomputable def loopOf (f n : Nat) : Code := match (Try.prog).funcs[f]? with
 | some fn => match fn.body with
  | some c => ((loopsIn c)[n]?).getD .skip
  | none => .skip
 | none => .skip
noncomputable def noJ : Jmps := fun _ _ => none
theorem fit00 : Fit (0 : Rat) := ⟨by decide, by decide⟩
def rdQ (qs : List Rat) (k : Nat) : Nat → Rat
 | 1 => qs.getLastD 0
 | 2 => qs.getD k 0
 | _ => 0
theorem rdQ_fit {qs : List Rat} (hq : ∀ q ∈ qs, Fit q) (k i : Nat) : Fit (rdQ qs k i) := by
 unfold rdQ
 split
 ·cases qs with
  | nil => exact fit00
  | cons a l =>
   rw [List.getLastD_cons]
   cases l with
   | nil => exact hq a (by simp)
   | cons b l => exact hq _ (by rw [List.getLastD_cons, ← List.getLast_eq_getLastD (by simp)]; exact List.mem_cons_of_mem _ (List.getLast_mem _))
 ·rw [List.getD_eq_getElem?_getD]
  cases h : qs[k]? with
  | none => exact fit00
  | some x => exact hq x (List.mem_of_getElem? h)
 ·exact fit00
def rdNat (n k : Nat) : Nat → Nat
 | 1 => n
 | 2 => k
 | _ => 0
def rdLst (qs : List Rat) (k : Nat) : Nat → List Rat
 | 0 => qs
 | 1 => qs.take k
 | _ => []
def rdEnv (qs : List Rat) (hq : ∀ q ∈ qs, Fit q) (lo k : Nat) : Env := ⟨rdQ qs k, fun _ => (false, ⟨#[]⟩, ⟨#[]⟩), fun i _ => rdQ_fit hq k i, fun i => (rdQ_fit hq k i).sm.up (by decide), fun _ => bad_zero, lo, rdLst qs k, rdNat qs.length k, rfl⟩
theorem few5 : (symSig (rdEnv [] (fun _ h => by simp at h) 0 0)).G ≤ 50000 := Nat.le_of_ble_eq_true (by kernel_rfl)
section
variable {qs : List Rat} (hq : ∀ q ∈ qs, Fit q) (lo : Nat)
end
structure PolyOK (qs : List Rat) : Prop where
 fit : ∀ q ∈ qs, Fit q
 last : qs ≠ [] → qs.getLastD 0 ≠ 0
end Ev
end Go.Proofs.Ytnlhjcfpfapafaa
