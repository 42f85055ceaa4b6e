/- Contracts. -/
import Derived.Test.YtnlhjcfpfapafaaEBq18
import Derived.Test.YtnlhjcfpfapafaaEBq19
namespace Go.Proofs.Ytnlhjcfpfapafaa
open Go Go.RowKit
namespace Ev
structure T3x where
 s : Bool
 n : Nat
 d : Nat
def T3x.q (t : T3x) : Rat := mkRat (Big.sI t.s t.n) t.d
noncomputable def T3x.good (t : T3x) : Bool := Nat.ble 1 t.d && (Nat.beq (Nat.gcd t.n t.d) 1 && ((!t.s || Nat.ble 1 t.n) && (small t.n && small t.d)))
theorem T3x.parts {t : T3x} (h : t.good = true) : Big.ng t.q = t.s ∧ Big.nu t.q = t.n ∧ Big.de t.q = t.d := by
 unfold T3x.good at h
 simp only [Bool.and_eq_true, Bool.or_eq_true, Bool.not_eq_true'] at h
 obtain ⟨h1, h2, h3, -⟩ := h
 have h1 := Nat.le_of_ble_eq_true h1
 refine Big.parts (N := Big.sI t.s t.n) (D := t.d) h1 (Nat.eq_of_beq_eq_true h2) (fun hs => ?_) (by omega) rfl rfl
 rcases h3 with h3 | h3
 ·rw [hs] at h3; cases h3
 ·exact Nat.le_of_ble_eq_true h3
theorem T3x.sm {t : T3x} (h : t.good = true) : Sm 1000 t.q := by
 obtain ⟨_, h2, h3⟩ := T3x.parts h
 unfold T3x.good at h
 simp only [Bool.and_eq_true] at h
 exact ⟨by rw [h2]; exact sz_small h.2.2.2.1, by rw [h3]; exact sz_small h.2.2.2.2⟩
noncomputable def t3V (v : Value) : M Nat T3x := match v with
 | .agg cs => match cs.toList with
  | [a, x, y] => match a with
   | .bool s => bind (natV x) fun n => bind (natV y) fun d => cond (T3x.good ⟨s, n, d⟩) (ret ⟨s, n, d⟩) fail
   | _ => fail
  | _ => fail
 | _ => fail
theorem loc_t3V (v : Value) : Loc (t3V v) := by
 unfold t3V
 (repeat' split) <;> first | exact loc_fail | exact loc_bind (loc_natV _) fun _ => loc_bind (loc_natV _) fun _ => loc_cond (loc_ret _) loc_fail
section
variable {h h' : Tr (Blk Nat)} {nx nx' : Nat} {R W : List Nat} {r : Ren} {w : World} {v v' : Value}
theorem t3V_ok {t : T3x} (e : t3V v h nx = .ok t h' nx' R W) (hv : VR r v v') (hM : Mod natSig r h.get w) : h' = h ∧ nx' = nx ∧ W = [] ∧ NumIn w v' t.q ∧ t.good = true := by
 unfold t3V at e
 cases v with
 | agg cs =>
  obtain ⟨l⟩ := cs
  simp only at e
  rcases l with _ | ⟨a, _ | ⟨x, _ | ⟨y, _ | ⟨z, l⟩⟩⟩⟩ <;> first | (cases (show (fail : M Nat T3x) h nx = _ from e); done) | skip
  cases a with
  | bool s =>
   cases hv with
   | same p => simp [plain] at p
   | agg ha =>
    cases ha with
    | cons a1 ha => cases ha with
     | cons a2 ha => cases ha with
      | cons a3 ha =>
       cases ha
       obtain rfl := a1.bool
       obtain ⟨n, h1, nx1, R1, W1, R2, W2, e1, e2, rfl, rfl⟩ := bind_ok (show (bind (natV x) (fun n => bind (natV y) fun d => cond (T3x.good (T3x.mk s n d)) (ret (T3x.mk s n d)) fail) : M Nat T3x) h nx = _ from e)
       obtain ⟨rfl, rfl, rfl, hn⟩ := natV_ok e1 a2 hM
       obtain ⟨d, h2, nx2, R3, W3, R4, W4, e3, e4, rfl, rfl⟩ := bind_ok e2
       obtain ⟨rfl, rfl, rfl, hd⟩ := natV_ok e3 a3 hM
       obtain ⟨hg, e5⟩ := cond_ok e4
       obtain ⟨rfl, rfl, rfl, rfl⟩ := ret_ok e5
       obtain ⟨p1, p2, p3⟩ := T3x.parts hg
       refine ⟨rfl, rfl, by simp, ⟨_, _, ?_, by rw [p2]; exact hn, by rw [p3]; exact hd⟩, hg⟩
       rw [p1]
  | _ => exact absurd (show (fail : M Nat T3x) h nx = _ from e) (by simp [fail])
 | _ => exact absurd (show (fail : M Nat T3x) h nx = _ from e) (by simp [fail])
noncomputable def newT (t : T3x) : M Nat Value := bind (newFact t.n) fun x => bind (newFact t.d) fun y => ret (.agg ⟨[.bool t.s, x, y]⟩)
theorem loc_newT (t : T3x) : Loc (newT t) := loc_bind (loc_newFact _) fun _ => loc_bind (loc_newFact _) fun _ => loc_ret _
theorem newT_ok {w' : World} {t : T3x} {q : Rat} (e : newT t h nx = .ok v h' nx' R W) (hM : Mod natSig r h.get w) (hN : New r nx nx') (hb : Below w.heap.size w w') (hq : NumIn w' v' q) (p : Big.ng q = t.s ∧ Big.nu q = t.n ∧ Big.de q = t.d) :
  ∃ r', VR r' v v' ∧ Ext natSig r w nx nx' W h'.get r' w' := by
 obtain ⟨a, b, rfl, ha, hb'⟩ := hq
 obtain ⟨p1, p2, p3⟩ := p
 rw [p2] at ha
 rw [p3] at hb'
 rw [p1]
 obtain ⟨i, h1, nx1, R1, W1, R2, W2, e1, e2, rfl, rfl⟩ := bind_ok e
 obtain ⟨i1, g1, nx3, R5, W5, R6, W6, e5, e6, rfl, rfl⟩ := bind_ok e1
 obtain ⟨rfl, rfl, rfl, rfl⟩ := ret_ok e6
 unfold fresh at e5
 cases e5
 obtain ⟨j, h2, nx2, R3, W3, R4, W4, e3, e4, rfl, rfl⟩ := bind_ok e2
 obtain ⟨rfl, rfl, rfl, rfl⟩ := ret_ok e4
 obtain ⟨j1, g2, nx4, R7, W7, R8, W8, e7, e8, rfl, rfl⟩ := bind_ok e3
 obtain ⟨rfl, rfl, rfl, rfl⟩ := ret_ok e8
 unfold fresh at e7
 cases e7
 obtain ⟨r1, hX, hr⟩ := ext_fact (S := natSig) (f := t.n) hM hb (hN.sub (Nat.le_refl _) (by omega)) ha (nat_one ha)
 have hX' := hX.congr (g' := (h.set nx (.fact t.n)).get) fun n => .inr (Tr.get_set _ _ _ _)
 have hN2 := New.after (hN.sub (lo' := nx) (hi' := nx + 1 + 1) (Nat.le_refl _) (by omega)) hX (by omega)
 obtain ⟨r2, hY, hs⟩ := ext_fact (S := natSig) (f := t.d) hX'.mod (Below.refl _ w') hN2 hb' (nat_one hb')
 refine ⟨r2, .agg (.cons (.same rfl) (.cons (.opq (hY.le.val _ _ hr) (nat_one ha)) (.cons (.opq hs (nat_one hb')) .nil))), ?_⟩
 have hZ := hX'.trans hY (by omega) (by omega)
 refine Ext.congr (by simpa using hZ) fun n => .inr ?_
 rw [Tr.get_set]
noncomputable def fracTx (N : Int) (D : Nat) : T3x := ⟨decide (N < 0), N.natAbs / Nat.gcd N.natAbs D, D / Nat.gcd N.natAbs D⟩
noncomputable def isT (N : Int) (D : Nat) (t : T3x) : Bool := t.good && (Nat.ble 1 D && decide (Big.sI t.s t.n * (D : Int) = N * (t.d : Int)))
theorem isT_ok {N : Int} {D : Nat} {t : T3x} (h : isT N D t = true) {q : Rat} (hq : q = mkRat N D) : Big.ng q = t.s ∧ Big.nu q = t.n ∧ Big.de q = t.d := by
 unfold isT at h
 simp only [Bool.and_eq_true, decide_eq_true_eq] at h
 obtain ⟨h1, h2, h3⟩ := h
 have h2 := Nat.le_of_ble_eq_true h2
 unfold T3x.good at h1
 simp only [Bool.and_eq_true, Bool.or_eq_true, Bool.not_eq_true'] at h1
 obtain ⟨g1, g2, g3, -⟩ := h1
 refine Big.parts (Nat.le_of_ble_eq_true g1) (Nat.eq_of_beq_eq_true g2) (fun hs => ?_) (show D ≠ 0 by omega) h3 hq
 rcases g3 with g3 | g3
 ·rw [hs] at g3; cases g3
 ·exact Nat.le_of_ble_eq_true g3
noncomputable def outT (N : Int) (D : Nat) : M Nat Value := cond (isT N D (fracTx N D)) (newT (fracTx N D)) fail
theorem loc_outT (N : Int) (D : Nat) : Loc (outT N D) := loc_cond (loc_newT _) loc_fail
theorem goes_T {N : Int} {D : Nat} {q : Rat} {f : FuncId} {args' : List Value} (e : outT N D h nx = .ok v h' nx' R W) (hq : q = mkRat N D) (hM : Mod natSig r h.get w) (hN : New r nx nx') (c : Calls Try.prog f ⟨args'⟩ w (Num1 w q)) : Goes f args' r w nx nx' W h'.get v := by
 obtain ⟨hk, e1⟩ := cond_ok e
 refine c.mono ?_
 rintro en w' ⟨u, rfl, hu, hb⟩
 obtain ⟨r', hv, hX⟩ := newT_ok e1 hM hN hb hu (isT_ok hk hq)
 exact ⟨u, r', rfl, hv, hX⟩
noncomputable def tt2 (args : List Value) (k : T3x → T3x → M Nat Value) : Option (M Nat Value) := match args with
 | [a, b] => some (bind (t3V a) fun x => bind (t3V b) fun y => k x y)
 | _ => none
end
theorem tt2_ok {f : FuncId} {k : T3x → T3x → M Nat Value} (hl : ∀ x y, Loc (k x y)) (hk : ∀ x y (h : Tr (Blk Nat)) nx v h' nx' R W, k x y h nx = .ok v h' nx' R W → ∀ r w a b, NumIn w a x.q → NumIn w b y.q → x.good = true → y.good = true → Mod natSig r h.get w → New r nx nx' → Goes f [a, b] r w nx nx' W h'.get v) :
  SumF natSig Try.prog f (fun args => tt2 args k) := by
 intro args m e
 unfold tt2 at e
 rcases args with _ | ⟨a, _ | ⟨b, _ | ⟨c, l⟩⟩⟩ <;> simp only [reduceCtorEq, Option.some.injEq] at e
 subst e
 refine ⟨loc_bind (loc_t3V a) fun n => loc_bind (loc_t3V b) fun m => hl n m, ?_⟩
 intro h nx v h' nx' R W e r w args' ha hM hN
 cases ha with
 | cons ha1 ha2 =>
  cases ha2 with
  | cons hb1 hb2 =>
   cases hb2
   obtain ⟨n, h1, nx1, R1, W1, R2, W2, e1, e2, rfl, rfl⟩ := bind_ok e
   obtain ⟨rfl, rfl, rfl, hn, gn⟩ := t3V_ok e1 ha1 hM
   obtain ⟨m, h2, nx2, R3, W3, R4, W4, e3, e4, rfl, rfl⟩ := bind_ok e2
   obtain ⟨rfl, rfl, rfl, hm, gm⟩ := t3V_ok e3 hb1 hM
   simpa [Goes] using hk n m _ _ _ _ _ _ _ e4 r w _ _ hn hm gn gm hM hN
theorem T3x.pos {t : T3x} (h : t.good = true) : t.d ≠ 0 := by
 unfold T3x.good at h
 simp only [Bool.and_eq_true] at h
 have := Nat.le_of_ble_eq_true h.1
 omega
theorem tsum_mul : SumF natSig Try.prog 45 (fun args => tt2 args fun x y => outT (Big.sI x.s x.n * Big.sI y.s y.n) (x.d * y.d)) :=
 tt2_ok (fun _ _ => loc_outT _ _) fun x y h nx v h' nx' R W e r w a b ha hb gx gy hM hN =>
  goes_T e (by unfold T3x.q; rw [Rat.mkRat_mul_mkRat]) hM hN (exMul_any w a b _ _ 1000 ha hb (T3x.sm gx) (T3x.sm gy) (by omega))
theorem tsum_add : SumF natSig Try.prog 43 (fun args => tt2 args fun x y => outT (Big.sI x.s x.n * (y.d : Int) + Big.sI y.s y.n * (x.d : Int)) (x.d * y.d)) :=
 tt2_ok (fun _ _ => loc_outT _ _) fun x y h nx v h' nx' R W e r w a b ha hb gx gy hM hN =>
  goes_T e (by unfold T3x.q; rw [Rat.mkRat_add_mkRat _ _ (T3x.pos gx) (T3x.pos gy)]) hM hN (exAdd_any w a b _ _ 1000 ha hb (T3x.sm gx) (T3x.sm gy) (by omega))
theorem tsum_sub : SumF natSig Try.prog 39 (fun args => tt2 args fun x y => outT (Big.sI x.s x.n * (y.d : Int) + -Big.sI y.s y.n * (x.d : Int)) (x.d * y.d)) :=
 tt2_ok (fun _ _ => loc_outT _ _) fun x y h nx v h' nx' R W e r w a b ha hb gx gy hM hN =>
  goes_T e (by unfold T3x.q; rw [Rat.sub_eq_add_neg, Rat.neg_mkRat, Rat.mkRat_add_mkRat _ _ (T3x.pos gx) (T3x.pos gy)]) hM hN (exSub_any w a b _ _ 1000 ha hb (T3x.sm gx) (T3x.sm gy) (by omega))
theorem quoX_mk {s s' : Bool} {n d n' d' : Nat} (hd : d ≠ 0) (hd' : d' ≠ 0) (hn : n' ≠ 0) : mkRat (Big.sI s n) d / mkRat (Big.sI s' n') d' = mkRat (Big.sI s n * Big.sI s' d') (d * n') := by
 have h1 : mkRat (Big.sI s' n') d' * mkRat (Big.sI s' d') n' = 1 := by
  rw [Rat.mkRat_mul_mkRat]
  have : Big.sI s' n' * Big.sI s' d' = ((d' * n' : Nat) : Int) := by cases s' <;> simp [Big.sI] <;> grind
  rw [this]
  show mkRat ((d' * n' : Nat) : Int) (d' * n') = 1
  have h0 : d' * n' ≠ 0 := Nat.mul_ne_zero hd' hn
  rw [show (1 : Rat) = mkRat 1 1 by rfl, Rat.mkRat_eq_iff h0 (by decide)]
  simp
 have h2 : mkRat (Big.sI s' n') d' ≠ 0 := fun e => by rw [e, Rat.zero_mul] at h1; exact absurd h1 (by decide)
 rw [Rat.div_def, ← Rat.mkRat_mul_mkRat]
 congr 1
 have h3 : (mkRat (Big.sI s' n') d')⁻¹ * (mkRat (Big.sI s' n') d' * mkRat (Big.sI s' d') n') = (mkRat (Big.sI s' n') d')⁻¹ := by rw [h1, Rat.mul_one]
 rw [← h3, ← Rat.mul_assoc, Rat.inv_mul_cancel _ h2, Rat.one_mul]
theorem tsum_quo : SumF natSig Try.prog 69 (fun args => tt2 args fun x y => cond (Nat.ble 1 y.n) (outT (Big.sI x.s x.n * Big.sI y.s y.d) (x.d * y.n)) fail) :=
 tt2_ok (fun _ _ => loc_cond (loc_outT _ _) loc_fail) fun x y h nx v h' nx' R W e r w a b ha hb gx gy hM hN => by
  obtain ⟨hk, e1⟩ := cond_ok e
  have hn := Nat.le_of_ble_eq_true hk
  exact goes_T e1 (by unfold T3x.q; exact quoX_mk (T3x.pos gx) (T3x.pos gy) (by omega)) hM hN (exQuo_any w a b _ _ 1000 ha hb (T3x.sm gx) (T3x.sm gy) (by omega) (by rw [(T3x.parts gy).2.1]; omega))
noncomputable def leadB (l : List UInt8) : Bool := match l with
 | [] => true
 | c :: _ => !(Nat.beq c.toNat 0)
theorem leadB_ok {l : List UInt8} (h : leadB l = true) : Lead l := by
 cases l with
 | nil => simp [Lead]
 | cons c l =>
  intro e
  simp at e
  subst e
  cases h
theorem bst_of {s : ByteArray} (h : leadB s.data.toList = true) : bst (Big.bnum s.data.toList) = s := by
 obtain ⟨⟨l⟩⟩ := s
 show (⟨(btx (Big.bnum l)).toArray⟩ : ByteArray) = _
 rw [btx_bnum (leadB_ok h)]
noncomputable def readKx (s : Bool) (a b : ByteArray) : M Nat Value := cond (leadB a.data.toList && (leadB b.data.toList && (T3x.good ⟨s, Big.bnum a.data.toList, Big.bnum b.data.toList⟩ && (Nat.ble a.size 512 && Nat.ble b.size 512))))
 (bind (newT ⟨s, Big.bnum a.data.toList, Big.bnum b.data.toList⟩) fun v => ret (.tuple ⟨[v, .bool true]⟩)) fail
noncomputable def readable (s : Bool) (a b : ByteArray) : Bool := leadB a.data.toList && (leadB b.data.toList && (T3x.good ⟨s, Big.bnum a.data.toList, Big.bnum b.data.toList⟩ && (Nat.ble a.size 512 && Nat.ble b.size 512)))
noncomputable def readS (args : List Value) : Option (M Nat Value) := match args with
 | [v] => match v with
  | .agg cs => match cs.toList with
   | [x, y, z] => match x with
    | .bool s => match y with
     | .string a => match z with
      | .string b => cond (readable s a b) (some (readKx s a b)) none
      | _ => none
     | _ => none
    | _ => none
   | _ => none
  | _ => none
 | _ => none
theorem tsum_read : SumF natSig Try.prog 34 readS := by
 intro args m e
 unfold readS at e
 rcases args with _ | ⟨v, _ | ⟨c, l⟩⟩ <;> simp only [reduceCtorEq] at e
 cases v <;> simp only [reduceCtorEq] at e
 rename_i cs
 obtain ⟨l⟩ := cs
 simp only at e
 rcases l with _ | ⟨x, _ | ⟨y, _ | ⟨z, _ | ⟨u, l⟩⟩⟩⟩ <;> simp only [reduceCtorEq] at e
 cases x <;> simp only [reduceCtorEq] at e
 rename_i s
 cases y <;> simp only [reduceCtorEq] at e
 rename_i a
 cases z <;> simp only [reduceCtorEq] at e
 rename_i b
 cases hk : readable s a b with
 | false => rw [hk] at e; cases e
 | true =>
  rw [hk] at e
  cases e
  refine ⟨loc_cond (loc_bind (loc_newT _) fun _ => loc_ret _) loc_fail, ?_⟩
  intro h nx v h' nx' R W e r w args' ha hM hN
  obtain ⟨_, e1⟩ := cond_ok e
  obtain ⟨u, h1, nx1, R1, W1, R2, W2, e2, e3, rfl, rfl⟩ := bind_ok e1
  obtain ⟨rfl, rfl, rfl, rfl⟩ := ret_ok e3
  unfold readable at hk
  simp only [Bool.and_eq_true] at hk
  obtain ⟨k1, k2, k3, k4, k5⟩ := hk
  obtain ⟨p1, p2, p3⟩ := T3x.parts k3
  obtain rfl : args' = [.agg ⟨[.bool s, .string a, .string b]⟩] := by
   cases ha with
   | cons q1 q2 => cases q2; rw [q1.eq_of_plain2 rfl]
  have hf : Fit (T3x.q ⟨s, Big.bnum a.data.toList, Big.bnum b.data.toList⟩) := by
   refine ⟨?_, ?_⟩
   ·rw [p2]; show szN (Big.bnum a.data.toList) ≤ 512; have := congrArg ByteArray.size (bst_of k1); rw [bst_size] at this; have := Nat.le_of_ble_eq_true k4; omega
   ·rw [p3]; show szN (Big.bnum b.data.toList) ≤ 512; have := congrArg ByteArray.size (bst_of k2); rw [bst_size] at this; have := Nat.le_of_ble_eq_true k5; omega
  have hc := exRead_ok w _ hf
  rw [p1, p2, p3] at hc
  simp only at hc
  rw [bst_of k1, bst_of k2] at hc
  refine hc.mono ?_
  rintro en w' ⟨u', rfl, hu, hb⟩
  obtain ⟨r', hv, hX⟩ := newT_ok e2 hM hN hb hu ⟨p1, p2, p3⟩
  exact ⟨_, r', rfl, .tuple (.cons hv (.cons (.same rfl) .nil)), by simpa using hX⟩
section
variable {F : Type} {S : Sig F} {P : Program}
noncomputable def geAll (k : Nat) (l : List Nat) : Bool := List.rec (motive := fun _ => Bool) true (fun n _ ih => Bool.rec (motive := fun _ => Bool) false ih (Nat.ble k n)) l
theorem geAll_ok {k : Nat} : ∀ {l : List Nat}, geAll k l = true → ∀ n ∈ l, k ≤ n
 | [], _, n, hn => by simp at hn
 | m :: l, h, n, hn => by
  have h' : (Bool.rec (motive := fun _ => Bool) false (geAll k l) (Nat.ble k m) : Bool) = true := h
  cases hb : Nat.ble k m with
  | false => rw [hb] at h'; cases h'
  | true =>
   rw [hb] at h'
   rcases List.mem_cons.1 hn with rfl | hn
   ·exact Nat.le_of_ble_eq_true hb
   ·exact geAll_ok h' n hn
noncomputable def plains (l : List Value) : Bool := plainL plain2 l
theorem plains_ok {r : Ren} : ∀ {l : List Value}, plains l = true → VsR r l l
 | [], _ => .nil
 | v :: l, h => by
  have h' : (plain2 v && plains l) = true := h
  simp only [Bool.and_eq_true] at h'
  exact .cons (VR.same2 h'.1) (plains_ok h'.2)
theorem VsR_eq {r : Ren} : ∀ {l l' : List Value}, plains l = true → VsR r l l' → l' = l
 | [], _, _, h => by cases h; rfl
 | v :: l, _, hp, h => by
  have h' : (plain2 v && plains l) = true := hp
  simp only [Bool.and_eq_true] at h'
  cases h with
  | cons a b => rw [a.eq_of_plain2 h'.1, VsR_eq h'.2 b]
noncomputable def plain3 (v : Value) : Bool := match v with
 | .tuple cs => plains cs.toList
 | v => plain2 v
theorem same3 {r : Ren} {v : Value} (h : plain3 v = true) : VR r v v := by
 cases v with
 | tuple cs => cases cs; exact .tuple (plains_ok (by simpa [plain3] using h))
 | _ => exact VR.same2 h
theorem eq_of_plain3 {r : Ren} {v v' : Value} (h : VR r v v') (hp : plain3 v = true) : v' = v := by
 cases h with
 | tuple a => rw [VsR_eq (by simpa [plain3] using hp) a]
 | same p => rfl
 | ptr p => exact (VR.ptr p).eq_of_plain2 hp
 | slice p hc => exact (VR.slice p hc).eq_of_plain2 hp
 | slicex p hc h1 h2 => exact (VR.slicex p hc h1 h2).eq_of_plain2 hp
 | agg a => exact (VR.agg a).eq_of_plain2 hp
 | opq p o => exact (VR.opq p o).eq_of_plain2 hp
 | any p => exact (VR.any p).eq_of_plain2 hp
 | func a b => exact (VR.func a b).eq_of_plain2 hp
 | iface a => exact (VR.iface a).eq_of_plain2 hp
noncomputable def gives (nx : Nat) (m : M F Value) : Option Value := match m .nil nx with
 | .no => none
 | .ok a _ _ _ W => cond (plain3 a && geAll nx W) (some a) none
theorem gives_ok {nx : Nat} {m : M F Value} {v : Value} (e : gives nx m = some v) : ∃ h' nx' R W, m .nil nx = .ok v h' nx' R W ∧ plain3 v = true ∧ ∀ n ∈ W, nx ≤ n := by
 unfold gives at e
 cases hm : m .nil nx with
 | no => rw [hm] at e; cases e
 | ok a h' nx' R W =>
  rw [hm] at e
  simp only at e
  cases hc : (plain3 a && geAll nx W) with
  | false => rw [hc] at e; cases e
  | true =>
   rw [hc] at e
   simp only [cond_true, Option.some.injEq] at e
   subst e
   simp only [Bool.and_eq_true] at hc
   exact ⟨h', nx', R, W, rfl, hc.1, geAll_ok hc.2⟩
noncomputable def ren0 (G : Nat) : Ren := ⟨fun n => if n < G then some n else none, fun _ => none, fun _ => 0⟩
theorem mod0 {w : World} (hG : S.G ≤ w.heap.size) (hb : S.base w) (hlo : S.lo ≤ w.heap.size := by exact Nat.zero_le _) : Mod S (ren0 S.G) (fun _ => none) w := by
 refine ⟨fun n m b h1 h2 => ?_, fun n b h => ?_, fun n c t h => (by cases h), fun n f h => (by cases h), hb, fun n hn => if_pos hn, fun n b h hn => ?_, fun n c t h => (by cases h), hlo, fun n s h => (by cases h), fun n f h => (by cases h), fun n m x h => (by cases h)⟩
 ·unfold ren0 at h1 h2
  simp only at h1 h2
  split at h1 <;> split at h2 <;> first | (cases h1; cases h2; exact .inl rfl) | (cases h1; done) | (cases h2; done)
 ·unfold ren0 at h
  simp only at h
  split at h
  ·cases h; omega
  ·cases h
 ·rw [show (ren0 S.G).blk n = none from if_neg (by omega)] at h; cases h
theorem gives_calls {C : Cfg F} [HardLoc C] {sum : Sums F} {n nx : Nat} {f : FuncId} {args : List Value} {v : Value} (hF : Fits S P C) (hs : SumOK S P sum) (e : gives nx (call P C sum n f args) = some v) (ha : plains args = true) (hx : S.G ≤ nx) {w : World} (hG : S.G ≤ w.heap.size) (hb : S.base w) (hlo : S.lo ≤ w.heap.size := by exact Nat.zero_le _) (hJ : JmpAll S P C := by exact .none rfl) :
  Calls P f ⟨args⟩ w fun e w' => e = .returned v ∧ Below w.heap.size w w' := by
 obtain ⟨h', nx', R, W, hm, hp, hW⟩ := gives_ok e
 have hc := call_ok hF hs n hJ
 have hfr : Fr (.nil : Tr (Blk F)) nx := fun k _ => Tr.get_nil k
 have hrun := Run.self (hc.loc f args) hm hfr
 have hN : New (ren0 S.G) nx nx' := fun k h1 h2 => ⟨if_neg (by omega), rfl⟩
 have hg : (Tr.get (.nil : Tr (Blk F))) = fun _ => none := funext fun k => Tr.get_nil k
 refine (hc.run f args _ _ _ _ _ _ _ hrun (ren0 S.G) w args (plains_ok ha) (by rw [hg]; exact mod0 hG hb hlo) hN).mono ?_
 rintro en w' ⟨v', r', rfl, hv, hX⟩
 have hv' := eq_of_plain3 hv hp
 subst hv'
 refine ⟨rfl, hX.os, hX.tape, hX.output, hX.size, fun b hb' => ?_⟩
 have hbo : w.heap[b]? = some w.heap[b] := Array.getElem?_eq_getElem hb'
 rw [hbo]
 exact hX.keep b _ hbo fun k hk => by
  have := hW k hk
  show ¬ (if k < S.G then some k else none) = some b
  rw [if_neg (by omega)]
  simp
end
noncomputable def natList : List (Nat × (List Value → Option (M Nat Value))) := [
 (102, fun args => two args fun n m => newFact (Nat.add n m)),
 (103, fun args => two args fun n m => newFact (Nat.sub n m)),
 (70, fun args => two args fun n m => newFact (Nat.mul n m)),
 (74, fun args => two args fun n m => newFact (Nat.div n m)),
 (65, fun args => two args fun n m => newFact (Nat.gcd n m)),
 (94, fun args => two args fun n m => bind (newFact (Nat.div n m)) fun x => bind (newFact (Nat.mod n m)) fun y => ret (.tuple ⟨[x, y]⟩)),
 (71, fun args => two args fun n m => ret (.int .i64 (Big.cmpI n m))),
 (66, fun args => one args fun n => ret (.bool (decide (n = 1)))),
 (118, fun args => one args fun n => ret (.int .i64 ((szN n : Nat) : Int))),
 (101, fun args => one args fun n => ret (.string (bst n))),
 (86, fun args => match args with
  | [a] => match a with
   | .int k s => match s with
    | .ofNat n => cond (decide (k = .u64) && Nat.ble (Nat.succ n) 18446744073709551616) (some (newFact n)) none
    | _ => none
   | _ => none
  | _ => none),
 (64, fun args => match args with
  | [a] => match a with
   | .string s => cond (Nat.ble s.size 100000) (some (newFact (Big.bnum s.data.toList))) none
   | _ => none
  | _ => none)]
theorem natList_ok : ∀ x ∈ natList, SumF natSig Try.prog x.1 x.2 := by
 unfold natList
 intro x hx
 simp only [List.mem_cons, List.not_mem_nil, or_false] at hx
 rcases hx with rfl | rfl | rfl | rfl | rfl | rfl | rfl | rfl | rfl | hx
 ·exact sum_add
 ·exact sum_sub
 ·exact sum_mul
 ·exact sum_quo
 ·exact sum_gcd
 ·exact sum_quoRem
 ·exact sum_cmp
 ·exact sum_isOne
 ·exact sum_size
 rcases hx with rfl | hx
 ·exact sum_bytes
 rcases hx with rfl | rfl
 ·exact sum_of
 ·exact sum_fromBytes
noncomputable def numList : List (Nat × (List Value → Option (M Nat Value))) := natList ++ [
 (45, fun args => tt2 args fun x y => outT (Big.sI x.s x.n * Big.sI y.s y.n) (x.d * y.d)),
 (43, fun args => tt2 args fun x y => outT (Big.sI x.s x.n * (y.d : Int) + Big.sI y.s y.n * (x.d : Int)) (x.d * y.d)),
 (39, fun args => tt2 args fun x y => outT (Big.sI x.s x.n * (y.d : Int) + -Big.sI y.s y.n * (x.d : Int)) (x.d * y.d)),
 (69, fun args => tt2 args fun x y => cond (Nat.ble 1 y.n) (outT (Big.sI x.s x.n * Big.sI y.s y.d) (x.d * y.n)) fail),
 (34, readS)]
theorem numList_ok : ∀ x ∈ numList, SumF natSig Try.prog x.1 x.2 := by
 intro x hx
 unfold numList at hx
 rcases List.mem_append.1 hx with hx | hx
 ·exact natList_ok x hx
 ·simp only [List.mem_cons, List.not_mem_nil, or_false] at hx
  rcases hx with rfl | hx
  ·exact tsum_mul
  rcases hx with rfl | hx
  ·exact tsum_add
  rcases hx with rfl | hx
  ·exact tsum_sub
  rcases hx with rfl | hx
  ·exact tsum_quo
  subst hx
  exact tsum_read
noncomputable def numSums : Sums Nat := sumsOf (mkTab numList)
theorem numSums_ok : SumOK natSig Try.prog numSums := sumsOf_ok numList_ok
noncomputable def natSums : Sums Nat := sumsOf (mkTab natList)
theorem natSums_ok : SumOK natSig Try.prog natSums := sumsOf_ok natList_ok
noncomputable def runs (n : Nat) (f : FuncId) (args : List Value) : Option Value := gives 100000 (call Try.prog natCfg natSums n f args)
theorem glob_few : Try.prog.globals.size ≤ 100000 := by
 have h : Nat.ble Try.prog.globals.size 100000 = true := by kernel_rfl
 exact Nat.le_of_ble_eq_true h
noncomputable def eqL {α : Type} (f : α → α → Bool) (l : List α) : List α → Bool := List.rec (motive := fun _ => List α → Bool)
 (fun m => match m with | [] => true | _ :: _ => false) (fun a _ ih m => match m with | [] => false | b :: m => f a b && ih m) l
theorem eqL_ok {α : Type} {f : α → α → Bool} (hf : ∀ a b, f a b = true → a = b) : ∀ {l m : List α}, eqL f l m = true → l = m
 | [], [], _ => rfl
 | [], _ :: _, h => by exact absurd (show false = true from h) (by simp)
 | _ :: _, [], h => by exact absurd (show false = true from h) (by simp)
 | a :: l, b :: m, h => by
  have h' : (f a b && eqL f l m) = true := h
  simp only [Bool.and_eq_true] at h'
  rw [hf _ _ h'.1, eqL_ok hf h'.2]
noncomputable def eqC (a b : UInt8) : Bool := Nat.beq a.toNat b.toNat
theorem eqC_ok (a b : UInt8) (h : eqC a b = true) : a = b := UInt8.toNat_inj.1 (Nat.eq_of_beq_eq_true h)
noncomputable def eqS (s t : ByteArray) : Bool := eqL eqC s.data.toList t.data.toList
theorem eqS_ok {s t : ByteArray} (h : eqS s t = true) : s = t := by
 obtain ⟨⟨l⟩⟩ := s
 obtain ⟨⟨m⟩⟩ := t
 have : l = m := eqL_ok eqC_ok h
 rw [this]
noncomputable def eq1 (v w : Value) : Bool := match v with
 | .bool a => match w with | .bool b => decide (a = b) | _ => false
 | .int k a => match w with | .int l b => decide (k = l) && decide (a = b) | _ => false
 | .float k a => match w with | .float l b => decide (k = l) && Nat.beq a b | _ => false
 | .complex k a b => match w with | .complex l c d => decide (k = l) && (Nat.beq a c && Nat.beq b d) | _ => false
 | .string s => match w with | .string t => eqS s t | _ => false
 | _ => false
theorem eq1_ok (v w : Value) (h : eq1 v w = true) : v = w := by
 unfold eq1 at h
 cases v <;> simp only [Bool.false_eq_true] at h <;> cases w <;> simp only [Bool.false_eq_true, Bool.and_eq_true, decide_eq_true_eq] at h
 ·rw [h]
 ·rw [h.1, h.2]
 ·rw [h.1, Nat.eq_of_beq_eq_true h.2]
 ·rw [h.1, Nat.eq_of_beq_eq_true h.2.1, Nat.eq_of_beq_eq_true h.2.2]
 ·rw [eqS_ok h]
noncomputable def eqV (v w : Value) : Bool := match v with
 | .agg a => match w with | .agg b => eqL eq1 a.toList b.toList | _ => false
 | _ => eq1 v w
theorem eqV_ok (v w : Value) (h : eqV v w = true) : v = w := by
 unfold eqV at h
 cases v <;> try exact eq1_ok _ _ h
 cases w <;> simp only [Bool.false_eq_true] at h
 rename_i a b
 obtain ⟨l⟩ := a
 obtain ⟨m⟩ := b
 have : l = m := eqL_ok eq1_ok h
 rw [this]
theorem goes_val3 {h h' : Tr (Blk Nat)} {nx nx' : Nat} {R W : List Nat} {r : Ren} {w : World} {u v : Value} {f : FuncId} {args' : List Value} (e : (ret u : M Nat Value) h nx = .ok v h' nx' R W) (hp : plain3 u = true) (hM : Mod natSig r h.get w) (c : Calls Try.prog f ⟨args'⟩ w fun e w' => e = .returned u ∧ Below w.heap.size w w') : Goes f args' r w nx nx' W h'.get v := by
 obtain ⟨rfl, rfl, rfl, rfl⟩ := ret_ok e
 refine c.mono ?_
 rintro en w' ⟨rfl, hb⟩
 exact ⟨_, r, rfl, same3 hp, ext_below hM hb _⟩
structure Fact where
 f : FuncId
 args : List Value
 v : Value
def Fact.ok (x : Fact) : Prop := plains x.args = true ∧ plain3 x.v = true ∧ ∀ w : World, Try.prog.globals.size ≤ w.heap.size → TabB w → Calls Try.prog x.f ⟨x.args⟩ w fun e w' => e = .returned x.v ∧ Below w.heap.size w w'
noncomputable def look (f : FuncId) (args : List Value) (l : List Fact) : Option Value := List.rec (motive := fun _ => Option Value) none
 (fun x _ ih => Bool.rec (motive := fun _ => Option Value) ih (Bool.rec (motive := fun _ => Option Value) ih (some x.v) (eqL eqV x.args args)) (Nat.beq x.f f)) l
theorem look_ok {f : FuncId} {args : List Value} {v : Value} : ∀ {l : List Fact}, look f args l = some v → ∃ x ∈ l, x.f = f ∧ x.args = args ∧ x.v = v
 | [], h => by cases h
 | x :: l, h => by
  have h' : (Bool.rec (motive := fun _ => Option Value) (look f args l) (Bool.rec (motive := fun _ => Option Value) (look f args l) (some x.v) (eqL eqV x.args args)) (Nat.beq x.f f) : Option Value) = some v := h
  cases hb : Nat.beq x.f f with
  | false =>
   rw [hb] at h'
   obtain ⟨y, hy, r⟩ := look_ok h'
   exact ⟨y, List.mem_cons_of_mem _ hy, r⟩
  | true =>
   rw [hb] at h'
   cases hc : eqL eqV x.args args with
   | false =>
    rw [hc] at h'
    obtain ⟨y, hy, r⟩ := look_ok h'
    exact ⟨y, List.mem_cons_of_mem _ hy, r⟩
   | true =>
    rw [hc] at h'
    exact ⟨x, List.mem_cons_self, Nat.eq_of_beq_eq_true hb, eqL_ok eqV_ok hc, Option.some.inj h'⟩
noncomputable def known (l : List Fact) : Sums Nat := fun f args => match look f args l with
 | some v => some (ret v)
 | none => natSums f args
theorem known_ok {l : List Fact} (hl : ∀ x ∈ l, x.ok) : SumOK natSig Try.prog (known l) := by
 refine ⟨fun f args m e => ?_, fun f args m e h nx v h' nx' R W hr r w args' ha hM hN => ?_⟩
 ·unfold known at e
  cases hk : look f args l with
  | none => rw [hk] at e; exact natSums_ok.loc f args m e
  | some v => rw [hk] at e; cases e; exact loc_ret _
 ·unfold known at e
  cases hk : look f args l with
  | none => rw [hk] at e; exact natSums_ok.run f args m e h nx v h' nx' R W hr r w args' ha hM hN
  | some u =>
   rw [hk] at e
   cases e
   obtain ⟨x, hx, rfl, rfl, rfl⟩ := look_ok hk
   obtain ⟨h1, h2, h3⟩ := hl x hx
   obtain rfl : args' = x.args := VsR_eq h1 ha
   have hG : Try.prog.globals.size ≤ w.heap.size := by
    rcases Nat.eq_zero_or_pos Try.prog.globals.size with h0 | h0
    ·omega
    ·have := hM.lt _ _ (hM.glob (Try.prog.globals.size - 1) (show _ < Try.prog.globals.size by omega))
     omega
   exact goes_val3 hr.ok h2 hM (h3 w hG hM.base)
noncomputable def knownN (l : List Fact) : Sums Nat := fun f args => match look f args l with
 | some v => some (ret v)
 | none => numSums f args
theorem knownN_ok {l : List Fact} (hl : ∀ x ∈ l, x.ok) : SumOK natSig Try.prog (knownN l) := by
 have hk := known_ok hl
 refine ⟨fun f args m e => ?_, fun f args m e h nx v h' nx' R W hr r w args' ha hM hN => ?_⟩
 ·unfold knownN at e
  cases hq : look f args l with
  | none => rw [hq] at e; exact numSums_ok.loc f args m e
  | some v => rw [hq] at e; cases e; exact loc_ret _
 ·unfold knownN at e
  cases hq : look f args l with
  | none => rw [hq] at e; exact numSums_ok.run f args m e h nx v h' nx' R W hr r w args' ha hM hN
  | some u =>
   rw [hq] at e
   exact hk.run f args m (by unfold known; rw [hq]; exact e) h nx v h' nx' R W hr r w args' ha hM hN
noncomputable def runsN (l : List Fact) (n : Nat) (f : FuncId) (args : List Value) : Option Value := gives 100000 (call Try.prog natCfg (knownN l) n f args)
theorem runsN_calls {l : List Fact} (hl : ∀ x ∈ l, x.ok) {n : Nat} {f : FuncId} {args : List Value} {v : Value} (e : runsN l n f args = some v) (ha : plains args = true) {w : World} (hG : Try.prog.globals.size ≤ w.heap.size) (hb : TabB w) :
  Calls Try.prog f ⟨args⟩ w fun e w' => e = .returned v ∧ Below w.heap.size w w' :=
 gives_calls natFits (knownN_ok hl) e ha glob_few hG hb
end Ev
end Go.Proofs.Ytnlhjcfpfapafaa
namespace Go.Proofs.Ytnlhjcfpfapafaa
open Go.RowKit
def BadF (x : Bool × ByteArray × ByteArray) : Prop := ∀ q : Rat, Fit q → ¬ (x.1 = Big.ng q ∧ x.2.1 = bst (Big.nu q) ∧ x.2.2 = bst (Big.de q))
end Go.Proofs.Ytnlhjcfpfapafaa
namespace Go.Proofs.Ytnlhjcfpfapafaa
open Go Go.RowKit
namespace Ev
inductive Qe where
 | v (i : Nat)
 | c (s : Bool) (n d : Nat)
 | neg (a : Qe)
 | add (a b : Qe)
 | sub (a b : Qe)
 | mul (a b : Qe)
 | quo (a b : Qe)
def Qe.ev (ρ : Nat → Rat) : Qe → Rat
 | .v i => ρ i
 | .c s n d => mkRat (Big.sI s n) d
 | .neg a => -(a.ev ρ)
 | .add a b => a.ev ρ + b.ev ρ
 | .sub a b => a.ev ρ - b.ev ρ
 | .mul a b => a.ev ρ * b.ev ρ
 | .quo a b => a.ev ρ / b.ev ρ
noncomputable def beqB (a b : Bool) : Bool := Bool.rec (motive := fun _ => Bool) (Bool.rec (motive := fun _ => Bool) true false b) b a
theorem beqB_ok {a b : Bool} (h : beqB a b = true) : a = b := by cases a <;> cases b <;> first | rfl | (exact absurd h (by simp [beqB]))
noncomputable def Qe.beq : Qe → Qe → Bool := Qe.rec (motive := fun _ => Qe → Bool)
 (fun i y => match y with | .v j => Nat.beq i j | _ => false)
 (fun s n d y => match y with | .c s' n' d' => beqB s s' && (Nat.beq n n' && Nat.beq d d') | _ => false)
 (fun _ ih y => match y with | .neg b => ih b | _ => false)
 (fun _ _ iha ihb y => match y with | .add a b => iha a && ihb b | _ => false)
 (fun _ _ iha ihb y => match y with | .sub a b => iha a && ihb b | _ => false)
 (fun _ _ iha ihb y => match y with | .mul a b => iha a && ihb b | _ => false)
 (fun _ _ iha ihb y => match y with | .quo a b => iha a && ihb b | _ => false)
theorem Qe.beq_ok : ∀ (a b : Qe), a.beq b = true → a = b := by
 intro a
 induction a with
 | v i =>
  intro b h
  cases b with
  | v j => rw [Nat.eq_of_beq_eq_true (show Nat.beq i j = true from h)]
  | _ => exact absurd (show false = true from h) (by simp)
 | c s n d =>
  intro b h
  cases b with
  | c s' n' d' =>
   have h' : (beqB s s' && (Nat.beq n n' && Nat.beq d d')) = true := h
   simp only [Bool.and_eq_true] at h'
   rw [beqB_ok h'.1, Nat.eq_of_beq_eq_true h'.2.1, Nat.eq_of_beq_eq_true h'.2.2]
  | _ => exact absurd (show false = true from h) (by simp)
 | neg a ih =>
  intro b h
  cases b with
  | neg b => rw [ih b h]
  | _ => exact absurd (show false = true from h) (by simp)
 | add a b iha ihb =>
  intro y h
  cases y with
  | add a' b' =>
   have h' : (a.beq a' && b.beq b') = true := h
   simp only [Bool.and_eq_true] at h'
   rw [iha _ h'.1, ihb _ h'.2]
  | _ => exact absurd (show false = true from h) (by simp)
 | sub a b iha ihb =>
  intro y h
  cases y with
  | sub a' b' =>
   have h' : (a.beq a' && b.beq b') = true := h
   simp only [Bool.and_eq_true] at h'
   rw [iha _ h'.1, ihb _ h'.2]
  | _ => exact absurd (show false = true from h) (by simp)
 | mul a b iha ihb =>
  intro y h
  cases y with
  | mul a' b' =>
   have h' : (a.beq a' && b.beq b') = true := h
   simp only [Bool.and_eq_true] at h'
   rw [iha _ h'.1, ihb _ h'.2]
  | _ => exact absurd (show false = true from h) (by simp)
 | quo a b iha ihb =>
  intro y h
  cases y with
  | quo a' b' =>
   have h' : (a.beq a' && b.beq b') = true := h
   simp only [Bool.and_eq_true] at h'
   rw [iha _ h'.1, ihb _ h'.2]
  | _ => exact absurd (show false = true from h) (by simp)
noncomputable def Qe.bnd : Qe → Nat := Qe.rec (motive := fun _ => Nat)
 (fun i => cond (Nat.ble 100 i) 4096 64)
 (fun _ n d => Nat.add (Nat.add (Nat.div (Nat.log2 n) 64) (Nat.div (Nat.log2 d) 64)) 1)
 (fun _ a => a)
 (fun _ _ a b => Nat.succ (Nat.add a b))
 (fun _ _ a b => Nat.succ (Nat.add a b))
 (fun _ _ a b => Nat.add a b)
 (fun _ _ a b => Nat.add a b)
theorem Qe.bnd_pos : ∀ e : Qe, 1 ≤ e.bnd := by
 intro e
 induction e with
 | v i => show 1 ≤ cond (Nat.ble 100 i) 4096 64; cases Nat.ble 100 i <;> decide
 | c s n d => exact Nat.succ_le_succ (Nat.zero_le _)
 | neg a ih => exact ih
 | add a b _ _ => exact Nat.succ_le_succ (Nat.zero_le _)
 | sub a b _ _ => exact Nat.succ_le_succ (Nat.zero_le _)
 | mul a b iha _ => exact Nat.le_trans iha (Nat.le_add_right _ _)
 | quo a b iha _ => exact Nat.le_trans iha (Nat.le_add_right _ _)
theorem sm_zero {k : Nat} (hk : 1 ≤ k) : Sm k 0 := ⟨sz_zero.up (Nat.zero_le _), sz_one.up hk⟩
theorem sz_add1 {k m n : Nat} (h : Sz k n) (i : Sz k m) : Sz (k + 1) (n + m) := by
 have a := h.out
 have b := i.out
 refine ⟨?_⟩
 rw [Nat.pow_succ]
 have h2 : Big.M64 ^ k * 2 ≤ Big.M64 ^ k * Big.M64 := Nat.mul_le_mul_left _ (by have := M64_gt; omega)
 generalize Big.M64 ^ k = x at *
 omega
theorem sm_add1 {k j : Nat} {q r : Rat} (h : Sm k q) (i : Sm j r) : Sm (k + j + 1) (q + r) := by
 obtain ⟨_, h2, h3⟩ := Big.add_parts q r _ _ _ _ rfl rfl rfl rfl
 refine ⟨?_, ?_⟩
 ·rw [h2]
  refine Sz.le ?_ (Nat.div_le_self _ _)
  refine Sz.le ?_ (abs_sum_le _ _ _ _)
  exact sz_add1 (h.nu.mul (i.de.le (Nat.div_le_self _ _))) ((i.nu.mul (h.de.le (Nat.div_le_self _ _))).up (by omega))
 ·rw [h3]
  exact ((h.de.le (Nat.div_le_self _ _)).mul (i.de.le (Nat.div_le_self _ _))).up (by omega)
theorem sm_sub {k j : Nat} {q r : Rat} (h : Sm k q) (i : Sm j r) : Sm (k + j + 1) (q - r) := by
 rw [Rat.sub_eq_add_neg]
 exact sm_add1 h i.neg
theorem Qe.sm {ρ : Nat → Rat} (hρ : ∀ i, i < 100 → Fit (ρ i)) (hβ : ∀ i, Sm 4096 (ρ i)) : ∀ e : Qe, Sm e.bnd (e.ev ρ) := by
 intro e
 induction e with
 | v i =>
  show Sm (cond (Nat.ble 100 i) 4096 64) (ρ i)
  cases hi : Nat.ble 100 i with
  | true => exact hβ i
  | false => exact (hρ i (by
     rcases Nat.lt_or_ge i 100 with h | h
     ·exact h
     ·rw [Nat.ble_eq_true_of_le h] at hi; cases hi)).sm
 | c s n d =>
  show Sm (Nat.div (Nat.log2 n) 64 + Nat.div (Nat.log2 d) 64 + 1) (mkRat (Big.sI s n) d)
  have e1 : Nat.div (Nat.log2 n) 64 = Nat.log2 n / 64 := rfl
  have e2 : Nat.div (Nat.log2 d) 64 = Nat.log2 d / 64 := rfl
  rw [e1, e2]
  rcases Nat.eq_zero_or_pos d with h0 | h0
  ·subst h0
   rw [Rat.mkRat_zero]
   exact sm_zero (by omega)
  ·obtain ⟨_, p2, p3⟩ := Big.of_parts s n d h0
   refine ⟨?_, ?_⟩
   ·rw [p2]; exact (sz_log (k := Nat.log2 n / 64 + Nat.log2 d / 64 + 1) (by omega)).le (Nat.div_le_self _ _)
   ·rw [p3]; exact (sz_log (k := Nat.log2 n / 64 + Nat.log2 d / 64 + 1) (by omega)).le (Nat.div_le_self _ _)
 | neg a ih => exact ih.neg
 | add a b iha ihb => exact sm_add1 iha ihb
 | sub a b iha ihb => exact sm_sub iha ihb
 | mul a b iha ihb => exact iha.mul ihb
 | quo a b iha ihb =>
  show Sm (a.bnd + b.bnd) (a.ev ρ / b.ev ρ)
  by_cases h0 : Big.nu (b.ev ρ) = 0
  ·rw [Big.nu_zero.1 h0, Rat.div_def, Rat.inv_zero, Rat.mul_zero]
   exact sm_zero (Nat.le_trans a.bnd_pos (Nat.le_add_right _ _))
  ·rw [Rat.div_def]
   exact iha.mul (ihb.inv h0)
noncomputable def symHid : TypeId → Bool := natSig.hid 0
theorem symHid_nat {b : Nat} {t : TypeId} (h : natSig.hid b t = true) : symHid t = true := h
class Fz where
 t : TypeId → Bool
 is : Nat → World → Value → Prop
 one : ∀ i w v, is i w v → isOne v = true
 lo : Nat
 stable : ∀ i w w' v, is i w v → (∀ (b : Nat) (c : Array Value) (ty : TypeId) (z : Nat × Nat), w.heap[b]? = some (.cells c ty z) → (b < lo ∨ t ty = true ∨ symHid ty = true) → w'.heap[b]? = some (.cells c ty z)) → is i w' v
instance (priority := low) fz0 : Fz := ⟨fun _ => false, fun _ _ _ => False, fun _ _ _ h => h.elim, 0, fun _ _ _ _ h _ => h.elim⟩
structure Env where
 q : Nat → Rat
 raw : Nat → Bool × ByteArray × ByteArray
 fit : ∀ i, i < 100 → Fit (q i)
 big : ∀ i, Sm 4096 (q i)
 bad : ∀ i, BadF (raw i)
 lo : Nat
 lst : Nat → List Rat
 nat : Nat → Nat
 nat0 : nat 0 = 0
 [fz : Fz]
inductive Le where
 | nil
 | v (c : Nat)
 | snoc (l : Le) (e : Qe)
 | take (l : Le) (a : Nat) (s : Int)
def Le.ev (ρ : Env) : Le → List Rat
 | .nil => []
 | .v c => ρ.lst c
 | .snoc l e => l.ev ρ ++ [e.ev ρ.q]
 | .take l a s => (l.ev ρ).take ((ρ.nat a : Int) + s).toNat
inductive Sy where
 | n (n : Nat)
 | ng (e : Qe)
 | nu (e : Qe)
 | de (e : Qe)
 | fn (e : Qe)
 | fd (e : Qe)
 | rg (i : Nat)
 | rn (i : Nat)
 | rd (i : Nat)
 | it (e : Qe)
 | is (e : Qe)
 | lg (l : List Nat)
 | ix (a : Nat) (s : Int)
 | iz (k : Nat) (e : Qe)
 | ls (K c : Nat)
 | lp (K c a : Nat) (s : Int)
 | ol (K : Nat) (l : Le) (z : Option (Nat × Int))
 | pl (K a : Nat) (s : Int)
 | wl (a : Nat) (s : Int)
 | lr (c a : Nat)
 | lq (c a x : Nat) (s : Int)
 | rl (c : Nat)
 | rp (c f a : Nat) (s : Int)
 | oq (i : Nat)
def lenC (ρ : Env) (c : Nat) : Int := match c % 4 with
 | 0 => ((szN (Big.nu (ρ.q (c / 4))) : Nat) : Int)
 | 1 => ((szN (Big.de (ρ.q (c / 4))) : Nat) : Int)
 | 2 => (((ρ.raw (c / 4)).2.1.size : Nat) : Int)
 | _ => (((ρ.raw (c / 4)).2.2.size : Nat) : Int)
def lenSum (ρ : Env) : List Nat → Int
 | [] => 0
 | c :: l => match l with
  | [] => lenC ρ c
  | _ => IntKind.i64.wrap (lenSum ρ l + lenC ρ c)
structure I16 (q : Rat) : Prop where
 lo : -32768 ≤ q.num
 hi : q.num ≤ 32767
 den : q.den = 1
def ikOf : Nat → IntKind
 | 0 => .i64
 | _ => .i8
def izIs (k : Nat) (q : Rat) (v : Value) : Prop := v = .int (ikOf k) q.num ∧ q.den = 1 ∧ -9223372036854775808 ≤ q.num ∧ q.num ≤ 9223372036854775807
def elIs (K : Nat) (w : World) (q : Rat) (l : List Value) : Prop := match K with
 | 0 => l = [.bool (Big.ng q), .string (bst (Big.nu q)), .string (bst (Big.de q))]
 | 1 => ∃ a b, l = [.bool (Big.ng q), a, b] ∧ NatIn w a (Big.nu q) ∧ NatIn w b (Big.de q)
 | 2 => ∃ v, l = [v] ∧ izIs 0 q v
 | 3 => ∃ v, l = [v] ∧ izIs 1 q v
 | _ => False
def elSz : Nat → Nat
 | 0 => 3
 | 1 => 3
 | _ => 1
def RowAt (K : Nat) (w : World) (cl : List Value) (off : Nat) (qs : List Rat) : Prop := ∀ (i : Nat) (q : Rat), qs[i]? = some q → elIs K w q ((cl.drop (off + i * elSz K)).take (elSz K))
abbrev Kept (hid : Nat → TypeId → Bool) (w w' : World) : Prop := ∀ (b : Nat) (c : Array Value) (t : TypeId) (z : Nat × Nat), w.heap[b]? = some (.cells c t z) → hid b t = true → w'.heap[b]? = some (.cells c t z)
theorem elIs.stable {K : Nat} {w w' : World} {q : Rat} {l : List Value} (h : elIs K w q l) (hk : Kept (fun _ => symHid) w w') : elIs K w' q l := by
 unfold elIs at h ⊢
 split at h
 ·exact h
 ·obtain ⟨a, b, h1, h2, h3⟩ := h
  have hn := fun (b : Nat) (c : Array Value) (t : TypeId) (z : Nat × Nat) h1 (h2 : natSig.hid b t = true) => hk b c t z h1 (symHid_nat h2)
  exact ⟨a, b, h1, nat_stable h2 hn, nat_stable h3 hn⟩
 ·exact h
 ·exact h
 ·exact h.elim
theorem RowAt.stable {K off : Nat} {w w' : World} {cl : List Value} {qs : List Rat} (h : RowAt K w cl off qs) (hk : Kept (fun _ => symHid) w w') : RowAt K w' cl off qs := fun i q hq => (h i q hq).stable hk
def lsIs (ρ : Env) (K c : Nat) (w : World) (v : Value) : Prop := ∃ a m, v = .slice a (ρ.lst c).length m ∧ (ρ.lst c).length ≤ m ∧ (ρ.lst c ≠ [] → ∃ b off cl t z, a = some ⟨b, off, none⟩ ∧ b < ρ.lo ∧ w.heap[b]? = some (.cells ⟨cl⟩ t z) ∧ RowAt K w cl off (ρ.lst c))
def lpIs (ρ : Env) (K c a : Nat) (s : Int) (w : World) (v : Value) : Prop := ∃ b off cl t z i, v = .pointer (some ⟨b, off + i * elSz K, none⟩) ∧ ((i : Nat) : Int) = ρ.nat a + s ∧ i < (ρ.lst c).length ∧ b < ρ.lo ∧ w.heap[b]? = some (.cells ⟨cl⟩ t z) ∧ RowAt K w cl off (ρ.lst c)
def rawC (x : Bool × ByteArray × ByteArray) : List Value := [.bool x.1, .string x.2.1, .string x.2.2]
def RawAt (ρ : Env) (c a : Nat) (cl : List Value) (off : Nat) : Prop := (ρ.lst c).length < ρ.nat a → (cl.drop (off + (ρ.lst c).length * 3)).take 3 = rawC (ρ.raw c)
def lrIs (ρ : Env) (c a : Nat) (w : World) (v : Value) : Prop := ∃ ad m, v = .slice ad (ρ.nat a) m ∧ ρ.nat a ≤ m ∧ (ρ.lst c).length ≤ ρ.nat a ∧ (0 < ρ.nat a → ∃ b off cl t z, ad = some ⟨b, off, none⟩ ∧ b < ρ.lo ∧ w.heap[b]? = some (.cells ⟨cl⟩ t z) ∧ RowAt 0 w cl off (ρ.lst c) ∧ RawAt ρ c a cl off)
def lqIs (ρ : Env) (c a x : Nat) (s : Int) (w : World) (v : Value) : Prop := ∃ b off cl t z i, v = .pointer (some ⟨b, off + i * 3, none⟩) ∧ ((i : Nat) : Int) = ρ.nat x + s ∧ i < ρ.nat a ∧ b < ρ.lo ∧ w.heap[b]? = some (.cells ⟨cl⟩ t z) ∧ RowAt 0 w cl off (ρ.lst c) ∧ RawAt ρ c a cl off
def frC (q : Rat) : List Value := [.bool (Big.ng q), .string (bst (Big.nu q)), .string (bst (Big.de q))]
def RowsAt (cl : List Value) (off : Nat) (qs rs : List Rat) : Prop := rs.length = qs.length ∧ ∀ (i : Nat) (q p : Rat), qs[i]? = some q → rs[i]? = some p → (cl.drop (off + i * 6)).take 6 = frC q ++ frC p
def rlIs (ρ : Env) (c : Nat) (w : World) (v : Value) : Prop := ∃ a m, v = .slice a (ρ.lst c).length m ∧ (ρ.lst c).length ≤ m ∧ (ρ.lst c ≠ [] → ∃ b off cl t z, a = some ⟨b, off, none⟩ ∧ (b < ρ.lo ∨ ρ.fz.t t = true) ∧ w.heap[b]? = some (.cells ⟨cl⟩ t z) ∧ RowsAt cl off (ρ.lst c) (ρ.lst (c + 1)))
def rpIs (ρ : Env) (c f a : Nat) (s : Int) (w : World) (v : Value) : Prop := f < 2 ∧ ∃ b off cl t z i, v = .pointer (some ⟨b, off + i * 6 + f * 3, none⟩) ∧ ((i : Nat) : Int) = ρ.nat a + s ∧ i < (ρ.lst c).length ∧ (b < ρ.lo ∨ ρ.fz.t t = true) ∧ w.heap[b]? = some (.cells ⟨cl⟩ t z) ∧ RowsAt cl off (ρ.lst c) (ρ.lst (c + 1))
def tyK : Nat → TypeId
 | 0 => 27
 | 1 => 70
 | 2 => 2
 | 3 => 4294967295
 | _ => 4294967295
def zeroK : Nat → List Value
 | 0 => [.bool false, .string ⟨#[]⟩, .string ⟨#[]⟩]
 | 1 => [.bool false, .slice none 0 0, .slice none 0 0]
 | 2 => [.int .i64 0]
 | 3 => [.int .i8 0]
 | _ => [.pointer none]
def olIs (ρ : Env) (K : Nat) (l : Le) (z : Option (Nat × Int)) (w : World) (v : Value) : Prop := ∃ a n m, v = .slice a n m ∧ n ≤ m ∧ (l.ev ρ).length ≤ n ∧ (match z with | none => n = (l.ev ρ).length | some p => (n : Int) = ρ.nat p.1 + p.2) ∧ (a = none → m = 0) ∧
 ∀ ad, a = some ad → ∃ cl, ad = ⟨ad.block, 0, none⟩ ∧ w.heap[ad.block]? = some (.cells ⟨cl⟩ (tyK K) (0, 0)) ∧ cl.length = m * elSz K ∧ RowAt K w cl 0 (l.ev ρ) ∧ ∀ i, (l.ev ρ).length ≤ i → i < n → (cl.drop (i * elSz K)).take (elSz K) = zeroK K
def Sy.holds (ρ : Env) : Sy → World → Value → Prop
 | .n k, w, v => NatIn w v k
 | .ng e, _, v => v = .bool (Big.ng (e.ev ρ.q))
 | .nu e, w, v => NatIn w v (Big.nu (e.ev ρ.q))
 | .de e, w, v => NatIn w v (Big.de (e.ev ρ.q))
 | .fn e, _, v => v = .string (bst (Big.nu (e.ev ρ.q)))
 | .fd e, _, v => v = .string (bst (Big.de (e.ev ρ.q)))
 | .rg i, _, v => v = .bool (ρ.raw i).1
 | .rn i, _, v => v = .string (ρ.raw i).2.1
 | .rd i, _, v => v = .string (ρ.raw i).2.2
 | .it e, _, v => v = .int .i64 (e.ev ρ.q).num
 | .is e, _, v => v = .int .i16 (e.ev ρ.q).num ∧ I16 (e.ev ρ.q)
 | .lg l, _, v => v = .int .i64 (lenSum ρ l)
 | .ix a s, _, v => v = .int .i64 (ρ.nat a + s)
 | .iz k e, _, v => izIs k (e.ev ρ.q) v
 | .ls K c, w, v => lsIs ρ K c w v
 | .lp K c a s, w, v => lpIs ρ K c a s w v
 | .ol _ _ _, _, _ => False
 | .pl _ _ _, _, _ => False
 | .wl a s, _, v => ∃ b n m, v = .slice b n m ∧ ((n : Nat) : Int) = ρ.nat a + s
 | .lr c a, w, v => lrIs ρ c a w v
 | .lq c a x s, w, v => lqIs ρ c a x s w v
 | .rl c, w, v => rlIs ρ c w v
 | .rp c f a s, w, v => rpIs ρ c f a s w v
 | .oq i, w, v => ρ.fz.is i w v ∧ ρ.fz.lo ≤ ρ.lo
theorem Sy.one {ρ : Env} {f : Sy} {w : World} {v : Value} (h : f.holds ρ w v) : isOne v = true := by
 cases f <;> first | exact nat_one h | (rw [show v = _ from h]; rfl) | (rw [h.1]; rfl) | skip
 ·obtain ⟨a, m, rfl, _⟩ := h; rfl
 ·obtain ⟨b, off, cl, t, z, i, rfl, _⟩ := h; rfl
 ·exact h.elim
 ·exact h.elim
 ·obtain ⟨b, n, m, rfl, _⟩ := h; rfl
 ·obtain ⟨a, m, rfl, _⟩ := h; rfl
 ·obtain ⟨b, off, cl, t, z, i, rfl, _⟩ := h; rfl
 ·obtain ⟨a, m, rfl, _⟩ := h; rfl
 ·obtain ⟨_, b, off, cl, t, z, i, rfl, _⟩ := h; rfl
 ·exact ρ.fz.one _ _ _ h.1
noncomputable def symSig (ρ : Env) : Sig Sy where
 holds := Sy.holds ρ
 hid b t := Nat.blt b ρ.lo || (ρ.fz.t t || symHid t)
 hn _ t := ρ.fz.t t || symHid t
 lo := ρ.lo
 new := fun _ b t hb h => by
  rw [h, Bool.or_false]
  cases hq : Nat.blt b ρ.lo with
  | false => rfl
  | true =>
   have : b < ρ.lo := Nat.le_of_ble_eq_true hq
   omega
 G := natSig.G
 base := natSig.base
 baseS := natSig.baseS
 ow f w v := match f with
  | .ol K l z => olIs ρ K l z w v
  | _ => False
 at_ f off := match f with
  | .pl K a s => ∃ i : Nat, off = i * elSz K ∧ (i : Int) = ρ.nat a + s
  | _ => False
 owS := fun f _ _ v h hk => by
  cases f <;> first | exact h.elim | skip
  obtain ⟨a, n, m, h1, h2, h3, h4, h5, h6⟩ := h
  refine ⟨a, n, m, h1, h2, h3, h4, h5, fun ad hd => ?_⟩
  obtain ⟨cl, g1, g2, g3, g4, g5⟩ := h6 ad hd
  exact ⟨cl, g1, hk _ _ _ _ g2 (.inr (by rw [h1, hd]; rfl)), g3, g4.stable fun b c t z hb hh => hk b c t z hb (.inl (by rw [show symHid t = true from hh, Bool.or_true, Bool.or_true])), g5⟩
 stable := fun f _ _ _ h hk => by
  have hn := fun (b : Nat) (c : Array Value) (t : TypeId) (z : Nat × Nat) h1 (h2 : natSig.hid b t = true) => hk b c t z h1 (by rw [symHid_nat (b := b) h2, Bool.or_true, Bool.or_true])
  have hl := fun (b : Nat) (c : Array Value) (t : TypeId) (z : Nat × Nat) h1 (h2 : Nat.blt b ρ.lo = true) => hk b c t z h1 (by rw [h2, Bool.true_or])
  have hs := fun (b : Nat) (c : Array Value) (t : TypeId) (z : Nat × Nat) h1 (h2 : symHid t = true) => hk b c t z h1 (by rw [h2, Bool.or_true, Bool.or_true])
  cases f <;> first | exact nat_stable h hn | exact h | skip
  ·obtain ⟨a, m, h1, h2, h3⟩ := h
   exact ⟨a, m, h1, h2, fun hp => by
    obtain ⟨b, off, cl, t, z, h4, h5, h6, h7⟩ := h3 hp
    exact ⟨b, off, cl, t, z, h4, h5, hl b _ _ _ h6 (Nat.ble_eq_true_of_le h5), h7.stable hs⟩⟩
  ·obtain ⟨b, off, cl, t, z, i, h1, h2, h3, h4, h5, h6⟩ := h
   exact ⟨b, off, cl, t, z, i, h1, h2, h3, h4, hl b _ _ _ h5 (Nat.ble_eq_true_of_le h4), h6.stable hs⟩
  ·obtain ⟨a, m, h1, h2, h8, h3⟩ := h
   exact ⟨a, m, h1, h2, h8, fun hp => by
    obtain ⟨b, off, cl, t, z, h4, h5, h6, h7, h9⟩ := h3 hp
    exact ⟨b, off, cl, t, z, h4, h5, hl b _ _ _ h6 (Nat.ble_eq_true_of_le h5), h7.stable hs, h9⟩⟩
  ·obtain ⟨b, off, cl, t, z, i, h1, h2, h3, h4, h5, h6, h7⟩ := h
   exact ⟨b, off, cl, t, z, i, h1, h2, h3, h4, hl b _ _ _ h5 (Nat.ble_eq_true_of_le h4), h6.stable hs, h7⟩
  ·obtain ⟨a, m, h1, h2, h3⟩ := h
   exact ⟨a, m, h1, h2, fun hp => by
    obtain ⟨b, off, cl, t, z, h4, h5, h6, h7⟩ := h3 hp
    exact ⟨b, off, cl, t, z, h4, h5, hk b _ _ _ h6 (by
     rcases h5 with h5 | h5
     ·rw [show Nat.blt b ρ.lo = true from Nat.ble_eq_true_of_le h5, Bool.true_or]
     ·rw [h5, Bool.true_or, Bool.or_true]), h7⟩⟩
  ·obtain ⟨h0, b, off, cl, t, z, i, h1, h2, h3, h4, h5, h6⟩ := h
   exact ⟨h0, b, off, cl, t, z, i, h1, h2, h3, h4, hk b _ _ _ h5 (by
    rcases h4 with h5 | h5
    ·rw [show Nat.blt b ρ.lo = true from Nat.ble_eq_true_of_le h5, Bool.true_or]
    ·rw [h5, Bool.true_or, Bool.or_true]), h6⟩
  ·exact ⟨ρ.fz.stable _ _ _ _ h.1 fun b c t z h1 h2 => hk b c t z h1 (by
    rcases h2 with h2 | h2 | h2
    ·rw [show Nat.blt b ρ.lo = true from Nat.ble_eq_true_of_le (Nat.lt_of_lt_of_le h2 h.2), Bool.true_or]
    ·rw [h2, Bool.true_or, Bool.or_true]
    ·rw [h2, Bool.or_true, Bool.or_true]), h.2⟩
abbrev Pl (ρ : Env) : Prop := ρ.fz.t = fun _ => false
theorem new_pl {ρ : Env} (hf : Pl ρ) {b : Nat} {t : TypeId} (h : ρ.lo ≤ b) (hs : symHid t = false) : (symSig ρ).hid b t = false :=
 (symSig ρ).new 0 b t h (by show (ρ.fz.t t || symHid t) = false; rw [hf, hs]; rfl)
theorem hn_of {ρ : Env} (hf : Pl ρ) : (fun (_ : Nat) => symHid) = (symSig ρ).hn := by
 funext n t
 show symHid t = (ρ.fz.t t || symHid t)
 rw [hf]; rfl
noncomputable def symLen : Sy → Option Nat
 | .n k => some (wordsN k)
 | _ => none
structure As where
 k : Nat
 a : Qe
 b : Qe
 t : Bool
def As.holds (ρ : Nat → Rat) (x : As) : Prop := match x.k with
 | 0 => x.t = true ↔ Fit (x.a.ev ρ)
 | 1 => x.t = true ↔ x.a.ev ρ = 0
 | 2 => x.t = true ↔ x.a.ev ρ = x.b.ev ρ
 | 5 => x.t = true → (x.b.ev ρ).num = (x.a.ev ρ).num.tmod 12
 | 8 => x.t = true → Big.nu (x.a.ev ρ) < 65535 ∧ Big.de (x.a.ev ρ) < 65535
 | 9 => x.t = true ↔ x.a.ev ρ < x.b.ev ρ
 | 6 => x.t = true → IntKind.i64.wrap ((x.a.ev ρ).num + (x.b.ev ρ).num) = ((Qe.add x.a x.b).ev ρ).num
 | _ => x.t = Big.ng (x.a.ev ρ)
def z0 : Qe := .v 0
noncomputable def ask (A : List As) (k : Nat) (a b : Qe) : Option Bool := List.rec (motive := fun _ => Option Bool) none
 (fun x _ ih => Bool.rec (motive := fun _ => Option Bool) ih (some x.t) (Nat.beq k x.k && (a.beq x.a && b.beq x.b))) A
theorem ask_ok {k : Nat} {a b : Qe} {t : Bool} : ∀ {A : List As}, ask A k a b = some t → ∃ x ∈ A, x.k = k ∧ x.a = a ∧ x.b = b ∧ x.t = t
 | [], h => by cases h
 | x :: A, h => by
  have h' : (Bool.rec (motive := fun _ => Option Bool) (ask A k a b) (some x.t) (Nat.beq k x.k && (a.beq x.a && b.beq x.b)) : Option Bool) = some t := h
  cases hb : (Nat.beq k x.k && (a.beq x.a && b.beq x.b)) with
  | false =>
   rw [hb] at h'
   obtain ⟨y, hy, r⟩ := ask_ok h'
   exact ⟨y, List.mem_cons_of_mem _ hy, r⟩
  | true =>
   rw [hb] at h'
   simp only [Bool.and_eq_true] at hb
   exact ⟨x, List.mem_cons_self, (Nat.eq_of_beq_eq_true hb.1).symm, (Qe.beq_ok _ _ hb.2.1).symm, (Qe.beq_ok _ _ hb.2.2).symm, Option.some.inj h'⟩
def AllH (ρ : Env) (A : List As) : Prop := ∀ x ∈ A, x.holds ρ.q
section
variable {ρ : Env} {A : List As} {a b : Qe} {t : Bool}
theorem ask_fit (hA : AllH ρ A) (h : ask A 0 a z0 = some t) : t = true ↔ Fit (a.ev ρ.q) := by
 obtain ⟨x, hx, h1, rfl, _, rfl⟩ := ask_ok h
 have := hA x hx
 unfold As.holds at this
 rw [h1] at this
 exact this
theorem ask_nought (hA : AllH ρ A) (h : ask A 1 a z0 = some t) : t = true ↔ a.ev ρ.q = 0 := by
 obtain ⟨x, hx, h1, rfl, _, rfl⟩ := ask_ok h
 have := hA x hx
 unfold As.holds at this
 rw [h1] at this
 exact this
theorem ask_same (hA : AllH ρ A) (h : ask A 2 a b = some t) : t = true ↔ a.ev ρ.q = b.ev ρ.q := by
 obtain ⟨x, hx, h1, rfl, rfl, rfl⟩ := ask_ok h
 have := hA x hx
 unfold As.holds at this
 rw [h1] at this
 exact this
theorem ask_below (hA : AllH ρ A) (h : ask A 3 a z0 = some t) : t = Big.ng (a.ev ρ.q) := by
 obtain ⟨x, hx, h1, rfl, _, rfl⟩ := ask_ok h
 have := hA x hx
 unfold As.holds at this
 rw [h1] at this
 exact this
end
noncomputable def fitC (n d : Nat) : Bool := Nat.ble (szN n) 512 && Nat.ble (szN d) 512
theorem fit_c {s : Bool} {n d : Nat} (h : fitC n d = true) : Fit (mkRat (Big.sI s n) d) := by
 simp only [fitC, Bool.and_eq_true] at h
 have h1 := Nat.le_of_ble_eq_true h.1
 have h2 := Nat.le_of_ble_eq_true h.2
 rcases Nat.eq_zero_or_pos d with h0 | h0
 ·subst h0
  rw [Rat.mkRat_zero]
  exact ⟨by decide, by decide⟩
 ·obtain ⟨_, p2, p3⟩ := Big.of_parts s n d h0
  exact ⟨by rw [p2]; exact Nat.le_trans (szN_mono (Nat.div_le_self _ _)) h1, by rw [p3]; exact Nat.le_trans (szN_mono (Nat.div_le_self _ _)) h2⟩
noncomputable def fitB (A : List As) (e : Qe) : Option Bool := match ask A 0 e z0 with
 | some t => some t
 | none => match e with
  | .v i => cond (Nat.ble 100 i) none (some true)
  | .c _ n d => cond (fitC n d) (some true) none
  | _ => none
theorem fitB_ok {ρ : Env} {A : List As} (hA : AllH ρ A) {e : Qe} {t : Bool} (h : fitB A e = some t) : t = true ↔ Fit (e.ev ρ.q) := by
 unfold fitB at h
 cases ha : ask A 0 e z0 with
 | some u => rw [ha] at h; cases h; exact ask_fit hA ha
 | none =>
  rw [ha] at h
  cases e with
  | v i =>
   simp only at h
   cases hi : Nat.ble 100 i with
   | true => rw [hi] at h; cases h
   | false =>
    rw [hi] at h; cases h
    exact ⟨fun _ => ρ.fit i (by
     rcases Nat.lt_or_ge i 100 with h | h
     ·exact h
     ·rw [Nat.ble_eq_true_of_le h] at hi; cases hi), fun _ => rfl⟩
  | c s n d =>
   simp only at h
   cases hc : fitC n d with
   | false => rw [hc] at h; cases h
   | true => rw [hc] at h; cases h; exact ⟨fun _ => fit_c hc, fun _ => rfl⟩
  | _ => cases h
noncomputable def okB (e : Qe) : Bool := Nat.ble e.bnd 10000000
theorem okB_sm {ρ : Env} {e : Qe} (_ : okB e = true) : Sm e.bnd (e.ev ρ.q) := Qe.sm ρ.fit ρ.big e
theorem okB_le {e : Qe} (h : okB e = true) : e.bnd ≤ 10000000 := Nat.le_of_ble_eq_true h
end Ev
end Go.Proofs.Ytnlhjcfpfapafaa
