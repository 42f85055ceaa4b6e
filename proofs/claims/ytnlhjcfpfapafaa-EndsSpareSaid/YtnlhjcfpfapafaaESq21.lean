/- Contracts. -/
import Derived.Test.YtnlhjcfpfapafaaESq19
import Derived.Test.YtnlhjcfpfapafaaESq20
namespace Go.Proofs.Ytnlhjcfpfapafaa
open Go Go.RowKit
namespace Ev
structure T3x where
 s : Bool
 n : Nat
 d : Nat
def T3x.q (t : T3x) : Rat := mkRat (Big.sI t.s t.n) t.d
noncomputable def T3x.good (t : T3x) : Bool := Nat.ble 1 t.d && (Nat.beq (Nat.gcd t.n t.d) 1 && ((!t.s || Nat.ble 1 t.n) && (small t.n && small t.d)))
theorem T3x.parts {t : T3x} (h : t.good = true) : Big.ng t.q = t.s ∧ Big.nu t.q = t.n ∧ Big.de t.q = t.d := by
 unfold T3x.good at h
 simp only [Bool.and_eq_true, Bool.or_eq_true, Bool.not_eq_true'] at h
 obtain ⟨h1, h2, h3, -⟩ := h
 have h1 := Nat.le_of_ble_eq_true h1
 refine Big.parts (N := Big.sI t.s t.n) (D := t.d) h1 (Nat.eq_of_beq_eq_true h2) (fun hs => ?_) (by omega) rfl rfl
 rcases h3 with h3 | h3
 ·rw [hs] at h3; cases h3
 ·exact Nat.le_of_ble_eq_true h3
theorem T3x.sm {t : T3x} (h : t.good = true) : Sm 1000 t.q := by
 obtain ⟨_, h2, h3⟩ := T3x.parts h
 unfold T3x.good at h
 simp only [Bool.and_eq_true] at h
 exact ⟨by rw [h2]; exact sz_small h.2.2.2.1, by rw [h3]; exact sz_small h.2.2.2.2⟩
noncomputable def t3V (v : Value) : M Nat T3x := match v with
 | .agg cs => match cs.toList with
  | [a, x, y] => match a with
   | .bool s => bind (natV x) fun n => bind (natV y) fun d => cond (T3x.good ⟨s, n, d⟩) (ret ⟨s, n, d⟩) fail
   | _ => fail
  | _ => fail
 | _ => fail
theorem loc_t3V (v : Value) : Loc (t3V v) := by
 unfold t3V
 (repeat' split) <;> first | exact loc_fail | exact loc_bind (loc_natV _) fun _ => loc_bind (loc_natV _) fun _ => loc_cond (loc_ret _) loc_fail
section
variable {h h' : Tr (Blk Nat)} {nx nx' : Nat} {R W : List Nat} {r : Ren} {w : World} {v v' : Value}
theorem t3V_ok {t : T3x} (e : t3V v h nx = .ok t h' nx' R W) (hv : VR r v v') (hM : Mod natSig r h.get w) : h' = h ∧ nx' = nx ∧ W = [] ∧ NumIn w v' t.q ∧ t.good = true := by
 unfold t3V at e
 cases v with
 | agg cs =>
  obtain ⟨l⟩ := cs
  simp only at e
  rcases l with _ | ⟨a, _ | ⟨x, _ | ⟨y, _ | ⟨z, l⟩⟩⟩⟩ <;> first | (cases (show (fail : M Nat T3x) h nx = _ from e); done) | skip
  cases a with
  | bool s =>
   cases hv with
   | same p => simp [plain] at p
   | agg ha =>
    cases ha with
    | cons a1 ha => cases ha with
     | cons a2 ha => cases ha with
      | cons a3 ha =>
       cases ha
       obtain rfl := a1.bool
       obtain ⟨n, h1, nx1, R1, W1, R2, W2, e1, e2, rfl, rfl⟩ := bind_ok (show (bind (natV x) (fun n => bind (natV y) fun d => cond (T3x.good (T3x.mk s n d)) (ret (T3x.mk s n d)) fail) : M Nat T3x) h nx = _ from e)
       obtain ⟨rfl, rfl, rfl, hn⟩ := natV_ok e1 a2 hM
       obtain ⟨d, h2, nx2, R3, W3, R4, W4, e3, e4, rfl, rfl⟩ := bind_ok e2
       obtain ⟨rfl, rfl, rfl, hd⟩ := natV_ok e3 a3 hM
       obtain ⟨hg, e5⟩ := cond_ok e4
       obtain ⟨rfl, rfl, rfl, rfl⟩ := ret_ok e5
       obtain ⟨p1, p2, p3⟩ := T3x.parts hg
       refine ⟨rfl, rfl, by simp, ⟨_, _, ?_, by rw [p2]; exact hn, by rw [p3]; exact hd⟩, hg⟩
       rw [p1]
  | _ => exact absurd (show (fail : M Nat T3x) h nx = _ from e) (by simp [fail])
 | _ => exact absurd (show (fail : M Nat T3x) h nx = _ from e) (by simp [fail])
noncomputable def newT (t : T3x) : M Nat Value := bind (newFact t.n) fun x => bind (newFact t.d) fun y => ret (.agg ⟨[.bool t.s, x, y]⟩)
theorem loc_newT (t : T3x) : Loc (newT t) := loc_bind (loc_newFact _) fun _ => loc_bind (loc_newFact _) fun _ => loc_ret _
theorem newT_ok {w' : World} {t : T3x} {q : Rat} (e : newT t h nx = .ok v h' nx' R W) (hM : Mod natSig r h.get w) (hN : New r nx nx') (hb : Below w.heap.size w w') (hq : NumIn w' v' q) (p : Big.ng q = t.s ∧ Big.nu q = t.n ∧ Big.de q = t.d) :
  ∃ r', VR r' v v' ∧ Ext natSig r w nx nx' W h'.get r' w' := by
 obtain ⟨a, b, rfl, ha, hb'⟩ := hq
 obtain ⟨p1, p2, p3⟩ := p
 rw [p2] at ha
 rw [p3] at hb'
 rw [p1]
 obtain ⟨i, h1, nx1, R1, W1, R2, W2, e1, e2, rfl, rfl⟩ := bind_ok e
 obtain ⟨i1, g1, nx3, R5, W5, R6, W6, e5, e6, rfl, rfl⟩ := bind_ok e1
 obtain ⟨rfl, rfl, rfl, rfl⟩ := ret_ok e6
 unfold fresh at e5
 cases e5
 obtain ⟨j, h2, nx2, R3, W3, R4, W4, e3, e4, rfl, rfl⟩ := bind_ok e2
 obtain ⟨rfl, rfl, rfl, rfl⟩ := ret_ok e4
 obtain ⟨j1, g2, nx4, R7, W7, R8, W8, e7, e8, rfl, rfl⟩ := bind_ok e3
 obtain ⟨rfl, rfl, rfl, rfl⟩ := ret_ok e8
 unfold fresh at e7
 cases e7
 obtain ⟨r1, hX, hr⟩ := ext_fact (S := natSig) (f := t.n) hM hb (hN.sub (Nat.le_refl _) (by omega)) ha (nat_one ha)
 have hX' := hX.congr (g' := (h.set nx (.fact t.n)).get) fun n => .inr (Tr.get_set _ _ _ _)
 have hN2 := New.after (hN.sub (lo' := nx) (hi' := nx + 1 + 1) (Nat.le_refl _) (by omega)) hX (by omega)
 obtain ⟨r2, hY, hs⟩ := ext_fact (S := natSig) (f := t.d) hX'.mod (Below.refl _ w') hN2 hb' (nat_one hb')
 refine ⟨r2, .agg (.cons (.same rfl) (.cons (.opq (hY.le.val _ _ hr) (nat_one ha)) (.cons (.opq hs (nat_one hb')) .nil))), ?_⟩
 have hZ := hX'.trans hY (by omega) (by omega)
 refine Ext.congr (by simpa using hZ) fun n => .inr ?_
 rw [Tr.get_set]
noncomputable def fracTx (N : Int) (D : Nat) : T3x := ⟨decide (N < 0), N.natAbs / Nat.gcd N.natAbs D, D / Nat.gcd N.natAbs D⟩
noncomputable def isT (N : Int) (D : Nat) (t : T3x) : Bool := t.good && (Nat.ble 1 D && decide (Big.sI t.s t.n * (D : Int) = N * (t.d : Int)))
theorem isT_ok {N : Int} {D : Nat} {t : T3x} (h : isT N D t = true) {q : Rat} (hq : q = mkRat N D) : Big.ng q = t.s ∧ Big.nu q = t.n ∧ Big.de q = t.d := by
 unfold isT at h
 simp only [Bool.and_eq_true, decide_eq_true_eq] at h
 obtain ⟨h1, h2, h3⟩ := h
 have h2 := Nat.le_of_ble_eq_true h2
 unfold T3x.good at h1
 simp only [Bool.and_eq_true, Bool.or_eq_true, Bool.not_eq_true'] at h1
 obtain ⟨g1, g2, g3, -⟩ := h1
 refine Big.parts (Nat.le_of_ble_eq_true g1) (Nat.eq_of_beq_eq_true g2) (fun hs => ?_) (show D ≠ 0 by omega) h3 hq
 rcases g3 with g3 | g3
 ·rw [hs] at g3; cases g3
 ·exact Nat.le_of_ble_eq_true g3
noncomputable def outT (N : Int) (D : Nat) : M Nat Value := cond (isT N D (fracTx N D)) (newT (fracTx N D)) fail
theorem loc_outT (N : Int) (D : Nat) : Loc (outT N D) := loc_cond (loc_newT _) loc_fail
theorem goes_T {N : Int} {D : Nat} {q : Rat} {f : FuncId} {args' : List Value} (e : outT N D h nx = .ok v h' nx' R W) (hq : q = mkRat N D) (hM : Mod natSig r h.get w) (hN : New r nx nx') (c : Calls Try.prog f ⟨args'⟩ w (Num1 w q)) : Goes f args' r w nx nx' W h'.get v := by
 obtain ⟨hk, e1⟩ := cond_ok e
 refine c.mono ?_
 rintro en w' ⟨u, rfl, hu, hb⟩
 obtain ⟨r', hv, hX⟩ := newT_ok e1 hM hN hb hu (isT_ok hk hq)
 exact ⟨u, r', rfl, hv, hX⟩
noncomputable def tt2 (args : List Value) (k : T3x → T3x → M Nat Value) : Option (M Nat Value) := match args with
 | [a, b] => some (bind (t3V a) fun x => bind (t3V b) fun y => k x y)
 | _ => none
end
theorem tt2_ok {f : FuncId} {k : T3x → T3x → M Nat Value} (hl : ∀ x y, Loc (k x y)) (hk : ∀ x y (h : Tr (Blk Nat)) nx v h' nx' R W, k x y h nx = .ok v h' nx' R W → ∀ r w a b, NumIn w a x.q → NumIn w b y.q → x.good = true → y.good = true → Mod natSig r h.get w → New r nx nx' → Goes f [a, b] r w nx nx' W h'.get v) :
  SumF natSig Try.prog f (fun args => tt2 args k) := by
 intro args m e
 unfold tt2 at e
 rcases args with _ | ⟨a, _ | ⟨b, _ | ⟨c, l⟩⟩⟩ <;> simp only [reduceCtorEq, Option.some.injEq] at e
 subst e
 refine ⟨loc_bind (loc_t3V a) fun n => loc_bind (loc_t3V b) fun m => hl n m, ?_⟩
 intro h nx v h' nx' R W e r w args' ha hM hN
 cases ha with
 | cons ha1 ha2 =>
  cases ha2 with
  | cons hb1 hb2 =>
   cases hb2
   obtain ⟨n, h1, nx1, R1, W1, R2, W2, e1, e2, rfl, rfl⟩ := bind_ok e
   obtain ⟨rfl, rfl, rfl, hn, gn⟩ := t3V_ok e1 ha1 hM
   obtain ⟨m, h2, nx2, R3, W3, R4, W4, e3, e4, rfl, rfl⟩ := bind_ok e2
   obtain ⟨rfl, rfl, rfl, hm, gm⟩ := t3V_ok e3 hb1 hM
   simpa [Goes] using hk n m _ _ _ _ _ _ _ e4 r w _ _ hn hm gn gm hM hN
theorem T3x.pos {t : T3x} (h : t.good = true) : t.d ≠ 0 := by
 unfold T3x.good at h
 simp only [Bool.and_eq_true] at h
 have := Nat.le_of_ble_eq_true h.1
 omega
theorem tsum_mul : SumF natSig Try.prog 45 (fun args => tt2 args fun x y => outT (Big.sI x.s x.n * Big.sI y.s y.n) (x.d * y.d)) :=
 tt2_ok (fun _ _ => loc_outT _ _) fun x y h nx v h' nx' R W e r w a b ha hb gx gy hM hN =>
  goes_T e (by unfold T3x.q; rw [Rat.mkRat_mul_mkRat]) hM hN (exMul_any w a b _ _ 1000 ha hb (T3x.sm gx) (T3x.sm gy) (by omega))
theorem tsum_add : SumF natSig Try.prog 43 (fun args => tt2 args fun x y => outT (Big.sI x.s x.n * (y.d : Int) + Big.sI y.s y.n * (x.d : Int)) (x.d * y.d)) :=
 tt2_ok (fun _ _ => loc_outT _ _) fun x y h nx v h' nx' R W e r w a b ha hb gx gy hM hN =>
  goes_T e (by unfold T3x.q; rw [Rat.mkRat_add_mkRat _ _ (T3x.pos gx) (T3x.pos gy)]) hM hN (exAdd_any w a b _ _ 1000 ha hb (T3x.sm gx) (T3x.sm gy) (by omega))
theorem tsum_sub : SumF natSig Try.prog 39 (fun args => tt2 args fun x y => outT (Big.sI x.s x.n * (y.d : Int) + -Big.sI y.s y.n * (x.d : Int)) (x.d * y.d)) :=
 tt2_ok (fun _ _ => loc_outT _ _) fun x y h nx v h' nx' R W e r w a b ha hb gx gy hM hN =>
  goes_T e (by unfold T3x.q; rw [Rat.sub_eq_add_neg, Rat.neg_mkRat, Rat.mkRat_add_mkRat _ _ (T3x.pos gx) (T3x.pos gy)]) hM hN (exSub_any w a b _ _ 1000 ha hb (T3x.sm gx) (T3x.sm gy) (by omega))
theorem quoX_mk {s s' : Bool} {n d n' d' : Nat} (hd : d ≠ 0) (hd' : d' ≠ 0) (hn : n' ≠ 0) : mkRat (Big.sI s n) d / mkRat (Big.sI s' n') d' = mkRat (Big.sI s n * Big.sI s' d') (d * n') := by
 have h1 : mkRat (Big.sI s' n') d' * mkRat (Big.sI s' d') n' = 1 := by
  rw [Rat.mkRat_mul_mkRat]
  have : Big.sI s' n' * Big.sI s' d' = ((d' * n' : Nat) : Int) := by cases s' <;> simp [Big.sI] <;> grind
  rw [this]
  show mkRat ((d' * n' : Nat) : Int) (d' * n') = 1
  have h0 : d' * n' ≠ 0 := Nat.mul_ne_zero hd' hn
  rw [show (1 : Rat) = mkRat 1 1 by rfl, Rat.mkRat_eq_iff h0 (by decide)]
  simp
 have h2 : mkRat (Big.sI s' n') d' ≠ 0 := fun e => by rw [e, Rat.zero_mul] at h1; exact absurd h1 (by decide)
 rw [Rat.div_def, ← Rat.mkRat_mul_mkRat]
 congr 1
 have h3 : (mkRat (Big.sI s' n') d')⁻¹ * (mkRat (Big.sI s' n') d' * mkRat (Big.sI s' d') n') = (mkRat (Big.sI s' n') d')⁻¹ := by rw [h1, Rat.mul_one]
 rw [← h3, ← Rat.mul_assoc, Rat.inv_mul_cancel _ h2, Rat.one_mul]
theorem tsum_quo : SumF natSig Try.prog 69 (fun args => tt2 args fun x y => cond (Nat.ble 1 y.n) (outT (Big.sI x.s x.n * Big.sI y.s y.d) (x.d * y.n)) fail) :=
 tt2_ok (fun _ _ => loc_cond (loc_outT _ _) loc_fail) fun x y h nx v h' nx' R W e r w a b ha hb gx gy hM hN => by
  obtain ⟨hk, e1⟩ := cond_ok e
  have hn := Nat.le_of_ble_eq_true hk
  exact goes_T e1 (by unfold T3x.q; exact quoX_mk (T3x.pos gx) (T3x.pos gy) (by omega)) hM hN (exQuo_any w a b _ _ 1000 ha hb (T3x.sm gx) (T3x.sm gy) (by omega) (by rw [(T3x.parts gy).2.1]; omega))
noncomputable def leadB (l : List UInt8) : Bool := match l with
 | [] => true
 | c :: _ => !(Nat.beq c.toNat 0)
theorem leadB_ok {l : List UInt8} (h : leadB l = true) : Lead l := by
 cases l with
 | nil => simp [Lead]
 | cons c l =>
  intro e
  simp at e
  subst e
  cases h
theorem bst_of {s : ByteArray} (h : leadB s.data.toList = true) : bst (Big.bnum s.data.toList) = s := by
 obtain ⟨⟨l⟩⟩ := s
 show (⟨(btx (Big.bnum l)).toArray⟩ : ByteArray) = _
 rw [btx_bnum (leadB_ok h)]
noncomputable def readKx (s : Bool) (a b : ByteArray) : M Nat Value := cond (leadB a.data.toList && (leadB b.data.toList && (T3x.good ⟨s, Big.bnum a.data.toList, Big.bnum b.data.toList⟩ && (Nat.ble a.size 512 && Nat.ble b.size 512))))
 (bind (newT ⟨s, Big.bnum a.data.toList, Big.bnum b.data.toList⟩) fun v => ret (.tuple ⟨[v, .bool true]⟩)) fail
noncomputable def readable (s : Bool) (a b : ByteArray) : Bool := leadB a.data.toList && (leadB b.data.toList && (T3x.good ⟨s, Big.bnum a.data.toList, Big.bnum b.data.toList⟩ && (Nat.ble a.size 512 && Nat.ble b.size 512)))
noncomputable def readS (args : List Value) : Option (M Nat Value) := match args with
 | [v] => match v with
  | .agg cs => match cs.toList with
   | [x, y, z] => match x with
    | .bool s => match y with
     | .string a => match z with
      | .string b => cond (readable s a b) (some (readKx s a b)) none
      | _ => none
     | _ => none
    | _ => none
   | _ => none
  | _ => none
 | _ => none
theorem tsum_read : SumF natSig Try.prog 34 readS := by
 intro args m e
 unfold readS at e
 rcases args with _ | ⟨v, _ | ⟨c, l⟩⟩ <;> simp only [reduceCtorEq] at e
 cases v <;> simp only [reduceCtorEq] at e
 rename_i cs
 obtain ⟨l⟩ := cs
 simp only at e
 rcases l with _ | ⟨x, _ | ⟨y, _ | ⟨z, _ | ⟨u, l⟩⟩⟩⟩ <;> simp only [reduceCtorEq] at e
 cases x <;> simp only [reduceCtorEq] at e
 rename_i s
 cases y <;> simp only [reduceCtorEq] at e
 rename_i a
 cases z <;> simp only [reduceCtorEq] at e
 rename_i b
 cases hk : readable s a b with
 | false => rw [hk] at e; cases e
 | true =>
  rw [hk] at e
  cases e
  refine ⟨loc_cond (loc_bind (loc_newT _) fun _ => loc_ret _) loc_fail, ?_⟩
  intro h nx v h' nx' R W e r w args' ha hM hN
  obtain ⟨_, e1⟩ := cond_ok e
  obtain ⟨u, h1, nx1, R1, W1, R2, W2, e2, e3, rfl, rfl⟩ := bind_ok e1
  obtain ⟨rfl, rfl, rfl, rfl⟩ := ret_ok e3
  unfold readable at hk
  simp only [Bool.and_eq_true] at hk
  obtain ⟨k1, k2, k3, k4, k5⟩ := hk
  obtain ⟨p1, p2, p3⟩ := T3x.parts k3
  obtain rfl : args' = [.agg ⟨[.bool s, .string a, .string b]⟩] := by
   cases ha with
   | cons q1 q2 => cases q2; rw [q1.eq_of_plain2 rfl]
  have hf : Fit (T3x.q ⟨s, Big.bnum a.data.toList, Big.bnum b.data.toList⟩) := by
   refine ⟨?_, ?_⟩
   ·rw [p2]; show szN (Big.bnum a.data.toList) ≤ 512; have := congrArg ByteArray.size (bst_of k1); rw [bst_size] at this; have := Nat.le_of_ble_eq_true k4; omega
   ·rw [p3]; show szN (Big.bnum b.data.toList) ≤ 512; have := congrArg ByteArray.size (bst_of k2); rw [bst_size] at this; have := Nat.le_of_ble_eq_true k5; omega
  have hc := exRead_ok w _ hf
  rw [p1, p2, p3] at hc
  simp only at hc
  rw [bst_of k1, bst_of k2] at hc
  refine hc.mono ?_
  rintro en w' ⟨u', rfl, hu, hb⟩
  obtain ⟨r', hv, hX⟩ := newT_ok e2 hM hN hb hu ⟨p1, p2, p3⟩
  exact ⟨_, r', rfl, .tuple (.cons hv (.cons (.same rfl) .nil)), by simpa using hX⟩
section
variable {F : Type} {S : Sig F} {P : Program}
noncomputable def geAll (k : Nat) (l : List Nat) : Bool := List.rec (motive := fun _ => Bool) true (fun n _ ih => Bool.rec (motive := fun _ => Bool) false ih (Nat.ble k n)) l
theorem geAll_ok {k : Nat} : ∀ {l : List Nat}, geAll k l = true → ∀ n ∈ l, k ≤ n
 | [], _, n, hn => by simp at hn
 | m :: l, h, n, hn => by
  have h' : (Bool.rec (motive := fun _ => Bool) false (geAll k l) (Nat.ble k m) : Bool) = true := h
  cases hb : Nat.ble k m with
  | false => rw [hb] at h'; cases h'
  | true =>
   rw [hb] at h'
   rcases List.mem_cons.1 hn with rfl | hn
   ·exact Nat.le_of_ble_eq_true hb
   ·exact geAll_ok h' n hn
noncomputable def plains (l : List Value) : Bool := plainL plain2 l
theorem plains_ok {r : Ren} : ∀ {l : List Value}, plains l = true → VsR r l l
 | [], _ => .nil
 | v :: l, h => by
  have h' : (plain2 v && plains l) = true := h
  simp only [Bool.and_eq_true] at h'
  exact .cons (VR.same2 h'.1) (plains_ok h'.2)
theorem VsR_eq {r : Ren} : ∀ {l l' : List Value}, plains l = true → VsR r l l' → l' = l
 | [], _, _, h => by cases h; rfl
 | v :: l, _, hp, h => by
  have h' : (plain2 v && plains l) = true := hp
  simp only [Bool.and_eq_true] at h'
  cases h with
  | cons a b => rw [a.eq_of_plain2 h'.1, VsR_eq h'.2 b]
noncomputable def plain3 (v : Value) : Bool := match v with
 | .tuple cs => plains cs.toList
 | v => plain2 v
theorem same3 {r : Ren} {v : Value} (h : plain3 v = true) : VR r v v := by
 cases v with
 | tuple cs => cases cs; exact .tuple (plains_ok (by simpa [plain3] using h))
 | _ => exact VR.same2 h
theorem eq_of_plain3 {r : Ren} {v v' : Value} (h : VR r v v') (hp : plain3 v = true) : v' = v := by
 cases h with
 | tuple a => rw [VsR_eq (by simpa [plain3] using hp) a]
 | same p => rfl
 | ptr p => exact (VR.ptr p).eq_of_plain2 hp
 | slice p hc => exact (VR.slice p hc).eq_of_plain2 hp
 | slicex p hc h1 h2 => exact (VR.slicex p hc h1 h2).eq_of_plain2 hp
 | agg a => exact (VR.agg a).eq_of_plain2 hp
 | opq p o => exact (VR.opq p o).eq_of_plain2 hp
 | any p => exact (VR.any p).eq_of_plain2 hp
 | func a b => exact (VR.func a b).eq_of_plain2 hp
 | iface a => exact (VR.iface a).eq_of_plain2 hp
noncomputable def gives (nx : Nat) (m : M F Value) : Option Value := match m .nil nx with
 | .no => none
 | .ok a _ _ _ W => cond (plain3 a && geAll nx W) (some a) none
theorem gives_ok {nx : Nat} {m : M F Value} {v : Value} (e : gives nx m = some v) : ∃ h' nx' R W, m .nil nx = .ok v h' nx' R W ∧ plain3 v = true ∧ ∀ n ∈ W, nx ≤ n := by
 unfold gives at e
 cases hm : m .nil nx with
 | no => rw [hm] at e; cases e
 | ok a h' nx' R W =>
  rw [hm] at e
  simp only at e
  cases hc : (plain3 a && geAll nx W) with
  | false => rw [hc] at e; cases e
  | true =>
   rw [hc] at e
   simp only [cond_true, Option.some.injEq] at e
   subst e
   simp only [Bool.and_eq_true] at hc
   exact ⟨h', nx', R, W, rfl, hc.1, geAll_ok hc.2⟩
noncomputable def ren0 (G : Nat) : Ren := ⟨fun n => if n < G then some n else none, fun _ => none, fun _ => 0⟩
theorem mod0 {w : World} (hG : S.G ≤ w.heap.size) (hb : S.base w) (hlo : S.lo ≤ w.heap.size := by exact Nat.zero_le _) : Mod S (ren0 S.G) (fun _ => none) w := by
 refine ⟨fun n m b h1 h2 => ?_, fun n b h => ?_, fun n c t h => (by cases h), fun n f h => (by cases h), hb, fun n hn => if_pos hn, fun n b h hn => ?_, fun n c t h => (by cases h), hlo, fun n s h => (by cases h), fun n f h => (by cases h), fun n m x h => (by cases h)⟩
 ·unfold ren0 at h1 h2
  simp only at h1 h2
  split at h1 <;> split at h2 <;> first | (cases h1; cases h2; exact .inl rfl) | (cases h1; done) | (cases h2; done)
 ·unfold ren0 at h
  simp only at h
  split at h
  ·cases h; omega
  ·cases h
 ·rw [show (ren0 S.G).blk n = none from if_neg (by omega)] at h; cases h
theorem gives_calls {C : Cfg F} [HardLoc C] {sum : Sums F} {n nx : Nat} {f : FuncId} {args : List Value} {v : Value} (hF : Fits S P C) (hs : SumOK S P sum) (e : gives nx (call P C sum n f args) = some v) (ha : plains args = true) (hx : S.G ≤ nx) {w : World} (hG : S.G ≤ w.heap.size) (hb : S.base w) (hlo : S.lo ≤ w.heap.size := by exact Nat.zero_le _) (hJ : JmpAll S P C := by exact .none rfl) :
  Calls P f ⟨args⟩ w fun e w' => e = .returned v ∧ Below w.heap.size w w' := by
 obtain ⟨h', nx', R, W, hm, hp, hW⟩ := gives_ok e
 have hc := call_ok hF hs n hJ
 have hfr : Fr (.nil : Tr (Blk F)) nx := fun k _ => Tr.get_nil k
 have hrun := Run.self (hc.loc f args) hm hfr
 have hN : New (ren0 S.G) nx nx' := fun k h1 h2 => ⟨if_neg (by omega), rfl⟩
 have hg : (Tr.get (.nil : Tr (Blk F))) = fun _ => none := funext fun k => Tr.get_nil k
 refine (hc.run f args _ _ _ _ _ _ _ hrun (ren0 S.G) w args (plains_ok ha) (by rw [hg]; exact mod0 hG hb hlo) hN).mono ?_
 rintro en w' ⟨v', r', rfl, hv, hX⟩
 have hv' := eq_of_plain3 hv hp
 subst hv'
 refine ⟨rfl, hX.os, hX.tape, hX.output, hX.size, fun b hb' => ?_⟩
 have hbo : w.heap[b]? = some w.heap[b] := Array.getElem?_eq_getElem hb'
 rw [hbo]
 exact hX.keep b _ hbo fun k hk => by
  have := hW k hk
  show ¬ (if k < S.G then some k else none) = some b
  rw [if_neg (by omega)]
  simp
end
noncomputable def natList : List (Nat × (List Value → Option (M Nat Value))) := [
 (102, fun args => two args fun n m => newFact (Nat.add n m)),
 (103, fun args => two args fun n m => newFact (Nat.sub n m)),
 (70, fun args => two args fun n m => newFact (Nat.mul n m)),
 (74, fun args => two args fun n m => newFact (Nat.div n m)),
 (65, fun args => two args fun n m => newFact (Nat.gcd n m)),
 (94, fun args => two args fun n m => bind (newFact (Nat.div n m)) fun x => bind (newFact (Nat.mod n m)) fun y => ret (.tuple ⟨[x, y]⟩)),
 (71, fun args => two args fun n m => ret (.int .i64 (Big.cmpI n m))),
 (66, fun args => one args fun n => ret (.bool (decide (n = 1)))),
 (118, fun args => one args fun n => ret (.int .i64 ((szN n : Nat) : Int))),
 (101, fun args => one args fun n => ret (.string (bst n))),
 (86, fun args => match args with
  | [a] => match a with
   | .int k s => match s with
    | .ofNat n => cond (decide (k = .u64) && Nat.ble (Nat.succ n) 18446744073709551616) (some (newFact n)) none
    | _ => none
   | _ => none
  | _ => none),
 (64, fun args => match args with
  | [a] => match a with
   | .string s => cond (Nat.ble s.size 100000) (some (newFact (Big.bnum s.data.toList))) none
   | _ => none
  | _ => none)]
theorem natList_ok : ∀ x ∈ natList, SumF natSig Try.prog x.1 x.2 := by
 unfold natList
 intro x hx
 simp only [List.mem_cons, List.not_mem_nil, or_false] at hx
 rcases hx with rfl | rfl | rfl | rfl | rfl | rfl | rfl | rfl | rfl | hx
 ·exact sum_add
 ·exact sum_sub
 ·exact sum_mul
 ·exact sum_quo
 ·exact sum_gcd
 ·exact sum_quoRem
 ·exact sum_cmp
 ·exact sum_isOne
 ·exact sum_size
 rcases hx with rfl | hx
 ·exact sum_bytes
 rcases hx with rfl | rfl
 ·exact sum_of
 ·exact sum_fromBytes
noncomputable def numList : List (Nat × (List Value → Option (M Nat Value))) := natList ++ [
 (45, fun args => tt2 args fun x y => outT (Big.sI x.s x.n * Big.sI y.s y.n) (x.d * y.d)),
 (43, fun args => tt2 args fun x y => outT (Big.sI x.s x.n * (y.d : Int) + Big.sI y.s y.n * (x.d : Int)) (x.d * y.d)),
 (39, fun args => tt2 args fun x y => outT (Big.sI x.s x.n * (y.d : Int) + -Big.sI y.s y.n * (x.d : Int)) (x.d * y.d)),
 (69, fun args => tt2 args fun x y => cond (Nat.ble 1 y.n) (outT (Big.sI x.s x.n * Big.sI y.s y.d) (x.d * y.n)) fail),
 (34, readS)]
theorem numList_ok : ∀ x ∈ numList, SumF natSig Try.prog x.1 x.2 := by
 intro x hx
 unfold numList at hx
 rcases List.mem_append.1 hx with hx | hx
 ·exact natList_ok x hx
 ·simp only [List.mem_cons, List.not_mem_nil, or_false] at hx
  rcases hx with rfl | hx
  ·exact tsum_mul
  rcases hx with rfl | hx
  ·exact tsum_add
  rcases hx with rfl | hx
  ·exact tsum_sub
  rcases hx with rfl | hx
  ·exact tsum_quo
  subst hx
  exact tsum_read
noncomputable def numSums : Sums Nat := sumsOf (mkTab numList)
theorem numSums_ok : SumOK natSig Try.prog numSums := sumsOf_ok numList_ok
noncomputable def natSums : Sums Nat := sumsOf (mkTab natList)
theorem natSums_ok : SumOK natSig Try.prog natSums := sumsOf_ok natList_ok
noncomputable def runs (n : Nat) (f : FuncId) (args : List Value) : Option Value := gives 100000 (call Try.prog natCfg natSums n f args)
theorem glob_few : Try.prog.globals.size ≤ 100000 := by
 have h : Nat.ble Try.prog.globals.size 100000 = true := by kernel_rfl
 exact Nat.le_of_ble_eq_true h
noncomputable def eqL {α : Type} (f : α → α → Bool) (l : List α) : List α → Bool := List.rec (motive := fun _ => List α → Bool)
 (fun m => match m with | [] => true | _ :: _ => false) (fun a _ ih m => match m with | [] => false | b :: m => f a b && ih m) l
theorem eqL_ok {α : Type} {f : α → α → Bool} (hf : ∀ a b, f a b = true → a = b) : ∀ {l m : List α}, eqL f l m = true → l = m
 | [], [], _ => rfl
 | [], _ :: _, h => by exact absurd (show false = true from h) (by simp)
 | _ :: _, [], h => by exact absurd (show false = true from h) (by simp)
 | a :: l, b :: m, h => by
  have h' : (f a b && eqL f l m) = true := h
  simp only [Bool.and_eq_true] at h'
  rw [hf _ _ h'.1, eqL_ok hf h'.2]
noncomputable def eqC (a b : UInt8) : Bool := Nat.beq a.toNat b.toNat
theorem eqC_ok (a b : UInt8) (h : eqC a b = true) : a = b := UInt8.toNat_inj.1 (Nat.eq_of_beq_eq_true h)
noncomputable def eqS (s t : ByteArray) : Bool := eqL eqC s.data.toList t.data.toList
theorem eqS_ok {s t : ByteArray} (h : eqS s t = true) : s = t := by
 obtain ⟨⟨l⟩⟩ := s
 obtain ⟨⟨m⟩⟩ := t
 have : l = m := eqL_ok eqC_ok h
 rw [this]
noncomputable def eq1 (v w : Value) : Bool := match v with
 | .bool a => match w with | .bool b => decide (a = b) | _ => false
 | .int k a => match w with | .int l b => decide (k = l) && decide (a = b) | _ => false
 | .float k a => match w with | .float l b => decide (k = l) && Nat.beq a b | _ => false
 | .complex k a b => match w with | .complex l c d => decide (k = l) && (Nat.beq a c && Nat.beq b d) | _ => false
 | .string s => match w with | .string t => eqS s t | _ => false
 | _ => false
theorem eq1_ok (v w : Value) (h : eq1 v w = true) : v = w := by
 unfold eq1 at h
 cases v <;> simp only [Bool.false_eq_true] at h <;> cases w <;> simp only [Bool.false_eq_true, Bool.and_eq_true, decide_eq_true_eq] at h
 ·rw [h]
 ·rw [h.1, h.2]
 ·rw [h.1, Nat.eq_of_beq_eq_true h.2]
 ·rw [h.1, Nat.eq_of_beq_eq_true h.2.1, Nat.eq_of_beq_eq_true h.2.2]
 ·rw [eqS_ok h]
noncomputable def eqV (v w : Value) : Bool := match v with
 | .agg a => match w with | .agg b => eqL eq1 a.toList b.toList | _ => false
 | _ => eq1 v w
theorem eqV_ok (v w : Value) (h : eqV v w = true) : v = w := by
 unfold eqV at h
 cases v <;> try exact eq1_ok _ _ h
 cases w <;> simp only [Bool.false_eq_true] at h
 rename_i a b
 obtain ⟨l⟩ := a
 obtain ⟨m⟩ := b
 have : l = m := eqL_ok eq1_ok h
 rw [this]
theorem goes_val3 {h h' : Tr (Blk Nat)} {nx nx' : Nat} {R W : List Nat} {r : Ren} {w : World} {u v : Value} {f : FuncId} {args' : List Value} (e : (ret u : M Nat Value) h nx = .ok v h' nx' R W) (hp : plain3 u = true) (hM : Mod natSig r h.get w) (c : Calls Try.prog f ⟨args'⟩ w fun e w' => e = .returned u ∧ Below w.heap.size w w') : Goes f args' r w nx nx' W h'.get v := by
 obtain ⟨rfl, rfl, rfl, rfl⟩ := ret_ok e
 refine c.mono ?_
 rintro en w' ⟨rfl, hb⟩
 exact ⟨_, r, rfl, same3 hp, ext_below hM hb _⟩
structure Fact where
 f : FuncId
 args : List Value
 v : Value
def Fact.ok (x : Fact) : Prop := plains x.args = true ∧ plain3 x.v = true ∧ ∀ w : World, Try.prog.globals.size ≤ w.heap.size → TabB w → Calls Try.prog x.f ⟨x.args⟩ w fun e w' => e = .returned x.v ∧ Below w.heap.size w w'
noncomputable def look (f : FuncId) (args : List Value) (l : List Fact) : Option Value := List.rec (motive := fun _ => Option Value) none
 (fun x _ ih => Bool.rec (motive := fun _ => Option Value) ih (Bool.rec (motive := fun _ => Option Value) ih (some x.v) (eqL eqV x.args args)) (Nat.beq x.f f)) l
theorem look_ok {f : FuncId} {args : List Value} {v : Value} : ∀ {l : List Fact}, look f args l = some v → ∃ x ∈ l, x.f = f ∧ x.args = args ∧ x.v = v
 | [], h => by cases h
 | x :: l, h => by
  have h' : (Bool.rec (motive := fun _ => Option Value) (look f args l) (Bool.rec (motive := fun _ => Option Value) (look f args l) (some x.v) (eqL eqV x.args args)) (Nat.beq x.f f) : Option Value) = some v := h
  cases hb : Nat.beq x.f f with
  | false =>
   rw [hb] at h'
   obtain ⟨y, hy, r⟩ := look_ok h'
   exact ⟨y, List.mem_cons_of_mem _ hy, r⟩
  | true =>
   rw [hb] at h'
   cases hc : eqL eqV x.args args with
   | false =>
    rw [hc] at h'
    obtain ⟨y, hy, r⟩ := look_ok h'
    exact ⟨y, List.mem_cons_of_mem _ hy, r⟩
   | true =>
    rw [hc] at h'
    exact ⟨x, List.mem_cons_self, Nat.eq_of_beq_eq_true hb, eqL_ok eqV_ok hc, Option.some.inj h'⟩
noncomputable def known (l : List Fact) : Sums Nat := fun f args => match look f args l with
 | some v => some (ret v)
 | none => natSums f args
theorem known_ok {l : List Fact} (hl : ∀ x ∈ l, x.ok) : SumOK natSig Try.prog (known l) := by
 refine ⟨fun f args m e => ?_, fun f args m e h nx v h' nx' R W hr r w args' ha hM hN => ?_⟩
 ·unfold known at e
  cases hk : look f args l with
  | none => rw [hk] at e; exact natSums_ok.loc f args m e
  | some v => rw [hk] at e; cases e; exact loc_ret _
 ·unfold known at e
  cases hk : look f args l with
  | none => rw [hk] at e; exact natSums_ok.run f args m e h nx v h' nx' R W hr r w args' ha hM hN
  | some u =>
   rw [hk] at e
   cases e
   obtain ⟨x, hx, rfl, rfl, rfl⟩ := look_ok hk
   obtain ⟨h1, h2, h3⟩ := hl x hx
   obtain rfl : args' = x.args := VsR_eq h1 ha
   have hG : Try.prog.globals.size ≤ w.heap.size := by
    rcases Nat.eq_zero_or_pos Try.prog.globals.size with h0 | h0
    ·omega
    ·have := hM.lt _ _ (hM.glob (Try.prog.globals.size - 1) (show _ < Try.prog.globals.size by omega))
     omega
   exact goes_val3 hr.ok h2 hM (h3 w hG hM.base)
noncomputable def knownN (l : List Fact) : Sums Nat := fun f args => match look f args l with
 | some v => some (ret v)
 | none => numSums f args
theorem knownN_ok {l : List Fact} (hl : ∀ x ∈ l, x.ok) : SumOK natSig Try.prog (knownN l) := by
 have hk := known_ok hl
 refine ⟨fun f args m e => ?_, fun f args m e h nx v h' nx' R W hr r w args' ha hM hN => ?_⟩
 ·unfold knownN at e
  cases hq : look f args l with
  | none => rw [hq] at e; exact numSums_ok.loc f args m e
  | some v => rw [hq] at e; cases e; exact loc_ret _
 ·unfold knownN at e
  cases hq : look f args l with
  | none => rw [hq] at e; exact numSums_ok.run f args m e h nx v h' nx' R W hr r w args' ha hM hN
  | some u =>
   rw [hq] at e
   exact hk.run f args m (by unfold known; rw [hq]; exact e) h nx v h' nx' R W hr r w args' ha hM hN
noncomputable def runsN (l : List Fact) (n : Nat) (f : FuncId) (args : List Value) : Option Value := gives 100000 (call Try.prog natCfg (knownN l) n f args)
theorem runsN_calls {l : List Fact} (hl : ∀ x ∈ l, x.ok) {n : Nat} {f : FuncId} {args : List Value} {v : Value} (e : runsN l n f args = some v) (ha : plains args = true) {w : World} (hG : Try.prog.globals.size ≤ w.heap.size) (hb : TabB w) :
  Calls Try.prog f ⟨args⟩ w fun e w' => e = .returned v ∧ Below w.heap.size w w' :=
 gives_calls natFits (knownN_ok hl) e ha glob_few hG hb
end Ev
end Go.Proofs.Ytnlhjcfpfapafaa
namespace Go.Proofs.Ytnlhjcfpfapafaa
open Go.RowKit
def BadF (x : Bool × ByteArray × ByteArray) : Prop := ∀ q : Rat, Fit q → ¬ (x.1 = Big.ng q ∧ x.2.1 = bst (Big.nu q) ∧ x.2.2 = bst (Big.de q))
set_option maxRecDepth 100000 in
set_option maxHeartbeats 4000000 in
theorem mayBe_all (w : World) (s : ByteArray) :
  Calls Try.prog 63 #[.string s] w fun e w' => e = .returned (.bool (mayB s)) ∧ w = w' := by
 by_cases h5 : s.size ≤ 512
 ·by_cases h0 : s.size = 0
  ·have e := empty_of h0
   subst e
   have HD := Lib.hid (show mayB ⟨#[]⟩ = true by decide)
   go_enter Try.func63, Try.ntmps63
   go_wp2_with fail
   go_ret
   exact ⟨ret_bool HD.out.symm, rfl⟩
  ·have i1 : (s.size : Int) ≤ 512 := by omega
   have p0 : 0 < s.size := by omega
   have HD := Lib.hid (show mayB s = ((s[0].toNat : Int) != 0) by
    unfold mayB
    rw [decide_eq_true h5, Bool.true_and, head_get p0, Bool.eq_iff_iff, Bool.not_eq_true', beq_eq_false_iff_ne, bne_iff_ne]
    constructor
    ·intro h e; exact h (by rw [Option.some.injEq]; apply UInt8.toNat_inj.1; show _ = 0; omega)
    ·intro h e; rw [Option.some.injEq] at e; rw [e] at h; exact h rfl)
   generalize mayB s = z at *
   have hne : ¬ s.toList = [] := by rw [ByteArray.toList_eq]; intro e; have := size_toList s; rw [e] at this; simp at this; omega
   have hne2 : s.toList.isEmpty = false := by rw [Bool.eq_false_iff]; intro e; exact hne (List.isEmpty_iff.1 e)
   clear h0
   go_enter Try.func63, Try.ntmps63
   go_wp2_with fail
   go_ret
   exact ⟨ret_bool (by rw [HD.out]), rfl⟩
 ·have i1 : ¬ (s.size : Int) ≤ 512 := by omega
  have HD := Lib.hid (show mayB s = false by unfold mayB; rw [decide_eq_false h5]; rfl)
  generalize mayB s = z at *
  go_enter Try.func63, Try.ntmps63
  go_wp2_with fail
  go_ret
  exact ⟨ret_bool HD.out.symm, rfl⟩
def ReadZ (w : World) (e : Ending) (w' : World) : Prop := e = .returned (.tuple #[.agg #[.bool false, .slice none 0 0, .slice none 0 0], .bool false]) ∧ Below w.heap.size w w'
theorem size_zero_iff {s : ByteArray} : s.toList.isEmpty = decide (s.size = 0) := by
 rw [ByteArray.toList_eq]
 by_cases h : s.size = 0
 ·rw [empty_of h]; rfl
 ·rw [decide_eq_false h, Bool.eq_false_iff]
  intro e
  have h1 := size_toList s
  rw [List.isEmpty_iff.1 e] at h1
  exact h (by simpa using h1.symm)
theorem nonempty_list {s : ByteArray} (h : ¬ s.size = 0) : ¬ s.toList = [] ∧ s.toList.isEmpty = false := by
 have h1 : s.toList.isEmpty = false := by rw [size_zero_iff, decide_eq_false h]
 exact ⟨fun e => (by rw [e] at h1; cases h1), h1⟩
set_option maxRecDepth 100000 in
set_option maxHeartbeats 4000000 in
theorem exRead_badA (w : World) (b : Bool) (s t : ByteArray) (h : mayB s = false) :
  Calls Try.prog 34 #[.agg #[.bool b, .string s, .string t]] w (ReadZ w) := by
 have M1 := Lib.hid (fun W => mayBe_all W s)
 rw [h] at M1
 clear h
 obtain ⟨X0, R0, B0⟩ := boxed2 w 27 70 (.bool b) (.string s) (.string t) (.bool false) (.slice none 0 0) (.slice none 0 0)
 have HX0 := Lib.hid X0; have HR0 := Lib.hid R0; have HB0 := Lib.hid B0
 clear X0 R0 B0
 go_enter Try.func34, Try.ntmps34
 go_wp2_with fail
 generalize (w.alloc (.cells #[.bool b, .string s, .string t] 27)).alloc (.cells #[.bool false, .slice none 0 0, .slice none 0 0] 70) = w0 at *
 have x0 := HX0.out.c0; have x1 := HX0.out.c1; have x2 := HX0.out.c2
 have k0 := HR0.out.c0; have k1 := HR0.out.c1; have k2 := HR0.out.c2; have f0 := HR0.out.frozen 0; have f1 := HR0.out.frozen 1; have f2 := HR0.out.frozen 2
 go_wp2_with (first
   | (go_at_call 63; with_reducible refine (M1.out _).mono ?_; rintro e w' ⟨rfl, rfl⟩))
 have HD := Lib.hid (At3.put HR0.out (.bool false) (.slice none 0 0) (.slice none 0 0))
 have HE := Lib.hid (put_below HB0.out (show w.heap.size ≤ w.heap.size + 1 by omega) (.bool false) (.slice none 0 0) (.slice none 0 0))
 generalize (((w0.setCell ⟨w.heap.size + 1, 0, none⟩ (.bool false)).setCell ⟨w.heap.size + 1, 1, none⟩ (.slice none 0 0)).setCell ⟨w.heap.size + 1, 2, none⟩ (.slice none 0 0)) = wz at HD HE ⊢
 clear k0 k1 k2 f0 f1 f2
 have r0 := HD.out.c0; have r1 := HD.out.c1; have r2 := HD.out.c2
 exact bodyPost_ret (v := .tuple #[.agg #[.bool false, .slice none 0 0, .slice none 0 0], .bool false]) (by simp [results, Try.results34, go_sem, r0, r1, r2]) rfl ⟨rfl, HE.out⟩
set_option maxRecDepth 100000 in
set_option maxHeartbeats 4000000 in
theorem exRead_badB (w : World) (b : Bool) (s t : ByteArray) (g : mayB s = true) (h : mayB t = false) :
  Calls Try.prog 34 #[.agg #[.bool b, .string s, .string t]] w (ReadZ w) := by
 have M1 := Lib.hid (fun W => mayBe_all W s)
 have M2 := Lib.hid (fun W => mayBe_all W t)
 rw [g] at M1
 rw [h] at M2
 clear g h
 obtain ⟨X0, R0, B0⟩ := boxed2 w 27 70 (.bool b) (.string s) (.string t) (.bool false) (.slice none 0 0) (.slice none 0 0)
 have HX0 := Lib.hid X0; have HR0 := Lib.hid R0; have HB0 := Lib.hid B0
 clear X0 R0 B0
 go_enter Try.func34, Try.ntmps34
 go_wp2_with fail
 generalize (w.alloc (.cells #[.bool b, .string s, .string t] 27)).alloc (.cells #[.bool false, .slice none 0 0, .slice none 0 0] 70) = w0 at *
 have x0 := HX0.out.c0; have x1 := HX0.out.c1; have x2 := HX0.out.c2
 have k0 := HR0.out.c0; have k1 := HR0.out.c1; have k2 := HR0.out.c2; have f0 := HR0.out.frozen 0; have f1 := HR0.out.frozen 1; have f2 := HR0.out.frozen 2
 go_wp2_with (first
   | (go_at_call 63; with_reducible refine (M1.out _).mono ?_; rintro e w' ⟨rfl, rfl⟩)
   | (go_at_call 63; with_reducible refine (M2.out _).mono ?_; rintro e w' ⟨rfl, rfl⟩))
 have HD := Lib.hid (At3.put HR0.out (.bool false) (.slice none 0 0) (.slice none 0 0))
 have HE := Lib.hid (put_below HB0.out (show w.heap.size ≤ w.heap.size + 1 by omega) (.bool false) (.slice none 0 0) (.slice none 0 0))
 generalize (((w0.setCell ⟨w.heap.size + 1, 0, none⟩ (.bool false)).setCell ⟨w.heap.size + 1, 1, none⟩ (.slice none 0 0)).setCell ⟨w.heap.size + 1, 2, none⟩ (.slice none 0 0)) = wz at HD HE ⊢
 clear k0 k1 k2 f0 f1 f2
 have r0 := HD.out.c0; have r1 := HD.out.c1; have r2 := HD.out.c2
 exact bodyPost_ret (v := .tuple #[.agg #[.bool false, .slice none 0 0, .slice none 0 0], .bool false]) (by simp [results, Try.results34, go_sem, r0, r1, r2]) rfl ⟨rfl, HE.out⟩
set_option maxRecDepth 100000 in
set_option maxHeartbeats 4000000 in
theorem exRead_badC (w : World) (b : Bool) (s : ByteArray) (g : mayB s = true) :
  Calls Try.prog 34 #[.agg #[.bool b, .string s, .string ⟨#[]⟩]] w (ReadZ w) := by
 have M1 := Lib.hid (fun W => mayBe_all W s)
 have M2 := Lib.hid (fun W => mayBe_all W ⟨#[]⟩)
 rw [g] at M1
 rw [show mayB ⟨#[]⟩ = true by decide] at M2
 clear g
 obtain ⟨X0, R0, B0⟩ := boxed2 w 27 70 (.bool b) (.string s) (.string ⟨#[]⟩) (.bool false) (.slice none 0 0) (.slice none 0 0)
 have HX0 := Lib.hid X0; have HR0 := Lib.hid R0; have HB0 := Lib.hid B0
 clear X0 R0 B0
 go_enter Try.func34, Try.ntmps34
 go_wp2_with fail
 generalize (w.alloc (.cells #[.bool b, .string s, .string ⟨#[]⟩] 27)).alloc (.cells #[.bool false, .slice none 0 0, .slice none 0 0] 70) = w0 at *
 have x0 := HX0.out.c0; have x1 := HX0.out.c1; have x2 := HX0.out.c2
 have k0 := HR0.out.c0; have k1 := HR0.out.c1; have k2 := HR0.out.c2; have f0 := HR0.out.frozen 0; have f1 := HR0.out.frozen 1; have f2 := HR0.out.frozen 2
 go_wp2_with (first
   | (go_at_call 63; with_reducible refine (M1.out _).mono ?_; rintro e w' ⟨rfl, rfl⟩)
   | (go_at_call 63; with_reducible refine (M2.out _).mono ?_; rintro e w' ⟨rfl, rfl⟩))
 have HD := Lib.hid (At3.put HR0.out (.bool false) (.slice none 0 0) (.slice none 0 0))
 have HE := Lib.hid (put_below HB0.out (show w.heap.size ≤ w.heap.size + 1 by omega) (.bool false) (.slice none 0 0) (.slice none 0 0))
 generalize (((w0.setCell ⟨w.heap.size + 1, 0, none⟩ (.bool false)).setCell ⟨w.heap.size + 1, 1, none⟩ (.slice none 0 0)).setCell ⟨w.heap.size + 1, 2, none⟩ (.slice none 0 0)) = wz at HD HE ⊢
 clear k0 k1 k2 f0 f1 f2
 have r0 := HD.out.c0; have r1 := HD.out.c1; have r2 := HD.out.c2
 exact bodyPost_ret (v := .tuple #[.agg #[.bool false, .slice none 0 0, .slice none 0 0], .bool false]) (by simp [results, Try.results34, go_sem, r0, r1, r2]) rfl ⟨rfl, HE.out⟩
set_option maxRecDepth 100000 in
set_option maxHeartbeats 4000000 in
theorem exRead_badD (w : World) (t : ByteArray) (g : mayB t = true) (h : ¬ t.size = 0) :
  Calls Try.prog 34 #[.agg #[.bool true, .string ⟨#[]⟩, .string t]] w (ReadZ w) := by
 have M1 := Lib.hid (fun W => mayBe_all W ⟨#[]⟩)
 have M2 := Lib.hid (fun W => mayBe_all W t)
 rw [g] at M2
 rw [show mayB ⟨#[]⟩ = true by decide] at M1
 obtain ⟨d1, d2⟩ := nonempty_list h
 clear g h
 obtain ⟨X0, R0, B0⟩ := boxed2 w 27 70 (.bool true) (.string ⟨#[]⟩) (.string t) (.bool false) (.slice none 0 0) (.slice none 0 0)
 have HX0 := Lib.hid X0; have HR0 := Lib.hid R0; have HB0 := Lib.hid B0
 clear X0 R0 B0
 go_enter Try.func34, Try.ntmps34
 go_wp2_with fail
 generalize (w.alloc (.cells #[.bool true, .string ⟨#[]⟩, .string t] 27)).alloc (.cells #[.bool false, .slice none 0 0, .slice none 0 0] 70) = w0 at *
 have x0 := HX0.out.c0; have x1 := HX0.out.c1; have x2 := HX0.out.c2
 have k0 := HR0.out.c0; have k1 := HR0.out.c1; have k2 := HR0.out.c2; have f0 := HR0.out.frozen 0; have f1 := HR0.out.frozen 1; have f2 := HR0.out.frozen 2
 go_wp2_with (first
   | (go_at_call 63; with_reducible refine (M1.out _).mono ?_; rintro e w' ⟨rfl, rfl⟩)
   | (go_at_call 63; with_reducible refine (M2.out _).mono ?_; rintro e w' ⟨rfl, rfl⟩))
 have HD := Lib.hid (At3.put HR0.out (.bool false) (.slice none 0 0) (.slice none 0 0))
 have HE := Lib.hid (put_below HB0.out (show w.heap.size ≤ w.heap.size + 1 by omega) (.bool false) (.slice none 0 0) (.slice none 0 0))
 generalize (((w0.setCell ⟨w.heap.size + 1, 0, none⟩ (.bool false)).setCell ⟨w.heap.size + 1, 1, none⟩ (.slice none 0 0)).setCell ⟨w.heap.size + 1, 2, none⟩ (.slice none 0 0)) = wz at HD HE ⊢
 clear k0 k1 k2 f0 f1 f2
 have r0 := HD.out.c0; have r1 := HD.out.c1; have r2 := HD.out.c2
 exact bodyPost_ret (v := .tuple #[.agg #[.bool false, .slice none 0 0, .slice none 0 0], .bool false]) (by simp [results, Try.results34, go_sem, r0, r1, r2]) rfl ⟨rfl, HE.out⟩
set_option maxRecDepth 100000 in
set_option maxHeartbeats 4000000 in
theorem exRead_badE (w : World) (n d : Nat) (sn : szN n ≤ 512) (sd : szN d ≤ 512) (d0 : d ≠ 0) (hc : Nat.gcd n d ≠ 1) :
  Calls Try.prog 34 #[.agg #[.bool false, .string (bst n), .string (bst d)]] w (ReadZ w) := by
 have M1 := Lib.hid (fun W => mayBe_all W (bst n))
 have M2 := Lib.hid (fun W => mayBe_all W (bst d))
 rw [mayB_bst sn] at M1
 rw [mayB_bst sd] at M2
 have S1 := Lib.hid (Sz.bytes sn); have S2 := Lib.hid (Sz.bytes sd)
 have F1 := Lib.hid (fun W => fromBytes_num W n (by omega))
 have F2 := Lib.hid (fun W => fromBytes_num W d (by omega))
 have d1 := bst_ne d0
 have d2 := bst_ne2 d0
 have HC := Lib.hid hc
 clear hc
 obtain ⟨X0, R0, B0⟩ := boxed2 w 27 70 (.bool false) (.string (bst n)) (.string (bst d)) (.bool false) (.slice none 0 0) (.slice none 0 0)
 have HX0 := Lib.hid X0; have HR0 := Lib.hid R0; have HB0 := Lib.hid B0
 clear X0 R0 B0
 go_enter Try.func34, Try.ntmps34
 go_wp2_with fail
 generalize (w.alloc (.cells #[.bool false, .string (bst n), .string (bst d)] 27)).alloc (.cells #[.bool false, .slice none 0 0, .slice none 0 0] 70) = w0 at *
 have x0 := HX0.out.c0; have x1 := HX0.out.c1; have x2 := HX0.out.c2
 have k0 := HR0.out.c0; have k1 := HR0.out.c1; have k2 := HR0.out.c2; have f0 := HR0.out.frozen 0; have f1 := HR0.out.frozen 1; have f2 := HR0.out.frozen 2
 go_wp2_with (first
   | (go_at_call 63; with_reducible refine (M1.out _).mono ?_; rintro e w' ⟨rfl, rfl⟩)
   | (go_at_call 63; with_reducible refine (M2.out _).mono ?_; rintro e w' ⟨rfl, rfl⟩))
 clear d1 d2
 clear x0 x1 x2 k0 k1 k2 f0 f1 f2
 have KX := Lib.hid (fun W (h : Below w0.heap.size w0 W) => And.intro (HX0.out.keep h).c1 (HX0.out.keep h).c2)
 have C1 := Lib.hid (fun W (h : Below w0.heap.size w0 W) => lift2 h (F1.out W))
 have C2 := Lib.hid (fun W (h : Below w0.heap.size w0 W) => lift2 h (F2.out W))
 go_region_held3 (fun w' => w'.cell? ⟨w.heap.size, 1, none⟩ = some (.string (bst n)) ∧ w'.cell? ⟨w.heap.size, 2, none⟩ = some (.string (bst d)))
  (exact KX.out _ (by first | assumption | exact Below.refl _ _ | exact below_drew (Below.refl _ _) | exact below_drew (by assumption)))
  (first
   | (go_at_call 64; (with_reducible refine (C1.out _ (by first | assumption | exact Below.refl _ _ | exact below_drew (Below.refl _ _) | exact below_drew (by assumption))).mono ?_); rintro e w2 ⟨v2, rfl, hv2, hw2, hw2'⟩)
   | (go_at_call 64; (with_reducible refine (C2.out _ (by first | assumption | exact Below.refl _ _ | exact below_drew (Below.refl _ _) | exact below_drew (by assumption))).mono ?_); rintro e w3 ⟨v3, rfl, hv3, hw3, hw3'⟩)
   | fail)
 have HB3 := Lib.hid (HB0.out.trans (hw3.mono HB0.out.size))
 have HR3 := Lib.hid (HR0.out.keep hw3)
 have HV := Lib.hid (And.intro (hv2.keep hw3') hv3)
 clear hv2 hv3 hw2 hw2' hw3 hw3' HX0 HR0 HB0 KX C1 C2
 have G := Lib.hid (gcd_num w3 _ _ _ _ 64 64 HV.out.1 HV.out.2 S1.out S2.out (by omega) (by omega))
 obtain ⟨cg, hcg⟩ : ∃ z, Nat.gcd n d = z := ⟨_, rfl⟩
 rw [hcg] at G HC
 clear hcg
 go_wp2_with fail
 refine G.out.mono ?_
 rintro e w4 ⟨v4, rfl, hv4, hw4⟩
 have I := Lib.hid (isOne_num w4 v4 cg hv4)
 rw [decide_eq_false HC.out] at I
 have HB0 := Lib.hid (HB3.out.trans (hw4.mono HB3.out.size))
 have HR0 := Lib.hid (HR3.out.keep hw4)
 clear hv4 hw4 HB3 HR3 HV G
 go_wp2_with fail
 refine I.out.mono ?_
 rintro e w' ⟨rfl, rfl⟩
 have k0 := HR0.out.c0; have k1 := HR0.out.c1; have k2 := HR0.out.c2; have f0 := HR0.out.frozen 0; have f1 := HR0.out.frozen 1; have f2 := HR0.out.frozen 2
 go_wp2_with fail
 have HD := Lib.hid (At3.put HR0.out (.bool false) (.slice none 0 0) (.slice none 0 0))
 have HE := Lib.hid (put_below HB0.out (show w.heap.size ≤ w.heap.size + 1 by omega) (.bool false) (.slice none 0 0) (.slice none 0 0))
 generalize (((w4.setCell ⟨w.heap.size + 1, 0, none⟩ (.bool false)).setCell ⟨w.heap.size + 1, 1, none⟩ (.slice none 0 0)).setCell ⟨w.heap.size + 1, 2, none⟩ (.slice none 0 0)) = wz at HD HE ⊢
 clear k0 k1 k2 f0 f1 f2
 have r0 := HD.out.c0; have r1 := HD.out.c1; have r2 := HD.out.c2
 exact bodyPost_ret (v := .tuple #[.agg #[.bool false, .slice none 0 0, .slice none 0 0], .bool false]) (by simp [results, Try.results34, go_sem, r0, r1, r2]) rfl ⟨rfl, HE.out⟩
set_option maxRecDepth 100000 in
set_option maxHeartbeats 4000000 in
theorem exRead_badF (w : World) (n d : Nat) (n0 : n ≠ 0) (sn : szN n ≤ 512) (sd : szN d ≤ 512) (d0 : d ≠ 0) (hc : Nat.gcd n d ≠ 1) :
  Calls Try.prog 34 #[.agg #[.bool true, .string (bst n), .string (bst d)]] w (ReadZ w) := by
 have M1 := Lib.hid (fun W => mayBe_all W (bst n))
 have M2 := Lib.hid (fun W => mayBe_all W (bst d))
 rw [mayB_bst sn] at M1
 rw [mayB_bst sd] at M2
 have S1 := Lib.hid (Sz.bytes sn); have S2 := Lib.hid (Sz.bytes sd)
 have F1 := Lib.hid (fun W => fromBytes_num W n (by omega))
 have F2 := Lib.hid (fun W => fromBytes_num W d (by omega))
 have d1 := bst_ne d0
 have d2 := bst_ne2 d0
 have HC := Lib.hid hc
 have n1 := bst_ne n0
 have n2 := bst_ne2 n0
 clear hc
 obtain ⟨X0, R0, B0⟩ := boxed2 w 27 70 (.bool true) (.string (bst n)) (.string (bst d)) (.bool false) (.slice none 0 0) (.slice none 0 0)
 have HX0 := Lib.hid X0; have HR0 := Lib.hid R0; have HB0 := Lib.hid B0
 clear X0 R0 B0
 go_enter Try.func34, Try.ntmps34
 go_wp2_with fail
 generalize (w.alloc (.cells #[.bool true, .string (bst n), .string (bst d)] 27)).alloc (.cells #[.bool false, .slice none 0 0, .slice none 0 0] 70) = w0 at *
 have x0 := HX0.out.c0; have x1 := HX0.out.c1; have x2 := HX0.out.c2
 have k0 := HR0.out.c0; have k1 := HR0.out.c1; have k2 := HR0.out.c2; have f0 := HR0.out.frozen 0; have f1 := HR0.out.frozen 1; have f2 := HR0.out.frozen 2
 go_wp2_with (first
   | (go_at_call 63; with_reducible refine (M1.out _).mono ?_; rintro e w' ⟨rfl, rfl⟩)
   | (go_at_call 63; with_reducible refine (M2.out _).mono ?_; rintro e w' ⟨rfl, rfl⟩))
 clear d1 d2
 clear x0 x1 x2 k0 k1 k2 f0 f1 f2
 have KX := Lib.hid (fun W (h : Below w0.heap.size w0 W) => And.intro (HX0.out.keep h).c1 (HX0.out.keep h).c2)
 have C1 := Lib.hid (fun W (h : Below w0.heap.size w0 W) => lift2 h (F1.out W))
 have C2 := Lib.hid (fun W (h : Below w0.heap.size w0 W) => lift2 h (F2.out W))
 go_region_held3 (fun w' => w'.cell? ⟨w.heap.size, 1, none⟩ = some (.string (bst n)) ∧ w'.cell? ⟨w.heap.size, 2, none⟩ = some (.string (bst d)))
  (exact KX.out _ (by first | assumption | exact Below.refl _ _ | exact below_drew (Below.refl _ _) | exact below_drew (by assumption)))
  (first
   | (go_at_call 64; (with_reducible refine (C1.out _ (by first | assumption | exact Below.refl _ _ | exact below_drew (Below.refl _ _) | exact below_drew (by assumption))).mono ?_); rintro e w2 ⟨v2, rfl, hv2, hw2, hw2'⟩)
   | (go_at_call 64; (with_reducible refine (C2.out _ (by first | assumption | exact Below.refl _ _ | exact below_drew (Below.refl _ _) | exact below_drew (by assumption))).mono ?_); rintro e w3 ⟨v3, rfl, hv3, hw3, hw3'⟩)
   | fail)
 have HB3 := Lib.hid (HB0.out.trans (hw3.mono HB0.out.size))
 have HR3 := Lib.hid (HR0.out.keep hw3)
 have HV := Lib.hid (And.intro (hv2.keep hw3') hv3)
 clear hv2 hv3 hw2 hw2' hw3 hw3' HX0 HR0 HB0 KX C1 C2
 have G := Lib.hid (gcd_num w3 _ _ _ _ 64 64 HV.out.1 HV.out.2 S1.out S2.out (by omega) (by omega))
 obtain ⟨cg, hcg⟩ : ∃ z, Nat.gcd n d = z := ⟨_, rfl⟩
 rw [hcg] at G HC
 clear hcg
 go_wp2_with fail
 refine G.out.mono ?_
 rintro e w4 ⟨v4, rfl, hv4, hw4⟩
 have I := Lib.hid (isOne_num w4 v4 cg hv4)
 rw [decide_eq_false HC.out] at I
 have HB0 := Lib.hid (HB3.out.trans (hw4.mono HB3.out.size))
 have HR0 := Lib.hid (HR3.out.keep hw4)
 clear hv4 hw4 HB3 HR3 HV G
 go_wp2_with fail
 refine I.out.mono ?_
 rintro e w' ⟨rfl, rfl⟩
 have k0 := HR0.out.c0; have k1 := HR0.out.c1; have k2 := HR0.out.c2; have f0 := HR0.out.frozen 0; have f1 := HR0.out.frozen 1; have f2 := HR0.out.frozen 2
 go_wp2_with fail
 have HD := Lib.hid (At3.put HR0.out (.bool false) (.slice none 0 0) (.slice none 0 0))
 have HE := Lib.hid (put_below HB0.out (show w.heap.size ≤ w.heap.size + 1 by omega) (.bool false) (.slice none 0 0) (.slice none 0 0))
 generalize (((w4.setCell ⟨w.heap.size + 1, 0, none⟩ (.bool false)).setCell ⟨w.heap.size + 1, 1, none⟩ (.slice none 0 0)).setCell ⟨w.heap.size + 1, 2, none⟩ (.slice none 0 0)) = wz at HD HE ⊢
 clear k0 k1 k2 f0 f1 f2
 have r0 := HD.out.c0; have r1 := HD.out.c1; have r2 := HD.out.c2
 exact bodyPost_ret (v := .tuple #[.agg #[.bool false, .slice none 0 0, .slice none 0 0], .bool false]) (by simp [results, Try.results34, go_sem, r0, r1, r2]) rfl ⟨rfl, HE.out⟩
theorem exRead_bad (w : World) (x : Bool × ByteArray × ByteArray) (hx : BadF x) :
  Calls Try.prog 34 #[.agg #[.bool x.1, .string x.2.1, .string x.2.2]] w (ReadZ w) := by
 obtain ⟨b, s, t⟩ := x
 cases hs : mayB s with
 | false => exact exRead_badA w b s t hs
 | true =>
  cases ht : mayB t with
  | false => exact exRead_badB w b s t hs ht
  | true =>
   by_cases t0 : t.size = 0
   ·rw [empty_of t0]; exact exRead_badC w b s hs
   ·obtain ⟨e1, z1⟩ := mayB_is hs
    obtain ⟨e2, z2⟩ := mayB_is ht
    generalize Big.bnum s.data.toList = n at *
    generalize Big.bnum t.data.toList = d at *
    subst e1 e2
    have d0 : d ≠ 0 := fun e => t0 (by rw [bst_size, e]; rfl)
    have key : Nat.gcd n d = 1 → (b = true → 1 ≤ n) → False := fun h1 h2 => by
     obtain ⟨p1, p2, p3⟩ := Big.parts (q := mkRat (Big.sI b n) d) (b := b) (n := n) (d := d) (by omega) h1 h2 (show d ≠ 0 from d0) rfl rfl
     exact hx (mkRat (Big.sI b n) d) ⟨by rw [p2]; exact z1, by rw [p3]; exact z2⟩ ⟨p1.symm, by rw [p2], by rw [p3]⟩
    cases b with
    | false => exact exRead_badE w n d z1 z2 d0 fun h => key h (by simp)
    | true =>
     by_cases n0 : n = 0
     ·subst n0
      exact exRead_badD w (bst d) ht t0
     ·exact exRead_badF w n d n0 z1 z2 d0 fun h => key h (by omega)
end Go.Proofs.Ytnlhjcfpfapafaa
