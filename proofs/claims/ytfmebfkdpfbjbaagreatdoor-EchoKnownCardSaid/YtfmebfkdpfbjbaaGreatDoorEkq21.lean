/- Contracts, in this order: The interpreter: package exact's numbers, of what is known. · nat: Twos, Shr. · The interpreter: package nat's Shr and Twos, of what is know · Package residue: the product of two residues. · The interpreter: package residue's products, and rests over  · The interpreter: from a run to what the program does. · The interpreter: calls of plain values whose answers are kno -/
import Derived.Test.YtfmebfkdpfbjbaaGreatDoorEkq20
import Derived.Test.YtfmebfkdpfbjbaaGreatDoorEkq19
import Derived.Test.YtfmebfkdpfbjbaaGreatDoorEkq18
import Derived.Test.YtfmebfkdpfbjbaaGreatDoorEkq12
import Derived.Test.YtfmebfkdpfbjbaaGreatDoorEkq14
import Derived.Shelf.Spec.TrailingZeros
import Derived.Test.YtfmebfkdpfbjbaaGreatDoorEkq13
namespace Go.Proofs.YtfmebfkdpfbjbaaGreatDoor
open Go Go.RowKit
namespace Ev
structure T3x where
  s : Bool
  n : Nat
  d : Nat
def T3x.q (t : T3x) : Rat := mkRat (Big.sI t.s t.n) t.d
noncomputable def T3x.good (t : T3x) : Bool := Nat.ble 1 t.d && (Nat.beq (Nat.gcd t.n t.d) 1 && ((!t.s || Nat.ble 1 t.n) && (small t.n && small t.d)))
theorem T3x.parts {t : T3x} (h : t.good = true) : Big.ng t.q = t.s ∧ Big.nu t.q = t.n ∧ Big.de t.q = t.d := by
  unfold T3x.good at h
  simp only [Bool.and_eq_true, Bool.or_eq_true, Bool.not_eq_true'] at h
  obtain ⟨h1, h2, h3, -⟩ := h
  have h1 := Nat.le_of_ble_eq_true h1
  refine Big.parts (N := Big.sI t.s t.n) (D := t.d) h1 (Nat.eq_of_beq_eq_true h2) (fun hs => ?_) (by omega) rfl rfl
  rcases h3 with h3 | h3
  · rw [hs] at h3; cases h3
  · exact Nat.le_of_ble_eq_true h3
theorem T3x.sm {t : T3x} (h : t.good = true) : Sm 1000 t.q := by
  obtain ⟨_, h2, h3⟩ := T3x.parts h
  unfold T3x.good at h
  simp only [Bool.and_eq_true] at h
  exact ⟨by rw [h2]; exact sz_small h.2.2.2.1, by rw [h3]; exact sz_small h.2.2.2.2⟩
noncomputable def t3V (v : Value) : M Nat T3x := match v with
  | .agg cs => match cs.toList with
    | [a, x, y] => match a with
      | .bool s => bind (natV x) fun n => bind (natV y) fun d => cond (T3x.good ⟨s, n, d⟩) (ret ⟨s, n, d⟩) fail
      | _ => fail
    | _ => fail
  | _ => fail
theorem loc_t3V (v : Value) : Loc (t3V v) := by
  unfold t3V
  (repeat' split) <;> first | exact loc_fail | exact loc_bind (loc_natV _) fun _ => loc_bind (loc_natV _) fun _ => loc_cond (loc_ret _) loc_fail
section
variable {h h' : Tr (Blk Nat)} {nx nx' : Nat} {R W : List Nat} {r : Ren} {w : World} {v v' : Value}
theorem t3V_ok {t : T3x} (e : t3V v h nx = .ok t h' nx' R W) (hv : VR r v v') (hM : Mod natSig r h.get w) : h' = h ∧ nx' = nx ∧ W = [] ∧ NumIn w v' t.q ∧ t.good = true := by
  unfold t3V at e
  cases v with
  | agg cs =>
    obtain ⟨l⟩ := cs
    simp only at e
    rcases l with _ | ⟨a, _ | ⟨x, _ | ⟨y, _ | ⟨z, l⟩⟩⟩⟩ <;> first | (cases (show (fail : M Nat T3x) h nx = _ from e); done) | skip
    cases a with
    | bool s =>
      cases hv with
      | same p => simp [plain] at p
      | agg ha =>
        cases ha with
        | cons a1 ha => cases ha with
          | cons a2 ha => cases ha with
            | cons a3 ha =>
              cases ha
              obtain rfl := a1.bool
              obtain ⟨n, h1, nx1, R1, W1, R2, W2, e1, e2, rfl, rfl⟩ := bind_ok (show (bind (natV x) (fun n => bind (natV y) fun d => cond (T3x.good (T3x.mk s n d)) (ret (T3x.mk s n d)) fail) : M Nat T3x) h nx = _ from e)
              obtain ⟨rfl, rfl, rfl, hn⟩ := natV_ok e1 a2 hM
              obtain ⟨d, h2, nx2, R3, W3, R4, W4, e3, e4, rfl, rfl⟩ := bind_ok e2
              obtain ⟨rfl, rfl, rfl, hd⟩ := natV_ok e3 a3 hM
              obtain ⟨hg, e5⟩ := cond_ok e4
              obtain ⟨rfl, rfl, rfl, rfl⟩ := ret_ok e5
              obtain ⟨p1, p2, p3⟩ := T3x.parts hg
              refine ⟨rfl, rfl, by simp, ⟨_, _, ?_, by rw [p2]; exact hn, by rw [p3]; exact hd⟩, hg⟩
              rw [p1]
    | _ => exact absurd (show (fail : M Nat T3x) h nx = _ from e) (by simp [fail])
  | _ => exact absurd (show (fail : M Nat T3x) h nx = _ from e) (by simp [fail])
noncomputable def newT (t : T3x) : M Nat Value := bind (newFact t.n) fun x => bind (newFact t.d) fun y => ret (.agg ⟨[.bool t.s, x, y]⟩)
theorem loc_newT (t : T3x) : Loc (newT t) := loc_bind (loc_newFact _) fun _ => loc_bind (loc_newFact _) fun _ => loc_ret _
theorem newT_ok {w' : World} {t : T3x} {q : Rat} (e : newT t h nx = .ok v h' nx' R W) (hM : Mod natSig r h.get w) (hN : New r nx nx') (hb : Below w.heap.size w w') (hq : NumIn w' v' q) (p : Big.ng q = t.s ∧ Big.nu q = t.n ∧ Big.de q = t.d) :
    ∃ r', VR r' v v' ∧ Ext natSig r w nx nx' W h'.get r' w' := by
  obtain ⟨a, b, rfl, ha, hb'⟩ := hq
  obtain ⟨p1, p2, p3⟩ := p
  rw [p2] at ha
  rw [p3] at hb'
  rw [p1]
  obtain ⟨i, h1, nx1, R1, W1, R2, W2, e1, e2, rfl, rfl⟩ := bind_ok e
  obtain ⟨i1, g1, nx3, R5, W5, R6, W6, e5, e6, rfl, rfl⟩ := bind_ok e1
  obtain ⟨rfl, rfl, rfl, rfl⟩ := ret_ok e6
  unfold fresh at e5
  cases e5
  obtain ⟨j, h2, nx2, R3, W3, R4, W4, e3, e4, rfl, rfl⟩ := bind_ok e2
  obtain ⟨rfl, rfl, rfl, rfl⟩ := ret_ok e4
  obtain ⟨j1, g2, nx4, R7, W7, R8, W8, e7, e8, rfl, rfl⟩ := bind_ok e3
  obtain ⟨rfl, rfl, rfl, rfl⟩ := ret_ok e8
  unfold fresh at e7
  cases e7
  obtain ⟨r1, hX, hr⟩ := ext_fact (S := natSig) (f := t.n) hM hb (hN.sub (Nat.le_refl _) (by omega)) ha (nat_one ha)
  have hX' := hX.congr (g' := (h.set nx (.fact t.n)).get) fun n => .inr (Tr.get_set _ _ _ _)
  have hN2 := New.after (hN.sub (lo' := nx) (hi' := nx + 1 + 1) (Nat.le_refl _) (by omega)) hX (by omega)
  obtain ⟨r2, hY, hs⟩ := ext_fact (S := natSig) (f := t.d) hX'.mod (Below.refl _ w') hN2 hb' (nat_one hb')
  refine ⟨r2, .agg (.cons (.same rfl) (.cons (.opq (hY.le.val _ _ hr) (nat_one ha)) (.cons (.opq hs (nat_one hb')) .nil))), ?_⟩
  have hZ := hX'.trans hY (by omega) (by omega)
  refine Ext.congr (by simpa using hZ) fun n => .inr ?_
  rw [Tr.get_set]
noncomputable def fracTx (N : Int) (D : Nat) : T3x := ⟨decide (N < 0), N.natAbs / Nat.gcd N.natAbs D, D / Nat.gcd N.natAbs D⟩
noncomputable def isT (N : Int) (D : Nat) (t : T3x) : Bool := t.good && (Nat.ble 1 D && decide (Big.sI t.s t.n * (D : Int) = N * (t.d : Int)))
theorem isT_ok {N : Int} {D : Nat} {t : T3x} (h : isT N D t = true) {q : Rat} (hq : q = mkRat N D) : Big.ng q = t.s ∧ Big.nu q = t.n ∧ Big.de q = t.d := by
  unfold isT at h
  simp only [Bool.and_eq_true, decide_eq_true_eq] at h
  obtain ⟨h1, h2, h3⟩ := h
  have h2 := Nat.le_of_ble_eq_true h2
  unfold T3x.good at h1
  simp only [Bool.and_eq_true, Bool.or_eq_true, Bool.not_eq_true'] at h1
  obtain ⟨g1, g2, g3, -⟩ := h1
  refine Big.parts (Nat.le_of_ble_eq_true g1) (Nat.eq_of_beq_eq_true g2) (fun hs => ?_) (show D ≠ 0 by omega) h3 hq
  rcases g3 with g3 | g3
  · rw [hs] at g3; cases g3
  · exact Nat.le_of_ble_eq_true g3
noncomputable def outT (N : Int) (D : Nat) : M Nat Value := cond (isT N D (fracTx N D)) (newT (fracTx N D)) fail
theorem loc_outT (N : Int) (D : Nat) : Loc (outT N D) := loc_cond (loc_newT _) loc_fail
theorem goes_T {N : Int} {D : Nat} {q : Rat} {f : FuncId} {args' : List Value} (e : outT N D h nx = .ok v h' nx' R W) (hq : q = mkRat N D) (hM : Mod natSig r h.get w) (hN : New r nx nx') (c : Calls Tryz.prog f ⟨args'⟩ w (Num1 w q)) : Goes f args' r w nx nx' W h'.get v := by
  obtain ⟨hk, e1⟩ := cond_ok e
  refine c.mono ?_
  rintro en w' ⟨u, rfl, hu, hb⟩
  obtain ⟨r', hv, hX⟩ := newT_ok e1 hM hN hb hu (isT_ok hk hq)
  exact ⟨u, r', rfl, hv, hX⟩
noncomputable def tt2 (args : List Value) (k : T3x → T3x → M Nat Value) : Option (M Nat Value) := match args with
  | [a, b] => some (bind (t3V a) fun x => bind (t3V b) fun y => k x y)
  | _ => none
end
theorem tt2_ok {f : FuncId} {k : T3x → T3x → M Nat Value} (hl : ∀ x y, Loc (k x y)) (hk : ∀ x y (h : Tr (Blk Nat)) nx v h' nx' R W, k x y h nx = .ok v h' nx' R W → ∀ r w a b, NumIn w a x.q → NumIn w b y.q → x.good = true → y.good = true → Mod natSig r h.get w → New r nx nx' → Goes f [a, b] r w nx nx' W h'.get v) :
    SumF natSig Tryz.prog f (fun args => tt2 args k) := by
  intro args m e
  unfold tt2 at e
  rcases args with _ | ⟨a, _ | ⟨b, _ | ⟨c, l⟩⟩⟩ <;> simp only [reduceCtorEq, Option.some.injEq] at e
  subst e
  refine ⟨loc_bind (loc_t3V a) fun n => loc_bind (loc_t3V b) fun m => hl n m, ?_⟩
  intro h nx v h' nx' R W e r w args' ha hM hN
  cases ha with
  | cons ha1 ha2 =>
    cases ha2 with
    | cons hb1 hb2 =>
      cases hb2
      obtain ⟨n, h1, nx1, R1, W1, R2, W2, e1, e2, rfl, rfl⟩ := bind_ok e
      obtain ⟨rfl, rfl, rfl, hn, gn⟩ := t3V_ok e1 ha1 hM
      obtain ⟨m, h2, nx2, R3, W3, R4, W4, e3, e4, rfl, rfl⟩ := bind_ok e2
      obtain ⟨rfl, rfl, rfl, hm, gm⟩ := t3V_ok e3 hb1 hM
      simpa [Goes] using hk n m _ _ _ _ _ _ _ e4 r w _ _ hn hm gn gm hM hN
theorem T3x.pos {t : T3x} (h : t.good = true) : t.d ≠ 0 := by
  unfold T3x.good at h
  simp only [Bool.and_eq_true] at h
  have := Nat.le_of_ble_eq_true h.1
  omega
theorem tsum_mul : SumF natSig Tryz.prog 91 (fun args => tt2 args fun x y => outT (Big.sI x.s x.n * Big.sI y.s y.n) (x.d * y.d)) :=
  tt2_ok (fun _ _ => loc_outT _ _) fun x y h nx v h' nx' R W e r w a b ha hb gx gy hM hN =>
    goes_T e (by unfold T3x.q; rw [Rat.mkRat_mul_mkRat]) hM hN (exMul_any w a b _ _ 1000 ha hb (T3x.sm gx) (T3x.sm gy) (by omega))
theorem tsum_add : SumF natSig Tryz.prog 55 (fun args => tt2 args fun x y => outT (Big.sI x.s x.n * (y.d : Int) + Big.sI y.s y.n * (x.d : Int)) (x.d * y.d)) :=
  tt2_ok (fun _ _ => loc_outT _ _) fun x y h nx v h' nx' R W e r w a b ha hb gx gy hM hN =>
    goes_T e (by unfold T3x.q; rw [Rat.mkRat_add_mkRat _ _ (T3x.pos gx) (T3x.pos gy)]) hM hN (exAdd_any w a b _ _ 1000 ha hb (T3x.sm gx) (T3x.sm gy) (by omega))
theorem tsum_sub : SumF natSig Tryz.prog 51 (fun args => tt2 args fun x y => outT (Big.sI x.s x.n * (y.d : Int) + -Big.sI y.s y.n * (x.d : Int)) (x.d * y.d)) :=
  tt2_ok (fun _ _ => loc_outT _ _) fun x y h nx v h' nx' R W e r w a b ha hb gx gy hM hN =>
    goes_T e (by unfold T3x.q; rw [Rat.sub_eq_add_neg, Rat.neg_mkRat, Rat.mkRat_add_mkRat _ _ (T3x.pos gx) (T3x.pos gy)]) hM hN (exSub_any w a b _ _ 1000 ha hb (T3x.sm gx) (T3x.sm gy) (by omega))
theorem quoX_mk {s s' : Bool} {n d n' d' : Nat} (hd : d ≠ 0) (hd' : d' ≠ 0) (hn : n' ≠ 0) : mkRat (Big.sI s n) d / mkRat (Big.sI s' n') d' = mkRat (Big.sI s n * Big.sI s' d') (d * n') := by
  have h1 : mkRat (Big.sI s' n') d' * mkRat (Big.sI s' d') n' = 1 := by
    rw [Rat.mkRat_mul_mkRat]
    have : Big.sI s' n' * Big.sI s' d' = ((d' * n' : Nat) : Int) := by cases s' <;> simp [Big.sI] <;> grind
    rw [this]
    show mkRat ((d' * n' : Nat) : Int) (d' * n') = 1
    have h0 : d' * n' ≠ 0 := Nat.mul_ne_zero hd' hn
    rw [show (1 : Rat) = mkRat 1 1 by rfl, Rat.mkRat_eq_iff h0 (by decide)]
    simp
  have h2 : mkRat (Big.sI s' n') d' ≠ 0 := fun e => by rw [e, Rat.zero_mul] at h1; exact absurd h1 (by decide)
  rw [Rat.div_def, ← Rat.mkRat_mul_mkRat]
  congr 1
  have h3 : (mkRat (Big.sI s' n') d')⁻¹ * (mkRat (Big.sI s' n') d' * mkRat (Big.sI s' d') n') = (mkRat (Big.sI s' n') d')⁻¹ := by rw [h1, Rat.mul_one]
  rw [← h3, ← Rat.mul_assoc, Rat.inv_mul_cancel _ h2, Rat.one_mul]
theorem tsum_quo : SumF natSig Tryz.prog 54 (fun args => tt2 args fun x y => cond (Nat.ble 1 y.n) (outT (Big.sI x.s x.n * Big.sI y.s y.d) (x.d * y.n)) fail) :=
  tt2_ok (fun _ _ => loc_cond (loc_outT _ _) loc_fail) fun x y h nx v h' nx' R W e r w a b ha hb gx gy hM hN => by
    obtain ⟨hk, e1⟩ := cond_ok e
    have hn := Nat.le_of_ble_eq_true hk
    exact goes_T e1 (by unfold T3x.q; exact quoX_mk (T3x.pos gx) (T3x.pos gy) (by omega)) hM hN (exQuo_any w a b _ _ 1000 ha hb (T3x.sm gx) (T3x.sm gy) (by omega) (by rw [(T3x.parts gy).2.1]; omega))
noncomputable def leadB (l : List UInt8) : Bool := match l with
  | [] => true
  | c :: _ => !(Nat.beq c.toNat 0)
theorem leadB_ok {l : List UInt8} (h : leadB l = true) : Lead l := by
  cases l with
  | nil => simp [Lead]
  | cons c l =>
    intro e
    simp at e
    subst e
    cases h
theorem bst_of {s : ByteArray} (h : leadB s.data.toList = true) : bst (Big.bnum s.data.toList) = s := by
  obtain ⟨⟨l⟩⟩ := s
  show (⟨(btx (Big.bnum l)).toArray⟩ : ByteArray) = _
  rw [btx_bnum (leadB_ok h)]
noncomputable def readKx (s : Bool) (a b : ByteArray) : M Nat Value := cond (leadB a.data.toList && (leadB b.data.toList && (T3x.good ⟨s, Big.bnum a.data.toList, Big.bnum b.data.toList⟩ && (Nat.ble a.size 512 && Nat.ble b.size 512))))
  (bind (newT ⟨s, Big.bnum a.data.toList, Big.bnum b.data.toList⟩) fun v => ret (.tuple ⟨[v, .bool true]⟩)) fail
noncomputable def readable (s : Bool) (a b : ByteArray) : Bool := leadB a.data.toList && (leadB b.data.toList && (T3x.good ⟨s, Big.bnum a.data.toList, Big.bnum b.data.toList⟩ && (Nat.ble a.size 512 && Nat.ble b.size 512)))
noncomputable def readS (args : List Value) : Option (M Nat Value) := match args with
  | [v] => match v with
    | .agg cs => match cs.toList with
      | [x, y, z] => match x with
        | .bool s => match y with
          | .string a => match z with
            | .string b => cond (readable s a b) (some (readKx s a b)) none
            | _ => none
          | _ => none
        | _ => none
      | _ => none
    | _ => none
  | _ => none
theorem tsum_read : SumF natSig Tryz.prog 24 readS := by
  intro args m e
  unfold readS at e
  rcases args with _ | ⟨v, _ | ⟨c, l⟩⟩ <;> simp only [reduceCtorEq] at e
  cases v <;> simp only [reduceCtorEq] at e
  rename_i cs
  obtain ⟨l⟩ := cs
  simp only at e
  rcases l with _ | ⟨x, _ | ⟨y, _ | ⟨z, _ | ⟨u, l⟩⟩⟩⟩ <;> simp only [reduceCtorEq] at e
  cases x <;> simp only [reduceCtorEq] at e
  rename_i s
  cases y <;> simp only [reduceCtorEq] at e
  rename_i a
  cases z <;> simp only [reduceCtorEq] at e
  rename_i b
  cases hk : readable s a b with
  | false => rw [hk] at e; cases e
  | true =>
    rw [hk] at e
    cases e
    refine ⟨loc_cond (loc_bind (loc_newT _) fun _ => loc_ret _) loc_fail, ?_⟩
    intro h nx v h' nx' R W e r w args' ha hM hN
    obtain ⟨_, e1⟩ := cond_ok e
    obtain ⟨u, h1, nx1, R1, W1, R2, W2, e2, e3, rfl, rfl⟩ := bind_ok e1
    obtain ⟨rfl, rfl, rfl, rfl⟩ := ret_ok e3
    unfold readable at hk
    simp only [Bool.and_eq_true] at hk
    obtain ⟨k1, k2, k3, k4, k5⟩ := hk
    obtain ⟨p1, p2, p3⟩ := T3x.parts k3
    obtain rfl : args' = [.agg ⟨[.bool s, .string a, .string b]⟩] := by
      cases ha with
      | cons q1 q2 => cases q2; rw [q1.eq_of_plain2 rfl]
    have hf : Fit (T3x.q ⟨s, Big.bnum a.data.toList, Big.bnum b.data.toList⟩) := by
      refine ⟨?_, ?_⟩
      · rw [p2]; show szN (Big.bnum a.data.toList) ≤ 512; have := congrArg ByteArray.size (bst_of k1); rw [bst_size] at this; have := Nat.le_of_ble_eq_true k4; omega
      · rw [p3]; show szN (Big.bnum b.data.toList) ≤ 512; have := congrArg ByteArray.size (bst_of k2); rw [bst_size] at this; have := Nat.le_of_ble_eq_true k5; omega
    have hc := exRead_ok w _ hf
    rw [p1, p2, p3] at hc
    simp only at hc
    rw [bst_of k1, bst_of k2] at hc
    refine hc.mono ?_
    rintro en w' ⟨u', rfl, hu, hb⟩
    obtain ⟨r', hv, hX⟩ := newT_ok e2 hM hN hb hu ⟨p1, p2, p3⟩
    exact ⟨_, r', rfl, .tuple (.cons hv (.cons (.same rfl) .nil)), by simpa using hX⟩
end Ev
end Go.Proofs.YtfmebfkdpfbjbaaGreatDoor
namespace Go.Proofs.YtfmebfkdpfbjbaaGreatDoor
open Go.RowKit
set_option maxRecDepth 100000 in
theorem slice_on (b o d len c : Nat) (hd : d ≤ len) (hc : d ≠ c) (W : World) :
    (Instr.slice 69 (.slice (some ⟨b, o, none⟩) len c) (some (.int .i64 (d : Int))) none none).run Tryz.prog W = .ok (.slice (some ⟨b, o + d, none⟩) (len - d) (c - d)) W := by
  have e : Tryz.prog.elem 69 = 95 := by kernel_rfl
  have hs : (sizeOf 95).run Tryz.prog W = .ok 1 W := by kernel_rfl
  rw [run_slice_l (P := Tryz.prog) (w := W) 69 (some ⟨b, o, none⟩) len c (by rw [e]; exact Tryz.underlying69) .i64 (d : Int) (by omega) (by omega), e, hs]
  show Result.ok _ W = _
  simp only [sliced, Int.toNat_natCast, Nat.mul_one]
  rw [if_neg (by omega)]
  congr 1
  simp [Addr.add]
theorem drop_val {l : List Nat} {d : Nat} (ol : Big.Ok Big.M64 l) (hd : d ≤ l.length) : Big.val Big.M64 (l.drop d) = Big.val Big.M64 l / 2 ^ (64 * d) := by
  have h1 := Big.val_take_drop (B := Big.M64) l d hd
  have h2 := Big.val_lt (B := Big.M64) (l.take d) (ol.take d)
  rw [List.length_take, Nat.min_eq_left hd] at h2
  rw [← M64_pow, h1, Nat.add_mul_div_left _ _ (Nat.pow_pos Big.M64_pos), Nat.div_eq_of_lt h2, Nat.zero_add]
set_option maxRecDepth 100000 in
set_option maxHeartbeats 2000000 in
theorem shr_words (w : World) (v : Value) (l : List Nat) (d s : Nat) (h : Wd w .u64 v l) (ol : Big.Ok Big.M64 l) (hs : s ≤ 63) (hd : d < l.length) (h0 : 64 * d + s ≠ 0) (hl : l.length ≤ 1000000000) :
    Calls Tryz.prog 221 #[v, .int .i64 ((64 * d + s : Nat) : Int)] w (Nat1 w (Big.val Big.M64 l / 2 ^ (64 * d + s))) := by
  obtain ⟨A, c, rfl, h1, h2, h3⟩ := h
  obtain ⟨b, o, rfl, hlt, hc, hty⟩ := h3 (by omega)
  have hdl : (l.drop d).length = l.length - d := List.length_drop
  have hw2 : Wd w .u64 (.slice (some ⟨b, o + d, none⟩) (l.length - d) (c - d)) (l.drop d) := by
    refine ⟨_, c - d, by rw [hdl], by omega, by omega, fun _ => ⟨b, o + d, rfl, hlt, fun i hi => ?_, hty⟩⟩
    rw [hdl] at hi
    rw [Nat.add_assoc, hc (d + i) (by omega)]
    unfold Big.nth
    rw [List.getD_eq_getElem?_getD, List.getD_eq_getElem?_getD, List.getElem?_drop]
  have CL := Lib.hid (clone_any w _ _ hw2 (by omega))
  have HS := Lib.hid (fun W => slice_on b o d l.length c (by omega) (by omega) W)
  have HV := Lib.hid (drop_val (d := d) ol (by omega))
  have OD := Lib.hid (ol.drop d)
  rw [hdl] at CL
  obtain ⟨n, hn⟩ : ∃ n : Int, ((64 * d + s : Nat) : Int) = n := ⟨_, rfl⟩
  have q1 : Int.tdiv n 64 = d := by subst hn; rw [Int.tdiv_eq_ediv_of_nonneg (Int.natCast_nonneg _)]; omega
  have q2 : Int.tmod n 64 = s := by subst hn; rw [Int.tmod_eq_emod_of_nonneg (Int.natCast_nonneg _)]; omega
  have q3 : (n ≤ 0) = False := by rw [eq_iff_iff, iff_false]; omega
  have q4 : ((l.length : Int) ≤ (d : Int)) = False := by rw [eq_iff_iff, iff_false]; omega
  have hwr : IntKind.i64.wrap ((d : Nat) : Int) = (d : Int) := by rw [IntKind.wrap_i64]; omega
  rw [hn, Nat.pow_add, ← Nat.div_div_eq_div_mul, ← HV.out]
  have hsl := HS.out w
  clear h3 hc hty hw2 hn h0 ol HV
  go_enter Tryz.func221, Tryz.ntmps221
  go_wp2_with fail
  refine CL.out.mono ?_
  rintro e w1 ⟨rfl, hb, hw1⟩
  have CB := Lib.hid (shiftedBack_any w1 w.heap.size (l.length - d) (l.length - d + 1) s (l.drop d) [0] hb hdl (by omega) (by omega) OD.out hs)
  have HW1 := Lib.hid hw1
  clear hb hw1 CL HS OD hsl
  go_wp2_with fail
  refine CB.out.mono ?_
  rintro e w2 ⟨v', rfl, hv, ho, -⟩
  go_wp2_with fail
  go_ret
  exact ⟨v', rfl, hv, ho.below HW1.out (Nat.le_refl _) HW1.out.size⟩
set_option maxRecDepth 100000 in
theorem shr_num (w : World) (v : Value) (N : Nat) (n : Int) (h : NatIn w v N) (hN : Sz 1000 N) (hn : n ≤ 1000000) :
    Calls Tryz.prog 221 #[v, .int .i64 n] w (Nat1 w (N / 2 ^ n.toNat)) := by
  have HN := Lib.hid h
  obtain ⟨l, h1, h2, h3, h4⟩ := h
  have hl : l.length ≤ 1000 := len_of_lt h3 (by rw [h4]; exact hN.out)
  by_cases n0 : n ≤ 0
  · obtain ⟨A, c, rfl, -, -, -⟩ := h1
    rw [show n.toNat = 0 by omega, Nat.pow_zero, Nat.div_one]
    clear hN h2 h3 h4
    go_enter Tryz.func221, Tryz.ntmps221
    go_wp2
    go_ret
    exact ⟨_, rfl, HN.out, Below.refl _ _⟩
  · obtain ⟨k, rfl⟩ : ∃ k : Nat, n = (k : Int) := ⟨n.toNat, by omega⟩
    rw [Int.toNat_natCast]
    by_cases hd : k / 64 < l.length
    · have := shr_words w v l (k / 64) (k % 64) h1 h2 (by omega) hd (by omega) (by omega)
      rw [show 64 * (k / 64) + k % 64 = k by omega, h4] at this
      exact this
    · have e0 : N / 2 ^ k = 0 := by
        apply Nat.div_eq_of_lt
        have h5 := Big.val_lt l h2
        rw [h4, M64_pow] at h5
        exact Nat.lt_of_lt_of_le h5 (Nat.pow_le_pow_right (by omega) (by omega))
      rw [e0]
      obtain ⟨A, c, rfl, -, -, -⟩ := h1
      have q1 : Int.tdiv (k : Int) 64 = ((k / 64 : Nat) : Int) := by rw [Int.tdiv_eq_ediv_of_nonneg (Int.natCast_nonneg _)]; omega
      have q4 : ((l.length : Int) ≤ ((k / 64 : Nat) : Int)) = True := by rw [eq_iff_iff, iff_true]; omega
      have hwr : IntKind.i64.wrap ((k / 64 : Nat) : Int) = ((k / 64 : Nat) : Int) := by rw [IntKind.wrap_i64]; omega
      generalize k / 64 = d at *
      clear hN h2 h3 h4 e0 HN
      go_enter Tryz.func221, Tryz.ntmps221
      go_wp2
      go_ret
      exact ⟨_, rfl, NatIn.nil_ _, Below.refl _ _⟩
end Go.Proofs.YtfmebfkdpfbjbaaGreatDoor
namespace Go.Proofs.YtfmebfkdpfbjbaaGreatDoor
open Go Go.RowKit
namespace Ev
noncomputable def shrS (args : List Value) : Option (M Nat Value) := match args with
    | [a, b] => match b with
      | .int k s => cond (decide (k = .i64) && decide (s ≤ 1000000)) (some (bind (natV a) fun n => cond (small n) (newFact (n / 2 ^ s.toNat)) fail)) none
      | _ => none
    | _ => none
theorem sum_shr : SumF natSig Tryz.prog 221 shrS := by
  intro args m e
  unfold shrS at e
  rcases args with _ | ⟨a, _ | ⟨b, _ | ⟨c, l⟩⟩⟩ <;> simp only [reduceCtorEq] at e
  cases b with
  | int k s =>
    simp only at e
    cases hk : (decide (k = .i64) && decide (s ≤ 1000000)) with
    | false => rw [hk] at e; cases e
    | true =>
      rw [hk] at e
      simp only [cond_true, Option.some.injEq] at e
      subst e
      simp only [Bool.and_eq_true, decide_eq_true_eq] at hk
      refine ⟨loc_bind (loc_natV a) fun n => loc_cond (loc_newFact _) loc_fail, ?_⟩
      intro h nx v h' nx' R W e r w args' ha hM hN
      cases ha with
      | cons ha1 ha2 =>
        cases ha2 with
        | cons hb1 hb2 =>
          cases hb2
          obtain ⟨n, h1, nx1, R1, W1, R2, W2, e1, e2, rfl, rfl⟩ := bind_ok e
          obtain ⟨rfl, rfl, rfl, hn⟩ := natV_ok e1 ha1 hM
          obtain ⟨hs, e5⟩ := cond_ok e2
          have hb := hb1.int
          subst hb
          rw [hk.1]
          simpa [Goes] using goes_new e5 hM hN (shr_num w _ n s hn (sz_small hs) hk.2)
  | _ => simp at e
end Ev
end Go.Proofs.YtfmebfkdpfbjbaaGreatDoor
namespace Go.Proofs.YtfmebfkdpfbjbaaGreatDoor
open Go.RowKit
set_option maxRecDepth 100000 in
set_option maxHeartbeats 2000000 in
theorem pmul_any (p x y : Nat) (hx : x < 18446744073709551616) (hy : y < 18446744073709551616) (hp : p < 18446744073709551616) (h : hi64 (x * y) < p) (w : World) :
    Calls Tryz.prog 236 #[.int .u64 (p : Int), .int .u64 (x : Int), .int .u64 (y : Int)] w fun e w' => e = .returned (.int .u64 ((x * y % p : Nat) : Int)) ∧ Drew w w' := by
  have HM := Lib.hid (mul64 x y hx hy)
  have HE : (hi64 (x * y) * Big.M64 + lo64 (x * y)) % p = x * y % p := by
    congr 1
    have e := Nat.div_add_mod (x * y) Big.M64
    show x * y / Big.M64 * Big.M64 + x * y % Big.M64 = x * y
    rw [Nat.mul_comm]; exact e
  have HD := div64_call (hi64 (x * y)) (lo64 (x * y)) p h (lo64_lt _) hp
  rw [HE] at HD
  generalize (hi64 (x * y) * Big.M64 + lo64 (x * y)) / p = Q at HD
  generalize x * y % p = R at HD ⊢
  replace HD := Lib.hid HD
  clear hx hy hp h HE
  go_enter Tryz.func236, Tryz.ntmps236
  go_wp2_with (first
    | (go_at_call 249; refine (HM.out _).mono ?_; rintro e w' ⟨rfl, rfl⟩)
    | (go_at_call 187; refine (HD.out _).mono ?_; rintro e w' ⟨rfl, n, rfl⟩))
  go_ret
  exact ⟨rfl, ⟨_, rfl⟩⟩
end Go.Proofs.YtfmebfkdpfbjbaaGreatDoor
namespace Go.Proofs.YtfmebfkdpfbjbaaGreatDoor
open Go Go.RowKit
namespace Ev
noncomputable def u64of (v : Value) : Option Nat := match v with
  | .int k s => match s with
    | .ofNat n => cond (decide (k = .u64) && Nat.ble (Nat.succ n) 18446744073709551616) (some n) none
    | _ => none
  | _ => none
theorem u64of_ok {v : Value} {n : Nat} (h : u64of v = some n) : v = .int .u64 (n : Int) ∧ n < 18446744073709551616 := by
  unfold u64of at h
  cases v with
  | int k z =>
    cases z with
    | ofNat m =>
      simp only at h
      cases hk : (decide (k = .u64) && Nat.ble (Nat.succ m) 18446744073709551616) with
      | false => rw [hk] at h; cases h
      | true =>
        rw [hk] at h
        cases h
        simp only [Bool.and_eq_true, decide_eq_true_eq] at hk
        exact ⟨by rw [hk.1]; rfl, Nat.le_of_ble_eq_true hk.2⟩
    | negSucc m => cases h
  | _ => cases h
noncomputable def restS (args : List Value) : Option (M Nat Value) := match args with
  | [a, b] => match u64of b with
    | some y => cond (Nat.ble 1 y) (some (bind (natV a) fun n => cond (small n) (ret (.int .u64 ((Nat.mod n y : Nat) : Int))) fail)) none
    | none => none
  | _ => none
theorem sum_rest : SumF natSig Tryz.prog 119 restS := by
  intro args m e
  unfold restS at e
  rcases args with _ | ⟨a, _ | ⟨b, _ | ⟨c, l⟩⟩⟩ <;> simp only [reduceCtorEq] at e
  cases hb : u64of b with
  | none => rw [hb] at e; cases e
  | some y =>
    rw [hb] at e
    simp only at e
    cases hk : Nat.ble 1 y with
    | false => rw [hk] at e; cases e
    | true =>
      rw [hk] at e
      cases e
      obtain ⟨rfl, hy⟩ := u64of_ok hb
      refine ⟨loc_bind (loc_natV a) fun n => loc_cond (loc_ret _) loc_fail, ?_⟩
      intro h nx v h' nx' R W e r w args' ha hM hN
      cases ha with
      | cons ha1 ha2 => cases ha2 with
        | cons hb1 hb2 =>
          cases hb2
          obtain rfl := hb1.int
          obtain ⟨n, h1, nx1, R1, W1, R2, W2, e1, e2, rfl, rfl⟩ := bind_ok e
          obtain ⟨rfl, rfl, rfl, hn⟩ := natV_ok e1 ha1 hM
          obtain ⟨hs, e3⟩ := cond_ok e2
          obtain ⟨l, hw, ol, nl, rfl⟩ := hn
          have hsz := (sz_small hs).out
          have hlen : l.length ≤ 1000 := by
            rcases Nat.lt_or_ge 1000 l.length with q | q
            · have hne : l ≠ [] := fun e => by rw [e] at q; simp at q
              have h1 := Big.norm_ge (B := Big.M64) l nl hne
              have h2 := Nat.lt_of_le_of_lt h1 hsz
              have h3 := (Nat.pow_lt_pow_iff_right (show 1 < Big.M64 by decide)).1 h2
              omega
            · exact q
          simpa [Goes] using goes_val e3 rfl hM (drew_below (restWord_any w _ l y hw ol (Nat.le_of_ble_eq_true hk) hy (by omega)))
noncomputable def mulP (args : List Value) : Option (M Nat Value) := match args with
  | [a, b, c] => match u64of a with
    | some p => match u64of b with
      | some x => match u64of c with
        | some y => cond (Nat.ble (Nat.succ (Nat.div (Nat.mul x y) Big.M64)) p) (some (ret (.int .u64 ((Nat.mod (Nat.mul x y) p : Nat) : Int)))) none
        | none => none
      | none => none
    | none => none
  | _ => none
theorem sum_mulP : SumF natSig Tryz.prog 236 mulP := by
  intro args m e
  unfold mulP at e
  rcases args with _ | ⟨a, _ | ⟨b, _ | ⟨c, _ | ⟨d, l⟩⟩⟩⟩ <;> simp only [reduceCtorEq] at e
  cases hp : u64of a with
  | none => rw [hp] at e; cases e
  | some p =>
    rw [hp] at e; simp only at e
    cases hx : u64of b with
    | none => rw [hx] at e; cases e
    | some x =>
      rw [hx] at e; simp only at e
      cases hy : u64of c with
      | none => rw [hy] at e; cases e
      | some y =>
        rw [hy] at e; simp only at e
        cases hk : Nat.ble (Nat.succ (Nat.div (Nat.mul x y) Big.M64)) p with
        | false => rw [hk] at e; cases e
        | true =>
          rw [hk] at e
          cases e
          obtain ⟨rfl, h1⟩ := u64of_ok hp
          obtain ⟨rfl, h2⟩ := u64of_ok hx
          obtain ⟨rfl, h3⟩ := u64of_ok hy
          refine ⟨loc_ret _, ?_⟩
          intro h nx v h' nx' R W e r w args' ha hM hN
          cases ha with
          | cons ha1 ha => cases ha with
            | cons ha2 ha => cases ha with
              | cons ha3 ha =>
                cases ha
                obtain rfl := ha1.int
                obtain rfl := ha2.int
                obtain rfl := ha3.int
                simpa [Goes] using goes_val e rfl hM (drew_below (pmul_any p x y h2 h3 h1 (Nat.le_of_ble_eq_true hk) w))
end Ev
end Go.Proofs.YtfmebfkdpfbjbaaGreatDoor
namespace Go.Proofs.YtfmebfkdpfbjbaaGreatDoor
open Go Go.RowKit
namespace Ev
section
variable {F : Type} {S : Sig F} {P : Program}
noncomputable def geAll (k : Nat) (l : List Nat) : Bool := List.rec (motive := fun _ => Bool) true (fun n _ ih => Bool.rec (motive := fun _ => Bool) false ih (Nat.ble k n)) l
theorem geAll_ok {k : Nat} : ∀ {l : List Nat}, geAll k l = true → ∀ n ∈ l, k ≤ n
  | [], _, n, hn => by simp at hn
  | m :: l, h, n, hn => by
    have h' : (Bool.rec (motive := fun _ => Bool) false (geAll k l) (Nat.ble k m) : Bool) = true := h
    cases hb : Nat.ble k m with
    | false => rw [hb] at h'; cases h'
    | true =>
      rw [hb] at h'
      rcases List.mem_cons.1 hn with rfl | hn
      · exact Nat.le_of_ble_eq_true hb
      · exact geAll_ok h' n hn
noncomputable def plains (l : List Value) : Bool := plainL plain2 l
theorem plains_ok {r : Ren} : ∀ {l : List Value}, plains l = true → VsR r l l
  | [], _ => .nil
  | v :: l, h => by
    have h' : (plain2 v && plains l) = true := h
    simp only [Bool.and_eq_true] at h'
    exact .cons (VR.same2 h'.1) (plains_ok h'.2)
theorem VsR_eq {r : Ren} : ∀ {l l' : List Value}, plains l = true → VsR r l l' → l' = l
  | [], _, _, h => by cases h; rfl
  | v :: l, _, hp, h => by
    have h' : (plain2 v && plains l) = true := hp
    simp only [Bool.and_eq_true] at h'
    cases h with
    | cons a b => rw [a.eq_of_plain2 h'.1, VsR_eq h'.2 b]
noncomputable def plain3 (v : Value) : Bool := match v with
  | .tuple cs => plains cs.toList
  | v => plain2 v
theorem same3 {r : Ren} {v : Value} (h : plain3 v = true) : VR r v v := by
  cases v with
  | tuple cs => cases cs; exact .tuple (plains_ok (by simpa [plain3] using h))
  | _ => exact VR.same2 h
theorem eq_of_plain3 {r : Ren} {v v' : Value} (h : VR r v v') (hp : plain3 v = true) : v' = v := by
  cases h with
  | tuple a => rw [VsR_eq (by simpa [plain3] using hp) a]
  | same p => rfl
  | ptr p => exact (VR.ptr p).eq_of_plain2 hp
  | slice p hc => exact (VR.slice p hc).eq_of_plain2 hp
  | slicex p hc h1 h2 => exact (VR.slicex p hc h1 h2).eq_of_plain2 hp
  | agg a => exact (VR.agg a).eq_of_plain2 hp
  | opq p o => exact (VR.opq p o).eq_of_plain2 hp
  | any p => exact (VR.any p).eq_of_plain2 hp
  | func a b => exact (VR.func a b).eq_of_plain2 hp
  | iface a => exact (VR.iface a).eq_of_plain2 hp
noncomputable def gives (nx : Nat) (m : M F Value) : Option Value := match m .nil nx with
  | .no => none
  | .ok a _ _ _ W => cond (plain3 a && geAll nx W) (some a) none
theorem gives_ok {nx : Nat} {m : M F Value} {v : Value} (e : gives nx m = some v) : ∃ h' nx' R W, m .nil nx = .ok v h' nx' R W ∧ plain3 v = true ∧ ∀ n ∈ W, nx ≤ n := by
  unfold gives at e
  cases hm : m .nil nx with
  | no => rw [hm] at e; cases e
  | ok a h' nx' R W =>
    rw [hm] at e
    simp only at e
    cases hc : (plain3 a && geAll nx W) with
    | false => rw [hc] at e; cases e
    | true =>
      rw [hc] at e
      simp only [cond_true, Option.some.injEq] at e
      subst e
      simp only [Bool.and_eq_true] at hc
      exact ⟨h', nx', R, W, rfl, hc.1, geAll_ok hc.2⟩
noncomputable def ren0 (G : Nat) : Ren := ⟨fun n => if n < G then some n else none, fun _ => none, fun _ => 0⟩
theorem mod0 {w : World} (hG : S.G ≤ w.heap.size) (hb : S.base w) (hlo : S.lo ≤ w.heap.size := by exact Nat.zero_le _) : Mod S (ren0 S.G) (fun _ => none) w := by
  refine ⟨fun n m b h1 h2 => ?_, fun n b h => ?_, fun n c t h => (by cases h), fun n f h => (by cases h), hb, fun n hn => if_pos hn, fun n b h hn => ?_, fun n c t h => (by cases h), hlo, fun n s h => (by cases h), fun n f h => (by cases h), fun n m x h => (by cases h)⟩
  · unfold ren0 at h1 h2
    simp only at h1 h2
    split at h1 <;> split at h2 <;> first | (cases h1; cases h2; exact .inl rfl) | (cases h1; done) | (cases h2; done)
  · unfold ren0 at h
    simp only at h
    split at h
    · cases h; omega
    · cases h
  · rw [show (ren0 S.G).blk n = none from if_neg (by omega)] at h; cases h
theorem gives_calls {C : Cfg F} [HardLoc C] {sum : Sums F} {n nx : Nat} {f : FuncId} {args : List Value} {v : Value} (hF : Fits S P C) (hs : SumOK S P sum) (e : gives nx (call P C sum n f args) = some v) (ha : plains args = true) (hx : S.G ≤ nx) {w : World} (hG : S.G ≤ w.heap.size) (hb : S.base w) (hlo : S.lo ≤ w.heap.size := by exact Nat.zero_le _) (hJ : JmpAll S P C := by exact .none rfl) :
    Calls P f ⟨args⟩ w fun e w' => e = .returned v ∧ Below w.heap.size w w' := by
  obtain ⟨h', nx', R, W, hm, hp, hW⟩ := gives_ok e
  have hc := call_ok hF hs n hJ
  have hfr : Fr (.nil : Tr (Blk F)) nx := fun k _ => Tr.get_nil k
  have hrun := Run.self (hc.loc f args) hm hfr
  have hN : New (ren0 S.G) nx nx' := fun k h1 h2 => ⟨if_neg (by omega), rfl⟩
  have hg : (Tr.get (.nil : Tr (Blk F))) = fun _ => none := funext fun k => Tr.get_nil k
  refine (hc.run f args _ _ _ _ _ _ _ hrun (ren0 S.G) w args (plains_ok ha) (by rw [hg]; exact mod0 hG hb hlo) hN).mono ?_
  rintro en w' ⟨v', r', rfl, hv, hX⟩
  have hv' := eq_of_plain3 hv hp
  subst hv'
  refine ⟨rfl, hX.os, hX.tape, hX.output, hX.size, fun b hb' => ?_⟩
  have hbo : w.heap[b]? = some w.heap[b] := Array.getElem?_eq_getElem hb'
  rw [hbo]
  exact hX.keep b _ hbo fun k hk => by
    have := hW k hk
    show ¬ (if k < S.G then some k else none) = some b
    rw [if_neg (by omega)]
    simp
end
noncomputable def natList : List (Nat × (List Value → Option (M Nat Value))) := [
  (179, fun args => two args fun n m => newFact (Nat.add n m)),
  (180, fun args => two args fun n m => newFact (Nat.sub n m)),
  (102, fun args => two args fun n m => newFact (Nat.mul n m)),
  (110, fun args => two args fun n m => newFact (Nat.div n m)),
  (60, fun args => two args fun n m => newFact (Nat.gcd n m)),
  (116, fun args => two args fun n m => bind (newFact (Nat.div n m)) fun x => bind (newFact (Nat.mod n m)) fun y => ret (.tuple ⟨[x, y]⟩)),
  (103, fun args => two args fun n m => ret (.int .i64 (Big.cmpI n m))),
  (61, fun args => one args fun n => ret (.bool (decide (n = 1)))),
  (62, fun args => one args fun n => ret (.int .i64 ((szN n : Nat) : Int))),
  (227, fun args => one args fun n => ret (.int .i64 ((bitsN n : Nat) : Int))),
  (112, fun args => one args fun n => ret (.string (bst n))),
  (261, fun args => one args fun n => ret (.tuple #[.int .u64 (((if n < Big.M64 then n else 0) : Nat) : Int), .bool (decide (n < Big.M64))])),
  (154, fun args => one args fun n => ret (.string ⟨⟨digs n⟩⟩)),
  (228, fun args => match args with
    | [a, b] => match b with
      | .int k s => cond (decide (k = .i64) && decide (s ≤ 64000000000)) (some (bind (natV a) fun n => cond (small n) (newFact (n * 2 ^ s.toNat)) fail)) none
      | _ => none
    | _ => none),
  (221, shrS),
  (119, restS),
  (236, mulP),
  (100, fun args => match args with
    | [a] => match a with
      | .int k s => match s with
        | .ofNat n => cond (decide (k = .u64) && Nat.ble (Nat.succ n) 18446744073709551616) (some (newFact n)) none
        | _ => none
      | _ => none
    | _ => none),
  (59, fun args => match args with
    | [a] => match a with
      | .string s => cond (Nat.ble s.size 100000) (some (newFact (Big.bnum s.data.toList))) none
      | _ => none
    | _ => none)]
theorem natList_ok : ∀ x ∈ natList, SumF natSig Tryz.prog x.1 x.2 := by
  unfold natList
  intro x hx
  simp only [List.mem_cons, List.not_mem_nil, or_false] at hx
  rcases hx with rfl | rfl | rfl | rfl | rfl | rfl | rfl | rfl | rfl | hx
  · exact sum_add
  · exact sum_sub
  · exact sum_mul
  · exact sum_quo
  · exact sum_gcd
  · exact sum_quoRem
  · exact sum_cmp
  · exact sum_isOne
  · exact sum_size
  rcases hx with rfl | hx
  · exact sum_bits
  rcases hx with rfl | hx
  · exact sum_bytes
  rcases hx with rfl | hx
  · exact sum_word
  rcases hx with rfl | hx
  · exact sum_text
  rcases hx with rfl | hx
  · exact sum_shl
  rcases hx with rfl | hx
  · exact sum_shr
  rcases hx with rfl | rfl | hx
  · exact sum_rest
  · exact sum_mulP
  rcases hx with rfl | rfl
  · exact sum_of
  · exact sum_fromBytes
noncomputable def numList : List (Nat × (List Value → Option (M Nat Value))) := natList ++ [
  (91, fun args => tt2 args fun x y => outT (Big.sI x.s x.n * Big.sI y.s y.n) (x.d * y.d)),
  (55, fun args => tt2 args fun x y => outT (Big.sI x.s x.n * (y.d : Int) + Big.sI y.s y.n * (x.d : Int)) (x.d * y.d)),
  (51, fun args => tt2 args fun x y => outT (Big.sI x.s x.n * (y.d : Int) + -Big.sI y.s y.n * (x.d : Int)) (x.d * y.d)),
  (54, fun args => tt2 args fun x y => cond (Nat.ble 1 y.n) (outT (Big.sI x.s x.n * Big.sI y.s y.d) (x.d * y.n)) fail),
  (24, readS)]
theorem numList_ok : ∀ x ∈ numList, SumF natSig Tryz.prog x.1 x.2 := by
  intro x hx
  unfold numList at hx
  rcases List.mem_append.1 hx with hx | hx
  · exact natList_ok x hx
  · simp only [List.mem_cons, List.not_mem_nil, or_false] at hx
    rcases hx with rfl | hx
    · exact tsum_mul
    rcases hx with rfl | hx
    · exact tsum_add
    rcases hx with rfl | hx
    · exact tsum_sub
    rcases hx with rfl | hx
    · exact tsum_quo
    subst hx
    exact tsum_read
noncomputable def numSums : Sums Nat := sumsOf (mkTab numList)
theorem numSums_ok : SumOK natSig Tryz.prog numSums := sumsOf_ok numList_ok
noncomputable def natSums : Sums Nat := sumsOf (mkTab natList)
theorem natSums_ok : SumOK natSig Tryz.prog natSums := sumsOf_ok natList_ok
noncomputable def runs (n : Nat) (f : FuncId) (args : List Value) : Option Value := gives 100000 (call Tryz.prog natCfg natSums n f args)
theorem glob_few : Tryz.prog.globals.size ≤ 100000 := by
  have h : Nat.ble Tryz.prog.globals.size 100000 = true := by kernel_rfl
  exact Nat.le_of_ble_eq_true h
end Ev
end Go.Proofs.YtfmebfkdpfbjbaaGreatDoor
namespace Go.Proofs.YtfmebfkdpfbjbaaGreatDoor
open Go Go.RowKit
namespace Ev
noncomputable def eqL {α : Type} (f : α → α → Bool) (l : List α) : List α → Bool := List.rec (motive := fun _ => List α → Bool)
  (fun m => match m with | [] => true | _ :: _ => false) (fun a _ ih m => match m with | [] => false | b :: m => f a b && ih m) l
theorem eqL_ok {α : Type} {f : α → α → Bool} (hf : ∀ a b, f a b = true → a = b) : ∀ {l m : List α}, eqL f l m = true → l = m
  | [], [], _ => rfl
  | [], _ :: _, h => by exact absurd (show false = true from h) (by simp)
  | _ :: _, [], h => by exact absurd (show false = true from h) (by simp)
  | a :: l, b :: m, h => by
    have h' : (f a b && eqL f l m) = true := h
    simp only [Bool.and_eq_true] at h'
    rw [hf _ _ h'.1, eqL_ok hf h'.2]
noncomputable def eqC (a b : UInt8) : Bool := Nat.beq a.toNat b.toNat
theorem eqC_ok (a b : UInt8) (h : eqC a b = true) : a = b := UInt8.toNat_inj.1 (Nat.eq_of_beq_eq_true h)
noncomputable def eqS (s t : ByteArray) : Bool := eqL eqC s.data.toList t.data.toList
theorem eqS_ok {s t : ByteArray} (h : eqS s t = true) : s = t := by
  obtain ⟨⟨l⟩⟩ := s
  obtain ⟨⟨m⟩⟩ := t
  have : l = m := eqL_ok eqC_ok h
  rw [this]
noncomputable def eq1 (v w : Value) : Bool := match v with
  | .bool a => match w with | .bool b => decide (a = b) | _ => false
  | .int k a => match w with | .int l b => decide (k = l) && decide (a = b) | _ => false
  | .float k a => match w with | .float l b => decide (k = l) && Nat.beq a b | _ => false
  | .complex k a b => match w with | .complex l c d => decide (k = l) && (Nat.beq a c && Nat.beq b d) | _ => false
  | .string s => match w with | .string t => eqS s t | _ => false
  | _ => false
theorem eq1_ok (v w : Value) (h : eq1 v w = true) : v = w := by
  unfold eq1 at h
  cases v <;> simp only [Bool.false_eq_true] at h <;> cases w <;> simp only [Bool.false_eq_true, Bool.and_eq_true, decide_eq_true_eq] at h
  · rw [h]
  · rw [h.1, h.2]
  · rw [h.1, Nat.eq_of_beq_eq_true h.2]
  · rw [h.1, Nat.eq_of_beq_eq_true h.2.1, Nat.eq_of_beq_eq_true h.2.2]
  · rw [eqS_ok h]
noncomputable def eqV (v w : Value) : Bool := match v with
  | .agg a => match w with | .agg b => eqL eq1 a.toList b.toList | _ => false
  | _ => eq1 v w
theorem eqV_ok (v w : Value) (h : eqV v w = true) : v = w := by
  unfold eqV at h
  cases v <;> try exact eq1_ok _ _ h
  cases w <;> simp only [Bool.false_eq_true] at h
  rename_i a b
  obtain ⟨l⟩ := a
  obtain ⟨m⟩ := b
  have : l = m := eqL_ok eq1_ok h
  rw [this]
theorem goes_val3 {h h' : Tr (Blk Nat)} {nx nx' : Nat} {R W : List Nat} {r : Ren} {w : World} {u v : Value} {f : FuncId} {args' : List Value} (e : (ret u : M Nat Value) h nx = .ok v h' nx' R W) (hp : plain3 u = true) (hM : Mod natSig r h.get w) (c : Calls Tryz.prog f ⟨args'⟩ w fun e w' => e = .returned u ∧ Below w.heap.size w w') : Goes f args' r w nx nx' W h'.get v := by
  obtain ⟨rfl, rfl, rfl, rfl⟩ := ret_ok e
  refine c.mono ?_
  rintro en w' ⟨rfl, hb⟩
  exact ⟨_, r, rfl, same3 hp, ext_below hM hb _⟩
structure Fact where
  f : FuncId
  args : List Value
  v : Value
def Fact.ok (x : Fact) : Prop := plains x.args = true ∧ plain3 x.v = true ∧ ∀ w : World, Tryz.prog.globals.size ≤ w.heap.size → TabB w → Calls Tryz.prog x.f ⟨x.args⟩ w fun e w' => e = .returned x.v ∧ Below w.heap.size w w'
noncomputable def look (f : FuncId) (args : List Value) (l : List Fact) : Option Value := List.rec (motive := fun _ => Option Value) none
  (fun x _ ih => Bool.rec (motive := fun _ => Option Value) ih (Bool.rec (motive := fun _ => Option Value) ih (some x.v) (eqL eqV x.args args)) (Nat.beq x.f f)) l
theorem look_ok {f : FuncId} {args : List Value} {v : Value} : ∀ {l : List Fact}, look f args l = some v → ∃ x ∈ l, x.f = f ∧ x.args = args ∧ x.v = v
  | [], h => by cases h
  | x :: l, h => by
    have h' : (Bool.rec (motive := fun _ => Option Value) (look f args l) (Bool.rec (motive := fun _ => Option Value) (look f args l) (some x.v) (eqL eqV x.args args)) (Nat.beq x.f f) : Option Value) = some v := h
    cases hb : Nat.beq x.f f with
    | false =>
      rw [hb] at h'
      obtain ⟨y, hy, r⟩ := look_ok h'
      exact ⟨y, List.mem_cons_of_mem _ hy, r⟩
    | true =>
      rw [hb] at h'
      cases hc : eqL eqV x.args args with
      | false =>
        rw [hc] at h'
        obtain ⟨y, hy, r⟩ := look_ok h'
        exact ⟨y, List.mem_cons_of_mem _ hy, r⟩
      | true =>
        rw [hc] at h'
        exact ⟨x, List.mem_cons_self, Nat.eq_of_beq_eq_true hb, eqL_ok eqV_ok hc, Option.some.inj h'⟩
noncomputable def known (l : List Fact) : Sums Nat := fun f args => match look f args l with
  | some v => some (ret v)
  | none => natSums f args
theorem known_ok {l : List Fact} (hl : ∀ x ∈ l, x.ok) : SumOK natSig Tryz.prog (known l) := by
  refine ⟨fun f args m e => ?_, fun f args m e h nx v h' nx' R W hr r w args' ha hM hN => ?_⟩
  · unfold known at e
    cases hk : look f args l with
    | none => rw [hk] at e; exact natSums_ok.loc f args m e
    | some v => rw [hk] at e; cases e; exact loc_ret _
  · unfold known at e
    cases hk : look f args l with
    | none => rw [hk] at e; exact natSums_ok.run f args m e h nx v h' nx' R W hr r w args' ha hM hN
    | some u =>
      rw [hk] at e
      cases e
      obtain ⟨x, hx, rfl, rfl, rfl⟩ := look_ok hk
      obtain ⟨h1, h2, h3⟩ := hl x hx
      obtain rfl : args' = x.args := VsR_eq h1 ha
      have hG : Tryz.prog.globals.size ≤ w.heap.size := by
        rcases Nat.eq_zero_or_pos Tryz.prog.globals.size with h0 | h0
        · omega
        · have := hM.lt _ _ (hM.glob (Tryz.prog.globals.size - 1) (show _ < Tryz.prog.globals.size by omega))
          omega
      exact goes_val3 hr.ok h2 hM (h3 w hG hM.base)
noncomputable def knownN (l : List Fact) : Sums Nat := fun f args => match look f args l with
  | some v => some (ret v)
  | none => numSums f args
theorem knownN_ok {l : List Fact} (hl : ∀ x ∈ l, x.ok) : SumOK natSig Tryz.prog (knownN l) := by
  have hk := known_ok hl
  refine ⟨fun f args m e => ?_, fun f args m e h nx v h' nx' R W hr r w args' ha hM hN => ?_⟩
  · unfold knownN at e
    cases hq : look f args l with
    | none => rw [hq] at e; exact numSums_ok.loc f args m e
    | some v => rw [hq] at e; cases e; exact loc_ret _
  · unfold knownN at e
    cases hq : look f args l with
    | none => rw [hq] at e; exact numSums_ok.run f args m e h nx v h' nx' R W hr r w args' ha hM hN
    | some u =>
      rw [hq] at e
      exact hk.run f args m (by unfold known; rw [hq]; exact e) h nx v h' nx' R W hr r w args' ha hM hN
noncomputable def runsN (l : List Fact) (n : Nat) (f : FuncId) (args : List Value) : Option Value := gives 100000 (call Tryz.prog natCfg (knownN l) n f args)
theorem runsN_calls {l : List Fact} (hl : ∀ x ∈ l, x.ok) {n : Nat} {f : FuncId} {args : List Value} {v : Value} (e : runsN l n f args = some v) (ha : plains args = true) {w : World} (hG : Tryz.prog.globals.size ≤ w.heap.size) (hb : TabB w) :
    Calls Tryz.prog f ⟨args⟩ w fun e w' => e = .returned v ∧ Below w.heap.size w w' :=
  gives_calls natFits (knownN_ok hl) e ha glob_few hG hb
theorem Fact.by_runN {l : List Fact} (hl : ∀ x ∈ l, x.ok) {x : Fact} {n : Nat} (h : runsN l n x.f x.args = some x.v) (ha : plains x.args = true) : x.ok := by
  refine ⟨ha, ?_, fun w hG hT => runsN_calls hl h ha hG hT⟩
  obtain ⟨_, _, _, _, _, hp, _⟩ := gives_ok h
  exact hp
end Ev
end Go.Proofs.YtfmebfkdpfbjbaaGreatDoor
