/- Contracts. -/
import Derived.Test.YtnlhjcfpfapafaaESq18
import Derived.Test.YtnlhjcfpfapafaaESq17
import Derived.Deep.RegionHeld3
namespace Go.Proofs.Ytnlhjcfpfapafaa
open Go Go.RowKit
namespace Ev
section
variable {h h' : Tr (Blk Nat)} {nx nx' : Nat} {R W : List Nat} {r : Ren} {w : World} {v : Value}
def Goes (f : FuncId) (args' : List Value) (r : Ren) (w : World) (nx nx' : Nat) (W : List Nat) (g' : Nat → Option (Blk Nat)) (v : Value) : Prop :=
 Calls Try.prog f ⟨args'⟩ w fun e w' => ∃ v' r', e = .returned v' ∧ VR r' v v' ∧ Ext natSig r w nx nx' W g' r' w'
theorem goes_new {N : Nat} {f : FuncId} {args' : List Value} (e : (newFact N : M Nat Value) h nx = .ok v h' nx' R W) (hM : Mod natSig r h.get w) (hN : New r nx nx') (c : Calls Try.prog f ⟨args'⟩ w (Nat1 w N)) : Goes f args' r w nx nx' W h'.get v := by
 obtain ⟨i, h1, nx1, R1, W1, R2, W2, e1, e2, rfl, rfl⟩ := bind_ok e
 obtain ⟨rfl, rfl, rfl, rfl⟩ := ret_ok e2
 unfold fresh at e1
 cases e1
 refine c.mono ?_
 rintro en w' ⟨v', rfl, hv, hb⟩
 obtain ⟨r', hX, hr⟩ := ext_fact (S := natSig) (f := N) hM hb hN hv (nat_one hv)
 exact ⟨v', r', rfl, .opq hr (nat_one hv), by simpa using hX.congr fun n => .inr (Tr.get_set _ _ _ _)⟩
theorem goes_val {u : Value} {f : FuncId} {args' : List Value} (e : (ret u : M Nat Value) h nx = .ok v h' nx' R W) (hp : plain2 u = true) (hM : Mod natSig r h.get w) (c : Calls Try.prog f ⟨args'⟩ w fun e w' => e = .returned u ∧ Below w.heap.size w w') : Goes f args' r w nx nx' W h'.get v := by
 obtain ⟨rfl, rfl, rfl, rfl⟩ := ret_ok e
 refine c.mono ?_
 rintro en w' ⟨rfl, hb⟩
 exact ⟨_, r, rfl, VR.same2 hp, ext_below hM hb _⟩
theorem same_below {f : FuncId} {args' : List Value} {u : Value} (c : Calls Try.prog f ⟨args'⟩ w fun e w' => e = .returned u ∧ w = w') : Calls Try.prog f ⟨args'⟩ w fun e w' => e = .returned u ∧ Below w.heap.size w w' :=
 c.mono fun _ _ ⟨h1, h2⟩ => ⟨h1, h2 ▸ Below.refl _ _⟩
theorem drew_below {f : FuncId} {args' : List Value} {u : Value} (c : Calls Try.prog f ⟨args'⟩ w fun e w' => e = .returned u ∧ Drew w w') : Calls Try.prog f ⟨args'⟩ w fun e w' => e = .returned u ∧ Below w.heap.size w w' :=
 c.mono fun _ _ ⟨h1, h2⟩ => ⟨h1, h2.below _⟩
noncomputable def small (n : Nat) : Bool := Nat.ble (Nat.log2 n) 60000
theorem m64_log {n k : Nat} (h : Nat.log2 n + 1 ≤ 64 * k) : n < Big.M64 ^ k := by
 have hM : ∀ k, Big.M64 ^ k = 2 ^ (64 * k) := fun k => by rw [Nat.pow_mul]; rfl
 rw [hM]
 exact Nat.lt_of_lt_of_le Nat.lt_log2_self (Nat.pow_le_pow_right (by omega) h)
theorem sz_log {n k : Nat} (h : Nat.log2 n + 1 ≤ 64 * k) : Sz k n := ⟨m64_log h⟩
theorem sz_small {n : Nat} (h : small n = true) : Sz 1000 n := by
 have h1 := Nat.le_of_ble_eq_true h
 exact sz_log (by omega)
noncomputable def two (args : List Value) (k : Nat → Nat → M Nat Value) : Option (M Nat Value) := match args with
 | [a, b] => some (bind (natV a) fun n => bind (natV b) fun m => cond (small n && small m) (k n m) fail)
 | _ => none
noncomputable def one (args : List Value) (k : Nat → M Nat Value) : Option (M Nat Value) := match args with
 | [a] => some (bind (natV a) fun n => cond (small n) (k n) fail)
 | _ => none
theorem two_ok {f : FuncId} {k : Nat → Nat → M Nat Value} (hl : ∀ n m, Loc (k n m)) (hk : ∀ n m (h : Tr (Blk Nat)) nx v h' nx' R W, k n m h nx = .ok v h' nx' R W → ∀ r w a b, NatIn w a n → NatIn w b m → Sz 1000 n → Sz 1000 m → Mod natSig r h.get w → New r nx nx' → Goes f [a, b] r w nx nx' W h'.get v) :
  SumF natSig Try.prog f (fun args => two args k) := by
 intro args m e
 unfold two at e
 rcases args with _ | ⟨a, _ | ⟨b, _ | ⟨c, l⟩⟩⟩ <;> simp only [reduceCtorEq, Option.some.injEq] at e
 subst e
 refine ⟨loc_bind (loc_natV a) fun n => loc_bind (loc_natV b) fun m => loc_cond (hl n m) loc_fail, ?_⟩
 intro h nx v h' nx' R W e r w args' ha hM hN
 cases ha with
 | cons ha1 ha2 =>
  cases ha2 with
  | cons hb1 hb2 =>
   cases hb2
   obtain ⟨n, h1, nx1, R1, W1, R2, W2, e1, e2, rfl, rfl⟩ := bind_ok e
   obtain ⟨rfl, rfl, rfl, hn⟩ := natV_ok e1 ha1 hM
   obtain ⟨m, h2, nx2, R3, W3, R4, W4, e3, e4, rfl, rfl⟩ := bind_ok e2
   obtain ⟨rfl, rfl, rfl, hm⟩ := natV_ok e3 hb1 hM
   obtain ⟨hs, e5⟩ := cond_ok e4
   simp only [Bool.and_eq_true] at hs
   simpa [Goes] using hk n m _ _ _ _ _ _ _ e5 r w _ _ hn hm (sz_small hs.1) (sz_small hs.2) hM hN
theorem one_ok {f : FuncId} {k : Nat → M Nat Value} (hl : ∀ n, Loc (k n)) (hk : ∀ n (h : Tr (Blk Nat)) nx v h' nx' R W, k n h nx = .ok v h' nx' R W → ∀ r w a, NatIn w a n → Sz 1000 n → Mod natSig r h.get w → New r nx nx' → Goes f [a] r w nx nx' W h'.get v) :
  SumF natSig Try.prog f (fun args => one args k) := by
 intro args m e
 unfold one at e
 rcases args with _ | ⟨a, _ | ⟨c, l⟩⟩ <;> simp only [reduceCtorEq, Option.some.injEq] at e
 subst e
 refine ⟨loc_bind (loc_natV a) fun n => loc_cond (hl n) loc_fail, ?_⟩
 intro h nx v h' nx' R W e r w args' ha hM hN
 cases ha with
 | cons ha1 ha2 =>
  cases ha2
  obtain ⟨n, h1, nx1, R1, W1, R2, W2, e1, e2, rfl, rfl⟩ := bind_ok e
  obtain ⟨rfl, rfl, rfl, hn⟩ := natV_ok e1 ha1 hM
  obtain ⟨hs, e5⟩ := cond_ok e2
  simpa [Goes] using hk n _ _ _ _ _ _ _ e5 r w _ hn (sz_small hs) hM hN
theorem sum_add : SumF natSig Try.prog 102 (fun args => two args fun n m => newFact (Nat.add n m)) :=
 two_ok (fun _ _ => loc_newFact _) fun n m h nx v h' nx' R W e r w a b hn hm sn sm hM hN => goes_new e hM hN (add_num w a b n m _ _ hn hm sn sm (by omega) (by omega))
theorem sum_sub : SumF natSig Try.prog 103 (fun args => two args fun n m => newFact (Nat.sub n m)) :=
 two_ok (fun _ _ => loc_newFact _) fun n m h nx v h' nx' R W e r w a b hn hm sn sm hM hN => goes_new e hM hN (sub_num w a b n m _ hn hm sn (by omega))
theorem sum_mul : SumF natSig Try.prog 70 (fun args => two args fun n m => newFact (Nat.mul n m)) :=
 two_ok (fun _ _ => loc_newFact _) fun n m h nx v h' nx' R W e r w a b hn hm sn sm hM hN => goes_new e hM hN (mul_num w a b n m _ _ hn hm sn sm (by omega) (by omega))
theorem sum_quo : SumF natSig Try.prog 74 (fun args => two args fun n m => newFact (Nat.div n m)) :=
 two_ok (fun _ _ => loc_newFact _) fun n m h nx v h' nx' R W e r w a b hn hm sn sm hM hN => goes_new e hM hN (quo_num w a b n m _ hn hm sn (by omega))
theorem sum_gcd : SumF natSig Try.prog 65 (fun args => two args fun n m => newFact (Nat.gcd n m)) :=
 two_ok (fun _ _ => loc_newFact _) fun n m h nx v h' nx' R W e r w a b hn hm sn sm hM hN => goes_new e hM hN (gcd_num w a b n m _ _ hn hm sn sm (by omega) (by omega))
theorem sum_cmp : SumF natSig Try.prog 71 (fun args => two args fun n m => ret (.int .i64 (Big.cmpI n m))) :=
 two_ok (fun _ _ => loc_ret _) fun n m h nx v h' nx' R W e r w a b hn hm _ _ hM _ => goes_val e rfl hM (drew_below (cmp_num w a b n m hn hm))
theorem sum_isOne : SumF natSig Try.prog 66 (fun args => one args fun n => ret (.bool (decide (n = 1)))) :=
 one_ok (fun _ => loc_ret _) fun n h nx v h' nx' R W e r w a hn _ hM _ => goes_val e rfl hM ((isOne_num w a n hn).mono fun _ _ hh => by obtain ⟨h1, h2⟩ := hh; exact ⟨h1, by first | exact h2.below _ | exact h2 ▸ Below.refl _ _⟩)
theorem sum_size : SumF natSig Try.prog 118 (fun args => one args fun n => ret (.int .i64 ((szN n : Nat) : Int))) :=
 one_ok (fun _ => loc_ret _) fun n h nx v h' nx' R W e r w a hn sn hM _ => goes_val e rfl hM (same_below (size_num w a n _ hn sn (by omega)))
theorem sum_bytes : SumF natSig Try.prog 101 (fun args => one args fun n => ret (.string (bst n))) :=
 one_ok (fun _ => loc_ret _) fun n h nx v h' nx' R W e r w a hn sn hM _ => goes_val e rfl hM (bytes_num w a n _ hn sn (by omega))
theorem sum_of : SumF natSig Try.prog 86 (fun args => match args with
  | [a] => match a with
   | .int k s => match s with
    | .ofNat n => cond (decide (k = .u64) && Nat.ble (Nat.succ n) 18446744073709551616) (some (newFact n)) none
    | _ => none
   | _ => none
  | _ => none) := by
 intro args m e
 rcases args with _ | ⟨a, _ | ⟨c, l⟩⟩ <;> simp only [reduceCtorEq] at e
 cases a with
 | int k s =>
  cases s with
  | negSucc _ => simp at e
  | ofNat n =>
   simp only at e
   cases hk : (decide (k = .u64) && Nat.ble (Nat.succ n) 18446744073709551616) with
   | false => rw [hk] at e; cases e
   | true =>
    rw [hk] at e
    simp only [cond_true, Option.some.injEq] at e
    subst e
    simp only [Bool.and_eq_true, decide_eq_true_eq] at hk
    have hlt : n < 18446744073709551616 := Nat.le_of_ble_eq_true hk.2
    refine ⟨loc_newFact _, ?_⟩
    intro h nx v h' nx' R W e r w args' ha hM hN
    cases ha with
    | cons ha1 ha2 =>
     cases ha2
     have hb := ha1.int
     subst hb
     rw [hk.1]
     exact goes_new e hM hN (of_num w n hlt)
 | _ => simp at e
theorem sum_fromBytes : SumF natSig Try.prog 64 (fun args => match args with
  | [a] => match a with
   | .string s => cond (Nat.ble s.size 100000) (some (newFact (Big.bnum s.data.toList))) none
   | _ => none
  | _ => none) := by
 intro args m e
 rcases args with _ | ⟨a, _ | ⟨c, l⟩⟩ <;> simp only [reduceCtorEq] at e
 cases a with
 | string s =>
  simp only at e
  cases hk : Nat.ble s.size 100000 with
  | false => rw [hk] at e; cases e
  | true =>
   rw [hk] at e
   simp only [cond_true, Option.some.injEq] at e
   subst e
   have hlt : s.size ≤ 100000 := Nat.le_of_ble_eq_true hk
   refine ⟨loc_newFact _, ?_⟩
   intro h nx v h' nx' R W e r w args' ha hM hN
   cases ha with
   | cons ha1 ha2 =>
    cases ha2
    have hb := ha1.str
    subst hb
    exact goes_new e hM hN (fromBytes_any w s (by omega))
 | _ => simp at e
end
section
variable {h h' : Tr (Blk Nat)} {nx nx' : Nat} {R W : List Nat} {r : Ren} {w : World} {v : Value}
theorem goes_new2 {N M' : Nat} {f : FuncId} {args' : List Value} (e : (bind (newFact N) fun x => bind (newFact M') fun y => ret (.tuple ⟨[x, y]⟩) : M Nat Value) h nx = .ok v h' nx' R W) (hM : Mod natSig r h.get w) (hN : New r nx nx')
  (c : Calls Try.prog f ⟨args'⟩ w fun e w' => ∃ a b, e = .returned (.tuple ⟨[a, b]⟩) ∧ NatIn w' a N ∧ NatIn w' b M' ∧ Below w.heap.size w w') : Goes f args' r w nx nx' W h'.get v := by
 obtain ⟨x, h0, nx0, R0, W0, R3, W3, e0, e3, rfl, rfl⟩ := bind_ok e
 obtain ⟨i, h1, nx1, R1, W1, R2, W2, e1, e2, rfl, rfl⟩ := bind_ok e0
 obtain ⟨rfl, rfl, rfl, rfl⟩ := ret_ok e2
 unfold fresh at e1
 cases e1
 obtain ⟨y, h4, nx4, R4, W4, R5, W5, e4, e5, rfl, rfl⟩ := bind_ok e3
 obtain ⟨rfl, rfl, rfl, rfl⟩ := ret_ok e5
 obtain ⟨j, h6, nx6, R6, W6, R7, W7, e6, e7, rfl, rfl⟩ := bind_ok e4
 obtain ⟨rfl, rfl, rfl, rfl⟩ := ret_ok e7
 unfold fresh at e6
 cases e6
 refine c.mono ?_
 rintro en w' ⟨a, b, rfl, ha, hb', hb⟩
 obtain ⟨r1, hX, hr⟩ := ext_fact (S := natSig) (f := N) hM hb (hN.sub (Nat.le_refl _) (by omega)) ha (nat_one ha)
 have hN2 := New.after (hN.sub (lo' := nx) (hi' := nx + 1 + 1) (Nat.le_refl _) (by omega)) hX (by omega)
 obtain ⟨r2, hY, hs⟩ := ext_fact (S := natSig) (f := M') hX.mod (Below.refl _ w') hN2 hb' (nat_one hb')
 refine ⟨.tuple ⟨[a, b]⟩, r2, rfl, .tuple (.cons (.opq (hY.le.val _ _ hr) (nat_one ha)) (.cons (.opq hs (nat_one hb')) .nil)), ?_⟩
 have hZ := hX.trans hY (by omega) (by omega)
 refine Ext.congr (by simpa using hZ) fun n => .inr ?_
 rw [Tr.get_set, Tr.get_set]
end
theorem sum_quoRem : SumF natSig Try.prog 94 (fun args => two args fun n m => bind (newFact (Nat.div n m)) fun x => bind (newFact (Nat.mod n m)) fun y => ret (.tuple ⟨[x, y]⟩)) :=
 two_ok (fun _ _ => loc_bind (loc_newFact _) fun _ => loc_bind (loc_newFact _) fun _ => loc_ret _) fun n m h nx v h' nx' R W e r w a b hn hm sn sm hM hN => goes_new2 e hM hN (quoRem_num w a b n m _ hn hm sn (by omega))
end Ev
end Go.Proofs.Ytnlhjcfpfapafaa
namespace Go.Proofs.Ytnlhjcfpfapafaa
open Go.RowKit
def Sum1 (w : World) (S : Int) (e : Ending) (w' : World) : Prop := ∃ v', e = .returned (.tuple #[.bool (decide (S < 0)), v']) ∧ NatIn w' v' S.natAbs ∧ Below w.heap.size w w'
def Sum2 (b w : World) (S : Int) (e : Ending) (w' : World) : Prop := ∃ v', e = .returned (.tuple #[.bool (decide (S < 0)), v']) ∧ NatIn w' v' S.natAbs ∧ Below b.heap.size b w' ∧ Below w.heap.size w w'
theorem liftS {P : Program} {f : FuncId} {args : Array Value} {b W : World} {S : Int} (h : Below b.heap.size b W) (c : Calls P f args W (Sum1 W S)) : Calls P f args W (Sum2 b W S) :=
 c.mono fun _ _ ⟨v, h1, h2, h3⟩ => ⟨v, h1, h2, h.trans (h3.mono h.size), h3⟩
set_option maxRecDepth 100000 in
set_option maxHeartbeats 2000000 in
theorem exsum_any (w : World) (b c : Bool) (v u : Value) (n m k j : Nat) (h : NatIn w v n) (i : NatIn w u m) (hn : Sz k n) (hm : Sz j m) (hk : k ≤ 100000000) (hj : j ≤ 100000000) (hb : b = true → 1 ≤ n) (hc : c = true → 1 ≤ m) :
  Calls Try.prog 75 #[.bool b, v, .bool c, u] w (Sum1 w (Big.sI b n + Big.sI c m)) := by
 have CA := Lib.hid (add_num w v u n m k j h i hn hm hk hj)
 have C1 := Lib.hid (fun W (hW : Drew w W) => sub_num W v u n m k (h.drew hW) (i.drew hW) hn hk)
 have C2 := Lib.hid (fun W (hW : Drew w W) => sub_num W u v m n j (i.drew hW) (h.drew hW) hm hj)
 have CC := Lib.hid (cmp_num w v u n m h i)
 obtain ⟨A, l, c1, rfl, -⟩ := h.is_slice
 obtain ⟨A2, l2, c2, rfl, -⟩ := i.is_slice
 clear h i hn hm hk hj
 cases b
 ·cases c
  ·clear CC C1 C2 hb hc
   go_enter Try.func75, Try.ntmps75
   go_wp2_with fail
   refine CA.out.mono ?_
   rintro e w' ⟨v', rfl, hv, hb⟩
   have HV := Lib.hid hv; have HB := Lib.hid hb
   clear hv hb
   go_wp2_with fail
   go_ret2
   refine ⟨v', ?_, ?_, HB.out⟩
   ·rw [Big.sI_false, Big.sI_false, decide_eq_false (by omega)]; rfl
   ·rw [Big.sI_false, Big.sI_false]
    have e : ((n : Int) + (m : Int)).natAbs = n + m := by omega
    rw [e]; exact HV.out
  ·rcases Nat.lt_trichotomy n m with hlt | heq | hgt
   ·rw [Big.cmpI_lt hlt] at CC
    have HBC := Lib.hid (And.intro hb (And.intro hc hlt))
    clear hb hc hlt
    go_enter Try.func75, Try.ntmps75
    go_wp2_with fail
    refine CC.out.mono ?_
    rintro e w1 ⟨rfl, hd⟩
    have HD := Lib.hid hd
    clear hd
    go_wp2_with fail
    refine (C2.out _ HD.out).mono ?_
    rintro e w' ⟨v', rfl, hv, hb⟩
    have HV := Lib.hid hv; have HB := Lib.hid ((HD.out.below _).trans (hb.mono (by rw [HD.out.heap]; exact Nat.le_refl _)))
    clear hv hb
    go_wp2_with fail
    go_ret2
    have HL := HBC.out.2.2
    refine ⟨v', ?_, ?_, HB.out⟩
    ·rw [Big.sI_false, Big.sI_true, decide_eq_true (by omega)]; rfl
    ·rw [Big.sI_false, Big.sI_true]
     have e : ((n : Int) + -(m : Int)).natAbs = m - n := by omega
     rw [e]; exact HV.out
   ·subst heq; rw [Big.cmpI_eq] at CC
    have HBC := Lib.hid (And.intro hb (And.intro hc True.intro))
    clear hb hc
    go_enter Try.func75, Try.ntmps75
    go_wp2_with fail
    refine CC.out.mono ?_
    rintro e w1 ⟨rfl, hd⟩
    have HD := Lib.hid hd
    clear hd
    go_wp2_with fail
    go_ret2
    refine ⟨.slice none 0 0, ?_, ?_, HD.out.below _⟩
    ·rw [Big.sI_false, Big.sI_true, decide_eq_false (by omega)]; rfl
    ·rw [Big.sI_false, Big.sI_true]
     have e : ((n : Int) + -(n : Int)).natAbs = 0 := by omega
     rw [e]; exact NatIn.nil_ _
   ·rw [Big.cmpI_gt hgt] at CC
    have HBC := Lib.hid (And.intro hb (And.intro hc hgt))
    clear hb hc hgt
    go_enter Try.func75, Try.ntmps75
    go_wp2_with fail
    refine CC.out.mono ?_
    rintro e w1 ⟨rfl, hd⟩
    have HD := Lib.hid hd
    clear hd
    go_wp2_with fail
    refine (C1.out _ HD.out).mono ?_
    rintro e w' ⟨v', rfl, hv, hb⟩
    have HV := Lib.hid hv; have HB := Lib.hid ((HD.out.below _).trans (hb.mono (by rw [HD.out.heap]; exact Nat.le_refl _)))
    clear hv hb
    go_wp2_with fail
    go_ret2
    have HL := HBC.out.2.2
    refine ⟨v', ?_, ?_, HB.out⟩
    ·rw [Big.sI_false, Big.sI_true, decide_eq_false (by omega)]; rfl
    ·rw [Big.sI_false, Big.sI_true]
     have e : ((n : Int) + -(m : Int)).natAbs = n - m := by omega
     rw [e]; exact HV.out
 ·cases c
  ·rcases Nat.lt_trichotomy n m with hlt | heq | hgt
   ·rw [Big.cmpI_lt hlt] at CC
    have HBC := Lib.hid (And.intro hb (And.intro hc hlt))
    clear hb hc hlt
    go_enter Try.func75, Try.ntmps75
    go_wp2_with fail
    refine CC.out.mono ?_
    rintro e w1 ⟨rfl, hd⟩
    have HD := Lib.hid hd
    clear hd
    go_wp2_with fail
    refine (C2.out _ HD.out).mono ?_
    rintro e w' ⟨v', rfl, hv, hb⟩
    have HV := Lib.hid hv; have HB := Lib.hid ((HD.out.below _).trans (hb.mono (by rw [HD.out.heap]; exact Nat.le_refl _)))
    clear hv hb
    go_wp2_with fail
    go_ret2
    have HL := HBC.out.2.2
    refine ⟨v', ?_, ?_, HB.out⟩
    ·rw [Big.sI_true, Big.sI_false, decide_eq_false (by omega)]; rfl
    ·rw [Big.sI_true, Big.sI_false]
     have e : (-(n : Int) + (m : Int)).natAbs = m - n := by omega
     rw [e]; exact HV.out
   ·subst heq; rw [Big.cmpI_eq] at CC
    have HBC := Lib.hid (And.intro hb (And.intro hc True.intro))
    clear hb hc
    go_enter Try.func75, Try.ntmps75
    go_wp2_with fail
    refine CC.out.mono ?_
    rintro e w1 ⟨rfl, hd⟩
    have HD := Lib.hid hd
    clear hd
    go_wp2_with fail
    go_ret2
    refine ⟨.slice none 0 0, ?_, ?_, HD.out.below _⟩
    ·rw [Big.sI_true, Big.sI_false, decide_eq_false (by omega)]; rfl
    ·rw [Big.sI_true, Big.sI_false]
     have e : (-(n : Int) + (n : Int)).natAbs = 0 := by omega
     rw [e]; exact NatIn.nil_ _
   ·rw [Big.cmpI_gt hgt] at CC
    have HBC := Lib.hid (And.intro hb (And.intro hc hgt))
    clear hb hc hgt
    go_enter Try.func75, Try.ntmps75
    go_wp2_with fail
    refine CC.out.mono ?_
    rintro e w1 ⟨rfl, hd⟩
    have HD := Lib.hid hd
    clear hd
    go_wp2_with fail
    refine (C1.out _ HD.out).mono ?_
    rintro e w' ⟨v', rfl, hv, hb⟩
    have HV := Lib.hid hv; have HB := Lib.hid ((HD.out.below _).trans (hb.mono (by rw [HD.out.heap]; exact Nat.le_refl _)))
    clear hv hb
    go_wp2_with fail
    go_ret2
    have HL := HBC.out.2.2
    refine ⟨v', ?_, ?_, HB.out⟩
    ·rw [Big.sI_true, Big.sI_false, decide_eq_true (by omega)]; rfl
    ·rw [Big.sI_true, Big.sI_false]
     have e : (-(n : Int) + (m : Int)).natAbs = n - m := by omega
     rw [e]; exact HV.out
  ·have h1 := hb rfl
   clear CC C1 C2 hb hc
   go_enter Try.func75, Try.ntmps75
   go_wp2_with fail
   refine CA.out.mono ?_
   rintro e w' ⟨v', rfl, hv, hb⟩
   have HV := Lib.hid hv; have HB := Lib.hid hb
   clear hv hb
   go_wp2_with fail
   go_ret2
   refine ⟨v', ?_, ?_, HB.out⟩
   ·rw [Big.sI_true, Big.sI_true, decide_eq_true (by omega)]; rfl
   ·rw [Big.sI_true, Big.sI_true]
    have e : (-(n : Int) + -(m : Int)).natAbs = n + m := by omega
    rw [e]; exact HV.out
theorem lift2 {P : Program} {f : FuncId} {args : Array Value} {b W : World} {r : Nat} (h : Below b.heap.size b W) (c : Calls P f args W (Nat1 W r)) : Calls P f args W (Nat2 b W r) :=
 c.mono fun _ _ ⟨v, h1, h2, h3⟩ => ⟨v, h1, h2, h.trans (h3.mono h.size), h3⟩
set_option maxRecDepth 100000 in
set_option maxHeartbeats 4000000 in
theorem exAdd_any (w : World) (vx vy : Value) (q r : Rat) (k : Nat) (hx : NumIn w vx q) (hy : NumIn w vy r) (sx : Sm k q) (sy : Sm k r) (hk : k ≤ 10000000) :
  Calls Try.prog 43 #[vx, vy] w (Num1 w (q + r)) := by
 obtain ⟨A, l, c, A2, l2, c2, rfl, hx1, hx2⟩ := hx.is_agg
 obtain ⟨B, m, d, B2, m2, d2, rfl, hy1, hy2⟩ := hy.is_agg
 have HX := Lib.hid (And.intro hx1 hx2); have HY := Lib.hid (And.intro hy1 hy2)
 have SX := Lib.hid sx; have SY := Lib.hid sy
 have PP := Lib.hid (Big.add_parts q r _ _ _ _ rfl rfl rfl rfl)
 have GX := Lib.hid (And.intro (@Big.ng_pos q) (And.intro (@Big.ng_pos r) (And.intro (Big.de_pos q) (Big.de_pos r))))
 clear hx hy hx1 hx2 hy1 hy2 sx sy
 generalize Big.ng q = nq at *
 generalize Big.ng r = nr at *
 go_enter Try.func43, Try.ntmps43
 go_wp2_with fail
 obtain ⟨X0, Y0, R0, B0⟩ := boxed3 w 70 70 (.bool nq) (.slice A l c) (.slice A2 l2 c2) (.bool nr) (.slice B m d) (.slice B2 m2 d2) (.bool false) (.slice none 0 0) (.slice none 0 0)
 have HX0 := Lib.hid X0; have HY0 := Lib.hid Y0; have HR0 := Lib.hid R0; have HB0 := Lib.hid B0
 clear X0 Y0 R0 B0
 generalize ((w.alloc (.cells #[.bool nq, .slice A l c, .slice A2 l2 c2] 70)).alloc (.cells #[.bool nr, .slice B m d, .slice B2 m2 d2] 70)).alloc (.cells #[.bool false, .slice none 0 0, .slice none 0 0] 70) = w0 at *
 have G0 := Lib.hid (gcd_num w0 _ _ _ _ k k (HX.out.2.keep HB0.out) (HY.out.2.keep HB0.out) SX.out.de SY.out.de (by omega) (by omega))
 obtain ⟨s, hs⟩ : ∃ s, Nat.gcd (Big.de q) (Big.de r) = s := ⟨_, rfl⟩
 rw [hs] at PP G0
 have hs1 : 1 ≤ s := by rw [← hs]; exact Big.gcd_pos_right GX.out.2.2.2
 have hsq : s ∣ Big.de q := by rw [← hs]; exact Nat.gcd_dvd_left _ _
 have hsr : s ∣ Big.de r := by rw [← hs]; exact Nat.gcd_dvd_right _ _
 have hR1 : 1 ≤ Big.de r / s := Nat.div_pos (Nat.le_of_dvd GX.out.2.2.2 hsr) hs1
 have hL1 : 1 ≤ Big.de q / s := Nat.div_pos (Nat.le_of_dvd GX.out.2.2.1 hsq) hs1
 have SS := Lib.hid (SX.out.de.le (Nat.le_of_dvd GX.out.2.2.1 hsq))
 have SL := Lib.hid (SX.out.de.le (Nat.div_le_self (Big.de q) s)); have SR := Lib.hid (SY.out.de.le (Nat.div_le_self (Big.de r) s))
 have CL := Lib.hid (fun W v (h : NatIn W (.slice A2 l2 c2) (Big.de q)) (i : NatIn W v s) => quo_num W _ _ _ _ k h i SX.out.de (by omega))
 have CR := Lib.hid (fun W v (h : NatIn W (.slice B2 m2 d2) (Big.de r)) (i : NatIn W v s) => quo_num W _ _ _ _ k h i SY.out.de (by omega))
 obtain ⟨L, hL⟩ : ∃ L, Big.de q / s = L := ⟨_, rfl⟩
 obtain ⟨R, hR⟩ : ∃ R, Big.de r / s = R := ⟨_, rfl⟩
 rw [hL] at PP CL SL hL1; rw [hR] at PP CR SR hR1
 clear hs hs1 hsq hsr hL hR
 refine G0.out.mono ?_
 rintro e w1 ⟨v1, rfl, hv1, hb1⟩
 have HV1 := Lib.hid hv1; have HB1 := Lib.hid (HB0.out.trans (hb1.mono HB0.out.size))
 have HX1 := Lib.hid (HX0.out.keep hb1); have HY1 := Lib.hid (HY0.out.keep hb1); have HR1 := Lib.hid (HR0.out.keep hb1)
 clear hv1 hb1 HX0 HY0 HR0 HB0
 have KX := Lib.hid (fun W (h : Below w1.heap.size w1 W) => And.intro (HX1.out.keep h).c2 (HY1.out.keep h).c2)
 have CQ1 := Lib.hid (fun W (h : Below w1.heap.size w1 W) => lift2 h (CL.out W v1 ((HX.out.2.keep HB1.out).keep h) (HV1.out.keep h)))
 have CQ2 := Lib.hid (fun W (h : Below w1.heap.size w1 W) => lift2 h (CR.out W v1 ((HY.out.2.keep HB1.out).keep h) (HV1.out.keep h)))
 go_wp2_with fail
 go_region_held3 (fun w' => w'.cell? ⟨w.heap.size, 2, none⟩ = some (.slice A2 l2 c2) ∧ w'.cell? ⟨w.heap.size + 1, 2, none⟩ = some (.slice B2 m2 d2))
  (exact KX.out _ (by first | assumption | exact Below.refl _ _ | exact below_drew (Below.refl _ _) | exact below_drew (by assumption)))
  (first
   | (go_at_call 74; (with_reducible refine (CQ1.out _ (by first | assumption | exact Below.refl _ _ | exact below_drew (Below.refl _ _) | exact below_drew (by assumption))).mono ?_); rintro e w2 ⟨v2, rfl, hv2, hw2, hw2'⟩)
   | (go_at_call 74; (with_reducible refine (CQ2.out _ (by first | assumption | exact Below.refl _ _ | exact below_drew (Below.refl _ _) | exact below_drew (by assumption))).mono ?_); rintro e w3 ⟨v3, rfl, hv3, hw3, hw3'⟩)
   | fail)
 have HB3 := Lib.hid (HB1.out.trans (hw3.mono HB1.out.size))
 have HX3 := Lib.hid (HX1.out.keep hw3); have HY3 := Lib.hid (HY1.out.keep hw3); have HR3 := Lib.hid (HR1.out.keep hw3)
 have HV := Lib.hid (And.intro (HV1.out.keep hw3) (And.intro (hv2.keep hw3') hv3))
 clear hv2 hw2 hw2' hv3 hw3 hw3' HX1 HY1 HR1 HB1 HV1 KX CQ1 CQ2 CL
 have KX := Lib.hid (fun W (h : Below w3.heap.size w3 W) => And.intro (HX3.out.keep h).c0 (And.intro (HX3.out.keep h).c1 (And.intro (HY3.out.keep h).c0 (HY3.out.keep h).c1)))
 have CM1 := Lib.hid (fun W (h : Below w3.heap.size w3 W) => lift2 h (mul_num W _ _ _ _ k k ((HX.out.1.keep HB3.out).keep h) (HV.out.2.2.keep h) SX.out.nu SR.out (by omega) (by omega)))
 have CM2 := Lib.hid (fun W (h : Below w3.heap.size w3 W) => lift2 h (mul_num W _ _ _ _ k k ((HY.out.1.keep HB3.out).keep h) (HV.out.2.1.keep h) SY.out.nu SL.out (by omega) (by omega)))
 have CS := Lib.hid (fun W a b (ha : NatIn W a (Big.nu q * R)) (hb : NatIn W b (Big.nu r * L)) (h : Below w3.heap.size w3 W) => liftS h (exsum_any W nq nr a b _ _ _ _ ha hb (SX.out.nu.mul SR.out) (SY.out.nu.mul SL.out) (by omega) (by omega) (fun e => Nat.mul_pos (GX.out.1 e) hR1) (fun e => Nat.mul_pos (GX.out.2.1 e) hL1)))
 have SSm := Lib.hid (((SX.out.nu.mul SR.out).add (SY.out.nu.mul SL.out)).le (abs_sum_le nq nr _ _))
 generalize Big.sI nq (Big.nu q * R) + Big.sI nr (Big.nu r * L) = S at *
 go_wp2_with fail
 go_region_held3 (fun w' => w'.cell? ⟨w.heap.size, 0, none⟩ = some (.bool nq) ∧ w'.cell? ⟨w.heap.size, 1, none⟩ = some (.slice A l c) ∧ w'.cell? ⟨w.heap.size + 1, 0, none⟩ = some (.bool nr) ∧ w'.cell? ⟨w.heap.size + 1, 1, none⟩ = some (.slice B m d))
  (exact KX.out _ (by first | assumption | exact Below.refl _ _ | exact below_drew (Below.refl _ _) | exact below_drew (by assumption)))
  (first
   | (go_at_call 70; (with_reducible refine (CM1.out _ (by first | assumption | exact Below.refl _ _ | exact below_drew (Below.refl _ _) | exact below_drew (by assumption))).mono ?_); rintro e w4 ⟨v4, rfl, hv4, hw4, hw4'⟩)
   | (go_at_call 70; (with_reducible refine (CM2.out _ (by first | assumption | exact Below.refl _ _ | exact below_drew (Below.refl _ _) | exact below_drew (by assumption))).mono ?_); rintro e w5 ⟨v5, rfl, hv5, hw5, hw5'⟩)
   | (go_at_call 75; (with_reducible refine (CS.out _ _ _ (by first | exact hv4.keep hw5' | exact NatIn.dr (hv4.keep hw5')) (by first | exact hv5 | exact NatIn.dr (hv5)) (by first | assumption | exact Below.refl _ _ | exact below_drew (Below.refl _ _) | exact below_drew (by assumption))).mono ?_); rintro e w6 ⟨v6, rfl, hv6, hw6, hw6'⟩)
   | fail)
 have HB6 := Lib.hid (HB3.out.trans (hw6.mono HB3.out.size))
 have HY6 := Lib.hid (HY3.out.keep hw6); have HR6 := Lib.hid (HR3.out.keep hw6)
 have HV6 := Lib.hid (And.intro (HV.out.1.keep hw6) (And.intro (HV.out.2.1.keep hw6) hv6))
 clear hv4 hw4 hw4' hv5 hw5 hw5' hv6 hw6 hw6' HX3 HY3 HR3 HB3 HV KX CM1 CM2 CS
 clear HX CR hL1 hR1
 have G6 := Lib.hid (gcd_num w6 _ _ _ _ _ k HV6.out.2.2 HV6.out.1 SSm.out SS.out (by omega) (by omega))
 obtain ⟨cm, hc⟩ : ∃ z, Nat.gcd S.natAbs s = z := ⟨_, rfl⟩
 rw [hc] at PP G6
 clear hc
 go_wp2_with fail
 refine G6.out.mono ?_
 rintro e w7 ⟨v7, rfl, hv7, hw7⟩
 have HB7 := Lib.hid (HB6.out.trans (hw7.mono HB6.out.size))
 have HY7 := Lib.hid (HY6.out.keep hw7); have HR7 := Lib.hid (HR6.out.keep hw7)
 have HV7 := Lib.hid (And.intro (HV6.out.2.1.keep hw7) (And.intro (HV6.out.2.2.keep hw7) hv7))
 clear hv7 hw7 HB6 HY6 HR6 HV6 G6
 have KX := Lib.hid (fun W (h : Below w7.heap.size w7 W) => (HY7.out.keep h).c2)
 have CQ1 := Lib.hid (fun W (h : Below w7.heap.size w7 W) => lift2 h (quo_num W _ _ _ _ _ (HV7.out.2.1.keep h) (HV7.out.2.2.keep h) SSm.out (by omega)))
 have CQ2 := Lib.hid (fun W (h : Below w7.heap.size w7 W) => lift2 h (quo_num W _ _ _ _ k ((HY.out.2.keep HB7.out).keep h) (HV7.out.2.2.keep h) SY.out.de (by omega)))
 have CM := Lib.hid (fun W a (ha : NatIn W a (Big.de r / cm)) (h : Below w7.heap.size w7 W) => lift2 h (mul_num W _ _ _ _ k k (HV7.out.1.keep h) ha SL.out (SY.out.de.le (Nat.div_le_self _ _)) (by omega) (by omega)))
 have KP := Lib.hid (fun W x y z (h : Below w7.heap.size w7 W) => put_cell (KX.out W h) (show w.heap.size + 1 ≠ w.heap.size + 1 + 1 by omega) x y z)
 have RES := Lib.hid (fun W (h : Below w7.heap.size w7 W) => HR7.out.keep h)
 go_wp2_with fail
 go_region_held3 (fun w' => w'.cell? ⟨w.heap.size + 1, 2, none⟩ = some (.slice B2 m2 d2))
  (first | exact KX.out _ (by first | assumption | exact Below.refl _ _ | exact below_drew (Below.refl _ _) | exact below_drew (by assumption)) | exact KP.out _ _ _ _ (by assumption))
  (first
   | (go_at_call 74; (with_reducible refine (CQ1.out _ (by first | assumption | exact Below.refl _ _ | exact below_drew (Below.refl _ _) | exact below_drew (by assumption))).mono ?_); rintro e w8 ⟨v8, rfl, hv8, hw8, hw8'⟩)
   | (go_at_call 74; (with_reducible refine (CQ2.out _ (by first | assumption | exact Below.refl _ _ | exact below_drew (Below.refl _ _) | exact below_drew (by assumption))).mono ?_); rintro e w9 ⟨v9, rfl, hv9, hw9, hw9'⟩)
   | (go_at_call 70; (with_reducible refine (CM.out _ _ (by first | exact hv9 | exact NatIn.dr (hv9)) (by first | assumption | exact Below.refl _ _ | exact below_drew (Below.refl _ _) | exact below_drew (by assumption))).mono ?_); rintro e w10 ⟨v10, rfl, hv10, hw10, hw10'⟩; have RR := RES.out _ hw10; have k0 := RR.c0; have k1 := RR.c1; have k2 := RR.c2; have f0 := RR.frozen 0; have f1 := RR.frozen 1; have f2 := RR.frozen 2; obtain ⟨A8, l8, c8, rfl, hl8⟩ := hv8.is_slice; obtain ⟨A10, l10, c10, rfl, hl10⟩ := hv10.is_slice)
   | fail)
 have h8 := (hv8.keep hw9').keep hw10'
 rw [← PP.out.2.1] at h8
 rw [← PP.out.2.2] at hv10
 obtain ⟨D1, D2, D3⟩ := num_done (show NumRes w10 _ _ from RR) (HB7.out.trans (hw10.mono HB7.out.size)) (by omega) h8 hv10 PP.out.1.symm
 have HD1 := Lib.hid D1; have HD2 := Lib.hid D2; have HD3 := Lib.hid D3
 clear D1 D2 D3 k0 k1 k2 f0 f1 f2 RR h8
 generalize (((w10.setCell ⟨w.heap.size + 1 + 1, 0, none⟩ (.bool (decide (S < 0)))).setCell ⟨w.heap.size + 1 + 1, 1, none⟩ (.slice A8 l8 c8)).setCell ⟨w.heap.size + 1 + 1, 2, none⟩ (.slice A10 l10 c10)) = wz at HD1 HD2 HD3 ⊢
 have r0 := HD1.out.c0; have r1 := HD1.out.c1; have r2 := HD1.out.c2
 go_wp2_with fail
 exact bodyPost_ret (v := .agg #[.bool (decide (S < 0)), .slice A8 l8 c8, .slice A10 l10 c10]) (by simp [results, Try.results43, go_sem, r0, r1, r2]) rfl ⟨_, rfl, HD2.out, HD3.out⟩
set_option maxRecDepth 100000 in
set_option maxHeartbeats 4000000 in
theorem exMul_any (w : World) (vx vy : Value) (q r : Rat) (k : Nat) (hx : NumIn w vx q) (hy : NumIn w vy r) (sx : Sm k q) (sy : Sm k r) (hk : k ≤ 10000000) :
  Calls Try.prog 45 #[vx, vy] w (Num1 w (q * r)) := by
 obtain ⟨A, l, c, A2, l2, c2, rfl, hx1, hx2⟩ := hx.is_agg
 obtain ⟨B, m, d, B2, m2, d2, rfl, hy1, hy2⟩ := hy.is_agg
 have HX := Lib.hid (And.intro hx1 hx2); have HY := Lib.hid (And.intro hy1 hy2)
 have SX := Lib.hid sx; have SY := Lib.hid sy
 have GX := Lib.hid (And.intro (@Big.ng_pos q) (And.intro (@Big.ng_pos r) (And.intro (Big.de_pos q) (Big.de_pos r))))
 have PP := Lib.hid (Big.mul_parts q r)
 clear hx hy hx1 hx2 hy1 hy2 sx sy
 obtain ⟨g1, hg1⟩ : ∃ z, Nat.gcd (Big.nu q) (Big.de r) = z := ⟨_, rfl⟩
 obtain ⟨g2, hg2⟩ : ∃ z, Nat.gcd (Big.nu r) (Big.de q) = z := ⟨_, rfl⟩
 have HG := Lib.hid (And.intro hg1 hg2)
 rw [hg1, hg2] at PP
 clear hg1 hg2
 generalize Big.ng q = nq at *
 generalize Big.ng r = nr at *
 go_enter Try.func45, Try.ntmps45
 go_wp2_with fail
 obtain ⟨X0, Y0, R0, B0⟩ := boxed3 w 70 70 (.bool nq) (.slice A l c) (.slice A2 l2 c2) (.bool nr) (.slice B m d) (.slice B2 m2 d2) (.bool false) (.slice none 0 0) (.slice none 0 0)
 have HX0 := Lib.hid X0; have HY0 := Lib.hid Y0; have HR0 := Lib.hid R0; have HB0 := Lib.hid B0
 clear X0 Y0 R0 B0
 generalize ((w.alloc (.cells #[.bool nq, .slice A l c, .slice A2 l2 c2] 70)).alloc (.cells #[.bool nr, .slice B m d, .slice B2 m2 d2] 70)).alloc (.cells #[.bool false, .slice none 0 0, .slice none 0 0] 70) = w0 at *
 have KX := Lib.hid (fun W (h : Below w0.heap.size w0 W) => And.intro (HX0.out.keep h).c1 (And.intro (HX0.out.keep h).c2 (And.intro (HY0.out.keep h).c1 (HY0.out.keep h).c2)))
 have C1 := Lib.hid (fun W (h : Below w0.heap.size w0 W) => lift2 h (HG.out.1 ▸ gcd_num W _ _ _ _ k k ((HX.out.1.keep HB0.out).keep h) ((HY.out.2.keep HB0.out).keep h) SX.out.nu SY.out.de (by omega) (by omega)))
 have C2 := Lib.hid (fun W (h : Below w0.heap.size w0 W) => lift2 h (HG.out.2 ▸ gcd_num W _ _ _ _ k k ((HY.out.1.keep HB0.out).keep h) ((HX.out.2.keep HB0.out).keep h) SY.out.nu SX.out.de (by omega) (by omega)))
 go_wp2_with fail
 go_region_held3 (fun w' => w'.cell? ⟨w.heap.size, 1, none⟩ = some (.slice A l c) ∧ w'.cell? ⟨w.heap.size, 2, none⟩ = some (.slice A2 l2 c2) ∧ w'.cell? ⟨w.heap.size + 1, 1, none⟩ = some (.slice B m d) ∧ w'.cell? ⟨w.heap.size + 1, 2, none⟩ = some (.slice B2 m2 d2))
  (exact KX.out _ (by first | assumption | exact Below.refl _ _ | exact below_drew (Below.refl _ _) | exact below_drew (by assumption)))
  (first
   | (go_at_call 65; (with_reducible refine (C1.out _ (by first | assumption | exact Below.refl _ _ | exact below_drew (Below.refl _ _) | exact below_drew (by assumption))).mono ?_); rintro e w2 ⟨v2, rfl, hv2, hw2, hw2'⟩)
   | (go_at_call 65; (with_reducible refine (C2.out _ (by first | assumption | exact Below.refl _ _ | exact below_drew (Below.refl _ _) | exact below_drew (by assumption))).mono ?_); rintro e w3 ⟨v3, rfl, hv3, hw3, hw3'⟩)
   | fail)
 have HB3 := Lib.hid (HB0.out.trans (hw3.mono HB0.out.size))
 have HX3 := Lib.hid (HX0.out.keep hw3); have HY3 := Lib.hid (HY0.out.keep hw3); have HR3 := Lib.hid (HR0.out.keep hw3)
 have HV := Lib.hid (And.intro (hv2.keep hw3') hv3)
 clear hv2 hw2 hw2' hv3 hw3 hw3' HX0 HY0 HR0 HB0 KX C1 C2
 have KX := Lib.hid (fun W (h : Below w3.heap.size w3 W) => And.intro (HX3.out.keep h).c1 (HY3.out.keep h).c1)
 have C1 := Lib.hid (fun W (h : Below w3.heap.size w3 W) => lift2 h (quo_num W _ _ _ _ k ((HX.out.1.keep HB3.out).keep h) (HV.out.1.keep h) SX.out.nu (by omega)))
 have C2 := Lib.hid (fun W (h : Below w3.heap.size w3 W) => lift2 h (quo_num W _ _ _ _ k ((HY.out.1.keep HB3.out).keep h) (HV.out.2.keep h) SY.out.nu (by omega)))
 have CM := Lib.hid (fun W a b (ha : NatIn W a (Big.nu q / g1)) (hb : NatIn W b (Big.nu r / g2)) (h : Below w3.heap.size w3 W) => lift2 h (mul_num W _ _ _ _ k k ha hb (SX.out.nu.le (Nat.div_le_self _ _)) (SY.out.nu.le (Nat.div_le_self _ _)) (by omega) (by omega)))
 go_wp2_with fail
 go_region_held3 (fun w' => w'.cell? ⟨w.heap.size, 1, none⟩ = some (.slice A l c) ∧ w'.cell? ⟨w.heap.size + 1, 1, none⟩ = some (.slice B m d))
  (exact KX.out _ (by first | assumption | exact Below.refl _ _ | exact below_drew (Below.refl _ _) | exact below_drew (by assumption)))
  (first
   | (go_at_call 74; (with_reducible refine (C1.out _ (by first | assumption | exact Below.refl _ _ | exact below_drew (Below.refl _ _) | exact below_drew (by assumption))).mono ?_); rintro e w4 ⟨v4, rfl, hv4, hw4, hw4'⟩)
   | (go_at_call 74; (with_reducible refine (C2.out _ (by first | assumption | exact Below.refl _ _ | exact below_drew (Below.refl _ _) | exact below_drew (by assumption))).mono ?_); rintro e w5 ⟨v5, rfl, hv5, hw5, hw5'⟩)
   | (go_at_call 70; (with_reducible refine (CM.out _ _ _ (by first | exact hv4.keep hw5' | exact NatIn.dr (hv4.keep hw5')) (by first | exact hv5 | exact NatIn.dr (hv5)) (by first | assumption | exact Below.refl _ _ | exact below_drew (Below.refl _ _) | exact below_drew (by assumption))).mono ?_); rintro e w6 ⟨v6, rfl, hv6, hw6, hw6'⟩)
   | fail)
 have HB6 := Lib.hid (HB3.out.trans (hw6.mono HB3.out.size))
 have HX6 := Lib.hid (HX3.out.keep hw6); have HY6 := Lib.hid (HY3.out.keep hw6); have HR6 := Lib.hid (HR3.out.keep hw6)
 have HV6 := Lib.hid (And.intro (HV.out.1.keep hw6) (And.intro (HV.out.2.keep hw6) hv6))
 clear hv4 hw4 hw4' hv5 hw5 hw5' hv6 hw6 hw6' HX3 HY3 HR3 HB3 HV KX C1 C2 CM
 have KX := Lib.hid (fun W (h : Below w6.heap.size w6 W) => And.intro (HX6.out.keep h).c2 (HY6.out.keep h).c2)
 have C1 := Lib.hid (fun W (h : Below w6.heap.size w6 W) => lift2 h (quo_num W _ _ _ _ k ((HX.out.2.keep HB6.out).keep h) (HV6.out.2.1.keep h) SX.out.de (by omega)))
 have C2 := Lib.hid (fun W (h : Below w6.heap.size w6 W) => lift2 h (quo_num W _ _ _ _ k ((HY.out.2.keep HB6.out).keep h) (HV6.out.1.keep h) SY.out.de (by omega)))
 have CM := Lib.hid (fun W a b (ha : NatIn W a (Big.de q / g2)) (hb : NatIn W b (Big.de r / g1)) (h : Below w6.heap.size w6 W) => lift2 h (mul_num W _ _ _ _ k k ha hb (SX.out.de.le (Nat.div_le_self _ _)) (SY.out.de.le (Nat.div_le_self _ _)) (by omega) (by omega)))
 go_wp2_with fail
 go_region_held3 (fun w' => w'.cell? ⟨w.heap.size, 2, none⟩ = some (.slice A2 l2 c2) ∧ w'.cell? ⟨w.heap.size + 1, 2, none⟩ = some (.slice B2 m2 d2))
  (exact KX.out _ (by first | assumption | exact Below.refl _ _ | exact below_drew (Below.refl _ _) | exact below_drew (by assumption)))
  (first
   | (go_at_call 74; (with_reducible refine (C1.out _ (by first | assumption | exact Below.refl _ _ | exact below_drew (Below.refl _ _) | exact below_drew (by assumption))).mono ?_); rintro e w7 ⟨v7, rfl, hv7, hw7, hw7'⟩)
   | (go_at_call 74; (with_reducible refine (C2.out _ (by first | assumption | exact Below.refl _ _ | exact below_drew (Below.refl _ _) | exact below_drew (by assumption))).mono ?_); rintro e w8 ⟨v8, rfl, hv8, hw8, hw8'⟩)
   | (go_at_call 70; (with_reducible refine (CM.out _ _ _ (by first | exact hv7.keep hw8' | exact NatIn.dr (hv7.keep hw8')) (by first | exact hv8 | exact NatIn.dr (hv8)) (by first | assumption | exact Below.refl _ _ | exact below_drew (Below.refl _ _) | exact below_drew (by assumption))).mono ?_); rintro e w9 ⟨v9, rfl, hv9, hw9, hw9'⟩)
   | fail)
 have HB9 := Lib.hid (HB6.out.trans (hw9.mono HB6.out.size))
 have X9 := HX6.out.keep hw9; have Y9 := HY6.out.keep hw9
 have x0 := X9.c0; have y0 := Y9.c0
 have RR := HR6.out.keep hw9
 have k0 := RR.c0; have k1 := RR.c1; have k2 := RR.c2; have f0 := RR.frozen 0; have f1 := RR.frozen 1; have f2 := RR.frozen 2
 have h6 := HV6.out.2.2.keep hw9
 obtain ⟨A6, l6, c6, rfl, hl6⟩ := h6.is_slice
 obtain ⟨A9, l9, c9, rfl, hl9⟩ := hv9.is_slice
 rw [← PP.out.2.2] at hv9
 rw [← PP.out.2.1] at h6 hl6
 have HH := Lib.hid (And.intro h6 hv9)
 have HNG := Lib.hid (show Big.ng (q * r) = ((nq != nr) && decide (0 < l6)) by
  rw [PP.out.1, ← PP.out.2.1]; congr 1; rw [decide_eq_decide, Nat.pos_iff_ne_zero, Nat.pos_iff_ne_zero, Ne, Ne, hl6])
 have HRR := Lib.hid RR
 clear hv7 hw7 hw7' hv8 hw8 hw8' hv9 hw9 hw9' HX6 HY6 HR6 HB6 HV6 KX C1 C2 CM X9 Y9 h6 hl6 hl9 RR PP HX HY SX SY GX HG
 rcases Nat.eq_zero_or_pos l6 with hl0 | hl0
 ·subst hl0
  rw [decide_eq_false (by omega), Bool.and_false] at HNG
  cases nq
  ·cases nr
   ·go_wp2_with fail
    obtain ⟨D1, D2, D3⟩ := num_done (bb := false) (show NumRes w9 _ _ from HRR.out) HB9.out (by omega) HH.out.1 HH.out.2 HNG.out.symm
    have HD1 := Lib.hid D1; have HD2 := Lib.hid D2; have HD3 := Lib.hid D3
    clear D1 D2 D3 k0 k1 k2 f0 f1 f2
    generalize (((w9.setCell ⟨w.heap.size + 1 + 1, 0, none⟩ (.bool (false))).setCell ⟨w.heap.size + 1 + 1, 1, none⟩ (.slice A6 0 c6)).setCell ⟨w.heap.size + 1 + 1, 2, none⟩ (.slice A9 l9 c9)) = wz at HD1 HD2 HD3 ⊢
    have r0 := HD1.out.c0; have r1 := HD1.out.c1; have r2 := HD1.out.c2
    go_wp2_with fail
    exact bodyPost_ret (v := .agg #[.bool (false), (.slice A6 0 c6), (.slice A9 l9 c9)]) (by simp [results, Try.results45, go_sem, r0, r1, r2]) rfl ⟨_, rfl, HD2.out, HD3.out⟩
   ·go_wp2_with fail
    obtain ⟨D1, D2, D3⟩ := num_done (bb := false) (show NumRes w9 _ _ from HRR.out) HB9.out (by omega) HH.out.1 HH.out.2 HNG.out.symm
    have HD1 := Lib.hid D1; have HD2 := Lib.hid D2; have HD3 := Lib.hid D3
    clear D1 D2 D3 k0 k1 k2 f0 f1 f2
    generalize (((w9.setCell ⟨w.heap.size + 1 + 1, 0, none⟩ (.bool (false))).setCell ⟨w.heap.size + 1 + 1, 1, none⟩ (.slice A6 0 c6)).setCell ⟨w.heap.size + 1 + 1, 2, none⟩ (.slice A9 l9 c9)) = wz at HD1 HD2 HD3 ⊢
    have r0 := HD1.out.c0; have r1 := HD1.out.c1; have r2 := HD1.out.c2
    go_wp2_with fail
    exact bodyPost_ret (v := .agg #[.bool (false), (.slice A6 0 c6), (.slice A9 l9 c9)]) (by simp [results, Try.results45, go_sem, r0, r1, r2]) rfl ⟨_, rfl, HD2.out, HD3.out⟩
  ·cases nr
   ·go_wp2_with fail
    obtain ⟨D1, D2, D3⟩ := num_done (bb := false) (show NumRes w9 _ _ from HRR.out) HB9.out (by omega) HH.out.1 HH.out.2 HNG.out.symm
    have HD1 := Lib.hid D1; have HD2 := Lib.hid D2; have HD3 := Lib.hid D3
    clear D1 D2 D3 k0 k1 k2 f0 f1 f2
    generalize (((w9.setCell ⟨w.heap.size + 1 + 1, 0, none⟩ (.bool (false))).setCell ⟨w.heap.size + 1 + 1, 1, none⟩ (.slice A6 0 c6)).setCell ⟨w.heap.size + 1 + 1, 2, none⟩ (.slice A9 l9 c9)) = wz at HD1 HD2 HD3 ⊢
    have r0 := HD1.out.c0; have r1 := HD1.out.c1; have r2 := HD1.out.c2
    go_wp2_with fail
    exact bodyPost_ret (v := .agg #[.bool (false), (.slice A6 0 c6), (.slice A9 l9 c9)]) (by simp [results, Try.results45, go_sem, r0, r1, r2]) rfl ⟨_, rfl, HD2.out, HD3.out⟩
   ·go_wp2_with fail
    obtain ⟨D1, D2, D3⟩ := num_done (bb := false) (show NumRes w9 _ _ from HRR.out) HB9.out (by omega) HH.out.1 HH.out.2 HNG.out.symm
    have HD1 := Lib.hid D1; have HD2 := Lib.hid D2; have HD3 := Lib.hid D3
    clear D1 D2 D3 k0 k1 k2 f0 f1 f2
    generalize (((w9.setCell ⟨w.heap.size + 1 + 1, 0, none⟩ (.bool (false))).setCell ⟨w.heap.size + 1 + 1, 1, none⟩ (.slice A6 0 c6)).setCell ⟨w.heap.size + 1 + 1, 2, none⟩ (.slice A9 l9 c9)) = wz at HD1 HD2 HD3 ⊢
    have r0 := HD1.out.c0; have r1 := HD1.out.c1; have r2 := HD1.out.c2
    go_wp2_with fail
    exact bodyPost_ret (v := .agg #[.bool (false), (.slice A6 0 c6), (.slice A9 l9 c9)]) (by simp [results, Try.results45, go_sem, r0, r1, r2]) rfl ⟨_, rfl, HD2.out, HD3.out⟩
 ·have t4 : ((l6 : Int) > 0) := by omega
  rw [decide_eq_true (by omega), Bool.and_true] at HNG
  cases nq
  ·cases nr
   ·go_wp2_with fail
    obtain ⟨D1, D2, D3⟩ := num_done (bb := false) (show NumRes w9 _ _ from HRR.out) HB9.out (by omega) HH.out.1 HH.out.2 HNG.out.symm
    have HD1 := Lib.hid D1; have HD2 := Lib.hid D2; have HD3 := Lib.hid D3
    clear D1 D2 D3 k0 k1 k2 f0 f1 f2
    generalize (((w9.setCell ⟨w.heap.size + 1 + 1, 0, none⟩ (.bool (false))).setCell ⟨w.heap.size + 1 + 1, 1, none⟩ (.slice A6 l6 c6)).setCell ⟨w.heap.size + 1 + 1, 2, none⟩ (.slice A9 l9 c9)) = wz at HD1 HD2 HD3 ⊢
    have r0 := HD1.out.c0; have r1 := HD1.out.c1; have r2 := HD1.out.c2
    go_wp2_with fail
    exact bodyPost_ret (v := .agg #[.bool (false), (.slice A6 l6 c6), (.slice A9 l9 c9)]) (by simp [results, Try.results45, go_sem, r0, r1, r2]) rfl ⟨_, rfl, HD2.out, HD3.out⟩
   ·go_wp2_with fail
    obtain ⟨D1, D2, D3⟩ := num_done (bb := true) (show NumRes w9 _ _ from HRR.out) HB9.out (by omega) HH.out.1 HH.out.2 HNG.out.symm
    have HD1 := Lib.hid D1; have HD2 := Lib.hid D2; have HD3 := Lib.hid D3
    clear D1 D2 D3 k0 k1 k2 f0 f1 f2
    generalize (((w9.setCell ⟨w.heap.size + 1 + 1, 0, none⟩ (.bool (true))).setCell ⟨w.heap.size + 1 + 1, 1, none⟩ (.slice A6 l6 c6)).setCell ⟨w.heap.size + 1 + 1, 2, none⟩ (.slice A9 l9 c9)) = wz at HD1 HD2 HD3 ⊢
    have r0 := HD1.out.c0; have r1 := HD1.out.c1; have r2 := HD1.out.c2
    go_wp2_with fail
    exact bodyPost_ret (v := .agg #[.bool (true), (.slice A6 l6 c6), (.slice A9 l9 c9)]) (by simp [results, Try.results45, go_sem, r0, r1, r2]) rfl ⟨_, rfl, HD2.out, HD3.out⟩
  ·cases nr
   ·go_wp2_with fail
    obtain ⟨D1, D2, D3⟩ := num_done (bb := true) (show NumRes w9 _ _ from HRR.out) HB9.out (by omega) HH.out.1 HH.out.2 HNG.out.symm
    have HD1 := Lib.hid D1; have HD2 := Lib.hid D2; have HD3 := Lib.hid D3
    clear D1 D2 D3 k0 k1 k2 f0 f1 f2
    generalize (((w9.setCell ⟨w.heap.size + 1 + 1, 0, none⟩ (.bool (true))).setCell ⟨w.heap.size + 1 + 1, 1, none⟩ (.slice A6 l6 c6)).setCell ⟨w.heap.size + 1 + 1, 2, none⟩ (.slice A9 l9 c9)) = wz at HD1 HD2 HD3 ⊢
    have r0 := HD1.out.c0; have r1 := HD1.out.c1; have r2 := HD1.out.c2
    go_wp2_with fail
    exact bodyPost_ret (v := .agg #[.bool (true), (.slice A6 l6 c6), (.slice A9 l9 c9)]) (by simp [results, Try.results45, go_sem, r0, r1, r2]) rfl ⟨_, rfl, HD2.out, HD3.out⟩
   ·go_wp2_with fail
    obtain ⟨D1, D2, D3⟩ := num_done (bb := false) (show NumRes w9 _ _ from HRR.out) HB9.out (by omega) HH.out.1 HH.out.2 HNG.out.symm
    have HD1 := Lib.hid D1; have HD2 := Lib.hid D2; have HD3 := Lib.hid D3
    clear D1 D2 D3 k0 k1 k2 f0 f1 f2
    generalize (((w9.setCell ⟨w.heap.size + 1 + 1, 0, none⟩ (.bool (false))).setCell ⟨w.heap.size + 1 + 1, 1, none⟩ (.slice A6 l6 c6)).setCell ⟨w.heap.size + 1 + 1, 2, none⟩ (.slice A9 l9 c9)) = wz at HD1 HD2 HD3 ⊢
    have r0 := HD1.out.c0; have r1 := HD1.out.c1; have r2 := HD1.out.c2
    go_wp2_with fail
    exact bodyPost_ret (v := .agg #[.bool (false), (.slice A6 l6 c6), (.slice A9 l9 c9)]) (by simp [results, Try.results45, go_sem, r0, r1, r2]) rfl ⟨_, rfl, HD2.out, HD3.out⟩
def NumT (b w : World) (q : Rat) (e : Ending) (w' : World) : Prop := ∃ v', e = .returned v' ∧ NumIn w' v' q ∧ Below b.heap.size b w' ∧ Below w.heap.size w w'
theorem liftN {P : Program} {f : FuncId} {args : Array Value} {b W : World} {q : Rat} (h : Below b.heap.size b W) (c : Calls P f args W (Num1 W q)) : Calls P f args W (NumT b W q) :=
 c.mono fun _ _ ⟨v, h1, h2, h3⟩ => ⟨v, h1, h2, h.trans (h3.mono h.size), h3⟩
def sgQ (q : Rat) : Int := if Big.ng q = true then -1 else if Big.nu q = 0 then 0 else 1
theorem box1_below (w : World) (o : Obj) : Below w.heap.size w (w.alloc o) := below_alloc (Below.refl _ _) (Nat.le_refl _) o
set_option maxRecDepth 100000 in
set_option maxHeartbeats 4000000 in
theorem exNeg_any (w : World) (vx : Value) (q : Rat) (hx : NumIn w vx q) :
  Calls Try.prog 73 #[vx] w (Num1 w (-q)) := by
 obtain ⟨A, l, c, A2, l2, c2, rfl, hx1, hx2⟩ := hx.is_agg
 have HX := Lib.hid (And.intro hx1 hx2)
 obtain ⟨p1, p2, p3⟩ := Big.neg_parts q
 have hl := hx1.len_zero
 have HNG := Lib.hid (show Big.ng (-q) = (!Big.ng q && decide (0 < l)) by rw [p1]; congr 1; rw [decide_eq_decide, Nat.pos_iff_ne_zero, Nat.pos_iff_ne_zero, Ne, Ne, hl])
 have H0 := Lib.hid (show NatIn w (.slice A l c) (Big.nu (-q)) ∧ NatIn w (.slice A2 l2 c2) (Big.de (-q)) by rw [p2, p3]; exact ⟨hx1, hx2⟩)
 clear hx hx1 hx2 p1 p2 p3 hl HX
 generalize Big.ng q = nq at *
 rcases Nat.eq_zero_or_pos l with hl0 | hl0
 ·subst hl0
  rw [decide_eq_false (by omega), Bool.and_false] at HNG
  cases nq
  ·go_enter Try.func73, Try.ntmps73
   go_wp2_with fail
   obtain ⟨_, R0, B0⟩ := boxed2 w 70 70 (.bool false) (.slice A 0 c) (.slice A2 l2 c2) (.bool false) (.slice A 0 c) (.slice A2 l2 c2)
   have r0 := R0.c0; have r1 := R0.c1; have r2 := R0.c2
   exact bodyPost_ret (v := .agg #[.bool false, .slice A 0 c, .slice A2 l2 c2]) (by simp [results, Try.results73, go_sem, r0, r1, r2]) rfl ⟨_, rfl, ⟨_, _, by first | (rw [HNG.out]; done) | (rw [HNG.out]; rfl), H0.out.1.keep B0, H0.out.2.keep B0⟩, B0⟩
  ·go_enter Try.func73, Try.ntmps73
   go_wp2_with fail
   obtain ⟨_, R0, B0⟩ := boxed2 w 70 70 (.bool true) (.slice A 0 c) (.slice A2 l2 c2) (.bool false) (.slice A 0 c) (.slice A2 l2 c2)
   have r0 := R0.c0; have r1 := R0.c1; have r2 := R0.c2
   exact bodyPost_ret (v := .agg #[.bool false, .slice A 0 c, .slice A2 l2 c2]) (by simp [results, Try.results73, go_sem, r0, r1, r2]) rfl ⟨_, rfl, ⟨_, _, by first | (rw [HNG.out]; done) | (rw [HNG.out]; rfl), H0.out.1.keep B0, H0.out.2.keep B0⟩, B0⟩
 ·have t4 : ((l : Int) > 0) := by omega
  rw [decide_eq_true (by omega), Bool.and_true] at HNG
  cases nq
  ·go_enter Try.func73, Try.ntmps73
   go_wp2_with fail
   obtain ⟨_, R0, B0⟩ := boxed2 w 70 70 (.bool false) (.slice A l c) (.slice A2 l2 c2) (.bool true) (.slice A l c) (.slice A2 l2 c2)
   have r0 := R0.c0; have r1 := R0.c1; have r2 := R0.c2
   exact bodyPost_ret (v := .agg #[.bool true, .slice A l c, .slice A2 l2 c2]) (by simp [results, Try.results73, go_sem, r0, r1, r2]) rfl ⟨_, rfl, ⟨_, _, by first | (rw [HNG.out]; done) | (rw [HNG.out]; rfl), H0.out.1.keep B0, H0.out.2.keep B0⟩, B0⟩
  ·go_enter Try.func73, Try.ntmps73
   go_wp2_with fail
   obtain ⟨_, R0, B0⟩ := boxed2 w 70 70 (.bool true) (.slice A l c) (.slice A2 l2 c2) (.bool false) (.slice A l c) (.slice A2 l2 c2)
   have r0 := R0.c0; have r1 := R0.c1; have r2 := R0.c2
   exact bodyPost_ret (v := .agg #[.bool false, .slice A l c, .slice A2 l2 c2]) (by simp [results, Try.results73, go_sem, r0, r1, r2]) rfl ⟨_, rfl, ⟨_, _, by first | (rw [HNG.out]; done) | (rw [HNG.out]; rfl), H0.out.1.keep B0, H0.out.2.keep B0⟩, B0⟩
theorem exSign_any (w : World) (vx : Value) (q : Rat) (hx : NumIn w vx q) :
  Calls Try.prog 35 #[vx] w fun e w' => e = .returned (.int .i64 (sgQ q)) ∧ Below w.heap.size w w' := by
 obtain ⟨A, l, c, A2, l2, c2, rfl, hx1, hx2⟩ := hx.is_agg
 have HX := Lib.hid (And.intro hx1 hx2)
 have HB := Lib.hid (box1_below w (.cells #[.bool (Big.ng q), .slice A l c, .slice A2 l2 c2] 70))
 have hl := hx1.len_zero
 have HS := Lib.hid (show sgQ q = if Big.ng q = true then -1 else if l = 0 then 0 else 1 by unfold sgQ; simp only [hl])
 clear hx hx1 hx2 hl HX
 generalize sgQ q = z at *
 generalize Big.ng q = nq at *
 cases nq
 ·rcases Nat.eq_zero_or_pos l with hl0 | hl0
  ·subst hl0
   go_enter Try.func35, Try.ntmps35
   go_wp2_with fail
   go_ret
   exact ⟨ret_int HS.out.symm, HB.out⟩
  ·have t : ((l : Int) == 0) = false := beq_eq_false_iff_ne.2 (by omega)
   rw [if_neg (by simp), if_neg (by omega)] at HS
   go_enter Try.func35, Try.ntmps35
   go_wp2_with fail
   go_ret
   exact ⟨ret_int HS.out.symm, HB.out⟩
 ·go_enter Try.func35, Try.ntmps35
  go_wp2_with fail
  go_ret
  exact ⟨ret_int HS.out.symm, HB.out⟩
end Go.Proofs.Ytnlhjcfpfapafaa
