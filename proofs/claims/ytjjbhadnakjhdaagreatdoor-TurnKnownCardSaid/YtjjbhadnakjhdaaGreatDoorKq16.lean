/- Contracts, in this order: The interpreter: package nat's texts, and what it answers in · The interpreter: strings.Join of texts that are known. · The interpreter: from a run to what the program does. · The interpreter: calls of plain values whose answers are kno -/
import Derived.Test.YtjjbhadnakjhdaaGreatDoorKq15
import Derived.Test.YtjjbhadnakjhdaaGreatDoorKq06
import Derived.Test.YtjjbhadnakjhdaaGreatDoorShelf
namespace Go.Proofs.YtjjbhadnakjhdaaGreatDoor
open Go Go.RowKit
namespace Ev
noncomputable def digF (k : Nat) : Nat → List UInt8 → List UInt8 :=
  Nat.rec (motive := fun _ => Nat → List UInt8 → List UInt8) (fun _ acc => acc) (fun _ ih u acc => cond (Nat.ble 10 u) (ih (Nat.div u 10) (UInt8.ofNat (48 + Nat.mod u 10) :: acc)) (UInt8.ofNat (48 + u) :: acc)) k
theorem digF_eq : ∀ (k u : Nat) (acc : List UInt8), u < 10 ^ k → 1 ≤ k → digF k u acc = Lib.decDigits u ++ acc
  | 0, _, _, _, h => absurd h (by omega)
  | k + 1, u, acc, h, _ => by
    show cond (Nat.ble 10 u) (digF k (Nat.div u 10) (UInt8.ofNat (48 + Nat.mod u 10) :: acc)) (UInt8.ofNat (48 + u) :: acc) = _
    cases hb : Nat.ble 10 u with
    | false =>
      have h10 : u < 10 := by
        rcases Nat.lt_or_ge u 10 with h1 | h1
        · exact h1
        · rw [Nat.ble_eq_true_of_le h1] at hb; cases hb
      rw [Lib.decDigits_one h10]; rfl
    | true =>
      have h10 := Nat.le_of_ble_eq_true hb
      rw [cond_true]
      have hk : 1 ≤ k := by
        rcases Nat.eq_zero_or_pos k with h0 | h0
        · subst h0; simp at h; omega
        · exact h0
      have hd : u / 10 < 10 ^ k := by
        rw [Nat.pow_succ] at h
        exact Nat.div_lt_of_lt_mul (by rw [Nat.mul_comm]; exact h)
      show digF k (u / 10) (UInt8.ofNat (48 + u % 10) :: acc) = _
      rw [digF_eq k (u / 10) _ hd hk, Big.dec_big (by omega : ¬ u < 10), List.append_assoc]
      rfl
noncomputable def digs (n : Nat) : List UInt8 := digF (Nat.succ (Nat.log2 n)) n []
theorem digs_eq (n : Nat) : digs n = Lib.decDigits n := by
  unfold digs
  have h : n < 2 ^ (Nat.log2 n + 1) := Nat.lt_log2_self
  rw [digF_eq _ _ _ (Nat.lt_of_lt_of_le h (Nat.pow_le_pow_left (by omega) _)) (by omega), List.append_nil]
noncomputable def isDig (c : UInt8) : Bool := Nat.ble 48 c.toNat && Nat.ble c.toNat 57
noncomputable def allDig (l : List UInt8) : Bool := List.rec (motive := fun _ => Bool) true (fun c _ ih => isDig c && ih) l
theorem allDig_ok : ∀ {l : List UInt8}, allDig l = true → Big.Digs l
  | [], _ => fun c hc => by simp at hc
  | c :: l, h => by
    have h' : (isDig c && allDig l) = true := h
    simp only [Bool.and_eq_true, isDig] at h'
    intro d hd
    rcases List.mem_cons.1 hd with rfl | hd
    · exact ⟨Nat.le_of_ble_eq_true h'.1.1, Nat.le_of_ble_eq_true h'.1.2⟩
    · exact allDig_ok h'.2 d hd
noncomputable def isTextB (l : List UInt8) : Bool := match l with
  | [] => false
  | c :: m => allDig (c :: m) && (match m with
    | [] => true
    | _ :: _ => Nat.ble 49 c.toNat)
theorem isTextB_ok {l : List UInt8} (h : isTextB l = true) : Big.IsText l := by
  match l, h with
  | [c], h =>
    simp only [isTextB, Bool.and_eq_true] at h
    exact ⟨by simp, fun e => by simp at e; rw [e], allDig_ok h.1⟩
  | c :: d :: m, h =>
    simp only [isTextB, Bool.and_eq_true] at h
    refine ⟨by simp, fun e => ?_, allDig_ok h.1⟩
    simp at e
    have := Nat.le_of_ble_eq_true h.2
    subst e
    exact absurd this (by decide)
noncomputable def dnumF (l : List UInt8) : Nat → Nat := List.rec (motive := fun _ => Nat → Nat) (fun n => n) (fun c _ ih n => ih (Nat.add (Nat.mul n 10) (Nat.sub c.toNat 48))) l
theorem dnumF_eq : ∀ (l : List UInt8) (n : Nat), dnumF l n = l.foldl (fun n c => n * 10 + (c.toNat - 48)) n
  | [], _ => rfl
  | _ :: l, _ => dnumF_eq l _
section
variable {h h' : Tr (Blk Nat)} {nx nx' : Nat} {R W : List Nat} {r : Ren} {w : World} {v : Value}
theorem goes_new1 {N : Nat} {u : Value} (hp : plain u = true) {f : FuncId} {args' : List Value} (e : (bind (newFact N) fun x => ret (.tuple ⟨[x, u]⟩) : M Nat Value) h nx = .ok v h' nx' R W) (hM : Mod natSig r h.get w) (hN : New r nx nx')
    (c : Calls Tryz.prog f ⟨args'⟩ w fun e w' => ∃ v', e = .returned (.tuple ⟨[v', u]⟩) ∧ NatIn w' v' N ∧ Below w.heap.size w w') : Goes f args' r w nx nx' W h'.get v := by
  obtain ⟨x, h0, nx0, R0, W0, R3, W3, e0, e3, rfl, rfl⟩ := bind_ok e
  obtain ⟨rfl, rfl, rfl, rfl⟩ := ret_ok e3
  obtain ⟨i, h1, nx1, R1, W1, R2, W2, e1, e2, rfl, rfl⟩ := bind_ok e0
  obtain ⟨rfl, rfl, rfl, rfl⟩ := ret_ok e2
  unfold fresh at e1
  cases e1
  refine c.mono ?_
  rintro en w' ⟨v', rfl, hv, hb⟩
  obtain ⟨r', hX, hr⟩ := ext_fact (S := natSig) (f := N) hM hb hN hv (nat_one hv)
  exact ⟨.tuple ⟨[v', u]⟩, r', rfl, .tuple (.cons (.opq hr (nat_one hv)) (.cons (.same hp) .nil)), by simpa using hX.congr fun n => .inr (Tr.get_set _ _ _ _)⟩
theorem goes_new2 {N M' : Nat} {f : FuncId} {args' : List Value} (e : (bind (newFact N) fun x => bind (newFact M') fun y => ret (.tuple ⟨[x, y]⟩) : M Nat Value) h nx = .ok v h' nx' R W) (hM : Mod natSig r h.get w) (hN : New r nx nx')
    (c : Calls Tryz.prog f ⟨args'⟩ w fun e w' => ∃ a b, e = .returned (.tuple ⟨[a, b]⟩) ∧ NatIn w' a N ∧ NatIn w' b M' ∧ Below w.heap.size w w') : Goes f args' r w nx nx' W h'.get v := by
  obtain ⟨x, h0, nx0, R0, W0, R3, W3, e0, e3, rfl, rfl⟩ := bind_ok e
  obtain ⟨i, h1, nx1, R1, W1, R2, W2, e1, e2, rfl, rfl⟩ := bind_ok e0
  obtain ⟨rfl, rfl, rfl, rfl⟩ := ret_ok e2
  unfold fresh at e1
  cases e1
  obtain ⟨y, h4, nx4, R4, W4, R5, W5, e4, e5, rfl, rfl⟩ := bind_ok e3
  obtain ⟨rfl, rfl, rfl, rfl⟩ := ret_ok e5
  obtain ⟨j, h6, nx6, R6, W6, R7, W7, e6, e7, rfl, rfl⟩ := bind_ok e4
  obtain ⟨rfl, rfl, rfl, rfl⟩ := ret_ok e7
  unfold fresh at e6
  cases e6
  refine c.mono ?_
  rintro en w' ⟨a, b, rfl, ha, hb', hb⟩
  obtain ⟨r1, hX, hr⟩ := ext_fact (S := natSig) (f := N) hM hb (hN.sub (Nat.le_refl _) (by omega)) ha (nat_one ha)
  have hN2 := New.after (hN.sub (lo' := nx) (hi' := nx + 1 + 1) (Nat.le_refl _) (by omega)) hX (by omega)
  obtain ⟨r2, hY, hs⟩ := ext_fact (S := natSig) (f := M') hX.mod (Below.refl _ w') hN2 hb' (nat_one hb')
  refine ⟨.tuple ⟨[a, b]⟩, r2, rfl, .tuple (.cons (.opq (hY.le.val _ _ hr) (nat_one ha)) (.cons (.opq hs (nat_one hb')) .nil)), ?_⟩
  have hZ := hX.trans hY (by omega) (by omega)
  refine Ext.congr (by simpa using hZ) fun n => .inr ?_
  rw [Tr.get_set, Tr.get_set]
end
theorem sum_bits : SumF natSig Tryz.prog 297 (fun args => one args fun n => ret (.int .i64 ((bitsN n : Nat) : Int))) :=
  one_ok (fun _ => loc_ret _) fun n h nx v h' nx' R W e r w a hn sn hM _ => goes_val e rfl hM (same_below (bits_num w a n _ hn sn (by omega)))
theorem sum_word : SumF natSig Tryz.prog 298 (fun args => one args fun n => ret (.tuple #[.int .u64 (((if n < Big.M64 then n else 0) : Nat) : Int), .bool (decide (n < Big.M64))])) :=
  one_ok (fun _ => loc_ret _) fun n h nx v h' nx' R W e r w a hn _ hM _ => goes_val e rfl hM (same_below (word2_any w a n hn))
theorem sum_text : SumF natSig Tryz.prog 69 (fun args => one args fun n => ret (.string ⟨⟨digs n⟩⟩)) :=
  one_ok (fun _ => loc_ret _) fun n h nx v h' nx' R W e r w a hn sn hM _ => goes_val e rfl hM (by
    rw [digs_eq]
    exact text_any w a n _ hn sn (by omega) hM.base)
theorem sum_quoRem : SumF natSig Tryz.prog 221 (fun args => two args fun n m => bind (newFact (Nat.div n m)) fun x => bind (newFact (Nat.mod n m)) fun y => ret (.tuple ⟨[x, y]⟩)) :=
  two_ok (fun _ _ => loc_bind (loc_newFact _) fun _ => loc_bind (loc_newFact _) fun _ => loc_ret _) fun n m h nx v h' nx' R W e r w a b hn hm sn sm hM hN => goes_new2 e hM hN (quoRem_num w a b n m _ hn hm sn (by omega))
theorem sum_parse : SumF natSig Tryz.prog 154 (fun args => match args with
    | [a] => match a with
      | .string s => cond (Nat.ble s.size 100000 && isTextB s.data.toList) (some (bind (newFact (dnumF s.data.toList 0)) fun x => ret (.tuple ⟨[x, .bool true]⟩))) none
      | _ => none
    | _ => none) := by
  intro args m e
  rcases args with _ | ⟨a, _ | ⟨c, l⟩⟩ <;> simp only [reduceCtorEq] at e
  cases a with
  | string s =>
    simp only at e
    cases hk : (Nat.ble s.size 100000 && isTextB s.data.toList) with
    | false => rw [hk] at e; cases e
    | true =>
      rw [hk] at e
      simp only [cond_true, Option.some.injEq] at e
      subst e
      simp only [Bool.and_eq_true] at hk
      have hlt : s.size ≤ 100000 := Nat.le_of_ble_eq_true hk.1
      refine ⟨loc_bind (loc_newFact _) fun _ => loc_ret _, ?_⟩
      intro h nx v h' nx' R W e r w args' ha hM hN
      cases ha with
      | cons ha1 ha2 =>
        cases ha2
        have hb := ha1.str
        subst hb
        exact goes_new1 rfl e hM hN (by
          rw [dnumF_eq]
          exact parse_any w s (isTextB_ok hk.2) (by omega))
  | _ => simp at e
end Ev
end Go.Proofs.YtjjbhadnakjhdaaGreatDoor
namespace Go.Proofs.YtjjbhadnakjhdaaGreatDoor
open Go Go.RowKit
namespace Ev
noncomputable def strsOf (l : List Value) : Option (List ByteArray) := List.rec (motive := fun _ => Option (List ByteArray)) (some []) (fun v _ ih => match v with
  | .string s => match ih with
    | some l => some (s :: l)
    | none => none
  | _ => none) l
theorem strsOf_ok : ∀ {l : List Value} {xs : List ByteArray}, strsOf l = some xs → l = xs.map .string
  | [], xs, h => by cases (show some [] = some xs from h); rfl
  | v :: l, xs, h => by
    cases v with
    | string s =>
      have h' : (match strsOf l with | some l => some (s :: l) | none => none) = some xs := h
      cases hl : strsOf l with
      | none => rw [hl] at h'; cases h'
      | some ys =>
        rw [hl] at h'
        cases h'
        rw [strsOf_ok hl]; rfl
    | _ => exact absurd (show (none : Option (List ByteArray)) = some xs from h) (by simp)
theorem strs_same {r : Ren} : ∀ {xs : List ByteArray} {l : List Value}, VsR r (xs.map .string) l → l = xs.map .string
  | [], _, h => by cases h; rfl
  | x :: xs, _, h => by
    cases h with
    | cons a b => rw [a.str, strs_same b]; rfl
noncomputable def capOf (c : Nat) : Nat := cond (Nat.ble capX c) (Nat.mod c capX) c
theorem capOf_le {r : Ren} {b off l c : Nat} {v' : Value} (h : VR r (vslice b off l c) v') : ∃ b' c', r.blk b = some b' ∧ v' = vslice b' off l c' ∧ capOf c ≤ c' := by
  obtain ⟨b', c', hb, hv, hc⟩ := slice_cases h
  refine ⟨b', c', hb, hv, ?_⟩
  unfold capOf
  rcases hc with ⟨hlt, rfl⟩ | ⟨s, c0, rfl, hc0, hle, _⟩
  · have hb0 : Nat.ble capX c' = false := by
      cases hq : Nat.ble capX c' with
      | false => rfl
      | true => have := Nat.le_of_ble_eq_true hq; omega
    rw [hb0]; exact Nat.le_refl _
  · have hmod : Nat.mod (capX * (s + 1) + c0) capX = c0 := by
      show (capX * (s + 1) + c0) % capX = c0
      unfold capX at hc0 ⊢; omega
    have hb0 : Nat.ble capX (capX * (s + 1) + c0) = true := Nat.ble_eq_true_of_le (by unfold capX; omega)
    rw [hb0, hmod]; exact hle
noncomputable def joined (xs : List ByteArray) (sep : ByteArray) : List UInt8 := Lib.join (xs.map (·.data.toList)) sep.data.toList
noncomputable def joinK (xs : List ByteArray) (n c : Nat) (sep : ByteArray) : M Nat Value := cond (Nat.ble n (capOf c) && Nat.ble n 100000 && Nat.ble (joined xs sep).length 100000) (ret (.string ⟨(joined xs sep).toArray⟩)) fail
noncomputable def joinS (args : List Value) : Option (M Nat Value) := match args with
  | [v, s] => match s with
    | .string sep => match sliceOf v with
      | some y => match y.1 with
        | some a => some (bind (rowO a.1 a.2 y.2.1) fun l => match strsOf l with
          | some xs => joinK xs y.2.1 y.2.2 sep
          | none => fail)
        | none => none
      | none => none
    | _ => none
  | _ => none
theorem sum_join : SumF natSig Tryz.prog 116 joinS := by
  intro args m e
  unfold joinS at e
  rcases args with _ | ⟨v, _ | ⟨s, _ | ⟨z, l⟩⟩⟩ <;> simp only [reduceCtorEq] at e
  cases s <;> simp only [reduceCtorEq] at e
  rename_i sep
  cases hs : sliceOf v with
  | none => rw [hs] at e; cases e
  | some y =>
  obtain ⟨base, n, c⟩ := y
  rw [hs] at e
  simp only at e
  cases base with
  | none => cases e
  | some a =>
  obtain ⟨b, off⟩ := a
  cases e
  refine ⟨loc_bind (loc_rowO _ _ _) fun l => by
    split
    · exact loc_cond (loc_ret _) loc_fail
    · exact loc_fail, ?_⟩
  intro h nx u h' nx' R W e r w args' hargs hM hN
  cases hargs with
  | cons h1 h2 => cases h2 with
    | cons h2 h3 =>
      cases h3
      obtain rfl := h2.str
      have hvs : v = vslice b off n c := sliceOf_of hs
      subst hvs
      obtain ⟨b', c', hb, rfl, hc⟩ := capOf_le h1
      obtain ⟨l, g1, nx1, R1, W1, R2, W2, e1, e2, rfl, rfl⟩ := bind_ok e
      obtain ⟨rfl, rfl, rfl, hl, l', q1, _, q3⟩ := rowO_ok e1 hM hb
      cases hx : strsOf l with
      | none => rw [hx] at e2; simp [fail] at e2
      | some xs =>
        rw [hx] at e2
        simp only at e2
        obtain rfl := strsOf_ok hx
        obtain rfl := strs_same q1
        unfold joinK at e2
        obtain ⟨hk, e3⟩ := cond_ok e2
        simp only [Bool.and_eq_true] at hk
        obtain ⟨⟨k1, k2⟩, k3⟩ := hk
        have k1 := Nat.le_of_ble_eq_true k1
        have k2 := Nat.le_of_ble_eq_true k2
        have k3 := Nat.le_of_ble_eq_true k3
        have hn : xs.length = n := by simpa using hl
        subst hn
        have hcall := Tryz.strings_Join b' off c' xs sep w (fun j x hj => q3 j _ (by rw [List.getElem?_map, hj]; rfl)) (hM.lt _ _ hb) (by omega) (by omega) (by unfold joined at k3; omega)
        simpa [Goes, vslice] using goes_val e3 rfl hM hcall
end Ev
end Go.Proofs.YtjjbhadnakjhdaaGreatDoor
namespace Go.Proofs.YtjjbhadnakjhdaaGreatDoor
open Go Go.RowKit
namespace Ev
section
variable {F : Type} {S : Sig F} {P : Program}
noncomputable def geAll (k : Nat) (l : List Nat) : Bool := List.rec (motive := fun _ => Bool) true (fun n _ ih => Bool.rec (motive := fun _ => Bool) false ih (Nat.ble k n)) l
theorem geAll_ok {k : Nat} : ∀ {l : List Nat}, geAll k l = true → ∀ n ∈ l, k ≤ n
  | [], _, n, hn => by simp at hn
  | m :: l, h, n, hn => by
    have h' : (Bool.rec (motive := fun _ => Bool) false (geAll k l) (Nat.ble k m) : Bool) = true := h
    cases hb : Nat.ble k m with
    | false => rw [hb] at h'; cases h'
    | true =>
      rw [hb] at h'
      rcases List.mem_cons.1 hn with rfl | hn
      · exact Nat.le_of_ble_eq_true hb
      · exact geAll_ok h' n hn
noncomputable def plains (l : List Value) : Bool := plainL plain2 l
theorem plains_ok {r : Ren} : ∀ {l : List Value}, plains l = true → VsR r l l
  | [], _ => .nil
  | v :: l, h => by
    have h' : (plain2 v && plains l) = true := h
    simp only [Bool.and_eq_true] at h'
    exact .cons (VR.same2 h'.1) (plains_ok h'.2)
theorem VsR_eq {r : Ren} : ∀ {l l' : List Value}, plains l = true → VsR r l l' → l' = l
  | [], _, _, h => by cases h; rfl
  | v :: l, _, hp, h => by
    have h' : (plain2 v && plains l) = true := hp
    simp only [Bool.and_eq_true] at h'
    cases h with
    | cons a b => rw [a.eq_of_plain2 h'.1, VsR_eq h'.2 b]
noncomputable def plain3 (v : Value) : Bool := match v with
  | .tuple cs => plains cs.toList
  | v => plain2 v
theorem same3 {r : Ren} {v : Value} (h : plain3 v = true) : VR r v v := by
  cases v with
  | tuple cs => cases cs; exact .tuple (plains_ok (by simpa [plain3] using h))
  | _ => exact VR.same2 h
theorem eq_of_plain3 {r : Ren} {v v' : Value} (h : VR r v v') (hp : plain3 v = true) : v' = v := by
  cases h with
  | tuple a => rw [VsR_eq (by simpa [plain3] using hp) a]
  | same p => rfl
  | ptr p => exact (VR.ptr p).eq_of_plain2 hp
  | slice p hc => exact (VR.slice p hc).eq_of_plain2 hp
  | slicex p hc h1 h2 => exact (VR.slicex p hc h1 h2).eq_of_plain2 hp
  | agg a => exact (VR.agg a).eq_of_plain2 hp
  | opq p o => exact (VR.opq p o).eq_of_plain2 hp
  | func a b => exact (VR.func a b).eq_of_plain2 hp
  | iface a => exact (VR.iface a).eq_of_plain2 hp
noncomputable def gives (nx : Nat) (m : M F Value) : Option Value := match m .nil nx with
  | .no => none
  | .ok a _ _ _ W => cond (plain3 a && geAll nx W) (some a) none
theorem gives_ok {nx : Nat} {m : M F Value} {v : Value} (e : gives nx m = some v) : ∃ h' nx' R W, m .nil nx = .ok v h' nx' R W ∧ plain3 v = true ∧ ∀ n ∈ W, nx ≤ n := by
  unfold gives at e
  cases hm : m .nil nx with
  | no => rw [hm] at e; cases e
  | ok a h' nx' R W =>
    rw [hm] at e
    simp only at e
    cases hc : (plain3 a && geAll nx W) with
    | false => rw [hc] at e; cases e
    | true =>
      rw [hc] at e
      simp only [cond_true, Option.some.injEq] at e
      subst e
      simp only [Bool.and_eq_true] at hc
      exact ⟨h', nx', R, W, rfl, hc.1, geAll_ok hc.2⟩
noncomputable def ren0 (G : Nat) : Ren := ⟨fun n => if n < G then some n else none, fun _ => none, fun _ => 0⟩
theorem mod0 {w : World} (hG : S.G ≤ w.heap.size) (hb : S.base w) : Mod S (ren0 S.G) (fun _ => none) w := by
  refine ⟨fun n m b h1 h2 => ?_, fun n b h => ?_, fun n c t h => (by cases h), fun n f h => (by cases h), hb, fun n hn => if_pos hn, fun n b h hn => ?_, fun n c t h => (by cases h)⟩
  · unfold ren0 at h1 h2
    simp only at h1 h2
    split at h1 <;> split at h2 <;> first | (cases h1; cases h2; exact .inl rfl) | (cases h1; done) | (cases h2; done)
  · unfold ren0 at h
    simp only at h
    split at h
    · cases h; omega
    · cases h
  · rw [show (ren0 S.G).blk n = none from if_neg (by omega)] at h; cases h
theorem gives_calls {C : Cfg F} [HardLoc C] {sum : Sums F} {n nx : Nat} {f : FuncId} {args : List Value} {v : Value} (hF : Fits S P C) (hs : SumOK S P sum) (e : gives nx (call P C sum n f args) = some v) (ha : plains args = true) (hx : S.G ≤ nx) {w : World} (hG : S.G ≤ w.heap.size) (hb : S.base w) :
    Calls P f ⟨args⟩ w fun e w' => e = .returned v ∧ Below w.heap.size w w' := by
  obtain ⟨h', nx', R, W, hm, hp, hW⟩ := gives_ok e
  have hc := call_ok hF hs n
  have hfr : Fr (.nil : Tr (Blk F)) nx := fun k _ => Tr.get_nil k
  have hrun := Run.self (hc.loc f args) hm hfr
  have hN : New (ren0 S.G) nx nx' := fun k h1 h2 => ⟨if_neg (by omega), rfl⟩
  have hg : (Tr.get (.nil : Tr (Blk F))) = fun _ => none := funext fun k => Tr.get_nil k
  refine (hc.run f args _ _ _ _ _ _ _ hrun (ren0 S.G) w args (plains_ok ha) (by rw [hg]; exact mod0 hG hb) hN).mono ?_
  rintro en w' ⟨v', r', rfl, hv, hX⟩
  have hv' := eq_of_plain3 hv hp
  subst hv'
  refine ⟨rfl, hX.os, hX.tape, hX.output, hX.size, fun b hb' => ?_⟩
  have hbo : w.heap[b]? = some w.heap[b] := Array.getElem?_eq_getElem hb'
  rw [hbo]
  exact hX.keep b _ hbo fun k hk => by
    have := hW k hk
    show ¬ (if k < S.G then some k else none) = some b
    rw [if_neg (by omega)]
    simp
end
noncomputable def natList : List (Nat × (List Value → Option (M Nat Value))) := [
  (226, fun args => two args fun n m => newFact (Nat.add n m)),
  (227, fun args => two args fun n m => newFact (Nat.sub n m)),
  (140, fun args => two args fun n m => newFact (Nat.mul n m)),
  (138, fun args => two args fun n m => newFact (Nat.div n m)),
  (137, fun args => two args fun n m => newFact (Nat.gcd n m)),
  (221, fun args => two args fun n m => bind (newFact (Nat.div n m)) fun x => bind (newFact (Nat.mod n m)) fun y => ret (.tuple ⟨[x, y]⟩)),
  (141, fun args => two args fun n m => ret (.int .i64 (Big.cmpI n m))),
  (150, fun args => one args fun n => ret (.bool (decide (n = 1)))),
  (200, fun args => one args fun n => ret (.int .i64 ((szN n : Nat) : Int))),
  (297, fun args => one args fun n => ret (.int .i64 ((bitsN n : Nat) : Int))),
  (219, fun args => one args fun n => ret (.string (bst n))),
  (298, fun args => one args fun n => ret (.tuple #[.int .u64 (((if n < Big.M64 then n else 0) : Nat) : Int), .bool (decide (n < Big.M64))])),
  (69, fun args => one args fun n => ret (.string ⟨⟨digs n⟩⟩)),
  (248, fun args => match args with
    | [a, b] => match b with
      | .int k s => cond (decide (k = .i64) && decide (s ≤ 64000000000)) (some (bind (natV a) fun n => cond (small n) (newFact (n * 2 ^ s.toNat)) fail)) none
      | _ => none
    | _ => none),
  (154, fun args => match args with
    | [a] => match a with
      | .string s => cond (Nat.ble s.size 100000 && isTextB s.data.toList) (some (bind (newFact (dnumF s.data.toList 0)) fun x => ret (.tuple ⟨[x, .bool true]⟩))) none
      | _ => none
    | _ => none),
  (116, joinS),
  (139, fun args => match args with
    | [a] => match a with
      | .int k s => match s with
        | .ofNat n => cond (decide (k = .u64) && Nat.ble (Nat.succ n) 18446744073709551616) (some (newFact n)) none
        | _ => none
      | _ => none
    | _ => none),
  (229, fun args => match args with
    | [a] => match a with
      | .string s => cond (Nat.ble s.size 100000) (some (newFact (Big.bnum s.data.toList))) none
      | _ => none
    | _ => none)]
theorem natList_ok : ∀ x ∈ natList, SumF natSig Tryz.prog x.1 x.2 := by
  unfold natList
  intro x hx
  simp only [List.mem_cons, List.not_mem_nil, or_false] at hx
  rcases hx with rfl | rfl | rfl | rfl | rfl | rfl | rfl | rfl | rfl | hx
  · exact sum_add
  · exact sum_sub
  · exact sum_mul
  · exact sum_quo
  · exact sum_gcd
  · exact sum_quoRem
  · exact sum_cmp
  · exact sum_isOne
  · exact sum_size
  rcases hx with rfl | hx
  · exact sum_bits
  rcases hx with rfl | hx
  · exact sum_bytes
  rcases hx with rfl | hx
  · exact sum_word
  rcases hx with rfl | hx
  · exact sum_text
  rcases hx with rfl | hx
  · exact sum_shl
  rcases hx with rfl | hx
  · exact sum_parse
  rcases hx with rfl | hx
  · exact sum_join
  rcases hx with rfl | rfl
  · exact sum_of
  · exact sum_fromBytes
noncomputable def natSums : Sums Nat := sumsOf (mkTab natList)
theorem natSums_ok : SumOK natSig Tryz.prog natSums := sumsOf_ok natList_ok
noncomputable def runs (n : Nat) (f : FuncId) (args : List Value) : Option Value := gives 100000 (call Tryz.prog natCfg natSums n f args)
theorem glob_few : Tryz.prog.globals.size ≤ 100000 := by
  have h : Nat.ble Tryz.prog.globals.size 100000 = true := by kernel_rfl
  exact Nat.le_of_ble_eq_true h
theorem runs_calls {n : Nat} {f : FuncId} {args : List Value} {v : Value} (e : runs n f args = some v) (ha : plains args = true) {w : World} (hG : Tryz.prog.globals.size ≤ w.heap.size) (hb : Tab w) :
    Calls Tryz.prog f ⟨args⟩ w fun e w' => e = .returned v ∧ Below w.heap.size w w' :=
  gives_calls natFits natSums_ok e ha glob_few hG hb
end Ev
end Go.Proofs.YtjjbhadnakjhdaaGreatDoor
namespace Go.Proofs.YtjjbhadnakjhdaaGreatDoor
open Go Go.RowKit
namespace Ev
noncomputable def eqL {α : Type} (f : α → α → Bool) (l : List α) : List α → Bool := List.rec (motive := fun _ => List α → Bool)
  (fun m => match m with | [] => true | _ :: _ => false) (fun a _ ih m => match m with | [] => false | b :: m => f a b && ih m) l
theorem eqL_ok {α : Type} {f : α → α → Bool} (hf : ∀ a b, f a b = true → a = b) : ∀ {l m : List α}, eqL f l m = true → l = m
  | [], [], _ => rfl
  | [], _ :: _, h => by exact absurd (show false = true from h) (by simp)
  | _ :: _, [], h => by exact absurd (show false = true from h) (by simp)
  | a :: l, b :: m, h => by
    have h' : (f a b && eqL f l m) = true := h
    simp only [Bool.and_eq_true] at h'
    rw [hf _ _ h'.1, eqL_ok hf h'.2]
noncomputable def eqC (a b : UInt8) : Bool := Nat.beq a.toNat b.toNat
theorem eqC_ok (a b : UInt8) (h : eqC a b = true) : a = b := UInt8.toNat_inj.1 (Nat.eq_of_beq_eq_true h)
noncomputable def eqS (s t : ByteArray) : Bool := eqL eqC s.data.toList t.data.toList
theorem eqS_ok {s t : ByteArray} (h : eqS s t = true) : s = t := by
  obtain ⟨⟨l⟩⟩ := s
  obtain ⟨⟨m⟩⟩ := t
  have : l = m := eqL_ok eqC_ok h
  rw [this]
noncomputable def eq1 (v w : Value) : Bool := match v with
  | .bool a => match w with | .bool b => decide (a = b) | _ => false
  | .int k a => match w with | .int l b => decide (k = l) && decide (a = b) | _ => false
  | .float k a => match w with | .float l b => decide (k = l) && Nat.beq a b | _ => false
  | .complex k a b => match w with | .complex l c d => decide (k = l) && (Nat.beq a c && Nat.beq b d) | _ => false
  | .string s => match w with | .string t => eqS s t | _ => false
  | _ => false
theorem eq1_ok (v w : Value) (h : eq1 v w = true) : v = w := by
  unfold eq1 at h
  cases v <;> simp only [Bool.false_eq_true] at h <;> cases w <;> simp only [Bool.false_eq_true, Bool.and_eq_true, decide_eq_true_eq] at h
  · rw [h]
  · rw [h.1, h.2]
  · rw [h.1, Nat.eq_of_beq_eq_true h.2]
  · rw [h.1, Nat.eq_of_beq_eq_true h.2.1, Nat.eq_of_beq_eq_true h.2.2]
  · rw [eqS_ok h]
noncomputable def eqV (v w : Value) : Bool := match v with
  | .agg a => match w with | .agg b => eqL eq1 a.toList b.toList | _ => false
  | _ => eq1 v w
theorem eqV_ok (v w : Value) (h : eqV v w = true) : v = w := by
  unfold eqV at h
  cases v <;> try exact eq1_ok _ _ h
  cases w <;> simp only [Bool.false_eq_true] at h
  rename_i a b
  obtain ⟨l⟩ := a
  obtain ⟨m⟩ := b
  have : l = m := eqL_ok eq1_ok h
  rw [this]
theorem goes_val3 {h h' : Tr (Blk Nat)} {nx nx' : Nat} {R W : List Nat} {r : Ren} {w : World} {u v : Value} {f : FuncId} {args' : List Value} (e : (ret u : M Nat Value) h nx = .ok v h' nx' R W) (hp : plain3 u = true) (hM : Mod natSig r h.get w) (c : Calls Tryz.prog f ⟨args'⟩ w fun e w' => e = .returned u ∧ Below w.heap.size w w') : Goes f args' r w nx nx' W h'.get v := by
  obtain ⟨rfl, rfl, rfl, rfl⟩ := ret_ok e
  refine c.mono ?_
  rintro en w' ⟨rfl, hb⟩
  exact ⟨_, r, rfl, same3 hp, ext_below hM hb _⟩
structure Fact where
  f : FuncId
  args : List Value
  v : Value
def Fact.ok (x : Fact) : Prop := plains x.args = true ∧ plain3 x.v = true ∧ ∀ w : World, Tryz.prog.globals.size ≤ w.heap.size → Tab w → Calls Tryz.prog x.f ⟨x.args⟩ w fun e w' => e = .returned x.v ∧ Below w.heap.size w w'
theorem Fact.of_run {x : Fact} {n : Nat} (h : runs n x.f x.args = some x.v) (ha : plains x.args = true) : x.ok := by
  refine ⟨ha, ?_, fun w hG hT => runs_calls h ha hG hT⟩
  obtain ⟨_, _, _, _, _, hp, _⟩ := gives_ok h
  exact hp
noncomputable def look (f : FuncId) (args : List Value) (l : List Fact) : Option Value := List.rec (motive := fun _ => Option Value) none
  (fun x _ ih => Bool.rec (motive := fun _ => Option Value) ih (Bool.rec (motive := fun _ => Option Value) ih (some x.v) (eqL eqV x.args args)) (Nat.beq x.f f)) l
theorem look_ok {f : FuncId} {args : List Value} {v : Value} : ∀ {l : List Fact}, look f args l = some v → ∃ x ∈ l, x.f = f ∧ x.args = args ∧ x.v = v
  | [], h => by cases h
  | x :: l, h => by
    have h' : (Bool.rec (motive := fun _ => Option Value) (look f args l) (Bool.rec (motive := fun _ => Option Value) (look f args l) (some x.v) (eqL eqV x.args args)) (Nat.beq x.f f) : Option Value) = some v := h
    cases hb : Nat.beq x.f f with
    | false =>
      rw [hb] at h'
      obtain ⟨y, hy, r⟩ := look_ok h'
      exact ⟨y, List.mem_cons_of_mem _ hy, r⟩
    | true =>
      rw [hb] at h'
      cases hc : eqL eqV x.args args with
      | false =>
        rw [hc] at h'
        obtain ⟨y, hy, r⟩ := look_ok h'
        exact ⟨y, List.mem_cons_of_mem _ hy, r⟩
      | true =>
        rw [hc] at h'
        exact ⟨x, List.mem_cons_self, Nat.eq_of_beq_eq_true hb, eqL_ok eqV_ok hc, Option.some.inj h'⟩
noncomputable def known (l : List Fact) : Sums Nat := fun f args => match look f args l with
  | some v => some (ret v)
  | none => natSums f args
theorem known_ok {l : List Fact} (hl : ∀ x ∈ l, x.ok) : SumOK natSig Tryz.prog (known l) := by
  refine ⟨fun f args m e => ?_, fun f args m e h nx v h' nx' R W hr r w args' ha hM hN => ?_⟩
  · unfold known at e
    cases hk : look f args l with
    | none => rw [hk] at e; exact natSums_ok.loc f args m e
    | some v => rw [hk] at e; cases e; exact loc_ret _
  · unfold known at e
    cases hk : look f args l with
    | none => rw [hk] at e; exact natSums_ok.run f args m e h nx v h' nx' R W hr r w args' ha hM hN
    | some u =>
      rw [hk] at e
      cases e
      obtain ⟨x, hx, rfl, rfl, rfl⟩ := look_ok hk
      obtain ⟨h1, h2, h3⟩ := hl x hx
      obtain rfl : args' = x.args := VsR_eq h1 ha
      have hG : Tryz.prog.globals.size ≤ w.heap.size := by
        rcases Nat.eq_zero_or_pos Tryz.prog.globals.size with h0 | h0
        · omega
        · have := hM.lt _ _ (hM.glob (Tryz.prog.globals.size - 1) (show _ < Tryz.prog.globals.size by omega))
          omega
      exact goes_val3 hr.ok h2 hM (h3 w hG hM.base)
noncomputable def runsBy (l : List Fact) (n : Nat) (f : FuncId) (args : List Value) : Option Value := gives 100000 (call Tryz.prog natCfg (known l) n f args)
theorem runsBy_calls {l : List Fact} (hl : ∀ x ∈ l, x.ok) {n : Nat} {f : FuncId} {args : List Value} {v : Value} (e : runsBy l n f args = some v) (ha : plains args = true) {w : World} (hG : Tryz.prog.globals.size ≤ w.heap.size) (hb : Tab w) :
    Calls Tryz.prog f ⟨args⟩ w fun e w' => e = .returned v ∧ Below w.heap.size w w' :=
  gives_calls natFits (known_ok hl) e ha glob_few hG hb
end Ev
end Go.Proofs.YtjjbhadnakjhdaaGreatDoor
