/- Contracts. -/
import Derived.Test.YtnlhjcfpfapafaaSSq18
import Derived.Test.YtnlhjcfpfapafaaSSq17
namespace Go.Proofs.Ytnlhjcfpfapafaa
open Go.RowKit
def Read1 (w : World) (q : Rat) (e : Ending) (w' : World) : Prop := ∃ v', e = .returned (.tuple #[v', .bool true]) ∧ NumIn w' v' q ∧ Below w.heap.size w w'
theorem bst_ne {n : Nat} (h : n ≠ 0) : ¬ (bst n).toList = [] := by
 rw [ByteArray.toList_eq, bst_list]; intro e
 have h1 := btx_length n
 rw [e] at h1
 have h2 := szN_pos h
 rw [← h1] at h2
 exact absurd h2 (by simp)
theorem bst_ne2 {n : Nat} (h : n ≠ 0) : (bst n).toList.isEmpty = false := by
 rw [Bool.eq_false_iff]; intro e; exact bst_ne h (List.isEmpty_iff.1 e)
set_option maxRecDepth 100000 in
set_option maxHeartbeats 4000000 in
theorem exRead_ok (w : World) (q : Rat) (hf : Fit q) :
  Calls Try.prog 34 #[.agg #[.bool (Big.ng q), .string (bst (Big.nu q)), .string (bst (Big.de q))]] w (Read1 w q) := by
 have M1 := Lib.hid (fun W => mayBe_any W (bst (Big.nu q)) (by rw [bst_size]; have := hf.nu; omega))
 have M2 := Lib.hid (fun W => mayBe_any W (bst (Big.de q)) (by rw [bst_size]; have := hf.de; omega))
 rw [mayB_bst hf.nu] at M1
 rw [mayB_bst hf.de] at M2
 have S := Lib.hid hf.sm
 have P := Lib.hid (show NumIn w (.agg #[.bool (Big.ng q), .slice none 0 0, .slice none 0 0]) q → True from fun _ => trivial)
 have F1 := Lib.hid (fun W => fromBytes_num W (Big.nu q) (by have := hf.nu; omega))
 have F2 := Lib.hid (fun W => fromBytes_num W (Big.de q) (by have := hf.de; omega))
 have d1 := bst_ne (n := Big.de q) (by have := Big.de_pos q; omega)
 have d2 := bst_ne2 (n := Big.de q) (by have := Big.de_pos q; omega)
 have n0 : Big.ng q = true → ¬ (bst (Big.nu q)).toList = [] ∧ (bst (Big.nu q)).toList.isEmpty = false := fun h => by
  have h1 := Big.ng_pos h
  exact ⟨bst_ne (by omega), bst_ne2 (by omega)⟩
 obtain ⟨X0, R0, B0⟩ := boxed2 w 27 70 (.bool (Big.ng q)) (.string (bst (Big.nu q))) (.string (bst (Big.de q))) (.bool false) (.slice none 0 0) (.slice none 0 0)
 have HX0 := Lib.hid X0; have HR0 := Lib.hid R0; have HB0 := Lib.hid B0
 have HC := Lib.hid (Big.cop q)
 have HNG := Lib.hid (rfl : Big.ng q = Big.ng q)
 clear hf X0 R0 B0 P HNG
 obtain ⟨nq, hnq⟩ : ∃ z, Big.ng q = z := ⟨_, rfl⟩
 rw [hnq] at n0 HX0 HR0 HB0 ⊢
 have HNQ := Lib.hid hnq
 clear hnq
 have HN0 := Lib.hid n0
 clear n0
 cases nq
 ·go_enter Try.func34, Try.ntmps34
  go_wp2_with fail
  generalize (w.alloc (.cells #[.bool false, .string (bst (Big.nu q)), .string (bst (Big.de q))] 27)).alloc (.cells #[.bool false, .slice none 0 0, .slice none 0 0] 70) = w0 at *
  have x0 := HX0.out.c0; have x1 := HX0.out.c1; have x2 := HX0.out.c2
  go_wp2_with (first
   | (go_at_call 63; with_reducible refine (M1.out _).mono ?_; rintro e w' ⟨rfl, rfl⟩)
   | (go_at_call 63; with_reducible refine (M2.out _).mono ?_; rintro e w' ⟨rfl, rfl⟩))
  clear x0 x1 x2 d1 d2
  have KX := Lib.hid (fun W (h : Below w0.heap.size w0 W) => And.intro (HX0.out.keep h).c1 (HX0.out.keep h).c2)
  have C1 := Lib.hid (fun W (h : Below w0.heap.size w0 W) => lift2 h (F1.out W))
  have C2 := Lib.hid (fun W (h : Below w0.heap.size w0 W) => lift2 h (F2.out W))
  go_region_held3 (fun w' => w'.cell? ⟨w.heap.size, 1, none⟩ = some (.string (bst (Big.nu q))) ∧ w'.cell? ⟨w.heap.size, 2, none⟩ = some (.string (bst (Big.de q))))
   (exact KX.out _ (by first | assumption | exact Below.refl _ _ | exact below_drew (Below.refl _ _) | exact below_drew (by assumption)))
   (first
    | (go_at_call 64; (with_reducible refine (C1.out _ (by first | assumption | exact Below.refl _ _ | exact below_drew (Below.refl _ _) | exact below_drew (by assumption))).mono ?_); rintro e w2 ⟨v2, rfl, hv2, hw2, hw2'⟩)
    | (go_at_call 64; (with_reducible refine (C2.out _ (by first | assumption | exact Below.refl _ _ | exact below_drew (Below.refl _ _) | exact below_drew (by assumption))).mono ?_); rintro e w3 ⟨v3, rfl, hv3, hw3, hw3'⟩)
    | fail)
  have HB3 := Lib.hid (HB0.out.trans (hw3.mono HB0.out.size))
  have HX3 := Lib.hid (HX0.out.keep hw3); have HR3 := Lib.hid (HR0.out.keep hw3)
  have HV := Lib.hid (And.intro (hv2.keep hw3') hv3)
  clear hv2 hv3 hw2 hw2' hw3 hw3' HX0 HR0 HB0 KX C1 C2
  have G := Lib.hid (gcd_num w3 _ _ _ _ 64 64 HV.out.1 HV.out.2 S.out.nu S.out.de (by omega) (by omega))
  rw [HC.out] at G
  go_wp2_with fail
  refine G.out.mono ?_
  rintro e w4 ⟨v4, rfl, hv4, hw4⟩
  have I := Lib.hid (isOne_num w4 v4 1 hv4)
  rw [decide_eq_true rfl] at I
  have HB4 := Lib.hid (HB3.out.trans (hw4.mono HB3.out.size))
  have HX4 := Lib.hid (HX3.out.keep hw4); have HR4 := Lib.hid (HR3.out.keep hw4)
  have HV4 := Lib.hid (And.intro (HV.out.1.keep hw4) (HV.out.2.keep hw4))
  clear hv4 hw4 HB3 HX3 HR3 HV G
  go_wp2_with fail
  refine I.out.mono ?_
  rintro e w' ⟨rfl, rfl⟩
  obtain ⟨A8, l8, c8, rfl, -⟩ := HV4.out.1.is_slice
  obtain ⟨A9, l9, c9, rfl, -⟩ := HV4.out.2.is_slice
  have RR := HR4.out
  have x0 := HX4.out.c0
  have k0 := RR.c0; have k1 := RR.c1; have k2 := RR.c2; have f0 := RR.frozen 0; have f1 := RR.frozen 1; have f2 := RR.frozen 2
  go_wp2_with fail
  obtain ⟨D1, D2, D3⟩ := num_done (bb := false) (show NumRes w4 _ _ from RR) HB4.out (by omega) HV4.out.1 HV4.out.2 HNQ.out.symm
  have HD1 := Lib.hid D1; have HD2 := Lib.hid D2; have HD3 := Lib.hid D3
  clear D1 D2 D3 k0 k1 k2 f0 f1 f2 RR
  generalize (((w4.setCell ⟨w.heap.size + 1, 0, none⟩ (.bool (false))).setCell ⟨w.heap.size + 1, 1, none⟩ (.slice A8 l8 c8)).setCell ⟨w.heap.size + 1, 2, none⟩ (.slice A9 l9 c9)) = wz at HD1 HD2 HD3 ⊢
  have r0 := HD1.out.c0; have r1 := HD1.out.c1; have r2 := HD1.out.c2
  exact bodyPost_ret (v := .tuple #[.agg #[.bool (false), .slice A8 l8 c8, .slice A9 l9 c9], .bool true]) (by simp [results, Try.results34, go_sem, r0, r1, r2]) rfl ⟨_, rfl, HD2.out, HD3.out⟩
 ·obtain ⟨z1, z2⟩ := HN0.out rfl
  go_enter Try.func34, Try.ntmps34
  go_wp2_with fail
  generalize (w.alloc (.cells #[.bool true, .string (bst (Big.nu q)), .string (bst (Big.de q))] 27)).alloc (.cells #[.bool false, .slice none 0 0, .slice none 0 0] 70) = w0 at *
  have x0 := HX0.out.c0; have x1 := HX0.out.c1; have x2 := HX0.out.c2
  go_wp2_with (first
   | (go_at_call 63; with_reducible refine (M1.out _).mono ?_; rintro e w' ⟨rfl, rfl⟩)
   | (go_at_call 63; with_reducible refine (M2.out _).mono ?_; rintro e w' ⟨rfl, rfl⟩))
  clear x0 x1 x2 d1 d2
  have KX := Lib.hid (fun W (h : Below w0.heap.size w0 W) => And.intro (HX0.out.keep h).c1 (HX0.out.keep h).c2)
  have C1 := Lib.hid (fun W (h : Below w0.heap.size w0 W) => lift2 h (F1.out W))
  have C2 := Lib.hid (fun W (h : Below w0.heap.size w0 W) => lift2 h (F2.out W))
  go_region_held3 (fun w' => w'.cell? ⟨w.heap.size, 1, none⟩ = some (.string (bst (Big.nu q))) ∧ w'.cell? ⟨w.heap.size, 2, none⟩ = some (.string (bst (Big.de q))))
   (exact KX.out _ (by first | assumption | exact Below.refl _ _ | exact below_drew (Below.refl _ _) | exact below_drew (by assumption)))
   (first
    | (go_at_call 64; (with_reducible refine (C1.out _ (by first | assumption | exact Below.refl _ _ | exact below_drew (Below.refl _ _) | exact below_drew (by assumption))).mono ?_); rintro e w2 ⟨v2, rfl, hv2, hw2, hw2'⟩)
    | (go_at_call 64; (with_reducible refine (C2.out _ (by first | assumption | exact Below.refl _ _ | exact below_drew (Below.refl _ _) | exact below_drew (by assumption))).mono ?_); rintro e w3 ⟨v3, rfl, hv3, hw3, hw3'⟩)
    | fail)
  have HB3 := Lib.hid (HB0.out.trans (hw3.mono HB0.out.size))
  have HX3 := Lib.hid (HX0.out.keep hw3); have HR3 := Lib.hid (HR0.out.keep hw3)
  have HV := Lib.hid (And.intro (hv2.keep hw3') hv3)
  clear hv2 hv3 hw2 hw2' hw3 hw3' HX0 HR0 HB0 KX C1 C2
  have G := Lib.hid (gcd_num w3 _ _ _ _ 64 64 HV.out.1 HV.out.2 S.out.nu S.out.de (by omega) (by omega))
  rw [HC.out] at G
  go_wp2_with fail
  refine G.out.mono ?_
  rintro e w4 ⟨v4, rfl, hv4, hw4⟩
  have I := Lib.hid (isOne_num w4 v4 1 hv4)
  rw [decide_eq_true rfl] at I
  have HB4 := Lib.hid (HB3.out.trans (hw4.mono HB3.out.size))
  have HX4 := Lib.hid (HX3.out.keep hw4); have HR4 := Lib.hid (HR3.out.keep hw4)
  have HV4 := Lib.hid (And.intro (HV.out.1.keep hw4) (HV.out.2.keep hw4))
  clear hv4 hw4 HB3 HX3 HR3 HV G
  go_wp2_with fail
  refine I.out.mono ?_
  rintro e w' ⟨rfl, rfl⟩
  obtain ⟨A8, l8, c8, rfl, -⟩ := HV4.out.1.is_slice
  obtain ⟨A9, l9, c9, rfl, -⟩ := HV4.out.2.is_slice
  have RR := HR4.out
  have x0 := HX4.out.c0
  have k0 := RR.c0; have k1 := RR.c1; have k2 := RR.c2; have f0 := RR.frozen 0; have f1 := RR.frozen 1; have f2 := RR.frozen 2
  go_wp2_with fail
  obtain ⟨D1, D2, D3⟩ := num_done (bb := true) (show NumRes w4 _ _ from RR) HB4.out (by omega) HV4.out.1 HV4.out.2 HNQ.out.symm
  have HD1 := Lib.hid D1; have HD2 := Lib.hid D2; have HD3 := Lib.hid D3
  clear D1 D2 D3 k0 k1 k2 f0 f1 f2 RR
  generalize (((w4.setCell ⟨w.heap.size + 1, 0, none⟩ (.bool (true))).setCell ⟨w.heap.size + 1, 1, none⟩ (.slice A8 l8 c8)).setCell ⟨w.heap.size + 1, 2, none⟩ (.slice A9 l9 c9)) = wz at HD1 HD2 HD3 ⊢
  have r0 := HD1.out.c0; have r1 := HD1.out.c1; have r2 := HD1.out.c2
  exact bodyPost_ret (v := .tuple #[.agg #[.bool (true), .slice A8 l8 c8, .slice A9 l9 c9], .bool true]) (by simp [results, Try.results34, go_sem, r0, r1, r2]) rfl ⟨_, rfl, HD2.out, HD3.out⟩
end Go.Proofs.Ytnlhjcfpfapafaa
namespace Go.Proofs.Ytnlhjcfpfapafaa
open Go.RowKit
end Go.Proofs.Ytnlhjcfpfapafaa
namespace Go.Proofs.Ytnlhjcfpfapafaa
open Go Go.RowKit
namespace Ev
structure T3x where
 s : Bool
 n : Nat
 d : Nat
def T3x.q (t : T3x) : Rat := mkRat (Big.sI t.s t.n) t.d
noncomputable def T3x.good (t : T3x) : Bool := Nat.ble 1 t.d && (Nat.beq (Nat.gcd t.n t.d) 1 && ((!t.s || Nat.ble 1 t.n) && (small t.n && small t.d)))
theorem T3x.parts {t : T3x} (h : t.good = true) : Big.ng t.q = t.s ∧ Big.nu t.q = t.n ∧ Big.de t.q = t.d := by
 unfold T3x.good at h
 simp only [Bool.and_eq_true, Bool.or_eq_true, Bool.not_eq_true'] at h
 obtain ⟨h1, h2, h3, -⟩ := h
 have h1 := Nat.le_of_ble_eq_true h1
 refine Big.parts (N := Big.sI t.s t.n) (D := t.d) h1 (Nat.eq_of_beq_eq_true h2) (fun hs => ?_) (by omega) rfl rfl
 rcases h3 with h3 | h3
 ·rw [hs] at h3; cases h3
 ·exact Nat.le_of_ble_eq_true h3
theorem T3x.sm {t : T3x} (h : t.good = true) : Sm 1000 t.q := by
 obtain ⟨_, h2, h3⟩ := T3x.parts h
 unfold T3x.good at h
 simp only [Bool.and_eq_true] at h
 exact ⟨by rw [h2]; exact sz_small h.2.2.2.1, by rw [h3]; exact sz_small h.2.2.2.2⟩
section
variable {h h' : Tr (Blk Nat)} {nx nx' : Nat} {R W : List Nat} {r : Ren} {w : World} {v v' : Value}
end
theorem T3x.pos {t : T3x} (h : t.good = true) : t.d ≠ 0 := by
 unfold T3x.good at h
 simp only [Bool.and_eq_true] at h
 have := Nat.le_of_ble_eq_true h.1
 omega
section
variable {F : Type} {S : Sig F} {P : Program}
noncomputable def geAll (k : Nat) (l : List Nat) : Bool := List.rec (motive := fun _ => Bool) true (fun n _ ih => Bool.rec (motive := fun _ => Bool) false ih (Nat.ble k n)) l
theorem geAll_ok {k : Nat} : ∀ {l : List Nat}, geAll k l = true → ∀ n ∈ l, k ≤ n
 | [], _, n, hn => by simp at hn
 | m :: l, h, n, hn => by
  have h' : (Bool.rec (motive := fun _ => Bool) false (geAll k l) (Nat.ble k m) : Bool) = true := h
  cases hb : Nat.ble k m with
  | false => rw [hb] at h'; cases h'
  | true =>
   rw [hb] at h'
   rcases List.mem_cons.1 hn with rfl | hn
   ·exact Nat.le_of_ble_eq_true hb
   ·exact geAll_ok h' n hn
noncomputable def plains (l : List Value) : Bool := plainL plain2 l
theorem plains_ok {r : Ren} : ∀ {l : List Value}, plains l = true → VsR r l l
 | [], _ => .nil
 | v :: l, h => by
  have h' : (plain2 v && plains l) = true := h
  simp only [Bool.and_eq_true] at h'
  exact .cons (VR.same2 h'.1) (plains_ok h'.2)
noncomputable def plain3 (v : Value) : Bool := match v with
 | .tuple cs => plains cs.toList
 | v => plain2 v
theorem same3 {r : Ren} {v : Value} (h : plain3 v = true) : VR r v v := by
 cases v with
 | tuple cs => cases cs; exact .tuple (plains_ok (by simpa [plain3] using h))
 | _ => exact VR.same2 h
noncomputable def gives (nx : Nat) (m : M F Value) : Option Value := match m .nil nx with
 | .no => none
 | .ok a _ _ _ W => cond (plain3 a && geAll nx W) (some a) none
noncomputable def ren0 (G : Nat) : Ren := ⟨fun n => if n < G then some n else none, fun _ => none, fun _ => 0⟩
theorem mod0 {w : World} (hG : S.G ≤ w.heap.size) (hb : S.base w) (hlo : S.lo ≤ w.heap.size := by exact Nat.zero_le _) : Mod S (ren0 S.G) (fun _ => none) w := by
 refine ⟨fun n m b h1 h2 => ?_, fun n b h => ?_, fun n c t h => (by cases h), fun n f h => (by cases h), hb, fun n hn => if_pos hn, fun n b h hn => ?_, fun n c t h => (by cases h), hlo, fun n s h => (by cases h), fun n f h => (by cases h), fun n m x h => (by cases h)⟩
 ·unfold ren0 at h1 h2
  simp only at h1 h2
  split at h1 <;> split at h2 <;> first | (cases h1; cases h2; exact .inl rfl) | (cases h1; done) | (cases h2; done)
 ·unfold ren0 at h
  simp only at h
  split at h
  ·cases h; omega
  ·cases h
 ·rw [show (ren0 S.G).blk n = none from if_neg (by omega)] at h; cases h
end
noncomputable def natList : List (Nat × (List Value → Option (M Nat Value))) := [
 (102, fun args => two args fun n m => newFact (Nat.add n m)),
 (103, fun args => two args fun n m => newFact (Nat.sub n m)),
 (70, fun args => two args fun n m => newFact (Nat.mul n m)),
 (74, fun args => two args fun n m => newFact (Nat.div n m)),
 (65, fun args => two args fun n m => newFact (Nat.gcd n m)),
 (94, fun args => two args fun n m => bind (newFact (Nat.div n m)) fun x => bind (newFact (Nat.mod n m)) fun y => ret (.tuple ⟨[x, y]⟩)),
 (71, fun args => two args fun n m => ret (.int .i64 (Big.cmpI n m))),
 (66, fun args => one args fun n => ret (.bool (decide (n = 1)))),
 (118, fun args => one args fun n => ret (.int .i64 ((szN n : Nat) : Int))),
 (101, fun args => one args fun n => ret (.string (bst n))),
 (86, fun args => match args with
  | [a] => match a with
   | .int k s => match s with
    | .ofNat n => cond (decide (k = .u64) && Nat.ble (Nat.succ n) 18446744073709551616) (some (newFact n)) none
    | _ => none
   | _ => none
  | _ => none),
 (64, fun args => match args with
  | [a] => match a with
   | .string s => cond (Nat.ble s.size 100000) (some (newFact (Big.bnum s.data.toList))) none
   | _ => none
  | _ => none)]
theorem natList_ok : ∀ x ∈ natList, SumF natSig Try.prog x.1 x.2 := by
 unfold natList
 intro x hx
 simp only [List.mem_cons, List.not_mem_nil, or_false] at hx
 rcases hx with rfl | rfl | rfl | rfl | rfl | rfl | rfl | rfl | rfl | hx
 ·exact sum_add
 ·exact sum_sub
 ·exact sum_mul
 ·exact sum_quo
 ·exact sum_gcd
 ·exact sum_quoRem
 ·exact sum_cmp
 ·exact sum_isOne
 ·exact sum_size
 rcases hx with rfl | hx
 ·exact sum_bytes
 rcases hx with rfl | rfl
 ·exact sum_of
 ·exact sum_fromBytes
noncomputable def natSums : Sums Nat := sumsOf (mkTab natList)
theorem natSums_ok : SumOK natSig Try.prog natSums := sumsOf_ok natList_ok
noncomputable def runs (n : Nat) (f : FuncId) (args : List Value) : Option Value := gives 100000 (call Try.prog natCfg natSums n f args)
theorem glob_few : Try.prog.globals.size ≤ 100000 := by
 have h : Nat.ble Try.prog.globals.size 100000 = true := by kernel_rfl
 exact Nat.le_of_ble_eq_true h
noncomputable def eqL {α : Type} (f : α → α → Bool) (l : List α) : List α → Bool := List.rec (motive := fun _ => List α → Bool)
 (fun m => match m with | [] => true | _ :: _ => false) (fun a _ ih m => match m with | [] => false | b :: m => f a b && ih m) l
theorem eqL_ok {α : Type} {f : α → α → Bool} (hf : ∀ a b, f a b = true → a = b) : ∀ {l m : List α}, eqL f l m = true → l = m
 | [], [], _ => rfl
 | [], _ :: _, h => by exact absurd (show false = true from h) (by simp)
 | _ :: _, [], h => by exact absurd (show false = true from h) (by simp)
 | a :: l, b :: m, h => by
  have h' : (f a b && eqL f l m) = true := h
  simp only [Bool.and_eq_true] at h'
  rw [hf _ _ h'.1, eqL_ok hf h'.2]
noncomputable def eqC (a b : UInt8) : Bool := Nat.beq a.toNat b.toNat
theorem eqC_ok (a b : UInt8) (h : eqC a b = true) : a = b := UInt8.toNat_inj.1 (Nat.eq_of_beq_eq_true h)
noncomputable def eqS (s t : ByteArray) : Bool := eqL eqC s.data.toList t.data.toList
theorem eqS_ok {s t : ByteArray} (h : eqS s t = true) : s = t := by
 obtain ⟨⟨l⟩⟩ := s
 obtain ⟨⟨m⟩⟩ := t
 have : l = m := eqL_ok eqC_ok h
 rw [this]
noncomputable def eq1 (v w : Value) : Bool := match v with
 | .bool a => match w with | .bool b => decide (a = b) | _ => false
 | .int k a => match w with | .int l b => decide (k = l) && decide (a = b) | _ => false
 | .float k a => match w with | .float l b => decide (k = l) && Nat.beq a b | _ => false
 | .complex k a b => match w with | .complex l c d => decide (k = l) && (Nat.beq a c && Nat.beq b d) | _ => false
 | .string s => match w with | .string t => eqS s t | _ => false
 | _ => false
theorem eq1_ok (v w : Value) (h : eq1 v w = true) : v = w := by
 unfold eq1 at h
 cases v <;> simp only [Bool.false_eq_true] at h <;> cases w <;> simp only [Bool.false_eq_true, Bool.and_eq_true, decide_eq_true_eq] at h
 ·rw [h]
 ·rw [h.1, h.2]
 ·rw [h.1, Nat.eq_of_beq_eq_true h.2]
 ·rw [h.1, Nat.eq_of_beq_eq_true h.2.1, Nat.eq_of_beq_eq_true h.2.2]
 ·rw [eqS_ok h]
noncomputable def eqV (v w : Value) : Bool := match v with
 | .agg a => match w with | .agg b => eqL eq1 a.toList b.toList | _ => false
 | _ => eq1 v w
theorem eqV_ok (v w : Value) (h : eqV v w = true) : v = w := by
 unfold eqV at h
 cases v <;> try exact eq1_ok _ _ h
 cases w <;> simp only [Bool.false_eq_true] at h
 rename_i a b
 obtain ⟨l⟩ := a
 obtain ⟨m⟩ := b
 have : l = m := eqL_ok eq1_ok h
 rw [this]
structure Fact where
 f : FuncId
 args : List Value
 v : Value
def Fact.ok (x : Fact) : Prop := plains x.args = true ∧ plain3 x.v = true ∧ ∀ w : World, Try.prog.globals.size ≤ w.heap.size → TabB w → Calls Try.prog x.f ⟨x.args⟩ w fun e w' => e = .returned x.v ∧ Below w.heap.size w w'
noncomputable def look (f : FuncId) (args : List Value) (l : List Fact) : Option Value := List.rec (motive := fun _ => Option Value) none
 (fun x _ ih => Bool.rec (motive := fun _ => Option Value) ih (Bool.rec (motive := fun _ => Option Value) ih (some x.v) (eqL eqV x.args args)) (Nat.beq x.f f)) l
noncomputable def known (l : List Fact) : Sums Nat := fun f args => match look f args l with
 | some v => some (ret v)
 | none => natSums f args
end Ev
end Go.Proofs.Ytnlhjcfpfapafaa
namespace Go.Proofs.Ytnlhjcfpfapafaa
open Go.RowKit
def BadF (x : Bool × ByteArray × ByteArray) : Prop := ∀ q : Rat, Fit q → ¬ (x.1 = Big.ng q ∧ x.2.1 = bst (Big.nu q) ∧ x.2.2 = bst (Big.de q))
set_option maxRecDepth 100000 in
set_option maxHeartbeats 4000000 in
theorem mayBe_all (w : World) (s : ByteArray) :
  Calls Try.prog 63 #[.string s] w fun e w' => e = .returned (.bool (mayB s)) ∧ w = w' := by
 by_cases h5 : s.size ≤ 512
 ·by_cases h0 : s.size = 0
  ·have e := empty_of h0
   subst e
   have HD := Lib.hid (show mayB ⟨#[]⟩ = true by decide)
   go_enter Try.func63, Try.ntmps63
   go_wp2_with fail
   go_ret
   exact ⟨ret_bool HD.out.symm, rfl⟩
  ·have i1 : (s.size : Int) ≤ 512 := by omega
   have p0 : 0 < s.size := by omega
   have HD := Lib.hid (show mayB s = ((s[0].toNat : Int) != 0) by
    unfold mayB
    rw [decide_eq_true h5, Bool.true_and, head_get p0, Bool.eq_iff_iff, Bool.not_eq_true', beq_eq_false_iff_ne, bne_iff_ne]
    constructor
    ·intro h e; exact h (by rw [Option.some.injEq]; apply UInt8.toNat_inj.1; show _ = 0; omega)
    ·intro h e; rw [Option.some.injEq] at e; rw [e] at h; exact h rfl)
   generalize mayB s = z at *
   have hne : ¬ s.toList = [] := by rw [ByteArray.toList_eq]; intro e; have := size_toList s; rw [e] at this; simp at this; omega
   have hne2 : s.toList.isEmpty = false := by rw [Bool.eq_false_iff]; intro e; exact hne (List.isEmpty_iff.1 e)
   clear h0
   go_enter Try.func63, Try.ntmps63
   go_wp2_with fail
   go_ret
   exact ⟨ret_bool (by rw [HD.out]), rfl⟩
 ·have i1 : ¬ (s.size : Int) ≤ 512 := by omega
  have HD := Lib.hid (show mayB s = false by unfold mayB; rw [decide_eq_false h5]; rfl)
  generalize mayB s = z at *
  go_enter Try.func63, Try.ntmps63
  go_wp2_with fail
  go_ret
  exact ⟨ret_bool HD.out.symm, rfl⟩
def ReadZ (w : World) (e : Ending) (w' : World) : Prop := e = .returned (.tuple #[.agg #[.bool false, .slice none 0 0, .slice none 0 0], .bool false]) ∧ Below w.heap.size w w'
theorem size_zero_iff {s : ByteArray} : s.toList.isEmpty = decide (s.size = 0) := by
 rw [ByteArray.toList_eq]
 by_cases h : s.size = 0
 ·rw [empty_of h]; rfl
 ·rw [decide_eq_false h, Bool.eq_false_iff]
  intro e
  have h1 := size_toList s
  rw [List.isEmpty_iff.1 e] at h1
  exact h (by simpa using h1.symm)
theorem nonempty_list {s : ByteArray} (h : ¬ s.size = 0) : ¬ s.toList = [] ∧ s.toList.isEmpty = false := by
 have h1 : s.toList.isEmpty = false := by rw [size_zero_iff, decide_eq_false h]
 exact ⟨fun e => (by rw [e] at h1; cases h1), h1⟩
set_option maxRecDepth 100000 in
set_option maxHeartbeats 4000000 in
theorem exRead_badA (w : World) (b : Bool) (s t : ByteArray) (h : mayB s = false) :
  Calls Try.prog 34 #[.agg #[.bool b, .string s, .string t]] w (ReadZ w) := by
 have M1 := Lib.hid (fun W => mayBe_all W s)
 rw [h] at M1
 clear h
 obtain ⟨X0, R0, B0⟩ := boxed2 w 27 70 (.bool b) (.string s) (.string t) (.bool false) (.slice none 0 0) (.slice none 0 0)
 have HX0 := Lib.hid X0; have HR0 := Lib.hid R0; have HB0 := Lib.hid B0
 clear X0 R0 B0
 go_enter Try.func34, Try.ntmps34
 go_wp2_with fail
 generalize (w.alloc (.cells #[.bool b, .string s, .string t] 27)).alloc (.cells #[.bool false, .slice none 0 0, .slice none 0 0] 70) = w0 at *
 have x0 := HX0.out.c0; have x1 := HX0.out.c1; have x2 := HX0.out.c2
 have k0 := HR0.out.c0; have k1 := HR0.out.c1; have k2 := HR0.out.c2; have f0 := HR0.out.frozen 0; have f1 := HR0.out.frozen 1; have f2 := HR0.out.frozen 2
 go_wp2_with (first
   | (go_at_call 63; with_reducible refine (M1.out _).mono ?_; rintro e w' ⟨rfl, rfl⟩))
 have HD := Lib.hid (At3.put HR0.out (.bool false) (.slice none 0 0) (.slice none 0 0))
 have HE := Lib.hid (put_below HB0.out (show w.heap.size ≤ w.heap.size + 1 by omega) (.bool false) (.slice none 0 0) (.slice none 0 0))
 generalize (((w0.setCell ⟨w.heap.size + 1, 0, none⟩ (.bool false)).setCell ⟨w.heap.size + 1, 1, none⟩ (.slice none 0 0)).setCell ⟨w.heap.size + 1, 2, none⟩ (.slice none 0 0)) = wz at HD HE ⊢
 clear k0 k1 k2 f0 f1 f2
 have r0 := HD.out.c0; have r1 := HD.out.c1; have r2 := HD.out.c2
 exact bodyPost_ret (v := .tuple #[.agg #[.bool false, .slice none 0 0, .slice none 0 0], .bool false]) (by simp [results, Try.results34, go_sem, r0, r1, r2]) rfl ⟨rfl, HE.out⟩
set_option maxRecDepth 100000 in
set_option maxHeartbeats 4000000 in
theorem exRead_badB (w : World) (b : Bool) (s t : ByteArray) (g : mayB s = true) (h : mayB t = false) :
  Calls Try.prog 34 #[.agg #[.bool b, .string s, .string t]] w (ReadZ w) := by
 have M1 := Lib.hid (fun W => mayBe_all W s)
 have M2 := Lib.hid (fun W => mayBe_all W t)
 rw [g] at M1
 rw [h] at M2
 clear g h
 obtain ⟨X0, R0, B0⟩ := boxed2 w 27 70 (.bool b) (.string s) (.string t) (.bool false) (.slice none 0 0) (.slice none 0 0)
 have HX0 := Lib.hid X0; have HR0 := Lib.hid R0; have HB0 := Lib.hid B0
 clear X0 R0 B0
 go_enter Try.func34, Try.ntmps34
 go_wp2_with fail
 generalize (w.alloc (.cells #[.bool b, .string s, .string t] 27)).alloc (.cells #[.bool false, .slice none 0 0, .slice none 0 0] 70) = w0 at *
 have x0 := HX0.out.c0; have x1 := HX0.out.c1; have x2 := HX0.out.c2
 have k0 := HR0.out.c0; have k1 := HR0.out.c1; have k2 := HR0.out.c2; have f0 := HR0.out.frozen 0; have f1 := HR0.out.frozen 1; have f2 := HR0.out.frozen 2
 go_wp2_with (first
   | (go_at_call 63; with_reducible refine (M1.out _).mono ?_; rintro e w' ⟨rfl, rfl⟩)
   | (go_at_call 63; with_reducible refine (M2.out _).mono ?_; rintro e w' ⟨rfl, rfl⟩))
 have HD := Lib.hid (At3.put HR0.out (.bool false) (.slice none 0 0) (.slice none 0 0))
 have HE := Lib.hid (put_below HB0.out (show w.heap.size ≤ w.heap.size + 1 by omega) (.bool false) (.slice none 0 0) (.slice none 0 0))
 generalize (((w0.setCell ⟨w.heap.size + 1, 0, none⟩ (.bool false)).setCell ⟨w.heap.size + 1, 1, none⟩ (.slice none 0 0)).setCell ⟨w.heap.size + 1, 2, none⟩ (.slice none 0 0)) = wz at HD HE ⊢
 clear k0 k1 k2 f0 f1 f2
 have r0 := HD.out.c0; have r1 := HD.out.c1; have r2 := HD.out.c2
 exact bodyPost_ret (v := .tuple #[.agg #[.bool false, .slice none 0 0, .slice none 0 0], .bool false]) (by simp [results, Try.results34, go_sem, r0, r1, r2]) rfl ⟨rfl, HE.out⟩
set_option maxRecDepth 100000 in
set_option maxHeartbeats 4000000 in
theorem exRead_badC (w : World) (b : Bool) (s : ByteArray) (g : mayB s = true) :
  Calls Try.prog 34 #[.agg #[.bool b, .string s, .string ⟨#[]⟩]] w (ReadZ w) := by
 have M1 := Lib.hid (fun W => mayBe_all W s)
 have M2 := Lib.hid (fun W => mayBe_all W ⟨#[]⟩)
 rw [g] at M1
 rw [show mayB ⟨#[]⟩ = true by decide] at M2
 clear g
 obtain ⟨X0, R0, B0⟩ := boxed2 w 27 70 (.bool b) (.string s) (.string ⟨#[]⟩) (.bool false) (.slice none 0 0) (.slice none 0 0)
 have HX0 := Lib.hid X0; have HR0 := Lib.hid R0; have HB0 := Lib.hid B0
 clear X0 R0 B0
 go_enter Try.func34, Try.ntmps34
 go_wp2_with fail
 generalize (w.alloc (.cells #[.bool b, .string s, .string ⟨#[]⟩] 27)).alloc (.cells #[.bool false, .slice none 0 0, .slice none 0 0] 70) = w0 at *
 have x0 := HX0.out.c0; have x1 := HX0.out.c1; have x2 := HX0.out.c2
 have k0 := HR0.out.c0; have k1 := HR0.out.c1; have k2 := HR0.out.c2; have f0 := HR0.out.frozen 0; have f1 := HR0.out.frozen 1; have f2 := HR0.out.frozen 2
 go_wp2_with (first
   | (go_at_call 63; with_reducible refine (M1.out _).mono ?_; rintro e w' ⟨rfl, rfl⟩)
   | (go_at_call 63; with_reducible refine (M2.out _).mono ?_; rintro e w' ⟨rfl, rfl⟩))
 have HD := Lib.hid (At3.put HR0.out (.bool false) (.slice none 0 0) (.slice none 0 0))
 have HE := Lib.hid (put_below HB0.out (show w.heap.size ≤ w.heap.size + 1 by omega) (.bool false) (.slice none 0 0) (.slice none 0 0))
 generalize (((w0.setCell ⟨w.heap.size + 1, 0, none⟩ (.bool false)).setCell ⟨w.heap.size + 1, 1, none⟩ (.slice none 0 0)).setCell ⟨w.heap.size + 1, 2, none⟩ (.slice none 0 0)) = wz at HD HE ⊢
 clear k0 k1 k2 f0 f1 f2
 have r0 := HD.out.c0; have r1 := HD.out.c1; have r2 := HD.out.c2
 exact bodyPost_ret (v := .tuple #[.agg #[.bool false, .slice none 0 0, .slice none 0 0], .bool false]) (by simp [results, Try.results34, go_sem, r0, r1, r2]) rfl ⟨rfl, HE.out⟩
set_option maxRecDepth 100000 in
set_option maxHeartbeats 4000000 in
theorem exRead_badD (w : World) (t : ByteArray) (g : mayB t = true) (h : ¬ t.size = 0) :
  Calls Try.prog 34 #[.agg #[.bool true, .string ⟨#[]⟩, .string t]] w (ReadZ w) := by
 have M1 := Lib.hid (fun W => mayBe_all W ⟨#[]⟩)
 have M2 := Lib.hid (fun W => mayBe_all W t)
 rw [g] at M2
 rw [show mayB ⟨#[]⟩ = true by decide] at M1
 obtain ⟨d1, d2⟩ := nonempty_list h
 clear g h
 obtain ⟨X0, R0, B0⟩ := boxed2 w 27 70 (.bool true) (.string ⟨#[]⟩) (.string t) (.bool false) (.slice none 0 0) (.slice none 0 0)
 have HX0 := Lib.hid X0; have HR0 := Lib.hid R0; have HB0 := Lib.hid B0
 clear X0 R0 B0
 go_enter Try.func34, Try.ntmps34
 go_wp2_with fail
 generalize (w.alloc (.cells #[.bool true, .string ⟨#[]⟩, .string t] 27)).alloc (.cells #[.bool false, .slice none 0 0, .slice none 0 0] 70) = w0 at *
 have x0 := HX0.out.c0; have x1 := HX0.out.c1; have x2 := HX0.out.c2
 have k0 := HR0.out.c0; have k1 := HR0.out.c1; have k2 := HR0.out.c2; have f0 := HR0.out.frozen 0; have f1 := HR0.out.frozen 1; have f2 := HR0.out.frozen 2
 go_wp2_with (first
   | (go_at_call 63; with_reducible refine (M1.out _).mono ?_; rintro e w' ⟨rfl, rfl⟩)
   | (go_at_call 63; with_reducible refine (M2.out _).mono ?_; rintro e w' ⟨rfl, rfl⟩))
 have HD := Lib.hid (At3.put HR0.out (.bool false) (.slice none 0 0) (.slice none 0 0))
 have HE := Lib.hid (put_below HB0.out (show w.heap.size ≤ w.heap.size + 1 by omega) (.bool false) (.slice none 0 0) (.slice none 0 0))
 generalize (((w0.setCell ⟨w.heap.size + 1, 0, none⟩ (.bool false)).setCell ⟨w.heap.size + 1, 1, none⟩ (.slice none 0 0)).setCell ⟨w.heap.size + 1, 2, none⟩ (.slice none 0 0)) = wz at HD HE ⊢
 clear k0 k1 k2 f0 f1 f2
 have r0 := HD.out.c0; have r1 := HD.out.c1; have r2 := HD.out.c2
 exact bodyPost_ret (v := .tuple #[.agg #[.bool false, .slice none 0 0, .slice none 0 0], .bool false]) (by simp [results, Try.results34, go_sem, r0, r1, r2]) rfl ⟨rfl, HE.out⟩
set_option maxRecDepth 100000 in
set_option maxHeartbeats 4000000 in
theorem exRead_badE (w : World) (n d : Nat) (sn : szN n ≤ 512) (sd : szN d ≤ 512) (d0 : d ≠ 0) (hc : Nat.gcd n d ≠ 1) :
  Calls Try.prog 34 #[.agg #[.bool false, .string (bst n), .string (bst d)]] w (ReadZ w) := by
 have M1 := Lib.hid (fun W => mayBe_all W (bst n))
 have M2 := Lib.hid (fun W => mayBe_all W (bst d))
 rw [mayB_bst sn] at M1
 rw [mayB_bst sd] at M2
 have S1 := Lib.hid (Sz.bytes sn); have S2 := Lib.hid (Sz.bytes sd)
 have F1 := Lib.hid (fun W => fromBytes_num W n (by omega))
 have F2 := Lib.hid (fun W => fromBytes_num W d (by omega))
 have d1 := bst_ne d0
 have d2 := bst_ne2 d0
 have HC := Lib.hid hc
 clear hc
 obtain ⟨X0, R0, B0⟩ := boxed2 w 27 70 (.bool false) (.string (bst n)) (.string (bst d)) (.bool false) (.slice none 0 0) (.slice none 0 0)
 have HX0 := Lib.hid X0; have HR0 := Lib.hid R0; have HB0 := Lib.hid B0
 clear X0 R0 B0
 go_enter Try.func34, Try.ntmps34
 go_wp2_with fail
 generalize (w.alloc (.cells #[.bool false, .string (bst n), .string (bst d)] 27)).alloc (.cells #[.bool false, .slice none 0 0, .slice none 0 0] 70) = w0 at *
 have x0 := HX0.out.c0; have x1 := HX0.out.c1; have x2 := HX0.out.c2
 have k0 := HR0.out.c0; have k1 := HR0.out.c1; have k2 := HR0.out.c2; have f0 := HR0.out.frozen 0; have f1 := HR0.out.frozen 1; have f2 := HR0.out.frozen 2
 go_wp2_with (first
   | (go_at_call 63; with_reducible refine (M1.out _).mono ?_; rintro e w' ⟨rfl, rfl⟩)
   | (go_at_call 63; with_reducible refine (M2.out _).mono ?_; rintro e w' ⟨rfl, rfl⟩))
 clear d1 d2
 clear x0 x1 x2 k0 k1 k2 f0 f1 f2
 have KX := Lib.hid (fun W (h : Below w0.heap.size w0 W) => And.intro (HX0.out.keep h).c1 (HX0.out.keep h).c2)
 have C1 := Lib.hid (fun W (h : Below w0.heap.size w0 W) => lift2 h (F1.out W))
 have C2 := Lib.hid (fun W (h : Below w0.heap.size w0 W) => lift2 h (F2.out W))
 go_region_held3 (fun w' => w'.cell? ⟨w.heap.size, 1, none⟩ = some (.string (bst n)) ∧ w'.cell? ⟨w.heap.size, 2, none⟩ = some (.string (bst d)))
  (exact KX.out _ (by first | assumption | exact Below.refl _ _ | exact below_drew (Below.refl _ _) | exact below_drew (by assumption)))
  (first
   | (go_at_call 64; (with_reducible refine (C1.out _ (by first | assumption | exact Below.refl _ _ | exact below_drew (Below.refl _ _) | exact below_drew (by assumption))).mono ?_); rintro e w2 ⟨v2, rfl, hv2, hw2, hw2'⟩)
   | (go_at_call 64; (with_reducible refine (C2.out _ (by first | assumption | exact Below.refl _ _ | exact below_drew (Below.refl _ _) | exact below_drew (by assumption))).mono ?_); rintro e w3 ⟨v3, rfl, hv3, hw3, hw3'⟩)
   | fail)
 have HB3 := Lib.hid (HB0.out.trans (hw3.mono HB0.out.size))
 have HR3 := Lib.hid (HR0.out.keep hw3)
 have HV := Lib.hid (And.intro (hv2.keep hw3') hv3)
 clear hv2 hv3 hw2 hw2' hw3 hw3' HX0 HR0 HB0 KX C1 C2
 have G := Lib.hid (gcd_num w3 _ _ _ _ 64 64 HV.out.1 HV.out.2 S1.out S2.out (by omega) (by omega))
 obtain ⟨cg, hcg⟩ : ∃ z, Nat.gcd n d = z := ⟨_, rfl⟩
 rw [hcg] at G HC
 clear hcg
 go_wp2_with fail
 refine G.out.mono ?_
 rintro e w4 ⟨v4, rfl, hv4, hw4⟩
 have I := Lib.hid (isOne_num w4 v4 cg hv4)
 rw [decide_eq_false HC.out] at I
 have HB0 := Lib.hid (HB3.out.trans (hw4.mono HB3.out.size))
 have HR0 := Lib.hid (HR3.out.keep hw4)
 clear hv4 hw4 HB3 HR3 HV G
 go_wp2_with fail
 refine I.out.mono ?_
 rintro e w' ⟨rfl, rfl⟩
 have k0 := HR0.out.c0; have k1 := HR0.out.c1; have k2 := HR0.out.c2; have f0 := HR0.out.frozen 0; have f1 := HR0.out.frozen 1; have f2 := HR0.out.frozen 2
 go_wp2_with fail
 have HD := Lib.hid (At3.put HR0.out (.bool false) (.slice none 0 0) (.slice none 0 0))
 have HE := Lib.hid (put_below HB0.out (show w.heap.size ≤ w.heap.size + 1 by omega) (.bool false) (.slice none 0 0) (.slice none 0 0))
 generalize (((w4.setCell ⟨w.heap.size + 1, 0, none⟩ (.bool false)).setCell ⟨w.heap.size + 1, 1, none⟩ (.slice none 0 0)).setCell ⟨w.heap.size + 1, 2, none⟩ (.slice none 0 0)) = wz at HD HE ⊢
 clear k0 k1 k2 f0 f1 f2
 have r0 := HD.out.c0; have r1 := HD.out.c1; have r2 := HD.out.c2
 exact bodyPost_ret (v := .tuple #[.agg #[.bool false, .slice none 0 0, .slice none 0 0], .bool false]) (by simp [results, Try.results34, go_sem, r0, r1, r2]) rfl ⟨rfl, HE.out⟩
set_option maxRecDepth 100000 in
set_option maxHeartbeats 4000000 in
theorem exRead_badF (w : World) (n d : Nat) (n0 : n ≠ 0) (sn : szN n ≤ 512) (sd : szN d ≤ 512) (d0 : d ≠ 0) (hc : Nat.gcd n d ≠ 1) :
  Calls Try.prog 34 #[.agg #[.bool true, .string (bst n), .string (bst d)]] w (ReadZ w) := by
 have M1 := Lib.hid (fun W => mayBe_all W (bst n))
 have M2 := Lib.hid (fun W => mayBe_all W (bst d))
 rw [mayB_bst sn] at M1
 rw [mayB_bst sd] at M2
 have S1 := Lib.hid (Sz.bytes sn); have S2 := Lib.hid (Sz.bytes sd)
 have F1 := Lib.hid (fun W => fromBytes_num W n (by omega))
 have F2 := Lib.hid (fun W => fromBytes_num W d (by omega))
 have d1 := bst_ne d0
 have d2 := bst_ne2 d0
 have HC := Lib.hid hc
 have n1 := bst_ne n0
 have n2 := bst_ne2 n0
 clear hc
 obtain ⟨X0, R0, B0⟩ := boxed2 w 27 70 (.bool true) (.string (bst n)) (.string (bst d)) (.bool false) (.slice none 0 0) (.slice none 0 0)
 have HX0 := Lib.hid X0; have HR0 := Lib.hid R0; have HB0 := Lib.hid B0
 clear X0 R0 B0
 go_enter Try.func34, Try.ntmps34
 go_wp2_with fail
 generalize (w.alloc (.cells #[.bool true, .string (bst n), .string (bst d)] 27)).alloc (.cells #[.bool false, .slice none 0 0, .slice none 0 0] 70) = w0 at *
 have x0 := HX0.out.c0; have x1 := HX0.out.c1; have x2 := HX0.out.c2
 have k0 := HR0.out.c0; have k1 := HR0.out.c1; have k2 := HR0.out.c2; have f0 := HR0.out.frozen 0; have f1 := HR0.out.frozen 1; have f2 := HR0.out.frozen 2
 go_wp2_with (first
   | (go_at_call 63; with_reducible refine (M1.out _).mono ?_; rintro e w' ⟨rfl, rfl⟩)
   | (go_at_call 63; with_reducible refine (M2.out _).mono ?_; rintro e w' ⟨rfl, rfl⟩))
 clear d1 d2
 clear x0 x1 x2 k0 k1 k2 f0 f1 f2
 have KX := Lib.hid (fun W (h : Below w0.heap.size w0 W) => And.intro (HX0.out.keep h).c1 (HX0.out.keep h).c2)
 have C1 := Lib.hid (fun W (h : Below w0.heap.size w0 W) => lift2 h (F1.out W))
 have C2 := Lib.hid (fun W (h : Below w0.heap.size w0 W) => lift2 h (F2.out W))
 go_region_held3 (fun w' => w'.cell? ⟨w.heap.size, 1, none⟩ = some (.string (bst n)) ∧ w'.cell? ⟨w.heap.size, 2, none⟩ = some (.string (bst d)))
  (exact KX.out _ (by first | assumption | exact Below.refl _ _ | exact below_drew (Below.refl _ _) | exact below_drew (by assumption)))
  (first
   | (go_at_call 64; (with_reducible refine (C1.out _ (by first | assumption | exact Below.refl _ _ | exact below_drew (Below.refl _ _) | exact below_drew (by assumption))).mono ?_); rintro e w2 ⟨v2, rfl, hv2, hw2, hw2'⟩)
   | (go_at_call 64; (with_reducible refine (C2.out _ (by first | assumption | exact Below.refl _ _ | exact below_drew (Below.refl _ _) | exact below_drew (by assumption))).mono ?_); rintro e w3 ⟨v3, rfl, hv3, hw3, hw3'⟩)
   | fail)
 have HB3 := Lib.hid (HB0.out.trans (hw3.mono HB0.out.size))
 have HR3 := Lib.hid (HR0.out.keep hw3)
 have HV := Lib.hid (And.intro (hv2.keep hw3') hv3)
 clear hv2 hv3 hw2 hw2' hw3 hw3' HX0 HR0 HB0 KX C1 C2
 have G := Lib.hid (gcd_num w3 _ _ _ _ 64 64 HV.out.1 HV.out.2 S1.out S2.out (by omega) (by omega))
 obtain ⟨cg, hcg⟩ : ∃ z, Nat.gcd n d = z := ⟨_, rfl⟩
 rw [hcg] at G HC
 clear hcg
 go_wp2_with fail
 refine G.out.mono ?_
 rintro e w4 ⟨v4, rfl, hv4, hw4⟩
 have I := Lib.hid (isOne_num w4 v4 cg hv4)
 rw [decide_eq_false HC.out] at I
 have HB0 := Lib.hid (HB3.out.trans (hw4.mono HB3.out.size))
 have HR0 := Lib.hid (HR3.out.keep hw4)
 clear hv4 hw4 HB3 HR3 HV G
 go_wp2_with fail
 refine I.out.mono ?_
 rintro e w' ⟨rfl, rfl⟩
 have k0 := HR0.out.c0; have k1 := HR0.out.c1; have k2 := HR0.out.c2; have f0 := HR0.out.frozen 0; have f1 := HR0.out.frozen 1; have f2 := HR0.out.frozen 2
 go_wp2_with fail
 have HD := Lib.hid (At3.put HR0.out (.bool false) (.slice none 0 0) (.slice none 0 0))
 have HE := Lib.hid (put_below HB0.out (show w.heap.size ≤ w.heap.size + 1 by omega) (.bool false) (.slice none 0 0) (.slice none 0 0))
 generalize (((w4.setCell ⟨w.heap.size + 1, 0, none⟩ (.bool false)).setCell ⟨w.heap.size + 1, 1, none⟩ (.slice none 0 0)).setCell ⟨w.heap.size + 1, 2, none⟩ (.slice none 0 0)) = wz at HD HE ⊢
 clear k0 k1 k2 f0 f1 f2
 have r0 := HD.out.c0; have r1 := HD.out.c1; have r2 := HD.out.c2
 exact bodyPost_ret (v := .tuple #[.agg #[.bool false, .slice none 0 0, .slice none 0 0], .bool false]) (by simp [results, Try.results34, go_sem, r0, r1, r2]) rfl ⟨rfl, HE.out⟩
theorem exRead_bad (w : World) (x : Bool × ByteArray × ByteArray) (hx : BadF x) :
  Calls Try.prog 34 #[.agg #[.bool x.1, .string x.2.1, .string x.2.2]] w (ReadZ w) := by
 obtain ⟨b, s, t⟩ := x
 cases hs : mayB s with
 | false => exact exRead_badA w b s t hs
 | true =>
  cases ht : mayB t with
  | false => exact exRead_badB w b s t hs ht
  | true =>
   by_cases t0 : t.size = 0
   ·rw [empty_of t0]; exact exRead_badC w b s hs
   ·obtain ⟨e1, z1⟩ := mayB_is hs
    obtain ⟨e2, z2⟩ := mayB_is ht
    generalize Big.bnum s.data.toList = n at *
    generalize Big.bnum t.data.toList = d at *
    subst e1 e2
    have d0 : d ≠ 0 := fun e => t0 (by rw [bst_size, e]; rfl)
    have key : Nat.gcd n d = 1 → (b = true → 1 ≤ n) → False := fun h1 h2 => by
     obtain ⟨p1, p2, p3⟩ := Big.parts (q := mkRat (Big.sI b n) d) (b := b) (n := n) (d := d) (by omega) h1 h2 (show d ≠ 0 from d0) rfl rfl
     exact hx (mkRat (Big.sI b n) d) ⟨by rw [p2]; exact z1, by rw [p3]; exact z2⟩ ⟨p1.symm, by rw [p2], by rw [p3]⟩
    cases b with
    | false => exact exRead_badE w n d z1 z2 d0 fun h => key h (by simp)
    | true =>
     by_cases n0 : n = 0
     ·subst n0
      exact exRead_badD w (bst d) ht t0
     ·exact exRead_badF w n d n0 z1 z2 d0 fun h => key h (by omega)
end Go.Proofs.Ytnlhjcfpfapafaa
