/- Contracts, in this order: ratio: Text. · ratio: Int64. -/
import Derived.Test.YtjhoiichkgjdaaaGreatDoorBk15
import Derived.Test.YtjhoiichkgjdaaaGreatDoorBk16
import Derived.Laws.Concat
/- ratio: Text. -/
namespace Go.Proofs.YtjhoiichkgjdaaaGreatDoor
open Go.RowKit

/-- The text of a fraction. -/
def txQ (q : Rat) : List UInt8 := (if Big.ng q = true then [45] else []) ++ Lib.decDigits (Big.nu q) ++ (if Big.de q = 1 then [] else 47 :: Lib.decDigits (Big.de q))
theorem textB {P : Program} {f : FuncId} {args : Array Value} {b W : World} {v : Value} (h : Below b.heap.size b W) (c : Calls P f args W fun e w' => e = .returned v ∧ Below W.heap.size W w') :
    Calls P f args W fun e w' => e = .returned v ∧ Below b.heap.size b w' :=
  c.mono fun _ _ ⟨h1, h2⟩ => ⟨h1, h.trans (h2.mono h.size)⟩
theorem add_bytes {P : Program} (a b : List UInt8) (ha : a.length ≤ 1000000) (hb : b.length ≤ 1000000) (W : World) : (Op.stringOp .add ⟨a.toArray⟩ ⟨b.toArray⟩).run P W = .ok (.string ⟨(a ++ b).toArray⟩) W := by
  rw [run_string_add_sum W _ _ (by simp [ByteArray.size]; omega)]
  have e : (⟨a.toArray⟩ : ByteArray) ++ ⟨b.toArray⟩ = ⟨(a ++ b).toArray⟩ := by
    apply ByteArray.ext
    simp
  rw [e]
theorem bytes_app (a b : List UInt8) : (⟨a.toArray⟩ : ByteArray) ++ ⟨b.toArray⟩ = ⟨(a ++ b).toArray⟩ := by
  apply ByteArray.ext
  simp
set_option maxRecDepth 100000 in
set_option maxHeartbeats 4000000 in
theorem raText_any (w : World) (q : Rat) (hq : Fit q) (htab : Tab w) :
    Calls Tryz.prog 31 #[.agg #[.bool (Big.ng q), .string (bst (Big.nu q)), .string (bst (Big.de q))]] w (Ret2 w (.string ⟨(txQ q).toArray⟩) 0) := by
  have HS := Lib.hid hq.sm; have HT := Lib.hid htab
  have CT1 := Lib.hid (fun b W v (h : NatIn W v (Big.nu q)) (ht : Tab W) (hb : Below b.heap.size b W) => textB hb (text_any W v (Big.nu q) 64 h HS.out.nu (by omega) ht))
  have CT2 := Lib.hid (fun b W v (h : NatIn W v (Big.de q)) (ht : Tab W) (hb : Below b.heap.size b W) => textB hb (text_any W v (Big.de q) 64 h HS.out.de (by omega) ht))
  have HTX := Lib.hid (show txQ q = (if Big.ng q = true then [45] else []) ++ Lib.decDigits (Big.nu q) ++ (if Big.de q = 1 then [] else 47 :: Lib.decDigits (Big.de q)) from rfl)
  have HSG := Lib.hid (show (sgQ q < 0) ↔ Big.ng q = true by
    unfold sgQ; split
    · rename_i h; simp [h]
    · rename_i h; simp [h]; split <;> omega)
  clear htab
  have HRD := Lib.hid (fun W g (h : AtL W g 23 #[.bool (Big.ng q), .string (bst (Big.nu q)), .string (bst (Big.de q))]) => read1_any W g q h hq)
  have HB1 := Lib.hid (below_alloc (box1_below w (.cells #[.bool (Big.ng q), .string (bst (Big.nu q)), .string (bst (Big.de q))] 23)) (Nat.le_refl _) (.cells #[.bool (Big.ng q), .string (bst (Big.nu q)), .string (bst (Big.de q))] 23))
  have HN1 := AtL.new (w.alloc (.cells #[.bool (Big.ng q), .string (bst (Big.nu q)), .string (bst (Big.de q))] 23)) 23 #[.bool (Big.ng q), .string (bst (Big.nu q)), .string (bst (Big.de q))]
  rw [alloc_size] at HN1
  have HN1 := Lib.hid HN1
  clear hq
  go_enter Tryz.func31, Tryz.ntmps31
  go_wp2_with fail
  refine (HRD.out _ _ HN1.out).mono ?_
  generalize (w.alloc (.cells #[.bool (Big.ng q), .string (bst (Big.nu q)), .string (bst (Big.de q))] 23)).alloc (.cells #[.bool (Big.ng q), .string (bst (Big.nu q)), .string (bst (Big.de q))] 23) = wa at *
  rintro e w1 ⟨v1, rfl, ⟨g, a, b, rfl, hat, hnq⟩, hw1⟩
  have HB2 := Lib.hid (HB1.out.trans (hw1.mono HB1.out.size))
  obtain ⟨A, l, cc, B, m, dd, e1, -, -⟩ := hnq.is_agg
  simp only [Value.agg.injEq] at e1
  have e1a : a = .slice A l cc := by have := congrArg (fun z : Array Value => z[1]?) e1; simpa using this
  have e1b : b = .slice B m dd := by have := congrArg (fun z : Array Value => z[2]?) e1; simpa using this
  subst e1a e1b
  have HAT := Lib.hid hat; have HNQ := Lib.hid hnq
  clear e1 hat hnq hw1 HB1 HN1 HRD
  have c0 := HAT.out.cell 0 rfl; have c1 := HAT.out.cell 1 rfl; have c2 := HAT.out.cell 2 rfl
  have KX := Lib.hid (fun W (h : Below w1.heap.size w1 W) => And.intro ((HAT.out.keep h).cell 0 rfl) (And.intro ((HAT.out.keep h).cell 1 rfl) ((HAT.out.keep h).cell 2 rfl)))
  have CS := Lib.hid (fun W (h : Below w1.heap.size w1 W) => textB h (exSign_any W _ q (HNQ.out.keep h)))
  have CW := Lib.hid (fun W (h : Below w1.heap.size w1 W) => textB h (exIsWhole_any W _ q (HNQ.out.keep h)))
  have CN := Lib.hid (fun W (h : Below w1.heap.size w1 W) => lift2 h (exNum_any W _ q (HNQ.out.keep h)))
  have CD := Lib.hid (fun W (h : Below w1.heap.size w1 W) => lift2 h (exDen_any W _ q (HNQ.out.keep h)))
  have T1 := Lib.hid (fun W (h : Below w1.heap.size w1 W) => HT.out.keep (HB2.out.trans (h.mono HB2.out.size)))
  go_wp2_with fail
  refine (CN.out _ (Below.refl _ _)).mono ?_
  rintro e w2 ⟨v2, rfl, hv2, hw2, -⟩
  go_wp2_with fail
  refine (CT1.out w1 _ _ hv2 (T1.out _ hw2) hw2).mono ?_
  rintro e w3 ⟨rfl, hw3⟩
  obtain ⟨S1, hS1⟩ : ∃ z, Lib.decDigits (Big.nu q) = z := ⟨_, rfl⟩
  obtain ⟨S2, hS2⟩ : ∃ z, Lib.decDigits (Big.de q) = z := ⟨_, rfl⟩
  have L1 : S1.length ≤ 20 * 64 := by rw [← hS1]; exact Big.dec_len_words (by omega) HS.out.nu.out
  have L2 : S2.length ≤ 20 * 64 := by rw [← hS2]; exact Big.dec_len_words (by omega) HS.out.de.out
  rw [hS1, hS2] at HTX
  rw [hS1]
  rw [hS2] at CT2
  have H1 := Lib.hid hS1; have H2 := Lib.hid hS2
  clear c0 c1 c2 hv2 hw2 hS1 hS2 CT1 CN
  have c0 := (KX.out _ hw3).1; have c1 := (KX.out _ hw3).2.1; have c2 := (KX.out _ hw3).2.2
  go_wp2_with fail
  refine (CS.out _ hw3).mono ?_
  rintro e w4 ⟨rfl, hw4⟩
  clear c0 c1 c2 hw3 CS
  have c0 := (KX.out _ hw4).1; have c1 := (KX.out _ hw4).2.1; have c2 := (KX.out _ hw4).2.2
  obtain ⟨sg, hsg⟩ : ∃ z, sgQ q = z := ⟨_, rfl⟩
  rw [hsg] at HSG ⊢
  clear hsg
  obtain ⟨TX, hTX⟩ : ∃ z, txQ q = z := ⟨_, rfl⟩
  rw [hTX] at HTX
  obtain ⟨dq, hdq⟩ : ∃ z, decide (Big.de q = 1) = z := ⟨_, rfl⟩
  rw [hdq] at CW
  have HDQ := Lib.hid hdq; have HTX2 := Lib.hid hTX
  clear hdq hTX
  by_cases hneg : sg < 0
  · have hnn : Big.ng q = true := HSG.out.1 hneg
    have HNN := Lib.hid hnn
    clear hnn
    have a1 : ∀ W, (Op.stringOp .add ⟨#[45]⟩ ⟨S1.toArray⟩).run Tryz.prog W = .ok (.string ⟨(45 :: S1).toArray⟩) W := fun W => add_bytes [45] S1 (by simp) (by omega) W
    have a2 : ∀ W, (Op.stringOp .add ⟨#[47]⟩ ⟨S2.toArray⟩).run Tryz.prog W = .ok (.string ⟨(47 :: S2).toArray⟩) W := fun W => add_bytes [47] S2 (by simp) (by omega) W
    have a3 : ∀ W, (Op.stringOp .add ⟨(45 :: S1).toArray⟩ ⟨(47 :: S2).toArray⟩).run Tryz.prog W = .ok (.string ⟨(45 :: S1 ++ 47 :: S2).toArray⟩) W := fun W => add_bytes (45 :: S1) (47 :: S2) (by simp; omega) (by simp; omega) W
    have a4 : ∀ W, (Op.stringOp .add ⟨S1.toArray⟩ ⟨(47 :: S2).toArray⟩).run Tryz.prog W = .ok (.string ⟨(S1 ++ 47 :: S2).toArray⟩) W := fun W => add_bytes S1 (47 :: S2) (by omega) (by simp; omega) W
    have t1 : (sg < 0) := hneg
    go_wp2_with fail
    refine (CW.out _ hw4).mono ?_
    rintro e w5 ⟨rfl, hw5⟩
    clear c0 c1 c2 hw4 CW
    have c0 := (KX.out _ hw5).1; have c1 := (KX.out _ hw5).2.1; have c2 := (KX.out _ hw5).2.2
    cases dq
    · go_wp2_with fail
      refine (CD.out _ hw5).mono ?_
      rintro e w6 ⟨v6, rfl, hv6, hw6, -⟩
      go_wp2_with fail
      refine (CT2.out w1 _ _ hv6 (T1.out _ hw6) hw6).mono ?_
      rintro e w7 ⟨rfl, hw7⟩
      have HB7 := Lib.hid (HB2.out.trans (hw7.mono HB2.out.size))
      clear c0 c1 c2 hw5 hw6 hw7 hv6
      go_wp2_with fail
      go_ret2
      refine ⟨?_, HB7.out⟩
      have hd := of_decide_eq_false HDQ.out
      rw [HTX2.out, HTX.out, if_pos HNN.out, if_neg hd]
      first
        | rfl
        | (rw [List.append_nil]; rfl)
    · have HB7 := Lib.hid (HB2.out.trans (hw5.mono HB2.out.size))
      clear hw5
      go_wp2_with fail
      go_ret2
      refine ⟨?_, HB7.out⟩
      have hd := of_decide_eq_true HDQ.out
      rw [HTX2.out, HTX.out, if_pos HNN.out, if_pos hd]
      first
        | rfl
        | (rw [List.append_nil]; rfl)
  · have hnn : ¬ Big.ng q = true := fun e => hneg (HSG.out.2 e)
    have HNN := Lib.hid hnn
    clear hnn
    have a1 : ∀ W, (Op.stringOp .add ⟨#[45]⟩ ⟨S1.toArray⟩).run Tryz.prog W = .ok (.string ⟨(45 :: S1).toArray⟩) W := fun W => add_bytes [45] S1 (by simp) (by omega) W
    have a2 : ∀ W, (Op.stringOp .add ⟨#[47]⟩ ⟨S2.toArray⟩).run Tryz.prog W = .ok (.string ⟨(47 :: S2).toArray⟩) W := fun W => add_bytes [47] S2 (by simp) (by omega) W
    have a3 : ∀ W, (Op.stringOp .add ⟨(45 :: S1).toArray⟩ ⟨(47 :: S2).toArray⟩).run Tryz.prog W = .ok (.string ⟨(45 :: S1 ++ 47 :: S2).toArray⟩) W := fun W => add_bytes (45 :: S1) (47 :: S2) (by simp; omega) (by simp; omega) W
    have a4 : ∀ W, (Op.stringOp .add ⟨S1.toArray⟩ ⟨(47 :: S2).toArray⟩).run Tryz.prog W = .ok (.string ⟨(S1 ++ 47 :: S2).toArray⟩) W := fun W => add_bytes S1 (47 :: S2) (by omega) (by simp; omega) W
    have t1 : ¬ (sg < 0) := hneg
    go_wp2_with fail
    refine (CW.out _ hw4).mono ?_
    rintro e w5 ⟨rfl, hw5⟩
    clear c0 c1 c2 hw4 CW
    have c0 := (KX.out _ hw5).1; have c1 := (KX.out _ hw5).2.1; have c2 := (KX.out _ hw5).2.2
    cases dq
    · go_wp2_with fail
      refine (CD.out _ hw5).mono ?_
      rintro e w6 ⟨v6, rfl, hv6, hw6, -⟩
      go_wp2_with fail
      refine (CT2.out w1 _ _ hv6 (T1.out _ hw6) hw6).mono ?_
      rintro e w7 ⟨rfl, hw7⟩
      have HB7 := Lib.hid (HB2.out.trans (hw7.mono HB2.out.size))
      clear c0 c1 c2 hw5 hw6 hw7 hv6
      go_wp2_with fail
      go_ret2
      refine ⟨?_, HB7.out⟩
      have hd := of_decide_eq_false HDQ.out
      rw [HTX2.out, HTX.out, if_neg HNN.out, if_neg hd]
      first
        | rfl
        | (rw [List.append_nil]; rfl)
    · have HB7 := Lib.hid (HB2.out.trans (hw5.mono HB2.out.size))
      clear hw5
      go_wp2_with fail
      go_ret2
      refine ⟨?_, HB7.out⟩
      have hd := of_decide_eq_true HDQ.out
      rw [HTX2.out, HTX.out, if_neg HNN.out, if_pos hd]
      first
        | rfl
        | (rw [List.append_nil]; rfl)
end Go.Proofs.YtjhoiichkgjdaaaGreatDoor
/- ratio: Int64. -/
namespace Go.Proofs.YtjhoiichkgjdaaaGreatDoor
open Go.RowKit

/-- The number of an int64, and whether. -/
def i64Q (q : Rat) : Int × Bool := if Big.de q = 1 ∧ -9223372036854775808 ≤ Big.sI (Big.ng q) (Big.nu q) ∧ Big.sI (Big.ng q) (Big.nu q) ≤ 9223372036854775807 then (Big.sI (Big.ng q) (Big.nu q), true) else (0, false)
def Int2 (w : World) (z : Int × Bool) (e : Ending) (w' : World) : Prop := e = .returned (.tuple #[.int .i64 z.1, .bool z.2]) ∧ Below w.heap.size w w'
theorem word_num (w : World) (v : Value) (n : Nat) (h : NatIn w v n) (hn : n < Big.M64) :
    Calls Tryz.prog 90 #[v] w fun e w' => e = .returned (.tuple #[.int .u64 ((n : Nat) : Int), .bool true]) ∧ Below w.heap.size w w' :=
  (word2_any w v n h).mono fun _ _ ⟨h1, h2⟩ => ⟨by rw [h1, if_pos hn, decide_eq_true hn], h2 ▸ Below.refl _ _⟩
theorem word_none (w : World) (v : Value) (n : Nat) (h : NatIn w v n) (hn : ¬ n < Big.M64) :
    Calls Tryz.prog 90 #[v] w fun e w' => e = .returned (.tuple #[.int .u64 0, .bool false]) ∧ Below w.heap.size w w' :=
  (word2_any w v n h).mono fun _ _ ⟨h1, h2⟩ => ⟨by rw [h1, if_neg hn, decide_eq_false hn]; rfl, h2 ▸ Below.refl _ _⟩
set_option maxRecDepth 100000 in
set_option maxHeartbeats 2000000 in
theorem int64_frac (w : World) (q : Rat) (hq : Fit q) (hde : ¬ Big.de q = 1) :
    Calls Tryz.prog 29 #[.agg #[.bool (Big.ng q), .string (bst (Big.nu q)), .string (bst (Big.de q))]] w (Int2 w (0, false)) := by
  have HS := Lib.hid hq.sm
  have Hhde := Lib.hid hde
  clear hde
  have HRD := Lib.hid (fun W g (h : AtL W g 23 #[.bool (Big.ng q), .string (bst (Big.nu q)), .string (bst (Big.de q))]) => read1_any W g q h hq)
  have HB1 := Lib.hid (below_alloc (box1_below w (.cells #[.bool (Big.ng q), .string (bst (Big.nu q)), .string (bst (Big.de q))] 23)) (Nat.le_refl _) (.cells #[.bool (Big.ng q), .string (bst (Big.nu q)), .string (bst (Big.de q))] 23))
  have HN1 := AtL.new (w.alloc (.cells #[.bool (Big.ng q), .string (bst (Big.nu q)), .string (bst (Big.de q))] 23)) 23 #[.bool (Big.ng q), .string (bst (Big.nu q)), .string (bst (Big.de q))]
  rw [alloc_size] at HN1
  have HN1 := Lib.hid HN1
  clear hq
  go_enter Tryz.func29, Tryz.ntmps29
  go_wp2_with fail
  refine (HRD.out _ _ HN1.out).mono ?_
  generalize (w.alloc (.cells #[.bool (Big.ng q), .string (bst (Big.nu q)), .string (bst (Big.de q))] 23)).alloc (.cells #[.bool (Big.ng q), .string (bst (Big.nu q)), .string (bst (Big.de q))] 23) = wa at *
  rintro e w1 ⟨v1, rfl, ⟨g, a, b, rfl, hat, hnq⟩, hw1⟩
  have HB2 := Lib.hid (HB1.out.trans (hw1.mono HB1.out.size))
  obtain ⟨A, l, cc, B, m, dd, e1, -, -⟩ := hnq.is_agg
  simp only [Value.agg.injEq] at e1
  have e1a : a = .slice A l cc := by have := congrArg (fun z : Array Value => z[1]?) e1; simpa using this
  have e1b : b = .slice B m dd := by have := congrArg (fun z : Array Value => z[2]?) e1; simpa using this
  subst e1a e1b
  have HAT := Lib.hid hat; have HNQ := Lib.hid hnq
  clear e1 hat hnq hw1 HB1 HN1 HRD
  have c0 := HAT.out.cell 0 rfl; have c1 := HAT.out.cell 1 rfl; have c2 := HAT.out.cell 2 rfl
  have KX := Lib.hid (fun W (h : Below w1.heap.size w1 W) => And.intro ((HAT.out.keep h).cell 0 rfl) (And.intro ((HAT.out.keep h).cell 1 rfl) ((HAT.out.keep h).cell 2 rfl)))
  have CS := Lib.hid (fun W (h : Below w1.heap.size w1 W) => textB h (exSign_any W _ q (HNQ.out.keep h)))
  have CW := Lib.hid (fun W (h : Below w1.heap.size w1 W) => textB h (exIsWhole_any W _ q (HNQ.out.keep h)))
  have CN := Lib.hid (fun W (h : Below w1.heap.size w1 W) => lift2 h (exNum_any W _ q (HNQ.out.keep h)))
  rw [decide_eq_false Hhde.out] at CW
  have hbr := Below.refl w1.heap.size w1
  go_wp2_with (first
    | (go_at_call 88; refine (CW.out _ (by assumption)).mono ?_; rintro e w2 ⟨rfl, hw2⟩; have c0 := (KX.out _ hw2).1; have c1 := (KX.out _ hw2).2.1; have c2 := (KX.out _ hw2).2.2)
    | (go_at_call 89; refine (CN.out _ (by assumption)).mono ?_; rintro e w3 ⟨v3, rfl, hv3, hw3, -⟩; have c0 := (KX.out _ hw3).1; have c1 := (KX.out _ hw3).2.1; have c2 := (KX.out _ hw3).2.2)
    | fail)
  go_ret2
  refine ⟨by rfl, ?_⟩
  first
    | exact HB2.out.trans (hw5.mono HB2.out.size)
    | exact HB2.out.trans (hw4.mono HB2.out.size)
    | exact HB2.out.trans (hw3.mono HB2.out.size)
    | exact HB2.out.trans (hw2.mono HB2.out.size)

set_option maxRecDepth 100000 in
set_option maxHeartbeats 2000000 in
theorem int64_great (w : World) (q : Rat) (hq : Fit q) (hde : Big.de q = 1) (hw : ¬ Big.nu q < Big.M64) :
    Calls Tryz.prog 29 #[.agg #[.bool (Big.ng q), .string (bst (Big.nu q)), .string (bst (Big.de q))]] w (Int2 w (0, false)) := by
  have HS := Lib.hid hq.sm
  have Hhde := Lib.hid hde
  clear hde
  have Hhw := Lib.hid hw
  clear hw
  have HRD := Lib.hid (fun W g (h : AtL W g 23 #[.bool (Big.ng q), .string (bst (Big.nu q)), .string (bst (Big.de q))]) => read1_any W g q h hq)
  have HB1 := Lib.hid (below_alloc (box1_below w (.cells #[.bool (Big.ng q), .string (bst (Big.nu q)), .string (bst (Big.de q))] 23)) (Nat.le_refl _) (.cells #[.bool (Big.ng q), .string (bst (Big.nu q)), .string (bst (Big.de q))] 23))
  have HN1 := AtL.new (w.alloc (.cells #[.bool (Big.ng q), .string (bst (Big.nu q)), .string (bst (Big.de q))] 23)) 23 #[.bool (Big.ng q), .string (bst (Big.nu q)), .string (bst (Big.de q))]
  rw [alloc_size] at HN1
  have HN1 := Lib.hid HN1
  clear hq
  go_enter Tryz.func29, Tryz.ntmps29
  go_wp2_with fail
  refine (HRD.out _ _ HN1.out).mono ?_
  generalize (w.alloc (.cells #[.bool (Big.ng q), .string (bst (Big.nu q)), .string (bst (Big.de q))] 23)).alloc (.cells #[.bool (Big.ng q), .string (bst (Big.nu q)), .string (bst (Big.de q))] 23) = wa at *
  rintro e w1 ⟨v1, rfl, ⟨g, a, b, rfl, hat, hnq⟩, hw1⟩
  have HB2 := Lib.hid (HB1.out.trans (hw1.mono HB1.out.size))
  obtain ⟨A, l, cc, B, m, dd, e1, -, -⟩ := hnq.is_agg
  simp only [Value.agg.injEq] at e1
  have e1a : a = .slice A l cc := by have := congrArg (fun z : Array Value => z[1]?) e1; simpa using this
  have e1b : b = .slice B m dd := by have := congrArg (fun z : Array Value => z[2]?) e1; simpa using this
  subst e1a e1b
  have HAT := Lib.hid hat; have HNQ := Lib.hid hnq
  clear e1 hat hnq hw1 HB1 HN1 HRD
  have c0 := HAT.out.cell 0 rfl; have c1 := HAT.out.cell 1 rfl; have c2 := HAT.out.cell 2 rfl
  have KX := Lib.hid (fun W (h : Below w1.heap.size w1 W) => And.intro ((HAT.out.keep h).cell 0 rfl) (And.intro ((HAT.out.keep h).cell 1 rfl) ((HAT.out.keep h).cell 2 rfl)))
  have CS := Lib.hid (fun W (h : Below w1.heap.size w1 W) => textB h (exSign_any W _ q (HNQ.out.keep h)))
  have CW := Lib.hid (fun W (h : Below w1.heap.size w1 W) => textB h (exIsWhole_any W _ q (HNQ.out.keep h)))
  have CN := Lib.hid (fun W (h : Below w1.heap.size w1 W) => lift2 h (exNum_any W _ q (HNQ.out.keep h)))
  rw [decide_eq_true Hhde.out] at CW
  have CD := Lib.hid (fun W v (h : NatIn W v (Big.nu q)) (hb : Below w1.heap.size w1 W) => textB hb (word_none W v _ h Hhw.out))
  have hbr := Below.refl w1.heap.size w1
  go_wp2_with (first
    | (go_at_call 88; refine (CW.out _ (by assumption)).mono ?_; rintro e w2 ⟨rfl, hw2⟩; have c0 := (KX.out _ hw2).1; have c1 := (KX.out _ hw2).2.1; have c2 := (KX.out _ hw2).2.2)
    | (go_at_call 89; refine (CN.out _ (by assumption)).mono ?_; rintro e w3 ⟨v3, rfl, hv3, hw3, -⟩; have c0 := (KX.out _ hw3).1; have c1 := (KX.out _ hw3).2.1; have c2 := (KX.out _ hw3).2.2)
    | (go_at_call 90; refine (CD.out _ _ hv3 (by assumption)).mono ?_; rintro e w4 ⟨rfl, hw4⟩; have c0 := (KX.out _ hw4).1; have c1 := (KX.out _ hw4).2.1; have c2 := (KX.out _ hw4).2.2)
    | (go_at_call 75; refine (CS.out _ (by assumption)).mono ?_; rintro e w5 ⟨rfl, hw5⟩; have c0 := (KX.out _ hw5).1; have c1 := (KX.out _ hw5).2.1; have c2 := (KX.out _ hw5).2.2)
    | fail)
  go_ret2
  refine ⟨by rfl, ?_⟩
  first
    | exact HB2.out.trans (hw5.mono HB2.out.size)
    | exact HB2.out.trans (hw4.mono HB2.out.size)
    | exact HB2.out.trans (hw3.mono HB2.out.size)
    | exact HB2.out.trans (hw2.mono HB2.out.size)

set_option maxRecDepth 100000 in
set_option maxHeartbeats 2000000 in
theorem int64_neg (w : World) (q : Rat) (hq : Fit q) (hde : Big.de q = 1) (hw : Big.nu q < Big.M64) (hm : (Big.nu q : Int) ≤ 9223372036854775807) (hng : Big.ng q = true) :
    Calls Tryz.prog 29 #[.agg #[.bool (Big.ng q), .string (bst (Big.nu q)), .string (bst (Big.de q))]] w (Int2 w (-(Big.nu q : Int), true)) := by
  have HS := Lib.hid hq.sm
  have Hhde := Lib.hid hde
  clear hde
  have Hhw := Lib.hid hw
  clear hw
  have Hhng := Lib.hid hng
  clear hng
  have HRD := Lib.hid (fun W g (h : AtL W g 23 #[.bool (Big.ng q), .string (bst (Big.nu q)), .string (bst (Big.de q))]) => read1_any W g q h hq)
  have HB1 := Lib.hid (below_alloc (box1_below w (.cells #[.bool (Big.ng q), .string (bst (Big.nu q)), .string (bst (Big.de q))] 23)) (Nat.le_refl _) (.cells #[.bool (Big.ng q), .string (bst (Big.nu q)), .string (bst (Big.de q))] 23))
  have HN1 := AtL.new (w.alloc (.cells #[.bool (Big.ng q), .string (bst (Big.nu q)), .string (bst (Big.de q))] 23)) 23 #[.bool (Big.ng q), .string (bst (Big.nu q)), .string (bst (Big.de q))]
  rw [alloc_size] at HN1
  have HN1 := Lib.hid HN1
  clear hq
  go_enter Tryz.func29, Tryz.ntmps29
  go_wp2_with fail
  refine (HRD.out _ _ HN1.out).mono ?_
  generalize (w.alloc (.cells #[.bool (Big.ng q), .string (bst (Big.nu q)), .string (bst (Big.de q))] 23)).alloc (.cells #[.bool (Big.ng q), .string (bst (Big.nu q)), .string (bst (Big.de q))] 23) = wa at *
  rintro e w1 ⟨v1, rfl, ⟨g, a, b, rfl, hat, hnq⟩, hw1⟩
  have HB2 := Lib.hid (HB1.out.trans (hw1.mono HB1.out.size))
  obtain ⟨A, l, cc, B, m, dd, e1, -, -⟩ := hnq.is_agg
  simp only [Value.agg.injEq] at e1
  have e1a : a = .slice A l cc := by have := congrArg (fun z : Array Value => z[1]?) e1; simpa using this
  have e1b : b = .slice B m dd := by have := congrArg (fun z : Array Value => z[2]?) e1; simpa using this
  subst e1a e1b
  have HAT := Lib.hid hat; have HNQ := Lib.hid hnq
  clear e1 hat hnq hw1 HB1 HN1 HRD
  have c0 := HAT.out.cell 0 rfl; have c1 := HAT.out.cell 1 rfl; have c2 := HAT.out.cell 2 rfl
  have KX := Lib.hid (fun W (h : Below w1.heap.size w1 W) => And.intro ((HAT.out.keep h).cell 0 rfl) (And.intro ((HAT.out.keep h).cell 1 rfl) ((HAT.out.keep h).cell 2 rfl)))
  have CS := Lib.hid (fun W (h : Below w1.heap.size w1 W) => textB h (exSign_any W _ q (HNQ.out.keep h)))
  have CW := Lib.hid (fun W (h : Below w1.heap.size w1 W) => textB h (exIsWhole_any W _ q (HNQ.out.keep h)))
  have CN := Lib.hid (fun W (h : Below w1.heap.size w1 W) => lift2 h (exNum_any W _ q (HNQ.out.keep h)))
  rw [decide_eq_true Hhde.out] at CW
  have CD := Lib.hid (fun W v (h : NatIn W v (Big.nu q)) (hb : Below w1.heap.size w1 W) => textB hb (word_num W v _ h Hhw.out))
  have sgv : sgQ q = -1 := by unfold sgQ; rw [if_pos Hhng.out]
  rw [sgv] at CS
  clear sgv
  have hbr := Below.refl w1.heap.size w1
  go_wp2_with (first
    | (go_at_call 88; refine (CW.out _ (by assumption)).mono ?_; rintro e w2 ⟨rfl, hw2⟩; have c0 := (KX.out _ hw2).1; have c1 := (KX.out _ hw2).2.1; have c2 := (KX.out _ hw2).2.2)
    | (go_at_call 89; refine (CN.out _ (by assumption)).mono ?_; rintro e w3 ⟨v3, rfl, hv3, hw3, -⟩; have c0 := (KX.out _ hw3).1; have c1 := (KX.out _ hw3).2.1; have c2 := (KX.out _ hw3).2.2)
    | (go_at_call 90; refine (CD.out _ _ hv3 (by assumption)).mono ?_; rintro e w4 ⟨rfl, hw4⟩; have c0 := (KX.out _ hw4).1; have c1 := (KX.out _ hw4).2.1; have c2 := (KX.out _ hw4).2.2)
    | (go_at_call 75; refine (CS.out _ (by assumption)).mono ?_; rintro e w5 ⟨rfl, hw5⟩; have c0 := (KX.out _ hw5).1; have c1 := (KX.out _ hw5).2.1; have c2 := (KX.out _ hw5).2.2)
    | fail)
  go_ret2
  refine ⟨by rfl, ?_⟩
  first
    | exact HB2.out.trans (hw5.mono HB2.out.size)
    | exact HB2.out.trans (hw4.mono HB2.out.size)
    | exact HB2.out.trans (hw3.mono HB2.out.size)
    | exact HB2.out.trans (hw2.mono HB2.out.size)

set_option maxRecDepth 100000 in
set_option maxHeartbeats 2000000 in
theorem int64_pos (w : World) (q : Rat) (hq : Fit q) (hde : Big.de q = 1) (hw : Big.nu q < Big.M64) (hm : (Big.nu q : Int) ≤ 9223372036854775807) (hng : ¬ Big.ng q = true) :
    Calls Tryz.prog 29 #[.agg #[.bool (Big.ng q), .string (bst (Big.nu q)), .string (bst (Big.de q))]] w (Int2 w ((Big.nu q : Int), true)) := by
  have HS := Lib.hid hq.sm
  have Hhde := Lib.hid hde
  clear hde
  have Hhw := Lib.hid hw
  clear hw
  have Hhng := Lib.hid hng
  clear hng
  have HRD := Lib.hid (fun W g (h : AtL W g 23 #[.bool (Big.ng q), .string (bst (Big.nu q)), .string (bst (Big.de q))]) => read1_any W g q h hq)
  have HB1 := Lib.hid (below_alloc (box1_below w (.cells #[.bool (Big.ng q), .string (bst (Big.nu q)), .string (bst (Big.de q))] 23)) (Nat.le_refl _) (.cells #[.bool (Big.ng q), .string (bst (Big.nu q)), .string (bst (Big.de q))] 23))
  have HN1 := AtL.new (w.alloc (.cells #[.bool (Big.ng q), .string (bst (Big.nu q)), .string (bst (Big.de q))] 23)) 23 #[.bool (Big.ng q), .string (bst (Big.nu q)), .string (bst (Big.de q))]
  rw [alloc_size] at HN1
  have HN1 := Lib.hid HN1
  clear hq
  go_enter Tryz.func29, Tryz.ntmps29
  go_wp2_with fail
  refine (HRD.out _ _ HN1.out).mono ?_
  generalize (w.alloc (.cells #[.bool (Big.ng q), .string (bst (Big.nu q)), .string (bst (Big.de q))] 23)).alloc (.cells #[.bool (Big.ng q), .string (bst (Big.nu q)), .string (bst (Big.de q))] 23) = wa at *
  rintro e w1 ⟨v1, rfl, ⟨g, a, b, rfl, hat, hnq⟩, hw1⟩
  have HB2 := Lib.hid (HB1.out.trans (hw1.mono HB1.out.size))
  obtain ⟨A, l, cc, B, m, dd, e1, -, -⟩ := hnq.is_agg
  simp only [Value.agg.injEq] at e1
  have e1a : a = .slice A l cc := by have := congrArg (fun z : Array Value => z[1]?) e1; simpa using this
  have e1b : b = .slice B m dd := by have := congrArg (fun z : Array Value => z[2]?) e1; simpa using this
  subst e1a e1b
  have HAT := Lib.hid hat; have HNQ := Lib.hid hnq
  clear e1 hat hnq hw1 HB1 HN1 HRD
  have c0 := HAT.out.cell 0 rfl; have c1 := HAT.out.cell 1 rfl; have c2 := HAT.out.cell 2 rfl
  have KX := Lib.hid (fun W (h : Below w1.heap.size w1 W) => And.intro ((HAT.out.keep h).cell 0 rfl) (And.intro ((HAT.out.keep h).cell 1 rfl) ((HAT.out.keep h).cell 2 rfl)))
  have CS := Lib.hid (fun W (h : Below w1.heap.size w1 W) => textB h (exSign_any W _ q (HNQ.out.keep h)))
  have CW := Lib.hid (fun W (h : Below w1.heap.size w1 W) => textB h (exIsWhole_any W _ q (HNQ.out.keep h)))
  have CN := Lib.hid (fun W (h : Below w1.heap.size w1 W) => lift2 h (exNum_any W _ q (HNQ.out.keep h)))
  rw [decide_eq_true Hhde.out] at CW
  have CD := Lib.hid (fun W v (h : NatIn W v (Big.nu q)) (hb : Below w1.heap.size w1 W) => textB hb (word_num W v _ h Hhw.out))
  have sgv : ¬ sgQ q < 0 := by unfold sgQ; rw [if_neg Hhng.out]; split <;> omega
  generalize sgQ q = sg at *
  have hbr := Below.refl w1.heap.size w1
  go_wp2_with (first
    | (go_at_call 88; refine (CW.out _ (by assumption)).mono ?_; rintro e w2 ⟨rfl, hw2⟩; have c0 := (KX.out _ hw2).1; have c1 := (KX.out _ hw2).2.1; have c2 := (KX.out _ hw2).2.2)
    | (go_at_call 89; refine (CN.out _ (by assumption)).mono ?_; rintro e w3 ⟨v3, rfl, hv3, hw3, -⟩; have c0 := (KX.out _ hw3).1; have c1 := (KX.out _ hw3).2.1; have c2 := (KX.out _ hw3).2.2)
    | (go_at_call 90; refine (CD.out _ _ hv3 (by assumption)).mono ?_; rintro e w4 ⟨rfl, hw4⟩; have c0 := (KX.out _ hw4).1; have c1 := (KX.out _ hw4).2.1; have c2 := (KX.out _ hw4).2.2)
    | (go_at_call 75; refine (CS.out _ (by assumption)).mono ?_; rintro e w5 ⟨rfl, hw5⟩; have c0 := (KX.out _ hw5).1; have c1 := (KX.out _ hw5).2.1; have c2 := (KX.out _ hw5).2.2)
    | fail)
  go_ret2
  refine ⟨by rfl, ?_⟩
  first
    | exact HB2.out.trans (hw5.mono HB2.out.size)
    | exact HB2.out.trans (hw4.mono HB2.out.size)
    | exact HB2.out.trans (hw3.mono HB2.out.size)
    | exact HB2.out.trans (hw2.mono HB2.out.size)

set_option maxRecDepth 100000 in
set_option maxHeartbeats 2000000 in
theorem int64_least (w : World) (q : Rat) (hq : Fit q) (hde : Big.de q = 1) (hw : Big.nu q < Big.M64) (hm : ¬ (Big.nu q : Int) ≤ 9223372036854775807) (he : ((Big.nu q : Int) == 9223372036854775808) = true) (hng : Big.ng q = true) :
    Calls Tryz.prog 29 #[.agg #[.bool (Big.ng q), .string (bst (Big.nu q)), .string (bst (Big.de q))]] w (Int2 w (-9223372036854775808, true)) := by
  have HS := Lib.hid hq.sm
  have Hhde := Lib.hid hde
  clear hde
  have Hhw := Lib.hid hw
  clear hw
  have Hhng := Lib.hid hng
  clear hng
  have Hhe := Lib.hid he
  clear he
  have HRD := Lib.hid (fun W g (h : AtL W g 23 #[.bool (Big.ng q), .string (bst (Big.nu q)), .string (bst (Big.de q))]) => read1_any W g q h hq)
  have HB1 := Lib.hid (below_alloc (box1_below w (.cells #[.bool (Big.ng q), .string (bst (Big.nu q)), .string (bst (Big.de q))] 23)) (Nat.le_refl _) (.cells #[.bool (Big.ng q), .string (bst (Big.nu q)), .string (bst (Big.de q))] 23))
  have HN1 := AtL.new (w.alloc (.cells #[.bool (Big.ng q), .string (bst (Big.nu q)), .string (bst (Big.de q))] 23)) 23 #[.bool (Big.ng q), .string (bst (Big.nu q)), .string (bst (Big.de q))]
  rw [alloc_size] at HN1
  have HN1 := Lib.hid HN1
  clear hq
  go_enter Tryz.func29, Tryz.ntmps29
  go_wp2_with fail
  refine (HRD.out _ _ HN1.out).mono ?_
  generalize (w.alloc (.cells #[.bool (Big.ng q), .string (bst (Big.nu q)), .string (bst (Big.de q))] 23)).alloc (.cells #[.bool (Big.ng q), .string (bst (Big.nu q)), .string (bst (Big.de q))] 23) = wa at *
  rintro e w1 ⟨v1, rfl, ⟨g, a, b, rfl, hat, hnq⟩, hw1⟩
  have HB2 := Lib.hid (HB1.out.trans (hw1.mono HB1.out.size))
  obtain ⟨A, l, cc, B, m, dd, e1, -, -⟩ := hnq.is_agg
  simp only [Value.agg.injEq] at e1
  have e1a : a = .slice A l cc := by have := congrArg (fun z : Array Value => z[1]?) e1; simpa using this
  have e1b : b = .slice B m dd := by have := congrArg (fun z : Array Value => z[2]?) e1; simpa using this
  subst e1a e1b
  have HAT := Lib.hid hat; have HNQ := Lib.hid hnq
  clear e1 hat hnq hw1 HB1 HN1 HRD
  have c0 := HAT.out.cell 0 rfl; have c1 := HAT.out.cell 1 rfl; have c2 := HAT.out.cell 2 rfl
  have KX := Lib.hid (fun W (h : Below w1.heap.size w1 W) => And.intro ((HAT.out.keep h).cell 0 rfl) (And.intro ((HAT.out.keep h).cell 1 rfl) ((HAT.out.keep h).cell 2 rfl)))
  have CS := Lib.hid (fun W (h : Below w1.heap.size w1 W) => textB h (exSign_any W _ q (HNQ.out.keep h)))
  have CW := Lib.hid (fun W (h : Below w1.heap.size w1 W) => textB h (exIsWhole_any W _ q (HNQ.out.keep h)))
  have CN := Lib.hid (fun W (h : Below w1.heap.size w1 W) => lift2 h (exNum_any W _ q (HNQ.out.keep h)))
  rw [decide_eq_true Hhde.out] at CW
  have CD := Lib.hid (fun W v (h : NatIn W v (Big.nu q)) (hb : Below w1.heap.size w1 W) => textB hb (word_num W v _ h Hhw.out))
  have sgv : sgQ q = -1 := by unfold sgQ; rw [if_pos Hhng.out]
  rw [sgv] at CS
  clear sgv
  have he := Hhe.out
  have hbr := Below.refl w1.heap.size w1
  go_wp2_with (first
    | (go_at_call 88; refine (CW.out _ (by assumption)).mono ?_; rintro e w2 ⟨rfl, hw2⟩; have c0 := (KX.out _ hw2).1; have c1 := (KX.out _ hw2).2.1; have c2 := (KX.out _ hw2).2.2)
    | (go_at_call 89; refine (CN.out _ (by assumption)).mono ?_; rintro e w3 ⟨v3, rfl, hv3, hw3, -⟩; have c0 := (KX.out _ hw3).1; have c1 := (KX.out _ hw3).2.1; have c2 := (KX.out _ hw3).2.2)
    | (go_at_call 90; refine (CD.out _ _ hv3 (by assumption)).mono ?_; rintro e w4 ⟨rfl, hw4⟩; have c0 := (KX.out _ hw4).1; have c1 := (KX.out _ hw4).2.1; have c2 := (KX.out _ hw4).2.2)
    | (go_at_call 75; refine (CS.out _ (by assumption)).mono ?_; rintro e w5 ⟨rfl, hw5⟩; have c0 := (KX.out _ hw5).1; have c1 := (KX.out _ hw5).2.1; have c2 := (KX.out _ hw5).2.2)
    | fail)
  go_ret2
  refine ⟨by rfl, ?_⟩
  first
    | exact HB2.out.trans (hw5.mono HB2.out.size)
    | exact HB2.out.trans (hw4.mono HB2.out.size)
    | exact HB2.out.trans (hw3.mono HB2.out.size)
    | exact HB2.out.trans (hw2.mono HB2.out.size)

set_option maxRecDepth 100000 in
set_option maxHeartbeats 2000000 in
theorem int64_over (w : World) (q : Rat) (hq : Fit q) (hde : Big.de q = 1) (hw : Big.nu q < Big.M64) (hm : ¬ (Big.nu q : Int) ≤ 9223372036854775807) (he : ((Big.nu q : Int) == 9223372036854775808) = true) (hng : ¬ Big.ng q = true) :
    Calls Tryz.prog 29 #[.agg #[.bool (Big.ng q), .string (bst (Big.nu q)), .string (bst (Big.de q))]] w (Int2 w (0, false)) := by
  have HS := Lib.hid hq.sm
  have Hhde := Lib.hid hde
  clear hde
  have Hhw := Lib.hid hw
  clear hw
  have Hhng := Lib.hid hng
  clear hng
  have Hhe := Lib.hid he
  clear he
  have HRD := Lib.hid (fun W g (h : AtL W g 23 #[.bool (Big.ng q), .string (bst (Big.nu q)), .string (bst (Big.de q))]) => read1_any W g q h hq)
  have HB1 := Lib.hid (below_alloc (box1_below w (.cells #[.bool (Big.ng q), .string (bst (Big.nu q)), .string (bst (Big.de q))] 23)) (Nat.le_refl _) (.cells #[.bool (Big.ng q), .string (bst (Big.nu q)), .string (bst (Big.de q))] 23))
  have HN1 := AtL.new (w.alloc (.cells #[.bool (Big.ng q), .string (bst (Big.nu q)), .string (bst (Big.de q))] 23)) 23 #[.bool (Big.ng q), .string (bst (Big.nu q)), .string (bst (Big.de q))]
  rw [alloc_size] at HN1
  have HN1 := Lib.hid HN1
  clear hq
  go_enter Tryz.func29, Tryz.ntmps29
  go_wp2_with fail
  refine (HRD.out _ _ HN1.out).mono ?_
  generalize (w.alloc (.cells #[.bool (Big.ng q), .string (bst (Big.nu q)), .string (bst (Big.de q))] 23)).alloc (.cells #[.bool (Big.ng q), .string (bst (Big.nu q)), .string (bst (Big.de q))] 23) = wa at *
  rintro e w1 ⟨v1, rfl, ⟨g, a, b, rfl, hat, hnq⟩, hw1⟩
  have HB2 := Lib.hid (HB1.out.trans (hw1.mono HB1.out.size))
  obtain ⟨A, l, cc, B, m, dd, e1, -, -⟩ := hnq.is_agg
  simp only [Value.agg.injEq] at e1
  have e1a : a = .slice A l cc := by have := congrArg (fun z : Array Value => z[1]?) e1; simpa using this
  have e1b : b = .slice B m dd := by have := congrArg (fun z : Array Value => z[2]?) e1; simpa using this
  subst e1a e1b
  have HAT := Lib.hid hat; have HNQ := Lib.hid hnq
  clear e1 hat hnq hw1 HB1 HN1 HRD
  have c0 := HAT.out.cell 0 rfl; have c1 := HAT.out.cell 1 rfl; have c2 := HAT.out.cell 2 rfl
  have KX := Lib.hid (fun W (h : Below w1.heap.size w1 W) => And.intro ((HAT.out.keep h).cell 0 rfl) (And.intro ((HAT.out.keep h).cell 1 rfl) ((HAT.out.keep h).cell 2 rfl)))
  have CS := Lib.hid (fun W (h : Below w1.heap.size w1 W) => textB h (exSign_any W _ q (HNQ.out.keep h)))
  have CW := Lib.hid (fun W (h : Below w1.heap.size w1 W) => textB h (exIsWhole_any W _ q (HNQ.out.keep h)))
  have CN := Lib.hid (fun W (h : Below w1.heap.size w1 W) => lift2 h (exNum_any W _ q (HNQ.out.keep h)))
  rw [decide_eq_true Hhde.out] at CW
  have CD := Lib.hid (fun W v (h : NatIn W v (Big.nu q)) (hb : Below w1.heap.size w1 W) => textB hb (word_num W v _ h Hhw.out))
  have sgv : ¬ sgQ q < 0 := by unfold sgQ; rw [if_neg Hhng.out]; split <;> omega
  generalize sgQ q = sg at *
  have he := Hhe.out
  have hbr := Below.refl w1.heap.size w1
  go_wp2_with (first
    | (go_at_call 88; refine (CW.out _ (by assumption)).mono ?_; rintro e w2 ⟨rfl, hw2⟩; have c0 := (KX.out _ hw2).1; have c1 := (KX.out _ hw2).2.1; have c2 := (KX.out _ hw2).2.2)
    | (go_at_call 89; refine (CN.out _ (by assumption)).mono ?_; rintro e w3 ⟨v3, rfl, hv3, hw3, -⟩; have c0 := (KX.out _ hw3).1; have c1 := (KX.out _ hw3).2.1; have c2 := (KX.out _ hw3).2.2)
    | (go_at_call 90; refine (CD.out _ _ hv3 (by assumption)).mono ?_; rintro e w4 ⟨rfl, hw4⟩; have c0 := (KX.out _ hw4).1; have c1 := (KX.out _ hw4).2.1; have c2 := (KX.out _ hw4).2.2)
    | (go_at_call 75; refine (CS.out _ (by assumption)).mono ?_; rintro e w5 ⟨rfl, hw5⟩; have c0 := (KX.out _ hw5).1; have c1 := (KX.out _ hw5).2.1; have c2 := (KX.out _ hw5).2.2)
    | fail)
  go_ret2
  refine ⟨by rfl, ?_⟩
  first
    | exact HB2.out.trans (hw5.mono HB2.out.size)
    | exact HB2.out.trans (hw4.mono HB2.out.size)
    | exact HB2.out.trans (hw3.mono HB2.out.size)
    | exact HB2.out.trans (hw2.mono HB2.out.size)

end Go.Proofs.YtjhoiichkgjdaaaGreatDoor
