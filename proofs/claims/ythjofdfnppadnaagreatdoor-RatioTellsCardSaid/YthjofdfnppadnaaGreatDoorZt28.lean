/- Contracts, in this order: ratio: Int64. -/
import Derived.Test.YthjofdfnppadnaaGreatDoorZt27
namespace Go.Proofs.YthjofdfnppadnaaGreatDoor
open Go.RowKit
def i64Q (q : Rat) : Int × Bool := if Big.de q = 1 ∧ -9223372036854775808 ≤ Big.sI (Big.ng q) (Big.nu q) ∧ Big.sI (Big.ng q) (Big.nu q) ≤ 9223372036854775807 then (Big.sI (Big.ng q) (Big.nu q), true) else (0, false)
def Int2 (w : World) (z : Int × Bool) (e : Ending) (w' : World) : Prop := e = .returned (.tuple #[.int .i64 z.1, .bool z.2]) ∧ Below w.heap.size w w'
theorem word_num (w : World) (v : Value) (n : Nat) (h : NatIn w v n) (hn : n < Big.M64) :
    Calls Tryz.prog 63 #[v] w fun e w' => e = .returned (.tuple #[.int .u64 ((n : Nat) : Int), .bool true]) ∧ Below w.heap.size w w' :=
  (word2_any w v n h).mono fun _ _ ⟨h1, h2⟩ => ⟨by rw [h1, if_pos hn, decide_eq_true hn], h2 ▸ Below.refl _ _⟩
theorem word_none (w : World) (v : Value) (n : Nat) (h : NatIn w v n) (hn : ¬ n < Big.M64) :
    Calls Tryz.prog 63 #[v] w fun e w' => e = .returned (.tuple #[.int .u64 0, .bool false]) ∧ Below w.heap.size w w' :=
  (word2_any w v n h).mono fun _ _ ⟨h1, h2⟩ => ⟨by rw [h1, if_neg hn, decide_eq_false hn]; rfl, h2 ▸ Below.refl _ _⟩
set_option maxRecDepth 100000 in
set_option maxHeartbeats 2000000 in
theorem int64_frac (w : World) (q : Rat) (hq : Fit q) (hde : ¬ Big.de q = 1) :
    Calls Tryz.prog 17 #[.agg #[.bool (Big.ng q), .string (bst (Big.nu q)), .string (bst (Big.de q))]] w (Int2 w (0, false)) := by
  have HS := Lib.hid hq.sm
  have Hhde := Lib.hid hde
  clear hde
  have HRD := Lib.hid (fun W g (h : AtL W g 23 #[.bool (Big.ng q), .string (bst (Big.nu q)), .string (bst (Big.de q))]) => read1_any W g q h hq)
  have HB1 := Lib.hid (below_alloc (box1_below w (.cells #[.bool (Big.ng q), .string (bst (Big.nu q)), .string (bst (Big.de q))] 23)) (Nat.le_refl _) (.cells #[.bool (Big.ng q), .string (bst (Big.nu q)), .string (bst (Big.de q))] 23))
  have HN1 := AtL.new (w.alloc (.cells #[.bool (Big.ng q), .string (bst (Big.nu q)), .string (bst (Big.de q))] 23)) 23 #[.bool (Big.ng q), .string (bst (Big.nu q)), .string (bst (Big.de q))]
  rw [alloc_size] at HN1
  have HN1 := Lib.hid HN1
  clear hq
  go_enter Tryz.func17, Tryz.ntmps17
  go_wp2_with fail
  refine (HRD.out _ _ HN1.out).mono ?_
  generalize (w.alloc (.cells #[.bool (Big.ng q), .string (bst (Big.nu q)), .string (bst (Big.de q))] 23)).alloc (.cells #[.bool (Big.ng q), .string (bst (Big.nu q)), .string (bst (Big.de q))] 23) = wa at *
  rintro e w1 ⟨v1, rfl, ⟨g, a, b, rfl, hat, hnq⟩, hw1⟩
  have HB2 := Lib.hid (HB1.out.trans (hw1.mono HB1.out.size))
  obtain ⟨A, l, cc, B, m, dd, e1, -, -⟩ := hnq.is_agg
  simp only [Value.agg.injEq] at e1
  have e1a : a = .slice A l cc := by have := congrArg (fun z : Array Value => z[1]?) e1; simpa using this
  have e1b : b = .slice B m dd := by have := congrArg (fun z : Array Value => z[2]?) e1; simpa using this
  subst e1a e1b
  have HAT := Lib.hid hat; have HNQ := Lib.hid hnq
  clear e1 hat hnq hw1 HB1 HN1 HRD
  have c0 := HAT.out.cell 0 rfl; have c1 := HAT.out.cell 1 rfl; have c2 := HAT.out.cell 2 rfl
  have KX := Lib.hid (fun W (h : Below w1.heap.size w1 W) => And.intro ((HAT.out.keep h).cell 0 rfl) (And.intro ((HAT.out.keep h).cell 1 rfl) ((HAT.out.keep h).cell 2 rfl)))
  have CS := Lib.hid (fun W (h : Below w1.heap.size w1 W) => textB h (exSign_any W _ q (HNQ.out.keep h)))
  have CW := Lib.hid (fun W (h : Below w1.heap.size w1 W) => textB h (exIsWhole_any W _ q (HNQ.out.keep h)))
  have CN := Lib.hid (fun W (h : Below w1.heap.size w1 W) => lift2 h (exNum_any W _ q (HNQ.out.keep h)))
  rw [decide_eq_false Hhde.out] at CW
  have hbr := Below.refl w1.heap.size w1
  go_wp2_with (first
    | (go_at_call 55; refine (CW.out _ (by assumption)).mono ?_; rintro e w2 ⟨rfl, hw2⟩; have c0 := (KX.out _ hw2).1; have c1 := (KX.out _ hw2).2.1; have c2 := (KX.out _ hw2).2.2)
    | (go_at_call 52; refine (CN.out _ (by assumption)).mono ?_; rintro e w3 ⟨v3, rfl, hv3, hw3, -⟩; have c0 := (KX.out _ hw3).1; have c1 := (KX.out _ hw3).2.1; have c2 := (KX.out _ hw3).2.2)
    | fail)
  go_ret2
  refine ⟨by rfl, ?_⟩
  first
    | exact HB2.out.trans (hw5.mono HB2.out.size)
    | exact HB2.out.trans (hw4.mono HB2.out.size)
    | exact HB2.out.trans (hw3.mono HB2.out.size)
    | exact HB2.out.trans (hw2.mono HB2.out.size)
set_option maxRecDepth 100000 in
set_option maxHeartbeats 2000000 in
theorem int64_great (w : World) (q : Rat) (hq : Fit q) (hde : Big.de q = 1) (hw : ¬ Big.nu q < Big.M64) :
    Calls Tryz.prog 17 #[.agg #[.bool (Big.ng q), .string (bst (Big.nu q)), .string (bst (Big.de q))]] w (Int2 w (0, false)) := by
  have HS := Lib.hid hq.sm
  have Hhde := Lib.hid hde
  clear hde
  have Hhw := Lib.hid hw
  clear hw
  have HRD := Lib.hid (fun W g (h : AtL W g 23 #[.bool (Big.ng q), .string (bst (Big.nu q)), .string (bst (Big.de q))]) => read1_any W g q h hq)
  have HB1 := Lib.hid (below_alloc (box1_below w (.cells #[.bool (Big.ng q), .string (bst (Big.nu q)), .string (bst (Big.de q))] 23)) (Nat.le_refl _) (.cells #[.bool (Big.ng q), .string (bst (Big.nu q)), .string (bst (Big.de q))] 23))
  have HN1 := AtL.new (w.alloc (.cells #[.bool (Big.ng q), .string (bst (Big.nu q)), .string (bst (Big.de q))] 23)) 23 #[.bool (Big.ng q), .string (bst (Big.nu q)), .string (bst (Big.de q))]
  rw [alloc_size] at HN1
  have HN1 := Lib.hid HN1
  clear hq
  go_enter Tryz.func17, Tryz.ntmps17
  go_wp2_with fail
  refine (HRD.out _ _ HN1.out).mono ?_
  generalize (w.alloc (.cells #[.bool (Big.ng q), .string (bst (Big.nu q)), .string (bst (Big.de q))] 23)).alloc (.cells #[.bool (Big.ng q), .string (bst (Big.nu q)), .string (bst (Big.de q))] 23) = wa at *
  rintro e w1 ⟨v1, rfl, ⟨g, a, b, rfl, hat, hnq⟩, hw1⟩
  have HB2 := Lib.hid (HB1.out.trans (hw1.mono HB1.out.size))
  obtain ⟨A, l, cc, B, m, dd, e1, -, -⟩ := hnq.is_agg
  simp only [Value.agg.injEq] at e1
  have e1a : a = .slice A l cc := by have := congrArg (fun z : Array Value => z[1]?) e1; simpa using this
  have e1b : b = .slice B m dd := by have := congrArg (fun z : Array Value => z[2]?) e1; simpa using this
  subst e1a e1b
  have HAT := Lib.hid hat; have HNQ := Lib.hid hnq
  clear e1 hat hnq hw1 HB1 HN1 HRD
  have c0 := HAT.out.cell 0 rfl; have c1 := HAT.out.cell 1 rfl; have c2 := HAT.out.cell 2 rfl
  have KX := Lib.hid (fun W (h : Below w1.heap.size w1 W) => And.intro ((HAT.out.keep h).cell 0 rfl) (And.intro ((HAT.out.keep h).cell 1 rfl) ((HAT.out.keep h).cell 2 rfl)))
  have CS := Lib.hid (fun W (h : Below w1.heap.size w1 W) => textB h (exSign_any W _ q (HNQ.out.keep h)))
  have CW := Lib.hid (fun W (h : Below w1.heap.size w1 W) => textB h (exIsWhole_any W _ q (HNQ.out.keep h)))
  have CN := Lib.hid (fun W (h : Below w1.heap.size w1 W) => lift2 h (exNum_any W _ q (HNQ.out.keep h)))
  rw [decide_eq_true Hhde.out] at CW
  have CD := Lib.hid (fun W v (h : NatIn W v (Big.nu q)) (hb : Below w1.heap.size w1 W) => textB hb (word_none W v _ h Hhw.out))
  have hbr := Below.refl w1.heap.size w1
  go_wp2_with (first
    | (go_at_call 55; refine (CW.out _ (by assumption)).mono ?_; rintro e w2 ⟨rfl, hw2⟩; have c0 := (KX.out _ hw2).1; have c1 := (KX.out _ hw2).2.1; have c2 := (KX.out _ hw2).2.2)
    | (go_at_call 52; refine (CN.out _ (by assumption)).mono ?_; rintro e w3 ⟨v3, rfl, hv3, hw3, -⟩; have c0 := (KX.out _ hw3).1; have c1 := (KX.out _ hw3).2.1; have c2 := (KX.out _ hw3).2.2)
    | (go_at_call 63; refine (CD.out _ _ hv3 (by assumption)).mono ?_; rintro e w4 ⟨rfl, hw4⟩; have c0 := (KX.out _ hw4).1; have c1 := (KX.out _ hw4).2.1; have c2 := (KX.out _ hw4).2.2)
    | (go_at_call 54; refine (CS.out _ (by assumption)).mono ?_; rintro e w5 ⟨rfl, hw5⟩; have c0 := (KX.out _ hw5).1; have c1 := (KX.out _ hw5).2.1; have c2 := (KX.out _ hw5).2.2)
    | fail)
  go_ret2
  refine ⟨by rfl, ?_⟩
  first
    | exact HB2.out.trans (hw5.mono HB2.out.size)
    | exact HB2.out.trans (hw4.mono HB2.out.size)
    | exact HB2.out.trans (hw3.mono HB2.out.size)
    | exact HB2.out.trans (hw2.mono HB2.out.size)
set_option maxRecDepth 100000 in
set_option maxHeartbeats 2000000 in
theorem int64_neg (w : World) (q : Rat) (hq : Fit q) (hde : Big.de q = 1) (hw : Big.nu q < Big.M64) (hm : (Big.nu q : Int) ≤ 9223372036854775807) (hng : Big.ng q = true) :
    Calls Tryz.prog 17 #[.agg #[.bool (Big.ng q), .string (bst (Big.nu q)), .string (bst (Big.de q))]] w (Int2 w (-(Big.nu q : Int), true)) := by
  have HS := Lib.hid hq.sm
  have Hhde := Lib.hid hde
  clear hde
  have Hhw := Lib.hid hw
  clear hw
  have Hhng := Lib.hid hng
  clear hng
  have HRD := Lib.hid (fun W g (h : AtL W g 23 #[.bool (Big.ng q), .string (bst (Big.nu q)), .string (bst (Big.de q))]) => read1_any W g q h hq)
  have HB1 := Lib.hid (below_alloc (box1_below w (.cells #[.bool (Big.ng q), .string (bst (Big.nu q)), .string (bst (Big.de q))] 23)) (Nat.le_refl _) (.cells #[.bool (Big.ng q), .string (bst (Big.nu q)), .string (bst (Big.de q))] 23))
  have HN1 := AtL.new (w.alloc (.cells #[.bool (Big.ng q), .string (bst (Big.nu q)), .string (bst (Big.de q))] 23)) 23 #[.bool (Big.ng q), .string (bst (Big.nu q)), .string (bst (Big.de q))]
  rw [alloc_size] at HN1
  have HN1 := Lib.hid HN1
  clear hq
  go_enter Tryz.func17, Tryz.ntmps17
  go_wp2_with fail
  refine (HRD.out _ _ HN1.out).mono ?_
  generalize (w.alloc (.cells #[.bool (Big.ng q), .string (bst (Big.nu q)), .string (bst (Big.de q))] 23)).alloc (.cells #[.bool (Big.ng q), .string (bst (Big.nu q)), .string (bst (Big.de q))] 23) = wa at *
  rintro e w1 ⟨v1, rfl, ⟨g, a, b, rfl, hat, hnq⟩, hw1⟩
  have HB2 := Lib.hid (HB1.out.trans (hw1.mono HB1.out.size))
  obtain ⟨A, l, cc, B, m, dd, e1, -, -⟩ := hnq.is_agg
  simp only [Value.agg.injEq] at e1
  have e1a : a = .slice A l cc := by have := congrArg (fun z : Array Value => z[1]?) e1; simpa using this
  have e1b : b = .slice B m dd := by have := congrArg (fun z : Array Value => z[2]?) e1; simpa using this
  subst e1a e1b
  have HAT := Lib.hid hat; have HNQ := Lib.hid hnq
  clear e1 hat hnq hw1 HB1 HN1 HRD
  have c0 := HAT.out.cell 0 rfl; have c1 := HAT.out.cell 1 rfl; have c2 := HAT.out.cell 2 rfl
  have KX := Lib.hid (fun W (h : Below w1.heap.size w1 W) => And.intro ((HAT.out.keep h).cell 0 rfl) (And.intro ((HAT.out.keep h).cell 1 rfl) ((HAT.out.keep h).cell 2 rfl)))
  have CS := Lib.hid (fun W (h : Below w1.heap.size w1 W) => textB h (exSign_any W _ q (HNQ.out.keep h)))
  have CW := Lib.hid (fun W (h : Below w1.heap.size w1 W) => textB h (exIsWhole_any W _ q (HNQ.out.keep h)))
  have CN := Lib.hid (fun W (h : Below w1.heap.size w1 W) => lift2 h (exNum_any W _ q (HNQ.out.keep h)))
  rw [decide_eq_true Hhde.out] at CW
  have CD := Lib.hid (fun W v (h : NatIn W v (Big.nu q)) (hb : Below w1.heap.size w1 W) => textB hb (word_num W v _ h Hhw.out))
  have sgv : sgQ q = -1 := by unfold sgQ; rw [if_pos Hhng.out]
  rw [sgv] at CS
  clear sgv
  have hbr := Below.refl w1.heap.size w1
  go_wp2_with (first
    | (go_at_call 55; refine (CW.out _ (by assumption)).mono ?_; rintro e w2 ⟨rfl, hw2⟩; have c0 := (KX.out _ hw2).1; have c1 := (KX.out _ hw2).2.1; have c2 := (KX.out _ hw2).2.2)
    | (go_at_call 52; refine (CN.out _ (by assumption)).mono ?_; rintro e w3 ⟨v3, rfl, hv3, hw3, -⟩; have c0 := (KX.out _ hw3).1; have c1 := (KX.out _ hw3).2.1; have c2 := (KX.out _ hw3).2.2)
    | (go_at_call 63; refine (CD.out _ _ hv3 (by assumption)).mono ?_; rintro e w4 ⟨rfl, hw4⟩; have c0 := (KX.out _ hw4).1; have c1 := (KX.out _ hw4).2.1; have c2 := (KX.out _ hw4).2.2)
    | (go_at_call 54; refine (CS.out _ (by assumption)).mono ?_; rintro e w5 ⟨rfl, hw5⟩; have c0 := (KX.out _ hw5).1; have c1 := (KX.out _ hw5).2.1; have c2 := (KX.out _ hw5).2.2)
    | fail)
  go_ret2
  refine ⟨by rfl, ?_⟩
  first
    | exact HB2.out.trans (hw5.mono HB2.out.size)
    | exact HB2.out.trans (hw4.mono HB2.out.size)
    | exact HB2.out.trans (hw3.mono HB2.out.size)
    | exact HB2.out.trans (hw2.mono HB2.out.size)
set_option maxRecDepth 100000 in
set_option maxHeartbeats 2000000 in
theorem int64_pos (w : World) (q : Rat) (hq : Fit q) (hde : Big.de q = 1) (hw : Big.nu q < Big.M64) (hm : (Big.nu q : Int) ≤ 9223372036854775807) (hng : ¬ Big.ng q = true) :
    Calls Tryz.prog 17 #[.agg #[.bool (Big.ng q), .string (bst (Big.nu q)), .string (bst (Big.de q))]] w (Int2 w ((Big.nu q : Int), true)) := by
  have HS := Lib.hid hq.sm
  have Hhde := Lib.hid hde
  clear hde
  have Hhw := Lib.hid hw
  clear hw
  have Hhng := Lib.hid hng
  clear hng
  have HRD := Lib.hid (fun W g (h : AtL W g 23 #[.bool (Big.ng q), .string (bst (Big.nu q)), .string (bst (Big.de q))]) => read1_any W g q h hq)
  have HB1 := Lib.hid (below_alloc (box1_below w (.cells #[.bool (Big.ng q), .string (bst (Big.nu q)), .string (bst (Big.de q))] 23)) (Nat.le_refl _) (.cells #[.bool (Big.ng q), .string (bst (Big.nu q)), .string (bst (Big.de q))] 23))
  have HN1 := AtL.new (w.alloc (.cells #[.bool (Big.ng q), .string (bst (Big.nu q)), .string (bst (Big.de q))] 23)) 23 #[.bool (Big.ng q), .string (bst (Big.nu q)), .string (bst (Big.de q))]
  rw [alloc_size] at HN1
  have HN1 := Lib.hid HN1
  clear hq
  go_enter Tryz.func17, Tryz.ntmps17
  go_wp2_with fail
  refine (HRD.out _ _ HN1.out).mono ?_
  generalize (w.alloc (.cells #[.bool (Big.ng q), .string (bst (Big.nu q)), .string (bst (Big.de q))] 23)).alloc (.cells #[.bool (Big.ng q), .string (bst (Big.nu q)), .string (bst (Big.de q))] 23) = wa at *
  rintro e w1 ⟨v1, rfl, ⟨g, a, b, rfl, hat, hnq⟩, hw1⟩
  have HB2 := Lib.hid (HB1.out.trans (hw1.mono HB1.out.size))
  obtain ⟨A, l, cc, B, m, dd, e1, -, -⟩ := hnq.is_agg
  simp only [Value.agg.injEq] at e1
  have e1a : a = .slice A l cc := by have := congrArg (fun z : Array Value => z[1]?) e1; simpa using this
  have e1b : b = .slice B m dd := by have := congrArg (fun z : Array Value => z[2]?) e1; simpa using this
  subst e1a e1b
  have HAT := Lib.hid hat; have HNQ := Lib.hid hnq
  clear e1 hat hnq hw1 HB1 HN1 HRD
  have c0 := HAT.out.cell 0 rfl; have c1 := HAT.out.cell 1 rfl; have c2 := HAT.out.cell 2 rfl
  have KX := Lib.hid (fun W (h : Below w1.heap.size w1 W) => And.intro ((HAT.out.keep h).cell 0 rfl) (And.intro ((HAT.out.keep h).cell 1 rfl) ((HAT.out.keep h).cell 2 rfl)))
  have CS := Lib.hid (fun W (h : Below w1.heap.size w1 W) => textB h (exSign_any W _ q (HNQ.out.keep h)))
  have CW := Lib.hid (fun W (h : Below w1.heap.size w1 W) => textB h (exIsWhole_any W _ q (HNQ.out.keep h)))
  have CN := Lib.hid (fun W (h : Below w1.heap.size w1 W) => lift2 h (exNum_any W _ q (HNQ.out.keep h)))
  rw [decide_eq_true Hhde.out] at CW
  have CD := Lib.hid (fun W v (h : NatIn W v (Big.nu q)) (hb : Below w1.heap.size w1 W) => textB hb (word_num W v _ h Hhw.out))
  have sgv : ¬ sgQ q < 0 := by unfold sgQ; rw [if_neg Hhng.out]; split <;> omega
  generalize sgQ q = sg at *
  have hbr := Below.refl w1.heap.size w1
  go_wp2_with (first
    | (go_at_call 55; refine (CW.out _ (by assumption)).mono ?_; rintro e w2 ⟨rfl, hw2⟩; have c0 := (KX.out _ hw2).1; have c1 := (KX.out _ hw2).2.1; have c2 := (KX.out _ hw2).2.2)
    | (go_at_call 52; refine (CN.out _ (by assumption)).mono ?_; rintro e w3 ⟨v3, rfl, hv3, hw3, -⟩; have c0 := (KX.out _ hw3).1; have c1 := (KX.out _ hw3).2.1; have c2 := (KX.out _ hw3).2.2)
    | (go_at_call 63; refine (CD.out _ _ hv3 (by assumption)).mono ?_; rintro e w4 ⟨rfl, hw4⟩; have c0 := (KX.out _ hw4).1; have c1 := (KX.out _ hw4).2.1; have c2 := (KX.out _ hw4).2.2)
    | (go_at_call 54; refine (CS.out _ (by assumption)).mono ?_; rintro e w5 ⟨rfl, hw5⟩; have c0 := (KX.out _ hw5).1; have c1 := (KX.out _ hw5).2.1; have c2 := (KX.out _ hw5).2.2)
    | fail)
  go_ret2
  refine ⟨by rfl, ?_⟩
  first
    | exact HB2.out.trans (hw5.mono HB2.out.size)
    | exact HB2.out.trans (hw4.mono HB2.out.size)
    | exact HB2.out.trans (hw3.mono HB2.out.size)
    | exact HB2.out.trans (hw2.mono HB2.out.size)
set_option maxRecDepth 100000 in
set_option maxHeartbeats 2000000 in
theorem int64_least (w : World) (q : Rat) (hq : Fit q) (hde : Big.de q = 1) (hw : Big.nu q < Big.M64) (hm : ¬ (Big.nu q : Int) ≤ 9223372036854775807) (he : ((Big.nu q : Int) == 9223372036854775808) = true) (hng : Big.ng q = true) :
    Calls Tryz.prog 17 #[.agg #[.bool (Big.ng q), .string (bst (Big.nu q)), .string (bst (Big.de q))]] w (Int2 w (-9223372036854775808, true)) := by
  have HS := Lib.hid hq.sm
  have Hhde := Lib.hid hde
  clear hde
  have Hhw := Lib.hid hw
  clear hw
  have Hhng := Lib.hid hng
  clear hng
  have Hhe := Lib.hid he
  clear he
  have HRD := Lib.hid (fun W g (h : AtL W g 23 #[.bool (Big.ng q), .string (bst (Big.nu q)), .string (bst (Big.de q))]) => read1_any W g q h hq)
  have HB1 := Lib.hid (below_alloc (box1_below w (.cells #[.bool (Big.ng q), .string (bst (Big.nu q)), .string (bst (Big.de q))] 23)) (Nat.le_refl _) (.cells #[.bool (Big.ng q), .string (bst (Big.nu q)), .string (bst (Big.de q))] 23))
  have HN1 := AtL.new (w.alloc (.cells #[.bool (Big.ng q), .string (bst (Big.nu q)), .string (bst (Big.de q))] 23)) 23 #[.bool (Big.ng q), .string (bst (Big.nu q)), .string (bst (Big.de q))]
  rw [alloc_size] at HN1
  have HN1 := Lib.hid HN1
  clear hq
  go_enter Tryz.func17, Tryz.ntmps17
  go_wp2_with fail
  refine (HRD.out _ _ HN1.out).mono ?_
  generalize (w.alloc (.cells #[.bool (Big.ng q), .string (bst (Big.nu q)), .string (bst (Big.de q))] 23)).alloc (.cells #[.bool (Big.ng q), .string (bst (Big.nu q)), .string (bst (Big.de q))] 23) = wa at *
  rintro e w1 ⟨v1, rfl, ⟨g, a, b, rfl, hat, hnq⟩, hw1⟩
  have HB2 := Lib.hid (HB1.out.trans (hw1.mono HB1.out.size))
  obtain ⟨A, l, cc, B, m, dd, e1, -, -⟩ := hnq.is_agg
  simp only [Value.agg.injEq] at e1
  have e1a : a = .slice A l cc := by have := congrArg (fun z : Array Value => z[1]?) e1; simpa using this
  have e1b : b = .slice B m dd := by have := congrArg (fun z : Array Value => z[2]?) e1; simpa using this
  subst e1a e1b
  have HAT := Lib.hid hat; have HNQ := Lib.hid hnq
  clear e1 hat hnq hw1 HB1 HN1 HRD
  have c0 := HAT.out.cell 0 rfl; have c1 := HAT.out.cell 1 rfl; have c2 := HAT.out.cell 2 rfl
  have KX := Lib.hid (fun W (h : Below w1.heap.size w1 W) => And.intro ((HAT.out.keep h).cell 0 rfl) (And.intro ((HAT.out.keep h).cell 1 rfl) ((HAT.out.keep h).cell 2 rfl)))
  have CS := Lib.hid (fun W (h : Below w1.heap.size w1 W) => textB h (exSign_any W _ q (HNQ.out.keep h)))
  have CW := Lib.hid (fun W (h : Below w1.heap.size w1 W) => textB h (exIsWhole_any W _ q (HNQ.out.keep h)))
  have CN := Lib.hid (fun W (h : Below w1.heap.size w1 W) => lift2 h (exNum_any W _ q (HNQ.out.keep h)))
  rw [decide_eq_true Hhde.out] at CW
  have CD := Lib.hid (fun W v (h : NatIn W v (Big.nu q)) (hb : Below w1.heap.size w1 W) => textB hb (word_num W v _ h Hhw.out))
  have sgv : sgQ q = -1 := by unfold sgQ; rw [if_pos Hhng.out]
  rw [sgv] at CS
  clear sgv
  have he := Hhe.out
  have hbr := Below.refl w1.heap.size w1
  go_wp2_with (first
    | (go_at_call 55; refine (CW.out _ (by assumption)).mono ?_; rintro e w2 ⟨rfl, hw2⟩; have c0 := (KX.out _ hw2).1; have c1 := (KX.out _ hw2).2.1; have c2 := (KX.out _ hw2).2.2)
    | (go_at_call 52; refine (CN.out _ (by assumption)).mono ?_; rintro e w3 ⟨v3, rfl, hv3, hw3, -⟩; have c0 := (KX.out _ hw3).1; have c1 := (KX.out _ hw3).2.1; have c2 := (KX.out _ hw3).2.2)
    | (go_at_call 63; refine (CD.out _ _ hv3 (by assumption)).mono ?_; rintro e w4 ⟨rfl, hw4⟩; have c0 := (KX.out _ hw4).1; have c1 := (KX.out _ hw4).2.1; have c2 := (KX.out _ hw4).2.2)
    | (go_at_call 54; refine (CS.out _ (by assumption)).mono ?_; rintro e w5 ⟨rfl, hw5⟩; have c0 := (KX.out _ hw5).1; have c1 := (KX.out _ hw5).2.1; have c2 := (KX.out _ hw5).2.2)
    | fail)
  go_ret2
  refine ⟨by rfl, ?_⟩
  first
    | exact HB2.out.trans (hw5.mono HB2.out.size)
    | exact HB2.out.trans (hw4.mono HB2.out.size)
    | exact HB2.out.trans (hw3.mono HB2.out.size)
    | exact HB2.out.trans (hw2.mono HB2.out.size)
set_option maxRecDepth 100000 in
set_option maxHeartbeats 2000000 in
theorem int64_over (w : World) (q : Rat) (hq : Fit q) (hde : Big.de q = 1) (hw : Big.nu q < Big.M64) (hm : ¬ (Big.nu q : Int) ≤ 9223372036854775807) (he : ((Big.nu q : Int) == 9223372036854775808) = true) (hng : ¬ Big.ng q = true) :
    Calls Tryz.prog 17 #[.agg #[.bool (Big.ng q), .string (bst (Big.nu q)), .string (bst (Big.de q))]] w (Int2 w (0, false)) := by
  have HS := Lib.hid hq.sm
  have Hhde := Lib.hid hde
  clear hde
  have Hhw := Lib.hid hw
  clear hw
  have Hhng := Lib.hid hng
  clear hng
  have Hhe := Lib.hid he
  clear he
  have HRD := Lib.hid (fun W g (h : AtL W g 23 #[.bool (Big.ng q), .string (bst (Big.nu q)), .string (bst (Big.de q))]) => read1_any W g q h hq)
  have HB1 := Lib.hid (below_alloc (box1_below w (.cells #[.bool (Big.ng q), .string (bst (Big.nu q)), .string (bst (Big.de q))] 23)) (Nat.le_refl _) (.cells #[.bool (Big.ng q), .string (bst (Big.nu q)), .string (bst (Big.de q))] 23))
  have HN1 := AtL.new (w.alloc (.cells #[.bool (Big.ng q), .string (bst (Big.nu q)), .string (bst (Big.de q))] 23)) 23 #[.bool (Big.ng q), .string (bst (Big.nu q)), .string (bst (Big.de q))]
  rw [alloc_size] at HN1
  have HN1 := Lib.hid HN1
  clear hq
  go_enter Tryz.func17, Tryz.ntmps17
  go_wp2_with fail
  refine (HRD.out _ _ HN1.out).mono ?_
  generalize (w.alloc (.cells #[.bool (Big.ng q), .string (bst (Big.nu q)), .string (bst (Big.de q))] 23)).alloc (.cells #[.bool (Big.ng q), .string (bst (Big.nu q)), .string (bst (Big.de q))] 23) = wa at *
  rintro e w1 ⟨v1, rfl, ⟨g, a, b, rfl, hat, hnq⟩, hw1⟩
  have HB2 := Lib.hid (HB1.out.trans (hw1.mono HB1.out.size))
  obtain ⟨A, l, cc, B, m, dd, e1, -, -⟩ := hnq.is_agg
  simp only [Value.agg.injEq] at e1
  have e1a : a = .slice A l cc := by have := congrArg (fun z : Array Value => z[1]?) e1; simpa using this
  have e1b : b = .slice B m dd := by have := congrArg (fun z : Array Value => z[2]?) e1; simpa using this
  subst e1a e1b
  have HAT := Lib.hid hat; have HNQ := Lib.hid hnq
  clear e1 hat hnq hw1 HB1 HN1 HRD
  have c0 := HAT.out.cell 0 rfl; have c1 := HAT.out.cell 1 rfl; have c2 := HAT.out.cell 2 rfl
  have KX := Lib.hid (fun W (h : Below w1.heap.size w1 W) => And.intro ((HAT.out.keep h).cell 0 rfl) (And.intro ((HAT.out.keep h).cell 1 rfl) ((HAT.out.keep h).cell 2 rfl)))
  have CS := Lib.hid (fun W (h : Below w1.heap.size w1 W) => textB h (exSign_any W _ q (HNQ.out.keep h)))
  have CW := Lib.hid (fun W (h : Below w1.heap.size w1 W) => textB h (exIsWhole_any W _ q (HNQ.out.keep h)))
  have CN := Lib.hid (fun W (h : Below w1.heap.size w1 W) => lift2 h (exNum_any W _ q (HNQ.out.keep h)))
  rw [decide_eq_true Hhde.out] at CW
  have CD := Lib.hid (fun W v (h : NatIn W v (Big.nu q)) (hb : Below w1.heap.size w1 W) => textB hb (word_num W v _ h Hhw.out))
  have sgv : ¬ sgQ q < 0 := by unfold sgQ; rw [if_neg Hhng.out]; split <;> omega
  generalize sgQ q = sg at *
  have he := Hhe.out
  have hbr := Below.refl w1.heap.size w1
  go_wp2_with (first
    | (go_at_call 55; refine (CW.out _ (by assumption)).mono ?_; rintro e w2 ⟨rfl, hw2⟩; have c0 := (KX.out _ hw2).1; have c1 := (KX.out _ hw2).2.1; have c2 := (KX.out _ hw2).2.2)
    | (go_at_call 52; refine (CN.out _ (by assumption)).mono ?_; rintro e w3 ⟨v3, rfl, hv3, hw3, -⟩; have c0 := (KX.out _ hw3).1; have c1 := (KX.out _ hw3).2.1; have c2 := (KX.out _ hw3).2.2)
    | (go_at_call 63; refine (CD.out _ _ hv3 (by assumption)).mono ?_; rintro e w4 ⟨rfl, hw4⟩; have c0 := (KX.out _ hw4).1; have c1 := (KX.out _ hw4).2.1; have c2 := (KX.out _ hw4).2.2)
    | (go_at_call 54; refine (CS.out _ (by assumption)).mono ?_; rintro e w5 ⟨rfl, hw5⟩; have c0 := (KX.out _ hw5).1; have c1 := (KX.out _ hw5).2.1; have c2 := (KX.out _ hw5).2.2)
    | fail)
  go_ret2
  refine ⟨by rfl, ?_⟩
  first
    | exact HB2.out.trans (hw5.mono HB2.out.size)
    | exact HB2.out.trans (hw4.mono HB2.out.size)
    | exact HB2.out.trans (hw3.mono HB2.out.size)
    | exact HB2.out.trans (hw2.mono HB2.out.size)
end Go.Proofs.YthjofdfnppadnaaGreatDoor
