/- Contracts, in this order: ref02.Text: the text of a number of the reference. -/
import Derived.Test.YtepnghhgmjobjaaGreatDoorGt25
import Derived.Test.YtepnghhgmjobjaaGreatDoorGt24
namespace Go.Proofs.YtepnghhgmjobjaaGreatDoor
open Go Go.RowKit
namespace Ev
namespace Gp
set_option maxRecDepth 100000
set_option maxHeartbeats 4000000 in
theorem rt_zerozz (w : World) (u v : Nat) (a b : List UInt8) (la : a.length ≤ 100000000) (lb : b.length ≤ 100000000) 
    (s1 : ∀ W, Below w.heap.size w W → Calls Tryz.prog 60 #[.pointer (some ⟨u, 0, none⟩)] W fun e w' => e = .returned (.int .i64 (0)) ∧ Below W.heap.size W w')
    (s2 : ∀ W, Below w.heap.size w W → Calls Tryz.prog 60 #[.pointer (some ⟨v, 0, none⟩)] W fun e w' => e = .returned (.int .i64 (0)) ∧ Below W.heap.size W w')
    (c1 : ∀ W, Below w.heap.size w W → Calls Tryz.prog 61 #[.pointer (some ⟨u, 0, none⟩)] W fun e w' => e = .returned (.string ⟨a.toArray⟩) ∧ Below W.heap.size W w')
    (c2 : ∀ W, Below w.heap.size w W → Calls Tryz.prog 61 #[.pointer (some ⟨v, 0, none⟩)] W fun e w' => e = .returned (.string ⟨(b : List UInt8).toArray⟩) ∧ Below W.heap.size W w')
    (ha : (a == [48]) = true) (hb : ((b : List UInt8) == [48]) = true) (hn : (((b : List UInt8).headD 0).toNat == 45) = false) :
    Calls Tryz.prog 23 #[.agg #[.pointer (some ⟨u, 0, none⟩), .pointer (some ⟨v, 0, none⟩)]] w fun e w' => e = .returned (sOf (joinB a b)) ∧ Below w.heap.size w w' := by
  have S1 := Lib.hid s1; have S2 := Lib.hid s2; have C1 := Lib.hid c1; have C2 := Lib.hid c2
  have HJ := Lib.hid (show joinB a b = if (b : List UInt8) == [48] then a else if a == [48] then secB b else if ((b : List UInt8).headD 0).toNat == 45 then a ++ secB b else (a ++ [43]) ++ secB b from rfl)
  have HF := Lib.hid (And.intro ha (And.intro hb hn))
  have HB0 := Lib.hid (box1_below w (.cells #[.pointer (some ⟨u, 0, none⟩), .pointer (some ⟨v, 0, none⟩)] 50))
  have HN0 := Lib.hid (AtL.new w 50 #[.pointer (some ⟨u, 0, none⟩), .pointer (some ⟨v, 0, none⟩)])
  clear s1 s2 c1 c2 ha hb hn
  have k0 := True.intro; have k1 := True.intro
  go_enter Tryz.func23, Tryz.ntmps23
  go_wp2_with fail
  generalize w.alloc (.cells #[.pointer (some ⟨u, 0, none⟩), .pointer (some ⟨v, 0, none⟩)] 50) = w0 at *
  refine (S2.out _ HB0.out).mono ?_
  rintro e w1 ⟨rfl, hw⟩
  have HB1 := Lib.hid (HB0.out.trans (hw.mono HB0.out.size))
  have HN1 := Lib.hid (HN0.out.keep hw)
  clear hw HN0 HB0 k0 k1
  have k0 := HN1.out.cell 0 rfl; have k1 := HN1.out.cell 1 rfl
  go_wp2_with fail
  refine (C1.out _ HB1.out).mono ?_
  rintro e w2 ⟨rfl, hw⟩
  have HB2 := Lib.hid (HB1.out.trans (hw.mono HB1.out.size))
  have HN2 := Lib.hid (HN1.out.keep hw)
  clear hw HN1 HB1 k0 k1
  have k0 := HN2.out.cell 0 rfl; have k1 := HN2.out.cell 1 rfl
  go_wp2_with fail
  go_ret
  refine ⟨?_, HB2.out⟩
  obtain ⟨ha, hb, hn⟩ := HF.out
  refine congrArg Ending.returned (congrArg sOf (?_ : _ = joinB a b))
  rw [HJ.out]
  skip
  simp only [ha, hb, hn, if_true, if_false, Bool.false_eq_true]
  try simp only [List.append_assoc, List.cons_append, List.nil_append]
  try (first | rfl | exact congrArg (a ++ ·) (show _ = [45, 105] from rfl) | decide)
set_option maxHeartbeats 4000000 in
theorem rt_zerozp (w : World) (u v : Nat) (a b : List UInt8) (la : a.length ≤ 100000000) (lb : b.length ≤ 100000000) 
    (s1 : ∀ W, Below w.heap.size w W → Calls Tryz.prog 60 #[.pointer (some ⟨u, 0, none⟩)] W fun e w' => e = .returned (.int .i64 (1)) ∧ Below W.heap.size W w')
    (s2 : ∀ W, Below w.heap.size w W → Calls Tryz.prog 60 #[.pointer (some ⟨v, 0, none⟩)] W fun e w' => e = .returned (.int .i64 (0)) ∧ Below W.heap.size W w')
    (c1 : ∀ W, Below w.heap.size w W → Calls Tryz.prog 61 #[.pointer (some ⟨u, 0, none⟩)] W fun e w' => e = .returned (.string ⟨a.toArray⟩) ∧ Below W.heap.size W w')
    (c2 : ∀ W, Below w.heap.size w W → Calls Tryz.prog 61 #[.pointer (some ⟨v, 0, none⟩)] W fun e w' => e = .returned (.string ⟨(b : List UInt8).toArray⟩) ∧ Below W.heap.size W w')
    (ha : (a == [48]) = false) (hb : ((b : List UInt8) == [48]) = true) (hn : (((b : List UInt8).headD 0).toNat == 45) = false) :
    Calls Tryz.prog 23 #[.agg #[.pointer (some ⟨u, 0, none⟩), .pointer (some ⟨v, 0, none⟩)]] w fun e w' => e = .returned (sOf (joinB a b)) ∧ Below w.heap.size w w' := by
  have S1 := Lib.hid s1; have S2 := Lib.hid s2; have C1 := Lib.hid c1; have C2 := Lib.hid c2
  have HJ := Lib.hid (show joinB a b = if (b : List UInt8) == [48] then a else if a == [48] then secB b else if ((b : List UInt8).headD 0).toNat == 45 then a ++ secB b else (a ++ [43]) ++ secB b from rfl)
  have HF := Lib.hid (And.intro ha (And.intro hb hn))
  have HB0 := Lib.hid (box1_below w (.cells #[.pointer (some ⟨u, 0, none⟩), .pointer (some ⟨v, 0, none⟩)] 50))
  have HN0 := Lib.hid (AtL.new w 50 #[.pointer (some ⟨u, 0, none⟩), .pointer (some ⟨v, 0, none⟩)])
  clear s1 s2 c1 c2 ha hb hn
  have k0 := True.intro; have k1 := True.intro
  go_enter Tryz.func23, Tryz.ntmps23
  go_wp2_with fail
  generalize w.alloc (.cells #[.pointer (some ⟨u, 0, none⟩), .pointer (some ⟨v, 0, none⟩)] 50) = w0 at *
  refine (S2.out _ HB0.out).mono ?_
  rintro e w1 ⟨rfl, hw⟩
  have HB1 := Lib.hid (HB0.out.trans (hw.mono HB0.out.size))
  have HN1 := Lib.hid (HN0.out.keep hw)
  clear hw HN0 HB0 k0 k1
  have k0 := HN1.out.cell 0 rfl; have k1 := HN1.out.cell 1 rfl
  go_wp2_with fail
  refine (C1.out _ HB1.out).mono ?_
  rintro e w2 ⟨rfl, hw⟩
  have HB2 := Lib.hid (HB1.out.trans (hw.mono HB1.out.size))
  have HN2 := Lib.hid (HN1.out.keep hw)
  clear hw HN1 HB1 k0 k1
  have k0 := HN2.out.cell 0 rfl; have k1 := HN2.out.cell 1 rfl
  go_wp2_with fail
  go_ret
  refine ⟨?_, HB2.out⟩
  obtain ⟨ha, hb, hn⟩ := HF.out
  refine congrArg Ending.returned (congrArg sOf (?_ : _ = joinB a b))
  rw [HJ.out]
  skip
  simp only [ha, hb, hn, if_true, if_false, Bool.false_eq_true]
  try simp only [List.append_assoc, List.cons_append, List.nil_append]
  try (first | rfl | exact congrArg (a ++ ·) (show _ = [45, 105] from rfl) | decide)
set_option maxHeartbeats 4000000 in
theorem rt_zerozn (w : World) (u v : Nat) (a b : List UInt8) (la : a.length ≤ 100000000) (lb : b.length ≤ 100000000) 
    (s1 : ∀ W, Below w.heap.size w W → Calls Tryz.prog 60 #[.pointer (some ⟨u, 0, none⟩)] W fun e w' => e = .returned (.int .i64 (-1)) ∧ Below W.heap.size W w')
    (s2 : ∀ W, Below w.heap.size w W → Calls Tryz.prog 60 #[.pointer (some ⟨v, 0, none⟩)] W fun e w' => e = .returned (.int .i64 (0)) ∧ Below W.heap.size W w')
    (c1 : ∀ W, Below w.heap.size w W → Calls Tryz.prog 61 #[.pointer (some ⟨u, 0, none⟩)] W fun e w' => e = .returned (.string ⟨a.toArray⟩) ∧ Below W.heap.size W w')
    (c2 : ∀ W, Below w.heap.size w W → Calls Tryz.prog 61 #[.pointer (some ⟨v, 0, none⟩)] W fun e w' => e = .returned (.string ⟨(b : List UInt8).toArray⟩) ∧ Below W.heap.size W w')
    (ha : (a == [48]) = false) (hb : ((b : List UInt8) == [48]) = true) (hn : (((b : List UInt8).headD 0).toNat == 45) = false) :
    Calls Tryz.prog 23 #[.agg #[.pointer (some ⟨u, 0, none⟩), .pointer (some ⟨v, 0, none⟩)]] w fun e w' => e = .returned (sOf (joinB a b)) ∧ Below w.heap.size w w' := by
  have S1 := Lib.hid s1; have S2 := Lib.hid s2; have C1 := Lib.hid c1; have C2 := Lib.hid c2
  have HJ := Lib.hid (show joinB a b = if (b : List UInt8) == [48] then a else if a == [48] then secB b else if ((b : List UInt8).headD 0).toNat == 45 then a ++ secB b else (a ++ [43]) ++ secB b from rfl)
  have HF := Lib.hid (And.intro ha (And.intro hb hn))
  have HB0 := Lib.hid (box1_below w (.cells #[.pointer (some ⟨u, 0, none⟩), .pointer (some ⟨v, 0, none⟩)] 50))
  have HN0 := Lib.hid (AtL.new w 50 #[.pointer (some ⟨u, 0, none⟩), .pointer (some ⟨v, 0, none⟩)])
  clear s1 s2 c1 c2 ha hb hn
  have k0 := True.intro; have k1 := True.intro
  go_enter Tryz.func23, Tryz.ntmps23
  go_wp2_with fail
  generalize w.alloc (.cells #[.pointer (some ⟨u, 0, none⟩), .pointer (some ⟨v, 0, none⟩)] 50) = w0 at *
  refine (S2.out _ HB0.out).mono ?_
  rintro e w1 ⟨rfl, hw⟩
  have HB1 := Lib.hid (HB0.out.trans (hw.mono HB0.out.size))
  have HN1 := Lib.hid (HN0.out.keep hw)
  clear hw HN0 HB0 k0 k1
  have k0 := HN1.out.cell 0 rfl; have k1 := HN1.out.cell 1 rfl
  go_wp2_with fail
  refine (C1.out _ HB1.out).mono ?_
  rintro e w2 ⟨rfl, hw⟩
  have HB2 := Lib.hid (HB1.out.trans (hw.mono HB1.out.size))
  have HN2 := Lib.hid (HN1.out.keep hw)
  clear hw HN1 HB1 k0 k1
  have k0 := HN2.out.cell 0 rfl; have k1 := HN2.out.cell 1 rfl
  go_wp2_with fail
  go_ret
  refine ⟨?_, HB2.out⟩
  obtain ⟨ha, hb, hn⟩ := HF.out
  refine congrArg Ending.returned (congrArg sOf (?_ : _ = joinB a b))
  rw [HJ.out]
  skip
  simp only [ha, hb, hn, if_true, if_false, Bool.false_eq_true]
  try simp only [List.append_assoc, List.cons_append, List.nil_append]
  try (first | rfl | exact congrArg (a ++ ·) (show _ = [45, 105] from rfl) | decide)
set_option maxHeartbeats 4000000 in
theorem rt_onepz (w : World) (u v : Nat) (a : List UInt8) (la : a.length ≤ 100000000) 
    (s1 : ∀ W, Below w.heap.size w W → Calls Tryz.prog 60 #[.pointer (some ⟨u, 0, none⟩)] W fun e w' => e = .returned (.int .i64 (0)) ∧ Below W.heap.size W w')
    (s2 : ∀ W, Below w.heap.size w W → Calls Tryz.prog 60 #[.pointer (some ⟨v, 0, none⟩)] W fun e w' => e = .returned (.int .i64 (1)) ∧ Below W.heap.size W w')
    (c1 : ∀ W, Below w.heap.size w W → Calls Tryz.prog 61 #[.pointer (some ⟨u, 0, none⟩)] W fun e w' => e = .returned (.string ⟨a.toArray⟩) ∧ Below W.heap.size W w')
    (c2 : ∀ W, Below w.heap.size w W → Calls Tryz.prog 61 #[.pointer (some ⟨v, 0, none⟩)] W fun e w' => e = .returned (.string ⟨([49] : List UInt8).toArray⟩) ∧ Below W.heap.size W w')
    (ha : (a == [48]) = true) (hb : (([49] : List UInt8) == [48]) = false) (hn : ((([49] : List UInt8).headD 0).toNat == 45) = false) :
    Calls Tryz.prog 23 #[.agg #[.pointer (some ⟨u, 0, none⟩), .pointer (some ⟨v, 0, none⟩)]] w fun e w' => e = .returned (sOf (joinB a [49])) ∧ Below w.heap.size w w' := by
  have S1 := Lib.hid s1; have S2 := Lib.hid s2; have C1 := Lib.hid c1; have C2 := Lib.hid c2
  have HJ := Lib.hid (show joinB a [49] = if ([49] : List UInt8) == [48] then a else if a == [48] then secB [49] else if (([49] : List UInt8).headD 0).toNat == 45 then a ++ secB [49] else (a ++ [43]) ++ secB [49] from rfl)
  have HS := Lib.hid (show secB [49] = [105] from rfl)
  have f1 : ∀ W, (Op.stringOp .add ⟨#[49]⟩ ⟨#[105]⟩).run Tryz.prog W = .ok (.string ⟨#[49, 105]⟩) W := fun W => addS [49] [105] (by simp) (by simp) W
  have f2 : ∀ W, (Op.stringOp .add ⟨#[45]⟩ ⟨#[105]⟩).run Tryz.prog W = .ok (.string ⟨#[45, 105]⟩) W := fun W => addS [45] [105] (by simp) (by simp) W
  have f3 : ∀ W, (Op.stringOp .add ⟨#[43]⟩ ⟨#[105]⟩).run Tryz.prog W = .ok (.string ⟨#[43, 105]⟩) W := fun W => addS [43] [105] (by simp) (by simp) W
  have e1 : ∀ W, (Op.stringOp .add ⟨a.toArray⟩ ⟨#[105]⟩).run Tryz.prog W = .ok (.string ⟨(a ++ [105]).toArray⟩) W := fun W => addS a [105] (by omega) (by simp) W
  have e2 : ∀ W, (Op.stringOp .add ⟨a.toArray⟩ ⟨#[43, 105]⟩).run Tryz.prog W = .ok (.string ⟨(a ++ [43, 105]).toArray⟩) W := fun W => addS a [43, 105] (by omega) (by simp) W
  have HF := Lib.hid (And.intro ha (And.intro hb hn))
  have HB0 := Lib.hid (box1_below w (.cells #[.pointer (some ⟨u, 0, none⟩), .pointer (some ⟨v, 0, none⟩)] 50))
  have HN0 := Lib.hid (AtL.new w 50 #[.pointer (some ⟨u, 0, none⟩), .pointer (some ⟨v, 0, none⟩)])
  clear s1 s2 c1 c2 ha hb hn
  have k0 := True.intro; have k1 := True.intro
  go_enter Tryz.func23, Tryz.ntmps23
  go_wp2_with fail
  generalize w.alloc (.cells #[.pointer (some ⟨u, 0, none⟩), .pointer (some ⟨v, 0, none⟩)] 50) = w0 at *
  refine (S2.out _ HB0.out).mono ?_
  rintro e w1 ⟨rfl, hw⟩
  have HB1 := Lib.hid (HB0.out.trans (hw.mono HB0.out.size))
  have HN1 := Lib.hid (HN0.out.keep hw)
  clear hw HN0 HB0 k0 k1
  have k0 := HN1.out.cell 0 rfl; have k1 := HN1.out.cell 1 rfl
  go_wp2_with fail
  refine (C2.out _ HB1.out).mono ?_
  rintro e w2 ⟨rfl, hw⟩
  have HB2 := Lib.hid (HB1.out.trans (hw.mono HB1.out.size))
  have HN2 := Lib.hid (HN1.out.keep hw)
  clear hw HN1 HB1 k0 k1
  have k0 := HN2.out.cell 0 rfl; have k1 := HN2.out.cell 1 rfl
  go_wp2_with fail
  refine (S1.out _ HB2.out).mono ?_
  rintro e w3 ⟨rfl, hw⟩
  have HB3 := Lib.hid (HB2.out.trans (hw.mono HB2.out.size))
  have HN3 := Lib.hid (HN2.out.keep hw)
  clear hw HN2 HB2 k0 k1
  have k0 := HN3.out.cell 0 rfl; have k1 := HN3.out.cell 1 rfl
  go_wp2_with fail
  go_ret
  refine ⟨?_, HB3.out⟩
  obtain ⟨ha, hb, hn⟩ := HF.out
  refine congrArg Ending.returned (congrArg sOf (?_ : _ = joinB a [49]))
  rw [HJ.out]
  rw [HS.out]
  simp only [ha, hb, hn, if_true, if_false, Bool.false_eq_true]
  try simp only [List.append_assoc, List.cons_append, List.nil_append]
  try (first | rfl | exact congrArg (a ++ ·) (show _ = [45, 105] from rfl) | decide)
set_option maxHeartbeats 4000000 in
theorem rt_onepp (w : World) (u v : Nat) (a : List UInt8) (la : a.length ≤ 100000000) 
    (s1 : ∀ W, Below w.heap.size w W → Calls Tryz.prog 60 #[.pointer (some ⟨u, 0, none⟩)] W fun e w' => e = .returned (.int .i64 (1)) ∧ Below W.heap.size W w')
    (s2 : ∀ W, Below w.heap.size w W → Calls Tryz.prog 60 #[.pointer (some ⟨v, 0, none⟩)] W fun e w' => e = .returned (.int .i64 (1)) ∧ Below W.heap.size W w')
    (c1 : ∀ W, Below w.heap.size w W → Calls Tryz.prog 61 #[.pointer (some ⟨u, 0, none⟩)] W fun e w' => e = .returned (.string ⟨a.toArray⟩) ∧ Below W.heap.size W w')
    (c2 : ∀ W, Below w.heap.size w W → Calls Tryz.prog 61 #[.pointer (some ⟨v, 0, none⟩)] W fun e w' => e = .returned (.string ⟨([49] : List UInt8).toArray⟩) ∧ Below W.heap.size W w')
    (ha : (a == [48]) = false) (hb : (([49] : List UInt8) == [48]) = false) (hn : ((([49] : List UInt8).headD 0).toNat == 45) = false) :
    Calls Tryz.prog 23 #[.agg #[.pointer (some ⟨u, 0, none⟩), .pointer (some ⟨v, 0, none⟩)]] w fun e w' => e = .returned (sOf (joinB a [49])) ∧ Below w.heap.size w w' := by
  have S1 := Lib.hid s1; have S2 := Lib.hid s2; have C1 := Lib.hid c1; have C2 := Lib.hid c2
  have HJ := Lib.hid (show joinB a [49] = if ([49] : List UInt8) == [48] then a else if a == [48] then secB [49] else if (([49] : List UInt8).headD 0).toNat == 45 then a ++ secB [49] else (a ++ [43]) ++ secB [49] from rfl)
  have HS := Lib.hid (show secB [49] = [105] from rfl)
  have f1 : ∀ W, (Op.stringOp .add ⟨#[49]⟩ ⟨#[105]⟩).run Tryz.prog W = .ok (.string ⟨#[49, 105]⟩) W := fun W => addS [49] [105] (by simp) (by simp) W
  have f2 : ∀ W, (Op.stringOp .add ⟨#[45]⟩ ⟨#[105]⟩).run Tryz.prog W = .ok (.string ⟨#[45, 105]⟩) W := fun W => addS [45] [105] (by simp) (by simp) W
  have f3 : ∀ W, (Op.stringOp .add ⟨#[43]⟩ ⟨#[105]⟩).run Tryz.prog W = .ok (.string ⟨#[43, 105]⟩) W := fun W => addS [43] [105] (by simp) (by simp) W
  have e1 : ∀ W, (Op.stringOp .add ⟨a.toArray⟩ ⟨#[105]⟩).run Tryz.prog W = .ok (.string ⟨(a ++ [105]).toArray⟩) W := fun W => addS a [105] (by omega) (by simp) W
  have e2 : ∀ W, (Op.stringOp .add ⟨a.toArray⟩ ⟨#[43, 105]⟩).run Tryz.prog W = .ok (.string ⟨(a ++ [43, 105]).toArray⟩) W := fun W => addS a [43, 105] (by omega) (by simp) W
  have HF := Lib.hid (And.intro ha (And.intro hb hn))
  have HB0 := Lib.hid (box1_below w (.cells #[.pointer (some ⟨u, 0, none⟩), .pointer (some ⟨v, 0, none⟩)] 50))
  have HN0 := Lib.hid (AtL.new w 50 #[.pointer (some ⟨u, 0, none⟩), .pointer (some ⟨v, 0, none⟩)])
  clear s1 s2 c1 c2 ha hb hn
  have k0 := True.intro; have k1 := True.intro
  go_enter Tryz.func23, Tryz.ntmps23
  go_wp2_with fail
  generalize w.alloc (.cells #[.pointer (some ⟨u, 0, none⟩), .pointer (some ⟨v, 0, none⟩)] 50) = w0 at *
  refine (S2.out _ HB0.out).mono ?_
  rintro e w1 ⟨rfl, hw⟩
  have HB1 := Lib.hid (HB0.out.trans (hw.mono HB0.out.size))
  have HN1 := Lib.hid (HN0.out.keep hw)
  clear hw HN0 HB0 k0 k1
  have k0 := HN1.out.cell 0 rfl; have k1 := HN1.out.cell 1 rfl
  go_wp2_with fail
  refine (C2.out _ HB1.out).mono ?_
  rintro e w2 ⟨rfl, hw⟩
  have HB2 := Lib.hid (HB1.out.trans (hw.mono HB1.out.size))
  have HN2 := Lib.hid (HN1.out.keep hw)
  clear hw HN1 HB1 k0 k1
  have k0 := HN2.out.cell 0 rfl; have k1 := HN2.out.cell 1 rfl
  go_wp2_with fail
  refine (S1.out _ HB2.out).mono ?_
  rintro e w3 ⟨rfl, hw⟩
  have HB3 := Lib.hid (HB2.out.trans (hw.mono HB2.out.size))
  have HN3 := Lib.hid (HN2.out.keep hw)
  clear hw HN2 HB2 k0 k1
  have k0 := HN3.out.cell 0 rfl; have k1 := HN3.out.cell 1 rfl
  go_wp2_with fail
  refine (S2.out _ HB3.out).mono ?_
  rintro e w4 ⟨rfl, hw⟩
  have HB4 := Lib.hid (HB3.out.trans (hw.mono HB3.out.size))
  have HN4 := Lib.hid (HN3.out.keep hw)
  clear hw HN3 HB3 k0 k1
  have k0 := HN4.out.cell 0 rfl; have k1 := HN4.out.cell 1 rfl
  go_wp2_with fail
  refine (C1.out _ HB4.out).mono ?_
  rintro e w5 ⟨rfl, hw⟩
  have HB5 := Lib.hid (HB4.out.trans (hw.mono HB4.out.size))
  have HN5 := Lib.hid (HN4.out.keep hw)
  clear hw HN4 HB4 k0 k1
  have k0 := HN5.out.cell 0 rfl; have k1 := HN5.out.cell 1 rfl
  go_wp2_with fail
  go_ret
  refine ⟨?_, HB5.out⟩
  obtain ⟨ha, hb, hn⟩ := HF.out
  refine congrArg Ending.returned (congrArg sOf (?_ : _ = joinB a [49]))
  rw [HJ.out]
  rw [HS.out]
  simp only [ha, hb, hn, if_true, if_false, Bool.false_eq_true]
  try simp only [List.append_assoc, List.cons_append, List.nil_append]
  try (first | rfl | exact congrArg (a ++ ·) (show _ = [45, 105] from rfl) | decide)
set_option maxHeartbeats 4000000 in
theorem rt_onepn (w : World) (u v : Nat) (a : List UInt8) (la : a.length ≤ 100000000) 
    (s1 : ∀ W, Below w.heap.size w W → Calls Tryz.prog 60 #[.pointer (some ⟨u, 0, none⟩)] W fun e w' => e = .returned (.int .i64 (-1)) ∧ Below W.heap.size W w')
    (s2 : ∀ W, Below w.heap.size w W → Calls Tryz.prog 60 #[.pointer (some ⟨v, 0, none⟩)] W fun e w' => e = .returned (.int .i64 (1)) ∧ Below W.heap.size W w')
    (c1 : ∀ W, Below w.heap.size w W → Calls Tryz.prog 61 #[.pointer (some ⟨u, 0, none⟩)] W fun e w' => e = .returned (.string ⟨a.toArray⟩) ∧ Below W.heap.size W w')
    (c2 : ∀ W, Below w.heap.size w W → Calls Tryz.prog 61 #[.pointer (some ⟨v, 0, none⟩)] W fun e w' => e = .returned (.string ⟨([49] : List UInt8).toArray⟩) ∧ Below W.heap.size W w')
    (ha : (a == [48]) = false) (hb : (([49] : List UInt8) == [48]) = false) (hn : ((([49] : List UInt8).headD 0).toNat == 45) = false) :
    Calls Tryz.prog 23 #[.agg #[.pointer (some ⟨u, 0, none⟩), .pointer (some ⟨v, 0, none⟩)]] w fun e w' => e = .returned (sOf (joinB a [49])) ∧ Below w.heap.size w w' := by
  have S1 := Lib.hid s1; have S2 := Lib.hid s2; have C1 := Lib.hid c1; have C2 := Lib.hid c2
  have HJ := Lib.hid (show joinB a [49] = if ([49] : List UInt8) == [48] then a else if a == [48] then secB [49] else if (([49] : List UInt8).headD 0).toNat == 45 then a ++ secB [49] else (a ++ [43]) ++ secB [49] from rfl)
  have HS := Lib.hid (show secB [49] = [105] from rfl)
  have f1 : ∀ W, (Op.stringOp .add ⟨#[49]⟩ ⟨#[105]⟩).run Tryz.prog W = .ok (.string ⟨#[49, 105]⟩) W := fun W => addS [49] [105] (by simp) (by simp) W
  have f2 : ∀ W, (Op.stringOp .add ⟨#[45]⟩ ⟨#[105]⟩).run Tryz.prog W = .ok (.string ⟨#[45, 105]⟩) W := fun W => addS [45] [105] (by simp) (by simp) W
  have f3 : ∀ W, (Op.stringOp .add ⟨#[43]⟩ ⟨#[105]⟩).run Tryz.prog W = .ok (.string ⟨#[43, 105]⟩) W := fun W => addS [43] [105] (by simp) (by simp) W
  have e1 : ∀ W, (Op.stringOp .add ⟨a.toArray⟩ ⟨#[105]⟩).run Tryz.prog W = .ok (.string ⟨(a ++ [105]).toArray⟩) W := fun W => addS a [105] (by omega) (by simp) W
  have e2 : ∀ W, (Op.stringOp .add ⟨a.toArray⟩ ⟨#[43, 105]⟩).run Tryz.prog W = .ok (.string ⟨(a ++ [43, 105]).toArray⟩) W := fun W => addS a [43, 105] (by omega) (by simp) W
  have HF := Lib.hid (And.intro ha (And.intro hb hn))
  have HB0 := Lib.hid (box1_below w (.cells #[.pointer (some ⟨u, 0, none⟩), .pointer (some ⟨v, 0, none⟩)] 50))
  have HN0 := Lib.hid (AtL.new w 50 #[.pointer (some ⟨u, 0, none⟩), .pointer (some ⟨v, 0, none⟩)])
  clear s1 s2 c1 c2 ha hb hn
  have k0 := True.intro; have k1 := True.intro
  go_enter Tryz.func23, Tryz.ntmps23
  go_wp2_with fail
  generalize w.alloc (.cells #[.pointer (some ⟨u, 0, none⟩), .pointer (some ⟨v, 0, none⟩)] 50) = w0 at *
  refine (S2.out _ HB0.out).mono ?_
  rintro e w1 ⟨rfl, hw⟩
  have HB1 := Lib.hid (HB0.out.trans (hw.mono HB0.out.size))
  have HN1 := Lib.hid (HN0.out.keep hw)
  clear hw HN0 HB0 k0 k1
  have k0 := HN1.out.cell 0 rfl; have k1 := HN1.out.cell 1 rfl
  go_wp2_with fail
  refine (C2.out _ HB1.out).mono ?_
  rintro e w2 ⟨rfl, hw⟩
  have HB2 := Lib.hid (HB1.out.trans (hw.mono HB1.out.size))
  have HN2 := Lib.hid (HN1.out.keep hw)
  clear hw HN1 HB1 k0 k1
  have k0 := HN2.out.cell 0 rfl; have k1 := HN2.out.cell 1 rfl
  go_wp2_with fail
  refine (S1.out _ HB2.out).mono ?_
  rintro e w3 ⟨rfl, hw⟩
  have HB3 := Lib.hid (HB2.out.trans (hw.mono HB2.out.size))
  have HN3 := Lib.hid (HN2.out.keep hw)
  clear hw HN2 HB2 k0 k1
  have k0 := HN3.out.cell 0 rfl; have k1 := HN3.out.cell 1 rfl
  go_wp2_with fail
  refine (S2.out _ HB3.out).mono ?_
  rintro e w4 ⟨rfl, hw⟩
  have HB4 := Lib.hid (HB3.out.trans (hw.mono HB3.out.size))
  have HN4 := Lib.hid (HN3.out.keep hw)
  clear hw HN3 HB3 k0 k1
  have k0 := HN4.out.cell 0 rfl; have k1 := HN4.out.cell 1 rfl
  go_wp2_with fail
  refine (C1.out _ HB4.out).mono ?_
  rintro e w5 ⟨rfl, hw⟩
  have HB5 := Lib.hid (HB4.out.trans (hw.mono HB4.out.size))
  have HN5 := Lib.hid (HN4.out.keep hw)
  clear hw HN4 HB4 k0 k1
  have k0 := HN5.out.cell 0 rfl; have k1 := HN5.out.cell 1 rfl
  go_wp2_with fail
  go_ret
  refine ⟨?_, HB5.out⟩
  obtain ⟨ha, hb, hn⟩ := HF.out
  refine congrArg Ending.returned (congrArg sOf (?_ : _ = joinB a [49]))
  rw [HJ.out]
  rw [HS.out]
  simp only [ha, hb, hn, if_true, if_false, Bool.false_eq_true]
  try simp only [List.append_assoc, List.cons_append, List.nil_append]
  try (first | rfl | exact congrArg (a ++ ·) (show _ = [45, 105] from rfl) | decide)
set_option maxHeartbeats 4000000 in
theorem rt_twonz (w : World) (u v : Nat) (a : List UInt8) (la : a.length ≤ 100000000) 
    (s1 : ∀ W, Below w.heap.size w W → Calls Tryz.prog 60 #[.pointer (some ⟨u, 0, none⟩)] W fun e w' => e = .returned (.int .i64 (0)) ∧ Below W.heap.size W w')
    (s2 : ∀ W, Below w.heap.size w W → Calls Tryz.prog 60 #[.pointer (some ⟨v, 0, none⟩)] W fun e w' => e = .returned (.int .i64 (-1)) ∧ Below W.heap.size W w')
    (c1 : ∀ W, Below w.heap.size w W → Calls Tryz.prog 61 #[.pointer (some ⟨u, 0, none⟩)] W fun e w' => e = .returned (.string ⟨a.toArray⟩) ∧ Below W.heap.size W w')
    (c2 : ∀ W, Below w.heap.size w W → Calls Tryz.prog 61 #[.pointer (some ⟨v, 0, none⟩)] W fun e w' => e = .returned (.string ⟨([45, 49] : List UInt8).toArray⟩) ∧ Below W.heap.size W w')
    (ha : (a == [48]) = true) (hb : (([45, 49] : List UInt8) == [48]) = false) (hn : ((([45, 49] : List UInt8).headD 0).toNat == 45) = true) :
    Calls Tryz.prog 23 #[.agg #[.pointer (some ⟨u, 0, none⟩), .pointer (some ⟨v, 0, none⟩)]] w fun e w' => e = .returned (sOf (joinB a [45, 49])) ∧ Below w.heap.size w w' := by
  have S1 := Lib.hid s1; have S2 := Lib.hid s2; have C1 := Lib.hid c1; have C2 := Lib.hid c2
  have HJ := Lib.hid (show joinB a [45, 49] = if ([45, 49] : List UInt8) == [48] then a else if a == [48] then secB [45, 49] else if (([45, 49] : List UInt8).headD 0).toNat == 45 then a ++ secB [45, 49] else (a ++ [43]) ++ secB [45, 49] from rfl)
  have HS := Lib.hid (show secB [45, 49] = [45, 105] from rfl)
  have f1 : ∀ W, (Op.stringOp .add ⟨#[45, 49]⟩ ⟨#[105]⟩).run Tryz.prog W = .ok (.string ⟨#[45, 49, 105]⟩) W := fun W => addS [45, 49] [105] (by simp) (by simp) W
  have f2 : ∀ W, (Op.stringOp .add ⟨#[45]⟩ ⟨#[105]⟩).run Tryz.prog W = .ok (.string ⟨#[45, 105]⟩) W := fun W => addS [45] [105] (by simp) (by simp) W
  have f3 : ∀ W, (Op.stringOp .add ⟨#[43]⟩ ⟨#[105]⟩).run Tryz.prog W = .ok (.string ⟨#[43, 105]⟩) W := fun W => addS [43] [105] (by simp) (by simp) W
  have e1 : ∀ W, (Op.stringOp .add ⟨a.toArray⟩ ⟨#[45, 105]⟩).run Tryz.prog W = .ok (.string ⟨(a ++ [45, 105]).toArray⟩) W := fun W => addS a [45, 105] (by omega) (by simp) W
  have e2 : ∀ W, (Op.stringOp .add ⟨a.toArray⟩ ⟨#[43, 105]⟩).run Tryz.prog W = .ok (.string ⟨(a ++ [43, 105]).toArray⟩) W := fun W => addS a [43, 105] (by omega) (by simp) W
  have HF := Lib.hid (And.intro ha (And.intro hb hn))
  have HB0 := Lib.hid (box1_below w (.cells #[.pointer (some ⟨u, 0, none⟩), .pointer (some ⟨v, 0, none⟩)] 50))
  have HN0 := Lib.hid (AtL.new w 50 #[.pointer (some ⟨u, 0, none⟩), .pointer (some ⟨v, 0, none⟩)])
  clear s1 s2 c1 c2 ha hb hn
  have k0 := True.intro; have k1 := True.intro
  go_enter Tryz.func23, Tryz.ntmps23
  go_wp2_with fail
  generalize w.alloc (.cells #[.pointer (some ⟨u, 0, none⟩), .pointer (some ⟨v, 0, none⟩)] 50) = w0 at *
  refine (S2.out _ HB0.out).mono ?_
  rintro e w1 ⟨rfl, hw⟩
  have HB1 := Lib.hid (HB0.out.trans (hw.mono HB0.out.size))
  have HN1 := Lib.hid (HN0.out.keep hw)
  clear hw HN0 HB0 k0 k1
  have k0 := HN1.out.cell 0 rfl; have k1 := HN1.out.cell 1 rfl
  go_wp2_with fail
  refine (C2.out _ HB1.out).mono ?_
  rintro e w2 ⟨rfl, hw⟩
  have HB2 := Lib.hid (HB1.out.trans (hw.mono HB1.out.size))
  have HN2 := Lib.hid (HN1.out.keep hw)
  clear hw HN1 HB1 k0 k1
  have k0 := HN2.out.cell 0 rfl; have k1 := HN2.out.cell 1 rfl
  go_wp2_with fail
  refine (S1.out _ HB2.out).mono ?_
  rintro e w3 ⟨rfl, hw⟩
  have HB3 := Lib.hid (HB2.out.trans (hw.mono HB2.out.size))
  have HN3 := Lib.hid (HN2.out.keep hw)
  clear hw HN2 HB2 k0 k1
  have k0 := HN3.out.cell 0 rfl; have k1 := HN3.out.cell 1 rfl
  go_wp2_with fail
  go_ret
  refine ⟨?_, HB3.out⟩
  obtain ⟨ha, hb, hn⟩ := HF.out
  refine congrArg Ending.returned (congrArg sOf (?_ : _ = joinB a [45, 49]))
  rw [HJ.out]
  rw [HS.out]
  simp only [ha, hb, hn, if_true, if_false, Bool.false_eq_true]
  try simp only [List.append_assoc, List.cons_append, List.nil_append]
  try (first | rfl | exact congrArg (a ++ ·) (show _ = [45, 105] from rfl) | decide)
set_option maxHeartbeats 4000000 in
theorem rt_twonp (w : World) (u v : Nat) (a : List UInt8) (la : a.length ≤ 100000000) 
    (s1 : ∀ W, Below w.heap.size w W → Calls Tryz.prog 60 #[.pointer (some ⟨u, 0, none⟩)] W fun e w' => e = .returned (.int .i64 (1)) ∧ Below W.heap.size W w')
    (s2 : ∀ W, Below w.heap.size w W → Calls Tryz.prog 60 #[.pointer (some ⟨v, 0, none⟩)] W fun e w' => e = .returned (.int .i64 (-1)) ∧ Below W.heap.size W w')
    (c1 : ∀ W, Below w.heap.size w W → Calls Tryz.prog 61 #[.pointer (some ⟨u, 0, none⟩)] W fun e w' => e = .returned (.string ⟨a.toArray⟩) ∧ Below W.heap.size W w')
    (c2 : ∀ W, Below w.heap.size w W → Calls Tryz.prog 61 #[.pointer (some ⟨v, 0, none⟩)] W fun e w' => e = .returned (.string ⟨([45, 49] : List UInt8).toArray⟩) ∧ Below W.heap.size W w')
    (ha : (a == [48]) = false) (hb : (([45, 49] : List UInt8) == [48]) = false) (hn : ((([45, 49] : List UInt8).headD 0).toNat == 45) = true) :
    Calls Tryz.prog 23 #[.agg #[.pointer (some ⟨u, 0, none⟩), .pointer (some ⟨v, 0, none⟩)]] w fun e w' => e = .returned (sOf (joinB a [45, 49])) ∧ Below w.heap.size w w' := by
  have S1 := Lib.hid s1; have S2 := Lib.hid s2; have C1 := Lib.hid c1; have C2 := Lib.hid c2
  have HJ := Lib.hid (show joinB a [45, 49] = if ([45, 49] : List UInt8) == [48] then a else if a == [48] then secB [45, 49] else if (([45, 49] : List UInt8).headD 0).toNat == 45 then a ++ secB [45, 49] else (a ++ [43]) ++ secB [45, 49] from rfl)
  have HS := Lib.hid (show secB [45, 49] = [45, 105] from rfl)
  have f1 : ∀ W, (Op.stringOp .add ⟨#[45, 49]⟩ ⟨#[105]⟩).run Tryz.prog W = .ok (.string ⟨#[45, 49, 105]⟩) W := fun W => addS [45, 49] [105] (by simp) (by simp) W
  have f2 : ∀ W, (Op.stringOp .add ⟨#[45]⟩ ⟨#[105]⟩).run Tryz.prog W = .ok (.string ⟨#[45, 105]⟩) W := fun W => addS [45] [105] (by simp) (by simp) W
  have f3 : ∀ W, (Op.stringOp .add ⟨#[43]⟩ ⟨#[105]⟩).run Tryz.prog W = .ok (.string ⟨#[43, 105]⟩) W := fun W => addS [43] [105] (by simp) (by simp) W
  have e1 : ∀ W, (Op.stringOp .add ⟨a.toArray⟩ ⟨#[45, 105]⟩).run Tryz.prog W = .ok (.string ⟨(a ++ [45, 105]).toArray⟩) W := fun W => addS a [45, 105] (by omega) (by simp) W
  have e2 : ∀ W, (Op.stringOp .add ⟨a.toArray⟩ ⟨#[43, 105]⟩).run Tryz.prog W = .ok (.string ⟨(a ++ [43, 105]).toArray⟩) W := fun W => addS a [43, 105] (by omega) (by simp) W
  have HF := Lib.hid (And.intro ha (And.intro hb hn))
  have HB0 := Lib.hid (box1_below w (.cells #[.pointer (some ⟨u, 0, none⟩), .pointer (some ⟨v, 0, none⟩)] 50))
  have HN0 := Lib.hid (AtL.new w 50 #[.pointer (some ⟨u, 0, none⟩), .pointer (some ⟨v, 0, none⟩)])
  clear s1 s2 c1 c2 ha hb hn
  have k0 := True.intro; have k1 := True.intro
  go_enter Tryz.func23, Tryz.ntmps23
  go_wp2_with fail
  generalize w.alloc (.cells #[.pointer (some ⟨u, 0, none⟩), .pointer (some ⟨v, 0, none⟩)] 50) = w0 at *
  refine (S2.out _ HB0.out).mono ?_
  rintro e w1 ⟨rfl, hw⟩
  have HB1 := Lib.hid (HB0.out.trans (hw.mono HB0.out.size))
  have HN1 := Lib.hid (HN0.out.keep hw)
  clear hw HN0 HB0 k0 k1
  have k0 := HN1.out.cell 0 rfl; have k1 := HN1.out.cell 1 rfl
  go_wp2_with fail
  refine (C2.out _ HB1.out).mono ?_
  rintro e w2 ⟨rfl, hw⟩
  have HB2 := Lib.hid (HB1.out.trans (hw.mono HB1.out.size))
  have HN2 := Lib.hid (HN1.out.keep hw)
  clear hw HN1 HB1 k0 k1
  have k0 := HN2.out.cell 0 rfl; have k1 := HN2.out.cell 1 rfl
  go_wp2_with fail
  refine (S1.out _ HB2.out).mono ?_
  rintro e w3 ⟨rfl, hw⟩
  have HB3 := Lib.hid (HB2.out.trans (hw.mono HB2.out.size))
  have HN3 := Lib.hid (HN2.out.keep hw)
  clear hw HN2 HB2 k0 k1
  have k0 := HN3.out.cell 0 rfl; have k1 := HN3.out.cell 1 rfl
  go_wp2_with fail
  refine (S2.out _ HB3.out).mono ?_
  rintro e w4 ⟨rfl, hw⟩
  have HB4 := Lib.hid (HB3.out.trans (hw.mono HB3.out.size))
  have HN4 := Lib.hid (HN3.out.keep hw)
  clear hw HN3 HB3 k0 k1
  have k0 := HN4.out.cell 0 rfl; have k1 := HN4.out.cell 1 rfl
  go_wp2_with fail
  refine (C1.out _ HB4.out).mono ?_
  rintro e w5 ⟨rfl, hw⟩
  have HB5 := Lib.hid (HB4.out.trans (hw.mono HB4.out.size))
  have HN5 := Lib.hid (HN4.out.keep hw)
  clear hw HN4 HB4 k0 k1
  have k0 := HN5.out.cell 0 rfl; have k1 := HN5.out.cell 1 rfl
  go_wp2_with fail
  go_ret
  refine ⟨?_, HB5.out⟩
  obtain ⟨ha, hb, hn⟩ := HF.out
  refine congrArg Ending.returned (congrArg sOf (?_ : _ = joinB a [45, 49]))
  rw [HJ.out]
  rw [HS.out]
  simp only [ha, hb, hn, if_true, if_false, Bool.false_eq_true]
  try simp only [List.append_assoc, List.cons_append, List.nil_append]
  try (first | rfl | exact congrArg (a ++ ·) (show _ = [45, 105] from rfl) | decide)
set_option maxHeartbeats 4000000 in
theorem rt_twonn (w : World) (u v : Nat) (a : List UInt8) (la : a.length ≤ 100000000) 
    (s1 : ∀ W, Below w.heap.size w W → Calls Tryz.prog 60 #[.pointer (some ⟨u, 0, none⟩)] W fun e w' => e = .returned (.int .i64 (-1)) ∧ Below W.heap.size W w')
    (s2 : ∀ W, Below w.heap.size w W → Calls Tryz.prog 60 #[.pointer (some ⟨v, 0, none⟩)] W fun e w' => e = .returned (.int .i64 (-1)) ∧ Below W.heap.size W w')
    (c1 : ∀ W, Below w.heap.size w W → Calls Tryz.prog 61 #[.pointer (some ⟨u, 0, none⟩)] W fun e w' => e = .returned (.string ⟨a.toArray⟩) ∧ Below W.heap.size W w')
    (c2 : ∀ W, Below w.heap.size w W → Calls Tryz.prog 61 #[.pointer (some ⟨v, 0, none⟩)] W fun e w' => e = .returned (.string ⟨([45, 49] : List UInt8).toArray⟩) ∧ Below W.heap.size W w')
    (ha : (a == [48]) = false) (hb : (([45, 49] : List UInt8) == [48]) = false) (hn : ((([45, 49] : List UInt8).headD 0).toNat == 45) = true) :
    Calls Tryz.prog 23 #[.agg #[.pointer (some ⟨u, 0, none⟩), .pointer (some ⟨v, 0, none⟩)]] w fun e w' => e = .returned (sOf (joinB a [45, 49])) ∧ Below w.heap.size w w' := by
  have S1 := Lib.hid s1; have S2 := Lib.hid s2; have C1 := Lib.hid c1; have C2 := Lib.hid c2
  have HJ := Lib.hid (show joinB a [45, 49] = if ([45, 49] : List UInt8) == [48] then a else if a == [48] then secB [45, 49] else if (([45, 49] : List UInt8).headD 0).toNat == 45 then a ++ secB [45, 49] else (a ++ [43]) ++ secB [45, 49] from rfl)
  have HS := Lib.hid (show secB [45, 49] = [45, 105] from rfl)
  have f1 : ∀ W, (Op.stringOp .add ⟨#[45, 49]⟩ ⟨#[105]⟩).run Tryz.prog W = .ok (.string ⟨#[45, 49, 105]⟩) W := fun W => addS [45, 49] [105] (by simp) (by simp) W
  have f2 : ∀ W, (Op.stringOp .add ⟨#[45]⟩ ⟨#[105]⟩).run Tryz.prog W = .ok (.string ⟨#[45, 105]⟩) W := fun W => addS [45] [105] (by simp) (by simp) W
  have f3 : ∀ W, (Op.stringOp .add ⟨#[43]⟩ ⟨#[105]⟩).run Tryz.prog W = .ok (.string ⟨#[43, 105]⟩) W := fun W => addS [43] [105] (by simp) (by simp) W
  have e1 : ∀ W, (Op.stringOp .add ⟨a.toArray⟩ ⟨#[45, 105]⟩).run Tryz.prog W = .ok (.string ⟨(a ++ [45, 105]).toArray⟩) W := fun W => addS a [45, 105] (by omega) (by simp) W
  have e2 : ∀ W, (Op.stringOp .add ⟨a.toArray⟩ ⟨#[43, 105]⟩).run Tryz.prog W = .ok (.string ⟨(a ++ [43, 105]).toArray⟩) W := fun W => addS a [43, 105] (by omega) (by simp) W
  have HF := Lib.hid (And.intro ha (And.intro hb hn))
  have HB0 := Lib.hid (box1_below w (.cells #[.pointer (some ⟨u, 0, none⟩), .pointer (some ⟨v, 0, none⟩)] 50))
  have HN0 := Lib.hid (AtL.new w 50 #[.pointer (some ⟨u, 0, none⟩), .pointer (some ⟨v, 0, none⟩)])
  clear s1 s2 c1 c2 ha hb hn
  have k0 := True.intro; have k1 := True.intro
  go_enter Tryz.func23, Tryz.ntmps23
  go_wp2_with fail
  generalize w.alloc (.cells #[.pointer (some ⟨u, 0, none⟩), .pointer (some ⟨v, 0, none⟩)] 50) = w0 at *
  refine (S2.out _ HB0.out).mono ?_
  rintro e w1 ⟨rfl, hw⟩
  have HB1 := Lib.hid (HB0.out.trans (hw.mono HB0.out.size))
  have HN1 := Lib.hid (HN0.out.keep hw)
  clear hw HN0 HB0 k0 k1
  have k0 := HN1.out.cell 0 rfl; have k1 := HN1.out.cell 1 rfl
  go_wp2_with fail
  refine (C2.out _ HB1.out).mono ?_
  rintro e w2 ⟨rfl, hw⟩
  have HB2 := Lib.hid (HB1.out.trans (hw.mono HB1.out.size))
  have HN2 := Lib.hid (HN1.out.keep hw)
  clear hw HN1 HB1 k0 k1
  have k0 := HN2.out.cell 0 rfl; have k1 := HN2.out.cell 1 rfl
  go_wp2_with fail
  refine (S1.out _ HB2.out).mono ?_
  rintro e w3 ⟨rfl, hw⟩
  have HB3 := Lib.hid (HB2.out.trans (hw.mono HB2.out.size))
  have HN3 := Lib.hid (HN2.out.keep hw)
  clear hw HN2 HB2 k0 k1
  have k0 := HN3.out.cell 0 rfl; have k1 := HN3.out.cell 1 rfl
  go_wp2_with fail
  refine (S2.out _ HB3.out).mono ?_
  rintro e w4 ⟨rfl, hw⟩
  have HB4 := Lib.hid (HB3.out.trans (hw.mono HB3.out.size))
  have HN4 := Lib.hid (HN3.out.keep hw)
  clear hw HN3 HB3 k0 k1
  have k0 := HN4.out.cell 0 rfl; have k1 := HN4.out.cell 1 rfl
  go_wp2_with fail
  refine (C1.out _ HB4.out).mono ?_
  rintro e w5 ⟨rfl, hw⟩
  have HB5 := Lib.hid (HB4.out.trans (hw.mono HB4.out.size))
  have HN5 := Lib.hid (HN4.out.keep hw)
  clear hw HN4 HB4 k0 k1
  have k0 := HN5.out.cell 0 rfl; have k1 := HN5.out.cell 1 rfl
  go_wp2_with fail
  go_ret
  refine ⟨?_, HB5.out⟩
  obtain ⟨ha, hb, hn⟩ := HF.out
  refine congrArg Ending.returned (congrArg sOf (?_ : _ = joinB a [45, 49]))
  rw [HJ.out]
  rw [HS.out]
  simp only [ha, hb, hn, if_true, if_false, Bool.false_eq_true]
  try simp only [List.append_assoc, List.cons_append, List.nil_append]
  try (first | rfl | exact congrArg (a ++ ·) (show _ = [45, 105] from rfl) | decide)
set_option maxHeartbeats 4000000 in
theorem rt_elsepz (w : World) (u v : Nat) (a b : List UInt8) (la : a.length ≤ 100000000) (lb : b.length ≤ 100000000) (n1 : (b == [49]) = false) (n2 : (b == [45, 49]) = false) 
    (s1 : ∀ W, Below w.heap.size w W → Calls Tryz.prog 60 #[.pointer (some ⟨u, 0, none⟩)] W fun e w' => e = .returned (.int .i64 (0)) ∧ Below W.heap.size W w')
    (s2 : ∀ W, Below w.heap.size w W → Calls Tryz.prog 60 #[.pointer (some ⟨v, 0, none⟩)] W fun e w' => e = .returned (.int .i64 (1)) ∧ Below W.heap.size W w')
    (c1 : ∀ W, Below w.heap.size w W → Calls Tryz.prog 61 #[.pointer (some ⟨u, 0, none⟩)] W fun e w' => e = .returned (.string ⟨a.toArray⟩) ∧ Below W.heap.size W w')
    (c2 : ∀ W, Below w.heap.size w W → Calls Tryz.prog 61 #[.pointer (some ⟨v, 0, none⟩)] W fun e w' => e = .returned (.string ⟨(b : List UInt8).toArray⟩) ∧ Below W.heap.size W w')
    (ha : (a == [48]) = true) (hb : ((b : List UInt8) == [48]) = false) (hn : (((b : List UInt8).headD 0).toNat == 45) = false) :
    Calls Tryz.prog 23 #[.agg #[.pointer (some ⟨u, 0, none⟩), .pointer (some ⟨v, 0, none⟩)]] w fun e w' => e = .returned (sOf (joinB a b)) ∧ Below w.heap.size w w' := by
  have S1 := Lib.hid s1; have S2 := Lib.hid s2; have C1 := Lib.hid c1; have C2 := Lib.hid c2
  have HJ := Lib.hid (show joinB a b = if (b : List UInt8) == [48] then a else if a == [48] then secB b else if ((b : List UInt8).headD 0).toNat == 45 then a ++ secB b else (a ++ [43]) ++ secB b from rfl)
  have HS := Lib.hid (show secB b = b ++ [105] by unfold secB; rw [n1, n2]; rfl)
  have e1 : ∀ W, (Op.stringOp .add ⟨b.toArray⟩ ⟨#[105]⟩).run Tryz.prog W = .ok (.string ⟨(b ++ [105]).toArray⟩) W := fun W => addS b [105] (by omega) (by simp) W
  have q1 : (b ++ [105] == [49, 105]) = false := by
    rw [← n1, show ([49, 105] : List UInt8) = [49] ++ [105] from rfl, Bool.eq_iff_iff, beq_iff_eq, beq_iff_eq, List.append_left_inj]
  have q2 : (b ++ [105] == [45, 49, 105]) = false := by
    rw [← n2, show ([45, 49, 105] : List UInt8) = [45, 49] ++ [105] from rfl, Bool.eq_iff_iff, beq_iff_eq, beq_iff_eq, List.append_left_inj]
  have e2 : ∀ W, (Op.stringOp .add ⟨#[43]⟩ ⟨(b ++ [105]).toArray⟩).run Tryz.prog W = .ok (.string ⟨([43] ++ (b ++ [105])).toArray⟩) W := fun W => addS [43] (b ++ [105]) (by simp) (by simp; omega) W
  have e3 : ∀ W, (Op.stringOp .add ⟨a.toArray⟩ ⟨(b ++ [105]).toArray⟩).run Tryz.prog W = .ok (.string ⟨(a ++ (b ++ [105])).toArray⟩) W := fun W => addS a (b ++ [105]) (by omega) (by simp; omega) W
  have e4 : ∀ W, (Op.stringOp .add ⟨a.toArray⟩ ⟨([43] ++ (b ++ [105])).toArray⟩).run Tryz.prog W = .ok (.string ⟨(a ++ ([43] ++ (b ++ [105]))).toArray⟩) W := fun W => addS a ([43] ++ (b ++ [105])) (by omega) (by simp; omega) W
  have HF := Lib.hid (And.intro ha (And.intro hb hn))
  have HB0 := Lib.hid (box1_below w (.cells #[.pointer (some ⟨u, 0, none⟩), .pointer (some ⟨v, 0, none⟩)] 50))
  have HN0 := Lib.hid (AtL.new w 50 #[.pointer (some ⟨u, 0, none⟩), .pointer (some ⟨v, 0, none⟩)])
  clear s1 s2 c1 c2 ha hb hn
  have k0 := True.intro; have k1 := True.intro
  go_enter Tryz.func23, Tryz.ntmps23
  go_wp2_with fail
  generalize w.alloc (.cells #[.pointer (some ⟨u, 0, none⟩), .pointer (some ⟨v, 0, none⟩)] 50) = w0 at *
  refine (S2.out _ HB0.out).mono ?_
  rintro e w1 ⟨rfl, hw⟩
  have HB1 := Lib.hid (HB0.out.trans (hw.mono HB0.out.size))
  have HN1 := Lib.hid (HN0.out.keep hw)
  clear hw HN0 HB0 k0 k1
  have k0 := HN1.out.cell 0 rfl; have k1 := HN1.out.cell 1 rfl
  go_wp2_with fail
  refine (C2.out _ HB1.out).mono ?_
  rintro e w2 ⟨rfl, hw⟩
  have HB2 := Lib.hid (HB1.out.trans (hw.mono HB1.out.size))
  have HN2 := Lib.hid (HN1.out.keep hw)
  clear hw HN1 HB1 k0 k1
  have k0 := HN2.out.cell 0 rfl; have k1 := HN2.out.cell 1 rfl
  go_wp2_with fail
  refine (S1.out _ HB2.out).mono ?_
  rintro e w3 ⟨rfl, hw⟩
  have HB3 := Lib.hid (HB2.out.trans (hw.mono HB2.out.size))
  have HN3 := Lib.hid (HN2.out.keep hw)
  clear hw HN2 HB2 k0 k1
  have k0 := HN3.out.cell 0 rfl; have k1 := HN3.out.cell 1 rfl
  go_wp2_with fail
  go_ret
  refine ⟨?_, HB3.out⟩
  obtain ⟨ha, hb, hn⟩ := HF.out
  refine congrArg Ending.returned (congrArg sOf (?_ : _ = joinB a b))
  rw [HJ.out]
  rw [HS.out]
  simp only [ha, hb, hn, if_true, if_false, Bool.false_eq_true]
  try simp only [List.append_assoc, List.cons_append, List.nil_append]
  try (first | rfl | exact congrArg (a ++ ·) (show _ = [45, 105] from rfl) | decide)
set_option maxHeartbeats 4000000 in
theorem rt_elsepp (w : World) (u v : Nat) (a b : List UInt8) (la : a.length ≤ 100000000) (lb : b.length ≤ 100000000) (n1 : (b == [49]) = false) (n2 : (b == [45, 49]) = false) 
    (s1 : ∀ W, Below w.heap.size w W → Calls Tryz.prog 60 #[.pointer (some ⟨u, 0, none⟩)] W fun e w' => e = .returned (.int .i64 (1)) ∧ Below W.heap.size W w')
    (s2 : ∀ W, Below w.heap.size w W → Calls Tryz.prog 60 #[.pointer (some ⟨v, 0, none⟩)] W fun e w' => e = .returned (.int .i64 (1)) ∧ Below W.heap.size W w')
    (c1 : ∀ W, Below w.heap.size w W → Calls Tryz.prog 61 #[.pointer (some ⟨u, 0, none⟩)] W fun e w' => e = .returned (.string ⟨a.toArray⟩) ∧ Below W.heap.size W w')
    (c2 : ∀ W, Below w.heap.size w W → Calls Tryz.prog 61 #[.pointer (some ⟨v, 0, none⟩)] W fun e w' => e = .returned (.string ⟨(b : List UInt8).toArray⟩) ∧ Below W.heap.size W w')
    (ha : (a == [48]) = false) (hb : ((b : List UInt8) == [48]) = false) (hn : (((b : List UInt8).headD 0).toNat == 45) = false) :
    Calls Tryz.prog 23 #[.agg #[.pointer (some ⟨u, 0, none⟩), .pointer (some ⟨v, 0, none⟩)]] w fun e w' => e = .returned (sOf (joinB a b)) ∧ Below w.heap.size w w' := by
  have S1 := Lib.hid s1; have S2 := Lib.hid s2; have C1 := Lib.hid c1; have C2 := Lib.hid c2
  have HJ := Lib.hid (show joinB a b = if (b : List UInt8) == [48] then a else if a == [48] then secB b else if ((b : List UInt8).headD 0).toNat == 45 then a ++ secB b else (a ++ [43]) ++ secB b from rfl)
  have HS := Lib.hid (show secB b = b ++ [105] by unfold secB; rw [n1, n2]; rfl)
  have e1 : ∀ W, (Op.stringOp .add ⟨b.toArray⟩ ⟨#[105]⟩).run Tryz.prog W = .ok (.string ⟨(b ++ [105]).toArray⟩) W := fun W => addS b [105] (by omega) (by simp) W
  have q1 : (b ++ [105] == [49, 105]) = false := by
    rw [← n1, show ([49, 105] : List UInt8) = [49] ++ [105] from rfl, Bool.eq_iff_iff, beq_iff_eq, beq_iff_eq, List.append_left_inj]
  have q2 : (b ++ [105] == [45, 49, 105]) = false := by
    rw [← n2, show ([45, 49, 105] : List UInt8) = [45, 49] ++ [105] from rfl, Bool.eq_iff_iff, beq_iff_eq, beq_iff_eq, List.append_left_inj]
  have e2 : ∀ W, (Op.stringOp .add ⟨#[43]⟩ ⟨(b ++ [105]).toArray⟩).run Tryz.prog W = .ok (.string ⟨([43] ++ (b ++ [105])).toArray⟩) W := fun W => addS [43] (b ++ [105]) (by simp) (by simp; omega) W
  have e3 : ∀ W, (Op.stringOp .add ⟨a.toArray⟩ ⟨(b ++ [105]).toArray⟩).run Tryz.prog W = .ok (.string ⟨(a ++ (b ++ [105])).toArray⟩) W := fun W => addS a (b ++ [105]) (by omega) (by simp; omega) W
  have e4 : ∀ W, (Op.stringOp .add ⟨a.toArray⟩ ⟨([43] ++ (b ++ [105])).toArray⟩).run Tryz.prog W = .ok (.string ⟨(a ++ ([43] ++ (b ++ [105]))).toArray⟩) W := fun W => addS a ([43] ++ (b ++ [105])) (by omega) (by simp; omega) W
  have HF := Lib.hid (And.intro ha (And.intro hb hn))
  have HB0 := Lib.hid (box1_below w (.cells #[.pointer (some ⟨u, 0, none⟩), .pointer (some ⟨v, 0, none⟩)] 50))
  have HN0 := Lib.hid (AtL.new w 50 #[.pointer (some ⟨u, 0, none⟩), .pointer (some ⟨v, 0, none⟩)])
  clear s1 s2 c1 c2 ha hb hn
  have k0 := True.intro; have k1 := True.intro
  go_enter Tryz.func23, Tryz.ntmps23
  go_wp2_with fail
  generalize w.alloc (.cells #[.pointer (some ⟨u, 0, none⟩), .pointer (some ⟨v, 0, none⟩)] 50) = w0 at *
  refine (S2.out _ HB0.out).mono ?_
  rintro e w1 ⟨rfl, hw⟩
  have HB1 := Lib.hid (HB0.out.trans (hw.mono HB0.out.size))
  have HN1 := Lib.hid (HN0.out.keep hw)
  clear hw HN0 HB0 k0 k1
  have k0 := HN1.out.cell 0 rfl; have k1 := HN1.out.cell 1 rfl
  go_wp2_with fail
  refine (C2.out _ HB1.out).mono ?_
  rintro e w2 ⟨rfl, hw⟩
  have HB2 := Lib.hid (HB1.out.trans (hw.mono HB1.out.size))
  have HN2 := Lib.hid (HN1.out.keep hw)
  clear hw HN1 HB1 k0 k1
  have k0 := HN2.out.cell 0 rfl; have k1 := HN2.out.cell 1 rfl
  go_wp2_with fail
  refine (S1.out _ HB2.out).mono ?_
  rintro e w3 ⟨rfl, hw⟩
  have HB3 := Lib.hid (HB2.out.trans (hw.mono HB2.out.size))
  have HN3 := Lib.hid (HN2.out.keep hw)
  clear hw HN2 HB2 k0 k1
  have k0 := HN3.out.cell 0 rfl; have k1 := HN3.out.cell 1 rfl
  go_wp2_with fail
  refine (S2.out _ HB3.out).mono ?_
  rintro e w4 ⟨rfl, hw⟩
  have HB4 := Lib.hid (HB3.out.trans (hw.mono HB3.out.size))
  have HN4 := Lib.hid (HN3.out.keep hw)
  clear hw HN3 HB3 k0 k1
  have k0 := HN4.out.cell 0 rfl; have k1 := HN4.out.cell 1 rfl
  go_wp2_with fail
  refine (C1.out _ HB4.out).mono ?_
  rintro e w5 ⟨rfl, hw⟩
  have HB5 := Lib.hid (HB4.out.trans (hw.mono HB4.out.size))
  have HN5 := Lib.hid (HN4.out.keep hw)
  clear hw HN4 HB4 k0 k1
  have k0 := HN5.out.cell 0 rfl; have k1 := HN5.out.cell 1 rfl
  go_wp2_with fail
  go_ret
  refine ⟨?_, HB5.out⟩
  obtain ⟨ha, hb, hn⟩ := HF.out
  refine congrArg Ending.returned (congrArg sOf (?_ : _ = joinB a b))
  rw [HJ.out]
  rw [HS.out]
  simp only [ha, hb, hn, if_true, if_false, Bool.false_eq_true]
  try simp only [List.append_assoc, List.cons_append, List.nil_append]
  try (first | rfl | exact congrArg (a ++ ·) (show _ = [45, 105] from rfl) | decide)
set_option maxHeartbeats 4000000 in
theorem rt_elsepn (w : World) (u v : Nat) (a b : List UInt8) (la : a.length ≤ 100000000) (lb : b.length ≤ 100000000) (n1 : (b == [49]) = false) (n2 : (b == [45, 49]) = false) 
    (s1 : ∀ W, Below w.heap.size w W → Calls Tryz.prog 60 #[.pointer (some ⟨u, 0, none⟩)] W fun e w' => e = .returned (.int .i64 (-1)) ∧ Below W.heap.size W w')
    (s2 : ∀ W, Below w.heap.size w W → Calls Tryz.prog 60 #[.pointer (some ⟨v, 0, none⟩)] W fun e w' => e = .returned (.int .i64 (1)) ∧ Below W.heap.size W w')
    (c1 : ∀ W, Below w.heap.size w W → Calls Tryz.prog 61 #[.pointer (some ⟨u, 0, none⟩)] W fun e w' => e = .returned (.string ⟨a.toArray⟩) ∧ Below W.heap.size W w')
    (c2 : ∀ W, Below w.heap.size w W → Calls Tryz.prog 61 #[.pointer (some ⟨v, 0, none⟩)] W fun e w' => e = .returned (.string ⟨(b : List UInt8).toArray⟩) ∧ Below W.heap.size W w')
    (ha : (a == [48]) = false) (hb : ((b : List UInt8) == [48]) = false) (hn : (((b : List UInt8).headD 0).toNat == 45) = false) :
    Calls Tryz.prog 23 #[.agg #[.pointer (some ⟨u, 0, none⟩), .pointer (some ⟨v, 0, none⟩)]] w fun e w' => e = .returned (sOf (joinB a b)) ∧ Below w.heap.size w w' := by
  have S1 := Lib.hid s1; have S2 := Lib.hid s2; have C1 := Lib.hid c1; have C2 := Lib.hid c2
  have HJ := Lib.hid (show joinB a b = if (b : List UInt8) == [48] then a else if a == [48] then secB b else if ((b : List UInt8).headD 0).toNat == 45 then a ++ secB b else (a ++ [43]) ++ secB b from rfl)
  have HS := Lib.hid (show secB b = b ++ [105] by unfold secB; rw [n1, n2]; rfl)
  have e1 : ∀ W, (Op.stringOp .add ⟨b.toArray⟩ ⟨#[105]⟩).run Tryz.prog W = .ok (.string ⟨(b ++ [105]).toArray⟩) W := fun W => addS b [105] (by omega) (by simp) W
  have q1 : (b ++ [105] == [49, 105]) = false := by
    rw [← n1, show ([49, 105] : List UInt8) = [49] ++ [105] from rfl, Bool.eq_iff_iff, beq_iff_eq, beq_iff_eq, List.append_left_inj]
  have q2 : (b ++ [105] == [45, 49, 105]) = false := by
    rw [← n2, show ([45, 49, 105] : List UInt8) = [45, 49] ++ [105] from rfl, Bool.eq_iff_iff, beq_iff_eq, beq_iff_eq, List.append_left_inj]
  have e2 : ∀ W, (Op.stringOp .add ⟨#[43]⟩ ⟨(b ++ [105]).toArray⟩).run Tryz.prog W = .ok (.string ⟨([43] ++ (b ++ [105])).toArray⟩) W := fun W => addS [43] (b ++ [105]) (by simp) (by simp; omega) W
  have e3 : ∀ W, (Op.stringOp .add ⟨a.toArray⟩ ⟨(b ++ [105]).toArray⟩).run Tryz.prog W = .ok (.string ⟨(a ++ (b ++ [105])).toArray⟩) W := fun W => addS a (b ++ [105]) (by omega) (by simp; omega) W
  have e4 : ∀ W, (Op.stringOp .add ⟨a.toArray⟩ ⟨([43] ++ (b ++ [105])).toArray⟩).run Tryz.prog W = .ok (.string ⟨(a ++ ([43] ++ (b ++ [105]))).toArray⟩) W := fun W => addS a ([43] ++ (b ++ [105])) (by omega) (by simp; omega) W
  have HF := Lib.hid (And.intro ha (And.intro hb hn))
  have HB0 := Lib.hid (box1_below w (.cells #[.pointer (some ⟨u, 0, none⟩), .pointer (some ⟨v, 0, none⟩)] 50))
  have HN0 := Lib.hid (AtL.new w 50 #[.pointer (some ⟨u, 0, none⟩), .pointer (some ⟨v, 0, none⟩)])
  clear s1 s2 c1 c2 ha hb hn
  have k0 := True.intro; have k1 := True.intro
  go_enter Tryz.func23, Tryz.ntmps23
  go_wp2_with fail
  generalize w.alloc (.cells #[.pointer (some ⟨u, 0, none⟩), .pointer (some ⟨v, 0, none⟩)] 50) = w0 at *
  refine (S2.out _ HB0.out).mono ?_
  rintro e w1 ⟨rfl, hw⟩
  have HB1 := Lib.hid (HB0.out.trans (hw.mono HB0.out.size))
  have HN1 := Lib.hid (HN0.out.keep hw)
  clear hw HN0 HB0 k0 k1
  have k0 := HN1.out.cell 0 rfl; have k1 := HN1.out.cell 1 rfl
  go_wp2_with fail
  refine (C2.out _ HB1.out).mono ?_
  rintro e w2 ⟨rfl, hw⟩
  have HB2 := Lib.hid (HB1.out.trans (hw.mono HB1.out.size))
  have HN2 := Lib.hid (HN1.out.keep hw)
  clear hw HN1 HB1 k0 k1
  have k0 := HN2.out.cell 0 rfl; have k1 := HN2.out.cell 1 rfl
  go_wp2_with fail
  refine (S1.out _ HB2.out).mono ?_
  rintro e w3 ⟨rfl, hw⟩
  have HB3 := Lib.hid (HB2.out.trans (hw.mono HB2.out.size))
  have HN3 := Lib.hid (HN2.out.keep hw)
  clear hw HN2 HB2 k0 k1
  have k0 := HN3.out.cell 0 rfl; have k1 := HN3.out.cell 1 rfl
  go_wp2_with fail
  refine (S2.out _ HB3.out).mono ?_
  rintro e w4 ⟨rfl, hw⟩
  have HB4 := Lib.hid (HB3.out.trans (hw.mono HB3.out.size))
  have HN4 := Lib.hid (HN3.out.keep hw)
  clear hw HN3 HB3 k0 k1
  have k0 := HN4.out.cell 0 rfl; have k1 := HN4.out.cell 1 rfl
  go_wp2_with fail
  refine (C1.out _ HB4.out).mono ?_
  rintro e w5 ⟨rfl, hw⟩
  have HB5 := Lib.hid (HB4.out.trans (hw.mono HB4.out.size))
  have HN5 := Lib.hid (HN4.out.keep hw)
  clear hw HN4 HB4 k0 k1
  have k0 := HN5.out.cell 0 rfl; have k1 := HN5.out.cell 1 rfl
  go_wp2_with fail
  go_ret
  refine ⟨?_, HB5.out⟩
  obtain ⟨ha, hb, hn⟩ := HF.out
  refine congrArg Ending.returned (congrArg sOf (?_ : _ = joinB a b))
  rw [HJ.out]
  rw [HS.out]
  simp only [ha, hb, hn, if_true, if_false, Bool.false_eq_true]
  try simp only [List.append_assoc, List.cons_append, List.nil_append]
  try (first | rfl | exact congrArg (a ++ ·) (show _ = [45, 105] from rfl) | decide)
set_option maxHeartbeats 4000000 in
theorem rt_elsenz (w : World) (u v : Nat) (a b : List UInt8) (la : a.length ≤ 100000000) (lb : b.length ≤ 100000000) (n1 : (b == [49]) = false) (n2 : (b == [45, 49]) = false) 
    (s1 : ∀ W, Below w.heap.size w W → Calls Tryz.prog 60 #[.pointer (some ⟨u, 0, none⟩)] W fun e w' => e = .returned (.int .i64 (0)) ∧ Below W.heap.size W w')
    (s2 : ∀ W, Below w.heap.size w W → Calls Tryz.prog 60 #[.pointer (some ⟨v, 0, none⟩)] W fun e w' => e = .returned (.int .i64 (-1)) ∧ Below W.heap.size W w')
    (c1 : ∀ W, Below w.heap.size w W → Calls Tryz.prog 61 #[.pointer (some ⟨u, 0, none⟩)] W fun e w' => e = .returned (.string ⟨a.toArray⟩) ∧ Below W.heap.size W w')
    (c2 : ∀ W, Below w.heap.size w W → Calls Tryz.prog 61 #[.pointer (some ⟨v, 0, none⟩)] W fun e w' => e = .returned (.string ⟨(b : List UInt8).toArray⟩) ∧ Below W.heap.size W w')
    (ha : (a == [48]) = true) (hb : ((b : List UInt8) == [48]) = false) (hn : (((b : List UInt8).headD 0).toNat == 45) = true) :
    Calls Tryz.prog 23 #[.agg #[.pointer (some ⟨u, 0, none⟩), .pointer (some ⟨v, 0, none⟩)]] w fun e w' => e = .returned (sOf (joinB a b)) ∧ Below w.heap.size w w' := by
  have S1 := Lib.hid s1; have S2 := Lib.hid s2; have C1 := Lib.hid c1; have C2 := Lib.hid c2
  have HJ := Lib.hid (show joinB a b = if (b : List UInt8) == [48] then a else if a == [48] then secB b else if ((b : List UInt8).headD 0).toNat == 45 then a ++ secB b else (a ++ [43]) ++ secB b from rfl)
  have HS := Lib.hid (show secB b = b ++ [105] by unfold secB; rw [n1, n2]; rfl)
  have e1 : ∀ W, (Op.stringOp .add ⟨b.toArray⟩ ⟨#[105]⟩).run Tryz.prog W = .ok (.string ⟨(b ++ [105]).toArray⟩) W := fun W => addS b [105] (by omega) (by simp) W
  have q1 : (b ++ [105] == [49, 105]) = false := by
    rw [← n1, show ([49, 105] : List UInt8) = [49] ++ [105] from rfl, Bool.eq_iff_iff, beq_iff_eq, beq_iff_eq, List.append_left_inj]
  have q2 : (b ++ [105] == [45, 49, 105]) = false := by
    rw [← n2, show ([45, 49, 105] : List UInt8) = [45, 49] ++ [105] from rfl, Bool.eq_iff_iff, beq_iff_eq, beq_iff_eq, List.append_left_inj]
  have e2 : ∀ W, (Op.stringOp .add ⟨#[43]⟩ ⟨(b ++ [105]).toArray⟩).run Tryz.prog W = .ok (.string ⟨([43] ++ (b ++ [105])).toArray⟩) W := fun W => addS [43] (b ++ [105]) (by simp) (by simp; omega) W
  have e3 : ∀ W, (Op.stringOp .add ⟨a.toArray⟩ ⟨(b ++ [105]).toArray⟩).run Tryz.prog W = .ok (.string ⟨(a ++ (b ++ [105])).toArray⟩) W := fun W => addS a (b ++ [105]) (by omega) (by simp; omega) W
  have e4 : ∀ W, (Op.stringOp .add ⟨a.toArray⟩ ⟨([43] ++ (b ++ [105])).toArray⟩).run Tryz.prog W = .ok (.string ⟨(a ++ ([43] ++ (b ++ [105]))).toArray⟩) W := fun W => addS a ([43] ++ (b ++ [105])) (by omega) (by simp; omega) W
  have HF := Lib.hid (And.intro ha (And.intro hb hn))
  have HB0 := Lib.hid (box1_below w (.cells #[.pointer (some ⟨u, 0, none⟩), .pointer (some ⟨v, 0, none⟩)] 50))
  have HN0 := Lib.hid (AtL.new w 50 #[.pointer (some ⟨u, 0, none⟩), .pointer (some ⟨v, 0, none⟩)])
  clear s1 s2 c1 c2 ha hb hn
  have k0 := True.intro; have k1 := True.intro
  go_enter Tryz.func23, Tryz.ntmps23
  go_wp2_with fail
  generalize w.alloc (.cells #[.pointer (some ⟨u, 0, none⟩), .pointer (some ⟨v, 0, none⟩)] 50) = w0 at *
  refine (S2.out _ HB0.out).mono ?_
  rintro e w1 ⟨rfl, hw⟩
  have HB1 := Lib.hid (HB0.out.trans (hw.mono HB0.out.size))
  have HN1 := Lib.hid (HN0.out.keep hw)
  clear hw HN0 HB0 k0 k1
  have k0 := HN1.out.cell 0 rfl; have k1 := HN1.out.cell 1 rfl
  go_wp2_with fail
  refine (C2.out _ HB1.out).mono ?_
  rintro e w2 ⟨rfl, hw⟩
  have HB2 := Lib.hid (HB1.out.trans (hw.mono HB1.out.size))
  have HN2 := Lib.hid (HN1.out.keep hw)
  clear hw HN1 HB1 k0 k1
  have k0 := HN2.out.cell 0 rfl; have k1 := HN2.out.cell 1 rfl
  go_wp2_with fail
  refine (S1.out _ HB2.out).mono ?_
  rintro e w3 ⟨rfl, hw⟩
  have HB3 := Lib.hid (HB2.out.trans (hw.mono HB2.out.size))
  have HN3 := Lib.hid (HN2.out.keep hw)
  clear hw HN2 HB2 k0 k1
  have k0 := HN3.out.cell 0 rfl; have k1 := HN3.out.cell 1 rfl
  go_wp2_with fail
  go_ret
  refine ⟨?_, HB3.out⟩
  obtain ⟨ha, hb, hn⟩ := HF.out
  refine congrArg Ending.returned (congrArg sOf (?_ : _ = joinB a b))
  rw [HJ.out]
  rw [HS.out]
  simp only [ha, hb, hn, if_true, if_false, Bool.false_eq_true]
  try simp only [List.append_assoc, List.cons_append, List.nil_append]
  try (first | rfl | exact congrArg (a ++ ·) (show _ = [45, 105] from rfl) | decide)
set_option maxHeartbeats 4000000 in
theorem rt_elsenp (w : World) (u v : Nat) (a b : List UInt8) (la : a.length ≤ 100000000) (lb : b.length ≤ 100000000) (n1 : (b == [49]) = false) (n2 : (b == [45, 49]) = false) 
    (s1 : ∀ W, Below w.heap.size w W → Calls Tryz.prog 60 #[.pointer (some ⟨u, 0, none⟩)] W fun e w' => e = .returned (.int .i64 (1)) ∧ Below W.heap.size W w')
    (s2 : ∀ W, Below w.heap.size w W → Calls Tryz.prog 60 #[.pointer (some ⟨v, 0, none⟩)] W fun e w' => e = .returned (.int .i64 (-1)) ∧ Below W.heap.size W w')
    (c1 : ∀ W, Below w.heap.size w W → Calls Tryz.prog 61 #[.pointer (some ⟨u, 0, none⟩)] W fun e w' => e = .returned (.string ⟨a.toArray⟩) ∧ Below W.heap.size W w')
    (c2 : ∀ W, Below w.heap.size w W → Calls Tryz.prog 61 #[.pointer (some ⟨v, 0, none⟩)] W fun e w' => e = .returned (.string ⟨(b : List UInt8).toArray⟩) ∧ Below W.heap.size W w')
    (ha : (a == [48]) = false) (hb : ((b : List UInt8) == [48]) = false) (hn : (((b : List UInt8).headD 0).toNat == 45) = true) :
    Calls Tryz.prog 23 #[.agg #[.pointer (some ⟨u, 0, none⟩), .pointer (some ⟨v, 0, none⟩)]] w fun e w' => e = .returned (sOf (joinB a b)) ∧ Below w.heap.size w w' := by
  have S1 := Lib.hid s1; have S2 := Lib.hid s2; have C1 := Lib.hid c1; have C2 := Lib.hid c2
  have HJ := Lib.hid (show joinB a b = if (b : List UInt8) == [48] then a else if a == [48] then secB b else if ((b : List UInt8).headD 0).toNat == 45 then a ++ secB b else (a ++ [43]) ++ secB b from rfl)
  have HS := Lib.hid (show secB b = b ++ [105] by unfold secB; rw [n1, n2]; rfl)
  have e1 : ∀ W, (Op.stringOp .add ⟨b.toArray⟩ ⟨#[105]⟩).run Tryz.prog W = .ok (.string ⟨(b ++ [105]).toArray⟩) W := fun W => addS b [105] (by omega) (by simp) W
  have q1 : (b ++ [105] == [49, 105]) = false := by
    rw [← n1, show ([49, 105] : List UInt8) = [49] ++ [105] from rfl, Bool.eq_iff_iff, beq_iff_eq, beq_iff_eq, List.append_left_inj]
  have q2 : (b ++ [105] == [45, 49, 105]) = false := by
    rw [← n2, show ([45, 49, 105] : List UInt8) = [45, 49] ++ [105] from rfl, Bool.eq_iff_iff, beq_iff_eq, beq_iff_eq, List.append_left_inj]
  have e2 : ∀ W, (Op.stringOp .add ⟨#[43]⟩ ⟨(b ++ [105]).toArray⟩).run Tryz.prog W = .ok (.string ⟨([43] ++ (b ++ [105])).toArray⟩) W := fun W => addS [43] (b ++ [105]) (by simp) (by simp; omega) W
  have e3 : ∀ W, (Op.stringOp .add ⟨a.toArray⟩ ⟨(b ++ [105]).toArray⟩).run Tryz.prog W = .ok (.string ⟨(a ++ (b ++ [105])).toArray⟩) W := fun W => addS a (b ++ [105]) (by omega) (by simp; omega) W
  have e4 : ∀ W, (Op.stringOp .add ⟨a.toArray⟩ ⟨([43] ++ (b ++ [105])).toArray⟩).run Tryz.prog W = .ok (.string ⟨(a ++ ([43] ++ (b ++ [105]))).toArray⟩) W := fun W => addS a ([43] ++ (b ++ [105])) (by omega) (by simp; omega) W
  have HF := Lib.hid (And.intro ha (And.intro hb hn))
  have HB0 := Lib.hid (box1_below w (.cells #[.pointer (some ⟨u, 0, none⟩), .pointer (some ⟨v, 0, none⟩)] 50))
  have HN0 := Lib.hid (AtL.new w 50 #[.pointer (some ⟨u, 0, none⟩), .pointer (some ⟨v, 0, none⟩)])
  clear s1 s2 c1 c2 ha hb hn
  have k0 := True.intro; have k1 := True.intro
  go_enter Tryz.func23, Tryz.ntmps23
  go_wp2_with fail
  generalize w.alloc (.cells #[.pointer (some ⟨u, 0, none⟩), .pointer (some ⟨v, 0, none⟩)] 50) = w0 at *
  refine (S2.out _ HB0.out).mono ?_
  rintro e w1 ⟨rfl, hw⟩
  have HB1 := Lib.hid (HB0.out.trans (hw.mono HB0.out.size))
  have HN1 := Lib.hid (HN0.out.keep hw)
  clear hw HN0 HB0 k0 k1
  have k0 := HN1.out.cell 0 rfl; have k1 := HN1.out.cell 1 rfl
  go_wp2_with fail
  refine (C2.out _ HB1.out).mono ?_
  rintro e w2 ⟨rfl, hw⟩
  have HB2 := Lib.hid (HB1.out.trans (hw.mono HB1.out.size))
  have HN2 := Lib.hid (HN1.out.keep hw)
  clear hw HN1 HB1 k0 k1
  have k0 := HN2.out.cell 0 rfl; have k1 := HN2.out.cell 1 rfl
  go_wp2_with fail
  refine (S1.out _ HB2.out).mono ?_
  rintro e w3 ⟨rfl, hw⟩
  have HB3 := Lib.hid (HB2.out.trans (hw.mono HB2.out.size))
  have HN3 := Lib.hid (HN2.out.keep hw)
  clear hw HN2 HB2 k0 k1
  have k0 := HN3.out.cell 0 rfl; have k1 := HN3.out.cell 1 rfl
  go_wp2_with fail
  refine (S2.out _ HB3.out).mono ?_
  rintro e w4 ⟨rfl, hw⟩
  have HB4 := Lib.hid (HB3.out.trans (hw.mono HB3.out.size))
  have HN4 := Lib.hid (HN3.out.keep hw)
  clear hw HN3 HB3 k0 k1
  have k0 := HN4.out.cell 0 rfl; have k1 := HN4.out.cell 1 rfl
  go_wp2_with fail
  refine (C1.out _ HB4.out).mono ?_
  rintro e w5 ⟨rfl, hw⟩
  have HB5 := Lib.hid (HB4.out.trans (hw.mono HB4.out.size))
  have HN5 := Lib.hid (HN4.out.keep hw)
  clear hw HN4 HB4 k0 k1
  have k0 := HN5.out.cell 0 rfl; have k1 := HN5.out.cell 1 rfl
  go_wp2_with fail
  go_ret
  refine ⟨?_, HB5.out⟩
  obtain ⟨ha, hb, hn⟩ := HF.out
  refine congrArg Ending.returned (congrArg sOf (?_ : _ = joinB a b))
  rw [HJ.out]
  rw [HS.out]
  simp only [ha, hb, hn, if_true, if_false, Bool.false_eq_true]
  try simp only [List.append_assoc, List.cons_append, List.nil_append]
  try (first | rfl | exact congrArg (a ++ ·) (show _ = [45, 105] from rfl) | decide)
set_option maxHeartbeats 4000000 in
theorem rt_elsenn (w : World) (u v : Nat) (a b : List UInt8) (la : a.length ≤ 100000000) (lb : b.length ≤ 100000000) (n1 : (b == [49]) = false) (n2 : (b == [45, 49]) = false) 
    (s1 : ∀ W, Below w.heap.size w W → Calls Tryz.prog 60 #[.pointer (some ⟨u, 0, none⟩)] W fun e w' => e = .returned (.int .i64 (-1)) ∧ Below W.heap.size W w')
    (s2 : ∀ W, Below w.heap.size w W → Calls Tryz.prog 60 #[.pointer (some ⟨v, 0, none⟩)] W fun e w' => e = .returned (.int .i64 (-1)) ∧ Below W.heap.size W w')
    (c1 : ∀ W, Below w.heap.size w W → Calls Tryz.prog 61 #[.pointer (some ⟨u, 0, none⟩)] W fun e w' => e = .returned (.string ⟨a.toArray⟩) ∧ Below W.heap.size W w')
    (c2 : ∀ W, Below w.heap.size w W → Calls Tryz.prog 61 #[.pointer (some ⟨v, 0, none⟩)] W fun e w' => e = .returned (.string ⟨(b : List UInt8).toArray⟩) ∧ Below W.heap.size W w')
    (ha : (a == [48]) = false) (hb : ((b : List UInt8) == [48]) = false) (hn : (((b : List UInt8).headD 0).toNat == 45) = true) :
    Calls Tryz.prog 23 #[.agg #[.pointer (some ⟨u, 0, none⟩), .pointer (some ⟨v, 0, none⟩)]] w fun e w' => e = .returned (sOf (joinB a b)) ∧ Below w.heap.size w w' := by
  have S1 := Lib.hid s1; have S2 := Lib.hid s2; have C1 := Lib.hid c1; have C2 := Lib.hid c2
  have HJ := Lib.hid (show joinB a b = if (b : List UInt8) == [48] then a else if a == [48] then secB b else if ((b : List UInt8).headD 0).toNat == 45 then a ++ secB b else (a ++ [43]) ++ secB b from rfl)
  have HS := Lib.hid (show secB b = b ++ [105] by unfold secB; rw [n1, n2]; rfl)
  have e1 : ∀ W, (Op.stringOp .add ⟨b.toArray⟩ ⟨#[105]⟩).run Tryz.prog W = .ok (.string ⟨(b ++ [105]).toArray⟩) W := fun W => addS b [105] (by omega) (by simp) W
  have q1 : (b ++ [105] == [49, 105]) = false := by
    rw [← n1, show ([49, 105] : List UInt8) = [49] ++ [105] from rfl, Bool.eq_iff_iff, beq_iff_eq, beq_iff_eq, List.append_left_inj]
  have q2 : (b ++ [105] == [45, 49, 105]) = false := by
    rw [← n2, show ([45, 49, 105] : List UInt8) = [45, 49] ++ [105] from rfl, Bool.eq_iff_iff, beq_iff_eq, beq_iff_eq, List.append_left_inj]
  have e2 : ∀ W, (Op.stringOp .add ⟨#[43]⟩ ⟨(b ++ [105]).toArray⟩).run Tryz.prog W = .ok (.string ⟨([43] ++ (b ++ [105])).toArray⟩) W := fun W => addS [43] (b ++ [105]) (by simp) (by simp; omega) W
  have e3 : ∀ W, (Op.stringOp .add ⟨a.toArray⟩ ⟨(b ++ [105]).toArray⟩).run Tryz.prog W = .ok (.string ⟨(a ++ (b ++ [105])).toArray⟩) W := fun W => addS a (b ++ [105]) (by omega) (by simp; omega) W
  have e4 : ∀ W, (Op.stringOp .add ⟨a.toArray⟩ ⟨([43] ++ (b ++ [105])).toArray⟩).run Tryz.prog W = .ok (.string ⟨(a ++ ([43] ++ (b ++ [105]))).toArray⟩) W := fun W => addS a ([43] ++ (b ++ [105])) (by omega) (by simp; omega) W
  have HF := Lib.hid (And.intro ha (And.intro hb hn))
  have HB0 := Lib.hid (box1_below w (.cells #[.pointer (some ⟨u, 0, none⟩), .pointer (some ⟨v, 0, none⟩)] 50))
  have HN0 := Lib.hid (AtL.new w 50 #[.pointer (some ⟨u, 0, none⟩), .pointer (some ⟨v, 0, none⟩)])
  clear s1 s2 c1 c2 ha hb hn
  have k0 := True.intro; have k1 := True.intro
  go_enter Tryz.func23, Tryz.ntmps23
  go_wp2_with fail
  generalize w.alloc (.cells #[.pointer (some ⟨u, 0, none⟩), .pointer (some ⟨v, 0, none⟩)] 50) = w0 at *
  refine (S2.out _ HB0.out).mono ?_
  rintro e w1 ⟨rfl, hw⟩
  have HB1 := Lib.hid (HB0.out.trans (hw.mono HB0.out.size))
  have HN1 := Lib.hid (HN0.out.keep hw)
  clear hw HN0 HB0 k0 k1
  have k0 := HN1.out.cell 0 rfl; have k1 := HN1.out.cell 1 rfl
  go_wp2_with fail
  refine (C2.out _ HB1.out).mono ?_
  rintro e w2 ⟨rfl, hw⟩
  have HB2 := Lib.hid (HB1.out.trans (hw.mono HB1.out.size))
  have HN2 := Lib.hid (HN1.out.keep hw)
  clear hw HN1 HB1 k0 k1
  have k0 := HN2.out.cell 0 rfl; have k1 := HN2.out.cell 1 rfl
  go_wp2_with fail
  refine (S1.out _ HB2.out).mono ?_
  rintro e w3 ⟨rfl, hw⟩
  have HB3 := Lib.hid (HB2.out.trans (hw.mono HB2.out.size))
  have HN3 := Lib.hid (HN2.out.keep hw)
  clear hw HN2 HB2 k0 k1
  have k0 := HN3.out.cell 0 rfl; have k1 := HN3.out.cell 1 rfl
  go_wp2_with fail
  refine (S2.out _ HB3.out).mono ?_
  rintro e w4 ⟨rfl, hw⟩
  have HB4 := Lib.hid (HB3.out.trans (hw.mono HB3.out.size))
  have HN4 := Lib.hid (HN3.out.keep hw)
  clear hw HN3 HB3 k0 k1
  have k0 := HN4.out.cell 0 rfl; have k1 := HN4.out.cell 1 rfl
  go_wp2_with fail
  refine (C1.out _ HB4.out).mono ?_
  rintro e w5 ⟨rfl, hw⟩
  have HB5 := Lib.hid (HB4.out.trans (hw.mono HB4.out.size))
  have HN5 := Lib.hid (HN4.out.keep hw)
  clear hw HN4 HB4 k0 k1
  have k0 := HN5.out.cell 0 rfl; have k1 := HN5.out.cell 1 rfl
  go_wp2_with fail
  go_ret
  refine ⟨?_, HB5.out⟩
  obtain ⟨ha, hb, hn⟩ := HF.out
  refine congrArg Ending.returned (congrArg sOf (?_ : _ = joinB a b))
  rw [HJ.out]
  rw [HS.out]
  simp only [ha, hb, hn, if_true, if_false, Bool.false_eq_true]
  try simp only [List.append_assoc, List.cons_append, List.nil_append]
  try (first | rfl | exact congrArg (a ++ ·) (show _ = [45, 105] from rfl) | decide)
end Gp
end Ev
end Go.Proofs.YtepnghhgmjobjaaGreatDoor
