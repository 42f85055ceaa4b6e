/- Contracts, in this order: turn.Parts, turn.Disc: what they answer. -/
import Derived.Test.YtepnghhgmjobjaaTq22
namespace Go.Proofs.Ytepnghhgmjobjaa
open Go Go.RowKit
namespace Tp
set_option maxRecDepth 100000
def WayRes (W : World) (q r : Int) (m : Bool) (c : Int) (e : Ending) (w' : World) : Prop := e = .returned (.tuple #[.agg #[.int .i64 q, .int .i64 r, .bool m], .int .i64 c]) ∧ Below W.heap.size W w'
set_option maxHeartbeats 4000000 in
theorem parts_err (w : World) (k n c : Int) (hc : c ≠ 0) (HW : ∀ W, Calls Try.prog 41 #[.int .i64 k, .int .i64 n] W (WayRes W 0 0 false c)) : Calls Try.prog 15 #[.int .i64 k, .int .i64 n] w fun e w' => e = .returned (.tuple #[.complex .f64 0 0, .int .i64 c]) ∧ Below w.heap.size w w' := by
  have H := Lib.hid (HW w)
  clear HW
  go_enter Try.func15, Try.ntmps15
  go_wp2_with fail
  refine H.out.mono ?_
  rintro e w1 ⟨rfl, hb1⟩
  have HB := Lib.hid (below_alloc hb1 (Nat.le_refl _) (.cells #[.int .i64 0, .int .i64 0, .bool false] 81))
  clear hb1 H
  go_wp2_with fail
  go_ret2
  exact ⟨rfl, HB.out⟩
set_option maxHeartbeats 4000000 in
theorem parts_ok (w : World) (k n q r : Int) (m : Bool) (c d : Nat) (HW : ∀ W, Calls Try.prog 41 #[.int .i64 k, .int .i64 n] W (WayRes W q r m 0)) (HP : ∀ W, Below w.heap.size w W → Calls Try.prog 42 #[.agg #[.int .i64 q, .int .i64 r, .bool m]] W fun e w' => e = .returned (.complex .f64 c d) ∧ Below W.heap.size W w') : Calls Try.prog 15 #[.int .i64 k, .int .i64 n] w fun e w' => e = .returned (.tuple #[.complex .f64 c d, .int .i64 0]) ∧ Below w.heap.size w w' := by
  have H := Lib.hid (HW w)
  have HP := Lib.hid HP
  clear HW
  go_enter Try.func15, Try.ntmps15
  go_wp2_with fail
  refine H.out.mono ?_
  rintro e w1 ⟨rfl, hb1⟩
  have HB := Lib.hid (below_alloc hb1 (Nat.le_refl _) (.cells #[.int .i64 q, .int .i64 r, .bool m] 81))
  have HN := Lib.hid (At3.new w1 81 (.int .i64 q) (.int .i64 r) (.bool m))
  have x0 := HN.out.c0; have x1 := HN.out.c1; have x2 := HN.out.c2
  clear hb1 H
  go_wp2_with (go_at_call 42; refine (HP.out _ HB.out).mono ?_; rintro e w2 ⟨rfl, hb2⟩)
  have HB2 := Lib.hid (HB.out.trans (hb2.mono HB.out.size))
  go_ret2
  exact ⟨rfl, HB2.out⟩
set_option maxHeartbeats 4000000 in
theorem disc_err (w : World) (k n c : Int) (hc : c ≠ 0) (HW : ∀ W, Calls Try.prog 41 #[.int .i64 k, .int .i64 n] W (WayRes W 0 0 false c)) : Calls Try.prog 18 #[.int .i64 k, .int .i64 n] w fun e w' => e = .returned (.tuple #[.agg #[.complex .f64 0 0, .float .f64 0], .int .i64 c]) ∧ Below w.heap.size w w' := by
  have HA := Lib.hid (box1_below w (.cells #[.complex .f64 0 0, .float .f64 0] 49))
  have HD := Lib.hid (AtL.new w 49 #[.complex .f64 0 0, .float .f64 0])
  have H := Lib.hid (HW (w.alloc (.cells #[.complex .f64 0 0, .float .f64 0] 49)))
  clear HW
  go_enter Try.func18, Try.ntmps18
  go_wp2_with fail
  refine H.out.mono ?_
  generalize w.alloc (.cells #[.complex .f64 0 0, .float .f64 0] 49) = wa at *
  rintro e w1 ⟨rfl, hb1⟩
  have HB := Lib.hid (below_alloc (HA.out.trans (hb1.mono HA.out.size)) (Nat.le_refl _) (.cells #[.int .i64 0, .int .i64 0, .bool false] 81))
  have HD1 := Lib.hid ((HD.out.keep hb1).alloc' (.cells #[.int .i64 0, .int .i64 0, .bool false] 81))
  have k0 := HD1.out.cell 0 rfl; have k1 := HD1.out.cell 1 rfl; have q0 := HD1.out.frozen 0; have q1 := HD1.out.frozen 1
  have HD2 := Lib.hid ((HD1.out.set 0 (.complex .f64 0 0)).set 1 (.float .f64 0))
  have HE := Lib.hid ((HB.out.setCell (p := ⟨w.heap.size, 0, none⟩) (Nat.le_refl _) (.complex .f64 0 0)).setCell (p := ⟨w.heap.size, 1, none⟩) (Nat.le_refl _) (.float .f64 0))
  clear hb1 H HA HD HB
  go_wp2_with fail
  have r0 := HD2.out.cell 0 rfl; have r1 := HD2.out.cell 1 rfl
  exact bodyPost_ret (v := .tuple #[.agg #[.complex .f64 0 0, .float .f64 0], .int .i64 c]) (by simp [results, Try.results18, go_sem, r0, r1]) rfl ⟨rfl, HE.out⟩
set_option maxHeartbeats 4000000 in
theorem disc_zero (w : World) (k n q : Int) (m : Bool) (c d : Nat) (HW : ∀ W, Calls Try.prog 41 #[.int .i64 k, .int .i64 n] W (WayRes W q 0 m 0)) (HP : ∀ W, Below w.heap.size w W → Calls Try.prog 42 #[.agg #[.int .i64 q, .int .i64 0, .bool m]] W fun e w' => e = .returned (.complex .f64 c d) ∧ Below W.heap.size W w') : Calls Try.prog 18 #[.int .i64 k, .int .i64 n] w fun e w' => e = .returned (.tuple #[.agg #[.complex .f64 c d, .float .f64 0], .int .i64 0]) ∧ Below w.heap.size w w' := by
  have HP := Lib.hid HP
  have HA := Lib.hid (box1_below w (.cells #[.complex .f64 0 0, .float .f64 0] 49))
  have HD := Lib.hid (AtL.new w 49 #[.complex .f64 0 0, .float .f64 0])
  have H := Lib.hid (HW (w.alloc (.cells #[.complex .f64 0 0, .float .f64 0] 49)))
  clear HW
  go_enter Try.func18, Try.ntmps18
  go_wp2_with fail
  refine H.out.mono ?_
  generalize w.alloc (.cells #[.complex .f64 0 0, .float .f64 0] 49) = wa at *
  rintro e w1 ⟨rfl, hb1⟩
  have HB := Lib.hid (below_alloc (HA.out.trans (hb1.mono HA.out.size)) (Nat.le_refl _) (.cells #[.int .i64 q, .int .i64 0, .bool m] 81))
  have HD1 := Lib.hid ((HD.out.keep hb1).alloc' (.cells #[.int .i64 q, .int .i64 0, .bool m] 81))
  have HN := Lib.hid (At3.new w1 81 (.int .i64 q) (.int .i64 0) (.bool m))
  have x0 := HN.out.c0; have x1 := HN.out.c1; have x2 := HN.out.c2
  clear hb1 H HA HD
  go_wp2_with fail
  refine (HP.out _ HB.out).mono ?_
  generalize w1.alloc (.cells #[.int .i64 q, .int .i64 0, .bool m] 81) = wb at *
  rintro e w2 ⟨rfl, hb2⟩
  have HB2 := Lib.hid (HB.out.trans (hb2.mono HB.out.size))
  have HD2 := Lib.hid (HD1.out.keep hb2)
  have k0 := HD2.out.cell 0 rfl; have k1 := HD2.out.cell 1 rfl; have q0 := HD2.out.frozen 0; have q1 := HD2.out.frozen 1
  have HD3 := Lib.hid ((HD2.out.set 0 (.complex .f64 c d)).set 1 (.float .f64 0))
  have HE := Lib.hid ((HB2.out.setCell (p := ⟨w.heap.size, 0, none⟩) (Nat.le_refl _) (.complex .f64 c d)).setCell (p := ⟨w.heap.size, 1, none⟩) (Nat.le_refl _) (.float .f64 0))
  clear hb2 HB HD1 HB2 x0 x1 x2 HN
  go_wp2_with fail
  have r0 := HD3.out.cell 0 rfl; have r1 := HD3.out.cell 1 rfl
  exact bodyPost_ret (v := .tuple #[.agg #[.complex .f64 c d, .float .f64 0], .int .i64 0]) (by simp [results, Try.results18, go_sem, r0, r1]) rfl ⟨rfl, HE.out⟩
set_option maxHeartbeats 4000000 in
theorem disc_pos (w : World) (k n q r : Int) (m : Bool) (c d : Nat) (hr : ¬ r = 0) (HW : ∀ W, Calls Try.prog 41 #[.int .i64 k, .int .i64 n] W (WayRes W q r m 0)) (HP : ∀ W, Below w.heap.size w W → Calls Try.prog 42 #[.agg #[.int .i64 q, .int .i64 r, .bool m]] W fun e w' => e = .returned (.complex .f64 c d) ∧ Below W.heap.size W w') : Calls Try.prog 18 #[.int .i64 k, .int .i64 n] w fun e w' => e = .returned (.tuple #[.agg #[.complex .f64 c d, .float .f64 4409024035195715584], .int .i64 0]) ∧ Below w.heap.size w w' := by
  have HP := Lib.hid HP
  have HA := Lib.hid (box1_below w (.cells #[.complex .f64 0 0, .float .f64 0] 49))
  have HD := Lib.hid (AtL.new w 49 #[.complex .f64 0 0, .float .f64 0])
  have H := Lib.hid (HW (w.alloc (.cells #[.complex .f64 0 0, .float .f64 0] 49)))
  clear HW
  go_enter Try.func18, Try.ntmps18
  go_wp2_with fail
  refine H.out.mono ?_
  generalize w.alloc (.cells #[.complex .f64 0 0, .float .f64 0] 49) = wa at *
  rintro e w1 ⟨rfl, hb1⟩
  have HB := Lib.hid (below_alloc (HA.out.trans (hb1.mono HA.out.size)) (Nat.le_refl _) (.cells #[.int .i64 q, .int .i64 r, .bool m] 81))
  have HD1 := Lib.hid ((HD.out.keep hb1).alloc' (.cells #[.int .i64 q, .int .i64 r, .bool m] 81))
  have HN := Lib.hid (At3.new w1 81 (.int .i64 q) (.int .i64 r) (.bool m))
  have x0 := HN.out.c0; have x1 := HN.out.c1; have x2 := HN.out.c2
  clear hb1 H HA HD
  go_wp2_with fail
  refine (HP.out _ HB.out).mono ?_
  generalize w1.alloc (.cells #[.int .i64 q, .int .i64 r, .bool m] 81) = wb at *
  rintro e w2 ⟨rfl, hb2⟩
  have HB2 := Lib.hid (HB.out.trans (hb2.mono HB.out.size))
  have HD2 := Lib.hid (HD1.out.keep hb2)
  have k0 := HD2.out.cell 0 rfl; have k1 := HD2.out.cell 1 rfl; have q0 := HD2.out.frozen 0; have q1 := HD2.out.frozen 1
  have HD3 := Lib.hid ((HD2.out.set 0 (.complex .f64 c d)).set 1 (.float .f64 4409024035195715584))
  have HE := Lib.hid ((HB2.out.setCell (p := ⟨w.heap.size, 0, none⟩) (Nat.le_refl _) (.complex .f64 c d)).setCell (p := ⟨w.heap.size, 1, none⟩) (Nat.le_refl _) (.float .f64 4409024035195715584))
  clear hb2 HB HD1 HB2 x0 x1 x2 HN
  go_wp2_with fail
  have r0 := HD3.out.cell 0 rfl; have r1 := HD3.out.cell 1 rfl
  exact bodyPost_ret (v := .tuple #[.agg #[.complex .f64 c d, .float .f64 4409024035195715584], .int .i64 0]) (by simp [results, Try.results18, go_sem, r0, r1]) rfl ⟨rfl, HE.out⟩
theorem may_low (w : World) (n : Int) (hn : n < 0) : Calls Try.prog 43 #[.int .i64 n] w fun e w' => e = .returned (.int .i64 2) ∧ w = w' := by
  go_enter Try.func43, Try.ntmps43
  go_wp2
  go_ret
  exact ⟨rfl, rfl⟩
theorem may_high (w : World) (n : Int) (hn : 16 < n) : Calls Try.prog 43 #[.int .i64 n] w fun e w' => e = .returned (.int .i64 3) ∧ w = w' := by
  have n0 : ¬ n < 0 := by omega
  go_enter Try.func43, Try.ntmps43
  go_wp2
  go_ret
  exact ⟨rfl, rfl⟩
theorem may_mid (w : World) (n : Int) (h0 : 0 ≤ n) (h1 : n ≤ 16) : Calls Try.prog 43 #[.int .i64 n] w fun e w' => e = .returned (.int .i64 0) ∧ w = w' := by
  have n0 : ¬ n < 0 := by omega
  have n1 : ¬ n > 16 := by omega
  go_enter Try.func43, Try.ntmps43
  go_wp2
  go_ret
  exact ⟨rfl, rfl⟩
theorem rparts_err (w : World) (k n c : Int) (hc : c ≠ 0) (HM : ∀ w, Calls Try.prog 43 #[.int .i64 n] w fun e w' => e = .returned (.int .i64 c) ∧ w = w') : Calls Try.prog 16 #[.int .i64 k, .int .i64 n] w fun e w' => e = .returned (.tuple #[.complex .f64 0 0, .int .i64 c]) ∧ Below w.heap.size w w' := by
  have HM := Lib.hid HM
  go_enter Try.func16, Try.ntmps16
  go_wp2_with (go_at_call 43; refine (HM.out _).mono ?_; rintro e w' ⟨rfl, rfl⟩)
  go_ret2
  exact ⟨rfl, Below.refl _ _⟩
theorem rparts_ok (w : World) (k n : Int) (c d : Nat) (HM : ∀ w, Calls Try.prog 43 #[.int .i64 n] w fun e w' => e = .returned (.int .i64 0) ∧ w = w') (HP : ∀ W, Below w.heap.size w W → Calls Try.prog 44 #[.int .i64 k, .int .i64 n] W fun e w' => e = .returned (.complex .f64 c d) ∧ Below W.heap.size W w') : Calls Try.prog 16 #[.int .i64 k, .int .i64 n] w fun e w' => e = .returned (.tuple #[.complex .f64 c d, .int .i64 0]) ∧ Below w.heap.size w w' := by
  have HM := Lib.hid HM
  have HP := Lib.hid (HP w (Below.refl _ _))
  go_enter Try.func16, Try.ntmps16
  go_wp2_with (first | (go_at_call 43; refine (HM.out _).mono ?_; rintro e w' ⟨rfl, rfl⟩) | (go_at_call 44; refine HP.out.mono ?_; rintro e w2 ⟨rfl, hb2⟩))
  go_ret2
  exact ⟨rfl, hb2⟩
set_option maxHeartbeats 4000000 in
theorem rdisc_err (w : World) (k n c : Int) (hc : c ≠ 0) (HM : ∀ w, Calls Try.prog 43 #[.int .i64 n] w fun e w' => e = .returned (.int .i64 c) ∧ w = w') : Calls Try.prog 19 #[.int .i64 k, .int .i64 n] w fun e w' => e = .returned (.tuple #[.agg #[.complex .f64 0 0, .float .f64 0], .int .i64 c]) ∧ Below w.heap.size w w' := by
  have HA := Lib.hid (box1_below w (.cells #[.complex .f64 0 0, .float .f64 0] 49))
  have HD := Lib.hid (AtL.new w 49 #[.complex .f64 0 0, .float .f64 0])
  have HM := Lib.hid HM
  have k0 := HD.out.cell 0 rfl; have k1 := HD.out.cell 1 rfl; have q0 := HD.out.frozen 0; have q1 := HD.out.frozen 1
  have HD2 := Lib.hid ((HD.out.set 0 (.complex .f64 0 0)).set 1 (.float .f64 0))
  have HE := Lib.hid ((HA.out.setCell (p := ⟨w.heap.size, 0, none⟩) (Nat.le_refl _) (.complex .f64 0 0)).setCell (p := ⟨w.heap.size, 1, none⟩) (Nat.le_refl _) (.float .f64 0))
  go_enter Try.func19, Try.ntmps19
  go_wp2_with (go_at_call 43; refine (HM.out _).mono ?_; rintro e w' ⟨rfl, rfl⟩)
  have r0 := HD2.out.cell 0 rfl; have r1 := HD2.out.cell 1 rfl; have s0 := HD.out.cell 0 rfl; have s1 := HD.out.cell 1 rfl
  first
    | exact bodyPost_ret (v := .tuple #[.agg #[.complex .f64 0 0, .float .f64 0], .int .i64 c]) (by simp [results, Try.results19, go_sem, s0, s1]) rfl ⟨rfl, HA.out⟩
    | exact bodyPost_ret (v := .tuple #[.agg #[.complex .f64 0 0, .float .f64 0], .int .i64 c]) (by simp [results, Try.results19, go_sem, r0, r1]) rfl ⟨rfl, HE.out⟩
end Tp
end Go.Proofs.Ytepnghhgmjobjaa
