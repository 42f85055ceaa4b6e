/- Contracts, in this order: ref07.Disc where there is a point. -/
import Derived.Test.YtepnghhgmjobjaaTq23
namespace Go.Proofs.Ytepnghhgmjobjaa
open Go Go.RowKit
namespace Tp
set_option maxRecDepth 100000
set_option maxHeartbeats 4000000 in
theorem rdisc_pos (w : World) (k n : Int) (c d : Nat) (hc : (FloatKind.f64.format.order c 0 == some .eq) = false) (hd : (FloatKind.f64.format.order d 0 == some .eq) = false) (HM : ∀ w, Calls Try.prog 43 #[.int .i64 n] w fun e w' => e = .returned (.int .i64 0) ∧ w = w') (HP : ∀ W, Below w.heap.size w W → Calls Try.prog 44 #[.int .i64 k, .int .i64 n] W fun e w' => e = .returned (.complex .f64 c d) ∧ Below W.heap.size W w') : Calls Try.prog 19 #[.int .i64 k, .int .i64 n] w fun e w' => e = .returned (.tuple #[.agg #[.complex .f64 c d, .float .f64 4409024035195715584], .int .i64 0]) ∧ Below w.heap.size w w' := by
  have HA := Lib.hid (box1_below w (.cells #[.complex .f64 0 0, .float .f64 0] 49))
  have HD := Lib.hid (AtL.new w 49 #[.complex .f64 0 0, .float .f64 0])
  have HM := Lib.hid HM
  have HP := Lib.hid (HP _ HA.out)
  go_enter Try.func19, Try.ntmps19
  go_wp2_with (go_at_call 43; refine (HM.out _).mono ?_; rintro e w' ⟨rfl, rfl⟩)
  refine HP.out.mono ?_
  generalize w.alloc (.cells #[.complex .f64 0 0, .float .f64 0] 49) = wa at *
  rintro e w1 ⟨rfl, hb1⟩
  have HB := Lib.hid (below_alloc (HA.out.trans (hb1.mono HA.out.size)) (Nat.le_refl _) (.cells #[.complex .f64 c d, .float .f64 4409024035195715584] 49))
  have HD1 := Lib.hid ((HD.out.keep hb1).alloc' (.cells #[.complex .f64 c d, .float .f64 4409024035195715584] 49))
  have HN := Lib.hid (AtL.new w1 49 #[.complex .f64 c d, .float .f64 4409024035195715584])
  have x0 := HN.out.cell 0 rfl; have x1 := HN.out.cell 1 rfl; have y1 := HN.out.frozen 1
  have HSZ := hb1.size
  have hsz : w.heap.size ≠ w1.heap.size := by have := HD.out.lt; omega
  clear hb1 HA HD HP
  have k0 := HD1.out.cell 0 rfl; have k1 := HD1.out.cell 1 rfl; have q0 := HD1.out.frozen 0; have q1 := HD1.out.frozen 1
  have HD2 := Lib.hid ((HD1.out.set 0 (.complex .f64 c d)).set 1 (.float .f64 4409024035195715584))
  have HE := Lib.hid ((HB.out.setCell (p := ⟨w.heap.size, 0, none⟩) (Nat.le_refl _) (.complex .f64 c d)).setCell (p := ⟨w.heap.size, 1, none⟩) (Nat.le_refl _) (.float .f64 4409024035195715584))
  go_wp2_with fail
  have r0 := HD2.out.cell 0 rfl; have r1 := HD2.out.cell 1 rfl
  exact bodyPost_ret (v := .tuple #[.agg #[.complex .f64 c d, .float .f64 4409024035195715584], .int .i64 0]) (by simp [results, Try.results19, go_sem, r0, r1]) rfl ⟨rfl, HE.out⟩
set_option maxHeartbeats 4000000 in
theorem rdisc_z1 (w : World) (k n : Int) (c d : Nat) (hc : (FloatKind.f64.format.order c 0 == some .eq) = true) (HM : ∀ w, Calls Try.prog 43 #[.int .i64 n] w fun e w' => e = .returned (.int .i64 0) ∧ w = w') (HP : ∀ W, Below w.heap.size w W → Calls Try.prog 44 #[.int .i64 k, .int .i64 n] W fun e w' => e = .returned (.complex .f64 c d) ∧ Below W.heap.size W w') : Calls Try.prog 19 #[.int .i64 k, .int .i64 n] w fun e w' => e = .returned (.tuple #[.agg #[.complex .f64 c d, .float .f64 0], .int .i64 0]) ∧ Below w.heap.size w w' := by
  have HA := Lib.hid (box1_below w (.cells #[.complex .f64 0 0, .float .f64 0] 49))
  have HD := Lib.hid (AtL.new w 49 #[.complex .f64 0 0, .float .f64 0])
  have HM := Lib.hid HM
  have HP := Lib.hid (HP _ HA.out)
  go_enter Try.func19, Try.ntmps19
  go_wp2_with (go_at_call 43; refine (HM.out _).mono ?_; rintro e w' ⟨rfl, rfl⟩)
  refine HP.out.mono ?_
  generalize w.alloc (.cells #[.complex .f64 0 0, .float .f64 0] 49) = wa at *
  rintro e w1 ⟨rfl, hb1⟩
  have HB := Lib.hid (below_alloc (HA.out.trans (hb1.mono HA.out.size)) (Nat.le_refl _) (.cells #[.complex .f64 c d, .float .f64 4409024035195715584] 49))
  have HD1 := Lib.hid ((HD.out.keep hb1).alloc' (.cells #[.complex .f64 c d, .float .f64 4409024035195715584] 49))
  have HN := Lib.hid (AtL.new w1 49 #[.complex .f64 c d, .float .f64 4409024035195715584])
  have x0 := HN.out.cell 0 rfl; have x1 := HN.out.cell 1 rfl; have y1 := HN.out.frozen 1
  have HBz := Lib.hid (below_alloc (HA.out.trans (hb1.mono HA.out.size)) (Nat.le_refl _) (.cells #[.complex .f64 c d, .float .f64 0] 49))
  have HDz := Lib.hid ((HD.out.keep hb1).alloc' (.cells #[.complex .f64 c d, .float .f64 0] 49))
  have HNz := Lib.hid (AtL.new w1 49 #[.complex .f64 c d, .float .f64 0])
  have z0 := HNz.out.cell 0 rfl; have z1 := HNz.out.cell 1 rfl
  have k0 := HDz.out.cell 0 rfl; have k1 := HDz.out.cell 1 rfl; have q0 := HDz.out.frozen 0; have q1 := HDz.out.frozen 1
  have HD2 := Lib.hid ((HDz.out.set 0 (.complex .f64 c d)).set 1 (.float .f64 0))
  have HE := Lib.hid ((HBz.out.setCell (p := ⟨w.heap.size, 0, none⟩) (Nat.le_refl _) (.complex .f64 c d)).setCell (p := ⟨w.heap.size, 1, none⟩) (Nat.le_refl _) (.float .f64 0))
  clear hb1 HA HD HP HB HD1
  go_wp2_with fail
  have r0 := HD2.out.cell 0 rfl; have r1 := HD2.out.cell 1 rfl
  exact bodyPost_ret (v := .tuple #[.agg #[.complex .f64 c d, .float .f64 0], .int .i64 0]) (by simp [results, Try.results19, go_sem, r0, r1]) rfl ⟨rfl, HE.out⟩
set_option maxHeartbeats 4000000 in
theorem rdisc_z2 (w : World) (k n : Int) (c d : Nat) (hc : (FloatKind.f64.format.order c 0 == some .eq) = false) (hd : (FloatKind.f64.format.order d 0 == some .eq) = true) (HM : ∀ w, Calls Try.prog 43 #[.int .i64 n] w fun e w' => e = .returned (.int .i64 0) ∧ w = w') (HP : ∀ W, Below w.heap.size w W → Calls Try.prog 44 #[.int .i64 k, .int .i64 n] W fun e w' => e = .returned (.complex .f64 c d) ∧ Below W.heap.size W w') : Calls Try.prog 19 #[.int .i64 k, .int .i64 n] w fun e w' => e = .returned (.tuple #[.agg #[.complex .f64 c d, .float .f64 0], .int .i64 0]) ∧ Below w.heap.size w w' := by
  have HA := Lib.hid (box1_below w (.cells #[.complex .f64 0 0, .float .f64 0] 49))
  have HD := Lib.hid (AtL.new w 49 #[.complex .f64 0 0, .float .f64 0])
  have HM := Lib.hid HM
  have HP := Lib.hid (HP _ HA.out)
  go_enter Try.func19, Try.ntmps19
  go_wp2_with (go_at_call 43; refine (HM.out _).mono ?_; rintro e w' ⟨rfl, rfl⟩)
  refine HP.out.mono ?_
  generalize w.alloc (.cells #[.complex .f64 0 0, .float .f64 0] 49) = wa at *
  rintro e w1 ⟨rfl, hb1⟩
  have HB := Lib.hid (below_alloc (HA.out.trans (hb1.mono HA.out.size)) (Nat.le_refl _) (.cells #[.complex .f64 c d, .float .f64 4409024035195715584] 49))
  have HD1 := Lib.hid ((HD.out.keep hb1).alloc' (.cells #[.complex .f64 c d, .float .f64 4409024035195715584] 49))
  have HN := Lib.hid (AtL.new w1 49 #[.complex .f64 c d, .float .f64 4409024035195715584])
  have x0 := HN.out.cell 0 rfl; have x1 := HN.out.cell 1 rfl; have y1 := HN.out.frozen 1
  have HBz := Lib.hid (below_alloc (HA.out.trans (hb1.mono HA.out.size)) (Nat.le_refl _) (.cells #[.complex .f64 c d, .float .f64 0] 49))
  have HDz := Lib.hid ((HD.out.keep hb1).alloc' (.cells #[.complex .f64 c d, .float .f64 0] 49))
  have HNz := Lib.hid (AtL.new w1 49 #[.complex .f64 c d, .float .f64 0])
  have z0 := HNz.out.cell 0 rfl; have z1 := HNz.out.cell 1 rfl
  have k0 := HDz.out.cell 0 rfl; have k1 := HDz.out.cell 1 rfl; have q0 := HDz.out.frozen 0; have q1 := HDz.out.frozen 1
  have HD2 := Lib.hid ((HDz.out.set 0 (.complex .f64 c d)).set 1 (.float .f64 0))
  have HE := Lib.hid ((HBz.out.setCell (p := ⟨w.heap.size, 0, none⟩) (Nat.le_refl _) (.complex .f64 c d)).setCell (p := ⟨w.heap.size, 1, none⟩) (Nat.le_refl _) (.float .f64 0))
  clear hb1 HA HD HP HB HD1
  go_wp2_with fail
  have r0 := HD2.out.cell 0 rfl; have r1 := HD2.out.cell 1 rfl
  exact bodyPost_ret (v := .tuple #[.agg #[.complex .f64 c d, .float .f64 0], .int .i64 0]) (by simp [results, Try.results19, go_sem, r0, r1]) rfl ⟨rfl, HE.out⟩
end Tp
end Go.Proofs.Ytepnghhgmjobjaa
