/- Contracts, in this order: turn: the point where a way leads. -/
import Derived.Test.YtepnghhgmjobjaaTq20
namespace Go.Proofs.Ytepnghhgmjobjaa
open Go Go.RowKit
namespace Tp
set_option maxRecDepth 100000
def zOf (r : Nat) : Nat × Nat := (prodC r 14).getD oneC
theorem zOf_is {r a b : Nat} (h : prodC r 14 = some (a, b)) : zOf r = (a, b) := by unfold zOf; rw [h]; rfl
def rot (z : Nat × Nat) : Nat × Nat := (Op.negFloat .f64 z.2, z.1)
def rotI : Nat → Nat × Nat → Nat × Nat
  | 0, z => z
  | n + 1, z => rot (rotI n z)
def swp (m : Bool) (z : Nat × Nat) : Nat × Nat := if m = true then (z.2, z.1) else z
def ptC (q : Nat) (m : Bool) (z : Nat × Nat) : Nat × Nat := (unsN (rotI q (swp m z)).1, unsN (rotI q (swp m z)).2)
set_option maxHeartbeats 4000000 in
theorem point_any (w : World) (q r : Nat) (m : Bool) (hq : q ≤ 3) (hr : r ≤ 8192) (hG : Try.prog.globals.size ≤ w.heap.size) : Calls Try.prog 42 #[.agg #[.int .i64 q, .int .i64 r, .bool m]] w fun e w' => e = .returned (.complex .f64 (ptC q m (zOf r)).1 (ptC q m (zOf r)).2) ∧ Below w.heap.size w w' := by
  have HN := Lib.hid (At3.new w 81 (.int .i64 q) (.int .i64 r) (.bool m))
  have HB := Lib.hid (box1_below w (.cells #[.int .i64 q, .int .i64 r, .bool m] 81))
  have HP := Lib.hid (product_any (w.alloc (.cells #[.int .i64 q, .int .i64 r, .bool m] 81)) q r m hr (Nat.le_trans hG HB.out.size))
  have x0 := HN.out.c0; have x1 := HN.out.c1; have x2 := HN.out.c2
  clear hG
  go_enter Try.func42, Try.ntmps42
  go_wp2_with fail
  refine HP.out.mono ?_
  generalize w.alloc (.cells #[.int .i64 q, .int .i64 r, .bool m] 81) = wa at *
  rintro e w1 ⟨⟨a, b, hab, rfl⟩, hb1⟩
  have HB1 := Lib.hid (HB.out.trans (hb1.mono HB.out.size))
  have HN1 := HN.out.keep hb1
  have HZ := Lib.hid (zOf_is hab)
  have y0 := HN1.c0; have y1 := HN1.c1; have y2 := HN1.c2
  clear hb1 HN HB HP x0 x1 x2 hab HN1
  cases m
  · have HS := Lib.hid (show swp false (zOf r) = (a, b) by unfold swp; rw [HZ.out]; rfl)
    go_wp2_with fail
    go_loopw [3, 15] (fun zv iv wr => ∃ (i : Nat), i ≤ q ∧ iv = .int .i64 i ∧ zv = .complex .f64 (rotI i (a, b)).1 (rotI i (a, b)).2 ∧ Hid (Below w.heap.size w wr)) (fun _ iv _ => q - (intOf iv).toNat)
    case atStart => exact ⟨0, by omega, rfl, rfl, HB1⟩
    case round =>
      obtain ⟨i, hi, rfl, rfl, HBr⟩ := hrel
      by_cases hlt : i < q
      · have hlt' : (i : Int) < (q : Int) := by omega
        go_wp2_with fail
        go_roundw
        case rel => exact ⟨i + 1, by omega, by go_num, rfl, HBr⟩
        case measure => simp [intOf]; omega
      · have hlt' : ¬ (i : Int) < (q : Int) := by omega
        obtain rfl : i = q := by omega
        obtain ⟨c, d, hcd⟩ : ∃ c d, rotI i (a, b) = (c, d) := ⟨_, _, rfl⟩
        have HC := Lib.hid (show ptC i false (zOf r) = (unsN c, unsN d) by unfold ptC; rw [HS.out, hcd])
        rw [hcd]
        have H1 := Lib.hid (fun w => tunsigned_any c w)
        have H2 := Lib.hid (fun w => tunsigned_any d w)
        clear hcd HS HZ
        generalize unsN c = c2 at *
        generalize unsN d = d2 at *
        go_wp2_with (go_at_call 65; (first | with_reducible refine (H1.out _).mono ?_ | with_reducible refine (H2.out _).mono ?_); rintro e w' ⟨rfl, rfl⟩)
        go_ret
        exact ⟨by rw [HC.out]; rfl, HBr.out⟩
  · have HS := Lib.hid (show swp true (zOf r) = (b, a) by unfold swp; rw [HZ.out]; rfl)
    go_wp2_with fail
    go_loopw [3, 15] (fun zv iv wr => ∃ (i : Nat), i ≤ q ∧ iv = .int .i64 i ∧ zv = .complex .f64 (rotI i (b, a)).1 (rotI i (b, a)).2 ∧ Hid (Below w.heap.size w wr)) (fun _ iv _ => q - (intOf iv).toNat)
    case atStart => exact ⟨0, by omega, rfl, rfl, HB1⟩
    case round =>
      obtain ⟨i, hi, rfl, rfl, HBr⟩ := hrel
      by_cases hlt : i < q
      · have hlt' : (i : Int) < (q : Int) := by omega
        go_wp2_with fail
        go_roundw
        case rel => exact ⟨i + 1, by omega, by go_num, rfl, HBr⟩
        case measure => simp [intOf]; omega
      · have hlt' : ¬ (i : Int) < (q : Int) := by omega
        obtain rfl : i = q := by omega
        obtain ⟨c, d, hcd⟩ : ∃ c d, rotI i (b, a) = (c, d) := ⟨_, _, rfl⟩
        have HC := Lib.hid (show ptC i true (zOf r) = (unsN c, unsN d) by unfold ptC; rw [HS.out, hcd])
        rw [hcd]
        have H1 := Lib.hid (fun w => tunsigned_any c w)
        have H2 := Lib.hid (fun w => tunsigned_any d w)
        clear hcd HS HZ
        generalize unsN c = c2 at *
        generalize unsN d = d2 at *
        go_wp2_with (go_at_call 65; (first | with_reducible refine (H1.out _).mono ?_ | with_reducible refine (H2.out _).mono ?_); rintro e w' ⟨rfl, rfl⟩)
        go_ret
        exact ⟨by rw [HC.out]; rfl, HBr.out⟩
end Tp
end Go.Proofs.Ytepnghhgmjobjaa
