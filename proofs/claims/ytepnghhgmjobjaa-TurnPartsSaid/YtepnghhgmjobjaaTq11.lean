/- Contracts, in this order: turn: the way to a point. -/
import Derived.Test.YtepnghhgmjobjaaTq02
import Derived.Test.YtepnghhgmjobjaaTq04
import Derived.Test.YtepnghhgmjobjaaTq10
import Derived.IntWalk
namespace Go.Proofs.Ytepnghhgmjobjaa
open Go Go.RowKit
namespace Tp
def jN (k : Int) (n : Nat) : Nat := ((k * 2 ^ (16 - n)) % 65536).toNat
theorem jN_lt (k : Int) (n : Nat) : jN k n < 65536 := by
  unfold jN
  generalize k * 2 ^ (16 - n) = x
  omega
theorem tm (a b : Int) (ha : 0 ≤ a) : a.tmod b = a % b := Int.tmod_eq_emod_of_nonneg ha
theorem u64_j (k : Int) (n : Nat) (hn : n ≤ 16) : ((k % 18446744073709551616 * 2 ^ (16 - n)) % 18446744073709551616).tmod 65536 = (jN k n : Int) := by
  have e : n = 0 ∨ n = 1 ∨ n = 2 ∨ n = 3 ∨ n = 4 ∨ n = 5 ∨ n = 6 ∨ n = 7 ∨ n = 8 ∨ n = 9 ∨ n = 10 ∨ n = 11 ∨ n = 12 ∨ n = 13 ∨ n = 14 ∨ n = 15 ∨ n = 16 := by omega
  rw [tm _ _ (Int.emod_nonneg _ (by decide))]
  unfold jN
  rcases e with rfl | rfl | rfl | rfl | rfl | rfl | rfl | rfl | rfl | rfl | rfl | rfl | rfl | rfl | rfl | rfl | rfl <;> simp only [Nat.sub_zero, Nat.reduceSub, Int.reducePow] <;> omega
theorem ref_j (k : Int) (n : Nat) (hn : n ≤ 16) : (k.tmod (2 ^ n) + 2 ^ n).tmod (2 ^ n) * (65536 : Int).tdiv (2 ^ n) = (jN k n : Int) := by
  have e : n = 0 ∨ n = 1 ∨ n = 2 ∨ n = 3 ∨ n = 4 ∨ n = 5 ∨ n = 6 ∨ n = 7 ∨ n = 8 ∨ n = 9 ∨ n = 10 ∨ n = 11 ∨ n = 12 ∨ n = 13 ∨ n = 14 ∨ n = 15 ∨ n = 16 := by omega
  unfold jN
  rcases e with rfl | rfl | rfl | rfl | rfl | rfl | rfl | rfl | rfl | rfl | rfl | rfl | rfl | rfl | rfl | rfl | rfl <;> simp only [Nat.sub_zero, Nat.reduceSub, Int.reducePow, Int.reduceTDiv, Int.tmod_eq_emod] <;> (repeat' split) <;> omega
theorem u64_wrap (x : Int) : IntKind.u64.wrap x = x % 18446744073709551616 := rfl
def restOf (j : Nat) : Nat := if 8192 < j % 16384 then 16384 - j % 16384 else j % 16384
def mirOf (j : Nat) : Bool := decide (8192 < j % 16384)
def wayV (j : Nat) : Value := .agg #[.int .i64 ((j / 16384 : Nat) : Int), .int .i64 ((restOf j : Nat) : Int), .bool (mirOf j)]
theorem restOf_le (j : Nat) : restOf j ≤ 8192 := by
  unfold restOf
  split <;> omega
theorem wayTo_low (w : World) (k n : Int) (hn : n < 0) : Calls Try.prog 41 #[.int .i64 k, .int .i64 n] w fun e w' => e = .returned (.tuple #[.agg #[.int .i64 0, .int .i64 0, .bool false], .int .i64 2]) ∧ Below w.heap.size w w' := by
  have HN := Lib.hid (At3.new w 81 (.int .i64 0) (.int .i64 0) (.bool false))
  have HB := Lib.hid (box1_below w (.cells #[.int .i64 0, .int .i64 0, .bool false] 81))
  go_enter Try.func41, Try.ntmps41
  go_wp2_with fail
  have r0 := HN.out.c0; have r1 := HN.out.c1; have r2 := HN.out.c2
  exact bodyPost_ret (v := .tuple #[.agg #[.int .i64 0, .int .i64 0, .bool false], .int .i64 2]) (by simp [results, Try.results41, go_sem, r0, r1, r2]) rfl ⟨rfl, HB.out⟩
theorem wayTo_high (w : World) (k n : Int) (hn : 16 < n) : Calls Try.prog 41 #[.int .i64 k, .int .i64 n] w fun e w' => e = .returned (.tuple #[.agg #[.int .i64 0, .int .i64 0, .bool false], .int .i64 3]) ∧ Below w.heap.size w w' := by
  have HN := Lib.hid (At3.new w 81 (.int .i64 0) (.int .i64 0) (.bool false))
  have HB := Lib.hid (box1_below w (.cells #[.int .i64 0, .int .i64 0, .bool false] 81))
  have n0 : ¬ n < 0 := by omega
  go_enter Try.func41, Try.ntmps41
  go_wp2_with fail
  have r0 := HN.out.c0; have r1 := HN.out.c1; have r2 := HN.out.c2
  exact bodyPost_ret (v := .tuple #[.agg #[.int .i64 0, .int .i64 0, .bool false], .int .i64 3]) (by simp [results, Try.results41, go_sem, r0, r1, r2]) rfl ⟨rfl, HB.out⟩
set_option maxRecDepth 100000 in
set_option maxHeartbeats 4000000 in
theorem wayTo_mid (w : World) (k : Int) (n : Nat) (hn : n ≤ 16) : Calls Try.prog 41 #[.int .i64 k, .int .i64 n] w fun e w' => e = .returned (.tuple #[wayV (jN k n), .int .i64 0]) ∧ Below w.heap.size w w' := by
  have n0 : ¬ (n : Int) < 0 := by omega
  have n1 : ¬ (n : Int) > 16 := by omega
  have hj := u64_j k n hn
  rw [← u64_wrap, ← u64_wrap] at hj
  have hl := jN_lt k n
  unfold wayV
  generalize jN k n = j at *
  have hw : wrap64 (j : Int) = (j : Int) := by
    unfold wrap64
    omega
  obtain ⟨q, hq⟩ : ∃ q, j / 16384 = q := ⟨_, rfl⟩
  obtain ⟨r, hr⟩ : ∃ r, j % 16384 = r := ⟨_, rfl⟩
  have hq' : ((j : Nat) : Int).tdiv 16384 = (q : Int) := by rw [Int.tdiv_eq_ediv_of_nonneg (by omega)]; omega
  have hr' : ((j : Nat) : Int).tmod 16384 = (r : Int) := by rw [Int.tmod_eq_emod_of_nonneg (by omega)]; omega
  have hqw : wrap64 (q : Int) = (q : Int) := by
    unfold wrap64
    omega
  by_cases hm : 8192 < r
  · have hm' : (8192 : Int) < (r : Int) := by omega
    have e1 : restOf j = 16384 - r := by unfold restOf; rw [hr, if_pos hm]
    have e2 : mirOf j = true := by unfold mirOf; rw [hr]; exact decide_eq_true hm
    have hs : wrap64 (16384 - (r : Int)) = ((16384 - r : Nat) : Int) := by
      unfold wrap64
      omega
    rw [hq, e1, e2]
    generalize 16384 - r = r2 at *
    have HN := Lib.hid ((At3.new w 81 (.int .i64 q) (.int .i64 r2) (.bool true)).alloc' (.cells #[.int .i64 q, .int .i64 r2, .bool true] 81))
    have HB := Lib.hid (below_alloc (box1_below w (.cells #[.int .i64 q, .int .i64 r2, .bool true] 81)) (Nat.le_refl _) (.cells #[.int .i64 q, .int .i64 r2, .bool true] 81))
    clear hl hq hr e1 e2 hm
    go_enter Try.func41, Try.ntmps41
    go_wp2_with fail
    have r0 := HN.out.c0; have r1 := HN.out.c1; have r2' := HN.out.c2
    exact bodyPost_ret (v := .tuple #[.agg #[.int .i64 q, .int .i64 r2, .bool true], .int .i64 0]) (by simp [results, Try.results41, go_sem, r0, r1, r2']) rfl ⟨rfl, HB.out⟩
  · have hm' : ¬ (8192 : Int) < (r : Int) := by omega
    have e1 : restOf j = r := by unfold restOf; rw [hr, if_neg hm]
    have e2 : mirOf j = false := by unfold mirOf; rw [hr]; exact decide_eq_false hm
    rw [hq, e1, e2]
    have HN := Lib.hid ((At3.new w 81 (.int .i64 q) (.int .i64 r) (.bool false)).alloc' (.cells #[.int .i64 q, .int .i64 r, .bool false] 81))
    have HB := Lib.hid (below_alloc (box1_below w (.cells #[.int .i64 q, .int .i64 r, .bool false] 81)) (Nat.le_refl _) (.cells #[.int .i64 q, .int .i64 r, .bool false] 81))
    clear hl hq hr e1 e2 hm
    go_enter Try.func41, Try.ntmps41
    go_wp2_with fail
    have r0 := HN.out.c0; have r1 := HN.out.c1; have r2' := HN.out.c2
    exact bodyPost_ret (v := .tuple #[.agg #[.int .i64 q, .int .i64 r, .bool false], .int .i64 0]) (by simp [results, Try.results41, go_sem, r0, r1, r2']) rfl ⟨rfl, HB.out⟩
end Tp
end Go.Proofs.Ytepnghhgmjobjaa
