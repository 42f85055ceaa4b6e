/- Contracts, in this order: turn: the product of a way's factors; the point where it lea -/
import Derived.Test.YtepnghhgmjobjaaTq11
import Derived.Test.YtepnghhgmjobjaaTq14
import Derived.Test.YtepnghhgmjobjaaTq19
import Derived.ChangeKeysEq
namespace Go.Proofs.Ytepnghhgmjobjaa
open Go Go.RowKit
namespace Tp
set_option maxRecDepth 100000
noncomputable def partsF : Ev.Fact := ⟨82, [], .agg ⟨pl.map fun p => .complex .f64 p.1 p.2⟩⟩
theorem partsF_ok : partsF.ok := Ev.Fact.of_run (n := 40) (by kernel_rfl) rfl
theorem parts_any (w : World) (hG : Try.prog.globals.size ≤ w.heap.size) : Calls Try.prog 82 #[] w fun e w' => e = .returned (.agg ⟨pl.map fun p => .complex .f64 p.1 p.2⟩) ∧ Below w.heap.size w w' := partsF_ok.2.2 w hG trivial
theorem and_i64_nat (a b : Nat) (ha : a < 4611686018427387904) (hb : b < 4611686018427387904) : bits .and .i64 (a : Int) (b : Int) = ((a &&& b : Nat) : Int) := by
  have hx : a &&& b < 2 ^ 62 := Nat.and_lt_two_pow _ (by omega)
  have h1 : (BitVec.ofInt 64 (a : Int)).toNat = a := by
    rw [BitVec.ofInt_natCast, BitVec.toNat_ofNat]; exact Nat.mod_eq_of_lt (by omega)
  have h2 : (BitVec.ofInt 64 (b : Int)).toNat = b := by
    rw [BitVec.ofInt_natCast, BitVec.toNat_ofNat]; exact Nat.mod_eq_of_lt (by omega)
  show IntKind.i64.wrap ((BitVec.ofInt 64 (a : Int) &&& BitVec.ofInt 64 (b : Int)).toNat : Int) = _
  rw [BitVec.toNat_and, h1, h2, IntKind.wrap_i64]
  omega
theorem and_pow (x k : Nat) : x &&& 2 ^ k = if x.testBit k = true then 2 ^ k else 0 := by
  apply Nat.eq_of_testBit_eq
  intro i
  rw [Nat.testBit_and, Nat.testBit_two_pow]
  by_cases h : k = i
  · subst h
    cases hx : x.testBit k <;> simp [Nat.testBit_two_pow]
  · cases hx : x.testBit k <;> simp [Nat.testBit_two_pow, h]
theorem bit_test {r i : Nat} (hr : r ≤ 8192) (hi : i < 14) : bits .and .i64 (wrap64 ((r : Int) * 2 ^ i)) 8192 = if r.testBit (13 - i) = true then 8192 else 0 := by
  have h1 : 2 ^ i ≤ 2 ^ 13 := Nat.pow_le_pow_right (by omega) (by omega)
  have h2 : r * 2 ^ i ≤ 8192 * 8192 := Nat.mul_le_mul hr h1
  have e1 : ((r : Int) * 2 ^ i) = ((r * 2 ^ i : Nat) : Int) := by
    rw [Int.natCast_mul, Int.natCast_pow]; rfl
  rw [e1]
  have hb : (r * 2 ^ i).testBit 13 = r.testBit (13 - i) := by
    rw [Nat.testBit_mul_two_pow, decide_eq_true (show 13 ≥ i by omega), Bool.true_and]
  rw [← hb]
  generalize r * 2 ^ i = x at *
  have e2 : wrap64 (x : Int) = (x : Int) := by
    unfold wrap64
    omega
  rw [e2, show (8192 : Int) = ((2 ^ 13 : Nat) : Int) from rfl, and_i64_nat _ _ (by omega) (by decide), and_pow]
  cases x.testBit 13 <;> simp
theorem idx_any (i : Nat) (hi : i < 14) (w : World) : (Instr.index 118 (.agg ⟨pl.map fun p => .complex .f64 p.1 p.2⟩) (.int .i64 i)).run Try.prog w = .ok (.complex .f64 (pl.getD i (0, 0)).1 (pl.getD i (0, 0)).2) w := by
  have har : Ev.arrayT Try.prog 118 = some (14, 43) := by kernel_rfl
  have hz : Ev.sizeT Try.prog 43 = some 1 := by kernel_rfl
  have hl : pl.length = 14 := rfl
  have hag : Ev.isAggT Try.prog 43 = some false := by kernel_rfl
  have hpa : Ev.partA Try.prog 43 (pl.map fun p => .complex .f64 p.1 p.2) i = some (.complex .f64 (pl.getD i (0, 0)).1 (pl.getD i (0, 0)).2) := by
    unfold Ev.partA
    rw [hag]
    show (pl.map fun p => Value.complex .f64 p.1 p.2)[i]? = _
    rw [List.getElem?_map, List.getD_eq_getElem?_getD, List.getElem?_eq_getElem (show i < pl.length by omega)]
    rfl
  have hp : (part 43 ⟨pl.map fun p => .complex .f64 p.1 p.2⟩ i).run Try.prog w = .ok (.complex .f64 (pl.getD i (0, 0)).1 (pl.getD i (0, 0)).2) w := by
    obtain ⟨v', h1, h2⟩ := Ev.part_ok hpa (Ev.plains_ok (r := Ev.ren0 0) (by kernel_rfl)) w
    have := h2.eq_of_plain rfl
    rw [this] at h1
    exact h1
  have c1 : (0 : Int) ≤ (i : Int) ∧ (i : Int) < ((14 : Nat) : Int) := by omega
  simp [Instr.index, asIntOf, run_underlying (Ev.arrayT_of har), Ev.size_of hz, hp]
  omega
set_option maxHeartbeats 4000000 in
theorem product_any (w : World) (q r : Nat) (m : Bool) (hr : r ≤ 8192) (hG : Try.prog.globals.size ≤ w.heap.size) : Calls Try.prog 64 #[.agg #[.int .i64 q, .int .i64 r, .bool m]] w fun e w' => (∃ a b, prodC r 14 = some (a, b) ∧ e = .returned (.complex .f64 a b)) ∧ Below w.heap.size w w' := by
  have HGd := Lib.hid (fun j (hj : j ≤ 14) => good_all hr hj)
  have HN := Lib.hid (At3.new w 81 (.int .i64 q) (.int .i64 r) (.bool m))
  have HB := Lib.hid (box1_below w (.cells #[.int .i64 q, .int .i64 r, .bool m] 81))
  have HP := Lib.hid (parts_any (w.alloc (.cells #[.int .i64 q, .int .i64 r, .bool m] 81)) (Nat.le_trans hG HB.out.size))
  obtain ⟨V, hV⟩ : ∃ V : Array Value, V = ⟨pl.map fun p => .complex .f64 p.1 p.2⟩ := ⟨_, rfl⟩
  rw [← hV] at HP
  have HV := Lib.hid hV
  clear hV hG
  go_enter Try.func64, Try.ntmps64
  go_wp2_with fail
  refine HP.out.mono ?_
  generalize w.alloc (.cells #[.int .i64 q, .int .i64 r, .bool m] 81) = wa at *
  rintro e w1 ⟨rfl, hb1⟩
  have HB1 := Lib.hid (HB.out.trans (hb1.mono HB.out.size))
  have HN1 := Lib.hid (HN.out.keep hb1)
  clear hb1 HN HB HP
  go_wp2_with fail
  go_loopw [3, 7] (fun zv iv wr => ∃ (i a b : Nat), i ≤ 14 ∧ iv = .int .i64 i ∧ zv = .complex .f64 a b ∧ Hid (prodC r i = some (a, b)) ∧ Hid (At3 wr w.heap.size 81 (.int .i64 q) (.int .i64 r) (.bool m)) ∧ Hid (Below w.heap.size w wr)) (fun _ iv _ => 14 - (intOf iv).toNat)
  case atStart => exact ⟨0, _, _, by omega, rfl, rfl, Lib.hid rfl, HN1, HB1⟩
  case round =>
    obtain ⟨i, a, b, hi, rfl, rfl, HPr, HNr, HBr⟩ := hrel
    by_cases hlt : i < 14
    · have hlt' : (i : Int) < 14 := by omega
      have x0 := HNr.out.c0; have x1 := HNr.out.c1; have x2 := HNr.out.c2
      have hix := fun w => idx_any i hlt w
      rw [← HV.out] at hix
      obtain ⟨c, d, hcd⟩ : ∃ c d, pl.getD i (0, 0) = (c, d) := ⟨_, _, rfl⟩
      rw [hcd] at hix
      have hbt := bit_test hr hlt
      obtain ⟨z, hz, -⟩ := HGd.out (i + 1) (by omega)
      cases hb : r.testBit (13 - i) with
      | true =>
        have hp := prod_yes HPr.out hb
        rw [hcd, hz] at hp
        obtain ⟨a2, b2⟩ := z
        have HT := Lib.hid (fun w => dtimes_any hp.symm w)
        rw [hb, if_pos rfl] at hbt
        have HZ := Lib.hid hz
        clear hp hz hb HPr hcd hi hlt
        go_wp2_with (first | simp only [hix] | (go_at_call 83; refine (HT.out _).mono ?_; rintro e w' ⟨rfl, rfl⟩))
        go_roundw
        case rel => exact ⟨i + 1, a2, b2, by omega, by go_num, rfl, HZ, HNr, HBr⟩
        case measure => simp [intOf]; omega
      | false =>
        have hp := prod_no HPr.out hb
        rw [hb, if_neg (by simp)] at hbt
        have HZ := Lib.hid hp
        clear hp hz hb HPr hcd hi hlt
        go_wp2_with (simp only [hix])
        go_roundw
        case rel => exact ⟨i + 1, a, b, by omega, by go_num, rfl, HZ, HNr, HBr⟩
        case measure => simp [intOf]; omega
    · have hlt' : ¬ (i : Int) < 14 := by omega
      obtain rfl : i = 14 := by omega
      go_wp2_with fail
      go_ret
      exact ⟨⟨a, b, HPr.out, rfl⟩, HBr.out⟩
end Tp
end Go.Proofs.Ytepnghhgmjobjaa
