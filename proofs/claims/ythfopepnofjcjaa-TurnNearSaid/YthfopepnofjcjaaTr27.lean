/- Contracts, in this order: ref07.At: the point at k parts, by floats. · exact: Mul. · exact: Sub, Quo, Cmp. · exact: Cmp. exact: Sub, Quo, Cmp. · exact: Size, Frac. · exact: Frac. · exact: mayBeBytes, Read. · exact: Read, of what may be. · exact: Read, of what may not be. · The interpreter over numbers told by expressions of those ha · The interpreter over numbers told by expressions: reading wh · The interpreter over numbers told by expressions: package ex · The interpreter over numbers told by expressions: from a run · gauss: what its functions answer, by runs over numbers told  · gauss: sums, differences, products of any two numbers, whate · '==' of fractions and of complex numbers of which something  · gauss, as a law calls it: its functions over numbers told by · gauss: what its functions answer, by runs: those that may no · gauss: norms, mirrored numbers, quotients: by runs; of any n · diapasonlaw02.GaussLaws, run over all that may come. · diapasonlaw02.GaussLaws, run over all numbers that may be. · diapasonlaw02.GaussLaws answers true. · diapasonlaw02.GaussNorms, run over all that may come. · The order of two fractions is the sign of their difference. · turn: what Unit, Half, Sum answer, of any fractions: by runs · Unit, Half, Sum, as a law calls them. · diapasonlaw07.TurnParts answers true. · diapasonlaw07.TurnNear answers true. -/
import Derived.Test.YthfopepnofjcjaaTr25
import Derived.Test.YthfopepnofjcjaaTr26
import Derived.Deep.QuietTactic
import Derived.BigQuiet
import Derived.Test.YthfopepnofjcjaaTr19
import Derived.Laws.IdiomStrings
import Derived.Laws.StructEq
import Derived.Laws.BitsAllLaws
namespace Go.Proofs.Ythfopepnofjcjaa
open Go Go.RowKit
namespace Tp
set_option maxRecDepth 100000
theorem ref_facts (k : Int) (n : Nat) (hn : n ≤ 16) : ∃ (M a t p : Int), wrap64 (2 ^ n) = M ∧ 0 < M ∧ M ≤ 65536 ∧ k.tmod M = a ∧ IntKind.i64.wrap (a + M) = a + M ∧ (a + M).tmod M = t ∧ (65536 : Int).tdiv M = p ∧ IntKind.i64.wrap (t * p) = (jN k n : Int) := by
  have hj := ref_j k n hn
  have hl := jN_lt k n
  have hM : (0 : Int) < 2 ^ n ∧ (2 : Int) ^ n ≤ 65536 := by
    have h1 : (2 : Nat) ^ n ≤ 2 ^ 16 := Nat.pow_le_pow_right (by omega) hn
    have h2 : 0 < (2 : Nat) ^ n := Nat.pow_pos (by omega)
    have e : ((2 ^ n : Nat) : Int) = (2 : Int) ^ n := by rw [Int.natCast_pow]; rfl
    rw [← e]
    omega
  generalize (2 : Int) ^ n = M at *
  have h3 := Int.tmod_lt_of_pos k hM.1
  have h4 : -M < k.tmod M := by
    have := Int.tmod_lt_of_pos (-k) hM.1
    rw [Int.neg_tmod] at this
    omega
  refine ⟨M, _, _, _, ?_, hM.1, hM.2, rfl, ?_, rfl, rfl, ?_⟩
  · unfold wrap64
    omega
  · exact IntWalk.i64_in _ (by omega)
  · rw [hj]
    exact IntWalk.i64_in _ (by omega)
theorem shr_test {r t : Nat} : (((r / 2 ^ t) &&& 1 : Nat) : Int) = if r.testBit t = true then 1 else 0 := by
  rw [Nat.and_one_is_mod, Nat.testBit_eq_decide_div_mod_eq]
  by_cases h : r / 2 ^ t % 2 = 1
  · rw [h]; simp [h]
  · have : r / 2 ^ t % 2 = 0 := by omega
    rw [this]; simp
theorem shr_bits {r t : Nat} (hr : r ≤ 8192) : bits .and .i64 ((r : Int) / 2 ^ t) 1 = if r.testBit t = true then 1 else 0 := by
  have e1 : (r : Int) / 2 ^ t = ((r / 2 ^ t : Nat) : Int) := by
    rw [Int.natCast_ediv, Int.natCast_pow]; rfl
  have h2 := Nat.div_le_self r (2 ^ t)
  rw [e1, show (1 : Int) = ((1 : Nat) : Int) from rfl, and_i64_nat _ _ (by omega) (by decide)]
  exact shr_test
set_option maxHeartbeats 16000000 in
theorem at_any (w : World) (k : Int) (n : Nat) (hn : n ≤ 16) (h0 : -9223372036854775808 ≤ k) (h1 : k ≤ 9223372036854775807) (hG : Try.prog.globals.size ≤ w.heap.size) : Calls Try.prog 25 #[.int .i64 k, .int .i64 n] w fun e w' => e = .returned (.complex .f64 (ptC (jN k n / 16384) (mirOf (jN k n)) (zOf (restOf (jN k n)))).1 (ptC (jN k n / 16384) (mirOf (jN k n)) (zOf (restOf (jN k n)))).2) ∧ Below w.heap.size w w' := by
  have n0 : ¬ (n : Int) < 0 := by omega
  obtain ⟨M, a, t, p, hM, hM0, hM1, ha, hs, ht, hp, hj⟩ := ref_facts k n hn
  have hjl := jN_lt k n
  generalize jN k n = j at *
  have hMn : ¬ M = 0 := by omega
  have hpb : 0 ≤ p ∧ p ≤ 65536 := by
    rw [← hp]
    have h2 : Int.tdiv 65536 M = 65536 / M := Int.tdiv_eq_ediv_of_nonneg (by omega)
    rw [h2]
    refine ⟨Int.ediv_nonneg (by omega) (by omega), ?_⟩
    exact Int.ediv_le_self _ (by omega)
  have hpw : wrap64 p = p := by
    unfold wrap64
    omega
  have hjw : wrap64 (t * p) = (j : Int) := by
    rw [IntKind.wrap_i64] at hj
    generalize t * p = x at *
    unfold wrap64
    omega
  obtain ⟨q, hq⟩ : ∃ q, j / 16384 = q := ⟨_, rfl⟩
  obtain ⟨r, hr⟩ : ∃ r, j % 16384 = r := ⟨_, rfl⟩
  have hq' : ((j : Nat) : Int).tdiv 16384 = (q : Int) := by rw [Int.tdiv_eq_ediv_of_nonneg (by omega)]; omega
  have hr' : ((j : Nat) : Int).tmod 16384 = (r : Int) := by rw [Int.tmod_eq_emod_of_nonneg (by omega)]; omega
  have hqw : wrap64 (q : Int) = (q : Int) := by
    unfold wrap64
    omega
  obtain ⟨rr, hrr⟩ : ∃ rr, restOf j = rr := ⟨_, rfl⟩
  have hrl : rr ≤ 8192 := hrr ▸ restOf_le j
  obtain ⟨mm, hmm⟩ : ∃ mm, mirOf j = mm := ⟨_, rfl⟩
  rw [hq, hrr, hmm]
  have HGd := Lib.hid (fun j (hj : j ≤ 14) => good_all hrl hj)
  have HPt := Lib.hid (fun W i hi (h : Below w.heap.size w W) => part_any W i hi (Nat.le_trans hG h.size))
  have hml : (mm = true ∧ (8192 : Int) < (r : Int) ∧ wrap64 (16384 - (r : Int)) = (rr : Int)) ∨ (mm = false ∧ ¬ (8192 : Int) < (r : Int) ∧ rr = r) := by
    by_cases hm : 8192 < r
    · refine .inl ⟨by rw [← hmm]; unfold mirOf; rw [hr]; exact decide_eq_true hm, by omega, ?_⟩
      rw [← hrr]; unfold restOf; rw [hr, if_pos hm]
      unfold wrap64
      omega
    · refine .inr ⟨by rw [← hmm]; unfold mirOf; rw [hr]; exact decide_eq_false hm, by omega, ?_⟩
      rw [← hrr]; unfold restOf; rw [hr, if_neg hm]
  have hq3 : q ≤ 3 := by
    rw [← hq]
    exact Nat.le_of_lt_succ (Nat.div_lt_of_lt_mul (show j < 16384 * 4 from hjl))
  clear hj hrr hmm hG hq hr
  go_enter Try.func25, Try.ntmps25
  go_wp2_with fail
  go_quiet (fail)
  have HB := Lib.hid (below_drewN (Below.refl w.heap.size w) nq)
  generalize w.drewN nq = wd at *
  clear hM ha hs ht hp hMn hM0 hM1 h0 h1 hn
  rcases hml with ⟨rfl, hm', hs'⟩ | ⟨rfl, hm', rfl⟩
  · go_wp2_with fail
    rw [hs']
    try rw [hqw]
    clear hpw hjw hq' hr' hqw hm' hs' hpb hjl
    go_loopw [10, 11, 12] (fun zv fv bv wr => ∃ (i a b : Nat) (f : Bool), i ≤ 14 ∧ bv = .int .i64 (13 - (i : Int)) ∧ fv = .bool f ∧ zv = .complex .f64 a b ∧ Hid (prodC rr i = some (a, b)) ∧ Hid (f = true → (a, b) = oneC) ∧ Hid (Below w.heap.size w wr)) (fun _ _ bv _ => ((intOf bv) + 1).toNat)
    case atStart => exact ⟨0, _, _, true, by omega, rfl, rfl, rfl, Lib.hid rfl, Lib.hid fun _ => rfl, HB⟩
    case round =>
      obtain ⟨i, a, b, f, hi, rfl, rfl, rfl, HPr, HF, HBr⟩ := hrel
      by_cases hlt : i < 14
      · obtain ⟨tt, htt⟩ : ∃ tt : Nat, 13 - (i : Int) = (tt : Int) := ⟨13 - i, by omega⟩
        have ht13 : 13 - i = tt := by omega
        have hstep : (tt : Int) - 1 = 13 - ((i + 1 : Nat) : Int) := by omega
        have hmes : ((tt : Int) - 1 + 1).toNat < ((tt : Int) + 1).toNat := by omega
        rw [htt]
        have htl : (tt : Int) ≥ 0 := by omega
        have htl2 : tt ≤ 13 := by omega
        have hbt := shr_bits (t := tt) hrl
        obtain ⟨z, hz, -⟩ := HGd.out (i + 1) (by omega)
        have HST := Lib.hid (And.intro hstep hmes)
        cases hb : rr.testBit tt with
        | false =>
          rw [hb, if_neg (by simp)] at hbt
          have HZ := Lib.hid (prod_no HPr.out (by rw [ht13]; exact hb))
          have hi1 : i + 1 ≤ 14 := by omega
          clear hz hb HPr hi hlt hstep hmes ht13 htt
          go_wp2_with fail
          go_roundw
          case rel => exact ⟨i + 1, a, b, f, hi1, by rw [HST.out.1], rfl, rfl, HZ, HF, HBr⟩
          case measure => exact HST.out.2
        | true =>
          rw [hb, if_pos rfl] at hbt
          have hp := prod_yes HPr.out (by rw [ht13]; exact hb)
          have HP1 := HPt.out wr i hlt HBr.out
          have e16 : (16 : Int) - (tt : Int) = ((i + 3 : Nat) : Int) := by omega
          rw [← e16] at HP1
          obtain ⟨c, d, hcd⟩ : ∃ c d, pl.getD i (0, 0) = (c, d) := ⟨_, _, rfl⟩
          have hone := one_part hlt
          rw [hcd] at HP1 hp hone
          have HPa := Lib.hid HP1
          have hi1 : i + 1 ≤ 14 := by omega
          cases f with
          | true =>
            have hab := HF.out rfl
            rw [hab, hone] at hp
            have HZ := Lib.hid hp
            clear hz hb HPr hi hlt hstep hmes ht13 htt hp HP1 hcd hone hab HF e16
            go_wp2_with (go_at_call 50; refine HPa.out.mono ?_; rintro e w1 ⟨rfl, hb1⟩)
            have HB1 := Lib.hid (HBr.out.trans (hb1.mono HBr.out.size))
            go_roundw
            case rel => exact ⟨i + 1, c, d, false, hi1, by rw [HST.out.1], rfl, rfl, HZ, Lib.hid (fun h => by cases h), HB1⟩
            case measure => exact HST.out.2
          | false =>
            obtain ⟨a2, b2⟩ := z
            rw [hz] at hp
            have HT := Lib.hid (fun w => rtimes_any hp.symm w)
            have HZ := Lib.hid hz
            clear hz hb HPr hi hlt hstep hmes ht13 htt hp HP1 hcd hone HF e16
            go_wp2_with (first | (go_at_call 50; refine HPa.out.mono ?_; rintro e w1 ⟨rfl, hb1⟩) | (go_at_call 51; refine (HT.out _).mono ?_; rintro e w2 ⟨rfl, rfl⟩))
            have HB1 := Lib.hid (HBr.out.trans (hb1.mono HBr.out.size))
            go_roundw
            case rel => exact ⟨i + 1, a2, b2, false, hi1, by rw [HST.out.1], rfl, rfl, HZ, Lib.hid (fun h => by cases h), HB1⟩
            case measure => exact HST.out.2
      · obtain rfl : i = 14 := by omega
        have HZ := Lib.hid (zOf_is HPr.out)
        have HS := Lib.hid (show swp true (zOf rr) = (b, a) by unfold swp; rw [HZ.out]; rfl)
        have hlt' : ¬ (13 - ((14 : Nat) : Int)) ≥ 0 := by omega
        clear HPr HF HPt HGd HZ hlt
        go_wp2_with fail
        go_loopw [10, 13] (fun zv iv wr => ∃ (i : Nat), i ≤ q ∧ iv = .int .i64 i ∧ zv = .complex .f64 (rotI i (b, a)).1 (rotI i (b, a)).2 ∧ Hid (Below w.heap.size w wr)) (fun _ iv _ => q - (intOf iv).toNat)
        case atStart => exact ⟨0, by omega, rfl, rfl, HBr⟩
        case round =>
          obtain ⟨i, hi, rfl, rfl, HBs⟩ := hrel
          by_cases hlt : i < q
          · have hlt' : (i : Int) < (q : Int) := by omega
            go_wp2_with fail
            go_roundw
            case rel => exact ⟨i + 1, by omega, by go_num, rfl, HBs⟩
            case measure => simp [intOf]; omega
          · have hlt' : ¬ (i : Int) < (q : Int) := by omega
            obtain rfl : i = q := by omega
            obtain ⟨c, d, hcd⟩ : ∃ c d, rotI i (b, a) = (c, d) := ⟨_, _, rfl⟩
            have HC := Lib.hid (show ptC i true (zOf rr) = (unsN c, unsN d) by unfold ptC; rw [HS.out, hcd])
            rw [hcd]
            have H1 := Lib.hid (fun w => runsigned_any c w)
            have H2 := Lib.hid (fun w => runsigned_any d w)
            clear hcd HS
            generalize unsN c = c2 at *
            generalize unsN d = d2 at *
            go_wp2_with (go_at_call 52; (first | with_reducible refine (H1.out _).mono ?_ | with_reducible refine (H2.out _).mono ?_); rintro e w' ⟨rfl, rfl⟩)
            go_ret
            exact ⟨by rw [HC.out]; rfl, HBs.out⟩
  · go_wp2_with fail
    try rw [hqw]
    clear hpw hjw hq' hr' hqw hm' hpb hjl
    go_loopw [10, 11, 12] (fun zv fv bv wr => ∃ (i a b : Nat) (f : Bool), i ≤ 14 ∧ bv = .int .i64 (13 - (i : Int)) ∧ fv = .bool f ∧ zv = .complex .f64 a b ∧ Hid (prodC rr i = some (a, b)) ∧ Hid (f = true → (a, b) = oneC) ∧ Hid (Below w.heap.size w wr)) (fun _ _ bv _ => ((intOf bv) + 1).toNat)
    case atStart => exact ⟨0, _, _, true, by omega, rfl, rfl, rfl, Lib.hid rfl, Lib.hid fun _ => rfl, HB⟩
    case round =>
      obtain ⟨i, a, b, f, hi, rfl, rfl, rfl, HPr, HF, HBr⟩ := hrel
      by_cases hlt : i < 14
      · obtain ⟨tt, htt⟩ : ∃ tt : Nat, 13 - (i : Int) = (tt : Int) := ⟨13 - i, by omega⟩
        have ht13 : 13 - i = tt := by omega
        have hstep : (tt : Int) - 1 = 13 - ((i + 1 : Nat) : Int) := by omega
        have hmes : ((tt : Int) - 1 + 1).toNat < ((tt : Int) + 1).toNat := by omega
        rw [htt]
        have htl : (tt : Int) ≥ 0 := by omega
        have htl2 : tt ≤ 13 := by omega
        have hbt := shr_bits (t := tt) hrl
        obtain ⟨z, hz, -⟩ := HGd.out (i + 1) (by omega)
        have HST := Lib.hid (And.intro hstep hmes)
        cases hb : rr.testBit tt with
        | false =>
          rw [hb, if_neg (by simp)] at hbt
          have HZ := Lib.hid (prod_no HPr.out (by rw [ht13]; exact hb))
          have hi1 : i + 1 ≤ 14 := by omega
          clear hz hb HPr hi hlt hstep hmes ht13 htt
          go_wp2_with fail
          go_roundw
          case rel => exact ⟨i + 1, a, b, f, hi1, by rw [HST.out.1], rfl, rfl, HZ, HF, HBr⟩
          case measure => exact HST.out.2
        | true =>
          rw [hb, if_pos rfl] at hbt
          have hp := prod_yes HPr.out (by rw [ht13]; exact hb)
          have HP1 := HPt.out wr i hlt HBr.out
          have e16 : (16 : Int) - (tt : Int) = ((i + 3 : Nat) : Int) := by omega
          rw [← e16] at HP1
          obtain ⟨c, d, hcd⟩ : ∃ c d, pl.getD i (0, 0) = (c, d) := ⟨_, _, rfl⟩
          have hone := one_part hlt
          rw [hcd] at HP1 hp hone
          have HPa := Lib.hid HP1
          have hi1 : i + 1 ≤ 14 := by omega
          cases f with
          | true =>
            have hab := HF.out rfl
            rw [hab, hone] at hp
            have HZ := Lib.hid hp
            clear hz hb HPr hi hlt hstep hmes ht13 htt hp HP1 hcd hone hab HF e16
            go_wp2_with (go_at_call 50; refine HPa.out.mono ?_; rintro e w1 ⟨rfl, hb1⟩)
            have HB1 := Lib.hid (HBr.out.trans (hb1.mono HBr.out.size))
            go_roundw
            case rel => exact ⟨i + 1, c, d, false, hi1, by rw [HST.out.1], rfl, rfl, HZ, Lib.hid (fun h => by cases h), HB1⟩
            case measure => exact HST.out.2
          | false =>
            obtain ⟨a2, b2⟩ := z
            rw [hz] at hp
            have HT := Lib.hid (fun w => rtimes_any hp.symm w)
            have HZ := Lib.hid hz
            clear hz hb HPr hi hlt hstep hmes ht13 htt hp HP1 hcd hone HF e16
            go_wp2_with (first | (go_at_call 50; refine HPa.out.mono ?_; rintro e w1 ⟨rfl, hb1⟩) | (go_at_call 51; refine (HT.out _).mono ?_; rintro e w2 ⟨rfl, rfl⟩))
            have HB1 := Lib.hid (HBr.out.trans (hb1.mono HBr.out.size))
            go_roundw
            case rel => exact ⟨i + 1, a2, b2, false, hi1, by rw [HST.out.1], rfl, rfl, HZ, Lib.hid (fun h => by cases h), HB1⟩
            case measure => exact HST.out.2
      · obtain rfl : i = 14 := by omega
        have HZ := Lib.hid (zOf_is HPr.out)
        have HS := Lib.hid (show swp false (zOf rr) = (a, b) by unfold swp; rw [HZ.out]; rfl)
        have hlt' : ¬ (13 - ((14 : Nat) : Int)) ≥ 0 := by omega
        clear HPr HF HPt HGd HZ hlt
        go_wp2_with fail
        go_loopw [10, 13] (fun zv iv wr => ∃ (i : Nat), i ≤ q ∧ iv = .int .i64 i ∧ zv = .complex .f64 (rotI i (a, b)).1 (rotI i (a, b)).2 ∧ Hid (Below w.heap.size w wr)) (fun _ iv _ => q - (intOf iv).toNat)
        case atStart => exact ⟨0, by omega, rfl, rfl, HBr⟩
        case round =>
          obtain ⟨i, hi, rfl, rfl, HBs⟩ := hrel
          by_cases hlt : i < q
          · have hlt' : (i : Int) < (q : Int) := by omega
            go_wp2_with fail
            go_roundw
            case rel => exact ⟨i + 1, by omega, by go_num, rfl, HBs⟩
            case measure => simp [intOf]; omega
          · have hlt' : ¬ (i : Int) < (q : Int) := by omega
            obtain rfl : i = q := by omega
            obtain ⟨c, d, hcd⟩ : ∃ c d, rotI i (a, b) = (c, d) := ⟨_, _, rfl⟩
            have HC := Lib.hid (show ptC i false (zOf rr) = (unsN c, unsN d) by unfold ptC; rw [HS.out, hcd])
            rw [hcd]
            have H1 := Lib.hid (fun w => runsigned_any c w)
            have H2 := Lib.hid (fun w => runsigned_any d w)
            clear hcd HS
            generalize unsN c = c2 at *
            generalize unsN d = d2 at *
            go_wp2_with (go_at_call 52; (first | with_reducible refine (H1.out _).mono ?_ | with_reducible refine (H2.out _).mono ?_); rintro e w' ⟨rfl, rfl⟩)
            go_ret
            exact ⟨by rw [HC.out]; rfl, HBs.out⟩
end Tp
end Go.Proofs.Ythfopepnofjcjaa
namespace Go.Proofs.Ythfopepnofjcjaa
open Go.RowKit
end Go.Proofs.Ythfopepnofjcjaa
namespace Go.Proofs.Ythfopepnofjcjaa
open Go.RowKit
end Go.Proofs.Ythfopepnofjcjaa
namespace Go.Proofs.Ythfopepnofjcjaa
open Go.RowKit
end Go.Proofs.Ythfopepnofjcjaa
namespace Go.Proofs.Ythfopepnofjcjaa
open Go.RowKit
theorem sizeT {P : Program} {f : FuncId} {args : Array Value} {b W : World} {v : Value} (h : Below b.heap.size b W) (c : Calls P f args W fun e w' => e = .returned v ∧ W = w') :
    Calls P f args W fun e w' => e = .returned v ∧ Below b.heap.size b w' :=
  c.mono fun _ _ ⟨h1, h2⟩ => ⟨h1, h2 ▸ h⟩
end Go.Proofs.Ythfopepnofjcjaa
namespace Go.Proofs.Ythfopepnofjcjaa
open Go.RowKit
end Go.Proofs.Ythfopepnofjcjaa
namespace Go.Proofs.Ythfopepnofjcjaa
open Go.RowKit
end Go.Proofs.Ythfopepnofjcjaa
namespace Go.Proofs.Ythfopepnofjcjaa
open Go.RowKit
end Go.Proofs.Ythfopepnofjcjaa
namespace Go.Proofs.Ythfopepnofjcjaa
open Go.RowKit
def BadF (x : Bool × ByteArray × ByteArray) : Prop := ∀ q : Rat, Fit q → ¬ (x.1 = Big.ng q ∧ x.2.1 = bst (Big.nu q) ∧ x.2.2 = bst (Big.de q))
end Go.Proofs.Ythfopepnofjcjaa
namespace Go.Proofs.Ythfopepnofjcjaa
open Go Go.RowKit
namespace Ev
inductive Qe where
  | v (i : Nat)
  | c (s : Bool) (n d : Nat)
  | neg (a : Qe)
  | add (a b : Qe)
  | sub (a b : Qe)
  | mul (a b : Qe)
  | quo (a b : Qe)
def Qe.ev (ρ : Nat → Rat) : Qe → Rat
  | .v i => ρ i
  | .c s n d => mkRat (Big.sI s n) d
  | .neg a => -(a.ev ρ)
  | .add a b => a.ev ρ + b.ev ρ
  | .sub a b => a.ev ρ - b.ev ρ
  | .mul a b => a.ev ρ * b.ev ρ
  | .quo a b => a.ev ρ / b.ev ρ
noncomputable def beqB (a b : Bool) : Bool := Bool.rec (motive := fun _ => Bool) (Bool.rec (motive := fun _ => Bool) true false b) b a
noncomputable def Qe.beq : Qe → Qe → Bool := Qe.rec (motive := fun _ => Qe → Bool)
  (fun i y => match y with | .v j => Nat.beq i j | _ => false)
  (fun s n d y => match y with | .c s' n' d' => beqB s s' && (Nat.beq n n' && Nat.beq d d') | _ => false)
  (fun _ ih y => match y with | .neg b => ih b | _ => false)
  (fun _ _ iha ihb y => match y with | .add a b => iha a && ihb b | _ => false)
  (fun _ _ iha ihb y => match y with | .sub a b => iha a && ihb b | _ => false)
  (fun _ _ iha ihb y => match y with | .mul a b => iha a && ihb b | _ => false)
  (fun _ _ iha ihb y => match y with | .quo a b => iha a && ihb b | _ => false)
noncomputable def Qe.bnd : Qe → Nat := Qe.rec (motive := fun _ => Nat)
  (fun i => cond (Nat.ble 100 i) 4096 64)
  (fun _ n d => Nat.add (Nat.add (Nat.div (Nat.log2 n) 64) (Nat.div (Nat.log2 d) 64)) 1)
  (fun _ a => a)
  (fun _ _ a b => Nat.succ (Nat.mul 2 (Nat.add a b)))
  (fun _ _ a b => Nat.succ (Nat.mul 2 (Nat.add a b)))
  (fun _ _ a b => Nat.add a b)
  (fun _ _ a b => Nat.add a b)
theorem Qe.bnd_pos : ∀ e : Qe, 1 ≤ e.bnd := by
  intro e
  induction e with
  | v i => show 1 ≤ cond (Nat.ble 100 i) 4096 64; cases Nat.ble 100 i <;> decide
  | c s n d => exact Nat.succ_le_succ (Nat.zero_le _)
  | neg a ih => exact ih
  | add a b _ _ => exact Nat.succ_le_succ (Nat.zero_le _)
  | sub a b _ _ => exact Nat.succ_le_succ (Nat.zero_le _)
  | mul a b iha _ => exact Nat.le_trans iha (Nat.le_add_right _ _)
  | quo a b iha _ => exact Nat.le_trans iha (Nat.le_add_right _ _)
theorem sm_zero {k : Nat} (hk : 1 ≤ k) : Sm k 0 := ⟨sz_zero.up (Nat.zero_le _), sz_one.up hk⟩
theorem sm_sub {k j : Nat} {q r : Rat} (h : Sm k q) (i : Sm j r) : Sm (2 * k + 2 * j + 1) (q - r) := by
  rw [Rat.sub_eq_add_neg]
  exact h.add i.neg
theorem Qe.sm {ρ : Nat → Rat} (hρ : ∀ i, i < 100 → Fit (ρ i)) (hβ : ∀ i, Sm 4096 (ρ i)) : ∀ e : Qe, Sm e.bnd (e.ev ρ) := by
  intro e
  induction e with
  | v i =>
    show Sm (cond (Nat.ble 100 i) 4096 64) (ρ i)
    cases hi : Nat.ble 100 i with
    | true => exact hβ i
    | false => exact (hρ i (by
        rcases Nat.lt_or_ge i 100 with h | h
        · exact h
        · rw [Nat.ble_eq_true_of_le h] at hi; cases hi)).sm
  | c s n d =>
    show Sm (Nat.div (Nat.log2 n) 64 + Nat.div (Nat.log2 d) 64 + 1) (mkRat (Big.sI s n) d)
    have e1 : Nat.div (Nat.log2 n) 64 = Nat.log2 n / 64 := rfl
    have e2 : Nat.div (Nat.log2 d) 64 = Nat.log2 d / 64 := rfl
    rw [e1, e2]
    rcases Nat.eq_zero_or_pos d with h0 | h0
    · subst h0
      rw [Rat.mkRat_zero]
      exact sm_zero (by omega)
    · obtain ⟨_, p2, p3⟩ := Big.of_parts s n d h0
      refine ⟨?_, ?_⟩
      · rw [p2]; exact (sz_log (k := Nat.log2 n / 64 + Nat.log2 d / 64 + 1) (by omega)).le (Nat.div_le_self _ _)
      · rw [p3]; exact (sz_log (k := Nat.log2 n / 64 + Nat.log2 d / 64 + 1) (by omega)).le (Nat.div_le_self _ _)
  | neg a ih => exact ih.neg
  | add a b iha ihb => exact (iha.add ihb).up (by show _ ≤ 2 * (a.bnd + b.bnd) + 1; omega)
  | sub a b iha ihb => exact (sm_sub iha ihb).up (by show _ ≤ 2 * (a.bnd + b.bnd) + 1; omega)
  | mul a b iha ihb => exact iha.mul ihb
  | quo a b iha ihb =>
    show Sm (a.bnd + b.bnd) (a.ev ρ / b.ev ρ)
    by_cases h0 : Big.nu (b.ev ρ) = 0
    · rw [Big.nu_zero.1 h0, Rat.div_def, Rat.inv_zero, Rat.mul_zero]
      exact sm_zero (Nat.le_trans a.bnd_pos (Nat.le_add_right _ _))
    · rw [Rat.div_def]
      exact iha.mul (ihb.inv h0)
structure Env where
  q : Nat → Rat
  raw : Nat → Bool × ByteArray × ByteArray
  fit : ∀ i, i < 100 → Fit (q i)
  big : ∀ i, Sm 4096 (q i)
  bad : ∀ i, BadF (raw i)
inductive Sy where
  | n (n : Nat)
  | ng (e : Qe)
  | nu (e : Qe)
  | de (e : Qe)
  | fn (e : Qe)
  | fd (e : Qe)
  | rg (i : Nat)
  | rn (i : Nat)
  | rd (i : Nat)
  | it (e : Qe)
  | is (e : Qe)
  | lg (l : List Nat)
def lenC (ρ : Env) (c : Nat) : Int := match c % 4 with
  | 0 => ((szN (Big.nu (ρ.q (c / 4))) : Nat) : Int)
  | 1 => ((szN (Big.de (ρ.q (c / 4))) : Nat) : Int)
  | 2 => (((ρ.raw (c / 4)).2.1.size : Nat) : Int)
  | _ => (((ρ.raw (c / 4)).2.2.size : Nat) : Int)
def lenSum (ρ : Env) : List Nat → Int
  | [] => 0
  | c :: l => match l with
    | [] => lenC ρ c
    | _ => IntKind.i64.wrap (lenSum ρ l + lenC ρ c)
structure I16 (q : Rat) : Prop where
  lo : -32768 ≤ q.num
  hi : q.num ≤ 32767
  den : q.den = 1
def Sy.holds (ρ : Env) : Sy → World → Value → Prop
  | .n k, w, v => NatIn w v k
  | .ng e, _, v => v = .bool (Big.ng (e.ev ρ.q))
  | .nu e, w, v => NatIn w v (Big.nu (e.ev ρ.q))
  | .de e, w, v => NatIn w v (Big.de (e.ev ρ.q))
  | .fn e, _, v => v = .string (bst (Big.nu (e.ev ρ.q)))
  | .fd e, _, v => v = .string (bst (Big.de (e.ev ρ.q)))
  | .rg i, _, v => v = .bool (ρ.raw i).1
  | .rn i, _, v => v = .string (ρ.raw i).2.1
  | .rd i, _, v => v = .string (ρ.raw i).2.2
  | .it e, _, v => v = .int .i64 (e.ev ρ.q).num
  | .is e, _, v => v = .int .i16 (e.ev ρ.q).num ∧ I16 (e.ev ρ.q)
  | .lg l, _, v => v = .int .i64 (lenSum ρ l)
theorem Sy.one {ρ : Env} {f : Sy} {w : World} {v : Value} (h : f.holds ρ w v) : isOne v = true := by
  cases f <;> first | exact nat_one h | (rw [show v = _ from h]; rfl) | (rw [h.1]; rfl) | skip
noncomputable def symHid : TypeId → Bool := natSig.hid
theorem symHid_nat {t : TypeId} (h : natSig.hid t = true) : symHid t = true := h
noncomputable def symSig (ρ : Env) : Sig Sy where
  holds := Sy.holds ρ
  hid := symHid
  G := natSig.G
  base := natSig.base
  baseS := natSig.baseS
  stable := fun f _ _ _ h hk => by
    have hn := fun (b : Nat) (c : Array Value) (t : TypeId) (z : Nat × Nat) h1 h2 => hk b c t z h1 (symHid_nat h2)
    cases f <;> first | exact nat_stable h hn | exact h | skip
noncomputable def symLen : Sy → Option Nat
  | .n k => some (wordsN k)
  | _ => none
structure As where
  k : Nat
  a : Qe
  b : Qe
  t : Bool
def As.holds (ρ : Nat → Rat) (x : As) : Prop := match x.k with
  | 0 => x.t = true ↔ Fit (x.a.ev ρ)
  | 1 => x.t = true ↔ x.a.ev ρ = 0
  | 2 => x.t = true ↔ x.a.ev ρ = x.b.ev ρ
  | 5 => x.t = true → (x.b.ev ρ).num = (x.a.ev ρ).num.tmod 12
  | 6 => x.t = true → IntKind.i64.wrap ((x.a.ev ρ).num + (x.b.ev ρ).num) = ((Qe.add x.a x.b).ev ρ).num
  | _ => x.t = Big.ng (x.a.ev ρ)
def z0 : Qe := .v 0
noncomputable def ask (A : List As) (k : Nat) (a b : Qe) : Option Bool := List.rec (motive := fun _ => Option Bool) none
  (fun x _ ih => Bool.rec (motive := fun _ => Option Bool) ih (some x.t) (Nat.beq k x.k && (a.beq x.a && b.beq x.b))) A
section
variable {ρ : Env} {A : List As} {a b : Qe} {t : Bool}
end
noncomputable def fitC (n d : Nat) : Bool := Nat.ble (szN n) 512 && Nat.ble (szN d) 512
noncomputable def fitB (A : List As) (e : Qe) : Option Bool := match ask A 0 e z0 with
  | some t => some t
  | none => match e with
    | .v i => cond (Nat.ble 100 i) none (some true)
    | .c _ n d => cond (fitC n d) (some true) none
    | _ => none
end Ev
end Go.Proofs.Ythfopepnofjcjaa
namespace Go.Proofs.Ythfopepnofjcjaa
open Go Go.RowKit
namespace Ev
section
variable {F : Type}
noncomputable def newFacts : List F → M F (List Value) := List.rec (motive := fun _ => M F (List Value)) (ret []) (fun f _ ih => bind (newFact f) fun x => bind ih fun l => ret (x :: l))
def HoldsL (S : Sig F) (w : World) : List F → List Value → Prop
  | [], us => us = []
  | f :: l, us => ∃ u us', us = u :: us' ∧ S.holds f w u ∧ isOne u = true ∧ HoldsL S w l us'
end
noncomputable def getFn : Sy → Option Qe | .fn e => some e | _ => none
noncomputable def getFd : Sy → Option Qe | .fd e => some e | _ => none
noncomputable def getRn : Sy → Option Nat | .rn e => some e | _ => none
noncomputable def getRd : Sy → Option Nat | .rd e => some e | _ => none
noncomputable def knw {α : Type} (g : Sy → Option α) (v : Value) : M Sy α := bind (fact v) fun f => ofOpt (g f)
theorem loc_knw {α : Type} (g : Sy → Option α) (v : Value) : Loc (knw g v) := loc_bind (loc_fact v) fun _ => loc_opt _
section
variable {ρ : Env} {h h' : Tr (Blk Sy)} {nx nx' : Nat} {R W : List Nat} {r : Ren} {w : World}
end
section
variable {ρ : Env} {h h' : Tr (Blk Sy)} {nx nx' : Nat} {R W : List Nat} {r : Ren} {w : World}
theorem frac_holds (e : Qe) : HoldsL (symSig ρ) w [.ng e, .fn e, .fd e] [.bool (Big.ng (e.ev ρ.q)), .string (bst (Big.nu (e.ev ρ.q))), .string (bst (Big.de (e.ev ρ.q)))] :=
  ⟨_, _, rfl, rfl, rfl, _, _, rfl, rfl, rfl, _, _, rfl, rfl, rfl, rfl⟩
end
noncomputable def frc (a b : Value) (e : Qe) : M Sy (Option Qe) := bind (knw getFn a) fun e2 => bind (knw getFd b) fun e3 => cond (e.beq e2 && e.beq e3) (ret (some e)) fail
noncomputable def raw (a b : Value) (i : Nat) : M Sy (Option Qe) := bind (knw getRn a) fun j => bind (knw getRd b) fun k => cond (Nat.beq i j && Nat.beq i k) (ret none) fail
noncomputable def isB (n : Nat) (s : ByteArray) : Bool := eqL eqC (btx n) s.data.toList
noncomputable def cst (s : Bool) (a b : Value) : Option (Option Qe) := match a with
  | .string x => match b with
    | .string y => cond (Nat.ble y.size 0 && (Nat.ble x.size 0 && !s)) (some none)
        (cond (Nat.beq (Nat.gcd (Big.bnum x.data.toList) (Big.bnum y.data.toList)) 1 && (Nat.ble 1 (Big.bnum y.data.toList) && ((!s || Nat.ble 1 (Big.bnum x.data.toList)) && (isB (Big.bnum x.data.toList) x && isB (Big.bnum y.data.toList) y))))
          (some (some (.c s (Big.bnum x.data.toList) (Big.bnum y.data.toList)))) none)
    | _ => none
  | _ => none
noncomputable def frg (b c : Value) (f : Sy) : M Sy (Option Qe) := match f with
  | .ng e => frc b c e
  | .rg i => raw b c i
  | _ => fail
noncomputable def frcV (l : List Value) : M Sy (Option Qe) := match l with
  | [a, b, c] => match a with
    | .bool s => ofOpt (cst s b c)
    | a => bind (fact a) (frg b c)
  | _ => fail
theorem loc_frg (b c : Value) (f : Sy) : Loc (frg b c f) := by
  unfold frg frc raw
  split
  · exact loc_bind (loc_knw _ _) fun _ => loc_bind (loc_knw _ _) fun _ => loc_cond (loc_ret _) loc_fail
  · exact loc_bind (loc_knw _ _) fun _ => loc_bind (loc_knw _ _) fun _ => loc_cond (loc_ret _) loc_fail
  · exact loc_fail
theorem loc_frcV (l : List Value) : Loc (frcV l) := by
  unfold frcV
  split
  · split
    · exact loc_opt _
    · exact loc_bind (loc_fact _) fun _ => loc_frg _ _ _
  · exact loc_fail
section
variable {ρ : Env} {h h' : Tr (Blk Sy)} {nx nx' : Nat} {R W : List Nat} {r : Ren} {w : World}
end
end Ev
end Go.Proofs.Ythfopepnofjcjaa
namespace Go.Proofs.Ythfopepnofjcjaa
open Go Go.RowKit
namespace Ev
section
variable {ρ : Env} {A : List As}
noncomputable def noughtB (A : List As) (e : Qe) : Option Bool := match ask A 1 e z0 with
  | some t => some t
  | none => match e with
    | .c _ n d => cond (Nat.ble 1 n && Nat.ble 1 d) (some false) (cond (Nat.ble n 0) (some true) none)
    | _ => none
end
end Ev
end Go.Proofs.Ythfopepnofjcjaa
namespace Go.Proofs.Ythfopepnofjcjaa
open Go Go.RowKit
namespace Ev
inductive D1 (F : Type) where
  | p (v : Value)
  | f (x : F)
inductive D2 (F : Type) where
  | one (d : D1 F)
  | agg (l : List (D1 F))
inductive D3 (F : Type) where
  | one (d : D2 F)
  | tuple (l : List (D2 F))
section
variable {F : Type}
def D1.is (S : Sig F) (w : World) : D1 F → Value → Prop
  | .p u, v => v = u
  | .f x, v => S.holds x w v
def D1.all (S : Sig F) (w : World) : List (D1 F) → List Value → Prop
  | [], l => l = []
  | d :: ds, l => ∃ v vs, l = v :: vs ∧ d.is S w v ∧ D1.all S w ds vs
def D2.is (S : Sig F) (w : World) : D2 F → Value → Prop
  | .one d, v => d.is S w v
  | .agg ds, v => ∃ vs, v = .agg ⟨vs⟩ ∧ D1.all S w ds vs
def D2.all (S : Sig F) (w : World) : List (D2 F) → List Value → Prop
  | [], l => l = []
  | d :: ds, l => ∃ v vs, l = v :: vs ∧ d.is S w v ∧ D2.all S w ds vs
def D3.is (S : Sig F) (w : World) : D3 F → Value → Prop
  | .one d, v => d.is S w v
  | .tuple ds, v => ∃ vs, v = .tuple ⟨vs⟩ ∧ D2.all S w ds vs
noncomputable def isChan : Value → Option Nat
  | .chan i => i
  | _ => none
noncomputable def see1 (h : Tr (Blk F)) (v : Value) : Option (D1 F) := match isChan v with
  | some i => match h.get i with
    | some b => match b with
      | .fact f => some (.f f)
      | .cells _ _ => none
    | none => none
  | none => cond (plain v) (some (.p v)) none
noncomputable def consO {α : Type} (a : Option α) (b : Option (List α)) : Option (List α) := match a with
  | some d => match b with
    | some ds => some (d :: ds)
    | none => none
  | none => none
noncomputable def seeL {α : Type} (s : Value → Option α) (l : List Value) : Option (List α) := List.rec (motive := fun _ => Option (List α)) (some []) (fun v _ ih => consO (s v) ih) l
noncomputable def see2 (h : Tr (Blk F)) (v : Value) : Option (D2 F) := match v with
  | .agg cs => (seeL (see1 h) cs.toList).map .agg
  | v => (see1 h v).map .one
noncomputable def see3 (h : Tr (Blk F)) (v : Value) : Option (D3 F) := match v with
  | .tuple cs => (seeL (see2 h) cs.toList).map .tuple
  | v => (see2 h v).map .one
variable {S : Sig F} {r : Ren} {h : Tr (Blk F)} {w : World}
inductive Lay where
  | p (v : Value)
  | one
  | agg (k : Nat)
noncomputable def split (l : List Lay) : List Value → List Value := List.rec (motive := fun _ => List Value → List Value) (fun _ => []) (fun x _ ih vs => match x with
  | .p v => v :: ih vs
  | .one => vs.headD undef :: ih vs.tail
  | .agg k => .agg ⟨vs.take k⟩ :: ih (vs.drop k)) l
noncomputable def tells (fs : List F) (ls : List Lay) (m : List Value → M F Value) : Option (D3 F) := match newFacts fs .nil 100000 with
  | .no => none
  | .ok vs h1 nx1 _ _ => match m (split ls vs) h1 nx1 with
    | .no => none
    | .ok a h2 _ _ W => cond (geAll nx1 W) (see3 h2 a) none
end
noncomputable def symCfg (hd : Oper → List Value → M Sy Nxt) : Cfg Sy where
  hid := symHid
  G := natCfg.G
  tab := natCfg.tab
  len := symLen
  hard := hd
end Ev
end Go.Proofs.Ythfopepnofjcjaa
namespace Go.Proofs.Ythfopepnofjcjaa
open Go Go.RowKit
namespace Ev
noncomputable def symC : Cfg Sy := symCfg (fun _ _ => fail)
instance symCHard : HardLoc symC := ⟨fun _ _ => loc_fail⟩
noncomputable def frs (e : Qe) : List Sy := [.ng e, .fn e, .fd e]
noncomputable def rws (i : Nat) : List Sy := [.rg i, .rn i, .rd i]
noncomputable def inp (b : Bool) (i : Nat) : List Sy := cond b (frs (.v i)) (rws i)
noncomputable def inp4 (a b c d : Bool) : List Sy := inp a 0 ++ (inp b 1 ++ (inp c 2 ++ inp d 3))
noncomputable def v0 : Qe := .v 0
noncomputable def v1 : Qe := .v 1
noncomputable def v2 : Qe := .v 2
noncomputable def v3 : Qe := .v 3
noncomputable def fits (e f : Qe) (s t : Bool) : List As := [⟨0, e, z0, s⟩, ⟨0, f, z0, t⟩]
set_option maxRecDepth 100000
end Ev
end Go.Proofs.Ythfopepnofjcjaa
namespace Go.Proofs.Ythfopepnofjcjaa
open Go Go.RowKit
namespace Ev
abbrev Tri := Bool × ByteArray × ByteArray
def tri (q : Rat) : Tri := (Big.ng q, bst (Big.nu q), bst (Big.de q))
def cel (x : Tri) : List Value := [.bool x.1, .string x.2.1, .string x.2.2]
section
variable {ρ : Env} {w : World} {v : Value}
end
theorem holdsL_append {F : Type} {S : Sig F} {w : World} : ∀ {l l' : List F} {us us' : List Value}, HoldsL S w l us → HoldsL S w l' us' → HoldsL S w (l ++ l') (us ++ us')
  | [], l', us, us', h, h' => by
    obtain rfl : us = [] := h
    exact h'
  | f :: l, l', us, us', h, h' => by
    obtain ⟨u, vs, rfl, h1, h2, h3⟩ := h
    exact ⟨u, vs ++ us', rfl, h1, h2, holdsL_append h3 h'⟩
def pick {α : Type} (a b c d : α) : Nat → α
  | 0 => a
  | 1 => b
  | 2 => c
  | _ => d
theorem inp_holds {ρ : Env} {w : World} {b : Bool} {i : Nat} {x : Tri} (h1 : b = true → x = tri (ρ.q i)) (h2 : b = false → x = ρ.raw i) : HoldsL (symSig ρ) w (inp b i) (cel x) := by
  cases b with
  | true =>
    rw [h1 rfl]
    exact frac_holds (w := w) (.v i)
  | false =>
    rw [h2 rfl]
    exact ⟨_, _, rfl, rfl, rfl, _, _, rfl, rfl, rfl, _, _, rfl, rfl, rfl, rfl⟩
structure In4 (x y z u : Tri) where
  ρ : Env
  a : Bool
  b : Bool
  c : Bool
  d : Bool
  hx : (a = true → x = tri (ρ.q 0)) ∧ (a = false → x = ρ.raw 0)
  hy : (b = true → y = tri (ρ.q 1)) ∧ (b = false → y = ρ.raw 1)
  hz : (c = true → z = tri (ρ.q 2)) ∧ (c = false → z = ρ.raw 2)
  hu : (d = true → u = tri (ρ.q 3)) ∧ (d = false → u = ρ.raw 3)
theorem In4.holds {x y z u : Tri} (i : In4 x y z u) (w : World) : HoldsL (symSig i.ρ) w (inp4 i.a i.b i.c i.d) (cel x ++ (cel y ++ (cel z ++ cel u))) :=
  holdsL_append (inp_holds i.hx.1 i.hx.2) (holdsL_append (inp_holds i.hy.1 i.hy.2) (holdsL_append (inp_holds i.hz.1 i.hz.2) (inp_holds i.hu.1 i.hu.2)))
end Ev
end Go.Proofs.Ythfopepnofjcjaa
namespace Go.Proofs.Ythfopepnofjcjaa
open Go Go.RowKit
namespace Ev
noncomputable def three (a b : Option Bool) : Option Bool := match a with
  | some x => cond x b (some false)
  | none => match b with
    | some y => cond y none (some false)
    | none => none
noncomputable def sameO (A : List As) (l m : List Value) (o p : Option Qe) : Option Bool := match o with
  | some e => match p with
    | some f => cond (e.beq f) (some true) (ask A 2 e f)
    | none => match fitB A e with
      | some t => cond t (some false) none
      | none => none
  | none => match p with
    | some f => match fitB A f with
      | some t => cond t (some false) none
      | none => none
    | none => cond (eqL eq1 l m && plainL plain l) (some true) none
noncomputable def eq3 (A : List As) (l m : List Value) : M Sy (Option Bool) := bind (frcV l) fun o => bind (frcV m) fun p => ret (sameO A l m o p)
noncomputable def ansEq (op : BinOp) (b : Option Bool) : M Sy Nxt := match b with
  | some b => match op with
    | .eql => val (.bool b)
    | .neq => val (.bool (!b))
    | _ => fail
  | none => fail
noncomputable def eqCells (A : List As) (op : BinOp) (t : TypeId) (l m : List Value) : M Sy Nxt :=
  cond (Nat.beq t 39) (bind (eq3 A l m) (ansEq op))
    (cond (Nat.beq t 42) (bind (eq3 A (l.take 3) (m.take 3)) fun b => bind (eq3 A (l.drop 3) (m.drop 3)) fun c => ansEq op (three b c)) fail)
noncomputable def eqHard (A : List As) (o : Oper) (vs : List Value) : M Sy Nxt := match o.op with
  | .binOp op t _ _ _ => match vs with
    | [u, v] => match u with
      | .agg cs => match v with
        | .agg ds => eqCells A op t cs.toList ds.toList
        | _ => fail
      | _ => fail
    | _ => fail
  | _ => fail
theorem loc_eq3 (A : List As) (l m : List Value) : Loc (eq3 A l m) := loc_bind (loc_frcV _) fun _ => loc_bind (loc_frcV _) fun _ => loc_ret _
theorem loc_ansEq (op : BinOp) (b : Option Bool) : Loc (ansEq op b) := by
  unfold ansEq
  (repeat' split) <;> first | exact loc_val _ | exact loc_fail
theorem loc_eqHard (A : List As) (o : Oper) (vs : List Value) : Loc (eqHard A o vs) := by
  unfold eqHard
  (repeat' split) <;> first
    | exact loc_fail
    | exact loc_cond (loc_bind (loc_eq3 _ _ _) fun _ => loc_ansEq _ _) (loc_cond (loc_bind (loc_eq3 _ _ _) fun _ => loc_bind (loc_eq3 _ _ _) fun _ => loc_ansEq _ _) loc_fail)
section
variable {ρ : Env} {A : List As} {h h' : Tr (Blk Sy)} {nx nx' : Nat} {R W : List Nat} {r : Ren} {w : World}
end
end Ev
end Go.Proofs.Ythfopepnofjcjaa
namespace Go.Proofs.Ythfopepnofjcjaa
open Go Go.RowKit
namespace Ev
structure Ps where
  a : Qe
  b : Qe
  t : Bool
def Ps.holds (ρ : Nat → Rat) (x : Ps) : Prop := x.t = true ↔ (Fit (x.a.ev ρ) ∧ Fit (x.b.ev ρ))
noncomputable def askP (B : List Ps) (a b : Qe) : Option Bool := List.rec (motive := fun _ => Option Bool) none
  (fun x _ ih => Bool.rec (motive := fun _ => Option Bool) ih (some x.t) (a.beq x.a && b.beq x.b)) B
noncomputable def inP (B : List Ps) (a : Qe) : Bool := List.rec (motive := fun _ => Bool) false (fun x _ ih => (x.t && (a.beq x.a || a.beq x.b)) || ih) B
noncomputable def fitT (B : List Ps) (e : Qe) : Bool := match e with
  | .v i => Nat.ble i 99
  | .c _ n d => fitC n d
  | e => inP B e
noncomputable def both (o p : Option Qe) : Option (Qe × Qe) := match o with
  | some e => match p with
    | some f => some (e, f)
    | none => none
  | none => none
section
variable {ρ : Env} {A : List As} {B : List Ps} {h h' : Tr (Blk Sy)} {nx nx' : Nat} {R W : List Nat} {r : Ren} {w : World}
end
end Ev
end Go.Proofs.Ythfopepnofjcjaa
namespace Go.Proofs.Ythfopepnofjcjaa
open Go Go.RowKit
namespace Ev
set_option maxRecDepth 100000
noncomputable def kAdd (x y : Qe × Qe) : Qe × Qe := (.add x.1 y.1, .add x.2 y.2)
noncomputable def kSub (x y : Qe × Qe) : Qe × Qe := (.sub x.1 y.1, .sub x.2 y.2)
noncomputable def kMul (x y : Qe × Qe) : Qe × Qe := (.sub (.mul x.1 y.1) (.mul x.2 y.2), .add (.mul x.1 y.2) (.mul x.2 y.1))
section
variable {ρ : Env} {A : List As} {B : List Ps}
end
end Ev
end Go.Proofs.Ythfopepnofjcjaa
namespace Go.Proofs.Ythfopepnofjcjaa
open Go Go.RowKit
namespace Ev
set_option maxRecDepth 100000
noncomputable def nrm (x : Qe × Qe) : Qe := .add (.mul x.1 x.1) (.mul x.2 x.2)
noncomputable def zero3 : List Value := [.bool false, .string ⟨#[]⟩, .string ⟨#[]⟩]
noncomputable def w0 : Qe × Qe := (v0, v1)
noncomputable def w1 : Qe × Qe := (v2, v3)
noncomputable def kQuo (x y : Qe × Qe) : Qe × Qe := (.quo (.sub (.mul x.1 y.1) (.mul x.2 (.neg y.2))) (nrm y), .quo (.add (.mul x.1 (.neg y.2)) (.mul x.2 y.1)) (nrm y))
noncomputable def fZ : Value := .agg ⟨zero3⟩
section
variable {ρ : Env} {w : World} {v : Value}
end
theorem sq_nonneg (c : Rat) : 0 ≤ c * c := by
  rcases Rat.le_total (a := 0) (b := c) with h | h
  · exact Rat.mul_nonneg h h
  · have h1 : 0 ≤ -c := by grind
    have h2 := Rat.mul_nonneg h1 h1
    grind
end Ev
end Go.Proofs.Ythfopepnofjcjaa
namespace Go.Proofs.Ythfopepnofjcjaa
open Go Go.RowKit
namespace Ev
set_option maxRecDepth 100000
noncomputable def lawC (A : List As) : Cfg Sy := symCfg (eqHard A)
instance lawHard (A : List As) : HardLoc (lawC A) := ⟨loc_eqHard A⟩
noncomputable def inp6 (a b c d e f : Bool) : List Sy := inp a 0 ++ (inp b 1 ++ (inp c 2 ++ (inp d 3 ++ (inp e 4 ++ inp f 5))))
noncomputable def lx : Qe × Qe := (.v 0, .v 1)
noncomputable def ly : Qe × Qe := (.v 2, .v 3)
noncomputable def lz : Qe × Qe := (.v 4, .v 5)
noncomputable def pr (p : Qe × Qe) (t : Bool) : Ps := ⟨p.1, p.2, t⟩
noncomputable def la : Qe × Qe := kAdd lx ly
noncomputable def ls : Qe × Qe := kMul la lz
noncomputable def lt : Qe × Qe := kMul lx lz
noncomputable def lu : Qe × Qe := kMul ly lz
noncomputable def lk : Qe × Qe := kSub la ly
end Ev
end Go.Proofs.Ythfopepnofjcjaa
namespace Go.Proofs.Ythfopepnofjcjaa
open Go Go.RowKit
namespace Ev
set_option maxRecDepth 100000
end Ev
end Go.Proofs.Ythfopepnofjcjaa
namespace Go.Proofs.Ythfopepnofjcjaa
open Go Go.RowKit
namespace Ev
structure In6 (x y z u s t : Tri) where
  ρ : Env
  a : Bool
  b : Bool
  c : Bool
  d : Bool
  e : Bool
  f : Bool
  hx : (a = true → x = tri (ρ.q 0)) ∧ (a = false → x = ρ.raw 0)
  hy : (b = true → y = tri (ρ.q 1)) ∧ (b = false → y = ρ.raw 1)
  hz : (c = true → z = tri (ρ.q 2)) ∧ (c = false → z = ρ.raw 2)
  hu : (d = true → u = tri (ρ.q 3)) ∧ (d = false → u = ρ.raw 3)
  hs : (e = true → s = tri (ρ.q 4)) ∧ (e = false → s = ρ.raw 4)
  ht : (f = true → t = tri (ρ.q 5)) ∧ (f = false → t = ρ.raw 5)
theorem In6.holds {x y z u s t : Tri} (i : In6 x y z u s t) (w : World) : HoldsL (symSig i.ρ) w (inp6 i.a i.b i.c i.d i.e i.f) (cel x ++ (cel y ++ (cel z ++ (cel u ++ (cel s ++ cel t))))) :=
  holdsL_append (inp_holds i.hx.1 i.hx.2) (holdsL_append (inp_holds i.hy.1 i.hy.2) (holdsL_append (inp_holds i.hz.1 i.hz.2) (holdsL_append (inp_holds i.hu.1 i.hu.2) (holdsL_append (inp_holds i.hs.1 i.hs.2) (inp_holds i.ht.1 i.ht.2)))))
end Ev
end Go.Proofs.Ythfopepnofjcjaa
namespace Go.Proofs.Ythfopepnofjcjaa
open Go Go.RowKit
namespace Ev
set_option maxRecDepth 100000
section
variable {ρ : Env} {A : List As} {B : List Ps} {h h' : Tr (Blk Sy)} {nx nx' : Nat} {R W : List Nat} {r : Ren} {w : World}
end
noncomputable def c0 : Qe := .c false 0 1
noncomputable def np : Qe × Qe := kMul lx ly
noncomputable def nm : Qe := nrm lx
noncomputable def nn : Qe := nrm ly
noncomputable def no : Qe := nrm np
noncomputable def nc : Qe × Qe := (.v 0, .neg (.v 1))
noncomputable def nq : Qe × Qe := kMul lx nc
noncomputable def nb : Qe × Qe := kQuo np ly
end Ev
end Go.Proofs.Ythfopepnofjcjaa
namespace Go.Proofs.Ythfopepnofjcjaa
open Go Go.RowKit
namespace Ev
set_option maxRecDepth 100000
end Ev
end Go.Proofs.Ythfopepnofjcjaa
namespace Go.Proofs.Ythfopepnofjcjaa
open Go Go.RowKit
namespace Ev
set_option maxRecDepth 100000
noncomputable def uc : Qe := .c false 1 1
section
variable {ρ : Env} {A : List As}
end
noncomputable def ovT (x y : Qe) (d g s : Bool) : List As := [⟨1, y, z0, d⟩, ⟨3, y, z0, g⟩, ⟨0, .quo x y, z0, s⟩]
noncomputable def sT (d g s : Bool) : List As := ovT (.add v0 v1) (.sub uc (.mul v0 v1)) d g s
noncomputable def noV (n : Int) : Value := .tuple ⟨[fZ, .bool false, .int .i64 n]⟩
section
variable {ρ : Env} {w : World} {v : Value}
end
section
variable {f : FuncId} {w : World} {S : List As → Sums Sy}
end
section
variable {w : World}
end
end Ev
end Go.Proofs.Ythfopepnofjcjaa
namespace Go.Proofs.Ythfopepnofjcjaa
open Go Go.RowKit
namespace Ev
set_option maxRecDepth 100000
section
variable {ρ : Env} {A : List As} {B : List Ps} {h h' : Tr (Blk Sy)} {nx nx' : Nat} {R W : List Nat} {r : Ren} {w : World}
noncomputable def ansT (B : List Ps) (e : Qe) : M Sy Value := match askP B e e with
  | some t => cond t (bind (newFacts (frs e)) fun vs => ret (.tuple ⟨[.agg ⟨vs⟩, .bool true, .int .i64 0]⟩)) (ret (noV 3))
  | none => fail
noncomputable def overS (A : List As) (B : List Ps) (x y : Qe) : M Sy Value := match noughtB A y with
  | some d => cond d (ret (noV 0)) (ansT B (.quo x y))
  | none => fail
noncomputable def sumS (A : List As) (B : List Ps) (o p : Option Qe) : M Sy Value := match o with
  | some s => match p with
    | some t => cond (fitT B s && fitT B t) (overS A B (.add s t) (.sub uc (.mul s t))) fail
    | none => ret (noV 2)
  | none => ret (noV 2)
end
noncomputable def works7 : Fact := ⟨12, [], .bool true⟩
theorem works7_ok : works7.ok := Fact.of_run (n := 60) (by kernel_rfl) rfl
end Ev
end Go.Proofs.Ythfopepnofjcjaa
namespace Go.Proofs.Ythfopepnofjcjaa
open Go Go.RowKit
namespace Tp
set_option maxRecDepth 100000
structure Four (k n : Int) (c d r : Nat) (e : Int) : Prop where
  p : ∀ w, Try.prog.globals.size ≤ w.heap.size → Calls Try.prog 6 #[.int .i64 k, .int .i64 n] w fun x w' => x = .returned (.tuple #[.complex .f64 c d, .int .i64 e]) ∧ Below w.heap.size w w'
  q : ∀ w, Try.prog.globals.size ≤ w.heap.size → Calls Try.prog 7 #[.int .i64 k, .int .i64 n] w fun x w' => x = .returned (.tuple #[.complex .f64 c d, .int .i64 e]) ∧ Below w.heap.size w w'
  s : ∀ w, Try.prog.globals.size ≤ w.heap.size → Calls Try.prog 9 #[.int .i64 k, .int .i64 n] w fun x w' => x = .returned (.tuple #[.agg #[.complex .f64 c d, .float .f64 r], .int .i64 e]) ∧ Below w.heap.size w w'
  t : ∀ w, Try.prog.globals.size ≤ w.heap.size → Calls Try.prog 10 #[.int .i64 k, .int .i64 n] w fun x w' => x = .returned (.tuple #[.agg #[.complex .f64 c d, .float .f64 r], .int .i64 e]) ∧ Below w.heap.size w w'
theorem four (k n : Int) (h0 : -9223372036854775808 ≤ k) (h1 : k ≤ 9223372036854775807) : ∃ c d r e, Four k n c d r e := by
  rcases (show n < 0 ∨ 16 < n ∨ (0 ≤ n ∧ n ≤ 16) by omega) with hn | hn | ⟨hn0, hn1⟩
  · exact ⟨0, 0, 0, 2, fun w _ => parts_err w k n 2 (by omega) (fun W => wayTo_low W k n hn), fun w _ => rparts_err w k n 2 (by omega) (fun W => may_low W n hn), fun w _ => disc_err w k n 2 (by omega) (fun W => wayTo_low W k n hn), fun w _ => rdisc_err w k n 2 (by omega) (fun W => may_low W n hn)⟩
  · exact ⟨0, 0, 0, 3, fun w _ => parts_err w k n 3 (by omega) (fun W => wayTo_high W k n hn), fun w _ => rparts_err w k n 3 (by omega) (fun W => may_high W n hn), fun w _ => disc_err w k n 3 (by omega) (fun W => wayTo_high W k n hn), fun w _ => rdisc_err w k n 3 (by omega) (fun W => may_high W n hn)⟩
  · obtain ⟨m, rfl⟩ : ∃ m : Nat, n = (m : Int) := ⟨n.toNat, by omega⟩
    have hm : m ≤ 16 := by omega
    have hj := jN_lt k m
    have hr := restOf_le (jN k m)
    have hq : jN k m / 16384 ≤ 3 := Nat.le_of_lt_succ (Nat.div_lt_of_lt_mul (show jN k m < 16384 * 4 from hj))
    have HW : ∀ W, Calls Try.prog 22 #[.int .i64 k, .int .i64 m] W (WayRes W ((jN k m / 16384 : Nat) : Int) ((restOf (jN k m) : Nat) : Int) (mirOf (jN k m)) 0) := fun W => wayTo_mid W k m hm
    have HAt := fun W (hG : Try.prog.globals.size ≤ W.heap.size) => at_any W k m hm h0 h1 hG
    have HM := fun W => may_mid W (m : Int) (by omega) (by omega)
    generalize jN k m / 16384 = q at *
    generalize restOf (jN k m) = rr at *
    generalize mirOf (jN k m) = mm at *
    have HP := fun W (hG : Try.prog.globals.size ≤ W.heap.size) => point_any W q rr mm hq hr hG
    have hz := pt_zero (m := mm) hq hr
    generalize ptC q mm (zOf rr) = z at *
    obtain ⟨c, d⟩ := z
    rcases hz with ⟨rfl, hz⟩ | ⟨hr0, hz1, hz2⟩
    · refine ⟨c, d, 0, 0, fun w hG => parts_ok w k m q 0 mm c d HW (fun W hb => HP W (Nat.le_trans hG hb.size)), fun w hG => rparts_ok w k m c d HM (fun W hb => HAt W (Nat.le_trans hG hb.size)), fun w hG => disc_zero w k m q mm c d HW (fun W hb => HP W (Nat.le_trans hG hb.size)), fun w hG => ?_⟩
      cases hc : isZ c with
      | true => exact rdisc_z1 w k m c d hc HM (fun W hb => HAt W (Nat.le_trans hG hb.size))
      | false =>
        have hd : isZ d = true := by
          have hz' : (isZ c || isZ d) = true := hz
          rwa [hc, Bool.false_or] at hz'
        exact rdisc_z2 w k m c d hc hd HM (fun W hb => HAt W (Nat.le_trans hG hb.size))
    · exact ⟨c, d, 4409024035195715584, 0, fun w hG => parts_ok w k m q rr mm c d HW (fun W hb => HP W (Nat.le_trans hG hb.size)), fun w hG => rparts_ok w k m c d HM (fun W hb => HAt W (Nat.le_trans hG hb.size)), fun w hG => disc_pos w k m q rr mm c d (by omega) HW (fun W hb => HP W (Nat.le_trans hG hb.size)), fun w hG => rdisc_pos w k m c d hz1 hz2 HM (fun W hb => HAt W (Nat.le_trans hG hb.size))⟩
end Tp
end Go.Proofs.Ythfopepnofjcjaa
namespace Go.Proofs.Ythfopepnofjcjaa
open Go Go.RowKit Ieee Fl
namespace Tp
set_option maxRecDepth 100000
theorem partsJ (w : World) (k : Int) (n : Nat) (hn : n ≤ 16) (hG : Try.prog.globals.size ≤ w.heap.size) :
    Calls Try.prog 6 #[.int .i64 k, .int .i64 n] w fun x w' => x = .returned (.tuple #[.complex .f64 (FJ (jN k n)).1 (FJ (jN k n)).2, .int .i64 0]) ∧ Below w.heap.size w w' := by
  have hj := jN_lt k n
  have hq : jN k n / 16384 ≤ 3 := Nat.le_of_lt_succ (Nat.div_lt_of_lt_mul (show jN k n < 16384 * 4 from hj))
  exact parts_ok w k n _ _ _ _ _ (fun W => wayTo_mid W k n hn) (fun W hb => point_any W _ _ _ hq (restOf_le _) (Nat.le_trans hG hb.size))
theorem discJ (w : World) (k : Int) (n : Nat) (hn : n ≤ 16) (hG : Try.prog.globals.size ≤ w.heap.size) : ∃ r, (restOf (jN k n) = 0 ∧ r = 0 ∨ restOf (jN k n) ≠ 0 ∧ r = 4409024035195715584) ∧
    Calls Try.prog 9 #[.int .i64 k, .int .i64 n] w fun x w' => x = .returned (.tuple #[.agg #[.complex .f64 (FJ (jN k n)).1 (FJ (jN k n)).2, .float .f64 r], .int .i64 0]) ∧ Below w.heap.size w w' := by
  have hj := jN_lt k n
  have hq : jN k n / 16384 ≤ 3 := Nat.le_of_lt_succ (Nat.div_lt_of_lt_mul (show jN k n < 16384 * 4 from hj))
  have hW := fun W => wayTo_mid W k n hn
  have hP := fun W (hb : Below w.heap.size w W) => point_any W (jN k n / 16384) (restOf (jN k n)) (mirOf (jN k n)) hq (restOf_le _) (Nat.le_trans hG hb.size)
  unfold wayV at hW
  by_cases h0 : restOf (jN k n) = 0
  · refine ⟨0, .inl ⟨h0, rfl⟩, ?_⟩
    unfold FJ
    rw [h0] at hW hP ⊢
    exact disc_zero w k n _ _ _ _ hW hP
  · exact ⟨_, .inr ⟨h0, rfl⟩, disc_pos w k n _ _ _ _ _ (by omega) hW hP⟩
theorem pow_bd {n : Nat} (hn : n ≤ 16) : ∃ M : Nat, 2 ^ n = M ∧ 0 < M ∧ M ≤ 65536 ∧ M * 2 ^ (16 - n) = 65536 := by
  refine ⟨2 ^ n, rfl, Nat.two_pow_pos n, Nat.pow_le_pow_right (by omega) hn, ?_⟩
  rw [← Nat.pow_add, show n + (16 - n) = 16 by omega]
theorem jN_neg (k : Int) (n : Nat) : jN (-k) n = (65536 - jN k n) % 65536 := by
  unfold jN
  rw [Int.neg_mul]
  generalize k * 2 ^ (16 - n) = x
  omega
theorem jN_two (k : Int) (n : Nat) : jN (2 * k) n = 2 * jN k n % 65536 := by
  unfold jN
  rw [Int.mul_assoc]
  generalize k * 2 ^ (16 - n) = x
  omega
theorem jN_fine (k : Int) {n : Nat} (hn : n < 16) : jN (2 * k) (n + 1) = jN k n := by
  unfold jN
  rw [show 16 - n = 16 - (n + 1) + 1 by omega, Int.pow_succ, ← Int.mul_assoc, Int.mul_comm 2 k, Int.mul_assoc, Int.mul_comm 2, ← Int.mul_assoc]
theorem jN_quarter (k : Int) {n : Nat} (hn : n ≤ 16) : restOf (jN k n) = 0 ↔ (4 * k) % 2 ^ n = 0 := by
  obtain ⟨M, e, h0, h1, h2⟩ := pow_bd hn
  have eI : (2 : Int) ^ n = (M : Int) := by rw [← e, Int.natCast_pow]; rfl
  have eJ : (2 : Int) ^ (16 - n) = ((2 ^ (16 - n) : Nat) : Int) := by rw [Int.natCast_pow]; rfl
  have hr : restOf (jN k n) = 0 ↔ jN k n % 16384 = 0 := by
    unfold restOf
    have := jN_lt k n
    split <;> omega
  rw [hr, eI]
  unfold jN
  rw [eJ]
  generalize (2 ^ (16 - n) : Nat) = P at *
  have hP : 0 < P := by
    rcases Nat.eq_zero_or_pos P with h | h
    · subst h; omega
    · exact h
  have h3 : ((k * (P : Int)) % 65536).toNat % 16384 = 0 ↔ (k * (P : Int)) % 16384 = 0 := by omega
  rw [h3]
  constructor
  · intro h
    have hd : (16384 : Int) ∣ k * P := Int.dvd_of_emod_eq_zero h
    obtain ⟨c, hc⟩ := hd
    have : (M : Int) * P = 65536 := by rw [← Int.natCast_mul, h2]; rfl
    apply Int.emod_eq_zero_of_dvd
    refine ⟨c, ?_⟩
    have h5 : (4 * k) * (P : Int) = (M * c) * P := by
      rw [Int.mul_assoc, hc, Int.mul_assoc (M : Int), Int.mul_comm c, ← Int.mul_assoc (M : Int), this]
      omega
    exact Int.eq_of_mul_eq_mul_right (by omega) h5
  · intro h
    obtain ⟨c, hc⟩ := Int.dvd_of_emod_eq_zero h
    have : (M : Int) * P = 65536 := by rw [← Int.natCast_mul, h2]; rfl
    apply Int.emod_eq_zero_of_dvd
    refine ⟨c, ?_⟩
    have h5 : 4 * (k * (P : Int)) = 65536 * c := by
      rw [← Int.mul_assoc, hc, Int.mul_assoc, Int.mul_comm c, ← Int.mul_assoc, this]
    omega
theorem absT_bits (x : Nat) (hx : x < 18446744073709551616) : bits .andNot .u64 (x : Int) 9223372036854775808 = (rg x : Int) := by
  have h := u64_andNot_nat x 9223372036854775808 hx (by omega)
  rw [show ((9223372036854775808 : Nat) : Int) = 9223372036854775808 from rfl] at h
  rw [h, show 18446744073709551615 - 9223372036854775808 = 2 ^ 63 - 1 by decide, Nat.and_two_pow_sub_one_eq_mod]
  rfl
@[go_sem] theorem call_from7 (n : Int) (w : World) : (callFunc 69 #[.int .u64 n]).run Try.prog w = .ok (.value (.float .f64 n.toNat)) w := by
  rw [run_callFunc_extern (e := Extern.MathFloatBits.float64frombits) Try.func69 (by kernel_rfl) (by kernel_rfl) (by kernel_rfl) (by kernel_rfl)]; rfl
theorem absT_any (x : Nat) (hx : x < 18446744073709551616) (w : World) : Calls Try.prog 47 #[.float .f64 x] w fun e w' => e = .returned (.float .f64 (rg x)) ∧ w = w' := by
  have hb := absT_bits x hx
  have ht : ((rg x : Nat) : Int).toNat = rg x := Int.toNat_natCast _
  go_enter Try.func47, Try.ntmps47
  go_wp2
  go_ret
  exact ⟨rfl, rfl⟩
theorem near_any (w : World) {a b far t : Nat} (h1 : double.sub a b = some t) (h2 : double.order (rg t) far = some .lt) :
    Calls Try.prog 21 #[.float .f64 a, .float .f64 b, .float .f64 far] w fun e w' => e = .returned (.bool true) ∧ w = w' := by
  have ht : t < 18446744073709551616 := double.sub_lt h1
  have o1 : ∀ y w, (binOp .sub y (.float .f64 a) (.float .f64 b)).run Try.prog w = .ok (.float .f64 t) w := fun y w => run_float_arith w .sub y .f64 _ _ _ (show floatBits .sub .f64 a b = some t from h1)
  have e2 : FloatKind.f64.format.order (rg t) far = some .lt := h2
  clear h1 h2
  go_enter Try.func21, Try.ntmps21
  go_wp2_with (first | simp only [o1] | (go_at_call 47; refine (absT_any t ht _).mono ?_; rintro e w' ⟨rfl, rfl⟩))
  go_ret
  exact ⟨by rw [show FloatKind.f64.format = double from rfl] at e2; simp [e2], rfl⟩
end Tp
end Go.Proofs.Ythfopepnofjcjaa
