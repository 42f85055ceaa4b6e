/- Contracts, in this order: ref07.At: the point at k parts, by floats. -/
import Derived.Test.YtepnghhgmjobjaaTq21
import Derived.Test.YtepnghhgmjobjaaTq25
import Derived.Deep.QuietTactic
import Derived.BigQuiet
namespace Go.Proofs.Ytepnghhgmjobjaa
open Go Go.RowKit
namespace Tp
set_option maxRecDepth 100000
theorem ref_facts (k : Int) (n : Nat) (hn : n ≤ 16) : ∃ (M a t p : Int), wrap64 (2 ^ n) = M ∧ 0 < M ∧ M ≤ 65536 ∧ k.tmod M = a ∧ IntKind.i64.wrap (a + M) = a + M ∧ (a + M).tmod M = t ∧ (65536 : Int).tdiv M = p ∧ IntKind.i64.wrap (t * p) = (jN k n : Int) := by
  have hj := ref_j k n hn
  have hl := jN_lt k n
  have hM : (0 : Int) < 2 ^ n ∧ (2 : Int) ^ n ≤ 65536 := by
    have h1 : (2 : Nat) ^ n ≤ 2 ^ 16 := Nat.pow_le_pow_right (by omega) hn
    have h2 : 0 < (2 : Nat) ^ n := Nat.pow_pos (by omega)
    have e : ((2 ^ n : Nat) : Int) = (2 : Int) ^ n := by rw [Int.natCast_pow]; rfl
    rw [← e]
    omega
  generalize (2 : Int) ^ n = M at *
  have h3 := Int.tmod_lt_of_pos k hM.1
  have h4 : -M < k.tmod M := by
    have := Int.tmod_lt_of_pos (-k) hM.1
    rw [Int.neg_tmod] at this
    omega
  refine ⟨M, _, _, _, ?_, hM.1, hM.2, rfl, ?_, rfl, rfl, ?_⟩
  · unfold wrap64
    omega
  · exact IntWalk.i64_in _ (by omega)
  · rw [hj]
    exact IntWalk.i64_in _ (by omega)
theorem shr_test {r t : Nat} : (((r / 2 ^ t) &&& 1 : Nat) : Int) = if r.testBit t = true then 1 else 0 := by
  rw [Nat.and_one_is_mod, Nat.testBit_eq_decide_div_mod_eq]
  by_cases h : r / 2 ^ t % 2 = 1
  · rw [h]; simp [h]
  · have : r / 2 ^ t % 2 = 0 := by omega
    rw [this]; simp
theorem shr_bits {r t : Nat} (hr : r ≤ 8192) : bits .and .i64 ((r : Int) / 2 ^ t) 1 = if r.testBit t = true then 1 else 0 := by
  have e1 : (r : Int) / 2 ^ t = ((r / 2 ^ t : Nat) : Int) := by
    rw [Int.natCast_ediv, Int.natCast_pow]; rfl
  have h2 := Nat.div_le_self r (2 ^ t)
  rw [e1, show (1 : Int) = ((1 : Nat) : Int) from rfl, and_i64_nat _ _ (by omega) (by decide)]
  exact shr_test
set_option maxHeartbeats 16000000 in
theorem at_any (w : World) (k : Int) (n : Nat) (hn : n ≤ 16) (h0 : -9223372036854775808 ≤ k) (h1 : k ≤ 9223372036854775807) (hG : Try.prog.globals.size ≤ w.heap.size) : Calls Try.prog 44 #[.int .i64 k, .int .i64 n] w fun e w' => e = .returned (.complex .f64 (ptC (jN k n / 16384) (mirOf (jN k n)) (zOf (restOf (jN k n)))).1 (ptC (jN k n / 16384) (mirOf (jN k n)) (zOf (restOf (jN k n)))).2) ∧ Below w.heap.size w w' := by
  have n0 : ¬ (n : Int) < 0 := by omega
  obtain ⟨M, a, t, p, hM, hM0, hM1, ha, hs, ht, hp, hj⟩ := ref_facts k n hn
  have hjl := jN_lt k n
  generalize jN k n = j at *
  have hMn : ¬ M = 0 := by omega
  have hpb : 0 ≤ p ∧ p ≤ 65536 := by
    rw [← hp]
    have h2 : Int.tdiv 65536 M = 65536 / M := Int.tdiv_eq_ediv_of_nonneg (by omega)
    rw [h2]
    refine ⟨Int.ediv_nonneg (by omega) (by omega), ?_⟩
    exact Int.ediv_le_self _ (by omega)
  have hpw : wrap64 p = p := by
    unfold wrap64
    omega
  have hjw : wrap64 (t * p) = (j : Int) := by
    rw [IntKind.wrap_i64] at hj
    generalize t * p = x at *
    unfold wrap64
    omega
  obtain ⟨q, hq⟩ : ∃ q, j / 16384 = q := ⟨_, rfl⟩
  obtain ⟨r, hr⟩ : ∃ r, j % 16384 = r := ⟨_, rfl⟩
  have hq' : ((j : Nat) : Int).tdiv 16384 = (q : Int) := by rw [Int.tdiv_eq_ediv_of_nonneg (by omega)]; omega
  have hr' : ((j : Nat) : Int).tmod 16384 = (r : Int) := by rw [Int.tmod_eq_emod_of_nonneg (by omega)]; omega
  have hqw : wrap64 (q : Int) = (q : Int) := by
    unfold wrap64
    omega
  obtain ⟨rr, hrr⟩ : ∃ rr, restOf j = rr := ⟨_, rfl⟩
  have hrl : rr ≤ 8192 := hrr ▸ restOf_le j
  obtain ⟨mm, hmm⟩ : ∃ mm, mirOf j = mm := ⟨_, rfl⟩
  rw [hq, hrr, hmm]
  have HGd := Lib.hid (fun j (hj : j ≤ 14) => good_all hrl hj)
  have HPt := Lib.hid (fun W i hi (h : Below w.heap.size w W) => part_any W i hi (Nat.le_trans hG h.size))
  have hml : (mm = true ∧ (8192 : Int) < (r : Int) ∧ wrap64 (16384 - (r : Int)) = (rr : Int)) ∨ (mm = false ∧ ¬ (8192 : Int) < (r : Int) ∧ rr = r) := by
    by_cases hm : 8192 < r
    · refine .inl ⟨by rw [← hmm]; unfold mirOf; rw [hr]; exact decide_eq_true hm, by omega, ?_⟩
      rw [← hrr]; unfold restOf; rw [hr, if_pos hm]
      unfold wrap64
      omega
    · refine .inr ⟨by rw [← hmm]; unfold mirOf; rw [hr]; exact decide_eq_false hm, by omega, ?_⟩
      rw [← hrr]; unfold restOf; rw [hr, if_neg hm]
  have hq3 : q ≤ 3 := by
    rw [← hq]
    exact Nat.le_of_lt_succ (Nat.div_lt_of_lt_mul (show j < 16384 * 4 from hjl))
  clear hj hrr hmm hG hq hr
  go_enter Try.func44, Try.ntmps44
  go_wp2_with fail
  go_quiet (fail)
  have HB := Lib.hid (below_drewN (Below.refl w.heap.size w) nq)
  generalize w.drewN nq = wd at *
  clear hM ha hs ht hp hMn hM0 hM1 h0 h1 hn
  rcases hml with ⟨rfl, hm', hs'⟩ | ⟨rfl, hm', rfl⟩
  · go_wp2_with fail
    rw [hs']
    try rw [hqw]
    clear hpw hjw hq' hr' hqw hm' hs' hpb hjl
    go_loopw [10, 11, 12] (fun zv fv bv wr => ∃ (i a b : Nat) (f : Bool), i ≤ 14 ∧ bv = .int .i64 (13 - (i : Int)) ∧ fv = .bool f ∧ zv = .complex .f64 a b ∧ Hid (prodC rr i = some (a, b)) ∧ Hid (f = true → (a, b) = oneC) ∧ Hid (Below w.heap.size w wr)) (fun _ _ bv _ => ((intOf bv) + 1).toNat)
    case atStart => exact ⟨0, _, _, true, by omega, rfl, rfl, rfl, Lib.hid rfl, Lib.hid fun _ => rfl, HB⟩
    case round =>
      obtain ⟨i, a, b, f, hi, rfl, rfl, rfl, HPr, HF, HBr⟩ := hrel
      by_cases hlt : i < 14
      · obtain ⟨tt, htt⟩ : ∃ tt : Nat, 13 - (i : Int) = (tt : Int) := ⟨13 - i, by omega⟩
        have ht13 : 13 - i = tt := by omega
        have hstep : (tt : Int) - 1 = 13 - ((i + 1 : Nat) : Int) := by omega
        have hmes : ((tt : Int) - 1 + 1).toNat < ((tt : Int) + 1).toNat := by omega
        rw [htt]
        have htl : (tt : Int) ≥ 0 := by omega
        have htl2 : tt ≤ 13 := by omega
        have hbt := shr_bits (t := tt) hrl
        obtain ⟨z, hz, -⟩ := HGd.out (i + 1) (by omega)
        have HST := Lib.hid (And.intro hstep hmes)
        cases hb : rr.testBit tt with
        | false =>
          rw [hb, if_neg (by simp)] at hbt
          have HZ := Lib.hid (prod_no HPr.out (by rw [ht13]; exact hb))
          have hi1 : i + 1 ≤ 14 := by omega
          clear hz hb HPr hi hlt hstep hmes ht13 htt
          go_wp2_with fail
          go_roundw
          case rel => exact ⟨i + 1, a, b, f, hi1, by rw [HST.out.1], rfl, rfl, HZ, HF, HBr⟩
          case measure => exact HST.out.2
        | true =>
          rw [hb, if_pos rfl] at hbt
          have hp := prod_yes HPr.out (by rw [ht13]; exact hb)
          have HP1 := HPt.out wr i hlt HBr.out
          have e16 : (16 : Int) - (tt : Int) = ((i + 3 : Nat) : Int) := by omega
          rw [← e16] at HP1
          obtain ⟨c, d, hcd⟩ : ∃ c d, pl.getD i (0, 0) = (c, d) := ⟨_, _, rfl⟩
          have hone := one_part hlt
          rw [hcd] at HP1 hp hone
          have HPa := Lib.hid HP1
          have hi1 : i + 1 ≤ 14 := by omega
          cases f with
          | true =>
            have hab := HF.out rfl
            rw [hab, hone] at hp
            have HZ := Lib.hid hp
            clear hz hb HPr hi hlt hstep hmes ht13 htt hp HP1 hcd hone hab HF e16
            go_wp2_with (go_at_call 66; refine HPa.out.mono ?_; rintro e w1 ⟨rfl, hb1⟩)
            have HB1 := Lib.hid (HBr.out.trans (hb1.mono HBr.out.size))
            go_roundw
            case rel => exact ⟨i + 1, c, d, false, hi1, by rw [HST.out.1], rfl, rfl, HZ, Lib.hid (fun h => by cases h), HB1⟩
            case measure => exact HST.out.2
          | false =>
            obtain ⟨a2, b2⟩ := z
            rw [hz] at hp
            have HT := Lib.hid (fun w => rtimes_any hp.symm w)
            have HZ := Lib.hid hz
            clear hz hb HPr hi hlt hstep hmes ht13 htt hp HP1 hcd hone HF e16
            go_wp2_with (first | (go_at_call 66; refine HPa.out.mono ?_; rintro e w1 ⟨rfl, hb1⟩) | (go_at_call 67; refine (HT.out _).mono ?_; rintro e w2 ⟨rfl, rfl⟩))
            have HB1 := Lib.hid (HBr.out.trans (hb1.mono HBr.out.size))
            go_roundw
            case rel => exact ⟨i + 1, a2, b2, false, hi1, by rw [HST.out.1], rfl, rfl, HZ, Lib.hid (fun h => by cases h), HB1⟩
            case measure => exact HST.out.2
      · obtain rfl : i = 14 := by omega
        have HZ := Lib.hid (zOf_is HPr.out)
        have HS := Lib.hid (show swp true (zOf rr) = (b, a) by unfold swp; rw [HZ.out]; rfl)
        have hlt' : ¬ (13 - ((14 : Nat) : Int)) ≥ 0 := by omega
        clear HPr HF HPt HGd HZ hlt
        go_wp2_with fail
        go_loopw [10, 13] (fun zv iv wr => ∃ (i : Nat), i ≤ q ∧ iv = .int .i64 i ∧ zv = .complex .f64 (rotI i (b, a)).1 (rotI i (b, a)).2 ∧ Hid (Below w.heap.size w wr)) (fun _ iv _ => q - (intOf iv).toNat)
        case atStart => exact ⟨0, by omega, rfl, rfl, HBr⟩
        case round =>
          obtain ⟨i, hi, rfl, rfl, HBs⟩ := hrel
          by_cases hlt : i < q
          · have hlt' : (i : Int) < (q : Int) := by omega
            go_wp2_with fail
            go_roundw
            case rel => exact ⟨i + 1, by omega, by go_num, rfl, HBs⟩
            case measure => simp [intOf]; omega
          · have hlt' : ¬ (i : Int) < (q : Int) := by omega
            obtain rfl : i = q := by omega
            obtain ⟨c, d, hcd⟩ : ∃ c d, rotI i (b, a) = (c, d) := ⟨_, _, rfl⟩
            have HC := Lib.hid (show ptC i true (zOf rr) = (unsN c, unsN d) by unfold ptC; rw [HS.out, hcd])
            rw [hcd]
            have H1 := Lib.hid (fun w => runsigned_any c w)
            have H2 := Lib.hid (fun w => runsigned_any d w)
            clear hcd HS
            generalize unsN c = c2 at *
            generalize unsN d = d2 at *
            go_wp2_with (go_at_call 68; (first | with_reducible refine (H1.out _).mono ?_ | with_reducible refine (H2.out _).mono ?_); rintro e w' ⟨rfl, rfl⟩)
            go_ret
            exact ⟨by rw [HC.out]; rfl, HBs.out⟩
  · go_wp2_with fail
    try rw [hqw]
    clear hpw hjw hq' hr' hqw hm' hpb hjl
    go_loopw [10, 11, 12] (fun zv fv bv wr => ∃ (i a b : Nat) (f : Bool), i ≤ 14 ∧ bv = .int .i64 (13 - (i : Int)) ∧ fv = .bool f ∧ zv = .complex .f64 a b ∧ Hid (prodC rr i = some (a, b)) ∧ Hid (f = true → (a, b) = oneC) ∧ Hid (Below w.heap.size w wr)) (fun _ _ bv _ => ((intOf bv) + 1).toNat)
    case atStart => exact ⟨0, _, _, true, by omega, rfl, rfl, rfl, Lib.hid rfl, Lib.hid fun _ => rfl, HB⟩
    case round =>
      obtain ⟨i, a, b, f, hi, rfl, rfl, rfl, HPr, HF, HBr⟩ := hrel
      by_cases hlt : i < 14
      · obtain ⟨tt, htt⟩ : ∃ tt : Nat, 13 - (i : Int) = (tt : Int) := ⟨13 - i, by omega⟩
        have ht13 : 13 - i = tt := by omega
        have hstep : (tt : Int) - 1 = 13 - ((i + 1 : Nat) : Int) := by omega
        have hmes : ((tt : Int) - 1 + 1).toNat < ((tt : Int) + 1).toNat := by omega
        rw [htt]
        have htl : (tt : Int) ≥ 0 := by omega
        have htl2 : tt ≤ 13 := by omega
        have hbt := shr_bits (t := tt) hrl
        obtain ⟨z, hz, -⟩ := HGd.out (i + 1) (by omega)
        have HST := Lib.hid (And.intro hstep hmes)
        cases hb : rr.testBit tt with
        | false =>
          rw [hb, if_neg (by simp)] at hbt
          have HZ := Lib.hid (prod_no HPr.out (by rw [ht13]; exact hb))
          have hi1 : i + 1 ≤ 14 := by omega
          clear hz hb HPr hi hlt hstep hmes ht13 htt
          go_wp2_with fail
          go_roundw
          case rel => exact ⟨i + 1, a, b, f, hi1, by rw [HST.out.1], rfl, rfl, HZ, HF, HBr⟩
          case measure => exact HST.out.2
        | true =>
          rw [hb, if_pos rfl] at hbt
          have hp := prod_yes HPr.out (by rw [ht13]; exact hb)
          have HP1 := HPt.out wr i hlt HBr.out
          have e16 : (16 : Int) - (tt : Int) = ((i + 3 : Nat) : Int) := by omega
          rw [← e16] at HP1
          obtain ⟨c, d, hcd⟩ : ∃ c d, pl.getD i (0, 0) = (c, d) := ⟨_, _, rfl⟩
          have hone := one_part hlt
          rw [hcd] at HP1 hp hone
          have HPa := Lib.hid HP1
          have hi1 : i + 1 ≤ 14 := by omega
          cases f with
          | true =>
            have hab := HF.out rfl
            rw [hab, hone] at hp
            have HZ := Lib.hid hp
            clear hz hb HPr hi hlt hstep hmes ht13 htt hp HP1 hcd hone hab HF e16
            go_wp2_with (go_at_call 66; refine HPa.out.mono ?_; rintro e w1 ⟨rfl, hb1⟩)
            have HB1 := Lib.hid (HBr.out.trans (hb1.mono HBr.out.size))
            go_roundw
            case rel => exact ⟨i + 1, c, d, false, hi1, by rw [HST.out.1], rfl, rfl, HZ, Lib.hid (fun h => by cases h), HB1⟩
            case measure => exact HST.out.2
          | false =>
            obtain ⟨a2, b2⟩ := z
            rw [hz] at hp
            have HT := Lib.hid (fun w => rtimes_any hp.symm w)
            have HZ := Lib.hid hz
            clear hz hb HPr hi hlt hstep hmes ht13 htt hp HP1 hcd hone HF e16
            go_wp2_with (first | (go_at_call 66; refine HPa.out.mono ?_; rintro e w1 ⟨rfl, hb1⟩) | (go_at_call 67; refine (HT.out _).mono ?_; rintro e w2 ⟨rfl, rfl⟩))
            have HB1 := Lib.hid (HBr.out.trans (hb1.mono HBr.out.size))
            go_roundw
            case rel => exact ⟨i + 1, a2, b2, false, hi1, by rw [HST.out.1], rfl, rfl, HZ, Lib.hid (fun h => by cases h), HB1⟩
            case measure => exact HST.out.2
      · obtain rfl : i = 14 := by omega
        have HZ := Lib.hid (zOf_is HPr.out)
        have HS := Lib.hid (show swp false (zOf rr) = (a, b) by unfold swp; rw [HZ.out]; rfl)
        have hlt' : ¬ (13 - ((14 : Nat) : Int)) ≥ 0 := by omega
        clear HPr HF HPt HGd HZ hlt
        go_wp2_with fail
        go_loopw [10, 13] (fun zv iv wr => ∃ (i : Nat), i ≤ q ∧ iv = .int .i64 i ∧ zv = .complex .f64 (rotI i (a, b)).1 (rotI i (a, b)).2 ∧ Hid (Below w.heap.size w wr)) (fun _ iv _ => q - (intOf iv).toNat)
        case atStart => exact ⟨0, by omega, rfl, rfl, HBr⟩
        case round =>
          obtain ⟨i, hi, rfl, rfl, HBs⟩ := hrel
          by_cases hlt : i < q
          · have hlt' : (i : Int) < (q : Int) := by omega
            go_wp2_with fail
            go_roundw
            case rel => exact ⟨i + 1, by omega, by go_num, rfl, HBs⟩
            case measure => simp [intOf]; omega
          · have hlt' : ¬ (i : Int) < (q : Int) := by omega
            obtain rfl : i = q := by omega
            obtain ⟨c, d, hcd⟩ : ∃ c d, rotI i (a, b) = (c, d) := ⟨_, _, rfl⟩
            have HC := Lib.hid (show ptC i false (zOf rr) = (unsN c, unsN d) by unfold ptC; rw [HS.out, hcd])
            rw [hcd]
            have H1 := Lib.hid (fun w => runsigned_any c w)
            have H2 := Lib.hid (fun w => runsigned_any d w)
            clear hcd HS
            generalize unsN c = c2 at *
            generalize unsN d = d2 at *
            go_wp2_with (go_at_call 68; (first | with_reducible refine (H1.out _).mono ?_ | with_reducible refine (H2.out _).mono ?_); rintro e w' ⟨rfl, rfl⟩)
            go_ret
            exact ⟨by rw [HC.out]; rfl, HBs.out⟩
end Tp
end Go.Proofs.Ytepnghhgmjobjaa
