/- Contracts, in this order: exact: log2, nearestQuo. · exact: sum, Of. · exact: FromFloat. · exact: FromFloat, walked. · exact: log2. · exact: Number.Float of what a float is worth. · Floats: whole numbers as words; Ldexp leads back to the float. -/
import Derived.Test.YtgcgmplepcfbaaaGreatDoorBh11
import Derived.Test.YtgcgmplepcfbaaaGreatDoorBh10
import Derived.Test.YtgcgmplepcfbaaaGreatDoorBh02
/- exact: log2, nearestQuo. -/
namespace Go.Proofs.YtgcgmplepcfbaaaGreatDoor
open Go.RowKit

def bitsN (n : Nat) : Nat := if n = 0 then 0 else Nat.log2 n + 1
theorem bitsN_is (n : Nat) : IsBits n (bitsN n) := by
  unfold bitsN
  split
  · rename_i h; exact .inl ⟨h, rfl⟩
  · rename_i h
    refine .inr ⟨by omega, ?_, Nat.lt_log2_self⟩
    rw [Nat.add_sub_cancel]; exact Nat.log2_self_le h
theorem bits_num (w : World) (v : Value) (n k : Nat) (h : NatIn w v n) (hn : Sz k n) (hk : k ≤ 100000000) :
    Calls Tryz.prog 333 #[v] w fun e w' => e = .returned (.int .i64 ((bitsN n : Nat) : Int)) ∧ w = w' :=
  (bits_any w v n h (hn.kx hk)).mono fun _ _ ⟨s, h1, h2, _, h3⟩ => ⟨by rw [h1, isBits_fn h2 (bitsN_is n)], h3⟩
theorem bitsN_le {k n : Nat} (h : Sz k n) : bitsN n ≤ 64 * k := by
  rcases bitsN_is n with ⟨_, h2⟩ | ⟨h1, h2, _⟩
  · omega
  · rcases Nat.lt_or_ge (64 * k) (bitsN n) with hlt | hge
    · have h3 := h.out
      rw [M64_pow] at h3
      have := Nat.pow_le_pow_right (show 0 < 2 by omega) (show 64 * k ≤ bitsN n - 1 by omega)
      omega
    · exact hge
theorem Sz.shl {k j n S : Nat} (h : Sz k n) (hS : S ≤ 64 * j) : Sz (k + j) (n * 2 ^ S) := by
  refine ⟨?_⟩
  rw [Nat.pow_add, M64_pow j]
  exact Nat.lt_of_lt_of_le (Nat.mul_lt_mul_of_pos_right h.out (Nat.pow_pos (by omega))) (Nat.mul_le_mul_left _ (Nat.pow_le_pow_right (by omega) hS))
theorem shl_num (w : World) (v : Value) (n k : Nat) (s : Int) (h : NatIn w v n) (hn : Sz k n) (hk : k ≤ 100000000) (hs : s ≤ 64000000000) :
    Calls Tryz.prog 244 #[v, .int .i64 s] w (Nat1 w (n * 2 ^ s.toNat)) := shl_any w v n s h (hn.kx hk) hs

theorem lg_cmp {n d a b : Nat} {k : Int} (h : (b : Int) - a = k) : (n * 2 ^ (-k).toNat < d * 2 ^ k.toNat ↔ n * 2 ^ a < d * 2 ^ b) := by
  rcases Nat.le_total a b with hab | hab
  · obtain ⟨j, rfl⟩ := Nat.exists_eq_add_of_le hab
    rw [show (-k).toNat = 0 by omega, show k.toNat = j by omega, Nat.pow_zero, Nat.mul_one, Nat.pow_add, Nat.mul_comm (2 ^ a), ← Nat.mul_assoc]
    exact (Nat.mul_lt_mul_right (Nat.pow_pos (by omega))).symm
  · obtain ⟨j, rfl⟩ := Nat.exists_eq_add_of_le hab
    rw [show (-k).toNat = j by omega, show k.toNat = 0 by omega, Nat.pow_zero, Nat.mul_one, Nat.pow_add, Nat.mul_comm (2 ^ b), ← Nat.mul_assoc]
    exact (Nat.mul_lt_mul_right (Nat.pow_pos (by omega))).symm
/-- 2^k is not above n / d, 2^(k+1) is. -/
def IsLog (n d : Nat) (k : Int) : Prop := d * 2 ^ k.toNat ≤ n * 2 ^ (-k).toNat ∧ n * 2 ^ (-(k + 1)).toNat < d * 2 ^ (k + 1).toNat
def lgN (n d : Nat) : Int := (bitsN n : Int) - (bitsN d : Int)
def lgQ (n d : Nat) : Int := if n * 2 ^ (-lgN n d).toNat < d * 2 ^ (lgN n d).toNat then lgN n d - 1 else lgN n d
theorem lgQ_is {n d : Nat} (hn : n ≠ 0) (hd : d ≠ 0) : IsLog n d (lgQ n d) := by
  have bn := bitsN_is n
  have bd := bitsN_is d
  unfold lgQ lgN
  generalize bitsN n = s at *
  generalize bitsN d = t at *
  rcases bn with ⟨e, _⟩ | ⟨s1, s2, s3⟩
  · exact absurd e hn
  rcases bd with ⟨e, _⟩ | ⟨t1, t2, t3⟩
  · exact absurd e hd
  have up : n * 2 ^ t < d * 2 ^ (s + 1) := by
    have h1 : 2 ^ t ≤ d * 2 := by rw [show t = t - 1 + 1 by omega, Nat.pow_succ]; omega
    calc n * 2 ^ t ≤ n * (d * 2) := Nat.mul_le_mul_left _ h1
      _ < 2 ^ s * (d * 2) := Nat.mul_lt_mul_of_pos_right s3 (by omega)
      _ = d * 2 ^ (s + 1) := by rw [Nat.pow_succ, Nat.mul_left_comm]
  have lo : ¬ n * 2 ^ t < d * 2 ^ (s - 1) := by
    have := Nat.mul_le_mul (Nat.le_of_lt t3) s2
    rw [Nat.mul_comm (2 ^ t)] at this
    omega
  split
  · rename_i h
    refine ⟨Nat.le_of_not_lt fun h' => lo ((lg_cmp (by omega)).1 h'), ?_⟩
    rw [show (s : Int) - t - 1 + 1 = (s : Int) - t by omega]
    exact h
  · rename_i h
    exact ⟨Nat.le_of_not_lt h, (lg_cmp (a := t) (b := s + 1) (by omega)).2 up⟩
/-- The nearest whole number, of two as near the even one. -/
def nearQ (n d : Nat) : Nat := if d < 2 * (n % d) then n / d + 1 else if 2 * (n % d) = d then n / d + n / d % 2 else n / d

set_option maxRecDepth 100000 in
set_option maxHeartbeats 4000000 in
theorem near_any (w : World) (v u : Value) (n d k j : Nat) (h : NatIn w v n) (i : NatIn w u d) (hn : Sz k n) (hm : Sz j d) (hk : k ≤ 100000000) (hj : j ≤ 100000000) (hd : d ≠ 0) (hq : n / d < 9223372036854775808) :
    Calls Tryz.prog 243 #[v, u] w fun e w' => e = .returned (.int .u64 ((nearQ n d : Nat) : Int)) ∧ Below w.heap.size w w' := by
  have hr : n % d < d := Nat.mod_lt _ (by omega)
  have CQ := Lib.hid (quoRem_num w v u n d k h i hn hk)
  have CW := Lib.hid (fun W x (hx : NatIn W x (n / d)) => (word2_any W x (n / d) hx))
  have CS := Lib.hid (fun W x (hx : NatIn W x (n % d)) => shl_num W x (n % d) j 1 hx (hm.le (Nat.le_of_lt hr)) hj (by omega))
  have HU := Lib.hid i
  have e1 : (if n / d < Big.M64 then n / d else 0) = n / d := if_pos (by rw [Big.M64_eq]; omega)
  have e2 : decide (n / d < Big.M64) = true := decide_eq_true (by rw [Big.M64_eq]; omega)
  rw [e1, e2] at CW
  have CC := Lib.hid (fun W x (hx : NatIn W x (n % d * 2 ^ (1 : Int).toNat)) (hu : NatIn W u d) => cmp_num W x u _ d hx hu)
  have hand : bits .and .u64 ((n / d : Nat) : Int) 1 = ((n / d % 2 : Nat) : Int) := by
    have := u64_and_nat (n / d) 1 (by omega) (by omega)
    rw [show ((1 : Nat) : Int) = 1 from rfl] at this
    rw [this, Nat.and_one_is_mod]
  have ec : Big.cmpI (n % d * 2 ^ (1 : Int).toNat) d = if d < 2 * (n % d) then 1 else if 2 * (n % d) = d then 0 else -1 := by
    rw [show (1 : Int).toNat = 1 from rfl, Nat.pow_one]
    unfold Big.cmpI
    split <;> split <;> (try split) <;> omega
  rw [ec] at CC
  unfold nearQ
  obtain ⟨q, hqe⟩ : ∃ q, n / d = q := ⟨_, rfl⟩
  rw [hqe] at CQ CW hand hq ⊢
  have hm2 : q % 2 < 2 := Nat.mod_lt _ (by omega)
  obtain ⟨p, hp⟩ : ∃ p, q % 2 = p := ⟨_, rfl⟩
  rw [hp] at hand hm2 ⊢
  clear h i hn hm hr e1 e2 ec hqe
  generalize n % d * 2 ^ (1 : Int).toNat = R2 at *
  by_cases c1 : d < 2 * (n % d)
  · rw [if_pos c1] at CC ⊢
    clear c1
    go_enter Tryz.func243, Tryz.ntmps243
    go_wp2_with (first
      | (go_at_call 220; (with_reducible refine CQ.out.mono ?_); rintro e w2 ⟨a, b, rfl, ha, hb, hw2⟩)
      | (go_at_call 124; (with_reducible refine (CW.out _ _ ha).mono ?_); rintro e w' ⟨rfl, rfl⟩)
      | (go_at_call 244; (with_reducible refine (CS.out _ _ hb).mono ?_); rintro e w3 ⟨c, rfl, hc, hw3⟩)
      | (go_at_call 217; (with_reducible refine (CC.out _ _ hc ((HU.out.keep hw2).keep hw3)).mono ?_); rintro e w4 ⟨rfl, hw4⟩))
    go_ret
    exact ⟨by apply ret_int; omega, (hw2.trans (hw3.mono hw2.size)).trans (hw4.below _)⟩
  · rw [if_neg c1] at CC ⊢
    by_cases c2 : 2 * (n % d) = d
    · rw [if_pos c2] at CC ⊢
      clear c1 c2
      go_enter Tryz.func243, Tryz.ntmps243
      go_wp2_with (first
        | (go_at_call 220; (with_reducible refine CQ.out.mono ?_); rintro e w2 ⟨a, b, rfl, ha, hb, hw2⟩)
        | (go_at_call 124; (with_reducible refine (CW.out _ _ ha).mono ?_); rintro e w' ⟨rfl, rfl⟩)
        | (go_at_call 244; (with_reducible refine (CS.out _ _ hb).mono ?_); rintro e w3 ⟨c, rfl, hc, hw3⟩)
        | (go_at_call 217; (with_reducible refine (CC.out _ _ hc ((HU.out.keep hw2).keep hw3)).mono ?_); rintro e w4 ⟨rfl, hw4⟩))
      go_ret
      exact ⟨by apply ret_int; omega, (hw2.trans (hw3.mono hw2.size)).trans (hw4.below _)⟩
    · rw [if_neg c2] at CC ⊢
      clear c1 c2
      go_enter Tryz.func243, Tryz.ntmps243
      go_wp2_with (first
        | (go_at_call 220; (with_reducible refine CQ.out.mono ?_); rintro e w2 ⟨a, b, rfl, ha, hb, hw2⟩)
        | (go_at_call 124; (with_reducible refine (CW.out _ _ ha).mono ?_); rintro e w' ⟨rfl, rfl⟩)
        | (go_at_call 244; (with_reducible refine (CS.out _ _ hb).mono ?_); rintro e w3 ⟨c, rfl, hc, hw3⟩)
        | (go_at_call 217; (with_reducible refine (CC.out _ _ hc ((HU.out.keep hw2).keep hw3)).mono ?_); rintro e w4 ⟨rfl, hw4⟩))
      go_ret
      exact ⟨rfl, (hw2.trans (hw3.mono hw2.size)).trans (hw4.below _)⟩
end Go.Proofs.YtgcgmplepcfbaaaGreatDoor
/- exact: sum, Of. -/
namespace Go.Proofs.YtgcgmplepcfbaaaGreatDoor
open Go.RowKit

set_option maxRecDepth 100000 in
set_option maxHeartbeats 2000000 in
/-- exact.Of: num over den, that sign. -/
theorem exOf_any (w : World) (b : Bool) (v u : Value) (n d k j : Nat) (h : NatIn w v n) (i : NatIn w u d) (hn : Sz k n) (hm : Sz j d) (hk : k ≤ 100000000) (hj : j ≤ 100000000) (hd : 1 ≤ d) :
    Calls Tryz.prog 112 #[.bool b, v, u] w (Num1 w (mkRat (Big.sI b n) d)) := by
  obtain ⟨p1, p2, p3⟩ := Big.of_parts b n d hd
  have HP := Lib.hid (And.intro p1 (And.intro p2 p3))
  have HV := Lib.hid h; have HU := Lib.hid i; have HN := Lib.hid hn; have HM := Lib.hid hm
  obtain ⟨A, l, c, rfl, hl⟩ := h.is_slice
  obtain ⟨A2, l2, c2, rfl, hl2⟩ := i.is_slice
  have t1 : ((l2 : Int) == 0) = false := beq_eq_false_iff_ne.2 (by omega)
  clear p1 p2 p3 h i hn hm hl hl2 hd
  generalize mkRat (Big.sI b n) d = q at *
  go_enter Tryz.func112, Tryz.ntmps112
  go_wp2_with fail
  have HB0 := Lib.hid ((Below.refl w.heap.size w).alloc (Nat.le_refl _) (.cells #[.bool false, .slice none 0 0, .slice none 0 0] 123))
  have HR := Lib.hid (At3.new w 123 (.bool false) (.slice none 0 0) (.slice none 0 0))
  generalize w.alloc (.cells #[.bool false, .slice none 0 0, .slice none 0 0] 123) = w0 at *
  refine (gcd_num w0 _ _ n d k j (HV.out.keep HB0.out) (HU.out.keep HB0.out) HN.out HM.out hk hj).mono ?_
  rintro e w1 ⟨v1, rfl, hv1, hb1⟩
  have HV1 := Lib.hid hv1; have HB1 := Lib.hid (HB0.out.trans (hb1.mono HB0.out.size)); have HR1 := Lib.hid (HR.out.keep hb1)
  clear hv1 hb1 HR
  go_wp2_with fail
  refine (quo_num w1 _ _ n _ k (HV.out.keep HB1.out) HV1.out HN.out hk).mono ?_
  rintro e w2 ⟨v2, rfl, hv2, hb2⟩
  have HV2 := Lib.hid hv2
  obtain ⟨A3, l3, c3, rfl, hl3⟩ := hv2.is_slice
  have HV1' := Lib.hid (HV1.out.keep hb2)
  have HB2 := Lib.hid (HB1.out.trans (hb2.mono HB1.out.size)); have HR2 := Lib.hid (HR1.out.keep hb2)
  have HL3 := Lib.hid hl3
  clear hv2 hb2 HR1 hl3
  have g0 : n / Nat.gcd n d = 0 ↔ l3 = 0 := HL3.out.symm
  have CQ := Lib.hid (quo_num w2 _ _ d _ j (HU.out.keep HB2.out) HV1'.out HM.out hj)
  have HBR := Lib.hid (show NumRes w2 w.heap.size 123 from HR2.out)
  have f0 := fun W (hW : Below w2.heap.size w2 W) => (HR2.out.keep hW).frozen 0
  have done : ∀ (bb : Bool) (W : World) (v4 : Value), bb = (b && decide (0 < n / Nat.gcd n d)) → Below w2.heap.size w2 W → NatIn W v4 (d / Nat.gcd n d) →
      At3 (((W.setCell ⟨w.heap.size, 0, none⟩ (.bool bb)).setCell ⟨w.heap.size, 1, none⟩ (.slice A3 l3 c3)).setCell ⟨w.heap.size, 2, none⟩ v4) w.heap.size 123 (.bool bb) (.slice A3 l3 c3) v4 ∧
      Num1 w q (.returned (.agg #[.bool bb, .slice A3 l3 c3, v4])) (((W.setCell ⟨w.heap.size, 0, none⟩ (.bool bb)).setCell ⟨w.heap.size, 1, none⟩ (.slice A3 l3 c3)).setCell ⟨w.heap.size, 2, none⟩ v4) := by
    intro bb W v4 e hW hv4
    have h1 := HV2.out.keep hW
    rw [← HP.out.2.1] at h1
    rw [← HP.out.2.2] at hv4
    have D := num_done (show NumRes W w.heap.size _ from HR2.out.keep hW) (HB2.out.trans (hW.mono HB2.out.size)) (Nat.le_refl _) h1 hv4 (e.trans HP.out.1.symm)
    exact ⟨D.1, _, rfl, D.2⟩
  have DONE := Lib.hid done
  clear done f0
  have t2 : 0 < n / Nat.gcd n d ↔ 0 < l3 := by rw [Nat.pos_iff_ne_zero, Nat.pos_iff_ne_zero, Ne, Ne, g0]
  have t3 : (b && decide (0 < n / Nat.gcd n d)) = (b && decide (0 < l3)) := by rw [decide_eq_decide.2 t2]
  rw [t3] at DONE
  clear g0 t2 t3 HP HL3 HV HU HN HM HV1' HV2 HV1
  rcases Nat.eq_zero_or_pos l3 with hl0 | hl0
  · subst hl0
    rw [decide_eq_false (by omega)] at DONE
    cases b
    all_goals
      go_wp2_with fail
      refine CQ.out.mono ?_
      rintro e w3 ⟨v4, rfl, hv4, hb3⟩
      obtain ⟨A4, l4, c4, rfl, hl4⟩ := hv4.is_slice
      obtain ⟨D1, D2⟩ := DONE.out false w3 _ rfl hb3 hv4
      have R3 := HR2.out.keep hb3
      have k0 := R3.c0; have k1 := R3.c1; have k2 := R3.c2; have f0 := R3.frozen 0; have f1 := R3.frozen 1; have f2 := R3.frozen 2
      have HD1 := Lib.hid D1; have HD2 := Lib.hid D2
      clear D1 D2 R3 hv4 hb3 hl4
      go_wp2_with fail
      generalize (((w3.setCell ⟨w.heap.size, 0, none⟩ (.bool false)).setCell ⟨w.heap.size, 1, none⟩ (.slice A3 0 c3)).setCell ⟨w.heap.size, 2, none⟩ (.slice A4 l4 c4)) = wz at HD1 HD2 ⊢
      have r0 := HD1.out.c0; have r1 := HD1.out.c1; have r2 := HD1.out.c2
      exact bodyPost_ret (v := .agg #[.bool false, .slice A3 0 c3, .slice A4 l4 c4]) (by simp [results, Tryz.results112, go_sem, r0, r1, r2]) rfl HD2.out
  · have t4 : ((l3 : Int) > 0) := by omega
    rw [decide_eq_true (by omega)] at DONE
    cases b
    · go_wp2_with fail
      refine CQ.out.mono ?_
      rintro e w3 ⟨v4, rfl, hv4, hb3⟩
      obtain ⟨A4, l4, c4, rfl, hl4⟩ := hv4.is_slice
      obtain ⟨D1, D2⟩ := DONE.out false w3 _ rfl hb3 hv4
      have R3 := HR2.out.keep hb3
      have k0 := R3.c0; have k1 := R3.c1; have k2 := R3.c2; have f0 := R3.frozen 0; have f1 := R3.frozen 1; have f2 := R3.frozen 2
      have HD1 := Lib.hid D1; have HD2 := Lib.hid D2
      clear D1 D2 R3 hv4 hb3 hl4
      go_wp2_with fail
      generalize (((w3.setCell ⟨w.heap.size, 0, none⟩ (.bool false)).setCell ⟨w.heap.size, 1, none⟩ (.slice A3 l3 c3)).setCell ⟨w.heap.size, 2, none⟩ (.slice A4 l4 c4)) = wz at HD1 HD2 ⊢
      have r0 := HD1.out.c0; have r1 := HD1.out.c1; have r2 := HD1.out.c2
      exact bodyPost_ret (v := .agg #[.bool false, .slice A3 l3 c3, .slice A4 l4 c4]) (by simp [results, Tryz.results112, go_sem, r0, r1, r2]) rfl HD2.out
    · go_wp2_with fail
      refine CQ.out.mono ?_
      rintro e w3 ⟨v4, rfl, hv4, hb3⟩
      obtain ⟨A4, l4, c4, rfl, hl4⟩ := hv4.is_slice
      obtain ⟨D1, D2⟩ := DONE.out true w3 _ rfl hb3 hv4
      have R3 := HR2.out.keep hb3
      have k0 := R3.c0; have k1 := R3.c1; have k2 := R3.c2; have f0 := R3.frozen 0; have f1 := R3.frozen 1; have f2 := R3.frozen 2
      have HD1 := Lib.hid D1; have HD2 := Lib.hid D2
      clear D1 D2 R3 hv4 hb3 hl4
      go_wp2_with fail
      generalize (((w3.setCell ⟨w.heap.size, 0, none⟩ (.bool true)).setCell ⟨w.heap.size, 1, none⟩ (.slice A3 l3 c3)).setCell ⟨w.heap.size, 2, none⟩ (.slice A4 l4 c4)) = wz at HD1 HD2 ⊢
      have r0 := HD1.out.c0; have r1 := HD1.out.c1; have r2 := HD1.out.c2
      exact bodyPost_ret (v := .agg #[.bool true, .slice A3 l3 c3, .slice A4 l4 c4]) (by simp [results, Tryz.results112, go_sem, r0, r1, r2]) rfl HD2.out
end Go.Proofs.YtgcgmplepcfbaaaGreatDoor
/- exact: FromFloat. -/
namespace Go.Proofs.YtgcgmplepcfbaaaGreatDoor
open Go.RowKit Ieee Fl

/-- What a float is worth. -/
def worth (x : Nat) : Rat := mkRat (sv x) P74
theorem V_74 (r : Nat) : V (1074 * 4503599627370496 + mnt r) = mnt r * P74 := V_norm (E := E74) (Nat.le_of_lt (mnt_bd r).2) (fun _ => (mnt_bd r).1)
theorem conv_74 (r : Nat) (w : World) : (convert 58 90 (.float .f64 (1074 * 4503599627370496 + mnt r))).run Tryz.prog w = .ok (.int .u64 ((mnt r : Nat) : Int)) w := by
  have hm := mnt_bd r
  have hG : 1074 * 4503599627370496 + mnt r < INF := by unfold INF; omega
  have ht : tr (sv (1074 * 4503599627370496 + mnt r)) = ((mnt r : Nat) : Int) := by
    rw [sv_r hG, V_74]
    unfold tr
    rw [decide_eq_false (by omega), Int.natAbs_natCast, Nat.mul_div_cancel _ P74_pos]; rfl
  have hfin := fin_self hG
  generalize 1074 * 4503599627370496 + mnt r = G at *
  exact run_convert_float_int w _ _ .f64 .u64 _ _ (by kernel_rfl) Tryz.underlying90 (by
    unfold floatToIntVal
    rw [show FloatKind.f64.decode G = double.read G from rfl, toInt_eq hfin, ht]
    show (if IntKind.u64.min ≤ ((mnt r : Nat) : Int) ∧ ((mnt r : Nat) : Int) ≤ IntKind.u64.max then some ((mnt r : Nat) : Int) else none) = _
    rw [if_pos ⟨by show (0 : Int) ≤ _; omega, by show _ ≤ (18446744073709551615 : Int); omega⟩])
theorem worth_eq {x n d : Nat} (hd : d ≠ 0) (h : n * P74 = V (rg x) * d) (b : Bool) (hb : n ≠ 0 → b = ngb x) : mkRat (Big.sI b n) d = worth x := by
  unfold worth
  rw [Rat.mkRat_eq_iff hd (by have := P74_pos; omega)]
  unfold sv sg Big.sI
  by_cases h0 : n = 0
  · subst h0
    have : V (rg x) = 0 := by
      rw [Nat.zero_mul] at h
      rcases Nat.mul_eq_zero.1 h.symm with h | h
      · exact h
      · exact absurd h hd
    rw [this]; cases b <;> cases ngb x <;> simp
  · rw [hb h0]
    have h2 : (n : Int) * P74 = V (rg x) * d := by exact_mod_cast h
    cases ngb x
    · simpa using h2
    · simp only [if_true]; rw [Int.neg_mul, Int.neg_mul, h2]
theorem worth_mnt {r : Nat} (h0 : 0 < r) (h : r < INF) : mnt r * 2 ^ (unt r - 1074).toNat * P74 = V r * (1 * 2 ^ (-(unt r - 1074)).toNat) := by
  obtain ⟨h1, h2, h3⟩ := V_mnt h0 h
  rw [Nat.one_mul]
  have key : ∀ A B C D P v m : Nat, v * A = m * B → A * C * P = B * D → 0 < A → m * C * P = v * D := by
    intro A B C D P v m e1 e2 hA
    apply Nat.eq_of_mul_eq_mul_right hA
    calc m * C * P * A = m * (A * C * P) := by simp [Nat.mul_comm, Nat.mul_left_comm]
      _ = m * B * D := by rw [e2, Nat.mul_assoc]
      _ = v * D * A := by rw [← e1]; simp [Nat.mul_comm, Nat.mul_left_comm]
  refine key _ _ _ _ _ _ _ h1 ?_ (Nat.pow_pos (by omega))
  unfold P74
  rw [← Nat.pow_add, ← Nat.pow_add, ← Nat.pow_add]
  congr 1
  unfold E74
  omega
end Go.Proofs.YtgcgmplepcfbaaaGreatDoor
/- exact: FromFloat, walked. -/
namespace Go.Proofs.YtgcgmplepcfbaaaGreatDoor
open Go.RowKit Ieee Fl

def FFPost (q : Rat) (w : World) (e : Ending) (w' : World) : Prop := ∃ v', e = .returned (.tuple #[v', .bool true]) ∧ NumIn w' v' q ∧ Below w.heap.size w w'
set_option maxRecDepth 100000 in
set_option maxHeartbeats 2000000 in
theorem fromFloat_core (w : World) {x F G c : Nat} {K : Int} {b : Bool} {q : Rat} (hx : FinW x) (x64 : x < 18446744073709551616)
    (hFr : ∀ W, Calls Tryz.prog 254 #[.float .f64 (rg x)] W fun e w' => e = .returned (.tuple #[.float .f64 F, .int .i64 K]) ∧ W = w')
    (hLd : ∀ W, Calls Tryz.prog 65 #[.float .f64 F, .int .i64 53] W fun e w' => e = .returned (.float .f64 G) ∧ W = w')
    (hcv : ∀ W, (convert 58 90 (.float .f64 G)).run Tryz.prog W = .ok (.int .u64 (c : Int)) W)
    (hc : c < Big.M64) (hb : decide (sv x < 0) = b) (k1 : -2500 ≤ K) (k2 : K ≤ 2500) (hq : mkRat (Big.sI b (c * 2 ^ (K - 53).toNat)) (1 * 2 ^ (-(K - 53)).toNat) = q) :
    Calls Tryz.prog 162 #[.float .f64 x] w (FFPost q w) := by
  have c0 := lt_spell (x := x) (y := 0) (Nat.le_of_lt hx) isN_0
  rw [sv_0, hb] at c0
  have HX := Lib.hid hx; have HFr := Lib.hid hFr; have HLd := Lib.hid hLd; have HQ := Lib.hid hq
  have SC := Lib.hid (show Sz 1 c from ⟨by rw [Nat.pow_one]; exact hc⟩)
  have S1 := Lib.hid (show Sz 1 1 from ⟨by rw [Nat.pow_one]; exact M64_gt⟩)
  have HC := Lib.hid hc
  have sc := Lib.hid (SC.out.shl (S := (K - 53).toNat) (j := 40) (by omega))
  have s1 := Lib.hid (S1.out.shl (S := (-(K - 53)).toNat) (j := 41) (by omega))
  obtain ⟨U, hU⟩ : ∃ U, K - 53 = U := ⟨_, rfl⟩
  rw [hU] at HQ sc s1
  have u1 : -2553 ≤ U := by omega
  have u2 : U ≤ 2500 := by omega
  have hw := IntKind.wrap_i64
  have hneg : IntKind.i64.wrap (-U) = -U := by rw [hw]; omega
  clear hx hFr hLd hq hc hb hw
  go_enter Tryz.func162, Tryz.ntmps162
  go_wp2_with (first
    | simp only [hcv]
    | (go_at_call 52; refine (isInf_fin x64 HX.out _).mono ?_; rintro e w' ⟨rfl, rfl⟩)
    | (go_at_call 51; refine (isNaN_no (Nat.le_of_lt HX.out) _).mono ?_; rintro e w' ⟨rfl, rfl⟩)
    | (go_at_call 155; refine (abs_any _ x64 _).mono ?_; rintro e w' ⟨rfl, rfl⟩)
    | (go_at_call 254; refine (HFr.out _).mono ?_; rintro e w' ⟨rfl, rfl⟩)
    | (go_at_call 65; refine (HLd.out _).mono ?_; rintro e w' ⟨rfl, rfl⟩))
  have HB0 := Lib.hid ((Below.refl w.heap.size w).alloc (Nat.le_refl _) (.cells #[.bool false, .slice none 0 0, .slice none 0 0] 123))
  have HR := Lib.hid (At3.new w 123 (.bool false) (.slice none 0 0) (.slice none 0 0))
  generalize w.alloc (.cells #[.bool false, .slice none 0 0, .slice none 0 0] 123) = w0 at *
  refine (of_num w0 c HC.out).mono ?_
  rintro e w1 ⟨v1, rfl, hv1, hb1⟩
  obtain ⟨A1, l1, c1, rfl, -⟩ := hv1.is_slice
  have HV1 := Lib.hid hv1; have HB1 := Lib.hid (HB0.out.trans (hb1.mono HB0.out.size)); have HR1 := Lib.hid (HR.out.keep hb1)
  clear hv1 hb1 HR HB0
  go_wp2_with fail
  refine (shl_num w1 _ _ 1 U HV1.out SC.out (by omega) (by omega)).mono ?_
  rintro e w2 ⟨v2, rfl, hv2, hb2⟩
  obtain ⟨A2, l2, c2, rfl, -⟩ := hv2.is_slice
  have HV2 := Lib.hid hv2; have HB2 := Lib.hid (HB1.out.trans (hb2.mono HB1.out.size)); have HR2 := Lib.hid (HR1.out.keep hb2)
  clear hv2 hb2 HR1 HB1 HV1
  go_wp2_with fail
  refine (of_num w2 1 M64_gt).mono ?_
  rintro e w3 ⟨v3, rfl, hv3, hb3⟩
  obtain ⟨A3, l3, c3, rfl, -⟩ := hv3.is_slice
  have HV3 := Lib.hid hv3; have HV2' := Lib.hid (HV2.out.keep hb3); have HB3 := Lib.hid (HB2.out.trans (hb3.mono HB2.out.size)); have HR3 := Lib.hid (HR2.out.keep hb3)
  clear hv3 hb3 HR2 HB2 HV2
  go_wp2_with fail
  refine (shl_num w3 _ _ 1 (-U) HV3.out S1.out (by omega) (by omega)).mono ?_
  rintro e w4 ⟨v4, rfl, hv4, hb4⟩
  obtain ⟨A4, l4, c4, rfl, -⟩ := hv4.is_slice
  have HV4 := Lib.hid hv4; have HV2 := Lib.hid (HV2'.out.keep hb4); have HB4 := Lib.hid (HB3.out.trans (hb4.mono HB3.out.size)); have HR4 := Lib.hid (HR3.out.keep hb4)
  clear hv4 hb4 HR3 HB3 HV2' HV3
  go_wp2_with fail
  refine (exOf_any w4 b _ _ _ _ (1 + 40) (1 + 41) HV2.out HV4.out sc.out s1.out (by omega) (by omega) (Nat.mul_pos (by omega) (Nat.pow_pos (by omega)))).mono ?_
  rw [HQ.out]
  rintro e w5 ⟨v5, rfl, hv5, hb5⟩
  obtain ⟨A5, l5, c5, A6, l6, c6, rfl, hn5, hd5⟩ := hv5.is_agg
  have HB5 := Lib.hid (HB4.out.trans (hb5.mono HB4.out.size)); have HR5 := Lib.hid (show NumRes w5 w.heap.size 123 from HR4.out.keep hb5)
  have D := num_done HR5.out HB5.out (Nat.le_refl _) hn5 hd5 rfl
  have HD1 := Lib.hid D.1; have HD2 := Lib.hid D.2.1; have HD3 := Lib.hid D.2.2
  have k0 := At3.c0 (show At3 w5 w.heap.size 123 (.bool false) (.slice none 0 0) (.slice none 0 0) from HR5.out)
  have k1' := At3.c1 (show At3 w5 w.heap.size 123 (.bool false) (.slice none 0 0) (.slice none 0 0) from HR5.out)
  have k2' := At3.c2 (show At3 w5 w.heap.size 123 (.bool false) (.slice none 0 0) (.slice none 0 0) from HR5.out)
  have f0 := (HR5.out).frozen 0; have f1 := (HR5.out).frozen 1; have f2 := (HR5.out).frozen 2
  clear D hv5 hb5 HR4 HB4 HV4 HV2 hn5 hd5 HR5 HB5
  generalize Big.ng q = nq at *
  go_wp2_with fail
  generalize (((w5.setCell ⟨w.heap.size, 0, none⟩ (.bool nq)).setCell ⟨w.heap.size, 1, none⟩ (.slice A5 l5 c5)).setCell ⟨w.heap.size, 2, none⟩ (.slice A6 l6 c6)) = wz at HD1 HD2 HD3 ⊢
  clear k0 k1' k2' f0 f1 f2
  have r0 := HD1.out.c0; have r1 := HD1.out.c1; have r2 := HD1.out.c2
  exact bodyPost_ret (v := .tuple #[.agg #[.bool nq, .slice A5 l5 c5, .slice A6 l6 c6], .bool true]) (by simp [results, Tryz.results162, go_sem, r0, r1, r2]) rfl ⟨_, rfl, HD2.out, HD3.out⟩
theorem frexp_0 (w : World) : Calls Tryz.prog 350 #[.float .f64 0] w fun e w' => e = .returned (.tuple #[.float .f64 0, .int .i64 0]) ∧ w = w' := by
  have c0 : (FloatKind.f64.format.order 0 0 == some .eq) = true := by decide +kernel
  go_enter Tryz.func350, Tryz.ntmps350
  go_wp2
  go_ret2
  exact ⟨rfl, rfl⟩
theorem Frexp_0 (w : World) : Calls Tryz.prog 254 #[.float .f64 0] w fun e w' => e = .returned (.tuple #[.float .f64 0, .int .i64 0]) ∧ w = w' := by
  go_enter Tryz.func254, Tryz.ntmps254
  go_wp2_with (go_at_call 350; refine (frexp_0 _).mono ?_; rintro e w' ⟨rfl, rfl⟩)
  go_ret2
  exact ⟨rfl, rfl⟩
theorem ldexp_0 (k : Int) (w : World) : Calls Tryz.prog 167 #[.float .f64 0, .int .i64 k] w fun e w' => e = .returned (.float .f64 0) ∧ w = w' := by
  have c0 : (FloatKind.f64.format.order 0 0 == some .eq) = true := by decide +kernel
  go_enter Tryz.func167, Tryz.ntmps167
  go_wp2
  go_ret
  exact ⟨rfl, rfl⟩
theorem Ldexp_0 (k : Int) (w : World) : Calls Tryz.prog 65 #[.float .f64 0, .int .i64 k] w fun e w' => e = .returned (.float .f64 0) ∧ w = w' := by
  go_enter Tryz.func65, Tryz.ntmps65
  go_wp2_with (go_at_call 167; refine (ldexp_0 _ _).mono ?_; rintro e w' ⟨rfl, rfl⟩)
  go_ret
  exact ⟨rfl, rfl⟩
theorem conv_0 (w : World) : (convert 58 90 (.float .f64 0)).run Tryz.prog w = .ok (.int .u64 ((0 : Nat) : Int)) w :=
  run_convert_float_int w _ _ .f64 .u64 _ _ (by kernel_rfl) Tryz.underlying90 (by decide +kernel)
theorem fromFloat_any {x : Nat} (hx : FinW x) (x64 : x < 18446744073709551616) (w : World) : Calls Tryz.prog 162 #[.float .f64 x] w (FFPost (worth x) w) := by
  by_cases h0 : rg x = 0
  · refine fromFloat_core w (F := 0) (G := 0) (c := 0) (K := 0) (b := decide (sv x < 0)) hx x64 (fun W => by rw [h0]; exact Frexp_0 W) (fun W => Ldexp_0 53 W) conv_0 (by decide) rfl (by omega) (by omega) ?_
    refine worth_eq (Nat.ne_of_gt (Nat.mul_pos (by omega) (Nat.pow_pos (by omega)))) ?_ _ (fun h => absurd (Nat.zero_mul _) h)
    rw [h0, V_zero]; simp
  · have hp : 0 < rg x := by omega
    obtain ⟨-, u1, u2⟩ := V_mnt hp hx
    have hm := mnt_bd (rg x)
    refine fromFloat_core w (F := frw (rg x)) (G := 1074 * 4503599627370496 + mnt (rg x)) (c := mnt (rg x)) (K := unt (rg x) - 1021) (b := decide (sv x < 0)) hx x64 (fun W => Frexp_r hp hx W) (fun W => Ldexp_53 _ W) (conv_74 _) (by rw [Big.M64_eq]; omega) rfl (by omega) (by omega) ?_
    rw [show unt (rg x) - 1021 - 53 = unt (rg x) - 1074 by omega]
    refine worth_eq (Nat.ne_of_gt (Nat.mul_pos (by omega) (Nat.pow_pos (by omega)))) (worth_mnt hp hx) _ (fun _ => ?_)
    have hV := V_lt hp
    rw [V_zero] at hV
    unfold sv sg
    cases ngb x <;> simp <;> omega
end Go.Proofs.YtgcgmplepcfbaaaGreatDoor
/- exact: log2. -/
namespace Go.Proofs.YtgcgmplepcfbaaaGreatDoor
open Go.RowKit

set_option maxRecDepth 100000 in
set_option maxHeartbeats 4000000 in
theorem log2_any (w : World) (vx : Value) (q : Rat) (k : Nat) (hx : NumIn w vx q) (sx : Sm k q) (hk : k ≤ 10000000) :
    Calls Tryz.prog 242 #[vx] w fun e w' => e = .returned (.int .i64 (lgQ (Big.nu q) (Big.de q))) ∧ Below w.heap.size w w' := by
  obtain ⟨A, l, c, A2, l2, c2, rfl, hx1, hx2⟩ := hx.is_agg
  have bn := bitsN_le sx.nu
  have bd := bitsN_le sx.de
  have HX := Lib.hid (And.intro hx1 hx2)
  have SX := Lib.hid sx
  have HB0 := Lib.hid (box1_below w (.cells #[.bool (Big.ng q), .slice A l c, .slice A2 l2 c2] 123))
  have HX0 := Lib.hid (At3.new w 123 (.bool (Big.ng q)) (.slice A l c) (.slice A2 l2 c2))
  clear hx hx1 hx2 sx
  generalize Big.ng q = nq at *
  have HL := Lib.hid (show lgQ (Big.nu q) (Big.de q) = if Big.nu q * 2 ^ (-lgN (Big.nu q) (Big.de q)).toNat < Big.de q * 2 ^ (lgN (Big.nu q) (Big.de q)).toNat then lgN (Big.nu q) (Big.de q) - 1 else lgN (Big.nu q) (Big.de q) from rfl)
  have hN : lgN (Big.nu q) (Big.de q) = (bitsN (Big.nu q) : Int) - (bitsN (Big.de q) : Int) := rfl
  obtain ⟨s, hs⟩ : ∃ s, bitsN (Big.nu q) = s := ⟨_, rfl⟩
  obtain ⟨t, ht⟩ : ∃ t, bitsN (Big.de q) = t := ⟨_, rfl⟩
  rw [hs] at bn hN
  rw [ht] at bd hN
  obtain ⟨N, hNe⟩ : ∃ N, lgN (Big.nu q) (Big.de q) = N := ⟨_, rfl⟩
  rw [hNe] at hN HL
  have hw1 : IntKind.i64.wrap ((s : Int) - (t : Int)) = N := by rw [IntKind.wrap_i64]; omega
  have hw2 : IntKind.i64.wrap (-N) = -N := by rw [IntKind.wrap_i64]; omega
  have hb1 : -640000000 ≤ N := by omega
  have hb2 : N ≤ 640000000 := by omega
  have SN := Lib.hid (SX.out.nu.shl (S := (-N).toNat) (j := 10000000) (by omega))
  clear hN hNe bn bd
  go_enter Tryz.func242, Tryz.ntmps242
  go_wp2_with fail
  generalize w.alloc (.cells #[.bool nq, .slice A l c, .slice A2 l2 c2] 123) = w0 at *
  have KX := Lib.hid (fun W (h : Below w0.heap.size w0 W) => And.intro (HX0.out.keep h).c1 (HX0.out.keep h).c2)
  have C1 := Lib.hid (fun W (h : Below w0.heap.size w0 W) => sizeT h (hs ▸ bits_num W _ _ k ((HX.out.1.keep HB0.out).keep h) SX.out.nu (by omega)))
  have C2 := Lib.hid (fun W (h : Below w0.heap.size w0 W) => sizeT h (ht ▸ bits_num W _ _ k ((HX.out.2.keep HB0.out).keep h) SX.out.de (by omega)))
  go_region_held3 (fun w' => w'.cell? ⟨w.heap.size, 1, none⟩ = some (.slice A l c) ∧ w'.cell? ⟨w.heap.size, 2, none⟩ = some (.slice A2 l2 c2))
    (exact KX.out _ (by first | assumption | exact Below.refl _ _ | exact below_drew (Below.refl _ _) | exact below_drew (by assumption)))
    (first
      | (go_at_call 333; (with_reducible refine (C1.out _ (by first | assumption | exact Below.refl _ _ | exact below_drew (Below.refl _ _) | exact below_drew (by assumption))).mono ?_); rintro e w2 ⟨rfl, hw2'⟩)
      | (go_at_call 333; (with_reducible refine (C2.out _ (by first | assumption | exact Below.refl _ _ | exact below_drew (Below.refl _ _) | exact below_drew (by assumption))).mono ?_); rintro e w3 ⟨rfl, hw3⟩)
      | fail)
  have HB3 := Lib.hid (HB0.out.trans (hw3.mono HB0.out.size))
  have HX3 := Lib.hid (HX0.out.keep hw3)
  have HB3' := Lib.hid hw3
  clear hw2' hw3 KX C1 C2 HX0
  have KX := Lib.hid (fun W (h : Below w3.heap.size w3 W) => And.intro (HX3.out.keep h).c1 (HX3.out.keep h).c2)
  have C1 := Lib.hid (fun W (h : Below w3.heap.size w3 W) => lift2 h (shl_num W _ _ k (-N) ((HX.out.1.keep HB3.out).keep h) SX.out.nu (by omega) (by omega)))
  have C2 := Lib.hid (fun W (h : Below w3.heap.size w3 W) => lift2 h (shl_num W _ _ k N ((HX.out.2.keep HB3.out).keep h) SX.out.de (by omega) (by omega)))
  obtain ⟨P1, hP1⟩ : ∃ P1, Big.nu q * 2 ^ (-N).toNat = P1 := ⟨_, rfl⟩
  obtain ⟨P2, hP2⟩ : ∃ P2, Big.de q * 2 ^ N.toNat = P2 := ⟨_, rfl⟩
  rw [hP1] at HL C1
  rw [hP2] at HL C2
  have CC := Lib.hid (fun W a b (ha : NatIn W a P1) (hb : NatIn W b P2) (h : Below w3.heap.size w3 W) => (cmp_num W a b P1 P2 ha hb).mono fun e W' ⟨h1, h2⟩ => (show e = Ending.returned (.int .i64 (Big.cmpI P1 P2)) ∧ Below w3.heap.size w3 W' from ⟨h1, h.trans (h2.below _)⟩))
  clear hP1 hP2
  by_cases hlt : P1 < P2
  · have hc : Big.cmpI P1 P2 = -1 := Big.cmpI_lt hlt
    have HR := Lib.hid (HL.out.trans (if_pos hlt))
    rw [hc] at CC
    clear hlt hc HL
    go_wp2_with fail
    go_region_held3 (fun w' => w'.cell? ⟨w.heap.size, 1, none⟩ = some (.slice A l c) ∧ w'.cell? ⟨w.heap.size, 2, none⟩ = some (.slice A2 l2 c2))
      (exact KX.out _ (by first | assumption | exact Below.refl _ _ | exact below_drew (Below.refl _ _) | exact below_drew (by assumption)))
      (first
        | (go_at_call 244; (with_reducible refine (C1.out _ (by first | assumption | exact Below.refl _ _ | exact below_drew (Below.refl _ _) | exact below_drew (by assumption))).mono ?_); rintro e w4 ⟨v4, rfl, hv4, hw4, hw4'⟩)
        | (go_at_call 244; (with_reducible refine (C2.out _ (by first | assumption | exact Below.refl _ _ | exact below_drew (Below.refl _ _) | exact below_drew (by assumption))).mono ?_); rintro e w5 ⟨v5, rfl, hv5, hw5, hw5'⟩)
        | (go_at_call 217; (with_reducible refine (CC.out _ _ _ (by first | exact hv4.keep hw5' | exact NatIn.dr (hv4.keep hw5')) (by first | exact hv5 | exact NatIn.dr (hv5)) (by first | assumption | exact Below.refl _ _ | exact below_drew (Below.refl _ _) | exact below_drew (by assumption))).mono ?_); rintro e w6 ⟨rfl, hw6⟩)
        | fail)
    go_wp2_with fail
    go_ret
    exact ⟨by rw [HR.out]; apply ret_int; omega, (HB0.out.trans (HB3'.out.mono HB0.out.size)).trans (hw6.mono (HB0.out.trans (HB3'.out.mono HB0.out.size)).size)⟩
  · obtain ⟨cc, hc, hcn⟩ : ∃ cc : Int, Big.cmpI P1 P2 = cc ∧ ¬ cc < 0 := ⟨_, rfl, by unfold Big.cmpI; rw [if_neg hlt]; split <;> omega⟩
    have HR := Lib.hid (HL.out.trans (if_neg hlt))
    rw [hc] at CC
    clear hlt hc HL
    go_wp2_with fail
    go_region_held3 (fun w' => w'.cell? ⟨w.heap.size, 1, none⟩ = some (.slice A l c) ∧ w'.cell? ⟨w.heap.size, 2, none⟩ = some (.slice A2 l2 c2))
      (exact KX.out _ (by first | assumption | exact Below.refl _ _ | exact below_drew (Below.refl _ _) | exact below_drew (by assumption)))
      (first
        | (go_at_call 244; (with_reducible refine (C1.out _ (by first | assumption | exact Below.refl _ _ | exact below_drew (Below.refl _ _) | exact below_drew (by assumption))).mono ?_); rintro e w4 ⟨v4, rfl, hv4, hw4, hw4'⟩)
        | (go_at_call 244; (with_reducible refine (C2.out _ (by first | assumption | exact Below.refl _ _ | exact below_drew (Below.refl _ _) | exact below_drew (by assumption))).mono ?_); rintro e w5 ⟨v5, rfl, hv5, hw5, hw5'⟩)
        | (go_at_call 217; (with_reducible refine (CC.out _ _ _ (by first | exact hv4.keep hw5' | exact NatIn.dr (hv4.keep hw5')) (by first | exact hv5 | exact NatIn.dr (hv5)) (by first | assumption | exact Below.refl _ _ | exact below_drew (Below.refl _ _) | exact below_drew (by assumption))).mono ?_); rintro e w6 ⟨rfl, hw6⟩)
        | fail)
    go_wp2_with fail
    go_ret
    exact ⟨by rw [HR.out]; rfl, (HB0.out.trans (HB3'.out.mono HB0.out.size)).trans (hw6.mono (HB0.out.trans (HB3'.out.mono HB0.out.size)).size)⟩
end Go.Proofs.YtgcgmplepcfbaaaGreatDoor
/- exact: Number.Float of what a float is worth. -/
namespace Go.Proofs.YtgcgmplepcfbaaaGreatDoor
open Go.RowKit Ieee Fl

set_option maxRecDepth 100000 in
theorem ldexp_d {F K R : Nat} {k : Int} (h1 : 4503599627370496 ≤ F) (h2 : F < INF) (hk : k + ((F / 4503599627370496 : Nat) : Int) + 53 = K) (k1 : 1 ≤ K) (k2 : K ≤ 53) (hR : double.mul 4368491638549381120 (K * 4503599627370496 + F % 4503599627370496) = some R) (w : World) :
    Calls Tryz.prog 167 #[.float .f64 F, .int .i64 k] w fun e w' => e = .returned (.float .f64 R) ∧ w = w' := by
  have c0 := eq_spell (x := F) (y := 0) (by unfold IsN; rw [rg_self h2]; exact Nat.le_of_lt h2) isN_0
  rw [sv_r h2, sv_0, decide_eq_false (by have := V_lt (show 0 < F by omega); omega)] at c0
  have h64 : F < 18446744073709551616 := by unfold INF at h2; omega
  have hN := Lib.hid (norm_r h2)
  rw [show nrm F = F from if_neg (by omega), show nrk F = 0 from if_neg (by omega)] at hN
  obtain ⟨p1, p2, p3⟩ := pack_eqs h2
  have p1' : bits .and .i64 ((F : Int) / 4503599627370496) 2047 = ((F / 4503599627370496 : Nat) : Int) := by
    have hE : F / 4503599627370496 < 2047 := by unfold INF at h2; omega
    rw [show (F : Int) / 4503599627370496 = ((F / 4503599627370496 : Nat) : Int) by omega]
    generalize F / 4503599627370496 = E at *
    exact i64_and2047 E hE
  have p4 := p3 K (by omega)
  rw [show ((K * 4503599627370496 : Nat) : Int) = (K : Int) * 4503599627370496 by omega] at p4
  have hE : F / 4503599627370496 ≤ 2046 := by unfold INF at h2; omega
  have o1 : ∀ t w, (binOp .mul t (.float .f64 4368491638549381120) (.float .f64 (K * 4503599627370496 + F % 4503599627370496))).run Tryz.prog w = .ok (.float .f64 R) w := fun t w => run_float_arith w .mul t .f64 _ _ _ hR
  have HF := Lib.hid (fin_self h2)
  have hX : k + (((F / 4503599627370496 : Nat) : Int) - 1023) = (K : Int) - 1076 := by omega
  obtain ⟨E, hEe⟩ : ∃ E, F / 4503599627370496 = E := ⟨_, rfl⟩
  obtain ⟨m, hm⟩ : ∃ m, F % 4503599627370496 = m := ⟨_, rfl⟩
  rw [hEe] at hX p1 p1' hE hk
  rw [hm] at p2 p4 o1
  obtain ⟨G, hGe⟩ : ∃ G, K * 4503599627370496 + m = G := ⟨_, rfl⟩
  rw [hGe] at p4 o1
  have hY : (K : Int) - 1076 + 53 = (K : Int) - 1023 := by omega
  have b1 : -2200 ≤ k := by omega
  have b2 : k ≤ 2046 := by omega
  clear hEe hm hGe hR p3 h1 h2 hk
  go_enter Tryz.func167, Tryz.ntmps167
  go_wp2_with (first | simp only [o1] | (go_at_call 52; refine (isInf_fin h64 HF.out _).mono ?_; rintro e w' ⟨rfl, rfl⟩) | (go_at_call 51; refine (isNaN_no (Nat.le_of_lt HF.out) _).mono ?_; rintro e w' ⟨rfl, rfl⟩) | (go_at_call 261; refine (hN.out _).mono ?_; rintro e w' ⟨rfl, rfl⟩))
  go_ret
  exact ⟨rfl, rfl⟩
theorem Ldexp_d {F K R : Nat} {k : Int} (h1 : 4503599627370496 ≤ F) (h2 : F < INF) (hk : k + ((F / 4503599627370496 : Nat) : Int) + 53 = K) (k1 : 1 ≤ K) (k2 : K ≤ 53) (hR : double.mul 4368491638549381120 (K * 4503599627370496 + F % 4503599627370496) = some R) (w : World) :
    Calls Tryz.prog 65 #[.float .f64 F, .int .i64 k] w fun e w' => e = .returned (.float .f64 R) ∧ w = w' := by
  have hN := Lib.hid (fun W => ldexp_d h1 h2 hk k1 k2 hR W)
  clear h1 h2 hk k1 k2 hR
  go_enter Tryz.func65, Tryz.ntmps65
  go_wp2_with (go_at_call 167; refine (hN.out _).mono ?_; rintro e w' ⟨rfl, rfl⟩)
  go_ret
  exact ⟨rfl, rfl⟩
/-- The word of a whole number. -/
def fw (c : Nat) : Nat := rung c 0
theorem V_inj {a b : Nat} (h : V a = V b) : a = b := Nat.le_antisymm (le_of_V (Nat.le_of_eq h)) (le_of_V (Nat.le_of_eq h.symm))
theorem E74_eq : E74 = 1074 := rfl
theorem step_a (E : Nat) : (E + 2) * 4503599627370496 = (E + 1) * 4503599627370496 + 4503599627370496 := by omega
theorem step_b (E : Nat) (h : 52 ≤ E) : (E - 51) * 4503599627370496 = (E - 52) * 4503599627370496 + 4503599627370496 := by omega
theorem E74_int : (-1074 : Int) + (E74 : Nat) = 0 := by rw [E74_eq]; rfl
theorem fw_is {c : Nat} (h0 : 0 < c) (h : c < 9007199254740992) : V (fw c) = c * P74 ∧ fw c < (E74 + 2) * 4503599627370496 ∧ (E74 - 51) * 4503599627370496 ≤ fw c := by
  have e74 := E74_eq
  have hb : V ((E74 + 1) * 4503599627370496 + 4503599627370496) = 4503599627370496 * 2 ^ (E74 + 1) := V_norm (k := 4503599627370496) (E := E74 + 1) (by omega) (fun _ => Nat.le_refl _)
  have hI : V ((E74 + 1) * 4503599627370496 + 4503599627370496) < V INF := V_lt (by unfold INF; omega)
  have e2 : 4503599627370496 * 2 ^ (E74 + 1) = 9007199254740992 * P74 := by
    unfold P74; rw [Nat.pow_succ]
    generalize 2 ^ E74 = P
    omega
  have hE : V ((E74 - 52) * 4503599627370496 + 4503599627370496) = 4503599627370496 * 2 ^ (E74 - 52) := V_norm (k := 4503599627370496) (E := E74 - 52) (by omega) (fun _ => Nat.le_refl _)
  have e3 : 4503599627370496 * 2 ^ (E74 - 52) = P74 := by
    unfold P74
    rw [show (4503599627370496 : Nat) = 2 ^ 52 from rfl, ← Nat.pow_add, show 52 + (E74 - 52) = E74 by omega]
  have a1 := step_a E74
  have a2 := step_b E74 (by rw [E74_eq]; decide)
  have hlt : c * P74 < 9007199254740992 * P74 := Nat.mul_lt_mul_of_pos_right h P74_pos
  have hv : V (fw c) = c * P74 := by
    have hR : Rp (c * 2 ^ E74) := rp_grid (m := c) (e := E74) rfl (Nat.le_of_lt h) (Nat.le_of_lt (by rw [hb, e2] at hI; exact Nat.lt_trans hlt hI))
    have := rung_rep hR
    rw [rung_shift, E74_int] at this
    exact this
  clear e74
  refine ⟨hv, ?_, ?_⟩
  · rcases Nat.lt_or_ge (fw c) ((E74 + 2) * 4503599627370496) with h1 | h1
    · exact h1
    · rw [a1] at h1
      have := V_le h1
      rw [hv, hb, e2] at this
      exact absurd hlt (Nat.not_lt.2 this)
  · apply le_of_V
    rw [hv, a2, hE, e3]
    exact Nat.le_mul_of_pos_left _ h0
end Go.Proofs.YtgcgmplepcfbaaaGreatDoor
/- Floats: whole numbers as words; Ldexp leads back to the float. -/
namespace Go.Proofs.YtgcgmplepcfbaaaGreatDoor
open Go.RowKit Ieee Fl

theorem write_nearest (s : Bool) (m : Nat) (p : Int) : double.write (.number s m p) = double.nearest s m p := rfl
theorem float_of (c : Nat) : floatOfInt .f64 (c : Int) = fw c := by
  have h : floatOfInt .f64 (c : Int) = double.write (.number (decide ((c : Int) < 0)) (c : Int).natAbs 0) := rfl
  rw [h, write_nearest, nearest_eq, Int.natAbs_natCast, wd_eq, show decide ((c : Int) < 0) = false from decide_eq_false (by omega), wd_false]
  unfold fw
  rfl
theorem conv_w (c : Nat) (w : World) : (convert 90 58 (.int .u64 (c : Int))).run Tryz.prog w = .ok (.float .f64 (fw c)) w := by
  rw [run_convert_int_float w _ _ .u64 .f64 _ (by kernel_rfl) Tryz.underlying58, float_of]
def cnt (r : Nat) : Nat := if r < 4503599627370496 then r else 4503599627370496 + r % 4503599627370496
theorem cnt_is (r : Nat) : V r = cnt r * 2 ^ eo r ∧ cnt r < 9007199254740992 := by
  unfold V cnt eo
  split
  · rename_i h; rw [Nat.div_eq_of_lt h]; exact ⟨by simp, by omega⟩
  · exact ⟨rfl, by omega⟩
theorem back_n {r : Nat} (hr : 4503599627370496 ≤ r) (h : r < INF) (W : World) :
    Calls Tryz.prog 65 #[.float .f64 (fw (cnt r)), .int .i64 ((eo r : Int) - 1074)] W fun e w' => e = .returned (.float .f64 r) ∧ W = w' := by
  have hc : cnt r = mnt r := by unfold cnt mnt nrm; rw [if_neg (by omega), if_neg (by omega)]
  have hm := mnt_bd r
  have hm2 : mnt r = 4503599627370496 + r % 4503599627370496 := by unfold mnt nrm; rw [if_neg (by omega)]
  have hF : fw (mnt r) = 1074 * 4503599627370496 + mnt r := V_inj ((fw_is (by omega) hm.2).1.trans (V_74 r).symm)
  have hI : 1074 * 4503599627370496 + mnt r < INF := by unfold INF; omega
  have hE : r / 4503599627370496 ≤ 2046 := by unfold INF at h; omega
  have hE1 : 1 ≤ r / 4503599627370496 := by omega
  have he : eo r = r / 4503599627370496 - 1 := rfl
  have L := Ldexp_n (F := 1074 * 4503599627370496 + mnt r) (K := r / 4503599627370496) (k := (eo r : Int) - 1074) (by omega) hI (by rw [he]; omega) hE1 hE W
  rw [show r / 4503599627370496 * 4503599627370496 + (1074 * 4503599627370496 + mnt r) % 4503599627370496 = r by omega] at L
  rw [hc, hF]
  exact L
theorem read_m53 : double.read 4368491638549381120 = .number false 4503599627370496 (-53 - 52) := by decide
theorem cut_pow {a b c E : Nat} (h : a * 2 ^ (E + 1021) = b * 2 ^ (c + 1021)) : a * 2 ^ E = b * 2 ^ c := by
  rw [Nat.pow_add, Nat.pow_add, ← Nat.mul_assoc, ← Nat.mul_assoc] at h
  exact Nat.eq_of_mul_eq_mul_right (Nat.pow_pos (by omega)) h
theorem back_d {r : Nat} (h0 : 0 < r) (hr : r < 4503599627370496) (W : World) :
    Calls Tryz.prog 65 #[.float .f64 (fw (cnt r)), .int .i64 ((eo r : Int) - 1074)] W fun e w' => e = .returned (.float .f64 r) ∧ W = w' := by
  have hc : cnt r = r := if_pos hr
  have he : eo r = 0 := by unfold eo; rw [Nat.div_eq_of_lt hr]
  obtain ⟨f1, f2, f3⟩ := fw_is h0 (by omega : r < 9007199254740992)
  rw [hc, he]
  rw [E74_eq] at f2 f3
  generalize fw r = F at *
  -- F lies below 1075 binades: r is below 2^52
  have hV : V F = (4503599627370496 + F % 4503599627370496) * 2 ^ (F / 4503599627370496 - 1) := by unfold V; rw [if_neg (by omega)]
  have hF2 : F / 4503599627370496 ≤ 1074 := by
    rcases Nat.lt_or_ge (F / 4503599627370496) 1075 with h | h
    · omega
    · exfalso
      have h1 := V_le (show 1075 * 4503599627370496 ≤ F by omega)
      have h2 := V_norm (k := 4503599627370496) (E := E74) (by omega) (fun _ => Nat.le_refl _)
      rw [show E74 * 4503599627370496 + 4503599627370496 = 1075 * 4503599627370496 from rfl] at h2
      rw [h2, f1] at h1
      have := Nat.le_of_mul_le_mul_right h1 P74_pos
      omega
  have hF1 : 1023 ≤ F / 4503599627370496 := by omega
  obtain ⟨K, hK⟩ : ∃ K, F / 4503599627370496 = K + 1021 := ⟨F / 4503599627370496 - 1021, by omega⟩
  obtain ⟨m, hm⟩ : ∃ m, F % 4503599627370496 = m := ⟨_, rfl⟩
  have hml : m < 4503599627370496 := by omega
  have hG : V (K * 4503599627370496 + m) = r * 2 ^ 53 := by
    rw [hV, hK, hm] at f1
    have e1 : V (K * 4503599627370496 + m) = (4503599627370496 + m) * 2 ^ (K - 1) := by
      unfold V; rw [if_neg (by omega), show (K * 4503599627370496 + m) % 4503599627370496 = m by omega, show (K * 4503599627370496 + m) / 4503599627370496 = K by omega]
    rw [e1]
    apply cut_pow
    rw [show K - 1 + 1021 = K + 1021 - 1 by omega, show 53 + 1021 = E74 from rfl]
    exact f1
  have hGI : K * 4503599627370496 + m < INF := by unfold INF; omega
  have hR : double.mul 4368491638549381120 (K * 4503599627370496 + F % 4503599627370496) = some r := by
    rw [hm, mul_pow2 (fin_self hGI) (-53) read_m53, rg_self hGI, ngb_self hGI, hG, rung_shift, wd_false]
    have hv : V r = r := by unfold V; rw [if_pos hr]
    have hw := rung_V (r := r) (by unfold INF; omega)
    rw [hv] at hw
    exact congrArg some hw
  have hFI : F < INF := by unfold INF; omega
  exact Ldexp_d (F := F) (K := K) (by omega) hFI (by omega) (by omega) (by omega) hR W
end Go.Proofs.YtgcgmplepcfbaaaGreatDoor
