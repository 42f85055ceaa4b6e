/- Contracts, in this order: math/bits.Div64, Rem64: the library's own text, walked. · nat: quotients and rests by one word. -/
import Derived.Test.YtfmebfkdpfbjbaaGreatDoorEkq12
namespace Go.Proofs.YtfmebfkdpfbjbaaGreatDoor
open Go.RowKit
set_option maxRecDepth 100000 in
set_option maxHeartbeats 2000000 in
theorem div64_zero (lo y : Nat) (hlo : lo < 18446744073709551616) (hy : y < 18446744073709551616) (h0 : 0 < y) (w : World) :
    Calls Tryz.prog 187 #[.int .u64 0, .int .u64 (lo : Int), .int .u64 (y : Int)] w fun e w' =>
      e = .returned (.tuple #[.int .u64 ((lo / y : Nat) : Int), .int .u64 ((lo % y : Nat) : Int)]) ∧ Drew w w' := by
  have t0 : ((y : Int) == 0) = false := beq_eq_false_iff_ne.2 (by omega)
  have t1 : ¬ ((y : Int) ≤ 0) := by omega
  have e1 : IntKind.u64.wrap ((lo : Int) / (y : Int)) = ((lo / y : Nat) : Int) := by
    have : lo / y ≤ lo := Nat.div_le_self _ _
    rw [← Int.natCast_ediv, IntKind.wrap_u64]
    generalize lo / y = q at *
    omega
  have H1 := Lib.hid e1
  clear e1
  go_enter Tryz.func187, Tryz.ntmps187
  go_wp2_with fail
  go_quiet (fail)
  rw [H1.out]
  go_wp2
  go_ret2
  exact ⟨rfl, (Drew.refl _).drewN _⟩
theorem wrapN (n : Nat) (h : n < 18446744073709551616) : IntKind.u64.wrap ((n : Nat) : Int) = ((n : Nat) : Int) := by rw [IntKind.wrap_u64]; omega
theorem wrapS (n s : Nat) : IntKind.u64.wrap ((n : Int) * 2 ^ s) = ((n * 2 ^ s % 18446744073709551616 : Nat) : Int) := by
  rw [show ((2 : Int) ^ s) = ((2 ^ s : Nat) : Int) by rw [Int.natCast_pow]; rfl, ← Int.natCast_mul, IntKind.wrap_u64]; omega
theorem divS (n s : Nat) : ((n : Nat) : Int) / 2 ^ s = ((n / 2 ^ s : Nat) : Int) := by
  rw [show ((2 : Int) ^ s) = ((2 ^ s : Nat) : Int) by rw [Int.natCast_pow]; rfl, Int.natCast_ediv]
theorem maskN (n : Nat) (h : n < 18446744073709551616) : bits .and .u64 ((n : Nat) : Int) 4294967295 = ((n % 4294967296 : Nat) : Int) := by
  have h1 := u64_and_nat n 4294967295 h (by omega)
  rw [show n &&& 4294967295 = n % 4294967296 from Nat.and_two_pow_sub_one_eq_mod n 32] at h1
  exact h1
theorem mid_eq {U Y v p : Nat} (hU : U < Y) (hY2 : Y < 18446744073709551616) (hE : (U * 4294967296 + v) / Y = p) :
    IntKind.u64.wrap (IntKind.u64.wrap (IntKind.u64.wrap (((U : Nat) : Int) * 4294967296) + ((v : Nat) : Int)) - IntKind.u64.wrap (((p : Nat) : Int) * ((Y : Nat) : Int))) = (((U * 4294967296 + v) % Y : Nat) : Int) := by
  have h := Nat.div_add_mod (U * 4294967296 + v) Y
  rw [hE, Nat.mul_comm] at h
  have h2 : (U * 4294967296 + v) % Y < Y := Nat.mod_lt _ (by omega)
  simp only [IntKind.wrap_u64]
  rw [← Int.natCast_mul p Y]
  generalize p * Y = Z at *
  generalize (U * 4294967296 + v) % Y = R at *
  omega
theorem quo_eq {U y1 : Nat} (hU : U < 18446744073709551616) : IntKind.u64.wrap (((U : Nat) : Int).tdiv ((y1 : Nat) : Int)) = ((U / y1 : Nat) : Int) := by
  rw [Int.tdiv_eq_ediv_of_nonneg (by omega), ← Int.natCast_ediv]
  exact wrapN _ (Nat.lt_of_le_of_lt (Nat.div_le_self _ _) hU)
theorem quo_eq' {U y1 : Nat} (hU : U < 18446744073709551616) : IntKind.u64.wrap (((U : Nat) : Int) / ((y1 : Nat) : Int)) = ((U / y1 : Nat) : Int) := by
  rw [← Int.natCast_ediv]
  exact wrapN _ (Nat.lt_of_le_of_lt (Nat.div_le_self _ _) hU)
theorem rest_eq {U y1 : Nat} (hU : U < 18446744073709551616) : IntKind.u64.wrap (((U : Nat) : Int) - IntKind.u64.wrap (((U / y1 : Nat) : Int) * ((y1 : Nat) : Int))) = ((U % y1 : Nat) : Int) := by
  have h := Nat.div_add_mod U y1
  rw [Nat.mul_comm] at h
  simp only [IntKind.wrap_u64]
  rw [← Int.natCast_mul]
  generalize U / y1 * y1 = Z at *
  generalize U % y1 = R at *
  omega
theorem fin_eq {QD RD s U V Y R v1 v0 p1 p : Nat} (hUY : U < Y) (hQ : QD < 18446744073709551616) (hr : (U * 18446744073709551616 + V) / Y = QD ∧ (U * 18446744073709551616 + V) % Y = RD * 2 ^ s) (dV : V = v1 * 4294967296 + v0)
    (b0 : v0 < 4294967296) (h1 : (U * 4294967296 + v1) / Y = p1) (hR : (U * 4294967296 + v1) % Y = R) (h2 : (R * 4294967296 + v0) / Y = p) :
    IntKind.u64.wrap (IntKind.u64.wrap (((p1 : Nat) : Int) * 4294967296) + ((p : Nat) : Int)) = ((QD : Nat) : Int) ∧ IntKind.u64.wrap (((p1 : Nat) : Int) * 4294967296 + ((p : Nat) : Int)) = ((QD : Nat) : Int) ∧
      ((p1 : Nat) : Int) * 4294967296 + ((p : Nat) : Int) = ((QD : Nat) : Int) ∧
      (((R : Nat) : Int) * 4294967296 + ((v0 : Nat) : Int)) % ((Y : Nat) : Int) / 2 ^ s = ((RD : Nat) : Int) := by
  have hY : 0 < Y := by omega
  obtain ⟨t1, t2⟩ := Big.two_digits (B := 4294967296) (U := U) (v1 := v1) (v0 := v0) (by omega) hY b0
  have eV : U * (4294967296 * 4294967296) + (v1 * 4294967296 + v0) = U * 18446744073709551616 + V := by rw [dV]
  rw [eV, h1, hR, h2] at t1
  rw [eV, hR] at t2
  rw [hr.1] at t1
  refine ⟨?_, ?_, by omega, ?_⟩
  · simp only [IntKind.wrap_u64]
    omega
  · simp only [IntKind.wrap_u64]
    omega
  · rw [hr.2] at t2
    rw [show (((R : Nat) : Int) * 4294967296 + ((v0 : Nat) : Int)) = ((R * 4294967296 + v0 : Nat) : Int) by omega, ← Int.natCast_emod, ← t2, divS]
    rw [Nat.mul_div_cancel _ (Nat.pow_pos (by omega))]
theorem quo_bd {U Y y1 y0 : Nat} (hY : Y = y1 * 4294967296 + y0) (hU : U < Y) (h0 : y0 < 4294967296) (h1 : 2147483648 ≤ y1) : U / y1 ≤ 4294967297 := by
  have : U / y1 < 4294967298 := by
    rw [Nat.div_lt_iff_lt_mul (by omega)]
    omega
  omega
set_option maxRecDepth 100000 in
set_option maxHeartbeats 4000000 in
theorem div64_any (hi lo y : Nat) (hhi : hi < y) (hlo : lo < 18446744073709551616) (hy : y < 18446744073709551616) (h0 : 0 < hi) (w : World) :
    Calls Tryz.prog 187 #[.int .u64 (hi : Int), .int .u64 (lo : Int), .int .u64 (y : Int)] w fun e w' =>
      e = .returned (.tuple #[.int .u64 (((hi * 18446744073709551616 + lo) / y : Nat) : Int), .int .u64 (((hi * 18446744073709551616 + lo) % y : Nat) : Int)]) ∧ Drew w w' := by
  have t0 : ((y : Int) == 0) = false := beq_eq_false_iff_ne.2 (by omega)
  have t1 : ¬ ((y : Int) ≤ hi) := by omega
  have t2 : ((hi : Int) == 0) = false := beq_eq_false_iff_ne.2 (by omega)
  have CL := Lib.hid (lzn_any y hy (by omega))
  obtain ⟨l1, l2, l3⟩ := lzn_bd y hy (by omega)
  generalize hs : lzn y = s at *
  have l1' : ((s : Nat) : Int) ≤ 63 := by omega
  -- the names of what the text works out
  have hhs : hi * 2 ^ s < y * 2 ^ s := Nat.mul_lt_mul_of_pos_right hhi (Nat.pow_pos (by omega))
  obtain ⟨n1, n2, n3⟩ := Big.norm_shift (hi := hi) (lo := lo) (s := s) (by omega) (by omega) hlo
  have eY := wrapS y s
  rw [Nat.mod_eq_of_lt l3] at eY
  have eH := wrapS hi s
  rw [Nat.mod_eq_of_lt (by omega)] at eH
  have eL := divS lo (64 - s)
  have eV := wrapS lo s
  have hr := Big.shift_div (X := hi * 18446744073709551616 + lo) (y := y) (s := s)
  have hVlt : lo * 2 ^ s % 18446744073709551616 < 18446744073709551616 := Nat.mod_lt _ (by omega)
  have hUY : hi * 2 ^ s + lo / 2 ^ (64 - s) < y * 2 ^ s := by
    have h1 : lo / 2 ^ (64 - s) < 2 ^ s := by
      rw [Nat.div_lt_iff_lt_mul (Nat.pow_pos (by omega)), ← Nat.pow_add, show s + (64 - s) = 64 by omega]; exact hlo
    have h2 : (hi + 1) * 2 ^ s ≤ y * 2 ^ s := Nat.mul_le_mul_right _ hhi
    rw [Nat.add_mul] at h2
    omega
  rw [n3] at hr
  have hQD : (hi * 18446744073709551616 + lo) / y < 18446744073709551616 := by
    rw [Nat.div_lt_iff_lt_mul (by omega)]
    have h2 : (hi + 1) * 18446744073709551616 ≤ y * 18446744073709551616 := Nat.mul_le_mul_right _ hhi
    omega
  obtain ⟨QD, hqd⟩ : ∃ q, (hi * 18446744073709551616 + lo) / y = q := ⟨_, rfl⟩
  obtain ⟨RD, hrd⟩ : ∃ q, (hi * 18446744073709551616 + lo) % y = q := ⟨_, rfl⟩
  rw [hqd] at hr hQD
  rw [hrd] at hr
  rw [hqd, hrd]
  have HQD := Lib.hid hQD
  clear n3 hQD hqd hrd
  have eU := u64_or_nat (hi * 2 ^ s) (lo / 2 ^ (64 - s)) (by omega) (by omega)
  rw [n1] at eU
  generalize hVV : lo * 2 ^ s % 18446744073709551616 = V at *
  generalize hLL : lo / 2 ^ (64 - s) = L at *
  generalize hHH : hi * 2 ^ s = H at *
  generalize hYY : y * 2 ^ s = Y at *
  generalize hUU : H + L = U at *
  have hx2 : ((2 : Int) ^ s) = ((2 ^ s : Nat) : Int) := by rw [Int.natCast_pow]; rfl
  have eY1 : ((Y : Nat) : Int) / 4294967296 = ((Y / 4294967296 : Nat) : Int) := by omega
  have eY0 := maskN Y l3
  have eV1 : ((V : Nat) : Int) / 4294967296 = ((V / 4294967296 : Nat) : Int) := by omega
  have eV0 := maskN V hVlt
  have dY : Y = Y / 4294967296 * 4294967296 + Y % 4294967296 := by omega
  have dV : V = V / 4294967296 * 4294967296 + V % 4294967296 := by omega
  have by1 : 2147483648 ≤ Y / 4294967296 ∧ Y / 4294967296 < 4294967296 := by omega
  have by0 : Y % 4294967296 < 4294967296 := Nat.mod_lt _ (by omega)
  have bv1 : V / 4294967296 < 4294967296 := by omega
  have bv0 : V % 4294967296 < 4294967296 := Nat.mod_lt _ (by omega)
  generalize Y / 4294967296 = y1 at *
  generalize Y % 4294967296 = y0 at *
  generalize V / 4294967296 = v1 at *
  generalize V % 4294967296 = v0 at *
  have z1 : (((y1 : Nat) : Int) == 0) = false := beq_eq_false_iff_ne.2 (by omega)
  have hq0 : U / y1 ≤ 4294967297 := by
    have : U / y1 < 4294967298 := by
      rw [Nat.div_lt_iff_lt_mul (by omega)]
      omega
    omega
  have eQ : IntKind.u64.wrap (((U : Nat) : Int).tdiv ((y1 : Nat) : Int)) = ((U / y1 : Nat) : Int) := by
    rw [Int.tdiv_eq_ediv_of_nonneg (by omega), ← Int.natCast_ediv]
    exact wrapN _ (by omega)
  have eQ' : IntKind.u64.wrap (((U : Nat) : Int) / ((y1 : Nat) : Int)) = ((U / y1 : Nat) : Int) := by
    rw [← Int.natCast_ediv]
    exact wrapN _ (by omega)
  have hD := Big.Dig.start (U := U) (v := v1) dY bv1 (by omega) (by omega)
  generalize hq1 : U / y1 = q1 at *
  have hm1 : q1 * y1 ≤ U := by rw [← hq1]; exact Nat.div_mul_le_self _ _
  have eP : IntKind.u64.wrap (((q1 : Nat) : Int) * ((y1 : Nat) : Int)) = ((q1 * y1 : Nat) : Int) := by
    rw [← Int.natCast_mul]; exact wrapN _ (by omega)
  have hmod := Nat.div_add_mod U y1
  have eR : IntKind.u64.wrap (((U : Nat) : Int) - ((q1 : Nat) : Int) * ((y1 : Nat) : Int)) = ((U % y1 : Nat) : Int) := by
    rw [← Int.natCast_mul]
    rw [hq1, Nat.mul_comm] at hmod
    rw [IntKind.wrap_u64]
    omega
  have hr1 : U % y1 < y1 := Nat.mod_lt _ (by omega)
  generalize U % y1 = r1 at *
  have HH := Lib.hid (And.intro hUY (And.intro hr (And.intro dY (And.intro dV (And.intro by1 (And.intro by0 (And.intro bv1 (And.intro bv0 (And.intro hD (And.intro hq0 (And.intro hr1 hYY)))))))))))
  have HS := Lib.hid hs
  have z0 : ¬ (y1 = 0) := by omega
  have L2 := Lib.hid l2; have L3 := Lib.hid l3
  clear hUY hr dY dV by1 by0 bv1 bv0 hD hq0 hr1 hYY l1 hVV hVlt hLL hHH l2 l3 hhs hUU n1 n2 hx2 hq1 hm1 hmod hhi hs hlo hy h0
  go_enter Tryz.func187, Tryz.ntmps187
  go_wp2_with fail
  refine (CL.out _).mono ?_
  rintro e w' ⟨rfl, rfl⟩
  go_wp2_with fail
  clear eY eH eL eV eU eY1 eY0 eV1 eV0 eQ eQ' eP eR CL t1 t2 t0
  go_loop [15, 16] (fun a b => ∃ q r : Nat, a = .int .u64 (q : Int) ∧ b = .int .u64 (r : Int) ∧ Hid (Big.Dig 4294967296 U Y y1 v1 q r) ∧ Hid (q ≤ 4294967297 ∧ r < 4294967296)) (fun a _ => (intOf a).toNat)
  case atStart => exact ⟨q1, r1, rfl, rfl, Lib.hid HH.out.2.2.2.2.2.2.2.2.1, Lib.hid ⟨HH.out.2.2.2.2.2.2.2.2.2.1, by have := HH.out; omega⟩⟩
  case round =>
    obtain ⟨q, r, rfl, rfl, HD, HQ⟩ := hrel
    obtain ⟨hUY, hr, dY, dV, by1, by0, bv1, bv0, -, -, -, -⟩ := HH.out
    have hYp : 0 < Y := by omega
    have hqr := HQ.out
    have hlt := Big.digit_lt bv1 hUY
    by_cases hA : 4294967296 ≤ q
    · have HD' := HD.out.less (by omega) (by omega)
      have hA' : (4294967296 : Int) ≤ ((q : Nat) : Int) := by omega
      have hpq : ((q : Nat) : Int) - 1 = ((q - 1 : Nat) : Int) := by omega
      have hp1 : q - 1 ≤ 4294967296 := by omega
      have hp2 : q - 1 < q := by omega
      generalize q - 1 = p at *
      have hwp := wrapN p (by omega)
      have HP1 := Lib.hid hp1; have HP2 := Lib.hid hp2
      have HL := Lib.hid HD'
      have hy1b : ((y1 : Nat) : Int) < 4294967296 := by omega
      have hrb : ((r : Nat) : Int) < 4294967296 := by omega
      by_cases hB : 4294967296 ≤ r + y1
      · have hB' : (4294967296 : Int) ≤ ((r : Nat) : Int) + ((y1 : Nat) : Int) := by omega
        have HE := Lib.hid (HD'.broke dY hYp by0 (by omega) hB)
        clear HD' hp1 hp2 hUY dY dV by1 by0 bv1 bv0 hqr hlt hYp hA hB
        have ee := mid_eq (v := v1) HH.out.1 L3.out HE.out
        have hRY : (U * 4294967296 + v1) % Y < Y := Nat.mod_lt _ (by have := L2.out; omega)
        obtain ⟨R, hR⟩ : ∃ R, (U * 4294967296 + v1) % Y = R := ⟨_, rfl⟩
        rw [hR] at ee hRY
        have hRM : R < 18446744073709551616 := by have := L3.out; omega
        have eq0 := quo_eq (y1 := y1) hRM
        have eq0' := quo_eq' (y1 := y1) hRM
        have er0 := rest_eq (y1 := y1) hRM
        have hD2 := Big.Dig.start (U := R) (v := v0) HH.out.2.2.1 HH.out.2.2.2.2.2.2.2.1 (by have := HH.out.2.2.2.2.1; omega) (by omega)
        have hb2 := quo_bd HH.out.2.2.1 hRY HH.out.2.2.2.2.2.1 HH.out.2.2.2.2.1.1
        have hr2 : R % y1 < y1 := Nat.mod_lt _ (by have := HH.out.2.2.2.2.1; omega)
        obtain ⟨q2, hq2⟩ : ∃ q, R / y1 = q := ⟨_, rfl⟩
        rw [hq2] at eq0 eq0' er0 hD2 hb2
        obtain ⟨r2, hr2'⟩ : ∃ r, R % y1 = r := ⟨_, rfl⟩
        rw [hr2'] at er0 hD2 hr2
        have HR := Lib.hid (And.intro hR (And.intro hRY (And.intro hD2 (And.intro hb2 (And.intro hr2 HE.out)))))
        clear hR hRY hD2 hb2 hr2 hRM hq2 hr2' HE
        go_wp2_with fail
        clear ee eq0 eq0' er0
        go_loop [16, 18] (fun b a => ∃ q r : Nat, a = .int .u64 (q : Int) ∧ b = .int .u64 (r : Int) ∧ Hid (Big.Dig 4294967296 R Y y1 v0 q r) ∧ Hid (q ≤ 4294967297 ∧ r < 4294967296)) (fun _ a => (intOf a).toNat)
        case atStart => exact ⟨q2, r2, rfl, rfl, Lib.hid HR.out.2.2.1, Lib.hid ⟨HR.out.2.2.2.1, by have := HR.out.2.2.2.2.1; have := HH.out.2.2.2.2.1.2; omega⟩⟩
        case round =>
          obtain ⟨q, r, rfl, rfl, HD, HQ⟩ := hrel
          obtain ⟨-, -, dY, dV, by1, by0, bv1, bv0, -, -, -, -⟩ := HH.out
          have hYp : 0 < Y := by omega
          have hUY := HR.out.2.1
          have hqr := HQ.out
          have hlt := Big.digit_lt bv0 hUY
          by_cases hA : 4294967296 ≤ q
          · have HD' := HD.out.less (by omega) (by omega)
            have hA' : (4294967296 : Int) ≤ ((q : Nat) : Int) := by omega
            have hpq : ((q : Nat) : Int) - 1 = ((q - 1 : Nat) : Int) := by omega
            have hp1 : q - 1 ≤ 4294967296 := by omega
            have hp2 : q - 1 < q := by omega
            generalize q - 1 = p at *
            have hwp := wrapN p (by omega)
            have HP1 := Lib.hid hp1; have HP2 := Lib.hid hp2
            have HL := Lib.hid HD'
            have hy1b : ((y1 : Nat) : Int) < 4294967296 := by omega
            have hrb : ((r : Nat) : Int) < 4294967296 := by omega
            by_cases hB : 4294967296 ≤ r + y1
            · have hB' : (4294967296 : Int) ≤ ((r : Nat) : Int) + ((y1 : Nat) : Int) := by omega
              have HE := Lib.hid (HD'.broke dY hYp by0 (by omega) hB)
              clear HD' hp1 hp2 hUY dY dV by1 by0 bv1 bv0 hqr hlt hYp hA hB
              have ef := mid_eq (v := v0) HR.out.2.1 L3.out HE.out
              go_wp2_with fail
              go_ret2
              have F := fin_eq HH.out.1 HQD.out HH.out.2.1 HH.out.2.2.2.1 HH.out.2.2.2.2.2.2.2.1 HR.out.2.2.2.2.2 HR.out.1 HE.out
              refine ⟨?_, Drew.refl _⟩
              show Ending.returned (.tuple #[.int .u64 _, .int .u64 _]) = _
              first | rw [F.1, F.2.2.2] | rw [F.2.1, F.2.2.2] | rw [F.2.2.1, F.2.2.2]
            · have hB' : ¬ ((4294967296 : Int) ≤ ((r : Nat) : Int) + ((y1 : Nat) : Int)) := by omega
              have HB2 := Lib.hid hB
              clear HD' hp1 hp2 hUY dY dV by1 by0 bv1 bv0 hqr hlt hYp hA hB
              go_wp2_with fail
              go_round
              case rel => exact ⟨p, r + y1, by simp [hwp], by simp, HL, Lib.hid ⟨by have := HP1.out; omega, by have := HB2.out; omega⟩⟩
              case measure => simp [intOf, hwp]; exact HP2.out
          · have hA' : ¬ ((4294967296 : Int) ≤ ((q : Nat) : Int)) := by omega
            have eqy : IntKind.u64.wrap (((q : Nat) : Int) * ((y0 : Nat) : Int)) = ((q * y0 : Nat) : Int) := by
              rw [← Int.natCast_mul]
              have : q * y0 ≤ 4294967295 * 4294967295 := Nat.mul_le_mul (by omega) (by omega)
              exact wrapN _ (by omega)
            have hqb : ((q : Nat) : Int) < 4294967296 := by omega
            have hrb' : ((r : Nat) : Int) < 4294967296 := by omega
            have hvb : ((v0 : Nat) : Int) < 4294967296 := by omega
            by_cases hC : 4294967296 * r + v0 < q * y0
            · have hq0 : 0 < q := by rcases Nat.eq_zero_or_pos q with h0 | h0; subst h0; simp at hC; exact h0
              have HD' := HD.out.less hq0 (HD.out.too_great dY (by omega) (by omega) hC)
              have hC' : (4294967296 : Int) * ((r : Nat) : Int) + ((v0 : Nat) : Int) < ((q * y0 : Nat) : Int) := by omega
              generalize q * y0 = qy at *
              have hpq : ((q : Nat) : Int) - 1 = ((q - 1 : Nat) : Int) := by omega
              have hp1 : q - 1 ≤ 4294967296 := by omega
              have hp2 : q - 1 < q := by omega
              generalize q - 1 = p at *
              have hwp := wrapN p (by omega)
              have HP1 := Lib.hid hp1; have HP2 := Lib.hid hp2
              have HL := Lib.hid HD'
              have hy1b : ((y1 : Nat) : Int) < 4294967296 := by omega
              have hrb : ((r : Nat) : Int) < 4294967296 := by omega
              by_cases hB : 4294967296 ≤ r + y1
              · have hB' : (4294967296 : Int) ≤ ((r : Nat) : Int) + ((y1 : Nat) : Int) := by omega
                have HE := Lib.hid (HD'.broke dY hYp by0 (by omega) hB)
                clear HD' hp1 hp2 hUY dY dV by1 by0 bv1 bv0 hqr hlt hYp hA hC hq0 hB
                have ef := mid_eq (v := v0) HR.out.2.1 L3.out HE.out
                go_wp2_with fail
                go_ret2
                have F := fin_eq HH.out.1 HQD.out HH.out.2.1 HH.out.2.2.2.1 HH.out.2.2.2.2.2.2.2.1 HR.out.2.2.2.2.2 HR.out.1 HE.out
                refine ⟨?_, Drew.refl _⟩
                show Ending.returned (.tuple #[.int .u64 _, .int .u64 _]) = _
                first | rw [F.1, F.2.2.2] | rw [F.2.1, F.2.2.2] | rw [F.2.2.1, F.2.2.2]
              · have hB' : ¬ ((4294967296 : Int) ≤ ((r : Nat) : Int) + ((y1 : Nat) : Int)) := by omega
                have HB2 := Lib.hid hB
                clear HD' hp1 hp2 hUY dY dV by1 by0 bv1 bv0 hqr hlt hYp hA hC hq0 hB
                go_wp2_with fail
                go_round
                case rel => exact ⟨p, r + y1, by simp [hwp], by simp, HL, Lib.hid ⟨by have := HP1.out; omega, by have := HB2.out; omega⟩⟩
                case measure => simp [intOf, hwp]; exact HP2.out
            · have hC' : ¬ ((4294967296 : Int) * ((r : Nat) : Int) + ((v0 : Nat) : Int) < ((q * y0 : Nat) : Int)) := by omega
              have HE := Lib.hid (HD.out.just dY hYp (by omega))
              have hwp := wrapN q (by omega)
              clear hUY dY dV by1 by0 bv1 bv0 hqr hlt hYp hA hC
              generalize q * y0 = qy at *
              generalize q = p at *
              have ef := mid_eq (v := v0) HR.out.2.1 L3.out HE.out
              go_wp2_with fail
              go_ret2
              have F := fin_eq HH.out.1 HQD.out HH.out.2.1 HH.out.2.2.2.1 HH.out.2.2.2.2.2.2.2.1 HR.out.2.2.2.2.2 HR.out.1 HE.out
              refine ⟨?_, Drew.refl _⟩
              show Ending.returned (.tuple #[.int .u64 _, .int .u64 _]) = _
              first | rw [F.1, F.2.2.2] | rw [F.2.1, F.2.2.2] | rw [F.2.2.1, F.2.2.2]
      · have hB' : ¬ ((4294967296 : Int) ≤ ((r : Nat) : Int) + ((y1 : Nat) : Int)) := by omega
        have HB2 := Lib.hid hB
        clear HD' hp1 hp2 hUY dY dV by1 by0 bv1 bv0 hqr hlt hYp hA hB
        go_wp2_with fail
        go_round
        case rel => exact ⟨p, r + y1, by simp [hwp], by simp, HL, Lib.hid ⟨by have := HP1.out; omega, by have := HB2.out; omega⟩⟩
        case measure => simp [intOf, hwp]; exact HP2.out
    · have hA' : ¬ ((4294967296 : Int) ≤ ((q : Nat) : Int)) := by omega
      have eqy : IntKind.u64.wrap (((q : Nat) : Int) * ((y0 : Nat) : Int)) = ((q * y0 : Nat) : Int) := by
        rw [← Int.natCast_mul]
        have : q * y0 ≤ 4294967295 * 4294967295 := Nat.mul_le_mul (by omega) (by omega)
        exact wrapN _ (by omega)
      have hqb : ((q : Nat) : Int) < 4294967296 := by omega
      have hrb' : ((r : Nat) : Int) < 4294967296 := by omega
      have hvb : ((v1 : Nat) : Int) < 4294967296 := by omega
      by_cases hC : 4294967296 * r + v1 < q * y0
      · have hq0 : 0 < q := by rcases Nat.eq_zero_or_pos q with h0 | h0; subst h0; simp at hC; exact h0
        have HD' := HD.out.less hq0 (HD.out.too_great dY (by omega) (by omega) hC)
        have hC' : (4294967296 : Int) * ((r : Nat) : Int) + ((v1 : Nat) : Int) < ((q * y0 : Nat) : Int) := by omega
        generalize q * y0 = qy at *
        have hpq : ((q : Nat) : Int) - 1 = ((q - 1 : Nat) : Int) := by omega
        have hp1 : q - 1 ≤ 4294967296 := by omega
        have hp2 : q - 1 < q := by omega
        generalize q - 1 = p at *
        have hwp := wrapN p (by omega)
        have HP1 := Lib.hid hp1; have HP2 := Lib.hid hp2
        have HL := Lib.hid HD'
        have hy1b : ((y1 : Nat) : Int) < 4294967296 := by omega
        have hrb : ((r : Nat) : Int) < 4294967296 := by omega
        by_cases hB : 4294967296 ≤ r + y1
        · have hB' : (4294967296 : Int) ≤ ((r : Nat) : Int) + ((y1 : Nat) : Int) := by omega
          have HE := Lib.hid (HD'.broke dY hYp by0 (by omega) hB)
          clear HD' hp1 hp2 hUY dY dV by1 by0 bv1 bv0 hqr hlt hYp hA hC hq0 hB
          have ee := mid_eq (v := v1) HH.out.1 L3.out HE.out
          have hRY : (U * 4294967296 + v1) % Y < Y := Nat.mod_lt _ (by have := L2.out; omega)
          obtain ⟨R, hR⟩ : ∃ R, (U * 4294967296 + v1) % Y = R := ⟨_, rfl⟩
          rw [hR] at ee hRY
          have hRM : R < 18446744073709551616 := by have := L3.out; omega
          have eq0 := quo_eq (y1 := y1) hRM
          have eq0' := quo_eq' (y1 := y1) hRM
          have er0 := rest_eq (y1 := y1) hRM
          have hD2 := Big.Dig.start (U := R) (v := v0) HH.out.2.2.1 HH.out.2.2.2.2.2.2.2.1 (by have := HH.out.2.2.2.2.1; omega) (by omega)
          have hb2 := quo_bd HH.out.2.2.1 hRY HH.out.2.2.2.2.2.1 HH.out.2.2.2.2.1.1
          have hr2 : R % y1 < y1 := Nat.mod_lt _ (by have := HH.out.2.2.2.2.1; omega)
          obtain ⟨q2, hq2⟩ : ∃ q, R / y1 = q := ⟨_, rfl⟩
          rw [hq2] at eq0 eq0' er0 hD2 hb2
          obtain ⟨r2, hr2'⟩ : ∃ r, R % y1 = r := ⟨_, rfl⟩
          rw [hr2'] at er0 hD2 hr2
          have HR := Lib.hid (And.intro hR (And.intro hRY (And.intro hD2 (And.intro hb2 (And.intro hr2 HE.out)))))
          clear hR hRY hD2 hb2 hr2 hRM hq2 hr2' HE
          go_wp2_with fail
          clear ee eq0 eq0' er0
          go_loop [16, 18] (fun b a => ∃ q r : Nat, a = .int .u64 (q : Int) ∧ b = .int .u64 (r : Int) ∧ Hid (Big.Dig 4294967296 R Y y1 v0 q r) ∧ Hid (q ≤ 4294967297 ∧ r < 4294967296)) (fun _ a => (intOf a).toNat)
          case atStart => exact ⟨q2, r2, rfl, rfl, Lib.hid HR.out.2.2.1, Lib.hid ⟨HR.out.2.2.2.1, by have := HR.out.2.2.2.2.1; have := HH.out.2.2.2.2.1.2; omega⟩⟩
          case round =>
            obtain ⟨q, r, rfl, rfl, HD, HQ⟩ := hrel
            obtain ⟨-, -, dY, dV, by1, by0, bv1, bv0, -, -, -, -⟩ := HH.out
            have hYp : 0 < Y := by omega
            have hUY := HR.out.2.1
            have hqr := HQ.out
            have hlt := Big.digit_lt bv0 hUY
            by_cases hA : 4294967296 ≤ q
            · have HD' := HD.out.less (by omega) (by omega)
              have hA' : (4294967296 : Int) ≤ ((q : Nat) : Int) := by omega
              have hpq : ((q : Nat) : Int) - 1 = ((q - 1 : Nat) : Int) := by omega
              have hp1 : q - 1 ≤ 4294967296 := by omega
              have hp2 : q - 1 < q := by omega
              generalize q - 1 = p at *
              have hwp := wrapN p (by omega)
              have HP1 := Lib.hid hp1; have HP2 := Lib.hid hp2
              have HL := Lib.hid HD'
              have hy1b : ((y1 : Nat) : Int) < 4294967296 := by omega
              have hrb : ((r : Nat) : Int) < 4294967296 := by omega
              by_cases hB : 4294967296 ≤ r + y1
              · have hB' : (4294967296 : Int) ≤ ((r : Nat) : Int) + ((y1 : Nat) : Int) := by omega
                have HE := Lib.hid (HD'.broke dY hYp by0 (by omega) hB)
                clear HD' hp1 hp2 hUY dY dV by1 by0 bv1 bv0 hqr hlt hYp hA hB
                have ef := mid_eq (v := v0) HR.out.2.1 L3.out HE.out
                go_wp2_with fail
                go_ret2
                have F := fin_eq HH.out.1 HQD.out HH.out.2.1 HH.out.2.2.2.1 HH.out.2.2.2.2.2.2.2.1 HR.out.2.2.2.2.2 HR.out.1 HE.out
                refine ⟨?_, Drew.refl _⟩
                show Ending.returned (.tuple #[.int .u64 _, .int .u64 _]) = _
                first | rw [F.1, F.2.2.2] | rw [F.2.1, F.2.2.2] | rw [F.2.2.1, F.2.2.2]
              · have hB' : ¬ ((4294967296 : Int) ≤ ((r : Nat) : Int) + ((y1 : Nat) : Int)) := by omega
                have HB2 := Lib.hid hB
                clear HD' hp1 hp2 hUY dY dV by1 by0 bv1 bv0 hqr hlt hYp hA hB
                go_wp2_with fail
                go_round
                case rel => exact ⟨p, r + y1, by simp [hwp], by simp, HL, Lib.hid ⟨by have := HP1.out; omega, by have := HB2.out; omega⟩⟩
                case measure => simp [intOf, hwp]; exact HP2.out
            · have hA' : ¬ ((4294967296 : Int) ≤ ((q : Nat) : Int)) := by omega
              have eqy : IntKind.u64.wrap (((q : Nat) : Int) * ((y0 : Nat) : Int)) = ((q * y0 : Nat) : Int) := by
                rw [← Int.natCast_mul]
                have : q * y0 ≤ 4294967295 * 4294967295 := Nat.mul_le_mul (by omega) (by omega)
                exact wrapN _ (by omega)
              have hqb : ((q : Nat) : Int) < 4294967296 := by omega
              have hrb' : ((r : Nat) : Int) < 4294967296 := by omega
              have hvb : ((v0 : Nat) : Int) < 4294967296 := by omega
              by_cases hC : 4294967296 * r + v0 < q * y0
              · have hq0 : 0 < q := by rcases Nat.eq_zero_or_pos q with h0 | h0; subst h0; simp at hC; exact h0
                have HD' := HD.out.less hq0 (HD.out.too_great dY (by omega) (by omega) hC)
                have hC' : (4294967296 : Int) * ((r : Nat) : Int) + ((v0 : Nat) : Int) < ((q * y0 : Nat) : Int) := by omega
                generalize q * y0 = qy at *
                have hpq : ((q : Nat) : Int) - 1 = ((q - 1 : Nat) : Int) := by omega
                have hp1 : q - 1 ≤ 4294967296 := by omega
                have hp2 : q - 1 < q := by omega
                generalize q - 1 = p at *
                have hwp := wrapN p (by omega)
                have HP1 := Lib.hid hp1; have HP2 := Lib.hid hp2
                have HL := Lib.hid HD'
                have hy1b : ((y1 : Nat) : Int) < 4294967296 := by omega
                have hrb : ((r : Nat) : Int) < 4294967296 := by omega
                by_cases hB : 4294967296 ≤ r + y1
                · have hB' : (4294967296 : Int) ≤ ((r : Nat) : Int) + ((y1 : Nat) : Int) := by omega
                  have HE := Lib.hid (HD'.broke dY hYp by0 (by omega) hB)
                  clear HD' hp1 hp2 hUY dY dV by1 by0 bv1 bv0 hqr hlt hYp hA hC hq0 hB
                  have ef := mid_eq (v := v0) HR.out.2.1 L3.out HE.out
                  go_wp2_with fail
                  go_ret2
                  have F := fin_eq HH.out.1 HQD.out HH.out.2.1 HH.out.2.2.2.1 HH.out.2.2.2.2.2.2.2.1 HR.out.2.2.2.2.2 HR.out.1 HE.out
                  refine ⟨?_, Drew.refl _⟩
                  show Ending.returned (.tuple #[.int .u64 _, .int .u64 _]) = _
                  first | rw [F.1, F.2.2.2] | rw [F.2.1, F.2.2.2] | rw [F.2.2.1, F.2.2.2]
                · have hB' : ¬ ((4294967296 : Int) ≤ ((r : Nat) : Int) + ((y1 : Nat) : Int)) := by omega
                  have HB2 := Lib.hid hB
                  clear HD' hp1 hp2 hUY dY dV by1 by0 bv1 bv0 hqr hlt hYp hA hC hq0 hB
                  go_wp2_with fail
                  go_round
                  case rel => exact ⟨p, r + y1, by simp [hwp], by simp, HL, Lib.hid ⟨by have := HP1.out; omega, by have := HB2.out; omega⟩⟩
                  case measure => simp [intOf, hwp]; exact HP2.out
              · have hC' : ¬ ((4294967296 : Int) * ((r : Nat) : Int) + ((v0 : Nat) : Int) < ((q * y0 : Nat) : Int)) := by omega
                have HE := Lib.hid (HD.out.just dY hYp (by omega))
                have hwp := wrapN q (by omega)
                clear hUY dY dV by1 by0 bv1 bv0 hqr hlt hYp hA hC
                generalize q * y0 = qy at *
                generalize q = p at *
                have ef := mid_eq (v := v0) HR.out.2.1 L3.out HE.out
                go_wp2_with fail
                go_ret2
                have F := fin_eq HH.out.1 HQD.out HH.out.2.1 HH.out.2.2.2.1 HH.out.2.2.2.2.2.2.2.1 HR.out.2.2.2.2.2 HR.out.1 HE.out
                refine ⟨?_, Drew.refl _⟩
                show Ending.returned (.tuple #[.int .u64 _, .int .u64 _]) = _
                first | rw [F.1, F.2.2.2] | rw [F.2.1, F.2.2.2] | rw [F.2.2.1, F.2.2.2]
        · have hB' : ¬ ((4294967296 : Int) ≤ ((r : Nat) : Int) + ((y1 : Nat) : Int)) := by omega
          have HB2 := Lib.hid hB
          clear HD' hp1 hp2 hUY dY dV by1 by0 bv1 bv0 hqr hlt hYp hA hC hq0 hB
          go_wp2_with fail
          go_round
          case rel => exact ⟨p, r + y1, by simp [hwp], by simp, HL, Lib.hid ⟨by have := HP1.out; omega, by have := HB2.out; omega⟩⟩
          case measure => simp [intOf, hwp]; exact HP2.out
      · have hC' : ¬ ((4294967296 : Int) * ((r : Nat) : Int) + ((v1 : Nat) : Int) < ((q * y0 : Nat) : Int)) := by omega
        have HE := Lib.hid (HD.out.just dY hYp (by omega))
        have hwp := wrapN q (by omega)
        clear hUY dY dV by1 by0 bv1 bv0 hqr hlt hYp hA hC
        generalize q * y0 = qy at *
        generalize q = p at *
        have ee := mid_eq (v := v1) HH.out.1 L3.out HE.out
        have hRY : (U * 4294967296 + v1) % Y < Y := Nat.mod_lt _ (by have := L2.out; omega)
        obtain ⟨R, hR⟩ : ∃ R, (U * 4294967296 + v1) % Y = R := ⟨_, rfl⟩
        rw [hR] at ee hRY
        have hRM : R < 18446744073709551616 := by have := L3.out; omega
        have eq0 := quo_eq (y1 := y1) hRM
        have eq0' := quo_eq' (y1 := y1) hRM
        have er0 := rest_eq (y1 := y1) hRM
        have hD2 := Big.Dig.start (U := R) (v := v0) HH.out.2.2.1 HH.out.2.2.2.2.2.2.2.1 (by have := HH.out.2.2.2.2.1; omega) (by omega)
        have hb2 := quo_bd HH.out.2.2.1 hRY HH.out.2.2.2.2.2.1 HH.out.2.2.2.2.1.1
        have hr2 : R % y1 < y1 := Nat.mod_lt _ (by have := HH.out.2.2.2.2.1; omega)
        obtain ⟨q2, hq2⟩ : ∃ q, R / y1 = q := ⟨_, rfl⟩
        rw [hq2] at eq0 eq0' er0 hD2 hb2
        obtain ⟨r2, hr2'⟩ : ∃ r, R % y1 = r := ⟨_, rfl⟩
        rw [hr2'] at er0 hD2 hr2
        have HR := Lib.hid (And.intro hR (And.intro hRY (And.intro hD2 (And.intro hb2 (And.intro hr2 HE.out)))))
        clear hR hRY hD2 hb2 hr2 hRM hq2 hr2' HE
        go_wp2_with fail
        clear ee eq0 eq0' er0
        go_loop [16, 18] (fun b a => ∃ q r : Nat, a = .int .u64 (q : Int) ∧ b = .int .u64 (r : Int) ∧ Hid (Big.Dig 4294967296 R Y y1 v0 q r) ∧ Hid (q ≤ 4294967297 ∧ r < 4294967296)) (fun _ a => (intOf a).toNat)
        case atStart => exact ⟨q2, r2, rfl, rfl, Lib.hid HR.out.2.2.1, Lib.hid ⟨HR.out.2.2.2.1, by have := HR.out.2.2.2.2.1; have := HH.out.2.2.2.2.1.2; omega⟩⟩
        case round =>
          obtain ⟨q, r, rfl, rfl, HD, HQ⟩ := hrel
          obtain ⟨-, -, dY, dV, by1, by0, bv1, bv0, -, -, -, -⟩ := HH.out
          have hYp : 0 < Y := by omega
          have hUY := HR.out.2.1
          have hqr := HQ.out
          have hlt := Big.digit_lt bv0 hUY
          by_cases hA : 4294967296 ≤ q
          · have HD' := HD.out.less (by omega) (by omega)
            have hA' : (4294967296 : Int) ≤ ((q : Nat) : Int) := by omega
            have hpq : ((q : Nat) : Int) - 1 = ((q - 1 : Nat) : Int) := by omega
            have hp1 : q - 1 ≤ 4294967296 := by omega
            have hp2 : q - 1 < q := by omega
            generalize q - 1 = p at *
            have hwp := wrapN p (by omega)
            have HP1 := Lib.hid hp1; have HP2 := Lib.hid hp2
            have HL := Lib.hid HD'
            have hy1b : ((y1 : Nat) : Int) < 4294967296 := by omega
            have hrb : ((r : Nat) : Int) < 4294967296 := by omega
            by_cases hB : 4294967296 ≤ r + y1
            · have hB' : (4294967296 : Int) ≤ ((r : Nat) : Int) + ((y1 : Nat) : Int) := by omega
              have HE := Lib.hid (HD'.broke dY hYp by0 (by omega) hB)
              clear HD' hp1 hp2 hUY dY dV by1 by0 bv1 bv0 hqr hlt hYp hA hB
              have ef := mid_eq (v := v0) HR.out.2.1 L3.out HE.out
              go_wp2_with fail
              go_ret2
              have F := fin_eq HH.out.1 HQD.out HH.out.2.1 HH.out.2.2.2.1 HH.out.2.2.2.2.2.2.2.1 HR.out.2.2.2.2.2 HR.out.1 HE.out
              refine ⟨?_, Drew.refl _⟩
              show Ending.returned (.tuple #[.int .u64 _, .int .u64 _]) = _
              first | rw [F.1, F.2.2.2] | rw [F.2.1, F.2.2.2] | rw [F.2.2.1, F.2.2.2]
            · have hB' : ¬ ((4294967296 : Int) ≤ ((r : Nat) : Int) + ((y1 : Nat) : Int)) := by omega
              have HB2 := Lib.hid hB
              clear HD' hp1 hp2 hUY dY dV by1 by0 bv1 bv0 hqr hlt hYp hA hB
              go_wp2_with fail
              go_round
              case rel => exact ⟨p, r + y1, by simp [hwp], by simp, HL, Lib.hid ⟨by have := HP1.out; omega, by have := HB2.out; omega⟩⟩
              case measure => simp [intOf, hwp]; exact HP2.out
          · have hA' : ¬ ((4294967296 : Int) ≤ ((q : Nat) : Int)) := by omega
            have eqy : IntKind.u64.wrap (((q : Nat) : Int) * ((y0 : Nat) : Int)) = ((q * y0 : Nat) : Int) := by
              rw [← Int.natCast_mul]
              have : q * y0 ≤ 4294967295 * 4294967295 := Nat.mul_le_mul (by omega) (by omega)
              exact wrapN _ (by omega)
            have hqb : ((q : Nat) : Int) < 4294967296 := by omega
            have hrb' : ((r : Nat) : Int) < 4294967296 := by omega
            have hvb : ((v0 : Nat) : Int) < 4294967296 := by omega
            by_cases hC : 4294967296 * r + v0 < q * y0
            · have hq0 : 0 < q := by rcases Nat.eq_zero_or_pos q with h0 | h0; subst h0; simp at hC; exact h0
              have HD' := HD.out.less hq0 (HD.out.too_great dY (by omega) (by omega) hC)
              have hC' : (4294967296 : Int) * ((r : Nat) : Int) + ((v0 : Nat) : Int) < ((q * y0 : Nat) : Int) := by omega
              generalize q * y0 = qy at *
              have hpq : ((q : Nat) : Int) - 1 = ((q - 1 : Nat) : Int) := by omega
              have hp1 : q - 1 ≤ 4294967296 := by omega
              have hp2 : q - 1 < q := by omega
              generalize q - 1 = p at *
              have hwp := wrapN p (by omega)
              have HP1 := Lib.hid hp1; have HP2 := Lib.hid hp2
              have HL := Lib.hid HD'
              have hy1b : ((y1 : Nat) : Int) < 4294967296 := by omega
              have hrb : ((r : Nat) : Int) < 4294967296 := by omega
              by_cases hB : 4294967296 ≤ r + y1
              · have hB' : (4294967296 : Int) ≤ ((r : Nat) : Int) + ((y1 : Nat) : Int) := by omega
                have HE := Lib.hid (HD'.broke dY hYp by0 (by omega) hB)
                clear HD' hp1 hp2 hUY dY dV by1 by0 bv1 bv0 hqr hlt hYp hA hC hq0 hB
                have ef := mid_eq (v := v0) HR.out.2.1 L3.out HE.out
                go_wp2_with fail
                go_ret2
                have F := fin_eq HH.out.1 HQD.out HH.out.2.1 HH.out.2.2.2.1 HH.out.2.2.2.2.2.2.2.1 HR.out.2.2.2.2.2 HR.out.1 HE.out
                refine ⟨?_, Drew.refl _⟩
                show Ending.returned (.tuple #[.int .u64 _, .int .u64 _]) = _
                first | rw [F.1, F.2.2.2] | rw [F.2.1, F.2.2.2] | rw [F.2.2.1, F.2.2.2]
              · have hB' : ¬ ((4294967296 : Int) ≤ ((r : Nat) : Int) + ((y1 : Nat) : Int)) := by omega
                have HB2 := Lib.hid hB
                clear HD' hp1 hp2 hUY dY dV by1 by0 bv1 bv0 hqr hlt hYp hA hC hq0 hB
                go_wp2_with fail
                go_round
                case rel => exact ⟨p, r + y1, by simp [hwp], by simp, HL, Lib.hid ⟨by have := HP1.out; omega, by have := HB2.out; omega⟩⟩
                case measure => simp [intOf, hwp]; exact HP2.out
            · have hC' : ¬ ((4294967296 : Int) * ((r : Nat) : Int) + ((v0 : Nat) : Int) < ((q * y0 : Nat) : Int)) := by omega
              have HE := Lib.hid (HD.out.just dY hYp (by omega))
              have hwp := wrapN q (by omega)
              clear hUY dY dV by1 by0 bv1 bv0 hqr hlt hYp hA hC
              generalize q * y0 = qy at *
              generalize q = p at *
              have ef := mid_eq (v := v0) HR.out.2.1 L3.out HE.out
              go_wp2_with fail
              go_ret2
              have F := fin_eq HH.out.1 HQD.out HH.out.2.1 HH.out.2.2.2.1 HH.out.2.2.2.2.2.2.2.1 HR.out.2.2.2.2.2 HR.out.1 HE.out
              refine ⟨?_, Drew.refl _⟩
              show Ending.returned (.tuple #[.int .u64 _, .int .u64 _]) = _
              first | rw [F.1, F.2.2.2] | rw [F.2.1, F.2.2.2] | rw [F.2.2.1, F.2.2.2]
end Go.Proofs.YtfmebfkdpfbjbaaGreatDoor
namespace Go.Proofs.YtfmebfkdpfbjbaaGreatDoor
open Go.RowKit
theorem div64_call (hi lo y : Nat) (hhi : hi < y) (hlo : lo < Big.M64) (hy : y < Big.M64) (w : World) :
    Calls Tryz.prog 187 #[.int .u64 (hi : Int), .int .u64 (lo : Int), .int .u64 (y : Int)] w fun e w' =>
      e = .returned (.tuple #[.int .u64 (((hi * Big.M64 + lo) / y : Nat) : Int), .int .u64 (((hi * Big.M64 + lo) % y : Nat) : Int)]) ∧ ∃ n, w' = w.drewN n := by
  rw [Big.M64_eq] at *
  rcases Nat.eq_zero_or_pos hi with h | h
  · subst h
    rw [Nat.zero_mul, Nat.zero_add]
    exact div64_zero lo y hlo hy hhi w
  · exact div64_any hi lo y hhi hlo hy h w
theorem quo_round {M x w r Q H : Nat} (h : H = Q * w + r) (hw : 0 < w) : x + M * H = (Q * M + (r * M + x) / w) * w + (r * M + x) % w := by
  have e := Nat.div_add_mod (r * M + x) w
  rw [h, Nat.add_mul, Nat.mul_add]
  rw [Nat.mul_comm w] at e
  have e2 : M * (Q * w) = Q * M * w := by rw [← Nat.mul_assoc, Nat.mul_comm M Q]
  have e3 : M * r = r * M := Nat.mul_comm _ _
  omega
set_option maxRecDepth 100000 in
set_option maxHeartbeats 2000000 in
theorem restWord_any (w : World) (v : Value) (l : List Nat) (y : Nat) (h : Wd w .u64 v l) (ol : Big.Ok Big.M64 l) (h0 : 0 < y) (hy : y < Big.M64) (hl : l.length ≤ 1000000000000) :
    Calls Tryz.prog 119 #[v, .int .u64 (y : Int)] w fun e w' => e = .returned (.int .u64 ((Big.val Big.M64 l % y : Nat) : Int)) ∧ Drew w w' := by
  have HW := Lib.hid h
  have OL := Lib.hid ol; have H0 := Lib.hid h0; have HY := Lib.hid hy
  obtain ⟨A, c, rfl, -, -, -⟩ := h
  obtain ⟨R, hR⟩ : ∃ R, Big.val Big.M64 l % y = R := ⟨_, rfl⟩
  rw [hR]
  have HR := Lib.hid hR
  have t0 : ((y : Int) == 0) = false := beq_eq_false_iff_ne.2 (by omega)
  clear ol h0 hy hR
  go_enter Tryz.func119, Tryz.ntmps119
  go_wp2_with fail
  go_loopw [5, 6] (fun r i wr => ∃ k q : Nat, k ≤ l.length ∧ i = .int .i64 ((k : Int) - 1) ∧ r = .int .u64 (q : Int) ∧ Hid (q < y) ∧ Hid (Big.val Big.M64 (l.drop k) % y = q) ∧ Hid (Drew w wr)) (fun _ i _ => (intOf i + 1).toNat)
  case atStart => exact ⟨l.length, 0, Nat.le_refl _, rfl, rfl, Lib.hid H0.out, Lib.hid (by simp [Big.val]), Lib.hid (Drew.refl _)⟩
  case round =>
    obtain ⟨k, q, hk, rfl, rfl, HQ, HV, HD⟩ := hrel
    rcases Nat.eq_zero_or_pos k with rfl | hp
    · go_wp2
      go_ret
      refine ⟨?_, HD.out⟩
      have := HV.out
      rw [List.drop_zero, HR.out] at this
      subst this; rfl
    · obtain ⟨j, rfl⟩ : ∃ j, k = j + 1 := ⟨k - 1, by omega⟩
      rw [show (((j + 1 : Nat) : Int) - 1) = (j : Int) by omega]
      have hX := HW.out
      obtain ⟨A', c', e, x1, x2, x3⟩ := hX
      cases e
      obtain ⟨b, o, rfl, hlt, hc, -⟩ := x3 (by omega)
      have hcell := (HD.out.cell _).trans (hc j (by omega))
      have HX := Lib.hid (OL.out.nth Big.M64_pos j)
      have HE := Lib.hid (show Big.val Big.M64 (l.drop j) % y = (q * Big.M64 + Big.nth l j) % y by
        rw [Big.drop_cons l j (by omega)]
        simp only [Big.val]
        have e := Nat.div_add_mod (Big.val Big.M64 (l.drop (j + 1))) y
        rw [HV.out] at e
        have := quo_round (M := Big.M64) (x := Big.nth l j) (w := y) (r := q) (Q := Big.val Big.M64 (l.drop (j + 1)) / y) (H := Big.val Big.M64 (l.drop (j + 1))) (by rw [Nat.mul_comm]; exact e.symm) H0.out
        rw [this, Nat.add_comm, Nat.add_mul_mod_self_right, Nat.mod_mod])
      generalize Big.nth l j = x at *
      clear hc x3
      go_wp2_with fail
      refine (div64_call q x y HQ.out HX.out HY.out _).mono ?_
      rintro e w' ⟨rfl, n, rfl⟩
      have HQ' := Lib.hid (Nat.mod_lt (q * Big.M64 + x) H0.out)
      generalize (q * Big.M64 + x) / y = qq at *
      obtain ⟨z, hz⟩ : ∃ z, (q * Big.M64 + x) % y = z := ⟨_, rfl⟩
      rw [hz] at HQ' HE ⊢
      clear hz
      go_wp2
      go_roundw
      case rel => exact ⟨j, z, by omega, by go_num, rfl, HQ', HE, Lib.hid (HD.out.drewN _)⟩
      case measure => simp [intOf]
theorem gcdWords_any (w : World) (a b : Nat) (ha : a < Big.M64) (hb : b < Big.M64) :
    Calls Tryz.prog 118 #[.int .u64 (a : Int), .int .u64 (b : Int)] w fun e w' => e = .returned (.int .u64 ((Nat.gcd a b : Nat) : Int)) ∧ Drew w w' := by
  obtain ⟨G, hG⟩ : ∃ G, Nat.gcd a b = G := ⟨_, rfl⟩
  rw [hG]
  have HG := Lib.hid hG
  have HA := Lib.hid ha; have HB := Lib.hid hb
  clear ha hb hG
  go_enter Tryz.func118, Tryz.ntmps118
  go_wp2_with fail
  go_loopw [0, 1] (fun s t wr => ∃ a b : Nat, s = .int .u64 (a : Int) ∧ t = .int .u64 (b : Int) ∧ Hid (a < Big.M64 ∧ b < Big.M64) ∧ Hid (Nat.gcd a b = G) ∧ Hid (Drew w wr)) (fun _ t _ => (intOf t).toNat)
  case atStart => exact ⟨a, b, rfl, rfl, Lib.hid ⟨HA.out, HB.out⟩, HG, Lib.hid (Drew.refl _)⟩
  case round =>
    obtain ⟨p, q, rfl, rfl, HP, HV, HD⟩ := hrel
    rcases Nat.eq_zero_or_pos q with h0 | h0
    · subst h0
      go_wp2
      go_ret
      refine ⟨?_, HD.out⟩
      have := HV.out
      rw [Nat.gcd_zero_right] at this
      subst this; rfl
    · have t1 : ((q : Int) != 0) = true := by rw [bne_iff_ne]; omega
      have t2 : ((q : Int) == 0) = false := beq_eq_false_iff_ne.2 (by omega)
      have HV' := Lib.hid (show Nat.gcd q (p % q) = G by rw [← HV.out, Nat.gcd_comm p q, Nat.gcd_rec q p, Nat.gcd_comm])
      have HP' := Lib.hid (show q < Big.M64 ∧ p % q < Big.M64 from ⟨HP.out.2, Nat.lt_trans (Nat.mod_lt _ h0) HP.out.2⟩)
      have HL := Lib.hid (Nat.mod_lt p h0)
      have e1 : ((p : Int) % (q : Int)) = ((p % q : Nat) : Int) := rfl
      generalize p % q = z at *
      have E1 := Lib.hid e1
      clear e1
      go_wp2_with fail
      go_quiet (fail)
      go_wp2
      go_roundw
      case rel => exact ⟨q, z, rfl, by rw [E1.out], HP', HV', Lib.hid (HD.out.drewN _)⟩
      case measure => simp [intOf, E1.out]; exact HL.out
set_option maxRecDepth 100000 in
set_option maxHeartbeats 2000000 in
theorem quoWord_any (w : World) (g n c y : Nat) (L : List Nat) (hb : Blk w g 95 .u64 L) (hn : n ≤ L.length) (hnc : n ≤ c) (oL : Big.Ok Big.M64 L) (h0 : 0 < y) (hy : y < Big.M64) (hnb : n ≤ 1000000000000) :
    Calls Tryz.prog 182 #[.slice (some ⟨g, 0, none⟩) n c, .int .u64 (y : Int)] w fun e w' =>
      ∃ (r : Nat) (zs : List Nat), e = .returned (.int .u64 (r : Int)) ∧ r < y ∧ zs.length = n ∧ Big.Ok Big.M64 zs ∧ Big.val Big.M64 (L.take n) = Big.val Big.M64 zs * y + r ∧
        Blk w' g 95 .u64 (zs ++ L.drop n) ∧ Only g w w' := by
  have HB0 := Lib.hid hb
  have OL := Lib.hid oL; have H0 := Lib.hid h0; have HY := Lib.hid hy
  have HN := Lib.hid hn
  clear hb oL h0 hy hn
  go_enter Tryz.func182, Tryz.ntmps182
  go_wp2_with fail
  go_loopw [5, 6] (fun r i wr => ∃ (k q : Nat) (zs : List Nat), k ≤ n ∧ i = .int .i64 ((k : Int) - 1) ∧ r = .int .u64 (q : Int) ∧ Hid (q < y) ∧
      Hid (zs.length = n - k ∧ Big.Ok Big.M64 zs ∧ Big.val Big.M64 ((L.take n).drop k) = Big.val Big.M64 zs * y + q) ∧ Hid (Blk wr g 95 .u64 (L.take k ++ (zs ++ L.drop n))) ∧ Hid (Only g w wr)) (fun _ i _ => (intOf i + 1).toNat)
  case atStart => exact ⟨n, 0, [], Nat.le_refl _, rfl, rfl, H0, Lib.hid ⟨by simp, Big.Ok.nil, by simp [Big.val]⟩, Lib.hid (by simpa using HB0.out), Lib.hid (Only.refl _ _)⟩
  case round =>
    obtain ⟨k, q, zs, hk, rfl, rfl, HQ, HZ, HB, HO⟩ := hrel
    rcases Nat.eq_zero_or_pos k with rfl | hp
    · go_wp2
      go_ret
      have Z := HZ.out
      refine ⟨q, zs, rfl, HQ.out, by omega, Z.2.1, by simpa using Z.2.2, by simpa using HB.out, HO.out⟩
    · obtain ⟨j, rfl⟩ : ∃ j, k = j + 1 := ⟨k - 1, by omega⟩
      rw [show (((j + 1 : Nat) : Int) - 1) = (j : Int) by omega]
      have hLn := HN.out
      have hst := HB.out.cell j (by simp; omega)
      have hfr := HB.out.frozen j
      have ex : Big.nth (L.take (j + 1) ++ (zs ++ L.drop n)) j = Big.nth (L.take n) j := by
        unfold Big.nth
        rw [List.getD_eq_getElem?_getD, List.getD_eq_getElem?_getD, List.getElem?_append_left (by simp; omega), List.getElem?_take_of_lt (by omega), List.getElem?_take_of_lt (by omega)]
      rw [ex] at hst
      have HX := Lib.hid ((OL.out.take n).nth Big.M64_pos j)
      obtain ⟨x, hx⟩ : ∃ x, Big.nth (L.take n) j = x := ⟨_, rfl⟩
      rw [hx] at hst HX
      have Z := HZ.out
      have hqr := quo_round (M := Big.M64) (x := x) (w := y) (r := q) (Q := Big.val Big.M64 zs) (H := Big.val Big.M64 ((L.take n).drop (j + 1))) Z.2.2 H0.out
      obtain ⟨d, hd⟩ : ∃ d, (q * Big.M64 + x) / y = d := ⟨_, rfl⟩
      obtain ⟨z, hz⟩ : ∃ z, (q * Big.M64 + x) % y = z := ⟨_, rfl⟩
      have hdlt : d < Big.M64 := by
        rw [← hd, Nat.div_lt_iff_lt_mul H0.out]
        have h1 : (q + 1) * Big.M64 ≤ y * Big.M64 := Nat.mul_le_mul_right _ HQ.out
        rw [Nat.add_mul] at h1
        have h2 := HX.out
        rw [Nat.mul_comm Big.M64 y]; omega
      have hzlt : z < y := by rw [← hz]; exact Nat.mod_lt _ H0.out
      have HC := Lib.hid (fun W => div64_call q x y HQ.out HX.out HY.out W)
      rw [hd, hz] at HC
      rw [hd, hz] at hqr
      have HZ' := Lib.hid (show (d :: zs).length = n - j ∧ Big.Ok Big.M64 (d :: zs) ∧ Big.val Big.M64 ((L.take n).drop j) = Big.val Big.M64 (d :: zs) * y + z from ⟨by simp; omega, Big.Ok.cons hdlt Z.2.1, by
        rw [Big.drop_cons (L.take n) j (by simp; omega), hx]
        simp only [Big.val]
        rw [hqr, Nat.add_comm d, Nat.mul_comm Big.M64]⟩)
      have HQ' := Lib.hid hzlt
      have HB' := Lib.hid (HB.out.set j d)
      have hjn : (j : Int) < (n : Int) := by omega
      clear hqr hdlt hzlt hx hd hz ex Z hLn
      go_wp2_with fail
      refine (HC.out _).mono ?_
      rintro e w' ⟨rfl, nn, rfl⟩
      go_wp2
      go_roundw
      case rel =>
        refine ⟨j, z, d :: zs, by omega, by go_num, rfl, HQ', HZ', Lib.hid ?_, Lib.hid (HO.out.setCell j _ |>.drewN _)⟩
        have h1 := HB'.out
        have h2 : (L.take (j + 1) ++ (zs ++ L.drop n)).set j d = L.take j ++ (d :: zs ++ L.drop n) := by
          rw [Big.take_succ L j (by have := HN.out; omega), List.append_assoc, List.set_append_right _ _ (by simp; omega)]
          have : j - (L.take j).length = 0 := by simp; have := HN.out; omega
          rw [this]; simp
        rw [h2] at h1
        exact h1
      case measure => simp [intOf]
end Go.Proofs.YtfmebfkdpfbjbaaGreatDoor
