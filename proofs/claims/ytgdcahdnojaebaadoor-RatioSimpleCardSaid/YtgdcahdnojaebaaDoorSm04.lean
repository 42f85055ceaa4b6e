/- Contracts, in this order: nat: Size, Bytes. · Plain arithmetic: one digit of a quotient by two halves of the divisor. No program. -/
import Derived.Test.YtgdcahdnojaebaaDoorSm03
import Derived.Lib.ItoaNum
import Derived.Laws.IdiomStrings
/- nat: Size, Bytes. -/
namespace Go.Proofs.YtgdcahdnojaebaaDoor
open Go.RowKit

theorem lz_any (x : Nat) (hx : x < 18446744073709551616) (w : World) :
    Calls Tryd.prog 110 #[.int .u64 (x : Int)] w fun e w' => e = .returned (.int .i64 (64 - ((Lib.bitLen x : Nat) : Int))) ∧ w = w' :=
  (Tryd.bits_LeadingZeros64 (x : Int) w (by omega) (by omega)).mono fun _ _ ⟨h1, h2⟩ => ⟨by simpa using h1, h2.symm⟩
/-- How many noughts a word has ahead. -/
def lzn (x : Nat) : Nat := 64 - Lib.bitLen x
theorem bitLen_bd (x : Nat) (hx : x < 18446744073709551616) (h0 : x ≠ 0) : 1 ≤ Lib.bitLen x ∧ Lib.bitLen x ≤ 64 ∧ 2 ^ (Lib.bitLen x - 1) ≤ x ∧ x < 2 ^ Lib.bitLen x := by
  have h := Lib.bitLenAux_bounds 64 x hx h0
  refine ⟨h.1, ?_, h.2.1, h.2.2⟩
  rcases Nat.lt_or_ge 64 (Lib.bitLen x) with hlt | hge
  · have h1 : 2 ^ 64 ≤ 2 ^ (Lib.bitLen x - 1) := Nat.pow_le_pow_right (by omega) (by omega)
    have h2 : 2 ^ (Lib.bitLen x - 1) ≤ x := h.2.1
    omega
  · exact hge
theorem lzn_bd (x : Nat) (hx : x < 18446744073709551616) (h0 : x ≠ 0) : lzn x ≤ 63 ∧ 9223372036854775808 ≤ x * 2 ^ lzn x ∧ x * 2 ^ lzn x < 18446744073709551616 := by
  obtain ⟨h1, h2, h3, h4⟩ := bitLen_bd x hx h0
  unfold lzn
  generalize Lib.bitLen x = b at *
  refine ⟨by omega, ?_, ?_⟩
  · have : 2 ^ (b - 1) * 2 ^ (64 - b) ≤ x * 2 ^ (64 - b) := Nat.mul_le_mul_right _ h3
    rw [← Nat.pow_add, show b - 1 + (64 - b) = 63 by omega] at this
    exact this
  · have : x * 2 ^ (64 - b) < 2 ^ b * 2 ^ (64 - b) := Nat.mul_lt_mul_of_pos_right h4 (Nat.pow_pos (by omega))
    rw [← Nat.pow_add, show b + (64 - b) = 64 by omega] at this
    exact this
theorem lzn_any (x : Nat) (hx : x < 18446744073709551616) (h0 : x ≠ 0) (w : World) :
    Calls Tryd.prog 110 #[.int .u64 (x : Int)] w fun e w' => e = .returned (.int .i64 ((lzn x : Nat) : Int)) ∧ w = w' :=
  (lz_any x hx w).mono fun _ _ ⟨h1, h2⟩ => ⟨by rw [h1]; apply ret_int; have := bitLen_bd x hx h0; unfold lzn; omega, h2⟩
theorem norm_last {l : List Nat} (h : Big.Norm l) (hne : l ≠ []) : ∃ r t, l = r ++ [t] ∧ t ≠ 0 := by
  refine ⟨l.dropLast, l.getLast hne, (List.dropLast_concat_getLast hne).symm, fun e => h ?_⟩
  rw [List.getLast?_eq_some_getLast hne, e]

/-- nat.Size: how many bytes. -/
theorem size_any (w : World) (v : Value) (n : Nat) (h : NatIn w v n) (hn : n < Big.M64 ^ Big.KX) :
    Calls Tryd.prog 136 #[v] w fun e w' => ∃ s : Nat, e = .returned (.int .i64 (s : Int)) ∧ Big.IsSize n s ∧ w = w' := by
  obtain ⟨l, hw, ol, nl, rfl⟩ := h
  have hl := len_of_lt nl hn
  rw [Big.KX_eq] at hl
  obtain ⟨A, c, rfl, h1, h2, h3⟩ := hw
  by_cases hne : l = []
  · subst hne
    clear hn h3 nl ol
    go_enter Tryd.func136, Tryd.ntmps136
    go_wp2
    go_ret
    exact ⟨0, rfl, Big.isSize_zero, rfl⟩
  · obtain ⟨r, t, rfl, ht0⟩ := norm_last nl hne
    have hlr : (r ++ [t]).length = r.length + 1 := by simp
    obtain ⟨b, o, rfl, hlt, hc⟩ := h3 (by omega)
    have hcell := hc r.length (by omega)
    have ent : Big.nth (r ++ [t]) r.length = t := by unfold Big.nth; rw [List.getD_eq_getElem?_getD, List.getElem?_append_right (Nat.le_refl _)]; simp
    rw [ent] at hcell
    have htM : t < 18446744073709551616 := by rw [← Big.M64_eq]; exact ol t (by simp)
    obtain ⟨b1, b2, b3, b4⟩ := bitLen_bd t htM ht0
    have HS := Lib.hid (Big.isSize_top (b := Lib.bitLen t) (fun d hd => ol d (by simp [hd]) : Big.Ok Big.M64 r) b4 b3 b1 b2)
    have hc0 : (((r ++ [t]).length : Int) == 0) = false := beq_eq_false_iff_ne.2 (by omega)
    have CL := Lib.hid (lz_any t htM)
    rw [hlr] at h1 hl hc0 ⊢
    clear h3 hc hlr ent b3 b4 htM hne nl ol hn
    generalize Lib.bitLen t = bl at *
    generalize Big.val Big.M64 (r ++ [t]) = N at *
    generalize r.length = m at *
    have hc1 : ((m : Int) + 1 == 0) = false := beq_eq_false_iff_ne.2 (by omega)
    go_enter Tryd.func136, Tryd.ntmps136
    go_wp2_with (go_at_call 110; refine (CL.out _).mono ?_; rintro e w' ⟨rfl, rfl⟩)
    go_ret
    refine ⟨_, ?_, HS.out, rfl⟩
    apply ret_int
    omega

theorem Tryd.infoU8 : (Tryd.prog.info? 5).map (fun i => (i.zero, i.size, i.bytes)) = some (some (.int .u8 0), 1, 1) := by kernel_rfl

set_option maxRecDepth 100000 in
set_option maxHeartbeats 2000000 in
/-- nat.Bytes: the bytes, the highest first. -/
theorem bytes_any (w : World) (v : Value) (n : Nat) (h : NatIn w v n) (hn : n < Big.M64 ^ Big.KL) :
    Calls Tryd.prog 105 #[v] w fun e w' => ∃ s : Nat, e = .returned (.string ⟨(Big.btext n s).toArray⟩) ∧ Big.IsSize n s ∧ Below w.heap.size w w' := by
  have CS := Lib.hid (size_any w v n h (Nat.lt_of_lt_of_le hn (Nat.pow_le_pow_right Big.M64_pos Big.KL_le)))
  obtain ⟨l, hw, ol, nl, hval⟩ := h
  have hl := len_of_lt (K := Big.KL) nl (by rw [hval]; exact hn)
  rw [Big.KL_eq] at hl
  have HW := Lib.hid hw; have OL := Lib.hid ol; have NL := Lib.hid nl; have HVAL := Lib.hid hval
  have HN := Lib.hid hn
  obtain ⟨A, c, rfl, -, -, -⟩ := hw
  obtain ⟨i0, hi, hz0, hz1, hz2⟩ := info_parts Tryd.infoU8
  clear ol nl hval hn
  go_enter Tryd.func105, Tryd.ntmps105
  go_wp2_with fail
  refine CS.out.mono ?_
  rintro e w1 ⟨sz, rfl, hsz, rfl⟩
  have HSZ := Lib.hid hsz
  have hsb : sz ≤ 800000000 := by
    rcases Nat.lt_or_ge 800000000 sz with hlt | hge
    · have h1 := hsz.2 (by omega)
      have h2 := HN.out
      rw [Big.M64_pow, ← Nat.pow_mul] at h2
      have h3 : 256 ^ (8 * Big.KL) ≤ 256 ^ (sz - 1) := Nat.pow_le_pow_right (by omega) (by have := Big.KL_eq; omega)
      omega
    · exact hge
  have hmk := fun W => make_words (P := Tryd.prog) Tryd.underlying111 hi hz0 hz1 (by rw [hz2]; omega) .i64 .i64 sz sz (Nat.le_refl _) (by omega) W
  have HB1 := Lib.hid (Blk.new w 5 .u8 (List.replicate sz 0))
  have HBel1 := Lib.hid ((Below.refl w.heap.size w).alloc (Nat.le_refl _) (.cells (cellsOf .u8 (List.replicate sz 0)) 5))
  clear hsz
  go_wp2_with fail
  clear hmk
  go_loopw [10] (fun i wr => ∃ (k : Nat), k ≤ sz ∧ i = .int .i64 k ∧
      Hid (Blk wr w.heap.size 5 .u8 (List.replicate (sz - k) 0 ++ (Big.bd n k).reverse)) ∧ Hid (Below w.heap.size w wr))
    (fun i _ => sz - (intOf i).toNat)
  case atStart => exact ⟨0, by omega, rfl, Lib.hid (by simpa [Big.bd] using HB1.out), HBel1⟩
  case round =>
    obtain ⟨k, hk, rfl, HB, HBel⟩ := hrel
    by_cases hkn : k < sz
    · obtain ⟨q, hq8⟩ : ∃ q, k / 8 = q := ⟨_, rfl⟩
      obtain ⟨r, hr8⟩ : ∃ r, k % 8 = r := ⟨_, rfl⟩
      have hr : r < 8 := by omega
      have hkq : k = 8 * q + r := by omega
      have hq : q < l.length := by
        rcases Nat.lt_or_ge q l.length with h1 | h1
        · exact h1
        · exfalso
          have h2 := HSZ.out.2 (by omega)
          have h3 := Big.val_lt l OL.out
          rw [HVAL.out, Big.M64_pow, ← Nat.pow_mul] at h3
          have h4 : 256 ^ (8 * l.length) ≤ 256 ^ (sz - 1) := Nat.pow_le_pow_right (by omega) (by omega)
          omega
      have hX := HW.out
      obtain ⟨A', c', e, x1, x2, x3⟩ := hX
      cases e
      obtain ⟨b, o, rfl, hblt, hcc⟩ := x3 (by omega)
      have hcell := (HBel.out.cell (p := ⟨b, o + q, none⟩) hblt).trans (hcc q hq)
      have hlen : (List.replicate (sz - k) 0 ++ (Big.bd n k).reverse).length = sz := by simp [Big.bd_length]; omega
      have hst := HB.out.cell (sz - 1 - k) (by omega)
      have hfr := HB.out.frozen (sz - 1 - k)
      have d1 : (k : Int) / 8 = (q : Int) := by omega
      have d2 : (k : Int) % 8 = (r : Int) := by omega
      have d3 : (0 : Int) ≤ (sz : Int) - 1 - k := by omega
      have d4 : (sz : Int) - 1 - k < sz := by omega
      have d5 : ((sz : Int) - 1 - k).toNat = sz - 1 - k := by omega
      have hql : (q : Int) < (l.length : Int) := by omega
      have ev := Big.nth_div Big.M64_pos l OL.out q
      rw [HVAL.out] at ev
      have hxm : Big.nth l q < 18446744073709551616 := by rw [← Big.M64_eq]; exact OL.out.nth Big.M64_pos q
      generalize Big.nth l q = xq at hcell ev hxm
      have HV := Lib.hid (show ((xq : Nat) : Int) / 2 ^ (r * 8) % 256 = ((n / 256 ^ k % 256 : Nat) : Int) by
        rw [hkq, ← Big.byte_div n q r hr, ← ev]
        rw [show ((2 : Int) ^ (r * 8)) = ((2 ^ (r * 8) : Nat) : Int) by rw [Int.natCast_pow]; rfl]
        omega)
      have HB' := Lib.hid (HB.out.set (sz - 1 - k) (n / 256 ^ k % 256))
      clear hq8 hr8 hlen x3 hcc ev hkq
      go_wp2_with fail
      rw [HV.out]
      refine ⟨⟨k + 1, by omega, by go_num, Lib.hid ?_, Lib.hid (HBel.out.setCell (Nat.le_refl _) _)⟩, by simp [intOf]; omega⟩
      have := HB'.out
      rw [Big.bd_set n k sz hkn] at this
      exact this
    · have hkl : k = sz := by omega
      subst hkl
      have hB := HB.out
      rw [Nat.sub_self, List.replicate_zero, List.nil_append] at hB
      have hcv := run_convert_bytes_back (P := Tryd.prog) wr 111 9 5 ⟨w.heap.size, 0, none⟩ k (Big.btext n k) Tryd.underlying111 Tryd.underlying5 Tryd.underlying9 (fun j hj => by
        have hj' : j < k := by simpa [Big.btext_length] using hj
        have h1 := hB.cell j (by simpa [Big.bd_length] using hj')
        have ha : (⟨w.heap.size, 0, none⟩ : Addr).add j = ⟨w.heap.size, j, none⟩ := by unfold Addr.add; split <;> simp_all
        rw [ha, h1]
        rw [Big.btext_get n k j hj])
      rw [Big.btext_length] at hcv
      clear hB
      go_wp2
      go_ret
      exact ⟨k, rfl, HSZ.out, HBel.out⟩
end Go.Proofs.YtgdcahdnojaebaaDoor
/- Plain arithmetic: one digit of a quotient by two halves of the divisor. No program. -/
namespace Go.Proofs.YtgdcahdnojaebaaDoor
namespace Big

/-- The guess q with its rest r so far: never too small. -/
structure Dig (B U Y y1 v q r : Nat) : Prop where
  eq : q * y1 + r = U
  ge : (U * B + v) / Y ≤ q

theorem Dig.start {B U Y y1 y0 v : Nat} (hY : Y = y1 * B + y0) (hv : v < B) (hy1 : 0 < y1) (hB : 0 < B) : Dig B U Y y1 v (U / y1) (U % y1) := by
  refine ⟨by rw [Nat.mul_comm]; exact Nat.div_add_mod U y1, ?_⟩
  have h : (U * B + v) / Y * Y ≤ U * B + v := Nat.div_mul_le_self _ _
  exact guess_div (P := B) (X := U * B + v) (Y := Y) rfl hv hY h hy1

theorem Dig.too_great {B U Y y1 y0 v q r : Nat} (h : Dig B U Y y1 v q r) (hY : Y = y1 * B + y0) (hB : 0 < B) (hy1 : 0 < y1) (ht : B * r + v < q * y0) : (U * B + v) / Y ≤ q - 1 := by
  have hYp : 0 < Y := by rw [hY]; have : 0 < y1 * B := Nat.mul_pos hy1 hB; omega
  have h1 : U * B + v < q * Y := by
    rw [hY, Nat.mul_add, ← Nat.mul_assoc, ← h.eq, Nat.add_mul, Nat.mul_comm r B]; omega
  have h2 := (Nat.div_lt_iff_lt_mul hYp).2 h1
  omega
theorem Dig.just {B U Y y1 y0 v q r : Nat} (h : Dig B U Y y1 v q r) (hY : Y = y1 * B + y0) (hYp : 0 < Y) (ht : q * y0 ≤ B * r + v) : (U * B + v) / Y = q := by
  have h1 : q * Y ≤ U * B + v := by
    rw [hY, Nat.mul_add, ← Nat.mul_assoc, ← h.eq, Nat.add_mul, Nat.mul_comm r B]; omega
  have h2 := (Nat.le_div_iff_mul_le hYp).2 h1
  have := h.ge
  omega
theorem Dig.less {B U Y y1 v q r : Nat} (h : Dig B U Y y1 v q r) (hq : 0 < q) (ht : (U * B + v) / Y ≤ q - 1) : Dig B U Y y1 v (q - 1) (r + y1) := by
  refine ⟨?_, ht⟩
  have := h.eq
  have e : q * y1 = (q - 1) * y1 + y1 := by
    conv => lhs; rw [show q = q - 1 + 1 by omega]
    rw [Nat.add_mul, Nat.one_mul]
  omega
/-- A rest that is not below B: nothing more to hold against. -/
theorem Dig.broke {B U Y y1 y0 v q r : Nat} (h : Dig B U Y y1 v q r) (hY : Y = y1 * B + y0) (hYp : 0 < Y) (hy0 : y0 < B) (hq : q ≤ B) (hr : B ≤ r) : (U * B + v) / Y = q := by
  apply h.just hY hYp
  have h1 : q * y0 ≤ B * B := Nat.mul_le_mul hq (by omega)
  have h2 : B * B ≤ B * r := Nat.mul_le_mul_left B hr
  omega
theorem digit_lt {B U Y v : Nat} (hv : v < B) (hU : U < Y) : (U * B + v) / Y < B := by
  rw [Nat.div_lt_iff_lt_mul (by omega)]
  have : (U + 1) * B ≤ Y * B := Nat.mul_le_mul_right B hU
  rw [Nat.add_mul] at this
  rw [Nat.mul_comm B Y]; omega
/-- Both digits. -/
theorem two_digits {B U Y v1 v0 : Nat} (hB : 0 < B) (hY : 0 < Y) (h0 : v0 < B) :
    (U * (B * B) + (v1 * B + v0)) / Y = (U * B + v1) / Y * B + ((U * B + v1) % Y * B + v0) / Y ∧ (U * (B * B) + (v1 * B + v0)) % Y = ((U * B + v1) % Y * B + v0) % Y := by
  have e : U * (B * B) + (v1 * B + v0) = Y * ((U * B + v1) / Y * B) + ((U * B + v1) % Y * B + v0) := by
    have h := Nat.div_add_mod (U * B + v1) Y
    have h2 : (Y * ((U * B + v1) / Y) + (U * B + v1) % Y) * B = (U * B + v1) * B := by rw [h]
    rw [Nat.add_mul, Nat.add_mul, Nat.mul_assoc Y, Nat.mul_assoc U] at h2
    omega
  rw [e]
  constructor
  · rw [Nat.mul_add_div hY]
  · rw [Nat.mul_add_mod]

/-- What the shift does: X = hi M + lo. -/
theorem norm_shift {hi lo s : Nat} (hs : s ≤ 64) (hhi : hi * 2 ^ s < 18446744073709551616) (hlo : lo < 18446744073709551616) :
    hi * 2 ^ s ||| lo / 2 ^ (64 - s) = hi * 2 ^ s + lo / 2 ^ (64 - s) ∧ hi * 2 ^ s + lo / 2 ^ (64 - s) < 18446744073709551616 + 2 ^ s ∧
      (hi * 18446744073709551616 + lo) * 2 ^ s = (hi * 2 ^ s + lo / 2 ^ (64 - s)) * 18446744073709551616 + lo * 2 ^ s % 18446744073709551616 := by
  have e64 : (18446744073709551616 : Nat) = 2 ^ s * 2 ^ (64 - s) := by rw [← Nat.pow_add, show s + (64 - s) = 64 by omega]
  have h1 : lo / 2 ^ (64 - s) < 2 ^ s := by
    rw [Nat.div_lt_iff_lt_mul (Nat.pow_pos (by omega)), ← e64]; exact hlo
  refine ⟨?_, by omega, ?_⟩
  · rw [← Nat.shiftLeft_eq, ← Nat.shiftLeft_add_eq_or_of_lt h1, Nat.shiftLeft_eq]
  · have h2 : lo * 2 ^ s / 18446744073709551616 = lo / 2 ^ (64 - s) := by
      rw [e64, Nat.mul_comm lo, Nat.mul_div_mul_left _ _ (Nat.pow_pos (by omega))]
    have h3 := Nat.div_add_mod (lo * 2 ^ s) 18446744073709551616
    rw [h2] at h3
    rw [Nat.add_mul, Nat.add_mul, Nat.mul_right_comm]
    omega
theorem shift_div {X y s : Nat} : X * 2 ^ s / (y * 2 ^ s) = X / y ∧ X * 2 ^ s % (y * 2 ^ s) = X % y * 2 ^ s :=
  ⟨Nat.mul_div_mul_right _ _ (Nat.pow_pos (by omega)), Nat.mul_mod_mul_right _ _ _⟩
end Big
end Go.Proofs.YtgdcahdnojaebaaDoor
