/- Contracts. -/
import Derived.Test.YtnlhjcfpfapafaaGreatDoorPOq08
import Derived.BigRegion
import Derived.RegionTactic
import Derived.WalkLawsBesides
import Derived.Laws.BitsAllLaws
import Derived.Lib.ItoaNum
import Derived.Laws.IdiomStrings
namespace Go.Proofs.YtnlhjcfpfapafaaGreatDoor
open Go.RowKit
set_option maxRecDepth 100000 in
set_option maxHeartbeats 2000000 in
theorem Kt (w : World) (s : ByteArray) (hs : s.size ≤ 1000000000) :
  Calls Tryz.prog 64 #[.string s] w fun e w' => ∃ v', e = .returned v' ∧ Zj w' v' (Big.bnum s.data.toList) ∧ Below w.heap.size w w' := by
 obtain ⟨i0, hi, hz0, hz1, hz2⟩ := info_parts Tryz.infoU64
 have hmk := fun W => ZZ (P := Tryz.prog) Tryz.underlying58 hi hz0 hz1 (by rw [hz2]; omega) .i64 .i64 ((s.size + 7) / 8) ((s.size + 7) / 8) (Nat.le_refl _) (by omega) W
 rw [show (((s.size + 7) / 8 : Nat) : Int) = ((s.size : Int) + 7) / 8 by omega] at hmk
 have HB1 := Lib.hid (Blk.new w 112 .u64 (List.replicate ((s.size + 7) / 8) 0))
 have HBel1 := Lib.hid ((Below.refl w.heap.size w).alloc (Nat.le_refl _) (.cells (cellsOf .u64 (List.replicate ((s.size + 7) / 8) 0)) 112))
 go_enter Tryz.func64, Tryz.ntmps64
 go_wp2_with fail
 clear hmk
 go_loopw [13] (fun i wr => ∃ (k : Nat) (X : List Nat), k ≤ s.size ∧ i = .int .i64 k ∧
   Hid (X.length = (s.size + 7) / 8 ∧ ∀ j, j < X.length → Big.nth X j = Big.val 256 ((((Big.rev s.data.toList).take k).drop (8 * j)).take 8)) ∧
   Hid (Blk wr w.heap.size 112 .u64 X) ∧ Hid (Below w.heap.size w wr))
  (fun i _ => s.size - (intOf i).toNat)
 case atStart => exact ⟨0, _, by omega, rfl, Lib.hid ⟨by simp, fun j hj => by rw [Big.nth_replicate]; simp [Big.val]⟩, HB1, HBel1⟩
 case round =>
  obtain ⟨k, X, hk, rfl, HZ, HB, HBel⟩ := hrel
  by_cases hkn : k < s.size
  ·obtain ⟨q, hq8⟩ : ∃ q, k / 8 = q := ⟨_, rfl⟩
   obtain ⟨r, hr8⟩ : ∃ r, k % 8 = r := ⟨_, rfl⟩
   have hr : r < 8 := by omega
   have HK := Lib.hid (show k = 8 * q + r by omega)
   have hq : q < X.length := by have := HZ.out.1; omega
   have hst := HB.out.cell q hq
   have hfr := HB.out.frozen q
   have d1 : (k : Int) / 8 = (q : Int) := by omega
   have d2 : (k : Int) % 8 = (r : Int) := by omega
   have d3 : (0 : Int) ≤ (s.size : Int) - 1 - k := by omega
   have d4 : (s.size : Int) - 1 - k < s.size := by omega
   have d5 : ((s.size : Int) - 1 - k).toNat = s.size - 1 - k := by omega
   have d6 : s.size - 1 - k < s.size := by omega
   have hqs : (q : Int) < ((s.size : Int) + 7) / 8 := by have := HZ.out.1; omega
   have hqs' : q < (s.size + 7) / 8 := by have := HZ.out.1; omega
   have hidx : ∀ W, (Instr.index 9 (.string s) (.int .i64 ((s.size : Int) - 1 - k))).run Tryz.prog W = .ok (.int .u8 ((Big.nth (Big.rev s.data.toList) k : Nat) : Int)) W := by
    intro W
    rw [run_index_string (P := Tryz.prog) W 9 s .i64 _ Tryz.underlying9, dif_pos ⟨d3, d4⟩, Big.rev_nth _ _ (by simpa using hkn)]
    refine congrArg (fun x => Result.ok (Value.int IntKind.u8 x) W) ?_
    have : ∀ i j (hi : i < s.size) (hj : j < s.data.toList.length), i = j → s[i] = s.data.toList[j] := by
     intro i j hi hj e; subst e; rfl
    exact congrArg (fun (c : UInt8) => ((c.toNat : Nat) : Int)) (this _ _ _ _ (by rw [d5]; simp))
   clear hq8 hr8
   go_wp2_with fail
   generalize hxq : Big.nth X q = xq at hst
   have HXQ := Lib.hid hxq
   clear hxq
   have hbk := (Big.rev_ok s.data.toList).nth (by omega) k
   generalize hnb : Big.nth (Big.rev s.data.toList) k = bk at hidx hbk
   have HNB := Lib.hid hnb
   have hxlt : xq < 256 ^ r := by
    have h1 := HZ.out.2 q hq
    rw [HXQ.out] at h1
    rw [h1]
    have h2 := Big.val_lt ((((Big.rev s.data.toList).take k).drop (8 * q)).take 8) (((Big.rev_ok _).take _).drop _ |>.take _)
    refine Nat.lt_of_lt_of_le h2 (Nat.pow_le_pow_right (by omega) ?_)
    have := HK.out
    simp [Big.rev_length]
    omega
   have HV := Lib.hid (show bits .or .u64 ((xq : Nat) : Int) (IntKind.u64.wrap (IntKind.u64.wrap ((bk : Nat) : Int) * 2 ^ (r * 8))) = ((xq + 256 ^ r * bk : Nat) : Int) by
    have b1 := Big.byte_bound hbk hr
    have w1 : IntKind.u64.wrap ((bk : Nat) : Int) = ((bk : Nat) : Int) := by rw [IntKind.wrap_u64]; omega
    have e1 : ((bk : Nat) : Int) * 2 ^ (r * 8) = ((bk * 2 ^ (r * 8) : Nat) : Int) := by rw [Int.natCast_mul, Int.natCast_pow]; rfl
    rw [w1, e1, IntKind.wrap_u64, Int.emod_eq_of_lt (by omega) (by omega), u64_or_nat _ _ ?_ b1, Big.or_byte hxlt]
    refine Nat.lt_of_lt_of_le hxlt ?_
    rw [Big.pow256]
    exact (Nat.pow_le_pow_right (by omega) (by omega : r * 8 ≤ 64)))
   have R := Big.byte_step (b := 256) (k := 8) (by omega) hr (X := X) (R := Big.rev s.data.toList) (q := q) (by rw [Big.rev_length]; have := HK.out; simp; omega) hq (by rw [← HK.out]; exact HZ.out.2)
   rw [HXQ.out, ← HK.out, HNB.out] at R
   have R1 := Lib.hid R
   have HB' := Lib.hid (HB.out.set q (xq + 256 ^ r * bk))
   clear hxlt hbk R hnb
   go_region
   rw [HV.out]
   go_wp2
   go_roundw
   case rel => exact ⟨k + 1, _, by omega, by go_num, Lib.hid ⟨by rw [List.length_set]; exact HZ.out.1, R1.out⟩, Lib.hid HB'.out, Lib.hid ((HBel.out.setCell (Nat.le_refl _) _).drew)⟩
   case measure => simp [intOf]; omega
  ·have hkl : k = s.size := by omega
   subst hkl
   go_wp2_with fail
   refine (trim_any _ _ X ?_).mono ?_
   ·have h1 := HB.out.wd0 ((s.size + 7) / 8) (by have := HZ.out.1; omega) (by omega)
    rw [HZ.out.1] at h1
    exact h1
   ·rintro e w' ⟨v', rfl, hv', rfl⟩
    have HV := Lib.hid hv'
    clear hv'
    go_wp2
    go_ret
    have hv := Big.regroup (C := Big.M64) (b := 256) (k := 8) Big.M64_pow X (Big.rev s.data.toList) (by rw [Big.rev_length, HZ.out.1]; simp; omega) (fun j hj => by
     have := HZ.out.2 j hj
     rwa [show (Big.rev s.data.toList).take s.size = Big.rev s.data.toList from List.take_of_length_le (by rw [Big.rev_length]; simp)] at this)
    have ho : Big.Ok Big.M64 X := by
     intro d hd
     obtain ⟨j, hj, rfl⟩ := List.getElem_of_mem hd
     have h1 := HZ.out.2 j hj
     have h2 : Big.nth X j = X[j] := by unfold Big.nth; rw [List.getD_eq_getElem?_getD, List.getElem?_eq_getElem hj]; rfl
     rw [← h2, h1, Big.M64_pow]
     have h3 := Big.val_lt ((((Big.rev s.data.toList).take s.size).drop (8 * j)).take 8) ((((Big.rev_ok _).take _).drop _).take _)
     refine Nat.lt_of_lt_of_le h3 (Nat.pow_le_pow_right (by omega) ?_)
     simp; omega
    exact ⟨v', rfl, ⟨Big.strip X, HV.out, Big.strip_ok ho, Big.strip_norm _, by rw [Big.strip_val]; exact hv⟩, HBel.out⟩
theorem Zhc (x : Nat) (hx : x < 18446744073709551616) (w : World) :
  Calls Tryz.prog 129 #[.int .u64 (x : Int)] w fun e w' => e = .returned (.int .i64 (64 - ((Lib.bitLen x : Nat) : Int))) ∧ w = w' :=
 (Tryz.bits_LeadingZeros64 (x : Int) w (by omega) (by omega)).mono fun _ _ ⟨h1, h2⟩ => ⟨by simpa using h1, h2.symm⟩
def lzn (x : Nat) : Nat := 64 - Lib.bitLen x
theorem UU (x : Nat) (hx : x < 18446744073709551616) (h0 : x ≠ 0) : 1 ≤ Lib.bitLen x ∧ Lib.bitLen x ≤ 64 ∧ 2 ^ (Lib.bitLen x - 1) ≤ x ∧ x < 2 ^ Lib.bitLen x := by
 have h := Lib.bitLenAux_bounds 64 x hx h0
 refine ⟨h.1, ?_, h.2.1, h.2.2⟩
 rcases Nat.lt_or_ge 64 (Lib.bitLen x) with hlt | hge
 ·have h1 : 2 ^ 64 ≤ 2 ^ (Lib.bitLen x - 1) := Nat.pow_le_pow_right (by omega) (by omega)
  have h2 : 2 ^ (Lib.bitLen x - 1) ≤ x := h.2.1
  omega
 ·exact hge
theorem Zc7 (x : Nat) (hx : x < 18446744073709551616) (h0 : x ≠ 0) : lzn x ≤ 63 ∧ 9223372036854775808 ≤ x * 2 ^ lzn x ∧ x * 2 ^ lzn x < 18446744073709551616 := by
 obtain ⟨h1, h2, h3, h4⟩ := UU x hx h0
 unfold lzn
 generalize Lib.bitLen x = b at *
 refine ⟨by omega, ?_, ?_⟩
 ·have : 2 ^ (b - 1) * 2 ^ (64 - b) ≤ x * 2 ^ (64 - b) := Nat.mul_le_mul_right _ h3
  rw [← Nat.pow_add, show b - 1 + (64 - b) = 63 by omega] at this
  exact this
 ·have : x * 2 ^ (64 - b) < 2 ^ b * 2 ^ (64 - b) := Nat.mul_lt_mul_of_pos_right h4 (Nat.pow_pos (by omega))
  rw [← Nat.pow_add, show b + (64 - b) = 64 by omega] at this
  exact this
theorem ZaC (x : Nat) (hx : x < 18446744073709551616) (h0 : x ≠ 0) (w : World) :
  Calls Tryz.prog 129 #[.int .u64 (x : Int)] w fun e w' => e = .returned (.int .i64 ((lzn x : Nat) : Int)) ∧ w = w' :=
 (Zhc x hx w).mono fun _ _ ⟨h1, h2⟩ => ⟨by rw [h1]; apply XN; have := UU x hx h0; unfold lzn; omega, h2⟩
theorem KR {l : List Nat} (h : Big.Norm l) (hne : l ≠ []) : ∃ r t, l = r ++ [t] ∧ t ≠ 0 := by
 refine ⟨l.dropLast, l.getLast hne, (List.dropLast_concat_getLast hne).symm, fun e => h ?_⟩
 rw [List.getLast?_eq_some_getLast hne, e]
theorem ZbQ (w : World) (v : Value) (n : Nat) (h : Zj w v n) (hn : n < Big.M64 ^ Big.KX) :
  Calls Tryz.prog 146 #[v] w fun e w' => ∃ s : Nat, e = .returned (.int .i64 (s : Int)) ∧ Big.IsSize n s ∧ w = w' := by
 obtain ⟨l, hw, ol, nl, rfl⟩ := h
 have hl := Yh nl hn
 rw [Big.KX_eq] at hl
 obtain ⟨A, c, rfl, h1, h2, h3⟩ := hw
 by_cases hne : l = []
 ·subst hne
  clear hn h3 nl ol
  go_enter Tryz.func146, Tryz.ntmps146
  go_wp2
  go_ret
  exact ⟨0, rfl, Big.isSize_zero, rfl⟩
 ·obtain ⟨r, t, rfl, ht0⟩ := KR nl hne
  have hlr : (r ++ [t]).length = r.length + 1 := by simp
  obtain ⟨b, o, rfl, hlt, hc, -⟩ := h3 (by omega)
  have hcell := hc r.length (by omega)
  have ent : Big.nth (r ++ [t]) r.length = t := by unfold Big.nth; rw [List.getD_eq_getElem?_getD, List.getElem?_append_right (Nat.le_refl _)]; simp
  rw [ent] at hcell
  have htM : t < 18446744073709551616 := by rw [← Big.M64_eq]; exact ol t (by simp)
  obtain ⟨b1, b2, b3, b4⟩ := UU t htM ht0
  have HS := Lib.hid (Big.isSize_top (b := Lib.bitLen t) (fun d hd => ol d (by simp [hd]) : Big.Ok Big.M64 r) b4 b3 b1 b2)
  have hc0 : (((r ++ [t]).length : Int) == 0) = false := beq_eq_false_iff_ne.2 (by omega)
  have CL := Lib.hid (Zhc t htM)
  rw [hlr] at h1 hl hc0 ⊢
  clear h3 hc hlr ent b3 b4 htM hne nl ol hn
  generalize Lib.bitLen t = bl at *
  generalize Big.val Big.M64 (r ++ [t]) = N at *
  generalize r.length = m at *
  have hc1 : ((m : Int) + 1 == 0) = false := beq_eq_false_iff_ne.2 (by omega)
  go_enter Tryz.func146, Tryz.ntmps146
  go_wp2_with (go_at_call 129; refine (CL.out _).mono ?_; rintro e w' ⟨rfl, rfl⟩)
  go_ret
  refine ⟨_, ?_, HS.out, rfl⟩
  apply XN
  omega
theorem Tryz.infoU8 : (Tryz.prog.info? 5).map (fun i => (i.zero, i.size, i.bytes)) = some (some (.int .u8 0), 1, 1) := by kernel_rfl
set_option maxRecDepth 100000 in
set_option maxHeartbeats 2000000 in
theorem bytes_any (w : World) (v : Value) (n : Nat) (h : Zj w v n) (hn : n < Big.M64 ^ Big.KL) :
  Calls Tryz.prog 115 #[v] w fun e w' => ∃ s : Nat, e = .returned (.string ⟨(Big.btext n s).toArray⟩) ∧ Big.IsSize n s ∧ Below w.heap.size w w' := by
 have CS := Lib.hid (ZbQ w v n h (Nat.lt_of_lt_of_le hn (Nat.pow_le_pow_right Big.M64_pos Big.KL_le)))
 obtain ⟨l, hw, ol, nl, hval⟩ := h
 have hl := Yh (K := Big.KL) nl (by rw [hval]; exact hn)
 rw [Big.KL_eq] at hl
 have HW := Lib.hid hw; have OL := Lib.hid ol; have NL := Lib.hid nl; have HVAL := Lib.hid hval
 have HN := Lib.hid hn
 obtain ⟨A, c, rfl, -, -, -⟩ := hw
 obtain ⟨i0, hi, hz0, hz1, hz2⟩ := info_parts Tryz.infoU8
 clear ol nl hval hn
 go_enter Tryz.func115, Tryz.ntmps115
 go_wp2_with fail
 refine CS.out.mono ?_
 rintro e w1 ⟨sz, rfl, hsz, rfl⟩
 have HSZ := Lib.hid hsz
 have hsb : sz ≤ 800000000 := by
  rcases Nat.lt_or_ge 800000000 sz with hlt | hge
  ·have h1 := hsz.2 (by omega)
   have h2 := HN.out
   rw [Big.M64_pow, ← Nat.pow_mul] at h2
   have h3 : 256 ^ (8 * Big.KL) ≤ 256 ^ (sz - 1) := Nat.pow_le_pow_right (by omega) (by have := Big.KL_eq; omega)
   omega
  ·exact hge
 have hmk := fun W => ZZ (P := Tryz.prog) Tryz.underlying121 hi hz0 hz1 (by rw [hz2]; omega) .i64 .i64 sz sz (Nat.le_refl _) (by omega) W
 have HB1 := Lib.hid (Blk.new w 5 .u8 (List.replicate sz 0))
 have HBel1 := Lib.hid ((Below.refl w.heap.size w).alloc (Nat.le_refl _) (.cells (cellsOf .u8 (List.replicate sz 0)) 5))
 clear hsz
 go_wp2_with fail
 clear hmk
 go_loopw [10] (fun i wr => ∃ (k : Nat), k ≤ sz ∧ i = .int .i64 k ∧
   Hid (Blk wr w.heap.size 5 .u8 (List.replicate (sz - k) 0 ++ (Big.bd n k).reverse)) ∧ Hid (Below w.heap.size w wr))
  (fun i _ => sz - (intOf i).toNat)
 case atStart => exact ⟨0, by omega, rfl, Lib.hid (by simpa [Big.bd] using HB1.out), HBel1⟩
 case round =>
  obtain ⟨k, hk, rfl, HB, HBel⟩ := hrel
  by_cases hkn : k < sz
  ·obtain ⟨q, hq8⟩ : ∃ q, k / 8 = q := ⟨_, rfl⟩
   obtain ⟨r, hr8⟩ : ∃ r, k % 8 = r := ⟨_, rfl⟩
   have hr : r < 8 := by omega
   have hkq : k = 8 * q + r := by omega
   have hq : q < l.length := by
    rcases Nat.lt_or_ge q l.length with h1 | h1
    ·exact h1
    ·exfalso
     have h2 := HSZ.out.2 (by omega)
     have h3 := Big.val_lt l OL.out
     rw [HVAL.out, Big.M64_pow, ← Nat.pow_mul] at h3
     have h4 : 256 ^ (8 * l.length) ≤ 256 ^ (sz - 1) := Nat.pow_le_pow_right (by omega) (by omega)
     omega
   have hX := HW.out
   obtain ⟨A', c', e, x1, x2, x3⟩ := hX
   cases e
   obtain ⟨b, o, rfl, hblt, hcc, -⟩ := x3 (by omega)
   have hcell := (HBel.out.cell (p := ⟨b, o + q, none⟩) hblt).trans (hcc q hq)
   have hlen : (List.replicate (sz - k) 0 ++ (Big.bd n k).reverse).length = sz := by simp [Big.bd_length]; omega
   have hst := HB.out.cell (sz - 1 - k) (by omega)
   have hfr := HB.out.frozen (sz - 1 - k)
   have d1 : (k : Int) / 8 = (q : Int) := by omega
   have d2 : (k : Int) % 8 = (r : Int) := by omega
   have d3 : (0 : Int) ≤ (sz : Int) - 1 - k := by omega
   have d4 : (sz : Int) - 1 - k < sz := by omega
   have d5 : ((sz : Int) - 1 - k).toNat = sz - 1 - k := by omega
   have hql : (q : Int) < (l.length : Int) := by omega
   have ev := Big.nth_div Big.M64_pos l OL.out q
   rw [HVAL.out] at ev
   have hxm : Big.nth l q < 18446744073709551616 := by rw [← Big.M64_eq]; exact OL.out.nth Big.M64_pos q
   generalize Big.nth l q = xq at hcell ev hxm
   have HV := Lib.hid (show ((xq : Nat) : Int) / 2 ^ (r * 8) % 256 = ((n / 256 ^ k % 256 : Nat) : Int) by
    rw [hkq, ← Big.byte_div n q r hr, ← ev]
    rw [show ((2 : Int) ^ (r * 8)) = ((2 ^ (r * 8) : Nat) : Int) by rw [Int.natCast_pow]; rfl]
    omega)
   have HB' := Lib.hid (HB.out.set (sz - 1 - k) (n / 256 ^ k % 256))
   clear hq8 hr8 hlen x3 hcc ev hkq
   go_wp2_with fail
   rw [HV.out]
   refine ⟨⟨k + 1, by omega, by go_num, Lib.hid ?_, Lib.hid (HBel.out.setCell (Nat.le_refl _) _)⟩, by simp [intOf]; omega⟩
   have := HB'.out
   rw [Big.bd_set n k sz hkn] at this
   exact this
  ·have hkl : k = sz := by omega
   subst hkl
   have hB := HB.out
   rw [Nat.sub_self, List.replicate_zero, List.nil_append] at hB
   have hcv := run_convert_bytes_back (P := Tryz.prog) wr 121 9 5 ⟨w.heap.size, 0, none⟩ k (Big.btext n k) Tryz.underlying121 Tryz.underlying5 Tryz.underlying9 (fun j hj => by
    have hj' : j < k := by simpa [Big.btext_length] using hj
    have h1 := hB.cell j (by simpa [Big.bd_length] using hj')
    have ha : (⟨w.heap.size, 0, none⟩ : Addr).add j = ⟨w.heap.size, j, none⟩ := by unfold Addr.add; split <;> simp_all
    rw [ha, h1]
    rw [Big.btext_get n k j hj])
   rw [Big.btext_length] at hcv
   clear hB
   go_wp2
   go_ret
   exact ⟨k, rfl, HSZ.out, HBel.out⟩
end Go.Proofs.YtnlhjcfpfapafaaGreatDoor
namespace Go.Proofs.YtnlhjcfpfapafaaGreatDoor
namespace Big
structure Dig (B U Y y1 v q r : Nat) : Prop where
 eq : q * y1 + r = U
 ge : (U * B + v) / Y ≤ q
theorem Dig.start {B U Y y1 y0 v : Nat} (hY : Y = y1 * B + y0) (hv : v < B) (hy1 : 0 < y1) (hB : 0 < B) : Dig B U Y y1 v (U / y1) (U % y1) := by
 refine ⟨by rw [Nat.mul_comm]; exact Nat.div_add_mod U y1, ?_⟩
 have h : (U * B + v) / Y * Y ≤ U * B + v := Nat.div_mul_le_self _ _
 exact guess_div (P := B) (X := U * B + v) (Y := Y) rfl hv hY h hy1
theorem Dig.too_great {B U Y y1 y0 v q r : Nat} (h : Dig B U Y y1 v q r) (hY : Y = y1 * B + y0) (hB : 0 < B) (hy1 : 0 < y1) (ht : B * r + v < q * y0) : (U * B + v) / Y ≤ q - 1 := by
 have hYp : 0 < Y := by rw [hY]; have : 0 < y1 * B := Nat.mul_pos hy1 hB; omega
 have h1 : U * B + v < q * Y := by
  rw [hY, Nat.mul_add, ← Nat.mul_assoc, ← h.eq, Nat.add_mul, Nat.mul_comm r B]; omega
 have h2 := (Nat.div_lt_iff_lt_mul hYp).2 h1
 omega
theorem Dig.just {B U Y y1 y0 v q r : Nat} (h : Dig B U Y y1 v q r) (hY : Y = y1 * B + y0) (hYp : 0 < Y) (ht : q * y0 ≤ B * r + v) : (U * B + v) / Y = q := by
 have h1 : q * Y ≤ U * B + v := by
  rw [hY, Nat.mul_add, ← Nat.mul_assoc, ← h.eq, Nat.add_mul, Nat.mul_comm r B]; omega
 have h2 := (Nat.le_div_iff_mul_le hYp).2 h1
 have := h.ge
 omega
theorem Dig.less {B U Y y1 v q r : Nat} (h : Dig B U Y y1 v q r) (hq : 0 < q) (ht : (U * B + v) / Y ≤ q - 1) : Dig B U Y y1 v (q - 1) (r + y1) := by
 refine ⟨?_, ht⟩
 have := h.eq
 have e : q * y1 = (q - 1) * y1 + y1 := by
  conv => lhs; rw [show q = q - 1 + 1 by omega]
  rw [Nat.add_mul, Nat.one_mul]
 omega
theorem Dig.broke {B U Y y1 y0 v q r : Nat} (h : Dig B U Y y1 v q r) (hY : Y = y1 * B + y0) (hYp : 0 < Y) (hy0 : y0 < B) (hq : q ≤ B) (hr : B ≤ r) : (U * B + v) / Y = q := by
 apply h.just hY hYp
 have h1 : q * y0 ≤ B * B := Nat.mul_le_mul hq (by omega)
 have h2 : B * B ≤ B * r := Nat.mul_le_mul_left B hr
 omega
theorem digit_lt {B U Y v : Nat} (hv : v < B) (hU : U < Y) : (U * B + v) / Y < B := by
 rw [Nat.div_lt_iff_lt_mul (by omega)]
 have : (U + 1) * B ≤ Y * B := Nat.mul_le_mul_right B hU
 rw [Nat.add_mul] at this
 rw [Nat.mul_comm B Y]; omega
theorem two_digits {B U Y v1 v0 : Nat} (hB : 0 < B) (hY : 0 < Y) (h0 : v0 < B) :
  (U * (B * B) + (v1 * B + v0)) / Y = (U * B + v1) / Y * B + ((U * B + v1) % Y * B + v0) / Y ∧ (U * (B * B) + (v1 * B + v0)) % Y = ((U * B + v1) % Y * B + v0) % Y := by
 have e : U * (B * B) + (v1 * B + v0) = Y * ((U * B + v1) / Y * B) + ((U * B + v1) % Y * B + v0) := by
  have h := Nat.div_add_mod (U * B + v1) Y
  have h2 : (Y * ((U * B + v1) / Y) + (U * B + v1) % Y) * B = (U * B + v1) * B := by rw [h]
  rw [Nat.add_mul, Nat.add_mul, Nat.mul_assoc Y, Nat.mul_assoc U] at h2
  omega
 rw [e]
 constructor
 ·rw [Nat.mul_add_div hY]
 ·rw [Nat.mul_add_mod]
theorem norm_shift {hi lo s : Nat} (hs : s ≤ 64) (hhi : hi * 2 ^ s < 18446744073709551616) (hlo : lo < 18446744073709551616) :
  hi * 2 ^ s ||| lo / 2 ^ (64 - s) = hi * 2 ^ s + lo / 2 ^ (64 - s) ∧ hi * 2 ^ s + lo / 2 ^ (64 - s) < 18446744073709551616 + 2 ^ s ∧
   (hi * 18446744073709551616 + lo) * 2 ^ s = (hi * 2 ^ s + lo / 2 ^ (64 - s)) * 18446744073709551616 + lo * 2 ^ s % 18446744073709551616 := by
 have e64 : (18446744073709551616 : Nat) = 2 ^ s * 2 ^ (64 - s) := by rw [← Nat.pow_add, show s + (64 - s) = 64 by omega]
 have h1 : lo / 2 ^ (64 - s) < 2 ^ s := by
  rw [Nat.div_lt_iff_lt_mul (Nat.pow_pos (by omega)), ← e64]; exact hlo
 refine ⟨?_, by omega, ?_⟩
 ·rw [← Nat.shiftLeft_eq, ← Nat.shiftLeft_add_eq_or_of_lt h1, Nat.shiftLeft_eq]
 ·have h2 : lo * 2 ^ s / 18446744073709551616 = lo / 2 ^ (64 - s) := by
   rw [e64, Nat.mul_comm lo, Nat.mul_div_mul_left _ _ (Nat.pow_pos (by omega))]
  have h3 := Nat.div_add_mod (lo * 2 ^ s) 18446744073709551616
  rw [h2] at h3
  rw [Nat.add_mul, Nat.add_mul, Nat.mul_right_comm]
  omega
theorem shift_div {X y s : Nat} : X * 2 ^ s / (y * 2 ^ s) = X / y ∧ X * 2 ^ s % (y * 2 ^ s) = X % y * 2 ^ s :=
 ⟨Nat.mul_div_mul_right _ _ (Nat.pow_pos (by omega)), Nat.mul_mod_mul_right _ _ _⟩
end Big
end Go.Proofs.YtnlhjcfpfapafaaGreatDoor
namespace Go.Proofs.YtnlhjcfpfapafaaGreatDoor
open Go.RowKit
set_option maxRecDepth 100000 in
set_option maxHeartbeats 2000000 in
theorem Zc8 (lo y : Nat) (hlo : lo < 18446744073709551616) (hy : y < 18446744073709551616) (h0 : 0 < y) (w : World) :
  Calls Tryz.prog 135 #[.int .u64 0, .int .u64 (lo : Int), .int .u64 (y : Int)] w fun e w' =>
   e = .returned (.tuple #[.int .u64 ((lo / y : Nat) : Int), .int .u64 ((lo % y : Nat) : Int)]) ∧ Zv w w' := by
 have t0 : ((y : Int) == 0) = false := beq_eq_false_iff_ne.2 (by omega)
 have t1 : ¬ ((y : Int) ≤ 0) := by omega
 have e1 : IntKind.u64.wrap ((lo : Int) / (y : Int)) = ((lo / y : Nat) : Int) := by
  have : lo / y ≤ lo := Nat.div_le_self _ _
  rw [← Int.natCast_ediv, IntKind.wrap_u64]
  generalize lo / y = q at *
  omega
 have H1 := Lib.hid e1
 clear e1
 go_enter Tryz.func135, Tryz.ntmps135
 go_wp2_with fail
 go_quiet (fail)
 rw [H1.out]
 go_wp2
 go_ret2
 exact ⟨rfl, (Zv.refl _).drewN _⟩
theorem Z1 (n : Nat) (h : n < 18446744073709551616) : IntKind.u64.wrap ((n : Nat) : Int) = ((n : Nat) : Int) := by rw [IntKind.wrap_u64]; omega
theorem Jo (n s : Nat) : IntKind.u64.wrap ((n : Int) * 2 ^ s) = ((n * 2 ^ s % 18446744073709551616 : Nat) : Int) := by
 rw [show ((2 : Int) ^ s) = ((2 ^ s : Nat) : Int) by rw [Int.natCast_pow]; rfl, ← Int.natCast_mul, IntKind.wrap_u64]; omega
theorem divS (n s : Nat) : ((n : Nat) : Int) / 2 ^ s = ((n / 2 ^ s : Nat) : Int) := by
 rw [show ((2 : Int) ^ s) = ((2 ^ s : Nat) : Int) by rw [Int.natCast_pow]; rfl, Int.natCast_ediv]
theorem ZlT (n : Nat) (h : n < 18446744073709551616) : bits .and .u64 ((n : Nat) : Int) 4294967295 = ((n % 4294967296 : Nat) : Int) := by
 have h1 := u64_and_nat n 4294967295 h (by omega)
 rw [show n &&& 4294967295 = n % 4294967296 from Nat.and_two_pow_sub_one_eq_mod n 32] at h1
 exact h1
theorem Xh {U Y v p : Nat} (hU : U < Y) (hY2 : Y < 18446744073709551616) (hE : (U * 4294967296 + v) / Y = p) :
  IntKind.u64.wrap (IntKind.u64.wrap (IntKind.u64.wrap (((U : Nat) : Int) * 4294967296) + ((v : Nat) : Int)) - IntKind.u64.wrap (((p : Nat) : Int) * ((Y : Nat) : Int))) = (((U * 4294967296 + v) % Y : Nat) : Int) := by
 have h := Nat.div_add_mod (U * 4294967296 + v) Y
 rw [hE, Nat.mul_comm] at h
 have h2 : (U * 4294967296 + v) % Y < Y := Nat.mod_lt _ (by omega)
 simp only [IntKind.wrap_u64]
 rw [← Int.natCast_mul p Y]
 generalize p * Y = Z at *
 generalize (U * 4294967296 + v) % Y = R at *
 omega
theorem Zc9 {U y1 : Nat} (hU : U < 18446744073709551616) : IntKind.u64.wrap (((U : Nat) : Int).tdiv ((y1 : Nat) : Int)) = ((U / y1 : Nat) : Int) := by
 rw [Int.tdiv_eq_ediv_of_nonneg (by omega), ← Int.natCast_ediv]
 exact Z1 _ (Nat.lt_of_le_of_lt (Nat.div_le_self _ _) hU)
theorem ZaD {U y1 : Nat} (hU : U < 18446744073709551616) : IntKind.u64.wrap (((U : Nat) : Int) / ((y1 : Nat) : Int)) = ((U / y1 : Nat) : Int) := by
 rw [← Int.natCast_ediv]
 exact Z1 _ (Nat.lt_of_le_of_lt (Nat.div_le_self _ _) hU)
theorem ZaE {U y1 : Nat} (hU : U < 18446744073709551616) : IntKind.u64.wrap (((U : Nat) : Int) - IntKind.u64.wrap (((U / y1 : Nat) : Int) * ((y1 : Nat) : Int))) = ((U % y1 : Nat) : Int) := by
 have h := Nat.div_add_mod U y1
 rw [Nat.mul_comm] at h
 simp only [IntKind.wrap_u64]
 rw [← Int.natCast_mul]
 generalize U / y1 * y1 = Z at *
 generalize U % y1 = R at *
 omega
theorem Wt {QD RD s U V Y R v1 v0 p1 p : Nat} (hUY : U < Y) (hQ : QD < 18446744073709551616) (hr : (U * 18446744073709551616 + V) / Y = QD ∧ (U * 18446744073709551616 + V) % Y = RD * 2 ^ s) (dV : V = v1 * 4294967296 + v0)
  (b0 : v0 < 4294967296) (h1 : (U * 4294967296 + v1) / Y = p1) (hR : (U * 4294967296 + v1) % Y = R) (h2 : (R * 4294967296 + v0) / Y = p) :
  IntKind.u64.wrap (IntKind.u64.wrap (((p1 : Nat) : Int) * 4294967296) + ((p : Nat) : Int)) = ((QD : Nat) : Int) ∧ IntKind.u64.wrap (((p1 : Nat) : Int) * 4294967296 + ((p : Nat) : Int)) = ((QD : Nat) : Int) ∧
   ((p1 : Nat) : Int) * 4294967296 + ((p : Nat) : Int) = ((QD : Nat) : Int) ∧
   (((R : Nat) : Int) * 4294967296 + ((v0 : Nat) : Int)) % ((Y : Nat) : Int) / 2 ^ s = ((RD : Nat) : Int) := by
 have hY : 0 < Y := by omega
 obtain ⟨t1, t2⟩ := Big.two_digits (B := 4294967296) (U := U) (v1 := v1) (v0 := v0) (by omega) hY b0
 have eV : U * (4294967296 * 4294967296) + (v1 * 4294967296 + v0) = U * 18446744073709551616 + V := by rw [dV]
 rw [eV, h1, hR, h2] at t1
 rw [eV, hR] at t2
 rw [hr.1] at t1
 refine ⟨?_, ?_, by omega, ?_⟩
 ·simp only [IntKind.wrap_u64]
  omega
 ·simp only [IntKind.wrap_u64]
  omega
 ·rw [hr.2] at t2
  rw [show (((R : Nat) : Int) * 4294967296 + ((v0 : Nat) : Int)) = ((R * 4294967296 + v0 : Nat) : Int) by omega, ← Int.natCast_emod, ← t2, divS]
  rw [Nat.mul_div_cancel _ (Nat.pow_pos (by omega))]
theorem Zda {U Y y1 y0 : Nat} (hY : Y = y1 * 4294967296 + y0) (hU : U < Y) (h0 : y0 < 4294967296) (h1 : 2147483648 ≤ y1) : U / y1 ≤ 4294967297 := by
 have : U / y1 < 4294967298 := by
  rw [Nat.div_lt_iff_lt_mul (by omega)]
  omega
 omega
set_option maxRecDepth 100000 in
set_option maxHeartbeats 4000000 in
theorem ZfC (hi lo y : Nat) (hhi : hi < y) (hlo : lo < 18446744073709551616) (hy : y < 18446744073709551616) (h0 : 0 < hi) (w : World) :
  Calls Tryz.prog 135 #[.int .u64 (hi : Int), .int .u64 (lo : Int), .int .u64 (y : Int)] w fun e w' =>
   e = .returned (.tuple #[.int .u64 (((hi * 18446744073709551616 + lo) / y : Nat) : Int), .int .u64 (((hi * 18446744073709551616 + lo) % y : Nat) : Int)]) ∧ Zv w w' := by
 have t0 : ((y : Int) == 0) = false := beq_eq_false_iff_ne.2 (by omega)
 have t1 : ¬ ((y : Int) ≤ hi) := by omega
 have t2 : ((hi : Int) == 0) = false := beq_eq_false_iff_ne.2 (by omega)
 have CL := Lib.hid (ZaC y hy (by omega))
 obtain ⟨l1, l2, l3⟩ := Zc7 y hy (by omega)
 generalize hs : lzn y = s at *
 have l1' : ((s : Nat) : Int) ≤ 63 := by omega
 -- the names of what the text works out
 have hhs : hi * 2 ^ s < y * 2 ^ s := Nat.mul_lt_mul_of_pos_right hhi (Nat.pow_pos (by omega))
 obtain ⟨n1, n2, n3⟩ := Big.norm_shift (hi := hi) (lo := lo) (s := s) (by omega) (by omega) hlo
 have eY := Jo y s
 rw [Nat.mod_eq_of_lt l3] at eY
 have eH := Jo hi s
 rw [Nat.mod_eq_of_lt (by omega)] at eH
 have eL := divS lo (64 - s)
 have eV := Jo lo s
 have hr := Big.shift_div (X := hi * 18446744073709551616 + lo) (y := y) (s := s)
 have hVlt : lo * 2 ^ s % 18446744073709551616 < 18446744073709551616 := Nat.mod_lt _ (by omega)
 have hUY : hi * 2 ^ s + lo / 2 ^ (64 - s) < y * 2 ^ s := by
  have h1 : lo / 2 ^ (64 - s) < 2 ^ s := by
   rw [Nat.div_lt_iff_lt_mul (Nat.pow_pos (by omega)), ← Nat.pow_add, show s + (64 - s) = 64 by omega]; exact hlo
  have h2 : (hi + 1) * 2 ^ s ≤ y * 2 ^ s := Nat.mul_le_mul_right _ hhi
  rw [Nat.add_mul] at h2
  omega
 rw [n3] at hr
 have hQD : (hi * 18446744073709551616 + lo) / y < 18446744073709551616 := by
  rw [Nat.div_lt_iff_lt_mul (by omega)]
  have h2 : (hi + 1) * 18446744073709551616 ≤ y * 18446744073709551616 := Nat.mul_le_mul_right _ hhi
  omega
 obtain ⟨QD, hqd⟩ : ∃ q, (hi * 18446744073709551616 + lo) / y = q := ⟨_, rfl⟩
 obtain ⟨RD, hrd⟩ : ∃ q, (hi * 18446744073709551616 + lo) % y = q := ⟨_, rfl⟩
 rw [hqd] at hr hQD
 rw [hrd] at hr
 rw [hqd, hrd]
 have HQD := Lib.hid hQD
 clear n3 hQD hqd hrd
 have eU := u64_or_nat (hi * 2 ^ s) (lo / 2 ^ (64 - s)) (by omega) (by omega)
 rw [n1] at eU
 generalize hVV : lo * 2 ^ s % 18446744073709551616 = V at *
 generalize hLL : lo / 2 ^ (64 - s) = L at *
 generalize hHH : hi * 2 ^ s = H at *
 generalize hYY : y * 2 ^ s = Y at *
 generalize hUU : H + L = U at *
 have hx2 : ((2 : Int) ^ s) = ((2 ^ s : Nat) : Int) := by rw [Int.natCast_pow]; rfl
 have eY1 : ((Y : Nat) : Int) / 4294967296 = ((Y / 4294967296 : Nat) : Int) := by omega
 have eY0 := ZlT Y l3
 have eV1 : ((V : Nat) : Int) / 4294967296 = ((V / 4294967296 : Nat) : Int) := by omega
 have eV0 := ZlT V hVlt
 have dY : Y = Y / 4294967296 * 4294967296 + Y % 4294967296 := by omega
 have dV : V = V / 4294967296 * 4294967296 + V % 4294967296 := by omega
 have by1 : 2147483648 ≤ Y / 4294967296 ∧ Y / 4294967296 < 4294967296 := by omega
 have by0 : Y % 4294967296 < 4294967296 := Nat.mod_lt _ (by omega)
 have bv1 : V / 4294967296 < 4294967296 := by omega
 have bv0 : V % 4294967296 < 4294967296 := Nat.mod_lt _ (by omega)
 generalize Y / 4294967296 = y1 at *
 generalize Y % 4294967296 = y0 at *
 generalize V / 4294967296 = v1 at *
 generalize V % 4294967296 = v0 at *
 have z1 : (((y1 : Nat) : Int) == 0) = false := beq_eq_false_iff_ne.2 (by omega)
 have hq0 : U / y1 ≤ 4294967297 := by
  have : U / y1 < 4294967298 := by
   rw [Nat.div_lt_iff_lt_mul (by omega)]
   omega
  omega
 have eQ : IntKind.u64.wrap (((U : Nat) : Int).tdiv ((y1 : Nat) : Int)) = ((U / y1 : Nat) : Int) := by
  rw [Int.tdiv_eq_ediv_of_nonneg (by omega), ← Int.natCast_ediv]
  exact Z1 _ (by omega)
 have eQ' : IntKind.u64.wrap (((U : Nat) : Int) / ((y1 : Nat) : Int)) = ((U / y1 : Nat) : Int) := by
  rw [← Int.natCast_ediv]
  exact Z1 _ (by omega)
 have hD := Big.Dig.start (U := U) (v := v1) dY bv1 (by omega) (by omega)
 generalize hq1 : U / y1 = q1 at *
 have hm1 : q1 * y1 ≤ U := by rw [← hq1]; exact Nat.div_mul_le_self _ _
 have eP : IntKind.u64.wrap (((q1 : Nat) : Int) * ((y1 : Nat) : Int)) = ((q1 * y1 : Nat) : Int) := by
  rw [← Int.natCast_mul]; exact Z1 _ (by omega)
 have hmod := Nat.div_add_mod U y1
 have eR : IntKind.u64.wrap (((U : Nat) : Int) - ((q1 : Nat) : Int) * ((y1 : Nat) : Int)) = ((U % y1 : Nat) : Int) := by
  rw [← Int.natCast_mul]
  rw [hq1, Nat.mul_comm] at hmod
  rw [IntKind.wrap_u64]
  omega
 have hr1 : U % y1 < y1 := Nat.mod_lt _ (by omega)
 generalize U % y1 = r1 at *
 have HH := Lib.hid (And.intro hUY (And.intro hr (And.intro dY (And.intro dV (And.intro by1 (And.intro by0 (And.intro bv1 (And.intro bv0 (And.intro hD (And.intro hq0 (And.intro hr1 hYY)))))))))))
 have HS := Lib.hid hs
 have z0 : ¬ (y1 = 0) := by omega
 have L2 := Lib.hid l2; have L3 := Lib.hid l3
 clear hUY hr dY dV by1 by0 bv1 bv0 hD hq0 hr1 hYY l1 hVV hVlt hLL hHH l2 l3 hhs hUU n1 n2 hx2 hq1 hm1 hmod hhi hs hlo hy h0
 go_enter Tryz.func135, Tryz.ntmps135
 go_wp2_with fail
 refine (CL.out _).mono ?_
 rintro e w' ⟨rfl, rfl⟩
 go_wp2_with fail
 clear eY eH eL eV eU eY1 eY0 eV1 eV0 eQ eQ' eP eR CL t1 t2 t0
 go_loop [15, 16] (fun a b => ∃ q r : Nat, a = .int .u64 (q : Int) ∧ b = .int .u64 (r : Int) ∧ Hid (Big.Dig 4294967296 U Y y1 v1 q r) ∧ Hid (q ≤ 4294967297 ∧ r < 4294967296)) (fun a _ => (intOf a).toNat)
 case atStart => exact ⟨q1, r1, rfl, rfl, Lib.hid HH.out.2.2.2.2.2.2.2.2.1, Lib.hid ⟨HH.out.2.2.2.2.2.2.2.2.2.1, by have := HH.out; omega⟩⟩
 case round =>
  obtain ⟨q, r, rfl, rfl, HD, HQ⟩ := hrel
  obtain ⟨hUY, hr, dY, dV, by1, by0, bv1, bv0, -, -, -, -⟩ := HH.out
  have hYp : 0 < Y := by omega
  have hqr := HQ.out
  have hlt := Big.digit_lt bv1 hUY
  by_cases hA : 4294967296 ≤ q
  ·have HD' := HD.out.less (by omega) (by omega)
   have hA' : (4294967296 : Int) ≤ ((q : Nat) : Int) := by omega
   have hpq : ((q : Nat) : Int) - 1 = ((q - 1 : Nat) : Int) := by omega
   have hp1 : q - 1 ≤ 4294967296 := by omega
   have hp2 : q - 1 < q := by omega
   generalize q - 1 = p at *
   have hwp := Z1 p (by omega)
   have HP1 := Lib.hid hp1; have HP2 := Lib.hid hp2
   have HL := Lib.hid HD'
   have hy1b : ((y1 : Nat) : Int) < 4294967296 := by omega
   have hrb : ((r : Nat) : Int) < 4294967296 := by omega
   by_cases hB : 4294967296 ≤ r + y1
   ·have hB' : (4294967296 : Int) ≤ ((r : Nat) : Int) + ((y1 : Nat) : Int) := by omega
    have HE := Lib.hid (HD'.broke dY hYp by0 (by omega) hB)
    clear HD' hp1 hp2 hUY dY dV by1 by0 bv1 bv0 hqr hlt hYp hA hB
    have ee := Xh (v := v1) HH.out.1 L3.out HE.out
    have hRY : (U * 4294967296 + v1) % Y < Y := Nat.mod_lt _ (by have := L2.out; omega)
    obtain ⟨R, hR⟩ : ∃ R, (U * 4294967296 + v1) % Y = R := ⟨_, rfl⟩
    rw [hR] at ee hRY
    have hRM : R < 18446744073709551616 := by have := L3.out; omega
    have eq0 := Zc9 (y1 := y1) hRM
    have eq0' := ZaD (y1 := y1) hRM
    have er0 := ZaE (y1 := y1) hRM
    have hD2 := Big.Dig.start (U := R) (v := v0) HH.out.2.2.1 HH.out.2.2.2.2.2.2.2.1 (by have := HH.out.2.2.2.2.1; omega) (by omega)
    have hb2 := Zda HH.out.2.2.1 hRY HH.out.2.2.2.2.2.1 HH.out.2.2.2.2.1.1
    have hr2 : R % y1 < y1 := Nat.mod_lt _ (by have := HH.out.2.2.2.2.1; omega)
    obtain ⟨q2, hq2⟩ : ∃ q, R / y1 = q := ⟨_, rfl⟩
    rw [hq2] at eq0 eq0' er0 hD2 hb2
    obtain ⟨r2, hr2'⟩ : ∃ r, R % y1 = r := ⟨_, rfl⟩
    rw [hr2'] at er0 hD2 hr2
    have HR := Lib.hid (And.intro hR (And.intro hRY (And.intro hD2 (And.intro hb2 (And.intro hr2 HE.out)))))
    clear hR hRY hD2 hb2 hr2 hRM hq2 hr2' HE
    go_wp2_with fail
    clear ee eq0 eq0' er0
    go_loop [16, 18] (fun b a => ∃ q r : Nat, a = .int .u64 (q : Int) ∧ b = .int .u64 (r : Int) ∧ Hid (Big.Dig 4294967296 R Y y1 v0 q r) ∧ Hid (q ≤ 4294967297 ∧ r < 4294967296)) (fun _ a => (intOf a).toNat)
    case atStart => exact ⟨q2, r2, rfl, rfl, Lib.hid HR.out.2.2.1, Lib.hid ⟨HR.out.2.2.2.1, by have := HR.out.2.2.2.2.1; have := HH.out.2.2.2.2.1.2; omega⟩⟩
    case round =>
     obtain ⟨q, r, rfl, rfl, HD, HQ⟩ := hrel
     obtain ⟨-, -, dY, dV, by1, by0, bv1, bv0, -, -, -, -⟩ := HH.out
     have hYp : 0 < Y := by omega
     have hUY := HR.out.2.1
     have hqr := HQ.out
     have hlt := Big.digit_lt bv0 hUY
     by_cases hA : 4294967296 ≤ q
     ·have HD' := HD.out.less (by omega) (by omega)
      have hA' : (4294967296 : Int) ≤ ((q : Nat) : Int) := by omega
      have hpq : ((q : Nat) : Int) - 1 = ((q - 1 : Nat) : Int) := by omega
      have hp1 : q - 1 ≤ 4294967296 := by omega
      have hp2 : q - 1 < q := by omega
      generalize q - 1 = p at *
      have hwp := Z1 p (by omega)
      have HP1 := Lib.hid hp1; have HP2 := Lib.hid hp2
      have HL := Lib.hid HD'
      have hy1b : ((y1 : Nat) : Int) < 4294967296 := by omega
      have hrb : ((r : Nat) : Int) < 4294967296 := by omega
      by_cases hB : 4294967296 ≤ r + y1
      ·have hB' : (4294967296 : Int) ≤ ((r : Nat) : Int) + ((y1 : Nat) : Int) := by omega
       have HE := Lib.hid (HD'.broke dY hYp by0 (by omega) hB)
       clear HD' hp1 hp2 hUY dY dV by1 by0 bv1 bv0 hqr hlt hYp hA hB
       have ef := Xh (v := v0) HR.out.2.1 L3.out HE.out
       go_wp2_with fail
       go_ret2
       have F := Wt HH.out.1 HQD.out HH.out.2.1 HH.out.2.2.2.1 HH.out.2.2.2.2.2.2.2.1 HR.out.2.2.2.2.2 HR.out.1 HE.out
       refine ⟨?_, Zv.refl _⟩
       show Ending.returned (.tuple #[.int .u64 _, .int .u64 _]) = _
       first | rw [F.1, F.2.2.2] | rw [F.2.1, F.2.2.2] | rw [F.2.2.1, F.2.2.2]
      ·have hB' : ¬ ((4294967296 : Int) ≤ ((r : Nat) : Int) + ((y1 : Nat) : Int)) := by omega
       have HB2 := Lib.hid hB
       clear HD' hp1 hp2 hUY dY dV by1 by0 bv1 bv0 hqr hlt hYp hA hB
       go_wp2_with fail
       go_round
       case rel => exact ⟨p, r + y1, by simp [hwp], by simp, HL, Lib.hid ⟨by have := HP1.out; omega, by have := HB2.out; omega⟩⟩
       case measure => simp [intOf, hwp]; exact HP2.out
     ·have hA' : ¬ ((4294967296 : Int) ≤ ((q : Nat) : Int)) := by omega
      have eqy : IntKind.u64.wrap (((q : Nat) : Int) * ((y0 : Nat) : Int)) = ((q * y0 : Nat) : Int) := by
       rw [← Int.natCast_mul]
       have : q * y0 ≤ 4294967295 * 4294967295 := Nat.mul_le_mul (by omega) (by omega)
       exact Z1 _ (by omega)
      have hqb : ((q : Nat) : Int) < 4294967296 := by omega
      have hrb' : ((r : Nat) : Int) < 4294967296 := by omega
      have hvb : ((v0 : Nat) : Int) < 4294967296 := by omega
      by_cases hC : 4294967296 * r + v0 < q * y0
      ·have hq0 : 0 < q := by rcases Nat.eq_zero_or_pos q with h0 | h0; subst h0; simp at hC; exact h0
       have HD' := HD.out.less hq0 (HD.out.too_great dY (by omega) (by omega) hC)
       have hC' : (4294967296 : Int) * ((r : Nat) : Int) + ((v0 : Nat) : Int) < ((q * y0 : Nat) : Int) := by omega
       generalize q * y0 = qy at *
       have hpq : ((q : Nat) : Int) - 1 = ((q - 1 : Nat) : Int) := by omega
       have hp1 : q - 1 ≤ 4294967296 := by omega
       have hp2 : q - 1 < q := by omega
       generalize q - 1 = p at *
       have hwp := Z1 p (by omega)
       have HP1 := Lib.hid hp1; have HP2 := Lib.hid hp2
       have HL := Lib.hid HD'
       have hy1b : ((y1 : Nat) : Int) < 4294967296 := by omega
       have hrb : ((r : Nat) : Int) < 4294967296 := by omega
       by_cases hB : 4294967296 ≤ r + y1
       ·have hB' : (4294967296 : Int) ≤ ((r : Nat) : Int) + ((y1 : Nat) : Int) := by omega
        have HE := Lib.hid (HD'.broke dY hYp by0 (by omega) hB)
        clear HD' hp1 hp2 hUY dY dV by1 by0 bv1 bv0 hqr hlt hYp hA hC hq0 hB
        have ef := Xh (v := v0) HR.out.2.1 L3.out HE.out
        go_wp2_with fail
        go_ret2
        have F := Wt HH.out.1 HQD.out HH.out.2.1 HH.out.2.2.2.1 HH.out.2.2.2.2.2.2.2.1 HR.out.2.2.2.2.2 HR.out.1 HE.out
        refine ⟨?_, Zv.refl _⟩
        show Ending.returned (.tuple #[.int .u64 _, .int .u64 _]) = _
        first | rw [F.1, F.2.2.2] | rw [F.2.1, F.2.2.2] | rw [F.2.2.1, F.2.2.2]
       ·have hB' : ¬ ((4294967296 : Int) ≤ ((r : Nat) : Int) + ((y1 : Nat) : Int)) := by omega
        have HB2 := Lib.hid hB
        clear HD' hp1 hp2 hUY dY dV by1 by0 bv1 bv0 hqr hlt hYp hA hC hq0 hB
        go_wp2_with fail
        go_round
        case rel => exact ⟨p, r + y1, by simp [hwp], by simp, HL, Lib.hid ⟨by have := HP1.out; omega, by have := HB2.out; omega⟩⟩
        case measure => simp [intOf, hwp]; exact HP2.out
      ·have hC' : ¬ ((4294967296 : Int) * ((r : Nat) : Int) + ((v0 : Nat) : Int) < ((q * y0 : Nat) : Int)) := by omega
       have HE := Lib.hid (HD.out.just dY hYp (by omega))
       have hwp := Z1 q (by omega)
       clear hUY dY dV by1 by0 bv1 bv0 hqr hlt hYp hA hC
       generalize q * y0 = qy at *
       generalize q = p at *
       have ef := Xh (v := v0) HR.out.2.1 L3.out HE.out
       go_wp2_with fail
       go_ret2
       have F := Wt HH.out.1 HQD.out HH.out.2.1 HH.out.2.2.2.1 HH.out.2.2.2.2.2.2.2.1 HR.out.2.2.2.2.2 HR.out.1 HE.out
       refine ⟨?_, Zv.refl _⟩
       show Ending.returned (.tuple #[.int .u64 _, .int .u64 _]) = _
       first | rw [F.1, F.2.2.2] | rw [F.2.1, F.2.2.2] | rw [F.2.2.1, F.2.2.2]
   ·have hB' : ¬ ((4294967296 : Int) ≤ ((r : Nat) : Int) + ((y1 : Nat) : Int)) := by omega
    have HB2 := Lib.hid hB
    clear HD' hp1 hp2 hUY dY dV by1 by0 bv1 bv0 hqr hlt hYp hA hB
    go_wp2_with fail
    go_round
    case rel => exact ⟨p, r + y1, by simp [hwp], by simp, HL, Lib.hid ⟨by have := HP1.out; omega, by have := HB2.out; omega⟩⟩
    case measure => simp [intOf, hwp]; exact HP2.out
  ·have hA' : ¬ ((4294967296 : Int) ≤ ((q : Nat) : Int)) := by omega
   have eqy : IntKind.u64.wrap (((q : Nat) : Int) * ((y0 : Nat) : Int)) = ((q * y0 : Nat) : Int) := by
    rw [← Int.natCast_mul]
    have : q * y0 ≤ 4294967295 * 4294967295 := Nat.mul_le_mul (by omega) (by omega)
    exact Z1 _ (by omega)
   have hqb : ((q : Nat) : Int) < 4294967296 := by omega
   have hrb' : ((r : Nat) : Int) < 4294967296 := by omega
   have hvb : ((v1 : Nat) : Int) < 4294967296 := by omega
   by_cases hC : 4294967296 * r + v1 < q * y0
   ·have hq0 : 0 < q := by rcases Nat.eq_zero_or_pos q with h0 | h0; subst h0; simp at hC; exact h0
    have HD' := HD.out.less hq0 (HD.out.too_great dY (by omega) (by omega) hC)
    have hC' : (4294967296 : Int) * ((r : Nat) : Int) + ((v1 : Nat) : Int) < ((q * y0 : Nat) : Int) := by omega
    generalize q * y0 = qy at *
    have hpq : ((q : Nat) : Int) - 1 = ((q - 1 : Nat) : Int) := by omega
    have hp1 : q - 1 ≤ 4294967296 := by omega
    have hp2 : q - 1 < q := by omega
    generalize q - 1 = p at *
    have hwp := Z1 p (by omega)
    have HP1 := Lib.hid hp1; have HP2 := Lib.hid hp2
    have HL := Lib.hid HD'
    have hy1b : ((y1 : Nat) : Int) < 4294967296 := by omega
    have hrb : ((r : Nat) : Int) < 4294967296 := by omega
    by_cases hB : 4294967296 ≤ r + y1
    ·have hB' : (4294967296 : Int) ≤ ((r : Nat) : Int) + ((y1 : Nat) : Int) := by omega
     have HE := Lib.hid (HD'.broke dY hYp by0 (by omega) hB)
     clear HD' hp1 hp2 hUY dY dV by1 by0 bv1 bv0 hqr hlt hYp hA hC hq0 hB
     have ee := Xh (v := v1) HH.out.1 L3.out HE.out
     have hRY : (U * 4294967296 + v1) % Y < Y := Nat.mod_lt _ (by have := L2.out; omega)
     obtain ⟨R, hR⟩ : ∃ R, (U * 4294967296 + v1) % Y = R := ⟨_, rfl⟩
     rw [hR] at ee hRY
     have hRM : R < 18446744073709551616 := by have := L3.out; omega
     have eq0 := Zc9 (y1 := y1) hRM
     have eq0' := ZaD (y1 := y1) hRM
     have er0 := ZaE (y1 := y1) hRM
     have hD2 := Big.Dig.start (U := R) (v := v0) HH.out.2.2.1 HH.out.2.2.2.2.2.2.2.1 (by have := HH.out.2.2.2.2.1; omega) (by omega)
     have hb2 := Zda HH.out.2.2.1 hRY HH.out.2.2.2.2.2.1 HH.out.2.2.2.2.1.1
     have hr2 : R % y1 < y1 := Nat.mod_lt _ (by have := HH.out.2.2.2.2.1; omega)
     obtain ⟨q2, hq2⟩ : ∃ q, R / y1 = q := ⟨_, rfl⟩
     rw [hq2] at eq0 eq0' er0 hD2 hb2
     obtain ⟨r2, hr2'⟩ : ∃ r, R % y1 = r := ⟨_, rfl⟩
     rw [hr2'] at er0 hD2 hr2
     have HR := Lib.hid (And.intro hR (And.intro hRY (And.intro hD2 (And.intro hb2 (And.intro hr2 HE.out)))))
     clear hR hRY hD2 hb2 hr2 hRM hq2 hr2' HE
     go_wp2_with fail
     clear ee eq0 eq0' er0
     go_loop [16, 18] (fun b a => ∃ q r : Nat, a = .int .u64 (q : Int) ∧ b = .int .u64 (r : Int) ∧ Hid (Big.Dig 4294967296 R Y y1 v0 q r) ∧ Hid (q ≤ 4294967297 ∧ r < 4294967296)) (fun _ a => (intOf a).toNat)
     case atStart => exact ⟨q2, r2, rfl, rfl, Lib.hid HR.out.2.2.1, Lib.hid ⟨HR.out.2.2.2.1, by have := HR.out.2.2.2.2.1; have := HH.out.2.2.2.2.1.2; omega⟩⟩
     case round =>
      obtain ⟨q, r, rfl, rfl, HD, HQ⟩ := hrel
      obtain ⟨-, -, dY, dV, by1, by0, bv1, bv0, -, -, -, -⟩ := HH.out
      have hYp : 0 < Y := by omega
      have hUY := HR.out.2.1
      have hqr := HQ.out
      have hlt := Big.digit_lt bv0 hUY
      by_cases hA : 4294967296 ≤ q
      ·have HD' := HD.out.less (by omega) (by omega)
       have hA' : (4294967296 : Int) ≤ ((q : Nat) : Int) := by omega
       have hpq : ((q : Nat) : Int) - 1 = ((q - 1 : Nat) : Int) := by omega
       have hp1 : q - 1 ≤ 4294967296 := by omega
       have hp2 : q - 1 < q := by omega
       generalize q - 1 = p at *
       have hwp := Z1 p (by omega)
       have HP1 := Lib.hid hp1; have HP2 := Lib.hid hp2
       have HL := Lib.hid HD'
       have hy1b : ((y1 : Nat) : Int) < 4294967296 := by omega
       have hrb : ((r : Nat) : Int) < 4294967296 := by omega
       by_cases hB : 4294967296 ≤ r + y1
       ·have hB' : (4294967296 : Int) ≤ ((r : Nat) : Int) + ((y1 : Nat) : Int) := by omega
        have HE := Lib.hid (HD'.broke dY hYp by0 (by omega) hB)
        clear HD' hp1 hp2 hUY dY dV by1 by0 bv1 bv0 hqr hlt hYp hA hB
        have ef := Xh (v := v0) HR.out.2.1 L3.out HE.out
        go_wp2_with fail
        go_ret2
        have F := Wt HH.out.1 HQD.out HH.out.2.1 HH.out.2.2.2.1 HH.out.2.2.2.2.2.2.2.1 HR.out.2.2.2.2.2 HR.out.1 HE.out
        refine ⟨?_, Zv.refl _⟩
        show Ending.returned (.tuple #[.int .u64 _, .int .u64 _]) = _
        first | rw [F.1, F.2.2.2] | rw [F.2.1, F.2.2.2] | rw [F.2.2.1, F.2.2.2]
       ·have hB' : ¬ ((4294967296 : Int) ≤ ((r : Nat) : Int) + ((y1 : Nat) : Int)) := by omega
        have HB2 := Lib.hid hB
        clear HD' hp1 hp2 hUY dY dV by1 by0 bv1 bv0 hqr hlt hYp hA hB
        go_wp2_with fail
        go_round
        case rel => exact ⟨p, r + y1, by simp [hwp], by simp, HL, Lib.hid ⟨by have := HP1.out; omega, by have := HB2.out; omega⟩⟩
        case measure => simp [intOf, hwp]; exact HP2.out
      ·have hA' : ¬ ((4294967296 : Int) ≤ ((q : Nat) : Int)) := by omega
       have eqy : IntKind.u64.wrap (((q : Nat) : Int) * ((y0 : Nat) : Int)) = ((q * y0 : Nat) : Int) := by
        rw [← Int.natCast_mul]
        have : q * y0 ≤ 4294967295 * 4294967295 := Nat.mul_le_mul (by omega) (by omega)
        exact Z1 _ (by omega)
       have hqb : ((q : Nat) : Int) < 4294967296 := by omega
       have hrb' : ((r : Nat) : Int) < 4294967296 := by omega
       have hvb : ((v0 : Nat) : Int) < 4294967296 := by omega
       by_cases hC : 4294967296 * r + v0 < q * y0
       ·have hq0 : 0 < q := by rcases Nat.eq_zero_or_pos q with h0 | h0; subst h0; simp at hC; exact h0
        have HD' := HD.out.less hq0 (HD.out.too_great dY (by omega) (by omega) hC)
        have hC' : (4294967296 : Int) * ((r : Nat) : Int) + ((v0 : Nat) : Int) < ((q * y0 : Nat) : Int) := by omega
        generalize q * y0 = qy at *
        have hpq : ((q : Nat) : Int) - 1 = ((q - 1 : Nat) : Int) := by omega
        have hp1 : q - 1 ≤ 4294967296 := by omega
        have hp2 : q - 1 < q := by omega
        generalize q - 1 = p at *
        have hwp := Z1 p (by omega)
        have HP1 := Lib.hid hp1; have HP2 := Lib.hid hp2
        have HL := Lib.hid HD'
        have hy1b : ((y1 : Nat) : Int) < 4294967296 := by omega
        have hrb : ((r : Nat) : Int) < 4294967296 := by omega
        by_cases hB : 4294967296 ≤ r + y1
        ·have hB' : (4294967296 : Int) ≤ ((r : Nat) : Int) + ((y1 : Nat) : Int) := by omega
         have HE := Lib.hid (HD'.broke dY hYp by0 (by omega) hB)
         clear HD' hp1 hp2 hUY dY dV by1 by0 bv1 bv0 hqr hlt hYp hA hC hq0 hB
         have ef := Xh (v := v0) HR.out.2.1 L3.out HE.out
         go_wp2_with fail
         go_ret2
         have F := Wt HH.out.1 HQD.out HH.out.2.1 HH.out.2.2.2.1 HH.out.2.2.2.2.2.2.2.1 HR.out.2.2.2.2.2 HR.out.1 HE.out
         refine ⟨?_, Zv.refl _⟩
         show Ending.returned (.tuple #[.int .u64 _, .int .u64 _]) = _
         first | rw [F.1, F.2.2.2] | rw [F.2.1, F.2.2.2] | rw [F.2.2.1, F.2.2.2]
        ·have hB' : ¬ ((4294967296 : Int) ≤ ((r : Nat) : Int) + ((y1 : Nat) : Int)) := by omega
         have HB2 := Lib.hid hB
         clear HD' hp1 hp2 hUY dY dV by1 by0 bv1 bv0 hqr hlt hYp hA hC hq0 hB
         go_wp2_with fail
         go_round
         case rel => exact ⟨p, r + y1, by simp [hwp], by simp, HL, Lib.hid ⟨by have := HP1.out; omega, by have := HB2.out; omega⟩⟩
         case measure => simp [intOf, hwp]; exact HP2.out
       ·have hC' : ¬ ((4294967296 : Int) * ((r : Nat) : Int) + ((v0 : Nat) : Int) < ((q * y0 : Nat) : Int)) := by omega
        have HE := Lib.hid (HD.out.just dY hYp (by omega))
        have hwp := Z1 q (by omega)
        clear hUY dY dV by1 by0 bv1 bv0 hqr hlt hYp hA hC
        generalize q * y0 = qy at *
        generalize q = p at *
        have ef := Xh (v := v0) HR.out.2.1 L3.out HE.out
        go_wp2_with fail
        go_ret2
        have F := Wt HH.out.1 HQD.out HH.out.2.1 HH.out.2.2.2.1 HH.out.2.2.2.2.2.2.2.1 HR.out.2.2.2.2.2 HR.out.1 HE.out
        refine ⟨?_, Zv.refl _⟩
        show Ending.returned (.tuple #[.int .u64 _, .int .u64 _]) = _
        first | rw [F.1, F.2.2.2] | rw [F.2.1, F.2.2.2] | rw [F.2.2.1, F.2.2.2]
    ·have hB' : ¬ ((4294967296 : Int) ≤ ((r : Nat) : Int) + ((y1 : Nat) : Int)) := by omega
     have HB2 := Lib.hid hB
     clear HD' hp1 hp2 hUY dY dV by1 by0 bv1 bv0 hqr hlt hYp hA hC hq0 hB
     go_wp2_with fail
     go_round
     case rel => exact ⟨p, r + y1, by simp [hwp], by simp, HL, Lib.hid ⟨by have := HP1.out; omega, by have := HB2.out; omega⟩⟩
     case measure => simp [intOf, hwp]; exact HP2.out
   ·have hC' : ¬ ((4294967296 : Int) * ((r : Nat) : Int) + ((v1 : Nat) : Int) < ((q * y0 : Nat) : Int)) := by omega
    have HE := Lib.hid (HD.out.just dY hYp (by omega))
    have hwp := Z1 q (by omega)
    clear hUY dY dV by1 by0 bv1 bv0 hqr hlt hYp hA hC
    generalize q * y0 = qy at *
    generalize q = p at *
    have ee := Xh (v := v1) HH.out.1 L3.out HE.out
    have hRY : (U * 4294967296 + v1) % Y < Y := Nat.mod_lt _ (by have := L2.out; omega)
    obtain ⟨R, hR⟩ : ∃ R, (U * 4294967296 + v1) % Y = R := ⟨_, rfl⟩
    rw [hR] at ee hRY
    have hRM : R < 18446744073709551616 := by have := L3.out; omega
    have eq0 := Zc9 (y1 := y1) hRM
    have eq0' := ZaD (y1 := y1) hRM
    have er0 := ZaE (y1 := y1) hRM
    have hD2 := Big.Dig.start (U := R) (v := v0) HH.out.2.2.1 HH.out.2.2.2.2.2.2.2.1 (by have := HH.out.2.2.2.2.1; omega) (by omega)
    have hb2 := Zda HH.out.2.2.1 hRY HH.out.2.2.2.2.2.1 HH.out.2.2.2.2.1.1
    have hr2 : R % y1 < y1 := Nat.mod_lt _ (by have := HH.out.2.2.2.2.1; omega)
    obtain ⟨q2, hq2⟩ : ∃ q, R / y1 = q := ⟨_, rfl⟩
    rw [hq2] at eq0 eq0' er0 hD2 hb2
    obtain ⟨r2, hr2'⟩ : ∃ r, R % y1 = r := ⟨_, rfl⟩
    rw [hr2'] at er0 hD2 hr2
    have HR := Lib.hid (And.intro hR (And.intro hRY (And.intro hD2 (And.intro hb2 (And.intro hr2 HE.out)))))
    clear hR hRY hD2 hb2 hr2 hRM hq2 hr2' HE
    go_wp2_with fail
    clear ee eq0 eq0' er0
    go_loop [16, 18] (fun b a => ∃ q r : Nat, a = .int .u64 (q : Int) ∧ b = .int .u64 (r : Int) ∧ Hid (Big.Dig 4294967296 R Y y1 v0 q r) ∧ Hid (q ≤ 4294967297 ∧ r < 4294967296)) (fun _ a => (intOf a).toNat)
    case atStart => exact ⟨q2, r2, rfl, rfl, Lib.hid HR.out.2.2.1, Lib.hid ⟨HR.out.2.2.2.1, by have := HR.out.2.2.2.2.1; have := HH.out.2.2.2.2.1.2; omega⟩⟩
    case round =>
     obtain ⟨q, r, rfl, rfl, HD, HQ⟩ := hrel
     obtain ⟨-, -, dY, dV, by1, by0, bv1, bv0, -, -, -, -⟩ := HH.out
     have hYp : 0 < Y := by omega
     have hUY := HR.out.2.1
     have hqr := HQ.out
     have hlt := Big.digit_lt bv0 hUY
     by_cases hA : 4294967296 ≤ q
     ·have HD' := HD.out.less (by omega) (by omega)
      have hA' : (4294967296 : Int) ≤ ((q : Nat) : Int) := by omega
      have hpq : ((q : Nat) : Int) - 1 = ((q - 1 : Nat) : Int) := by omega
      have hp1 : q - 1 ≤ 4294967296 := by omega
      have hp2 : q - 1 < q := by omega
      generalize q - 1 = p at *
      have hwp := Z1 p (by omega)
      have HP1 := Lib.hid hp1; have HP2 := Lib.hid hp2
      have HL := Lib.hid HD'
      have hy1b : ((y1 : Nat) : Int) < 4294967296 := by omega
      have hrb : ((r : Nat) : Int) < 4294967296 := by omega
      by_cases hB : 4294967296 ≤ r + y1
      ·have hB' : (4294967296 : Int) ≤ ((r : Nat) : Int) + ((y1 : Nat) : Int) := by omega
       have HE := Lib.hid (HD'.broke dY hYp by0 (by omega) hB)
       clear HD' hp1 hp2 hUY dY dV by1 by0 bv1 bv0 hqr hlt hYp hA hB
       have ef := Xh (v := v0) HR.out.2.1 L3.out HE.out
       go_wp2_with fail
       go_ret2
       have F := Wt HH.out.1 HQD.out HH.out.2.1 HH.out.2.2.2.1 HH.out.2.2.2.2.2.2.2.1 HR.out.2.2.2.2.2 HR.out.1 HE.out
       refine ⟨?_, Zv.refl _⟩
       show Ending.returned (.tuple #[.int .u64 _, .int .u64 _]) = _
       first | rw [F.1, F.2.2.2] | rw [F.2.1, F.2.2.2] | rw [F.2.2.1, F.2.2.2]
      ·have hB' : ¬ ((4294967296 : Int) ≤ ((r : Nat) : Int) + ((y1 : Nat) : Int)) := by omega
       have HB2 := Lib.hid hB
       clear HD' hp1 hp2 hUY dY dV by1 by0 bv1 bv0 hqr hlt hYp hA hB
       go_wp2_with fail
       go_round
       case rel => exact ⟨p, r + y1, by simp [hwp], by simp, HL, Lib.hid ⟨by have := HP1.out; omega, by have := HB2.out; omega⟩⟩
       case measure => simp [intOf, hwp]; exact HP2.out
     ·have hA' : ¬ ((4294967296 : Int) ≤ ((q : Nat) : Int)) := by omega
      have eqy : IntKind.u64.wrap (((q : Nat) : Int) * ((y0 : Nat) : Int)) = ((q * y0 : Nat) : Int) := by
       rw [← Int.natCast_mul]
       have : q * y0 ≤ 4294967295 * 4294967295 := Nat.mul_le_mul (by omega) (by omega)
       exact Z1 _ (by omega)
      have hqb : ((q : Nat) : Int) < 4294967296 := by omega
      have hrb' : ((r : Nat) : Int) < 4294967296 := by omega
      have hvb : ((v0 : Nat) : Int) < 4294967296 := by omega
      by_cases hC : 4294967296 * r + v0 < q * y0
      ·have hq0 : 0 < q := by rcases Nat.eq_zero_or_pos q with h0 | h0; subst h0; simp at hC; exact h0
       have HD' := HD.out.less hq0 (HD.out.too_great dY (by omega) (by omega) hC)
       have hC' : (4294967296 : Int) * ((r : Nat) : Int) + ((v0 : Nat) : Int) < ((q * y0 : Nat) : Int) := by omega
       generalize q * y0 = qy at *
       have hpq : ((q : Nat) : Int) - 1 = ((q - 1 : Nat) : Int) := by omega
       have hp1 : q - 1 ≤ 4294967296 := by omega
       have hp2 : q - 1 < q := by omega
       generalize q - 1 = p at *
       have hwp := Z1 p (by omega)
       have HP1 := Lib.hid hp1; have HP2 := Lib.hid hp2
       have HL := Lib.hid HD'
       have hy1b : ((y1 : Nat) : Int) < 4294967296 := by omega
       have hrb : ((r : Nat) : Int) < 4294967296 := by omega
       by_cases hB : 4294967296 ≤ r + y1
       ·have hB' : (4294967296 : Int) ≤ ((r : Nat) : Int) + ((y1 : Nat) : Int) := by omega
        have HE := Lib.hid (HD'.broke dY hYp by0 (by omega) hB)
        clear HD' hp1 hp2 hUY dY dV by1 by0 bv1 bv0 hqr hlt hYp hA hC hq0 hB
        have ef := Xh (v := v0) HR.out.2.1 L3.out HE.out
        go_wp2_with fail
        go_ret2
        have F := Wt HH.out.1 HQD.out HH.out.2.1 HH.out.2.2.2.1 HH.out.2.2.2.2.2.2.2.1 HR.out.2.2.2.2.2 HR.out.1 HE.out
        refine ⟨?_, Zv.refl _⟩
        show Ending.returned (.tuple #[.int .u64 _, .int .u64 _]) = _
        first | rw [F.1, F.2.2.2] | rw [F.2.1, F.2.2.2] | rw [F.2.2.1, F.2.2.2]
       ·have hB' : ¬ ((4294967296 : Int) ≤ ((r : Nat) : Int) + ((y1 : Nat) : Int)) := by omega
        have HB2 := Lib.hid hB
        clear HD' hp1 hp2 hUY dY dV by1 by0 bv1 bv0 hqr hlt hYp hA hC hq0 hB
        go_wp2_with fail
        go_round
        case rel => exact ⟨p, r + y1, by simp [hwp], by simp, HL, Lib.hid ⟨by have := HP1.out; omega, by have := HB2.out; omega⟩⟩
        case measure => simp [intOf, hwp]; exact HP2.out
      ·have hC' : ¬ ((4294967296 : Int) * ((r : Nat) : Int) + ((v0 : Nat) : Int) < ((q * y0 : Nat) : Int)) := by omega
       have HE := Lib.hid (HD.out.just dY hYp (by omega))
       have hwp := Z1 q (by omega)
       clear hUY dY dV by1 by0 bv1 bv0 hqr hlt hYp hA hC
       generalize q * y0 = qy at *
       generalize q = p at *
       have ef := Xh (v := v0) HR.out.2.1 L3.out HE.out
       go_wp2_with fail
       go_ret2
       have F := Wt HH.out.1 HQD.out HH.out.2.1 HH.out.2.2.2.1 HH.out.2.2.2.2.2.2.2.1 HR.out.2.2.2.2.2 HR.out.1 HE.out
       refine ⟨?_, Zv.refl _⟩
       show Ending.returned (.tuple #[.int .u64 _, .int .u64 _]) = _
       first | rw [F.1, F.2.2.2] | rw [F.2.1, F.2.2.2] | rw [F.2.2.1, F.2.2.2]
end Go.Proofs.YtnlhjcfpfapafaaGreatDoor
