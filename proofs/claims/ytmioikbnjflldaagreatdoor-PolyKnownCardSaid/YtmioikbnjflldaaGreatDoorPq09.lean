/- Contracts, in this order: nat: FromBytes, Word. · nat: Size, Bytes. · Plain arithmetic: one digit of a quotient by two halves of t -/
import Derived.Test.YtmioikbnjflldaaGreatDoorPq08
import Derived.BigRegion
import Derived.RegionTactic
import Derived.WalkLawsBesides
import Derived.Laws.BitsAllLaws
import Derived.Lib.ItoaNum
import Derived.Laws.IdiomStrings
namespace Go.Proofs.YtmioikbnjflldaaGreatDoor
open Go.RowKit
theorem word2_any (w : World) (v : Value) (n : Nat) (h : NatIn w v n) :
    Calls Tryz.prog 221 #[v] w fun e w' => e = .returned (.tuple #[.int .u64 (((if n < Big.M64 then n else 0) : Nat) : Int), .bool (decide (n < Big.M64))]) ∧ w = w' := by
  obtain ⟨l, hw, ol, nl, rfl⟩ := h
  have HL := Lib.hid hw
  obtain ⟨A, c, rfl, h1, h2, h3⟩ := hw
  match l, nl, ol, h3, HL with
  | [], nl, ol, h3, HL =>
    have e : (Big.val Big.M64 []) = 0 := rfl
    have e2 : (0 : Nat) < Big.M64 := Big.M64_pos
    rw [e, if_pos e2, decide_eq_true e2]
    clear h3 e2 nl ol HL
    go_enter Tryz.func221, Tryz.ntmps221
    go_wp2
    go_ret2
    exact ⟨rfl, rfl⟩
  | [x], nl, ol, h3, HL =>
    obtain ⟨b, o, rfl, hlt, hc, -⟩ := h3 (by simp)
    have hcell : w.cell? ⟨b, o, none⟩ = some (.int .u64 (x : Int)) := hc 0 (by simp)
    have e2 : x < Big.M64 := ol.head
    have e : Big.val Big.M64 [x] = x := by simp [Big.val]
    rw [e, if_pos e2, decide_eq_true e2]
    clear h3 e2 nl ol HL hc e
    go_enter Tryz.func221, Tryz.ntmps221
    go_wp2
    go_ret2
    exact ⟨rfl, rfl⟩
  | x :: y :: r, nl, ol, h3, HL =>
    have hge := Big.norm_ge (B := Big.M64) _ nl (by simp)
    have e2 : ¬ (Big.val Big.M64 (x :: y :: r) < Big.M64) := by
      have : Big.M64 ^ 1 ≤ Big.M64 ^ ((x :: y :: r).length - 1) := Nat.pow_le_pow_right Big.M64_pos (by simp)
      rw [Nat.pow_one] at this
      omega
    rw [if_neg e2, decide_eq_false e2]
    have t1 : (((x :: y :: r).length : Int) == 0) = false := beq_eq_false_iff_ne.2 (by simp; omega)
    have t2 : (((x :: y :: r).length : Int) == 1) = false := beq_eq_false_iff_ne.2 (by simp; omega)
    clear h3 e2 nl ol HL hge
    generalize (x :: y :: r).length = N at *
    go_enter Tryz.func221, Tryz.ntmps221
    go_wp2
    go_ret2
    exact ⟨rfl, rfl⟩
set_option maxRecDepth 100000 in
set_option maxHeartbeats 2000000 in
theorem fromBytes_any (w : World) (s : ByteArray) (hs : s.size ≤ 1000000000) :
    Calls Tryz.prog 98 #[.string s] w fun e w' => ∃ v', e = .returned v' ∧ NatIn w' v' (Big.bnum s.data.toList) ∧ Below w.heap.size w w' := by
  obtain ⟨i0, hi, hz0, hz1, hz2⟩ := info_parts Tryz.infoU64
  have hmk := fun W => make_words (P := Tryz.prog) Tryz.underlying66 hi hz0 hz1 (by rw [hz2]; omega) .i64 .i64 ((s.size + 7) / 8) ((s.size + 7) / 8) (Nat.le_refl _) (by omega) W
  rw [show (((s.size + 7) / 8 : Nat) : Int) = ((s.size : Int) + 7) / 8 by omega] at hmk
  have HB1 := Lib.hid (Blk.new w 110 .u64 (List.replicate ((s.size + 7) / 8) 0))
  have HBel1 := Lib.hid ((Below.refl w.heap.size w).alloc (Nat.le_refl _) (.cells (cellsOf .u64 (List.replicate ((s.size + 7) / 8) 0)) 110))
  go_enter Tryz.func98, Tryz.ntmps98
  go_wp2_with fail
  clear hmk
  go_loopw [13] (fun i wr => ∃ (k : Nat) (X : List Nat), k ≤ s.size ∧ i = .int .i64 k ∧
      Hid (X.length = (s.size + 7) / 8 ∧ ∀ j, j < X.length → Big.nth X j = Big.val 256 ((((Big.rev s.data.toList).take k).drop (8 * j)).take 8)) ∧
      Hid (Blk wr w.heap.size 110 .u64 X) ∧ Hid (Below w.heap.size w wr))
    (fun i _ => s.size - (intOf i).toNat)
  case atStart => exact ⟨0, _, by omega, rfl, Lib.hid ⟨by simp, fun j hj => by rw [Big.nth_replicate]; simp [Big.val]⟩, HB1, HBel1⟩
  case round =>
    obtain ⟨k, X, hk, rfl, HZ, HB, HBel⟩ := hrel
    by_cases hkn : k < s.size
    · obtain ⟨q, hq8⟩ : ∃ q, k / 8 = q := ⟨_, rfl⟩
      obtain ⟨r, hr8⟩ : ∃ r, k % 8 = r := ⟨_, rfl⟩
      have hr : r < 8 := by omega
      have HK := Lib.hid (show k = 8 * q + r by omega)
      have hq : q < X.length := by have := HZ.out.1; omega
      have hst := HB.out.cell q hq
      have hfr := HB.out.frozen q
      have d1 : (k : Int) / 8 = (q : Int) := by omega
      have d2 : (k : Int) % 8 = (r : Int) := by omega
      have d3 : (0 : Int) ≤ (s.size : Int) - 1 - k := by omega
      have d4 : (s.size : Int) - 1 - k < s.size := by omega
      have d5 : ((s.size : Int) - 1 - k).toNat = s.size - 1 - k := by omega
      have d6 : s.size - 1 - k < s.size := by omega
      have hqs : (q : Int) < ((s.size : Int) + 7) / 8 := by have := HZ.out.1; omega
      have hqs' : q < (s.size + 7) / 8 := by have := HZ.out.1; omega
      have hidx : ∀ W, (Instr.index 9 (.string s) (.int .i64 ((s.size : Int) - 1 - k))).run Tryz.prog W = .ok (.int .u8 ((Big.nth (Big.rev s.data.toList) k : Nat) : Int)) W := by
        intro W
        rw [run_index_string (P := Tryz.prog) W 9 s .i64 _ Tryz.underlying9, dif_pos ⟨d3, d4⟩, Big.rev_nth _ _ (by simpa using hkn)]
        refine congrArg (fun x => Result.ok (Value.int IntKind.u8 x) W) ?_
        have : ∀ i j (hi : i < s.size) (hj : j < s.data.toList.length), i = j → s[i] = s.data.toList[j] := by
          intro i j hi hj e; subst e; rfl
        exact congrArg (fun (c : UInt8) => ((c.toNat : Nat) : Int)) (this _ _ _ _ (by rw [d5]; simp))
      clear hq8 hr8
      go_wp2_with fail
      generalize hxq : Big.nth X q = xq at hst
      have HXQ := Lib.hid hxq
      clear hxq
      have hbk := (Big.rev_ok s.data.toList).nth (by omega) k
      generalize hnb : Big.nth (Big.rev s.data.toList) k = bk at hidx hbk
      have HNB := Lib.hid hnb
      have hxlt : xq < 256 ^ r := by
        have h1 := HZ.out.2 q hq
        rw [HXQ.out] at h1
        rw [h1]
        have h2 := Big.val_lt ((((Big.rev s.data.toList).take k).drop (8 * q)).take 8) (((Big.rev_ok _).take _).drop _ |>.take _)
        refine Nat.lt_of_lt_of_le h2 (Nat.pow_le_pow_right (by omega) ?_)
        have := HK.out
        simp [Big.rev_length]
        omega
      have HV := Lib.hid (show bits .or .u64 ((xq : Nat) : Int) (IntKind.u64.wrap (IntKind.u64.wrap ((bk : Nat) : Int) * 2 ^ (r * 8))) = ((xq + 256 ^ r * bk : Nat) : Int) by
        have b1 := Big.byte_bound hbk hr
        have w1 : IntKind.u64.wrap ((bk : Nat) : Int) = ((bk : Nat) : Int) := by rw [IntKind.wrap_u64]; omega
        have e1 : ((bk : Nat) : Int) * 2 ^ (r * 8) = ((bk * 2 ^ (r * 8) : Nat) : Int) := by rw [Int.natCast_mul, Int.natCast_pow]; rfl
        rw [w1, e1, IntKind.wrap_u64, Int.emod_eq_of_lt (by omega) (by omega), u64_or_nat _ _ ?_ b1, Big.or_byte hxlt]
        refine Nat.lt_of_lt_of_le hxlt ?_
        rw [Big.pow256]
        exact (Nat.pow_le_pow_right (by omega) (by omega : r * 8 ≤ 64)))
      have R := Big.byte_step (b := 256) (k := 8) (by omega) hr (X := X) (R := Big.rev s.data.toList) (q := q) (by rw [Big.rev_length]; have := HK.out; simp; omega) hq (by rw [← HK.out]; exact HZ.out.2)
      rw [HXQ.out, ← HK.out, HNB.out] at R
      have R1 := Lib.hid R
      have HB' := Lib.hid (HB.out.set q (xq + 256 ^ r * bk))
      clear hxlt hbk R hnb
      go_region
      rw [HV.out]
      go_wp2
      go_roundw
      case rel => exact ⟨k + 1, _, by omega, by go_num, Lib.hid ⟨by rw [List.length_set]; exact HZ.out.1, R1.out⟩, Lib.hid HB'.out, Lib.hid ((HBel.out.setCell (Nat.le_refl _) _).drew)⟩
      case measure => simp [intOf]; omega
    · have hkl : k = s.size := by omega
      subst hkl
      go_wp2_with fail
      refine (trim_any _ _ X ?_).mono ?_
      · have h1 := HB.out.wd0 ((s.size + 7) / 8) (by have := HZ.out.1; omega) (by omega)
        rw [HZ.out.1] at h1
        exact h1
      · rintro e w' ⟨v', rfl, hv', rfl⟩
        have HV := Lib.hid hv'
        clear hv'
        go_wp2
        go_ret
        have hv := Big.regroup (C := Big.M64) (b := 256) (k := 8) Big.M64_pow X (Big.rev s.data.toList) (by rw [Big.rev_length, HZ.out.1]; simp; omega) (fun j hj => by
          have := HZ.out.2 j hj
          rwa [show (Big.rev s.data.toList).take s.size = Big.rev s.data.toList from List.take_of_length_le (by rw [Big.rev_length]; simp)] at this)
        have ho : Big.Ok Big.M64 X := by
          intro d hd
          obtain ⟨j, hj, rfl⟩ := List.getElem_of_mem hd
          have h1 := HZ.out.2 j hj
          have h2 : Big.nth X j = X[j] := by unfold Big.nth; rw [List.getD_eq_getElem?_getD, List.getElem?_eq_getElem hj]; rfl
          rw [← h2, h1, Big.M64_pow]
          have h3 := Big.val_lt ((((Big.rev s.data.toList).take s.size).drop (8 * j)).take 8) ((((Big.rev_ok _).take _).drop _).take _)
          refine Nat.lt_of_lt_of_le h3 (Nat.pow_le_pow_right (by omega) ?_)
          simp; omega
        exact ⟨v', rfl, ⟨Big.strip X, HV.out, Big.strip_ok ho, Big.strip_norm _, by rw [Big.strip_val]; exact hv⟩, HBel.out⟩
end Go.Proofs.YtmioikbnjflldaaGreatDoor
namespace Go.Proofs.YtmioikbnjflldaaGreatDoor
open Go.RowKit
theorem lz_any (x : Nat) (hx : x < 18446744073709551616) (w : World) :
    Calls Tryz.prog 101 #[.int .u64 (x : Int)] w fun e w' => e = .returned (.int .i64 (64 - ((Lib.bitLen x : Nat) : Int))) ∧ w = w' :=
  (Tryz.bits_LeadingZeros64 (x : Int) w (by omega) (by omega)).mono fun _ _ ⟨h1, h2⟩ => ⟨by simpa using h1, h2.symm⟩
def lzn (x : Nat) : Nat := 64 - Lib.bitLen x
theorem bitLen_bd (x : Nat) (hx : x < 18446744073709551616) (h0 : x ≠ 0) : 1 ≤ Lib.bitLen x ∧ Lib.bitLen x ≤ 64 ∧ 2 ^ (Lib.bitLen x - 1) ≤ x ∧ x < 2 ^ Lib.bitLen x := by
  have h := Lib.bitLenAux_bounds 64 x hx h0
  refine ⟨h.1, ?_, h.2.1, h.2.2⟩
  rcases Nat.lt_or_ge 64 (Lib.bitLen x) with hlt | hge
  · have h1 : 2 ^ 64 ≤ 2 ^ (Lib.bitLen x - 1) := Nat.pow_le_pow_right (by omega) (by omega)
    have h2 : 2 ^ (Lib.bitLen x - 1) ≤ x := h.2.1
    omega
  · exact hge
theorem lzn_bd (x : Nat) (hx : x < 18446744073709551616) (h0 : x ≠ 0) : lzn x ≤ 63 ∧ 9223372036854775808 ≤ x * 2 ^ lzn x ∧ x * 2 ^ lzn x < 18446744073709551616 := by
  obtain ⟨h1, h2, h3, h4⟩ := bitLen_bd x hx h0
  unfold lzn
  generalize Lib.bitLen x = b at *
  refine ⟨by omega, ?_, ?_⟩
  · have : 2 ^ (b - 1) * 2 ^ (64 - b) ≤ x * 2 ^ (64 - b) := Nat.mul_le_mul_right _ h3
    rw [← Nat.pow_add, show b - 1 + (64 - b) = 63 by omega] at this
    exact this
  · have : x * 2 ^ (64 - b) < 2 ^ b * 2 ^ (64 - b) := Nat.mul_lt_mul_of_pos_right h4 (Nat.pow_pos (by omega))
    rw [← Nat.pow_add, show b + (64 - b) = 64 by omega] at this
    exact this
theorem lzn_any (x : Nat) (hx : x < 18446744073709551616) (h0 : x ≠ 0) (w : World) :
    Calls Tryz.prog 101 #[.int .u64 (x : Int)] w fun e w' => e = .returned (.int .i64 ((lzn x : Nat) : Int)) ∧ w = w' :=
  (lz_any x hx w).mono fun _ _ ⟨h1, h2⟩ => ⟨by rw [h1]; apply ret_int; have := bitLen_bd x hx h0; unfold lzn; omega, h2⟩
theorem norm_last {l : List Nat} (h : Big.Norm l) (hne : l ≠ []) : ∃ r t, l = r ++ [t] ∧ t ≠ 0 := by
  refine ⟨l.dropLast, l.getLast hne, (List.dropLast_concat_getLast hne).symm, fun e => h ?_⟩
  rw [List.getLast?_eq_some_getLast hne, e]
theorem size_any (w : World) (v : Value) (n : Nat) (h : NatIn w v n) (hn : n < Big.M64 ^ Big.KX) :
    Calls Tryz.prog 59 #[v] w fun e w' => ∃ s : Nat, e = .returned (.int .i64 (s : Int)) ∧ Big.IsSize n s ∧ w = w' := by
  obtain ⟨l, hw, ol, nl, rfl⟩ := h
  have hl := len_of_lt nl hn
  rw [Big.KX_eq] at hl
  obtain ⟨A, c, rfl, h1, h2, h3⟩ := hw
  by_cases hne : l = []
  · subst hne
    clear hn h3 nl ol
    go_enter Tryz.func59, Tryz.ntmps59
    go_wp2
    go_ret
    exact ⟨0, rfl, Big.isSize_zero, rfl⟩
  · obtain ⟨r, t, rfl, ht0⟩ := norm_last nl hne
    have hlr : (r ++ [t]).length = r.length + 1 := by simp
    obtain ⟨b, o, rfl, hlt, hc, -⟩ := h3 (by omega)
    have hcell := hc r.length (by omega)
    have ent : Big.nth (r ++ [t]) r.length = t := by unfold Big.nth; rw [List.getD_eq_getElem?_getD, List.getElem?_append_right (Nat.le_refl _)]; simp
    rw [ent] at hcell
    have htM : t < 18446744073709551616 := by rw [← Big.M64_eq]; exact ol t (by simp)
    obtain ⟨b1, b2, b3, b4⟩ := bitLen_bd t htM ht0
    have HS := Lib.hid (Big.isSize_top (b := Lib.bitLen t) (fun d hd => ol d (by simp [hd]) : Big.Ok Big.M64 r) b4 b3 b1 b2)
    have hc0 : (((r ++ [t]).length : Int) == 0) = false := beq_eq_false_iff_ne.2 (by omega)
    have CL := Lib.hid (lz_any t htM)
    rw [hlr] at h1 hl hc0 ⊢
    clear h3 hc hlr ent b3 b4 htM hne nl ol hn
    generalize Lib.bitLen t = bl at *
    generalize Big.val Big.M64 (r ++ [t]) = N at *
    generalize r.length = m at *
    have hc1 : ((m : Int) + 1 == 0) = false := beq_eq_false_iff_ne.2 (by omega)
    go_enter Tryz.func59, Tryz.ntmps59
    go_wp2_with (go_at_call 101; refine (CL.out _).mono ?_; rintro e w' ⟨rfl, rfl⟩)
    go_ret
    refine ⟨_, ?_, HS.out, rfl⟩
    apply ret_int
    omega
theorem Tryz.infoU8 : (Tryz.prog.info? 5).map (fun i => (i.zero, i.size, i.bytes)) = some (some (.int .u8 0), 1, 1) := by kernel_rfl
set_option maxRecDepth 100000 in
set_option maxHeartbeats 2000000 in
theorem bytes_any (w : World) (v : Value) (n : Nat) (h : NatIn w v n) (hn : n < Big.M64 ^ Big.KL) :
    Calls Tryz.prog 93 #[v] w fun e w' => ∃ s : Nat, e = .returned (.string ⟨(Big.btext n s).toArray⟩) ∧ Big.IsSize n s ∧ Below w.heap.size w w' := by
  have CS := Lib.hid (size_any w v n h (Nat.lt_of_lt_of_le hn (Nat.pow_le_pow_right Big.M64_pos Big.KL_le)))
  obtain ⟨l, hw, ol, nl, hval⟩ := h
  have hl := len_of_lt (K := Big.KL) nl (by rw [hval]; exact hn)
  rw [Big.KL_eq] at hl
  have HW := Lib.hid hw; have OL := Lib.hid ol; have NL := Lib.hid nl; have HVAL := Lib.hid hval
  have HN := Lib.hid hn
  obtain ⟨A, c, rfl, -, -, -⟩ := hw
  obtain ⟨i0, hi, hz0, hz1, hz2⟩ := info_parts Tryz.infoU8
  clear ol nl hval hn
  go_enter Tryz.func93, Tryz.ntmps93
  go_wp2_with fail
  refine CS.out.mono ?_
  rintro e w1 ⟨sz, rfl, hsz, rfl⟩
  have HSZ := Lib.hid hsz
  have hsb : sz ≤ 800000000 := by
    rcases Nat.lt_or_ge 800000000 sz with hlt | hge
    · have h1 := hsz.2 (by omega)
      have h2 := HN.out
      rw [Big.M64_pow, ← Nat.pow_mul] at h2
      have h3 : 256 ^ (8 * Big.KL) ≤ 256 ^ (sz - 1) := Nat.pow_le_pow_right (by omega) (by have := Big.KL_eq; omega)
      omega
    · exact hge
  have hmk := fun W => make_words (P := Tryz.prog) Tryz.underlying166 hi hz0 hz1 (by rw [hz2]; omega) .i64 .i64 sz sz (Nat.le_refl _) (by omega) W
  have HB1 := Lib.hid (Blk.new w 5 .u8 (List.replicate sz 0))
  have HBel1 := Lib.hid ((Below.refl w.heap.size w).alloc (Nat.le_refl _) (.cells (cellsOf .u8 (List.replicate sz 0)) 5))
  clear hsz
  go_wp2_with fail
  clear hmk
  go_loopw [10] (fun i wr => ∃ (k : Nat), k ≤ sz ∧ i = .int .i64 k ∧
      Hid (Blk wr w.heap.size 5 .u8 (List.replicate (sz - k) 0 ++ (Big.bd n k).reverse)) ∧ Hid (Below w.heap.size w wr))
    (fun i _ => sz - (intOf i).toNat)
  case atStart => exact ⟨0, by omega, rfl, Lib.hid (by simpa [Big.bd] using HB1.out), HBel1⟩
  case round =>
    obtain ⟨k, hk, rfl, HB, HBel⟩ := hrel
    by_cases hkn : k < sz
    · obtain ⟨q, hq8⟩ : ∃ q, k / 8 = q := ⟨_, rfl⟩
      obtain ⟨r, hr8⟩ : ∃ r, k % 8 = r := ⟨_, rfl⟩
      have hr : r < 8 := by omega
      have hkq : k = 8 * q + r := by omega
      have hq : q < l.length := by
        rcases Nat.lt_or_ge q l.length with h1 | h1
        · exact h1
        · exfalso
          have h2 := HSZ.out.2 (by omega)
          have h3 := Big.val_lt l OL.out
          rw [HVAL.out, Big.M64_pow, ← Nat.pow_mul] at h3
          have h4 : 256 ^ (8 * l.length) ≤ 256 ^ (sz - 1) := Nat.pow_le_pow_right (by omega) (by omega)
          omega
      have hX := HW.out
      obtain ⟨A', c', e, x1, x2, x3⟩ := hX
      cases e
      obtain ⟨b, o, rfl, hblt, hcc, -⟩ := x3 (by omega)
      have hcell := (HBel.out.cell (p := ⟨b, o + q, none⟩) hblt).trans (hcc q hq)
      have hlen : (List.replicate (sz - k) 0 ++ (Big.bd n k).reverse).length = sz := by simp [Big.bd_length]; omega
      have hst := HB.out.cell (sz - 1 - k) (by omega)
      have hfr := HB.out.frozen (sz - 1 - k)
      have d1 : (k : Int) / 8 = (q : Int) := by omega
      have d2 : (k : Int) % 8 = (r : Int) := by omega
      have d3 : (0 : Int) ≤ (sz : Int) - 1 - k := by omega
      have d4 : (sz : Int) - 1 - k < sz := by omega
      have d5 : ((sz : Int) - 1 - k).toNat = sz - 1 - k := by omega
      have hql : (q : Int) < (l.length : Int) := by omega
      have ev := Big.nth_div Big.M64_pos l OL.out q
      rw [HVAL.out] at ev
      have hxm : Big.nth l q < 18446744073709551616 := by rw [← Big.M64_eq]; exact OL.out.nth Big.M64_pos q
      generalize Big.nth l q = xq at hcell ev hxm
      have HV := Lib.hid (show ((xq : Nat) : Int) / 2 ^ (r * 8) % 256 = ((n / 256 ^ k % 256 : Nat) : Int) by
        rw [hkq, ← Big.byte_div n q r hr, ← ev]
        rw [show ((2 : Int) ^ (r * 8)) = ((2 ^ (r * 8) : Nat) : Int) by rw [Int.natCast_pow]; rfl]
        omega)
      have HB' := Lib.hid (HB.out.set (sz - 1 - k) (n / 256 ^ k % 256))
      clear hq8 hr8 hlen x3 hcc ev hkq
      go_wp2_with fail
      rw [HV.out]
      refine ⟨⟨k + 1, by omega, by go_num, Lib.hid ?_, Lib.hid (HBel.out.setCell (Nat.le_refl _) _)⟩, by simp [intOf]; omega⟩
      have := HB'.out
      rw [Big.bd_set n k sz hkn] at this
      exact this
    · have hkl : k = sz := by omega
      subst hkl
      have hB := HB.out
      rw [Nat.sub_self, List.replicate_zero, List.nil_append] at hB
      have hcv := run_convert_bytes_back (P := Tryz.prog) wr 166 9 5 ⟨w.heap.size, 0, none⟩ k (Big.btext n k) Tryz.underlying166 Tryz.underlying5 Tryz.underlying9 (fun j hj => by
        have hj' : j < k := by simpa [Big.btext_length] using hj
        have h1 := hB.cell j (by simpa [Big.bd_length] using hj')
        have ha : (⟨w.heap.size, 0, none⟩ : Addr).add j = ⟨w.heap.size, j, none⟩ := by unfold Addr.add; split <;> simp_all
        rw [ha, h1]
        rw [Big.btext_get n k j hj])
      rw [Big.btext_length] at hcv
      clear hB
      go_wp2
      go_ret
      exact ⟨k, rfl, HSZ.out, HBel.out⟩
end Go.Proofs.YtmioikbnjflldaaGreatDoor
namespace Go.Proofs.YtmioikbnjflldaaGreatDoor
namespace Big
structure Dig (B U Y y1 v q r : Nat) : Prop where
  eq : q * y1 + r = U
  ge : (U * B + v) / Y ≤ q
theorem Dig.start {B U Y y1 y0 v : Nat} (hY : Y = y1 * B + y0) (hv : v < B) (hy1 : 0 < y1) (hB : 0 < B) : Dig B U Y y1 v (U / y1) (U % y1) := by
  refine ⟨by rw [Nat.mul_comm]; exact Nat.div_add_mod U y1, ?_⟩
  have h : (U * B + v) / Y * Y ≤ U * B + v := Nat.div_mul_le_self _ _
  exact guess_div (P := B) (X := U * B + v) (Y := Y) rfl hv hY h hy1
theorem Dig.too_great {B U Y y1 y0 v q r : Nat} (h : Dig B U Y y1 v q r) (hY : Y = y1 * B + y0) (hB : 0 < B) (hy1 : 0 < y1) (ht : B * r + v < q * y0) : (U * B + v) / Y ≤ q - 1 := by
  have hYp : 0 < Y := by rw [hY]; have : 0 < y1 * B := Nat.mul_pos hy1 hB; omega
  have h1 : U * B + v < q * Y := by
    rw [hY, Nat.mul_add, ← Nat.mul_assoc, ← h.eq, Nat.add_mul, Nat.mul_comm r B]; omega
  have h2 := (Nat.div_lt_iff_lt_mul hYp).2 h1
  omega
theorem Dig.just {B U Y y1 y0 v q r : Nat} (h : Dig B U Y y1 v q r) (hY : Y = y1 * B + y0) (hYp : 0 < Y) (ht : q * y0 ≤ B * r + v) : (U * B + v) / Y = q := by
  have h1 : q * Y ≤ U * B + v := by
    rw [hY, Nat.mul_add, ← Nat.mul_assoc, ← h.eq, Nat.add_mul, Nat.mul_comm r B]; omega
  have h2 := (Nat.le_div_iff_mul_le hYp).2 h1
  have := h.ge
  omega
theorem Dig.less {B U Y y1 v q r : Nat} (h : Dig B U Y y1 v q r) (hq : 0 < q) (ht : (U * B + v) / Y ≤ q - 1) : Dig B U Y y1 v (q - 1) (r + y1) := by
  refine ⟨?_, ht⟩
  have := h.eq
  have e : q * y1 = (q - 1) * y1 + y1 := by
    conv => lhs; rw [show q = q - 1 + 1 by omega]
    rw [Nat.add_mul, Nat.one_mul]
  omega
theorem Dig.broke {B U Y y1 y0 v q r : Nat} (h : Dig B U Y y1 v q r) (hY : Y = y1 * B + y0) (hYp : 0 < Y) (hy0 : y0 < B) (hq : q ≤ B) (hr : B ≤ r) : (U * B + v) / Y = q := by
  apply h.just hY hYp
  have h1 : q * y0 ≤ B * B := Nat.mul_le_mul hq (by omega)
  have h2 : B * B ≤ B * r := Nat.mul_le_mul_left B hr
  omega
theorem digit_lt {B U Y v : Nat} (hv : v < B) (hU : U < Y) : (U * B + v) / Y < B := by
  rw [Nat.div_lt_iff_lt_mul (by omega)]
  have : (U + 1) * B ≤ Y * B := Nat.mul_le_mul_right B hU
  rw [Nat.add_mul] at this
  rw [Nat.mul_comm B Y]; omega
theorem two_digits {B U Y v1 v0 : Nat} (hB : 0 < B) (hY : 0 < Y) (h0 : v0 < B) :
    (U * (B * B) + (v1 * B + v0)) / Y = (U * B + v1) / Y * B + ((U * B + v1) % Y * B + v0) / Y ∧ (U * (B * B) + (v1 * B + v0)) % Y = ((U * B + v1) % Y * B + v0) % Y := by
  have e : U * (B * B) + (v1 * B + v0) = Y * ((U * B + v1) / Y * B) + ((U * B + v1) % Y * B + v0) := by
    have h := Nat.div_add_mod (U * B + v1) Y
    have h2 : (Y * ((U * B + v1) / Y) + (U * B + v1) % Y) * B = (U * B + v1) * B := by rw [h]
    rw [Nat.add_mul, Nat.add_mul, Nat.mul_assoc Y, Nat.mul_assoc U] at h2
    omega
  rw [e]
  constructor
  · rw [Nat.mul_add_div hY]
  · rw [Nat.mul_add_mod]
theorem norm_shift {hi lo s : Nat} (hs : s ≤ 64) (hhi : hi * 2 ^ s < 18446744073709551616) (hlo : lo < 18446744073709551616) :
    hi * 2 ^ s ||| lo / 2 ^ (64 - s) = hi * 2 ^ s + lo / 2 ^ (64 - s) ∧ hi * 2 ^ s + lo / 2 ^ (64 - s) < 18446744073709551616 + 2 ^ s ∧
      (hi * 18446744073709551616 + lo) * 2 ^ s = (hi * 2 ^ s + lo / 2 ^ (64 - s)) * 18446744073709551616 + lo * 2 ^ s % 18446744073709551616 := by
  have e64 : (18446744073709551616 : Nat) = 2 ^ s * 2 ^ (64 - s) := by rw [← Nat.pow_add, show s + (64 - s) = 64 by omega]
  have h1 : lo / 2 ^ (64 - s) < 2 ^ s := by
    rw [Nat.div_lt_iff_lt_mul (Nat.pow_pos (by omega)), ← e64]; exact hlo
  refine ⟨?_, by omega, ?_⟩
  · rw [← Nat.shiftLeft_eq, ← Nat.shiftLeft_add_eq_or_of_lt h1, Nat.shiftLeft_eq]
  · have h2 : lo * 2 ^ s / 18446744073709551616 = lo / 2 ^ (64 - s) := by
      rw [e64, Nat.mul_comm lo, Nat.mul_div_mul_left _ _ (Nat.pow_pos (by omega))]
    have h3 := Nat.div_add_mod (lo * 2 ^ s) 18446744073709551616
    rw [h2] at h3
    rw [Nat.add_mul, Nat.add_mul, Nat.mul_right_comm]
    omega
theorem shift_div {X y s : Nat} : X * 2 ^ s / (y * 2 ^ s) = X / y ∧ X * 2 ^ s % (y * 2 ^ s) = X % y * 2 ^ s :=
  ⟨Nat.mul_div_mul_right _ _ (Nat.pow_pos (by omega)), Nat.mul_mod_mul_right _ _ _⟩
end Big
end Go.Proofs.YtmioikbnjflldaaGreatDoor
