/- Contracts. -/
import Derived.Test.YtfenjkgbedbleaaGreatDoorBKq11
import Derived.Laws.StructEq
import Derived.Test.YtfenjkgbedbleaaGreatDoorProg
import Derived.Test.YtfenjkgbedbleaaGreatDoorBKq10
import Derived.Test.YtfenjkgbedbleaaGreatDoorBKq01
import Derived.IntWalk
import Derived.LoopN
import Derived.Laws.IdiomStrings
import Derived.Test.YtfenjkgbedbleaaGreatDoorBKq07
import Derived.Test.YtfenjkgbedbleaaGreatDoorBKq08
import Derived.Deep.RegionHeld3
import Derived.Lib.IndexMore
import Derived.Lib.Strings
import Derived.Test.YtfenjkgbedbleaaGreatDoorShelf
namespace Go.Proofs.YtfenjkgbedbleaaGreatDoor
open Go.RowKit
@[go_sem] theorem eq_same (a : Bool) (s t : ByteArray) (w : World) : (Op.equalIn 10000 23 (.agg #[.bool a, .string s, .string t]) (.agg #[.bool a, .string s, .string t])).run Tryz.prog w = .ok true w := by
  have hS : Tryz.prog.underlying 23 = some (.struct (Tryz.prog.fieldsOf 23)) := by kernel_rfl
  have hp : Tryz.prog.stoodInHeld 23 = false := by kernel_rfl
  rw [show (10000 : Nat) = 9999 + 1 from rfl, run_equalIn_struct w 9999 23 _ _ hS hp]
  simp only [Program.fieldsOf, Tryz.underlying23]
  go_simp
theorem cmp_fl (q : Rat) : Big.cmpQ (Big.flQ q) q ≤ 0 := by
  have h := Big.flQ_le q
  unfold Big.cmpQ
  split
  · omega
  · split
    · omega
    · next h1 h2 => exact absurd (Rat.le_antisymm h (Rat.not_lt.1 h1)) h2
theorem one_eq : ofQ 1 1 = 1 := by decide +kernel
theorem cmp_next (q : Rat) : 0 < Big.cmpQ (Big.flQ q + ofQ 1 1) q := by
  have h := Big.lt_flQ q
  rw [one_eq]
  unfold Big.cmpQ
  have h2 : ¬ Big.flQ q + 1 < q := fun c => absurd (Rat.le_of_lt c) (Rat.not_le.2 h)
  have h3 : ¬ Big.flQ q + 1 = q := fun c => by rw [c] at h; exact absurd Rat.le_refl (Rat.not_le.2 h)
  rw [if_neg h2, if_neg h3]
  omega
set_option maxHeartbeats 1000000 in
theorem back_small (n d : Int) (h0 : -9223372036854775808 ≤ n) (h1 : n ≤ 9223372036854775807) (h2 : -9223372036854775808 ≤ d) (h3 : d ≤ 9223372036854775807) (hd : d ≠ 0) :
    Big.nu (Big.flQ (ofQ n d)) ≤ 9223372036854775808 ∧ (Big.nu (Big.flQ (ofQ n d)) = 9223372036854775808 → Big.ng (Big.flQ (ofQ n d)) = true ∨ d = -1) := by
  obtain ⟨p1, p2, p3⟩ := Big.of_parts (decide (n < 0) != decide (d < 0)) n.natAbs d.natAbs (by omega)
  obtain ⟨f1, f2, f3⟩ := Big.flQ_parts (ofQ n d)
  rw [f1, f2]
  change Big.ng (ofQ n d) = _ at p1
  change Big.nu (ofQ n d) = _ at p2
  change Big.de (ofQ n d) = _ at p3
  have hg := Big.gcd_pos_right (n := n.natAbs) (d := d.natAbs) (by omega)
  have g1 := Nat.div_mul_cancel (Nat.gcd_dvd_left n.natAbs d.natAbs)
  have g2 := Nat.div_mul_cancel (Nat.gcd_dvd_right n.natAbs d.natAbs)
  rw [p1, p2, p3]
  generalize Nat.gcd n.natAbs d.natAbs = g at *
  generalize hA : n.natAbs / g = A at *
  generalize hB : d.natAbs / g = B at *
  have hB1 : 1 ≤ B := by
    rcases Nat.eq_zero_or_pos B with e | e
    · rw [e, Nat.zero_mul] at g2; omega
    · exact e
  have hA2 : A ≤ n.natAbs := by rw [← g1]; exact Nat.le_mul_of_pos_right _ hg
  have dm := Nat.div_add_mod A B
  have hK : A / B ≤ B * (A / B) := Nat.le_mul_of_pos_left _ hB1
  have hup : A / B + (if ((decide (n < 0) != decide (d < 0)) && decide (0 < A)) = true ∧ 0 < A % B then 1 else 0) ≤ 9223372036854775808 := by
    split
    · next h =>
      have := h.2
      omega
    · omega
  refine ⟨hup, fun he => ?_⟩
  by_cases hs : ((decide (n < 0) != decide (d < 0)) && decide (0 < A)) = true
  · exact Or.inl hs
  · right
    rw [if_neg (fun h => hs h.1), Nat.add_zero] at he
    have hAe : A = 9223372036854775808 := by omega
    have hBe : B = 1 := by
      rw [he] at dm
      have : B * 9223372036854775808 ≤ 9223372036854775808 := by omega
      omega
    have hge : g = 1 := by
      rw [hAe] at g1
      have : 9223372036854775808 * g ≤ 9223372036854775808 := by omega
      omega
    rw [hBe, hge] at g2
    have hn : n = -9223372036854775808 := by
      rw [hAe, hge] at g1; omega
    have hdd : d = 1 ∨ d = -1 := by omega
    rcases hdd with e | e
    · exfalso; apply hs
      rw [hn, hAe, e]; decide
    · exact e
theorem back_int64 (n d : Int) (h0 : -9223372036854775808 ≤ n) (h1 : n ≤ 9223372036854775807) (h2 : -9223372036854775808 ≤ d) (h3 : d ≤ 9223372036854775807) (hd : d ≠ 0) :
    ∃ i b, (∀ w, Calls Tryz.prog 10 #[.agg #[.bool (Big.ng (Big.flQ (ofQ n d))), .string (bst (Big.nu (Big.flQ (ofQ n d)))), .string (bst (Big.de (Big.flQ (ofQ n d))))]] w (Int2 w (i, b))) ∧ (b = true ∨ (d == -1) = true) := by
  obtain ⟨s1, s2⟩ := back_small n d h0 h1 h2 h3 hd
  obtain ⟨-, -, f3⟩ := Big.flQ_parts (ofQ n d)
  have hM : Big.M64 = 18446744073709551616 := by decide
  have hF : Fit (Big.flQ (ofQ n d)) := (By.fit (k := 8) ⟨Nat.lt_of_le_of_lt s1 (by decide), by rw [f3]; decide⟩ (by omega))
  generalize Big.flQ (ofQ n d) = F at *
  by_cases hm : (Big.nu F : Int) ≤ 9223372036854775807
  · cases hng : Big.ng F with
    | true => exact ⟨_, _, fun w => hng ▸ int64_neg w F hF f3 (by omega) hm hng, Or.inl rfl⟩
    | false => exact ⟨_, _, fun w => hng ▸ int64_pos w F hF f3 (by omega) hm (by rw [hng]; simp), Or.inl rfl⟩
  · have he : Big.nu F = 9223372036854775808 := by omega
    rcases s2 he with hng | hd
    · exact ⟨_, _, fun w => int64_least w F hF f3 (by omega) hm (by rw [he]; rfl) hng, Or.inl rfl⟩
    · cases hng : Big.ng F with
      | true => exact ⟨_, _, fun w => hng ▸ int64_least w F hF f3 (by omega) hm (by rw [he]; rfl) hng, Or.inl rfl⟩
      | false => exact ⟨_, _, fun w => hng ▸ int64_over w F hF f3 (by omega) hm (by rw [he]; rfl) (by rw [hng]; simp), Or.inr (by rw [hd]; rfl)⟩
theorem digs_at {s : ByteArray} (h : Big.Digs s.data.toList) (i : Nat) (hi : i < s.size) : 48 ≤ (s[i]).toNat ∧ (s[i]).toNat ≤ 57 :=
  h _ (by
    have h1 : i < s.data.size := hi
    have : s[i] = s.data[i] := rfl
    rw [this]; exact Array.getElem_mem_toList h1)
theorem take_snoc_bytes (s : ByteArray) (k : Nat) (h : k < s.size) : s.data.toList.take (k + 1) = s.data.toList.take k ++ [s[k]] := by
  have h1 : k < s.data.toList.length := by rw [Array.length_toList]; exact h
  rw [List.take_succ_eq_append_getElem h1]; rfl
set_option maxRecDepth 100000 in
set_option maxHeartbeats 1000000 in
theorem groupValue_any (w : World) (s : ByteArray) (h : Big.Digs s.data.toList) (hs : s.size ≤ 19) :
    Calls Tryz.prog 63 #[.string s] w fun e w' => e = .returned (.int .u64 ((Big.dnum s.data.toList : Nat) : Int)) ∧ w = w' := by
  have HD := Lib.hid h
  clear h
  go_enter Tryz.func63, Tryz.ntmps63
  go_wp2_with fail
  go_loop [3, 7] (fun a i => ∃ k : Nat, k ≤ s.size ∧ i = .int .i64 k ∧ a = .int .u64 ((Big.dnum (s.data.toList.take k) : Nat) : Int)) (fun _ i => s.size - (intOf i).toNat)
  case atStart => exact ⟨0, by omega, rfl, rfl⟩
  case round =>
    obtain ⟨k, hk, rfl, rfl⟩ := hrel
    by_cases hks : k < s.size
    · have hkI : (k : Int) < (s.size : Int) := by omega
      obtain ⟨d1, d2⟩ := digs_at HD.out k hks
      have hb := Big.dnum_lt (l := s.data.toList.take k) (fun c hc => HD.out c (List.mem_of_mem_take hc))
      have hl : (s.data.toList.take k).length = k := by rw [List.length_take, Array.length_toList]; exact Nat.min_eq_left hk
      rw [hl] at hb
      have hp : 10 ^ k ≤ 10 ^ 18 := Nat.pow_le_pow_right (by omega) (by omega)
      have hb2 : Big.dnum (s.data.toList.take k) < 1000000000000000000 := by omega
      have HE := Lib.hid (show Big.dnum (s.data.toList.take (k + 1)) = Big.dnum (s.data.toList.take k) * 10 + ((s[k]).toNat - 48) by rw [take_snoc_bytes s k hks, Big.dnum_snoc])
      generalize Big.dnum (s.data.toList.take k) = D at *
      clear hb hl hp
      go_wp2_with fail
      go_round
      case rel => exact ⟨k + 1, by omega, by go_num, by rw [HE.out]; apply congrArg; omega⟩
      case measure => simp [intOf]; omega
    · have hkl : k = s.size := by omega
      subst hkl
      have he : s.data.toList.take s.size = s.data.toList := List.take_of_length_le (by rw [Array.length_toList]; exact Nat.le_refl _)
      rw [he]
      clear he
      go_wp2_with fail
      go_ret
      exact ⟨rfl, rfl⟩
set_option maxRecDepth 100000 in
set_option maxHeartbeats 1000000 in
theorem isText_true (w : World) (s : ByteArray) (h : Big.IsText s.data.toList) (hs : s.size ≤ 1000000000) :
    Calls Tryz.prog 60 #[.string s] w fun e w' => e = .returned (.bool true) ∧ w = w' := by
  obtain ⟨h1, h2, h3⟩ := h
  have hpos : 0 < s.size := by
    rcases Nat.eq_zero_or_pos s.size with e | e
    · exact absurd (List.length_eq_zero_iff.1 (by rw [Array.length_toList]; exact e)) h1
    · exact e
  have n1 : ¬ s.toList = [] := by rw [ByteArray.toList_eq]; exact h1
  have n2 : s.toList.isEmpty = false := by rw [Bool.eq_false_iff]; intro e; exact n1 (List.isEmpty_iff.1 e)
  have HD := Lib.hid h3
  have hz : s = ⟨#[48]⟩ ∨ ((s[0].toNat : Int) == 48) = false := by
    by_cases e : s[0].toNat = 48
    · left
      have e1 : s.data.toList.head? = some 48 := by
        have hl : 0 < s.data.toList.length := by rw [Array.length_toList]; exact hpos
        rw [List.head?_eq_getElem?, List.getElem?_eq_getElem hl]
        congr 1
        apply UInt8.toNat_inj.1
        exact e
      have e2 := h2 e1
      have e3 : s.data = #[48] := by apply Array.ext'; rw [e2]
      cases s; simp at e3; rw [e3]
    · right; rw [beq_eq_false_iff_ne]; omega
  rcases hz with rfl | hz
  · clear h1 h2 h3 n1 n2 HD hpos hs
    go_enter Tryz.func60, Tryz.ntmps60
    go_wp2_with fail
    refine wp_loop_rounds 2 ?_
    rw [rounds_succ]
    go_wp2_with fail
    rw [rounds_succ]
    go_wp2_with fail
    go_ret
    exact ⟨rfl, rfl⟩
  · clear h1 h2 h3
    go_enter Tryz.func60, Tryz.ntmps60
    go_wp2_with fail
    go_loop [17] (fun i => ∃ k : Nat, k ≤ s.size ∧ i = .int .i64 k) (fun i => s.size - (intOf i).toNat)
    case atStart => exact ⟨0, by omega, rfl⟩
    case round =>
      obtain ⟨k, hk, rfl⟩ := hrel
      by_cases hks : k < s.size
      · have hkI : (k : Int) < (s.size : Int) := by omega
        obtain ⟨d1, d2⟩ := digs_at HD.out k hks
        have q1 : ¬ ((s[k].toNat : Int) < 48) := by omega
        have q2 : ¬ ((s[k].toNat : Int) > 57) := by omega
        go_wp2_with fail
        go_round
        case rel => exact ⟨k + 1, by omega, by go_num⟩
        case measure => simp [intOf]; omega
      · have hkl : k = s.size := by omega
        subst hkl
        go_wp2_with fail
        go_ret
        exact ⟨rfl, rfl⟩
theorem pow10_lt {n : Nat} (h : n ≤ 19) : 10 ^ n < Big.M64 :=
  Nat.lt_of_le_of_lt (Nat.pow_le_pow_right (by omega) h) (by unfold Big.M64; omega)
set_option maxRecDepth 100000 in
set_option maxHeartbeats 2000000 in
theorem power10_any (w : World) (n : Nat) (hn : n ≤ 19) :
    Calls Tryz.prog 62 #[.int .i64 (n : Int)] w fun e w' => e = .returned (.int .u64 ((10 ^ n : Nat) : Int)) ∧ w = w' := by
  obtain ⟨R, hR⟩ : ∃ R, 10 ^ n = R := ⟨_, rfl⟩
  rw [hR]
  have HR := Lib.hid hR
  clear hR
  go_enter Tryz.func62, Tryz.ntmps62
  go_wp2_with fail
  go_loopw [3, 5] (fun a i wr => ∃ k P : Nat, k ≤ n ∧ i = .int .i64 k ∧ a = .int .u64 (P : Int) ∧ Hid (P = 10 ^ k) ∧ wr = w) (fun _ i _ => n - (intOf i).toNat)
  case atStart => exact ⟨0, 1, by omega, rfl, rfl, Lib.hid rfl, rfl⟩
  case round =>
    obtain ⟨k, P, hk, rfl, rfl, HP, rfl⟩ := hrel
    by_cases hkn : k < n
    · have hlt := pow10_lt (n := k + 1) (by omega)
      have e : 10 ^ (k + 1) = P * 10 := by rw [Nat.pow_succ, HP.out]
      rw [e, Big.M64_eq] at hlt
      have HP' := Lib.hid e.symm
      have a1 : IntKind.u64.wrap ((P : Int) * 10) = ((P * 10 : Nat) : Int) := by
        rw [show (P : Int) * 10 = ((P * 10 : Nat) : Int) by omega]; exact wrapN _ hlt
      obtain ⟨P', hP'⟩ : ∃ z, P * 10 = z := ⟨_, rfl⟩
      rw [hP'] at a1 HP'
      clear e hlt hP'
      go_wp2_with fail
      go_roundw
      case rel => exact ⟨k + 1, P', by omega, by go_num, rfl, HP', by first | trivial | rfl⟩
      case measure => simp [intOf]; omega
    · have hkl : k = n := by omega
      subst hkl
      go_wp2
      go_ret
      exact ⟨ret_int (by rw [HP.out, HR.out]), rfl⟩
theorem muladd_round {l zs : List Nat} {k m o : Nat} {x0 : Nat} (ol : Big.Ok Big.M64 l) (hm : m < Big.M64) (ho : o < Big.M64)
    (h : zs.length = k ∧ Big.Ok Big.M64 zs ∧ Big.val Big.M64 zs + Big.M64 ^ k * o = Big.val Big.M64 (l.take k) * m + x0) :
    hi64 (Big.nth l k * m + o) < Big.M64 ∧ (zs ++ [lo64 (Big.nth l k * m + o)]).length = k + 1 ∧ Big.Ok Big.M64 (zs ++ [lo64 (Big.nth l k * m + o)]) ∧
      Big.val Big.M64 (zs ++ [lo64 (Big.nth l k * m + o)]) + Big.M64 ^ (k + 1) * hi64 (Big.nth l k * m + o) = Big.val Big.M64 (l.take (k + 1)) * m + x0 := by
  obtain ⟨h1, h2, h3⟩ := h
  refine ⟨hi64_mul (ol.nth Big.M64_pos k) hm ho, by simp [h1], h2.append (Big.Ok.cons (by rw [Big.M64_eq]; exact lo64_lt _) Big.Ok.nil), ?_⟩
  rw [Big.val_snoc, h1, Big.val_take_succ', Nat.pow_succ]
  have e := lo_hi (Big.nth l k * m + o)
  rw [← Big.M64_eq] at e
  generalize lo64 (Big.nth l k * m + o) = a at *
  generalize hi64 (Big.nth l k * m + o) = b at *
  generalize Big.M64 ^ k = P at *
  generalize Big.val Big.M64 (l.take k) = V at *
  generalize Big.val Big.M64 zs = Z at *
  generalize Big.nth l k = x at *
  grind
theorem norm_of_ge {zs : List Nat} (oz : Big.Ok Big.M64 zs) (h : zs ≠ [] → Big.M64 ^ (zs.length - 1) ≤ Big.val Big.M64 zs) : Big.Norm zs := by
  intro hl
  obtain ⟨r, rfl⟩ := List.getLast?_eq_some_iff.1 hl
  have h1 := h (by simp)
  rw [Big.val_snoc, Nat.mul_zero, Nat.add_zero] at h1
  have h2 := Big.val_lt r (fun d hd => oz d (by simp [hd]))
  simp at h1
  omega
set_option maxRecDepth 100000 in
set_option maxHeartbeats 4000000 in
theorem mulAddWord_any (w : World) (g c n m o : Nat) (v : Value) (h : OwnNat w v g c n) (hm : m < Big.M64) (hm1 : 1 ≤ m) (ho : o < Big.M64) (hf : n * m + o < Big.M64 ^ c) (hc : c ≤ 1000000000) :
    Calls Tryz.prog 61 #[v, .int .u64 (m : Int), .int .u64 (o : Int)] w fun e w' => ∃ v', e = .returned v' ∧ OwnNat w' v' g c (n * m + o) ∧ Only g w w' := by
  obtain ⟨k, X, rfl, hb, hk, hcX, hcl, oX, nX, lX, hv⟩ := h.len
  have HB0 := Lib.hid hb; have OX := Lib.hid oX; have NX := Lib.hid (And.intro nX (And.intro lX hv))
  have HM := Lib.hid hm; have HM1 := Lib.hid hm1; have HO := Lib.hid ho; have HF := Lib.hid (And.intro hcX hcl)
  clear hb oX nX lX hv hm ho h hcX
  go_enter Tryz.func61, Tryz.ntmps61
  go_wp2_with fail
  have HFF := Lib.hid hf
  clear hf
  go_loopw [2, 10] (fun a i wr => ∃ (j q : Nat) (zs : List Nat), j ≤ k ∧ i = .int .i64 j ∧ a = .int .u64 (q : Int) ∧ Hid (q < Big.M64) ∧
      Hid (zs.length = j ∧ Big.Ok Big.M64 zs ∧ Big.val Big.M64 zs + Big.M64 ^ j * q = Big.val Big.M64 (X.take j) * m + o) ∧
      Hid (Blk wr g 58 .u64 (zs ++ X.drop j)) ∧ Hid (Only g w wr)) (fun _ i _ => k - (intOf i).toNat)
  case atStart => exact ⟨0, o, [], by omega, rfl, rfl, HO, Lib.hid ⟨rfl, Big.Ok.nil, by simp [Big.val]⟩, HB0, Lib.hid (Only.refl _ _)⟩
  case round =>
    obtain ⟨j, q, zs, hj, rfl, rfl, HQ, HZ, HB, HOn⟩ := hrel
    by_cases hjk : j < k
    · have hst := HB.out.cell j (by have := HZ.out.1; have := HF.out.1; simp; omega)
      rw [nth_at HZ.out.1] at hst
      have hfr := HB.out.frozen j
      have R := muladd_round OX.out HM.out HQ.out HZ.out
      have hxM := OX.out.nth Big.M64_pos j
      obtain ⟨x, hx⟩ : ∃ z, Big.nth X j = z := ⟨_, rfl⟩
      rw [hx] at R hst hxM
      have CT := Lib.hid (fun W => timesPlus_any x m q (by rw [← Big.M64_eq]; exact hxM) (by rw [← Big.M64_eq]; exact HM.out) (by rw [← Big.M64_eq]; exact HQ.out) W)
      have R0 := Lib.hid R.1
      have R2 := Lib.hid R.2
      have HB' := Lib.hid (HB.out.set j (lo64 (x * m + q)))
      have HO' := Lib.hid (HOn.out.setCell j (.int .u64 ((lo64 (x * m + q) : Nat) : Int)))
      have hjI : (j : Int) < (k : Int) := by omega
      clear R hx hxM
      go_wp2_with (go_at_call 82; refine (CT.out _).mono ?_; rintro e w' ⟨rfl, rfl⟩)
      go_roundw
      case rel =>
        refine ⟨j + 1, _, _, by omega, by go_num, rfl, R0, R2, Lib.hid ?_, HO'⟩
        have h1 := HB'.out
        rw [set_drop zs X j _ HZ.out.1 (by have := HF.out.1; omega)] at h1
        exact h1
      case measure => simp [intOf]; omega
    · have hkl : j = k := by omega
      subst hkl
      have Z := HZ.out
      rw [NX.out.2.2] at Z
      by_cases hq : q = 0
      · subst hq
        clear Z
        go_wp2_with fail
        go_ret
        have Z := HZ.out
        rw [NX.out.2.2, Nat.mul_zero, Nat.add_zero] at Z
        have e : (zs ++ X.drop j).take j = zs := by rw [List.take_append_of_le_length (by omega), List.take_of_length_le (by omega)]
        refine ⟨_, rfl, ⟨zs ++ X.drop j, j, rfl, HB.out, by have := HF.out.1; simp; omega, Z.2.1.append (OX.out.drop _), hk, HF.out.2, ?_, by rw [e]; exact Z.2.2⟩, HOn.out⟩
        rw [e]
        refine norm_of_ge Z.2.1 (fun hne => ?_)
        have hj0 : 0 < zs.length := List.length_pos_iff.2 hne
        have h1 := Big.norm_ge (B := Big.M64) (X.take j) NX.out.1 (by intro e2; have := NX.out.2.1; rw [e2] at this; simp at this; omega)
        rw [NX.out.2.2, NX.out.2.1] at h1
        rw [Z.2.2, Z.1]
        have h2 := Nat.mul_le_mul_left n HM1.out
        omega
      · have hq1 : ((q : Int) != 0) = true := by rw [bne_iff_ne]; omega
        have hM1 : 1 < Big.M64 := by unfold Big.M64; omega
        have hjc : j < c := by
          have h1 := HFF.out
          rw [← Z.2.2] at h1
          have h2 := Nat.mul_le_mul_left (Big.M64 ^ j) (show 1 ≤ q by omega)
          exact (Nat.pow_lt_pow_iff_right hM1).1 (by omega)
        have hroom : (j : Int) + 1 ≤ (c : Int) := by omega
        have hBa := HB.out.alloc' (.cells #[.int .u64 (q : Int)] 58)
        have hst := hBa.cell j (by have := HF.out.1; simp; omega)
        have hfr := hBa.frozen j
        have HB' := Lib.hid (hBa.set j q)
        have HO' := Lib.hid (Only.setCell (HOn.out.trans (Only.of_below ((Below.refl wr.heap.size wr).alloc (Nat.le_refl _) (.cells #[.int .u64 (q : Int)] 58)))) j (.int .u64 (q : Int)))
        have HZ2 := Lib.hid Z
        clear Z hBa hM1
        go_wp2_with fail
        go_ret
        have hB := HB'.out
        rw [set_drop zs X j _ HZ.out.1 (by have := HF.out.1; omega)] at hB
        have hl1 : (zs ++ [q]).length = j + 1 := by simp [HZ.out.1]
        have e : ((zs ++ [q]) ++ X.drop (j + 1)).take (j + 1) = zs ++ [q] := by rw [List.take_append_of_le_length (by omega), List.take_of_length_le (by omega)]
        have hval : Big.val Big.M64 (zs ++ [q]) = n * m + o := by
          rw [Big.val_snoc, HZ.out.1]; exact HZ2.out.2.2
        refine ⟨_, rfl, ⟨(zs ++ [q]) ++ X.drop (j + 1), j + 1, rfl, hB, by have := HF.out.1; simp [HZ.out.1]; omega, (HZ.out.2.1.append (Big.Ok.cons HQ.out Big.Ok.nil)).append (OX.out.drop _), by omega, HF.out.2, ?_, by rw [e]; exact hval⟩, HO'.out⟩
        rw [e]
        simp [Big.Norm, hq]
def ParseR (w : World) (n : Nat) (e : Ending) (w' : World) : Prop := ∃ v', e = .returned (.tuple #[v', .bool true]) ∧ NatIn w' v' n ∧ Below w.heap.size w w'
theorem own_zero {w : World} {g c : Nat} (hb : Blk w g 58 .u64 (List.replicate c 0)) (hc : c ≤ 1000000000) : OwnNat w (.slice (some ⟨g, 0, none⟩) 0 c) g c 0 :=
  ⟨List.replicate c 0, 0, rfl, hb, by simp, fun d hd => by rw [(List.mem_replicate.1 hd).2]; exact Big.M64_pos, by omega, by omega, by simp [Big.Norm], by simp [Big.val]⟩
theorem group_at {l : Nat} (h : 1 ≤ l) : 1 ≤ (l - 1) % 19 + 1 ∧ (l - 1) % 19 + 1 ≤ l ∧ (l - 1) % 19 + 1 ≤ 19 := by omega
theorem parse_fits {a g r : List UInt8} {c : Nat} (hd : Big.Digs (a ++ g)) (hc : (a ++ g ++ r).length ≤ 19 * c) : Big.dnum a * 10 ^ g.length + Big.dnum g < Big.M64 ^ c := by
  rw [← Big.dnum_append]
  have h1 := Big.dnum_lt hd
  have h2 : 10 ^ (a ++ g).length ≤ 10 ^ (19 * c) := Nat.pow_le_pow_right (by omega) (by rw [List.length_append] at hc; omega)
  have h3 : 10 ^ (19 * c) ≤ Big.M64 ^ c := by rw [Nat.pow_mul]; exact Nat.pow_le_pow_left (by unfold Big.M64; omega) c
  omega
theorem ext_take (r : ByteArray) (n : Nat) : (r.extract 0 n).data.toList = r.data.toList.take n := by simp [ByteArray.data_extract]
theorem ext_drop (r : ByteArray) (n : Nat) : (r.extract n r.size).data.toList = r.data.toList.drop n := by
  rw [ByteArray.data_extract]
  have h : r.size = r.data.size := rfl
  rw [Array.toList_extract, List.extract_eq_take_drop, h]
  exact List.take_of_length_le (by rw [List.length_drop, Array.length_toList]; exact Nat.le_refl _)
theorem Only.new_below {w w1 w2 : World} {g : Nat} (h : Only g w1 w2) (hb : Below w.heap.size w w1) (hg : w.heap.size ≤ g) : Below w.heap.size w w2 := h.below hb hg hb.size
set_option maxRecDepth 100000 in
set_option maxHeartbeats 2000000 in
theorem parse_any (w : World) (s : ByteArray) (h : Big.IsText s.data.toList) (hs : s.size ≤ 1000000) :
    Calls Tryz.prog 41 #[.string s] w (ParseR w (Big.dnum s.data.toList)) := by
  obtain ⟨i0, hi, hz0, hz1, hz2⟩ := info_parts Tryz.infoU64
  have HT := Lib.hid (isText_true w s h (by omega))
  have HD := Lib.hid h.2.2
  obtain ⟨c, hc⟩ : ∃ c, s.size / 19 + 1 = c := ⟨_, rfl⟩
  have hcI : (s.size : Int) / 19 + 1 = (c : Int) := by omega
  have hmk : ∀ W, (Instr.makeSlice 40 (.int .i64 0) (.int .i64 ((c : Nat) : Int))).run Tryz.prog W = .ok (.slice (some ⟨W.heap.size, 0, none⟩) 0 c) (W.alloc (.cells (cellsOf .u64 (List.replicate c 0)) 58)) := fun W =>
    make_words (P := Tryz.prog) Tryz.underlying40 hi hz0 hz1 (by rw [hz2]; omega) .i64 .i64 0 c (by omega) (by omega) W
  have HB := Lib.hid (Blk.new w 58 .u64 (List.replicate c 0))
  have HBel := Lib.hid (below_alloc (Below.refl w.heap.size w) (Nat.le_refl _) (.cells (cellsOf .u64 (List.replicate c 0)) 58))
  have hcb : c ≤ 1000000 := by omega
  have HC := Lib.hid (show s.data.toList.length ≤ 19 * c by rw [Array.length_toList]; show s.size ≤ _; omega)
  obtain ⟨L, hL⟩ : ∃ L, s.data.toList = L := ⟨_, rfl⟩
  rw [hL] at HD HC ⊢
  have HL := Lib.hid hL
  clear h hc hL
  go_enter Tryz.func41, Tryz.ntmps41
  go_wp2_with fail
  refine HT.out.mono ?_
  rintro e w' ⟨rfl, rfl⟩
  go_wp2_with fail
  clear hmk hcI
  go_loopw [0, 4] (fun sv xv wr => ∃ (a b : List UInt8) (r : ByteArray), sv = .string r ∧ Hid (r.data.toList = b ∧ a ++ b = L) ∧ Hid (OwnNat wr xv w.heap.size c (Big.dnum a)) ∧ Hid (Below w.heap.size w wr)) (fun sv _ _ => match sv with | .string r => r.size | _ => 0)
  case atStart => exact ⟨[], L, s, rfl, Lib.hid ⟨HL.out, rfl⟩, Lib.hid (own_zero HB.out (by omega)), HBel⟩
  case round =>
    obtain ⟨a, b, r, rfl, HR, HO, HBr⟩ := hrel
    have hrl : r.size = b.length := by rw [← HR.out.1, Array.length_toList]; rfl
    have hrs : r.size ≤ 1000000 := by
      have h1 := congrArg List.length HR.out.2
      rw [List.length_append] at h1
      have h2 : L.length = s.size := by rw [← HL.out, Array.length_toList]; rfl
      omega
    have HRL := Lib.hid hrl
    clear hrl
    by_cases hr0 : r.size = 0
    · have hI : ¬ ((r.size : Int) > 0) := by omega
      go_wp2_with fail
      go_ret2
      have hb0 : b = [] := by rw [← HR.out.1]; exact List.length_eq_zero_iff.1 (by rw [Array.length_toList]; exact hr0)
      have e := HR.out.2
      rw [hb0, List.append_nil] at e
      rw [← e]
      exact ⟨_, rfl, HO.out.nat, HBr.out⟩
    · have hI : (r.size : Int) > 0 := by omega
      obtain ⟨g1, g2, g3⟩ := group_at (l := r.size) (by omega)
      obtain ⟨n, hn⟩ : ∃ n, (r.size - 1) % 19 + 1 = n := ⟨_, rfl⟩
      have hnI : ((r.size : Int) - 1) % 19 + 1 = (n : Int) := by omega
      rw [hn] at g1 g2 g3
      have HX1 := Lib.hid (ext_take r n); have HX2 := Lib.hid (ext_drop r n)
      have hdb : Big.Digs b := fun d hd => HD.out d (by rw [← HR.out.2]; simp [hd])
      have hda : Big.Digs a := fun d hd => HD.out d (by rw [← HR.out.2]; simp [hd])
      have htl : (b.take n).length = n := by rw [List.length_take, ← HRL.out]; omega
      have hdt : Big.Digs (b.take n) := fun d hd => hdb d (List.mem_of_mem_take hd)
      have hgv := Big.dnum_lt hdt
      rw [htl] at hgv
      have hfit : Big.dnum a * 10 ^ n + Big.dnum (b.take n) < Big.M64 ^ c := by
        have h1 := parse_fits (a := a) (g := b.take n) (r := b.drop n) (c := c) (hda.append hdt) (by rw [List.append_assoc, List.take_append_drop, HR.out.2]; exact HC.out)
        rwa [htl] at h1
      have hT1 : 10 ^ n < Big.M64 := pow10_lt g3
      have hT0 : 1 ≤ 10 ^ n := Nat.one_le_pow _ _ (by omega)
      have CP := Lib.hid (fun W => power10_any W n g3)
      have CG := Lib.hid (fun W => groupValue_any W (r.extract 0 n) (by rw [HX1.out, HR.out.1]; exact hdt) (by
        have h1 : (r.extract 0 n).data.toList.length = n := by rw [HX1.out, HR.out.1]; exact htl
        rw [Array.length_toList] at h1
        show (r.extract 0 n).data.size ≤ 19
        omega))
      rw [HX1.out, HR.out.1] at CG
      have CM := Lib.hid (fun W (h : OwnNat W u4 w.heap.size c (Big.dnum a)) => mulAddWord_any W w.heap.size c (Big.dnum a) (10 ^ n) (Big.dnum (b.take n)) u4 h hT1 hT0 (by omega) hfit (by omega))
      have HAP := Lib.hid (show Big.dnum a * 10 ^ n + Big.dnum (b.take n) = Big.dnum (a ++ b.take n) by rw [Big.dnum_append, htl])
      rw [HAP.out] at CM
      obtain ⟨gv, hgvE⟩ : ∃ z, Big.dnum (b.take n) = z := ⟨_, rfl⟩
      rw [hgvE] at CG CM
      obtain ⟨T, hT⟩ : ∃ z, 10 ^ n = z := ⟨_, rfl⟩
      rw [hT] at CP CM
      have HO2 := Lib.hid (show OwnNat wr.drew u4 w.heap.size c (Big.dnum a) from HO.out)
      have hnI1 : (0 : Int) ≤ (n : Int) := by omega
      have hnI2 : (n : Int) ≤ (r.size : Int) := by omega
      clear hdb hda htl hdt hgv hfit hT1 hT0 hgvE hT hn
      go_wp2_with fail
      go_region_held3 (fun _ => True) (trivial)
        (first
          | (go_at_call 62; (with_reducible refine (CP.out _).mono ?_); rintro e w' ⟨rfl, rfl⟩)
          | (go_at_call 63; (with_reducible refine (CG.out _).mono ?_); rintro e w' ⟨rfl, rfl⟩)
          | (go_at_call 61; (with_reducible refine (CM.out _ HO2.out).mono ?_); rintro e w5 ⟨v5, rfl, hv5, hw5⟩)
          | fail)
      have HV5 := Lib.hid hv5
      have HB5 := Lib.hid (Only.new_below hw5 (show Below w.heap.size w wr.drew from below_drew HBr.out) (Nat.le_refl _))
      clear hv5 hw5
      go_wp2_with fail
      refine ⟨⟨a ++ b.take n, b.drop n, r.extract n r.size, rfl, Lib.hid ⟨by rw [HX2.out, HR.out.1], by rw [List.append_assoc, List.take_append_drop]; exact HR.out.2⟩, HV5, HB5⟩, ?_⟩
      have h1 : (r.extract n r.size).data.toList.length = r.size - n := by rw [HX2.out, List.length_drop, Array.length_toList]; rfl
      rw [Array.length_toList] at h1
      show (r.extract n r.size).data.size < r.size
      omega
end Go.Proofs.YtfenjkgbedbleaaGreatDoor
namespace Go.Proofs.YtfenjkgbedbleaaGreatDoor.Big
open Go
theorem pre_one (c d : UInt8) (l : List UInt8) : [c].isPrefixOf (d :: l) = (c == d) := by simp [List.isPrefixOf]
theorem index_at : ∀ (a b : List UInt8) (c : UInt8), (∀ d ∈ a, d ≠ c) → Lib.index (a ++ c :: b) [c] = (a.length : Int)
  | [], b, c, _ => by
    rw [List.nil_append, Lib.index, pre_one]; simp
  | d :: a, b, c, h => by
    have ih := index_at a b c (fun x hx => h x (by simp [hx]))
    have hd : (c == d) = false := beq_eq_false_iff_ne.2 (fun e => h d (by simp) e.symm)
    rw [List.cons_append, Lib.index, pre_one, hd, if_neg (by simp), ih, if_neg (by simp)]
    simp
theorem index_not : ∀ (a : List UInt8) (c : UInt8), (∀ d ∈ a, d ≠ c) → Lib.index a [c] = -1
  | [], c, _ => by rw [Lib.index]; rfl
  | d :: a, c, h => by
    have ih := index_not a c (fun x hx => h x (by simp [hx]))
    have hd : (c == d) = false := beq_eq_false_iff_ne.2 (fun e => h d (by simp) e.symm)
    rw [Lib.index, pre_one, hd, if_neg (by simp), ih, if_pos (by simp)]
theorem cut_at {a b : List UInt8} {c : UInt8} (h : ∀ d ∈ a, d ≠ c) : Lib.cut (a ++ c :: b) [c] = (a, b, true) := by
  unfold Lib.cut
  rw [index_at a b c h, if_pos (by omega)]
  simp
theorem cut_not {a : List UInt8} {c : UInt8} (h : ∀ d ∈ a, d ≠ c) : Lib.cut a [c] = (a, [], false) := by
  unfold Lib.cut
  rw [index_not a c h, if_neg (by omega)]
theorem pre_yes (c : UInt8) (l : List UInt8) : Lib.hasPrefix (c :: l) [c] = true ∧ Lib.trimPrefix (c :: l) [c] = l := by
  have h : Lib.hasPrefix (c :: l) [c] = true := by unfold Lib.hasPrefix; rw [pre_one]; simp
  exact ⟨h, by unfold Lib.trimPrefix; rw [if_pos h]; rfl⟩
theorem pre_no {c d : UInt8} {l : List UInt8} (hd : d ≠ c) : Lib.hasPrefix (d :: l) [c] = false ∧ Lib.trimPrefix (d :: l) [c] = d :: l := by
  have h : Lib.hasPrefix (d :: l) [c] = false := by unfold Lib.hasPrefix; rw [pre_one]; exact beq_eq_false_iff_ne.2 (fun e => hd e.symm)
  exact ⟨h, by unfold Lib.trimPrefix; rw [if_neg (by rw [h]; simp)]⟩
theorem dec_not (n : Nat) (c : UInt8) (hc : c.toNat < 48 ∨ 57 < c.toNat) : ∀ d ∈ Lib.decDigits n, d ≠ c := by
  intro d hd e
  have := digs_dec n d hd
  rw [e] at this; omega
theorem dec_cons (n : Nat) : ∃ d l, Lib.decDigits n = d :: l ∧ 48 ≤ d.toNat ∧ d.toNat ≤ 57 := by
  cases h : Lib.decDigits n with
  | nil => exact absurd h (dec_ne n)
  | cons d l => exact ⟨d, l, rfl, digs_dec n d (by rw [h]; simp)⟩
end Go.Proofs.YtfenjkgbedbleaaGreatDoor.Big
namespace Go.Proofs.YtfenjkgbedbleaaGreatDoor
open Go.RowKit
def MC (w : World) : Prop := ∃ m, w.cell? ⟨3, 0, none⟩ = some (.int .i64 m)
theorem MC.keep {w w' : World} (h : MC w) (hb : Below w.heap.size w w') : MC w' := by
  obtain ⟨m, hm⟩ := h
  exact ⟨m, (hb.cell (p := ⟨3, 0, none⟩) (World.block_lt_of_cell? w _ hm)).trans hm⟩
theorem num_ne {l n : Nat} (h : l = 0 ↔ n = 0) (hn : 0 < n) : ((l : Int) ≠ 0) := by
  intro e
  have h3 : l = 0 := by omega
  have h4 := h.1 h3
  omega
theorem prefix_txt (q : Rat) (W : World) : Calls Tryz.prog 39 #[.string ⟨(txQ q).toArray⟩, .string ⟨#[45]⟩] W fun e w' =>
    e = .returned (.tuple #[.string ⟨(Lib.decDigits (Big.nu q) ++ (if Big.de q = 1 then [] else 47 :: Lib.decDigits (Big.de q))).toArray⟩, .bool (Big.ng q)]) ∧ W = w' := by
  refine (Tryz.strings_CutPrefix ⟨(txQ q).toArray⟩ ⟨#[45]⟩ W).mono fun e w' ⟨h1, h2⟩ => ⟨?_, h2.symm⟩
  rw [h1]
  show Ending.returned (.tuple #[.string ⟨(Lib.trimPrefix (txQ q) [45]).toArray⟩, .bool (Lib.hasPrefix (txQ q) [45])]) = _
  unfold txQ
  by_cases h : Big.ng q = true
  · rw [if_pos h, h, List.append_assoc]
    obtain ⟨a1, a2⟩ := Big.pre_yes 45 (Lib.decDigits (Big.nu q) ++ (if Big.de q = 1 then [] else 47 :: Lib.decDigits (Big.de q)))
    rw [List.singleton_append, a1, a2]
  · rw [if_neg h]
    have h' : Big.ng q = false := by simpa using h
    rw [h', List.nil_append]
    obtain ⟨d, l, e1, e2, e3⟩ := Big.dec_cons (Big.nu q)
    rw [e1, List.cons_append]
    obtain ⟨a1, a2⟩ := Big.pre_no (c := 45) (d := d) (l := l ++ (if Big.de q = 1 then [] else 47 :: Lib.decDigits (Big.de q))) (by intro e; rw [e] at e2; simp at e2)
    rw [a1, a2]
theorem cut_txt (q : Rat) (hq : Fit q) (W : World) (hm : MC W) : Calls Tryz.prog 40 #[.string ⟨(Lib.decDigits (Big.nu q) ++ (if Big.de q = 1 then [] else 47 :: Lib.decDigits (Big.de q))).toArray⟩, .string ⟨#[47]⟩] W fun e w' =>
    e = .returned (.tuple #[.string ⟨(Lib.decDigits (Big.nu q)).toArray⟩, .string ⟨(if Big.de q = 1 then [] else Lib.decDigits (Big.de q)).toArray⟩, .bool (!decide (Big.de q = 1))]) ∧ Drew W w' := by
  obtain ⟨m, hm⟩ := hm
  have b1 := Big.dec_len_words (K := 64) (by omega) hq.sm.nu.out
  have b2 := Big.dec_len_words (K := 64) (by omega) hq.sm.de.out
  refine (Tryz.strings_Cut ⟨(Lib.decDigits (Big.nu q) ++ (if Big.de q = 1 then [] else 47 :: Lib.decDigits (Big.de q))).toArray⟩ ⟨#[47]⟩ m W (by
    show (Lib.decDigits (Big.nu q) ++ (if Big.de q = 1 then [] else 47 :: Lib.decDigits (Big.de q))).toArray.size < _
    rw [List.size_toArray, List.length_append]
    split <;> simp <;> omega) hm).mono fun e w' ⟨h1, h2⟩ => ⟨?_, h2⟩
  rw [h1]
  show Ending.returned (.tuple #[.string ⟨(Lib.cut (Lib.decDigits (Big.nu q) ++ (if Big.de q = 1 then [] else 47 :: Lib.decDigits (Big.de q))) [47]).1.toArray⟩, .string ⟨(Lib.cut (Lib.decDigits (Big.nu q) ++ (if Big.de q = 1 then [] else 47 :: Lib.decDigits (Big.de q))) [47]).2.1.toArray⟩, .bool (Lib.cut (Lib.decDigits (Big.nu q) ++ (if Big.de q = 1 then [] else 47 :: Lib.decDigits (Big.de q))) [47]).2.2]) = _
  by_cases h : Big.de q = 1
  · rw [if_pos h, if_pos h, List.append_nil, Big.cut_not (Big.dec_not _ 47 (by simp)), decide_eq_true h]; rfl
  · rw [if_neg h, if_neg h, Big.cut_at (Big.dec_not _ 47 (by simp)), decide_eq_false h]; rfl
theorem parse_dec (n : Nat) (hn : Sz 64 n) (W : World) : Calls Tryz.prog 41 #[.string ⟨(Lib.decDigits n).toArray⟩] W (ParseR W n) := by
  have b1 := Big.dec_len_words (K := 64) (by omega) hn.out
  have h := parse_any W ⟨(Lib.decDigits n).toArray⟩ (Big.isText_dec n) (by
    show (Lib.decDigits n).toArray.size ≤ _
    rw [List.size_toArray]; omega)
  have e : Big.dnum (⟨(Lib.decDigits n).toArray⟩ : ByteArray).data.toList = n := Big.dnum_dec n
  rwa [e] at h
set_option maxRecDepth 100000 in
set_option maxHeartbeats 4000000 in
theorem number_any (w : World) (q : Rat) (hq : Fit q) (hm : MC w) :
    Calls Tryz.prog 21 #[.string ⟨(txQ q).toArray⟩] w (Read1 w q) := by
  have C1 := Lib.hid (prefix_txt q)
  have C2 := Lib.hid (cut_txt q hq)
  have C3 := Lib.hid (parse_dec (Big.nu q) hq.sm.nu)
  have C4 := Lib.hid (parse_dec (Big.de q) hq.sm.de)
  have HM := Lib.hid hm; have HS := Lib.hid hq.sm
  have hdq : decide (Big.de q = 1) = true ∨ decide (Big.de q = 1) = false := by cases decide (Big.de q = 1) <;> simp
  obtain ⟨S0, hS0⟩ : ∃ z, (⟨(txQ q).toArray⟩ : ByteArray) = z := ⟨_, rfl⟩
  obtain ⟨S1, hS1⟩ : ∃ z, (⟨(Lib.decDigits (Big.nu q) ++ (if Big.de q = 1 then [] else 47 :: Lib.decDigits (Big.de q))).toArray⟩ : ByteArray) = z := ⟨_, rfl⟩
  obtain ⟨S2, hS2⟩ : ∃ z, (⟨(Lib.decDigits (Big.nu q)).toArray⟩ : ByteArray) = z := ⟨_, rfl⟩
  have HNZ := Lib.hid (@Big.ng_pos q)
  have HDE := Lib.hid (Big.de_pos q)
  have HMK := Lib.hid (Big.is_mk q).symm
  have HR0 := Lib.hid (At3.new w 42 (.bool false) (.slice none 0 0) (.slice none 0 0))
  have HB0 := Lib.hid (box1_below w (.cells #[.bool false, .slice none 0 0, .slice none 0 0] 42))
  rw [hS0, hS1] at C1
  rw [hS1, hS2] at C2
  rw [hS2] at C3
  rw [hS0]
  clear hS0 hS1 hS2 hm hq
  obtain ⟨nq, hnq⟩ : ∃ z, Big.ng q = z := ⟨_, rfl⟩
  rw [hnq] at C1 HNZ HMK
  have HNQ := Lib.hid hnq
  clear hnq
  rcases hdq with hd | hd
  · have hde : Big.de q = 1 := of_decide_eq_true hd
    rw [if_pos hde, hd] at C2
    have HDN := Lib.hid hde
    clear hde hd
    go_enter Tryz.func21, Tryz.ntmps21
    go_wp2_with fail
    generalize w.alloc (.cells #[.bool false, .slice none 0 0, .slice none 0 0] 42) = w0 at *
    refine (C1.out _).mono ?_
    rintro e w' ⟨rfl, rfl⟩
    go_wp2_with fail
    refine (C2.out _ (HM.out.keep HB0.out)).mono ?_
    rintro e w1 ⟨rfl, hw1⟩
    have HB1 := Lib.hid (HB0.out.trans ((hw1.below w0.heap.size).mono HB0.out.size)); have HR1 := Lib.hid (HR0.out.keep (hw1.below _))
    clear hw1 HR0 HB0
    go_wp2_with fail
    refine (C3.out _).mono ?_
    rintro e w2 ⟨v2, rfl, hv2, hw2⟩
    obtain ⟨A2, l2, c2, rfl, hl2⟩ := hv2.is_slice
    have HV2 := Lib.hid hv2
    have HB2 := Lib.hid (HB1.out.trans (hw2.mono HB1.out.size)); have HR2 := Lib.hid (HR1.out.keep hw2)
    have HNL := Lib.hid (show nq = true → ((l2 : Int) == 0) = false from fun h => beq_eq_false_iff_ne.2 (num_ne hl2 (HNZ.out h)))
    clear hv2 hw2 hl2 HR1 HB1
    cases nq
    · go_wp2_with fail
      refine (of_num _ 1 M64_gt).mono ?_
      rintro e w3 ⟨v3, rfl, hv3, hw3⟩
      obtain ⟨A3, l3, c3, rfl, hl3⟩ := hv3.is_slice
      have HV3 := Lib.hid hv3
      have HV2b := Lib.hid (HV2.out.keep hw3)
      have HB3 := Lib.hid (HB2.out.trans (hw3.mono HB2.out.size)); have HR3 := Lib.hid (HR2.out.keep hw3)
      clear hw3 HR2 HB2 hv3
      have t4 : ((l3 : Int) == 0) = false := beq_eq_false_iff_ne.2 (num_ne hl3 Nat.one_pos)
      have HV3d := Lib.hid (show NatIn w3 (.slice A3 l3 c3) (Big.de q) by rw [HDN.out]; exact HV3.out)
      clear hl3
      go_wp2_with fail
      refine (exOf_any w3 _ _ _ _ _ 64 64 HV2b.out HV3d.out HS.out.nu HS.out.de (by omega) (by omega) HDE.out).mono ?_
      rintro e w5 ⟨v5, rfl, hv5, hw5⟩
      rw [HMK.out] at hv5
      obtain ⟨A8, l8, c8, A9, l9, c9, rfl, h8, h9⟩ := hv5.is_agg
      obtain ⟨nz, hnz⟩ : ∃ z, Big.ng q = z := ⟨_, rfl⟩
      rw [hnz] at hv5 ⊢
      have HH := Lib.hid (And.intro h8 h9); have HNUM := Lib.hid hv5; have HNN := Lib.hid hnz
      have HDV := Lib.hid (HV3d.out.keep hw5)
      have HB5 := Lib.hid (HB3.out.trans (hw5.mono HB3.out.size)); have HR5 := Lib.hid (HR3.out.keep hw5)
      clear hv5 hw5 h8 h9 hnz HR3 HB3
      have HB6 := Lib.hid (below_alloc HB5.out (Nat.le_refl _) (.cells #[.bool nz, .slice A8 l8 c8, .slice A9 l9 c9] 42))
      have HA6 := Lib.hid (At3.new w5 42 (.bool nz) (.slice A8 l8 c8) (.slice A9 l9 c9))
      have HR6 := Lib.hid (HR5.out.alloc' (.cells #[.bool nz, .slice A8 l8 c8, .slice A9 l9 c9] 42))
      have CD := Lib.hid (fun W h => exDen_any W _ q (HNUM.out.keep (w' := W) h))
      have CC := Lib.hid (fun W v (h : NatIn W v (Big.de q)) (i : Below w5.heap.size w5 W) => cmp_num W v _ _ _ h (HDV.out.keep i))
      rw [Big.cmpI_eq] at CC
      have hbb := box1_below w5 (.cells #[.bool nz, .slice A8 l8 c8, .slice A9 l9 c9] 42)
      have hlt5 : w.heap.size < w5.heap.size := HR5.out.lt
      go_wp2_with (first
        | (go_at_call 20; refine (CD.out _ hbb).mono ?_; rintro e w7 ⟨v7, rfl, hv7, hw7⟩; have hb7 := hbb.trans (hw7.mono hbb.size))
        | (go_at_call 42; refine (CC.out _ _ hv7 hb7).mono ?_; rintro e w8 ⟨rfl, hw8⟩; have RR := ((HR6.out.keep hw7).keep (hw8.below _)); have HA8 := ((HA6.out.keep hw7).keep (hw8.below _)); have k0 := RR.c0; have k1 := RR.c1; have k2 := RR.c2; have f0 := RR.frozen 0; have f1 := RR.frozen 1; have f2 := RR.frozen 2; have x0 := HA8.c0; have x1 := HA8.c1; have x2 := HA8.c2)
        | fail)
      have b8 := hb7.trans ((hw8.below w7.heap.size).mono hb7.size)
      obtain ⟨D1, D2, D3⟩ := num_done (bb := nz) (show NumRes w8 _ _ from RR) (HB5.out.trans (b8.mono HB5.out.size)) (by omega) (HH.out.1.keep b8) (HH.out.2.keep b8) HNN.out.symm
      have HD1 := Lib.hid D1; have HD2 := Lib.hid D2; have HD3 := Lib.hid D3
      clear D1 D2 D3 k0 k1 k2 f0 f1 f2 RR x0 x1 x2 HA8 hbb hlt5
      generalize (((w8.setCell ⟨w.heap.size, 0, none⟩ (.bool (nz))).setCell ⟨w.heap.size, 1, none⟩ (.slice A8 l8 c8)).setCell ⟨w.heap.size, 2, none⟩ (.slice A9 l9 c9)) = wz at HD1 HD2 HD3 ⊢
      have r0 := HD1.out.c0; have r1 := HD1.out.c1; have r2 := HD1.out.c2
      exact bodyPost_ret (v := .tuple #[.agg #[.bool (nz), .slice A8 l8 c8, .slice A9 l9 c9], .bool true]) (by simp [results, Tryz.results21, go_sem, r0, r1, r2]) rfl ⟨_, rfl, HD2.out, HD3.out⟩
    · have tn := HNL.out rfl
      go_wp2_with fail
      refine (of_num _ 1 M64_gt).mono ?_
      rintro e w3 ⟨v3, rfl, hv3, hw3⟩
      obtain ⟨A3, l3, c3, rfl, hl3⟩ := hv3.is_slice
      have HV3 := Lib.hid hv3
      have HV2b := Lib.hid (HV2.out.keep hw3)
      have HB3 := Lib.hid (HB2.out.trans (hw3.mono HB2.out.size)); have HR3 := Lib.hid (HR2.out.keep hw3)
      clear hw3 HR2 HB2 hv3
      have t4 : ((l3 : Int) == 0) = false := beq_eq_false_iff_ne.2 (num_ne hl3 Nat.one_pos)
      have HV3d := Lib.hid (show NatIn w3 (.slice A3 l3 c3) (Big.de q) by rw [HDN.out]; exact HV3.out)
      clear hl3
      go_wp2_with fail
      refine (exOf_any w3 _ _ _ _ _ 64 64 HV2b.out HV3d.out HS.out.nu HS.out.de (by omega) (by omega) HDE.out).mono ?_
      rintro e w5 ⟨v5, rfl, hv5, hw5⟩
      rw [HMK.out] at hv5
      obtain ⟨A8, l8, c8, A9, l9, c9, rfl, h8, h9⟩ := hv5.is_agg
      obtain ⟨nz, hnz⟩ : ∃ z, Big.ng q = z := ⟨_, rfl⟩
      rw [hnz] at hv5 ⊢
      have HH := Lib.hid (And.intro h8 h9); have HNUM := Lib.hid hv5; have HNN := Lib.hid hnz
      have HDV := Lib.hid (HV3d.out.keep hw5)
      have HB5 := Lib.hid (HB3.out.trans (hw5.mono HB3.out.size)); have HR5 := Lib.hid (HR3.out.keep hw5)
      clear hv5 hw5 h8 h9 hnz HR3 HB3
      have HB6 := Lib.hid (below_alloc HB5.out (Nat.le_refl _) (.cells #[.bool nz, .slice A8 l8 c8, .slice A9 l9 c9] 42))
      have HA6 := Lib.hid (At3.new w5 42 (.bool nz) (.slice A8 l8 c8) (.slice A9 l9 c9))
      have HR6 := Lib.hid (HR5.out.alloc' (.cells #[.bool nz, .slice A8 l8 c8, .slice A9 l9 c9] 42))
      have CD := Lib.hid (fun W h => exDen_any W _ q (HNUM.out.keep (w' := W) h))
      have CC := Lib.hid (fun W v (h : NatIn W v (Big.de q)) (i : Below w5.heap.size w5 W) => cmp_num W v _ _ _ h (HDV.out.keep i))
      rw [Big.cmpI_eq] at CC
      have hbb := box1_below w5 (.cells #[.bool nz, .slice A8 l8 c8, .slice A9 l9 c9] 42)
      have hlt5 : w.heap.size < w5.heap.size := HR5.out.lt
      go_wp2_with (first
        | (go_at_call 20; refine (CD.out _ hbb).mono ?_; rintro e w7 ⟨v7, rfl, hv7, hw7⟩; have hb7 := hbb.trans (hw7.mono hbb.size))
        | (go_at_call 42; refine (CC.out _ _ hv7 hb7).mono ?_; rintro e w8 ⟨rfl, hw8⟩; have RR := ((HR6.out.keep hw7).keep (hw8.below _)); have HA8 := ((HA6.out.keep hw7).keep (hw8.below _)); have k0 := RR.c0; have k1 := RR.c1; have k2 := RR.c2; have f0 := RR.frozen 0; have f1 := RR.frozen 1; have f2 := RR.frozen 2; have x0 := HA8.c0; have x1 := HA8.c1; have x2 := HA8.c2)
        | fail)
      have b8 := hb7.trans ((hw8.below w7.heap.size).mono hb7.size)
      obtain ⟨D1, D2, D3⟩ := num_done (bb := nz) (show NumRes w8 _ _ from RR) (HB5.out.trans (b8.mono HB5.out.size)) (by omega) (HH.out.1.keep b8) (HH.out.2.keep b8) HNN.out.symm
      have HD1 := Lib.hid D1; have HD2 := Lib.hid D2; have HD3 := Lib.hid D3
      clear D1 D2 D3 k0 k1 k2 f0 f1 f2 RR x0 x1 x2 HA8 hbb hlt5
      generalize (((w8.setCell ⟨w.heap.size, 0, none⟩ (.bool (nz))).setCell ⟨w.heap.size, 1, none⟩ (.slice A8 l8 c8)).setCell ⟨w.heap.size, 2, none⟩ (.slice A9 l9 c9)) = wz at HD1 HD2 HD3 ⊢
      have r0 := HD1.out.c0; have r1 := HD1.out.c1; have r2 := HD1.out.c2
      exact bodyPost_ret (v := .tuple #[.agg #[.bool (nz), .slice A8 l8 c8, .slice A9 l9 c9], .bool true]) (by simp [results, Tryz.results21, go_sem, r0, r1, r2]) rfl ⟨_, rfl, HD2.out, HD3.out⟩
  · have hde : Big.de q ≠ 1 := of_decide_eq_false hd
    rw [if_neg hde, hd] at C2
    obtain ⟨S3, hS3⟩ : ∃ z, (⟨(Lib.decDigits (Big.de q)).toArray⟩ : ByteArray) = z := ⟨_, rfl⟩
    rw [hS3] at C2 C4
    clear hS3
    have HDN := Lib.hid hde
    clear hde hd
    go_enter Tryz.func21, Tryz.ntmps21
    go_wp2_with fail
    generalize w.alloc (.cells #[.bool false, .slice none 0 0, .slice none 0 0] 42) = w0 at *
    refine (C1.out _).mono ?_
    rintro e w' ⟨rfl, rfl⟩
    go_wp2_with fail
    refine (C2.out _ (HM.out.keep HB0.out)).mono ?_
    rintro e w1 ⟨rfl, hw1⟩
    have HB1 := Lib.hid (HB0.out.trans ((hw1.below w0.heap.size).mono HB0.out.size)); have HR1 := Lib.hid (HR0.out.keep (hw1.below _))
    clear hw1 HR0 HB0
    go_wp2_with fail
    refine (C3.out _).mono ?_
    rintro e w2 ⟨v2, rfl, hv2, hw2⟩
    obtain ⟨A2, l2, c2, rfl, hl2⟩ := hv2.is_slice
    have HV2 := Lib.hid hv2
    have HB2 := Lib.hid (HB1.out.trans (hw2.mono HB1.out.size)); have HR2 := Lib.hid (HR1.out.keep hw2)
    have HNL := Lib.hid (show nq = true → ((l2 : Int) == 0) = false from fun h => beq_eq_false_iff_ne.2 (num_ne hl2 (HNZ.out h)))
    clear hv2 hw2 hl2 HR1 HB1
    cases nq
    · go_wp2_with fail
      refine (of_num _ 1 M64_gt).mono ?_
      rintro e w3 ⟨v3, rfl, hv3, hw3⟩
      obtain ⟨A3, l3, c3, rfl, hl3⟩ := hv3.is_slice
      have HV3 := Lib.hid hv3
      have HV2b := Lib.hid (HV2.out.keep hw3)
      have HB3 := Lib.hid (HB2.out.trans (hw3.mono HB2.out.size)); have HR3 := Lib.hid (HR2.out.keep hw3)
      clear hw3 HR2 HB2 hv3
      clear hl3
      go_wp2_with fail
      refine (C4.out _).mono ?_
      rintro e w4 ⟨v4, rfl, hv4, hw4⟩
      obtain ⟨A4, l4, c4, rfl, hl4⟩ := hv4.is_slice
      have HV4 := Lib.hid hv4
      have HV2c := Lib.hid (HV2b.out.keep hw4)
      have HB4 := Lib.hid (HB3.out.trans (hw4.mono HB3.out.size)); have HR4 := Lib.hid (HR3.out.keep hw4)
      have I := Lib.hid (isOne_num w4 _ _ hv4)
      rw [decide_eq_false HDN.out] at I
      have t4 : ((l4 : Int) == 0) = false := beq_eq_false_iff_ne.2 (num_ne hl4 HDE.out)
      clear hv4 hw4 hl4 HR3 HB3
      go_wp2_with (go_at_call 38; (with_reducible refine I.out.mono ?_); rintro e w' ⟨rfl, rfl⟩)
      refine (exOf_any w4 _ _ _ _ _ 64 64 HV2c.out HV4.out HS.out.nu HS.out.de (by omega) (by omega) HDE.out).mono ?_
      rintro e w5 ⟨v5, rfl, hv5, hw5⟩
      rw [HMK.out] at hv5
      obtain ⟨A8, l8, c8, A9, l9, c9, rfl, h8, h9⟩ := hv5.is_agg
      obtain ⟨nz, hnz⟩ : ∃ z, Big.ng q = z := ⟨_, rfl⟩
      rw [hnz] at hv5 ⊢
      have HH := Lib.hid (And.intro h8 h9); have HNUM := Lib.hid hv5; have HNN := Lib.hid hnz
      have HDV := Lib.hid (HV4.out.keep hw5)
      have HB5 := Lib.hid (HB4.out.trans (hw5.mono HB4.out.size)); have HR5 := Lib.hid (HR4.out.keep hw5)
      clear hv5 hw5 h8 h9 hnz HR4 HB4
      have HB6 := Lib.hid (below_alloc HB5.out (Nat.le_refl _) (.cells #[.bool nz, .slice A8 l8 c8, .slice A9 l9 c9] 42))
      have HA6 := Lib.hid (At3.new w5 42 (.bool nz) (.slice A8 l8 c8) (.slice A9 l9 c9))
      have HR6 := Lib.hid (HR5.out.alloc' (.cells #[.bool nz, .slice A8 l8 c8, .slice A9 l9 c9] 42))
      have CD := Lib.hid (fun W h => exDen_any W _ q (HNUM.out.keep (w' := W) h))
      have CC := Lib.hid (fun W v (h : NatIn W v (Big.de q)) (i : Below w5.heap.size w5 W) => cmp_num W v _ _ _ h (HDV.out.keep i))
      rw [Big.cmpI_eq] at CC
      have hbb := box1_below w5 (.cells #[.bool nz, .slice A8 l8 c8, .slice A9 l9 c9] 42)
      have hlt5 : w.heap.size < w5.heap.size := HR5.out.lt
      go_wp2_with (first
        | (go_at_call 20; refine (CD.out _ hbb).mono ?_; rintro e w7 ⟨v7, rfl, hv7, hw7⟩; have hb7 := hbb.trans (hw7.mono hbb.size))
        | (go_at_call 42; refine (CC.out _ _ hv7 hb7).mono ?_; rintro e w8 ⟨rfl, hw8⟩; have RR := ((HR6.out.keep hw7).keep (hw8.below _)); have HA8 := ((HA6.out.keep hw7).keep (hw8.below _)); have k0 := RR.c0; have k1 := RR.c1; have k2 := RR.c2; have f0 := RR.frozen 0; have f1 := RR.frozen 1; have f2 := RR.frozen 2; have x0 := HA8.c0; have x1 := HA8.c1; have x2 := HA8.c2)
        | fail)
      have b8 := hb7.trans ((hw8.below w7.heap.size).mono hb7.size)
      obtain ⟨D1, D2, D3⟩ := num_done (bb := nz) (show NumRes w8 _ _ from RR) (HB5.out.trans (b8.mono HB5.out.size)) (by omega) (HH.out.1.keep b8) (HH.out.2.keep b8) HNN.out.symm
      have HD1 := Lib.hid D1; have HD2 := Lib.hid D2; have HD3 := Lib.hid D3
      clear D1 D2 D3 k0 k1 k2 f0 f1 f2 RR x0 x1 x2 HA8 hbb hlt5
      generalize (((w8.setCell ⟨w.heap.size, 0, none⟩ (.bool (nz))).setCell ⟨w.heap.size, 1, none⟩ (.slice A8 l8 c8)).setCell ⟨w.heap.size, 2, none⟩ (.slice A9 l9 c9)) = wz at HD1 HD2 HD3 ⊢
      have r0 := HD1.out.c0; have r1 := HD1.out.c1; have r2 := HD1.out.c2
      exact bodyPost_ret (v := .tuple #[.agg #[.bool (nz), .slice A8 l8 c8, .slice A9 l9 c9], .bool true]) (by simp [results, Tryz.results21, go_sem, r0, r1, r2]) rfl ⟨_, rfl, HD2.out, HD3.out⟩
    · have tn := HNL.out rfl
      go_wp2_with fail
      refine (of_num _ 1 M64_gt).mono ?_
      rintro e w3 ⟨v3, rfl, hv3, hw3⟩
      obtain ⟨A3, l3, c3, rfl, hl3⟩ := hv3.is_slice
      have HV3 := Lib.hid hv3
      have HV2b := Lib.hid (HV2.out.keep hw3)
      have HB3 := Lib.hid (HB2.out.trans (hw3.mono HB2.out.size)); have HR3 := Lib.hid (HR2.out.keep hw3)
      clear hw3 HR2 HB2 hv3
      clear hl3
      go_wp2_with fail
      refine (C4.out _).mono ?_
      rintro e w4 ⟨v4, rfl, hv4, hw4⟩
      obtain ⟨A4, l4, c4, rfl, hl4⟩ := hv4.is_slice
      have HV4 := Lib.hid hv4
      have HV2c := Lib.hid (HV2b.out.keep hw4)
      have HB4 := Lib.hid (HB3.out.trans (hw4.mono HB3.out.size)); have HR4 := Lib.hid (HR3.out.keep hw4)
      have I := Lib.hid (isOne_num w4 _ _ hv4)
      rw [decide_eq_false HDN.out] at I
      have t4 : ((l4 : Int) == 0) = false := beq_eq_false_iff_ne.2 (num_ne hl4 HDE.out)
      clear hv4 hw4 hl4 HR3 HB3
      go_wp2_with (go_at_call 38; (with_reducible refine I.out.mono ?_); rintro e w' ⟨rfl, rfl⟩)
      refine (exOf_any w4 _ _ _ _ _ 64 64 HV2c.out HV4.out HS.out.nu HS.out.de (by omega) (by omega) HDE.out).mono ?_
      rintro e w5 ⟨v5, rfl, hv5, hw5⟩
      rw [HMK.out] at hv5
      obtain ⟨A8, l8, c8, A9, l9, c9, rfl, h8, h9⟩ := hv5.is_agg
      obtain ⟨nz, hnz⟩ : ∃ z, Big.ng q = z := ⟨_, rfl⟩
      rw [hnz] at hv5 ⊢
      have HH := Lib.hid (And.intro h8 h9); have HNUM := Lib.hid hv5; have HNN := Lib.hid hnz
      have HDV := Lib.hid (HV4.out.keep hw5)
      have HB5 := Lib.hid (HB4.out.trans (hw5.mono HB4.out.size)); have HR5 := Lib.hid (HR4.out.keep hw5)
      clear hv5 hw5 h8 h9 hnz HR4 HB4
      have HB6 := Lib.hid (below_alloc HB5.out (Nat.le_refl _) (.cells #[.bool nz, .slice A8 l8 c8, .slice A9 l9 c9] 42))
      have HA6 := Lib.hid (At3.new w5 42 (.bool nz) (.slice A8 l8 c8) (.slice A9 l9 c9))
      have HR6 := Lib.hid (HR5.out.alloc' (.cells #[.bool nz, .slice A8 l8 c8, .slice A9 l9 c9] 42))
      have CD := Lib.hid (fun W h => exDen_any W _ q (HNUM.out.keep (w' := W) h))
      have CC := Lib.hid (fun W v (h : NatIn W v (Big.de q)) (i : Below w5.heap.size w5 W) => cmp_num W v _ _ _ h (HDV.out.keep i))
      rw [Big.cmpI_eq] at CC
      have hbb := box1_below w5 (.cells #[.bool nz, .slice A8 l8 c8, .slice A9 l9 c9] 42)
      have hlt5 : w.heap.size < w5.heap.size := HR5.out.lt
      go_wp2_with (first
        | (go_at_call 20; refine (CD.out _ hbb).mono ?_; rintro e w7 ⟨v7, rfl, hv7, hw7⟩; have hb7 := hbb.trans (hw7.mono hbb.size))
        | (go_at_call 42; refine (CC.out _ _ hv7 hb7).mono ?_; rintro e w8 ⟨rfl, hw8⟩; have RR := ((HR6.out.keep hw7).keep (hw8.below _)); have HA8 := ((HA6.out.keep hw7).keep (hw8.below _)); have k0 := RR.c0; have k1 := RR.c1; have k2 := RR.c2; have f0 := RR.frozen 0; have f1 := RR.frozen 1; have f2 := RR.frozen 2; have x0 := HA8.c0; have x1 := HA8.c1; have x2 := HA8.c2)
        | fail)
      have b8 := hb7.trans ((hw8.below w7.heap.size).mono hb7.size)
      obtain ⟨D1, D2, D3⟩ := num_done (bb := nz) (show NumRes w8 _ _ from RR) (HB5.out.trans (b8.mono HB5.out.size)) (by omega) (HH.out.1.keep b8) (HH.out.2.keep b8) HNN.out.symm
      have HD1 := Lib.hid D1; have HD2 := Lib.hid D2; have HD3 := Lib.hid D3
      clear D1 D2 D3 k0 k1 k2 f0 f1 f2 RR x0 x1 x2 HA8 hbb hlt5
      generalize (((w8.setCell ⟨w.heap.size, 0, none⟩ (.bool (nz))).setCell ⟨w.heap.size, 1, none⟩ (.slice A8 l8 c8)).setCell ⟨w.heap.size, 2, none⟩ (.slice A9 l9 c9)) = wz at HD1 HD2 HD3 ⊢
      have r0 := HD1.out.c0; have r1 := HD1.out.c1; have r2 := HD1.out.c2
      exact bodyPost_ret (v := .tuple #[.agg #[.bool (nz), .slice A8 l8 c8, .slice A9 l9 c9], .bool true]) (by simp [results, Tryz.results21, go_sem, r0, r1, r2]) rfl ⟨_, rfl, HD2.out, HD3.out⟩
set_option maxRecDepth 100000 in
set_option maxHeartbeats 4000000 in
theorem raParse_any (w : World) (q : Rat) (hq : Fit q) (hm : MC w) :
    Calls Tryz.prog 6 #[.string ⟨(txQ q).toArray⟩] w (Ret2 w (fracV q) 0) := by
  have CN := Lib.hid (fun W h => number_any W q hq h)
  have CA := Lib.hid (fun W v (h : NumIn W v q) => answer_fit W v _ 64 h hq.sm (by omega) hq)
  have HM := Lib.hid hm
  have b1 := Big.dec_len_words (K := 64) (by omega) hq.sm.nu.out
  have b2 := Big.dec_len_words (K := 64) (by omega) hq.sm.de.out
  have hl : (txQ q).length ≤ 65536 := by
    unfold txQ
    rw [List.length_append, List.length_append]
    split <;> split <;> simp <;> omega
  have HB0 := Lib.hid (box1_below w (.cells #[.bool false, .string ⟨#[]⟩, .string ⟨#[]⟩] 23))
  have HR0 := Lib.hid (At3.new w 23 (.bool false) (.string ⟨#[]⟩) (.string ⟨#[]⟩))
  obtain ⟨S0, hS0⟩ : ∃ z, (⟨(txQ q).toArray⟩ : ByteArray) = z := ⟨_, rfl⟩
  have hsz : ¬ ((S0.size : Int) > 65536) := by
    rw [← hS0]
    show ¬ (((txQ q).toArray.size : Int) > 65536)
    rw [List.size_toArray]; omega
  have hszd : decide ((65536 : Int) < (S0.size : Int)) = false := decide_eq_false hsz
  rw [hS0] at CN ⊢
  clear hS0 hq hm b1 b2 hl
  go_enter Tryz.func6, Tryz.ntmps6
  go_wp2_with fail
  refine (CN.out _ (HM.out.keep HB0.out)).mono ?_
  generalize w.alloc (.cells #[.bool false, .string ⟨#[]⟩, .string ⟨#[]⟩] 23) = w0 at *
  rintro e w1 ⟨v1, rfl, hv1, hw1⟩
  obtain ⟨A, l, c, A2, l2, c2, rfl, -, -⟩ := hv1.is_agg
  have HV := Lib.hid hv1
  have HB1 := Lib.hid (HB0.out.trans (hw1.mono HB0.out.size)); have HR1 := Lib.hid (HR0.out.keep hw1)
  have HA1 := Lib.hid (At3.new w1 42 (.bool (Big.ng q)) (.slice A l c) (.slice A2 l2 c2))
  have HB2 := Lib.hid (below_alloc HB1.out (Nat.le_refl _) (.cells #[.bool (Big.ng q), .slice A l c, .slice A2 l2 c2] 42))
  have HR2 := Lib.hid (HR1.out.alloc' (.cells #[.bool (Big.ng q), .slice A l c, .slice A2 l2 c2] 42))
  have HVk := Lib.hid (HV.out.keep (box1_below w1 (.cells #[.bool (Big.ng q), .slice A l c, .slice A2 l2 c2] 42)))
  clear hv1 hw1 HB0 HR0 HB1 HR1 CN
  go_wp2_with fail
  refine (CA.out _ _ HVk.out).mono ?_
  generalize w1.alloc (.cells #[.bool (Big.ng q), .slice A l c, .slice A2 l2 c2] 42) = w2 at *
  rintro e w4 ⟨rfl, hw4⟩
  unfold fracV
  have R4 := HR2.out.keep hw4
  have HD := Lib.hid (At3.put R4 (.bool (Big.ng q)) (.string (bst (Big.nu q))) (.string (bst (Big.de q))))
  have HE := Lib.hid (put_below (HB2.out.trans (hw4.mono HB2.out.size)) (Nat.le_refl _) (.bool (Big.ng q)) (.string (bst (Big.nu q))) (.string (bst (Big.de q))))
  have k0 := R4.c0; have k1 := R4.c1; have k2 := R4.c2; have f0 := R4.frozen 0; have f1 := R4.frozen 1; have f2 := R4.frozen 2
  clear R4 hw4 HR2 HB2 CA
  go_wp2_with fail
  generalize (((w4.setCell ⟨w.heap.size, 0, none⟩ (.bool (Big.ng q))).setCell ⟨w.heap.size, 1, none⟩ (.string (bst (Big.nu q)))).setCell ⟨w.heap.size, 2, none⟩ (.string (bst (Big.de q)))) = wz at HD HE ⊢
  clear k0 k1 k2 f0 f1 f2
  have r0 := HD.out.c0; have r1 := HD.out.c1; have r2 := HD.out.c2
  exact bodyPost_ret (v := .tuple #[.agg #[.bool (Big.ng q), .string (bst (Big.nu q)), .string (bst (Big.de q))], .int .i64 0]) (by simp [results, Tryz.results6, go_sem, r0, r1, r2]) rfl ⟨rfl, HE.out⟩
end Go.Proofs.YtfenjkgbedbleaaGreatDoor
