/- Contracts, in this order: nat: groupValue, isText (of what is a text). · nat: power10. · nat: mulAddWord. · nat: Parse, of a number's text. · The interpreter with natural numbers that are not looked int · exact: sum. · exact: Add. · exact: Mul. · exact: Neg, Sign, IsWhole, Num, Den. · exact: Cmp. exact: Sub, Quo, Cmp. · exact: Size, Frac. -/
import Derived.Test.YtjjbhadnakjhdaaGreatDoorProg
import Derived.Test.YtjjbhadnakjhdaaGreatDoorKrq14
import Derived.Test.YtjjbhadnakjhdaaGreatDoorKrq07
import Derived.IntWalk
import Derived.LoopN
import Derived.Laws.IdiomStrings
import Derived.Test.YtjjbhadnakjhdaaGreatDoorKrq13
import Derived.Deep.RegionHeld3
import Derived.Test.YtjjbhadnakjhdaaGreatDoorKrq05
import Derived.Test.YtjjbhadnakjhdaaGreatDoorKrq06
namespace Go.Proofs.YtjjbhadnakjhdaaGreatDoor
open Go.RowKit
theorem digs_at {s : ByteArray} (h : Big.Digs s.data.toList) (i : Nat) (hi : i < s.size) : 48 ≤ (s[i]).toNat ∧ (s[i]).toNat ≤ 57 :=
  h _ (by
    have h1 : i < s.data.size := hi
    have : s[i] = s.data[i] := rfl
    rw [this]; exact Array.getElem_mem_toList h1)
theorem take_snoc_bytes (s : ByteArray) (k : Nat) (h : k < s.size) : s.data.toList.take (k + 1) = s.data.toList.take k ++ [s[k]] := by
  have h1 : k < s.data.toList.length := by rw [Array.length_toList]; exact h
  rw [List.take_succ_eq_append_getElem h1]; rfl
set_option maxRecDepth 100000 in
set_option maxHeartbeats 1000000 in
theorem groupValue_any (w : World) (s : ByteArray) (h : Big.Digs s.data.toList) (hs : s.size ≤ 19) :
    Calls Tryz.prog 238 #[.string s] w fun e w' => e = .returned (.int .u64 ((Big.dnum s.data.toList : Nat) : Int)) ∧ w = w' := by
  have HD := Lib.hid h
  clear h
  go_enter Tryz.func238, Tryz.ntmps238
  go_wp2_with fail
  go_loop [3, 7] (fun a i => ∃ k : Nat, k ≤ s.size ∧ i = .int .i64 k ∧ a = .int .u64 ((Big.dnum (s.data.toList.take k) : Nat) : Int)) (fun _ i => s.size - (intOf i).toNat)
  case atStart => exact ⟨0, by omega, rfl, rfl⟩
  case round =>
    obtain ⟨k, hk, rfl, rfl⟩ := hrel
    by_cases hks : k < s.size
    · have hkI : (k : Int) < (s.size : Int) := by omega
      obtain ⟨d1, d2⟩ := digs_at HD.out k hks
      have hb := Big.dnum_lt (l := s.data.toList.take k) (fun c hc => HD.out c (List.mem_of_mem_take hc))
      have hl : (s.data.toList.take k).length = k := by rw [List.length_take, Array.length_toList]; exact Nat.min_eq_left hk
      rw [hl] at hb
      have hp : 10 ^ k ≤ 10 ^ 18 := Nat.pow_le_pow_right (by omega) (by omega)
      have hb2 : Big.dnum (s.data.toList.take k) < 1000000000000000000 := by omega
      have HE := Lib.hid (show Big.dnum (s.data.toList.take (k + 1)) = Big.dnum (s.data.toList.take k) * 10 + ((s[k]).toNat - 48) by rw [take_snoc_bytes s k hks, Big.dnum_snoc])
      generalize Big.dnum (s.data.toList.take k) = D at *
      clear hb hl hp
      go_wp2_with fail
      go_round
      case rel => exact ⟨k + 1, by omega, by go_num, by rw [HE.out]; apply congrArg; omega⟩
      case measure => simp [intOf]; omega
    · have hkl : k = s.size := by omega
      subst hkl
      have he : s.data.toList.take s.size = s.data.toList := List.take_of_length_le (by rw [Array.length_toList]; exact Nat.le_refl _)
      rw [he]
      clear he
      go_wp2_with fail
      go_ret
      exact ⟨rfl, rfl⟩
set_option maxRecDepth 100000 in
set_option maxHeartbeats 1000000 in
theorem isText_true (w : World) (s : ByteArray) (h : Big.IsText s.data.toList) (hs : s.size ≤ 1000000000) :
    Calls Tryz.prog 235 #[.string s] w fun e w' => e = .returned (.bool true) ∧ w = w' := by
  obtain ⟨h1, h2, h3⟩ := h
  have hpos : 0 < s.size := by
    rcases Nat.eq_zero_or_pos s.size with e | e
    · exact absurd (List.length_eq_zero_iff.1 (by rw [Array.length_toList]; exact e)) h1
    · exact e
  have n1 : ¬ s.toList = [] := by rw [ByteArray.toList_eq]; exact h1
  have n2 : s.toList.isEmpty = false := by rw [Bool.eq_false_iff]; intro e; exact n1 (List.isEmpty_iff.1 e)
  have HD := Lib.hid h3
  have hz : s = ⟨#[48]⟩ ∨ ((s[0].toNat : Int) == 48) = false := by
    by_cases e : s[0].toNat = 48
    · left
      have e1 : s.data.toList.head? = some 48 := by
        have hl : 0 < s.data.toList.length := by rw [Array.length_toList]; exact hpos
        rw [List.head?_eq_getElem?, List.getElem?_eq_getElem hl]
        congr 1
        apply UInt8.toNat_inj.1
        exact e
      have e2 := h2 e1
      have e3 : s.data = #[48] := by apply Array.ext'; rw [e2]
      cases s; simp at e3; rw [e3]
    · right; rw [beq_eq_false_iff_ne]; omega
  rcases hz with rfl | hz
  · clear h1 h2 h3 n1 n2 HD hpos hs
    go_enter Tryz.func235, Tryz.ntmps235
    go_wp2_with fail
    refine wp_loop_rounds 2 ?_
    rw [rounds_succ]
    go_wp2_with fail
    rw [rounds_succ]
    go_wp2_with fail
    go_ret
    exact ⟨rfl, rfl⟩
  · clear h1 h2 h3
    go_enter Tryz.func235, Tryz.ntmps235
    go_wp2_with fail
    go_loop [17] (fun i => ∃ k : Nat, k ≤ s.size ∧ i = .int .i64 k) (fun i => s.size - (intOf i).toNat)
    case atStart => exact ⟨0, by omega, rfl⟩
    case round =>
      obtain ⟨k, hk, rfl⟩ := hrel
      by_cases hks : k < s.size
      · have hkI : (k : Int) < (s.size : Int) := by omega
        obtain ⟨d1, d2⟩ := digs_at HD.out k hks
        have q1 : ¬ ((s[k].toNat : Int) < 48) := by omega
        have q2 : ¬ ((s[k].toNat : Int) > 57) := by omega
        go_wp2_with fail
        go_round
        case rel => exact ⟨k + 1, by omega, by go_num⟩
        case measure => simp [intOf]; omega
      · have hkl : k = s.size := by omega
        subst hkl
        go_wp2_with fail
        go_ret
        exact ⟨rfl, rfl⟩
end Go.Proofs.YtjjbhadnakjhdaaGreatDoor
namespace Go.Proofs.YtjjbhadnakjhdaaGreatDoor
open Go.RowKit
theorem pow10_lt {n : Nat} (h : n ≤ 19) : 10 ^ n < Big.M64 :=
  Nat.lt_of_le_of_lt (Nat.pow_le_pow_right (by omega) h) (by unfold Big.M64; omega)
set_option maxRecDepth 100000 in
set_option maxHeartbeats 2000000 in
theorem power10_any (w : World) (n : Nat) (hn : n ≤ 19) :
    Calls Tryz.prog 237 #[.int .i64 (n : Int)] w fun e w' => e = .returned (.int .u64 ((10 ^ n : Nat) : Int)) ∧ w = w' := by
  obtain ⟨R, hR⟩ : ∃ R, 10 ^ n = R := ⟨_, rfl⟩
  rw [hR]
  have HR := Lib.hid hR
  clear hR
  go_enter Tryz.func237, Tryz.ntmps237
  go_wp2_with fail
  go_loopw [3, 5] (fun a i wr => ∃ k P : Nat, k ≤ n ∧ i = .int .i64 k ∧ a = .int .u64 (P : Int) ∧ Hid (P = 10 ^ k) ∧ wr = w) (fun _ i _ => n - (intOf i).toNat)
  case atStart => exact ⟨0, 1, by omega, rfl, rfl, Lib.hid rfl, rfl⟩
  case round =>
    obtain ⟨k, P, hk, rfl, rfl, HP, rfl⟩ := hrel
    by_cases hkn : k < n
    · have hlt := pow10_lt (n := k + 1) (by omega)
      have e : 10 ^ (k + 1) = P * 10 := by rw [Nat.pow_succ, HP.out]
      rw [e, Big.M64_eq] at hlt
      have HP' := Lib.hid e.symm
      have a1 : IntKind.u64.wrap ((P : Int) * 10) = ((P * 10 : Nat) : Int) := by
        rw [show (P : Int) * 10 = ((P * 10 : Nat) : Int) by omega]; exact wrapN _ hlt
      obtain ⟨P', hP'⟩ : ∃ z, P * 10 = z := ⟨_, rfl⟩
      rw [hP'] at a1 HP'
      clear e hlt hP'
      go_wp2_with fail
      go_roundw
      case rel => exact ⟨k + 1, P', by omega, by go_num, rfl, HP', by first | trivial | rfl⟩
      case measure => simp [intOf]; omega
    · have hkl : k = n := by omega
      subst hkl
      go_wp2
      go_ret
      exact ⟨ret_int (by rw [HP.out, HR.out]), rfl⟩
end Go.Proofs.YtjjbhadnakjhdaaGreatDoor
namespace Go.Proofs.YtjjbhadnakjhdaaGreatDoor
open Go.RowKit
theorem muladd_round {l zs : List Nat} {k m o : Nat} {x0 : Nat} (ol : Big.Ok Big.M64 l) (hm : m < Big.M64) (ho : o < Big.M64)
    (h : zs.length = k ∧ Big.Ok Big.M64 zs ∧ Big.val Big.M64 zs + Big.M64 ^ k * o = Big.val Big.M64 (l.take k) * m + x0) :
    hi64 (Big.nth l k * m + o) < Big.M64 ∧ (zs ++ [lo64 (Big.nth l k * m + o)]).length = k + 1 ∧ Big.Ok Big.M64 (zs ++ [lo64 (Big.nth l k * m + o)]) ∧
      Big.val Big.M64 (zs ++ [lo64 (Big.nth l k * m + o)]) + Big.M64 ^ (k + 1) * hi64 (Big.nth l k * m + o) = Big.val Big.M64 (l.take (k + 1)) * m + x0 := by
  obtain ⟨h1, h2, h3⟩ := h
  refine ⟨hi64_mul (ol.nth Big.M64_pos k) hm ho, by simp [h1], h2.append (Big.Ok.cons (by rw [Big.M64_eq]; exact lo64_lt _) Big.Ok.nil), ?_⟩
  rw [Big.val_snoc, h1, Big.val_take_succ', Nat.pow_succ]
  have e := lo_hi (Big.nth l k * m + o)
  rw [← Big.M64_eq] at e
  generalize lo64 (Big.nth l k * m + o) = a at *
  generalize hi64 (Big.nth l k * m + o) = b at *
  generalize Big.M64 ^ k = P at *
  generalize Big.val Big.M64 (l.take k) = V at *
  generalize Big.val Big.M64 zs = Z at *
  generalize Big.nth l k = x at *
  grind
theorem norm_of_ge {zs : List Nat} (oz : Big.Ok Big.M64 zs) (h : zs ≠ [] → Big.M64 ^ (zs.length - 1) ≤ Big.val Big.M64 zs) : Big.Norm zs := by
  intro hl
  obtain ⟨r, rfl⟩ := List.getLast?_eq_some_iff.1 hl
  have h1 := h (by simp)
  rw [Big.val_snoc, Nat.mul_zero, Nat.add_zero] at h1
  have h2 := Big.val_lt r (fun d hd => oz d (by simp [hd]))
  simp at h1
  omega
set_option maxRecDepth 100000 in
set_option maxHeartbeats 4000000 in
theorem mulAddWord_any (w : World) (g c n m o : Nat) (v : Value) (h : OwnNat w v g c n) (hm : m < Big.M64) (hm1 : 1 ≤ m) (ho : o < Big.M64) (hf : n * m + o < Big.M64 ^ c) (hc : c ≤ 1000000000) :
    Calls Tryz.prog 236 #[v, .int .u64 (m : Int), .int .u64 (o : Int)] w fun e w' => ∃ v', e = .returned v' ∧ OwnNat w' v' g c (n * m + o) ∧ Only g w w' := by
  obtain ⟨k, X, rfl, hb, hk, hcX, hcl, oX, nX, lX, hv⟩ := h.len
  have HB0 := Lib.hid hb; have OX := Lib.hid oX; have NX := Lib.hid (And.intro nX (And.intro lX hv))
  have HM := Lib.hid hm; have HM1 := Lib.hid hm1; have HO := Lib.hid ho; have HF := Lib.hid (And.intro hcX hcl)
  clear hb oX nX lX hv hm ho h hcX
  go_enter Tryz.func236, Tryz.ntmps236
  go_wp2_with fail
  have HFF := Lib.hid hf
  clear hf
  go_loopw [2, 10] (fun a i wr => ∃ (j q : Nat) (zs : List Nat), j ≤ k ∧ i = .int .i64 j ∧ a = .int .u64 (q : Int) ∧ Hid (q < Big.M64) ∧
      Hid (zs.length = j ∧ Big.Ok Big.M64 zs ∧ Big.val Big.M64 zs + Big.M64 ^ j * q = Big.val Big.M64 (X.take j) * m + o) ∧
      Hid (Blk wr g 52 .u64 (zs ++ X.drop j)) ∧ Hid (Only g w wr)) (fun _ i _ => k - (intOf i).toNat)
  case atStart => exact ⟨0, o, [], by omega, rfl, rfl, HO, Lib.hid ⟨rfl, Big.Ok.nil, by simp [Big.val]⟩, HB0, Lib.hid (Only.refl _ _)⟩
  case round =>
    obtain ⟨j, q, zs, hj, rfl, rfl, HQ, HZ, HB, HOn⟩ := hrel
    by_cases hjk : j < k
    · have hst := HB.out.cell j (by have := HZ.out.1; have := HF.out.1; simp; omega)
      rw [nth_at HZ.out.1] at hst
      have hfr := HB.out.frozen j
      have R := muladd_round OX.out HM.out HQ.out HZ.out
      have hxM := OX.out.nth Big.M64_pos j
      obtain ⟨x, hx⟩ : ∃ z, Big.nth X j = z := ⟨_, rfl⟩
      rw [hx] at R hst hxM
      have CT := Lib.hid (fun W => timesPlus_any x m q (by rw [← Big.M64_eq]; exact hxM) (by rw [← Big.M64_eq]; exact HM.out) (by rw [← Big.M64_eq]; exact HQ.out) W)
      have R0 := Lib.hid R.1
      have R2 := Lib.hid R.2
      have HB' := Lib.hid (HB.out.set j (lo64 (x * m + q)))
      have HO' := Lib.hid (HOn.out.setCell j (.int .u64 ((lo64 (x * m + q) : Nat) : Int)))
      have hjI : (j : Int) < (k : Int) := by omega
      clear R hx hxM
      go_wp2_with (go_at_call 281; refine (CT.out _).mono ?_; rintro e w' ⟨rfl, rfl⟩)
      go_roundw
      case rel =>
        refine ⟨j + 1, _, _, by omega, by go_num, rfl, R0, R2, Lib.hid ?_, HO'⟩
        have h1 := HB'.out
        rw [set_drop zs X j _ HZ.out.1 (by have := HF.out.1; omega)] at h1
        exact h1
      case measure => simp [intOf]; omega
    · have hkl : j = k := by omega
      subst hkl
      have Z := HZ.out
      rw [NX.out.2.2] at Z
      by_cases hq : q = 0
      · subst hq
        clear Z
        go_wp2_with fail
        go_ret
        have Z := HZ.out
        rw [NX.out.2.2, Nat.mul_zero, Nat.add_zero] at Z
        have e : (zs ++ X.drop j).take j = zs := by rw [List.take_append_of_le_length (by omega), List.take_of_length_le (by omega)]
        refine ⟨_, rfl, ⟨zs ++ X.drop j, j, rfl, HB.out, by have := HF.out.1; simp; omega, Z.2.1.append (OX.out.drop _), hk, HF.out.2, ?_, by rw [e]; exact Z.2.2⟩, HOn.out⟩
        rw [e]
        refine norm_of_ge Z.2.1 (fun hne => ?_)
        have hj0 : 0 < zs.length := List.length_pos_iff.2 hne
        have h1 := Big.norm_ge (B := Big.M64) (X.take j) NX.out.1 (by intro e2; have := NX.out.2.1; rw [e2] at this; simp at this; omega)
        rw [NX.out.2.2, NX.out.2.1] at h1
        rw [Z.2.2, Z.1]
        have h2 := Nat.mul_le_mul_left n HM1.out
        omega
      · have hq1 : ((q : Int) != 0) = true := by rw [bne_iff_ne]; omega
        have hM1 : 1 < Big.M64 := by unfold Big.M64; omega
        have hjc : j < c := by
          have h1 := HFF.out
          rw [← Z.2.2] at h1
          have h2 := Nat.mul_le_mul_left (Big.M64 ^ j) (show 1 ≤ q by omega)
          exact (Nat.pow_lt_pow_iff_right hM1).1 (by omega)
        have hroom : (j : Int) + 1 ≤ (c : Int) := by omega
        have hBa := HB.out.alloc' (.cells #[.int .u64 (q : Int)] 52)
        have hst := hBa.cell j (by have := HF.out.1; simp; omega)
        have hfr := hBa.frozen j
        have HB' := Lib.hid (hBa.set j q)
        have HO' := Lib.hid (Only.setCell (HOn.out.trans (Only.of_below ((Below.refl wr.heap.size wr).alloc (Nat.le_refl _) (.cells #[.int .u64 (q : Int)] 52)))) j (.int .u64 (q : Int)))
        have HZ2 := Lib.hid Z
        clear Z hBa hM1
        go_wp2_with fail
        go_ret
        have hB := HB'.out
        rw [set_drop zs X j _ HZ.out.1 (by have := HF.out.1; omega)] at hB
        have hl1 : (zs ++ [q]).length = j + 1 := by simp [HZ.out.1]
        have e : ((zs ++ [q]) ++ X.drop (j + 1)).take (j + 1) = zs ++ [q] := by rw [List.take_append_of_le_length (by omega), List.take_of_length_le (by omega)]
        have hval : Big.val Big.M64 (zs ++ [q]) = n * m + o := by
          rw [Big.val_snoc, HZ.out.1]; exact HZ2.out.2.2
        refine ⟨_, rfl, ⟨(zs ++ [q]) ++ X.drop (j + 1), j + 1, rfl, hB, by have := HF.out.1; simp [HZ.out.1]; omega, (HZ.out.2.1.append (Big.Ok.cons HQ.out Big.Ok.nil)).append (OX.out.drop _), by omega, HF.out.2, ?_, by rw [e]; exact hval⟩, HO'.out⟩
        rw [e]
        simp [Big.Norm, hq]
end Go.Proofs.YtjjbhadnakjhdaaGreatDoor
namespace Go.Proofs.YtjjbhadnakjhdaaGreatDoor
open Go.RowKit
def ParseR (w : World) (n : Nat) (e : Ending) (w' : World) : Prop := ∃ v', e = .returned (.tuple #[v', .bool true]) ∧ NatIn w' v' n ∧ Below w.heap.size w w'
theorem own_zero {w : World} {g c : Nat} (hb : Blk w g 52 .u64 (List.replicate c 0)) (hc : c ≤ 1000000000) : OwnNat w (.slice (some ⟨g, 0, none⟩) 0 c) g c 0 :=
  ⟨List.replicate c 0, 0, rfl, hb, by simp, fun d hd => by rw [(List.mem_replicate.1 hd).2]; exact Big.M64_pos, by omega, by omega, by simp [Big.Norm], by simp [Big.val]⟩
theorem group_at {l : Nat} (h : 1 ≤ l) : 1 ≤ (l - 1) % 19 + 1 ∧ (l - 1) % 19 + 1 ≤ l ∧ (l - 1) % 19 + 1 ≤ 19 := by omega
theorem parse_fits {a g r : List UInt8} {c : Nat} (hd : Big.Digs (a ++ g)) (hc : (a ++ g ++ r).length ≤ 19 * c) : Big.dnum a * 10 ^ g.length + Big.dnum g < Big.M64 ^ c := by
  rw [← Big.dnum_append]
  have h1 := Big.dnum_lt hd
  have h2 : 10 ^ (a ++ g).length ≤ 10 ^ (19 * c) := Nat.pow_le_pow_right (by omega) (by rw [List.length_append] at hc; omega)
  have h3 : 10 ^ (19 * c) ≤ Big.M64 ^ c := by rw [Nat.pow_mul]; exact Nat.pow_le_pow_left (by unfold Big.M64; omega) c
  omega
theorem ext_take (r : ByteArray) (n : Nat) : (r.extract 0 n).data.toList = r.data.toList.take n := by simp [ByteArray.data_extract]
theorem ext_drop (r : ByteArray) (n : Nat) : (r.extract n r.size).data.toList = r.data.toList.drop n := by
  rw [ByteArray.data_extract]
  have h : r.size = r.data.size := rfl
  rw [Array.toList_extract, List.extract_eq_take_drop, h]
  exact List.take_of_length_le (by rw [List.length_drop, Array.length_toList]; exact Nat.le_refl _)
theorem Only.new_below {w w1 w2 : World} {g : Nat} (h : Only g w1 w2) (hb : Below w.heap.size w w1) (hg : w.heap.size ≤ g) : Below w.heap.size w w2 := h.below hb hg hb.size
set_option maxRecDepth 100000 in
set_option maxHeartbeats 2000000 in
theorem parse_any (w : World) (s : ByteArray) (h : Big.IsText s.data.toList) (hs : s.size ≤ 1000000) :
    Calls Tryz.prog 154 #[.string s] w (ParseR w (Big.dnum s.data.toList)) := by
  obtain ⟨i0, hi, hz0, hz1, hz2⟩ := info_parts Tryz.infoU64
  have HT := Lib.hid (isText_true w s h (by omega))
  have HD := Lib.hid h.2.2
  obtain ⟨c, hc⟩ : ∃ c, s.size / 19 + 1 = c := ⟨_, rfl⟩
  have hcI : (s.size : Int) / 19 + 1 = (c : Int) := by omega
  have hmk : ∀ W, (Instr.makeSlice 96 (.int .i64 0) (.int .i64 ((c : Nat) : Int))).run Tryz.prog W = .ok (.slice (some ⟨W.heap.size, 0, none⟩) 0 c) (W.alloc (.cells (cellsOf .u64 (List.replicate c 0)) 52)) := fun W =>
    make_words (P := Tryz.prog) Tryz.underlying96 hi hz0 hz1 (by rw [hz2]; omega) .i64 .i64 0 c (by omega) (by omega) W
  have HB := Lib.hid (Blk.new w 52 .u64 (List.replicate c 0))
  have HBel := Lib.hid (below_alloc (Below.refl w.heap.size w) (Nat.le_refl _) (.cells (cellsOf .u64 (List.replicate c 0)) 52))
  have hcb : c ≤ 1000000 := by omega
  have HC := Lib.hid (show s.data.toList.length ≤ 19 * c by rw [Array.length_toList]; show s.size ≤ _; omega)
  obtain ⟨L, hL⟩ : ∃ L, s.data.toList = L := ⟨_, rfl⟩
  rw [hL] at HD HC ⊢
  have HL := Lib.hid hL
  clear h hc hL
  go_enter Tryz.func154, Tryz.ntmps154
  go_wp2_with fail
  refine HT.out.mono ?_
  rintro e w' ⟨rfl, rfl⟩
  go_wp2_with fail
  clear hmk hcI
  go_loopw [0, 4] (fun sv xv wr => ∃ (a b : List UInt8) (r : ByteArray), sv = .string r ∧ Hid (r.data.toList = b ∧ a ++ b = L) ∧ Hid (OwnNat wr xv w.heap.size c (Big.dnum a)) ∧ Hid (Below w.heap.size w wr)) (fun sv _ _ => match sv with | .string r => r.size | _ => 0)
  case atStart => exact ⟨[], L, s, rfl, Lib.hid ⟨HL.out, rfl⟩, Lib.hid (own_zero HB.out (by omega)), HBel⟩
  case round =>
    obtain ⟨a, b, r, rfl, HR, HO, HBr⟩ := hrel
    have hrl : r.size = b.length := by rw [← HR.out.1, Array.length_toList]; rfl
    have hrs : r.size ≤ 1000000 := by
      have h1 := congrArg List.length HR.out.2
      rw [List.length_append] at h1
      have h2 : L.length = s.size := by rw [← HL.out, Array.length_toList]; rfl
      omega
    have HRL := Lib.hid hrl
    clear hrl
    by_cases hr0 : r.size = 0
    · have hI : ¬ ((r.size : Int) > 0) := by omega
      go_wp2_with fail
      go_ret2
      have hb0 : b = [] := by rw [← HR.out.1]; exact List.length_eq_zero_iff.1 (by rw [Array.length_toList]; exact hr0)
      have e := HR.out.2
      rw [hb0, List.append_nil] at e
      rw [← e]
      exact ⟨_, rfl, HO.out.nat, HBr.out⟩
    · have hI : (r.size : Int) > 0 := by omega
      obtain ⟨g1, g2, g3⟩ := group_at (l := r.size) (by omega)
      obtain ⟨n, hn⟩ : ∃ n, (r.size - 1) % 19 + 1 = n := ⟨_, rfl⟩
      have hnI : ((r.size : Int) - 1) % 19 + 1 = (n : Int) := by omega
      rw [hn] at g1 g2 g3
      have HX1 := Lib.hid (ext_take r n); have HX2 := Lib.hid (ext_drop r n)
      have hdb : Big.Digs b := fun d hd => HD.out d (by rw [← HR.out.2]; simp [hd])
      have hda : Big.Digs a := fun d hd => HD.out d (by rw [← HR.out.2]; simp [hd])
      have htl : (b.take n).length = n := by rw [List.length_take, ← HRL.out]; omega
      have hdt : Big.Digs (b.take n) := fun d hd => hdb d (List.mem_of_mem_take hd)
      have hgv := Big.dnum_lt hdt
      rw [htl] at hgv
      have hfit : Big.dnum a * 10 ^ n + Big.dnum (b.take n) < Big.M64 ^ c := by
        have h1 := parse_fits (a := a) (g := b.take n) (r := b.drop n) (c := c) (hda.append hdt) (by rw [List.append_assoc, List.take_append_drop, HR.out.2]; exact HC.out)
        rwa [htl] at h1
      have hT1 : 10 ^ n < Big.M64 := pow10_lt g3
      have hT0 : 1 ≤ 10 ^ n := Nat.one_le_pow _ _ (by omega)
      have CP := Lib.hid (fun W => power10_any W n g3)
      have CG := Lib.hid (fun W => groupValue_any W (r.extract 0 n) (by rw [HX1.out, HR.out.1]; exact hdt) (by
        have h1 : (r.extract 0 n).data.toList.length = n := by rw [HX1.out, HR.out.1]; exact htl
        rw [Array.length_toList] at h1
        show (r.extract 0 n).data.size ≤ 19
        omega))
      rw [HX1.out, HR.out.1] at CG
      have CM := Lib.hid (fun W (h : OwnNat W u4 w.heap.size c (Big.dnum a)) => mulAddWord_any W w.heap.size c (Big.dnum a) (10 ^ n) (Big.dnum (b.take n)) u4 h hT1 hT0 (by omega) hfit (by omega))
      have HAP := Lib.hid (show Big.dnum a * 10 ^ n + Big.dnum (b.take n) = Big.dnum (a ++ b.take n) by rw [Big.dnum_append, htl])
      rw [HAP.out] at CM
      obtain ⟨gv, hgvE⟩ : ∃ z, Big.dnum (b.take n) = z := ⟨_, rfl⟩
      rw [hgvE] at CG CM
      obtain ⟨T, hT⟩ : ∃ z, 10 ^ n = z := ⟨_, rfl⟩
      rw [hT] at CP CM
      have HO2 := Lib.hid (show OwnNat wr.drew u4 w.heap.size c (Big.dnum a) from HO.out)
      have hnI1 : (0 : Int) ≤ (n : Int) := by omega
      have hnI2 : (n : Int) ≤ (r.size : Int) := by omega
      clear hdb hda htl hdt hgv hfit hT1 hT0 hgvE hT hn
      go_wp2_with fail
      go_region_held3 (fun _ => True) (trivial)
        (first
          | (go_at_call 237; (with_reducible refine (CP.out _).mono ?_); rintro e w' ⟨rfl, rfl⟩)
          | (go_at_call 238; (with_reducible refine (CG.out _).mono ?_); rintro e w' ⟨rfl, rfl⟩)
          | (go_at_call 236; (with_reducible refine (CM.out _ HO2.out).mono ?_); rintro e w5 ⟨v5, rfl, hv5, hw5⟩)
          | fail)
      have HV5 := Lib.hid hv5
      have HB5 := Lib.hid (Only.new_below hw5 (show Below w.heap.size w wr.drew from below_drew HBr.out) (Nat.le_refl _))
      clear hv5 hw5
      go_wp2_with fail
      refine ⟨⟨a ++ b.take n, b.drop n, r.extract n r.size, rfl, Lib.hid ⟨by rw [HX2.out, HR.out.1], by rw [List.append_assoc, List.take_append_drop]; exact HR.out.2⟩, HV5, HB5⟩, ?_⟩
      have h1 : (r.extract n r.size).data.toList.length = r.size - n := by rw [HX2.out, List.length_drop, Array.length_toList]; rfl
      rw [Array.length_toList] at h1
      show (r.extract n r.size).data.size < r.size
      omega
end Go.Proofs.YtjjbhadnakjhdaaGreatDoor
namespace Go.Proofs.YtjjbhadnakjhdaaGreatDoor
open Go Go.RowKit
namespace Ev
def wordsN (n : Nat) : Nat := if n = 0 then 0 else Nat.log2 n / 64 + 1
theorem words_of {l : List Nat} (ol : Big.Ok Big.M64 l) (nl : Big.Norm l) : l.length = wordsN (Big.val Big.M64 l) := by
  unfold wordsN
  by_cases h0 : Big.val Big.M64 l = 0
  · rw [if_pos h0, Big.norm_zero Big.M64_pos l nl h0]; rfl
  · rw [if_neg h0]
    have hne : l ≠ [] := by intro e; subst e; exact h0 rfl
    have h1 := Big.norm_ge (B := Big.M64) l nl hne
    have h2 := Big.val_lt l ol
    generalize Big.val Big.M64 l = n at *
    have hM : ∀ k, Big.M64 ^ k = 2 ^ (64 * k) := fun k => by rw [Nat.pow_mul]; rfl
    rw [hM] at h1 h2
    have h3 := Nat.log2_self_le h0
    have h4 : n < 2 ^ (Nat.log2 n + 1) := Nat.lt_log2_self
    have hl : 0 < l.length := List.length_pos_iff.2 hne
    have h5 : Nat.log2 n < 64 * l.length := (Nat.pow_lt_pow_iff_right (by omega : 1 < 2)).1 (Nat.lt_of_le_of_lt h3 h2)
    have h6 : 64 * (l.length - 1) < Nat.log2 n + 1 := (Nat.pow_lt_pow_iff_right (by omega : 1 < 2)).1 (Nat.lt_of_le_of_lt h1 h4)
    omega
theorem nat_slice {w : World} {v : Value} {n : Nat} (h : NatIn w v n) : ∃ a c, v = .slice a (wordsN n) c := by
  obtain ⟨l, ⟨A, c, e, -, -, -⟩, ol, nl, rfl⟩ := h
  exact ⟨A, c, by rw [e, words_of ol nl]⟩
theorem nat_one {w : World} {v : Value} {n : Nat} (h : NatIn w v n) : isOne v = true := by
  obtain ⟨a, c, rfl⟩ := nat_slice h; rfl
theorem nat_stable {n : Nat} {w w' : World} {v : Value} (h : NatIn w v n) (hk : ∀ (b : Nat) (c : Array Value) (t : TypeId) (z : Nat × Nat), w.heap[b]? = some (.cells c t z) → Nat.beq t 52 = true → w'.heap[b]? = some (.cells c t z)) : NatIn w' v n := by
  obtain ⟨l, ⟨A, c, e, h1, h2, h3⟩, ol, nl, hv⟩ := h
  refine ⟨l, ⟨A, c, e, h1, h2, fun hp => ?_⟩, ol, nl, hv⟩
  obtain ⟨b, o, ea, hlt, hc, cs, hcs⟩ := h3 hp
  have hcs' := hk b cs _ _ hcs (Nat.beq_refl _)
  refine ⟨b, o, ea, (Array.getElem?_eq_some_iff.1 hcs').1, fun i hi => ?_, cs, hcs'⟩
  rw [← hc i hi]
  exact World.cell?_of_block (hcs'.trans hcs.symm)
theorem tab_at : ∃ g, g < Tryz.prog.globals.size ∧ Tryz.prog.globalNamed "internal/strconv.uint64pow10" = some g := by
  have h : (match Tryz.prog.globalNamed "internal/strconv.uint64pow10" with | some g => Nat.ble (g + 1) Tryz.prog.globals.size | none => false) = true := by kernel_rfl
  cases e : Tryz.prog.globalNamed "internal/strconv.uint64pow10" with
  | none => rw [e] at h; cases h
  | some g => rw [e] at h; exact ⟨g, Nat.le_of_ble_eq_true h, rfl⟩
noncomputable def natSig : Sig Nat where
  holds n w v := NatIn w v n
  hid t := Nat.beq t 52
  G := Tryz.prog.globals.size
  base := Tab
  baseS := by
    intro w w' h hk
    obtain ⟨g, hg, hn⟩ := tab_at
    unfold Tab Lib.TabIs World.var? at *
    rw [hn] at h ⊢
    simp only [Option.bind_some] at h ⊢
    cases hq : w.heap[g]? with
    | none => rw [hq] at h; cases h
    | some o => rw [hk g o hg hq]; rw [hq] at h; exact h
  stable := fun _ _ _ _ h hk => nat_stable h hk
noncomputable def natCfg0 : Cfg Nat where
  hid t := Nat.beq t 52
  G := Tryz.prog.globals.size
  tab f := Tryz.prog.funcs[f]?
  len n := some (wordsN n)
  hard _ _ := fail
noncomputable def natCfg : Cfg Nat where
  hid t := Nat.beq t 52
  G := Tryz.prog.globals.size
  tab f := Tryz.prog.funcs[f]?
  len n := some (wordsN n)
  hard := memHard Tryz.prog natCfg0
instance natHard : HardLoc natCfg := ⟨fun o vs => loc_memHard _ _ o vs⟩
theorem natFits : Fits natSig Tryz.prog natCfg where
  hid := rfl
  G := rfl
  len := fun f n w v h e => by
    have e' : wordsN f = n := Option.some.inj e
    obtain ⟨a, c, rfl⟩ := nat_slice h
    exact ⟨a, c, by rw [e']⟩
  tab := fun f fn h => by
    refine ⟨h, ?_⟩
    have hall : (Tryz.prog.funcs.all fun fn => !(fn.name == "runtime.NumGoroutine")) = true := by kernel_rfl
    have h1 := Array.all_eq_true_iff_forall_mem.1 hall fn (Array.mem_of_getElem? h)
    simpa using h1
  mixed := by kernel_rfl
  hard := memHard_ok rfl rfl rfl
section
variable {F : Type} {S : Sig F}
theorem ext_below {r : Ren} {g : Nat → Option (Blk F)} {w w' : World} (hM : Mod S r g w) (hb : Below w.heap.size w w') (nx : Nat) : Ext S r w nx nx [] g r w' := by
  have hk : ∀ (b : Nat) (o : Obj), w.heap[b]? = some o → w'.heap[b]? = some o := fun b o hbo => (hb.block b (Array.getElem?_eq_some_iff.1 hbo).1).trans hbo
  refine ⟨.refl r, ⟨hM.inj, fun n b hn => Nat.lt_of_lt_of_le (hM.lt n b hn) hb.size, fun n c t hn => ?_, fun n f hn => ?_, S.baseS w w' hM.base fun b o _ => hk b o, hM.glob, hM.own, fun n c t hn => ?_⟩, fun _ h => .inl h, fun _ _ h => .inl h, fun b o hbo _ => hk b o hbo, hb.size, hb.os, hb.tape, hb.output⟩
  · obtain ⟨b, c', h1, h2, h3, h4⟩ := hM.cells n c t hn
    exact ⟨b, c', h1, hk b _ h2, h3, h4⟩
  · obtain ⟨v, h1, h2, h3⟩ := hM.fact n f hn
    exact ⟨v, h1, S.stable f w w' v h2 fun b c t z hbo _ => hk b _ hbo, h3⟩
  · obtain ⟨b, c', h1, h2, h3, h4, h5⟩ := hM.room n c t hn
    exact ⟨b, c', h1, hk b _ h2, h3, h4, h5⟩
theorem ext_fact {r : Ren} {g : Nat → Option (Blk F)} {w w' : World} {nx : Nat} {f : F} {v' : Value} (hM : Mod S r g w) (hb : Below w.heap.size w w') (hN : New r nx (nx + 1)) (hh : S.holds f w' v') (ho : isOne v' = true) :
    ∃ r', Ext S r w nx (nx + 1) [] (fun n => if n = nx then some (.fact f) else g n) r' w' ∧ r'.val nx = some v' := by
  have hno := hN nx (Nat.le_refl _) (Nat.lt_succ_self _)
  have hX := ext_below hM hb nx
  have hle : r.le ⟨r.blk, fun n => if n = nx then some v' else r.val n, r.len⟩ := by
    refine ⟨fun _ _ e => e, fun n v e => ?_, fun _ _ _ => rfl⟩
    have : n ≠ nx := fun h => by rw [h, hno.2] at e; cases e
    simp only [if_neg this, e]
  refine ⟨⟨r.blk, fun n => if n = nx then some v' else r.val n, r.len⟩, ⟨hle, ⟨fun n m b h1 h2 => (hM.inj n m b h1 h2).imp id (Or.imp (Gone.over_fact nx f) (Gone.over_fact nx f)), hX.mod.lt, fun n c t hn => ?_, fun n f' hn => ?_, hX.mod.base, hM.glob, hM.own, fun n c t hn => ?_⟩, fun n hn => ?_, fun _ _ h => .inl h, hX.keep, hX.size, hX.os, hX.tape, hX.output⟩, by simp⟩
  · by_cases h : n = nx
    · simp only [if_pos h, Option.some.injEq] at hn; cases hn
    · simp only [if_neg h] at hn
      obtain ⟨b, c', h1, h2, h3, h4⟩ := hX.mod.cells n c t hn
      exact ⟨b, c', h1, h2, h3.mono hle, h4⟩
  · by_cases h : n = nx
    · simp only [if_pos h, Option.some.injEq, Blk.fact.injEq] at hn
      subst hn
      exact ⟨v', by simp [h], hh, ho⟩
    · simp only [if_neg h] at hn
      obtain ⟨v, h1, h2, h3⟩ := hX.mod.fact n f' hn
      exact ⟨v, by simp only [if_neg h, h1], h2, h3⟩
  · by_cases h : n = nx
    · simp only [if_pos h, Option.some.injEq] at hn; cases hn
    · simp only [if_neg h] at hn
      obtain ⟨b, c', h1, h2, h3, h4, h5⟩ := hX.mod.room n c t hn
      exact ⟨b, c', h1, h2, h3.mono hle, h4, h5⟩
  · by_cases h : n = nx
    · exact .inr ⟨by omega, by omega⟩
    · simp only [if_neg h] at hn; exact .inl hn
end
noncomputable def isNilV : Value → Bool
  | .slice a n c => match a with
    | none => Nat.beq n 0 && Nat.beq c 0
    | some _ => false
  | _ => false
noncomputable def natV (v : Value) : M Nat Nat := cond (isNilV v) (ret 0) (fact v)
theorem loc_natV (v : Value) : Loc (natV v) := loc_cond (loc_ret _) (loc_fact v)
theorem fact_ok {F : Type} {S : Sig F} {v v' : Value} {f : F} {h h' : Tr (Blk F)} {nx nx' : Nat} {R W : List Nat} {r : Ren} {w : World} (e : (fact v : M F F) h nx = .ok f h' nx' R W) (hv : VR r v v') (hM : Mod S r h.get w) : h' = h ∧ nx' = nx ∧ W = [] ∧ S.holds f w v' := by
  unfold fact at e
  cases v with
  | chan i =>
    cases i with
    | none => simp [fail] at e
    | some i =>
      simp only at e
      obtain ⟨bl, h3, nx3, R3, W3, R4, W4, e3, e4, rfl, rfl⟩ := bind_ok e
      unfold rd at e3
      cases hg : h.get i with
      | none => rw [hg] at e3; cases e3
      | some bl2 =>
        rw [hg] at e3
        cases e3
        cases bl with
        | cells _ _ => simp [fail] at e4
        | room _ _ => simp [fail] at e4
        | fact f2 =>
          simp only at e4
          obtain ⟨rfl, rfl, rfl, rfl⟩ := ret_ok e4
          obtain ⟨v0, hv0, hh, ho⟩ := hM.fact _ _ hg
          refine ⟨rfl, rfl, by simp, ?_⟩
          cases hv with
          | same p => simp [plain] at p
          | opq hp _ => rw [hv0] at hp; injection hp with hp; subst hp; exact hh
  | _ => simp [fail] at e
theorem natV_ok {v v' : Value} {n : Nat} {h h' : Tr (Blk Nat)} {nx nx' : Nat} {R W : List Nat} {r : Ren} {w : World} (e : natV v h nx = .ok n h' nx' R W) (hv : VR r v v') (hM : Mod natSig r h.get w) : h' = h ∧ nx' = nx ∧ W = [] ∧ NatIn w v' n := by
  unfold natV at e
  cases hi : isNilV v with
  | true =>
    rw [hi] at e
    obtain ⟨rfl, rfl, rfl, rfl⟩ := ret_ok e
    refine ⟨rfl, rfl, rfl, ?_⟩
    cases v with
    | slice a m c =>
      cases a with
      | some _ => simp [isNilV] at hi
      | none =>
        simp only [isNilV, Bool.and_eq_true] at hi
        have h1 := Nat.eq_of_beq_eq_true hi.1
        have h2 := Nat.eq_of_beq_eq_true hi.2
        subst h1; subst h2
        rw [hv.nilslc]
        exact NatIn.nil_ w
    | _ => simp [isNilV] at hi
  | false =>
    rw [hi] at e
    exact fact_ok e hv hM
def SumF {F : Type} (S : Sig F) (P : Program) (f : FuncId) (g : List Value → Option (M F Value)) : Prop := ∀ args m, g args = some m → Loc m ∧ ∀ h nx v h' nx' R W, m h nx = .ok v h' nx' R W →
  ∀ (r : Ren) (w : World) (args' : List Value), VsR r args args' → Mod S r h.get w → New r nx nx' → Calls P f ⟨args'⟩ w fun e w' => ∃ v' r', e = .returned v' ∧ VR r' v v' ∧ Ext S r w nx nx' W h'.get r' w'
noncomputable def mkTab {G : Type} : List (Nat × G) → Tr G
  | [] => .nil
  | x :: l => (mkTab l).set x.1 x.2
theorem mkTab_get {G : Type} {f : Nat} {g : G} : ∀ {l : List (Nat × G)}, (mkTab l).get f = some g → (f, g) ∈ l
  | [], h => by simp [mkTab, Tr.get_nil] at h
  | x :: l, h => by
    rw [mkTab, Tr.get_set] at h
    by_cases e : f = x.1
    · rw [if_pos e] at h
      injection h with h
      obtain ⟨a, b⟩ := x
      simp only at e h
      subst e; subst h
      exact List.mem_cons_self
    · rw [if_neg e] at h
      exact List.mem_cons_of_mem _ (mkTab_get h)
noncomputable def sumsOf {F : Type} (t : Tr (List Value → Option (M F Value))) : Sums F := fun f args => match t.get f with
  | some g => g args
  | none => none
theorem sumsOf_ok {F : Type} {S : Sig F} {P : Program} {l : List (Nat × (List Value → Option (M F Value)))} (h : ∀ x ∈ l, SumF S P x.1 x.2) : SumOK S P (sumsOf (mkTab l)) := by
  have key : ∀ f args m, sumsOf (mkTab l) f args = some m → ∃ g, SumF S P f g ∧ g args = some m := by
    intro f args m e
    unfold sumsOf at e
    cases hg : (mkTab l).get f with
    | none => rw [hg] at e; cases e
    | some g => rw [hg] at e; exact ⟨g, h _ (mkTab_get hg), e⟩
  refine ⟨fun f args m e => ?_, fun f args m e h nx v h' nx' R W hr r w args' ha hM hN => ?_⟩
  · obtain ⟨g, hs, hg⟩ := key f args m e
    exact (hs args m hg).1
  · obtain ⟨g, hs, hg⟩ := key f args m e
    exact (hs args m hg).2 _ _ _ _ _ _ _ hr.ok r w args' ha hM hN
end Ev
end Go.Proofs.YtjjbhadnakjhdaaGreatDoor
namespace Go.Proofs.YtjjbhadnakjhdaaGreatDoor
open Go.RowKit
def Sum1 (w : World) (S : Int) (e : Ending) (w' : World) : Prop := ∃ v', e = .returned (.tuple #[.bool (decide (S < 0)), v']) ∧ NatIn w' v' S.natAbs ∧ Below w.heap.size w w'
def Sum2 (b w : World) (S : Int) (e : Ending) (w' : World) : Prop := ∃ v', e = .returned (.tuple #[.bool (decide (S < 0)), v']) ∧ NatIn w' v' S.natAbs ∧ Below b.heap.size b w' ∧ Below w.heap.size w w'
theorem liftS {P : Program} {f : FuncId} {args : Array Value} {b W : World} {S : Int} (h : Below b.heap.size b W) (c : Calls P f args W (Sum1 W S)) : Calls P f args W (Sum2 b W S) :=
  c.mono fun _ _ ⟨v, h1, h2, h3⟩ => ⟨v, h1, h2, h.trans (h3.mono h.size), h3⟩
set_option maxRecDepth 100000 in
set_option maxHeartbeats 2000000 in
theorem exsum_any (w : World) (b c : Bool) (v u : Value) (n m k j : Nat) (h : NatIn w v n) (i : NatIn w u m) (hn : Sz k n) (hm : Sz j m) (hk : k ≤ 100000000) (hj : j ≤ 100000000) (hb : b = true → 1 ≤ n) (hc : c = true → 1 ≤ m) :
    Calls Tryz.prog 186 #[.bool b, v, .bool c, u] w (Sum1 w (Big.sI b n + Big.sI c m)) := by
  have CA := Lib.hid (add_num w v u n m k j h i hn hm hk hj)
  have C1 := Lib.hid (fun W (hW : Drew w W) => sub_num W v u n m k (h.drew hW) (i.drew hW) hn hk)
  have C2 := Lib.hid (fun W (hW : Drew w W) => sub_num W u v m n j (i.drew hW) (h.drew hW) hm hj)
  have CC := Lib.hid (cmp_num w v u n m h i)
  obtain ⟨A, l, c1, rfl, -⟩ := h.is_slice
  obtain ⟨A2, l2, c2, rfl, -⟩ := i.is_slice
  clear h i hn hm hk hj
  cases b
  · cases c
    · clear CC C1 C2 hb hc
      go_enter Tryz.func186, Tryz.ntmps186
      go_wp2_with fail
      refine CA.out.mono ?_
      rintro e w' ⟨v', rfl, hv, hb⟩
      have HV := Lib.hid hv; have HB := Lib.hid hb
      clear hv hb
      go_wp2_with fail
      go_ret2
      refine ⟨v', ?_, ?_, HB.out⟩
      · rw [Big.sI_false, Big.sI_false, decide_eq_false (by omega)]; rfl
      · rw [Big.sI_false, Big.sI_false]
        have e : ((n : Int) + (m : Int)).natAbs = n + m := by omega
        rw [e]; exact HV.out
    · rcases Nat.lt_trichotomy n m with hlt | heq | hgt
      · rw [Big.cmpI_lt hlt] at CC
        have HBC := Lib.hid (And.intro hb (And.intro hc hlt))
        clear hb hc hlt
        go_enter Tryz.func186, Tryz.ntmps186
        go_wp2_with fail
        refine CC.out.mono ?_
        rintro e w1 ⟨rfl, hd⟩
        have HD := Lib.hid hd
        clear hd
        go_wp2_with fail
        refine (C2.out _ HD.out).mono ?_
        rintro e w' ⟨v', rfl, hv, hb⟩
        have HV := Lib.hid hv; have HB := Lib.hid ((HD.out.below _).trans (hb.mono (by rw [HD.out.heap]; exact Nat.le_refl _)))
        clear hv hb
        go_wp2_with fail
        go_ret2
        have HL := HBC.out.2.2
        refine ⟨v', ?_, ?_, HB.out⟩
        · rw [Big.sI_false, Big.sI_true, decide_eq_true (by omega)]; rfl
        · rw [Big.sI_false, Big.sI_true]
          have e : ((n : Int) + -(m : Int)).natAbs = m - n := by omega
          rw [e]; exact HV.out
      · subst heq; rw [Big.cmpI_eq] at CC
        have HBC := Lib.hid (And.intro hb (And.intro hc True.intro))
        clear hb hc
        go_enter Tryz.func186, Tryz.ntmps186
        go_wp2_with fail
        refine CC.out.mono ?_
        rintro e w1 ⟨rfl, hd⟩
        have HD := Lib.hid hd
        clear hd
        go_wp2_with fail
        go_ret2
        refine ⟨.slice none 0 0, ?_, ?_, HD.out.below _⟩
        · rw [Big.sI_false, Big.sI_true, decide_eq_false (by omega)]; rfl
        · rw [Big.sI_false, Big.sI_true]
          have e : ((n : Int) + -(n : Int)).natAbs = 0 := by omega
          rw [e]; exact NatIn.nil_ _
      · rw [Big.cmpI_gt hgt] at CC
        have HBC := Lib.hid (And.intro hb (And.intro hc hgt))
        clear hb hc hgt
        go_enter Tryz.func186, Tryz.ntmps186
        go_wp2_with fail
        refine CC.out.mono ?_
        rintro e w1 ⟨rfl, hd⟩
        have HD := Lib.hid hd
        clear hd
        go_wp2_with fail
        refine (C1.out _ HD.out).mono ?_
        rintro e w' ⟨v', rfl, hv, hb⟩
        have HV := Lib.hid hv; have HB := Lib.hid ((HD.out.below _).trans (hb.mono (by rw [HD.out.heap]; exact Nat.le_refl _)))
        clear hv hb
        go_wp2_with fail
        go_ret2
        have HL := HBC.out.2.2
        refine ⟨v', ?_, ?_, HB.out⟩
        · rw [Big.sI_false, Big.sI_true, decide_eq_false (by omega)]; rfl
        · rw [Big.sI_false, Big.sI_true]
          have e : ((n : Int) + -(m : Int)).natAbs = n - m := by omega
          rw [e]; exact HV.out
  · cases c
    · rcases Nat.lt_trichotomy n m with hlt | heq | hgt
      · rw [Big.cmpI_lt hlt] at CC
        have HBC := Lib.hid (And.intro hb (And.intro hc hlt))
        clear hb hc hlt
        go_enter Tryz.func186, Tryz.ntmps186
        go_wp2_with fail
        refine CC.out.mono ?_
        rintro e w1 ⟨rfl, hd⟩
        have HD := Lib.hid hd
        clear hd
        go_wp2_with fail
        refine (C2.out _ HD.out).mono ?_
        rintro e w' ⟨v', rfl, hv, hb⟩
        have HV := Lib.hid hv; have HB := Lib.hid ((HD.out.below _).trans (hb.mono (by rw [HD.out.heap]; exact Nat.le_refl _)))
        clear hv hb
        go_wp2_with fail
        go_ret2
        have HL := HBC.out.2.2
        refine ⟨v', ?_, ?_, HB.out⟩
        · rw [Big.sI_true, Big.sI_false, decide_eq_false (by omega)]; rfl
        · rw [Big.sI_true, Big.sI_false]
          have e : (-(n : Int) + (m : Int)).natAbs = m - n := by omega
          rw [e]; exact HV.out
      · subst heq; rw [Big.cmpI_eq] at CC
        have HBC := Lib.hid (And.intro hb (And.intro hc True.intro))
        clear hb hc
        go_enter Tryz.func186, Tryz.ntmps186
        go_wp2_with fail
        refine CC.out.mono ?_
        rintro e w1 ⟨rfl, hd⟩
        have HD := Lib.hid hd
        clear hd
        go_wp2_with fail
        go_ret2
        refine ⟨.slice none 0 0, ?_, ?_, HD.out.below _⟩
        · rw [Big.sI_true, Big.sI_false, decide_eq_false (by omega)]; rfl
        · rw [Big.sI_true, Big.sI_false]
          have e : (-(n : Int) + (n : Int)).natAbs = 0 := by omega
          rw [e]; exact NatIn.nil_ _
      · rw [Big.cmpI_gt hgt] at CC
        have HBC := Lib.hid (And.intro hb (And.intro hc hgt))
        clear hb hc hgt
        go_enter Tryz.func186, Tryz.ntmps186
        go_wp2_with fail
        refine CC.out.mono ?_
        rintro e w1 ⟨rfl, hd⟩
        have HD := Lib.hid hd
        clear hd
        go_wp2_with fail
        refine (C1.out _ HD.out).mono ?_
        rintro e w' ⟨v', rfl, hv, hb⟩
        have HV := Lib.hid hv; have HB := Lib.hid ((HD.out.below _).trans (hb.mono (by rw [HD.out.heap]; exact Nat.le_refl _)))
        clear hv hb
        go_wp2_with fail
        go_ret2
        have HL := HBC.out.2.2
        refine ⟨v', ?_, ?_, HB.out⟩
        · rw [Big.sI_true, Big.sI_false, decide_eq_true (by omega)]; rfl
        · rw [Big.sI_true, Big.sI_false]
          have e : (-(n : Int) + (m : Int)).natAbs = n - m := by omega
          rw [e]; exact HV.out
    · have h1 := hb rfl
      clear CC C1 C2 hb hc
      go_enter Tryz.func186, Tryz.ntmps186
      go_wp2_with fail
      refine CA.out.mono ?_
      rintro e w' ⟨v', rfl, hv, hb⟩
      have HV := Lib.hid hv; have HB := Lib.hid hb
      clear hv hb
      go_wp2_with fail
      go_ret2
      refine ⟨v', ?_, ?_, HB.out⟩
      · rw [Big.sI_true, Big.sI_true, decide_eq_true (by omega)]; rfl
      · rw [Big.sI_true, Big.sI_true]
        have e : (-(n : Int) + -(m : Int)).natAbs = n + m := by omega
        rw [e]; exact HV.out
end Go.Proofs.YtjjbhadnakjhdaaGreatDoor
namespace Go.Proofs.YtjjbhadnakjhdaaGreatDoor
open Go.RowKit
theorem lift2 {P : Program} {f : FuncId} {args : Array Value} {b W : World} {r : Nat} (h : Below b.heap.size b W) (c : Calls P f args W (Nat1 W r)) : Calls P f args W (Nat2 b W r) :=
  c.mono fun _ _ ⟨v, h1, h2, h3⟩ => ⟨v, h1, h2, h.trans (h3.mono h.size), h3⟩
set_option maxRecDepth 100000 in
set_option maxHeartbeats 4000000 in
theorem exAdd_any (w : World) (vx vy : Value) (q r : Rat) (k : Nat) (hx : NumIn w vx q) (hy : NumIn w vy r) (sx : Sm k q) (sy : Sm k r) (hk : k ≤ 10000000) :
    Calls Tryz.prog 108 #[vx, vy] w (Num1 w (q + r)) := by
  obtain ⟨A, l, c, A2, l2, c2, rfl, hx1, hx2⟩ := hx.is_agg
  obtain ⟨B, m, d, B2, m2, d2, rfl, hy1, hy2⟩ := hy.is_agg
  have HX := Lib.hid (And.intro hx1 hx2); have HY := Lib.hid (And.intro hy1 hy2)
  have SX := Lib.hid sx; have SY := Lib.hid sy
  have PP := Lib.hid (Big.add_parts q r _ _ _ _ rfl rfl rfl rfl)
  have GX := Lib.hid (And.intro (@Big.ng_pos q) (And.intro (@Big.ng_pos r) (And.intro (Big.de_pos q) (Big.de_pos r))))
  clear hx hy hx1 hx2 hy1 hy2 sx sy
  generalize Big.ng q = nq at *
  generalize Big.ng r = nr at *
  go_enter Tryz.func108, Tryz.ntmps108
  go_wp2_with fail
  obtain ⟨X0, Y0, R0, B0⟩ := boxed3 w 98 98 (.bool nq) (.slice A l c) (.slice A2 l2 c2) (.bool nr) (.slice B m d) (.slice B2 m2 d2) (.bool false) (.slice none 0 0) (.slice none 0 0)
  have HX0 := Lib.hid X0; have HY0 := Lib.hid Y0; have HR0 := Lib.hid R0; have HB0 := Lib.hid B0
  clear X0 Y0 R0 B0
  generalize ((w.alloc (.cells #[.bool nq, .slice A l c, .slice A2 l2 c2] 98)).alloc (.cells #[.bool nr, .slice B m d, .slice B2 m2 d2] 98)).alloc (.cells #[.bool false, .slice none 0 0, .slice none 0 0] 98) = w0 at *
  have G0 := Lib.hid (gcd_num w0 _ _ _ _ k k (HX.out.2.keep HB0.out) (HY.out.2.keep HB0.out) SX.out.de SY.out.de (by omega) (by omega))
  obtain ⟨s, hs⟩ : ∃ s, Nat.gcd (Big.de q) (Big.de r) = s := ⟨_, rfl⟩
  rw [hs] at PP G0
  have hs1 : 1 ≤ s := by rw [← hs]; exact Big.gcd_pos_right GX.out.2.2.2
  have hsq : s ∣ Big.de q := by rw [← hs]; exact Nat.gcd_dvd_left _ _
  have hsr : s ∣ Big.de r := by rw [← hs]; exact Nat.gcd_dvd_right _ _
  have hR1 : 1 ≤ Big.de r / s := Nat.div_pos (Nat.le_of_dvd GX.out.2.2.2 hsr) hs1
  have hL1 : 1 ≤ Big.de q / s := Nat.div_pos (Nat.le_of_dvd GX.out.2.2.1 hsq) hs1
  have SS := Lib.hid (SX.out.de.le (Nat.le_of_dvd GX.out.2.2.1 hsq))
  have SL := Lib.hid (SX.out.de.le (Nat.div_le_self (Big.de q) s)); have SR := Lib.hid (SY.out.de.le (Nat.div_le_self (Big.de r) s))
  have CL := Lib.hid (fun W v (h : NatIn W (.slice A2 l2 c2) (Big.de q)) (i : NatIn W v s) => quo_num W _ _ _ _ k h i SX.out.de (by omega))
  have CR := Lib.hid (fun W v (h : NatIn W (.slice B2 m2 d2) (Big.de r)) (i : NatIn W v s) => quo_num W _ _ _ _ k h i SY.out.de (by omega))
  obtain ⟨L, hL⟩ : ∃ L, Big.de q / s = L := ⟨_, rfl⟩
  obtain ⟨R, hR⟩ : ∃ R, Big.de r / s = R := ⟨_, rfl⟩
  rw [hL] at PP CL SL hL1; rw [hR] at PP CR SR hR1
  clear hs hs1 hsq hsr hL hR
  refine G0.out.mono ?_
  rintro e w1 ⟨v1, rfl, hv1, hb1⟩
  have HV1 := Lib.hid hv1; have HB1 := Lib.hid (HB0.out.trans (hb1.mono HB0.out.size))
  have HX1 := Lib.hid (HX0.out.keep hb1); have HY1 := Lib.hid (HY0.out.keep hb1); have HR1 := Lib.hid (HR0.out.keep hb1)
  clear hv1 hb1 HX0 HY0 HR0 HB0
  have KX := Lib.hid (fun W (h : Below w1.heap.size w1 W) => And.intro (HX1.out.keep h).c2 (HY1.out.keep h).c2)
  have CQ1 := Lib.hid (fun W (h : Below w1.heap.size w1 W) => lift2 h (CL.out W v1 ((HX.out.2.keep HB1.out).keep h) (HV1.out.keep h)))
  have CQ2 := Lib.hid (fun W (h : Below w1.heap.size w1 W) => lift2 h (CR.out W v1 ((HY.out.2.keep HB1.out).keep h) (HV1.out.keep h)))
  go_wp2_with fail
  go_region_held3 (fun w' => w'.cell? ⟨w.heap.size, 2, none⟩ = some (.slice A2 l2 c2) ∧ w'.cell? ⟨w.heap.size + 1, 2, none⟩ = some (.slice B2 m2 d2))
    (exact KX.out _ (by first | assumption | exact Below.refl _ _ | exact below_drew (Below.refl _ _) | exact below_drew (by assumption)))
    (first
      | (go_at_call 138; (with_reducible refine (CQ1.out _ (by first | assumption | exact Below.refl _ _ | exact below_drew (Below.refl _ _) | exact below_drew (by assumption))).mono ?_); rintro e w2 ⟨v2, rfl, hv2, hw2, hw2'⟩)
      | (go_at_call 138; (with_reducible refine (CQ2.out _ (by first | assumption | exact Below.refl _ _ | exact below_drew (Below.refl _ _) | exact below_drew (by assumption))).mono ?_); rintro e w3 ⟨v3, rfl, hv3, hw3, hw3'⟩)
      | fail)
  have HB3 := Lib.hid (HB1.out.trans (hw3.mono HB1.out.size))
  have HX3 := Lib.hid (HX1.out.keep hw3); have HY3 := Lib.hid (HY1.out.keep hw3); have HR3 := Lib.hid (HR1.out.keep hw3)
  have HV := Lib.hid (And.intro (HV1.out.keep hw3) (And.intro (hv2.keep hw3') hv3))
  clear hv2 hw2 hw2' hv3 hw3 hw3' HX1 HY1 HR1 HB1 HV1 KX CQ1 CQ2 CL
  have KX := Lib.hid (fun W (h : Below w3.heap.size w3 W) => And.intro (HX3.out.keep h).c0 (And.intro (HX3.out.keep h).c1 (And.intro (HY3.out.keep h).c0 (HY3.out.keep h).c1)))
  have CM1 := Lib.hid (fun W (h : Below w3.heap.size w3 W) => lift2 h (mul_num W _ _ _ _ k k ((HX.out.1.keep HB3.out).keep h) (HV.out.2.2.keep h) SX.out.nu SR.out (by omega) (by omega)))
  have CM2 := Lib.hid (fun W (h : Below w3.heap.size w3 W) => lift2 h (mul_num W _ _ _ _ k k ((HY.out.1.keep HB3.out).keep h) (HV.out.2.1.keep h) SY.out.nu SL.out (by omega) (by omega)))
  have CS := Lib.hid (fun W a b (ha : NatIn W a (Big.nu q * R)) (hb : NatIn W b (Big.nu r * L)) (h : Below w3.heap.size w3 W) => liftS h (exsum_any W nq nr a b _ _ _ _ ha hb (SX.out.nu.mul SR.out) (SY.out.nu.mul SL.out) (by omega) (by omega) (fun e => Nat.mul_pos (GX.out.1 e) hR1) (fun e => Nat.mul_pos (GX.out.2.1 e) hL1)))
  have SSm := Lib.hid (((SX.out.nu.mul SR.out).add (SY.out.nu.mul SL.out)).le (abs_sum_le nq nr _ _))
  generalize Big.sI nq (Big.nu q * R) + Big.sI nr (Big.nu r * L) = S at *
  go_wp2_with fail
  go_region_held3 (fun w' => w'.cell? ⟨w.heap.size, 0, none⟩ = some (.bool nq) ∧ w'.cell? ⟨w.heap.size, 1, none⟩ = some (.slice A l c) ∧ w'.cell? ⟨w.heap.size + 1, 0, none⟩ = some (.bool nr) ∧ w'.cell? ⟨w.heap.size + 1, 1, none⟩ = some (.slice B m d))
    (exact KX.out _ (by first | assumption | exact Below.refl _ _ | exact below_drew (Below.refl _ _) | exact below_drew (by assumption)))
    (first
      | (go_at_call 140; (with_reducible refine (CM1.out _ (by first | assumption | exact Below.refl _ _ | exact below_drew (Below.refl _ _) | exact below_drew (by assumption))).mono ?_); rintro e w4 ⟨v4, rfl, hv4, hw4, hw4'⟩)
      | (go_at_call 140; (with_reducible refine (CM2.out _ (by first | assumption | exact Below.refl _ _ | exact below_drew (Below.refl _ _) | exact below_drew (by assumption))).mono ?_); rintro e w5 ⟨v5, rfl, hv5, hw5, hw5'⟩)
      | (go_at_call 186; (with_reducible refine (CS.out _ _ _ (by first | exact hv4.keep hw5' | exact NatIn.dr (hv4.keep hw5')) (by first | exact hv5 | exact NatIn.dr (hv5)) (by first | assumption | exact Below.refl _ _ | exact below_drew (Below.refl _ _) | exact below_drew (by assumption))).mono ?_); rintro e w6 ⟨v6, rfl, hv6, hw6, hw6'⟩)
      | fail)
  have HB6 := Lib.hid (HB3.out.trans (hw6.mono HB3.out.size))
  have HY6 := Lib.hid (HY3.out.keep hw6); have HR6 := Lib.hid (HR3.out.keep hw6)
  have HV6 := Lib.hid (And.intro (HV.out.1.keep hw6) (And.intro (HV.out.2.1.keep hw6) hv6))
  clear hv4 hw4 hw4' hv5 hw5 hw5' hv6 hw6 hw6' HX3 HY3 HR3 HB3 HV KX CM1 CM2 CS
  clear HX CR hL1 hR1
  have G6 := Lib.hid (gcd_num w6 _ _ _ _ _ k HV6.out.2.2 HV6.out.1 SSm.out SS.out (by omega) (by omega))
  obtain ⟨cm, hc⟩ : ∃ z, Nat.gcd S.natAbs s = z := ⟨_, rfl⟩
  rw [hc] at PP G6
  clear hc
  go_wp2_with fail
  refine G6.out.mono ?_
  rintro e w7 ⟨v7, rfl, hv7, hw7⟩
  have HB7 := Lib.hid (HB6.out.trans (hw7.mono HB6.out.size))
  have HY7 := Lib.hid (HY6.out.keep hw7); have HR7 := Lib.hid (HR6.out.keep hw7)
  have HV7 := Lib.hid (And.intro (HV6.out.2.1.keep hw7) (And.intro (HV6.out.2.2.keep hw7) hv7))
  clear hv7 hw7 HB6 HY6 HR6 HV6 G6
  have KX := Lib.hid (fun W (h : Below w7.heap.size w7 W) => (HY7.out.keep h).c2)
  have CQ1 := Lib.hid (fun W (h : Below w7.heap.size w7 W) => lift2 h (quo_num W _ _ _ _ _ (HV7.out.2.1.keep h) (HV7.out.2.2.keep h) SSm.out (by omega)))
  have CQ2 := Lib.hid (fun W (h : Below w7.heap.size w7 W) => lift2 h (quo_num W _ _ _ _ k ((HY.out.2.keep HB7.out).keep h) (HV7.out.2.2.keep h) SY.out.de (by omega)))
  have CM := Lib.hid (fun W a (ha : NatIn W a (Big.de r / cm)) (h : Below w7.heap.size w7 W) => lift2 h (mul_num W _ _ _ _ k k (HV7.out.1.keep h) ha SL.out (SY.out.de.le (Nat.div_le_self _ _)) (by omega) (by omega)))
  have KP := Lib.hid (fun W x y z (h : Below w7.heap.size w7 W) => put_cell (KX.out W h) (show w.heap.size + 1 ≠ w.heap.size + 1 + 1 by omega) x y z)
  have RES := Lib.hid (fun W (h : Below w7.heap.size w7 W) => HR7.out.keep h)
  go_wp2_with fail
  go_region_held3 (fun w' => w'.cell? ⟨w.heap.size + 1, 2, none⟩ = some (.slice B2 m2 d2))
    (first | exact KX.out _ (by first | assumption | exact Below.refl _ _ | exact below_drew (Below.refl _ _) | exact below_drew (by assumption)) | exact KP.out _ _ _ _ (by assumption))
    (first
      | (go_at_call 138; (with_reducible refine (CQ1.out _ (by first | assumption | exact Below.refl _ _ | exact below_drew (Below.refl _ _) | exact below_drew (by assumption))).mono ?_); rintro e w8 ⟨v8, rfl, hv8, hw8, hw8'⟩)
      | (go_at_call 138; (with_reducible refine (CQ2.out _ (by first | assumption | exact Below.refl _ _ | exact below_drew (Below.refl _ _) | exact below_drew (by assumption))).mono ?_); rintro e w9 ⟨v9, rfl, hv9, hw9, hw9'⟩)
      | (go_at_call 140; (with_reducible refine (CM.out _ _ (by first | exact hv9 | exact NatIn.dr (hv9)) (by first | assumption | exact Below.refl _ _ | exact below_drew (Below.refl _ _) | exact below_drew (by assumption))).mono ?_); rintro e w10 ⟨v10, rfl, hv10, hw10, hw10'⟩; have RR := RES.out _ hw10; have k0 := RR.c0; have k1 := RR.c1; have k2 := RR.c2; have f0 := RR.frozen 0; have f1 := RR.frozen 1; have f2 := RR.frozen 2; obtain ⟨A8, l8, c8, rfl, hl8⟩ := hv8.is_slice; obtain ⟨A10, l10, c10, rfl, hl10⟩ := hv10.is_slice)
      | fail)
  have h8 := (hv8.keep hw9').keep hw10'
  rw [← PP.out.2.1] at h8
  rw [← PP.out.2.2] at hv10
  obtain ⟨D1, D2, D3⟩ := num_done (show NumRes w10 _ _ from RR) (HB7.out.trans (hw10.mono HB7.out.size)) (by omega) h8 hv10 PP.out.1.symm
  have HD1 := Lib.hid D1; have HD2 := Lib.hid D2; have HD3 := Lib.hid D3
  clear D1 D2 D3 k0 k1 k2 f0 f1 f2 RR h8
  generalize (((w10.setCell ⟨w.heap.size + 1 + 1, 0, none⟩ (.bool (decide (S < 0)))).setCell ⟨w.heap.size + 1 + 1, 1, none⟩ (.slice A8 l8 c8)).setCell ⟨w.heap.size + 1 + 1, 2, none⟩ (.slice A10 l10 c10)) = wz at HD1 HD2 HD3 ⊢
  have r0 := HD1.out.c0; have r1 := HD1.out.c1; have r2 := HD1.out.c2
  go_wp2_with fail
  exact bodyPost_ret (v := .agg #[.bool (decide (S < 0)), .slice A8 l8 c8, .slice A10 l10 c10]) (by simp [results, Tryz.results108, go_sem, r0, r1, r2]) rfl ⟨_, rfl, HD2.out, HD3.out⟩
end Go.Proofs.YtjjbhadnakjhdaaGreatDoor
namespace Go.Proofs.YtjjbhadnakjhdaaGreatDoor
open Go.RowKit
end Go.Proofs.YtjjbhadnakjhdaaGreatDoor
namespace Go.Proofs.YtjjbhadnakjhdaaGreatDoor
open Go.RowKit
theorem box1_below (w : World) (o : Obj) : Below w.heap.size w (w.alloc o) := below_alloc (Below.refl _ _) (Nat.le_refl _) o
end Go.Proofs.YtjjbhadnakjhdaaGreatDoor
namespace Go.Proofs.YtjjbhadnakjhdaaGreatDoor
open Go.RowKit
end Go.Proofs.YtjjbhadnakjhdaaGreatDoor
namespace Go.Proofs.YtjjbhadnakjhdaaGreatDoor
open Go.RowKit
theorem sizeT {P : Program} {f : FuncId} {args : Array Value} {b W : World} {v : Value} (h : Below b.heap.size b W) (c : Calls P f args W fun e w' => e = .returned v ∧ W = w') :
    Calls P f args W fun e w' => e = .returned v ∧ Below b.heap.size b w' :=
  c.mono fun _ _ ⟨h1, h2⟩ => ⟨h1, h2 ▸ h⟩
set_option maxRecDepth 100000 in
set_option maxHeartbeats 4000000 in
theorem exSize_any (w : World) (vx : Value) (q : Rat) (k : Nat) (hx : NumIn w vx q) (sx : Sm k q) (hk : k ≤ 10000000) :
    Calls Tryz.prog 120 #[vx] w fun e w' => e = .returned (.int .i64 ((max (szN (Big.nu q)) (szN (Big.de q)) : Nat) : Int)) ∧ Below w.heap.size w w' := by
  obtain ⟨A, l, c, A2, l2, c2, rfl, hx1, hx2⟩ := hx.is_agg
  have HX := Lib.hid (And.intro hx1 hx2)
  have SX := Lib.hid sx
  have HB0 := Lib.hid (box1_below w (.cells #[.bool (Big.ng q), .slice A l c, .slice A2 l2 c2] 98))
  have HX0 := Lib.hid (At3.new w 98 (.bool (Big.ng q)) (.slice A l c) (.slice A2 l2 c2))
  clear hx hx1 hx2 sx
  generalize Big.ng q = nq at *
  go_enter Tryz.func120, Tryz.ntmps120
  go_wp2_with fail
  generalize w.alloc (.cells #[.bool nq, .slice A l c, .slice A2 l2 c2] 98) = w0 at *
  have KX := Lib.hid (fun W (h : Below w0.heap.size w0 W) => And.intro (HX0.out.keep h).c1 (HX0.out.keep h).c2)
  have C1 := Lib.hid (fun W (h : Below w0.heap.size w0 W) => sizeT h (size_num W _ _ k ((HX.out.1.keep HB0.out).keep h) SX.out.nu (by omega)))
  have C2 := Lib.hid (fun W (h : Below w0.heap.size w0 W) => sizeT h (size_num W _ _ k ((HX.out.2.keep HB0.out).keep h) SX.out.de (by omega)))
  go_region_held3 (fun w' => w'.cell? ⟨w.heap.size, 1, none⟩ = some (.slice A l c) ∧ w'.cell? ⟨w.heap.size, 2, none⟩ = some (.slice A2 l2 c2))
    (exact KX.out _ (by first | assumption | exact Below.refl _ _ | exact below_drew (Below.refl _ _) | exact below_drew (by assumption)))
    (first
      | (go_at_call 200; (with_reducible refine (C1.out _ (by first | assumption | exact Below.refl _ _ | exact below_drew (Below.refl _ _) | exact below_drew (by assumption))).mono ?_); rintro e w2 ⟨rfl, hw2⟩)
      | (go_at_call 200; (with_reducible refine (C2.out _ (by first | assumption | exact Below.refl _ _ | exact below_drew (Below.refl _ _) | exact below_drew (by assumption))).mono ?_); rintro e w3 ⟨rfl, hw3⟩)
      | fail)
  have HB3 := Lib.hid (HB0.out.trans (hw3.mono HB0.out.size))
  go_wp2_with fail
  go_ret
  refine ⟨?_, HB3.out⟩
  apply ret_int
  generalize szN (Big.nu q) = s1; generalize szN (Big.de q) = s2; omega
end Go.Proofs.YtjjbhadnakjhdaaGreatDoor
