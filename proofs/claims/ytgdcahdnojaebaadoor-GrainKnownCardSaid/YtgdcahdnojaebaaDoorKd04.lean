/- THE LAW GrainKnown, PROVED: the chapter's examples, both ends. The listed variables lie as the program text lays them. -/
import Derived.Test.YtgdcahdnojaebaaDoorShelf
import Derived.WalkKit
import Derived.Lib.Hide
import Derived.Laws.Strings3
import Derived.Test.YtgdcahdnojaebaaDoorKd02
import Derived.Test.YtgdcahdnojaebaaDoorKd03
import Derived.Lib.Strings
import Derived.Lib.Walk
import Derived.Lib.ConvBytes
import Derived.Lib.AtoiErrMem
import Derived.Lib.SmallJoins
import Derived.Lib.AtoiAllMem
import Derived.Laws.Closers25
import Derived.Laws.Closers25b
import Derived.BigCall
import Derived.BigGuard
import Derived.Test.YtgdcahdnojaebaaDoorProg
import Derived.Lib.ItoaMem
import Derived.Lib.AppendIntMem
import Derived.Test.YtgdcahdnojaebaaDoorRows
import Derived.ProofKit
import Derived.OpenShut
import Derived.ChangeSame
import Derived.ChangeVars
import Derived.JoinedOf
import Derived.LaidMore
import Derived.Lib.LaidTab
import Derived.Stop.Joined
import Derived.SizedLaws
import Derived.HandedShaped
import Derived.Shelf.Vars
import Derived.ShutString
import Derived.ChangeMaps5
import Derived.Test.YtgdcahdnojaebaaDoorCards
import Derived.Test.YtgdcahdnojaebaaDoorTie
import Derived.SevenTiedAt
/- strings.Repeat of a nought. -/
namespace Go.Proofs.YtgdcahdnojaebaaDoor
open Go.RowKit

set_option maxHeartbeats 4000000 in
set_option maxRecDepth 100000 in
theorem rep_any (k : Nat) (hk : k ≤ 15) (w : World) : Calls Tryd.prog 60 #[.string ⟨#[48]⟩, .int .i64 (k : Int)] w fun e w' => e = .returned (.string ⟨(List.replicate k 48).toArray⟩) ∧ w = w' := by
  have h0 : ((⟨#[48]⟩ : ByteArray)[0]).toNat = 48 := rfl
  have p1 : ∀ l, Lib.hasPrefix (32 :: l) [48] = false := fun _ => rfl
  have p2 : ∀ l, Lib.hasPrefix (45 :: l) [48] = false := fun _ => rfl
  have p3 : ∀ l, Lib.hasPrefix (48 :: l) [48] = true := fun l => by simp [Lib.hasPrefix]
  have hc : k = 0 ∨ k = 1 ∨ k = 2 ∨ k = 3 ∨ k = 4 ∨ k = 5 ∨ k = 6 ∨ k = 7 ∨ k = 8 ∨ k = 9 ∨ k = 10 ∨ k = 11 ∨ k = 12 ∨ k = 13 ∨ k = 14 ∨ k = 15 := by omega
  rcases hc with rfl | rfl | rfl | rfl | rfl | rfl | rfl | rfl | rfl | rfl | rfl | rfl | rfl | rfl | rfl | rfl
  all_goals
    go_enter Tryd.func60, Tryd.ntmps60
    go_wp2_with (first | (go_at_call 87; refine (Tryd.bits_Mul 1 _ (by decide) (by decide) _).mono ?_; rintro e w' ⟨rfl, rfl⟩) | (go_at_call 88; refine (Tryd.strings_HasPrefix _ _ _).mono ?_; rintro e w' ⟨rfl, rfl⟩))
    go_ret
    exact ⟨by kernel_rfl, rfl⟩
end Go.Proofs.YtgdcahdnojaebaaDoor
/- package grain: Text. -/
namespace Go.Proofs.YtgdcahdnojaebaaDoor
open Go.RowKit Ieee Fl Hx

def NANB : Nat := 9221120237041090561
/-- The bits that are told. -/
def bo (v : Nat) : Nat := if nanB v = true then NANB else v
theorem bo_lt {v : Nat} (h : v < 18446744073709551616) : bo v < 18446744073709551616 := by unfold bo; split <;> first | exact h | decide
theorem bitsOf_any {x : Nat} (w : World) : Calls Tryd.prog 57 #[.float .f64 x] w fun e w' => e = .returned (.int .u64 (bo x : Int)) ∧ w = w' := by
  unfold bo
  by_cases h : IsN x
  · rw [nanB_no h]
    go_enter Tryd.func57, Tryd.ntmps57
    go_wp2_with (go_at_call 47; refine (isNaN_no h _).mono ?_; rintro e w' ⟨rfl, rfl⟩)
    go_ret
    exact ⟨rfl, rfl⟩
  · rw [nanB_yes h]
    go_enter Tryd.func57, Tryd.ntmps57
    go_wp2_with (go_at_call 47; refine (isNaN_yes h _).mono ?_; rintro e w' ⟨rfl, rfl⟩)
    go_ret
    exact ⟨rfl, rfl⟩
set_option maxRecDepth 100000 in
set_option maxHeartbeats 1000000 in
theorem text_any {v : Nat} (hv : v < 18446744073709551616) (w : World) (h : T64 w) : Calls Tryd.prog 27 #[.float .f64 v] w fun e w' => e = .returned (.string ⟨(hexk 16 (bo v)).toArray⟩) ∧ Below w.heap.size w w' := by
  have hb := bo_lt hv
  obtain ⟨l1, l2, l3⟩ := hex_pad 16 (bo v) (by omega) (by show bo v < 16 ^ 16; omega)
  have CB := Lib.hid (fun W => bitsOf_any (x := v) W)
  have CF := Lib.hid (fun W h => fu16_any (bo v) hb W h)
  have HT := Lib.hid h
  generalize bo v = u at *
  have HL := Lib.hid l3
  have hsz : (⟨(hex u).toArray⟩ : ByteArray).size = (hex u).length := by simp [ByteArray.size]
  have CR := Lib.hid (show ∀ W : World, Calls Tryd.prog 60 #[.string ⟨#[48]⟩, .int .i64 (16 - ((hex u).length : Int))] W fun e w' => e = .returned (.string ⟨(List.replicate (16 - (hex u).length) 48).toArray⟩) ∧ W = w' from fun W => by
    have c := rep_any (16 - (hex u).length) (by omega) W
    rw [show ((16 - (hex u).length : Nat) : Int) = 16 - ((hex u).length : Int) by omega] at c
    exact c)
  have HA := Lib.hid (show (⟨Array.replicate (16 - (hex u).length) 48⟩ : ByteArray) ++ ⟨(hex u).toArray⟩ = ⟨(hexk 16 u).toArray⟩ by
    rw [← HL.out]; simp [ByteArray.ext_iff])
  clear h l3 hb hv
  go_enter Tryd.func27, Tryd.ntmps27
  go_wp2_with (first | (go_at_call 57; (with_reducible refine (CB.out _).mono ?_); rintro e w' ⟨rfl, rfl⟩) | (go_at_call 59; (with_reducible refine (CF.out _ HT.out).mono ?_); rintro e w' ⟨rfl, hb⟩) | (go_at_call 60; (with_reducible refine (CR.out _).mono ?_); rintro e w' ⟨rfl, rfl⟩))
  go_ret
  exact ⟨congrArg (fun s => Ending.returned (Value.string s)) HA.out, hb⟩
end Go.Proofs.YtgdcahdnojaebaaDoor
/- internal/strconv.ParseUint of sixteen digits, base 16. -/
namespace Go.Proofs.YtgdcahdnojaebaaDoor
open Go.RowKit Hx

theorem low_bits (c : UInt8) : bits .or .u8 (c.toNat : Int) 32 = (((c ||| 32).toNat : Nat) : Int) := by
  have h := u8_or_nat c.toNat 32 c.toNat_lt (by omega)
  rw [show ((32 : Nat) : Int) = 32 from rfl] at h
  rw [h, UInt8.toNat_or]; rfl
def puTuple : Option Nat → Value
  | some n => .tuple #[.int .u64 n, .nilIface]
  | none => .tuple #[.int .u64 0, .iface 136 (.int .i64 2)]
theorem letter_gt : ∀ c : UInt8, 97 ≤ (c ||| 32).toNat → (c ||| 32).toNat ≤ 102 → 57 < c.toNat ∧ c.toNat ≠ 95 := by
  intro c h1 h2
  have key : ∀ n : Fin 256, 97 ≤ (UInt8.ofNat n.val ||| 32).toNat → (UInt8.ofNat n.val ||| 32).toNat ≤ 102 → 57 < (UInt8.ofNat n.val).toNat ∧ (UInt8.ofNat n.val).toNat ≠ 95 := by decide +kernel
  have e : UInt8.ofNat c.toNat = c := by simp
  have := key ⟨c.toNat, c.toNat_lt⟩
  rw [e] at this
  exact this h1 h2
theorem pow_le_cut {k : Nat} (h : k < 16) : 16 ^ k ≤ 1152921504606846976 := by
  have := Nat.pow_le_pow_right (n := 16) (by omega) (show k ≤ 15 by omega)
  exact this
set_option maxHeartbeats 32000000 in
set_option maxRecDepth 100000 in
theorem pu_any (t : ByteArray) (hn : t.size = 16) (w : World) :
    Calls Tryd.prog 79 #[.string t, .int .i64 16, .int .i64 64] w fun e w' => e = .returned (puTuple (hxv 0 t.data.toList)) ∧ Below w.heap.size w w' := by
  have hBB := Lib.hid (Lib.bytesWorld_below w 5 t)
  have hemp : t.toList.isEmpty = false := by
    rw [← decide_eq_emptyBytes]
    exact decide_eq_false (fun h => by rw [h] at hn; exact absurd hn (by decide))
  have hcv := Lib.run_convert_string_bytes (P := Tryd.prog) w 9 111 5 t (u := .string) Tryd.underlying9 Tryd.underlying111 Tryd.underlying5
  have hB : ∀ j, j < t.size → (Lib.bytesWorld w 5 t).cell? ⟨w.heap.size, j, none⟩ = some (.int .u8 (t.data.toList.getD j 0).toNat) := fun j hj => Lib.bytesWorld_cell w 5 t j hj
  obtain ⟨W1, hW1⟩ : ∃ W1, W1 = Lib.bytesWorld w 5 t := ⟨_, rfl⟩
  rw [← hW1] at hcv hB hBB
  clear hW1
  obtain ⟨bs, hL⟩ : ∃ bs, bs = t.data.toList := ⟨_, rfl⟩
  have hLn : bs.length = 16 := by rw [hL, ← hn, Lib.size_eq]
  rw [← hL] at hB ⊢
  clear hL
  rw [hn] at hcv hB
  have hmv : IntKind.u64.wrap (IntKind.u64.wrap 18446744073709551616 - 1) = 18446744073709551615 := by
    rw [IntKind.wrap_u64, IntKind.wrap_u64]
    decide
  go_enter Tryd.func79, Tryd.ntmps79
  go_wp2
  go_loop [12, 13, 101] (fun vu vn vi => ∃ (k acc : Nat) (a : Int), vu = .bool false ∧ vn = .int .u64 a ∧ vi = .int .i64 k ∧ k ≤ 16 ∧ Hid (a = (acc : Int) ∧ acc < 16 ^ k ∧ hxv 0 bs = hxv acc (bs.drop k)))
    (fun _ _ vi => 16 - (intOf vi).toNat)
  case atStart => exact ⟨0, 0, 0, rfl, rfl, rfl, by omega, Lib.hid ⟨rfl, by decide, rfl⟩⟩
  case round =>
    obtain ⟨k, acc, a, rfl, rfl, rfl, hk, hh⟩ := hrel
    obtain ⟨ha, hacc, hdec⟩ := hh.out
    clear hh
    by_cases hkn : k < 16
    · have hc := hB k hkn
      have hdrop : bs.drop k = bs[k]'(by omega) :: bs.drop (k + 1) := List.drop_eq_getElem_cons (by omega)
      have hget : bs.getD k 0 = bs[k]'(by omega) := by simp [List.getD, List.getElem?_eq_getElem (show k < bs.length by omega)]
      rw [hdrop] at hdec
      rw [hget] at hc
      generalize bs[k]'(by omega) = c at hc hdec
      have hcut := pow_le_cut hkn
      have a0 : 0 ≤ a := by omega
      have a1 : a < 1152921504606846976 := by omega
      have hpow : 16 ^ (k + 1) = 16 ^ k * 16 := Nat.pow_succ _ _
      clear hB hdrop hget
      have hlow := low_bits c
      have hgt := letter_gt c
      have hl256 : (c ||| 32).toNat < 256 := (c ||| 32).toNat_lt
      have hc256 : c.toNat < 256 := c.toNat_lt
      have HD : hd c = if 48 ≤ c.toNat ∧ c.toNat ≤ 57 then some (c.toNat - 48) else if 97 ≤ (c ||| 32).toNat ∧ (c ||| 32).toNat ≤ 102 then some ((c ||| 32).toNat - 87) else none := rfl
      have hstep : hxv acc (c :: bs.drop (k + 1)) = match hd c with | none => none | some d => hxv (acc * 16 + d) (bs.drop (k + 1)) := rfl
      generalize hd c = v at HD hstep
      generalize (c ||| 32).toNat = l at *
      generalize c.toNat = m at *
      by_cases hdig : 48 ≤ m ∧ m ≤ 57
      · obtain ⟨hd0, hd1⟩ := hdig
        rw [if_pos ⟨hd0, hd1⟩] at HD
        subst HD
        have HN := Lib.hid (show a * 16 + ((m : Int) - 48) = ((acc * 16 + (m - 48) : Nat) : Int) ∧ acc * 16 + (m - 48) < 16 ^ (k + 1) ∧ hxv 0 bs = hxv (acc * 16 + (m - 48)) (bs.drop (k + 1)) from ⟨by omega, by omega, hdec.trans hstep⟩)
        have iov : a * 16 + ((m : Int) - 48) < 18446744073709551616 := by omega
        clear hdec hstep hacc ha hpow hcut hlow hgt hl256
        go_wp2
        go_round
        case rel => exact ⟨k + 1, _, _, rfl, rfl, by go_num, by omega, HN⟩
        case measure => simp [intOf]; omega
      · have hside : m < 48 ∨ 57 < m := by omega
        rw [if_neg hdig] at HD
        by_cases hlet : 97 ≤ l ∧ l ≤ 102
        · obtain ⟨hl0, hl1⟩ := hlet
          rw [if_pos ⟨hl0, hl1⟩] at HD
          subst HD
          obtain ⟨h57, hne⟩ := hgt hl0 hl1
          have t95 : ((m : Int) == 95) = false := beq_eq_false_iff_ne.2 (by omega)
          have h48 : ¬ m < 48 := by omega
          have h95 : 48 ≤ m := by omega
          have HN := Lib.hid (show a * 16 + ((l : Int) - 97 + 10) = ((acc * 16 + (l - 87) : Nat) : Int) ∧ acc * 16 + (l - 87) < 16 ^ (k + 1) ∧ hxv 0 bs = hxv (acc * 16 + (l - 87)) (bs.drop (k + 1)) from ⟨by omega, by omega, hdec.trans hstep⟩)
          have iov : a * 16 + ((l : Int) - 97 + 10) < 18446744073709551616 := by omega
          clear hdec hstep hacc ha hpow hcut hgt hl256 hdig hside hne
          go_wp2_with (go_at_call 116; refine (Tryd.internal_strconv_lower _ _).mono ?_; rintro e w' ⟨rfl, rfl⟩)
          go_round
          case rel => exact ⟨k + 1, _, _, rfl, rfl, by go_num, by omega, HN⟩
          case measure => simp [intOf]; omega
        · have hdec2 : hxv 0 bs = none := by rw [hdec, hstep, HD, if_neg hlet]
          have HDEC := Lib.hid hdec2
          clear hdec hdec2 hstep hacc ha hpow hcut hgt hdig HD
          have hcl : l < 97 ∨ (103 ≤ l ∧ l ≤ 122) ∨ 122 < l := by omega
          clear hlet
          rcases hside with hs | hs <;> rcases hcl with hl | ⟨hl, hl2⟩ | hl
          all_goals
            go_wp2_with (go_at_call 116; refine (Tryd.internal_strconv_lower _ _).mono ?_; rintro e w' ⟨rfl, rfl⟩)
            all_goals go_ret2
            all_goals exact ⟨by rw [HDEC.out]; rfl, hBB.out⟩
    · have hkk : k = 16 := by omega
      subst hkk
      have hF : hxv acc (bs.drop 16) = some acc := by rw [List.drop_eq_nil_of_le (by omega)]; rfl
      rw [hF] at hdec
      subst ha
      have HDEC := Lib.hid hdec
      clear hacc hF hB hdec
      go_wp2
      go_ret2
      exact ⟨by rw [HDEC.out]; rfl, hBB.out⟩
end Go.Proofs.YtgdcahdnojaebaaDoor
/- strconv.ParseUint of sixteen digits; package grain: Parse. -/
namespace Go.Proofs.YtgdcahdnojaebaaDoor
open Go.RowKit Ieee Fl Hx

/-- What an error of strconv's holds. -/
structure ES (w : World) : Prop where
  cell : ∃ ev, w.cell? ⟨1, 0, none⟩ = some ev ∧ (ev = .nilIface ∨ ∃ te pe, ev = .iface te pe)
  lt : 1 < w.heap.size
theorem ES.keep {w w' : World} (h : ES w) (hb : Below w.heap.size w w') : ES w' := by
  obtain ⟨ev, h1, h2⟩ := h.cell
  exact ⟨⟨ev, (hb.cell (p := ⟨1, 0, none⟩) h.lt).trans h1, h2⟩, Nat.lt_of_lt_of_le h.lt hb.size⟩
theorem pub_good (t : ByteArray) (hn : t.size = 16) (n : Nat) (h : hxv 0 t.data.toList = some n) (w : World) :
    Calls Tryd.prog 45 #[.string t, .int .i64 16, .int .i64 64] w fun e w' => e = .returned (.tuple #[.int .u64 n, .nilIface]) ∧ Below w.heap.size w w' := by
  have C := Lib.hid (show ∀ W, Calls Tryd.prog 79 #[.string t, .int .i64 16, .int .i64 64] W fun e w' => e = .returned (.tuple #[.int .u64 n, .nilIface]) ∧ Below W.heap.size W w' from fun W => by
    have c := pu_any t hn W; rw [h] at c; exact c)
  clear h hn
  go_enter Tryd.func45, Tryd.ntmps45
  go_wp2_with (go_at_call 79; (with_reducible refine (C.out _).mono ?_); rintro e w' ⟨rfl, hb⟩)
  go_ret2
  exact ⟨rfl, hb⟩
def BadPost (w : World) (e : Ending) (w' : World) : Prop := ∃ x : Addr, e = .returned (.tuple #[.int .u64 0, .iface 138 (.pointer (some x))]) ∧ Below w.heap.size w w'
theorem pub_bad (t : ByteArray) (hn : t.size = 16) (h : hxv 0 t.data.toList = none) (w : World) (hES : ES w) :
    Calls Tryd.prog 45 #[.string t, .int .i64 16, .int .i64 64] w (BadPost w) := by
  have C := Lib.hid (show ∀ W, Calls Tryd.prog 79 #[.string t, .int .i64 16, .int .i64 64] W fun e w' => e = .returned (.tuple #[.int .u64 0, .iface 136 (.int .i64 2)]) ∧ Below W.heap.size W w' from fun W => by
    have c := pu_any t hn W; rw [h] at c; exact c)
  have HE := Lib.hid hES
  have D := Lib.hid (show ∀ W (fn : ByteArray), ES W → Calls Tryd.prog 80 #[.string fn, .string t, .int .i64 16, .int .i64 64, .iface 136 (.int .i64 2)] W fun e w' => ∃ N, e = .returned (.iface 138 (.pointer (some ⟨N, 0, none⟩))) ∧ Below W.heap.size W w' from fun W fn hW => by
    obtain ⟨ev, h1, h2⟩ := hW.cell
    exact (Tryd.strconv_toError_syntax fn t 16 64 ev W (by omega) h1 h2).mono fun _ _ ⟨N, e1, _, _, e2⟩ => ⟨N, e1, e2⟩)
  clear h hn hES
  go_enter Tryd.func45, Tryd.ntmps45
  go_wp2_with (first | (go_at_call 79; (with_reducible refine (C.out _).mono ?_); rintro e w2 ⟨rfl, hb⟩) | (go_at_call 80; (with_reducible refine (D.out _ _ (HE.out.keep hb)).mono ?_); rintro e w3 ⟨N, rfl, hb3⟩))
  go_ret2
  exact ⟨_, rfl, hb.trans (hb3.mono hb.size)⟩

theorem parse_len (t : ByteArray) (hn : t.size ≠ 16) (w : World) : Calls Tryd.prog 15 #[.string t] w fun e w' => e = .returned (.tuple #[.float .f64 0, .int .i64 6]) ∧ w = w' := by
  have h1 : ((t.size : Int) != 16) = true := by simp; omega
  go_enter Tryd.func15, Tryd.ntmps15
  go_wp2
  go_ret2
  exact ⟨rfl, rfl⟩
theorem parse_bad (t : ByteArray) (hn : t.size = 16) (h : hxv 0 t.data.toList = none) (w : World) (hES : ES w) : Calls Tryd.prog 15 #[.string t] w fun e w' => e = .returned (.tuple #[.float .f64 0, .int .i64 6]) ∧ Below w.heap.size w w' := by
  have h1 : ((t.size : Int) != 16) = false := by simp; omega
  have C := Lib.hid (fun W h' => pub_bad t hn h W h')
  have HE := Lib.hid hES
  clear h hn hES
  go_enter Tryd.func15, Tryd.ntmps15
  go_wp2_with (go_at_call 45; (with_reducible refine (C.out _ HE.out).mono ?_); rintro e w2 ⟨x, rfl, hb⟩)
  go_ret2
  exact ⟨rfl, hb⟩
theorem hxv_lt (l : List UInt8) (a b : Nat) (h : hxv a l = some b) : b < (a + 1) * 16 ^ l.length := by
  induction l generalizing a with
  | nil => cases h; simp
  | cons c r ih =>
    unfold hxv at h
    cases hc : hd c with
    | none => rw [hc] at h; cases h
    | some d =>
      rw [hc] at h
      have h1 := ih _ h
      have h2 := hd_lt hc
      have h3 : (a * 16 + d + 1) * 16 ^ r.length ≤ ((a + 1) * 16) * 16 ^ r.length := Nat.mul_le_mul_right _ (by omega)
      rw [List.length_cons, Nat.pow_succ, Nat.mul_comm (16 ^ _) 16, ← Nat.mul_assoc]; omega
theorem val_lt {t : ByteArray} (hn : t.size = 16) {n : Nat} (h : hxv 0 t.data.toList = some n) : n < 18446744073709551616 := by
  have h1 := hxv_lt _ _ _ h
  rw [show t.data.toList.length = 16 by rw [← hn]; rfl] at h1
  have : (0 + 1) * 16 ^ 16 = 18446744073709551616 := by decide
  omega
/-- The text that the value tells. -/
def told (n : Nat) : ByteArray := ⟨(hexk 16 (bo n)).toArray⟩
theorem str_ne {s t : ByteArray} (h : s ≠ t) : (s.toList == t.toList) = false := by
  rw [beq_eq_false_iff_ne]
  intro e
  apply h
  rw [Lib.toList_data, Lib.toList_data] at e
  cases s; cases t
  simpa using e
theorem parse_other (t : ByteArray) (hn : t.size = 16) (n : Nat) (h : hxv 0 t.data.toList = some n) (he : told n ≠ t) (w : World) (hT : T64 w) : Calls Tryd.prog 15 #[.string t] w fun e w' => e = .returned (.tuple #[.float .f64 0, .int .i64 6]) ∧ Below w.heap.size w w' := by
  have hlt := val_lt hn h
  have h1 : ((t.size : Int) != 16) = false := by simp; omega
  have C := Lib.hid (fun W => pub_good t hn n h W)
  have D := Lib.hid (show ∀ W, T64 W → Calls Tryd.prog 27 #[.float .f64 n] W fun e w' => e = .returned (.string (told n)) ∧ Below W.heap.size W w' from fun W hW => text_any hlt W hW)
  have HT := Lib.hid hT
  have hd := str_ne he
  generalize told n = s at *
  clear h hn hT hlt he
  go_enter Tryd.func15, Tryd.ntmps15
  go_wp2_with (first | (go_at_call 45; (with_reducible refine (C.out _).mono ?_); rintro e w2 ⟨rfl, hb⟩) | (go_at_call 27; (with_reducible refine (D.out _ (HT.out.keep hb)).mono ?_); rintro e w3 ⟨rfl, hb3⟩))
  go_ret2
  exact ⟨rfl, hb.trans (hb3.mono hb.size)⟩
theorem parse_same (n : Nat) (t : ByteArray) (hn : t.size = 16) (h : hxv 0 t.data.toList = some n) (he : told n = t) (w : World) (hT : T64 w) : Calls Tryd.prog 15 #[.string t] w fun e w' => e = .returned (.tuple #[.float .f64 n, .int .i64 0]) ∧ Below w.heap.size w w' := by
  have hlt := val_lt hn h
  have h1 : ((t.size : Int) != 16) = false := by simp; omega
  have C := Lib.hid (fun W => pub_good t hn n h W)
  have D := Lib.hid (show ∀ W, T64 W → Calls Tryd.prog 27 #[.float .f64 n] W fun e w' => e = .returned (.string t) ∧ Below W.heap.size W w' from fun W hW => he ▸ text_any hlt W hW)
  have HT := Lib.hid hT
  have hd : decide (t = t) = true := decide_eq_true rfl
  clear h hn hT hlt he
  go_enter Tryd.func15, Tryd.ntmps15
  go_wp2_with (first | (go_at_call 45; (with_reducible refine (C.out _).mono ?_); rintro e w2 ⟨rfl, hb⟩) | (go_at_call 27; (with_reducible refine (D.out _ (HT.out.keep hb)).mono ?_); rintro e w3 ⟨rfl, hb3⟩))
  go_ret2
  exact ⟨rfl, hb.trans (hb3.mono hb.size)⟩
end Go.Proofs.YtgdcahdnojaebaaDoor
/- diapasonlaw03.GrainKnown, walked. -/
namespace Go.Proofs.YtgdcahdnojaebaaDoor
open Go.RowKit Ieee Fl Hx

theorem k_parse1 (w : World) (hT : T64 w) : Calls Tryd.prog 15 #[.string ⟨#[55, 102, 102, 56, 48, 48, 48, 48, 48, 48, 48, 48, 48, 48, 48, 48]⟩] w fun e w' => e = .returned (.tuple #[.float .f64 0, .int .i64 6]) ∧ Below w.heap.size w w' :=
  parse_other ⟨#[55, 102, 102, 56, 48, 48, 48, 48, 48, 48, 48, 48, 48, 48, 48, 48]⟩ rfl 9221120237041090560 (by decide +kernel) (by decide +kernel) w hT
theorem k_parse2 (w : World) (hT : T64 w) : Calls Tryd.prog 15 #[.string ⟨#[51, 70, 70, 48, 48, 48, 48, 48, 48, 48, 48, 48, 48, 48, 48, 48]⟩] w fun e w' => e = .returned (.tuple #[.float .f64 0, .int .i64 6]) ∧ Below w.heap.size w w' :=
  parse_other ⟨#[51, 70, 70, 48, 48, 48, 48, 48, 48, 48, 48, 48, 48, 48, 48, 48]⟩ rfl 4607182418800017408 (by decide +kernel) (by decide +kernel) w hT
theorem k_text (w : World) (hT : T64 w) : Calls Tryd.prog 27 #[.float .f64 9221120237041090561] w fun e w' => e = .returned (.string ⟨#[55, 102, 102, 56, 48, 48, 48, 48, 48, 48, 48, 48, 48, 48, 48, 49]⟩) ∧ Below w.heap.size w w' := by
  have h := text_any (v := 9221120237041090561) (by decide) w hT
  rw [show (⟨(hexk 16 (bo 9221120237041090561)).toArray⟩ : ByteArray) = ⟨#[55, 102, 102, 56, 48, 48, 48, 48, 48, 48, 48, 48, 48, 48, 48, 49]⟩ by decide +kernel] at h
  exact h
set_option maxRecDepth 100000 in
theorem known_any (w : World) (hT : T64 w) : Calls Tryd.prog 5 #[] w fun e w' => e = .returned (.bool true) ∧ Below w.heap.size w w' := by
  have HT := Lib.hid hT
  clear hT
  have d1 : FloatKind.f64.format.order 9218868437227405311 9218868437227405311 = some .eq := by decide +kernel
  have d2 : FloatKind.f64.format.order 9223372036854775809 9223372036854775809 = some .eq := by decide +kernel
  have d3 : FloatKind.f64.format.order 1 1 = some .eq := by decide +kernel
  have o3 : Op.negFloat .f64 1 = 9223372036854775809 := by decide +kernel
  go_enter Tryd.func5, Tryd.ntmps5
  go_wp2_with (first
    | (go_at_call 19; (first | with_reducible refine (k_samp1 _).mono ?_ | with_reducible refine (k_samp2 _).mono ?_ | with_reducible refine (k_samp3 _).mono ?_ | with_reducible refine (k_samp4 _).mono ?_ | with_reducible refine (k_samp5 _).mono ?_ | with_reducible refine (k_samp6 _).mono ?_ | with_reducible refine (k_samp7 _).mono ?_ | with_reducible refine (k_samp8 _).mono ?_); rintro e w' ⟨rfl, rfl⟩)
    | (go_at_call 20; (first | with_reducible refine (k_add1 _).mono ?_ | with_reducible refine (k_add2 _).mono ?_); rintro e w' ⟨rfl, rfl⟩)
    | (go_at_call 22; with_reducible refine (k_mul _).mono ?_; rintro e w' ⟨rfl, rfl⟩)
    | (go_at_call 21; with_reducible refine (k_isInf _).mono ?_; rintro e w' ⟨rfl, rfl⟩)
    | (go_at_call 26; with_reducible refine (inf_neg _).mono ?_; rintro e w' ⟨rfl, rfl⟩)
    | (go_at_call 28; with_reducible refine (k_nan _).mono ?_; rintro e w' ⟨rfl, rfl⟩)
    | (go_at_call 25; with_reducible refine (k_copysign _).mono ?_; rintro e w' ⟨rfl, rfl⟩)
    | (go_at_call 23; (first | with_reducible refine (k_same0 _).mono ?_ | with_reducible refine (k_same1 _).mono ?_); rintro e w' ⟨rfl, rfl⟩)
    | (go_at_call 24; (first | with_reducible refine (k_next1 _).mono ?_ | with_reducible refine (k_next2 _).mono ?_ | with_reducible refine (k_next3 _).mono ?_ | with_reducible refine (k_next4 _).mono ?_); rintro e w' ⟨rfl, rfl⟩)
    | (go_at_call 15; (first | (with_reducible refine (k_parse1 _ HT.out).mono ?_; rintro e w2 ⟨rfl, hb⟩) | (with_reducible refine (k_parse2 _ (HT.out.keep hb)).mono ?_; rintro e w3 ⟨rfl, hb3⟩)))
    | (go_at_call 27; with_reducible refine (k_text _ ((HT.out.keep hb).keep hb3)).mono ?_; rintro e w4 ⟨rfl, hb4⟩)
    | (go_at_call 18; (with_reducible refine (gworks_any _).mono ?_); rintro e w' ⟨rfl, rfl⟩))
  go_ret
  exact ⟨rfl, (hb.trans (hb3.mono hb.size)).trans (hb4.mono (Nat.le_trans hb.size hb3.size))⟩
end Go.Proofs.YtgdcahdnojaebaaDoor
/- strconv: FormatUint, AppendUint at base 10. -/
namespace Go.Proofs.YtgdcahdnojaebaaDoor
open Go.RowKit Go.Sort

/-- The table of powers of ten lies in memory as the program's text lays it. -/
def Tab (w : World) : Prop := Lib.TabIs Tryd.prog w "internal/strconv.uint64pow10" .u64 Lib.pow10Tab
theorem Tab.keep {w w' : World} (h : Tab w) (hb : Below w.heap.size w w') : Tab w' := Lib.tabBelow_of_tabIs h w' hb

set_option maxHeartbeats 4000000 in
set_option maxRecDepth 100000 in
theorem intFormatUint (u : Nat) (hu : u < 18446744073709551616) (w : World) (htab : Tab w) :
    Calls Tryd.prog 86 #[.int .u64 (u : Int), .int .i64 10] w fun e w' => e = .returned (.string ⟨(Lib.decDigits u).toArray⟩) ∧ Below w.heap.size w w' := by
  by_cases hs : u < 100
  · have C := Lib.hid (fun W => Tryd.internal_strconv_small u hs W)
    have i1 : (u : Int) < 100 := by omega
    go_enter Tryd.func86, Tryd.ntmps86
    go_wp2_with (go_at_call 123; refine (C.out _).mono ?_; rintro e w' ⟨rfl, rfl⟩)
    go_ret
    exact ⟨rfl, Below.refl _ _⟩
  · have hu1 : 1 ≤ u := by omega
    have i1 : ¬ (u : Int) < 100 := by omega
    have hnd20 : Lib.nDigits u ≤ 20 := by have := Lib.numDigits_eq u hu1 hu; split at this <;> omega
    have hal : Tryd.prog.arrayLen 142 = 24 := by kernel_rfl
    have hsl : ∀ W, (Instr.sliceAt 142 (.pointer (some ⟨w.heap.size, 0, none⟩)) none (some (.int .i64 (Lib.nDigits u : Int))) none).run Tryd.prog W = .ok (.slice (some ⟨w.heap.size, 0, none⟩) (Lib.nDigits u) 24) W := fun W => by
      rw [run_sliceAt_array_h W 142 ⟨w.heap.size, 0, none⟩ (by simp [Program.arrayLen, Program.elem, Tryd.underlying142]) .i64 (Lib.nDigits u : Int) (by omega) (by rw [hal]; omega)]
      go_simp
    have hH0 := Lib.holds_zero0 w 142 (Lib.nDigits u) (by omega)
    have hfmt := Tryd.internal_strconv_formatBase10 w.heap.size 0 24 u (Array.replicate (Lib.nDigits u) 0) (w.alloc (.cells Lib.zeros24 142)) hH0 (by rw [Array.size_replicate]; exact Lib.lt_pow_nDigits u) hu (by rw [Array.size_replicate]; omega)
    rw [Array.size_replicate] at hfmt
    have HH0 := Lib.hid hH0
    have HT := Lib.hid htab
    have HF := Lib.hid hfmt
    clear hH0 hal htab hfmt
    go_enter Tryd.func86, Tryd.ntmps86
    go_wp2_with (go_at_call 124; refine (Tryd.internal_strconv_numDigits u hu1 hu _ (Lib.tabIs_alloc HT.out _)).mono ?_; rintro e w' ⟨rfl, rfl⟩)
    refine HF.out.mono ?_
    rintro e w' ⟨rfl, k, v', dk, rfl, hF⟩
    have hcv : (convert 111 9 (.slice (some ⟨w.heap.size, 0, none⟩) (Lib.nDigits u) 24)).run Tryd.prog ((putRow (fun (b : UInt8) => Value.int .u8 (b.toNat : Int)) (w.alloc (.cells Lib.zeros24 142)) w.heap.size 0 dk).drewN k) = .ok (.string ⟨(Lib.decDigits u).toArray⟩) ((putRow (fun (b : UInt8) => Value.int .u8 (b.toNat : Int)) (w.alloc (.cells Lib.zeros24 142)) w.heap.size 0 dk).drewN k) := by
      have h := run_convert_bytes_back (P := Tryd.prog) ((putRow (fun (b : UInt8) => Value.int .u8 (b.toNat : Int)) (w.alloc (.cells Lib.zeros24 142)) w.heap.size 0 dk).drewN k) 111 9 5 ⟨w.heap.size, 0, none⟩ 24 (Lib.decDigits u) Tryd.underlying111 Tryd.underlying5 Tryd.underlying9 (fun j hj => by
        rw [Lib.row_is_numeral hF j hj, Lib.add_plain, World.cell?_drewN]
        exact cell?_putRow (fun (b : UInt8) => Value.int .u8 (b.toNat : Int)) _ w.heap.size 0 _ dk HH0.out (by rw [hF.size, Array.size_replicate]) j (by rw [hF.size]; rw [Lib.decDigits_length] at hj; exact hj))
      rw [Lib.decDigits_length] at h
      exact h
    obtain ⟨os, eo⟩ := Lib.fin_at w (.cells Lib.zeros24 142) dk k 0
    have HBel := Lib.hid (show Below w.heap.size w ((putRow (fun (b : UInt8) => Value.int .u8 (b.toNat : Int)) (w.alloc (.cells Lib.zeros24 142)) w.heap.size 0 dk).drewN k) by rw [eo]; exact Lib.below_grow w.heap.size w (Nat.le_refl _) k os)
    clear eo hF
    go_wp2_with fail
    go_ret
    exact ⟨rfl, HBel.out⟩
/-- strconv.FormatUint at base 10. -/
theorem formatUint_any (u : Nat) (hu : u < 18446744073709551616) (w : World) (htab : Tab w) :
    Calls Tryd.prog 59 #[.int .u64 (u : Int), .int .i64 10] w fun e w' => e = .returned (.string ⟨(Lib.decDigits u).toArray⟩) ∧ Below w.heap.size w w' := by
  have C := Lib.hid (fun W h => intFormatUint u hu W h)
  have HT := Lib.hid htab
  clear htab hu
  go_enter Tryd.func59, Tryd.ntmps59
  go_wp2_with fail
  refine (C.out _ HT.out).mono ?_
  rintro e w' ⟨rfl, hb⟩
  go_wp2_with fail
  go_ret
  exact ⟨rfl, hb⟩
/-- strconv.AppendUint at base 10: the digits behind what the slice holds. -/
theorem appendUint_any (B n u : Nat) (hu : u < 18446744073709551616) (sv : Value) (xs : List Value) (w : World) (hown : w.ownsRow B 5 1 sv n xs) (hBw : B ≤ w.heap.size) (hlim : n + 20 ≤ 140737488355328) (htab : Tab w) :
    Calls Tryd.prog 102 #[sv, .int .u64 (u : Int), .int .i64 10] w fun e w' => ∃ v', e = .returned v' ∧ w'.ownsRow B 5 1 v' (n + (Lib.decDigits u).length) (xs ++ Lib.byteCells (Lib.decDigits u)) ∧ Below B w w' := by
  have C := Lib.hid (Tryd.internal_strconv_AppendUint_10 B n u hu sv xs w hown hBw hlim htab)
  clear hown hBw hlim htab hu
  go_enter Tryd.func102, Tryd.ntmps102
  go_wp2_with fail
  refine C.out.mono ?_
  rintro e w' ⟨v', rfl, h1, h2, -⟩
  go_wp2_with fail
  go_ret
  exact ⟨_, rfl, h1, h2⟩
end Go.Proofs.YtgdcahdnojaebaaDoor
/- The row's last steps: a call that only makes new memory; the laid table. -/
namespace Go.Proofs.YtgdcahdnojaebaaDoor
open Go.ChangeShapes Go.WideShapes Go.ChangeAt Go.RowKit

theorem own : ownKnob Tryd.prog.godebug = none := by kernel_rfl
section
variable {H : Type} {enc : TypeId × Value → H} {P : Program}
/-- Plain data came in, and all that the call did is new memory. -/
theorem post_new {f : Func} {s : ChangeSpec} {apart fresh handsOn again : Bool} {W W' : World} {args : Array Value} {v : Value} {ds gs : List (DataW H)}
    (hW : DataW.Whole enc P f.params.toList s.vars apart W args.toList ds gs [])
    (hres : ∀ (b : Nat) (sp : Nat → Bool) (hd : Bool), DataW.TrodAll enc P W' b sp hd f.resultTypes.toList (v.resultList f.resultTypes.size) (s.fn H (ds ++ gs)).results [])
    (hargs : ∀ sp : Nat → Bool, DataW.TrodAll enc P W' 0 sp true f.params.toList args.toList (s.fn H (ds ++ gs)).args [])
    (hvars : ∀ sp : Nat → Bool, DataW.TrodVars enc P W' sp s.vars (s.fn H (ds ++ gs)).vars [])
    (hb : Below W.heap.size W W')
    (hok : ∀ (j : Nat) (t : TypeId) (r : Value), f.resultTypes[j]? = some t → (v.resultList f.resultTypes.size)[j]? = some r → Value.okWide P W' .any 0 t r) :
    s.post enc P f apart fresh handsOn again W args v W' := by
  have hk : W.keptBut W' (fun p => p ∈ ([] : List MemPlace)) := hb.frame _
  refine ⟨ds, gs, [], [], [], [], hW, hres _ _ _, hargs _, hvars _, World.keptBut_mono (fun p hp => by cases hp) hk, fun _ => ?_⟩
  refine ⟨hok, _, _, [], ⟨[], [], trodAll_append (hargs _) (hres _ _ _), hvars _, rfl, ?_, ?_⟩, ?_⟩
  · intro b off hp; cases hp
  · intro _; simp
  · intro p hp; cases hp
end

theorem gTab : Tryd.prog.globalNamed "internal/strconv.uint64pow10" = some 3 := by kernel_rfl
end Go.Proofs.YtgdcahdnojaebaaDoor
/- What the listed variables give; the start that meets them. -/
namespace Go.Proofs.YtgdcahdnojaebaaDoor
open Go.ChangeShapes Go.WideShapes Go.ChangeAt Go.RowKit

def laid3 : List (String × DataW Unit) := [("math/bits.deBruijn32tab", Rows.laid_math_bits_deBruijn32tab), ("math/bits.deBruijn64tab", Rows.laid_math_bits_deBruijn64tab), ("internal/strconv.uint64pow10", Rows.laid_internal_strconv_uint64pow10)]
set_option maxRecDepth 100000 in
theorem door_met (os : Os) (args : Array Value) : laidMetH Tryd.prog laid3 ((World.doorLaid Tryd.prog 4000 os).forCall (fun _ _ => 0) ⟨#[], args, []⟩).memory :=
  laidMetH_of_parts3 (fuel := 8) (laidMet_of_run' 8 (by kernel_rfl) (by kernel_rfl)) (by kernel_rfl) (by kernel_rfl)
theorem tTab : (Tryd.prog.globals[3]?).map (·.type) = some 160 := by kernel_rfl
theorem dTab : (Rows.laid_internal_strconv_uint64pow10 : DataW Unit) = Lib.tabData .u64 Lib.pow10Tab := by rfl
theorem cTab : Tryd.prog.cellsOf 160 = 20 := by kernel_rfl
theorem ceTab : Tryd.prog.cellsOf 71 = 1 := by kernel_rfl
theorem tab_of_laid {W : World} (h : laidMetH Tryd.prog laid3 W) : Tab W := by
  rw [MakeChecks.laidMetH_plain _ _ _ (by kernel_rfl)] at h
  obtain ⟨ps, ⟨g0, t0, cs0, f0, p0, q0, hg0, ht0, hv0, hd0, ⟨g1, t1, cs1, f1, p1, q1, hg1, ht1, hv1, hd1, ⟨g2, t2, cs2, f2, p2, q2, hg2, ht2, hv2, hd2, _, _⟩, _⟩, _⟩, _, _⟩ := h
  obtain rfl := Option.some.inj (gTab.symm.trans hg2)
  obtain rfl := Option.some.inj (tTab.symm.trans ht2)
  rw [dTab] at hd2
  show World.var? Tryd.prog W _ = _
  rw [hv2, ← Lib.cells_of_tab Tryd.underlying160 Tryd.underlying71 ceTab cTab hd2]
end Go.Proofs.YtgdcahdnojaebaaDoor
/- The plain wrap with the listed variables and the world's shape. -/
namespace Go.Proofs.YtgdcahdnojaebaaDoor
open Go.ChangeShapes Go.WideShapes Go.ChangeAt Go.RowKit

theorem handed_both {H : Type} {enc : TypeId × Value → H} {C : Checked} {os : Os} {f : FuncId} {fn : Func} {s : ChangeSpec} {apart fresh handsOn again : Bool} {X : World → Array Value → Prop}
    (hX : ∀ (w w' : World) (args : Array Value), w.heap = w'.heap → X w args → X w' args)
    (hown : ownKnob C.prog.godebug = none) (started : os.Started) (noInit : C.prog.inits.idxOf? f = none) (hfn : C.prog.funcs[f]? = some fn)
    (witness : ∃ (w : World) (tape : Tape) (i : Input), w.os = os ∧ (w.forCall tape i).Shaped C.prog ∧ i.vars = [] ∧ Input.okWide C.prog (w.forCall tape i) .any w.heap.size f i ∧
      ((s.pre enc C.prog fn [] apart (w.forCall tape i).memory i.args ∧ X (w.forCall tape i).memory i.args) ∧ sizedMet enc C.prog fn (OpenSpec.ofChange s) apart (w.forCall tape i).memory i.args) ∧ Assume.holds {} C.prog (lone (Frame.enter C.prog f i.args .normal) [] (w.forCall tape i)))
    (contract : ∀ (W : World) (base : Nat) (args : Array Value) (ds gs : List (DataW H)) (before : List MemPlace),
      (∀ (j : Nat) t v, fn.params[j]? = some t → args[j]? = some v → Value.okWide C.prog W .any base t v) →
      DataW.Whole enc C.prog fn.params.toList s.vars apart W args.toList ds gs before → X W args → W.ShapedOpen C.prog →
      Calls C.prog f args W fun e W' => ∃ v, e = .returned v ∧ s.post enc C.prog fn apart fresh handsOn again W args v W') :
    ReturnsInHanded {} C os f .any (fun w args => (s.pre enc C.prog fn [] apart w args ∧ X w args) ∧ sizedMet enc C.prog fn (OpenSpec.ofChange s) apart w args) (s.post enc C.prog fn apart fresh handsOn again) := by
  refine returnsInHanded_of_calls hown started noInit witness ?_
  intro w tape i _ hshape _ hin hp _
  obtain ⟨_, _, _, fn2, hfn2, _, _, _, _, hv⟩ := hin
  obtain rfl : fn2 = fn := Option.some.inj (hfn2.symm.trans hfn)
  obtain ⟨⟨⟨ds, gs, before, hwh, _⟩, hx⟩, _⟩ := hp
  refine (contract (w.forCall tape i) w.heap.size i.args ds gs before hv (DataW.Whole.of_heap (w' := w.forCall tape i) (by rfl) hwh) (hX _ _ _ (by rfl) hx) hshape).mono fun e W' ⟨v, he, hpost⟩ => ?_
  subst he
  exact ChangeSpec.post_blind hpost
end Go.Proofs.YtgdcahdnojaebaaDoor
/- What the five listed variables give; the start that meets them. -/
namespace Go.Proofs.YtgdcahdnojaebaaDoor
open Go.ChangeShapes Go.WideShapes Go.ChangeAt Go.RowKit

def laid5 : List (String × DataW Unit) := [("math/bits.deBruijn32tab", Rows.laid_math_bits_deBruijn32tab), ("math/bits.deBruijn64tab", Rows.laid_math_bits_deBruijn64tab), ("internal/strconv.uint64pow10", Rows.laid_internal_strconv_uint64pow10), ("strconv.ErrRange", Rows.laid_strconv_ErrRange), ("strconv.ErrSyntax", Rows.laid_strconv_ErrSyntax)]
set_option maxRecDepth 100000 in
theorem door_met5 (os : Os) (args : Array Value) : laidMetH Tryd.prog laid5 ((World.doorLaid Tryd.prog 4000 os).forCall (fun _ _ => 0) ⟨#[], args, []⟩).memory :=
  laidMetH_of_parts3 (fuel := 8) (laidMet_of_run' 8 (by kernel_rfl) (by kernel_rfl)) (by kernel_rfl) (by kernel_rfl)
theorem gBr : Tryd.prog.globalNamed "math/bits.deBruijn64tab" = some 8 := by kernel_rfl
theorem tBr : (Tryd.prog.globals[8]?).map (·.type) = some 173 := by kernel_rfl
def brTab : List Int := [0, 1, 56, 2, 57, 49, 28, 3, 61, 58, 42, 50, 38, 29, 17, 4, 62, 47, 59, 36, 45, 43, 51, 22, 53, 39, 33, 30, 24, 18, 12, 5, 63, 55, 48, 27, 60, 41, 37, 16, 46, 35, 44, 21, 52, 32, 23, 11, 54, 26, 40, 15, 34, 20, 31, 10, 25, 14, 19, 9, 13, 8, 7, 6]
theorem dBr : (Rows.laid_math_bits_deBruijn64tab : DataW Unit) = Lib.tabData .u8 brTab := by rfl
theorem cBr : Tryd.prog.cellsOf 173 = 64 := by kernel_rfl
theorem ceBr : Tryd.prog.cellsOf 5 = 1 := by kernel_rfl
theorem gEs : Tryd.prog.globalNamed "strconv.ErrSyntax" = some 1 := by kernel_rfl
theorem tEs : (Tryd.prog.globals[1]?).map (·.type) = some 78 := by kernel_rfl
theorem cell_lt {W : World} {g i : Nat} {v : Value} (h : W.cell? ⟨g, i, none⟩ = some v) : g < W.heap.size := by
  rcases Nat.lt_or_ge g W.heap.size with h1 | h1
  · exact h1
  · simp [World.cell?, Array.getElem?_eq_none h1] at h
theorem facts_of_laid {W : World} (h : laidMetH Tryd.prog laid5 W) : T64 W ∧ ES W := by
  rw [MakeChecks.laidMetH_plain _ _ _ (by kernel_rfl)] at h
  obtain ⟨ps, ⟨g0, t0, cs0, f0, p0, q0, hg0, ht0, hv0, hd0, ⟨g1, t1, cs1, f1, p1, q1, hg1, ht1, hv1, hd1, ⟨g2, t2, cs2, f2, p2, q2, hg2, ht2, hv2, hd2, ⟨g3, t3, cs3, f3, p3, q3, hg3, ht3, hv3, hd3, ⟨g4, t4, cs4, f4, p4, q4, hg4, ht4, hv4, hd4, _, _⟩, _⟩, _⟩, _⟩, _⟩, _, _⟩ := h
  constructor
  · obtain rfl := Option.some.inj (gBr.symm.trans hg1)
    obtain rfl := Option.some.inj (tBr.symm.trans ht1)
    rw [dBr] at hd1
    have e := Lib.cells_of_tab Tryd.underlying173 Tryd.underlying5 ceBr cBr hd1
    have hc := World.var?_cell gBr hv1 15
    have hc2 : W.cell? ⟨8, 15, none⟩ = some (.int .u8 4) := by
      rw [hc, ← Array.getElem?_toList, e]; rfl
    exact ⟨hc2, cell_lt hc2⟩
  · obtain rfl := Option.some.inj (gEs.symm.trans hg4)
    obtain rfl := Option.some.inj (tEs.symm.trans ht4)
    obtain ⟨f5, u, v, e, -, -⟩ := iface_of_trod Tryd.underlying78 hd4
    have hc := World.var?_cell gEs hv4 0
    have hc2 : W.cell? ⟨1, 0, none⟩ = some (.iface u v) := by
      rw [hc, ← Array.getElem?_toList, e]; rfl
    exact ⟨⟨_, hc2, .inr ⟨_, _, rfl⟩⟩, cell_lt hc2⟩
end Go.Proofs.YtgdcahdnojaebaaDoor
/- THE LAW GrainKnown, PROVED: the chapter's examples, both ends. The listed variables lie as the program text lays them. -/
namespace Go.Proofs.YtgdcahdnojaebaaDoor
open Go.ChangeShapes Go.WideShapes Go.ChangeAt Go.RowKit Go.ChangeMaps

set_option maxRecDepth 100000 in
theorem known_lifted (os : Os) (started : os.Started) (H : Type) (enc : TypeId × Value → H) :
    ReturnsInHanded {} Tryd.checked os 5 .any (fun w args => (Rows.grainKnownSpec.pre enc Tryd.prog Tryd.f5 [] false w args ∧ laidMetH Tryd.prog laid5 w) ∧ sizedMet enc Tryd.prog Tryd.f5 (OpenSpec.ofChange Rows.grainKnownSpec) false w args)
      (Rows.grainKnownSpec.post enc Tryd.prog Tryd.f5 false true false false) := by
  refine handed_both (C := Tryd.checked) (X := fun w _ => laidMetH Tryd.prog laid5 w) (fun _ _ _ hh h => h.of_heap hh) own started (by kernel_rfl) Tryd.func5
    (ChangeSpec.witness_shaped (enc := enc) (C := Tryd.checked) (os := os) (X := fun w _ => laidMetH Tryd.prog laid5 w) false (World.doorLaid Tryd.prog 4000 os) #[] 8 rfl (World.shaped_of_RefB (by kernel_rfl) (by kernel_rfl)) (by kernel_rfl) (by kernel_rfl) (by kernel_rfl) (door_met5 os _)) ?_
  intro W base args ds gs before hval0 hW hL hsh
  have hval : ∀ (j : Nat) t v, Tryd.f5.params[j]? = some t → args[j]? = some v → Value.okWide Tryd.prog W .any base t v := hval0
  have hW' := hW
  obtain ⟨p, q, hA0, hV, rfl, hfz, hnd⟩ := hW
  have hA : DataW.TrodAll enc Tryd.prog W 0 (fun _ => true) true Tryd.f5.params.toList args.toList ds p := hA0
  rw [Tryd.params5] at hA hval
  obtain ⟨hargs, rfl, rfl⟩ := trodAll_nil hA
  obtain rfl : args = #[] := by cases args; simp_all
  obtain ⟨rfl, rfl⟩ := trodVars_none hV
  obtain ⟨hT, hE⟩ := facts_of_laid hL
  clear hA0 hval0
  simp only [List.append_nil] at hW'
  refine (known_any W hT).mono fun ee W' ⟨he, hb⟩ => ?_
  subst he
  exact ⟨_, rfl, post_new hW' (fun _ _ _ => (trodAll_cons_mk (shut_bool Tryd.underlying4 _) trodAll_mk0)) (fun sp => trodAll_mk0) (fun _ => rfl)
    hb (ok_one (by kernel_rfl) rfl (okWide_bool_mk Tryd.underlying4 _))⟩

theorem known_holds : Rows.GrainKnownSaid :=
  OpenClaim.holds_of_wide 5 Tryd.f5 rfl rfl rfl rfl rfl rfl rfl ⟨rfl, rfl, rfl, rfl, rfl⟩ rfl rfl rfl rfl rfl (by kernel_rfl) Tryd.func5 (by kernel_rfl)
    (of_decide_eq_true (by kernel_rfl)) (by unfold Func.isWrapper; first | (rw [if_pos (by decide +kernel)]; kernel_rfl) | (rw [if_neg (by decide +kernel)]; exact ⟨rfl, rfl⟩))
    (fun os started H enc _ => known_lifted os started H enc)

theorem known_card : Rows.GrainKnownCardSaid :=
  Claim7.holds_tied_plain_at .later [] [.data, .data, .data, .sentinel, .sentinel] true (true, "b9e374ead2e34694e1e5ab129ffb67d0481a67d31a065014554a033d17ca9a27") true
    known_holds (fun _ h => by cases h) (by kernel_rfl) (fun _ h => by cases h) grainKnown_row_tie rfl ⟨rfl, rfl⟩ (by kernel_rfl) rfl
    (fun f fn hf hfn => by
      obtain rfl : f = 5 := Option.some.inj ((show Tryd.prog.funcNamed "diapason/diapasonlaw03.GrainKnown" = some 5 by kernel_rfl).symm.trans hf) |>.symm
      obtain rfl : fn = Tryd.f5 := (Option.some.inj (Tryd.func5.symm.trans hfn)).symm
      exact ⟨by kernel_rfl, fun j t ht => by
        rw [Tryd.params5] at ht
        simp at ht⟩)
    (by kernel_rfl)
end Go.Proofs.YtgdcahdnojaebaaDoor
