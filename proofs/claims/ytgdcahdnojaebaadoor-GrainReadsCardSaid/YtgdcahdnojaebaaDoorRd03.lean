/- Contracts, in this order: internal/strconv.formatBits at base 16. · strings.Repeat of a nought. · package grain: Text. · internal/strconv.ParseUint of sixteen digits, base 16. · strconv.ParseUint of sixteen digits; package grain: Parse. · The document's answer for layer 3: Parse, Same. -/
import Derived.Test.YtgdcahdnojaebaaDoorRd02
import Derived.Test.YtgdcahdnojaebaaDoorChecked
import Derived.WalkKit
import Derived.Lib.Hide
import Derived.Laws.Closers25
import Derived.Laws.IdiomStrings
import Derived.LoopTactic
import Derived.Lib.ItoaMem
import Derived.Laws.BitsAllLaws
import Derived.Test.YtgdcahdnojaebaaDoorShelf
import Derived.Laws.Strings3
import Derived.Lib.Strings
import Derived.Lib.Walk
import Derived.Lib.ConvBytes
import Derived.Lib.AtoiErrMem
import Derived.Lib.SmallJoins
import Derived.Lib.AtoiAllMem
import Derived.Laws.Closers25b
import Derived.BigCall
import Derived.BigGuard
/- internal/strconv.formatBits at base 16. -/
namespace Go.Proofs.YtgdcahdnojaebaaDoor
open Go.RowKit Hx

/-- What package math/bits asks of its table. -/
structure T64 (w : World) : Prop where
  cell : w.cell? ⟨8, 15, none⟩ = some (.int .u8 4)
  lt : 8 < w.heap.size
theorem T64.keep {w w' : World} (h : T64 w) (hb : Below w.heap.size w w') : T64 w' :=
  ⟨(hb.cell (p := ⟨8, 15, none⟩) h.lt).trans h.cell, Nat.lt_of_lt_of_le h.lt hb.size⟩
theorem tz_any (w : World) (h : T64 w) : Calls Tryd.prog 149 #[.int .u64 16] w fun e w' => e = .returned (.int .i64 4) ∧ w = w' := by
  have hc := h.cell
  clear h
  have e1 : IntKind.u64.wrap (-16) = 18446744073709551600 := by decide
  have e2 : bits .and .u64 16 18446744073709551600 = 16 := by kernel_rfl
  have e3 : IntKind.u64.wrap (16 * 285870213051353865) = 4573923408821661840 := by decide
  have e4 : IntKind.u64.wrap 4573923408821661840 = 4573923408821661840 := by decide
  go_enter Tryd.func149, Tryd.ntmps149
  go_wp2
  go_ret
  exact ⟨rfl, rfl⟩
theorem pow2_any (w : World) : Calls Tryd.prog 148 #[.int .i64 16] w fun e w' => e = .returned (.bool true) ∧ w = w' := by
  have e2 : bits .and .i64 16 15 = 0 := by kernel_rfl
  go_enter Tryd.func148, Tryd.ntmps148
  go_wp2
  go_ret
  exact ⟨rfl, rfl⟩
theorem dig_fin : ∀ d : Fin 16, (⟨#[48, 49, 50, 51, 52, 53, 54, 55, 56, 57, 97, 98, 99, 100, 101, 102, 103, 104, 105, 106, 107, 108, 109, 110, 111, 112, 113, 114, 115, 116, 117, 118, 119, 120, 121, 122]⟩ : ByteArray)[d.val]'(by have := d.isLt; show d.val < 36; omega) = hdig d.val := by decide
theorem dig_at (d : Nat) (hd : d < 16) (h : d < (⟨#[48, 49, 50, 51, 52, 53, 54, 55, 56, 57, 97, 98, 99, 100, 101, 102, 103, 104, 105, 106, 107, 108, 109, 110, 111, 112, 113, 114, 115, 116, 117, 118, 119, 120, 121, 122]⟩ : ByteArray).size) : ((⟨#[48, 49, 50, 51, 52, 53, 54, 55, 56, 57, 97, 98, 99, 100, 101, 102, 103, 104, 105, 106, 107, 108, 109, 110, 111, 112, 113, 114, 115, 116, 117, 118, 119, 120, 121, 122]⟩ : ByteArray)[d]'h).toNat = (hdig d).toNat := congrArg UInt8.toNat (dig_fin ⟨d, hd⟩)
theorem set_drop_at (l : List Nat) (j X : Nat) (h : j < l.length) : (l.set j X).drop j = X :: l.drop (j + 1) := by
  rw [List.drop_eq_getElem_cons (by simpa using h)]
  simp [List.drop_set]
set_option maxHeartbeats 4000000 in
set_option maxRecDepth 100000 in
theorem fb_any (u : Nat) (hu : u < 18446744073709551616) (w : World) (h : T64 w) :
    Calls Tryd.prog 126 #[.slice none 0 0, .int .u64 (u : Int), .int .i64 16, .bool false, .bool false] w fun e w' => e = .returned (.tuple #[.slice none 0 0, .string ⟨(hex u).toArray⟩]) ∧ Below w.heap.size w w' := by
  have CT := Lib.hid (fun W h => tz_any W h)
  have HT := Lib.hid h
  clear h
  go_enter Tryd.func126, Tryd.ntmps126
  go_wp2_with (first | (go_at_call 148; refine (pow2_any _).mono ?_; rintro e w' ⟨rfl, rfl⟩) | (go_at_call 149; refine (CT.out _ (HT.out.keep ((Below.refl _ _).alloc (Nat.le_refl _) _))).mono ?_; rintro e w' ⟨rfl, rfl⟩))
  have B1 := Lib.hid (show Below w.heap.size w (w.alloc (.cells Tryd.zeroCells161 161)) from (Below.refl _ _).alloc (Nat.le_refl _) _)
  have K1 := Lib.hid (show Blk (w.alloc (.cells Tryd.zeroCells161 161)) w.heap.size 161 .u8 (List.replicate 65 0) from Blk.new w _ .u8 (List.replicate 65 0))
  have I1 := Lib.hid (show u < 16 ^ (65 - 49) ∧ ∃ ds : List UInt8, hex u = hex u ++ ds ∧ (List.replicate 65 0).drop 65 = ds.map UInt8.toNat from ⟨by show u < 16 ^ 16; omega, [], by simp⟩)
  generalize w.alloc (.cells Tryd.zeroCells161 161) = w1 at *
  go_loopw [1, 13] (fun vu vi wr => ∃ (v i : Nat) (l : List Nat), vu = .int .u64 (v : Int) ∧ vi = .int .i64 (i : Int) ∧ i ≤ 65 ∧ 50 ≤ i ∧ v < 18446744073709551616 ∧ l.length = 65 ∧ Hid (v < 16 ^ (i - 49) ∧ ∃ ds : List UInt8, hex u = hex v ++ ds ∧ l.drop i = ds.map UInt8.toNat) ∧ Hid (Blk wr w.heap.size 161 .u8 l) ∧ Hid (Below w.heap.size w wr))
    (fun vu _ _ => (intOf vu).toNat)
  case atStart => exact ⟨u, 65, _, rfl, rfl, by omega, by omega, hu, by simp, I1, K1, B1⟩
  case round =>
    obtain ⟨v, i, l, rfl, rfl, hi1, hi2, hv, hl, HI, HB, HW⟩ := hrel
    by_cases hge : 16 ≤ v
    · have hi : 51 ≤ i := by
        by_cases e : i = 50
        · subst e; have := HI.out.1; omega
        · omega
      have hand : bits .and .u64 (v : Int) 15 = ((v % 16 : Nat) : Int) := by
        have h := u64_and_nat v 15 hv (by omega)
        rw [show ((15 : Nat) : Int) = 15 from rfl, show (15 : Nat) = 2 ^ 4 - 1 from rfl, Nat.and_two_pow_sub_one_eq_mod] at h
        exact h
      have hd : v % 16 < 16 := Nat.mod_lt _ (by omega)
      have hfz := HB.out.frozen (i - 1)
      have hst := HB.out.cell (i - 1) (by omega)
      have HN := Lib.hid (show ∀ X, X = (hdig (v % 16)).toNat → v / 16 < 16 ^ (i - 1 - 49) ∧ ∃ ds : List UInt8, hex u = hex (v / 16) ++ ds ∧ (l.set (i - 1) X).drop (i - 1) = ds.map UInt8.toNat from fun X hX => by
        obtain ⟨h1, ds, h2, h3⟩ := HI.out
        have e : i - 49 = (i - 1 - 49) + 1 := by omega
        rw [e, Nat.pow_succ, Nat.mul_comm] at h1
        refine ⟨Nat.div_lt_of_lt_mul h1, hdig (v % 16) :: ds, ?_, ?_⟩
        · rw [h2]
          conv => lhs; rw [hex, dif_neg (by omega)]
          simp
        · rw [set_drop_at l (i - 1) X (by omega), show i - 1 + 1 = i by omega, h3, hX, List.map_cons])
      generalize v % 16 = d at *
      go_wp2
      go_roundw
      case rel => exact ⟨v / 16, i - 1, l.set (i - 1) _, by congr 1, by congr 1; omega, by omega, by omega, by omega, by simp [hl], Lib.hid (HN.out _ (dig_at d hd _)), Lib.hid (HB.out.set (i - 1) _), Lib.hid (HW.out.setCell (Nat.le_refl _) _)⟩
      case measure => simp [intOf]; omega
    · have hv16 : v < 16 := by omega
      have hi49 : i - 1 < l.length := by omega
      have hfz := HB.out.frozen (i - 1)
      have hst := HB.out.cell (i - 1) (by omega)
      have HE := Lib.hid (show ∀ X, X = (hdig v).toNat → (l.set (i - 1) X).drop (i - 1) = (hex u).map UInt8.toNat from fun X hX => by
        obtain ⟨h1, ds, h2, h3⟩ := HI.out
        rw [set_drop_at l (i - 1) X (by omega), show i - 1 + 1 = i by omega, h3, hX, h2, hex, dif_pos hv16]
        rfl)
      have hsl : ∀ W, (Instr.sliceAt 161 (.pointer (some ⟨w.heap.size, 0, none⟩)) (some (.int .i64 ((i : Int) - 1))) none none).run Tryd.prog W = .ok (.slice (some ⟨w.heap.size, i - 1, none⟩) (66 - i) (66 - i)) W := fun W => by
        have hal : Tryd.prog.arrayLen 161 = 65 := by kernel_rfl
        rw [run_sliceAt_array_l W 161 ⟨w.heap.size, 0, none⟩ (by simp [Program.arrayLen, Program.elem, Tryd.underlying161]) .i64 ((i : Int) - 1) (by omega) (by rw [hal]; omega)]
        rw [hal]
        have e1 : ((i : Int) - 1).toNat = i - 1 := by omega
        have e2 : 65 - (i - 1) = 66 - i := by omega
        have hsz : ∀ W, (sizeOf (Tryd.prog.elem 161)).run Tryd.prog W = .ok 1 W := fun W => by simp [Program.elem, Tryd.underlying161]
        rw [hsz]
        simp only [Result.andThen, slicedAt, e1, e2]
        rw [if_neg (by omega), Nat.mul_one]
        rw [Lib.add_plain, Nat.zero_add]
      go_wp2
      generalize hX : ((⟨#[48, 49, 50, 51, 52, 53, 54, 55, 56, 57, 97, 98, 99, 100, 101, 102, 103, 104, 105, 106, 107, 108, 109, 110, 111, 112, 113, 114, 115, 116, 117, 118, 119, 120, 121, 122]⟩ : ByteArray)[v]'(by show v < 36; omega)).toNat = X at *
      have hX2 : X = (hdig v).toNat := by rw [← hX]; exact dig_at v hv16 _
      have HB2 := Lib.hid (HB.out.set (i - 1) X)
      have HW2 := Lib.hid (HW.out.setCell (p := ⟨w.heap.size, i - 1, none⟩) (Nat.le_refl _) (.int .u8 (X : Int)))
      have HE2 := Lib.hid (HE.out X hX2)
      have hl2 : (l.set (i - 1) X).length = 65 := by simp [hl]
      generalize l.set (i - 1) X = l2 at *
      generalize wr.setCell ⟨w.heap.size, i - 1, none⟩ (.int .u8 (X : Int)) = wz at *
      have hlen : (hex u).length = 66 - i := by
        have := congrArg List.length HE2.out
        simp at this; omega
      have hcv := run_convert_bytes_back (P := Tryd.prog) wz 111 9 5 ⟨w.heap.size, i - 1, none⟩ (66 - i) (hex u) Tryd.underlying111 Tryd.underlying5 Tryd.underlying9 (fun j hj => by
        have h1 := HB2.out.cell (i - 1 + j) (by omega)
        have h2 : Big.nth l2 (i - 1 + j) = ((hex u)[j]).toNat := by
          have h3 : (l2.drop (i - 1))[j]? = ((hex u).map UInt8.toNat)[j]? := by rw [HE2.out]
          rw [List.getElem?_drop, List.getElem?_map, List.getElem?_eq_getElem hj] at h3
          unfold Big.nth
          rw [List.getD_eq_getElem?_getD, h3]; rfl
        rw [h2] at h1
        rw [Lib.add_plain]
        exact h1)
      rw [hlen] at hcv
      clear hX hX2 hlen HB2 HE2 HE HB HW HI hsl hst hfz
      go_wp2_with (simp only [hcv])
      go_ret2
      exact ⟨rfl, HW2.out⟩
/-- strconv.FormatUint at base 16. -/
theorem fu16_any (u : Nat) (hu : u < 18446744073709551616) (w : World) (h : T64 w) :
    Calls Tryd.prog 59 #[.int .u64 (u : Int), .int .i64 16] w fun e w' => e = .returned (.string ⟨(hex u).toArray⟩) ∧ Below w.heap.size w w' := by
  have C := Lib.hid (fun W h => fb_any u hu W h)
  have HT := Lib.hid h
  clear h hu
  have D := Lib.hid (show ∀ W, T64 W → Calls Tryd.prog 86 #[.int .u64 (u : Int), .int .i64 16] W fun e w' => e = .returned (.string ⟨(hex u).toArray⟩) ∧ Below W.heap.size W w' from fun W HW => by
    have HW := Lib.hid HW
    go_enter Tryd.func86, Tryd.ntmps86
    go_wp2_with (go_at_call 126; refine (C.out _ HW.out).mono ?_; rintro e w' ⟨rfl, hb⟩)
    go_ret
    exact ⟨rfl, hb⟩)
  go_enter Tryd.func59, Tryd.ntmps59
  go_wp2_with (go_at_call 86; refine (D.out _ HT.out).mono ?_; rintro e w' ⟨rfl, hb⟩)
  go_ret
  exact ⟨rfl, hb⟩
end Go.Proofs.YtgdcahdnojaebaaDoor
/- strings.Repeat of a nought. -/
namespace Go.Proofs.YtgdcahdnojaebaaDoor
open Go.RowKit

set_option maxHeartbeats 4000000 in
set_option maxRecDepth 100000 in
theorem rep_any (k : Nat) (hk : k ≤ 15) (w : World) : Calls Tryd.prog 60 #[.string ⟨#[48]⟩, .int .i64 (k : Int)] w fun e w' => e = .returned (.string ⟨(List.replicate k 48).toArray⟩) ∧ w = w' := by
  have h0 : ((⟨#[48]⟩ : ByteArray)[0]).toNat = 48 := rfl
  have p1 : ∀ l, Lib.hasPrefix (32 :: l) [48] = false := fun _ => rfl
  have p2 : ∀ l, Lib.hasPrefix (45 :: l) [48] = false := fun _ => rfl
  have p3 : ∀ l, Lib.hasPrefix (48 :: l) [48] = true := fun l => by simp [Lib.hasPrefix]
  have hc : k = 0 ∨ k = 1 ∨ k = 2 ∨ k = 3 ∨ k = 4 ∨ k = 5 ∨ k = 6 ∨ k = 7 ∨ k = 8 ∨ k = 9 ∨ k = 10 ∨ k = 11 ∨ k = 12 ∨ k = 13 ∨ k = 14 ∨ k = 15 := by omega
  rcases hc with rfl | rfl | rfl | rfl | rfl | rfl | rfl | rfl | rfl | rfl | rfl | rfl | rfl | rfl | rfl | rfl
  all_goals
    go_enter Tryd.func60, Tryd.ntmps60
    go_wp2_with (first | (go_at_call 87; refine (Tryd.bits_Mul 1 _ (by decide) (by decide) _).mono ?_; rintro e w' ⟨rfl, rfl⟩) | (go_at_call 88; refine (Tryd.strings_HasPrefix _ _ _).mono ?_; rintro e w' ⟨rfl, rfl⟩))
    go_ret
    exact ⟨by kernel_rfl, rfl⟩
end Go.Proofs.YtgdcahdnojaebaaDoor
/- package grain: Text. -/
namespace Go.Proofs.YtgdcahdnojaebaaDoor
open Go.RowKit Ieee Fl Hx

def NANB : Nat := 9221120237041090561
/-- The bits that are told. -/
def bo (v : Nat) : Nat := if nanB v = true then NANB else v
theorem bo_lt {v : Nat} (h : v < 18446744073709551616) : bo v < 18446744073709551616 := by unfold bo; split <;> first | exact h | decide
theorem bitsOf_any {x : Nat} (w : World) : Calls Tryd.prog 57 #[.float .f64 x] w fun e w' => e = .returned (.int .u64 (bo x : Int)) ∧ w = w' := by
  unfold bo
  by_cases h : IsN x
  · rw [nanB_no h]
    go_enter Tryd.func57, Tryd.ntmps57
    go_wp2_with (go_at_call 47; refine (isNaN_no h _).mono ?_; rintro e w' ⟨rfl, rfl⟩)
    go_ret
    exact ⟨rfl, rfl⟩
  · rw [nanB_yes h]
    go_enter Tryd.func57, Tryd.ntmps57
    go_wp2_with (go_at_call 47; refine (isNaN_yes h _).mono ?_; rintro e w' ⟨rfl, rfl⟩)
    go_ret
    exact ⟨rfl, rfl⟩
set_option maxRecDepth 100000 in
set_option maxHeartbeats 1000000 in
theorem text_any {v : Nat} (hv : v < 18446744073709551616) (w : World) (h : T64 w) : Calls Tryd.prog 27 #[.float .f64 v] w fun e w' => e = .returned (.string ⟨(hexk 16 (bo v)).toArray⟩) ∧ Below w.heap.size w w' := by
  have hb := bo_lt hv
  obtain ⟨l1, l2, l3⟩ := hex_pad 16 (bo v) (by omega) (by show bo v < 16 ^ 16; omega)
  have CB := Lib.hid (fun W => bitsOf_any (x := v) W)
  have CF := Lib.hid (fun W h => fu16_any (bo v) hb W h)
  have HT := Lib.hid h
  generalize bo v = u at *
  have HL := Lib.hid l3
  have hsz : (⟨(hex u).toArray⟩ : ByteArray).size = (hex u).length := by simp [ByteArray.size]
  have CR := Lib.hid (show ∀ W : World, Calls Tryd.prog 60 #[.string ⟨#[48]⟩, .int .i64 (16 - ((hex u).length : Int))] W fun e w' => e = .returned (.string ⟨(List.replicate (16 - (hex u).length) 48).toArray⟩) ∧ W = w' from fun W => by
    have c := rep_any (16 - (hex u).length) (by omega) W
    rw [show ((16 - (hex u).length : Nat) : Int) = 16 - ((hex u).length : Int) by omega] at c
    exact c)
  have HA := Lib.hid (show (⟨Array.replicate (16 - (hex u).length) 48⟩ : ByteArray) ++ ⟨(hex u).toArray⟩ = ⟨(hexk 16 u).toArray⟩ by
    rw [← HL.out]; simp [ByteArray.ext_iff])
  clear h l3 hb hv
  go_enter Tryd.func27, Tryd.ntmps27
  go_wp2_with (first | (go_at_call 57; (with_reducible refine (CB.out _).mono ?_); rintro e w' ⟨rfl, rfl⟩) | (go_at_call 59; (with_reducible refine (CF.out _ HT.out).mono ?_); rintro e w' ⟨rfl, hb⟩) | (go_at_call 60; (with_reducible refine (CR.out _).mono ?_); rintro e w' ⟨rfl, rfl⟩))
  go_ret
  exact ⟨congrArg (fun s => Ending.returned (Value.string s)) HA.out, hb⟩
end Go.Proofs.YtgdcahdnojaebaaDoor
/- internal/strconv.ParseUint of sixteen digits, base 16. -/
namespace Go.Proofs.YtgdcahdnojaebaaDoor
open Go.RowKit Hx

theorem low_bits (c : UInt8) : bits .or .u8 (c.toNat : Int) 32 = (((c ||| 32).toNat : Nat) : Int) := by
  have h := u8_or_nat c.toNat 32 c.toNat_lt (by omega)
  rw [show ((32 : Nat) : Int) = 32 from rfl] at h
  rw [h, UInt8.toNat_or]; rfl
def puTuple : Option Nat → Value
  | some n => .tuple #[.int .u64 n, .nilIface]
  | none => .tuple #[.int .u64 0, .iface 136 (.int .i64 2)]
theorem letter_gt : ∀ c : UInt8, 97 ≤ (c ||| 32).toNat → (c ||| 32).toNat ≤ 102 → 57 < c.toNat ∧ c.toNat ≠ 95 := by
  intro c h1 h2
  have key : ∀ n : Fin 256, 97 ≤ (UInt8.ofNat n.val ||| 32).toNat → (UInt8.ofNat n.val ||| 32).toNat ≤ 102 → 57 < (UInt8.ofNat n.val).toNat ∧ (UInt8.ofNat n.val).toNat ≠ 95 := by decide +kernel
  have e : UInt8.ofNat c.toNat = c := by simp
  have := key ⟨c.toNat, c.toNat_lt⟩
  rw [e] at this
  exact this h1 h2
theorem pow_le_cut {k : Nat} (h : k < 16) : 16 ^ k ≤ 1152921504606846976 := by
  have := Nat.pow_le_pow_right (n := 16) (by omega) (show k ≤ 15 by omega)
  exact this
set_option maxHeartbeats 32000000 in
set_option maxRecDepth 100000 in
theorem pu_any (t : ByteArray) (hn : t.size = 16) (w : World) :
    Calls Tryd.prog 79 #[.string t, .int .i64 16, .int .i64 64] w fun e w' => e = .returned (puTuple (hxv 0 t.data.toList)) ∧ Below w.heap.size w w' := by
  have hBB := Lib.hid (Lib.bytesWorld_below w 5 t)
  have hemp : t.toList.isEmpty = false := by
    rw [← decide_eq_emptyBytes]
    exact decide_eq_false (fun h => by rw [h] at hn; exact absurd hn (by decide))
  have hcv := Lib.run_convert_string_bytes (P := Tryd.prog) w 9 111 5 t (u := .string) Tryd.underlying9 Tryd.underlying111 Tryd.underlying5
  have hB : ∀ j, j < t.size → (Lib.bytesWorld w 5 t).cell? ⟨w.heap.size, j, none⟩ = some (.int .u8 (t.data.toList.getD j 0).toNat) := fun j hj => Lib.bytesWorld_cell w 5 t j hj
  obtain ⟨W1, hW1⟩ : ∃ W1, W1 = Lib.bytesWorld w 5 t := ⟨_, rfl⟩
  rw [← hW1] at hcv hB hBB
  clear hW1
  obtain ⟨bs, hL⟩ : ∃ bs, bs = t.data.toList := ⟨_, rfl⟩
  have hLn : bs.length = 16 := by rw [hL, ← hn, Lib.size_eq]
  rw [← hL] at hB ⊢
  clear hL
  rw [hn] at hcv hB
  have hmv : IntKind.u64.wrap (IntKind.u64.wrap 18446744073709551616 - 1) = 18446744073709551615 := by
    rw [IntKind.wrap_u64, IntKind.wrap_u64]
    decide
  go_enter Tryd.func79, Tryd.ntmps79
  go_wp2
  go_loop [12, 13, 101] (fun vu vn vi => ∃ (k acc : Nat) (a : Int), vu = .bool false ∧ vn = .int .u64 a ∧ vi = .int .i64 k ∧ k ≤ 16 ∧ Hid (a = (acc : Int) ∧ acc < 16 ^ k ∧ hxv 0 bs = hxv acc (bs.drop k)))
    (fun _ _ vi => 16 - (intOf vi).toNat)
  case atStart => exact ⟨0, 0, 0, rfl, rfl, rfl, by omega, Lib.hid ⟨rfl, by decide, rfl⟩⟩
  case round =>
    obtain ⟨k, acc, a, rfl, rfl, rfl, hk, hh⟩ := hrel
    obtain ⟨ha, hacc, hdec⟩ := hh.out
    clear hh
    by_cases hkn : k < 16
    · have hc := hB k hkn
      have hdrop : bs.drop k = bs[k]'(by omega) :: bs.drop (k + 1) := List.drop_eq_getElem_cons (by omega)
      have hget : bs.getD k 0 = bs[k]'(by omega) := by simp [List.getD, List.getElem?_eq_getElem (show k < bs.length by omega)]
      rw [hdrop] at hdec
      rw [hget] at hc
      generalize bs[k]'(by omega) = c at hc hdec
      have hcut := pow_le_cut hkn
      have a0 : 0 ≤ a := by omega
      have a1 : a < 1152921504606846976 := by omega
      have hpow : 16 ^ (k + 1) = 16 ^ k * 16 := Nat.pow_succ _ _
      clear hB hdrop hget
      have hlow := low_bits c
      have hgt := letter_gt c
      have hl256 : (c ||| 32).toNat < 256 := (c ||| 32).toNat_lt
      have hc256 : c.toNat < 256 := c.toNat_lt
      have HD : hd c = if 48 ≤ c.toNat ∧ c.toNat ≤ 57 then some (c.toNat - 48) else if 97 ≤ (c ||| 32).toNat ∧ (c ||| 32).toNat ≤ 102 then some ((c ||| 32).toNat - 87) else none := rfl
      have hstep : hxv acc (c :: bs.drop (k + 1)) = match hd c with | none => none | some d => hxv (acc * 16 + d) (bs.drop (k + 1)) := rfl
      generalize hd c = v at HD hstep
      generalize (c ||| 32).toNat = l at *
      generalize c.toNat = m at *
      by_cases hdig : 48 ≤ m ∧ m ≤ 57
      · obtain ⟨hd0, hd1⟩ := hdig
        rw [if_pos ⟨hd0, hd1⟩] at HD
        subst HD
        have HN := Lib.hid (show a * 16 + ((m : Int) - 48) = ((acc * 16 + (m - 48) : Nat) : Int) ∧ acc * 16 + (m - 48) < 16 ^ (k + 1) ∧ hxv 0 bs = hxv (acc * 16 + (m - 48)) (bs.drop (k + 1)) from ⟨by omega, by omega, hdec.trans hstep⟩)
        have iov : a * 16 + ((m : Int) - 48) < 18446744073709551616 := by omega
        clear hdec hstep hacc ha hpow hcut hlow hgt hl256
        go_wp2
        go_round
        case rel => exact ⟨k + 1, _, _, rfl, rfl, by go_num, by omega, HN⟩
        case measure => simp [intOf]; omega
      · have hside : m < 48 ∨ 57 < m := by omega
        rw [if_neg hdig] at HD
        by_cases hlet : 97 ≤ l ∧ l ≤ 102
        · obtain ⟨hl0, hl1⟩ := hlet
          rw [if_pos ⟨hl0, hl1⟩] at HD
          subst HD
          obtain ⟨h57, hne⟩ := hgt hl0 hl1
          have t95 : ((m : Int) == 95) = false := beq_eq_false_iff_ne.2 (by omega)
          have h48 : ¬ m < 48 := by omega
          have h95 : 48 ≤ m := by omega
          have HN := Lib.hid (show a * 16 + ((l : Int) - 97 + 10) = ((acc * 16 + (l - 87) : Nat) : Int) ∧ acc * 16 + (l - 87) < 16 ^ (k + 1) ∧ hxv 0 bs = hxv (acc * 16 + (l - 87)) (bs.drop (k + 1)) from ⟨by omega, by omega, hdec.trans hstep⟩)
          have iov : a * 16 + ((l : Int) - 97 + 10) < 18446744073709551616 := by omega
          clear hdec hstep hacc ha hpow hcut hgt hl256 hdig hside hne
          go_wp2_with (go_at_call 116; refine (Tryd.internal_strconv_lower _ _).mono ?_; rintro e w' ⟨rfl, rfl⟩)
          go_round
          case rel => exact ⟨k + 1, _, _, rfl, rfl, by go_num, by omega, HN⟩
          case measure => simp [intOf]; omega
        · have hdec2 : hxv 0 bs = none := by rw [hdec, hstep, HD, if_neg hlet]
          have HDEC := Lib.hid hdec2
          clear hdec hdec2 hstep hacc ha hpow hcut hgt hdig HD
          have hcl : l < 97 ∨ (103 ≤ l ∧ l ≤ 122) ∨ 122 < l := by omega
          clear hlet
          rcases hside with hs | hs <;> rcases hcl with hl | ⟨hl, hl2⟩ | hl
          all_goals
            go_wp2_with (go_at_call 116; refine (Tryd.internal_strconv_lower _ _).mono ?_; rintro e w' ⟨rfl, rfl⟩)
            all_goals go_ret2
            all_goals exact ⟨by rw [HDEC.out]; rfl, hBB.out⟩
    · have hkk : k = 16 := by omega
      subst hkk
      have hF : hxv acc (bs.drop 16) = some acc := by rw [List.drop_eq_nil_of_le (by omega)]; rfl
      rw [hF] at hdec
      subst ha
      have HDEC := Lib.hid hdec
      clear hacc hF hB hdec
      go_wp2
      go_ret2
      exact ⟨by rw [HDEC.out]; rfl, hBB.out⟩
end Go.Proofs.YtgdcahdnojaebaaDoor
/- strconv.ParseUint of sixteen digits; package grain: Parse. -/
namespace Go.Proofs.YtgdcahdnojaebaaDoor
open Go.RowKit Ieee Fl Hx

/-- What an error of strconv's holds. -/
structure ES (w : World) : Prop where
  cell : ∃ ev, w.cell? ⟨1, 0, none⟩ = some ev ∧ (ev = .nilIface ∨ ∃ te pe, ev = .iface te pe)
  lt : 1 < w.heap.size
theorem ES.keep {w w' : World} (h : ES w) (hb : Below w.heap.size w w') : ES w' := by
  obtain ⟨ev, h1, h2⟩ := h.cell
  exact ⟨⟨ev, (hb.cell (p := ⟨1, 0, none⟩) h.lt).trans h1, h2⟩, Nat.lt_of_lt_of_le h.lt hb.size⟩
theorem pub_good (t : ByteArray) (hn : t.size = 16) (n : Nat) (h : hxv 0 t.data.toList = some n) (w : World) :
    Calls Tryd.prog 45 #[.string t, .int .i64 16, .int .i64 64] w fun e w' => e = .returned (.tuple #[.int .u64 n, .nilIface]) ∧ Below w.heap.size w w' := by
  have C := Lib.hid (show ∀ W, Calls Tryd.prog 79 #[.string t, .int .i64 16, .int .i64 64] W fun e w' => e = .returned (.tuple #[.int .u64 n, .nilIface]) ∧ Below W.heap.size W w' from fun W => by
    have c := pu_any t hn W; rw [h] at c; exact c)
  clear h hn
  go_enter Tryd.func45, Tryd.ntmps45
  go_wp2_with (go_at_call 79; (with_reducible refine (C.out _).mono ?_); rintro e w' ⟨rfl, hb⟩)
  go_ret2
  exact ⟨rfl, hb⟩
def BadPost (w : World) (e : Ending) (w' : World) : Prop := ∃ x : Addr, e = .returned (.tuple #[.int .u64 0, .iface 138 (.pointer (some x))]) ∧ Below w.heap.size w w'
theorem pub_bad (t : ByteArray) (hn : t.size = 16) (h : hxv 0 t.data.toList = none) (w : World) (hES : ES w) :
    Calls Tryd.prog 45 #[.string t, .int .i64 16, .int .i64 64] w (BadPost w) := by
  have C := Lib.hid (show ∀ W, Calls Tryd.prog 79 #[.string t, .int .i64 16, .int .i64 64] W fun e w' => e = .returned (.tuple #[.int .u64 0, .iface 136 (.int .i64 2)]) ∧ Below W.heap.size W w' from fun W => by
    have c := pu_any t hn W; rw [h] at c; exact c)
  have HE := Lib.hid hES
  have D := Lib.hid (show ∀ W (fn : ByteArray), ES W → Calls Tryd.prog 80 #[.string fn, .string t, .int .i64 16, .int .i64 64, .iface 136 (.int .i64 2)] W fun e w' => ∃ N, e = .returned (.iface 138 (.pointer (some ⟨N, 0, none⟩))) ∧ Below W.heap.size W w' from fun W fn hW => by
    obtain ⟨ev, h1, h2⟩ := hW.cell
    exact (Tryd.strconv_toError_syntax fn t 16 64 ev W (by omega) h1 h2).mono fun _ _ ⟨N, e1, _, _, e2⟩ => ⟨N, e1, e2⟩)
  clear h hn hES
  go_enter Tryd.func45, Tryd.ntmps45
  go_wp2_with (first | (go_at_call 79; (with_reducible refine (C.out _).mono ?_); rintro e w2 ⟨rfl, hb⟩) | (go_at_call 80; (with_reducible refine (D.out _ _ (HE.out.keep hb)).mono ?_); rintro e w3 ⟨N, rfl, hb3⟩))
  go_ret2
  exact ⟨_, rfl, hb.trans (hb3.mono hb.size)⟩

theorem parse_len (t : ByteArray) (hn : t.size ≠ 16) (w : World) : Calls Tryd.prog 15 #[.string t] w fun e w' => e = .returned (.tuple #[.float .f64 0, .int .i64 6]) ∧ w = w' := by
  have h1 : ((t.size : Int) != 16) = true := by simp; omega
  go_enter Tryd.func15, Tryd.ntmps15
  go_wp2
  go_ret2
  exact ⟨rfl, rfl⟩
theorem parse_bad (t : ByteArray) (hn : t.size = 16) (h : hxv 0 t.data.toList = none) (w : World) (hES : ES w) : Calls Tryd.prog 15 #[.string t] w fun e w' => e = .returned (.tuple #[.float .f64 0, .int .i64 6]) ∧ Below w.heap.size w w' := by
  have h1 : ((t.size : Int) != 16) = false := by simp; omega
  have C := Lib.hid (fun W h' => pub_bad t hn h W h')
  have HE := Lib.hid hES
  clear h hn hES
  go_enter Tryd.func15, Tryd.ntmps15
  go_wp2_with (go_at_call 45; (with_reducible refine (C.out _ HE.out).mono ?_); rintro e w2 ⟨x, rfl, hb⟩)
  go_ret2
  exact ⟨rfl, hb⟩
theorem hxv_lt (l : List UInt8) (a b : Nat) (h : hxv a l = some b) : b < (a + 1) * 16 ^ l.length := by
  induction l generalizing a with
  | nil => cases h; simp
  | cons c r ih =>
    unfold hxv at h
    cases hc : hd c with
    | none => rw [hc] at h; cases h
    | some d =>
      rw [hc] at h
      have h1 := ih _ h
      have h2 := hd_lt hc
      have h3 : (a * 16 + d + 1) * 16 ^ r.length ≤ ((a + 1) * 16) * 16 ^ r.length := Nat.mul_le_mul_right _ (by omega)
      rw [List.length_cons, Nat.pow_succ, Nat.mul_comm (16 ^ _) 16, ← Nat.mul_assoc]; omega
theorem val_lt {t : ByteArray} (hn : t.size = 16) {n : Nat} (h : hxv 0 t.data.toList = some n) : n < 18446744073709551616 := by
  have h1 := hxv_lt _ _ _ h
  rw [show t.data.toList.length = 16 by rw [← hn]; rfl] at h1
  have : (0 + 1) * 16 ^ 16 = 18446744073709551616 := by decide
  omega
/-- The text that the value tells. -/
def told (n : Nat) : ByteArray := ⟨(hexk 16 (bo n)).toArray⟩
theorem str_ne {s t : ByteArray} (h : s ≠ t) : (s.toList == t.toList) = false := by
  rw [beq_eq_false_iff_ne]
  intro e
  apply h
  rw [Lib.toList_data, Lib.toList_data] at e
  cases s; cases t
  simpa using e
theorem parse_other (t : ByteArray) (hn : t.size = 16) (n : Nat) (h : hxv 0 t.data.toList = some n) (he : told n ≠ t) (w : World) (hT : T64 w) : Calls Tryd.prog 15 #[.string t] w fun e w' => e = .returned (.tuple #[.float .f64 0, .int .i64 6]) ∧ Below w.heap.size w w' := by
  have hlt := val_lt hn h
  have h1 : ((t.size : Int) != 16) = false := by simp; omega
  have C := Lib.hid (fun W => pub_good t hn n h W)
  have D := Lib.hid (show ∀ W, T64 W → Calls Tryd.prog 27 #[.float .f64 n] W fun e w' => e = .returned (.string (told n)) ∧ Below W.heap.size W w' from fun W hW => text_any hlt W hW)
  have HT := Lib.hid hT
  have hd := str_ne he
  generalize told n = s at *
  clear h hn hT hlt he
  go_enter Tryd.func15, Tryd.ntmps15
  go_wp2_with (first | (go_at_call 45; (with_reducible refine (C.out _).mono ?_); rintro e w2 ⟨rfl, hb⟩) | (go_at_call 27; (with_reducible refine (D.out _ (HT.out.keep hb)).mono ?_); rintro e w3 ⟨rfl, hb3⟩))
  go_ret2
  exact ⟨rfl, hb.trans (hb3.mono hb.size)⟩
theorem parse_same (n : Nat) (t : ByteArray) (hn : t.size = 16) (h : hxv 0 t.data.toList = some n) (he : told n = t) (w : World) (hT : T64 w) : Calls Tryd.prog 15 #[.string t] w fun e w' => e = .returned (.tuple #[.float .f64 n, .int .i64 0]) ∧ Below w.heap.size w w' := by
  have hlt := val_lt hn h
  have h1 : ((t.size : Int) != 16) = false := by simp; omega
  have C := Lib.hid (fun W => pub_good t hn n h W)
  have D := Lib.hid (show ∀ W, T64 W → Calls Tryd.prog 27 #[.float .f64 n] W fun e w' => e = .returned (.string t) ∧ Below W.heap.size W w' from fun W hW => he ▸ text_any hlt W hW)
  have HT := Lib.hid hT
  have hd : decide (t = t) = true := decide_eq_true rfl
  clear h hn hT hlt he
  go_enter Tryd.func15, Tryd.ntmps15
  go_wp2_with (first | (go_at_call 45; (with_reducible refine (C.out _).mono ?_); rintro e w2 ⟨rfl, hb⟩) | (go_at_call 27; (with_reducible refine (D.out _ (HT.out.keep hb)).mono ?_); rintro e w3 ⟨rfl, hb3⟩))
  go_ret2
  exact ⟨rfl, hb.trans (hb3.mono hb.size)⟩
end Go.Proofs.YtgdcahdnojaebaaDoor
/- The document's answer for layer 3: Parse, Same. -/
namespace Go.Proofs.YtgdcahdnojaebaaDoor
open Go.RowKit Ieee Fl Hx

theorem or_dig {a d : Nat} (ha : a < 1152921504606846976) (hd : d < 16) : bits .or .u64 ((a : Int) * 16) (d : Int) = ((a * 16 + d : Nat) : Int) := by
  have h := u64_or_nat (a * 16) d (by omega) (by omega)
  rw [show ((a * 16 : Nat) : Int) = (a : Int) * 16 by omega] at h
  rw [h, show a * 16 = 2 ^ 4 * a by omega, ← Nat.two_pow_add_eq_or_of_lt (by omega)]
theorem rparse_len (t : ByteArray) (hn : t.size ≠ 16) (w : World) : Calls Tryd.prog 16 #[.string t] w fun e w' => e = .returned (.tuple #[.float .f64 0, .int .i64 6]) ∧ w = w' := by
  have h1 : ((t.size : Int) != 16) = true := by simp; omega
  go_enter Tryd.func16, Tryd.ntmps16
  go_wp2
  go_ret2
  exact ⟨rfl, rfl⟩
/-- What the document's answer is. -/
def refP (v : Option Nat) : Value := match v with
  | none => .tuple #[.float .f64 0, .int .i64 6]
  | some b => if nanB b = true ∧ b ≠ NANB then .tuple #[.float .f64 0, .int .i64 6] else .tuple #[.float .f64 b, .int .i64 0]
theorem refP_ok {b : Nat} (h : ¬ (nanB b = true ∧ b ≠ NANB)) : refP (some b) = .tuple #[.float .f64 b, .int .i64 0] := if_neg h
theorem refP_no {b : Nat} (h : nanB b = true ∧ b ≠ NANB) : refP (some b) = .tuple #[.float .f64 0, .int .i64 6] := if_pos h
theorem nan_lit (w : World) : Calls Tryd.prog 28 #[] w fun e w' => e = .returned (.float .f64 9221120237041090561) ∧ w = w' := by
  go_enter Tryd.func28, Tryd.ntmps28
  go_wp2
  go_ret
  exact ⟨rfl, rfl⟩
set_option maxHeartbeats 4000000 in
set_option maxRecDepth 100000 in
theorem rparse_any (t : ByteArray) (hn : t.size = 16) (w : World) : Calls Tryd.prog 16 #[.string t] w fun e w' => e = .returned (refP (lxv 0 t.data.toList)) ∧ w = w' := by
  have h1 : ((t.size : Int) != 16) = false := by simp; omega
  obtain ⟨bs, hL⟩ : ∃ bs, bs = t.data.toList := ⟨_, rfl⟩
  have hLn : bs.length = 16 := by rw [hL, ← hn, Lib.size_eq]
  have HG := Lib.hid (show ∀ k, k < 16 → ∀ h, t[k]'h = bs.getD k 0 from fun k hk h => by
    subst hL
    simp [List.getD, List.getElem?_eq_getElem (show k < t.data.toList.length by omega)]
    rfl)
  rw [← hL]
  clear hL
  go_enter Tryd.func16, Tryd.ntmps16
  go_wp2
  go_loop [4, 5] (fun vb vi => ∃ (k acc : Nat) (a : Int), vb = .int .u64 a ∧ vi = .int .i64 k ∧ k ≤ 16 ∧ Hid (a = (acc : Int) ∧ acc < 16 ^ k ∧ lxv 0 bs = lxv acc (bs.drop k)))
    (fun _ vi => 16 - (intOf vi).toNat)
  case atStart => exact ⟨0, 0, 0, rfl, rfl, by omega, Lib.hid ⟨rfl, by decide, rfl⟩⟩
  case round =>
    obtain ⟨k, acc, a, rfl, rfl, hk, hh⟩ := hrel
    obtain ⟨ha, hacc, hdec⟩ := hh.out
    clear hh
    by_cases hkn : k < 16
    · have hdrop : bs.drop k = bs[k]'(by omega) :: bs.drop (k + 1) := List.drop_eq_getElem_cons (by omega)
      have hget : bs.getD k 0 = bs[k]'(by omega) := by simp [List.getD, List.getElem?_eq_getElem (show k < bs.length by omega)]
      have hG : ∀ h, t[k]'h = bs[k]'(by omega) := fun h => (HG.out k hkn h).trans hget
      rw [hdrop] at hdec
      generalize bs[k]'(by omega) = c at hG hdec
      have hcut := pow_le_cut hkn
      have hpow : 16 ^ (k + 1) = 16 ^ k * 16 := Nat.pow_succ _ _
      have a0 : 0 ≤ a := by omega
      have a1 : a < 1152921504606846976 := by omega
      clear hdrop hget
      have hc256 : c.toNat < 256 := c.toNat_lt
      have HD : ld c = if 48 ≤ c.toNat ∧ c.toNat ≤ 57 then some (c.toNat - 48) else if 97 ≤ c.toNat ∧ c.toNat ≤ 102 then some (c.toNat - 87) else none := rfl
      have hstep : lxv acc (c :: bs.drop (k + 1)) = match ld c with | none => none | some d => lxv (acc * 16 + d) (bs.drop (k + 1)) := rfl
      have hG2 : ∀ h, (t[k]'h).toNat = c.toNat := fun h => by rw [hG h]
      clear hG
      generalize ld c = v at HD hstep
      generalize c.toNat = m at *
      by_cases hdig : 48 ≤ m ∧ m ≤ 57
      · obtain ⟨hd0, hd1⟩ := hdig
        rw [if_pos ⟨hd0, hd1⟩] at HD
        subst HD
        have hor := or_dig (a := acc) (d := m - 48) (by omega) (by omega)
        rw [show ((m - 48 : Nat) : Int) = (m : Int) - 48 by omega, ← ha] at hor
        obtain ⟨z, hz⟩ : ∃ z : Int, z = ((acc * 16 + (m - 48) : Nat) : Int) := ⟨_, rfl⟩
        rw [← hz] at hor
        have HN := Lib.hid (show z = ((acc * 16 + (m - 48) : Nat) : Int) ∧ acc * 16 + (m - 48) < 16 ^ (k + 1) ∧ lxv 0 bs = lxv (acc * 16 + (m - 48)) (bs.drop (k + 1)) from ⟨hz, by omega, hdec.trans hstep⟩)
        clear hz
        have iov : a * 16 < 18446744073709551616 := by omega
        clear hdec hstep hacc ha hpow hcut
        go_wp2
        go_round
        case rel => exact ⟨k + 1, _, _, rfl, by go_num, by omega, HN⟩
        case measure => simp [intOf]; omega
      · rw [if_neg hdig] at HD
        have hside : m < 48 ∨ 57 < m := by omega
        by_cases hlet : 97 ≤ m ∧ m ≤ 102
        · obtain ⟨hl0, hl1⟩ := hlet
          rw [if_pos ⟨hl0, hl1⟩] at HD
          subst HD
          have h57 : 57 < m := by omega
          have hor := or_dig (a := acc) (d := m - 87) (by omega) (by omega)
          rw [show ((m - 87 : Nat) : Int) = (m : Int) - 97 + 10 by omega, ← ha] at hor
          obtain ⟨z, hz⟩ : ∃ z : Int, z = ((acc * 16 + (m - 87) : Nat) : Int) := ⟨_, rfl⟩
          rw [← hz] at hor
          have HN := Lib.hid (show z = ((acc * 16 + (m - 87) : Nat) : Int) ∧ acc * 16 + (m - 87) < 16 ^ (k + 1) ∧ lxv 0 bs = lxv (acc * 16 + (m - 87)) (bs.drop (k + 1)) from ⟨hz, by omega, hdec.trans hstep⟩)
          clear hz
          have iov : a * 16 < 18446744073709551616 := by omega
          clear hdec hstep hacc ha hpow hcut hside hdig
          go_wp2
          go_round
          case rel => exact ⟨k + 1, _, _, rfl, by go_num, by omega, HN⟩
          case measure => simp [intOf]; omega
        · have hdec2 : lxv 0 bs = none := by rw [hdec, hstep, HD, if_neg hlet]
          have HDEC := Lib.hid hdec2
          have hcl : m < 97 ∨ 102 < m := by omega
          clear hdec hdec2 hstep hacc ha hpow hcut hlet hdig HD
          rcases hside with hs | hs <;> rcases hcl with hl | hl
          all_goals first | (exfalso; omega) | skip
          all_goals
            go_wp2
            go_ret2
            exact ⟨by rw [HDEC.out]; rfl, rfl⟩
    · have hkk : k = 16 := by omega
      subst hkk
      have hF : lxv acc (bs.drop 16) = some acc := by rw [List.drop_eq_nil_of_le (by omega)]; rfl
      rw [hF] at hdec
      have hlt : acc < 18446744073709551616 := by
        have : 16 ^ 16 = 18446744073709551616 := by decide
        omega
      subst ha
      have HDEC := Lib.hid hdec
      clear hF hdec hacc
      by_cases hnan : IsN acc
      · have P1 := Lib.hid (show refP (lxv 0 bs) = .tuple #[.float .f64 acc, .int .i64 0] by rw [HDEC.out, refP_ok (by rw [nanB_no hnan]; simp)])
        go_wp2_with (go_at_call 47; refine (isNaN_no hnan _).mono ?_; rintro e w' ⟨rfl, rfl⟩)
        go_ret2
        exact ⟨by rw [P1.out]; rfl, rfl⟩
      · by_cases he : acc = NANB
        · have P1 := Lib.hid (show refP (lxv 0 bs) = .tuple #[.float .f64 9221120237041090561, .int .i64 0] by rw [HDEC.out, he, refP_ok (fun h => h.2 rfl)]; rfl)
          subst he
          have t1 : (((NANB : Nat) : Int) != 9221120237041090561) = false := by decide
          go_wp2_with (first | (go_at_call 47; refine (isNaN_yes hnan _).mono ?_; rintro e w' ⟨rfl, rfl⟩) | (go_at_call 28; refine (nan_lit _).mono ?_; rintro e w' ⟨rfl, rfl⟩))
          go_ret2
          exact ⟨by rw [P1.out]; rfl, rfl⟩
        · have P1 := Lib.hid (show refP (lxv 0 bs) = .tuple #[.float .f64 0, .int .i64 6] by rw [HDEC.out, refP_no ⟨nanB_yes hnan, he⟩])
          have t1 : ((acc : Int) != 9221120237041090561) = true := by unfold NANB at he; simp; omega
          clear he
          go_wp2_with (go_at_call 47; refine (isNaN_yes hnan _).mono ?_; rintro e w' ⟨rfl, rfl⟩)
          go_ret2
          exact ⟨by rw [P1.out]; rfl, rfl⟩
end Go.Proofs.YtgdcahdnojaebaaDoor
