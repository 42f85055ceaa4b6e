/- Contracts, in this order: Texts of sixteen digits (plain). · internal/strconv.formatBits at base 16. · strings.Repeat of a nought. · package grain: Text. · internal/strconv.ParseUint of sixteen digits, base 16. · strconv.ParseUint of sixteen digits; package grain: Parse. · package grain: texts come back; diapasonlaw03: finite. · exact: the parts of what a float is worth; which unit Number.Float takes. · exact: Number.Float of what a float is worth, walked. · Floats: which operations have an answer that is a number. -/
import Derived.Test.YtgcgmplepcfbaaaGreatDoorBh03
import Derived.Test.YtgcgmplepcfbaaaGreatDoorChecked
import Derived.WalkKit
import Derived.Lib.Hide
import Derived.Laws.Closers25
import Derived.Laws.IdiomStrings
import Derived.LoopTactic
import Derived.Lib.ItoaMem
import Derived.Laws.BitsAllLaws
import Derived.Test.YtgcgmplepcfbaaaGreatDoorShelf
import Derived.Laws.Strings3
import Derived.Test.YtgcgmplepcfbaaaGreatDoorBh02
import Derived.Lib.Strings
import Derived.Lib.Walk
import Derived.Lib.ConvBytes
import Derived.Lib.AtoiErrMem
import Derived.Lib.SmallJoins
import Derived.Lib.AtoiAllMem
import Derived.Laws.Closers25b
import Derived.BigCall
import Derived.BigGuard
import Derived.Test.YtgcgmplepcfbaaaGreatDoorBh12
/- Texts of sixteen digits (plain). -/
namespace Go.Proofs.YtgcgmplepcfbaaaGreatDoor
namespace Hx

/-- What a digit tells: of both cases; of the lower case alone. -/
def hd (c : UInt8) : Option Nat := if 48 ≤ c.toNat ∧ c.toNat ≤ 57 then some (c.toNat - 48) else if 97 ≤ (c ||| 32).toNat ∧ (c ||| 32).toNat ≤ 102 then some ((c ||| 32).toNat - 87) else none
def ld (c : UInt8) : Option Nat := if 48 ≤ c.toNat ∧ c.toNat ≤ 57 then some (c.toNat - 48) else if 97 ≤ c.toNat ∧ c.toNat ≤ 102 then some (c.toNat - 87) else none
def hxv : Nat → List UInt8 → Option Nat
  | a, [] => some a
  | a, c :: r => match hd c with | none => none | some d => hxv (a * 16 + d) r
def lxv : Nat → List UInt8 → Option Nat
  | a, [] => some a
  | a, c :: r => match ld c with | none => none | some d => lxv (a * 16 + d) r
def hdig (d : Nat) : UInt8 := UInt8.ofNat (if d < 10 then 48 + d else 87 + d)
/-- The last k digits. -/
def hexk : Nat → Nat → List UInt8
  | 0, _ => []
  | k + 1, n => hexk k (n / 16) ++ [hdig (n % 16)]
def hex (n : Nat) : List UInt8 := if _h : n < 16 then [hdig n] else hex (n / 16) ++ [hdig (n % 16)]
termination_by n

theorem all_dig : ∀ d, d < 16 → ld (hdig d) = some d ∧ hd (hdig d) = some d := by decide
theorem ld_hd : ∀ c : UInt8, ∀ d, ld c = some d → hd c = some d ∧ d < 16 ∧ hdig d = c := by
  intro c d h
  have key : ∀ n : Fin 256, ∀ d, ld (UInt8.ofNat n.val) = some d → hd (UInt8.ofNat n.val) = some d ∧ d < 16 ∧ hdig d = UInt8.ofNat n.val := by
    intro n d hd'
    have hlt : d < 16 := by
      unfold ld at hd'
      split at hd'
      · cases hd'; omega
      · split at hd'
        · cases hd'; omega
        · cases hd'
    have hall : ∀ n : Fin 256, ∀ d : Fin 16, ld (UInt8.ofNat n.val) = some d.val → hd (UInt8.ofNat n.val) = some d.val ∧ hdig d.val = UInt8.ofNat n.val := by decide +kernel
    have := hall n ⟨d, hlt⟩ hd'
    exact ⟨this.1, hlt, this.2⟩
  have e : UInt8.ofNat c.toNat = c := by simp
  have := key ⟨c.toNat, c.toNat_lt⟩ d (by rw [e]; exact h)
  rw [e] at this
  exact this
theorem hd_lt {c : UInt8} {d : Nat} (h : hd c = some d) : d < 16 := by
  unfold hd at h
  split at h
  · cases h; omega
  · split at h
    · cases h; omega
    · cases h

theorem hexk_len (k n : Nat) : (hexk k n).length = k := by
  induction k generalizing n with
  | zero => rfl
  | succ k ih => simp [hexk, ih]
theorem hxv_append (a : Nat) (l r : List UInt8) : hxv a (l ++ r) = (hxv a l).bind fun b => hxv b r := by
  induction l generalizing a with
  | nil => rfl
  | cons c l ih =>
    simp only [List.cons_append, hxv]
    cases hd c with
    | none => rfl
    | some d => exact ih _
theorem lxv_append (a : Nat) (l r : List UInt8) : lxv a (l ++ r) = (lxv a l).bind fun b => lxv b r := by
  induction l generalizing a with
  | nil => rfl
  | cons c l ih =>
    simp only [List.cons_append, lxv]
    cases ld c with
    | none => rfl
    | some d => exact ih _
theorem hexk_read (k n : Nat) (h : n < 16 ^ k) : lxv 0 (hexk k n) = some n ∧ hxv 0 (hexk k n) = some n := by
  induction k generalizing n with
  | zero =>
    have : n = 0 := by simpa using h
    subst this; exact ⟨rfl, rfl⟩
  | succ k ih =>
    have hq : n / 16 < 16 ^ k := Nat.div_lt_of_lt_mul (by rw [Nat.pow_succ, Nat.mul_comm] at h; exact h)
    obtain ⟨h1, h2⟩ := ih _ hq
    obtain ⟨d1, d2⟩ := all_dig (n % 16) (Nat.mod_lt _ (by omega))
    unfold hexk
    rw [lxv_append, hxv_append, h1, h2]
    simp only [Option.bind_some, lxv, hxv, d1, d2]
    have := Nat.div_add_mod n 16
    exact ⟨by congr 1; omega, by congr 1; omega⟩
theorem lxv_val (l : List UInt8) (a b : Nat) (h : lxv a l = some b) : hxv a l = some b ∧ b < (a + 1) * 16 ^ l.length ∧ hexk l.length b = l ∧ b / 16 ^ l.length = a := by
  induction l generalizing a with
  | nil => cases h; simp [hxv, hexk]
  | cons c r ih =>
    unfold lxv at h
    cases hc : ld c with
    | none => rw [hc] at h; cases h
    | some d =>
      rw [hc] at h
      obtain ⟨e1, e2, e3⟩ := ld_hd c d hc
      obtain ⟨i1, i2, i3, i4⟩ := ih _ h
      refine ⟨by simp only [hxv, e1]; exact i1, ?_, ?_, ?_⟩
      · have h1 : (a * 16 + d + 1) * 16 ^ r.length ≤ ((a + 1) * 16) * 16 ^ r.length := Nat.mul_le_mul_right _ (by omega)
        rw [List.length_cons, Nat.pow_succ, Nat.mul_comm (16 ^ _) 16, ← Nat.mul_assoc]; omega
      · have hk : ∀ k n, hexk (k + 1) n = hdig (n / 16 ^ k % 16) :: hexk k n := by
          intro k
          induction k with
          | zero => intro n; simp [hexk]
          | succ k ik =>
            intro n
            show hexk (k + 1) (n / 16) ++ [hdig (n % 16)] = hdig (n / 16 ^ (k + 1) % 16) :: (hexk k (n / 16) ++ [hdig (n % 16)])
            rw [ik, Nat.pow_succ, Nat.mul_comm, ← Nat.div_div_eq_div_mul]; rfl
        rw [List.length_cons, hk, i3, i4, show (a * 16 + d) % 16 = d by omega, e3]
      · rw [List.length_cons, Nat.pow_succ, ← Nat.div_div_eq_div_mul, i4]; omega
theorem hex_pad (k n : Nat) (hk : 1 ≤ k) (h : n < 16 ^ k) : (hex n).length ≤ k ∧ 1 ≤ (hex n).length ∧ List.replicate (k - (hex n).length) 48 ++ hex n = hexk k n := by
  induction k generalizing n with
  | zero => omega
  | succ k ih =>
    by_cases hn : n < 16
    · have e : hex n = [hdig n] := by rw [hex, dif_pos hn]
      have hz : ∀ k, hexk k 0 = List.replicate k 48 := by
        intro k
        induction k with
        | zero => rfl
        | succ k ik => show hexk k (0 / 16) ++ [hdig 0] = _; rw [show 0 / 16 = 0 from rfl, ik, List.replicate_succ']; rfl
      rw [e]
      refine ⟨by simp, by simp, ?_⟩
      show List.replicate (k + 1 - 1) 48 ++ [hdig n] = hexk k (n / 16) ++ [hdig (n % 16)]
      rw [show n / 16 = 0 by omega, hz, Nat.mod_eq_of_lt hn]; rfl
    · have e : hex n = hex (n / 16) ++ [hdig (n % 16)] := by rw [hex, dif_neg hn]
      have hk1 : 1 ≤ k := by
        rcases Nat.eq_zero_or_pos k with h0 | h0
        · subst h0; simp at h; omega
        · exact h0
      have hq : n / 16 < 16 ^ k := Nat.div_lt_of_lt_mul (by rw [Nat.pow_succ, Nat.mul_comm] at h; exact h)
      obtain ⟨i1, i2, i3⟩ := ih _ hk1 hq
      rw [e]
      refine ⟨by simp; exact i1, by simp, ?_⟩
      rw [List.length_append, List.length_singleton, show k + 1 - ((hex (n / 16)).length + 1) = k - (hex (n / 16)).length by omega, ← List.append_assoc, i3]
      rfl
end Hx
end Go.Proofs.YtgcgmplepcfbaaaGreatDoor
/- internal/strconv.formatBits at base 16. -/
namespace Go.Proofs.YtgcgmplepcfbaaaGreatDoor
open Go.RowKit Hx

/-- What package math/bits asks of its table. -/
structure T64 (w : World) : Prop where
  cell : w.cell? ⟨1, 15, none⟩ = some (.int .u8 4)
  lt : 1 < w.heap.size
theorem T64.keep {w w' : World} (h : T64 w) (hb : Below w.heap.size w w') : T64 w' :=
  ⟨(hb.cell (p := ⟨1, 15, none⟩) h.lt).trans h.cell, Nat.lt_of_lt_of_le h.lt hb.size⟩
theorem tz_any (w : World) (h : T64 w) : Calls Tryz.prog 398 #[.int .u64 16] w fun e w' => e = .returned (.int .i64 4) ∧ w = w' := by
  have hc := h.cell
  clear h
  have e1 : IntKind.u64.wrap (-16) = 18446744073709551600 := by decide
  have e2 : bits .and .u64 16 18446744073709551600 = 16 := by kernel_rfl
  have e3 : IntKind.u64.wrap (16 * 285870213051353865) = 4573923408821661840 := by decide
  have e4 : IntKind.u64.wrap 4573923408821661840 = 4573923408821661840 := by decide
  go_enter Tryz.func398, Tryz.ntmps398
  go_wp2
  go_ret
  exact ⟨rfl, rfl⟩
theorem pow2_any (w : World) : Calls Tryz.prog 397 #[.int .i64 16] w fun e w' => e = .returned (.bool true) ∧ w = w' := by
  have e2 : bits .and .i64 16 15 = 0 := by kernel_rfl
  go_enter Tryz.func397, Tryz.ntmps397
  go_wp2
  go_ret
  exact ⟨rfl, rfl⟩
theorem dig_fin : ∀ d : Fin 16, (⟨#[48, 49, 50, 51, 52, 53, 54, 55, 56, 57, 97, 98, 99, 100, 101, 102, 103, 104, 105, 106, 107, 108, 109, 110, 111, 112, 113, 114, 115, 116, 117, 118, 119, 120, 121, 122]⟩ : ByteArray)[d.val]'(by have := d.isLt; show d.val < 36; omega) = hdig d.val := by decide
theorem dig_at (d : Nat) (hd : d < 16) (h : d < (⟨#[48, 49, 50, 51, 52, 53, 54, 55, 56, 57, 97, 98, 99, 100, 101, 102, 103, 104, 105, 106, 107, 108, 109, 110, 111, 112, 113, 114, 115, 116, 117, 118, 119, 120, 121, 122]⟩ : ByteArray).size) : ((⟨#[48, 49, 50, 51, 52, 53, 54, 55, 56, 57, 97, 98, 99, 100, 101, 102, 103, 104, 105, 106, 107, 108, 109, 110, 111, 112, 113, 114, 115, 116, 117, 118, 119, 120, 121, 122]⟩ : ByteArray)[d]'h).toNat = (hdig d).toNat := congrArg UInt8.toNat (dig_fin ⟨d, hd⟩)
theorem set_drop_at (l : List Nat) (j X : Nat) (h : j < l.length) : (l.set j X).drop j = X :: l.drop (j + 1) := by
  rw [List.drop_eq_getElem_cons (by simpa using h)]
  simp [List.drop_set]
set_option maxHeartbeats 4000000 in
set_option maxRecDepth 100000 in
theorem fb_any (u : Nat) (hu : u < 18446744073709551616) (w : World) (h : T64 w) :
    Calls Tryz.prog 343 #[.slice none 0 0, .int .u64 (u : Int), .int .i64 16, .bool false, .bool false] w fun e w' => e = .returned (.tuple #[.slice none 0 0, .string ⟨(hex u).toArray⟩]) ∧ Below w.heap.size w w' := by
  have CT := Lib.hid (fun W h => tz_any W h)
  have HT := Lib.hid h
  clear h
  go_enter Tryz.func343, Tryz.ntmps343
  go_wp2_with (first | (go_at_call 397; refine (pow2_any _).mono ?_; rintro e w' ⟨rfl, rfl⟩) | (go_at_call 398; refine (CT.out _ (HT.out.keep ((Below.refl _ _).alloc (Nat.le_refl _) _))).mono ?_; rintro e w' ⟨rfl, rfl⟩))
  have B1 := Lib.hid (show Below w.heap.size w (w.alloc (.cells Tryz.zeroCells368 368)) from (Below.refl _ _).alloc (Nat.le_refl _) _)
  have K1 := Lib.hid (show Blk (w.alloc (.cells Tryz.zeroCells368 368)) w.heap.size 368 .u8 (List.replicate 65 0) from Blk.new w _ .u8 (List.replicate 65 0))
  have I1 := Lib.hid (show u < 16 ^ (65 - 49) ∧ ∃ ds : List UInt8, hex u = hex u ++ ds ∧ (List.replicate 65 0).drop 65 = ds.map UInt8.toNat from ⟨by show u < 16 ^ 16; omega, [], by simp⟩)
  generalize w.alloc (.cells Tryz.zeroCells368 368) = w1 at *
  go_loopw [1, 13] (fun vu vi wr => ∃ (v i : Nat) (l : List Nat), vu = .int .u64 (v : Int) ∧ vi = .int .i64 (i : Int) ∧ i ≤ 65 ∧ 50 ≤ i ∧ v < 18446744073709551616 ∧ l.length = 65 ∧ Hid (v < 16 ^ (i - 49) ∧ ∃ ds : List UInt8, hex u = hex v ++ ds ∧ l.drop i = ds.map UInt8.toNat) ∧ Hid (Blk wr w.heap.size 368 .u8 l) ∧ Hid (Below w.heap.size w wr))
    (fun vu _ _ => (intOf vu).toNat)
  case atStart => exact ⟨u, 65, _, rfl, rfl, by omega, by omega, hu, by simp, I1, K1, B1⟩
  case round =>
    obtain ⟨v, i, l, rfl, rfl, hi1, hi2, hv, hl, HI, HB, HW⟩ := hrel
    by_cases hge : 16 ≤ v
    · have hi : 51 ≤ i := by
        by_cases e : i = 50
        · subst e; have := HI.out.1; omega
        · omega
      have hand : bits .and .u64 (v : Int) 15 = ((v % 16 : Nat) : Int) := by
        have h := u64_and_nat v 15 hv (by omega)
        rw [show ((15 : Nat) : Int) = 15 from rfl, show (15 : Nat) = 2 ^ 4 - 1 from rfl, Nat.and_two_pow_sub_one_eq_mod] at h
        exact h
      have hd : v % 16 < 16 := Nat.mod_lt _ (by omega)
      have hfz := HB.out.frozen (i - 1)
      have hst := HB.out.cell (i - 1) (by omega)
      have HN := Lib.hid (show ∀ X, X = (hdig (v % 16)).toNat → v / 16 < 16 ^ (i - 1 - 49) ∧ ∃ ds : List UInt8, hex u = hex (v / 16) ++ ds ∧ (l.set (i - 1) X).drop (i - 1) = ds.map UInt8.toNat from fun X hX => by
        obtain ⟨h1, ds, h2, h3⟩ := HI.out
        have e : i - 49 = (i - 1 - 49) + 1 := by omega
        rw [e, Nat.pow_succ, Nat.mul_comm] at h1
        refine ⟨Nat.div_lt_of_lt_mul h1, hdig (v % 16) :: ds, ?_, ?_⟩
        · rw [h2]
          conv => lhs; rw [hex, dif_neg (by omega)]
          simp
        · rw [set_drop_at l (i - 1) X (by omega), show i - 1 + 1 = i by omega, h3, hX, List.map_cons])
      generalize v % 16 = d at *
      go_wp2
      go_roundw
      case rel => exact ⟨v / 16, i - 1, l.set (i - 1) _, by congr 1, by congr 1; omega, by omega, by omega, by omega, by simp [hl], Lib.hid (HN.out _ (dig_at d hd _)), Lib.hid (HB.out.set (i - 1) _), Lib.hid (HW.out.setCell (Nat.le_refl _) _)⟩
      case measure => simp [intOf]; omega
    · have hv16 : v < 16 := by omega
      have hi49 : i - 1 < l.length := by omega
      have hfz := HB.out.frozen (i - 1)
      have hst := HB.out.cell (i - 1) (by omega)
      have HE := Lib.hid (show ∀ X, X = (hdig v).toNat → (l.set (i - 1) X).drop (i - 1) = (hex u).map UInt8.toNat from fun X hX => by
        obtain ⟨h1, ds, h2, h3⟩ := HI.out
        rw [set_drop_at l (i - 1) X (by omega), show i - 1 + 1 = i by omega, h3, hX, h2, hex, dif_pos hv16]
        rfl)
      have hsl : ∀ W, (Instr.sliceAt 368 (.pointer (some ⟨w.heap.size, 0, none⟩)) (some (.int .i64 ((i : Int) - 1))) none none).run Tryz.prog W = .ok (.slice (some ⟨w.heap.size, i - 1, none⟩) (66 - i) (66 - i)) W := fun W => by
        have hal : Tryz.prog.arrayLen 368 = 65 := by kernel_rfl
        rw [run_sliceAt_array_l W 368 ⟨w.heap.size, 0, none⟩ (by simp [Program.arrayLen, Program.elem, Tryz.underlying368]) .i64 ((i : Int) - 1) (by omega) (by rw [hal]; omega)]
        rw [hal]
        have e1 : ((i : Int) - 1).toNat = i - 1 := by omega
        have e2 : 65 - (i - 1) = 66 - i := by omega
        have hsz : ∀ W, (sizeOf (Tryz.prog.elem 368)).run Tryz.prog W = .ok 1 W := fun W => by simp [Program.elem, Tryz.underlying368]
        rw [hsz]
        simp only [Result.andThen, slicedAt, e1, e2]
        rw [if_neg (by omega), Nat.mul_one]
        rw [Lib.add_plain, Nat.zero_add]
      go_wp2
      generalize hX : ((⟨#[48, 49, 50, 51, 52, 53, 54, 55, 56, 57, 97, 98, 99, 100, 101, 102, 103, 104, 105, 106, 107, 108, 109, 110, 111, 112, 113, 114, 115, 116, 117, 118, 119, 120, 121, 122]⟩ : ByteArray)[v]'(by show v < 36; omega)).toNat = X at *
      have hX2 : X = (hdig v).toNat := by rw [← hX]; exact dig_at v hv16 _
      have HB2 := Lib.hid (HB.out.set (i - 1) X)
      have HW2 := Lib.hid (HW.out.setCell (p := ⟨w.heap.size, i - 1, none⟩) (Nat.le_refl _) (.int .u8 (X : Int)))
      have HE2 := Lib.hid (HE.out X hX2)
      have hl2 : (l.set (i - 1) X).length = 65 := by simp [hl]
      generalize l.set (i - 1) X = l2 at *
      generalize wr.setCell ⟨w.heap.size, i - 1, none⟩ (.int .u8 (X : Int)) = wz at *
      have hlen : (hex u).length = 66 - i := by
        have := congrArg List.length HE2.out
        simp at this; omega
      have hcv := run_convert_bytes_back (P := Tryz.prog) wz 237 9 5 ⟨w.heap.size, i - 1, none⟩ (66 - i) (hex u) Tryz.underlying237 Tryz.underlying5 Tryz.underlying9 (fun j hj => by
        have h1 := HB2.out.cell (i - 1 + j) (by omega)
        have h2 : Big.nth l2 (i - 1 + j) = ((hex u)[j]).toNat := by
          have h3 : (l2.drop (i - 1))[j]? = ((hex u).map UInt8.toNat)[j]? := by rw [HE2.out]
          rw [List.getElem?_drop, List.getElem?_map, List.getElem?_eq_getElem hj] at h3
          unfold Big.nth
          rw [List.getD_eq_getElem?_getD, h3]; rfl
        rw [h2] at h1
        rw [Lib.add_plain]
        exact h1)
      rw [hlen] at hcv
      clear hX hX2 hlen HB2 HE2 HE HB HW HI hsl hst hfz
      go_wp2_with (simp only [hcv])
      go_ret2
      exact ⟨rfl, HW2.out⟩
/-- strconv.FormatUint at base 16. -/
theorem fu16_any (u : Nat) (hu : u < 18446744073709551616) (w : World) (h : T64 w) :
    Calls Tryz.prog 159 #[.int .u64 (u : Int), .int .i64 16] w fun e w' => e = .returned (.string ⟨(hex u).toArray⟩) ∧ Below w.heap.size w w' := by
  have C := Lib.hid (fun W h => fb_any u hu W h)
  have HT := Lib.hid h
  clear h hu
  have D := Lib.hid (show ∀ W, T64 W → Calls Tryz.prog 247 #[.int .u64 (u : Int), .int .i64 16] W fun e w' => e = .returned (.string ⟨(hex u).toArray⟩) ∧ Below W.heap.size W w' from fun W HW => by
    have HW := Lib.hid HW
    go_enter Tryz.func247, Tryz.ntmps247
    go_wp2_with (go_at_call 343; refine (C.out _ HW.out).mono ?_; rintro e w' ⟨rfl, hb⟩)
    go_ret
    exact ⟨rfl, hb⟩)
  go_enter Tryz.func159, Tryz.ntmps159
  go_wp2_with (go_at_call 247; refine (D.out _ HT.out).mono ?_; rintro e w' ⟨rfl, hb⟩)
  go_ret
  exact ⟨rfl, hb⟩
end Go.Proofs.YtgcgmplepcfbaaaGreatDoor
/- strings.Repeat of a nought. -/
namespace Go.Proofs.YtgcgmplepcfbaaaGreatDoor
open Go.RowKit

set_option maxHeartbeats 4000000 in
set_option maxRecDepth 100000 in
theorem rep_any (k : Nat) (hk : k ≤ 15) (w : World) : Calls Tryz.prog 161 #[.string ⟨#[48]⟩, .int .i64 (k : Int)] w fun e w' => e = .returned (.string ⟨(List.replicate k 48).toArray⟩) ∧ w = w' := by
  have h0 : ((⟨#[48]⟩ : ByteArray)[0]).toNat = 48 := rfl
  have p1 : ∀ l, Lib.hasPrefix (32 :: l) [48] = false := fun _ => rfl
  have p2 : ∀ l, Lib.hasPrefix (45 :: l) [48] = false := fun _ => rfl
  have p3 : ∀ l, Lib.hasPrefix (48 :: l) [48] = true := fun l => by simp [Lib.hasPrefix]
  have hc : k = 0 ∨ k = 1 ∨ k = 2 ∨ k = 3 ∨ k = 4 ∨ k = 5 ∨ k = 6 ∨ k = 7 ∨ k = 8 ∨ k = 9 ∨ k = 10 ∨ k = 11 ∨ k = 12 ∨ k = 13 ∨ k = 14 ∨ k = 15 := by omega
  rcases hc with rfl | rfl | rfl | rfl | rfl | rfl | rfl | rfl | rfl | rfl | rfl | rfl | rfl | rfl | rfl | rfl
  all_goals
    go_enter Tryz.func161, Tryz.ntmps161
    go_wp2_with (first | (go_at_call 248; refine (Tryz.bits_Mul 1 _ (by decide) (by decide) _).mono ?_; rintro e w' ⟨rfl, rfl⟩) | (go_at_call 249; refine (Tryz.strings_HasPrefix _ _ _).mono ?_; rintro e w' ⟨rfl, rfl⟩))
    go_ret
    exact ⟨by kernel_rfl, rfl⟩
end Go.Proofs.YtgcgmplepcfbaaaGreatDoor
/- package grain: Text. -/
namespace Go.Proofs.YtgcgmplepcfbaaaGreatDoor
open Go.RowKit Ieee Fl Hx

def NANB : Nat := 9221120237041090561
/-- The bits that are told. -/
def bo (v : Nat) : Nat := if nanB v = true then NANB else v
theorem bo_lt {v : Nat} (h : v < 18446744073709551616) : bo v < 18446744073709551616 := by unfold bo; split <;> first | exact h | decide
theorem bitsOf_any {x : Nat} (w : World) : Calls Tryz.prog 160 #[.float .f64 x] w fun e w' => e = .returned (.int .u64 (bo x : Int)) ∧ w = w' := by
  unfold bo
  by_cases h : IsN x
  · rw [nanB_no h]
    go_enter Tryz.func160, Tryz.ntmps160
    go_wp2_with (go_at_call 51; refine (isNaN_no h _).mono ?_; rintro e w' ⟨rfl, rfl⟩)
    go_ret
    exact ⟨rfl, rfl⟩
  · rw [nanB_yes h]
    go_enter Tryz.func160, Tryz.ntmps160
    go_wp2_with (go_at_call 51; refine (isNaN_yes h _).mono ?_; rintro e w' ⟨rfl, rfl⟩)
    go_ret
    exact ⟨rfl, rfl⟩
set_option maxRecDepth 100000 in
set_option maxHeartbeats 1000000 in
theorem ftext_any {v : Nat} (hv : v < 18446744073709551616) (w : World) (h : T64 w) : Calls Tryz.prog 56 #[.float .f64 v] w fun e w' => e = .returned (.string ⟨(hexk 16 (bo v)).toArray⟩) ∧ Below w.heap.size w w' := by
  have hb := bo_lt hv
  obtain ⟨l1, l2, l3⟩ := hex_pad 16 (bo v) (by omega) (by show bo v < 16 ^ 16; omega)
  have CB := Lib.hid (fun W => bitsOf_any (x := v) W)
  have CF := Lib.hid (fun W h => fu16_any (bo v) hb W h)
  have HT := Lib.hid h
  generalize bo v = u at *
  have HL := Lib.hid l3
  have hsz : (⟨(hex u).toArray⟩ : ByteArray).size = (hex u).length := by simp [ByteArray.size]
  have CR := Lib.hid (show ∀ W : World, Calls Tryz.prog 161 #[.string ⟨#[48]⟩, .int .i64 (16 - ((hex u).length : Int))] W fun e w' => e = .returned (.string ⟨(List.replicate (16 - (hex u).length) 48).toArray⟩) ∧ W = w' from fun W => by
    have c := rep_any (16 - (hex u).length) (by omega) W
    rw [show ((16 - (hex u).length : Nat) : Int) = 16 - ((hex u).length : Int) by omega] at c
    exact c)
  have HA := Lib.hid (show (⟨Array.replicate (16 - (hex u).length) 48⟩ : ByteArray) ++ ⟨(hex u).toArray⟩ = ⟨(hexk 16 u).toArray⟩ by
    rw [← HL.out]; simp [ByteArray.ext_iff])
  clear h l3 hb hv
  go_enter Tryz.func56, Tryz.ntmps56
  go_wp2_with (first | (go_at_call 160; (with_reducible refine (CB.out _).mono ?_); rintro e w' ⟨rfl, rfl⟩) | (go_at_call 159; (with_reducible refine (CF.out _ HT.out).mono ?_); rintro e w' ⟨rfl, hb⟩) | (go_at_call 161; (with_reducible refine (CR.out _).mono ?_); rintro e w' ⟨rfl, rfl⟩))
  go_ret
  exact ⟨congrArg (fun s => Ending.returned (Value.string s)) HA.out, hb⟩
end Go.Proofs.YtgcgmplepcfbaaaGreatDoor
/- internal/strconv.ParseUint of sixteen digits, base 16. -/
namespace Go.Proofs.YtgcgmplepcfbaaaGreatDoor
open Go.RowKit Hx

theorem low_bits_u (c : UInt8) : bits .or .u8 (c.toNat : Int) 32 = (((c ||| 32).toNat : Nat) : Int) := by
  have h := u8_or_nat c.toNat 32 c.toNat_lt (by omega)
  rw [show ((32 : Nat) : Int) = 32 from rfl] at h
  rw [h, UInt8.toNat_or]; rfl
def puTuple : Option Nat → Value
  | some n => .tuple #[.int .u64 n, .nilIface]
  | none => .tuple #[.int .u64 0, .iface 326 (.int .i64 2)]
theorem letter_gt : ∀ c : UInt8, 97 ≤ (c ||| 32).toNat → (c ||| 32).toNat ≤ 102 → 57 < c.toNat ∧ c.toNat ≠ 95 := by
  intro c h1 h2
  have key : ∀ n : Fin 256, 97 ≤ (UInt8.ofNat n.val ||| 32).toNat → (UInt8.ofNat n.val ||| 32).toNat ≤ 102 → 57 < (UInt8.ofNat n.val).toNat ∧ (UInt8.ofNat n.val).toNat ≠ 95 := by decide +kernel
  have e : UInt8.ofNat c.toNat = c := by simp
  have := key ⟨c.toNat, c.toNat_lt⟩
  rw [e] at this
  exact this h1 h2
theorem pow_le_cut {k : Nat} (h : k < 16) : 16 ^ k ≤ 1152921504606846976 := by
  have := Nat.pow_le_pow_right (n := 16) (by omega) (show k ≤ 15 by omega)
  exact this
set_option maxHeartbeats 32000000 in
set_option maxRecDepth 100000 in
theorem pu_any (t : ByteArray) (hn : t.size = 16) (w : World) :
    Calls Tryz.prog 245 #[.string t, .int .i64 16, .int .i64 64] w fun e w' => e = .returned (puTuple (hxv 0 t.data.toList)) ∧ Below w.heap.size w w' := by
  have hBB := Lib.hid (Lib.bytesWorld_below w 5 t)
  have hemp : t.toList.isEmpty = false := by
    rw [← decide_eq_emptyBytes]
    exact decide_eq_false (fun h => by rw [h] at hn; exact absurd hn (by decide))
  have hcv := Lib.run_convert_string_bytes (P := Tryz.prog) w 9 237 5 t (u := .string) Tryz.underlying9 Tryz.underlying237 Tryz.underlying5
  have hB : ∀ j, j < t.size → (Lib.bytesWorld w 5 t).cell? ⟨w.heap.size, j, none⟩ = some (.int .u8 (t.data.toList.getD j 0).toNat) := fun j hj => Lib.bytesWorld_cell w 5 t j hj
  obtain ⟨W1, hW1⟩ : ∃ W1, W1 = Lib.bytesWorld w 5 t := ⟨_, rfl⟩
  rw [← hW1] at hcv hB hBB
  clear hW1
  obtain ⟨bs, hL⟩ : ∃ bs, bs = t.data.toList := ⟨_, rfl⟩
  have hLn : bs.length = 16 := by rw [hL, ← hn, Lib.size_eq]
  rw [← hL] at hB ⊢
  clear hL
  rw [hn] at hcv hB
  have hmv : IntKind.u64.wrap (IntKind.u64.wrap 18446744073709551616 - 1) = 18446744073709551615 := by
    rw [IntKind.wrap_u64, IntKind.wrap_u64]
    decide
  go_enter Tryz.func245, Tryz.ntmps245
  go_wp2
  go_loop [12, 13, 101] (fun vu vn vi => ∃ (k acc : Nat) (a : Int), vu = .bool false ∧ vn = .int .u64 a ∧ vi = .int .i64 k ∧ k ≤ 16 ∧ Hid (a = (acc : Int) ∧ acc < 16 ^ k ∧ hxv 0 bs = hxv acc (bs.drop k)))
    (fun _ _ vi => 16 - (intOf vi).toNat)
  case atStart => exact ⟨0, 0, 0, rfl, rfl, rfl, by omega, Lib.hid ⟨rfl, by decide, rfl⟩⟩
  case round =>
    obtain ⟨k, acc, a, rfl, rfl, rfl, hk, hh⟩ := hrel
    obtain ⟨ha, hacc, hdec⟩ := hh.out
    clear hh
    by_cases hkn : k < 16
    · have hc := hB k hkn
      have hdrop : bs.drop k = bs[k]'(by omega) :: bs.drop (k + 1) := List.drop_eq_getElem_cons (by omega)
      have hget : bs.getD k 0 = bs[k]'(by omega) := by simp [List.getD, List.getElem?_eq_getElem (show k < bs.length by omega)]
      rw [hdrop] at hdec
      rw [hget] at hc
      generalize bs[k]'(by omega) = c at hc hdec
      have hcut := pow_le_cut hkn
      have a0 : 0 ≤ a := by omega
      have a1 : a < 1152921504606846976 := by omega
      have hpow : 16 ^ (k + 1) = 16 ^ k * 16 := Nat.pow_succ _ _
      clear hB hdrop hget
      have hlow := low_bits_u c
      have hgt := letter_gt c
      have hl256 : (c ||| 32).toNat < 256 := (c ||| 32).toNat_lt
      have hc256 : c.toNat < 256 := c.toNat_lt
      have HD : hd c = if 48 ≤ c.toNat ∧ c.toNat ≤ 57 then some (c.toNat - 48) else if 97 ≤ (c ||| 32).toNat ∧ (c ||| 32).toNat ≤ 102 then some ((c ||| 32).toNat - 87) else none := rfl
      have hstep : hxv acc (c :: bs.drop (k + 1)) = match hd c with | none => none | some d => hxv (acc * 16 + d) (bs.drop (k + 1)) := rfl
      generalize hd c = v at HD hstep
      generalize (c ||| 32).toNat = l at *
      generalize c.toNat = m at *
      by_cases hdig : 48 ≤ m ∧ m ≤ 57
      · obtain ⟨hd0, hd1⟩ := hdig
        rw [if_pos ⟨hd0, hd1⟩] at HD
        subst HD
        have HN := Lib.hid (show a * 16 + ((m : Int) - 48) = ((acc * 16 + (m - 48) : Nat) : Int) ∧ acc * 16 + (m - 48) < 16 ^ (k + 1) ∧ hxv 0 bs = hxv (acc * 16 + (m - 48)) (bs.drop (k + 1)) from ⟨by omega, by omega, hdec.trans hstep⟩)
        have iov : a * 16 + ((m : Int) - 48) < 18446744073709551616 := by omega
        clear hdec hstep hacc ha hpow hcut hlow hgt hl256
        go_wp2
        go_round
        case rel => exact ⟨k + 1, _, _, rfl, rfl, by go_num, by omega, HN⟩
        case measure => simp [intOf]; omega
      · have hside : m < 48 ∨ 57 < m := by omega
        rw [if_neg hdig] at HD
        by_cases hlet : 97 ≤ l ∧ l ≤ 102
        · obtain ⟨hl0, hl1⟩ := hlet
          rw [if_pos ⟨hl0, hl1⟩] at HD
          subst HD
          obtain ⟨h57, hne⟩ := hgt hl0 hl1
          have t95 : ((m : Int) == 95) = false := beq_eq_false_iff_ne.2 (by omega)
          have h48 : ¬ m < 48 := by omega
          have h95 : 48 ≤ m := by omega
          have HN := Lib.hid (show a * 16 + ((l : Int) - 97 + 10) = ((acc * 16 + (l - 87) : Nat) : Int) ∧ acc * 16 + (l - 87) < 16 ^ (k + 1) ∧ hxv 0 bs = hxv (acc * 16 + (l - 87)) (bs.drop (k + 1)) from ⟨by omega, by omega, hdec.trans hstep⟩)
          have iov : a * 16 + ((l : Int) - 97 + 10) < 18446744073709551616 := by omega
          clear hdec hstep hacc ha hpow hcut hgt hl256 hdig hside hne
          go_wp2_with (go_at_call 334; refine (Tryz.internal_strconv_lower _ _).mono ?_; rintro e w' ⟨rfl, rfl⟩)
          go_round
          case rel => exact ⟨k + 1, _, _, rfl, rfl, by go_num, by omega, HN⟩
          case measure => simp [intOf]; omega
        · have hdec2 : hxv 0 bs = none := by rw [hdec, hstep, HD, if_neg hlet]
          have HDEC := Lib.hid hdec2
          clear hdec hdec2 hstep hacc ha hpow hcut hgt hdig HD
          have hcl : l < 97 ∨ (103 ≤ l ∧ l ≤ 122) ∨ 122 < l := by omega
          clear hlet
          rcases hside with hs | hs <;> rcases hcl with hl | ⟨hl, hl2⟩ | hl
          all_goals
            go_wp2_with (go_at_call 334; refine (Tryz.internal_strconv_lower _ _).mono ?_; rintro e w' ⟨rfl, rfl⟩)
            all_goals go_ret2
            all_goals exact ⟨by rw [HDEC.out]; rfl, hBB.out⟩
    · have hkk : k = 16 := by omega
      subst hkk
      have hF : hxv acc (bs.drop 16) = some acc := by rw [List.drop_eq_nil_of_le (by omega)]; rfl
      rw [hF] at hdec
      subst ha
      have HDEC := Lib.hid hdec
      clear hacc hF hB hdec
      go_wp2
      go_ret2
      exact ⟨by rw [HDEC.out]; rfl, hBB.out⟩
end Go.Proofs.YtgcgmplepcfbaaaGreatDoor
/- strconv.ParseUint of sixteen digits; package grain: Parse. -/
namespace Go.Proofs.YtgcgmplepcfbaaaGreatDoor
open Go.RowKit Ieee Fl Hx

/-- What an error of strconv's holds. -/
structure ES (w : World) : Prop where
  cell : ∃ ev, w.cell? ⟨4, 0, none⟩ = some ev ∧ (ev = .nilIface ∨ ∃ te pe, ev = .iface te pe)
  lt : 4 < w.heap.size
theorem ES.keep {w w' : World} (h : ES w) (hb : Below w.heap.size w w') : ES w' := by
  obtain ⟨ev, h1, h2⟩ := h.cell
  exact ⟨⟨ev, (hb.cell (p := ⟨4, 0, none⟩) h.lt).trans h1, h2⟩, Nat.lt_of_lt_of_le h.lt hb.size⟩
theorem pub_good (t : ByteArray) (hn : t.size = 16) (n : Nat) (h : hxv 0 t.data.toList = some n) (w : World) :
    Calls Tryz.prog 158 #[.string t, .int .i64 16, .int .i64 64] w fun e w' => e = .returned (.tuple #[.int .u64 n, .nilIface]) ∧ Below w.heap.size w w' := by
  have C := Lib.hid (show ∀ W, Calls Tryz.prog 245 #[.string t, .int .i64 16, .int .i64 64] W fun e w' => e = .returned (.tuple #[.int .u64 n, .nilIface]) ∧ Below W.heap.size W w' from fun W => by
    have c := pu_any t hn W; rw [h] at c; exact c)
  clear h hn
  go_enter Tryz.func158, Tryz.ntmps158
  go_wp2_with (go_at_call 245; (with_reducible refine (C.out _).mono ?_); rintro e w' ⟨rfl, hb⟩)
  go_ret2
  exact ⟨rfl, hb⟩
def BadPost (w : World) (e : Ending) (w' : World) : Prop := ∃ x : Addr, e = .returned (.tuple #[.int .u64 0, .iface 328 (.pointer (some x))]) ∧ Below w.heap.size w w'
theorem pub_bad (t : ByteArray) (hn : t.size = 16) (h : hxv 0 t.data.toList = none) (w : World) (hES : ES w) :
    Calls Tryz.prog 158 #[.string t, .int .i64 16, .int .i64 64] w (BadPost w) := by
  have C := Lib.hid (show ∀ W, Calls Tryz.prog 245 #[.string t, .int .i64 16, .int .i64 64] W fun e w' => e = .returned (.tuple #[.int .u64 0, .iface 326 (.int .i64 2)]) ∧ Below W.heap.size W w' from fun W => by
    have c := pu_any t hn W; rw [h] at c; exact c)
  have HE := Lib.hid hES
  have D := Lib.hid (show ∀ W (fn : ByteArray), ES W → Calls Tryz.prog 246 #[.string fn, .string t, .int .i64 16, .int .i64 64, .iface 326 (.int .i64 2)] W fun e w' => ∃ N, e = .returned (.iface 328 (.pointer (some ⟨N, 0, none⟩))) ∧ Below W.heap.size W w' from fun W fn hW => by
    obtain ⟨ev, h1, h2⟩ := hW.cell
    exact (Tryz.strconv_toError_syntax fn t 16 64 ev W (by omega) h1 h2).mono fun _ _ ⟨N, e1, _, _, e2⟩ => ⟨N, e1, e2⟩)
  clear h hn hES
  go_enter Tryz.func158, Tryz.ntmps158
  go_wp2_with (first | (go_at_call 245; (with_reducible refine (C.out _).mono ?_); rintro e w2 ⟨rfl, hb⟩) | (go_at_call 246; (with_reducible refine (D.out _ _ (HE.out.keep hb)).mono ?_); rintro e w3 ⟨N, rfl, hb3⟩))
  go_ret2
  exact ⟨_, rfl, hb.trans (hb3.mono hb.size)⟩

theorem parse_len (t : ByteArray) (hn : t.size ≠ 16) (w : World) : Calls Tryz.prog 55 #[.string t] w fun e w' => e = .returned (.tuple #[.float .f64 0, .int .i64 6]) ∧ w = w' := by
  have h1 : ((t.size : Int) != 16) = true := by simp; omega
  go_enter Tryz.func55, Tryz.ntmps55
  go_wp2
  go_ret2
  exact ⟨rfl, rfl⟩
theorem parse_bad (t : ByteArray) (hn : t.size = 16) (h : hxv 0 t.data.toList = none) (w : World) (hES : ES w) : Calls Tryz.prog 55 #[.string t] w fun e w' => e = .returned (.tuple #[.float .f64 0, .int .i64 6]) ∧ Below w.heap.size w w' := by
  have h1 : ((t.size : Int) != 16) = false := by simp; omega
  have C := Lib.hid (fun W h' => pub_bad t hn h W h')
  have HE := Lib.hid hES
  clear h hn hES
  go_enter Tryz.func55, Tryz.ntmps55
  go_wp2_with (go_at_call 158; (with_reducible refine (C.out _ HE.out).mono ?_); rintro e w2 ⟨x, rfl, hb⟩)
  go_ret2
  exact ⟨rfl, hb⟩
theorem hxv_lt (l : List UInt8) (a b : Nat) (h : hxv a l = some b) : b < (a + 1) * 16 ^ l.length := by
  induction l generalizing a with
  | nil => cases h; simp
  | cons c r ih =>
    unfold hxv at h
    cases hc : hd c with
    | none => rw [hc] at h; cases h
    | some d =>
      rw [hc] at h
      have h1 := ih _ h
      have h2 := hd_lt hc
      have h3 : (a * 16 + d + 1) * 16 ^ r.length ≤ ((a + 1) * 16) * 16 ^ r.length := Nat.mul_le_mul_right _ (by omega)
      rw [List.length_cons, Nat.pow_succ, Nat.mul_comm (16 ^ _) 16, ← Nat.mul_assoc]; omega
theorem val_lt {t : ByteArray} (hn : t.size = 16) {n : Nat} (h : hxv 0 t.data.toList = some n) : n < 18446744073709551616 := by
  have h1 := hxv_lt _ _ _ h
  rw [show t.data.toList.length = 16 by rw [← hn]; rfl] at h1
  have : (0 + 1) * 16 ^ 16 = 18446744073709551616 := by decide
  omega
/-- The text that the value tells. -/
def told (n : Nat) : ByteArray := ⟨(hexk 16 (bo n)).toArray⟩
theorem str_ne {s t : ByteArray} (h : s ≠ t) : (s.toList == t.toList) = false := by
  rw [beq_eq_false_iff_ne]
  intro e
  apply h
  rw [Lib.toList_data, Lib.toList_data] at e
  cases s; cases t
  simpa using e
theorem parse_other (t : ByteArray) (hn : t.size = 16) (n : Nat) (h : hxv 0 t.data.toList = some n) (he : told n ≠ t) (w : World) (hT : T64 w) : Calls Tryz.prog 55 #[.string t] w fun e w' => e = .returned (.tuple #[.float .f64 0, .int .i64 6]) ∧ Below w.heap.size w w' := by
  have hlt := val_lt hn h
  have h1 : ((t.size : Int) != 16) = false := by simp; omega
  have C := Lib.hid (fun W => pub_good t hn n h W)
  have D := Lib.hid (show ∀ W, T64 W → Calls Tryz.prog 56 #[.float .f64 n] W fun e w' => e = .returned (.string (told n)) ∧ Below W.heap.size W w' from fun W hW => ftext_any hlt W hW)
  have HT := Lib.hid hT
  have hd := str_ne he
  generalize told n = s at *
  clear h hn hT hlt he
  go_enter Tryz.func55, Tryz.ntmps55
  go_wp2_with (first | (go_at_call 158; (with_reducible refine (C.out _).mono ?_); rintro e w2 ⟨rfl, hb⟩) | (go_at_call 56; (with_reducible refine (D.out _ (HT.out.keep hb)).mono ?_); rintro e w3 ⟨rfl, hb3⟩))
  go_ret2
  exact ⟨rfl, hb.trans (hb3.mono hb.size)⟩
theorem parse_same (n : Nat) (t : ByteArray) (hn : t.size = 16) (h : hxv 0 t.data.toList = some n) (he : told n = t) (w : World) (hT : T64 w) : Calls Tryz.prog 55 #[.string t] w fun e w' => e = .returned (.tuple #[.float .f64 n, .int .i64 0]) ∧ Below w.heap.size w w' := by
  have hlt := val_lt hn h
  have h1 : ((t.size : Int) != 16) = false := by simp; omega
  have C := Lib.hid (fun W => pub_good t hn n h W)
  have D := Lib.hid (show ∀ W, T64 W → Calls Tryz.prog 56 #[.float .f64 n] W fun e w' => e = .returned (.string t) ∧ Below W.heap.size W w' from fun W hW => he ▸ ftext_any hlt W hW)
  have HT := Lib.hid hT
  have hd : decide (t = t) = true := decide_eq_true rfl
  clear h hn hT hlt he
  go_enter Tryz.func55, Tryz.ntmps55
  go_wp2_with (first | (go_at_call 158; (with_reducible refine (C.out _).mono ?_); rintro e w2 ⟨rfl, hb⟩) | (go_at_call 56; (with_reducible refine (D.out _ (HT.out.keep hb)).mono ?_); rintro e w3 ⟨rfl, hb3⟩))
  go_ret2
  exact ⟨rfl, hb.trans (hb3.mono hb.size)⟩
end Go.Proofs.YtgcgmplepcfbaaaGreatDoor
/- package grain: texts come back; diapasonlaw03: finite. -/
namespace Go.Proofs.YtgcgmplepcfbaaaGreatDoor
open Go.RowKit Ieee Fl Hx

theorem bo_bo (v : Nat) : bo (bo v) = bo v := by
  unfold bo
  by_cases h : nanB v = true
  · rw [if_pos h]; decide
  · rw [if_neg h, if_neg h]
theorem told_data' (n : Nat) : (told n).data.toList = hexk 16 (bo n) := by unfold told; simp
theorem told_size (n : Nat) : (told n).size = 16 := by
  show (told n).data.size = 16
  rw [← Array.length_toList, told_data', hexk_len]
theorem parse_told {v : Nat} (hv : v < 18446744073709551616) (w : World) (hT : T64 w) : Calls Tryz.prog 55 #[.string (told v)] w fun e w' => e = .returned (.tuple #[.float .f64 (bo v), .int .i64 0]) ∧ Below w.heap.size w w' := by
  refine parse_same (bo v) (told v) (told_size v) ?_ ?_ w hT
  · rw [told_data']
    exact (hexk_read 16 (bo v) (by have := bo_lt hv; show bo v < 16 ^ 16; omega)).2
  · unfold told; rw [bo_bo]
theorem same_bo {v : Nat} (w : World) : Calls Tryz.prog 57 #[.float .f64 v, .float .f64 (bo v)] w fun e w' => e = .returned (.bool true) ∧ w = w' := by
  have c1 := fun W => bitsOf_any (x := v) W
  have c2 := fun W => bo_bo v ▸ bitsOf_any (x := bo v) W
  generalize bo v = u at *
  have h1 := Lib.hid c1; have h2 := Lib.hid c2
  clear c1 c2
  go_enter Tryz.func57, Tryz.ntmps57
  go_wp2_with (go_at_call 160; (first | with_reducible refine (h1.out _).mono ?_ | with_reducible refine (h2.out _).mono ?_); rintro e w' ⟨rfl, rfl⟩)
  go_ret
  exact ⟨rfl, rfl⟩
theorem fin_yes {x : Nat} (hx : x < 18446744073709551616) (h : FinW x) (w : World) : Calls Tryz.prog 59 #[.float .f64 x] w fun e w' => e = .returned (.bool true) ∧ w = w' := by
  go_enter Tryz.func59, Tryz.ntmps59
  go_wp2_with (first | (go_at_call 52; refine (isInf_fin hx h _).mono ?_; rintro e w' ⟨rfl, rfl⟩) | (go_at_call 51; refine (isNaN_no (Nat.le_of_lt h) _).mono ?_; rintro e w' ⟨rfl, rfl⟩))
  go_ret
  exact ⟨rfl, rfl⟩
theorem fin_inf {x : Nat} (hx : x < 18446744073709551616) (h : rg x = INF) (w : World) : Calls Tryz.prog 59 #[.float .f64 x] w fun e w' => e = .returned (.bool false) ∧ w = w' := by
  have hn : IsN x := by unfold IsN; omega
  go_enter Tryz.func59, Tryz.ntmps59
  go_wp2_with (first | (go_at_call 52; refine (isInf_inf hx h _).mono ?_; rintro e w' ⟨rfl, rfl⟩) | (go_at_call 51; refine (isNaN_no hn _).mono ?_; rintro e w' ⟨rfl, rfl⟩))
  go_ret
  exact ⟨rfl, rfl⟩
theorem fin_nan {x : Nat} (h : ¬ IsN x) (w : World) : Calls Tryz.prog 59 #[.float .f64 x] w fun e w' => e = .returned (.bool false) ∧ w = w' := by
  go_enter Tryz.func59, Tryz.ntmps59
  go_wp2_with (go_at_call 51; refine (isNaN_yes h _).mono ?_; rintro e w' ⟨rfl, rfl⟩)
  go_ret
  exact ⟨rfl, rfl⟩
theorem fin_no {x : Nat} (hx : x < 18446744073709551616) (h : ¬ FinW x) (w : World) : Calls Tryz.prog 59 #[.float .f64 x] w fun e w' => e = .returned (.bool false) ∧ w = w' := by
  by_cases hn : IsN x
  · rcases fin_or hn with h1 | h1
    · exact absurd h1 h
    · exact fin_inf hx h1 w
  · exact fin_nan hn w
end Go.Proofs.YtgcgmplepcfbaaaGreatDoor
/- exact: the parts of what a float is worth; which unit Number.Float takes. -/
namespace Go.Proofs.YtgcgmplepcfbaaaGreatDoor
open Go.RowKit Ieee Fl

theorem worth_parts {x : Nat} : Big.nu (worth x) * P74 = V (rg x) * Big.de (worth x) ∧ Big.de (worth x) ≠ 0 := by
  have hd : (worth x).den ≠ 0 := (worth x).den_nz
  have h : mkRat (worth x).num (worth x).den = mkRat (sv x) P74 := Rat.mkRat_self (worth x)
  rw [Rat.mkRat_eq_iff hd (by have := P74_pos; omega)] at h
  refine ⟨?_, hd⟩
  have h2 := congrArg Int.natAbs h
  rw [Int.natAbs_mul, Int.natAbs_mul, Int.natAbs_natCast, Int.natAbs_natCast, sv_natAbs] at h2
  exact h2
theorem log_lt {n d a b : Nat} {L : Int} (h : IsLog n d L) (hab : n * 2 ^ a < d * 2 ^ b) : L < (b : Int) - a := by
  rcases Int.lt_or_le L ((b : Int) - a) with h1 | h1
  · exact h1
  · exfalso
    have h2 := (lg_cmp (n := n) (d := d) (a := a) (b := (a + L).toNat) (k := L) (by omega)).2 (Nat.lt_of_lt_of_le hab (Nat.mul_le_mul_left _ (Nat.pow_le_pow_right (by omega) (by omega))))
    have := h.1
    omega
theorem log_ge {n d a b : Nat} {L : Int} (h : IsLog n d L) (hab : d * 2 ^ b ≤ n * 2 ^ a) : (b : Int) - a ≤ L := by
  rcases Int.lt_or_le L ((b : Int) - a) with h1 | h1
  · exfalso
    have h2 := (lg_cmp (n := n) (d := d) (a := (b - (L + 1)).toNat) (b := b) (k := L + 1) (by omega)).1 h.2
    have h3 : n * 2 ^ a ≤ n * 2 ^ (b - (L + 1)).toNat := Nat.mul_le_mul_left _ (Nat.pow_le_pow_right (by omega) (by omega))
    omega
  · exact h1
theorem worth_lt {x a b : Nat} (h : V (rg x) * 2 ^ a < P74 * 2 ^ b) : Big.nu (worth x) * 2 ^ a < Big.de (worth x) * 2 ^ b := by
  obtain ⟨h1, h2⟩ := worth_parts (x := x)
  apply Nat.lt_of_mul_lt_mul_right (a := P74)
  calc Big.nu (worth x) * 2 ^ a * P74 = Big.de (worth x) * (V (rg x) * 2 ^ a) := by rw [Nat.mul_right_comm, h1, Nat.mul_right_comm, Nat.mul_comm]
    _ < Big.de (worth x) * (P74 * 2 ^ b) := Nat.mul_lt_mul_of_pos_left h (by omega)
    _ = Big.de (worth x) * 2 ^ b * P74 := by rw [Nat.mul_assoc, Nat.mul_comm P74]
theorem worth_ge {x a b : Nat} (h : P74 * 2 ^ b ≤ V (rg x) * 2 ^ a) : Big.de (worth x) * 2 ^ b ≤ Big.nu (worth x) * 2 ^ a := by
  obtain ⟨h1, h2⟩ := worth_parts (x := x)
  apply Nat.le_of_mul_le_mul_right (c := P74) _ P74_pos
  calc Big.de (worth x) * 2 ^ b * P74 = Big.de (worth x) * (P74 * 2 ^ b) := by rw [Nat.mul_assoc, Nat.mul_comm P74]
    _ ≤ Big.de (worth x) * (V (rg x) * 2 ^ a) := Nat.mul_le_mul_left _ h
    _ = Big.nu (worth x) * 2 ^ a * P74 := by rw [Nat.mul_right_comm (Big.nu (worth x)), h1, Nat.mul_right_comm, Nat.mul_comm]
theorem worth_unit {x : Nat} (h0 : 0 < rg x) : max (lgQ (Big.nu (worth x)) (Big.de (worth x)) - 53 + 1) (-1074) = (eo (rg x) : Int) - 1074 := by
  obtain ⟨p1, p2⟩ := worth_parts (x := x)
  have hV := V_lt h0
  rw [V_zero] at hV
  have hn : Big.nu (worth x) ≠ 0 := by
    intro e; rw [e, Nat.zero_mul] at p1
    rcases Nat.mul_eq_zero.1 p1.symm with h | h
    · omega
    · exact p2 h
  have HL := lgQ_is hn p2
  generalize lgQ (Big.nu (worth x)) (Big.de (worth x)) = L at *
  obtain ⟨c1, c2⟩ := cnt_is (rg x)
  have up : V (rg x) * 2 ^ E74 < P74 * 2 ^ (eo (rg x) + 53) := by
    rw [c1, Nat.mul_comm, show P74 = 2 ^ E74 from rfl]
    refine Nat.mul_lt_mul_of_pos_left ?_ (Nat.pow_pos (by omega))
    rw [Nat.pow_add, Nat.mul_comm]
    exact Nat.mul_lt_mul_of_pos_left c2 (Nat.pow_pos (by omega))
  have u1 := log_lt HL (worth_lt up)
  rw [E74_eq] at u1
  by_cases hr : rg x < 4503599627370496
  · have he : eo (rg x) = 0 := by unfold eo; rw [Nat.div_eq_of_lt hr]
    have hVr : V (rg x) = rg x := by unfold V; rw [if_pos hr]
    have up2 : V (rg x) * 2 ^ E74 < P74 * 2 ^ 52 := by
      rw [hVr, Nat.mul_comm, show P74 = 2 ^ E74 from rfl]
      exact Nat.mul_lt_mul_of_pos_left hr (Nat.pow_pos (by omega))
    have u2 := log_lt HL (worth_lt up2)
    rw [E74_eq] at u2
    rw [he]
    omega
  · have hc : 4503599627370496 ≤ cnt (rg x) := by unfold cnt; rw [if_neg hr]; omega
    have lo : P74 * 2 ^ (eo (rg x) + 52) ≤ V (rg x) * 2 ^ E74 := by
      rw [c1, Nat.mul_comm (_ * _), show P74 = 2 ^ E74 from rfl]
      refine Nat.mul_le_mul_left _ ?_
      rw [Nat.pow_add, Nat.mul_comm]
      exact Nat.mul_le_mul_right _ hc
    have u3 := log_ge HL (worth_ge lo)
    rw [E74_eq] at u3
    omega
theorem exp_eq (e : Nat) : e + (-((e : Int) - 1074)).toNat = ((e : Int) - 1074).toNat + E74 := by
  have h : E74 = 1074 := rfl
  generalize E74 = T at *
  omega
theorem worth_near {x : Nat} : nearQ (Big.nu (worth x) * 2 ^ (-((eo (rg x) : Int) - 1074)).toNat) (Big.de (worth x) * 2 ^ ((eo (rg x) : Int) - 1074).toNat) = cnt (rg x) ∧
    Big.nu (worth x) * 2 ^ (-((eo (rg x) : Int) - 1074)).toNat = cnt (rg x) * (Big.de (worth x) * 2 ^ ((eo (rg x) : Int) - 1074).toNat) := by
  obtain ⟨p1, p2⟩ := worth_parts (x := x)
  obtain ⟨c1, c2⟩ := cnt_is (rg x)
  have key : Big.nu (worth x) * 2 ^ (-((eo (rg x) : Int) - 1074)).toNat = cnt (rg x) * (Big.de (worth x) * 2 ^ ((eo (rg x) : Int) - 1074).toNat) := by
    apply Nat.eq_of_mul_eq_mul_right P74_pos
    rw [Nat.mul_right_comm, p1, c1]
    generalize Big.de (worth x) = D
    generalize cnt (rg x) = C
    have hp : 2 ^ eo (rg x) * 2 ^ (-((eo (rg x) : Int) - 1074)).toNat = 2 ^ ((eo (rg x) : Int) - 1074).toNat * P74 := by
      unfold P74
      rw [← Nat.pow_add, ← Nat.pow_add, exp_eq]
    generalize 2 ^ eo (rg x) = A at *
    generalize 2 ^ (-((eo (rg x) : Int) - 1074)).toNat = B at *
    generalize 2 ^ ((eo (rg x) : Int) - 1074).toNat = U at *
    generalize P74 = P at *
    calc C * A * D * B = C * D * (A * B) := by simp [Nat.mul_comm, Nat.mul_left_comm]
      _ = C * (D * U) * P := by rw [hp]; simp [Nat.mul_comm, Nat.mul_left_comm]
  refine ⟨?_, key⟩
  rw [key]
  have hpos : 0 < Big.de (worth x) * 2 ^ ((eo (rg x) : Int) - 1074).toNat := Nat.mul_pos (by omega) (Nat.pow_pos (by omega))
  generalize Big.de (worth x) * 2 ^ ((eo (rg x) : Int) - 1074).toNat = D at *
  unfold nearQ
  rw [Nat.mul_mod_left, Nat.mul_div_cancel _ hpos, if_neg (by omega), if_neg (by omega)]
end Go.Proofs.YtgcgmplepcfbaaaGreatDoor
/- exact: Number.Float of what a float is worth, walked. -/
namespace Go.Proofs.YtgcgmplepcfbaaaGreatDoor
open Go.RowKit Ieee Fl

set_option maxRecDepth 100000 in
set_option maxHeartbeats 4000000 in
theorem float_worth (w : World) (vx : Value) {x : Nat} (hv : NumIn w vx (worth x)) (sm : Sm 33 (worth x)) (h0 : 0 < rg x) (h : FinW x) (hs : sgQ (worth x) ≠ 0) :
    Calls Tryz.prog 156 #[vx] w fun e w' => e = .returned (.float .f64 (if Big.ng (worth x) then Op.negFloat .f64 (rg x) else rg x)) ∧ Below w.heap.size w w' := by
  obtain ⟨A, l, c, A2, l2, c2, rfl, hx1, hx2⟩ := hv.is_agg
  have HX := Lib.hid (And.intro hx1 hx2)
  have HV := Lib.hid hv
  have SX := Lib.hid sm
  have HB0 := Lib.hid (box1_below w (.cells #[.bool (Big.ng (worth x)), .slice A l c, .slice A2 l2 c2] 123))
  have HX0 := Lib.hid (At3.new w 123 (.bool (Big.ng (worth x))) (.slice A l c) (.slice A2 l2 c2))
  have hU := worth_unit h0
  have HN := Lib.hid (worth_near (x := x))
  have hcp : 0 < cnt (rg x) := by unfold cnt; split <;> omega
  have hcl := (cnt_is (rg x)).2
  have HLd := Lib.hid (show ∀ W, Calls Tryz.prog 65 #[.float .f64 (fw (cnt (rg x))), .int .i64 ((eo (rg x) : Int) - 1074)] W fun e w' => e = .returned (.float .f64 (rg x)) ∧ W = w' from fun W => by
    by_cases hr : rg x < 4503599627370496
    · exact back_d h0 hr W
    · exact back_n (by omega) h W)
  have heo : eo (rg x) ≤ 2045 := by unfold eo; unfold FinW INF at h; omega
  clear hv hx1 hx2 sm
  have hsz : ((sgQ (worth x) == 0) = false) := beq_eq_false_iff_ne.2 hs
  obtain ⟨sgn, hsg⟩ : ∃ z, sgQ (worth x) = z := ⟨_, rfl⟩
  obtain ⟨L, hL⟩ : ∃ z, lgQ (Big.nu (worth x)) (Big.de (worth x)) = z := ⟨_, rfl⟩
  obtain ⟨nq, hnq⟩ : ∃ z, Big.ng (worth x) = z := ⟨_, rfl⟩
  rw [hL] at hU
  rw [hsg] at hsz
  have HNQ := Lib.hid hnq
  rw [hnq] at HV HB0 HX0 ⊢
  have CSg := Lib.hid (fun W (hW : Below w.heap.size w W) => hsg ▸ exSign_any W _ _ (HV.out.keep hW))
  have CLg := Lib.hid (fun W (hW : Below w.heap.size w W) => hL ▸ log2_any W _ _ 33 (HV.out.keep hW) SX.out (by omega))
  have hLb : -2200 ≤ L ∧ L ≤ 2200 := by
    have b1 := bitsN_le SX.out.nu
    have b2 := bitsN_le SX.out.de
    rw [← hL]
    unfold lgQ lgN
    split <;> omega
  obtain ⟨lb1, lb2⟩ := hLb
  obtain ⟨U, hUe⟩ : ∃ z, (eo (rg x) : Int) - 1074 = z := ⟨_, rfl⟩
  have ub1 : -1074 ≤ U := by omega
  have ub2 : U ≤ 2045 := by omega
  rw [hUe] at hU HN HLd
  have hneg : IntKind.i64.wrap (-U) = -U := by rw [IntKind.wrap_i64]; omega
  clear hs hsg hL hnq heo hUe h h0
  go_enter Tryz.func156, Tryz.ntmps156
  go_wp2_with fail
  generalize w.alloc (.cells #[.bool nq, .slice A l c, .slice A2 l2 c2] 123) = w0 at *
  refine (CSg.out _ HB0.out).mono ?_
  rintro e w1 ⟨rfl, hb1⟩
  have HB1 := Lib.hid (HB0.out.trans (hb1.mono HB0.out.size)); have HX1 := Lib.hid (HX0.out.keep hb1)
  clear hb1 HB0 HX0
  have x0 := HX1.out.c0; have x1 := HX1.out.c1; have x2 := HX1.out.c2
  go_wp2_with fail
  refine (CLg.out _ HB1.out).mono ?_
  rintro e w2 ⟨rfl, hb2⟩
  have HB2 := Lib.hid (HB1.out.trans (hb2.mono HB1.out.size)); have HX2 := Lib.hid (HX1.out.keep hb2)
  clear hb2 HB1 HX1 x0 x1 x2
  go_wp2_with fail
  have KX := Lib.hid (fun W (h : Below w2.heap.size w2 W) => And.intro (HX2.out.keep h).c1 (HX2.out.keep h).c2)
  have C1 := Lib.hid (fun W (h : Below w2.heap.size w2 W) => lift2 h (shl_num W _ _ 33 (-U) ((HX.out.1.keep HB2.out).keep h) SX.out.nu (by omega) (by omega)))
  have C2 := Lib.hid (fun W (h : Below w2.heap.size w2 W) => lift2 h (shl_num W _ _ 33 U ((HX.out.2.keep HB2.out).keep h) SX.out.de (by omega) (by omega)))
  have Z1 := Lib.hid (SX.out.nu.shl (S := (-U).toNat) (j := 40) (by omega))
  have Z2 := Lib.hid (SX.out.de.shl (S := U.toNat) (j := 40) (by omega))
  have hdz := Lib.hid (show Big.de (worth x) * 2 ^ U.toNat ≠ 0 from Nat.ne_of_gt (Nat.mul_pos (Nat.pos_of_ne_zero (worth_parts (x := x)).2) (Nat.pow_pos (by omega))))
  obtain ⟨P1, hP1⟩ : ∃ P1, Big.nu (worth x) * 2 ^ (-U).toNat = P1 := ⟨_, rfl⟩
  obtain ⟨P2, hP2⟩ : ∃ P2, Big.de (worth x) * 2 ^ U.toNat = P2 := ⟨_, rfl⟩
  rw [hP1] at C1 Z1 HN
  rw [hP2] at C2 Z2 HN hdz
  have hq : P1 / P2 = cnt (rg x) := by rw [HN.out.2]; exact Nat.mul_div_cancel _ (Nat.pos_of_ne_zero hdz.out)
  have CN := Lib.hid (fun W a b (ha : NatIn W a P1) (hb : NatIn W b P2) (h : Below w2.heap.size w2 W) => (near_any W a b P1 P2 (33 + 40) (33 + 40) ha hb Z1.out Z2.out (by omega) (by omega) hdz.out (by omega)).mono fun e W' ⟨h1, h2⟩ => (show e = Ending.returned (.int .u64 ((cnt (rg x) : Nat) : Int)) ∧ Below w2.heap.size w2 W' from ⟨by rw [h1, HN.out.1], h.trans (h2.mono h.size)⟩))
  have hcv := conv_w (cnt (rg x))
  have hcpos : decide ((0 : Int) < ((cnt (rg x) : Nat) : Int)) = true := decide_eq_true (by omega)
  clear hP1 hP2 hq Z1 Z2 hdz HN hU
  generalize cnt (rg x) = C at *
  go_region_held3 (fun w' => w'.cell? ⟨w.heap.size, 1, none⟩ = some (.slice A l c) ∧ w'.cell? ⟨w.heap.size, 2, none⟩ = some (.slice A2 l2 c2))
    (exact KX.out _ (by first | assumption | exact Below.refl _ _ | exact below_drew (Below.refl _ _) | exact below_drew (by assumption)))
    (first
      | (go_at_call 244; (with_reducible refine (C1.out _ (by first | assumption | exact Below.refl _ _ | exact below_drew (Below.refl _ _) | exact below_drew (by assumption))).mono ?_); rintro e w4 ⟨v4, rfl, hv4, hw4, hw4'⟩)
      | (go_at_call 244; (with_reducible refine (C2.out _ (by first | assumption | exact Below.refl _ _ | exact below_drew (Below.refl _ _) | exact below_drew (by assumption))).mono ?_); rintro e w5 ⟨v5, rfl, hv5, hw5, hw5'⟩)
      | (go_at_call 243; (with_reducible refine (CN.out _ _ _ (by first | exact hv4.keep hw5' | exact NatIn.dr (hv4.keep hw5')) (by first | exact hv5 | exact NatIn.dr (hv5)) (by first | assumption | exact Below.refl _ _ | exact below_drew (Below.refl _ _) | exact below_drew (by assumption))).mono ?_); rintro e w6 ⟨rfl, hw6⟩)
      | fail)
  have HB6 := Lib.hid (HB2.out.trans (hw6.mono HB2.out.size))
  have x0 := (HX2.out.keep hw6).c0
  clear KX C1 C2 CN HB2 HX2 hv4 hw4 hw4' hv5 hw5 hw5' hw6
  clear HX HV SX CSg CLg
  generalize fw C = Fw at *
  obtain ⟨r, hr⟩ : ∃ r, rg x = r := ⟨_, rfl⟩
  rw [hr] at HLd
  have HRx := Lib.hid hr
  clear hr
  generalize worth x = q at *
  cases nq
  · go_wp2_with (first | simp only [hcv] | (go_at_call 65; refine (HLd.out _).mono ?_; rintro e w' ⟨rfl, rfl⟩))
    go_ret
    exact ⟨by rw [HRx.out]; rfl, HB6.out⟩
  · go_wp2_with (first | simp only [hcv] | (go_at_call 65; refine (HLd.out _).mono ?_; rintro e w' ⟨rfl, rfl⟩))
    go_ret
    exact ⟨by rw [HRx.out]; rfl, HB6.out⟩
end Go.Proofs.YtgcgmplepcfbaaaGreatDoor
/- Floats: which operations have an answer that is a number. -/
namespace Go.Proofs.YtgcgmplepcfbaaaGreatDoor
namespace Fl
open Ieee

def Num64 (r : Nat) : Prop := IsN r ∧ r < 18446744073709551616
theorem num_wd (s : Bool) {r : Nat} (h : r ≤ INF) : Num64 (wd s r) := by
  refine ⟨isN_wd s h, ?_⟩
  unfold INF at h; unfold wd; cases s <;> simp <;> omega
theorem nearest_num (s : Bool) (m : Nat) (p : Int) : Num64 (double.nearest s m p) := by
  rw [nearest_eq, wd_eq]; exact num_wd s (rung_le _ _)
theorem inf_num (s : Bool) : Num64 (double.word s double.infRung) := by
  rw [wd_eq, show double.infRung = INF by decide]; exact num_wd s (Nat.le_refl _)
theorem mul_some {x y : Nat} (hx : FinW x) (hy : FinW y) : ∃ r, double.mul x y = some r ∧ Num64 r := by
  obtain ⟨m, e, hm, -⟩ := read_num hx
  obtain ⟨n, i, hn, -⟩ := read_num hy
  unfold Format.mul
  rw [hm, hn]
  exact ⟨_, rfl, nearest_num _ _ _⟩
theorem div_some {x y : Nat} (hx : FinW x) (hy : FinW y) (h0 : sv y ≠ 0) : ∃ r, double.div x y = some r ∧ Num64 r := by
  obtain ⟨m, e, hm, -⟩ := read_num hx
  obtain ⟨n, i, hn, en⟩ := read_num hy
  have hn0 : n ≠ 0 := by
    intro h; subst h; apply h0; unfold sv sg; rw [← en]; simp
  unfold Format.div
  rw [hm, hn]
  show ∃ r, Option.map double.write (if n = 0 then _ else _) = some r ∧ _
  rw [if_neg hn0]
  exact ⟨_, rfl, nearest_num _ _ _⟩
theorem sum_some {s : Bool} {m : Nat} {p : Int} (d : Datum) (h : d.isNaN = false) : ∃ r, ((Datum.number s m p).sum d).map double.write = some r ∧ Num64 r := by
  cases d with
  | number t n j => exact ⟨_, rfl, nearest_num _ _ _⟩
  | infinity t => exact ⟨_, rfl, inf_num t⟩
  | nan t f => cases h
theorem sum_some' {s : Bool} {m : Nat} {p : Int} (d : Datum) (h : d.isNaN = false) : ∃ r, (d.sum (Datum.number s m p)).map double.write = some r ∧ Num64 r := by
  cases d with
  | number t n j => exact ⟨_, rfl, nearest_num _ _ _⟩
  | infinity t => exact ⟨_, rfl, inf_num t⟩
  | nan t f => cases h
theorem read_ok {x : Nat} (h : IsN x) : (double.read x).isNaN = false := by
  rcases fin_or h with h | h
  · obtain ⟨m, e, hm, -⟩ := read_num h; rw [hm]; rfl
  · rw [read_inf h]; rfl
theorem opp_ok {d : Datum} (h : d.isNaN = false) : d.opposite.isNaN = false := by
  cases d with
  | number t n j => rfl
  | infinity t => rfl
  | nan t f => cases h
theorem add_some {x y : Nat} (hx : FinW x) (hy : IsN y) : ∃ r, double.add x y = some r ∧ Num64 r := by
  obtain ⟨m, e, hm, -⟩ := read_num hx
  unfold Format.add
  rw [hm]
  exact sum_some _ (read_ok hy)
theorem add_some' {x y : Nat} (hx : IsN x) (hy : FinW y) : ∃ r, double.add x y = some r ∧ Num64 r := by
  obtain ⟨m, e, hm, -⟩ := read_num hy
  unfold Format.add
  rw [hm]
  exact sum_some' _ (read_ok hx)
theorem sub_some {x y : Nat} (hx : FinW x) (hy : IsN y) : ∃ r, double.sub x y = some r ∧ Num64 r := by
  obtain ⟨m, e, hm, -⟩ := read_num hx
  unfold Format.sub
  rw [hm]
  exact sum_some _ (opp_ok (read_ok hy))
theorem sub_some' {x y : Nat} (hx : IsN x) (hy : FinW y) : ∃ r, double.sub x y = some r ∧ Num64 r := by
  obtain ⟨m, e, hm, -⟩ := read_num hy
  unfold Format.sub
  rw [hm]
  exact sum_some' _ (read_ok hx)
theorem fma_some {x y z : Nat} (hx : FinW x) (hy : FinW y) (hz : IsN z) : ∃ r, double.fma x y z = some r ∧ Num64 r := by
  obtain ⟨m, e, hm, -⟩ := read_num hx
  obtain ⟨n, i, hn, -⟩ := read_num hy
  unfold Format.fma
  rw [hm, hn]
  exact sum_some _ (read_ok hz)
theorem xor_num {b : Nat} (h : Num64 b) : Num64 (b ^^^ 2 ^ 63) := by
  obtain ⟨h1, h2⟩ := h
  refine ⟨?_, Nat.xor_lt_two_pow (n := 64) h2 (by decide)⟩
  unfold IsN rg at *
  rw [show 9223372036854775808 = 2 ^ 63 from rfl, Nat.xor_mod_two_pow, Nat.mod_self, Nat.xor_zero]
  exact h1
/-- A word with an exponent's field of its own. -/
theorem pack_fin (a k : Nat) (ha : a < 18446744073709551616) (hk : k ≤ 2046) : FinW ((a &&& 9227875636482146303) ||| (k * 4503599627370496)) ∧ ((a &&& 9227875636482146303) ||| (k * 4503599627370496)) < 18446744073709551616 := by
  constructor
  · unfold FinW rg INF
    rw [show 9223372036854775808 = 2 ^ 63 from rfl, Nat.or_mod_two_pow, Nat.and_mod_two_pow]
    have e1 : 9227875636482146303 % 2 ^ 63 = 2 ^ 52 - 1 := by decide
    have e2 : k * 4503599627370496 % 2 ^ 63 = k * 4503599627370496 := Nat.mod_eq_of_lt (by omega)
    rw [e1, e2, Nat.and_two_pow_sub_one_eq_mod]
    have h1 := Nat.or_lt_two_pow (n := 63) (x := a % 2 ^ 63 % 2 ^ 52) (y := k * 4503599627370496) (by omega) (by omega)
    have h2 : a % 2 ^ 63 % 2 ^ 52 ||| k * 4503599627370496 = k * 4503599627370496 + a % 2 ^ 63 % 2 ^ 52 := by
      rw [Nat.or_comm, show k * 4503599627370496 = 2 ^ 52 * k by omega]
      exact (Nat.two_pow_add_eq_or_of_lt (Nat.mod_lt _ (by decide)) k).symm
    rw [h2]
    have := Nat.mod_lt (a % 2 ^ 63) (show 0 < 2 ^ 52 by decide)
    omega
  · exact Nat.or_lt_two_pow (n := 64) (Nat.lt_of_le_of_lt Nat.and_le_left ha) (by omega)
theorem pack_pos (a k : Nat) (hk : k ≤ 2046) (h0 : 0 < k) : rg ((a &&& 9227875636482146303) ||| (k * 4503599627370496)) ≠ 0 := by
  intro h
  unfold rg at h
  rw [show 9223372036854775808 = 2 ^ 63 from rfl, Nat.or_mod_two_pow] at h
  have e2 : k * 4503599627370496 % 2 ^ 63 = k * 4503599627370496 := Nat.mod_eq_of_lt (by omega)
  rw [e2] at h
  have : k * 4503599627370496 ≤ (a &&& 9227875636482146303) % 2 ^ 63 ||| k * 4503599627370496 := Nat.right_le_or
  omega
theorem rg_of_sv {x : Nat} (h : sv x ≠ 0) : rg x ≠ 0 := by
  intro e; apply h; unfold sv sg; rw [e, V_zero]; split <;> rfl
theorem sv_of_rg {x : Nat} (h : rg x ≠ 0) : sv x ≠ 0 := by
  have := V_lt (show 0 < rg x by omega)
  unfold sv sg; split <;> omega
/-- One factor may be infinite, if the other one is not nought. -/
theorem fma_some' {x y z : Nat} (hx : IsN x) (hy : FinW y) (h0 : rg y ≠ 0) (hz : FinW z) : ∃ r, double.fma x y z = some r ∧ Num64 r := by
  rcases fin_or hx with fx | ix
  · exact fma_some fx hy (Nat.le_of_lt hz)
  · obtain ⟨n, i, hn, en⟩ := read_num hy
    obtain ⟨l, j, hl, -⟩ := read_num hz
    have hn0 : n ≠ 0 := by
      intro h; subst h
      have := V_lt (show 0 < rg y by omega)
      rw [← en, V_zero] at this; simp at this
    unfold Format.fma
    rw [read_inf ix, hn, hl]
    show ∃ r, Option.map double.write (Option.bind (if n = 0 then none else some (Datum.infinity _)) _) = some r ∧ _
    rw [if_neg hn0]
    exact ⟨_, rfl, inf_num _⟩
end Fl
end Go.Proofs.YtgcgmplepcfbaaaGreatDoor
