/- Contracts, in this order: Decimal texts of natural numbers. No program. · nat: appendGroup. · nat: Text. · nat: groupValue, isText (of what is a text). · nat: power10. · nat: mulAddWord. · nat: Parse, of a number's text. -/
import Derived.Lib.ItoaNum
import Derived.Test.YtgcgmplepcfbaaaGreatDoorBh03
import Derived.Test.YtgcgmplepcfbaaaGreatDoorBh19
import Derived.Test.YtgcgmplepcfbaaaGreatDoorBh10
import Derived.Lib.Slices
import Derived.Lib.OwnKind
import Derived.Laws.AppendOwn
import Derived.Lib.AppendStr
import Derived.OwnWalk
import Derived.Test.YtgcgmplepcfbaaaGreatDoorProg
import Derived.IntWalk
import Derived.LoopN
import Derived.Laws.IdiomStrings
import Derived.Test.YtgcgmplepcfbaaaGreatDoorBh09
import Derived.Deep.RegionHeld3
/- Decimal texts of natural numbers. No program. -/
namespace Go.Proofs.YtgcgmplepcfbaaaGreatDoor.Big
open Go

/-- The last k digits of r, noughts ahead too. -/
def pad : Nat → Nat → List UInt8
  | 0, _ => []
  | k + 1, r => pad k (r / 10) ++ [UInt8.ofNat (48 + r % 10)]
theorem pad_length : ∀ (k r : Nat), (pad k r).length = k
  | 0, _ => rfl
  | k + 1, r => by simp [pad, pad_length k]
theorem dec_big {u : Nat} (h : ¬ u < 10) : Lib.decDigits u = Lib.decDigits (u / 10) ++ [UInt8.ofNat (48 + u % 10)] := by
  rw [Lib.decDigits, dif_neg h]
theorem dec_pad : ∀ (k q r : Nat), 1 ≤ q → r < 10 ^ k → Lib.decDigits (q * 10 ^ k + r) = Lib.decDigits q ++ pad k r
  | 0, q, r, _, hr => by
    have : r = 0 := by simpa using hr
    subst this; simp [pad]
  | k + 1, q, r, hq, hr => by
    rw [Nat.pow_succ] at hr
    have hk : 1 ≤ 10 ^ k := Nat.one_le_pow _ _ (by decide)
    have e1 : (q * 10 ^ (k + 1) + r) / 10 = q * 10 ^ k + r / 10 := by
      rw [Nat.pow_succ, ← Nat.mul_assoc]; omega
    have e2 : (q * 10 ^ (k + 1) + r) % 10 = r % 10 := by
      rw [Nat.pow_succ, ← Nat.mul_assoc]; omega
    have e3 : ¬ (q * 10 ^ (k + 1) + r < 10) := by
      have : 1 * 10 ^ k ≤ q * 10 ^ k := Nat.mul_le_mul_right _ hq
      rw [Nat.pow_succ, ← Nat.mul_assoc]; omega
    rw [dec_big e3, e1, e2, dec_pad k q (r / 10) hq (by omega), pad, List.append_assoc]
theorem pad_nought (k : Nat) : pad k 0 = List.replicate k 48 := by
  induction k with
  | zero => rfl
  | succ k ih => rw [pad, ih, List.replicate_succ']; rfl
theorem pad_dec : ∀ (k r : Nat), 1 ≤ k → r < 10 ^ k → List.replicate (k - (Lib.decDigits r).length) 48 ++ Lib.decDigits r = pad k r
  | 0, _, h, _ => absurd h (by omega)
  | k + 1, r, _, hr => by
    by_cases h10 : r < 10
    · rw [Lib.decDigits_one h10, pad, Nat.div_eq_of_lt h10, pad_nought, Nat.mod_eq_of_lt h10]; simp
    · rw [dec_big h10, pad]
      have hr' : r / 10 < 10 ^ k := by rw [Nat.pow_succ] at hr; omega
      have hk : 1 ≤ k := by
        rcases k with _ | k
        · simp at hr'; omega
        · omega
      rw [← pad_dec k (r / 10) hk hr', List.length_append, List.append_assoc]
      have e : k + 1 - ((Lib.decDigits (r / 10)).length + [UInt8.ofNat (48 + r % 10)].length) = k - (Lib.decDigits (r / 10)).length := by
        rw [List.length_singleton]; omega
      rw [e]

theorem rev_ind {α : Type} {p : List α → Prop} (h0 : p []) (h1 : ∀ l c, p l → p (l ++ [c])) (l : List α) : p l := by
  obtain ⟨n, hn⟩ : ∃ n, l.length = n := ⟨_, rfl⟩
  induction n generalizing l with
  | zero => rw [List.length_eq_zero_iff.1 hn]; exact h0
  | succ n ih =>
    have hne : l ≠ [] := by intro e; rw [e] at hn; simp at hn
    rw [← List.dropLast_concat_getLast hne]
    exact h1 _ _ (ih _ (by rw [List.length_dropLast, hn]; rfl))
theorem head_append {α : Type} {l m : List α} (h : l ≠ []) : (l ++ m).head? = l.head? := by
  cases l with
  | nil => exact absurd rfl h
  | cons a l => rfl
/-- The number of some digits. -/
def dnum (l : List UInt8) : Nat := l.foldl (fun n c => n * 10 + (c.toNat - 48)) 0
theorem foldl_dnum (l : List UInt8) (a : Nat) : l.foldl (fun n c => n * 10 + (c.toNat - 48)) a = a * 10 ^ l.length + dnum l := by
  induction l generalizing a with
  | nil => simp [dnum]
  | cons c l ih =>
    unfold dnum
    rw [List.foldl_cons, List.foldl_cons, ih, ih (0 * 10 + (c.toNat - 48)), List.length_cons, Nat.pow_succ]
    grind
theorem dnum_append (a b : List UInt8) : dnum (a ++ b) = dnum a * 10 ^ b.length + dnum b := by
  unfold dnum
  rw [List.foldl_append, foldl_dnum b]
  rfl
theorem dnum_one (c : UInt8) : dnum [c] = c.toNat - 48 := by simp [dnum]
theorem dnum_snoc (a : List UInt8) (c : UInt8) : dnum (a ++ [c]) = dnum a * 10 + (c.toNat - 48) := by rw [dnum_append, dnum_one]; simp
/-- All are digits. -/
def Digs (l : List UInt8) : Prop := ∀ c ∈ l, 48 ≤ c.toNat ∧ c.toNat ≤ 57
theorem Digs.append {a b : List UInt8} (h : Digs a) (k : Digs b) : Digs (a ++ b) := fun c hc => (List.mem_append.1 hc).elim (h c) (k c)
theorem digs_one {d : Nat} (h : d < 10) : Digs [UInt8.ofNat (48 + d)] := by
  intro c hc
  rw [List.mem_singleton.1 hc]
  have : (UInt8.ofNat (48 + d)).toNat = 48 + d := by rw [UInt8.toNat_ofNat']; exact Nat.mod_eq_of_lt (by omega)
  omega
theorem toNat_digit {d : Nat} (h : d < 10) : (UInt8.ofNat (48 + d)).toNat = 48 + d := by rw [UInt8.toNat_ofNat']; exact Nat.mod_eq_of_lt (by omega)
theorem digs_dec (n : Nat) : Digs (Lib.decDigits n) := by
  induction n using Nat.strongRecOn with
  | _ n ih =>
    by_cases h : n < 10
    · rw [Lib.decDigits_one h]; exact digs_one h
    · rw [dec_big h]; exact (ih (n / 10) (by omega)).append (digs_one (by omega))
theorem dnum_dec (n : Nat) : dnum (Lib.decDigits n) = n := by
  induction n using Nat.strongRecOn with
  | _ n ih =>
    by_cases h : n < 10
    · rw [Lib.decDigits_one h, dnum_one, toNat_digit h]; omega
    · rw [dec_big h, dnum_snoc, ih (n / 10) (by omega), toNat_digit (by omega)]; omega
theorem dnum_lt {l : List UInt8} (h : Digs l) : dnum l < 10 ^ l.length := by
  revert h
  refine rev_ind (p := fun l => Digs l → dnum l < 10 ^ l.length) ?_ ?_ l
  · intro _; simp [dnum]
  · intro l c ih h
    have h1 := ih (fun d hd => h d (by simp [hd]))
    have h2 := h c (by simp)
    rw [dnum_snoc, List.length_append, List.length_singleton, Nat.pow_succ]
    omega
/-- A number's text: digits, no nought ahead but alone. -/
def IsText (l : List UInt8) : Prop := l ≠ [] ∧ (l.head? = some 48 → l = [48]) ∧ Digs l
theorem dec_ne (n : Nat) : Lib.decDigits n ≠ [] := by
  intro h
  have := Lib.decDigits_length n
  have := Lib.nDigits_pos n
  rw [h] at *
  simp at *; omega
theorem head_dec (n : Nat) (h : 1 ≤ n) : (Lib.decDigits n).head? ≠ some 48 := by
  induction n using Nat.strongRecOn with
  | _ n ih =>
    by_cases h10 : n < 10
    · rw [Lib.decDigits_one h10]
      intro e
      have e2 : UInt8.ofNat (48 + n) = 48 := by simpa using e
      have e3 := congrArg UInt8.toNat e2
      rw [toNat_digit h10] at e3
      have : (48 : UInt8).toNat = 48 := rfl
      omega
    · rw [dec_big h10, head_append (dec_ne _)]
      exact ih (n / 10) (by omega) (by omega)
theorem isText_dec (n : Nat) : IsText (Lib.decDigits n) := by
  refine ⟨dec_ne n, fun h => ?_, digs_dec n⟩
  rcases Nat.eq_zero_or_pos n with h0 | h0
  · subst h0; rw [Lib.decDigits_one (by omega)]; rfl
  · exact absurd h (head_dec n h0)
theorem digit_of {c : UInt8} (h : 48 ≤ c.toNat ∧ c.toNat ≤ 57) : UInt8.ofNat (48 + (c.toNat - 48)) = c := by
  rw [show 48 + (c.toNat - 48) = c.toNat by omega]; exact UInt8.ofNat_toNat
/-- What is a text is the text of its number. -/
theorem dec_dnum {l : List UInt8} (h : IsText l) : Lib.decDigits (dnum l) = l := by
  revert h
  refine rev_ind (p := fun l => IsText l → Lib.decDigits (dnum l) = l) ?_ ?_ l
  · intro h; exact absurd rfl h.1
  · rintro l c ih ⟨hne, hh, hd⟩
    have hc := hd c (by simp)
    have hc10 : c.toNat - 48 < 10 := by omega
    by_cases hl : l = []
    · subst hl
      rw [List.nil_append, dnum_one, Lib.decDigits_one hc10, digit_of hc]
    · have hh2 : l.head? ≠ some 48 := by
        intro e
        have := hh (by rw [head_append hl]; exact e)
        have h2 := congrArg List.length this
        have : 0 < l.length := List.length_pos_iff.2 hl
        rw [List.length_append, List.length_singleton, List.length_singleton] at h2; omega
      have ih' := ih ⟨hl, fun e => absurd e hh2, fun d hd' => hd d (by simp [hd'])⟩
      have hpos : 1 ≤ dnum l := by
        rcases Nat.eq_zero_or_pos (dnum l) with h0 | h0
        · rw [h0, Lib.decDigits_one (by omega)] at ih'
          rw [← ih'] at hh2
          exact absurd rfl hh2
        · exact h0
      rw [dnum_snoc, dec_big (by omega), show (dnum l * 10 + (c.toNat - 48)) / 10 = dnum l by omega, show (dnum l * 10 + (c.toNat - 48)) % 10 = c.toNat - 48 by omega, ih', digit_of hc]
theorem dec_inj {m n : Nat} (h : Lib.decDigits m = Lib.decDigits n) : m = n := by
  rw [← dnum_dec m, h, dnum_dec]

/-- Groups of nineteen digits. -/
def G19 : Nat := 10000000000000000000
theorem G19_eq : G19 = 10 ^ 19 := by unfold G19; decide
theorem G19_pos : 0 < G19 := by unfold G19; omega
theorem dec_groups {gs : List Nat} {i : Nat} (ok : Ok G19 gs) (hi : i < gs.length) (h1 : 1 ≤ val G19 (gs.drop (i + 1))) :
    Lib.decDigits (val G19 (gs.drop i)) = Lib.decDigits (val G19 (gs.drop (i + 1))) ++ pad 19 (nth gs i) := by
  rw [drop_cons gs i hi]
  have h2 := ok.nth G19_pos i
  rw [← dec_pad 19 _ _ h1 (by rw [← G19_eq]; exact h2), ← G19_eq]
  congr 1
  simp only [val]
  rw [Nat.mul_comm, Nat.add_comm]
theorem dec_len_le {k n : Nat} (hk : 1 ≤ k) (h : n < 10 ^ k) : (Lib.decDigits n).length ≤ k := by
  have e := congrArg List.length (pad_dec k n hk h)
  rw [pad_length, List.length_append, List.length_replicate] at e
  omega
theorem dec_len_words {K n : Nat} (hK : 1 ≤ K) (h : n < M64 ^ K) : (Lib.decDigits n).length ≤ 20 * K := by
  refine dec_len_le (by omega) (Nat.lt_of_lt_of_le h ?_)
  rw [Nat.pow_mul]
  exact Nat.pow_le_pow_left (by unfold M64; omega) K
theorem val_drop_pos {r : List Nat} {t j : Nat} (ht : 1 ≤ t) (hj : j < (r ++ [t]).length) : 1 ≤ val G19 ((r ++ [t]).drop j) := by
  have hj' : j ≤ r.length := by simp at hj; omega
  rw [List.drop_append_of_le_length hj', val_append]
  have h1 : 1 ≤ G19 ^ (r.drop j).length := Nat.one_le_pow _ _ G19_pos
  have h2 : 1 * 1 ≤ G19 ^ (r.drop j).length * val G19 [t] := Nat.mul_le_mul h1 (by simp [val]; omega)
  omega
theorem groups_few {gs : List Nat} {R n K : Nat} (h : val G19 gs + G19 ^ gs.length * R = n) (hR : 1 ≤ R) (hn : n < M64 ^ K) : gs.length < 2 * K := by
  have h1 : G19 ^ gs.length * 1 ≤ G19 ^ gs.length * R := Nat.mul_le_mul_left _ hR
  have h2 : M64 ≤ G19 ^ 2 := by unfold M64 G19; omega
  have h3 : M64 ^ K ≤ G19 ^ (2 * K) := by rw [Nat.pow_mul]; exact Nat.pow_le_pow_left h2 K
  exact (Nat.pow_lt_pow_iff_right (by unfold G19; omega)).1 (show G19 ^ gs.length < G19 ^ (2 * K) by omega)
theorem val_snoc_group {gs : List Nat} {R n r q : Nat} (h : val G19 gs + G19 ^ gs.length * R = n) (e : R = q * G19 + r) : val G19 (gs ++ [r]) + G19 ^ (gs ++ [r]).length * q = n := by
  rw [val_snoc, List.length_append, List.length_singleton, Nat.pow_succ, ← h, e]
  generalize G19 ^ gs.length = P
  grind
end Go.Proofs.YtgcgmplepcfbaaaGreatDoor.Big
/- nat: appendGroup. -/
namespace Go.Proofs.YtgcgmplepcfbaaaGreatDoor
open Go.RowKit

theorem Tryz.infoByte : (Tryz.prog.info? 5).map (fun i => (i.zero, i.size, i.bytes)) = some (some (.int .u8 0), 1, 1) := by kernel_rfl
/-- A row of bytes that is the call's own. -/
def Row (w : World) (B : Nat) (v : Value) (n : Nat) (l : List UInt8) : Prop := w.ownsRow B 5 1 v n (Lib.byteCells l)
theorem byteCells_rep (k : Nat) : Lib.byteCells (List.replicate k 48) = List.replicate k (.int .u8 48) := by simp [Lib.byteCells]

set_option maxHeartbeats 2000000 in
set_option maxRecDepth 100000 in
/-- nat.appendGroup: nineteen digits, noughts ahead too. -/
theorem appendGroup_any (B n g : Nat) (hg : g < 10000000000000000000) (sv : Value) (l : List UInt8) (w : World) (hown : Row w B sv n l) (hBw : B ≤ w.heap.size) (hlim : n ≤ 100000000000000) (htab : Tab w) :
    Calls Tryz.prog 232 #[sv, .int .u64 (g : Int)] w fun e w' => ∃ v', e = .returned v' ∧ Row w' B v' (n + 19) (l ++ Big.pad 19 g) ∧ Below B w w' := by
  obtain ⟨i0, hi, hz0, hz1, hz2⟩ := info_parts Tryz.infoByte
  have hg' : g < 10 ^ 19 := by omega
  have HPAD := Lib.hid (Big.pad_dec 19 g (by omega) hg')
  have hl1 := Lib.decDigits_length g
  have hl2 : (Lib.decDigits g).length ≤ 19 := by
    rw [hl1]
    rcases Nat.lt_or_ge 19 (Lib.nDigits g) with h | h
    · exfalso
      have e := Big.pad_length 19 g
      rw [← HPAD.out, List.length_append, List.length_replicate, hl1] at e
      omega
    · exact h
  have C := Lib.hid (formatUint_any g (by omega) w htab)
  obtain ⟨D, hD⟩ : ∃ D, Lib.decDigits g = D := ⟨_, rfl⟩
  rw [hD] at HPAD hl2 C
  have hsz : (⟨D.toArray⟩ : ByteArray).size = D.length := by simp [ByteArray.size]
  obtain ⟨S, hS⟩ : ∃ S : ByteArray, (⟨D.toArray⟩ : ByteArray) = S := ⟨_, rfl⟩
  obtain ⟨m, hm⟩ : ∃ m, D.length = m := ⟨_, rfl⟩
  rw [hS] at hsz C
  rw [hm] at hsz hl2 HPAD
  have HS := Lib.hid (And.intro hS (And.intro hsz hm))
  have HO := Lib.hid hown
  have hc19 : (19 : Int) - (m : Int) = ((19 - m : Nat) : Int) := by omega
  have hw19 : IntKind.i64.wrap ((19 : Int) - (m : Int)) = ((19 - m : Nat) : Int) := by rw [hc19]; exact IntWalk.i64_in _ (by omega)
  obtain ⟨c, hc⟩ : ∃ c, 19 - m = c := ⟨_, rfl⟩
  rw [hc] at hc19 hw19 HPAD
  have hcl : c + m = 19 := by omega
  have HC := Lib.hid hc
  clear hl1 hS hm hown htab hD hg hg' hc
  go_enter Tryz.func232, Tryz.ntmps232
  go_wp2_with fail
  refine C.out.mono ?_
  rintro e w1 ⟨rfl, hw1⟩
  have HO1 := Lib.hid (show Row w1 B sv n l from World.ownsRow.kept HO.out (row := none) ⟨hw1.os, hw1.tape, hw1.output, hw1.size, fun k hk _ => hw1.block k hk⟩ (by cases hv : sv.ownBlock <;> simp))
  have HB1 := Lib.hid (hw1.mono hBw)
  have hBw1 : B ≤ w1.heap.size := Nat.le_trans hBw hw1.size
  have hsz := HS.out.2.1
  clear hw1
  go_wp2_with fail
  clear hsz hw19 hc19
  go_loopw [0, 11] (fun s i wr => ∃ k : Nat, k ≤ c ∧ i = .int .i64 k ∧ Hid (Row wr B s (n + k) (l ++ List.replicate k 48)) ∧ Hid (Below B w wr) ∧ B ≤ wr.heap.size) (fun _ i _ => c - (intOf i).toNat)
  case atStart => exact ⟨0, by omega, rfl, Lib.hid (by simpa using HO1.out), HB1, hBw1⟩
  case round =>
    obtain ⟨k, hk, rfl, HR, HB, hBr⟩ := hrel
    by_cases hkc : k < c
    · have hkI : (k : Int) < (c : Int) := by omega
      have HO := Lib.hid (HR.out.alloc (.cells #[.int .u8 48] 5))
      go_wp2_with (at_builtin; refine wpList_append_own _ rfl _ _ 237 rfl B 5 i0 (.int .u8 0) 1 1 Tryz.underlying237 hi hz0 hz1 hz2 rfl (by decide) _ _ _ rfl HO.out ⟨_, 0, none⟩ 1 1 [Value.int .u8 48] rfl rfl (by intro j u' hj; match j, hj with | 0, hj => simp at hj; subst hj; simp [Addr.add]) (by intro u' hu'; simp at hu'; subst hu'; rfl) (by unfold maxLen; omega) (by omega) (by simp; omega) ?_)
      intro v1 w2 hown1 hgrow _
      have HO2 := Lib.hid hown1
      have HB2 := Lib.hid ((below_alloc HB.out (Nat.le_trans hBw (Nat.le_refl _)) (.cells #[.int .u8 48] 5)).grown hgrow (by simp; omega) (fun k hk => (HR.out.lt k hk).1))
      have hBr2 : B ≤ w2.heap.size := by have := hgrow.size; simp at this; omega
      clear hown1 hgrow
      go_wp2_with fail
      go_roundw
      case rel =>
        refine ⟨k + 1, by omega, by go_num, Lib.hid ?_, HB2, hBr2⟩
        have h1 := HO2.out
        unfold Row
        rw [List.replicate_succ', ← List.append_assoc, Lib.byteCells_append]
        exact h1
      case measure => simp [intOf]; omega
    · have hkl : k = c := by omega
      subst hkl
      go_wp2_with (at_builtin; refine Lib.wpList_append_own_string _ rfl _ _ 237 9 rfl B 5 i0 Tryz.underlying237 Tryz.underlying9 hi hz0 hz1 hz2 _ _ _ rfl HR.out S rfl (by rw [HS.out.2.1]; unfold maxLen; omega) (by rw [HS.out.2.1]; omega) hBr ?_)
      intro v1 w2 hown1 hgrow _
      have HO2 := Lib.hid hown1
      have HB2 := Lib.hid (HB.out.grown hgrow hBr (fun k hk => (HR.out.lt k hk).1))
      clear hown1 hgrow
      go_wp2_with fail
      go_ret
      refine ⟨_, rfl, ?_, HB2.out⟩
      have h1 := HO2.out
      rw [show n + k + m = n + 19 by omega, Lib.byteCells_append, List.append_assoc] at h1
      have e : Lib.strCells S = Lib.byteCells D := by rw [← HS.out.1]; simp [Lib.strCells, Lib.byteCells]
      rw [e] at h1
      unfold Row
      rw [← HPAD.out, Lib.byteCells_append, Lib.byteCells_append]
      exact h1
end Go.Proofs.YtgcgmplepcfbaaaGreatDoor
/- nat: Text. -/
namespace Go.Proofs.YtgcgmplepcfbaaaGreatDoor
open Go.RowKit

/-- Groups of digits that are the call's own. -/
def Grs (w : World) (B : Nat) (v : Value) (gs : List Nat) : Prop := w.ownsRow B 90 1 v gs.length (cellsOf .u64 gs).toList
/-- What is left, and the groups so far. -/
structure GI (n : Nat) (gs : List Nat) (R : Nat) : Prop where
  ok : Big.Ok Big.G19 gs
  eq : Big.val Big.G19 gs + Big.G19 ^ gs.length * R = n
  top : R = 0 → ∃ r t, gs = r ++ [t] ∧ 1 ≤ t
theorem Tryz.infoU64' : (Tryz.prog.info? 90).map (fun i => (i.zero, i.size, i.bytes)) = some (some (.int .u64 0), 1, 8) := by kernel_rfl

/-- What quoWord by ten to the nineteenth leaves. -/
def QW (W : World) (g k : Nat) (L : List Nat) (e : Ending) (w' : World) : Prop := ∃ (r : Nat) (zs : List Nat), e = .returned (.int .u64 (r : Int)) ∧ r < Big.G19 ∧ zs.length = k ∧ Big.Ok Big.M64 zs ∧ Big.val Big.M64 (L.take k) = Big.val Big.M64 zs * Big.G19 + r ∧
  Blk w' g 90 .u64 (zs ++ L.drop k) ∧ Only g W w'

set_option maxHeartbeats 1000000 in
set_option maxRecDepth 100000 in
/-- nat.Text. -/
theorem text_any (w : World) (v : Value) (n K : Nat) (h : NatIn w v n) (hn : Sz K n) (hK : K ≤ 100000000) (htab : Tab w) :
    Calls Tryz.prog 129 #[v] w fun e w' => e = .returned (.string ⟨(Lib.decDigits n).toArray⟩) ∧ Below w.heap.size w w' := by
  obtain ⟨l, hx, ol, nl, rfl⟩ := h
  have hl := len_of_lt nl hn.out
  by_cases h0 : l = []
  · subst h0
    obtain ⟨A, c, rfl, -, -, -⟩ := hx
    have e : Big.val Big.M64 [] = 0 := rfl
    rw [e]
    have HD := Lib.hid (show (⟨(Lib.decDigits 0).toArray⟩ : ByteArray) = ⟨#[48]⟩ by rw [Lib.decDigits_one (by omega)]; rfl)
    clear hn htab ol nl hl e
    go_enter Tryz.func129, Tryz.ntmps129
    go_wp2_with fail
    go_ret
    exact ⟨by rw [HD.out]; rfl, Below.refl _ _⟩
  have hne : Big.val Big.M64 l ≠ 0 := fun e => h0 (Big.norm_zero Big.M64_pos l nl e)
  have HX := Lib.hid hx; have OL := Lib.hid (And.intro ol nl); have HT := Lib.hid htab; have HS := Lib.hid hn
  have t0 : ((l.length : Int) == 0) = false := beq_eq_false_iff_ne.2 (by have := List.length_pos_iff.2 h0; omega)
  obtain ⟨A, c, rfl, -, -, -⟩ := hx
  obtain ⟨i0, hi, hz0, hz1, hz2⟩ := info_parts Tryz.infoU64'
  obtain ⟨N, hN⟩ : ∃ N, Big.val Big.M64 l = N := ⟨_, rfl⟩
  rw [hN] at hne HS ⊢
  have HN := Lib.hid hN
  clear ol nl htab hn hN h0
  go_enter Tryz.func129, Tryz.ntmps129
  go_wp2_with fail
  refine (clone_any w _ l HX.out (by omega)).mono ?_
  rintro e w1 ⟨rfl, hk1, hk2⟩
  have HP := Lib.hid (own_clone hk1 OL.out.1 OL.out.2 (by omega))
  rw [HN.out] at HP
  have HB := Lib.hid hk2
  have HG := Lib.hid hk1.lt
  clear hk1 hk2
  have hw1 : w.heap.size ≤ w1.heap.size := HB.out.size
  go_wp2_with fail
  have CW := Lib.hid (fun W L k c' (hb : Blk W w.heap.size 90 .u64 L) (a1 : k ≤ L.length) (a2 : k ≤ c') (a3 : Big.Ok Big.M64 L) (a4 : k ≤ 1000000000000) =>
    show Calls Tryz.prog 230 #[.slice (some ⟨w.heap.size, 0, none⟩) k c', .int .u64 10000000000000000000] W (QW W w.heap.size k L) from quoWord_any W w.heap.size k c' Big.G19 L hb a1 a2 a3 Big.G19_pos (by unfold Big.G19 Big.M64; omega) a4)
  go_loopw [3, 4] (fun gv rv wr => ∃ (gs : List Nat) (R : Nat), Hid (OwnNat wr rv w.heap.size (l.length + 1) R) ∧ Hid (Grs wr (w.heap.size + 1) gv gs) ∧ Hid (GI N gs R) ∧ Hid (Below w.heap.size w wr)) (fun _ rv wr => numAt wr rv)
  case atStart => exact ⟨[], N, HP, Lib.hid (World.ownsRow_nil _ _ _ _), Lib.hid ⟨Big.Ok.nil, by simp [Big.val], fun e => absurd e hne⟩, HB⟩
  case round =>
    obtain ⟨gs, R, HO, HGr, HI, HBr⟩ := hrel
    obtain ⟨k, X, rfl, hb, hk, hcX, hcl, oX, nX, lX, hv⟩ := HO.out.len
    have HX1 := Lib.hid (And.intro hb (And.intro oX (And.intro nX (And.intro lX hv)))); have HX2 := Lib.hid (And.intro hk (And.intro hcX hcl))
    have hkR : k = 0 ↔ R = 0 := by
      rw [← hv]
      constructor
      · intro e; subst e; rfl
      · intro e; have := Big.norm_zero Big.M64_pos _ nX e; rw [this] at lX; simpa using lX.symm
    have hnum := numAt_own HO.out
    have HNUM := Lib.hid hnum
    have hgl := hb.lt
    clear hb oX nX lX hv hcX hcl hnum
    rcases Nat.eq_zero_or_pos k with hk0 | hk0
    · have hR0 := hkR.1 hk0
      subst hk0 hR0
      obtain ⟨r, t, hgs, ht1⟩ := HI.out.top rfl
      have hval : Big.val Big.G19 gs = N := by have := HI.out.eq; rw [Nat.mul_zero, Nat.add_zero] at this; exact this
      obtain ⟨m, hm⟩ : ∃ m, r.length = m := ⟨_, rfl⟩
      have hlenM : gs.length = m + 1 := by rw [hgs]; simp [hm]
      have hmb : m ≤ 2 * K := by
        rcases Nat.eq_zero_or_pos m with e | e
        · omega
        · have h1 := Big.groups_few (gs := r) (R := t) (n := N) (K := K) (by rw [← hval, hgs, Big.val_snoc]) ht1 HS.out.out
          omega
      have hG := HGr.out
      rcases hG.2 with ⟨_, e⟩ | ⟨gb, cap, cur, hu3, hgb, hblk, -⟩
      · omega
      subst hu3
      have hcell : ∀ j, j < m + 1 → wr.cell? ⟨gb, j, none⟩ = some (.int .u64 ((Big.nth gs j : Nat) : Int)) := fun j hj => by
        rw [World.ownsRow.cellAt hG j (by omega), ← cellsOf_get .u64 gs j (by omega)]; simp
      have hgbl : gb < wr.heap.size := (Array.getElem?_eq_some_iff.1 hblk).1
      have hnth : Big.nth gs m = t := by rw [hgs]; unfold Big.nth; rw [List.getD_eq_getElem?_getD, List.getElem?_append_right (by omega), hm]; simp
      have c0 := hcell m (by omega)
      rw [hnth] at c0
      have htG : t < Big.G19 := by rw [← hnth]; exact HI.out.ok.nth Big.G19_pos m
      have HCELL := Lib.hid hcell
      have HGS := Lib.hid (And.intro hgs (And.intro hm (And.intro hlenM (And.intro hval HI.out.ok))))
      have HTG := Lib.hid (And.intro ht1 htG)
      have hdrop : Big.val Big.G19 (gs.drop m) = t := by rw [hgs, List.drop_append_of_le_length (by omega), ← hm, List.drop_length]; simp [Big.val]
      have HDR := Lib.hid hdrop
      have CA := Lib.hid (fun hB => appendUint_any wr.heap.size 0 t (by unfold Big.G19 at htG; omega) (.slice none 0 0) [] wr (World.ownsRow_nil _ _ _ _) hB (by omega) (HT.out.keep HBr.out))
      have hle20 : (Lib.decDigits t).length ≤ 20 := by
        rw [Lib.decDigits_length]
        have := Lib.numDigits_eq t ht1 (by unfold Big.G19 at htG; omega); split at this <;> omega
      have HLE := Lib.hid hle20
      obtain ⟨M, hM⟩ : ∃ M, gs.length = M := ⟨_, rfl⟩
      rw [hM] at hlenM ⊢
      have i1 : (M : Int) - 1 = (m : Int) := by omega
      have i2 : (m : Int) < (M : Int) := by omega
      have i3 : M ≤ 1000000001 := by omega
      clear hgs hval hm hG hblk hcell hnth htG hdrop hle20 hM hlenM HO HNUM HX1 HX2 HGr HI hkR ht1
      go_wp2_with fail
      refine (CA.out (Nat.le_refl _)).mono ?_
      rintro e w5 ⟨v5, rfl, hv5, hw5⟩
      have HV5 := Lib.hid (show Row w5 wr.heap.size v5 (0 + (Lib.decDigits t).length) (Lib.decDigits t) from hv5)
      have HW5 := Lib.hid hw5
      clear hv5 hw5 CA c0
      go_wp2_with fail
      go_loopw [6, 7] (fun s i wq => ∃ (j nb : Nat), j ≤ m ∧ i = .int .i64 ((j : Int) - 1) ∧ nb ≤ 20 * (m + 1 - j) ∧ Hid (Row wq wr.heap.size s nb (Lib.decDigits (Big.val Big.G19 (gs.drop j)))) ∧ Hid (Below wr.heap.size wr wq)) (fun _ i _ => (intOf i + 1).toNat)
      case atStart => exact ⟨m, 0 + (Lib.decDigits t).length, Nat.le_refl _, rfl, by have := HLE.out; omega, Lib.hid (by rw [HDR.out]; exact HV5.out), HW5⟩
      case round =>
        obtain ⟨j, nb, hj, rfl, hnb, HR, HBq⟩ := hrel
        rename World => wq
        rcases Nat.eq_zero_or_pos j with hj0 | hj0
        · subst hj0
          have hR := HR.out
          rw [List.drop_zero, HGS.out.2.2.2.1] at hR
          have hlen := hR.1
          rw [Nat.mul_one, Lib.byteCells_length] at hlen
          rcases hR.2 with ⟨_, e⟩ | ⟨gs', cap', cur', hu6, hgb', hblk', -⟩
          · exfalso
            rw [← hlen] at e
            exact Big.dec_ne N (List.length_eq_zero_iff.1 e)
          subst hu6
          have hcv := run_convert_bytes_back (P := Tryz.prog) wq 237 9 5 ⟨gs', 0, none⟩ cap' (Lib.decDigits N) Tryz.underlying237 Tryz.underlying5 Tryz.underlying9 (fun i hi => by
            rw [Lib.add_plain, Nat.zero_add, World.ownsRow.cellAt hR i (by omega)]
            simp [Lib.byteCells, hi])
          rw [hlen] at hcv
          have HEND := Lib.hid (HBr.out.trans (HBq.out.mono HBr.out.size))
          clear hR hlen hblk'
          go_wp2_with fail
          go_ret
          exact ⟨rfl, HEND.out⟩
        · obtain ⟨j', rfl⟩ : ∃ j', j = j' + 1 := ⟨j - 1, by omega⟩
          have e1 : (((j' + 1 : Nat) : Int) - 1) = (j' : Int) := by omega
          rw [e1]
          have hjm : (j' : Int) < (M : Int) := by omega
          have hj0' : (0 : Int) ≤ (j' : Int) := by omega
          have c0 := (HBq.out.cell (p := ⟨gb, j', none⟩) hgbl).trans (HCELL.out j' (by omega))
          have hposd : 1 ≤ Big.val Big.G19 (gs.drop (j' + 1)) := by
            rw [HGS.out.1]
            exact Big.val_drop_pos HTG.out.1 (by have := HGS.out.2.1; simp; omega)
          have HDG := Lib.hid (Big.dec_groups HGS.out.2.2.2.2 (show j' < gs.length by have := HGS.out.2.2.1; omega) hposd)
          have hgG := HGS.out.2.2.2.2.nth Big.G19_pos j'
          obtain ⟨x, hx⟩ : ∃ x, Big.nth gs j' = x := ⟨_, rfl⟩
          rw [hx] at c0 HDG hgG
          have CG := Lib.hid (appendGroup_any wr.heap.size nb x hgG u6 _ wq HR.out HBq.out.size (by omega) (HT.out.keep (HBr.out.trans (HBq.out.mono HBr.out.size))))
          clear hposd hgG hx e1
          go_wp2_with fail
          refine CG.out.mono ?_
          rintro e w7 ⟨v7, rfl, hv7, hw7⟩
          have HV7 := Lib.hid hv7; have HB7 := Lib.hid (HBq.out.trans hw7)
          clear hv7 hw7
          go_wp2_with fail
          go_roundw
          case rel => exact ⟨j', nb + 19, by omega, rfl, by omega, Lib.hid (by rw [HDG.out]; exact HV7.out), HB7⟩
          case measure => first | (simp [intOf]; done) | (simp [intOf]; omega)
    · have hkI : (k : Int) > 0 := by omega
      have hR1 : 1 ≤ R := by
        rcases Nat.eq_zero_or_pos R with e | e
        · exact absurd (hkR.2 e) (by omega)
        · exact e
      go_wp2_with fail
      refine (CW.out _ X k _ HX1.out.1 (by have := HX2.out; omega) HX2.out.1 HX1.out.2.1 (by have := HX2.out; omega)).mono ?_
      rintro e w2 ⟨r, zs, rfl, hrl, hzl, hzo, hzv, hzb, hzw⟩
      have HZ := Lib.hid (And.intro hzl (And.intro hzo (And.intro hzv hrl)))
      have HZB := Lib.hid hzb
      have HGr2 := Lib.hid (show Grs w2 (w.heap.size + 1) u3 gs from World.ownsRow.kept HGr.out hzw (by
        rcases hv : u3.ownBlock with _ | kk
        · exact Or.inl rfl
        · exact Or.inr (by have := (HGr.out.lt kk hv).1; intro e; injection e with e; omega)))
      have HBr2 := Lib.hid (hzw.below HBr.out (Nat.le_refl _) HBr.out.size)
      have hgl2 := hzb.lt
      clear hzl hzo hzv hzb hzw hrl
      have hlenb : gs.length < 2 * K := by have hi := HI.out.eq; exact Big.groups_few hi hR1 (by rw [← HN.out] at HS; have h1 := HS.out.out; rw [HN.out] at h1; exact h1)
      have HO3 := Lib.hid (HGr2.out.alloc (.cells #[.int .u64 (r : Int)] 90))
      have HBr3 := Lib.hid (below_alloc HBr2.out (Nat.le_refl _) (.cells #[.int .u64 (r : Int)] 90))
      have HZ3 := Lib.hid (HZB.out.alloc' (.cells #[.int .u64 (r : Int)] 90))
      have hbs : w.heap.size + 1 ≤ w2.heap.size + 1 := by omega
      go_wp2_with (at_builtin; refine wpList_append_own _ rfl _ _ 120 rfl (w.heap.size + 1) 90 i0 (.int .u64 0) 1 8 Tryz.underlying120 hi hz0 hz1 hz2 rfl (by decide) _ _ _ rfl HO3.out ⟨_, 0, none⟩ 1 1 [Value.int .u64 (r : Int)] rfl rfl (by intro j u' hj; match j, hj with | 0, hj => simp at hj; subst hj; simp [Addr.add]) (by intro u' hu'; simp at hu'; subst hu'; rfl) (by unfold maxLen; omega) (by omega) (by simp; omega) ?_)
      intro v4 w4 hown4 hgrow4 _
      have HGr4 := Lib.hid (show Grs w4 (w.heap.size + 1) v4 (gs ++ [r]) by
        unfold Grs; rw [List.length_append, List.length_singleton, cellsOf_toList, List.map_append, ← cellsOf_toList]; exact hown4)
      have HB4 := Lib.hid (HBr3.out.grown hgrow4 HBr3.out.size (fun kk hk => by have := (HO3.out.lt kk hk).1; omega))
      have HZ4 := Lib.hid (show Blk w4 w.heap.size 90 .u64 (zs ++ X.drop k) from (hgrow4.block w.heap.size HZ3.out.lt (by
        intro e; have := (HO3.out.lt w.heap.size e.symm).1; omega)).trans HZ3.out)
      have T := trimmed HZ4.out HZ.out.1 HX2.out.2.1 HX2.out.1 HX2.out.2.2 HZ.out.2.1 HX1.out.2.1
      have HTr := Lib.hid T
      have CT := Lib.hid (trim_call T.1 HZ.out.1)
      clear hown4 hgrow4 T HBr3 HZ3 HO3 HZB HBr2 HGr2 hbs
      go_wp2_with fail
      refine CT.out.mono ?_
      rintro e w' ⟨rfl, rfl⟩
      go_wp2_with fail
      have eq1 : R = Big.val Big.M64 zs * Big.G19 + r := by have h1 := HZ.out.2.2.1; rw [HX1.out.2.2.2.2] at h1; exact h1
      go_roundw
      case rel =>
        refine ⟨gs ++ [r], Big.val Big.M64 zs, Lib.hid HTr.out.2, HGr4, Lib.hid ⟨HI.out.ok.append (Big.Ok.cons HZ.out.2.2.2 Big.Ok.nil), Big.val_snoc_group HI.out.eq eq1, fun e => ⟨gs, r, rfl, ?_⟩⟩, HB4⟩
        rw [e, Nat.zero_mul, Nat.zero_add] at eq1
        omega
      case measure =>
        rw [numAt_own HTr.out.2, HNUM.out, eq1]
        have h2 : Big.val Big.M64 zs * 2 ≤ Big.val Big.M64 zs * Big.G19 := Nat.mul_le_mul_left _ (by unfold Big.G19; omega)
        omega
end Go.Proofs.YtgcgmplepcfbaaaGreatDoor
/- nat: groupValue, isText (of what is a text). -/
namespace Go.Proofs.YtgcgmplepcfbaaaGreatDoor
open Go.RowKit

theorem digs_at {s : ByteArray} (h : Big.Digs s.data.toList) (i : Nat) (hi : i < s.size) : 48 ≤ (s[i]).toNat ∧ (s[i]).toNat ≤ 57 :=
  h _ (by
    have h1 : i < s.data.size := hi
    have : s[i] = s.data[i] := rfl
    rw [this]; exact Array.getElem_mem_toList h1)
theorem take_snoc_bytes (s : ByteArray) (k : Nat) (h : k < s.size) : s.data.toList.take (k + 1) = s.data.toList.take k ++ [s[k]] := by
  have h1 : k < s.data.toList.length := by rw [Array.length_toList]; exact h
  rw [List.take_succ_eq_append_getElem h1]; rfl

set_option maxRecDepth 100000 in
set_option maxHeartbeats 1000000 in
/-- nat.groupValue. -/
theorem groupValue_any (w : World) (s : ByteArray) (h : Big.Digs s.data.toList) (hs : s.size ≤ 19) :
    Calls Tryz.prog 325 #[.string s] w fun e w' => e = .returned (.int .u64 ((Big.dnum s.data.toList : Nat) : Int)) ∧ w = w' := by
  have HD := Lib.hid h
  clear h
  go_enter Tryz.func325, Tryz.ntmps325
  go_wp2_with fail
  go_loop [3, 7] (fun a i => ∃ k : Nat, k ≤ s.size ∧ i = .int .i64 k ∧ a = .int .u64 ((Big.dnum (s.data.toList.take k) : Nat) : Int)) (fun _ i => s.size - (intOf i).toNat)
  case atStart => exact ⟨0, by omega, rfl, rfl⟩
  case round =>
    obtain ⟨k, hk, rfl, rfl⟩ := hrel
    by_cases hks : k < s.size
    · have hkI : (k : Int) < (s.size : Int) := by omega
      obtain ⟨d1, d2⟩ := digs_at HD.out k hks
      have hb := Big.dnum_lt (l := s.data.toList.take k) (fun c hc => HD.out c (List.mem_of_mem_take hc))
      have hl : (s.data.toList.take k).length = k := by rw [List.length_take, Array.length_toList]; exact Nat.min_eq_left hk
      rw [hl] at hb
      have hp : 10 ^ k ≤ 10 ^ 18 := Nat.pow_le_pow_right (by omega) (by omega)
      have hb2 : Big.dnum (s.data.toList.take k) < 1000000000000000000 := by omega
      have HE := Lib.hid (show Big.dnum (s.data.toList.take (k + 1)) = Big.dnum (s.data.toList.take k) * 10 + ((s[k]).toNat - 48) by rw [take_snoc_bytes s k hks, Big.dnum_snoc])
      generalize Big.dnum (s.data.toList.take k) = D at *
      clear hb hl hp
      go_wp2_with fail
      go_round
      case rel => exact ⟨k + 1, by omega, by go_num, by rw [HE.out]; apply congrArg; omega⟩
      case measure => simp [intOf]; omega
    · have hkl : k = s.size := by omega
      subst hkl
      have he : s.data.toList.take s.size = s.data.toList := List.take_of_length_le (by rw [Array.length_toList]; exact Nat.le_refl _)
      rw [he]
      clear he
      go_wp2_with fail
      go_ret
      exact ⟨rfl, rfl⟩

set_option maxRecDepth 100000 in
set_option maxHeartbeats 1000000 in
/-- nat.isText, of a number's text. -/
theorem isText_true (w : World) (s : ByteArray) (h : Big.IsText s.data.toList) (hs : s.size ≤ 1000000000) :
    Calls Tryz.prog 322 #[.string s] w fun e w' => e = .returned (.bool true) ∧ w = w' := by
  obtain ⟨h1, h2, h3⟩ := h
  have hpos : 0 < s.size := by
    rcases Nat.eq_zero_or_pos s.size with e | e
    · exact absurd (List.length_eq_zero_iff.1 (by rw [Array.length_toList]; exact e)) h1
    · exact e
  have n1 : ¬ s.toList = [] := by rw [ByteArray.toList_eq]; exact h1
  have n2 : s.toList.isEmpty = false := by rw [Bool.eq_false_iff]; intro e; exact n1 (List.isEmpty_iff.1 e)
  have HD := Lib.hid h3
  have hz : s = ⟨#[48]⟩ ∨ ((s[0].toNat : Int) == 48) = false := by
    by_cases e : s[0].toNat = 48
    · left
      have e1 : s.data.toList.head? = some 48 := by
        have hl : 0 < s.data.toList.length := by rw [Array.length_toList]; exact hpos
        rw [List.head?_eq_getElem?, List.getElem?_eq_getElem hl]
        congr 1
        apply UInt8.toNat_inj.1
        exact e
      have e2 := h2 e1
      have e3 : s.data = #[48] := by apply Array.ext'; rw [e2]
      cases s; simp at e3; rw [e3]
    · right; rw [beq_eq_false_iff_ne]; omega
  rcases hz with rfl | hz
  · clear h1 h2 h3 n1 n2 HD hpos hs
    go_enter Tryz.func322, Tryz.ntmps322
    go_wp2_with fail
    refine wp_loop_rounds 2 ?_
    rw [rounds_succ]
    go_wp2_with fail
    rw [rounds_succ]
    go_wp2_with fail
    go_ret
    exact ⟨rfl, rfl⟩
  · clear h1 h2 h3
    go_enter Tryz.func322, Tryz.ntmps322
    go_wp2_with fail
    go_loop [17] (fun i => ∃ k : Nat, k ≤ s.size ∧ i = .int .i64 k) (fun i => s.size - (intOf i).toNat)
    case atStart => exact ⟨0, by omega, rfl⟩
    case round =>
      obtain ⟨k, hk, rfl⟩ := hrel
      by_cases hks : k < s.size
      · have hkI : (k : Int) < (s.size : Int) := by omega
        obtain ⟨d1, d2⟩ := digs_at HD.out k hks
        have q1 : ¬ ((s[k].toNat : Int) < 48) := by omega
        have q2 : ¬ ((s[k].toNat : Int) > 57) := by omega
        go_wp2_with fail
        go_round
        case rel => exact ⟨k + 1, by omega, by go_num⟩
        case measure => simp [intOf]; omega
      · have hkl : k = s.size := by omega
        subst hkl
        go_wp2_with fail
        go_ret
        exact ⟨rfl, rfl⟩
end Go.Proofs.YtgcgmplepcfbaaaGreatDoor
/- nat: power10. -/
namespace Go.Proofs.YtgcgmplepcfbaaaGreatDoor
open Go.RowKit

theorem pow10_lt {n : Nat} (h : n ≤ 19) : 10 ^ n < Big.M64 :=
  Nat.lt_of_le_of_lt (Nat.pow_le_pow_right (by omega) h) (by unfold Big.M64; omega)

set_option maxRecDepth 100000 in
set_option maxHeartbeats 2000000 in
/-- nat.power10. -/
theorem power10_any (w : World) (n : Nat) (hn : n ≤ 19) :
    Calls Tryz.prog 324 #[.int .i64 (n : Int)] w fun e w' => e = .returned (.int .u64 ((10 ^ n : Nat) : Int)) ∧ w = w' := by
  obtain ⟨R, hR⟩ : ∃ R, 10 ^ n = R := ⟨_, rfl⟩
  rw [hR]
  have HR := Lib.hid hR
  clear hR
  go_enter Tryz.func324, Tryz.ntmps324
  go_wp2_with fail
  go_loopw [3, 5] (fun a i wr => ∃ k P : Nat, k ≤ n ∧ i = .int .i64 k ∧ a = .int .u64 (P : Int) ∧ Hid (P = 10 ^ k) ∧ wr = w) (fun _ i _ => n - (intOf i).toNat)
  case atStart => exact ⟨0, 1, by omega, rfl, rfl, Lib.hid rfl, rfl⟩
  case round =>
    obtain ⟨k, P, hk, rfl, rfl, HP, rfl⟩ := hrel
    by_cases hkn : k < n
    · have hlt := pow10_lt (n := k + 1) (by omega)
      have e : 10 ^ (k + 1) = P * 10 := by rw [Nat.pow_succ, HP.out]
      rw [e, Big.M64_eq] at hlt
      have HP' := Lib.hid e.symm
      have a1 : IntKind.u64.wrap ((P : Int) * 10) = ((P * 10 : Nat) : Int) := by
        rw [show (P : Int) * 10 = ((P * 10 : Nat) : Int) by omega]; exact wrapN _ hlt
      obtain ⟨P', hP'⟩ : ∃ z, P * 10 = z := ⟨_, rfl⟩
      rw [hP'] at a1 HP'
      clear e hlt hP'
      go_wp2_with fail
      go_roundw
      case rel => exact ⟨k + 1, P', by omega, by go_num, rfl, HP', by first | trivial | rfl⟩
      case measure => simp [intOf]; omega
    · have hkl : k = n := by omega
      subst hkl
      go_wp2
      go_ret
      exact ⟨ret_int (by rw [HP.out, HR.out]), rfl⟩
end Go.Proofs.YtgcgmplepcfbaaaGreatDoor
/- nat: mulAddWord. -/
namespace Go.Proofs.YtgcgmplepcfbaaaGreatDoor
open Go.RowKit

theorem muladd_round {l zs : List Nat} {k m o : Nat} {x0 : Nat} (ol : Big.Ok Big.M64 l) (hm : m < Big.M64) (ho : o < Big.M64)
    (h : zs.length = k ∧ Big.Ok Big.M64 zs ∧ Big.val Big.M64 zs + Big.M64 ^ k * o = Big.val Big.M64 (l.take k) * m + x0) :
    hi64 (Big.nth l k * m + o) < Big.M64 ∧ (zs ++ [lo64 (Big.nth l k * m + o)]).length = k + 1 ∧ Big.Ok Big.M64 (zs ++ [lo64 (Big.nth l k * m + o)]) ∧
      Big.val Big.M64 (zs ++ [lo64 (Big.nth l k * m + o)]) + Big.M64 ^ (k + 1) * hi64 (Big.nth l k * m + o) = Big.val Big.M64 (l.take (k + 1)) * m + x0 := by
  obtain ⟨h1, h2, h3⟩ := h
  refine ⟨hi64_mul (ol.nth Big.M64_pos k) hm ho, by simp [h1], h2.append (Big.Ok.cons (by rw [Big.M64_eq]; exact lo64_lt _) Big.Ok.nil), ?_⟩
  rw [Big.val_snoc, h1, Big.val_take_succ', Nat.pow_succ]
  have e := lo_hi (Big.nth l k * m + o)
  rw [← Big.M64_eq] at e
  generalize lo64 (Big.nth l k * m + o) = a at *
  generalize hi64 (Big.nth l k * m + o) = b at *
  generalize Big.M64 ^ k = P at *
  generalize Big.val Big.M64 (l.take k) = V at *
  generalize Big.val Big.M64 zs = Z at *
  generalize Big.nth l k = x at *
  grind

theorem norm_of_ge {zs : List Nat} (oz : Big.Ok Big.M64 zs) (h : zs ≠ [] → Big.M64 ^ (zs.length - 1) ≤ Big.val Big.M64 zs) : Big.Norm zs := by
  intro hl
  obtain ⟨r, rfl⟩ := List.getLast?_eq_some_iff.1 hl
  have h1 := h (by simp)
  rw [Big.val_snoc, Nat.mul_zero, Nat.add_zero] at h1
  have h2 := Big.val_lt r (fun d hd => oz d (by simp [hd]))
  simp at h1
  omega

set_option maxRecDepth 100000 in
set_option maxHeartbeats 4000000 in
/-- nat.mulAddWord, where there is room. -/
theorem mulAddWord_any (w : World) (g c n m o : Nat) (v : Value) (h : OwnNat w v g c n) (hm : m < Big.M64) (hm1 : 1 ≤ m) (ho : o < Big.M64) (hf : n * m + o < Big.M64 ^ c) (hc : c ≤ 1000000000) :
    Calls Tryz.prog 323 #[v, .int .u64 (m : Int), .int .u64 (o : Int)] w fun e w' => ∃ v', e = .returned v' ∧ OwnNat w' v' g c (n * m + o) ∧ Only g w w' := by
  obtain ⟨k, X, rfl, hb, hk, hcX, hcl, oX, nX, lX, hv⟩ := h.len
  have HB0 := Lib.hid hb; have OX := Lib.hid oX; have NX := Lib.hid (And.intro nX (And.intro lX hv))
  have HM := Lib.hid hm; have HM1 := Lib.hid hm1; have HO := Lib.hid ho; have HF := Lib.hid (And.intro hcX hcl)
  clear hb oX nX lX hv hm ho h hcX
  go_enter Tryz.func323, Tryz.ntmps323
  go_wp2_with fail
  have HFF := Lib.hid hf
  clear hf
  go_loopw [2, 10] (fun a i wr => ∃ (j q : Nat) (zs : List Nat), j ≤ k ∧ i = .int .i64 j ∧ a = .int .u64 (q : Int) ∧ Hid (q < Big.M64) ∧
      Hid (zs.length = j ∧ Big.Ok Big.M64 zs ∧ Big.val Big.M64 zs + Big.M64 ^ j * q = Big.val Big.M64 (X.take j) * m + o) ∧
      Hid (Blk wr g 90 .u64 (zs ++ X.drop j)) ∧ Hid (Only g w wr)) (fun _ i _ => k - (intOf i).toNat)
  case atStart => exact ⟨0, o, [], by omega, rfl, rfl, HO, Lib.hid ⟨rfl, Big.Ok.nil, by simp [Big.val]⟩, HB0, Lib.hid (Only.refl _ _)⟩
  case round =>
    obtain ⟨j, q, zs, hj, rfl, rfl, HQ, HZ, HB, HOn⟩ := hrel
    by_cases hjk : j < k
    · have hst := HB.out.cell j (by have := HZ.out.1; have := HF.out.1; simp; omega)
      rw [nth_at HZ.out.1] at hst
      have hfr := HB.out.frozen j
      have R := muladd_round OX.out HM.out HQ.out HZ.out
      have hxM := OX.out.nth Big.M64_pos j
      obtain ⟨x, hx⟩ : ∃ z, Big.nth X j = z := ⟨_, rfl⟩
      rw [hx] at R hst hxM
      have CT := Lib.hid (fun W => timesPlus_any x m q (by rw [← Big.M64_eq]; exact hxM) (by rw [← Big.M64_eq]; exact HM.out) (by rw [← Big.M64_eq]; exact HQ.out) W)
      have R0 := Lib.hid R.1
      have R2 := Lib.hid R.2
      have HB' := Lib.hid (HB.out.set j (lo64 (x * m + q)))
      have HO' := Lib.hid (HOn.out.setCell j (.int .u64 ((lo64 (x * m + q) : Nat) : Int)))
      have hjI : (j : Int) < (k : Int) := by omega
      clear R hx hxM
      go_wp2_with (go_at_call 369; refine (CT.out _).mono ?_; rintro e w' ⟨rfl, rfl⟩)
      go_roundw
      case rel =>
        refine ⟨j + 1, _, _, by omega, by go_num, rfl, R0, R2, Lib.hid ?_, HO'⟩
        have h1 := HB'.out
        rw [set_drop zs X j _ HZ.out.1 (by have := HF.out.1; omega)] at h1
        exact h1
      case measure => simp [intOf]; omega
    · have hkl : j = k := by omega
      subst hkl
      have Z := HZ.out
      rw [NX.out.2.2] at Z
      by_cases hq : q = 0
      · subst hq
        clear Z
        go_wp2_with fail
        go_ret
        have Z := HZ.out
        rw [NX.out.2.2, Nat.mul_zero, Nat.add_zero] at Z
        have e : (zs ++ X.drop j).take j = zs := by rw [List.take_append_of_le_length (by omega), List.take_of_length_le (by omega)]
        refine ⟨_, rfl, ⟨zs ++ X.drop j, j, rfl, HB.out, by have := HF.out.1; simp; omega, Z.2.1.append (OX.out.drop _), hk, HF.out.2, ?_, by rw [e]; exact Z.2.2⟩, HOn.out⟩
        rw [e]
        refine norm_of_ge Z.2.1 (fun hne => ?_)
        have hj0 : 0 < zs.length := List.length_pos_iff.2 hne
        have h1 := Big.norm_ge (B := Big.M64) (X.take j) NX.out.1 (by intro e2; have := NX.out.2.1; rw [e2] at this; simp at this; omega)
        rw [NX.out.2.2, NX.out.2.1] at h1
        rw [Z.2.2, Z.1]
        have h2 := Nat.mul_le_mul_left n HM1.out
        omega
      · have hq1 : ((q : Int) != 0) = true := by rw [bne_iff_ne]; omega
        have hM1 : 1 < Big.M64 := by unfold Big.M64; omega
        have hjc : j < c := by
          have h1 := HFF.out
          rw [← Z.2.2] at h1
          have h2 := Nat.mul_le_mul_left (Big.M64 ^ j) (show 1 ≤ q by omega)
          exact (Nat.pow_lt_pow_iff_right hM1).1 (by omega)
        have hroom : (j : Int) + 1 ≤ (c : Int) := by omega
        have hBa := HB.out.alloc' (.cells #[.int .u64 (q : Int)] 90)
        have hst := hBa.cell j (by have := HF.out.1; simp; omega)
        have hfr := hBa.frozen j
        have HB' := Lib.hid (hBa.set j q)
        have HO' := Lib.hid (Only.setCell (HOn.out.trans (Only.of_below ((Below.refl wr.heap.size wr).alloc (Nat.le_refl _) (.cells #[.int .u64 (q : Int)] 90)))) j (.int .u64 (q : Int)))
        have HZ2 := Lib.hid Z
        clear Z hBa hM1
        go_wp2_with fail
        go_ret
        have hB := HB'.out
        rw [set_drop zs X j _ HZ.out.1 (by have := HF.out.1; omega)] at hB
        have hl1 : (zs ++ [q]).length = j + 1 := by simp [HZ.out.1]
        have e : ((zs ++ [q]) ++ X.drop (j + 1)).take (j + 1) = zs ++ [q] := by rw [List.take_append_of_le_length (by omega), List.take_of_length_le (by omega)]
        have hval : Big.val Big.M64 (zs ++ [q]) = n * m + o := by
          rw [Big.val_snoc, HZ.out.1]; exact HZ2.out.2.2
        refine ⟨_, rfl, ⟨(zs ++ [q]) ++ X.drop (j + 1), j + 1, rfl, hB, by have := HF.out.1; simp [HZ.out.1]; omega, (HZ.out.2.1.append (Big.Ok.cons HQ.out Big.Ok.nil)).append (OX.out.drop _), by omega, HF.out.2, ?_, by rw [e]; exact hval⟩, HO'.out⟩
        rw [e]
        simp [Big.Norm, hq]
end Go.Proofs.YtgcgmplepcfbaaaGreatDoor
/- nat: Parse, of a number's text. -/
namespace Go.Proofs.YtgcgmplepcfbaaaGreatDoor
open Go.RowKit

def ParseR (w : World) (n : Nat) (e : Ending) (w' : World) : Prop := ∃ v', e = .returned (.tuple #[v', .bool true]) ∧ NatIn w' v' n ∧ Below w.heap.size w w'
theorem own_zero {w : World} {g c : Nat} (hb : Blk w g 90 .u64 (List.replicate c 0)) (hc : c ≤ 1000000000) : OwnNat w (.slice (some ⟨g, 0, none⟩) 0 c) g c 0 :=
  ⟨List.replicate c 0, 0, rfl, hb, by simp, fun d hd => by rw [(List.mem_replicate.1 hd).2]; exact Big.M64_pos, by omega, by omega, by simp [Big.Norm], by simp [Big.val]⟩
/-- The next group of digits, of what is left. -/
theorem group_at {l : Nat} (h : 1 ≤ l) : 1 ≤ (l - 1) % 19 + 1 ∧ (l - 1) % 19 + 1 ≤ l ∧ (l - 1) % 19 + 1 ≤ 19 := by omega
theorem parse_fits {a g r : List UInt8} {c : Nat} (hd : Big.Digs (a ++ g)) (hc : (a ++ g ++ r).length ≤ 19 * c) : Big.dnum a * 10 ^ g.length + Big.dnum g < Big.M64 ^ c := by
  rw [← Big.dnum_append]
  have h1 := Big.dnum_lt hd
  have h2 : 10 ^ (a ++ g).length ≤ 10 ^ (19 * c) := Nat.pow_le_pow_right (by omega) (by rw [List.length_append] at hc; omega)
  have h3 : 10 ^ (19 * c) ≤ Big.M64 ^ c := by rw [Nat.pow_mul]; exact Nat.pow_le_pow_left (by unfold Big.M64; omega) c
  omega
theorem ext_take (r : ByteArray) (n : Nat) : (r.extract 0 n).data.toList = r.data.toList.take n := by simp [ByteArray.data_extract]
theorem ext_drop (r : ByteArray) (n : Nat) : (r.extract n r.size).data.toList = r.data.toList.drop n := by
  rw [ByteArray.data_extract]
  have h : r.size = r.data.size := rfl
  rw [Array.toList_extract, List.extract_eq_take_drop, h]
  exact List.take_of_length_le (by rw [List.length_drop, Array.length_toList]; exact Nat.le_refl _)
theorem Only.new_below {w w1 w2 : World} {g : Nat} (h : Only g w1 w2) (hb : Below w.heap.size w w1) (hg : w.heap.size ≤ g) : Below w.heap.size w w2 := h.below hb hg hb.size

set_option maxRecDepth 100000 in
set_option maxHeartbeats 2000000 in
/-- nat.Parse, of a number's text. -/
theorem parse_any (w : World) (s : ByteArray) (h : Big.IsText s.data.toList) (hs : s.size ≤ 1000000) :
    Calls Tryz.prog 237 #[.string s] w (ParseR w (Big.dnum s.data.toList)) := by
  obtain ⟨i0, hi, hz0, hz1, hz2⟩ := info_parts Tryz.infoU64
  have HT := Lib.hid (isText_true w s h (by omega))
  have HD := Lib.hid h.2.2
  obtain ⟨c, hc⟩ : ∃ c, s.size / 19 + 1 = c := ⟨_, rfl⟩
  have hcI : (s.size : Int) / 19 + 1 = (c : Int) := by omega
  have hmk : ∀ W, (Instr.makeSlice 121 (.int .i64 0) (.int .i64 ((c : Nat) : Int))).run Tryz.prog W = .ok (.slice (some ⟨W.heap.size, 0, none⟩) 0 c) (W.alloc (.cells (cellsOf .u64 (List.replicate c 0)) 90)) := fun W =>
    make_words (P := Tryz.prog) Tryz.underlying121 hi hz0 hz1 (by rw [hz2]; omega) .i64 .i64 0 c (by omega) (by omega) W
  have HB := Lib.hid (Blk.new w 90 .u64 (List.replicate c 0))
  have HBel := Lib.hid (below_alloc (Below.refl w.heap.size w) (Nat.le_refl _) (.cells (cellsOf .u64 (List.replicate c 0)) 90))
  have hcb : c ≤ 1000000 := by omega
  have HC := Lib.hid (show s.data.toList.length ≤ 19 * c by rw [Array.length_toList]; show s.size ≤ _; omega)
  obtain ⟨L, hL⟩ : ∃ L, s.data.toList = L := ⟨_, rfl⟩
  rw [hL] at HD HC ⊢
  have HL := Lib.hid hL
  clear h hc hL
  go_enter Tryz.func237, Tryz.ntmps237
  go_wp2_with fail
  refine HT.out.mono ?_
  rintro e w' ⟨rfl, rfl⟩
  go_wp2_with fail
  clear hmk hcI
  go_loopw [0, 4] (fun sv xv wr => ∃ (a b : List UInt8) (r : ByteArray), sv = .string r ∧ Hid (r.data.toList = b ∧ a ++ b = L) ∧ Hid (OwnNat wr xv w.heap.size c (Big.dnum a)) ∧ Hid (Below w.heap.size w wr)) (fun sv _ _ => match sv with | .string r => r.size | _ => 0)
  case atStart => exact ⟨[], L, s, rfl, Lib.hid ⟨HL.out, rfl⟩, Lib.hid (own_zero HB.out (by omega)), HBel⟩
  case round =>
    obtain ⟨a, b, r, rfl, HR, HO, HBr⟩ := hrel
    have hrl : r.size = b.length := by rw [← HR.out.1, Array.length_toList]; rfl
    have hrs : r.size ≤ 1000000 := by
      have h1 := congrArg List.length HR.out.2
      rw [List.length_append] at h1
      have h2 : L.length = s.size := by rw [← HL.out, Array.length_toList]; rfl
      omega
    have HRL := Lib.hid hrl
    clear hrl
    by_cases hr0 : r.size = 0
    · have hI : ¬ ((r.size : Int) > 0) := by omega
      go_wp2_with fail
      go_ret2
      have hb0 : b = [] := by rw [← HR.out.1]; exact List.length_eq_zero_iff.1 (by rw [Array.length_toList]; exact hr0)
      have e := HR.out.2
      rw [hb0, List.append_nil] at e
      rw [← e]
      exact ⟨_, rfl, HO.out.nat, HBr.out⟩
    · have hI : (r.size : Int) > 0 := by omega
      obtain ⟨g1, g2, g3⟩ := group_at (l := r.size) (by omega)
      obtain ⟨n, hn⟩ : ∃ n, (r.size - 1) % 19 + 1 = n := ⟨_, rfl⟩
      have hnI : ((r.size : Int) - 1) % 19 + 1 = (n : Int) := by omega
      rw [hn] at g1 g2 g3
      have HX1 := Lib.hid (ext_take r n); have HX2 := Lib.hid (ext_drop r n)
      have hdb : Big.Digs b := fun d hd => HD.out d (by rw [← HR.out.2]; simp [hd])
      have hda : Big.Digs a := fun d hd => HD.out d (by rw [← HR.out.2]; simp [hd])
      have htl : (b.take n).length = n := by rw [List.length_take, ← HRL.out]; omega
      have hdt : Big.Digs (b.take n) := fun d hd => hdb d (List.mem_of_mem_take hd)
      have hgv := Big.dnum_lt hdt
      rw [htl] at hgv
      have hfit : Big.dnum a * 10 ^ n + Big.dnum (b.take n) < Big.M64 ^ c := by
        have h1 := parse_fits (a := a) (g := b.take n) (r := b.drop n) (c := c) (hda.append hdt) (by rw [List.append_assoc, List.take_append_drop, HR.out.2]; exact HC.out)
        rwa [htl] at h1
      have hT1 : 10 ^ n < Big.M64 := pow10_lt g3
      have hT0 : 1 ≤ 10 ^ n := Nat.one_le_pow _ _ (by omega)
      have CP := Lib.hid (fun W => power10_any W n g3)
      have CG := Lib.hid (fun W => groupValue_any W (r.extract 0 n) (by rw [HX1.out, HR.out.1]; exact hdt) (by
        have h1 : (r.extract 0 n).data.toList.length = n := by rw [HX1.out, HR.out.1]; exact htl
        rw [Array.length_toList] at h1
        show (r.extract 0 n).data.size ≤ 19
        omega))
      rw [HX1.out, HR.out.1] at CG
      have CM := Lib.hid (fun W (h : OwnNat W u4 w.heap.size c (Big.dnum a)) => mulAddWord_any W w.heap.size c (Big.dnum a) (10 ^ n) (Big.dnum (b.take n)) u4 h hT1 hT0 (by omega) hfit (by omega))
      have HAP := Lib.hid (show Big.dnum a * 10 ^ n + Big.dnum (b.take n) = Big.dnum (a ++ b.take n) by rw [Big.dnum_append, htl])
      rw [HAP.out] at CM
      obtain ⟨gv, hgvE⟩ : ∃ z, Big.dnum (b.take n) = z := ⟨_, rfl⟩
      rw [hgvE] at CG CM
      obtain ⟨T, hT⟩ : ∃ z, 10 ^ n = z := ⟨_, rfl⟩
      rw [hT] at CP CM
      have HO2 := Lib.hid (show OwnNat wr.drew u4 w.heap.size c (Big.dnum a) from HO.out)
      have hnI1 : (0 : Int) ≤ (n : Int) := by omega
      have hnI2 : (n : Int) ≤ (r.size : Int) := by omega
      clear hdb hda htl hdt hgv hfit hT1 hT0 hgvE hT hn
      go_wp2_with fail
      go_region_held3 (fun _ => True) (trivial)
        (first
          | (go_at_call 324; (with_reducible refine (CP.out _).mono ?_); rintro e w' ⟨rfl, rfl⟩)
          | (go_at_call 325; (with_reducible refine (CG.out _).mono ?_); rintro e w' ⟨rfl, rfl⟩)
          | (go_at_call 323; (with_reducible refine (CM.out _ HO2.out).mono ?_); rintro e w5 ⟨v5, rfl, hv5, hw5⟩)
          | fail)
      have HV5 := Lib.hid hv5
      have HB5 := Lib.hid (Only.new_below hw5 (show Below w.heap.size w wr.drew from below_drew HBr.out) (Nat.le_refl _))
      clear hv5 hw5
      go_wp2_with fail
      refine ⟨⟨a ++ b.take n, b.drop n, r.extract n r.size, rfl, Lib.hid ⟨by rw [HX2.out, HR.out.1], by rw [List.append_assoc, List.take_append_drop]; exact HR.out.2⟩, HV5, HB5⟩, ?_⟩
      have h1 : (r.extract n r.size).data.toList.length = r.size - n := by rw [HX2.out, List.length_drop, Array.length_toList]; rfl
      rw [Array.length_toList] at h1
      show (r.extract n r.size).data.size < r.size
      omega
end Go.Proofs.YtgcgmplepcfbaaaGreatDoor
