/- Contracts, in this order: nat: Parse, of a number's text. · The text of a fraction, taken apart. No program. · ratio: number, of a fraction's text. · ratio: Parse, of a fraction's text. -/
import Derived.Test.YtjhoiichkgjdaaaGreatDoorBk18
import Derived.Test.YtjhoiichkgjdaaaGreatDoorBk12
import Derived.Deep.RegionHeld3
import Derived.Lib.IndexMore
import Derived.Lib.Strings
import Derived.Test.YtjhoiichkgjdaaaGreatDoorBk16
import Derived.Test.YtjhoiichkgjdaaaGreatDoorBk17
import Derived.Test.YtjhoiichkgjdaaaGreatDoorShelf
import Derived.Test.YtjhoiichkgjdaaaGreatDoorBk15
/- nat: Parse, of a number's text. -/
namespace Go.Proofs.YtjhoiichkgjdaaaGreatDoor
open Go.RowKit

def ParseR (w : World) (n : Nat) (e : Ending) (w' : World) : Prop := ∃ v', e = .returned (.tuple #[v', .bool true]) ∧ NatIn w' v' n ∧ Below w.heap.size w w'
theorem own_zero {w : World} {g c : Nat} (hb : Blk w g 106 .u64 (List.replicate c 0)) (hc : c ≤ 1000000000) : OwnNat w (.slice (some ⟨g, 0, none⟩) 0 c) g c 0 :=
  ⟨List.replicate c 0, 0, rfl, hb, by simp, fun d hd => by rw [(List.mem_replicate.1 hd).2]; exact Big.M64_pos, by omega, by omega, by simp [Big.Norm], by simp [Big.val]⟩
/-- The next group of digits, of what is left. -/
theorem group_at {l : Nat} (h : 1 ≤ l) : 1 ≤ (l - 1) % 19 + 1 ∧ (l - 1) % 19 + 1 ≤ l ∧ (l - 1) % 19 + 1 ≤ 19 := by omega
theorem parse_fits {a g r : List UInt8} {c : Nat} (hd : Big.Digs (a ++ g)) (hc : (a ++ g ++ r).length ≤ 19 * c) : Big.dnum a * 10 ^ g.length + Big.dnum g < Big.M64 ^ c := by
  rw [← Big.dnum_append]
  have h1 := Big.dnum_lt hd
  have h2 : 10 ^ (a ++ g).length ≤ 10 ^ (19 * c) := Nat.pow_le_pow_right (by omega) (by rw [List.length_append] at hc; omega)
  have h3 : 10 ^ (19 * c) ≤ Big.M64 ^ c := by rw [Nat.pow_mul]; exact Nat.pow_le_pow_left (by unfold Big.M64; omega) c
  omega
theorem ext_take (r : ByteArray) (n : Nat) : (r.extract 0 n).data.toList = r.data.toList.take n := by simp [ByteArray.data_extract]
theorem ext_drop (r : ByteArray) (n : Nat) : (r.extract n r.size).data.toList = r.data.toList.drop n := by
  rw [ByteArray.data_extract]
  have h : r.size = r.data.size := rfl
  rw [Array.toList_extract, List.extract_eq_take_drop, h]
  exact List.take_of_length_le (by rw [List.length_drop, Array.length_toList]; exact Nat.le_refl _)
theorem Only.new_below {w w1 w2 : World} {g : Nat} (h : Only g w1 w2) (hb : Below w.heap.size w w1) (hg : w.heap.size ≤ g) : Below w.heap.size w w2 := h.below hb hg hb.size

set_option maxRecDepth 100000 in
set_option maxHeartbeats 2000000 in
/-- nat.Parse, of a number's text. -/
theorem parse_any (w : World) (s : ByteArray) (h : Big.IsText s.data.toList) (hs : s.size ≤ 1000000) :
    Calls Tryz.prog 181 #[.string s] w (ParseR w (Big.dnum s.data.toList)) := by
  obtain ⟨i0, hi, hz0, hz1, hz2⟩ := info_parts Tryz.infoU64
  have HT := Lib.hid (isText_true w s h (by omega))
  have HD := Lib.hid h.2.2
  obtain ⟨c, hc⟩ : ∃ c, s.size / 19 + 1 = c := ⟨_, rfl⟩
  have hcI : (s.size : Int) / 19 + 1 = (c : Int) := by omega
  have hmk : ∀ W, (Instr.makeSlice 78 (.int .i64 0) (.int .i64 ((c : Nat) : Int))).run Tryz.prog W = .ok (.slice (some ⟨W.heap.size, 0, none⟩) 0 c) (W.alloc (.cells (cellsOf .u64 (List.replicate c 0)) 106)) := fun W =>
    make_words (P := Tryz.prog) Tryz.underlying78 hi hz0 hz1 (by rw [hz2]; omega) .i64 .i64 0 c (by omega) (by omega) W
  have HB := Lib.hid (Blk.new w 106 .u64 (List.replicate c 0))
  have HBel := Lib.hid (below_alloc (Below.refl w.heap.size w) (Nat.le_refl _) (.cells (cellsOf .u64 (List.replicate c 0)) 106))
  have hcb : c ≤ 1000000 := by omega
  have HC := Lib.hid (show s.data.toList.length ≤ 19 * c by rw [Array.length_toList]; show s.size ≤ _; omega)
  obtain ⟨L, hL⟩ : ∃ L, s.data.toList = L := ⟨_, rfl⟩
  rw [hL] at HD HC ⊢
  have HL := Lib.hid hL
  clear h hc hL
  go_enter Tryz.func181, Tryz.ntmps181
  go_wp2_with fail
  refine HT.out.mono ?_
  rintro e w' ⟨rfl, rfl⟩
  go_wp2_with fail
  clear hmk hcI
  go_loopw [0, 4] (fun sv xv wr => ∃ (a b : List UInt8) (r : ByteArray), sv = .string r ∧ Hid (r.data.toList = b ∧ a ++ b = L) ∧ Hid (OwnNat wr xv w.heap.size c (Big.dnum a)) ∧ Hid (Below w.heap.size w wr)) (fun sv _ _ => match sv with | .string r => r.size | _ => 0)
  case atStart => exact ⟨[], L, s, rfl, Lib.hid ⟨HL.out, rfl⟩, Lib.hid (own_zero HB.out (by omega)), HBel⟩
  case round =>
    obtain ⟨a, b, r, rfl, HR, HO, HBr⟩ := hrel
    have hrl : r.size = b.length := by rw [← HR.out.1, Array.length_toList]; rfl
    have hrs : r.size ≤ 1000000 := by
      have h1 := congrArg List.length HR.out.2
      rw [List.length_append] at h1
      have h2 : L.length = s.size := by rw [← HL.out, Array.length_toList]; rfl
      omega
    have HRL := Lib.hid hrl
    clear hrl
    by_cases hr0 : r.size = 0
    · have hI : ¬ ((r.size : Int) > 0) := by omega
      go_wp2_with fail
      go_ret2
      have hb0 : b = [] := by rw [← HR.out.1]; exact List.length_eq_zero_iff.1 (by rw [Array.length_toList]; exact hr0)
      have e := HR.out.2
      rw [hb0, List.append_nil] at e
      rw [← e]
      exact ⟨_, rfl, HO.out.nat, HBr.out⟩
    · have hI : (r.size : Int) > 0 := by omega
      obtain ⟨g1, g2, g3⟩ := group_at (l := r.size) (by omega)
      obtain ⟨n, hn⟩ : ∃ n, (r.size - 1) % 19 + 1 = n := ⟨_, rfl⟩
      have hnI : ((r.size : Int) - 1) % 19 + 1 = (n : Int) := by omega
      rw [hn] at g1 g2 g3
      have HX1 := Lib.hid (ext_take r n); have HX2 := Lib.hid (ext_drop r n)
      have hdb : Big.Digs b := fun d hd => HD.out d (by rw [← HR.out.2]; simp [hd])
      have hda : Big.Digs a := fun d hd => HD.out d (by rw [← HR.out.2]; simp [hd])
      have htl : (b.take n).length = n := by rw [List.length_take, ← HRL.out]; omega
      have hdt : Big.Digs (b.take n) := fun d hd => hdb d (List.mem_of_mem_take hd)
      have hgv := Big.dnum_lt hdt
      rw [htl] at hgv
      have hfit : Big.dnum a * 10 ^ n + Big.dnum (b.take n) < Big.M64 ^ c := by
        have h1 := parse_fits (a := a) (g := b.take n) (r := b.drop n) (c := c) (hda.append hdt) (by rw [List.append_assoc, List.take_append_drop, HR.out.2]; exact HC.out)
        rwa [htl] at h1
      have hT1 : 10 ^ n < Big.M64 := pow10_lt g3
      have hT0 : 1 ≤ 10 ^ n := Nat.one_le_pow _ _ (by omega)
      have CP := Lib.hid (fun W => power10_any W n g3)
      have CG := Lib.hid (fun W => groupValue_any W (r.extract 0 n) (by rw [HX1.out, HR.out.1]; exact hdt) (by
        have h1 : (r.extract 0 n).data.toList.length = n := by rw [HX1.out, HR.out.1]; exact htl
        rw [Array.length_toList] at h1
        show (r.extract 0 n).data.size ≤ 19
        omega))
      rw [HX1.out, HR.out.1] at CG
      have CM := Lib.hid (fun W (h : OwnNat W u4 w.heap.size c (Big.dnum a)) => mulAddWord_any W w.heap.size c (Big.dnum a) (10 ^ n) (Big.dnum (b.take n)) u4 h hT1 hT0 (by omega) hfit (by omega))
      have HAP := Lib.hid (show Big.dnum a * 10 ^ n + Big.dnum (b.take n) = Big.dnum (a ++ b.take n) by rw [Big.dnum_append, htl])
      rw [HAP.out] at CM
      obtain ⟨gv, hgvE⟩ : ∃ z, Big.dnum (b.take n) = z := ⟨_, rfl⟩
      rw [hgvE] at CG CM
      obtain ⟨T, hT⟩ : ∃ z, 10 ^ n = z := ⟨_, rfl⟩
      rw [hT] at CP CM
      have HO2 := Lib.hid (show OwnNat wr.drew u4 w.heap.size c (Big.dnum a) from HO.out)
      have hnI1 : (0 : Int) ≤ (n : Int) := by omega
      have hnI2 : (n : Int) ≤ (r.size : Int) := by omega
      clear hdb hda htl hdt hgv hfit hT1 hT0 hgvE hT hn
      go_wp2_with fail
      go_region_held3 (fun _ => True) (trivial)
        (first
          | (go_at_call 236; (with_reducible refine (CP.out _).mono ?_); rintro e w' ⟨rfl, rfl⟩)
          | (go_at_call 237; (with_reducible refine (CG.out _).mono ?_); rintro e w' ⟨rfl, rfl⟩)
          | (go_at_call 235; (with_reducible refine (CM.out _ HO2.out).mono ?_); rintro e w5 ⟨v5, rfl, hv5, hw5⟩)
          | fail)
      have HV5 := Lib.hid hv5
      have HB5 := Lib.hid (Only.new_below hw5 (show Below w.heap.size w wr.drew from below_drew HBr.out) (Nat.le_refl _))
      clear hv5 hw5
      go_wp2_with fail
      refine ⟨⟨a ++ b.take n, b.drop n, r.extract n r.size, rfl, Lib.hid ⟨by rw [HX2.out, HR.out.1], by rw [List.append_assoc, List.take_append_drop]; exact HR.out.2⟩, HV5, HB5⟩, ?_⟩
      have h1 : (r.extract n r.size).data.toList.length = r.size - n := by rw [HX2.out, List.length_drop, Array.length_toList]; rfl
      rw [Array.length_toList] at h1
      show (r.extract n r.size).data.size < r.size
      omega
end Go.Proofs.YtjhoiichkgjdaaaGreatDoor
/- The text of a fraction, taken apart. No program. -/
namespace Go.Proofs.YtjhoiichkgjdaaaGreatDoor.Big
open Go

theorem pre_one (c d : UInt8) (l : List UInt8) : [c].isPrefixOf (d :: l) = (c == d) := by simp [List.isPrefixOf]
theorem index_at : ∀ (a b : List UInt8) (c : UInt8), (∀ d ∈ a, d ≠ c) → Lib.index (a ++ c :: b) [c] = (a.length : Int)
  | [], b, c, _ => by
    rw [List.nil_append, Lib.index, pre_one]; simp
  | d :: a, b, c, h => by
    have ih := index_at a b c (fun x hx => h x (by simp [hx]))
    have hd : (c == d) = false := beq_eq_false_iff_ne.2 (fun e => h d (by simp) e.symm)
    rw [List.cons_append, Lib.index, pre_one, hd, if_neg (by simp), ih, if_neg (by simp)]
    simp
theorem index_not : ∀ (a : List UInt8) (c : UInt8), (∀ d ∈ a, d ≠ c) → Lib.index a [c] = -1
  | [], c, _ => by rw [Lib.index]; rfl
  | d :: a, c, h => by
    have ih := index_not a c (fun x hx => h x (by simp [hx]))
    have hd : (c == d) = false := beq_eq_false_iff_ne.2 (fun e => h d (by simp) e.symm)
    rw [Lib.index, pre_one, hd, if_neg (by simp), ih, if_pos (by simp)]
theorem cut_at {a b : List UInt8} {c : UInt8} (h : ∀ d ∈ a, d ≠ c) : Lib.cut (a ++ c :: b) [c] = (a, b, true) := by
  unfold Lib.cut
  rw [index_at a b c h, if_pos (by omega)]
  simp
theorem cut_not {a : List UInt8} {c : UInt8} (h : ∀ d ∈ a, d ≠ c) : Lib.cut a [c] = (a, [], false) := by
  unfold Lib.cut
  rw [index_not a c h, if_neg (by omega)]
theorem pre_yes (c : UInt8) (l : List UInt8) : Lib.hasPrefix (c :: l) [c] = true ∧ Lib.trimPrefix (c :: l) [c] = l := by
  have h : Lib.hasPrefix (c :: l) [c] = true := by unfold Lib.hasPrefix; rw [pre_one]; simp
  exact ⟨h, by unfold Lib.trimPrefix; rw [if_pos h]; rfl⟩
theorem pre_no {c d : UInt8} {l : List UInt8} (hd : d ≠ c) : Lib.hasPrefix (d :: l) [c] = false ∧ Lib.trimPrefix (d :: l) [c] = d :: l := by
  have h : Lib.hasPrefix (d :: l) [c] = false := by unfold Lib.hasPrefix; rw [pre_one]; exact beq_eq_false_iff_ne.2 (fun e => hd e.symm)
  exact ⟨h, by unfold Lib.trimPrefix; rw [if_neg (by rw [h]; simp)]⟩
theorem dec_not (n : Nat) (c : UInt8) (hc : c.toNat < 48 ∨ 57 < c.toNat) : ∀ d ∈ Lib.decDigits n, d ≠ c := by
  intro d hd e
  have := digs_dec n d hd
  rw [e] at this; omega
theorem dec_cons (n : Nat) : ∃ d l, Lib.decDigits n = d :: l ∧ 48 ≤ d.toNat ∧ d.toNat ≤ 57 := by
  cases h : Lib.decDigits n with
  | nil => exact absurd h (dec_ne n)
  | cons d l => exact ⟨d, l, rfl, digs_dec n d (by rw [h]; simp)⟩
end Go.Proofs.YtjhoiichkgjdaaaGreatDoor.Big
/- ratio: number, of a fraction's text. -/
namespace Go.Proofs.YtjhoiichkgjdaaaGreatDoor
open Go.RowKit

/-- The library's own variable holds some number. -/
def MC (w : World) : Prop := ∃ m, w.cell? ⟨4, 0, none⟩ = some (.int .i64 m)
theorem MC.keep {w w' : World} (h : MC w) (hb : Below w.heap.size w w') : MC w' := by
  obtain ⟨m, hm⟩ := h
  exact ⟨m, (hb.cell (p := ⟨4, 0, none⟩) (World.block_lt_of_cell? w _ hm)).trans hm⟩
theorem num_ne {l n : Nat} (h : l = 0 ↔ n = 0) (hn : 0 < n) : ((l : Int) ≠ 0) := by
  intro e
  have h3 : l = 0 := by omega
  have h4 := h.1 h3
  omega
theorem prefix_txt (q : Rat) (W : World) : Calls Tryz.prog 179 #[.string ⟨(txQ q).toArray⟩, .string ⟨#[45]⟩] W fun e w' =>
    e = .returned (.tuple #[.string ⟨(Lib.decDigits (Big.nu q) ++ (if Big.de q = 1 then [] else 47 :: Lib.decDigits (Big.de q))).toArray⟩, .bool (Big.ng q)]) ∧ W = w' := by
  refine (Tryz.strings_CutPrefix ⟨(txQ q).toArray⟩ ⟨#[45]⟩ W).mono fun e w' ⟨h1, h2⟩ => ⟨?_, h2.symm⟩
  rw [h1]
  show Ending.returned (.tuple #[.string ⟨(Lib.trimPrefix (txQ q) [45]).toArray⟩, .bool (Lib.hasPrefix (txQ q) [45])]) = _
  unfold txQ
  by_cases h : Big.ng q = true
  · rw [if_pos h, h, List.append_assoc]
    obtain ⟨a1, a2⟩ := Big.pre_yes 45 (Lib.decDigits (Big.nu q) ++ (if Big.de q = 1 then [] else 47 :: Lib.decDigits (Big.de q)))
    rw [List.singleton_append, a1, a2]
  · rw [if_neg h]
    have h' : Big.ng q = false := by simpa using h
    rw [h', List.nil_append]
    obtain ⟨d, l, e1, e2, e3⟩ := Big.dec_cons (Big.nu q)
    rw [e1, List.cons_append]
    obtain ⟨a1, a2⟩ := Big.pre_no (c := 45) (d := d) (l := l ++ (if Big.de q = 1 then [] else 47 :: Lib.decDigits (Big.de q))) (by intro e; rw [e] at e2; simp at e2)
    rw [a1, a2]
theorem cut_txt (q : Rat) (hq : Fit q) (W : World) (hm : MC W) : Calls Tryz.prog 180 #[.string ⟨(Lib.decDigits (Big.nu q) ++ (if Big.de q = 1 then [] else 47 :: Lib.decDigits (Big.de q))).toArray⟩, .string ⟨#[47]⟩] W fun e w' =>
    e = .returned (.tuple #[.string ⟨(Lib.decDigits (Big.nu q)).toArray⟩, .string ⟨(if Big.de q = 1 then [] else Lib.decDigits (Big.de q)).toArray⟩, .bool (!decide (Big.de q = 1))]) ∧ Drew W w' := by
  obtain ⟨m, hm⟩ := hm
  have b1 := Big.dec_len_words (K := 64) (by omega) hq.sm.nu.out
  have b2 := Big.dec_len_words (K := 64) (by omega) hq.sm.de.out
  refine (Tryz.strings_Cut ⟨(Lib.decDigits (Big.nu q) ++ (if Big.de q = 1 then [] else 47 :: Lib.decDigits (Big.de q))).toArray⟩ ⟨#[47]⟩ m W (by
    show (Lib.decDigits (Big.nu q) ++ (if Big.de q = 1 then [] else 47 :: Lib.decDigits (Big.de q))).toArray.size < _
    rw [List.size_toArray, List.length_append]
    split <;> simp <;> omega) hm).mono fun e w' ⟨h1, h2⟩ => ⟨?_, h2⟩
  rw [h1]
  show Ending.returned (.tuple #[.string ⟨(Lib.cut (Lib.decDigits (Big.nu q) ++ (if Big.de q = 1 then [] else 47 :: Lib.decDigits (Big.de q))) [47]).1.toArray⟩, .string ⟨(Lib.cut (Lib.decDigits (Big.nu q) ++ (if Big.de q = 1 then [] else 47 :: Lib.decDigits (Big.de q))) [47]).2.1.toArray⟩, .bool (Lib.cut (Lib.decDigits (Big.nu q) ++ (if Big.de q = 1 then [] else 47 :: Lib.decDigits (Big.de q))) [47]).2.2]) = _
  by_cases h : Big.de q = 1
  · rw [if_pos h, if_pos h, List.append_nil, Big.cut_not (Big.dec_not _ 47 (by simp)), decide_eq_true h]; rfl
  · rw [if_neg h, if_neg h, Big.cut_at (Big.dec_not _ 47 (by simp)), decide_eq_false h]; rfl
theorem parse_dec (n : Nat) (hn : Sz 64 n) (W : World) : Calls Tryz.prog 181 #[.string ⟨(Lib.decDigits n).toArray⟩] W (ParseR W n) := by
  have b1 := Big.dec_len_words (K := 64) (by omega) hn.out
  have h := parse_any W ⟨(Lib.decDigits n).toArray⟩ (Big.isText_dec n) (by
    show (Lib.decDigits n).toArray.size ≤ _
    rw [List.size_toArray]; omega)
  have e : Big.dnum (⟨(Lib.decDigits n).toArray⟩ : ByteArray).data.toList = n := Big.dnum_dec n
  rwa [e] at h

set_option maxRecDepth 100000 in
set_option maxHeartbeats 4000000 in
/-- ratio.number, of a fraction's text. -/
theorem number_any (w : World) (q : Rat) (hq : Fit q) (hm : MC w) :
    Calls Tryz.prog 103 #[.string ⟨(txQ q).toArray⟩] w (Read1 w q) := by
  have C1 := Lib.hid (prefix_txt q)
  have C2 := Lib.hid (cut_txt q hq)
  have C3 := Lib.hid (parse_dec (Big.nu q) hq.sm.nu)
  have C4 := Lib.hid (parse_dec (Big.de q) hq.sm.de)
  have HM := Lib.hid hm; have HS := Lib.hid hq.sm
  have hdq : decide (Big.de q = 1) = true ∨ decide (Big.de q = 1) = false := by cases decide (Big.de q = 1) <;> simp
  obtain ⟨S0, hS0⟩ : ∃ z, (⟨(txQ q).toArray⟩ : ByteArray) = z := ⟨_, rfl⟩
  obtain ⟨S1, hS1⟩ : ∃ z, (⟨(Lib.decDigits (Big.nu q) ++ (if Big.de q = 1 then [] else 47 :: Lib.decDigits (Big.de q))).toArray⟩ : ByteArray) = z := ⟨_, rfl⟩
  obtain ⟨S2, hS2⟩ : ∃ z, (⟨(Lib.decDigits (Big.nu q)).toArray⟩ : ByteArray) = z := ⟨_, rfl⟩
  have HNZ := Lib.hid (@Big.ng_pos q)
  have HDE := Lib.hid (Big.de_pos q)
  have HMK := Lib.hid (Big.is_mk q).symm
  have HR0 := Lib.hid (At3.new w 80 (.bool false) (.slice none 0 0) (.slice none 0 0))
  have HB0 := Lib.hid (box1_below w (.cells #[.bool false, .slice none 0 0, .slice none 0 0] 80))
  rw [hS0, hS1] at C1
  rw [hS1, hS2] at C2
  rw [hS2] at C3
  rw [hS0]
  clear hS0 hS1 hS2 hm hq
  obtain ⟨nq, hnq⟩ : ∃ z, Big.ng q = z := ⟨_, rfl⟩
  rw [hnq] at C1 HNZ HMK
  have HNQ := Lib.hid hnq
  clear hnq
  rcases hdq with hd | hd
  · have hde : Big.de q = 1 := of_decide_eq_true hd
    rw [if_pos hde, hd] at C2
    have HDN := Lib.hid hde
    clear hde hd
    go_enter Tryz.func103, Tryz.ntmps103
    go_wp2_with fail
    generalize w.alloc (.cells #[.bool false, .slice none 0 0, .slice none 0 0] 80) = w0 at *
    refine (C1.out _).mono ?_
    rintro e w' ⟨rfl, rfl⟩
    go_wp2_with fail
    refine (C2.out _ (HM.out.keep HB0.out)).mono ?_
    rintro e w1 ⟨rfl, hw1⟩
    have HB1 := Lib.hid (HB0.out.trans ((hw1.below w0.heap.size).mono HB0.out.size)); have HR1 := Lib.hid (HR0.out.keep (hw1.below _))
    clear hw1 HR0 HB0
    go_wp2_with fail
    refine (C3.out _).mono ?_
    rintro e w2 ⟨v2, rfl, hv2, hw2⟩
    obtain ⟨A2, l2, c2, rfl, hl2⟩ := hv2.is_slice
    have HV2 := Lib.hid hv2
    have HB2 := Lib.hid (HB1.out.trans (hw2.mono HB1.out.size)); have HR2 := Lib.hid (HR1.out.keep hw2)
    have HNL := Lib.hid (show nq = true → ((l2 : Int) == 0) = false from fun h => beq_eq_false_iff_ne.2 (num_ne hl2 (HNZ.out h)))
    clear hv2 hw2 hl2 HR1 HB1
    cases nq
    · go_wp2_with fail
      refine (of_num _ 1 M64_gt).mono ?_
      rintro e w3 ⟨v3, rfl, hv3, hw3⟩
      obtain ⟨A3, l3, c3, rfl, hl3⟩ := hv3.is_slice
      have HV3 := Lib.hid hv3
      have HV2b := Lib.hid (HV2.out.keep hw3)
      have HB3 := Lib.hid (HB2.out.trans (hw3.mono HB2.out.size)); have HR3 := Lib.hid (HR2.out.keep hw3)
      clear hw3 HR2 HB2 hv3
      have t4 : ((l3 : Int) == 0) = false := beq_eq_false_iff_ne.2 (num_ne hl3 Nat.one_pos)
      have HV3d := Lib.hid (show NatIn w3 (.slice A3 l3 c3) (Big.de q) by rw [HDN.out]; exact HV3.out)
      clear hl3
      go_wp2_with fail
      refine (exOf_any w3 _ _ _ _ _ 64 64 HV2b.out HV3d.out HS.out.nu HS.out.de (by omega) (by omega) HDE.out).mono ?_
      rintro e w5 ⟨v5, rfl, hv5, hw5⟩
      rw [HMK.out] at hv5
      obtain ⟨A8, l8, c8, A9, l9, c9, rfl, h8, h9⟩ := hv5.is_agg
      obtain ⟨nz, hnz⟩ : ∃ z, Big.ng q = z := ⟨_, rfl⟩
      rw [hnz] at hv5 ⊢
      have HH := Lib.hid (And.intro h8 h9); have HNUM := Lib.hid hv5; have HNN := Lib.hid hnz
      have HDV := Lib.hid (HV3d.out.keep hw5)
      have HB5 := Lib.hid (HB3.out.trans (hw5.mono HB3.out.size)); have HR5 := Lib.hid (HR3.out.keep hw5)
      clear hv5 hw5 h8 h9 hnz HR3 HB3
      have HB6 := Lib.hid (below_alloc HB5.out (Nat.le_refl _) (.cells #[.bool nz, .slice A8 l8 c8, .slice A9 l9 c9] 80))
      have HA6 := Lib.hid (At3.new w5 80 (.bool nz) (.slice A8 l8 c8) (.slice A9 l9 c9))
      have HR6 := Lib.hid (HR5.out.alloc' (.cells #[.bool nz, .slice A8 l8 c8, .slice A9 l9 c9] 80))
      have CD := Lib.hid (fun W h => exDen_any W _ q (HNUM.out.keep (w' := W) h))
      have CC := Lib.hid (fun W v (h : NatIn W v (Big.de q)) (i : Below w5.heap.size w5 W) => cmp_num W v _ _ _ h (HDV.out.keep i))
      rw [Big.cmpI_eq] at CC
      have hbb := box1_below w5 (.cells #[.bool nz, .slice A8 l8 c8, .slice A9 l9 c9] 80)
      have hlt5 : w.heap.size < w5.heap.size := HR5.out.lt
      go_wp2_with (first
        | (go_at_call 96; refine (CD.out _ hbb).mono ?_; rintro e w7 ⟨v7, rfl, hv7, hw7⟩; have hb7 := hbb.trans (hw7.mono hbb.size))
        | (go_at_call 162; refine (CC.out _ _ hv7 hb7).mono ?_; rintro e w8 ⟨rfl, hw8⟩; have RR := ((HR6.out.keep hw7).keep (hw8.below _)); have HA8 := ((HA6.out.keep hw7).keep (hw8.below _)); have k0 := RR.c0; have k1 := RR.c1; have k2 := RR.c2; have f0 := RR.frozen 0; have f1 := RR.frozen 1; have f2 := RR.frozen 2; have x0 := HA8.c0; have x1 := HA8.c1; have x2 := HA8.c2)
        | fail)
      have b8 := hb7.trans ((hw8.below w7.heap.size).mono hb7.size)
      obtain ⟨D1, D2, D3⟩ := num_done (bb := nz) (show NumRes w8 _ _ from RR) (HB5.out.trans (b8.mono HB5.out.size)) (by omega) (HH.out.1.keep b8) (HH.out.2.keep b8) HNN.out.symm
      have HD1 := Lib.hid D1; have HD2 := Lib.hid D2; have HD3 := Lib.hid D3
      clear D1 D2 D3 k0 k1 k2 f0 f1 f2 RR x0 x1 x2 HA8 hbb hlt5
      generalize (((w8.setCell ⟨w.heap.size, 0, none⟩ (.bool (nz))).setCell ⟨w.heap.size, 1, none⟩ (.slice A8 l8 c8)).setCell ⟨w.heap.size, 2, none⟩ (.slice A9 l9 c9)) = wz at HD1 HD2 HD3 ⊢
      have r0 := HD1.out.c0; have r1 := HD1.out.c1; have r2 := HD1.out.c2
      exact bodyPost_ret (v := .tuple #[.agg #[.bool (nz), .slice A8 l8 c8, .slice A9 l9 c9], .bool true]) (by simp [results, Tryz.results103, go_sem, r0, r1, r2]) rfl ⟨_, rfl, HD2.out, HD3.out⟩
    · have tn := HNL.out rfl
      go_wp2_with fail
      refine (of_num _ 1 M64_gt).mono ?_
      rintro e w3 ⟨v3, rfl, hv3, hw3⟩
      obtain ⟨A3, l3, c3, rfl, hl3⟩ := hv3.is_slice
      have HV3 := Lib.hid hv3
      have HV2b := Lib.hid (HV2.out.keep hw3)
      have HB3 := Lib.hid (HB2.out.trans (hw3.mono HB2.out.size)); have HR3 := Lib.hid (HR2.out.keep hw3)
      clear hw3 HR2 HB2 hv3
      have t4 : ((l3 : Int) == 0) = false := beq_eq_false_iff_ne.2 (num_ne hl3 Nat.one_pos)
      have HV3d := Lib.hid (show NatIn w3 (.slice A3 l3 c3) (Big.de q) by rw [HDN.out]; exact HV3.out)
      clear hl3
      go_wp2_with fail
      refine (exOf_any w3 _ _ _ _ _ 64 64 HV2b.out HV3d.out HS.out.nu HS.out.de (by omega) (by omega) HDE.out).mono ?_
      rintro e w5 ⟨v5, rfl, hv5, hw5⟩
      rw [HMK.out] at hv5
      obtain ⟨A8, l8, c8, A9, l9, c9, rfl, h8, h9⟩ := hv5.is_agg
      obtain ⟨nz, hnz⟩ : ∃ z, Big.ng q = z := ⟨_, rfl⟩
      rw [hnz] at hv5 ⊢
      have HH := Lib.hid (And.intro h8 h9); have HNUM := Lib.hid hv5; have HNN := Lib.hid hnz
      have HDV := Lib.hid (HV3d.out.keep hw5)
      have HB5 := Lib.hid (HB3.out.trans (hw5.mono HB3.out.size)); have HR5 := Lib.hid (HR3.out.keep hw5)
      clear hv5 hw5 h8 h9 hnz HR3 HB3
      have HB6 := Lib.hid (below_alloc HB5.out (Nat.le_refl _) (.cells #[.bool nz, .slice A8 l8 c8, .slice A9 l9 c9] 80))
      have HA6 := Lib.hid (At3.new w5 80 (.bool nz) (.slice A8 l8 c8) (.slice A9 l9 c9))
      have HR6 := Lib.hid (HR5.out.alloc' (.cells #[.bool nz, .slice A8 l8 c8, .slice A9 l9 c9] 80))
      have CD := Lib.hid (fun W h => exDen_any W _ q (HNUM.out.keep (w' := W) h))
      have CC := Lib.hid (fun W v (h : NatIn W v (Big.de q)) (i : Below w5.heap.size w5 W) => cmp_num W v _ _ _ h (HDV.out.keep i))
      rw [Big.cmpI_eq] at CC
      have hbb := box1_below w5 (.cells #[.bool nz, .slice A8 l8 c8, .slice A9 l9 c9] 80)
      have hlt5 : w.heap.size < w5.heap.size := HR5.out.lt
      go_wp2_with (first
        | (go_at_call 96; refine (CD.out _ hbb).mono ?_; rintro e w7 ⟨v7, rfl, hv7, hw7⟩; have hb7 := hbb.trans (hw7.mono hbb.size))
        | (go_at_call 162; refine (CC.out _ _ hv7 hb7).mono ?_; rintro e w8 ⟨rfl, hw8⟩; have RR := ((HR6.out.keep hw7).keep (hw8.below _)); have HA8 := ((HA6.out.keep hw7).keep (hw8.below _)); have k0 := RR.c0; have k1 := RR.c1; have k2 := RR.c2; have f0 := RR.frozen 0; have f1 := RR.frozen 1; have f2 := RR.frozen 2; have x0 := HA8.c0; have x1 := HA8.c1; have x2 := HA8.c2)
        | fail)
      have b8 := hb7.trans ((hw8.below w7.heap.size).mono hb7.size)
      obtain ⟨D1, D2, D3⟩ := num_done (bb := nz) (show NumRes w8 _ _ from RR) (HB5.out.trans (b8.mono HB5.out.size)) (by omega) (HH.out.1.keep b8) (HH.out.2.keep b8) HNN.out.symm
      have HD1 := Lib.hid D1; have HD2 := Lib.hid D2; have HD3 := Lib.hid D3
      clear D1 D2 D3 k0 k1 k2 f0 f1 f2 RR x0 x1 x2 HA8 hbb hlt5
      generalize (((w8.setCell ⟨w.heap.size, 0, none⟩ (.bool (nz))).setCell ⟨w.heap.size, 1, none⟩ (.slice A8 l8 c8)).setCell ⟨w.heap.size, 2, none⟩ (.slice A9 l9 c9)) = wz at HD1 HD2 HD3 ⊢
      have r0 := HD1.out.c0; have r1 := HD1.out.c1; have r2 := HD1.out.c2
      exact bodyPost_ret (v := .tuple #[.agg #[.bool (nz), .slice A8 l8 c8, .slice A9 l9 c9], .bool true]) (by simp [results, Tryz.results103, go_sem, r0, r1, r2]) rfl ⟨_, rfl, HD2.out, HD3.out⟩
  · have hde : Big.de q ≠ 1 := of_decide_eq_false hd
    rw [if_neg hde, hd] at C2
    obtain ⟨S3, hS3⟩ : ∃ z, (⟨(Lib.decDigits (Big.de q)).toArray⟩ : ByteArray) = z := ⟨_, rfl⟩
    rw [hS3] at C2 C4
    clear hS3
    have HDN := Lib.hid hde
    clear hde hd
    go_enter Tryz.func103, Tryz.ntmps103
    go_wp2_with fail
    generalize w.alloc (.cells #[.bool false, .slice none 0 0, .slice none 0 0] 80) = w0 at *
    refine (C1.out _).mono ?_
    rintro e w' ⟨rfl, rfl⟩
    go_wp2_with fail
    refine (C2.out _ (HM.out.keep HB0.out)).mono ?_
    rintro e w1 ⟨rfl, hw1⟩
    have HB1 := Lib.hid (HB0.out.trans ((hw1.below w0.heap.size).mono HB0.out.size)); have HR1 := Lib.hid (HR0.out.keep (hw1.below _))
    clear hw1 HR0 HB0
    go_wp2_with fail
    refine (C3.out _).mono ?_
    rintro e w2 ⟨v2, rfl, hv2, hw2⟩
    obtain ⟨A2, l2, c2, rfl, hl2⟩ := hv2.is_slice
    have HV2 := Lib.hid hv2
    have HB2 := Lib.hid (HB1.out.trans (hw2.mono HB1.out.size)); have HR2 := Lib.hid (HR1.out.keep hw2)
    have HNL := Lib.hid (show nq = true → ((l2 : Int) == 0) = false from fun h => beq_eq_false_iff_ne.2 (num_ne hl2 (HNZ.out h)))
    clear hv2 hw2 hl2 HR1 HB1
    cases nq
    · go_wp2_with fail
      refine (of_num _ 1 M64_gt).mono ?_
      rintro e w3 ⟨v3, rfl, hv3, hw3⟩
      obtain ⟨A3, l3, c3, rfl, hl3⟩ := hv3.is_slice
      have HV3 := Lib.hid hv3
      have HV2b := Lib.hid (HV2.out.keep hw3)
      have HB3 := Lib.hid (HB2.out.trans (hw3.mono HB2.out.size)); have HR3 := Lib.hid (HR2.out.keep hw3)
      clear hw3 HR2 HB2 hv3
      clear hl3
      go_wp2_with fail
      refine (C4.out _).mono ?_
      rintro e w4 ⟨v4, rfl, hv4, hw4⟩
      obtain ⟨A4, l4, c4, rfl, hl4⟩ := hv4.is_slice
      have HV4 := Lib.hid hv4
      have HV2c := Lib.hid (HV2b.out.keep hw4)
      have HB4 := Lib.hid (HB3.out.trans (hw4.mono HB3.out.size)); have HR4 := Lib.hid (HR3.out.keep hw4)
      have I := Lib.hid (isOne_num w4 _ _ hv4)
      rw [decide_eq_false HDN.out] at I
      have t4 : ((l4 : Int) == 0) = false := beq_eq_false_iff_ne.2 (num_ne hl4 HDE.out)
      clear hv4 hw4 hl4 HR3 HB3
      go_wp2_with (go_at_call 169; (with_reducible refine I.out.mono ?_); rintro e w' ⟨rfl, rfl⟩)
      refine (exOf_any w4 _ _ _ _ _ 64 64 HV2c.out HV4.out HS.out.nu HS.out.de (by omega) (by omega) HDE.out).mono ?_
      rintro e w5 ⟨v5, rfl, hv5, hw5⟩
      rw [HMK.out] at hv5
      obtain ⟨A8, l8, c8, A9, l9, c9, rfl, h8, h9⟩ := hv5.is_agg
      obtain ⟨nz, hnz⟩ : ∃ z, Big.ng q = z := ⟨_, rfl⟩
      rw [hnz] at hv5 ⊢
      have HH := Lib.hid (And.intro h8 h9); have HNUM := Lib.hid hv5; have HNN := Lib.hid hnz
      have HDV := Lib.hid (HV4.out.keep hw5)
      have HB5 := Lib.hid (HB4.out.trans (hw5.mono HB4.out.size)); have HR5 := Lib.hid (HR4.out.keep hw5)
      clear hv5 hw5 h8 h9 hnz HR4 HB4
      have HB6 := Lib.hid (below_alloc HB5.out (Nat.le_refl _) (.cells #[.bool nz, .slice A8 l8 c8, .slice A9 l9 c9] 80))
      have HA6 := Lib.hid (At3.new w5 80 (.bool nz) (.slice A8 l8 c8) (.slice A9 l9 c9))
      have HR6 := Lib.hid (HR5.out.alloc' (.cells #[.bool nz, .slice A8 l8 c8, .slice A9 l9 c9] 80))
      have CD := Lib.hid (fun W h => exDen_any W _ q (HNUM.out.keep (w' := W) h))
      have CC := Lib.hid (fun W v (h : NatIn W v (Big.de q)) (i : Below w5.heap.size w5 W) => cmp_num W v _ _ _ h (HDV.out.keep i))
      rw [Big.cmpI_eq] at CC
      have hbb := box1_below w5 (.cells #[.bool nz, .slice A8 l8 c8, .slice A9 l9 c9] 80)
      have hlt5 : w.heap.size < w5.heap.size := HR5.out.lt
      go_wp2_with (first
        | (go_at_call 96; refine (CD.out _ hbb).mono ?_; rintro e w7 ⟨v7, rfl, hv7, hw7⟩; have hb7 := hbb.trans (hw7.mono hbb.size))
        | (go_at_call 162; refine (CC.out _ _ hv7 hb7).mono ?_; rintro e w8 ⟨rfl, hw8⟩; have RR := ((HR6.out.keep hw7).keep (hw8.below _)); have HA8 := ((HA6.out.keep hw7).keep (hw8.below _)); have k0 := RR.c0; have k1 := RR.c1; have k2 := RR.c2; have f0 := RR.frozen 0; have f1 := RR.frozen 1; have f2 := RR.frozen 2; have x0 := HA8.c0; have x1 := HA8.c1; have x2 := HA8.c2)
        | fail)
      have b8 := hb7.trans ((hw8.below w7.heap.size).mono hb7.size)
      obtain ⟨D1, D2, D3⟩ := num_done (bb := nz) (show NumRes w8 _ _ from RR) (HB5.out.trans (b8.mono HB5.out.size)) (by omega) (HH.out.1.keep b8) (HH.out.2.keep b8) HNN.out.symm
      have HD1 := Lib.hid D1; have HD2 := Lib.hid D2; have HD3 := Lib.hid D3
      clear D1 D2 D3 k0 k1 k2 f0 f1 f2 RR x0 x1 x2 HA8 hbb hlt5
      generalize (((w8.setCell ⟨w.heap.size, 0, none⟩ (.bool (nz))).setCell ⟨w.heap.size, 1, none⟩ (.slice A8 l8 c8)).setCell ⟨w.heap.size, 2, none⟩ (.slice A9 l9 c9)) = wz at HD1 HD2 HD3 ⊢
      have r0 := HD1.out.c0; have r1 := HD1.out.c1; have r2 := HD1.out.c2
      exact bodyPost_ret (v := .tuple #[.agg #[.bool (nz), .slice A8 l8 c8, .slice A9 l9 c9], .bool true]) (by simp [results, Tryz.results103, go_sem, r0, r1, r2]) rfl ⟨_, rfl, HD2.out, HD3.out⟩
    · have tn := HNL.out rfl
      go_wp2_with fail
      refine (of_num _ 1 M64_gt).mono ?_
      rintro e w3 ⟨v3, rfl, hv3, hw3⟩
      obtain ⟨A3, l3, c3, rfl, hl3⟩ := hv3.is_slice
      have HV3 := Lib.hid hv3
      have HV2b := Lib.hid (HV2.out.keep hw3)
      have HB3 := Lib.hid (HB2.out.trans (hw3.mono HB2.out.size)); have HR3 := Lib.hid (HR2.out.keep hw3)
      clear hw3 HR2 HB2 hv3
      clear hl3
      go_wp2_with fail
      refine (C4.out _).mono ?_
      rintro e w4 ⟨v4, rfl, hv4, hw4⟩
      obtain ⟨A4, l4, c4, rfl, hl4⟩ := hv4.is_slice
      have HV4 := Lib.hid hv4
      have HV2c := Lib.hid (HV2b.out.keep hw4)
      have HB4 := Lib.hid (HB3.out.trans (hw4.mono HB3.out.size)); have HR4 := Lib.hid (HR3.out.keep hw4)
      have I := Lib.hid (isOne_num w4 _ _ hv4)
      rw [decide_eq_false HDN.out] at I
      have t4 : ((l4 : Int) == 0) = false := beq_eq_false_iff_ne.2 (num_ne hl4 HDE.out)
      clear hv4 hw4 hl4 HR3 HB3
      go_wp2_with (go_at_call 169; (with_reducible refine I.out.mono ?_); rintro e w' ⟨rfl, rfl⟩)
      refine (exOf_any w4 _ _ _ _ _ 64 64 HV2c.out HV4.out HS.out.nu HS.out.de (by omega) (by omega) HDE.out).mono ?_
      rintro e w5 ⟨v5, rfl, hv5, hw5⟩
      rw [HMK.out] at hv5
      obtain ⟨A8, l8, c8, A9, l9, c9, rfl, h8, h9⟩ := hv5.is_agg
      obtain ⟨nz, hnz⟩ : ∃ z, Big.ng q = z := ⟨_, rfl⟩
      rw [hnz] at hv5 ⊢
      have HH := Lib.hid (And.intro h8 h9); have HNUM := Lib.hid hv5; have HNN := Lib.hid hnz
      have HDV := Lib.hid (HV4.out.keep hw5)
      have HB5 := Lib.hid (HB4.out.trans (hw5.mono HB4.out.size)); have HR5 := Lib.hid (HR4.out.keep hw5)
      clear hv5 hw5 h8 h9 hnz HR4 HB4
      have HB6 := Lib.hid (below_alloc HB5.out (Nat.le_refl _) (.cells #[.bool nz, .slice A8 l8 c8, .slice A9 l9 c9] 80))
      have HA6 := Lib.hid (At3.new w5 80 (.bool nz) (.slice A8 l8 c8) (.slice A9 l9 c9))
      have HR6 := Lib.hid (HR5.out.alloc' (.cells #[.bool nz, .slice A8 l8 c8, .slice A9 l9 c9] 80))
      have CD := Lib.hid (fun W h => exDen_any W _ q (HNUM.out.keep (w' := W) h))
      have CC := Lib.hid (fun W v (h : NatIn W v (Big.de q)) (i : Below w5.heap.size w5 W) => cmp_num W v _ _ _ h (HDV.out.keep i))
      rw [Big.cmpI_eq] at CC
      have hbb := box1_below w5 (.cells #[.bool nz, .slice A8 l8 c8, .slice A9 l9 c9] 80)
      have hlt5 : w.heap.size < w5.heap.size := HR5.out.lt
      go_wp2_with (first
        | (go_at_call 96; refine (CD.out _ hbb).mono ?_; rintro e w7 ⟨v7, rfl, hv7, hw7⟩; have hb7 := hbb.trans (hw7.mono hbb.size))
        | (go_at_call 162; refine (CC.out _ _ hv7 hb7).mono ?_; rintro e w8 ⟨rfl, hw8⟩; have RR := ((HR6.out.keep hw7).keep (hw8.below _)); have HA8 := ((HA6.out.keep hw7).keep (hw8.below _)); have k0 := RR.c0; have k1 := RR.c1; have k2 := RR.c2; have f0 := RR.frozen 0; have f1 := RR.frozen 1; have f2 := RR.frozen 2; have x0 := HA8.c0; have x1 := HA8.c1; have x2 := HA8.c2)
        | fail)
      have b8 := hb7.trans ((hw8.below w7.heap.size).mono hb7.size)
      obtain ⟨D1, D2, D3⟩ := num_done (bb := nz) (show NumRes w8 _ _ from RR) (HB5.out.trans (b8.mono HB5.out.size)) (by omega) (HH.out.1.keep b8) (HH.out.2.keep b8) HNN.out.symm
      have HD1 := Lib.hid D1; have HD2 := Lib.hid D2; have HD3 := Lib.hid D3
      clear D1 D2 D3 k0 k1 k2 f0 f1 f2 RR x0 x1 x2 HA8 hbb hlt5
      generalize (((w8.setCell ⟨w.heap.size, 0, none⟩ (.bool (nz))).setCell ⟨w.heap.size, 1, none⟩ (.slice A8 l8 c8)).setCell ⟨w.heap.size, 2, none⟩ (.slice A9 l9 c9)) = wz at HD1 HD2 HD3 ⊢
      have r0 := HD1.out.c0; have r1 := HD1.out.c1; have r2 := HD1.out.c2
      exact bodyPost_ret (v := .tuple #[.agg #[.bool (nz), .slice A8 l8 c8, .slice A9 l9 c9], .bool true]) (by simp [results, Tryz.results103, go_sem, r0, r1, r2]) rfl ⟨_, rfl, HD2.out, HD3.out⟩
end Go.Proofs.YtjhoiichkgjdaaaGreatDoor
/- ratio: Parse, of a fraction's text. -/
namespace Go.Proofs.YtjhoiichkgjdaaaGreatDoor
open Go.RowKit

set_option maxRecDepth 100000 in
set_option maxHeartbeats 4000000 in
theorem raParse_any (w : World) (q : Rat) (hq : Fit q) (hm : MC w) :
    Calls Tryz.prog 35 #[.string ⟨(txQ q).toArray⟩] w (Ret2 w (fracV q) 0) := by
  have CN := Lib.hid (fun W h => number_any W q hq h)
  have CA := Lib.hid (fun W v (h : NumIn W v q) => answer_fit W v _ 64 h hq.sm (by omega) hq)
  have HM := Lib.hid hm
  have b1 := Big.dec_len_words (K := 64) (by omega) hq.sm.nu.out
  have b2 := Big.dec_len_words (K := 64) (by omega) hq.sm.de.out
  have hl : (txQ q).length ≤ 65536 := by
    unfold txQ
    rw [List.length_append, List.length_append]
    split <;> split <;> simp <;> omega
  have HB0 := Lib.hid (box1_below w (.cells #[.bool false, .string ⟨#[]⟩, .string ⟨#[]⟩] 23))
  have HR0 := Lib.hid (At3.new w 23 (.bool false) (.string ⟨#[]⟩) (.string ⟨#[]⟩))
  obtain ⟨S0, hS0⟩ : ∃ z, (⟨(txQ q).toArray⟩ : ByteArray) = z := ⟨_, rfl⟩
  have hsz : ¬ ((S0.size : Int) > 65536) := by
    rw [← hS0]
    show ¬ (((txQ q).toArray.size : Int) > 65536)
    rw [List.size_toArray]; omega
  have hszd : decide ((65536 : Int) < (S0.size : Int)) = false := decide_eq_false hsz
  rw [hS0] at CN ⊢
  clear hS0 hq hm b1 b2 hl
  go_enter Tryz.func35, Tryz.ntmps35
  go_wp2_with fail
  refine (CN.out _ (HM.out.keep HB0.out)).mono ?_
  generalize w.alloc (.cells #[.bool false, .string ⟨#[]⟩, .string ⟨#[]⟩] 23) = w0 at *
  rintro e w1 ⟨v1, rfl, hv1, hw1⟩
  obtain ⟨A, l, c, A2, l2, c2, rfl, -, -⟩ := hv1.is_agg
  have HV := Lib.hid hv1
  have HB1 := Lib.hid (HB0.out.trans (hw1.mono HB0.out.size)); have HR1 := Lib.hid (HR0.out.keep hw1)
  have HA1 := Lib.hid (At3.new w1 80 (.bool (Big.ng q)) (.slice A l c) (.slice A2 l2 c2))
  have HB2 := Lib.hid (below_alloc HB1.out (Nat.le_refl _) (.cells #[.bool (Big.ng q), .slice A l c, .slice A2 l2 c2] 80))
  have HR2 := Lib.hid (HR1.out.alloc' (.cells #[.bool (Big.ng q), .slice A l c, .slice A2 l2 c2] 80))
  have HVk := Lib.hid (HV.out.keep (box1_below w1 (.cells #[.bool (Big.ng q), .slice A l c, .slice A2 l2 c2] 80)))
  clear hv1 hw1 HB0 HR0 HB1 HR1 CN
  go_wp2_with fail
  refine (CA.out _ _ HVk.out).mono ?_
  generalize w1.alloc (.cells #[.bool (Big.ng q), .slice A l c, .slice A2 l2 c2] 80) = w2 at *
  rintro e w4 ⟨rfl, hw4⟩
  unfold fracV
  have R4 := HR2.out.keep hw4
  have HD := Lib.hid (At3.put R4 (.bool (Big.ng q)) (.string (bst (Big.nu q))) (.string (bst (Big.de q))))
  have HE := Lib.hid (put_below (HB2.out.trans (hw4.mono HB2.out.size)) (Nat.le_refl _) (.bool (Big.ng q)) (.string (bst (Big.nu q))) (.string (bst (Big.de q))))
  have k0 := R4.c0; have k1 := R4.c1; have k2 := R4.c2; have f0 := R4.frozen 0; have f1 := R4.frozen 1; have f2 := R4.frozen 2
  clear R4 hw4 HR2 HB2 CA
  go_wp2_with fail
  generalize (((w4.setCell ⟨w.heap.size, 0, none⟩ (.bool (Big.ng q))).setCell ⟨w.heap.size, 1, none⟩ (.string (bst (Big.nu q)))).setCell ⟨w.heap.size, 2, none⟩ (.string (bst (Big.de q)))) = wz at HD HE ⊢
  clear k0 k1 k2 f0 f1 f2
  have r0 := HD.out.c0; have r1 := HD.out.c1; have r2 := HD.out.c2
  exact bodyPost_ret (v := .tuple #[.agg #[.bool (Big.ng q), .string (bst (Big.nu q)), .string (bst (Big.de q))], .int .i64 0]) (by simp [results, Tryz.results35, go_sem, r0, r1, r2]) rfl ⟨rfl, HE.out⟩
end Go.Proofs.YtjhoiichkgjdaaaGreatDoor
