/- Contracts, in this order: nat: mulAddWord. · nat: Parse, of a number's text. · The interpreter with natural numbers that are not looked int · exact: sum. · exact: Add. · exact: Mul. · exact: Neg, Sign, IsWhole, Num, Den. · exact: Cmp. exact: Sub, Quo, Cmp. · exact: Size, Frac. · nat: Shl, Bits. · exact: log2, nearestQuo. · The interpreter: package nat's functions, of what is known. -/
import Derived.Test.YtjjbhadnakjhdaaGreatDoorKq14
import Derived.Deep.RegionHeld3
import Derived.Test.YtjjbhadnakjhdaaGreatDoorKq05
import Derived.Test.YtjjbhadnakjhdaaGreatDoorKq06
import Derived.Test.YtjjbhadnakjhdaaGreatDoorKq10
import Derived.Test.YtjjbhadnakjhdaaGreatDoorKq09
import Derived.Deep.RegionWith
import Derived.StillTailTactics
namespace Go.Proofs.YtjjbhadnakjhdaaGreatDoor
open Go.RowKit
theorem muladd_round {l zs : List Nat} {k m o : Nat} {x0 : Nat} (ol : Big.Ok Big.M64 l) (hm : m < Big.M64) (ho : o < Big.M64)
    (h : zs.length = k ∧ Big.Ok Big.M64 zs ∧ Big.val Big.M64 zs + Big.M64 ^ k * o = Big.val Big.M64 (l.take k) * m + x0) :
    hi64 (Big.nth l k * m + o) < Big.M64 ∧ (zs ++ [lo64 (Big.nth l k * m + o)]).length = k + 1 ∧ Big.Ok Big.M64 (zs ++ [lo64 (Big.nth l k * m + o)]) ∧
      Big.val Big.M64 (zs ++ [lo64 (Big.nth l k * m + o)]) + Big.M64 ^ (k + 1) * hi64 (Big.nth l k * m + o) = Big.val Big.M64 (l.take (k + 1)) * m + x0 := by
  obtain ⟨h1, h2, h3⟩ := h
  refine ⟨hi64_mul (ol.nth Big.M64_pos k) hm ho, by simp [h1], h2.append (Big.Ok.cons (by rw [Big.M64_eq]; exact lo64_lt _) Big.Ok.nil), ?_⟩
  rw [Big.val_snoc, h1, Big.val_take_succ', Nat.pow_succ]
  have e := lo_hi (Big.nth l k * m + o)
  rw [← Big.M64_eq] at e
  generalize lo64 (Big.nth l k * m + o) = a at *
  generalize hi64 (Big.nth l k * m + o) = b at *
  generalize Big.M64 ^ k = P at *
  generalize Big.val Big.M64 (l.take k) = V at *
  generalize Big.val Big.M64 zs = Z at *
  generalize Big.nth l k = x at *
  grind
theorem norm_of_ge {zs : List Nat} (oz : Big.Ok Big.M64 zs) (h : zs ≠ [] → Big.M64 ^ (zs.length - 1) ≤ Big.val Big.M64 zs) : Big.Norm zs := by
  intro hl
  obtain ⟨r, rfl⟩ := List.getLast?_eq_some_iff.1 hl
  have h1 := h (by simp)
  rw [Big.val_snoc, Nat.mul_zero, Nat.add_zero] at h1
  have h2 := Big.val_lt r (fun d hd => oz d (by simp [hd]))
  simp at h1
  omega
set_option maxRecDepth 100000 in
set_option maxHeartbeats 4000000 in
theorem mulAddWord_any (w : World) (g c n m o : Nat) (v : Value) (h : OwnNat w v g c n) (hm : m < Big.M64) (hm1 : 1 ≤ m) (ho : o < Big.M64) (hf : n * m + o < Big.M64 ^ c) (hc : c ≤ 1000000000) :
    Calls Tryz.prog 236 #[v, .int .u64 (m : Int), .int .u64 (o : Int)] w fun e w' => ∃ v', e = .returned v' ∧ OwnNat w' v' g c (n * m + o) ∧ Only g w w' := by
  obtain ⟨k, X, rfl, hb, hk, hcX, hcl, oX, nX, lX, hv⟩ := h.len
  have HB0 := Lib.hid hb; have OX := Lib.hid oX; have NX := Lib.hid (And.intro nX (And.intro lX hv))
  have HM := Lib.hid hm; have HM1 := Lib.hid hm1; have HO := Lib.hid ho; have HF := Lib.hid (And.intro hcX hcl)
  clear hb oX nX lX hv hm ho h hcX
  go_enter Tryz.func236, Tryz.ntmps236
  go_wp2_with fail
  have HFF := Lib.hid hf
  clear hf
  go_loopw [2, 10] (fun a i wr => ∃ (j q : Nat) (zs : List Nat), j ≤ k ∧ i = .int .i64 j ∧ a = .int .u64 (q : Int) ∧ Hid (q < Big.M64) ∧
      Hid (zs.length = j ∧ Big.Ok Big.M64 zs ∧ Big.val Big.M64 zs + Big.M64 ^ j * q = Big.val Big.M64 (X.take j) * m + o) ∧
      Hid (Blk wr g 52 .u64 (zs ++ X.drop j)) ∧ Hid (Only g w wr)) (fun _ i _ => k - (intOf i).toNat)
  case atStart => exact ⟨0, o, [], by omega, rfl, rfl, HO, Lib.hid ⟨rfl, Big.Ok.nil, by simp [Big.val]⟩, HB0, Lib.hid (Only.refl _ _)⟩
  case round =>
    obtain ⟨j, q, zs, hj, rfl, rfl, HQ, HZ, HB, HOn⟩ := hrel
    by_cases hjk : j < k
    · have hst := HB.out.cell j (by have := HZ.out.1; have := HF.out.1; simp; omega)
      rw [nth_at HZ.out.1] at hst
      have hfr := HB.out.frozen j
      have R := muladd_round OX.out HM.out HQ.out HZ.out
      have hxM := OX.out.nth Big.M64_pos j
      obtain ⟨x, hx⟩ : ∃ z, Big.nth X j = z := ⟨_, rfl⟩
      rw [hx] at R hst hxM
      have CT := Lib.hid (fun W => timesPlus_any x m q (by rw [← Big.M64_eq]; exact hxM) (by rw [← Big.M64_eq]; exact HM.out) (by rw [← Big.M64_eq]; exact HQ.out) W)
      have R0 := Lib.hid R.1
      have R2 := Lib.hid R.2
      have HB' := Lib.hid (HB.out.set j (lo64 (x * m + q)))
      have HO' := Lib.hid (HOn.out.setCell j (.int .u64 ((lo64 (x * m + q) : Nat) : Int)))
      have hjI : (j : Int) < (k : Int) := by omega
      clear R hx hxM
      go_wp2_with (go_at_call 281; refine (CT.out _).mono ?_; rintro e w' ⟨rfl, rfl⟩)
      go_roundw
      case rel =>
        refine ⟨j + 1, _, _, by omega, by go_num, rfl, R0, R2, Lib.hid ?_, HO'⟩
        have h1 := HB'.out
        rw [set_drop zs X j _ HZ.out.1 (by have := HF.out.1; omega)] at h1
        exact h1
      case measure => simp [intOf]; omega
    · have hkl : j = k := by omega
      subst hkl
      have Z := HZ.out
      rw [NX.out.2.2] at Z
      by_cases hq : q = 0
      · subst hq
        clear Z
        go_wp2_with fail
        go_ret
        have Z := HZ.out
        rw [NX.out.2.2, Nat.mul_zero, Nat.add_zero] at Z
        have e : (zs ++ X.drop j).take j = zs := by rw [List.take_append_of_le_length (by omega), List.take_of_length_le (by omega)]
        refine ⟨_, rfl, ⟨zs ++ X.drop j, j, rfl, HB.out, by have := HF.out.1; simp; omega, Z.2.1.append (OX.out.drop _), hk, HF.out.2, ?_, by rw [e]; exact Z.2.2⟩, HOn.out⟩
        rw [e]
        refine norm_of_ge Z.2.1 (fun hne => ?_)
        have hj0 : 0 < zs.length := List.length_pos_iff.2 hne
        have h1 := Big.norm_ge (B := Big.M64) (X.take j) NX.out.1 (by intro e2; have := NX.out.2.1; rw [e2] at this; simp at this; omega)
        rw [NX.out.2.2, NX.out.2.1] at h1
        rw [Z.2.2, Z.1]
        have h2 := Nat.mul_le_mul_left n HM1.out
        omega
      · have hq1 : ((q : Int) != 0) = true := by rw [bne_iff_ne]; omega
        have hM1 : 1 < Big.M64 := by unfold Big.M64; omega
        have hjc : j < c := by
          have h1 := HFF.out
          rw [← Z.2.2] at h1
          have h2 := Nat.mul_le_mul_left (Big.M64 ^ j) (show 1 ≤ q by omega)
          exact (Nat.pow_lt_pow_iff_right hM1).1 (by omega)
        have hroom : (j : Int) + 1 ≤ (c : Int) := by omega
        have hBa := HB.out.alloc' (.cells #[.int .u64 (q : Int)] 52)
        have hst := hBa.cell j (by have := HF.out.1; simp; omega)
        have hfr := hBa.frozen j
        have HB' := Lib.hid (hBa.set j q)
        have HO' := Lib.hid (Only.setCell (HOn.out.trans (Only.of_below ((Below.refl wr.heap.size wr).alloc (Nat.le_refl _) (.cells #[.int .u64 (q : Int)] 52)))) j (.int .u64 (q : Int)))
        have HZ2 := Lib.hid Z
        clear Z hBa hM1
        go_wp2_with fail
        go_ret
        have hB := HB'.out
        rw [set_drop zs X j _ HZ.out.1 (by have := HF.out.1; omega)] at hB
        have hl1 : (zs ++ [q]).length = j + 1 := by simp [HZ.out.1]
        have e : ((zs ++ [q]) ++ X.drop (j + 1)).take (j + 1) = zs ++ [q] := by rw [List.take_append_of_le_length (by omega), List.take_of_length_le (by omega)]
        have hval : Big.val Big.M64 (zs ++ [q]) = n * m + o := by
          rw [Big.val_snoc, HZ.out.1]; exact HZ2.out.2.2
        refine ⟨_, rfl, ⟨(zs ++ [q]) ++ X.drop (j + 1), j + 1, rfl, hB, by have := HF.out.1; simp [HZ.out.1]; omega, (HZ.out.2.1.append (Big.Ok.cons HQ.out Big.Ok.nil)).append (OX.out.drop _), by omega, HF.out.2, ?_, by rw [e]; exact hval⟩, HO'.out⟩
        rw [e]
        simp [Big.Norm, hq]
end Go.Proofs.YtjjbhadnakjhdaaGreatDoor
namespace Go.Proofs.YtjjbhadnakjhdaaGreatDoor
open Go.RowKit
def ParseR (w : World) (n : Nat) (e : Ending) (w' : World) : Prop := ∃ v', e = .returned (.tuple #[v', .bool true]) ∧ NatIn w' v' n ∧ Below w.heap.size w w'
theorem own_zero {w : World} {g c : Nat} (hb : Blk w g 52 .u64 (List.replicate c 0)) (hc : c ≤ 1000000000) : OwnNat w (.slice (some ⟨g, 0, none⟩) 0 c) g c 0 :=
  ⟨List.replicate c 0, 0, rfl, hb, by simp, fun d hd => by rw [(List.mem_replicate.1 hd).2]; exact Big.M64_pos, by omega, by omega, by simp [Big.Norm], by simp [Big.val]⟩
theorem group_at {l : Nat} (h : 1 ≤ l) : 1 ≤ (l - 1) % 19 + 1 ∧ (l - 1) % 19 + 1 ≤ l ∧ (l - 1) % 19 + 1 ≤ 19 := by omega
theorem parse_fits {a g r : List UInt8} {c : Nat} (hd : Big.Digs (a ++ g)) (hc : (a ++ g ++ r).length ≤ 19 * c) : Big.dnum a * 10 ^ g.length + Big.dnum g < Big.M64 ^ c := by
  rw [← Big.dnum_append]
  have h1 := Big.dnum_lt hd
  have h2 : 10 ^ (a ++ g).length ≤ 10 ^ (19 * c) := Nat.pow_le_pow_right (by omega) (by rw [List.length_append] at hc; omega)
  have h3 : 10 ^ (19 * c) ≤ Big.M64 ^ c := by rw [Nat.pow_mul]; exact Nat.pow_le_pow_left (by unfold Big.M64; omega) c
  omega
theorem ext_take (r : ByteArray) (n : Nat) : (r.extract 0 n).data.toList = r.data.toList.take n := by simp [ByteArray.data_extract]
theorem ext_drop (r : ByteArray) (n : Nat) : (r.extract n r.size).data.toList = r.data.toList.drop n := by
  rw [ByteArray.data_extract]
  have h : r.size = r.data.size := rfl
  rw [Array.toList_extract, List.extract_eq_take_drop, h]
  exact List.take_of_length_le (by rw [List.length_drop, Array.length_toList]; exact Nat.le_refl _)
theorem Only.new_below {w w1 w2 : World} {g : Nat} (h : Only g w1 w2) (hb : Below w.heap.size w w1) (hg : w.heap.size ≤ g) : Below w.heap.size w w2 := h.below hb hg hb.size
set_option maxRecDepth 100000 in
set_option maxHeartbeats 2000000 in
theorem parse_any (w : World) (s : ByteArray) (h : Big.IsText s.data.toList) (hs : s.size ≤ 1000000) :
    Calls Tryz.prog 154 #[.string s] w (ParseR w (Big.dnum s.data.toList)) := by
  obtain ⟨i0, hi, hz0, hz1, hz2⟩ := info_parts Tryz.infoU64
  have HT := Lib.hid (isText_true w s h (by omega))
  have HD := Lib.hid h.2.2
  obtain ⟨c, hc⟩ : ∃ c, s.size / 19 + 1 = c := ⟨_, rfl⟩
  have hcI : (s.size : Int) / 19 + 1 = (c : Int) := by omega
  have hmk : ∀ W, (Instr.makeSlice 96 (.int .i64 0) (.int .i64 ((c : Nat) : Int))).run Tryz.prog W = .ok (.slice (some ⟨W.heap.size, 0, none⟩) 0 c) (W.alloc (.cells (cellsOf .u64 (List.replicate c 0)) 52)) := fun W =>
    make_words (P := Tryz.prog) Tryz.underlying96 hi hz0 hz1 (by rw [hz2]; omega) .i64 .i64 0 c (by omega) (by omega) W
  have HB := Lib.hid (Blk.new w 52 .u64 (List.replicate c 0))
  have HBel := Lib.hid (below_alloc (Below.refl w.heap.size w) (Nat.le_refl _) (.cells (cellsOf .u64 (List.replicate c 0)) 52))
  have hcb : c ≤ 1000000 := by omega
  have HC := Lib.hid (show s.data.toList.length ≤ 19 * c by rw [Array.length_toList]; show s.size ≤ _; omega)
  obtain ⟨L, hL⟩ : ∃ L, s.data.toList = L := ⟨_, rfl⟩
  rw [hL] at HD HC ⊢
  have HL := Lib.hid hL
  clear h hc hL
  go_enter Tryz.func154, Tryz.ntmps154
  go_wp2_with fail
  refine HT.out.mono ?_
  rintro e w' ⟨rfl, rfl⟩
  go_wp2_with fail
  clear hmk hcI
  go_loopw [0, 4] (fun sv xv wr => ∃ (a b : List UInt8) (r : ByteArray), sv = .string r ∧ Hid (r.data.toList = b ∧ a ++ b = L) ∧ Hid (OwnNat wr xv w.heap.size c (Big.dnum a)) ∧ Hid (Below w.heap.size w wr)) (fun sv _ _ => match sv with | .string r => r.size | _ => 0)
  case atStart => exact ⟨[], L, s, rfl, Lib.hid ⟨HL.out, rfl⟩, Lib.hid (own_zero HB.out (by omega)), HBel⟩
  case round =>
    obtain ⟨a, b, r, rfl, HR, HO, HBr⟩ := hrel
    have hrl : r.size = b.length := by rw [← HR.out.1, Array.length_toList]; rfl
    have hrs : r.size ≤ 1000000 := by
      have h1 := congrArg List.length HR.out.2
      rw [List.length_append] at h1
      have h2 : L.length = s.size := by rw [← HL.out, Array.length_toList]; rfl
      omega
    have HRL := Lib.hid hrl
    clear hrl
    by_cases hr0 : r.size = 0
    · have hI : ¬ ((r.size : Int) > 0) := by omega
      go_wp2_with fail
      go_ret2
      have hb0 : b = [] := by rw [← HR.out.1]; exact List.length_eq_zero_iff.1 (by rw [Array.length_toList]; exact hr0)
      have e := HR.out.2
      rw [hb0, List.append_nil] at e
      rw [← e]
      exact ⟨_, rfl, HO.out.nat, HBr.out⟩
    · have hI : (r.size : Int) > 0 := by omega
      obtain ⟨g1, g2, g3⟩ := group_at (l := r.size) (by omega)
      obtain ⟨n, hn⟩ : ∃ n, (r.size - 1) % 19 + 1 = n := ⟨_, rfl⟩
      have hnI : ((r.size : Int) - 1) % 19 + 1 = (n : Int) := by omega
      rw [hn] at g1 g2 g3
      have HX1 := Lib.hid (ext_take r n); have HX2 := Lib.hid (ext_drop r n)
      have hdb : Big.Digs b := fun d hd => HD.out d (by rw [← HR.out.2]; simp [hd])
      have hda : Big.Digs a := fun d hd => HD.out d (by rw [← HR.out.2]; simp [hd])
      have htl : (b.take n).length = n := by rw [List.length_take, ← HRL.out]; omega
      have hdt : Big.Digs (b.take n) := fun d hd => hdb d (List.mem_of_mem_take hd)
      have hgv := Big.dnum_lt hdt
      rw [htl] at hgv
      have hfit : Big.dnum a * 10 ^ n + Big.dnum (b.take n) < Big.M64 ^ c := by
        have h1 := parse_fits (a := a) (g := b.take n) (r := b.drop n) (c := c) (hda.append hdt) (by rw [List.append_assoc, List.take_append_drop, HR.out.2]; exact HC.out)
        rwa [htl] at h1
      have hT1 : 10 ^ n < Big.M64 := pow10_lt g3
      have hT0 : 1 ≤ 10 ^ n := Nat.one_le_pow _ _ (by omega)
      have CP := Lib.hid (fun W => power10_any W n g3)
      have CG := Lib.hid (fun W => groupValue_any W (r.extract 0 n) (by rw [HX1.out, HR.out.1]; exact hdt) (by
        have h1 : (r.extract 0 n).data.toList.length = n := by rw [HX1.out, HR.out.1]; exact htl
        rw [Array.length_toList] at h1
        show (r.extract 0 n).data.size ≤ 19
        omega))
      rw [HX1.out, HR.out.1] at CG
      have CM := Lib.hid (fun W (h : OwnNat W u4 w.heap.size c (Big.dnum a)) => mulAddWord_any W w.heap.size c (Big.dnum a) (10 ^ n) (Big.dnum (b.take n)) u4 h hT1 hT0 (by omega) hfit (by omega))
      have HAP := Lib.hid (show Big.dnum a * 10 ^ n + Big.dnum (b.take n) = Big.dnum (a ++ b.take n) by rw [Big.dnum_append, htl])
      rw [HAP.out] at CM
      obtain ⟨gv, hgvE⟩ : ∃ z, Big.dnum (b.take n) = z := ⟨_, rfl⟩
      rw [hgvE] at CG CM
      obtain ⟨T, hT⟩ : ∃ z, 10 ^ n = z := ⟨_, rfl⟩
      rw [hT] at CP CM
      have HO2 := Lib.hid (show OwnNat wr.drew u4 w.heap.size c (Big.dnum a) from HO.out)
      have hnI1 : (0 : Int) ≤ (n : Int) := by omega
      have hnI2 : (n : Int) ≤ (r.size : Int) := by omega
      clear hdb hda htl hdt hgv hfit hT1 hT0 hgvE hT hn
      go_wp2_with fail
      go_region_held3 (fun _ => True) (trivial)
        (first
          | (go_at_call 237; (with_reducible refine (CP.out _).mono ?_); rintro e w' ⟨rfl, rfl⟩)
          | (go_at_call 238; (with_reducible refine (CG.out _).mono ?_); rintro e w' ⟨rfl, rfl⟩)
          | (go_at_call 236; (with_reducible refine (CM.out _ HO2.out).mono ?_); rintro e w5 ⟨v5, rfl, hv5, hw5⟩)
          | fail)
      have HV5 := Lib.hid hv5
      have HB5 := Lib.hid (Only.new_below hw5 (show Below w.heap.size w wr.drew from below_drew HBr.out) (Nat.le_refl _))
      clear hv5 hw5
      go_wp2_with fail
      refine ⟨⟨a ++ b.take n, b.drop n, r.extract n r.size, rfl, Lib.hid ⟨by rw [HX2.out, HR.out.1], by rw [List.append_assoc, List.take_append_drop]; exact HR.out.2⟩, HV5, HB5⟩, ?_⟩
      have h1 : (r.extract n r.size).data.toList.length = r.size - n := by rw [HX2.out, List.length_drop, Array.length_toList]; rfl
      rw [Array.length_toList] at h1
      show (r.extract n r.size).data.size < r.size
      omega
end Go.Proofs.YtjjbhadnakjhdaaGreatDoor
namespace Go.Proofs.YtjjbhadnakjhdaaGreatDoor
open Go Go.RowKit
namespace Ev
def wordsN (n : Nat) : Nat := if n = 0 then 0 else Nat.log2 n / 64 + 1
theorem words_of {l : List Nat} (ol : Big.Ok Big.M64 l) (nl : Big.Norm l) : l.length = wordsN (Big.val Big.M64 l) := by
  unfold wordsN
  by_cases h0 : Big.val Big.M64 l = 0
  · rw [if_pos h0, Big.norm_zero Big.M64_pos l nl h0]; rfl
  · rw [if_neg h0]
    have hne : l ≠ [] := by intro e; subst e; exact h0 rfl
    have h1 := Big.norm_ge (B := Big.M64) l nl hne
    have h2 := Big.val_lt l ol
    generalize Big.val Big.M64 l = n at *
    have hM : ∀ k, Big.M64 ^ k = 2 ^ (64 * k) := fun k => by rw [Nat.pow_mul]; rfl
    rw [hM] at h1 h2
    have h3 := Nat.log2_self_le h0
    have h4 : n < 2 ^ (Nat.log2 n + 1) := Nat.lt_log2_self
    have hl : 0 < l.length := List.length_pos_iff.2 hne
    have h5 : Nat.log2 n < 64 * l.length := (Nat.pow_lt_pow_iff_right (by omega : 1 < 2)).1 (Nat.lt_of_le_of_lt h3 h2)
    have h6 : 64 * (l.length - 1) < Nat.log2 n + 1 := (Nat.pow_lt_pow_iff_right (by omega : 1 < 2)).1 (Nat.lt_of_le_of_lt h1 h4)
    omega
theorem nat_slice {w : World} {v : Value} {n : Nat} (h : NatIn w v n) : ∃ a c, v = .slice a (wordsN n) c := by
  obtain ⟨l, ⟨A, c, e, -, -, -⟩, ol, nl, rfl⟩ := h
  exact ⟨A, c, by rw [e, words_of ol nl]⟩
theorem nat_one {w : World} {v : Value} {n : Nat} (h : NatIn w v n) : isOne v = true := by
  obtain ⟨a, c, rfl⟩ := nat_slice h; rfl
theorem nat_stable {n : Nat} {w w' : World} {v : Value} (h : NatIn w v n) (hk : ∀ (b : Nat) (c : Array Value) (t : TypeId) (z : Nat × Nat), w.heap[b]? = some (.cells c t z) → Nat.beq t 52 = true → w'.heap[b]? = some (.cells c t z)) : NatIn w' v n := by
  obtain ⟨l, ⟨A, c, e, h1, h2, h3⟩, ol, nl, hv⟩ := h
  refine ⟨l, ⟨A, c, e, h1, h2, fun hp => ?_⟩, ol, nl, hv⟩
  obtain ⟨b, o, ea, hlt, hc, cs, hcs⟩ := h3 hp
  have hcs' := hk b cs _ _ hcs (Nat.beq_refl _)
  refine ⟨b, o, ea, (Array.getElem?_eq_some_iff.1 hcs').1, fun i hi => ?_, cs, hcs'⟩
  rw [← hc i hi]
  exact World.cell?_of_block (hcs'.trans hcs.symm)
theorem tab_at : ∃ g, g < Tryz.prog.globals.size ∧ Tryz.prog.globalNamed "internal/strconv.uint64pow10" = some g := by
  have h : (match Tryz.prog.globalNamed "internal/strconv.uint64pow10" with | some g => Nat.ble (g + 1) Tryz.prog.globals.size | none => false) = true := by kernel_rfl
  cases e : Tryz.prog.globalNamed "internal/strconv.uint64pow10" with
  | none => rw [e] at h; cases h
  | some g => rw [e] at h; exact ⟨g, Nat.le_of_ble_eq_true h, rfl⟩
noncomputable def natSig : Sig Nat where
  holds n w v := NatIn w v n
  hid t := Nat.beq t 52
  G := Tryz.prog.globals.size
  base := Tab
  baseS := by
    intro w w' h hk
    obtain ⟨g, hg, hn⟩ := tab_at
    unfold Tab Lib.TabIs World.var? at *
    rw [hn] at h ⊢
    simp only [Option.bind_some] at h ⊢
    cases hq : w.heap[g]? with
    | none => rw [hq] at h; cases h
    | some o => rw [hk g o hg hq]; rw [hq] at h; exact h
  stable := fun _ _ _ _ h hk => nat_stable h hk
noncomputable def natCfg0 : Cfg Nat where
  hid t := Nat.beq t 52
  G := Tryz.prog.globals.size
  tab f := Tryz.prog.funcs[f]?
  len n := some (wordsN n)
  hard _ _ := fail
noncomputable def natCfg : Cfg Nat where
  hid t := Nat.beq t 52
  G := Tryz.prog.globals.size
  tab f := Tryz.prog.funcs[f]?
  len n := some (wordsN n)
  hard := memHard Tryz.prog natCfg0
instance natHard : HardLoc natCfg := ⟨fun o vs => loc_memHard _ _ o vs⟩
theorem natFits : Fits natSig Tryz.prog natCfg where
  hid := rfl
  G := rfl
  len := fun f n w v h e => by
    have e' : wordsN f = n := Option.some.inj e
    obtain ⟨a, c, rfl⟩ := nat_slice h
    exact ⟨a, c, by rw [e']⟩
  tab := fun f fn h => by
    refine ⟨h, ?_⟩
    have hall : (Tryz.prog.funcs.all fun fn => !(fn.name == "runtime.NumGoroutine")) = true := by kernel_rfl
    have h1 := Array.all_eq_true_iff_forall_mem.1 hall fn (Array.mem_of_getElem? h)
    simpa using h1
  mixed := by kernel_rfl
  hard := memHard_ok rfl rfl rfl
section
variable {F : Type} {S : Sig F}
theorem ext_below {r : Ren} {g : Nat → Option (Blk F)} {w w' : World} (hM : Mod S r g w) (hb : Below w.heap.size w w') (nx : Nat) : Ext S r w nx nx [] g r w' := by
  have hk : ∀ (b : Nat) (o : Obj), w.heap[b]? = some o → w'.heap[b]? = some o := fun b o hbo => (hb.block b (Array.getElem?_eq_some_iff.1 hbo).1).trans hbo
  refine ⟨.refl r, ⟨hM.inj, fun n b hn => Nat.lt_of_lt_of_le (hM.lt n b hn) hb.size, fun n c t hn => ?_, fun n f hn => ?_, S.baseS w w' hM.base fun b o _ => hk b o, hM.glob, hM.own, fun n c t hn => ?_⟩, fun _ h => .inl h, fun _ _ h => .inl h, fun b o hbo _ => hk b o hbo, hb.size, hb.os, hb.tape, hb.output⟩
  · obtain ⟨b, c', h1, h2, h3, h4⟩ := hM.cells n c t hn
    exact ⟨b, c', h1, hk b _ h2, h3, h4⟩
  · obtain ⟨v, h1, h2, h3⟩ := hM.fact n f hn
    exact ⟨v, h1, S.stable f w w' v h2 fun b c t z hbo _ => hk b _ hbo, h3⟩
  · obtain ⟨b, c', h1, h2, h3, h4, h5⟩ := hM.room n c t hn
    exact ⟨b, c', h1, hk b _ h2, h3, h4, h5⟩
theorem ext_fact {r : Ren} {g : Nat → Option (Blk F)} {w w' : World} {nx : Nat} {f : F} {v' : Value} (hM : Mod S r g w) (hb : Below w.heap.size w w') (hN : New r nx (nx + 1)) (hh : S.holds f w' v') (ho : isOne v' = true) :
    ∃ r', Ext S r w nx (nx + 1) [] (fun n => if n = nx then some (.fact f) else g n) r' w' ∧ r'.val nx = some v' := by
  have hno := hN nx (Nat.le_refl _) (Nat.lt_succ_self _)
  have hX := ext_below hM hb nx
  have hle : r.le ⟨r.blk, fun n => if n = nx then some v' else r.val n, r.len⟩ := by
    refine ⟨fun _ _ e => e, fun n v e => ?_, fun _ _ _ => rfl⟩
    have : n ≠ nx := fun h => by rw [h, hno.2] at e; cases e
    simp only [if_neg this, e]
  refine ⟨⟨r.blk, fun n => if n = nx then some v' else r.val n, r.len⟩, ⟨hle, ⟨fun n m b h1 h2 => (hM.inj n m b h1 h2).imp id (Or.imp (Gone.over_fact nx f) (Gone.over_fact nx f)), hX.mod.lt, fun n c t hn => ?_, fun n f' hn => ?_, hX.mod.base, hM.glob, hM.own, fun n c t hn => ?_⟩, fun n hn => ?_, fun _ _ h => .inl h, hX.keep, hX.size, hX.os, hX.tape, hX.output⟩, by simp⟩
  · by_cases h : n = nx
    · simp only [if_pos h, Option.some.injEq] at hn; cases hn
    · simp only [if_neg h] at hn
      obtain ⟨b, c', h1, h2, h3, h4⟩ := hX.mod.cells n c t hn
      exact ⟨b, c', h1, h2, h3.mono hle, h4⟩
  · by_cases h : n = nx
    · simp only [if_pos h, Option.some.injEq, Blk.fact.injEq] at hn
      subst hn
      exact ⟨v', by simp [h], hh, ho⟩
    · simp only [if_neg h] at hn
      obtain ⟨v, h1, h2, h3⟩ := hX.mod.fact n f' hn
      exact ⟨v, by simp only [if_neg h, h1], h2, h3⟩
  · by_cases h : n = nx
    · simp only [if_pos h, Option.some.injEq] at hn; cases hn
    · simp only [if_neg h] at hn
      obtain ⟨b, c', h1, h2, h3, h4, h5⟩ := hX.mod.room n c t hn
      exact ⟨b, c', h1, h2, h3.mono hle, h4, h5⟩
  · by_cases h : n = nx
    · exact .inr ⟨by omega, by omega⟩
    · simp only [if_neg h] at hn; exact .inl hn
end
noncomputable def isNilV : Value → Bool
  | .slice a n c => match a with
    | none => Nat.beq n 0 && Nat.beq c 0
    | some _ => false
  | _ => false
noncomputable def natV (v : Value) : M Nat Nat := cond (isNilV v) (ret 0) (fact v)
theorem loc_natV (v : Value) : Loc (natV v) := loc_cond (loc_ret _) (loc_fact v)
theorem fact_ok {F : Type} {S : Sig F} {v v' : Value} {f : F} {h h' : Tr (Blk F)} {nx nx' : Nat} {R W : List Nat} {r : Ren} {w : World} (e : (fact v : M F F) h nx = .ok f h' nx' R W) (hv : VR r v v') (hM : Mod S r h.get w) : h' = h ∧ nx' = nx ∧ W = [] ∧ S.holds f w v' := by
  unfold fact at e
  cases v with
  | chan i =>
    cases i with
    | none => simp [fail] at e
    | some i =>
      simp only at e
      obtain ⟨bl, h3, nx3, R3, W3, R4, W4, e3, e4, rfl, rfl⟩ := bind_ok e
      unfold rd at e3
      cases hg : h.get i with
      | none => rw [hg] at e3; cases e3
      | some bl2 =>
        rw [hg] at e3
        cases e3
        cases bl with
        | cells _ _ => simp [fail] at e4
        | room _ _ => simp [fail] at e4
        | fact f2 =>
          simp only at e4
          obtain ⟨rfl, rfl, rfl, rfl⟩ := ret_ok e4
          obtain ⟨v0, hv0, hh, ho⟩ := hM.fact _ _ hg
          refine ⟨rfl, rfl, by simp, ?_⟩
          cases hv with
          | same p => simp [plain] at p
          | opq hp _ => rw [hv0] at hp; injection hp with hp; subst hp; exact hh
  | _ => simp [fail] at e
theorem natV_ok {v v' : Value} {n : Nat} {h h' : Tr (Blk Nat)} {nx nx' : Nat} {R W : List Nat} {r : Ren} {w : World} (e : natV v h nx = .ok n h' nx' R W) (hv : VR r v v') (hM : Mod natSig r h.get w) : h' = h ∧ nx' = nx ∧ W = [] ∧ NatIn w v' n := by
  unfold natV at e
  cases hi : isNilV v with
  | true =>
    rw [hi] at e
    obtain ⟨rfl, rfl, rfl, rfl⟩ := ret_ok e
    refine ⟨rfl, rfl, rfl, ?_⟩
    cases v with
    | slice a m c =>
      cases a with
      | some _ => simp [isNilV] at hi
      | none =>
        simp only [isNilV, Bool.and_eq_true] at hi
        have h1 := Nat.eq_of_beq_eq_true hi.1
        have h2 := Nat.eq_of_beq_eq_true hi.2
        subst h1; subst h2
        rw [hv.nilslc]
        exact NatIn.nil_ w
    | _ => simp [isNilV] at hi
  | false =>
    rw [hi] at e
    exact fact_ok e hv hM
def SumF {F : Type} (S : Sig F) (P : Program) (f : FuncId) (g : List Value → Option (M F Value)) : Prop := ∀ args m, g args = some m → Loc m ∧ ∀ h nx v h' nx' R W, m h nx = .ok v h' nx' R W →
  ∀ (r : Ren) (w : World) (args' : List Value), VsR r args args' → Mod S r h.get w → New r nx nx' → Calls P f ⟨args'⟩ w fun e w' => ∃ v' r', e = .returned v' ∧ VR r' v v' ∧ Ext S r w nx nx' W h'.get r' w'
noncomputable def mkTab {G : Type} : List (Nat × G) → Tr G
  | [] => .nil
  | x :: l => (mkTab l).set x.1 x.2
theorem mkTab_get {G : Type} {f : Nat} {g : G} : ∀ {l : List (Nat × G)}, (mkTab l).get f = some g → (f, g) ∈ l
  | [], h => by simp [mkTab, Tr.get_nil] at h
  | x :: l, h => by
    rw [mkTab, Tr.get_set] at h
    by_cases e : f = x.1
    · rw [if_pos e] at h
      injection h with h
      obtain ⟨a, b⟩ := x
      simp only at e h
      subst e; subst h
      exact List.mem_cons_self
    · rw [if_neg e] at h
      exact List.mem_cons_of_mem _ (mkTab_get h)
noncomputable def sumsOf {F : Type} (t : Tr (List Value → Option (M F Value))) : Sums F := fun f args => match t.get f with
  | some g => g args
  | none => none
theorem sumsOf_ok {F : Type} {S : Sig F} {P : Program} {l : List (Nat × (List Value → Option (M F Value)))} (h : ∀ x ∈ l, SumF S P x.1 x.2) : SumOK S P (sumsOf (mkTab l)) := by
  have key : ∀ f args m, sumsOf (mkTab l) f args = some m → ∃ g, SumF S P f g ∧ g args = some m := by
    intro f args m e
    unfold sumsOf at e
    cases hg : (mkTab l).get f with
    | none => rw [hg] at e; cases e
    | some g => rw [hg] at e; exact ⟨g, h _ (mkTab_get hg), e⟩
  refine ⟨fun f args m e => ?_, fun f args m e h nx v h' nx' R W hr r w args' ha hM hN => ?_⟩
  · obtain ⟨g, hs, hg⟩ := key f args m e
    exact (hs args m hg).1
  · obtain ⟨g, hs, hg⟩ := key f args m e
    exact (hs args m hg).2 _ _ _ _ _ _ _ hr.ok r w args' ha hM hN
end Ev
end Go.Proofs.YtjjbhadnakjhdaaGreatDoor
namespace Go.Proofs.YtjjbhadnakjhdaaGreatDoor
open Go.RowKit
end Go.Proofs.YtjjbhadnakjhdaaGreatDoor
namespace Go.Proofs.YtjjbhadnakjhdaaGreatDoor
open Go.RowKit
end Go.Proofs.YtjjbhadnakjhdaaGreatDoor
namespace Go.Proofs.YtjjbhadnakjhdaaGreatDoor
open Go.RowKit
end Go.Proofs.YtjjbhadnakjhdaaGreatDoor
namespace Go.Proofs.YtjjbhadnakjhdaaGreatDoor
open Go.RowKit
end Go.Proofs.YtjjbhadnakjhdaaGreatDoor
namespace Go.Proofs.YtjjbhadnakjhdaaGreatDoor
open Go.RowKit
end Go.Proofs.YtjjbhadnakjhdaaGreatDoor
namespace Go.Proofs.YtjjbhadnakjhdaaGreatDoor
open Go.RowKit
theorem sizeT {P : Program} {f : FuncId} {args : Array Value} {b W : World} {v : Value} (h : Below b.heap.size b W) (c : Calls P f args W fun e w' => e = .returned v ∧ W = w') :
    Calls P f args W fun e w' => e = .returned v ∧ Below b.heap.size b w' :=
  c.mono fun _ _ ⟨h1, h2⟩ => ⟨h1, h2 ▸ h⟩
end Go.Proofs.YtjjbhadnakjhdaaGreatDoor
namespace Go.Proofs.YtjjbhadnakjhdaaGreatDoor
open Go.RowKit
set_option maxRecDepth 100000 in
theorem copy_run (W : World) (g off g2 n : Nat) (cur xs : List Nat) (hb : Blk W g 52 .u64 cur) (hs : Blk W g2 52 .u64 xs) (hx : xs.length = n) (hfit : off + n ≤ cur.length) (ty : TypeId) :
    ∃ W', (Builtin.copy_ #[96, 96] ty #[.slice (some ⟨g, off, none⟩) n n, .slice (some ⟨g2, 0, none⟩) n n]).run Tryz.prog W = .ok (.int .i64 (n : Int)) W' ∧
      Hid (Blk W' g 52 .u64 (cur.take off ++ (xs ++ cur.drop (off + n))) ∧ ∀ B w0, Below B w0 W → B ≤ g → Below B w0 W') := by
  subst hx
  have hu : (Tryz.prog.info? 52).map (·.size) = some 1 := by
    obtain ⟨i0, hi, -, hz1, -⟩ := info_parts Tryz.infoU64
    rw [hi]; simp [hz1]
  have hlen : (xs.map fun d => Value.int .u64 ((d : Nat) : Int)).length = xs.length := by simp
  have h := run_copy_row (P := Tryz.prog) W 96 96 ty 52 g off xs.length xs.length ⟨g2, 0, none⟩ xs.length xs.length (cellsOf .u64 cur) 52 (xs.map fun d => Value.int .u64 ((d : Nat) : Int))
    Tryz.underlying96 hu hb (by rw [hlen]; exact (Nat.min_self _).symm) (fun j v hv => by
      have hj : j < xs.length := by
        rcases Nat.lt_or_ge j xs.length with h | h
        · exact h
        · rw [List.getElem?_eq_none (by simpa using h)] at hv; cases hv
      rw [List.getElem?_map, List.getElem?_eq_getElem hj] at hv
      have := hs.cell j hj
      unfold Big.nth at this
      rw [List.getD_eq_getElem?_getD, List.getElem?_eq_getElem hj] at this
      simp at hv
      rw [← hv]
      unfold Addr.add
      split
      · rename_i h0; subst h0; simpa using this
      · simpa using this) (by rw [hlen]; simpa [cellsOf] using hfit) (by intro v hv; simp at hv; obtain ⟨_, _, rfl⟩ := hv; rfl)
  rw [hlen] at h
  refine ⟨_, h, Lib.hid ⟨?_, fun B w0 hB hg => below_setRow hB hg _⟩⟩
  have e := setRow_heap W g (cellsOf .u64 cur) ((cellsOf .u64 cur).toList.take off ++ (xs.map fun d => Value.int .u64 ((d : Nat) : Int)) ++ (cellsOf .u64 cur).toList.drop (off + xs.length)).toArray 52 _ hb
  unfold Blk
  rw [e]
  congr 2
  simp [cellsOf, List.map_drop, List.map_take]
def IsBits (n s : Nat) : Prop := (n = 0 ∧ s = 0) ∨ (1 ≤ s ∧ 2 ^ (s - 1) ≤ n ∧ n < 2 ^ s)
theorem M64_pow (k : Nat) : Big.M64 ^ k = 2 ^ (64 * k) := by rw [Big.M64_eq, show (18446744073709551616 : Nat) = 2 ^ 64 by decide, ← Nat.pow_mul]
theorem isBits_top {r : List Nat} {t b : Nat} (or : Big.Ok Big.M64 r) (h1 : 2 ^ (b - 1) ≤ t) (h2 : t < 2 ^ b) (hb : 1 ≤ b) : IsBits (Big.val Big.M64 (r ++ [t])) (64 * r.length + b) := by
  rw [Big.val_snoc, M64_pow]
  have hr := Big.val_lt r or
  rw [M64_pow] at hr
  refine .inr ⟨by omega, ?_, ?_⟩
  · rw [show 64 * r.length + b - 1 = 64 * r.length + (b - 1) by omega, Nat.pow_add]
    have := Nat.mul_le_mul_left (2 ^ (64 * r.length)) h1
    omega
  · rw [Nat.pow_add]
    have := Nat.mul_le_mul_left (2 ^ (64 * r.length)) (show t + 1 ≤ 2 ^ b from h2)
    rw [Nat.mul_add] at this
    omega
theorem bits_any (w : World) (v : Value) (n : Nat) (h : NatIn w v n) (hn : n < Big.M64 ^ Big.KX) :
    Calls Tryz.prog 297 #[v] w fun e w' => ∃ s : Nat, e = .returned (.int .i64 (s : Int)) ∧ IsBits n s ∧ s ≤ 64000000000 ∧ w = w' := by
  obtain ⟨l, hw, ol, nl, rfl⟩ := h
  have hl := len_of_lt nl hn
  rw [Big.KX_eq] at hl
  obtain ⟨A, c, rfl, h1, h2, h3⟩ := hw
  by_cases hne : l = []
  · subst hne
    clear hn h3 nl ol
    go_enter Tryz.func297, Tryz.ntmps297
    go_wp2
    go_ret
    exact ⟨0, rfl, .inl ⟨rfl, rfl⟩, by omega, rfl⟩
  · obtain ⟨r, t, rfl, ht0⟩ := norm_last nl hne
    have hlr : (r ++ [t]).length = r.length + 1 := by simp
    obtain ⟨b, o, rfl, hlt, hc, -⟩ := h3 (by omega)
    have hcell := hc r.length (by omega)
    have ent : Big.nth (r ++ [t]) r.length = t := by unfold Big.nth; rw [List.getD_eq_getElem?_getD, List.getElem?_append_right (Nat.le_refl _)]; simp
    rw [ent] at hcell
    have htM : t < 18446744073709551616 := by rw [← Big.M64_eq]; exact ol t (by simp)
    obtain ⟨b1, b2, b3, b4⟩ := bitLen_bd t htM ht0
    have HS := Lib.hid (isBits_top (b := Lib.bitLen t) (fun d hd => ol d (by simp [hd]) : Big.Ok Big.M64 r) b3 b4 b1)
    have hc0 : (((r ++ [t]).length : Int) == 0) = false := beq_eq_false_iff_ne.2 (by omega)
    have CL := Lib.hid (lz_any t htM)
    rw [hlr] at h1 hl hc0 ⊢
    clear h3 hc hlr ent b3 b4 htM hne nl ol hn
    generalize Lib.bitLen t = bl at *
    generalize Big.val Big.M64 (r ++ [t]) = N at *
    generalize r.length = m at *
    have hc1 : ((m : Int) + 1 == 0) = false := beq_eq_false_iff_ne.2 (by omega)
    go_enter Tryz.func297, Tryz.ntmps297
    go_wp2_with (go_at_call 260; refine (CL.out _).mono ?_; rintro e w' ⟨rfl, rfl⟩)
    go_ret
    refine ⟨_, ?_, HS.out, by omega, rfl⟩
    apply ret_int
    omega
theorem shl_val {l Z : List Nat} {d r : Nat} (oZ : Big.Ok Big.M64 Z) (hZ : Z.length = l.length + 1) (hv : Big.val Big.M64 Z = Big.val Big.M64 l * 2 ^ r) :
    Big.Ok Big.M64 ((List.replicate (d + (l.length + 1)) 0).take d ++ (Z ++ (List.replicate (d + (l.length + 1)) 0).drop (d + (l.length + 1)))) ∧ Big.val Big.M64 ((List.replicate (d + (l.length + 1)) 0).take d ++ (Z ++ (List.replicate (d + (l.length + 1)) 0).drop (d + (l.length + 1)))) = Big.val Big.M64 l * 2 ^ (64 * d + r) ∧
    ((List.replicate (d + (l.length + 1)) 0).take d ++ (Z ++ (List.replicate (d + (l.length + 1)) 0).drop (d + (l.length + 1)))).length = d + (l.length + 1) := by
  rw [List.drop_eq_nil_of_le (by simp), List.append_nil, List.take_replicate, show min d (d + (l.length + 1)) = d by omega]
  refine ⟨Big.Ok.append (fun x hx => by rw [List.mem_replicate] at hx; rw [hx.2]; exact Big.M64_pos) oZ, ?_, by simp [hZ]⟩
  rw [Big.val_append, Big.val_replicate, List.length_replicate, hv, M64_pow, Nat.pow_add, Nat.zero_add, Nat.mul_left_comm]
theorem alloc_sz (w : World) (o : Obj) : (w.alloc o).heap.size = w.heap.size + 1 := by simp
theorem shl_fin {w : World} {g d n x : Nat} {R : List Nat} (hd : d ≤ 1000000000) (hl : n ≤ 1000000000) (hb : Blk w g 52 .u64 R) (h : Big.Ok Big.M64 R ∧ Big.val Big.M64 R = x ∧ R.length = d + (n + 1)) :
    ∃ R : List Nat, Wd w .u64 (.slice (some ⟨g, 0, none⟩) (d + (n + 1)) (d + (n + 1))) R ∧ Big.Ok Big.M64 R ∧ Big.val Big.M64 R = x := by
  obtain ⟨h1, h2, h3⟩ := h
  refine ⟨R, ?_, h1, h2⟩
  have := hb.wd0 (d + (n + 1)) (by omega) (by omega)
  rwa [h3] at this
set_option maxRecDepth 100000 in
set_option maxHeartbeats 2000000 in
theorem shl_words (w : World) (v : Value) (l : List Nat) (d r : Nat) (h : Wd w .u64 v l) (ol : Big.Ok Big.M64 l) (hl0 : l.length ≠ 0) (hr : r ≤ 63) (hd : d ≤ 1000000000) (h0 : 64 * d + r ≠ 0) (hl : l.length ≤ 1000000000) :
    Calls Tryz.prog 248 #[v, .int .i64 ((64 * d + r : Nat) : Int)] w fun e w' => ∃ v', e = .returned v' ∧ NatIn w' v' (Big.val Big.M64 l * 2 ^ (64 * d + r)) ∧ Below w.heap.size w w' := by
  obtain ⟨i0, hi, hz0, hz1, hz2⟩ := info_parts Tryz.infoU64
  have hmk := fun W => make_words (P := Tryz.prog) Tryz.underlying96 hi hz0 hz1 (by rw [hz2]; omega) .i64 .i64 (d + (l.length + 1)) (d + (l.length + 1)) (Nat.le_refl _) (by omega) W
  rw [show ((d + (l.length + 1) : Nat) : Int) = (d : Int) + (l.length : Int) + 1 by omega] at hmk
  have hu : (Tryz.prog.info? 52).map (·.size) = some 1 := by rw [hi]; simp [hz1]
  have hb0 : Blk (w.alloc (.cells (cellsOf .u64 (List.replicate (d + (l.length + 1)) 0)) 52)) w.heap.size 52 .u64 (List.replicate (d + (l.length + 1)) 0) := Blk.new _ _ _ _
  have hbel0 : Below w.heap.size w (w.alloc (.cells (cellsOf .u64 (List.replicate (d + (l.length + 1)) 0)) 52)) := (Below.refl _ _).alloc (Nat.le_refl _) _
  have hw0 : Wd (w.alloc (.cells (cellsOf .u64 (List.replicate (d + (l.length + 1)) 0)) 52)) .u64 v l := Wd.keep h hbel0
  have H0 := Lib.hid (And.intro hb0 (And.intro hbel0 hw0))
  have CS := Lib.hid (show ∀ W (hW : Wd W .u64 v l) (hs : W.heap.size = w.heap.size + 1), Calls Tryz.prog 277 #[v, .int .i64 (r : Int)] W fun e w' => e = .returned (.slice (some ⟨w.heap.size + 1, 0, none⟩) (l.length + 1) (l.length + 1)) ∧
      ∃ Z, Blk w' (w.heap.size + 1) 52 .u64 Z ∧ Z.length = l.length + 1 ∧ Big.Ok Big.M64 Z ∧ Big.val Big.M64 Z = Big.val Big.M64 l * 2 ^ r ∧ Below (w.heap.size + 1) W w' from fun W hW hs => by
    have h := shifted_any W v l r hW ol hr hl
    rw [hs] at h; exact h)
  have hsz : ((w.alloc (.cells (cellsOf .u64 (List.replicate (d + (l.length + 1)) 0)) 52)).drew).heap.size = w.heap.size + 1 := alloc_sz w _
  have HSZ := Lib.hid hsz
  have HV := Lib.hid (fun Z (o : Big.Ok Big.M64 Z) e1 e2 => shl_val (l := l) (d := d) (r := r) (Z := Z) o e1 e2)
  obtain ⟨n, hn⟩ : ∃ n : Int, ((64 * d + r : Nat) : Int) = n := ⟨_, rfl⟩
  have q1 : Int.tdiv n 64 = d := by subst hn; rw [Int.tdiv_eq_ediv_of_nonneg (Int.natCast_nonneg _)]; omega
  have q2 : Int.tmod n 64 = r := by subst hn; rw [Int.tmod_eq_emod_of_nonneg (Int.natCast_nonneg _)]; omega
  have q3 : (n ≤ 0) = False := by rw [eq_iff_iff, iff_false]; omega
  rw [hn]
  have hc0 : ((l.length : Int) == 0) = false := beq_eq_false_iff_ne.2 (by omega)
  obtain ⟨A, c, rfl, h1, h2, h3⟩ := h
  clear hb0 hbel0 hw0 h3 ol hn hsz
  have hcap : ¬ (d + (l.length + 1) = d) := by omega
  have hcap2 : d + (l.length + 1) - d = l.length + 1 := by omega
  have hw3 : (d : Int) ≤ (d : Int) + (l.length + 1 : Int) := by omega
  have hwr : IntKind.i64.wrap ((d : Nat) : Int) = (d : Int) := by rw [IntKind.wrap_i64]; omega
  go_enter Tryz.func248, Tryz.ntmps248
  go_wp2_with fail
  go_region_with (first
    | (go_at_call 277; (with_reducible refine (CS.out _ (H0.out.2.2.keep (Below.refl _ _).drew) HSZ.out).mono ?_); rintro e w2 ⟨rfl, Z, hB, hZ, oZ, vZ, hw2⟩; obtain ⟨w3, hcp, HC⟩ := copy_run w2 w.heap.size d (w.heap.size + 1) _ _ _ (Blk.below' (H0.out.1.drewN 1) hw2 (Nat.lt_succ_self _)) hB hZ (by simp) 3;
       have HF := Lib.hid (shl_fin hd hl HC.out.1 (HV.out Z oZ hZ vZ)); have HBel := Lib.hid (HC.out.2 _ _ ((H0.out.2.1.drew).trans (hw2.mono (Nat.le_succ _))) (Nat.le_refl _)); clear HC hB hZ oZ vZ hw2))
  all_goals
    go_wp2_with (go_at_call 146; (with_reducible refine (trim_any _ _ _ HF.out.choose_spec.1).mono ?_); rintro e w' ⟨v', rfl, hv', rfl⟩)
    go_ret
    exact ⟨v', rfl, ⟨_, hv', Big.strip_ok HF.out.choose_spec.2.1, Big.strip_norm _, by rw [Big.strip_val, HF.out.choose_spec.2.2]⟩, HBel.out⟩
theorem shl_any (w : World) (v : Value) (x : Nat) (n : Int) (h : NatIn w v x) (hx : x < Big.M64 ^ Big.KX) (hn : n ≤ 64000000000) :
    Calls Tryz.prog 248 #[v, .int .i64 n] w fun e w' => ∃ v', e = .returned v' ∧ NatIn w' v' (x * 2 ^ n.toNat) ∧ Below w.heap.size w w' := by
  have HN := h
  obtain ⟨l, h1, h2, h3, rfl⟩ := h
  have hl := len_of_lt h3 hx
  rw [Big.KX_eq] at hl
  by_cases l0 : l.length = 0
  · obtain rfl : l = [] := List.eq_nil_of_length_eq_zero l0
    have H := Lib.hid HN
    obtain ⟨A, c, rfl, -, -, -⟩ := h1
    simp only [Big.val, Nat.zero_mul]
    clear hx hn h2 h3 hl HN
    go_enter Tryz.func248, Tryz.ntmps248
    go_wp2
    go_ret
    exact ⟨_, rfl, H.out, Below.refl _ _⟩
  by_cases n0 : n ≤ 0
  · have H := Lib.hid HN
    obtain ⟨A, c, rfl, -, -, -⟩ := h1
    have t1 : ((l.length : Int) == 0) = false := beq_eq_false_iff_ne.2 (by omega)
    rw [show n.toNat = 0 by omega, Nat.pow_zero, Nat.mul_one]
    generalize Big.val Big.M64 l = X at *
    clear hx hn h2 h3 hl HN l0
    go_enter Tryz.func248, Tryz.ntmps248
    go_wp2
    go_ret
    exact ⟨_, rfl, H.out, Below.refl _ _⟩
  obtain ⟨N, rfl⟩ : ∃ N : Nat, n = N := ⟨n.toNat, by omega⟩
  rw [Int.toNat_natCast]
  have e : 64 * (N / 64) + N % 64 = N := Nat.div_add_mod N 64
  have C := shl_words w v l (N / 64) (N % 64) h1 h2 l0 (by omega) (by omega) (by omega) hl
  rw [e] at C
  exact C
theorem isBits_fn {n s t : Nat} (h : IsBits n s) (k : IsBits n t) : s = t := by
  rcases h with ⟨rfl, rfl⟩ | ⟨h1, h2, h3⟩ <;> rcases k with ⟨k0, rfl⟩ | ⟨k1, k2, k3⟩
  · rfl
  · have := Nat.pow_pos (n := t - 1) (show 0 < 2 by omega); omega
  · have := Nat.pow_pos (n := s - 1) (show 0 < 2 by omega); omega
  · rcases Nat.lt_trichotomy s t with h | h | h
    · have := Nat.pow_le_pow_right (show 0 < 2 by omega) (show s ≤ t - 1 by omega); omega
    · exact h
    · have := Nat.pow_le_pow_right (show 0 < 2 by omega) (show t ≤ s - 1 by omega); omega
end Go.Proofs.YtjjbhadnakjhdaaGreatDoor
namespace Go.Proofs.YtjjbhadnakjhdaaGreatDoor
open Go.RowKit
def bitsN (n : Nat) : Nat := if n = 0 then 0 else Nat.log2 n + 1
theorem bitsN_is (n : Nat) : IsBits n (bitsN n) := by
  unfold bitsN
  split
  · rename_i h; exact .inl ⟨h, rfl⟩
  · rename_i h
    refine .inr ⟨by omega, ?_, Nat.lt_log2_self⟩
    rw [Nat.add_sub_cancel]; exact Nat.log2_self_le h
theorem bits_num (w : World) (v : Value) (n k : Nat) (h : NatIn w v n) (hn : Sz k n) (hk : k ≤ 100000000) :
    Calls Tryz.prog 297 #[v] w fun e w' => e = .returned (.int .i64 ((bitsN n : Nat) : Int)) ∧ w = w' :=
  (bits_any w v n h (hn.kx hk)).mono fun _ _ ⟨s, h1, h2, _, h3⟩ => ⟨by rw [h1, isBits_fn h2 (bitsN_is n)], h3⟩
theorem shl_num (w : World) (v : Value) (n k : Nat) (s : Int) (h : NatIn w v n) (hn : Sz k n) (hk : k ≤ 100000000) (hs : s ≤ 64000000000) :
    Calls Tryz.prog 248 #[v, .int .i64 s] w (Nat1 w (n * 2 ^ s.toNat)) := shl_any w v n s h (hn.kx hk) hs
end Go.Proofs.YtjjbhadnakjhdaaGreatDoor
namespace Go.Proofs.YtjjbhadnakjhdaaGreatDoor
open Go Go.RowKit
namespace Ev
section
variable {h h' : Tr (Blk Nat)} {nx nx' : Nat} {R W : List Nat} {r : Ren} {w : World} {v : Value}
def Goes (f : FuncId) (args' : List Value) (r : Ren) (w : World) (nx nx' : Nat) (W : List Nat) (g' : Nat → Option (Blk Nat)) (v : Value) : Prop :=
  Calls Tryz.prog f ⟨args'⟩ w fun e w' => ∃ v' r', e = .returned v' ∧ VR r' v v' ∧ Ext natSig r w nx nx' W g' r' w'
theorem goes_new {N : Nat} {f : FuncId} {args' : List Value} (e : (newFact N : M Nat Value) h nx = .ok v h' nx' R W) (hM : Mod natSig r h.get w) (hN : New r nx nx') (c : Calls Tryz.prog f ⟨args'⟩ w (Nat1 w N)) : Goes f args' r w nx nx' W h'.get v := by
  obtain ⟨i, h1, nx1, R1, W1, R2, W2, e1, e2, rfl, rfl⟩ := bind_ok e
  obtain ⟨rfl, rfl, rfl, rfl⟩ := ret_ok e2
  unfold fresh at e1
  cases e1
  refine c.mono ?_
  rintro en w' ⟨v', rfl, hv, hb⟩
  obtain ⟨r', hX, hr⟩ := ext_fact (S := natSig) (f := N) hM hb hN hv (nat_one hv)
  exact ⟨v', r', rfl, .opq hr (nat_one hv), by simpa using hX.congr fun n => .inr (Tr.get_set _ _ _ _)⟩
theorem goes_val {u : Value} {f : FuncId} {args' : List Value} (e : (ret u : M Nat Value) h nx = .ok v h' nx' R W) (hp : plain2 u = true) (hM : Mod natSig r h.get w) (c : Calls Tryz.prog f ⟨args'⟩ w fun e w' => e = .returned u ∧ Below w.heap.size w w') : Goes f args' r w nx nx' W h'.get v := by
  obtain ⟨rfl, rfl, rfl, rfl⟩ := ret_ok e
  refine c.mono ?_
  rintro en w' ⟨rfl, hb⟩
  exact ⟨_, r, rfl, VR.same2 hp, ext_below hM hb _⟩
theorem same_below {f : FuncId} {args' : List Value} {u : Value} (c : Calls Tryz.prog f ⟨args'⟩ w fun e w' => e = .returned u ∧ w = w') : Calls Tryz.prog f ⟨args'⟩ w fun e w' => e = .returned u ∧ Below w.heap.size w w' :=
  c.mono fun _ _ ⟨h1, h2⟩ => ⟨h1, h2 ▸ Below.refl _ _⟩
theorem drew_below {f : FuncId} {args' : List Value} {u : Value} (c : Calls Tryz.prog f ⟨args'⟩ w fun e w' => e = .returned u ∧ Drew w w') : Calls Tryz.prog f ⟨args'⟩ w fun e w' => e = .returned u ∧ Below w.heap.size w w' :=
  c.mono fun _ _ ⟨h1, h2⟩ => ⟨h1, h2.below _⟩
noncomputable def small (n : Nat) : Bool := Nat.ble (Nat.log2 n) 60000
theorem m64_log {n k : Nat} (h : Nat.log2 n + 1 ≤ 64 * k) : n < Big.M64 ^ k := by
  have hM : ∀ k, Big.M64 ^ k = 2 ^ (64 * k) := fun k => by rw [Nat.pow_mul]; rfl
  rw [hM]
  exact Nat.lt_of_lt_of_le Nat.lt_log2_self (Nat.pow_le_pow_right (by omega) h)
theorem sz_log {n k : Nat} (h : Nat.log2 n + 1 ≤ 64 * k) : Sz k n := ⟨m64_log h⟩
theorem sz_small {n : Nat} (h : small n = true) : Sz 1000 n := by
  have h1 := Nat.le_of_ble_eq_true h
  exact sz_log (by omega)
noncomputable def two (args : List Value) (k : Nat → Nat → M Nat Value) : Option (M Nat Value) := match args with
  | [a, b] => some (bind (natV a) fun n => bind (natV b) fun m => cond (small n && small m) (k n m) fail)
  | _ => none
noncomputable def one (args : List Value) (k : Nat → M Nat Value) : Option (M Nat Value) := match args with
  | [a] => some (bind (natV a) fun n => cond (small n) (k n) fail)
  | _ => none
theorem two_ok {f : FuncId} {k : Nat → Nat → M Nat Value} (hl : ∀ n m, Loc (k n m)) (hk : ∀ n m (h : Tr (Blk Nat)) nx v h' nx' R W, k n m h nx = .ok v h' nx' R W → ∀ r w a b, NatIn w a n → NatIn w b m → Sz 1000 n → Sz 1000 m → Mod natSig r h.get w → New r nx nx' → Goes f [a, b] r w nx nx' W h'.get v) :
    SumF natSig Tryz.prog f (fun args => two args k) := by
  intro args m e
  unfold two at e
  rcases args with _ | ⟨a, _ | ⟨b, _ | ⟨c, l⟩⟩⟩ <;> simp only [reduceCtorEq, Option.some.injEq] at e
  subst e
  refine ⟨loc_bind (loc_natV a) fun n => loc_bind (loc_natV b) fun m => loc_cond (hl n m) loc_fail, ?_⟩
  intro h nx v h' nx' R W e r w args' ha hM hN
  cases ha with
  | cons ha1 ha2 =>
    cases ha2 with
    | cons hb1 hb2 =>
      cases hb2
      obtain ⟨n, h1, nx1, R1, W1, R2, W2, e1, e2, rfl, rfl⟩ := bind_ok e
      obtain ⟨rfl, rfl, rfl, hn⟩ := natV_ok e1 ha1 hM
      obtain ⟨m, h2, nx2, R3, W3, R4, W4, e3, e4, rfl, rfl⟩ := bind_ok e2
      obtain ⟨rfl, rfl, rfl, hm⟩ := natV_ok e3 hb1 hM
      obtain ⟨hs, e5⟩ := cond_ok e4
      simp only [Bool.and_eq_true] at hs
      simpa [Goes] using hk n m _ _ _ _ _ _ _ e5 r w _ _ hn hm (sz_small hs.1) (sz_small hs.2) hM hN
theorem one_ok {f : FuncId} {k : Nat → M Nat Value} (hl : ∀ n, Loc (k n)) (hk : ∀ n (h : Tr (Blk Nat)) nx v h' nx' R W, k n h nx = .ok v h' nx' R W → ∀ r w a, NatIn w a n → Sz 1000 n → Mod natSig r h.get w → New r nx nx' → Goes f [a] r w nx nx' W h'.get v) :
    SumF natSig Tryz.prog f (fun args => one args k) := by
  intro args m e
  unfold one at e
  rcases args with _ | ⟨a, _ | ⟨c, l⟩⟩ <;> simp only [reduceCtorEq, Option.some.injEq] at e
  subst e
  refine ⟨loc_bind (loc_natV a) fun n => loc_cond (hl n) loc_fail, ?_⟩
  intro h nx v h' nx' R W e r w args' ha hM hN
  cases ha with
  | cons ha1 ha2 =>
    cases ha2
    obtain ⟨n, h1, nx1, R1, W1, R2, W2, e1, e2, rfl, rfl⟩ := bind_ok e
    obtain ⟨rfl, rfl, rfl, hn⟩ := natV_ok e1 ha1 hM
    obtain ⟨hs, e5⟩ := cond_ok e2
    simpa [Goes] using hk n _ _ _ _ _ _ _ e5 r w _ hn (sz_small hs) hM hN
theorem sum_add : SumF natSig Tryz.prog 226 (fun args => two args fun n m => newFact (Nat.add n m)) :=
  two_ok (fun _ _ => loc_newFact _) fun n m h nx v h' nx' R W e r w a b hn hm sn sm hM hN => goes_new e hM hN (add_num w a b n m _ _ hn hm sn sm (by omega) (by omega))
theorem sum_sub : SumF natSig Tryz.prog 227 (fun args => two args fun n m => newFact (Nat.sub n m)) :=
  two_ok (fun _ _ => loc_newFact _) fun n m h nx v h' nx' R W e r w a b hn hm sn sm hM hN => goes_new e hM hN (sub_num w a b n m _ hn hm sn (by omega))
theorem sum_mul : SumF natSig Tryz.prog 140 (fun args => two args fun n m => newFact (Nat.mul n m)) :=
  two_ok (fun _ _ => loc_newFact _) fun n m h nx v h' nx' R W e r w a b hn hm sn sm hM hN => goes_new e hM hN (mul_num w a b n m _ _ hn hm sn sm (by omega) (by omega))
theorem sum_quo : SumF natSig Tryz.prog 138 (fun args => two args fun n m => newFact (Nat.div n m)) :=
  two_ok (fun _ _ => loc_newFact _) fun n m h nx v h' nx' R W e r w a b hn hm sn sm hM hN => goes_new e hM hN (quo_num w a b n m _ hn hm sn (by omega))
theorem sum_gcd : SumF natSig Tryz.prog 137 (fun args => two args fun n m => newFact (Nat.gcd n m)) :=
  two_ok (fun _ _ => loc_newFact _) fun n m h nx v h' nx' R W e r w a b hn hm sn sm hM hN => goes_new e hM hN (gcd_num w a b n m _ _ hn hm sn sm (by omega) (by omega))
theorem sum_cmp : SumF natSig Tryz.prog 141 (fun args => two args fun n m => ret (.int .i64 (Big.cmpI n m))) :=
  two_ok (fun _ _ => loc_ret _) fun n m h nx v h' nx' R W e r w a b hn hm _ _ hM _ => goes_val e rfl hM (drew_below (cmp_num w a b n m hn hm))
theorem sum_isOne : SumF natSig Tryz.prog 150 (fun args => one args fun n => ret (.bool (decide (n = 1)))) :=
  one_ok (fun _ => loc_ret _) fun n h nx v h' nx' R W e r w a hn _ hM _ => goes_val e rfl hM ((isOne_num w a n hn).mono fun _ _ hh => by obtain ⟨h1, h2⟩ := hh; exact ⟨h1, by first | exact h2.below _ | exact h2 ▸ Below.refl _ _⟩)
theorem sum_size : SumF natSig Tryz.prog 200 (fun args => one args fun n => ret (.int .i64 ((szN n : Nat) : Int))) :=
  one_ok (fun _ => loc_ret _) fun n h nx v h' nx' R W e r w a hn sn hM _ => goes_val e rfl hM (same_below (size_num w a n _ hn sn (by omega)))
theorem sum_bytes : SumF natSig Tryz.prog 219 (fun args => one args fun n => ret (.string (bst n))) :=
  one_ok (fun _ => loc_ret _) fun n h nx v h' nx' R W e r w a hn sn hM _ => goes_val e rfl hM (bytes_num w a n _ hn sn (by omega))
theorem sum_shl : SumF natSig Tryz.prog 248 (fun args => match args with
    | [a, b] => match b with
      | .int k s => cond (decide (k = .i64) && decide (s ≤ 64000000000)) (some (bind (natV a) fun n => cond (small n) (newFact (n * 2 ^ s.toNat)) fail)) none
      | _ => none
    | _ => none) := by
  intro args m e
  rcases args with _ | ⟨a, _ | ⟨b, _ | ⟨c, l⟩⟩⟩ <;> simp only [reduceCtorEq] at e
  cases b with
  | int k s =>
    simp only at e
    cases hk : (decide (k = .i64) && decide (s ≤ 64000000000)) with
    | false => rw [hk] at e; cases e
    | true =>
      rw [hk] at e
      simp only [cond_true, Option.some.injEq] at e
      subst e
      simp only [Bool.and_eq_true, decide_eq_true_eq] at hk
      refine ⟨loc_bind (loc_natV a) fun n => loc_cond (loc_newFact _) loc_fail, ?_⟩
      intro h nx v h' nx' R W e r w args' ha hM hN
      cases ha with
      | cons ha1 ha2 =>
        cases ha2 with
        | cons hb1 hb2 =>
          cases hb2
          obtain ⟨n, h1, nx1, R1, W1, R2, W2, e1, e2, rfl, rfl⟩ := bind_ok e
          obtain ⟨rfl, rfl, rfl, hn⟩ := natV_ok e1 ha1 hM
          obtain ⟨hs, e5⟩ := cond_ok e2
          have hb := hb1.int
          subst hb
          rw [hk.1]
          simpa [Goes] using goes_new e5 hM hN (shl_num w _ n _ s hn (sz_small hs) (by omega) hk.2)
  | _ => simp at e
theorem sum_of : SumF natSig Tryz.prog 139 (fun args => match args with
    | [a] => match a with
      | .int k s => match s with
        | .ofNat n => cond (decide (k = .u64) && Nat.ble (Nat.succ n) 18446744073709551616) (some (newFact n)) none
        | _ => none
      | _ => none
    | _ => none) := by
  intro args m e
  rcases args with _ | ⟨a, _ | ⟨c, l⟩⟩ <;> simp only [reduceCtorEq] at e
  cases a with
  | int k s =>
    cases s with
    | negSucc _ => simp at e
    | ofNat n =>
      simp only at e
      cases hk : (decide (k = .u64) && Nat.ble (Nat.succ n) 18446744073709551616) with
      | false => rw [hk] at e; cases e
      | true =>
        rw [hk] at e
        simp only [cond_true, Option.some.injEq] at e
        subst e
        simp only [Bool.and_eq_true, decide_eq_true_eq] at hk
        have hlt : n < 18446744073709551616 := Nat.le_of_ble_eq_true hk.2
        refine ⟨loc_newFact _, ?_⟩
        intro h nx v h' nx' R W e r w args' ha hM hN
        cases ha with
        | cons ha1 ha2 =>
          cases ha2
          have hb := ha1.int
          subst hb
          rw [hk.1]
          exact goes_new e hM hN (of_num w n hlt)
  | _ => simp at e
theorem sum_fromBytes : SumF natSig Tryz.prog 229 (fun args => match args with
    | [a] => match a with
      | .string s => cond (Nat.ble s.size 100000) (some (newFact (Big.bnum s.data.toList))) none
      | _ => none
    | _ => none) := by
  intro args m e
  rcases args with _ | ⟨a, _ | ⟨c, l⟩⟩ <;> simp only [reduceCtorEq] at e
  cases a with
  | string s =>
    simp only at e
    cases hk : Nat.ble s.size 100000 with
    | false => rw [hk] at e; cases e
    | true =>
      rw [hk] at e
      simp only [cond_true, Option.some.injEq] at e
      subst e
      have hlt : s.size ≤ 100000 := Nat.le_of_ble_eq_true hk
      refine ⟨loc_newFact _, ?_⟩
      intro h nx v h' nx' R W e r w args' ha hM hN
      cases ha with
      | cons ha1 ha2 =>
        cases ha2
        have hb := ha1.str
        subst hb
        exact goes_new e hM hN (fromBytes_any w s (by omega))
  | _ => simp at e
end
end Ev
end Go.Proofs.YtjjbhadnakjhdaaGreatDoor
