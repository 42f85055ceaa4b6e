/- Contracts, in this order: nat: shifted, shiftedBack. · nat: one digit of a long division: subProduct, addBack, gues · nat: guessDigit, takeDigit. · nat: takeDigit. -/
import Derived.Test.YtfmebfkdpfbjbaaGreatDoorEkq13
import Derived.StillTailTactics
namespace Go.Proofs.YtfmebfkdpfbjbaaGreatDoor
open Go.RowKit
theorem or64 {a b : Nat} (h : a + b < Big.M64) : bits .or .u64 ((a : Nat) : Int) ((b : Nat) : Int) = ((a ||| b : Nat) : Int) :=
  u64_or_nat a b (Nat.lt_of_le_of_lt (Nat.le_add_right _ _) h) (Nat.lt_of_le_of_lt (Nat.le_add_left _ _) h)
theorem e64 {n : Nat} (hn : n ≤ 63) : Big.M64 = 2 ^ n * 2 ^ (64 - n) := by
  rw [Big.M64_eq, ← Nat.pow_add, show n + (64 - n) = 64 by omega]
theorem shl_mod {n x : Nat} (hn : n ≤ 63) : x * 2 ^ n % Big.M64 = 2 ^ n * (x % 2 ^ (64 - n)) := by
  rw [e64 hn, Nat.mul_comm x, Nat.mul_mod_mul_left]
theorem shl_parts {n x : Nat} (hn : n ≤ 63) : x * 2 ^ n = x / 2 ^ (64 - n) * Big.M64 + 2 ^ n * (x % 2 ^ (64 - n)) := by
  have h := Nat.div_add_mod x (2 ^ (64 - n))
  rw [e64 hn]
  generalize hP : 2 ^ (64 - n) = P at *
  generalize 2 ^ n = Q at *
  generalize x / P = d at *
  generalize x % P = r at *
  subst h
  rw [Nat.add_mul, Nat.mul_comm r Q]
  congr 1
  rw [Nat.mul_comm P d, Nat.mul_assoc, Nat.mul_comm P Q]
theorem shl_low {n x top : Nat} (hn : n ≤ 63) (ht : top < 2 ^ n) : top + 2 ^ n * (x % 2 ^ (64 - n)) < Big.M64 := by
  have h1 : x % 2 ^ (64 - n) + 1 ≤ 2 ^ (64 - n) := Nat.mod_lt _ (Nat.pow_pos (by omega))
  have h2 := Nat.mul_le_mul_left (2 ^ n) h1
  rw [← e64 hn, Nat.mul_add] at h2
  omega
theorem or_low {n x top : Nat} (ht : top < 2 ^ n) : top ||| 2 ^ n * x = top + 2 ^ n * x := by
  rw [Nat.or_comm, nat_join n _ _ (Nat.mul_mod_right _ _) ht, Nat.add_comm]
theorem shl_round {l zs : List Nat} {k n top : Nat} (hn : n ≤ 63) (ht : top < 2 ^ n)
    (h : zs.length = k ∧ Big.Ok Big.M64 zs ∧ Big.val Big.M64 zs + Big.M64 ^ k * top = Big.val Big.M64 (l.take k) * 2 ^ n) (ol : Big.Ok Big.M64 l) :
    Big.nth l k / 2 ^ (64 - n) < 2 ^ n ∧ (zs ++ [top + 2 ^ n * (Big.nth l k % 2 ^ (64 - n))]).length = k + 1 ∧ Big.Ok Big.M64 (zs ++ [top + 2 ^ n * (Big.nth l k % 2 ^ (64 - n))]) ∧
      Big.val Big.M64 (zs ++ [top + 2 ^ n * (Big.nth l k % 2 ^ (64 - n))]) + Big.M64 ^ (k + 1) * (Big.nth l k / 2 ^ (64 - n)) = Big.val Big.M64 (l.take (k + 1)) * 2 ^ n := by
  obtain ⟨h1, h2, h3⟩ := h
  have hx := ol.nth Big.M64_pos k
  refine ⟨?_, by simp [h1], h2.append (Big.Ok.cons (shl_low hn ht) Big.Ok.nil), ?_⟩
  · rw [Nat.div_lt_iff_lt_mul (Nat.pow_pos (by omega)), ← e64 hn]; exact hx
  · rw [Big.val_snoc, h1, Big.val_take_succ', Nat.add_mul, Nat.mul_assoc (Big.M64 ^ k), shl_parts hn (x := Big.nth l k), ← h3, Nat.pow_succ]
    simp only [Nat.mul_add]
    rw [Nat.mul_assoc (Big.M64 ^ k) Big.M64, Nat.mul_comm Big.M64 (Big.nth l k / 2 ^ (64 - n))]
    omega
set_option maxRecDepth 100000 in
set_option maxHeartbeats 2000000 in
theorem shifted_any (w : World) (v : Value) (l : List Nat) (n : Nat) (h : Wd w .u64 v l) (ol : Big.Ok Big.M64 l) (hn : n ≤ 63) (hl : l.length ≤ 1000000000) :
    Calls Tryz.prog 183 #[v, .int .i64 (n : Int)] w fun e w' => e = .returned (.slice (some ⟨w.heap.size, 0, none⟩) (l.length + 1) (l.length + 1)) ∧
      ∃ Z, Blk w' w.heap.size 95 .u64 Z ∧ Z.length = l.length + 1 ∧ Big.Ok Big.M64 Z ∧ Big.val Big.M64 Z = Big.val Big.M64 l * 2 ^ n ∧ Below w.heap.size w w' := by
  have HW := Lib.hid h
  have OL := Lib.hid ol
  have HN := Lib.hid hn
  obtain ⟨A, c, rfl, -, -, -⟩ := h
  obtain ⟨i0, hi, hz0, hz1, hz2⟩ := info_parts Tryz.infoU64
  have hmk := fun W => make_words (P := Tryz.prog) Tryz.underlying69 hi hz0 hz1 (by rw [hz2]; omega) .i64 .i64 (l.length + 1) (l.length + 1) (Nat.le_refl _) (by omega) W
  rw [show ((l.length + 1 : Nat) : Int) = (l.length : Int) + 1 by omega] at hmk
  have HB1 := Lib.hid (Blk.new w 95 .u64 (List.replicate (l.length + 1) 0))
  have HBel1 := Lib.hid ((Below.refl w.heap.size w).alloc (Nat.le_refl _) (.cells (cellsOf .u64 (List.replicate (l.length + 1) 0)) 95))
  have hn63 : ((n : Nat) : Int) ≤ 63 := by omega
  clear ol hn
  go_enter Tryz.func183, Tryz.ntmps183
  go_wp2_with fail
  clear hmk
  go_loopw [14] (fun i wr => ∃ (k top : Nat) (zs : List Nat), k ≤ l.length ∧ i = .int .i64 k ∧ Hid (top < 2 ^ n) ∧
      Hid (zs.length = k ∧ Big.Ok Big.M64 zs ∧ Big.val Big.M64 zs + Big.M64 ^ k * top = Big.val Big.M64 (l.take k) * 2 ^ n) ∧
      Hid (Blk wr w.heap.size 95 .u64 (zs ++ top :: List.replicate (l.length - k) 0)) ∧ Hid (Below w.heap.size w wr))
    (fun i _ => l.length - (intOf i).toNat)
  case atStart => exact ⟨0, 0, [], by omega, rfl, Lib.hid (Nat.pow_pos (by omega)), Lib.hid ⟨rfl, Big.Ok.nil, by simp [Big.val]⟩, Lib.hid (by simpa [List.replicate_succ] using HB1.out), HBel1⟩
  case round =>
    obtain ⟨k, top, zs, hk, rfl, HT, HZ, HB, HBel⟩ := hrel
    by_cases hkn : k < l.length
    · have hX := HW.out
      obtain ⟨A', c', e, x1, x2, x3⟩ := hX
      cases e
      obtain ⟨b, o, rfl, hblt, hcc, -⟩ := x3 (by omega)
      have hcell := (HBel.out.cell (p := ⟨b, o + k, none⟩) hblt).trans (hcc k hkn)
      have hzl := HZ.out.1
      have hst := HB.out.cell k (by simp; omega)
      have et : Big.nth (zs ++ top :: List.replicate (l.length - k) 0) k = top := by
        unfold Big.nth
        rw [List.getD_eq_getElem?_getD, List.getElem?_append_right (by omega), hzl, Nat.sub_self]; rfl
      rw [et] at hst
      have hfr := HB.out.frozen k
      have R := shl_round HN.out HT.out HZ.out OL.out
      have hxM := OL.out.nth Big.M64_pos k
      obtain ⟨x, hx⟩ : ∃ x, Big.nth l k = x := ⟨_, rfl⟩
      rw [hx] at R hcell hxM
      have ew := wrapS x n
      rw [← Big.M64_eq, shl_mod HN.out] at ew
      have er := divS x (64 - n)
      have hlow := shl_low (x := x) HN.out HT.out
      have eo := u64_or_nat top (2 ^ n * (x % 2 ^ (64 - n))) (by rw [← Big.M64_eq]; omega) (by rw [← Big.M64_eq]; omega)
      rw [or_low HT.out] at eo
      obtain ⟨sv, hsv⟩ : ∃ s, top + 2 ^ n * (x % 2 ^ (64 - n)) = s := ⟨_, rfl⟩
      obtain ⟨y, hy⟩ : ∃ s, 2 ^ n * (x % 2 ^ (64 - n)) = s := ⟨_, rfl⟩
      obtain ⟨t, htt⟩ : ∃ s, x / 2 ^ (64 - n) = s := ⟨_, rfl⟩
      rw [hsv] at eo R
      rw [hy] at eo ew
      rw [htt] at er R
      have HT' := Lib.hid R.1
      have HZ' := Lib.hid R.2
      have HB1' := HB.out.set k sv
      have hst2 := HB1'.cell (k + 1) (by simp; omega)
      have hfr2 := HB1'.frozen (k + 1)
      have HB' := Lib.hid (HB1'.set (k + 1) t)
      have hk1 : ((k : Nat) : Int) + 1 < (l.length : Int) + 1 := by omega
      have hk0 : ((k : Nat) : Int) < (l.length : Int) + 1 := by omega
      have HX := Lib.hid (And.intro hx (And.intro hsv htt))
      clear R hx hsv hy htt hlow hxM hcc x3 HB1' et hzl
      go_wp2_with fail
      go_region
      go_wp2
      go_roundw
      case rel =>
        refine ⟨k + 1, t, zs ++ [sv], by omega, by go_num, HT', HZ', Lib.hid ?_, Lib.hid (((HBel.out.setCell (Nat.le_refl _) _).setCell (Nat.le_refl _) _).drew)⟩
        have h1 := HB'.out
        have h2 : ((zs ++ top :: List.replicate (l.length - k) 0).set k sv).set (k + 1) t = zs ++ [sv] ++ t :: List.replicate (l.length - (k + 1)) 0 := by
          have e := HZ.out.1
          rw [show l.length - k = (l.length - (k + 1)) + 1 by omega, List.replicate_succ, set_at zs _ k sv e]
          simp only [List.set_cons_zero]
          rw [List.set_append_right _ _ (by omega), show k + 1 - zs.length = 1 by omega]
          simp
        rw [h2] at h1
        exact h1
      case measure => simp [intOf]; omega
    · have hkl : k = l.length := by omega
      subst hkl
      go_wp2
      go_ret
      have Z := HZ.out
      have hB := HB.out
      rw [Nat.sub_self, List.replicate_zero] at hB
      refine ⟨rfl, zs ++ [top], hB, by simp [Z.1], Z.2.1.append (Big.Ok.cons ?_ Big.Ok.nil), ?_, HBel.out⟩
      · refine Nat.lt_of_lt_of_le HT.out ?_
        rw [e64 HN.out]
        exact Nat.le_mul_of_pos_right _ (Nat.pow_pos (by omega))
      · rw [Big.val_snoc, Z.1, Z.2.2, Big.val_take_all l _ (Nat.le_refl _)]
theorem shr_round {x H' n : Nat} (hn : n ≤ 63) : (x + Big.M64 * H') / 2 ^ n = x / 2 ^ n + 2 ^ (64 - n) * (H' % 2 ^ n) + Big.M64 * (H' / 2 ^ n) := by
  have h := Nat.div_add_mod H' (2 ^ n)
  rw [e64 hn, Nat.mul_assoc, Nat.add_mul_div_left _ _ (Nat.pow_pos (by omega))]
  generalize H' / 2 ^ n = d at *
  generalize H' % 2 ^ n = r at *
  subst h
  rw [Nat.mul_add, ← Nat.mul_assoc, Nat.mul_comm (2 ^ (64 - n)) (2 ^ n)]
  omega
theorem shr_low {x r n : Nat} (hn : n ≤ 63) (hx : x < Big.M64) (hr : r < 2 ^ n) : x / 2 ^ n < 2 ^ (64 - n) ∧ x / 2 ^ n + 2 ^ (64 - n) * r < Big.M64 := by
  have h1 : x / 2 ^ n < 2 ^ (64 - n) := by
    rw [Nat.div_lt_iff_lt_mul (Nat.pow_pos (by omega)), Nat.mul_comm, ← e64 hn]; exact hx
  refine ⟨h1, ?_⟩
  have h2 := Nat.mul_le_mul_left (2 ^ (64 - n)) (show r + 1 ≤ 2 ^ n from hr)
  rw [Nat.mul_comm _ (2 ^ n), ← e64 hn, Nat.mul_add] at h2
  omega
theorem shl_back {n x : Nat} (hn : n ≤ 63) : x * 2 ^ (64 - n) % Big.M64 = 2 ^ (64 - n) * (x % 2 ^ n) := by
  rw [e64 hn, Nat.mul_comm (2 ^ n), Nat.mul_comm x, Nat.mul_mod_mul_left]
theorem low_bits {X : List Nat} {k n : Nat} (hn : n ≤ 63) : Big.val Big.M64 (X.drop k) % 2 ^ n = Big.nth X k % 2 ^ n := by
  rcases Nat.lt_or_ge k X.length with h | h
  · rw [Big.drop_cons X k h]
    simp only [Big.val]
    rw [e64 hn, Nat.mul_assoc, Nat.add_mul_mod_self_left]
  · rw [List.drop_eq_nil_of_le h, Big.nth_ge X k h]; rfl
def OwnNat (w : World) (v : Value) (g c n : Nat) : Prop :=
  ∃ (R : List Nat) (k : Nat), v = .slice (some ⟨g, 0, none⟩) k c ∧ Blk w g 95 .u64 R ∧ c ≤ R.length ∧ Big.Ok Big.M64 R ∧ k ≤ c ∧ c ≤ 1152921504606846976 ∧ Big.Norm (R.take k) ∧ Big.val Big.M64 (R.take k) = n
theorem OwnNat.nat {w : World} {v : Value} {g c n : Nat} (h : OwnNat w v g c n) : NatIn w v n := by
  obtain ⟨R, k, rfl, hb, hc, ok, hk, hcl, hn, hv⟩ := h
  have := hb.wd 0 k c (by omega) hk hcl
  rw [List.drop_zero] at this
  exact ⟨R.take k, this, ok.take k, hn, hv⟩
set_option maxRecDepth 100000 in
set_option maxHeartbeats 400000 in
theorem shiftedBack_any (w : World) (g m c n : Nat) (X r : List Nat) (hb : Blk w g 95 .u64 (X ++ r)) (hm : X.length = m) (hmc : m ≤ c) (hc : c ≤ 1152921504606846976) (oX : Big.Ok Big.M64 X) (hn : n ≤ 63) :
    Calls Tryz.prog 185 #[.slice (some ⟨g, 0, none⟩) m c, .int .i64 (n : Int)] w fun e w' =>
      ∃ v', e = .returned v' ∧ NatIn w' v' (Big.val Big.M64 X / 2 ^ n) ∧ Only g w w' ∧ (r = [] → c ≤ m → OwnNat w' v' g c (Big.val Big.M64 X / 2 ^ n)) := by
  have HB0 := Lib.hid hb
  have OX := Lib.hid oX
  have HN := Lib.hid hn
  have HM := Lib.hid hm
  have hn63 : ((n : Nat) : Int) ≤ 63 := by omega
  clear hb oX hn hm
  go_enter Tryz.func185, Tryz.ntmps185
  go_wp2_with fail
  go_loopw [8] (fun i wr => ∃ (k : Nat) (zs : List Nat), k ≤ m ∧ i = .int .i64 k ∧
      Hid (zs.length = k ∧ Big.Ok Big.M64 zs ∧ Big.val Big.M64 X / 2 ^ n = Big.val Big.M64 zs + Big.M64 ^ k * (Big.val Big.M64 (X.drop k) / 2 ^ n)) ∧
      Hid (Blk wr g 95 .u64 (zs ++ X.drop k ++ r)) ∧ Hid (Only g w wr))
    (fun i _ => m - (intOf i).toNat)
  case atStart => exact ⟨0, [], by omega, rfl, Lib.hid ⟨rfl, Big.Ok.nil, by simp [Big.val]⟩, Lib.hid (by simpa using HB0.out), Lib.hid (Only.refl _ _)⟩
  case round =>
    obtain ⟨k, zs, hk, rfl, HZ, HB, HO⟩ := hrel
    by_cases hkn : k < m
    · have hXl := HM.out
      have hzl := HZ.out.1
      have hst := HB.out.cell k (by simp; omega)
      have nthX : ∀ j, Big.nth (zs ++ X.drop k) (k + j) = Big.nth X (k + j) := by
        intro j
        unfold Big.nth
        rw [List.getD_eq_getElem?_getD, List.getD_eq_getElem?_getD, List.getElem?_append_right (by omega), List.getElem?_drop]
        congr 2; omega
      have ek : Big.nth (zs ++ X.drop k ++ r) k = Big.nth X k := by
        have := nthX 0
        rw [Nat.add_zero] at this
        rw [← this]
        unfold Big.nth
        rw [List.getD_eq_getElem?_getD, List.getD_eq_getElem?_getD, List.getElem?_append_left (by simp; omega)]
      rw [ek] at hst
      have hfr := HB.out.frozen k
      have hWd := HB.out.wd 0 m c (by simp; omega) hmc hc
      rw [List.drop_zero, List.take_append_of_le_length (by simp; omega), List.take_of_length_le (by simp; omega)] at hWd
      have HWd := Lib.hid (hWd.drew ⟨1, rfl⟩ : Wd wr.drew .u64 _ _)
      have e1 := nthX 1
      have hxM := OX.out.nth Big.M64_pos k
      have hyM := OX.out.nth Big.M64_pos (k + 1)
      have hsr := shr_round (x := Big.nth X k) (H' := Big.val Big.M64 (X.drop (k + 1))) HN.out
      rw [low_bits HN.out] at hsr
      obtain ⟨x, hx⟩ : ∃ x, Big.nth X k = x := ⟨_, rfl⟩
      obtain ⟨y, hy⟩ : ∃ x, Big.nth X (k + 1) = x := ⟨_, rfl⟩
      rw [hx] at hst hxM hsr
      rw [hy] at e1 hyM hsr
      have hlow := shr_low (x := x) (r := y % 2 ^ n) HN.out hxM (Nat.mod_lt _ (Nat.pow_pos (by omega)))
      have ed := divS x n
      have ew := wrapS y (64 - n)
      rw [← Big.M64_eq, shl_back HN.out] at ew
      have eo := or64 hlow.2
      rw [or_low hlow.1] at eo
      obtain ⟨sv, hsv⟩ : ∃ s, x / 2 ^ n + 2 ^ (64 - n) * (y % 2 ^ n) = s := ⟨_, rfl⟩
      rw [hsv] at eo hsr
      have hsvM : sv < Big.M64 := by rw [← hsv]; exact hlow.2
      obtain ⟨p, hp⟩ : ∃ s, 2 ^ (64 - n) * (y % 2 ^ n) = s := ⟨_, rfl⟩
      obtain ⟨q, hq⟩ : ∃ s, x / 2 ^ n = s := ⟨_, rfl⟩
      rw [hp] at eo ew
      rw [hq] at eo ed
      have HZ' := Lib.hid (show (zs ++ [sv]).length = k + 1 ∧ Big.Ok Big.M64 (zs ++ [sv]) ∧ Big.val Big.M64 X / 2 ^ n = Big.val Big.M64 (zs ++ [sv]) + Big.M64 ^ (k + 1) * (Big.val Big.M64 (X.drop (k + 1)) / 2 ^ n) from
        ⟨by simp [hzl], HZ.out.2.1.append (Big.Ok.cons hsvM Big.Ok.nil), by
          rw [HZ.out.2.2, Big.drop_cons X k (by omega), hx]
          simp only [Big.val]
          rw [hsr, Big.val_snoc, hzl, Nat.pow_succ, Nat.mul_add, Nat.mul_assoc]
          omega⟩)
      have HB' := Lib.hid (HB.out.set k sv)
      have CW := Lib.hid (fun W (hW : Wd W .u64 (.slice (some ⟨g, 0, none⟩) m c) (zs ++ X.drop k)) => word_any W _ _ (k + 1) hW)
      rw [e1] at CW
      have hk1 : ((k + 1 : Nat) : Int) = (k : Int) + 1 := by omega
      rw [hk1] at CW
      have wk : IntKind.i64.wrap ((k : Int) + 1) = (k : Int) + 1 := IntWalk.i64_in _ (by omega)
      have wn : IntKind.i64.wrap (64 - (n : Int)) = 64 - (n : Int) := IntWalk.i64_in _ (by omega)
      have wn0 : (0 : Int) ≤ 64 - (n : Int) := by omega
      have wn1 : (64 - (n : Int)).toNat = 64 - n := by omega
      clear hWd hsr hlow hsvM hsv hp hq hx hy ek nthX e1 hxM hyM hXl hzl hk1
      go_wp2_with fail
      refine wp_region_still_tail 17 (by kernel_rfl) (by kernel_rfl) ?_
      simp only [List.take_succ_cons, List.take_zero, List.drop_succ_cons, List.drop_zero]
      repeat (first | still_step | still_call (still_same (CW.out _ HWd.out)))
      refine wpStill_nil ?_
      change wpList _ _ _ _ _ wr.drew
      go_wp2
      go_roundw
      case rel =>
        refine ⟨k + 1, zs ++ [sv], by omega, by go_num, HZ', Lib.hid ?_, Lib.hid ((HO.out.setCell k _).drew)⟩
        have h1 : Blk (wr.setCell ⟨g, k, none⟩ (.int .u64 (sv : Int))).drew g 95 .u64 _ := HB'.out.drewN 1
        rw [List.append_assoc, set_at zs _ k sv HZ.out.1, Big.drop_cons X k (by have := HM.out; omega)] at h1
        simpa using h1
      case measure => simp [intOf]; omega
    · have hkl : k = m := by omega
      subst hkl
      have hXl := HM.out
      go_wp2_with fail
      have HWz := Lib.hid (show Wd wr .u64 (.slice (some ⟨g, 0, none⟩) zs.length c) zs by
        have h1 := HB.out.wd 0 k c (by have := HZ.out.1; simp; omega) hmc hc
        rw [List.drop_zero, List.take_append_of_le_length (by have := HZ.out.1; simp; omega), List.drop_eq_nil_of_le (by omega), List.append_nil, List.take_of_length_le (by have := HZ.out.1; omega)] at h1
        rw [HZ.out.1]; exact h1)
      have HT := trim_slice wr (some ⟨g, 0, none⟩) c zs HWz.out
      rw [HZ.out.1] at HT
      refine HT.mono ?_
      clear HT
      · rintro e w' ⟨rfl, rfl⟩
        go_wp2
        go_ret
        have Z := HZ.out
        have hv : Big.val Big.M64 (Big.strip zs) = Big.val Big.M64 X / 2 ^ n := by
          rw [Big.strip_val, Z.2.2, List.drop_eq_nil_of_le (by omega)]
          simp [Big.val]
        refine ⟨_, rfl, ⟨Big.strip zs, ?_, Big.strip_ok Z.2.1, Big.strip_norm _, hv⟩, HO.out, ?_⟩
        · have h2 := Wd.cut HWz.out (Big.strip_len zs)
          rwa [← Big.strip_take_self] at h2
        · intro hr hcm
          have hB := HB.out
          subst hr
          rw [List.drop_eq_nil_of_le (by omega), List.append_nil, List.append_nil] at hB
          exact ⟨zs, (Big.strip zs).length, rfl, hB, by omega, Z.2.1, by have := Big.strip_len zs; omega, hc, by rw [← Big.strip_take_self]; exact Big.strip_norm _, by rw [← Big.strip_take_self]; exact hv⟩
end Go.Proofs.YtfmebfkdpfbjbaaGreatDoor
namespace Go.Proofs.YtfmebfkdpfbjbaaGreatDoor
open Go.RowKit
theorem nth_mid {L zs : List Nat} {off k : Nat} (h : off + k < L.length) (hz : zs.length = k) : Big.nth (L.take off ++ (zs ++ L.drop (off + k))) (off + k) = Big.nth L (off + k) := by
  unfold Big.nth
  rw [List.getD_eq_getElem?_getD, List.getD_eq_getElem?_getD, List.getElem?_append_right (by simp; omega), List.getElem?_append_right (by simp; omega), List.getElem?_drop]
  congr 2
  simp
  omega
theorem len_mid {L zs : List Nat} {off k : Nat} (h : off + k ≤ L.length) (hz : zs.length = k) : (L.take off ++ (zs ++ L.drop (off + k))).length = L.length := by simp; omega
theorem set_mid' {L zs : List Nat} {off k x : Nat} (h : off + k < L.length) (hz : zs.length = k) : (L.take off ++ (zs ++ L.drop (off + k))).set (off + k) x = L.take off ++ ((zs ++ [x]) ++ L.drop (off + (k + 1))) := by
  rw [set_mid _ _ _ off k x (by simp; omega) hz, Big.drop_cons L (off + k) h]
  simp [Nat.add_assoc]
theorem submul_round {X m zs : List Nat} {k o l x : Nat} (oX : Big.Ok Big.M64 X) (om : Big.Ok Big.M64 m) (ho : o < Big.M64) (hl : l ≤ 1) (hx : x < Big.M64)
    (h : zs.length = k ∧ Big.Ok Big.M64 zs ∧ Big.val Big.M64 zs + Big.val Big.M64 (m.take k) * x = Big.val Big.M64 (X.take k) + Big.M64 ^ k * o + Big.M64 ^ k * l) :
    hi64 (Big.nth m k * x + o) < Big.M64 ∧ bor64 (Big.nth X k) (lo64 (Big.nth m k * x + o)) l ≤ 1 ∧ (zs ++ [dif64 (Big.nth X k) (lo64 (Big.nth m k * x + o)) l]).length = k + 1 ∧
      Big.Ok Big.M64 (zs ++ [dif64 (Big.nth X k) (lo64 (Big.nth m k * x + o)) l]) ∧
      Big.val Big.M64 (zs ++ [dif64 (Big.nth X k) (lo64 (Big.nth m k * x + o)) l]) + Big.val Big.M64 (m.take (k + 1)) * x =
        Big.val Big.M64 (X.take (k + 1)) + Big.M64 ^ (k + 1) * hi64 (Big.nth m k * x + o) + Big.M64 ^ (k + 1) * bor64 (Big.nth X k) (lo64 (Big.nth m k * x + o)) l := by
  obtain ⟨h1, h2, h3⟩ := h
  have a := oX.nth Big.M64_pos k
  have b := om.nth Big.M64_pos k
  refine ⟨hi64_mul b hx ho, bor64_le _ _ _, by simp [h1], h2.append (Big.Ok.cons (by rw [Big.M64_eq]; exact dif64_lt _ _ _) Big.Ok.nil), ?_⟩
  rw [Big.val_take_succ', Big.val_take_succ']
  exact Big.mulsub_step h1 h3 (by rw [Big.M64_eq]; exact lo_hi _) (by rw [Big.M64_eq]; exact dif_bor (by rw [← Big.M64_eq]; exact a) (lo64_lt _) hl)
set_option maxRecDepth 100000 in
set_option maxHeartbeats 2000000 in
theorem subProduct_any (w : World) (g off n c x : Nat) (L m : List Nat) (u : Value) (hb : Blk w g 95 .u64 L) (hL : off + n + 1 ≤ L.length) (hnc : n + 1 ≤ c)
    (hoL : Big.Ok Big.M64 L) (hu : WdB g w .u64 u m) (hm : m.length = n) (om : Big.Ok Big.M64 m) (hx : x < Big.M64) :
    Calls Tryz.prog 244 #[.slice (some ⟨g, off, none⟩) (n + 1) c, u, .int .u64 (x : Int)] w fun e w' =>
      ∃ (l : Nat) (zs : List Nat), e = .returned (.bool (((l : Int) != 0))) ∧ l ≤ 1 ∧ zs.length = n + 1 ∧ Big.Ok Big.M64 zs ∧
        Big.val Big.M64 zs + Big.val Big.M64 m * x = Big.val Big.M64 ((L.drop off).take (n + 1)) + Big.M64 ^ (n + 1) * l ∧ Blk w' g 95 .u64 (L.take off ++ (zs ++ L.drop (off + (n + 1)))) ∧ Only g w w' := by
  have hlt := hb.lt
  have HB0 := Lib.hid hb
  have HU := Lib.hid hu
  have OL := Lib.hid hoL; have OM := Lib.hid om
  have HX := Lib.hid hx
  have HLL := Lib.hid hL
  obtain ⟨A, c2, rfl, k1, k2, k3⟩ := hu
  rw [hm] at k1 ⊢
  have HM := Lib.hid hm
  clear hb hoL om hm k3 hx hL
  go_enter Tryz.func244, Tryz.ntmps244
  go_wp2_with fail
  go_loopw [7, 8, 14] (fun o b i wr => ∃ (k q l : Nat) (zs : List Nat), k ≤ n ∧ i = .int .i64 k ∧ o = .int .u64 (q : Int) ∧ b = .int .u64 (l : Int) ∧ l ≤ 1 ∧
      Hid (q < Big.M64) ∧ Hid (zs.length = k ∧ Big.Ok Big.M64 zs ∧ Big.val Big.M64 zs + Big.val Big.M64 (m.take k) * x = Big.val Big.M64 (((L.drop off).take (n + 1)).take k) + Big.M64 ^ k * q + Big.M64 ^ k * l) ∧
      Hid (Blk wr g 95 .u64 (L.take off ++ (zs ++ L.drop (off + k)))) ∧ Hid (Only g w wr))
    (fun _ _ i _ => n - (intOf i).toNat)
  case atStart => exact ⟨0, 0, 0, [], by omega, rfl, rfl, rfl, by omega, Lib.hid Big.M64_pos, Lib.hid ⟨rfl, Big.Ok.nil, by simp [Big.val]⟩, Lib.hid (by simpa using HB0.out), Lib.hid (Only.refl _ _)⟩
  case round =>
    obtain ⟨k, q, l, zs, hk, rfl, rfl, rfl, hl1, HQ, HZ, HB, HO⟩ := hrel
    have hLn := HLL.out
    have hzl := HZ.out.1
    have hst := HB.out.cell (off + k) (by rw [len_mid (by omega) hzl]; omega)
    rw [nth_mid (by omega) hzl, ← nth_drop_take L off (n + 1) k (by omega)] at hst
    have hfr := HB.out.frozen (off + k)
    have oX : Big.Ok Big.M64 ((L.drop off).take (n + 1)) := (OL.out.drop _).take _
    by_cases hkn : k < n
    · have hX := HU.out
      obtain ⟨A', c', e, x1, x2, x3⟩ := hX
      cases e
      obtain ⟨b, o, rfl, hblt, hcc, -⟩ := x3 (by have := HM.out; omega)
      have hcell := (HO.out.cell (o := o + k) (by omega : b < w.heap.size) (by omega)).trans (hcc k (by have := HM.out; omega))
      have R := submul_round oX OM.out HQ.out hl1 HX.out HZ.out
      have HVM := Lib.hid (OM.out.nth Big.M64_pos k)
      obtain ⟨zk, hz'⟩ : ∃ z, Big.nth ((L.drop off).take (n + 1)) k = z := ⟨_, rfl⟩
      obtain ⟨yk, hy'⟩ : ∃ z, Big.nth m k = z := ⟨_, rfl⟩
      rw [hz'] at R hst
      rw [hy'] at R hcell HVM
      have hsub := fun W => sub64 zk (lo64 (yk * x + q)) l hl1 W
      have R0 := Lib.hid R.1
      have R1 := R.2.1
      have R2 := Lib.hid R.2.2
      have HB' := Lib.hid (HB.out.set (off + k) (dif64 zk (lo64 (yk * x + q)) l))
      have HO' := Lib.hid (HO.out.setCell (off + k) (.int .u64 ((dif64 zk (lo64 (yk * x + q)) l : Nat) : Int)))
      clear hcc x3 R oX hz' hy' hLn hzl
      go_wp2_with (go_at_call 239; refine (timesPlus_any _ _ _ HVM.out HX.out HQ.out _).mono ?_; rintro e w' ⟨rfl, rfl⟩)
      go_roundw
      case rel =>
        refine ⟨k + 1, _, _, _, by omega, by go_num, rfl, rfl, R1, R0, R2, Lib.hid ?_, HO'⟩
        have h1 := HB'.out
        rw [set_mid' (by have := HLL.out; omega) HZ.out.1] at h1
        exact h1
      case measure => simp [intOf]; omega
    · have hkl : k = n := by omega
      subst hkl
      have hsub := fun W => sub64 (Big.nth ((L.drop off).take (k + 1)) k) q l hl1 W
      have hzM := oX.nth Big.M64_pos k
      have db := dif_bor (x := Big.nth ((L.drop off).take (k + 1)) k) (y := q) (b := l) (by rw [← Big.M64_eq]; exact hzM) (by rw [← Big.M64_eq]; exact HQ.out) hl1
      have Z := HZ.out
      have hfin : Big.val Big.M64 (zs ++ [dif64 (Big.nth ((L.drop off).take (k + 1)) k) q l]) + Big.val Big.M64 m * x = Big.val Big.M64 ((L.drop off).take (k + 1)) + Big.M64 ^ (k + 1) * bor64 (Big.nth ((L.drop off).take (k + 1)) k) q l := by
        have e1 := Z.2.2
        rw [Big.val_take_all m _ (by have := HM.out; omega)] at e1
        rw [Big.val_snoc, hzl]
        have e2 := Big.val_take_succ' (B := Big.M64) ((L.drop off).take (k + 1)) k
        rw [List.take_take, Nat.min_self] at e2
        rw [← Big.M64_eq] at db
        generalize Big.nth ((L.drop off).take (k + 1)) k = z at *
        generalize dif64 z q l = d at *
        generalize bor64 z q l = b at *
        have e3 : Big.M64 ^ k * (z + Big.M64 * b) = Big.M64 ^ k * (d + q + l) := by rw [db]
        rw [e2, Nat.pow_succ, Nat.mul_assoc]
        simp only [Nat.mul_add] at e3
        omega
      have HF := Lib.hid hfin
      have hbl := bor64_le (Big.nth ((L.drop off).take (k + 1)) k) q l
      have hdM : dif64 (Big.nth ((L.drop off).take (k + 1)) k) q l < Big.M64 := by rw [Big.M64_eq]; exact dif64_lt _ _ _
      have HDM := Lib.hid hdM
      generalize Big.nth ((L.drop off).take (k + 1)) k = zk at *
      have HB' := Lib.hid (HB.out.set (off + k) (dif64 zk q l))
      have HO' := Lib.hid (HO.out.setCell (off + k) (.int .u64 ((dif64 zk q l : Nat) : Int)))
      clear db hzM hfin Z hdM oX
      go_wp2
      go_ret
      refine ⟨bor64 zk q l, zs ++ [dif64 zk q l], rfl, hbl, by simp [hzl], HZ.out.2.1.append (Big.Ok.cons HDM.out Big.Ok.nil), HF.out, ?_, HO'.out⟩
      have h1 := HB'.out
      rw [set_mid' (by have := HLL.out; omega) HZ.out.1] at h1
      exact h1
set_option maxRecDepth 100000 in
set_option maxHeartbeats 2000000 in
theorem addBack_any (w : World) (g off n c : Nat) (L m : List Nat) (u : Value) (hb : Blk w g 95 .u64 L) (hL : off + n + 1 ≤ L.length) (hnc : n + 1 ≤ c)
    (hoL : Big.Ok Big.M64 L) (hu : WdB g w .u64 u m) (hm : m.length = n) (om : Big.Ok Big.M64 m) :
    Calls Tryz.prog 245 #[.slice (some ⟨g, off, none⟩) (n + 1) c, u] w fun e w' =>
      ∃ (l : Nat) (zs : List Nat), e = .returned (.bool (((l : Int) != 0))) ∧ l ≤ 1 ∧ zs.length = n + 1 ∧ Big.Ok Big.M64 zs ∧
        Big.val Big.M64 zs + Big.M64 ^ (n + 1) * l = Big.val Big.M64 ((L.drop off).take (n + 1)) + Big.val Big.M64 m ∧ Blk w' g 95 .u64 (L.take off ++ (zs ++ L.drop (off + (n + 1)))) ∧ Only g w w' := by
  have hlt := hb.lt
  have HB0 := Lib.hid hb
  have HU := Lib.hid hu
  have OL := Lib.hid hoL; have OM := Lib.hid om
  have HLL := Lib.hid hL
  obtain ⟨A, c2, rfl, k1, k2, k3⟩ := hu
  rw [hm] at k1 ⊢
  have HM := Lib.hid hm
  clear hb hoL om hm k3 hL
  go_enter Tryz.func245, Tryz.ntmps245
  go_wp2_with fail
  go_loopw [5, 10] (fun b i wr => ∃ (k l : Nat) (zs : List Nat), k ≤ n ∧ i = .int .i64 k ∧ b = .int .u64 (l : Int) ∧ l ≤ 1 ∧
      Hid (zs.length = k ∧ Big.Ok Big.M64 zs ∧ Big.val Big.M64 zs + Big.M64 ^ k * l = Big.val Big.M64 (((L.drop off).take (n + 1)).take k) + Big.val Big.M64 (m.take k)) ∧
      Hid (Blk wr g 95 .u64 (L.take off ++ (zs ++ L.drop (off + k)))) ∧ Hid (Only g w wr))
    (fun _ i _ => n - (intOf i).toNat)
  case atStart => exact ⟨0, 0, [], by omega, rfl, rfl, by omega, Lib.hid ⟨rfl, Big.Ok.nil, by simp [Big.val]⟩, Lib.hid (by simpa using HB0.out), Lib.hid (Only.refl _ _)⟩
  case round =>
    obtain ⟨k, l, zs, hk, rfl, rfl, hl1, HZ, HB, HO⟩ := hrel
    have hLn := HLL.out
    have hzl := HZ.out.1
    have hst := HB.out.cell (off + k) (by rw [len_mid (by omega) hzl]; omega)
    rw [nth_mid (by omega) hzl, ← nth_drop_take L off (n + 1) k (by omega)] at hst
    have hfr := HB.out.frozen (off + k)
    have oX : Big.Ok Big.M64 ((L.drop off).take (n + 1)) := (OL.out.drop _).take _
    by_cases hkn : k < n
    · have hX := HU.out
      obtain ⟨A', c', e, x1, x2, x3⟩ := hX
      cases e
      obtain ⟨b, o, rfl, hblt, hcc, -⟩ := x3 (by have := HM.out; omega)
      have hcell := (HO.out.cell (o := o + k) (by omega : b < w.heap.size) (by omega)).trans (hcc k (by have := HM.out; omega))
      have R := add_round oX OM.out hl1 HZ.out
      obtain ⟨zk, hz'⟩ : ∃ z, Big.nth ((L.drop off).take (n + 1)) k = z := ⟨_, rfl⟩
      obtain ⟨yk, hy'⟩ : ∃ z, Big.nth m k = z := ⟨_, rfl⟩
      rw [hz', hy'] at R
      rw [hz'] at hst
      rw [hy'] at hcell
      have hadd := fun W => add64 zk yk l hl1 W
      have R1 := R.1
      have R2 := Lib.hid R.2
      have HB' := Lib.hid (HB.out.set (off + k) (lo64 (zk + yk + l)))
      have HO' := Lib.hid (HO.out.setCell (off + k) (.int .u64 ((lo64 (zk + yk + l) : Nat) : Int)))
      clear hcc x3 R oX hz' hy' hLn hzl
      go_wp2
      go_roundw
      case rel =>
        refine ⟨k + 1, _, _, by omega, by go_num, rfl, R1, R2, Lib.hid ?_, HO'⟩
        have h1 := HB'.out
        rw [set_mid' (by have := HLL.out; omega) HZ.out.1] at h1
        exact h1
      case measure => simp [intOf]; omega
    · have hkl : k = n := by omega
      subst hkl
      have hzM := oX.nth Big.M64_pos k
      have hadd : ∀ W, (callFunc 240 #[.int .u64 ((Big.nth ((L.drop off).take (k + 1)) k : Nat) : Int), .int .u64 0, .int .u64 (l : Int)]).run Tryz.prog W =
          .ok (.value (.tuple #[.int .u64 ((lo64 (Big.nth ((L.drop off).take (k + 1)) k + l) : Nat) : Int), .int .u64 ((hi64 (Big.nth ((L.drop off).take (k + 1)) k + l) : Nat) : Int)])) W := fun W => by
        have := add64 (Big.nth ((L.drop off).take (k + 1)) k) 0 l hl1 W
        rw [Nat.add_zero] at this
        exact this
      have Z := HZ.out
      have hfin : Big.val Big.M64 (zs ++ [lo64 (Big.nth ((L.drop off).take (k + 1)) k + l)]) + Big.M64 ^ (k + 1) * hi64 (Big.nth ((L.drop off).take (k + 1)) k + l) = Big.val Big.M64 ((L.drop off).take (k + 1)) + Big.val Big.M64 m := by
        have e1 := Z.2.2
        rw [Big.val_take_all m _ (by have := HM.out; omega)] at e1
        rw [Big.val_snoc, hzl]
        have e2 := Big.val_take_succ' (B := Big.M64) ((L.drop off).take (k + 1)) k
        rw [List.take_take, Nat.min_self] at e2
        have db := lo_hi (Big.nth ((L.drop off).take (k + 1)) k + l)
        rw [← Big.M64_eq] at db
        generalize Big.nth ((L.drop off).take (k + 1)) k = z at *
        generalize lo64 (z + l) = d at *
        generalize hi64 (z + l) = b at *
        have e3 : Big.M64 ^ k * (z + l) = Big.M64 ^ k * (d + Big.M64 * b) := by rw [db]
        rw [e2, Nat.pow_succ, Nat.mul_assoc]
        simp only [Nat.mul_add] at e3
        omega
      have HF := Lib.hid hfin
      have hbl : hi64 (Big.nth ((L.drop off).take (k + 1)) k + l) ≤ 1 := hi64_le (by rw [Big.M64_eq] at hzM; omega)
      have HDM := Lib.hid (show lo64 (Big.nth ((L.drop off).take (k + 1)) k + l) < Big.M64 by rw [Big.M64_eq]; exact lo64_lt _)
      generalize Big.nth ((L.drop off).take (k + 1)) k = zk at *
      have HB' := Lib.hid (HB.out.set (off + k) (lo64 (zk + l)))
      have HO' := Lib.hid (HO.out.setCell (off + k) (.int .u64 ((lo64 (zk + l) : Nat) : Int)))
      clear hzM hfin Z oX
      go_wp2
      go_ret
      refine ⟨hi64 (zk + l), zs ++ [lo64 (zk + l)], rfl, hbl, by simp [hzl], HZ.out.2.1.append (Big.Ok.cons HDM.out Big.Ok.nil), HF.out, ?_, HO'.out⟩
      have h1 := HB'.out
      rw [set_mid' (by have := HLL.out; omega) HZ.out.1] at h1
      exact h1
end Go.Proofs.YtfmebfkdpfbjbaaGreatDoor
namespace Go.Proofs.YtfmebfkdpfbjbaaGreatDoor
open Go.RowKit
theorem top3 {xs : List Nat} {k : Nat} (ox : Big.Ok Big.M64 xs) (hl : xs.length = k + 3) :
    Big.val Big.M64 xs = ((Big.nth xs (k + 2) * Big.M64 + Big.nth xs (k + 1)) * Big.M64 + Big.nth xs k) * Big.M64 ^ k + Big.val Big.M64 (xs.take k) ∧ Big.val Big.M64 (xs.take k) < Big.M64 ^ k := by
  have h := Big.val_lt (xs.take k) (ox.take k)
  rw [List.length_take, Nat.min_eq_left (by omega)] at h
  refine ⟨?_, h⟩
  rw [Big.val_take_drop xs k (by omega), Big.drop_cons xs k (by omega), Big.drop_cons xs (k + 1) (by omega), Big.drop_cons xs (k + 2) (by omega), List.drop_eq_nil_of_le (by omega)]
  simp only [Big.val, Nat.mul_zero, Nat.add_zero]
  rw [Nat.add_comm, Nat.mul_comm (Big.M64 ^ k)]
  congr 2
  rw [Nat.add_comm (Big.nth xs k), Nat.mul_comm Big.M64]
  congr 2
  rw [Nat.add_comm, Nat.mul_comm]
theorem top2 {ys : List Nat} {k : Nat} (hl : ys.length = k + 2) :
    Big.val Big.M64 ys = (Big.nth ys (k + 1) * Big.M64 + Big.nth ys k) * Big.M64 ^ k + Big.val Big.M64 (ys.take k) := by
  rw [Big.val_take_drop ys k (by omega), Big.drop_cons ys k (by omega), Big.drop_cons ys (k + 1) (by omega), List.drop_eq_nil_of_le (by omega)]
  simp only [Big.val, Nat.mul_zero, Nat.add_zero]
  rw [Nat.add_comm, Nat.mul_comm (Big.M64 ^ k)]
  congr 2
  rw [Nat.add_comm, Nat.mul_comm]
theorem quo_top {xs ys : List Nat} {k : Nat} (ox : Big.Ok Big.M64 xs) (hx : xs.length = k + 3) (hy : ys.length = k + 2) (hp : 0 < Big.nth ys (k + 1)) :
    Big.val Big.M64 xs / Big.val Big.M64 ys ≤ ((Big.nth xs (k + 2) * Big.M64 + Big.nth xs (k + 1)) * Big.M64 + Big.nth xs k) / (Big.nth ys (k + 1) * Big.M64 + Big.nth ys k) := by
  obtain ⟨h1, h2⟩ := top3 ox hx
  have h3 := top2 hy
  exact Big.guess_div h1 h2 h3 (Nat.div_mul_le_self _ _) (by have := Nat.mul_pos hp Big.M64_pos; omega)
theorem two_words {p r v : Nat} (hv : v < Big.M64) : (hi64 p < r ∨ hi64 p = r ∧ lo64 p ≤ v) ↔ p ≤ Big.M64 * r + v := by
  have h := lo_hi p
  have h2 := lo64_lt p
  rw [Big.M64_eq] at *
  omega
set_option maxRecDepth 100000 in
set_option maxHeartbeats 4000000 in
theorem guessDigit_any (w : World) (g off N n1 n2 c : Nat) (L m : List Nat) (u : Value) (hb : Blk w g 95 .u64 L) (hL : off + N + 1 ≤ L.length) (h1 : n1 + 1 = N) (h2 : n2 + 2 = N)
    (hoL : Big.Ok Big.M64 L) (hu : WdB g w .u64 u m) (hm : m.length = N) (om : Big.Ok Big.M64 m) (hp : 0 < Big.nth m n1)
    (hlt : Big.val Big.M64 ((L.drop off).take (N + 1)) < Big.M64 * Big.val Big.M64 m) (hN : N ≤ 1000000000) :
    Calls Tryz.prog 243 #[.slice (some ⟨g, off, none⟩) (N + 1) c, u] w fun e w' =>
      ∃ d : Nat, e = .returned (.int .u64 (d : Int)) ∧ d < Big.M64 ∧ Big.val Big.M64 ((L.drop off).take (N + 1)) / Big.val Big.M64 m ≤ d ∧ Drew w w' := by
  have oX : Big.Ok Big.M64 ((L.drop off).take (N + 1)) := (hoL.drop _).take _
  have lX : ((L.drop off).take (N + 1)).length = N + 1 := by rw [List.length_take, List.length_drop]; omega
  have cX : ∀ i, i < N + 1 → w.cell? ⟨g, off + i, none⟩ = some (.int .u64 ((Big.nth ((L.drop off).take (N + 1)) i : Nat) : Int)) := fun i hi => by
    rw [nth_drop_take L off (N + 1) i hi]; exact hb.cell _ (by omega)
  generalize (L.drop off).take (N + 1) = X at *
  obtain ⟨A, c2, rfl, k1, k2, k3⟩ := hu
  obtain ⟨b, o, rfl, hblt, hcc, -⟩ := k3 (by omega)
  rw [hm] at k1 ⊢
  have a0 := cX N (by omega)
  have a1 := cX n1 (by omega)
  have a2 := cX n2 (by omega)
  have b1 := hcc n1 (by omega)
  have b2 := hcc n2 (by omega)
  have xb0 := oX.nth Big.M64_pos N
  have xb1 := oX.nth Big.M64_pos n1
  have xb2 := oX.nth Big.M64_pos n2
  have yb1 := om.nth Big.M64_pos n1
  have yb2 := om.nth Big.M64_pos n2
  have hYp : 0 < Big.val Big.M64 m := Nat.pos_of_mul_pos_left (Nat.lt_of_le_of_lt (Nat.zero_le _) hlt)
  have hqM : Big.val Big.M64 X / Big.val Big.M64 m < Big.M64 := (Nat.div_lt_iff_lt_mul hYp).2 hlt
  have hq : Big.val Big.M64 X / Big.val Big.M64 m ≤ ((Big.nth X N * Big.M64 + Big.nth X n1) * Big.M64 + Big.nth X n2) / (Big.nth m n1 * Big.M64 + Big.nth m n2) := by
    obtain rfl : n1 = n2 + 1 := by omega
    obtain rfl : N = n2 + 2 := by omega
    exact quo_top oX lX hm hp
  generalize Big.val Big.M64 X / Big.val Big.M64 m = q at *
  generalize Big.nth X N = x0 at *
  generalize Big.nth X n1 = x1 at *
  generalize Big.nth X n2 = x2 at *
  generalize Big.nth m n1 = y1 at *
  generalize Big.nth m n2 = y2 at *
  have i1 : (N : Int) - 1 = (n1 : Int) := by omega
  have i2 : (N : Int) - 2 = (n2 : Int) := by omega
  have w1 : IntKind.i64.wrap ((N : Int) - 1) = (n1 : Int) := by rw [i1]; exact IntWalk.i64_in _ (by omega)
  have w2 : IntKind.i64.wrap ((N : Int) - 2) = (n2 : Int) := by rw [i2]; exact IntWalk.i64_in _ (by omega)
  have j0 : (N : Int) < (N : Int) + 1 := by omega
  have j1 : (n1 : Int) < (N : Int) + 1 := by omega
  have j2 : (n2 : Int) < (N : Int) + 1 := by omega
  have j3 : (n1 : Int) < (N : Int) := by omega
  have j4 : (n2 : Int) < (N : Int) := by omega
  have HH := Lib.hid (And.intro xb0 (And.intro xb1 (And.intro xb2 (And.intro yb1 (And.intro yb2 (And.intro hp (And.intro hqM hq)))))))
  clear xb0 xb1 xb2 yb1 yb2 hp hqM hq hYp hlt hb hL h1 h2 hoL hm om oX lX cX k3 hcc
  by_cases hge : y1 ≤ x0
  · have t : (y1 : Int) ≤ (x0 : Int) := by omega
    clear hge
    go_enter Tryz.func243, Tryz.ntmps243
    go_wp2_with fail
    go_quiet (fail)
    go_wp2
    go_ret
    exact ⟨18446744073709551615, rfl, by unfold Big.M64; omega, by have := HH.out.2.2.2.2.2.2.1; unfold Big.M64 at this; omega, (Drew.refl _).drewN _⟩
  · have t : ¬ ((y1 : Int) ≤ (x0 : Int)) := by omega
    have hd := Big.Dig.start (B := Big.M64) (U := x0 * Big.M64 + x1) (Y := y1 * Big.M64 + y2) (y1 := y1) (y0 := y2) (v := x2) rfl HH.out.2.2.1 HH.out.2.2.2.2.2.1 Big.M64_pos
    have hdM : (x0 * Big.M64 + x1) / y1 < Big.M64 := Big.digit_lt HH.out.2.1 (by omega)
    have hrM : (x0 * Big.M64 + x1) % y1 < Big.M64 := Nat.lt_trans (Nat.mod_lt _ HH.out.2.2.2.2.2.1) HH.out.2.2.2.1
    have HC := Lib.hid (fun W => div64_call x0 x1 y1 (by omega) HH.out.2.1 HH.out.2.2.2.1 W)
    obtain ⟨d0, hd0⟩ : ∃ d, (x0 * Big.M64 + x1) / y1 = d := ⟨_, rfl⟩
    obtain ⟨r0, hr0⟩ : ∃ d, (x0 * Big.M64 + x1) % y1 = d := ⟨_, rfl⟩
    rw [hd0, hr0] at HC hd
    rw [hd0] at hdM
    rw [hr0] at hrM
    have HD0 := Lib.hid (And.intro hd (And.intro hdM hrM))
    clear hd hdM hrM hd0 hr0 hge
    go_enter Tryz.func243, Tryz.ntmps243
    go_wp2_with fail
    go_quiet (fail)
    go_wp2_with fail
    have e0 : (w.drewN nq).cell? ⟨g, off + N, none⟩ = _ := a0
    have e1 : (w.drewN nq).cell? ⟨g, off + n1, none⟩ = _ := a1
    have e2 : (w.drewN nq).cell? ⟨g, off + n2, none⟩ = _ := a2
    have e3 : (w.drewN nq).cell? ⟨b, o + n1, none⟩ = _ := b1
    have e4 : (w.drewN nq).cell? ⟨b, o + n2, none⟩ = _ := b2
    have HW := Lib.hid ((Drew.refl w).drewN nq)
    clear a0 a1 a2 b1 b2
    generalize w.drewN nq = wa at e0 e1 e2 e3 e4 HW ⊢
    go_quiet ((go_at_call 187; exact Calls.quiet_of (HC.out _)))
    go_wp2_with fail
    have e0' : (wa.drewN nq).cell? ⟨g, off + n2, none⟩ = _ := e2
    have e1' : (wa.drewN nq).cell? ⟨b, o + n1, none⟩ = _ := e3
    have e2' : (wa.drewN nq).cell? ⟨b, o + n2, none⟩ = _ := e4
    have HW' := Lib.hid (HW.out.drewN nq)
    clear e0 e1 e2 e3 e4 HW
    generalize wa.drewN nq = wb at e0' e1' e2' HW' ⊢
    have hx2 := HH.out.2.2.1
    have I1 := Lib.hid i1
    clear i1 w1 j0 j1 HC t
    go_loopw [6, 7] (fun s t wr => ∃ d r : Nat, s = .int .u64 (d : Int) ∧ t = .int .u64 (r : Int) ∧ Hid (Big.Dig Big.M64 (x0 * Big.M64 + x1) (y1 * Big.M64 + y2) y1 x2 d r ∧ d < Big.M64 ∧ r < Big.M64) ∧ Hid (Drew wb wr)) (fun s _ _ => (intOf s).toNat)
    case atStart => exact ⟨d0, r0, rfl, rfl, HD0, Lib.hid (Drew.refl _)⟩
    case round =>
      obtain ⟨d, r, rfl, rfl, HD, HDr⟩ := hrel
      have c0 := (HDr.out.cell _).trans e0'
      have c1 := (HDr.out.cell _).trans e1'
      have c2' := (HDr.out.cell _).trans e2'
      have i1 := I1.out
      have CM := Lib.hid (fun W => mul64 d y2 (by rw [← Big.M64_eq]; exact HD.out.2.1) (by rw [← Big.M64_eq]; exact HH.out.2.2.2.2.1) W)
      by_cases hC : d * y2 ≤ Big.M64 * r + x2
      · have hc := (two_words hx2).2 hC
        have hfin : q ≤ d := Nat.le_trans HH.out.2.2.2.2.2.2.2 HD.out.1.ge
        have HF := Lib.hid hfin
        clear hfin hC
        rcases hc with h1 | ⟨h1, h2⟩
        · have t1 : ((hi64 (d * y2) : Nat) : Int) < (r : Int) := by omega
          generalize d * y2 = p at *
          clear h1 hx2
          go_wp2_with (go_at_call 249; refine (CM.out _).mono ?_; rintro e w' ⟨rfl, rfl⟩)
          go_ret
          exact ⟨d, rfl, HD.out.2.1, HF.out, HW'.out.trans HDr.out⟩
        · have t1 : ¬ (((hi64 (d * y2) : Nat) : Int) < (r : Int)) := by omega
          have t2 : (((hi64 (d * y2) : Nat) : Int) == (r : Int)) = true := by rw [beq_iff_eq]; omega
          have t3 : ((lo64 (d * y2) : Nat) : Int) ≤ (x2 : Int) := by omega
          generalize d * y2 = p at *
          clear h1 h2 hx2
          go_wp2_with (go_at_call 249; refine (CM.out _).mono ?_; rintro e w' ⟨rfl, rfl⟩)
          go_ret
          exact ⟨d, rfl, HD.out.2.1, HF.out, HW'.out.trans HDr.out⟩
      · have hd0 : 0 < d := by
          rcases Nat.eq_zero_or_pos d with h0 | h0
          · subst h0; simp at hC
          · exact h0
        have hle := HD.out.1.too_great rfl Big.M64_pos HH.out.2.2.2.2.2.1 (by omega : Big.M64 * r + x2 < d * y2)
        have HL := Lib.hid (HD.out.1.less hd0 hle)
        have hc : ¬ (hi64 (d * y2) < r ∨ hi64 (d * y2) = r ∧ lo64 (d * y2) ≤ x2) := fun h => hC ((two_words hx2).1 h)
        have HF := Lib.hid (show q ≤ d - 1 from Nat.le_trans HH.out.2.2.2.2.2.2.2 hle)
        have HDM := Lib.hid (show d - 1 < Big.M64 by have := HD.out.2.1; omega)
        have i9 : (d : Int) - 1 = ((d - 1 : Nat) : Int) := by omega
        have HPD := Lib.hid (show d - 1 < d by omega)
        have t1 : ¬ (((hi64 (d * y2) : Nat) : Int) < (r : Int)) := by omega
        have hr64 := HD.out.2.2
        have hy64 := HH.out.2.2.2.1
        have ws : IntKind.u64.wrap ((d : Int) - 1) = ((d - 1 : Nat) : Int) := by
          rw [i9]; exact wrapN _ (by have := HD.out.2.1; rw [Big.M64_eq] at this; omega)
        have WD := Lib.hid (wrapN (d - 1) (by have := HD.out.2.1; rw [Big.M64_eq] at this; omega))
        have hsum := lo_hi (r + y1)
        have hcar : hi64 (r + y1) ≤ 1 := hi64_le (by rw [Big.M64_eq] at hr64 hy64; omega)
        have hlo := lo64_lt (r + y1)
        have hd1 : (1 : Int) ≤ (d : Int) := by omega
        generalize d - 1 = d' at *
        have fin : (((hi64 (d * y2) : Nat) : Int) == (r : Int)) = false ∨ ((((hi64 (d * y2) : Nat) : Int) == (r : Int)) = true ∧ ¬ (((lo64 (d * y2) : Nat) : Int) ≤ (x2 : Int))) := by
          by_cases h : hi64 (d * y2) = r
          · right
            refine ⟨by rw [beq_iff_eq]; omega, ?_⟩
            intro h2
            exact hc (Or.inr ⟨h, by omega⟩)
          · left
            rw [beq_eq_false_iff_ne]; omega
        generalize d * y2 = p at *
        clear hC hle hc hx2 hr64 hy64
        rcases Nat.eq_zero_or_pos (hi64 (r + y1)) with hz | hz
        · have HS := Lib.hid (show lo64 (r + y1) = r + y1 by omega)
          have HSM := Lib.hid (show lo64 (r + y1) < Big.M64 by rw [Big.M64_eq]; exact hlo)
          have t4 : (((hi64 (r + y1) : Nat) : Int) != 0) = false := by rw [hz]; rfl
          clear hsum hcar hlo hz
          rcases fin with t2 | ⟨t2, t3⟩
          · go_wp2_with (first
              | (go_at_call 249; refine (CM.out _).mono ?_; rintro e w' ⟨rfl, rfl⟩)
              | simp only [add64_0 r y1])
            go_roundw
            case rel =>
              (repeat apply Exists.intro)
              refine ⟨⟨d', ?_, lo64 (r + y1), ?_, ?_⟩, rfl, rfl, rfl⟩
              · exact congrArg (Value.int .u64) WD.out
              · rfl
              · exact Lib.hid ⟨by rw [HS.out]; exact HL.out, HDM.out, HSM.out⟩
            case measure => simp only [intOf, WD.out]; have := HPD.out; omega
          · go_wp2_with (first
              | (go_at_call 249; refine (CM.out _).mono ?_; rintro e w' ⟨rfl, rfl⟩)
              | simp only [add64_0 r y1])
            go_roundw
            case rel =>
              (repeat apply Exists.intro)
              refine ⟨⟨d', ?_, lo64 (r + y1), ?_, ?_⟩, rfl, rfl, rfl⟩
              · exact congrArg (Value.int .u64) WD.out
              · rfl
              · exact Lib.hid ⟨by rw [HS.out]; exact HL.out, HDM.out, HSM.out⟩
            case measure => simp only [intOf, WD.out]; have := HPD.out; omega
        · have t4 : (((hi64 (r + y1) : Nat) : Int) != 0) = true := by rw [bne_iff_ne]; omega
          clear hsum hcar hlo hz
          rcases fin with t2 | ⟨t2, t3⟩
          · go_wp2_with (first
              | (go_at_call 249; refine (CM.out _).mono ?_; rintro e w' ⟨rfl, rfl⟩)
              | simp only [add64_0 r y1])
            go_ret
            exact ⟨d', ret_int WD.out, HDM.out, HF.out, HW'.out.trans HDr.out⟩
          · go_wp2_with (first
              | (go_at_call 249; refine (CM.out _).mono ?_; rintro e w' ⟨rfl, rfl⟩)
              | simp only [add64_0 r y1])
            go_ret
            exact ⟨d', ret_int WD.out, HDM.out, HF.out, HW'.out.trans HDr.out⟩
end Go.Proofs.YtfmebfkdpfbjbaaGreatDoor
namespace Go.Proofs.YtfmebfkdpfbjbaaGreatDoor
open Go.RowKit
theorem digit_fin {X Y d z : Nat} (hz : z + Y * d = X) (hq : X / Y ≤ d) (hY : 0 < Y) : d = X / Y ∧ z = X % Y := by
  have h1 : d ≤ X / Y := (Nat.le_div_iff_mul_le hY).2 (by rw [Nat.mul_comm]; omega)
  have e : d = X / Y := Nat.le_antisymm h1 hq
  refine ⟨e, ?_⟩
  have := Nat.div_add_mod X Y
  rw [← e] at this
  omega
theorem digit_less {X Y d z P : Nat} (hz : z + Y * d = X + P) (hzP : z < P) (hY : 0 < Y) : 0 < d ∧ X / Y ≤ d - 1 := by
  have h1 : X < Y * d := by omega
  have h2 : X / Y < d := by rw [Nat.div_lt_iff_lt_mul hY, Nat.mul_comm]; exact h1
  generalize X / Y = q at *
  omega
theorem digit_back {X Y d z z' P l : Nat} (hz : z + Y * d = X + P) (hd : 0 < d) (h : z' + P * l = z + Y) (hl : l ≤ 1) : z' + Y * (d - 1) = X + P * (1 - l) := by
  have e : Y * d = Y * (d - 1) + Y := by
    conv => lhs; rw [show d = d - 1 + 1 by omega]
    rw [Nat.mul_add, Nat.mul_one]
  rcases Nat.eq_zero_or_pos l with h0 | h0
  · subst h0; rw [Nat.sub_zero, Nat.mul_one]; rw [Nat.mul_zero] at h; omega
  · have : l = 1 := by omega
    subst this; rw [Nat.sub_self, Nat.mul_zero]; rw [Nat.mul_one] at h; omega
theorem mid_take {L zs r : List Nat} {off : Nat} (h : off ≤ L.length) : (L.take off ++ (zs ++ r)).take off = L.take off := by
  rw [List.take_append_of_le_length (by rw [List.length_take]; omega), List.take_take, Nat.min_self]
theorem mid_drop {L zs r : List Nat} {off n : Nat} (h : off ≤ L.length) (hz : zs.length = n) : (L.take off ++ (zs ++ r)).drop (off + n) = r := by
  rw [← List.append_assoc]
  exact List.drop_left' (by rw [List.length_append, List.length_take, hz]; omega)
theorem mid_mid {L zs r : List Nat} {off n : Nat} (h : off ≤ L.length) (hz : zs.length = n) : ((L.take off ++ (zs ++ r)).drop off).take n = zs := by
  rw [List.drop_left' (by rw [List.length_take]; omega), List.take_left' hz]
set_option maxRecDepth 100000 in
set_option maxHeartbeats 4000000 in
theorem takeDigit_any (w : World) (g off N n1 n2 c : Nat) (L m : List Nat) (u : Value) (hb : Blk w g 95 .u64 L) (hL : off + N + 1 ≤ L.length) (hc : N + 1 ≤ c) (h1 : n1 + 1 = N) (h2 : n2 + 2 = N)
    (hoL : Big.Ok Big.M64 L) (hu : WdB g w .u64 u m) (hm : m.length = N) (om : Big.Ok Big.M64 m) (hp : 0 < Big.nth m n1)
    (hlt : Big.val Big.M64 ((L.drop off).take (N + 1)) < Big.M64 * Big.val Big.M64 m) (hN : N ≤ 1000000000) :
    Calls Tryz.prog 184 #[.slice (some ⟨g, off, none⟩) (N + 1) c, u] w fun e w' =>
      ∃ (d : Nat) (zs : List Nat), e = .returned (.int .u64 (d : Int)) ∧ d < Big.M64 ∧ zs.length = N + 1 ∧ Big.Ok Big.M64 zs ∧ d = Big.val Big.M64 ((L.drop off).take (N + 1)) / Big.val Big.M64 m ∧
        Big.val Big.M64 zs = Big.val Big.M64 ((L.drop off).take (N + 1)) % Big.val Big.M64 m ∧ Blk w' g 95 .u64 (L.take off ++ (zs ++ L.drop (off + (N + 1)))) ∧ Only g w w' := by
  have CG := Lib.hid (guessDigit_any w g off N n1 n2 c L m u hb hL h1 h2 hoL hu hm om hp hlt hN)
  have hY : 0 < Big.val Big.M64 m := Nat.pos_of_mul_pos_left (Nat.lt_of_le_of_lt (Nat.zero_le _) hlt)
  have hg := hb.lt
  have HB0 := Lib.hid hb; have HU := Lib.hid hu; have OL := Lib.hid hoL; have OM := Lib.hid om; have HM := Lib.hid hm; have HLL := Lib.hid hL; have HYY := Lib.hid hY
  have HC := Lib.hid hc
  obtain ⟨A, c2, rfl, -, -, -⟩ := hu
  rw [hm] at CG HU ⊢
  clear hb hL hc h1 h2 hoL hm om hp hlt hY
  obtain ⟨P, hP⟩ : ∃ P, Big.M64 ^ (N + 1) = P := ⟨_, rfl⟩
  have HP := Lib.hid hP
  clear hP
  go_enter Tryz.func184, Tryz.ntmps184
  go_wp2_with fail
  refine CG.out.mono ?_
  rintro e w1 ⟨d0, rfl, hdM, hdq, hdr⟩
  have HDM := Lib.hid hdM; have HDQ := Lib.hid hdq; have HDr := Lib.hid hdr
  clear hdM hdq hdr
  go_wp2_with fail
  refine (subProduct_any w1 g off N c d0 L m _ (HB0.out.drew HDr.out) (by have := HLL.out; omega) HC.out OL.out (HU.out.keep fun b _ => by rw [HDr.out.heap]) HM.out OM.out HDM.out).mono ?_
  rintro e w2 ⟨l, zs, rfl, hl1, hzl, hzo, hzv, hzb, hzw⟩
  rw [HP.out] at hzv
  have HS := Lib.hid (And.intro hzl (And.intro hzo (And.intro hzv (And.intro hzb hzw))))
  have HHS := Lib.hid (show w1.heap.size = w.heap.size by rw [HDr.out.heap])
  clear hzl hzo hzv hzb hzw
  go_wp2_with fail
  go_loopw [5, 6] (fun s t wr => ∃ (d l : Nat) (zs : List Nat), s = .int .u64 (d : Int) ∧ t = .bool ((l : Int) != 0) ∧ l ≤ 1 ∧ Hid (d < Big.M64 ∧ Big.val Big.M64 ((L.drop off).take (N + 1)) / Big.val Big.M64 m ≤ d) ∧
      Hid (zs.length = N + 1 ∧ Big.Ok Big.M64 zs ∧ Big.val Big.M64 zs + Big.val Big.M64 m * d = Big.val Big.M64 ((L.drop off).take (N + 1)) + P * l) ∧
      Hid (Blk wr g 95 .u64 (L.take off ++ (zs ++ L.drop (off + (N + 1))))) ∧ Hid (Only g w1 wr)) (fun s _ _ => (intOf s).toNat)
  case atStart => exact ⟨d0, l, zs, rfl, rfl, hl1, Lib.hid ⟨HDM.out, HDQ.out⟩, Lib.hid ⟨HS.out.1, HS.out.2.1, HS.out.2.2.1⟩, Lib.hid HS.out.2.2.2.1, Lib.hid HS.out.2.2.2.2⟩
  case round =>
    obtain ⟨d, l, zs, rfl, rfl, hl1, HD, HZ, HB, HO⟩ := hrel
    rcases Nat.eq_zero_or_pos l with h0 | h0
    · subst h0
      have F := digit_fin (z := Big.val Big.M64 zs) (Y := Big.val Big.M64 m) (d := d) (X := Big.val Big.M64 ((L.drop off).take (N + 1))) (by have := HZ.out.2.2; omega) HD.out.2 HYY.out
      have HF := Lib.hid F
      clear F
      go_wp2
      go_ret
      refine ⟨d, zs, rfl, HD.out.1, HZ.out.1, HZ.out.2.1, HF.out.1, HF.out.2, HB.out, ?_⟩
      exact (Only.of_below (HDr.out.below _)).trans HO.out
    · obtain rfl : l = 1 := by omega
      have hz := Big.val_lt zs HZ.out.2.1
      rw [HZ.out.1, HP.out] at hz
      have hzv := HZ.out.2.2
      rw [Nat.mul_one] at hzv
      have D := digit_less hzv hz HYY.out
      have hd1 : (1 : Int) ≤ (d : Int) := by omega
      have i9 : (d : Int) - 1 = ((d - 1 : Nat) : Int) := by omega
      have WD := Lib.hid (wrapN (d - 1) (by have := HD.out.1; rw [Big.M64_eq] at this; omega))
      have HD' := Lib.hid (show d - 1 < Big.M64 ∧ Big.val Big.M64 ((L.drop off).take (N + 1)) / Big.val Big.M64 m ≤ d - 1 from ⟨by have := HD.out.1; omega, D.2⟩)
      have HPD := Lib.hid (show d - 1 < d by omega)
      have HZV := Lib.hid (And.intro hzv D.1)
      have hlen : (L.take off ++ (zs ++ L.drop (off + (N + 1)))).length = L.length := len_mid (by have := HLL.out; omega) HZ.out.1
      have hox : Big.Ok Big.M64 (L.take off ++ (zs ++ L.drop (off + (N + 1)))) := (OL.out.take _).append (HZ.out.2.1.append (OL.out.drop _))
      have hmid : ((L.take off ++ (zs ++ L.drop (off + (N + 1)))).drop off).take (N + 1) = zs := by
        exact mid_mid (by have := HLL.out; omega) HZ.out.1
      have CA := Lib.hid (addBack_any wr g off N c (L.take off ++ (zs ++ L.drop (off + (N + 1)))) m _ HB.out (by rw [hlen]; have := HLL.out; omega) HC.out hox
        (HO.out.wdB (Nat.le_refl _) (by have := HHS.out; omega) (HU.out.keep fun b _ => by rw [HDr.out.heap])) HM.out OM.out)
      rw [hmid] at CA
      clear hz hzv D hlen hox hmid
      obtain ⟨d', hd'⟩ : ∃ d', d - 1 = d' := ⟨_, rfl⟩
      rw [hd'] at i9 WD HD' HPD
      have HE := Lib.hid hd'
      clear hd'
      go_wp2_with fail
      refine CA.out.mono ?_
      rintro e w3 ⟨l', zs', rfl, hl', hzl, hzo, hzv, hzb, hzw⟩
      rw [HP.out] at hzv
      have B := digit_back HZV.out.1 HZV.out.2 hzv hl'
      rw [HE.out] at B
      have hzb' : L.take off ++ (zs' ++ L.drop (off + (N + 1))) = (L.take off ++ (zs ++ L.drop (off + (N + 1)))).take off ++ (zs' ++ (L.take off ++ (zs ++ L.drop (off + (N + 1)))).drop (off + (N + 1))) := by
        rw [mid_take (by have := HLL.out; omega), mid_drop (by have := HLL.out; omega) HZ.out.1]
      rw [← hzb'] at hzb
      have HZ' := Lib.hid (And.intro hzl (And.intro hzo B))
      have HB' := Lib.hid hzb
      have HO' := Lib.hid (HO.out.trans hzw)
      have hnot : (!((l' : Int) != 0)) = (((1 - l' : Nat) : Int) != 0) := by
        rcases Nat.eq_zero_or_pos l' with h0 | h0
        · subst h0; rfl
        · obtain rfl : l' = 1 := by omega
          rfl
      have HNOT := Lib.hid hnot
      have hl1' : 1 - l' ≤ 1 := by omega
      clear hzl hzo hzv hzb hzw B hzb' hnot CA
      go_wp2
      go_roundw
      case rel => exact ⟨d', 1 - l', zs', by rw [WD.out], by rw [← HNOT.out], hl1', HD', HZ', HB', HO'⟩
      case measure => simp only [intOf, WD.out]; have := HPD.out; omega
end Go.Proofs.YtfmebfkdpfbjbaaGreatDoor
