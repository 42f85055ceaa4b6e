/- Contracts, in this order: nat: products. · Plain arithmetic: bytes, the lowest first, in words of eight · nat: FromBytes, Word. · nat: Size, Bytes. · Plain arithmetic: one digit of a quotient by two halves of t -/
import Derived.Test.YtfmebfkdpfbjbaaGreatDoorEkq11
import Derived.BigRegion
import Derived.RegionTactic
import Derived.WalkLawsBesides
import Derived.Laws.BitsAllLaws
import Derived.Lib.ItoaNum
import Derived.Laws.IdiomStrings
namespace Go.Proofs.YtfmebfkdpfbjbaaGreatDoor
open Go.RowKit
theorem hi_plus' (p z : Nat) : hi64 p + hi64 (z + lo64 p) = hi64 (z + p) := by unfold hi64 lo64; omega
theorem lo_plus' (p z : Nat) : lo64 (z + lo64 p) = lo64 (z + p) := by unfold lo64; omega
theorem mulz_lt {z x y c : Nat} (hz : z < 18446744073709551616) (hx : x < 18446744073709551616) (hy : y < 18446744073709551616) (hc : c < 18446744073709551616) : hi64 (z + (x * y + c)) < 18446744073709551616 := by
  have : x * y ≤ 18446744073709551615 * 18446744073709551615 := Nat.mul_le_mul (by omega) (by omega)
  unfold hi64; omega
theorem mul_round {Z m zs : List Nat} {k n x : Nat} (oZ : Big.Ok Big.M64 Z) (om : Big.Ok Big.M64 m) (hn : n < Big.M64) (hx : x < Big.M64)
    (h : zs.length = k ∧ Big.Ok Big.M64 zs ∧ Big.val Big.M64 zs + Big.M64 ^ k * n = Big.val Big.M64 (Z.take k) + Big.val Big.M64 (m.take k) * x) :
    hi64 (Big.nth Z k + (Big.nth m k * x + n)) < Big.M64 ∧ (zs ++ [lo64 (Big.nth Z k + (Big.nth m k * x + n))]).length = k + 1 ∧ Big.Ok Big.M64 (zs ++ [lo64 (Big.nth Z k + (Big.nth m k * x + n))]) ∧
      Big.val Big.M64 (zs ++ [lo64 (Big.nth Z k + (Big.nth m k * x + n))]) + Big.M64 ^ (k + 1) * hi64 (Big.nth Z k + (Big.nth m k * x + n)) = Big.val Big.M64 (Z.take (k + 1)) + Big.val Big.M64 (m.take (k + 1)) * x := by
  obtain ⟨h1, h2, h3⟩ := h
  have a := oZ.nth Big.M64_pos k
  have b := om.nth Big.M64_pos k
  refine ⟨mulz_lt a b hx hn, by simp [h1], h2.append (Big.Ok.cons (by rw [Big.M64_eq]; exact lo64_lt _) Big.Ok.nil), ?_⟩
  rw [Big.val_take_succ', Big.val_take_succ']
  exact Big.mul_step h1 h3 (by rw [Big.M64_eq, ← Nat.add_assoc] at *; exact lo_hi _)
theorem nth_drop_take (l : List Nat) (off n i : Nat) (hi : i < n) : Big.nth ((l.drop off).take n) i = Big.nth l (off + i) := by
  unfold Big.nth
  rw [List.getD_eq_getElem?_getD, List.getD_eq_getElem?_getD, List.getElem?_take_of_lt hi, List.getElem?_drop]
theorem set_mid (p zs r : List Nat) (off k x : Nat) (hp : p.length = off) (hz : zs.length = k) : (p ++ (zs ++ r)).set (off + k) x = p ++ (zs ++ r.set 0 x) := by
  rw [← List.append_assoc, List.set_append_right _ _ (by simp; omega)]
  simp [hp, hz]
set_option maxRecDepth 100000 in
set_option maxHeartbeats 1000000 in
theorem addProduct_any (w : World) (g off n c x : Nat) (L m : List Nat) (u : Value) (hb : Blk w g 95 .u64 L) (hL : off + n ≤ L.length) (hnc : n ≤ c) (hc : c ≤ 1152921504606846976)
    (hoL : Big.Ok Big.M64 L) (hu : WdB g w .u64 u m) (hm : m.length = n) (om : Big.Ok Big.M64 m) (hx : x < Big.M64) :
    Calls Tryz.prog 174 #[.slice (some ⟨g, off, none⟩) n c, u, .int .u64 (x : Int)] w fun e w' =>
      ∃ (o : Nat) (zs : List Nat), e = .returned (.int .u64 (o : Int)) ∧ o < Big.M64 ∧ zs.length = n ∧ Big.Ok Big.M64 zs ∧
        Big.val Big.M64 zs + Big.M64 ^ n * o = Big.val Big.M64 ((L.drop off).take n) + Big.val Big.M64 m * x ∧ Blk w' g 95 .u64 (L.take off ++ (zs ++ L.drop (off + n))) ∧ Only g w w' := by
  have hlt := hb.lt
  have HB0 := Lib.hid hb
  have HU := Lib.hid hu
  have OL := Lib.hid hoL; have OM := Lib.hid om
  have HX := Lib.hid hx
  obtain ⟨A, c2, rfl, k1, k2, k3⟩ := hu
  rw [hm] at k1 ⊢
  have HM := Lib.hid hm
  clear hb hoL om hm k3 hx
  go_enter Tryz.func174, Tryz.ntmps174
  go_wp2_with fail
  go_loopw [7, 15] (fun o i wr => ∃ (k q : Nat) (zs : List Nat), k ≤ n ∧ i = .int .i64 k ∧ o = .int .u64 q ∧
      Hid (q < Big.M64) ∧ Hid (zs.length = k ∧ Big.Ok Big.M64 zs ∧ Big.val Big.M64 zs + Big.M64 ^ k * q = Big.val Big.M64 (((L.drop off).take n).take k) + Big.val Big.M64 (m.take k) * x) ∧
      Hid (Blk wr g 95 .u64 (L.take off ++ (zs ++ L.drop (off + k)))) ∧ Hid (Only g w wr))
    (fun _ i _ => n - (intOf i).toNat)
  case atStart => exact ⟨0, 0, [], by omega, rfl, rfl, Lib.hid Big.M64_pos, Lib.hid ⟨rfl, Big.Ok.nil, by simp [Big.val]⟩, Lib.hid (by simpa using HB0.out), Lib.hid (Only.refl _ _)⟩
  case round =>
    obtain ⟨k, q, zs, hk, rfl, rfl, HQ, HZ, HB, HO⟩ := hrel
    by_cases hkn : k < n
    · have hX := HU.out
      obtain ⟨A', c', e, x1, x2, x3⟩ := hX
      cases e
      obtain ⟨b, o, rfl, hblt, hcc, -⟩ := x3 (by have := HM.out; omega)
      have hcell := (HO.out.cell (o := o + k) (by omega : b < w.heap.size) (by omega)).trans (hcc k (by have := HM.out; omega))
      have hlen : (L.take off ++ (zs ++ L.drop (off + k))).length = L.length := by have := HZ.out.1; simp; omega
      have hst := HB.out.cell (off + k) (by omega)
      have ez : Big.nth (L.take off ++ (zs ++ L.drop (off + k))) (off + k) = Big.nth ((L.drop off).take n) k := by
        rw [nth_drop_take _ _ _ _ hkn]
        have h1 := HZ.out.1
        unfold Big.nth
        rw [List.getD_eq_getElem?_getD, List.getD_eq_getElem?_getD, List.getElem?_append_right (by simp; omega), List.getElem?_append_right (by simp; omega), List.getElem?_drop]
        congr 2
        simp
        omega
      rw [ez] at hst
      have hfr := HB.out.frozen (off + k)
      have oZ : Big.Ok Big.M64 ((L.drop off).take n) := (OL.out.drop _).take _
      have hvm := OM.out.nth Big.M64_pos k
      have hvz := oZ.nth Big.M64_pos k
      have R := mul_round oZ OM.out HQ.out HX.out HZ.out
      have R0 := Lib.hid R.1
      have R1 := Lib.hid R.2
      have HVM := Lib.hid hvm
      generalize hz' : Big.nth ((L.drop off).take n) k = zk at *
      generalize hy' : Big.nth m k = yk at *
      have HZ' := Lib.hid hz'; have HY' := Lib.hid hy'
      have hadd := fun W => add64_0 zk (lo64 (yk * x + q)) W
      have HP := Lib.hid (hi_plus' (yk * x + q) zk)
      have HL := Lib.hid (lo_plus' (yk * x + q) zk)
      have hbd : ((hi64 (yk * x + q) : Nat) : Int) + ((hi64 (zk + lo64 (yk * x + q)) : Nat) : Int) < 18446744073709551616 := by
        have := HP.out
        have := R0.out
        unfold Big.M64 at this
        omega
      have HB' := Lib.hid (HB.out.set (off + k) (lo64 (zk + lo64 (yk * x + q))))
      have HO' := Lib.hid (HO.out.setCell (off + k) (.int .u64 ((lo64 (zk + lo64 (yk * x + q)) : Nat) : Int)))
      clear hcc x3 R hvm hvz oZ ez hz' hy' hlen
      go_wp2_with (go_at_call 239; refine (timesPlus_any _ _ _ HVM.out HX.out HQ.out _).mono ?_; rintro e w' ⟨rfl, rfl⟩)
      go_roundw
      case rel =>
        refine ⟨k + 1, hi64 (zk + (yk * x + q)), zs ++ [lo64 (zk + (yk * x + q))], by omega, by go_num, ?_, R0, R1, Lib.hid ?_, HO'⟩
        · rw [← HP.out]; go_num
        · have := HB'.out
          rw [set_mid _ _ _ off k _ (by simp; omega) HZ.out.1, Big.drop_cons L (off + k) (by omega)] at this
          rw [← HL.out]
          simpa [Nat.add_assoc] using this
      case measure => simp [intOf]; omega
    · have hkl : k = n := by omega
      subst hkl
      go_wp2
      go_ret
      have Z := HZ.out
      refine ⟨q, zs, rfl, HQ.out, Z.1, Z.2.1, ?_, HB.out, HO.out⟩
      have := Z.2.2
      rw [Big.val_take_all m _ (by have := HM.out; omega), List.take_take, Nat.min_self] at this
      exact this
set_option maxRecDepth 100000 in
set_option maxHeartbeats 1000000 in
theorem clone_any (w : World) (v : Value) (l : List Nat) (h : Wd w .u64 v l) (hl : l.length ≤ 1000000000000) :
    Calls Tryz.prog 114 #[v] w fun e w' => e = .returned (.slice (some ⟨w.heap.size, 0, none⟩) l.length (l.length + 1)) ∧
      Blk w' w.heap.size 95 .u64 (l ++ [0]) ∧ Below w.heap.size w w' := by
  obtain ⟨i0, hi, hz0, hz1, hz2⟩ := info_parts Tryz.infoU64
  have hmk := fun W => make_words (P := Tryz.prog) Tryz.underlying69 hi hz0 hz1 (by rw [hz2]; omega) .i64 .i64 l.length (l.length + 1) (by omega) (by omega) W
  rw [show ((l.length + 1 : Nat) : Int) = (l.length : Int) + 1 by omega] at hmk
  obtain ⟨A, c, rfl, h1, h2, h3⟩ := h
  have hb0 : Blk (w.alloc (.cells (cellsOf .u64 (List.replicate (l.length + 1) 0)) 95)) w.heap.size 95 .u64 (List.replicate (l.length + 1) 0) := Blk.new _ _ _ _
  have hbel0 : Below w.heap.size w (w.alloc (.cells (cellsOf .u64 (List.replicate (l.length + 1) 0)) 95)) := (Below.refl _ _).alloc (Nat.le_refl _) _
  have hw0 : Wd (w.alloc (.cells (cellsOf .u64 (List.replicate (l.length + 1) 0)) 95)) .u64 (.slice A l.length c) l := Wd.keep ⟨A, c, rfl, h1, h2, h3⟩ hbel0
  have H0 := Lib.hid (And.intro hb0 (And.intro hbel0 hw0))
  clear hb0 hbel0 hw0 h3
  have hu : (Tryz.prog.info? 95).map (·.size) = some 1 := by rw [hi]; simp [hz1]
  go_enter Tryz.func114, Tryz.ntmps114
  go_wp2_with (first
    | (with_reducible refine wpList_copy_words rfl _ _ 69 69 rfl 95 Tryz.underlying69 hu w.heap.size 95 .u64 (List.replicate (l.length + 1) 0) l l.length (l.length + 1) A c rfl rfl H0.out.2.2 H0.out.1 (by omega) (by simp) w.heap.size w H0.out.2.1 (Nat.le_refl _) ?_))
  intro w1 hB1 hBel1
  have HB1 := Lib.hid hB1; have HBel1 := Lib.hid hBel1
  clear hB1 hBel1 H0 hmk
  go_wp2
  go_ret
  exact ⟨rfl, by simpa [List.drop_replicate] using HB1.out, HBel1.out⟩
theorem val_zeros (n : Nat) : Big.val Big.M64 (List.replicate n 0) = 0 := Big.val_replicate n
theorem mulWhole_round {l m Z zs : List Nat} {i o : Nat} (hi : i < l.length) (oZ : Big.Ok Big.M64 Z) (hZ : Z.length = l.length + m.length) (hz : zs.length = m.length) (oz : Big.Ok Big.M64 zs) (ho : o < Big.M64)
    (hrest : Z.drop (i + m.length) = List.replicate (l.length - i) 0)
    (hv : Big.val Big.M64 Z = Big.val Big.M64 (l.take i) * Big.val Big.M64 m)
    (h : Big.val Big.M64 zs + Big.M64 ^ m.length * o = Big.val Big.M64 ((Z.drop i).take m.length) + Big.val Big.M64 m * Big.nth l i) :
    Big.Ok Big.M64 ((Z.take i ++ (zs ++ Z.drop (i + m.length))).set (i + m.length) o) ∧ ((Z.take i ++ (zs ++ Z.drop (i + m.length))).set (i + m.length) o).length = l.length + m.length ∧
      ((Z.take i ++ (zs ++ Z.drop (i + m.length))).set (i + m.length) o).drop (i + 1 + m.length) = List.replicate (l.length - (i + 1)) 0 ∧
      Big.val Big.M64 ((Z.take i ++ (zs ++ Z.drop (i + m.length))).set (i + m.length) o) = Big.val Big.M64 (l.take (i + 1)) * Big.val Big.M64 m := by
  obtain ⟨q, hq⟩ : ∃ q, l.length - i = q + 1 := ⟨l.length - i - 1, by omega⟩
  rw [hrest, hq, set_mid _ _ _ i m.length o (by simp; omega) hz]
  have e0 : (List.replicate (q + 1) 0).set 0 o = o :: List.replicate q 0 := by simp [List.replicate_succ]
  rw [e0]
  have er : Big.Ok Big.M64 (List.replicate q 0) := by intro d hd; rw [List.eq_of_mem_replicate hd]; exact Big.M64_pos
  refine ⟨(oZ.take _).append (oz.append (Big.Ok.cons ho er)), by simp; omega, ?_, ?_⟩
  · rw [← List.append_assoc, ← List.singleton_append, ← List.append_assoc, List.drop_append_of_le_length (by simp; omega), List.drop_eq_nil_of_le (by simp; omega), List.nil_append]
    congr 1; omega
  · have e1 : Big.val Big.M64 Z = Big.val Big.M64 (Z.take i) + Big.M64 ^ i * Big.val Big.M64 ((Z.drop i).take m.length) := by
      rw [Big.val_take_drop Z i (by omega)]
      congr 2
      rw [Big.val_take_drop (Z.drop i) m.length (by simp; omega), List.drop_drop, hrest, val_zeros]
      simp
    rw [Big.val_append, Big.val_append, Big.val_take_succ l i hi]
    simp only [Big.val, val_zeros]
    rw [List.length_take, Nat.min_eq_left (by omega), hz]
    rw [Nat.add_mul, ← hv, e1]
    have e2 : Big.M64 ^ i * (Big.val Big.M64 zs + Big.M64 ^ m.length * o) = Big.M64 ^ i * (Big.val Big.M64 ((Z.drop i).take m.length) + Big.val Big.M64 m * Big.nth l i) := by rw [h]
    simp only [Nat.mul_add, Nat.mul_zero, Nat.add_zero] at e2 ⊢
    rw [Nat.mul_assoc (Big.M64 ^ i) (Big.nth l i), Nat.mul_comm (Big.nth l i)]
    omega
set_option maxRecDepth 100000 in
set_option maxHeartbeats 2000000 in
theorem mul_core (w : World) (v u : Value) (l m : List Nat) (hx : Wd w .u64 v l) (hy : Wd w .u64 u m) (ol : Big.Ok Big.M64 l) (om : Big.Ok Big.M64 m) (hl : l.length ≤ 100000000000) (hm : m.length ≤ 100000000000)
    (l0 : l.length ≠ 0) (m0 : m.length ≠ 0) (l1 : l ≠ [1]) (m1 : m ≠ [1]) :
    Calls Tryz.prog 102 #[v, u] w fun e w' => ∃ v', e = .returned v' ∧ NatIn w' v' (Big.val Big.M64 l * Big.val Big.M64 m) ∧ Below w.heap.size w w' := by
  have HW1 := Lib.hid hx; have HW2 := Lib.hid hy
  have OL := Lib.hid ol; have OM := Lib.hid om
  have c1 := isOne_any w v l hx
  have c2 := isOne_any w u m hy
  rw [decide_eq_false l1] at c1
  rw [decide_eq_false m1] at c2
  have C1 := Lib.hid c1; have C2 := Lib.hid c2
  obtain ⟨A, c, rfl, -, -, -⟩ := hx
  obtain ⟨A2, cc2, rfl, -, hcc2, -⟩ := hy
  obtain ⟨i0, hi, hz0, hz1, hz2⟩ := info_parts Tryz.infoU64
  have hmk := fun W => make_words (P := Tryz.prog) Tryz.underlying69 hi hz0 hz1 (by rw [hz2]; omega) .i64 .i64 (l.length + m.length) (l.length + m.length) (Nat.le_refl _) (by omega) W
  rw [show ((l.length + m.length : Nat) : Int) = (l.length : Int) + m.length by omega] at hmk
  have t1 : ((l.length : Int) == 0) = false := beq_eq_false_iff_ne.2 (by omega)
  have t2 : ((m.length : Int) == 0) = false := beq_eq_false_iff_ne.2 (by omega)
  have HB1 := Lib.hid (Blk.new w 95 .u64 (List.replicate (l.length + m.length) 0))
  have HBel1 := Lib.hid ((Below.refl w.heap.size w).alloc (Nat.le_refl _) (.cells (cellsOf .u64 (List.replicate (l.length + m.length) 0)) 95))
  have L1 := Lib.hid l1; have M1 := Lib.hid m1
  clear c1 c2 l1 m1 ol om
  go_enter Tryz.func102, Tryz.ntmps102
  go_wp2_with fail
  refine C1.out.mono ?_
  rintro e w' ⟨rfl, rfl⟩
  go_wp2_with fail
  refine C2.out.mono ?_
  rintro e w' ⟨rfl, rfl⟩
  go_wp2_with fail
  clear hmk
  go_loopw [33] (fun i wr => ∃ (k : Nat) (Z : List Nat), k ≤ l.length ∧ i = .int .i64 k ∧
      Hid (Big.Ok Big.M64 Z ∧ Z.length = l.length + m.length ∧ Z.drop (k + m.length) = List.replicate (l.length - k) 0 ∧ Big.val Big.M64 Z = Big.val Big.M64 (l.take k) * Big.val Big.M64 m) ∧
      Hid (Blk wr w.heap.size 95 .u64 Z) ∧ Hid (Below w.heap.size w wr))
    (fun i _ => l.length - (intOf i).toNat)
  case atStart =>
    refine ⟨0, List.replicate (l.length + m.length) 0, by omega, rfl, Lib.hid ⟨?_, by simp, by simp, by simp [Big.val, val_zeros]⟩, HB1, HBel1⟩
    intro d hd; rw [List.eq_of_mem_replicate hd]; exact Big.M64_pos
  case round =>
    obtain ⟨k, Z, hk, rfl, HZ, HB, HBel⟩ := hrel
    by_cases hkn : k < l.length
    · have hX := HW1.out
      obtain ⟨A', c', e, x1, x2, x3⟩ := hX
      cases e
      obtain ⟨b, o, rfl, hblt, hcc, -⟩ := x3 (by omega)
      have hcell := (HBel.out.cell (p := ⟨b, o + k, none⟩) hblt).trans (hcc k hkn)
      have hcap : ¬ (l.length + m.length = k) := by omega
      have hw : (0 : Int) ≤ (k : Int) + m.length := by omega
      have hw2 : (k : Int) + m.length ≤ (l.length : Int) + m.length := by omega
      have hw3 : (k : Int) ≤ (k : Int) + m.length := by omega
      have ht : ((k : Int) + m.length).toNat = k + m.length := by omega
      clear hcc x3
      go_wp2_with fail
      refine (addProduct_any _ _ k m.length _ _ Z m _ HB.out (by have := HZ.out.2.1; omega) (by omega) (by omega) HZ.out.1 (HW2.out.wdB.below HBel.out) rfl OM.out (OL.out.nth Big.M64_pos k)).mono ?_
      rintro e w2 ⟨q, zs, rfl, hq, hzl, hzo, hzv, hB2, hO2⟩
      have R := mulWhole_round hkn HZ.out.1 HZ.out.2.1 hzl hzo hq HZ.out.2.2.1 HZ.out.2.2.2 hzv
      have hl2 : (Z.take k ++ (zs ++ Z.drop (k + m.length))).length = l.length + m.length := by have := HZ.out.2.1; simp; omega
      have hst := hB2.cell (k + m.length) (by omega)
      have hfr := hB2.frozen (k + m.length)
      have HB' := Lib.hid (hB2.set (k + m.length) q)
      have HBel2 := Lib.hid (hO2.below HBel.out (Nat.le_refl _) HBel.out.size)
      have R1 := Lib.hid R
      have hkm : (k : Int) + m.length < (l.length : Int) + m.length := by omega
      clear R hq hzl hzo hzv hB2 hO2 hl2
      go_wp2
      go_roundw
      case rel => exact ⟨k + 1, _, by omega, by go_num, R1, HB', Lib.hid (HBel2.out.setCell (Nat.le_refl _) _)⟩
      case measure => simp [intOf]; omega
    · have hkl : k = l.length := by omega
      subst hkl
      go_wp2_with fail
      refine (trim_any _ _ Z ?_).mono ?_
      · have h1 := HB.out.wd0 (l.length + m.length) (by have := HZ.out.2.1; omega) (by omega)
        rw [HZ.out.2.1] at h1
        exact h1
      · rintro e w' ⟨v', rfl, hv', rfl⟩
        have HV := Lib.hid hv'
        clear hv'
        go_wp2
        go_ret
        have Z' := HZ.out
        refine ⟨v', rfl, ⟨Big.strip Z, HV.out, Big.strip_ok Z'.1, Big.strip_norm _, ?_⟩, HBel.out⟩
        rw [Big.strip_val, Z'.2.2.2, Big.val_take_all l _ (Nat.le_refl _)]
set_option maxRecDepth 100000 in
set_option maxHeartbeats 2000000 in
theorem mul_any (w : World) (v u : Value) (n m : Nat) (h : NatIn w v n) (k : NatIn w u m) (hn : n < Big.M64 ^ Big.KL) (hm : m < Big.M64 ^ Big.KL) :
    Calls Tryz.prog 102 #[v, u] w fun e w' => ∃ v', e = .returned v' ∧ NatIn w' v' (n * m) ∧ Below w.heap.size w w' := by
  obtain ⟨l, h1, h2, h3, rfl⟩ := h
  obtain ⟨r, k1, k2, k3, rfl⟩ := k
  have hl := len_of_lt h3 hn
  rw [Big.KL_eq] at hl
  have hr := len_of_lt k3 hm
  rw [Big.KL_eq] at hr
  by_cases l0 : l.length = 0
  · obtain rfl : l = [] := List.eq_nil_of_length_eq_zero l0
    obtain ⟨A, c, rfl, -, -, -⟩ := h1
    obtain ⟨A2, c2, rfl, -, -, -⟩ := k1
    simp only [Big.val, Nat.zero_mul]
    clear hn hm hl hr h2 h3 k2 k3
    go_enter Tryz.func102, Tryz.ntmps102
    go_wp2
    go_ret
    exact ⟨_, rfl, NatIn.nil_ _, Below.refl _ _⟩
  by_cases m0 : r.length = 0
  · obtain rfl : r = [] := List.eq_nil_of_length_eq_zero m0
    obtain ⟨A, c, rfl, -, -, -⟩ := h1
    obtain ⟨A2, c2, rfl, -, -, -⟩ := k1
    have t1 : ((l.length : Int) == 0) = false := beq_eq_false_iff_ne.2 (by omega)
    simp only [Big.val, Nat.mul_zero]
    clear hn hm hl hr h2 h3 k2 k3 l0
    go_enter Tryz.func102, Tryz.ntmps102
    go_wp2
    go_ret
    exact ⟨_, rfl, NatIn.nil_ _, Below.refl _ _⟩
  by_cases l1 : l = [1]
  · subst l1
    have HY : NatIn w u (Big.val Big.M64 [1] * Big.val Big.M64 r) := ⟨r, k1, k2, k3, by simp [Big.val]⟩
    have HYh := Lib.hid HY
    have c1 := isOne_any w v [1] h1
    obtain ⟨A2, c2, rfl, -, -, -⟩ := k1
    obtain ⟨A, c, rfl, -, -, -⟩ := h1
    have C1 := Lib.hid c1
    have t2 : ((r.length : Int) == 0) = false := beq_eq_false_iff_ne.2 (by omega)
    clear hn hm hl hr h2 h3 k2 k3 c1 HY l0 m0
    generalize Big.val Big.M64 [1] * Big.val Big.M64 r = N at HYh ⊢
    go_enter Tryz.func102, Tryz.ntmps102
    go_wp2_with fail
    refine C1.out.mono ?_
    rintro e w' ⟨rfl, rfl⟩
    go_wp2
    go_ret
    exact ⟨_, rfl, HYh.out, Below.refl _ _⟩
  by_cases m1 : r = [1]
  · subst m1
    have HY : NatIn w v (Big.val Big.M64 l * Big.val Big.M64 [1]) := ⟨l, h1, h2, h3, by simp [Big.val]⟩
    have HYh := Lib.hid HY
    have c1 := isOne_any w v l h1
    rw [decide_eq_false l1] at c1
    have c2 := isOne_any w u [1] k1
    obtain ⟨A2, d2, rfl, -, -, -⟩ := k1
    obtain ⟨A, d, rfl, -, -, -⟩ := h1
    have C1 := Lib.hid c1
    have C2 := Lib.hid c2
    have t2 : ((l.length : Int) == 0) = false := beq_eq_false_iff_ne.2 (by omega)
    have L1 := Lib.hid l1
    clear hn hm hl hr h2 h3 k2 k3 c1 c2 HY l0 m0 l1
    generalize Big.val Big.M64 l * Big.val Big.M64 [1] = N at HYh ⊢
    go_enter Tryz.func102, Tryz.ntmps102
    go_wp2_with fail
    refine C1.out.mono ?_
    rintro e w' ⟨rfl, rfl⟩
    go_wp2_with fail
    refine C2.out.mono ?_
    rintro e w' ⟨rfl, rfl⟩
    go_wp2
    go_ret
    exact ⟨_, rfl, HYh.out, Below.refl _ _⟩
  exact mul_core w v u l r h1 k1 h2 k2 (by omega) (by omega) l0 m0 l1 m1
end Go.Proofs.YtfmebfkdpfbjbaaGreatDoor
namespace Go.Proofs.YtfmebfkdpfbjbaaGreatDoor
namespace Big
theorem val_take_drop' {B : Nat} (l : List Nat) (k : Nat) : val B l = val B (l.take k) + B ^ k * val B (l.drop k) := by
  rcases Nat.lt_or_ge l.length k with h | h
  · rw [List.take_of_length_le (by omega), List.drop_eq_nil_of_le (by omega)]; simp [val]
  · exact val_take_drop l k h
theorem nth_cons_zero (d : Nat) (l : List Nat) : nth (d :: l) 0 = d := rfl
theorem nth_cons_succ (d : Nat) (l : List Nat) (j : Nat) : nth (d :: l) (j + 1) = nth l j := rfl
theorem nth_set (l : List Nat) (i j x : Nat) : nth (l.set i x) j = if i = j ∧ j < l.length then x else nth l j := by
  unfold nth
  rw [List.getD_eq_getElem?_getD, List.getD_eq_getElem?_getD, List.getElem?_set]
  by_cases h : i = j
  · subst h
    by_cases h2 : i < l.length <;> simp [h2]
  · simp [h]
theorem nth_replicate (n i : Nat) : nth (List.replicate n 0) i = 0 := by
  unfold nth
  rw [List.getD_eq_getElem?_getD, List.getElem?_replicate]
  split <;> rfl
theorem regroup {b k C : Nat} (hC : C = b ^ k) (X R : List Nat) (hl : R.length ≤ k * X.length) (h : ∀ j, j < X.length → nth X j = val b ((R.drop (k * j)).take k)) : val C X = val b R := by
  induction X generalizing R with
  | nil => obtain rfl : R = [] := List.eq_nil_of_length_eq_zero (by simpa using hl); rfl
  | cons x X ih =>
    have h0 := h 0 (by simp)
    rw [nth_cons_zero, Nat.mul_zero, List.drop_zero] at h0
    rw [val_take_drop' R k]
    simp only [val, h0, hC]
    congr 2
    rw [← hC]
    apply ih
    · simp only [List.length_cons, Nat.mul_add, List.length_drop] at hl ⊢; omega
    · intro j hj
      have := h (j + 1) (by simpa using hj)
      rw [nth_cons_succ] at this
      rw [this, List.drop_drop]
      congr 3
      rw [Nat.mul_add]; omega
theorem byte_step {k : Nat} (hk : 0 < k) {b : Nat} {X R : List Nat} {q r : Nat} (hr : r < k) (hi : k * q + r < R.length) (hq : q < X.length)
    (h : ∀ j, j < X.length → nth X j = val b (((R.take (k * q + r)).drop (k * j)).take k)) :
    ∀ j, j < (X.set q (nth X q + b ^ r * nth R (k * q + r))).length → nth (X.set q (nth X q + b ^ r * nth R (k * q + r))) j = val b (((R.take (k * q + r + 1)).drop (k * j)).take k) := by
  intro j hj
  simp only [List.length_set] at hj
  rw [nth_set]
  by_cases e : q = j
  · subst e
    rw [if_pos ⟨rfl, hq⟩, h q hq]
    have e1 : (R.take (k * q + r + 1)).drop (k * q) = (R.take (k * q + r)).drop (k * q) ++ [nth R (k * q + r)] := by
      rw [take_succ R _ hi, List.drop_append_of_le_length (by simp; omega)]
    have l1 : ((R.take (k * q + r)).drop (k * q)).length = r := by simp; omega
    have a1 : List.take k ((R.take (k * q + r)).drop (k * q)) = (R.take (k * q + r)).drop (k * q) := List.take_of_length_le (by omega)
    have a2 : List.take k ((R.take (k * q + r)).drop (k * q) ++ [nth R (k * q + r)]) = (R.take (k * q + r)).drop (k * q) ++ [nth R (k * q + r)] := List.take_of_length_le (by rw [List.length_append, l1]; simp; omega)
    rw [e1, a1, a2, val_snoc, l1]
  · rw [if_neg (by intro h; exact e h.1), h j hj]
    rcases Nat.lt_or_ge j q with hlt | hge
    · have e2 : k * (j + 1) ≤ k * q := Nat.mul_le_mul_left k hlt
      rw [Nat.mul_add, Nat.mul_one] at e2
      rw [List.drop_take, List.drop_take, List.take_take, List.take_take, Nat.min_eq_left (by omega), Nat.min_eq_left (by omega)]
    · have e2 : k * (q + 1) ≤ k * j := Nat.mul_le_mul_left k (by omega)
      rw [Nat.mul_add, Nat.mul_one] at e2
      rw [List.drop_eq_nil_of_le (by simp; omega), List.drop_eq_nil_of_le (by simp; omega)]
def rev (l : List UInt8) : List Nat := l.reverse.map (·.toNat)
def bnum (l : List UInt8) : Nat := val 256 (rev l)
theorem rev_length (l : List UInt8) : (rev l).length = l.length := by simp [rev]
theorem rev_ok (l : List UInt8) : Ok 256 (rev l) := by
  intro d hd
  simp [rev] at hd
  obtain ⟨a, _, rfl⟩ := hd
  exact a.toNat_lt
theorem rev_nth (l : List UInt8) (i : Nat) (h : i < l.length) : nth (rev l) i = (l[l.length - 1 - i]'(by omega)).toNat := by
  unfold nth rev
  rw [List.getD_eq_getElem?_getD, List.getElem?_map, List.getElem?_reverse h, List.getElem?_eq_getElem (by omega)]
  rfl
theorem pow256 (r : Nat) : 256 ^ r = 2 ^ (r * 8) := by rw [Nat.mul_comm, Nat.pow_mul]
theorem M64_pow : M64 = 256 ^ 8 := by unfold M64; decide
theorem or_byte {x r b : Nat} (hx : x < 256 ^ r) : x ||| b * 2 ^ (r * 8) = x + 256 ^ r * b := by
  rw [pow256] at *
  rw [Nat.or_comm, ← Nat.shiftLeft_eq, ← Nat.shiftLeft_add_eq_or_of_lt hx, Nat.shiftLeft_eq]
  rw [Nat.mul_comm b]; omega
theorem byte_bound {b r : Nat} (hb : b < 256) (hr : r < 8) : b * 2 ^ (r * 8) < 18446744073709551616 := by
  have h1 : 2 ^ (r * 8) ≤ 2 ^ 56 := Nat.pow_le_pow_right (by omega) (by omega)
  have h2 : b * 2 ^ (r * 8) ≤ 255 * 2 ^ 56 := Nat.mul_le_mul (by omega) h1
  omega
def IsSize (n s : Nat) : Prop := n < 256 ^ s ∧ (0 < s → 256 ^ (s - 1) ≤ n)
theorem isSize_zero : IsSize 0 0 := ⟨by simp, fun h => absurd h (by omega)⟩
theorem isSize_top {l : List Nat} {t b : Nat} (hl : Ok M64 l) (ht : t < 2 ^ b) (ht2 : 2 ^ (b - 1) ≤ t) (hb : 1 ≤ b) (hb2 : b ≤ 64) :
    IsSize (val M64 (l ++ [t])) (8 * l.length + 8 - (64 - b) / 8) := by
  have h1 := val_lt l hl
  rw [M64_pow, ← Nat.pow_mul] at h1
  have hM : M64 ^ l.length = 256 ^ (8 * l.length) := by rw [M64_pow, ← Nat.pow_mul]
  rw [M64_pow] at *
  obtain ⟨d, hd⟩ : ∃ d, d = (64 - b) / 8 := ⟨_, rfl⟩
  have e1 : 8 * l.length + 8 - (64 - b) / 8 = 8 * l.length + (8 - d) := by omega
  have hp : t < 256 ^ (8 - d) := by
    refine Nat.lt_of_lt_of_le ht ?_
    rw [pow256]
    exact Nat.pow_le_pow_right (by omega) (by omega)
  have hq : 256 ^ (8 - d - 1) ≤ t := by
    refine Nat.le_trans ?_ ht2
    rw [pow256]
    exact Nat.pow_le_pow_right (by omega) (by omega)
  rw [e1]
  refine ⟨?_, fun _ => ?_⟩
  · rw [val_snoc, hM, Nat.pow_add]
    have : 256 ^ (8 * l.length) * (t + 1) ≤ 256 ^ (8 * l.length) * 256 ^ (8 - d) := Nat.mul_le_mul_left _ hp
    rw [Nat.mul_add] at this
    omega
  · rw [val_snoc, hM, show 8 * l.length + (8 - d) - 1 = 8 * l.length + (8 - d - 1) by omega, Nat.pow_add]
    have := Nat.mul_le_mul_left (256 ^ (8 * l.length)) hq
    omega
theorem isSize_unique {n s t : Nat} (h : IsSize n s) (k : IsSize n t) : s = t := by
  rcases Nat.lt_trichotomy s t with hlt | he | hgt
  · have h1 := k.2 (by omega)
    have h2 : 256 ^ s ≤ 256 ^ (t - 1) := Nat.pow_le_pow_right (by omega) (by omega)
    have := h.1; omega
  · exact he
  · have h1 := h.2 (by omega)
    have h2 : 256 ^ t ≤ 256 ^ (s - 1) := Nat.pow_le_pow_right (by omega) (by omega)
    have := k.1; omega
theorem nth_div {B : Nat} (hB : 0 < B) (l : List Nat) (h : Ok B l) (q : Nat) : nth l q = val B l / B ^ q % B := by
  induction l generalizing q with
  | nil => simp [nth, val]
  | cons d l ih =>
    have hd := h.head
    cases q with
    | zero => rw [nth_cons_zero]; simp [val, Nat.mod_eq_of_lt hd]
    | succ q =>
      rw [nth_cons_succ, ih h.tail]
      simp only [val]
      rw [Nat.pow_succ', ← Nat.div_div_eq_div_mul, Nat.add_mul_div_left _ _ hB, Nat.div_eq_of_lt hd, Nat.zero_add]
theorem byte_div (n q r : Nat) (hr : r < 8) : n / M64 ^ q % M64 / 2 ^ (r * 8) % 256 = n / 256 ^ (8 * q + r) % 256 := by
  rw [← pow256, M64_pow, ← Nat.pow_mul, Nat.pow_add, ← Nat.div_div_eq_div_mul]
  generalize n / 256 ^ (8 * q) = m
  have e : 256 ^ 8 = 256 ^ r * 256 ^ (8 - r) := by rw [← Nat.pow_add]; congr 1; omega
  rw [e, Nat.mod_mul_right_div_self]
  have e2 : 256 ^ (8 - r) = 256 * 256 ^ (8 - r - 1) := by rw [← Nat.pow_succ']; congr 1; omega
  rw [e2, Nat.mod_mul_right_mod]
def bd (n k : Nat) : List Nat := (List.range k).map fun j => n / 256 ^ j % 256
theorem bd_length (n k : Nat) : (bd n k).length = k := by simp [bd]
theorem bd_succ (n k : Nat) : bd n (k + 1) = bd n k ++ [n / 256 ^ k % 256] := by simp [bd, List.range_succ]
theorem bd_ok (n k : Nat) : Ok 256 (bd n k) := by
  intro d hd; simp [bd] at hd; obtain ⟨j, _, rfl⟩ := hd; exact Nat.mod_lt _ (by omega)
theorem bd_val (n k : Nat) : val 256 (bd n k) = n % 256 ^ k := by
  induction k with
  | zero => simp [bd, val, Nat.mod_one]
  | succ k ih => rw [bd_succ, val_snoc, bd_length, ih, Nat.pow_succ, Nat.mod_mul]
theorem bd_set (n k s : Nat) (h : k < s) : (List.replicate (s - k) 0 ++ (bd n k).reverse).set (s - 1 - k) (n / 256 ^ k % 256) = List.replicate (s - (k + 1)) 0 ++ (bd n (k + 1)).reverse := by
  have e : s - k = (s - (k + 1)) + 1 := by omega
  rw [e, List.replicate_succ', List.append_assoc, List.set_append_right _ _ (by simp; omega)]
  simp only [List.length_replicate]
  rw [show s - 1 - k - (s - (k + 1)) = 0 by omega, bd_succ]
  simp
def btext (n k : Nat) : List UInt8 := (bd n k).reverse.map UInt8.ofNat
theorem btext_length (n k : Nat) : (btext n k).length = k := by simp [btext, bd_length]
theorem btext_get (n k j : Nat) (hj : j < (btext n k).length) : nth (bd n k).reverse j = (btext n k)[j].toNat := by
  have hj' : j < (bd n k).reverse.length := by simpa [btext_length, bd_length] using hj
  have h1 : nth (bd n k).reverse j = (bd n k).reverse[j] := by unfold nth; rw [List.getD_eq_getElem?_getD, List.getElem?_eq_getElem hj']; rfl
  have h2 := bd_ok n k _ (List.mem_reverse.1 (List.getElem_mem hj'))
  have h3 : (btext n k)[j] = UInt8.ofNat (bd n k).reverse[j] := List.getElem_map ..
  rw [h1, h3]
  generalize (bd n k).reverse[j] = x at *
  have h4 : (UInt8.ofNat x).toNat = x % 256 := by simp
  rw [h4, Nat.mod_eq_of_lt h2]
theorem btext_num (n k : Nat) (h : n < 256 ^ k) : bnum (btext n k) = n := by
  unfold bnum rev btext
  rw [← List.map_reverse, List.reverse_reverse, List.map_map]
  have e : (bd n k).map ((fun x => x.toNat) ∘ UInt8.ofNat) = bd n k := by
    conv => rhs; rw [← List.map_id (bd n k)]
    apply List.map_congr_left
    intro d hd
    have := bd_ok n k d hd
    simp [Nat.mod_eq_of_lt this]
  rw [e, bd_val, Nat.mod_eq_of_lt h]
end Big
end Go.Proofs.YtfmebfkdpfbjbaaGreatDoor
namespace Go.Proofs.YtfmebfkdpfbjbaaGreatDoor
open Go.RowKit
theorem word2_any (w : World) (v : Value) (n : Nat) (h : NatIn w v n) :
    Calls Tryz.prog 261 #[v] w fun e w' => e = .returned (.tuple #[.int .u64 (((if n < Big.M64 then n else 0) : Nat) : Int), .bool (decide (n < Big.M64))]) ∧ w = w' := by
  obtain ⟨l, hw, ol, nl, rfl⟩ := h
  have HL := Lib.hid hw
  obtain ⟨A, c, rfl, h1, h2, h3⟩ := hw
  match l, nl, ol, h3, HL with
  | [], nl, ol, h3, HL =>
    have e : (Big.val Big.M64 []) = 0 := rfl
    have e2 : (0 : Nat) < Big.M64 := Big.M64_pos
    rw [e, if_pos e2, decide_eq_true e2]
    clear h3 e2 nl ol HL
    go_enter Tryz.func261, Tryz.ntmps261
    go_wp2
    go_ret2
    exact ⟨rfl, rfl⟩
  | [x], nl, ol, h3, HL =>
    obtain ⟨b, o, rfl, hlt, hc, -⟩ := h3 (by simp)
    have hcell : w.cell? ⟨b, o, none⟩ = some (.int .u64 (x : Int)) := hc 0 (by simp)
    have e2 : x < Big.M64 := ol.head
    have e : Big.val Big.M64 [x] = x := by simp [Big.val]
    rw [e, if_pos e2, decide_eq_true e2]
    clear h3 e2 nl ol HL hc e
    go_enter Tryz.func261, Tryz.ntmps261
    go_wp2
    go_ret2
    exact ⟨rfl, rfl⟩
  | x :: y :: r, nl, ol, h3, HL =>
    have hge := Big.norm_ge (B := Big.M64) _ nl (by simp)
    have e2 : ¬ (Big.val Big.M64 (x :: y :: r) < Big.M64) := by
      have : Big.M64 ^ 1 ≤ Big.M64 ^ ((x :: y :: r).length - 1) := Nat.pow_le_pow_right Big.M64_pos (by simp)
      rw [Nat.pow_one] at this
      omega
    rw [if_neg e2, decide_eq_false e2]
    have t1 : (((x :: y :: r).length : Int) == 0) = false := beq_eq_false_iff_ne.2 (by simp; omega)
    have t2 : (((x :: y :: r).length : Int) == 1) = false := beq_eq_false_iff_ne.2 (by simp; omega)
    clear h3 e2 nl ol HL hge
    generalize (x :: y :: r).length = N at *
    go_enter Tryz.func261, Tryz.ntmps261
    go_wp2
    go_ret2
    exact ⟨rfl, rfl⟩
set_option maxRecDepth 100000 in
set_option maxHeartbeats 2000000 in
theorem fromBytes_any (w : World) (s : ByteArray) (hs : s.size ≤ 1000000000) :
    Calls Tryz.prog 59 #[.string s] w fun e w' => ∃ v', e = .returned v' ∧ NatIn w' v' (Big.bnum s.data.toList) ∧ Below w.heap.size w w' := by
  obtain ⟨i0, hi, hz0, hz1, hz2⟩ := info_parts Tryz.infoU64
  have hmk := fun W => make_words (P := Tryz.prog) Tryz.underlying69 hi hz0 hz1 (by rw [hz2]; omega) .i64 .i64 ((s.size + 7) / 8) ((s.size + 7) / 8) (Nat.le_refl _) (by omega) W
  rw [show (((s.size + 7) / 8 : Nat) : Int) = ((s.size : Int) + 7) / 8 by omega] at hmk
  have HB1 := Lib.hid (Blk.new w 95 .u64 (List.replicate ((s.size + 7) / 8) 0))
  have HBel1 := Lib.hid ((Below.refl w.heap.size w).alloc (Nat.le_refl _) (.cells (cellsOf .u64 (List.replicate ((s.size + 7) / 8) 0)) 95))
  go_enter Tryz.func59, Tryz.ntmps59
  go_wp2_with fail
  clear hmk
  go_loopw [13] (fun i wr => ∃ (k : Nat) (X : List Nat), k ≤ s.size ∧ i = .int .i64 k ∧
      Hid (X.length = (s.size + 7) / 8 ∧ ∀ j, j < X.length → Big.nth X j = Big.val 256 ((((Big.rev s.data.toList).take k).drop (8 * j)).take 8)) ∧
      Hid (Blk wr w.heap.size 95 .u64 X) ∧ Hid (Below w.heap.size w wr))
    (fun i _ => s.size - (intOf i).toNat)
  case atStart => exact ⟨0, _, by omega, rfl, Lib.hid ⟨by simp, fun j hj => by rw [Big.nth_replicate]; simp [Big.val]⟩, HB1, HBel1⟩
  case round =>
    obtain ⟨k, X, hk, rfl, HZ, HB, HBel⟩ := hrel
    by_cases hkn : k < s.size
    · obtain ⟨q, hq8⟩ : ∃ q, k / 8 = q := ⟨_, rfl⟩
      obtain ⟨r, hr8⟩ : ∃ r, k % 8 = r := ⟨_, rfl⟩
      have hr : r < 8 := by omega
      have HK := Lib.hid (show k = 8 * q + r by omega)
      have hq : q < X.length := by have := HZ.out.1; omega
      have hst := HB.out.cell q hq
      have hfr := HB.out.frozen q
      have d1 : (k : Int) / 8 = (q : Int) := by omega
      have d2 : (k : Int) % 8 = (r : Int) := by omega
      have d3 : (0 : Int) ≤ (s.size : Int) - 1 - k := by omega
      have d4 : (s.size : Int) - 1 - k < s.size := by omega
      have d5 : ((s.size : Int) - 1 - k).toNat = s.size - 1 - k := by omega
      have d6 : s.size - 1 - k < s.size := by omega
      have hqs : (q : Int) < ((s.size : Int) + 7) / 8 := by have := HZ.out.1; omega
      have hqs' : q < (s.size + 7) / 8 := by have := HZ.out.1; omega
      have hidx : ∀ W, (Instr.index 9 (.string s) (.int .i64 ((s.size : Int) - 1 - k))).run Tryz.prog W = .ok (.int .u8 ((Big.nth (Big.rev s.data.toList) k : Nat) : Int)) W := by
        intro W
        rw [run_index_string (P := Tryz.prog) W 9 s .i64 _ Tryz.underlying9, dif_pos ⟨d3, d4⟩, Big.rev_nth _ _ (by simpa using hkn)]
        refine congrArg (fun x => Result.ok (Value.int IntKind.u8 x) W) ?_
        have : ∀ i j (hi : i < s.size) (hj : j < s.data.toList.length), i = j → s[i] = s.data.toList[j] := by
          intro i j hi hj e; subst e; rfl
        exact congrArg (fun (c : UInt8) => ((c.toNat : Nat) : Int)) (this _ _ _ _ (by rw [d5]; simp))
      clear hq8 hr8
      go_wp2_with fail
      generalize hxq : Big.nth X q = xq at hst
      have HXQ := Lib.hid hxq
      clear hxq
      have hbk := (Big.rev_ok s.data.toList).nth (by omega) k
      generalize hnb : Big.nth (Big.rev s.data.toList) k = bk at hidx hbk
      have HNB := Lib.hid hnb
      have hxlt : xq < 256 ^ r := by
        have h1 := HZ.out.2 q hq
        rw [HXQ.out] at h1
        rw [h1]
        have h2 := Big.val_lt ((((Big.rev s.data.toList).take k).drop (8 * q)).take 8) (((Big.rev_ok _).take _).drop _ |>.take _)
        refine Nat.lt_of_lt_of_le h2 (Nat.pow_le_pow_right (by omega) ?_)
        have := HK.out
        simp [Big.rev_length]
        omega
      have HV := Lib.hid (show bits .or .u64 ((xq : Nat) : Int) (IntKind.u64.wrap (IntKind.u64.wrap ((bk : Nat) : Int) * 2 ^ (r * 8))) = ((xq + 256 ^ r * bk : Nat) : Int) by
        have b1 := Big.byte_bound hbk hr
        have w1 : IntKind.u64.wrap ((bk : Nat) : Int) = ((bk : Nat) : Int) := by rw [IntKind.wrap_u64]; omega
        have e1 : ((bk : Nat) : Int) * 2 ^ (r * 8) = ((bk * 2 ^ (r * 8) : Nat) : Int) := by rw [Int.natCast_mul, Int.natCast_pow]; rfl
        rw [w1, e1, IntKind.wrap_u64, Int.emod_eq_of_lt (by omega) (by omega), u64_or_nat _ _ ?_ b1, Big.or_byte hxlt]
        refine Nat.lt_of_lt_of_le hxlt ?_
        rw [Big.pow256]
        exact (Nat.pow_le_pow_right (by omega) (by omega : r * 8 ≤ 64)))
      have R := Big.byte_step (b := 256) (k := 8) (by omega) hr (X := X) (R := Big.rev s.data.toList) (q := q) (by rw [Big.rev_length]; have := HK.out; simp; omega) hq (by rw [← HK.out]; exact HZ.out.2)
      rw [HXQ.out, ← HK.out, HNB.out] at R
      have R1 := Lib.hid R
      have HB' := Lib.hid (HB.out.set q (xq + 256 ^ r * bk))
      clear hxlt hbk R hnb
      go_region
      rw [HV.out]
      go_wp2
      go_roundw
      case rel => exact ⟨k + 1, _, by omega, by go_num, Lib.hid ⟨by rw [List.length_set]; exact HZ.out.1, R1.out⟩, Lib.hid HB'.out, Lib.hid ((HBel.out.setCell (Nat.le_refl _) _).drew)⟩
      case measure => simp [intOf]; omega
    · have hkl : k = s.size := by omega
      subst hkl
      go_wp2_with fail
      refine (trim_any _ _ X ?_).mono ?_
      · have h1 := HB.out.wd0 ((s.size + 7) / 8) (by have := HZ.out.1; omega) (by omega)
        rw [HZ.out.1] at h1
        exact h1
      · rintro e w' ⟨v', rfl, hv', rfl⟩
        have HV := Lib.hid hv'
        clear hv'
        go_wp2
        go_ret
        have hv := Big.regroup (C := Big.M64) (b := 256) (k := 8) Big.M64_pow X (Big.rev s.data.toList) (by rw [Big.rev_length, HZ.out.1]; simp; omega) (fun j hj => by
          have := HZ.out.2 j hj
          rwa [show (Big.rev s.data.toList).take s.size = Big.rev s.data.toList from List.take_of_length_le (by rw [Big.rev_length]; simp)] at this)
        have ho : Big.Ok Big.M64 X := by
          intro d hd
          obtain ⟨j, hj, rfl⟩ := List.getElem_of_mem hd
          have h1 := HZ.out.2 j hj
          have h2 : Big.nth X j = X[j] := by unfold Big.nth; rw [List.getD_eq_getElem?_getD, List.getElem?_eq_getElem hj]; rfl
          rw [← h2, h1, Big.M64_pow]
          have h3 := Big.val_lt ((((Big.rev s.data.toList).take s.size).drop (8 * j)).take 8) ((((Big.rev_ok _).take _).drop _).take _)
          refine Nat.lt_of_lt_of_le h3 (Nat.pow_le_pow_right (by omega) ?_)
          simp; omega
        exact ⟨v', rfl, ⟨Big.strip X, HV.out, Big.strip_ok ho, Big.strip_norm _, by rw [Big.strip_val]; exact hv⟩, HBel.out⟩
end Go.Proofs.YtfmebfkdpfbjbaaGreatDoor
namespace Go.Proofs.YtfmebfkdpfbjbaaGreatDoor
open Go.RowKit
theorem lz_any (x : Nat) (hx : x < 18446744073709551616) (w : World) :
    Calls Tryz.prog 120 #[.int .u64 (x : Int)] w fun e w' => e = .returned (.int .i64 (64 - ((Lib.bitLen x : Nat) : Int))) ∧ w = w' :=
  (Tryz.bits_LeadingZeros64 (x : Int) w (by omega) (by omega)).mono fun _ _ ⟨h1, h2⟩ => ⟨by simpa using h1, h2.symm⟩
def lzn (x : Nat) : Nat := 64 - Lib.bitLen x
theorem bitLen_bd (x : Nat) (hx : x < 18446744073709551616) (h0 : x ≠ 0) : 1 ≤ Lib.bitLen x ∧ Lib.bitLen x ≤ 64 ∧ 2 ^ (Lib.bitLen x - 1) ≤ x ∧ x < 2 ^ Lib.bitLen x := by
  have h := Lib.bitLenAux_bounds 64 x hx h0
  refine ⟨h.1, ?_, h.2.1, h.2.2⟩
  rcases Nat.lt_or_ge 64 (Lib.bitLen x) with hlt | hge
  · have h1 : 2 ^ 64 ≤ 2 ^ (Lib.bitLen x - 1) := Nat.pow_le_pow_right (by omega) (by omega)
    have h2 : 2 ^ (Lib.bitLen x - 1) ≤ x := h.2.1
    omega
  · exact hge
theorem lzn_bd (x : Nat) (hx : x < 18446744073709551616) (h0 : x ≠ 0) : lzn x ≤ 63 ∧ 9223372036854775808 ≤ x * 2 ^ lzn x ∧ x * 2 ^ lzn x < 18446744073709551616 := by
  obtain ⟨h1, h2, h3, h4⟩ := bitLen_bd x hx h0
  unfold lzn
  generalize Lib.bitLen x = b at *
  refine ⟨by omega, ?_, ?_⟩
  · have : 2 ^ (b - 1) * 2 ^ (64 - b) ≤ x * 2 ^ (64 - b) := Nat.mul_le_mul_right _ h3
    rw [← Nat.pow_add, show b - 1 + (64 - b) = 63 by omega] at this
    exact this
  · have : x * 2 ^ (64 - b) < 2 ^ b * 2 ^ (64 - b) := Nat.mul_lt_mul_of_pos_right h4 (Nat.pow_pos (by omega))
    rw [← Nat.pow_add, show b + (64 - b) = 64 by omega] at this
    exact this
theorem lzn_any (x : Nat) (hx : x < 18446744073709551616) (h0 : x ≠ 0) (w : World) :
    Calls Tryz.prog 120 #[.int .u64 (x : Int)] w fun e w' => e = .returned (.int .i64 ((lzn x : Nat) : Int)) ∧ w = w' :=
  (lz_any x hx w).mono fun _ _ ⟨h1, h2⟩ => ⟨by rw [h1]; apply ret_int; have := bitLen_bd x hx h0; unfold lzn; omega, h2⟩
theorem norm_last {l : List Nat} (h : Big.Norm l) (hne : l ≠ []) : ∃ r t, l = r ++ [t] ∧ t ≠ 0 := by
  refine ⟨l.dropLast, l.getLast hne, (List.dropLast_concat_getLast hne).symm, fun e => h ?_⟩
  rw [List.getLast?_eq_some_getLast hne, e]
theorem size_any (w : World) (v : Value) (n : Nat) (h : NatIn w v n) (hn : n < Big.M64 ^ Big.KX) :
    Calls Tryz.prog 62 #[v] w fun e w' => ∃ s : Nat, e = .returned (.int .i64 (s : Int)) ∧ Big.IsSize n s ∧ w = w' := by
  obtain ⟨l, hw, ol, nl, rfl⟩ := h
  have hl := len_of_lt nl hn
  rw [Big.KX_eq] at hl
  obtain ⟨A, c, rfl, h1, h2, h3⟩ := hw
  by_cases hne : l = []
  · subst hne
    clear hn h3 nl ol
    go_enter Tryz.func62, Tryz.ntmps62
    go_wp2
    go_ret
    exact ⟨0, rfl, Big.isSize_zero, rfl⟩
  · obtain ⟨r, t, rfl, ht0⟩ := norm_last nl hne
    have hlr : (r ++ [t]).length = r.length + 1 := by simp
    obtain ⟨b, o, rfl, hlt, hc, -⟩ := h3 (by omega)
    have hcell := hc r.length (by omega)
    have ent : Big.nth (r ++ [t]) r.length = t := by unfold Big.nth; rw [List.getD_eq_getElem?_getD, List.getElem?_append_right (Nat.le_refl _)]; simp
    rw [ent] at hcell
    have htM : t < 18446744073709551616 := by rw [← Big.M64_eq]; exact ol t (by simp)
    obtain ⟨b1, b2, b3, b4⟩ := bitLen_bd t htM ht0
    have HS := Lib.hid (Big.isSize_top (b := Lib.bitLen t) (fun d hd => ol d (by simp [hd]) : Big.Ok Big.M64 r) b4 b3 b1 b2)
    have hc0 : (((r ++ [t]).length : Int) == 0) = false := beq_eq_false_iff_ne.2 (by omega)
    have CL := Lib.hid (lz_any t htM)
    rw [hlr] at h1 hl hc0 ⊢
    clear h3 hc hlr ent b3 b4 htM hne nl ol hn
    generalize Lib.bitLen t = bl at *
    generalize Big.val Big.M64 (r ++ [t]) = N at *
    generalize r.length = m at *
    have hc1 : ((m : Int) + 1 == 0) = false := beq_eq_false_iff_ne.2 (by omega)
    go_enter Tryz.func62, Tryz.ntmps62
    go_wp2_with (go_at_call 120; refine (CL.out _).mono ?_; rintro e w' ⟨rfl, rfl⟩)
    go_ret
    refine ⟨_, ?_, HS.out, rfl⟩
    apply ret_int
    omega
theorem Tryz.infoU8 : (Tryz.prog.info? 5).map (fun i => (i.zero, i.size, i.bytes)) = some (some (.int .u8 0), 1, 1) := by kernel_rfl
set_option maxRecDepth 100000 in
set_option maxHeartbeats 2000000 in
theorem bytes_any (w : World) (v : Value) (n : Nat) (h : NatIn w v n) (hn : n < Big.M64 ^ Big.KL) :
    Calls Tryz.prog 112 #[v] w fun e w' => ∃ s : Nat, e = .returned (.string ⟨(Big.btext n s).toArray⟩) ∧ Big.IsSize n s ∧ Below w.heap.size w w' := by
  have CS := Lib.hid (size_any w v n h (Nat.lt_of_lt_of_le hn (Nat.pow_le_pow_right Big.M64_pos Big.KL_le)))
  obtain ⟨l, hw, ol, nl, hval⟩ := h
  have hl := len_of_lt (K := Big.KL) nl (by rw [hval]; exact hn)
  rw [Big.KL_eq] at hl
  have HW := Lib.hid hw; have OL := Lib.hid ol; have NL := Lib.hid nl; have HVAL := Lib.hid hval
  have HN := Lib.hid hn
  obtain ⟨A, c, rfl, -, -, -⟩ := hw
  obtain ⟨i0, hi, hz0, hz1, hz2⟩ := info_parts Tryz.infoU8
  clear ol nl hval hn
  go_enter Tryz.func112, Tryz.ntmps112
  go_wp2_with fail
  refine CS.out.mono ?_
  rintro e w1 ⟨sz, rfl, hsz, rfl⟩
  have HSZ := Lib.hid hsz
  have hsb : sz ≤ 800000000 := by
    rcases Nat.lt_or_ge 800000000 sz with hlt | hge
    · have h1 := hsz.2 (by omega)
      have h2 := HN.out
      rw [Big.M64_pow, ← Nat.pow_mul] at h2
      have h3 : 256 ^ (8 * Big.KL) ≤ 256 ^ (sz - 1) := Nat.pow_le_pow_right (by omega) (by have := Big.KL_eq; omega)
      omega
    · exact hge
  have hmk := fun W => make_words (P := Tryz.prog) Tryz.underlying48 hi hz0 hz1 (by rw [hz2]; omega) .i64 .i64 sz sz (Nat.le_refl _) (by omega) W
  have HB1 := Lib.hid (Blk.new w 5 .u8 (List.replicate sz 0))
  have HBel1 := Lib.hid ((Below.refl w.heap.size w).alloc (Nat.le_refl _) (.cells (cellsOf .u8 (List.replicate sz 0)) 5))
  clear hsz
  go_wp2_with fail
  clear hmk
  go_loopw [10] (fun i wr => ∃ (k : Nat), k ≤ sz ∧ i = .int .i64 k ∧
      Hid (Blk wr w.heap.size 5 .u8 (List.replicate (sz - k) 0 ++ (Big.bd n k).reverse)) ∧ Hid (Below w.heap.size w wr))
    (fun i _ => sz - (intOf i).toNat)
  case atStart => exact ⟨0, by omega, rfl, Lib.hid (by simpa [Big.bd] using HB1.out), HBel1⟩
  case round =>
    obtain ⟨k, hk, rfl, HB, HBel⟩ := hrel
    by_cases hkn : k < sz
    · obtain ⟨q, hq8⟩ : ∃ q, k / 8 = q := ⟨_, rfl⟩
      obtain ⟨r, hr8⟩ : ∃ r, k % 8 = r := ⟨_, rfl⟩
      have hr : r < 8 := by omega
      have hkq : k = 8 * q + r := by omega
      have hq : q < l.length := by
        rcases Nat.lt_or_ge q l.length with h1 | h1
        · exact h1
        · exfalso
          have h2 := HSZ.out.2 (by omega)
          have h3 := Big.val_lt l OL.out
          rw [HVAL.out, Big.M64_pow, ← Nat.pow_mul] at h3
          have h4 : 256 ^ (8 * l.length) ≤ 256 ^ (sz - 1) := Nat.pow_le_pow_right (by omega) (by omega)
          omega
      have hX := HW.out
      obtain ⟨A', c', e, x1, x2, x3⟩ := hX
      cases e
      obtain ⟨b, o, rfl, hblt, hcc, -⟩ := x3 (by omega)
      have hcell := (HBel.out.cell (p := ⟨b, o + q, none⟩) hblt).trans (hcc q hq)
      have hlen : (List.replicate (sz - k) 0 ++ (Big.bd n k).reverse).length = sz := by simp [Big.bd_length]; omega
      have hst := HB.out.cell (sz - 1 - k) (by omega)
      have hfr := HB.out.frozen (sz - 1 - k)
      have d1 : (k : Int) / 8 = (q : Int) := by omega
      have d2 : (k : Int) % 8 = (r : Int) := by omega
      have d3 : (0 : Int) ≤ (sz : Int) - 1 - k := by omega
      have d4 : (sz : Int) - 1 - k < sz := by omega
      have d5 : ((sz : Int) - 1 - k).toNat = sz - 1 - k := by omega
      have hql : (q : Int) < (l.length : Int) := by omega
      have ev := Big.nth_div Big.M64_pos l OL.out q
      rw [HVAL.out] at ev
      have hxm : Big.nth l q < 18446744073709551616 := by rw [← Big.M64_eq]; exact OL.out.nth Big.M64_pos q
      generalize Big.nth l q = xq at hcell ev hxm
      have HV := Lib.hid (show ((xq : Nat) : Int) / 2 ^ (r * 8) % 256 = ((n / 256 ^ k % 256 : Nat) : Int) by
        rw [hkq, ← Big.byte_div n q r hr, ← ev]
        rw [show ((2 : Int) ^ (r * 8)) = ((2 ^ (r * 8) : Nat) : Int) by rw [Int.natCast_pow]; rfl]
        omega)
      have HB' := Lib.hid (HB.out.set (sz - 1 - k) (n / 256 ^ k % 256))
      clear hq8 hr8 hlen x3 hcc ev hkq
      go_wp2_with fail
      rw [HV.out]
      refine ⟨⟨k + 1, by omega, by go_num, Lib.hid ?_, Lib.hid (HBel.out.setCell (Nat.le_refl _) _)⟩, by simp [intOf]; omega⟩
      have := HB'.out
      rw [Big.bd_set n k sz hkn] at this
      exact this
    · have hkl : k = sz := by omega
      subst hkl
      have hB := HB.out
      rw [Nat.sub_self, List.replicate_zero, List.nil_append] at hB
      have hcv := run_convert_bytes_back (P := Tryz.prog) wr 48 9 5 ⟨w.heap.size, 0, none⟩ k (Big.btext n k) Tryz.underlying48 Tryz.underlying5 Tryz.underlying9 (fun j hj => by
        have hj' : j < k := by simpa [Big.btext_length] using hj
        have h1 := hB.cell j (by simpa [Big.bd_length] using hj')
        have ha : (⟨w.heap.size, 0, none⟩ : Addr).add j = ⟨w.heap.size, j, none⟩ := by unfold Addr.add; split <;> simp_all
        rw [ha, h1]
        rw [Big.btext_get n k j hj])
      rw [Big.btext_length] at hcv
      clear hB
      go_wp2
      go_ret
      exact ⟨k, rfl, HSZ.out, HBel.out⟩
end Go.Proofs.YtfmebfkdpfbjbaaGreatDoor
namespace Go.Proofs.YtfmebfkdpfbjbaaGreatDoor
namespace Big
structure Dig (B U Y y1 v q r : Nat) : Prop where
  eq : q * y1 + r = U
  ge : (U * B + v) / Y ≤ q
theorem Dig.start {B U Y y1 y0 v : Nat} (hY : Y = y1 * B + y0) (hv : v < B) (hy1 : 0 < y1) (hB : 0 < B) : Dig B U Y y1 v (U / y1) (U % y1) := by
  refine ⟨by rw [Nat.mul_comm]; exact Nat.div_add_mod U y1, ?_⟩
  have h : (U * B + v) / Y * Y ≤ U * B + v := Nat.div_mul_le_self _ _
  exact guess_div (P := B) (X := U * B + v) (Y := Y) rfl hv hY h hy1
theorem Dig.too_great {B U Y y1 y0 v q r : Nat} (h : Dig B U Y y1 v q r) (hY : Y = y1 * B + y0) (hB : 0 < B) (hy1 : 0 < y1) (ht : B * r + v < q * y0) : (U * B + v) / Y ≤ q - 1 := by
  have hYp : 0 < Y := by rw [hY]; have : 0 < y1 * B := Nat.mul_pos hy1 hB; omega
  have h1 : U * B + v < q * Y := by
    rw [hY, Nat.mul_add, ← Nat.mul_assoc, ← h.eq, Nat.add_mul, Nat.mul_comm r B]; omega
  have h2 := (Nat.div_lt_iff_lt_mul hYp).2 h1
  omega
theorem Dig.just {B U Y y1 y0 v q r : Nat} (h : Dig B U Y y1 v q r) (hY : Y = y1 * B + y0) (hYp : 0 < Y) (ht : q * y0 ≤ B * r + v) : (U * B + v) / Y = q := by
  have h1 : q * Y ≤ U * B + v := by
    rw [hY, Nat.mul_add, ← Nat.mul_assoc, ← h.eq, Nat.add_mul, Nat.mul_comm r B]; omega
  have h2 := (Nat.le_div_iff_mul_le hYp).2 h1
  have := h.ge
  omega
theorem Dig.less {B U Y y1 v q r : Nat} (h : Dig B U Y y1 v q r) (hq : 0 < q) (ht : (U * B + v) / Y ≤ q - 1) : Dig B U Y y1 v (q - 1) (r + y1) := by
  refine ⟨?_, ht⟩
  have := h.eq
  have e : q * y1 = (q - 1) * y1 + y1 := by
    conv => lhs; rw [show q = q - 1 + 1 by omega]
    rw [Nat.add_mul, Nat.one_mul]
  omega
theorem Dig.broke {B U Y y1 y0 v q r : Nat} (h : Dig B U Y y1 v q r) (hY : Y = y1 * B + y0) (hYp : 0 < Y) (hy0 : y0 < B) (hq : q ≤ B) (hr : B ≤ r) : (U * B + v) / Y = q := by
  apply h.just hY hYp
  have h1 : q * y0 ≤ B * B := Nat.mul_le_mul hq (by omega)
  have h2 : B * B ≤ B * r := Nat.mul_le_mul_left B hr
  omega
theorem digit_lt {B U Y v : Nat} (hv : v < B) (hU : U < Y) : (U * B + v) / Y < B := by
  rw [Nat.div_lt_iff_lt_mul (by omega)]
  have : (U + 1) * B ≤ Y * B := Nat.mul_le_mul_right B hU
  rw [Nat.add_mul] at this
  rw [Nat.mul_comm B Y]; omega
theorem two_digits {B U Y v1 v0 : Nat} (hB : 0 < B) (hY : 0 < Y) (h0 : v0 < B) :
    (U * (B * B) + (v1 * B + v0)) / Y = (U * B + v1) / Y * B + ((U * B + v1) % Y * B + v0) / Y ∧ (U * (B * B) + (v1 * B + v0)) % Y = ((U * B + v1) % Y * B + v0) % Y := by
  have e : U * (B * B) + (v1 * B + v0) = Y * ((U * B + v1) / Y * B) + ((U * B + v1) % Y * B + v0) := by
    have h := Nat.div_add_mod (U * B + v1) Y
    have h2 : (Y * ((U * B + v1) / Y) + (U * B + v1) % Y) * B = (U * B + v1) * B := by rw [h]
    rw [Nat.add_mul, Nat.add_mul, Nat.mul_assoc Y, Nat.mul_assoc U] at h2
    omega
  rw [e]
  constructor
  · rw [Nat.mul_add_div hY]
  · rw [Nat.mul_add_mod]
theorem norm_shift {hi lo s : Nat} (hs : s ≤ 64) (hhi : hi * 2 ^ s < 18446744073709551616) (hlo : lo < 18446744073709551616) :
    hi * 2 ^ s ||| lo / 2 ^ (64 - s) = hi * 2 ^ s + lo / 2 ^ (64 - s) ∧ hi * 2 ^ s + lo / 2 ^ (64 - s) < 18446744073709551616 + 2 ^ s ∧
      (hi * 18446744073709551616 + lo) * 2 ^ s = (hi * 2 ^ s + lo / 2 ^ (64 - s)) * 18446744073709551616 + lo * 2 ^ s % 18446744073709551616 := by
  have e64 : (18446744073709551616 : Nat) = 2 ^ s * 2 ^ (64 - s) := by rw [← Nat.pow_add, show s + (64 - s) = 64 by omega]
  have h1 : lo / 2 ^ (64 - s) < 2 ^ s := by
    rw [Nat.div_lt_iff_lt_mul (Nat.pow_pos (by omega)), ← e64]; exact hlo
  refine ⟨?_, by omega, ?_⟩
  · rw [← Nat.shiftLeft_eq, ← Nat.shiftLeft_add_eq_or_of_lt h1, Nat.shiftLeft_eq]
  · have h2 : lo * 2 ^ s / 18446744073709551616 = lo / 2 ^ (64 - s) := by
      rw [e64, Nat.mul_comm lo, Nat.mul_div_mul_left _ _ (Nat.pow_pos (by omega))]
    have h3 := Nat.div_add_mod (lo * 2 ^ s) 18446744073709551616
    rw [h2] at h3
    rw [Nat.add_mul, Nat.add_mul, Nat.mul_right_comm]
    omega
theorem shift_div {X y s : Nat} : X * 2 ^ s / (y * 2 ^ s) = X / y ∧ X * 2 ^ s % (y * 2 ^ s) = X % y * 2 ^ s :=
  ⟨Nat.mul_div_mul_right _ _ (Nat.pow_pos (by omega)), Nat.mul_mod_mul_right _ _ _⟩
end Big
end Go.Proofs.YtfmebfkdpfbjbaaGreatDoor
