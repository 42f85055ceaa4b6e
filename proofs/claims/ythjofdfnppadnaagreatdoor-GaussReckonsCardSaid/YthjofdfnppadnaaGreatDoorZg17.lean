/- Contracts, in this order: ref90: a word of a quotient guessed. · ref90: products of sizes. · ref90: one digit of a long division taken off, and put back. · ref90: a size put back. · ref90: long division, plain arithmetic of half words. · ref90: quotient and rest. -/
import Derived.Test.YthjofdfnppadnaaGreatDoorZg16
import Derived.Test.YthjofdfnppadnaaGreatDoorZg08
namespace Go.Proofs.YthjofdfnppadnaaGreatDoor
namespace R
open Go.RowKit
theorem g_fin1 {q r top U M next c : Nat} (h : q * top + r = U) (h2 : q * next ≤ r * M + c) : q * (top * M + next) ≤ U * M + c := by
  rw [Nat.mul_add, ← Nat.mul_assoc, ← h, Nat.add_mul]; omega
theorem g_fin2 {q r a b top M next U : Nat} (h : q * top + r = U) (hU : U = a * M + b) (hb : b < M) (ha : a ≤ top) (hn : next < M) (hr : M ≤ r) : q < M ∧ q * (top * M + next) ≤ U * M := by
  have h1 : a * M ≤ top * M := Nat.mul_le_mul_right M ha
  have h2 : q * top < M * top := by rw [Nat.mul_comm M top]; omega
  have hq := Nat.lt_of_mul_lt_mul_right h2
  refine ⟨hq, ?_⟩
  have h3 : q * next ≤ M * M := Nat.mul_le_mul (Nat.le_of_lt hq) (Nat.le_of_lt hn)
  have h4 : M * M ≤ r * M := Nat.mul_le_mul_right M hr
  rw [Nat.mul_add, ← Nat.mul_assoc, ← h, Nat.add_mul]; omega
theorem g_great {q r top U M next c Y : Nat} (h : q * top + r = U) (hY : top * M + next = Y) (h2 : r * M + c < q * next) (hp : 0 < Y) : (U * M + c) / Y ≤ q - 1 := by
  have h1 : U * M + c < q * Y := by
    rw [← hY, Nat.mul_add, ← Nat.mul_assoc, ← h, Nat.add_mul]; omega
  have := (Nat.div_lt_iff_lt_mul hp).2 h1
  omega
theorem g_less {q r top U : Nat} (h : q * top + r = U) (hq : 0 < q) : (q - 1) * top + (r + top) = U := by
  have e : q * top = (q - 1) * top + top := by
    conv => lhs; rw [show q = q - 1 + 1 by omega]
    rw [Nat.add_mul, Nat.one_mul]
  omega
set_option maxRecDepth 100000 in
set_option maxHeartbeats 2000000 in
theorem guessed_any (w : World) (a b c top next qt : Nat) (ha : a ≤ top) (hb : b < M32) (hc : c < M32) (ht : top < M32) (ht0 : 0 < top) (hn : next < M32) (hqt : qt < M32)
    (hge : qt ≤ ((a * M32 + b) * M32 + c) / (top * M32 + next)) :
    Calls Tryz.prog 238 #[.int .u32 (a : Int), .int .u32 (b : Int), .int .u32 (c : Int), .int .u32 (top : Int), .int .u32 (next : Int)] w fun e w' =>
      ∃ g : Nat, e = .returned (.int .u64 (g : Int)) ∧ g < M32 ∧ qt ≤ g ∧ g * (top * M32 + next) ≤ (a * M32 + b) * M32 + c ∧ Drew w w' := by
  have hM := M32_eq
  have ho := or_hi a b (by omega) (by omega)
  have e1 : a * 4294967296 + b = a * M32 + b := by rw [hM]
  rw [e1] at ho
  obtain ⟨U, hU⟩ : ∃ U, a * M32 + b = U := ⟨_, rfl⟩
  rw [hU] at ho hge ⊢
  have hUb : U < 18446744073709551616 := by rw [← hU, hM]; rw [hM] at hb ht; omega
  have hd0 : ((U : Nat) : Int) / (top : Int) = ((U / top : Nat) : Int) := by rw [Int.natCast_ediv]
  have hm0 : ((U : Nat) : Int) % (top : Int) = ((U % top : Nat) : Int) := by rw [Int.natCast_emod]
  have H0 := Lib.hid (show U / top * top + U % top = U by rw [Nat.mul_comm]; exact Nat.div_add_mod U top)
  have HQ0 := Lib.hid (show qt ≤ U / top by
    refine Nat.le_trans hge ?_
    have hp : 0 < top * M32 + next := by have := Nat.mul_pos ht0 M32_pos; omega
    rw [Nat.le_div_iff_mul_le ht0]
    have h1 := Nat.div_mul_le_self (U * M32 + c) (top * M32 + next)
    generalize (U * M32 + c) / (top * M32 + next) = z at *
    rw [Nat.mul_add, ← Nat.mul_assoc] at h1
    have h2 : z * top * M32 < (U + 1) * M32 := by rw [Nat.add_mul]; omega
    have := Nat.lt_of_mul_lt_mul_right h2
    omega)
  have hm1 : U % top < top := Nat.mod_lt _ ht0
  have hd1 : U / top < 18446744073709551616 := Nat.lt_of_le_of_lt (Nat.div_le_self _ _) hUb
  generalize U / top = q0 at *
  generalize U % top = r0 at *
  have HH := Lib.hid (And.intro hqt (And.intro hge (And.intro hU (And.intro hb (And.intro ha (And.intro hn hc))))))
  rw [hM] at hb hc ht hn
  have hz : ((top : Int) == 0) = false := beq_eq_false_iff_ne.2 (by omega)
  have wt : IntKind.u64.wrap (top : Int) = top := w64 top (by omega)
  have wd : IntKind.u64.wrap (q0 : Int) = q0 := w64 q0 (by omega)
  clear hqt hge hU e1 hM
  go_enter Tryz.func238, Tryz.ntmps238
  go_wp2_with fail
  go_quiet (fail)
  go_wp2_with fail
  have HD0 := Lib.hid ((Drew.refl w).drewN nq)
  generalize w.drewN nq = wa at HD0 ⊢
  have HM0 := Lib.hid hm0
  clear wt wd hd0 hm0 ho hz
  go_loopw [12, 13] (fun s t wr => ∃ q r : Nat, s = .int .u64 (q : Int) ∧ t = .int .u64 (r : Int) ∧ q < 18446744073709551616 ∧ r < 4294967296 ∧ Hid (q * top + r = U ∧ qt ≤ q) ∧ wa = wr) (fun s _ _ => (intOf s).toNat)
  case atStart => exact ⟨q0, r0, rfl, by rw [HM0.out], hd1, by omega, Lib.hid ⟨H0.out, HQ0.out⟩, rfl⟩
  case round =>
    obtain ⟨q, r, rfl, rfl, hq, hr, HI, rfl⟩ := hrel
    have hor := or_hi r c hr hc
    have hR : r * 4294967296 + c < 18446744073709551616 := by omega
    by_cases hC : q < 4294967296 ∧ q * next ≤ r * 4294967296 + c
    · obtain ⟨hC1, hC2⟩ := hC
      have HF := Lib.hid (show q < M32 ∧ qt ≤ q ∧ q * (top * M32 + next) ≤ U * M32 + c from ⟨by rw [M32_eq]; exact hC1, HI.out.2, g_fin1 HI.out.1 (by rw [M32_eq]; exact hC2)⟩)
      have hp : q * next ≤ 4294967295 * 4294967295 := Nat.mul_le_mul (by omega) (by omega)
      have hp1 : (q : Int) * (next : Int) ≤ 18446744065119617025 := by rw [← Int.natCast_mul]; omega
      have hp0 : 0 ≤ (q : Int) * (next : Int) := by rw [← Int.natCast_mul]; omega
      have t1 : ¬ ((q : Int) ≥ 4294967296) := by omega
      obtain ⟨R, hRe⟩ : ∃ R, r * 4294967296 + c = R := ⟨_, rfl⟩
      rw [hRe] at hor hR hC2
      have t2 : ¬ ((q : Int) * (next : Int) > (R : Int)) := by rw [← Int.natCast_mul]; omega
      clear hRe hC2 hp
      go_wp2
      go_ret
      exact ⟨q, rfl, HF.out.1, HF.out.2.1, HF.out.2.2, HD0.out⟩
    · have hYp : 0 < top * M32 + next := by have := Nat.mul_pos ht0 M32_pos; omega
      have hle : qt ≤ q - 1 ∧ 0 < q := by
        by_cases h1 : q < 4294967296
        · have h2 : r * 4294967296 + c < q * next := by
            rcases Nat.lt_or_ge (r * 4294967296 + c) (q * next) with h | h
            · exact h
            · exact absurd ⟨h1, h⟩ hC
          refine ⟨Nat.le_trans HH.out.2.1 (g_great HI.out.1 rfl (by rw [M32_eq]; exact h2) hYp), ?_⟩
          rcases Nat.eq_zero_or_pos q with e | e
          · subst e; omega
          · exact e
        · have := HH.out.1
          rw [M32_eq] at this
          omega
      have HL := Lib.hid (And.intro (g_less HI.out.1 hle.2) hle.1)
      have hq1 : (1 : Int) ≤ (q : Int) := by omega
      have i9 : (q : Int) - 1 = ((q - 1 : Nat) : Int) := by omega
      have hqd : q - 1 < 18446744073709551616 := by omega
      have HM := Lib.hid (show q - 1 < q by omega)
      have T : (¬ ((q : Int) ≥ 4294967296) → (q : Int) * (next : Int) ≤ 18446744065119617025 ∧ 0 ≤ (q : Int) * (next : Int) ∧ (q : Int) * (next : Int) > ((r * 4294967296 + c : Nat) : Int)) := by
        intro h1
        have h1' : q < 4294967296 := by omega
        have h2 : r * 4294967296 + c < q * next := by
          rcases Nat.lt_or_ge (r * 4294967296 + c) (q * next) with h | h
          · exact h
          · exact absurd ⟨h1', h⟩ hC
        have hp : q * next ≤ 4294967295 * 4294967295 := Nat.mul_le_mul (by omega) (by omega)
        rw [← Int.natCast_mul]
        omega
      obtain ⟨R, hRe⟩ : ∃ R, r * 4294967296 + c = R := ⟨_, rfl⟩
      rw [hRe] at hor hR T
      have HT := Lib.hid T
      generalize q - 1 = q' at *
      clear T hRe hle hYp hC
      by_cases hbr : 4294967296 ≤ r + top
      · have HF := Lib.hid (show q' < M32 ∧ qt ≤ q' ∧ q' * (top * M32 + next) ≤ U * M32 + c from by
          have h := g_fin2 (M := M32) (next := next) HL.out.1 HH.out.2.2.1.symm HH.out.2.2.2.1 HH.out.2.2.2.2.1 HH.out.2.2.2.2.2.1 (by rw [M32_eq]; exact hbr)
          exact ⟨h.1, HL.out.2, by omega⟩)
        have t3 : ((r : Int) + (top : Int) ≥ 4294967296) := by omega
        by_cases t1 : (q : Int) ≥ 4294967296
        · go_wp2
          go_ret
          exact ⟨q', rfl, HF.out.1, HF.out.2.1, HF.out.2.2, HD0.out⟩
        · obtain ⟨p1, p0, t2⟩ := HT.out t1
          go_wp2
          go_ret
          exact ⟨q', rfl, HF.out.1, HF.out.2.1, HF.out.2.2, HD0.out⟩
      · have t3 : ¬ ((r : Int) + (top : Int) ≥ 4294967296) := by omega
        have HL' := Lib.hid HL.out
        have hrt : r + top < 4294967296 := by omega
        by_cases t1 : (q : Int) ≥ 4294967296
        · go_wp2_with fail
          refine ⟨⟨q', r + top, rfl, by go_num, hqd, hrt, HL', trivial⟩, by simp only [intOf]; have := HM.out; omega⟩
        · obtain ⟨p1, p0, t2⟩ := HT.out t1
          go_wp2_with fail
          refine ⟨⟨q', r + top, rfl, by go_num, hqd, hrt, HL', trivial⟩, by simp only [intOf]; have := HM.out; omega⟩
end R
end Go.Proofs.YthjofdfnppadnaaGreatDoor
namespace Go.Proofs.YthjofdfnppadnaaGreatDoor
namespace R
open Go.RowKit
theorem mul_round {Z m zs : List Nat} {k n x : Nat} (oZ : Big.Ok M32 Z) (om : Big.Ok M32 m) (hn : n < M32) (hx : x < M32)
    (h : zs.length = k ∧ Big.Ok M32 zs ∧ Big.val M32 zs + M32 ^ k * n = Big.val M32 (Z.take k) + Big.val M32 (m.take k) * x) :
    hi32 (n + Big.nth Z k + x * Big.nth m k) < M32 ∧ (zs ++ [lo32 (n + Big.nth Z k + x * Big.nth m k)]).length = k + 1 ∧ Big.Ok M32 (zs ++ [lo32 (n + Big.nth Z k + x * Big.nth m k)]) ∧
      Big.val M32 (zs ++ [lo32 (n + Big.nth Z k + x * Big.nth m k)]) + M32 ^ (k + 1) * hi32 (n + Big.nth Z k + x * Big.nth m k) = Big.val M32 (Z.take (k + 1)) + Big.val M32 (m.take (k + 1)) * x := by
  obtain ⟨h1, h2, h3⟩ := h
  have a := nth_lt oZ k
  have b := nth_lt om k
  have hm : x * Big.nth m k ≤ 4294967295 * 4294967295 := Nat.mul_le_mul (by rw [M32_eq] at hx; omega) (by omega)
  refine ⟨by rw [M32_eq] at *; unfold hi32; omega, by simp [h1], h2.append (Big.Ok.cons (by rw [M32_eq]; exact lo32_lt _) Big.Ok.nil), ?_⟩
  rw [Big.val_take_succ', Big.val_take_succ']
  refine Big.mul_step h1 h3 ?_
  have := lo_hi (n + Big.nth Z k + x * Big.nth m k)
  rw [M32_eq, Nat.mul_comm (Big.nth m k) x]
  omega
theorem nth_mid {L zs : List Nat} {off k : Nat} (h : off + k < L.length) (hz : zs.length = k) : Big.nth (L.take off ++ (zs ++ L.drop (off + k))) (off + k) = Big.nth L (off + k) := by
  unfold Big.nth
  rw [List.getD_eq_getElem?_getD, List.getD_eq_getElem?_getD, List.getElem?_append_right (by simp; omega), List.getElem?_append_right (by simp; omega), List.getElem?_drop]
  congr 2
  simp
  omega
theorem len_mid {L zs : List Nat} {off k : Nat} (h : off + k ≤ L.length) (hz : zs.length = k) : (L.take off ++ (zs ++ L.drop (off + k))).length = L.length := by simp; omega
theorem set_mid {L zs : List Nat} {off k x : Nat} (h : off + k < L.length) (hz : zs.length = k) : (L.take off ++ (zs ++ L.drop (off + k))).set (off + k) x = L.take off ++ ((zs ++ [x]) ++ L.drop (off + (k + 1))) := by
  rw [List.set_append_right _ _ (by simp; omega), List.set_append_right _ _ (by simp; omega), Big.drop_cons L (off + k) h, show off + k - (L.take off).length - zs.length = 0 by simp; omega, List.set_cons_zero]
  simp [Nat.add_assoc]
theorem nth_drop_take (l : List Nat) (off n i : Nat) (hi : i < n) : Big.nth ((l.drop off).take n) i = Big.nth l (off + i) := by
  unfold Big.nth
  rw [List.getD_eq_getElem?_getD, List.getD_eq_getElem?_getD, List.getElem?_take_of_lt hi, List.getElem?_drop]
theorem mul_row {Z zs : List Nat} {i N x V o : Nat} (hz : zs.length = N) (hl : i + N < Z.length) (h0 : Z.drop (i + N) = List.replicate (Z.length - (i + N)) 0)
    (h : Big.val M32 zs + M32 ^ N * o = Big.val M32 ((Z.drop i).take N) + V * x) :
    Big.val M32 (Z.take i ++ ((zs ++ [o]) ++ Z.drop (i + (N + 1)))) = Big.val M32 Z + M32 ^ i * (V * x) ∧
      (Z.take i ++ ((zs ++ [o]) ++ Z.drop (i + (N + 1)))).drop (i + 1 + N) = List.replicate (Z.length - (i + 1 + N)) 0 := by
  have e0 : Z.drop (i + (N + 1)) = List.replicate (Z.length - (i + 1 + N)) 0 := by
    rw [show i + (N + 1) = (i + N) + 1 by omega, ← List.drop_drop, h0, List.drop_replicate]
    congr 1; omega
  refine ⟨?_, ?_⟩
  · have e1 : Big.val M32 Z = Big.val M32 (Z.take i) + M32 ^ i * Big.val M32 ((Z.drop i).take N) := by
      rw [Big.val_take_drop Z i (by omega), Big.val_take_drop (Z.drop i) N (by simp; omega), List.drop_drop, h0, Big.val_replicate, Nat.mul_zero, Nat.add_zero]
    rw [Big.val_append, Big.val_append, e0, Big.val_replicate, Big.val_snoc, hz, h, e1, List.length_take, Nat.min_eq_left (by omega), Nat.mul_zero, Nat.add_zero, Nat.mul_add, Nat.add_assoc]
  · rw [← List.append_assoc, List.drop_left' (by simp; omega), e0]
set_option maxRecDepth 100000 in
set_option maxHeartbeats 2000000 in
theorem mulWords_any (w : World) (v u : Value) (l m : List Nat) (h : Wd w .u32 v l) (hu : Wd w .u32 u m) (ol : Big.Ok M32 l) (om : Big.Ok M32 m) (hl : l.length ≤ 1000000000) (hm : m.length ≤ 1000000000) :
    Calls Tryz.prog 202 #[v, u] w fun e w' => ∃ v', e = .returned v' ∧ Nin w' v' (Big.val M32 l * Big.val M32 m) ∧ Below w.heap.size w w' := by
  have HW1 := Lib.hid h
  have HW2 := Lib.hid hu
  have OL := Lib.hid ol; have OM := Lib.hid om
  obtain ⟨A, c, rfl, -, -, -⟩ := h
  obtain ⟨A2, c2, rfl, -, -, -⟩ := hu
  have hmk := fun W => make32 (l.length + m.length) (by omega) W
  rw [show ((l.length + m.length : Nat) : Int) = (l.length : Int) + m.length by omega] at hmk
  have HB1 := Lib.hid (Blk.new w 167 .u32 (List.replicate (l.length + m.length) 0))
  have HBel1 := Lib.hid ((Below.refl w.heap.size w).alloc (Nat.le_refl _) (.cells (cellsOf .u32 (List.replicate (l.length + m.length) 0)) 167))
  clear ol om
  go_enter Tryz.func202, Tryz.ntmps202
  go_wp2_with fail
  clear hmk
  go_loopw [6] (fun i wr => ∃ (a : Nat) (Z : List Nat), a ≤ l.length ∧ i = .int .i64 a ∧
      Hid (Z.length = l.length + m.length ∧ Big.Ok M32 Z ∧ Z.drop (a + m.length) = List.replicate (Z.length - (a + m.length)) 0 ∧ Big.val M32 Z = Big.val M32 (l.take a) * Big.val M32 m) ∧
      Hid (Blk wr w.heap.size 167 .u32 Z) ∧ Hid (Below w.heap.size w wr))
    (fun i _ => l.length - (intOf i).toNat)
  case atStart => exact ⟨0, List.replicate (l.length + m.length) 0, by omega, rfl, Lib.hid ⟨by simp, fun d hd => by rw [List.eq_of_mem_replicate hd]; exact M32_pos, by simp, by simp [Big.val, Big.val_replicate]⟩, HB1, HBel1⟩
  case round =>
    obtain ⟨a, Z, ha, rfl, HZ, HB, HBel⟩ := hrel
    by_cases hlt : a < l.length
    · obtain ⟨A', c', e, x1, x2, x3⟩ := HW1.out
      cases e
      obtain ⟨b, o, rfl, hblt, hcc, -⟩ := x3 (by omega)
      have hcell := (HBel.out.cell (p := ⟨b, o + a, none⟩) hblt).trans (hcc a hlt)
      have hxM := nth_lt OL.out a
      have HXE := Lib.hid (Big.val_take_succ' (B := M32) l a)
      generalize Big.nth l a = x at *
      clear hcc x3
      go_wp2_with fail
      have HLZ := Lib.hid (show a + m.length < Z.length by have := HZ.out.1; omega)
      have OX := Lib.hid (show Big.Ok M32 ((Z.drop a).take m.length) from (HZ.out.2.1.drop _).take _)
      go_loopw [7, 9] (fun q i wq => ∃ (k n : Nat) (zs : List Nat), k ≤ m.length ∧ i = .int .i64 k ∧ q = .int .u64 n ∧ n < 4294967296 ∧
          Hid (zs.length = k ∧ Big.Ok M32 zs ∧ Big.val M32 zs + M32 ^ k * n = Big.val M32 (((Z.drop a).take m.length).take k) + Big.val M32 (m.take k) * x) ∧
          Hid (Blk wq w.heap.size 167 .u32 (Z.take a ++ (zs ++ Z.drop (a + k)))) ∧ Hid (Below w.heap.size w wq))
        (fun _ i _ => m.length - (intOf i).toNat)
      case atStart => exact ⟨0, 0, [], by omega, rfl, rfl, by omega, Lib.hid ⟨rfl, Big.Ok.nil, by simp [Big.val]⟩, Lib.hid (by simpa using HB.out), HBel⟩
      case round =>
        obtain ⟨k, n, zs, hk, rfl, rfl, hn, HI, HC, HCel⟩ := hrel
        by_cases hkn : k < m.length
        · obtain ⟨A'', c'', e, y1, y2, y3⟩ := HW2.out
          cases e
          obtain ⟨b2, o2, rfl, hblt2, hcc2, -⟩ := y3 (by omega)
          have hcell2 := (HCel.out.cell (p := ⟨b2, o2 + k, none⟩) hblt2).trans (hcc2 k (by omega))
          have hst := HC.out.cell (a + k) (by rw [len_mid (by have := HLZ.out; omega) HI.out.1]; have := HLZ.out; omega)
          rw [nth_mid (by have := HLZ.out; omega) HI.out.1, ← nth_drop_take Z a m.length k (by omega)] at hst
          have hfr := HC.out.frozen (a + k)
          have R := mul_round OX.out OM.out (by rw [M32_eq]; exact hn) (by rw [M32_eq]; exact hxM) HI.out
          have hy := nth_lt OM.out k
          have hz := nth_lt OX.out k
          have HC' := Lib.hid (HC.out.set (a + k) (lo32 (n + Big.nth ((Z.drop a).take m.length) k + x * Big.nth m k)))
          have ez := set_mid (L := Z) (off := a) (k := k) (x := lo32 (n + Big.nth ((Z.drop a).take m.length) k + x * Big.nth m k)) (by have := HLZ.out; omega) HI.out.1
          have hw := w32 (n + Big.nth ((Z.drop a).take m.length) k + x * Big.nth m k)
          have hs := sh32 (n + Big.nth ((Z.drop a).take m.length) k + x * Big.nth m k)
          have hp : x * Big.nth m k ≤ 4294967295 * 4294967295 := Nat.mul_le_mul (by omega) (by omega)
          clear hcc2 y3
          generalize Big.nth ((Z.drop a).take m.length) k = z at *
          generalize Big.nth m k = y at *
          have e1 : ((n + z + x * y : Nat) : Int) = (n : Int) + (z : Int) + (x : Int) * (y : Int) := by rw [Int.natCast_add, Int.natCast_add, Int.natCast_mul]
          have hp1 : (x : Int) * (y : Int) ≤ 18446744065119617025 := by rw [← Int.natCast_mul]; omega
          have hp0 : 0 ≤ (x : Int) * (y : Int) := by rw [← Int.natCast_mul]; omega
          rw [e1] at hw hs
          generalize lo32 (n + z + x * y) = sv at *
          generalize hi32 (n + z + x * y) = tv at *
          have R0 := R.1
          rw [M32_eq] at R0
          have R1 := Lib.hid R.2
          have HE := Lib.hid ez
          have hai : (a : Int) + k < (l.length : Int) + m.length := by omega
          have wak : IntKind.i64.wrap ((a : Int) + (k : Int)) = (a : Int) + k := IntWalk.i64_in _ (by omega)
          have wak2 : ((a : Int) + (k : Int)).toNat = a + k := by omega
          have wak0 : 0 ≤ (a : Int) + (k : Int) := by omega
          have wz : IntKind.u64.wrap (z : Int) = z := w64 z (by omega)
          have wy : IntKind.u64.wrap (y : Int) = y := w64 y (by omega)
          have u1 : IntKind.u64.wrap ((n : Int) + z) = (n : Int) + z := by rw [IntKind.wrap_u64]; omega
          have u2 : IntKind.u64.wrap ((x : Int) * y) = (x : Int) * y := by rw [IntKind.wrap_u64]; omega
          have u3 : IntKind.u64.wrap ((n : Int) + z + (x : Int) * y) = (n : Int) + z + (x : Int) * y := by rw [IntKind.wrap_u64]; omega
          clear R ez e1 hp
          go_wp2_with fail
          go_quiet (fail)
          go_wp2_with fail
          refine ⟨⟨k + 1, tv, zs ++ [sv], by omega, by go_num, rfl, R0, R1, Lib.hid ?_, Lib.hid ((below_drewN HCel.out nq).setCell (Nat.le_refl _) _)⟩, by simp [intOf]; omega⟩
          have h1 := (HC.out.drewN nq).set (a + k) sv
          rw [HE.out] at h1
          exact h1
        · have hkl : k = m.length := by omega
          subst hkl
          have hZl := HLZ.out
          have hst := HC.out.cell (a + m.length) (by rw [len_mid (by omega) HI.out.1]; omega)
          have hfr := HC.out.frozen (a + m.length)
          have ez := set_mid (L := Z) (off := a) (k := m.length) (x := n) hZl HI.out.1
          have HI3 := HI.out.2.2
          rw [List.take_take, Nat.min_self, List.take_length] at HI3
          have MR := mul_row HI.out.1 hZl HZ.out.2.2.1 HI3
          have hlZ : (Z.take a ++ ((zs ++ [n]) ++ Z.drop (a + (m.length + 1)))).length = Z.length := by have := HI.out.1; simp; omega
          have HZ' := Lib.hid (show (Z.take a ++ ((zs ++ [n]) ++ Z.drop (a + (m.length + 1)))).length = l.length + m.length ∧ Big.Ok M32 (Z.take a ++ ((zs ++ [n]) ++ Z.drop (a + (m.length + 1)))) ∧
              (Z.take a ++ ((zs ++ [n]) ++ Z.drop (a + (m.length + 1)))).drop (a + 1 + m.length) = List.replicate ((Z.take a ++ ((zs ++ [n]) ++ Z.drop (a + (m.length + 1)))).length - (a + 1 + m.length)) 0 ∧
              Big.val M32 (Z.take a ++ ((zs ++ [n]) ++ Z.drop (a + (m.length + 1)))) = Big.val M32 (l.take (a + 1)) * Big.val M32 m from
            ⟨by rw [hlZ]; exact HZ.out.1, (HZ.out.2.1.take _).append ((HI.out.2.1.append (Big.Ok.cons (by rw [M32_eq]; exact hn) Big.Ok.nil)).append (HZ.out.2.1.drop _)), by rw [hlZ]; exact MR.2, by
              rw [MR.1, HZ.out.2.2.2, HXE.out, Nat.add_mul, Nat.mul_assoc, Nat.mul_comm x]⟩)
          have HE := Lib.hid ez
          have hai : (a : Int) + m.length < (l.length : Int) + m.length := by omega
          clear ez MR HI3 hlZ hZl
          go_wp2_with fail
          refine ⟨⟨a + 1, _, by omega, by go_num, HZ', Lib.hid ?_, Lib.hid (HCel.out.setCell (Nat.le_refl _) _)⟩, by simp [intOf]; omega⟩
          have h1 := HC.out.set (a + m.length) n
          rw [HE.out] at h1
          exact h1
    · have hkl : a = l.length := by omega
      subst hkl
      have Z0 := HZ.out
      have h2 := blk_wd0 HB.out (l.length + m.length) (by omega) (by omega)
      rw [Z0.1] at h2
      have HTR := Lib.hid (trim_any _ _ _ h2)
      clear h2 Z0
      go_wp2_with fail
      refine HTR.out.mono ?_
      rintro e w' ⟨v', rfl, hv', rfl⟩
      have HV := Lib.hid hv'
      clear hv'
      go_wp2
      go_ret
      refine ⟨v', rfl, ?_, HBel.out⟩
      have := Nin.strip HV.out HZ.out.2.1
      rw [HZ.out.2.2.2, List.take_length] at this
      exact this
end R
end Go.Proofs.YthjofdfnppadnaaGreatDoor
namespace Go.Proofs.YthjofdfnppadnaaGreatDoor
namespace R
open Go.RowKit
theorem submul_round {X m zs : List Nat} {k o l x : Nat} (oX : Big.Ok M32 X) (om : Big.Ok M32 m) (ho : o < M32) (hl : l ≤ 1) (hx : x < M32)
    (h : zs.length = k ∧ Big.Ok M32 zs ∧ Big.val M32 zs + Big.val M32 (m.take k) * x = Big.val M32 (X.take k) + M32 ^ k * o + M32 ^ k * l) :
    hi32 (o + x * Big.nth m k) < M32 ∧ bor32 (Big.nth X k) (lo32 (o + x * Big.nth m k)) l ≤ 1 ∧ (zs ++ [dif32 (Big.nth X k) (lo32 (o + x * Big.nth m k)) l]).length = k + 1 ∧
      Big.Ok M32 (zs ++ [dif32 (Big.nth X k) (lo32 (o + x * Big.nth m k)) l]) ∧
      Big.val M32 (zs ++ [dif32 (Big.nth X k) (lo32 (o + x * Big.nth m k)) l]) + Big.val M32 (m.take (k + 1)) * x =
        Big.val M32 (X.take (k + 1)) + M32 ^ (k + 1) * hi32 (o + x * Big.nth m k) + M32 ^ (k + 1) * bor32 (Big.nth X k) (lo32 (o + x * Big.nth m k)) l := by
  obtain ⟨h1, h2, h3⟩ := h
  have a := nth_lt oX k
  have b := nth_lt om k
  have hm : x * Big.nth m k ≤ 4294967295 * 4294967295 := Nat.mul_le_mul (by rw [M32_eq] at hx; omega) (by omega)
  refine ⟨by rw [M32_eq] at *; unfold hi32; omega, bor32_le _ _ _, by simp [h1], h2.append (Big.Ok.cons (by rw [M32_eq]; exact dif32_lt _ _ _) Big.Ok.nil), ?_⟩
  rw [Big.val_take_succ', Big.val_take_succ']
  refine Big.mulsub_step h1 h3 (o' := hi32 (o + x * Big.nth m k)) (t := lo32 (o + x * Big.nth m k)) ?_ ?_
  · have := lo_hi (o + x * Big.nth m k)
    rw [M32_eq, Nat.mul_comm (Big.nth m k) x]; omega
  · have := dif_bor32 a (lo32_lt (o + x * Big.nth m k)) hl
    rw [M32_eq]; omega
set_option maxRecDepth 100000 in
set_option maxHeartbeats 2000000 in
theorem less_any (w : World) (g off x C : Nat) (L m : List Nat) (u : Value) (hb : Blk w g 167 .u32 L) (hL : off + m.length + 1 ≤ L.length) (hLl : L.length ≤ 1000000001)
    (hoL : Big.Ok M32 L) (hu : WdB g w .u32 u m) (om : Big.Ok M32 m) (hx : x < M32) :
    Calls Tryz.prog 239 #[.slice (some ⟨g, 0, none⟩) L.length C, u, .int .i64 (off : Int), .int .u64 (x : Int)] w fun e w' =>
      ∃ (l : Nat) (zs : List Nat), e = .returned (.bool (decide (l = 1))) ∧ l ≤ 1 ∧ zs.length = m.length + 1 ∧ Big.Ok M32 zs ∧
        Big.val M32 zs + Big.val M32 m * x = Big.val M32 ((L.drop off).take (m.length + 1)) + M32 ^ (m.length + 1) * l ∧ Blk w' g 167 .u32 (L.take off ++ (zs ++ L.drop (off + (m.length + 1)))) ∧ Only g w w' := by
  have hlt := hb.lt
  have HB0 := Lib.hid hb
  have HU := Lib.hid hu
  have OL := Lib.hid hoL; have OM := Lib.hid om
  have HX := Lib.hid hx
  obtain ⟨A, c2, rfl, k1, k2, k3⟩ := hu
  rw [M32_eq] at hx
  clear hb hoL om k3
  go_enter Tryz.func239, Tryz.ntmps239
  go_wp2_with fail
  go_loopw [9, 10, 12] (fun o b i wr => ∃ (k q l : Nat) (p : Int) (zs : List Nat), k ≤ m.length ∧ i = .int .i64 k ∧ o = .int .u64 (q : Int) ∧ b = .int .i64 p ∧ l ≤ 1 ∧ -1 ≤ p ∧ p ≤ 0 ∧ q < 4294967296 ∧ Hid (p = -(l : Int)) ∧
      Hid (zs.length = k ∧ Big.Ok M32 zs ∧ Big.val M32 zs + Big.val M32 (m.take k) * x = Big.val M32 (((L.drop off).take (m.length + 1)).take k) + M32 ^ k * q + M32 ^ k * l) ∧
      Hid (Blk wr g 167 .u32 (L.take off ++ (zs ++ L.drop (off + k)))) ∧ Hid (Only g w wr))
    (fun _ _ i _ => m.length - (intOf i).toNat)
  case atStart => exact ⟨0, 0, 0, 0, [], by omega, rfl, rfl, rfl, by omega, by omega, by omega, by omega, Lib.hid rfl, Lib.hid ⟨rfl, Big.Ok.nil, by simp [Big.val]⟩, Lib.hid (by simpa using HB0.out), Lib.hid (Only.refl _ _)⟩
  case round =>
    obtain ⟨k, q, l, p, zs, hk, rfl, rfl, rfl, hl1, hp1, hp2, hq, HP, HZ, HB, HO⟩ := hrel
    have hzl := HZ.out.1
    have hst := HB.out.cell (off + k) (by rw [len_mid (by omega) hzl]; omega)
    rw [nth_mid (by omega) hzl, ← nth_drop_take L off (m.length + 1) k (by omega)] at hst
    have hfr := HB.out.frozen (off + k)
    have oX : Big.Ok M32 ((L.drop off).take (m.length + 1)) := (OL.out.drop _).take _
    have hz := nth_lt oX k
    by_cases hkn : k < m.length
    · obtain ⟨A', c', e, x1, x2, x3⟩ := HU.out
      cases e
      obtain ⟨b, o, rfl, hblt, hcc, -⟩ := x3 (by omega)
      have hcell := (HO.out.cell (o := o + k) (by omega : b < w.heap.size) (by omega)).trans (hcc k (by omega))
      have R := submul_round oX OM.out (by rw [M32_eq]; exact hq) hl1 HX.out HZ.out
      have hy := nth_lt OM.out k
      have hpr : x * Big.nth m k ≤ 4294967295 * 4294967295 := Nat.mul_le_mul (by omega) (by omega)
      have hlo := w32 (q + x * Big.nth m k)
      have hhi := sh32 (q + x * Big.nth m k)
      have hll := lo32_lt (q + x * Big.nth m k)
      have hw := wdif hz hll hl1
      have hs := sdif hz hll hl1
      rw [← HP.out] at hw hs
      have ez := set_mid (L := L) (off := off) (k := k) (x := dif32 (Big.nth ((L.drop off).take (m.length + 1)) k) (lo32 (q + x * Big.nth m k)) l) (by omega) hzl
      generalize Big.nth ((L.drop off).take (m.length + 1)) k = z at *
      generalize Big.nth m k = y at *
      have e1 : ((q + x * y : Nat) : Int) = (q : Int) + (x : Int) * (y : Int) := by rw [Int.natCast_add, Int.natCast_mul]
      have hpr1 : (x : Int) * (y : Int) ≤ 18446744065119617025 := by rw [← Int.natCast_mul]; omega
      have hpr0 : 0 ≤ (x : Int) * (y : Int) := by rw [← Int.natCast_mul]; omega
      rw [e1] at hlo hhi
      generalize hlo' : lo32 (q + x * y) = lo at *
      generalize hhi' : hi32 (q + x * y) = hi at *
      generalize dif32 z lo l = sv at *
      generalize bor32 z lo l = l' at *
      have R0 := R.1
      rw [M32_eq] at R0
      have R1 := R.2.1
      have R2 := Lib.hid R.2.2
      have HE := Lib.hid ez
      have HS := Lib.hid hs
      have hq3 : -1 ≤ (p + z - lo) / 4294967296 := by omega
      have hq4 : (p + z - lo) / 4294967296 ≤ 0 := by omega
      obtain ⟨p', hp'⟩ : ∃ p', (p + (z : Int) - lo) / 4294967296 = p' := ⟨_, rfl⟩
      rw [hp'] at HS hq3 hq4
      clear hcc x3 R oX hzl hs ez e1 hpr hlo' hhi'
      go_wp2_with fail
      refine ⟨⟨k + 1, hi, l', p', zs ++ [sv], by omega, by go_num, rfl, rfl, R1, hq3, hq4, R0, HS, R2, Lib.hid ?_, Lib.hid (HO.out.setCell (off + k) _)⟩, by simp [intOf]; omega⟩
      have h1 := HB.out.set (off + k) sv
      rw [HE.out] at h1
      exact h1
    · have hkl : k = m.length := by omega
      subst hkl
      have hw := wdif hz hq hl1
      rw [← HP.out] at hw
      have db := dif_bor32 hz hq hl1
      have hd := dif32_lt (Big.nth ((L.drop off).take (m.length + 1)) m.length) q l
      have hbl := bor32_le (Big.nth ((L.drop off).take (m.length + 1)) m.length) q l
      have hneg : (p + (Big.nth ((L.drop off).take (m.length + 1)) m.length : Nat) - (q : Int) < 0) ↔ bor32 (Big.nth ((L.drop off).take (m.length + 1)) m.length) q l = 1 := by
        rw [HP.out]; unfold bor32; split <;> omega
      have ez := set_mid (L := L) (off := off) (k := m.length) (x := dif32 (Big.nth ((L.drop off).take (m.length + 1)) m.length) q l) (by omega) hzl
      have e2 := Big.val_take_succ' (B := M32) ((L.drop off).take (m.length + 1)) m.length
      rw [List.take_take, Nat.min_self] at e2
      have e1 := HZ.out.2.2
      rw [List.take_length] at e1
      generalize Big.nth ((L.drop off).take (m.length + 1)) m.length = z at *
      have hfin : Big.val M32 (zs ++ [dif32 z q l]) + Big.val M32 m * x = Big.val M32 ((L.drop off).take (m.length + 1)) + M32 ^ (m.length + 1) * bor32 z q l := by
        rw [Big.val_snoc, hzl, e2, Nat.pow_succ, Nat.mul_assoc]
        rw [← M32_eq] at db
        generalize dif32 z q l = d at *
        generalize bor32 z q l = b at *
        have e3 : M32 ^ m.length * (z + M32 * b) = M32 ^ m.length * (d + q + l) := by rw [db]
        simp only [Nat.mul_add] at e3
        omega
      generalize dif32 z q l = sv at *
      generalize bor32 z q l = l' at *
      have HF := Lib.hid hfin
      have HN := Lib.hid hneg
      have HD := Lib.hid hd
      have HE := Lib.hid ez
      clear db hd hneg ez e2 e1 hfin oX
      go_wp2
      go_ret
      refine ⟨l', zs ++ [sv], ?_, hbl, by simp [hzl], HZ.out.2.1.append (Big.Ok.cons (by rw [M32_eq]; exact HD.out) Big.Ok.nil), HF.out, ?_, HO.out.setCell _ _⟩
      · show Ending.returned (.bool (decide (p + (z : Int) - (q : Int) < 0))) = _
        rw [decide_eq_decide.2 HN.out]
      · have h1 := HB.out.set (off + m.length) sv
        rw [HE.out] at h1
        exact h1
end R
end Go.Proofs.YthjofdfnppadnaaGreatDoor
namespace Go.Proofs.YthjofdfnppadnaaGreatDoor
namespace R
open Go.RowKit
set_option maxRecDepth 100000 in
set_option maxHeartbeats 2000000 in
theorem more_any (w : World) (g off C : Nat) (L m : List Nat) (u : Value) (hb : Blk w g 167 .u32 L) (hL : off + m.length + 1 ≤ L.length) (hLl : L.length ≤ 1000000001)
    (hoL : Big.Ok M32 L) (hu : WdB g w .u32 u m) (om : Big.Ok M32 m) :
    Calls Tryz.prog 240 #[.slice (some ⟨g, 0, none⟩) L.length C, u, .int .i64 (off : Int)] w fun e w' =>
      ∃ (l : Nat) (zs : List Nat), e = .returned (.tuple #[]) ∧ l ≤ 1 ∧ zs.length = m.length + 1 ∧ Big.Ok M32 zs ∧
        Big.val M32 zs + M32 ^ (m.length + 1) * l = Big.val M32 ((L.drop off).take (m.length + 1)) + Big.val M32 m ∧ Blk w' g 167 .u32 (L.take off ++ (zs ++ L.drop (off + (m.length + 1)))) ∧ Only g w w' := by
  have hlt := hb.lt
  have HB0 := Lib.hid hb
  have HU := Lib.hid hu
  have OL := Lib.hid hoL; have OM := Lib.hid om
  obtain ⟨A, c2, rfl, k1, k2, k3⟩ := hu
  clear hb hoL om k3
  go_enter Tryz.func240, Tryz.ntmps240
  go_wp2_with fail
  go_loopw [6, 7] (fun o i wr => ∃ (k q : Nat) (zs : List Nat), k ≤ m.length ∧ i = .int .i64 k ∧ o = .int .u64 (q : Int) ∧ q ≤ 1 ∧
      Hid (zs.length = k ∧ Big.Ok M32 zs ∧ Big.val M32 zs + M32 ^ k * q = Big.val M32 (((L.drop off).take (m.length + 1)).take k) + Big.val M32 (m.take k)) ∧
      Hid (Blk wr g 167 .u32 (L.take off ++ (zs ++ L.drop (off + k)))) ∧ Hid (Only g w wr))
    (fun _ i _ => m.length - (intOf i).toNat)
  case atStart => exact ⟨0, 0, [], by omega, rfl, rfl, by omega, Lib.hid ⟨rfl, Big.Ok.nil, by simp [Big.val]⟩, Lib.hid (by simpa using HB0.out), Lib.hid (Only.refl _ _)⟩
  case round =>
    obtain ⟨k, q, zs, hk, rfl, rfl, hq1, HZ, HB, HO⟩ := hrel
    have hzl := HZ.out.1
    have hst := HB.out.cell (off + k) (by rw [len_mid (by omega) hzl]; omega)
    rw [nth_mid (by omega) hzl, ← nth_drop_take L off (m.length + 1) k (by omega)] at hst
    have hfr := HB.out.frozen (off + k)
    have oX : Big.Ok M32 ((L.drop off).take (m.length + 1)) := (OL.out.drop _).take _
    have hz := nth_lt oX k
    by_cases hkn : k < m.length
    · obtain ⟨A', c', e, x1, x2, x3⟩ := HU.out
      cases e
      obtain ⟨b, o, rfl, hblt, hcc, -⟩ := x3 (by omega)
      have hcell := (HO.out.cell (o := o + k) (by omega : b < w.heap.size) (by omega)).trans (hcc k (by omega))
      have R := add_round oX OM.out hq1 HZ.out
      have hy := nth_lt OM.out k
      have hlo := w32 (q + Big.nth ((L.drop off).take (m.length + 1)) k + Big.nth m k)
      have hhi := sh32 (q + Big.nth ((L.drop off).take (m.length + 1)) k + Big.nth m k)
      have ez := set_mid (L := L) (off := off) (k := k) (x := lo32 (q + Big.nth ((L.drop off).take (m.length + 1)) k + Big.nth m k)) (by omega) hzl
      generalize Big.nth ((L.drop off).take (m.length + 1)) k = z at *
      generalize Big.nth m k = y at *
      have e1 : ((q + z + y : Nat) : Int) = (q : Int) + (z : Int) + (y : Int) := by omega
      rw [e1] at hlo hhi
      generalize lo32 (q + z + y) = sv at *
      generalize hi32 (q + z + y) = hi at *
      have R1 := R.1
      have R2 := Lib.hid R.2
      have HE := Lib.hid ez
      have hai : (off : Int) + k < (L.length : Int) := by omega
      have wak : IntKind.i64.wrap ((off : Int) + (k : Int)) = (off : Int) + k := IntWalk.i64_in _ (by omega)
      have wak2 : ((off : Int) + (k : Int)).toNat = off + k := by omega
      have wak0 : 0 ≤ (off : Int) + (k : Int) := by omega
      have wz : IntKind.u64.wrap (z : Int) = z := w64 z (by omega)
      have wy : IntKind.u64.wrap (y : Int) = y := w64 y (by omega)
      have u1 : IntKind.u64.wrap ((q : Int) + z) = (q : Int) + z := by rw [IntKind.wrap_u64]; omega
      have u3 : IntKind.u64.wrap ((q : Int) + z + y) = (q : Int) + z + y := by rw [IntKind.wrap_u64]; omega
      clear hcc x3 R oX hzl ez e1
      go_wp2_with fail
      go_quiet (fail)
      go_wp2_with fail
      refine ⟨⟨k + 1, hi, zs ++ [sv], by omega, by go_num, rfl, R1, R2, Lib.hid ?_, Lib.hid ((HO.out.drewN nq).setCell (off + k) _)⟩, by simp [intOf]; omega⟩
      have h1 := (HB.out.drewN nq).set (off + k) sv
      rw [HE.out] at h1
      exact h1
    · have hkl : k = m.length := by omega
      subst hkl
      have hlo := w32 (Big.nth ((L.drop off).take (m.length + 1)) m.length + q)
      have hh := lo_hi (Big.nth ((L.drop off).take (m.length + 1)) m.length + q)
      have hll := lo32_lt (Big.nth ((L.drop off).take (m.length + 1)) m.length + q)
      have hhl : hi32 (Big.nth ((L.drop off).take (m.length + 1)) m.length + q) ≤ 1 := by unfold hi32; omega
      have ez := set_mid (L := L) (off := off) (k := m.length) (x := lo32 (Big.nth ((L.drop off).take (m.length + 1)) m.length + q)) (by omega) hzl
      have e2 := Big.val_take_succ' (B := M32) ((L.drop off).take (m.length + 1)) m.length
      rw [List.take_take, Nat.min_self] at e2
      have e1 := HZ.out.2.2
      rw [List.take_length] at e1
      generalize Big.nth ((L.drop off).take (m.length + 1)) m.length = z at *
      have hfin : Big.val M32 (zs ++ [lo32 (z + q)]) + M32 ^ (m.length + 1) * hi32 (z + q) = Big.val M32 ((L.drop off).take (m.length + 1)) + Big.val M32 m := by
        rw [Big.val_snoc, hzl, e2, Nat.pow_succ, Nat.mul_assoc]
        rw [← M32_eq] at hh
        generalize lo32 (z + q) = d at *
        generalize hi32 (z + q) = b at *
        have e3 : M32 ^ m.length * (z + q) = M32 ^ m.length * (d + M32 * b) := by rw [hh]
        simp only [Nat.mul_add] at e3
        omega
      rw [show ((z + q : Nat) : Int) = (z : Int) + q by omega] at hlo
      generalize lo32 (z + q) = sv at *
      generalize hi32 (z + q) = l' at *
      have HF := Lib.hid hfin
      have HD := Lib.hid hll
      have HE := Lib.hid ez
      clear hh hll ez e2 e1 hfin oX
      go_wp2_with fail
      refine bodyPost_end (results_none rfl _ _ _) rfl ?_
      refine ⟨l', zs ++ [sv], rfl, hhl, by simp [hzl], HZ.out.2.1.append (Big.Ok.cons (by rw [M32_eq]; exact HD.out) Big.Ok.nil), HF.out, ?_, HO.out.setCell _ _⟩
      have h1 := HB.out.set (off + m.length) sv
      rw [HE.out] at h1
      exact h1
end R
end Go.Proofs.YthjofdfnppadnaaGreatDoor
namespace Go.Proofs.YthjofdfnppadnaaGreatDoor
namespace R
open Go.RowKit
theorem val_low {B : Nat} {Z : List Nat} {n : Nat} (hB : 0 < B) (hl : n ≤ Z.length) (h : Big.val B Z < B ^ n) : Big.val B Z = Big.val B (Z.take n) ∧ Big.val B (Z.drop n) = 0 := by
  have e := Big.val_take_drop (B := B) Z n hl
  have h0 : Big.val B (Z.drop n) = 0 := by
    rcases Nat.eq_zero_or_pos (Big.val B (Z.drop n)) with h0 | h0
    · exact h0
    · exfalso
      have : B ^ n * 1 ≤ B ^ n * Big.val B (Z.drop n) := Nat.mul_le_mul_left _ h0
      rw [Nat.mul_one] at this
      generalize B ^ n = P at *
      omega
  rw [h0, Nat.mul_zero, Nat.add_zero] at e
  exact ⟨e, h0⟩
theorem top_pos {Z : List Nat} {k : Nat} (oZ : Big.Ok M32 Z) (hl : Z.length = k + 1) (h : M32 ^ k ≤ Big.val M32 Z) : 0 < Big.nth Z k := by
  rcases Nat.eq_zero_or_pos (Big.nth Z k) with h0 | h0
  · exfalso
    have e := Big.val_take_succ' (B := M32) Z k
    rw [Big.val_take_all Z _ (by omega), h0, Nat.mul_zero, Nat.add_zero] at e
    have := Big.val_lt (Z.take k) (oZ.take k)
    rw [List.length_take, Nat.min_eq_left (by omega)] at this
    rw [e] at h
    exact Nat.lt_irrefl _ (Nat.lt_of_lt_of_le this h)
  · exact h0
theorem long_step {R Z zs zs' : List Nat} {i N D d : Nat} (oZ : Big.Ok M32 Z) (hlen : Z.length = R.length) (hi : i + N + 1 ≤ Z.length) (hD : D < M32 ^ N) (hsame : Z.take (i + 1) = R.take (i + 1))
    (hv : Big.val M32 (R.drop (i + 1)) = Big.val M32 zs * D + Big.val M32 (Z.drop (i + 1))) (hlt : Big.val M32 (Z.drop (i + 1)) < D) :
    Big.val M32 ((Z.drop i).take (N + 1)) < M32 * D ∧ Big.val M32 (Z.drop (i + (N + 1))) = 0 ∧
      Big.val M32 (R.drop i) = (Big.val M32 zs * M32) * D + Big.val M32 ((Z.drop i).take (N + 1)) := by
  have eZ : Big.nth Z i = Big.nth R i := by
    have h1 := congrArg (fun l => Big.nth l i) hsame
    unfold Big.nth at h1 ⊢
    simp only [List.getD_eq_getElem?_getD] at h1 ⊢
    rw [List.getElem?_take_of_lt (by omega), List.getElem?_take_of_lt (by omega)] at h1
    exact h1
  have hX : Big.val M32 (Z.drop i) = Big.nth Z i + M32 * Big.val M32 (Z.drop (i + 1)) := by
    rw [Big.drop_cons Z i (by omega)]; rfl
  have hx := oZ.nth M32_pos i
  have hb : Big.val M32 (Z.drop i) < M32 * D := by
    have h1 : M32 * (Big.val M32 (Z.drop (i + 1)) + 1) ≤ M32 * D := Nat.mul_le_mul_left _ hlt
    rw [Nat.mul_add] at h1
    rw [hX]
    generalize M32 * Big.val M32 (Z.drop (i + 1)) = A at *
    generalize M32 * D = E at *
    omega
  have hb2 : Big.val M32 (Z.drop i) < M32 ^ (N + 1) := by
    refine Nat.lt_of_lt_of_le hb ?_
    rw [Nat.pow_succ, Nat.mul_comm]
    exact Nat.mul_le_mul_right _ (Nat.le_of_lt hD)
  obtain ⟨l1, l2⟩ := val_low (Z := Z.drop i) (n := N + 1) M32_pos (by rw [List.length_drop]; omega) hb2
  rw [List.drop_drop] at l2
  refine ⟨by rw [← l1]; exact hb, l2, ?_⟩
  rw [Big.drop_cons R i (by omega), ← eZ, ← l1, hX]
  simp only [Big.val]
  rw [hv, Nat.mul_add, Nat.mul_right_comm, Nat.mul_comm M32 (Big.val M32 zs * D)]
  generalize Big.val M32 zs * D * M32 = A
  generalize M32 * Big.val M32 (Z.drop (i + 1)) = E
  omega
theorem long_next {Z zs zs' : List Nat} {i N D d X V : Nat} (hi : i + N + 1 ≤ Z.length) (hzl : zs'.length = N + 1) (h0 : Big.val M32 (Z.drop (i + (N + 1))) = 0) (hD : 0 < D)
    (hd : d = X / D) (hz : Big.val M32 zs' = X % D) (hR : V = (Big.val M32 zs * M32) * D + X) :
    V = Big.val M32 (d :: zs) * D + Big.val M32 ((Z.take i ++ (zs' ++ Z.drop (i + (N + 1)))).drop i) ∧ Big.val M32 ((Z.take i ++ (zs' ++ Z.drop (i + (N + 1)))).drop i) < D := by
  have e1 : (Z.take i ++ (zs' ++ Z.drop (i + (N + 1)))).drop i = zs' ++ Z.drop (i + (N + 1)) := List.drop_left' (by rw [List.length_take]; omega)
  rw [e1, Big.val_append, h0, Nat.mul_zero, Nat.add_zero, hz]
  refine ⟨?_, Nat.mod_lt _ hD⟩
  have h := Nat.div_add_mod X D
  rw [← hd] at h
  rw [hR]
  simp only [Big.val]
  rw [Nat.add_mul, Nat.mul_comm M32 (Big.val M32 zs)]
  rw [Nat.mul_comm D d] at h
  generalize Big.val M32 zs * M32 * D = A
  generalize X % D = r at *
  generalize d * D = E at *
  omega
theorem long_start {R : List Nat} {X s K n1 lx D m : Nat} (hR : Big.val M32 R = X * 2 ^ s) (hX : X < M32 ^ lx) (hK : lx = K + n1) (hm : M32 ^ n1 ≤ m) (hD : m * 2 ^ s = D) (hl : K ≤ R.length) : Big.val M32 (R.drop K) < D := by
  have e := Big.val_take_drop (B := M32) R K hl
  have h1 : X * 2 ^ s < M32 ^ lx * 2 ^ s := Nat.mul_lt_mul_of_pos_right hX (Nat.pow_pos (by omega))
  have h2 : M32 ^ lx * 2 ^ s ≤ M32 ^ K * D := by
    rw [hK, Nat.pow_add, Nat.mul_assoc, ← hD]
    exact Nat.mul_le_mul_left _ (Nat.mul_le_mul_right _ hm)
  have h3 : M32 ^ K * Big.val M32 (R.drop K) < M32 ^ K * D := by
    rw [hR] at e
    generalize M32 ^ K = P at *
    generalize M32 ^ lx = Q at *
    generalize P * Big.val M32 (R.drop K) = A at *
    omega
  exact Nat.lt_of_mul_lt_mul_left h3
theorem long_end {R Z zs : List Nat} {X m s D : Nat} (hR : Big.val M32 R = X * 2 ^ s) (hD : m * 2 ^ s = D) (hm : 0 < m) (hv : Big.val M32 R = Big.val M32 zs * D + Big.val M32 Z) (hlt : Big.val M32 Z < D) :
    Big.val M32 zs = X / m ∧ Big.val M32 Z / 2 ^ s = X % m := by
  have hp : 0 < 2 ^ s := Nat.pow_pos (by omega)
  have hD0 : 0 < D := by rw [← hD]; exact Nat.mul_pos hm hp
  have sd := Big.shift_div (X := X) (y := m) (s := s)
  rw [hD, ← hR, hv] at sd
  refine ⟨?_, ?_⟩
  · rw [← sd.1, Nat.mul_comm, Nat.mul_add_div hD0, Nat.div_eq_of_lt hlt, Nat.add_zero]
  · have h2 := sd.2
    rw [Nat.mul_comm, Nat.mul_add_mod, Nat.mod_eq_of_lt hlt] at h2
    rw [h2, Nat.mul_div_cancel _ hp]
theorem top3 {xs : List Nat} {k : Nat} (ox : Big.Ok M32 xs) (hl : xs.length = k + 3) :
    Big.val M32 xs = ((Big.nth xs (k + 2) * M32 + Big.nth xs (k + 1)) * M32 + Big.nth xs k) * M32 ^ k + Big.val M32 (xs.take k) ∧ Big.val M32 (xs.take k) < M32 ^ k := by
  have h := Big.val_lt (xs.take k) (ox.take k)
  rw [List.length_take, Nat.min_eq_left (by omega)] at h
  refine ⟨?_, h⟩
  rw [Big.val_take_drop xs k (by omega), Big.drop_cons xs k (by omega), Big.drop_cons xs (k + 1) (by omega), Big.drop_cons xs (k + 2) (by omega), List.drop_eq_nil_of_le (by omega)]
  simp only [Big.val, Nat.mul_zero, Nat.add_zero]
  rw [Nat.add_comm, Nat.mul_comm (M32 ^ k)]
  congr 2
  rw [Nat.add_comm (Big.nth xs k), Nat.mul_comm M32]
  congr 2
  rw [Nat.add_comm, Nat.mul_comm]
theorem top2 {ys : List Nat} {k : Nat} (hl : ys.length = k + 2) :
    Big.val M32 ys = (Big.nth ys (k + 1) * M32 + Big.nth ys k) * M32 ^ k + Big.val M32 (ys.take k) := by
  rw [Big.val_take_drop ys k (by omega), Big.drop_cons ys k (by omega), Big.drop_cons ys (k + 1) (by omega), List.drop_eq_nil_of_le (by omega)]
  simp only [Big.val, Nat.mul_zero, Nat.add_zero]
  rw [Nat.add_comm, Nat.mul_comm (M32 ^ k)]
  congr 2
  rw [Nat.add_comm, Nat.mul_comm]
theorem quo_top {xs ys : List Nat} {k : Nat} (ox : Big.Ok M32 xs) (hx : xs.length = k + 3) (hy : ys.length = k + 2) (hp : 0 < Big.nth ys (k + 1)) :
    Big.val M32 xs / Big.val M32 ys ≤ ((Big.nth xs (k + 2) * M32 + Big.nth xs (k + 1)) * M32 + Big.nth xs k) / (Big.nth ys (k + 1) * M32 + Big.nth ys k) := by
  obtain ⟨h1, h2⟩ := top3 ox hx
  have h3 := top2 hy
  exact Big.guess_div h1 h2 h3 (Nat.div_mul_le_self _ _) (by have := Nat.mul_pos hp M32_pos; omega)
theorem digit_fin {X Y d z : Nat} (hz : z + Y * d = X) (hq : X / Y ≤ d) (hY : 0 < Y) : d = X / Y ∧ z = X % Y := by
  have h1 : d ≤ X / Y := (Nat.le_div_iff_mul_le hY).2 (by rw [Nat.mul_comm]; omega)
  have e : d = X / Y := Nat.le_antisymm h1 hq
  refine ⟨e, ?_⟩
  have := Nat.div_add_mod X Y
  rw [← e] at this
  omega
theorem digit_less {X Y d z P : Nat} (hz : z + Y * d = X + P) (hzP : z < P) (hY : 0 < Y) : 0 < d ∧ X / Y ≤ d - 1 := by
  have h1 : X < Y * d := by omega
  have h2 : X / Y < d := by rw [Nat.div_lt_iff_lt_mul hY, Nat.mul_comm]; exact h1
  generalize X / Y = q at *
  omega
theorem digit_back {X Y d z z' P l : Nat} (hz : z + Y * d = X + P) (hd : 0 < d) (h : z' + P * l = z + Y) (hl : l ≤ 1) : z' + Y * (d - 1) = X + P * (1 - l) := by
  have e : Y * d = Y * (d - 1) + Y := by
    conv => lhs; rw [show d = d - 1 + 1 by omega]
    rw [Nat.mul_add, Nat.mul_one]
  rcases Nat.eq_zero_or_pos l with h0 | h0
  · subst h0; rw [Nat.sub_zero, Nat.mul_one]; rw [Nat.mul_zero] at h; omega
  · have : l = 1 := by omega
    subst this; rw [Nat.sub_self, Nat.mul_zero]; rw [Nat.mul_one] at h; omega
theorem mid_take {L zs r : List Nat} {off : Nat} (h : off ≤ L.length) : (L.take off ++ (zs ++ r)).take off = L.take off := by
  rw [List.take_append_of_le_length (by rw [List.length_take]; omega), List.take_take, Nat.min_self]
theorem mid_drop {L zs r : List Nat} {off n : Nat} (h : off ≤ L.length) (hz : zs.length = n) : (L.take off ++ (zs ++ r)).drop (off + n) = r := by
  rw [← List.append_assoc]
  exact List.drop_left' (by rw [List.length_append, List.length_take, hz]; omega)
theorem mid_mid {L zs r : List Nat} {off n : Nat} (h : off ≤ L.length) (hz : zs.length = n) : ((L.take off ++ (zs ++ r)).drop off).take n = zs := by
  rw [List.drop_left' (by rw [List.length_take]; omega), List.take_left' hz]
def gq (a b c top next : Nat) : Nat := min (M32 - 1) (((a * M32 + b) * M32 + c) / (top * M32 + next))
theorem gq_lt (a b c top next : Nat) : gq a b c top next < M32 := Nat.lt_of_le_of_lt (Nat.min_le_left _ _) (by unfold M32; omega)
theorem guessed_is (w : World) (a b c top next : Nat) (ha : a ≤ top) (hb : b < M32) (hc : c < M32) (ht : top < M32) (ht0 : 0 < top) (hn : next < M32) :
    Calls Tryz.prog 238 #[.int .u32 (a : Int), .int .u32 (b : Int), .int .u32 (c : Int), .int .u32 (top : Int), .int .u32 (next : Int)] w fun e w' =>
      e = .returned (.int .u64 ((gq a b c top next : Nat) : Int)) ∧ Drew w w' := by
  refine (guessed_any w a b c top next (gq a b c top next) ha hb hc ht ht0 hn (gq_lt _ _ _ _ _) (Nat.min_le_right _ _)).mono ?_
  rintro e w' ⟨g, rfl, h1, h2, h3, h4⟩
  have hY : 0 < top * M32 + next := by have := Nat.mul_pos ht0 M32_pos; omega
  have h5 : g ≤ ((a * M32 + b) * M32 + c) / (top * M32 + next) := (Nat.le_div_iff_mul_le hY).2 h3
  have h6 : g ≤ gq a b c top next := Nat.le_min.2 ⟨by omega, h5⟩
  rw [Nat.le_antisymm h6 h2]
  exact ⟨rfl, h4⟩
theorem gq_bound {xs ys : List Nat} {n1 n2 N : Nat} (ox : Big.Ok M32 xs) (oy : Big.Ok M32 ys) (hx : xs.length = N + 1) (hy : ys.length = N) (h1 : n1 + 1 = N) (h2 : n2 + 2 = N) (hp : 0 < Big.nth ys n1)
    (hlt : Big.val M32 xs < M32 * Big.val M32 ys) :
    Big.nth xs N ≤ Big.nth ys n1 ∧ Big.val M32 xs / Big.val M32 ys ≤ gq (Big.nth xs N) (Big.nth xs n1) (Big.nth xs n2) (Big.nth ys n1) (Big.nth ys n2) ∧
      gq (Big.nth xs N) (Big.nth xs n1) (Big.nth xs n2) (Big.nth ys n1) (Big.nth ys n2) ≤ Big.val M32 xs / Big.val M32 ys + 1 := by
  obtain rfl : n1 = n2 + 1 := by omega
  obtain rfl : N = n2 + 2 := by omega
  have q1 := quo_top ox hx hy hp
  obtain ⟨t1, t2⟩ := top3 ox hx
  have t3 := top2 hy
  have t4 := Big.val_lt (ys.take n2) (oy.take n2)
  rw [List.length_take, Nat.min_eq_left (by omega)] at t4
  have hyM := oy.nth M32_pos n2
  have hYp : 0 < Big.val M32 ys := Nat.pos_of_mul_pos_left (Nat.lt_of_le_of_lt (Nat.zero_le _) hlt)
  have hdl := Nat.lt_div_mul_add (a := Big.val M32 xs) hYp
  have hdM : Big.val M32 xs / Big.val M32 ys < M32 := (Nat.div_lt_iff_lt_mul hYp).2 hlt
  have hP : 0 < M32 ^ n2 := Nat.pow_pos M32_pos
  generalize Big.val M32 xs = X at *
  generalize Big.val M32 ys = Y at *
  generalize Big.nth xs (n2 + 2) = x0 at *
  generalize Big.nth xs (n2 + 1) = x1 at *
  generalize Big.nth xs n2 = x2 at *
  generalize Big.nth ys (n2 + 1) = y1 at *
  generalize Big.nth ys n2 = y2 at *
  generalize Big.val M32 (xs.take n2) = xl at *
  generalize Big.val M32 (ys.take n2) = yl at *
  generalize M32 ^ n2 = P at *
  refine ⟨?_, ?_, ?_⟩
  · rcases Nat.lt_or_ge y1 x0 with h | h
    · exfalso
      have e1 : Y < (y1 + 1) * M32 * P := by
        rw [t3]
        have : (y1 * M32 + y2 + 1) * P ≤ (y1 + 1) * M32 * P := Nat.mul_le_mul_right P (by rw [Nat.add_mul, Nat.one_mul]; omega)
        rw [Nat.add_mul, Nat.one_mul] at this
        omega
      have e2 : M32 * Y < M32 * ((y1 + 1) * M32 * P) := Nat.mul_lt_mul_of_pos_left e1 M32_pos
      have e3 : (y1 + 1) * M32 * M32 * P ≤ X := by
        rw [t1]
        have : (y1 + 1) * M32 * M32 * P ≤ ((x0 * M32 + x1) * M32 + x2) * P := Nat.mul_le_mul_right P (by
          have a1 : (y1 + 1) * M32 ≤ x0 * M32 := Nat.mul_le_mul_right _ h
          have a2 : (y1 + 1) * M32 * M32 ≤ (x0 * M32 + x1) * M32 := Nat.mul_le_mul_right _ (by omega)
          omega)
        omega
      have e4 : M32 * ((y1 + 1) * M32 * P) = (y1 + 1) * M32 * M32 * P := by
        ac_rfl
      omega
    · exact h
  · unfold gq
    exact Nat.le_min.2 ⟨by omega, q1⟩
  · refine Big.guess_le (P := P) (B := M32) (X := X) (Y := Y) (xx := (x0 * M32 + x1) * M32 + x2) (xl := xl) (yy := y1 * M32 + y2) (yl := yl) t1 t3 t4 ?_ ?_ (Nat.le_of_lt (gq_lt _ _ _ _ _)) ?_
    · unfold gq
      exact Nat.le_trans (Nat.mul_le_mul_right _ (Nat.min_le_right _ _)) (Nat.div_mul_le_self _ _)
    · rw [Nat.add_mul, Nat.one_mul]; exact hdl
    · have := Nat.mul_le_mul_right M32 hp
      rw [Nat.succ_mul] at this
      omega
theorem took {X D g z P : Nat} (hz : z + D * g = X) (hq : X / D ≤ g) (hD : 0 < D) : g = X / D ∧ z = X % D := digit_fin hz hq hD
theorem took_back {X D g z z' P l' : Nat} (hz : z + D * g = X + P) (hzP : z < P) (hg : g ≤ X / D + 1) (hD : 0 < D) (hDP : D ≤ P) (h : z' + P * l' = z + D) (hz' : z' < P) (hl : l' ≤ 1) : 0 < g ∧ g - 1 = X / D ∧ z' = X % D := by
  have hX : X < D * g := by omega
  have h1 : X / D < g := by rw [Nat.div_lt_iff_lt_mul hD, Nat.mul_comm]; exact hX
  have h3 := Nat.div_add_mod X D
  have h4 := Nat.mod_lt X hD
  generalize X / D = d at *
  generalize X % D = r at *
  obtain rfl : g = d + 1 := by omega
  rw [Nat.mul_add, Nat.mul_one] at hz
  refine ⟨by omega, by omega, ?_⟩
  rcases Nat.eq_zero_or_pos l' with h0 | h0
  · subst h0; rw [Nat.mul_zero] at h; omega
  · have : l' = 1 := by omega
    subst this; rw [Nat.mul_one] at h; omega
end R
end Go.Proofs.YthjofdfnppadnaaGreatDoor
namespace Go.Proofs.YthjofdfnppadnaaGreatDoor
namespace R
open Go.RowKit
def QR (w : World) (X D : Nat) (e : Ending) (w' : World) : Prop := ∃ q r, e = .returned (.tuple #[q, r]) ∧ Nin w' q (X / D) ∧ Nin w' r (X % D) ∧ Below w.heap.size w w'
set_option maxRecDepth 100000 in
set_option maxHeartbeats 1000000 in
theorem div_less (w : World) (v u : Value) (l m : List Nat) (h : Wd w .u32 v l) (hu : Wd w .u32 u m) (ol : Big.Ok M32 l) (om : Big.Ok M32 m) (nl : Big.Norm l) (nm : Big.Norm m) (hlt : Big.val M32 l < Big.val M32 m) :
    Calls Tryz.prog 199 #[v, u] w (QR w (Big.val M32 l) (Big.val M32 m)) := by
  have CC := Lib.hid (cmp_any w v u l m h hu ol om nl nm)
  rw [Big.cmpI_lt hlt] at CC
  have HV := Lib.hid (show Nin w v (Big.val M32 l % Big.val M32 m) by rw [Nat.mod_eq_of_lt hlt]; exact ⟨l, h, ol, nl, rfl⟩)
  have HD := Lib.hid (Nat.div_eq_of_lt hlt)
  generalize Big.val M32 l = X at *
  generalize Big.val M32 m = Y at *
  obtain ⟨A, c, rfl, -, -, -⟩ := h
  obtain ⟨A2, c2, rfl, -, -, -⟩ := hu
  clear ol om nl nm hlt
  go_enter Tryz.func199, Tryz.ntmps199
  go_wp2_with fail
  refine CC.out.mono ?_
  rintro e w1 ⟨rfl, hd⟩
  have HD1 := Lib.hid hd
  clear hd
  go_wp2
  go_ret2
  exact ⟨_, _, rfl, by rw [HD.out]; exact Nin.nil_ _, HV.out.drew HD1.out, HD1.out.below _⟩
set_option maxRecDepth 100000 in
set_option maxHeartbeats 1000000 in
theorem div_word (w : World) (v u : Value) (l : List Nat) (y : Nat) (h : Wd w .u32 v l) (hu : Wd w .u32 u [y]) (ol : Big.Ok M32 l) (hyM : y < M32) (hy0 : 0 < y) (nl : Big.Norm l) (hl : l.length ≤ 100000000000) (hge : y ≤ Big.val M32 l) :
    Calls Tryz.prog 199 #[v, u] w (QR w (Big.val M32 l) y) := by
  have CC := Lib.hid (cmp_any w v u l [y] h hu ol (Big.Ok.cons hyM Big.Ok.nil) nl (by simp [Big.Norm]; omega))
  have hcv : 0 ≤ Big.cmpI (Big.val M32 l) (Big.val M32 [y]) := by
    have e : Big.val M32 [y] = y := by simp [Big.val]
    rw [e]; unfold Big.cmpI; rw [if_neg (by omega)]; split <;> omega
  generalize Big.cmpI (Big.val M32 l) (Big.val M32 [y]) = cv at *
  have t0 : ¬ (cv < 0) := by omega
  have CD := Lib.hid (fun W (hW : Drew w W) => divWord_any W v l y (h.drew hW) ol hyM hy0 hl)
  have hm : Big.val M32 l % y < 4294967296 := by rw [← M32_eq]; exact Nat.lt_trans (Nat.mod_lt _ hy0) hyM
  have HQ := Lib.hid (And.intro hy0 hyM)
  obtain ⟨A, c, rfl, -, -, -⟩ := h
  obtain ⟨A2, c2, rfl, -, -, h3⟩ := hu
  obtain ⟨b, o, rfl, hblt, hcc, -⟩ := h3 (by simp)
  have hcell : w.cell? ⟨b, o, none⟩ = some (.int .u32 (y : Int)) := hcc 0 (by simp)
  have HC := Lib.hid hcell
  generalize hX : Big.val M32 l = X at *
  clear hcc h3 hcell hge hcv ol nl hy0 hyM hX
  go_enter Tryz.func199, Tryz.ntmps199
  go_wp2_with fail
  refine CC.out.mono ?_
  rintro e w1 ⟨rfl, hd⟩
  have hc1 : w1.cell? ⟨b, o, none⟩ = some (.int .u32 (y : Int)) := (hd.cell _).trans HC.out
  have HD := Lib.hid hd
  clear hd
  go_wp2_with fail
  refine (CD.out w1 HD.out).mono ?_
  rintro e w2 ⟨q, rfl, hq, hb⟩
  have HQ2 := Lib.hid hq; have HB2 := Lib.hid hb
  clear hq hb hc1
  generalize hr : X % y = r at *
  have HR := Lib.hid hr
  clear hr
  go_wp2_with fail
  have hblk : Blk (w2.alloc (.cells #[.int .u32 (r : Int)] 167)) w2.heap.size 167 .u32 [r] := heap_alloc_new w2 _
  have hw := blk_wd0 hblk 1 (by simp) (by omega)
  have CT := Lib.hid (trim_any _ _ _ hw)
  have HBA := Lib.hid ((HB2.out).trans ((Below.refl w1.heap.size w2).alloc HB2.out.size (.cells #[.int .u32 (r : Int)] 167)))
  have HQA := Lib.hid (HQ2.out.keep ((Below.refl w2.heap.size w2).alloc (Nat.le_refl _) (.cells #[.int .u32 (r : Int)] 167)))
  clear hblk hw
  refine CT.out.mono ?_
  rintro e w3 ⟨v', rfl, hv', rfl⟩
  have HV := Lib.hid hv'
  clear hv' CT
  go_wp2
  go_ret2
  refine ⟨q, v', rfl, HQA.out, ?_, ?_⟩
  · have := Nin.strip HV.out (Big.Ok.cons (by rw [M32_eq]; exact hm) Big.Ok.nil)
    rw [HR.out]
    simpa [Big.val] using this
  · exact (HD.out.below _).trans (HBA.out.mono (by rw [HD.out.heap]; exact Nat.le_refl _))
end R
end Go.Proofs.YthjofdfnppadnaaGreatDoor
