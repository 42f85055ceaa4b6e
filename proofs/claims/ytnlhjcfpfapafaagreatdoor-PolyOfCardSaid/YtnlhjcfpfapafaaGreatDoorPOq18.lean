/- Contracts. -/
import Derived.Test.YtnlhjcfpfapafaaGreatDoorPOq17
import Derived.Test.YtnlhjcfpfapafaaGreatDoorPOq09
import Derived.Test.YtnlhjcfpfapafaaGreatDoorPOq16
namespace Go.Proofs.YtnlhjcfpfapafaaGreatDoor
namespace R
open Go.RowKit
theorem submul_round {X m zs : List Nat} {k o l x : Nat} (oX : Big.Ok M32 X) (om : Big.Ok M32 m) (ho : o < M32) (hl : l ≤ 1) (hx : x < M32)
  (h : zs.length = k ∧ Big.Ok M32 zs ∧ Big.val M32 zs + Big.val M32 (m.take k) * x = Big.val M32 (X.take k) + M32 ^ k * o + M32 ^ k * l) :
  Yg (o + x * Big.nth m k) < M32 ∧ Xa (Big.nth X k) (ZJ (o + x * Big.nth m k)) l ≤ 1 ∧ (zs ++ [Yw (Big.nth X k) (ZJ (o + x * Big.nth m k)) l]).length = k + 1 ∧
   Big.Ok M32 (zs ++ [Yw (Big.nth X k) (ZJ (o + x * Big.nth m k)) l]) ∧
   Big.val M32 (zs ++ [Yw (Big.nth X k) (ZJ (o + x * Big.nth m k)) l]) + Big.val M32 (m.take (k + 1)) * x =
    Big.val M32 (X.take (k + 1)) + M32 ^ (k + 1) * Yg (o + x * Big.nth m k) + M32 ^ (k + 1) * Xa (Big.nth X k) (ZJ (o + x * Big.nth m k)) l := by
 obtain ⟨h1, h2, h3⟩ := h
 have a := ZI oX k
 have b := ZI om k
 have hm : x * Big.nth m k ≤ 4294967295 * 4294967295 := Nat.mul_le_mul (by rw [Zk] at hx; omega) (by omega)
 refine ⟨by rw [Zk] at *; unfold Yg; omega, JH _ _ _, by simp [h1], h2.append (Big.Ok.cons (by rw [Zk]; exact JI _ _ _) Big.Ok.nil), ?_⟩
 rw [Big.val_take_succ', Big.val_take_succ']
 refine Big.mulsub_step h1 h3 (o' := Yg (o + x * Big.nth m k)) (t := ZJ (o + x * Big.nth m k)) ?_ ?_
 ·have := lo_hi (o + x * Big.nth m k)
  rw [Zk, Nat.mul_comm (Big.nth m k) x]; omega
 ·have := U1 a (Vm (o + x * Big.nth m k)) hl
  rw [Zk]; omega
set_option maxRecDepth 100000 in
set_option maxHeartbeats 2000000 in
theorem ZhK (w : World) (g off x C : Nat) (L m : List Nat) (u : Value) (hb : Blk w g 148 .u32 L) (hL : off + m.length + 1 ≤ L.length) (hLl : L.length ≤ 1000000001)
  (hoL : Big.Ok M32 L) (hu : WdB g w .u32 u m) (om : Big.Ok M32 m) (hx : x < M32) :
  Calls Tryz.prog 143 #[.slice (some ⟨g, 0, none⟩) L.length C, u, .int .i64 (off : Int), .int .u64 (x : Int)] w fun e w' =>
   ∃ (l : Nat) (zs : List Nat), e = .returned (.bool (decide (l = 1))) ∧ l ≤ 1 ∧ zs.length = m.length + 1 ∧ Big.Ok M32 zs ∧
    Big.val M32 zs + Big.val M32 m * x = Big.val M32 ((L.drop off).take (m.length + 1)) + M32 ^ (m.length + 1) * l ∧ Blk w' g 148 .u32 (L.take off ++ (zs ++ L.drop (off + (m.length + 1)))) ∧ ZP g w w' := by
 have hlt := hb.lt
 have HB0 := Lib.hid hb
 have HU := Lib.hid hu
 have OL := Lib.hid hoL; have OM := Lib.hid om
 have HX := Lib.hid hx
 obtain ⟨A, c2, rfl, k1, k2, k3⟩ := hu
 rw [Zk] at hx
 clear hb hoL om k3
 go_enter Tryz.func143, Tryz.ntmps143
 go_wp2_with fail
 go_loopw [9, 10, 12] (fun o b i wr => ∃ (k q l : Nat) (p : Int) (zs : List Nat), k ≤ m.length ∧ i = .int .i64 k ∧ o = .int .u64 (q : Int) ∧ b = .int .i64 p ∧ l ≤ 1 ∧ -1 ≤ p ∧ p ≤ 0 ∧ q < 4294967296 ∧ Hid (p = -(l : Int)) ∧
   Hid (zs.length = k ∧ Big.Ok M32 zs ∧ Big.val M32 zs + Big.val M32 (m.take k) * x = Big.val M32 (((L.drop off).take (m.length + 1)).take k) + M32 ^ k * q + M32 ^ k * l) ∧
   Hid (Blk wr g 148 .u32 (L.take off ++ (zs ++ L.drop (off + k)))) ∧ Hid (ZP g w wr))
  (fun _ _ i _ => m.length - (intOf i).toNat)
 case atStart => exact ⟨0, 0, 0, 0, [], by omega, rfl, rfl, rfl, by omega, by omega, by omega, by omega, Lib.hid rfl, Lib.hid ⟨rfl, Big.Ok.nil, by simp [Big.val]⟩, Lib.hid (by simpa using HB0.out), Lib.hid (ZP.refl _ _)⟩
 case round =>
  obtain ⟨k, q, l, p, zs, hk, rfl, rfl, rfl, hl1, hp1, hp2, hq, HP, HZ, HB, HO⟩ := hrel
  have hzl := HZ.out.1
  have hst := HB.out.cell (off + k) (by rw [len_mid (by omega) hzl]; omega)
  rw [nth_mid (by omega) hzl, ← nth_drop_take L off (m.length + 1) k (by omega)] at hst
  have hfr := HB.out.frozen (off + k)
  have oX : Big.Ok M32 ((L.drop off).take (m.length + 1)) := (OL.out.drop _).take _
  have hz := ZI oX k
  by_cases hkn : k < m.length
  ·obtain ⟨A', c', e, x1, x2, x3⟩ := HU.out
   cases e
   obtain ⟨b, o, rfl, hblt, hcc, -⟩ := x3 (by omega)
   have hcell := (HO.out.cell (o := o + k) (by omega : b < w.heap.size) (by omega)).trans (hcc k (by omega))
   have R := submul_round oX OM.out (by rw [Zk]; exact hq) hl1 HX.out HZ.out
   have hy := ZI OM.out k
   have hpr : x * Big.nth m k ≤ 4294967295 * 4294967295 := Nat.mul_le_mul (by omega) (by omega)
   have hlo := w32 (q + x * Big.nth m k)
   have hhi := Zdu (q + x * Big.nth m k)
   have hll := Vm (q + x * Big.nth m k)
   have hw := ZmD hz hll hl1
   have hs := Zn4 hz hll hl1
   rw [← HP.out] at hw hs
   have ez := set_mid (L := L) (off := off) (k := k) (x := Yw (Big.nth ((L.drop off).take (m.length + 1)) k) (ZJ (q + x * Big.nth m k)) l) (by omega) hzl
   generalize Big.nth ((L.drop off).take (m.length + 1)) k = z at *
   generalize Big.nth m k = y at *
   have e1 : ((q + x * y : Nat) : Int) = (q : Int) + (x : Int) * (y : Int) := by rw [Int.natCast_add, Int.natCast_mul]
   have hpr1 : (x : Int) * (y : Int) ≤ 18446744065119617025 := by rw [← Int.natCast_mul]; omega
   have hpr0 : 0 ≤ (x : Int) * (y : Int) := by rw [← Int.natCast_mul]; omega
   rw [e1] at hlo hhi
   generalize hlo' : ZJ (q + x * y) = lo at *
   generalize hhi' : Yg (q + x * y) = hi at *
   generalize Yw z lo l = sv at *
   generalize Xa z lo l = l' at *
   have R0 := R.1
   rw [Zk] at R0
   have R1 := R.2.1
   have R2 := Lib.hid R.2.2
   have HE := Lib.hid ez
   have HS := Lib.hid hs
   have hq3 : -1 ≤ (p + z - lo) / 4294967296 := by omega
   have hq4 : (p + z - lo) / 4294967296 ≤ 0 := by omega
   obtain ⟨p', hp'⟩ : ∃ p', (p + (z : Int) - lo) / 4294967296 = p' := ⟨_, rfl⟩
   rw [hp'] at HS hq3 hq4
   clear hcc x3 R oX hzl hs ez e1 hpr hlo' hhi'
   go_wp2_with fail
   refine ⟨⟨k + 1, hi, l', p', zs ++ [sv], by omega, by go_num, rfl, rfl, R1, hq3, hq4, R0, HS, R2, Lib.hid ?_, Lib.hid (HO.out.setCell (off + k) _)⟩, by simp [intOf]; omega⟩
   have h1 := HB.out.set (off + k) sv
   rw [HE.out] at h1
   exact h1
  ·have hkl : k = m.length := by omega
   subst hkl
   have hw := ZmD hz hq hl1
   rw [← HP.out] at hw
   have db := U1 hz hq hl1
   have hd := JI (Big.nth ((L.drop off).take (m.length + 1)) m.length) q l
   have hbl := JH (Big.nth ((L.drop off).take (m.length + 1)) m.length) q l
   have hneg : (p + (Big.nth ((L.drop off).take (m.length + 1)) m.length : Nat) - (q : Int) < 0) ↔ Xa (Big.nth ((L.drop off).take (m.length + 1)) m.length) q l = 1 := by
    rw [HP.out]; unfold Xa; split <;> omega
   have ez := set_mid (L := L) (off := off) (k := m.length) (x := Yw (Big.nth ((L.drop off).take (m.length + 1)) m.length) q l) (by omega) hzl
   have e2 := Big.val_take_succ' (B := M32) ((L.drop off).take (m.length + 1)) m.length
   rw [List.take_take, Nat.min_self] at e2
   have e1 := HZ.out.2.2
   rw [List.take_length] at e1
   generalize Big.nth ((L.drop off).take (m.length + 1)) m.length = z at *
   have hfin : Big.val M32 (zs ++ [Yw z q l]) + Big.val M32 m * x = Big.val M32 ((L.drop off).take (m.length + 1)) + M32 ^ (m.length + 1) * Xa z q l := by
    rw [Big.val_snoc, hzl, e2, Nat.pow_succ, Nat.mul_assoc]
    rw [← Zk] at db
    generalize Yw z q l = d at *
    generalize Xa z q l = b at *
    have e3 : M32 ^ m.length * (z + M32 * b) = M32 ^ m.length * (d + q + l) := by rw [db]
    simp only [Nat.mul_add] at e3
    omega
   generalize Yw z q l = sv at *
   generalize Xa z q l = l' at *
   have HF := Lib.hid hfin
   have HN := Lib.hid hneg
   have HD := Lib.hid hd
   have HE := Lib.hid ez
   clear db hd hneg ez e2 e1 hfin oX
   go_wp2
   go_ret
   refine ⟨l', zs ++ [sv], ?_, hbl, by simp [hzl], HZ.out.2.1.append (Big.Ok.cons (by rw [Zk]; exact HD.out) Big.Ok.nil), HF.out, ?_, HO.out.setCell _ _⟩
   ·show Ending.returned (.bool (decide (p + (z : Int) - (q : Int) < 0))) = _
    rw [decide_eq_decide.2 HN.out]
   ·have h1 := HB.out.set (off + m.length) sv
    rw [HE.out] at h1
    exact h1
end R
end Go.Proofs.YtnlhjcfpfapafaaGreatDoor
namespace Go.Proofs.YtnlhjcfpfapafaaGreatDoor
namespace R
open Go.RowKit
set_option maxRecDepth 100000 in
set_option maxHeartbeats 2000000 in
theorem ZhL (w : World) (g off C : Nat) (L m : List Nat) (u : Value) (hb : Blk w g 148 .u32 L) (hL : off + m.length + 1 ≤ L.length) (hLl : L.length ≤ 1000000001)
  (hoL : Big.Ok M32 L) (hu : WdB g w .u32 u m) (om : Big.Ok M32 m) :
  Calls Tryz.prog 144 #[.slice (some ⟨g, 0, none⟩) L.length C, u, .int .i64 (off : Int)] w fun e w' =>
   ∃ (l : Nat) (zs : List Nat), e = .returned (.tuple #[]) ∧ l ≤ 1 ∧ zs.length = m.length + 1 ∧ Big.Ok M32 zs ∧
    Big.val M32 zs + M32 ^ (m.length + 1) * l = Big.val M32 ((L.drop off).take (m.length + 1)) + Big.val M32 m ∧ Blk w' g 148 .u32 (L.take off ++ (zs ++ L.drop (off + (m.length + 1)))) ∧ ZP g w w' := by
 have hlt := hb.lt
 have HB0 := Lib.hid hb
 have HU := Lib.hid hu
 have OL := Lib.hid hoL; have OM := Lib.hid om
 obtain ⟨A, c2, rfl, k1, k2, k3⟩ := hu
 clear hb hoL om k3
 go_enter Tryz.func144, Tryz.ntmps144
 go_wp2_with fail
 go_loopw [6, 7] (fun o i wr => ∃ (k q : Nat) (zs : List Nat), k ≤ m.length ∧ i = .int .i64 k ∧ o = .int .u64 (q : Int) ∧ q ≤ 1 ∧
   Hid (zs.length = k ∧ Big.Ok M32 zs ∧ Big.val M32 zs + M32 ^ k * q = Big.val M32 (((L.drop off).take (m.length + 1)).take k) + Big.val M32 (m.take k)) ∧
   Hid (Blk wr g 148 .u32 (L.take off ++ (zs ++ L.drop (off + k)))) ∧ Hid (ZP g w wr))
  (fun _ i _ => m.length - (intOf i).toNat)
 case atStart => exact ⟨0, 0, [], by omega, rfl, rfl, by omega, Lib.hid ⟨rfl, Big.Ok.nil, by simp [Big.val]⟩, Lib.hid (by simpa using HB0.out), Lib.hid (ZP.refl _ _)⟩
 case round =>
  obtain ⟨k, q, zs, hk, rfl, rfl, hq1, HZ, HB, HO⟩ := hrel
  have hzl := HZ.out.1
  have hst := HB.out.cell (off + k) (by rw [len_mid (by omega) hzl]; omega)
  rw [nth_mid (by omega) hzl, ← nth_drop_take L off (m.length + 1) k (by omega)] at hst
  have hfr := HB.out.frozen (off + k)
  have oX : Big.Ok M32 ((L.drop off).take (m.length + 1)) := (OL.out.drop _).take _
  have hz := ZI oX k
  by_cases hkn : k < m.length
  ·obtain ⟨A', c', e, x1, x2, x3⟩ := HU.out
   cases e
   obtain ⟨b, o, rfl, hblt, hcc, -⟩ := x3 (by omega)
   have hcell := (HO.out.cell (o := o + k) (by omega : b < w.heap.size) (by omega)).trans (hcc k (by omega))
   have R := add_round oX OM.out hq1 HZ.out
   have hy := ZI OM.out k
   have hlo := w32 (q + Big.nth ((L.drop off).take (m.length + 1)) k + Big.nth m k)
   have hhi := Zdu (q + Big.nth ((L.drop off).take (m.length + 1)) k + Big.nth m k)
   have ez := set_mid (L := L) (off := off) (k := k) (x := ZJ (q + Big.nth ((L.drop off).take (m.length + 1)) k + Big.nth m k)) (by omega) hzl
   generalize Big.nth ((L.drop off).take (m.length + 1)) k = z at *
   generalize Big.nth m k = y at *
   have e1 : ((q + z + y : Nat) : Int) = (q : Int) + (z : Int) + (y : Int) := by omega
   rw [e1] at hlo hhi
   generalize ZJ (q + z + y) = sv at *
   generalize Yg (q + z + y) = hi at *
   have R1 := R.1
   have R2 := Lib.hid R.2
   have HE := Lib.hid ez
   have hai : (off : Int) + k < (L.length : Int) := by omega
   have wak : IntKind.i64.wrap ((off : Int) + (k : Int)) = (off : Int) + k := IntWalk.i64_in _ (by omega)
   have wak2 : ((off : Int) + (k : Int)).toNat = off + k := by omega
   have wak0 : 0 ≤ (off : Int) + (k : Int) := by omega
   have wz : IntKind.u64.wrap (z : Int) = z := w64 z (by omega)
   have wy : IntKind.u64.wrap (y : Int) = y := w64 y (by omega)
   have u1 : IntKind.u64.wrap ((q : Int) + z) = (q : Int) + z := by rw [IntKind.wrap_u64]; omega
   have u3 : IntKind.u64.wrap ((q : Int) + z + y) = (q : Int) + z + y := by rw [IntKind.wrap_u64]; omega
   clear hcc x3 R oX hzl ez e1
   go_wp2_with fail
   go_quiet (fail)
   go_wp2_with fail
   refine ⟨⟨k + 1, hi, zs ++ [sv], by omega, by go_num, rfl, R1, R2, Lib.hid ?_, Lib.hid ((HO.out.drewN nq).setCell (off + k) _)⟩, by simp [intOf]; omega⟩
   have h1 := (HB.out.drewN nq).set (off + k) sv
   rw [HE.out] at h1
   exact h1
  ·have hkl : k = m.length := by omega
   subst hkl
   have hlo := w32 (Big.nth ((L.drop off).take (m.length + 1)) m.length + q)
   have hh := lo_hi (Big.nth ((L.drop off).take (m.length + 1)) m.length + q)
   have hll := Vm (Big.nth ((L.drop off).take (m.length + 1)) m.length + q)
   have hhl : Yg (Big.nth ((L.drop off).take (m.length + 1)) m.length + q) ≤ 1 := by unfold Yg; omega
   have ez := set_mid (L := L) (off := off) (k := m.length) (x := ZJ (Big.nth ((L.drop off).take (m.length + 1)) m.length + q)) (by omega) hzl
   have e2 := Big.val_take_succ' (B := M32) ((L.drop off).take (m.length + 1)) m.length
   rw [List.take_take, Nat.min_self] at e2
   have e1 := HZ.out.2.2
   rw [List.take_length] at e1
   generalize Big.nth ((L.drop off).take (m.length + 1)) m.length = z at *
   have hfin : Big.val M32 (zs ++ [ZJ (z + q)]) + M32 ^ (m.length + 1) * Yg (z + q) = Big.val M32 ((L.drop off).take (m.length + 1)) + Big.val M32 m := by
    rw [Big.val_snoc, hzl, e2, Nat.pow_succ, Nat.mul_assoc]
    rw [← Zk] at hh
    generalize ZJ (z + q) = d at *
    generalize Yg (z + q) = b at *
    have e3 : M32 ^ m.length * (z + q) = M32 ^ m.length * (d + M32 * b) := by rw [hh]
    simp only [Nat.mul_add] at e3
    omega
   rw [show ((z + q : Nat) : Int) = (z : Int) + q by omega] at hlo
   generalize ZJ (z + q) = sv at *
   generalize Yg (z + q) = l' at *
   have HF := Lib.hid hfin
   have HD := Lib.hid hll
   have HE := Lib.hid ez
   clear hh hll ez e2 e1 hfin oX
   go_wp2_with fail
   refine bodyPost_end (results_none rfl _ _ _) rfl ?_
   refine ⟨l', zs ++ [sv], rfl, hhl, by simp [hzl], HZ.out.2.1.append (Big.Ok.cons (by rw [Zk]; exact HD.out) Big.Ok.nil), HF.out, ?_, HO.out.setCell _ _⟩
   have h1 := HB.out.set (off + m.length) sv
   rw [HE.out] at h1
   exact h1
end R
end Go.Proofs.YtnlhjcfpfapafaaGreatDoor
namespace Go.Proofs.YtnlhjcfpfapafaaGreatDoor
namespace R
open Go.RowKit
theorem val_low {B : Nat} {Z : List Nat} {n : Nat} (hB : 0 < B) (hl : n ≤ Z.length) (h : Big.val B Z < B ^ n) : Big.val B Z = Big.val B (Z.take n) ∧ Big.val B (Z.drop n) = 0 := by
 have e := Big.val_take_drop (B := B) Z n hl
 have h0 : Big.val B (Z.drop n) = 0 := by
  rcases Nat.eq_zero_or_pos (Big.val B (Z.drop n)) with h0 | h0
  ·exact h0
  ·exfalso
   have : B ^ n * 1 ≤ B ^ n * Big.val B (Z.drop n) := Nat.mul_le_mul_left _ h0
   rw [Nat.mul_one] at this
   generalize B ^ n = P at *
   omega
 rw [h0, Nat.mul_zero, Nat.add_zero] at e
 exact ⟨e, h0⟩
theorem top_pos {Z : List Nat} {k : Nat} (oZ : Big.Ok M32 Z) (hl : Z.length = k + 1) (h : M32 ^ k ≤ Big.val M32 Z) : 0 < Big.nth Z k := by
 rcases Nat.eq_zero_or_pos (Big.nth Z k) with h0 | h0
 ·exfalso
  have e := Big.val_take_succ' (B := M32) Z k
  rw [Big.val_take_all Z _ (by omega), h0, Nat.mul_zero, Nat.add_zero] at e
  have := Big.val_lt (Z.take k) (oZ.take k)
  rw [List.length_take, Nat.min_eq_left (by omega)] at this
  rw [e] at h
  exact Nat.lt_irrefl _ (Nat.lt_of_lt_of_le this h)
 ·exact h0
theorem long_step {R Z zs zs' : List Nat} {i N D d : Nat} (oZ : Big.Ok M32 Z) (hlen : Z.length = R.length) (hi : i + N + 1 ≤ Z.length) (hD : D < M32 ^ N) (hsame : Z.take (i + 1) = R.take (i + 1))
  (hv : Big.val M32 (R.drop (i + 1)) = Big.val M32 zs * D + Big.val M32 (Z.drop (i + 1))) (hlt : Big.val M32 (Z.drop (i + 1)) < D) :
  Big.val M32 ((Z.drop i).take (N + 1)) < M32 * D ∧ Big.val M32 (Z.drop (i + (N + 1))) = 0 ∧
   Big.val M32 (R.drop i) = (Big.val M32 zs * M32) * D + Big.val M32 ((Z.drop i).take (N + 1)) := by
 have eZ : Big.nth Z i = Big.nth R i := by
  have h1 := congrArg (fun l => Big.nth l i) hsame
  unfold Big.nth at h1 ⊢
  simp only [List.getD_eq_getElem?_getD] at h1 ⊢
  rw [List.getElem?_take_of_lt (by omega), List.getElem?_take_of_lt (by omega)] at h1
  exact h1
 have hX : Big.val M32 (Z.drop i) = Big.nth Z i + M32 * Big.val M32 (Z.drop (i + 1)) := by
  rw [Big.drop_cons Z i (by omega)]; rfl
 have hx := oZ.nth M32_pos i
 have hb : Big.val M32 (Z.drop i) < M32 * D := by
  have h1 : M32 * (Big.val M32 (Z.drop (i + 1)) + 1) ≤ M32 * D := Nat.mul_le_mul_left _ hlt
  rw [Nat.mul_add] at h1
  rw [hX]
  generalize M32 * Big.val M32 (Z.drop (i + 1)) = A at *
  generalize M32 * D = E at *
  omega
 have hb2 : Big.val M32 (Z.drop i) < M32 ^ (N + 1) := by
  refine Nat.lt_of_lt_of_le hb ?_
  rw [Nat.pow_succ, Nat.mul_comm]
  exact Nat.mul_le_mul_right _ (Nat.le_of_lt hD)
 obtain ⟨l1, l2⟩ := val_low (Z := Z.drop i) (n := N + 1) M32_pos (by rw [List.length_drop]; omega) hb2
 rw [List.drop_drop] at l2
 refine ⟨by rw [← l1]; exact hb, l2, ?_⟩
 rw [Big.drop_cons R i (by omega), ← eZ, ← l1, hX]
 simp only [Big.val]
 rw [hv, Nat.mul_add, Nat.mul_right_comm, Nat.mul_comm M32 (Big.val M32 zs * D)]
 generalize Big.val M32 zs * D * M32 = A
 generalize M32 * Big.val M32 (Z.drop (i + 1)) = E
 omega
theorem long_next {Z zs zs' : List Nat} {i N D d X V : Nat} (hi : i + N + 1 ≤ Z.length) (hzl : zs'.length = N + 1) (h0 : Big.val M32 (Z.drop (i + (N + 1))) = 0) (hD : 0 < D)
  (hd : d = X / D) (hz : Big.val M32 zs' = X % D) (hR : V = (Big.val M32 zs * M32) * D + X) :
  V = Big.val M32 (d :: zs) * D + Big.val M32 ((Z.take i ++ (zs' ++ Z.drop (i + (N + 1)))).drop i) ∧ Big.val M32 ((Z.take i ++ (zs' ++ Z.drop (i + (N + 1)))).drop i) < D := by
 have e1 : (Z.take i ++ (zs' ++ Z.drop (i + (N + 1)))).drop i = zs' ++ Z.drop (i + (N + 1)) := List.drop_left' (by rw [List.length_take]; omega)
 rw [e1, Big.val_append, h0, Nat.mul_zero, Nat.add_zero, hz]
 refine ⟨?_, Nat.mod_lt _ hD⟩
 have h := Nat.div_add_mod X D
 rw [← hd] at h
 rw [hR]
 simp only [Big.val]
 rw [Nat.add_mul, Nat.mul_comm M32 (Big.val M32 zs)]
 rw [Nat.mul_comm D d] at h
 generalize Big.val M32 zs * M32 * D = A
 generalize X % D = r at *
 generalize d * D = E at *
 omega
theorem long_start {R : List Nat} {X s K n1 lx D m : Nat} (hR : Big.val M32 R = X * 2 ^ s) (hX : X < M32 ^ lx) (hK : lx = K + n1) (hm : M32 ^ n1 ≤ m) (hD : m * 2 ^ s = D) (hl : K ≤ R.length) : Big.val M32 (R.drop K) < D := by
 have e := Big.val_take_drop (B := M32) R K hl
 have h1 : X * 2 ^ s < M32 ^ lx * 2 ^ s := Nat.mul_lt_mul_of_pos_right hX (Nat.pow_pos (by omega))
 have h2 : M32 ^ lx * 2 ^ s ≤ M32 ^ K * D := by
  rw [hK, Nat.pow_add, Nat.mul_assoc, ← hD]
  exact Nat.mul_le_mul_left _ (Nat.mul_le_mul_right _ hm)
 have h3 : M32 ^ K * Big.val M32 (R.drop K) < M32 ^ K * D := by
  rw [hR] at e
  generalize M32 ^ K = P at *
  generalize M32 ^ lx = Q at *
  generalize P * Big.val M32 (R.drop K) = A at *
  omega
 exact Nat.lt_of_mul_lt_mul_left h3
theorem long_end {R Z zs : List Nat} {X m s D : Nat} (hR : Big.val M32 R = X * 2 ^ s) (hD : m * 2 ^ s = D) (hm : 0 < m) (hv : Big.val M32 R = Big.val M32 zs * D + Big.val M32 Z) (hlt : Big.val M32 Z < D) :
  Big.val M32 zs = X / m ∧ Big.val M32 Z / 2 ^ s = X % m := by
 have hp : 0 < 2 ^ s := Nat.pow_pos (by omega)
 have hD0 : 0 < D := by rw [← hD]; exact Nat.mul_pos hm hp
 have sd := Big.shift_div (X := X) (y := m) (s := s)
 rw [hD, ← hR, hv] at sd
 refine ⟨?_, ?_⟩
 ·rw [← sd.1, Nat.mul_comm, Nat.mul_add_div hD0, Nat.div_eq_of_lt hlt, Nat.add_zero]
 ·have h2 := sd.2
  rw [Nat.mul_comm, Nat.mul_add_mod, Nat.mod_eq_of_lt hlt] at h2
  rw [h2, Nat.mul_div_cancel _ hp]
theorem top3 {xs : List Nat} {k : Nat} (ox : Big.Ok M32 xs) (hl : xs.length = k + 3) :
  Big.val M32 xs = ((Big.nth xs (k + 2) * M32 + Big.nth xs (k + 1)) * M32 + Big.nth xs k) * M32 ^ k + Big.val M32 (xs.take k) ∧ Big.val M32 (xs.take k) < M32 ^ k := by
 have h := Big.val_lt (xs.take k) (ox.take k)
 rw [List.length_take, Nat.min_eq_left (by omega)] at h
 refine ⟨?_, h⟩
 rw [Big.val_take_drop xs k (by omega), Big.drop_cons xs k (by omega), Big.drop_cons xs (k + 1) (by omega), Big.drop_cons xs (k + 2) (by omega), List.drop_eq_nil_of_le (by omega)]
 simp only [Big.val, Nat.mul_zero, Nat.add_zero]
 rw [Nat.add_comm, Nat.mul_comm (M32 ^ k)]
 congr 2
 rw [Nat.add_comm (Big.nth xs k), Nat.mul_comm M32]
 congr 2
 rw [Nat.add_comm, Nat.mul_comm]
theorem top2 {ys : List Nat} {k : Nat} (hl : ys.length = k + 2) :
  Big.val M32 ys = (Big.nth ys (k + 1) * M32 + Big.nth ys k) * M32 ^ k + Big.val M32 (ys.take k) := by
 rw [Big.val_take_drop ys k (by omega), Big.drop_cons ys k (by omega), Big.drop_cons ys (k + 1) (by omega), List.drop_eq_nil_of_le (by omega)]
 simp only [Big.val, Nat.mul_zero, Nat.add_zero]
 rw [Nat.add_comm, Nat.mul_comm (M32 ^ k)]
 congr 2
 rw [Nat.add_comm, Nat.mul_comm]
theorem quo_top {xs ys : List Nat} {k : Nat} (ox : Big.Ok M32 xs) (hx : xs.length = k + 3) (hy : ys.length = k + 2) (hp : 0 < Big.nth ys (k + 1)) :
  Big.val M32 xs / Big.val M32 ys ≤ ((Big.nth xs (k + 2) * M32 + Big.nth xs (k + 1)) * M32 + Big.nth xs k) / (Big.nth ys (k + 1) * M32 + Big.nth ys k) := by
 obtain ⟨h1, h2⟩ := top3 ox hx
 have h3 := top2 hy
 exact Big.guess_div h1 h2 h3 (Nat.div_mul_le_self _ _) (by have := Nat.mul_pos hp M32_pos; omega)
theorem digit_fin {X Y d z : Nat} (hz : z + Y * d = X) (hq : X / Y ≤ d) (hY : 0 < Y) : d = X / Y ∧ z = X % Y := by
 have h1 : d ≤ X / Y := (Nat.le_div_iff_mul_le hY).2 (by rw [Nat.mul_comm]; omega)
 have e : d = X / Y := Nat.le_antisymm h1 hq
 refine ⟨e, ?_⟩
 have := Nat.div_add_mod X Y
 rw [← e] at this
 omega
theorem digit_less {X Y d z P : Nat} (hz : z + Y * d = X + P) (hzP : z < P) (hY : 0 < Y) : 0 < d ∧ X / Y ≤ d - 1 := by
 have h1 : X < Y * d := by omega
 have h2 : X / Y < d := by rw [Nat.div_lt_iff_lt_mul hY, Nat.mul_comm]; exact h1
 generalize X / Y = q at *
 omega
theorem digit_back {X Y d z z' P l : Nat} (hz : z + Y * d = X + P) (hd : 0 < d) (h : z' + P * l = z + Y) (hl : l ≤ 1) : z' + Y * (d - 1) = X + P * (1 - l) := by
 have e : Y * d = Y * (d - 1) + Y := by
  conv => lhs; rw [show d = d - 1 + 1 by omega]
  rw [Nat.mul_add, Nat.mul_one]
 rcases Nat.eq_zero_or_pos l with h0 | h0
 ·subst h0; rw [Nat.sub_zero, Nat.mul_one]; rw [Nat.mul_zero] at h; omega
 ·have : l = 1 := by omega
  subst this; rw [Nat.sub_self, Nat.mul_zero]; rw [Nat.mul_one] at h; omega
theorem mid_take {L zs r : List Nat} {off : Nat} (h : off ≤ L.length) : (L.take off ++ (zs ++ r)).take off = L.take off := by
 rw [List.take_append_of_le_length (by rw [List.length_take]; omega), List.take_take, Nat.min_self]
theorem mid_drop {L zs r : List Nat} {off n : Nat} (h : off ≤ L.length) (hz : zs.length = n) : (L.take off ++ (zs ++ r)).drop (off + n) = r := by
 rw [← List.append_assoc]
 exact List.drop_left' (by rw [List.length_append, List.length_take, hz]; omega)
theorem mid_mid {L zs r : List Nat} {off n : Nat} (h : off ≤ L.length) (hz : zs.length = n) : ((L.take off ++ (zs ++ r)).drop off).take n = zs := by
 rw [List.drop_left' (by rw [List.length_take]; omega), List.take_left' hz]
def gq (a b c top next : Nat) : Nat := min (M32 - 1) (((a * M32 + b) * M32 + c) / (top * M32 + next))
theorem ZhM (a b c top next : Nat) : gq a b c top next < M32 := Nat.lt_of_le_of_lt (Nat.min_le_left _ _) (by unfold M32; omega)
theorem Zdv (w : World) (a b c top next : Nat) (ha : a ≤ top) (hb : b < M32) (hc : c < M32) (ht : top < M32) (ht0 : 0 < top) (hn : next < M32) :
  Calls Tryz.prog 142 #[.int .u32 (a : Int), .int .u32 (b : Int), .int .u32 (c : Int), .int .u32 (top : Int), .int .u32 (next : Int)] w fun e w' =>
   e = .returned (.int .u64 ((gq a b c top next : Nat) : Int)) ∧ Zv w w' := by
 refine (Zb3 w a b c top next (gq a b c top next) ha hb hc ht ht0 hn (ZhM _ _ _ _ _) (Nat.min_le_right _ _)).mono ?_
 rintro e w' ⟨g, rfl, h1, h2, h3, h4⟩
 have hY : 0 < top * M32 + next := by have := Nat.mul_pos ht0 M32_pos; omega
 have h5 : g ≤ ((a * M32 + b) * M32 + c) / (top * M32 + next) := (Nat.le_div_iff_mul_le hY).2 h3
 have h6 : g ≤ gq a b c top next := Nat.le_min.2 ⟨by omega, h5⟩
 rw [Nat.le_antisymm h6 h2]
 exact ⟨rfl, h4⟩
theorem ZhN {xs ys : List Nat} {n1 n2 N : Nat} (ox : Big.Ok M32 xs) (oy : Big.Ok M32 ys) (hx : xs.length = N + 1) (hy : ys.length = N) (h1 : n1 + 1 = N) (h2 : n2 + 2 = N) (hp : 0 < Big.nth ys n1)
  (hlt : Big.val M32 xs < M32 * Big.val M32 ys) :
  Big.nth xs N ≤ Big.nth ys n1 ∧ Big.val M32 xs / Big.val M32 ys ≤ gq (Big.nth xs N) (Big.nth xs n1) (Big.nth xs n2) (Big.nth ys n1) (Big.nth ys n2) ∧
   gq (Big.nth xs N) (Big.nth xs n1) (Big.nth xs n2) (Big.nth ys n1) (Big.nth ys n2) ≤ Big.val M32 xs / Big.val M32 ys + 1 := by
 obtain rfl : n1 = n2 + 1 := by omega
 obtain rfl : N = n2 + 2 := by omega
 have q1 := quo_top ox hx hy hp
 obtain ⟨t1, t2⟩ := top3 ox hx
 have t3 := top2 hy
 have t4 := Big.val_lt (ys.take n2) (oy.take n2)
 rw [List.length_take, Nat.min_eq_left (by omega)] at t4
 have hyM := oy.nth M32_pos n2
 have hYp : 0 < Big.val M32 ys := Nat.pos_of_mul_pos_left (Nat.lt_of_le_of_lt (Nat.zero_le _) hlt)
 have hdl := Nat.lt_div_mul_add (a := Big.val M32 xs) hYp
 have hdM : Big.val M32 xs / Big.val M32 ys < M32 := (Nat.div_lt_iff_lt_mul hYp).2 hlt
 have hP : 0 < M32 ^ n2 := Nat.pow_pos M32_pos
 generalize Big.val M32 xs = X at *
 generalize Big.val M32 ys = Y at *
 generalize Big.nth xs (n2 + 2) = x0 at *
 generalize Big.nth xs (n2 + 1) = x1 at *
 generalize Big.nth xs n2 = x2 at *
 generalize Big.nth ys (n2 + 1) = y1 at *
 generalize Big.nth ys n2 = y2 at *
 generalize Big.val M32 (xs.take n2) = xl at *
 generalize Big.val M32 (ys.take n2) = yl at *
 generalize M32 ^ n2 = P at *
 refine ⟨?_, ?_, ?_⟩
 ·rcases Nat.lt_or_ge y1 x0 with h | h
  ·exfalso
   have e1 : Y < (y1 + 1) * M32 * P := by
    rw [t3]
    have : (y1 * M32 + y2 + 1) * P ≤ (y1 + 1) * M32 * P := Nat.mul_le_mul_right P (by rw [Nat.add_mul, Nat.one_mul]; omega)
    rw [Nat.add_mul, Nat.one_mul] at this
    omega
   have e2 : M32 * Y < M32 * ((y1 + 1) * M32 * P) := Nat.mul_lt_mul_of_pos_left e1 M32_pos
   have e3 : (y1 + 1) * M32 * M32 * P ≤ X := by
    rw [t1]
    have : (y1 + 1) * M32 * M32 * P ≤ ((x0 * M32 + x1) * M32 + x2) * P := Nat.mul_le_mul_right P (by
     have a1 : (y1 + 1) * M32 ≤ x0 * M32 := Nat.mul_le_mul_right _ h
     have a2 : (y1 + 1) * M32 * M32 ≤ (x0 * M32 + x1) * M32 := Nat.mul_le_mul_right _ (by omega)
     omega)
    omega
   have e4 : M32 * ((y1 + 1) * M32 * P) = (y1 + 1) * M32 * M32 * P := by
    ac_rfl
   omega
  ·exact h
 ·unfold gq
  exact Nat.le_min.2 ⟨by omega, q1⟩
 ·refine Big.guess_le (P := P) (B := M32) (X := X) (Y := Y) (xx := (x0 * M32 + x1) * M32 + x2) (xl := xl) (yy := y1 * M32 + y2) (yl := yl) t1 t3 t4 ?_ ?_ (Nat.le_of_lt (ZhM _ _ _ _ _)) ?_
  ·unfold gq
   exact Nat.le_trans (Nat.mul_le_mul_right _ (Nat.min_le_right _ _)) (Nat.div_mul_le_self _ _)
  ·rw [Nat.add_mul, Nat.one_mul]; exact hdl
  ·have := Nat.mul_le_mul_right M32 hp
   rw [Nat.succ_mul] at this
   omega
theorem ZoO {X D g z P : Nat} (hz : z + D * g = X) (hq : X / D ≤ g) (hD : 0 < D) : g = X / D ∧ z = X % D := digit_fin hz hq hD
theorem ZfM {X D g z z' P l' : Nat} (hz : z + D * g = X + P) (hzP : z < P) (hg : g ≤ X / D + 1) (hD : 0 < D) (hDP : D ≤ P) (h : z' + P * l' = z + D) (hz' : z' < P) (hl : l' ≤ 1) : 0 < g ∧ g - 1 = X / D ∧ z' = X % D := by
 have hX : X < D * g := by omega
 have h1 : X / D < g := by rw [Nat.div_lt_iff_lt_mul hD, Nat.mul_comm]; exact hX
 have h3 := Nat.div_add_mod X D
 have h4 := Nat.mod_lt X hD
 generalize X / D = d at *
 generalize X % D = r at *
 obtain rfl : g = d + 1 := by omega
 rw [Nat.mul_add, Nat.mul_one] at hz
 refine ⟨by omega, by omega, ?_⟩
 rcases Nat.eq_zero_or_pos l' with h0 | h0
 ·subst h0; rw [Nat.mul_zero] at h; omega
 ·have : l' = 1 := by omega
  subst this; rw [Nat.mul_one] at h; omega
end R
end Go.Proofs.YtnlhjcfpfapafaaGreatDoor
namespace Go.Proofs.YtnlhjcfpfapafaaGreatDoor
namespace R
open Go.RowKit
def QR (w : World) (X D : Nat) (e : Ending) (w' : World) : Prop := ∃ q r, e = .returned (.tuple #[q, r]) ∧ Nin w' q (X / D) ∧ Nin w' r (X % D) ∧ Below w.heap.size w w'
set_option maxRecDepth 100000 in
set_option maxHeartbeats 1000000 in
theorem ZhO (w : World) (v u : Value) (l m : List Nat) (h : Wd w .u32 v l) (hu : Wd w .u32 u m) (ol : Big.Ok M32 l) (om : Big.Ok M32 m) (nl : Big.Norm l) (nm : Big.Norm m) (hlt : Big.val M32 l < Big.val M32 m) :
  Calls Tryz.prog 113 #[v, u] w (QR w (Big.val M32 l) (Big.val M32 m)) := by
 have CC := Lib.hid (cmp_any w v u l m h hu ol om nl nm)
 rw [Big.cmpI_lt hlt] at CC
 have HV := Lib.hid (show Nin w v (Big.val M32 l % Big.val M32 m) by rw [Nat.mod_eq_of_lt hlt]; exact ⟨l, h, ol, nl, rfl⟩)
 have HD := Lib.hid (Nat.div_eq_of_lt hlt)
 generalize Big.val M32 l = X at *
 generalize Big.val M32 m = Y at *
 obtain ⟨A, c, rfl, -, -, -⟩ := h
 obtain ⟨A2, c2, rfl, -, -, -⟩ := hu
 clear ol om nl nm hlt
 go_enter Tryz.func113, Tryz.ntmps113
 go_wp2_with fail
 refine CC.out.mono ?_
 rintro e w1 ⟨rfl, hd⟩
 have HD1 := Lib.hid hd
 clear hd
 go_wp2
 go_ret2
 exact ⟨_, _, rfl, by rw [HD.out]; exact Nin.nil_ _, HV.out.drew HD1.out, HD1.out.below _⟩
set_option maxRecDepth 100000 in
set_option maxHeartbeats 1000000 in
theorem ZhP (w : World) (v u : Value) (l : List Nat) (y : Nat) (h : Wd w .u32 v l) (hu : Wd w .u32 u [y]) (ol : Big.Ok M32 l) (hyM : y < M32) (hy0 : 0 < y) (nl : Big.Norm l) (hl : l.length ≤ 100000000000) (hge : y ≤ Big.val M32 l) :
  Calls Tryz.prog 113 #[v, u] w (QR w (Big.val M32 l) y) := by
 have CC := Lib.hid (cmp_any w v u l [y] h hu ol (Big.Ok.cons hyM Big.Ok.nil) nl (by simp [Big.Norm]; omega))
 have hcv : 0 ≤ Big.cmpI (Big.val M32 l) (Big.val M32 [y]) := by
  have e : Big.val M32 [y] = y := by simp [Big.val]
  rw [e]; unfold Big.cmpI; rw [if_neg (by omega)]; split <;> omega
 generalize Big.cmpI (Big.val M32 l) (Big.val M32 [y]) = cv at *
 have t0 : ¬ (cv < 0) := by omega
 have CD := Lib.hid (fun W (hW : Zv w W) => WR W v l y (h.drew hW) ol hyM hy0 hl)
 have hm : Big.val M32 l % y < 4294967296 := by rw [← Zk]; exact Nat.lt_trans (Nat.mod_lt _ hy0) hyM
 have HQ := Lib.hid (And.intro hy0 hyM)
 obtain ⟨A, c, rfl, -, -, -⟩ := h
 obtain ⟨A2, c2, rfl, -, -, h3⟩ := hu
 obtain ⟨b, o, rfl, hblt, hcc, -⟩ := h3 (by simp)
 have hcell : w.cell? ⟨b, o, none⟩ = some (.int .u32 (y : Int)) := hcc 0 (by simp)
 have HC := Lib.hid hcell
 generalize hX : Big.val M32 l = X at *
 clear hcc h3 hcell hge hcv ol nl hy0 hyM hX
 go_enter Tryz.func113, Tryz.ntmps113
 go_wp2_with fail
 refine CC.out.mono ?_
 rintro e w1 ⟨rfl, hd⟩
 have hc1 : w1.cell? ⟨b, o, none⟩ = some (.int .u32 (y : Int)) := (hd.cell _).trans HC.out
 have HD := Lib.hid hd
 clear hd
 go_wp2_with fail
 refine (CD.out w1 HD.out).mono ?_
 rintro e w2 ⟨q, rfl, hq, hb⟩
 have HQ2 := Lib.hid hq; have HB2 := Lib.hid hb
 clear hq hb hc1
 generalize hr : X % y = r at *
 have HR := Lib.hid hr
 clear hr
 go_wp2_with fail
 have hblk : Blk (w2.alloc (.cells #[.int .u32 (r : Int)] 148)) w2.heap.size 148 .u32 [r] := heap_alloc_new w2 _
 have hw := Ym hblk 1 (by simp) (by omega)
 have CT := Lib.hid (trim_any _ _ _ hw)
 have HBA := Lib.hid ((HB2.out).trans ((Below.refl w1.heap.size w2).alloc HB2.out.size (.cells #[.int .u32 (r : Int)] 148)))
 have HQA := Lib.hid (HQ2.out.keep ((Below.refl w2.heap.size w2).alloc (Nat.le_refl _) (.cells #[.int .u32 (r : Int)] 148)))
 clear hblk hw
 refine CT.out.mono ?_
 rintro e w3 ⟨v', rfl, hv', rfl⟩
 have HV := Lib.hid hv'
 clear hv' CT
 go_wp2
 go_ret2
 refine ⟨q, v', rfl, HQA.out, ?_, ?_⟩
 ·have := Nin.strip HV.out (Big.Ok.cons (by rw [Zk]; exact hm) Big.Ok.nil)
  rw [HR.out]
  simpa [Big.val] using this
 ·exact (HD.out.below _).trans (HBA.out.mono (by rw [HD.out.heap]; exact Nat.le_refl _))
end R
end Go.Proofs.YtnlhjcfpfapafaaGreatDoor
