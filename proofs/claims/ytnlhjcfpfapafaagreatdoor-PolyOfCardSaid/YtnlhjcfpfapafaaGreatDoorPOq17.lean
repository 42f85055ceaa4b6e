/- Contracts. -/
import Derived.Test.YtnlhjcfpfapafaaGreatDoorPOq16
import Derived.Test.YtnlhjcfpfapafaaGreatDoorPOq08
import Derived.Test.YtnlhjcfpfapafaaGreatDoorPOq15
namespace Go.Proofs.YtnlhjcfpfapafaaGreatDoor
namespace R
open Go.RowKit
theorem ZmC (r y : Nat) (hr : r < 2147483648) (hy : y < 4294967296) : bits .or .i64 ((r : Int) * 4294967296) ((y : Nat) : Int) = ((y + 4294967296 * r : Nat) : Int) := by
 rw [show ((r : Int) * 4294967296) = ((r * 4294967296 : Nat) : Int) by omega]
 have hx : (r * 4294967296) ||| y = r * 4294967296 + y := nat_join 32 _ _ (by omega) (by omega)
 show IntKind.i64.wrap ((BitVec.ofInt 64 ((r * 4294967296 : Nat) : Int) ||| BitVec.ofInt 64 (y : Int)).toNat : Int) = _
 rw [BitVec.toNat_or, ofInt_u64 _ (by omega), ofInt_u64 _ (by omega), hx, IntWalk.i64_in _ (by omega)]
 omega
set_option maxRecDepth 100000 in
set_option maxHeartbeats 1000000 in
theorem ZfL (w : World) (v : Value) (l : List Nat) (h : Wd w .u32 v l) (ol : Big.Ok M32 l) (hv : Big.val M32 l < 9223372036854775808) (hl : l.length ≤ 1000000000) :
  Calls Tryz.prog 161 #[v] w fun e w' => e = .returned (.int .i64 ((Big.val M32 l : Nat) : Int)) ∧ w = w' := by
 obtain ⟨A, c, rfl, h1, h2, h3⟩ := h
 have OL := Lib.hid ol
 have HV : ∀ k, Big.val M32 (l.drop k) < 9223372036854775808 := by
  intro k
  refine Nat.lt_of_le_of_lt ?_ hv
  rw [Big.val_take_drop' l k]
  exact Nat.le_trans (Nat.le_mul_of_pos_left _ (Nat.pow_pos M32_pos)) (Nat.le_add_left _ _)
 have HVV := Lib.hid HV
 clear hv HV ol
 go_enter Tryz.func161, Tryz.ntmps161
 go_wp2_with fail
 go_loopw [3, 4] (fun s i wr => ∃ (k n : Nat), k ≤ l.length ∧ i = .int .i64 ((k : Int) - 1) ∧ s = .int .i64 n ∧ Hid (n = Big.val M32 (l.drop k)) ∧ w = wr)
  (fun _ i _ => (intOf i + 1).toNat)
 case atStart => exact ⟨l.length, 0, by omega, rfl, rfl, Lib.hid (by simp [Big.val]), rfl⟩
 case round =>
  obtain ⟨k, n, hk, rfl, rfl, HN, rfl⟩ := hrel
  rcases Nat.eq_zero_or_pos k with rfl | hp
  ·go_wp2
   go_ret
   have := HN.out
   rw [List.drop_zero] at this
   exact ⟨by rw [← this]; simp, rfl⟩
  ·obtain ⟨j, rfl⟩ : ∃ j, k = j + 1 := ⟨k - 1, by omega⟩
   rw [show (((j + 1 : Nat) : Int) - 1) = (j : Int) by omega]
   obtain ⟨b, o, rfl, hlt, hc, -⟩ := h3 (by omega)
   have hcell := hc j (by omega)
   have hy := ZI OL.out j
   have e1 : Big.val M32 (l.drop j) = Big.nth l j + 4294967296 * n := by rw [Big.drop_cons l j (by omega), HN.out]; rfl
   have hb := HVV.out j
   rw [e1] at hb
   have hn : n < 2147483648 := by omega
   have ho := ZmC n (Big.nth l j) hn hy
   generalize Big.nth l j = y at *
   obtain ⟨t, ht⟩ : ∃ t, y + 4294967296 * n = t := ⟨_, rfl⟩
   rw [ht] at ho e1 hb
   have HE := Lib.hid e1.symm
   clear hc h3 ht e1
   go_wp2_with fail
   refine ⟨⟨j, t, by omega, rfl, rfl, HE, trivial⟩, by simp [intOf]⟩
end R
end Go.Proofs.YtnlhjcfpfapafaaGreatDoor
namespace Go.Proofs.YtnlhjcfpfapafaaGreatDoor
namespace R
open Go.RowKit
def Xa (x y b : Nat) : Nat := if x < y + b then 1 else 0
def Yw (x y b : Nat) : Nat := (x + 4294967296 - y - b) % 4294967296
theorem JH (x y b : Nat) : Xa x y b ≤ 1 := by unfold Xa; split <;> omega
theorem JI (x y b : Nat) : Yw x y b < 4294967296 := by unfold Yw; omega
theorem U1 {x y b : Nat} (hx : x < 4294967296) (hy : y < 4294967296) (hb : b ≤ 1) : x + 4294967296 * Xa x y b = Yw x y b + y + b := by
 unfold Xa Yw; split <;> omega
theorem ZmD {x y b : Nat} (hx : x < 4294967296) (hy : y < 4294967296) (hb : b ≤ 1) : IntKind.u32.wrap (-(b : Int) + x - y) = ((Yw x y b : Nat) : Int) := by
 rw [IntKind.wrap_u32]; unfold Yw; omega
theorem Zn4 {x y b : Nat} (hx : x < 4294967296) (hy : y < 4294967296) (hb : b ≤ 1) : (-(b : Int) + x - y) / 4294967296 = -((Xa x y b : Nat) : Int) := by
 unfold Xa; split <;> omega
theorem sub_round {l m zs : List Nat} {k n : Nat} (ol : Big.Ok M32 l) (om : Big.Ok M32 m) (hn : n ≤ 1)
  (h : zs.length = k ∧ Big.Ok M32 zs ∧ Big.val M32 zs + Big.val M32 (m.take k) = Big.val M32 (l.take k) + M32 ^ k * n) :
  (zs ++ [Yw (Big.nth l k) (Big.nth m k) n]).length = k + 1 ∧ Big.Ok M32 (zs ++ [Yw (Big.nth l k) (Big.nth m k) n]) ∧
   Big.val M32 (zs ++ [Yw (Big.nth l k) (Big.nth m k) n]) + Big.val M32 (m.take (k + 1)) = Big.val M32 (l.take (k + 1)) + M32 ^ (k + 1) * Xa (Big.nth l k) (Big.nth m k) n := by
 obtain ⟨h1, h2, h3⟩ := h
 have a := ZI ol k
 have b := ZI om k
 refine ⟨by simp [h1], h2.append (Big.Ok.cons (by rw [Zk]; exact JI _ _ _) Big.Ok.nil), ?_⟩
 rw [Big.val_take_succ', Big.val_take_succ']
 exact Big.sub_step h1 h3 (by have := U1 a b hn; rw [Zk]; omega)
set_option maxRecDepth 100000 in
set_option maxHeartbeats 1000000 in
theorem Uf (w : World) (v u : Value) (l m : List Nat) (h : Wd w .u32 v l) (k : Wd w .u32 u m) (ol : Big.Ok M32 l) (om : Big.Ok M32 m)
  (hl : l.length ≤ 100000000000) (hle : Big.val M32 m ≤ Big.val M32 l) (hlm : m.length ≤ l.length) :
  Calls Tryz.prog 127 #[v, u] w fun e w' => ∃ v', e = .returned v' ∧ Nin w' v' (Big.val M32 l - Big.val M32 m) ∧ Below w.heap.size w w' := by
 obtain ⟨A, c, rfl, h1, h2, h3⟩ := h
 obtain ⟨A2, c2, rfl, k1, k2, k3⟩ := k
 have OL := Lib.hid ol; have OM := Lib.hid om; have HLE := Lib.hid hle
 clear ol om hle
 have hmk := fun W => XD l.length (by omega) W
 have HB0 := Lib.hid (Blk.new w 148 .u32 (List.replicate l.length 0))
 have HBel0 := Lib.hid ((Below.refl w.heap.size w).alloc (Nat.le_refl _) (.cells (cellsOf .u32 (List.replicate l.length 0)) 148))
 have HW1 := Lib.hid (show Wd w .u32 (.slice A l.length c) l from ⟨A, c, rfl, h1, h2, h3⟩)
 have HW2 := Lib.hid (show Wd w .u32 (.slice A2 m.length c2) m from ⟨A2, c2, rfl, k1, k2, k3⟩)
 clear h3 k3
 go_enter Tryz.func127, Tryz.ntmps127
 go_wp2_with fail
 go_loopw [6, 7] (fun o i wr => ∃ (k n : Nat) (q : Int) (zs : List Nat), k ≤ l.length ∧ i = .int .i64 k ∧ o = .int .i64 q ∧ -1 ≤ q ∧ q ≤ 0 ∧ n ≤ 1 ∧ Hid (q = -(n : Int)) ∧
   Hid (zs.length = k ∧ Big.Ok M32 zs ∧ Big.val M32 zs + Big.val M32 (m.take k) = Big.val M32 (l.take k) + M32 ^ k * n) ∧
   Hid (Blk wr w.heap.size 148 .u32 (zs ++ (List.replicate l.length 0).drop k)) ∧ Hid (Below w.heap.size w wr))
  (fun _ i _ => l.length - (intOf i).toNat)
 case atStart => exact ⟨0, 0, 0, [], by omega, rfl, rfl, by omega, by omega, by omega, Lib.hid rfl, Lib.hid ⟨rfl, Big.Ok.nil, by simp [Big.val]⟩, Lib.hid (by simpa using HB0.out), HBel0⟩
 case round =>
  obtain ⟨k, n, q, zs, hk, rfl, rfl, hq1, hq2, hn1, HQ, HZ, HB, HBel⟩ := hrel
  by_cases hlt : k < l.length
  ·obtain ⟨A', c', e, x1, x2, x3⟩ := HW1.out
   cases e
   obtain ⟨b, o, rfl, hblt, hc, -⟩ := x3 (by omega)
   have hcell := (HBel.out.cell (p := ⟨b, o + k, none⟩) hblt).trans (hc k hlt)
   have hst := HB.out.cell k (by have := HZ.out.1; simp; omega)
   have hfr := HB.out.frozen k
   have R := sub_round OL.out OM.out hn1 HZ.out
   have hx := ZI OL.out k
   have hy := ZI OM.out k
   have hw := ZmD hx hy hn1
   have hs := Zn4 hx hy hn1
   have hbb := JH (Big.nth l k) (Big.nth m k) n
   rw [← HQ.out] at hw hs
   have HB' := Lib.hid (HB.out.set k (Yw (Big.nth l k) (Big.nth m k) n))
   have ez := ZY zs (List.replicate l.length 0) k (Yw (Big.nth l k) (Big.nth m k) n) HZ.out.1 (by simp; omega)
   clear hc x3
   by_cases hlm2 : k < m.length
   ·obtain ⟨A'', c'', e, y1, y2, y3⟩ := HW2.out
    cases e
    obtain ⟨b2, o2, rfl, hblt2, hc2, -⟩ := y3 (by omega)
    have hcell2 := (HBel.out.cell (p := ⟨b2, o2 + k, none⟩) hblt2).trans (hc2 k hlm2)
    clear hc2 y3
    generalize Big.nth l k = x at *
    generalize Big.nth m k = y at *
    generalize Yw x y n = sv at *
    generalize Xa x y n = tv at *
    have R1 := Lib.hid R
    have HE := Lib.hid ez
    have HS := Lib.hid hs
    have hq3 : -1 ≤ (q + x - y) / 4294967296 := by omega
    have hq4 : (q + x - y) / 4294967296 ≤ 0 := by omega
    obtain ⟨q', hq'⟩ : ∃ q', (q + (x : Int) - y) / 4294967296 = q' := ⟨_, rfl⟩
    rw [hq'] at HS hq3 hq4
    clear R ez hs
    go_wp2_with fail
    refine ⟨⟨k + 1, tv, q', zs ++ [sv], by omega, by go_num, rfl, hq3, hq4, hbb, HS, R1, Lib.hid ?_, Lib.hid ((HBel.out).setCell (Nat.le_refl _) _)⟩, by simp [intOf]; omega⟩
    have := HB'.out
    rw [HE.out] at this
    exact this
   ·have hy0 : Big.nth m k = 0 := Big.nth_ge m k (by omega)
    rw [hy0] at R HB' ez hw hs hbb
    rw [show ((0 : Nat) : Int) = 0 from rfl, Int.sub_zero] at hw hs
    clear hy hy0
    generalize Big.nth l k = x at *
    generalize Yw x 0 n = sv at *
    generalize Xa x 0 n = tv at *
    have R1 := Lib.hid R
    have HE := Lib.hid ez
    have HS := Lib.hid hs
    have hq3 : -1 ≤ (q + x) / 4294967296 := by omega
    have hq4 : (q + x) / 4294967296 ≤ 0 := by omega
    obtain ⟨q', hq'⟩ : ∃ q', (q + (x : Int)) / 4294967296 = q' := ⟨_, rfl⟩
    rw [hq'] at HS hq3 hq4
    clear R ez hs
    go_wp2_with fail
    refine ⟨⟨k + 1, tv, q', zs ++ [sv], by omega, by go_num, rfl, hq3, hq4, hbb, HS, R1, Lib.hid ?_, Lib.hid ((HBel.out).setCell (Nat.le_refl _) _)⟩, by simp [intOf]; omega⟩
    have := HB'.out
    rw [HE.out] at this
    exact this
  ·have hkl : k = l.length := by omega
   subst hkl
   have Z := HZ.out
   have hB1 := HB.out
   rw [show List.drop l.length (List.replicate l.length 0) = [] from List.drop_eq_nil_of_le (by simp), List.append_nil] at hB1
   have h2 := Ym hB1 l.length (by omega) (by omega)
   rw [Z.1] at h2
   have HT := Lib.hid (trim_any _ _ zs h2)
   clear h2 hB1 Z
   go_wp2_with fail
   refine HT.out.mono ?_
   rintro e w' ⟨v', rfl, hv', rfl⟩
   have HV := Lib.hid hv'
   clear hv'
   go_wp2
   go_ret
   have Z := HZ.out
   have e1 := Z.2.2
   rw [Big.val_take_all l _ (Nat.le_refl _), Big.val_take_all m _ (by omega)] at e1
   refine ⟨v', rfl, ?_, HBel.out⟩
   have := Nin.strip HV.out Z.2.1
   have hz := Big.val_lt zs Z.2.1
   have hlv := HLE.out
   have hn0 : n = 0 := by
    rcases Nat.eq_zero_or_pos n with h | h
    ·exact h
    ·exfalso
     have : n = 1 := by omega
     subst this
     rw [Z.1] at hz
     omega
   subst hn0
   rw [show Big.val M32 l - Big.val M32 m = Big.val M32 zs by omega]
   exact this
end R
end Go.Proofs.YtnlhjcfpfapafaaGreatDoor
namespace Go.Proofs.YtnlhjcfpfapafaaGreatDoor
namespace R
open Go.RowKit
theorem ZhF {l zs : List Nat} {k n x c : Nat} (ol : Big.Ok M32 l) (hn : n < M32) (hx : x < M32)
  (h : zs.length = k ∧ Big.Ok M32 zs ∧ Big.val M32 zs + M32 ^ k * n = Big.val M32 (l.take k) * x + c) :
  Yg (n + Big.nth l k * x) < M32 ∧ (zs ++ [ZJ (n + Big.nth l k * x)]).length = k + 1 ∧ Big.Ok M32 (zs ++ [ZJ (n + Big.nth l k * x)]) ∧
   Big.val M32 (zs ++ [ZJ (n + Big.nth l k * x)]) + M32 ^ (k + 1) * Yg (n + Big.nth l k * x) = Big.val M32 (l.take (k + 1)) * x + c := by
 obtain ⟨h1, h2, h3⟩ := h
 have a := ZI ol k
 have hm : Big.nth l k * x ≤ 4294967295 * 4294967295 := Nat.mul_le_mul (by omega) (by rw [Zk] at hx; omega)
 refine ⟨by rw [Zk] at *; unfold Yg; omega, by simp [h1], h2.append (Big.Ok.cons (by rw [Zk]; exact Vm _) Big.Ok.nil), ?_⟩
 have e := lo_hi (n + Big.nth l k * x)
 rw [← Zk] at e
 rw [Big.val_take_succ', Big.val_snoc, h1, Nat.pow_succ, Nat.mul_assoc, Nat.add_mul, Nat.mul_assoc]
 have e2 : M32 ^ k * (n + Big.nth l k * x) = M32 ^ k * (ZJ (n + Big.nth l k * x) + M32 * Yg (n + Big.nth l k * x)) := by rw [← e]
 simp only [Nat.mul_add] at e2
 omega
set_option maxRecDepth 100000 in
set_option maxHeartbeats 1000000 in
theorem Qv (w : World) (v : Value) (l : List Nat) (x c0 : Nat) (h : Wd w .u32 v l) (ol : Big.Ok M32 l) (hx : x < M32) (hc0 : c0 < M32) (hl : l.length ≤ 100000000000) :
  Calls Tryz.prog 162 #[v, .int .u32 (x : Int), .int .u32 (c0 : Int)] w fun e w' => ∃ v', e = .returned v' ∧ Nin w' v' (Big.val M32 l * x + c0) ∧ Below w.heap.size w w' := by
 obtain ⟨A, c, rfl, h1, h2, h3⟩ := h
 have OL := Lib.hid ol; have HX := Lib.hid hx; have HC := Lib.hid hc0
 rw [Zk] at hx hc0
 clear ol
 have hmk := fun W => XD (l.length + 1) (by omega) W
 rw [show ((l.length + 1 : Nat) : Int) = (l.length : Int) + 1 by omega] at hmk
 have HB0 := Lib.hid (Blk.new w 148 .u32 (List.replicate (l.length + 1) 0))
 have HBel0 := Lib.hid ((Below.refl w.heap.size w).alloc (Nat.le_refl _) (.cells (cellsOf .u32 (List.replicate (l.length + 1) 0)) 148))
 have HW1 := Lib.hid (show Wd w .u32 (.slice A l.length c) l from ⟨A, c, rfl, h1, h2, h3⟩)
 clear h3
 go_enter Tryz.func162, Tryz.ntmps162
 go_wp2_with fail
 go_loopw [8, 9] (fun o i wr => ∃ (k n : Nat) (zs : List Nat), k ≤ l.length ∧ i = .int .i64 k ∧ o = .int .u64 n ∧ n < 4294967296 ∧
   Hid (zs.length = k ∧ Big.Ok M32 zs ∧ Big.val M32 zs + M32 ^ k * n = Big.val M32 (l.take k) * x + c0) ∧
   Hid (Blk wr w.heap.size 148 .u32 (zs ++ (List.replicate (l.length + 1) 0).drop k)) ∧ Hid (Below w.heap.size w wr))
  (fun _ i _ => l.length - (intOf i).toNat)
 case atStart => exact ⟨0, c0, [], by omega, rfl, rfl, hc0, Lib.hid ⟨rfl, Big.Ok.nil, by simp [Big.val]⟩, Lib.hid (by simpa using HB0.out), HBel0⟩
 case round =>
  obtain ⟨k, n, zs, hk, rfl, rfl, hn1, HZ, HB, HBel⟩ := hrel
  by_cases hlt : k < l.length
  ·obtain ⟨A', c', e, x1, x2, x3⟩ := HW1.out
   cases e
   obtain ⟨b, o, rfl, hblt, hc, -⟩ := x3 (by omega)
   have hcell := (HBel.out.cell (p := ⟨b, o + k, none⟩) hblt).trans (hc k hlt)
   have hst := HB.out.cell k (by have := HZ.out.1; simp; omega)
   have hfr := HB.out.frozen k
   have R := ZhF OL.out (by rw [Zk]; exact hn1) HX.out HZ.out
   have hy := ZI OL.out k
   have HB' := Lib.hid (HB.out.set k (ZJ (n + Big.nth l k * x)))
   have ez := ZY zs (List.replicate (l.length + 1) 0) k (ZJ (n + Big.nth l k * x)) HZ.out.1 (by simp; omega)
   have hw := w32 (n + Big.nth l k * x)
   have hs := Zdu (n + Big.nth l k * x)
   have hp : Big.nth l k * x ≤ 4294967295 * 4294967295 := Nat.mul_le_mul (by omega) (by omega)
   clear hc x3
   generalize Big.nth l k = y at *
   have e1 : ((n + y * x : Nat) : Int) = (n : Int) + (y : Int) * (x : Int) := by rw [Int.natCast_add, Int.natCast_mul]
   have hp1 : (y : Int) * (x : Int) ≤ 18446744065119617025 := by rw [← Int.natCast_mul]; omega
   have hp0 : 0 ≤ (y : Int) * (x : Int) := by rw [← Int.natCast_mul]; omega
   rw [e1] at hw hs
   generalize ZJ (n + y * x) = sv at *
   generalize Yg (n + y * x) = tv at *
   have R0 := R.1
   rw [Zk] at R0
   have R1 := Lib.hid R.2
   have HE := Lib.hid ez
   clear R ez e1 hp
   go_wp2_with fail
   refine ⟨⟨k + 1, tv, zs ++ [sv], by omega, by go_num, rfl, R0, R1, Lib.hid ?_, Lib.hid ((HBel.out).setCell (Nat.le_refl _) _)⟩, by simp [intOf]; omega⟩
   have := HB'.out
   rw [HE.out] at this
   exact this
  ·have hkl : k = l.length := by omega
   subst hkl
   have hst := HB.out.cell l.length (by have := HZ.out.1; simp; omega)
   have hfr := HB.out.frozen l.length
   have HB' := Lib.hid (HB.out.set l.length n)
   have HBel' := Lib.hid (HBel.out.setCell (p := ⟨w.heap.size, l.length, none⟩) (Nat.le_refl _) (.int .u32 (n : Int)))
   go_wp2_with fail
   refine (trim_any _ _ (zs ++ [n]) ?_).mono ?_
   ·have h1 := HB'.out
    rw [ZY zs (List.replicate (l.length + 1) 0) l.length _ HZ.out.1 (by simp)] at h1
    rw [show List.drop (l.length + 1) (List.replicate (l.length + 1) 0) = [] from List.drop_eq_nil_of_le (by simp), List.append_nil] at h1
    have h2 := Ym h1 (l.length + 1) (by have := HZ.out.1; simp; omega) (by omega)
    rw [show (zs ++ [n]).length = l.length + 1 by have := HZ.out.1; simp; omega] at h2
    exact h2
   ·rintro e w' ⟨v', rfl, hv', rfl⟩
    have HV := Lib.hid hv'
    clear hv'
    go_wp2
    go_ret
    have Z := HZ.out
    have oz : Big.Ok M32 (zs ++ [n]) := Z.2.1.append (Big.Ok.cons (by unfold M32; omega) Big.Ok.nil)
    have e1 := Z.2.2
    rw [Big.val_take_all l _ (Nat.le_refl _)] at e1
    refine ⟨v', rfl, ?_, HBel'.out⟩
    have := Nin.strip HV.out oz
    rw [Big.val_snoc, Z.1, e1] at this
    exact this
theorem ZhG (r y : Nat) (hr : r < 4294967296) (hy : y < 4294967296) : bits .or .u64 ((r : Int) * 4294967296) ((y : Nat) : Int) = ((r * 4294967296 + y : Nat) : Int) := by
 rw [show ((r : Int) * 4294967296) = ((r * 4294967296 : Nat) : Int) by omega, u64_or_nat _ _ (by omega) (by omega), nat_join 32 _ _ (by omega) (by omega)]
theorem Zkh {x y r V W Z : Nat} (hx : 0 < x) (hV : V = Z * x + r) (hr : r < x) (hW : W = y + 4294967296 * V) :
  W = ((r * 4294967296 + y) / x + 4294967296 * Z) * x + (r * 4294967296 + y) % x := by
 have h := Nat.div_add_mod (r * 4294967296 + y) x
 generalize (r * 4294967296 + y) / x = d at *
 generalize (r * 4294967296 + y) % x = m at *
 rw [hW, hV, Nat.add_mul, Nat.mul_assoc, Nat.mul_comm d x]
 omega
set_option maxRecDepth 100000 in
set_option maxHeartbeats 1000000 in
theorem WR (w : World) (v : Value) (l : List Nat) (x : Nat) (h : Wd w .u32 v l) (ol : Big.Ok M32 l) (hx : x < M32) (hx0 : 0 < x) (hl : l.length ≤ 100000000000) :
  Calls Tryz.prog 139 #[v, .int .u32 (x : Int)] w fun e w' => ∃ v', e = .returned (.tuple #[v', .int .u32 ((Big.val M32 l % x : Nat) : Int)]) ∧ Nin w' v' (Big.val M32 l / x) ∧ Below w.heap.size w w' := by
 obtain ⟨A, c, rfl, h1, h2, h3⟩ := h
 have OL := Lib.hid ol; have HX := Lib.hid hx; have HX0 := Lib.hid hx0
 rw [Zk] at hx
 clear ol
 have hmk := fun W => XD l.length (by omega) W
 have HB0 := Lib.hid (Blk.new w 148 .u32 (List.replicate l.length 0))
 have HBel0 := Lib.hid ((Below.refl w.heap.size w).alloc (Nat.le_refl _) (.cells (cellsOf .u32 (List.replicate l.length 0)) 148))
 have HW1 := Lib.hid (show Wd w .u32 (.slice A l.length c) l from ⟨A, c, rfl, h1, h2, h3⟩)
 have hxz : ((x : Int) == 0) = false := beq_eq_false_iff_ne.2 (by omega)
 clear h3
 go_enter Tryz.func139, Tryz.ntmps139
 go_wp2_with fail
 go_loopw [7, 8] (fun o i wr => ∃ (k n : Nat) (zs : List Nat), k ≤ l.length ∧ i = .int .i64 ((k : Int) - 1) ∧ o = .int .u64 n ∧ n < x ∧
   Hid (zs.length + k = l.length ∧ Big.Ok M32 zs ∧ Big.val M32 (l.drop k) = Big.val M32 zs * x + n) ∧
   Hid (Blk wr w.heap.size 148 .u32 (List.replicate k 0 ++ zs)) ∧ Hid (Below w.heap.size w wr))
  (fun _ i _ => (intOf i + 1).toNat)
 case atStart => exact ⟨l.length, 0, [], by omega, rfl, rfl, hx0, Lib.hid ⟨by simp, Big.Ok.nil, by simp [Big.val]⟩, Lib.hid (by simpa using HB0.out), HBel0⟩
 case round =>
  obtain ⟨k, n, zs, hk, rfl, rfl, hn1, HZ, HB, HBel⟩ := hrel
  rcases Nat.eq_zero_or_pos k with rfl | hp
  ·have Z := HZ.out
   have hB1 := HB.out
   rw [List.replicate_zero, List.nil_append] at hB1
   have h2 := Ym hB1 l.length (by omega) (by omega)
   rw [show zs.length = l.length by omega] at h2
   have HT := Lib.hid (trim_any _ _ zs h2)
   clear h2 hB1 Z
   go_wp2_with fail
   refine HT.out.mono ?_
   rintro e w' ⟨v', rfl, hv', rfl⟩
   have HV := Lib.hid hv'
   clear hv'
   have hv : Big.val M32 l % x = n ∧ Big.val M32 l / x = Big.val M32 zs := by
    have Z := HZ.out.2.2
    rw [List.drop_zero] at Z
    rw [Z, Nat.mul_comm, Nat.mul_add_mod, Nat.mod_eq_of_lt hn1, Nat.mul_add_div hx0, Nat.div_eq_of_lt hn1]
    exact ⟨rfl, rfl⟩
   have HVV := Lib.hid hv
   clear hv
   go_wp2
   go_ret2
   have := Nin.strip HV.out HZ.out.2.1
   rw [← HVV.out.2] at this
   exact ⟨v', by rw [HVV.out.1]; simp, this, HBel.out⟩
  ·obtain ⟨j, rfl⟩ : ∃ j, k = j + 1 := ⟨k - 1, by omega⟩
   rw [show (((j + 1 : Nat) : Int) - 1) = (j : Int) by omega]
   obtain ⟨A', c', e, x1, x2, x3⟩ := HW1.out
   cases e
   obtain ⟨b, o, rfl, hblt, hc, -⟩ := x3 (by omega)
   have hcell := (HBel.out.cell (p := ⟨b, o + j, none⟩) hblt).trans (hc j (by omega))
   have hst := HB.out.cell j (by simp; omega)
   have hfr := HB.out.frozen j
   have hy := ZI OL.out j
   have S := Zkh (W := Big.val M32 (l.drop j)) (y := Big.nth l j) hx0 HZ.out.2.2 hn1 (by rw [Big.drop_cons l j (by omega)]; rfl)
   have ho := ZhG n (Big.nth l j) (by omega) hy
   have hd : (n * 4294967296 + Big.nth l j) / x < 4294967296 := by
    rw [Nat.div_lt_iff_lt_mul hx0]
    have : (n + 1) * 4294967296 ≤ x * 4294967296 := Nat.mul_le_mul_right _ hn1
    rw [Nat.mul_comm 4294967296 x]
    omega
   have hm : (n * 4294967296 + Big.nth l j) % x < x := Nat.mod_lt _ hx0
   have hT : n * 4294967296 + Big.nth l j < 18446744073709551616 := by omega
   have e1 : (((n * 4294967296 + Big.nth l j : Nat) : Int) / (x : Int)) = (((n * 4294967296 + Big.nth l j) / x : Nat) : Int) := by rw [Int.natCast_ediv]
   have e2 : (((n * 4294967296 + Big.nth l j : Nat) : Int) % (x : Int)) = (((n * 4294967296 + Big.nth l j) % x : Nat) : Int) := by rw [Int.natCast_emod]
   have HB' := Lib.hid (HB.out.set j ((n * 4294967296 + Big.nth l j) / x))
   clear hc x3
   generalize Big.nth l j = y at *
   obtain ⟨t, ht⟩ : ∃ t, n * 4294967296 + y = t := ⟨_, rfl⟩
   rw [ht] at ho hd hm hT e1 e2 HB' S
   obtain ⟨d, hd'⟩ : ∃ d, t / x = d := ⟨_, rfl⟩
   obtain ⟨r, hr'⟩ : ∃ d, t % x = d := ⟨_, rfl⟩
   rw [hd'] at hd e1 HB' S
   rw [hr'] at hm e2 S
   have HS := Lib.hid S
   clear S ht hd' hr'
   go_wp2_with fail
   refine ⟨⟨j, r, d :: zs, by omega, rfl, congrArg (Value.int .u64) e2, hm, Lib.hid ⟨by have := HZ.out.1; simp; omega, Big.Ok.cons (by rw [Zk]; exact hd) HZ.out.2.1, ?_⟩, Lib.hid ?_, Lib.hid (HBel.out.setCell (Nat.le_refl _) _)⟩, by simp [intOf]⟩
   ·rw [HS.out]; rfl
   ·have h1 := HB'.out
    have h2 : (List.replicate (j + 1) 0 ++ zs).set j d = List.replicate j 0 ++ d :: zs := by
     rw [List.replicate_succ', List.append_assoc, VI (List.replicate j 0) _ j d (by simp)]; simp
    rw [h2] at h1
    exact h1
end R
end Go.Proofs.YtnlhjcfpfapafaaGreatDoor
namespace Go.Proofs.YtnlhjcfpfapafaaGreatDoor
namespace R
open Go.RowKit
def sg (t : Bool) (n : Nat) : Int := if t then -(n : Int) else (n : Int)
def ZeD (A B : Nat) (w : World) (e : Ending) (w' : World) : Prop :=
 ∃ (p q r s : Nat) (t : Bool), e = .returned (.tuple #[.int .i64 (sg t p), .int .i64 (sg (!t) q), .int .i64 (sg (!t) r), .int .i64 (sg t s)]) ∧ Below w.heap.size w w' ∧
  p < 2147483648 ∧ q < 2147483648 ∧ r < 2147483648 ∧ s < 2147483648 ∧ (q ≠ 0 → 1 ≤ r ∧ 1 ≤ s ∧ ∃ a b, Big.Made A B a b p q r s t)
theorem ZeE {k Y R X P : Nat} (h : X + P < (k + 1) * (Y - R)) (h2 : k * Y ≤ X) : X - k * Y < Y := by
 have h3 := Nat.mul_le_mul_left (k + 1) (Nat.sub_le Y R)
 rw [Nat.succ_mul k Y] at h3
 omega
theorem ZhH (t : Bool) (k n : Nat) : (k : Int) * sg t n = sg t (k * n) := by cases t <;> simp [sg, Int.mul_neg]
theorem ZhI (t : Bool) (n : Nat) : sg (!t) n = -(sg t n) := by cases t <;> simp [sg]
theorem ZhJ (t : Bool) (m n : Nat) : sg t (m + n) = sg t m + sg t n := by cases t <;> simp only [sg, if_true, Bool.false_eq_true, if_false] <;> omega
theorem ZlV (t : Bool) (n N : Nat) (h : n ≤ N) : -(N : Int) ≤ sg t n ∧ sg t n ≤ (N : Int) := by cases t <;> simp only [sg, if_true, Bool.false_eq_true, if_false] <;> omega
theorem JJ (w : World) (v : Value) (l : List Nat) (n : Nat) (h : Wd w .u32 v l) (ol : Big.Ok M32 l) (hn : n ≤ 32000000000) (hl : l.length ≤ 1000000000) :
  Calls Tryz.prog 145 #[v, .int .i64 (n : Int)] w fun e w' => ∃ v', e = .returned v' ∧ Nin w' v' (Big.val M32 l / 2 ^ n) ∧ Below w.heap.size w w' := by
 have := Zb2 w v l (n / 32) (n % 32) h ol (by omega) (by omega) hl
 rwa [show 32 * (n / 32) + n % 32 = n by omega] at this
theorem ZeF (w : World) (v : Value) (n : Nat) (h : Nin w v n) (hn : n < 9223372036854775808) :
  Calls Tryz.prog 161 #[v] w fun e w' => e = .returned (.int .i64 (n : Int)) ∧ w = w' := by
 obtain ⟨l, hl, ol, nl, rfl⟩ := h
 refine ZfL w v l hl ol hn ?_
 rcases Nat.lt_or_ge 2 l.length with h1 | h1
 ·exfalso
  have h3 := Big.norm_ge (B := M32) l nl (by intro e; subst e; simp at h1)
  have h4 : M32 ^ 2 ≤ M32 ^ (l.length - 1) := Nat.pow_le_pow_right M32_pos (by omega)
  have h5 : M32 ^ 2 = 18446744073709551616 := by unfold M32; rfl
  omega
 ·omega
set_option maxRecDepth 100000 in
set_option maxHeartbeats 1000000 in
theorem KY (w : World) (v u : Value) (l m : List Nat) (h : Wd w .u32 v l) (hu : Wd w .u32 u m) (ol : Big.Ok M32 l) (om : Big.Ok M32 m) (nl : Big.Norm l) (hl2 : 2 ≤ l.length)
  (hl : l.length ≤ 100000000) (hm : m.length ≤ 100000000) (hle : Big.val M32 m ≤ Big.val M32 l) :
  Calls Tryz.prog 137 #[v, u] w (ZeD (Big.val M32 l) (Big.val M32 m) w) := by
 have CB := Lib.hid (VM w v l h ol nl (by omega))
 have CD1 := Lib.hid (fun n (hn : n ≤ 32000000000) => JJ w v l n h ol hn (by omega))
 have CD2 := Lib.hid (fun W n (hW : Below w.heap.size w W) (hn : n ≤ 32000000000) => JJ W u m n (hu.keep hW) om hn (by omega))
 have HNE := Lib.hid (show l ≠ [] by intro e; subst e; simp at hl2)
 obtain ⟨A, hA⟩ : ∃ A, Big.val M32 l = A := ⟨_, rfl⟩
 obtain ⟨B, hB⟩ : ∃ B, Big.val M32 m = B := ⟨_, rfl⟩
 rw [hA] at CB CD1 hle ⊢
 rw [hB] at CD2 hle ⊢
 clear hA hB ol om nl hm
 obtain ⟨a1, c1, rfl, -, -, -⟩ := h
 obtain ⟨a2, c2, rfl, -, -, -⟩ := hu
 go_enter Tryz.func137, Tryz.ntmps137
 go_wp2_with fail
 refine CB.out.mono ?_
 rintro e w0 ⟨sb, rfl, hsb, hsb1, hsb2, rfl⟩
 have hsb3 := hsb2 HNE.out
 obtain ⟨n, hn⟩ : ∃ n, sb - 31 = n := ⟨_, rfl⟩
 have en : (sb : Int) - 31 = (n : Int) := by omega
 have hnl : n ≤ 32000000000 := by omega
 -- the heads
 have hb2 := hsb.2 (by omega)
 have hx1 : 1 ≤ A / 2 ^ n := by
  have : 2 ^ n ≤ 2 ^ (sb - 1) := Nat.pow_le_pow_right (by omega) (by omega)
  exact (Nat.le_div_iff_mul_le (Nat.pow_pos (by omega))).2 (by rw [Nat.one_mul]; omega)
 have hx31 : A / 2 ^ n < 2147483648 := by
  rw [Nat.div_lt_iff_lt_mul (Nat.pow_pos (by omega)), show (2147483648 : Nat) = 2 ^ 31 from rfl, ← Nat.pow_add, show 31 + n = sb by omega]
  exact hsb.1
 have hyx : B / 2 ^ n ≤ A / 2 ^ n := Nat.div_le_div_right hle
 have eA : A = A / 2 ^ n * 2 ^ n + A % 2 ^ n := by rw [Nat.mul_comm]; exact (Nat.div_add_mod A (2 ^ n)).symm
 have eB : B = B / 2 ^ n * 2 ^ n + B % 2 ^ n := by rw [Nat.mul_comm]; exact (Nat.div_add_mod B (2 ^ n)).symm
 have lA : A % 2 ^ n < 2 ^ n := Nat.mod_lt _ (Nat.pow_pos (by omega))
 have lB : B % 2 ^ n < 2 ^ n := Nat.mod_lt _ (Nat.pow_pos (by omega))
 have HK := Lib.hid (And.intro eA (And.intro eB (And.intro lA lB)))
 have C1 := Lib.hid (CD1.out n hnl)
 have C2 := Lib.hid (fun W hW => CD2.out W n hW hnl)
 have HI0 := Lib.hid (LI.start (y0 := B / 2 ^ n) (K := 2 ^ n) (α := A % 2 ^ n) (β := B % 2 ^ n) hle hx1)
 generalize A / 2 ^ n = x0 at *
 generalize B / 2 ^ n = y0 at *
 generalize A % 2 ^ n = α at *
 generalize B % 2 ^ n = β at *
 generalize 2 ^ n = K at *
 clear CB CD1 CD2 hsb hsb1 hsb2 hsb3 hb2 eA eB lA lB hn hle
 go_wp2_with fail
 refine C1.out.mono ?_
 rintro e w1 ⟨v1, rfl, hv1, hb1⟩
 have HL1 := Lib.hid (ZeF w1 v1 x0 hv1 (by omega))
 have HB1 := Lib.hid hb1
 clear hv1 hb1
 go_wp2_with fail
 refine HL1.out.mono ?_
 rintro e w1' ⟨rfl, rfl⟩
 go_wp2_with fail
 refine (C2.out w1 HB1.out).mono ?_
 rintro e w2 ⟨v2, rfl, hv2, hb2⟩
 have HL2 := Lib.hid (ZeF w2 v2 y0 hv2 (by omega))
 have HB2 := Lib.hid (HB1.out.trans (hb2.mono HB1.out.size))
 clear hv2 hb2
 go_wp2_with fail
 refine HL2.out.mono ?_
 rintro e w2' ⟨rfl, rfl⟩
 go_wp2_with fail
 clear C1 C2 HL1 HL2 en
 go_loopw [9, 10, 11, 12, 13, 14] (fun x y p q r s wr => ∃ (X Y P Q R S a b : Nat) (t : Bool) (p' q' r' s' : Int), x = .int .i64 (X : Int) ∧ y = .int .i64 (Y : Int) ∧ p = .int .i64 p' ∧ q = .int .i64 q' ∧ r = .int .i64 r' ∧ s = .int .i64 s' ∧
   Hid (LI A B x0 y0 K α β X Y P Q R S t a b ∧ X ≤ x0 ∧ Y ≤ X) ∧ Hid (p' = sg t P ∧ q' = sg (!t) Q ∧ r' = sg (!t) R ∧ s' = sg t S) ∧ w2 = wr)
  (fun _ y _ _ _ _ _ => (intOf y).toNat)
 case atStart => exact ⟨x0, y0, 1, 0, 0, 1, A, B, false, 1, 0, 0, 1, rfl, rfl, rfl, rfl, rfl, rfl, Lib.hid ⟨HI0.out, Nat.le_refl _, hyx⟩, Lib.hid ⟨rfl, rfl, rfl, rfl⟩, rfl⟩
 case round =>
  obtain ⟨X, Y, P, Q, R, S, a, b, t, p', q', r', s', rfl, rfl, rfl, rfl, rfl, rfl, HI, HS, rfl⟩ := hrel
  obtain ⟨I, hXx, hYX⟩ := HI.out
  have HF := Lib.hid (show ZeD A B w (.returned (.tuple #[.int .i64 p', .int .i64 q', .int .i64 r', .int .i64 s'])) w2 from by
   obtain ⟨e1, e2, e3, e4⟩ := HS.out
   refine ⟨P, Q, R, S, t, by rw [e1, e2, e3, e4], HB2.out, Nat.lt_of_le_of_lt I.px hx31, Nat.lt_of_le_of_lt I.qx hx31, Nat.lt_of_le_of_lt I.rx hx31, Nat.lt_of_le_of_lt I.sx hx31, fun hq => ?_⟩
   rcases I.hd with ⟨h, -, -⟩ | ⟨h1, h2, h3⟩
   ·exact absurd h hq
   ·exact ⟨h2, I.L.s1, _, _, I.T.made h3⟩)
  have HN : ∃ u v u2 v2 : Nat, (X : Int) + p' = u ∧ (Y : Int) + r' = v ∧ (X : Int) + q' = u2 ∧ (Y : Int) + s' = v2 ∧ u < 4294967296 ∧ v < 4294967296 ∧ u2 < 4294967296 ∧ v2 < 4294967296 ∧ -2147483648 ≤ p' ∧ p' ≤ 2147483648 ∧ -2147483648 ≤ q' ∧ q' ≤ 2147483648 ∧ -2147483648 ≤ r' ∧ r' ≤ 2147483648 ∧ -2147483648 ≤ s' ∧ s' ≤ 2147483648 ∧
    (∀ k, v ≠ 0 → v2 ≠ 0 → u / v = k → u2 / v2 = k → (t = false → R < Y ∧ k * (Y + S) + Q ≤ X ∧ X + P < (k + 1) * (Y - R)) ∧ (t = true → S < Y ∧ k * (Y + R) + P ≤ X ∧ X + Q < (k + 1) * (Y - S))) := by
   obtain ⟨e1, e2, e3, e4⟩ := HS.out
   have := I.px; have := I.qx; have := I.rx; have := I.sx
   cases t with
   | false =>
    obtain ⟨a1, a2⟩ := I.k1 rfl
    simp only [sg, Bool.not_false, if_true, Bool.false_eq_true, if_false] at e1 e2 e3 e4
    refine ⟨X + P, Y - R, X - Q, Y + S, by omega, by omega, by omega, by omega, by omega, by omega, by omega, by omega, by omega, by omega, by omega, by omega, by omega, by omega, by omega, by omega, fun k hv hv2 h1 h2 => ⟨fun _ => ?_, fun h => by cases h⟩⟩
    have d1 := Nat.lt_div_mul_add (a := X + P) (b := Y - R) (by omega)
    have d2 := Nat.div_mul_le_self (X - Q) (Y + S)
    rw [h1] at d1
    rw [h2] at d2
    rw [Nat.succ_mul]
    exact ⟨by omega, by omega, by omega⟩
   | true =>
    obtain ⟨a1, a2⟩ := I.k2 rfl
    simp only [sg, Bool.not_true, if_true, Bool.false_eq_true, if_false] at e1 e2 e3 e4
    refine ⟨X - P, Y + R, X + Q, Y - S, by omega, by omega, by omega, by omega, by omega, by omega, by omega, by omega, by omega, by omega, by omega, by omega, by omega, by omega, by omega, by omega, fun k hv hv2 h1 h2 => ⟨fun h => (by cases h), fun _ => ?_⟩⟩
    have d1 := Nat.lt_div_mul_add (a := X + Q) (b := Y - S) (by omega)
    have d2 := Nat.div_mul_le_self (X - P) (Y + R)
    rw [h2] at d1
    rw [h1] at d2
    rw [Nat.succ_mul]
    exact ⟨by omega, by omega, by omega⟩
  obtain ⟨u, v, u2, v2, e1, e2, e3, e4, l1, l2, l3, l4, b1, b2, b3, b4, b5, b6, b7, b8, HC⟩ := HN
  have hXl : X < 2147483648 := by omega
  have hYl : Y < 2147483648 := by omega
  rcases Nat.eq_zero_or_pos v with hv | hv
  ·subst hv
   clear HC I
   go_wp2_with fail
   refine bodyPost_ret (v := .tuple #[.int .i64 p', .int .i64 q', .int .i64 r', .int .i64 s']) (by simp [results, Tryz.results137, go_sem]) rfl ?_
   exact HF.out
  ·have tv : ((v : Int) != 0) = true := by rw [bne_iff_ne]; omega
   have tv0 : ((v : Int) == 0) = false := beq_eq_false_iff_ne.2 (by omega)
   rcases Nat.eq_zero_or_pos v2 with hv2 | hv2
   ·subst hv2
    clear HC I
    go_wp2_with fail
    refine bodyPost_ret (v := .tuple #[.int .i64 p', .int .i64 q', .int .i64 r', .int .i64 s']) (by simp [results, Tryz.results137, go_sem]) rfl ?_
    exact HF.out
   ·have tv2 : ((v2 : Int) != 0) = true := by rw [bne_iff_ne]; omega
    have tv20 : ((v2 : Int) == 0) = false := beq_eq_false_iff_ne.2 (by omega)
    have k1 : ((u : Int) / (v : Int)) = ((u / v : Nat) : Int) := by rw [Int.natCast_ediv]
    have k2 : ((u2 : Int) / (v2 : Int)) = ((u2 / v2 : Nat) : Int) := by rw [Int.natCast_ediv]
    have kl1 : u / v < 4294967296 := Nat.lt_of_le_of_lt (Nat.div_le_self _ _) l1
    have kl2 : u2 / v2 < 4294967296 := Nat.lt_of_le_of_lt (Nat.div_le_self _ _) l3
    by_cases hk : u / v = u2 / v2
    ·have N := HC (u / v) (by omega) (by omega) rfl hk.symm
     have J := I.next (k := u / v) HK.out.1 HK.out.2.1 HK.out.2.2.1 HK.out.2.2.2 N.1 N.2
     have hlt : X - (u / v) * Y < Y := by
      cases t with
      | false => exact ZeE (N.1 rfl).2.2 J.2.2.1
      | true => exact ZeE (N.2 rfl).2.2 J.2.2.1
     rw [← hk] at k2
     generalize hku : u / v = k at *
     have m1 : (k : Int) * r' = sg (!t) (k * R) := by rw [HS.out.2.2.1, ZhH]
     have m2 : (k : Int) * s' = sg t (k * S) := by rw [HS.out.2.2.2, ZhH]
     have m3 : (k : Int) * (Y : Int) = ((k * Y : Nat) : Int) := by rw [Int.natCast_mul]
     have s1 : -2147483648 ≤ (k : Int) * r' ∧ (k : Int) * r' ≤ 2147483648 := by
      have := ZlV (!t) (k * R) x0 J.1
      rw [m1]; omega
     have s2 : -2147483648 ≤ (k : Int) * s' ∧ (k : Int) * s' ≤ 2147483648 := by
      have := ZlV t (k * S) x0 J.2.1
      rw [m2]; omega
     have hnew : r' = sg (!t) R ∧ s' = sg (!(!t)) S ∧ p' - (k : Int) * r' = sg (!(!t)) (P + k * R) ∧ q' - (k : Int) * s' = sg (!t) (Q + k * S) := by
      obtain ⟨f1, f2, f3, f4⟩ := HS.out
      refine ⟨f3, by rw [Bool.not_not]; exact f4, ?_, ?_⟩
      ·rw [m1, f1, Bool.not_not, ZhJ, ZhI]; omega
      ·rw [m2, f2, ZhJ, ZhI t (k * S)]; omega
     have J3 := J.2.2.1
     have m4 : (X : Int) - (k : Int) * (Y : Int) = ((X - k * Y : Nat) : Int) := by rw [m3]; omega
     have HJ := Lib.hid (show LI A B x0 y0 K α β Y (X - k * Y) R S (P + k * R) (Q + k * S) (!t) b (a - k * b) ∧ Y ≤ x0 ∧ X - k * Y ≤ Y from ⟨J.2.2.2, by omega, by omega⟩)
     obtain ⟨Y', hY'⟩ : ∃ Y', X - k * Y = Y' := ⟨_, rfl⟩
     rw [hY'] at m4 HJ hlt
     obtain ⟨rn, hrn⟩ : ∃ z, p' - (k : Int) * r' = z := ⟨_, rfl⟩
     obtain ⟨sn, hsn⟩ : ∃ z, q' - (k : Int) * s' = z := ⟨_, rfl⟩
     rw [hrn, hsn] at hnew
     have HNW := Lib.hid hnew
     obtain ⟨s11, s12⟩ := s1
     obtain ⟨s21, s22⟩ := s2
     have s31 : 0 ≤ (k : Int) * (Y : Int) := by rw [m3]; omega
     have s32 : (k : Int) * (Y : Int) ≤ 2147483648 := by rw [m3]; omega
     have hrn1 : rn = p' - (k : Int) * r' := hrn.symm
     have HLT := Lib.hid hlt
     clear HC I N J m1 m2 m3 hnew J3 hY' hk hku hlt hrn1
     go_wp2_with fail
     refine ⟨⟨Y, Y', R, S, P + k * R, Q + k * S, b, a - k * b, !t, r', s', rn, sn, rfl, rfl, rfl, rfl, rfl, rfl, HJ, HNW, trivial⟩, by simp only [intOf]; have := HLT.out; omega⟩
    ·have tk : (((u / v : Nat) : Int) != ((u2 / v2 : Nat) : Int)) = true := by rw [bne_iff_ne]; omega
     generalize u / v = k at *
     generalize u2 / v2 = k' at *
     clear HC I hk
     go_wp2_with fail
     refine bodyPost_ret (v := .tuple #[.int .i64 p', .int .i64 q', .int .i64 r', .int .i64 s']) (by simp [results, Tryz.results137, go_sem]) rfl ?_
     exact HF.out
end R
end Go.Proofs.YtnlhjcfpfapafaaGreatDoor
namespace Go.Proofs.YtnlhjcfpfapafaaGreatDoor
namespace R
open Go.RowKit
theorem ZmE {q r top U M next c : Nat} (h : q * top + r = U) (h2 : q * next ≤ r * M + c) : q * (top * M + next) ≤ U * M + c := by
 rw [Nat.mul_add, ← Nat.mul_assoc, ← h, Nat.add_mul]; omega
theorem ZmF {q r a b top M next U : Nat} (h : q * top + r = U) (hU : U = a * M + b) (hb : b < M) (ha : a ≤ top) (hn : next < M) (hr : M ≤ r) : q < M ∧ q * (top * M + next) ≤ U * M := by
 have h1 : a * M ≤ top * M := Nat.mul_le_mul_right M ha
 have h2 : q * top < M * top := by rw [Nat.mul_comm M top]; omega
 have hq := Nat.lt_of_mul_lt_mul_right h2
 refine ⟨hq, ?_⟩
 have h3 : q * next ≤ M * M := Nat.mul_le_mul (Nat.le_of_lt hq) (Nat.le_of_lt hn)
 have h4 : M * M ≤ r * M := Nat.mul_le_mul_right M hr
 rw [Nat.mul_add, ← Nat.mul_assoc, ← h, Nat.add_mul]; omega
theorem Zki {q r top U M next c Y : Nat} (h : q * top + r = U) (hY : top * M + next = Y) (h2 : r * M + c < q * next) (hp : 0 < Y) : (U * M + c) / Y ≤ q - 1 := by
 have h1 : U * M + c < q * Y := by
  rw [← hY, Nat.mul_add, ← Nat.mul_assoc, ← h, Nat.add_mul]; omega
 have := (Nat.div_lt_iff_lt_mul hp).2 h1
 omega
theorem ZmG {q r top U : Nat} (h : q * top + r = U) (hq : 0 < q) : (q - 1) * top + (r + top) = U := by
 have e : q * top = (q - 1) * top + top := by
  conv => lhs; rw [show q = q - 1 + 1 by omega]
  rw [Nat.add_mul, Nat.one_mul]
 omega
set_option maxRecDepth 100000 in
set_option maxHeartbeats 2000000 in
theorem Zb3 (w : World) (a b c top next qt : Nat) (ha : a ≤ top) (hb : b < M32) (hc : c < M32) (ht : top < M32) (ht0 : 0 < top) (hn : next < M32) (hqt : qt < M32)
  (hge : qt ≤ ((a * M32 + b) * M32 + c) / (top * M32 + next)) :
  Calls Tryz.prog 142 #[.int .u32 (a : Int), .int .u32 (b : Int), .int .u32 (c : Int), .int .u32 (top : Int), .int .u32 (next : Int)] w fun e w' =>
   ∃ g : Nat, e = .returned (.int .u64 (g : Int)) ∧ g < M32 ∧ qt ≤ g ∧ g * (top * M32 + next) ≤ (a * M32 + b) * M32 + c ∧ Zv w w' := by
 have hM := Zk
 have ho := ZhG a b (by omega) (by omega)
 have e1 : a * 4294967296 + b = a * M32 + b := by rw [hM]
 rw [e1] at ho
 obtain ⟨U, hU⟩ : ∃ U, a * M32 + b = U := ⟨_, rfl⟩
 rw [hU] at ho hge ⊢
 have hUb : U < 18446744073709551616 := by rw [← hU, hM]; rw [hM] at hb ht; omega
 have hd0 : ((U : Nat) : Int) / (top : Int) = ((U / top : Nat) : Int) := by rw [Int.natCast_ediv]
 have hm0 : ((U : Nat) : Int) % (top : Int) = ((U % top : Nat) : Int) := by rw [Int.natCast_emod]
 have H0 := Lib.hid (show U / top * top + U % top = U by rw [Nat.mul_comm]; exact Nat.div_add_mod U top)
 have HQ0 := Lib.hid (show qt ≤ U / top by
  refine Nat.le_trans hge ?_
  have hp : 0 < top * M32 + next := by have := Nat.mul_pos ht0 M32_pos; omega
  rw [Nat.le_div_iff_mul_le ht0]
  have h1 := Nat.div_mul_le_self (U * M32 + c) (top * M32 + next)
  generalize (U * M32 + c) / (top * M32 + next) = z at *
  rw [Nat.mul_add, ← Nat.mul_assoc] at h1
  have h2 : z * top * M32 < (U + 1) * M32 := by rw [Nat.add_mul]; omega
  have := Nat.lt_of_mul_lt_mul_right h2
  omega)
 have hm1 : U % top < top := Nat.mod_lt _ ht0
 have hd1 : U / top < 18446744073709551616 := Nat.lt_of_le_of_lt (Nat.div_le_self _ _) hUb
 generalize U / top = q0 at *
 generalize U % top = r0 at *
 have HH := Lib.hid (And.intro hqt (And.intro hge (And.intro hU (And.intro hb (And.intro ha (And.intro hn hc))))))
 rw [hM] at hb hc ht hn
 have hz : ((top : Int) == 0) = false := beq_eq_false_iff_ne.2 (by omega)
 have wt : IntKind.u64.wrap (top : Int) = top := w64 top (by omega)
 have wd : IntKind.u64.wrap (q0 : Int) = q0 := w64 q0 (by omega)
 clear hqt hge hU e1 hM
 go_enter Tryz.func142, Tryz.ntmps142
 go_wp2_with fail
 go_quiet (fail)
 go_wp2_with fail
 have HD0 := Lib.hid ((Zv.refl w).drewN nq)
 generalize w.drewN nq = wa at HD0 ⊢
 have HM0 := Lib.hid hm0
 clear wt wd hd0 hm0 ho hz
 go_loopw [12, 13] (fun s t wr => ∃ q r : Nat, s = .int .u64 (q : Int) ∧ t = .int .u64 (r : Int) ∧ q < 18446744073709551616 ∧ r < 4294967296 ∧ Hid (q * top + r = U ∧ qt ≤ q) ∧ wa = wr) (fun s _ _ => (intOf s).toNat)
 case atStart => exact ⟨q0, r0, rfl, by rw [HM0.out], hd1, by omega, Lib.hid ⟨H0.out, HQ0.out⟩, rfl⟩
 case round =>
  obtain ⟨q, r, rfl, rfl, hq, hr, HI, rfl⟩ := hrel
  have hor := ZhG r c hr hc
  have hR : r * 4294967296 + c < 18446744073709551616 := by omega
  by_cases hC : q < 4294967296 ∧ q * next ≤ r * 4294967296 + c
  ·obtain ⟨hC1, hC2⟩ := hC
   have HF := Lib.hid (show q < M32 ∧ qt ≤ q ∧ q * (top * M32 + next) ≤ U * M32 + c from ⟨by rw [Zk]; exact hC1, HI.out.2, ZmE HI.out.1 (by rw [Zk]; exact hC2)⟩)
   have hp : q * next ≤ 4294967295 * 4294967295 := Nat.mul_le_mul (by omega) (by omega)
   have hp1 : (q : Int) * (next : Int) ≤ 18446744065119617025 := by rw [← Int.natCast_mul]; omega
   have hp0 : 0 ≤ (q : Int) * (next : Int) := by rw [← Int.natCast_mul]; omega
   have t1 : ¬ ((q : Int) ≥ 4294967296) := by omega
   obtain ⟨R, hRe⟩ : ∃ R, r * 4294967296 + c = R := ⟨_, rfl⟩
   rw [hRe] at hor hR hC2
   have t2 : ¬ ((q : Int) * (next : Int) > (R : Int)) := by rw [← Int.natCast_mul]; omega
   clear hRe hC2 hp
   go_wp2
   go_ret
   exact ⟨q, rfl, HF.out.1, HF.out.2.1, HF.out.2.2, HD0.out⟩
  ·have hYp : 0 < top * M32 + next := by have := Nat.mul_pos ht0 M32_pos; omega
   have hle : qt ≤ q - 1 ∧ 0 < q := by
    by_cases h1 : q < 4294967296
    ·have h2 : r * 4294967296 + c < q * next := by
      rcases Nat.lt_or_ge (r * 4294967296 + c) (q * next) with h | h
      ·exact h
      ·exact absurd ⟨h1, h⟩ hC
     refine ⟨Nat.le_trans HH.out.2.1 (Zki HI.out.1 rfl (by rw [Zk]; exact h2) hYp), ?_⟩
     rcases Nat.eq_zero_or_pos q with e | e
     ·subst e; omega
     ·exact e
    ·have := HH.out.1
     rw [Zk] at this
     omega
   have HL := Lib.hid (And.intro (ZmG HI.out.1 hle.2) hle.1)
   have hq1 : (1 : Int) ≤ (q : Int) := by omega
   have i9 : (q : Int) - 1 = ((q - 1 : Nat) : Int) := by omega
   have hqd : q - 1 < 18446744073709551616 := by omega
   have HM := Lib.hid (show q - 1 < q by omega)
   have T : (¬ ((q : Int) ≥ 4294967296) → (q : Int) * (next : Int) ≤ 18446744065119617025 ∧ 0 ≤ (q : Int) * (next : Int) ∧ (q : Int) * (next : Int) > ((r * 4294967296 + c : Nat) : Int)) := by
    intro h1
    have h1' : q < 4294967296 := by omega
    have h2 : r * 4294967296 + c < q * next := by
     rcases Nat.lt_or_ge (r * 4294967296 + c) (q * next) with h | h
     ·exact h
     ·exact absurd ⟨h1', h⟩ hC
    have hp : q * next ≤ 4294967295 * 4294967295 := Nat.mul_le_mul (by omega) (by omega)
    rw [← Int.natCast_mul]
    omega
   obtain ⟨R, hRe⟩ : ∃ R, r * 4294967296 + c = R := ⟨_, rfl⟩
   rw [hRe] at hor hR T
   have HT := Lib.hid T
   generalize q - 1 = q' at *
   clear T hRe hle hYp hC
   by_cases hbr : 4294967296 ≤ r + top
   ·have HF := Lib.hid (show q' < M32 ∧ qt ≤ q' ∧ q' * (top * M32 + next) ≤ U * M32 + c from by
     have h := ZmF (M := M32) (next := next) HL.out.1 HH.out.2.2.1.symm HH.out.2.2.2.1 HH.out.2.2.2.2.1 HH.out.2.2.2.2.2.1 (by rw [Zk]; exact hbr)
     exact ⟨h.1, HL.out.2, by omega⟩)
    have t3 : ((r : Int) + (top : Int) ≥ 4294967296) := by omega
    by_cases t1 : (q : Int) ≥ 4294967296
    ·go_wp2
     go_ret
     exact ⟨q', rfl, HF.out.1, HF.out.2.1, HF.out.2.2, HD0.out⟩
    ·obtain ⟨p1, p0, t2⟩ := HT.out t1
     go_wp2
     go_ret
     exact ⟨q', rfl, HF.out.1, HF.out.2.1, HF.out.2.2, HD0.out⟩
   ·have t3 : ¬ ((r : Int) + (top : Int) ≥ 4294967296) := by omega
    have HL' := Lib.hid HL.out
    have hrt : r + top < 4294967296 := by omega
    by_cases t1 : (q : Int) ≥ 4294967296
    ·go_wp2_with fail
     refine ⟨⟨q', r + top, rfl, by go_num, hqd, hrt, HL', trivial⟩, by simp only [intOf]; have := HM.out; omega⟩
    ·obtain ⟨p1, p0, t2⟩ := HT.out t1
     go_wp2_with fail
     refine ⟨⟨q', r + top, rfl, by go_num, hqd, hrt, HL', trivial⟩, by simp only [intOf]; have := HM.out; omega⟩
end R
end Go.Proofs.YtnlhjcfpfapafaaGreatDoor
namespace Go.Proofs.YtnlhjcfpfapafaaGreatDoor
namespace R
open Go.RowKit
theorem mul_round {Z m zs : List Nat} {k n x : Nat} (oZ : Big.Ok M32 Z) (om : Big.Ok M32 m) (hn : n < M32) (hx : x < M32)
  (h : zs.length = k ∧ Big.Ok M32 zs ∧ Big.val M32 zs + M32 ^ k * n = Big.val M32 (Z.take k) + Big.val M32 (m.take k) * x) :
  Yg (n + Big.nth Z k + x * Big.nth m k) < M32 ∧ (zs ++ [ZJ (n + Big.nth Z k + x * Big.nth m k)]).length = k + 1 ∧ Big.Ok M32 (zs ++ [ZJ (n + Big.nth Z k + x * Big.nth m k)]) ∧
   Big.val M32 (zs ++ [ZJ (n + Big.nth Z k + x * Big.nth m k)]) + M32 ^ (k + 1) * Yg (n + Big.nth Z k + x * Big.nth m k) = Big.val M32 (Z.take (k + 1)) + Big.val M32 (m.take (k + 1)) * x := by
 obtain ⟨h1, h2, h3⟩ := h
 have a := ZI oZ k
 have b := ZI om k
 have hm : x * Big.nth m k ≤ 4294967295 * 4294967295 := Nat.mul_le_mul (by rw [Zk] at hx; omega) (by omega)
 refine ⟨by rw [Zk] at *; unfold Yg; omega, by simp [h1], h2.append (Big.Ok.cons (by rw [Zk]; exact Vm _) Big.Ok.nil), ?_⟩
 rw [Big.val_take_succ', Big.val_take_succ']
 refine Big.mul_step h1 h3 ?_
 have := lo_hi (n + Big.nth Z k + x * Big.nth m k)
 rw [Zk, Nat.mul_comm (Big.nth m k) x]
 omega
theorem nth_mid {L zs : List Nat} {off k : Nat} (h : off + k < L.length) (hz : zs.length = k) : Big.nth (L.take off ++ (zs ++ L.drop (off + k))) (off + k) = Big.nth L (off + k) := by
 unfold Big.nth
 rw [List.getD_eq_getElem?_getD, List.getD_eq_getElem?_getD, List.getElem?_append_right (by simp; omega), List.getElem?_append_right (by simp; omega), List.getElem?_drop]
 congr 2
 simp
 omega
theorem len_mid {L zs : List Nat} {off k : Nat} (h : off + k ≤ L.length) (hz : zs.length = k) : (L.take off ++ (zs ++ L.drop (off + k))).length = L.length := by simp; omega
theorem set_mid {L zs : List Nat} {off k x : Nat} (h : off + k < L.length) (hz : zs.length = k) : (L.take off ++ (zs ++ L.drop (off + k))).set (off + k) x = L.take off ++ ((zs ++ [x]) ++ L.drop (off + (k + 1))) := by
 rw [List.set_append_right _ _ (by simp; omega), List.set_append_right _ _ (by simp; omega), Big.drop_cons L (off + k) h, show off + k - (L.take off).length - zs.length = 0 by simp; omega, List.set_cons_zero]
 simp [Nat.add_assoc]
theorem nth_drop_take (l : List Nat) (off n i : Nat) (hi : i < n) : Big.nth ((l.drop off).take n) i = Big.nth l (off + i) := by
 unfold Big.nth
 rw [List.getD_eq_getElem?_getD, List.getD_eq_getElem?_getD, List.getElem?_take_of_lt hi, List.getElem?_drop]
theorem Zkj {Z zs : List Nat} {i N x V o : Nat} (hz : zs.length = N) (hl : i + N < Z.length) (h0 : Z.drop (i + N) = List.replicate (Z.length - (i + N)) 0)
  (h : Big.val M32 zs + M32 ^ N * o = Big.val M32 ((Z.drop i).take N) + V * x) :
  Big.val M32 (Z.take i ++ ((zs ++ [o]) ++ Z.drop (i + (N + 1)))) = Big.val M32 Z + M32 ^ i * (V * x) ∧
   (Z.take i ++ ((zs ++ [o]) ++ Z.drop (i + (N + 1)))).drop (i + 1 + N) = List.replicate (Z.length - (i + 1 + N)) 0 := by
 have e0 : Z.drop (i + (N + 1)) = List.replicate (Z.length - (i + 1 + N)) 0 := by
  rw [show i + (N + 1) = (i + N) + 1 by omega, ← List.drop_drop, h0, List.drop_replicate]
  congr 1; omega
 refine ⟨?_, ?_⟩
 ·have e1 : Big.val M32 Z = Big.val M32 (Z.take i) + M32 ^ i * Big.val M32 ((Z.drop i).take N) := by
   rw [Big.val_take_drop Z i (by omega), Big.val_take_drop (Z.drop i) N (by simp; omega), List.drop_drop, h0, Big.val_replicate, Nat.mul_zero, Nat.add_zero]
  rw [Big.val_append, Big.val_append, e0, Big.val_replicate, Big.val_snoc, hz, h, e1, List.length_take, Nat.min_eq_left (by omega), Nat.mul_zero, Nat.add_zero, Nat.mul_add, Nat.add_assoc]
 ·rw [← List.append_assoc, List.drop_left' (by simp; omega), e0]
set_option maxRecDepth 100000 in
set_option maxHeartbeats 2000000 in
theorem ZaP (w : World) (v u : Value) (l m : List Nat) (h : Wd w .u32 v l) (hu : Wd w .u32 u m) (ol : Big.Ok M32 l) (om : Big.Ok M32 m) (hl : l.length ≤ 1000000000) (hm : m.length ≤ 1000000000) :
  Calls Tryz.prog 125 #[v, u] w fun e w' => ∃ v', e = .returned v' ∧ Nin w' v' (Big.val M32 l * Big.val M32 m) ∧ Below w.heap.size w w' := by
 have HW1 := Lib.hid h
 have HW2 := Lib.hid hu
 have OL := Lib.hid ol; have OM := Lib.hid om
 obtain ⟨A, c, rfl, -, -, -⟩ := h
 obtain ⟨A2, c2, rfl, -, -, -⟩ := hu
 have hmk := fun W => XD (l.length + m.length) (by omega) W
 rw [show ((l.length + m.length : Nat) : Int) = (l.length : Int) + m.length by omega] at hmk
 have HB1 := Lib.hid (Blk.new w 148 .u32 (List.replicate (l.length + m.length) 0))
 have HBel1 := Lib.hid ((Below.refl w.heap.size w).alloc (Nat.le_refl _) (.cells (cellsOf .u32 (List.replicate (l.length + m.length) 0)) 148))
 clear ol om
 go_enter Tryz.func125, Tryz.ntmps125
 go_wp2_with fail
 clear hmk
 go_loopw [6] (fun i wr => ∃ (a : Nat) (Z : List Nat), a ≤ l.length ∧ i = .int .i64 a ∧
   Hid (Z.length = l.length + m.length ∧ Big.Ok M32 Z ∧ Z.drop (a + m.length) = List.replicate (Z.length - (a + m.length)) 0 ∧ Big.val M32 Z = Big.val M32 (l.take a) * Big.val M32 m) ∧
   Hid (Blk wr w.heap.size 148 .u32 Z) ∧ Hid (Below w.heap.size w wr))
  (fun i _ => l.length - (intOf i).toNat)
 case atStart => exact ⟨0, List.replicate (l.length + m.length) 0, by omega, rfl, Lib.hid ⟨by simp, fun d hd => by rw [List.eq_of_mem_replicate hd]; exact M32_pos, by simp, by simp [Big.val, Big.val_replicate]⟩, HB1, HBel1⟩
 case round =>
  obtain ⟨a, Z, ha, rfl, HZ, HB, HBel⟩ := hrel
  by_cases hlt : a < l.length
  ·obtain ⟨A', c', e, x1, x2, x3⟩ := HW1.out
   cases e
   obtain ⟨b, o, rfl, hblt, hcc, -⟩ := x3 (by omega)
   have hcell := (HBel.out.cell (p := ⟨b, o + a, none⟩) hblt).trans (hcc a hlt)
   have hxM := ZI OL.out a
   have HXE := Lib.hid (Big.val_take_succ' (B := M32) l a)
   generalize Big.nth l a = x at *
   clear hcc x3
   go_wp2_with fail
   have HLZ := Lib.hid (show a + m.length < Z.length by have := HZ.out.1; omega)
   have OX := Lib.hid (show Big.Ok M32 ((Z.drop a).take m.length) from (HZ.out.2.1.drop _).take _)
   go_loopw [7, 9] (fun q i wq => ∃ (k n : Nat) (zs : List Nat), k ≤ m.length ∧ i = .int .i64 k ∧ q = .int .u64 n ∧ n < 4294967296 ∧
     Hid (zs.length = k ∧ Big.Ok M32 zs ∧ Big.val M32 zs + M32 ^ k * n = Big.val M32 (((Z.drop a).take m.length).take k) + Big.val M32 (m.take k) * x) ∧
     Hid (Blk wq w.heap.size 148 .u32 (Z.take a ++ (zs ++ Z.drop (a + k)))) ∧ Hid (Below w.heap.size w wq))
    (fun _ i _ => m.length - (intOf i).toNat)
   case atStart => exact ⟨0, 0, [], by omega, rfl, rfl, by omega, Lib.hid ⟨rfl, Big.Ok.nil, by simp [Big.val]⟩, Lib.hid (by simpa using HB.out), HBel⟩
   case round =>
    obtain ⟨k, n, zs, hk, rfl, rfl, hn, HI, HC, HCel⟩ := hrel
    by_cases hkn : k < m.length
    ·obtain ⟨A'', c'', e, y1, y2, y3⟩ := HW2.out
     cases e
     obtain ⟨b2, o2, rfl, hblt2, hcc2, -⟩ := y3 (by omega)
     have hcell2 := (HCel.out.cell (p := ⟨b2, o2 + k, none⟩) hblt2).trans (hcc2 k (by omega))
     have hst := HC.out.cell (a + k) (by rw [len_mid (by have := HLZ.out; omega) HI.out.1]; have := HLZ.out; omega)
     rw [nth_mid (by have := HLZ.out; omega) HI.out.1, ← nth_drop_take Z a m.length k (by omega)] at hst
     have hfr := HC.out.frozen (a + k)
     have R := mul_round OX.out OM.out (by rw [Zk]; exact hn) (by rw [Zk]; exact hxM) HI.out
     have hy := ZI OM.out k
     have hz := ZI OX.out k
     have HC' := Lib.hid (HC.out.set (a + k) (ZJ (n + Big.nth ((Z.drop a).take m.length) k + x * Big.nth m k)))
     have ez := set_mid (L := Z) (off := a) (k := k) (x := ZJ (n + Big.nth ((Z.drop a).take m.length) k + x * Big.nth m k)) (by have := HLZ.out; omega) HI.out.1
     have hw := w32 (n + Big.nth ((Z.drop a).take m.length) k + x * Big.nth m k)
     have hs := Zdu (n + Big.nth ((Z.drop a).take m.length) k + x * Big.nth m k)
     have hp : x * Big.nth m k ≤ 4294967295 * 4294967295 := Nat.mul_le_mul (by omega) (by omega)
     clear hcc2 y3
     generalize Big.nth ((Z.drop a).take m.length) k = z at *
     generalize Big.nth m k = y at *
     have e1 : ((n + z + x * y : Nat) : Int) = (n : Int) + (z : Int) + (x : Int) * (y : Int) := by rw [Int.natCast_add, Int.natCast_add, Int.natCast_mul]
     have hp1 : (x : Int) * (y : Int) ≤ 18446744065119617025 := by rw [← Int.natCast_mul]; omega
     have hp0 : 0 ≤ (x : Int) * (y : Int) := by rw [← Int.natCast_mul]; omega
     rw [e1] at hw hs
     generalize ZJ (n + z + x * y) = sv at *
     generalize Yg (n + z + x * y) = tv at *
     have R0 := R.1
     rw [Zk] at R0
     have R1 := Lib.hid R.2
     have HE := Lib.hid ez
     have hai : (a : Int) + k < (l.length : Int) + m.length := by omega
     have wak : IntKind.i64.wrap ((a : Int) + (k : Int)) = (a : Int) + k := IntWalk.i64_in _ (by omega)
     have wak2 : ((a : Int) + (k : Int)).toNat = a + k := by omega
     have wak0 : 0 ≤ (a : Int) + (k : Int) := by omega
     have wz : IntKind.u64.wrap (z : Int) = z := w64 z (by omega)
     have wy : IntKind.u64.wrap (y : Int) = y := w64 y (by omega)
     have u1 : IntKind.u64.wrap ((n : Int) + z) = (n : Int) + z := by rw [IntKind.wrap_u64]; omega
     have u2 : IntKind.u64.wrap ((x : Int) * y) = (x : Int) * y := by rw [IntKind.wrap_u64]; omega
     have u3 : IntKind.u64.wrap ((n : Int) + z + (x : Int) * y) = (n : Int) + z + (x : Int) * y := by rw [IntKind.wrap_u64]; omega
     clear R ez e1 hp
     go_wp2_with fail
     go_quiet (fail)
     go_wp2_with fail
     refine ⟨⟨k + 1, tv, zs ++ [sv], by omega, by go_num, rfl, R0, R1, Lib.hid ?_, Lib.hid ((Zu HCel.out nq).setCell (Nat.le_refl _) _)⟩, by simp [intOf]; omega⟩
     have h1 := (HC.out.drewN nq).set (a + k) sv
     rw [HE.out] at h1
     exact h1
    ·have hkl : k = m.length := by omega
     subst hkl
     have hZl := HLZ.out
     have hst := HC.out.cell (a + m.length) (by rw [len_mid (by omega) HI.out.1]; omega)
     have hfr := HC.out.frozen (a + m.length)
     have ez := set_mid (L := Z) (off := a) (k := m.length) (x := n) hZl HI.out.1
     have HI3 := HI.out.2.2
     rw [List.take_take, Nat.min_self, List.take_length] at HI3
     have MR := Zkj HI.out.1 hZl HZ.out.2.2.1 HI3
     have hlZ : (Z.take a ++ ((zs ++ [n]) ++ Z.drop (a + (m.length + 1)))).length = Z.length := by have := HI.out.1; simp; omega
     have HZ' := Lib.hid (show (Z.take a ++ ((zs ++ [n]) ++ Z.drop (a + (m.length + 1)))).length = l.length + m.length ∧ Big.Ok M32 (Z.take a ++ ((zs ++ [n]) ++ Z.drop (a + (m.length + 1)))) ∧
       (Z.take a ++ ((zs ++ [n]) ++ Z.drop (a + (m.length + 1)))).drop (a + 1 + m.length) = List.replicate ((Z.take a ++ ((zs ++ [n]) ++ Z.drop (a + (m.length + 1)))).length - (a + 1 + m.length)) 0 ∧
       Big.val M32 (Z.take a ++ ((zs ++ [n]) ++ Z.drop (a + (m.length + 1)))) = Big.val M32 (l.take (a + 1)) * Big.val M32 m from
      ⟨by rw [hlZ]; exact HZ.out.1, (HZ.out.2.1.take _).append ((HI.out.2.1.append (Big.Ok.cons (by rw [Zk]; exact hn) Big.Ok.nil)).append (HZ.out.2.1.drop _)), by rw [hlZ]; exact MR.2, by
       rw [MR.1, HZ.out.2.2.2, HXE.out, Nat.add_mul, Nat.mul_assoc, Nat.mul_comm x]⟩)
     have HE := Lib.hid ez
     have hai : (a : Int) + m.length < (l.length : Int) + m.length := by omega
     clear ez MR HI3 hlZ hZl
     go_wp2_with fail
     refine ⟨⟨a + 1, _, by omega, by go_num, HZ', Lib.hid ?_, Lib.hid (HCel.out.setCell (Nat.le_refl _) _)⟩, by simp [intOf]; omega⟩
     have h1 := HC.out.set (a + m.length) n
     rw [HE.out] at h1
     exact h1
  ·have hkl : a = l.length := by omega
   subst hkl
   have Z0 := HZ.out
   have h2 := Ym HB.out (l.length + m.length) (by omega) (by omega)
   rw [Z0.1] at h2
   have HTR := Lib.hid (trim_any _ _ _ h2)
   clear h2 Z0
   go_wp2_with fail
   refine HTR.out.mono ?_
   rintro e w' ⟨v', rfl, hv', rfl⟩
   have HV := Lib.hid hv'
   clear hv'
   go_wp2
   go_ret
   refine ⟨v', rfl, ?_, HBel.out⟩
   have := Nin.strip HV.out HZ.out.2.1
   rw [HZ.out.2.2.2, List.take_length] at this
   exact this
end R
end Go.Proofs.YtnlhjcfpfapafaaGreatDoor
