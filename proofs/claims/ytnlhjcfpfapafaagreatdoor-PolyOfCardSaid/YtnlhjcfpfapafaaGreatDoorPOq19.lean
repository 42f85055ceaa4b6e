/- Contracts. -/
import Derived.Test.YtnlhjcfpfapafaaGreatDoorPOq18
import Derived.Test.YtnlhjcfpfapafaaGreatDoorPOq17
namespace Go.Proofs.YtnlhjcfpfapafaaGreatDoor
namespace R
open Go.RowKit
theorem JK {w w' : World} {g g' : Nat} {t : TypeId} {k : IntKind} {l : List Nat} (h : Blk w g t k l) (ho : ZP g' w w') (hne : g ≠ g') : Blk w' g t k l :=
 (ho.block g h.lt (by intro e; injection e with e; exact hne e)).trans h
theorem ZmH {V : List Nat} {N D : Nat} (oV : Big.Ok M32 V) (nV : Big.Norm V) (hv : Big.val M32 V = D) (h1 : M32 ^ (N - 1) ≤ D) (h2 : D < M32 ^ N) (hN : 1 ≤ N) : V.length = N := by
 have a := Big.val_lt V oV
 rcases Nat.lt_trichotomy V.length N with h | h | h
 ·exfalso
  have : M32 ^ V.length ≤ M32 ^ (N - 1) := Nat.pow_le_pow_right M32_pos (by omega)
  omega
 ·exact h
 ·exfalso
  have h3 := Big.norm_ge (B := M32) V nV (by intro e; subst e; simp at h)
  have : M32 ^ N ≤ M32 ^ (V.length - 1) := Nat.pow_le_pow_right M32_pos (by omega)
  omega
theorem ZhQ {V : List Nat} {N : Nat} (nV : Big.Norm V) (h2 : Big.val M32 V < M32 ^ N) : V.length ≤ N := by
 rcases Nat.lt_or_ge N V.length with h | h
 ·exfalso
  have h3 := Big.norm_ge (B := M32) V nV (by intro e; subst e; simp at h)
  have : M32 ^ N ≤ M32 ^ (V.length - 1) := Nat.pow_le_pow_right M32_pos (by omega)
  omega
 ·exact h
theorem ZaQ {m : List Nat} {s sb N : Nat} (hb : JF (Big.val M32 m) sb) (h1 : sb ≤ 32 * N) (hs : 32 * N - sb = s) (hp : 0 < sb) (hN : 1 ≤ N) :
  M32 ^ (N - 1) ≤ Big.val M32 m * 2 ^ s ∧ Big.val M32 m * 2 ^ s < M32 ^ N := by
 obtain ⟨b1, b2⟩ := hb
 have b3 := b2 hp
 have e1 : M32 ^ N = 2 ^ sb * 2 ^ s := by rw [← Nat.pow_add, show sb + s = 32 * N by omega, Nat.pow_mul]; rfl
 have e2 : M32 ^ (N - 1) ≤ 2 ^ (sb - 1) * 2 ^ s := by
  rw [← Nat.pow_add, show M32 ^ (N - 1) = 2 ^ (32 * (N - 1)) by rw [Nat.pow_mul]; rfl]
  exact Nat.pow_le_pow_right (by omega) (by omega)
 rw [e1]
 exact ⟨Nat.le_trans e2 (Nat.mul_le_mul_right _ b3), Nat.mul_lt_mul_of_pos_right b1 (Nat.pow_pos (by omega))⟩
theorem Zb4 {l : List Nat} {s : Nat} (ol : Big.Ok M32 l) (hs : s ≤ 31) : Big.val M32 l * 2 ^ s < M32 ^ (l.length + 1) := by
 have h1 := Big.val_lt l ol
 have h2 : 2 ^ s ≤ M32 := by rw [e32 hs]; exact Nat.le_mul_of_pos_right _ (Nat.pow_pos (by omega))
 rw [Nat.pow_succ]
 exact Nat.lt_of_lt_of_le (Nat.mul_lt_mul_of_pos_right h1 (Nat.pow_pos (by omega))) (Nat.mul_le_mul_left _ h2)
theorem up0 (w : World) (v : Value) (l : List Nat) (n : Nat) (h : Wd w .u32 v l) (ol : Big.Ok M32 l) (hn : n ≤ 31) (hl : l.length ≤ 1000000000) :
  Calls Tryz.prog 141 #[v, .int .i64 (n : Int)] w fun e w' => ∃ v', e = .returned v' ∧ Nin w' v' (Big.val M32 l * 2 ^ n) ∧ Below w.heap.size w w' := by
 have := ZmB w v l 0 n h ol hn (by omega) hl
 rwa [Nat.mul_zero, Nat.zero_add] at this
theorem Zn5 (w : World) (v : Value) (l : List Nat) (n : Nat) (h : Wd w .u32 v l) (ol : Big.Ok M32 l) (hn : n ≤ 31) (hl : l.length ≤ 1000000000) :
  Calls Tryz.prog 145 #[v, .int .i64 (n : Int)] w fun e w' => ∃ v', e = .returned v' ∧ Nin w' v' (Big.val M32 l / 2 ^ n) ∧ Below w.heap.size w w' := by
 have := Zb2 w v l 0 n h ol hn (by omega) hl
 rwa [Nat.mul_zero, Nat.zero_add] at this
set_option maxRecDepth 100000 in
set_option maxHeartbeats 4000000 in
theorem ZhR (w : World) (v u : Value) (l m : List Nat) (N n1 n2 : Nat) (h : Wd w .u32 v l) (hu : Wd w .u32 u m) (ol : Big.Ok M32 l) (om : Big.Ok M32 m) (nl : Big.Norm l) (nm : Big.Norm m)
  (hm : m.length = N) (h1 : n1 + 1 = N) (h2 : n2 + 2 = N) (hl : l.length ≤ 100000000) (hge : Big.val M32 m ≤ Big.val M32 l) :
  Calls Tryz.prog 113 #[v, u] w (QR w (Big.val M32 l) (Big.val M32 m)) := by
 have hml : m.length ≤ l.length := Big.length_le M32_pos nm ol hge
 have CC := Lib.hid (cmp_any w v u l m h hu ol om nl nm)
 have hcv : 0 ≤ Big.cmpI (Big.val M32 l) (Big.val M32 m) := by
  unfold Big.cmpI; rw [if_neg (by omega)]; split <;> omega
 generalize Big.cmpI (Big.val M32 l) (Big.val M32 m) = cv at *
 have t0 : ¬ (cv < 0) := by omega
 have t0' : decide (cv < 0) = false := decide_eq_false t0
 have t1 : ((N : Int) == 1) = false := beq_eq_false_iff_ne.2 (by omega)
 have CB := Lib.hid (fun W (hW : Zv w W) => VM W u m (hu.drew hW) om nm (by omega))
 have CUb := Lib.hid (fun W s (hW : Zv w W) (hs : s ≤ 31) => up0 W u m s (hu.drew hW) om hs (by omega))
 have CUa := Lib.hid (fun W s (hW : Below w.heap.size w W) (hs : s ≤ 31) => up0 W v l s (h.keep hW) ol hs (by omega))
 have HM := Lib.hid (And.intro om (And.intro nm (show m ≠ [] by intro e; subst e; simp at hm; omega)))
 have HNG := Lib.hid (Big.norm_ge (B := M32) m nm (by intro e; subst e; simp at hm; omega))
 have OL := Lib.hid ol
 have HML := Lib.hid hml
 obtain ⟨A, c, rfl, -, -, -⟩ := h
 obtain ⟨A2, c2, rfl, -, -, -⟩ := hu
 rw [hm] at *
 have Hm := Lib.hid hm
 have hmk := fun W => XD (l.length + 1) (by omega) W
 rw [show ((l.length + 1 : Nat) : Int) = (l.length : Int) + 1 by omega] at hmk
 clear hge hcv ol nl om nm hm
 go_enter Tryz.func113, Tryz.ntmps113
 go_wp2_with fail
 refine CC.out.mono ?_
 rintro e w1 ⟨rfl, hd⟩
 have HD1 := Lib.hid hd
 clear hd
 go_wp2_with fail
 refine (CB.out w1 HD1.out).mono ?_
 rintro e w1' ⟨sb, rfl, hsb, hsb1, hsb2, rfl⟩
 have hsb3 := hsb2 HM.out.2.2
 obtain ⟨s, hs⟩ : ∃ s, 32 * N - sb = s := ⟨_, rfl⟩
 have es : 32 * (N : Int) - (sb : Int) = (s : Int) := by omega
 have hs31 : s ≤ 31 := by omega
 have SB := ZaQ hsb hsb1 hs (by omega) (by omega)
 have HSB := Lib.hid SB
 clear hsb hsb1 hsb2 hsb3 SB hs
 go_wp2_with fail
 refine (CUb.out w1 s HD1.out hs31).mono ?_
 rintro e w2 ⟨v2, rfl, ⟨V, hV, oV, nV, hVv⟩, hb2⟩
 obtain ⟨D, hD⟩ : ∃ D, Big.val M32 m * 2 ^ s = D := ⟨_, rfl⟩
 rw [hD] at HSB hVv
 have hVl := ZmH oV nV hVv HSB.out.1 HSB.out.2 (by omega)
 have HV := Lib.hid hV
 have HVV := Lib.hid (And.intro oV (And.intro nV (And.intro hVv hVl)))
 have HDD := Lib.hid hD
 have HB2 := Lib.hid ((HD1.out.below w.heap.size).trans (hb2.mono (by rw [HD1.out.heap]; exact Nat.le_refl _)))
 obtain ⟨A3, c3, rfl, -, -, -⟩ := hV
 rw [hVl] at HV ⊢
 clear oV nV hVv hVl hD hb2
 go_wp2_with fail
 have HA3 := Lib.hid ((Below.refl w2.heap.size w2).alloc (Nat.le_refl _) (.cells (cellsOf .u32 (List.replicate (l.length + 1) 0)) 148))
 have HBu := Lib.hid (Blk.new w2 148 .u32 (List.replicate (l.length + 1) 0))
 generalize w2.alloc (.cells (cellsOf .u32 (List.replicate (l.length + 1) 0)) 148) = w3 at *
 refine (CUa.out w3 s (HB2.out.trans (HA3.out.mono HB2.out.size)) hs31).mono ?_
 rintro e w4 ⟨v4, rfl, ⟨W, hW, oW, nW, hWv⟩, hb4⟩
 have hWl : W.length ≤ l.length + 1 := ZhQ nW (by rw [hWv]; exact Zb4 OL.out hs31)
 have HW := Lib.hid (And.intro hW (And.intro oW hWv))
 have HB4 := Lib.hid (HA3.out.trans (hb4.mono HA3.out.size))
 have HBu4 := Lib.hid (HBu.out.below hb4)
 obtain ⟨i0, hi, hz0, hz1, hz2⟩ := info_parts ZeC
 have hus : (Tryz.prog.info? 148).map (·.size) = some 1 := by rw [hi]; simp [hz1]
 clear hi hz0 hz1 hz2
 obtain ⟨A4, c4, rfl, -, -, -⟩ := hW
 clear oW nW hWv hb4 hmk
 go_wp2_with (first
  | (with_reducible refine wpList_copy_words rfl (.tmp 50) (.tmp 53) 90 90 rfl 148 Tryz.underlying90 hus w2.heap.size 148 .u32 (List.replicate (l.length + 1) 0) W (l.length + 1) (l.length + 1) A4 c4 rfl rfl HW.out.1 HBu4.out (by omega) (by simp) w2.heap.size w2 HB4.out (Nat.le_refl _) ?_))
 intro w5 hB5 hBel5
 have eR : Big.val M32 (W ++ List.replicate (l.length + 1 - W.length) 0) = Big.val M32 l * 2 ^ s := by
  rw [Big.val_append, Big.val_replicate, Nat.mul_zero, Nat.add_zero, HW.out.2.2]
 have lR : (W ++ List.replicate (l.length + 1 - W.length) 0).length = l.length + 1 := by simp; omega
 have oR : Big.Ok M32 (W ++ List.replicate (l.length + 1 - W.length) 0) := HW.out.2.1.append (fun d hd => by rw [List.eq_of_mem_replicate hd]; exact M32_pos)
 generalize W ++ List.replicate (l.length + 1 - W.length) 0 = R at *
 have HR := Lib.hid (And.intro oR (And.intro lR eR))
 have HB5 := Lib.hid hB5; have HBel5 := Lib.hid hBel5
 have HWV5 := Lib.hid ((HV.out.wdB).below hBel5)
 clear eR lR oR hB5 hBel5 HBu4 HBu HW hWl
 obtain ⟨K, hK⟩ : ∃ K, l.length + 1 - N = K := ⟨_, rfl⟩
 have eK : (l.length : Int) + 1 - (N : Int) = (K : Int) := by omega
 have hK1 : l.length + 1 ≤ K + N := by omega
 have hK2 : K + N ≤ l.length + 1 := by omega
 have hmk := fun W => XD K (by omega) W
 clear hK
 go_wp2_with fail
 have HQ6 := Lib.hid (Blk.new w5 148 .u32 (List.replicate K 0))
 have HB6 := Lib.hid (HB5.out.alloc' (.cells (cellsOf .u32 (List.replicate K 0)) 148))
 have HBel6 := Lib.hid (HBel5.out.alloc HBel5.out.size (.cells (cellsOf .u32 (List.replicate K 0)) 148))
 have HWV6 := Lib.hid (HWV5.out.below ((Below.refl w2.heap.size w5).alloc HBel5.out.size (.cells (cellsOf .u32 (List.replicate K 0)) 148)))
 have H25 := Lib.hid (HB5.out.lt)
 generalize w5.alloc (.cells (cellsOf .u32 (List.replicate K 0)) 148) = w6 at *
 have HS0 := Lib.hid (long_start (R := R) (X := Big.val M32 l) (s := s) (K := K) (n1 := n1) (lx := l.length) (D := D) (m := Big.val M32 m) HR.out.2.2 (Big.val_lt l OL.out) (by omega) (by have := HNG.out; rwa [show N - 1 = n1 by omega] at this) HDD.out (by rw [HR.out.2.1]; omega))
 clear hmk
 clear CUa CB CUb CC HA3 HB4 t0 t1 es hus
 go_loopw [13] (fun i wr => ∃ (k : Nat) (Z zs : List Nat), k ≤ K ∧ i = .int .i64 ((k : Int) - 1) ∧
   Hid (Big.Ok M32 Z ∧ Z.length = l.length + 1 ∧ Z.take k = R.take k ∧ Big.val M32 (R.drop k) = Big.val M32 zs * D + Big.val M32 (Z.drop k) ∧ Big.val M32 (Z.drop k) < D ∧ zs.length = K - k ∧ Big.Ok M32 zs) ∧
   Hid (Blk wr w2.heap.size 148 .u32 Z) ∧ Hid (Blk wr w5.heap.size 148 .u32 (List.replicate k 0 ++ zs)) ∧ Hid (WdB w2.heap.size wr .u32 (.slice A3 N c3) V) ∧ Hid (Below w2.heap.size w2 wr))
  (fun i _ => (intOf i + 1).toNat)
 case atStart => exact ⟨K, R, [], by omega, by congr 1, Lib.hid ⟨HR.out.1, HR.out.2.1, rfl, by simp [Big.val], HS0.out, by simp, Big.Ok.nil⟩, HB6, Lib.hid (by simpa using HQ6.out), HWV6, HBel6⟩
 case round =>
  obtain ⟨k, Z, zs, hk, rfl, HZ, HBZ, HBz, HWD, HBel⟩ := hrel
  rcases Nat.eq_zero_or_pos k with rfl | hp
  ·have Z' := HZ.out
   have hv := Z'.2.2.2.1
   rw [List.drop_zero, List.drop_zero] at hv
   have hlt := Z'.2.2.2.2.1
   rw [List.drop_zero] at hlt
   have hmp : 0 < Big.val M32 m := Nat.lt_of_lt_of_le (Nat.pow_pos M32_pos) HNG.out
   have E := long_end HR.out.2.2 HDD.out hmp hv hlt
   have HE := Lib.hid E
   have hzK : zs.length = K := by have := Z'.2.2.2.2.2.1; omega
   have hB3 := HBz.out
   rw [List.replicate_zero, List.nil_append] at hB3
   have w1 := Ym hB3 K (by omega) (by omega)
   rw [hzK] at w1
   have w2' := Ym HBZ.out (l.length + 1) (by rw [Z'.2.1]; exact Nat.le_refl _) (by omega)
   rw [Z'.2.1] at w2'
   have HT1 := Lib.hid (trim_any _ _ _ w1)
   have HT2 := Lib.hid (trim_any _ _ _ w2')
   have HST := Lib.hid (show (Big.strip Z).length ≤ 1000000000 by have := Big.strip_len Z; have := Z'.2.1; omega)
   clear Z' hv hlt E hzK hB3 w1 w2' hmp
   go_wp2_with fail
   refine HT1.out.mono ?_
   rintro e w7 ⟨q', rfl, hq', rfl⟩
   have HQ' := Lib.hid hq'
   clear hq'
   go_wp2_with fail
   with_reducible refine HT2.out.mono ?_
   rintro e w7 ⟨u', rfl, hu', rfl⟩
   have HU' := Lib.hid (Zn5 wr u' (Big.strip Z) s hu' (Big.strip_ok HZ.out.1) hs31 HST.out)
   clear hu'
   go_wp2_with fail
   refine HU'.out.mono ?_
   rintro e w8 ⟨r', rfl, hr', hb8⟩
   have HR' := Lib.hid hr'; have HB8 := Lib.hid hb8
   clear hr' hb8
   go_wp2
   go_ret2
   refine ⟨q', r', rfl, ?_, ?_, ?_⟩
   ·have := Nin.strip HQ'.out HZ.out.2.2.2.2.2.2
    rw [HE.out.1] at this
    exact this.keep HB8.out
   ·have := HR'.out
    rw [Big.strip_val, HE.out.2] at this
    exact this
   ·exact HB2.out.trans ((HBel.out.mono HB2.out.size).trans (HB8.out.mono (Nat.le_trans HB2.out.size HBel.out.size)))
  ·obtain ⟨j, rfl⟩ : ∃ j, k = j + 1 := ⟨k - 1, by omega⟩
   rw [show (((j + 1 : Nat) : Int) - 1) = (j : Int) by omega]
   have Z' := HZ.out
   have hj1 : j + N + 1 ≤ Z.length := by rw [Z'.2.1]; omega
   have S1 := long_step (R := R) (Z := Z) (zs := zs) (zs' := zs) (d := 0) (i := j) (N := N) (D := D) Z'.1 (by rw [Z'.2.1, HR.out.2.1]) hj1 HSB.out.2 Z'.2.2.1 Z'.2.2.2.1 Z'.2.2.2.2.1
   have S2 := S1.1
   rw [← HVV.out.2.2.1] at S2
   have oX : Big.Ok M32 ((Z.drop j).take (N + 1)) := (Z'.1.drop _).take _
   have lX : ((Z.drop j).take (N + 1)).length = N + 1 := by rw [List.length_take, List.length_drop]; omega
   have htop : 0 < Big.nth V n1 := top_pos HVV.out.1 (by rw [HVV.out.2.2.2]; omega) (by have := HSB.out.1; rw [← HVV.out.2.2.1] at this; rwa [show N - 1 = n1 by omega] at this)
   have GB := ZhN oX HVV.out.1 lX HVV.out.2.2.2 h1 h2 htop S2
   have c0 := HBZ.out.cell (j + N) (by omega)
   have c1 := HBZ.out.cell (j + n1) (by omega)
   have c2' := HBZ.out.cell (j + n2) (by omega)
   rw [← nth_drop_take Z j (N + 1) N (by omega)] at c0
   rw [← nth_drop_take Z j (N + 1) n1 (by omega)] at c1
   rw [← nth_drop_take Z j (N + 1) n2 (by omega)] at c2'
   obtain ⟨A', c', e, y1, y2, y3⟩ := HWD.out
   injection e with e1 e2 e3
   subst e1; subst e3; clear e2
   obtain ⟨b, o, rfl, hblt, hcc, -⟩ := y3 (by rw [HVV.out.2.2.2]; omega)
   have d1 := hcc n1 (by rw [HVV.out.2.2.2]; omega)
   have d2 := hcc n2 (by rw [HVV.out.2.2.2]; omega)
   have x1M := oX.nth M32_pos n1
   have x2M := oX.nth M32_pos n2
   have y1M := HVV.out.1.nth M32_pos n1
   have y2M := HVV.out.1.nth M32_pos n2
   generalize Big.nth ((Z.drop j).take (N + 1)) N = X0 at *
   generalize Big.nth ((Z.drop j).take (N + 1)) n1 = X1 at *
   generalize Big.nth ((Z.drop j).take (N + 1)) n2 = X2 at *
   generalize Big.nth V n1 = Y1 at *
   generalize Big.nth V n2 = Y2 at *
   have CG := Lib.hid (fun W => Zdv W X0 X1 X2 Y1 Y2 GB.1 x1M x2M y1M htop y2M)
   have hgM := ZhM X0 X1 X2 Y1 Y2
   generalize gq X0 X1 X2 Y1 Y2 = g at *
   have HGB := Lib.hid GB
   have HS1 := Lib.hid S1
   have HOX := Lib.hid (And.intro oX lX)
   have hS1 := S1
   have q1 : (j : Int) + N < (l.length : Int) + 1 := by omega
   have i1 : (j : Int) + N - 1 = ((j + n1 : Nat) : Int) := by omega
   have i2 : (j : Int) + N - 2 = ((j + n2 : Nat) : Int) := by omega
   have i3 : (N : Int) - 1 = (n1 : Int) := by omega
   have i4 : (N : Int) - 2 = (n2 : Int) := by omega
   have wa : IntKind.i64.wrap ((j : Int) + (N : Int)) = (j : Int) + N := IntWalk.i64_in _ (by omega)
   have wa1 : IntKind.i64.wrap ((j : Int) + (N : Int) - 1) = ((j + n1 : Nat) : Int) := by rw [i1]; exact IntWalk.i64_in _ (by omega)
   have wa2 : IntKind.i64.wrap ((j : Int) + (N : Int) - 2) = ((j + n2 : Nat) : Int) := by rw [i2]; exact IntWalk.i64_in _ (by omega)
   have wa3 : IntKind.i64.wrap ((N : Int) - 1) = (n1 : Int) := by rw [i3]; exact IntWalk.i64_in _ (by omega)
   have wa4 : IntKind.i64.wrap ((N : Int) - 2) = (n2 : Int) := by rw [i4]; exact IntWalk.i64_in _ (by omega)
   have p0 : 0 ≤ (j : Int) + (N : Int) := by omega
   have p1 : ((j : Int) + (N : Int)).toNat = j + N := by omega
   have r1 : ((j + n1 : Nat) : Int) < (l.length : Int) + 1 := by omega
   have r2 : ((j + n2 : Nat) : Int) < (l.length : Int) + 1 := by omega
   have r3 : (n1 : Int) < (N : Int) := by omega
   have r4 : (n2 : Int) < (N : Int) := by omega
   clear hS1 S1 S2 oX lX GB hcc y3 Z' i1 i2 i3 i4 htop
   go_wp2_with fail
   go_quiet ((go_at_call 142; exact Zc4 (CG.out _)))
   have HBd := Lib.hid (HBZ.out.drewN nq)
   have HBzd := Lib.hid (HBz.out.drewN nq)
   have HWDd := Lib.hid (HWD.out.keep (w' := wr.drewN nq) fun _ _ => rfl)
   have HBeld := Lib.hid (Zu HBel.out nq)
   generalize wr.drewN nq = wd at *
   have hgn : g < 4294967296 := by rw [← Zk]; exact hgM
   have HG := Lib.hid hgM
   have HWZ := Lib.hid (And.intro hj1 hk)
   have HNE := Lib.hid (show w2.heap.size ≠ w5.heap.size from Nat.ne_of_lt H25.out)
   clear CG wa wa1 wa2 wa3 wa4 p0 p1 r1 r2 r3 r4 x1M x2M y1M y2M c0 c1 c2' d1 d2 q1 HBZ HBz HWD HBel hgM
   have hkj : j < K := by omega
   rcases Nat.eq_zero_or_pos g with hg0 | hgp
   ·subst hg0
    have hdz : 0 = Big.val M32 ((Z.drop j).take (N + 1)) / D := by have := HGB.out.2.1; rw [HVV.out.2.2.1] at this; exact (Nat.le_zero.1 this).symm
    have hmz : Big.val M32 ((Z.drop j).take (N + 1)) = Big.val M32 ((Z.drop j).take (N + 1)) % D := by
     have := Nat.div_add_mod (Big.val M32 ((Z.drop j).take (N + 1))) D
     rw [← hdz, Nat.mul_zero, Nat.zero_add] at this
     exact this.symm
    have hD0 : 0 < D := Nat.lt_of_lt_of_le (Nat.pow_pos M32_pos) HSB.out.1
    have LN := long_next (Z := Z) (zs := zs) (zs' := (Z.drop j).take (N + 1)) (i := j) (N := N) (D := D) (d := 0) hj1 HOX.out.2 HS1.out.2.1 hD0 hdz hmz HS1.out.2.2
    have eZ : Z.take j ++ ((Z.drop j).take (N + 1) ++ Z.drop (j + (N + 1))) = Z := by
     rw [← List.drop_drop, List.take_append_drop, List.take_append_drop]
    rw [eZ] at LN
    have HZ2 := Lib.hid (show Big.Ok M32 Z ∧ Z.length = l.length + 1 ∧ Z.take j = R.take j ∧ Big.val M32 (R.drop j) = Big.val M32 (0 :: zs) * D + Big.val M32 (Z.drop j) ∧ Big.val M32 (Z.drop j) < D ∧ (0 :: zs).length = K - j ∧ Big.Ok M32 (0 :: zs) from
     ⟨HZ.out.1, HZ.out.2.1, by
      have := congrArg (List.take j) HZ.out.2.2.1
      rwa [List.take_take, List.take_take, Nat.min_eq_left (by omega)] at this, LN.1, LN.2, by have := HZ.out.2.2.2.2.2.1; simp; omega, Big.Ok.cons M32_pos HZ.out.2.2.2.2.2.2⟩)
    have HBq := Lib.hid (show Blk wd w5.heap.size 148 .u32 (List.replicate j 0 ++ 0 :: zs) by
     have := HBzd.out
     rw [List.replicate_succ', List.append_assoc] at this
     exact this)
    clear hdz hmz LN eZ hD0
    go_wp2_with fail
    go_roundw
    case rel => exact ⟨j, Z, 0 :: zs, by omega, by go_num, HZ2, HBd, HBq, HWDd, HBeld⟩
    case measure => simp [intOf]
   ·have tg : ((g : Int) == 0) = false := beq_eq_false_iff_ne.2 (by omega)
    have CL := ZhK wd w2.heap.size j g (l.length + 1) Z V (.slice (some ⟨b, o, none⟩) N c3) HBd.out (by rw [HVV.out.2.2.2]; omega) (by have := HZ.out.2.1; omega) HZ.out.1 HWDd.out HVV.out.1 HG.out
    rw [HZ.out.2.1, HVV.out.2.2.2, HVV.out.2.2.1] at CL
    have HCL := Lib.hid CL
    clear CL
    go_wp2_with fail
    refine HCL.out.mono ?_
    rintro e w7 ⟨lq, zn, rfl, hlq, hzl, hzo, hzv, hzb, hzw⟩
    have hD0 : 0 < D := Nat.lt_of_lt_of_le (Nat.pow_pos M32_pos) HSB.out.1
    rcases Nat.eq_zero_or_pos lq with h0 | h0
    ·subst h0
     rw [Nat.mul_zero, Nat.add_zero] at hzv
     have T := ZoO (P := 0) hzv (by have := HGB.out.2.1; rwa [HVV.out.2.2.1] at this) hD0
     have LN := long_next (Z := Z) (zs := zs) (zs' := zn) (i := j) (N := N) (D := D) (d := g) hj1 hzl HS1.out.2.1 hD0 T.1 T.2 HS1.out.2.2
     have hB3 := JK HBzd.out hzw (fun e => HNE.out e.symm)
     have hst := hB3.cell j (by simp; omega)
     have hfr := hB3.frozen j
     have HB3 := Lib.hid (hB3.set j g)
     have HZ2 := Lib.hid (show Big.Ok M32 (Z.take j ++ (zn ++ Z.drop (j + (N + 1)))) ∧ (Z.take j ++ (zn ++ Z.drop (j + (N + 1)))).length = l.length + 1 ∧ (Z.take j ++ (zn ++ Z.drop (j + (N + 1)))).take j = R.take j ∧
       Big.val M32 (R.drop j) = Big.val M32 (g :: zs) * D + Big.val M32 ((Z.take j ++ (zn ++ Z.drop (j + (N + 1)))).drop j) ∧ Big.val M32 ((Z.take j ++ (zn ++ Z.drop (j + (N + 1)))).drop j) < D ∧ (g :: zs).length = K - j ∧ Big.Ok M32 (g :: zs) from
      ⟨(HZ.out.1.take _).append (hzo.append (HZ.out.1.drop _)), by rw [← HZ.out.2.1]; simp [hzl]; omega, by
        rw [mid_take (by omega)]
        have := congrArg (List.take j) HZ.out.2.2.1
        rwa [List.take_take, List.take_take, Nat.min_eq_left (by omega)] at this, LN.1, LN.2, by have := HZ.out.2.2.2.2.2.1; simp; omega, Big.Ok.cons HG.out HZ.out.2.2.2.2.2.2⟩)
     have HB7 := Lib.hid hzb
     have HWD7 := Lib.hid (JE hzw (Nat.le_refl _) (Nat.le_of_lt HBd.out.lt) HWDd.out)
     have HBel7 := Lib.hid (hzw.below HBeld.out (Nat.le_refl _) HBeld.out.size)
     clear hzl hzo hzv hzb hzw T LN hB3 hlq hD0
     go_wp2_with fail
     go_roundw
     case rel =>
      refine ⟨j, _, g :: zs, by omega, by go_num, HZ2, Lib.hid (HB7.out.far (p := ⟨w5.heap.size, j, none⟩) HNE.out _), Lib.hid ?_, Lib.hid (HWD7.out.keep fun b hb => ?_), Lib.hid (HBel7.out.setCell (Nat.le_of_lt H25.out) _)⟩
      ·have h1 := HB3.out
       have h2 : (List.replicate (j + 1) 0 ++ zs).set j g = List.replicate j 0 ++ g :: zs := by
        rw [List.replicate_succ', List.append_assoc, VI (List.replicate j 0) _ j g (by simp)]; simp
       rw [h2] at h1
       exact h1
      ·exact heap_setCell_other _ _ b _ (by show b ≠ w5.heap.size; have := H25.out; omega)
     case measure => simp [intOf]
    ·obtain rfl : lq = 1 := by omega
     rw [Nat.mul_one] at hzv
     have hzP := Big.val_lt zn hzo
     rw [hzl] at hzP
     have hlen : (Z.take j ++ (zn ++ Z.drop (j + (N + 1)))).length = l.length + 1 := by rw [← HZ.out.2.1]; simp [hzl]; omega
     have hok : Big.Ok M32 (Z.take j ++ (zn ++ Z.drop (j + (N + 1)))) := (HZ.out.1.take _).append (hzo.append (HZ.out.1.drop _))
     have hmid : ((Z.take j ++ (zn ++ Z.drop (j + (N + 1)))).drop j).take (N + 1) = zn := mid_mid (by omega) hzl
     have hWD7 := JE hzw (Nat.le_refl _) (Nat.le_of_lt HBd.out.lt) HWDd.out
     have CM := ZhL w7 w2.heap.size j (l.length + 1) _ V (.slice (some ⟨b, o, none⟩) N c3) hzb (by rw [HVV.out.2.2.2, hlen]; omega) (by rw [hlen]; omega) hok hWD7 HVV.out.1
     rw [hlen, HVV.out.2.2.2, HVV.out.2.2.1, hmid] at CM
     have HCM := Lib.hid CM
     have HP7 := Lib.hid (And.intro hzv (And.intro hzP (And.intro hzl hzw)))
     have hB7 := JK HBzd.out hzw (fun e => HNE.out e.symm)
     have HQ7 := Lib.hid hB7
     have HWD7 := Lib.hid hWD7
     have HB7 := Lib.hid hzb
     have g1 : (1 : Int) ≤ (g : Int) := by omega
     have g2 : (g : Int) - 1 = ((g - 1 : Nat) : Int) := by omega
     have g3 : g - 1 < 4294967296 := by omega
     obtain ⟨g', hg'⟩ : ∃ g', g - 1 = g' := ⟨_, rfl⟩
     rw [hg'] at g2 g3
     have HG' := Lib.hid hg'
     clear CM hzv hzP hlen hok hmid hWD7 hzl hzo hzb hzw hB7 hg' hlq
     go_wp2_with fail
     refine HCM.out.mono ?_
     rintro e w8 ⟨lm, zm, rfl, hlm, hml, hmo, hmv, hmb, hmw⟩
     have hmP := Big.val_lt zm hmo
     rw [hml] at hmP
     have hDP : D ≤ M32 ^ (N + 1) := Nat.le_trans (Nat.le_of_lt HSB.out.2) (Nat.pow_le_pow_right M32_pos (by omega))
     have T := ZfM HP7.out.1 HP7.out.2.1 (by have := HGB.out.2.2; rwa [HVV.out.2.2.1] at this) hD0 hDP hmv hmP hlm
     rw [HG'.out] at T
     have eb : (Z.take j ++ (zn ++ Z.drop (j + (N + 1)))).take j ++ (zm ++ (Z.take j ++ (zn ++ Z.drop (j + (N + 1)))).drop (j + (N + 1))) = Z.take j ++ (zm ++ Z.drop (j + (N + 1))) := by
      rw [mid_take (by omega), mid_drop (by omega) HP7.out.2.2.1]
     rw [eb] at hmb
     have LN := long_next (Z := Z) (zs := zs) (zs' := zm) (i := j) (N := N) (D := D) (d := g') hj1 hml HS1.out.2.1 hD0 T.2.1 T.2.2 HS1.out.2.2
     have hB3 := JK HQ7.out hmw (fun e => HNE.out e.symm)
     have hst := hB3.cell j (by simp; omega)
     have hfr := hB3.frozen j
     have HB3 := Lib.hid (hB3.set j g')
     have HZ2 := Lib.hid (show Big.Ok M32 (Z.take j ++ (zm ++ Z.drop (j + (N + 1)))) ∧ (Z.take j ++ (zm ++ Z.drop (j + (N + 1)))).length = l.length + 1 ∧ (Z.take j ++ (zm ++ Z.drop (j + (N + 1)))).take j = R.take j ∧
       Big.val M32 (R.drop j) = Big.val M32 (g' :: zs) * D + Big.val M32 ((Z.take j ++ (zm ++ Z.drop (j + (N + 1)))).drop j) ∧ Big.val M32 ((Z.take j ++ (zm ++ Z.drop (j + (N + 1)))).drop j) < D ∧ (g' :: zs).length = K - j ∧ Big.Ok M32 (g' :: zs) from
      ⟨(HZ.out.1.take _).append (hmo.append (HZ.out.1.drop _)), by rw [← HZ.out.2.1]; simp [hml]; omega, by
        rw [mid_take (by omega)]
        have := congrArg (List.take j) HZ.out.2.2.1
        rwa [List.take_take, List.take_take, Nat.min_eq_left (by omega)] at this, LN.1, LN.2, by have := HZ.out.2.2.2.2.2.1; simp; omega, Big.Ok.cons (by rw [Zk]; exact g3) HZ.out.2.2.2.2.2.2⟩)
     have HB8 := Lib.hid hmb
     have HWD8 := Lib.hid (JE hmw (Nat.le_refl _) (Nat.le_trans (Nat.le_of_lt HBd.out.lt) HP7.out.2.2.2.size) HWD7.out)
     have HBel8 := Lib.hid (hmw.below (HP7.out.2.2.2.below HBeld.out (Nat.le_refl _) HBeld.out.size) (Nat.le_refl _) (Nat.le_trans HBeld.out.size HP7.out.2.2.2.size))
     clear hml hmo hmv hmb hmw hmP hDP T eb LN hB3 hlm hD0 HCM HP7
     go_wp2_with fail
     go_roundw
     case rel =>
      refine ⟨j, _, g' :: zs, by omega, by go_num, HZ2, Lib.hid (HB8.out.far (p := ⟨w5.heap.size, j, none⟩) HNE.out _), Lib.hid ?_, Lib.hid (HWD8.out.keep fun b hb => ?_), Lib.hid (HBel8.out.setCell (Nat.le_of_lt H25.out) _)⟩
      ·have h1 := HB3.out
       have h2 : (List.replicate (j + 1) 0 ++ zs).set j g' = List.replicate j 0 ++ g' :: zs := by
        rw [List.replicate_succ', List.append_assoc, VI (List.replicate j 0) _ j g' (by simp)]; simp
       rw [h2] at h1
       exact h1
      ·exact heap_setCell_other _ _ b _ (by show b ≠ w5.heap.size; have := H25.out; omega)
     case measure => simp [intOf]
theorem Ww (w : World) (v u : Value) (l m : List Nat) (h : Wd w .u32 v l) (hu : Wd w .u32 u m) (ol : Big.Ok M32 l) (om : Big.Ok M32 m) (nl : Big.Norm l) (nm : Big.Norm m) (hm : m ≠ []) (hl : l.length ≤ 100000000) :
  Calls Tryz.prog 113 #[v, u] w (QR w (Big.val M32 l) (Big.val M32 m)) := by
 rcases Nat.lt_or_ge (Big.val M32 l) (Big.val M32 m) with h1 | h1
 ·exact ZhO w v u l m h hu ol om nl nm h1
 ·match m, hm, hu, om, nm, h1 with
  | [y], _, hu, om, nm, h1 =>
   have hy : 0 < y := by
    rcases Nat.eq_zero_or_pos y with e | e
    ·subst e; simp [Big.Norm] at nm
    ·exact e
   have e : Big.val M32 [y] = y := by simp [Big.val]
   rw [e] at h1 ⊢
   exact ZhP w v u l y h hu ol (om y (by simp)) hy nl (by omega) h1
  | a :: b :: m, _, hu, om, nm, h1 => exact ZhR w v u l (a :: b :: m) (m.length + 2) (m.length + 1) m.length h hu ol om nl nm (by simp) rfl rfl hl h1
end R
end Go.Proofs.YtnlhjcfpfapafaaGreatDoor
namespace Go.Proofs.YtnlhjcfpfapafaaGreatDoor
namespace R
open Go.RowKit
theorem XQ {w : World} {v : Value} {n N : Nat} (h : Nin w v n) (hn : n < M32 ^ N) : ∃ l, Wd w .u32 v l ∧ Big.Ok M32 l ∧ Big.Norm l ∧ Big.val M32 l = n ∧ l.length ≤ N := by
 obtain ⟨l, h1, h2, h3, rfl⟩ := h
 exact ⟨l, h1, h2, h3, rfl, ZhQ h3 hn⟩
theorem ZeG (w : World) (v u : Value) (a b N : Nat) (h : Nin w v a) (k : Nin w u b) (hab : b ≤ a) (ha : a < M32 ^ N) (hN : N ≤ 1000000000) :
  Calls Tryz.prog 127 #[v, u] w fun e w' => ∃ v', e = .returned v' ∧ Nin w' v' (a - b) ∧ Below w.heap.size w w' := by
 obtain ⟨l, h1, h2, h3, rfl, h5⟩ := XQ h ha
 obtain ⟨m, k1, k2, k3, rfl⟩ := k
 exact Uf w v u l m h1 k1 h2 k2 (by omega) hab (Big.length_le M32_pos k3 h2 hab)
set_option maxRecDepth 100000 in
set_option maxHeartbeats 1000000 in
theorem Vn (w : World) (v u : Value) (l m : List Nat) (P Q d : Nat) (t : Bool) (p q : Int) (h : Wd w .u32 v l) (hu : Wd w .u32 u m) (ol : Big.Ok M32 l) (om : Big.Ok M32 m) (hl : l.length ≤ 100000000) (hm : m.length ≤ 100000000)
  (hp : p = sg t P) (hq : q = sg (!t) Q) (hP : P < 2147483648) (hQ : Q < 2147483648) (hQ1 : 1 ≤ Q)
  (h0 : t = false → P * Big.val M32 l = Q * Big.val M32 m + d) (h1 : t = true → Q * Big.val M32 m = P * Big.val M32 l + d) :
  Calls Tryz.prog 138 #[v, u, .int .i64 p, .int .i64 q] w fun e w' => ∃ v', e = .returned v' ∧ Nin w' v' d ∧ Below w.heap.size w w' := by
 have HBL := Lib.hid (show ∀ x, x < 4294967296 → Big.val M32 l * x + 0 < M32 ^ (l.length + 1) from fun x hx => by
  rw [Nat.add_zero, Nat.pow_succ]
  exact Nat.lt_of_lt_of_le (Nat.mul_lt_mul_of_lt_of_le (Big.val_lt l ol) (Nat.le_of_lt (show x < M32 by rw [Zk]; exact hx)) (by unfold M32; omega)) (Nat.le_refl _))
 have HBM := Lib.hid (show ∀ x, x < 4294967296 → Big.val M32 m * x + 0 < M32 ^ (m.length + 1) from fun x hx => by
  rw [Nat.add_zero, Nat.pow_succ]
  exact Nat.lt_of_lt_of_le (Nat.mul_lt_mul_of_lt_of_le (Big.val_lt m om) (Nat.le_of_lt (show x < M32 by rw [Zk]; exact hx)) (by unfold M32; omega)) (Nat.le_refl _))
 have CL := Lib.hid (fun W x (hW : Below w.heap.size w W) (hx : x < 4294967296) => Qv W v l x 0 (h.keep hW) ol (by rw [Zk]; exact hx) (by rw [Zk]; omega) (by omega))
 have CM := Lib.hid (fun W x (hW : Below w.heap.size w W) (hx : x < 4294967296) => Qv W u m x 0 (hu.keep hW) om (by rw [Zk]; exact hx) (by rw [Zk]; omega) (by omega))
 generalize Big.val M32 l = A at *
 generalize Big.val M32 m = B at *
 obtain ⟨a1, c1, rfl, -, -, -⟩ := h
 obtain ⟨a2, c2, rfl, -, -, -⟩ := hu
 have wP : IntKind.u32.wrap (P : Int) = (P : Int) := by rw [IntKind.wrap_u32]; omega
 have wQ : IntKind.u32.wrap (Q : Int) = (Q : Int) := by rw [IntKind.wrap_u32]; omega
 cases t with
 | false =>
  have hd := h0 rfl
  have ep : p = (P : Int) := hp
  have eq : q = -(Q : Int) := hq
  have tq : q ≤ 0 := by omega
  have en : -q = (Q : Int) := by omega
  have H0 := Lib.hid hd
  subst ep
  clear h0 h1 hp hq hd eq ol om
  go_enter Tryz.func138, Tryz.ntmps138
  go_wp2_with fail
  refine (CL.out w P (Below.refl _ _) (by omega)).mono ?_
  rintro e w1 ⟨v1, rfl, hv1, hb1⟩
  have HV1 := Lib.hid hv1; have HB1 := Lib.hid hb1
  clear hv1 hb1
  go_wp2_with fail
  refine (CM.out w1 Q HB1.out (by omega)).mono ?_
  rintro e w2 ⟨v2, rfl, hv2, hb2⟩
  have HS := Lib.hid (ZeG w2 v1 v2 (A * P + 0) (B * Q + 0) (l.length + 1) (HV1.out.keep hb2) hv2 (by have := H0.out; rw [Nat.mul_comm P A, Nat.mul_comm Q B] at this; omega) (HBL.out P (by omega)) (by omega))
  have HB2 := Lib.hid (HB1.out.trans (hb2.mono HB1.out.size))
  clear hv2 hb2
  go_wp2_with fail
  refine HS.out.mono ?_
  rintro e w3 ⟨v3, rfl, hv3, hb3⟩
  have HV3 := Lib.hid hv3; have HB3 := Lib.hid (HB2.out.trans (hb3.mono HB2.out.size))
  clear hv3 hb3
  go_wp2
  go_ret
  refine ⟨v3, rfl, ?_, HB3.out⟩
  have := HV3.out
  have h := H0.out
  rw [Nat.mul_comm P A, Nat.mul_comm Q B] at h
  rwa [show A * P + 0 - (B * Q + 0) = d by omega] at this
 | true =>
  have hd := h1 rfl
  have ep : p = -(P : Int) := hp
  have eq : q = (Q : Int) := hq
  have tq : ¬ (q ≤ 0) := by omega
  have en : -p = (P : Int) := by omega
  have H0 := Lib.hid hd
  subst eq
  clear h0 h1 hp hq hd ep ol om
  go_enter Tryz.func138, Tryz.ntmps138
  go_wp2_with fail
  refine (CM.out w Q (Below.refl _ _) (by omega)).mono ?_
  rintro e w1 ⟨v1, rfl, hv1, hb1⟩
  have HV1 := Lib.hid hv1; have HB1 := Lib.hid hb1
  clear hv1 hb1
  go_wp2_with fail
  refine (CL.out w1 P HB1.out (by omega)).mono ?_
  rintro e w2 ⟨v2, rfl, hv2, hb2⟩
  have HS := Lib.hid (ZeG w2 v1 v2 (B * Q + 0) (A * P + 0) (m.length + 1) (HV1.out.keep hb2) hv2 (by have := H0.out; rw [Nat.mul_comm P A, Nat.mul_comm Q B] at this; omega) (HBM.out Q (by omega)) (by omega))
  have HB2 := Lib.hid (HB1.out.trans (hb2.mono HB1.out.size))
  clear hv2 hb2
  go_wp2_with fail
  refine HS.out.mono ?_
  rintro e w3 ⟨v3, rfl, hv3, hb3⟩
  have HV3 := Lib.hid hv3; have HB3 := Lib.hid (HB2.out.trans (hb3.mono HB2.out.size))
  clear hv3 hb3
  go_wp2
  go_ret
  refine ⟨v3, rfl, ?_, HB3.out⟩
  have := HV3.out
  have h := H0.out
  rw [Nat.mul_comm P A, Nat.mul_comm Q B] at h
  rwa [show B * Q + 0 - (A * P + 0) = d by omega] at this
def wordAt (w : World) (p : Addr) (i : Nat) : Nat := match w.cell? ⟨p.block, p.off + i, none⟩ with | some v => (intOf v).toNat | none => 0
def numAt (w : World) : Value → Nat
 | .slice (some p) k _ => Big.val M32 ((List.range k).map (wordAt w p))
 | _ => 0
theorem Wa {w : World} {v : Value} {l : List Nat} (h : Wd w .u32 v l) : numAt w v = Big.val M32 l := by
 obtain ⟨A, c, rfl, h1, h2, h3⟩ := h
 rcases Nat.eq_zero_or_pos l.length with h0 | h0
 ·obtain rfl := List.eq_nil_of_length_eq_zero h0
  cases A <;> rfl
 ·obtain ⟨b, o, rfl, hlt, hc, -⟩ := h3 h0
  have e : (List.range l.length).map (wordAt w ⟨b, o, none⟩) = l := by
   apply List.ext_getElem
   ·simp
   ·intro i hi1 hi2
    have hc2 := hc i hi2
    simp only [List.getElem_map, List.getElem_range, wordAt, hc2, intOf]
    unfold Big.nth
    rw [List.getD_eq_getElem?_getD, List.getElem?_eq_getElem hi2]
    rfl
  show Big.val M32 ((List.range l.length).map (wordAt w ⟨b, o, none⟩)) = _
  rw [e]
end R
end Go.Proofs.YtnlhjcfpfapafaaGreatDoor
namespace Go.Proofs.YtnlhjcfpfapafaaGreatDoor
namespace R
open Go.RowKit
structure Pr (w : World) (va vb : Value) (la lb : List Nat) : Prop where
 a : Wd w .u32 va la
 b : Wd w .u32 vb lb
 oa : Big.Ok M32 la
 ob : Big.Ok M32 lb
 na : Big.Norm la
 nb : Big.Norm lb
 sa : la.length ≤ 100000000
 sb : lb.length ≤ 100000000
 le : Big.val M32 lb ≤ Big.val M32 la
theorem Pr.len {w : World} {va vb : Value} {la lb : List Nat} (h : Pr w va vb la lb) : lb.length ≤ la.length := Big.length_le M32_pos h.nb h.oa h.le
set_option maxRecDepth 100000 in
set_option maxHeartbeats 400000 in
theorem Zb5 (w : World) (v u : Value) (swap : Bool) (l m : List Nat) (P : Pr w v u l m) (hs : swap = true → Big.val M32 m < Big.val M32 l) :
  Calls Tryz.prog 110 (if swap then #[u, v] else #[v, u]) w fun e w' => ∃ v', e = .returned v' ∧ Nin w' v' (Nat.gcd (Big.val M32 l) (Big.val M32 m)) ∧ Below w.heap.size w w' := by
 have HP := Lib.hid P
 obtain ⟨G, hG⟩ : ∃ G, Nat.gcd (Big.val M32 l) (Big.val M32 m) = G := ⟨_, rfl⟩
 rw [hG]
 have HG := Lib.hid hG
 clear hG
 have main : ∀ (cv : Int) (x y : Value), True := fun _ _ _ => trivial
 cases swap with
 | false =>
  have CC := Lib.hid (cmp_any w v u l m P.a P.b P.oa P.ob P.na P.nb)
  have hcv : 0 ≤ Big.cmpI (Big.val M32 l) (Big.val M32 m) := by
   have := P.le
   unfold Big.cmpI; rw [if_neg (by omega)]; split <;> omega
  generalize Big.cmpI (Big.val M32 l) (Big.val M32 m) = cv at *
  have t0 : ¬ (cv < 0) := by omega
  have t1 : decide (cv < 0) = false := decide_eq_false t0
  clear P hcv hs main
  simp only [Bool.false_eq_true, if_false]
  go_enter Tryz.func110, Tryz.ntmps110
  go_wp2_with fail
  refine CC.out.mono ?_
  rintro e w1 ⟨rfl, hd⟩
  have HB1 := Lib.hid (hd.below w.heap.size)
  clear hd CC
  go_wp2_with fail
  go_loopw [0, 1] (fun va vb wr => ∃ la lb : List Nat, Hid (Pr wr va vb la lb) ∧ Hid (Nat.gcd (Big.val M32 la) (Big.val M32 lb) = G) ∧ Hid (Below w.heap.size w wr)) (fun _ vb wr => numAt wr vb)
  case atStart => exact ⟨l, m, Lib.hid ⟨HP.out.a.keep HB1.out, HP.out.b.keep HB1.out, HP.out.oa, HP.out.ob, HP.out.na, HP.out.nb, HP.out.sa, HP.out.sb, HP.out.le⟩, HG, HB1⟩
  case round =>
   obtain ⟨la, lb, HPr, HGr, HBr⟩ := hrel
   have hnb := Wa HPr.out.b
   have CS := fun h2 => KY wr _ _ la lb HPr.out.a HPr.out.b HPr.out.oa HPr.out.ob HPr.out.na h2 HPr.out.sa HPr.out.sb HPr.out.le
   obtain ⟨a1, c1, rfl, ka1, ka2, -⟩ := HPr.out.a
   obtain ⟨a2, c2, rfl, kb1, kb2, kb3⟩ := HPr.out.b
   by_cases hk : (lb.length : Int) > 1
   ·have HCS := Lib.hid (CS (by have := HPr.out.len; omega))
    clear CS kb3
    go_wp2_with fail
    with_reducible refine HCS.out.mono ?_
    rintro e w2 ⟨p, q, r, s, t, rfl, hb2, hp, hq, hr, hs, hM⟩
    have HB2 := Lib.hid hb2
    have HM := Lib.hid hM
    obtain ⟨p', hp'⟩ : ∃ z, sg t p = z := ⟨_, rfl⟩
    obtain ⟨q', hq'⟩ : ∃ z, sg (!t) q = z := ⟨_, rfl⟩
    obtain ⟨r', hr'⟩ : ∃ z, sg (!t) r = z := ⟨_, rfl⟩
    obtain ⟨s', hs'⟩ : ∃ z, sg t s = z := ⟨_, rfl⟩
    rw [hp', hq', hr', hs']
    have HSG := Lib.hid (And.intro hp' (And.intro hq' (And.intro hr' hs')))
    clear hb2 hM hp' hr' hs'
    by_cases hq0 : q = 0
    ·have tq : (q' == 0) = true := by rw [beq_iff_eq, ← hq', hq0]; cases t <;> rfl
     have HCQ := Lib.hid (Ww w2 _ _ la lb (HPr.out.a.keep HB2.out) (HPr.out.b.keep HB2.out) HPr.out.oa HPr.out.ob HPr.out.na HPr.out.nb (by intro e; rw [e] at hk; simp at hk) HPr.out.sa)
     have hb0 : 0 < Big.val M32 lb := Big.norm_pos M32_pos lb HPr.out.nb (by intro e; rw [e] at hk; simp at hk)
     have HLT := Lib.hid (Nat.mod_lt (Big.val M32 la) hb0)
     have HVL := Lib.hid (Big.val_lt lb HPr.out.ob)
     have HG' := Lib.hid (show Nat.gcd (Big.val M32 lb) (Big.val M32 la % Big.val M32 lb) = G by rw [← HGr.out, Nat.gcd_comm (Big.val M32 la), Nat.gcd_rec (Big.val M32 lb) (Big.val M32 la), Nat.gcd_comm])
     clear hq0 hq' hb0
     go_wp2_with fail
     with_reducible refine HCQ.out.mono ?_
     rintro e w3 ⟨qq, rest, rfl, -, hrest, hb3⟩
     obtain ⟨lr, z1, z2, z3, z4, z5⟩ := XQ hrest (Nat.lt_trans HLT.out HVL.out)
     have HZ := Lib.hid (And.intro z1 (And.intro z2 (And.intro z3 (And.intro z4 z5))))
     have HB3 := Lib.hid (HB2.out.trans (hb3.mono HB2.out.size))
     clear hrest z1 z2 z3 z4 z5 hb3
     go_wp2_with fail
     go_roundw
     case rel =>
      exact ⟨lb, lr, Lib.hid ⟨HPr.out.b.keep HB3.out, HZ.out.1, HPr.out.ob, HZ.out.2.1, HPr.out.nb, HZ.out.2.2.1, HPr.out.sb, by have := HZ.out.2.2.2.2; have := HPr.out.sb; omega, by rw [HZ.out.2.2.2.1]; exact Nat.le_of_lt HLT.out⟩,
       Lib.hid (by rw [HZ.out.2.2.2.1]; exact HG'.out), Lib.hid (HBr.out.trans (HB3.out.mono HBr.out.size))⟩
     case measure => rw [Wa HZ.out.1, hnb, HZ.out.2.2.2.1]; exact HLT.out
    ·have tq : (q' == 0) = false := by
      rw [beq_eq_false_iff_ne, ← hq']
      cases t <;> simp only [sg, Bool.not_true, Bool.not_false, if_true, Bool.false_eq_true, if_false] <;> omega
     obtain ⟨hr1, hs1, a', b', M⟩ := HM.out hq0
     have HC1 := Lib.hid (Vn w2 _ _ la lb p q a' t p' q' (HPr.out.a.keep HB2.out) (HPr.out.b.keep HB2.out) HPr.out.oa HPr.out.ob HPr.out.sa HPr.out.sb HSG.out.1.symm HSG.out.2.1.symm hp hq (by omega) M.an M.at_)
     have HC2 := Lib.hid (fun W (hW : Below w2.heap.size w2 W) => Vn W _ _ la lb r s b' (!t) r' s' ((HPr.out.a.keep HB2.out).keep hW) ((HPr.out.b.keep HB2.out).keep hW) HPr.out.oa HPr.out.ob HPr.out.sa HPr.out.sb HSG.out.2.2.1.symm (by rw [Bool.not_not]; exact HSG.out.2.2.2.symm) hr hs hs1
      (fun h => M.bt (by cases t <;> first | rfl | cases h)) (fun h => M.bn (by cases t <;> first | rfl | cases h)))
     have HVA := Lib.hid (show a' < M32 ^ la.length from Nat.lt_of_le_of_lt (M.lea hs1) (Big.val_lt la HPr.out.oa))
     have hbl := M.less hr1
     have HVB := Lib.hid (show b' < M32 ^ lb.length from Nat.lt_trans hbl (Big.val_lt lb HPr.out.ob))
     have HLT := Lib.hid (And.intro hbl M.lt)
     have HG' := Lib.hid (show Nat.gcd a' b' = G by rw [← M.gcd]; exact HGr.out)
     clear hq0 hq' M hbl hr1 hs1
     go_wp2_with fail
     with_reducible refine HC1.out.mono ?_
     rintro e w3 ⟨v3, rfl, hv3, hb3⟩
     obtain ⟨l3, z1, z2, z3, z4, z5⟩ := XQ hv3 HVA.out
     have HZ := Lib.hid (And.intro z1 (And.intro z2 (And.intro z3 (And.intro z4 z5))))
     have HB3 := Lib.hid hb3
     clear hv3 z1 z2 z3 z4 z5 hb3
     go_wp2_with fail
     with_reducible refine (HC2.out w3 HB3.out).mono ?_
     rintro e w4 ⟨v4, rfl, hv4, hb4⟩
     obtain ⟨l4, z1, z2, z3, z4, z5⟩ := XQ hv4 HVB.out
     have HZ4 := Lib.hid (And.intro z1 (And.intro z2 (And.intro z3 (And.intro z4 z5))))
     have HB4 := Lib.hid hb4
     clear hv4 z1 z2 z3 z4 z5 hb4
     go_wp2_with fail
     go_roundw
     case rel =>
      refine ⟨l3, l4, Lib.hid ⟨HZ.out.1.keep HB4.out, HZ4.out.1, HZ.out.2.1, HZ4.out.2.1, HZ.out.2.2.1, HZ4.out.2.2.1, by have := HZ.out.2.2.2.2; have := HPr.out.sa; omega, by have := HZ4.out.2.2.2.2; have := HPr.out.sb; omega, by rw [HZ.out.2.2.2.1, HZ4.out.2.2.2.1]; exact Nat.le_of_lt HLT.out.2⟩,
       Lib.hid (by rw [HZ.out.2.2.2.1, HZ4.out.2.2.2.1]; exact HG'.out), Lib.hid ?_⟩
      have b3 := HB2.out.trans (HB3.out.mono HB2.out.size)
      exact HBr.out.trans ((b3.trans (HB4.out.mono b3.size)).mono HBr.out.size)
     case measure => rw [Wa HZ4.out.1, hnb, HZ4.out.2.2.2.1]; exact HLT.out.1
   ·by_cases hk0 : lb.length = 0
    ·have ez : ((lb.length : Int) == 0) = true := by rw [beq_iff_eq]; omega
     have HZ := Lib.hid (show Nin wr (.slice a1 la.length c1) G by
      have e := List.eq_nil_of_length_eq_zero hk0
      have hg := HGr.out
      rw [e, show Big.val M32 [] = 0 from rfl, Nat.gcd_zero_right] at hg
      exact ⟨la, HPr.out.a, HPr.out.oa, HPr.out.na, hg⟩)
     clear CS kb3 hk0
     go_wp2
     go_ret
     exact ⟨_, rfl, HZ.out, HBr.out⟩
    ·have hl1 : lb.length = 1 := by omega
     obtain ⟨y, rfl⟩ := List.length_eq_one_iff.1 hl1
     obtain ⟨b, o, rfl, hblt, hcc, -⟩ := kb3 (by simp)
     have hcell : wr.cell? ⟨b, o, none⟩ = some (.int .u32 (y : Int)) := hcc 0 (by simp)
     have hy0 : 0 < y := by
      have := HPr.out.nb
      rcases Nat.eq_zero_or_pos y with e | e
      ·subst e; simp [Big.Norm] at this
      ·exact e
     have hyM : y < M32 := HPr.out.ob y (by simp)
     have HCD := Lib.hid (WR wr _ la y HPr.out.a HPr.out.oa hyM hy0 (by have := HPr.out.sa; omega))
     have HG' := Lib.hid (show Nat.gcd y (Big.val M32 la % y) = G by
      have hg := HGr.out
      rw [show Big.val M32 [y] = y by simp [Big.val]] at hg
      rw [← hg, Nat.gcd_comm (Big.val M32 la), Nat.gcd_rec y (Big.val M32 la), Nat.gcd_comm])
     have HYM := Lib.hid hyM
     have HC := Lib.hid hcell
     have hym : y < 4294967296 := by rw [← Zk]; exact hyM
     have hmd : Big.val M32 la % y < 4294967296 := Nat.lt_of_lt_of_le (Nat.mod_lt _ hy0) (Nat.le_of_lt hym)
     generalize Big.val M32 la % y = m0 at *
     clear CS kb3 hcc hyM hnb hk0 hl1 hcell
     have hcell := HC.out
     go_wp2_with fail
     with_reducible refine HCD.out.mono ?_
     rintro e w5 ⟨q5, rfl, -, hb5⟩
     have HB5 := Lib.hid (HBr.out.trans (hb5.mono HBr.out.size))
     have hc5 : w5.cell? ⟨b, o, none⟩ = some (.int .u32 (y : Int)) := (hb5.cell (p := ⟨b, o, none⟩) hblt).trans HC.out
     clear hb5 hcell
     go_wp2_with fail
     go_loopw [12, 13] (fun c x wz => ∃ m n : Nat, c = .int .u32 (n : Int) ∧ x = .int .u32 (m : Int) ∧ 0 < m ∧ m < 4294967296 ∧ n < 4294967296 ∧ Hid (Nat.gcd m n = G) ∧ Hid (Below w.heap.size w wz)) (fun c _ _ => (intOf c).toNat)
     case atStart => exact ⟨y, m0, rfl, rfl, hy0, hym, hmd, HG', HB5⟩
     case round =>
      obtain ⟨m, n, rfl, rfl, hm0, hmM, hnM, HGG, HBz⟩ := hrel
      rcases Nat.eq_zero_or_pos n with h0 | h0
      ·subst h0
       have HN := Lib.hid (Nin.strip (l := [m]) (by
        have hblk : Blk (wr.alloc (.cells #[.int .u32 (m : Int)] 148)) wr.heap.size 148 .u32 [m] := heap_alloc_new wr _
        have := Ym hblk 1 (by simp) (by omega)
        rw [Big.strip_of_norm [m] (by simp [Big.Norm]; omega)]
        exact this) (Big.Ok.cons (by rw [Zk]; exact hmM) Big.Ok.nil))
       go_wp2
       go_ret
       refine ⟨_, rfl, ?_, HBz.out.alloc HBz.out.size _⟩
       have := HN.out
       have hg := HGG.out
       rw [Nat.gcd_zero_right] at hg
       rw [show Big.val M32 [m] = m by simp [Big.val]] at this
       exact Eq.mp (congrArg (Nin _ _) hg) this
      ·have tn : ((n : Int) != 0) = true := by rw [bne_iff_ne]; omega
       have tn0 : ((n : Int) == 0) = false := beq_eq_false_iff_ne.2 (by omega)
       have em : ((m : Int) % (n : Int)) = ((m % n : Nat) : Int) := by rw [Int.natCast_emod]
       have hlt := Nat.mod_lt m h0
       have HG2 := Lib.hid (show Nat.gcd n (m % n) = G by rw [← HGG.out, Nat.gcd_comm m n, Nat.gcd_rec n m, Nat.gcd_comm])
       generalize m % n = z at *
       have HLT := Lib.hid hlt
       go_wp2_with fail
       go_quiet (fail)
       go_wp2_with fail
       refine ⟨⟨n, z, by rw [em], rfl, h0, hnM, by have := HLT.out; omega, HG2, Lib.hid (Zu HBz.out nq)⟩, by simp only [intOf, em]; have := HLT.out; omega⟩
 | true =>
  have CC := Lib.hid (cmp_any w u v m l P.b P.a P.ob P.oa P.nb P.na)
  rw [Big.cmpI_lt (hs rfl)] at CC
  clear P hs main
  simp only [if_true]
  go_enter Tryz.func110, Tryz.ntmps110
  go_wp2_with fail
  refine CC.out.mono ?_
  rintro e w1 ⟨rfl, hd⟩
  have HB1 := Lib.hid (hd.below w.heap.size)
  clear hd CC
  go_wp2_with fail
  go_loopw [0, 1] (fun va vb wr => ∃ la lb : List Nat, Hid (Pr wr va vb la lb) ∧ Hid (Nat.gcd (Big.val M32 la) (Big.val M32 lb) = G) ∧ Hid (Below w.heap.size w wr)) (fun _ vb wr => numAt wr vb)
  case atStart => exact ⟨l, m, Lib.hid ⟨HP.out.a.keep HB1.out, HP.out.b.keep HB1.out, HP.out.oa, HP.out.ob, HP.out.na, HP.out.nb, HP.out.sa, HP.out.sb, HP.out.le⟩, HG, HB1⟩
  case round =>
   obtain ⟨la, lb, HPr, HGr, HBr⟩ := hrel
   have hnb := Wa HPr.out.b
   have CS := fun h2 => KY wr _ _ la lb HPr.out.a HPr.out.b HPr.out.oa HPr.out.ob HPr.out.na h2 HPr.out.sa HPr.out.sb HPr.out.le
   obtain ⟨a1, c1, rfl, ka1, ka2, -⟩ := HPr.out.a
   obtain ⟨a2, c2, rfl, kb1, kb2, kb3⟩ := HPr.out.b
   by_cases hk : (lb.length : Int) > 1
   ·have HCS := Lib.hid (CS (by have := HPr.out.len; omega))
    clear CS kb3
    go_wp2_with fail
    with_reducible refine HCS.out.mono ?_
    rintro e w2 ⟨p, q, r, s, t, rfl, hb2, hp, hq, hr, hs, hM⟩
    have HB2 := Lib.hid hb2
    have HM := Lib.hid hM
    obtain ⟨p', hp'⟩ : ∃ z, sg t p = z := ⟨_, rfl⟩
    obtain ⟨q', hq'⟩ : ∃ z, sg (!t) q = z := ⟨_, rfl⟩
    obtain ⟨r', hr'⟩ : ∃ z, sg (!t) r = z := ⟨_, rfl⟩
    obtain ⟨s', hs'⟩ : ∃ z, sg t s = z := ⟨_, rfl⟩
    rw [hp', hq', hr', hs']
    have HSG := Lib.hid (And.intro hp' (And.intro hq' (And.intro hr' hs')))
    clear hb2 hM hp' hr' hs'
    by_cases hq0 : q = 0
    ·have tq : (q' == 0) = true := by rw [beq_iff_eq, ← hq', hq0]; cases t <;> rfl
     have HCQ := Lib.hid (Ww w2 _ _ la lb (HPr.out.a.keep HB2.out) (HPr.out.b.keep HB2.out) HPr.out.oa HPr.out.ob HPr.out.na HPr.out.nb (by intro e; rw [e] at hk; simp at hk) HPr.out.sa)
     have hb0 : 0 < Big.val M32 lb := Big.norm_pos M32_pos lb HPr.out.nb (by intro e; rw [e] at hk; simp at hk)
     have HLT := Lib.hid (Nat.mod_lt (Big.val M32 la) hb0)
     have HVL := Lib.hid (Big.val_lt lb HPr.out.ob)
     have HG' := Lib.hid (show Nat.gcd (Big.val M32 lb) (Big.val M32 la % Big.val M32 lb) = G by rw [← HGr.out, Nat.gcd_comm (Big.val M32 la), Nat.gcd_rec (Big.val M32 lb) (Big.val M32 la), Nat.gcd_comm])
     clear hq0 hq' hb0
     go_wp2_with fail
     with_reducible refine HCQ.out.mono ?_
     rintro e w3 ⟨qq, rest, rfl, -, hrest, hb3⟩
     obtain ⟨lr, z1, z2, z3, z4, z5⟩ := XQ hrest (Nat.lt_trans HLT.out HVL.out)
     have HZ := Lib.hid (And.intro z1 (And.intro z2 (And.intro z3 (And.intro z4 z5))))
     have HB3 := Lib.hid (HB2.out.trans (hb3.mono HB2.out.size))
     clear hrest z1 z2 z3 z4 z5 hb3
     go_wp2_with fail
     go_roundw
     case rel =>
      exact ⟨lb, lr, Lib.hid ⟨HPr.out.b.keep HB3.out, HZ.out.1, HPr.out.ob, HZ.out.2.1, HPr.out.nb, HZ.out.2.2.1, HPr.out.sb, by have := HZ.out.2.2.2.2; have := HPr.out.sb; omega, by rw [HZ.out.2.2.2.1]; exact Nat.le_of_lt HLT.out⟩,
       Lib.hid (by rw [HZ.out.2.2.2.1]; exact HG'.out), Lib.hid (HBr.out.trans (HB3.out.mono HBr.out.size))⟩
     case measure => rw [Wa HZ.out.1, hnb, HZ.out.2.2.2.1]; exact HLT.out
    ·have tq : (q' == 0) = false := by
      rw [beq_eq_false_iff_ne, ← hq']
      cases t <;> simp only [sg, Bool.not_true, Bool.not_false, if_true, Bool.false_eq_true, if_false] <;> omega
     obtain ⟨hr1, hs1, a', b', M⟩ := HM.out hq0
     have HC1 := Lib.hid (Vn w2 _ _ la lb p q a' t p' q' (HPr.out.a.keep HB2.out) (HPr.out.b.keep HB2.out) HPr.out.oa HPr.out.ob HPr.out.sa HPr.out.sb HSG.out.1.symm HSG.out.2.1.symm hp hq (by omega) M.an M.at_)
     have HC2 := Lib.hid (fun W (hW : Below w2.heap.size w2 W) => Vn W _ _ la lb r s b' (!t) r' s' ((HPr.out.a.keep HB2.out).keep hW) ((HPr.out.b.keep HB2.out).keep hW) HPr.out.oa HPr.out.ob HPr.out.sa HPr.out.sb HSG.out.2.2.1.symm (by rw [Bool.not_not]; exact HSG.out.2.2.2.symm) hr hs hs1
      (fun h => M.bt (by cases t <;> first | rfl | cases h)) (fun h => M.bn (by cases t <;> first | rfl | cases h)))
     have HVA := Lib.hid (show a' < M32 ^ la.length from Nat.lt_of_le_of_lt (M.lea hs1) (Big.val_lt la HPr.out.oa))
     have hbl := M.less hr1
     have HVB := Lib.hid (show b' < M32 ^ lb.length from Nat.lt_trans hbl (Big.val_lt lb HPr.out.ob))
     have HLT := Lib.hid (And.intro hbl M.lt)
     have HG' := Lib.hid (show Nat.gcd a' b' = G by rw [← M.gcd]; exact HGr.out)
     clear hq0 hq' M hbl hr1 hs1
     go_wp2_with fail
     with_reducible refine HC1.out.mono ?_
     rintro e w3 ⟨v3, rfl, hv3, hb3⟩
     obtain ⟨l3, z1, z2, z3, z4, z5⟩ := XQ hv3 HVA.out
     have HZ := Lib.hid (And.intro z1 (And.intro z2 (And.intro z3 (And.intro z4 z5))))
     have HB3 := Lib.hid hb3
     clear hv3 z1 z2 z3 z4 z5 hb3
     go_wp2_with fail
     with_reducible refine (HC2.out w3 HB3.out).mono ?_
     rintro e w4 ⟨v4, rfl, hv4, hb4⟩
     obtain ⟨l4, z1, z2, z3, z4, z5⟩ := XQ hv4 HVB.out
     have HZ4 := Lib.hid (And.intro z1 (And.intro z2 (And.intro z3 (And.intro z4 z5))))
     have HB4 := Lib.hid hb4
     clear hv4 z1 z2 z3 z4 z5 hb4
     go_wp2_with fail
     go_roundw
     case rel =>
      refine ⟨l3, l4, Lib.hid ⟨HZ.out.1.keep HB4.out, HZ4.out.1, HZ.out.2.1, HZ4.out.2.1, HZ.out.2.2.1, HZ4.out.2.2.1, by have := HZ.out.2.2.2.2; have := HPr.out.sa; omega, by have := HZ4.out.2.2.2.2; have := HPr.out.sb; omega, by rw [HZ.out.2.2.2.1, HZ4.out.2.2.2.1]; exact Nat.le_of_lt HLT.out.2⟩,
       Lib.hid (by rw [HZ.out.2.2.2.1, HZ4.out.2.2.2.1]; exact HG'.out), Lib.hid ?_⟩
      have b3 := HB2.out.trans (HB3.out.mono HB2.out.size)
      exact HBr.out.trans ((b3.trans (HB4.out.mono b3.size)).mono HBr.out.size)
     case measure => rw [Wa HZ4.out.1, hnb, HZ4.out.2.2.2.1]; exact HLT.out.1
   ·by_cases hk0 : lb.length = 0
    ·have ez : ((lb.length : Int) == 0) = true := by rw [beq_iff_eq]; omega
     have HZ := Lib.hid (show Nin wr (.slice a1 la.length c1) G by
      have e := List.eq_nil_of_length_eq_zero hk0
      have hg := HGr.out
      rw [e, show Big.val M32 [] = 0 from rfl, Nat.gcd_zero_right] at hg
      exact ⟨la, HPr.out.a, HPr.out.oa, HPr.out.na, hg⟩)
     clear CS kb3 hk0
     go_wp2
     go_ret
     exact ⟨_, rfl, HZ.out, HBr.out⟩
    ·have hl1 : lb.length = 1 := by omega
     obtain ⟨y, rfl⟩ := List.length_eq_one_iff.1 hl1
     obtain ⟨b, o, rfl, hblt, hcc, -⟩ := kb3 (by simp)
     have hcell : wr.cell? ⟨b, o, none⟩ = some (.int .u32 (y : Int)) := hcc 0 (by simp)
     have hy0 : 0 < y := by
      have := HPr.out.nb
      rcases Nat.eq_zero_or_pos y with e | e
      ·subst e; simp [Big.Norm] at this
      ·exact e
     have hyM : y < M32 := HPr.out.ob y (by simp)
     have HCD := Lib.hid (WR wr _ la y HPr.out.a HPr.out.oa hyM hy0 (by have := HPr.out.sa; omega))
     have HG' := Lib.hid (show Nat.gcd y (Big.val M32 la % y) = G by
      have hg := HGr.out
      rw [show Big.val M32 [y] = y by simp [Big.val]] at hg
      rw [← hg, Nat.gcd_comm (Big.val M32 la), Nat.gcd_rec y (Big.val M32 la), Nat.gcd_comm])
     have HYM := Lib.hid hyM
     have HC := Lib.hid hcell
     have hym : y < 4294967296 := by rw [← Zk]; exact hyM
     have hmd : Big.val M32 la % y < 4294967296 := Nat.lt_of_lt_of_le (Nat.mod_lt _ hy0) (Nat.le_of_lt hym)
     generalize Big.val M32 la % y = m0 at *
     clear CS kb3 hcc hyM hnb hk0 hl1 hcell
     have hcell := HC.out
     go_wp2_with fail
     with_reducible refine HCD.out.mono ?_
     rintro e w5 ⟨q5, rfl, -, hb5⟩
     have HB5 := Lib.hid (HBr.out.trans (hb5.mono HBr.out.size))
     have hc5 : w5.cell? ⟨b, o, none⟩ = some (.int .u32 (y : Int)) := (hb5.cell (p := ⟨b, o, none⟩) hblt).trans HC.out
     clear hb5 hcell
     go_wp2_with fail
     go_loopw [12, 13] (fun c x wz => ∃ m n : Nat, c = .int .u32 (n : Int) ∧ x = .int .u32 (m : Int) ∧ 0 < m ∧ m < 4294967296 ∧ n < 4294967296 ∧ Hid (Nat.gcd m n = G) ∧ Hid (Below w.heap.size w wz)) (fun c _ _ => (intOf c).toNat)
     case atStart => exact ⟨y, m0, rfl, rfl, hy0, hym, hmd, HG', HB5⟩
     case round =>
      obtain ⟨m, n, rfl, rfl, hm0, hmM, hnM, HGG, HBz⟩ := hrel
      rcases Nat.eq_zero_or_pos n with h0 | h0
      ·subst h0
       have HN := Lib.hid (Nin.strip (l := [m]) (by
        have hblk : Blk (wr.alloc (.cells #[.int .u32 (m : Int)] 148)) wr.heap.size 148 .u32 [m] := heap_alloc_new wr _
        have := Ym hblk 1 (by simp) (by omega)
        rw [Big.strip_of_norm [m] (by simp [Big.Norm]; omega)]
        exact this) (Big.Ok.cons (by rw [Zk]; exact hmM) Big.Ok.nil))
       go_wp2
       go_ret
       refine ⟨_, rfl, ?_, HBz.out.alloc HBz.out.size _⟩
       have := HN.out
       have hg := HGG.out
       rw [Nat.gcd_zero_right] at hg
       rw [show Big.val M32 [m] = m by simp [Big.val]] at this
       exact Eq.mp (congrArg (Nin _ _) hg) this
      ·have tn : ((n : Int) != 0) = true := by rw [bne_iff_ne]; omega
       have tn0 : ((n : Int) == 0) = false := beq_eq_false_iff_ne.2 (by omega)
       have em : ((m : Int) % (n : Int)) = ((m % n : Nat) : Int) := by rw [Int.natCast_emod]
       have hlt := Nat.mod_lt m h0
       have HG2 := Lib.hid (show Nat.gcd n (m % n) = G by rw [← HGG.out, Nat.gcd_comm m n, Nat.gcd_rec n m, Nat.gcd_comm])
       generalize m % n = z at *
       have HLT := Lib.hid hlt
       go_wp2_with fail
       go_quiet (fail)
       go_wp2_with fail
       refine ⟨⟨n, z, by rw [em], rfl, h0, hnM, by have := HLT.out; omega, HG2, Lib.hid (Zu HBz.out nq)⟩, by simp only [intOf, em]; have := HLT.out; omega⟩
theorem gcdWords_any (w : World) (v u : Value) (l m : List Nat) (h : Wd w .u32 v l) (hu : Wd w .u32 u m) (ol : Big.Ok M32 l) (om : Big.Ok M32 m) (nl : Big.Norm l) (nm : Big.Norm m) (hl : l.length ≤ 100000000) (hm : m.length ≤ 100000000) :
  Calls Tryz.prog 110 #[v, u] w fun e w' => ∃ v', e = .returned v' ∧ Nin w' v' (Nat.gcd (Big.val M32 l) (Big.val M32 m)) ∧ Below w.heap.size w w' := by
 rcases Nat.lt_or_ge (Big.val M32 l) (Big.val M32 m) with h1 | h1
 ·rw [Nat.gcd_comm]
  exact Zb5 w u v true m l ⟨hu, h, om, ol, nm, nl, hm, hl, Nat.le_of_lt h1⟩ fun _ => h1
 ·exact Zb5 w v u false l m ⟨h, hu, ol, om, nl, nm, hl, hm, h1⟩ fun h => by cases h
end R
end Go.Proofs.YtnlhjcfpfapafaaGreatDoor
