/- Contracts, in this order: exact: sum, Of. · ratio: size, answer, Of. · ratio: Of. · ratio: read, of one and of two. · ratio: reckon. · ratio: Sign. Sign, Cmp. · ratio: Sign, Cmp. · exact: Floor; ratio: Floor, Int64. · ratio: Text. -/
import Derived.Test.YthjofdfnppadnaaGreatDoorZt13
import Derived.Test.YthjofdfnppadnaaGreatDoorZt21
import Derived.Lib.ItoaMem
import Derived.LoopN
import Derived.Test.YthjofdfnppadnaaGreatDoorZt19
import Derived.Test.YthjofdfnppadnaaGreatDoorZt14
import Derived.Laws.Concat
namespace Go.Proofs.YthjofdfnppadnaaGreatDoor
open Go.RowKit
set_option maxRecDepth 100000 in
set_option maxHeartbeats 2000000 in
theorem exOf_any (w : World) (b : Bool) (v u : Value) (n d k j : Nat) (h : NatIn w v n) (i : NatIn w u d) (hn : Sz k n) (hm : Sz j d) (hk : k ≤ 100000000) (hj : j ≤ 100000000) (hd : 1 ≤ d) :
    Calls Tryz.prog 49 #[.bool b, v, u] w (Num1 w (mkRat (Big.sI b n) d)) := by
  obtain ⟨p1, p2, p3⟩ := Big.of_parts b n d hd
  have HP := Lib.hid (And.intro p1 (And.intro p2 p3))
  have HV := Lib.hid h; have HU := Lib.hid i; have HN := Lib.hid hn; have HM := Lib.hid hm
  obtain ⟨A, l, c, rfl, hl⟩ := h.is_slice
  obtain ⟨A2, l2, c2, rfl, hl2⟩ := i.is_slice
  have t1 : ((l2 : Int) == 0) = false := beq_eq_false_iff_ne.2 (by omega)
  clear p1 p2 p3 h i hn hm hl hl2 hd
  generalize mkRat (Big.sI b n) d = q at *
  go_enter Tryz.func49, Tryz.ntmps49
  go_wp2_with fail
  have HB0 := Lib.hid ((Below.refl w.heap.size w).alloc (Nat.le_refl _) (.cells #[.bool false, .slice none 0 0, .slice none 0 0] 71))
  have HR := Lib.hid (At3.new w 71 (.bool false) (.slice none 0 0) (.slice none 0 0))
  generalize w.alloc (.cells #[.bool false, .slice none 0 0, .slice none 0 0] 71) = w0 at *
  refine (gcd_num w0 _ _ n d k j (HV.out.keep HB0.out) (HU.out.keep HB0.out) HN.out HM.out hk hj).mono ?_
  rintro e w1 ⟨v1, rfl, hv1, hb1⟩
  have HV1 := Lib.hid hv1; have HB1 := Lib.hid (HB0.out.trans (hb1.mono HB0.out.size)); have HR1 := Lib.hid (HR.out.keep hb1)
  clear hv1 hb1 HR
  go_wp2_with fail
  refine (quo_num w1 _ _ n _ k (HV.out.keep HB1.out) HV1.out HN.out hk).mono ?_
  rintro e w2 ⟨v2, rfl, hv2, hb2⟩
  have HV2 := Lib.hid hv2
  obtain ⟨A3, l3, c3, rfl, hl3⟩ := hv2.is_slice
  have HV1' := Lib.hid (HV1.out.keep hb2)
  have HB2 := Lib.hid (HB1.out.trans (hb2.mono HB1.out.size)); have HR2 := Lib.hid (HR1.out.keep hb2)
  have HL3 := Lib.hid hl3
  clear hv2 hb2 HR1 hl3
  have g0 : n / Nat.gcd n d = 0 ↔ l3 = 0 := HL3.out.symm
  have CQ := Lib.hid (quo_num w2 _ _ d _ j (HU.out.keep HB2.out) HV1'.out HM.out hj)
  have HBR := Lib.hid (show NumRes w2 w.heap.size 71 from HR2.out)
  have f0 := fun W (hW : Below w2.heap.size w2 W) => (HR2.out.keep hW).frozen 0
  have done : ∀ (bb : Bool) (W : World) (v4 : Value), bb = (b && decide (0 < n / Nat.gcd n d)) → Below w2.heap.size w2 W → NatIn W v4 (d / Nat.gcd n d) →
      At3 (((W.setCell ⟨w.heap.size, 0, none⟩ (.bool bb)).setCell ⟨w.heap.size, 1, none⟩ (.slice A3 l3 c3)).setCell ⟨w.heap.size, 2, none⟩ v4) w.heap.size 71 (.bool bb) (.slice A3 l3 c3) v4 ∧
      Num1 w q (.returned (.agg #[.bool bb, .slice A3 l3 c3, v4])) (((W.setCell ⟨w.heap.size, 0, none⟩ (.bool bb)).setCell ⟨w.heap.size, 1, none⟩ (.slice A3 l3 c3)).setCell ⟨w.heap.size, 2, none⟩ v4) := by
    intro bb W v4 e hW hv4
    have h1 := HV2.out.keep hW
    rw [← HP.out.2.1] at h1
    rw [← HP.out.2.2] at hv4
    have D := num_done (show NumRes W w.heap.size _ from HR2.out.keep hW) (HB2.out.trans (hW.mono HB2.out.size)) (Nat.le_refl _) h1 hv4 (e.trans HP.out.1.symm)
    exact ⟨D.1, _, rfl, D.2⟩
  have DONE := Lib.hid done
  clear done f0
  have t2 : 0 < n / Nat.gcd n d ↔ 0 < l3 := by rw [Nat.pos_iff_ne_zero, Nat.pos_iff_ne_zero, Ne, Ne, g0]
  have t3 : (b && decide (0 < n / Nat.gcd n d)) = (b && decide (0 < l3)) := by rw [decide_eq_decide.2 t2]
  rw [t3] at DONE
  clear g0 t2 t3 HP HL3 HV HU HN HM HV1' HV2 HV1
  rcases Nat.eq_zero_or_pos l3 with hl0 | hl0
  · subst hl0
    rw [decide_eq_false (by omega)] at DONE
    cases b
    all_goals
      go_wp2_with fail
      refine CQ.out.mono ?_
      rintro e w3 ⟨v4, rfl, hv4, hb3⟩
      obtain ⟨A4, l4, c4, rfl, hl4⟩ := hv4.is_slice
      obtain ⟨D1, D2⟩ := DONE.out false w3 _ rfl hb3 hv4
      have R3 := HR2.out.keep hb3
      have k0 := R3.c0; have k1 := R3.c1; have k2 := R3.c2; have f0 := R3.frozen 0; have f1 := R3.frozen 1; have f2 := R3.frozen 2
      have HD1 := Lib.hid D1; have HD2 := Lib.hid D2
      clear D1 D2 R3 hv4 hb3 hl4
      go_wp2_with fail
      generalize (((w3.setCell ⟨w.heap.size, 0, none⟩ (.bool false)).setCell ⟨w.heap.size, 1, none⟩ (.slice A3 0 c3)).setCell ⟨w.heap.size, 2, none⟩ (.slice A4 l4 c4)) = wz at HD1 HD2 ⊢
      have r0 := HD1.out.c0; have r1 := HD1.out.c1; have r2 := HD1.out.c2
      exact bodyPost_ret (v := .agg #[.bool false, .slice A3 0 c3, .slice A4 l4 c4]) (by simp [results, Tryz.results49, go_sem, r0, r1, r2]) rfl HD2.out
  · have t4 : ((l3 : Int) > 0) := by omega
    rw [decide_eq_true (by omega)] at DONE
    cases b
    · go_wp2_with fail
      refine CQ.out.mono ?_
      rintro e w3 ⟨v4, rfl, hv4, hb3⟩
      obtain ⟨A4, l4, c4, rfl, hl4⟩ := hv4.is_slice
      obtain ⟨D1, D2⟩ := DONE.out false w3 _ rfl hb3 hv4
      have R3 := HR2.out.keep hb3
      have k0 := R3.c0; have k1 := R3.c1; have k2 := R3.c2; have f0 := R3.frozen 0; have f1 := R3.frozen 1; have f2 := R3.frozen 2
      have HD1 := Lib.hid D1; have HD2 := Lib.hid D2
      clear D1 D2 R3 hv4 hb3 hl4
      go_wp2_with fail
      generalize (((w3.setCell ⟨w.heap.size, 0, none⟩ (.bool false)).setCell ⟨w.heap.size, 1, none⟩ (.slice A3 l3 c3)).setCell ⟨w.heap.size, 2, none⟩ (.slice A4 l4 c4)) = wz at HD1 HD2 ⊢
      have r0 := HD1.out.c0; have r1 := HD1.out.c1; have r2 := HD1.out.c2
      exact bodyPost_ret (v := .agg #[.bool false, .slice A3 l3 c3, .slice A4 l4 c4]) (by simp [results, Tryz.results49, go_sem, r0, r1, r2]) rfl HD2.out
    · go_wp2_with fail
      refine CQ.out.mono ?_
      rintro e w3 ⟨v4, rfl, hv4, hb3⟩
      obtain ⟨A4, l4, c4, rfl, hl4⟩ := hv4.is_slice
      obtain ⟨D1, D2⟩ := DONE.out true w3 _ rfl hb3 hv4
      have R3 := HR2.out.keep hb3
      have k0 := R3.c0; have k1 := R3.c1; have k2 := R3.c2; have f0 := R3.frozen 0; have f1 := R3.frozen 1; have f2 := R3.frozen 2
      have HD1 := Lib.hid D1; have HD2 := Lib.hid D2
      clear D1 D2 R3 hv4 hb3 hl4
      go_wp2_with fail
      generalize (((w3.setCell ⟨w.heap.size, 0, none⟩ (.bool true)).setCell ⟨w.heap.size, 1, none⟩ (.slice A3 l3 c3)).setCell ⟨w.heap.size, 2, none⟩ (.slice A4 l4 c4)) = wz at HD1 HD2 ⊢
      have r0 := HD1.out.c0; have r1 := HD1.out.c1; have r2 := HD1.out.c2
      exact bodyPost_ret (v := .agg #[.bool true, .slice A3 l3 c3, .slice A4 l4 c4]) (by simp [results, Tryz.results49, go_sem, r0, r1, r2]) rfl HD2.out
end Go.Proofs.YthjofdfnppadnaaGreatDoor
namespace Go.Proofs.YthjofdfnppadnaaGreatDoor
open Go.RowKit
set_option maxRecDepth 100000 in
set_option maxHeartbeats 4000000 in
theorem rasize_any (w : World) (n : Int) (h0 : -9223372036854775808 ≤ n) (h1 : n ≤ 9223372036854775807) :
    Calls Tryz.prog 50 #[.int .i64 n] w (Nat1 w n.natAbs) := by
  have hM : n.natAbs < Big.M64 := by unfold Big.M64; omega
  have C := Lib.hid (of_num w n.natAbs hM)
  clear hM
  by_cases hn : n < 0
  · obtain ⟨u, rfl⟩ : ∃ u : Nat, n = -(u : Int) := ⟨n.natAbs, by omega⟩
    have e : (-(u : Int)).natAbs = u := by omega
    rw [e] at C ⊢
    have hwr : IntKind.u64.wrap (-IntKind.u64.wrap (-(u : Int))) = (u : Int) := by rw [IntKind.wrap_u64, IntKind.wrap_u64]; omega
    clear e
    go_enter Tryz.func50, Tryz.ntmps50
    go_wp2_with fail
    refine C.out.mono ?_
    rintro e w' ⟨v', rfl, hv, hb⟩
    go_wp2_with fail
    go_ret
    exact ⟨_, rfl, hv, hb⟩
  · obtain ⟨u, rfl⟩ : ∃ u : Nat, n = (u : Int) := ⟨n.natAbs, by omega⟩
    have e : ((u : Int)).natAbs = u := by omega
    rw [e] at C ⊢
    clear e
    go_enter Tryz.func50, Tryz.ntmps50
    go_wp2_with fail
    refine C.out.mono ?_
    rintro e w' ⟨v', rfl, hv, hb⟩
    go_wp2_with fail
    go_ret
    exact ⟨_, rfl, hv, hb⟩
def Ret2 (w : World) (v : Value) (n : Int) (e : Ending) (w' : World) : Prop := e = .returned (.tuple #[v, .int .i64 n]) ∧ Below w.heap.size w w'
theorem At3.both {w w' : World} {g : Nat} {T : TypeId} {a b c : Value} (h : At3 w g T a b c) (hb : Below w.heap.size w w') (B : Nat) (w0 : World) (hB : Below B w0 w) : At3 w' g T a b c ∧ Below B w0 w' → At3 w' g T a b c := fun _ => h.keep hb
set_option maxRecDepth 100000 in
set_option maxHeartbeats 4000000 in
theorem answer_fit (w : World) (vx : Value) (q : Rat) (k : Nat) (hx : NumIn w vx q) (sx : Sm k q) (hk : k ≤ 10000000) (hf : Fit q) :
    Calls Tryz.prog 48 #[vx] w (Ret2 w (fracV q) 0) := by
  have SX := Lib.hid sx; have HF := Lib.hid hf
  obtain ⟨A, l, c, A2, l2, c2, rfl, hx1, hx2⟩ := hx.is_agg
  have HX := Lib.hid (And.intro hx1 hx2)
  have HQ := Lib.hid hx
  obtain ⟨X0, R0, B0⟩ := boxed2 w 71 23 (.bool (Big.ng q)) (.slice A l c) (.slice A2 l2 c2) (.bool false) (.string ⟨#[]⟩) (.string ⟨#[]⟩)
  have HR0 := Lib.hid R0; have HB0 := Lib.hid B0
  have x0 := X0.c0; have x1 := X0.c1; have x2 := X0.c2
  have C := Lib.hid (fun W (h : Below w.heap.size w W) => exFrac_fit W _ q k (HQ.out.keep h) SX.out hk HF.out)
  clear hx hx1 hx2 sx X0 R0 B0 hf
  go_enter Tryz.func48, Tryz.ntmps48
  go_wp2_with fail
  refine (C.out _ HB0.out).mono ?_
  generalize (w.alloc (.cells #[.bool (Big.ng q), .slice A l c, .slice A2 l2 c2] 71)).alloc (.cells #[.bool false, .string ⟨#[]⟩, .string ⟨#[]⟩] 23) = w0 at *
  rintro e w1 ⟨rfl, hw1⟩
  unfold fracV
  have HB1 := Lib.hid (HB0.out.trans (hw1.mono HB0.out.size))
  have R1 := HR0.out.keep hw1
  have hlt := R1.lt
  have HD := Lib.hid ((At3.put R1 (.bool (Big.ng q)) (.string (bst (Big.nu q))) (.string (bst (Big.de q)))).alloc' (.cells #[.bool (Big.ng q), .string (bst (Big.nu q)), .string (bst (Big.de q))] 23))
  have HE := Lib.hid (below_alloc (put_below HB1.out (show w.heap.size ≤ w.heap.size + 1 by omega) (.bool (Big.ng q)) (.string (bst (Big.nu q))) (.string (bst (Big.de q)))) (Nat.le_refl _) (.cells #[.bool (Big.ng q), .string (bst (Big.nu q)), .string (bst (Big.de q))] 23))
  have k0 := R1.c0; have k1 := R1.c1; have k2 := R1.c2; have f0 := R1.frozen 0; have f1 := R1.frozen 1; have f2 := R1.frozen 2
  clear R1 hw1 x0 x1 x2 HR0 C
  go_wp2_with fail
  generalize ((((w1.setCell ⟨w.heap.size + 1, 0, none⟩ (.bool (Big.ng q))).setCell ⟨w.heap.size + 1, 1, none⟩ (.string (bst (Big.nu q)))).setCell ⟨w.heap.size + 1, 2, none⟩ (.string (bst (Big.de q)))).alloc (.cells #[.bool (Big.ng q), .string (bst (Big.nu q)), .string (bst (Big.de q))] 23)) = wz at HD HE ⊢
  clear k0 k1 k2 f0 f1 f2
  have r0 := HD.out.c0; have r1 := HD.out.c1; have r2 := HD.out.c2
  exact bodyPost_ret (v := .tuple #[.agg #[.bool (Big.ng q), .string (bst (Big.nu q)), .string (bst (Big.de q))], .int .i64 0]) (by simp [results, Tryz.results48, go_sem, r0, r1, r2]) rfl ⟨rfl, HE.out⟩
end Go.Proofs.YthjofdfnppadnaaGreatDoor
namespace Go.Proofs.YthjofdfnppadnaaGreatDoor
open Go.RowKit
def ofQ (n d : Int) : Rat := mkRat (Big.sI (decide (n < 0) != decide (d < 0)) n.natAbs) d.natAbs
theorem ofQ_by {n d : Int} {k : Nat} (hn : n.natAbs < 256 ^ k) (hd : d.natAbs < 256 ^ k) (h0 : d ≠ 0) : By k (ofQ n d) := by
  obtain ⟨_, p2, p3⟩ := Big.of_parts (decide (n < 0) != decide (d < 0)) n.natAbs d.natAbs (by omega)
  unfold ofQ
  exact ⟨by rw [p2]; exact Nat.lt_of_le_of_lt (Nat.div_le_self _ _) hn, by rw [p3]; exact Nat.lt_of_le_of_lt (Nat.div_le_self _ _) hd⟩
set_option maxRecDepth 100000 in
set_option maxHeartbeats 4000000 in
theorem raOf_any (w : World) (n d : Int) (h0 : -9223372036854775808 ≤ n) (h1 : n ≤ 9223372036854775807) (h2 : -9223372036854775808 ≤ d) (h3 : d ≤ 9223372036854775807) (hd : d ≠ 0) :
    Calls Tryz.prog 11 #[.int .i64 n, .int .i64 d] w (Ret2 w (fracV (ofQ n d)) 0) := by
  have hb : By 8 (ofQ n d) := ofQ_by (by omega) (by omega) hd
  have HF := Lib.hid (hb.fit (by omega))
  have C1 := Lib.hid (fun W => rasize_any W n h0 h1)
  have C2 := Lib.hid (fun W => rasize_any W d h2 h3)
  have z1 : Sz 1 n.natAbs := sz_word (by unfold Big.M64; omega)
  have z2 : Sz 1 d.natAbs := sz_word (by unfold Big.M64; omega)
  have C3 := Lib.hid (fun W b v u (h : NatIn W v n.natAbs) (i : NatIn W u d.natAbs) => exOf_any W b v u n.natAbs d.natAbs 1 1 h i z1 z2 (by omega) (by omega) (by omega))
  have C4 := Lib.hid (fun W v (h : NumIn W v (ofQ n d)) => answer_fit W v _ 64 h HF.out.sm (by omega) HF.out)
  have hd0 : (d == 0) = false := beq_eq_false_iff_ne.2 hd
  have HOF := Lib.hid (show ofQ n d = mkRat (Big.sI (!(decide (n < 0) == decide (d < 0))) n.natAbs) d.natAbs from rfl)
  have HR0 := Lib.hid (At3.new w 23 (.bool false) (.string ⟨#[]⟩) (.string ⟨#[]⟩))
  have HB0 := Lib.hid (box1_below w (.cells #[.bool false, .string ⟨#[]⟩, .string ⟨#[]⟩] 23))
  clear hb z1 z2 hd h0 h1 h2 h3
  obtain ⟨Q, hQ⟩ : ∃ Q, ofQ n d = Q := ⟨_, rfl⟩
  rw [hQ] at HF C4 HOF ⊢
  clear hQ
  go_enter Tryz.func11, Tryz.ntmps11
  go_wp2_with fail
  generalize w.alloc (.cells #[.bool false, .string ⟨#[]⟩, .string ⟨#[]⟩] 23) = w0 at *
  refine (C1.out _).mono ?_
  rintro e w1 ⟨v1, rfl, hv1, hw1⟩
  go_wp2_with fail
  refine (C2.out _).mono ?_
  rintro e w2 ⟨v2, rfl, hv2, hw2⟩
  go_wp2_with fail
  refine (C3.out _ _ _ _ (hv1.keep hw2) hv2).mono ?_
  rintro e w3 ⟨v3, rfl, hv3, hw3⟩
  rw [← HOF.out] at hv3
  go_wp2_with fail
  refine (C4.out _ _ hv3).mono ?_
  rintro e w4 ⟨rfl, hw4⟩
  unfold fracV
  have b1 := HB0.out.trans (hw1.mono HB0.out.size)
  have b2 := b1.trans (hw2.mono b1.size)
  have b3 := b2.trans (hw3.mono b2.size)
  have b4 := b3.trans (hw4.mono b3.size)
  have R4 := (((HR0.out.keep hw1).keep hw2).keep hw3).keep hw4
  have HD := Lib.hid (At3.put R4 (.bool (Big.ng Q)) (.string (bst (Big.nu Q))) (.string (bst (Big.de Q))))
  have HE := Lib.hid (put_below b4 (Nat.le_refl _) (.bool (Big.ng Q)) (.string (bst (Big.nu Q))) (.string (bst (Big.de Q))))
  have k0 := R4.c0; have k1 := R4.c1; have k2 := R4.c2; have f0 := R4.frozen 0; have f1 := R4.frozen 1; have f2 := R4.frozen 2
  clear R4 b1 b2 b3 b4 hw1 hw2 hw3 hw4 hv1 hv2 hv3 C1 C2 C3 C4 HOF HR0 HB0
  go_wp2_with fail
  generalize (((w4.setCell ⟨w.heap.size, 0, none⟩ (.bool (Big.ng Q))).setCell ⟨w.heap.size, 1, none⟩ (.string (bst (Big.nu Q)))).setCell ⟨w.heap.size, 2, none⟩ (.string (bst (Big.de Q)))) = wz at HD HE ⊢
  clear k0 k1 k2 f0 f1 f2
  have r0 := HD.out.c0; have r1 := HD.out.c1; have r2 := HD.out.c2
  exact bodyPost_ret (v := .tuple #[.agg #[.bool (Big.ng Q), .string (bst (Big.nu Q)), .string (bst (Big.de Q))], .int .i64 0]) (by simp [results, Tryz.results11, go_sem, r0, r1, r2]) rfl ⟨rfl, HE.out⟩
end Go.Proofs.YthjofdfnppadnaaGreatDoor
namespace Go.Proofs.YthjofdfnppadnaaGreatDoor
open Go.RowKit
def AtL (w : World) (g : Nat) (T : TypeId) (cs : Array Value) : Prop := w.heap[g]? = some (.cells cs T (0, 0))
section
variable {w w' : World} {g : Nat} {T : TypeId} {cs : Array Value}
theorem AtL.lt (h : AtL w g T cs) : g < w.heap.size := by
  rcases Nat.lt_or_ge g w.heap.size with h1 | h1
  · exact h1
  · unfold AtL at h; rw [Array.getElem?_eq_none h1] at h; cases h
theorem AtL.cell (h : AtL w g T cs) (i : Nat) {x : Value} (hx : cs[i]? = some x) : w.cell? ⟨g, i, none⟩ = some x := by rw [cell_of_row w g i _ _ (0, 0) h]; exact hx
theorem AtL.frozen (h : AtL w g T cs) (i : Nat) : w.frozen? ⟨g, i, none⟩ = false := frozen_of_row w g i _ _ h
theorem AtL.new (w : World) (T : TypeId) (cs : Array Value) : AtL (w.alloc (.cells cs T)) w.heap.size T cs := heap_alloc_new w _
theorem AtL.alloc' (h : AtL w g T cs) (o : Obj) : AtL (w.alloc o) g T cs := (Below.heap_alloc w o g h.lt).trans h
theorem AtL.below (h : AtL w g T cs) {B : Nat} (hb : Below B w w') (hg : g < B) : AtL w' g T cs := (hb.block g hg).trans h
theorem AtL.keep (h : AtL w g T cs) (hb : Below w.heap.size w w') : AtL w' g T cs := h.below hb h.lt
theorem AtL.set (h : AtL w g T cs) (i : Nat) (x : Value) : AtL (w.setCell ⟨g, i, none⟩ x) g T (cs.setIfInBounds i x) := heap_setCell_same w g i _ _ x h
end
def One (w : World) (v : Value) (q : Rat) : Prop := ∃ g a b, v = .slice (some ⟨g, 0, none⟩) 1 1 ∧ AtL w g 71 #[.bool (Big.ng q), a, b] ∧ NumIn w (.agg #[.bool (Big.ng q), a, b]) q
def Two (w : World) (v : Value) (q r : Rat) : Prop := ∃ g a b c d, v = .slice (some ⟨g, 0, none⟩) 2 2 ∧ AtL w g 71 #[.bool (Big.ng q), a, b, .bool (Big.ng r), c, d] ∧ NumIn w (.agg #[.bool (Big.ng q), a, b]) q ∧ NumIn w (.agg #[.bool (Big.ng r), c, d]) r
def OneR (w : World) (q : Rat) (e : Ending) (w' : World) : Prop := ∃ v, e = .returned (.tuple #[v, .bool true]) ∧ One w' v q ∧ Below w.heap.size w w'
def TwoR (w : World) (q r : Rat) (e : Ending) (w' : World) : Prop := ∃ v, e = .returned (.tuple #[v, .bool true]) ∧ Two w' v q r ∧ Below w.heap.size w w'
theorem Tryz.infoNum : (Tryz.prog.info? 71).map (fun i => (i.zero, i.size, i.bytes)) = some (some (.agg #[.bool false, .slice none 0 0, .slice none 0 0]), 3, 56) := by kernel_rfl
theorem make_nums (n : Nat) (hn : n ≤ 1000) (cs : Array Value) (hcs : madeCells (Value.agg #[.bool false, .slice none 0 0, .slice none 0 0]).cells (n * 3) = cs) (w : World) :
    (Instr.makeSlice 74 (.int .i64 ((n : Nat) : Int)) (.int .i64 ((n : Nat) : Int))).run Tryz.prog w = .ok (.slice (some ⟨w.heap.size, 0, none⟩) n n) (w.alloc (.cells cs 71)) := by
  obtain ⟨i0, hi, hz0, hz1, hz2⟩ := info_parts Tryz.infoNum
  have hr := run_make (P := Tryz.prog) w 74 71 i0 _ Tryz.underlying74 hi hz0 .i64 .i64 (n : Int) (n : Int) (by omega) (by omega) (by rw [hz2]; omega) (by omega)
  rw [hz1] at hr
  simp only [Int.toNat_natCast] at hr
  rw [hr, hcs]
theorem AtL.no_int {w : World} {g : Nat} {T : TypeId} {cs : Array Value} (h : AtL w g T cs) (hc : ∀ v ∈ cs.toList, ∀ x, v ≠ .int .u64 x) (i : Nat) (x : Int) : w.cell? ⟨g, i, none⟩ ≠ some (.int .u64 x) := by
  rw [cell_of_row w g i _ _ (0, 0) h]
  intro e
  exact hc _ (by rw [Array.mem_toList_iff]; exact Array.mem_of_getElem? e) x rfl
theorem NumIn.only {w w' : World} {v : Value} {q : Rat} {g : Nat} (h : NumIn w v q) (hg : ∀ i x, w.cell? ⟨g, i, none⟩ ≠ some (.int .u64 x)) (ho : Only g w w') : NumIn w' v q := by
  obtain ⟨a, b, e, h1, h2⟩ := h; exact ⟨a, b, e, h1.only hg ho, h2.only hg ho⟩
theorem Only.alloc {g : Nat} {w w' : World} (h : Only g w w') (o : Obj) : Only g w (w'.alloc o) := h.trans (Only.of_below (box1_below w' o))
set_option maxRecDepth 100000 in
set_option maxHeartbeats 4000000 in
theorem read1_any (w : World) (g : Nat) (q : Rat) (h : AtL w g 23 #[.bool (Big.ng q), .string (bst (Big.nu q)), .string (bst (Big.de q))]) (hfq : Fit q) :
    Calls Tryz.prog 51 #[.slice (some ⟨g, 0, none⟩) 1 1] w (OneR w q) := by
  have hmk : ∀ W, (Instr.makeSlice 74 (.int .i64 1) (.int .i64 1)).run Tryz.prog W = .ok (.slice (some ⟨W.heap.size, 0, none⟩) 1 1) (W.alloc (.cells #[.bool false, .slice none 0 0, .slice none 0 0] 71)) := fun W => make_nums 1 (by omega) #[.bool false, .slice none 0 0, .slice none 0 0] (by first | kernel_rfl | (simp [madeCells]; rfl)) W
  have HA := Lib.hid h
  have HRq := Lib.hid (fun W => exRead_ok W q hfq)
  have HN := Lib.hid (AtL.new w 71 #[.bool false, .slice none 0 0, .slice none 0 0])
  have HB := Lib.hid (box1_below w (.cells #[.bool false, .slice none 0 0, .slice none 0 0] 71))
  have hg := h.lt
  have h' := h.alloc' (.cells #[.bool false, .slice none 0 0, .slice none 0 0] 71)
  have c0 := h'.cell 0 rfl
  have c1 := h'.cell 1 rfl
  have c2 := h'.cell 2 rfl
  clear h h' hfq
  go_enter Tryz.func51, Tryz.ntmps51
  go_wp2_with fail
  refine wp_loop_rounds 2 ?_
  rw [rounds_succ]
  go_wp2_with fail
  clear hmk c0 c1 c2
  have HN0 := Lib.hid (HN.out.alloc' (.cells #[.bool (Big.ng q), .string (bst (Big.nu q)), .string (bst (Big.de q))] 23))
  have HB0 := Lib.hid (below_alloc HB.out (Nat.le_refl _) (.cells #[.bool (Big.ng q), .string (bst (Big.nu q)), .string (bst (Big.de q))] 23))
  generalize (w.alloc (.cells #[.bool false, .slice none 0 0, .slice none 0 0] 71)).alloc (.cells #[.bool (Big.ng q), .string (bst (Big.nu q)), .string (bst (Big.de q))] 23) = wa0 at *
  refine (HRq.out _).mono ?_
  rintro e w0 ⟨v0, rfl, hv0, hw0⟩
  obtain ⟨A0, l0, c0, B0, m0, d0, rfl, ha0, hb0⟩ := hv0.is_agg
  have n0 := HN0.out.keep hw0
  have hlt0 := n0.lt
  have k0 := n0.cell 0 rfl; have k1 := n0.cell 1 rfl; have k2 := n0.cell 2 rfl
  have f0 := n0.frozen 0; have f1 := n0.frozen 1; have f2 := n0.frozen 2
  have s0 : AtL (((w0.setCell ⟨w.heap.size, 0, none⟩ (.bool (Big.ng q))).setCell ⟨w.heap.size, 1, none⟩ (.slice A0 l0 c0)).setCell ⟨w.heap.size, 2, none⟩ (.slice B0 m0 d0)) w.heap.size 71 #[.bool (Big.ng q), .slice A0 l0 c0, .slice B0 m0 d0] := ((n0.set 0 (.bool (Big.ng q))).set 1 (.slice A0 l0 c0)).set 2 (.slice B0 m0 d0)
  have o0 := (((Only.refl w.heap.size w0).setCell 0 (.bool (Big.ng q))).setCell 1 (.slice A0 l0 c0)).setCell 2 (.slice B0 m0 d0)
  have ni0 := n0.no_int (by simp)
  have b0 := HB0.out.trans (hw0.mono HB0.out.size)
  have bb0 : Below w.heap.size w (((w0.setCell ⟨w.heap.size, 0, none⟩ (.bool (Big.ng q))).setCell ⟨w.heap.size, 1, none⟩ (.slice A0 l0 c0)).setCell ⟨w.heap.size, 2, none⟩ (.slice B0 m0 d0)) := ((b0.setCell (p := ⟨w.heap.size, 0, none⟩) (Nat.le_refl _) _).setCell (p := ⟨w.heap.size, 1, none⟩) (Nat.le_refl _) _).setCell (p := ⟨w.heap.size, 2, none⟩) (Nat.le_refl _) _
  have HS0 := Lib.hid (s0.alloc' (.cells #[.bool (Big.ng q), .slice A0 l0 c0, .slice B0 m0 d0] 71))
  have HO0 := Lib.hid (And.intro (hv0.only ni0 (o0.alloc (.cells #[.bool (Big.ng q), .slice A0 l0 c0, .slice B0 m0 d0] 71))) (below_alloc bb0 (Nat.le_refl _) (.cells #[.bool (Big.ng q), .slice A0 l0 c0, .slice B0 m0 d0] 71)))
  clear hv0 hw0 ha0 hb0 n0 s0 o0 ni0 b0 bb0
  go_wp2_with fail
  generalize ((((w0.setCell ⟨w.heap.size, 0, none⟩ (.bool (Big.ng q))).setCell ⟨w.heap.size, 1, none⟩ (.slice A0 l0 c0)).setCell ⟨w.heap.size, 2, none⟩ (.slice B0 m0 d0)).alloc (.cells #[.bool (Big.ng q), .slice A0 l0 c0, .slice B0 m0 d0] 71)) = wz0 at HS0 HO0  ⊢
  clear k0 k1 k2 f0 f1 f2
  rw [rounds_succ]
  go_wp2_with fail
  go_ret2
  exact ⟨_, rfl, ⟨_, _, _, rfl, HS0.out, HO0.out.1⟩, HO0.out.2⟩
set_option maxRecDepth 100000 in
set_option maxHeartbeats 4000000 in
theorem read2_any (w : World) (g : Nat) (q r : Rat) (h : AtL w g 23 #[.bool (Big.ng q), .string (bst (Big.nu q)), .string (bst (Big.de q)), .bool (Big.ng r), .string (bst (Big.nu r)), .string (bst (Big.de r))]) (hfq : Fit q) (hfr : Fit r) :
    Calls Tryz.prog 51 #[.slice (some ⟨g, 0, none⟩) 2 2] w (TwoR w q r) := by
  have hmk : ∀ W, (Instr.makeSlice 74 (.int .i64 2) (.int .i64 2)).run Tryz.prog W = .ok (.slice (some ⟨W.heap.size, 0, none⟩) 2 2) (W.alloc (.cells #[.bool false, .slice none 0 0, .slice none 0 0, .bool false, .slice none 0 0, .slice none 0 0] 71)) := fun W => make_nums 2 (by omega) #[.bool false, .slice none 0 0, .slice none 0 0, .bool false, .slice none 0 0, .slice none 0 0] (by first | kernel_rfl | (simp [madeCells]; rfl)) W
  have HA := Lib.hid h
  have HRq := Lib.hid (fun W => exRead_ok W q hfq)
  have HRr := Lib.hid (fun W => exRead_ok W r hfr)
  have HN := Lib.hid (AtL.new w 71 #[.bool false, .slice none 0 0, .slice none 0 0, .bool false, .slice none 0 0, .slice none 0 0])
  have HB := Lib.hid (box1_below w (.cells #[.bool false, .slice none 0 0, .slice none 0 0, .bool false, .slice none 0 0, .slice none 0 0] 71))
  have hg := h.lt
  have h' := h.alloc' (.cells #[.bool false, .slice none 0 0, .slice none 0 0, .bool false, .slice none 0 0, .slice none 0 0] 71)
  have c0 := h'.cell 0 rfl
  have c1 := h'.cell 1 rfl
  have c2 := h'.cell 2 rfl
  clear h h' hfq hfr
  go_enter Tryz.func51, Tryz.ntmps51
  go_wp2_with fail
  refine wp_loop_rounds 3 ?_
  rw [rounds_succ]
  go_wp2_with fail
  clear hmk c0 c1 c2
  have HN0 := Lib.hid (HN.out.alloc' (.cells #[.bool (Big.ng q), .string (bst (Big.nu q)), .string (bst (Big.de q))] 23))
  have HB0 := Lib.hid (below_alloc HB.out (Nat.le_refl _) (.cells #[.bool (Big.ng q), .string (bst (Big.nu q)), .string (bst (Big.de q))] 23))
  generalize (w.alloc (.cells #[.bool false, .slice none 0 0, .slice none 0 0, .bool false, .slice none 0 0, .slice none 0 0] 71)).alloc (.cells #[.bool (Big.ng q), .string (bst (Big.nu q)), .string (bst (Big.de q))] 23) = wa0 at *
  refine (HRq.out _).mono ?_
  rintro e w0 ⟨v0, rfl, hv0, hw0⟩
  obtain ⟨A0, l0, c0, B0, m0, d0, rfl, ha0, hb0⟩ := hv0.is_agg
  have n0 := HN0.out.keep hw0
  have hlt0 := n0.lt
  have k0 := n0.cell 0 rfl; have k1 := n0.cell 1 rfl; have k2 := n0.cell 2 rfl
  have f0 := n0.frozen 0; have f1 := n0.frozen 1; have f2 := n0.frozen 2
  have s0 : AtL (((w0.setCell ⟨w.heap.size, 0, none⟩ (.bool (Big.ng q))).setCell ⟨w.heap.size, 1, none⟩ (.slice A0 l0 c0)).setCell ⟨w.heap.size, 2, none⟩ (.slice B0 m0 d0)) w.heap.size 71 #[.bool (Big.ng q), .slice A0 l0 c0, .slice B0 m0 d0, .bool false, .slice none 0 0, .slice none 0 0] := ((n0.set 0 (.bool (Big.ng q))).set 1 (.slice A0 l0 c0)).set 2 (.slice B0 m0 d0)
  have o0 := (((Only.refl w.heap.size w0).setCell 0 (.bool (Big.ng q))).setCell 1 (.slice A0 l0 c0)).setCell 2 (.slice B0 m0 d0)
  have ni0 := n0.no_int (by simp)
  have b0 := HB0.out.trans (hw0.mono HB0.out.size)
  have bb0 : Below w.heap.size w (((w0.setCell ⟨w.heap.size, 0, none⟩ (.bool (Big.ng q))).setCell ⟨w.heap.size, 1, none⟩ (.slice A0 l0 c0)).setCell ⟨w.heap.size, 2, none⟩ (.slice B0 m0 d0)) := ((b0.setCell (p := ⟨w.heap.size, 0, none⟩) (Nat.le_refl _) _).setCell (p := ⟨w.heap.size, 1, none⟩) (Nat.le_refl _) _).setCell (p := ⟨w.heap.size, 2, none⟩) (Nat.le_refl _) _
  have HS0 := Lib.hid (s0.alloc' (.cells #[.bool (Big.ng q), .slice A0 l0 c0, .slice B0 m0 d0] 71))
  have HO0 := Lib.hid (And.intro (hv0.only ni0 (o0.alloc (.cells #[.bool (Big.ng q), .slice A0 l0 c0, .slice B0 m0 d0] 71))) (below_alloc bb0 (Nat.le_refl _) (.cells #[.bool (Big.ng q), .slice A0 l0 c0, .slice B0 m0 d0] 71)))
  clear hv0 hw0 ha0 hb0 n0 s0 o0 ni0 b0 bb0
  go_wp2_with fail
  generalize ((((w0.setCell ⟨w.heap.size, 0, none⟩ (.bool (Big.ng q))).setCell ⟨w.heap.size, 1, none⟩ (.slice A0 l0 c0)).setCell ⟨w.heap.size, 2, none⟩ (.slice B0 m0 d0)).alloc (.cells #[.bool (Big.ng q), .slice A0 l0 c0, .slice B0 m0 d0] 71)) = wz0 at HS0 HO0  ⊢
  clear k0 k1 k2 f0 f1 f2
  have HQq := Lib.hid HO0.out.1; have HBz0 := Lib.hid HO0.out.2
  have h' := HA.out.keep HBz0.out
  have c0 := h'.cell 3 rfl
  have c1 := h'.cell 4 rfl
  have c2 := h'.cell 5 rfl
  clear h' HO0
  rw [rounds_succ]
  go_wp2_with fail
  clear c0 c1 c2
  have HN1 := Lib.hid (HS0.out.alloc' (.cells #[.bool (Big.ng r), .string (bst (Big.nu r)), .string (bst (Big.de r))] 23))
  have HB1 := Lib.hid (below_alloc HBz0.out (Nat.le_refl _) (.cells #[.bool (Big.ng r), .string (bst (Big.nu r)), .string (bst (Big.de r))] 23))
  have HQq1 := Lib.hid (HQq.out.keep (box1_below _ (.cells #[.bool (Big.ng r), .string (bst (Big.nu r)), .string (bst (Big.de r))] 23)))
  generalize wz0.alloc (.cells #[.bool (Big.ng r), .string (bst (Big.nu r)), .string (bst (Big.de r))] 23) = wa1 at *
  refine (HRr.out _).mono ?_
  rintro e w1 ⟨v1, rfl, hv1, hw1⟩
  obtain ⟨A1, l1, c1, B1, m1, d1, rfl, ha1, hb1⟩ := hv1.is_agg
  have n1 := HN1.out.keep hw1
  have hlt1 := n1.lt
  have k0 := n1.cell 3 rfl; have k1 := n1.cell 4 rfl; have k2 := n1.cell 5 rfl
  have f0 := n1.frozen 3; have f1 := n1.frozen 4; have f2 := n1.frozen 5
  have s1 : AtL (((w1.setCell ⟨w.heap.size, 3, none⟩ (.bool (Big.ng r))).setCell ⟨w.heap.size, 4, none⟩ (.slice A1 l1 c1)).setCell ⟨w.heap.size, 5, none⟩ (.slice B1 m1 d1)) w.heap.size 71 #[.bool (Big.ng q), .slice A0 l0 c0, .slice B0 m0 d0, .bool (Big.ng r), .slice A1 l1 c1, .slice B1 m1 d1] := ((n1.set 3 (.bool (Big.ng r))).set 4 (.slice A1 l1 c1)).set 5 (.slice B1 m1 d1)
  have o1 := (((Only.refl w.heap.size w1).setCell 3 (.bool (Big.ng r))).setCell 4 (.slice A1 l1 c1)).setCell 5 (.slice B1 m1 d1)
  have ni1 := n1.no_int (by simp)
  have b1 := HB1.out.trans (hw1.mono HB1.out.size)
  have bb1 : Below w.heap.size w (((w1.setCell ⟨w.heap.size, 3, none⟩ (.bool (Big.ng r))).setCell ⟨w.heap.size, 4, none⟩ (.slice A1 l1 c1)).setCell ⟨w.heap.size, 5, none⟩ (.slice B1 m1 d1)) := ((b1.setCell (p := ⟨w.heap.size, 3, none⟩) (Nat.le_refl _) _).setCell (p := ⟨w.heap.size, 4, none⟩) (Nat.le_refl _) _).setCell (p := ⟨w.heap.size, 5, none⟩) (Nat.le_refl _) _
  have HS1 := Lib.hid (s1.alloc' (.cells #[.bool (Big.ng r), .slice A1 l1 c1, .slice B1 m1 d1] 71))
  have HO1 := Lib.hid (And.intro (hv1.only ni1 (o1.alloc (.cells #[.bool (Big.ng r), .slice A1 l1 c1, .slice B1 m1 d1] 71))) (below_alloc bb1 (Nat.le_refl _) (.cells #[.bool (Big.ng r), .slice A1 l1 c1, .slice B1 m1 d1] 71)))
  have HQqX := Lib.hid ((HQq1.out.keep hw1).only ni1 (o1.alloc (.cells #[.bool (Big.ng r), .slice A1 l1 c1, .slice B1 m1 d1] 71)))
  clear hv1 hw1 ha1 hb1 n1 s1 o1 ni1 b1 bb1
  go_wp2_with fail
  generalize ((((w1.setCell ⟨w.heap.size, 3, none⟩ (.bool (Big.ng r))).setCell ⟨w.heap.size, 4, none⟩ (.slice A1 l1 c1)).setCell ⟨w.heap.size, 5, none⟩ (.slice B1 m1 d1)).alloc (.cells #[.bool (Big.ng r), .slice A1 l1 c1, .slice B1 m1 d1] 71)) = wz1 at HS1 HO1 HQqX ⊢
  clear k0 k1 k2 f0 f1 f2
  rw [rounds_succ]
  go_wp2_with fail
  go_ret2
  exact ⟨_, rfl, ⟨_, _, _, _, _, rfl, HS1.out, HQqX.out, HO1.out.1⟩, HO1.out.2⟩
end Go.Proofs.YthjofdfnppadnaaGreatDoor
namespace Go.Proofs.YthjofdfnppadnaaGreatDoor
open Go.RowKit
end Go.Proofs.YthjofdfnppadnaaGreatDoor
namespace Go.Proofs.YthjofdfnppadnaaGreatDoor
open Go.RowKit
set_option maxRecDepth 100000 in
set_option maxHeartbeats 4000000 in
theorem raSign_any (w : World) (q : Rat) (hq : Fit q) :
    Calls Tryz.prog 26 #[.agg #[.bool (Big.ng q), .string (bst (Big.nu q)), .string (bst (Big.de q))]] w fun e w' => e = .returned (.int .i64 (sgQ q)) ∧ Below w.heap.size w w' := by
  have HRD := Lib.hid (fun W g (h : AtL W g 23 #[.bool (Big.ng q), .string (bst (Big.nu q)), .string (bst (Big.de q))]) => read1_any W g q h hq)
  have HB1 := Lib.hid (below_alloc (box1_below w (.cells #[.bool (Big.ng q), .string (bst (Big.nu q)), .string (bst (Big.de q))] 23)) (Nat.le_refl _) (.cells #[.bool (Big.ng q), .string (bst (Big.nu q)), .string (bst (Big.de q))] 23))
  have HN1 := AtL.new (w.alloc (.cells #[.bool (Big.ng q), .string (bst (Big.nu q)), .string (bst (Big.de q))] 23)) 23 #[.bool (Big.ng q), .string (bst (Big.nu q)), .string (bst (Big.de q))]
  rw [alloc_size] at HN1
  have HN1 := Lib.hid HN1
  clear hq
  go_enter Tryz.func26, Tryz.ntmps26
  go_wp2_with fail
  refine (HRD.out _ _ HN1.out).mono ?_
  generalize (w.alloc (.cells #[.bool (Big.ng q), .string (bst (Big.nu q)), .string (bst (Big.de q))] 23)).alloc (.cells #[.bool (Big.ng q), .string (bst (Big.nu q)), .string (bst (Big.de q))] 23) = wa at *
  rintro e w1 ⟨v1, rfl, ⟨g, a, b, rfl, hat, hnq⟩, hw1⟩
  have HB2 := Lib.hid (HB1.out.trans (hw1.mono HB1.out.size))
  obtain ⟨A, l, cc, B, m, dd, e1, -, -⟩ := hnq.is_agg
  simp only [Value.agg.injEq] at e1
  have e1a : a = .slice A l cc := by have := congrArg (fun z : Array Value => z[1]?) e1; simpa using this
  have e1b : b = .slice B m dd := by have := congrArg (fun z : Array Value => z[2]?) e1; simpa using this
  subst e1a e1b
  have HAT := Lib.hid hat; have HNQ := Lib.hid hnq
  clear e1 hat hnq hw1 HB1 HN1 HRD
  have c0 := HAT.out.cell 0 rfl; have c1 := HAT.out.cell 1 rfl; have c2 := HAT.out.cell 2 rfl
  go_wp2_with fail
  refine (exSign_any _ _ q HNQ.out).mono ?_
  rintro e w2 ⟨rfl, hw2⟩
  have HB3 := Lib.hid (HB2.out.trans (hw2.mono HB2.out.size))
  clear hw2 c0 c1 c2
  go_wp2_with fail
  go_ret
  exact ⟨rfl, HB3.out⟩
end Go.Proofs.YthjofdfnppadnaaGreatDoor
namespace Go.Proofs.YthjofdfnppadnaaGreatDoor
open Go.RowKit
theorem cmpB {P : Program} {f : FuncId} {args : Array Value} {b W : World} {v : Value} (h : Below b.heap.size b W) (c : Calls P f args W fun e w' => e = .returned v ∧ Below W.heap.size W w') :
    Calls P f args W fun e w' => e = .returned v ∧ Below b.heap.size b w' :=
  c.mono fun _ _ ⟨h1, h2⟩ => ⟨h1, h.trans (h2.mono h.size)⟩
set_option maxRecDepth 100000 in
set_option maxHeartbeats 4000000 in
theorem raCmp_any (w : World) (q r : Rat) (hq : Fit q) (hr : Fit r) :
    Calls Tryz.prog 15 #[.agg #[.bool (Big.ng q), .string (bst (Big.nu q)), .string (bst (Big.de q))], .agg #[.bool (Big.ng r), .string (bst (Big.nu r)), .string (bst (Big.de r))]] w (Ret2 w (.int .i64 (Big.cmpQ q r)) 0) := by
  have HRD := Lib.hid (fun W g (h : AtL W g 23 #[.bool (Big.ng q), .string (bst (Big.nu q)), .string (bst (Big.de q)), .bool (Big.ng r), .string (bst (Big.nu r)), .string (bst (Big.de r))]) => read2_any W g q r h hq hr)
  have CC := Lib.hid (fun b W v u (h : NumIn W v q) (i : NumIn W u r) (hb : Below b.heap.size b W) => cmpB hb (exCmp_any W v u q r 64 h i hq.sm hr.sm (by omega)))
  have HB1 := Lib.hid (below_alloc (below_alloc (box1_below w (.cells #[.bool (Big.ng q), .string (bst (Big.nu q)), .string (bst (Big.de q))] 23)) (Nat.le_refl _) (.cells #[.bool (Big.ng r), .string (bst (Big.nu r)), .string (bst (Big.de r))] 23)) (Nat.le_refl _) (.cells #[.bool (Big.ng q), .string (bst (Big.nu q)), .string (bst (Big.de q)), .bool (Big.ng r), .string (bst (Big.nu r)), .string (bst (Big.de r))] 23))
  have HN1 := AtL.new ((w.alloc (.cells #[.bool (Big.ng q), .string (bst (Big.nu q)), .string (bst (Big.de q))] 23)).alloc (.cells #[.bool (Big.ng r), .string (bst (Big.nu r)), .string (bst (Big.de r))] 23)) 23 #[.bool (Big.ng q), .string (bst (Big.nu q)), .string (bst (Big.de q)), .bool (Big.ng r), .string (bst (Big.nu r)), .string (bst (Big.de r))]
  rw [alloc_size, alloc_size] at HN1
  have HN1 := Lib.hid HN1
  clear hq hr
  obtain ⟨Z, hZ⟩ : ∃ Z, Big.cmpQ q r = Z := ⟨_, rfl⟩
  rw [hZ] at CC ⊢
  clear hZ
  go_enter Tryz.func15, Tryz.ntmps15
  go_wp2_with fail
  refine (HRD.out _ _ HN1.out).mono ?_
  generalize ((w.alloc (.cells #[.bool (Big.ng q), .string (bst (Big.nu q)), .string (bst (Big.de q))] 23)).alloc (.cells #[.bool (Big.ng r), .string (bst (Big.nu r)), .string (bst (Big.de r))] 23)).alloc (.cells #[.bool (Big.ng q), .string (bst (Big.nu q)), .string (bst (Big.de q)), .bool (Big.ng r), .string (bst (Big.nu r)), .string (bst (Big.de r))] 23) = wa at *
  rintro e w1 ⟨v1, rfl, ⟨g, a, b, c, d, rfl, hat, hnq, hnr⟩, hw1⟩
  have HB2 := Lib.hid (HB1.out.trans (hw1.mono HB1.out.size))
  obtain ⟨A, l, cc, B, m, dd, e1, -, -⟩ := hnq.is_agg
  obtain ⟨A2, l2, cc2, B2, m2, dd2, e2, -, -⟩ := hnr.is_agg
  simp only [Value.agg.injEq] at e1 e2
  have e1a : a = .slice A l cc := by have := congrArg (fun z : Array Value => z[1]?) e1; simpa using this
  have e1b : b = .slice B m dd := by have := congrArg (fun z : Array Value => z[2]?) e1; simpa using this
  have e2a : c = .slice A2 l2 cc2 := by have := congrArg (fun z : Array Value => z[1]?) e2; simpa using this
  have e2b : d = .slice B2 m2 dd2 := by have := congrArg (fun z : Array Value => z[2]?) e2; simpa using this
  subst e1a e1b e2a e2b
  have KX := Lib.hid (fun W (h : Below w1.heap.size w1 W) => And.intro ((hat.keep h).cell 0 rfl) (And.intro ((hat.keep h).cell 1 rfl) (And.intro ((hat.keep h).cell 2 rfl) (And.intro ((hat.keep h).cell 3 rfl) (And.intro ((hat.keep h).cell 4 rfl) ((hat.keep h).cell 5 rfl))))))
  have CF := Lib.hid (fun W (h : Below w1.heap.size w1 W) => CC.out w1 W _ _ (hnq.keep h) (hnr.keep h) h)
  clear e1 e2 hat hnq hnr hw1 HB1 HN1 HRD CC
  go_wp2_with fail
  go_region_held3 (fun w' => w'.cell? ⟨g, 0, none⟩ = some (.bool (Big.ng q)) ∧ w'.cell? ⟨g, 1, none⟩ = some (.slice A l cc) ∧ w'.cell? ⟨g, 2, none⟩ = some (.slice B m dd) ∧ w'.cell? ⟨g, 3, none⟩ = some (.bool (Big.ng r)) ∧ w'.cell? ⟨g, 4, none⟩ = some (.slice A2 l2 cc2) ∧ w'.cell? ⟨g, 5, none⟩ = some (.slice B2 m2 dd2))
    (exact KX.out _ (by first | assumption | exact Below.refl _ _ | exact below_drew (Below.refl _ _) | exact below_drew (by assumption)))
    (first
      | (go_at_call 59; (with_reducible refine (CF.out _ (by first | assumption | exact Below.refl _ _ | exact below_drew (Below.refl _ _) | exact below_drew (by assumption))).mono ?_); rintro e w3 ⟨rfl, hw3⟩)
      | fail)
  have HB3 := Lib.hid (HB2.out.trans (hw3.mono HB2.out.size))
  clear hw3
  go_wp2_with fail
  go_ret2
  exact ⟨rfl, HB3.out⟩
end Go.Proofs.YthjofdfnppadnaaGreatDoor
namespace Go.Proofs.YthjofdfnppadnaaGreatDoor
open Go.RowKit
set_option maxRecDepth 100000 in
set_option maxHeartbeats 4000000 in
theorem exFloor_any (w : World) (vx : Value) (q : Rat) (k : Nat) (hx : NumIn w vx q) (sx : Sm k q) (hk : k ≤ 10000000) :
    Calls Tryz.prog 58 #[vx] w (Num1 w (Big.flQ q)) := by
  have SX := Lib.hid sx
  obtain ⟨A, l, c, A2, l2, c2, rfl, hx1, hx2⟩ := hx.is_agg
  have HX := Lib.hid (And.intro hx1 hx2)
  have HP := Lib.hid (Big.flQ_parts q)
  obtain ⟨X0, R0, B0⟩ := boxed2 w 71 71 (.bool (Big.ng q)) (.slice A l c) (.slice A2 l2 c2) (.bool false) (.slice none 0 0) (.slice none 0 0)
  have HX0 := Lib.hid X0; have HR0 := Lib.hid R0; have HB0 := Lib.hid B0
  clear hx hx1 hx2 sx X0 R0 B0
  generalize Big.flQ q = F at *
  obtain ⟨nq, hnq⟩ : ∃ z, Big.ng q = z := ⟨_, rfl⟩
  rw [hnq] at HP HX0 HR0 HB0 ⊢
  clear hnq
  go_enter Tryz.func58, Tryz.ntmps58
  go_wp2_with fail
  generalize (w.alloc (.cells #[.bool nq, .slice A l c, .slice A2 l2 c2] 71)).alloc (.cells #[.bool false, .slice none 0 0, .slice none 0 0] 71) = w0 at *
  refine (of_num w0 1 M64_gt).mono ?_
  rintro e w1 ⟨v1, rfl, hv1, hw1⟩
  obtain ⟨A8, l8, c8, rfl, -⟩ := hv1.is_slice
  have HV1 := Lib.hid hv1
  have HB1 := Lib.hid (HB0.out.trans (hw1.mono HB0.out.size)); have HX1 := Lib.hid (HX0.out.keep hw1); have HR1 := Lib.hid (HR0.out.keep hw1)
  clear hv1 hw1 HX0 HR0
  have x0 := HX1.out.c0; have x1 := HX1.out.c1; have x2 := HX1.out.c2
  go_wp2_with fail
  refine (quoRem_num w1 _ _ _ _ k (HX.out.1.keep HB1.out) (HX.out.2.keep HB1.out) SX.out.nu (by omega)).mono ?_
  rintro e w2 ⟨v2, v3, rfl, hv2, hv3, hw2⟩
  obtain ⟨A3, l3, c3, rfl, hl3⟩ := hv3.is_slice
  obtain ⟨A4, l4, c4, rfl, -⟩ := hv2.is_slice
  have HV2 := Lib.hid (And.intro hv2 (HV1.out.keep hw2))
  have HB2 := Lib.hid (HB1.out.trans (hw2.mono HB1.out.size)); have HX2 := Lib.hid (HX1.out.keep hw2); have HR2 := Lib.hid (HR1.out.keep hw2)
  have HL3 := Lib.hid hl3
  clear hv2 hv3 hw2 hl3 x0 x1 x2 HX1 HR1 HV1 HB1
  have x0 := HX2.out.c0
  cases nq
  · have e1 : Big.nu F = Big.nu q / Big.de q := by rw [HP.out.2.1, if_neg (by simp)]; rfl
    have e2 := HP.out.2.2
    have h1 := HV2.out.1; have h2 := HV2.out.2
    rw [← e1] at h1; rw [← e2] at h2
    have HHH := Lib.hid (And.intro h1 h2)
    clear e1 e2 h1 h2
    have RR := HR2.out
    have k0 := RR.c0; have k1 := RR.c1; have k2 := RR.c2; have f0 := RR.frozen 0; have f1 := RR.frozen 1; have f2 := RR.frozen 2
    go_wp2_with fail
    obtain ⟨D1, D2, D3⟩ := num_done (bb := false) (show NumRes w2 _ _ from RR) HB2.out (by omega) HHH.out.1 HHH.out.2 HP.out.1.symm
    have HD1 := Lib.hid D1; have HD2 := Lib.hid D2; have HD3 := Lib.hid D3
    clear D1 D2 D3 k0 k1 k2 f0 f1 f2 RR
    generalize (((w2.setCell ⟨w.heap.size + 1, 0, none⟩ (.bool (false))).setCell ⟨w.heap.size + 1, 1, none⟩ (.slice A4 l4 c4)).setCell ⟨w.heap.size + 1, 2, none⟩ (.slice A8 l8 c8)) = wz at HD1 HD2 HD3 ⊢
    have r0 := HD1.out.c0; have r1 := HD1.out.c1; have r2 := HD1.out.c2
    exact bodyPost_ret (v := .agg #[.bool (false), (.slice A4 l4 c4), (.slice A8 l8 c8)]) (by simp [results, Tryz.results58, go_sem, r0, r1, r2]) rfl ⟨_, rfl, HD2.out, HD3.out⟩
  · rcases Nat.eq_zero_or_pos l3 with hl0 | hl0
    · have e0 := HL3.out.1 hl0
      subst hl0
      have e1 : Big.nu F = Big.nu q / Big.de q := by rw [HP.out.2.1, if_neg (by omega)]; rfl
      have e2 := HP.out.2.2
      have h1 := HV2.out.1; have h2 := HV2.out.2
      rw [← e1] at h1; rw [← e2] at h2
      have HHH := Lib.hid (And.intro h1 h2)
      clear e0 e1 e2 h1 h2
      have RR := HR2.out
      have k0 := RR.c0; have k1 := RR.c1; have k2 := RR.c2; have f0 := RR.frozen 0; have f1 := RR.frozen 1; have f2 := RR.frozen 2
      go_wp2_with fail
      obtain ⟨D1, D2, D3⟩ := num_done (bb := true) (show NumRes w2 _ _ from RR) HB2.out (by omega) HHH.out.1 HHH.out.2 HP.out.1.symm
      have HD1 := Lib.hid D1; have HD2 := Lib.hid D2; have HD3 := Lib.hid D3
      clear D1 D2 D3 k0 k1 k2 f0 f1 f2 RR
      generalize (((w2.setCell ⟨w.heap.size + 1, 0, none⟩ (.bool (true))).setCell ⟨w.heap.size + 1, 1, none⟩ (.slice A4 l4 c4)).setCell ⟨w.heap.size + 1, 2, none⟩ (.slice A8 l8 c8)) = wz at HD1 HD2 HD3 ⊢
      have r0 := HD1.out.c0; have r1 := HD1.out.c1; have r2 := HD1.out.c2
      exact bodyPost_ret (v := .agg #[.bool (true), (.slice A4 l4 c4), (.slice A8 l8 c8)]) (by simp [results, Tryz.results58, go_sem, r0, r1, r2]) rfl ⟨_, rfl, HD2.out, HD3.out⟩
    · have t4 : ((l3 : Int) > 0) := by omega
      have e0 : 0 < Big.nu q % Big.de q := by
        rcases Nat.eq_zero_or_pos (Big.nu q % Big.de q) with e | e
        · have := HL3.out.2 e; omega
        · exact e
      have e1 : Big.nu F = Big.nu q / Big.de q + 1 := by rw [HP.out.2.1, if_pos ⟨rfl, e0⟩]
      have e2 := HP.out.2.2
      have CA := Lib.hid (add_num w2 _ _ _ _ k 1 HV2.out.1 HV2.out.2 (SX.out.nu.le (Nat.div_le_self _ _)) sz_one (by omega) (by omega))
      rw [← e1] at CA
      have HE2 := Lib.hid e2
      clear e0 e1 e2
      go_wp2_with fail
      refine CA.out.mono ?_
      rintro e w3 ⟨v5, rfl, hv5, hw3⟩
      obtain ⟨A5, l5, c5, rfl, -⟩ := hv5.is_slice
      have h2 := HV2.out.2.keep hw3
      rw [← HE2.out] at h2
      have HHH := Lib.hid (And.intro hv5 h2)
      have HB3 := Lib.hid (HB2.out.trans (hw3.mono HB2.out.size)); have HR3 := Lib.hid (HR2.out.keep hw3)
      have x0' := (HX2.out.keep hw3).c0
      clear hv5 h2 hw3 x0 HR2
      have RR := HR3.out
      have k0 := RR.c0; have k1 := RR.c1; have k2 := RR.c2; have f0 := RR.frozen 0; have f1 := RR.frozen 1; have f2 := RR.frozen 2
      go_wp2_with fail
      obtain ⟨D1, D2, D3⟩ := num_done (bb := true) (show NumRes w3 _ _ from RR) HB3.out (by omega) HHH.out.1 HHH.out.2 HP.out.1.symm
      have HD1 := Lib.hid D1; have HD2 := Lib.hid D2; have HD3 := Lib.hid D3
      clear D1 D2 D3 k0 k1 k2 f0 f1 f2 RR
      generalize (((w3.setCell ⟨w.heap.size + 1, 0, none⟩ (.bool (true))).setCell ⟨w.heap.size + 1, 1, none⟩ (.slice A5 l5 c5)).setCell ⟨w.heap.size + 1, 2, none⟩ (.slice A8 l8 c8)) = wz at HD1 HD2 HD3 ⊢
      have r0 := HD1.out.c0; have r1 := HD1.out.c1; have r2 := HD1.out.c2
      exact bodyPost_ret (v := .agg #[.bool (true), (.slice A5 l5 c5), (.slice A8 l8 c8)]) (by simp [results, Tryz.results58, go_sem, r0, r1, r2]) rfl ⟨_, rfl, HD2.out, HD3.out⟩
set_option maxRecDepth 100000 in
set_option maxHeartbeats 4000000 in
theorem raFloor_fit (w : World) (q : Rat) (hq : Fit q) (hz : Fit (Big.flQ q)) :
    Calls Tryz.prog 14 #[.agg #[.bool (Big.ng q), .string (bst (Big.nu q)), .string (bst (Big.de q))]] w (Ret2 w (fracV (Big.flQ q)) 0) := by
  have HRD := Lib.hid (fun W g (h : AtL W g 23 #[.bool (Big.ng q), .string (bst (Big.nu q)), .string (bst (Big.de q))]) => read1_any W g q h hq)
  have CF := Lib.hid (fun W v (h : NumIn W v q) => exFloor_any W v q 64 h hq.sm (by omega))
  have CA := Lib.hid (fun W v (h : NumIn W v (Big.flQ q)) => answer_fit W v _ 64 h hz.sm (by omega) hz)
  obtain ⟨X0, R0, B0⟩ := boxed2 w 23 23 (.bool (Big.ng q)) (.string (bst (Big.nu q))) (.string (bst (Big.de q))) (.bool false) (.string ⟨#[]⟩) (.string ⟨#[]⟩)
  have HR0 := Lib.hid (R0.alloc' (.cells #[.bool (Big.ng q), .string (bst (Big.nu q)), .string (bst (Big.de q))] 23)); have HB0 := Lib.hid (below_alloc B0 (Nat.le_refl _) (.cells #[.bool (Big.ng q), .string (bst (Big.nu q)), .string (bst (Big.de q))] 23))
  have HN1 := AtL.new ((w.alloc (.cells #[.bool (Big.ng q), .string (bst (Big.nu q)), .string (bst (Big.de q))] 23)).alloc (.cells #[.bool false, .string ⟨#[]⟩, .string ⟨#[]⟩] 23)) 23 #[.bool (Big.ng q), .string (bst (Big.nu q)), .string (bst (Big.de q))]
  rw [alloc_size, alloc_size] at HN1
  have HN1 := Lib.hid HN1
  clear hq hz X0 R0 B0
  obtain ⟨Z, hZ⟩ : ∃ Z, Big.flQ q = Z := ⟨_, rfl⟩
  rw [hZ] at CF CA ⊢
  clear hZ
  go_enter Tryz.func14, Tryz.ntmps14
  go_wp2_with fail
  refine (HRD.out _ _ HN1.out).mono ?_
  generalize ((w.alloc (.cells #[.bool (Big.ng q), .string (bst (Big.nu q)), .string (bst (Big.de q))] 23)).alloc (.cells #[.bool false, .string ⟨#[]⟩, .string ⟨#[]⟩] 23)).alloc (.cells #[.bool (Big.ng q), .string (bst (Big.nu q)), .string (bst (Big.de q))] 23) = wa at *
  rintro e w1 ⟨v1, rfl, ⟨g, a, b, rfl, hat, hnq⟩, hw1⟩
  have HB2 := Lib.hid (HB0.out.trans (hw1.mono HB0.out.size)); have HR2 := Lib.hid (HR0.out.keep hw1)
  obtain ⟨A, l, cc, B, m, dd, e1, -, -⟩ := hnq.is_agg
  simp only [Value.agg.injEq] at e1
  have e1a : a = .slice A l cc := by have := congrArg (fun z : Array Value => z[1]?) e1; simpa using this
  have e1b : b = .slice B m dd := by have := congrArg (fun z : Array Value => z[2]?) e1; simpa using this
  subst e1a e1b
  have HAT := Lib.hid hat; have HNQ := Lib.hid hnq
  clear e1 hat hnq hw1 HN1 HRD HB0 HR0
  have c0 := HAT.out.cell 0 rfl; have c1 := HAT.out.cell 1 rfl; have c2 := HAT.out.cell 2 rfl
  go_wp2_with fail
  refine (CF.out _ _ HNQ.out).mono ?_
  rintro e w3 ⟨v3, rfl, hv3, hw3⟩
  have HB3 := Lib.hid (HB2.out.trans (hw3.mono HB2.out.size)); have HR3 := Lib.hid (HR2.out.keep hw3)
  clear hw3 c0 c1 c2 HR2
  go_wp2_with fail
  refine (CA.out _ _ hv3).mono ?_
  rintro e w4 ⟨rfl, hw4⟩
  unfold fracV
  have R4 := HR3.out.keep hw4
  have HD := Lib.hid (At3.put R4 (.bool (Big.ng Z)) (.string (bst (Big.nu Z))) (.string (bst (Big.de Z))))
  have HE := Lib.hid (put_below (HB3.out.trans (hw4.mono HB3.out.size)) (show w.heap.size ≤ w.heap.size + 1 by omega) (.bool (Big.ng Z)) (.string (bst (Big.nu Z))) (.string (bst (Big.de Z))))
  have k0 := R4.c0; have k1 := R4.c1; have k2 := R4.c2; have f0 := R4.frozen 0; have f1 := R4.frozen 1; have f2 := R4.frozen 2
  clear R4 hw4 hv3 HR3 HB3 CF CA
  go_wp2_with fail
  generalize (((w4.setCell ⟨w.heap.size + 1, 0, none⟩ (.bool (Big.ng Z))).setCell ⟨w.heap.size + 1, 1, none⟩ (.string (bst (Big.nu Z)))).setCell ⟨w.heap.size + 1, 2, none⟩ (.string (bst (Big.de Z)))) = wz at HD HE ⊢
  clear k0 k1 k2 f0 f1 f2
  have r0 := HD.out.c0; have r1 := HD.out.c1; have r2 := HD.out.c2
  exact bodyPost_ret (v := .tuple #[.agg #[.bool (Big.ng Z), .string (bst (Big.nu Z)), .string (bst (Big.de Z))], .int .i64 0]) (by simp [results, Tryz.results14, go_sem, r0, r1, r2]) rfl ⟨rfl, HE.out⟩
end Go.Proofs.YthjofdfnppadnaaGreatDoor
namespace Go.Proofs.YthjofdfnppadnaaGreatDoor
open Go.RowKit
def txQ (q : Rat) : List UInt8 := (if Big.ng q = true then [45] else []) ++ Lib.decDigits (Big.nu q) ++ (if Big.de q = 1 then [] else 47 :: Lib.decDigits (Big.de q))
theorem textB {P : Program} {f : FuncId} {args : Array Value} {b W : World} {v : Value} (h : Below b.heap.size b W) (c : Calls P f args W fun e w' => e = .returned v ∧ Below W.heap.size W w') :
    Calls P f args W fun e w' => e = .returned v ∧ Below b.heap.size b w' :=
  c.mono fun _ _ ⟨h1, h2⟩ => ⟨h1, h.trans (h2.mono h.size)⟩
theorem add_bytes {P : Program} (a b : List UInt8) (ha : a.length ≤ 1000000) (hb : b.length ≤ 1000000) (W : World) : (Op.stringOp .add ⟨a.toArray⟩ ⟨b.toArray⟩).run P W = .ok (.string ⟨(a ++ b).toArray⟩) W := by
  rw [run_string_add_sum W _ _ (by simp [ByteArray.size]; omega)]
  have e : (⟨a.toArray⟩ : ByteArray) ++ ⟨b.toArray⟩ = ⟨(a ++ b).toArray⟩ := by
    apply ByteArray.ext
    simp
  rw [e]
set_option maxRecDepth 100000 in
set_option maxHeartbeats 4000000 in
theorem raText_any (w : World) (q : Rat) (hq : Fit q) (htab : Tab w) :
    Calls Tryz.prog 12 #[.agg #[.bool (Big.ng q), .string (bst (Big.nu q)), .string (bst (Big.de q))]] w (Ret2 w (.string ⟨(txQ q).toArray⟩) 0) := by
  have HS := Lib.hid hq.sm; have HT := Lib.hid htab
  have CT1 := Lib.hid (fun b W v (h : NatIn W v (Big.nu q)) (ht : Tab W) (hb : Below b.heap.size b W) => textB hb (text_any W v (Big.nu q) 64 h HS.out.nu (by omega) ht))
  have CT2 := Lib.hid (fun b W v (h : NatIn W v (Big.de q)) (ht : Tab W) (hb : Below b.heap.size b W) => textB hb (text_any W v (Big.de q) 64 h HS.out.de (by omega) ht))
  have HTX := Lib.hid (show txQ q = (if Big.ng q = true then [45] else []) ++ Lib.decDigits (Big.nu q) ++ (if Big.de q = 1 then [] else 47 :: Lib.decDigits (Big.de q)) from rfl)
  have HSG := Lib.hid (show (sgQ q < 0) ↔ Big.ng q = true by
    unfold sgQ; split
    · rename_i h; simp [h]
    · rename_i h; simp [h]; split <;> omega)
  clear htab
  have HRD := Lib.hid (fun W g (h : AtL W g 23 #[.bool (Big.ng q), .string (bst (Big.nu q)), .string (bst (Big.de q))]) => read1_any W g q h hq)
  have HB1 := Lib.hid (below_alloc (box1_below w (.cells #[.bool (Big.ng q), .string (bst (Big.nu q)), .string (bst (Big.de q))] 23)) (Nat.le_refl _) (.cells #[.bool (Big.ng q), .string (bst (Big.nu q)), .string (bst (Big.de q))] 23))
  have HN1 := AtL.new (w.alloc (.cells #[.bool (Big.ng q), .string (bst (Big.nu q)), .string (bst (Big.de q))] 23)) 23 #[.bool (Big.ng q), .string (bst (Big.nu q)), .string (bst (Big.de q))]
  rw [alloc_size] at HN1
  have HN1 := Lib.hid HN1
  clear hq
  go_enter Tryz.func12, Tryz.ntmps12
  go_wp2_with fail
  refine (HRD.out _ _ HN1.out).mono ?_
  generalize (w.alloc (.cells #[.bool (Big.ng q), .string (bst (Big.nu q)), .string (bst (Big.de q))] 23)).alloc (.cells #[.bool (Big.ng q), .string (bst (Big.nu q)), .string (bst (Big.de q))] 23) = wa at *
  rintro e w1 ⟨v1, rfl, ⟨g, a, b, rfl, hat, hnq⟩, hw1⟩
  have HB2 := Lib.hid (HB1.out.trans (hw1.mono HB1.out.size))
  obtain ⟨A, l, cc, B, m, dd, e1, -, -⟩ := hnq.is_agg
  simp only [Value.agg.injEq] at e1
  have e1a : a = .slice A l cc := by have := congrArg (fun z : Array Value => z[1]?) e1; simpa using this
  have e1b : b = .slice B m dd := by have := congrArg (fun z : Array Value => z[2]?) e1; simpa using this
  subst e1a e1b
  have HAT := Lib.hid hat; have HNQ := Lib.hid hnq
  clear e1 hat hnq hw1 HB1 HN1 HRD
  have c0 := HAT.out.cell 0 rfl; have c1 := HAT.out.cell 1 rfl; have c2 := HAT.out.cell 2 rfl
  have KX := Lib.hid (fun W (h : Below w1.heap.size w1 W) => And.intro ((HAT.out.keep h).cell 0 rfl) (And.intro ((HAT.out.keep h).cell 1 rfl) ((HAT.out.keep h).cell 2 rfl)))
  have CS := Lib.hid (fun W (h : Below w1.heap.size w1 W) => textB h (exSign_any W _ q (HNQ.out.keep h)))
  have CW := Lib.hid (fun W (h : Below w1.heap.size w1 W) => textB h (exIsWhole_any W _ q (HNQ.out.keep h)))
  have CN := Lib.hid (fun W (h : Below w1.heap.size w1 W) => lift2 h (exNum_any W _ q (HNQ.out.keep h)))
  have CD := Lib.hid (fun W (h : Below w1.heap.size w1 W) => lift2 h (exDen_any W _ q (HNQ.out.keep h)))
  have T1 := Lib.hid (fun W (h : Below w1.heap.size w1 W) => HT.out.keep (HB2.out.trans (h.mono HB2.out.size)))
  go_wp2_with fail
  refine (CN.out _ (Below.refl _ _)).mono ?_
  rintro e w2 ⟨v2, rfl, hv2, hw2, -⟩
  go_wp2_with fail
  refine (CT1.out w1 _ _ hv2 (T1.out _ hw2) hw2).mono ?_
  rintro e w3 ⟨rfl, hw3⟩
  obtain ⟨S1, hS1⟩ : ∃ z, Lib.decDigits (Big.nu q) = z := ⟨_, rfl⟩
  obtain ⟨S2, hS2⟩ : ∃ z, Lib.decDigits (Big.de q) = z := ⟨_, rfl⟩
  have L1 : S1.length ≤ 20 * 64 := by rw [← hS1]; exact Big.dec_len_words (by omega) HS.out.nu.out
  have L2 : S2.length ≤ 20 * 64 := by rw [← hS2]; exact Big.dec_len_words (by omega) HS.out.de.out
  rw [hS1, hS2] at HTX
  rw [hS1]
  rw [hS2] at CT2
  have H1 := Lib.hid hS1; have H2 := Lib.hid hS2
  clear c0 c1 c2 hv2 hw2 hS1 hS2 CT1 CN
  have c0 := (KX.out _ hw3).1; have c1 := (KX.out _ hw3).2.1; have c2 := (KX.out _ hw3).2.2
  go_wp2_with fail
  refine (CS.out _ hw3).mono ?_
  rintro e w4 ⟨rfl, hw4⟩
  clear c0 c1 c2 hw3 CS
  have c0 := (KX.out _ hw4).1; have c1 := (KX.out _ hw4).2.1; have c2 := (KX.out _ hw4).2.2
  obtain ⟨sg, hsg⟩ : ∃ z, sgQ q = z := ⟨_, rfl⟩
  rw [hsg] at HSG ⊢
  clear hsg
  obtain ⟨TX, hTX⟩ : ∃ z, txQ q = z := ⟨_, rfl⟩
  rw [hTX] at HTX
  obtain ⟨dq, hdq⟩ : ∃ z, decide (Big.de q = 1) = z := ⟨_, rfl⟩
  rw [hdq] at CW
  have HDQ := Lib.hid hdq; have HTX2 := Lib.hid hTX
  clear hdq hTX
  by_cases hneg : sg < 0
  · have hnn : Big.ng q = true := HSG.out.1 hneg
    have HNN := Lib.hid hnn
    clear hnn
    have a1 : ∀ W, (Op.stringOp .add ⟨#[45]⟩ ⟨S1.toArray⟩).run Tryz.prog W = .ok (.string ⟨(45 :: S1).toArray⟩) W := fun W => add_bytes [45] S1 (by simp) (by omega) W
    have a2 : ∀ W, (Op.stringOp .add ⟨#[47]⟩ ⟨S2.toArray⟩).run Tryz.prog W = .ok (.string ⟨(47 :: S2).toArray⟩) W := fun W => add_bytes [47] S2 (by simp) (by omega) W
    have a3 : ∀ W, (Op.stringOp .add ⟨(45 :: S1).toArray⟩ ⟨(47 :: S2).toArray⟩).run Tryz.prog W = .ok (.string ⟨(45 :: S1 ++ 47 :: S2).toArray⟩) W := fun W => add_bytes (45 :: S1) (47 :: S2) (by simp; omega) (by simp; omega) W
    have a4 : ∀ W, (Op.stringOp .add ⟨S1.toArray⟩ ⟨(47 :: S2).toArray⟩).run Tryz.prog W = .ok (.string ⟨(S1 ++ 47 :: S2).toArray⟩) W := fun W => add_bytes S1 (47 :: S2) (by omega) (by simp; omega) W
    have t1 : (sg < 0) := hneg
    go_wp2_with fail
    refine (CW.out _ hw4).mono ?_
    rintro e w5 ⟨rfl, hw5⟩
    clear c0 c1 c2 hw4 CW
    have c0 := (KX.out _ hw5).1; have c1 := (KX.out _ hw5).2.1; have c2 := (KX.out _ hw5).2.2
    cases dq
    · go_wp2_with fail
      refine (CD.out _ hw5).mono ?_
      rintro e w6 ⟨v6, rfl, hv6, hw6, -⟩
      go_wp2_with fail
      refine (CT2.out w1 _ _ hv6 (T1.out _ hw6) hw6).mono ?_
      rintro e w7 ⟨rfl, hw7⟩
      have HB7 := Lib.hid (HB2.out.trans (hw7.mono HB2.out.size))
      clear c0 c1 c2 hw5 hw6 hw7 hv6
      go_wp2_with fail
      go_ret2
      refine ⟨?_, HB7.out⟩
      have hd := of_decide_eq_false HDQ.out
      rw [HTX2.out, HTX.out, if_pos HNN.out, if_neg hd]
      first
        | rfl
        | (rw [List.append_nil]; rfl)
    · have HB7 := Lib.hid (HB2.out.trans (hw5.mono HB2.out.size))
      clear hw5
      go_wp2_with fail
      go_ret2
      refine ⟨?_, HB7.out⟩
      have hd := of_decide_eq_true HDQ.out
      rw [HTX2.out, HTX.out, if_pos HNN.out, if_pos hd]
      first
        | rfl
        | (rw [List.append_nil]; rfl)
  · have hnn : ¬ Big.ng q = true := fun e => hneg (HSG.out.2 e)
    have HNN := Lib.hid hnn
    clear hnn
    have a1 : ∀ W, (Op.stringOp .add ⟨#[45]⟩ ⟨S1.toArray⟩).run Tryz.prog W = .ok (.string ⟨(45 :: S1).toArray⟩) W := fun W => add_bytes [45] S1 (by simp) (by omega) W
    have a2 : ∀ W, (Op.stringOp .add ⟨#[47]⟩ ⟨S2.toArray⟩).run Tryz.prog W = .ok (.string ⟨(47 :: S2).toArray⟩) W := fun W => add_bytes [47] S2 (by simp) (by omega) W
    have a3 : ∀ W, (Op.stringOp .add ⟨(45 :: S1).toArray⟩ ⟨(47 :: S2).toArray⟩).run Tryz.prog W = .ok (.string ⟨(45 :: S1 ++ 47 :: S2).toArray⟩) W := fun W => add_bytes (45 :: S1) (47 :: S2) (by simp; omega) (by simp; omega) W
    have a4 : ∀ W, (Op.stringOp .add ⟨S1.toArray⟩ ⟨(47 :: S2).toArray⟩).run Tryz.prog W = .ok (.string ⟨(S1 ++ 47 :: S2).toArray⟩) W := fun W => add_bytes S1 (47 :: S2) (by omega) (by simp; omega) W
    have t1 : ¬ (sg < 0) := hneg
    go_wp2_with fail
    refine (CW.out _ hw4).mono ?_
    rintro e w5 ⟨rfl, hw5⟩
    clear c0 c1 c2 hw4 CW
    have c0 := (KX.out _ hw5).1; have c1 := (KX.out _ hw5).2.1; have c2 := (KX.out _ hw5).2.2
    cases dq
    · go_wp2_with fail
      refine (CD.out _ hw5).mono ?_
      rintro e w6 ⟨v6, rfl, hv6, hw6, -⟩
      go_wp2_with fail
      refine (CT2.out w1 _ _ hv6 (T1.out _ hw6) hw6).mono ?_
      rintro e w7 ⟨rfl, hw7⟩
      have HB7 := Lib.hid (HB2.out.trans (hw7.mono HB2.out.size))
      clear c0 c1 c2 hw5 hw6 hw7 hv6
      go_wp2_with fail
      go_ret2
      refine ⟨?_, HB7.out⟩
      have hd := of_decide_eq_false HDQ.out
      rw [HTX2.out, HTX.out, if_neg HNN.out, if_neg hd]
      first
        | rfl
        | (rw [List.append_nil]; rfl)
    · have HB7 := Lib.hid (HB2.out.trans (hw5.mono HB2.out.size))
      clear hw5
      go_wp2_with fail
      go_ret2
      refine ⟨?_, HB7.out⟩
      have hd := of_decide_eq_true HDQ.out
      rw [HTX2.out, HTX.out, if_neg HNN.out, if_pos hd]
      first
        | rfl
        | (rw [List.append_nil]; rfl)
end Go.Proofs.YthjofdfnppadnaaGreatDoor
