/- The statement TurnRound: whatever four small whole numbers make two half tangents, their points lie on the circle, lead back, and multiply as the half tangents add: it answers true. No condition. -/
import Derived.Test.YtepnghhgmjobjaaTr13
import Derived.Test.YtepnghhgmjobjaaTr15
import Derived.Lib.ItoaMem
import Derived.Test.YtepnghhgmjobjaaTr18
import Derived.Test.YtepnghhgmjobjaaRows
import Derived.Test.YtepnghhgmjobjaaChecked
import Derived.WalkKit
import Derived.ProofKit
import Derived.OpenShut
import Derived.ChangeSame
import Derived.ChangeVars
import Derived.JoinedOf
import Derived.Stop.Joined
import Derived.HandedShaped
import Derived.Test.YtepnghhgmjobjaaProg
import Derived.ChangeArms
import Derived.WideShapes
namespace Go.Proofs.Ytepnghhgmjobjaa
open Go.RowKit
set_option maxRecDepth 100000 in
set_option maxHeartbeats 2000000 in
theorem exOf_any (w : World) (b : Bool) (v u : Value) (n d k j : Nat) (h : NatIn w v n) (i : NatIn w u d) (hn : Sz k n) (hm : Sz j d) (hk : k ≤ 100000000) (hj : j ≤ 100000000) (hd : 1 ≤ d) :
    Calls Try.prog 31 #[.bool b, v, u] w (Num1 w (mkRat (Big.sI b n) d)) := by
  obtain ⟨p1, p2, p3⟩ := Big.of_parts b n d hd
  have HP := Lib.hid (And.intro p1 (And.intro p2 p3))
  have HV := Lib.hid h; have HU := Lib.hid i; have HN := Lib.hid hn; have HM := Lib.hid hm
  obtain ⟨A, l, c, rfl, hl⟩ := h.is_slice
  obtain ⟨A2, l2, c2, rfl, hl2⟩ := i.is_slice
  have t1 : ((l2 : Int) == 0) = false := beq_eq_false_iff_ne.2 (by omega)
  clear p1 p2 p3 h i hn hm hl hl2 hd
  generalize mkRat (Big.sI b n) d = q at *
  go_enter Try.func31, Try.ntmps31
  go_wp2_with fail
  have HB0 := Lib.hid ((Below.refl w.heap.size w).alloc (Nat.le_refl _) (.cells #[.bool false, .slice none 0 0, .slice none 0 0] 58))
  have HR := Lib.hid (At3.new w 58 (.bool false) (.slice none 0 0) (.slice none 0 0))
  generalize w.alloc (.cells #[.bool false, .slice none 0 0, .slice none 0 0] 58) = w0 at *
  refine (gcd_num w0 _ _ n d k j (HV.out.keep HB0.out) (HU.out.keep HB0.out) HN.out HM.out hk hj).mono ?_
  rintro e w1 ⟨v1, rfl, hv1, hb1⟩
  have HV1 := Lib.hid hv1; have HB1 := Lib.hid (HB0.out.trans (hb1.mono HB0.out.size)); have HR1 := Lib.hid (HR.out.keep hb1)
  clear hv1 hb1 HR
  go_wp2_with fail
  refine (quo_num w1 _ _ n _ k (HV.out.keep HB1.out) HV1.out HN.out hk).mono ?_
  rintro e w2 ⟨v2, rfl, hv2, hb2⟩
  have HV2 := Lib.hid hv2
  obtain ⟨A3, l3, c3, rfl, hl3⟩ := hv2.is_slice
  have HV1' := Lib.hid (HV1.out.keep hb2)
  have HB2 := Lib.hid (HB1.out.trans (hb2.mono HB1.out.size)); have HR2 := Lib.hid (HR1.out.keep hb2)
  have HL3 := Lib.hid hl3
  clear hv2 hb2 HR1 hl3
  have g0 : n / Nat.gcd n d = 0 ↔ l3 = 0 := HL3.out.symm
  have CQ := Lib.hid (quo_num w2 _ _ d _ j (HU.out.keep HB2.out) HV1'.out HM.out hj)
  have HBR := Lib.hid (show NumRes w2 w.heap.size 58 from HR2.out)
  have f0 := fun W (hW : Below w2.heap.size w2 W) => (HR2.out.keep hW).frozen 0
  have done : ∀ (bb : Bool) (W : World) (v4 : Value), bb = (b && decide (0 < n / Nat.gcd n d)) → Below w2.heap.size w2 W → NatIn W v4 (d / Nat.gcd n d) →
      At3 (((W.setCell ⟨w.heap.size, 0, none⟩ (.bool bb)).setCell ⟨w.heap.size, 1, none⟩ (.slice A3 l3 c3)).setCell ⟨w.heap.size, 2, none⟩ v4) w.heap.size 58 (.bool bb) (.slice A3 l3 c3) v4 ∧
      Num1 w q (.returned (.agg #[.bool bb, .slice A3 l3 c3, v4])) (((W.setCell ⟨w.heap.size, 0, none⟩ (.bool bb)).setCell ⟨w.heap.size, 1, none⟩ (.slice A3 l3 c3)).setCell ⟨w.heap.size, 2, none⟩ v4) := by
    intro bb W v4 e hW hv4
    have h1 := HV2.out.keep hW
    rw [← HP.out.2.1] at h1
    rw [← HP.out.2.2] at hv4
    have D := num_done (show NumRes W w.heap.size _ from HR2.out.keep hW) (HB2.out.trans (hW.mono HB2.out.size)) (Nat.le_refl _) h1 hv4 (e.trans HP.out.1.symm)
    exact ⟨D.1, _, rfl, D.2⟩
  have DONE := Lib.hid done
  clear done f0
  have t2 : 0 < n / Nat.gcd n d ↔ 0 < l3 := by rw [Nat.pos_iff_ne_zero, Nat.pos_iff_ne_zero, Ne, Ne, g0]
  have t3 : (b && decide (0 < n / Nat.gcd n d)) = (b && decide (0 < l3)) := by rw [decide_eq_decide.2 t2]
  rw [t3] at DONE
  clear g0 t2 t3 HP HL3 HV HU HN HM HV1' HV2 HV1
  rcases Nat.eq_zero_or_pos l3 with hl0 | hl0
  · subst hl0
    rw [decide_eq_false (by omega)] at DONE
    cases b
    all_goals
      go_wp2_with fail
      refine CQ.out.mono ?_
      rintro e w3 ⟨v4, rfl, hv4, hb3⟩
      obtain ⟨A4, l4, c4, rfl, hl4⟩ := hv4.is_slice
      obtain ⟨D1, D2⟩ := DONE.out false w3 _ rfl hb3 hv4
      have R3 := HR2.out.keep hb3
      have k0 := R3.c0; have k1 := R3.c1; have k2 := R3.c2; have f0 := R3.frozen 0; have f1 := R3.frozen 1; have f2 := R3.frozen 2
      have HD1 := Lib.hid D1; have HD2 := Lib.hid D2
      clear D1 D2 R3 hv4 hb3 hl4
      go_wp2_with fail
      generalize (((w3.setCell ⟨w.heap.size, 0, none⟩ (.bool false)).setCell ⟨w.heap.size, 1, none⟩ (.slice A3 0 c3)).setCell ⟨w.heap.size, 2, none⟩ (.slice A4 l4 c4)) = wz at HD1 HD2 ⊢
      have r0 := HD1.out.c0; have r1 := HD1.out.c1; have r2 := HD1.out.c2
      exact bodyPost_ret (v := .agg #[.bool false, .slice A3 0 c3, .slice A4 l4 c4]) (by simp [results, Try.results31, go_sem, r0, r1, r2]) rfl HD2.out
  · have t4 : ((l3 : Int) > 0) := by omega
    rw [decide_eq_true (by omega)] at DONE
    cases b
    · go_wp2_with fail
      refine CQ.out.mono ?_
      rintro e w3 ⟨v4, rfl, hv4, hb3⟩
      obtain ⟨A4, l4, c4, rfl, hl4⟩ := hv4.is_slice
      obtain ⟨D1, D2⟩ := DONE.out false w3 _ rfl hb3 hv4
      have R3 := HR2.out.keep hb3
      have k0 := R3.c0; have k1 := R3.c1; have k2 := R3.c2; have f0 := R3.frozen 0; have f1 := R3.frozen 1; have f2 := R3.frozen 2
      have HD1 := Lib.hid D1; have HD2 := Lib.hid D2
      clear D1 D2 R3 hv4 hb3 hl4
      go_wp2_with fail
      generalize (((w3.setCell ⟨w.heap.size, 0, none⟩ (.bool false)).setCell ⟨w.heap.size, 1, none⟩ (.slice A3 l3 c3)).setCell ⟨w.heap.size, 2, none⟩ (.slice A4 l4 c4)) = wz at HD1 HD2 ⊢
      have r0 := HD1.out.c0; have r1 := HD1.out.c1; have r2 := HD1.out.c2
      exact bodyPost_ret (v := .agg #[.bool false, .slice A3 l3 c3, .slice A4 l4 c4]) (by simp [results, Try.results31, go_sem, r0, r1, r2]) rfl HD2.out
    · go_wp2_with fail
      refine CQ.out.mono ?_
      rintro e w3 ⟨v4, rfl, hv4, hb3⟩
      obtain ⟨A4, l4, c4, rfl, hl4⟩ := hv4.is_slice
      obtain ⟨D1, D2⟩ := DONE.out true w3 _ rfl hb3 hv4
      have R3 := HR2.out.keep hb3
      have k0 := R3.c0; have k1 := R3.c1; have k2 := R3.c2; have f0 := R3.frozen 0; have f1 := R3.frozen 1; have f2 := R3.frozen 2
      have HD1 := Lib.hid D1; have HD2 := Lib.hid D2
      clear D1 D2 R3 hv4 hb3 hl4
      go_wp2_with fail
      generalize (((w3.setCell ⟨w.heap.size, 0, none⟩ (.bool true)).setCell ⟨w.heap.size, 1, none⟩ (.slice A3 l3 c3)).setCell ⟨w.heap.size, 2, none⟩ (.slice A4 l4 c4)) = wz at HD1 HD2 ⊢
      have r0 := HD1.out.c0; have r1 := HD1.out.c1; have r2 := HD1.out.c2
      exact bodyPost_ret (v := .agg #[.bool true, .slice A3 l3 c3, .slice A4 l4 c4]) (by simp [results, Try.results31, go_sem, r0, r1, r2]) rfl HD2.out
end Go.Proofs.Ytepnghhgmjobjaa
namespace Go.Proofs.Ytepnghhgmjobjaa
open Go.RowKit
set_option maxRecDepth 100000 in
set_option maxHeartbeats 4000000 in
theorem rasize_any (w : World) (n : Int) (h0 : -9223372036854775808 ≤ n) (h1 : n ≤ 9223372036854775807) :
    Calls Try.prog 32 #[.int .i64 n] w (Nat1 w n.natAbs) := by
  have hM : n.natAbs < Big.M64 := by unfold Big.M64; omega
  have C := Lib.hid (of_num w n.natAbs hM)
  clear hM
  by_cases hn : n < 0
  · obtain ⟨u, rfl⟩ : ∃ u : Nat, n = -(u : Int) := ⟨n.natAbs, by omega⟩
    have e : (-(u : Int)).natAbs = u := by omega
    rw [e] at C ⊢
    have hwr : IntKind.u64.wrap (-IntKind.u64.wrap (-(u : Int))) = (u : Int) := by rw [IntKind.wrap_u64, IntKind.wrap_u64]; omega
    clear e
    go_enter Try.func32, Try.ntmps32
    go_wp2_with fail
    refine C.out.mono ?_
    rintro e w' ⟨v', rfl, hv, hb⟩
    go_wp2_with fail
    go_ret
    exact ⟨_, rfl, hv, hb⟩
  · obtain ⟨u, rfl⟩ : ∃ u : Nat, n = (u : Int) := ⟨n.natAbs, by omega⟩
    have e : ((u : Int)).natAbs = u := by omega
    rw [e] at C ⊢
    clear e
    go_enter Try.func32, Try.ntmps32
    go_wp2_with fail
    refine C.out.mono ?_
    rintro e w' ⟨v', rfl, hv, hb⟩
    go_wp2_with fail
    go_ret
    exact ⟨_, rfl, hv, hb⟩
def Ret2 (w : World) (v : Value) (n : Int) (e : Ending) (w' : World) : Prop := e = .returned (.tuple #[v, .int .i64 n]) ∧ Below w.heap.size w w'
theorem At3.both {w w' : World} {g : Nat} {T : TypeId} {a b c : Value} (h : At3 w g T a b c) (hb : Below w.heap.size w w') (B : Nat) (w0 : World) (hB : Below B w0 w) : At3 w' g T a b c ∧ Below B w0 w' → At3 w' g T a b c := fun _ => h.keep hb
set_option maxRecDepth 100000 in
set_option maxHeartbeats 4000000 in
theorem answer_fit (w : World) (vx : Value) (q : Rat) (k : Nat) (hx : NumIn w vx q) (sx : Sm k q) (hk : k ≤ 10000000) (hf : Fit q) :
    Calls Try.prog 30 #[vx] w (Ret2 w (fracV q) 0) := by
  have SX := Lib.hid sx; have HF := Lib.hid hf
  obtain ⟨A, l, c, A2, l2, c2, rfl, hx1, hx2⟩ := hx.is_agg
  have HX := Lib.hid (And.intro hx1 hx2)
  have HQ := Lib.hid hx
  obtain ⟨X0, R0, B0⟩ := boxed2 w 58 26 (.bool (Big.ng q)) (.slice A l c) (.slice A2 l2 c2) (.bool false) (.string ⟨#[]⟩) (.string ⟨#[]⟩)
  have HR0 := Lib.hid R0; have HB0 := Lib.hid B0
  have x0 := X0.c0; have x1 := X0.c1; have x2 := X0.c2
  have C := Lib.hid (fun W (h : Below w.heap.size w W) => exFrac_fit W _ q k (HQ.out.keep h) SX.out hk HF.out)
  clear hx hx1 hx2 sx X0 R0 B0 hf
  go_enter Try.func30, Try.ntmps30
  go_wp2_with fail
  refine (C.out _ HB0.out).mono ?_
  generalize (w.alloc (.cells #[.bool (Big.ng q), .slice A l c, .slice A2 l2 c2] 58)).alloc (.cells #[.bool false, .string ⟨#[]⟩, .string ⟨#[]⟩] 26) = w0 at *
  rintro e w1 ⟨rfl, hw1⟩
  unfold fracV
  have HB1 := Lib.hid (HB0.out.trans (hw1.mono HB0.out.size))
  have R1 := HR0.out.keep hw1
  have hlt := R1.lt
  have HD := Lib.hid ((At3.put R1 (.bool (Big.ng q)) (.string (bst (Big.nu q))) (.string (bst (Big.de q)))).alloc' (.cells #[.bool (Big.ng q), .string (bst (Big.nu q)), .string (bst (Big.de q))] 26))
  have HE := Lib.hid (below_alloc (put_below HB1.out (show w.heap.size ≤ w.heap.size + 1 by omega) (.bool (Big.ng q)) (.string (bst (Big.nu q))) (.string (bst (Big.de q)))) (Nat.le_refl _) (.cells #[.bool (Big.ng q), .string (bst (Big.nu q)), .string (bst (Big.de q))] 26))
  have k0 := R1.c0; have k1 := R1.c1; have k2 := R1.c2; have f0 := R1.frozen 0; have f1 := R1.frozen 1; have f2 := R1.frozen 2
  clear R1 hw1 x0 x1 x2 HR0 C
  go_wp2_with fail
  generalize ((((w1.setCell ⟨w.heap.size + 1, 0, none⟩ (.bool (Big.ng q))).setCell ⟨w.heap.size + 1, 1, none⟩ (.string (bst (Big.nu q)))).setCell ⟨w.heap.size + 1, 2, none⟩ (.string (bst (Big.de q)))).alloc (.cells #[.bool (Big.ng q), .string (bst (Big.nu q)), .string (bst (Big.de q))] 26)) = wz at HD HE ⊢
  clear k0 k1 k2 f0 f1 f2
  have r0 := HD.out.c0; have r1 := HD.out.c1; have r2 := HD.out.c2
  exact bodyPost_ret (v := .tuple #[.agg #[.bool (Big.ng q), .string (bst (Big.nu q)), .string (bst (Big.de q))], .int .i64 0]) (by simp [results, Try.results30, go_sem, r0, r1, r2]) rfl ⟨rfl, HE.out⟩
end Go.Proofs.Ytepnghhgmjobjaa
namespace Go.Proofs.Ytepnghhgmjobjaa
open Go.RowKit
def ofQ (n d : Int) : Rat := mkRat (Big.sI (decide (n < 0) != decide (d < 0)) n.natAbs) d.natAbs
theorem ofQ_by {n d : Int} {k : Nat} (hn : n.natAbs < 256 ^ k) (hd : d.natAbs < 256 ^ k) (h0 : d ≠ 0) : By k (ofQ n d) := by
  obtain ⟨_, p2, p3⟩ := Big.of_parts (decide (n < 0) != decide (d < 0)) n.natAbs d.natAbs (by omega)
  unfold ofQ
  exact ⟨by rw [p2]; exact Nat.lt_of_le_of_lt (Nat.div_le_self _ _) hn, by rw [p3]; exact Nat.lt_of_le_of_lt (Nat.div_le_self _ _) hd⟩
set_option maxRecDepth 100000 in
set_option maxHeartbeats 4000000 in
theorem raOf_any (w : World) (n d : Int) (h0 : -9223372036854775808 ≤ n) (h1 : n ≤ 9223372036854775807) (h2 : -9223372036854775808 ≤ d) (h3 : d ≤ 9223372036854775807) (hd : d ≠ 0) :
    Calls Try.prog 9 #[.int .i64 n, .int .i64 d] w (Ret2 w (fracV (ofQ n d)) 0) := by
  have hb : By 8 (ofQ n d) := ofQ_by (by omega) (by omega) hd
  have HF := Lib.hid (hb.fit (by omega))
  have C1 := Lib.hid (fun W => rasize_any W n h0 h1)
  have C2 := Lib.hid (fun W => rasize_any W d h2 h3)
  have z1 : Sz 1 n.natAbs := sz_word (by unfold Big.M64; omega)
  have z2 : Sz 1 d.natAbs := sz_word (by unfold Big.M64; omega)
  have C3 := Lib.hid (fun W b v u (h : NatIn W v n.natAbs) (i : NatIn W u d.natAbs) => exOf_any W b v u n.natAbs d.natAbs 1 1 h i z1 z2 (by omega) (by omega) (by omega))
  have C4 := Lib.hid (fun W v (h : NumIn W v (ofQ n d)) => answer_fit W v _ 64 h HF.out.sm (by omega) HF.out)
  have hd0 : (d == 0) = false := beq_eq_false_iff_ne.2 hd
  have HOF := Lib.hid (show ofQ n d = mkRat (Big.sI (!(decide (n < 0) == decide (d < 0))) n.natAbs) d.natAbs from rfl)
  have HR0 := Lib.hid (At3.new w 26 (.bool false) (.string ⟨#[]⟩) (.string ⟨#[]⟩))
  have HB0 := Lib.hid (box1_below w (.cells #[.bool false, .string ⟨#[]⟩, .string ⟨#[]⟩] 26))
  clear hb z1 z2 hd h0 h1 h2 h3
  obtain ⟨Q, hQ⟩ : ∃ Q, ofQ n d = Q := ⟨_, rfl⟩
  rw [hQ] at HF C4 HOF ⊢
  clear hQ
  go_enter Try.func9, Try.ntmps9
  go_wp2_with fail
  generalize w.alloc (.cells #[.bool false, .string ⟨#[]⟩, .string ⟨#[]⟩] 26) = w0 at *
  refine (C1.out _).mono ?_
  rintro e w1 ⟨v1, rfl, hv1, hw1⟩
  go_wp2_with fail
  refine (C2.out _).mono ?_
  rintro e w2 ⟨v2, rfl, hv2, hw2⟩
  go_wp2_with fail
  refine (C3.out _ _ _ _ (hv1.keep hw2) hv2).mono ?_
  rintro e w3 ⟨v3, rfl, hv3, hw3⟩
  rw [← HOF.out] at hv3
  go_wp2_with fail
  refine (C4.out _ _ hv3).mono ?_
  rintro e w4 ⟨rfl, hw4⟩
  unfold fracV
  have b1 := HB0.out.trans (hw1.mono HB0.out.size)
  have b2 := b1.trans (hw2.mono b1.size)
  have b3 := b2.trans (hw3.mono b2.size)
  have b4 := b3.trans (hw4.mono b3.size)
  have R4 := (((HR0.out.keep hw1).keep hw2).keep hw3).keep hw4
  have HD := Lib.hid (At3.put R4 (.bool (Big.ng Q)) (.string (bst (Big.nu Q))) (.string (bst (Big.de Q))))
  have HE := Lib.hid (put_below b4 (Nat.le_refl _) (.bool (Big.ng Q)) (.string (bst (Big.nu Q))) (.string (bst (Big.de Q))))
  have k0 := R4.c0; have k1 := R4.c1; have k2 := R4.c2; have f0 := R4.frozen 0; have f1 := R4.frozen 1; have f2 := R4.frozen 2
  clear R4 b1 b2 b3 b4 hw1 hw2 hw3 hw4 hv1 hv2 hv3 C1 C2 C3 C4 HOF HR0 HB0
  go_wp2_with fail
  generalize (((w4.setCell ⟨w.heap.size, 0, none⟩ (.bool (Big.ng Q))).setCell ⟨w.heap.size, 1, none⟩ (.string (bst (Big.nu Q)))).setCell ⟨w.heap.size, 2, none⟩ (.string (bst (Big.de Q)))) = wz at HD HE ⊢
  clear k0 k1 k2 f0 f1 f2
  have r0 := HD.out.c0; have r1 := HD.out.c1; have r2 := HD.out.c2
  exact bodyPost_ret (v := .tuple #[.agg #[.bool (Big.ng Q), .string (bst (Big.nu Q)), .string (bst (Big.de Q))], .int .i64 0]) (by simp [results, Try.results9, go_sem, r0, r1, r2]) rfl ⟨rfl, HE.out⟩
end Go.Proofs.Ytepnghhgmjobjaa
namespace Go.Proofs.Ytepnghhgmjobjaa
open Go.RowKit
def Fr1 (w : World) (q : Rat) (e : Ending) (w' : World) : Prop := e = .returned (fracV q) ∧ Below w.heap.size w w'
def lofQ (n d : Int) : Rat := ofQ n (if d = 0 then 1 else d)
end Go.Proofs.Ytepnghhgmjobjaa
namespace Go.Proofs.Ytepnghhgmjobjaa
open Go.RowKit
set_option maxRecDepth 100000 in
set_option maxHeartbeats 4000000 in
theorem lof7_any (w : World) (n d : Int) (h0 : -32768 ≤ n) (h1 : n ≤ 32767) (h2 : -32768 ≤ d) (h3 : d ≤ 32767) :
    Calls Try.prog 6 #[.int .i16 n, .int .i16 d] w (Fr1 w (lofQ n d)) := by
  have HR0 := Lib.hid (At3.new w 26 (.bool false) (.string ⟨#[]⟩) (.string ⟨#[]⟩))
  have HB0 := Lib.hid (box1_below w (.cells #[.bool false, .string ⟨#[]⟩, .string ⟨#[]⟩] 26))
  by_cases hd : d = 0
  · subst hd
    have e : lofQ n 0 = ofQ n 1 := by unfold lofQ; rw [if_pos rfl]
    rw [e]
    have C := Lib.hid (fun W => raOf_any W n 1 (by omega) (by omega) (by omega) (by omega) (by omega))
    obtain ⟨Z, hZ⟩ : ∃ Z, ofQ n 1 = Z := ⟨_, rfl⟩
    rw [hZ] at C ⊢
    clear hZ e
    go_enter Try.func6, Try.ntmps6
    go_wp2_with fail
    refine (C.out _).mono ?_
    generalize w.alloc (.cells #[.bool false, .string ⟨#[]⟩, .string ⟨#[]⟩] 26) = w0 at *
    rintro e w1 ⟨rfl, hw1⟩
    unfold fracV
    have R1 := HR0.out.keep hw1
    have hlt := R1.lt
    have HB1 := Lib.hid (HB0.out.trans (hw1.mono HB0.out.size))
    have HD := Lib.hid ((At3.put R1 (.bool (Big.ng Z)) (.string (bst (Big.nu Z))) (.string (bst (Big.de Z)))).alloc' (.cells #[.bool (Big.ng Z), .string (bst (Big.nu Z)), .string (bst (Big.de Z))] 26))
    have HE := Lib.hid (below_alloc (put_below HB1.out (Nat.le_refl _) (.bool (Big.ng Z)) (.string (bst (Big.nu Z))) (.string (bst (Big.de Z)))) (Nat.le_refl _) (.cells #[.bool (Big.ng Z), .string (bst (Big.nu Z)), .string (bst (Big.de Z))] 26))
    have k0 := R1.c0; have k1 := R1.c1; have k2 := R1.c2; have f0 := R1.frozen 0; have f1 := R1.frozen 1; have f2 := R1.frozen 2
    clear R1 hw1 HR0 HB0 C
    go_wp2_with fail
    generalize ((((w1.setCell ⟨w.heap.size, 0, none⟩ (.bool (Big.ng Z))).setCell ⟨w.heap.size, 1, none⟩ (.string (bst (Big.nu Z)))).setCell ⟨w.heap.size, 2, none⟩ (.string (bst (Big.de Z)))).alloc (.cells #[.bool (Big.ng Z), .string (bst (Big.nu Z)), .string (bst (Big.de Z))] 26)) = wz at HD HE ⊢
    clear k0 k1 k2 f0 f1 f2
    have r0 := HD.out.c0; have r1 := HD.out.c1; have r2 := HD.out.c2
    exact bodyPost_ret (v := .agg #[.bool (Big.ng Z), .string (bst (Big.nu Z)), .string (bst (Big.de Z))]) (by simp [results, Try.results6, go_sem, r0, r1, r2]) rfl ⟨rfl, HE.out⟩
  · have e : lofQ n d = ofQ n d := by unfold lofQ; rw [if_neg hd]
    rw [e]
    have C := Lib.hid (fun W => raOf_any W n d (by omega) (by omega) (by omega) (by omega) hd)
    have hd0 : (d == 0) = false := beq_eq_false_iff_ne.2 hd
    obtain ⟨Z, hZ⟩ : ∃ Z, ofQ n d = Z := ⟨_, rfl⟩
    rw [hZ] at C ⊢
    clear hZ e hd
    go_enter Try.func6, Try.ntmps6
    go_wp2_with fail
    refine (C.out _).mono ?_
    generalize w.alloc (.cells #[.bool false, .string ⟨#[]⟩, .string ⟨#[]⟩] 26) = w0 at *
    rintro e w1 ⟨rfl, hw1⟩
    unfold fracV
    have R1 := HR0.out.keep hw1
    have hlt := R1.lt
    have HB1 := Lib.hid (HB0.out.trans (hw1.mono HB0.out.size))
    have HD := Lib.hid ((At3.put R1 (.bool (Big.ng Z)) (.string (bst (Big.nu Z))) (.string (bst (Big.de Z)))).alloc' (.cells #[.bool (Big.ng Z), .string (bst (Big.nu Z)), .string (bst (Big.de Z))] 26))
    have HE := Lib.hid (below_alloc (put_below HB1.out (Nat.le_refl _) (.bool (Big.ng Z)) (.string (bst (Big.nu Z))) (.string (bst (Big.de Z)))) (Nat.le_refl _) (.cells #[.bool (Big.ng Z), .string (bst (Big.nu Z)), .string (bst (Big.de Z))] 26))
    have k0 := R1.c0; have k1 := R1.c1; have k2 := R1.c2; have f0 := R1.frozen 0; have f1 := R1.frozen 1; have f2 := R1.frozen 2
    clear R1 hw1 HR0 HB0 C
    go_wp2_with fail
    generalize ((((w1.setCell ⟨w.heap.size, 0, none⟩ (.bool (Big.ng Z))).setCell ⟨w.heap.size, 1, none⟩ (.string (bst (Big.nu Z)))).setCell ⟨w.heap.size, 2, none⟩ (.string (bst (Big.de Z)))).alloc (.cells #[.bool (Big.ng Z), .string (bst (Big.nu Z)), .string (bst (Big.de Z))] 26)) = wz at HD HE ⊢
    clear k0 k1 k2 f0 f1 f2
    have r0 := HD.out.c0; have r1 := HD.out.c1; have r2 := HD.out.c2
    exact bodyPost_ret (v := .agg #[.bool (Big.ng Z), .string (bst (Big.nu Z)), .string (bst (Big.de Z))]) (by simp [results, Try.results6, go_sem, r0, r1, r2]) rfl ⟨rfl, HE.out⟩
end Go.Proofs.Ytepnghhgmjobjaa
namespace Go.Proofs.Ytepnghhgmjobjaa
open Go Go.RowKit
namespace Ev
set_option maxRecDepth 100000
noncomputable def getIs : Sy → Option Qe | .is e => some e | _ => none
section
variable {ρ : Env} {A : List As} {B : List Ps} {h h' : Tr (Blk Sy)} {nx nx' : Nat} {R W : List Nat} {r : Ren} {w : World}
theorem is_of {f : Sy} {e : Qe} {v : Value} (hg : getIs f = some e) (h : f.holds ρ w v) : v = .int .i16 (e.ev ρ.q).num ∧ I16 (e.ev ρ.q) := by cases f <;> simp [getIs] at hg; subst hg; exact h
noncomputable def s7 (b : Bool) (e f : Qe) : Qe := cond b e (.quo e f)
noncomputable def of7S (A : List As) (args : List Value) : Option (M Sy Value) := match args with
  | [a, b] => some (bind (knw getIs a) fun e => bind (knw getIs b) fun f => match ask A 1 f z0 with
    | some t => bind (newFacts (frs (s7 t e f))) fun vs => ret (.agg ⟨vs⟩)
    | none => fail)
  | _ => none
theorem ofQ_quo (n d : Int) (hd : d ≠ 0) : ofQ n d = (n : Rat) / (d : Rat) := by
  unfold ofQ
  rw [Rat.mkRat_eq_div]
  have hd' : (d : Rat) ≠ 0 := fun h => hd (by exact_mod_cast h)
  have e1 : ((d.natAbs : Nat) : Rat) = if d < 0 then -(d : Rat) else (d : Rat) := by
    split
    · have : ((d.natAbs : Nat) : Int) = -d := by omega
      rw [show ((d.natAbs : Nat) : Rat) = (((d.natAbs : Nat) : Int) : Rat) from rfl, this, Rat.intCast_neg]
    · have : ((d.natAbs : Nat) : Int) = d := by omega
      rw [show ((d.natAbs : Nat) : Rat) = (((d.natAbs : Nat) : Int) : Rat) from rfl, this]
  have e2 : Big.sI (decide (n < 0) != decide (d < 0)) n.natAbs = if d < 0 then -n else n := by
    unfold Big.sI
    by_cases h1 : n < 0 <;> by_cases h2 : d < 0 <;> simp [h1, h2] <;> omega
  rw [e1, e2]
  by_cases h2 : d < 0
  · rw [if_pos h2, if_pos h2, Rat.intCast_neg]
    have : -(d : Rat) ≠ 0 := by grind
    grind
  · rw [if_neg h2, if_neg h2]
theorem inv_one' : (1 : Rat)⁻¹ = 1 := by grind
theorem num_cast {q : Rat} (h : q.den = 1) : ((q.num : Int) : Rat) = q := by
  apply Rat.ext
  · rfl
  · exact h.symm
theorem lofQ_ev {p q : Rat} (hp : I16 p) (hq : I16 q) : lofQ p.num q.num = if q = 0 then p else p / q := by
  have h1 := num_cast hp.den
  have h2 := num_cast hq.den
  unfold lofQ
  by_cases h0 : q = 0
  · have hn : q.num = 0 := by rw [h0]; rfl
    rw [if_pos hn, if_pos h0, ofQ_quo _ _ (by omega), h1]
    rw [show ((1 : Int) : Rat) = 1 from rfl, Rat.div_def, inv_one', Rat.mul_one]
  · have hn : ¬ q.num = 0 := fun h => h0 (Rat.num_eq_zero.1 h)
    rw [if_neg hn, if_neg h0, ofQ_quo _ _ hn, h1, h2]
theorem s_of7 (hA : AllH ρ A) : SumF (symSig ρ) Try.prog 6 (of7S A) := by
  intro args m e
  unfold of7S at e
  rcases args with _ | ⟨a, _ | ⟨b, _ | ⟨c, l⟩⟩⟩ <;> simp only [reduceCtorEq, Option.some.injEq] at e
  subst e
  refine ⟨loc_bind (loc_knw _ _) fun o => loc_bind (loc_knw _ _) fun o => ?_, ?_⟩
  · split
    · exact loc_bind (loc_newFacts _) fun _ => loc_ret _
    · exact loc_fail
  intro h nx v h' nx' R W e r w args' ha hM hN
  cases ha with
  | cons ha hb =>
  cases hb with
  | cons hb hc =>
  cases hc
  obtain ⟨e0, h1, nx1, R1, W1, R2, W2, e1, e2, rfl, rfl⟩ := bind_ok e
  obtain ⟨rfl, rfl, rfl, f1, hf1, hx⟩ := knw_ok e1 ha hM
  obtain ⟨g0, h2, nx2, R3, W3, R4, W4, e3, e4, rfl, rfl⟩ := bind_ok e2
  obtain ⟨rfl, rfl, rfl, f2, hf2, hy⟩ := knw_ok e3 hb hM
  obtain ⟨rfl, x1⟩ := is_of hf1 hx
  obtain ⟨rfl, y1⟩ := is_of hf2 hy
  cases hz : ask A 1 g0 z0 with
  | none => rw [hz] at e4; cases (show (fail : M Sy Value) _ _ = _ from e4)
  | some t =>
    rw [hz] at e4
    have ht := ask_nought hA hz
    have c := lof7_any w (e0.ev ρ.q).num (g0.ev ρ.q).num x1.lo x1.hi y1.lo y1.hi
    have ee : lofQ (e0.ev ρ.q).num (g0.ev ρ.q).num = (s7 t e0 g0).ev ρ.q := by
      rw [lofQ_ev x1 y1]
      cases t with
      | true => rw [if_pos (ht.1 rfl)]; rfl
      | false => rw [if_neg fun h0 => by have := ht.2 h0; cases this]; rfl
    rw [ee] at c
    simpa [GoesS] using goes_agg e4 hM hN (c.mono fun _ w' hh => ⟨_, hh.1, frs_holds w' (s7 t e0 g0), hh.2⟩)
end
noncomputable def of11 : Fact := ⟨9, [.int .i64 1, .int .i64 1], .tuple ⟨[.agg ⟨[.bool false, .string ⟨⟨[1]⟩⟩, .string ⟨⟨[1]⟩⟩]⟩, .int .i64 0]⟩⟩
theorem of11_ok : of11.ok := Fact.of_run (n := 100) (by kernel_rfl) rfl
noncomputable def ofm1 : Fact := ⟨13, [.int .i64 (-1), .int .i64 0], .agg ⟨[.bool true, .string ⟨⟨[1]⟩⟩, .string ⟨⟨[1]⟩⟩, .bool false, .string ⟨⟨[]⟩⟩, .string ⟨⟨[1]⟩⟩]⟩⟩
theorem ofm1_ok : ofm1.ok := Fact.of_run (n := 100) (by kernel_rfl) rfl
noncomputable def trList (A : List As) (B : List Ps) : List (Nat × (List Value → Option (M Sy Value))) := [
  (7, frc1 (unitS B)), (10, gop1 (halfS A B)), (12, frc2 (sumS A B)),
  (8, gop1 (nrmS B)), (11, gop2 (gans2 B kMul)), (6, of7S A)]
noncomputable def trSums (A : List As) (B : List Ps) : Sums Sy := withF [works7, of11, ofm1] (sumsOf (mkTab (trList A B)))
theorem trSums_ok {ρ : Env} {A : List As} {B : List Ps} (hA : AllH ρ A) (hB : AllP ρ B) : SumOK (symSig ρ) Try.prog (trSums A B) :=
  withF_ok (fun x hx => by
    simp only [List.mem_cons, List.not_mem_nil, or_false] at hx
    rcases hx with rfl | rfl | rfl
    · exact works7_ok
    · exact of11_ok
    · exact ofm1_ok) (sumsOf_ok fun x hx => by
    simp only [trList, List.mem_cons, List.not_mem_nil, or_false] at hx
    rcases hx with rfl | rfl | rfl | rfl | rfl | rfl
    · exact s_unit hB (fun _ _ ht hG hT => tunit_any ht hG hT) (fun _ x hb hG hT => tunit_none x hb hG hT)
    · exact s_half hA hB (fun _ _ _ hx hy hG hT => thalf_any hx hy hG hT) (fun _ x y hb hG hT => thalf_none x y hb hG hT)
    · exact s_sum hA hB (fun _ _ _ hx hy hG hT => tsum_any hx hy hG hT) (fun _ x y hb hG hT => tsum_none x y hb hG hT)
    · exact lsum_norm hB
    · exact lsum_mul hB
    · exact s_of7 hA)
noncomputable def rs (d1 : Bool) : Qe := s7 d1 v0 v1
noncomputable def rt' (d2 : Bool) : Qe := s7 d2 v2 v3
noncomputable def rz (d1 : Bool) : Qe × Qe := uR (rs d1)
noncomputable def rw' (d2 : Bool) : Qe × Qe := uR (rt' d2)
noncomputable def rh (d1 : Bool) : Qe := .quo (rz d1).2 (.add uc (rz d1).1)
noncomputable def rp (d1 d2 : Bool) : Qe × Qe := kMul (rz d1) (rw' d2)
noncomputable def ry (d1 d2 : Bool) : Qe := .sub uc (.mul (rs d1) (rt' d2))
noncomputable def ru (d1 d2 : Bool) : Qe := .quo (.add (rs d1) (rt' d2)) (ry d1 d2)
noncomputable def rA (d1 d2 d3 : Bool) : List As := [⟨1, v1, z0, d1⟩, ⟨1, v3, z0, d2⟩, ⟨1, .add uc (rz d1).1, z0, false⟩, ⟨1, ry d1 d2, z0, d3⟩] ++ (eqs [(nrm (rz d1), uc), (rh d1, rs d1)] ++
  cond d3 (eqs [((rp d1 d2).1, .c true 1 1), ((rp d1 d2).2, .c false 0 1)]) (eqs [((uR (ru d1 d2)).1, (rp d1 d2).1), ((uR (ru d1 d2)).2, (rp d1 d2).2)]))
noncomputable def rB (d1 d2 d3 : Bool) : List Ps := [pr (rs d1, rt' d2) true, pr (rz d1) true, pr (rw' d2) true, pr (nrm (rz d1), nrm (rz d1)) true, pr (rh d1, rh d1) true, pr (rp d1 d2) true] ++ cond d3 [] [pr (ru d1 d2, ru d1 d2) true, pr (uR (ru d1 d2)) true]
noncomputable def rrun (d1 d2 d3 : Bool) : Option (D3 Sy) := tells [.is v0, .is v1, .is v2, .is v3] [.agg 4] (call Try.prog (lawC (rA d1 d2 d3)) (trSums (rA d1 d2 d3) (rB d1 d2 d3)) 30 3)
theorem rr_all (d1 d2 d3 : Bool) : rrun d1 d2 d3 = some yes := by
  cases d1 <;> cases d2 <;> cases d3 <;> kernel_rfl
end Ev
end Go.Proofs.Ytepnghhgmjobjaa
namespace Go.Proofs.Ytepnghhgmjobjaa
open Go Go.RowKit
namespace Ev
set_option maxRecDepth 100000
def uX (s : Rat) : Rat := (1 - s * s) / (1 + s * s)
def uY (s : Rat) : Rat := (s + s) / (1 + s * s)
theorem quo_of {a b c : Rat} (hb : ¬ b = 0) (h : a = c * b) : a / b = c := by
  rw [h, Rat.div_def, Rat.mul_assoc, Rat.mul_inv_cancel _ hb, Rat.mul_one]
theorem of_quo {a b : Rat} (hb : ¬ b = 0) : a / b * b = a := by
  rw [Rat.div_def, Rat.mul_assoc, Rat.inv_mul_cancel _ hb, Rat.mul_one]
theorem uX_eq (s : Rat) : uX s * (1 + s * s) = 1 - s * s := of_quo (one_sq s)
theorem uY_eq (s : Rat) : uY s * (1 + s * s) = s + s := of_quo (one_sq s)
theorem mul_zero' {a b : Rat} (hb : ¬ b = 0) (h : a * b = 0) : a = 0 := by
  rcases Rat.mul_eq_zero.1 h with h | h
  · exact h
  · exact absurd h hb
theorem circle (s : Rat) : uX s * uX s + uY s * uY s = 1 := by
  have hd := one_sq s
  have h1 := uX_eq s
  have h2 := uY_eq s
  generalize uX s = x at *
  generalize uY s = y at *
  have : (x * x + y * y - 1) * (1 + s * s) * (1 + s * s) = 0 := by grind
  have h3 := mul_zero' hd (mul_zero' hd this)
  grind
theorem one_uX (s : Rat) : ¬ 1 + uX s = 0 := fun h => by
  have h1 := uX_eq s
  generalize uX s = x at *
  have h2 : (2 : Rat) = 0 := by grind
  exact absurd h2 (by decide)
theorem back_half (s : Rat) : uY s / (1 + uX s) = s := by
  refine quo_of (one_uX s) ?_
  have hd := one_sq s
  have h1 := uX_eq s
  have h2 := uY_eq s
  generalize uX s = x at *
  generalize uY s = y at *
  have : (y - s * (1 + x)) * (1 + s * s) = 0 := by grind
  have h3 := mul_zero' hd this
  grind
def pX (s t : Rat) : Rat := uX s * uX t - uY s * uY t
def pY (s t : Rat) : Rat := uX s * uY t + uY s * uX t
theorem turned (s t : Rat) (h : 1 - s * t = 0) : pX s t = -1 ∧ pY s t = 0 := by
  have hd := one_sq s
  have he := one_sq t
  have h1 := uX_eq s
  have h2 := uY_eq s
  have h3 := uX_eq t
  have h4 := uY_eq t
  unfold pX pY
  generalize uX s = x at *
  generalize uY s = y at *
  generalize uX t = z at *
  generalize uY t = w at *
  have a1 : (x * z - y * w + 1) * (1 + s * s) * (1 + t * t) = 0 := by grind
  have a2 : (x * w + y * z) * (1 + s * s) * (1 + t * t) = 0 := by grind
  have b1 := mul_zero' hd (mul_zero' he a1)
  have b2 := mul_zero' hd (mul_zero' he a2)
  exact ⟨by grind, b2⟩
theorem summed (s t : Rat) (h : ¬ 1 - s * t = 0) : uX ((s + t) / (1 - s * t)) = pX s t ∧ uY ((s + t) / (1 - s * t)) = pY s t := by
  have hd := one_sq s
  have he := one_sq t
  have h1 := uX_eq s
  have h2 := uY_eq s
  have h3 := uX_eq t
  have h4 := uY_eq t
  have h5 := of_quo (a := s + t) h
  have hf := one_sq ((s + t) / (1 - s * t))
  unfold pX pY
  generalize (s + t) / (1 - s * t) = u at *
  generalize uX s = x at *
  generalize uY s = y at *
  generalize uX t = z at *
  generalize uY t = w at *
  generalize hk : 1 - s * t = k at *
  have e0 : (1 + u * u) * (k * k) = (1 + s * s) * (1 + t * t) := by grind
  have e1 : (x * z - y * w) * ((1 + s * s) * (1 + t * t)) = (1 - u * u) * (k * k) := by grind
  have e2 : (x * w + y * z) * ((1 + s * s) * (1 + t * t)) = (u + u) * (k * k) := by grind
  rw [← e0] at e1 e2
  constructor
  · refine quo_of hf ?_
    have : ((1 - u * u) - (x * z - y * w) * (1 + u * u)) * k * k = 0 := by grind
    have h6 := mul_zero' h (mul_zero' h this)
    grind
  · refine quo_of hf ?_
    have : ((u + u) - (x * w + y * z) * (1 + u * u)) * k * k = 0 := by grind
    have h6 := mul_zero' h (mul_zero' h this)
    grind
theorem by_one : By 1 (1 : Rat) := ⟨by decide, by decide⟩
theorem nu_ne {q : Rat} (h : ¬ q = 0) : Big.nu q ≠ 0 := fun h0 => h (Big.nu_zero.1 h0)
theorem uX_by {s : Rat} {k : Nat} (h : By k s) : By (4 * k + 4) (uX s) := by
  have h1 := h.mul h
  exact ((by_one.sub h1).div (by_one.add h1) (nu_ne (one_sq s))).up (by omega)
theorem uY_by {s : Rat} {k : Nat} (h : By k s) : By (4 * k + 4) (uY s) := by
  have h1 := h.mul h
  exact ((h.add h).div (by_one.add h1) (nu_ne (one_sq s))).up (by omega)
theorem i16_by {q : Rat} (h : I16 q) : By 2 q := by
  refine ⟨?_, ?_⟩
  · have h1 := h.lo
    have h2 := h.hi
    show q.num.natAbs < 256 ^ 2
    omega
  · show q.den < 256 ^ 2
    rw [h.den]; decide
theorem i16_int (n : Int) (h1 : -32768 ≤ n) (h2 : n ≤ 32767) : I16 (n : Rat) := ⟨h1, h2, rfl⟩
theorem turnRound_any (w : World) (a b c d : Int) (ha : -32768 ≤ a ∧ a ≤ 32767) (hb : -32768 ≤ b ∧ b ≤ 32767) (hc : -32768 ≤ c ∧ c ≤ 32767) (hd : -32768 ≤ d ∧ d ≤ 32767) (hG : Try.prog.globals.size ≤ w.heap.size) (hT : Tab w) :
    Calls Try.prog 3 ⟨[.agg ⟨[.int .i16 a, .int .i16 b, .int .i16 c, .int .i16 d]⟩]⟩ w fun e w' => e = .returned (.bool true) ∧ Below w.heap.size w w' := by
  have ia := i16_int a ha.1 ha.2
  have ib := i16_int b hb.1 hb.2
  have ic := i16_int c hc.1 hc.2
  have id' := i16_int d hd.1 hd.2
  have fa := (i16_by ia).fit (by omega)
  have fb := (i16_by ib).fit (by omega)
  have fc := (i16_by ic).fit (by omega)
  have fd := (i16_by id').fit (by omega)
  obtain ⟨ρ, hρ⟩ : ∃ ρ, envOf (a : Rat) (b : Rat) (c : Rat) (d : Rat) fa fb fc fd = ρ := ⟨_, rfl⟩
  have q0 : ρ.q 0 = (a : Rat) := by rw [← hρ]; rfl
  have q1 : ρ.q 1 = (b : Rat) := by rw [← hρ]; rfl
  have q2 : ρ.q 2 = (c : Rat) := by rw [← hρ]; rfl
  have q3 : ρ.q 3 = (d : Rat) := by rw [← hρ]; rfl
  have hu : HoldsL (symSig ρ) w [.is v0, .is v1, .is v2, .is v3] [.int .i16 a, .int .i16 b, .int .i16 c, .int .i16 d] := by
    have key : ∀ (i : Nat) (n : Int), ρ.q i = (n : Rat) → I16 (n : Rat) → Sy.holds ρ (.is (.v i)) w (.int .i16 n) := fun i n hq hi => by
      have e : (Qe.v i).ev ρ.q = (n : Rat) := hq
      refine ⟨?_, ?_⟩
      · rw [e]; rfl
      · rw [e]; exact hi
    exact ⟨_, _, rfl, key 0 a q0 ia, rfl, _, _, rfl, key 1 b q1 ib, rfl, _, _, rfl, key 2 c q2 ic, rfl, _, _, rfl, key 3 d q3 id', rfl, rfl⟩
  obtain ⟨d1, hd1⟩ := zero_bool (v1.ev ρ.q)
  obtain ⟨d2, hd2⟩ := zero_bool (v3.ev ρ.q)
  have qv1 : v1.ev ρ.q = (b : Rat) := q1
  have qv3 : v3.ev ρ.q = (d : Rat) := q3
  have bs : By 4 ((rs d1).ev ρ.q) := by
    cases d1 with
    | true =>
      show By 4 (ρ.q 0)
      rw [q0]; exact (i16_by ia).up (by omega)
    | false =>
      show By 4 (ρ.q 0 / ρ.q 1)
      rw [q0, q1]
      exact (i16_by ia).div (i16_by ib) (nu_ne fun h => by rw [← qv1] at h; have := hd1.2 h; cases this)
  have bt : By 4 ((rt' d2).ev ρ.q) := by
    cases d2 with
    | true =>
      show By 4 (ρ.q 2)
      rw [q2]; exact (i16_by ic).up (by omega)
    | false =>
      show By 4 (ρ.q 2 / ρ.q 3)
      rw [q2, q3]
      exact (i16_by ic).div (i16_by id') (nu_ne fun h => by rw [← qv3] at h; have := hd2.2 h; cases this)
  obtain ⟨S, hS⟩ : ∃ S, (rs d1).ev ρ.q = S := ⟨_, rfl⟩
  obtain ⟨T, hT'⟩ : ∃ T, (rt' d2).ev ρ.q = T := ⟨_, rfl⟩
  rw [hS] at bs
  rw [hT'] at bt
  have evU : ∀ e : Qe, (uR e).1.ev ρ.q = uX (e.ev ρ.q) ∧ (uR e).2.ev ρ.q = uY (e.ev ρ.q) := fun e => by
    refine ⟨?_, ?_⟩
    · show (uc.ev ρ.q - _) / (uc.ev ρ.q + _) = _
      rw [uc_ev]; rfl
    · show _ / (uc.ev ρ.q + _) = _
      rw [uc_ev]; rfl
  have z1 : (rz d1).1.ev ρ.q = uX S := by rw [← hS]; exact (evU _).1
  have z2 : (rz d1).2.ev ρ.q = uY S := by rw [← hS]; exact (evU _).2
  have w1' : (rw' d2).1.ev ρ.q = uX T := by rw [← hT']; exact (evU _).1
  have w2' : (rw' d2).2.ev ρ.q = uY T := by rw [← hT']; exact (evU _).2
  have y1 : (ry d1 d2).ev ρ.q = 1 - S * T := by
    show uc.ev ρ.q - (rs d1).ev ρ.q * (rt' d2).ev ρ.q = _
    rw [uc_ev, hS, hT']
  have p1 : (rp d1 d2).1.ev ρ.q = pX S T := by
    show (rz d1).1.ev ρ.q * (rw' d2).1.ev ρ.q - (rz d1).2.ev ρ.q * (rw' d2).2.ev ρ.q = _
    rw [z1, z2, w1', w2']; rfl
  have p2 : (rp d1 d2).2.ev ρ.q = pY S T := by
    show (rz d1).1.ev ρ.q * (rw' d2).2.ev ρ.q + (rz d1).2.ev ρ.q * (rw' d2).1.ev ρ.q = _
    rw [z1, z2, w1', w2']; rfl
  have a1 : (Qe.add uc (rz d1).1).ev ρ.q = 1 + uX S := by
    show uc.ev ρ.q + (rz d1).1.ev ρ.q = _
    rw [uc_ev, z1]
  have h1 : (rh d1).ev ρ.q = S := by
    show (rz d1).2.ev ρ.q / (Qe.add uc (rz d1).1).ev ρ.q = _
    rw [z2, a1]; exact back_half S
  have n1 : (nrm (rz d1)).ev ρ.q = 1 := by
    show (rz d1).1.ev ρ.q * (rz d1).1.ev ρ.q + (rz d1).2.ev ρ.q * (rz d1).2.ev ρ.q = _
    rw [z1, z2]; exact circle S
  have u1 : (ru d1 d2).ev ρ.q = (S + T) / (1 - S * T) := by
    show ((rs d1).ev ρ.q + (rt' d2).ev ρ.q) / (ry d1 d2).ev ρ.q = _
    rw [y1, hS, hT']
  have bX := uX_by bs
  have bY := uY_by bs
  have cX := uX_by bt
  have cY := uY_by bt
  have bp1 : By 100 (pX S T) := ((bX.mul cX).sub (bY.mul cY)).up (by omega)
  have bp2 : By 100 (pY S T) := ((bX.mul cY).add (bY.mul cX)).up (by omega)
  obtain ⟨d3, hd3⟩ := zero_bool (1 - S * T)
  have hA : AllH ρ (rA d1 d2 d3) := fun z hz => by
    rcases List.mem_append.1 hz with hz | hz
    · simp only [List.mem_cons, List.not_mem_nil, or_false] at hz
      rcases hz with rfl | rfl | rfl | rfl
      · exact hd1
      · exact hd2
      · refine ⟨fun h => (by cases h), fun h => ?_⟩
        rw [a1] at h
        exact absurd h (one_uX S)
      · show d3 = true ↔ _
        rw [y1]; exact hd3
    · rcases List.mem_append.1 hz with hz | hz
      · refine eqs_hold (fun p hp => ?_) z hz
        simp only [List.mem_cons, List.not_mem_nil, or_false] at hp
        rcases hp with rfl | rfl
        · show (nrm (rz d1)).ev ρ.q = uc.ev ρ.q
          rw [n1, uc_ev]
        · show (rh d1).ev ρ.q = (rs d1).ev ρ.q
          rw [h1, hS]
      · cases hd : d3 with
        | true =>
          rw [hd] at hz hd3
          have tt := turned S T (hd3.1 rfl)
          refine eqs_hold (fun p hp => ?_) z hz
          simp only [List.mem_cons, List.not_mem_nil, or_false] at hp
          rcases hp with rfl | rfl
          · show (rp d1 d2).1.ev ρ.q = mkRat (Big.sI true 1) 1
            rw [p1, tt.1]; rfl
          · show (rp d1 d2).2.ev ρ.q = mkRat (Big.sI false 0) 1
            rw [p2, tt.2]; rfl
        | false =>
          rw [hd] at hz hd3
          have ss := summed S T (fun h => by have := hd3.2 h; cases this)
          refine eqs_hold (fun p hp => ?_) z hz
          simp only [List.mem_cons, List.not_mem_nil, or_false] at hp
          rcases hp with rfl | rfl
          · show (uR (ru d1 d2)).1.ev ρ.q = (rp d1 d2).1.ev ρ.q
            rw [(evU _).1, u1, ss.1, p1]
          · show (uR (ru d1 d2)).2.ev ρ.q = (rp d1 d2).2.ev ρ.q
            rw [(evU _).2, u1, ss.2, p2]
  have fits : ∀ (p : Qe × Qe), Fit (p.1.ev ρ.q) → Fit (p.2.ev ρ.q) → (pr p true).holds ρ.q := fun p f1 f2 => ⟨fun _ => ⟨f1, f2⟩, fun _ => rfl⟩
  have hB : AllP ρ (rB d1 d2 d3) := fun z hz => by
    rcases List.mem_append.1 hz with hz | hz
    · simp only [List.mem_cons, List.not_mem_nil, or_false] at hz
      rcases hz with rfl | rfl | rfl | rfl | rfl | rfl
      · exact fits _ (by show Fit ((rs d1).ev ρ.q); rw [hS]; exact bs.fit (by omega)) (by show Fit ((rt' d2).ev ρ.q); rw [hT']; exact bt.fit (by omega))
      · exact fits _ (by rw [z1]; exact bX.fit (by omega)) (by rw [z2]; exact bY.fit (by omega))
      · exact fits _ (by rw [w1']; exact cX.fit (by omega)) (by rw [w2']; exact cY.fit (by omega))
      · exact fits _ (by show Fit ((nrm (rz d1)).ev ρ.q); rw [n1]; exact by_one.fit (by omega)) (by show Fit ((nrm (rz d1)).ev ρ.q); rw [n1]; exact by_one.fit (by omega))
      · exact fits _ (by show Fit ((rh d1).ev ρ.q); rw [h1]; exact bs.fit (by omega)) (by show Fit ((rh d1).ev ρ.q); rw [h1]; exact bs.fit (by omega))
      · exact fits _ (by rw [p1]; exact bp1.fit (by omega)) (by rw [p2]; exact bp2.fit (by omega))
    · cases hd : d3 with
      | true => rw [hd] at hz; cases hz
      | false =>
        rw [hd] at hz hd3
        have hn : ¬ 1 - S * T = 0 := fun h => by have := hd3.2 h; cases this
        have bu : By 20 ((S + T) / (1 - S * T)) := ((bs.add bt).div (by_one.sub (bs.mul bt)) (nu_ne hn)).up (by omega)
        have ss := summed S T hn
        simp only [cond_false, List.mem_cons, List.not_mem_nil, or_false] at hz
        rcases hz with rfl | rfl
        · exact fits _ (by show Fit ((ru d1 d2).ev ρ.q); rw [u1]; exact bu.fit (by omega)) (by show Fit ((ru d1 d2).ev ρ.q); rw [u1]; exact bu.fit (by omega))
        · exact fits _ (by rw [(evU _).1, u1, ss.1]; exact bp1.fit (by omega)) (by rw [(evU _).2, u1, ss.2]; exact bp2.fit (by omega))
  exact (tells_calls (lawFits hA) (trSums_ok hA hB) (rr_all d1 d2 d3) rfl glob_few hu hG hT).mono fun e w' hh => by
    obtain ⟨v', rfl, hv, hb⟩ := hh
    exact ⟨by rw [show v' = .bool true from hv], hb⟩
end Ev
end Go.Proofs.Ytepnghhgmjobjaa
namespace Go.Proofs.Ytepnghhgmjobjaa
open Go.ChangeShapes Go.WideShapes Go.ChangeAt Go.RowKit
theorem own : ownKnob Try.prog.godebug = none := by kernel_rfl
section
variable {H : Type} {enc : TypeId × Value → H} {P : Program}
theorem post_new {f : Func} {s : ChangeSpec} {apart fresh handsOn again : Bool} {W W' : World} {args : Array Value} {v : Value} {ds gs : List (DataW H)}
    (hW : DataW.Whole enc P f.params.toList s.vars apart W args.toList ds gs [])
    (hres : ∀ (b : Nat) (sp : Nat → Bool) (hd : Bool), DataW.TrodAll enc P W' b sp hd f.resultTypes.toList (v.resultList f.resultTypes.size) (s.fn H (ds ++ gs)).results [])
    (hargs : ∀ sp : Nat → Bool, DataW.TrodAll enc P W' 0 sp true f.params.toList args.toList (s.fn H (ds ++ gs)).args [])
    (hvars : ∀ sp : Nat → Bool, DataW.TrodVars enc P W' sp s.vars (s.fn H (ds ++ gs)).vars [])
    (hb : Below W.heap.size W W')
    (hok : ∀ (j : Nat) (t : TypeId) (r : Value), f.resultTypes[j]? = some t → (v.resultList f.resultTypes.size)[j]? = some r → Value.okWide P W' .any 0 t r) :
    s.post enc P f apart fresh handsOn again W args v W' := by
  have hk : W.keptBut W' (fun p => p ∈ ([] : List MemPlace)) := hb.frame _
  refine ⟨ds, gs, [], [], [], [], hW, hres _ _ _, hargs _, hvars _, World.keptBut_mono (fun p hp => by cases hp) hk, fun _ => ?_⟩
  refine ⟨hok, _, _, [], ⟨[], [], trodAll_append (hargs _) (hres _ _ _), hvars _, rfl, ?_, ?_⟩, ?_⟩
  · intro b off hp; cases hp
  · intro _; simp
  · intro p hp; cases hp
end
theorem glob_size {W : World} (h : W.ShapedOpen Try.prog) : Try.prog.globals.size ≤ W.heap.size := by
  have hb : Nat.ble (Try.prog.globals.size + 1) (begin Try.prog (fun _ _ => 0) default).world.heap.size = true := by kernel_rfl
  obtain ⟨o, o0, h1, -⟩ := h.2 Try.prog.globals.size (Nat.le_refl _) (Nat.le_of_ble_eq_true hb)
  exact Nat.le_of_lt (Array.getElem?_eq_some_iff.1 h1).1
end Go.Proofs.Ytepnghhgmjobjaa
namespace Go.Proofs.Ytepnghhgmjobjaa
open Go.ChangeShapes Go.WideShapes Go.RowKit
theorem c_i16a : Try.prog.cellsOf 22 = 1 := by kernel_rfl
theorem c_ang : Try.prog.cellsOf 24 = 4 := by kernel_rfl
section
variable {H : Type} {enc : TypeId × Value → H} {w : World} {base : Nat} {spare : Nat → Bool} {held : Bool}
set_option maxRecDepth 100000 in
theorem ang_open {r : Reach} {b0 : Nat} {v : Value} {D : DataW H} {ps : List MemPlace} (hv : Value.okWide Try.prog w r b0 24 v) (h : DataW.Trod enc Try.prog w base spare held 24 v D ps) :
    ∃ a b c d : Int, v = .agg #[.int .i16 a, .int .i16 b, .int .i16 c, .int .i16 d] ∧ D = .agg [.lit (.int .i16 a), .lit (.int .i16 b), .lit (.int .i16 c), .lit (.int .i16 d)] ∧ ps = [] ∧ (Lit.int .i16 a).wf = true ∧ (Lit.int .i16 b).wf = true ∧ (Lit.int .i16 c).wf = true ∧ (Lit.int .i16 d).wf = true := by
  obtain ⟨cs, rfl, hsz⟩ := okWide_struct Try.underlying24 hv
  obtain ⟨fuel, hf⟩ := h
  obtain ⟨xs, n, -, hx, -, hlen, hg⟩ := DataW.trod_struct Try.underlying24 hf
  rw [c_ang] at hsz
  obtain ⟨l⟩ := cs
  match l, hsz, xs, hlen with
  | [ua, ub, uc, ud], _, [ya, yb, yc, yd], _ =>
    have h0 := hg 0 _ rfl
    simp only [Value.cells, c_i16a, List.drop, List.take, List.getElem?_cons_zero, List.getElem?_cons_succ] at h0
    obtain ⟨a, e0, z0, w0⟩ := DataW.trod_int Try.underlying22 h0
    obtain rfl := (List.cons.inj e0).1; clear e0
    subst z0
    have h1 := hg 1 _ rfl
    simp only [Value.cells, c_i16a, List.drop, List.take, List.getElem?_cons_zero, List.getElem?_cons_succ] at h1
    obtain ⟨b, e1, z1, w1⟩ := DataW.trod_int Try.underlying22 h1
    obtain rfl := (List.cons.inj e1).1; clear e1
    subst z1
    have h2 := hg 2 _ rfl
    simp only [Value.cells, c_i16a, List.drop, List.take, List.getElem?_cons_zero, List.getElem?_cons_succ] at h2
    obtain ⟨c, e2, z2, w2⟩ := DataW.trod_int Try.underlying22 h2
    obtain rfl := (List.cons.inj e2).1; clear e2
    subst z2
    have h3 := hg 3 _ rfl
    simp only [Value.cells, c_i16a, List.drop, List.take, List.getElem?_cons_zero, List.getElem?_cons_succ] at h3
    obtain ⟨d, e3, z3, w3⟩ := DataW.trod_int Try.underlying22 h3
    obtain rfl := (List.cons.inj e3).1; clear e3
    subst z3
    simp only [Prod.mk.injEq] at hx
    exact ⟨a, b, c, d, rfl, by simpa using hx.1, by simpa using hx.2, w0, w1, w2, w3⟩
set_option maxRecDepth 100000 in
theorem ang_shut {a b c d : Int} (h0 : (Lit.int .i16 a).wf = true) (h1 : (Lit.int .i16 b).wf = true) (h2 : (Lit.int .i16 c).wf = true) (h3 : (Lit.int .i16 d).wf = true) :
    DataW.Trod enc Try.prog w base spare held 24 (.agg #[.int .i16 a, .int .i16 b, .int .i16 c, .int .i16 d]) (.agg [.lit (.int .i16 a), .lit (.int .i16 b), .lit (.int .i16 c), .lit (.int .i16 d)]) [] := by
  refine ⟨2, ?_⟩
  have hh : ∀ x : Int, (Lit.int .i16 x).wf = true → DataW.trod enc Try.prog w base spare held 1 22 [.int .i16 x] = some (.lit (.int .i16 x), []) := fun x hx => trod_int_mk 0 Try.underlying22 hx
  have hm := trod_struct_mk (enc := enc) (w := w) (base := base) (spare := spare) (held := held) (n := 1) (cs := [.int .i16 a, .int .i16 b, .int .i16 c, .int .i16 d]) (xs := [(.lit (.int .i16 a), []), (.lit (.int .i16 b), []), (.lit (.int .i16 c), []), (.lit (.int .i16 d), [])]) Try.underlying24 (by rw [c_ang]; rfl) (by
    simp [c_i16a, hh a h0, hh b h1, hh c h2, hh d h3])
  simpa [Value.cells] using hm
end
end Go.Proofs.Ytepnghhgmjobjaa
namespace Go.Proofs.Ytepnghhgmjobjaa
open Go.ChangeShapes Go.WideShapes Go.ChangeAt Go.RowKit Ev
set_option maxRecDepth 100000 in
theorem tround_lifted (os : Os) (started : os.Started) (H : Type) (enc : TypeId × Value → H) :
    ReturnsInHanded {} Try.checked os 3 .any (Rows.turnRoundSpec.pre6 enc Try.prog Try.f3 Rows.turnRoundRow.domain false) (Rows.turnRoundSpec.post enc Try.prog Try.f3 false true false false) := by
  refine returnsInHanded_of_change_shaped (C := Try.checked) own started (by kernel_rfl) Try.func3
    (ChangeSpec.witness6 (enc := enc) (C := Try.checked) false ⟨#[], #[.agg #[.int .i16 0, .int .i16 0, .int .i16 0, .int .i16 0]], []⟩ 8 (by kernel_rfl) (by kernel_rfl) (by kernel_rfl) (by kernel_rfl)) ?_
  intro W base args ds gs before hval0 hW hcnd _ hsh _
  have hval : ∀ (j : Nat) t v, Try.f3.params[j]? = some t → args[j]? = some v → Value.okWide Try.prog W .any base t v := hval0
  have hW' := hW
  obtain ⟨p, q, hA0, hV, rfl, hfz, hnd⟩ := hW
  have hA : DataW.TrodAll enc Try.prog W 0 (fun _ => true) true Try.f3.params.toList args.toList ds p := hA0
  rw [Try.params3] at hA hval
  obtain ⟨v0, vs0, d0, ds0, p0, q0, hargs, rfl, rfl, h0, r0⟩ := trodAll_cons hA
  obtain ⟨hlast, rfl, rfl⟩ := trodAll_nil r0
  obtain rfl : args = #[v0] := by cases args; simp_all
  obtain ⟨rfl, rfl⟩ := trodVars_none hV
  obtain ⟨a0, b0, c0, d0, rfl, rfl, rfl, wa0, wb0, wc0, wd0⟩ := ang_open (hval 0 24 v0 rfl rfl) h0
  have bd : ∀ x : Int, (Lit.int .i16 x).wf = true → -32768 ≤ x ∧ x ≤ 32767 := fun x hx => by
    have emin : IntKind.i16.min = -32768 := by decide
    have emax : IntKind.i16.max = 32767 := by decide
    simpa [Lit.wf, emin, emax] using hx
  have hG := glob_size hsh
  clear hA0 hval0
  simp only [List.append_nil] at hW'
  refine (Ev.turnRound_any W a0 b0 c0 d0 (bd _ wa0) (bd _ wb0) (bd _ wc0) (bd _ wd0) hG trivial).mono fun ee W' ⟨he, hb⟩ => ?_
  subst he
  exact ⟨_, rfl, post_new hW' (fun _ _ _ => (trodAll_cons_mk (shut_bool Try.underlying4 _) trodAll_mk0)) (fun sp => (trodAll_cons_mk (ang_shut wa0 wb0 wc0 wd0) trodAll_mk0)) (fun _ => rfl)
    hb (ok_one (by kernel_rfl) rfl (okWide_bool_mk Try.underlying4 _))⟩
theorem tround_over : Rows.turnRoundRow.holds Try.pinned (OpenSpec.ofChange Rows.turnRoundSpec) :=
  OpenClaim.holds_of_wide 3 Try.f3 rfl rfl rfl rfl rfl rfl rfl ⟨rfl, rfl, rfl, rfl, rfl⟩ rfl rfl rfl rfl rfl (by kernel_rfl) Try.func3 (by kernel_rfl)
    (of_decide_eq_true (by kernel_rfl)) (by unfold Func.isWrapper; first | (rw [if_pos (by decide +kernel)]; kernel_rfl) | (rw [if_neg (by decide +kernel)]; exact ⟨rfl, rfl⟩))
    (fun os started H enc _ => tround_lifted os started H enc)
theorem tround_holds : Rows.TurnRoundSaid := tround_over
end Go.Proofs.Ytepnghhgmjobjaa
