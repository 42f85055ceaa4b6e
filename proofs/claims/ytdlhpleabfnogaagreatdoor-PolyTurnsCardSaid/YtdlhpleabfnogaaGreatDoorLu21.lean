/- Contracts, in this order: exact: Read, of what may be. · exact: sum, Of. · The interpreter: package exact's numbers, of what is known. · nat: Twos, Shr. · The interpreter: package nat's Shr and Twos, of what is know · Package residue: the product of two residues. · The interpreter: package residue's products, and rests over  · The interpreter: strings.Join of texts that are known. · The interpreter: from a run to what the program does. · The interpreter: calls of plain values whose answers are kno -/
import Derived.Test.YtdlhpleabfnogaaGreatDoorLu20
import Derived.Test.YtdlhpleabfnogaaGreatDoorLu18
import Derived.Test.YtdlhpleabfnogaaGreatDoorLu19
import Derived.Test.YtdlhpleabfnogaaGreatDoorLu12
import Derived.Test.YtdlhpleabfnogaaGreatDoorLu14
import Derived.Shelf.Spec.TrailingZeros
import Derived.Test.YtdlhpleabfnogaaGreatDoorLu13
import Derived.Test.YtdlhpleabfnogaaGreatDoorLu10
import Derived.Test.YtdlhpleabfnogaaGreatDoorShelf
namespace Go.Proofs.YtdlhpleabfnogaaGreatDoor
open Go.RowKit
def Read1 (w : World) (q : Rat) (e : Ending) (w' : World) : Prop := ∃ v', e = .returned (.tuple #[v', .bool true]) ∧ NumIn w' v' q ∧ Below w.heap.size w w'
theorem bst_ne {n : Nat} (h : n ≠ 0) : ¬ (bst n).toList = [] := by
  rw [ByteArray.toList_eq, bst_list]; intro e
  have h1 := btx_length n
  rw [e] at h1
  have h2 := szN_pos h
  rw [← h1] at h2
  exact absurd h2 (by simp)
theorem bst_ne2 {n : Nat} (h : n ≠ 0) : (bst n).toList.isEmpty = false := by
  rw [Bool.eq_false_iff]; intro e; exact bst_ne h (List.isEmpty_iff.1 e)
set_option maxRecDepth 100000 in
set_option maxHeartbeats 4000000 in
theorem exRead_ok (w : World) (q : Rat) (hf : Fit q) :
    Calls Tryz.prog 36 #[.agg #[.bool (Big.ng q), .string (bst (Big.nu q)), .string (bst (Big.de q))]] w (Read1 w q) := by
  have M1 := Lib.hid (fun W => mayBe_any W (bst (Big.nu q)) (by rw [bst_size]; have := hf.nu; omega))
  have M2 := Lib.hid (fun W => mayBe_any W (bst (Big.de q)) (by rw [bst_size]; have := hf.de; omega))
  rw [mayB_bst hf.nu] at M1
  rw [mayB_bst hf.de] at M2
  have S := Lib.hid hf.sm
  have P := Lib.hid (show NumIn w (.agg #[.bool (Big.ng q), .slice none 0 0, .slice none 0 0]) q → True from fun _ => trivial)
  have F1 := Lib.hid (fun W => fromBytes_num W (Big.nu q) (by have := hf.nu; omega))
  have F2 := Lib.hid (fun W => fromBytes_num W (Big.de q) (by have := hf.de; omega))
  have d1 := bst_ne (n := Big.de q) (by have := Big.de_pos q; omega)
  have d2 := bst_ne2 (n := Big.de q) (by have := Big.de_pos q; omega)
  have n0 : Big.ng q = true → ¬ (bst (Big.nu q)).toList = [] ∧ (bst (Big.nu q)).toList.isEmpty = false := fun h => by
    have h1 := Big.ng_pos h
    exact ⟨bst_ne (by omega), bst_ne2 (by omega)⟩
  obtain ⟨X0, R0, B0⟩ := boxed2 w 35 71 (.bool (Big.ng q)) (.string (bst (Big.nu q))) (.string (bst (Big.de q))) (.bool false) (.slice none 0 0) (.slice none 0 0)
  have HX0 := Lib.hid X0; have HR0 := Lib.hid R0; have HB0 := Lib.hid B0
  have HC := Lib.hid (Big.cop q)
  have HNG := Lib.hid (rfl : Big.ng q = Big.ng q)
  clear hf X0 R0 B0 P HNG
  obtain ⟨nq, hnq⟩ : ∃ z, Big.ng q = z := ⟨_, rfl⟩
  rw [hnq] at n0 HX0 HR0 HB0 ⊢
  have HNQ := Lib.hid hnq
  clear hnq
  have HN0 := Lib.hid n0
  clear n0
  cases nq
  · go_enter Tryz.func36, Tryz.ntmps36
    go_wp2_with fail
    generalize (w.alloc (.cells #[.bool false, .string (bst (Big.nu q)), .string (bst (Big.de q))] 35)).alloc (.cells #[.bool false, .slice none 0 0, .slice none 0 0] 71) = w0 at *
    have x0 := HX0.out.c0; have x1 := HX0.out.c1; have x2 := HX0.out.c2
    go_wp2_with (first
      | (go_at_call 71; with_reducible refine (M1.out _).mono ?_; rintro e w' ⟨rfl, rfl⟩)
      | (go_at_call 71; with_reducible refine (M2.out _).mono ?_; rintro e w' ⟨rfl, rfl⟩))
    clear x0 x1 x2 d1 d2
    have KX := Lib.hid (fun W (h : Below w0.heap.size w0 W) => And.intro (HX0.out.keep h).c1 (HX0.out.keep h).c2)
    have C1 := Lib.hid (fun W (h : Below w0.heap.size w0 W) => lift2 h (F1.out W))
    have C2 := Lib.hid (fun W (h : Below w0.heap.size w0 W) => lift2 h (F2.out W))
    go_region_held3 (fun w' => w'.cell? ⟨w.heap.size, 1, none⟩ = some (.string (bst (Big.nu q))) ∧ w'.cell? ⟨w.heap.size, 2, none⟩ = some (.string (bst (Big.de q))))
      (exact KX.out _ (by first | assumption | exact Below.refl _ _ | exact below_drew (Below.refl _ _) | exact below_drew (by assumption)))
      (first
        | (go_at_call 72; (with_reducible refine (C1.out _ (by first | assumption | exact Below.refl _ _ | exact below_drew (Below.refl _ _) | exact below_drew (by assumption))).mono ?_); rintro e w2 ⟨v2, rfl, hv2, hw2, hw2'⟩)
        | (go_at_call 72; (with_reducible refine (C2.out _ (by first | assumption | exact Below.refl _ _ | exact below_drew (Below.refl _ _) | exact below_drew (by assumption))).mono ?_); rintro e w3 ⟨v3, rfl, hv3, hw3, hw3'⟩)
        | fail)
    have HB3 := Lib.hid (HB0.out.trans (hw3.mono HB0.out.size))
    have HX3 := Lib.hid (HX0.out.keep hw3); have HR3 := Lib.hid (HR0.out.keep hw3)
    have HV := Lib.hid (And.intro (hv2.keep hw3') hv3)
    clear hv2 hv3 hw2 hw2' hw3 hw3' HX0 HR0 HB0 KX C1 C2
    have G := Lib.hid (gcd_num w3 _ _ _ _ 64 64 HV.out.1 HV.out.2 S.out.nu S.out.de (by omega) (by omega))
    rw [HC.out] at G
    go_wp2_with fail
    refine G.out.mono ?_
    rintro e w4 ⟨v4, rfl, hv4, hw4⟩
    have I := Lib.hid (isOne_num w4 v4 1 hv4)
    rw [decide_eq_true rfl] at I
    have HB4 := Lib.hid (HB3.out.trans (hw4.mono HB3.out.size))
    have HX4 := Lib.hid (HX3.out.keep hw4); have HR4 := Lib.hid (HR3.out.keep hw4)
    have HV4 := Lib.hid (And.intro (HV.out.1.keep hw4) (HV.out.2.keep hw4))
    clear hv4 hw4 HB3 HX3 HR3 HV G
    go_wp2_with fail
    refine I.out.mono ?_
    rintro e w' ⟨rfl, rfl⟩
    obtain ⟨A8, l8, c8, rfl, -⟩ := HV4.out.1.is_slice
    obtain ⟨A9, l9, c9, rfl, -⟩ := HV4.out.2.is_slice
    have RR := HR4.out
    have x0 := HX4.out.c0
    have k0 := RR.c0; have k1 := RR.c1; have k2 := RR.c2; have f0 := RR.frozen 0; have f1 := RR.frozen 1; have f2 := RR.frozen 2
    go_wp2_with fail
    obtain ⟨D1, D2, D3⟩ := num_done (bb := false) (show NumRes w4 _ _ from RR) HB4.out (by omega) HV4.out.1 HV4.out.2 HNQ.out.symm
    have HD1 := Lib.hid D1; have HD2 := Lib.hid D2; have HD3 := Lib.hid D3
    clear D1 D2 D3 k0 k1 k2 f0 f1 f2 RR
    generalize (((w4.setCell ⟨w.heap.size + 1, 0, none⟩ (.bool (false))).setCell ⟨w.heap.size + 1, 1, none⟩ (.slice A8 l8 c8)).setCell ⟨w.heap.size + 1, 2, none⟩ (.slice A9 l9 c9)) = wz at HD1 HD2 HD3 ⊢
    have r0 := HD1.out.c0; have r1 := HD1.out.c1; have r2 := HD1.out.c2
    exact bodyPost_ret (v := .tuple #[.agg #[.bool (false), .slice A8 l8 c8, .slice A9 l9 c9], .bool true]) (by simp [results, Tryz.results36, go_sem, r0, r1, r2]) rfl ⟨_, rfl, HD2.out, HD3.out⟩
  · obtain ⟨z1, z2⟩ := HN0.out rfl
    go_enter Tryz.func36, Tryz.ntmps36
    go_wp2_with fail
    generalize (w.alloc (.cells #[.bool true, .string (bst (Big.nu q)), .string (bst (Big.de q))] 35)).alloc (.cells #[.bool false, .slice none 0 0, .slice none 0 0] 71) = w0 at *
    have x0 := HX0.out.c0; have x1 := HX0.out.c1; have x2 := HX0.out.c2
    go_wp2_with (first
      | (go_at_call 71; with_reducible refine (M1.out _).mono ?_; rintro e w' ⟨rfl, rfl⟩)
      | (go_at_call 71; with_reducible refine (M2.out _).mono ?_; rintro e w' ⟨rfl, rfl⟩))
    clear x0 x1 x2 d1 d2
    have KX := Lib.hid (fun W (h : Below w0.heap.size w0 W) => And.intro (HX0.out.keep h).c1 (HX0.out.keep h).c2)
    have C1 := Lib.hid (fun W (h : Below w0.heap.size w0 W) => lift2 h (F1.out W))
    have C2 := Lib.hid (fun W (h : Below w0.heap.size w0 W) => lift2 h (F2.out W))
    go_region_held3 (fun w' => w'.cell? ⟨w.heap.size, 1, none⟩ = some (.string (bst (Big.nu q))) ∧ w'.cell? ⟨w.heap.size, 2, none⟩ = some (.string (bst (Big.de q))))
      (exact KX.out _ (by first | assumption | exact Below.refl _ _ | exact below_drew (Below.refl _ _) | exact below_drew (by assumption)))
      (first
        | (go_at_call 72; (with_reducible refine (C1.out _ (by first | assumption | exact Below.refl _ _ | exact below_drew (Below.refl _ _) | exact below_drew (by assumption))).mono ?_); rintro e w2 ⟨v2, rfl, hv2, hw2, hw2'⟩)
        | (go_at_call 72; (with_reducible refine (C2.out _ (by first | assumption | exact Below.refl _ _ | exact below_drew (Below.refl _ _) | exact below_drew (by assumption))).mono ?_); rintro e w3 ⟨v3, rfl, hv3, hw3, hw3'⟩)
        | fail)
    have HB3 := Lib.hid (HB0.out.trans (hw3.mono HB0.out.size))
    have HX3 := Lib.hid (HX0.out.keep hw3); have HR3 := Lib.hid (HR0.out.keep hw3)
    have HV := Lib.hid (And.intro (hv2.keep hw3') hv3)
    clear hv2 hv3 hw2 hw2' hw3 hw3' HX0 HR0 HB0 KX C1 C2
    have G := Lib.hid (gcd_num w3 _ _ _ _ 64 64 HV.out.1 HV.out.2 S.out.nu S.out.de (by omega) (by omega))
    rw [HC.out] at G
    go_wp2_with fail
    refine G.out.mono ?_
    rintro e w4 ⟨v4, rfl, hv4, hw4⟩
    have I := Lib.hid (isOne_num w4 v4 1 hv4)
    rw [decide_eq_true rfl] at I
    have HB4 := Lib.hid (HB3.out.trans (hw4.mono HB3.out.size))
    have HX4 := Lib.hid (HX3.out.keep hw4); have HR4 := Lib.hid (HR3.out.keep hw4)
    have HV4 := Lib.hid (And.intro (HV.out.1.keep hw4) (HV.out.2.keep hw4))
    clear hv4 hw4 HB3 HX3 HR3 HV G
    go_wp2_with fail
    refine I.out.mono ?_
    rintro e w' ⟨rfl, rfl⟩
    obtain ⟨A8, l8, c8, rfl, -⟩ := HV4.out.1.is_slice
    obtain ⟨A9, l9, c9, rfl, -⟩ := HV4.out.2.is_slice
    have RR := HR4.out
    have x0 := HX4.out.c0
    have k0 := RR.c0; have k1 := RR.c1; have k2 := RR.c2; have f0 := RR.frozen 0; have f1 := RR.frozen 1; have f2 := RR.frozen 2
    go_wp2_with fail
    obtain ⟨D1, D2, D3⟩ := num_done (bb := true) (show NumRes w4 _ _ from RR) HB4.out (by omega) HV4.out.1 HV4.out.2 HNQ.out.symm
    have HD1 := Lib.hid D1; have HD2 := Lib.hid D2; have HD3 := Lib.hid D3
    clear D1 D2 D3 k0 k1 k2 f0 f1 f2 RR
    generalize (((w4.setCell ⟨w.heap.size + 1, 0, none⟩ (.bool (true))).setCell ⟨w.heap.size + 1, 1, none⟩ (.slice A8 l8 c8)).setCell ⟨w.heap.size + 1, 2, none⟩ (.slice A9 l9 c9)) = wz at HD1 HD2 HD3 ⊢
    have r0 := HD1.out.c0; have r1 := HD1.out.c1; have r2 := HD1.out.c2
    exact bodyPost_ret (v := .tuple #[.agg #[.bool (true), .slice A8 l8 c8, .slice A9 l9 c9], .bool true]) (by simp [results, Tryz.results36, go_sem, r0, r1, r2]) rfl ⟨_, rfl, HD2.out, HD3.out⟩
end Go.Proofs.YtdlhpleabfnogaaGreatDoor
namespace Go.Proofs.YtdlhpleabfnogaaGreatDoor
open Go.RowKit
set_option maxRecDepth 100000 in
set_option maxHeartbeats 2000000 in
theorem exOf_any (w : World) (b : Bool) (v u : Value) (n d k j : Nat) (h : NatIn w v n) (i : NatIn w u d) (hn : Sz k n) (hm : Sz j d) (hk : k ≤ 100000000) (hj : j ≤ 100000000) (hd : 1 ≤ d) :
    Calls Tryz.prog 33 #[.bool b, v, u] w (Num1 w (mkRat (Big.sI b n) d)) := by
  obtain ⟨p1, p2, p3⟩ := Big.of_parts b n d hd
  have HP := Lib.hid (And.intro p1 (And.intro p2 p3))
  have HV := Lib.hid h; have HU := Lib.hid i; have HN := Lib.hid hn; have HM := Lib.hid hm
  obtain ⟨A, l, c, rfl, hl⟩ := h.is_slice
  obtain ⟨A2, l2, c2, rfl, hl2⟩ := i.is_slice
  have t1 : ((l2 : Int) == 0) = false := beq_eq_false_iff_ne.2 (by omega)
  clear p1 p2 p3 h i hn hm hl hl2 hd
  generalize mkRat (Big.sI b n) d = q at *
  go_enter Tryz.func33, Tryz.ntmps33
  go_wp2_with fail
  have HB0 := Lib.hid ((Below.refl w.heap.size w).alloc (Nat.le_refl _) (.cells #[.bool false, .slice none 0 0, .slice none 0 0] 71))
  have HR := Lib.hid (At3.new w 71 (.bool false) (.slice none 0 0) (.slice none 0 0))
  generalize w.alloc (.cells #[.bool false, .slice none 0 0, .slice none 0 0] 71) = w0 at *
  refine (gcd_num w0 _ _ n d k j (HV.out.keep HB0.out) (HU.out.keep HB0.out) HN.out HM.out hk hj).mono ?_
  rintro e w1 ⟨v1, rfl, hv1, hb1⟩
  have HV1 := Lib.hid hv1; have HB1 := Lib.hid (HB0.out.trans (hb1.mono HB0.out.size)); have HR1 := Lib.hid (HR.out.keep hb1)
  clear hv1 hb1 HR
  go_wp2_with fail
  refine (quo_num w1 _ _ n _ k (HV.out.keep HB1.out) HV1.out HN.out hk).mono ?_
  rintro e w2 ⟨v2, rfl, hv2, hb2⟩
  have HV2 := Lib.hid hv2
  obtain ⟨A3, l3, c3, rfl, hl3⟩ := hv2.is_slice
  have HV1' := Lib.hid (HV1.out.keep hb2)
  have HB2 := Lib.hid (HB1.out.trans (hb2.mono HB1.out.size)); have HR2 := Lib.hid (HR1.out.keep hb2)
  have HL3 := Lib.hid hl3
  clear hv2 hb2 HR1 hl3
  have g0 : n / Nat.gcd n d = 0 ↔ l3 = 0 := HL3.out.symm
  have CQ := Lib.hid (quo_num w2 _ _ d _ j (HU.out.keep HB2.out) HV1'.out HM.out hj)
  have HBR := Lib.hid (show NumRes w2 w.heap.size 71 from HR2.out)
  have f0 := fun W (hW : Below w2.heap.size w2 W) => (HR2.out.keep hW).frozen 0
  have done : ∀ (bb : Bool) (W : World) (v4 : Value), bb = (b && decide (0 < n / Nat.gcd n d)) → Below w2.heap.size w2 W → NatIn W v4 (d / Nat.gcd n d) →
      At3 (((W.setCell ⟨w.heap.size, 0, none⟩ (.bool bb)).setCell ⟨w.heap.size, 1, none⟩ (.slice A3 l3 c3)).setCell ⟨w.heap.size, 2, none⟩ v4) w.heap.size 71 (.bool bb) (.slice A3 l3 c3) v4 ∧
      Num1 w q (.returned (.agg #[.bool bb, .slice A3 l3 c3, v4])) (((W.setCell ⟨w.heap.size, 0, none⟩ (.bool bb)).setCell ⟨w.heap.size, 1, none⟩ (.slice A3 l3 c3)).setCell ⟨w.heap.size, 2, none⟩ v4) := by
    intro bb W v4 e hW hv4
    have h1 := HV2.out.keep hW
    rw [← HP.out.2.1] at h1
    rw [← HP.out.2.2] at hv4
    have D := num_done (show NumRes W w.heap.size _ from HR2.out.keep hW) (HB2.out.trans (hW.mono HB2.out.size)) (Nat.le_refl _) h1 hv4 (e.trans HP.out.1.symm)
    exact ⟨D.1, _, rfl, D.2⟩
  have DONE := Lib.hid done
  clear done f0
  have t2 : 0 < n / Nat.gcd n d ↔ 0 < l3 := by rw [Nat.pos_iff_ne_zero, Nat.pos_iff_ne_zero, Ne, Ne, g0]
  have t3 : (b && decide (0 < n / Nat.gcd n d)) = (b && decide (0 < l3)) := by rw [decide_eq_decide.2 t2]
  rw [t3] at DONE
  clear g0 t2 t3 HP HL3 HV HU HN HM HV1' HV2 HV1
  rcases Nat.eq_zero_or_pos l3 with hl0 | hl0
  · subst hl0
    rw [decide_eq_false (by omega)] at DONE
    cases b
    all_goals
      go_wp2_with fail
      refine CQ.out.mono ?_
      rintro e w3 ⟨v4, rfl, hv4, hb3⟩
      obtain ⟨A4, l4, c4, rfl, hl4⟩ := hv4.is_slice
      obtain ⟨D1, D2⟩ := DONE.out false w3 _ rfl hb3 hv4
      have R3 := HR2.out.keep hb3
      have k0 := R3.c0; have k1 := R3.c1; have k2 := R3.c2; have f0 := R3.frozen 0; have f1 := R3.frozen 1; have f2 := R3.frozen 2
      have HD1 := Lib.hid D1; have HD2 := Lib.hid D2
      clear D1 D2 R3 hv4 hb3 hl4
      go_wp2_with fail
      generalize (((w3.setCell ⟨w.heap.size, 0, none⟩ (.bool false)).setCell ⟨w.heap.size, 1, none⟩ (.slice A3 0 c3)).setCell ⟨w.heap.size, 2, none⟩ (.slice A4 l4 c4)) = wz at HD1 HD2 ⊢
      have r0 := HD1.out.c0; have r1 := HD1.out.c1; have r2 := HD1.out.c2
      exact bodyPost_ret (v := .agg #[.bool false, .slice A3 0 c3, .slice A4 l4 c4]) (by simp [results, Tryz.results33, go_sem, r0, r1, r2]) rfl HD2.out
  · have t4 : ((l3 : Int) > 0) := by omega
    rw [decide_eq_true (by omega)] at DONE
    cases b
    · go_wp2_with fail
      refine CQ.out.mono ?_
      rintro e w3 ⟨v4, rfl, hv4, hb3⟩
      obtain ⟨A4, l4, c4, rfl, hl4⟩ := hv4.is_slice
      obtain ⟨D1, D2⟩ := DONE.out false w3 _ rfl hb3 hv4
      have R3 := HR2.out.keep hb3
      have k0 := R3.c0; have k1 := R3.c1; have k2 := R3.c2; have f0 := R3.frozen 0; have f1 := R3.frozen 1; have f2 := R3.frozen 2
      have HD1 := Lib.hid D1; have HD2 := Lib.hid D2
      clear D1 D2 R3 hv4 hb3 hl4
      go_wp2_with fail
      generalize (((w3.setCell ⟨w.heap.size, 0, none⟩ (.bool false)).setCell ⟨w.heap.size, 1, none⟩ (.slice A3 l3 c3)).setCell ⟨w.heap.size, 2, none⟩ (.slice A4 l4 c4)) = wz at HD1 HD2 ⊢
      have r0 := HD1.out.c0; have r1 := HD1.out.c1; have r2 := HD1.out.c2
      exact bodyPost_ret (v := .agg #[.bool false, .slice A3 l3 c3, .slice A4 l4 c4]) (by simp [results, Tryz.results33, go_sem, r0, r1, r2]) rfl HD2.out
    · go_wp2_with fail
      refine CQ.out.mono ?_
      rintro e w3 ⟨v4, rfl, hv4, hb3⟩
      obtain ⟨A4, l4, c4, rfl, hl4⟩ := hv4.is_slice
      obtain ⟨D1, D2⟩ := DONE.out true w3 _ rfl hb3 hv4
      have R3 := HR2.out.keep hb3
      have k0 := R3.c0; have k1 := R3.c1; have k2 := R3.c2; have f0 := R3.frozen 0; have f1 := R3.frozen 1; have f2 := R3.frozen 2
      have HD1 := Lib.hid D1; have HD2 := Lib.hid D2
      clear D1 D2 R3 hv4 hb3 hl4
      go_wp2_with fail
      generalize (((w3.setCell ⟨w.heap.size, 0, none⟩ (.bool true)).setCell ⟨w.heap.size, 1, none⟩ (.slice A3 l3 c3)).setCell ⟨w.heap.size, 2, none⟩ (.slice A4 l4 c4)) = wz at HD1 HD2 ⊢
      have r0 := HD1.out.c0; have r1 := HD1.out.c1; have r2 := HD1.out.c2
      exact bodyPost_ret (v := .agg #[.bool true, .slice A3 l3 c3, .slice A4 l4 c4]) (by simp [results, Tryz.results33, go_sem, r0, r1, r2]) rfl HD2.out
end Go.Proofs.YtdlhpleabfnogaaGreatDoor
namespace Go.Proofs.YtdlhpleabfnogaaGreatDoor
open Go Go.RowKit
namespace Ev
structure T3x where
  s : Bool
  n : Nat
  d : Nat
def T3x.q (t : T3x) : Rat := mkRat (Big.sI t.s t.n) t.d
noncomputable def T3x.good (t : T3x) : Bool := Nat.ble 1 t.d && (Nat.beq (Nat.gcd t.n t.d) 1 && ((!t.s || Nat.ble 1 t.n) && (small t.n && small t.d)))
theorem T3x.parts {t : T3x} (h : t.good = true) : Big.ng t.q = t.s ∧ Big.nu t.q = t.n ∧ Big.de t.q = t.d := by
  unfold T3x.good at h
  simp only [Bool.and_eq_true, Bool.or_eq_true, Bool.not_eq_true'] at h
  obtain ⟨h1, h2, h3, -⟩ := h
  have h1 := Nat.le_of_ble_eq_true h1
  refine Big.parts (N := Big.sI t.s t.n) (D := t.d) h1 (Nat.eq_of_beq_eq_true h2) (fun hs => ?_) (by omega) rfl rfl
  rcases h3 with h3 | h3
  · rw [hs] at h3; cases h3
  · exact Nat.le_of_ble_eq_true h3
theorem T3x.sm {t : T3x} (h : t.good = true) : Sm 1000 t.q := by
  obtain ⟨_, h2, h3⟩ := T3x.parts h
  unfold T3x.good at h
  simp only [Bool.and_eq_true] at h
  exact ⟨by rw [h2]; exact sz_small h.2.2.2.1, by rw [h3]; exact sz_small h.2.2.2.2⟩
section
variable {h h' : Tr (Blk Nat)} {nx nx' : Nat} {R W : List Nat} {r : Ren} {w : World} {v v' : Value}
end
theorem T3x.pos {t : T3x} (h : t.good = true) : t.d ≠ 0 := by
  unfold T3x.good at h
  simp only [Bool.and_eq_true] at h
  have := Nat.le_of_ble_eq_true h.1
  omega
end Ev
end Go.Proofs.YtdlhpleabfnogaaGreatDoor
namespace Go.Proofs.YtdlhpleabfnogaaGreatDoor
open Go.RowKit
set_option maxRecDepth 100000 in
theorem slice_on (b o d len c : Nat) (hd : d ≤ len) (hc : d ≠ c) (W : World) :
    (Instr.slice 69 (.slice (some ⟨b, o, none⟩) len c) (some (.int .i64 (d : Int))) none none).run Tryz.prog W = .ok (.slice (some ⟨b, o + d, none⟩) (len - d) (c - d)) W := by
  have e : Tryz.prog.elem 69 = 121 := by kernel_rfl
  have hs : (sizeOf 121).run Tryz.prog W = .ok 1 W := by kernel_rfl
  rw [run_slice_l (P := Tryz.prog) (w := W) 69 (some ⟨b, o, none⟩) len c (by rw [e]; exact Tryz.underlying69) .i64 (d : Int) (by omega) (by omega), e, hs]
  show Result.ok _ W = _
  simp only [sliced, Int.toNat_natCast, Nat.mul_one]
  rw [if_neg (by omega)]
  congr 1
  simp [Addr.add]
theorem drop_val {l : List Nat} {d : Nat} (ol : Big.Ok Big.M64 l) (hd : d ≤ l.length) : Big.val Big.M64 (l.drop d) = Big.val Big.M64 l / 2 ^ (64 * d) := by
  have h1 := Big.val_take_drop (B := Big.M64) l d hd
  have h2 := Big.val_lt (B := Big.M64) (l.take d) (ol.take d)
  rw [List.length_take, Nat.min_eq_left hd] at h2
  rw [← M64_pow, h1, Nat.add_mul_div_left _ _ (Nat.pow_pos Big.M64_pos), Nat.div_eq_of_lt h2, Nat.zero_add]
set_option maxRecDepth 100000 in
set_option maxHeartbeats 2000000 in
theorem shr_words (w : World) (v : Value) (l : List Nat) (d s : Nat) (h : Wd w .u64 v l) (ol : Big.Ok Big.M64 l) (hs : s ≤ 63) (hd : d < l.length) (h0 : 64 * d + s ≠ 0) (hl : l.length ≤ 1000000000) :
    Calls Tryz.prog 206 #[v, .int .i64 ((64 * d + s : Nat) : Int)] w (Nat1 w (Big.val Big.M64 l / 2 ^ (64 * d + s))) := by
  obtain ⟨A, c, rfl, h1, h2, h3⟩ := h
  obtain ⟨b, o, rfl, hlt, hc, hty⟩ := h3 (by omega)
  have hdl : (l.drop d).length = l.length - d := List.length_drop
  have hw2 : Wd w .u64 (.slice (some ⟨b, o + d, none⟩) (l.length - d) (c - d)) (l.drop d) := by
    refine ⟨_, c - d, by rw [hdl], by omega, by omega, fun _ => ⟨b, o + d, rfl, hlt, fun i hi => ?_, hty⟩⟩
    rw [hdl] at hi
    rw [Nat.add_assoc, hc (d + i) (by omega)]
    unfold Big.nth
    rw [List.getD_eq_getElem?_getD, List.getD_eq_getElem?_getD, List.getElem?_drop]
  have CL := Lib.hid (clone_any w _ _ hw2 (by omega))
  have HS := Lib.hid (fun W => slice_on b o d l.length c (by omega) (by omega) W)
  have HV := Lib.hid (drop_val (d := d) ol (by omega))
  have OD := Lib.hid (ol.drop d)
  rw [hdl] at CL
  obtain ⟨n, hn⟩ : ∃ n : Int, ((64 * d + s : Nat) : Int) = n := ⟨_, rfl⟩
  have q1 : Int.tdiv n 64 = d := by subst hn; rw [Int.tdiv_eq_ediv_of_nonneg (Int.natCast_nonneg _)]; omega
  have q2 : Int.tmod n 64 = s := by subst hn; rw [Int.tmod_eq_emod_of_nonneg (Int.natCast_nonneg _)]; omega
  have q3 : (n ≤ 0) = False := by rw [eq_iff_iff, iff_false]; omega
  have q4 : ((l.length : Int) ≤ (d : Int)) = False := by rw [eq_iff_iff, iff_false]; omega
  have hwr : IntKind.i64.wrap ((d : Nat) : Int) = (d : Int) := by rw [IntKind.wrap_i64]; omega
  rw [hn, Nat.pow_add, ← Nat.div_div_eq_div_mul, ← HV.out]
  have hsl := HS.out w
  clear h3 hc hty hw2 hn h0 ol HV
  go_enter Tryz.func206, Tryz.ntmps206
  go_wp2_with fail
  refine CL.out.mono ?_
  rintro e w1 ⟨rfl, hb, hw1⟩
  have CB := Lib.hid (shiftedBack_any w1 w.heap.size (l.length - d) (l.length - d + 1) s (l.drop d) [0] hb hdl (by omega) (by omega) OD.out hs)
  have HW1 := Lib.hid hw1
  clear hb hw1 CL HS OD hsl
  go_wp2_with fail
  refine CB.out.mono ?_
  rintro e w2 ⟨v', rfl, hv, ho, -⟩
  go_wp2_with fail
  go_ret
  exact ⟨v', rfl, hv, ho.below HW1.out (Nat.le_refl _) HW1.out.size⟩
set_option maxRecDepth 100000 in
theorem shr_num (w : World) (v : Value) (N : Nat) (n : Int) (h : NatIn w v N) (hN : Sz 1000 N) (hn : n ≤ 1000000) :
    Calls Tryz.prog 206 #[v, .int .i64 n] w (Nat1 w (N / 2 ^ n.toNat)) := by
  have HN := Lib.hid h
  obtain ⟨l, h1, h2, h3, h4⟩ := h
  have hl : l.length ≤ 1000 := len_of_lt h3 (by rw [h4]; exact hN.out)
  by_cases n0 : n ≤ 0
  · obtain ⟨A, c, rfl, -, -, -⟩ := h1
    rw [show n.toNat = 0 by omega, Nat.pow_zero, Nat.div_one]
    clear hN h2 h3 h4
    go_enter Tryz.func206, Tryz.ntmps206
    go_wp2
    go_ret
    exact ⟨_, rfl, HN.out, Below.refl _ _⟩
  · obtain ⟨k, rfl⟩ : ∃ k : Nat, n = (k : Int) := ⟨n.toNat, by omega⟩
    rw [Int.toNat_natCast]
    by_cases hd : k / 64 < l.length
    · have := shr_words w v l (k / 64) (k % 64) h1 h2 (by omega) hd (by omega) (by omega)
      rw [show 64 * (k / 64) + k % 64 = k by omega, h4] at this
      exact this
    · have e0 : N / 2 ^ k = 0 := by
        apply Nat.div_eq_of_lt
        have h5 := Big.val_lt l h2
        rw [h4, M64_pow] at h5
        exact Nat.lt_of_lt_of_le h5 (Nat.pow_le_pow_right (by omega) (by omega))
      rw [e0]
      obtain ⟨A, c, rfl, -, -, -⟩ := h1
      have q1 : Int.tdiv (k : Int) 64 = ((k / 64 : Nat) : Int) := by rw [Int.tdiv_eq_ediv_of_nonneg (Int.natCast_nonneg _)]; omega
      have q4 : ((l.length : Int) ≤ ((k / 64 : Nat) : Int)) = True := by rw [eq_iff_iff, iff_true]; omega
      have hwr : IntKind.i64.wrap ((k / 64 : Nat) : Int) = ((k / 64 : Nat) : Int) := by rw [IntKind.wrap_i64]; omega
      generalize k / 64 = d at *
      clear hN h2 h3 h4 e0 HN
      go_enter Tryz.func206, Tryz.ntmps206
      go_wp2
      go_ret
      exact ⟨_, rfl, NatIn.nil_ _, Below.refl _ _⟩
end Go.Proofs.YtdlhpleabfnogaaGreatDoor
namespace Go.Proofs.YtdlhpleabfnogaaGreatDoor
open Go Go.RowKit
namespace Ev
noncomputable def shrS (args : List Value) : Option (M Nat Value) := match args with
    | [a, b] => match b with
      | .int k s => cond (decide (k = .i64) && decide (s ≤ 1000000)) (some (bind (natV a) fun n => cond (small n) (newFact (n / 2 ^ s.toNat)) fail)) none
      | _ => none
    | _ => none
theorem sum_shr : SumF natSig Tryz.prog 206 shrS := by
  intro args m e
  unfold shrS at e
  rcases args with _ | ⟨a, _ | ⟨b, _ | ⟨c, l⟩⟩⟩ <;> simp only [reduceCtorEq] at e
  cases b with
  | int k s =>
    simp only at e
    cases hk : (decide (k = .i64) && decide (s ≤ 1000000)) with
    | false => rw [hk] at e; cases e
    | true =>
      rw [hk] at e
      simp only [cond_true, Option.some.injEq] at e
      subst e
      simp only [Bool.and_eq_true, decide_eq_true_eq] at hk
      refine ⟨loc_bind (loc_natV a) fun n => loc_cond (loc_newFact _) loc_fail, ?_⟩
      intro h nx v h' nx' R W e r w args' ha hM hN
      cases ha with
      | cons ha1 ha2 =>
        cases ha2 with
        | cons hb1 hb2 =>
          cases hb2
          obtain ⟨n, h1, nx1, R1, W1, R2, W2, e1, e2, rfl, rfl⟩ := bind_ok e
          obtain ⟨rfl, rfl, rfl, hn⟩ := natV_ok e1 ha1 hM
          obtain ⟨hs, e5⟩ := cond_ok e2
          have hb := hb1.int
          subst hb
          rw [hk.1]
          simpa [Goes] using goes_new e5 hM hN (shr_num w _ n s hn (sz_small hs) hk.2)
  | _ => simp at e
end Ev
end Go.Proofs.YtdlhpleabfnogaaGreatDoor
namespace Go.Proofs.YtdlhpleabfnogaaGreatDoor
open Go.RowKit
set_option maxRecDepth 100000 in
set_option maxHeartbeats 2000000 in
theorem pmul_any (p x y : Nat) (hx : x < 18446744073709551616) (hy : y < 18446744073709551616) (hp : p < 18446744073709551616) (h : hi64 (x * y) < p) (w : World) :
    Calls Tryz.prog 203 #[.int .u64 (p : Int), .int .u64 (x : Int), .int .u64 (y : Int)] w fun e w' => e = .returned (.int .u64 ((x * y % p : Nat) : Int)) ∧ Drew w w' := by
  have HM := Lib.hid (mul64 x y hx hy)
  have HE : (hi64 (x * y) * Big.M64 + lo64 (x * y)) % p = x * y % p := by
    congr 1
    have e := Nat.div_add_mod (x * y) Big.M64
    show x * y / Big.M64 * Big.M64 + x * y % Big.M64 = x * y
    rw [Nat.mul_comm]; exact e
  have HD := div64_call (hi64 (x * y)) (lo64 (x * y)) p h (lo64_lt _) hp
  rw [HE] at HD
  generalize (hi64 (x * y) * Big.M64 + lo64 (x * y)) / p = Q at HD
  generalize x * y % p = R at HD ⊢
  replace HD := Lib.hid HD
  clear hx hy hp h HE
  go_enter Tryz.func203, Tryz.ntmps203
  go_wp2_with (first
    | (go_at_call 202; refine (HM.out _).mono ?_; rintro e w' ⟨rfl, rfl⟩)
    | (go_at_call 163; refine (HD.out _).mono ?_; rintro e w' ⟨rfl, n, rfl⟩))
  go_ret
  exact ⟨rfl, ⟨_, rfl⟩⟩
end Go.Proofs.YtdlhpleabfnogaaGreatDoor
namespace Go.Proofs.YtdlhpleabfnogaaGreatDoor
open Go Go.RowKit
namespace Ev
noncomputable def u64of (v : Value) : Option Nat := match v with
  | .int k s => match s with
    | .ofNat n => cond (decide (k = .u64) && Nat.ble (Nat.succ n) 18446744073709551616) (some n) none
    | _ => none
  | _ => none
theorem u64of_ok {v : Value} {n : Nat} (h : u64of v = some n) : v = .int .u64 (n : Int) ∧ n < 18446744073709551616 := by
  unfold u64of at h
  cases v with
  | int k z =>
    cases z with
    | ofNat m =>
      simp only at h
      cases hk : (decide (k = .u64) && Nat.ble (Nat.succ m) 18446744073709551616) with
      | false => rw [hk] at h; cases h
      | true =>
        rw [hk] at h
        cases h
        simp only [Bool.and_eq_true, decide_eq_true_eq] at hk
        exact ⟨by rw [hk.1]; rfl, Nat.le_of_ble_eq_true hk.2⟩
    | negSucc m => cases h
  | _ => cases h
noncomputable def restS (args : List Value) : Option (M Nat Value) := match args with
  | [a, b] => match u64of b with
    | some y => cond (Nat.ble 1 y) (some (bind (natV a) fun n => cond (small n) (ret (.int .u64 ((Nat.mod n y : Nat) : Int))) fail)) none
    | none => none
  | _ => none
theorem sum_rest : SumF natSig Tryz.prog 126 restS := by
  intro args m e
  unfold restS at e
  rcases args with _ | ⟨a, _ | ⟨b, _ | ⟨c, l⟩⟩⟩ <;> simp only [reduceCtorEq] at e
  cases hb : u64of b with
  | none => rw [hb] at e; cases e
  | some y =>
    rw [hb] at e
    simp only at e
    cases hk : Nat.ble 1 y with
    | false => rw [hk] at e; cases e
    | true =>
      rw [hk] at e
      cases e
      obtain ⟨rfl, hy⟩ := u64of_ok hb
      refine ⟨loc_bind (loc_natV a) fun n => loc_cond (loc_ret _) loc_fail, ?_⟩
      intro h nx v h' nx' R W e r w args' ha hM hN
      cases ha with
      | cons ha1 ha2 => cases ha2 with
        | cons hb1 hb2 =>
          cases hb2
          obtain rfl := hb1.int
          obtain ⟨n, h1, nx1, R1, W1, R2, W2, e1, e2, rfl, rfl⟩ := bind_ok e
          obtain ⟨rfl, rfl, rfl, hn⟩ := natV_ok e1 ha1 hM
          obtain ⟨hs, e3⟩ := cond_ok e2
          obtain ⟨l, hw, ol, nl, rfl⟩ := hn
          have hsz := (sz_small hs).out
          have hlen : l.length ≤ 1000 := by
            rcases Nat.lt_or_ge 1000 l.length with q | q
            · have hne : l ≠ [] := fun e => by rw [e] at q; simp at q
              have h1 := Big.norm_ge (B := Big.M64) l nl hne
              have h2 := Nat.lt_of_le_of_lt h1 hsz
              have h3 := (Nat.pow_lt_pow_iff_right (show 1 < Big.M64 by decide)).1 h2
              omega
            · exact q
          simpa [Goes] using goes_val e3 rfl hM (drew_below (restWord_any w _ l y hw ol (Nat.le_of_ble_eq_true hk) hy (by omega)))
noncomputable def mulP (args : List Value) : Option (M Nat Value) := match args with
  | [a, b, c] => match u64of a with
    | some p => match u64of b with
      | some x => match u64of c with
        | some y => cond (Nat.ble (Nat.succ (Nat.div (Nat.mul x y) Big.M64)) p) (some (ret (.int .u64 ((Nat.mod (Nat.mul x y) p : Nat) : Int)))) none
        | none => none
      | none => none
    | none => none
  | _ => none
theorem sum_mulP : SumF natSig Tryz.prog 203 mulP := by
  intro args m e
  unfold mulP at e
  rcases args with _ | ⟨a, _ | ⟨b, _ | ⟨c, _ | ⟨d, l⟩⟩⟩⟩ <;> simp only [reduceCtorEq] at e
  cases hp : u64of a with
  | none => rw [hp] at e; cases e
  | some p =>
    rw [hp] at e; simp only at e
    cases hx : u64of b with
    | none => rw [hx] at e; cases e
    | some x =>
      rw [hx] at e; simp only at e
      cases hy : u64of c with
      | none => rw [hy] at e; cases e
      | some y =>
        rw [hy] at e; simp only at e
        cases hk : Nat.ble (Nat.succ (Nat.div (Nat.mul x y) Big.M64)) p with
        | false => rw [hk] at e; cases e
        | true =>
          rw [hk] at e
          cases e
          obtain ⟨rfl, h1⟩ := u64of_ok hp
          obtain ⟨rfl, h2⟩ := u64of_ok hx
          obtain ⟨rfl, h3⟩ := u64of_ok hy
          refine ⟨loc_ret _, ?_⟩
          intro h nx v h' nx' R W e r w args' ha hM hN
          cases ha with
          | cons ha1 ha => cases ha with
            | cons ha2 ha => cases ha with
              | cons ha3 ha =>
                cases ha
                obtain rfl := ha1.int
                obtain rfl := ha2.int
                obtain rfl := ha3.int
                simpa [Goes] using goes_val e rfl hM (drew_below (pmul_any p x y h2 h3 h1 (Nat.le_of_ble_eq_true hk) w))
end Ev
end Go.Proofs.YtdlhpleabfnogaaGreatDoor
namespace Go.Proofs.YtdlhpleabfnogaaGreatDoor
open Go Go.RowKit
namespace Ev
noncomputable def strsOf (l : List Value) : Option (List ByteArray) := List.rec (motive := fun _ => Option (List ByteArray)) (some []) (fun v _ ih => match v with
  | .string s => match ih with
    | some l => some (s :: l)
    | none => none
  | _ => none) l
theorem strsOf_ok : ∀ {l : List Value} {xs : List ByteArray}, strsOf l = some xs → l = xs.map .string
  | [], xs, h => by cases (show some [] = some xs from h); rfl
  | v :: l, xs, h => by
    cases v with
    | string s =>
      have h' : (match strsOf l with | some l => some (s :: l) | none => none) = some xs := h
      cases hl : strsOf l with
      | none => rw [hl] at h'; cases h'
      | some ys =>
        rw [hl] at h'
        cases h'
        rw [strsOf_ok hl]; rfl
    | _ => exact absurd (show (none : Option (List ByteArray)) = some xs from h) (by simp)
theorem strs_same {r : Ren} : ∀ {xs : List ByteArray} {l : List Value}, VsR r (xs.map .string) l → l = xs.map .string
  | [], _, h => by cases h; rfl
  | x :: xs, _, h => by
    cases h with
    | cons a b => rw [a.str, strs_same b]; rfl
noncomputable def capOf (c : Nat) : Nat := cond (Nat.ble capX c) (Nat.mod c capX) c
theorem capOf_le {r : Ren} {b off l c : Nat} {v' : Value} (h : VR r (vslice b off l c) v') : ∃ b' c', r.blk b = some b' ∧ v' = vslice b' off l c' ∧ capOf c ≤ c' := by
  obtain ⟨b', c', hb, hv, hc⟩ := slice_cases h
  refine ⟨b', c', hb, hv, ?_⟩
  unfold capOf
  rcases hc with ⟨hlt, rfl⟩ | ⟨s, c0, rfl, hc0, hle, _⟩
  · have hb0 : Nat.ble capX c' = false := by
      cases hq : Nat.ble capX c' with
      | false => rfl
      | true => have := Nat.le_of_ble_eq_true hq; omega
    rw [hb0]; exact Nat.le_refl _
  · have hmod : Nat.mod (capX * (s + 1) + c0) capX = c0 := by
      show (capX * (s + 1) + c0) % capX = c0
      unfold capX at hc0 ⊢; omega
    have hb0 : Nat.ble capX (capX * (s + 1) + c0) = true := Nat.ble_eq_true_of_le (by unfold capX; omega)
    rw [hb0, hmod]; exact hle
noncomputable def joined (xs : List ByteArray) (sep : ByteArray) : List UInt8 := Lib.join (xs.map (·.data.toList)) sep.data.toList
noncomputable def joinK (xs : List ByteArray) (n c : Nat) (sep : ByteArray) : M Nat Value := cond (Nat.ble n (capOf c) && Nat.ble n 100000 && Nat.ble (joined xs sep).length 100000) (ret (.string ⟨(joined xs sep).toArray⟩)) fail
noncomputable def joinS (args : List Value) : Option (M Nat Value) := match args with
  | [v, s] => match s with
    | .string sep => match sliceOf v with
      | some y => match y.1 with
        | some a => some (bind (rowO a.1 a.2 y.2.1) fun l => match strsOf l with
          | some xs => joinK xs y.2.1 y.2.2 sep
          | none => fail)
        | none => none
      | none => none
    | _ => none
  | _ => none
theorem sum_join : SumF natSig Tryz.prog 63 joinS := by
  intro args m e
  unfold joinS at e
  rcases args with _ | ⟨v, _ | ⟨s, _ | ⟨z, l⟩⟩⟩ <;> simp only [reduceCtorEq] at e
  cases s <;> simp only [reduceCtorEq] at e
  rename_i sep
  cases hs : sliceOf v with
  | none => rw [hs] at e; cases e
  | some y =>
  obtain ⟨base, n, c⟩ := y
  rw [hs] at e
  simp only at e
  cases base with
  | none => cases e
  | some a =>
  obtain ⟨b, off⟩ := a
  cases e
  refine ⟨loc_bind (loc_rowO _ _ _) fun l => by
    split
    · exact loc_cond (loc_ret _) loc_fail
    · exact loc_fail, ?_⟩
  intro h nx u h' nx' R W e r w args' hargs hM hN
  cases hargs with
  | cons h1 h2 => cases h2 with
    | cons h2 h3 =>
      cases h3
      obtain rfl := h2.str
      have hvs : v = vslice b off n c := sliceOf_of hs
      subst hvs
      obtain ⟨b', c', hb, rfl, hc⟩ := capOf_le h1
      obtain ⟨l, g1, nx1, R1, W1, R2, W2, e1, e2, rfl, rfl⟩ := bind_ok e
      obtain ⟨rfl, rfl, rfl, hl, l', q1, _, q3⟩ := rowO_ok e1 hM hb
      cases hx : strsOf l with
      | none => rw [hx] at e2; simp [fail] at e2
      | some xs =>
        rw [hx] at e2
        simp only at e2
        obtain rfl := strsOf_ok hx
        obtain rfl := strs_same q1
        unfold joinK at e2
        obtain ⟨hk, e3⟩ := cond_ok e2
        simp only [Bool.and_eq_true] at hk
        obtain ⟨⟨k1, k2⟩, k3⟩ := hk
        have k1 := Nat.le_of_ble_eq_true k1
        have k2 := Nat.le_of_ble_eq_true k2
        have k3 := Nat.le_of_ble_eq_true k3
        have hn : xs.length = n := by simpa using hl
        subst hn
        have hcall := Tryz.strings_Join b' off c' xs sep w (fun j x hj => q3 j _ (by rw [List.getElem?_map, hj]; rfl)) (hM.lt _ _ hb) (by omega) (by omega) (by unfold joined at k3; omega)
        simpa [Goes, vslice] using goes_val e3 rfl hM hcall
end Ev
end Go.Proofs.YtdlhpleabfnogaaGreatDoor
namespace Go.Proofs.YtdlhpleabfnogaaGreatDoor
open Go Go.RowKit
namespace Ev
section
variable {F : Type} {S : Sig F} {P : Program}
noncomputable def geAll (k : Nat) (l : List Nat) : Bool := List.rec (motive := fun _ => Bool) true (fun n _ ih => Bool.rec (motive := fun _ => Bool) false ih (Nat.ble k n)) l
theorem geAll_ok {k : Nat} : ∀ {l : List Nat}, geAll k l = true → ∀ n ∈ l, k ≤ n
  | [], _, n, hn => by simp at hn
  | m :: l, h, n, hn => by
    have h' : (Bool.rec (motive := fun _ => Bool) false (geAll k l) (Nat.ble k m) : Bool) = true := h
    cases hb : Nat.ble k m with
    | false => rw [hb] at h'; cases h'
    | true =>
      rw [hb] at h'
      rcases List.mem_cons.1 hn with rfl | hn
      · exact Nat.le_of_ble_eq_true hb
      · exact geAll_ok h' n hn
noncomputable def plains (l : List Value) : Bool := plainL plain2 l
theorem plains_ok {r : Ren} : ∀ {l : List Value}, plains l = true → VsR r l l
  | [], _ => .nil
  | v :: l, h => by
    have h' : (plain2 v && plains l) = true := h
    simp only [Bool.and_eq_true] at h'
    exact .cons (VR.same2 h'.1) (plains_ok h'.2)
theorem VsR_eq {r : Ren} : ∀ {l l' : List Value}, plains l = true → VsR r l l' → l' = l
  | [], _, _, h => by cases h; rfl
  | v :: l, _, hp, h => by
    have h' : (plain2 v && plains l) = true := hp
    simp only [Bool.and_eq_true] at h'
    cases h with
    | cons a b => rw [a.eq_of_plain2 h'.1, VsR_eq h'.2 b]
noncomputable def plain3 (v : Value) : Bool := match v with
  | .tuple cs => plains cs.toList
  | v => plain2 v
theorem same3 {r : Ren} {v : Value} (h : plain3 v = true) : VR r v v := by
  cases v with
  | tuple cs => cases cs; exact .tuple (plains_ok (by simpa [plain3] using h))
  | _ => exact VR.same2 h
theorem eq_of_plain3 {r : Ren} {v v' : Value} (h : VR r v v') (hp : plain3 v = true) : v' = v := by
  cases h with
  | tuple a => rw [VsR_eq (by simpa [plain3] using hp) a]
  | same p => rfl
  | ptr p => exact (VR.ptr p).eq_of_plain2 hp
  | slice p hc => exact (VR.slice p hc).eq_of_plain2 hp
  | slicex p hc h1 h2 => exact (VR.slicex p hc h1 h2).eq_of_plain2 hp
  | agg a => exact (VR.agg a).eq_of_plain2 hp
  | opq p o => exact (VR.opq p o).eq_of_plain2 hp
  | any p => exact (VR.any p).eq_of_plain2 hp
  | func a b => exact (VR.func a b).eq_of_plain2 hp
  | iface a => exact (VR.iface a).eq_of_plain2 hp
noncomputable def gives (nx : Nat) (m : M F Value) : Option Value := match m .nil nx with
  | .no => none
  | .ok a _ _ _ W => cond (plain3 a && geAll nx W) (some a) none
theorem gives_ok {nx : Nat} {m : M F Value} {v : Value} (e : gives nx m = some v) : ∃ h' nx' R W, m .nil nx = .ok v h' nx' R W ∧ plain3 v = true ∧ ∀ n ∈ W, nx ≤ n := by
  unfold gives at e
  cases hm : m .nil nx with
  | no => rw [hm] at e; cases e
  | ok a h' nx' R W =>
    rw [hm] at e
    simp only at e
    cases hc : (plain3 a && geAll nx W) with
    | false => rw [hc] at e; cases e
    | true =>
      rw [hc] at e
      simp only [cond_true, Option.some.injEq] at e
      subst e
      simp only [Bool.and_eq_true] at hc
      exact ⟨h', nx', R, W, rfl, hc.1, geAll_ok hc.2⟩
noncomputable def ren0 (G : Nat) : Ren := ⟨fun n => if n < G then some n else none, fun _ => none, fun _ => 0⟩
theorem mod0 {w : World} (hG : S.G ≤ w.heap.size) (hb : S.base w) (hlo : S.lo ≤ w.heap.size := by exact Nat.zero_le _) : Mod S (ren0 S.G) (fun _ => none) w := by
  refine ⟨fun n m b h1 h2 => ?_, fun n b h => ?_, fun n c t h => (by cases h), fun n f h => (by cases h), hb, fun n hn => if_pos hn, fun n b h hn => ?_, fun n c t h => (by cases h), hlo, fun n s h => (by cases h), fun n f h => (by cases h), fun n m x h => (by cases h)⟩
  · unfold ren0 at h1 h2
    simp only at h1 h2
    split at h1 <;> split at h2 <;> first | (cases h1; cases h2; exact .inl rfl) | (cases h1; done) | (cases h2; done)
  · unfold ren0 at h
    simp only at h
    split at h
    · cases h; omega
    · cases h
  · rw [show (ren0 S.G).blk n = none from if_neg (by omega)] at h; cases h
theorem gives_calls {C : Cfg F} [HardLoc C] {sum : Sums F} {n nx : Nat} {f : FuncId} {args : List Value} {v : Value} (hF : Fits S P C) (hs : SumOK S P sum) (e : gives nx (call P C sum n f args) = some v) (ha : plains args = true) (hx : S.G ≤ nx) {w : World} (hG : S.G ≤ w.heap.size) (hb : S.base w) (hlo : S.lo ≤ w.heap.size := by exact Nat.zero_le _) (hJ : JmpAll S P C := by exact .none rfl) :
    Calls P f ⟨args⟩ w fun e w' => e = .returned v ∧ Below w.heap.size w w' := by
  obtain ⟨h', nx', R, W, hm, hp, hW⟩ := gives_ok e
  have hc := call_ok hF hs n hJ
  have hfr : Fr (.nil : Tr (Blk F)) nx := fun k _ => Tr.get_nil k
  have hrun := Run.self (hc.loc f args) hm hfr
  have hN : New (ren0 S.G) nx nx' := fun k h1 h2 => ⟨if_neg (by omega), rfl⟩
  have hg : (Tr.get (.nil : Tr (Blk F))) = fun _ => none := funext fun k => Tr.get_nil k
  refine (hc.run f args _ _ _ _ _ _ _ hrun (ren0 S.G) w args (plains_ok ha) (by rw [hg]; exact mod0 hG hb hlo) hN).mono ?_
  rintro en w' ⟨v', r', rfl, hv, hX⟩
  have hv' := eq_of_plain3 hv hp
  subst hv'
  refine ⟨rfl, hX.os, hX.tape, hX.output, hX.size, fun b hb' => ?_⟩
  have hbo : w.heap[b]? = some w.heap[b] := Array.getElem?_eq_getElem hb'
  rw [hbo]
  exact hX.keep b _ hbo fun k hk => by
    have := hW k hk
    show ¬ (if k < S.G then some k else none) = some b
    rw [if_neg (by omega)]
    simp
end
noncomputable def natList : List (Nat × (List Value → Option (M Nat Value))) := [
  (164, fun args => two args fun n m => newFact (Nat.add n m)),
  (165, fun args => two args fun n m => newFact (Nat.sub n m)),
  (79, fun args => two args fun n m => newFact (Nat.mul n m)),
  (68, fun args => two args fun n m => newFact (Nat.div n m)),
  (67, fun args => two args fun n m => newFact (Nat.gcd n m)),
  (123, fun args => two args fun n m => bind (newFact (Nat.div n m)) fun x => bind (newFact (Nat.mod n m)) fun y => ret (.tuple ⟨[x, y]⟩)),
  (105, fun args => two args fun n m => ret (.int .i64 (Big.cmpI n m))),
  (73, fun args => one args fun n => ret (.bool (decide (n = 1)))),
  (129, fun args => one args fun n => ret (.int .i64 ((szN n : Nat) : Int))),
  (213, fun args => one args fun n => ret (.int .i64 ((bitsN n : Nat) : Int))),
  (77, fun args => one args fun n => ret (.string (bst n))),
  (228, fun args => one args fun n => ret (.tuple #[.int .u64 (((if n < Big.M64 then n else 0) : Nat) : Int), .bool (decide (n < Big.M64))])),
  (111, fun args => one args fun n => ret (.string ⟨⟨digs n⟩⟩)),
  (214, fun args => match args with
    | [a, b] => match b with
      | .int k s => cond (decide (k = .i64) && decide (s ≤ 64000000000)) (some (bind (natV a) fun n => cond (small n) (newFact (n * 2 ^ s.toNat)) fail)) none
      | _ => none
    | _ => none),
  (63, joinS),
  (206, shrS),
  (126, restS),
  (203, mulP),
  (69, fun args => match args with
    | [a] => match a with
      | .int k s => match s with
        | .ofNat n => cond (decide (k = .u64) && Nat.ble (Nat.succ n) 18446744073709551616) (some (newFact n)) none
        | _ => none
      | _ => none
    | _ => none),
  (72, fun args => match args with
    | [a] => match a with
      | .string s => cond (Nat.ble s.size 100000) (some (newFact (Big.bnum s.data.toList))) none
      | _ => none
    | _ => none)]
theorem natList_ok : ∀ x ∈ natList, SumF natSig Tryz.prog x.1 x.2 := by
  unfold natList
  intro x hx
  simp only [List.mem_cons, List.not_mem_nil, or_false] at hx
  rcases hx with rfl | rfl | rfl | rfl | rfl | rfl | rfl | rfl | rfl | hx
  · exact sum_add
  · exact sum_sub
  · exact sum_mul
  · exact sum_quo
  · exact sum_gcd
  · exact sum_quoRem
  · exact sum_cmp
  · exact sum_isOne
  · exact sum_size
  rcases hx with rfl | hx
  · exact sum_bits
  rcases hx with rfl | hx
  · exact sum_bytes
  rcases hx with rfl | hx
  · exact sum_word
  rcases hx with rfl | hx
  · exact sum_text
  rcases hx with rfl | hx
  · exact sum_shl
  rcases hx with rfl | hx
  · exact sum_join
  rcases hx with rfl | hx
  · exact sum_shr
  rcases hx with rfl | rfl | hx
  · exact sum_rest
  · exact sum_mulP
  rcases hx with rfl | rfl
  · exact sum_of
  · exact sum_fromBytes
noncomputable def natSums : Sums Nat := sumsOf (mkTab natList)
theorem natSums_ok : SumOK natSig Tryz.prog natSums := sumsOf_ok natList_ok
noncomputable def runs (n : Nat) (f : FuncId) (args : List Value) : Option Value := gives 100000 (call Tryz.prog natCfg natSums n f args)
theorem glob_few : Tryz.prog.globals.size ≤ 100000 := by
  have h : Nat.ble Tryz.prog.globals.size 100000 = true := by kernel_rfl
  exact Nat.le_of_ble_eq_true h
theorem runs_calls {n : Nat} {f : FuncId} {args : List Value} {v : Value} (e : runs n f args = some v) (ha : plains args = true) {w : World} (hG : Tryz.prog.globals.size ≤ w.heap.size) (hb : TabB w) :
    Calls Tryz.prog f ⟨args⟩ w fun e w' => e = .returned v ∧ Below w.heap.size w w' :=
  gives_calls natFits natSums_ok e ha glob_few hG hb
end Ev
end Go.Proofs.YtdlhpleabfnogaaGreatDoor
namespace Go.Proofs.YtdlhpleabfnogaaGreatDoor
open Go Go.RowKit
namespace Ev
noncomputable def eqL {α : Type} (f : α → α → Bool) (l : List α) : List α → Bool := List.rec (motive := fun _ => List α → Bool)
  (fun m => match m with | [] => true | _ :: _ => false) (fun a _ ih m => match m with | [] => false | b :: m => f a b && ih m) l
theorem eqL_ok {α : Type} {f : α → α → Bool} (hf : ∀ a b, f a b = true → a = b) : ∀ {l m : List α}, eqL f l m = true → l = m
  | [], [], _ => rfl
  | [], _ :: _, h => by exact absurd (show false = true from h) (by simp)
  | _ :: _, [], h => by exact absurd (show false = true from h) (by simp)
  | a :: l, b :: m, h => by
    have h' : (f a b && eqL f l m) = true := h
    simp only [Bool.and_eq_true] at h'
    rw [hf _ _ h'.1, eqL_ok hf h'.2]
noncomputable def eqC (a b : UInt8) : Bool := Nat.beq a.toNat b.toNat
theorem eqC_ok (a b : UInt8) (h : eqC a b = true) : a = b := UInt8.toNat_inj.1 (Nat.eq_of_beq_eq_true h)
noncomputable def eqS (s t : ByteArray) : Bool := eqL eqC s.data.toList t.data.toList
theorem eqS_ok {s t : ByteArray} (h : eqS s t = true) : s = t := by
  obtain ⟨⟨l⟩⟩ := s
  obtain ⟨⟨m⟩⟩ := t
  have : l = m := eqL_ok eqC_ok h
  rw [this]
noncomputable def eq1 (v w : Value) : Bool := match v with
  | .bool a => match w with | .bool b => decide (a = b) | _ => false
  | .int k a => match w with | .int l b => decide (k = l) && decide (a = b) | _ => false
  | .float k a => match w with | .float l b => decide (k = l) && Nat.beq a b | _ => false
  | .complex k a b => match w with | .complex l c d => decide (k = l) && (Nat.beq a c && Nat.beq b d) | _ => false
  | .string s => match w with | .string t => eqS s t | _ => false
  | _ => false
theorem eq1_ok (v w : Value) (h : eq1 v w = true) : v = w := by
  unfold eq1 at h
  cases v <;> simp only [Bool.false_eq_true] at h <;> cases w <;> simp only [Bool.false_eq_true, Bool.and_eq_true, decide_eq_true_eq] at h
  · rw [h]
  · rw [h.1, h.2]
  · rw [h.1, Nat.eq_of_beq_eq_true h.2]
  · rw [h.1, Nat.eq_of_beq_eq_true h.2.1, Nat.eq_of_beq_eq_true h.2.2]
  · rw [eqS_ok h]
noncomputable def eqV (v w : Value) : Bool := match v with
  | .agg a => match w with | .agg b => eqL eq1 a.toList b.toList | _ => false
  | _ => eq1 v w
theorem eqV_ok (v w : Value) (h : eqV v w = true) : v = w := by
  unfold eqV at h
  cases v <;> try exact eq1_ok _ _ h
  cases w <;> simp only [Bool.false_eq_true] at h
  rename_i a b
  obtain ⟨l⟩ := a
  obtain ⟨m⟩ := b
  have : l = m := eqL_ok eq1_ok h
  rw [this]
structure Fact where
  f : FuncId
  args : List Value
  v : Value
def Fact.ok (x : Fact) : Prop := plains x.args = true ∧ plain3 x.v = true ∧ ∀ w : World, Tryz.prog.globals.size ≤ w.heap.size → TabB w → Calls Tryz.prog x.f ⟨x.args⟩ w fun e w' => e = .returned x.v ∧ Below w.heap.size w w'
theorem Fact.of_run {x : Fact} {n : Nat} (h : runs n x.f x.args = some x.v) (ha : plains x.args = true) : x.ok := by
  refine ⟨ha, ?_, fun w hG hT => runs_calls h ha hG hT⟩
  obtain ⟨_, _, _, _, _, hp, _⟩ := gives_ok h
  exact hp
noncomputable def look (f : FuncId) (args : List Value) (l : List Fact) : Option Value := List.rec (motive := fun _ => Option Value) none
  (fun x _ ih => Bool.rec (motive := fun _ => Option Value) ih (Bool.rec (motive := fun _ => Option Value) ih (some x.v) (eqL eqV x.args args)) (Nat.beq x.f f)) l
noncomputable def known (l : List Fact) : Sums Nat := fun f args => match look f args l with
  | some v => some (ret v)
  | none => natSums f args
end Ev
end Go.Proofs.YtdlhpleabfnogaaGreatDoor
