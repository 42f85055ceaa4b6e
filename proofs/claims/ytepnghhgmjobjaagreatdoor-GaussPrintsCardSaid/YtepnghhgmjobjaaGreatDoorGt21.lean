/- Contracts, in this order: exact: Read, of what may be. · exact: Read, of what may not be. · The interpreter over numbers told by expressions of those ha · The interpreter over numbers told by expressions: reading wh -/
import Derived.Test.YtepnghhgmjobjaaGreatDoorGt19
import Derived.Test.YtepnghhgmjobjaaGreatDoorGt15
import Derived.Test.YtepnghhgmjobjaaGreatDoorGt20
import Derived.Test.YtepnghhgmjobjaaGreatDoorGt14
namespace Go.Proofs.YtepnghhgmjobjaaGreatDoor
open Go.RowKit
def Read1 (w : World) (q : Rat) (e : Ending) (w' : World) : Prop := ∃ v', e = .returned (.tuple #[v', .bool true]) ∧ NumIn w' v' q ∧ Below w.heap.size w w'
theorem bst_ne {n : Nat} (h : n ≠ 0) : ¬ (bst n).toList = [] := by
  rw [ByteArray.toList_eq, bst_list]; intro e
  have h1 := btx_length n
  rw [e] at h1
  have h2 := szN_pos h
  rw [← h1] at h2
  exact absurd h2 (by simp)
theorem bst_ne2 {n : Nat} (h : n ≠ 0) : (bst n).toList.isEmpty = false := by
  rw [Bool.eq_false_iff]; intro e; exact bst_ne h (List.isEmpty_iff.1 e)
set_option maxRecDepth 100000 in
set_option maxHeartbeats 4000000 in
theorem exRead_ok (w : World) (q : Rat) (hf : Fit q) :
    Calls Tryz.prog 95 #[.agg #[.bool (Big.ng q), .string (bst (Big.nu q)), .string (bst (Big.de q))]] w (Read1 w q) := by
  have M1 := Lib.hid (fun W => mayBe_any W (bst (Big.nu q)) (by rw [bst_size]; have := hf.nu; omega))
  have M2 := Lib.hid (fun W => mayBe_any W (bst (Big.de q)) (by rw [bst_size]; have := hf.de; omega))
  rw [mayB_bst hf.nu] at M1
  rw [mayB_bst hf.de] at M2
  have S := Lib.hid hf.sm
  have P := Lib.hid (show NumIn w (.agg #[.bool (Big.ng q), .slice none 0 0, .slice none 0 0]) q → True from fun _ => trivial)
  have F1 := Lib.hid (fun W => fromBytes_num W (Big.nu q) (by have := hf.nu; omega))
  have F2 := Lib.hid (fun W => fromBytes_num W (Big.de q) (by have := hf.de; omega))
  have d1 := bst_ne (n := Big.de q) (by have := Big.de_pos q; omega)
  have d2 := bst_ne2 (n := Big.de q) (by have := Big.de_pos q; omega)
  have n0 : Big.ng q = true → ¬ (bst (Big.nu q)).toList = [] ∧ (bst (Big.nu q)).toList.isEmpty = false := fun h => by
    have h1 := Big.ng_pos h
    exact ⟨bst_ne (by omega), bst_ne2 (by omega)⟩
  obtain ⟨X0, R0, B0⟩ := boxed2 w 24 82 (.bool (Big.ng q)) (.string (bst (Big.nu q))) (.string (bst (Big.de q))) (.bool false) (.slice none 0 0) (.slice none 0 0)
  have HX0 := Lib.hid X0; have HR0 := Lib.hid R0; have HB0 := Lib.hid B0
  have HC := Lib.hid (Big.cop q)
  have HNG := Lib.hid (rfl : Big.ng q = Big.ng q)
  clear hf X0 R0 B0 P HNG
  obtain ⟨nq, hnq⟩ : ∃ z, Big.ng q = z := ⟨_, rfl⟩
  rw [hnq] at n0 HX0 HR0 HB0 ⊢
  have HNQ := Lib.hid hnq
  clear hnq
  have HN0 := Lib.hid n0
  clear n0
  cases nq
  · go_enter Tryz.func95, Tryz.ntmps95
    go_wp2_with fail
    generalize (w.alloc (.cells #[.bool false, .string (bst (Big.nu q)), .string (bst (Big.de q))] 24)).alloc (.cells #[.bool false, .slice none 0 0, .slice none 0 0] 82) = w0 at *
    have x0 := HX0.out.c0; have x1 := HX0.out.c1; have x2 := HX0.out.c2
    go_wp2_with (first
      | (go_at_call 163; with_reducible refine (M1.out _).mono ?_; rintro e w' ⟨rfl, rfl⟩)
      | (go_at_call 163; with_reducible refine (M2.out _).mono ?_; rintro e w' ⟨rfl, rfl⟩))
    clear x0 x1 x2 d1 d2
    have KX := Lib.hid (fun W (h : Below w0.heap.size w0 W) => And.intro (HX0.out.keep h).c1 (HX0.out.keep h).c2)
    have C1 := Lib.hid (fun W (h : Below w0.heap.size w0 W) => lift2 h (F1.out W))
    have C2 := Lib.hid (fun W (h : Below w0.heap.size w0 W) => lift2 h (F2.out W))
    go_region_held3 (fun w' => w'.cell? ⟨w.heap.size, 1, none⟩ = some (.string (bst (Big.nu q))) ∧ w'.cell? ⟨w.heap.size, 2, none⟩ = some (.string (bst (Big.de q))))
      (exact KX.out _ (by first | assumption | exact Below.refl _ _ | exact below_drew (Below.refl _ _) | exact below_drew (by assumption)))
      (first
        | (go_at_call 164; (with_reducible refine (C1.out _ (by first | assumption | exact Below.refl _ _ | exact below_drew (Below.refl _ _) | exact below_drew (by assumption))).mono ?_); rintro e w2 ⟨v2, rfl, hv2, hw2, hw2'⟩)
        | (go_at_call 164; (with_reducible refine (C2.out _ (by first | assumption | exact Below.refl _ _ | exact below_drew (Below.refl _ _) | exact below_drew (by assumption))).mono ?_); rintro e w3 ⟨v3, rfl, hv3, hw3, hw3'⟩)
        | fail)
    have HB3 := Lib.hid (HB0.out.trans (hw3.mono HB0.out.size))
    have HX3 := Lib.hid (HX0.out.keep hw3); have HR3 := Lib.hid (HR0.out.keep hw3)
    have HV := Lib.hid (And.intro (hv2.keep hw3') hv3)
    clear hv2 hv3 hw2 hw2' hw3 hw3' HX0 HR0 HB0 KX C1 C2
    have G := Lib.hid (gcd_num w3 _ _ _ _ 64 64 HV.out.1 HV.out.2 S.out.nu S.out.de (by omega) (by omega))
    rw [HC.out] at G
    go_wp2_with fail
    refine G.out.mono ?_
    rintro e w4 ⟨v4, rfl, hv4, hw4⟩
    have I := Lib.hid (isOne_num w4 v4 1 hv4)
    rw [decide_eq_true rfl] at I
    have HB4 := Lib.hid (HB3.out.trans (hw4.mono HB3.out.size))
    have HX4 := Lib.hid (HX3.out.keep hw4); have HR4 := Lib.hid (HR3.out.keep hw4)
    have HV4 := Lib.hid (And.intro (HV.out.1.keep hw4) (HV.out.2.keep hw4))
    clear hv4 hw4 HB3 HX3 HR3 HV G
    go_wp2_with fail
    refine I.out.mono ?_
    rintro e w' ⟨rfl, rfl⟩
    obtain ⟨A8, l8, c8, rfl, -⟩ := HV4.out.1.is_slice
    obtain ⟨A9, l9, c9, rfl, -⟩ := HV4.out.2.is_slice
    have RR := HR4.out
    have x0 := HX4.out.c0
    have k0 := RR.c0; have k1 := RR.c1; have k2 := RR.c2; have f0 := RR.frozen 0; have f1 := RR.frozen 1; have f2 := RR.frozen 2
    go_wp2_with fail
    obtain ⟨D1, D2, D3⟩ := num_done (bb := false) (show NumRes w4 _ _ from RR) HB4.out (by omega) HV4.out.1 HV4.out.2 HNQ.out.symm
    have HD1 := Lib.hid D1; have HD2 := Lib.hid D2; have HD3 := Lib.hid D3
    clear D1 D2 D3 k0 k1 k2 f0 f1 f2 RR
    generalize (((w4.setCell ⟨w.heap.size + 1, 0, none⟩ (.bool (false))).setCell ⟨w.heap.size + 1, 1, none⟩ (.slice A8 l8 c8)).setCell ⟨w.heap.size + 1, 2, none⟩ (.slice A9 l9 c9)) = wz at HD1 HD2 HD3 ⊢
    have r0 := HD1.out.c0; have r1 := HD1.out.c1; have r2 := HD1.out.c2
    exact bodyPost_ret (v := .tuple #[.agg #[.bool (false), .slice A8 l8 c8, .slice A9 l9 c9], .bool true]) (by simp [results, Tryz.results95, go_sem, r0, r1, r2]) rfl ⟨_, rfl, HD2.out, HD3.out⟩
  · obtain ⟨z1, z2⟩ := HN0.out rfl
    go_enter Tryz.func95, Tryz.ntmps95
    go_wp2_with fail
    generalize (w.alloc (.cells #[.bool true, .string (bst (Big.nu q)), .string (bst (Big.de q))] 24)).alloc (.cells #[.bool false, .slice none 0 0, .slice none 0 0] 82) = w0 at *
    have x0 := HX0.out.c0; have x1 := HX0.out.c1; have x2 := HX0.out.c2
    go_wp2_with (first
      | (go_at_call 163; with_reducible refine (M1.out _).mono ?_; rintro e w' ⟨rfl, rfl⟩)
      | (go_at_call 163; with_reducible refine (M2.out _).mono ?_; rintro e w' ⟨rfl, rfl⟩))
    clear x0 x1 x2 d1 d2
    have KX := Lib.hid (fun W (h : Below w0.heap.size w0 W) => And.intro (HX0.out.keep h).c1 (HX0.out.keep h).c2)
    have C1 := Lib.hid (fun W (h : Below w0.heap.size w0 W) => lift2 h (F1.out W))
    have C2 := Lib.hid (fun W (h : Below w0.heap.size w0 W) => lift2 h (F2.out W))
    go_region_held3 (fun w' => w'.cell? ⟨w.heap.size, 1, none⟩ = some (.string (bst (Big.nu q))) ∧ w'.cell? ⟨w.heap.size, 2, none⟩ = some (.string (bst (Big.de q))))
      (exact KX.out _ (by first | assumption | exact Below.refl _ _ | exact below_drew (Below.refl _ _) | exact below_drew (by assumption)))
      (first
        | (go_at_call 164; (with_reducible refine (C1.out _ (by first | assumption | exact Below.refl _ _ | exact below_drew (Below.refl _ _) | exact below_drew (by assumption))).mono ?_); rintro e w2 ⟨v2, rfl, hv2, hw2, hw2'⟩)
        | (go_at_call 164; (with_reducible refine (C2.out _ (by first | assumption | exact Below.refl _ _ | exact below_drew (Below.refl _ _) | exact below_drew (by assumption))).mono ?_); rintro e w3 ⟨v3, rfl, hv3, hw3, hw3'⟩)
        | fail)
    have HB3 := Lib.hid (HB0.out.trans (hw3.mono HB0.out.size))
    have HX3 := Lib.hid (HX0.out.keep hw3); have HR3 := Lib.hid (HR0.out.keep hw3)
    have HV := Lib.hid (And.intro (hv2.keep hw3') hv3)
    clear hv2 hv3 hw2 hw2' hw3 hw3' HX0 HR0 HB0 KX C1 C2
    have G := Lib.hid (gcd_num w3 _ _ _ _ 64 64 HV.out.1 HV.out.2 S.out.nu S.out.de (by omega) (by omega))
    rw [HC.out] at G
    go_wp2_with fail
    refine G.out.mono ?_
    rintro e w4 ⟨v4, rfl, hv4, hw4⟩
    have I := Lib.hid (isOne_num w4 v4 1 hv4)
    rw [decide_eq_true rfl] at I
    have HB4 := Lib.hid (HB3.out.trans (hw4.mono HB3.out.size))
    have HX4 := Lib.hid (HX3.out.keep hw4); have HR4 := Lib.hid (HR3.out.keep hw4)
    have HV4 := Lib.hid (And.intro (HV.out.1.keep hw4) (HV.out.2.keep hw4))
    clear hv4 hw4 HB3 HX3 HR3 HV G
    go_wp2_with fail
    refine I.out.mono ?_
    rintro e w' ⟨rfl, rfl⟩
    obtain ⟨A8, l8, c8, rfl, -⟩ := HV4.out.1.is_slice
    obtain ⟨A9, l9, c9, rfl, -⟩ := HV4.out.2.is_slice
    have RR := HR4.out
    have x0 := HX4.out.c0
    have k0 := RR.c0; have k1 := RR.c1; have k2 := RR.c2; have f0 := RR.frozen 0; have f1 := RR.frozen 1; have f2 := RR.frozen 2
    go_wp2_with fail
    obtain ⟨D1, D2, D3⟩ := num_done (bb := true) (show NumRes w4 _ _ from RR) HB4.out (by omega) HV4.out.1 HV4.out.2 HNQ.out.symm
    have HD1 := Lib.hid D1; have HD2 := Lib.hid D2; have HD3 := Lib.hid D3
    clear D1 D2 D3 k0 k1 k2 f0 f1 f2 RR
    generalize (((w4.setCell ⟨w.heap.size + 1, 0, none⟩ (.bool (true))).setCell ⟨w.heap.size + 1, 1, none⟩ (.slice A8 l8 c8)).setCell ⟨w.heap.size + 1, 2, none⟩ (.slice A9 l9 c9)) = wz at HD1 HD2 HD3 ⊢
    have r0 := HD1.out.c0; have r1 := HD1.out.c1; have r2 := HD1.out.c2
    exact bodyPost_ret (v := .tuple #[.agg #[.bool (true), .slice A8 l8 c8, .slice A9 l9 c9], .bool true]) (by simp [results, Tryz.results95, go_sem, r0, r1, r2]) rfl ⟨_, rfl, HD2.out, HD3.out⟩
end Go.Proofs.YtepnghhgmjobjaaGreatDoor
namespace Go.Proofs.YtepnghhgmjobjaaGreatDoor
open Go.RowKit
def BadF (x : Bool × ByteArray × ByteArray) : Prop := ∀ q : Rat, Fit q → ¬ (x.1 = Big.ng q ∧ x.2.1 = bst (Big.nu q) ∧ x.2.2 = bst (Big.de q))
set_option maxRecDepth 100000 in
set_option maxHeartbeats 4000000 in
theorem mayBe_all (w : World) (s : ByteArray) :
    Calls Tryz.prog 163 #[.string s] w fun e w' => e = .returned (.bool (mayB s)) ∧ w = w' := by
  by_cases h5 : s.size ≤ 512
  · by_cases h0 : s.size = 0
    · have e := empty_of h0
      subst e
      have HD := Lib.hid (show mayB ⟨#[]⟩ = true by decide)
      go_enter Tryz.func163, Tryz.ntmps163
      go_wp2_with fail
      go_ret
      exact ⟨ret_bool HD.out.symm, rfl⟩
    · have i1 : (s.size : Int) ≤ 512 := by omega
      have p0 : 0 < s.size := by omega
      have HD := Lib.hid (show mayB s = ((s[0].toNat : Int) != 0) by
        unfold mayB
        rw [decide_eq_true h5, Bool.true_and, head_get p0, Bool.eq_iff_iff, Bool.not_eq_true', beq_eq_false_iff_ne, bne_iff_ne]
        constructor
        · intro h e; exact h (by rw [Option.some.injEq]; apply UInt8.toNat_inj.1; show _ = 0; omega)
        · intro h e; rw [Option.some.injEq] at e; rw [e] at h; exact h rfl)
      generalize mayB s = z at *
      have hne : ¬ s.toList = [] := by rw [ByteArray.toList_eq]; intro e; have := size_toList s; rw [e] at this; simp at this; omega
      have hne2 : s.toList.isEmpty = false := by rw [Bool.eq_false_iff]; intro e; exact hne (List.isEmpty_iff.1 e)
      clear h0
      go_enter Tryz.func163, Tryz.ntmps163
      go_wp2_with fail
      go_ret
      exact ⟨ret_bool (by rw [HD.out]), rfl⟩
  · have i1 : ¬ (s.size : Int) ≤ 512 := by omega
    have HD := Lib.hid (show mayB s = false by unfold mayB; rw [decide_eq_false h5]; rfl)
    generalize mayB s = z at *
    go_enter Tryz.func163, Tryz.ntmps163
    go_wp2_with fail
    go_ret
    exact ⟨ret_bool HD.out.symm, rfl⟩
def ReadZ (w : World) (e : Ending) (w' : World) : Prop := e = .returned (.tuple #[.agg #[.bool false, .slice none 0 0, .slice none 0 0], .bool false]) ∧ Below w.heap.size w w'
theorem size_zero_iff {s : ByteArray} : s.toList.isEmpty = decide (s.size = 0) := by
  rw [ByteArray.toList_eq]
  by_cases h : s.size = 0
  · rw [empty_of h]; rfl
  · rw [decide_eq_false h, Bool.eq_false_iff]
    intro e
    have h1 := size_toList s
    rw [List.isEmpty_iff.1 e] at h1
    exact h (by simpa using h1.symm)
theorem nonempty_list {s : ByteArray} (h : ¬ s.size = 0) : ¬ s.toList = [] ∧ s.toList.isEmpty = false := by
  have h1 : s.toList.isEmpty = false := by rw [size_zero_iff, decide_eq_false h]
  exact ⟨fun e => (by rw [e] at h1; cases h1), h1⟩
set_option maxRecDepth 100000 in
set_option maxHeartbeats 4000000 in
theorem exRead_badA (w : World) (b : Bool) (s t : ByteArray) (h : mayB s = false) :
    Calls Tryz.prog 95 #[.agg #[.bool b, .string s, .string t]] w (ReadZ w) := by
  have M1 := Lib.hid (fun W => mayBe_all W s)
  rw [h] at M1
  clear h
  obtain ⟨X0, R0, B0⟩ := boxed2 w 24 82 (.bool b) (.string s) (.string t) (.bool false) (.slice none 0 0) (.slice none 0 0)
  have HX0 := Lib.hid X0; have HR0 := Lib.hid R0; have HB0 := Lib.hid B0
  clear X0 R0 B0
  go_enter Tryz.func95, Tryz.ntmps95
  go_wp2_with fail
  generalize (w.alloc (.cells #[.bool b, .string s, .string t] 24)).alloc (.cells #[.bool false, .slice none 0 0, .slice none 0 0] 82) = w0 at *
  have x0 := HX0.out.c0; have x1 := HX0.out.c1; have x2 := HX0.out.c2
  have k0 := HR0.out.c0; have k1 := HR0.out.c1; have k2 := HR0.out.c2; have f0 := HR0.out.frozen 0; have f1 := HR0.out.frozen 1; have f2 := HR0.out.frozen 2
  go_wp2_with (first
      | (go_at_call 163; with_reducible refine (M1.out _).mono ?_; rintro e w' ⟨rfl, rfl⟩))
  have HD := Lib.hid (At3.put HR0.out (.bool false) (.slice none 0 0) (.slice none 0 0))
  have HE := Lib.hid (put_below HB0.out (show w.heap.size ≤ w.heap.size + 1 by omega) (.bool false) (.slice none 0 0) (.slice none 0 0))
  generalize (((w0.setCell ⟨w.heap.size + 1, 0, none⟩ (.bool false)).setCell ⟨w.heap.size + 1, 1, none⟩ (.slice none 0 0)).setCell ⟨w.heap.size + 1, 2, none⟩ (.slice none 0 0)) = wz at HD HE ⊢
  clear k0 k1 k2 f0 f1 f2
  have r0 := HD.out.c0; have r1 := HD.out.c1; have r2 := HD.out.c2
  exact bodyPost_ret (v := .tuple #[.agg #[.bool false, .slice none 0 0, .slice none 0 0], .bool false]) (by simp [results, Tryz.results95, go_sem, r0, r1, r2]) rfl ⟨rfl, HE.out⟩
set_option maxRecDepth 100000 in
set_option maxHeartbeats 4000000 in
theorem exRead_badB (w : World) (b : Bool) (s t : ByteArray) (g : mayB s = true) (h : mayB t = false) :
    Calls Tryz.prog 95 #[.agg #[.bool b, .string s, .string t]] w (ReadZ w) := by
  have M1 := Lib.hid (fun W => mayBe_all W s)
  have M2 := Lib.hid (fun W => mayBe_all W t)
  rw [g] at M1
  rw [h] at M2
  clear g h
  obtain ⟨X0, R0, B0⟩ := boxed2 w 24 82 (.bool b) (.string s) (.string t) (.bool false) (.slice none 0 0) (.slice none 0 0)
  have HX0 := Lib.hid X0; have HR0 := Lib.hid R0; have HB0 := Lib.hid B0
  clear X0 R0 B0
  go_enter Tryz.func95, Tryz.ntmps95
  go_wp2_with fail
  generalize (w.alloc (.cells #[.bool b, .string s, .string t] 24)).alloc (.cells #[.bool false, .slice none 0 0, .slice none 0 0] 82) = w0 at *
  have x0 := HX0.out.c0; have x1 := HX0.out.c1; have x2 := HX0.out.c2
  have k0 := HR0.out.c0; have k1 := HR0.out.c1; have k2 := HR0.out.c2; have f0 := HR0.out.frozen 0; have f1 := HR0.out.frozen 1; have f2 := HR0.out.frozen 2
  go_wp2_with (first
      | (go_at_call 163; with_reducible refine (M1.out _).mono ?_; rintro e w' ⟨rfl, rfl⟩)
      | (go_at_call 163; with_reducible refine (M2.out _).mono ?_; rintro e w' ⟨rfl, rfl⟩))
  have HD := Lib.hid (At3.put HR0.out (.bool false) (.slice none 0 0) (.slice none 0 0))
  have HE := Lib.hid (put_below HB0.out (show w.heap.size ≤ w.heap.size + 1 by omega) (.bool false) (.slice none 0 0) (.slice none 0 0))
  generalize (((w0.setCell ⟨w.heap.size + 1, 0, none⟩ (.bool false)).setCell ⟨w.heap.size + 1, 1, none⟩ (.slice none 0 0)).setCell ⟨w.heap.size + 1, 2, none⟩ (.slice none 0 0)) = wz at HD HE ⊢
  clear k0 k1 k2 f0 f1 f2
  have r0 := HD.out.c0; have r1 := HD.out.c1; have r2 := HD.out.c2
  exact bodyPost_ret (v := .tuple #[.agg #[.bool false, .slice none 0 0, .slice none 0 0], .bool false]) (by simp [results, Tryz.results95, go_sem, r0, r1, r2]) rfl ⟨rfl, HE.out⟩
set_option maxRecDepth 100000 in
set_option maxHeartbeats 4000000 in
theorem exRead_badC (w : World) (b : Bool) (s : ByteArray) (g : mayB s = true) :
    Calls Tryz.prog 95 #[.agg #[.bool b, .string s, .string ⟨#[]⟩]] w (ReadZ w) := by
  have M1 := Lib.hid (fun W => mayBe_all W s)
  have M2 := Lib.hid (fun W => mayBe_all W ⟨#[]⟩)
  rw [g] at M1
  rw [show mayB ⟨#[]⟩ = true by decide] at M2
  clear g
  obtain ⟨X0, R0, B0⟩ := boxed2 w 24 82 (.bool b) (.string s) (.string ⟨#[]⟩) (.bool false) (.slice none 0 0) (.slice none 0 0)
  have HX0 := Lib.hid X0; have HR0 := Lib.hid R0; have HB0 := Lib.hid B0
  clear X0 R0 B0
  go_enter Tryz.func95, Tryz.ntmps95
  go_wp2_with fail
  generalize (w.alloc (.cells #[.bool b, .string s, .string ⟨#[]⟩] 24)).alloc (.cells #[.bool false, .slice none 0 0, .slice none 0 0] 82) = w0 at *
  have x0 := HX0.out.c0; have x1 := HX0.out.c1; have x2 := HX0.out.c2
  have k0 := HR0.out.c0; have k1 := HR0.out.c1; have k2 := HR0.out.c2; have f0 := HR0.out.frozen 0; have f1 := HR0.out.frozen 1; have f2 := HR0.out.frozen 2
  go_wp2_with (first
      | (go_at_call 163; with_reducible refine (M1.out _).mono ?_; rintro e w' ⟨rfl, rfl⟩)
      | (go_at_call 163; with_reducible refine (M2.out _).mono ?_; rintro e w' ⟨rfl, rfl⟩))
  have HD := Lib.hid (At3.put HR0.out (.bool false) (.slice none 0 0) (.slice none 0 0))
  have HE := Lib.hid (put_below HB0.out (show w.heap.size ≤ w.heap.size + 1 by omega) (.bool false) (.slice none 0 0) (.slice none 0 0))
  generalize (((w0.setCell ⟨w.heap.size + 1, 0, none⟩ (.bool false)).setCell ⟨w.heap.size + 1, 1, none⟩ (.slice none 0 0)).setCell ⟨w.heap.size + 1, 2, none⟩ (.slice none 0 0)) = wz at HD HE ⊢
  clear k0 k1 k2 f0 f1 f2
  have r0 := HD.out.c0; have r1 := HD.out.c1; have r2 := HD.out.c2
  exact bodyPost_ret (v := .tuple #[.agg #[.bool false, .slice none 0 0, .slice none 0 0], .bool false]) (by simp [results, Tryz.results95, go_sem, r0, r1, r2]) rfl ⟨rfl, HE.out⟩
set_option maxRecDepth 100000 in
set_option maxHeartbeats 4000000 in
theorem exRead_badD (w : World) (t : ByteArray) (g : mayB t = true) (h : ¬ t.size = 0) :
    Calls Tryz.prog 95 #[.agg #[.bool true, .string ⟨#[]⟩, .string t]] w (ReadZ w) := by
  have M1 := Lib.hid (fun W => mayBe_all W ⟨#[]⟩)
  have M2 := Lib.hid (fun W => mayBe_all W t)
  rw [g] at M2
  rw [show mayB ⟨#[]⟩ = true by decide] at M1
  obtain ⟨d1, d2⟩ := nonempty_list h
  clear g h
  obtain ⟨X0, R0, B0⟩ := boxed2 w 24 82 (.bool true) (.string ⟨#[]⟩) (.string t) (.bool false) (.slice none 0 0) (.slice none 0 0)
  have HX0 := Lib.hid X0; have HR0 := Lib.hid R0; have HB0 := Lib.hid B0
  clear X0 R0 B0
  go_enter Tryz.func95, Tryz.ntmps95
  go_wp2_with fail
  generalize (w.alloc (.cells #[.bool true, .string ⟨#[]⟩, .string t] 24)).alloc (.cells #[.bool false, .slice none 0 0, .slice none 0 0] 82) = w0 at *
  have x0 := HX0.out.c0; have x1 := HX0.out.c1; have x2 := HX0.out.c2
  have k0 := HR0.out.c0; have k1 := HR0.out.c1; have k2 := HR0.out.c2; have f0 := HR0.out.frozen 0; have f1 := HR0.out.frozen 1; have f2 := HR0.out.frozen 2
  go_wp2_with (first
      | (go_at_call 163; with_reducible refine (M1.out _).mono ?_; rintro e w' ⟨rfl, rfl⟩)
      | (go_at_call 163; with_reducible refine (M2.out _).mono ?_; rintro e w' ⟨rfl, rfl⟩))
  have HD := Lib.hid (At3.put HR0.out (.bool false) (.slice none 0 0) (.slice none 0 0))
  have HE := Lib.hid (put_below HB0.out (show w.heap.size ≤ w.heap.size + 1 by omega) (.bool false) (.slice none 0 0) (.slice none 0 0))
  generalize (((w0.setCell ⟨w.heap.size + 1, 0, none⟩ (.bool false)).setCell ⟨w.heap.size + 1, 1, none⟩ (.slice none 0 0)).setCell ⟨w.heap.size + 1, 2, none⟩ (.slice none 0 0)) = wz at HD HE ⊢
  clear k0 k1 k2 f0 f1 f2
  have r0 := HD.out.c0; have r1 := HD.out.c1; have r2 := HD.out.c2
  exact bodyPost_ret (v := .tuple #[.agg #[.bool false, .slice none 0 0, .slice none 0 0], .bool false]) (by simp [results, Tryz.results95, go_sem, r0, r1, r2]) rfl ⟨rfl, HE.out⟩
set_option maxRecDepth 100000 in
set_option maxHeartbeats 4000000 in
theorem exRead_badE (w : World) (n d : Nat) (sn : szN n ≤ 512) (sd : szN d ≤ 512) (d0 : d ≠ 0) (hc : Nat.gcd n d ≠ 1) :
    Calls Tryz.prog 95 #[.agg #[.bool false, .string (bst n), .string (bst d)]] w (ReadZ w) := by
  have M1 := Lib.hid (fun W => mayBe_all W (bst n))
  have M2 := Lib.hid (fun W => mayBe_all W (bst d))
  rw [mayB_bst sn] at M1
  rw [mayB_bst sd] at M2
  have S1 := Lib.hid (Sz.bytes sn); have S2 := Lib.hid (Sz.bytes sd)
  have F1 := Lib.hid (fun W => fromBytes_num W n (by omega))
  have F2 := Lib.hid (fun W => fromBytes_num W d (by omega))
  have d1 := bst_ne d0
  have d2 := bst_ne2 d0
  have HC := Lib.hid hc
  clear hc
  obtain ⟨X0, R0, B0⟩ := boxed2 w 24 82 (.bool false) (.string (bst n)) (.string (bst d)) (.bool false) (.slice none 0 0) (.slice none 0 0)
  have HX0 := Lib.hid X0; have HR0 := Lib.hid R0; have HB0 := Lib.hid B0
  clear X0 R0 B0
  go_enter Tryz.func95, Tryz.ntmps95
  go_wp2_with fail
  generalize (w.alloc (.cells #[.bool false, .string (bst n), .string (bst d)] 24)).alloc (.cells #[.bool false, .slice none 0 0, .slice none 0 0] 82) = w0 at *
  have x0 := HX0.out.c0; have x1 := HX0.out.c1; have x2 := HX0.out.c2
  have k0 := HR0.out.c0; have k1 := HR0.out.c1; have k2 := HR0.out.c2; have f0 := HR0.out.frozen 0; have f1 := HR0.out.frozen 1; have f2 := HR0.out.frozen 2
  go_wp2_with (first
      | (go_at_call 163; with_reducible refine (M1.out _).mono ?_; rintro e w' ⟨rfl, rfl⟩)
      | (go_at_call 163; with_reducible refine (M2.out _).mono ?_; rintro e w' ⟨rfl, rfl⟩))
  clear d1 d2
  clear x0 x1 x2 k0 k1 k2 f0 f1 f2
  have KX := Lib.hid (fun W (h : Below w0.heap.size w0 W) => And.intro (HX0.out.keep h).c1 (HX0.out.keep h).c2)
  have C1 := Lib.hid (fun W (h : Below w0.heap.size w0 W) => lift2 h (F1.out W))
  have C2 := Lib.hid (fun W (h : Below w0.heap.size w0 W) => lift2 h (F2.out W))
  go_region_held3 (fun w' => w'.cell? ⟨w.heap.size, 1, none⟩ = some (.string (bst n)) ∧ w'.cell? ⟨w.heap.size, 2, none⟩ = some (.string (bst d)))
    (exact KX.out _ (by first | assumption | exact Below.refl _ _ | exact below_drew (Below.refl _ _) | exact below_drew (by assumption)))
    (first
      | (go_at_call 164; (with_reducible refine (C1.out _ (by first | assumption | exact Below.refl _ _ | exact below_drew (Below.refl _ _) | exact below_drew (by assumption))).mono ?_); rintro e w2 ⟨v2, rfl, hv2, hw2, hw2'⟩)
      | (go_at_call 164; (with_reducible refine (C2.out _ (by first | assumption | exact Below.refl _ _ | exact below_drew (Below.refl _ _) | exact below_drew (by assumption))).mono ?_); rintro e w3 ⟨v3, rfl, hv3, hw3, hw3'⟩)
      | fail)
  have HB3 := Lib.hid (HB0.out.trans (hw3.mono HB0.out.size))
  have HR3 := Lib.hid (HR0.out.keep hw3)
  have HV := Lib.hid (And.intro (hv2.keep hw3') hv3)
  clear hv2 hv3 hw2 hw2' hw3 hw3' HX0 HR0 HB0 KX C1 C2
  have G := Lib.hid (gcd_num w3 _ _ _ _ 64 64 HV.out.1 HV.out.2 S1.out S2.out (by omega) (by omega))
  obtain ⟨cg, hcg⟩ : ∃ z, Nat.gcd n d = z := ⟨_, rfl⟩
  rw [hcg] at G HC
  clear hcg
  go_wp2_with fail
  refine G.out.mono ?_
  rintro e w4 ⟨v4, rfl, hv4, hw4⟩
  have I := Lib.hid (isOne_num w4 v4 cg hv4)
  rw [decide_eq_false HC.out] at I
  have HB0 := Lib.hid (HB3.out.trans (hw4.mono HB3.out.size))
  have HR0 := Lib.hid (HR3.out.keep hw4)
  clear hv4 hw4 HB3 HR3 HV G
  go_wp2_with fail
  refine I.out.mono ?_
  rintro e w' ⟨rfl, rfl⟩
  have k0 := HR0.out.c0; have k1 := HR0.out.c1; have k2 := HR0.out.c2; have f0 := HR0.out.frozen 0; have f1 := HR0.out.frozen 1; have f2 := HR0.out.frozen 2
  go_wp2_with fail
  have HD := Lib.hid (At3.put HR0.out (.bool false) (.slice none 0 0) (.slice none 0 0))
  have HE := Lib.hid (put_below HB0.out (show w.heap.size ≤ w.heap.size + 1 by omega) (.bool false) (.slice none 0 0) (.slice none 0 0))
  generalize (((w4.setCell ⟨w.heap.size + 1, 0, none⟩ (.bool false)).setCell ⟨w.heap.size + 1, 1, none⟩ (.slice none 0 0)).setCell ⟨w.heap.size + 1, 2, none⟩ (.slice none 0 0)) = wz at HD HE ⊢
  clear k0 k1 k2 f0 f1 f2
  have r0 := HD.out.c0; have r1 := HD.out.c1; have r2 := HD.out.c2
  exact bodyPost_ret (v := .tuple #[.agg #[.bool false, .slice none 0 0, .slice none 0 0], .bool false]) (by simp [results, Tryz.results95, go_sem, r0, r1, r2]) rfl ⟨rfl, HE.out⟩
set_option maxRecDepth 100000 in
set_option maxHeartbeats 4000000 in
theorem exRead_badF (w : World) (n d : Nat) (n0 : n ≠ 0) (sn : szN n ≤ 512) (sd : szN d ≤ 512) (d0 : d ≠ 0) (hc : Nat.gcd n d ≠ 1) :
    Calls Tryz.prog 95 #[.agg #[.bool true, .string (bst n), .string (bst d)]] w (ReadZ w) := by
  have M1 := Lib.hid (fun W => mayBe_all W (bst n))
  have M2 := Lib.hid (fun W => mayBe_all W (bst d))
  rw [mayB_bst sn] at M1
  rw [mayB_bst sd] at M2
  have S1 := Lib.hid (Sz.bytes sn); have S2 := Lib.hid (Sz.bytes sd)
  have F1 := Lib.hid (fun W => fromBytes_num W n (by omega))
  have F2 := Lib.hid (fun W => fromBytes_num W d (by omega))
  have d1 := bst_ne d0
  have d2 := bst_ne2 d0
  have HC := Lib.hid hc
  have n1 := bst_ne n0
  have n2 := bst_ne2 n0
  clear hc
  obtain ⟨X0, R0, B0⟩ := boxed2 w 24 82 (.bool true) (.string (bst n)) (.string (bst d)) (.bool false) (.slice none 0 0) (.slice none 0 0)
  have HX0 := Lib.hid X0; have HR0 := Lib.hid R0; have HB0 := Lib.hid B0
  clear X0 R0 B0
  go_enter Tryz.func95, Tryz.ntmps95
  go_wp2_with fail
  generalize (w.alloc (.cells #[.bool true, .string (bst n), .string (bst d)] 24)).alloc (.cells #[.bool false, .slice none 0 0, .slice none 0 0] 82) = w0 at *
  have x0 := HX0.out.c0; have x1 := HX0.out.c1; have x2 := HX0.out.c2
  have k0 := HR0.out.c0; have k1 := HR0.out.c1; have k2 := HR0.out.c2; have f0 := HR0.out.frozen 0; have f1 := HR0.out.frozen 1; have f2 := HR0.out.frozen 2
  go_wp2_with (first
      | (go_at_call 163; with_reducible refine (M1.out _).mono ?_; rintro e w' ⟨rfl, rfl⟩)
      | (go_at_call 163; with_reducible refine (M2.out _).mono ?_; rintro e w' ⟨rfl, rfl⟩))
  clear d1 d2
  clear x0 x1 x2 k0 k1 k2 f0 f1 f2
  have KX := Lib.hid (fun W (h : Below w0.heap.size w0 W) => And.intro (HX0.out.keep h).c1 (HX0.out.keep h).c2)
  have C1 := Lib.hid (fun W (h : Below w0.heap.size w0 W) => lift2 h (F1.out W))
  have C2 := Lib.hid (fun W (h : Below w0.heap.size w0 W) => lift2 h (F2.out W))
  go_region_held3 (fun w' => w'.cell? ⟨w.heap.size, 1, none⟩ = some (.string (bst n)) ∧ w'.cell? ⟨w.heap.size, 2, none⟩ = some (.string (bst d)))
    (exact KX.out _ (by first | assumption | exact Below.refl _ _ | exact below_drew (Below.refl _ _) | exact below_drew (by assumption)))
    (first
      | (go_at_call 164; (with_reducible refine (C1.out _ (by first | assumption | exact Below.refl _ _ | exact below_drew (Below.refl _ _) | exact below_drew (by assumption))).mono ?_); rintro e w2 ⟨v2, rfl, hv2, hw2, hw2'⟩)
      | (go_at_call 164; (with_reducible refine (C2.out _ (by first | assumption | exact Below.refl _ _ | exact below_drew (Below.refl _ _) | exact below_drew (by assumption))).mono ?_); rintro e w3 ⟨v3, rfl, hv3, hw3, hw3'⟩)
      | fail)
  have HB3 := Lib.hid (HB0.out.trans (hw3.mono HB0.out.size))
  have HR3 := Lib.hid (HR0.out.keep hw3)
  have HV := Lib.hid (And.intro (hv2.keep hw3') hv3)
  clear hv2 hv3 hw2 hw2' hw3 hw3' HX0 HR0 HB0 KX C1 C2
  have G := Lib.hid (gcd_num w3 _ _ _ _ 64 64 HV.out.1 HV.out.2 S1.out S2.out (by omega) (by omega))
  obtain ⟨cg, hcg⟩ : ∃ z, Nat.gcd n d = z := ⟨_, rfl⟩
  rw [hcg] at G HC
  clear hcg
  go_wp2_with fail
  refine G.out.mono ?_
  rintro e w4 ⟨v4, rfl, hv4, hw4⟩
  have I := Lib.hid (isOne_num w4 v4 cg hv4)
  rw [decide_eq_false HC.out] at I
  have HB0 := Lib.hid (HB3.out.trans (hw4.mono HB3.out.size))
  have HR0 := Lib.hid (HR3.out.keep hw4)
  clear hv4 hw4 HB3 HR3 HV G
  go_wp2_with fail
  refine I.out.mono ?_
  rintro e w' ⟨rfl, rfl⟩
  have k0 := HR0.out.c0; have k1 := HR0.out.c1; have k2 := HR0.out.c2; have f0 := HR0.out.frozen 0; have f1 := HR0.out.frozen 1; have f2 := HR0.out.frozen 2
  go_wp2_with fail
  have HD := Lib.hid (At3.put HR0.out (.bool false) (.slice none 0 0) (.slice none 0 0))
  have HE := Lib.hid (put_below HB0.out (show w.heap.size ≤ w.heap.size + 1 by omega) (.bool false) (.slice none 0 0) (.slice none 0 0))
  generalize (((w4.setCell ⟨w.heap.size + 1, 0, none⟩ (.bool false)).setCell ⟨w.heap.size + 1, 1, none⟩ (.slice none 0 0)).setCell ⟨w.heap.size + 1, 2, none⟩ (.slice none 0 0)) = wz at HD HE ⊢
  clear k0 k1 k2 f0 f1 f2
  have r0 := HD.out.c0; have r1 := HD.out.c1; have r2 := HD.out.c2
  exact bodyPost_ret (v := .tuple #[.agg #[.bool false, .slice none 0 0, .slice none 0 0], .bool false]) (by simp [results, Tryz.results95, go_sem, r0, r1, r2]) rfl ⟨rfl, HE.out⟩
theorem exRead_bad (w : World) (x : Bool × ByteArray × ByteArray) (hx : BadF x) :
    Calls Tryz.prog 95 #[.agg #[.bool x.1, .string x.2.1, .string x.2.2]] w (ReadZ w) := by
  obtain ⟨b, s, t⟩ := x
  cases hs : mayB s with
  | false => exact exRead_badA w b s t hs
  | true =>
    cases ht : mayB t with
    | false => exact exRead_badB w b s t hs ht
    | true =>
      by_cases t0 : t.size = 0
      · rw [empty_of t0]; exact exRead_badC w b s hs
      · obtain ⟨e1, z1⟩ := mayB_is hs
        obtain ⟨e2, z2⟩ := mayB_is ht
        generalize Big.bnum s.data.toList = n at *
        generalize Big.bnum t.data.toList = d at *
        subst e1 e2
        have d0 : d ≠ 0 := fun e => t0 (by rw [bst_size, e]; rfl)
        have key : Nat.gcd n d = 1 → (b = true → 1 ≤ n) → False := fun h1 h2 => by
          obtain ⟨p1, p2, p3⟩ := Big.parts (q := mkRat (Big.sI b n) d) (b := b) (n := n) (d := d) (by omega) h1 h2 (show d ≠ 0 from d0) rfl rfl
          exact hx (mkRat (Big.sI b n) d) ⟨by rw [p2]; exact z1, by rw [p3]; exact z2⟩ ⟨p1.symm, by rw [p2], by rw [p3]⟩
        cases b with
        | false => exact exRead_badE w n d z1 z2 d0 fun h => key h (by simp)
        | true =>
          by_cases n0 : n = 0
          · subst n0
            exact exRead_badD w (bst d) ht t0
          · exact exRead_badF w n d n0 z1 z2 d0 fun h => key h (by omega)
end Go.Proofs.YtepnghhgmjobjaaGreatDoor
namespace Go.Proofs.YtepnghhgmjobjaaGreatDoor
open Go Go.RowKit
namespace Ev
inductive Qe where
  | v (i : Nat)
  | c (s : Bool) (n d : Nat)
  | neg (a : Qe)
  | add (a b : Qe)
  | sub (a b : Qe)
  | mul (a b : Qe)
  | quo (a b : Qe)
def Qe.ev (ρ : Nat → Rat) : Qe → Rat
  | .v i => ρ i
  | .c s n d => mkRat (Big.sI s n) d
  | .neg a => -(a.ev ρ)
  | .add a b => a.ev ρ + b.ev ρ
  | .sub a b => a.ev ρ - b.ev ρ
  | .mul a b => a.ev ρ * b.ev ρ
  | .quo a b => a.ev ρ / b.ev ρ
noncomputable def beqB (a b : Bool) : Bool := Bool.rec (motive := fun _ => Bool) (Bool.rec (motive := fun _ => Bool) true false b) b a
theorem beqB_ok {a b : Bool} (h : beqB a b = true) : a = b := by cases a <;> cases b <;> first | rfl | (exact absurd h (by simp [beqB]))
noncomputable def Qe.beq : Qe → Qe → Bool := Qe.rec (motive := fun _ => Qe → Bool)
  (fun i y => match y with | .v j => Nat.beq i j | _ => false)
  (fun s n d y => match y with | .c s' n' d' => beqB s s' && (Nat.beq n n' && Nat.beq d d') | _ => false)
  (fun _ ih y => match y with | .neg b => ih b | _ => false)
  (fun _ _ iha ihb y => match y with | .add a b => iha a && ihb b | _ => false)
  (fun _ _ iha ihb y => match y with | .sub a b => iha a && ihb b | _ => false)
  (fun _ _ iha ihb y => match y with | .mul a b => iha a && ihb b | _ => false)
  (fun _ _ iha ihb y => match y with | .quo a b => iha a && ihb b | _ => false)
theorem Qe.beq_ok : ∀ (a b : Qe), a.beq b = true → a = b := by
  intro a
  induction a with
  | v i =>
    intro b h
    cases b with
    | v j => rw [Nat.eq_of_beq_eq_true (show Nat.beq i j = true from h)]
    | _ => exact absurd (show false = true from h) (by simp)
  | c s n d =>
    intro b h
    cases b with
    | c s' n' d' =>
      have h' : (beqB s s' && (Nat.beq n n' && Nat.beq d d')) = true := h
      simp only [Bool.and_eq_true] at h'
      rw [beqB_ok h'.1, Nat.eq_of_beq_eq_true h'.2.1, Nat.eq_of_beq_eq_true h'.2.2]
    | _ => exact absurd (show false = true from h) (by simp)
  | neg a ih =>
    intro b h
    cases b with
    | neg b => rw [ih b h]
    | _ => exact absurd (show false = true from h) (by simp)
  | add a b iha ihb =>
    intro y h
    cases y with
    | add a' b' =>
      have h' : (a.beq a' && b.beq b') = true := h
      simp only [Bool.and_eq_true] at h'
      rw [iha _ h'.1, ihb _ h'.2]
    | _ => exact absurd (show false = true from h) (by simp)
  | sub a b iha ihb =>
    intro y h
    cases y with
    | sub a' b' =>
      have h' : (a.beq a' && b.beq b') = true := h
      simp only [Bool.and_eq_true] at h'
      rw [iha _ h'.1, ihb _ h'.2]
    | _ => exact absurd (show false = true from h) (by simp)
  | mul a b iha ihb =>
    intro y h
    cases y with
    | mul a' b' =>
      have h' : (a.beq a' && b.beq b') = true := h
      simp only [Bool.and_eq_true] at h'
      rw [iha _ h'.1, ihb _ h'.2]
    | _ => exact absurd (show false = true from h) (by simp)
  | quo a b iha ihb =>
    intro y h
    cases y with
    | quo a' b' =>
      have h' : (a.beq a' && b.beq b') = true := h
      simp only [Bool.and_eq_true] at h'
      rw [iha _ h'.1, ihb _ h'.2]
    | _ => exact absurd (show false = true from h) (by simp)
noncomputable def Qe.bnd : Qe → Nat := Qe.rec (motive := fun _ => Nat)
  (fun i => cond (Nat.ble 100 i) 4096 64)
  (fun _ n d => Nat.add (Nat.add (Nat.div (Nat.log2 n) 64) (Nat.div (Nat.log2 d) 64)) 1)
  (fun _ a => a)
  (fun _ _ a b => Nat.succ (Nat.mul 2 (Nat.add a b)))
  (fun _ _ a b => Nat.succ (Nat.mul 2 (Nat.add a b)))
  (fun _ _ a b => Nat.add a b)
  (fun _ _ a b => Nat.add a b)
theorem Qe.bnd_pos : ∀ e : Qe, 1 ≤ e.bnd := by
  intro e
  induction e with
  | v i => show 1 ≤ cond (Nat.ble 100 i) 4096 64; cases Nat.ble 100 i <;> decide
  | c s n d => exact Nat.succ_le_succ (Nat.zero_le _)
  | neg a ih => exact ih
  | add a b _ _ => exact Nat.succ_le_succ (Nat.zero_le _)
  | sub a b _ _ => exact Nat.succ_le_succ (Nat.zero_le _)
  | mul a b iha _ => exact Nat.le_trans iha (Nat.le_add_right _ _)
  | quo a b iha _ => exact Nat.le_trans iha (Nat.le_add_right _ _)
theorem sm_zero {k : Nat} (hk : 1 ≤ k) : Sm k 0 := ⟨sz_zero.up (Nat.zero_le _), sz_one.up hk⟩
theorem sm_sub {k j : Nat} {q r : Rat} (h : Sm k q) (i : Sm j r) : Sm (2 * k + 2 * j + 1) (q - r) := by
  rw [Rat.sub_eq_add_neg]
  exact h.add i.neg
theorem Qe.sm {ρ : Nat → Rat} (hρ : ∀ i, i < 100 → Fit (ρ i)) (hβ : ∀ i, Sm 4096 (ρ i)) : ∀ e : Qe, Sm e.bnd (e.ev ρ) := by
  intro e
  induction e with
  | v i =>
    show Sm (cond (Nat.ble 100 i) 4096 64) (ρ i)
    cases hi : Nat.ble 100 i with
    | true => exact hβ i
    | false => exact (hρ i (by
        rcases Nat.lt_or_ge i 100 with h | h
        · exact h
        · rw [Nat.ble_eq_true_of_le h] at hi; cases hi)).sm
  | c s n d =>
    show Sm (Nat.div (Nat.log2 n) 64 + Nat.div (Nat.log2 d) 64 + 1) (mkRat (Big.sI s n) d)
    have e1 : Nat.div (Nat.log2 n) 64 = Nat.log2 n / 64 := rfl
    have e2 : Nat.div (Nat.log2 d) 64 = Nat.log2 d / 64 := rfl
    rw [e1, e2]
    rcases Nat.eq_zero_or_pos d with h0 | h0
    · subst h0
      rw [Rat.mkRat_zero]
      exact sm_zero (by omega)
    · obtain ⟨_, p2, p3⟩ := Big.of_parts s n d h0
      refine ⟨?_, ?_⟩
      · rw [p2]; exact (sz_log (k := Nat.log2 n / 64 + Nat.log2 d / 64 + 1) (by omega)).le (Nat.div_le_self _ _)
      · rw [p3]; exact (sz_log (k := Nat.log2 n / 64 + Nat.log2 d / 64 + 1) (by omega)).le (Nat.div_le_self _ _)
  | neg a ih => exact ih.neg
  | add a b iha ihb => exact (iha.add ihb).up (by show _ ≤ 2 * (a.bnd + b.bnd) + 1; omega)
  | sub a b iha ihb => exact (sm_sub iha ihb).up (by show _ ≤ 2 * (a.bnd + b.bnd) + 1; omega)
  | mul a b iha ihb => exact iha.mul ihb
  | quo a b iha ihb =>
    show Sm (a.bnd + b.bnd) (a.ev ρ / b.ev ρ)
    by_cases h0 : Big.nu (b.ev ρ) = 0
    · rw [Big.nu_zero.1 h0, Rat.div_def, Rat.inv_zero, Rat.mul_zero]
      exact sm_zero (Nat.le_trans a.bnd_pos (Nat.le_add_right _ _))
    · rw [Rat.div_def]
      exact iha.mul (ihb.inv h0)
structure Env where
  q : Nat → Rat
  raw : Nat → Bool × ByteArray × ByteArray
  fit : ∀ i, i < 100 → Fit (q i)
  big : ∀ i, Sm 4096 (q i)
  bad : ∀ i, BadF (raw i)
def Env.ofFit (q : Nat → Rat) (raw : Nat → Bool × ByteArray × ByteArray) (fit : ∀ i, Fit (q i)) (bad : ∀ i, BadF (raw i)) : Env := ⟨q, raw, fun i _ => fit i, fun i => (fit i).sm.up (by decide), bad⟩
inductive Sy where
  | n (n : Nat)
  | ng (e : Qe)
  | nu (e : Qe)
  | de (e : Qe)
  | fn (e : Qe)
  | fd (e : Qe)
  | rg (i : Nat)
  | rn (i : Nat)
  | rd (i : Nat)
  | it (e : Qe)
  | is (e : Qe)
  | lg (l : List Nat)
  | rt (e : Qe)
  | zt (e : Qe)
  | jk
def lenC (ρ : Env) (c : Nat) : Int := match c % 4 with
  | 0 => ((szN (Big.nu (ρ.q (c / 4))) : Nat) : Int)
  | 1 => ((szN (Big.de (ρ.q (c / 4))) : Nat) : Int)
  | 2 => (((ρ.raw (c / 4)).2.1.size : Nat) : Int)
  | _ => (((ρ.raw (c / 4)).2.2.size : Nat) : Int)
def lenSum (ρ : Env) : List Nat → Int
  | [] => 0
  | c :: l => match l with
    | [] => lenC ρ c
    | _ => IntKind.i64.wrap (lenSum ρ l + lenC ρ c)
structure I16 (q : Rat) : Prop where
  lo : -32768 ≤ q.num
  hi : q.num ≤ 32767
  den : q.den = 1
def Sy.holds (ρ : Env) : Sy → World → Value → Prop
  | .n k, w, v => NatIn w v k
  | .ng e, _, v => v = .bool (Big.ng (e.ev ρ.q))
  | .nu e, w, v => NatIn w v (Big.nu (e.ev ρ.q))
  | .de e, w, v => NatIn w v (Big.de (e.ev ρ.q))
  | .fn e, _, v => v = .string (bst (Big.nu (e.ev ρ.q)))
  | .fd e, _, v => v = .string (bst (Big.de (e.ev ρ.q)))
  | .rg i, _, v => v = .bool (ρ.raw i).1
  | .rn i, _, v => v = .string (ρ.raw i).2.1
  | .rd i, _, v => v = .string (ρ.raw i).2.2
  | .it e, _, v => v = .int .i64 (e.ev ρ.q).num
  | .is e, _, v => v = .int .i16 (e.ev ρ.q).num ∧ I16 (e.ev ρ.q)
  | .lg l, _, v => v = .int .i64 (lenSum ρ l)
  | .rt e, w, v => RatIn w v (e.ev ρ.q)
  | .zt e, w, v => IntIn w v (Big.ng (e.ev ρ.q)) (Big.nu (e.ev ρ.q)) ∧ Big.de (e.ev ρ.q) = 1
  | .jk, _, v => ∃ a, v = .pointer a
theorem Sy.one {ρ : Env} {f : Sy} {w : World} {v : Value} (h : f.holds ρ w v) : isOne v = true := by
  cases f <;> first | exact nat_one h | (rw [show v = _ from h]; rfl) | (rw [h.1]; rfl) | skip
  · exact ratIn_one h
  · exact intIn_one h.1
  · obtain ⟨a, rfl⟩ := h; rfl
noncomputable def symHid (t : TypeId) : Bool := natSig.hid t || refHid t
theorem symHid_nat {t : TypeId} (h : natSig.hid t = true) : symHid t = true := by unfold symHid; rw [h]; rfl
theorem symHid_ref {t : TypeId} (h : refHid t = true) : symHid t = true := by unfold symHid; rw [h, Bool.or_true]
noncomputable def symSig (ρ : Env) : Sig Sy where
  holds := Sy.holds ρ
  hid := symHid
  G := natSig.G
  base := natSig.base
  baseS := natSig.baseS
  stable := fun f _ _ _ h hk => by
    have hn := fun (b : Nat) (c : Array Value) (t : TypeId) (z : Nat × Nat) h1 h2 => hk b c t z h1 (symHid_nat h2)
    have hr : KeepR _ _ := fun b c t z h1 h2 => hk b c t z h1 (symHid_ref h2)
    cases f <;> first | exact nat_stable h hn | exact h | skip
    · exact ratIn_stable h hr
    · exact ⟨intIn_stable h.1 hr, h.2⟩
noncomputable def symLen : Sy → Option Nat
  | .n k => some (wordsN k)
  | _ => none
structure As where
  k : Nat
  a : Qe
  b : Qe
  t : Bool
def As.holds (ρ : Nat → Rat) (x : As) : Prop := match x.k with
  | 0 => x.t = true ↔ Fit (x.a.ev ρ)
  | 1 => x.t = true ↔ x.a.ev ρ = 0
  | 2 => x.t = true ↔ x.a.ev ρ = x.b.ev ρ
  | 5 => x.t = true → (x.b.ev ρ).num = (x.a.ev ρ).num.tmod 12
  | 6 => x.t = true → IntKind.i64.wrap ((x.a.ev ρ).num + (x.b.ev ρ).num) = ((Qe.add x.a x.b).ev ρ).num
  | _ => x.t = Big.ng (x.a.ev ρ)
def z0 : Qe := .v 0
noncomputable def ask (A : List As) (k : Nat) (a b : Qe) : Option Bool := List.rec (motive := fun _ => Option Bool) none
  (fun x _ ih => Bool.rec (motive := fun _ => Option Bool) ih (some x.t) (Nat.beq k x.k && (a.beq x.a && b.beq x.b))) A
theorem ask_ok {k : Nat} {a b : Qe} {t : Bool} : ∀ {A : List As}, ask A k a b = some t → ∃ x ∈ A, x.k = k ∧ x.a = a ∧ x.b = b ∧ x.t = t
  | [], h => by cases h
  | x :: A, h => by
    have h' : (Bool.rec (motive := fun _ => Option Bool) (ask A k a b) (some x.t) (Nat.beq k x.k && (a.beq x.a && b.beq x.b)) : Option Bool) = some t := h
    cases hb : (Nat.beq k x.k && (a.beq x.a && b.beq x.b)) with
    | false =>
      rw [hb] at h'
      obtain ⟨y, hy, r⟩ := ask_ok h'
      exact ⟨y, List.mem_cons_of_mem _ hy, r⟩
    | true =>
      rw [hb] at h'
      simp only [Bool.and_eq_true] at hb
      exact ⟨x, List.mem_cons_self, (Nat.eq_of_beq_eq_true hb.1).symm, (Qe.beq_ok _ _ hb.2.1).symm, (Qe.beq_ok _ _ hb.2.2).symm, Option.some.inj h'⟩
def AllH (ρ : Env) (A : List As) : Prop := ∀ x ∈ A, x.holds ρ.q
section
variable {ρ : Env} {A : List As} {a b : Qe} {t : Bool}
theorem ask_fit (hA : AllH ρ A) (h : ask A 0 a z0 = some t) : t = true ↔ Fit (a.ev ρ.q) := by
  obtain ⟨x, hx, h1, rfl, _, rfl⟩ := ask_ok h
  have := hA x hx
  unfold As.holds at this
  rw [h1] at this
  exact this
end
noncomputable def fitC (n d : Nat) : Bool := Nat.ble (szN n) 512 && Nat.ble (szN d) 512
theorem fit_c {s : Bool} {n d : Nat} (h : fitC n d = true) : Fit (mkRat (Big.sI s n) d) := by
  simp only [fitC, Bool.and_eq_true] at h
  have h1 := Nat.le_of_ble_eq_true h.1
  have h2 := Nat.le_of_ble_eq_true h.2
  rcases Nat.eq_zero_or_pos d with h0 | h0
  · subst h0
    rw [Rat.mkRat_zero]
    exact ⟨by decide, by decide⟩
  · obtain ⟨_, p2, p3⟩ := Big.of_parts s n d h0
    exact ⟨by rw [p2]; exact Nat.le_trans (szN_mono (Nat.div_le_self _ _)) h1, by rw [p3]; exact Nat.le_trans (szN_mono (Nat.div_le_self _ _)) h2⟩
noncomputable def fitB (A : List As) (e : Qe) : Option Bool := match ask A 0 e z0 with
  | some t => some t
  | none => match e with
    | .v i => cond (Nat.ble 100 i) none (some true)
    | .c _ n d => cond (fitC n d) (some true) none
    | _ => none
theorem fitB_ok {ρ : Env} {A : List As} (hA : AllH ρ A) {e : Qe} {t : Bool} (h : fitB A e = some t) : t = true ↔ Fit (e.ev ρ.q) := by
  unfold fitB at h
  cases ha : ask A 0 e z0 with
  | some u => rw [ha] at h; cases h; exact ask_fit hA ha
  | none =>
    rw [ha] at h
    cases e with
    | v i =>
      simp only at h
      cases hi : Nat.ble 100 i with
      | true => rw [hi] at h; cases h
      | false =>
        rw [hi] at h; cases h
        exact ⟨fun _ => ρ.fit i (by
          rcases Nat.lt_or_ge i 100 with h | h
          · exact h
          · rw [Nat.ble_eq_true_of_le h] at hi; cases hi), fun _ => rfl⟩
    | c s n d =>
      simp only at h
      cases hc : fitC n d with
      | false => rw [hc] at h; cases h
      | true => rw [hc] at h; cases h; exact ⟨fun _ => fit_c hc, fun _ => rfl⟩
    | _ => cases h
end Ev
end Go.Proofs.YtepnghhgmjobjaaGreatDoor
namespace Go.Proofs.YtepnghhgmjobjaaGreatDoor
open Go Go.RowKit
namespace Ev
section
variable {F : Type}
noncomputable def newFacts : List F → M F (List Value) := List.rec (motive := fun _ => M F (List Value)) (ret []) (fun f _ ih => bind (newFact f) fun x => bind ih fun l => ret (x :: l))
def HoldsL (S : Sig F) (w : World) : List F → List Value → Prop
  | [], us => us = []
  | f :: l, us => ∃ u us', us = u :: us' ∧ S.holds f w u ∧ isOne u = true ∧ HoldsL S w l us'
theorem loc_newFacts : ∀ l : List F, Loc (newFacts l)
  | [] => loc_ret _
  | f :: l => loc_bind (loc_newFact f) fun _ => loc_bind (loc_newFacts l) fun _ => loc_ret _
theorem newFacts_ok {S : Sig F} : ∀ (l : List F) {h h' : Tr (Blk F)} {nx nx' : Nat} {R W : List Nat} {vs : List Value} {r : Ren} {w : World} {us : List Value}, newFacts l h nx = .ok vs h' nx' R W → Mod S r h.get w → New r nx nx' → HoldsL S w l us →
    nx ≤ nx' ∧ ∃ r', Ext S r w nx nx' W h'.get r' w ∧ VsR r' vs us
  | [], h, h', nx, nx', R, W, vs, r, w, us, e, hM, hN, hu => by
    obtain ⟨rfl, rfl, rfl, rfl⟩ := ret_ok (show (ret [] : M F _) h nx = _ from e)
    obtain rfl : us = [] := hu
    exact ⟨Nat.le_refl _, r, Ext.refl _ _ hM, .nil⟩
  | f :: l, h, h', nx, nx', R, W, vs, r, w, us, e, hM, hN, hu => by
    obtain ⟨u, us', rfl, h1, ho, h2⟩ := hu
    obtain ⟨x, h3, nx3, R3, W3, R4, W4, e3, e4, rfl, rfl⟩ := bind_ok (show bind (newFact f) (fun x => bind (newFacts l) fun l => ret (x :: l)) h nx = _ from e)
    obtain ⟨i, h5, nx5, R5, W5, R6, W6, e5, e6, rfl, rfl⟩ := bind_ok e3
    obtain ⟨rfl, rfl, rfl, rfl⟩ := ret_ok e6
    unfold fresh at e5
    cases e5
    obtain ⟨xs, h7, nx7, R7, W7, R8, W8, e7, e8, rfl, rfl⟩ := bind_ok e4
    obtain ⟨rfl, rfl, rfl, rfl⟩ := ret_ok e8
    have hle : nx + 1 ≤ nx' := (loc_newFacts l).1 _ _ _ _ _ _ _ e7
    obtain ⟨r1, hX, hr⟩ := ext_fact (S := S) (f := f) hM (Below.refl _ w) (hN.sub (Nat.le_refl _) hle) h1 ho
    have hX' : Ext S r w nx (nx + 1) [] (h.set nx (.fact f)).get r1 w := hX.congr fun n => .inr (Tr.get_set _ _ _ _)
    obtain ⟨_, r2, hY, hs⟩ := newFacts_ok l e7 hX'.mod (New.after hN hX' (by omega)) h2
    refine ⟨by omega, r2, by simpa using hX'.trans hY (by omega) hle, .cons (.opq (hY.le.val _ _ hr) ho) hs⟩
theorem goes_aggT {S : Sig F} {P : Program} {l : List F} {f : FuncId} {args' : List Value} {h h' : Tr (Blk F)} {nx nx' : Nat} {R W : List Nat} {r : Ren} {w : World} {v u : Value} (hp : plain u = true)
    (e : (bind (newFacts l) fun vs => ret (.tuple ⟨[.agg ⟨vs⟩, u]⟩) : M F Value) h nx = .ok v h' nx' R W) (hM : Mod S r h.get w) (hN : New r nx nx') (c : Calls P f ⟨args'⟩ w fun e w' => ∃ us, e = .returned (.tuple ⟨[.agg ⟨us⟩, u]⟩) ∧ HoldsL S w' l us ∧ Below w.heap.size w w') :
    Calls P f ⟨args'⟩ w fun e w' => ∃ v' r', e = .returned v' ∧ VR r' v v' ∧ Ext S r w nx nx' W h'.get r' w' := by
  obtain ⟨vs, h1, nx1, R1, W1, R2, W2, e1, e2, rfl, rfl⟩ := bind_ok e
  obtain ⟨rfl, rfl, rfl, rfl⟩ := ret_ok e2
  refine c.mono ?_
  rintro en w' ⟨us, rfl, hu, hb⟩
  have hX := ext_below hM hb nx
  obtain ⟨hle, r', hY, hv⟩ := newFacts_ok l e1 hX.mod hN hu
  exact ⟨_, r', rfl, .tuple (.cons (.agg hv) (.cons (.same hp) .nil)), by simpa using hX.trans hY (Nat.le_refl _) hle⟩
theorem goes_pl {S : Sig F} {P : Program} {f : FuncId} {args' : List Value} {h h' : Tr (Blk F)} {nx nx' : Nat} {R W : List Nat} {r : Ren} {w : World} {u v : Value} (e : (ret u : M F Value) h nx = .ok v h' nx' R W) (hp : plain3 u = true) (hM : Mod S r h.get w)
    (c : Calls P f ⟨args'⟩ w fun e w' => e = .returned u ∧ Below w.heap.size w w') : Calls P f ⟨args'⟩ w fun e w' => ∃ v' r', e = .returned v' ∧ VR r' v v' ∧ Ext S r w nx nx' W h'.get r' w' := by
  obtain ⟨rfl, rfl, rfl, rfl⟩ := ret_ok e
  refine c.mono ?_
  rintro en w' ⟨rfl, hb⟩
  exact ⟨_, r, rfl, same3 hp, ext_below hM hb _⟩
end
noncomputable def getFn : Sy → Option Qe | .fn e => some e | _ => none
noncomputable def getFd : Sy → Option Qe | .fd e => some e | _ => none
noncomputable def getRn : Sy → Option Nat | .rn e => some e | _ => none
noncomputable def getRd : Sy → Option Nat | .rd e => some e | _ => none
noncomputable def knw {α : Type} (g : Sy → Option α) (v : Value) : M Sy α := bind (fact v) fun f => ofOpt (g f)
theorem loc_knw {α : Type} (g : Sy → Option α) (v : Value) : Loc (knw g v) := loc_bind (loc_fact v) fun _ => loc_opt _
section
variable {ρ : Env} {h h' : Tr (Blk Sy)} {nx nx' : Nat} {R W : List Nat} {r : Ren} {w : World}
theorem knw_ok {α : Type} {g : Sy → Option α} {v v' : Value} {x : α} (e : knw g v h nx = .ok x h' nx' R W) (hv : VR r v v') (hM : Mod (symSig ρ) r h.get w) : h' = h ∧ nx' = nx ∧ W = [] ∧ ∃ f, g f = some x ∧ f.holds ρ w v' := by
  obtain ⟨f, h1, nx1, R1, W1, R2, W2, e1, e2, rfl, rfl⟩ := bind_ok e
  obtain ⟨rfl, rfl, rfl, hh⟩ : h1 = h ∧ nx1 = nx ∧ W1 = [] ∧ (symSig ρ).holds f w v' := by
    have e1' : (fact v : M Sy Sy) h nx = .ok f h1 nx1 R1 W1 := e1
    exact fact_ok e1' hv hM
  cases hg : g f with
  | none => rw [hg] at e2; exact absurd e2 (by simp [ofOpt, fail])
  | some y =>
    rw [hg] at e2
    obtain ⟨rfl, rfl, rfl, rfl⟩ := ret_ok e2
    exact ⟨rfl, rfl, rfl, f, hg, hh⟩
theorem fn_of {f : Sy} {e : Qe} {v : Value} (hg : getFn f = some e) (h : f.holds ρ w v) : v = .string (bst (Big.nu (e.ev ρ.q))) := by cases f <;> simp [getFn] at hg; subst hg; exact h
theorem fd_of {f : Sy} {e : Qe} {v : Value} (hg : getFd f = some e) (h : f.holds ρ w v) : v = .string (bst (Big.de (e.ev ρ.q))) := by cases f <;> simp [getFd] at hg; subst hg; exact h
theorem rn_of {f : Sy} {e : Nat} {v : Value} (hg : getRn f = some e) (h : f.holds ρ w v) : v = .string (ρ.raw e).2.1 := by cases f <;> simp [getRn] at hg; subst hg; exact h
theorem rd_of {f : Sy} {e : Nat} {v : Value} (hg : getRd f = some e) (h : f.holds ρ w v) : v = .string (ρ.raw e).2.2 := by cases f <;> simp [getRd] at hg; subst hg; exact h
theorem vr_agg {l : List Value} {v' : Value} (h : VR r (.agg ⟨l⟩) v') : ∃ l', v' = .agg ⟨l'⟩ ∧ VsR r l l' := by
  cases h with
  | same p => simp [plain] at p
  | agg a => exact ⟨_, rfl, a⟩
end
section
variable {ρ : Env} {h h' : Tr (Blk Sy)} {nx nx' : Nat} {R W : List Nat} {r : Ren} {w : World}
theorem num_holds {v' : Value} {e : Qe} (h : NumIn w v' (e.ev ρ.q)) : ∃ us, v' = .agg ⟨us⟩ ∧ HoldsL (symSig ρ) w [.ng e, .nu e, .de e] us := by
  obtain ⟨a, b, rfl, h1, h2⟩ := h
  exact ⟨[.bool (Big.ng (e.ev ρ.q)), a, b], rfl, _, _, rfl, rfl, rfl, _, _, rfl, h1, nat_one h1, _, _, rfl, h2, nat_one h2, rfl⟩
theorem frac_holds (e : Qe) : HoldsL (symSig ρ) w [.ng e, .fn e, .fd e] [.bool (Big.ng (e.ev ρ.q)), .string (bst (Big.nu (e.ev ρ.q))), .string (bst (Big.de (e.ev ρ.q)))] :=
  ⟨_, _, rfl, rfl, rfl, _, _, rfl, rfl, rfl, _, _, rfl, rfl, rfl, rfl⟩
end
noncomputable def frc (a b : Value) (e : Qe) : M Sy (Option Qe) := bind (knw getFn a) fun e2 => bind (knw getFd b) fun e3 => cond (e.beq e2 && e.beq e3) (ret (some e)) fail
noncomputable def raw (a b : Value) (i : Nat) : M Sy (Option Qe) := bind (knw getRn a) fun j => bind (knw getRd b) fun k => cond (Nat.beq i j && Nat.beq i k) (ret none) fail
noncomputable def isB (n : Nat) (s : ByteArray) : Bool := eqL eqC (btx n) s.data.toList
noncomputable def cst (s : Bool) (a b : Value) : Option (Option Qe) := match a with
  | .string x => match b with
    | .string y => cond (Nat.ble y.size 0 && (Nat.ble x.size 0 && !s)) (some none)
        (cond (Nat.beq (Nat.gcd (Big.bnum x.data.toList) (Big.bnum y.data.toList)) 1 && (Nat.ble 1 (Big.bnum y.data.toList) && ((!s || Nat.ble 1 (Big.bnum x.data.toList)) && (isB (Big.bnum x.data.toList) x && isB (Big.bnum y.data.toList) y))))
          (some (some (.c s (Big.bnum x.data.toList) (Big.bnum y.data.toList)))) none)
    | _ => none
  | _ => none
noncomputable def frg (b c : Value) (f : Sy) : M Sy (Option Qe) := match f with
  | .ng e => frc b c e
  | .rg i => raw b c i
  | _ => fail
noncomputable def frcV (l : List Value) : M Sy (Option Qe) := match l with
  | [a, b, c] => match a with
    | .bool s => ofOpt (cst s b c)
    | a => bind (fact a) (frg b c)
  | _ => fail
theorem loc_frg (b c : Value) (f : Sy) : Loc (frg b c f) := by
  unfold frg frc raw
  split
  · exact loc_bind (loc_knw _ _) fun _ => loc_bind (loc_knw _ _) fun _ => loc_cond (loc_ret _) loc_fail
  · exact loc_bind (loc_knw _ _) fun _ => loc_bind (loc_knw _ _) fun _ => loc_cond (loc_ret _) loc_fail
  · exact loc_fail
theorem loc_frcV (l : List Value) : Loc (frcV l) := by
  unfold frcV
  split
  · split
    · exact loc_opt _
    · exact loc_bind (loc_fact _) fun _ => loc_frg _ _ _
  · exact loc_fail
theorem bad_zero : BadF (false, ⟨#[]⟩, ⟨#[]⟩) := by
  intro q _ ⟨_, _, h⟩
  have h1 : (⟨#[]⟩ : ByteArray).size = (bst (Big.de q)).size := congrArg ByteArray.size h
  have h2 := szN_pos (n := Big.de q) (by have := Big.de_pos q; omega)
  rw [bst_size] at h1
  have : (⟨#[]⟩ : ByteArray).size = 0 := rfl
  omega
def FrcIs (ρ : Env) (l' : List Value) : Option Qe → Prop
  | some e => l' = [.bool (Big.ng (e.ev ρ.q)), .string (bst (Big.nu (e.ev ρ.q))), .string (bst (Big.de (e.ev ρ.q)))]
  | none => ∃ x, BadF x ∧ l' = [.bool x.1, .string x.2.1, .string x.2.2]
theorem isB_ok {n : Nat} {s : ByteArray} (h : isB n s = true) : s = bst n := by
  have h1 := eqL_ok eqC_ok h
  obtain ⟨⟨l⟩⟩ := s
  unfold bst
  rw [h1]
theorem parts_c {s : Bool} {n d : Nat} (h1 : Nat.gcd n d = 1) (h2 : 1 ≤ d) (h3 : s = true → 1 ≤ n) : Big.ng (mkRat (Big.sI s n) d) = s ∧ Big.nu (mkRat (Big.sI s n) d) = n ∧ Big.de (mkRat (Big.sI s n) d) = d :=
  Big.parts h2 h1 h3 (show d ≠ 0 by omega) rfl rfl
theorem cst_ok {ρ : Env} {s : Bool} {a b : Value} {o : Option Qe} (h : cst s a b = some o) : FrcIs ρ [.bool s, a, b] o := by
  unfold cst at h
  cases a with
  | string x =>
    cases b with
    | string y =>
      simp only at h
      cases hz : (Nat.ble y.size 0 && (Nat.ble x.size 0 && !s)) with
      | true =>
        rw [hz] at h
        simp only [cond_true, Option.some.injEq] at h
        subst h
        simp only [Bool.and_eq_true, Bool.not_eq_true'] at hz
        have y0 := empty_of (Nat.le_zero.1 (Nat.le_of_ble_eq_true hz.1))
        have x0 := empty_of (Nat.le_zero.1 (Nat.le_of_ble_eq_true hz.2.1))
        have s0 := hz.2.2
        subst y0; subst x0; subst s0
        exact ⟨(false, ⟨#[]⟩, ⟨#[]⟩), bad_zero, rfl⟩
      | false =>
        rw [hz] at h
        simp only [cond_false] at h
        cases hk : (Nat.beq (Nat.gcd (Big.bnum x.data.toList) (Big.bnum y.data.toList)) 1 && (Nat.ble 1 (Big.bnum y.data.toList) && ((!s || Nat.ble 1 (Big.bnum x.data.toList)) && (isB (Big.bnum x.data.toList) x && isB (Big.bnum y.data.toList) y)))) with
        | false => rw [hk] at h; cases h
        | true =>
          rw [hk] at h
          simp only [cond_true, Option.some.injEq] at h
          subst h
          simp only [Bool.and_eq_true, Bool.or_eq_true, Bool.not_eq_true'] at hk
          obtain ⟨k1, k2, k3, k4, k5⟩ := hk
          obtain ⟨p1, p2, p3⟩ := parts_c (s := s) (Nat.eq_of_beq_eq_true k1) (Nat.le_of_ble_eq_true k2) (fun hs => by
            rcases k3 with k3 | k3
            · rw [hs] at k3; cases k3
            · exact Nat.le_of_ble_eq_true k3)
          show [Value.bool s, .string x, .string y] = [.bool (Big.ng (mkRat (Big.sI s (Big.bnum x.data.toList)) (Big.bnum y.data.toList))), .string (bst (Big.nu (mkRat (Big.sI s (Big.bnum x.data.toList)) (Big.bnum y.data.toList)))), .string (bst (Big.de (mkRat (Big.sI s (Big.bnum x.data.toList)) (Big.bnum y.data.toList))))]
          rw [p1, p2, p3, ← isB_ok k4, ← isB_ok k5]
    | _ => simp at h
  | _ => simp at h
section
variable {ρ : Env} {h h' : Tr (Blk Sy)} {nx nx' : Nat} {R W : List Nat} {r : Ren} {w : World}
theorem frg_ok {b c b' c' v : Value} {f : Sy} {o : Option Qe} (e : frg b c f h nx = .ok o h' nx' R W) (hb : VR r b b') (hc : VR r c c') (hf : f.holds ρ w v) (hM : Mod (symSig ρ) r h.get w) : h' = h ∧ nx' = nx ∧ W = [] ∧ FrcIs ρ [v, b', c'] o := by
  unfold frg at e
  cases f with
  | ng q =>
    obtain ⟨e2, h2, nx2, R3, W3, R4, W4, q3, q4, rfl, rfl⟩ := bind_ok (show frc b c q h nx = _ from e)
    obtain ⟨rfl, rfl, rfl, f2, g2, k2⟩ := knw_ok q3 hb hM
    obtain ⟨e3, h3, nx3, R5, W5, R6, W6, q5, q6, rfl, rfl⟩ := bind_ok q4
    obtain ⟨rfl, rfl, rfl, f3, g3, k3⟩ := knw_ok q5 hc hM
    obtain ⟨hbq, q7⟩ := cond_ok q6
    obtain ⟨rfl, rfl, rfl, rfl⟩ := ret_ok q7
    simp only [Bool.and_eq_true] at hbq
    have x2 := Qe.beq_ok _ _ hbq.1
    have x3 := Qe.beq_ok _ _ hbq.2
    subst x2; subst x3
    refine ⟨rfl, rfl, by simp, ?_⟩
    show [v, b', c'] = _
    rw [show v = .bool (Big.ng (q.ev ρ.q)) from hf, fn_of g2 k2, fd_of g3 k3]
  | rg i =>
    obtain ⟨e2, h2, nx2, R3, W3, R4, W4, q3, q4, rfl, rfl⟩ := bind_ok (show raw b c i h nx = _ from e)
    obtain ⟨rfl, rfl, rfl, f2, g2, k2⟩ := knw_ok q3 hb hM
    obtain ⟨e3, h3, nx3, R5, W5, R6, W6, q5, q6, rfl, rfl⟩ := bind_ok q4
    obtain ⟨rfl, rfl, rfl, f3, g3, k3⟩ := knw_ok q5 hc hM
    obtain ⟨hbq, q7⟩ := cond_ok q6
    obtain ⟨rfl, rfl, rfl, rfl⟩ := ret_ok q7
    simp only [Bool.and_eq_true] at hbq
    have x2 := Nat.eq_of_beq_eq_true hbq.1
    have x3 := Nat.eq_of_beq_eq_true hbq.2
    subst x2; subst x3
    refine ⟨rfl, rfl, by simp, ρ.raw i, ρ.bad i, ?_⟩
    rw [show v = .bool (ρ.raw i).1 from hf, rn_of g2 k2, rd_of g3 k3]
  | _ => exact absurd e (by simp [fail])
theorem frcV_ok {l l' : List Value} {o : Option Qe} (e : frcV l h nx = .ok o h' nx' R W) (hv : VsR r l l') (hM : Mod (symSig ρ) r h.get w) : h' = h ∧ nx' = nx ∧ W = [] ∧ FrcIs ρ l' o := by
  unfold frcV at e
  rcases l with _ | ⟨a, _ | ⟨b, _ | ⟨c, _ | ⟨d, l⟩⟩⟩⟩ <;> first | (cases (show (fail : M Sy (Option Qe)) h nx = _ from e); done) | skip
  cases hv with
  | cons ha hv => cases hv with
    | cons hb hv => cases hv with
      | cons hc hv =>
        cases hv
        simp only at e
        split at e
        · rename_i s
          cases hcs : cst s b c with
          | none => rw [hcs] at e; exact absurd e (by simp [ofOpt, fail])
          | some o2 =>
            rw [hcs] at e
            obtain ⟨rfl, rfl, rfl, rfl⟩ := ret_ok e
            refine ⟨rfl, rfl, rfl, ?_⟩
            rw [ha.bool]
            have hb2 : plain b = true ∧ plain c = true := by
              unfold cst at hcs
              cases b <;> simp at hcs <;> cases c <;> simp at hcs <;> exact ⟨rfl, rfl⟩
            rw [hb.eq_of_plain hb2.1, hc.eq_of_plain hb2.2]
            exact cst_ok hcs
        · obtain ⟨f, h1, nx1, R1, W1, R2, W2, q1, q2, rfl, rfl⟩ := bind_ok e
          obtain ⟨rfl, rfl, rfl, hf⟩ := fact_ok q1 ha hM
          obtain ⟨rfl, rfl, rfl, k⟩ := frg_ok q2 hb hc hf hM
          exact ⟨rfl, rfl, by simp, k⟩
end
end Ev
end Go.Proofs.YtepnghhgmjobjaaGreatDoor
