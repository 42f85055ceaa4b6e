/- Contracts, in this order: exact: Read, of what may not be. · The interpreter over numbers told by expressions of those ha -/
import Derived.Test.YtdlhpleabfnogaaGreatDoorLu21
import Derived.Test.YtdlhpleabfnogaaGreatDoorLu20
import Derived.Test.YtdlhpleabfnogaaGreatDoorLu19
namespace Go.Proofs.YtdlhpleabfnogaaGreatDoor
open Go.RowKit
def BadF (x : Bool × ByteArray × ByteArray) : Prop := ∀ q : Rat, Fit q → ¬ (x.1 = Big.ng q ∧ x.2.1 = bst (Big.nu q) ∧ x.2.2 = bst (Big.de q))
set_option maxRecDepth 100000 in
set_option maxHeartbeats 4000000 in
theorem mayBe_all (w : World) (s : ByteArray) :
    Calls Tryz.prog 71 #[.string s] w fun e w' => e = .returned (.bool (mayB s)) ∧ w = w' := by
  by_cases h5 : s.size ≤ 512
  · by_cases h0 : s.size = 0
    · have e := empty_of h0
      subst e
      have HD := Lib.hid (show mayB ⟨#[]⟩ = true by decide)
      go_enter Tryz.func71, Tryz.ntmps71
      go_wp2_with fail
      go_ret
      exact ⟨ret_bool HD.out.symm, rfl⟩
    · have i1 : (s.size : Int) ≤ 512 := by omega
      have p0 : 0 < s.size := by omega
      have HD := Lib.hid (show mayB s = ((s[0].toNat : Int) != 0) by
        unfold mayB
        rw [decide_eq_true h5, Bool.true_and, head_get p0, Bool.eq_iff_iff, Bool.not_eq_true', beq_eq_false_iff_ne, bne_iff_ne]
        constructor
        · intro h e; exact h (by rw [Option.some.injEq]; apply UInt8.toNat_inj.1; show _ = 0; omega)
        · intro h e; rw [Option.some.injEq] at e; rw [e] at h; exact h rfl)
      generalize mayB s = z at *
      have hne : ¬ s.toList = [] := by rw [ByteArray.toList_eq]; intro e; have := size_toList s; rw [e] at this; simp at this; omega
      have hne2 : s.toList.isEmpty = false := by rw [Bool.eq_false_iff]; intro e; exact hne (List.isEmpty_iff.1 e)
      clear h0
      go_enter Tryz.func71, Tryz.ntmps71
      go_wp2_with fail
      go_ret
      exact ⟨ret_bool (by rw [HD.out]), rfl⟩
  · have i1 : ¬ (s.size : Int) ≤ 512 := by omega
    have HD := Lib.hid (show mayB s = false by unfold mayB; rw [decide_eq_false h5]; rfl)
    generalize mayB s = z at *
    go_enter Tryz.func71, Tryz.ntmps71
    go_wp2_with fail
    go_ret
    exact ⟨ret_bool HD.out.symm, rfl⟩
def ReadZ (w : World) (e : Ending) (w' : World) : Prop := e = .returned (.tuple #[.agg #[.bool false, .slice none 0 0, .slice none 0 0], .bool false]) ∧ Below w.heap.size w w'
theorem size_zero_iff {s : ByteArray} : s.toList.isEmpty = decide (s.size = 0) := by
  rw [ByteArray.toList_eq]
  by_cases h : s.size = 0
  · rw [empty_of h]; rfl
  · rw [decide_eq_false h, Bool.eq_false_iff]
    intro e
    have h1 := size_toList s
    rw [List.isEmpty_iff.1 e] at h1
    exact h (by simpa using h1.symm)
theorem nonempty_list {s : ByteArray} (h : ¬ s.size = 0) : ¬ s.toList = [] ∧ s.toList.isEmpty = false := by
  have h1 : s.toList.isEmpty = false := by rw [size_zero_iff, decide_eq_false h]
  exact ⟨fun e => (by rw [e] at h1; cases h1), h1⟩
set_option maxRecDepth 100000 in
set_option maxHeartbeats 4000000 in
theorem exRead_badA (w : World) (b : Bool) (s t : ByteArray) (h : mayB s = false) :
    Calls Tryz.prog 36 #[.agg #[.bool b, .string s, .string t]] w (ReadZ w) := by
  have M1 := Lib.hid (fun W => mayBe_all W s)
  rw [h] at M1
  clear h
  obtain ⟨X0, R0, B0⟩ := boxed2 w 35 71 (.bool b) (.string s) (.string t) (.bool false) (.slice none 0 0) (.slice none 0 0)
  have HX0 := Lib.hid X0; have HR0 := Lib.hid R0; have HB0 := Lib.hid B0
  clear X0 R0 B0
  go_enter Tryz.func36, Tryz.ntmps36
  go_wp2_with fail
  generalize (w.alloc (.cells #[.bool b, .string s, .string t] 35)).alloc (.cells #[.bool false, .slice none 0 0, .slice none 0 0] 71) = w0 at *
  have x0 := HX0.out.c0; have x1 := HX0.out.c1; have x2 := HX0.out.c2
  have k0 := HR0.out.c0; have k1 := HR0.out.c1; have k2 := HR0.out.c2; have f0 := HR0.out.frozen 0; have f1 := HR0.out.frozen 1; have f2 := HR0.out.frozen 2
  go_wp2_with (first
      | (go_at_call 71; with_reducible refine (M1.out _).mono ?_; rintro e w' ⟨rfl, rfl⟩))
  have HD := Lib.hid (At3.put HR0.out (.bool false) (.slice none 0 0) (.slice none 0 0))
  have HE := Lib.hid (put_below HB0.out (show w.heap.size ≤ w.heap.size + 1 by omega) (.bool false) (.slice none 0 0) (.slice none 0 0))
  generalize (((w0.setCell ⟨w.heap.size + 1, 0, none⟩ (.bool false)).setCell ⟨w.heap.size + 1, 1, none⟩ (.slice none 0 0)).setCell ⟨w.heap.size + 1, 2, none⟩ (.slice none 0 0)) = wz at HD HE ⊢
  clear k0 k1 k2 f0 f1 f2
  have r0 := HD.out.c0; have r1 := HD.out.c1; have r2 := HD.out.c2
  exact bodyPost_ret (v := .tuple #[.agg #[.bool false, .slice none 0 0, .slice none 0 0], .bool false]) (by simp [results, Tryz.results36, go_sem, r0, r1, r2]) rfl ⟨rfl, HE.out⟩
set_option maxRecDepth 100000 in
set_option maxHeartbeats 4000000 in
theorem exRead_badB (w : World) (b : Bool) (s t : ByteArray) (g : mayB s = true) (h : mayB t = false) :
    Calls Tryz.prog 36 #[.agg #[.bool b, .string s, .string t]] w (ReadZ w) := by
  have M1 := Lib.hid (fun W => mayBe_all W s)
  have M2 := Lib.hid (fun W => mayBe_all W t)
  rw [g] at M1
  rw [h] at M2
  clear g h
  obtain ⟨X0, R0, B0⟩ := boxed2 w 35 71 (.bool b) (.string s) (.string t) (.bool false) (.slice none 0 0) (.slice none 0 0)
  have HX0 := Lib.hid X0; have HR0 := Lib.hid R0; have HB0 := Lib.hid B0
  clear X0 R0 B0
  go_enter Tryz.func36, Tryz.ntmps36
  go_wp2_with fail
  generalize (w.alloc (.cells #[.bool b, .string s, .string t] 35)).alloc (.cells #[.bool false, .slice none 0 0, .slice none 0 0] 71) = w0 at *
  have x0 := HX0.out.c0; have x1 := HX0.out.c1; have x2 := HX0.out.c2
  have k0 := HR0.out.c0; have k1 := HR0.out.c1; have k2 := HR0.out.c2; have f0 := HR0.out.frozen 0; have f1 := HR0.out.frozen 1; have f2 := HR0.out.frozen 2
  go_wp2_with (first
      | (go_at_call 71; with_reducible refine (M1.out _).mono ?_; rintro e w' ⟨rfl, rfl⟩)
      | (go_at_call 71; with_reducible refine (M2.out _).mono ?_; rintro e w' ⟨rfl, rfl⟩))
  have HD := Lib.hid (At3.put HR0.out (.bool false) (.slice none 0 0) (.slice none 0 0))
  have HE := Lib.hid (put_below HB0.out (show w.heap.size ≤ w.heap.size + 1 by omega) (.bool false) (.slice none 0 0) (.slice none 0 0))
  generalize (((w0.setCell ⟨w.heap.size + 1, 0, none⟩ (.bool false)).setCell ⟨w.heap.size + 1, 1, none⟩ (.slice none 0 0)).setCell ⟨w.heap.size + 1, 2, none⟩ (.slice none 0 0)) = wz at HD HE ⊢
  clear k0 k1 k2 f0 f1 f2
  have r0 := HD.out.c0; have r1 := HD.out.c1; have r2 := HD.out.c2
  exact bodyPost_ret (v := .tuple #[.agg #[.bool false, .slice none 0 0, .slice none 0 0], .bool false]) (by simp [results, Tryz.results36, go_sem, r0, r1, r2]) rfl ⟨rfl, HE.out⟩
set_option maxRecDepth 100000 in
set_option maxHeartbeats 4000000 in
theorem exRead_badC (w : World) (b : Bool) (s : ByteArray) (g : mayB s = true) :
    Calls Tryz.prog 36 #[.agg #[.bool b, .string s, .string ⟨#[]⟩]] w (ReadZ w) := by
  have M1 := Lib.hid (fun W => mayBe_all W s)
  have M2 := Lib.hid (fun W => mayBe_all W ⟨#[]⟩)
  rw [g] at M1
  rw [show mayB ⟨#[]⟩ = true by decide] at M2
  clear g
  obtain ⟨X0, R0, B0⟩ := boxed2 w 35 71 (.bool b) (.string s) (.string ⟨#[]⟩) (.bool false) (.slice none 0 0) (.slice none 0 0)
  have HX0 := Lib.hid X0; have HR0 := Lib.hid R0; have HB0 := Lib.hid B0
  clear X0 R0 B0
  go_enter Tryz.func36, Tryz.ntmps36
  go_wp2_with fail
  generalize (w.alloc (.cells #[.bool b, .string s, .string ⟨#[]⟩] 35)).alloc (.cells #[.bool false, .slice none 0 0, .slice none 0 0] 71) = w0 at *
  have x0 := HX0.out.c0; have x1 := HX0.out.c1; have x2 := HX0.out.c2
  have k0 := HR0.out.c0; have k1 := HR0.out.c1; have k2 := HR0.out.c2; have f0 := HR0.out.frozen 0; have f1 := HR0.out.frozen 1; have f2 := HR0.out.frozen 2
  go_wp2_with (first
      | (go_at_call 71; with_reducible refine (M1.out _).mono ?_; rintro e w' ⟨rfl, rfl⟩)
      | (go_at_call 71; with_reducible refine (M2.out _).mono ?_; rintro e w' ⟨rfl, rfl⟩))
  have HD := Lib.hid (At3.put HR0.out (.bool false) (.slice none 0 0) (.slice none 0 0))
  have HE := Lib.hid (put_below HB0.out (show w.heap.size ≤ w.heap.size + 1 by omega) (.bool false) (.slice none 0 0) (.slice none 0 0))
  generalize (((w0.setCell ⟨w.heap.size + 1, 0, none⟩ (.bool false)).setCell ⟨w.heap.size + 1, 1, none⟩ (.slice none 0 0)).setCell ⟨w.heap.size + 1, 2, none⟩ (.slice none 0 0)) = wz at HD HE ⊢
  clear k0 k1 k2 f0 f1 f2
  have r0 := HD.out.c0; have r1 := HD.out.c1; have r2 := HD.out.c2
  exact bodyPost_ret (v := .tuple #[.agg #[.bool false, .slice none 0 0, .slice none 0 0], .bool false]) (by simp [results, Tryz.results36, go_sem, r0, r1, r2]) rfl ⟨rfl, HE.out⟩
set_option maxRecDepth 100000 in
set_option maxHeartbeats 4000000 in
theorem exRead_badD (w : World) (t : ByteArray) (g : mayB t = true) (h : ¬ t.size = 0) :
    Calls Tryz.prog 36 #[.agg #[.bool true, .string ⟨#[]⟩, .string t]] w (ReadZ w) := by
  have M1 := Lib.hid (fun W => mayBe_all W ⟨#[]⟩)
  have M2 := Lib.hid (fun W => mayBe_all W t)
  rw [g] at M2
  rw [show mayB ⟨#[]⟩ = true by decide] at M1
  obtain ⟨d1, d2⟩ := nonempty_list h
  clear g h
  obtain ⟨X0, R0, B0⟩ := boxed2 w 35 71 (.bool true) (.string ⟨#[]⟩) (.string t) (.bool false) (.slice none 0 0) (.slice none 0 0)
  have HX0 := Lib.hid X0; have HR0 := Lib.hid R0; have HB0 := Lib.hid B0
  clear X0 R0 B0
  go_enter Tryz.func36, Tryz.ntmps36
  go_wp2_with fail
  generalize (w.alloc (.cells #[.bool true, .string ⟨#[]⟩, .string t] 35)).alloc (.cells #[.bool false, .slice none 0 0, .slice none 0 0] 71) = w0 at *
  have x0 := HX0.out.c0; have x1 := HX0.out.c1; have x2 := HX0.out.c2
  have k0 := HR0.out.c0; have k1 := HR0.out.c1; have k2 := HR0.out.c2; have f0 := HR0.out.frozen 0; have f1 := HR0.out.frozen 1; have f2 := HR0.out.frozen 2
  go_wp2_with (first
      | (go_at_call 71; with_reducible refine (M1.out _).mono ?_; rintro e w' ⟨rfl, rfl⟩)
      | (go_at_call 71; with_reducible refine (M2.out _).mono ?_; rintro e w' ⟨rfl, rfl⟩))
  have HD := Lib.hid (At3.put HR0.out (.bool false) (.slice none 0 0) (.slice none 0 0))
  have HE := Lib.hid (put_below HB0.out (show w.heap.size ≤ w.heap.size + 1 by omega) (.bool false) (.slice none 0 0) (.slice none 0 0))
  generalize (((w0.setCell ⟨w.heap.size + 1, 0, none⟩ (.bool false)).setCell ⟨w.heap.size + 1, 1, none⟩ (.slice none 0 0)).setCell ⟨w.heap.size + 1, 2, none⟩ (.slice none 0 0)) = wz at HD HE ⊢
  clear k0 k1 k2 f0 f1 f2
  have r0 := HD.out.c0; have r1 := HD.out.c1; have r2 := HD.out.c2
  exact bodyPost_ret (v := .tuple #[.agg #[.bool false, .slice none 0 0, .slice none 0 0], .bool false]) (by simp [results, Tryz.results36, go_sem, r0, r1, r2]) rfl ⟨rfl, HE.out⟩
set_option maxRecDepth 100000 in
set_option maxHeartbeats 4000000 in
theorem exRead_badE (w : World) (n d : Nat) (sn : szN n ≤ 512) (sd : szN d ≤ 512) (d0 : d ≠ 0) (hc : Nat.gcd n d ≠ 1) :
    Calls Tryz.prog 36 #[.agg #[.bool false, .string (bst n), .string (bst d)]] w (ReadZ w) := by
  have M1 := Lib.hid (fun W => mayBe_all W (bst n))
  have M2 := Lib.hid (fun W => mayBe_all W (bst d))
  rw [mayB_bst sn] at M1
  rw [mayB_bst sd] at M2
  have S1 := Lib.hid (Sz.bytes sn); have S2 := Lib.hid (Sz.bytes sd)
  have F1 := Lib.hid (fun W => fromBytes_num W n (by omega))
  have F2 := Lib.hid (fun W => fromBytes_num W d (by omega))
  have d1 := bst_ne d0
  have d2 := bst_ne2 d0
  have HC := Lib.hid hc
  clear hc
  obtain ⟨X0, R0, B0⟩ := boxed2 w 35 71 (.bool false) (.string (bst n)) (.string (bst d)) (.bool false) (.slice none 0 0) (.slice none 0 0)
  have HX0 := Lib.hid X0; have HR0 := Lib.hid R0; have HB0 := Lib.hid B0
  clear X0 R0 B0
  go_enter Tryz.func36, Tryz.ntmps36
  go_wp2_with fail
  generalize (w.alloc (.cells #[.bool false, .string (bst n), .string (bst d)] 35)).alloc (.cells #[.bool false, .slice none 0 0, .slice none 0 0] 71) = w0 at *
  have x0 := HX0.out.c0; have x1 := HX0.out.c1; have x2 := HX0.out.c2
  have k0 := HR0.out.c0; have k1 := HR0.out.c1; have k2 := HR0.out.c2; have f0 := HR0.out.frozen 0; have f1 := HR0.out.frozen 1; have f2 := HR0.out.frozen 2
  go_wp2_with (first
      | (go_at_call 71; with_reducible refine (M1.out _).mono ?_; rintro e w' ⟨rfl, rfl⟩)
      | (go_at_call 71; with_reducible refine (M2.out _).mono ?_; rintro e w' ⟨rfl, rfl⟩))
  clear d1 d2
  clear x0 x1 x2 k0 k1 k2 f0 f1 f2
  have KX := Lib.hid (fun W (h : Below w0.heap.size w0 W) => And.intro (HX0.out.keep h).c1 (HX0.out.keep h).c2)
  have C1 := Lib.hid (fun W (h : Below w0.heap.size w0 W) => lift2 h (F1.out W))
  have C2 := Lib.hid (fun W (h : Below w0.heap.size w0 W) => lift2 h (F2.out W))
  go_region_held3 (fun w' => w'.cell? ⟨w.heap.size, 1, none⟩ = some (.string (bst n)) ∧ w'.cell? ⟨w.heap.size, 2, none⟩ = some (.string (bst d)))
    (exact KX.out _ (by first | assumption | exact Below.refl _ _ | exact below_drew (Below.refl _ _) | exact below_drew (by assumption)))
    (first
      | (go_at_call 72; (with_reducible refine (C1.out _ (by first | assumption | exact Below.refl _ _ | exact below_drew (Below.refl _ _) | exact below_drew (by assumption))).mono ?_); rintro e w2 ⟨v2, rfl, hv2, hw2, hw2'⟩)
      | (go_at_call 72; (with_reducible refine (C2.out _ (by first | assumption | exact Below.refl _ _ | exact below_drew (Below.refl _ _) | exact below_drew (by assumption))).mono ?_); rintro e w3 ⟨v3, rfl, hv3, hw3, hw3'⟩)
      | fail)
  have HB3 := Lib.hid (HB0.out.trans (hw3.mono HB0.out.size))
  have HR3 := Lib.hid (HR0.out.keep hw3)
  have HV := Lib.hid (And.intro (hv2.keep hw3') hv3)
  clear hv2 hv3 hw2 hw2' hw3 hw3' HX0 HR0 HB0 KX C1 C2
  have G := Lib.hid (gcd_num w3 _ _ _ _ 64 64 HV.out.1 HV.out.2 S1.out S2.out (by omega) (by omega))
  obtain ⟨cg, hcg⟩ : ∃ z, Nat.gcd n d = z := ⟨_, rfl⟩
  rw [hcg] at G HC
  clear hcg
  go_wp2_with fail
  refine G.out.mono ?_
  rintro e w4 ⟨v4, rfl, hv4, hw4⟩
  have I := Lib.hid (isOne_num w4 v4 cg hv4)
  rw [decide_eq_false HC.out] at I
  have HB0 := Lib.hid (HB3.out.trans (hw4.mono HB3.out.size))
  have HR0 := Lib.hid (HR3.out.keep hw4)
  clear hv4 hw4 HB3 HR3 HV G
  go_wp2_with fail
  refine I.out.mono ?_
  rintro e w' ⟨rfl, rfl⟩
  have k0 := HR0.out.c0; have k1 := HR0.out.c1; have k2 := HR0.out.c2; have f0 := HR0.out.frozen 0; have f1 := HR0.out.frozen 1; have f2 := HR0.out.frozen 2
  go_wp2_with fail
  have HD := Lib.hid (At3.put HR0.out (.bool false) (.slice none 0 0) (.slice none 0 0))
  have HE := Lib.hid (put_below HB0.out (show w.heap.size ≤ w.heap.size + 1 by omega) (.bool false) (.slice none 0 0) (.slice none 0 0))
  generalize (((w4.setCell ⟨w.heap.size + 1, 0, none⟩ (.bool false)).setCell ⟨w.heap.size + 1, 1, none⟩ (.slice none 0 0)).setCell ⟨w.heap.size + 1, 2, none⟩ (.slice none 0 0)) = wz at HD HE ⊢
  clear k0 k1 k2 f0 f1 f2
  have r0 := HD.out.c0; have r1 := HD.out.c1; have r2 := HD.out.c2
  exact bodyPost_ret (v := .tuple #[.agg #[.bool false, .slice none 0 0, .slice none 0 0], .bool false]) (by simp [results, Tryz.results36, go_sem, r0, r1, r2]) rfl ⟨rfl, HE.out⟩
set_option maxRecDepth 100000 in
set_option maxHeartbeats 4000000 in
theorem exRead_badF (w : World) (n d : Nat) (n0 : n ≠ 0) (sn : szN n ≤ 512) (sd : szN d ≤ 512) (d0 : d ≠ 0) (hc : Nat.gcd n d ≠ 1) :
    Calls Tryz.prog 36 #[.agg #[.bool true, .string (bst n), .string (bst d)]] w (ReadZ w) := by
  have M1 := Lib.hid (fun W => mayBe_all W (bst n))
  have M2 := Lib.hid (fun W => mayBe_all W (bst d))
  rw [mayB_bst sn] at M1
  rw [mayB_bst sd] at M2
  have S1 := Lib.hid (Sz.bytes sn); have S2 := Lib.hid (Sz.bytes sd)
  have F1 := Lib.hid (fun W => fromBytes_num W n (by omega))
  have F2 := Lib.hid (fun W => fromBytes_num W d (by omega))
  have d1 := bst_ne d0
  have d2 := bst_ne2 d0
  have HC := Lib.hid hc
  have n1 := bst_ne n0
  have n2 := bst_ne2 n0
  clear hc
  obtain ⟨X0, R0, B0⟩ := boxed2 w 35 71 (.bool true) (.string (bst n)) (.string (bst d)) (.bool false) (.slice none 0 0) (.slice none 0 0)
  have HX0 := Lib.hid X0; have HR0 := Lib.hid R0; have HB0 := Lib.hid B0
  clear X0 R0 B0
  go_enter Tryz.func36, Tryz.ntmps36
  go_wp2_with fail
  generalize (w.alloc (.cells #[.bool true, .string (bst n), .string (bst d)] 35)).alloc (.cells #[.bool false, .slice none 0 0, .slice none 0 0] 71) = w0 at *
  have x0 := HX0.out.c0; have x1 := HX0.out.c1; have x2 := HX0.out.c2
  have k0 := HR0.out.c0; have k1 := HR0.out.c1; have k2 := HR0.out.c2; have f0 := HR0.out.frozen 0; have f1 := HR0.out.frozen 1; have f2 := HR0.out.frozen 2
  go_wp2_with (first
      | (go_at_call 71; with_reducible refine (M1.out _).mono ?_; rintro e w' ⟨rfl, rfl⟩)
      | (go_at_call 71; with_reducible refine (M2.out _).mono ?_; rintro e w' ⟨rfl, rfl⟩))
  clear d1 d2
  clear x0 x1 x2 k0 k1 k2 f0 f1 f2
  have KX := Lib.hid (fun W (h : Below w0.heap.size w0 W) => And.intro (HX0.out.keep h).c1 (HX0.out.keep h).c2)
  have C1 := Lib.hid (fun W (h : Below w0.heap.size w0 W) => lift2 h (F1.out W))
  have C2 := Lib.hid (fun W (h : Below w0.heap.size w0 W) => lift2 h (F2.out W))
  go_region_held3 (fun w' => w'.cell? ⟨w.heap.size, 1, none⟩ = some (.string (bst n)) ∧ w'.cell? ⟨w.heap.size, 2, none⟩ = some (.string (bst d)))
    (exact KX.out _ (by first | assumption | exact Below.refl _ _ | exact below_drew (Below.refl _ _) | exact below_drew (by assumption)))
    (first
      | (go_at_call 72; (with_reducible refine (C1.out _ (by first | assumption | exact Below.refl _ _ | exact below_drew (Below.refl _ _) | exact below_drew (by assumption))).mono ?_); rintro e w2 ⟨v2, rfl, hv2, hw2, hw2'⟩)
      | (go_at_call 72; (with_reducible refine (C2.out _ (by first | assumption | exact Below.refl _ _ | exact below_drew (Below.refl _ _) | exact below_drew (by assumption))).mono ?_); rintro e w3 ⟨v3, rfl, hv3, hw3, hw3'⟩)
      | fail)
  have HB3 := Lib.hid (HB0.out.trans (hw3.mono HB0.out.size))
  have HR3 := Lib.hid (HR0.out.keep hw3)
  have HV := Lib.hid (And.intro (hv2.keep hw3') hv3)
  clear hv2 hv3 hw2 hw2' hw3 hw3' HX0 HR0 HB0 KX C1 C2
  have G := Lib.hid (gcd_num w3 _ _ _ _ 64 64 HV.out.1 HV.out.2 S1.out S2.out (by omega) (by omega))
  obtain ⟨cg, hcg⟩ : ∃ z, Nat.gcd n d = z := ⟨_, rfl⟩
  rw [hcg] at G HC
  clear hcg
  go_wp2_with fail
  refine G.out.mono ?_
  rintro e w4 ⟨v4, rfl, hv4, hw4⟩
  have I := Lib.hid (isOne_num w4 v4 cg hv4)
  rw [decide_eq_false HC.out] at I
  have HB0 := Lib.hid (HB3.out.trans (hw4.mono HB3.out.size))
  have HR0 := Lib.hid (HR3.out.keep hw4)
  clear hv4 hw4 HB3 HR3 HV G
  go_wp2_with fail
  refine I.out.mono ?_
  rintro e w' ⟨rfl, rfl⟩
  have k0 := HR0.out.c0; have k1 := HR0.out.c1; have k2 := HR0.out.c2; have f0 := HR0.out.frozen 0; have f1 := HR0.out.frozen 1; have f2 := HR0.out.frozen 2
  go_wp2_with fail
  have HD := Lib.hid (At3.put HR0.out (.bool false) (.slice none 0 0) (.slice none 0 0))
  have HE := Lib.hid (put_below HB0.out (show w.heap.size ≤ w.heap.size + 1 by omega) (.bool false) (.slice none 0 0) (.slice none 0 0))
  generalize (((w4.setCell ⟨w.heap.size + 1, 0, none⟩ (.bool false)).setCell ⟨w.heap.size + 1, 1, none⟩ (.slice none 0 0)).setCell ⟨w.heap.size + 1, 2, none⟩ (.slice none 0 0)) = wz at HD HE ⊢
  clear k0 k1 k2 f0 f1 f2
  have r0 := HD.out.c0; have r1 := HD.out.c1; have r2 := HD.out.c2
  exact bodyPost_ret (v := .tuple #[.agg #[.bool false, .slice none 0 0, .slice none 0 0], .bool false]) (by simp [results, Tryz.results36, go_sem, r0, r1, r2]) rfl ⟨rfl, HE.out⟩
theorem exRead_bad (w : World) (x : Bool × ByteArray × ByteArray) (hx : BadF x) :
    Calls Tryz.prog 36 #[.agg #[.bool x.1, .string x.2.1, .string x.2.2]] w (ReadZ w) := by
  obtain ⟨b, s, t⟩ := x
  cases hs : mayB s with
  | false => exact exRead_badA w b s t hs
  | true =>
    cases ht : mayB t with
    | false => exact exRead_badB w b s t hs ht
    | true =>
      by_cases t0 : t.size = 0
      · rw [empty_of t0]; exact exRead_badC w b s hs
      · obtain ⟨e1, z1⟩ := mayB_is hs
        obtain ⟨e2, z2⟩ := mayB_is ht
        generalize Big.bnum s.data.toList = n at *
        generalize Big.bnum t.data.toList = d at *
        subst e1 e2
        have d0 : d ≠ 0 := fun e => t0 (by rw [bst_size, e]; rfl)
        have key : Nat.gcd n d = 1 → (b = true → 1 ≤ n) → False := fun h1 h2 => by
          obtain ⟨p1, p2, p3⟩ := Big.parts (q := mkRat (Big.sI b n) d) (b := b) (n := n) (d := d) (by omega) h1 h2 (show d ≠ 0 from d0) rfl rfl
          exact hx (mkRat (Big.sI b n) d) ⟨by rw [p2]; exact z1, by rw [p3]; exact z2⟩ ⟨p1.symm, by rw [p2], by rw [p3]⟩
        cases b with
        | false => exact exRead_badE w n d z1 z2 d0 fun h => key h (by simp)
        | true =>
          by_cases n0 : n = 0
          · subst n0
            exact exRead_badD w (bst d) ht t0
          · exact exRead_badF w n d n0 z1 z2 d0 fun h => key h (by omega)
end Go.Proofs.YtdlhpleabfnogaaGreatDoor
namespace Go.Proofs.YtdlhpleabfnogaaGreatDoor
open Go Go.RowKit
namespace Ev
inductive Qe where
  | v (i : Nat)
  | c (s : Bool) (n d : Nat)
  | neg (a : Qe)
  | add (a b : Qe)
  | sub (a b : Qe)
  | mul (a b : Qe)
  | quo (a b : Qe)
def Qe.ev (ρ : Nat → Rat) : Qe → Rat
  | .v i => ρ i
  | .c s n d => mkRat (Big.sI s n) d
  | .neg a => -(a.ev ρ)
  | .add a b => a.ev ρ + b.ev ρ
  | .sub a b => a.ev ρ - b.ev ρ
  | .mul a b => a.ev ρ * b.ev ρ
  | .quo a b => a.ev ρ / b.ev ρ
noncomputable def beqB (a b : Bool) : Bool := Bool.rec (motive := fun _ => Bool) (Bool.rec (motive := fun _ => Bool) true false b) b a
theorem beqB_ok {a b : Bool} (h : beqB a b = true) : a = b := by cases a <;> cases b <;> first | rfl | (exact absurd h (by simp [beqB]))
noncomputable def Qe.beq : Qe → Qe → Bool := Qe.rec (motive := fun _ => Qe → Bool)
  (fun i y => match y with | .v j => Nat.beq i j | _ => false)
  (fun s n d y => match y with | .c s' n' d' => beqB s s' && (Nat.beq n n' && Nat.beq d d') | _ => false)
  (fun _ ih y => match y with | .neg b => ih b | _ => false)
  (fun _ _ iha ihb y => match y with | .add a b => iha a && ihb b | _ => false)
  (fun _ _ iha ihb y => match y with | .sub a b => iha a && ihb b | _ => false)
  (fun _ _ iha ihb y => match y with | .mul a b => iha a && ihb b | _ => false)
  (fun _ _ iha ihb y => match y with | .quo a b => iha a && ihb b | _ => false)
theorem Qe.beq_ok : ∀ (a b : Qe), a.beq b = true → a = b := by
  intro a
  induction a with
  | v i =>
    intro b h
    cases b with
    | v j => rw [Nat.eq_of_beq_eq_true (show Nat.beq i j = true from h)]
    | _ => exact absurd (show false = true from h) (by simp)
  | c s n d =>
    intro b h
    cases b with
    | c s' n' d' =>
      have h' : (beqB s s' && (Nat.beq n n' && Nat.beq d d')) = true := h
      simp only [Bool.and_eq_true] at h'
      rw [beqB_ok h'.1, Nat.eq_of_beq_eq_true h'.2.1, Nat.eq_of_beq_eq_true h'.2.2]
    | _ => exact absurd (show false = true from h) (by simp)
  | neg a ih =>
    intro b h
    cases b with
    | neg b => rw [ih b h]
    | _ => exact absurd (show false = true from h) (by simp)
  | add a b iha ihb =>
    intro y h
    cases y with
    | add a' b' =>
      have h' : (a.beq a' && b.beq b') = true := h
      simp only [Bool.and_eq_true] at h'
      rw [iha _ h'.1, ihb _ h'.2]
    | _ => exact absurd (show false = true from h) (by simp)
  | sub a b iha ihb =>
    intro y h
    cases y with
    | sub a' b' =>
      have h' : (a.beq a' && b.beq b') = true := h
      simp only [Bool.and_eq_true] at h'
      rw [iha _ h'.1, ihb _ h'.2]
    | _ => exact absurd (show false = true from h) (by simp)
  | mul a b iha ihb =>
    intro y h
    cases y with
    | mul a' b' =>
      have h' : (a.beq a' && b.beq b') = true := h
      simp only [Bool.and_eq_true] at h'
      rw [iha _ h'.1, ihb _ h'.2]
    | _ => exact absurd (show false = true from h) (by simp)
  | quo a b iha ihb =>
    intro y h
    cases y with
    | quo a' b' =>
      have h' : (a.beq a' && b.beq b') = true := h
      simp only [Bool.and_eq_true] at h'
      rw [iha _ h'.1, ihb _ h'.2]
    | _ => exact absurd (show false = true from h) (by simp)
noncomputable def Qe.bnd : Qe → Nat := Qe.rec (motive := fun _ => Nat)
  (fun i => cond (Nat.ble 100 i) 4096 64)
  (fun _ n d => Nat.add (Nat.add (Nat.div (Nat.log2 n) 64) (Nat.div (Nat.log2 d) 64)) 1)
  (fun _ a => a)
  (fun _ _ a b => Nat.succ (Nat.mul 2 (Nat.add a b)))
  (fun _ _ a b => Nat.succ (Nat.mul 2 (Nat.add a b)))
  (fun _ _ a b => Nat.add a b)
  (fun _ _ a b => Nat.add a b)
theorem Qe.bnd_pos : ∀ e : Qe, 1 ≤ e.bnd := by
  intro e
  induction e with
  | v i => show 1 ≤ cond (Nat.ble 100 i) 4096 64; cases Nat.ble 100 i <;> decide
  | c s n d => exact Nat.succ_le_succ (Nat.zero_le _)
  | neg a ih => exact ih
  | add a b _ _ => exact Nat.succ_le_succ (Nat.zero_le _)
  | sub a b _ _ => exact Nat.succ_le_succ (Nat.zero_le _)
  | mul a b iha _ => exact Nat.le_trans iha (Nat.le_add_right _ _)
  | quo a b iha _ => exact Nat.le_trans iha (Nat.le_add_right _ _)
theorem sm_zero {k : Nat} (hk : 1 ≤ k) : Sm k 0 := ⟨sz_zero.up (Nat.zero_le _), sz_one.up hk⟩
theorem sm_sub {k j : Nat} {q r : Rat} (h : Sm k q) (i : Sm j r) : Sm (2 * k + 2 * j + 1) (q - r) := by
  rw [Rat.sub_eq_add_neg]
  exact h.add i.neg
theorem Qe.sm {ρ : Nat → Rat} (hρ : ∀ i, i < 100 → Fit (ρ i)) (hβ : ∀ i, Sm 4096 (ρ i)) : ∀ e : Qe, Sm e.bnd (e.ev ρ) := by
  intro e
  induction e with
  | v i =>
    show Sm (cond (Nat.ble 100 i) 4096 64) (ρ i)
    cases hi : Nat.ble 100 i with
    | true => exact hβ i
    | false => exact (hρ i (by
        rcases Nat.lt_or_ge i 100 with h | h
        · exact h
        · rw [Nat.ble_eq_true_of_le h] at hi; cases hi)).sm
  | c s n d =>
    show Sm (Nat.div (Nat.log2 n) 64 + Nat.div (Nat.log2 d) 64 + 1) (mkRat (Big.sI s n) d)
    have e1 : Nat.div (Nat.log2 n) 64 = Nat.log2 n / 64 := rfl
    have e2 : Nat.div (Nat.log2 d) 64 = Nat.log2 d / 64 := rfl
    rw [e1, e2]
    rcases Nat.eq_zero_or_pos d with h0 | h0
    · subst h0
      rw [Rat.mkRat_zero]
      exact sm_zero (by omega)
    · obtain ⟨_, p2, p3⟩ := Big.of_parts s n d h0
      refine ⟨?_, ?_⟩
      · rw [p2]; exact (sz_log (k := Nat.log2 n / 64 + Nat.log2 d / 64 + 1) (by omega)).le (Nat.div_le_self _ _)
      · rw [p3]; exact (sz_log (k := Nat.log2 n / 64 + Nat.log2 d / 64 + 1) (by omega)).le (Nat.div_le_self _ _)
  | neg a ih => exact ih.neg
  | add a b iha ihb => exact (iha.add ihb).up (by show _ ≤ 2 * (a.bnd + b.bnd) + 1; omega)
  | sub a b iha ihb => exact (sm_sub iha ihb).up (by show _ ≤ 2 * (a.bnd + b.bnd) + 1; omega)
  | mul a b iha ihb => exact iha.mul ihb
  | quo a b iha ihb =>
    show Sm (a.bnd + b.bnd) (a.ev ρ / b.ev ρ)
    by_cases h0 : Big.nu (b.ev ρ) = 0
    · rw [Big.nu_zero.1 h0, Rat.div_def, Rat.inv_zero, Rat.mul_zero]
      exact sm_zero (Nat.le_trans a.bnd_pos (Nat.le_add_right _ _))
    · rw [Rat.div_def]
      exact iha.mul (ihb.inv h0)
structure Env where
  q : Nat → Rat
  raw : Nat → Bool × ByteArray × ByteArray
  fit : ∀ i, i < 100 → Fit (q i)
  big : ∀ i, Sm 4096 (q i)
  bad : ∀ i, BadF (raw i)
  lo : Nat
  lst : Nat → List Rat
  nat : Nat → Nat
  nat0 : nat 0 = 0
inductive Le where
  | nil
  | v (c : Nat)
  | snoc (l : Le) (e : Qe)
  | take (l : Le) (a : Nat) (s : Int)
def Le.ev (ρ : Env) : Le → List Rat
  | .nil => []
  | .v c => ρ.lst c
  | .snoc l e => l.ev ρ ++ [e.ev ρ.q]
  | .take l a s => (l.ev ρ).take ((ρ.nat a : Int) + s).toNat
inductive Sy where
  | n (n : Nat)
  | ng (e : Qe)
  | nu (e : Qe)
  | de (e : Qe)
  | fn (e : Qe)
  | fd (e : Qe)
  | rg (i : Nat)
  | rn (i : Nat)
  | rd (i : Nat)
  | it (e : Qe)
  | is (e : Qe)
  | lg (l : List Nat)
  | ix (a : Nat) (s : Int)
  | iz (k : Nat) (e : Qe)
  | ls (K c : Nat)
  | lp (K c a : Nat) (s : Int)
  | ol (K : Nat) (l : Le) (z : Option (Nat × Int))
  | pl (K a : Nat) (s : Int)
  | wl (a : Nat) (s : Int)
def lenC (ρ : Env) (c : Nat) : Int := match c % 4 with
  | 0 => ((szN (Big.nu (ρ.q (c / 4))) : Nat) : Int)
  | 1 => ((szN (Big.de (ρ.q (c / 4))) : Nat) : Int)
  | 2 => (((ρ.raw (c / 4)).2.1.size : Nat) : Int)
  | _ => (((ρ.raw (c / 4)).2.2.size : Nat) : Int)
def lenSum (ρ : Env) : List Nat → Int
  | [] => 0
  | c :: l => match l with
    | [] => lenC ρ c
    | _ => IntKind.i64.wrap (lenSum ρ l + lenC ρ c)
structure I16 (q : Rat) : Prop where
  lo : -32768 ≤ q.num
  hi : q.num ≤ 32767
  den : q.den = 1
def ikOf : Nat → IntKind
  | 0 => .i64
  | _ => .i8
def izIs (k : Nat) (q : Rat) (v : Value) : Prop := v = .int (ikOf k) q.num ∧ q.den = 1 ∧ -9223372036854775808 ≤ q.num ∧ q.num ≤ 9223372036854775807
def elIs (K : Nat) (w : World) (q : Rat) (l : List Value) : Prop := match K with
  | 0 => l = [.bool (Big.ng q), .string (bst (Big.nu q)), .string (bst (Big.de q))]
  | 1 => ∃ a b, l = [.bool (Big.ng q), a, b] ∧ NatIn w a (Big.nu q) ∧ NatIn w b (Big.de q)
  | 2 => ∃ v, l = [v] ∧ izIs 0 q v
  | _ => ∃ v, l = [v] ∧ izIs 1 q v
def elSz : Nat → Nat
  | 0 => 3
  | 1 => 3
  | _ => 1
def RowAt (K : Nat) (w : World) (cl : List Value) (off : Nat) (qs : List Rat) : Prop := ∀ (i : Nat) (q : Rat), qs[i]? = some q → elIs K w q ((cl.drop (off + i * elSz K)).take (elSz K))
abbrev Kept (hid : Nat → TypeId → Bool) (w w' : World) : Prop := ∀ (b : Nat) (c : Array Value) (t : TypeId) (z : Nat × Nat), w.heap[b]? = some (.cells c t z) → hid b t = true → w'.heap[b]? = some (.cells c t z)
theorem elIs.stable {K : Nat} {w w' : World} {q : Rat} {l : List Value} (h : elIs K w q l) (hk : Kept natSig.hid w w') : elIs K w' q l := by
  unfold elIs at h ⊢
  split at h
  · exact h
  · obtain ⟨a, b, h1, h2, h3⟩ := h
    exact ⟨a, b, h1, nat_stable h2 hk, nat_stable h3 hk⟩
  · exact h
  · exact h
theorem RowAt.stable {K off : Nat} {w w' : World} {cl : List Value} {qs : List Rat} (h : RowAt K w cl off qs) (hk : Kept natSig.hid w w') : RowAt K w' cl off qs := fun i q hq => (h i q hq).stable hk
def lsIs (ρ : Env) (K c : Nat) (w : World) (v : Value) : Prop := ∃ a m, v = .slice a (ρ.lst c).length m ∧ (ρ.lst c).length ≤ m ∧ (ρ.lst c ≠ [] → ∃ b off cl t z, a = some ⟨b, off, none⟩ ∧ b < ρ.lo ∧ w.heap[b]? = some (.cells ⟨cl⟩ t z) ∧ RowAt K w cl off (ρ.lst c))
def lpIs (ρ : Env) (K c a : Nat) (s : Int) (w : World) (v : Value) : Prop := ∃ b off cl t z i, v = .pointer (some ⟨b, off + i * elSz K, none⟩) ∧ ((i : Nat) : Int) = ρ.nat a + s ∧ i < (ρ.lst c).length ∧ b < ρ.lo ∧ w.heap[b]? = some (.cells ⟨cl⟩ t z) ∧ RowAt K w cl off (ρ.lst c)
def tyK : Nat → TypeId
  | 0 => 35
  | 1 => 71
  | 2 => 2
  | _ => 65
def zeroK : Nat → List Value
  | 0 => [.bool false, .string ⟨#[]⟩, .string ⟨#[]⟩]
  | 1 => [.bool false, .slice none 0 0, .slice none 0 0]
  | 2 => [.int .i64 0]
  | _ => [.int .i8 0]
def olIs (ρ : Env) (K : Nat) (l : Le) (z : Option (Nat × Int)) (w : World) (v : Value) : Prop := ∃ a n m, v = .slice a n m ∧ n ≤ m ∧ (l.ev ρ).length ≤ n ∧ (match z with | none => n = (l.ev ρ).length | some p => (n : Int) = ρ.nat p.1 + p.2) ∧ (a = none → m = 0) ∧
  ∀ ad, a = some ad → ∃ cl, ad = ⟨ad.block, 0, none⟩ ∧ w.heap[ad.block]? = some (.cells ⟨cl⟩ (tyK K) (0, 0)) ∧ cl.length = m * elSz K ∧ RowAt K w cl 0 (l.ev ρ) ∧ ∀ i, (l.ev ρ).length ≤ i → i < n → (cl.drop (i * elSz K)).take (elSz K) = zeroK K
def Sy.holds (ρ : Env) : Sy → World → Value → Prop
  | .n k, w, v => NatIn w v k
  | .ng e, _, v => v = .bool (Big.ng (e.ev ρ.q))
  | .nu e, w, v => NatIn w v (Big.nu (e.ev ρ.q))
  | .de e, w, v => NatIn w v (Big.de (e.ev ρ.q))
  | .fn e, _, v => v = .string (bst (Big.nu (e.ev ρ.q)))
  | .fd e, _, v => v = .string (bst (Big.de (e.ev ρ.q)))
  | .rg i, _, v => v = .bool (ρ.raw i).1
  | .rn i, _, v => v = .string (ρ.raw i).2.1
  | .rd i, _, v => v = .string (ρ.raw i).2.2
  | .it e, _, v => v = .int .i64 (e.ev ρ.q).num
  | .is e, _, v => v = .int .i16 (e.ev ρ.q).num ∧ I16 (e.ev ρ.q)
  | .lg l, _, v => v = .int .i64 (lenSum ρ l)
  | .ix a s, _, v => v = .int .i64 (ρ.nat a + s)
  | .iz k e, _, v => izIs k (e.ev ρ.q) v
  | .ls K c, w, v => lsIs ρ K c w v
  | .lp K c a s, w, v => lpIs ρ K c a s w v
  | .ol _ _ _, _, _ => False
  | .pl _ _ _, _, _ => False
  | .wl a s, _, v => ∃ b n m, v = .slice b n m ∧ ((n : Nat) : Int) = ρ.nat a + s
theorem Sy.one {ρ : Env} {f : Sy} {w : World} {v : Value} (h : f.holds ρ w v) : isOne v = true := by
  cases f <;> first | exact nat_one h | (rw [show v = _ from h]; rfl) | (rw [h.1]; rfl) | skip
  · obtain ⟨a, m, rfl, _⟩ := h; rfl
  · obtain ⟨b, off, cl, t, z, i, rfl, _⟩ := h; rfl
  · exact h.elim
  · exact h.elim
  · obtain ⟨b, n, m, rfl, _⟩ := h; rfl
noncomputable def symHid : TypeId → Bool := natSig.hid 0
theorem symHid_nat {b : Nat} {t : TypeId} (h : natSig.hid b t = true) : symHid t = true := h
noncomputable def symSig (ρ : Env) : Sig Sy where
  holds := Sy.holds ρ
  hid b t := Nat.blt b ρ.lo || symHid t
  hn _ := symHid
  lo := ρ.lo
  new := fun _ b t hb h => by
    rw [h, Bool.or_false]
    cases hq : Nat.blt b ρ.lo with
    | false => rfl
    | true =>
      have : b < ρ.lo := Nat.le_of_ble_eq_true hq
      omega
  G := natSig.G
  base := natSig.base
  baseS := natSig.baseS
  ow f w v := match f with
    | .ol K l z => olIs ρ K l z w v
    | _ => False
  at_ f off := match f with
    | .pl K a s => ∃ i : Nat, off = i * elSz K ∧ (i : Int) = ρ.nat a + s
    | _ => False
  owS := fun f _ _ v h hk => by
    cases f <;> first | exact h.elim | skip
    obtain ⟨a, n, m, h1, h2, h3, h4, h5, h6⟩ := h
    refine ⟨a, n, m, h1, h2, h3, h4, h5, fun ad hd => ?_⟩
    obtain ⟨cl, g1, g2, g3, g4, g5⟩ := h6 ad hd
    exact ⟨cl, g1, hk _ _ _ _ g2 (.inr (by rw [h1, hd]; rfl)), g3, g4.stable fun b c t z hb hh => hk b c t z hb (.inl (by rw [symHid_nat (b := b) hh, Bool.or_true])), g5⟩
  stable := fun f _ _ _ h hk => by
    have hn := fun (b : Nat) (c : Array Value) (t : TypeId) (z : Nat × Nat) h1 (h2 : natSig.hid b t = true) => hk b c t z h1 (by rw [symHid_nat (b := b) h2, Bool.or_true])
    have hl := fun (b : Nat) (c : Array Value) (t : TypeId) (z : Nat × Nat) h1 (h2 : Nat.blt b ρ.lo = true) => hk b c t z h1 (by rw [h2, Bool.true_or])
    cases f <;> first | exact nat_stable h hn | exact h | skip
    · obtain ⟨a, m, h1, h2, h3⟩ := h
      exact ⟨a, m, h1, h2, fun hp => by
        obtain ⟨b, off, cl, t, z, h4, h5, h6, h7⟩ := h3 hp
        exact ⟨b, off, cl, t, z, h4, h5, hl b _ _ _ h6 (Nat.ble_eq_true_of_le h5), h7.stable hn⟩⟩
    · obtain ⟨b, off, cl, t, z, i, h1, h2, h3, h4, h5, h6⟩ := h
      exact ⟨b, off, cl, t, z, i, h1, h2, h3, h4, hl b _ _ _ h5 (Nat.ble_eq_true_of_le h4), h6.stable hn⟩
noncomputable def symLen : Sy → Option Nat
  | .n k => some (wordsN k)
  | _ => none
structure As where
  k : Nat
  a : Qe
  b : Qe
  t : Bool
def As.holds (ρ : Nat → Rat) (x : As) : Prop := match x.k with
  | 0 => x.t = true ↔ Fit (x.a.ev ρ)
  | 1 => x.t = true ↔ x.a.ev ρ = 0
  | 2 => x.t = true ↔ x.a.ev ρ = x.b.ev ρ
  | 5 => x.t = true → (x.b.ev ρ).num = (x.a.ev ρ).num.tmod 12
  | 8 => x.t = true → Big.nu (x.a.ev ρ) < 65535 ∧ Big.de (x.a.ev ρ) < 65535
  | 9 => x.t = true ↔ x.a.ev ρ < x.b.ev ρ
  | 6 => x.t = true → IntKind.i64.wrap ((x.a.ev ρ).num + (x.b.ev ρ).num) = ((Qe.add x.a x.b).ev ρ).num
  | _ => x.t = Big.ng (x.a.ev ρ)
def z0 : Qe := .v 0
noncomputable def ask (A : List As) (k : Nat) (a b : Qe) : Option Bool := List.rec (motive := fun _ => Option Bool) none
  (fun x _ ih => Bool.rec (motive := fun _ => Option Bool) ih (some x.t) (Nat.beq k x.k && (a.beq x.a && b.beq x.b))) A
theorem ask_ok {k : Nat} {a b : Qe} {t : Bool} : ∀ {A : List As}, ask A k a b = some t → ∃ x ∈ A, x.k = k ∧ x.a = a ∧ x.b = b ∧ x.t = t
  | [], h => by cases h
  | x :: A, h => by
    have h' : (Bool.rec (motive := fun _ => Option Bool) (ask A k a b) (some x.t) (Nat.beq k x.k && (a.beq x.a && b.beq x.b)) : Option Bool) = some t := h
    cases hb : (Nat.beq k x.k && (a.beq x.a && b.beq x.b)) with
    | false =>
      rw [hb] at h'
      obtain ⟨y, hy, r⟩ := ask_ok h'
      exact ⟨y, List.mem_cons_of_mem _ hy, r⟩
    | true =>
      rw [hb] at h'
      simp only [Bool.and_eq_true] at hb
      exact ⟨x, List.mem_cons_self, (Nat.eq_of_beq_eq_true hb.1).symm, (Qe.beq_ok _ _ hb.2.1).symm, (Qe.beq_ok _ _ hb.2.2).symm, Option.some.inj h'⟩
def AllH (ρ : Env) (A : List As) : Prop := ∀ x ∈ A, x.holds ρ.q
section
variable {ρ : Env} {A : List As} {a b : Qe} {t : Bool}
theorem ask_fit (hA : AllH ρ A) (h : ask A 0 a z0 = some t) : t = true ↔ Fit (a.ev ρ.q) := by
  obtain ⟨x, hx, h1, rfl, _, rfl⟩ := ask_ok h
  have := hA x hx
  unfold As.holds at this
  rw [h1] at this
  exact this
theorem ask_nought (hA : AllH ρ A) (h : ask A 1 a z0 = some t) : t = true ↔ a.ev ρ.q = 0 := by
  obtain ⟨x, hx, h1, rfl, _, rfl⟩ := ask_ok h
  have := hA x hx
  unfold As.holds at this
  rw [h1] at this
  exact this
theorem ask_same (hA : AllH ρ A) (h : ask A 2 a b = some t) : t = true ↔ a.ev ρ.q = b.ev ρ.q := by
  obtain ⟨x, hx, h1, rfl, rfl, rfl⟩ := ask_ok h
  have := hA x hx
  unfold As.holds at this
  rw [h1] at this
  exact this
theorem ask_below (hA : AllH ρ A) (h : ask A 3 a z0 = some t) : t = Big.ng (a.ev ρ.q) := by
  obtain ⟨x, hx, h1, rfl, _, rfl⟩ := ask_ok h
  have := hA x hx
  unfold As.holds at this
  rw [h1] at this
  exact this
end
noncomputable def fitC (n d : Nat) : Bool := Nat.ble (szN n) 512 && Nat.ble (szN d) 512
theorem fit_c {s : Bool} {n d : Nat} (h : fitC n d = true) : Fit (mkRat (Big.sI s n) d) := by
  simp only [fitC, Bool.and_eq_true] at h
  have h1 := Nat.le_of_ble_eq_true h.1
  have h2 := Nat.le_of_ble_eq_true h.2
  rcases Nat.eq_zero_or_pos d with h0 | h0
  · subst h0
    rw [Rat.mkRat_zero]
    exact ⟨by decide, by decide⟩
  · obtain ⟨_, p2, p3⟩ := Big.of_parts s n d h0
    exact ⟨by rw [p2]; exact Nat.le_trans (szN_mono (Nat.div_le_self _ _)) h1, by rw [p3]; exact Nat.le_trans (szN_mono (Nat.div_le_self _ _)) h2⟩
noncomputable def fitB (A : List As) (e : Qe) : Option Bool := match ask A 0 e z0 with
  | some t => some t
  | none => match e with
    | .v i => cond (Nat.ble 100 i) none (some true)
    | .c _ n d => cond (fitC n d) (some true) none
    | _ => none
theorem fitB_ok {ρ : Env} {A : List As} (hA : AllH ρ A) {e : Qe} {t : Bool} (h : fitB A e = some t) : t = true ↔ Fit (e.ev ρ.q) := by
  unfold fitB at h
  cases ha : ask A 0 e z0 with
  | some u => rw [ha] at h; cases h; exact ask_fit hA ha
  | none =>
    rw [ha] at h
    cases e with
    | v i =>
      simp only at h
      cases hi : Nat.ble 100 i with
      | true => rw [hi] at h; cases h
      | false =>
        rw [hi] at h; cases h
        exact ⟨fun _ => ρ.fit i (by
          rcases Nat.lt_or_ge i 100 with h | h
          · exact h
          · rw [Nat.ble_eq_true_of_le h] at hi; cases hi), fun _ => rfl⟩
    | c s n d =>
      simp only at h
      cases hc : fitC n d with
      | false => rw [hc] at h; cases h
      | true => rw [hc] at h; cases h; exact ⟨fun _ => fit_c hc, fun _ => rfl⟩
    | _ => cases h
noncomputable def okB (e : Qe) : Bool := Nat.ble e.bnd 10000000
theorem okB_sm {ρ : Env} {e : Qe} (_ : okB e = true) : Sm e.bnd (e.ev ρ.q) := Qe.sm ρ.fit ρ.big e
theorem okB_le {e : Qe} (h : okB e = true) : e.bnd ≤ 10000000 := Nat.le_of_ble_eq_true h
end Ev
end Go.Proofs.YtdlhpleabfnogaaGreatDoor
