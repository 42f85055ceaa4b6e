/- Contracts, in this order: exact: mayBeBytes, Read. · exact: Read, of what may be. · exact: sum, Of. · The interpreter: package exact's numbers, of what is known. · nat: Twos, Shr. · The interpreter: package nat's Shr and Twos, of what is know · Package residue: the product of two residues. · The interpreter: package residue's products, and rests over  · The interpreter: from a run to what the program does. -/
import Derived.Test.YtaefgofheiegeaaGreatDoorMKq19
import Derived.Laws.IdiomStrings
import Derived.Test.YtaefgofheiegeaaGreatDoorMKq18
import Derived.Test.YtaefgofheiegeaaGreatDoorMKq12
import Derived.Test.YtaefgofheiegeaaGreatDoorMKq14
import Derived.Shelf.Spec.TrailingZeros
import Derived.Test.YtaefgofheiegeaaGreatDoorMKq13
namespace Go.Proofs.YtaefgofheiegeaaGreatDoor
open Go.RowKit
def mayB (s : ByteArray) : Bool := decide (s.size ≤ 512) && !(s.data.toList.head? == some 0)
theorem mayB_bst {n : Nat} (h : szN n ≤ 512) : mayB (bst n) = true := by
  unfold mayB
  have h1 := btx_lead n
  rw [bst_size, bst_list, decide_eq_true h, Bool.true_and, Bool.not_eq_true', beq_eq_false_iff_ne]
  exact h1
theorem empty_of {s : ByteArray} (h : s.size = 0) : s = ⟨#[]⟩ := by
  have h2 : s.data = #[] := Array.eq_empty_of_size_eq_zero h
  cases s; simp at h2; rw [h2]
theorem size_toList (s : ByteArray) : s.data.toList.length = s.size := by
  show s.data.toList.length = s.data.size; simp
theorem head_get {s : ByteArray} (h : 0 < s.size) : s.data.toList.head? = some s[0] := by
  have hl : 0 < s.data.toList.length := by rw [size_toList]; exact h
  rw [List.head?_eq_getElem?, List.getElem?_eq_getElem hl]; rfl
set_option maxRecDepth 100000 in
set_option maxHeartbeats 4000000 in
theorem mayBe_any (w : World) (s : ByteArray) (hs : s.size ≤ 1000000000000) :
    Calls Tryz.prog 150 #[.string s] w fun e w' => e = .returned (.bool (mayB s)) ∧ w = w' := by
  by_cases h5 : s.size ≤ 512
  · by_cases h0 : s.size = 0
    · have e := empty_of h0
      subst e
      have HD := Lib.hid (show mayB ⟨#[]⟩ = true by decide)
      go_enter Tryz.func150, Tryz.ntmps150
      go_wp2_with fail
      go_ret
      exact ⟨ret_bool HD.out.symm, rfl⟩
    · have i1 : (s.size : Int) ≤ 512 := by omega
      have p0 : 0 < s.size := by omega
      have HD := Lib.hid (show mayB s = ((s[0].toNat : Int) != 0) by
        unfold mayB
        rw [decide_eq_true h5, Bool.true_and, head_get p0, Bool.eq_iff_iff, Bool.not_eq_true', beq_eq_false_iff_ne, bne_iff_ne]
        constructor
        · intro h e; exact h (by rw [Option.some.injEq]; apply UInt8.toNat_inj.1; show _ = 0; omega)
        · intro h e; rw [Option.some.injEq] at e; rw [e] at h; exact h rfl)
      generalize mayB s = z at *
      have hne : ¬ s.toList = [] := by rw [ByteArray.toList_eq]; intro e; have := size_toList s; rw [e] at this; simp at this; omega
      have hne2 : s.toList.isEmpty = false := by rw [Bool.eq_false_iff]; intro e; exact hne (List.isEmpty_iff.1 e)
      clear h0
      go_enter Tryz.func150, Tryz.ntmps150
      go_wp2_with fail
      go_ret
      exact ⟨ret_bool (by rw [HD.out]), rfl⟩
  · have i1 : ¬ (s.size : Int) ≤ 512 := by omega
    have HD := Lib.hid (show mayB s = false by unfold mayB; rw [decide_eq_false h5]; rfl)
    generalize mayB s = z at *
    go_enter Tryz.func150, Tryz.ntmps150
    go_wp2_with fail
    go_ret
    exact ⟨ret_bool HD.out.symm, rfl⟩
end Go.Proofs.YtaefgofheiegeaaGreatDoor
namespace Go.Proofs.YtaefgofheiegeaaGreatDoor
open Go.RowKit
def Read1 (w : World) (q : Rat) (e : Ending) (w' : World) : Prop := ∃ v', e = .returned (.tuple #[v', .bool true]) ∧ NumIn w' v' q ∧ Below w.heap.size w w'
theorem bst_ne {n : Nat} (h : n ≠ 0) : ¬ (bst n).toList = [] := by
  rw [ByteArray.toList_eq, bst_list]; intro e
  have h1 := btx_length n
  rw [e] at h1
  have h2 := szN_pos h
  rw [← h1] at h2
  exact absurd h2 (by simp)
theorem bst_ne2 {n : Nat} (h : n ≠ 0) : (bst n).toList.isEmpty = false := by
  rw [Bool.eq_false_iff]; intro e; exact bst_ne h (List.isEmpty_iff.1 e)
set_option maxRecDepth 100000 in
set_option maxHeartbeats 4000000 in
theorem exRead_ok (w : World) (q : Rat) (hf : Fit q) :
    Calls Tryz.prog 95 #[.agg #[.bool (Big.ng q), .string (bst (Big.nu q)), .string (bst (Big.de q))]] w (Read1 w q) := by
  have M1 := Lib.hid (fun W => mayBe_any W (bst (Big.nu q)) (by rw [bst_size]; have := hf.nu; omega))
  have M2 := Lib.hid (fun W => mayBe_any W (bst (Big.de q)) (by rw [bst_size]; have := hf.de; omega))
  rw [mayB_bst hf.nu] at M1
  rw [mayB_bst hf.de] at M2
  have S := Lib.hid hf.sm
  have P := Lib.hid (show NumIn w (.agg #[.bool (Big.ng q), .slice none 0 0, .slice none 0 0]) q → True from fun _ => trivial)
  have F1 := Lib.hid (fun W => fromBytes_num W (Big.nu q) (by have := hf.nu; omega))
  have F2 := Lib.hid (fun W => fromBytes_num W (Big.de q) (by have := hf.de; omega))
  have d1 := bst_ne (n := Big.de q) (by have := Big.de_pos q; omega)
  have d2 := bst_ne2 (n := Big.de q) (by have := Big.de_pos q; omega)
  have n0 : Big.ng q = true → ¬ (bst (Big.nu q)).toList = [] ∧ (bst (Big.nu q)).toList.isEmpty = false := fun h => by
    have h1 := Big.ng_pos h
    exact ⟨bst_ne (by omega), bst_ne2 (by omega)⟩
  obtain ⟨X0, R0, B0⟩ := boxed2 w 26 101 (.bool (Big.ng q)) (.string (bst (Big.nu q))) (.string (bst (Big.de q))) (.bool false) (.slice none 0 0) (.slice none 0 0)
  have HX0 := Lib.hid X0; have HR0 := Lib.hid R0; have HB0 := Lib.hid B0
  have HC := Lib.hid (Big.cop q)
  have HNG := Lib.hid (rfl : Big.ng q = Big.ng q)
  clear hf X0 R0 B0 P HNG
  obtain ⟨nq, hnq⟩ : ∃ z, Big.ng q = z := ⟨_, rfl⟩
  rw [hnq] at n0 HX0 HR0 HB0 ⊢
  have HNQ := Lib.hid hnq
  clear hnq
  have HN0 := Lib.hid n0
  clear n0
  cases nq
  · go_enter Tryz.func95, Tryz.ntmps95
    go_wp2_with fail
    generalize (w.alloc (.cells #[.bool false, .string (bst (Big.nu q)), .string (bst (Big.de q))] 26)).alloc (.cells #[.bool false, .slice none 0 0, .slice none 0 0] 101) = w0 at *
    have x0 := HX0.out.c0; have x1 := HX0.out.c1; have x2 := HX0.out.c2
    go_wp2_with (first
      | (go_at_call 150; with_reducible refine (M1.out _).mono ?_; rintro e w' ⟨rfl, rfl⟩)
      | (go_at_call 150; with_reducible refine (M2.out _).mono ?_; rintro e w' ⟨rfl, rfl⟩))
    clear x0 x1 x2 d1 d2
    have KX := Lib.hid (fun W (h : Below w0.heap.size w0 W) => And.intro (HX0.out.keep h).c1 (HX0.out.keep h).c2)
    have C1 := Lib.hid (fun W (h : Below w0.heap.size w0 W) => lift2 h (F1.out W))
    have C2 := Lib.hid (fun W (h : Below w0.heap.size w0 W) => lift2 h (F2.out W))
    go_region_held3 (fun w' => w'.cell? ⟨w.heap.size, 1, none⟩ = some (.string (bst (Big.nu q))) ∧ w'.cell? ⟨w.heap.size, 2, none⟩ = some (.string (bst (Big.de q))))
      (exact KX.out _ (by first | assumption | exact Below.refl _ _ | exact below_drew (Below.refl _ _) | exact below_drew (by assumption)))
      (first
        | (go_at_call 151; (with_reducible refine (C1.out _ (by first | assumption | exact Below.refl _ _ | exact below_drew (Below.refl _ _) | exact below_drew (by assumption))).mono ?_); rintro e w2 ⟨v2, rfl, hv2, hw2, hw2'⟩)
        | (go_at_call 151; (with_reducible refine (C2.out _ (by first | assumption | exact Below.refl _ _ | exact below_drew (Below.refl _ _) | exact below_drew (by assumption))).mono ?_); rintro e w3 ⟨v3, rfl, hv3, hw3, hw3'⟩)
        | fail)
    have HB3 := Lib.hid (HB0.out.trans (hw3.mono HB0.out.size))
    have HX3 := Lib.hid (HX0.out.keep hw3); have HR3 := Lib.hid (HR0.out.keep hw3)
    have HV := Lib.hid (And.intro (hv2.keep hw3') hv3)
    clear hv2 hv3 hw2 hw2' hw3 hw3' HX0 HR0 HB0 KX C1 C2
    have G := Lib.hid (gcd_num w3 _ _ _ _ 64 64 HV.out.1 HV.out.2 S.out.nu S.out.de (by omega) (by omega))
    rw [HC.out] at G
    go_wp2_with fail
    refine G.out.mono ?_
    rintro e w4 ⟨v4, rfl, hv4, hw4⟩
    have I := Lib.hid (isOne_num w4 v4 1 hv4)
    rw [decide_eq_true rfl] at I
    have HB4 := Lib.hid (HB3.out.trans (hw4.mono HB3.out.size))
    have HX4 := Lib.hid (HX3.out.keep hw4); have HR4 := Lib.hid (HR3.out.keep hw4)
    have HV4 := Lib.hid (And.intro (HV.out.1.keep hw4) (HV.out.2.keep hw4))
    clear hv4 hw4 HB3 HX3 HR3 HV G
    go_wp2_with fail
    refine I.out.mono ?_
    rintro e w' ⟨rfl, rfl⟩
    obtain ⟨A8, l8, c8, rfl, -⟩ := HV4.out.1.is_slice
    obtain ⟨A9, l9, c9, rfl, -⟩ := HV4.out.2.is_slice
    have RR := HR4.out
    have x0 := HX4.out.c0
    have k0 := RR.c0; have k1 := RR.c1; have k2 := RR.c2; have f0 := RR.frozen 0; have f1 := RR.frozen 1; have f2 := RR.frozen 2
    go_wp2_with fail
    obtain ⟨D1, D2, D3⟩ := num_done (bb := false) (show NumRes w4 _ _ from RR) HB4.out (by omega) HV4.out.1 HV4.out.2 HNQ.out.symm
    have HD1 := Lib.hid D1; have HD2 := Lib.hid D2; have HD3 := Lib.hid D3
    clear D1 D2 D3 k0 k1 k2 f0 f1 f2 RR
    generalize (((w4.setCell ⟨w.heap.size + 1, 0, none⟩ (.bool (false))).setCell ⟨w.heap.size + 1, 1, none⟩ (.slice A8 l8 c8)).setCell ⟨w.heap.size + 1, 2, none⟩ (.slice A9 l9 c9)) = wz at HD1 HD2 HD3 ⊢
    have r0 := HD1.out.c0; have r1 := HD1.out.c1; have r2 := HD1.out.c2
    exact bodyPost_ret (v := .tuple #[.agg #[.bool (false), .slice A8 l8 c8, .slice A9 l9 c9], .bool true]) (by simp [results, Tryz.results95, go_sem, r0, r1, r2]) rfl ⟨_, rfl, HD2.out, HD3.out⟩
  · obtain ⟨z1, z2⟩ := HN0.out rfl
    go_enter Tryz.func95, Tryz.ntmps95
    go_wp2_with fail
    generalize (w.alloc (.cells #[.bool true, .string (bst (Big.nu q)), .string (bst (Big.de q))] 26)).alloc (.cells #[.bool false, .slice none 0 0, .slice none 0 0] 101) = w0 at *
    have x0 := HX0.out.c0; have x1 := HX0.out.c1; have x2 := HX0.out.c2
    go_wp2_with (first
      | (go_at_call 150; with_reducible refine (M1.out _).mono ?_; rintro e w' ⟨rfl, rfl⟩)
      | (go_at_call 150; with_reducible refine (M2.out _).mono ?_; rintro e w' ⟨rfl, rfl⟩))
    clear x0 x1 x2 d1 d2
    have KX := Lib.hid (fun W (h : Below w0.heap.size w0 W) => And.intro (HX0.out.keep h).c1 (HX0.out.keep h).c2)
    have C1 := Lib.hid (fun W (h : Below w0.heap.size w0 W) => lift2 h (F1.out W))
    have C2 := Lib.hid (fun W (h : Below w0.heap.size w0 W) => lift2 h (F2.out W))
    go_region_held3 (fun w' => w'.cell? ⟨w.heap.size, 1, none⟩ = some (.string (bst (Big.nu q))) ∧ w'.cell? ⟨w.heap.size, 2, none⟩ = some (.string (bst (Big.de q))))
      (exact KX.out _ (by first | assumption | exact Below.refl _ _ | exact below_drew (Below.refl _ _) | exact below_drew (by assumption)))
      (first
        | (go_at_call 151; (with_reducible refine (C1.out _ (by first | assumption | exact Below.refl _ _ | exact below_drew (Below.refl _ _) | exact below_drew (by assumption))).mono ?_); rintro e w2 ⟨v2, rfl, hv2, hw2, hw2'⟩)
        | (go_at_call 151; (with_reducible refine (C2.out _ (by first | assumption | exact Below.refl _ _ | exact below_drew (Below.refl _ _) | exact below_drew (by assumption))).mono ?_); rintro e w3 ⟨v3, rfl, hv3, hw3, hw3'⟩)
        | fail)
    have HB3 := Lib.hid (HB0.out.trans (hw3.mono HB0.out.size))
    have HX3 := Lib.hid (HX0.out.keep hw3); have HR3 := Lib.hid (HR0.out.keep hw3)
    have HV := Lib.hid (And.intro (hv2.keep hw3') hv3)
    clear hv2 hv3 hw2 hw2' hw3 hw3' HX0 HR0 HB0 KX C1 C2
    have G := Lib.hid (gcd_num w3 _ _ _ _ 64 64 HV.out.1 HV.out.2 S.out.nu S.out.de (by omega) (by omega))
    rw [HC.out] at G
    go_wp2_with fail
    refine G.out.mono ?_
    rintro e w4 ⟨v4, rfl, hv4, hw4⟩
    have I := Lib.hid (isOne_num w4 v4 1 hv4)
    rw [decide_eq_true rfl] at I
    have HB4 := Lib.hid (HB3.out.trans (hw4.mono HB3.out.size))
    have HX4 := Lib.hid (HX3.out.keep hw4); have HR4 := Lib.hid (HR3.out.keep hw4)
    have HV4 := Lib.hid (And.intro (HV.out.1.keep hw4) (HV.out.2.keep hw4))
    clear hv4 hw4 HB3 HX3 HR3 HV G
    go_wp2_with fail
    refine I.out.mono ?_
    rintro e w' ⟨rfl, rfl⟩
    obtain ⟨A8, l8, c8, rfl, -⟩ := HV4.out.1.is_slice
    obtain ⟨A9, l9, c9, rfl, -⟩ := HV4.out.2.is_slice
    have RR := HR4.out
    have x0 := HX4.out.c0
    have k0 := RR.c0; have k1 := RR.c1; have k2 := RR.c2; have f0 := RR.frozen 0; have f1 := RR.frozen 1; have f2 := RR.frozen 2
    go_wp2_with fail
    obtain ⟨D1, D2, D3⟩ := num_done (bb := true) (show NumRes w4 _ _ from RR) HB4.out (by omega) HV4.out.1 HV4.out.2 HNQ.out.symm
    have HD1 := Lib.hid D1; have HD2 := Lib.hid D2; have HD3 := Lib.hid D3
    clear D1 D2 D3 k0 k1 k2 f0 f1 f2 RR
    generalize (((w4.setCell ⟨w.heap.size + 1, 0, none⟩ (.bool (true))).setCell ⟨w.heap.size + 1, 1, none⟩ (.slice A8 l8 c8)).setCell ⟨w.heap.size + 1, 2, none⟩ (.slice A9 l9 c9)) = wz at HD1 HD2 HD3 ⊢
    have r0 := HD1.out.c0; have r1 := HD1.out.c1; have r2 := HD1.out.c2
    exact bodyPost_ret (v := .tuple #[.agg #[.bool (true), .slice A8 l8 c8, .slice A9 l9 c9], .bool true]) (by simp [results, Tryz.results95, go_sem, r0, r1, r2]) rfl ⟨_, rfl, HD2.out, HD3.out⟩
end Go.Proofs.YtaefgofheiegeaaGreatDoor
namespace Go.Proofs.YtaefgofheiegeaaGreatDoor
open Go.RowKit
end Go.Proofs.YtaefgofheiegeaaGreatDoor
namespace Go.Proofs.YtaefgofheiegeaaGreatDoor
open Go Go.RowKit
namespace Ev
structure T3x where
  s : Bool
  n : Nat
  d : Nat
def T3x.q (t : T3x) : Rat := mkRat (Big.sI t.s t.n) t.d
noncomputable def T3x.good (t : T3x) : Bool := Nat.ble 1 t.d && (Nat.beq (Nat.gcd t.n t.d) 1 && ((!t.s || Nat.ble 1 t.n) && (small t.n && small t.d)))
theorem T3x.parts {t : T3x} (h : t.good = true) : Big.ng t.q = t.s ∧ Big.nu t.q = t.n ∧ Big.de t.q = t.d := by
  unfold T3x.good at h
  simp only [Bool.and_eq_true, Bool.or_eq_true, Bool.not_eq_true'] at h
  obtain ⟨h1, h2, h3, -⟩ := h
  have h1 := Nat.le_of_ble_eq_true h1
  refine Big.parts (N := Big.sI t.s t.n) (D := t.d) h1 (Nat.eq_of_beq_eq_true h2) (fun hs => ?_) (by omega) rfl rfl
  rcases h3 with h3 | h3
  · rw [hs] at h3; cases h3
  · exact Nat.le_of_ble_eq_true h3
theorem T3x.sm {t : T3x} (h : t.good = true) : Sm 1000 t.q := by
  obtain ⟨_, h2, h3⟩ := T3x.parts h
  unfold T3x.good at h
  simp only [Bool.and_eq_true] at h
  exact ⟨by rw [h2]; exact sz_small h.2.2.2.1, by rw [h3]; exact sz_small h.2.2.2.2⟩
noncomputable def t3V (v : Value) : M Nat T3x := match v with
  | .agg cs => match cs.toList with
    | [a, x, y] => match a with
      | .bool s => bind (natV x) fun n => bind (natV y) fun d => cond (T3x.good ⟨s, n, d⟩) (ret ⟨s, n, d⟩) fail
      | _ => fail
    | _ => fail
  | _ => fail
theorem loc_t3V (v : Value) : Loc (t3V v) := by
  unfold t3V
  (repeat' split) <;> first | exact loc_fail | exact loc_bind (loc_natV _) fun _ => loc_bind (loc_natV _) fun _ => loc_cond (loc_ret _) loc_fail
section
variable {h h' : Tr (Blk Nat)} {nx nx' : Nat} {R W : List Nat} {r : Ren} {w : World} {v v' : Value}
theorem t3V_ok {t : T3x} (e : t3V v h nx = .ok t h' nx' R W) (hv : VR r v v') (hM : Mod natSig r h.get w) : h' = h ∧ nx' = nx ∧ W = [] ∧ NumIn w v' t.q ∧ t.good = true := by
  unfold t3V at e
  cases v with
  | agg cs =>
    obtain ⟨l⟩ := cs
    simp only at e
    rcases l with _ | ⟨a, _ | ⟨x, _ | ⟨y, _ | ⟨z, l⟩⟩⟩⟩ <;> first | (cases (show (fail : M Nat T3x) h nx = _ from e); done) | skip
    cases a with
    | bool s =>
      cases hv with
      | same p => simp [plain] at p
      | agg ha =>
        cases ha with
        | cons a1 ha => cases ha with
          | cons a2 ha => cases ha with
            | cons a3 ha =>
              cases ha
              obtain rfl := a1.bool
              obtain ⟨n, h1, nx1, R1, W1, R2, W2, e1, e2, rfl, rfl⟩ := bind_ok (show (bind (natV x) (fun n => bind (natV y) fun d => cond (T3x.good (T3x.mk s n d)) (ret (T3x.mk s n d)) fail) : M Nat T3x) h nx = _ from e)
              obtain ⟨rfl, rfl, rfl, hn⟩ := natV_ok e1 a2 hM
              obtain ⟨d, h2, nx2, R3, W3, R4, W4, e3, e4, rfl, rfl⟩ := bind_ok e2
              obtain ⟨rfl, rfl, rfl, hd⟩ := natV_ok e3 a3 hM
              obtain ⟨hg, e5⟩ := cond_ok e4
              obtain ⟨rfl, rfl, rfl, rfl⟩ := ret_ok e5
              obtain ⟨p1, p2, p3⟩ := T3x.parts hg
              refine ⟨rfl, rfl, by simp, ⟨_, _, ?_, by rw [p2]; exact hn, by rw [p3]; exact hd⟩, hg⟩
              rw [p1]
    | _ => exact absurd (show (fail : M Nat T3x) h nx = _ from e) (by simp [fail])
  | _ => exact absurd (show (fail : M Nat T3x) h nx = _ from e) (by simp [fail])
noncomputable def newT (t : T3x) : M Nat Value := bind (newFact t.n) fun x => bind (newFact t.d) fun y => ret (.agg ⟨[.bool t.s, x, y]⟩)
theorem loc_newT (t : T3x) : Loc (newT t) := loc_bind (loc_newFact _) fun _ => loc_bind (loc_newFact _) fun _ => loc_ret _
theorem newT_ok {w' : World} {t : T3x} {q : Rat} (e : newT t h nx = .ok v h' nx' R W) (hM : Mod natSig r h.get w) (hN : New r nx nx') (hb : Below w.heap.size w w') (hq : NumIn w' v' q) (p : Big.ng q = t.s ∧ Big.nu q = t.n ∧ Big.de q = t.d) :
    ∃ r', VR r' v v' ∧ Ext natSig r w nx nx' W h'.get r' w' := by
  obtain ⟨a, b, rfl, ha, hb'⟩ := hq
  obtain ⟨p1, p2, p3⟩ := p
  rw [p2] at ha
  rw [p3] at hb'
  rw [p1]
  obtain ⟨i, h1, nx1, R1, W1, R2, W2, e1, e2, rfl, rfl⟩ := bind_ok e
  obtain ⟨i1, g1, nx3, R5, W5, R6, W6, e5, e6, rfl, rfl⟩ := bind_ok e1
  obtain ⟨rfl, rfl, rfl, rfl⟩ := ret_ok e6
  unfold fresh at e5
  cases e5
  obtain ⟨j, h2, nx2, R3, W3, R4, W4, e3, e4, rfl, rfl⟩ := bind_ok e2
  obtain ⟨rfl, rfl, rfl, rfl⟩ := ret_ok e4
  obtain ⟨j1, g2, nx4, R7, W7, R8, W8, e7, e8, rfl, rfl⟩ := bind_ok e3
  obtain ⟨rfl, rfl, rfl, rfl⟩ := ret_ok e8
  unfold fresh at e7
  cases e7
  obtain ⟨r1, hX, hr⟩ := ext_fact (S := natSig) (f := t.n) hM hb (hN.sub (Nat.le_refl _) (by omega)) ha (nat_one ha)
  have hX' := hX.congr (g' := (h.set nx (.fact t.n)).get) fun n => .inr (Tr.get_set _ _ _ _)
  have hN2 := New.after (hN.sub (lo' := nx) (hi' := nx + 1 + 1) (Nat.le_refl _) (by omega)) hX (by omega)
  obtain ⟨r2, hY, hs⟩ := ext_fact (S := natSig) (f := t.d) hX'.mod (Below.refl _ w') hN2 hb' (nat_one hb')
  refine ⟨r2, .agg (.cons (.same rfl) (.cons (.opq (hY.le.val _ _ hr) (nat_one ha)) (.cons (.opq hs (nat_one hb')) .nil))), ?_⟩
  have hZ := hX'.trans hY (by omega) (by omega)
  refine Ext.congr (by simpa using hZ) fun n => .inr ?_
  rw [Tr.get_set]
noncomputable def fracTx (N : Int) (D : Nat) : T3x := ⟨decide (N < 0), N.natAbs / Nat.gcd N.natAbs D, D / Nat.gcd N.natAbs D⟩
noncomputable def isT (N : Int) (D : Nat) (t : T3x) : Bool := t.good && (Nat.ble 1 D && decide (Big.sI t.s t.n * (D : Int) = N * (t.d : Int)))
theorem isT_ok {N : Int} {D : Nat} {t : T3x} (h : isT N D t = true) {q : Rat} (hq : q = mkRat N D) : Big.ng q = t.s ∧ Big.nu q = t.n ∧ Big.de q = t.d := by
  unfold isT at h
  simp only [Bool.and_eq_true, decide_eq_true_eq] at h
  obtain ⟨h1, h2, h3⟩ := h
  have h2 := Nat.le_of_ble_eq_true h2
  unfold T3x.good at h1
  simp only [Bool.and_eq_true, Bool.or_eq_true, Bool.not_eq_true'] at h1
  obtain ⟨g1, g2, g3, -⟩ := h1
  refine Big.parts (Nat.le_of_ble_eq_true g1) (Nat.eq_of_beq_eq_true g2) (fun hs => ?_) (show D ≠ 0 by omega) h3 hq
  rcases g3 with g3 | g3
  · rw [hs] at g3; cases g3
  · exact Nat.le_of_ble_eq_true g3
noncomputable def outT (N : Int) (D : Nat) : M Nat Value := cond (isT N D (fracTx N D)) (newT (fracTx N D)) fail
theorem loc_outT (N : Int) (D : Nat) : Loc (outT N D) := loc_cond (loc_newT _) loc_fail
theorem goes_T {N : Int} {D : Nat} {q : Rat} {f : FuncId} {args' : List Value} (e : outT N D h nx = .ok v h' nx' R W) (hq : q = mkRat N D) (hM : Mod natSig r h.get w) (hN : New r nx nx') (c : Calls Tryz.prog f ⟨args'⟩ w (Num1 w q)) : Goes f args' r w nx nx' W h'.get v := by
  obtain ⟨hk, e1⟩ := cond_ok e
  refine c.mono ?_
  rintro en w' ⟨u, rfl, hu, hb⟩
  obtain ⟨r', hv, hX⟩ := newT_ok e1 hM hN hb hu (isT_ok hk hq)
  exact ⟨u, r', rfl, hv, hX⟩
noncomputable def tt2 (args : List Value) (k : T3x → T3x → M Nat Value) : Option (M Nat Value) := match args with
  | [a, b] => some (bind (t3V a) fun x => bind (t3V b) fun y => k x y)
  | _ => none
end
theorem tt2_ok {f : FuncId} {k : T3x → T3x → M Nat Value} (hl : ∀ x y, Loc (k x y)) (hk : ∀ x y (h : Tr (Blk Nat)) nx v h' nx' R W, k x y h nx = .ok v h' nx' R W → ∀ r w a b, NumIn w a x.q → NumIn w b y.q → x.good = true → y.good = true → Mod natSig r h.get w → New r nx nx' → Goes f [a, b] r w nx nx' W h'.get v) :
    SumF natSig Tryz.prog f (fun args => tt2 args k) := by
  intro args m e
  unfold tt2 at e
  rcases args with _ | ⟨a, _ | ⟨b, _ | ⟨c, l⟩⟩⟩ <;> simp only [reduceCtorEq, Option.some.injEq] at e
  subst e
  refine ⟨loc_bind (loc_t3V a) fun n => loc_bind (loc_t3V b) fun m => hl n m, ?_⟩
  intro h nx v h' nx' R W e r w args' ha hM hN
  cases ha with
  | cons ha1 ha2 =>
    cases ha2 with
    | cons hb1 hb2 =>
      cases hb2
      obtain ⟨n, h1, nx1, R1, W1, R2, W2, e1, e2, rfl, rfl⟩ := bind_ok e
      obtain ⟨rfl, rfl, rfl, hn, gn⟩ := t3V_ok e1 ha1 hM
      obtain ⟨m, h2, nx2, R3, W3, R4, W4, e3, e4, rfl, rfl⟩ := bind_ok e2
      obtain ⟨rfl, rfl, rfl, hm, gm⟩ := t3V_ok e3 hb1 hM
      simpa [Goes] using hk n m _ _ _ _ _ _ _ e4 r w _ _ hn hm gn gm hM hN
theorem T3x.pos {t : T3x} (h : t.good = true) : t.d ≠ 0 := by
  unfold T3x.good at h
  simp only [Bool.and_eq_true] at h
  have := Nat.le_of_ble_eq_true h.1
  omega
theorem tsum_mul : SumF natSig Tryz.prog 75 (fun args => tt2 args fun x y => outT (Big.sI x.s x.n * Big.sI y.s y.n) (x.d * y.d)) :=
  tt2_ok (fun _ _ => loc_outT _ _) fun x y h nx v h' nx' R W e r w a b ha hb gx gy hM hN =>
    goes_T e (by unfold T3x.q; rw [Rat.mkRat_mul_mkRat]) hM hN (exMul_any w a b _ _ 1000 ha hb (T3x.sm gx) (T3x.sm gy) (by omega))
theorem tsum_add : SumF natSig Tryz.prog 78 (fun args => tt2 args fun x y => outT (Big.sI x.s x.n * (y.d : Int) + Big.sI y.s y.n * (x.d : Int)) (x.d * y.d)) :=
  tt2_ok (fun _ _ => loc_outT _ _) fun x y h nx v h' nx' R W e r w a b ha hb gx gy hM hN =>
    goes_T e (by unfold T3x.q; rw [Rat.mkRat_add_mkRat _ _ (T3x.pos gx) (T3x.pos gy)]) hM hN (exAdd_any w a b _ _ 1000 ha hb (T3x.sm gx) (T3x.sm gy) (by omega))
theorem tsum_sub : SumF natSig Tryz.prog 63 (fun args => tt2 args fun x y => outT (Big.sI x.s x.n * (y.d : Int) + -Big.sI y.s y.n * (x.d : Int)) (x.d * y.d)) :=
  tt2_ok (fun _ _ => loc_outT _ _) fun x y h nx v h' nx' R W e r w a b ha hb gx gy hM hN =>
    goes_T e (by unfold T3x.q; rw [Rat.sub_eq_add_neg, Rat.neg_mkRat, Rat.mkRat_add_mkRat _ _ (T3x.pos gx) (T3x.pos gy)]) hM hN (exSub_any w a b _ _ 1000 ha hb (T3x.sm gx) (T3x.sm gy) (by omega))
theorem quoX_mk {s s' : Bool} {n d n' d' : Nat} (hd : d ≠ 0) (hd' : d' ≠ 0) (hn : n' ≠ 0) : mkRat (Big.sI s n) d / mkRat (Big.sI s' n') d' = mkRat (Big.sI s n * Big.sI s' d') (d * n') := by
  have h1 : mkRat (Big.sI s' n') d' * mkRat (Big.sI s' d') n' = 1 := by
    rw [Rat.mkRat_mul_mkRat]
    have : Big.sI s' n' * Big.sI s' d' = ((d' * n' : Nat) : Int) := by cases s' <;> simp [Big.sI] <;> grind
    rw [this]
    show mkRat ((d' * n' : Nat) : Int) (d' * n') = 1
    have h0 : d' * n' ≠ 0 := Nat.mul_ne_zero hd' hn
    rw [show (1 : Rat) = mkRat 1 1 by rfl, Rat.mkRat_eq_iff h0 (by decide)]
    simp
  have h2 : mkRat (Big.sI s' n') d' ≠ 0 := fun e => by rw [e, Rat.zero_mul] at h1; exact absurd h1 (by decide)
  rw [Rat.div_def, ← Rat.mkRat_mul_mkRat]
  congr 1
  have h3 : (mkRat (Big.sI s' n') d')⁻¹ * (mkRat (Big.sI s' n') d' * mkRat (Big.sI s' d') n') = (mkRat (Big.sI s' n') d')⁻¹ := by rw [h1, Rat.mul_one]
  rw [← h3, ← Rat.mul_assoc, Rat.inv_mul_cancel _ h2, Rat.one_mul]
theorem tsum_quo : SumF natSig Tryz.prog 77 (fun args => tt2 args fun x y => cond (Nat.ble 1 y.n) (outT (Big.sI x.s x.n * Big.sI y.s y.d) (x.d * y.n)) fail) :=
  tt2_ok (fun _ _ => loc_cond (loc_outT _ _) loc_fail) fun x y h nx v h' nx' R W e r w a b ha hb gx gy hM hN => by
    obtain ⟨hk, e1⟩ := cond_ok e
    have hn := Nat.le_of_ble_eq_true hk
    exact goes_T e1 (by unfold T3x.q; exact quoX_mk (T3x.pos gx) (T3x.pos gy) (by omega)) hM hN (exQuo_any w a b _ _ 1000 ha hb (T3x.sm gx) (T3x.sm gy) (by omega) (by rw [(T3x.parts gy).2.1]; omega))
noncomputable def leadB (l : List UInt8) : Bool := match l with
  | [] => true
  | c :: _ => !(Nat.beq c.toNat 0)
theorem leadB_ok {l : List UInt8} (h : leadB l = true) : Lead l := by
  cases l with
  | nil => simp [Lead]
  | cons c l =>
    intro e
    simp at e
    subst e
    cases h
theorem bst_of {s : ByteArray} (h : leadB s.data.toList = true) : bst (Big.bnum s.data.toList) = s := by
  obtain ⟨⟨l⟩⟩ := s
  show (⟨(btx (Big.bnum l)).toArray⟩ : ByteArray) = _
  rw [btx_bnum (leadB_ok h)]
noncomputable def readKx (s : Bool) (a b : ByteArray) : M Nat Value := cond (leadB a.data.toList && (leadB b.data.toList && (T3x.good ⟨s, Big.bnum a.data.toList, Big.bnum b.data.toList⟩ && (Nat.ble a.size 512 && Nat.ble b.size 512))))
  (bind (newT ⟨s, Big.bnum a.data.toList, Big.bnum b.data.toList⟩) fun v => ret (.tuple ⟨[v, .bool true]⟩)) fail
noncomputable def readable (s : Bool) (a b : ByteArray) : Bool := leadB a.data.toList && (leadB b.data.toList && (T3x.good ⟨s, Big.bnum a.data.toList, Big.bnum b.data.toList⟩ && (Nat.ble a.size 512 && Nat.ble b.size 512)))
noncomputable def readS (args : List Value) : Option (M Nat Value) := match args with
  | [v] => match v with
    | .agg cs => match cs.toList with
      | [x, y, z] => match x with
        | .bool s => match y with
          | .string a => match z with
            | .string b => cond (readable s a b) (some (readKx s a b)) none
            | _ => none
          | _ => none
        | _ => none
      | _ => none
    | _ => none
  | _ => none
theorem tsum_read : SumF natSig Tryz.prog 95 readS := by
  intro args m e
  unfold readS at e
  rcases args with _ | ⟨v, _ | ⟨c, l⟩⟩ <;> simp only [reduceCtorEq] at e
  cases v <;> simp only [reduceCtorEq] at e
  rename_i cs
  obtain ⟨l⟩ := cs
  simp only at e
  rcases l with _ | ⟨x, _ | ⟨y, _ | ⟨z, _ | ⟨u, l⟩⟩⟩⟩ <;> simp only [reduceCtorEq] at e
  cases x <;> simp only [reduceCtorEq] at e
  rename_i s
  cases y <;> simp only [reduceCtorEq] at e
  rename_i a
  cases z <;> simp only [reduceCtorEq] at e
  rename_i b
  cases hk : readable s a b with
  | false => rw [hk] at e; cases e
  | true =>
    rw [hk] at e
    cases e
    refine ⟨loc_cond (loc_bind (loc_newT _) fun _ => loc_ret _) loc_fail, ?_⟩
    intro h nx v h' nx' R W e r w args' ha hM hN
    obtain ⟨_, e1⟩ := cond_ok e
    obtain ⟨u, h1, nx1, R1, W1, R2, W2, e2, e3, rfl, rfl⟩ := bind_ok e1
    obtain ⟨rfl, rfl, rfl, rfl⟩ := ret_ok e3
    unfold readable at hk
    simp only [Bool.and_eq_true] at hk
    obtain ⟨k1, k2, k3, k4, k5⟩ := hk
    obtain ⟨p1, p2, p3⟩ := T3x.parts k3
    obtain rfl : args' = [.agg ⟨[.bool s, .string a, .string b]⟩] := by
      cases ha with
      | cons q1 q2 => cases q2; rw [q1.eq_of_plain2 rfl]
    have hf : Fit (T3x.q ⟨s, Big.bnum a.data.toList, Big.bnum b.data.toList⟩) := by
      refine ⟨?_, ?_⟩
      · rw [p2]; show szN (Big.bnum a.data.toList) ≤ 512; have := congrArg ByteArray.size (bst_of k1); rw [bst_size] at this; have := Nat.le_of_ble_eq_true k4; omega
      · rw [p3]; show szN (Big.bnum b.data.toList) ≤ 512; have := congrArg ByteArray.size (bst_of k2); rw [bst_size] at this; have := Nat.le_of_ble_eq_true k5; omega
    have hc := exRead_ok w _ hf
    rw [p1, p2, p3] at hc
    simp only at hc
    rw [bst_of k1, bst_of k2] at hc
    refine hc.mono ?_
    rintro en w' ⟨u', rfl, hu, hb⟩
    obtain ⟨r', hv, hX⟩ := newT_ok e2 hM hN hb hu ⟨p1, p2, p3⟩
    exact ⟨_, r', rfl, .tuple (.cons hv (.cons (.same rfl) .nil)), by simpa using hX⟩
end Ev
end Go.Proofs.YtaefgofheiegeaaGreatDoor
namespace Go.Proofs.YtaefgofheiegeaaGreatDoor
open Go.RowKit
set_option maxRecDepth 100000 in
theorem twos_any (w : World) (v : Value) (l : List Nat) (h : Wd w .u64 v l) (hl : l.length ≤ 1000000) (i t k : Nat) (hi : i < l.length) (hz : ∀ j, j < i → Big.nth l j = 0) (ht : Big.nth l i = t) (ht0 : t ≠ 0) (hk : k < 64)
    (H : Calls Tryz.prog 258 #[.int .u64 (t : Int)] w fun e w' => e = .returned (.int .i64 (k : Int)) ∧ w' = w) :
    Calls Tryz.prog 211 #[v] w fun e w' => e = .returned (.int .i64 ((i * 64 + k : Nat) : Int)) ∧ w = w' := by
  have HC := Lib.hid H
  obtain ⟨A, c, rfl, h1, h2, h3⟩ := h
  obtain ⟨b, o, rfl, hlt, hc, -⟩ := h3 (by omega)
  have HCC := Lib.hid hc
  have HZ := Lib.hid hz
  have ht1 : ((t : Int) != 0) = true := by simp; omega
  clear H h3 hc hz
  go_enter Tryz.func211, Tryz.ntmps211
  go_wp2_with fail
  go_loopw [7] (fun ix wr => ∃ (j : Nat), j ≤ i ∧ ix = .int .i64 j ∧ wr = w) (fun ix _ => l.length - (intOf ix).toNat)
  case atStart => exact ⟨0, by omega, rfl, rfl⟩
  case round =>
    obtain ⟨j, hj, rfl, rfl⟩ := hrel
    have hjl : (j : Int) < (l.length : Int) := by omega
    have hcell := HCC.out j (by omega)
    by_cases hji : j = i
    · subst hji
      rw [ht] at hcell
      go_wp2_with (go_at_call 258; refine HC.out.mono ?_; rintro e w' ⟨rfl, rfl⟩)
      go_ret
      exact ⟨ret_int (by omega), rfl⟩
    · have h0 := HZ.out j (by omega)
      rw [h0] at hcell
      go_wp2_with fail
      exact ⟨⟨j + 1, by omega, by go_num, by first | trivial | rfl⟩, by simp [intOf]; omega⟩
theorem twos_nil (w : World) (c : Nat) (A : Option Addr) :
    Calls Tryz.prog 211 #[.slice A 0 c] w fun e w' => e = .returned (.int .i64 0) ∧ w = w' := by
  go_enter Tryz.func211, Tryz.ntmps211
  go_wp2_with fail
  go_loopw [7] (fun ix wr => ix = .int .i64 0 ∧ wr = w) (fun _ _ => 0)
  case atStart => exact ⟨rfl, rfl⟩
  case round =>
    obtain ⟨rfl, rfl⟩ := hrel
    go_wp2_with fail
    go_ret
    simp
def Tryz.lays29_ren : Go.Shelf.Ren := ⟨fun | 29 => 258 | n => n, fun | 0 => 0 | 3 => 3 | 4 => 4 | 5 => 5 | 22 => 176 | 25 => 321 | 54 => 334 | n => n, fun | 1 => 3 | n => n⟩
theorem Tryz.lays29 : Go.Proofs.Lays7.n29 Tryz.prog Tryz.lays29_ren := {
  mixed := by kernel_rfl
  f29 := Tryz.func258.trans (congrArg some (by kernel_rfl))
  t0 := Tryz.underlying0
  a0 := Tryz.isAgg0
  z0 := Tryz.sizeOf0
  v0 := Tryz.zeroValue0
  i0 := by kernel_rfl
  t3 := Tryz.underlying3
  a3 := Tryz.isAgg3
  z3 := Tryz.sizeOf3
  v3 := Tryz.zeroValue3
  i3 := by kernel_rfl
  t4 := Tryz.underlying4
  a4 := Tryz.isAgg4
  z4 := Tryz.sizeOf4
  v4 := Tryz.zeroValue4
  i4 := by kernel_rfl
  t5 := Tryz.underlying5
  a5 := Tryz.isAgg5
  z5 := Tryz.sizeOf5
  v5 := Tryz.zeroValue5
  i5 := by kernel_rfl
  t22 := Tryz.underlying176
  a22 := Tryz.isAgg176
  z22 := Tryz.sizeOf176
  v22 := Tryz.zeroValue176
  i22 := by kernel_rfl
  t25 := Tryz.underlying321
  a25 := Tryz.isAgg321
  z25 := Tryz.sizeOf321
  v25 := Tryz.zeroValue321
  i25 := by kernel_rfl
  t54 := Tryz.underlying334
  a54 := Tryz.isAgg334
  z54 := Tryz.sizeOf334
  g1 := by kernel_rfl }
def Tab64 (w : World) : Prop := ∀ j, j < 64 → w.cell? ⟨3, j, none⟩ = some (.int .u8 ((Lib.deBruijn64tab.getD j 0 : Nat) : Int))
theorem tz64 (x : Nat) (hx : x < 18446744073709551616) (w : World) (hT : Tab64 w) :
    Calls Tryz.prog 258 #[.int .u64 (x : Int)] w fun e w' => e = .returned (.int .i64 ((Lib.ctz 64 x : Nat) : Int)) ∧ w' = w :=
  Any7.bits_TrailingZeros64 Tryz.lays29 x hx w (fun _ => hT)
def tzN : Nat → Nat → Nat
  | 0, _ => 0
  | f + 1, n => if n % 18446744073709551616 = 0 then tzN f (n / 18446744073709551616) + 64 else Lib.ctz 64 (n % 18446744073709551616)
theorem tzN_at : ∀ (f : Nat) (l : List Nat), Big.Ok Big.M64 l → l.length ≤ f → Big.val Big.M64 l ≠ 0 → ∃ i, i < l.length ∧ (∀ j, j < i → Big.nth l j = 0) ∧ Big.nth l i ≠ 0 ∧ tzN f (Big.val Big.M64 l) = i * 64 + Lib.ctz 64 (Big.nth l i)
  | f, [], _, _, h => absurd rfl h
  | 0, _ :: _, _, hl, _ => by simp at hl
  | f + 1, d :: l, ol, hl, h => by
    have hd := ol.head
    rw [Big.M64_eq] at hd
    have e1 : Big.val Big.M64 (d :: l) % 18446744073709551616 = d := by
      show (d + Big.M64 * Big.val Big.M64 l) % _ = d
      rw [Big.M64_eq]; omega
    have e2 : Big.val Big.M64 (d :: l) / 18446744073709551616 = Big.val Big.M64 l := by
      show (d + Big.M64 * Big.val Big.M64 l) / _ = _
      rw [Big.M64_eq]; omega
    unfold tzN
    rw [e1, e2]
    by_cases h0 : d = 0
    · subst h0
      rw [if_pos rfl]
      have hne : Big.val Big.M64 l ≠ 0 := fun e => h (by show 0 + Big.M64 * Big.val Big.M64 l = 0; rw [e]; rfl)
      obtain ⟨i, a1, a2, a3, a4⟩ := tzN_at f l ol.tail (by simpa using hl) hne
      refine ⟨i + 1, by simpa using a1, fun j hj => ?_, by simpa [Big.nth] using a3, ?_⟩
      · cases j with
        | zero => rfl
        | succ j => simpa [Big.nth] using a2 j (by omega)
      · rw [a4]
        have : Big.nth (0 :: l) (i + 1) = Big.nth l i := by simp [Big.nth]
        rw [this]; omega
    · rw [if_neg h0]
      exact ⟨0, by simp, fun j hj => by omega, by simpa [Big.nth] using h0, by simp [Big.nth]⟩
def tzW (n : Nat) : Nat := if n = 0 then 0 else tzN 1000 n
theorem twos_num (w : World) (v : Value) (N : Nat) (h : NatIn w v N) (hN : Sz 1000 N) (hT : Tab64 w) :
    Calls Tryz.prog 211 #[v] w fun e w' => e = .returned (.int .i64 ((tzW N : Nat) : Int)) ∧ w = w' := by
  obtain ⟨l, h1, h2, h3, h4⟩ := h
  have hl : l.length ≤ 1000 := len_of_lt h3 (by rw [h4]; exact hN.out)
  by_cases h0 : N = 0
  · subst h0
    obtain rfl := Big.norm_zero Big.M64_pos l h3 h4
    obtain ⟨A, c, rfl, -, -, -⟩ := h1
    exact twos_nil w c A
  · obtain ⟨i, a1, a2, a3, a4⟩ := tzN_at 1000 l h2 hl (by rw [h4]; exact h0)
    rw [h4] at a4
    have ht := h2.nth Big.M64_pos i
    rw [Big.M64_eq] at ht
    rw [show tzW N = tzN 1000 N from if_neg h0, a4]
    exact twos_any w v l h1 (by omega) i _ _ a1 a2 rfl a3 (Lib.lowest_bit 64 _ a3 ht).2 (tz64 _ ht w hT)
set_option maxRecDepth 100000 in
theorem slice_on (b o d len c : Nat) (hd : d ≤ len) (hc : d ≠ c) (W : World) :
    (Instr.slice 99 (.slice (some ⟨b, o, none⟩) len c) (some (.int .i64 (d : Int))) none none).run Tryz.prog W = .ok (.slice (some ⟨b, o + d, none⟩) (len - d) (c - d)) W := by
  have e : Tryz.prog.elem 99 = 176 := by kernel_rfl
  have hs : (sizeOf 176).run Tryz.prog W = .ok 1 W := by kernel_rfl
  rw [run_slice_l (P := Tryz.prog) (w := W) 99 (some ⟨b, o, none⟩) len c (by rw [e]; exact Tryz.underlying99) .i64 (d : Int) (by omega) (by omega), e, hs]
  show Result.ok _ W = _
  simp only [sliced, Int.toNat_natCast, Nat.mul_one]
  rw [if_neg (by omega)]
  congr 1
  simp [Addr.add]
theorem drop_val {l : List Nat} {d : Nat} (ol : Big.Ok Big.M64 l) (hd : d ≤ l.length) : Big.val Big.M64 (l.drop d) = Big.val Big.M64 l / 2 ^ (64 * d) := by
  have h1 := Big.val_take_drop (B := Big.M64) l d hd
  have h2 := Big.val_lt (B := Big.M64) (l.take d) (ol.take d)
  rw [List.length_take, Nat.min_eq_left hd] at h2
  rw [← M64_pow, h1, Nat.add_mul_div_left _ _ (Nat.pow_pos Big.M64_pos), Nat.div_eq_of_lt h2, Nat.zero_add]
set_option maxRecDepth 100000 in
set_option maxHeartbeats 2000000 in
theorem shr_words (w : World) (v : Value) (l : List Nat) (d s : Nat) (h : Wd w .u64 v l) (ol : Big.Ok Big.M64 l) (hs : s ≤ 63) (hd : d < l.length) (h0 : 64 * d + s ≠ 0) (hl : l.length ≤ 1000000000) :
    Calls Tryz.prog 213 #[v, .int .i64 ((64 * d + s : Nat) : Int)] w (Nat1 w (Big.val Big.M64 l / 2 ^ (64 * d + s))) := by
  obtain ⟨A, c, rfl, h1, h2, h3⟩ := h
  obtain ⟨b, o, rfl, hlt, hc, hty⟩ := h3 (by omega)
  have hdl : (l.drop d).length = l.length - d := List.length_drop
  have hw2 : Wd w .u64 (.slice (some ⟨b, o + d, none⟩) (l.length - d) (c - d)) (l.drop d) := by
    refine ⟨_, c - d, by rw [hdl], by omega, by omega, fun _ => ⟨b, o + d, rfl, hlt, fun i hi => ?_, hty⟩⟩
    rw [hdl] at hi
    rw [Nat.add_assoc, hc (d + i) (by omega)]
    unfold Big.nth
    rw [List.getD_eq_getElem?_getD, List.getD_eq_getElem?_getD, List.getElem?_drop]
  have CL := Lib.hid (clone_any w _ _ hw2 (by omega))
  have HS := Lib.hid (fun W => slice_on b o d l.length c (by omega) (by omega) W)
  have HV := Lib.hid (drop_val (d := d) ol (by omega))
  have OD := Lib.hid (ol.drop d)
  rw [hdl] at CL
  obtain ⟨n, hn⟩ : ∃ n : Int, ((64 * d + s : Nat) : Int) = n := ⟨_, rfl⟩
  have q1 : Int.tdiv n 64 = d := by subst hn; rw [Int.tdiv_eq_ediv_of_nonneg (Int.natCast_nonneg _)]; omega
  have q2 : Int.tmod n 64 = s := by subst hn; rw [Int.tmod_eq_emod_of_nonneg (Int.natCast_nonneg _)]; omega
  have q3 : (n ≤ 0) = False := by rw [eq_iff_iff, iff_false]; omega
  have q4 : ((l.length : Int) ≤ (d : Int)) = False := by rw [eq_iff_iff, iff_false]; omega
  have hwr : IntKind.i64.wrap ((d : Nat) : Int) = (d : Int) := by rw [IntKind.wrap_i64]; omega
  rw [hn, Nat.pow_add, ← Nat.div_div_eq_div_mul, ← HV.out]
  have hsl := HS.out w
  clear h3 hc hty hw2 hn h0 ol HV
  go_enter Tryz.func213, Tryz.ntmps213
  go_wp2_with fail
  refine CL.out.mono ?_
  rintro e w1 ⟨rfl, hb, hw1⟩
  have CB := Lib.hid (shiftedBack_any w1 w.heap.size (l.length - d) (l.length - d + 1) s (l.drop d) [0] hb hdl (by omega) (by omega) OD.out hs)
  have HW1 := Lib.hid hw1
  clear hb hw1 CL HS OD hsl
  go_wp2_with fail
  refine CB.out.mono ?_
  rintro e w2 ⟨v', rfl, hv, ho, -⟩
  go_wp2_with fail
  go_ret
  exact ⟨v', rfl, hv, ho.below HW1.out (Nat.le_refl _) HW1.out.size⟩
set_option maxRecDepth 100000 in
theorem shr_num (w : World) (v : Value) (N : Nat) (n : Int) (h : NatIn w v N) (hN : Sz 1000 N) (hn : n ≤ 1000000) :
    Calls Tryz.prog 213 #[v, .int .i64 n] w (Nat1 w (N / 2 ^ n.toNat)) := by
  have HN := Lib.hid h
  obtain ⟨l, h1, h2, h3, h4⟩ := h
  have hl : l.length ≤ 1000 := len_of_lt h3 (by rw [h4]; exact hN.out)
  by_cases n0 : n ≤ 0
  · obtain ⟨A, c, rfl, -, -, -⟩ := h1
    rw [show n.toNat = 0 by omega, Nat.pow_zero, Nat.div_one]
    clear hN h2 h3 h4
    go_enter Tryz.func213, Tryz.ntmps213
    go_wp2
    go_ret
    exact ⟨_, rfl, HN.out, Below.refl _ _⟩
  · obtain ⟨k, rfl⟩ : ∃ k : Nat, n = (k : Int) := ⟨n.toNat, by omega⟩
    rw [Int.toNat_natCast]
    by_cases hd : k / 64 < l.length
    · have := shr_words w v l (k / 64) (k % 64) h1 h2 (by omega) hd (by omega) (by omega)
      rw [show 64 * (k / 64) + k % 64 = k by omega, h4] at this
      exact this
    · have e0 : N / 2 ^ k = 0 := by
        apply Nat.div_eq_of_lt
        have h5 := Big.val_lt l h2
        rw [h4, M64_pow] at h5
        exact Nat.lt_of_lt_of_le h5 (Nat.pow_le_pow_right (by omega) (by omega))
      rw [e0]
      obtain ⟨A, c, rfl, -, -, -⟩ := h1
      have q1 : Int.tdiv (k : Int) 64 = ((k / 64 : Nat) : Int) := by rw [Int.tdiv_eq_ediv_of_nonneg (Int.natCast_nonneg _)]; omega
      have q4 : ((l.length : Int) ≤ ((k / 64 : Nat) : Int)) = True := by rw [eq_iff_iff, iff_true]; omega
      have hwr : IntKind.i64.wrap ((k / 64 : Nat) : Int) = ((k / 64 : Nat) : Int) := by rw [IntKind.wrap_i64]; omega
      generalize k / 64 = d at *
      clear hN h2 h3 h4 e0 HN
      go_enter Tryz.func213, Tryz.ntmps213
      go_wp2
      go_ret
      exact ⟨_, rfl, NatIn.nil_ _, Below.refl _ _⟩
end Go.Proofs.YtaefgofheiegeaaGreatDoor
namespace Go.Proofs.YtaefgofheiegeaaGreatDoor
open Go Go.RowKit
namespace Ev
noncomputable def shrS (args : List Value) : Option (M Nat Value) := match args with
    | [a, b] => match b with
      | .int k s => cond (decide (k = .i64) && decide (s ≤ 1000000)) (some (bind (natV a) fun n => cond (small n) (newFact (n / 2 ^ s.toNat)) fail)) none
      | _ => none
    | _ => none
theorem sum_shr : SumF natSig Tryz.prog 213 shrS := by
  intro args m e
  unfold shrS at e
  rcases args with _ | ⟨a, _ | ⟨b, _ | ⟨c, l⟩⟩⟩ <;> simp only [reduceCtorEq] at e
  cases b with
  | int k s =>
    simp only at e
    cases hk : (decide (k = .i64) && decide (s ≤ 1000000)) with
    | false => rw [hk] at e; cases e
    | true =>
      rw [hk] at e
      simp only [cond_true, Option.some.injEq] at e
      subst e
      simp only [Bool.and_eq_true, decide_eq_true_eq] at hk
      refine ⟨loc_bind (loc_natV a) fun n => loc_cond (loc_newFact _) loc_fail, ?_⟩
      intro h nx v h' nx' R W e r w args' ha hM hN
      cases ha with
      | cons ha1 ha2 =>
        cases ha2 with
        | cons hb1 hb2 =>
          cases hb2
          obtain ⟨n, h1, nx1, R1, W1, R2, W2, e1, e2, rfl, rfl⟩ := bind_ok e
          obtain ⟨rfl, rfl, rfl, hn⟩ := natV_ok e1 ha1 hM
          obtain ⟨hs, e5⟩ := cond_ok e2
          have hb := hb1.int
          subst hb
          rw [hk.1]
          simpa [Goes] using goes_new e5 hM hN (shr_num w _ n s hn (sz_small hs) hk.2)
  | _ => simp at e
theorem sum_twos : SumF natSig Tryz.prog 211 (fun args => one args fun n => ret (.int .i64 ((tzW n : Nat) : Int))) :=
  one_ok (fun _ => loc_ret _) fun n h nx v h' nx' R W e r w a hn sn hM _ => goes_val e rfl hM (same_below (twos_num w a n hn sn (TabB.tab hM.base)))
noncomputable def tzS (args : List Value) : Option (M Nat Value) := match args with
  | [a] => match a with
    | .int k s => match s with
      | .ofNat n => cond (decide (k = .u64) && Nat.ble (Nat.succ n) 18446744073709551616) (some (ret (.int .i64 ((Lib.ctz 64 n : Nat) : Int)))) none
      | _ => none
    | _ => none
  | _ => none
theorem sum_tz : SumF natSig Tryz.prog 258 tzS := by
  intro args m e
  unfold tzS at e
  rcases args with _ | ⟨a, _ | ⟨c, l⟩⟩ <;> simp only [reduceCtorEq] at e
  cases a <;> simp only [reduceCtorEq] at e
  rename_i k s
  cases s with
  | negSucc n => simp at e
  | ofNat n =>
    simp only at e
    cases hk : (decide (k = .u64) && Nat.ble (Nat.succ n) 18446744073709551616) with
    | false => rw [hk] at e; cases e
    | true =>
      rw [hk] at e
      cases e
      simp only [Bool.and_eq_true, decide_eq_true_eq] at hk
      refine ⟨loc_ret _, ?_⟩
      intro h nx v h' nx' R W e r w args' ha hM hN
      cases ha with
      | cons ha1 ha2 =>
        cases ha2
        obtain rfl := ha1.int
        obtain ⟨rfl, hn⟩ := hk
        have hn := Nat.le_of_ble_eq_true hn
        simpa [Goes] using goes_val e rfl hM ((tz64 n hn w (TabB.tab hM.base)).mono fun _ _ ⟨h1, h2⟩ => ⟨h1, h2 ▸ Below.refl _ _⟩)
end Ev
end Go.Proofs.YtaefgofheiegeaaGreatDoor
namespace Go.Proofs.YtaefgofheiegeaaGreatDoor
open Go.RowKit
set_option maxRecDepth 100000 in
set_option maxHeartbeats 2000000 in
theorem pmul_any (p x y : Nat) (hx : x < 18446744073709551616) (hy : y < 18446744073709551616) (hp : p < 18446744073709551616) (h : hi64 (x * y) < p) (w : World) :
    Calls Tryz.prog 226 #[.int .u64 (p : Int), .int .u64 (x : Int), .int .u64 (y : Int)] w fun e w' => e = .returned (.int .u64 ((x * y % p : Nat) : Int)) ∧ Drew w w' := by
  have HM := Lib.hid (mul64 x y hx hy)
  have HE : (hi64 (x * y) * Big.M64 + lo64 (x * y)) % p = x * y % p := by
    congr 1
    have e := Nat.div_add_mod (x * y) Big.M64
    show x * y / Big.M64 * Big.M64 + x * y % Big.M64 = x * y
    rw [Nat.mul_comm]; exact e
  have HD := div64_call (hi64 (x * y)) (lo64 (x * y)) p h (lo64_lt _) hp
  rw [HE] at HD
  generalize (hi64 (x * y) * Big.M64 + lo64 (x * y)) / p = Q at HD
  generalize x * y % p = R at HD ⊢
  replace HD := Lib.hid HD
  clear hx hy hp h HE
  go_enter Tryz.func226, Tryz.ntmps226
  go_wp2_with (first
    | (go_at_call 264; refine (HM.out _).mono ?_; rintro e w' ⟨rfl, rfl⟩)
    | (go_at_call 228; refine (HD.out _).mono ?_; rintro e w' ⟨rfl, n, rfl⟩))
  go_ret
  exact ⟨rfl, ⟨_, rfl⟩⟩
end Go.Proofs.YtaefgofheiegeaaGreatDoor
namespace Go.Proofs.YtaefgofheiegeaaGreatDoor
open Go Go.RowKit
namespace Ev
noncomputable def u64of (v : Value) : Option Nat := match v with
  | .int k s => match s with
    | .ofNat n => cond (decide (k = .u64) && Nat.ble (Nat.succ n) 18446744073709551616) (some n) none
    | _ => none
  | _ => none
theorem u64of_ok {v : Value} {n : Nat} (h : u64of v = some n) : v = .int .u64 (n : Int) ∧ n < 18446744073709551616 := by
  unfold u64of at h
  cases v with
  | int k z =>
    cases z with
    | ofNat m =>
      simp only at h
      cases hk : (decide (k = .u64) && Nat.ble (Nat.succ m) 18446744073709551616) with
      | false => rw [hk] at h; cases h
      | true =>
        rw [hk] at h
        cases h
        simp only [Bool.and_eq_true, decide_eq_true_eq] at hk
        exact ⟨by rw [hk.1]; rfl, Nat.le_of_ble_eq_true hk.2⟩
    | negSucc m => cases h
  | _ => cases h
noncomputable def restS (args : List Value) : Option (M Nat Value) := match args with
  | [a, b] => match u64of b with
    | some y => cond (Nat.ble 1 y) (some (bind (natV a) fun n => cond (small n) (ret (.int .u64 ((Nat.mod n y : Nat) : Int))) fail)) none
    | none => none
  | _ => none
theorem sum_rest : SumF natSig Tryz.prog 168 restS := by
  intro args m e
  unfold restS at e
  rcases args with _ | ⟨a, _ | ⟨b, _ | ⟨c, l⟩⟩⟩ <;> simp only [reduceCtorEq] at e
  cases hb : u64of b with
  | none => rw [hb] at e; cases e
  | some y =>
    rw [hb] at e
    simp only at e
    cases hk : Nat.ble 1 y with
    | false => rw [hk] at e; cases e
    | true =>
      rw [hk] at e
      cases e
      obtain ⟨rfl, hy⟩ := u64of_ok hb
      refine ⟨loc_bind (loc_natV a) fun n => loc_cond (loc_ret _) loc_fail, ?_⟩
      intro h nx v h' nx' R W e r w args' ha hM hN
      cases ha with
      | cons ha1 ha2 => cases ha2 with
        | cons hb1 hb2 =>
          cases hb2
          obtain rfl := hb1.int
          obtain ⟨n, h1, nx1, R1, W1, R2, W2, e1, e2, rfl, rfl⟩ := bind_ok e
          obtain ⟨rfl, rfl, rfl, hn⟩ := natV_ok e1 ha1 hM
          obtain ⟨hs, e3⟩ := cond_ok e2
          obtain ⟨l, hw, ol, nl, rfl⟩ := hn
          have hsz := (sz_small hs).out
          have hlen : l.length ≤ 1000 := by
            rcases Nat.lt_or_ge 1000 l.length with q | q
            · have hne : l ≠ [] := fun e => by rw [e] at q; simp at q
              have h1 := Big.norm_ge (B := Big.M64) l nl hne
              have h2 := Nat.lt_of_le_of_lt h1 hsz
              have h3 := (Nat.pow_lt_pow_iff_right (show 1 < Big.M64 by decide)).1 h2
              omega
            · exact q
          simpa [Goes] using goes_val e3 rfl hM (drew_below (restWord_any w _ l y hw ol (Nat.le_of_ble_eq_true hk) hy (by omega)))
noncomputable def mulP (args : List Value) : Option (M Nat Value) := match args with
  | [a, b, c] => match u64of a with
    | some p => match u64of b with
      | some x => match u64of c with
        | some y => cond (Nat.ble (Nat.succ (Nat.div (Nat.mul x y) Big.M64)) p) (some (ret (.int .u64 ((Nat.mod (Nat.mul x y) p : Nat) : Int)))) none
        | none => none
      | none => none
    | none => none
  | _ => none
theorem sum_mulP : SumF natSig Tryz.prog 226 mulP := by
  intro args m e
  unfold mulP at e
  rcases args with _ | ⟨a, _ | ⟨b, _ | ⟨c, _ | ⟨d, l⟩⟩⟩⟩ <;> simp only [reduceCtorEq] at e
  cases hp : u64of a with
  | none => rw [hp] at e; cases e
  | some p =>
    rw [hp] at e; simp only at e
    cases hx : u64of b with
    | none => rw [hx] at e; cases e
    | some x =>
      rw [hx] at e; simp only at e
      cases hy : u64of c with
      | none => rw [hy] at e; cases e
      | some y =>
        rw [hy] at e; simp only at e
        cases hk : Nat.ble (Nat.succ (Nat.div (Nat.mul x y) Big.M64)) p with
        | false => rw [hk] at e; cases e
        | true =>
          rw [hk] at e
          cases e
          obtain ⟨rfl, h1⟩ := u64of_ok hp
          obtain ⟨rfl, h2⟩ := u64of_ok hx
          obtain ⟨rfl, h3⟩ := u64of_ok hy
          refine ⟨loc_ret _, ?_⟩
          intro h nx v h' nx' R W e r w args' ha hM hN
          cases ha with
          | cons ha1 ha => cases ha with
            | cons ha2 ha => cases ha with
              | cons ha3 ha =>
                cases ha
                obtain rfl := ha1.int
                obtain rfl := ha2.int
                obtain rfl := ha3.int
                simpa [Goes] using goes_val e rfl hM (drew_below (pmul_any p x y h2 h3 h1 (Nat.le_of_ble_eq_true hk) w))
end Ev
end Go.Proofs.YtaefgofheiegeaaGreatDoor
namespace Go.Proofs.YtaefgofheiegeaaGreatDoor
open Go Go.RowKit
namespace Ev
section
variable {F : Type} {S : Sig F} {P : Program}
noncomputable def geAll (k : Nat) (l : List Nat) : Bool := List.rec (motive := fun _ => Bool) true (fun n _ ih => Bool.rec (motive := fun _ => Bool) false ih (Nat.ble k n)) l
theorem geAll_ok {k : Nat} : ∀ {l : List Nat}, geAll k l = true → ∀ n ∈ l, k ≤ n
  | [], _, n, hn => by simp at hn
  | m :: l, h, n, hn => by
    have h' : (Bool.rec (motive := fun _ => Bool) false (geAll k l) (Nat.ble k m) : Bool) = true := h
    cases hb : Nat.ble k m with
    | false => rw [hb] at h'; cases h'
    | true =>
      rw [hb] at h'
      rcases List.mem_cons.1 hn with rfl | hn
      · exact Nat.le_of_ble_eq_true hb
      · exact geAll_ok h' n hn
noncomputable def plains (l : List Value) : Bool := plainL plain2 l
theorem plains_ok {r : Ren} : ∀ {l : List Value}, plains l = true → VsR r l l
  | [], _ => .nil
  | v :: l, h => by
    have h' : (plain2 v && plains l) = true := h
    simp only [Bool.and_eq_true] at h'
    exact .cons (VR.same2 h'.1) (plains_ok h'.2)
theorem VsR_eq {r : Ren} : ∀ {l l' : List Value}, plains l = true → VsR r l l' → l' = l
  | [], _, _, h => by cases h; rfl
  | v :: l, _, hp, h => by
    have h' : (plain2 v && plains l) = true := hp
    simp only [Bool.and_eq_true] at h'
    cases h with
    | cons a b => rw [a.eq_of_plain2 h'.1, VsR_eq h'.2 b]
noncomputable def plain3 (v : Value) : Bool := match v with
  | .tuple cs => plains cs.toList
  | v => plain2 v
theorem same3 {r : Ren} {v : Value} (h : plain3 v = true) : VR r v v := by
  cases v with
  | tuple cs => cases cs; exact .tuple (plains_ok (by simpa [plain3] using h))
  | _ => exact VR.same2 h
theorem eq_of_plain3 {r : Ren} {v v' : Value} (h : VR r v v') (hp : plain3 v = true) : v' = v := by
  cases h with
  | tuple a => rw [VsR_eq (by simpa [plain3] using hp) a]
  | same p => rfl
  | ptr p => exact (VR.ptr p).eq_of_plain2 hp
  | slice p hc => exact (VR.slice p hc).eq_of_plain2 hp
  | slicex p hc h1 h2 => exact (VR.slicex p hc h1 h2).eq_of_plain2 hp
  | agg a => exact (VR.agg a).eq_of_plain2 hp
  | opq p o => exact (VR.opq p o).eq_of_plain2 hp
  | any p => exact (VR.any p).eq_of_plain2 hp
  | func a b => exact (VR.func a b).eq_of_plain2 hp
  | iface a => exact (VR.iface a).eq_of_plain2 hp
noncomputable def gives (nx : Nat) (m : M F Value) : Option Value := match m .nil nx with
  | .no => none
  | .ok a _ _ _ W => cond (plain3 a && geAll nx W) (some a) none
theorem gives_ok {nx : Nat} {m : M F Value} {v : Value} (e : gives nx m = some v) : ∃ h' nx' R W, m .nil nx = .ok v h' nx' R W ∧ plain3 v = true ∧ ∀ n ∈ W, nx ≤ n := by
  unfold gives at e
  cases hm : m .nil nx with
  | no => rw [hm] at e; cases e
  | ok a h' nx' R W =>
    rw [hm] at e
    simp only at e
    cases hc : (plain3 a && geAll nx W) with
    | false => rw [hc] at e; cases e
    | true =>
      rw [hc] at e
      simp only [cond_true, Option.some.injEq] at e
      subst e
      simp only [Bool.and_eq_true] at hc
      exact ⟨h', nx', R, W, rfl, hc.1, geAll_ok hc.2⟩
noncomputable def ren0 (G : Nat) : Ren := ⟨fun n => if n < G then some n else none, fun _ => none, fun _ => 0⟩
theorem mod0 {w : World} (hG : S.G ≤ w.heap.size) (hb : S.base w) (hlo : S.lo ≤ w.heap.size := by exact Nat.zero_le _) : Mod S (ren0 S.G) (fun _ => none) w := by
  refine ⟨fun n m b h1 h2 => ?_, fun n b h => ?_, fun n c t h => (by cases h), fun n f h => (by cases h), hb, fun n hn => if_pos hn, fun n b h hn => ?_, fun n c t h => (by cases h), hlo, fun n s h => (by cases h), fun n f h => (by cases h), fun n m x h => (by cases h)⟩
  · unfold ren0 at h1 h2
    simp only at h1 h2
    split at h1 <;> split at h2 <;> first | (cases h1; cases h2; exact .inl rfl) | (cases h1; done) | (cases h2; done)
  · unfold ren0 at h
    simp only at h
    split at h
    · cases h; omega
    · cases h
  · rw [show (ren0 S.G).blk n = none from if_neg (by omega)] at h; cases h
theorem gives_calls {C : Cfg F} [HardLoc C] {sum : Sums F} {n nx : Nat} {f : FuncId} {args : List Value} {v : Value} (hF : Fits S P C) (hs : SumOK S P sum) (e : gives nx (call P C sum n f args) = some v) (ha : plains args = true) (hx : S.G ≤ nx) {w : World} (hG : S.G ≤ w.heap.size) (hb : S.base w) (hlo : S.lo ≤ w.heap.size := by exact Nat.zero_le _) (hJ : JmpAll S P C := by exact .none rfl) :
    Calls P f ⟨args⟩ w fun e w' => e = .returned v ∧ Below w.heap.size w w' := by
  obtain ⟨h', nx', R, W, hm, hp, hW⟩ := gives_ok e
  have hc := call_ok hF hs n hJ
  have hfr : Fr (.nil : Tr (Blk F)) nx := fun k _ => Tr.get_nil k
  have hrun := Run.self (hc.loc f args) hm hfr
  have hN : New (ren0 S.G) nx nx' := fun k h1 h2 => ⟨if_neg (by omega), rfl⟩
  have hg : (Tr.get (.nil : Tr (Blk F))) = fun _ => none := funext fun k => Tr.get_nil k
  refine (hc.run f args _ _ _ _ _ _ _ hrun (ren0 S.G) w args (plains_ok ha) (by rw [hg]; exact mod0 hG hb hlo) hN).mono ?_
  rintro en w' ⟨v', r', rfl, hv, hX⟩
  have hv' := eq_of_plain3 hv hp
  subst hv'
  refine ⟨rfl, hX.os, hX.tape, hX.output, hX.size, fun b hb' => ?_⟩
  have hbo : w.heap[b]? = some w.heap[b] := Array.getElem?_eq_getElem hb'
  rw [hbo]
  exact hX.keep b _ hbo fun k hk => by
    have := hW k hk
    show ¬ (if k < S.G then some k else none) = some b
    rw [if_neg (by omega)]
    simp
end
noncomputable def natList : List (Nat × (List Value → Option (M Nat Value))) := [
  (186, fun args => two args fun n m => newFact (Nat.add n m)),
  (187, fun args => two args fun n m => newFact (Nat.sub n m)),
  (108, fun args => two args fun n m => newFact (Nat.mul n m)),
  (129, fun args => two args fun n m => newFact (Nat.div n m)),
  (128, fun args => two args fun n m => newFact (Nat.gcd n m)),
  (183, fun args => two args fun n m => bind (newFact (Nat.div n m)) fun x => bind (newFact (Nat.mod n m)) fun y => ret (.tuple ⟨[x, y]⟩)),
  (109, fun args => two args fun n m => ret (.int .i64 (Big.cmpI n m))),
  (152, fun args => one args fun n => ret (.bool (decide (n = 1)))),
  (175, fun args => one args fun n => ret (.int .i64 ((szN n : Nat) : Int))),
  (194, fun args => one args fun n => ret (.int .i64 ((bitsN n : Nat) : Int))),
  (115, fun args => one args fun n => ret (.string (bst n))),
  (261, fun args => one args fun n => ret (.tuple #[.int .u64 (((if n < Big.M64 then n else 0) : Nat) : Int), .bool (decide (n < Big.M64))])),
  (140, fun args => match args with
    | [a, b] => match b with
      | .int k s => cond (decide (k = .i64) && decide (s ≤ 64000000000)) (some (bind (natV a) fun n => cond (small n) (newFact (n * 2 ^ s.toNat)) fail)) none
      | _ => none
    | _ => none),
  (213, shrS),
  (168, restS),
  (226, mulP),
  (211, fun args => one args fun n => ret (.int .i64 ((tzW n : Nat) : Int))),
  (258, tzS),
  (106, fun args => match args with
    | [a] => match a with
      | .int k s => match s with
        | .ofNat n => cond (decide (k = .u64) && Nat.ble (Nat.succ n) 18446744073709551616) (some (newFact n)) none
        | _ => none
      | _ => none
    | _ => none),
  (151, fun args => match args with
    | [a] => match a with
      | .string s => cond (Nat.ble s.size 100000) (some (newFact (Big.bnum s.data.toList))) none
      | _ => none
    | _ => none)]
theorem natList_ok : ∀ x ∈ natList, SumF natSig Tryz.prog x.1 x.2 := by
  unfold natList
  intro x hx
  simp only [List.mem_cons, List.not_mem_nil, or_false] at hx
  rcases hx with rfl | rfl | rfl | rfl | rfl | rfl | rfl | rfl | rfl | hx
  · exact sum_add
  · exact sum_sub
  · exact sum_mul
  · exact sum_quo
  · exact sum_gcd
  · exact sum_quoRem
  · exact sum_cmp
  · exact sum_isOne
  · exact sum_size
  rcases hx with rfl | hx
  · exact sum_bits
  rcases hx with rfl | hx
  · exact sum_bytes
  rcases hx with rfl | hx
  · exact sum_word
  rcases hx with rfl | hx
  · exact sum_shl
  rcases hx with rfl | hx
  · exact sum_shr
  rcases hx with rfl | rfl | hx
  · exact sum_rest
  · exact sum_mulP
  rcases hx with rfl | rfl | hx
  · exact sum_twos
  · exact sum_tz
  rcases hx with rfl | rfl
  · exact sum_of
  · exact sum_fromBytes
noncomputable def numList : List (Nat × (List Value → Option (M Nat Value))) := natList ++ [
  (75, fun args => tt2 args fun x y => outT (Big.sI x.s x.n * Big.sI y.s y.n) (x.d * y.d)),
  (78, fun args => tt2 args fun x y => outT (Big.sI x.s x.n * (y.d : Int) + Big.sI y.s y.n * (x.d : Int)) (x.d * y.d)),
  (63, fun args => tt2 args fun x y => outT (Big.sI x.s x.n * (y.d : Int) + -Big.sI y.s y.n * (x.d : Int)) (x.d * y.d)),
  (77, fun args => tt2 args fun x y => cond (Nat.ble 1 y.n) (outT (Big.sI x.s x.n * Big.sI y.s y.d) (x.d * y.n)) fail),
  (95, readS)]
theorem numList_ok : ∀ x ∈ numList, SumF natSig Tryz.prog x.1 x.2 := by
  intro x hx
  unfold numList at hx
  rcases List.mem_append.1 hx with hx | hx
  · exact natList_ok x hx
  · simp only [List.mem_cons, List.not_mem_nil, or_false] at hx
    rcases hx with rfl | hx
    · exact tsum_mul
    rcases hx with rfl | hx
    · exact tsum_add
    rcases hx with rfl | hx
    · exact tsum_sub
    rcases hx with rfl | hx
    · exact tsum_quo
    subst hx
    exact tsum_read
noncomputable def numSums : Sums Nat := sumsOf (mkTab numList)
theorem numSums_ok : SumOK natSig Tryz.prog numSums := sumsOf_ok numList_ok
noncomputable def natSums : Sums Nat := sumsOf (mkTab natList)
theorem natSums_ok : SumOK natSig Tryz.prog natSums := sumsOf_ok natList_ok
noncomputable def runs (n : Nat) (f : FuncId) (args : List Value) : Option Value := gives 100000 (call Tryz.prog natCfg natSums n f args)
theorem glob_few : Tryz.prog.globals.size ≤ 100000 := by
  have h : Nat.ble Tryz.prog.globals.size 100000 = true := by kernel_rfl
  exact Nat.le_of_ble_eq_true h
end Ev
end Go.Proofs.YtaefgofheiegeaaGreatDoor
