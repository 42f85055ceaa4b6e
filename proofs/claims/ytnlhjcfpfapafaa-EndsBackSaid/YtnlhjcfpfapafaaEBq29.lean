/- Contracts. -/
import Derived.Test.YtnlhjcfpfapafaaEBq28
import Derived.Test.YtnlhjcfpfapafaaEBq19
import Derived.Lib.ItoaMem
import Derived.Laws.AppendOwn
import Derived.OwnWalk
import Derived.Test.YtnlhjcfpfapafaaRows
import Derived.Test.YtnlhjcfpfapafaaChecked
import Derived.WalkKit
import Derived.ProofKit
import Derived.OpenShut
import Derived.ChangeSame
import Derived.ChangeVars
import Derived.JoinedOf
import Derived.Stop.Joined
import Derived.HandedShaped
import Derived.ChangeSlices
namespace Go.Proofs.Ytnlhjcfpfapafaa
open Go Go.RowKit
namespace Ev
set_option maxRecDepth 100000
def CuRes (z y : Rat) (e : Ending) : Prop := (z ≤ y ∧ e = .returned (zFrE 10)) ∨ (y < z ∧ ((Fit (z - y) ∧ e = .returned (frE (z - y))) ∨ (¬ Fit (z - y) ∧ e = .returned (zFrE 3))))
theorem cuZ_is {E : Env} {L : Nat} {bs : List Nat} {w : World} {n : Int} {v : Value} (h : (cuZ n).is (symSig E) L bs w v) : v = zFrE n := by
 obtain ⟨vs, rfl, a, l1, rfl, ⟨us, rfl, a1, m1, rfl, k1, a2, m2, rfl, k2, a3, m3, rfl, k3, rfl⟩, u2, l2, rfl, h2, rfl⟩ := h
 have k1' : a1 = .bool false := k1
 have k2' : a2 = .string ⟨#[]⟩ := k2
 have k3' : a3 = .string ⟨#[]⟩ := k3
 have h2' : u2 = .int .i64 n := h2
 subst k1' k2' k3' h2'
 rfl
theorem pos_ng {z : Rat} (h : 0 < z) : Big.ng z = false := by
 unfold Big.ng
 rw [decide_eq_false_iff_not, Int.not_lt, Rat.num_nonneg]
 grind
theorem cut_any (w : World) {qs rs : List Rat} {x z y : Rat} (hq : ∀ y ∈ qs, Fit y) (hr : ∀ y ∈ rs, Fit y) (hx : Fit x) (hz : Fit z) (h0 : 0 < z) (hl : qs.length ≤ 10000) (hlr : rs.length = qs.length) (hne : qs ≠ []) {c : Nat} (h6 : c ≤ qs.length) (hb : ∀ t, t < c → qs.getD t 0 < x) (ha : ∀ t, c ≤ t → t < qs.length → ¬ qs.getD t 0 < x) (hy : linAt qs rs x c = some y)
  {v : Value} (hv : TabIn w v qs rs) (hG : Try.prog.globals.size ≤ w.heap.size) (hT : natSig.base w) :
  Calls Try.prog cuF ⟨[v, frV z, frV x]⟩ w fun e w' => CuRes z y e ∧ Below w.heap.size w w' := by
 obtain ⟨b, s, u1, u2, rfl, hgb, hbb, hs, h1, h2⟩ := hv.un
 have hsm := lin_sm hq hr hx hy
 let E := tjEnv qs rs x z y hx hz hsm b
 have hev : cuX.ev E.q = z - y := rfl
 obtain ⟨f, hf⟩ : ∃ b : Bool, b = true ↔ Fit (z - y) := by
  by_cases h : Fit (z - y)
  ·exact ⟨true, ⟨fun _ => h, fun _ => rfl⟩⟩
  ·exact ⟨false, ⟨fun q => (by cases q), fun q => absurd q h⟩⟩
 obtain ⟨eq, heq⟩ : ∃ b : Bool, b = true ↔ z - y = 0 := ⟨decide (z - y = 0), by rw [decide_eq_true_iff]⟩
 have hlt : Big.ng (z - y) = decide (z < y) := by
  rw [Bool.eq_iff_iff, decide_eq_true_iff]
  unfold Big.ng
  rw [decide_eq_true_iff, ← Int.not_le, Rat.num_nonneg, Rat.not_le]
  constructor
  ·intro h; grind
  ·intro h; grind
 have hA : AllH E (cuA eq (Big.ng (z - y)) f) := fun t ht => by
  simp only [cuA, List.mem_cons, List.not_mem_nil, or_false] at ht
  rcases ht with rfl | rfl | rfl | rfl | rfl
  ·show false = true ↔ z = 0
   exact ⟨fun h => (by cases h), fun h => by grind⟩
  ·show false = Big.ng z
   exact (pos_ng h0).symm
  ·exact heq
  ·rfl
  ·exact hf
 have hB : AllX E taB := tj_B hne hl
 have hS : SumOK (symSig E) Try.prog (sumsOf (mkTab (stS false :: ecmpS (cuA eq (Big.ng (z - y)) f) :: symList (cuA eq (Big.ng (z - y)) f)))) := sumsOf_ok fun t ht => by
  rcases List.mem_cons.1 ht with rfl | ht
  ·exact stS_ok (ρ := E) (g := false) hq hr hx hl hlr h6 hb ha hy
  rcases List.mem_cons.1 ht with rfl | ht
  ·exact ecmpS_ok hA
  ·exact symList_ok hA t ht
 have hbl : BlksAre (symSig E) w (taBl false) [b] := tab_bl false hbb hgb hs h1 h2 rfl rfl rfl rfl
 have hltb := (Array.getElem?_eq_some_iff.1 hbb).1
 have hel : (eq && Big.ng (z - y)) = false := by
  cases he : eq with
  | false => rfl
  | true =>
   have := heq.1 he
   rw [this]; rfl
 refine (tellsB_calls (us := frC z ++ frC x) (lsFits hA hB) hS (cu_runs eq _ f hel) (fun r ps qs vs us h1 h2 => h1.append (.cons (.agg (h2.take 3)) (.cons (.agg (h2.drop 3)) .nil))) (by kernel_rfl) glob_few hbl (frC2_holds (ρ := E) (.v 9) (.v 8)) hG hT (tj_hid rfl rfl) (Nat.le_of_lt hltb) (.none rfl)).mono ?_
 rintro e w' ⟨v', rfl, h1, hbe⟩
 refine ⟨?_, hbe⟩
 by_cases hle : z ≤ y
 ·have hor : (eq || Big.ng (z - y)) = true := by
   rw [hlt]
   by_cases h : z < y
   ·rw [decide_eq_true h, Bool.or_true]
   ·rw [heq.2 (by grind), Bool.true_or]
  unfold cuD at h1
  rw [hor] at h1
  exact .inl ⟨hle, by rw [cuZ_is h1]⟩
 ·have hor : (eq || Big.ng (z - y)) = false := by
   rw [hlt, decide_eq_false (by grind), Bool.or_false]
   cases he : eq with
   | false => rfl
   | true => have := heq.1 he; exact absurd (show z ≤ y by grind) hle
  unfold cuD at h1
  rw [hor] at h1
  refine .inr ⟨by grind, ?_⟩
  cases f with
  | true =>
   obtain ⟨vs, rfl, a, l1, rfl, ⟨us, rfl, a1, m1, rfl, k1, a2, m2, rfl, k2, a3, m3, rfl, k3, rfl⟩, u2, l2, rfl, h2, rfl⟩ := h1
   have k1' : a1 = .bool (Big.ng (z - y)) := k1
   have k2' : a2 = .string (bst (Big.nu (z - y))) := k2
   have k3' : a3 = .string (bst (Big.de (z - y))) := k3
   have h2' : u2 = .int .i64 0 := h2
   subst k1' k2' k3' h2'
   exact .inl ⟨hf.1 rfl, rfl⟩
  | false => exact .inr ⟨fun h => (by have := hf.2 h; cases this), by rw [cuZ_is h1]⟩
end Ev
end Go.Proofs.Ytnlhjcfpfapafaa
namespace Go.Proofs.Ytnlhjcfpfapafaa
open Go.RowKit
set_option maxRecDepth 100000 in
set_option maxHeartbeats 4000000 in
theorem rasize_any (w : World) (n : Int) (h0 : -9223372036854775808 ≤ n) (h1 : n ≤ 9223372036854775807) :
  Calls Try.prog 62 #[.int .i64 n] w (Nat1 w n.natAbs) := by
 have hM : n.natAbs < Big.M64 := by unfold Big.M64; omega
 have C := Lib.hid (of_num w n.natAbs hM)
 clear hM
 by_cases hn : n < 0
 ·obtain ⟨u, rfl⟩ : ∃ u : Nat, n = -(u : Int) := ⟨n.natAbs, by omega⟩
  have e : (-(u : Int)).natAbs = u := by omega
  rw [e] at C ⊢
  have hwr : IntKind.u64.wrap (-IntKind.u64.wrap (-(u : Int))) = (u : Int) := by rw [IntKind.wrap_u64, IntKind.wrap_u64]; omega
  clear e
  go_enter Try.func62, Try.ntmps62
  go_wp2_with fail
  refine C.out.mono ?_
  rintro e w' ⟨v', rfl, hv, hb⟩
  go_wp2_with fail
  go_ret
  exact ⟨_, rfl, hv, hb⟩
 ·obtain ⟨u, rfl⟩ : ∃ u : Nat, n = (u : Int) := ⟨n.natAbs, by omega⟩
  have e : ((u : Int)).natAbs = u := by omega
  rw [e] at C ⊢
  clear e
  go_enter Try.func62, Try.ntmps62
  go_wp2_with fail
  refine C.out.mono ?_
  rintro e w' ⟨v', rfl, hv, hb⟩
  go_wp2_with fail
  go_ret
  exact ⟨_, rfl, hv, hb⟩
def Ret2 (w : World) (v : Value) (n : Int) (e : Ending) (w' : World) : Prop := e = .returned (.tuple #[v, .int .i64 n]) ∧ Below w.heap.size w w'
theorem At3.both {w w' : World} {g : Nat} {T : TypeId} {a b c : Value} (h : At3 w g T a b c) (hb : Below w.heap.size w w') (B : Nat) (w0 : World) (hB : Below B w0 w) : At3 w' g T a b c ∧ Below B w0 w' → At3 w' g T a b c := fun _ => h.keep hb
set_option maxRecDepth 100000 in
set_option maxHeartbeats 4000000 in
theorem answer_fit (w : World) (vx : Value) (q : Rat) (k : Nat) (hx : NumIn w vx q) (sx : Sm k q) (hk : k ≤ 10000000) (hf : Fit q) :
  Calls Try.prog 60 #[vx] w (Ret2 w (fracV q) 0) := by
 have SX := Lib.hid sx; have HF := Lib.hid hf
 obtain ⟨A, l, c, A2, l2, c2, rfl, hx1, hx2⟩ := hx.is_agg
 have HX := Lib.hid (And.intro hx1 hx2)
 have HQ := Lib.hid hx
 obtain ⟨X0, R0, B0⟩ := boxed2 w 70 27 (.bool (Big.ng q)) (.slice A l c) (.slice A2 l2 c2) (.bool false) (.string ⟨#[]⟩) (.string ⟨#[]⟩)
 have HR0 := Lib.hid R0; have HB0 := Lib.hid B0
 have x0 := X0.c0; have x1 := X0.c1; have x2 := X0.c2
 have C := Lib.hid (fun W (h : Below w.heap.size w W) => exFrac_fit W _ q k (HQ.out.keep h) SX.out hk HF.out)
 clear hx hx1 hx2 sx X0 R0 B0 hf
 go_enter Try.func60, Try.ntmps60
 go_wp2_with fail
 refine (C.out _ HB0.out).mono ?_
 generalize (w.alloc (.cells #[.bool (Big.ng q), .slice A l c, .slice A2 l2 c2] 70)).alloc (.cells #[.bool false, .string ⟨#[]⟩, .string ⟨#[]⟩] 27) = w0 at *
 rintro e w1 ⟨rfl, hw1⟩
 unfold fracV
 have HB1 := Lib.hid (HB0.out.trans (hw1.mono HB0.out.size))
 have R1 := HR0.out.keep hw1
 have hlt := R1.lt
 have HD := Lib.hid ((At3.put R1 (.bool (Big.ng q)) (.string (bst (Big.nu q))) (.string (bst (Big.de q)))).alloc' (.cells #[.bool (Big.ng q), .string (bst (Big.nu q)), .string (bst (Big.de q))] 27))
 have HE := Lib.hid (below_alloc (put_below HB1.out (show w.heap.size ≤ w.heap.size + 1 by omega) (.bool (Big.ng q)) (.string (bst (Big.nu q))) (.string (bst (Big.de q)))) (Nat.le_refl _) (.cells #[.bool (Big.ng q), .string (bst (Big.nu q)), .string (bst (Big.de q))] 27))
 have k0 := R1.c0; have k1 := R1.c1; have k2 := R1.c2; have f0 := R1.frozen 0; have f1 := R1.frozen 1; have f2 := R1.frozen 2
 clear R1 hw1 x0 x1 x2 HR0 C
 go_wp2_with fail
 generalize ((((w1.setCell ⟨w.heap.size + 1, 0, none⟩ (.bool (Big.ng q))).setCell ⟨w.heap.size + 1, 1, none⟩ (.string (bst (Big.nu q)))).setCell ⟨w.heap.size + 1, 2, none⟩ (.string (bst (Big.de q)))).alloc (.cells #[.bool (Big.ng q), .string (bst (Big.nu q)), .string (bst (Big.de q))] 27)) = wz at HD HE ⊢
 clear k0 k1 k2 f0 f1 f2
 have r0 := HD.out.c0; have r1 := HD.out.c1; have r2 := HD.out.c2
 exact bodyPost_ret (v := .tuple #[.agg #[.bool (Big.ng q), .string (bst (Big.nu q)), .string (bst (Big.de q))], .int .i64 0]) (by simp [results, Try.results60, go_sem, r0, r1, r2]) rfl ⟨rfl, HE.out⟩
def ofQ (n d : Int) : Rat := mkRat (Big.sI (decide (n < 0) != decide (d < 0)) n.natAbs) d.natAbs
theorem ofQ_by {n d : Int} {k : Nat} (hn : n.natAbs < 256 ^ k) (hd : d.natAbs < 256 ^ k) (h0 : d ≠ 0) : By k (ofQ n d) := by
 obtain ⟨_, p2, p3⟩ := Big.of_parts (decide (n < 0) != decide (d < 0)) n.natAbs d.natAbs (by omega)
 unfold ofQ
 exact ⟨by rw [p2]; exact Nat.lt_of_le_of_lt (Nat.div_le_self _ _) hn, by rw [p3]; exact Nat.lt_of_le_of_lt (Nat.div_le_self _ _) hd⟩
set_option maxRecDepth 100000 in
set_option maxHeartbeats 4000000 in
theorem raOf_any (w : World) (n d : Int) (h0 : -9223372036854775808 ≤ n) (h1 : n ≤ 9223372036854775807) (h2 : -9223372036854775808 ≤ d) (h3 : d ≤ 9223372036854775807) (hd : d ≠ 0) :
  Calls Try.prog 31 #[.int .i64 n, .int .i64 d] w (Ret2 w (fracV (ofQ n d)) 0) := by
 have hb : By 8 (ofQ n d) := ofQ_by (by omega) (by omega) hd
 have HF := Lib.hid (hb.fit (by omega))
 have C1 := Lib.hid (fun W => rasize_any W n h0 h1)
 have C2 := Lib.hid (fun W => rasize_any W d h2 h3)
 have z1 : Sz 1 n.natAbs := sz_word (by unfold Big.M64; omega)
 have z2 : Sz 1 d.natAbs := sz_word (by unfold Big.M64; omega)
 have C3 := Lib.hid (fun W b v u (h : NatIn W v n.natAbs) (i : NatIn W u d.natAbs) => exOf_any W b v u n.natAbs d.natAbs 1 1 h i z1 z2 (by omega) (by omega) (by omega))
 have C4 := Lib.hid (fun W v (h : NumIn W v (ofQ n d)) => answer_fit W v _ 64 h HF.out.sm (by omega) HF.out)
 have hd0 : (d == 0) = false := beq_eq_false_iff_ne.2 hd
 have HOF := Lib.hid (show ofQ n d = mkRat (Big.sI (!(decide (n < 0) == decide (d < 0))) n.natAbs) d.natAbs from rfl)
 have HR0 := Lib.hid (At3.new w 27 (.bool false) (.string ⟨#[]⟩) (.string ⟨#[]⟩))
 have HB0 := Lib.hid (box1_below w (.cells #[.bool false, .string ⟨#[]⟩, .string ⟨#[]⟩] 27))
 clear hb z1 z2 hd h0 h1 h2 h3
 obtain ⟨Q, hQ⟩ : ∃ Q, ofQ n d = Q := ⟨_, rfl⟩
 rw [hQ] at HF C4 HOF ⊢
 clear hQ
 go_enter Try.func31, Try.ntmps31
 go_wp2_with fail
 generalize w.alloc (.cells #[.bool false, .string ⟨#[]⟩, .string ⟨#[]⟩] 27) = w0 at *
 refine (C1.out _).mono ?_
 rintro e w1 ⟨v1, rfl, hv1, hw1⟩
 go_wp2_with fail
 refine (C2.out _).mono ?_
 rintro e w2 ⟨v2, rfl, hv2, hw2⟩
 go_wp2_with fail
 refine (C3.out _ _ _ _ (hv1.keep hw2) hv2).mono ?_
 rintro e w3 ⟨v3, rfl, hv3, hw3⟩
 rw [← HOF.out] at hv3
 go_wp2_with fail
 refine (C4.out _ _ hv3).mono ?_
 rintro e w4 ⟨rfl, hw4⟩
 unfold fracV
 have b1 := HB0.out.trans (hw1.mono HB0.out.size)
 have b2 := b1.trans (hw2.mono b1.size)
 have b3 := b2.trans (hw3.mono b2.size)
 have b4 := b3.trans (hw4.mono b3.size)
 have R4 := (((HR0.out.keep hw1).keep hw2).keep hw3).keep hw4
 have HD := Lib.hid (At3.put R4 (.bool (Big.ng Q)) (.string (bst (Big.nu Q))) (.string (bst (Big.de Q))))
 have HE := Lib.hid (put_below b4 (Nat.le_refl _) (.bool (Big.ng Q)) (.string (bst (Big.nu Q))) (.string (bst (Big.de Q))))
 have k0 := R4.c0; have k1 := R4.c1; have k2 := R4.c2; have f0 := R4.frozen 0; have f1 := R4.frozen 1; have f2 := R4.frozen 2
 clear R4 b1 b2 b3 b4 hw1 hw2 hw3 hw4 hv1 hv2 hv3 C1 C2 C3 C4 HOF HR0 HB0
 go_wp2_with fail
 generalize (((w4.setCell ⟨w.heap.size, 0, none⟩ (.bool (Big.ng Q))).setCell ⟨w.heap.size, 1, none⟩ (.string (bst (Big.nu Q)))).setCell ⟨w.heap.size, 2, none⟩ (.string (bst (Big.de Q)))) = wz at HD HE ⊢
 clear k0 k1 k2 f0 f1 f2
 have r0 := HD.out.c0; have r1 := HD.out.c1; have r2 := HD.out.c2
 exact bodyPost_ret (v := .tuple #[.agg #[.bool (Big.ng Q), .string (bst (Big.nu Q)), .string (bst (Big.de Q))], .int .i64 0]) (by simp [results, Try.results31, go_sem, r0, r1, r2]) rfl ⟨rfl, HE.out⟩
end Go.Proofs.Ytnlhjcfpfapafaa
namespace Go.Proofs.Ytnlhjcfpfapafaa
open Go Go.RowKit
namespace Ev
set_option maxRecDepth 100000
set_option maxHeartbeats 2000000 in
theorem of13_any (w : World) (n d : Int) (h0 : -9223372036854775808 ≤ n) (h1 : n ≤ 9223372036854775807) (h2 : -9223372036854775808 ≤ d) (h3 : d ≤ 9223372036854775807) (hd : d ≠ 0) :
  Calls Try.prog 8 #[.int .i64 n, .int .i64 d] w fun e w' => e = .returned (fracV (ofQ n d)) ∧ Below w.heap.size w w' := by
 have HB0 := Lib.hid (box1_below w (.cells #[.bool false, .string ⟨#[]⟩, .string ⟨#[]⟩] 27))
 have HR0 := Lib.hid (At3.new w 27 (.bool false) (.string ⟨#[]⟩) (.string ⟨#[]⟩))
 have C := Lib.hid (fun W => raOf_any W n d h0 h1 h2 h3 hd)
 obtain ⟨Z, hZ⟩ : ∃ Z, ofQ n d = Z := ⟨_, rfl⟩
 rw [hZ] at C ⊢
 clear hZ hd h0 h1 h2 h3
 go_enter Try.func8, Try.ntmps8
 go_wp2_with fail
 refine (C.out _).mono ?_
 generalize w.alloc (.cells #[.bool false, .string ⟨#[]⟩, .string ⟨#[]⟩] 27) = w0 at *
 rintro e w1 ⟨rfl, hw1⟩
 unfold fracV
 have R1 := HR0.out.keep hw1
 have hlt := R1.lt
 have HB1 := Lib.hid (HB0.out.trans (hw1.mono HB0.out.size))
 have HD := Lib.hid ((At3.put R1 (.bool (Big.ng Z)) (.string (bst (Big.nu Z))) (.string (bst (Big.de Z)))).alloc' (.cells #[.bool (Big.ng Z), .string (bst (Big.nu Z)), .string (bst (Big.de Z))] 27))
 have HE := Lib.hid (below_alloc (put_below HB1.out (Nat.le_refl _) (.bool (Big.ng Z)) (.string (bst (Big.nu Z))) (.string (bst (Big.de Z)))) (Nat.le_refl _) (.cells #[.bool (Big.ng Z), .string (bst (Big.nu Z)), .string (bst (Big.de Z))] 27))
 have k0 := R1.c0; have k1 := R1.c1; have k2 := R1.c2; have f0 := R1.frozen 0; have f1 := R1.frozen 1; have f2 := R1.frozen 2
 clear R1 hw1 HR0 HB0 C
 go_wp2_with fail
 generalize ((((w1.setCell ⟨w.heap.size, 0, none⟩ (.bool (Big.ng Z))).setCell ⟨w.heap.size, 1, none⟩ (.string (bst (Big.nu Z)))).setCell ⟨w.heap.size, 2, none⟩ (.string (bst (Big.de Z)))).alloc (.cells #[.bool (Big.ng Z), .string (bst (Big.nu Z)), .string (bst (Big.de Z))] 27)) = wz at HD HE ⊢
 clear k0 k1 k2 f0 f1 f2
 have r0 := HD.out.c0; have r1 := HD.out.c1; have r2 := HD.out.c2
 exact bodyPost_ret (v := .agg #[.bool (Big.ng Z), .string (bst (Big.nu Z)), .string (bst (Big.de Z))]) (by simp [results, Try.results8, go_sem, r0, r1, r2]) rfl ⟨rfl, HE.out⟩
theorem works13_run : runsN [] 400 13 [] = some (.bool true) := by kernel_rfl
end Ev
end Go.Proofs.Ytnlhjcfpfapafaa
namespace Go.Proofs.Ytnlhjcfpfapafaa
open Go.ChangeShapes Go.WideShapes Go.ChangeAt Go.RowKit
theorem own : ownKnob Try.prog.godebug = none := by kernel_rfl
section
variable {H : Type} {enc : TypeId × Value → H} {P : Program}
end
theorem glob_size {W : World} (h : W.ShapedOpen Try.prog) : Try.prog.globals.size ≤ W.heap.size := by
 have hb : Nat.ble (Try.prog.globals.size + 1) (begin Try.prog (fun _ _ => 0) default).world.heap.size = true := by kernel_rfl
 obtain ⟨o, o0, h1, -⟩ := h.2 Try.prog.globals.size (Nat.le_refl _) (Nat.le_of_ble_eq_true hb)
 exact Nat.le_of_lt (Array.getElem?_eq_some_iff.1 h1).1
end Go.Proofs.Ytnlhjcfpfapafaa
namespace Go.Proofs.Ytnlhjcfpfapafaa
open Go Go.ChangeShapes Go.WideShapes Go.ChangeAt Go.RowKit
theorem cell_below {W W' : World} (hb : Below W.heap.size W W') {a : Addr} (h : a.block < W.heap.size) : W'.cell? a = W.cell? a := by
 unfold World.cell?
 rw [hb.block _ h]
theorem frozen_below {W W' : World} (hb : Below W.heap.size W W') {a : Addr} (h : a.block < W.heap.size) : W'.frozen? a = W.frozen? a := by
 unfold World.frozen?
 rw [hb.block _ h]
theorem cell_lt {W : World} {a : Addr} {v : Value} (h : W.cell? a = some v) : a.block < W.heap.size := by
 apply Nat.lt_of_not_le
 intro hn
 have hx : W.heap[a.block]? = none := Array.getElem?_eq_none hn
 simp [World.cell?, hx] at h
section
variable {H : Type} {enc : TypeId × Value → H} {P : Program}
theorem post_kept {f : Func} {s : ChangeSpec} {apart fresh handsOn again : Bool} {W W' : World} {args : Array Value} {v : Value} {ds gs : List (DataW H)} {before : List MemPlace}
  (hW : DataW.Whole enc P f.params.toList s.vars apart W args.toList ds gs before)
  (hres : ∀ (b : Nat) (sp : Nat → Bool) (hd : Bool), DataW.TrodAll enc P W' b sp hd f.resultTypes.toList (v.resultList f.resultTypes.size) (s.fn H (ds ++ gs)).results [])
  (hargs : ∀ sp : Nat → Bool, (∀ p ∈ before, sp p.block = true) → DataW.TrodAll enc P W' 0 sp true f.params.toList args.toList (s.fn H (ds ++ gs)).args before)
  (hvars : ∀ sp : Nat → Bool, DataW.TrodVars enc P W' sp s.vars (s.fn H (ds ++ gs)).vars [])
  (hb : Below W.heap.size W W')
  (hok : ∀ (j : Nat) (t : TypeId) (r : Value), f.resultTypes[j]? = some t → (v.resultList f.resultTypes.size)[j]? = some r → Value.okWide P W' .any 0 t r) :
  s.post enc P f apart fresh handsOn again W args v W' := by
 have hk : W.keptBut W' (fun p => p ∈ ([] : List MemPlace)) := hb.frame _
 have hold : ∀ p ∈ before, (fun b => decide (b < W.heap.size)) p.block = true := fun p hp => by simpa using hW.lt p hp
 have hlt : ∀ p ∈ before, p.block < W.heap.size := fun p hp => hW.lt p hp
 refine ⟨ds, gs, before, [], before, [], hW, hres _ _ _, hargs _ hold, hvars _, World.keptBut_mono (fun p hp => by cases hp) hk, fun _ => ?_⟩
 obtain ⟨_, _, _, _, _, hz, hn⟩ := hW
 refine ⟨hok, _, _, before, ⟨[] ++ before, [], trodAll_append (hargs _ (fun _ _ => rfl)) (hres _ _ _), hvars _, by simp, ?_, hn⟩, fun p hp _ => hp⟩
 intro b off hp
 rw [frozen_below hb (a := ⟨b, off, none⟩) (hlt _ hp)]
 exact hz b off hp
end
end Go.Proofs.Ytnlhjcfpfapafaa
namespace Go.Proofs.Ytnlhjcfpfapafaa
open Go Go.RowKit
namespace Ev
set_option maxRecDepth 100000
def StIn (lo : Nat) (w : World) (v : Value) (ss : List (Nat × Nat)) : Prop := ∃ a m, v = .slice a ss.length m ∧ (∀ p ∈ ss, p.1 < 256 ∧ p.2 < 256) ∧ (ss ≠ [] → ∃ b off cl t z, a = some ⟨b, off, none⟩ ∧ b < lo ∧ w.heap[b]? = some (.cells ⟨cl⟩ t z) ∧ ∀ i p, ss[i]? = some p → cl[off + i * 2]? = some (.int .u8 (p.1 : Int)) ∧ cl[off + i * 2 + 1]? = some (.int .u8 (p.2 : Int)))
def stpA (ss : List (Nat × Nat)) : Nat → Int
 | 0 => -3
 | k + 1 => stpA ss k + 1 + ((ss.getD k (0, 0)).1 : Int)
def stpB (ss : List (Nat × Nat)) : Nat → Int
 | 0 => 1
 | k + 1 => stpB ss k + 1 + ((ss.getD k (0, 0)).2 : Int)
def rwQ (ss : List (Nat × Nat)) (n : Nat) : List Rat := (List.range n).map fun i => ofQ (stpA ss i) 4
def rwR (ss : List (Nat × Nat)) (n : Nat) : List Rat := (List.range n).map fun i => ofQ (stpB ss i) 6
def rwC (ss : List (Nat × Nat)) (n : Nat) : List Value := (List.range n).flatMap fun i => frC (ofQ (stpA ss i) 4) ++ frC (ofQ (stpB ss i) 6)
theorem rwC_succ (ss : List (Nat × Nat)) (n : Nat) : rwC ss (n + 1) = rwC ss n ++ (frC (ofQ (stpA ss n) 4) ++ frC (ofQ (stpB ss n) 6)) := by
 unfold rwC
 rw [List.range_succ, List.flatMap_append]
 simp
theorem rwC_len (ss : List (Nat × Nat)) : ∀ n, (rwC ss n).length = n * 6
 | 0 => rfl
 | n + 1 => by
  rw [rwC_succ, List.length_append, rwC_len ss n]
  show n * 6 + 6 = (n + 1) * 6
  omega
theorem rwC_at (ss : List (Nat × Nat)) : ∀ n i, i < n → ((rwC ss n).drop (i * 6)).take 6 = frC (ofQ (stpA ss i) 4) ++ frC (ofQ (stpB ss i) 6)
 | 0, i, h => absurd h (Nat.not_lt_zero _)
 | n + 1, i, h => by
  rw [rwC_succ]
  have hl := rwC_len ss n
  by_cases e : i = n
  ·subst e
   rw [← hl, List.drop_left]
   exact List.take_of_length_le (Nat.le_refl _)
  ·rw [List.drop_append_of_le_length (by omega), List.take_append_of_le_length (by rw [List.length_drop]; omega)]
   exact rwC_at ss n i (by omega)
theorem stpA_bd {ss : List (Nat × Nat)} (h : ∀ p ∈ ss, p.1 < 256 ∧ p.2 < 256) : ∀ k, -3 ≤ stpA ss k ∧ stpA ss k ≤ -3 + 256 * k
 | 0 => by show -3 ≤ (-3 : Int) ∧ (-3 : Int) ≤ _; omega
 | k + 1 => by
  have ih := stpA_bd h k
  have hg : ((ss.getD k (0, 0)).1) < 256 := by
   rw [List.getD_eq_getElem?_getD]
   cases hk : ss[k]? with
   | none => decide
   | some p => exact (h p (List.mem_of_getElem? hk)).1
  show -3 ≤ stpA ss k + 1 + _ ∧ stpA ss k + 1 + _ ≤ _
  omega
theorem stpB_bd {ss : List (Nat × Nat)} (h : ∀ p ∈ ss, p.1 < 256 ∧ p.2 < 256) : ∀ k, 1 ≤ stpB ss k ∧ stpB ss k ≤ 1 + 256 * k
 | 0 => by show 1 ≤ (1 : Int) ∧ (1 : Int) ≤ _; omega
 | k + 1 => by
  have ih := stpB_bd h k
  have hg : ((ss.getD k (0, 0)).2) < 256 := by
   rw [List.getD_eq_getElem?_getD]
   cases hk : ss[k]? with
   | none => decide
   | some p => exact (h p (List.mem_of_getElem? hk)).2
  show 1 ≤ stpB ss k + 1 + _ ∧ stpB ss k + 1 + _ ≤ _
  omega
def RlNew (w w' : World) (v : Value) (qs rs : List Rat) : Prop := ∃ b m cl z, v = .slice (some ⟨b, 0, none⟩) qs.length m ∧ qs.length ≤ m ∧ w.heap.size ≤ b ∧ w'.heap[b]? = some (.cells ⟨cl⟩ 30 z) ∧ RowsAt cl 0 qs rs
theorem ownB (v : Value) : v.ownBlock = none ∨ v.ownBlock ≠ none := by cases v.ownBlock <;> simp
theorem news_at (w : World) (l : List Value) (t : TypeId) (j : Nat) (u : Value) (h : l[j]? = some u) : (w.alloc (.cells l.toArray t)).cell? (Addr.add ⟨w.heap.size, 0, none⟩ j) = some u := by
 have hb : (w.alloc (.cells l.toArray t)).heap[w.heap.size]? = some (.cells l.toArray t (0, 0)) := by
  show (w.heap.push _)[w.heap.size]? = _
  simp
 rw [add_off]
 simp only [World.cell?, hb]
 simpa using h
set_option maxHeartbeats 4000000 in
theorem rows_any (w : World) {ss : List (Nat × Nat)} {v : Value} {lo : Nat} (hv : StIn lo w v ss) :
  Calls Try.prog 14 #[v] w fun e w' => ∃ u, e = .returned u ∧ RlNew w w' u (rwQ ss (min ss.length 29 + 1)) (rwR ss (min ss.length 29 + 1)) ∧ Below w.heap.size w w' := by
 obtain ⟨sa, sm, rfl, hbd, hcell⟩ := hv
 have hi0 : (Try.prog.info? 30).map (fun i => (i.zero.map Value.cells, i.size, i.bytes)) = some (some #[.bool false, .string ⟨#[]⟩, .string ⟨#[]⟩, .bool false, .string ⟨#[]⟩, .string ⟨#[]⟩], 6, 80) := by kernel_rfl
 obtain ⟨i0, hi, hi1⟩ := Option.map_eq_some_iff.1 hi0
 simp only [Prod.mk.injEq] at hi1
 obtain ⟨hz4, hz1, hz2⟩ := hi1
 obtain ⟨z0, hz0, hz3⟩ := Option.map_eq_some_iff.1 hz4
 have hz5 : z0.cells.size = 6 := by rw [hz3]; rfl
 have CA : ∀ (W : World) (n : Int), -10000 ≤ n ∧ n ≤ 10000 → Calls Try.prog 8 #[.int .i64 n, .int .i64 4] W fun e w' => e = .returned (.agg #[.bool (Big.ng (ofQ n 4)), .string (bst (Big.nu (ofQ n 4))), .string (bst (Big.de (ofQ n 4)))]) ∧ Below W.heap.size W w' := fun W n h => of13_any W n 4 (by omega) (by omega) (by omega) (by omega) (by omega)
 have CB : ∀ (W : World) (n : Int), -10000 ≤ n ∧ n ≤ 10000 → Calls Try.prog 8 #[.int .i64 n, .int .i64 6] W fun e w' => e = .returned (.agg #[.bool (Big.ng (ofQ n 6)), .string (bst (Big.nu (ofQ n 6))), .string (bst (Big.de (ofQ n 6)))]) ∧ Below W.heap.size W w' := fun W n h => of13_any W n 6 (by omega) (by omega) (by omega) (by omega) (by omega)
 replace CA := Lib.hid CA; replace CB := Lib.hid CB
 have HBD := Lib.hid hbd
 have HCE := Lib.hid hcell
 obtain ⟨N, hN⟩ : ∃ N, N = ss.length := ⟨_, rfl⟩
 rw [← hN]
 have HNN := Lib.hid hN
 clear hbd hcell hz3 hz4 hi0 hN
 go_enter Try.func14, Try.ntmps14
 go_wp2_with (go_at_call 8; with_reducible refine (CA.out _ _ ⟨by omega, by omega⟩).mono ?_; rintro e w1 ⟨rfl, hw1⟩)
 have HB1 := Lib.hid hw1
 clear hw1
 go_wp2_with (go_at_call 8; with_reducible refine (CB.out _ _ ⟨by omega, by omega⟩).mono ?_; rintro e w2 ⟨rfl, hw2⟩)
 have HB2 := Lib.hid (HB1.out.trans (hw2.mono HB1.out.size))
 clear hw2
 go_loopw [3, 4, 5, 6] (fun a b o i wr => ∃ (k : Nat) (A B : Int), k ≤ 29 ∧ k ≤ N ∧ i = .int .i64 k ∧ a = .int .i64 A ∧ b = .int .i64 B ∧ Hid (A = stpA ss k ∧ B = stpB ss k) ∧ -3 ≤ A ∧ A ≤ 8000 ∧ 1 ≤ B ∧ B ≤ 8000 ∧ Hid (wr.ownsRow w.heap.size 30 6 o (k + 1) (rwC ss (k + 1))) ∧ Hid (Below w.heap.size w wr)) (fun _ _ _ i _ => 29 - (intOf i).toNat)
 case atStart =>
  refine ⟨0, -3, 1, by omega, by omega, rfl, rfl, rfl, Lib.hid ⟨rfl, rfl⟩, by omega, by omega, by omega, by omega, Lib.hid ⟨rfl, .inr ⟨w2.heap.size, 1, _, rfl, HB2.out.size, heap_alloc_new _ _, Nat.le_refl _, by unfold maxLen; omega, rfl, rfl⟩⟩, Lib.hid (HB2.out.alloc HB2.out.size _)⟩
 case round =>
  obtain ⟨k, A, B, hk, hkN, rfl, rfl, rfl, HAB, hA1, hA2, hB1, hB2, HO, HB⟩ := hrel
  by_cases hkl : k < 29 ∧ k < N
  ·have hne : ss ≠ [] := fun q => by
    have := HNN.out
    rw [q] at this
    have : N = 0 := this
    omega
   obtain ⟨b, off, cl, ct, cz, rfl, _, hheap, hcs0⟩ := HCE.out hne
   have hlt := (Array.getElem?_eq_some_iff.1 hheap).1
   have hcs : ∀ i p, ss[i]? = some p → w.cell? ⟨b, off + i * 2, none⟩ = some (.int .u8 (p.1 : Int)) ∧ w.cell? ⟨b, off + i * 2 + 1, none⟩ = some (.int .u8 (p.2 : Int)) := fun i p hp => by
    obtain ⟨g1, g2⟩ := hcs0 i p hp
    constructor
    ·simp only [World.cell?, hheap]
     simpa using g1
    ·simp only [World.cell?, hheap]
     simpa using g2
   clear hcs0 hheap
   have hks : k < ss.length := by have := HNN.out; omega
   obtain ⟨p, hp⟩ : ∃ p, ss[k]? = some p := ⟨_, List.getElem?_eq_getElem hks⟩
   obtain ⟨hc1, hc2⟩ := hcs k p hp
   have hpb := HBD.out p (List.mem_of_getElem? hp)
   rw [← cell_below HB.out (a := ⟨b, off + k * 2, none⟩) hlt] at hc1
   rw [← cell_below HB.out (a := ⟨b, off + k * 2 + 1, none⟩) hlt] at hc2
   have hgd : ss.getD k (0, 0) = p := by rw [List.getD_eq_getElem?_getD, hp]; rfl
   have HP := Lib.hid (And.intro hp hgd)
   obtain ⟨p1, p2⟩ := p
   simp only at hc1 hc2 hpb
   obtain ⟨hp1, hp2⟩ := hpb
   have hk1 : (k : Int) < (N : Int) := by omega
   have hk2 : (k : Int) < 29 := by omega
   clear hp hgd hcs
   go_wp2_with (go_at_call 8; with_reducible refine (CA.out _ _ ⟨by omega, by omega⟩).mono ?_; rintro e w3 ⟨rfl, hw3⟩)
   have HW3 := Lib.hid hw3
   clear hw3
   refine (CB.out _ _ ⟨by omega, by omega⟩).mono ?_
   rintro e w4 ⟨rfl, hw4⟩
   have HW4 := Lib.hid (HW3.out.trans (hw4.mono HW3.out.size))
   clear hw4
   have HB4 := Lib.hid (HB.out.trans (HW4.out.mono HB.out.size))
   have HO4 := Lib.hid (World.ownsRow.kept HO.out (row := none) ⟨HW4.out.os, HW4.out.tape, HW4.out.output, HW4.out.size, fun k hk _ => HW4.out.block k hk⟩ (ownB _))
   have hzA := HB4.out.size
   obtain ⟨QA, hQA⟩ : ∃ q, ofQ (A + 1 + p1) 4 = q := ⟨_, rfl⟩
   obtain ⟨QB, hQB⟩ : ∃ q, ofQ (B + 1 + p2) 6 = q := ⟨_, rfl⟩
   rw [hQA, hQB]
   have HQ := Lib.hid (And.intro hQA hQB)
   clear hQA hQB hc1 hc2
   have HO5 := Lib.hid (HO4.out.alloc (.cells (frC QA ++ frC QB).toArray 30))
   have HN5 := Lib.hid (fun j u h => news_at w4 (frC QA ++ frC QB) 30 j u h)
   go_wp2_with (at_builtin; refine wpList_append_own _ rfl _ _ 34 rfl w.heap.size 30 i0 z0 6 80 Try.underlying34 hi hz0 hz1 hz2 hz5 (by decide) _ _ _ rfl HO5.out ⟨w4.heap.size, 0, none⟩ 1 1 (frC QA ++ frC QB) rfl rfl HN5.out (by intro u' hu'; simp [frC] at hu'; rcases hu' with h | h | h | h | h | h <;> rw [h] <;> rfl) (by unfold maxLen; omega) (by omega) (by simp; omega) ?_)
   intro v1 w5 hown hgrow _
   have HO6 := Lib.hid hown
   have HB6 := Lib.hid ((HB4.out.alloc HB4.out.size (.cells (frC QA ++ frC QB).toArray 30)).grown hgrow (by simp; omega) (fun k hk => (HO.out.lt k hk).1))
   clear hown hgrow
   go_wp2_with fail
   go_roundw
   case rel =>
    have hgd := HP.out.2
    refine ⟨k + 1, A + 1 + p1, B + 1 + p2, by omega, by omega, by go_num, rfl, rfl, Lib.hid ⟨?_, ?_⟩, by omega, ?_, by omega, ?_, Lib.hid ?_, HB6⟩
    ·show _ = stpA ss k + 1 + ((ss.getD k (0, 0)).1 : Int)
     rw [hgd, ← HAB.out.1]
    ·show _ = stpB ss k + 1 + ((ss.getD k (0, 0)).2 : Int)
     rw [hgd, ← HAB.out.2]
    ·have h1 := stpA_bd HBD.out (k + 1)
     have h2 : stpA ss (k + 1) = A + 1 + p1 := by
      show stpA ss k + 1 + ((ss.getD k (0, 0)).1 : Int) = _
      rw [hgd, ← HAB.out.1]
     omega
    ·have h1 := stpB_bd HBD.out (k + 1)
     have h2 : stpB ss (k + 1) = B + 1 + p2 := by
      show stpB ss k + 1 + ((ss.getD k (0, 0)).2 : Int) = _
      rw [hgd, ← HAB.out.2]
     omega
    ·have h1 := HO6.out
     have h2 : stpA ss (k + 1) = A + 1 + p1 := by
      show stpA ss k + 1 + ((ss.getD k (0, 0)).1 : Int) = _
      rw [hgd, ← HAB.out.1]
     have h3 : stpB ss (k + 1) = B + 1 + p2 := by
      show stpB ss k + 1 + ((ss.getD k (0, 0)).2 : Int) = _
      rw [hgd, ← HAB.out.2]
     rw [rwC_succ, h2, h3, HQ.out.1, HQ.out.2]
     exact h1
   case measure => simp [intOf]; omega
  ·have hkm : k = min N 29 := by omega
   have HKM := Lib.hid hkm
   clear hkm
   have fin : ∀ u, wr.ownsRow w.heap.size 30 6 u (k + 1) (rwC ss (k + 1)) → RlNew w wr u (rwQ ss (k + 1)) (rwR ss (k + 1)) := fun u hu => by
    rcases hu.2 with ⟨_, h⟩ | ⟨g, cap, cur, rfl, hb, hg, hn, _, hs, ht⟩
    ·omega
    ·refine ⟨g, cap, cur.toList, _, by simp [rwQ], by simp [rwQ]; exact hn, hb, hg, by simp [rwQ, rwR], fun i q p h1 h2 => ?_⟩
     have hil : i < k + 1 := by
      have := (List.getElem?_eq_some_iff.1 h1).1
      simpa [rwQ] using this
     have e1 : q = ofQ (stpA ss i) 4 := by
      simp only [rwQ, List.getElem?_map, List.getElem?_range hil, Option.map_some, Option.some.injEq] at h1
      exact h1.symm
     have e2 : p = ofQ (stpB ss i) 6 := by
      simp only [rwR, List.getElem?_map, List.getElem?_range hil, Option.map_some, Option.some.injEq] at h2
      exact h2.symm
     rw [e1, e2, ← rwC_at ss (k + 1) i hil, ← ht, Nat.zero_add, List.drop_take, List.take_take, Nat.min_eq_left (by omega)]
   have FIN := Lib.hid fin
   clear fin
   by_cases hkN2 : k < N
   ·have hk1 : (k : Int) < (N : Int) := by omega
    have hk2 : ¬ (k : Int) < 29 := by omega
    go_wp2_with fail
    go_ret
    rw [← HKM.out]
    exact ⟨_, rfl, FIN.out _ HO.out, HB.out⟩
   ·have hk1 : ¬ (k : Int) < (N : Int) := by omega
    go_wp2_with fail
    go_ret
    rw [← HKM.out]
    exact ⟨_, rfl, FIN.out _ HO.out, HB.out⟩
theorem rises_lt {qs : List Rat} (h : Rises qs) {i : Nat} : ∀ {j : Nat}, i < j → j < qs.length → qs.getD i 0 < qs.getD j 0
 | 0, h1, _ => absurd h1 (Nat.not_lt_zero _)
 | j + 1, h1, h2 => by
  have h3 := h j h2
  by_cases e : i = j
  ·subst e; exact h3
  ·have h4 := rises_lt h (i := i) (j := j) (by omega) (by omega)
   grind
def PlAt (qs : List Rat) (x : Rat) (c : Nat) : Prop := c ≤ qs.length ∧ (∀ t, t < c → qs.getD t 0 < x) ∧ (∀ t, c ≤ t → t < qs.length → ¬ qs.getD t 0 < x)
theorem place {qs : List Rat} (h : Rises qs) (x : Rat) : ∃ c, PlAt qs x c := by
 have key : ∀ n, n ≤ qs.length → ∃ c, c ≤ n ∧ (∀ t, t < c → qs.getD t 0 < x) ∧ (∀ t, c ≤ t → t < n → ¬ qs.getD t 0 < x) := by
  intro n
  induction n with
  | zero => intro _; exact ⟨0, Nat.le_refl _, fun t ht => absurd ht (Nat.not_lt_zero _), fun t _ ht => absurd ht (Nat.not_lt_zero _)⟩
  | succ n ih =>
   intro hn
   obtain ⟨c, h1, h2, h3⟩ := ih (by omega)
   by_cases hc : c < n
   ·refine ⟨c, by omega, h2, fun t ht1 ht2 => ?_⟩
    by_cases e : t = n
    ·subst e
     have h4 := rises_lt h hc (by omega)
     have h5 := h3 c (Nat.le_refl _) hc
     grind
    ·exact h3 t ht1 (by omega)
   ·obtain rfl : c = n := by omega
    by_cases hx : qs.getD c 0 < x
    ·refine ⟨c + 1, Nat.le_refl _, fun t ht => ?_, fun t ht1 ht2 => by omega⟩
     by_cases e : t = c
     ·subst e; exact hx
     ·exact h2 t (by omega)
    ·refine ⟨c, by omega, h2, fun t ht1 ht2 => ?_⟩
     obtain rfl : t = c := by omega
     exact hx
 obtain ⟨c, h1, h2, h3⟩ := key qs.length (Nat.le_refl _)
 exact ⟨c, h1, h2, h3⟩
theorem PlAt.eq {qs : List Rat} {x : Rat} {c d : Nat} (h : PlAt qs x c) (k : PlAt qs x d) : c = d := by
 obtain ⟨h1, h2, h3⟩ := h
 obtain ⟨k1, k2, k3⟩ := k
 rcases Nat.lt_trichotomy c d with q | q | q
 ·exact absurd (k2 c q) (h3 c (Nat.le_refl _) (by omega))
 ·exact q
 ·exact absurd (h2 d q) (k3 d (Nat.le_refl _) (by omega))
theorem rat_div_mul {a b : Rat} (h : b ≠ 0) : a / b * b = a := by grind
section
variable {qs rs : List Rat} {x y : Rat} {c : Nat}
theorem lin_some (hq : Rises qs) (hc : PlAt qs x c) (h : linAt qs rs x c = some y) : c < qs.length ∧ ((qs.getD c 0 = x ∧ y = rs.getD c 0) ∨ (0 < c ∧ qs.getD (c - 1) 0 < x ∧ x < qs.getD c 0 ∧ y = rs.getD (c - 1) 0 + (rs.getD c 0 - rs.getD (c - 1) 0) * (x - qs.getD (c - 1) 0) / (qs.getD c 0 - qs.getD (c - 1) 0))) := by
 obtain ⟨h1, h2, h3⟩ := hc
 unfold linAt at h
 by_cases e : c = qs.length
 ·rw [if_pos e] at h; cases h
 rw [if_neg e] at h
 refine ⟨by omega, ?_⟩
 by_cases e2 : qs.getD c 0 = x
 ·rw [if_pos e2] at h; cases h; exact .inl ⟨e2, rfl⟩
 rw [if_neg e2] at h
 by_cases e3 : c = 0
 ·rw [if_pos e3] at h; cases h
 rw [if_neg e3] at h
 cases h
 have h4 := h3 c (Nat.le_refl _) (by omega)
 exact .inr ⟨by omega, h2 (c - 1) (by omega), by grind, rfl⟩
theorem mid_lt {a b p q x : Rat} (h1 : a < x) (h2 : x < b) (h3 : p < q) : p < p + (q - p) * (x - a) / (b - a) ∧ p + (q - p) * (x - a) / (b - a) < q := by
 have hd : 0 < b - a := by grind
 have hn : 0 < (q - p) * (x - a) := Rat.mul_pos (by grind) (by grind)
 have hm : (q - p) * (x - a) < (q - p) * (b - a) := Rat.mul_lt_mul_of_pos_left (by grind) (by grind)
 obtain ⟨t, ht⟩ : ∃ t, t = (q - p) * (x - a) / (b - a) := ⟨_, rfl⟩
 have ht2 : t * (b - a) = (q - p) * (x - a) := by rw [ht]; exact rat_div_mul (by grind)
 rw [← ht]
 have h0 : 0 < t := by
  apply Rat.not_le.1
  intro hle
  have := Rat.mul_le_mul_of_nonneg_right hle (Rat.le_of_lt hd)
  grind
 have h5 : t < q - p := by
  apply Rat.not_le.1
  intro hle
  have := Rat.mul_le_mul_of_nonneg_right hle (Rat.le_of_lt hd)
  grind
 constructor <;> grind
theorem mid_back {a b p q x : Rat} (h1 : a < b) (h3 : p < q) : a + (b - a) * (p + (q - p) * (x - a) / (b - a) - p) / (q - p) = x := by
 obtain ⟨t, ht⟩ : ∃ t, t = (q - p) * (x - a) / (b - a) := ⟨_, rfl⟩
 have ht2 : t * (b - a) = (q - p) * (x - a) := by rw [ht]; exact rat_div_mul (by grind)
 rw [← ht]
 have e : (b - a) * (p + t - p) = (x - a) * (q - p) := by grind
 rw [e]
 have : (x - a) * (q - p) / (q - p) = x - a := by
  have hd : q - p ≠ 0 := by grind
  grind
 grind
theorem mid_mono {a b p q x1 x2 : Rat} (h1 : a < b) (h3 : p < q) (h : x1 < x2) : p + (q - p) * (x1 - a) / (b - a) < p + (q - p) * (x2 - a) / (b - a) := by
 obtain ⟨t, ht⟩ : ∃ t, t = (q - p) * (x1 - a) / (b - a) := ⟨_, rfl⟩
 obtain ⟨u, hu⟩ : ∃ u, u = (q - p) * (x2 - a) / (b - a) := ⟨_, rfl⟩
 have ht2 : t * (b - a) = (q - p) * (x1 - a) := by rw [ht]; exact rat_div_mul (by grind)
 have hu2 : u * (b - a) = (q - p) * (x2 - a) := by rw [hu]; exact rat_div_mul (by grind)
 rw [← ht, ← hu]
 have hm : (q - p) * (x1 - a) < (q - p) * (x2 - a) := Rat.mul_lt_mul_of_pos_left (by grind) (by grind)
 have : t < u := by
  apply Rat.not_le.1
  intro hle
  have := Rat.mul_le_mul_of_nonneg_right hle (Rat.le_of_lt (show 0 < b - a by grind))
  grind
 grind
end
section
variable {qs rs : List Rat} {x y x2 y2 : Rat} {c c2 : Nat}
theorem rises_le {qs : List Rat} (h : Rises qs) {i j : Nat} (h1 : i ≤ j) (h2 : j < qs.length) : qs.getD i 0 ≤ qs.getD j 0 := by
 by_cases e : i = j
 ·subst e; exact Rat.le_refl
 ·exact Rat.le_of_lt (rises_lt h (by omega) h2)
theorem lin_iff (hq : Rises qs) (hne : qs ≠ []) (hc : PlAt qs x c) : (linAt qs rs x c ≠ none) ↔ (qs.getD 0 0 ≤ x ∧ x ≤ qs.getD (qs.length - 1) 0) := by
 have hp : 0 < qs.length := List.length_pos_iff.2 hne
 obtain ⟨h1, h2, h3⟩ := hc
 unfold linAt
 by_cases e : c = qs.length
 ·rw [if_pos e]
  have := h2 (qs.length - 1) (by omega)
  constructor
  ·intro h; exact absurd rfl h
  ·intro h; grind
 rw [if_neg e]
 have hcc := h3 c (Nat.le_refl _) (by omega)
 have hl := rises_le hq (show c ≤ qs.length - 1 by omega) (by omega)
 have h0 := rises_le hq (show 0 ≤ c by omega) (show c < qs.length by omega)
 by_cases e2 : qs.getD c 0 = x
 ·rw [if_pos e2]
  constructor
  ·intro _; constructor <;> grind
  ·intro _ h; cases h
 rw [if_neg e2]
 by_cases e3 : c = 0
 ·rw [if_pos e3]
  subst e3
  constructor
  ·intro h; exact absurd rfl h
  ·intro h; grind
 rw [if_neg e3]
 have hb := h2 0 (by omega)
 constructor
 ·intro _; constructor <;> grind
 ·intro _ h; cases h
theorem lin_place (hq : Rises qs) (hr : Rises rs) (hlr : rs.length = qs.length) (hc : PlAt qs x c) (h : linAt qs rs x c = some y) : PlAt rs y c ∧ (0 < c → rs.getD (c - 1) 0 < y) ∧ y ≤ rs.getD c 0 ∧ (qs.getD c 0 ≠ x → y ≠ rs.getD c 0) := by
 obtain ⟨hcl, h1⟩ := lin_some hq hc h
 have main : (0 < c → rs.getD (c - 1) 0 < y) ∧ y ≤ rs.getD c 0 ∧ (qs.getD c 0 ≠ x → y ≠ rs.getD c 0) := by
  rcases h1 with ⟨e, rfl⟩ | ⟨h0, ha, hb, rfl⟩
  ·exact ⟨fun h0 => rises_lt hr (by omega) (by omega), Rat.le_refl, fun q => absurd e q⟩
  ·have hm := mid_lt ha hb (rises_lt hr (show c - 1 < c by omega) (show c < rs.length by omega))
   exact ⟨fun _ => hm.1, Rat.le_of_lt hm.2, fun _ => by have := hm.2; grind⟩
 refine ⟨⟨by omega, fun t ht => ?_, fun t ht1 ht2 => ?_⟩, main⟩
 ·have := main.1 (by omega)
  have := rises_le hr (show t ≤ c - 1 by omega) (by omega)
  grind
 ·have := main.2.1
  have := rises_le hr ht1 ht2
  grind
theorem lin_back (hq : Rises qs) (hr : Rises rs) (hlr : rs.length = qs.length) (hc : PlAt qs x c) (h : linAt qs rs x c = some y) : linAt rs qs y c = some x := by
 obtain ⟨hp, m1, m2, m3⟩ := lin_place hq hr hlr hc h
 obtain ⟨hcl, h1⟩ := lin_some hq hc h
 unfold linAt
 rw [if_neg (by omega)]
 rcases h1 with ⟨e, rfl⟩ | ⟨h0, ha, hb, hy⟩
 ·rw [if_pos rfl, e]
 ·rw [if_neg (fun e => m3 (by grind) e.symm), if_neg (by omega), hy]
  congr 1
  exact mid_back (by grind) (rises_lt hr (show c - 1 < c by omega) (show c < rs.length by omega))
theorem lin_mono (hq : Rises qs) (hr : Rises rs) (hlr : rs.length = qs.length) (hc : PlAt qs x c) (hc2 : PlAt qs x2 c2) (h : linAt qs rs x c = some y) (h2 : linAt qs rs x2 c2 = some y2) (hlt : x < x2) : y < y2 := by
 obtain ⟨hp, m1, m2, m3⟩ := lin_place hq hr hlr hc h
 obtain ⟨hp2, n1, n2, n3⟩ := lin_place hq hr hlr hc2 h2
 obtain ⟨hcl, k1⟩ := lin_some hq hc h
 obtain ⟨hcl2, k2⟩ := lin_some hq hc2 h2
 have hcc : c ≤ c2 := by
  apply Nat.le_of_not_lt
  intro q
  have := hc.2.1 c2 q
  have := hc2.2.2 c2 (Nat.le_refl _) (by omega)
  grind
 by_cases e : c = c2
 ·subst e
  rcases k1 with ⟨e1, rfl⟩ | ⟨h0, ha, hb, hy⟩
  ·rcases k2 with ⟨e2, _⟩ | ⟨_, _, hb2, _⟩ <;> grind
  ·rcases k2 with ⟨e2, rfl⟩ | ⟨_, ha2, hb2, hy2⟩
   ·have := m3 (by grind)
    grind
   ·rw [hy, hy2]
    exact mid_mono (by grind) (rises_lt hr (show c - 1 < c by omega) (show c < rs.length by omega)) hlt
 ·have := n1 (by omega)
  have := rises_le hr (show c ≤ c2 - 1 by omega) (by omega)
  grind
theorem lin_ge (hq : Rises qs) (hr : Rises rs) (hlr : rs.length = qs.length) (hc : PlAt qs x c) (h : linAt qs rs x c = some y) : rs.getD 0 0 ≤ y := by
 obtain ⟨hp, m1, m2, m3⟩ := lin_place hq hr hlr hc h
 obtain ⟨hcl, k1⟩ := lin_some hq hc h
 by_cases e : c = 0
 ·subst e
  rcases k1 with ⟨_, rfl⟩ | ⟨h0, _⟩
  ·exact Rat.le_refl
  ·omega
 ·have := m1 (by omega)
  have := rises_le hr (show 0 ≤ c - 1 by omega) (by omega)
  grind
theorem lin_eleven (hq : ∀ q ∈ qs, Sm 1 q) (hr : ∀ q ∈ rs, Sm 1 q) (hx : Sm 1 x) (h : linAt qs rs x c = some y) : Sm 11 y := by
 have g : ∀ (l : List Rat) (i : Nat), (∀ q ∈ l, Sm 1 q) → Sm 1 (l.getD i 0) := fun l i hl => by
  rw [List.getD_eq_getElem?_getD]
  cases hi : l[i]? with
  | none => exact sm_zero (Nat.le_refl _)
  | some q => exact hl q (List.mem_of_getElem? hi)
 unfold linAt at h
 split at h
 ·cases h
 split at h
 ·cases h; exact (g rs c hr).up (by omega)
 split at h
 ·cases h
 ·cases h
  refine (sm_add1 (k := 1) (j := 9) (g rs _ hr) ?_).up (by omega)
  by_cases h0 : Big.nu (qs.getD c 0 - qs.getD (c - 1) 0) = 0
  ·rw [Big.nu_zero.1 h0, Rat.div_def, Rat.inv_zero, Rat.mul_zero]
   exact sm_zero (by omega)
  ·rw [Rat.div_def]
   exact ((sm_sub (g rs _ hr) (g rs _ hr)).mul (sm_sub hx (g qs _ hq))).mul ((sm_sub (g qs _ hq) (g qs _ hq)).inv h0)
end
end Ev
end Go.Proofs.Ytnlhjcfpfapafaa
