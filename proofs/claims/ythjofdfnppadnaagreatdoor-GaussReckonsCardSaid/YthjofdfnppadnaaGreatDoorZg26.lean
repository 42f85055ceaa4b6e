/- Contracts, in this order: ref02.Conj: a mirrored number; as runs over numbers told by  · gauss: norms, mirrored numbers, quotients: by runs; of any n · diapasonlaw02.GaussLaws, run over all that may come. · diapasonlaw02.GaussLaws, run over all numbers that may be. · diapasonlaw02.GaussLaws answers true. · diapasonlaw02.GaussNorms, run over all that may come. · ref02.Two: sums, differences, products, quotients of complex · diapasonlaw02.GaussNorms answers true. -/
import Derived.Test.YthjofdfnppadnaaGreatDoorZg25
namespace Go.Proofs.YthjofdfnppadnaaGreatDoor
open Go Go.RowKit
namespace Ev
set_option maxRecDepth 100000
noncomputable def pairIn (is : List Nat) (ps _vs : List Value) : List Value := [.agg ⟨sel is ps⟩]
theorem pairIn_ok (is : List Nat) (r : Ren) (ps qs vs us : List Value) (hp : VsR r ps qs) (_ : VsR r vs us) : VsR r (pairIn is ps vs) (pairIn is qs us) := .cons (.agg (sel_ok hp is)) .nil
noncomputable def cjT (n d : Xe) (z : Bool) : List Xs := [⟨1, n, x0, z⟩, ⟨1, d, x0, false⟩]
noncomputable def cjO (t z : Bool) (n d : Xe) : E3 Wf := .agg [.o 0, .b 102 [.p (.bool (!t && !z)), .f (.wd n), .p (.bool false), .f (.wd d)]]
theorem rconj_run (s t z : Bool) (h : (t && z) = false) : tellsB [blkR s xv x1, blkR t x2 x3] [] (pairIn [0, 1]) (call Tryz.prog (wCfg (cjT x2 x3 z)) (wSums (cjT x2 x3 z)) 60 170) = some (cjO t z x2 x3) := by
  cases t <;> cases z <;> first | (cases h; done) | (cases s <;> kernel_rfl)
theorem rconj_self (t z : Bool) (h : (t && z) = false) : tellsB [blkR t xv x1] [] (pairIn [0, 0]) (call Tryz.prog (wCfg (cjT xv x1 z)) (wSums (cjT xv x1 z)) 60 170) = some (cjO t z xv x1) := by
  cases t <;> cases z <;> first | (cases h; done) | kernel_rfl
section
variable {w : World} {x y : Value} {p q : Rat}
theorem cj_is {ρ : XEnv} {b : Nat} {bs : List Nat} {w' : World} {v : Value} {n d : Xe} (hn : n.ev ρ.q = Big.nu q) (hd : d.ev ρ.q = Big.de q) (hG : Tryz.prog.globals.size ≤ w.heap.size) (h : (cjO (Big.ng q) (decide (Big.nu q = 0)) n d).is (wSig ρ) w.heap.size (b :: bs) w' v) :
    ∃ u, v = .agg ⟨[.pointer (some ⟨b, 0, none⟩), u]⟩ ∧ RatIn w' u (-q) := by
  obtain ⟨vs, rfl, v1, l1, rfl, ⟨b1, hb1, rfl⟩, v2, l2, rfl, ⟨b2, us, rfl, hge, hh, y1, m1, rfl, k1, y2, m2, rfl, k2, y3, m3, rfl, k3, y4, m4, rfl, k4, k5⟩, h3⟩ := h
  obtain rfl : l2 = [] := h3
  obtain rfl : m4 = [] := k5
  obtain rfl : y1 = .bool (!Big.ng q && !decide (Big.nu q = 0)) := k1
  obtain rfl : y3 = .bool false := k3
  have k2' : R.Nin w' y2 (Big.nu q) := hn ▸ k2
  have k4' : R.Nin w' y4 (Big.de q) := hd ▸ k4
  simp only [List.getElem?_cons_zero, Option.some.injEq] at hb1
  subst hb1
  obtain ⟨e1, e2, e3⟩ := Big.neg_parts q
  refine ⟨_, rfl, b2, rfl, Nat.le_trans hG hge, y2, y4, ?_, by rw [e2]; exact k2', by rw [e3]; exact k4'⟩
  have hs : Big.ng (-q) = (!Big.ng q && !decide (Big.nu q = 0)) := by
    rw [e1]
    rcases Nat.eq_zero_or_pos (Big.nu q) with h | h
    · simp [h]
    · have : ¬ Big.nu q = 0 := by omega
      simp [this, h]
  rw [hs]; exact hh
theorem rconj_any (hx : RatIn w x p) (hy : RatIn w y q) (bp : RB p) (bq : RB q) (hG : Tryz.prog.globals.size ≤ w.heap.size) (hT : Tab w) :
    Calls Tryz.prog 170 ⟨[.agg ⟨[x, y]⟩]⟩ w fun e w' => ∃ u, e = .returned (.agg ⟨[x, u]⟩) ∧ RatIn w' u (-q) ∧ Below w.heap.size w w' := by
  have hx0 := hx
  obtain ⟨b1, rfl, g1, u1, d1, hb1, hu1, hd1⟩ := hx
  have hy0 := hy
  obtain ⟨b2, rfl, g2, u2, d2, hb2, hu2, hd2⟩ := hy
  have hz : (Big.ng q && decide (Big.nu q = 0)) = false := by
    rw [Bool.and_eq_false_iff, decide_eq_false_iff_not]
    cases hn : Big.ng q with
    | false => exact .inl rfl
    | true => exact .inr fun h0 => by rw [Big.nu_zero.1 h0] at hn; cases hn
  by_cases hbb : b1 = b2
  · subst hbb
    obtain ⟨ρ, e0, e1⟩ : ∃ ρ : XEnv, ρ.q 0 = Big.nu q ∧ ρ.q 1 = Big.de q := ⟨xenv [Big.nu q, Big.de q] (by intro n hn; simp only [List.mem_cons, List.not_mem_nil, or_false] at hn; rcases hn with rfl | rfl; exact bq.1; exact bq.2), rfl, rfl⟩
    rw [← e0] at hu2
    rw [← e1] at hd2
    have hA : AllX ρ (cjT xv x1 (decide (Big.nu q = 0))) := allX_cons (holds1 (by rw [decide_eq_true_iff, ← e0]; rfl)) (allX_cons (holds1 (not_nought (by show 0 < ρ.q 1; rw [e1]; exact de_pos q))) (allX_nil ρ))
    refine (tellsB_calls (wFits hA) (wSums_ok hA) (rconj_self (Big.ng q) _ hz) (pairIn_ok _) (by kernel_rfl) glob_lim (bs := [b1]) (us := []) ⟨b1, [], rfl, blkR_are (n := xv) (d := x1) hb2 hu2 hd2, by simp, g1, rfl⟩ rfl hG hT).mono ?_
    rintro e w' ⟨v, rfl, hv, hb⟩
    obtain ⟨u, rfl, hu⟩ := cj_is (ρ := ρ) (n := xv) (d := x1) (q := q) e0 e1 hG hv
    exact ⟨u, rfl, hu, hb⟩
  · obtain ⟨ρ, e0, e1, e2, e3⟩ : ∃ ρ : XEnv, ρ.q 0 = Big.nu p ∧ ρ.q 1 = Big.de p ∧ ρ.q 2 = Big.nu q ∧ ρ.q 3 = Big.de q := ⟨xenv [Big.nu p, Big.de p, Big.nu q, Big.de q] (by intro n hn; simp only [List.mem_cons, List.not_mem_nil, or_false] at hn; rcases hn with rfl | rfl | rfl | rfl; exact bp.1; exact bp.2; exact bq.1; exact bq.2), rfl, rfl, rfl, rfl⟩
    rw [← e0] at hu1
    rw [← e1] at hd1
    rw [← e2] at hu2
    rw [← e3] at hd2
    have hA : AllX ρ (cjT x2 x3 (decide (Big.nu q = 0))) := allX_cons (holds1 (by rw [decide_eq_true_iff, ← e2]; rfl)) (allX_cons (holds1 (not_nought (by show 0 < ρ.q 3; rw [e3]; exact de_pos q))) (allX_nil ρ))
    refine (tellsB_calls (wFits hA) (wSums_ok hA) (rconj_run (Big.ng p) (Big.ng q) _ hz) (pairIn_ok _) (by kernel_rfl) glob_lim (bs := [b1, b2]) (us := []) ⟨b1, [b2], rfl, blkR_are (n := xv) (d := x1) hb1 hu1 hd1, by simp [hbb], g1, b2, [], rfl, blkR_are (n := x2) (d := x3) hb2 hu2 hd2, by simp, g2, rfl⟩ rfl hG hT).mono ?_
    rintro e w' ⟨v, rfl, hv, hb⟩
    obtain ⟨u, rfl, hu⟩ := cj_is (ρ := ρ) (n := x2) (d := x3) (q := q) e2 e3 hG hv
    exact ⟨u, rfl, hu, hb⟩
end
noncomputable def conjS (args : List Value) : Option (M Sy Value) := match args with
  | [a] => match a with
    | .agg cs => match cs.toList with
      | [x, y] => some (bind (knw getRt x) fun e => bind (knw getRt y) fun f => cond (smallE e && smallE f) (bind (newFact (.rt (.neg f))) fun p => ret (.agg ⟨[x, p]⟩)) fail)
      | _ => none
    | _ => none
  | _ => none
section
variable {ρ : Env} {A : List As}
theorem s_conj : SumF (symSig ρ) Tryz.prog 170 conjS := by
  intro args m e
  unfold conjS at e
  rcases args with _ | ⟨a, _ | ⟨c, l⟩⟩ <;> simp only [reduceCtorEq] at e
  cases a <;> simp only [reduceCtorEq] at e
  rename_i cs
  obtain ⟨cl⟩ := cs
  rcases cl with _ | ⟨x, _ | ⟨y, _ | ⟨z, l⟩⟩⟩ <;> simp only [reduceCtorEq, Option.some.injEq] at e
  subst e
  refine ⟨loc_bind (loc_knw _ _) fun e => loc_bind (loc_knw _ _) fun f => loc_cond (loc_bind (loc_newFact _) fun _ => loc_ret _) loc_fail, ?_⟩
  intro h nx v h' nx' R W e r w args' ha hM hN
  cases ha with
  | cons ha hb =>
  cases hb
  obtain ⟨cl', rfl, hc⟩ := vr_agg ha
  cases hc with
  | cons hx hc =>
  cases hc with
  | cons hy hc =>
  cases hc
  obtain ⟨e0, h1, nx1, R1, W1, R2, W2, e1, e2, rfl, rfl⟩ := bind_ok e
  obtain ⟨rfl, rfl, rfl, f1, hf1, hx1⟩ := knw_ok e1 hx hM
  obtain ⟨g0, h2, nx2, R3, W3, R4, W4, e3, e4, rfl, rfl⟩ := bind_ok e2
  obtain ⟨rfl, rfl, rfl, f2, hf2, hy1⟩ := knw_ok e3 hy hM
  obtain ⟨hs, e5⟩ := cond_ok e4
  simp only [Bool.and_eq_true] at hs
  obtain ⟨p, h4, nx4, R5, W5, R6, W6, e6, e7, rfl, rfl⟩ := bind_ok e5
  obtain ⟨rfl, rfl, rfl, rfl⟩ := ret_ok e7
  obtain ⟨i, h5, nx5, R7, W7, R8, W8, e8, e9, rfl, rfl⟩ := bind_ok e6
  obtain ⟨rfl, rfl, rfl, rfl⟩ := ret_ok e9
  unfold fresh at e8
  cases e8
  refine (rconj_any (rt_of hf1 hx1) (rt_of hf2 hy1) (smallE_ok hs.1) (smallE_ok hs.2) (mod_G hM rfl) hM.base).mono ?_
  rintro en w' ⟨u, rfl, hu, hb⟩
  obtain ⟨r', hX, hr⟩ := ext_fact (S := symSig ρ) (f := .rt (.neg g0)) hM hb hN hu (ratIn_one hu)
  exact ⟨_, r', rfl, .agg (.cons (hx.mono hX.le) (.cons (.opq hr (ratIn_one hu)) .nil)), by simpa using hX.congr fun n => .inr (Tr.get_set _ _ _ _)⟩
noncomputable def refSums2 (A : List As) : Sums Sy := sumsOf (mkTab ((170, conjS) :: (refList A ++ symList A)))
theorem refSums2_ok (hA : AllH ρ A) : SumOK (symSig ρ) Tryz.prog (refSums2 A) := sumsOf_ok fun x hx => by
  rcases List.mem_cons.1 hx with rfl | hx
  · exact s_conj
  rcases List.mem_append.1 hx with hx | hx
  · exact refList_ok hA x hx
  · exact symList_ok hA x hx
end
end Ev
end Go.Proofs.YthjofdfnppadnaaGreatDoor
namespace Go.Proofs.YthjofdfnppadnaaGreatDoor
open Go Go.RowKit
namespace Ev
set_option maxRecDepth 100000
noncomputable def nrm (x : Qe × Qe) : Qe := .add (.mul x.1 x.1) (.mul x.2 x.2)
noncomputable def w0 : Qe × Qe := (v0, v1)
noncomputable def w1 : Qe × Qe := (v2, v3)
noncomputable def kQuo (x y : Qe × Qe) : Qe × Qe := (.quo (.sub (.mul x.1 y.1) (.mul x.2 (.neg y.2))) (nrm y), .quo (.add (.mul x.1 (.neg y.2)) (.mul x.2 y.1)) (nrm y))
noncomputable def signs (n2 g2 n3 g3 : Bool) : List As := [⟨1, v2, z0, n2⟩, ⟨3, v2, z0, g2⟩, ⟨1, v3, z0, n3⟩, ⟨3, v3, z0, g3⟩]
noncomputable def qTab (s t n2 g2 n3 g3 : Bool) : List As := fits (kQuo w0 w1).1 (kQuo w0 w1).2 s t ++ (⟨1, nrm w1, z0, false⟩ :: signs n2 g2 n3 g3)
theorem quo_run : ∀ s t n2 g2 n3 g3 : Bool, (n2 && n3) = false → run2 (qTab s t n2 g2 n3 g3) (inp4 true true true true) 33 = some (andD s t (kQuo w0 w1).1 (kQuo w0 w1).2) := by
  intro s t n2 g2 n3 g3
  cases n2 <;> cases n3 <;> intro h <;> first | (cases h; done) | (cases s <;> cases t <;> cases g2 <;> cases g3 <;> kernel_rfl)
theorem quo_zero : ∀ g2 g3 : Bool, run2 (signs true g2 true g3) (inp4 true true true true) 33 = some (noD 4) := by
  intro g2 g3
  cases g2 <;> cases g3 <;> kernel_rfl
theorem quo_bad : ∀ a b c d : Bool, (a && b && c && d) = false → run2 [] (inp4 a b c d) 33 = some (noD 2) := by
  intro a b c d
  cases a <;> cases b <;> cases c <;> cases d <;> intro h <;> first | (cases h; done) | kernel_rfl
section
variable {ρ : Env} {w : World} {v : Value}
end
theorem fit_zero : Fit 0 := ⟨by decide, by decide⟩
theorem sq_nonneg (c : Rat) : 0 ≤ c * c := by
  rcases Rat.le_total (a := 0) (b := c) with h | h
  · exact Rat.mul_nonneg h h
  · have h1 : 0 ≤ -c := by grind
    have h2 := Rat.mul_nonneg h1 h1
    grind
theorem sq_zero {c d : Rat} (h : c * c + d * d = 0) : c = 0 ∧ d = 0 := by
  have h1 := sq_nonneg c
  have h2 := sq_nonneg d
  have z1 : c * c = 0 := by grind
  have z2 : d * d = 0 := by grind
  exact ⟨by rcases Rat.mul_eq_zero.1 z1 with h | h <;> exact h, by rcases Rat.mul_eq_zero.1 z2 with h | h <;> exact h⟩
theorem zero_bool (q : Rat) : ∃ s : Bool, s = true ↔ q = 0 := ⟨decide (q = 0), decide_eq_true_iff⟩
theorem signs_hold {ρ : Env} {n2 n3 : Bool} (h2 : n2 = true ↔ v2.ev ρ.q = 0) (h3 : n3 = true ↔ v3.ev ρ.q = 0) : AllH ρ (signs n2 (Big.ng (v2.ev ρ.q)) n3 (Big.ng (v3.ev ρ.q))) := fun x hx => by
  simp only [signs, List.mem_cons, List.not_mem_nil, or_false] at hx
  rcases hx with rfl | rfl | rfl | rfl
  · exact h2
  · exact (rfl : Big.ng (v2.ev ρ.q) = _)
  · exact h3
  · exact (rfl : Big.ng (v3.ev ρ.q) = _)
theorem quo_any (w : World) {a b c d : Rat} (ha : Fit a) (hb : Fit b) (hc : Fit c) (hd : Fit d) (h0 : ¬ (c = 0 ∧ d = 0)) (hG : Tryz.prog.globals.size ≤ w.heap.size) (hT : Tab w) :
    Calls Tryz.prog 33 ⟨[gV a b, gV c d]⟩ w (GRes w ((a * c - b * -d) / (c * c + d * d)) ((a * -d + b * c) / (c * c + d * d))) := by
  obtain ⟨s, hs⟩ := fit_bool ((a * c - b * -d) / (c * c + d * d))
  obtain ⟨t, ht⟩ := fit_bool ((a * -d + b * c) / (c * c + d * d))
  obtain ⟨n2, h2⟩ := zero_bool c
  obtain ⟨n3, h3⟩ := zero_bool d
  have hn : (n2 && n3) = false := by
    cases n2 with
    | false => rfl
    | true => cases n3 with
      | false => rfl
      | true => exact absurd ⟨h2.1 rfl, h3.1 rfl⟩ h0
  have hA : AllH (envOf a b c d ha hb hc hd) (qTab s t n2 (Big.ng c) n3 (Big.ng d)) := fun x hx => by
    simp only [qTab, List.mem_append, List.mem_cons] at hx
    rcases hx with hx | rfl | hx
    · exact fits_hold (ρ := envOf a b c d ha hb hc hd) (e := (kQuo w0 w1).1) (f := (kQuo w0 w1).2) hs ht x hx
    · exact ⟨fun h => (by cases h), fun h => absurd (sq_zero h) h0⟩
    · exact signs_hold (ρ := envOf a b c d ha hb hc hd) h2 h3 x hx
  have hu : HoldsL (symSig (envOf a b c d ha hb hc hd)) w (inp4 true true true true) (cel (tri a) ++ (cel (tri b) ++ (cel (tri c) ++ cel (tri d)))) :=
    holdsL_append (inp_holds (fun _ => rfl) (fun h => (by cases h))) (holdsL_append (inp_holds (fun _ => rfl) (fun h => (by cases h))) (holdsL_append (inp_holds (fun _ => rfl) (fun h => (by cases h))) (inp_holds (fun _ => rfl) (fun h => (by cases h)))))
  refine (tells_calls (symFits _) (symSums_ok hA) (quo_run s t n2 _ n3 _ hn) rfl glob_few hu hG hT).mono ?_
  rintro e w' ⟨v', rfl, hv, hb'⟩
  refine ⟨?_, hb'⟩
  unfold andD at hv
  cases s with
  | true => cases t with
    | true => exact .inl ⟨⟨hs.1 rfl, ht.1 rfl⟩, by rw [okD_is hv]; rfl⟩
    | false => exact .inr ⟨fun h => (by have := ht.2 h.2; cases this), by rw [noD_is hv]⟩
  | false => exact .inr ⟨fun h => (by have := hs.2 h.1; cases this), by rw [noD_is hv]⟩
theorem quo_none (w : World) {a b : Rat} (ha : Fit a) (hb : Fit b) (hG : Tryz.prog.globals.size ≤ w.heap.size) (hT : Tab w) : Calls Tryz.prog 33 ⟨[gV a b, gV 0 0]⟩ w (GErr w 4) := by
  have hA : AllH (envOf a b 0 0 ha hb fit_zero fit_zero) (signs true (Big.ng 0) true (Big.ng 0)) := signs_hold (ρ := envOf a b 0 0 ha hb fit_zero fit_zero) ⟨fun _ => rfl, fun _ => rfl⟩ ⟨fun _ => rfl, fun _ => rfl⟩
  have hu : HoldsL (symSig (envOf a b 0 0 ha hb fit_zero fit_zero)) w (inp4 true true true true) (cel (tri a) ++ (cel (tri b) ++ (cel (tri 0) ++ cel (tri 0)))) :=
    holdsL_append (inp_holds (fun _ => rfl) (fun h => (by cases h))) (holdsL_append (inp_holds (fun _ => rfl) (fun h => (by cases h))) (holdsL_append (inp_holds (fun _ => rfl) (fun h => (by cases h))) (inp_holds (fun _ => rfl) (fun h => (by cases h)))))
  refine (tells_calls (symFits _) (symSums_ok hA) (quo_zero _ _) rfl glob_few hu hG hT).mono ?_
  rintro e w' ⟨v', rfl, hv, hb'⟩
  exact ⟨by rw [noD_is hv], hb'⟩
end Ev
end Go.Proofs.YthjofdfnppadnaaGreatDoor
namespace Go.Proofs.YthjofdfnppadnaaGreatDoor
open Go Go.RowKit
namespace Ev
set_option maxRecDepth 100000
noncomputable def lawC (A : List As) : Cfg Sy := symCfg (eqHard A)
instance lawHard (A : List As) : HardLoc (lawC A) := ⟨loc_eqHard A⟩
theorem lawFits {ρ : Env} {A : List As} (hA : AllH ρ A) : Fits (symSig ρ) Tryz.prog (lawC A) where
  hid := rfl
  G := rfl
  len := symLen_ok ρ
  tab := natFits.tab
  mixed := natFits.mixed
  hard := eqHard_ok hA rfl
noncomputable def inp6 (a b c d e f : Bool) : List Sy := inp a 0 ++ (inp b 1 ++ (inp c 2 ++ (inp d 3 ++ (inp e 4 ++ inp f 5))))
noncomputable def yes : D3 Sy := .one (.one (.p (.bool true)))
noncomputable def lx : Qe × Qe := (.v 0, .v 1)
noncomputable def ly : Qe × Qe := (.v 2, .v 3)
noncomputable def lz : Qe × Qe := (.v 4, .v 5)
noncomputable def pr (p : Qe × Qe) (t : Bool) : Ps := ⟨p.1, p.2, t⟩
noncomputable def la : Qe × Qe := kAdd lx ly
noncomputable def lb : Qe × Qe := kAdd ly lx
noncomputable def lc : Qe × Qe := kMul lx ly
noncomputable def ld : Qe × Qe := kMul ly lx
noncomputable def lp : Qe × Qe := kAdd la lz
noncomputable def lq : Qe × Qe := kAdd ly lz
noncomputable def lr : Qe × Qe := kAdd lx lq
noncomputable def ls : Qe × Qe := kMul la lz
noncomputable def lt : Qe × Qe := kMul lx lz
noncomputable def lu : Qe × Qe := kMul ly lz
noncomputable def lk : Qe × Qe := kSub la ly
noncomputable def lB (s t : Bool) : List Ps := [pr la s, pr lb s, pr lc t, pr ld t]
end Ev
end Go.Proofs.YthjofdfnppadnaaGreatDoor
namespace Go.Proofs.YthjofdfnppadnaaGreatDoor
open Go Go.RowKit
namespace Ev
set_option maxRecDepth 100000
end Ev
end Go.Proofs.YthjofdfnppadnaaGreatDoor
namespace Go.Proofs.YthjofdfnppadnaaGreatDoor
open Go Go.RowKit
namespace Ev
structure In6 (x y z u s t : Tri) where
  ρ : Env
  a : Bool
  b : Bool
  c : Bool
  d : Bool
  e : Bool
  f : Bool
  hx : (a = true → x = tri (ρ.q 0)) ∧ (a = false → x = ρ.raw 0)
  hy : (b = true → y = tri (ρ.q 1)) ∧ (b = false → y = ρ.raw 1)
  hz : (c = true → z = tri (ρ.q 2)) ∧ (c = false → z = ρ.raw 2)
  hu : (d = true → u = tri (ρ.q 3)) ∧ (d = false → u = ρ.raw 3)
  hs : (e = true → s = tri (ρ.q 4)) ∧ (e = false → s = ρ.raw 4)
  ht : (f = true → t = tri (ρ.q 5)) ∧ (f = false → t = ρ.raw 5)
theorem In6.holds {x y z u s t : Tri} (i : In6 x y z u s t) (w : World) : HoldsL (symSig i.ρ) w (inp6 i.a i.b i.c i.d i.e i.f) (cel x ++ (cel y ++ (cel z ++ (cel u ++ (cel s ++ cel t))))) :=
  holdsL_append (inp_holds i.hx.1 i.hx.2) (holdsL_append (inp_holds i.hy.1 i.hy.2) (holdsL_append (inp_holds i.hz.1 i.hz.2) (holdsL_append (inp_holds i.hu.1 i.hu.2) (holdsL_append (inp_holds i.hs.1 i.hs.2) (inp_holds i.ht.1 i.ht.2)))))
theorem pair_bool (p q : Rat) : ∃ s : Bool, s = true ↔ (Fit p ∧ Fit q) := by
  by_cases h : Fit p ∧ Fit q
  · exact ⟨true, fun _ => h, fun _ => rfl⟩
  · exact ⟨false, fun h => (by cases h), fun h2 => absurd h2 h⟩
end Ev
end Go.Proofs.YthjofdfnppadnaaGreatDoor
namespace Go.Proofs.YthjofdfnppadnaaGreatDoor
open Go Go.RowKit
namespace Ev
set_option maxRecDepth 100000
section
variable {ρ : Env} {A : List As} {B : List Ps} {h h' : Tr (Blk Sy)} {nx nx' : Nat} {R W : List Nat} {r : Ren} {w : World}
end
noncomputable def c0 : Qe := .c false 0 1
noncomputable def np : Qe × Qe := kMul lx ly
noncomputable def nm : Qe := nrm lx
noncomputable def nn : Qe := nrm ly
noncomputable def no : Qe := nrm np
noncomputable def nc : Qe × Qe := (.v 0, .neg (.v 1))
noncomputable def nq : Qe × Qe := kMul lx nc
noncomputable def nb : Qe × Qe := kQuo np ly
end Ev
end Go.Proofs.YthjofdfnppadnaaGreatDoor
namespace Go.Proofs.YthjofdfnppadnaaGreatDoor
open Go Go.RowKit
namespace Ev
set_option maxRecDepth 100000
noncomputable def runT (k : Nat) (A : List As) (fs : List Sy) : Option (D3 Sy) := tells fs [.p (.int .u8 (k : Nat)), .agg 6, .agg 6] (call Tryz.prog symC (refSums2 A) 60 47)
theorem tadd_run (s t : Bool) : runT 43 (fits (.add v0 v2) (.add v1 v3) s t) (inp4 true true true true) = some (andD s t (.add v0 v2) (.add v1 v3)) := by
  cases s <;> cases t <;> kernel_rfl
theorem tsub_run (s t : Bool) : runT 45 (fits (.sub v0 v2) (.sub v1 v3) s t) (inp4 true true true true) = some (andD s t (.sub v0 v2) (.sub v1 v3)) := by
  cases s <;> cases t <;> kernel_rfl
theorem tmul_run (s t : Bool) : runT 42 (fits mRe mIm s t) (inp4 true true true true) = some (andD s t mRe mIm) := by
  cases s <;> cases t <;> kernel_rfl
theorem tquo_run : ∀ s t n2 g2 n3 g3 : Bool, (n2 && n3) = false → runT 47 (qTab s t n2 g2 n3 g3) (inp4 true true true true) = some (andD s t (kQuo w0 w1).1 (kQuo w0 w1).2) := by
  intro s t n2 g2 n3 g3
  cases n2 <;> cases n3 <;> intro h <;> first | (cases h; done) | (cases s <;> cases t <;> cases g2 <;> cases g3 <;> kernel_rfl)
theorem tquo_zero : ∀ g2 g3 : Bool, runT 47 (signs true g2 true g3) (inp4 true true true true) = some (noD 4) := by
  intro g2 g3
  cases g2 <;> cases g3 <;> kernel_rfl
theorem tadd_bad : ∀ a b c d : Bool, (a && b && c && d) = false → runT 43 [] (inp4 a b c d) = some (noD 2) := by
  intro a b c d
  cases a <;> cases b <;> cases c <;> cases d <;> intro h <;> first | (cases h; done) | kernel_rfl
theorem tsub_bad : ∀ a b c d : Bool, (a && b && c && d) = false → runT 45 [] (inp4 a b c d) = some (noD 2) := by
  intro a b c d
  cases a <;> cases b <;> cases c <;> cases d <;> intro h <;> first | (cases h; done) | kernel_rfl
theorem tmul_bad : ∀ a b c d : Bool, (a && b && c && d) = false → runT 42 [] (inp4 a b c d) = some (noD 2) := by
  intro a b c d
  cases a <;> cases b <;> cases c <;> cases d <;> intro h <;> first | (cases h; done) | kernel_rfl
theorem tquo_bad : ∀ a b c d : Bool, (a && b && c && d) = false → runT 47 [] (inp4 a b c d) = some (noD 2) := by
  intro a b c d
  cases a <;> cases b <;> cases c <;> cases d <;> intro h <;> first | (cases h; done) | kernel_rfl
theorem in4_holds {a b c d : Rat} (ha : Fit a) (hb : Fit b) (hc : Fit c) (hd : Fit d) (w : World) : HoldsL (symSig (envOf a b c d ha hb hc hd)) w (inp4 true true true true) (cel (tri a) ++ (cel (tri b) ++ (cel (tri c) ++ cel (tri d)))) :=
  holdsL_append (inp_holds (fun _ => rfl) (fun h => (by cases h))) (holdsL_append (inp_holds (fun _ => rfl) (fun h => (by cases h))) (holdsL_append (inp_holds (fun _ => rfl) (fun h => (by cases h))) (inp_holds (fun _ => rfl) (fun h => (by cases h)))))
section
variable {w : World} {a b c d : Rat} {k : Nat}
theorem andD_res {ρ : Env} {e1 e2 : Qe} {s t : Bool} {v : Value} {w' : World} (hs : s = true ↔ Fit (e1.ev ρ.q)) (ht : t = true ↔ Fit (e2.ev ρ.q)) (hv : (andD s t e1 e2).is (symSig ρ) w' v) (hb : Below w.heap.size w w') : GRes w (e1.ev ρ.q) (e2.ev ρ.q) (.returned v) w' := by
  refine ⟨?_, hb⟩
  unfold andD at hv
  cases s with
  | true => cases t with
    | true => exact .inl ⟨⟨hs.1 rfl, ht.1 rfl⟩, by rw [okD_is hv]⟩
    | false => exact .inr ⟨fun h => (by have := ht.2 h.2; cases this), by rw [noD_is hv]⟩
  | false => exact .inr ⟨fun h => (by have := hs.2 h.1; cases this), by rw [noD_is hv]⟩
theorem two_good {e1 e2 : Qe} (run : ∀ s t, runT k (fits e1 e2 s t) (inp4 true true true true) = some (andD s t e1 e2)) (ha : Fit a) (hb : Fit b) (hc : Fit c) (hd : Fit d) (hG : Tryz.prog.globals.size ≤ w.heap.size) (hT : Tab w) :
    Calls Tryz.prog 47 ⟨[.int .u8 (k : Nat), gV a b, gV c d]⟩ w (GRes w (e1.ev (pick a b c d)) (e2.ev (pick a b c d))) := by
  obtain ⟨s, hs⟩ := fit_bool (e1.ev (pick a b c d))
  obtain ⟨t, ht⟩ := fit_bool (e2.ev (pick a b c d))
  have hA : AllH (envOf a b c d ha hb hc hd) (fits e1 e2 s t) := fits_hold hs ht
  refine (tells_calls (symFits _) (refSums2_ok hA) (run s t) rfl glob_few (in4_holds ha hb hc hd w) hG hT).mono ?_
  rintro e w' ⟨v', rfl, hv, hb'⟩
  exact andD_res (ρ := envOf a b c d ha hb hc hd) hs ht hv hb'
theorem two_quo (ha : Fit a) (hb : Fit b) (hc : Fit c) (hd : Fit d) (h0 : ¬ (c = 0 ∧ d = 0)) (hG : Tryz.prog.globals.size ≤ w.heap.size) (hT : Tab w) :
    Calls Tryz.prog 47 ⟨[.int .u8 (47 : Nat), gV a b, gV c d]⟩ w (GRes w ((a * c - b * -d) / (c * c + d * d)) ((a * -d + b * c) / (c * c + d * d))) := by
  obtain ⟨s, hs⟩ := fit_bool ((a * c - b * -d) / (c * c + d * d))
  obtain ⟨t, ht⟩ := fit_bool ((a * -d + b * c) / (c * c + d * d))
  obtain ⟨n2, h2⟩ := zero_bool c
  obtain ⟨n3, h3⟩ := zero_bool d
  have hn : (n2 && n3) = false := by
    cases n2 with
    | false => rfl
    | true => cases n3 with
      | false => rfl
      | true => exact absurd ⟨h2.1 rfl, h3.1 rfl⟩ h0
  have hA : AllH (envOf a b c d ha hb hc hd) (qTab s t n2 (Big.ng c) n3 (Big.ng d)) := fun x hx => by
    simp only [qTab, List.mem_append, List.mem_cons] at hx
    rcases hx with hx | rfl | hx
    · exact fits_hold (ρ := envOf a b c d ha hb hc hd) (e := (kQuo w0 w1).1) (f := (kQuo w0 w1).2) hs ht x hx
    · exact ⟨fun h => (by cases h), fun h => absurd (sq_zero h) h0⟩
    · exact signs_hold (ρ := envOf a b c d ha hb hc hd) h2 h3 x hx
  refine (tells_calls (symFits _) (refSums2_ok hA) (tquo_run s t n2 _ n3 _ hn) rfl glob_few (in4_holds ha hb hc hd w) hG hT).mono ?_
  rintro e w' ⟨v', rfl, hv, hb'⟩
  exact andD_res (ρ := envOf a b c d ha hb hc hd) hs ht hv hb'
theorem two_zero (ha : Fit a) (hb : Fit b) (hG : Tryz.prog.globals.size ≤ w.heap.size) (hT : Tab w) :
    Calls Tryz.prog 47 ⟨[.int .u8 (47 : Nat), gV a b, gV 0 0]⟩ w (GErr w 4) := by
  have hA : AllH (envOf a b 0 0 ha hb fit_zero fit_zero) (signs true (Big.ng 0) true (Big.ng 0)) := signs_hold (ρ := envOf a b 0 0 ha hb fit_zero fit_zero) ⟨fun _ => rfl, fun _ => rfl⟩ ⟨fun _ => rfl, fun _ => rfl⟩
  refine (tells_calls (symFits _) (refSums2_ok hA) (tquo_zero _ _) rfl glob_few (in4_holds ha hb fit_zero fit_zero w) hG hT).mono ?_
  rintro e w' ⟨v', rfl, hv, hb'⟩
  exact ⟨by rw [noD_is hv], hb'⟩
theorem two_bad (run : ∀ a b c d : Bool, (a && b && c && d) = false → runT k [] (inp4 a b c d) = some (noD 2)) (x y z u : Tri) (h : BadF x ∨ BadF y ∨ BadF z ∨ BadF u) (hG : Tryz.prog.globals.size ≤ w.heap.size) (hT : Tab w) :
    Calls Tryz.prog 47 ⟨[.int .u8 (k : Nat), .agg ⟨cel x ++ cel y⟩, .agg ⟨cel z ++ cel u⟩]⟩ w (GErr w 2) := by
  obtain ⟨i, -⟩ := in4 x y z u
  have hA : AllH i.ρ [] := fun _ h => by cases h
  have hb : (i.a && i.b && i.c && i.d) = false := by
    cases ha : i.a with
    | false => rfl
    | true => cases hb : i.b with
      | false => rfl
      | true => cases hc : i.c with
        | false => rfl
        | true => cases hd : i.d with
          | false => rfl
          | true =>
            rcases h with h | h | h | h
            · rw [i.hx.1 ha] at h; exact absurd h (not_bad ((i.ρ.fit _ (by decide))))
            · rw [i.hy.1 hb] at h; exact absurd h (not_bad ((i.ρ.fit _ (by decide))))
            · rw [i.hz.1 hc] at h; exact absurd h (not_bad ((i.ρ.fit _ (by decide))))
            · rw [i.hu.1 hd] at h; exact absurd h (not_bad ((i.ρ.fit _ (by decide))))
  have hc := tells_calls (symFits _) (refSums2_ok hA) (run _ _ _ _ hb) rfl glob_few (i.holds w) hG hT
  exact hc.mono fun e w' hh => by
    obtain ⟨v', rfl, hv, hb'⟩ := hh
    exact ⟨by rw [noD_is hv], hb'⟩
end
section
variable {ρ : Env} {w : World} {x y : Qe × Qe}
theorem two_kAdd (h1 : Fit (x.1.ev ρ.q)) (h2 : Fit (x.2.ev ρ.q)) (h3 : Fit (y.1.ev ρ.q)) (h4 : Fit (y.2.ev ρ.q)) (hG : Tryz.prog.globals.size ≤ w.heap.size) (hT : Tab w) :
    Calls Tryz.prog 47 ⟨[.int .u8 ((43 : Nat) : Int)] ++ [gV (x.1.ev ρ.q) (x.2.ev ρ.q), gV (y.1.ev ρ.q) (y.2.ev ρ.q)]⟩ w (GRes w ((kAdd x y).1.ev ρ.q) ((kAdd x y).2.ev ρ.q)) := two_good tadd_run h1 h2 h3 h4 hG hT
theorem two_kSub (h1 : Fit (x.1.ev ρ.q)) (h2 : Fit (x.2.ev ρ.q)) (h3 : Fit (y.1.ev ρ.q)) (h4 : Fit (y.2.ev ρ.q)) (hG : Tryz.prog.globals.size ≤ w.heap.size) (hT : Tab w) :
    Calls Tryz.prog 47 ⟨[.int .u8 ((45 : Nat) : Int)] ++ [gV (x.1.ev ρ.q) (x.2.ev ρ.q), gV (y.1.ev ρ.q) (y.2.ev ρ.q)]⟩ w (GRes w ((kSub x y).1.ev ρ.q) ((kSub x y).2.ev ρ.q)) := two_good tsub_run h1 h2 h3 h4 hG hT
theorem two_kMul (h1 : Fit (x.1.ev ρ.q)) (h2 : Fit (x.2.ev ρ.q)) (h3 : Fit (y.1.ev ρ.q)) (h4 : Fit (y.2.ev ρ.q)) (hG : Tryz.prog.globals.size ≤ w.heap.size) (hT : Tab w) :
    Calls Tryz.prog 47 ⟨[.int .u8 ((42 : Nat) : Int)] ++ [gV (x.1.ev ρ.q) (x.2.ev ρ.q), gV (y.1.ev ρ.q) (y.2.ev ρ.q)]⟩ w (GRes w ((kMul x y).1.ev ρ.q) ((kMul x y).2.ev ρ.q)) := two_good tmul_run h1 h2 h3 h4 hG hT
end
noncomputable def quoZ (A : List As) (B : List Ps) (x y : Option (Qe × Qe)) : M Sy Value := match x with
  | some x => match y with
    | some y => match noughtB A y.1 with
      | some s => match noughtB A y.2 with
        | some t => cond (s && t) (cond ((fitT B x.1 && fitT B x.2) && (fitT B y.1 && fitT B y.2)) (ret (errG 4)) fail) (gans2 B kQuo (some x) (some y))
        | none => fail
      | none => fail
    | none => ret (errG 2)
  | none => ret (errG 2)
theorem loc_quoZ (A : List As) (B : List Ps) (x y : Option (Qe × Qe)) : Loc (quoZ A B x y) := by
  unfold quoZ
  (repeat' split) <;> first | exact loc_fail | exact loc_ret _ | exact loc_cond (loc_cond (loc_ret _) loc_fail) (loc_gans2 _ _ _)
section
variable {ρ : Env} {A : List As} {B : List Ps} {h h' : Tr (Blk Sy)} {nx nx' : Nat} {R W : List Nat} {r : Ren} {w : World}
theorem gans2_ok (hB : AllP ρ B) {f : FuncId} {pre : List Value} {k : Qe × Qe → Qe × Qe → Qe × Qe} {x y : Option (Qe × Qe)} {v : Value}
    (hok : ∀ (x y : Qe × Qe), Fit (x.1.ev ρ.q) → Fit (x.2.ev ρ.q) → Fit (y.1.ev ρ.q) → Fit (y.2.ev ρ.q) → Calls Tryz.prog f ⟨pre ++ [gV (x.1.ev ρ.q) (x.2.ev ρ.q), gV (y.1.ev ρ.q) (y.2.ev ρ.q)]⟩ w (GRes w ((k x y).1.ev ρ.q) ((k x y).2.ev ρ.q)))
    (hbad : ∀ (x y z u : Tri), (BadF x ∨ BadF y ∨ BadF z ∨ BadF u) → Calls Tryz.prog f ⟨pre ++ [.agg ⟨cel x ++ cel y⟩, .agg ⟨cel z ++ cel u⟩]⟩ w (GErr w 2))
    (e : gans2 B k x y h nx = .ok v h' nx' R W) {l m : List Value} (hx : GssIs ρ l x) (hy : GssIs ρ m y) (hM : Mod (symSig ρ) r h.get w) (hN : New r nx nx') : GoesS ρ f (pre ++ [.agg ⟨l⟩, .agg ⟨m⟩]) r w nx nx' W h'.get v := by
  unfold gans2 at e
  cases x with
  | none =>
    obtain ⟨x1, x2, hb, rfl⟩ := hx
    cases y with
    | none =>
      obtain ⟨y1, y2, hb2, rfl⟩ := hy
      exact goes_pl e rfl hM (hbad _ _ _ _ (by rcases hb with hb | hb; exact .inl hb; exact .inr (.inl hb)))
    | some y =>
      obtain rfl : m = _ := hy
      exact goes_pl e rfl hM (hbad _ _ _ _ (by rcases hb with hb | hb; exact .inl hb; exact .inr (.inl hb)))
  | some x =>
    obtain rfl : l = _ := hx
    cases y with
    | none =>
      obtain ⟨y1, y2, hb, rfl⟩ := hy
      exact goes_pl e rfl hM (hbad _ _ _ _ (by rcases hb with hb | hb; exact .inr (.inr (.inl hb)); exact .inr (.inr (.inr hb))))
    | some y =>
      obtain rfl : m = _ := hy
      simp only at e
      obtain ⟨hf, e⟩ := cond_ok e
      simp only [Bool.and_eq_true] at hf
      exact ansG_ok hB e hM hN (hok x y (fitT_ok hB hf.1.1) (fitT_ok hB hf.1.2) (fitT_ok hB hf.2.1) (fitT_ok hB hf.2.2))
theorem quoZ_ok (hA : AllH ρ A) (hB : AllP ρ B) {f : FuncId} {pre : List Value} {x y : Option (Qe × Qe)} {v : Value}
    (hok : ∀ (x y : Qe × Qe), Fit (x.1.ev ρ.q) → Fit (x.2.ev ρ.q) → Fit (y.1.ev ρ.q) → Fit (y.2.ev ρ.q) → ¬ (y.1.ev ρ.q = 0 ∧ y.2.ev ρ.q = 0) → Calls Tryz.prog f ⟨pre ++ [gV (x.1.ev ρ.q) (x.2.ev ρ.q), gV (y.1.ev ρ.q) (y.2.ev ρ.q)]⟩ w (GRes w ((kQuo x y).1.ev ρ.q) ((kQuo x y).2.ev ρ.q)))
    (hz : ∀ (x : Qe × Qe), Fit (x.1.ev ρ.q) → Fit (x.2.ev ρ.q) → Calls Tryz.prog f ⟨pre ++ [gV (x.1.ev ρ.q) (x.2.ev ρ.q), gV 0 0]⟩ w (GErr w 4))
    (hbad : ∀ (x y z u : Tri), (BadF x ∨ BadF y ∨ BadF z ∨ BadF u) → Calls Tryz.prog f ⟨pre ++ [.agg ⟨cel x ++ cel y⟩, .agg ⟨cel z ++ cel u⟩]⟩ w (GErr w 2))
    (e : quoZ A B x y h nx = .ok v h' nx' R W) {l m : List Value} (hx : GssIs ρ l x) (hy : GssIs ρ m y) (hM : Mod (symSig ρ) r h.get w) (hN : New r nx nx') : GoesS ρ f (pre ++ [.agg ⟨l⟩, .agg ⟨m⟩]) r w nx nx' W h'.get v := by
  unfold quoZ at e
  cases x with
  | none =>
    obtain ⟨x1, x2, hb, rfl⟩ := hx
    cases y with
    | none =>
      obtain ⟨y1, y2, hb2, rfl⟩ := hy
      exact goes_pl e rfl hM (hbad _ _ _ _ (by rcases hb with hb | hb; exact .inl hb; exact .inr (.inl hb)))
    | some y =>
      obtain rfl : m = _ := hy
      exact goes_pl e rfl hM (hbad _ _ _ _ (by rcases hb with hb | hb; exact .inl hb; exact .inr (.inl hb)))
  | some x =>
    cases y with
    | none =>
      obtain rfl : l = _ := hx
      obtain ⟨y1, y2, hb, rfl⟩ := hy
      exact goes_pl e rfl hM (hbad _ _ _ _ (by rcases hb with hb | hb; exact .inr (.inr (.inl hb)); exact .inr (.inr (.inr hb))))
    | some y =>
      simp only at e
      cases h1 : noughtB A y.1 with
      | none => rw [h1] at e; exact absurd e (by simp [fail])
      | some s =>
        rw [h1] at e; simp only at e
        cases h2 : noughtB A y.2 with
        | none => rw [h2] at e; exact absurd e (by simp [fail])
        | some t =>
          rw [h2] at e; simp only at e
          have n1 := noughtB_ok hA h1
          have n2 := noughtB_ok hA h2
          cases hst : (s && t) with
          | true =>
            rw [hst] at e
            obtain ⟨hf, e⟩ := cond_ok (show cond ((fitT B x.1 && fitT B x.2) && (fitT B y.1 && fitT B y.2)) (ret (errG 4)) fail h nx = _ from e)
            simp only [Bool.and_eq_true] at hf hst
            obtain rfl : l = _ := hx
            obtain rfl : m = _ := hy
            have hc := hz x (fitT_ok hB hf.1.1) (fitT_ok hB hf.1.2)
            rw [n1.1 hst.1, n2.1 hst.2]
            exact goes_pl e rfl hM hc
          | false =>
            rw [hst] at e
            have h0 : ¬ (y.1.ev ρ.q = 0 ∧ y.2.ev ρ.q = 0) := fun hh => by
              rw [n1.2 hh.1, n2.2 hh.2] at hst
              cases hst
            obtain rfl : l = _ := hx
            obtain rfl : m = _ := hy
            have e2 : gans2 B kQuo (some x) (some y) h nx = .ok v h' nx' R W := e
            unfold gans2 at e2
            simp only at e2
            obtain ⟨hf, e3⟩ := cond_ok e2
            simp only [Bool.and_eq_true] at hf
            exact ansG_ok hB e3 hM hN (hok x y (fitT_ok hB hf.1.1) (fitT_ok hB hf.1.2) (fitT_ok hB hf.2.1) (fitT_ok hB hf.2.2) h0)
theorem lsum_quoZ (hA : AllH ρ A) (hB : AllP ρ B) : SumF (symSig ρ) Tryz.prog 33 (gop2 (quoZ A B)) :=
  gop2_ok (fun x y => loc_quoZ A B x y) fun x y h nx v h' nx' R W e r w l m hx hy hM hN => by
    have hG := mod_G hM rfl
    have hT : Tab w := hM.base
    exact quoZ_ok (pre := []) hA hB (fun x y h1 h2 h3 h4 h0 => quo_any w h1 h2 h3 h4 h0 hG hT) (fun x h1 h2 => quo_none w h1 h2 hG hT) (fun x y z u hb => ga2_bad quo_bad w x y z u hb hG hT) e hx hy hM hN
noncomputable def kindN (v : Value) : Option Nat := match v with
  | .int k m => match k with
    | .u8 => match m with
      | .ofNat j => some j
      | _ => none
    | _ => none
  | _ => none
theorem kindN_ok {v : Value} {j : Nat} (h : kindN v = some j) : v = .int .u8 (j : Nat) := by
  unfold kindN at h
  split at h
  · split at h
    · split at h
      · cases h; rfl
      · cases h
    · cases h
  · cases h
noncomputable def twoG (A : List As) (B : List Ps) (j : Nat) (x y : Option (Qe × Qe)) : M Sy Value :=
  cond (Nat.beq j 43) (gans2 B kAdd x y) (cond (Nat.beq j 45) (gans2 B kSub x y) (cond (Nat.beq j 42) (gans2 B kMul x y) (cond (Nat.beq j 47) (quoZ A B x y) fail)))
noncomputable def twoS (A : List As) (B : List Ps) (args : List Value) : Option (M Sy Value) := match args with
  | [k, a, b] => match kindN k with
    | some j => match a with
      | .agg cs => match b with
        | .agg ds => some (bind (gss cs.toList) fun x => bind (gss ds.toList) fun y => twoG A B j x y)
        | _ => none
      | _ => none
    | none => none
  | _ => none
theorem loc_twoG (A : List As) (B : List Ps) (j : Nat) (x y : Option (Qe × Qe)) : Loc (twoG A B j x y) :=
  loc_cond (loc_gans2 _ _ _) (loc_cond (loc_gans2 _ _ _) (loc_cond (loc_gans2 _ _ _) (loc_cond (loc_quoZ _ _ _ _) loc_fail)))
set_option maxHeartbeats 800000 in
theorem s_two (hA : AllH ρ A) (hB : AllP ρ B) : SumF (symSig ρ) Tryz.prog 47 (twoS A B) := by
  intro args m e
  unfold twoS at e
  rcases args with _ | ⟨k, _ | ⟨a, _ | ⟨b, _ | ⟨c, l⟩⟩⟩⟩ <;> simp only [reduceCtorEq] at e
  cases hk : kindN k with
  | none => rw [hk] at e; cases e
  | some j =>
  rw [hk] at e
  have := kindN_ok hk
  subst this
  cases a <;> simp only [reduceCtorEq] at e
  rename_i cs
  cases b <;> simp only [reduceCtorEq, Option.some.injEq] at e
  rename_i ds
  subst e
  refine ⟨loc_bind (loc_gss _) fun x => loc_bind (loc_gss _) fun y => loc_twoG A B j x y, ?_⟩
  intro h nx v h' nx' R W e r w args' ha hM hN
  cases ha with
  | cons hk1 ha =>
  cases ha with
  | cons ha1 ha2 =>
  cases ha2 with
  | cons hb1 hb2 =>
  cases hb2
  obtain ⟨cl⟩ := cs
  obtain ⟨dl⟩ := ds
  obtain ⟨cl', rfl, hc⟩ := vr_agg ha1
  obtain ⟨dl', rfl, hd⟩ := vr_agg hb1
  have hkk := hk1.eq_of_plain rfl
  subst hkk
  obtain ⟨x, h1, nx1, R1, W1, R2, W2, e1, e2, rfl, rfl⟩ := bind_ok e
  obtain ⟨rfl, rfl, rfl, hx⟩ := gss_ok e1 hc hM
  obtain ⟨y, h2, nx2, R3, W3, R4, W4, e3, e4, rfl, rfl⟩ := bind_ok e2
  obtain ⟨rfl, rfl, rfl, hy⟩ := gss_ok e3 hd hM
  have hG := mod_G hM rfl
  have hT : Tab w := hM.base
  have key : GoesS ρ 47 ([.int .u8 (j : Nat)] ++ [.agg ⟨cl'⟩, .agg ⟨dl'⟩]) r w nx2 nx' W4 h'.get v := by
    unfold twoG at e4
    cases h43 : Nat.beq j 43 with
    | true =>
      rw [h43] at e4
      have := Nat.eq_of_beq_eq_true h43
      subst this
      exact gans2_ok (pre := [.int .u8 ((43 : Nat) : Int)]) (k := kAdd) hB (fun x y h1 h2 h3 h4 => two_kAdd h1 h2 h3 h4 hG hT) (fun x y z u hb => two_bad tadd_bad x y z u hb hG hT) e4 hx hy hM hN
    | false =>
    rw [h43] at e4
    simp only [cond_false] at e4
    cases h45 : Nat.beq j 45 with
    | true =>
      rw [h45] at e4
      have := Nat.eq_of_beq_eq_true h45
      subst this
      exact gans2_ok (pre := [.int .u8 ((45 : Nat) : Int)]) (k := kSub) hB (fun x y h1 h2 h3 h4 => two_kSub h1 h2 h3 h4 hG hT) (fun x y z u hb => two_bad tsub_bad x y z u hb hG hT) e4 hx hy hM hN
    | false =>
    rw [h45] at e4
    simp only [cond_false] at e4
    cases h42 : Nat.beq j 42 with
    | true =>
      rw [h42] at e4
      have := Nat.eq_of_beq_eq_true h42
      subst this
      exact gans2_ok (pre := [.int .u8 ((42 : Nat) : Int)]) (k := kMul) hB (fun x y h1 h2 h3 h4 => two_kMul h1 h2 h3 h4 hG hT) (fun x y z u hb => two_bad tmul_bad x y z u hb hG hT) e4 hx hy hM hN
    | false =>
    rw [h42] at e4
    simp only [cond_false] at e4
    obtain ⟨h47, e5⟩ := cond_ok e4
    have := Nat.eq_of_beq_eq_true h47
    subst this
    exact quoZ_ok (pre := [.int .u8 ((47 : Nat) : Int)]) hA hB (fun x y h1 h2 h3 h4 h0 => two_quo h1 h2 h3 h4 h0 hG hT) (fun x h1 h2 => two_zero h1 h2 hG hT) (fun x y z u hb => two_bad tquo_bad x y z u hb hG hT) e5 hx hy hM hN
  exact key
end
end Ev
end Go.Proofs.YthjofdfnppadnaaGreatDoor
namespace Go.Proofs.YthjofdfnppadnaaGreatDoor
open Go Go.RowKit
namespace Ev
end Ev
end Go.Proofs.YthjofdfnppadnaaGreatDoor
