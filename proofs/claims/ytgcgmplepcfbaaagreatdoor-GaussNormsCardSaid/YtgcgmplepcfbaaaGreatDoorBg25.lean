/- Contracts, in this order: gauss: norms, mirrored numbers, quotients: by runs; of any numbers, whatever they are. · diapasonlaw02.GaussNorms, run over all that may come. · diapasonlaw02.GaussNorms answers true. -/
import Derived.Test.YtgcgmplepcfbaaaGreatDoorBg19
/- gauss: norms, mirrored numbers, quotients: by runs; of any numbers, whatever they are. -/
namespace Go.Proofs.YtgcgmplepcfbaaaGreatDoor
open Go Go.RowKit
namespace Ev
set_option maxRecDepth 100000

noncomputable def nrm (x : Qe × Qe) : Qe := .add (.mul x.1 x.1) (.mul x.2 x.2)
noncomputable def okF (e : Qe) : D3 Sy := .tuple [.agg (seen e), .one (.p (.int .i64 0))]
noncomputable def zero3 : List Value := [.bool false, .string ⟨#[]⟩, .string ⟨#[]⟩]
noncomputable def noF (n : Int) : D3 Sy := .tuple [.agg (zero3.map .p), .one (.p (.int .i64 n))]
noncomputable def w0 : Qe × Qe := (v0, v1)
noncomputable def w1 : Qe × Qe := (v2, v3)
theorem norm_run (s : Bool) : run1 [⟨0, nrm w0, z0, s⟩] (inp true 0 ++ inp true 1) 43 = some (cond s (okF (nrm w0)) (noF 3)) := by
  cases s <;> kernel_rfl
theorem norm_bad : ∀ a b : Bool, (a && b) = false → run1 [] (inp a 0 ++ inp b 1) 43 = some (noF 2) := by
  intro a b
  cases a <;> cases b <;> intro h <;> first | (cases h; done) | kernel_rfl
theorem conj_run : run1 [⟨0, .neg v1, z0, true⟩] (inp true 0 ++ inp true 1) 45 = some (okD v0 (.neg v1)) := by kernel_rfl
theorem conj_bad : ∀ a b : Bool, (a && b) = false → run1 [] (inp a 0 ++ inp b 1) 45 = some (noD 2) := by
  intro a b
  cases a <;> cases b <;> intro h <;> first | (cases h; done) | kernel_rfl
noncomputable def kQuo (x y : Qe × Qe) : Qe × Qe := (.quo (.sub (.mul x.1 y.1) (.mul x.2 (.neg y.2))) (nrm y), .quo (.add (.mul x.1 (.neg y.2)) (.mul x.2 y.1)) (nrm y))
noncomputable def signs (n2 g2 n3 g3 : Bool) : List As := [⟨1, v2, z0, n2⟩, ⟨3, v2, z0, g2⟩, ⟨1, v3, z0, n3⟩, ⟨3, v3, z0, g3⟩]
noncomputable def qTab (s t n2 g2 n3 g3 : Bool) : List As := fits (kQuo w0 w1).1 (kQuo w0 w1).2 s t ++ (⟨1, nrm w1, z0, false⟩ :: signs n2 g2 n3 g3)
theorem quo_run : ∀ s t n2 g2 n3 g3 : Bool, (n2 && n3) = false → run2 (qTab s t n2 g2 n3 g3) (inp4 true true true true) 46 = some (andD s t (kQuo w0 w1).1 (kQuo w0 w1).2) := by
  intro s t n2 g2 n3 g3
  cases n2 <;> cases n3 <;> intro h <;> first | (cases h; done) | (cases s <;> cases t <;> cases g2 <;> cases g3 <;> kernel_rfl)
theorem quo_zero : ∀ g2 g3 : Bool, run2 (signs true g2 true g3) (inp4 true true true true) 46 = some (noD 4) := by
  intro g2 g3
  cases g2 <;> cases g3 <;> kernel_rfl
theorem quo_bad : ∀ a b c d : Bool, (a && b && c && d) = false → run2 [] (inp4 a b c d) 46 = some (noD 2) := by
  intro a b c d
  cases a <;> cases b <;> cases c <;> cases d <;> intro h <;> first | (cases h; done) | kernel_rfl

def fV (p : Rat) : Value := .agg ⟨cel (tri p)⟩
noncomputable def fZ : Value := .agg ⟨zero3⟩
/-- A fraction comes back, or the word that it is too long. -/
def FRes (w : World) (p : Rat) (e : Ending) (w' : World) : Prop :=
  (Fit p ∧ e = .returned (.tuple ⟨[fV p, .int .i64 0]⟩) ∨ ¬ Fit p ∧ e = .returned (.tuple ⟨[fZ, .int .i64 3]⟩)) ∧ Below w.heap.size w w'
def FErr (w : World) (n : Int) (e : Ending) (w' : World) : Prop := e = .returned (.tuple ⟨[fZ, .int .i64 n]⟩) ∧ Below w.heap.size w w'
section
variable {ρ : Env} {w : World} {v : Value}
theorem okF_is {e : Qe} (h : (okF e).is (symSig ρ) w v) : v = .tuple ⟨[fV (e.ev ρ.q), .int .i64 0]⟩ := by
  obtain ⟨vs, rfl, v1, u1, rfl, ⟨x, rfl, hx⟩, v2, u2, rfl, h2, h3⟩ := h
  have hx' : D1.all (symSig ρ) w (seen e ++ []) x := by simpa using hx
  obtain ⟨us, rfl, hz⟩ := seen_is hx'
  obtain rfl : us = [] := hz
  obtain rfl : u2 = [] := h3
  rw [show v2 = .int .i64 0 from h2, List.append_nil]
  rfl
theorem noF_is {n : Int} (h : (noF n).is (symSig ρ) w v) : v = .tuple ⟨[fZ, .int .i64 n]⟩ := by
  obtain ⟨vs, rfl, v1, u1, rfl, ⟨x, rfl, hx⟩, v2, u2, rfl, h2, h3⟩ := h
  obtain rfl : u2 = [] := h3
  rw [all_p hx, show v2 = .int .i64 n from h2]
  rfl
end
theorem in2_holds {a b : Rat} (ha : Fit a) (hb : Fit b) (c d : Rat) (hc : Fit c) (hd : Fit d) (w : World) : HoldsL (symSig (envOf a b c d ha hb hc hd)) w (inp true 0 ++ inp true 1) (cel (tri a) ++ cel (tri b)) :=
  holdsL_append (inp_holds (fun _ => rfl) (fun h => (by cases h))) (inp_holds (fun _ => rfl) (fun h => (by cases h)))
theorem fit_zero : Fit 0 := ⟨by decide, by decide⟩
theorem norm_any (w : World) {a b : Rat} (ha : Fit a) (hb : Fit b) (hG : Tryz.prog.globals.size ≤ w.heap.size) (hT : Tab w) : Calls Tryz.prog 43 ⟨[gV a b]⟩ w (FRes w (a * a + b * b)) := by
  obtain ⟨s, hs⟩ := fit_bool (a * a + b * b)
  have hA : AllH (envOf a b 0 0 ha hb fit_zero fit_zero) [⟨0, nrm w0, z0, s⟩] := fun x hx => by
    simp only [List.mem_cons, List.not_mem_nil, or_false] at hx
    subst hx; exact hs
  refine (tells_calls (symFits _) (symSums_ok hA) (norm_run s) rfl glob_few (in2_holds ha hb 0 0 fit_zero fit_zero w) hG hT).mono ?_
  rintro e w' ⟨v', rfl, hv, hb'⟩
  refine ⟨?_, hb'⟩
  cases s with
  | true => exact .inl ⟨hs.1 rfl, by rw [okF_is hv]; rfl⟩
  | false => exact .inr ⟨fun h => (by have := hs.2 h; cases this), by rw [noF_is hv]⟩
theorem fit_neg {q : Rat} (h : Fit q) : Fit (-q) := by
  obtain ⟨_, h2, h3⟩ := Big.neg_parts q
  exact ⟨by rw [h2]; exact h.nu, by rw [h3]; exact h.de⟩
theorem conj_any (w : World) {a b : Rat} (ha : Fit a) (hb : Fit b) (hG : Tryz.prog.globals.size ≤ w.heap.size) (hT : Tab w) : Calls Tryz.prog 45 ⟨[gV a b]⟩ w (GRes w a (-b)) := by
  have hA : AllH (envOf a b 0 0 ha hb fit_zero fit_zero) [⟨0, .neg v1, z0, true⟩] := fun x hx => by
    simp only [List.mem_cons, List.not_mem_nil, or_false] at hx
    subst hx; exact ⟨fun _ => fit_neg hb, fun _ => rfl⟩
  refine (tells_calls (symFits _) (symSums_ok hA) conj_run rfl glob_few (in2_holds ha hb 0 0 fit_zero fit_zero w) hG hT).mono ?_
  rintro e w' ⟨v', rfl, hv, hb'⟩
  exact ⟨.inl ⟨⟨ha, fit_neg hb⟩, by rw [okD_is hv]; rfl⟩, hb'⟩
/-- Of one that may not be. -/
theorem ga1_bad {f : FuncId} {d : D3 Sy} {P : Ending → Prop} (run : ∀ a b : Bool, (a && b) = false → run1 [] (inp a 0 ++ inp b 1) f = some d) (hP : ∀ (ρ : Env) (w : World) (v : Value), d.is (symSig ρ) w v → P (.returned v)) (w : World) (x y : Tri) (h : BadF x ∨ BadF y) (hG : Tryz.prog.globals.size ≤ w.heap.size) (hT : Tab w) :
    Calls Tryz.prog f ⟨[.agg ⟨cel x ++ cel y⟩]⟩ w fun e w' => P e ∧ Below w.heap.size w w' := by
  obtain ⟨i, -⟩ := in4 x y x y
  have hA : AllH i.ρ [] := fun _ h => (by cases h)
  have hb : (i.a && i.b) = false := by
    cases ha : i.a with
    | false => rfl
    | true => cases hb : i.b with
      | false => rfl
      | true =>
        rcases h with h | h
        · rw [i.hx.1 ha] at h; exact absurd h (not_bad (i.ρ.fit _))
        · rw [i.hy.1 hb] at h; exact absurd h (not_bad (i.ρ.fit _))
  exact (tells_calls (symFits _) (symSums_ok hA) (run _ _ hb) rfl glob_few (holdsL_append (inp_holds (w := w) i.hx.1 i.hx.2) (inp_holds i.hy.1 i.hy.2)) hG hT).mono fun e w' hh => by
    obtain ⟨v', rfl, hv, hb'⟩ := hh
    exact ⟨hP _ _ _ hv, hb'⟩
theorem norm_none (w : World) (x y : Tri) (h : BadF x ∨ BadF y) (hG : Tryz.prog.globals.size ≤ w.heap.size) (hT : Tab w) : Calls Tryz.prog 43 ⟨[.agg ⟨cel x ++ cel y⟩]⟩ w (FErr w 2) :=
  ga1_bad norm_bad (P := fun e => e = .returned (.tuple ⟨[fZ, .int .i64 2]⟩)) (fun _ _ _ h => by rw [noF_is h]) w x y h hG hT
theorem conj_none (w : World) (x y : Tri) (h : BadF x ∨ BadF y) (hG : Tryz.prog.globals.size ≤ w.heap.size) (hT : Tab w) : Calls Tryz.prog 45 ⟨[.agg ⟨cel x ++ cel y⟩]⟩ w (GErr w 2) :=
  ga1_bad conj_bad (P := fun e => e = .returned (.tuple ⟨[gZ, .int .i64 2]⟩)) (fun _ _ _ h => by rw [noD_is h]) w x y h hG hT
theorem sq_nonneg (c : Rat) : 0 ≤ c * c := by
  rcases Rat.le_total (a := 0) (b := c) with h | h
  · exact Rat.mul_nonneg h h
  · have h1 : 0 ≤ -c := by grind
    have h2 := Rat.mul_nonneg h1 h1
    grind
theorem sq_zero {c d : Rat} (h : c * c + d * d = 0) : c = 0 ∧ d = 0 := by
  have h1 := sq_nonneg c
  have h2 := sq_nonneg d
  have z1 : c * c = 0 := by grind
  have z2 : d * d = 0 := by grind
  exact ⟨by rcases Rat.mul_eq_zero.1 z1 with h | h <;> exact h, by rcases Rat.mul_eq_zero.1 z2 with h | h <;> exact h⟩
theorem zero_bool (q : Rat) : ∃ s : Bool, s = true ↔ q = 0 := ⟨decide (q = 0), decide_eq_true_iff⟩
theorem signs_hold {ρ : Env} {n2 n3 : Bool} (h2 : n2 = true ↔ v2.ev ρ.q = 0) (h3 : n3 = true ↔ v3.ev ρ.q = 0) : AllH ρ (signs n2 (Big.ng (v2.ev ρ.q)) n3 (Big.ng (v3.ev ρ.q))) := fun x hx => by
  simp only [signs, List.mem_cons, List.not_mem_nil, or_false] at hx
  rcases hx with rfl | rfl | rfl | rfl
  · exact h2
  · exact (rfl : Big.ng (v2.ev ρ.q) = _)
  · exact h3
  · exact (rfl : Big.ng (v3.ev ρ.q) = _)
theorem quo_any (w : World) {a b c d : Rat} (ha : Fit a) (hb : Fit b) (hc : Fit c) (hd : Fit d) (h0 : ¬ (c = 0 ∧ d = 0)) (hG : Tryz.prog.globals.size ≤ w.heap.size) (hT : Tab w) :
    Calls Tryz.prog 46 ⟨[gV a b, gV c d]⟩ w (GRes w ((a * c - b * -d) / (c * c + d * d)) ((a * -d + b * c) / (c * c + d * d))) := by
  obtain ⟨s, hs⟩ := fit_bool ((a * c - b * -d) / (c * c + d * d))
  obtain ⟨t, ht⟩ := fit_bool ((a * -d + b * c) / (c * c + d * d))
  obtain ⟨n2, h2⟩ := zero_bool c
  obtain ⟨n3, h3⟩ := zero_bool d
  have hn : (n2 && n3) = false := by
    cases n2 with
    | false => rfl
    | true => cases n3 with
      | false => rfl
      | true => exact absurd ⟨h2.1 rfl, h3.1 rfl⟩ h0
  have hA : AllH (envOf a b c d ha hb hc hd) (qTab s t n2 (Big.ng c) n3 (Big.ng d)) := fun x hx => by
    simp only [qTab, List.mem_append, List.mem_cons] at hx
    rcases hx with hx | rfl | hx
    · exact fits_hold (ρ := envOf a b c d ha hb hc hd) (e := (kQuo w0 w1).1) (f := (kQuo w0 w1).2) hs ht x hx
    · exact ⟨fun h => (by cases h), fun h => absurd (sq_zero h) h0⟩
    · exact signs_hold (ρ := envOf a b c d ha hb hc hd) h2 h3 x hx
  have hu : HoldsL (symSig (envOf a b c d ha hb hc hd)) w (inp4 true true true true) (cel (tri a) ++ (cel (tri b) ++ (cel (tri c) ++ cel (tri d)))) :=
    holdsL_append (inp_holds (fun _ => rfl) (fun h => (by cases h))) (holdsL_append (inp_holds (fun _ => rfl) (fun h => (by cases h))) (holdsL_append (inp_holds (fun _ => rfl) (fun h => (by cases h))) (inp_holds (fun _ => rfl) (fun h => (by cases h)))))
  refine (tells_calls (symFits _) (symSums_ok hA) (quo_run s t n2 _ n3 _ hn) rfl glob_few hu hG hT).mono ?_
  rintro e w' ⟨v', rfl, hv, hb'⟩
  refine ⟨?_, hb'⟩
  unfold andD at hv
  cases s with
  | true => cases t with
    | true => exact .inl ⟨⟨hs.1 rfl, ht.1 rfl⟩, by rw [okD_is hv]; rfl⟩
    | false => exact .inr ⟨fun h => (by have := ht.2 h.2; cases this), by rw [noD_is hv]⟩
  | false => exact .inr ⟨fun h => (by have := hs.2 h.1; cases this), by rw [noD_is hv]⟩
theorem quo_none (w : World) {a b : Rat} (ha : Fit a) (hb : Fit b) (hG : Tryz.prog.globals.size ≤ w.heap.size) (hT : Tab w) : Calls Tryz.prog 46 ⟨[gV a b, gV 0 0]⟩ w (GErr w 4) := by
  have hA : AllH (envOf a b 0 0 ha hb fit_zero fit_zero) (signs true (Big.ng 0) true (Big.ng 0)) := signs_hold (ρ := envOf a b 0 0 ha hb fit_zero fit_zero) ⟨fun _ => rfl, fun _ => rfl⟩ ⟨fun _ => rfl, fun _ => rfl⟩
  have hu : HoldsL (symSig (envOf a b 0 0 ha hb fit_zero fit_zero)) w (inp4 true true true true) (cel (tri a) ++ (cel (tri b) ++ (cel (tri 0) ++ cel (tri 0)))) :=
    holdsL_append (inp_holds (fun _ => rfl) (fun h => (by cases h))) (holdsL_append (inp_holds (fun _ => rfl) (fun h => (by cases h))) (holdsL_append (inp_holds (fun _ => rfl) (fun h => (by cases h))) (inp_holds (fun _ => rfl) (fun h => (by cases h)))))
  refine (tells_calls (symFits _) (symSums_ok hA) (quo_zero _ _) rfl glob_few hu hG hT).mono ?_
  rintro e w' ⟨v', rfl, hv, hb'⟩
  exact ⟨by rw [noD_is hv], hb'⟩
end Ev
end Go.Proofs.YtgcgmplepcfbaaaGreatDoor
/- diapasonlaw02.GaussNorms, run over all that may come. -/
namespace Go.Proofs.YtgcgmplepcfbaaaGreatDoor
open Go Go.RowKit
namespace Ev
set_option maxRecDepth 100000

section
variable {ρ : Env} {A : List As} {B : List Ps} {h h' : Tr (Blk Sy)} {nx nx' : Nat} {R W : List Nat} {r : Ren} {w : World}
noncomputable def errF (n : Int) : Value := .tuple ⟨[fZ, .int .i64 n]⟩
noncomputable def ansF (B : List Ps) (e : Qe) : M Sy Value := match askP B e e with
  | some t => cond t (bind (newFacts (frs e)) fun vs => ret (.tuple ⟨[.agg ⟨vs⟩, .int .i64 0]⟩)) (ret (errF 3))
  | none => fail
theorem loc_ansF (B : List Ps) (e : Qe) : Loc (ansF B e) := by
  unfold ansF
  split
  · exact loc_cond (loc_bind (loc_newFacts _) fun _ => loc_ret _) (loc_ret _)
  · exact loc_fail
theorem ansF_ok (hB : AllP ρ B) {p : Qe} {f : FuncId} {args' : List Value} {v : Value} (e : ansF B p h nx = .ok v h' nx' R W) (hM : Mod (symSig ρ) r h.get w) (hN : New r nx nx') (c : Calls Tryz.prog f ⟨args'⟩ w (FRes w (p.ev ρ.q))) : GoesS ρ f args' r w nx nx' W h'.get v := by
  unfold ansF at e
  cases ha : askP B p p with
  | none => rw [ha] at e; exact absurd e (by simp [fail])
  | some t =>
    rw [ha] at e
    have hf := askP_ok hB ha
    cases t with
    | true =>
      simp only [cond_true] at e
      exact goes_aggT rfl e hM hN (c.mono fun _ w' hh => by
        obtain ⟨h1 | h1, h2⟩ := hh
        · exact ⟨_, h1.2, frs_holds w' p, h2⟩
        · exact absurd (hf.1 rfl).1 h1.1)
    | false =>
      simp only [cond_false] at e
      exact goes_pl e rfl hM (c.mono fun _ w' hh => by
        obtain ⟨h1 | h1, h2⟩ := hh
        · have := hf.2 ⟨h1.1, h1.1⟩
          cases this
        · exact ⟨h1.2, h2⟩)
noncomputable def nrmS (B : List Ps) (x : Option (Qe × Qe)) : M Sy Value := match x with
  | some x => cond (fitT B x.1 && fitT B x.2) (ansF B (nrm x)) fail
  | none => ret (errF 2)
theorem lsum_norm (hB : AllP ρ B) : SumF (symSig ρ) Tryz.prog 43 (gop1 (nrmS B)) :=
  gop1_ok (fun x => by
    unfold nrmS
    split
    · exact loc_cond (loc_ansF _ _) loc_fail
    · exact loc_ret _) fun x h nx v h' nx' R W e r w l hx hM hN => by
    have hG := mod_G hM rfl
    have hT : Tab w := hM.base
    unfold nrmS at e
    cases x with
    | none =>
      obtain ⟨x1, x2, hb, rfl⟩ := hx
      exact goes_pl e rfl hM (norm_none w x1 x2 hb hG hT)
    | some x =>
      obtain rfl : l = _ := hx
      obtain ⟨hf, e⟩ := cond_ok e
      simp only [Bool.and_eq_true] at hf
      exact ansF_ok hB e hM hN (norm_any w (fitT_ok hB hf.1) (fitT_ok hB hf.2) hG hT)
noncomputable def cnjS (B : List Ps) (x : Option (Qe × Qe)) : M Sy Value := match x with
  | some x => cond (fitT B x.1 && fitT B x.2) (ansG B (x.1, .neg x.2)) fail
  | none => ret (errG 2)
theorem lsum_conj (hB : AllP ρ B) : SumF (symSig ρ) Tryz.prog 45 (gop1 (cnjS B)) :=
  gop1_ok (fun x => by
    unfold cnjS
    split
    · exact loc_cond (loc_ansG _ _) loc_fail
    · exact loc_ret _) fun x h nx v h' nx' R W e r w l hx hM hN => by
    have hG := mod_G hM rfl
    have hT : Tab w := hM.base
    unfold cnjS at e
    cases x with
    | none =>
      obtain ⟨x1, x2, hb, rfl⟩ := hx
      exact goes_pl e rfl hM (conj_none w x1 x2 hb hG hT)
    | some x =>
      obtain rfl : l = _ := hx
      obtain ⟨hf, e⟩ := cond_ok e
      simp only [Bool.and_eq_true] at hf
      exact ansG_ok hB e hM hN (conj_any w (fitT_ok hB hf.1) (fitT_ok hB hf.2) hG hT)
/-- Quotients by a number that is known not to be nought. -/
noncomputable def quoS (A : List As) (B : List Ps) (x y : Option (Qe × Qe)) : M Sy Value := match y with
  | some y => match noughtB A y.1 with
    | some s => match noughtB A y.2 with
      | some t => cond (s && t) fail (gans2 B kQuo x (some y))
      | none => fail
    | none => fail
  | none => ret (errG 2)
theorem loc_quoS (x y : Option (Qe × Qe)) : Loc (quoS A B x y) := by
  unfold quoS
  (repeat' split) <;> first | exact loc_fail | exact loc_ret _ | exact loc_cond loc_fail (loc_gans2 _ _ _)
theorem lsum_quo (hA : AllH ρ A) (hB : AllP ρ B) : SumF (symSig ρ) Tryz.prog 46 (gop2 (quoS A B)) :=
  gop2_ok (fun x y => loc_quoS x y) fun x y h nx v h' nx' R W e r w l m hx hy hM hN => by
    have hG := mod_G hM rfl
    have hT : Tab w := hM.base
    unfold quoS at e
    cases y with
    | none =>
      obtain ⟨y1, y2, hb, rfl⟩ := hy
      cases x with
      | none =>
        obtain ⟨x1, x2, hb2, rfl⟩ := hx
        exact goes_pl e rfl hM (ga2_bad quo_bad w _ _ _ _ (by rcases hb with hb | hb; exact .inr (.inr (.inl hb)); exact .inr (.inr (.inr hb))) hG hT)
      | some x =>
        obtain rfl : l = _ := hx
        exact goes_pl e rfl hM (ga2_bad quo_bad w _ _ _ _ (by rcases hb with hb | hb; exact .inr (.inr (.inl hb)); exact .inr (.inr (.inr hb))) hG hT)
    | some y =>
      simp only at e
      cases h1 : noughtB A y.1 with
      | none => rw [h1] at e; exact absurd e (by simp [fail])
      | some s =>
        rw [h1] at e; simp only at e
        cases h2 : noughtB A y.2 with
        | none => rw [h2] at e; exact absurd e (by simp [fail])
        | some t =>
          rw [h2] at e; simp only at e
          obtain ⟨hst, e⟩ := cond_no e
          have n1 := noughtB_ok hA h1
          have n2 := noughtB_ok hA h2
          have h0 : ¬ (y.1.ev ρ.q = 0 ∧ y.2.ev ρ.q = 0) := fun hh => by
            rw [n1.2 hh.1, n2.2 hh.2] at hst
            cases hst
          unfold gans2 at e
          obtain rfl : m = _ := hy
          cases x with
          | none =>
            obtain ⟨x1, x2, hb, rfl⟩ := hx
            exact goes_pl e rfl hM (ga2_bad quo_bad w _ _ _ _ (by rcases hb with hb | hb; exact .inl hb; exact .inr (.inl hb)) hG hT)
          | some x =>
            obtain rfl : l = _ := hx
            simp only at e
            obtain ⟨hf, e⟩ := cond_ok e
            simp only [Bool.and_eq_true] at hf
            exact ansG_ok hB e hM hN (quo_any w (fitT_ok hB hf.1.1) (fitT_ok hB hf.1.2) (fitT_ok hB hf.2.1) (fitT_ok hB hf.2.2) h0 hG hT)
end
noncomputable def of00 : Fact := ⟨44, [.int .i64 0, .int .i64 0], .agg ⟨[.bool false, .string ⟨⟨[]⟩⟩, .string ⟨⟨[1]⟩⟩, .bool false, .string ⟨⟨[]⟩⟩, .string ⟨⟨[1]⟩⟩]⟩⟩
theorem of00_ok : of00.ok := Fact.of_run (n := 100) (by kernel_rfl) rfl
noncomputable def lawList2 (A : List As) (B : List Ps) : List (Nat × (List Value → Option (M Sy Value))) := [
  (39, gop2 (gans2 B kAdd)), (42, gop2 (gans2 B kSub)), (40, gop2 (gans2 B kMul)), (41, gop1 (chk B)),
  (43, gop1 (nrmS B)), (45, gop1 (cnjS B)), (46, gop2 (quoS A B))]
noncomputable def lawSums2 (A : List As) (B : List Ps) : Sums Sy := withF [works2, of00] (sumsOf (mkTab (lawList2 A B)))
theorem lawSums2_ok {ρ : Env} {A : List As} {B : List Ps} (hA : AllH ρ A) (hB : AllP ρ B) : SumOK (symSig ρ) Tryz.prog (lawSums2 A B) :=
  withF_ok (fun x hx => by
    simp only [List.mem_cons, List.not_mem_nil, or_false] at hx
    rcases hx with rfl | rfl
    · exact works2_ok
    · exact of00_ok) (sumsOf_ok fun x hx => by
    simp only [lawList2, List.mem_cons, List.not_mem_nil, or_false] at hx
    rcases hx with rfl | rfl | rfl | rfl | rfl | rfl | rfl
    · exact lsum_add hB
    · exact lsum_sub hB
    · exact lsum_mul hB
    · exact lsum_check hB
    · exact lsum_norm hB
    · exact lsum_conj hB
    · exact lsum_quo hA hB)
noncomputable def nrun (A : List As) (B : List Ps) (fs : List Sy) : Option (D3 Sy) := tells fs [.agg 6, .agg 6] (call Tryz.prog (lawC A) (lawSums2 A B) 10 7)
noncomputable def c0 : Qe := .c false 0 1
noncomputable def np : Qe × Qe := kMul lx ly
noncomputable def nm : Qe := nrm lx
noncomputable def nn : Qe := nrm ly
noncomputable def no : Qe := nrm np
noncomputable def nk : Qe × Qe := kMul (nm, c0) (nn, c0)
noncomputable def nc : Qe × Qe := (.v 0, .neg (.v 1))
noncomputable def nq : Qe × Qe := kMul lx nc
noncomputable def nb : Qe × Qe := kQuo np ly
noncomputable def nE : List As := eqs [(nk.1, no), (nk.2, c0), (nq.1, nm), (nq.2, c0)]
noncomputable def nS (s t : Bool) : List As := [⟨2, .v 2, c0, s⟩, ⟨2, .v 3, c0, t⟩, ⟨1, .v 2, z0, s⟩, ⟨1, .v 3, z0, t⟩]
noncomputable def nT : List As := eqs [(nb.1, .v 0), (nb.2, .v 1)]
noncomputable def nB4 (p m n o : Bool) : List Ps := [pr np p, pr (nm, nm) m, pr (nn, nn) n, pr (no, no) o]
noncomputable def nB7 (k : Bool) : List Ps := nB4 true true true true ++ [pr nk k, pr nc true, pr nq true]
theorem norms_bad : ∀ a b c d : Bool, (a && b && c && d) = false → nrun [] (match (a && b), (c && d) with
    | true, _ => [pr (nm, nm) true]
    | _, true => [pr (nn, nn) true]
    | _, _ => []) (inp4 a b c d) = some yes ∧ nrun [] (match (a && b), (c && d) with
    | true, _ => [pr (nm, nm) false]
    | _, true => [pr (nn, nn) false]
    | _, _ => []) (inp4 a b c d) = some yes := by
  intro a b c d
  cases a <;> cases b <;> cases c <;> cases d <;> intro h <;> first | (cases h; done) | exact ⟨by kernel_rfl, by kernel_rfl⟩
theorem norms_long : ∀ p m n o : Bool, (p && m && n && o) = false → nrun [] (nB4 p m n o) (inp4 true true true true) = some yes := by
  intro p m n o
  cases p <;> cases m <;> cases n <;> cases o <;> intro h <;> first | (cases h; done) | kernel_rfl
theorem norms_zero : ∀ k : Bool, nrun (nE ++ nS true true) (nB7 k) (inp4 true true true true) = some yes := by
  intro k
  cases k <;> kernel_rfl
theorem norms_all : ∀ k s t : Bool, (s && t) = false → nrun (nE ++ (nS s t ++ nT)) (nB7 k ++ [pr nb true]) (inp4 true true true true) = some yes := by
  intro k s t
  cases s <;> cases t <;> intro h <;> first | (cases h; done) | (cases k <;> kernel_rfl)
end Ev
end Go.Proofs.YtgcgmplepcfbaaaGreatDoor
/- diapasonlaw02.GaussNorms answers true. -/
namespace Go.Proofs.YtgcgmplepcfbaaaGreatDoor
open Go Go.RowKit
namespace Ev

theorem one_bool (q : Rat) : ∃ s : Bool, s = true ↔ (Fit q ∧ Fit q) := by
  obtain ⟨s, hs⟩ := fit_bool q
  exact ⟨s, fun h => ⟨hs.1 h, hs.1 h⟩, fun h => hs.2 h.1⟩
theorem allH_append {ρ : Env} {A B : List As} (h1 : AllH ρ A) (h2 : AllH ρ B) : AllH ρ (A ++ B) := fun x hx => by
  rcases List.mem_append.1 hx with h | h
  · exact h1 x h
  · exact h2 x h
theorem div_back {N a b : Rat} (hN : N ≠ 0) (h : a = b * N) : a / N = b := by
  rw [h, Rat.div_def, Rat.mul_assoc, Rat.mul_inv_cancel N hN, Rat.mul_one]
theorem c0_ev (ρ : Nat → Rat) : c0.ev ρ = 0 := by show mkRat (Big.sI false 0) 1 = 0; decide +kernel
theorem gaussNorms_any (w : World) (x y z u : Tri) (hG : Tryz.prog.globals.size ≤ w.heap.size) (hT : Tab w) :
    Calls Tryz.prog 7 ⟨[.agg ⟨cel x ++ cel y⟩, .agg ⟨cel z ++ cel u⟩]⟩ w fun e w' => e = .returned (.bool true) ∧ Below w.heap.size w w' := by
  obtain ⟨i, -⟩ := in4 x y z u
  have fin : ∀ (A : List As) (B : List Ps), AllH i.ρ A → AllP i.ρ B → nrun A B (inp4 i.a i.b i.c i.d) = some yes →
      Calls Tryz.prog 7 ⟨[.agg ⟨cel x ++ cel y⟩, .agg ⟨cel z ++ cel u⟩]⟩ w fun e w' => e = .returned (.bool true) ∧ Below w.heap.size w w' := fun A B hA hB hr =>
    (tells_calls (lawFits hA) (lawSums2_ok hA hB) hr rfl glob_few (i.holds w) hG hT).mono fun e w' hh => by
      obtain ⟨v', rfl, hv, hb⟩ := hh
      exact ⟨by rw [show v' = .bool true from hv], hb⟩
  have hnil : AllH i.ρ [] := fun _ h => (by cases h)
  obtain ⟨m, hm⟩ := one_bool (nm.ev i.ρ.q)
  obtain ⟨n, hn⟩ := one_bool (nn.ev i.ρ.q)
  cases hb : (i.a && i.b && i.c && i.d) with
  | false =>
    obtain ⟨r1, r2⟩ := norms_bad _ _ _ _ hb
    cases h1 : (i.a && i.b) with
    | true =>
      rw [h1] at r1 r2
      cases m with
      | true => exact fin _ _ hnil (fun p hp => by simp only [List.mem_cons, List.not_mem_nil, or_false] at hp; subst hp; exact hm) r1
      | false => exact fin _ _ hnil (fun p hp => by simp only [List.mem_cons, List.not_mem_nil, or_false] at hp; subst hp; exact hm) r2
    | false =>
      cases h2 : (i.c && i.d) with
      | true =>
        rw [h1, h2] at r1 r2
        cases n with
        | true => exact fin _ _ hnil (fun p hp => by simp only [List.mem_cons, List.not_mem_nil, or_false] at hp; subst hp; exact hn) r1
        | false => exact fin _ _ hnil (fun p hp => by simp only [List.mem_cons, List.not_mem_nil, or_false] at hp; subst hp; exact hn) r2
      | false =>
        rw [h1, h2] at r1
        exact fin _ _ hnil (fun _ h => (by cases h)) r1
  | true =>
    simp only [Bool.and_eq_true] at hb
    obtain ⟨⟨⟨ha, hb'⟩, hc⟩, hd⟩ := hb
    rw [ha, hb', hc, hd] at fin
    obtain ⟨p, hp⟩ := pair_bool (np.1.ev i.ρ.q) (np.2.ev i.ρ.q)
    obtain ⟨o, ho⟩ := one_bool (no.ev i.ρ.q)
    have hB4 : AllP i.ρ (nB4 p m n o) := fun a ha => by
      simp only [nB4, List.mem_cons, List.not_mem_nil, or_false] at ha
      rcases ha with rfl | rfl | rfl | rfl
      · exact hp
      · exact hm
      · exact hn
      · exact ho
    cases hs : (p && m && n && o) with
    | false => exact fin [] _ hnil hB4 (norms_long _ _ _ _ hs)
    | true =>
      simp only [Bool.and_eq_true] at hs
      obtain ⟨⟨⟨rfl, rfl⟩, rfl⟩, rfl⟩ := hs
      obtain ⟨k, hk⟩ := pair_bool (nk.1.ev i.ρ.q) (nk.2.ev i.ρ.q)
      have hz := c0_ev i.ρ.q
      have e1 : nq.1.ev i.ρ.q = nm.ev i.ρ.q := by simp only [nq, nm, nc, nrm, lx, kMul, Qe.ev]; grind
      have e2 : nq.2.ev i.ρ.q = c0.ev i.ρ.q := by rw [hz]; simp only [nq, nc, lx, kMul, Qe.ev]; grind
      have hE : AllH i.ρ nE := eqs_hold fun a ha => by
        simp only [List.mem_cons, List.not_mem_nil, or_false] at ha
        rcases ha with rfl | rfl | rfl | rfl
        · simp only [nk, no, np, nm, nn, nrm, lx, ly, kMul, Qe.ev, hz]; grind
        · simp only [nk, nm, nn, nrm, lx, ly, kMul, Qe.ev, hz]; grind
        · exact e1
        · exact e2
      have hB7 : AllP i.ρ (nB7 k) := fun a ha => by
        simp only [nB7, List.mem_append, List.mem_cons, List.not_mem_nil, or_false] at ha
        rcases ha with ha | rfl | rfl | rfl
        · exact hB4 a ha
        · exact hk
        · exact ⟨fun _ => ⟨i.ρ.fit 0, fit_neg (i.ρ.fit 1)⟩, fun _ => rfl⟩
        · refine ⟨fun _ => ⟨?_, ?_⟩, fun _ => rfl⟩
          · rw [show (pr nq true).a.ev i.ρ.q = nm.ev i.ρ.q from e1]; exact (hm.1 rfl).1
          · rw [show (pr nq true).b.ev i.ρ.q = c0.ev i.ρ.q from e2, hz]; exact fit_zero
      obtain ⟨s, h2⟩ := zero_bool (i.ρ.q 2)
      obtain ⟨t, h3⟩ := zero_bool (i.ρ.q 3)
      have hS : AllH i.ρ (nS s t) := fun a ha => by
        simp only [nS, List.mem_cons, List.not_mem_nil, or_false] at ha
        rcases ha with rfl | rfl | rfl | rfl
        · show s = true ↔ i.ρ.q 2 = c0.ev i.ρ.q
          rw [hz]; exact h2
        · show t = true ↔ i.ρ.q 3 = c0.ev i.ρ.q
          rw [hz]; exact h3
        · exact h2
        · exact h3
      cases hst : (s && t) with
      | true =>
        simp only [Bool.and_eq_true] at hst
        obtain ⟨rfl, rfl⟩ := hst
        exact fin _ _ (allH_append hE hS) hB7 (norms_zero k)
      | false =>
        have hne : ¬ (i.ρ.q 2 * i.ρ.q 2 + i.ρ.q 3 * i.ρ.q 3 = 0) := fun h => by
          have := sq_zero h
          rw [h2.2 this.1, h3.2 this.2] at hst
          cases hst
        have b1 : nb.1.ev i.ρ.q = i.ρ.q 0 := by
          simp only [nb, np, kQuo, kMul, nrm, lx, ly, Qe.ev]
          exact div_back hne (by grind)
        have b2 : nb.2.ev i.ρ.q = i.ρ.q 1 := by
          simp only [nb, np, kQuo, kMul, nrm, lx, ly, Qe.ev]
          exact div_back hne (by grind)
        refine fin _ _ (allH_append hE (allH_append hS (eqs_hold fun a ha => ?_))) (fun a ha => ?_) (norms_all k s t hst)
        · simp only [List.mem_cons, List.not_mem_nil, or_false] at ha
          rcases ha with rfl | rfl
          · exact b1
          · exact b2
        · rcases List.mem_append.1 ha with ha | ha
          · exact hB7 a ha
          · simp only [List.mem_cons, List.not_mem_nil, or_false] at ha
            subst ha
            exact ⟨fun _ => ⟨by rw [show (pr nb true).a.ev i.ρ.q = i.ρ.q 0 from b1]; exact i.ρ.fit 0, by rw [show (pr nb true).b.ev i.ρ.q = i.ρ.q 1 from b2]; exact i.ρ.fit 1⟩, fun _ => rfl⟩
end Ev
end Go.Proofs.YtgcgmplepcfbaaaGreatDoor
