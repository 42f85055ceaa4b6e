/- Contracts, in this order: diapasonlaw02.GaussLaws, run over all numbers that may be. · diapasonlaw02.GaussLaws answers true. · diapasonlaw02.GaussNorms, run over all that may come. · The order of two fractions is the sign of their difference. · turn: what Unit, Half, Sum answer, of any fractions: by runs · Unit, Half, Sum, as a law calls them. · ref90: the bytes of a size. · Runs over ref90's numbers: expressions, what is known, and w -/
import Derived.Test.YtepnghhgmjobjaaGreatTt22
import Derived.Test.YtepnghhgmjobjaaGreatTt19
import Derived.Test.YtepnghhgmjobjaaGreatTt18
import Derived.Test.YtepnghhgmjobjaaGreatTt13
import Derived.Laws.MakeOwn
import Derived.Test.YtepnghhgmjobjaaGreatTt20
namespace Go.Proofs.YtepnghhgmjobjaaGreat
open Go Go.RowKit
namespace Ev
set_option maxRecDepth 100000
end Ev
end Go.Proofs.YtepnghhgmjobjaaGreat
namespace Go.Proofs.YtepnghhgmjobjaaGreat
open Go Go.RowKit
namespace Ev
structure In6 (x y z u s t : Tri) where
  ρ : Env
  a : Bool
  b : Bool
  c : Bool
  d : Bool
  e : Bool
  f : Bool
  hx : (a = true → x = tri (ρ.q 0)) ∧ (a = false → x = ρ.raw 0)
  hy : (b = true → y = tri (ρ.q 1)) ∧ (b = false → y = ρ.raw 1)
  hz : (c = true → z = tri (ρ.q 2)) ∧ (c = false → z = ρ.raw 2)
  hu : (d = true → u = tri (ρ.q 3)) ∧ (d = false → u = ρ.raw 3)
  hs : (e = true → s = tri (ρ.q 4)) ∧ (e = false → s = ρ.raw 4)
  ht : (f = true → t = tri (ρ.q 5)) ∧ (f = false → t = ρ.raw 5)
theorem In6.holds {x y z u s t : Tri} (i : In6 x y z u s t) (w : World) : HoldsL (symSig i.ρ) w (inp6 i.a i.b i.c i.d i.e i.f) (cel x ++ (cel y ++ (cel z ++ (cel u ++ (cel s ++ cel t))))) :=
  holdsL_append (inp_holds i.hx.1 i.hx.2) (holdsL_append (inp_holds i.hy.1 i.hy.2) (holdsL_append (inp_holds i.hz.1 i.hz.2) (holdsL_append (inp_holds i.hu.1 i.hu.2) (holdsL_append (inp_holds i.hs.1 i.hs.2) (inp_holds i.ht.1 i.ht.2)))))
theorem pair_bool (p q : Rat) : ∃ s : Bool, s = true ↔ (Fit p ∧ Fit q) := by
  by_cases h : Fit p ∧ Fit q
  · exact ⟨true, fun _ => h, fun _ => rfl⟩
  · exact ⟨false, fun h => (by cases h), fun h2 => absurd h2 h⟩
end Ev
end Go.Proofs.YtepnghhgmjobjaaGreat
namespace Go.Proofs.YtepnghhgmjobjaaGreat
open Go Go.RowKit
namespace Ev
set_option maxRecDepth 100000
section
variable {ρ : Env} {A : List As} {B : List Ps} {h h' : Tr (Blk Sy)} {nx nx' : Nat} {R W : List Nat} {r : Ren} {w : World}
end
noncomputable def c0 : Qe := .c false 0 1
noncomputable def np : Qe × Qe := kMul lx ly
noncomputable def nm : Qe := nrm lx
noncomputable def nn : Qe := nrm ly
noncomputable def no : Qe := nrm np
noncomputable def nc : Qe × Qe := (.v 0, .neg (.v 1))
noncomputable def nq : Qe × Qe := kMul lx nc
noncomputable def nb : Qe × Qe := kQuo np ly
end Ev
end Go.Proofs.YtepnghhgmjobjaaGreat
namespace Go.Proofs.YtepnghhgmjobjaaGreat
open Go Go.RowKit
namespace Ev
set_option maxRecDepth 100000
theorem cmpQ_sgn (x y : Rat) : Big.cmpQ x y = sgQ (x - y) := by
  unfold Big.cmpQ sgQ
  have hng : Big.ng (x - y) = decide ((x - y).num < 0) := rfl
  have hnu : Big.nu (x - y) = (x - y).num.natAbs := rfl
  rw [hng, hnu]
  have hle : 0 ≤ (x - y).num ↔ y ≤ x := by rw [Rat.num_nonneg]; exact (Rat.le_iff_sub_nonneg y x).symm
  by_cases h1 : x < y
  · have : ¬ y ≤ x := Rat.not_le.2 h1
    have h0 : ¬ 0 ≤ (x - y).num := fun h => this (hle.1 h)
    rw [if_pos h1, if_pos (decide_eq_true (by omega))]
  · have h2 : y ≤ x := Rat.not_lt.1 h1
    have h3 := hle.2 h2
    have h4 : ¬ (decide ((x - y).num < 0) = true) := fun hd => by have := of_decide_eq_true hd; omega
    rw [if_neg h1, if_neg h4]
    by_cases e : x = y
    · subst e
      rw [if_pos rfl, Rat.sub_self]; rfl
    · rw [if_neg e, if_neg]
      intro hz
      have h5 : (x - y).num = 0 := by omega
      have h6 := Rat.num_eq_zero.1 h5
      apply e
      have h7 : x - y + y = x := by rw [Rat.sub_eq_add_neg, Rat.add_assoc, Rat.neg_add_cancel, Rat.add_zero]
      rw [← h7, h6, Rat.zero_add]
end Ev
end Go.Proofs.YtepnghhgmjobjaaGreat
namespace Go.Proofs.YtepnghhgmjobjaaGreat
open Go Go.RowKit
namespace Ev
set_option maxRecDepth 100000
theorem tone_run : tells [] [] (call Tryz.prog natCfg natSums 20 12) = some (.one (.agg [.p (.bool false), .f 1, .f 1])) := by kernel_rfl
theorem tone_any (w : World) (hG : Tryz.prog.globals.size ≤ w.heap.size) (hT : Tab w) : Calls Tryz.prog 12 ⟨[]⟩ w (Num1 w 1) := by
  refine (tells_calls natFits natSums_ok tone_run rfl glob_few (us := []) rfl hG hT).mono ?_
  rintro e w' ⟨v, rfl, ⟨vs, rfl, x1, u1, rfl, h1, x2, u2, rfl, h2, x3, u3, rfl, h3, h4⟩, hb⟩
  obtain rfl : u3 = [] := h4
  obtain rfl : x1 = .bool false := h1
  exact ⟨_, rfl, ⟨x2, x3, rfl, h2, h3⟩, hb⟩
noncomputable def uc : Qe := .c false 1 1
theorem uc_ev (q : Nat → Rat) : uc.ev q = 1 := by show mkRat (Big.sI false 1) 1 = 1; rfl
section
variable {ρ : Env} {A : List As}
noncomputable def toneS (args : List Value) : Option (M Sy Value) := match args with
  | [] => some (newNum uc)
  | _ => none
theorem s_tone : SumF (symSig ρ) Tryz.prog 12 toneS := by
  intro args m e
  unfold toneS at e
  rcases args with _ | ⟨a, l⟩ <;> simp only [reduceCtorEq, Option.some.injEq] at e
  subst e
  refine ⟨loc_newNum _, ?_⟩
  intro h nx v h' nx' R W e r w args' ha hM hN
  cases ha
  refine goes_num e hM hN ?_
  rw [uc_ev]
  exact tone_any w (mod_G hM rfl) hM.base
noncomputable def ncmpK (A : List As) (x y : Qe) : M Sy Value := match signB A (.sub x y) with
  | some z => ret (.int .i64 z)
  | none => fail
theorem s_ncmp (hA : AllH ρ A) : SumF (symSig ρ) Tryz.prog 21 (fun args => num2 args (ncmpK A)) :=
  num2_ok (fun _ _ => by
    unfold ncmpK
    split
    · exact loc_ret _
    · exact loc_fail) fun x y h nx v h' nx' R W e r w a b ha hb sa sb hk hM hN => by
    unfold ncmpK at e
    cases hz : signB A (.sub x y) with
    | none => rw [hz] at e; cases (show (fail : M Sy Value) _ _ = _ from e)
    | some z =>
      rw [hz] at e
      have hzz := signB_ok hA hz
      have c := exCmp_any w a b _ _ _ ha hb sa sb hk
      rw [cmpQ_sgn] at c
      rw [show sgQ (x.ev ρ.q - y.ev ρ.q) = z from hzz.symm] at c
      exact goes_pl (show (ret (.int .i64 z) : M Sy Value) _ _ = .ok v h' nx' _ _ from e) rfl hM c
noncomputable def tuList (A : List As) : List (Nat × (List Value → Option (M Sy Value))) := [
  (12, toneS), (21, fun args => num2 args (ncmpK A))]
noncomputable def tuSums (A : List As) : Sums Sy := sumsOf (mkTab (tuList A ++ symList A))
theorem tuSums_ok (hA : AllH ρ A) : SumOK (symSig ρ) Tryz.prog (tuSums A) := sumsOf_ok fun x hx => by
  rcases List.mem_append.1 hx with hx | hx
  · simp only [tuList, List.mem_cons, List.not_mem_nil, or_false] at hx
    rcases hx with rfl | rfl
    · exact s_tone
    · exact s_ncmp hA
  · exact symList_ok hA x hx
end
noncomputable def uQ (t : Qe) : Qe × Qe := kQuo (uc, t) (uc, .neg t)
noncomputable def uR (t : Qe) : Qe × Qe := (.quo (.sub uc (.mul t t)) (.add uc (.mul t t)), .quo (.add t t) (.add uc (.mul t t)))
noncomputable def okT (e : Qe) : D3 Sy := .tuple [.agg (seen e), .one (.p (.bool true)), .one (.p (.int .i64 0))]
noncomputable def noT (n : Int) : D3 Sy := .tuple [.agg (zero3.map .p), .one (.p (.bool false)), .one (.p (.int .i64 n))]
noncomputable def ovD (d s : Bool) (e : Qe) : D3 Sy := cond d (noT 0) (cond s (okT e) (noT 3))
noncomputable def ovT (x y : Qe) (d g s : Bool) : List As := [⟨1, y, z0, d⟩, ⟨3, y, z0, g⟩, ⟨0, .quo x y, z0, s⟩]
noncomputable def uT (s t : Bool) : List As := fits (uQ v0).1 (uQ v0).2 s t ++ [⟨1, nrm (uc, .neg v0), z0, false⟩]
noncomputable def tHT (c g d g2 s : Bool) : List As := [⟨1, .sub (nrm w0) uc, z0, c⟩, ⟨3, .sub (nrm w0) uc, z0, g⟩] ++ ovT v1 (.add uc v0) d g2 s
noncomputable def sT (d g s : Bool) : List As := ovT (.add v0 v1) (.sub uc (.mul v0 v1)) d g s
noncomputable def runU (S : Sums Sy) (f : FuncId) (ls : List Lay) (fs : List Sy) : Option (D3 Sy) := tells fs ls (call Tryz.prog symC S 60 f)
theorem tunit_run (s t : Bool) : runU (tuSums (uT s t)) 4 [.agg 3] (inp true 0) = some (andD s t (uQ v0).1 (uQ v0).2) := by
  cases s <;> cases t <;> kernel_rfl
theorem tunit_bad : runU (tuSums []) 4 [.agg 3] (inp false 0) = some (noD 2) := by kernel_rfl
theorem thalf_run (c g d g2 s : Bool) : runU (tuSums (tHT c g d g2 s)) 6 [.agg 6] (inp true 0 ++ inp true 1) = some (cond c (ovD d s (.quo v1 (.add uc v0))) (noT 2)) := by
  cases c <;> cases g <;> cases d <;> cases g2 <;> cases s <;> kernel_rfl
theorem thalf_bad : ∀ a b : Bool, (a && b) = false → runU (tuSums []) 6 [.agg 6] (inp a 0 ++ inp b 1) = some (noT 2) := by
  intro a b
  cases a <;> cases b <;> intro h <;> first | (cases h; done) | kernel_rfl
theorem tsum_run (d g s : Bool) : runU (tuSums (sT d g s)) 8 [.agg 3, .agg 3] (inp true 0 ++ inp true 1) = some (ovD d s (.quo (.add v0 v1) (.sub uc (.mul v0 v1)))) := by
  cases d <;> cases g <;> cases s <;> kernel_rfl
theorem tsum_bad : ∀ a b : Bool, (a && b) = false → runU (tuSums []) 8 [.agg 3, .agg 3] (inp a 0 ++ inp b 1) = some (noT 2) := by
  intro a b
  cases a <;> cases b <;> intro h <;> first | (cases h; done) | kernel_rfl
def okV (q : Rat) : Value := .tuple ⟨[fV q, .bool true, .int .i64 0]⟩
noncomputable def noV (n : Int) : Value := .tuple ⟨[fZ, .bool false, .int .i64 n]⟩
open Classical in
noncomputable def overV (x y : Rat) : Value := if y = 0 then noV 0 else if Fit (x / y) then okV (x / y) else noV 3
open Classical in
noncomputable def halfV (x y : Rat) : Value := if x * x + y * y = 1 then overV y (1 + x) else noV 2
def RetV (w : World) (v : Value) (e : Ending) (w' : World) : Prop := e = .returned v ∧ Below w.heap.size w w'
section
variable {ρ : Env} {w : World} {v : Value}
theorem okT_is {e : Qe} (h : (okT e).is (symSig ρ) w v) : v = okV (e.ev ρ.q) := by
  obtain ⟨vs, rfl, x1, u1, rfl, ⟨x, rfl, hx⟩, x2, u2, rfl, h2, x3, u3, rfl, h3, h4⟩ := h
  have hx' : D1.all (symSig ρ) w (seen e ++ []) x := by simpa using hx
  obtain ⟨us, rfl, hz⟩ := seen_is hx'
  obtain rfl : us = [] := hz
  obtain rfl : u3 = [] := h4
  rw [show x2 = .bool true from h2, show x3 = .int .i64 0 from h3, List.append_nil]
  rfl
theorem noT_is {n : Int} (h : (noT n).is (symSig ρ) w v) : v = noV n := by
  obtain ⟨vs, rfl, x1, u1, rfl, ⟨x, rfl, hx⟩, x2, u2, rfl, h2, x3, u3, rfl, h3, h4⟩ := h
  obtain rfl : u3 = [] := h4
  rw [all_p hx, show x2 = .bool false from h2, show x3 = .int .i64 n from h3]
  rfl
theorem ovD_is {d s : Bool} {x y : Qe} (hd : d = true ↔ y.ev ρ.q = 0) (hs : s = true ↔ Fit (x.ev ρ.q / y.ev ρ.q)) (h : (ovD d s (.quo x y)).is (symSig ρ) w v) : v = overV (x.ev ρ.q) (y.ev ρ.q) := by
  unfold ovD at h
  unfold overV
  cases d with
  | true => rw [if_pos (hd.1 rfl)]; exact noT_is h
  | false =>
    rw [if_neg fun h0 => by have := hd.2 h0; cases this]
    cases s with
    | true => rw [if_pos (hs.1 rfl)]; exact okT_is h
    | false => rw [if_neg fun h0 => by have := hs.2 h0; cases this]; exact noT_is h
theorem sub_zero_iff {p q : Rat} : p - q = 0 ↔ p = q := by
  constructor
  · intro h
    have : p = (p - q) + q := by grind
    rw [this, h, Rat.zero_add]
  · intro h
    rw [h, Rat.sub_self]
theorem ovT_hold {x y : Qe} {d g s : Bool} (hd : d = true ↔ y.ev ρ.q = 0) (hg : g = Big.ng (y.ev ρ.q)) (hs : s = true ↔ Fit (x.ev ρ.q / y.ev ρ.q)) : AllH ρ (ovT x y d g s) := fun z hz => by
  simp only [ovT, List.mem_cons, List.not_mem_nil, or_false] at hz
  rcases hz with rfl | rfl | rfl
  · exact hd
  · exact hg
  · exact hs
end
section
variable {f : FuncId} {w : World} {S : List As → Sums Sy}
theorem u_unit (hS : ∀ (ρ : Env) (A : List As), AllH ρ A → SumOK (symSig ρ) Tryz.prog (S A)) {e1 e2 : Qe} {T : Bool → Bool → List As} (run : ∀ s t, runU (S (T s t)) f [.agg 3] (inp true 0) = some (andD s t e1 e2)) {t : Rat} (ht : Fit t)
    (hA : ∀ s u, (s = true ↔ Fit (e1.ev (pick t 0 0 0))) → (u = true ↔ Fit (e2.ev (pick t 0 0 0))) → AllH (envOf t 0 0 0 ht fit_zero fit_zero fit_zero) (T s u)) (hG : Tryz.prog.globals.size ≤ w.heap.size) (hT : Tab w) :
    Calls Tryz.prog f ⟨[fV t]⟩ w (GRes w (e1.ev (pick t 0 0 0)) (e2.ev (pick t 0 0 0))) := by
  obtain ⟨s, hs⟩ := fit_bool (e1.ev (pick t 0 0 0))
  obtain ⟨u, hu⟩ := fit_bool (e2.ev (pick t 0 0 0))
  have hh : HoldsL (symSig (envOf t 0 0 0 ht fit_zero fit_zero fit_zero)) w (inp true 0) (cel (tri t)) := inp_holds (fun _ => rfl) (fun h => (by cases h))
  refine (tells_calls (symFits _) (hS _ _ (hA s u hs hu)) (run s u) rfl glob_few hh hG hT).mono ?_
  rintro e w' ⟨v', rfl, hv, hb'⟩
  refine ⟨?_, hb'⟩
  unfold andD at hv
  cases s with
  | true => cases u with
    | true => exact .inl ⟨⟨hs.1 rfl, hu.1 rfl⟩, by rw [okD_is hv]; rfl⟩
    | false => exact .inr ⟨fun h => (by have := hu.2 h.2; cases this), by rw [noD_is hv]⟩
  | false => exact .inr ⟨fun h => (by have := hs.2 h.1; cases this), by rw [noD_is hv]⟩
theorem u_bad1 (hS : ∀ (ρ : Env) (A : List As), AllH ρ A → SumOK (symSig ρ) Tryz.prog (S A)) (run : runU (S []) f [.agg 3] (inp false 0) = some (noD 2)) (x : Tri) (h : BadF x) (hG : Tryz.prog.globals.size ≤ w.heap.size) (hT : Tab w) :
    Calls Tryz.prog f ⟨[.agg ⟨cel x⟩]⟩ w (GErr w 2) := by
  obtain ⟨i, -⟩ := in4 x x x x
  have hA : AllH i.ρ [] := fun _ h => (by cases h)
  have ha : i.a = false := by
    cases ha : i.a with
    | false => rfl
    | true => rw [i.hx.1 ha] at h; exact absurd h (not_bad ((i.ρ.fit _ (by decide))))
  have hh := inp_holds (w := w) i.hx.1 i.hx.2
  rw [ha] at hh
  refine (tells_calls (symFits _) (hS _ _ hA) run rfl glob_few hh hG hT).mono ?_
  rintro e w' ⟨v', rfl, hv, hb'⟩
  exact ⟨by rw [noD_is hv], hb'⟩
theorem u_half (hS : ∀ (ρ : Env) (A : List As), AllH ρ A → SumOK (symSig ρ) Tryz.prog (S A)) (run : ∀ c g d g2 s, runU (S (tHT c g d g2 s)) f [.agg 6] (inp true 0 ++ inp true 1) = some (cond c (ovD d s (.quo v1 (.add uc v0))) (noT 2))) {x y : Rat} (hx : Fit x) (hy : Fit y) (hG : Tryz.prog.globals.size ≤ w.heap.size) (hT : Tab w) :
    Calls Tryz.prog f ⟨[gV x y]⟩ w (RetV w (halfV x y)) := by
  obtain ⟨c, hc⟩ := zero_bool (x * x + y * y - 1)
  obtain ⟨d, hd⟩ := zero_bool (1 + x)
  obtain ⟨s, hs⟩ := fit_bool (y / (1 + x))
  have hA : AllH (envOf x y 0 0 hx hy fit_zero fit_zero) (tHT c (Big.ng (x * x + y * y - 1)) d (Big.ng (1 + x)) s) := fun z hz => by
    rcases List.mem_append.1 hz with hz | hz
    · simp only [List.mem_cons, List.not_mem_nil, or_false] at hz
      rcases hz with rfl | rfl
      · exact hc
      · exact (rfl : Big.ng (x * x + y * y - 1) = _)
    · exact ovT_hold (ρ := envOf x y 0 0 hx hy fit_zero fit_zero) (x := v1) (y := .add uc v0) hd rfl hs z hz
  refine (tells_calls (symFits _) (hS _ _ hA) (run c _ d _ s) rfl glob_few (in2_holds hx hy 0 0 fit_zero fit_zero w) hG hT).mono ?_
  rintro e w' ⟨v', rfl, hv, hb'⟩
  refine ⟨?_, hb'⟩
  unfold halfV
  cases c with
  | true =>
    rw [if_pos (sub_zero_iff.1 (hc.1 rfl))]
    have := ovD_is (ρ := envOf x y 0 0 hx hy fit_zero fit_zero) (x := v1) (y := .add uc v0) hd hs hv
    rw [this]; rfl
  | false =>
    rw [if_neg fun h0 => by have := hc.2 (sub_zero_iff.2 h0); cases this]
    rw [noT_is hv]
theorem u_badN (hS : ∀ (ρ : Env) (A : List As), AllH ρ A → SumOK (symSig ρ) Tryz.prog (S A)) {ls : List Lay} (hl : plainLay ls = true) (run : ∀ a b : Bool, (a && b) = false → runU (S []) f ls (inp a 0 ++ inp b 1) = some (noT 2)) (x y : Tri) (h : BadF x ∨ BadF y) (hG : Tryz.prog.globals.size ≤ w.heap.size) (hT : Tab w) :
    Calls Tryz.prog f ⟨split ls (cel x ++ cel y)⟩ w (RetV w (noV 2)) := by
  obtain ⟨i, -⟩ := in4 x y x y
  have hA : AllH i.ρ [] := fun _ h => (by cases h)
  have hb : (i.a && i.b) = false := by
    cases ha : i.a with
    | false => rfl
    | true => cases hb : i.b with
      | false => rfl
      | true =>
        rcases h with h | h
        · rw [i.hx.1 ha] at h; exact absurd h (not_bad ((i.ρ.fit _ (by decide))))
        · rw [i.hy.1 hb] at h; exact absurd h (not_bad ((i.ρ.fit _ (by decide))))
  refine (tells_calls (symFits _) (hS _ _ hA) (run _ _ hb) hl glob_few (holdsL_append (inp_holds (w := w) i.hx.1 i.hx.2) (inp_holds i.hy.1 i.hy.2)) hG hT).mono ?_
  rintro e w' ⟨v', rfl, hv, hb'⟩
  exact ⟨by rw [noT_is hv], hb'⟩
theorem u_sum (hS : ∀ (ρ : Env) (A : List As), AllH ρ A → SumOK (symSig ρ) Tryz.prog (S A)) (run : ∀ d g s, runU (S (sT d g s)) f [.agg 3, .agg 3] (inp true 0 ++ inp true 1) = some (ovD d s (.quo (.add v0 v1) (.sub uc (.mul v0 v1))))) {x y : Rat} (hx : Fit x) (hy : Fit y) (hG : Tryz.prog.globals.size ≤ w.heap.size) (hT : Tab w) :
    Calls Tryz.prog f ⟨[fV x, fV y]⟩ w (RetV w (overV (x + y) (1 - x * y))) := by
  obtain ⟨d, hd⟩ := zero_bool (1 - x * y)
  obtain ⟨s, hs⟩ := fit_bool ((x + y) / (1 - x * y))
  have hA : AllH (envOf x y 0 0 hx hy fit_zero fit_zero) (sT d (Big.ng (1 - x * y)) s) :=
    ovT_hold (ρ := envOf x y 0 0 hx hy fit_zero fit_zero) (x := .add v0 v1) (y := .sub uc (.mul v0 v1)) hd rfl hs
  refine (tells_calls (symFits _) (hS _ _ hA) (run d _ s) rfl glob_few (in2_holds hx hy 0 0 fit_zero fit_zero w) hG hT).mono ?_
  rintro e w' ⟨v', rfl, hv, hb'⟩
  refine ⟨?_, hb'⟩
  have := ovD_is (ρ := envOf x y 0 0 hx hy fit_zero fit_zero) (x := .add v0 v1) (y := .sub uc (.mul v0 v1)) hd hs hv
  rw [this]; rfl
end
section
variable {w : World}
theorem one_sq (t : Rat) : ¬ 1 + t * t = 0 := fun h => by
  have h1 := sq_nonneg t
  have h2 : (0 : Rat) ≤ 1 := by decide
  have : (1 : Rat) = 0 := by grind
  exact absurd this (by decide)
theorem uQ_1 (t : Rat) : (1 * 1 - t * -(-t)) / (1 * 1 + -t * -t) = (1 - t * t) / (1 + t * t) := by
  have e1 : 1 * 1 - t * -(-t) = 1 - t * t := by grind
  have e2 : 1 * 1 + -t * -t = 1 + t * t := by grind
  rw [e1, e2]
theorem uQ_2 (t : Rat) : (1 * -(-t) + t * 1) / (1 * 1 + -t * -t) = (t + t) / (1 + t * t) := by
  have e1 : 1 * -(-t) + t * 1 = t + t := by grind
  have e2 : 1 * 1 + -t * -t = 1 + t * t := by grind
  rw [e1, e2]
theorem tunit_any {t : Rat} (ht : Fit t) (hG : Tryz.prog.globals.size ≤ w.heap.size) (hT : Tab w) : Calls Tryz.prog 4 ⟨[fV t]⟩ w (GRes w ((1 - t * t) / (1 + t * t)) ((t + t) / (1 + t * t))) := by
  have h := u_unit (S := tuSums) (w := w) (fun _ _ h => tuSums_ok h) tunit_run ht (fun s u hs hu z hz => by
    rcases List.mem_append.1 hz with hz | hz
    · exact fits_hold (ρ := envOf t 0 0 0 ht fit_zero fit_zero fit_zero) (e := (uQ v0).1) (f := (uQ v0).2) hs hu z hz
    · simp only [List.mem_cons, List.not_mem_nil, or_false] at hz
      subst hz
      exact ⟨fun h => (by cases h), fun h => absurd (show 1 + t * t = 0 by
        have h2 : (1 : Rat) * 1 + -t * -t = 0 := h
        rw [← h2]; grind) (one_sq t)⟩) hG hT
  have e1 : (uQ v0).1.ev (pick t 0 0 0) = (1 - t * t) / (1 + t * t) := uQ_1 t
  have e2 : (uQ v0).2.ev (pick t 0 0 0) = (t + t) / (1 + t * t) := uQ_2 t
  rw [e1, e2] at h
  exact h
theorem tunit_none (x : Tri) (h : BadF x) (hG : Tryz.prog.globals.size ≤ w.heap.size) (hT : Tab w) : Calls Tryz.prog 4 ⟨[.agg ⟨cel x⟩]⟩ w (GErr w 2) :=
  u_bad1 (S := tuSums) (fun _ _ h => tuSums_ok h) tunit_bad x h hG hT
theorem thalf_any {x y : Rat} (hx : Fit x) (hy : Fit y) (hG : Tryz.prog.globals.size ≤ w.heap.size) (hT : Tab w) : Calls Tryz.prog 6 ⟨[gV x y]⟩ w (RetV w (halfV x y)) :=
  u_half (S := tuSums) (fun _ _ h => tuSums_ok h) thalf_run hx hy hG hT
theorem thalf_none (x y : Tri) (h : BadF x ∨ BadF y) (hG : Tryz.prog.globals.size ≤ w.heap.size) (hT : Tab w) : Calls Tryz.prog 6 ⟨[.agg ⟨cel x ++ cel y⟩]⟩ w (RetV w (noV 2)) :=
  u_badN (S := tuSums) (fun _ _ h => tuSums_ok h) (ls := [.agg 6]) rfl thalf_bad x y h hG hT
theorem tsum_any {x y : Rat} (hx : Fit x) (hy : Fit y) (hG : Tryz.prog.globals.size ≤ w.heap.size) (hT : Tab w) : Calls Tryz.prog 8 ⟨[fV x, fV y]⟩ w (RetV w (overV (x + y) (1 - x * y))) :=
  u_sum (S := tuSums) (fun _ _ h => tuSums_ok h) tsum_run hx hy hG hT
theorem tsum_none (x y : Tri) (h : BadF x ∨ BadF y) (hG : Tryz.prog.globals.size ≤ w.heap.size) (hT : Tab w) : Calls Tryz.prog 8 ⟨[.agg ⟨cel x⟩, .agg ⟨cel y⟩]⟩ w (RetV w (noV 2)) :=
  u_badN (S := tuSums) (fun _ _ h => tuSums_ok h) (ls := [.agg 3, .agg 3]) rfl tsum_bad x y h hG hT
end
end Ev
end Go.Proofs.YtepnghhgmjobjaaGreat
namespace Go.Proofs.YtepnghhgmjobjaaGreat
open Go Go.RowKit
namespace Ev
set_option maxRecDepth 100000
theorem goes_aggT2 {F : Type} {S : Sig F} {P : Program} {l : List F} {f : FuncId} {args' : List Value} {h h' : Tr (Blk F)} {nx nx' : Nat} {R W : List Nat} {r : Ren} {w : World} {v u u2 : Value} (hp : plain u = true) (hp2 : plain u2 = true)
    (e : (bind (newFacts l) fun vs => ret (.tuple ⟨[.agg ⟨vs⟩, u, u2]⟩) : M F Value) h nx = .ok v h' nx' R W) (hM : Mod S r h.get w) (hN : New r nx nx') (c : Calls P f ⟨args'⟩ w fun e w' => ∃ us, e = .returned (.tuple ⟨[.agg ⟨us⟩, u, u2]⟩) ∧ HoldsL S w' l us ∧ Below w.heap.size w w') :
    Calls P f ⟨args'⟩ w fun e w' => ∃ v' r', e = .returned v' ∧ VR r' v v' ∧ Ext S r w nx nx' W h'.get r' w' := by
  obtain ⟨vs, h1, nx1, R1, W1, R2, W2, e1, e2, rfl, rfl⟩ := bind_ok e
  obtain ⟨rfl, rfl, rfl, rfl⟩ := ret_ok e2
  refine c.mono ?_
  rintro en w' ⟨us, rfl, hu, hb⟩
  have hX := ext_below hM hb nx
  obtain ⟨hle, r', hY, hv⟩ := newFacts_ok l e1 hX.mod hN hu
  exact ⟨_, r', rfl, .tuple (.cons (.agg hv) (.cons (.same hp) (.cons (.same hp2) .nil))), by simpa using hX.trans hY (Nat.le_refl _) hle⟩
section
variable {ρ : Env} {A : List As} {B : List Ps} {h h' : Tr (Blk Sy)} {nx nx' : Nat} {R W : List Nat} {r : Ren} {w : World}
noncomputable def frc1 (g : Option Qe → M Sy Value) (args : List Value) : Option (M Sy Value) := match args with
  | [a] => match a with
    | .agg cs => some (bind (frcV cs.toList) fun x => g x)
    | _ => none
  | _ => none
theorem frc1_ok {f : FuncId} {g : Option Qe → M Sy Value} (hl : ∀ x, Loc (g x))
    (hk : ∀ x (h : Tr (Blk Sy)) nx v h' nx' R W, g x h nx = .ok v h' nx' R W → ∀ r w l, FrcIs ρ l x → Mod (symSig ρ) r h.get w → New r nx nx' → GoesS ρ f [.agg ⟨l⟩] r w nx nx' W h'.get v) :
    SumF (symSig ρ) Tryz.prog f (frc1 g) := by
  intro args m e
  unfold frc1 at e
  rcases args with _ | ⟨a, _ | ⟨c, l⟩⟩ <;> simp only [reduceCtorEq] at e
  cases a <;> simp only [reduceCtorEq, Option.some.injEq] at e
  rename_i cs
  subst e
  refine ⟨loc_bind (loc_frcV _) fun x => hl x, ?_⟩
  intro h nx v h' nx' R W e r w args' ha hM hN
  cases ha with
  | cons ha1 ha2 =>
    cases ha2
    obtain ⟨cl⟩ := cs
    obtain ⟨cl', rfl, hc⟩ := vr_agg ha1
    obtain ⟨x, h1, nx1, R1, W1, R2, W2, e1, e2, rfl, rfl⟩ := bind_ok e
    obtain ⟨rfl, rfl, rfl, hx⟩ := frcV_ok e1 hc hM
    simpa [GoesS] using hk x _ _ _ _ _ _ _ e2 r w _ hx hM hN
noncomputable def frc2 (g : Option Qe → Option Qe → M Sy Value) (args : List Value) : Option (M Sy Value) := match args with
  | [a, b] => match a with
    | .agg cs => match b with
      | .agg ds => some (bind (frcV cs.toList) fun x => bind (frcV ds.toList) fun y => g x y)
      | _ => none
    | _ => none
  | _ => none
theorem frc2_ok {f : FuncId} {g : Option Qe → Option Qe → M Sy Value} (hl : ∀ x y, Loc (g x y))
    (hk : ∀ x y (h : Tr (Blk Sy)) nx v h' nx' R W, g x y h nx = .ok v h' nx' R W → ∀ r w l m, FrcIs ρ l x → FrcIs ρ m y → Mod (symSig ρ) r h.get w → New r nx nx' → GoesS ρ f [.agg ⟨l⟩, .agg ⟨m⟩] r w nx nx' W h'.get v) :
    SumF (symSig ρ) Tryz.prog f (frc2 g) := by
  intro args m e
  unfold frc2 at e
  rcases args with _ | ⟨a, _ | ⟨b, _ | ⟨c, l⟩⟩⟩ <;> simp only [reduceCtorEq] at e
  cases a <;> simp only [reduceCtorEq] at e
  rename_i cs
  cases b <;> simp only [reduceCtorEq, Option.some.injEq] at e
  rename_i ds
  subst e
  refine ⟨loc_bind (loc_frcV _) fun x => loc_bind (loc_frcV _) fun y => hl x y, ?_⟩
  intro h nx v h' nx' R W e r w args' ha hM hN
  cases ha with
  | cons ha1 ha2 =>
    cases ha2 with
    | cons hb1 hb2 =>
      cases hb2
      obtain ⟨cl⟩ := cs
      obtain ⟨dl⟩ := ds
      obtain ⟨cl', rfl, hc⟩ := vr_agg ha1
      obtain ⟨dl', rfl, hd⟩ := vr_agg hb1
      obtain ⟨x, h1, nx1, R1, W1, R2, W2, e1, e2, rfl, rfl⟩ := bind_ok e
      obtain ⟨rfl, rfl, rfl, hx⟩ := frcV_ok e1 hc hM
      obtain ⟨y, h2, nx2, R3, W3, R4, W4, e3, e4, rfl, rfl⟩ := bind_ok e2
      obtain ⟨rfl, rfl, rfl, hy⟩ := frcV_ok e3 hd hM
      simpa [GoesS] using hk x y _ _ _ _ _ _ _ e4 r w _ _ hx hy hM hN
noncomputable def ansT (B : List Ps) (e : Qe) : M Sy Value := match askP B e e with
  | some t => cond t (bind (newFacts (frs e)) fun vs => ret (.tuple ⟨[.agg ⟨vs⟩, .bool true, .int .i64 0]⟩)) (ret (noV 3))
  | none => fail
noncomputable def overS (A : List As) (B : List Ps) (x y : Qe) : M Sy Value := match noughtB A y with
  | some d => cond d (ret (noV 0)) (ansT B (.quo x y))
  | none => fail
theorem loc_ansT (B : List Ps) (e : Qe) : Loc (ansT B e) := by
  unfold ansT
  split
  · exact loc_cond (loc_bind (loc_newFacts _) fun _ => loc_ret _) (loc_ret _)
  · exact loc_fail
theorem loc_overS (A : List As) (B : List Ps) (x y : Qe) : Loc (overS A B x y) := by
  unfold overS
  split
  · exact loc_cond (loc_ret _) (loc_ansT _ _)
  · exact loc_fail
theorem overS_ok (hA : AllH ρ A) (hB : AllP ρ B) {x y : Qe} {f : FuncId} {args' : List Value} {v : Value} (e : overS A B x y h nx = .ok v h' nx' R W) (hM : Mod (symSig ρ) r h.get w) (hN : New r nx nx') (c : Calls Tryz.prog f ⟨args'⟩ w (RetV w (overV (x.ev ρ.q) (y.ev ρ.q)))) : GoesS ρ f args' r w nx nx' W h'.get v := by
  unfold overS at e
  cases hn : noughtB A y with
  | none => rw [hn] at e; exact absurd e (by simp [fail])
  | some d =>
    rw [hn] at e
    have hd := noughtB_ok hA hn
    unfold overV at c
    cases d with
    | true =>
      rw [if_pos (hd.1 rfl)] at c
      exact goes_pl e rfl hM c
    | false =>
      rw [if_neg fun h0 => by have := hd.2 h0; cases this] at c
      simp only [cond_false] at e
      unfold ansT at e
      cases ha : askP B (.quo x y) (.quo x y) with
      | none => rw [ha] at e; exact absurd e (by simp [fail])
      | some t =>
        rw [ha] at e
        have hf := askP_ok hB ha
        cases t with
        | true =>
          have hff : Fit (x.ev ρ.q / y.ev ρ.q) := (hf.1 rfl).1
          rw [if_pos hff] at c
          simp only [cond_true] at e
          exact goes_aggT2 rfl rfl e hM hN (c.mono fun _ w' hh => ⟨_, hh.1, frs_holds w' (.quo x y), hh.2⟩)
        | false =>
          have hff : ¬ Fit (x.ev ρ.q / y.ev ρ.q) := fun h0 => by have := hf.2 ⟨h0, h0⟩; cases this
          rw [if_neg hff] at c
          exact goes_pl e rfl hM c
noncomputable def unitS (B : List Ps) (o : Option Qe) : M Sy Value := match o with
  | some t => cond (fitT B t) (ansG B (uR t)) fail
  | none => ret (errG 2)
noncomputable def halfS (A : List As) (B : List Ps) (o : Option (Qe × Qe)) : M Sy Value := match o with
  | some z => cond (fitT B z.1 && fitT B z.2) (match ask A 2 (nrm z) uc with
    | some c => cond c (overS A B z.2 (.add uc z.1)) (ret (noV 2))
    | none => fail) fail
  | none => ret (noV 2)
noncomputable def sumS (A : List As) (B : List Ps) (o p : Option Qe) : M Sy Value := match o with
  | some s => match p with
    | some t => cond (fitT B s && fitT B t) (overS A B (.add s t) (.sub uc (.mul s t))) fail
    | none => ret (noV 2)
  | none => ret (noV 2)
theorem loc_unitS (o : Option Qe) : Loc (unitS B o) := by
  unfold unitS
  split
  · exact loc_cond (loc_ansG _ _) loc_fail
  · exact loc_ret _
theorem loc_halfS (o : Option (Qe × Qe)) : Loc (halfS A B o) := by
  unfold halfS
  split
  · refine loc_cond ?_ loc_fail
    split
    · exact loc_cond (loc_overS _ _ _ _) (loc_ret _)
    · exact loc_fail
  · exact loc_ret _
theorem loc_sumS (o p : Option Qe) : Loc (sumS A B o p) := by
  unfold sumS
  (repeat' split) <;> first | exact loc_ret _ | exact loc_cond (loc_overS _ _ _ _) loc_fail
theorem s_unit (hB : AllP ρ B) {f : FuncId}
    (hok : ∀ (w : World) (t : Rat), Fit t → Tryz.prog.globals.size ≤ w.heap.size → Tab w → Calls Tryz.prog f ⟨[fV t]⟩ w (GRes w ((1 - t * t) / (1 + t * t)) ((t + t) / (1 + t * t))))
    (hbad : ∀ (w : World) (x : Tri), BadF x → Tryz.prog.globals.size ≤ w.heap.size → Tab w → Calls Tryz.prog f ⟨[.agg ⟨cel x⟩]⟩ w (GErr w 2)) : SumF (symSig ρ) Tryz.prog f (frc1 (unitS B)) :=
  frc1_ok (fun x => loc_unitS x) fun x h nx v h' nx' R W e r w l hx hM hN => by
    have hG := mod_G hM rfl
    have hT : Tab w := hM.base
    unfold unitS at e
    cases x with
    | none =>
      obtain ⟨x1, hb, rfl⟩ := hx
      exact goes_pl e rfl hM (hbad w x1 hb hG hT)
    | some t =>
      obtain rfl : l = _ := hx
      obtain ⟨hf, e⟩ := cond_ok e
      have c := hok w (t.ev ρ.q) (fitT_ok hB hf) hG hT
      refine ansG_ok hB e hM hN ?_
      have e1 : (uR t).1.ev ρ.q = (1 - t.ev ρ.q * t.ev ρ.q) / (1 + t.ev ρ.q * t.ev ρ.q) := by
        show (uc.ev ρ.q - _) / (uc.ev ρ.q + _) = _
        rw [uc_ev]; rfl
      have e2 : (uR t).2.ev ρ.q = (t.ev ρ.q + t.ev ρ.q) / (1 + t.ev ρ.q * t.ev ρ.q) := by
        show _ / (uc.ev ρ.q + _) = _
        rw [uc_ev]; rfl
      rw [e1, e2]
      exact c
theorem s_half (hA : AllH ρ A) (hB : AllP ρ B) {f : FuncId}
    (hok : ∀ (w : World) (x y : Rat), Fit x → Fit y → Tryz.prog.globals.size ≤ w.heap.size → Tab w → Calls Tryz.prog f ⟨[gV x y]⟩ w (RetV w (halfV x y)))
    (hbad : ∀ (w : World) (x y : Tri), (BadF x ∨ BadF y) → Tryz.prog.globals.size ≤ w.heap.size → Tab w → Calls Tryz.prog f ⟨[.agg ⟨cel x ++ cel y⟩]⟩ w (RetV w (noV 2))) : SumF (symSig ρ) Tryz.prog f (gop1 (halfS A B)) :=
  gop1_ok (fun x => loc_halfS x) fun x h nx v h' nx' R W e r w l hx hM hN => by
    have hG := mod_G hM rfl
    have hT : Tab w := hM.base
    unfold halfS at e
    cases x with
    | none =>
      obtain ⟨x1, x2, hb, rfl⟩ := hx
      exact goes_pl e rfl hM (hbad w x1 x2 hb hG hT)
    | some z =>
      obtain rfl : l = _ := hx
      obtain ⟨hf, e⟩ := cond_ok e
      simp only [Bool.and_eq_true] at hf
      have c := hok w (z.1.ev ρ.q) (z.2.ev ρ.q) (fitT_ok hB hf.1) (fitT_ok hB hf.2) hG hT
      unfold halfV at c
      cases ha : ask A 2 (nrm z) uc with
      | none => rw [ha] at e; exact absurd e (by simp [fail])
      | some cb =>
        rw [ha] at e
        have hc := ask_same hA ha
        rw [uc_ev] at hc
        have hc' : cb = true ↔ z.1.ev ρ.q * z.1.ev ρ.q + z.2.ev ρ.q * z.2.ev ρ.q = 1 := hc
        cases cb with
        | true =>
          rw [if_pos (hc'.1 rfl)] at c
          have e1 : (Qe.add uc z.1).ev ρ.q = 1 + z.1.ev ρ.q := by
            show uc.ev ρ.q + _ = _
            rw [uc_ev]
          rw [← e1] at c
          exact overS_ok hA hB e hM hN c
        | false =>
          rw [if_neg fun h0 => by have := hc'.2 h0; cases this] at c
          exact goes_pl e rfl hM c
theorem s_sum (hA : AllH ρ A) (hB : AllP ρ B) {f : FuncId}
    (hok : ∀ (w : World) (x y : Rat), Fit x → Fit y → Tryz.prog.globals.size ≤ w.heap.size → Tab w → Calls Tryz.prog f ⟨[fV x, fV y]⟩ w (RetV w (overV (x + y) (1 - x * y))))
    (hbad : ∀ (w : World) (x y : Tri), (BadF x ∨ BadF y) → Tryz.prog.globals.size ≤ w.heap.size → Tab w → Calls Tryz.prog f ⟨[.agg ⟨cel x⟩, .agg ⟨cel y⟩]⟩ w (RetV w (noV 2))) : SumF (symSig ρ) Tryz.prog f (frc2 (sumS A B)) :=
  frc2_ok (fun x y => loc_sumS x y) fun x y h nx v h' nx' R W e r w l m hx hy hM hN => by
    have hG := mod_G hM rfl
    have hT : Tab w := hM.base
    have hx' : ∃ x1 : Tri, l = cel x1 ∧ (x = none → BadF x1) := by
      cases x with
      | none => obtain ⟨x1, hb, rfl⟩ := hx; exact ⟨x1, rfl, fun _ => hb⟩
      | some s => exact ⟨tri (s.ev ρ.q), hx, fun h => by cases h⟩
    have hy' : ∃ y1 : Tri, m = cel y1 ∧ (y = none → BadF y1) := by
      cases y with
      | none => obtain ⟨x1, hb, rfl⟩ := hy; exact ⟨x1, rfl, fun _ => hb⟩
      | some s => exact ⟨tri (s.ev ρ.q), hy, fun h => by cases h⟩
    obtain ⟨x1, l1, bx⟩ := hx'
    obtain ⟨y1, m1, by1⟩ := hy'
    unfold sumS at e
    cases x with
    | none =>
      rw [l1, m1]
      exact goes_pl e rfl hM (hbad w x1 y1 (.inl (bx rfl)) hG hT)
    | some s =>
      cases y with
      | none =>
        rw [l1, m1]
        exact goes_pl e rfl hM (hbad w x1 y1 (.inr (by1 rfl)) hG hT)
      | some t =>
        obtain rfl : l = _ := hx
        obtain rfl : m = _ := hy
        simp only at e
        obtain ⟨hf, e⟩ := cond_ok e
        simp only [Bool.and_eq_true] at hf
        have c := hok w (s.ev ρ.q) (t.ev ρ.q) (fitT_ok hB hf.1) (fitT_ok hB hf.2) hG hT
        have e1 : (Qe.sub uc (.mul s t)).ev ρ.q = 1 - s.ev ρ.q * t.ev ρ.q := by
          show uc.ev ρ.q - _ = _
          rw [uc_ev]; rfl
        rw [← e1] at c
        exact overS_ok (x := .add s t) hA hB e hM hN c
end
noncomputable def works7 : Fact := ⟨10, [], .bool true⟩
theorem works7_ok : works7.ok := Fact.of_run (n := 60) (by kernel_rfl) rfl
end Ev
end Go.Proofs.YtepnghhgmjobjaaGreat
namespace Go.Proofs.YtepnghhgmjobjaaGreat
namespace R
open Go.RowKit
theorem infoU8 : (Tryz.prog.info? 5).map (fun i => (i.zero, i.size, i.bytes)) = some (some (.int .u8 0), 1, 1) := by kernel_rfl
theorem M32_pow : M32 = 256 ^ 4 := by unfold M32; decide
theorem byte_div (n q r : Nat) (hr : r < 4) : n / M32 ^ q % M32 / 2 ^ (8 * r) % 256 = n / 256 ^ (4 * q + r) % 256 := by
  rw [Nat.mul_comm 8 r, ← Big.pow256, M32_pow, ← Nat.pow_mul, Nat.pow_add, ← Nat.div_div_eq_div_mul]
  generalize n / 256 ^ (4 * q) = m
  have e : 256 ^ 4 = 256 ^ r * 256 ^ (4 - r) := by rw [← Nat.pow_add]; congr 1; omega
  rw [e, Nat.mod_mul_right_div_self]
  have e2 : 256 ^ (4 - r) = 256 * 256 ^ (4 - r - 1) := by rw [← Nat.pow_succ']; congr 1; omega
  rw [e2, Nat.mod_mul_right_mod]
theorem isSize_bits {n s : Nat} (h : IsBits n s) : Big.IsSize n ((s + 7) / 8) := by
  obtain ⟨h1, h2⟩ := h
  refine ⟨?_, fun hp => ?_⟩
  · rw [Big.pow256]
    exact Nat.lt_of_lt_of_le h1 (Nat.pow_le_pow_right (by omega) (by omega))
  · rw [Big.pow256]
    exact Nat.le_trans (Nat.pow_le_pow_right (by omega) (by omega)) (h2 (by omega))
theorem take_set {T : List Nat} {I s d : Nat} (hT : T.length = s) (hI : I < s) (hd : Big.nth T I = d) : (T.take I ++ List.replicate (s - I) 0).set I d = T.take (I + 1) ++ List.replicate (s - (I + 1)) 0 := by
  have hl : (T.take I).length = I := by simp; omega
  rw [List.set_append_right _ _ (by omega), hl, Nat.sub_self, show s - I = (s - (I + 1)) + 1 by omega, List.replicate_succ, List.set_cons_zero, Big.take_succ T I (by omega), hd]
  simp
theorem rev_bd (n s I : Nat) (h : I < s) : Big.nth (Big.bd n s).reverse I = n / 256 ^ (s - 1 - I) % 256 := by
  unfold Big.nth
  rw [List.getD_eq_getElem?_getD, List.getElem?_reverse (by rw [Big.bd_length]; exact h), Big.bd_length]
  unfold Big.bd
  rw [List.getElem?_map, List.getElem?_range (by omega)]
  rfl
set_option maxRecDepth 100000 in
set_option maxHeartbeats 400000 in
theorem bytes_any (w : World) (bx ox n : Nat) (s : Bool) (h : IntAt w bx ox s n) (hn : Sml n) :
    Calls Tryz.prog 94 #[.pointer (some ⟨bx, ox, none⟩)] w fun e w' => ∃ v', e = .returned v' ∧ Bt w' v' (btx n) ∧ Below w.heap.size w w' := by
  obtain ⟨-, u, hc, hu⟩ := h
  obtain ⟨l, hw, ol, nl, hv, hl⟩ := nin_list hu hn
  have HCB := Lib.hid (bitsOf_any w u l hw ol nl (by omega))
  rw [hv] at HCB
  have HW := Lib.hid hw; have OL := Lib.hid ol; have HVAL := Lib.hid hv
  obtain ⟨A, c, rfl, -, -, -⟩ := hw
  obtain ⟨i0, hi, hz0, hz1, hz2⟩ := info_parts infoU8
  have hlt := cell_lt hc
  clear ol nl hv hu hn
  go_enter Tryz.func94, Tryz.ntmps94
  go_wp2_with fail
  with_reducible refine HCB.out.mono ?_
  rintro e w1 ⟨sb, rfl, hsb, hsb1, -, rfl⟩
  obtain ⟨sz, hsz⟩ : ∃ z, (sb + 7) / 8 = z := ⟨_, rfl⟩
  have es : ((sb : Int) + 7) / 8 = (sz : Int) := by omega
  have HSZ := Lib.hid (show Big.IsSize n sz by rw [← hsz]; exact isSize_bits hsb)
  have hsb2 : sz ≤ 800000000 := by omega
  have hmk := fun W => make_words (P := Tryz.prog) Tryz.underlying119 hi hz0 hz1 (by rw [hz2]; omega) .i64 .i64 sz sz (Nat.le_refl _) (by omega) W
  have HB1 := Lib.hid (Blk.new w 5 .u8 (List.replicate sz 0))
  have HBel1 := Lib.hid ((Below.refl w.heap.size w).alloc (Nat.le_refl _) (.cells (cellsOf .u8 (List.replicate sz 0)) 5))
  clear hsb hsb1 hsz
  go_wp2_with fail
  clear hmk hi hz0 hz1 hz2
  simp only [es]
  go_loopw [5] (fun i wr => ∃ (I : Nat), I ≤ sz ∧ i = .int .i64 I ∧
      Hid (Blk wr w.heap.size 5 .u8 ((Big.bd n sz).reverse.take I ++ List.replicate (sz - I) 0)) ∧ Hid (Below w.heap.size w wr))
    (fun i _ => sz - (intOf i).toNat)
  case atStart => exact ⟨0, by omega, rfl, Lib.hid (by simpa using HB1.out), HBel1⟩
  case round =>
    obtain ⟨I, hI, rfl, HB, HBel⟩ := hrel
    by_cases hkn : I < sz
    · obtain ⟨k, hk⟩ : ∃ k, sz - 1 - I = k := ⟨_, rfl⟩
      have ek : (sz : Int) - 1 - (I : Int) = (k : Int) := by omega
      obtain ⟨q, r, hqr, hr⟩ : ∃ q r, k = 4 * q + r ∧ r < 4 := ⟨k / 4, k % 4, by omega, by omega⟩
      have hq : q < l.length := by
        rcases Nat.lt_or_ge q l.length with h1 | h1
        · exact h1
        · exfalso
          have h2 := HSZ.out.2 (by omega)
          have h3 := Big.val_lt l OL.out
          rw [HVAL.out, M32_pow, ← Nat.pow_mul] at h3
          have h4 : 256 ^ (4 * l.length) ≤ 256 ^ (sz - 1) := Nat.pow_le_pow_right (by omega) (by omega)
          omega
      obtain ⟨A', c', e, x1, x2, x3⟩ := HW.out
      cases e
      obtain ⟨b, o, rfl, hblt, hcc, -⟩ := x3 (by omega)
      have hcell := (HBel.out.cell (p := ⟨b, o + q, none⟩) hblt).trans (hcc q hq)
      have hcu := (HBel.out.cell (p := ⟨bx, ox + 1, none⟩) hlt).trans hc
      have hst := HB.out.cell I (by simp [Big.bd_length]; omega)
      have hfr := HB.out.frozen I
      have d1 : (k : Int) / 4 = (q : Int) := by omega
      have d2 : (k : Int) % 4 = (r : Int) := by omega
      have hql : (q : Int) < (l.length : Int) := by omega
      have ev := Big.nth_div M32_pos l OL.out q
      rw [HVAL.out] at ev
      have hxm := nth_lt OL.out q
      have hbyte := rev_bd n sz I hkn
      rw [hk] at hbyte
      generalize Big.nth l q = xq at hcell ev hxm
      have hv : ((xq : Nat) : Int) / 2 ^ (8 * r) % 256 = ((n / 256 ^ k % 256 : Nat) : Int) := by
        rw [hqr, ← byte_div n q r hr, ← ev]
        rw [show ((2 : Int) ^ (8 * r)) = ((2 ^ (8 * r) : Nat) : Int) by rw [Int.natCast_pow]; rfl]
        omega
      have HBY := Lib.hid hbyte
      obtain ⟨y, hy⟩ : ∃ y, n / 256 ^ k % 256 = y := ⟨_, rfl⟩
      rw [hy] at hv HBY
      have HV := Lib.hid hv
      have e8 : (8 * (r : Int)).toNat = 8 * r := by omega
      have hr8 : (8 * (r : Int)) < 32 := by omega
      clear hk hqr hcc x3 ev hbyte hy hv
      go_wp2_with fail
      rw [HV.out]
      refine ⟨⟨I + 1, by omega, by go_num, Lib.hid ?_, Lib.hid (HBel.out.setCell (Nat.le_refl _) _)⟩, by simp [intOf]; omega⟩
      have := HB.out.set I y
      rw [take_set (by simp [Big.bd_length]) hkn HBY.out] at this
      exact this
    · have hkl : I = sz := by omega
      subst hkl
      have hB := HB.out
      rw [Nat.sub_self, List.replicate_zero, List.append_nil, List.take_of_length_le (by simp [Big.bd_length])] at hB
      have HBB := Lib.hid hB
      clear hB
      go_wp2
      go_ret
      refine ⟨_, rfl, ?_, HBel.out⟩
      rw [← btx_of HSZ.out]
      have hbl := Big.btext_length n I
      refine ⟨some ⟨w.heap.size, 0, none⟩, I, by rw [hbl]; rfl, by rw [hbl]; exact Nat.le_refl _, fun _ => ⟨w.heap.size, 0, rfl, HBB.out.lt, fun i hi => ?_, _, _, HBB.out⟩⟩
      rw [Nat.zero_add, ← Big.btext_get n I i hi]
      exact HBB.out.cell i (by rw [List.length_reverse, Big.bd_length, ← hbl]; exact hi)
end R
end Go.Proofs.YtepnghhgmjobjaaGreat
namespace Go.Proofs.YtepnghhgmjobjaaGreat
open Go Go.RowKit
namespace Ev
inductive Xe where
  | v (i : Nat)
  | c (n : Nat)
  | add (a b : Xe)
  | sub (a b : Xe)
  | mul (a b : Xe)
  | quo (a b : Xe)
  | gcd (a b : Xe)
def Xe.ev (ρ : Nat → Nat) : Xe → Nat
  | .v i => ρ i
  | .c n => n
  | .add a b => a.ev ρ + b.ev ρ
  | .sub a b => a.ev ρ - b.ev ρ
  | .mul a b => a.ev ρ * b.ev ρ
  | .quo a b => a.ev ρ / b.ev ρ
  | .gcd a b => Nat.gcd (a.ev ρ) (b.ev ρ)
noncomputable def Xe.beq : Xe → Xe → Bool := Xe.rec (motive := fun _ => Xe → Bool)
  (fun i y => match y with | .v j => Nat.beq i j | _ => false)
  (fun n y => match y with | .c m => Nat.beq n m | _ => false)
  (fun _ _ iha ihb y => match y with | .add a b => iha a && ihb b | _ => false)
  (fun _ _ iha ihb y => match y with | .sub a b => iha a && ihb b | _ => false)
  (fun _ _ iha ihb y => match y with | .mul a b => iha a && ihb b | _ => false)
  (fun _ _ iha ihb y => match y with | .quo a b => iha a && ihb b | _ => false)
  (fun _ _ iha ihb y => match y with | .gcd a b => iha a && ihb b | _ => false)
theorem Xe.beq_ok : ∀ (a b : Xe), a.beq b = true → a = b := by
  intro a
  induction a with
  | v i =>
    intro b h
    cases b with
    | v j => rw [Nat.eq_of_beq_eq_true (show Nat.beq i j = true from h)]
    | _ => exact absurd (show false = true from h) (by simp)
  | c n =>
    intro b h
    cases b with
    | c m => rw [Nat.eq_of_beq_eq_true (show Nat.beq n m = true from h)]
    | _ => exact absurd (show false = true from h) (by simp)
  | add a b iha ihb =>
    intro y h
    cases y with
    | add a' b' =>
      have h' : (a.beq a' && b.beq b') = true := h
      simp only [Bool.and_eq_true] at h'
      rw [iha _ h'.1, ihb _ h'.2]
    | _ => exact absurd (show false = true from h) (by simp)
  | sub a b iha ihb =>
    intro y h
    cases y with
    | sub a' b' =>
      have h' : (a.beq a' && b.beq b') = true := h
      simp only [Bool.and_eq_true] at h'
      rw [iha _ h'.1, ihb _ h'.2]
    | _ => exact absurd (show false = true from h) (by simp)
  | mul a b iha ihb =>
    intro y h
    cases y with
    | mul a' b' =>
      have h' : (a.beq a' && b.beq b') = true := h
      simp only [Bool.and_eq_true] at h'
      rw [iha _ h'.1, ihb _ h'.2]
    | _ => exact absurd (show false = true from h) (by simp)
  | quo a b iha ihb =>
    intro y h
    cases y with
    | quo a' b' =>
      have h' : (a.beq a' && b.beq b') = true := h
      simp only [Bool.and_eq_true] at h'
      rw [iha _ h'.1, ihb _ h'.2]
    | _ => exact absurd (show false = true from h) (by simp)
  | gcd a b iha ihb =>
    intro y h
    cases y with
    | gcd a' b' =>
      have h' : (a.beq a' && b.beq b') = true := h
      simp only [Bool.and_eq_true] at h'
      rw [iha _ h'.1, ihb _ h'.2]
    | _ => exact absurd (show false = true from h) (by simp)
noncomputable def Xe.bnd : Xe → Nat := Xe.rec (motive := fun _ => Nat)
  (fun _ => 262144)
  (fun n => Nat.succ (Nat.log2 n))
  (fun _ _ a b => Nat.succ (Nat.add a b))
  (fun _ _ a _ => a)
  (fun _ _ a b => Nat.add a b)
  (fun _ _ a _ => a)
  (fun _ _ a b => Nat.succ (Nat.add a b))
structure Bits (k n : Nat) : Prop where
  out : n < 2 ^ k
theorem Bits.up {k j n : Nat} (h : Bits k n) (hk : k ≤ j) : Bits j n := ⟨Nat.lt_of_lt_of_le h.out (Nat.pow_le_pow_right (by omega) hk)⟩
theorem Bits.le {k n m : Nat} (h : Bits k n) (hm : m ≤ n) : Bits k m := ⟨Nat.lt_of_le_of_lt hm h.out⟩
theorem Bits.add {k j n m : Nat} (h : Bits k n) (i : Bits j m) : Bits (k + j + 1) (n + m) := by
  have h1 := (h.up (show k ≤ k + j by omega)).out
  have h2 := (i.up (show j ≤ k + j by omega)).out
  refine ⟨?_⟩
  rw [Nat.pow_succ]
  generalize 2 ^ (k + j) = p at *
  omega
theorem Bits.mul {k j n m : Nat} (h : Bits k n) (i : Bits j m) : Bits (k + j) (n * m) := by
  refine ⟨?_⟩
  rw [Nat.pow_add]
  exact Nat.mul_lt_mul'' h.out i.out
theorem Bits.log (n : Nat) : Bits (Nat.succ (Nat.log2 n)) n := ⟨Nat.lt_log2_self⟩
theorem Bits.gcd {k j n m : Nat} (h : Bits k n) (i : Bits j m) : Bits (k + j + 1) (Nat.gcd n m) := by
  refine (h.add i).le ?_
  rcases Nat.eq_zero_or_pos n with h0 | h0
  · subst h0; rw [Nat.gcd_zero_left]; omega
  · have := Nat.gcd_le_left m h0; omega
theorem m32_pow (k : Nat) : R.M32 ^ k = 2 ^ (32 * k) := by rw [Nat.pow_mul]; rfl
theorem Bits.sml {k n : Nat} (h : Bits k n) (hk : k ≤ 100000000) : R.Sml n := by
  refine ⟨?_⟩
  rw [m32_pow]
  exact (h.up (show k ≤ 32 * Big.KL by have := Big.KL_eq; omega)).out
structure XEnv where
  q : Nat → Nat
  bit : ∀ i, Bits 262144 (q i)
theorem Xe.bits (ρ : XEnv) : ∀ e : Xe, Bits e.bnd (e.ev ρ.q) := by
  intro e
  induction e with
  | v i => exact ρ.bit i
  | c n => exact Bits.log n
  | add a b iha ihb => exact iha.add ihb
  | sub a b iha _ => exact iha.le (Nat.sub_le _ _)
  | mul a b iha ihb => exact iha.mul ihb
  | quo a b iha _ => exact iha.le (Nat.div_le_self _ _)
  | gcd a b iha ihb => exact iha.gcd ihb
noncomputable def xokB (e : Xe) : Bool := Nat.ble e.bnd 100000000
theorem xokB_sml {ρ : XEnv} {e : Xe} (h : xokB e = true) : R.Sml (e.ev ρ.q) := (e.bits ρ).sml (Nat.le_of_ble_eq_true h)
inductive Wf where
  | wd (e : Xe)
  | lp (e : Xe)
  | st (e : Xe)
  | sb
  | by_ (e : Xe)
  | sx (e : Xe)
  | ln (e : Xe)
  | iv (s : Bool) (e : Xe)
def BadS (s : ByteArray) : Prop := mayB s = false
def Wf.holds (ρ : XEnv) : Wf → World → Value → Prop
  | .wd e, w, v => R.Nin w v (e.ev ρ.q)
  | .lp e, _, v => ∃ k : Nat, v = .int .i64 (k : Int) ∧ (k = 0 ↔ e.ev ρ.q = 0)
  | .st e, _, v => v = .string (bst (e.ev ρ.q)) ∧ szN (e.ev ρ.q) ≤ 512
  | .sb, _, v => ∃ s, v = .string s ∧ BadS s
  | .by_ e, w, v => R.Bt w v (btx (e.ev ρ.q))
  | .sx e, _, v => v = .string (bst (e.ev ρ.q))
  | .ln e, _, v => v = .int .i64 (szN (e.ev ρ.q) : Nat)
  | .iv s e, _, v => v = .int .i64 (Big.sI s (e.ev ρ.q)) ∧ (s = true → 0 < e.ev ρ.q) ∧ e.ev ρ.q ≤ 9223372036854775808 ∧ (s = false → e.ev ρ.q < 9223372036854775808)
theorem Wf.one {ρ : XEnv} {f : Wf} {w : World} {v : Value} (h : f.holds ρ w v) : isOne v = true := by
  cases f with
  | wd e => exact nin_one h
  | lp e => obtain ⟨k, rfl, _⟩ := h; rfl
  | st e => rw [h.1]; rfl
  | sb => obtain ⟨s, rfl, _⟩ := h; rfl
  | by_ e => obtain ⟨A, c, rfl, _⟩ := h; rfl
  | sx e => rw [show v = _ from h]; rfl
  | ln e => rw [show v = _ from h]; rfl
  | iv s e => rw [h.1]; rfl
theorem bt_stable {l : List UInt8} {w w' : World} {v : Value} (h : R.Bt w v l) (hk : ∀ (b : Nat) (c : Array Value) (t : TypeId) (z : Nat × Nat), w.heap[b]? = some (.cells c t z) → Nat.beq t 5 = true → w'.heap[b]? = some (.cells c t z)) : R.Bt w' v l := by
  obtain ⟨A, c, e, h1, h3⟩ := h
  refine ⟨A, c, e, h1, fun hp => ?_⟩
  obtain ⟨b, o, ea, hlt, hc, cs, z, hcs⟩ := h3 hp
  have hcs' := hk b cs _ _ hcs (Nat.beq_refl _)
  refine ⟨b, o, ea, (Array.getElem?_eq_some_iff.1 hcs').1, fun i hi => ?_, cs, z, hcs'⟩
  rw [← hc i hi]
  exact World.cell?_of_block (hcs'.trans hcs.symm)
theorem nin_words {w : World} {v : Value} {n : Nat} (h : R.Nin w v n) : ∃ a k c, v = .slice a k c ∧ (k = 0 ↔ n = 0) := by
  obtain ⟨l, ⟨A, c, e, -, -, -⟩, ol, nl, rfl⟩ := h
  refine ⟨A, l.length, c, e, fun h => ?_, fun h => ?_⟩
  · rw [List.length_eq_zero_iff.1 h]; rfl
  · rw [Big.norm_zero R.M32_pos l nl h]; rfl
noncomputable def wHid (t : TypeId) : Bool := Nat.beq t 123 || Nat.beq t 5
noncomputable def wSig (ρ : XEnv) : Sig Wf where
  holds := Wf.holds ρ
  hid := wHid
  G := natSig.G
  base := natSig.base
  baseS := natSig.baseS
  stable := fun f _ _ _ h hk => by
    have hw := fun (b : Nat) (c : Array Value) (t : TypeId) (z : Nat × Nat) h1 (h2 : Nat.beq t 123 = true) => hk b c t z h1 (by unfold wHid; rw [h2]; rfl)
    have hb := fun (b : Nat) (c : Array Value) (t : TypeId) (z : Nat × Nat) h1 (h2 : Nat.beq t 5 = true) => hk b c t z h1 (by unfold wHid; rw [h2, Bool.or_true])
    cases f with
    | wd e => exact R.nin_stable h hw
    | by_ e => exact bt_stable h hb
    | sx e => exact h
    | ln e => exact h
    | iv s e => exact h
    | lp e => exact h
    | st e => exact h
    | sb => exact h
structure Xs where
  k : Nat
  a : Xe
  b : Xe
  t : Bool
def Xs.holds (ρ : Nat → Nat) (x : Xs) : Prop := match x.k with
  | 1 => x.t = true ↔ x.a.ev ρ = 0
  | 2 => x.t = true ↔ x.a.ev ρ = x.b.ev ρ
  | 4 => x.t = true ↔ 512 < szN (x.a.ev ρ)
  | 7 => x.t = true ↔ x.a.ev ρ < 9223372036854775808
  | 8 => x.t = true ↔ x.a.ev ρ ≤ 9223372036854775808
  | _ => x.t = true ↔ x.a.ev ρ < x.b.ev ρ
def x0 : Xe := .c 0
noncomputable def askX (A : List Xs) (k : Nat) (a b : Xe) : Option Bool := List.rec (motive := fun _ => Option Bool) none
  (fun x _ ih => Bool.rec (motive := fun _ => Option Bool) ih (some x.t) (Nat.beq k x.k && (a.beq x.a && b.beq x.b))) A
theorem askX_ok {k : Nat} {a b : Xe} {t : Bool} : ∀ {A : List Xs}, askX A k a b = some t → ∃ x ∈ A, x.k = k ∧ x.a = a ∧ x.b = b ∧ x.t = t
  | [], h => by cases h
  | x :: A, h => by
    have h' : (Bool.rec (motive := fun _ => Option Bool) (askX A k a b) (some x.t) (Nat.beq k x.k && (a.beq x.a && b.beq x.b)) : Option Bool) = some t := h
    cases hb : (Nat.beq k x.k && (a.beq x.a && b.beq x.b)) with
    | false =>
      rw [hb] at h'
      obtain ⟨y, hy, r⟩ := askX_ok h'
      exact ⟨y, List.mem_cons_of_mem _ hy, r⟩
    | true =>
      rw [hb] at h'
      simp only [Bool.and_eq_true] at hb
      exact ⟨x, List.mem_cons_self, (Nat.eq_of_beq_eq_true hb.1).symm, (Xe.beq_ok _ _ hb.2.1).symm, (Xe.beq_ok _ _ hb.2.2).symm, Option.some.inj h'⟩
def AllX (ρ : XEnv) (A : List Xs) : Prop := ∀ x ∈ A, x.holds ρ.q
section
variable {ρ : XEnv} {A : List Xs} {a b : Xe} {t : Bool}
theorem askX_nought (hA : AllX ρ A) (h : askX A 1 a x0 = some t) : t = true ↔ a.ev ρ.q = 0 := by
  obtain ⟨x, hx, h1, rfl, _, rfl⟩ := askX_ok h
  have := hA x hx
  unfold Xs.holds at this
  rw [h1] at this
  exact this
theorem askX_same (hA : AllX ρ A) (h : askX A 2 a b = some t) : t = true ↔ a.ev ρ.q = b.ev ρ.q := by
  obtain ⟨x, hx, h1, rfl, rfl, rfl⟩ := askX_ok h
  have := hA x hx
  unfold Xs.holds at this
  rw [h1] at this
  exact this
theorem askX_long (hA : AllX ρ A) (h : askX A 4 a x0 = some t) : t = true ↔ 512 < szN (a.ev ρ.q) := by
  obtain ⟨x, hx, h1, rfl, _, rfl⟩ := askX_ok h
  have := hA x hx
  unfold Xs.holds at this
  rw [h1] at this
  exact this
theorem askX_less (hA : AllX ρ A) (h : askX A 3 a b = some t) : t = true ↔ a.ev ρ.q < b.ev ρ.q := by
  obtain ⟨x, hx, h1, rfl, rfl, rfl⟩ := askX_ok h
  have := hA x hx
  unfold Xs.holds at this
  rw [h1] at this
  exact this
end
end Ev
end Go.Proofs.YtepnghhgmjobjaaGreat
