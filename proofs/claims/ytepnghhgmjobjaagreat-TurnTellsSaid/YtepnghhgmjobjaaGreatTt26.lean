/- The statement TurnTells: whatever half tangents and complex number of fractions are handed in, Unit, Half and Sum are the document's own, errors too: it answers true. No condition. -/
import Derived.Test.YtepnghhgmjobjaaGreatTt25
import Derived.Test.YtepnghhgmjobjaaGreatTt23
import Derived.Laws.OwnMore
import Derived.Laws.AppendOwn
import Derived.WalkKit
import Derived.IntWalk
import Derived.Test.YtepnghhgmjobjaaGreatTt13
import Derived.Deep.DeepCutAuto
import Derived.Test.YtepnghhgmjobjaaGreatRows
import Derived.Test.YtepnghhgmjobjaaGreatChecked
import Derived.ProofKit
import Derived.OpenShut
import Derived.ChangeSame
import Derived.ChangeVars
import Derived.JoinedOf
import Derived.Stop.Joined
import Derived.HandedShaped
import Derived.Test.YtepnghhgmjobjaaGreatTt22
import Derived.ChangeArms
import Derived.WideShapes
namespace Go.Proofs.YtepnghhgmjobjaaGreat
open Go Go.RowKit
namespace Ev
set_option maxRecDepth 100000
noncomputable def nrT (z : Bool) : List Xs := [⟨1, xv, x0, z⟩, ⟨1, x1, x0, false⟩]
noncomputable def runI (A : List Xs) (s t : Bool) (f : FuncId) : Option (E3 Wf) := tellsB [] [.iv s xv, .iv t x1] (fun _ vs => vs) (call Tryz.prog (wCfg A) (wSums2 A) 60 f)
theorem newRat_run (s t z : Bool) : runI (nrT z) s t 59 = some (outR (xor s t && !z) xv x1) := by
  cases s <;> cases t <;> cases z <;> kernel_rfl
noncomputable def cmT (a b c d : Xe) (na nb lt eq : Bool) : List Xs := [⟨1, b, x0, false⟩, ⟨1, d, x0, false⟩, ⟨1, .mul a d, x0, na⟩, ⟨1, .mul c b, x0, nb⟩, ⟨3, .mul a d, .mul c b, lt⟩, ⟨2, .mul a d, .mul c b, eq⟩, ⟨3, .mul c b, .mul a d, !lt && !eq⟩, ⟨2, .mul c b, .mul a d, eq⟩]
noncomputable def cmO (s t na nb lt eq : Bool) : Int := cond (beqB (s && !na) (t && !nb)) (cond (s && !na) (cond lt 1 (cond eq 0 (-1))) (cond lt (-1) (cond eq 0 1))) (cond (s && !na) (-1) 1)
theorem rcmp_run (s t na nb lt eq : Bool) (h : (lt && eq) = false) : runV (cmT xv x1 x2 x3 na nb lt eq) [blkR s xv x1, blkR t x2 x3] [0, 1] 27 = some (intD (cmO s t na nb lt eq)) := by
  cases lt <;> cases eq <;> first | (cases h; done) | (cases s <;> cases t <;> cases na <;> cases nb <;> kernel_rfl)
theorem rcmp_self (s na : Bool) : runV (cmT xv x1 xv x1 na na false true) [blkR s xv x1] [0, 0] 27 = some (intD 0) := by
  cases s <;> cases na <;> kernel_rfl
section
variable {w : World} {x y : Value} {p q : Rat}
theorem int_parts (n : Int) : n = Big.sI (decide (n < 0)) n.natAbs := by
  unfold Big.sI
  by_cases h : n < 0
  · rw [decide_eq_true h]; simp; omega
  · rw [decide_eq_false h]; simp; omega
theorem iv_holds {ρ : XEnv} {e : Xe} {n : Int} (he : e.ev ρ.q = n.natAbs) (h1 : -9223372036854775808 ≤ n) (h2 : n ≤ 9223372036854775807) : (Wf.iv (decide (n < 0)) e).holds ρ w (.int .i64 n) := by
  refine ⟨by rw [he, ← int_parts n], fun h => ?_, by rw [he]; omega, fun h => ?_⟩
  · have := of_decide_eq_true h
    rw [he]; omega
  · have := of_decide_eq_false h
    rw [he]; omega
theorem quo_ints (n d : Int) (hd : d ≠ 0) : (n : Rat) / (d : Rat) = mkRat (Big.sI (xor (decide (n < 0)) (decide (d < 0)) && !decide (n.natAbs = 0)) n.natAbs) d.natAbs := by
  have hd0 : (d : Rat) ≠ 0 := fun h => hd (by exact_mod_cast h)
  rw [quo_mk _ _ hd0]
  have e1 : Big.ng (n : Rat) = decide (n < 0) := rfl
  have e2 : Big.ng (d : Rat) = decide (d < 0) := rfl
  have e3 : Big.nu (n : Rat) = n.natAbs := rfl
  have e4 : Big.nu (d : Rat) = d.natAbs := rfl
  have e5 : Big.de (n : Rat) = 1 := rfl
  have e6 : Big.de (d : Rat) = 1 := rfl
  rw [e1, e2, e3, e4, e5, e6, Nat.mul_one, Nat.one_mul]
  congr 1
  exact sI_zero _ _ _ fun h => by rw [decide_eq_false h]; simp
theorem bits_int {n : Int} (h1 : -9223372036854775808 ≤ n) (h2 : n ≤ 9223372036854775807) : Bits 262144 n.natAbs :=
  Bits.up (k := 64) ⟨by have : n.natAbs ≤ 9223372036854775808 := by omega
                        exact Nat.lt_of_le_of_lt this (by decide)⟩ (by decide)
theorem ints_env (n d : Int) (h1 : -9223372036854775808 ≤ n) (h2 : n ≤ 9223372036854775807) (h3 : -9223372036854775808 ≤ d) (h4 : d ≤ 9223372036854775807) : ∃ ρ : XEnv, ρ.q 0 = n.natAbs ∧ ρ.q 1 = d.natAbs :=
  ⟨xenv [n.natAbs, d.natAbs] (by intro m hm; simp only [List.mem_cons, List.not_mem_nil, or_false] at hm; rcases hm with rfl | rfl; exact bits_int h1 h2; exact bits_int h3 h4), rfl, rfl⟩
theorem newRat_any (n d : Int) (h1 : -9223372036854775808 ≤ n) (h2 : n ≤ 9223372036854775807) (h3 : -9223372036854775808 ≤ d) (h4 : d ≤ 9223372036854775807) (hd : d ≠ 0) (hG : Tryz.prog.globals.size ≤ w.heap.size) (hT : Tab w) :
    Calls Tryz.prog 59 ⟨[.int .i64 n, .int .i64 d]⟩ w (RRes w ((n : Rat) / (d : Rat))) := by
  obtain ⟨ρ, e0, e1⟩ := ints_env n d h1 h2 h3 h4
  have hd1 : 0 < ρ.q 1 := by rw [e1]; omega
  have hA : AllX ρ (nrT (decide (n.natAbs = 0))) := allX_cons (holds1 (by rw [decide_eq_true_iff, ← e0]; rfl)) (allX_cons (holds1 (not_nought hd1)) (allX_nil ρ))
  refine (tellsB_calls (wFits hA) (wSums2_ok hA) (newRat_run (decide (n < 0)) (decide (d < 0)) _) (fun _ _ _ _ _ _ h => h) rfl glob_lim (bs := []) (us := [.int .i64 n, .int .i64 d]) rfl ⟨_, _, rfl, iv_holds (w := w) (e := xv) e0 h1 h2, rfl, _, [], rfl, iv_holds (w := w) (e := x1) e1 h3 h4, rfl, rfl⟩ hG hT).mono ?_
  rintro e w' ⟨v, rfl, hv, hb⟩
  refine ⟨v, rfl, outR_is hv ⟨hd1, fun hs => ?_, ?_⟩ hG, hb⟩
  · rw [Bool.and_eq_true, Bool.not_eq_true', decide_eq_false_iff_not] at hs
    show 0 < ρ.q 0
    rw [e0]; omega
  · rw [quo_ints n d hd]
    show _ = mkRat (Big.sI _ (ρ.q 0)) (ρ.q 1)
    rw [e0, e1]
theorem rcmp_any (hx : RatIn w x p) (hy : RatIn w y q) (bp : RB p) (bq : RB q) (hG : Tryz.prog.globals.size ≤ w.heap.size) (hT : Tab w) :
    Calls Tryz.prog 27 ⟨[x, y]⟩ w fun e w' => e = .returned (.int .i64 (Big.cmpQ p q)) ∧ Below w.heap.size w w' := by
  have hx0 := hx
  obtain ⟨b1, rfl, g1, u1, d1, hb1, hu1, hd1⟩ := hx
  have hy0 := hy
  obtain ⟨b2, rfl, g2, u2, d2, hb2, hu2, hd2⟩ := hy
  by_cases hbb : b1 = b2
  · subst hbb
    have hpq := ratIn_inj hx0 hy0
    subst hpq
    obtain ⟨ρ, e0, e1⟩ : ∃ ρ : XEnv, ρ.q 0 = Big.nu p ∧ ρ.q 1 = Big.de p := ⟨xenv [Big.nu p, Big.de p] (by intro n hn; simp only [List.mem_cons, List.not_mem_nil, or_false] at hn; rcases hn with rfl | rfl; exact bp.1; exact bp.2), rfl, rfl⟩
    rw [← e0] at hu1
    rw [← e1] at hd1
    have hp1 : 0 < ρ.q 1 := by rw [e1]; exact de_pos p
    have hA : AllX ρ (cmT xv x1 xv x1 (decide (ρ.q 0 * ρ.q 1 = 0)) (decide (ρ.q 0 * ρ.q 1 = 0)) false true) :=
      allX_cons (holds1 (not_nought hp1)) (allX_cons (holds1 (not_nought hp1)) (allX_cons (holds1 decide_eq_true_iff) (allX_cons (holds1 decide_eq_true_iff) (allX_cons (holds3 ⟨fun h => (by cases h), fun h => absurd h (Nat.lt_irrefl _)⟩) (allX_cons (holds2 ⟨fun _ => rfl, fun _ => rfl⟩) (allX_cons (holds3 ⟨fun h => (by cases h), fun h => absurd h (Nat.lt_irrefl _)⟩) (allX_cons (holds2 ⟨fun _ => rfl, fun _ => rfl⟩) (allX_nil ρ))))))))
    refine (tellsB_calls (wFits hA) (wSums_ok hA) (rcmp_self (Big.ng p) _) (fun _ _ _ _ _ hp _ => sel_ok hp _) (by kernel_rfl) glob_lim (bs := [b1]) (us := []) ⟨b1, [], rfl, blkR_are (n := xv) (d := x1) hb1 hu1 hd1, by simp, g1, rfl⟩ rfl hG hT).mono ?_
    rintro e w' ⟨v, rfl, hv, hb⟩
    refine ⟨?_, hb⟩
    rw [show v = .int .i64 0 from hv, show Big.cmpQ p p = 0 from by unfold Big.cmpQ; rw [if_neg (Rat.lt_irrefl), if_pos rfl]]
  · obtain ⟨ρ, e0, e1, e2, e3⟩ : ∃ ρ : XEnv, ρ.q 0 = Big.nu p ∧ ρ.q 1 = Big.de p ∧ ρ.q 2 = Big.nu q ∧ ρ.q 3 = Big.de q := ⟨xenv [Big.nu p, Big.de p, Big.nu q, Big.de q] (by intro n hn; simp only [List.mem_cons, List.not_mem_nil, or_false] at hn; rcases hn with rfl | rfl | rfl | rfl; exact bp.1; exact bp.2; exact bq.1; exact bq.2), rfl, rfl, rfl, rfl⟩
    rw [← e0] at hu1
    rw [← e1] at hd1
    rw [← e2] at hu2
    rw [← e3] at hd2
    have hp1 : 0 < ρ.q 1 := by rw [e1]; exact de_pos p
    have hp3 : 0 < ρ.q 3 := by rw [e3]; exact de_pos q
    obtain ⟨A, hAe⟩ : ∃ A, ρ.q 0 * ρ.q 3 = A := ⟨_, rfl⟩
    obtain ⟨B, hBe⟩ : ∃ B, ρ.q 2 * ρ.q 1 = B := ⟨_, rfl⟩
    have hA : AllX ρ (cmT xv x1 x2 x3 (decide (A = 0)) (decide (B = 0)) (decide (A < B)) (decide (A = B))) := by
      refine allX_cons (holds1 (not_nought hp1)) (allX_cons (holds1 (not_nought hp3)) (allX_cons (holds1 ?_) (allX_cons (holds1 ?_) (allX_cons (holds3 ?_) (allX_cons (holds2 ?_) (allX_cons (holds3 ?_) (allX_cons (holds2 ?_) (allX_nil ρ))))))))
      · rw [decide_eq_true_iff, ← hAe]; rfl
      · rw [decide_eq_true_iff, ← hBe]; rfl
      · rw [decide_eq_true_iff, ← hAe, ← hBe]; rfl
      · rw [decide_eq_true_iff, ← hAe, ← hBe]; rfl
      · show _ ↔ ρ.q 2 * ρ.q 1 < ρ.q 0 * ρ.q 3
        rw [hAe, hBe, Bool.and_eq_true, Bool.not_eq_true', Bool.not_eq_true', decide_eq_false_iff_not, decide_eq_false_iff_not]
        omega
      · show _ ↔ ρ.q 2 * ρ.q 1 = ρ.q 0 * ρ.q 3
        rw [hAe, hBe, decide_eq_true_iff]
        omega
    have hlt : (decide (A < B) && decide (A = B)) = false := by rw [Bool.and_eq_false_iff, decide_eq_false_iff_not, decide_eq_false_iff_not]; omega
    refine (tellsB_calls (wFits hA) (wSums_ok hA) (rcmp_run (Big.ng p) (Big.ng q) _ _ _ _ hlt) (fun _ _ _ _ _ hp _ => sel_ok hp _) (by kernel_rfl) glob_lim (bs := [b1, b2]) (us := []) ⟨b1, [b2], rfl, blkR_are (n := xv) (d := x1) hb1 hu1 hd1, by simp [hbb], g1, b2, [], rfl, blkR_are (n := x2) (d := x3) hb2 hu2 hd2, by simp, g2, rfl⟩ rfl hG hT).mono ?_
    rintro e w' ⟨v, rfl, hv, hb⟩
    refine ⟨?_, hb⟩
    rw [show v = .int .i64 _ from hv]
    congr 2
    have hc := Big.cmpQ_cross (q := p) (r := q) rfl rfl
    rw [sI_mul, sI_mul, ← e0, ← e1, ← e2, ← e3, hAe, hBe] at hc
    rw [hc]
    have np : Big.ng p = true → 0 < A := fun hn => by
      rw [← hAe, e0]
      refine Nat.mul_pos (Nat.pos_of_ne_zero fun h0 => ?_) hp3
      rw [Big.nu_zero.1 h0] at hn; cases hn
    have nq : Big.ng q = true → 0 < B := fun hn => by
      rw [← hBe, e2]
      refine Nat.mul_pos (Nat.pos_of_ne_zero fun h0 => ?_) hp1
      rw [Big.nu_zero.1 h0] at hn; cases hn
    unfold cmO
    cases hp : Big.ng p <;> cases hq : Big.ng q <;> rcases Nat.lt_trichotomy A B with h | h | h <;> rcases Nat.eq_zero_or_pos A with hA0 | hA0 <;> rcases Nat.eq_zero_or_pos B with hB0 | hB0 <;>
      first
        | (exfalso; omega)
        | (exfalso; have := np hp; omega)
        | (exfalso; have := nq hq; omega)
        | (have c1 : ¬ A = 0 := by omega
           have c2 : ¬ B = 0 := by omega
           have c3 : ¬ A < B := by omega
           have c4 : ¬ A = B := by omega
           simp [c1, c2, c3, c4, Big.sI, beqB]; try omega)
        | (have c1 : ¬ A = 0 := by omega
           have c2 : ¬ B = 0 := by omega
           have c4 : ¬ A = B := by omega
           simp [c1, c2, h, c4, Big.sI, beqB]; try omega)
        | (have c1 : ¬ A = 0 := by omega
           subst h
           simp [c1, Big.sI, beqB]; try omega)
        | (subst h
           subst hA0
           simp [Big.sI, beqB]; try omega)
        | (have c1 : ¬ B = 0 := by omega
           subst hA0
           simp [c1, h, Big.sI, beqB]; try omega)
        | (have c1 : ¬ A = 0 := by omega
           subst hB0
           simp [c1, h, Big.sI, beqB]; try omega)
end
end Ev
end Go.Proofs.YtepnghhgmjobjaaGreat
namespace Go.Proofs.YtepnghhgmjobjaaGreat
open Go Go.RowKit
namespace Ev
set_option maxRecDepth 100000
section
variable {ρ : Env} {A : List As}
noncomputable def cmpS (A : List As) (args : List Value) : Option (M Sy Value) := match args with
  | [a, b] => some (bind (knw getRt a) fun e => bind (knw getRt b) fun f => cond (smallE e && smallE f) (match signB A (.sub e f) with
    | some z => ret (.int .i64 z)
    | none => fail) fail)
  | _ => none
theorem s_cmp (hA : AllH ρ A) : SumF (symSig ρ) Tryz.prog 27 (cmpS A) := by
  intro args m e
  unfold cmpS at e
  rcases args with _ | ⟨a, _ | ⟨b, _ | ⟨c, l⟩⟩⟩ <;> simp only [reduceCtorEq, Option.some.injEq] at e
  subst e
  refine ⟨loc_bind (loc_knw _ _) fun o => loc_bind (loc_knw _ _) fun o => loc_cond ?_ loc_fail, ?_⟩
  · split
    · exact loc_ret _
    · exact loc_fail
  intro h nx v h' nx' R W e r w args' ha hM hN
  cases ha with
  | cons ha hb =>
  cases hb with
  | cons hb hc =>
  cases hc
  obtain ⟨e0, h1, nx1, R1, W1, R2, W2, e1, e2, rfl, rfl⟩ := bind_ok e
  obtain ⟨rfl, rfl, rfl, f1, hf1, hx⟩ := knw_ok e1 ha hM
  obtain ⟨g0, h2, nx2, R3, W3, R4, W4, e3, e4, rfl, rfl⟩ := bind_ok e2
  obtain ⟨rfl, rfl, rfl, f2, hf2, hy⟩ := knw_ok e3 hb hM
  obtain ⟨hs, e5⟩ := cond_ok e4
  simp only [Bool.and_eq_true] at hs
  have c := rcmp_any (rt_of hf1 hx) (rt_of hf2 hy) (smallE_ok (ρ := ρ) hs.1) (smallE_ok (ρ := ρ) hs.2) (mod_G hM rfl) hM.base
  cases hz : signB A (.sub e0 g0) with
  | none => rw [hz] at e5; cases (show (fail : M Sy Value) _ _ = _ from e5)
  | some z =>
    rw [hz] at e5
    have hzz := signB_ok hA hz
    rw [cmpQ_sgn] at c
    rw [show sgQ (e0.ev ρ.q - g0.ev ρ.q) = z from hzz.symm] at c
    simpa using goes_pl (show (ret (.int .i64 z) : M Sy Value) _ _ = .ok v h' nx' _ _ from e5) rfl hM c
noncomputable def isOneI (v : Value) : Bool := match v with
  | .int k n => match k with
    | .i64 => decide (n = 1)
    | _ => false
  | _ => false
theorem isOneI_ok {v : Value} (h : isOneI v = true) : v = .int .i64 1 := by
  cases v <;> try (cases h; done)
  rename_i k n
  cases k <;> try (cases h; done)
  rw [of_decide_eq_true (show decide (n = 1) = true from h)]
noncomputable def newS (args : List Value) : Option (M Sy Value) := match args with
  | [a, b] => some (cond (isOneI a && isOneI b) (newFact (.rt (.c false 1 1))) fail)
  | _ => none
theorem s_new : SumF (symSig ρ) Tryz.prog 59 newS := by
  intro args m e
  unfold newS at e
  rcases args with _ | ⟨a, _ | ⟨b, _ | ⟨c, l⟩⟩⟩ <;> simp only [reduceCtorEq, Option.some.injEq] at e
  subst e
  refine ⟨loc_cond (loc_newFact _) loc_fail, ?_⟩
  intro h nx v h' nx' R W e r w args' ha hM hN
  cases ha with
  | cons ha hb =>
  cases hb with
  | cons hb hc =>
  cases hc
  obtain ⟨hs, e5⟩ := cond_ok e
  simp only [Bool.and_eq_true] at hs
  have h1 := isOneI_ok hs.1
  have h2 := isOneI_ok hs.2
  subst h1; subst h2
  obtain rfl := ha.int
  obtain rfl := hb.int
  simpa [GoesS] using sgoes_fact e5 hM hN ((newRat_any 1 1 (by omega) (by omega) (by omega) (by omega) (by omega) (mod_G hM rfl) hM.base).mono fun e w' hh => by
    obtain ⟨x, rfl, hx, hb⟩ := hh
    have e1 : ((1 : Int) : Rat) / ((1 : Int) : Rat) = (Qe.c false 1 1).ev ρ.q := by show _ = mkRat (Big.sI false 1) 1; rw [quo_ints 1 1 (by omega)]; rfl
    rw [e1] at hx
    exact ⟨_, rfl, hx, hb⟩)
end
end Ev
end Go.Proofs.YtepnghhgmjobjaaGreat
namespace Go.Proofs.YtepnghhgmjobjaaGreat
open Go Go.RowKit
namespace Ev
set_option maxRecDepth 100000
section
variable {ρ : Env} {A : List As}
noncomputable def rList (A : List As) : List (Nat × (List Value → Option (M Sy Value))) := [
  (27, cmpS A), (59, newS)]
noncomputable def rSums (A : List As) : Sums Sy := sumsOf (mkTab (rList A ++ (refList A ++ symList A)))
theorem rSums_ok (hA : AllH ρ A) : SumOK (symSig ρ) Tryz.prog (rSums A) := sumsOf_ok fun x hx => by
  rcases List.mem_append.1 hx with hx | hx
  · simp only [rList, List.mem_cons, List.not_mem_nil, or_false] at hx
    rcases hx with rfl | rfl
    · exact s_cmp hA
    · exact s_new
  · rcases List.mem_append.1 hx with hx | hx
    · exact refList_ok hA x hx
    · exact symList_ok hA x hx
end
noncomputable def pT : List As := [⟨1, .add uc (.mul v0 v0), z0, false⟩]
theorem rpoint_run : runU (rSums pT) 17 [.one] [.rt v0] = some (.tuple [.one (.f (.rt (uR v0).1)), .one (.f (.rt (uR v0).2))]) := by kernel_rfl
theorem rhalf_run (c g d g2 s : Bool) : runU (rSums (tHT c g d g2 s)) 7 [.agg 6] (inp true 0 ++ inp true 1) = some (cond c (ovD d s (.quo v1 (.add uc v0))) (noT 2)) := by
  cases c <;> cases g <;> cases d <;> cases g2 <;> cases s <;> kernel_rfl
theorem rhalf_bad : ∀ a b : Bool, (a && b) = false → runU (rSums []) 7 [.agg 6] (inp a 0 ++ inp b 1) = some (noT 2) := by
  intro a b
  cases a <;> cases b <;> intro h <;> first | (cases h; done) | kernel_rfl
theorem rsum_run (d g s : Bool) : runU (rSums (sT d g s)) 9 [.agg 3, .agg 3] (inp true 0 ++ inp true 1) = some (ovD d s (.quo (.add v0 v1) (.sub uc (.mul v0 v1)))) := by
  cases d <;> cases g <;> cases s <;> kernel_rfl
theorem rsum_bad : ∀ a b : Bool, (a && b) = false → runU (rSums []) 9 [.agg 3, .agg 3] (inp a 0 ++ inp b 1) = some (noT 2) := by
  intro a b
  cases a <;> cases b <;> intro h <;> first | (cases h; done) | kernel_rfl
theorem runit_bad : runU (rSums []) 5 [.agg 3] (inp false 0) = some (noD 2) := by kernel_rfl
section
variable {w : World}
theorem rhalf_any {x y : Rat} (hx : Fit x) (hy : Fit y) (hG : Tryz.prog.globals.size ≤ w.heap.size) (hT : Tab w) : Calls Tryz.prog 7 ⟨[gV x y]⟩ w (RetV w (halfV x y)) :=
  u_half (S := rSums) (fun _ _ h => rSums_ok h) rhalf_run hx hy hG hT
theorem rhalf_none (x y : Tri) (h : BadF x ∨ BadF y) (hG : Tryz.prog.globals.size ≤ w.heap.size) (hT : Tab w) : Calls Tryz.prog 7 ⟨[.agg ⟨cel x ++ cel y⟩]⟩ w (RetV w (noV 2)) :=
  u_badN (S := rSums) (fun _ _ h => rSums_ok h) (ls := [.agg 6]) rfl rhalf_bad x y h hG hT
theorem rsum_any {x y : Rat} (hx : Fit x) (hy : Fit y) (hG : Tryz.prog.globals.size ≤ w.heap.size) (hT : Tab w) : Calls Tryz.prog 9 ⟨[fV x, fV y]⟩ w (RetV w (overV (x + y) (1 - x * y))) :=
  u_sum (S := rSums) (fun _ _ h => rSums_ok h) rsum_run hx hy hG hT
theorem rsum_none (x y : Tri) (h : BadF x ∨ BadF y) (hG : Tryz.prog.globals.size ≤ w.heap.size) (hT : Tab w) : Calls Tryz.prog 9 ⟨[.agg ⟨cel x⟩, .agg ⟨cel y⟩]⟩ w (RetV w (noV 2)) :=
  u_badN (S := rSums) (fun _ _ h => rSums_ok h) (ls := [.agg 3, .agg 3]) rfl rsum_bad x y h hG hT
theorem runit_none (x : Tri) (h : BadF x) (hG : Tryz.prog.globals.size ≤ w.heap.size) (hT : Tab w) : Calls Tryz.prog 5 ⟨[.agg ⟨cel x⟩]⟩ w (GErr w 2) :=
  u_bad1 (S := rSums) (fun _ _ h => rSums_ok h) runit_bad x h hG hT
theorem rpoint_any {x : Value} {t : Rat} (hx : RatIn w x t) (ht : Fit t) (hG : Tryz.prog.globals.size ≤ w.heap.size) (hT : Tab w) :
    Calls Tryz.prog 17 ⟨[x]⟩ w fun e w' => ∃ u v, e = .returned (.tuple ⟨[u, v]⟩) ∧ RatIn w' u ((1 - t * t) / (1 + t * t)) ∧ RatIn w' v ((t + t) / (1 + t * t)) ∧ RB ((1 - t * t) / (1 + t * t)) ∧ RB ((t + t) / (1 + t * t)) ∧ Below w.heap.size w w' := by
  have hA : AllH (envOf t 0 0 0 ht fit_zero fit_zero fit_zero) pT := fun z hz => by
    simp only [pT, List.mem_cons, List.not_mem_nil, or_false] at hz
    subst hz
    exact ⟨fun h => (by cases h), fun h => absurd h (one_sq t)⟩
  have hh : HoldsL (symSig (envOf t 0 0 0 ht fit_zero fit_zero fit_zero)) w [.rt v0] [x] := ⟨x, [], rfl, hx, ratIn_one hx, rfl⟩
  refine (tells_calls (symFits _) (rSums_ok hA) rpoint_run rfl glob_few hh hG hT).mono ?_
  rintro e w' ⟨v', rfl, ⟨vs, rfl, x1, u1, rfl, h1, x2, u2, rfl, h2, h3⟩, hb⟩
  obtain rfl : u2 = [] := h3
  have s1 := smallE_ok (ρ := envOf t 0 0 0 ht fit_zero fit_zero fit_zero) (e := (uR v0).1) (by kernel_rfl)
  have s2 := smallE_ok (ρ := envOf t 0 0 0 ht fit_zero fit_zero fit_zero) (e := (uR v0).2) (by kernel_rfl)
  exact ⟨x1, x2, rfl, h1, h2, s1, s2, hb⟩
end
end Ev
end Go.Proofs.YtepnghhgmjobjaaGreat
namespace Go.Proofs.YtepnghhgmjobjaaGreat
open Go Go.RowKit
namespace Ev
theorem Tryz.infoFrac : (Tryz.prog.info? 23).map (fun i => (i.zero, i.size, i.bytes)) = some (some (.agg #[.bool false, .string ⟨#[]⟩, .string ⟨#[]⟩]), 3, 40) := by kernel_rfl
def Own2 (w : World) (B : Nat) (v : Value) (n : Nat) (l : List Value) : Prop := w.ownsRow B 23 3 v n l
def Frs2 (w : World) (p q : Rat) (e : Ending) (w' : World) : Prop := Below w.heap.size w w' ∧ ((Fit p ∧ Fit q ∧ ∃ v, e = .returned (.tuple #[v, .int .i64 0]) ∧ Own2 w' w.heap.size v 2 (cel (tri p) ++ cel (tri q))) ∨ (¬ (Fit p ∧ Fit q) ∧ e = .returned (.tuple #[.slice none 0 0, .int .i64 3])))
def part2 (p q : Rat) : Nat → List Value
  | 0 => []
  | 1 => cel (tri p)
  | _ => cel (tri p) ++ cel (tri q)
def FrcR (w : World) (q : Rat) (e : Ending) (w' : World) : Prop :=
  (Fit q ∧ e = .returned (.tuple #[.agg #[.bool (Big.ng q), .string (bst (Big.nu q)), .string (bst (Big.de q))], .int .i64 0]) ∨ ¬ Fit q ∧ e = .returned (.tuple #[.agg #[.bool false, .string ⟨#[]⟩, .string ⟨#[]⟩], .int .i64 3])) ∧ Below w.heap.size w w'
theorem own_kept {w w' : World} {B n : Nat} {v : Value} {l : List Value} (h : Own2 w B v n l) (hb : Below w.heap.size w w') : Own2 w' B v n l :=
  World.ownsRow.kept h (row := none) ⟨hb.os, hb.tape, hb.output, hb.size, fun k hk _ => hb.block k hk⟩ (Classical.em _)
theorem at3_cells {w : World} {g : Nat} {T : TypeId} {a b c : Value} (h : At3 w g T a b c) : ∀ j u, [a, b, c][j]? = some u → w.cell? ((⟨g, 0, none⟩ : Addr).add j) = some u := by
  intro j u hj
  rcases j with _ | _ | _ | j
  · obtain rfl : a = u := by simpa using hj
    exact h.c0
  · obtain rfl : b = u := by simpa using hj
    exact h.c1
  · obtain rfl : c = u := by simpa using hj
    exact h.c2
  · simp at hj
set_option maxRecDepth 100000 in
set_option maxHeartbeats 4000000 in
theorem fracs2_any (w : World) (g : Nat) (x y : Value) (p q : Rat) (hx : RatIn w x p) (hy : RatIn w y q) (bp : RB p) (bq : RB q) (c0 : w.cell? ⟨g, 0, none⟩ = some x) (c1 : w.cell? ⟨g, 1, none⟩ = some y) (hg : g < w.heap.size) (hG : Tryz.prog.globals.size ≤ w.heap.size) (hT : Tab w) :
    Calls Tryz.prog 18 #[.slice (some ⟨g, 0, none⟩) 2 2] w (Frs2 w p q) := by
  obtain ⟨i0, hi, hz0, hz1, hz2⟩ := info_parts Ev.Tryz.infoFrac
  have hc1 : ∀ W, Below w.heap.size w W → Calls Tryz.prog 29 #[x] W (FrcR W p) := fun W h => frac_any (hx.keep h) bp (Nat.le_trans hG h.size) (hT.keep h)
  have hc2 : ∀ W, Below w.heap.size w W → Calls Tryz.prog 29 #[y] W (FrcR W q) := fun W h => frac_any (hy.keep h) bq (Nat.le_trans hG h.size) (hT.keep h)
  have HC1 := Lib.hid hc1
  have HC2 := Lib.hid hc2
  clear hc1 hc2
  have HD := Lib.hid (And.intro c0 c1)
  clear hx hy bp bq c0 c1 hG hT
  go_enter Tryz.func18, Tryz.ntmps18
  go_wp2_with fail
  go_loopw [4, 5] (fun ov iv wr => ∃ k : Nat, k ≤ 2 ∧ iv = .int .i64 k ∧ Hid (Own2 wr w.heap.size ov k (part2 p q k)) ∧ Hid (Below w.heap.size w wr) ∧ Hid ((1 ≤ k → Fit p) ∧ (2 ≤ k → Fit q))) (fun _ iv _ => 2 - (intOf iv).toNat)
  case atStart => exact ⟨0, by omega, rfl, Lib.hid (World.ownsRow_nil _ _ _ _), Lib.hid (Below.refl _ _), Lib.hid ⟨fun h => by omega, fun h => by omega⟩⟩
  case round =>
    obtain ⟨k, hk, rfl, HO, HB, HF⟩ := hrel
    rcases (show k = 0 ∨ k = 1 ∨ k = 2 by omega) with rfl | rfl | rfl
    · have hcx : wr.cell? ⟨g, 0, none⟩ = some x := (HB.out.cell (p := ⟨g, 0, none⟩) hg).trans HD.out.1
      have HR := Lib.hid (HC1.out wr HB.out)
      have HOL := Lib.hid (World.ownsRow.lt HO.out)
      clear HC1 HC2
      go_wp2_with fail
      refine HR.out.mono ?_
      rintro e w1 ⟨⟨hf, rfl⟩ | ⟨hf, rfl⟩, hb1⟩
      · have HB1 := Lib.hid (HB.out.trans (hb1.mono HB.out.size))
        have HB2 := Lib.hid (below_alloc (below_alloc HB1.out (Nat.le_refl _) (.cells #[.bool (Big.ng p), .string (bst (Big.nu p)), .string (bst (Big.de p))] 23)) (Nat.le_refl _) (.cells #[.bool (Big.ng p), .string (bst (Big.nu p)), .string (bst (Big.de p))] 23))
        have HO2 := Lib.hid (own_kept HO.out (below_alloc (below_alloc hb1 (Nat.le_refl _) (.cells #[.bool (Big.ng p), .string (bst (Big.nu p)), .string (bst (Big.de p))] 23)) (Nat.le_refl _) (.cells #[.bool (Big.ng p), .string (bst (Big.nu p)), .string (bst (Big.de p))] 23)))
        have HN := Lib.hid (At3.new w1 23 (.bool (Big.ng p)) (.string (bst (Big.nu p))) (.string (bst (Big.de p))))
        have HN2 := At3.new (w1.alloc (.cells #[.bool (Big.ng p), .string (bst (Big.nu p)), .string (bst (Big.de p))] 23)) 23 (.bool (Big.ng p)) (.string (bst (Big.nu p))) (.string (bst (Big.de p)))
        rw [alloc_size] at HN2
        have HN2 := Lib.hid HN2
        have HSZ := Lib.hid HB2.out.size
        have k0 := HN.out.c0; have k1 := HN.out.c1; have k2 := HN.out.c2
        have HF1 := Lib.hid hf
        clear hb1 HR HO HB hcx hf
        go_wp2_with (at_builtin; refine wpList_append_own _ rfl _ _ 52 rfl w.heap.size 23 i0 (.agg #[.bool false, .string ⟨#[]⟩, .string ⟨#[]⟩]) 3 40 Tryz.underlying52 hi hz0 hz1 hz2 rfl (by decide) _ _ _ rfl HO2.out ⟨w1.heap.size + 1, 0, none⟩ 1 1 [.bool (Big.ng p), .string (bst (Big.nu p)), .string (bst (Big.de p))] rfl rfl (at3_cells HN2.out) (by intro u hu; simp only [List.mem_cons, List.not_mem_nil, or_false] at hu; rcases hu with rfl | rfl | rfl <;> rfl) (by unfold maxLen; omega) (by omega) HSZ.out ?_)
        intro v' w2 hown' hgrow _
        have HB3 := Lib.hid (HB2.out.grown hgrow HSZ.out (fun k' hk' => (HOL.out k' hk').1))
        have HO3 := Lib.hid (show Own2 w2 w.heap.size v' 1 (part2 p q 1) from hown')
        clear hown' hgrow HO2 HN HN2 HB1 HB2 HSZ HOL k0 k1 k2
        go_wp2_with fail
        go_roundw
        case rel => exact ⟨1, by omega, by go_num, HO3, HB3, Lib.hid ⟨fun _ => HF1.out, fun h => by omega⟩⟩
        case measure => simp [intOf]
      · have HB1 := Lib.hid (HB.out.trans (hb1.mono HB.out.size))
        have HB2 := Lib.hid (below_alloc HB1.out (Nat.le_refl _) (.cells #[.bool false, .string ⟨#[]⟩, .string ⟨#[]⟩] 23))
        have HF1 := Lib.hid hf
        clear hb1 HR HO HB hcx hf HOL
        go_wp2_with fail
        go_ret2
        exact ⟨HB2.out, .inr ⟨fun h => HF1.out h.1, rfl⟩⟩
    · have hcx : wr.cell? ⟨g, 1, none⟩ = some y := (HB.out.cell (p := ⟨g, 1, none⟩) hg).trans HD.out.2
      have HR := Lib.hid (HC2.out wr HB.out)
      have HOL := Lib.hid (World.ownsRow.lt HO.out)
      clear HC1 HC2
      go_wp2_with fail
      refine HR.out.mono ?_
      rintro e w1 ⟨⟨hf, rfl⟩ | ⟨hf, rfl⟩, hb1⟩
      · have HB1 := Lib.hid (HB.out.trans (hb1.mono HB.out.size))
        have HB2 := Lib.hid (below_alloc (below_alloc HB1.out (Nat.le_refl _) (.cells #[.bool (Big.ng q), .string (bst (Big.nu q)), .string (bst (Big.de q))] 23)) (Nat.le_refl _) (.cells #[.bool (Big.ng q), .string (bst (Big.nu q)), .string (bst (Big.de q))] 23))
        have HO2 := Lib.hid (own_kept HO.out (below_alloc (below_alloc hb1 (Nat.le_refl _) (.cells #[.bool (Big.ng q), .string (bst (Big.nu q)), .string (bst (Big.de q))] 23)) (Nat.le_refl _) (.cells #[.bool (Big.ng q), .string (bst (Big.nu q)), .string (bst (Big.de q))] 23)))
        have HN := Lib.hid (At3.new w1 23 (.bool (Big.ng q)) (.string (bst (Big.nu q))) (.string (bst (Big.de q))))
        have HN2 := At3.new (w1.alloc (.cells #[.bool (Big.ng q), .string (bst (Big.nu q)), .string (bst (Big.de q))] 23)) 23 (.bool (Big.ng q)) (.string (bst (Big.nu q))) (.string (bst (Big.de q)))
        rw [alloc_size] at HN2
        have HN2 := Lib.hid HN2
        have HSZ := Lib.hid HB2.out.size
        have k0 := HN.out.c0; have k1 := HN.out.c1; have k2 := HN.out.c2
        have HF1 := Lib.hid hf
        clear hb1 HR HO HB hcx hf
        go_wp2_with (at_builtin; refine wpList_append_own _ rfl _ _ 52 rfl w.heap.size 23 i0 (.agg #[.bool false, .string ⟨#[]⟩, .string ⟨#[]⟩]) 3 40 Tryz.underlying52 hi hz0 hz1 hz2 rfl (by decide) _ _ _ rfl HO2.out ⟨w1.heap.size + 1, 0, none⟩ 1 1 [.bool (Big.ng q), .string (bst (Big.nu q)), .string (bst (Big.de q))] rfl rfl (at3_cells HN2.out) (by intro u hu; simp only [List.mem_cons, List.not_mem_nil, or_false] at hu; rcases hu with rfl | rfl | rfl <;> rfl) (by unfold maxLen; omega) (by omega) HSZ.out ?_)
        intro v' w2 hown' hgrow _
        have HB3 := Lib.hid (HB2.out.grown hgrow HSZ.out (fun k' hk' => (HOL.out k' hk').1))
        have HO3 := Lib.hid (show Own2 w2 w.heap.size v' 2 (part2 p q 2) from hown')
        clear hown' hgrow HO2 HN HN2 HB1 HB2 HSZ HOL k0 k1 k2
        go_wp2_with fail
        go_roundw
        case rel => exact ⟨2, by omega, by go_num, HO3, HB3, Lib.hid ⟨fun _ => HF.out.1 (by omega), fun _ => HF1.out⟩⟩
        case measure => simp [intOf]
      · have HB1 := Lib.hid (HB.out.trans (hb1.mono HB.out.size))
        have HB2 := Lib.hid (below_alloc HB1.out (Nat.le_refl _) (.cells #[.bool false, .string ⟨#[]⟩, .string ⟨#[]⟩] 23))
        have HF1 := Lib.hid hf
        clear hb1 HR HO HB hcx hf HOL
        go_wp2_with fail
        go_ret2
        exact ⟨HB2.out, .inr ⟨fun h => HF1.out h.2, rfl⟩⟩
    · clear HC1 HC2
      go_wp2_with fail
      go_ret2
      exact ⟨HB.out, .inl ⟨HF.out.1 (by omega), HF.out.2 (by omega), _, rfl, HO.out⟩⟩
end Ev
end Go.Proofs.YtepnghhgmjobjaaGreat
namespace Go.Proofs.YtepnghhgmjobjaaGreat
open Go.RowKit
def AtL (w : World) (g : Nat) (T : TypeId) (cs : Array Value) : Prop := w.heap[g]? = some (.cells cs T (0, 0))
section
variable {w w' : World} {g : Nat} {T : TypeId} {cs : Array Value}
theorem AtL.lt (h : AtL w g T cs) : g < w.heap.size := by
  rcases Nat.lt_or_ge g w.heap.size with h1 | h1
  · exact h1
  · unfold AtL at h; rw [Array.getElem?_eq_none h1] at h; cases h
theorem AtL.cell (h : AtL w g T cs) (i : Nat) {x : Value} (hx : cs[i]? = some x) : w.cell? ⟨g, i, none⟩ = some x := by rw [cell_of_row w g i _ _ (0, 0) h]; exact hx
theorem AtL.frozen (h : AtL w g T cs) (i : Nat) : w.frozen? ⟨g, i, none⟩ = false := frozen_of_row w g i _ _ h
theorem AtL.new (w : World) (T : TypeId) (cs : Array Value) : AtL (w.alloc (.cells cs T)) w.heap.size T cs := heap_alloc_new w _
theorem AtL.alloc' (h : AtL w g T cs) (o : Obj) : AtL (w.alloc o) g T cs := (Below.heap_alloc w o g h.lt).trans h
theorem AtL.below (h : AtL w g T cs) {B : Nat} (hb : Below B w w') (hg : g < B) : AtL w' g T cs := (hb.block g hg).trans h
theorem AtL.keep (h : AtL w g T cs) (hb : Below w.heap.size w w') : AtL w' g T cs := h.below hb h.lt
theorem AtL.set (h : AtL w g T cs) (i : Nat) (x : Value) : AtL (w.setCell ⟨g, i, none⟩ x) g T (cs.setIfInBounds i x) := heap_setCell_same w g i _ _ x h
end
end Go.Proofs.YtepnghhgmjobjaaGreat
namespace Go.Proofs.YtepnghhgmjobjaaGreat
open Go Go.RowKit
namespace Ev
theorem own2_form {w : World} {B : Nat} {v : Value} {l : List Value} (h : Own2 w B v 2 l) : ∃ g cap, v = .slice (some ⟨g, 0, none⟩) 2 cap ∧ B ≤ g ∧ 2 ≤ cap ∧ g < w.heap.size ∧ ∀ j u, l[j]? = some u → w.cell? ⟨g, j, none⟩ = some u := by
  have h0 := h
  rcases h.2 with ⟨-, h1⟩ | ⟨g, cap, cur, rfl, hb, hg, hc, hm, hs, hx⟩
  · omega
  · refine ⟨g, cap, rfl, hb, hc, (Array.getElem?_eq_some_iff.1 hg).1, fun j u hj => ?_⟩
    have := World.ownsRow.cells h0 (g := g) rfl j u hj
    rwa [Lib.add_plain, Nat.zero_add] at this
set_option maxRecDepth 100000 in
set_option maxHeartbeats 8000000 in
theorem runit_any {w : World} {t : Rat} (ht : Fit t) (hG : Tryz.prog.globals.size ≤ w.heap.size) (hT : Tab w) :
    Calls Tryz.prog 5 #[.agg #[.bool (Big.ng t), .string (bst (Big.nu t)), .string (bst (Big.de t))]] w (GRes w ((1 - t * t) / (1 + t * t)) ((t + t) / (1 + t * t))) := by
  obtain ⟨P, hP⟩ : ∃ P, (1 - t * t) / (1 + t * t) = P := ⟨_, rfl⟩
  obtain ⟨Q, hQ⟩ : ∃ Q, (t + t) / (1 + t * t) = Q := ⟨_, rfl⟩
  have hc1 : ∀ W, Below w.heap.size w W → Calls Tryz.prog 16 #[.agg #[.bool (Big.ng t), .string (bst (Big.nu t)), .string (bst (Big.de t))]] W fun e w' => ∃ x, e = .returned (.tuple #[x, .bool true]) ∧ RatIn w' x t ∧ Below W.heap.size W w' := fun W h => rat_ok (w := W) ht (Nat.le_trans hG h.size) (hT.keep h)
  have hc2 : ∀ W x, RatIn W x t → Below w.heap.size w W → Calls Tryz.prog 17 #[x] W fun e w' => ∃ u v, e = .returned (.tuple #[u, v]) ∧ RatIn w' u P ∧ RatIn w' v Q ∧ RB P ∧ RB Q ∧ Below W.heap.size W w' := fun W x hx h => by
    have := rpoint_any (w := W) hx ht (Nat.le_trans hG h.size) (hT.keep h)
    rw [hP, hQ] at this
    exact this
  rw [hP, hQ]
  have HC1 := Lib.hid hc1
  have HC2 := Lib.hid hc2
  have HG := Lib.hid (And.intro hG hT)
  clear hc1 hc2 hP hQ hG hT ht
  obtain ⟨n0, hn0⟩ : ∃ n, Big.ng t = n := ⟨_, rfl⟩
  obtain ⟨s1, hs1⟩ : ∃ n, bst (Big.nu t) = n := ⟨_, rfl⟩
  obtain ⟨s2, hs2⟩ : ∃ n, bst (Big.de t) = n := ⟨_, rfl⟩
  rw [hn0, hs1, hs2] at HC1 ⊢
  clear hn0 hs1 hs2
  have HB0 := Lib.hid (below_alloc (box1_below w (.cells #[.bool n0, .string s1, .string s2] 23)) (Nat.le_refl _) (.cells #[.bool false, .string ⟨#[]⟩, .string ⟨#[]⟩, .bool false, .string ⟨#[]⟩, .string ⟨#[]⟩] 25))
  have HA := Lib.hid ((At3.new w 23 (.bool n0) (.string s1) (.string s2)).alloc' (.cells #[.bool false, .string ⟨#[]⟩, .string ⟨#[]⟩, .bool false, .string ⟨#[]⟩, .string ⟨#[]⟩] 25))
  have hz := AtL.new (w.alloc (.cells #[.bool n0, .string s1, .string s2] 23)) 25 #[.bool false, .string ⟨#[]⟩, .string ⟨#[]⟩, .bool false, .string ⟨#[]⟩, .string ⟨#[]⟩]
  rw [alloc_size] at hz
  have HZ := Lib.hid hz
  clear hz
  have a0 := HA.out.c0; have a1 := HA.out.c1; have a2 := HA.out.c2
  go_enter Tryz.func5, Tryz.ntmps5
  go_wp2_with fail
  refine (HC1.out _ HB0.out).mono ?_
  generalize (w.alloc (.cells #[.bool n0, .string s1, .string s2] 23)).alloc (.cells #[.bool false, .string ⟨#[]⟩, .string ⟨#[]⟩, .bool false, .string ⟨#[]⟩, .string ⟨#[]⟩] 25) = wa at *
  rintro e w1 ⟨x, rfl, hx, hb1⟩
  have HB1 := Lib.hid (HB0.out.trans (hb1.mono HB0.out.size))
  have HZ1 := Lib.hid (HZ.out.keep hb1)
  have HP := Lib.hid (HC2.out w1 x hx HB1.out)
  clear hx hb1 HC1 HC2 HA a0 a1 a2 HB0 HZ
  go_wp2_with fail
  refine HP.out.mono ?_
  rintro e w2 ⟨u, v, rfl, hu, hv, bu, bv, hb2⟩
  have hu0 := hu
  have hv0 := hv
  obtain ⟨b1, rfl, -⟩ := hu0
  obtain ⟨b2, rfl, -⟩ := hv0
  have HB2 := Lib.hid (HB1.out.trans (hb2.mono HB1.out.size))
  have HZ2 := Lib.hid (HZ1.out.keep hb2)
  have hbs := below_alloc (Below.refl w2.heap.size w2) (Nat.le_refl _) (.cells #[.pointer (some ⟨b1, 0, none⟩), .pointer (some ⟨b2, 0, none⟩)] 47)
  have hu2 := hu.keep hbs
  have hv2 := hv.keep hbs
  have HB3 := Lib.hid (below_alloc HB2.out (Nat.le_refl _) (.cells #[.pointer (some ⟨b1, 0, none⟩), .pointer (some ⟨b2, 0, none⟩)] 47))
  have HZ3 := Lib.hid (HZ2.out.keep hbs)
  have hsl := AtL.new w2 47 #[.pointer (some ⟨b1, 0, none⟩), .pointer (some ⟨b2, 0, none⟩)]
  have HF := Lib.hid (fracs2_any (w2.alloc (.cells #[.pointer (some ⟨b1, 0, none⟩), .pointer (some ⟨b2, 0, none⟩)] 47)) w2.heap.size (.pointer (some ⟨b1, 0, none⟩)) (.pointer (some ⟨b2, 0, none⟩)) P Q hu2 hv2 bu bv (hsl.cell 0 rfl) (hsl.cell 1 rfl) hsl.lt (Nat.le_trans HG.out.1 HB3.out.size) (HG.out.2.keep HB3.out))
  clear hu hv bu bv hb2 hbs hu2 hv2 hsl HP HB1 HZ1 HG
  go_wp2_with fail
  refine HF.out.mono ?_
  generalize w2.alloc (.cells #[.pointer (some ⟨b1, 0, none⟩), .pointer (some ⟨b2, 0, none⟩)] 47) = wb at *
  rintro e w3 ⟨hb3, ⟨f1, f2, vv, rfl, ho⟩ | ⟨hn, rfl⟩⟩
  · obtain ⟨g, cap, rfl, hgb, hcap, hgl, hcell⟩ := own2_form ho
    have HB4 := Lib.hid (HB3.out.trans (hb3.mono HB3.out.size))
    have HZ4 := Lib.hid (HZ3.out.keep hb3)
    have p0 : w3.cell? ⟨g, 0, none⟩ = some (.bool (Big.ng P)) := hcell 0 _ rfl
    have p1 : w3.cell? ⟨g, 1, none⟩ = some (.string (bst (Big.nu P))) := hcell 1 _ rfl
    have p2 : w3.cell? ⟨g, 2, none⟩ = some (.string (bst (Big.de P))) := hcell 2 _ rfl
    have p3 : w3.cell? ⟨g, 3, none⟩ = some (.bool (Big.ng Q)) := hcell 3 _ rfl
    have p4 : w3.cell? ⟨g, 4, none⟩ = some (.string (bst (Big.nu Q))) := hcell 4 _ rfl
    have p5 : w3.cell? ⟨g, 5, none⟩ = some (.string (bst (Big.de Q))) := hcell 5 _ rfl
    have HFit := Lib.hid (And.intro f1 f2)
    clear hcell ho hb3 HF HB3 HZ3 HB2 HZ2 f1 f2
    have k0 := HZ4.out.cell 0 rfl; have k1 := HZ4.out.cell 1 rfl; have k2 := HZ4.out.cell 2 rfl; have k3 := HZ4.out.cell 3 rfl; have k4 := HZ4.out.cell 4 rfl; have k5 := HZ4.out.cell 5 rfl
    have q0 := HZ4.out.frozen 0; have q1 := HZ4.out.frozen 1; have q2 := HZ4.out.frozen 2; have q3 := HZ4.out.frozen 3; have q4 := HZ4.out.frozen 4; have q5 := HZ4.out.frozen 5
    have HD := Lib.hid (((((((HZ4.out).set 0 (.bool (Big.ng P))).set 1 (.string (bst (Big.nu P)))).set 2 (.string (bst (Big.de P)))).set 3 (.bool (Big.ng Q))).set 4 (.string (bst (Big.nu Q)))).set 5 (.string (bst (Big.de Q))))
    have HE := Lib.hid (((((((HB4.out).setCell (p := ⟨w.heap.size + 1, 0, none⟩) (Nat.le_succ _) (.bool (Big.ng P))).setCell (p := ⟨w.heap.size + 1, 1, none⟩) (Nat.le_succ _) (.string (bst (Big.nu P)))).setCell (p := ⟨w.heap.size + 1, 2, none⟩) (Nat.le_succ _) (.string (bst (Big.de P)))).setCell (p := ⟨w.heap.size + 1, 3, none⟩) (Nat.le_succ _) (.bool (Big.ng Q))).setCell (p := ⟨w.heap.size + 1, 4, none⟩) (Nat.le_succ _) (.string (bst (Big.nu Q)))).setCell (p := ⟨w.heap.size + 1, 5, none⟩) (Nat.le_succ _) (.string (bst (Big.de Q))))
    go_wp2_with fail
    go_region_with fail
    all_goals (
      go_wp2_with fail
      generalize ((((((w3.setCell ⟨w.heap.size + 1, 0, none⟩ (.bool (Big.ng P))).setCell ⟨w.heap.size + 1, 1, none⟩ (.string (bst (Big.nu P)))).setCell ⟨w.heap.size + 1, 2, none⟩ (.string (bst (Big.de P)))).setCell ⟨w.heap.size + 1, 3, none⟩ (.bool (Big.ng Q))).setCell ⟨w.heap.size + 1, 4, none⟩ (.string (bst (Big.nu Q)))).setCell ⟨w.heap.size + 1, 5, none⟩ (.string (bst (Big.de Q)))) = wz at HD HE ⊢
      clear k0 k1 k2 k3 k4 k5 q0 q1 q2 q3 q4 q5 p0 p1 p2 p3 p4 p5
      have HE2 := Lib.hid (below_drew HE.out)
      have HD2 : AtL wz.drew (w.heap.size + 1) 25 _ := HD.out
      have r0 := HD2.cell 0 rfl; have r1 := HD2.cell 1 rfl; have r2 := HD2.cell 2 rfl; have r3 := HD2.cell 3 rfl; have r4 := HD2.cell 4 rfl; have r5 := HD2.cell 5 rfl
      exact bodyPost_ret (v := .tuple #[.agg #[.bool (Big.ng P), .string (bst (Big.nu P)), .string (bst (Big.de P)), .bool (Big.ng Q), .string (bst (Big.nu Q)), .string (bst (Big.de Q))], .int .i64 0]) (by simp [results, Tryz.results5, go_sem, r0, r1, r2, r3, r4, r5]) rfl ⟨.inl ⟨HFit.out, rfl⟩, HE2.out⟩)
  · have HB4 := Lib.hid (HB3.out.trans (hb3.mono HB3.out.size))
    have HZ4 := Lib.hid (HZ3.out.keep hb3)
    have HFit := Lib.hid hn
    clear hb3 HF HB3 HZ3 HB2 HZ2 hn
    have k0 := HZ4.out.cell 0 rfl; have k1 := HZ4.out.cell 1 rfl; have k2 := HZ4.out.cell 2 rfl; have k3 := HZ4.out.cell 3 rfl; have k4 := HZ4.out.cell 4 rfl; have k5 := HZ4.out.cell 5 rfl
    have q0 := HZ4.out.frozen 0; have q1 := HZ4.out.frozen 1; have q2 := HZ4.out.frozen 2; have q3 := HZ4.out.frozen 3; have q4 := HZ4.out.frozen 4; have q5 := HZ4.out.frozen 5
    have HD := Lib.hid (((((((HZ4.out).set 0 (.bool false)).set 1 (.string ⟨#[]⟩)).set 2 (.string ⟨#[]⟩)).set 3 (.bool false)).set 4 (.string ⟨#[]⟩)).set 5 (.string ⟨#[]⟩))
    have HE := Lib.hid (((((((HB4.out).setCell (p := ⟨w.heap.size + 1, 0, none⟩) (Nat.le_succ _) (.bool false)).setCell (p := ⟨w.heap.size + 1, 1, none⟩) (Nat.le_succ _) (.string ⟨#[]⟩)).setCell (p := ⟨w.heap.size + 1, 2, none⟩) (Nat.le_succ _) (.string ⟨#[]⟩)).setCell (p := ⟨w.heap.size + 1, 3, none⟩) (Nat.le_succ _) (.bool false)).setCell (p := ⟨w.heap.size + 1, 4, none⟩) (Nat.le_succ _) (.string ⟨#[]⟩)).setCell (p := ⟨w.heap.size + 1, 5, none⟩) (Nat.le_succ _) (.string ⟨#[]⟩))
    go_wp2_with fail
    generalize ((((((w3.setCell ⟨w.heap.size + 1, 0, none⟩ (.bool false)).setCell ⟨w.heap.size + 1, 1, none⟩ (.string ⟨#[]⟩)).setCell ⟨w.heap.size + 1, 2, none⟩ (.string ⟨#[]⟩)).setCell ⟨w.heap.size + 1, 3, none⟩ (.bool false)).setCell ⟨w.heap.size + 1, 4, none⟩ (.string ⟨#[]⟩)).setCell ⟨w.heap.size + 1, 5, none⟩ (.string ⟨#[]⟩)) = wz at HD HE ⊢
    clear k0 k1 k2 k3 k4 k5 q0 q1 q2 q3 q4 q5
    have HD2 := HD.out
    have r0 := HD2.cell 0 rfl; have r1 := HD2.cell 1 rfl; have r2 := HD2.cell 2 rfl; have r3 := HD2.cell 3 rfl; have r4 := HD2.cell 4 rfl; have r5 := HD2.cell 5 rfl
    exact bodyPost_ret (v := .tuple #[.agg #[.bool false, .string ⟨#[]⟩, .string ⟨#[]⟩, .bool false, .string ⟨#[]⟩, .string ⟨#[]⟩], .int .i64 3]) (by simp [results, Tryz.results5, go_sem, r0, r1, r2, r3, r4, r5]) rfl ⟨.inr ⟨HFit.out, rfl⟩, HE.out⟩
end Ev
end Go.Proofs.YtepnghhgmjobjaaGreat
namespace Go.Proofs.YtepnghhgmjobjaaGreat
open Go Go.RowKit
namespace Ev
set_option maxRecDepth 100000
noncomputable def ttList (A : List As) (B : List Ps) : List (Nat × (List Value → Option (M Sy Value))) := [
  (4, frc1 (unitS B)), (6, gop1 (halfS A B)), (8, frc2 (sumS A B)),
  (5, frc1 (unitS B)), (7, gop1 (halfS A B)), (9, frc2 (sumS A B))]
noncomputable def ttSums (A : List As) (B : List Ps) : Sums Sy := withF [works7] (sumsOf (mkTab (ttList A B)))
theorem ttSums_ok {ρ : Env} {A : List As} {B : List Ps} (hA : AllH ρ A) (hB : AllP ρ B) : SumOK (symSig ρ) Tryz.prog (ttSums A B) :=
  withF_ok (fun x hx => by
    simp only [List.mem_cons, List.not_mem_nil, or_false] at hx
    subst hx; exact works7_ok) (sumsOf_ok fun x hx => by
    simp only [ttList, List.mem_cons, List.not_mem_nil, or_false] at hx
    rcases hx with rfl | rfl | rfl | rfl | rfl | rfl
    · exact s_unit hB (fun _ _ ht hG hT => tunit_any ht hG hT) (fun _ x hb hG hT => tunit_none x hb hG hT)
    · exact s_half hA hB (fun _ _ _ hx hy hG hT => thalf_any hx hy hG hT) (fun _ x y hb hG hT => thalf_none x y hb hG hT)
    · exact s_sum hA hB (fun _ _ _ hx hy hG hT => tsum_any hx hy hG hT) (fun _ x y hb hG hT => tsum_none x y hb hG hT)
    · exact s_unit hB (fun _ _ ht hG hT => runit_any ht hG hT) (fun _ x hb hG hT => runit_none x hb hG hT)
    · exact s_half hA hB (fun _ _ _ hx hy hG hT => rhalf_any hx hy hG hT) (fun _ x y hb hG hT => rhalf_none x y hb hG hT)
    · exact s_sum hA hB (fun _ _ _ hx hy hG hT => rsum_any hx hy hG hT) (fun _ x y hb hG hT => rsum_none x y hb hG hT))
noncomputable def ttz : Qe × Qe := (v2, v3)
noncomputable def tth : Qe := .quo v3 (.add uc v2)
noncomputable def tts : Qe := .quo (.add v0 v1) (.sub uc (.mul v0 v1))
noncomputable def ttA (z s c2 d2 d3 : Bool) : List As := (cond z [⟨2, nrm ttz, uc, c2⟩, ⟨1, .add uc v2, z0, d2⟩] []) ++ cond s [⟨1, .sub uc (.mul v0 v1), z0, d3⟩] []
noncomputable def ttB (t z s u ph ps : Bool) : List Ps := (cond t [pr (uR v1) u] []) ++ ((cond z [pr (tth, tth) ph] []) ++ cond s [pr (tts, tts) ps] [])
noncomputable def ttrun (a b c d u c2 d2 ph d3 ps : Bool) : Option (D3 Sy) := tells (inp4 a b c d) [.agg 3, .agg 3, .agg 6] (call Tryz.prog (lawC (ttA (c && d) (a && b) c2 d2 d3)) (ttSums (ttA (c && d) (a && b) c2 d2 d3) (ttB b (c && d) (a && b) u ph ps)) 30 3)
end Ev
end Go.Proofs.YtepnghhgmjobjaaGreat
namespace Go.Proofs.YtepnghhgmjobjaaGreat
open Go Go.RowKit
namespace Ev
set_option maxRecDepth 100000
theorem tt_norm (a b c d u c2 d2 ph d3 ps : Bool) : ttrun a b c d u c2 d2 ph d3 ps = ttrun a b c d (b && u) ((c && d) && c2) ((c && d) && d2) ((c && d) && ph) ((a && b) && d3) ((a && b) && ps) := by
  cases a <;> cases b <;> cases c <;> cases d <;> rfl
theorem tt_all (a b c d u c2 d2 ph d3 ps : Bool) : ttrun a b c d u c2 d2 ph d3 ps = some yes := by
  rw [tt_norm]
  cases a <;> cases b <;> cases c <;> cases d <;> simp only [Bool.false_and, Bool.true_and] <;> (first | clear u | cases u) <;> (first | clear c2 | cases c2) <;> (first | clear d2 | cases d2) <;> (first | clear ph | cases ph) <;> (first | clear d3 | cases d3) <;> (first | clear ps | cases ps) <;> kernel_rfl
theorem same_bool (p q : Rat) : ∃ s : Bool, s = true ↔ p = q := ⟨decide (p = q), decide_eq_true_iff⟩
theorem turnTells_any (w : World) (s t x y : Tri) (hG : Tryz.prog.globals.size ≤ w.heap.size) (hT : Tab w) :
    Calls Tryz.prog 3 ⟨[.agg ⟨cel s⟩, .agg ⟨cel t⟩, .agg ⟨cel x ++ cel y⟩]⟩ w fun e w' => e = .returned (.bool true) ∧ Below w.heap.size w w' := by
  obtain ⟨i, -⟩ := in4 s t x y
  obtain ⟨u, hu⟩ := pair_bool ((uR v1).1.ev i.ρ.q) ((uR v1).2.ev i.ρ.q)
  obtain ⟨ph, hph⟩ := pair_bool (tth.ev i.ρ.q) (tth.ev i.ρ.q)
  obtain ⟨ps, hps⟩ := pair_bool (tts.ev i.ρ.q) (tts.ev i.ρ.q)
  obtain ⟨c2, hc2⟩ := same_bool ((nrm ttz).ev i.ρ.q) (uc.ev i.ρ.q)
  obtain ⟨d2, hd2⟩ := zero_bool ((Qe.add uc v2).ev i.ρ.q)
  obtain ⟨d3, hd3⟩ := zero_bool ((Qe.sub uc (.mul v0 v1)).ev i.ρ.q)
  have hA : AllH i.ρ (ttA (i.c && i.d) (i.a && i.b) c2 d2 d3) := fun z hz => by
    rcases List.mem_append.1 hz with hz | hz
    · cases hh : (i.c && i.d) with
      | false => rw [hh] at hz; cases hz
      | true =>
        rw [hh] at hz
        simp only [cond_true, List.mem_cons, List.not_mem_nil, or_false] at hz
        rcases hz with rfl | rfl
        · exact hc2
        · exact hd2
    · cases hh : (i.a && i.b) with
      | false => rw [hh] at hz; cases hz
      | true =>
        rw [hh] at hz
        simp only [cond_true, List.mem_cons, List.not_mem_nil, or_false] at hz
        subst hz
        exact hd3
  have hB : AllP i.ρ (ttB i.b (i.c && i.d) (i.a && i.b) u ph ps) := fun z hz => by
    rcases List.mem_append.1 hz with hz | hz
    · cases hh : i.b with
      | false => rw [hh] at hz; cases hz
      | true =>
        rw [hh] at hz
        simp only [cond_true, List.mem_cons, List.not_mem_nil, or_false] at hz
        subst hz
        exact hu
    · rcases List.mem_append.1 hz with hz | hz
      · cases hh : (i.c && i.d) with
        | false => rw [hh] at hz; cases hz
        | true =>
          rw [hh] at hz
          simp only [cond_true, List.mem_cons, List.not_mem_nil, or_false] at hz
          subst hz
          exact hph
      · cases hh : (i.a && i.b) with
        | false => rw [hh] at hz; cases hz
        | true =>
          rw [hh] at hz
          simp only [cond_true, List.mem_cons, List.not_mem_nil, or_false] at hz
          subst hz
          exact hps
  exact (tells_calls (lawFits hA) (ttSums_ok hA hB) (tt_all _ _ _ _ u c2 d2 ph d3 ps) rfl glob_few (i.holds w) hG hT).mono fun e w' hh => by
    obtain ⟨v', rfl, hv, hb⟩ := hh
    exact ⟨by rw [show v' = .bool true from hv], hb⟩
end Ev
end Go.Proofs.YtepnghhgmjobjaaGreat
namespace Go.Proofs.YtepnghhgmjobjaaGreat
open Go.ChangeShapes Go.WideShapes Go.ChangeAt Go.RowKit
theorem own : ownKnob Tryz.prog.godebug = none := by kernel_rfl
section
variable {H : Type} {enc : TypeId × Value → H} {P : Program}
theorem post_new {f : Func} {s : ChangeSpec} {apart fresh handsOn again : Bool} {W W' : World} {args : Array Value} {v : Value} {ds gs : List (DataW H)}
    (hW : DataW.Whole enc P f.params.toList s.vars apart W args.toList ds gs [])
    (hres : ∀ (b : Nat) (sp : Nat → Bool) (hd : Bool), DataW.TrodAll enc P W' b sp hd f.resultTypes.toList (v.resultList f.resultTypes.size) (s.fn H (ds ++ gs)).results [])
    (hargs : ∀ sp : Nat → Bool, DataW.TrodAll enc P W' 0 sp true f.params.toList args.toList (s.fn H (ds ++ gs)).args [])
    (hvars : ∀ sp : Nat → Bool, DataW.TrodVars enc P W' sp s.vars (s.fn H (ds ++ gs)).vars [])
    (hb : Below W.heap.size W W')
    (hok : ∀ (j : Nat) (t : TypeId) (r : Value), f.resultTypes[j]? = some t → (v.resultList f.resultTypes.size)[j]? = some r → Value.okWide P W' .any 0 t r) :
    s.post enc P f apart fresh handsOn again W args v W' := by
  have hk : W.keptBut W' (fun p => p ∈ ([] : List MemPlace)) := hb.frame _
  refine ⟨ds, gs, [], [], [], [], hW, hres _ _ _, hargs _, hvars _, World.keptBut_mono (fun p hp => by cases hp) hk, fun _ => ?_⟩
  refine ⟨hok, _, _, [], ⟨[], [], trodAll_append (hargs _) (hres _ _ _), hvars _, rfl, ?_, ?_⟩, ?_⟩
  · intro b off hp; cases hp
  · intro _; simp
  · intro p hp; cases hp
end
theorem glob_size {W : World} (h : W.ShapedOpen Tryz.prog) : Tryz.prog.globals.size ≤ W.heap.size := by
  have hb : Nat.ble (Tryz.prog.globals.size + 1) (begin Tryz.prog (fun _ _ => 0) default).world.heap.size = true := by kernel_rfl
  obtain ⟨o, o0, h1, -⟩ := h.2 Tryz.prog.globals.size (Nat.le_refl _) (Nat.le_of_ble_eq_true hb)
  exact Nat.le_of_lt (Array.getElem?_eq_some_iff.1 h1).1
end Go.Proofs.YtepnghhgmjobjaaGreat
namespace Go.Proofs.YtepnghhgmjobjaaGreat
open Go Go.ChangeShapes Go.WideShapes Go.RowKit Ev
theorem c_bool : Tryz.prog.cellsOf 4 = 1 := by kernel_rfl
theorem c_str : Tryz.prog.cellsOf 9 = 1 := by kernel_rfl
theorem c_frac : Tryz.prog.cellsOf 23 = 3 := by kernel_rfl
theorem c_gauss : Tryz.prog.cellsOf 25 = 6 := by kernel_rfl
def datT {H : Type} (t : Tri) : DataW H := .agg [.lit (.bool t.1), .lit (.string t.2.1.data.toList), .lit (.string t.2.2.data.toList)]
def wfT (t : Tri) : Prop := t.2.1.size ≤ maxLen ∧ t.2.2.size ≤ maxLen
section
variable {H : Type} {enc : TypeId × Value → H} {w : World} {base : Nat} {spare : Nat → Bool} {held : Bool}
set_option maxRecDepth 100000 in
theorem frac_in {fuel : Nat} {cs : List Value} {x : DataW H × List MemPlace} (h : DataW.trod enc Tryz.prog w base spare held fuel 23 cs = some x) : ∃ t : Tri, cs = cel t ∧ x = (datT t, []) ∧ wfT t := by
  obtain ⟨xs, n, -, hx, hl, hlen, hg⟩ := DataW.trod_struct Tryz.underlying23 h
  rw [c_frac] at hl
  match cs, hl, xs, hlen with
  | [u0, u1, u2], _, [y0, y1, y2], _ =>
    have h0 := hg 0 _ rfl
    simp only [c_bool, List.drop, List.take, List.getElem?_cons_zero] at h0
    obtain ⟨b, e0, z0⟩ := DataW.trod_bool Tryz.underlying4 h0
    obtain rfl := (List.cons.inj e0).1; clear e0
    subst z0
    have h1 := hg 1 _ rfl
    simp only [c_str, List.drop, List.take, List.getElem?_cons_zero, List.getElem?_cons_succ] at h1
    obtain ⟨s, e1, z1, w1⟩ := DataW.trod_string Tryz.underlying9 h1
    obtain rfl := (List.cons.inj e1).1; clear e1
    subst z1
    have h2 := hg 2 _ rfl
    simp only [c_str, List.drop, List.take, List.getElem?_cons_zero, List.getElem?_cons_succ] at h2
    obtain ⟨t, e2, z2, w2⟩ := DataW.trod_string Tryz.underlying9 h2
    obtain rfl := (List.cons.inj e2).1; clear e2
    subst z2
    exact ⟨(b, s, t), rfl, by rw [hx]; rfl, w1, w2⟩
set_option maxRecDepth 100000 in
theorem frac_mk {t : Tri} (h : wfT t) (n : Nat) : DataW.trod enc Tryz.prog w base spare held (n + 2) 23 (cel t) = some (datT t, []) := by
  obtain ⟨b, s, t⟩ := t
  have h1 : s.size ≤ maxLen := h.1
  have h2 : t.size ≤ maxLen := h.2
  have k0 : DataW.trod enc Tryz.prog w base spare held (n + 1) 4 [.bool b] = some (.lit (.bool b), []) := by simp [DataW.trod, Tryz.underlying4]
  have k1 : ∀ s : ByteArray, s.size ≤ maxLen → DataW.trod enc Tryz.prog w base spare held (n + 1) 9 [.string s] = some (.lit (.string s.data.toList), []) := fun s hs => by simp [DataW.trod, Tryz.underlying9, hs]
  have hm := trod_struct_mk (enc := enc) (w := w) (base := base) (spare := spare) (held := held) (n := n + 1) (cs := cel (b, s, t)) (xs := [(.lit (.bool b), []), (.lit (.string s.data.toList), []), (.lit (.string t.data.toList), [])]) Tryz.underlying23 (by rw [c_frac]; rfl) (by
    simp [c_bool, c_str, cel, k0, k1 s h1, k1 t h2])
  exact hm
set_option maxRecDepth 100000 in
theorem gauss_open {r : Reach} {b0 : Nat} {v : Value} {D : DataW H} {ps : List MemPlace} (hv : Value.okWide Tryz.prog w r b0 25 v) (h : DataW.Trod enc Tryz.prog w base spare held 25 v D ps) :
    ∃ x y : Tri, v = .agg ⟨cel x ++ cel y⟩ ∧ D = .agg [datT x, datT y] ∧ ps = [] ∧ wfT x ∧ wfT y := by
  obtain ⟨cs, rfl, hsz⟩ := okWide_struct Tryz.underlying25 hv
  obtain ⟨fuel, hf⟩ := h
  obtain ⟨xs, n, -, hx, hl, hlen, hg⟩ := DataW.trod_struct Tryz.underlying25 hf
  rw [c_gauss] at hsz
  obtain ⟨l⟩ := cs
  match l, hsz, xs, hlen with
  | [u0, u1, u2, u3, u4, u5], _, [y0, y1], _ =>
    have h0 := hg 0 _ rfl
    simp only [Value.cells, c_frac, List.drop, List.take, List.getElem?_cons_zero] at h0
    obtain ⟨t0, e0, z0, w0⟩ := frac_in h0
    subst z0
    have h1 := hg 1 _ rfl
    simp only [Value.cells, c_frac, List.drop, List.take, List.getElem?_cons_zero, List.getElem?_cons_succ] at h1
    obtain ⟨t1, e1, z1, w1⟩ := frac_in h1
    subst z1
    simp only [Prod.mk.injEq] at hx
    refine ⟨t0, t1, ?_, by simpa using hx.1, by simpa using hx.2, w0, w1⟩
    rw [← e0, ← e1]; rfl
set_option maxRecDepth 100000 in
theorem gauss_shut {x y : Tri} (hx : wfT x) (hy : wfT y) : DataW.Trod enc Tryz.prog w base spare held 25 (.agg ⟨cel x ++ cel y⟩) (.agg [datT x, datT y]) [] := by
  refine ⟨3, ?_⟩
  have k0 := frac_mk (enc := enc) (w := w) (base := base) (spare := spare) (held := held) hx 0
  have k1 := frac_mk (enc := enc) (w := w) (base := base) (spare := spare) (held := held) hy 0
  have hm := trod_struct_mk (enc := enc) (w := w) (base := base) (spare := spare) (held := held) (n := 2) (cs := cel x ++ cel y) (xs := [(datT x, []), (datT y, [])]) Tryz.underlying25 (by rw [c_gauss]; rfl) (by
    simp only [List.mapM_cons, List.mapM_nil, c_frac]
    rw [show ((cel x ++ cel y).drop 0).take 3 = cel x from rfl, show ((cel x ++ cel y).drop 3).take 3 = cel y from rfl, k0, k1]
    rfl)
  exact hm
end
def gz : Value := .agg #[.bool false, .string ⟨#[]⟩, .string ⟨#[]⟩, .bool false, .string ⟨#[]⟩, .string ⟨#[]⟩]
end Go.Proofs.YtepnghhgmjobjaaGreat
namespace Go.Proofs.YtepnghhgmjobjaaGreat
open Go Go.ChangeShapes Go.WideShapes Go.RowKit Ev
section
variable {H : Type} {enc : TypeId × Value → H} {w : World} {base : Nat} {spare : Nat → Bool} {held : Bool}
set_option maxRecDepth 100000 in
theorem frac_open {r : Reach} {b0 : Nat} {v : Value} {D : DataW H} {ps : List MemPlace} (hv : Value.okWide Tryz.prog w r b0 23 v) (h : DataW.Trod enc Tryz.prog w base spare held 23 v D ps) :
    ∃ x : Tri, v = .agg ⟨cel x⟩ ∧ D = datT x ∧ ps = [] ∧ wfT x := by
  obtain ⟨cs, rfl, hsz⟩ := okWide_struct Tryz.underlying23 hv
  obtain ⟨fuel, hf⟩ := h
  obtain ⟨l⟩ := cs
  obtain ⟨t, e, hx, hw⟩ := frac_in (cs := l) hf
  simp only [Prod.mk.injEq] at hx
  exact ⟨t, by rw [e], hx.1, hx.2, hw⟩
theorem frac_shut {x : Tri} (hx : wfT x) : DataW.Trod enc Tryz.prog w base spare held 23 (.agg ⟨cel x⟩) (datT x) [] := ⟨2, frac_mk hx 0⟩
end
def fz : Value := .agg #[.bool false, .string ⟨#[]⟩, .string ⟨#[]⟩]
end Go.Proofs.YtepnghhgmjobjaaGreat
namespace Go.Proofs.YtepnghhgmjobjaaGreat
open Go.ChangeShapes Go.WideShapes Go.ChangeAt Go.RowKit Ev
set_option maxRecDepth 100000 in
theorem ttells_lifted (os : Os) (started : os.Started) (H : Type) (enc : TypeId × Value → H) :
    ReturnsInHanded {} Tryz.checked os 3 .any (Rows.turnTellsSpec.pre6 enc Tryz.prog Tryz.f3 Rows.turnTellsRow.domain false) (Rows.turnTellsSpec.post enc Tryz.prog Tryz.f3 false true false false) := by
  refine returnsInHanded_of_change_shaped (C := Tryz.checked) own started (by kernel_rfl) Tryz.func3
    (ChangeSpec.witness6 (enc := enc) (C := Tryz.checked) false ⟨#[], #[fz, fz, gz], []⟩ 8 (by kernel_rfl) (by kernel_rfl) (by kernel_rfl) (by kernel_rfl)) ?_
  intro W base args ds gs before hval0 hW hcnd _ hsh _
  have hval : ∀ (j : Nat) t v, Tryz.f3.params[j]? = some t → args[j]? = some v → Value.okWide Tryz.prog W .any base t v := hval0
  have hW' := hW
  obtain ⟨p, q, hA0, hV, rfl, hfz, hnd⟩ := hW
  have hA : DataW.TrodAll enc Tryz.prog W 0 (fun _ => true) true Tryz.f3.params.toList args.toList ds p := hA0
  rw [Tryz.params3] at hA hval
  obtain ⟨v0, vs0, d0, ds0, p0, q0, hargs, rfl, rfl, h0, r0⟩ := trodAll_cons hA
  obtain ⟨v1, vs1, d1, ds1, p1, q1, ha1, rfl, rfl, h1, r1⟩ := trodAll_cons r0
  obtain ⟨v2, vs2, d2, ds2, p2, q2, ha2, rfl, rfl, h2, r2⟩ := trodAll_cons r1
  obtain ⟨hlast, rfl, rfl⟩ := trodAll_nil r2
  obtain rfl : args = #[v0, v1, v2] := by cases args; simp_all
  obtain ⟨rfl, rfl⟩ := trodVars_none hV
  obtain ⟨x0, rfl, rfl, rfl, wx0⟩ := frac_open (hval 0 23 v0 rfl rfl) h0
  obtain ⟨x1, rfl, rfl, rfl, wx1⟩ := frac_open (hval 1 23 v1 rfl rfl) h1
  obtain ⟨x2, y2, rfl, rfl, rfl, wx2, wy2⟩ := gauss_open (hval 2 25 v2 rfl rfl) h2
  have hG := glob_size hsh
  clear hA0 hval0
  simp only [List.append_nil] at hW'
  refine (Ev.turnTells_any W x0 x1 x2 y2 hG trivial).mono fun ee W' ⟨he, hb⟩ => ?_
  subst he
  exact ⟨_, rfl, post_new hW' (fun _ _ _ => (trodAll_cons_mk (shut_bool Tryz.underlying4 _) trodAll_mk0)) (fun sp => (trodAll_cons_mk (frac_shut wx0) (trodAll_cons_mk (frac_shut wx1) (trodAll_cons_mk (gauss_shut wx2 wy2) trodAll_mk0)))) (fun _ => rfl)
    hb (ok_one (by kernel_rfl) rfl (okWide_bool_mk Tryz.underlying4 _))⟩
theorem ttells_over : Rows.turnTellsRow.holds Tryz.pinned (OpenSpec.ofChange Rows.turnTellsSpec) :=
  OpenClaim.holds_of_wide 3 Tryz.f3 rfl rfl rfl rfl rfl rfl rfl ⟨rfl, rfl, rfl, rfl, rfl⟩ rfl rfl rfl rfl rfl (by kernel_rfl) Tryz.func3 (by kernel_rfl)
    (of_decide_eq_true (by kernel_rfl)) (by unfold Func.isWrapper; first | (rw [if_pos (by decide +kernel)]; kernel_rfl) | (rw [if_neg (by decide +kernel)]; exact ⟨rfl, rfl⟩))
    (fun os started H enc _ => ttells_lifted os started H enc)
theorem ttells_holds : Rows.TurnTellsSaid := ttells_over
end Go.Proofs.YtepnghhgmjobjaaGreat
