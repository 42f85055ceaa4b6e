/- Contracts. -/
import Derived.Test.YtaefgofheiegeaaGreatTLq25
import Derived.Test.YtaefgofheiegeaaGreatTLq26
import Derived.Test.YtaefgofheiegeaaGreatTLq24
import Derived.Test.YtaefgofheiegeaaGreatTLq15
import Derived.Test.YtaefgofheiegeaaGreatTLq16
import Derived.Test.YtaefgofheiegeaaGreatTLq17
namespace Go.Proofs.YtaefgofheiegeaaGreat
open Go Go.RowKit
namespace Ev
set_option maxRecDepth 100000
def evC (z : Rat × Rat) : List Rat → Rat × Rat
  | [] => (0, 0)
  | a :: p => ((evC z p).1 * z.1 - (evC z p).2 * z.2 + a, (evC z p).1 * z.2 + (evC z p).2 * z.1)
noncomputable def agF : Nat := 9
noncomputable def agZ (i : Nat) : Qe := .mul (.v i) (.v 105)
noncomputable def agV (n : Nat) : Nat → Qe × Qe × Qe := Nat.rec (motive := fun _ => Qe × Qe × Qe) (.c false 0 1, .c false 0 1, .c false 1 1) (fun k ih =>
  (.add (.sub (.mul ih.1 (agZ 1)) (.mul ih.2.1 (agZ 2))) (.mul (.v (10 + (n - (k + 1)))) ih.2.2), .add (.mul ih.1 (agZ 2)) (.mul ih.2.1 (agZ 1)), .mul ih.2.2 (.v 105)))
noncomputable def agQ (e : Qe) (n : Nat) : Qe := Nat.rec (motive := fun _ => Qe) (.quo e (.c false 1 1)) (fun _ ih => .quo ih (.v 105)) n
noncomputable def ag1 (n : Nat) : Qe := agQ (agV n n).1 (n - 1)
noncomputable def ag2 (n : Nat) : Qe := agQ (agV n n).2.1 (n - 1)
noncomputable def agA (n : Nat) : List As := [⟨1, .c false 1 1, z0, false⟩, ⟨1, .v 105, z0, false⟩, ⟨0, ag1 n, z0, true⟩, ⟨0, ag2 n, z0, true⟩]
def agB (n : Nat) : List Ix := .lc 5 n :: elRow 5 n
noncomputable def giveN1 (_ : Nat) : M Sy Value := newFact (.n 1)
noncomputable def noN : Nms := ⟨[], []⟩
noncomputable def dnS : Nat × (List Value → Option (M Sy Value)) := (dnF, unN [] noN 1 [(5, 0, 0)] giveN1)
noncomputable def whole3 : Nat × (List Value → Option (M Sy Value)) := (16, fun args => match args with
  | [a] => cond (nil0 a) (some (newNum (.c false 0 1))) (some (bind (fact a) fun f => match f with
    | .n k => newNum (.c false k 1)
    | .nu e => cond (e.beq (.v 105)) (newNum (.v 105)) fail
    | _ => fail))
  | _ => none)
noncomputable def agSums (A : List As) : Sums Sy := sumsOf (mkTab (rpG [] [(0, 0, 5)] :: dnS :: (lcF, natT [(.de (.v 1), .de (.v 2), .nu (.v 105))]) :: whole3 :: symList A))
noncomputable def agRun (n : Nat) : Option (D3 Sy) := tells [.ls 0 0, .ng (.v 1), .fn (.v 1), .fd (.v 1), .ng (.v 2), .fn (.v 2), .fd (.v 2)] [.one, .agg 6] (call Tryz.prog (lsCfg false (agA n) (agB n) noJ) (agSums (agA n)) 60 agF)
noncomputable def isGa (e f : Qe) (d : Option (D3 Sy)) : Bool := match d with
  | some (.tuple [.agg [.f a, .f b, .f c, .f a2, .f b2, .f c2], .one (.p v)]) => eqSy a (.ng e) && (eqSy b (.fn e) && (eqSy c (.fd e) && (eqSy a2 (.ng f) && (eqSy b2 (.fn f) && (eqSy c2 (.fd f) && isIc 0 v)))))
  | _ => false
theorem isGa_ok {e f : Qe} {d : Option (D3 Sy)} (h : isGa e f d = true) : d = some (.tuple [.agg [.f (.ng e), .f (.fn e), .f (.fd e), .f (.ng f), .f (.fn f), .f (.fd f)], .one (.p (.int .i64 0))]) := by
  unfold isGa at h
  split at h
  · simp only [Bool.and_eq_true] at h
    obtain ⟨h1, h2, h3, h4, h5, h6, h7⟩ := h
    rw [eqSy_ok _ _ h1, eqSy_ok _ _ h2, eqSy_ok _ _ h3, eqSy_ok _ _ h4, eqSy_ok _ _ h5, eqSy_ok _ _ h6, isIc_ok h7]
  · cases h
set_option maxHeartbeats 4000000 in
theorem ag_runs : (List.range 9).all (fun n => isGa (ag1 n) (ag2 n) (agRun n)) = true := by kernel_rfl
def agEv (p : List Rat) (x y : Rat) (i : Nat) : Rat := if i = 1 then x else if i = 2 then y else if i = 105 then wq (lcN (Big.de x) (Big.de y)) else if 10 ≤ i ∧ i < 90 then p.getD (i - 10) 0 else 0
theorem agEv_fit {p : List Rat} {x y : Rat} (hp : ∀ q ∈ p, Fit q) (hx : Fit x) (hy : Fit y) (i : Nat) (h : i < 100) : Fit (agEv p x y i) := by
  unfold agEv
  split
  · exact hx
  · split
    · exact hy
    · rw [if_neg (by omega)]
      split
      · exact getD_fit hp _
      · exact fit00
theorem agEv_big {p : List Rat} {x y : Rat} (hp : ∀ q ∈ p, Fit q) (hx : Fit x) (hy : Fit y) (i : Nat) : Sm 4096 (agEv p x y i) := by
  unfold agEv
  split
  · exact hx.sm.up (by decide)
  · split
    · exact hy.sm.up (by decide)
    · split
      · exact wq_sm ((lcN_sz hx hy).up (by decide)) (by decide)
      · split
        · exact (getD_fit hp _).sm.up (by decide)
        · exact fit00.sm.up (by decide)
def agLst (p : List Rat) : Nat → List Rat
  | 0 => p
  | 5 => p
  | _ => []
def agEnv (p : List Rat) (x y : Rat) (hp : ∀ q ∈ p, Fit q) (hx : Fit x) (hy : Fit y) (lo : Nat) : Env := ⟨agEv p x y, fun _ => (false, ⟨#[]⟩, ⟨#[]⟩), agEv_fit hp hx hy, agEv_big hp hx hy, fun _ => bad_zero, lo, agLst p, fun _ => 0, rfl⟩
theorem agEv_el (p : List Rat) (x y : Rat) {i : Nat} (h : i < 80) : agEv p x y (10 + i) = p.getD i 0 := by
  unfold agEv
  rw [if_neg (by omega), if_neg (by omega), if_neg (by omega), if_pos (by omega), Nat.add_sub_cancel_left]
theorem lcN_pos (x y : Rat) : lcN (Big.de x) (Big.de y) ≠ 0 := by
  have h1 := Big.de_pos x
  have h2 := Big.de_pos y
  unfold lcN
  have h3 : 0 < Big.de y / Nat.gcd (Big.de x) (Big.de y) := Nat.div_pos (Nat.le_of_dvd h2 (Nat.gcd_dvd_right _ _)) (Nat.gcd_pos_of_pos_left _ h1)
  exact Nat.ne_of_gt (Nat.mul_pos h1 h3)
theorem wq_ne {k : Nat} (h : k ≠ 0) : wq k ≠ 0 := by
  rw [wq_is]
  intro q
  have : ((k : Nat) : Int) = 0 := by exact_mod_cast q
  omega
theorem agV_ev (p : List Rat) (x y : Rat) (hl : p.length ≤ 8) : ∀ k, k ≤ p.length → (agV p.length k).2.2.ev (agEv p x y) = wq (lcN (Big.de x) (Big.de y)) ^ k ∧
    (agV p.length k).1.ev (agEv p x y) * wq (lcN (Big.de x) (Big.de y)) = (evC (x, y) (p.drop (p.length - k))).1 * wq (lcN (Big.de x) (Big.de y)) ^ k ∧
    (agV p.length k).2.1.ev (agEv p x y) * wq (lcN (Big.de x) (Big.de y)) = (evC (x, y) (p.drop (p.length - k))).2 * wq (lcN (Big.de x) (Big.de y)) ^ k
  | 0, _ => by
    rw [Nat.sub_zero, List.drop_length]
    have e1 : ((.c false 1 1 : Qe)).ev (agEv p x y) = 1 := by show mkRat (Big.sI false 1) 1 = 1; rfl
    have e0 : ((.c false 0 1 : Qe)).ev (agEv p x y) = 0 := by show mkRat (Big.sI false 0) 1 = 0; rfl
    refine ⟨?_, ?_, ?_⟩
    · show ((.c false 1 1 : Qe)).ev (agEv p x y) = _
      rw [e1, Rat.pow_zero]
    · show ((.c false 0 1 : Qe)).ev (agEv p x y) * _ = 0 * _
      rw [e0]; grind
    · show ((.c false 0 1 : Qe)).ev (agEv p x y) * _ = 0 * _
      rw [e0]; grind
  | k + 1, h => by
    obtain ⟨i1, i2, i3⟩ := agV_ev p x y hl k (by omega)
    have hd : p.drop (p.length - (k + 1)) = p.getD (p.length - (k + 1)) 0 :: p.drop (p.length - k) := by
      rw [List.drop_eq_getElem_cons (by omega), show p.length - (k + 1) + 1 = p.length - k by omega, List.getD_eq_getElem?_getD, List.getElem?_eq_getElem (by omega)]; rfl
    have h1 : agEv p x y 1 = x := rfl
    have h2 : agEv p x y 2 = y := rfl
    have h105 : agEv p x y 105 = wq (lcN (Big.de x) (Big.de y)) := rfl
    have hel := agEv_el p x y (i := p.length - (k + 1)) (by omega)
    rw [hd]
    refine ⟨?_, ?_, ?_⟩
    · show (agV p.length k).2.2.ev (agEv p x y) * agEv p x y 105 = _
      rw [i1, h105, Rat.pow_succ]
    · show ((agV p.length k).1.ev (agEv p x y) * (agEv p x y 1 * agEv p x y 105) - (agV p.length k).2.1.ev (agEv p x y) * (agEv p x y 2 * agEv p x y 105) + agEv p x y (10 + (p.length - (k + 1))) * (agV p.length k).2.2.ev (agEv p x y)) * _ = ((evC (x, y) (p.drop (p.length - k))).1 * x - (evC (x, y) (p.drop (p.length - k))).2 * y + p.getD (p.length - (k + 1)) 0) * _
      rw [i1, h105, h1, h2, hel, Rat.pow_succ]
      generalize (agV p.length k).1.ev (agEv p x y) = a at *
      generalize (agV p.length k).2.1.ev (agEv p x y) = b at *
      generalize wq (lcN (Big.de x) (Big.de y)) = c at *
      generalize c ^ k = d at *
      generalize (evC (x, y) (p.drop (p.length - k))).1 = e at *
      generalize (evC (x, y) (p.drop (p.length - k))).2 = f at *
      grind
    · show ((agV p.length k).1.ev (agEv p x y) * (agEv p x y 2 * agEv p x y 105) + (agV p.length k).2.1.ev (agEv p x y) * (agEv p x y 1 * agEv p x y 105)) * _ = ((evC (x, y) (p.drop (p.length - k))).1 * y + (evC (x, y) (p.drop (p.length - k))).2 * x) * _
      rw [h105, h1, h2, Rat.pow_succ]
      generalize (agV p.length k).1.ev (agEv p x y) = a at *
      generalize (agV p.length k).2.1.ev (agEv p x y) = b at *
      generalize wq (lcN (Big.de x) (Big.de y)) = c at *
      generalize c ^ k = d at *
      generalize (evC (x, y) (p.drop (p.length - k))).1 = e at *
      generalize (evC (x, y) (p.drop (p.length - k))).2 = f at *
      grind
theorem agQ_ev (p : List Rat) (x y : Rat) (e : Qe) : ∀ n, (agQ e n).ev (agEv p x y) * wq (lcN (Big.de x) (Big.de y)) ^ n = e.ev (agEv p x y)
  | 0 => by
    have e1 : ((.c false 1 1 : Qe)).ev (agEv p x y) = 1 := by show mkRat (Big.sI false 1) 1 = 1; rfl
    show e.ev (agEv p x y) / ((.c false 1 1 : Qe)).ev (agEv p x y) * _ = _
    rw [e1, Rat.pow_zero]; grind
  | n + 1 => by
    have ih := agQ_ev p x y e n
    have h105 : agEv p x y 105 = wq (lcN (Big.de x) (Big.de y)) := rfl
    have hne := wq_ne (lcN_pos x y)
    show (agQ e n).ev (agEv p x y) / agEv p x y 105 * _ = _
    rw [h105, Rat.pow_succ, ← ih]
    generalize (agQ e n).ev (agEv p x y) = a at *
    generalize wq (lcN (Big.de x) (Big.de y)) = c at *
    generalize c ^ n = d at *
    grind
theorem pow_ne {c : Rat} (h : c ≠ 0) : ∀ n : Nat, c ^ n ≠ 0
  | 0 => by rw [Rat.pow_zero]; decide
  | n + 1 => by
    rw [Rat.pow_succ]
    intro q
    rcases Rat.mul_eq_zero.1 q with q | q
    · exact pow_ne h n q
    · exact h q
theorem ag_is (p : List Rat) (x y : Rat) (hl : p.length ≤ 8) : (ag1 p.length).ev (agEv p x y) = (evC (x, y) p).1 ∧ (ag2 p.length).ev (agEv p x y) = (evC (x, y) p).2 := by
  obtain ⟨_, i2, i3⟩ := agV_ev p x y hl p.length (Nat.le_refl _)
  rw [Nat.sub_self, List.drop_zero] at i2 i3
  have q1 := agQ_ev p x y (agV p.length p.length).1 (p.length - 1)
  have q2 := agQ_ev p x y (agV p.length p.length).2.1 (p.length - 1)
  have hne := wq_ne (lcN_pos x y)
  have hpn := pow_ne hne (p.length - 1)
  unfold ag1 ag2
  rcases Nat.eq_zero_or_pos p.length with h | h
  · have h0 : p = [] := List.length_eq_zero_iff.1 h
    subst h0
    exact ⟨show mkRat (Big.sI false 0) 1 / mkRat (Big.sI false 1) 1 = 0 by decide +kernel, show mkRat (Big.sI false 0) 1 / mkRat (Big.sI false 1) 1 = 0 by decide +kernel⟩
  · have hp : wq (lcN (Big.de x) (Big.de y)) ^ p.length = wq (lcN (Big.de x) (Big.de y)) ^ (p.length - 1) * wq (lcN (Big.de x) (Big.de y)) := by
      rw [← Rat.pow_succ, show p.length - 1 + 1 = p.length by omega]
    rw [hp, ← q1] at i2
    rw [hp, ← q2] at i3
    generalize (agQ (agV p.length p.length).1 (p.length - 1)).ev (agEv p x y) = a at *
    generalize (agQ (agV p.length p.length).2.1 (p.length - 1)).ev (agEv p x y) = b at *
    generalize wq (lcN (Big.de x) (Big.de y)) ^ (p.length - 1) = d at *
    generalize wq (lcN (Big.de x) (Big.de y)) = c at *
    constructor <;> grind
section
variable {ρ : Env}
theorem giveN1_gives {f : FuncId} : GivesOK ρ f giveN1 (fun _ _ en w' => ∃ u, en = .returned u ∧ NatIn w' u 1) := fun _ _ _ _ _ _ _ _ _ _ _ e hM hN c =>
  goes_fact (n := .n 1) e hM hN (c.mono fun en w' hh => by
    obtain ⟨⟨u, q1, q2⟩, q3⟩ := hh
    exact ⟨u, q1, q2, nat_one q2, q3⟩)
theorem noN_ok : NmsOK ρ noN := ⟨fun _ _ h => by simp [noN] at h, fun _ _ h => by simp [noN] at h⟩
theorem dnS_ok (hp : ∀ y ∈ ρ.lst 5, Fit y) (hd : ∀ y ∈ ρ.lst 5, Big.de y = 1) (hl : (ρ.lst 5).length ≤ 9) : SumF (symSig ρ) Tryz.prog dnS.1 dnS.2 :=
  unN_ok (B := []) (fun x hx => by simp at hx) noN_ok (fun _ => loc_newFact _) (Q := fun _ _ en w' => ∃ u, en = .returned u ∧ NatIn w' u 1) (fun c e hm w v hv hG hT => by
    simp only [List.mem_cons, List.not_mem_nil, or_false, Prod.mk.injEq, true_and] at hm
    obtain ⟨rfl, rfl⟩ := hm
    refine (denE_any w hp hd hl hv hG hT).mono ?_
    rintro en w' ⟨u, q1, q2, q3⟩
    exact ⟨⟨u, q1, q2⟩, q3⟩) giveN1_gives
theorem whole3_ok {k : Nat} (h : ρ.q 105 = wq k) : SumF (symSig ρ) Tryz.prog whole3.1 whole3.2 := by
  intro args m hm
  rcases args with _ | ⟨a, _ | ⟨b, l⟩⟩ <;> first | (cases (show none = some m from hm); done) | skip
  have hm' : cond (nil0 a) (some (newNum (.c false 0 1))) (some (bind (fact a) fun f => match f with
    | .n k => newNum (.c false k 1)
    | .nu e => cond (e.beq (.v 105)) (newNum (.v 105)) fail
    | _ => fail)) = some m := hm
  cases hn : nil0 a with
  | true =>
    rw [hn] at hm'
    cases hm'
    obtain rfl := nil0_ok hn
    refine ⟨loc_newNum _, fun h nx v h' nx' R W e r w args' hv hM hN => ?_⟩
    cases hv with
    | cons h1 h2 =>
      cases h2
      obtain rfl := h1.eq_of_plain rfl
      refine goes_agg e hM hN ((whole_nought w hM.fits hM.base).mono ?_)
      rintro en w' ⟨u, rfl, hu, hb⟩
      have hu' : NumIn w' u (((.c false 0 1 : Qe)).ev ρ.q) := hu
      obtain ⟨us, rfl, hus⟩ := num_holds hu'
      exact ⟨us, rfl, hus, hb⟩
  | false =>
    rw [hn] at hm'
    cases hm'
    refine ⟨loc_bind (loc_fact _) fun f => ?_, fun h nx v h' nx' R W e r w args' ha hM hN => ?_⟩
    · split
      · exact loc_newNum _
      · exact loc_cond (loc_newNum _) loc_fail
      · exact loc_fail
    · cases ha with
      | cons h1 h2 =>
        cases h2
        obtain ⟨f, g1, nx1, R1, W1, R2, W2, e1, e2, rfl, rfl⟩ := bind_ok e
        obtain ⟨rfl, rfl, rfl, hf⟩ := fact_ok e1 h1 hM
        cases f <;> first | (cases (show (fail : M Sy Value) _ _ = _ from e2); done) | skip
        · rename_i j
          have := goes_agg (f := 16) e2 hM hN ((wholeK_any w (show NatIn w _ j from hf) hM.fits hM.base).mono fun en w' hh => by
            obtain ⟨u, rfl, hu, hb⟩ := hh
            obtain ⟨us, rfl, hus⟩ := num_holds (e := .c false j 1) (ρ := ρ) hu
            exact ⟨us, rfl, hus, hb⟩)
          simp only [List.nil_append]
          exact this
        · rename_i q
          obtain ⟨hk, e3⟩ := cond_ok (show cond (q.beq (.v 105)) _ fail _ _ = _ from e2)
          obtain rfl := Qe.beq_ok _ _ hk
          have hf' : NatIn w _ (Big.nu (ρ.q 105)) := hf
          rw [h, (wq_parts k).2.1] at hf'
          have := goes_agg (f := 16) e3 hM hN ((wholeK_any w hf' hM.fits hM.base).mono fun en w' hh => by
            obtain ⟨u, rfl, hu, hb⟩ := hh
            rw [← h] at hu
            obtain ⟨us, rfl, hus⟩ := num_holds (e := .v 105) (ρ := ρ) hu
            exact ⟨us, rfl, hus, hb⟩)
          simp only [List.nil_append]
          exact this
end
set_option maxHeartbeats 1000000 in
theorem atGauss_any (w : World) {p : List Rat} {x y : Rat} (hp : PolyOK p) (hd : ∀ q ∈ p, Big.de q = 1) (hl : p.length ≤ 8) (hx : Fit x) (hy : Fit y) (h1 : Fit (evC (x, y) p).1) (h2 : Fit (evC (x, y) p).2) {u : Value} (hu : LsIn 0 w u p) (hG : Tryz.prog.globals.size ≤ w.heap.size) (hT : natSig.base w) :
    Calls Tryz.prog agF ⟨[u, gV x y]⟩ w fun e w' => e = .returned (.tuple ⟨[gV (evC (x, y) p).1 (evC (x, y) p).2, .int .i64 0]⟩) ∧ Below w.heap.size w w' := by
  let E := agEnv p x y hp.fit hx hy w.heap.size
  obtain ⟨k1, k2⟩ := ag_is p x y hl
  have hr := isGa_ok (List.all_eq_true.1 ag_runs p.length (List.mem_range.2 (by omega)))
  have hA : AllH E (agA p.length) := fun z hz => by
    simp only [agA, List.mem_cons, List.not_mem_nil, or_false] at hz
    rcases hz with rfl | rfl | rfl | rfl
    · show false = true ↔ mkRat (Big.sI false 1) 1 = 0
      exact ⟨fun h => (by cases h), fun h => absurd h (by decide +kernel)⟩
    · show false = true ↔ wq (lcN (Big.de x) (Big.de y)) = 0
      exact ⟨fun h => (by cases h), fun h => absurd h (wq_ne (lcN_pos x y))⟩
    · show true = true ↔ Fit ((ag1 p.length).ev (agEv p x y))
      rw [k1]; exact ⟨fun _ => h1, fun _ => rfl⟩
    · show true = true ↔ Fit ((ag2 p.length).ev (agEv p x y))
      rw [k2]; exact ⟨fun _ => h2, fun _ => rfl⟩
  have hB : AllX E (agB p.length) := fun z hz => by
    rcases List.mem_cons.1 hz with rfl | hz
    · rfl
    · exact elRow_ok (ρ := E) (c := 5) (p := p) rfl (fun i hi => agEv_el p x y (by omega)) (Nat.le_refl _) z hz
  have hS : SumOK (symSig E) Tryz.prog (agSums (agA p.length)) := sumsOf_ok fun z hz => by
    rcases List.mem_cons.1 hz with rfl | hz
    · refine rpG_ok (B := []) (fun x hx => by simp at hx) fun c e hm => ?_
      obtain ⟨rfl, _, rfl⟩ := two_mem hm
      exact ⟨rfl, hp, show p.length ≤ 33 by omega⟩
    rcases List.mem_cons.1 hz with rfl | hz
    · exact dnS_ok (ρ := E) hp.fit hd (show p.length ≤ 9 by omega)
    rcases List.mem_cons.1 hz with rfl | hz
    · refine natT_ok fun f g k hm w v u hv hu hG hT => ?_
      simp only [List.mem_cons, List.not_mem_nil, or_false, Prod.mk.injEq] at hm
      obtain ⟨rfl, rfl, rfl⟩ := hm
      have hv' : NatIn w v (Big.de x) := hv
      have hu' : NatIn w u (Big.de y) := hu
      refine (lcm_any w hx hy hv' hu' hG hT).mono ?_
      rintro e w' ⟨z, q1, q2, q3⟩
      refine ⟨z, q1, ?_, q3⟩
      show NatIn w' z (Big.nu (wq _))
      rw [(wq_parts _).2.1]; exact q2
    rcases List.mem_cons.1 hz with rfl | hz
    · exact whole3_ok (ρ := E) (k := lcN (Big.de x) (Big.de y)) rfl
    · exact symList_ok hA z hz
  obtain ⟨a, l1, e1, g1, o1, b, l2, rfl, g2, o2, c, l3, rfl, g3, o3, rfl⟩ := frac_holds (ρ := E) (w := w) (.v 1)
  obtain ⟨a2, l4, e2, g4, o4, b2, l5, rfl, g5, o5, c2, l6, rfl, g6, o6, rfl⟩ := frac_holds (ρ := E) (w := w) (.v 2)
  simp only [List.cons.injEq, and_true] at e1 e2
  obtain ⟨rfl, rfl, rfl⟩ := e1
  obtain ⟨rfl, rfl, rfl⟩ := e2
  have hh : HoldsL (symSig E) w [.ls 0 0, .ng (.v 1), .fn (.v 1), .fd (.v 1), .ng (.v 2), .fn (.v 2), .fd (.v 2)] [u, .bool (Big.ng x), .string (bst (Big.nu x)), .string (bst (Big.de x)), .bool (Big.ng y), .string (bst (Big.nu y)), .string (bst (Big.de y))] :=
    ⟨u, _, rfl, LsIn.ls hu rfl, by obtain ⟨a, m, rfl, _⟩ := hu; rfl, _, _, rfl, g1, o1, _, _, rfl, g2, o2, _, _, rfl, g3, o3, _, _, rfl, g4, o4, _, _, rfl, g5, o5, _, _, rfl, g6, o6, rfl⟩
  refine (tells_calls (lsFits hA hB) hS hr rfl glob_few hh hG hT (Nat.le_refl _) (.none rfl)).mono ?_
  rintro e w' ⟨v', rfl, ⟨vs, rfl, a, l1, rfl, ⟨us, rfl, a1, m1, rfl, q1, a2, m2, rfl, q2, a3, m3, rfl, q3, a4, m4, rfl, q4, a5, m5, rfl, q5, a6, m6, rfl, q6, rfl⟩, u2, l2, rfl, h2, rfl⟩, hb⟩
  have q1' : a1 = .bool (Big.ng ((ag1 p.length).ev (agEv p x y))) := q1
  have q2' : a2 = .string (bst (Big.nu ((ag1 p.length).ev (agEv p x y)))) := q2
  have q3' : a3 = .string (bst (Big.de ((ag1 p.length).ev (agEv p x y)))) := q3
  have q4' : a4 = .bool (Big.ng ((ag2 p.length).ev (agEv p x y))) := q4
  have q5' : a5 = .string (bst (Big.nu ((ag2 p.length).ev (agEv p x y)))) := q5
  have q6' : a6 = .string (bst (Big.de ((ag2 p.length).ev (agEv p x y)))) := q6
  rw [k1] at q1' q2' q3'
  rw [k2] at q4' q5' q6'
  have h2' : u2 = .int .i64 0 := h2
  subst q1' q2' q3' q4' q5' q6' h2'
  exact ⟨rfl, hb⟩
def cM (a b : Rat × Rat) : Rat × Rat := (a.1 * b.1 - a.2 * b.2, a.1 * b.2 + a.2 * b.1)
theorem cM_assoc (a b c : Rat × Rat) : cM (cM a b) c = cM a (cM b c) := by
  unfold cM
  exact Prod.ext (by simp only; grind) (by simp only; grind)
theorem evC_zero (z : Rat × Rat) : ∀ l : List Rat, (∀ i, cf l i = 0) → evC z l = (0, 0)
  | [], _ => rfl
  | a :: l, h => by
    have h0 : a = 0 := h 0
    have h1 := evC_zero z l fun i => h (i + 1)
    show ((evC z l).1 * z.1 - (evC z l).2 * z.2 + a, (evC z l).1 * z.2 + (evC z l).2 * z.1) = _
    rw [h0, h1]
    exact Prod.ext (by simp only; grind) (by simp only; grind)
theorem evC_ext (z : Rat × Rat) : ∀ (l m : List Rat), (∀ i, cf l i = cf m i) → evC z l = evC z m
  | [], m, h => (evC_zero z m fun i => (h i).symm).symm
  | a :: l, [], h => evC_zero z (a :: l) h
  | a :: l, b :: m, h => by
    have h0 : a = b := h 0
    have h1 := evC_ext z l m fun i => h (i + 1)
    show ((evC z l).1 * z.1 - (evC z l).2 * z.2 + a, (evC z l).1 * z.2 + (evC z l).2 * z.1) = ((evC z m).1 * z.1 - (evC z m).2 * z.2 + b, (evC z m).1 * z.2 + (evC z m).2 * z.1)
    rw [h0, h1]
theorem evC_addL (z : Rat × Rat) : ∀ p q : List Rat, evC z (addL p q) = ((evC z p).1 + (evC z q).1, (evC z p).2 + (evC z q).2)
  | [], q => by
    show evC z q = (0 + (evC z q).1, 0 + (evC z q).2)
    rw [Rat.zero_add, Rat.zero_add]
  | a :: p, [] => by
    show evC z (a :: p) = ((evC z (a :: p)).1 + 0, (evC z (a :: p)).2 + 0)
    rw [Rat.add_zero, Rat.add_zero]
  | a :: p, b :: q => by
    show ((evC z (addL p q)).1 * z.1 - (evC z (addL p q)).2 * z.2 + (a + b), (evC z (addL p q)).1 * z.2 + (evC z (addL p q)).2 * z.1) = (((evC z p).1 * z.1 - (evC z p).2 * z.2 + a) + ((evC z q).1 * z.1 - (evC z q).2 * z.2 + b), ((evC z p).1 * z.2 + (evC z p).2 * z.1) + ((evC z q).1 * z.2 + (evC z q).2 * z.1))
    rw [evC_addL z p q]
    exact Prod.ext (by simp only; grind) (by simp only; grind)
theorem evC_map (z : Rat × Rat) (a : Rat) : ∀ q : List Rat, evC z (q.map (a * ·)) = (a * (evC z q).1, a * (evC z q).2)
  | [] => by
    show ((0 : Rat), (0 : Rat)) = (a * 0, a * 0)
    rw [Rat.mul_zero]
  | b :: q => by
    show ((evC z (q.map (a * ·))).1 * z.1 - (evC z (q.map (a * ·))).2 * z.2 + a * b, (evC z (q.map (a * ·))).1 * z.2 + (evC z (q.map (a * ·))).2 * z.1) = (a * ((evC z q).1 * z.1 - (evC z q).2 * z.2 + b), a * ((evC z q).1 * z.2 + (evC z q).2 * z.1))
    rw [evC_map z a q]
    exact Prod.ext (by simp only; grind) (by simp only; grind)
theorem evC_mulL (z : Rat × Rat) : ∀ p q : List Rat, evC z (mulL p q) = cM (evC z p) (evC z q)
  | [], q => by
    show ((0 : Rat), (0 : Rat)) = (0 * (evC z q).1 - 0 * (evC z q).2, 0 * (evC z q).2 + 0 * (evC z q).1)
    exact Prod.ext (by simp only; grind) (by simp only; grind)
  | a :: p, q => by
    show evC z (addL (q.map (a * ·)) (0 :: mulL p q)) = _
    rw [evC_addL, evC_map]
    show (a * (evC z q).1 + ((evC z (mulL p q)).1 * z.1 - (evC z (mulL p q)).2 * z.2 + 0), a * (evC z q).2 + ((evC z (mulL p q)).1 * z.2 + (evC z (mulL p q)).2 * z.1)) = cM ((evC z p).1 * z.1 - (evC z p).2 * z.2 + a, (evC z p).1 * z.2 + (evC z p).2 * z.1) (evC z q)
    rw [evC_mulL z p q]
    unfold cM
    exact Prod.ext (by simp only; grind) (by simp only; grind)
theorem evC_pd (z : Rat × Rat) (p q : List Rat) : evC z (pd p q) = cM (evC z p) (evC z q) := by
  rw [evC_ext z (pd p q) (mulL p q) fun i => by rw [cf_pd, cf_mulL], evC_mulL]
theorem evC_trm (z : Rat × Rat) (l : List Rat) : evC z (trm l) = evC z l := evC_ext z _ _ fun i => cf_take (tm_ok l) i
theorem evC_pa (z : Rat × Rat) (p q : List Rat) : evC z (pa p q) = ((evC z p).1 + (evC z q).1, (evC z p).2 + (evC z q).2) := by
  rw [evC_ext z (pa p q) (addL p q) fun i => by rw [cf_pa, cf_addL], evC_addL]
theorem evC_sc (z : Rat × Rat) (p : List Rat) (x : Rat) : evC z (sc p x) = (x * (evC z p).1, x * (evC z p).2) := by
  have : sc p x = p.map (x * ·) := List.map_congr_left fun y _ => Rat.mul_comm y x
  rw [this, evC_map]
theorem pow_zero' (t : Rat) : evC (0, t) (powL 0) = (1, 0) := by
  show ((0 : Rat) * 0 - 0 * t + 1, (0 : Rat) * t + 0 * 0) = (1, 0)
  exact Prod.ext (by simp only; grind) (by simp only; grind)
theorem pow_step (t : Rat) (j : Nat) : evC (0, t) (powL (j + 1)) = cM (evC (0, t) (powL j)) (1, -t) := by
  have h : evC (0, t) [1, -1] = (1, -t) := by
    show (((0 : Rat) * 0 - 0 * t + -1) * 0 - ((0 : Rat) * t + 0 * 0) * t + 1, ((0 : Rat) * 0 - 0 * t + -1) * t + ((0 : Rat) * t + 0 * 0) * 0) = (1, -t)
    exact Prod.ext (by simp only; grind) (by simp only; grind)
  show evC (0, t) (pd (powL j) [1, -1]) = _
  rw [evC_pd, h]
theorem sum_step (p : List Rat) (t : Rat) (j : Nat) : evC (0, t) (sumL p (j + 1)) = ((cM (evC (0, t) (sumL p j)) (1, t)).1 + p.getD (8 - j) 0 * (evC (0, t) (powL j)).1, (cM (evC (0, t) (sumL p j)) (1, t)).2 + p.getD (8 - j) 0 * (evC (0, t) (powL j)).2) := by
  have h : evC (0, t) [1, 1] = (1, t) := by
    show (((0 : Rat) * 0 - 0 * t + 1) * 0 - ((0 : Rat) * t + 0 * 0) * t + 1, ((0 : Rat) * 0 - 0 * t + 1) * t + ((0 : Rat) * t + 0 * 0) * 0) = (1, t)
    exact Prod.ext (by simp only; grind) (by simp only; grind)
  show evC (0, t) (if 8 - j < p.length then trm (pa (pd (sumL p j) [1, 1]) (sclL p j)) else pd (sumL p j) [1, 1]) = _
  split
  · rw [evC_trm, evC_pa, evC_pd, h]
    unfold sclL
    rw [evC_trm, evC_sc]
  · rename_i hn
    have h0 : p.getD (8 - j) 0 = 0 := by rw [List.getD_eq_getElem?_getD, List.getElem?_eq_none (by omega)]; rfl
    rw [evC_pd, h, h0]
    exact Prod.ext (by simp only; grind) (by simp only; grind)
def padL (p : List Rat) : Nat → List Rat
  | 0 => []
  | j + 1 => p.getD (8 - j) 0 :: padL p j
theorem cf_pad (p : List Rat) : ∀ j i, j ≤ 9 → cf (padL p j) i = if i < j then p.getD (9 - j + i) 0 else 0
  | 0, i, _ => by rw [if_neg (by omega)]; rfl
  | j + 1, 0, h => by
    rw [if_pos (by omega), show 9 - (j + 1) + 0 = 8 - j by omega]; rfl
  | j + 1, i + 1, h => by
    have := cf_pad p j i (by omega)
    show cf (padL p j) i = _
    rw [this]
    by_cases hi : i < j
    · rw [if_pos hi, if_pos (by omega), show 9 - (j + 1) + (i + 1) = 9 - j + i by omega]
    · rw [if_neg hi, if_neg (by omega)]
theorem evC_pad (z : Rat × Rat) {p : List Rat} (hl : p.length ≤ 9) : evC z (padL p 9) = evC z p := evC_ext z _ _ fun i => by
  rw [cf_pad p 9 i (Nat.le_refl _)]
  split
  · rw [show 9 - 9 + i = i by omega]; rfl
  · rw [cf_beyond (by omega)]
theorem one_tt (t : Rat) : 1 + t * t ≠ 0 := fun h => by
  have h1 : (0 : Rat) ≤ t * t := by
    rcases Rat.le_total (a := 0) (b := t) with q | q
    · exact Rat.mul_nonneg q q
    · have := Rat.mul_nonneg (a := -t) (b := -t) (by grind) (by grind)
      grind
  grind
def ptZ (t : Rat) : Rat × Rat := ((1 - t * t) / (1 + t * t), (t + t) / (1 + t * t))
theorem pt_b (t : Rat) : cM (ptZ t) (1, -t) = (1, t) := by
  have h := one_tt t
  unfold cM ptZ
  have e1 : (1 - t * t) / (1 + t * t) = (1 - t * t) * (1 + t * t)⁻¹ := Rat.div_def _ _
  have e2 : (t + t) / (1 + t * t) = (t + t) * (1 + t * t)⁻¹ := Rat.div_def _ _
  have e3 : (1 + t * t) * (1 + t * t)⁻¹ = 1 := Rat.mul_inv_cancel _ h
  simp only
  rw [e1, e2]
  generalize (1 + t * t)⁻¹ = c at *
  exact Prod.ext (by simp only; grind) (by simp only; grind)
theorem sum_pow (p : List Rat) (t : Rat) : ∀ j, cM (evC (0, t) (sumL p j)) (1, -t) = cM (evC (ptZ t) (padL p j)) (evC (0, t) (powL j))
  | 0 => by
    show cM (0, 0) (1, -t) = cM (0, 0) _
    unfold cM
    exact Prod.ext (by simp only; grind) (by simp only; grind)
  | j + 1 => by
    have ih := sum_pow p t j
    have hb := pt_b t
    rw [sum_step, pow_step]
    show cM _ _ = cM ((cM (evC (ptZ t) (padL p j)) (ptZ t)).1 + p.getD (8 - j) 0, (cM (evC (ptZ t) (padL p j)) (ptZ t)).2) _
    generalize evC (0, t) (sumL p j) = A at *
    generalize evC (ptZ t) (padL p j) = H at *
    generalize evC (0, t) (powL j) = B at *
    generalize ptZ t = z at *
    generalize p.getD (8 - j) 0 = c at *
    obtain ⟨a1, a2⟩ := A
    obtain ⟨h1, h2⟩ := H
    obtain ⟨b1, b2⟩ := B
    obtain ⟨z1, z2⟩ := z
    unfold cM at *
    simp only [Prod.mk.injEq] at *
    obtain ⟨i1, i2⟩ := ih
    obtain ⟨k1, k2⟩ := hb
    constructor <;> grind
theorem cancel_b {A C : Rat × Rat} {t : Rat} (h : cM A (1, -t) = cM C (1, -t)) : A = C := by
  obtain ⟨a1, a2⟩ := A
  obtain ⟨c1, c2⟩ := C
  have h0 := one_tt t
  unfold cM at h
  simp only [Prod.mk.injEq] at h
  obtain ⟨h1, h2⟩ := h
  have e1 : (a1 - c1) * (1 + t * t) = 0 := by grind
  have e2 : a1 - c1 = 0 := by
    rcases Rat.mul_eq_zero.1 e1 with q | q
    · exact q
    · exact absurd q h0
  have e3 : a1 = c1 := by grind
  subst e3
  have e4 : a2 = c2 := by grind
  rw [e4]
theorem sum_is {p : List Rat} (hl : p.length ≤ 9) (t : Rat) : evC (0, t) (sumL p 9) = cM (evC (ptZ t) p) (evC (0, t) (powL 8)) := by
  refine cancel_b (t := t) ?_
  rw [sum_pow, evC_pad _ hl, cM_assoc, pow_step]
def rotR (k : Nat) (a : Rat) : Rat := if k % 4 = 0 then a else if k % 4 = 2 then -a else 0
def rotI (k : Nat) (a : Rat) : Rat := if k % 4 = 1 then a else if k % 4 = 3 then -a else 0
def reF : Nat → List Rat → List Rat
  | _, [] => []
  | k, a :: p => rotR k a :: reF (k + 1) p
def imF : Nat → List Rat → List Rat
  | _, [] => []
  | k, a :: p => rotI k a :: imF (k + 1) p
def pick4 (k : Nat) (a b c d : Rat) : Rat := if k % 4 = 0 then a else if k % 4 = 1 then b else if k % 4 = 2 then c else d
theorem rot_ev (t : Rat) : ∀ (p : List Rat) (k : Nat), evL t (reF k p) = pick4 k (evC (0, t) p).1 (-(evC (0, t) p).2) (-(evC (0, t) p).1) (evC (0, t) p).2 ∧ evL t (imF k p) = pick4 k (evC (0, t) p).2 (evC (0, t) p).1 (-(evC (0, t) p).2) (-(evC (0, t) p).1)
  | [], k => by
    constructor
    · show (0 : Rat) = pick4 k 0 (-0) (-0) 0
      unfold pick4
      (repeat' split) <;> grind
    · show (0 : Rat) = pick4 k 0 0 (-0) (-0)
      unfold pick4
      (repeat' split) <;> grind
  | a :: p, k => by
    obtain ⟨i1, i2⟩ := rot_ev t p (k + 1)
    have e1 : (evC (0, t) (a :: p)).1 = -((evC (0, t) p).2 * t) + a := by
      show (evC (0, t) p).1 * 0 - (evC (0, t) p).2 * t + a = _
      grind
    have e2 : (evC (0, t) (a :: p)).2 = (evC (0, t) p).1 * t := by
      show (evC (0, t) p).1 * t + (evC (0, t) p).2 * 0 = _
      grind
    rw [e1, e2]
    constructor
    · show evL t (reF (k + 1) p) * t + rotR k a = _
      rw [i1]
      generalize (evC (0, t) p).1 = x
      generalize (evC (0, t) p).2 = y
      unfold pick4 rotR
      rcases (show k % 4 = 0 ∨ k % 4 = 1 ∨ k % 4 = 2 ∨ k % 4 = 3 by omega) with h | h | h | h
      · rw [show (k + 1) % 4 = 1 by omega, h]
        simp <;> grind
      · rw [show (k + 1) % 4 = 2 by omega, h]
        simp <;> grind
      · rw [show (k + 1) % 4 = 3 by omega, h]
        simp <;> grind
      · rw [show (k + 1) % 4 = 0 by omega, h]
        simp <;> grind
    · show evL t (imF (k + 1) p) * t + rotI k a = _
      rw [i2]
      generalize (evC (0, t) p).1 = x
      generalize (evC (0, t) p).2 = y
      unfold pick4 rotI
      rcases (show k % 4 = 0 ∨ k % 4 = 1 ∨ k % 4 = 2 ∨ k % 4 = 3 by omega) with h | h | h | h
      · rw [show (k + 1) % 4 = 1 by omega, h]
        simp <;> grind
      · rw [show (k + 1) % 4 = 2 by omega, h]
        simp <;> grind
      · rw [show (k + 1) % 4 = 3 by omega, h]
        simp <;> grind
      · rw [show (k + 1) % 4 = 0 by omega, h]
        simp <;> grind
theorem re_ev (t : Rat) (p : List Rat) : evL t (reF 0 p) = (evC (0, t) p).1 := (rot_ev t p 0).1
theorem im_ev (t : Rat) (p : List Rat) : evL t (imF 0 p) = (evC (0, t) p).2 := (rot_ev t p 0).2
noncomputable def tlF : Nat := 3
noncomputable def tlTm : List Nat := [7, 0, 8, 1, 2]
noncomputable def tlSl (x y : Sl Sy) : List (Sl Sy) := [x, .f (.ls 3 0), y, .f (.is (.v 1)), .f (.is (.v 2))]
noncomputable def tlPre : List (Sl Sy) := tlSl (.p (.slice none 0 0)) (.p (.int .i64 0))
noncomputable def tlCs : List (Sl Sy) := tlSl (.ow (.ol 2 (.v 1) none)) (.f (.ix 2 0))
noncomputable def tlCs' : List (Sl Sy) := tlSl (.ow (.ol 2 (.snoc (.v 1) (.v 20)) none)) (.f (.ix 2 1))
noncomputable def tlPost : List (Sl Sy) := tlSl (.ow (.ol 2 (.v 5) none)) (.f (.ix 6 0))
noncomputable def tlB1 : List Ix := [.ln 0 1, .ln 1 2, .bd 2, .lt 2 0 1 0 true, .lt 2 0 0 8 true, .el 0 2 0 (.v 20)]
set_option maxHeartbeats 4000000 in
theorem tl_round : roundT Tryz.prog (lsCfg false [] tlB1 noJ) (lsCl false [] tlB1 20) 148 20 eqSy tlTm tlCs tlCs' (loopOf tlF 0) = true := by kernel_rfl
noncomputable def tlJ : Jmps := fun f _ => cond (Nat.beq f tlF) (some (jumpM eqSy 148 tlTm tlPre tlPost)) none
theorem tl_loop1 : ∃ fn c, (Tryz.prog).funcs[tlF]? = some fn ∧ fn.body = some c ∧ fn.ntmps = 148 ∧ loopsIn c = [loopOf tlF 0] := ⟨_, _, rfl, rfl, rfl, rfl⟩
theorem ls_env {ρ ρ' : Env} {K c : Nat} {w : World} {v : Value} (h : lsIs ρ K c w v) (e : ρ'.lst c = ρ.lst c) (l : ρ'.lo = ρ.lo) : lsIs ρ' K c w v := by
  unfold lsIs at *
  rw [e, l]; exact h
def tlQ1 (qs : List Rat) (x y : Rat) (k : Nat) : Nat → Rat
  | 1 => x
  | 2 => y
  | 20 => qs.getD k 0
  | _ => 0
theorem tlQ1_fit {qs : List Rat} {x y : Rat} (hq : ∀ q ∈ qs, Fit q) (hx : Fit x) (hy : Fit y) (k i : Nat) : Fit (tlQ1 qs x y k i) := by
  unfold tlQ1
  split
  · exact hx
  · exact hy
  · exact getD_fit hq _
  · exact fit00
def tlNat1 (c k : Nat) : Nat → Nat
  | 1 => c
  | 2 => k
  | 6 => min c 8
  | _ => 0
def tlLst1 (qs : List Rat) (k : Nat) : Nat → List Rat
  | 0 => qs
  | 1 => qs.take k
  | 5 => qs.take (min qs.length 8)
  | _ => []
def tlEnv1 (qs : List Rat) (x y : Rat) (hq : ∀ q ∈ qs, Fit q) (hx : Fit x) (hy : Fit y) (lo k : Nat) : Env := ⟨tlQ1 qs x y k, fun _ => (false, ⟨#[]⟩, ⟨#[]⟩), fun i _ => tlQ1_fit hq hx hy k i, fun i => (tlQ1_fit hq hx hy k i).sm.up (by decide), fun _ => bad_zero, lo, tlLst1 qs k, tlNat1 qs.length k, rfl⟩
section
variable {qs : List Rat} (hq : ∀ q ∈ qs, Fit q)
include hq
theorem tl_jmp {E : Env} (hE0 : E.lst 0 = qs) (hE5 : E.lst 5 = qs.take (min qs.length 8)) (hE6 : E.nat 6 = min qs.length 8) : JmpOK (symSig E) Tryz.prog 148 (loopOf tlF 0) (jumpM eqSy 148 tlTm tlPre tlPost) := by
  refine @jmp_ok' Sy (symSig E) Tryz.prog eqSy eqSy_ok 148 (loopOf tlF 0) tlTm tlPre tlCs tlCs' tlPost (min qs.length 8) (fun k => symSig (tlEnv1 qs (E.q 1) (E.q 2) hq (E.fit 1 (by decide)) (E.fit 2 (by decide)) E.lo k)) (fun k => sig_same _ _ (show E.lo = E.lo from rfl)) ?_ rfl rfl rfl ?_ ?_ ?_ ?_
  · intro w vs h
    obtain ⟨v1, l1, rfl, a1, v2, l2, rfl, a2, v3, l3, rfl, a3, v4, l4, rfl, a4, v5, l5, rfl, a5, rfl⟩ := h
    rw [show v1 = .slice none 0 0 from a1]; rfl
  · intro w vs h
    obtain ⟨v1, l1, rfl, a1, v2, l2, rfl, a2, v3, l3, rfl, a3, v4, l4, rfl, a4, v5, l5, rfl, a5, rfl⟩ := h
    have h1 : v1 = .slice none 0 0 := a1
    subst h1
    refine ⟨_, _, rfl, ⟨⟨none, 0, 0, rfl, Nat.le_refl _, Nat.le_refl _, rfl, fun _ => rfl, fun _ h => (by cases h)⟩, rfl, fun _ h => (by cases h)⟩, v2, _, rfl, ⟨ls_env (ρ := E) a2.1 hE0.symm rfl, a2.2⟩, v3, _, rfl, ⟨?_, ?_⟩, v4, _, rfl, a4, v5, _, rfl, a5, rfl⟩
    · rw [show v3 = .int .i64 0 from a3]; rfl
    · rw [show v3 = .int .i64 0 from a3]; rfl
  · intro k hk w vs h
    obtain ⟨v1, l1, rfl, a1, v2, l2, rfl, a2, v3, l3, rfl, a3, v4, l4, rfl, a4, v5, l5, rfl, a5, rfl⟩ := h
    refine ⟨v1, _, rfl, ⟨?_, a1.2⟩, v2, _, rfl, a2, v3, _, rfl, ⟨?_, a3.2⟩, v4, _, rfl, a4, v5, _, rfl, a5, rfl⟩
    · refine olIs.env (ρ := tlEnv1 qs (E.q 1) (E.q 2) hq (E.fit 1 (by decide)) (E.fit 2 (by decide)) E.lo k) (l' := .v 1) (z' := none) (show olIs _ 2 (.snoc (.v 1) (.v 20)) none w v1 from a1.1) ?_ trivial
      show qs.take (k + 1) = qs.take k ++ [qs.getD k 0]
      rw [List.take_add_one, List.getD_eq_getElem?_getD, List.getElem?_eq_getElem (by omega)]; rfl
    · have h4 : v3 = .int .i64 (((k : Nat) : Int) + 1) := a3.1
      show v3 = .int .i64 (((k + 1 : Nat) : Int) + 0)
      rw [h4]; congr 1
  · intro w vs h
    obtain ⟨v1, l1, rfl, a1, v2, l2, rfl, a2, v3, l3, rfl, a3, v4, l4, rfl, a4, v5, l5, rfl, a5, rfl⟩ := h
    exact ⟨v1, _, rfl, ⟨olIs.env (ρ := tlEnv1 qs (E.q 1) (E.q 2) hq (E.fit 1 (by decide)) (E.fit 2 (by decide)) E.lo (min qs.length 8)) (l' := .v 5) (z' := none) (show olIs _ 2 (.v 1) none w v1 from a1.1) hE5 trivial, a1.2⟩, v2, _, rfl, ⟨ls_env (ρ := tlEnv1 qs (E.q 1) (E.q 2) hq (E.fit 1 (by decide)) (E.fit 2 (by decide)) E.lo (min qs.length 8)) a2.1 hE0 rfl, a2.2⟩, v3, _, rfl, ⟨by
      have h3 : v3 = .int .i64 (((min qs.length 8 : Nat) : Int) + 0) := a3.1
      show v3 = .int .i64 (((E.nat 6 : Nat) : Int) + 0)
      rw [h3, hE6], a3.2⟩, v4, _, rfl, a4, v5, _, rfl, a5, rfl⟩
  · intro k hk ro d B0 D0 a w hAt
    have hA : AllH (tlEnv1 qs (E.q 1) (E.q 2) hq (E.fit 1 (by decide)) (E.fit 2 (by decide)) E.lo k) [] := fun x hx => by simp at hx
    have hB : AllX (tlEnv1 qs (E.q 1) (E.q 2) hq (E.fit 1 (by decide)) (E.fit 2 (by decide)) E.lo k) tlB1 := fun x hx => by
      simp only [tlB1, List.mem_cons, List.not_mem_nil, or_false] at hx
      rcases hx with rfl | rfl | rfl | rfl | rfl | rfl
      · rfl
      · show (qs.take k).length = k
        rw [List.length_take]; omega
      · show k ≤ 10000
        omega
      · show true = true ↔ ((k : Nat) : Int) + 0 < ((qs.length : Nat) : Int) + 0
        exact ⟨fun _ => by omega, fun _ => rfl⟩
      · show true = true ↔ ((k : Nat) : Int) + 0 < ((0 : Nat) : Int) + 8
        exact ⟨fun _ => by omega, fun _ => rfl⟩
      · refine ⟨k, ?_, ?_⟩
        · show ((k : Nat) : Int) = ((k : Nat) : Int) + 0
          omega
        · show qs[k]? = some (qs.getD k 0)
          rw [List.getD_eq_getElem?_getD, List.getElem?_eq_getElem (by omega)]; rfl
    exact round_run (C := lsCfg false _ _ noJ) (call := lsCl false _ _ 20) (fuel := 20) (lsFits hA hB) (lsCl_ok hA hB) rfl (fun y _ m e => by cases e) eqSy_ok tl_round few5 hAt
end
def sz1 (q : Rat) : Nat := max (szN (Big.nu q)) (szN (Big.de q))
noncomputable def csF : Nat := 40
noncomputable def csS : Nat × (List Value → Option (M Sy Value)) := (61, fun args => match args with
  | [a] => some (bind (numV a) fun x => cond (x.beq (.v 1)) (newFact (.ix 1 0)) (cond (x.beq (.v 2)) (newFact (.ix 2 0)) fail))
  | _ => none)
noncomputable def csSums : Sums Sy := sumsOf (mkTab [csS])
set_option maxHeartbeats 4000000 in
theorem cs_run : tells [.ng (.v 1), .nu (.v 1), .de (.v 1), .ng (.v 2), .nu (.v 2), .de (.v 2)] [.agg 6] (call Tryz.prog (lsCfg false [] [.bi 3 1 0 2 0 3 0] noJ) csSums 20 csF) = some (.one (.one (.f (.ix 3 0)))) := by kernel_rfl
def csQ (x y : Rat) : Nat → Rat
  | 1 => x
  | 2 => y
  | _ => 0
def csNat (x y : Rat) : Nat → Nat
  | 1 => sz1 x
  | 2 => sz1 y
  | 3 => max (sz1 x) (sz1 y)
  | _ => 0
theorem csQ_fit {x y : Rat} (hx : Fit x) (hy : Fit y) (i : Nat) : Fit (csQ x y i) := by
  unfold csQ
  split
  · exact hx
  · exact hy
  · exact fit00
def csEnv (x y : Rat) (hx : Fit x) (hy : Fit y) (lo : Nat) : Env := ⟨csQ x y, fun _ => (false, ⟨#[]⟩, ⟨#[]⟩), fun i _ => csQ_fit hx hy i, fun i => (csQ_fit hx hy i).sm.up (by decide), fun _ => bad_zero, lo, fun _ => [], csNat x y, rfl⟩
theorem sz1_fit {x : Rat} (h : Fit x) : sz1 x ≤ 512 := by
  have := h.1
  have := h.2
  unfold sz1; omega
theorem csize_any (w : World) {x y : Rat} (hfx : Fit x) (hfy : Fit y) {a b c d : Value} (ha : NatIn w a (Big.nu x)) (hb : NatIn w b (Big.de x)) (hc : NatIn w c (Big.nu y)) (hd : NatIn w d (Big.de y)) (hG : Tryz.prog.globals.size ≤ w.heap.size) (hT : natSig.base w) :
    Calls Tryz.prog csF ⟨[.agg ⟨[.bool (Big.ng x), a, b, .bool (Big.ng y), c, d]⟩]⟩ w fun e w' => e = .returned (.int .i64 ((max (sz1 x) (sz1 y) : Nat) : Int)) ∧ Below w.heap.size w w' := by
  have fx := sz1_fit hfx
  have fy := sz1_fit hfy
  have hA : AllH (csEnv x y hfx hfy w.heap.size) [] := fun x hx => by simp at hx
  have hB : AllX (csEnv x y hfx hfy w.heap.size) [.bi 3 1 0 2 0 3 0] := fun z hz => by
    simp only [List.mem_cons, List.not_mem_nil, or_false] at hz
    subst hz
    show biF 3 (((sz1 x : Nat) : Int) + 0) (((sz1 y : Nat) : Int) + 0) = ((max (sz1 x) (sz1 y) : Nat) : Int) + 0 ∧ max (sz1 x) (sz1 y) ≤ 10000
    refine ⟨?_, by omega⟩
    unfold biF
    simp only
    split <;> omega
  have hS : SumOK (symSig (csEnv x y hfx hfy w.heap.size)) Tryz.prog csSums := sumsOf_ok fun z hz => by
    obtain rfl := List.mem_singleton.1 hz
    intro args m hm
    rcases args with _ | ⟨a, _ | ⟨b, l⟩⟩ <;> first | (cases (show none = some m from hm); done) | skip
    cases hm
    refine ⟨loc_bind (loc_numV _) fun q => loc_cond (loc_newFact _) (loc_cond (loc_newFact _) loc_fail), fun h nx v h' nx' R W e r w args' hv hM hN => ?_⟩
    cases hv with
    | cons h1 hq =>
      cases hq
      obtain ⟨q, g1, nx1, R1, W1, R2, W2, e1, e2, rfl, rfl⟩ := bind_ok e
      obtain ⟨rfl, rfl, rfl, hx⟩ := numV_ok e1 h1 hM
      simp only [List.nil_append]
      rcases condB e2 with ⟨hk, e3⟩ | ⟨_, e3⟩
      · rw [Qe.beq_ok _ _ hk] at hx
        refine goes_fact (n := .ix 1 0) e3 hM hN ((exSize_any w _ _ 64 hx hfx.sm (by decide)).mono fun en w' hh => ⟨_, hh.1, ?_, rfl, hh.2⟩)
        show Value.int .i64 _ = .int .i64 (((sz1 x : Nat) : Int) + 0)
        rw [Int.add_zero]; rfl
      · obtain ⟨hk, e4⟩ := cond_ok e3
        rw [Qe.beq_ok _ _ hk] at hx
        refine goes_fact (n := .ix 2 0) e4 hM hN ((exSize_any w _ _ 64 hx hfy.sm (by decide)).mono fun en w' hh => ⟨_, hh.1, ?_, rfl, hh.2⟩)
        show Value.int .i64 _ = .int .i64 (((sz1 y : Nat) : Int) + 0)
        rw [Int.add_zero]; rfl
  have hh : HoldsL (symSig (csEnv x y hfx hfy w.heap.size)) w [.ng (.v 1), .nu (.v 1), .de (.v 1), .ng (.v 2), .nu (.v 2), .de (.v 2)] [.bool (Big.ng x), a, b, .bool (Big.ng y), c, d] :=
    ⟨_, _, rfl, rfl, rfl, _, _, rfl, ha, nat_one ha, _, _, rfl, hb, nat_one hb, _, _, rfl, rfl, rfl, _, _, rfl, hc, nat_one hc, _, _, rfl, hd, nat_one hd, rfl⟩
  refine (tells_calls (lsFits hA hB) hS cs_run rfl glob_few hh hG hT (Nat.le_refl _) (.none rfl)).mono ?_
  rintro e w' ⟨v', rfl, h1, hb⟩
  have h1' : v' = .int .i64 (((max (sz1 x) (sz1 y) : Nat) : Int) + 0) := h1
  rw [Int.add_zero] at h1'
  subst h1'
  exact ⟨rfl, hb⟩
noncomputable def p8F : Nat := 12
noncomputable def p8E (k : Nat) : Qe × Qe := Nat.rec (motive := fun _ => Qe × Qe) (.c false 1 1, .c false 0 1) (fun _ ih => (.sub (.mul ih.1 (.v 1)) (.mul ih.2 (.v 2)), .add (.mul ih.1 (.v 2)) (.mul ih.2 (.v 1)))) k
def p8M (z : Rat × Rat) : Nat → Rat × Rat
  | 0 => (1, 0)
  | k + 1 => ((p8M z k).1 * z.1 - (p8M z k).2 * z.2, (p8M z k).1 * z.2 + (p8M z k).2 * z.1)
noncomputable def p8Sz : Nat × (List Value → Option (M Sy Value)) := (csF, fun args => match args with
  | [a] => match a with
    | .agg cs => cond (Nat.beq cs.toList.length 6) (some (bind (litEs 1 2 cs.toList) fun es => match find8 es with
      | some k => newFact (.ix (90 + k) 0)
      | none => fail)) none
    | _ => none
  | _ => none)
where find8 (es : List Qe) : Option Nat := (List.range 9).foldr (fun k ih => cond (beqL es [(p8E k).1, (p8E k).2]) (some k) ih) none
noncomputable def p8Of : Nat × (List Value → Option (M Sy Value)) := (38, fun args => match args with
  | [a, b] => cond (isIc 1 a && isIc 0 b) (some (bind (newFacts [.ng (p8E 0).1, .fn (p8E 0).1, .fd (p8E 0).1, .ng (p8E 0).2, .fn (p8E 0).2, .fd (p8E 0).2]) fun vs => ret (.agg ⟨vs⟩))) none
  | _ => none)
noncomputable def p8A : List As := [⟨0, (p8E 8).1, z0, true⟩, ⟨0, (p8E 8).2, z0, true⟩]
def p8B : List Ix := (List.range 9).map fun k => .lt 0 2048 (90 + k) 0 false
noncomputable def p8Sums : Sums Sy := sumsOf (mkTab (p8Sz :: p8Of :: symList p8A))
noncomputable def p8Run : Option (D3 Sy) := tells [.ng (.v 1), .fn (.v 1), .fd (.v 1), .ng (.v 2), .fn (.v 2), .fd (.v 2)] [.agg 6, .p (.int .i64 8)] (call Tryz.prog (lsCfg false p8A p8B noJ) p8Sums 60 p8F)
set_option maxHeartbeats 4000000 in
theorem p8_run : isGa (p8E 8).1 (p8E 8).2 p8Run = true := by kernel_rfl
noncomputable def of10 : Fact := ⟨38, [.int .i64 1, .int .i64 0], .agg ⟨[.bool false, .string ⟨⟨[1]⟩⟩, .string ⟨⟨[1]⟩⟩, .bool false, .string ⟨⟨[]⟩⟩, .string ⟨⟨[1]⟩⟩]⟩⟩
theorem of10_ok : of10.ok := Fact.of_run (n := 100) (by kernel_rfl) rfl
theorem of10_is : of10.v = gV 1 0 := by kernel_rfl
def p8Nat (z : Rat × Rat) (i : Nat) : Nat := if 90 ≤ i ∧ i < 99 then max (sz1 (p8M z (i - 90)).1) (sz1 (p8M z (i - 90)).2) else 0
def p8Env (z : Rat × Rat) (hx : Fit z.1) (hy : Fit z.2) (lo : Nat) : Env := ⟨csQ z.1 z.2, fun _ => (false, ⟨#[]⟩, ⟨#[]⟩), fun i _ => csQ_fit hx hy i, fun i => (csQ_fit hx hy i).sm.up (by decide), fun _ => bad_zero, lo, fun _ => [], p8Nat z, rfl⟩
theorem p8_ev (z : Rat × Rat) : ∀ k, (p8E k).1.ev (csQ z.1 z.2) = (p8M z k).1 ∧ (p8E k).2.ev (csQ z.1 z.2) = (p8M z k).2
  | 0 => ⟨by show mkRat (Big.sI false 1) 1 = 1; rfl, by show mkRat (Big.sI false 0) 1 = 0; rfl⟩
  | k + 1 => by
    obtain ⟨h1, h2⟩ := p8_ev z k
    exact ⟨by
      show (p8E k).1.ev (csQ z.1 z.2) * z.1 - (p8E k).2.ev (csQ z.1 z.2) * z.2 = _
      rw [h1, h2]; rfl, by
      show (p8E k).1.ev (csQ z.1 z.2) * z.2 + (p8E k).2.ev (csQ z.1 z.2) * z.1 = _
      rw [h1, h2]; rfl⟩
theorem find8_ok {es : List Qe} {k : Nat} (h : p8Sz.find8 es = some k) : k < 9 ∧ es = [(p8E k).1, (p8E k).2] := by
  have key : ∀ (l : List Nat), (l.foldr (fun k ih => cond (beqL es [(p8E k).1, (p8E k).2]) (some k) ih) none : Option Nat) = some k → k ∈ l ∧ es = [(p8E k).1, (p8E k).2] := by
    intro l
    induction l with
    | nil => intro h; cases h
    | cons a l ih =>
      intro h
      have h' : cond (beqL es [(p8E a).1, (p8E a).2]) (some a) (l.foldr (fun k ih => cond (beqL es [(p8E k).1, (p8E k).2]) (some k) ih) none) = some k := h
      cases hb : beqL es [(p8E a).1, (p8E a).2] with
      | true =>
        rw [hb] at h'
        cases h'
        exact ⟨List.mem_cons_self, beqL_ok hb⟩
      | false =>
        rw [hb] at h'
        obtain ⟨q1, q2⟩ := ih h'
        exact ⟨List.mem_cons_of_mem _ q1, q2⟩
  obtain ⟨h1, h2⟩ := key _ h
  exact ⟨List.mem_range.1 h1, h2⟩
set_option maxHeartbeats 1000000 in
theorem power8_any (w : World) {z : Rat × Rat} (hx : Fit z.1) (hy : Fit z.2) (hf : ∀ k, k ≤ 8 → Fit (p8M z k).1 ∧ Fit (p8M z k).2) (hG : Tryz.prog.globals.size ≤ w.heap.size) (hT : natSig.base w) :
    Calls Tryz.prog p8F ⟨[gV z.1 z.2, .int .i64 8]⟩ w fun e w' => e = .returned (.tuple ⟨[gV (p8M z 8).1 (p8M z 8).2, .int .i64 0]⟩) ∧ Below w.heap.size w w' := by
  let E := p8Env z hx hy w.heap.size
  have hev : ∀ k, (p8E k).1.ev E.q = (p8M z k).1 ∧ (p8E k).2.ev E.q = (p8M z k).2 := p8_ev z
  have hA : AllH E p8A := fun y hy => by
    simp only [p8A, List.mem_cons, List.not_mem_nil, or_false] at hy
    rcases hy with rfl | rfl
    · show true = true ↔ Fit ((p8E 8).1.ev E.q)
      rw [(hev 8).1]; exact ⟨fun _ => (hf 8 (Nat.le_refl _)).1, fun _ => rfl⟩
    · show true = true ↔ Fit ((p8E 8).2.ev E.q)
      rw [(hev 8).2]; exact ⟨fun _ => (hf 8 (Nat.le_refl _)).2, fun _ => rfl⟩
  have hnat : ∀ k, k < 9 → E.nat (90 + k) = max (sz1 (p8M z k).1) (sz1 (p8M z k).2) := fun k hk => by
    show (if 90 ≤ 90 + k ∧ 90 + k < 99 then _ else 0) = _
    rw [if_pos (by omega), Nat.add_sub_cancel_left]
  have hB : AllX E p8B := fun y hy => by
    obtain ⟨k, hk, rfl⟩ := List.mem_map.1 hy
    have hk := List.mem_range.1 hk
    obtain ⟨f1, f2⟩ := hf k (by omega)
    have a1 := sz1_fit f1
    have a2 := sz1_fit f2
    show false = true ↔ ((0 : Nat) : Int) + 2048 < ((E.nat (90 + k) : Nat) : Int) + 0
    rw [hnat k hk]
    exact ⟨fun h => (by cases h), fun h => by omega⟩
  have hS : SumOK (symSig E) Tryz.prog p8Sums := sumsOf_ok fun y hy => by
    rcases List.mem_cons.1 hy with rfl | hy
    · intro args m hm
      rcases args with _ | ⟨a, _ | ⟨b, l⟩⟩ <;> first | (cases (show none = some m from hm); done) | skip
      cases a <;> first | (cases (show none = some m from hm); done) | skip
      rename_i cs
      obtain ⟨cl⟩ := cs
      have hm' : cond (Nat.beq cl.length 6) (some (bind (litEs 1 2 cl) fun es => match p8Sz.find8 es with
        | some k => newFact (.ix (90 + k) 0)
        | none => fail)) none = some m := hm
      cases hlen6 : Nat.beq cl.length 6 with
      | false => rw [hlen6] at hm'; cases hm'
      | true =>
      rw [hlen6] at hm'
      cases hm'
      have hl2 := Nat.eq_of_beq_eq_true hlen6
      refine ⟨loc_bind (loc_litEs _ _ _) fun es => ?_, fun h nx v h' nx' R W e r w args' hv hM hN => ?_⟩
      · split
        · exact loc_newFact _
        · exact loc_fail
      cases hv with
      | cons h1 hq =>
        cases hq
        obtain ⟨l', rfl, hl⟩ := vr_agg h1
        obtain ⟨es, g1, nx1, R1, W1, R2, W2, e1, e2, rfl, rfl⟩ := bind_ok e
        obtain ⟨rfl, rfl, rfl, hlen, hel⟩ := litEs_ok (ρ := E) (w := w) e1 hl hM
        cases h8 : p8Sz.find8 es with
        | none => rw [h8] at e2; cases (show (fail : M Sy Value) _ _ = _ from e2)
        | some k =>
          rw [h8] at e2
          obtain ⟨hk, rfl⟩ := find8_ok h8
          obtain ⟨a, b, q1, q2, q3⟩ := (show ∃ a b, _ = [Value.bool (Big.ng ((p8E k).1.ev E.q)), a, b] ∧ NatIn w a _ ∧ NatIn w b _ from hel 0 (p8E k).1 rfl)
          obtain ⟨c, d, q4, q5, q6⟩ := (show ∃ a b, _ = [Value.bool (Big.ng ((p8E k).2.ev E.q)), a, b] ∧ NatIn w a _ ∧ NatIn w b _ from hel 1 (p8E k).2 rfl)
          rw [(hev k).1] at q1 q2 q3
          rw [(hev k).2] at q4 q5 q6
          have hl6 : l' = [.bool (Big.ng (p8M z k).1), a, b, .bool (Big.ng (p8M z k).2), c, d] := by
            have hl1 : l'.length = cl.length := hl.length
            rw [Nat.zero_mul, List.drop_zero] at q1
            rw [Nat.one_mul] at q4
            have h3 : l' = l'.take 3 ++ (l'.drop 3).take 3 := by
              conv => lhs; rw [← List.take_append_drop 3 l']
              rw [List.take_of_length_le (l := l'.drop 3) (by rw [List.length_drop]; omega)]
            rw [h3, q1, q4]; rfl
          obtain ⟨f1, f2⟩ := hf k (by omega)
          subst hl6
          simp only [List.nil_append]
          refine goes_fact (n := .ix (90 + k) 0) e2 hM hN ((csize_any w f1 f2 q2 q3 q5 q6 hM.fits hM.base).mono fun en w' hh => ⟨_, hh.1, ?_, rfl, hh.2⟩)
          show Value.int .i64 _ = .int .i64 (((E.nat (90 + k) : Nat) : Int) + 0)
          rw [hnat k hk, Int.add_zero]
    rcases List.mem_cons.1 hy with rfl | hy
    · intro args m hm
      rcases args with _ | ⟨a, _ | ⟨b, _ | ⟨c, l⟩⟩⟩ <;> first | (cases (show none = some m from hm); done) | skip
      have hm' : cond (isIc 1 a && isIc 0 b) (some (bind (newFacts [.ng (p8E 0).1, .fn (p8E 0).1, .fd (p8E 0).1, .ng (p8E 0).2, .fn (p8E 0).2, .fd (p8E 0).2]) fun vs => ret (.agg ⟨vs⟩))) none = some m := hm
      cases hk : (isIc 1 a && isIc 0 b) with
      | false => rw [hk] at hm'; cases hm'
      | true =>
        rw [hk] at hm'
        cases hm'
        simp only [Bool.and_eq_true] at hk
        obtain rfl := isIc_ok hk.1
        obtain rfl := isIc_ok hk.2
        refine ⟨loc_bind (loc_newFacts _) fun _ => loc_ret _, fun h nx v h' nx' R W e r w args' hv hM hN => ?_⟩
        cases hv with
        | cons h1 hv => cases hv with
          | cons h2 hq =>
            cases hq
            obtain rfl := h1.eq_of_plain rfl
            obtain rfl := h2.eq_of_plain rfl
            have c0 : Calls Tryz.prog 38 ⟨[.int .i64 1, .int .i64 0]⟩ w fun e w' => e = .returned of10.v ∧ Below w.heap.size w w' := of10_ok.2.2 w hM.fits hM.base
            rw [of10_is] at c0
            refine goes_agg e hM hN (c0.mono fun en w' hh => ⟨_, hh.1, ?_, hh.2⟩)
            have := holdsL_append (frs_holds w' (ρ := E) (p8E 0).1) (frs_holds w' (ρ := E) (p8E 0).2)
            rw [(hev 0).1, (hev 0).2] at this
            exact this
    · exact symList_ok hA y hy
  have hh : HoldsL (symSig E) w [.ng (.v 1), .fn (.v 1), .fd (.v 1), .ng (.v 2), .fn (.v 2), .fd (.v 2)] (cel (tri z.1) ++ cel (tri z.2)) := holdsL_append (frs_holds w (ρ := E) (.v 1)) (frs_holds w (ρ := E) (.v 2))
  refine (tells_calls (lsFits hA hB) hS (isGa_ok p8_run) rfl glob_few hh hG hT (Nat.le_refl _) (.none rfl)).mono ?_
  rintro e w' ⟨v', rfl, ⟨vs, rfl, a, l1, rfl, ⟨us, rfl, a1, m1, rfl, q1, a2, m2, rfl, q2, a3, m3, rfl, q3, a4, m4, rfl, q4, a5, m5, rfl, q5, a6, m6, rfl, q6, rfl⟩, u2, l2, rfl, h2, rfl⟩, hb⟩
  obtain ⟨k1, k2⟩ := hev 8
  have q1' : a1 = .bool (Big.ng ((p8E 8).1.ev E.q)) := q1
  have q2' : a2 = .string (bst (Big.nu ((p8E 8).1.ev E.q))) := q2
  have q3' : a3 = .string (bst (Big.de ((p8E 8).1.ev E.q))) := q3
  have q4' : a4 = .bool (Big.ng ((p8E 8).2.ev E.q)) := q4
  have q5' : a5 = .string (bst (Big.nu ((p8E 8).2.ev E.q))) := q5
  have q6' : a6 = .string (bst (Big.de ((p8E 8).2.ev E.q))) := q6
  rw [k1] at q1' q2' q3'
  rw [k2] at q4' q5' q6'
  have h2' : u2 = .int .i64 0 := h2
  subst q1' q2' q3' q4' q5' q6' h2'
  exact ⟨rfl, hb⟩
noncomputable def nrm (x : Qe × Qe) : Qe := .add (.mul x.1 x.1) (.mul x.2 x.2)
noncomputable def w0 : Qe × Qe := (v0, v1)
noncomputable def w1 : Qe × Qe := (v2, v3)
noncomputable def kQuo (x y : Qe × Qe) : Qe × Qe := (.quo (.sub (.mul x.1 y.1) (.mul x.2 (.neg y.2))) (nrm y), .quo (.add (.mul x.1 (.neg y.2)) (.mul x.2 y.1)) (nrm y))
noncomputable def signs (n2 g2 n3 g3 : Bool) : List As := [⟨1, v2, z0, n2⟩, ⟨3, v2, z0, g2⟩, ⟨1, v3, z0, n3⟩, ⟨3, v3, z0, g3⟩]
def fV (p : Rat) : Value := .agg ⟨cel (tri p)⟩
section
variable {ρ : Env} {w : World} {v : Value}
end
theorem fit_zero : Fit 0 := ⟨by decide, by decide⟩
theorem fit_neg {q : Rat} (h : Fit q) : Fit (-q) := by
  obtain ⟨_, h2, h3⟩ := Big.neg_parts q
  exact ⟨by rw [h2]; exact h.nu, by rw [h3]; exact h.de⟩
theorem sq_nonneg (c : Rat) : 0 ≤ c * c := by
  rcases Rat.le_total (a := 0) (b := c) with h | h
  · exact Rat.mul_nonneg h h
  · have h1 : 0 ≤ -c := by grind
    have h2 := Rat.mul_nonneg h1 h1
    grind
noncomputable def lawC (A : List As) : Cfg Sy := symCfg (eqHard A)
instance lawHard (A : List As) : HardLoc (lawC A) := ⟨loc_eqHard A⟩
noncomputable def inp6 (a b c d e f : Bool) : List Sy := inp a 0 ++ (inp b 1 ++ (inp c 2 ++ (inp d 3 ++ (inp e 4 ++ inp f 5))))
noncomputable def lx : Qe × Qe := (.v 0, .v 1)
noncomputable def ly : Qe × Qe := (.v 2, .v 3)
noncomputable def lz : Qe × Qe := (.v 4, .v 5)
noncomputable def pr (p : Qe × Qe) (t : Bool) : Ps := ⟨p.1, p.2, t⟩
noncomputable def la : Qe × Qe := kAdd lx ly
noncomputable def lb : Qe × Qe := kAdd ly lx
noncomputable def lc : Qe × Qe := kMul lx ly
noncomputable def lp : Qe × Qe := kAdd la lz
noncomputable def lq : Qe × Qe := kAdd ly lz
noncomputable def lr : Qe × Qe := kAdd lx lq
noncomputable def ls : Qe × Qe := kMul la lz
noncomputable def lt : Qe × Qe := kMul lx lz
noncomputable def lu : Qe × Qe := kMul ly lz
noncomputable def lk : Qe × Qe := kSub la ly
structure In6 (x y z u s t : Tri) where
  ρ : Env
  lo0 : ρ.lo = 0
  a : Bool
  b : Bool
  c : Bool
  d : Bool
  e : Bool
  f : Bool
  hx : (a = true → x = tri (ρ.q 0)) ∧ (a = false → x = ρ.raw 0)
  hy : (b = true → y = tri (ρ.q 1)) ∧ (b = false → y = ρ.raw 1)
  hz : (c = true → z = tri (ρ.q 2)) ∧ (c = false → z = ρ.raw 2)
  hu : (d = true → u = tri (ρ.q 3)) ∧ (d = false → u = ρ.raw 3)
  hs : (e = true → s = tri (ρ.q 4)) ∧ (e = false → s = ρ.raw 4)
  ht : (f = true → t = tri (ρ.q 5)) ∧ (f = false → t = ρ.raw 5)
theorem In6.holds {x y z u s t : Tri} (i : In6 x y z u s t) (w : World) : HoldsL (symSig i.ρ) w (inp6 i.a i.b i.c i.d i.e i.f) (cel x ++ (cel y ++ (cel z ++ (cel u ++ (cel s ++ cel t))))) :=
  holdsL_append (inp_holds i.hx.1 i.hx.2) (holdsL_append (inp_holds i.hy.1 i.hy.2) (holdsL_append (inp_holds i.hz.1 i.hz.2) (holdsL_append (inp_holds i.hu.1 i.hu.2) (holdsL_append (inp_holds i.hs.1 i.hs.2) (inp_holds i.ht.1 i.ht.2)))))
section
variable {ρ : Env} {A : List As} {B : List Ps} {h h' : Tr (Blk Sy)} {nx nx' : Nat} {R W : List Nat} {r : Ren} {w : World}
end
noncomputable def c0 : Qe := .c false 0 1
noncomputable def np : Qe × Qe := kMul lx ly
noncomputable def nm : Qe := nrm lx
noncomputable def nn : Qe := nrm ly
noncomputable def no : Qe := nrm np
noncomputable def nc : Qe × Qe := (.v 0, .neg (.v 1))
noncomputable def nq : Qe × Qe := kMul lx nc
noncomputable def nb : Qe × Qe := kQuo np ly
end Ev
end Go.Proofs.YtaefgofheiegeaaGreat
