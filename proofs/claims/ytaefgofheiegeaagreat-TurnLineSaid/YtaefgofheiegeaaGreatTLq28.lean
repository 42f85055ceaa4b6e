/- Contracts. -/
import Derived.Test.YtaefgofheiegeaaGreatTLq27
import Derived.Test.YtaefgofheiegeaaGreatTLq23
import Derived.Test.YtaefgofheiegeaaGreatTLq26
namespace Go.Proofs.YtaefgofheiegeaaGreat
open Go Go.RowKit
namespace Ev
set_option maxRecDepth 100000
theorem tone_run : tells [] [] (call Tryz.prog natCfg natSums 20 25) = some (.one (.agg [.p (.bool false), .f 1, .f 1])) := by kernel_rfl
theorem tone_any (w : World) (hG : Tryz.prog.globals.size ≤ w.heap.size) (hT : Tab w) : Calls Tryz.prog 25 ⟨[]⟩ w (Num1 w 1) := by
  refine (tells_calls natFits natSums_ok tone_run rfl glob_few (us := []) rfl hG hT).mono ?_
  rintro e w' ⟨v, rfl, ⟨vs, rfl, x1, u1, rfl, h1, x2, u2, rfl, h2, x3, u3, rfl, h3, h4⟩, hb⟩
  obtain rfl : u3 = [] := h4
  obtain rfl : x1 = .bool false := h1
  exact ⟨_, rfl, ⟨x2, x3, rfl, h2, h3⟩, hb⟩
noncomputable def uc : Qe := .c false 1 1
theorem uc_ev (q : Nat → Rat) : uc.ev q = 1 := by show mkRat (Big.sI false 1) 1 = 1; rfl
section
variable {ρ : Env} {A : List As}
noncomputable def toneS (args : List Value) : Option (M Sy Value) := match args with
  | [] => some (newNum uc)
  | _ => none
theorem s_tone : SumF (symSig ρ) Tryz.prog 25 toneS := by
  intro args m e
  unfold toneS at e
  rcases args with _ | ⟨a, l⟩ <;> simp only [reduceCtorEq, Option.some.injEq] at e
  subst e
  refine ⟨loc_newNum _, ?_⟩
  intro h nx v h' nx' R W e r w args' ha hM hN
  cases ha
  refine goes_num e hM hN ?_
  rw [uc_ev]
  exact tone_any w (mod_G hM rfl) hM.base
noncomputable def tuList (A : List As) : List (Nat × (List Value → Option (M Sy Value))) := [
  (25, toneS)]
noncomputable def tuSums (A : List As) : Sums Sy := sumsOf (mkTab (tuList A ++ symList A))
theorem tuSums_ok (hA : AllH ρ A) : SumOK (symSig ρ) Tryz.prog (tuSums A) := sumsOf_ok fun x hx => by
  rcases List.mem_append.1 hx with hx | hx
  · simp only [tuList, List.mem_cons, List.not_mem_nil, or_false] at hx
    subst hx
    exact s_tone
  · exact symList_ok hA x hx
end
noncomputable def uQ (t : Qe) : Qe × Qe := kQuo (uc, t) (uc, .neg t)
noncomputable def ovT (x y : Qe) (d g s : Bool) : List As := [⟨1, y, z0, d⟩, ⟨3, y, z0, g⟩, ⟨0, .quo x y, z0, s⟩]
noncomputable def uT (s t : Bool) : List As := fits (uQ v0).1 (uQ v0).2 s t ++ [⟨1, nrm (uc, .neg v0), z0, false⟩]
noncomputable def sT (d g s : Bool) : List As := ovT (.add v0 v1) (.sub uc (.mul v0 v1)) d g s
noncomputable def runU (S : Sums Sy) (f : FuncId) (ls : List Lay) (fs : List Sy) : Option (D3 Sy) := tells fs ls (call Tryz.prog symC S 60 f)
theorem tunit_run (s t : Bool) : runU (tuSums (uT s t)) 8 [.agg 3] (inp true 0) = some (andD s t (uQ v0).1 (uQ v0).2) := by
  cases s <;> cases t <;> kernel_rfl
section
variable {ρ : Env} {w : World} {v : Value}
end
section
variable {f : FuncId} {w : World} {S : List As → Sums Sy}
theorem u_unit (hS : ∀ (ρ : Env) (A : List As), AllH ρ A → SumOK (symSig ρ) Tryz.prog (S A)) {e1 e2 : Qe} {T : Bool → Bool → List As} (run : ∀ s t, runU (S (T s t)) f [.agg 3] (inp true 0) = some (andD s t e1 e2)) {t : Rat} (ht : Fit t)
    (hA : ∀ s u, (s = true ↔ Fit (e1.ev (pick t 0 0 0))) → (u = true ↔ Fit (e2.ev (pick t 0 0 0))) → AllH (envOf t 0 0 0 ht fit_zero fit_zero fit_zero) (T s u)) (hG : Tryz.prog.globals.size ≤ w.heap.size) (hT : Tab w) :
    Calls Tryz.prog f ⟨[fV t]⟩ w (GRes w (e1.ev (pick t 0 0 0)) (e2.ev (pick t 0 0 0))) := by
  obtain ⟨s, hs⟩ := fit_bool (e1.ev (pick t 0 0 0))
  obtain ⟨u, hu⟩ := fit_bool (e2.ev (pick t 0 0 0))
  have hh : HoldsL (symSig (envOf t 0 0 0 ht fit_zero fit_zero fit_zero)) w (inp true 0) (cel (tri t)) := inp_holds (fun _ => rfl) (fun h => (by cases h))
  refine (tells_calls (symFits _) (hS _ _ (hA s u hs hu)) (run s u) rfl glob_few hh hG hT).mono ?_
  rintro e w' ⟨v', rfl, hv, hb'⟩
  refine ⟨?_, hb'⟩
  unfold andD at hv
  cases s with
  | true => cases u with
    | true => exact .inl ⟨⟨hs.1 rfl, hu.1 rfl⟩, by rw [okD_is hv]; rfl⟩
    | false => exact .inr ⟨fun h => (by have := hu.2 h.2; cases this), by rw [noD_is hv]⟩
  | false => exact .inr ⟨fun h => (by have := hs.2 h.1; cases this), by rw [noD_is hv]⟩
end
section
variable {w : World}
theorem one_sq (t : Rat) : ¬ 1 + t * t = 0 := fun h => by
  have h1 := sq_nonneg t
  have h2 : (0 : Rat) ≤ 1 := by decide
  have : (1 : Rat) = 0 := by grind
  exact absurd this (by decide)
theorem uQ_1 (t : Rat) : (1 * 1 - t * -(-t)) / (1 * 1 + -t * -t) = (1 - t * t) / (1 + t * t) := by
  have e1 : 1 * 1 - t * -(-t) = 1 - t * t := by grind
  have e2 : 1 * 1 + -t * -t = 1 + t * t := by grind
  rw [e1, e2]
theorem uQ_2 (t : Rat) : (1 * -(-t) + t * 1) / (1 * 1 + -t * -t) = (t + t) / (1 + t * t) := by
  have e1 : 1 * -(-t) + t * 1 = t + t := by grind
  have e2 : 1 * 1 + -t * -t = 1 + t * t := by grind
  rw [e1, e2]
theorem tunit_any {t : Rat} (ht : Fit t) (hG : Tryz.prog.globals.size ≤ w.heap.size) (hT : Tab w) : Calls Tryz.prog 8 ⟨[fV t]⟩ w (GRes w ((1 - t * t) / (1 + t * t)) ((t + t) / (1 + t * t))) := by
  have h := u_unit (S := tuSums) (w := w) (fun _ _ h => tuSums_ok h) tunit_run ht (fun s u hs hu z hz => by
    rcases List.mem_append.1 hz with hz | hz
    · exact fits_hold (ρ := envOf t 0 0 0 ht fit_zero fit_zero fit_zero) (e := (uQ v0).1) (f := (uQ v0).2) hs hu z hz
    · simp only [List.mem_cons, List.not_mem_nil, or_false] at hz
      subst hz
      exact ⟨fun h => (by cases h), fun h => absurd (show 1 + t * t = 0 by
        have h2 : (1 : Rat) * 1 + -t * -t = 0 := h
        rw [← h2]; grind) (one_sq t)⟩) hG hT
  have e1 : (uQ v0).1.ev (pick t 0 0 0) = (1 - t * t) / (1 + t * t) := uQ_1 t
  have e2 : (uQ v0).2.ev (pick t 0 0 0) = (t + t) / (1 + t * t) := uQ_2 t
  rw [e1, e2] at h
  exact h
end
section
variable {ρ : Env} {A : List As} {B : List Ps} {h h' : Tr (Blk Sy)} {nx nx' : Nat} {R W : List Nat} {r : Ren} {w : World}
end
noncomputable def works7 : Fact := ⟨14, [], .bool true⟩
theorem works7_ok : works7.ok := Fact.of_run (n := 60) (by kernel_rfl) rfl
end Ev
end Go.Proofs.YtaefgofheiegeaaGreat
namespace Go.Proofs.YtaefgofheiegeaaGreat
open Go.RowKit
def Fr1 (w : World) (q : Rat) (e : Ending) (w' : World) : Prop := e = .returned (fracV q) ∧ Below w.heap.size w w'
def lofQ (n d : Int) : Rat := ofQ n (if d = 0 then 1 else d)
theorem lofQ_by {n d : Int} (hn : n.natAbs < 65536) (hd : d.natAbs < 65536) : By 2 (lofQ n d) := by
  unfold lofQ
  refine ofQ_by (by omega) ?_ ?_
  · split <;> omega
  · split <;> omega
end Go.Proofs.YtaefgofheiegeaaGreat
namespace Go.Proofs.YtaefgofheiegeaaGreat
open Go.RowKit
set_option maxRecDepth 100000 in
set_option maxHeartbeats 4000000 in
theorem lof7_any (w : World) (n d : Int) (h0 : -32768 ≤ n) (h1 : n ≤ 32767) (h2 : -32768 ≤ d) (h3 : d ≤ 32767) :
    Calls Tryz.prog 5 #[.int .i16 n, .int .i16 d] w (Fr1 w (lofQ n d)) := by
  have HR0 := Lib.hid (At3.new w 30 (.bool false) (.string ⟨#[]⟩) (.string ⟨#[]⟩))
  have HB0 := Lib.hid (box1_below w (.cells #[.bool false, .string ⟨#[]⟩, .string ⟨#[]⟩] 30))
  by_cases hd : d = 0
  · subst hd
    have e : lofQ n 0 = ofQ n 1 := by unfold lofQ; rw [if_pos rfl]
    rw [e]
    have C := Lib.hid (fun W => raOf_any W n 1 (by omega) (by omega) (by omega) (by omega) (by omega))
    obtain ⟨Z, hZ⟩ : ∃ Z, ofQ n 1 = Z := ⟨_, rfl⟩
    rw [hZ] at C ⊢
    clear hZ e
    go_enter Tryz.func5, Tryz.ntmps5
    go_wp2_with fail
    refine (C.out _).mono ?_
    generalize w.alloc (.cells #[.bool false, .string ⟨#[]⟩, .string ⟨#[]⟩] 30) = w0 at *
    rintro e w1 ⟨rfl, hw1⟩
    unfold fracV
    have R1 := HR0.out.keep hw1
    have hlt := R1.lt
    have HB1 := Lib.hid (HB0.out.trans (hw1.mono HB0.out.size))
    have HD := Lib.hid ((At3.put R1 (.bool (Big.ng Z)) (.string (bst (Big.nu Z))) (.string (bst (Big.de Z)))).alloc' (.cells #[.bool (Big.ng Z), .string (bst (Big.nu Z)), .string (bst (Big.de Z))] 30))
    have HE := Lib.hid (below_alloc (put_below HB1.out (Nat.le_refl _) (.bool (Big.ng Z)) (.string (bst (Big.nu Z))) (.string (bst (Big.de Z)))) (Nat.le_refl _) (.cells #[.bool (Big.ng Z), .string (bst (Big.nu Z)), .string (bst (Big.de Z))] 30))
    have k0 := R1.c0; have k1 := R1.c1; have k2 := R1.c2; have f0 := R1.frozen 0; have f1 := R1.frozen 1; have f2 := R1.frozen 2
    clear R1 hw1 HR0 HB0 C
    go_wp2_with fail
    generalize ((((w1.setCell ⟨w.heap.size, 0, none⟩ (.bool (Big.ng Z))).setCell ⟨w.heap.size, 1, none⟩ (.string (bst (Big.nu Z)))).setCell ⟨w.heap.size, 2, none⟩ (.string (bst (Big.de Z)))).alloc (.cells #[.bool (Big.ng Z), .string (bst (Big.nu Z)), .string (bst (Big.de Z))] 30)) = wz at HD HE ⊢
    clear k0 k1 k2 f0 f1 f2
    have r0 := HD.out.c0; have r1 := HD.out.c1; have r2 := HD.out.c2
    exact bodyPost_ret (v := .agg #[.bool (Big.ng Z), .string (bst (Big.nu Z)), .string (bst (Big.de Z))]) (by simp [results, Tryz.results5, go_sem, r0, r1, r2]) rfl ⟨rfl, HE.out⟩
  · have e : lofQ n d = ofQ n d := by unfold lofQ; rw [if_neg hd]
    rw [e]
    have C := Lib.hid (fun W => raOf_any W n d (by omega) (by omega) (by omega) (by omega) hd)
    have hd0 : (d == 0) = false := beq_eq_false_iff_ne.2 hd
    obtain ⟨Z, hZ⟩ : ∃ Z, ofQ n d = Z := ⟨_, rfl⟩
    rw [hZ] at C ⊢
    clear hZ e hd
    go_enter Tryz.func5, Tryz.ntmps5
    go_wp2_with fail
    refine (C.out _).mono ?_
    generalize w.alloc (.cells #[.bool false, .string ⟨#[]⟩, .string ⟨#[]⟩] 30) = w0 at *
    rintro e w1 ⟨rfl, hw1⟩
    unfold fracV
    have R1 := HR0.out.keep hw1
    have hlt := R1.lt
    have HB1 := Lib.hid (HB0.out.trans (hw1.mono HB0.out.size))
    have HD := Lib.hid ((At3.put R1 (.bool (Big.ng Z)) (.string (bst (Big.nu Z))) (.string (bst (Big.de Z)))).alloc' (.cells #[.bool (Big.ng Z), .string (bst (Big.nu Z)), .string (bst (Big.de Z))] 30))
    have HE := Lib.hid (below_alloc (put_below HB1.out (Nat.le_refl _) (.bool (Big.ng Z)) (.string (bst (Big.nu Z))) (.string (bst (Big.de Z)))) (Nat.le_refl _) (.cells #[.bool (Big.ng Z), .string (bst (Big.nu Z)), .string (bst (Big.de Z))] 30))
    have k0 := R1.c0; have k1 := R1.c1; have k2 := R1.c2; have f0 := R1.frozen 0; have f1 := R1.frozen 1; have f2 := R1.frozen 2
    clear R1 hw1 HR0 HB0 C
    go_wp2_with fail
    generalize ((((w1.setCell ⟨w.heap.size, 0, none⟩ (.bool (Big.ng Z))).setCell ⟨w.heap.size, 1, none⟩ (.string (bst (Big.nu Z)))).setCell ⟨w.heap.size, 2, none⟩ (.string (bst (Big.de Z)))).alloc (.cells #[.bool (Big.ng Z), .string (bst (Big.nu Z)), .string (bst (Big.de Z))] 30)) = wz at HD HE ⊢
    clear k0 k1 k2 f0 f1 f2
    have r0 := HD.out.c0; have r1 := HD.out.c1; have r2 := HD.out.c2
    exact bodyPost_ret (v := .agg #[.bool (Big.ng Z), .string (bst (Big.nu Z)), .string (bst (Big.de Z))]) (by simp [results, Tryz.results5, go_sem, r0, r1, r2]) rfl ⟨rfl, HE.out⟩
end Go.Proofs.YtaefgofheiegeaaGreat
namespace Go.Proofs.YtaefgofheiegeaaGreat
open Go Go.RowKit
namespace Ev
set_option maxRecDepth 100000
noncomputable def reE (k : Nat) : Qe := cond (Nat.beq (k % 4) 0) (.v (10 + k)) (cond (Nat.beq (k % 4) 2) (.neg (.v (10 + k))) (.c false 0 1))
noncomputable def imE (k : Nat) : Qe := cond (Nat.beq (k % 4) 1) (.v (10 + k)) (cond (Nat.beq (k % 4) 3) (.neg (.v (10 + k))) (.c false 0 1))
noncomputable def giveG (a b : Nat) : M Sy Value := bind (newFacts [.ng (.v a), .fn (.v a), .fd (.v a), .ng (.v b), .fn (.v b), .fd (.v b)]) fun vs => ret (.tuple ⟨[.agg ⟨vs⟩, .int .i64 0]⟩)
noncomputable def ofT : Nat × (List Value → Option (M Sy Value)) := (5, fun args => match args with
  | [a, b] => some (bind (knw getIs7 a) fun e => bind (knw getIs7 b) fun f => cond (e.beq (.v 1) && f.beq (.v 2)) (bind (newFacts [.ng (.v 3), .fn (.v 3), .fd (.v 3)]) fun vs => ret (.agg ⟨vs⟩)) fail)
  | _ => none)
where getIs7 : Sy → Option Qe | .is e => some e | _ => none
noncomputable def dn9 : Nat × (List Value → Option (M Sy Value)) := (dnF, unN [] noN 1 [(9, 0, 0)] giveN1)
noncomputable def alT : Nat × (List Value → Option (M Sy Value)) := (alF, fun args => match args with
  | [a, b] => cond (isIc 8 b) (some (bind (nameV [] noN 1 a) fun c => cond (Nat.beq c 9) (giveO 1 70) fail)) none
  | _ => none)
noncomputable def atT : Nat × (List Value → Option (M Sy Value)) := (pAF, fun args => match args with
  | [a, b] => match b with
    | .agg cs => some (bind (nameV [] noN 0 a) fun c => bind (frcV cs.toList) fun o => match o with
      | some x => match findL [(71, 0, 4), (72, 0, 5)] c 0 with
        | some e => cond (x.beq (.v 3)) (giveF e) fail
        | none => fail
      | none => fail)
    | _ => none
  | _ => none)
noncomputable def unT : Nat × (List Value → Option (M Sy Value)) := (8, fun args => match args with
  | [b] => match b with
    | .agg cs => some (bind (frcV cs.toList) fun o => match o with
      | some x => cond (x.beq (.v 3)) (giveG 6 7) fail
      | none => fail)
    | _ => none
  | _ => none)
noncomputable def agT : Nat × (List Value → Option (M Sy Value)) := (agF, fun args => match args with
  | [a, b] => match b with
    | .agg cs => some (bind (nameV [] noN 0 a) fun c => bind (gss cs.toList) fun o => match o with
      | some x => cond (Nat.beq c 9 && (x.1.beq (.v 6) && x.2.beq (.v 7))) (giveG 8 9) fail
      | none => fail)
    | _ => none
  | _ => none)
noncomputable def of1T : Nat × (List Value → Option (M Sy Value)) := (10, fun args => match args with
  | [a, b] => cond (isIc 1 b) (cond (isIc 1 a) (some (giveF 53)) (cond (isIc (-1) a) (some (giveF 52)) none)) none
  | _ => none)
noncomputable def lowE : Qe := .mul (.v 3) (.v 52)
noncomputable def pwT : Nat × (List Value → Option (M Sy Value)) := (12, fun args => match args with
  | [b, n] => match b with
    | .agg cs => cond (isIc 8 n) (some (bind (gss cs.toList) fun o => match o with
      | some x => cond (x.1.beq (.v 53) && x.2.beq lowE) (giveG 54 55) fail
      | none => fail)) none
    | _ => none
  | _ => none)
noncomputable def trZ (e : Nat → Qe) (m : Nat) (n : Nat) : List As := Nat.rec (motive := fun _ => List As) [] (fun k ih => cond (Nat.blt k m) (cond (Nat.beq (k + 1) m) (⟨1, e k, z0, false⟩ :: ih) ih) (⟨1, e k, z0, true⟩ :: ih)) n
noncomputable def sgT (A : List As) (L : List (Qe × Nat)) : Nat × (List Value → Option (M Sy Value)) := (68, fun args => match args with
  | [a] => some (bind (numV a) fun x => match ask A 1 x z0 with
    | some t => cond t (ret (.int .i64 0)) (match findG L x with
      | some k => newFact (.iz 0 (.v k))
      | none => fail)
    | none => fail)
  | _ => none)
where findG (L : List (Qe × Nat)) (x : Qe) : Option Nat := List.rec (motive := fun _ => Option Nat) none (fun y _ ih => cond (y.1.beq x) (some y.2) ih) L
noncomputable def wo7 : Nat × (List Value → Option (M Sy Value)) := (14, fun args => match args with
  | [] => some (ret (.bool true))
  | _ => none)
noncomputable def muT : Nat × (List Value → Option (M Sy Value)) := (13, fun args => match args with
  | [a, b] => match a with
    | .agg cs => match b with
      | .agg ds => some (bind (gss cs.toList) fun o => bind (gss ds.toList) fun q => match o with
        | some x => match q with
          | some y => cond ((x.1.beq (.v 8) && x.2.beq (.v 9)) && (y.1.beq (.v 54) && y.2.beq (.v 55))) (giveG 4 5) fail
          | none => fail
        | none => fail)
      | _ => none
    | _ => none
  | _ => none)
noncomputable def tlN (n m1 m2 : Nat) : Nms := ⟨[], [(.take (snE reE n) 0 (m1 : Int), 71), (.take (snE imE n) 0 (m2 : Int), 72)]⟩
noncomputable def tlA (n m1 m2 : Nat) : List As := [⟨0, lowE, z0, true⟩, ⟨1, .v 90, z0, Nat.beq m1 0⟩, ⟨1, .v 91, z0, Nat.beq m2 0⟩] ++ (cond (Nat.beq n 0) [⟨2, .v 5, .v 4, true⟩] [] ++ (trZ reE m1 n ++ trZ imE m2 n))
noncomputable def tlL (m1 m2 : Nat) : List (Qe × Nat) := [(reE (m1 - 1), 90), (imE (m2 - 1), 91)]
noncomputable def lnB7 (p : Bool) (n : Nat) : List Ix := cond p [.ln 0 1, .bd 6, .lt 6 0 1 0 true, .lt 6 0 0 8 false] [.ln 0 1, .bd 6, .lt 6 0 1 0 false] ++ (.ln 9 7 :: .lt 0 9 7 0 false :: .lc 70 n :: elRow 70 n)
noncomputable def tlSums (p : Bool) (n m1 m2 : Nat) : Sums Sy := sumsOf (mkTab (poS (lnB7 p n) 5 9 :: ofT :: rpG (lnB7 p n) [(9, 0, 9)] :: dn9 :: wholeL' :: (scF, siN [] noN 1 [(9, oQ, 9)] (giveO 1)) :: alT :: (ovF, siN (lnB7 p n) (tlN n m1 m2) 1 [(71, oQ, 71), (72, oQ, 72)] (giveT 0 (.bool true))) :: atT :: unT :: agT :: of1T :: pwT :: muT :: wo7 :: sgT (tlA n m1 m2) (tlL m1 m2) :: symList (tlA n m1 m2)))
where wholeL' : Nat × (List Value → Option (M Sy Value)) := whole3
noncomputable def lsCfgG (kp : Bool) (A : List As) (B : List Ix) (j : Jmps) : Cfg Sy where
  hid _ := symHid
  G := natCfg.G
  glob := natCfg.glob
  tab := natCfg.tab
  len := symLen
  jmp := j
  hard := lsHard kp A B (eqHard A)
instance lsHardG (kp : Bool) (A : List As) (B : List Ix) (j : Jmps) : HardLoc (lsCfgG kp A B j) := ⟨loc_lsHard (loc_eqHard A) kp A B⟩
theorem lsFitsG {ρ : Env} {kp : Bool} {A : List As} {B : List Ix} {j : Jmps} (hA : AllH ρ A) (hB : AllX ρ B) : Fits (symSig ρ) Tryz.prog (lsCfgG kp A B j) where
  hid := rfl
  G := rfl
  len := lsLen_ok ρ
  tab := natFits.tab
  glob := natFits.glob
  mixed := natFits.mixed
  hard := lsHard_ok hA hB (eqHard_ok hA rfl) rfl
noncomputable def tlRun (p : Bool) (n m1 m2 : Nat) : Option (D3 Sy) := tells [.ls 3 0, .is (.v 1), .is (.v 2)] [.one, .one, .one] (call Tryz.prog (lsCfgG false (tlA n m1 m2) (lnB7 p n) tlJ) (tlSums p n m1 m2) 60 tlF)
def okM (n m1 m2 : Nat) : Bool := (Nat.beq m1 0 || Nat.beq (m1 % 2) 1) && (Nat.beq (m2 % 2) 0 && (Nat.beq n 0 || (cond (Nat.beq (n % 2) 1) (Nat.beq m1 n) (Nat.beq m2 n))))
noncomputable def tlAll (p : Bool) (n : Nat) : Bool := (List.range (n + 1)).all fun m1 => (List.range (n + 1)).all fun m2 => cond (okM n m1 m2) (isTrue (tlRun p n m1 m2)) true
theorem ZI.neg {A : Nat} {x : Rat} (h : ZI A x) : ZI A (-x) := by
  obtain ⟨a, rfl, ha⟩ := h
  exact ⟨-a, by rw [Rat.intCast_neg], by rw [Int.natAbs_neg]; exact ha⟩
theorem ZI.sub {A B : Nat} {x y : Rat} (h : ZI A x) (i : ZI B y) : ZI (A + B) (x - y) := by
  rw [Rat.sub_eq_add_neg]
  exact h.add i.neg
theorem ZI.pow {A : Nat} {x : Rat} (h : ZI A x) : ∀ k : Nat, ZI (A ^ k) (x ^ k)
  | 0 => ⟨1, by rw [Rat.pow_zero]; rfl, Nat.le_refl _⟩
  | k + 1 => by
    rw [Rat.pow_succ, Nat.pow_succ]
    exact (h.pow k).mul h
theorem ZI.by_ {B k : Nat} {x : Rat} (h : ZI B x) (hB : B < 256 ^ k) (hk : 1 ≤ k) : By k x := by
  obtain ⟨z, rfl, hz⟩ := h
  refine ⟨?_, ?_⟩
  · unfold Big.nu
    rw [Rat.num_intCast]
    omega
  · unfold Big.de
    rw [Rat.den_intCast]
    exact Nat.one_lt_pow (by omega) (by decide)
theorem pow2_by {a k : Nat} (h : a < 8 * k) : 2 ^ a < 256 ^ k := by
  rw [show (256 : Nat) = 2 ^ 8 from rfl, ← Nat.pow_mul]
  exact Nat.pow_lt_pow_right (by omega) h
theorem nu_ne {q : Rat} (h : q ≠ 0) : Big.nu q ≠ 0 := fun h0 => h (Big.nu_zero.1 h0)
theorem by_quo {x g W : Rat} {k j : Nat} (h : x * g = W) (h0 : g ≠ 0) (hW : By k W) (hg : By j g) : By (k + j) x := by
  have e : x = W / g := by
    rw [← h, Rat.div_def, Rat.mul_assoc, Rat.mul_inv_cancel _ h0, Rat.mul_one]
  rw [e]
  exact hW.div hg (nu_ne h0)
theorem by_den {t : Rat} (h : By 2 t) : ∃ d : Rat, d ≠ 0 ∧ ZI 65536 d ∧ ZI 65536 (t * d) := by
  have h0 : ((t.den : Nat) : Rat) ≠ 0 := by
    intro q
    have : ((t.den : Nat) : Int) = 0 := by exact_mod_cast q
    have := t.den_pos
    omega
  refine ⟨((t.den : Nat) : Rat), h0, ⟨((t.den : Nat) : Int), rfl, ?_⟩, ⟨t.num, ?_, ?_⟩⟩
  · have h1 := h.de
    have h2 : (256 : Nat) ^ 2 = 65536 := by decide
    unfold Big.de at h1
    omega
  · have e := Rat.mkRat_self t
    rw [Rat.mkRat_eq_div] at e
    have e2 : ((t.num : Int) : Rat) / ((t.den : Nat) : Rat) * ((t.den : Nat) : Rat) = ((t.num : Int) : Rat) := by
      rw [Rat.div_def, Rat.mul_assoc, Rat.inv_mul_cancel _ h0, Rat.mul_one]
    rw [e] at e2
    exact e2
  · have h1 := h.nu
    have h2 : (256 : Nat) ^ 2 = 65536 := by decide
    unfold Big.nu at h1
    omega
theorem pow_zi {t d : Rat} (h1 : ZI 65536 d) (h2 : ZI 65536 (t * d)) : ∀ k, ZI (2 ^ (18 * k)) ((evC (0, t) (powL k)).1 * d ^ k) ∧ ZI (2 ^ (18 * k)) ((evC (0, t) (powL k)).2 * d ^ k)
  | 0 => by
    rw [pow_zero', Rat.pow_zero]
    exact ⟨⟨1, by show (1 : Rat) * 1 = _; decide +kernel, Nat.le_refl _⟩, ⟨0, by show (0 : Rat) * 1 = _; decide +kernel, Nat.zero_le _⟩⟩
  | k + 1 => by
    obtain ⟨i1, i2⟩ := pow_zi h1 h2 k
    have hle : 2 ^ (18 * k) * 65536 + 2 ^ (18 * k) * 65536 ≤ 2 ^ (18 * (k + 1)) := by
      rw [show 18 * (k + 1) = 18 * k + 18 by omega, Nat.pow_add]
      have : (2 : Nat) ^ 18 = 262144 := by decide
      rw [this]
      omega
    rw [pow_step, Rat.pow_succ]
    have e1 : (cM (evC (0, t) (powL k)) (1, -t)).1 * (d ^ k * d) = (evC (0, t) (powL k)).1 * d ^ k * d + (evC (0, t) (powL k)).2 * d ^ k * (t * d) := by
      show ((evC (0, t) (powL k)).1 * 1 - (evC (0, t) (powL k)).2 * -t) * (d ^ k * d) = _
      grind
    have e2 : (cM (evC (0, t) (powL k)) (1, -t)).2 * (d ^ k * d) = (evC (0, t) (powL k)).2 * d ^ k * d - (evC (0, t) (powL k)).1 * d ^ k * (t * d) := by
      show ((evC (0, t) (powL k)).1 * -t + (evC (0, t) (powL k)).2 * 1) * (d ^ k * d) = _
      grind
    rw [e1, e2]
    exact ⟨((i1.mul h1).add (i2.mul h2)).mono hle, ((i2.mul h1).sub (i1.mul h2)).mono hle⟩
theorem pow_by {t : Rat} (h : By 2 t) {k : Nat} (hk : k ≤ 8) : By 36 (evC (0, t) (powL k)).1 ∧ By 36 (evC (0, t) (powL k)).2 := by
  obtain ⟨d, h0, h1, h2⟩ := by_den h
  obtain ⟨i1, i2⟩ := pow_zi h1 h2 k
  have hd := pow_ne h0 k
  have b1 : (2 : Nat) ^ (18 * k) < 256 ^ 19 := Nat.lt_of_le_of_lt (Nat.pow_le_pow_right (by omega) (show 18 * k ≤ 144 by omega)) (by decide)
  have b2 : (65536 : Nat) ^ k < 256 ^ 17 := Nat.lt_of_le_of_lt (Nat.pow_le_pow_right (by omega) hk) (by decide)
  exact ⟨by_quo rfl hd (i1.by_ b1 (by decide)) ((h1.pow k).by_ b2 (by decide)), by_quo rfl hd (i2.by_ b1 (by decide)) ((h1.pow k).by_ b2 (by decide))⟩
theorem pt_zi {t d : Rat} (h1 : ZI 65536 d) (h2 : ZI 65536 (t * d)) : ZI 8589934592 (d * d * (1 + t * t)) ∧ ZI 8589934592 ((ptZ t).1 * (d * d * (1 + t * t))) ∧ ZI 8589934592 ((ptZ t).2 * (d * d * (1 + t * t))) := by
  have h := one_tt t
  have e3 : (1 + t * t) * (1 + t * t)⁻¹ = 1 := Rat.mul_inv_cancel _ h
  have k1 : d * d * (1 + t * t) = d * d + t * d * (t * d) := by grind
  have k2 : (ptZ t).1 * (d * d * (1 + t * t)) = d * d - t * d * (t * d) := by
    show (1 - t * t) / (1 + t * t) * (d * d * (1 + t * t)) = _
    rw [Rat.div_def]
    generalize (1 + t * t)⁻¹ = c at *
    grind
  have k3 : (ptZ t).2 * (d * d * (1 + t * t)) = t * d * d + t * d * d := by
    show (t + t) / (1 + t * t) * (d * d * (1 + t * t)) = _
    rw [Rat.div_def]
    generalize (1 + t * t)⁻¹ = c at *
    grind
  rw [k2, k3, k1]
  exact ⟨((h1.mul h1).add (h2.mul h2)).mono (by decide), ((h1.mul h1).sub (h2.mul h2)).mono (by decide), ((h2.mul h1).add (h2.mul h1)).mono (by decide)⟩
theorem val_zi {z : Rat × Rat} {g : Rat} (hg : ZI 8589934592 g) (h1 : ZI 8589934592 (z.1 * g)) (h2 : ZI 8589934592 (z.2 * g)) : ∀ {l : List Rat}, (∀ x ∈ l, ZI 128 x) → ZI (2 ^ (36 * l.length + 8)) ((evC z l).1 * g ^ l.length) ∧ ZI (2 ^ (36 * l.length + 8)) ((evC z l).2 * g ^ l.length)
  | [], _ => by
    rw [List.length_nil, Rat.pow_zero]
    exact ⟨⟨0, by show (0 : Rat) * 1 = _; decide +kernel, Nat.zero_le _⟩, ⟨0, by show (0 : Rat) * 1 = _; decide +kernel, Nat.zero_le _⟩⟩
  | a :: l, hl => by
    obtain ⟨i1, i2⟩ := val_zi hg h1 h2 (l := l) fun x hx => hl x (List.mem_cons_of_mem _ hx)
    have ha := hl a List.mem_cons_self
    have hle : 2 ^ (36 * l.length + 8) * 8589934592 + 2 ^ (36 * l.length + 8) * 8589934592 + 128 * (8589934592 ^ l.length * 8589934592) ≤ 2 ^ (36 * (l.length + 1) + 8) := by
      have e0 : (8589934592 : Nat) = 2 ^ 33 := by decide
      have e1 : (8589934592 : Nat) ^ l.length ≤ 2 ^ (36 * l.length) := by
        rw [e0, ← Nat.pow_mul]
        exact Nat.pow_le_pow_right (by omega) (by omega)
      rw [show 36 * (l.length + 1) + 8 = 36 * l.length + 44 by omega, Nat.pow_add, Nat.pow_add]
      have e2 : (2 : Nat) ^ 8 = 256 := by decide
      have e3 : (2 : Nat) ^ 44 = 17592186044416 := by decide
      rw [e2, e3]
      generalize (2 : Nat) ^ (36 * l.length) = X at *
      generalize (8589934592 : Nat) ^ l.length = Y at *
      omega
    rw [List.length_cons, Rat.pow_succ]
    have e1 : (evC z (a :: l)).1 * (g ^ l.length * g) = (evC z l).1 * g ^ l.length * (z.1 * g) - (evC z l).2 * g ^ l.length * (z.2 * g) + a * (g ^ l.length * g) := by
      show ((evC z l).1 * z.1 - (evC z l).2 * z.2 + a) * (g ^ l.length * g) = _
      grind
    have e2 : (evC z (a :: l)).2 * (g ^ l.length * g) = (evC z l).1 * g ^ l.length * (z.2 * g) + (evC z l).2 * g ^ l.length * (z.1 * g) := by
      show ((evC z l).1 * z.2 + (evC z l).2 * z.1) * (g ^ l.length * g) = _
      grind
    rw [e1, e2]
    exact ⟨(((i1.mul h1).sub (i2.mul h2)).add (ha.mul ((hg.pow _).mul hg))).mono hle, ((i1.mul h2).add (i2.mul h1)).mono (Nat.le_trans (Nat.le_add_right _ _) hle)⟩
theorem val_by {t : Rat} (h : By 2 t) {p : List Rat} (hp : ∀ x ∈ p, ZI 128 x) (hl : p.length ≤ 8) : By 72 (evC (ptZ t) p).1 ∧ By 72 (evC (ptZ t) p).2 := by
  obtain ⟨d, h0, h1, h2⟩ := by_den h
  obtain ⟨g1, g2, g3⟩ := pt_zi h1 h2
  obtain ⟨i1, i2⟩ := val_zi g1 g2 g3 hp
  have hd0 : d * d * (1 + t * t) ≠ 0 := by
    intro q
    rcases Rat.mul_eq_zero.1 q with q | q
    · rcases Rat.mul_eq_zero.1 q with q | q <;> exact h0 q
    · exact one_tt t q
  have hd := pow_ne hd0 p.length
  have b1 : (2 : Nat) ^ (36 * p.length + 8) < 256 ^ 38 := by
    exact pow2_by (by omega)
  have b2 : (8589934592 : Nat) ^ p.length < 256 ^ 34 := by
    rw [show (8589934592 : Nat) = 2 ^ 33 from rfl, ← Nat.pow_mul]
    exact pow2_by (by omega)
  exact ⟨by_quo rfl hd (i1.by_ b1 (by decide)) ((g1.pow _).by_ b2 (by decide)), by_quo rfl hd (i2.by_ b1 (by decide)) ((g1.pow _).by_ b2 (by decide))⟩
theorem by_1 : By 1 (1 : Rat) := ZI.by_ (B := 1) ⟨1, rfl, Nat.le_refl _⟩ (by decide) (by decide)
theorem pt_by {t : Rat} (h : By 2 t) : By 12 (ptZ t).1 ∧ By 12 (ptZ t).2 := by
  have htt := h.mul h
  have h1 := by_1.add htt
  have h0 := nu_ne (one_tt t)
  exact ⟨(by_1.sub htt).div h1 h0, ((h.add h).div h1 h0).up (by decide)⟩
noncomputable def wan (t : Rat) (p : List Rat) : Rat × Rat := cM (evC (ptZ t) p) (evC (0, t) (powL 8))
theorem wan_by {t : Rat} (h : By 2 t) {p : List Rat} (hp : ∀ x ∈ p, ZI 128 x) (hl : p.length ≤ 8) : By 217 (wan t p).1 ∧ By 217 (wan t p).2 := by
  obtain ⟨a1, a2⟩ := val_by h hp hl
  obtain ⟨b1, b2⟩ := pow_by h (k := 8) (Nat.le_refl _)
  exact ⟨(a1.mul b1).sub (a2.mul b2), (a1.mul b2).add (a2.mul b1)⟩
theorem wan_is {t : Rat} {p : List Rat} (hl : p.length ≤ 9) : evC (0, t) (sumL p 9) = wan t p := sum_is hl t
section
variable {ρ : Env} {B : List Ix}
theorem giveF_ok7 {e : Nat} {f : FuncId} {args' : List Value} {h h' : Tr (Blk Sy)} {nx nx' : Nat} {R W : List Nat} {r : Ren} {w : World} {v : Value} (e1 : giveF e h nx = .ok v h' nx' R W) (hM : Mod (symSig ρ) r h.get w) (hN : New r nx nx')
    (c : Calls Tryz.prog f ⟨args'⟩ w fun en w' => en = .returned (.tuple ⟨[fV (ρ.q e), .int .i64 0]⟩) ∧ Below w.heap.size w w') :
    Calls Tryz.prog f ⟨args'⟩ w fun e w' => ∃ v' r', e = .returned v' ∧ VR r' v v' ∧ Ext (symSig ρ) r w nx nx' W h'.get r' w' :=
  goes_aggT (u := .int .i64 0) (f := f) rfl e1 hM hN (c.mono fun en w' hr => ⟨_, hr.1, frs_holds w' (.v e), hr.2⟩)
theorem giveG_ok {a b : Nat} {f : FuncId} {args' : List Value} {h h' : Tr (Blk Sy)} {nx nx' : Nat} {R W : List Nat} {r : Ren} {w : World} {v : Value} (e1 : giveG a b h nx = .ok v h' nx' R W) (hM : Mod (symSig ρ) r h.get w) (hN : New r nx nx')
    (c : Calls Tryz.prog f ⟨args'⟩ w fun en w' => en = .returned (.tuple ⟨[gV (ρ.q a) (ρ.q b), .int .i64 0]⟩) ∧ Below w.heap.size w w') :
    Calls Tryz.prog f ⟨args'⟩ w fun e w' => ∃ v' r', e = .returned v' ∧ VR r' v v' ∧ Ext (symSig ρ) r w nx nx' W h'.get r' w' :=
  goes_aggT (u := .int .i64 0) (f := f) rfl e1 hM hN (c.mono fun en w' hr => ⟨_, hr.1, holdsL_append (frs_holds w' (.v a)) (frs_holds w' (.v b)), hr.2⟩)
theorem loc_giveG (a b : Nat) : Loc (giveG a b) := loc_bind (loc_newFacts _) fun _ => loc_ret _
theorem is7_of {f : Sy} {e : Qe} {w : World} {v : Value} (hg : ofT.getIs7 f = some e) (h : f.holds ρ w v) : v = .int .i16 (e.ev ρ.q).num ∧ I16 (e.ev ρ.q) := by cases f <;> simp [ofT.getIs7] at hg; subst hg; exact h
theorem ofT_ok (h3 : ρ.q 3 = lofQ (ρ.q 1).num (ρ.q 2).num) : SumF (symSig ρ) Tryz.prog ofT.1 ofT.2 := by
  intro args m hm
  rcases args with _ | ⟨a, _ | ⟨b, _ | ⟨z, l⟩⟩⟩ <;> first | (cases (show none = some m from hm); done) | skip
  cases hm
  refine ⟨loc_bind (loc_knw _ _) fun e => loc_bind (loc_knw _ _) fun f => loc_cond (loc_bind (loc_newFacts _) fun _ => loc_ret _) loc_fail, fun h nx v h' nx' R W e r w args' hv hM hN => ?_⟩
  cases hv with
  | cons h1 hv => cases hv with
    | cons h2 hq =>
      cases hq
      obtain ⟨e0, g1, nx1, R1, W1, R2, W2, e1, e2, rfl, rfl⟩ := bind_ok e
      obtain ⟨rfl, rfl, rfl, f1, hf1, hx⟩ := knw_ok e1 h1 hM
      obtain ⟨g0, g3, nx3, R3, W3, R4, W4, e3, e4, rfl, rfl⟩ := bind_ok e2
      obtain ⟨rfl, rfl, rfl, f2, hf2, hy⟩ := knw_ok e3 h2 hM
      obtain ⟨rfl, x1⟩ := is7_of hf1 hx
      obtain ⟨rfl, y1⟩ := is7_of hf2 hy
      obtain ⟨hk, e5⟩ := cond_ok e4
      simp only [Bool.and_eq_true] at hk
      obtain rfl := Qe.beq_ok _ _ hk.1
      obtain rfl := Qe.beq_ok _ _ hk.2
      have c := lof7_any w (ρ.q 1).num (ρ.q 2).num x1.lo x1.hi y1.lo y1.hi
      rw [← h3] at c
      have := goes_agg (f := 5) e5 hM hN (c.mono fun _ w' hh => ⟨_, hh.1, frs_holds w' (.v 3), hh.2⟩)
      simp only [List.nil_append]
      exact this
theorem dn9_ok (hp : ∀ y ∈ ρ.lst 9, Fit y) (hd : ∀ y ∈ ρ.lst 9, Big.de y = 1) (hl : (ρ.lst 9).length ≤ 9) : SumF (symSig ρ) Tryz.prog dn9.1 dn9.2 :=
  unN_ok (B := []) (fun x hx => by simp at hx) noN_ok (fun _ => loc_newFact _) (Q := fun _ _ en w' => ∃ u, en = .returned u ∧ NatIn w' u 1) (fun c e hm w v hv hG hT => by
    simp only [List.mem_cons, List.not_mem_nil, or_false, Prod.mk.injEq, true_and] at hm
    obtain ⟨rfl, rfl⟩ := hm
    refine (denE_any w hp hd hl hv hG hT).mono ?_
    rintro en w' ⟨u, q1, q2, q3⟩
    exact ⟨⟨u, q1, q2⟩, q3⟩) giveN1_gives
theorem alT_ok (hp : PB 128 8 (ρ.lst 9)) (h70 : ρ.lst 70 = sumL (ρ.lst 9) 9) : SumF (symSig ρ) Tryz.prog alT.1 alT.2 := by
  intro args m hm
  rcases args with _ | ⟨a, _ | ⟨b, _ | ⟨z, l⟩⟩⟩ <;> first | (cases (show none = some m from hm); done) | skip
  have hm' : cond (isIc 8 b) (some (bind (nameV [] noN 1 a) fun c => cond (Nat.beq c 9) (giveO 1 70) fail)) none = some m := hm
  cases hb : isIc 8 b with
  | false => rw [hb] at hm'; cases hm'
  | true =>
    rw [hb] at hm'
    cases hm'
    obtain rfl := isIc_ok hb
    refine ⟨loc_bind (loc_nameV _ _ _ _) fun c => loc_cond (loc_giveO _ _) loc_fail, fun h nx v h' nx' R W e r w args' hv hM hN => ?_⟩
    cases hv with
    | cons h1 hv => cases hv with
      | cons h2 hq =>
        cases hq
        obtain rfl := h2.eq_of_plain rfl
        obtain ⟨c, g1, nx1, R1, W1, R2, W2, e1, e2, rfl, rfl⟩ := bind_ok e
        obtain ⟨rfl, rfl, rfl, hls⟩ := nameV_ok (ρ := ρ) (B := []) (fun x hx => by simp at hx) noN_ok e1 h1 hM
        obtain ⟨hk, e3⟩ := cond_ok e2
        obtain rfl := Nat.eq_of_beq_eq_true hk
        have c0 := along_any w hp hls hM.fits hM.base
        rw [← h70] at c0
        have := giveO_ok (ρ := ρ) (f := alF) e3 hM hN (c0.mono fun en w' hh => by
          obtain ⟨u, q1, q2, q3⟩ := hh
          exact ⟨⟨u, q1, q2⟩, q3⟩)
        simp only [List.nil_append]
        exact this
theorem atT_ok (h3 : Fit (ρ.q 3)) (hc : ∀ c e, (c, 0, e) ∈ ([(71, 0, 4), (72, 0, 5)] : Tri3) → PolyOK (ρ.lst c) ∧ (ρ.lst c).length ≤ 20 ∧ Fit (evL (ρ.q 3) (ρ.lst c)) ∧ ρ.q e = evL (ρ.q 3) (ρ.lst c)) : SumF (symSig ρ) Tryz.prog atT.1 atT.2 := by
  intro args m hm
  rcases args with _ | ⟨a, _ | ⟨b, _ | ⟨z, l⟩⟩⟩ <;> first | (cases (show none = some m from hm); done) | skip
  cases b <;> first | (cases (show none = some m from hm); done) | skip
  rename_i cs
  obtain ⟨cl⟩ := cs
  cases hm
  refine ⟨loc_bind (loc_nameV _ _ _ _) fun y => loc_bind (loc_frcV _) fun o => ?_, fun h nx v h' nx' R W e r w args' hv hM hN => ?_⟩
  · (repeat' split) <;> first | exact loc_fail | exact loc_cond (loc_giveF _) loc_fail
  cases hv with
  | cons h1 hv => cases hv with
    | cons h2 hq =>
      cases hq
      obtain ⟨l', rfl, hl⟩ := vr_agg h2
      obtain ⟨c, g1, nx1, R1, W1, R2, W2, e1, e2, rfl, rfl⟩ := bind_ok e
      obtain ⟨rfl, rfl, rfl, hls⟩ := nameV_ok (ρ := ρ) (B := []) (fun x hx => by simp at hx) noN_ok e1 h1 hM
      obtain ⟨o, g3, nx3, R3, W3, R4, W4, e3, e4, rfl, rfl⟩ := bind_ok e2
      obtain ⟨rfl, rfl, rfl, hf⟩ := frcV_ok e3 hl hM
      cases o with
      | none => cases (show (fail : M Sy Value) _ _ = _ from e4)
      | some x =>
        simp only at e4
        cases hfd : findL [(71, 0, 4), (72, 0, 5)] c 0 with
        | none => rw [hfd] at e4; cases (show (fail : M Sy Value) _ _ = _ from e4)
        | some k =>
          rw [hfd] at e4
          obtain ⟨hk, e5⟩ := cond_ok e4
          obtain rfl := Qe.beq_ok _ _ hk
          obtain rfl : l' = _ := hf
          obtain ⟨q1, q2, q3, q4⟩ := hc c k (findL_ok hfd)
          have c0 := pAt_any w (x := ρ.q 3) q1 q2 h3 q3 hls hM.fits hM.base
          rw [← q4] at c0
          have := giveF_ok7 (ρ := ρ) (f := pAF) e5 hM hN c0
          simp only [List.nil_append]
          exact this
theorem unT_ok (h3 : Fit (ρ.q 3)) (h6 : ρ.q 6 = (1 - ρ.q 3 * ρ.q 3) / (1 + ρ.q 3 * ρ.q 3)) (h7 : ρ.q 7 = (ρ.q 3 + ρ.q 3) / (1 + ρ.q 3 * ρ.q 3)) (f6 : Fit (ρ.q 6)) (f7 : Fit (ρ.q 7)) : SumF (symSig ρ) Tryz.prog unT.1 unT.2 := by
  intro args m hm
  rcases args with _ | ⟨b, _ | ⟨z, l⟩⟩ <;> first | (cases (show none = some m from hm); done) | skip
  cases b <;> first | (cases (show none = some m from hm); done) | skip
  rename_i cs
  obtain ⟨cl⟩ := cs
  cases hm
  refine ⟨loc_bind (loc_frcV _) fun o => ?_, fun h nx v h' nx' R W e r w args' hv hM hN => ?_⟩
  · split <;> first | exact loc_fail | exact loc_cond (loc_giveG _ _) loc_fail
  cases hv with
  | cons h2 hq =>
    cases hq
    obtain ⟨l', rfl, hl⟩ := vr_agg h2
    obtain ⟨o, g3, nx3, R3, W3, R4, W4, e3, e4, rfl, rfl⟩ := bind_ok e
    obtain ⟨rfl, rfl, rfl, hf⟩ := frcV_ok e3 hl hM
    cases o with
    | none => cases (show (fail : M Sy Value) _ _ = _ from e4)
    | some x =>
      simp only at e4
      obtain ⟨hk, e5⟩ := cond_ok e4
      obtain rfl := Qe.beq_ok _ _ hk
      obtain rfl : l' = _ := hf
      have c0 : Calls Tryz.prog 8 ⟨[fV (ρ.q 3)]⟩ w _ := tunit_any h3 hM.fits hM.base
      rw [← h6, ← h7] at c0
      have := giveG_ok (ρ := ρ) (f := 8) e5 hM hN (c0.mono fun en w' hh => by
        obtain ⟨q1 | q1, q2⟩ := hh
        · exact ⟨q1.2, q2⟩
        · exact absurd ⟨f6, f7⟩ q1.1)
      simp only [List.nil_append]
      exact this
theorem agT_ok (hp : PolyOK (ρ.lst 9)) (hd : ∀ y ∈ ρ.lst 9, Big.de y = 1) (hl : (ρ.lst 9).length ≤ 8) (f6 : Fit (ρ.q 6)) (f7 : Fit (ρ.q 7)) (h8 : ρ.q 8 = (evC (ρ.q 6, ρ.q 7) (ρ.lst 9)).1) (h9 : ρ.q 9 = (evC (ρ.q 6, ρ.q 7) (ρ.lst 9)).2) (f8 : Fit (ρ.q 8)) (f9 : Fit (ρ.q 9)) : SumF (symSig ρ) Tryz.prog agT.1 agT.2 := by
  intro args m hm
  rcases args with _ | ⟨a, _ | ⟨b, _ | ⟨z, l⟩⟩⟩ <;> first | (cases (show none = some m from hm); done) | skip
  cases b <;> first | (cases (show none = some m from hm); done) | skip
  rename_i cs
  obtain ⟨cl⟩ := cs
  cases hm
  refine ⟨loc_bind (loc_nameV _ _ _ _) fun y => loc_bind (loc_gss _) fun o => ?_, fun h nx v h' nx' R W e r w args' hv hM hN => ?_⟩
  · split <;> first | exact loc_fail | exact loc_cond (loc_giveG _ _) loc_fail
  cases hv with
  | cons h1 hv => cases hv with
    | cons h2 hq =>
      cases hq
      obtain ⟨l', rfl, hl'⟩ := vr_agg h2
      obtain ⟨c, g1, nx1, R1, W1, R2, W2, e1, e2, rfl, rfl⟩ := bind_ok e
      obtain ⟨rfl, rfl, rfl, hls⟩ := nameV_ok (ρ := ρ) (B := []) (fun x hx => by simp at hx) noN_ok e1 h1 hM
      obtain ⟨o, g3, nx3, R3, W3, R4, W4, e3, e4, rfl, rfl⟩ := bind_ok e2
      obtain ⟨rfl, rfl, rfl, hf⟩ := gss_ok e3 hl' hM
      cases o with
      | none => cases (show (fail : M Sy Value) _ _ = _ from e4)
      | some x =>
        simp only at e4
        obtain ⟨hk, e5⟩ := cond_ok e4
        simp only [Bool.and_eq_true] at hk
        obtain ⟨x1, x2⟩ := x
        obtain rfl := Nat.eq_of_beq_eq_true hk.1
        obtain rfl := Qe.beq_ok _ _ hk.2.1
        obtain rfl := Qe.beq_ok _ _ hk.2.2
        obtain rfl : l' = _ := hf
        have c0 := atGauss_any w (x := ρ.q 6) (y := ρ.q 7) hp hd hl f6 f7 (by rw [← h8]; exact f8) (by rw [← h9]; exact f9) hls hM.fits hM.base
        rw [← h8, ← h9] at c0
        have := giveG_ok (ρ := ρ) (f := agF) e5 hM hN c0
        simp only [List.nil_append]
        exact this
theorem ofQ_int (z : Int) : ofQ z 1 = ((z : Int) : Rat) := by
  have := @ofQ_one ((z : Int) : Rat) (Rat.den_intCast z)
  rwa [Rat.num_intCast] at this
theorem of1T_ok (h52 : ρ.q 52 = -1) (h53 : ρ.q 53 = 1) : SumF (symSig ρ) Tryz.prog of1T.1 of1T.2 := by
  intro args m hm
  rcases args with _ | ⟨a, _ | ⟨b, _ | ⟨z, l⟩⟩⟩ <;> first | (cases (show none = some m from hm); done) | skip
  have hm' : cond (isIc 1 b) (cond (isIc 1 a) (some (giveF 53)) (cond (isIc (-1) a) (some (giveF 52)) none)) none = some m := hm
  cases hb : isIc 1 b with
  | false => rw [hb] at hm'; cases hm'
  | true =>
    rw [hb] at hm'
    simp only [cond_true] at hm'
    obtain rfl := isIc_ok hb
    have go : ∀ (z : Int) (k : Nat), ρ.q k = ((z : Int) : Rat) → -9223372036854775808 ≤ z → z ≤ 9223372036854775807 → a = .int .i64 z → m = giveF k → Loc m ∧ ∀ (h : Tr (Blk Sy)) nx v h' nx' R W, m h nx = .ok v h' nx' R W → ∀ r w args', VsR r [a, .int .i64 1] args' → Mod (symSig ρ) r h.get w → New r nx nx' →
        Calls Tryz.prog of1T.1 ⟨args'⟩ w fun e w' => ∃ v' r', e = .returned v' ∧ VR r' v v' ∧ Ext (symSig ρ) r w nx nx' W h'.get r' w' := by
      rintro z k hk z0 z1 rfl rfl
      refine ⟨loc_giveF _, fun h nx v h' nx' R W e r w args' hv hM hN => ?_⟩
      cases hv with
      | cons h1 hv => cases hv with
        | cons h2 hq =>
          cases hq
          obtain rfl := h1.eq_of_plain rfl
          obtain rfl := h2.eq_of_plain rfl
          have c0 := raOf_any w z 1 z0 z1 (by decide) (by decide) (by decide)
          rw [ofQ_int, ← hk] at c0
          exact giveF_ok7 e hM hN c0
    cases ha : isIc 1 a with
    | true =>
      rw [ha] at hm'
      cases hm'
      exact go 1 53 (by rw [h53]; rfl) (by decide) (by decide) (isIc_ok ha) rfl
    | false =>
      rw [ha] at hm'
      simp only [cond_false] at hm'
      cases ha2 : isIc (-1) a with
      | false => rw [ha2] at hm'; cases hm'
      | true =>
        rw [ha2] at hm'
        cases hm'
        exact go (-1) 52 (by rw [h52]; rfl) (by decide) (by decide) (isIc_ok ha2) rfl
theorem pwT_ok {t : Rat} (ht : lowE.ev ρ.q = -t) (h53 : ρ.q 53 = 1) (hb : By 2 t) (h54 : ρ.q 54 = (evC (0, t) (powL 8)).1) (h55 : ρ.q 55 = (evC (0, t) (powL 8)).2) : SumF (symSig ρ) Tryz.prog pwT.1 pwT.2 := by
  have hpw : ∀ k, p8M (1, -t) k = evC (0, t) (powL k) := by
    intro k
    induction k with
    | zero => rw [pow_zero']; rfl
    | succ k ih =>
      rw [pow_step, ← ih]; rfl
  intro args m hm
  rcases args with _ | ⟨b, _ | ⟨n, _ | ⟨z, l⟩⟩⟩ <;> first | (cases (show none = some m from hm); done) | skip
  cases b <;> first | (cases (show none = some m from hm); done) | skip
  rename_i cs
  obtain ⟨cl⟩ := cs
  have hm' : cond (isIc 8 n) (some (bind (gss cl) fun o => match o with
      | some x => cond (x.1.beq (.v 53) && x.2.beq lowE) (giveG 54 55) fail
      | none => fail)) none = some m := hm
  cases hn : isIc 8 n with
  | false => rw [hn] at hm'; cases hm'
  | true =>
    rw [hn] at hm'
    cases hm'
    obtain rfl := isIc_ok hn
    refine ⟨loc_bind (loc_gss _) fun o => ?_, fun h nx v h' nx' R W e r w args' hv hM hN => ?_⟩
    · split <;> first | exact loc_fail | exact loc_cond (loc_giveG _ _) loc_fail
    cases hv with
    | cons h1 hv => cases hv with
      | cons h2 hq =>
        cases hq
        obtain rfl := h2.eq_of_plain rfl
        obtain ⟨l', rfl, hl'⟩ := vr_agg h1
        obtain ⟨o, g3, nx3, R3, W3, R4, W4, e3, e4, rfl, rfl⟩ := bind_ok e
        obtain ⟨rfl, rfl, rfl, hf⟩ := gss_ok e3 hl' hM
        cases o with
        | none => cases (show (fail : M Sy Value) _ _ = _ from e4)
        | some x =>
          simp only at e4
          obtain ⟨hk, e5⟩ := cond_ok e4
          simp only [Bool.and_eq_true] at hk
          obtain ⟨x1, x2⟩ := x
          obtain rfl := Qe.beq_ok _ _ hk.1
          obtain rfl := Qe.beq_ok _ _ hk.2
          obtain rfl : l' = _ := hf
          have sz : ∀ k, k ≤ 8 → Fit (p8M (1, -t) k).1 ∧ Fit (p8M (1, -t) k).2 := fun k hk => by
            rw [hpw k]
            exact ⟨(pow_by hb hk).1.fit (by decide), (pow_by hb hk).2.fit (by decide)⟩
          have c0 := power8_any w (z := (1, -t)) lc_fit1 ((hb.neg).fit (by decide)) sz hM.fits hM.base
          rw [hpw, ← h54, ← h55] at c0
          have e53 : (Qe.v 53).ev ρ.q = 1 := h53
          have := giveG_ok (ρ := ρ) (f := 12) (args' := [.agg ⟨cel (tri ((Qe.v 53).ev ρ.q)) ++ cel (tri (lowE.ev ρ.q))⟩, .int .i64 8]) e5 hM hN (by rw [e53, ht]; exact c0)
          simp only [List.nil_append]
          exact this
theorem muT_ok (f8 : Fit (ρ.q 8)) (f9 : Fit (ρ.q 9)) (f54 : Fit (ρ.q 54)) (f55 : Fit (ρ.q 55)) (h4 : ρ.q 4 = ρ.q 8 * ρ.q 54 - ρ.q 9 * ρ.q 55) (h5 : ρ.q 5 = ρ.q 8 * ρ.q 55 + ρ.q 9 * ρ.q 54) (f4 : Fit (ρ.q 4)) (f5 : Fit (ρ.q 5)) : SumF (symSig ρ) Tryz.prog muT.1 muT.2 := by
  intro args m hm
  rcases args with _ | ⟨a, _ | ⟨b, _ | ⟨z, l⟩⟩⟩ <;> first | (cases (show none = some m from hm); done) | skip
  cases a <;> first | (cases (show none = some m from hm); done) | skip
  cases b <;> first | (cases (show none = some m from hm); done) | skip
  rename_i cs ds
  obtain ⟨cl⟩ := cs
  obtain ⟨dl⟩ := ds
  cases hm
  refine ⟨loc_bind (loc_gss _) fun o => loc_bind (loc_gss _) fun q => ?_, fun h nx v h' nx' R W e r w args' hv hM hN => ?_⟩
  · (repeat' split) <;> first | exact loc_fail | exact loc_cond (loc_giveG _ _) loc_fail
  cases hv with
  | cons h1 hv => cases hv with
    | cons h2 hq =>
      cases hq
      obtain ⟨l', rfl, hl'⟩ := vr_agg h1
      obtain ⟨m', rfl, hm'⟩ := vr_agg h2
      obtain ⟨o, g1, nx1, R1, W1, R2, W2, e1, e2, rfl, rfl⟩ := bind_ok e
      obtain ⟨rfl, rfl, rfl, hf⟩ := gss_ok e1 hl' hM
      obtain ⟨q, g3, nx3, R3, W3, R4, W4, e3, e4, rfl, rfl⟩ := bind_ok e2
      obtain ⟨rfl, rfl, rfl, hg⟩ := gss_ok e3 hm' hM
      cases o with
      | none => cases (show (fail : M Sy Value) _ _ = _ from e4)
      | some x =>
        cases q with
        | none => cases (show (fail : M Sy Value) _ _ = _ from e4)
        | some y =>
          simp only at e4
          obtain ⟨hk, e5⟩ := cond_ok e4
          simp only [Bool.and_eq_true] at hk
          obtain ⟨x1, x2⟩ := x
          obtain ⟨y1, y2⟩ := y
          obtain rfl := Qe.beq_ok _ _ hk.1.1
          obtain rfl := Qe.beq_ok _ _ hk.1.2
          obtain rfl := Qe.beq_ok _ _ hk.2.1
          obtain rfl := Qe.beq_ok _ _ hk.2.2
          obtain rfl : l' = _ := hf
          obtain rfl : m' = _ := hg
          have c0 : Calls Tryz.prog 13 ⟨[gV (ρ.q 8) (ρ.q 9), gV (ρ.q 54) (ρ.q 55)]⟩ w (GRes w (ρ.q 8 * ρ.q 54 - ρ.q 9 * ρ.q 55) (ρ.q 8 * ρ.q 55 + ρ.q 9 * ρ.q 54)) := ga2 mul_run w f8 f9 f54 f55 hM.fits hM.base
          rw [← h4, ← h5] at c0
          have := giveG_ok (ρ := ρ) (f := 13) e5 hM hN (c0.mono fun en w' hh => by
            obtain ⟨q1 | q1, q2⟩ := hh
            · exact ⟨q1.2, q2⟩
            · exact absurd ⟨f4, f5⟩ q1.1)
          simp only [List.nil_append]
          exact this
theorem wo7_ok : SumF (symSig ρ) Tryz.prog wo7.1 wo7.2 := by
  intro args k hm
  rcases args with _ | ⟨a, l⟩ <;> first | (cases (show none = some k from hm); done) | skip
  cases hm
  refine ⟨loc_ret _, fun h nx v h' nx' R W e r w args' hv hM hN => ?_⟩
  cases hv
  exact goes_pl (f := 14) e rfl hM (works7_ok.2.2 w hM.fits hM.base)
theorem sg_iz (x : Rat) : izIs 0 ((sgQ x : Int) : Rat) (.int .i64 (sgQ x)) := by
  have hb : -1 ≤ sgQ x ∧ sgQ x ≤ 1 := by
    unfold sgQ
    split
    · omega
    · split <;> omega
  refine ⟨?_, Rat.den_intCast _, ?_, ?_⟩
  · rw [Rat.num_intCast]; rfl
  · rw [Rat.num_intCast]; omega
  · rw [Rat.num_intCast]; omega
theorem findG_ok {x : Qe} {k : Nat} : ∀ {L : List (Qe × Nat)}, sgT.findG L x = some k → (x, k) ∈ L
  | [], h => by cases h
  | y :: L, h => by
    have h' : cond (y.1.beq x) (some y.2) (sgT.findG L x) = some k := h
    cases hb : y.1.beq x with
    | true =>
      rw [hb] at h'
      cases h'
      rw [← Qe.beq_ok _ _ hb]
      exact List.mem_cons_self
    | false => rw [hb] at h'; exact List.mem_cons_of_mem _ (findG_ok h')
theorem sgT_ok {A : List As} (hA : AllH ρ A) {L : List (Qe × Nat)} (hL : ∀ x k, (x, k) ∈ L → ρ.q k = ((sgQ (x.ev ρ.q) : Int) : Rat)) : SumF (symSig ρ) Tryz.prog (sgT A L).1 (sgT A L).2 := by
  intro args m hm
  rcases args with _ | ⟨a, _ | ⟨z, l⟩⟩ <;> first | (cases (show none = some m from hm); done) | skip
  cases hm
  refine ⟨loc_bind (loc_numV _) fun x => ?_, fun h nx v h' nx' R W e r w args' hv hM hN => ?_⟩
  · split
    · refine loc_cond (loc_ret _) ?_
      split
      · exact loc_newFact _
      · exact loc_fail
    · exact loc_fail
  cases hv with
  | cons h1 hq =>
    cases hq
    obtain ⟨x, g1, nx1, R1, W1, R2, W2, e1, e2, rfl, rfl⟩ := bind_ok e
    obtain ⟨rfl, rfl, rfl, hx⟩ := numV_ok e1 h1 hM
    have c0 := exSign_any w _ _ hx
    simp only [List.nil_append]
    cases ha : ask A 1 x z0 with
    | none => rw [ha] at e2; cases (show (fail : M Sy Value) _ _ = _ from e2)
    | some t =>
      rw [ha] at e2
      have ht := ask_nought hA ha
      cases t with
      | true =>
        have h0 : sgQ (x.ev ρ.q) = 0 := by rw [ht.1 rfl]; rfl
        rw [h0] at c0
        exact goes_pl (f := (sgT A L).1) (show (ret (.int .i64 0) : M Sy Value) _ _ = _ from e2) rfl hM c0
      | false =>
        simp only [cond_false] at e2
        cases hg : sgT.findG L x with
        | none => rw [hg] at e2; cases (show (fail : M Sy Value) _ _ = _ from e2)
        | some k =>
          rw [hg] at e2
          have hk := hL x k (findG_ok hg)
          refine goes_fact (n := .iz 0 (.v k)) e2 hM hN (c0.mono fun en w' hh => ⟨_, hh.1, ?_, rfl, hh.2⟩)
          show izIs 0 (ρ.q k) _
          rw [hk]
          exact sg_iz _
end
end Ev
end Go.Proofs.YtaefgofheiegeaaGreat
