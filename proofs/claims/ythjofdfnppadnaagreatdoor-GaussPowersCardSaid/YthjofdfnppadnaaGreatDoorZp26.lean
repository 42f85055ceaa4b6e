/- Contracts, in this order: diapasonlaw02.GaussPowers: what Power answers of any number; -/
import Derived.Test.YthjofdfnppadnaaGreatDoorZp25
namespace Go.Proofs.YthjofdfnppadnaaGreatDoor
open Go Go.RowKit
namespace Ev
set_option maxRecDepth 100000
theorem pbad_run (e : Qe) : ∀ a b : Bool, (a && b) = false → tells (inp a 0 ++ (inp b 1 ++ [.it e])) [.agg 6, .one] (call Tryz.prog symC (symSums []) 60 34) = some (noD 2) := by
  intro a b
  cases a <;> cases b <;> intro h <;> first | (cases h; done) | kernel_rfl
noncomputable def zT : List As := [⟨1, c0, z0, true⟩, ⟨3, c0, z0, false⟩]
noncomputable def zrun (n : Nat) : Option (D3 Sy) := tells (frs c0 ++ frs c0) [.agg 6, .p (.int .i64 (powI true (Nat.succ n)))] (call Tryz.prog symC (symSums zT) 60 34)
theorem zrun_all : (List.range 22).map zrun = (List.range 22).map (fun _ => some (noD 4)) := by kernel_rfl
theorem int_c (k : Int) (ρ : Nat → Rat) : ((Qe.c (decide (k < 0)) k.natAbs 1).ev ρ).num = k := by
  show (mkRat (Big.sI (decide (k < 0)) k.natAbs) 1).num = k
  have h : Big.sI (decide (k < 0)) k.natAbs = k := by
    unfold Big.sI
    by_cases hk : k < 0
    · rw [decide_eq_true hk]; simp; omega
    · rw [decide_eq_false hk]; simp; omega
  rw [h]
  simp [Rat.mkRat_one]
section
variable {w : World}
theorem power_bad (x y : Tri) (k : Int) (h : BadF x ∨ BadF y) (hG : Tryz.prog.globals.size ≤ w.heap.size) (hT : Tab w) :
    Calls Tryz.prog 34 ⟨[.agg ⟨cel x ++ cel y⟩, .int .i64 k]⟩ w (GErr w 2) := by
  obtain ⟨i, -⟩ := in4 x y x y
  have hA : AllH i.ρ [] := fun _ h => (by cases h)
  have hb : (i.a && i.b) = false := by
    cases ha : i.a with
    | false => rfl
    | true => cases hb : i.b with
      | false => rfl
      | true =>
        rcases h with h | h
        · rw [i.hx.1 ha] at h; exact absurd h (not_bad ((i.ρ.fit _ (by decide))))
        · rw [i.hy.1 hb] at h; exact absurd h (not_bad ((i.ρ.fit _ (by decide))))
  have hi : HoldsL (symSig i.ρ) w [.it (.c (decide (k < 0)) k.natAbs 1)] [.int .i64 k] := ⟨_, [], rfl, by show Value.int .i64 k = .int .i64 _; rw [int_c], rfl, rfl⟩
  refine (tells_calls (symFits _) (symSums_ok hA) (pbad_run (.c (decide (k < 0)) k.natAbs 1) _ _ hb) rfl glob_few (holdsL_append (inp_holds (w := w) i.hx.1 i.hx.2) (holdsL_append (inp_holds i.hy.1 i.hy.2) hi)) hG hT).mono ?_
  rintro e w' ⟨v', rfl, hv, hb'⟩
  exact ⟨by rw [noD_is hv], hb'⟩
theorem power_zero (n : Nat) (hn : n < 22) (hG : Tryz.prog.globals.size ≤ w.heap.size) (hT : Tab w) :
    Calls Tryz.prog 34 ⟨[gV 0 0, .int .i64 (powI true (n + 1))]⟩ w (GErr w 4) := by
  have hr : zrun n = some (noD 4) := List.map_inj_left.1 zrun_all n (List.mem_range.2 hn)
  have hA : AllH (envOf 0 0 0 0 fit_zero fit_zero fit_zero fit_zero) zT := fun x hx => by
    simp only [zT, List.mem_cons, List.not_mem_nil, or_false] at hx
    rcases hx with rfl | rfl
    · exact ⟨fun _ => c0_ev _, fun _ => rfl⟩
    · show false = Big.ng (c0.ev _)
      rw [c0_ev]; rfl
  have hc : HoldsL (symSig (envOf 0 0 0 0 fit_zero fit_zero fit_zero fit_zero)) w (frs c0) (cel (tri 0)) := by
    have := frs_holds (ρ := envOf 0 0 0 0 fit_zero fit_zero fit_zero fit_zero) w c0
    rw [c0_ev] at this
    exact this
  refine (tells_calls (symFits _) (symSums_ok hA) hr rfl glob_few (holdsL_append hc hc) hG hT).mono ?_
  rintro e w' ⟨v', rfl, hv, hb'⟩
  exact ⟨by rw [noD_is hv], hb'⟩
end
def PowIs (z : Rat × Rat) (k : Int) (m : Nat) (r : Rat × Rat) : Prop := ∀ w : World, Tryz.prog.globals.size ≤ w.heap.size → Tab w →
  Calls Tryz.prog 34 ⟨[gV z.1 z.2, .int .i64 k]⟩ w fun e w' => e = .returned (cond (Nat.beq m 0) (.tuple ⟨[gV r.1 r.2, .int .i64 0]⟩) (errG m)) ∧ Below w.heap.size w w'
theorem pow_out {z : Rat × Rat} (hz : FitP z) (k : Int) (h1 : -22 ≤ k) (h2 : k ≤ 22) : ∃ m r, (m = 0 ∨ m = 3 ∨ m = 4) ∧ FitP r ∧ (m = 0 → ¬ (z.1 = 0 ∧ z.2 = 0) → r = zp z k) ∧ PowIs z k m r := by
  have f0 : FitP (0, 0) := ⟨fit_zero, fit_zero⟩
  have gen : ∀ (neg : Bool) (n : Nat), n ≤ 22 → (neg = true → 1 ≤ n) → (neg = true → ¬ (z.1 = 0 ∧ z.2 = 0)) → k = powI neg n → zp z k = pw (baseOf neg z) n →
      ∃ m r, (m = 0 ∨ m = 3 ∨ m = 4) ∧ FitP r ∧ (m = 0 → ¬ (z.1 = 0 ∧ z.2 = 0) → r = zp z k) ∧ PowIs z k m r := by
    intro neg n hn hn1 h0 hk hzp
    by_cases hok : PowOK (baseOf neg z) n
    · refine ⟨0, pw (baseOf neg z) n, .inl rfl, hok.2, fun _ _ => hzp.symm, fun w hG hT => ?_⟩
      rw [hk]
      refine (power_any hn hn1 hz h0 hG hT).mono fun e w' hh => ⟨?_, hh.2⟩
      rcases hh.1 with h | h
      · exact h.2
      · exact absurd hok h.1
    · refine ⟨3, (0, 0), .inr (.inl rfl), f0, fun h => (by cases h), fun w hG hT => ?_⟩
      rw [hk]
      refine (power_any hn hn1 hz h0 hG hT).mono fun e w' hh => ⟨?_, hh.2⟩
      rcases hh.1 with h | h
      · exact absurd h.1 hok
      · exact h.2
  by_cases hk : k < 0
  · by_cases h0 : z.1 = 0 ∧ z.2 = 0
    · refine ⟨4, (0, 0), .inr (.inr rfl), f0, fun h => (by cases h), fun w hG hT => ?_⟩
      obtain ⟨n, hn⟩ : ∃ n : Nat, k = powI true (n + 1) := ⟨k.natAbs - 1, by show k = -((k.natAbs - 1 + 1 : Nat) : Int); omega⟩
      have hn2 : n < 22 := by
        have : k = -((n + 1 : Nat) : Int) := hn
        omega
      rw [hn, h0.1, h0.2]
      exact power_zero n hn2 hG hT
    · refine gen true k.natAbs (by omega) (fun _ => by omega) (fun _ => h0) (by show k = -((k.natAbs : Nat) : Int); omega) ?_
      unfold zp
      rw [if_pos hk]; rfl
  · refine gen false k.natAbs (by omega) (fun h => (by cases h)) (fun h => (by cases h)) (by show k = ((k.natAbs : Nat) : Int); omega) ?_
    unfold zp
    rw [if_neg hk]; rfl
structure T3 where
  e : Qe
  m : Nat
  r : Qe × Qe
def T3.ok (ρ : Env) (t : T3) : Prop := PowIs (ρ.q 0, ρ.q 1) (t.e.ev ρ.q).num t.m (t.r.1.ev ρ.q, t.r.2.ev ρ.q)
noncomputable def lookT (T : List T3) (e : Qe) : Option (Nat × (Qe × Qe)) := List.rec (motive := fun _ => Option (Nat × (Qe × Qe))) none (fun x _ ih => cond (e.beq x.e) (some (x.m, x.r)) ih) T
theorem lookT_ok {ρ : Env} {e : Qe} {m : Nat} {r : Qe × Qe} : ∀ {T : List T3}, (∀ t ∈ T, t.ok ρ) → lookT T e = some (m, r) → PowIs (ρ.q 0, ρ.q 1) (e.ev ρ.q).num m (r.1.ev ρ.q, r.2.ev ρ.q)
  | [], _, h => by cases (show (none : Option (Nat × (Qe × Qe))) = some (m, r) from h)
  | x :: T, hT, h => by
    have h' : cond (e.beq x.e) (some (x.m, x.r)) (lookT T e) = some (m, r) := h
    cases hb : e.beq x.e with
    | false =>
      rw [hb] at h'
      exact lookT_ok (fun t ht => hT t (List.mem_cons_of_mem _ ht)) h'
    | true =>
      rw [hb] at h'
      cases h'
      have := hT x List.mem_cons_self
      rw [Qe.beq_ok _ _ hb]
      exact this
noncomputable def getIt : Sy → Option Qe | .it e => some e | _ => none
noncomputable def pmA (T : List T3) (x : Option (Qe × Qe)) (e : Qe) : M Sy Value := match x with
  | none => ret (errG 2)
  | some x => cond (x.1.beq (.v 0) && x.2.beq (.v 1)) (match lookT T e with
    | some t => cond (Nat.beq t.1 0) (bind (newFacts (frs t.2.1 ++ frs t.2.2)) fun vs => ret (.tuple ⟨[.agg ⟨vs⟩, .int .i64 0]⟩)) (ret (errG t.1))
    | none => fail) fail
noncomputable def pmS (T : List T3) (args : List Value) : Option (M Sy Value) := match args with
  | [a, n] => match a with
    | .agg cs => some (bind (gss cs.toList) fun x => bind (knw getIt n) fun e => pmA T x e)
    | _ => none
  | _ => none
theorem loc_pmA (T : List T3) (x : Option (Qe × Qe)) (e : Qe) : Loc (pmA T x e) := by
  unfold pmA
  split
  · exact loc_ret _
  · refine loc_cond ?_ loc_fail
    split
    · exact loc_cond (loc_bind (loc_newFacts _) fun _ => loc_ret _) (loc_ret _)
    · exact loc_fail
section
variable {ρ : Env}
theorem it_of {f : Sy} {e : Qe} {w : World} {v : Value} (hg : getIt f = some e) (h : f.holds ρ w v) : v = .int .i64 (e.ev ρ.q).num := by cases f <;> simp [getIt] at hg; subst hg; exact h
theorem s_power {T : List T3} (hT3 : ∀ t ∈ T, t.ok ρ) : SumF (symSig ρ) Tryz.prog 34 (pmS T) := by
  intro args m e
  unfold pmS at e
  rcases args with _ | ⟨a, _ | ⟨b, _ | ⟨c, l⟩⟩⟩ <;> simp only [reduceCtorEq] at e
  cases a <;> simp only [reduceCtorEq, Option.some.injEq] at e
  rename_i cs
  subst e
  refine ⟨loc_bind (loc_gss _) fun x => loc_bind (loc_knw _ _) fun e => loc_pmA T x e, ?_⟩
  intro h nx v h' nx' R W e r w args' ha hM hN
  cases ha with
  | cons ha1 ha2 =>
  cases ha2 with
  | cons hb1 hb2 =>
  cases hb2
  obtain ⟨cl⟩ := cs
  obtain ⟨cl', rfl, hc⟩ := vr_agg ha1
  obtain ⟨x, h1, nx1, R1, W1, R2, W2, e1, e2, rfl, rfl⟩ := bind_ok e
  obtain ⟨rfl, rfl, rfl, hx⟩ := gss_ok e1 hc hM
  obtain ⟨k, h2, nx2, R3, W3, R4, W4, e3, e4, rfl, rfl⟩ := bind_ok e2
  obtain ⟨rfl, rfl, rfl, f, hf, hk⟩ := knw_ok e3 hb1 hM
  have hki := it_of hf hk
  subst hki
  have hG := mod_G hM rfl
  have hT : Tab w := hM.base
  have key : GoesS ρ 34 [.agg ⟨cl'⟩, .int .i64 (k.ev ρ.q).num] r w nx2 nx' W4 h'.get v := by
    cases x with
    | none =>
      obtain ⟨x1, x2, hb, rfl⟩ := hx
      exact goes_pl (show (ret (errG 2) : M Sy Value) h2 nx2 = .ok v h' nx' R4 W4 from e4) rfl hM (power_bad x1 x2 _ hb hG hT)
    | some x =>
      obtain rfl : cl' = _ := hx
      obtain ⟨hxx, e5⟩ := cond_ok (show cond (x.1.beq (.v 0) && x.2.beq (.v 1)) (match lookT T k with
        | some t => cond (Nat.beq t.1 0) (bind (newFacts (frs t.2.1 ++ frs t.2.2)) fun vs => ret (.tuple ⟨[.agg ⟨vs⟩, .int .i64 0]⟩)) (ret (errG t.1))
        | none => fail) fail h2 nx2 = .ok v h' nx' R4 W4 from e4)
      simp only [Bool.and_eq_true] at hxx
      rw [Qe.beq_ok _ _ hxx.1, Qe.beq_ok _ _ hxx.2]
      cases hl : lookT T k with
      | none => rw [hl] at e5; cases (show (fail : M Sy Value) h2 nx2 = _ from e5)
      | some t =>
        obtain ⟨m, r1⟩ := t
        rw [hl] at e5
        have c := lookT_ok hT3 hl w hG hT
        cases hm : Nat.beq m 0 with
        | true =>
          rw [hm] at c
          have e6 : (bind (newFacts (frs r1.1 ++ frs r1.2)) fun vs => ret (.tuple ⟨[.agg ⟨vs⟩, .int .i64 0]⟩) : M Sy Value) h2 nx2 = .ok v h' nx' R4 W4 := by
            have e7 := e5
            simp only [hm, cond_true] at e7
            exact e7
          exact goes_aggT rfl e6 hM hN (c.mono fun _ w' hh => ⟨_, hh.1, holdsL_append (frs_holds w' r1.1) (frs_holds w' r1.2), hh.2⟩)
        | false =>
          rw [hm] at c
          have e6 : (ret (errG m) : M Sy Value) h2 nx2 = .ok v h' nx' R4 W4 := by
            have e7 := e5
            simp only [hm, cond_false] at e7
            exact e7
          exact goes_pl e6 rfl hM c
  exact key
end
noncomputable def gpC (A : List As) (L : List Nat) (big : Bool) : Cfg Sy := symCfg (iHard A L big)
instance gpHard (A : List As) (L : List Nat) (big : Bool) : HardLoc (gpC A L big) := ⟨loc_iHard A L big⟩
theorem gpFits {ρ : Env} {A : List As} {L : List Nat} {big : Bool} (hA : AllH ρ A) (hL : big = true ↔ 128 < lenSum ρ L) : Fits (symSig ρ) Tryz.prog (gpC A L big) where
  hid := rfl
  G := rfl
  len := symLen_ok ρ
  tab := natFits.tab
  mixed := natFits.mixed
  hard := iHard_ok hA hL rfl
noncomputable def gpSums (B : List Ps) (T : List T3) : Sums Sy := withF [works2, of00] (sumsOf (mkTab [(34, pmS T), (44, gop2 (gans2 B kMul))]))
theorem gpSums_ok {ρ : Env} {B : List Ps} {T : List T3} (hB : AllP ρ B) (hT : ∀ t ∈ T, t.ok ρ) : SumOK (symSig ρ) Tryz.prog (gpSums B T) :=
  withF_ok (fun x hx => by
    simp only [List.mem_cons, List.not_mem_nil, or_false] at hx
    rcases hx with rfl | rfl
    · exact works2_ok
    · exact of00_ok) (sumsOf_ok fun x hx => by
    simp only [List.mem_cons, List.not_mem_nil, or_false] at hx
    rcases hx with rfl | rfl
    · exact s_power hT
    · exact lsum_mul hB)
noncomputable def gpL (a b : Bool) : List Nat := [cond b 5 7, cond b 4 6, cond a 1 3, cond a 0 2]
noncomputable def gprun (A : List As) (B : List Ps) (T : List T3) (a b big : Bool) : Option (D3 Sy) := tells (inp a 0 ++ (inp b 1 ++ [.it (.v 10), .it (.v 11)])) [.agg 6, .one, .one] (call Tryz.prog (gpC A (gpL a b) big) (gpSums B T) 20 9)
noncomputable def gpA : List As := [⟨5, .v 10, .v 12, true⟩, ⟨5, .v 11, .v 13, true⟩, ⟨6, .v 12, .v 13, true⟩]
noncomputable def gpZ (s t : Bool) : List As := [⟨2, .v 0, c0, s⟩, ⟨2, .v 1, c0, t⟩]
noncomputable def gpM : Qe × Qe := kMul (.v 2, .v 3) (.v 4, .v 5)
noncomputable def gpE : List As := eqs [(gpM.1, .v 6), (gpM.2, .v 7)]
noncomputable def gpT (m1 m2 m3 : Nat) : List T3 := [⟨.v 12, m1, (.v 2, .v 3)⟩, ⟨.v 13, m2, (.v 4, .v 5)⟩, ⟨.add (.v 12) (.v 13), m3, (.v 6, .v 7)⟩]
theorem gp_bad : ∀ a b big : Bool, (a && b) = false → gprun gpA [] [] a b big = some yes := by
  intro a b big
  cases a <;> cases b <;> intro h <;> first | (cases h; done) | (cases big <;> kernel_rfl)
noncomputable def mOf (a b : Bool) : Nat := cond a 0 (cond b 3 4)
theorem gp_err (a1 b1 a2 b2 a3 b3 big : Bool) (h : (a1 && (a2 && a3)) = false) : gprun gpA [] (gpT (mOf a1 b1) (mOf a2 b2) (mOf a3 b3)) true true big = some yes := by
  cases a1 <;> cases a2 <;> cases a3 <;> first | (cases h; done) | (cases b1 <;> cases b2 <;> cases b3 <;> cases big <;> kernel_rfl)
theorem gp_zero (big : Bool) : gprun (gpA ++ gpZ true true) [] (gpT 0 0 0) true true big = some yes := by
  cases big <;> kernel_rfl
theorem gp_ok (s t big : Bool) (h : (s && t) = false) : gprun (gpA ++ (gpZ s t ++ gpE)) [pr gpM true] (gpT 0 0 0) true true big = some yes := by
  cases s <;> cases t <;> first | (cases h; done) | (cases big <;> kernel_rfl)
end Ev
end Go.Proofs.YthjofdfnppadnaaGreatDoor
