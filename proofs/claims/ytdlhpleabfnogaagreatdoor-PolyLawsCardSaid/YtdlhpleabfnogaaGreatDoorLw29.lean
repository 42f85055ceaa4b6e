/- Contracts. -/
import Derived.Test.YtdlhpleabfnogaaGreatDoorLw28
import Derived.Test.YtdlhpleabfnogaaGreatDoorLw21
namespace Go.Proofs.YtdlhpleabfnogaaGreatDoor
open Go Go.RowKit
namespace Ev
set_option maxRecDepth 100000
noncomputable def lfF : Nat := 11
noncomputable def lfTm : List Nat := [3, 0, 4]
noncomputable def lfSl (x y : Sl Sy) : List (Sl Sy) := [x, .f (.ls 3 0), y]
noncomputable def lfPre : List (Sl Sy) := lfSl (.p (.slice none 0 0)) (.p (.int .i64 0))
noncomputable def lfCs : List (Sl Sy) := lfSl (.ow (.ol 2 (.v 1) none)) (.f (.ix 2 0))
noncomputable def lfCs' : List (Sl Sy) := lfSl (.ow (.ol 2 (.snoc (.v 1) (.v 2)) none)) (.f (.ix 2 1))
noncomputable def lfPost : List (Sl Sy) := lfSl (.ow (.ol 2 (.v 5) none)) (.f (.ix 6 0))
noncomputable def lfB1 : List Ix := [.ln 0 1, .ln 1 2, .bd 2, .lt 2 0 1 0 true, .lt 2 0 0 10 true, .el 0 2 0 (.v 2)]
set_option maxHeartbeats 4000000 in
theorem lf_round : roundT Tryz.prog (lsCfg false [] lfB1 noJ) (lsCl false [] lfB1 20) 25 20 eqSy lfTm lfCs lfCs' (loopOf lfF 0) = true := by kernel_rfl
noncomputable def lfJ : Jmps := fun f _ => cond (Nat.beq f lfF) (some (jumpM eqSy 25 lfTm lfPre lfPost)) none
noncomputable def poS (B : List Ix) (c d : Nat) : Nat × (List Value → Option (M Sy Value)) := (ofF, fun args => match args with
  | [a] => some (bind (lsArg B a) fun y => cond (isLe y 2 c) (newOw (.ol 0 (.v d) none)) fail)
  | _ => none)
theorem poS_ok {ρ : Env} {B : List Ix} (hB : AllX ρ B) {c d m : Nat} (hq : ∀ q ∈ ρ.lst c, Fit q) (hn : (ρ.lst c).length ≤ 10000) (ht : TrimAt (ρ.lst c) m) (h33 : m ≤ 33) (hd : ρ.lst d = (ρ.lst c).take m) : SumF (symSig ρ) Tryz.prog (poS B c d).1 (poS B c d).2 := by
  intro args k hm
  rcases args with _ | ⟨a, _ | ⟨b, l⟩⟩ <;> first | (cases (show none = some k from hm); done) | skip
  cases hm
  refine ⟨loc_bind (loc_lsArg _ _) fun _ => loc_cond (loc_newOw _) loc_fail, fun h nx v h' nx' R W e r w args' hv hM hN => ?_⟩
  cases hv with
  | cons h1 h2 =>
    cases h2
    obtain ⟨y, g1, nx1, R1, W1, R2, W2, e1, e2, rfl, rfl⟩ := bind_ok e
    obtain ⟨rfl, rfl, rfl, hls⟩ := lsArg_ok hB e1 h1 hM
    obtain ⟨hk, e3⟩ := cond_ok e2
    obtain rfl := isLe_ok hk
    have c0 := polyOf_any w hq hn ht h33 hls hM.fits hM.base
    rw [← hd] at c0
    have := goes_ow (f := ofF) (l := .v d) e3 hM hN c0
    simp only [List.nil_append]
    exact this
noncomputable def lfB0 (p : Bool) : List Ix := cond p [.ln 0 1, .bd 6, .lt 6 0 1 0 true, .lt 6 0 0 10 false] [.ln 0 1, .bd 6, .lt 6 0 1 0 false]
noncomputable def lfSums (B : List Ix) : Sums Sy := sumsOf (mkTab [poS B 5 9])
set_option maxHeartbeats 4000000 in
theorem lf_run (p : Bool) : tells [.ls 3 0] [.one] (call Tryz.prog (lsCfg false [] (lfB0 p) lfJ) (lfSums (lfB0 p)) 20 lfF) = some (.one (.one (.ow (.ol 0 (.v 9) none)))) := by cases p <;> kernel_rfl
theorem lf_one : ∃ fn c, (Tryz.prog).funcs[lfF]? = some fn ∧ fn.body = some c ∧ fn.ntmps = 25 ∧ loopsIn c = [loopOf lfF 0] := ⟨_, _, rfl, rfl, rfl, rfl⟩
def lfQ (qs : List Rat) (k : Nat) : Nat → Rat
  | 2 => qs.getD k 0
  | _ => 0
theorem lfQ_fit {qs : List Rat} (hq : ∀ q ∈ qs, Fit q) (k i : Nat) : Fit (lfQ qs k i) := by
  unfold lfQ
  split
  · exact getD_fit hq _
  · exact fit00
def lfNat (c k : Nat) : Nat → Nat
  | 1 => c
  | 2 => k
  | 6 => min c 10
  | _ => 0
def lfLst (qs : List Rat) (k m : Nat) : Nat → List Rat
  | 0 => qs
  | 1 => qs.take k
  | 5 => qs.take (min qs.length 10)
  | 9 => (qs.take (min qs.length 10)).take m
  | _ => []
def lfEnv (qs : List Rat) (hq : ∀ q ∈ qs, Fit q) (lo k m : Nat) : Env := ⟨lfQ qs k, fun _ => (false, ⟨#[]⟩, ⟨#[]⟩), fun i _ => lfQ_fit hq k i, fun i => (lfQ_fit hq k i).sm.up (by decide), fun _ => bad_zero, lo, lfLst qs k m, lfNat qs.length k, rfl⟩
section
variable {qs : List Rat} (hq : ∀ q ∈ qs, Fit q) (lo : Nat) {m : Nat}
theorem lf_jmp : JmpOK (symSig (lfEnv qs hq lo 0 m)) Tryz.prog 25 (loopOf lfF 0) (jumpM eqSy 25 lfTm lfPre lfPost) := by
  refine @jmp_ok' Sy (symSig (lfEnv qs hq lo 0 m)) Tryz.prog eqSy eqSy_ok 25 (loopOf lfF 0) lfTm lfPre lfCs lfCs' lfPost (min qs.length 10) (fun k => symSig (lfEnv qs hq lo k m)) (fun k => ⟨rfl, rfl, rfl⟩) ?_ rfl rfl rfl ?_ ?_ ?_ ?_
  · intro w vs h
    obtain ⟨v1, l1, rfl, a1, v2, l2, rfl, a2, v3, l3, rfl, a3, rfl⟩ := h
    rw [show v1 = .slice none 0 0 from a1]; rfl
  · intro w vs h
    obtain ⟨v1, l1, rfl, a1, v2, l2, rfl, a2, v3, l3, rfl, a3, rfl⟩ := h
    have h1 : v1 = .slice none 0 0 := a1
    subst h1
    refine ⟨_, _, rfl, ⟨⟨none, 0, 0, rfl, Nat.le_refl _, Nat.le_refl _, rfl, fun _ => rfl, fun _ h => (by cases h)⟩, rfl, fun _ h => (by cases h)⟩, v2, _, rfl, a2, v3, _, rfl, ⟨?_, ?_⟩, rfl⟩
    · rw [show v3 = .int .i64 0 from a3]; rfl
    · rw [show v3 = .int .i64 0 from a3]; rfl
  · intro k hk w vs h
    obtain ⟨v1, l1, rfl, a1, v2, l2, rfl, a2, v3, l3, rfl, a3, rfl⟩ := h
    refine ⟨v1, _, rfl, ⟨?_, a1.2⟩, v2, _, rfl, a2, v3, _, rfl, ⟨?_, a3.2⟩, rfl⟩
    · refine olIs.env (ρ := lfEnv qs hq lo k m) (l' := .v 1) (z' := none) (show olIs _ 2 (.snoc (.v 1) (.v 2)) none w v1 from a1.1) ?_ trivial
      show qs.take (k + 1) = qs.take k ++ [qs.getD k 0]
      rw [List.take_add_one, List.getD_eq_getElem?_getD, List.getElem?_eq_getElem (by omega)]; rfl
    · have h4 : v3 = .int .i64 (((k : Nat) : Int) + 1) := a3.1
      show v3 = .int .i64 (((k + 1 : Nat) : Int) + 0)
      rw [h4]; congr 1
  · intro w vs h
    obtain ⟨v1, l1, rfl, a1, v2, l2, rfl, a2, v3, l3, rfl, a3, rfl⟩ := h
    exact ⟨v1, _, rfl, ⟨olIs.env (ρ := lfEnv qs hq lo (min qs.length 10) m) (l' := .v 5) (z' := none) (show olIs _ 2 (.v 1) none w v1 from a1.1) rfl trivial, a1.2⟩, v2, _, rfl, a2, v3, _, rfl, ⟨a3.1, a3.2⟩, rfl⟩
  · intro k hk ro d B0 D0 a w hAt
    have hA : AllH (lfEnv qs hq lo k m) [] := fun x hx => by simp at hx
    have hB : AllX (lfEnv qs hq lo k m) lfB1 := fun x hx => by
      simp only [lfB1, List.mem_cons, List.not_mem_nil, or_false] at hx
      rcases hx with rfl | rfl | rfl | rfl | rfl | rfl
      · rfl
      · show (qs.take k).length = k
        rw [List.length_take]; omega
      · show k ≤ 10000
        omega
      · show true = true ↔ ((k : Nat) : Int) + 0 < ((qs.length : Nat) : Int) + 0
        exact ⟨fun _ => by omega, fun _ => rfl⟩
      · show true = true ↔ ((k : Nat) : Int) + 0 < ((0 : Nat) : Int) + 10
        exact ⟨fun _ => by omega, fun _ => rfl⟩
      · refine ⟨k, ?_, ?_⟩
        · show ((k : Nat) : Int) = ((k : Nat) : Int) + 0
          omega
        · show qs[k]? = some (qs.getD k 0)
          rw [List.getD_eq_getElem?_getD, List.getElem?_eq_getElem (by omega)]; rfl
    exact round_run (C := lsCfg false _ _ noJ) (call := lsCl false _ _ 20) (fuel := 20) (lsFits hA hB) (lsCl_ok hA hB) rfl (fun y _ m e => by cases e) eqSy_ok lf_round few5 hAt
end
theorem lawOf_any (w : World) {qs : List Rat} (hq : ∀ q ∈ qs, Fit q) {m : Nat} (ht : TrimAt (qs.take (min qs.length 10)) m) {v : Value} (hv : LsIn 3 w v qs) (hG : Tryz.prog.globals.size ≤ w.heap.size) (hT : natSig.base w) :
    Calls Tryz.prog lfF ⟨[v]⟩ w fun e w' => ∃ u, e = .returned u ∧ NewOl 0 w w' u ((qs.take (min qs.length 10)).take m) ∧ Below w.heap.size w w' := by
  have hm := ht.le
  have hln : (qs.take (min qs.length 10)).length = min qs.length 10 := by rw [List.length_take]; omega
  rw [hln] at hm
  have hu : HoldsL (symSig (lfEnv qs hq w.heap.size 0 m)) w [.ls 3 0] [v] := ⟨v, [], rfl, LsIn.ls hv rfl, by obtain ⟨a, m, rfl, _⟩ := hv; rfl, rfl⟩
  have hA : AllH (lfEnv qs hq w.heap.size 0 m) [] := fun x hx => by simp at hx
  have hJ : ∀ B, JmpAll (symSig (lfEnv qs hq w.heap.size 0 m)) Tryz.prog (lsCfg false [] B lfJ) := fun B => by
    refine ⟨fun f x m e ts => ?_, fun f fn c x m hf hb hx e => ?_⟩
    · obtain ⟨_, e2⟩ := condJ' (show cond (Nat.beq f lfF) (some (jumpM eqSy 25 lfTm lfPre lfPost)) none = some m from e)
      cases e2
      exact loc_jumpM _ _ _ _ _
    · obtain ⟨h1, e2⟩ := condJ' (show cond (Nat.beq f lfF) (some (jumpM eqSy 25 lfTm lfPre lfPost)) none = some m from e)
      cases e2
      obtain rfl := Nat.eq_of_beq_eq_true h1
      exact one_jmp lf_one (@lf_jmp qs hq _ _) hf hb hx
  have hS : ∀ B, AllX (lfEnv qs hq w.heap.size 0 m) B → SumOK (symSig (lfEnv qs hq w.heap.size 0 m)) Tryz.prog (lfSums B) := fun B hB => sumsOf_ok fun x hx => by
    obtain rfl := List.mem_singleton.1 hx
    exact poS_ok hB (fun q h => hq q (List.mem_of_mem_take h)) (by
      show (qs.take (min qs.length 10)).length ≤ 10000
      rw [hln]; omega) ht (by omega) rfl
  have c1 : min qs.length 10 ≤ 10000 := by omega
  have post : ∀ {e : Ending} {w' : World}, (∃ v', e = .returned v' ∧ (D3.one (.one (.ow (.ol 0 (.v 9) none))) : D3 Sy).is (symSig (lfEnv qs hq w.heap.size 0 m)) w' v' ∧ Below w.heap.size w w') →
      ∃ u, e = .returned u ∧ NewOl 0 w w' u ((qs.take (min qs.length 10)).take m) ∧ Below w.heap.size w w' := by
    rintro e w' ⟨v', rfl, h1, hb⟩
    exact ⟨v', rfl, newOl_of (ρ := lfEnv qs hq w.heap.size 0 m) rfl h1 rfl (fun p hp => by cases hp), hb⟩
  rcases Nat.lt_or_ge 10 qs.length with h | h
  · have hB : AllX (lfEnv qs hq w.heap.size 0 m) (lfB0 true) := fun x hx => by
      simp only [lfB0, cond_true, List.mem_cons, List.not_mem_nil, or_false] at hx
      rcases hx with rfl | rfl | rfl | rfl
      · rfl
      · exact c1
      · show true = true ↔ ((min qs.length 10 : Nat) : Int) + 0 < ((qs.length : Nat) : Int) + 0
        exact ⟨fun _ => by omega, fun _ => rfl⟩
      · show false = true ↔ ((min qs.length 10 : Nat) : Int) + 0 < ((0 : Nat) : Int) + 10
        exact ⟨fun h => (by cases h), fun h => by omega⟩
    exact (tells_calls (lsFits hA hB) (hS _ hB) (lf_run true) rfl glob_few hu hG hT (Nat.le_refl _) (hJ _)).mono fun e w' h => post h
  · have hB : AllX (lfEnv qs hq w.heap.size 0 m) (lfB0 false) := fun x hx => by
      simp only [lfB0, cond_false, List.mem_cons, List.not_mem_nil, or_false] at hx
      rcases hx with rfl | rfl | rfl
      · rfl
      · exact c1
      · show false = true ↔ ((min qs.length 10 : Nat) : Int) + 0 < ((qs.length : Nat) : Int) + 0
        exact ⟨fun h => (by cases h), fun h => by omega⟩
    exact (tells_calls (lsFits hA hB) (hS _ hB) (lf_run false) rfl glob_few hu hG hT (Nat.le_refl _) (hJ _)).mono fun e w' h => post h
noncomputable def woF : Nat := 10
noncomputable def woS : Nat × (List Value → Option (M Sy Value)) := (woF, fun args => match args with
  | [] => some (ret (.bool true))
  | _ => none)
noncomputable def isTrue (d : Option (D3 Sy)) : Bool := match d with
  | some (.one (.one (.p (.bool b)))) => b
  | _ => false
section
variable {ρ : Env} {B : List Ix}
end
set_option maxHeartbeats 4000000 in
theorem works5_run : runs 60 10 [] = some (.bool true) := by kernel_rfl
theorem int_fit {q : Rat} (h : q.den = 1) (h0 : -9223372036854775808 ≤ q.num) (h1 : q.num ≤ 9223372036854775807) : Fit q := by
  have hb : By 8 (ofQ q.num 1) := ofQ_by (by omega) (by decide) (by decide)
  have := hb.fit (by omega)
  rwa [ofQ_one h] at this
theorem woS_ok {ρ : Env} : SumF (symSig ρ) Tryz.prog woS.1 woS.2 := by
  intro args k hm
  rcases args with _ | ⟨a, l⟩ <;> first | (cases (show none = some k from hm); done) | skip
  cases hm
  refine ⟨loc_ret _, fun h nx v h' nx' R W e r w args' hv hM hN => ?_⟩
  cases hv
  exact goes_pl (f := woF) e rfl hM (runs_calls works5_run rfl hM.fits hM.base)
theorem isTrue_ok {d : Option (D3 Sy)} (h : isTrue d = true) : d = some (.one (.one (.p (.bool true)))) := by
  unfold isTrue at h
  split at h
  · subst h; rfl
  · cases h
def oneQ (q : Rat) : Nat → Rat
  | 1 => q
  | _ => 0
theorem oneQ_fit {q : Rat} (h : Fit q) (i : Nat) : Fit (oneQ q i) := by
  unfold oneQ
  split
  · exact h
  · exact fit00
def oneEnv (q : Rat) (h : Fit q) (lo : Nat) : Env := ⟨oneQ q, fun _ => (false, ⟨#[]⟩, ⟨#[]⟩), fun i _ => oneQ_fit h i, fun i => (oneQ_fit h i).sm.up (by decide), fun _ => bad_zero, lo, fun _ => [], fun _ => 0, rfl⟩
theorem dr_any (w : World) {i : Nat} (hi : i ≤ 40) {q : Rat} (hq : Fit q) {v : Value} (hv : NumIn w v q) (hG : Tryz.prog.globals.size ≤ w.heap.size) (hT : natSig.base w) :
    Calls Tryz.prog drF ⟨[.int .i64 (i : Int), v]⟩ w fun e w' => ∃ u, e = .returned u ∧ NumIn w' u (q * wq (i + 1)) ∧ Below w.heap.size w w' := by
  have hr := isNum_ok (List.all_eq_true.1 dr_runs i (List.mem_range.2 (by omega)))
  obtain ⟨us, rfl, hus⟩ := num_holds (e := .v 1) (ρ := oneEnv q hq w.heap.size) hv
  obtain ⟨a, l1, rfl, g1, o1, b, l2, rfl, g2, o2, c, l3, rfl, g3, o3, rfl⟩ := hus
  have hA : AllH (oneEnv q hq w.heap.size) [] := fun x hx => by simp at hx
  have hB : AllX (oneEnv q hq w.heap.size) [] := fun x hx => by simp at hx
  refine (tells_calls (lsFits hA hB) drSums_ok hr rfl glob_few (us := [a, b, c]) ⟨_, _, rfl, g1, o1, _, _, rfl, g2, o2, _, _, rfl, g3, o3, rfl⟩ hG hT (Nat.le_refl _) (.none rfl)).mono ?_
  rintro e w' ⟨v', rfl, ⟨vs, rfl, a2, l4, rfl, h1, b2, l5, rfl, h2, c2, l6, rfl, h3, rfl⟩, hb⟩
  refine ⟨_, rfl, ⟨b2, c2, ?_, h2, h3⟩, hb⟩
  have h1' : a2 = .bool (Big.ng (q * wq (i + 1))) := h1
  rw [h1']
noncomputable def drS : Nat × (List Value → Option (M Sy Value)) := (drF, fun args => match args with
  | [i, c] => some (bind (ixV i) fun p => bind (numV c) fun x => cond (Nat.beq p.1 4 && (eqI p.2 0 && x.beq (.v 2))) (newNum (.mul (.v 2) (.v 3))) fail)
  | _ => none)
theorem drS_ok {ρ : Env} (hi : ρ.nat 4 ≤ 40) (h2 : Fit (ρ.q 2)) (h3 : ρ.q 3 = wq (ρ.nat 4 + 1)) : SumF (symSig ρ) Tryz.prog drS.1 drS.2 := by
  intro args m e
  rcases args with _ | ⟨i, _ | ⟨c, _ | ⟨d, l⟩⟩⟩ <;> first | (cases (show none = some m from e); done) | skip
  cases e
  refine ⟨loc_bind (loc_ixV _) fun p => loc_bind (loc_numV _) fun x => loc_cond (loc_newNum _) loc_fail, fun h nx v h' nx' R W e r w args' ha hM hN => ?_⟩
  cases ha with
  | cons k1 ha => cases ha with
    | cons k2 ha =>
      cases ha
      obtain ⟨p, g1, nx1, R1, W1, R2, W2, e1, e2, rfl, rfl⟩ := bind_ok e
      obtain ⟨rfl, rfl, rfl, hp⟩ := ixV_ok e1 k1 hM
      obtain ⟨x, g3, nx3, R3, W3, R4, W4, e3, e4, rfl, rfl⟩ := bind_ok e2
      obtain ⟨rfl, rfl, rfl, hx⟩ := numV_ok e3 k2 hM
      obtain ⟨hk, e5⟩ := cond_ok e4
      simp only [Bool.and_eq_true] at hk
      rw [Nat.eq_of_beq_eq_true hk.1, eqI_ok hk.2.1] at hp
      rw [Qe.beq_ok _ _ hk.2.2] at hx
      have hp2 : atIx ρ 4 0 = ((ρ.nat 4 : Nat) : Int) := by unfold atIx; omega
      rw [hp2] at hp
      subst hp
      have hx' : NumIn w _ (ρ.q 2) := hx
      have := goes_agg (f := drF) e5 hM hN ((dr_any w hi h2 hx' hM.fits hM.base).mono fun en w' hh => by
        obtain ⟨u, rfl, hu, hb⟩ := hh
        rw [← h3] at hu
        obtain ⟨us, rfl, hus⟩ := num_holds (e := .mul (.v 2) (.v 3)) (ρ := ρ) hu
        exact ⟨us, rfl, hus, hb⟩)
      simp only [List.nil_append]
      exact this
noncomputable def deF : Nat := 66
noncomputable def eaF : Nat := 119
noncomputable def deT : List Nat := [5, 1, 11, 12, 13]
noncomputable def deS (l : Le) (i : Sl Sy) : List (Sl Sy) := [.ow (.ol 1 l (some (5, 0))), .p (.func (.func 120) #[] #[]), .f (.ls 1 3), .f (.ix 5 0), i]
noncomputable def deB1 : List Ix := [.ln 3 5, .ln 1 4, .bd 4, .lt 4 0 5 0 true, .el 3 4 0 (.v 2)]
noncomputable def deSums (A : List As) : Sums Sy := sumsOf (mkTab (drS :: symList A))
noncomputable def deCl (B : List Ix) (n : Nat) : Cl Sy := ⟨callY Tryz.prog (lsCfg false [] B noJ) (deSums []) n, [], fun _ => none⟩
set_option maxHeartbeats 4000000 in
theorem de_round : roundT Tryz.prog (lsCfg false [] deB1 noJ) (deCl deB1 20) 28 20 eqSy deT (deS (.v 1) (.f (.ix 4 0))) (deS (.snoc (.v 1) (.mul (.v 2) (.v 3))) (.f (.ix 4 1))) (loopOf eaF 0) = true := by kernel_rfl
noncomputable def deJ : Jmps := fun f x => cond (Nat.beq f eaF) (some (jumpM eqSy 28 deT (deS .nil (.p (.int .i64 0))) (deS (.v 8) (.f (.ix 5 0))))) (tqJ f x)
noncomputable def deB0 (p : Bool) : List Ix := .ln 0 1 :: .lt 1 0 0 0 false :: .lt 0 0 1 0 true :: .tl 0 3 :: .ln 3 5 :: .lt 5 0 0 0 false :: tqB0 p
set_option maxHeartbeats 4000000 in
theorem de_run (p s : Bool) : tells [.ls 1 0] [.one] (call Tryz.prog (lsCfg false (tqA0 p s) (deB0 p) deJ) (lsSumsW (tqA0 p s)) 20 deF) = some (.one (.one (.ow (.ol 1 (.take (.v 8) 6 0) none)))) := by cases p <;> cases s <;> kernel_rfl
set_option maxHeartbeats 4000000 in
theorem de_run0 : tells [.ls 1 0] [.one] (call Tryz.prog (lsCfg false [] [.ln 0 1, .lt 1 0 0 0 false, .lt 0 0 1 0 false] noJ) (lsSumsW []) 20 deF) = some (.one (.one (.p (.slice none 0 0)))) := by kernel_rfl
theorem ea_one : ∃ fn c, (Tryz.prog).funcs[eaF]? = some fn ∧ fn.body = some c ∧ fn.ntmps = 28 ∧ loopsIn c = [loopOf eaF 0] := ⟨_, _, rfl, rfl, rfl, rfl⟩
def dv (p : List Rat) : List Rat := (List.range (p.length - 1)).map fun i => p.getD (i + 1) 0 * wq (i + 1)
theorem dv_len (p : List Rat) : (dv p).length = p.length - 1 := by simp [dv]
theorem dv_get {p : List Rat} {i : Nat} (h : i < p.length - 1) : (dv p)[i]? = some (p.getD (i + 1) 0 * wq (i + 1)) := by
  unfold dv
  rw [List.getElem?_map, List.getElem?_range h]; rfl
theorem wq_fit {i : Nat} (h : i ≤ 1000000) : Fit (wq i) := by
  rw [wq_is]
  have hn : (((i : Int) : Rat)).num = (i : Int) := Rat.num_intCast _
  exact int_fit (Rat.den_intCast _) (by rw [hn]; omega) (by rw [hn]; omega)
structure DeFit (p : List Rat) : Prop where
  fp : ∀ x ∈ p, Fit x
  fs : ∀ x ∈ dv p, Fit x
def deQ (p : List Rat) (i m : Nat) : Nat → Rat
  | 2 => p.getD (i + 1) 0
  | 3 => wq (min i 40 + 1)
  | 4 => (dv p).getD (m - 1) 0
  | _ => 0
theorem deQ_fit {p : List Rat} (h : DeFit p) (i m n : Nat) : Fit (deQ p i m n) := by
  unfold deQ
  split
  · exact getD_fit h.fp _
  · exact wq_fit (by omega)
  · exact getD_fit h.fs _
  · exact fit00
def deNat (a i m : Nat) : Nat → Nat
  | 1 => a
  | 4 => i
  | 5 => a - 1
  | 6 => m
  | _ => 0
def deLst (p : List Rat) (i : Nat) : Nat → List Rat
  | 0 => p
  | 3 => p.tail
  | 1 => (dv p).take i
  | 8 => dv p
  | _ => []
def deEnv (p : List Rat) (h : DeFit p) (lo i m : Nat) : Env := ⟨deQ p i m, fun _ => (false, ⟨#[]⟩, ⟨#[]⟩), fun n _ => deQ_fit h i m n, fun n => (deQ_fit h i m n).sm.up (by decide), fun _ => bad_zero, lo, deLst p i, deNat p.length i m, rfl⟩
section
variable {p : List Rat} (hf : DeFit p) (lo : Nat) {m : Nat}
theorem de_jmp (hp9 : p.length ≤ 33) : JmpOK (symSig (deEnv p hf lo 0 m)) Tryz.prog 28 (loopOf eaF 0) (jumpM eqSy 28 deT (deS .nil (.p (.int .i64 0))) (deS (.v 8) (.f (.ix 5 0)))) := by
  have hlen := dv_len p
  refine @jmp_ok Sy (symSig (deEnv p hf lo 0 m)) Tryz.prog eqSy eqSy_ok 28 (loopOf eaF 0) deT (deS .nil (.p (.int .i64 0))) (deS (.v 1) (.f (.ix 4 0))) (deS (.snoc (.v 1) (.mul (.v 2) (.v 3))) (.f (.ix 4 1))) (deS (.v 8) (.f (.ix 5 0))) (p.length - 1) (fun i => symSig (deEnv p hf lo i m)) (fun k => sig_same _ _ (show lo = lo from rfl)) rfl rfl rfl rfl ?_ ?_ ?_ ?_
  · intro w vs h
    obtain ⟨v1, l1, rfl, a1, v2, l2, rfl, a2, v3, l3, rfl, a3, v4, l4, rfl, a4, v5, l5, rfl, a5, rfl⟩ := h
    refine ⟨v1, _, rfl, ⟨?_, a1.2⟩, v2, _, rfl, a2, v3, _, rfl, a3, v4, _, rfl, a4, v5, _, rfl, ⟨?_, ?_⟩, rfl⟩
    · exact olIs.env (l' := .v 1) (z' := some (5, 0)) (show olIs _ 1 .nil (some (5, 0)) w v1 from a1.1) rfl rfl
    · rw [show v5 = .int .i64 0 from a5]; rfl
    · rw [show v5 = .int .i64 0 from a5]; rfl
  · intro i hi w vs h
    obtain ⟨v1, l1, rfl, a1, v2, l2, rfl, a2, v3, l3, rfl, a3, v4, l4, rfl, a4, v5, l5, rfl, a5, rfl⟩ := h
    refine ⟨v1, _, rfl, ⟨?_, a1.2⟩, v2, _, rfl, a2, v3, _, rfl, a3, v4, _, rfl, a4, v5, _, rfl, ⟨?_, a5.2⟩, rfl⟩
    · refine olIs.env (ρ := deEnv p hf lo i m) (l' := .v 1) (z' := some (5, 0)) (show olIs _ 1 (.snoc (.v 1) (.mul (.v 2) (.v 3))) (some (5, 0)) w v1 from a1.1) ?_ rfl
      show (dv p).take (i + 1) = (dv p).take i ++ [p.getD (i + 1) 0 * wq (min i 40 + 1)]
      rw [List.take_add_one, dv_get hi, show min i 40 = i by omega]; rfl
    · have h5 : v5 = .int .i64 (((i : Nat) : Int) + 1) := a5.1
      show v5 = .int .i64 (((i + 1 : Nat) : Int) + 0)
      rw [h5]; congr 1
  · intro w vs h
    obtain ⟨v1, l1, rfl, a1, v2, l2, rfl, a2, v3, l3, rfl, a3, v4, l4, rfl, a4, v5, l5, rfl, a5, rfl⟩ := h
    refine ⟨v1, _, rfl, ⟨?_, a1.2⟩, v2, _, rfl, a2, v3, _, rfl, a3, v4, _, rfl, a4, v5, _, rfl, ⟨a5.1, a5.2⟩, rfl⟩
    refine olIs.env (ρ := deEnv p hf lo (p.length - 1) m) (l' := .v 8) (z' := some (5, 0)) (show olIs _ 1 (.v 1) (some (5, 0)) w v1 from a1.1) ?_ rfl
    show dv p = (dv p).take (p.length - 1)
    rw [List.take_of_length_le (by omega)]
  · intro i hi ro d B0 D0 a w hAt
    have hB : AllX (deEnv p hf lo i m) deB1 := by
      intro x hx
      simp only [deB1, List.mem_cons, List.not_mem_nil, or_false] at hx
      rcases hx with rfl | rfl | rfl | rfl | rfl
      · show p.tail.length = p.length - 1
        rw [List.length_tail]
      · show ((dv p).take i).length = i
        rw [List.length_take]; omega
      · show i ≤ 10000
        omega
      · show true = true ↔ ((i : Nat) : Int) + 0 < ((p.length - 1 : Nat) : Int) + 0
        exact ⟨fun _ => by omega, fun _ => rfl⟩
      · refine ⟨i, ?_, ?_⟩
        · show ((i : Nat) : Int) = ((i : Nat) : Int) + 0
          omega
        · show p.tail[i]? = some (p.getD (i + 1) 0)
          rw [List.getElem?_tail, List.getD_eq_getElem?_getD, List.getElem?_eq_getElem (by omega)]; rfl
    have hA : AllH (deEnv p hf lo i m) [] := fun x hx => by simp at hx
    have hS : SumOK (symSig (deEnv p hf lo i m)) Tryz.prog (deSums []) := sumsOf_ok fun x hx => by
      rcases List.mem_cons.1 hx with rfl | hx
      · exact drS_ok (ρ := deEnv p hf lo i m) (show i ≤ 40 by omega) (deQ_fit hf i m 2) (show wq (min i 40 + 1) = wq (i + 1) by rw [show min i 40 = i by omega])
      · exact symList_ok hA x hx
    have hC : ClOK (symSig (deEnv p hf lo i m)) Tryz.prog (deCl deB1 20) :=
      have h := callY_ok (C := lsCfg false [] deB1 noJ) (lsFits hA hB) (.none rfl) hS 20
      ⟨⟨h.1, by intro x hx; simp [deCl] at hx, fun x m e => (by cases e)⟩, h.2⟩
    exact round_run (C := lsCfg false [] deB1 noJ) (call := deCl deB1 20) (fuel := 20) (lsFits hA hB) hC rfl (fun y _ m e => by cases e) eqSy_ok de_round few5 hAt
theorem de_all {A : List As} {B : List Ix} (hm : TrimAt (dv p) m) (hp9 : p.length ≤ 33) : JmpAll (symSig (deEnv p hf lo 0 m)) Tryz.prog (lsCfg false A B deJ) := by
  have hlen := dv_len p
  refine ⟨fun f x m e ts => ?_, fun f fn c x m2 ht hb hx e => ?_⟩
  · rcases condJ (show cond (Nat.beq f eaF) (some (jumpM eqSy 28 deT (deS .nil (.p (.int .i64 0))) (deS (.v 8) (.f (.ix 5 0))))) (tqJ f x) = some m from e) with ⟨_, rfl⟩ | ⟨_, e2⟩
    · exact loc_jumpM _ _ _ _ _
    · rcases condJ (show cond (Nat.beq f trF) (some (jumpM eqSy 22 trTm (tqSl (.ix 5 0)) (tqSl (.ix 6 0)))) none = some m from e2) with ⟨_, rfl⟩ | ⟨_, e3⟩
      · exact loc_jumpM _ _ _ _ _
      · cases e3
  · rcases condJ (show cond (Nat.beq f eaF) (some (jumpM eqSy 28 deT (deS .nil (.p (.int .i64 0))) (deS (.v 8) (.f (.ix 5 0))))) (tqJ f x) = some m2 from e) with ⟨h1, rfl⟩ | ⟨_, e2⟩
    · obtain rfl := Nat.eq_of_beq_eq_true h1
      exact one_jmp ea_one (@de_jmp p hf lo m hp9) ht hb hx
    · rcases condJ (show cond (Nat.beq f trF) (some (jumpM eqSy 22 trTm (tqSl (.ix 5 0)) (tqSl (.ix 6 0)))) none = some m2 from e2) with ⟨h1, rfl⟩ | ⟨_, e3⟩
      · obtain rfl := Nat.eq_of_beq_eq_true h1
        exact one_jmp tr_one' (@tq_jmp (deEnv p hf lo 0 m) m hm (show p.length - 1 = (dv p).length from hlen.symm) rfl (show (dv p).length ≤ 9000 by omega)) ht hb hx
      · cases e3
end
theorem derE_any (w : World) {p : List Rat} (hf : DeFit p) {m : Nat} (hm : TrimAt (dv p) m) (hp9 : p.length ≤ 33) {u : Value} (hu : LsIn 1 w u p) (hG : Tryz.prog.globals.size ≤ w.heap.size) (hT : natSig.base w) :
    Calls Tryz.prog deF ⟨[u]⟩ w fun e w' => ∃ x, e = .returned x ∧ NewOl 1 w w' x ((dv p).take m) ∧ Below w.heap.size w w' := by
  have hlen := dv_len p
  have hh : HoldsL (symSig (deEnv p hf w.heap.size 0 m)) w [.ls 1 0] [u] := ⟨u, _, rfl, LsIn.ls hu rfl, by obtain ⟨a, m, rfl, _⟩ := hu; rfl, rfl⟩
  have c1 : false = true ↔ ((p.length : Nat) : Int) + 0 < ((0 : Nat) : Int) + 0 := ⟨fun h => (by cases h), fun h => by omega⟩
  rcases Nat.eq_zero_or_pos p.length with h0 | h0
  · have hA : AllH (deEnv p hf w.heap.size 0 m) [] := fun x hx => by simp at hx
    have hB : AllX (deEnv p hf w.heap.size 0 m) [.ln 0 1, .lt 1 0 0 0 false, .lt 0 0 1 0 false] := by
      intro x hx
      simp only [List.mem_cons, List.not_mem_nil, or_false] at hx
      rcases hx with rfl | rfl | rfl
      · rfl
      · exact c1
      · show false = true ↔ ((0 : Nat) : Int) + 0 < ((p.length : Nat) : Int) + 0
        exact ⟨fun h => (by cases h), fun h => by omega⟩
    refine (tells_calls (lsFits hA hB) (lsSumsW_ok hA) de_run0 rfl glob_few hh hG hT (Nat.le_refl _) (.none rfl)).mono ?_
    rintro e w' ⟨v', rfl, h1, hb⟩
    have h1' : v' = .slice none 0 0 := h1
    subst h1'
    refine ⟨_, rfl, ?_, hb⟩
    have hnil : dv p = [] := List.length_eq_zero_iff.1 (by omega)
    rw [hnil, List.take_nil]
    exact newOl_nil
  · obtain ⟨t, ht⟩ : ∃ b : Bool, b = true ↔ 0 < m := ⟨decide (0 < m), by rw [decide_eq_true_iff]⟩
    have hA : AllH (deEnv p hf w.heap.size 0 m) (tqA0 t (Big.ng ((deEnv p hf w.heap.size 0 m).q 4))) := tq_A0 (E := deEnv p hf w.heap.size 0 m) (m := m) hm rfl ht
    have hB : AllX (deEnv p hf w.heap.size 0 m) (deB0 t) := by
      intro x hx
      simp only [deB0, List.mem_cons] at hx
      rcases hx with rfl | rfl | rfl | rfl | rfl | rfl | hx
      · rfl
      · exact c1
      · show true = true ↔ ((0 : Nat) : Int) + 0 < ((p.length : Nat) : Int) + 0
        exact ⟨fun _ => by omega, fun _ => rfl⟩
      · exact ⟨fun q => by rw [show p = [] from q] at h0; simp at h0, rfl⟩
      · show p.tail.length = p.length - 1
        rw [List.length_tail]
      · show false = true ↔ ((p.length - 1 : Nat) : Int) + 0 < ((0 : Nat) : Int) + 0
        exact ⟨fun h => (by cases h), fun h => by omega⟩
      · exact tq_B0 (E := deEnv p hf w.heap.size 0 m) hm rfl (show p.length - 1 = (dv p).length from hlen.symm) rfl (show (dv p).length ≤ 9000 by omega) ht x hx
    refine (tells_calls (lsFits hA hB) (lsSumsW_ok hA) (de_run t _) rfl glob_few hh hG hT (Nat.le_refl _) (de_all hf w.heap.size hm hp9)).mono ?_
    rintro e w' ⟨v', rfl, h1, hb⟩
    exact ⟨v', rfl, newOl_of (ρ := deEnv p hf w.heap.size 0 m) rfl h1 (by
      show (dv p).take (((m : Nat) : Int) + 0).toNat = _
      rfl) (fun p hp => by cases hp), hb⟩
noncomputable def atF : Nat := 37
def atE (n : Nat) : Nat → Qe
  | 0 => .c false 0 1
  | k + 1 => .add (.mul (atE n k) (.v 9)) (.v (10 + (n - (k + 1))))
def atRow (n k : Nat) : List Ix := cond (Nat.blt k n) [.lt 1 (-((k : Int) + 1)) 0 0 false, .el 0 1 (-((k : Int) + 1)) (.v (10 + (n - (k + 1))))] [.lt 1 (-((k : Int) + 1)) 0 0 true]
def atRows (n : Nat) : Nat → List Ix
  | 0 => []
  | k + 1 => atRow n k ++ atRows n k
def atB (n : Nat) : List Ix := .ln 0 1 :: .bd 1 :: atRows n (n + 1)
noncomputable def atRun (n : Nat) : Option (D3 Sy) := tells [.ls 1 0, .ng (.v 9), .nu (.v 9), .de (.v 9)] [.one, .agg 3] (call Tryz.prog (lsCfg false [] (atB n) noJ) (lsSumsW []) 60 atF)
set_option maxHeartbeats 4000000 in
theorem at_runs : (List.range 21).all (fun n => isNum (atE n n) (atRun n)) = true := by kernel_rfl
def atQ (p : List Rat) (x : Rat) (i : Nat) : Rat := if i = 9 then x else p.getD (i - 10) 0
theorem atQ_fit {p : List Rat} {x : Rat} (hp : ∀ y ∈ p, Fit y) (hx : Fit x) (i : Nat) : Fit (atQ p x i) := by
  unfold atQ
  split
  · exact hx
  · exact getD_fit hp _
def atNat (a : Nat) : Nat → Nat
  | 1 => a
  | _ => 0
def atLst (p : List Rat) : Nat → List Rat
  | 0 => p
  | _ => []
def atEnv (p : List Rat) (x : Rat) (hp : ∀ y ∈ p, Fit y) (hx : Fit x) (lo : Nat) : Env := ⟨atQ p x, fun _ => (false, ⟨#[]⟩, ⟨#[]⟩), fun i _ => atQ_fit hp hx i, fun i => (atQ_fit hp hx i).sm.up (by decide), fun _ => bad_zero, lo, atLst p, atNat p.length, rfl⟩
theorem atE_ev (p : List Rat) (x : Rat) : ∀ k, k ≤ p.length → (atE p.length k).ev (atQ p x) = evL x (p.drop (p.length - k))
  | 0, _ => by
    rw [Nat.sub_zero, List.drop_length]; rfl
  | k + 1, h => by
    have ih := atE_ev p x k (by omega)
    show (atE p.length k).ev (atQ p x) * atQ p x 9 + atQ p x (10 + (p.length - (k + 1))) = _
    rw [ih]
    have h1 : p.drop (p.length - (k + 1)) = p.getD (p.length - (k + 1)) 0 :: p.drop (p.length - k) := by
      rw [List.drop_eq_getElem_cons (by omega), show p.length - (k + 1) + 1 = p.length - k by omega, List.getD_eq_getElem?_getD, List.getElem?_eq_getElem (by omega)]; rfl
    rw [h1]
    show _ = evL x (p.drop (p.length - k)) * x + p.getD (p.length - (k + 1)) 0
    have h2 : atQ p x 9 = x := rfl
    have h3 : atQ p x (10 + (p.length - (k + 1))) = p.getD (p.length - (k + 1)) 0 := by
      unfold atQ
      rw [if_neg (by omega)]
      congr 1; omega
    rw [h2, h3]
theorem atE_any (w : World) {p : List Rat} {x : Rat} (hp : ∀ y ∈ p, Fit y) (hx : Fit x) (hl : p.length ≤ 20) {u v : Value} (hu : LsIn 1 w u p) (hv : NumIn w v x) (hG : Tryz.prog.globals.size ≤ w.heap.size) (hT : natSig.base w) :
    Calls Tryz.prog atF ⟨[u, v]⟩ w fun e w' => ∃ y, e = .returned y ∧ NumIn w' y (evL x p) ∧ Below w.heap.size w w' := by
  have hr := isNum_ok (List.all_eq_true.1 at_runs p.length (List.mem_range.2 (by omega)))
  obtain ⟨us, rfl, hus⟩ := num_holds (e := .v 9) (ρ := atEnv p x hp hx w.heap.size) hv
  obtain ⟨a, l1, rfl, g1, o1, b, l2, rfl, g2, o2, c, l3, rfl, g3, o3, rfl⟩ := hus
  have hA : AllH (atEnv p x hp hx w.heap.size) [] := fun x hx => by simp at hx
  have rows : ∀ k, k ≤ p.length + 1 → ∀ y ∈ atRows p.length k, y.holds (atEnv p x hp hx w.heap.size) := by
    intro k
    induction k with
    | zero => intro _ y hy; simp [atRows] at hy
    | succ k ih =>
      intro hk y hy
      unfold atRows at hy
      rcases List.mem_append.1 hy with hy | hy
      · unfold atRow at hy
        cases hb : Nat.blt k p.length with
        | true =>
          have hkl : k < p.length := Nat.le_of_ble_eq_true hb
          rw [hb] at hy
          simp only [cond_true, List.mem_cons, List.not_mem_nil, or_false] at hy
          rcases hy with rfl | rfl
          · show false = true ↔ ((p.length : Nat) : Int) + (-((k : Int) + 1)) < ((0 : Nat) : Int) + 0
            exact ⟨fun h => (by cases h), fun h => by omega⟩
          · refine ⟨p.length - (k + 1), ?_, ?_⟩
            · show ((p.length - (k + 1) : Nat) : Int) = ((p.length : Nat) : Int) + (-((k : Int) + 1))
              omega
            · show p[p.length - (k + 1)]? = some (atQ p x (10 + (p.length - (k + 1))))
              unfold atQ
              rw [if_neg (by omega), show 10 + (p.length - (k + 1)) - 10 = p.length - (k + 1) by omega, List.getD_eq_getElem?_getD, List.getElem?_eq_getElem (by omega)]; rfl
        | false =>
          have hkl : ¬ k < p.length := fun h => by
            have : Nat.blt k p.length = true := Nat.ble_eq_true_of_le h
            rw [hb] at this; cases this
          rw [hb] at hy
          simp only [cond_false, List.mem_cons, List.not_mem_nil, or_false] at hy
          subst hy
          show true = true ↔ ((p.length : Nat) : Int) + (-((k : Int) + 1)) < ((0 : Nat) : Int) + 0
          exact ⟨fun _ => by omega, fun _ => rfl⟩
      · exact ih (by omega) y hy
  have hB : AllX (atEnv p x hp hx w.heap.size) (atB p.length) := by
    intro y hy
    simp only [atB, List.mem_cons] at hy
    rcases hy with rfl | rfl | hy
    · rfl
    · show p.length ≤ 10000
      omega
    · exact rows _ (Nat.le_refl _) y hy
  refine (tells_calls (lsFits hA hB) (lsSumsW_ok hA) hr rfl glob_few (us := [u, a, b, c]) ⟨_, _, rfl, LsIn.ls hu rfl, by obtain ⟨a, m, rfl, _⟩ := hu; rfl, _, _, rfl, g1, o1, _, _, rfl, g2, o2, _, _, rfl, g3, o3, rfl⟩ hG hT (Nat.le_refl _) (.none rfl)).mono ?_
  rintro e w' ⟨v', rfl, ⟨vs, rfl, a2, l4, rfl, h1, b2, l5, rfl, h2, c2, l6, rfl, h3, rfl⟩, hb⟩
  have hev : (atE p.length p.length).ev (atQ p x) = evL x p := by
    rw [atE_ev p x _ (Nat.le_refl _), Nat.sub_self, List.drop_zero]
  have h1' : a2 = .bool (Big.ng ((atE p.length p.length).ev (atQ p x))) := h1
  have h2' : NatIn w' b2 (Big.nu ((atE p.length p.length).ev (atQ p x))) := h2
  have h3' : NatIn w' c2 (Big.de ((atE p.length p.length).ev (atQ p x))) := h3
  rw [hev] at h1' h2' h3'
  exact ⟨_, rfl, ⟨b2, c2, by rw [h1'], h2', h3'⟩, hb⟩
noncomputable def vOf (K : Nat) (y : Nat × Le) : Option Nat := match y.2 with
  | .v c => cond (Nat.beq y.1 K) (some c) none
  | _ => none
theorem vOf_ok {K c : Nat} {y : Nat × Le} (h : vOf K y = some c) : y = (K, .v c) := by
  obtain ⟨a, l⟩ := y
  cases l <;> first | (cases (show none = some c from h); done) | skip
  rename_i d
  have h' : cond (Nat.beq a K) (some d) none = some c := h
  cases hb : Nat.beq a K with
  | false => rw [hb] at h'; cases h'
  | true =>
    rw [hb] at h'
    cases h'
    rw [Nat.eq_of_beq_eq_true hb]
abbrev Tri3 := List (Nat × Nat × Nat)
noncomputable def findL (L : Tri3) (c d : Nat) : Option Nat := List.rec (motive := fun _ => Option Nat) none (fun x _ ih => cond (Nat.beq x.1 c && Nat.beq x.2.1 d) (some x.2.2) ih) L
theorem findL_ok {c d e : Nat} : ∀ {L : Tri3}, findL L c d = some e → (c, d, e) ∈ L
  | [], h => by cases h
  | x :: L, h => by
    obtain ⟨a, b, g⟩ := x
    have h' : cond (Nat.beq a c && Nat.beq b d) (some g) (findL L c d) = some e := h
    cases hb : (Nat.beq a c && Nat.beq b d) with
    | false => rw [hb] at h'; exact List.mem_cons_of_mem _ (findL_ok h')
    | true =>
      rw [hb] at h'
      cases h'
      simp only [Bool.and_eq_true] at hb
      rw [Nat.eq_of_beq_eq_true hb.1, Nat.eq_of_beq_eq_true hb.2]
      exact List.mem_cons_self
noncomputable def unA (B : List Ix) (K : Nat) (L : Tri3) (k : Nat → M Sy Value) (args : List Value) : Option (M Sy Value) := match args with
  | [a] => some (bind (lsArg B a) fun y => match vOf K y with
    | some c => match findL L c 0 with
      | some e => k e
      | none => fail
    | none => fail)
  | _ => none
noncomputable def biA (B : List Ix) (K : Nat) (L : Tri3) (k : Nat → M Sy Value) (args : List Value) : Option (M Sy Value) := match args with
  | [a, b] => some (bind (lsArg B a) fun y => bind (lsArg B b) fun z => match vOf K y with
    | some c => match vOf K z with
      | some d => match findL L c d with
        | some e => k e
        | none => fail
      | none => fail
    | none => fail)
  | _ => none
noncomputable def giveO (K : Nat) (e : Nat) : M Sy Value := newOw (.ol K (.v e) none)
noncomputable def giveT (K : Nat) (u : Value) (e : Nat) : M Sy Value := bind (newOw (.ol K (.v e) none)) fun x => ret (.tuple ⟨[x, u]⟩)
theorem loc_giveO (K e : Nat) : Loc (giveO K e) := loc_newOw _
theorem loc_giveT (K : Nat) (u : Value) (e : Nat) : Loc (giveT K u e) := loc_bind (loc_newOw _) fun _ => loc_ret _
section
variable {ρ : Env} {B : List Ix}
def UnOK (ρ : Env) (f : FuncId) (K : Nat) (L : Tri3) (Q : Nat → World → Ending → World → Prop) : Prop := ∀ c e, (c, 0, e) ∈ L → ∀ (w : World) (v : Value), LsIn K w v (ρ.lst c) → Tryz.prog.globals.size ≤ w.heap.size → natSig.base w → Calls Tryz.prog f ⟨[v]⟩ w fun en w' => Q e w en w' ∧ Below w.heap.size w w'
def BiOK (ρ : Env) (f : FuncId) (K : Nat) (L : Tri3) (Q : Nat → World → Ending → World → Prop) : Prop := ∀ c d e, (c, d, e) ∈ L → ∀ (w : World) (v u : Value), LsIn K w v (ρ.lst c) → LsIn K w u (ρ.lst d) → Tryz.prog.globals.size ≤ w.heap.size → natSig.base w → Calls Tryz.prog f ⟨[v, u]⟩ w fun en w' => Q e w en w' ∧ Below w.heap.size w w'
def QO (ρ : Env) (K : Nat) (e : Nat) (w : World) (en : Ending) (w' : World) : Prop := ∃ u, en = .returned u ∧ NewOl K w w' u (ρ.lst e)
def QT (ρ : Env) (K : Nat) (u2 : Value) (e : Nat) (w : World) (en : Ending) (w' : World) : Prop := ∃ u, en = .returned (.tuple ⟨[u, u2]⟩) ∧ NewOl K w w' u (ρ.lst e)
theorem giveO_ok {K e : Nat} {f : FuncId} {args' : List Value} {h h' : Tr (Blk Sy)} {nx nx' : Nat} {R W : List Nat} {r : Ren} {w : World} {v : Value} (e1 : giveO K e h nx = .ok v h' nx' R W) (hM : Mod (symSig ρ) r h.get w) (hN : New r nx nx')
    (c : Calls Tryz.prog f ⟨args'⟩ w fun en w' => QO ρ K e w en w' ∧ Below w.heap.size w w') : Calls Tryz.prog f ⟨args'⟩ w fun e w' => ∃ v' r', e = .returned v' ∧ VR r' v v' ∧ Ext (symSig ρ) r w nx nx' W h'.get r' w' :=
  goes_ow (l := .v e) e1 hM hN (c.mono fun en w' hh => by
    obtain ⟨⟨u, q1, q2⟩, q3⟩ := hh
    exact ⟨u, q1, q2, q3⟩)
theorem giveT_ok {K e : Nat} {u2 : Value} (hp : plain u2 = true) {f : FuncId} {args' : List Value} {h h' : Tr (Blk Sy)} {nx nx' : Nat} {R W : List Nat} {r : Ren} {w : World} {v : Value} (e1 : giveT K u2 e h nx = .ok v h' nx' R W) (hM : Mod (symSig ρ) r h.get w) (hN : New r nx nx')
    (c : Calls Tryz.prog f ⟨args'⟩ w fun en w' => QT ρ K u2 e w en w' ∧ Below w.heap.size w w') : Calls Tryz.prog f ⟨args'⟩ w fun e w' => ∃ v' r', e = .returned v' ∧ VR r' v v' ∧ Ext (symSig ρ) r w nx nx' W h'.get r' w' :=
  goes_owT (l := .v e) hp e1 hM hN (c.mono fun en w' hh => by
    obtain ⟨⟨u, q1, q2⟩, q3⟩ := hh
    exact ⟨u, q1, q2, q3⟩)
theorem unA_ok (hB : AllX ρ B) {f : FuncId} {K : Nat} {L : Tri3} {k : Nat → M Sy Value} {Q : Nat → World → Ending → World → Prop} (hl : ∀ e, Loc (k e)) (hf : UnOK ρ f K L Q)
    (hk : ∀ e (args' : List Value) (h : Tr (Blk Sy)) nx v h' nx' R W r w, k e h nx = .ok v h' nx' R W → Mod (symSig ρ) r h.get w → New r nx nx' → (Calls Tryz.prog f ⟨args'⟩ w fun en w' => Q e w en w' ∧ Below w.heap.size w w') →
      Calls Tryz.prog f ⟨args'⟩ w fun e w' => ∃ v' r', e = .returned v' ∧ VR r' v v' ∧ Ext (symSig ρ) r w nx nx' W h'.get r' w') : SumF (symSig ρ) Tryz.prog f (unA B K L k) := by
  intro args m hm
  rcases args with _ | ⟨a, _ | ⟨b, l⟩⟩ <;> first | (cases (show none = some m from hm); done) | skip
  cases hm
  refine ⟨loc_bind (loc_lsArg _ _) fun y => ?_, fun h nx v h' nx' R W e r w args' hv hM hN => ?_⟩
  · (repeat' split) <;> first | exact loc_fail | exact hl _
  cases hv with
  | cons h1 h2 =>
    cases h2
    obtain ⟨y, g1, nx1, R1, W1, R2, W2, e1, e2, rfl, rfl⟩ := bind_ok e
    obtain ⟨rfl, rfl, rfl, hls⟩ := lsArg_ok hB e1 h1 hM
    cases hy : vOf K y with
    | none => rw [hy] at e2; cases (show (fail : M Sy Value) _ _ = _ from e2)
    | some c =>
      rw [hy] at e2; simp only at e2
      cases hc : findL L c 0 with
      | none => rw [hc] at e2; cases (show (fail : M Sy Value) _ _ = _ from e2)
      | some d =>
        rw [hc] at e2
        obtain rfl := vOf_ok hy
        have := hk d _ _ _ _ _ _ _ _ _ _ e2 hM hN (hf c d (findL_ok hc) w _ hls hM.fits hM.base)
        simp only [List.nil_append]
        exact this
theorem biA_ok (hB : AllX ρ B) {f : FuncId} {K : Nat} {L : Tri3} {k : Nat → M Sy Value} {Q : Nat → World → Ending → World → Prop} (hl : ∀ e, Loc (k e)) (hf : BiOK ρ f K L Q)
    (hk : ∀ e (args' : List Value) (h : Tr (Blk Sy)) nx v h' nx' R W r w, k e h nx = .ok v h' nx' R W → Mod (symSig ρ) r h.get w → New r nx nx' → (Calls Tryz.prog f ⟨args'⟩ w fun en w' => Q e w en w' ∧ Below w.heap.size w w') →
      Calls Tryz.prog f ⟨args'⟩ w fun e w' => ∃ v' r', e = .returned v' ∧ VR r' v v' ∧ Ext (symSig ρ) r w nx nx' W h'.get r' w') : SumF (symSig ρ) Tryz.prog f (biA B K L k) := by
  intro args m hm
  rcases args with _ | ⟨a, _ | ⟨b, _ | ⟨z, l⟩⟩⟩ <;> first | (cases (show none = some m from hm); done) | skip
  cases hm
  refine ⟨loc_bind (loc_lsArg _ _) fun y => loc_bind (loc_lsArg _ _) fun z => ?_, fun h nx v h' nx' R W e r w args' hv hM hN => ?_⟩
  · (repeat' split) <;> first | exact loc_fail | exact hl _
  cases hv with
  | cons h1 hv => cases hv with
    | cons h2 h3 =>
      cases h3
      obtain ⟨y, g1, nx1, R1, W1, R2, W2, e1, e2, rfl, rfl⟩ := bind_ok e
      obtain ⟨rfl, rfl, rfl, hls⟩ := lsArg_ok hB e1 h1 hM
      obtain ⟨z, g3, nx3, R3, W3, R4, W4, e3, e4, rfl, rfl⟩ := bind_ok e2
      obtain ⟨rfl, rfl, rfl, hls2⟩ := lsArg_ok hB e3 h2 hM
      cases hy : vOf K y with
      | none => rw [hy] at e4; cases (show (fail : M Sy Value) _ _ = _ from e4)
      | some c =>
        rw [hy] at e4; simp only at e4
        cases hz : vOf K z with
        | none => rw [hz] at e4; cases (show (fail : M Sy Value) _ _ = _ from e4)
        | some d =>
          rw [hz] at e4; simp only at e4
          cases hc : findL L c d with
          | none => rw [hc] at e4; cases (show (fail : M Sy Value) _ _ = _ from e4)
          | some g =>
            rw [hc] at e4
            obtain rfl := vOf_ok hy
            obtain rfl := vOf_ok hz
            have := hk g _ _ _ _ _ _ _ _ _ _ e4 hM hN (hf c d g (findL_ok hc) w _ _ hls hls2 hM.fits hM.base)
            simp only [List.nil_append]
            exact this
end
section
variable {ρ : Env}
theorem rpU {L : Tri3} (h : ∀ c e, (c, 0, e) ∈ L → ρ.lst e = ρ.lst c ∧ PolyOK (ρ.lst c) ∧ (ρ.lst c).length ≤ 33) : UnOK ρ rpF 0 L (QT ρ 1 (.bool true)) := fun c e hm w v hv hG hT => by
  obtain ⟨h1, h2, h3⟩ := h c e hm
  refine (readPoly_any w h2 h3 hv hG hT).mono ?_
  rintro en w' ⟨u, q1, q2, q3, q4⟩
  refine ⟨⟨u, q1, ?_⟩, q4⟩
  rw [h1]
  exact ⟨q2, q3⟩
theorem ppU {L : Tri3} (h : ∀ c e, (c, 0, e) ∈ L → ρ.lst e = ρ.lst c ∧ (∀ q ∈ ρ.lst c, Fit q) ∧ (ρ.lst c).length ≤ 33) : UnOK ρ ppF 1 L (QT ρ 0 (.bool true)) := fun c e hm w v hv hG hT => by
  obtain ⟨h1, h2, h3⟩ := h c e hm
  refine (polyPoly_any w h2 h3 hv hG hT).mono ?_
  rintro en w' ⟨u, q1, q2, q4⟩
  refine ⟨⟨u, q1, ?_⟩, q4⟩
  rw [h1]
  exact q2
end
noncomputable def rpG (B : List Ix) (L : Tri3) : Nat × (List Value → Option (M Sy Value)) := (rpF, unA B 0 L (giveT 1 (.bool true)))
noncomputable def ppG (B : List Ix) (L : Tri3) : Nat × (List Value → Option (M Sy Value)) := (ppF, unA B 1 L (giveT 0 (.bool true)))
theorem rpG_ok {ρ : Env} {B : List Ix} {L : Tri3} (hB : AllX ρ B) (h : ∀ c e, (c, 0, e) ∈ L → ρ.lst e = ρ.lst c ∧ PolyOK (ρ.lst c) ∧ (ρ.lst c).length ≤ 33) : SumF (symSig ρ) Tryz.prog (rpG B L).1 (rpG B L).2 :=
  unA_ok hB (loc_giveT _ _) (rpU h) fun _ _ _ _ _ _ _ _ _ _ _ e hM hN c => giveT_ok rfl e hM hN c
theorem ppG_ok {ρ : Env} {B : List Ix} {L : Tri3} (hB : AllX ρ B) (h : ∀ c e, (c, 0, e) ∈ L → ρ.lst e = ρ.lst c ∧ (∀ q ∈ ρ.lst c, Fit q) ∧ (ρ.lst c).length ≤ 33) : SumF (symSig ρ) Tryz.prog (ppG B L).1 (ppG B L).2 :=
  unA_ok hB (loc_giveT _ _) (ppU h) fun _ _ _ _ _ _ _ _ _ _ _ e hM hN c => giveT_ok rfl e hM hN c
def l3Nat (a b : Nat) : Nat → Nat
  | 1 => a
  | 2 => b
  | 5 => a + b
  | _ => 0
def l3Lst (p q r : List Rat) : Nat → List Rat
  | 0 => p
  | 3 => q
  | 5 => r
  | _ => []
def l3Q (x y : Rat) : Nat → Rat
  | 6 => y
  | 9 => x
  | _ => 0
theorem l3Q_fit {x y : Rat} (hx : Fit x) (hy : Fit y) (i : Nat) : Fit (l3Q x y i) := by
  unfold l3Q
  split
  · exact hy
  · exact hx
  · exact fit00
def l3Env (p q r : List Rat) (x y : Rat) (hx : Fit x) (hy : Fit y) (lo : Nat) : Env := ⟨l3Q x y, fun _ => (false, ⟨#[]⟩, ⟨#[]⟩), fun i _ => l3Q_fit hx hy i, fun i => (l3Q_fit hx hy i).sm.up (by decide), fun _ => bad_zero, lo, l3Lst p q r, l3Nat p.length q.length, rfl⟩
noncomputable def lmF : Nat := 14
noncomputable def laF : Nat := 13
noncomputable def lsF : Nat := 15
noncomputable def pAF : Nat := 17
noncomputable def lmB : List Ix := [.ln 0 1, .ln 3 2, .bi 0 1 0 2 0 5 0, .bd 5, .lt 0 33 5 (-1) false]
noncomputable def lmSums : Sums Sy := sumsOf (mkTab [rpG lmB [(0, 0, 0), (3, 0, 3)], (pmF, biA lmB 1 [(0, 3, 5)] (giveO 1)), ppG lmB [(5, 0, 5)]])
set_option maxHeartbeats 4000000 in
theorem lm_run : tells [.ls 0 0, .ls 0 3] [.one, .one] (call Tryz.prog (lsCfg true [] lmB noJ) lmSums 20 lmF) = some (.one (.one (.ow (.ol 0 (.v 5) none)))) := by kernel_rfl
noncomputable def laSums : Sums Sy := sumsOf (mkTab [rpG [] [(0, 0, 0), (3, 0, 3)], (paF, biA [] 1 [(0, 3, 5)] (giveO 1)), ppG [] [(5, 0, 5)]])
set_option maxHeartbeats 4000000 in
theorem la_run : tells [.ls 0 0, .ls 0 3] [.one, .one] (call Tryz.prog (lsCfg true [] [] noJ) laSums 20 laF) = some (.one (.one (.ow (.ol 0 (.v 5) none)))) := by kernel_rfl
noncomputable def lsSumsD : Sums Sy := sumsOf (mkTab [rpG [] [(0, 0, 0)], (deF, unA [] 1 [(0, 0, 5)] (giveO 1)), ppG [] [(5, 0, 5)]])
set_option maxHeartbeats 4000000 in
theorem ls_run : tells [.ls 0 0] [.one] (call Tryz.prog (lsCfg true [] [] noJ) lsSumsD 20 lsF) = some (.one (.one (.ow (.ol 0 (.v 5) none)))) := by kernel_rfl
noncomputable def atS : Nat × (List Value → Option (M Sy Value)) := (atF, fun args => match args with
  | [a, c] => some (bind (lsArg [] a) fun y => bind (numV c) fun x => match vOf 1 y with
    | some d => cond (Nat.beq d 0 && x.beq (.v 9)) (newNum (.v 6)) fail
    | none => fail)
  | _ => none)
noncomputable def pASums : Sums Sy := sumsOf (mkTab (rpG [] [(0, 0, 0)] :: atS :: symList []))
set_option maxHeartbeats 4000000 in
theorem pA_run : tells [.ls 0 0, .ng (.v 9), .fn (.v 9), .fd (.v 9)] [.one, .agg 3] (call Tryz.prog (lsCfg true [] [] noJ) pASums 20 pAF) = some (.tuple [.agg [.f (.ng (.v 6)), .f (.fn (.v 6)), .f (.fd (.v 6))], .one (.p (.int .i64 0))]) := by kernel_rfl
theorem two_mem {c d e a b g : Nat} (h : (c, d, e) ∈ [((a, b, g) : Nat × Nat × Nat)]) : c = a ∧ d = b ∧ e = g := by
  simpa using h
theorem lmul_any (w : World) {p q : List Rat} (hp : PolyOK p) (hq : PolyOK q) (hl : p.length + q.length ≤ 34) (hp9 : p.length ≤ 33) (hq9 : q.length ≤ 33) (hf : PmFit p q) {u v : Value} (hu : LsIn 0 w u p) (hv : LsIn 0 w v q) (hG : Tryz.prog.globals.size ≤ w.heap.size) (hT : natSig.base w) :
    Calls Tryz.prog lmF ⟨[u, v]⟩ w fun e w' => ∃ x, e = .returned x ∧ NewOl 0 w w' x (pd p q) ∧ Below w.heap.size w w' := by
  let E := l3Env p q (pd p q) 0 0 fit00 fit00 w.heap.size
  have hh : HoldsL (symSig E) w [.ls 0 0, .ls 0 3] [u, v] := ⟨u, _, rfl, LsIn.ls hu rfl, by obtain ⟨a, m, rfl, _⟩ := hu; rfl, v, _, rfl, LsIn.ls hv rfl, by obtain ⟨a, m, rfl, _⟩ := hv; rfl, rfl⟩
  have hA : AllH E [] := fun x hx => by simp at hx
  have hB : AllX E lmB := by
    intro x hx
    simp only [lmB, List.mem_cons, List.not_mem_nil, or_false] at hx
    rcases hx with rfl | rfl | rfl | rfl | rfl
    · rfl
    · rfl
    · show (((p.length : Nat) : Int) + 0) + (((q.length : Nat) : Int) + 0) = ((p.length + q.length : Nat) : Int) + 0 ∧ p.length + q.length ≤ 10000
      exact ⟨by omega, by omega⟩
    · show p.length + q.length ≤ 10000
      omega
    · show false = true ↔ ((0 : Nat) : Int) + 33 < ((p.length + q.length : Nat) : Int) + (-1)
      exact ⟨fun h => (by cases h), fun h => by omega⟩
  have hpd : (pd p q).length ≤ 33 := by
    rcases Nat.eq_zero_or_pos p.length with h | h
    · rw [pd_none (.inl h)]; simp
    · rcases Nat.eq_zero_or_pos q.length with h' | h'
      · rw [pd_none (.inr h')]; simp
      · rw [pd_len h h']; omega
  have hpf : ∀ x ∈ pd p q, Fit x := fun x hx => by
    unfold pd at hx
    obtain ⟨i, _, rfl⟩ := List.mem_map.1 hx
    exact hf.fs _ _ (Nat.le_refl _)
  have hS : SumOK (symSig E) Tryz.prog lmSums := sumsOf_ok fun x hx => by
    simp only [List.mem_cons, List.not_mem_nil, or_false] at hx
    rcases hx with rfl | rfl | rfl
    · refine rpG_ok hB fun c e hm => ?_
      simp only [List.mem_cons, List.not_mem_nil, or_false, Prod.mk.injEq, true_and] at hm
      rcases hm with ⟨rfl, rfl⟩ | ⟨rfl, rfl⟩
      · exact ⟨rfl, hp, hp9⟩
      · exact ⟨rfl, hq, hq9⟩
    · refine biA_ok hB (loc_giveO _) (Q := QO E 1) (fun c d e hm w v u hv hu hG hT => ?_) fun _ _ _ _ _ _ _ _ _ _ _ e hM hN c => giveO_ok e hM hN c
      obtain ⟨rfl, rfl, rfl⟩ := two_mem hm
      refine (mulE_any w hf (by omega) (by omega) hv hu hG hT).mono ?_
      rintro en w' ⟨x, q1, q2, q3⟩
      exact ⟨⟨x, q1, q2⟩, q3⟩
    · refine ppG_ok hB fun c e hm => ?_
      obtain ⟨rfl, _, rfl⟩ := two_mem hm
      exact ⟨rfl, hpf, hpd⟩
  refine (tells_calls (lsFits hA hB) hS lm_run rfl glob_few hh hG hT (Nat.le_refl _) (.none rfl)).mono ?_
  rintro e w' ⟨v', rfl, h1, hb⟩
  exact ⟨v', rfl, newOl_of (ρ := E) rfl h1 rfl (fun p hp => by cases hp), hb⟩
theorem ladd_any (w : World) {p q : List Rat} (hp : PolyOK p) (hq : PolyOK q) (hp9 : p.length ≤ 33) (hq9 : q.length ≤ 33) (hf : PaFit p q) {m : Nat} (hm : TrimAt (pa p q) m) {u v : Value} (hu : LsIn 0 w u p) (hv : LsIn 0 w v q) (hG : Tryz.prog.globals.size ≤ w.heap.size) (hT : natSig.base w) :
    Calls Tryz.prog laF ⟨[u, v]⟩ w fun e w' => ∃ x, e = .returned x ∧ NewOl 0 w w' x ((pa p q).take m) ∧ Below w.heap.size w w' := by
  let E := l3Env p q ((pa p q).take m) 0 0 fit00 fit00 w.heap.size
  have hh : HoldsL (symSig E) w [.ls 0 0, .ls 0 3] [u, v] := ⟨u, _, rfl, LsIn.ls hu rfl, by obtain ⟨a, m, rfl, _⟩ := hu; rfl, v, _, rfl, LsIn.ls hv rfl, by obtain ⟨a, m, rfl, _⟩ := hv; rfl, rfl⟩
  have hA : AllH E [] := fun x hx => by simp at hx
  have hB : AllX E [] := fun x hx => by simp at hx
  have hS : SumOK (symSig E) Tryz.prog laSums := sumsOf_ok fun x hx => by
    simp only [List.mem_cons, List.not_mem_nil, or_false] at hx
    rcases hx with rfl | rfl | rfl
    · refine rpG_ok hB fun c e hm => ?_
      simp only [List.mem_cons, List.not_mem_nil, or_false, Prod.mk.injEq, true_and] at hm
      rcases hm with ⟨rfl, rfl⟩ | ⟨rfl, rfl⟩
      · exact ⟨rfl, hp, hp9⟩
      · exact ⟨rfl, hq, hq9⟩
    · refine biA_ok hB (loc_giveO _) (Q := QO E 1) (fun c d e hm2 w v u hv hu hG hT => ?_) fun _ _ _ _ _ _ _ _ _ _ _ e hM hN c => giveO_ok e hM hN c
      obtain ⟨rfl, rfl, rfl⟩ := two_mem hm2
      refine (addE_any w hf hm (by omega) (by omega) hv hu hG hT).mono ?_
      rintro en w' ⟨x, q1, q2, q3⟩
      exact ⟨⟨x, q1, q2⟩, q3⟩
    · refine ppG_ok hB fun c e hm2 => ?_
      obtain ⟨rfl, _, rfl⟩ := two_mem hm2
      exact ⟨rfl, fun x hx => hf.fs x (List.mem_of_mem_take hx), by
        show ((pa p q).take m).length ≤ 33
        rw [List.length_take, pa_len]; omega⟩
  refine (tells_calls (lsFits hA hB) hS la_run rfl glob_few hh hG hT (Nat.le_refl _) (.none rfl)).mono ?_
  rintro e w' ⟨v', rfl, h1, hb⟩
  exact ⟨v', rfl, newOl_of (ρ := E) rfl h1 rfl (fun p hp => by cases hp), hb⟩
theorem lslope_any (w : World) {p : List Rat} (hp : PolyOK p) (hp9 : p.length ≤ 33) (hf : DeFit p) {m : Nat} (hm : TrimAt (dv p) m) {u : Value} (hu : LsIn 0 w u p) (hG : Tryz.prog.globals.size ≤ w.heap.size) (hT : natSig.base w) :
    Calls Tryz.prog lsF ⟨[u]⟩ w fun e w' => ∃ x, e = .returned x ∧ NewOl 0 w w' x ((dv p).take m) ∧ Below w.heap.size w w' := by
  let E := l3Env p [] ((dv p).take m) 0 0 fit00 fit00 w.heap.size
  have hh : HoldsL (symSig E) w [.ls 0 0] [u] := ⟨u, _, rfl, LsIn.ls hu rfl, by obtain ⟨a, m, rfl, _⟩ := hu; rfl, rfl⟩
  have hA : AllH E [] := fun x hx => by simp at hx
  have hB : AllX E [] := fun x hx => by simp at hx
  have hS : SumOK (symSig E) Tryz.prog lsSumsD := sumsOf_ok fun x hx => by
    simp only [List.mem_cons, List.not_mem_nil, or_false] at hx
    rcases hx with rfl | rfl | rfl
    · refine rpG_ok hB fun c e hm2 => ?_
      obtain ⟨rfl, _, rfl⟩ := two_mem hm2
      exact ⟨rfl, hp, hp9⟩
    · refine unA_ok hB (loc_giveO _) (Q := QO E 1) (fun c e hm2 w v hv hG hT => ?_) fun _ _ _ _ _ _ _ _ _ _ _ e hM hN c => giveO_ok e hM hN c
      obtain ⟨rfl, _, rfl⟩ := two_mem hm2
      refine (derE_any w hf hm hp9 hv hG hT).mono ?_
      rintro en w' ⟨x, q1, q2, q3⟩
      exact ⟨⟨x, q1, q2⟩, q3⟩
    · refine ppG_ok hB fun c e hm2 => ?_
      obtain ⟨rfl, _, rfl⟩ := two_mem hm2
      exact ⟨rfl, fun x hx => hf.fs x (List.mem_of_mem_take hx), by
        show ((dv p).take m).length ≤ 33
        rw [List.length_take, dv_len]; omega⟩
  refine (tells_calls (lsFits hA hB) hS ls_run rfl glob_few hh hG hT (Nat.le_refl _) (.none rfl)).mono ?_
  rintro e w' ⟨v', rfl, h1, hb⟩
  exact ⟨v', rfl, newOl_of (ρ := E) rfl h1 rfl (fun p hp => by cases hp), hb⟩
theorem atS_ok {ρ : Env} (hp : ∀ y ∈ ρ.lst 0, Fit y) (hl : (ρ.lst 0).length ≤ 20) (hx : Fit (ρ.q 9)) (h6 : ρ.q 6 = evL (ρ.q 9) (ρ.lst 0)) : SumF (symSig ρ) Tryz.prog atS.1 atS.2 := by
  intro args m hm
  rcases args with _ | ⟨a, _ | ⟨b, _ | ⟨z, l⟩⟩⟩ <;> first | (cases (show none = some m from hm); done) | skip
  cases hm
  refine ⟨loc_bind (loc_lsArg _ _) fun y => loc_bind (loc_numV _) fun x => ?_, fun h nx v h' nx' R W e r w args' hv hM hN => ?_⟩
  · split
    · exact loc_cond (loc_newNum _) loc_fail
    · exact loc_fail
  cases hv with
  | cons h1 hv => cases hv with
    | cons h2 h3 =>
      cases h3
      obtain ⟨y, g1, nx1, R1, W1, R2, W2, e1, e2, rfl, rfl⟩ := bind_ok e
      obtain ⟨rfl, rfl, rfl, hls⟩ := lsArg_ok (ρ := ρ) (fun x hx => by simp at hx) e1 h1 hM
      obtain ⟨x, g3, nx3, R3, W3, R4, W4, e3, e4, rfl, rfl⟩ := bind_ok e2
      obtain ⟨rfl, rfl, rfl, hxv⟩ := numV_ok e3 h2 hM
      cases hy : vOf 1 y with
      | none => rw [hy] at e4; cases (show (fail : M Sy Value) _ _ = _ from e4)
      | some d =>
        rw [hy] at e4
        obtain ⟨hk, e5⟩ := cond_ok e4
        simp only [Bool.and_eq_true] at hk
        obtain rfl := vOf_ok hy
        obtain rfl := Nat.eq_of_beq_eq_true hk.1
        rw [Qe.beq_ok _ _ hk.2] at hxv
        have := goes_agg (f := atF) e5 hM hN ((atE_any w hp hx hl hls (show NumIn w _ (ρ.q 9) from hxv) hM.fits hM.base).mono fun en w' hh => by
          obtain ⟨u, rfl, hu, hb⟩ := hh
          rw [← h6] at hu
          obtain ⟨us, rfl, hus⟩ := num_holds (e := .v 6) (ρ := ρ) hu
          exact ⟨us, rfl, hus, hb⟩)
        simp only [List.nil_append]
        exact this
end Ev
end Go.Proofs.YtdlhpleabfnogaaGreatDoor
