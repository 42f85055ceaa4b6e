/- Contracts, in this order: poly.Of: what comes of a list of whole numbers. (INCL=Lists) · The law's of: its loop's round, its run. (INCL=Lists) · The law's of: the contract. (INCL=Lists) · PolyTurns: the law's run. (INCL=Lists) · PolyTurns: the summaries of the law's calls. (INCL=Lists) · diapasonlaw05.works: closed. · PolyTurns: the law holds of any list and number. (INCL=Lists · A handed-in list of int8, as a list of values. (INCL=Lists) · The row's last steps: a call that only makes new memory. · Handed-in lists of int8, opened and shut; a call that keeps  · PolyTurns, of a handed-in list of int8 and an int. (INCL=Lis · The row's last steps: a call that only makes new memory; the · What the listed variables give; the start that meets them. · The plain wrap with the listed variables and the world's sha · The facts of a row, each by the kernel on its own. · What is the same for all cards of this seat: the program's m · Whether the row goes by what it lists. -/
import Derived.Test.YtdlhpleabfnogaaGreatDoorLu28
import Derived.Test.YtdlhpleabfnogaaGreatDoorLu21
import Derived.ChangeSlices
import Derived.Test.YtdlhpleabfnogaaGreatDoorRows
import Derived.Test.YtdlhpleabfnogaaGreatDoorChecked
import Derived.WalkKit
import Derived.ProofKit
import Derived.OpenShut
import Derived.ChangeSame
import Derived.ChangeVars
import Derived.JoinedOf
import Derived.Stop.Joined
import Derived.HandedShaped
import Derived.Test.YtdlhpleabfnogaaGreatDoorLu18
import Derived.LaidMore
import Derived.Lib.LaidTab
import Derived.SizedLaws
import Derived.Shelf.Vars
import Derived.Test.YtdlhpleabfnogaaGreatDoorCards
import Derived.SevenTiedAt
namespace Go.Proofs.YtdlhpleabfnogaaGreatDoor
open Go Go.RowKit
namespace Ev
set_option maxRecDepth 100000
theorem polyOf_any (w : World) {qs : List Rat} (hq : ∀ q ∈ qs, Fit q) (hn : qs.length ≤ 10000) {m : Nat} (ht : TrimAt qs m) (h33 : m ≤ 33) {v : Value} (hv : LsIn 2 w v qs) (hG : Tryz.prog.globals.size ≤ w.heap.size) (hT : natSig.base w) :
    Calls Tryz.prog ofF ⟨[v]⟩ w fun e w' => ∃ u, e = .returned u ∧ NewOl 0 w w' u (qs.take m) ∧ Below w.heap.size w w' := by
  have hm := ht.le
  have hu : HoldsL (symSig (ofEnv qs hq w.heap.size 0 0 m)) w [.ls 2 0] [v] := ⟨v, [], rfl, LsIn.ls hv rfl, by obtain ⟨a, m, rfl, _⟩ := hv; rfl, rfl⟩
  have post : ∀ {e : Ending} {w' : World}, (∃ v', e = .returned v' ∧ (D3.one (.one (.ow (.ol 0 (.v 5) (some (6, 0))))) : D3 Sy).is (symSig (ofEnv qs hq w.heap.size 0 0 m)) w' v' ∧ Below w.heap.size w w') →
      ∃ u, e = .returned u ∧ NewOl 0 w w' u (qs.take m) ∧ Below w.heap.size w w' := by
    rintro e w' ⟨v', rfl, h1, hb⟩
    exact ⟨v', rfl, newOl_of (ρ := ofEnv qs hq w.heap.size 0 0 m) rfl h1 rfl (fun p hp => by
      cases hp
      show (((qs.take m).length : Nat) : Int) = ((m : Nat) : Int) + 0
      rw [List.length_take]; omega), hb⟩
  have c1 : m ≤ 10000 := by omega
  have c2 : false = true ↔ ((0 : Nat) : Int) + 33 < ((m : Nat) : Int) + 0 := ⟨fun h => (by cases h), fun h => by omega⟩
  rcases Nat.eq_zero_or_pos m with h0 | h0
  · have hA : AllH (ofEnv qs hq w.heap.size 0 0 m) (ofA0 false) := fun x hx => by simp [ofA0] at hx
    have hB : AllX (ofEnv qs hq w.heap.size 0 0 m) (ofB0 false) := fun x hx => by
      simp only [ofB0, cond_false, List.mem_cons, List.not_mem_nil, or_false] at hx
      rcases hx with rfl | rfl | rfl | rfl
      · rfl
      · exact c1
      · exact c2
      · show false = true ↔ ((0 : Nat) : Int) + 0 < ((m : Nat) : Int) + 0
        exact ⟨fun h => (by cases h), fun h => by omega⟩
    exact (tells_calls (lsFits hA hB) (ofSums_ok hA) (of_run false) rfl glob_few hu hG hT (Nat.le_refl _) (of_all hq w.heap.size hn ht)).mono fun e w' h => post h
  · have hA : AllH (ofEnv qs hq w.heap.size 0 0 m) (ofA0 true) := fun x hx => by
      simp only [ofA0, cond_true, List.mem_cons, List.not_mem_nil, or_false] at hx
      subst hx
      show false = true ↔ qs.getD (m - 1) 0 = 0
      exact ⟨fun h => (by cases h), fun h => absurd h (ht.last h0)⟩
    have hB : AllX (ofEnv qs hq w.heap.size 0 0 m) (ofB0 true) := fun x hx => by
      simp only [ofB0, cond_true, List.mem_cons, List.not_mem_nil, or_false] at hx
      rcases hx with rfl | rfl | rfl | rfl | rfl | rfl | rfl
      · rfl
      · exact c1
      · exact c2
      · show true = true ↔ ((0 : Nat) : Int) + 0 < ((m : Nat) : Int) + 0
        exact ⟨fun _ => by omega, fun _ => rfl⟩
      · show false = true ↔ ((m : Nat) : Int) + (-1) < ((0 : Nat) : Int) + 0
        exact ⟨fun h => (by cases h), fun h => by omega⟩
      · show true = true ↔ ((m : Nat) : Int) + (-1) < ((qs.length : Nat) : Int) + 0
        exact ⟨fun _ => by omega, fun _ => rfl⟩
      · refine ⟨m - 1, ?_, ?_⟩
        · show ((m - 1 : Nat) : Int) = ((m : Nat) : Int) + (-1)
          omega
        · show qs[m - 1]? = some (qs.getD (m - 1) 0)
          rw [List.getD_eq_getElem?_getD, List.getElem?_eq_getElem (by omega)]; rfl
    exact (tells_calls (lsFits hA hB) (ofSums_ok hA) (of_run true) rfl glob_few hu hG hT (Nat.le_refl _) (of_all hq w.heap.size hn ht)).mono fun e w' h => post h
end Ev
end Go.Proofs.YtdlhpleabfnogaaGreatDoor
namespace Go.Proofs.YtdlhpleabfnogaaGreatDoor
open Go Go.RowKit
namespace Ev
set_option maxRecDepth 100000
noncomputable def lfF : Nat := 11
noncomputable def lfTm : List Nat := [3, 0, 4]
noncomputable def lfSl (x y : Sl Sy) : List (Sl Sy) := [x, .f (.ls 3 0), y]
noncomputable def lfPre : List (Sl Sy) := lfSl (.p (.slice none 0 0)) (.p (.int .i64 0))
noncomputable def lfCs : List (Sl Sy) := lfSl (.ow (.ol 2 (.v 1) none)) (.f (.ix 2 0))
noncomputable def lfCs' : List (Sl Sy) := lfSl (.ow (.ol 2 (.snoc (.v 1) (.v 2)) none)) (.f (.ix 2 1))
noncomputable def lfPost : List (Sl Sy) := lfSl (.ow (.ol 2 (.v 5) none)) (.f (.ix 6 0))
noncomputable def lfB1 : List Ix := [.ln 0 1, .ln 1 2, .bd 2, .lt 2 0 1 0 true, .lt 2 0 0 10 true, .el 0 2 0 (.v 2)]
set_option maxHeartbeats 4000000 in
theorem lf_round : roundT Tryz.prog (lsCfg false [] lfB1 noJ) (lsCl false [] lfB1 20) 25 20 eqSy lfTm lfCs lfCs' (loopOf lfF 0) = true := by kernel_rfl
noncomputable def lfJ : Jmps := fun f _ => cond (Nat.beq f lfF) (some (jumpM eqSy 25 lfTm lfPre lfPost)) none
noncomputable def poS (B : List Ix) (c d : Nat) : Nat × (List Value → Option (M Sy Value)) := (ofF, fun args => match args with
  | [a] => some (bind (lsArg B a) fun y => cond (isLe y 2 c) (newOw (.ol 0 (.v d) none)) fail)
  | _ => none)
theorem poS_ok {ρ : Env} {B : List Ix} (hB : AllX ρ B) {c d m : Nat} (hq : ∀ q ∈ ρ.lst c, Fit q) (hn : (ρ.lst c).length ≤ 10000) (ht : TrimAt (ρ.lst c) m) (h33 : m ≤ 33) (hd : ρ.lst d = (ρ.lst c).take m) : SumF (symSig ρ) Tryz.prog (poS B c d).1 (poS B c d).2 := by
  intro args k hm
  rcases args with _ | ⟨a, _ | ⟨b, l⟩⟩ <;> first | (cases (show none = some k from hm); done) | skip
  cases hm
  refine ⟨loc_bind (loc_lsArg _ _) fun _ => loc_cond (loc_newOw _) loc_fail, fun h nx v h' nx' R W e r w args' hv hM hN => ?_⟩
  cases hv with
  | cons h1 h2 =>
    cases h2
    obtain ⟨y, g1, nx1, R1, W1, R2, W2, e1, e2, rfl, rfl⟩ := bind_ok e
    obtain ⟨rfl, rfl, rfl, hls⟩ := lsArg_ok hB e1 h1 hM
    obtain ⟨hk, e3⟩ := cond_ok e2
    obtain rfl := isLe_ok hk
    have c0 := polyOf_any w hq hn ht h33 hls hM.fits hM.base
    rw [← hd] at c0
    have := goes_ow (f := ofF) (l := .v d) e3 hM hN c0
    simp only [List.nil_append]
    exact this
noncomputable def lfB0 (p : Bool) : List Ix := cond p [.ln 0 1, .bd 6, .lt 6 0 1 0 true, .lt 6 0 0 10 false] [.ln 0 1, .bd 6, .lt 6 0 1 0 false]
noncomputable def lfSums (B : List Ix) : Sums Sy := sumsOf (mkTab [poS B 5 9])
set_option maxHeartbeats 4000000 in
theorem lf_run (p : Bool) : tells [.ls 3 0] [.one] (call Tryz.prog (lsCfg false [] (lfB0 p) lfJ) (lfSums (lfB0 p)) 20 lfF) = some (.one (.one (.ow (.ol 0 (.v 9) none)))) := by cases p <;> kernel_rfl
theorem lf_one : ∃ fn c, (Tryz.prog).funcs[lfF]? = some fn ∧ fn.body = some c ∧ fn.ntmps = 25 ∧ loopsIn c = [loopOf lfF 0] := ⟨_, _, rfl, rfl, rfl, rfl⟩
end Ev
end Go.Proofs.YtdlhpleabfnogaaGreatDoor
namespace Go.Proofs.YtdlhpleabfnogaaGreatDoor
open Go Go.RowKit
namespace Ev
set_option maxRecDepth 100000
def lfQ (qs : List Rat) (k : Nat) : Nat → Rat
  | 2 => qs.getD k 0
  | _ => 0
theorem lfQ_fit {qs : List Rat} (hq : ∀ q ∈ qs, Fit q) (k i : Nat) : Fit (lfQ qs k i) := by
  unfold lfQ
  split
  · exact getD_fit hq _
  · exact fit00
def lfNat (c k : Nat) : Nat → Nat
  | 1 => c
  | 2 => k
  | 6 => min c 10
  | _ => 0
def lfLst (qs : List Rat) (k m : Nat) : Nat → List Rat
  | 0 => qs
  | 1 => qs.take k
  | 5 => qs.take (min qs.length 10)
  | 9 => (qs.take (min qs.length 10)).take m
  | _ => []
def lfEnv (qs : List Rat) (hq : ∀ q ∈ qs, Fit q) (lo k m : Nat) : Env := ⟨lfQ qs k, fun _ => (false, ⟨#[]⟩, ⟨#[]⟩), fun i _ => lfQ_fit hq k i, fun i => (lfQ_fit hq k i).sm.up (by decide), fun _ => bad_zero, lo, lfLst qs k m, lfNat qs.length k, rfl⟩
section
variable {qs : List Rat} (hq : ∀ q ∈ qs, Fit q) (lo : Nat) {m : Nat}
theorem lf_jmp : JmpOK (symSig (lfEnv qs hq lo 0 m)) Tryz.prog 25 (loopOf lfF 0) (jumpM eqSy 25 lfTm lfPre lfPost) := by
  refine @jmp_ok' Sy (symSig (lfEnv qs hq lo 0 m)) Tryz.prog eqSy eqSy_ok 25 (loopOf lfF 0) lfTm lfPre lfCs lfCs' lfPost (min qs.length 10) (fun k => symSig (lfEnv qs hq lo k m)) (fun k => ⟨rfl, rfl, rfl⟩) ?_ rfl rfl rfl ?_ ?_ ?_ ?_
  · intro w vs h
    obtain ⟨v1, l1, rfl, a1, v2, l2, rfl, a2, v3, l3, rfl, a3, rfl⟩ := h
    rw [show v1 = .slice none 0 0 from a1]; rfl
  · intro w vs h
    obtain ⟨v1, l1, rfl, a1, v2, l2, rfl, a2, v3, l3, rfl, a3, rfl⟩ := h
    have h1 : v1 = .slice none 0 0 := a1
    subst h1
    refine ⟨_, _, rfl, ⟨⟨none, 0, 0, rfl, Nat.le_refl _, Nat.le_refl _, rfl, fun _ => rfl, fun _ h => (by cases h)⟩, rfl, fun _ h => (by cases h)⟩, v2, _, rfl, a2, v3, _, rfl, ⟨?_, ?_⟩, rfl⟩
    · rw [show v3 = .int .i64 0 from a3]; rfl
    · rw [show v3 = .int .i64 0 from a3]; rfl
  · intro k hk w vs h
    obtain ⟨v1, l1, rfl, a1, v2, l2, rfl, a2, v3, l3, rfl, a3, rfl⟩ := h
    refine ⟨v1, _, rfl, ⟨?_, a1.2⟩, v2, _, rfl, a2, v3, _, rfl, ⟨?_, a3.2⟩, rfl⟩
    · refine olIs.env (ρ := lfEnv qs hq lo k m) (l' := .v 1) (z' := none) (show olIs _ 2 (.snoc (.v 1) (.v 2)) none w v1 from a1.1) ?_ trivial
      show qs.take (k + 1) = qs.take k ++ [qs.getD k 0]
      rw [List.take_add_one, List.getD_eq_getElem?_getD, List.getElem?_eq_getElem (by omega)]; rfl
    · have h4 : v3 = .int .i64 (((k : Nat) : Int) + 1) := a3.1
      show v3 = .int .i64 (((k + 1 : Nat) : Int) + 0)
      rw [h4]; congr 1
  · intro w vs h
    obtain ⟨v1, l1, rfl, a1, v2, l2, rfl, a2, v3, l3, rfl, a3, rfl⟩ := h
    exact ⟨v1, _, rfl, ⟨olIs.env (ρ := lfEnv qs hq lo (min qs.length 10) m) (l' := .v 5) (z' := none) (show olIs _ 2 (.v 1) none w v1 from a1.1) rfl trivial, a1.2⟩, v2, _, rfl, a2, v3, _, rfl, ⟨a3.1, a3.2⟩, rfl⟩
  · intro k hk ro d B0 D0 a w hAt
    have hA : AllH (lfEnv qs hq lo k m) [] := fun x hx => by simp at hx
    have hB : AllX (lfEnv qs hq lo k m) lfB1 := fun x hx => by
      simp only [lfB1, List.mem_cons, List.not_mem_nil, or_false] at hx
      rcases hx with rfl | rfl | rfl | rfl | rfl | rfl
      · rfl
      · show (qs.take k).length = k
        rw [List.length_take]; omega
      · show k ≤ 10000
        omega
      · show true = true ↔ ((k : Nat) : Int) + 0 < ((qs.length : Nat) : Int) + 0
        exact ⟨fun _ => by omega, fun _ => rfl⟩
      · show true = true ↔ ((k : Nat) : Int) + 0 < ((0 : Nat) : Int) + 10
        exact ⟨fun _ => by omega, fun _ => rfl⟩
      · refine ⟨k, ?_, ?_⟩
        · show ((k : Nat) : Int) = ((k : Nat) : Int) + 0
          omega
        · show qs[k]? = some (qs.getD k 0)
          rw [List.getD_eq_getElem?_getD, List.getElem?_eq_getElem (by omega)]; rfl
    exact round_run (C := lsCfg false _ _ noJ) (call := lsCl false _ _ 20) (fuel := 20) (lsFits hA hB) (lsCl_ok hA hB) rfl (fun y _ m e => by cases e) eqSy_ok lf_round few5 hAt
end
theorem lawOf_any (w : World) {qs : List Rat} (hq : ∀ q ∈ qs, Fit q) {m : Nat} (ht : TrimAt (qs.take (min qs.length 10)) m) {v : Value} (hv : LsIn 3 w v qs) (hG : Tryz.prog.globals.size ≤ w.heap.size) (hT : natSig.base w) :
    Calls Tryz.prog lfF ⟨[v]⟩ w fun e w' => ∃ u, e = .returned u ∧ NewOl 0 w w' u ((qs.take (min qs.length 10)).take m) ∧ Below w.heap.size w w' := by
  have hm := ht.le
  have hln : (qs.take (min qs.length 10)).length = min qs.length 10 := by rw [List.length_take]; omega
  rw [hln] at hm
  have hu : HoldsL (symSig (lfEnv qs hq w.heap.size 0 m)) w [.ls 3 0] [v] := ⟨v, [], rfl, LsIn.ls hv rfl, by obtain ⟨a, m, rfl, _⟩ := hv; rfl, rfl⟩
  have hA : AllH (lfEnv qs hq w.heap.size 0 m) [] := fun x hx => by simp at hx
  have hJ : ∀ B, JmpAll (symSig (lfEnv qs hq w.heap.size 0 m)) Tryz.prog (lsCfg false [] B lfJ) := fun B => by
    refine ⟨fun f x m e ts => ?_, fun f fn c x m hf hb hx e => ?_⟩
    · obtain ⟨_, e2⟩ := condJ' (show cond (Nat.beq f lfF) (some (jumpM eqSy 25 lfTm lfPre lfPost)) none = some m from e)
      cases e2
      exact loc_jumpM _ _ _ _ _
    · obtain ⟨h1, e2⟩ := condJ' (show cond (Nat.beq f lfF) (some (jumpM eqSy 25 lfTm lfPre lfPost)) none = some m from e)
      cases e2
      obtain rfl := Nat.eq_of_beq_eq_true h1
      exact one_jmp lf_one (@lf_jmp qs hq _ _) hf hb hx
  have hS : ∀ B, AllX (lfEnv qs hq w.heap.size 0 m) B → SumOK (symSig (lfEnv qs hq w.heap.size 0 m)) Tryz.prog (lfSums B) := fun B hB => sumsOf_ok fun x hx => by
    obtain rfl := List.mem_singleton.1 hx
    exact poS_ok hB (fun q h => hq q (List.mem_of_mem_take h)) (by
      show (qs.take (min qs.length 10)).length ≤ 10000
      rw [hln]; omega) ht (by omega) rfl
  have c1 : min qs.length 10 ≤ 10000 := by omega
  have post : ∀ {e : Ending} {w' : World}, (∃ v', e = .returned v' ∧ (D3.one (.one (.ow (.ol 0 (.v 9) none))) : D3 Sy).is (symSig (lfEnv qs hq w.heap.size 0 m)) w' v' ∧ Below w.heap.size w w') →
      ∃ u, e = .returned u ∧ NewOl 0 w w' u ((qs.take (min qs.length 10)).take m) ∧ Below w.heap.size w w' := by
    rintro e w' ⟨v', rfl, h1, hb⟩
    exact ⟨v', rfl, newOl_of (ρ := lfEnv qs hq w.heap.size 0 m) rfl h1 rfl (fun p hp => by cases hp), hb⟩
  rcases Nat.lt_or_ge 10 qs.length with h | h
  · have hB : AllX (lfEnv qs hq w.heap.size 0 m) (lfB0 true) := fun x hx => by
      simp only [lfB0, cond_true, List.mem_cons, List.not_mem_nil, or_false] at hx
      rcases hx with rfl | rfl | rfl | rfl
      · rfl
      · exact c1
      · show true = true ↔ ((min qs.length 10 : Nat) : Int) + 0 < ((qs.length : Nat) : Int) + 0
        exact ⟨fun _ => by omega, fun _ => rfl⟩
      · show false = true ↔ ((min qs.length 10 : Nat) : Int) + 0 < ((0 : Nat) : Int) + 10
        exact ⟨fun h => (by cases h), fun h => by omega⟩
    exact (tells_calls (lsFits hA hB) (hS _ hB) (lf_run true) rfl glob_few hu hG hT (Nat.le_refl _) (hJ _)).mono fun e w' h => post h
  · have hB : AllX (lfEnv qs hq w.heap.size 0 m) (lfB0 false) := fun x hx => by
      simp only [lfB0, cond_false, List.mem_cons, List.not_mem_nil, or_false] at hx
      rcases hx with rfl | rfl | rfl
      · rfl
      · exact c1
      · show false = true ↔ ((min qs.length 10 : Nat) : Int) + 0 < ((qs.length : Nat) : Int) + 0
        exact ⟨fun h => (by cases h), fun h => by omega⟩
    exact (tells_calls (lsFits hA hB) (hS _ hB) (lf_run false) rfl glob_few hu hG hT (Nat.le_refl _) (hJ _)).mono fun e w' h => post h
end Ev
end Go.Proofs.YtdlhpleabfnogaaGreatDoor
namespace Go.Proofs.YtdlhpleabfnogaaGreatDoor
open Go Go.RowKit
namespace Ev
set_option maxRecDepth 100000
noncomputable def ltF : Nat := 5
noncomputable def woF : Nat := 10
noncomputable def lfS (B : List Ix) : Nat × (List Value → Option (M Sy Value)) := (lfF, fun args => match args with
  | [a] => some (bind (lsArg B a) fun y => cond (isLe y 3 0) (newOw (.ol 0 (.v 5) none)) fail)
  | _ => none)
noncomputable def ptS (B : List Ix) (n : Nat) (long : Bool) : Nat × (List Value → Option (M Sy Value)) := (ptF, fun args => match args with
  | [x, i] => some (bind (lsArg B x) fun y => bind (ixV i) fun p => cond (Nat.beq p.1 0 && eqI p.2 n)
      (cond (isLe y 0 5) (cond long (ret (.tuple ⟨[.slice none 0 0, .int .i64 2]⟩)) (bind (newOw (.ol 0 (.v 9) none)) fun x => ret (.tuple ⟨[x, .int .i64 0]⟩)))
        (cond (isLe y 0 9 && !long) (bind (newOw (.ol 0 (.v 5) none)) fun x => ret (.tuple ⟨[x, .int .i64 0]⟩)) fail)) fail)
  | _ => none)
noncomputable def saS (B : List Ix) : Nat × (List Value → Option (M Sy Value)) := (saF, fun args => match args with
  | [x, y] => some (bind (lsArg B x) fun p => bind (lsArg B y) fun q => cond (isLe p 0 5 && isLe q 0 5) (ret (.bool true)) fail)
  | _ => none)
noncomputable def woS : Nat × (List Value → Option (M Sy Value)) := (woF, fun args => match args with
  | [] => some (ret (.bool true))
  | _ => none)
noncomputable def ltB0 (z : Int) (long : Bool) : List Ix := [.ln 5 8, .rm (.v 1) z, .lt 0 (z.natAbs + 1) 8 0 long]
noncomputable def ltSums (B : List Ix) (n : Nat) (long : Bool) : Sums Sy := sumsOf (mkTab [lfS B, ptS B n long, saS B, woS])
noncomputable def isTrue (d : Option (D3 Sy)) : Bool := match d with
  | some (.one (.one (.p (.bool b)))) => b
  | _ => false
noncomputable def ltOK (z : Int) (long : Bool) : Bool := isTrue (tells [.ls 3 0, .iz 0 (.v 1)] [.one, .one] (call Tryz.prog (lsCfg true [] (ltB0 z long) noJ) (ltSums (ltB0 z long) z.natAbs long) 20 ltF))
set_option maxHeartbeats 4000000 in
theorem lt_runs : (List.range 39).all (fun i => ltOK ((i : Int) - 19) false && ltOK ((i : Int) - 19) true) = true := by kernel_rfl
end Ev
end Go.Proofs.YtdlhpleabfnogaaGreatDoor
namespace Go.Proofs.YtdlhpleabfnogaaGreatDoor
open Go Go.RowKit
namespace Ev
set_option maxRecDepth 100000
section
variable {ρ : Env} {B : List Ix}
theorem lfS_ok (hB : AllX ρ B) {m : Nat} (hq : ∀ q ∈ ρ.lst 0, Fit q) (ht : TrimAt ((ρ.lst 0).take (min (ρ.lst 0).length 10)) m) (hd : ρ.lst 5 = ((ρ.lst 0).take (min (ρ.lst 0).length 10)).take m) : SumF (symSig ρ) Tryz.prog (lfS B).1 (lfS B).2 := by
  intro args k hm
  rcases args with _ | ⟨a, _ | ⟨b, l⟩⟩ <;> first | (cases (show none = some k from hm); done) | skip
  cases hm
  refine ⟨loc_bind (loc_lsArg _ _) fun _ => loc_cond (loc_newOw _) loc_fail, fun h nx v h' nx' R W e r w args' hv hM hN => ?_⟩
  cases hv with
  | cons h1 h2 =>
    cases h2
    obtain ⟨y, g1, nx1, R1, W1, R2, W2, e1, e2, rfl, rfl⟩ := bind_ok e
    obtain ⟨rfl, rfl, rfl, hls⟩ := lsArg_ok hB e1 h1 hM
    obtain ⟨hk, e3⟩ := cond_ok e2
    obtain rfl := isLe_ok hk
    have c0 := lawOf_any w hq ht hls hM.fits hM.base
    rw [← hd] at c0
    have := goes_ow (f := lfF) (l := .v 5) e3 hM hN c0
    simp only [List.nil_append]
    exact this
theorem ptS_ok (hB : AllX ρ B) {n m : Nat} {long : Bool} (hp : PolyOK (ρ.lst 5)) (hl : (ρ.lst 5).length ≤ 33) (hn : n ≤ 32) (hlong : long = true ↔ n + 1 < (ρ.lst 5).length) (ht : TrimAt (tv (ρ.lst 5) n) m) (hd : ρ.lst 9 = (tv (ρ.lst 5) n).take m) :
    SumF (symSig ρ) Tryz.prog (ptS B n long).1 (ptS B n long).2 := by
  have hm := ht.le
  rw [tv_len] at hm
  intro args k hm'
  rcases args with _ | ⟨x, _ | ⟨b, _ | ⟨z, l⟩⟩⟩ <;> first | (cases (show none = some k from hm'); done) | skip
  cases hm'
  refine ⟨loc_bind (loc_lsArg _ _) fun _ => loc_bind (loc_ixV _) fun _ => loc_cond (loc_cond (loc_cond (loc_ret _) (loc_bind (loc_newOw _) fun _ => loc_ret _)) (loc_cond (loc_bind (loc_newOw _) fun _ => loc_ret _) loc_fail)) loc_fail, fun h nx v h' nx' R W e r w args' hv hM hN => ?_⟩
  cases hv with
  | cons h1 hv => cases hv with
    | cons h2 h3 =>
      cases h3
      obtain ⟨y, g1, nx1, R1, W1, R2, W2, e1, e2, rfl, rfl⟩ := bind_ok e
      obtain ⟨rfl, rfl, rfl, hls⟩ := lsArg_ok hB e1 h1 hM
      obtain ⟨p, g3, nx3, R3, W3, R4, W4, e3, e4, rfl, rfl⟩ := bind_ok e2
      obtain ⟨rfl, rfl, rfl, hpv⟩ := ixV_ok e3 h2 hM
      obtain ⟨hk, e5⟩ := cond_ok e4
      simp only [Bool.and_eq_true] at hk
      rw [Nat.eq_of_beq_eq_true hk.1, eqI_ok hk.2] at hpv
      have hp2 : atIx ρ 0 ((n : Nat) : Int) = ((n : Nat) : Int) := by unfold atIx; rw [ρ.nat0]; simp
      rw [hp2] at hpv
      subst hpv
      simp only [List.nil_append]
      cases hy : isLe y 0 5 with
      | true =>
        rw [hy] at e5
        obtain rfl := isLe_ok hy
        have c0 := polyTurned_any w hp hl hn ht hls hM.fits hM.base
        cases long with
        | true =>
          obtain ⟨rfl, rfl, rfl, rfl⟩ := ret_ok (show (ret (.tuple ⟨[.slice none 0 0, .int .i64 2]⟩) : M Sy Value) _ _ = _ from e5)
          have hlt := hlong.1 rfl
          refine c0.mono ?_
          rintro en w' ⟨(⟨_, rfl⟩ | ⟨hle, _⟩), hb⟩
          · exact ⟨_, r, rfl, .tuple (.cons (.same rfl) (.cons (.same rfl) .nil)), ext_below hM hb _⟩
          · have : (Le.ev ρ (.v 5)).length = (ρ.lst 5).length := rfl
            omega
        | false =>
          have hle0 : (ρ.lst 5).length ≤ n + 1 := by
            rcases Nat.lt_or_ge (n + 1) (ρ.lst 5).length with q | q
            · have := hlong.2 q; cases this
            · exact q
          exact goes_owT (f := ptF) (l := .v 9) (u2 := .int .i64 0) rfl e5 hM hN (c0.mono fun en w' hh => by
            obtain ⟨(⟨hlt, _⟩ | ⟨_, u, q1, q2⟩), hb⟩ := hh
            · have : (Le.ev ρ (.v 5)).length = (ρ.lst 5).length := rfl
              omega
            · refine ⟨u, q1, ?_, hb⟩
              show NewOl 0 w w' u (ρ.lst 9)
              rw [hd]; exact q2)
      | false =>
        rw [hy] at e5
        obtain ⟨hk2, e6⟩ := cond_ok (show cond (isLe y 0 9 && !long) _ fail _ _ = _ from e5)
        simp only [Bool.and_eq_true, Bool.not_eq_true'] at hk2
        obtain rfl := isLe_ok hk2.1
        have hle0 : (ρ.lst 5).length ≤ n + 1 := by
          rcases Nat.lt_or_ge (n + 1) (ρ.lst 5).length with q | q
          · have := hlong.2 q; rw [hk2.2] at this; cases this
          · exact q
        · obtain ⟨t1, t2⟩ := turn_back hp hle0 ht
          rw [← hd] at t1 t2
          have hp9 : PolyOK (ρ.lst 9) := by rw [hd]; exact ht.poly (tv_fit hp.fit n)
          have hl9 : (ρ.lst 9).length ≤ n + 1 := by rw [hd, List.length_take, tv_len]; omega
          have c0 := polyTurned_any w hp9 (by omega) hn t1 hls hM.fits hM.base
          exact goes_owT (f := ptF) (l := .v 5) (u2 := .int .i64 0) rfl e6 hM hN (c0.mono fun en w' hh => by
            obtain ⟨(⟨hlt, _⟩ | ⟨_, u, q1, q2⟩), hb⟩ := hh
            · have : (Le.ev ρ (.v 9)).length = (ρ.lst 9).length := rfl
              omega
            · refine ⟨u, q1, ?_, hb⟩
              show NewOl 0 w w' u (ρ.lst 5)
              rw [← t2]; exact q2)
theorem saS_ok (hB : AllX ρ B) (hq : ∀ q ∈ ρ.lst 5, Fit q) (hl : (ρ.lst 5).length ≤ 10000) : SumF (symSig ρ) Tryz.prog (saS B).1 (saS B).2 := by
  intro args k hm
  rcases args with _ | ⟨x, _ | ⟨b, _ | ⟨z, l⟩⟩⟩ <;> first | (cases (show none = some k from hm); done) | skip
  cases hm
  refine ⟨loc_bind (loc_lsArg _ _) fun _ => loc_bind (loc_lsArg _ _) fun _ => loc_cond (loc_ret _) loc_fail, fun h nx v h' nx' R W e r w args' hv hM hN => ?_⟩
  cases hv with
  | cons h1 hv => cases hv with
    | cons h2 h3 =>
      cases h3
      obtain ⟨y, g1, nx1, R1, W1, R2, W2, e1, e2, rfl, rfl⟩ := bind_ok e
      obtain ⟨rfl, rfl, rfl, hls⟩ := lsArg_ok hB e1 h1 hM
      obtain ⟨p, g3, nx3, R3, W3, R4, W4, e3, e4, rfl, rfl⟩ := bind_ok e2
      obtain ⟨rfl, rfl, rfl, hls2⟩ := lsArg_ok hB e3 h2 hM
      obtain ⟨hk, e5⟩ := cond_ok e4
      simp only [Bool.and_eq_true] at hk
      obtain rfl := isLe_ok hk.1
      obtain rfl := isLe_ok hk.2
      have := goes_pl (f := saF) e5 rfl hM (same_any w hq hl hls hls2 hM.fits hM.base)
      simp only [List.nil_append]
      exact this
end
end Ev
end Go.Proofs.YtdlhpleabfnogaaGreatDoor
namespace Go.Proofs.YtdlhpleabfnogaaGreatDoor
open Go Go.RowKit
namespace Ev
set_option maxRecDepth 100000
set_option maxHeartbeats 4000000 in
theorem works5_run : runs 60 10 [] = some (.bool true) := by kernel_rfl
end Ev
end Go.Proofs.YtdlhpleabfnogaaGreatDoor
namespace Go.Proofs.YtdlhpleabfnogaaGreatDoor
open Go Go.RowKit
namespace Ev
set_option maxRecDepth 100000
theorem int_fit {q : Rat} (h : q.den = 1) (h0 : -9223372036854775808 ≤ q.num) (h1 : q.num ≤ 9223372036854775807) : Fit q := by
  have hb : By 8 (ofQ q.num 1) := ofQ_by (by omega) (by decide) (by decide)
  have := hb.fit (by omega)
  rwa [ofQ_one h] at this
theorem woS_ok {ρ : Env} : SumF (symSig ρ) Tryz.prog woS.1 woS.2 := by
  intro args k hm
  rcases args with _ | ⟨a, l⟩ <;> first | (cases (show none = some k from hm); done) | skip
  cases hm
  refine ⟨loc_ret _, fun h nx v h' nx' R W e r w args' hv hM hN => ?_⟩
  cases hv
  exact goes_pl (f := woF) e rfl hM (runs_calls works5_run rfl hM.fits hM.base)
theorem isTrue_ok {d : Option (D3 Sy)} (h : isTrue d = true) : d = some (.one (.one (.p (.bool true)))) := by
  unfold isTrue at h
  split at h
  · subst h; rfl
  · cases h
def ltQ (N : Rat) : Nat → Rat
  | 1 => N
  | _ => 0
theorem ltQ_fit {N : Rat} (h : Fit N) (i : Nat) : Fit (ltQ N i) := by
  unfold ltQ
  split
  · exact h
  · exact fit00
def ltNat (c : Nat) : Nat → Nat
  | 8 => c
  | _ => 0
def ltLst (qs ps rs : List Rat) : Nat → List Rat
  | 0 => qs
  | 5 => ps
  | 9 => rs
  | _ => []
def ltEnv (qs ps rs : List Rat) (N : Rat) (hN : Fit N) (lo : Nat) : Env := ⟨ltQ N, fun _ => (false, ⟨#[]⟩, ⟨#[]⟩), fun i _ => ltQ_fit hN i, fun i => (ltQ_fit hN i).sm.up (by decide), fun _ => bad_zero, lo, ltLst qs ps rs, ltNat ps.length, rfl⟩
theorem lawTurns (w : World) {qs : List Rat} (hq : ∀ q ∈ qs, Fit q) {N : Rat} (hN : izIs 0 N (.int .i64 N.num)) {v : Value} (hv : LsIn 3 w v qs) (hG : Tryz.prog.globals.size ≤ w.heap.size) (hT : natSig.base w) :
    Calls Tryz.prog ltF ⟨[v, .int .i64 N.num]⟩ w fun e w' => e = .returned (.bool true) ∧ Below w.heap.size w w' := by
  obtain ⟨_, n1, n2, n3⟩ := hN
  have hF := int_fit n1 n2 n3
  obtain ⟨m, hm⟩ := trim_ex (qs.take (min qs.length 10))
  have hlen : (qs.take (min qs.length 10)).length ≤ 10 := by rw [List.length_take]; omega
  have hqt : ∀ q ∈ qs.take (min qs.length 10), Fit q := fun q h => hq q (List.mem_of_mem_take h)
  have hps := hm.poly hqt
  obtain ⟨ps, hpd⟩ : ∃ ps, ps = (qs.take (min qs.length 10)).take m := ⟨_, rfl⟩
  rw [← hpd] at hps
  have hpl : ps.length ≤ 10 := by rw [hpd, List.length_take]; omega
  obtain ⟨z, hz⟩ : ∃ z, z = N.num.tmod 20 := ⟨_, rfl⟩
  have hz1 : -20 < z ∧ z < 20 := by
    rw [hz]
    constructor
    · have := Int.lt_tmod_of_pos N.num (show (0 : Int) < 20 by decide); omega
    · exact Int.tmod_lt_of_pos N.num (by decide)
  obtain ⟨m2, hm2⟩ := trim_ex (tv ps z.natAbs)
  obtain ⟨rs, hrd⟩ : ∃ rs, rs = (tv ps z.natAbs).take m2 := ⟨_, rfl⟩
  obtain ⟨long, hlong⟩ : ∃ b : Bool, b = true ↔ z.natAbs + 1 < ps.length := ⟨decide (z.natAbs + 1 < ps.length), by rw [decide_eq_true_iff]⟩
  have hrun : ltOK z long = true := by
    have h := List.all_eq_true.1 lt_runs (z + 19).toNat (List.mem_range.2 (by omega))
    have hzz : (((z + 19).toNat : Nat) : Int) - 19 = z := by omega
    rw [hzz] at h
    simp only [Bool.and_eq_true] at h
    cases long
    · exact h.1
    · exact h.2
  have hu : HoldsL (symSig (ltEnv qs ps rs N hF w.heap.size)) w [.ls 3 0, .iz 0 (.v 1)] [v, .int .i64 N.num] := ⟨v, _, rfl, LsIn.ls hv rfl, by obtain ⟨a, m, rfl, _⟩ := hv; rfl, .int .i64 N.num, [], rfl, ⟨rfl, n1, n2, n3⟩, rfl, rfl⟩
  have hA : AllH (ltEnv qs ps rs N hF w.heap.size) [] := fun x hx => by simp at hx
  have hB : AllX (ltEnv qs ps rs N hF w.heap.size) (ltB0 z long) := fun x hx => by
    simp only [ltB0, List.mem_cons, List.not_mem_nil, or_false] at hx
    rcases hx with rfl | rfl | rfl
    · rfl
    · exact hz.symm
    · show long = true ↔ ((0 : Nat) : Int) + (((z.natAbs : Nat) : Int) + 1) < ((ps.length : Nat) : Int) + 0
      rw [hlong]; omega
  have hS : SumOK (symSig (ltEnv qs ps rs N hF w.heap.size)) Tryz.prog (ltSums (ltB0 z long) z.natAbs long) := sumsOf_ok fun x hx => by
    simp only [List.mem_cons, List.not_mem_nil, or_false] at hx
    rcases hx with rfl | rfl | rfl | rfl
    · exact lfS_ok hB hq hm hpd
    · exact ptS_ok hB hps (show ps.length ≤ 33 by omega) (by omega) hlong hm2 hrd
    · exact saS_ok hB hps.fit (show ps.length ≤ 10000 by omega)
    · exact woS_ok
  refine (tells_calls (lsFits hA hB) hS (isTrue_ok hrun) rfl glob_few hu hG hT (Nat.le_refl _) (.none rfl)).mono ?_
  rintro e w' ⟨v', rfl, h1, hb⟩
  have h1' : v' = .bool true := h1
  subst h1'
  exact ⟨rfl, hb⟩
end Ev
end Go.Proofs.YtdlhpleabfnogaaGreatDoor
namespace Go.Proofs.YtdlhpleabfnogaaGreatDoor
open Go Go.RowKit
namespace Ev
set_option maxRecDepth 100000
theorem int_rat (z : Int) : ((z : Int) : Rat).num = z ∧ ((z : Int) : Rat).den = 1 := ⟨by simp, by simp⟩
theorem ints_ls {w : World} {a : Addr} {len cap : Nat} {zs : List Int} (hs : a.spot = none) (hl : len ≤ cap) (hlen : len ≤ zs.length) (hc : ∀ i, i < zs.length → w.cell? (a.add i) = some (.int .i8 (zs.getD i 0))) (hb : ∀ n ∈ zs, -128 ≤ n ∧ n ≤ 127) :
    LsIn 3 w (.slice (some a) len cap) ((zs.take len).map fun z => ((z : Int) : Rat)) := by
  have hlm : ((zs.take len).map fun z => ((z : Int) : Rat)).length = len := by rw [List.length_map, List.length_take]; omega
  refine ⟨some a, cap, by rw [hlm], by rw [hlm]; exact hl, fun hne => ?_⟩
  have hpos : 0 < len := by
    rcases Nat.eq_zero_or_pos len with q | q
    · subst q; simp at hne
    · exact q
  obtain ⟨b, off, spot⟩ := a
  have h0 := hc 0 (by omega)
  have hs' : spot = none := hs
  subst hs'
  cases hh : w.heap[b]? with
  | none => simp [World.cell?, Addr.add, hh] at h0
  | some o =>
      cases o with
      | cells c t z =>
        obtain ⟨cl⟩ := c
        refine ⟨b, off, cl, t, z, rfl, hh, fun i q hi => ?_⟩
        rw [List.getElem?_map] at hi
        obtain ⟨x, hx, rfl⟩ := Option.map_eq_some_iff.1 hi
        have hi2 := (List.getElem?_eq_some_iff.1 hx).1
        rw [List.length_take] at hi2
        have hx2 : zs[i]? = some x := by
          rw [List.getElem?_take, if_pos (by omega)] at hx; exact hx
        have h1 := hc i (by omega)
        rw [List.getD_eq_getElem?_getD, hx2] at h1
        have h2 : cl[off + i]? = some (.int .i8 x) := by
          rw [add_off] at h1
          simpa [World.cell?, hh] using h1
        have hm := hb x (List.mem_of_getElem? hx2)
        refine ⟨.int .i8 x, ?_, ?_⟩
        · show ((cl.drop (off + i * 1)).take 1) = _
          rw [Nat.mul_one]
          have hlt := (List.getElem?_eq_some_iff.1 h2).1
          rw [List.drop_eq_getElem_cons hlt]
          simp [(List.getElem?_eq_some_iff.1 h2).2]
        · show _ = Value.int .i8 _ ∧ _
          rw [(int_rat x).1]
          exact ⟨rfl, (int_rat x).2, by omega, by omega⟩
      | _ => simp [World.cell?, Addr.add, hh] at h0
end Ev
end Go.Proofs.YtdlhpleabfnogaaGreatDoor
namespace Go.Proofs.YtdlhpleabfnogaaGreatDoor
open Go.ChangeShapes Go.WideShapes Go.ChangeAt Go.RowKit
theorem own : ownKnob Tryz.prog.godebug = none := by kernel_rfl
section
variable {H : Type} {enc : TypeId × Value → H} {P : Program}
end
theorem glob_size {W : World} (h : W.ShapedOpen Tryz.prog) : Tryz.prog.globals.size ≤ W.heap.size := by
  have hb : Nat.ble (Tryz.prog.globals.size + 1) (begin Tryz.prog (fun _ _ => 0) default).world.heap.size = true := by kernel_rfl
  obtain ⟨o, o0, h1, -⟩ := h.2 Tryz.prog.globals.size (Nat.le_refl _) (Nat.le_of_ble_eq_true hb)
  exact Nat.le_of_lt (Array.getElem?_eq_some_iff.1 h1).1
end Go.Proofs.YtdlhpleabfnogaaGreatDoor
namespace Go.Proofs.YtdlhpleabfnogaaGreatDoor
open Go Go.ChangeShapes Go.WideShapes Go.ChangeAt Go.RowKit
theorem cell_below {W W' : World} (hb : Below W.heap.size W W') {a : Addr} (h : a.block < W.heap.size) : W'.cell? a = W.cell? a := by
  unfold World.cell?
  rw [hb.block _ h]
theorem frozen_below {W W' : World} (hb : Below W.heap.size W W') {a : Addr} (h : a.block < W.heap.size) : W'.frozen? a = W.frozen? a := by
  unfold World.frozen?
  rw [hb.block _ h]
theorem cell_lt {W : World} {a : Addr} {v : Value} (h : W.cell? a = some v) : a.block < W.heap.size := by
  apply Nat.lt_of_not_le
  intro hn
  have hx : W.heap[a.block]? = none := Array.getElem?_eq_none hn
  simp [World.cell?, hx] at h
section
variable {H : Type} {enc : TypeId × Value → H} {P : Program}
theorem post_kept {f : Func} {s : ChangeSpec} {apart fresh handsOn again : Bool} {W W' : World} {args : Array Value} {v : Value} {ds gs : List (DataW H)} {before : List MemPlace}
    (hW : DataW.Whole enc P f.params.toList s.vars apart W args.toList ds gs before)
    (hres : ∀ (b : Nat) (sp : Nat → Bool) (hd : Bool), DataW.TrodAll enc P W' b sp hd f.resultTypes.toList (v.resultList f.resultTypes.size) (s.fn H (ds ++ gs)).results [])
    (hargs : ∀ sp : Nat → Bool, (∀ p ∈ before, sp p.block = true) → DataW.TrodAll enc P W' 0 sp true f.params.toList args.toList (s.fn H (ds ++ gs)).args before)
    (hvars : ∀ sp : Nat → Bool, DataW.TrodVars enc P W' sp s.vars (s.fn H (ds ++ gs)).vars [])
    (hb : Below W.heap.size W W')
    (hok : ∀ (j : Nat) (t : TypeId) (r : Value), f.resultTypes[j]? = some t → (v.resultList f.resultTypes.size)[j]? = some r → Value.okWide P W' .any 0 t r) :
    s.post enc P f apart fresh handsOn again W args v W' := by
  have hk : W.keptBut W' (fun p => p ∈ ([] : List MemPlace)) := hb.frame _
  have hold : ∀ p ∈ before, (fun b => decide (b < W.heap.size)) p.block = true := fun p hp => by simpa using hW.lt p hp
  have hlt : ∀ p ∈ before, p.block < W.heap.size := fun p hp => hW.lt p hp
  refine ⟨ds, gs, before, [], before, [], hW, hres _ _ _, hargs _ hold, hvars _, World.keptBut_mono (fun p hp => by cases hp) hk, fun _ => ?_⟩
  obtain ⟨_, _, _, _, _, hz, hn⟩ := hW
  refine ⟨hok, _, _, before, ⟨[] ++ before, [], trodAll_append (hargs _ (fun _ _ => rfl)) (hres _ _ _), hvars _, by simp, ?_, hn⟩, fun p hp _ => hp⟩
  intro b off hp
  rw [frozen_below hb (a := ⟨b, off, none⟩) (hlt _ hp)]
  exact hz b off hp
end
set_option maxRecDepth 100000
theorem fit_i8 {q : Rat} (h : q.den = 1 ∧ -128 ≤ q.num ∧ q.num ≤ 127) : Fit q := Ev.int_fit h.1 (by omega) (by omega)
theorem ints8_open {H : Type} {enc : TypeId × Value → H} {W : World} {base : Nat} {v : Value} {d : DataW H} {p : List MemPlace} (hval : Value.okWide Tryz.prog W .any base 30 v)
    (h0 : DataW.Trod enc Tryz.prog W 0 (fun _ => true) true 30 v d p) :
    ∃ qs : List Rat, (∀ q ∈ qs, q.den = 1 ∧ -128 ≤ q.num ∧ q.num ≤ 127) ∧ Ev.LsIn 3 W v qs ∧
      ∀ (W' : World) (sp : Nat → Bool), Below W.heap.size W W' → (∀ q ∈ p, sp q.block = true) → DataW.Trod enc Tryz.prog W' 0 sp true 30 v d p := by
  have hc : Tryz.prog.cellsOf 65 = 1 := by kernel_rfl
  obtain ⟨a0, len0, cap0, rfl⟩ := okWide_slice Tryz.underlying30 hval
  obtain ⟨fuel, hf⟩ := h0
  rcases open_ints Tryz.underlying30 Tryz.underlying65 hc hf with ⟨hcs, hx⟩ | ⟨a, len, cap, zs, hcs, _, hl, hm, hz, hx, hcell, hwz⟩
  · simp [Value.cells] at hcs
    obtain ⟨rfl, rfl, rfl⟩ := hcs
    simp only [Prod.mk.injEq] at hx
    obtain ⟨rfl, rfl⟩ := hx
    exact ⟨[], fun q h => by simp at h, ⟨none, 0, rfl, Nat.le_refl _, fun h => absurd rfl h⟩, fun W' sp _ _ => shut_slice_nil Tryz.underlying30⟩
  · simp [Value.cells] at hcs
    obtain ⟨rfl, rfl, rfl⟩ := hcs
    simp only [Prod.mk.injEq] at hx
    obtain ⟨rfl, rfl⟩ := hx
    simp only [if_true] at hz
    have hwb : ∀ n ∈ zs, -128 ≤ n ∧ n ≤ 127 := fun n h => bounds_i8 (hwz n h)
    refine ⟨(zs.take len0).map fun z => ((z : Int) : Rat), ?_, ?_, ?_⟩
    · intro q hq
      obtain ⟨z, hz1, rfl⟩ := List.mem_map.1 hq
      have h := hwb z (List.mem_of_mem_take hz1)
      rw [(Ev.int_rat z).1]
      exact ⟨(Ev.int_rat z).2, h.1, h.2⟩
    · rcases Nat.eq_zero_or_pos zs.length with h | h
      · have hl0 : len0 = 0 := by omega
        subst hl0
        exact ⟨some a, cap0, rfl, Nat.zero_le _, fun h => absurd rfl h⟩
      · obtain ⟨b, off, rfl, _⟩ := ints_at hcell h
        exact Ev.ints_ls rfl hl (by omega) hcell hwb
    · intro W' sp hb hsp
      refine ⟨2, ?_⟩
      have t0 := shut_ints (enc := enc) (P := Tryz.prog) (w := W') (base := 0) (spare := sp) (held := true) (a := a) (len := len0) (cap := cap0) (zs := zs) 0 Tryz.underlying30 Tryz.underlying65 hc (Nat.zero_le _) hl hm
        (by
          rcases Nat.eq_zero_or_pos zs.length with h | h
          · split <;> omega
          · obtain ⟨b, off, rfl, _⟩ := ints_at hcell h
            have : sp b = true := hsp (MemPlace.cell b (off + 0)) (MemPlace.mem_row.2 ⟨0, h, rfl⟩)
            rw [if_pos this]; exact hz)
        (fun i hi => by
          rw [cell_below hb (cell_lt (hcell i hi))]
          exact hcell i hi) hwz
      simpa [Value.cells] using t0
end Go.Proofs.YtdlhpleabfnogaaGreatDoor
namespace Go.Proofs.YtdlhpleabfnogaaGreatDoor
open Go Go.RowKit
namespace Ev
set_option maxRecDepth 100000
theorem polyTurns_any (w : World) {v : Value} {qs : List Rat} (hv : LsIn 3 w v qs) (hq : ∀ q ∈ qs, q.den = 1 ∧ -128 ≤ q.num ∧ q.num ≤ 127) (n : Int) (h0 : -9223372036854775808 ≤ n) (h1 : n ≤ 9223372036854775807)
    (hG : Tryz.prog.globals.size ≤ w.heap.size) (hT : Tab w) : Calls Tryz.prog ltF ⟨[v, .int .i64 n]⟩ w fun e w' => e = .returned (.bool true) ∧ Below w.heap.size w w' := by
  have hn : ((n : Int) : Rat).num = n := (int_rat n).1
  have hi : izIs 0 ((n : Int) : Rat) (.int .i64 ((n : Int) : Rat).num) := ⟨rfl, (int_rat n).2, by rw [hn]; exact h0, by rw [hn]; exact h1⟩
  have h := lawTurns w (fun q h => fit_i8 (hq q h)) hi hv hG hT
  rwa [hn] at h
end Ev
end Go.Proofs.YtdlhpleabfnogaaGreatDoor
namespace Go.Proofs.YtdlhpleabfnogaaGreatDoor
open Go.ChangeShapes Go.WideShapes Go.ChangeAt Go.RowKit
theorem gTab : Tryz.prog.globalNamed "internal/strconv.uint64pow10" = some 3 := by kernel_rfl
end Go.Proofs.YtdlhpleabfnogaaGreatDoor
namespace Go.Proofs.YtdlhpleabfnogaaGreatDoor
open Go.ChangeShapes Go.WideShapes Go.ChangeAt Go.RowKit
def laid3 : List (String × DataW Unit) := [("math/bits.deBruijn32tab", Rows.laid_math_bits_deBruijn32tab), ("math/bits.deBruijn64tab", Rows.laid_math_bits_deBruijn64tab), ("internal/strconv.uint64pow10", Rows.laid_internal_strconv_uint64pow10)]
set_option maxRecDepth 100000 in
theorem door_met (os : Os) (args : Array Value) : laidMetH Tryz.prog laid3 ((World.doorLaid Tryz.prog 4000 os).forCall (fun _ _ => 0) ⟨#[], args, []⟩).memory :=
  laidMetH_of_parts3 (fuel := 8) (laidMet_of_run' 8 (by kernel_rfl) (by kernel_rfl)) (by kernel_rfl) (by kernel_rfl)
theorem tTab : (Tryz.prog.globals[3]?).map (·.type) = some 274 := by kernel_rfl
theorem cTab : Tryz.prog.cellsOf 274 = 20 := by kernel_rfl
theorem ceTab : Tryz.prog.cellsOf 121 = 1 := by kernel_rfl
theorem dTab : (Rows.laid_internal_strconv_uint64pow10 : DataW Unit) = Lib.tabData .u64 Lib.pow10Tab := by rfl
theorem tab_of_laid {W : World} (h : laidMetH Tryz.prog laid3 W) : Tab W := by
  rw [MakeChecks.laidMetH_plain _ _ _ (by kernel_rfl)] at h
  obtain ⟨ps, ⟨g0, t0, cs0, f0, p0, q0, hg0, ht0, hv0, hd0, ⟨g1, t1, cs1, f1, p1, q1, hg1, ht1, hv1, hd1, ⟨g2, t2, cs2, f2, p2, q2, hg2, ht2, hv2, hd2, _, _⟩, _⟩, _⟩, _, _⟩ := h
  obtain rfl := Option.some.inj (gTab.symm.trans hg2)
  obtain rfl := Option.some.inj (tTab.symm.trans ht2)
  rw [dTab] at hd2
  show World.var? Tryz.prog W _ = _
  rw [hv2, ← Lib.cells_of_tab Tryz.underlying274 Tryz.underlying121 ceTab cTab hd2]
end Go.Proofs.YtdlhpleabfnogaaGreatDoor
namespace Go.Proofs.YtdlhpleabfnogaaGreatDoor
open Go.ChangeShapes Go.WideShapes Go.ChangeAt Go.RowKit
theorem handed_both {H : Type} {enc : TypeId × Value → H} {C : Checked} {os : Os} {f : FuncId} {fn : Func} {s : ChangeSpec} {apart fresh handsOn again : Bool} {X : World → Array Value → Prop}
    (hX : ∀ (w w' : World) (args : Array Value), w.heap = w'.heap → X w args → X w' args)
    (hown : ownKnob C.prog.godebug = none) (started : os.Started) (noInit : C.prog.inits.idxOf? f = none) (hfn : C.prog.funcs[f]? = some fn)
    (witness : ∃ (w : World) (tape : Tape) (i : Input), w.os = os ∧ (w.forCall tape i).Shaped C.prog ∧ i.vars = [] ∧ Input.okWide C.prog (w.forCall tape i) .any w.heap.size f i ∧
      ((s.pre enc C.prog fn [] apart (w.forCall tape i).memory i.args ∧ X (w.forCall tape i).memory i.args) ∧ sizedMet enc C.prog fn (OpenSpec.ofChange s) apart (w.forCall tape i).memory i.args) ∧ Assume.holds {} C.prog (lone (Frame.enter C.prog f i.args .normal) [] (w.forCall tape i)))
    (contract : ∀ (W : World) (base : Nat) (args : Array Value) (ds gs : List (DataW H)) (before : List MemPlace),
      (∀ (j : Nat) t v, fn.params[j]? = some t → args[j]? = some v → Value.okWide C.prog W .any base t v) →
      DataW.Whole enc C.prog fn.params.toList s.vars apart W args.toList ds gs before → X W args → W.ShapedOpen C.prog →
      Calls C.prog f args W fun e W' => ∃ v, e = .returned v ∧ s.post enc C.prog fn apart fresh handsOn again W args v W') :
    ReturnsInHanded {} C os f .any (fun w args => (s.pre enc C.prog fn [] apart w args ∧ X w args) ∧ sizedMet enc C.prog fn (OpenSpec.ofChange s) apart w args) (s.post enc C.prog fn apart fresh handsOn again) := by
  refine returnsInHanded_of_calls hown started noInit witness ?_
  intro w tape i _ hshape _ hin hp _
  obtain ⟨_, _, _, fn2, hfn2, _, _, _, _, hv⟩ := hin
  obtain rfl : fn2 = fn := Option.some.inj (hfn2.symm.trans hfn)
  obtain ⟨⟨⟨ds, gs, before, hwh, _⟩, hx⟩, _⟩ := hp
  refine (contract (w.forCall tape i) w.heap.size i.args ds gs before hv (DataW.Whole.of_heap (w' := w.forCall tape i) (by rfl) hwh) (hX _ _ _ (by rfl) hx) hshape).mono fun e W' ⟨v, he, hpost⟩ => ?_
  subst he
  exact ChangeSpec.post_blind hpost
end Go.Proofs.YtdlhpleabfnogaaGreatDoor
namespace Go.Proofs.YtdlhpleabfnogaaGreatDoor
set_option maxRecDepth 100000
theorem turns_and {a b : Bool} (ha : a = true) (hb : b = true) : (a && b) = true := by rw [ha, hb]; rfl
theorem turns_c0 : ((Rows.polyTurnsRow).wf (OpenSpec.ofChange Rows.polyTurnsSpec)) = true := by kernel_rfl
theorem turns_c1 : (laidOutB Tryz.checked.prog) = true := by kernel_rfl
theorem turns_c2 : (mapsRowed Tryz.checked.prog) = true := by kernel_rfl
theorem turns_c3 : ((Tryz.f5).params.all ((Tryz.checked.prog).readableRec ·)) = true := by kernel_rfl
theorem turns_c4 : (namedTie Tryz.checked.prog (Rows.polyTurnsRow).named (Rows.polyTurnsSpec).vars) = true := by kernel_rfl
theorem turns_c5 : (((Rows.polyTurnsRow).stops == [])) = true := by kernel_rfl
theorem turns_c6 : (((Tryz.checked.prog).stops == [])) = true := by kernel_rfl
theorem turns_c7 : (((Rows.polyTurnsRow).knobs == [])) = true := by kernel_rfl
theorem turns_c8 : (((Tryz.checked.prog).stopKnobs == [])) = true := by kernel_rfl
theorem turns_c9 : (((Rows.polyTurnsRow).inPlace == (Tryz.checked.prog).inPlace 5)) = true := by kernel_rfl
theorem turns_c10 : (((Rows.polyTurnsRow).unfollowed == (Tryz.checked.prog).unfollowed 5)) = true := by kernel_rfl
theorem turns_c11 : (((Rows.polyTurnsRow).recurses == (Tryz.checked.prog).recurses 5)) = true := by kernel_rfl
theorem turns_c12 : (((Rows.polyTurnsRow).named == (Tryz.checked.prog).varsNamed 5)) = true := by kernel_rfl
theorem turns_c13 : (((Rows.polyTurnsRow).maps == ((Tryz.f5).params.toList ++ (Rows.polyTurnsSpec).plain.varTypes Tryz.checked.prog).any ((Tryz.checked.prog).mapsRec ·))) = true := by kernel_rfl
theorem turns_c14 : (((Rows.polyTurnsRow).ifaces == ((Tryz.f5).params.toList ++ (Rows.polyTurnsSpec).plain.varTypes Tryz.checked.prog).any ((Tryz.checked.prog).ifacesRec ·))) = true := by kernel_rfl
theorem turns_c15 : (((Rows.polyTurnsRow).mapsOut == (Tryz.checked.prog).mapsAmong (Tryz.f5).resultTypes.toList)) = true := by kernel_rfl
theorem turns_c16 : (((Rows.polyTurnsRow).loops == ((Tryz.f5).params.toList ++ (Rows.polyTurnsSpec).plain.varTypes Tryz.checked.prog).any ((Tryz.checked.prog).loopsFrom ·))) = true := by kernel_rfl
theorem turns_c17 : (((Rows.polyTurnsRow).wideKeys == ((Tryz.f5).params.toList ++ (Rows.polyTurnsSpec).plain.varTypes Tryz.checked.prog ++ (Tryz.f5).resultTypes.toList).any ((Tryz.checked.prog).wideKeysFrom ·))) = true := by kernel_rfl
theorem turns_c18 : ((Rows.polyTurnsSpec).vars.all ((Tryz.checked.prog).varReadable ·)) = true := by kernel_rfl
theorem turns_c19 : ((Tryz.f5).resultTypes.all (fun t => (Tryz.checked.prog).readableRec t && decide (t < (Tryz.checked.prog).types.size))) = true := by kernel_rfl
theorem turns_c20 : (((Rows.polyTurnsRow).ifacesOut == (Tryz.f5).resultTypes.toList.any ((Tryz.checked.prog).ifacesRec ·))) = true := by kernel_rfl
theorem turns_c21 : (((Rows.polyTurnsRow).loopsOut == (Tryz.f5).resultTypes.toList.any ((Tryz.checked.prog).loopsFrom ·))) = true := by kernel_rfl
theorem turns_c22 : (((Rows.polyTurnsRow).plainKeys == (Tryz.checked.prog).plainKeys)) = true := by kernel_rfl
theorem turns_c23 : ((Rows.polyTurnsRow).shortTexts.isNone) = true := by kernel_rfl
theorem turns_c24 : ((Tryz.checked.prog).stopsHeard) = true := by kernel_rfl
theorem turns_c25 : ((Tryz.checked.prog).mayEnter) = true := by kernel_rfl
theorem turns_c26 : (((Rows.polyTurnsRow).lifted == (Tryz.checked.prog).liftsFinal)) = true := by kernel_rfl
theorem turns_c27 : (((Tryz.checked.prog).make == some (Rows.polyTurnsRow).make)) = true := by kernel_rfl
theorem turns_c28 : (((Rows.polyTurnsRow).kinds == (if (Rows.polyTurnsRow).domain.isEmpty then [] else (Tryz.f5).params.toList.map fun t => match (Tryz.checked.prog).underlying t with | some (.int k) => some k | _ => none))) = true := by kernel_rfl
theorem turns_c29 : (((Rows.polyTurnsRow).pinned == (Rows.polyTurnsRow).pinnedBy)) = true := by kernel_rfl
theorem turns_c30 : (((Rows.polyTurnsRow).veiled == ((Tryz.f5).params.toList ++ (Rows.polyTurnsSpec).plain.varTypes Tryz.checked.prog ++ (Tryz.f5).resultTypes.toList).any ((Tryz.checked.prog).veiledRec ·))) = true := by kernel_rfl
theorem turns_c31 : ((Rows.polyTurnsRow).veiledFits Tryz.checked.prog (Tryz.f5).params.toList ((Tryz.f5).params.toList ++ (Rows.polyTurnsSpec).plain.varTypes Tryz.checked.prog ++ (Tryz.f5).resultTypes.toList)) = true := by kernel_rfl
theorem turns_closed : joinedFacts Tryz.checked.prog 5 Tryz.f5 Rows.polyTurnsSpec Rows.polyTurnsRow = true := (turns_and (turns_and (turns_and (turns_and (turns_and (turns_and (turns_and (turns_and (turns_and (turns_and (turns_and (turns_and (turns_and (turns_and (turns_and (turns_and (turns_and (turns_and (turns_and (turns_and (turns_and (turns_and (turns_and (turns_and (turns_and (turns_and (turns_and (turns_and (turns_and (turns_and (turns_and turns_c0 turns_c1) turns_c2) turns_c3) turns_c4) turns_c5) turns_c6) turns_c7) turns_c8) turns_c9) turns_c10) turns_c11) turns_c12) turns_c13) turns_c14) turns_c15) turns_c16) turns_c17) turns_c18) turns_c19) turns_c20) turns_c21) turns_c22) turns_c23) turns_c24) turns_c25) turns_c26) turns_c27) turns_c28) turns_c29) turns_c30) turns_c31)
end Go.Proofs.YtdlhpleabfnogaaGreatDoor
namespace Go.Proofs.YtdlhpleabfnogaaGreatDoor
set_option maxRecDepth 100000
theorem main_is : Tryz.checked.prog.mainIs = some (true, "b13cd94c51eefc6c71299b76400d8e7dbad71a25cdd6d8d04874f14aa5a4dccb".toList) := by kernel_rfl
theorem looks_is : false = Tryz.checked.prog.looks [] := by kernel_rfl
end Go.Proofs.YtdlhpleabfnogaaGreatDoor
namespace Go.Proofs.YtdlhpleabfnogaaGreatDoor
set_option maxRecDepth 100000
theorem turns_goes : false = Rows.polyTurnsRow.goesBy Tryz.checked.prog := by kernel_rfl
end Go.Proofs.YtdlhpleabfnogaaGreatDoor
