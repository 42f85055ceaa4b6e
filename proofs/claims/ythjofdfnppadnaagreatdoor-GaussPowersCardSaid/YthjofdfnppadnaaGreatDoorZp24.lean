/- Contracts, in this order: gauss.Power: all its runs. -/
import Derived.Test.YthjofdfnppadnaaGreatDoorZp23
namespace Go.Proofs.YthjofdfnppadnaaGreatDoor
open Go Go.RowKit
namespace Ev
set_option maxRecDepth 100000
structure Pc where
  J : Nat
  stop : Bool
  fit : Bool
noncomputable def pcs (n : Nat) : List Pc := ⟨Nat.succ n, false, true⟩ :: ⟨Nat.succ n, false, false⟩ :: Nat.rec (motive := fun _ => List Pc) [] (fun j ih => ⟨Nat.succ j, true, true⟩ :: ⟨Nat.succ j, true, false⟩ :: ih) n
noncomputable def pExp (n : Nat) (c : Pc) : Option (D3 Pw) := some (cond c.stop (noP 3) (cond c.fit (okP n) (noP 3)))
def AllRun (neg : Bool) (n : Nat) : Prop := (pcs n).map (fun c => pRun neg n c.J c.stop c.fit) = (pcs n).map (pExp n)
theorem ar_f0 : AllRun false 0 := by unfold AllRun; kernel_rfl
theorem ar_f1 : AllRun false 1 := by unfold AllRun; kernel_rfl
theorem ar_f2 : AllRun false 2 := by unfold AllRun; kernel_rfl
theorem ar_f3 : AllRun false 3 := by unfold AllRun; kernel_rfl
theorem ar_f4 : AllRun false 4 := by unfold AllRun; kernel_rfl
theorem ar_f5 : AllRun false 5 := by unfold AllRun; kernel_rfl
theorem ar_f6 : AllRun false 6 := by unfold AllRun; kernel_rfl
theorem ar_f7 : AllRun false 7 := by unfold AllRun; kernel_rfl
theorem ar_f8 : AllRun false 8 := by unfold AllRun; kernel_rfl
theorem ar_f9 : AllRun false 9 := by unfold AllRun; kernel_rfl
theorem ar_f10 : AllRun false 10 := by unfold AllRun; kernel_rfl
theorem ar_f11 : AllRun false 11 := by unfold AllRun; kernel_rfl
theorem ar_f12 : AllRun false 12 := by unfold AllRun; kernel_rfl
theorem ar_f13 : AllRun false 13 := by unfold AllRun; kernel_rfl
theorem ar_f14 : AllRun false 14 := by unfold AllRun; kernel_rfl
theorem ar_f15 : AllRun false 15 := by unfold AllRun; kernel_rfl
theorem ar_f16 : AllRun false 16 := by unfold AllRun; kernel_rfl
theorem ar_f17 : AllRun false 17 := by unfold AllRun; kernel_rfl
theorem ar_f18 : AllRun false 18 := by unfold AllRun; kernel_rfl
theorem ar_f19 : AllRun false 19 := by unfold AllRun; kernel_rfl
theorem ar_f20 : AllRun false 20 := by unfold AllRun; kernel_rfl
theorem ar_f21 : AllRun false 21 := by unfold AllRun; kernel_rfl
theorem ar_f22 : AllRun false 22 := by unfold AllRun; kernel_rfl
theorem ar_t1 : AllRun true 1 := by unfold AllRun; kernel_rfl
theorem ar_t2 : AllRun true 2 := by unfold AllRun; kernel_rfl
theorem ar_t3 : AllRun true 3 := by unfold AllRun; kernel_rfl
theorem ar_t4 : AllRun true 4 := by unfold AllRun; kernel_rfl
theorem ar_t5 : AllRun true 5 := by unfold AllRun; kernel_rfl
theorem ar_t6 : AllRun true 6 := by unfold AllRun; kernel_rfl
theorem ar_t7 : AllRun true 7 := by unfold AllRun; kernel_rfl
theorem ar_t8 : AllRun true 8 := by unfold AllRun; kernel_rfl
theorem ar_t9 : AllRun true 9 := by unfold AllRun; kernel_rfl
theorem ar_t10 : AllRun true 10 := by unfold AllRun; kernel_rfl
theorem ar_t11 : AllRun true 11 := by unfold AllRun; kernel_rfl
theorem ar_t12 : AllRun true 12 := by unfold AllRun; kernel_rfl
theorem ar_t13 : AllRun true 13 := by unfold AllRun; kernel_rfl
theorem ar_t14 : AllRun true 14 := by unfold AllRun; kernel_rfl
theorem ar_t15 : AllRun true 15 := by unfold AllRun; kernel_rfl
theorem ar_t16 : AllRun true 16 := by unfold AllRun; kernel_rfl
theorem ar_t17 : AllRun true 17 := by unfold AllRun; kernel_rfl
theorem ar_t18 : AllRun true 18 := by unfold AllRun; kernel_rfl
theorem ar_t19 : AllRun true 19 := by unfold AllRun; kernel_rfl
theorem ar_t20 : AllRun true 20 := by unfold AllRun; kernel_rfl
theorem ar_t21 : AllRun true 21 := by unfold AllRun; kernel_rfl
theorem ar_t22 : AllRun true 22 := by unfold AllRun; kernel_rfl
theorem ar_pos : ∀ n, n ≤ 22 → AllRun false n
  | 0, _ => ar_f0
  | 1, _ => ar_f1
  | 2, _ => ar_f2
  | 3, _ => ar_f3
  | 4, _ => ar_f4
  | 5, _ => ar_f5
  | 6, _ => ar_f6
  | 7, _ => ar_f7
  | 8, _ => ar_f8
  | 9, _ => ar_f9
  | 10, _ => ar_f10
  | 11, _ => ar_f11
  | 12, _ => ar_f12
  | 13, _ => ar_f13
  | 14, _ => ar_f14
  | 15, _ => ar_f15
  | 16, _ => ar_f16
  | 17, _ => ar_f17
  | 18, _ => ar_f18
  | 19, _ => ar_f19
  | 20, _ => ar_f20
  | 21, _ => ar_f21
  | 22, _ => ar_f22
  | _ + 23, h => by omega
theorem ar_neg : ∀ n, 1 ≤ n → n ≤ 22 → AllRun true n
  | 0, h, _ => by omega
  | 1, _, _ => ar_t1
  | 2, _, _ => ar_t2
  | 3, _, _ => ar_t3
  | 4, _, _ => ar_t4
  | 5, _, _ => ar_t5
  | 6, _, _ => ar_t6
  | 7, _, _ => ar_t7
  | 8, _, _ => ar_t8
  | 9, _, _ => ar_t9
  | 10, _, _ => ar_t10
  | 11, _, _ => ar_t11
  | 12, _, _ => ar_t12
  | 13, _, _ => ar_t13
  | 14, _, _ => ar_t14
  | 15, _, _ => ar_t15
  | 16, _, _ => ar_t16
  | 17, _, _ => ar_t17
  | 18, _, _ => ar_t18
  | 19, _, _ => ar_t19
  | 20, _, _ => ar_t20
  | 21, _, _ => ar_t21
  | 22, _, _ => ar_t22
  | _ + 23, _, h => by omega
theorem run_of {neg : Bool} {n : Nat} (h : AllRun neg n) {c : Pc} (hc : c ∈ pcs n) : pRun neg n c.J c.stop c.fit = pExp n c := List.map_inj_left.1 h c hc
theorem pcs_end (n : Nat) (fit : Bool) : (⟨Nat.succ n, false, fit⟩ : Pc) ∈ pcs n := by
  unfold pcs
  cases fit
  · exact List.mem_cons_of_mem _ List.mem_cons_self
  · exact List.mem_cons_self
theorem pcs_stop (n : Nat) (fit : Bool) : ∀ J, 1 ≤ J → J ≤ n → (⟨J, true, fit⟩ : Pc) ∈ pcs n := by
  intro J h1 h2
  unfold pcs
  refine List.mem_cons_of_mem _ (List.mem_cons_of_mem _ ?_)
  induction n with
  | zero => omega
  | succ n ih =>
    show (⟨J, true, fit⟩ : Pc) ∈ (⟨Nat.succ n, true, true⟩ :: ⟨Nat.succ n, true, false⟩ :: _)
    by_cases hj : J = n + 1
    · subst hj
      cases fit
      · exact List.mem_cons_of_mem _ List.mem_cons_self
      · exact List.mem_cons_self
    · exact List.mem_cons_of_mem _ (List.mem_cons_of_mem _ (ih (by omega)))
end Ev
end Go.Proofs.YthjofdfnppadnaaGreatDoor
