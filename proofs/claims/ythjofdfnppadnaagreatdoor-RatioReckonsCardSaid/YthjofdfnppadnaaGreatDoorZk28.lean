/- Contracts, in this order: diapasonlaw01.RatioReckons answers true. -/
import Derived.Test.YthjofdfnppadnaaGreatDoorZk27
namespace Go.Proofs.YthjofdfnppadnaaGreatDoor
open Go Go.RowKit
namespace Ev
set_option maxRecDepth 100000
noncomputable def rkT2 (fa fs fm fq z g : Bool) : List As := [⟨0, .add v0 v1, z0, fa⟩, ⟨0, .sub v0 v1, z0, fs⟩, ⟨0, .mul v0 v1, z0, fm⟩, ⟨0, .quo v0 v1, z0, fq⟩, ⟨1, v1, z0, z⟩, ⟨3, v1, z0, g⟩]
theorem rk_bad : ∀ a b : Bool, (a && b) = false → rkrun [] (inp a 0 ++ inp b 1) = some yes := by
  intro a b
  cases a <;> cases b <;> intro h <;> first | (cases h; done) | kernel_rfl
theorem rk_z (fa fs fm fq g : Bool) : rkrun (rkT2 fa fs fm fq true g) (inp true 0 ++ inp true 1) = some yes := by
  cases fa <;> cases fs <;> cases fm <;> cases fq <;> cases g <;> kernel_rfl
theorem rk_n (fa fs fm fq g : Bool) : rkrun (rkT2 fa fs fm fq false g) (inp true 0 ++ inp true 1) = some yes := by
  cases fa <;> cases fs <;> cases fm <;> cases fq <;> cases g <;> kernel_rfl
theorem rk_good (fa fs fm fq z g : Bool) : rkrun (rkT2 fa fs fm fq z g) (inp true 0 ++ inp true 1) = some yes := by
  cases z
  · exact rk_n fa fs fm fq g
  · exact rk_z fa fs fm fq g
theorem bool_of (P : Prop) : ∃ b : Bool, b = true ↔ P := by
  by_cases h : P
  · exact ⟨true, fun _ => h, fun _ => rfl⟩
  · exact ⟨false, fun h => (by cases h), fun h2 => absurd h2 h⟩
theorem allH_cons {ρ : Env} {x : As} {A : List As} (h : x.holds ρ.q) (i : AllH ρ A) : AllH ρ (x :: A) := fun y hy => by
  rcases List.mem_cons.1 hy with rfl | hy
  · exact h
  · exact i y hy
theorem allH_nil (ρ : Env) : AllH ρ [] := fun x hx => by cases hx
theorem yes_is {ρ : Env} {w : World} {v : Value} (h : yes.is (symSig ρ) w v) : v = .bool true := h
theorem ratioReckons_any (w : World) (x y : Tri) (hG : Tryz.prog.globals.size ≤ w.heap.size) (hT : Tab w) :
    Calls Tryz.prog 4 #[.agg ⟨cel x ++ cel y⟩] w fun e w' => e = .returned (.bool true) ∧ Below w.heap.size w w' := by
  obtain ⟨i, -⟩ := in4 x y x y
  have fin : ∀ A : List As, AllH i.ρ A → rkrun A (inp i.a 0 ++ inp i.b 1) = some yes → Calls Tryz.prog 4 #[.agg ⟨cel x ++ cel y⟩] w fun e w' => e = .returned (.bool true) ∧ Below w.heap.size w w' := by
    intro A hA hr
    refine (tells_calls (lawFits hA) (rkS_ok hA) hr rfl glob_few (holdsL_append (inp_holds (w := w) i.hx.1 i.hx.2) (inp_holds i.hy.1 i.hy.2)) hG hT).mono fun e w' hh => ?_
    obtain ⟨v', rfl, hv, hb⟩ := hh
    exact ⟨by rw [yes_is hv], hb⟩
  cases hab : (i.a && i.b) with
  | false => exact fin [] (allH_nil _) (rk_bad _ _ hab)
  | true =>
    simp only [Bool.and_eq_true] at hab
    obtain ⟨fa, ha⟩ := bool_of (Fit ((Qe.add v0 v1).ev i.ρ.q))
    obtain ⟨fs, hs⟩ := bool_of (Fit ((Qe.sub v0 v1).ev i.ρ.q))
    obtain ⟨fm, hm⟩ := bool_of (Fit ((Qe.mul v0 v1).ev i.ρ.q))
    obtain ⟨fq, hq⟩ := bool_of (Fit ((Qe.quo v0 v1).ev i.ρ.q))
    obtain ⟨z, hz⟩ := bool_of (v1.ev i.ρ.q = 0)
    refine fin (rkT2 fa fs fm fq z (Big.ng (v1.ev i.ρ.q))) (allH_cons ha (allH_cons hs (allH_cons hm (allH_cons hq (allH_cons hz (allH_cons rfl (allH_nil _))))))) ?_
    rw [hab.1, hab.2]
    exact rk_good _ _ _ _ _ _
end Ev
end Go.Proofs.YthjofdfnppadnaaGreatDoor
