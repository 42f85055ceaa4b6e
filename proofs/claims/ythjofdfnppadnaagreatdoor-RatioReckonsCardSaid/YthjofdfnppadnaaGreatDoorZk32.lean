/- THE LAW RatioReckons, PROVED: whatever two fractions are handed in, sums, differences, products and quotients are the document's own, errors too: it answers true. The listed variables lie as the program text lays them. -/
import Derived.Test.YthjofdfnppadnaaGreatDoorZk28
import Derived.Test.YthjofdfnppadnaaGreatDoorZk29
import Derived.OpenShut
import Derived.WideShapes
import Derived.ChangeMaps5
import Derived.Test.YthjofdfnppadnaaGreatDoorZk30
import Derived.Test.YthjofdfnppadnaaGreatDoorZk31
import Derived.Test.YthjofdfnppadnaaGreatDoorCards
import Derived.Test.YthjofdfnppadnaaGreatDoorTie
import Derived.SevenTiedAt
namespace Go.Proofs.YthjofdfnppadnaaGreatDoor
open Go.ChangeShapes Go.WideShapes Go.ChangeAt Go.RowKit Go.ChangeMaps Ev
set_option maxRecDepth 100000 in
theorem reckons_lifted (os : Os) (started : os.Started) (H : Type) (enc : TypeId × Value → H) :
    ReturnsInHanded {} Tryz.checked os 4 .any (fun w args => (Rows.ratioReckonsSpec.pre enc Tryz.prog Tryz.f4 [] false w args ∧ laidMetH Tryz.prog laid3 w) ∧ sizedMet enc Tryz.prog Tryz.f4 (OpenSpec.ofChange Rows.ratioReckonsSpec) false w args)
      (Rows.ratioReckonsSpec.post enc Tryz.prog Tryz.f4 false true false false) := by
  refine handed_both (C := Tryz.checked) (X := fun w _ => laidMetH Tryz.prog laid3 w) (fun _ _ _ hh h => h.of_heap hh) own started (by kernel_rfl) Tryz.func4
    (ChangeSpec.witness_shaped (enc := enc) (C := Tryz.checked) (os := os) (X := fun w _ => laidMetH Tryz.prog laid3 w) false (World.doorLaid Tryz.prog 4000 os) #[gz] 8 rfl (World.shaped_of_RefB (by kernel_rfl) (by kernel_rfl)) (by kernel_rfl) (by kernel_rfl) (by kernel_rfl) (door_met os _)) ?_
  intro W base args ds gs before hval0 hW hL hsh
  have hval : ∀ (j : Nat) t v, Tryz.f4.params[j]? = some t → args[j]? = some v → Value.okWide Tryz.prog W .any base t v := hval0
  have hW' := hW
  obtain ⟨p, q, hA0, hV, rfl, hfz, hnd⟩ := hW
  have hA : DataW.TrodAll enc Tryz.prog W 0 (fun _ => true) true Tryz.f4.params.toList args.toList ds p := hA0
  rw [Tryz.params4] at hA hval
  obtain ⟨v0, vs0, d0, ds0, p0, q0, hargs, rfl, rfl, h0, r0⟩ := trodAll_cons hA
  obtain ⟨hlast, rfl, rfl⟩ := trodAll_nil r0
  obtain rfl : args = #[v0] := by cases args; simp_all
  obtain ⟨rfl, rfl⟩ := trodVars_none hV
  obtain ⟨x0, y0, rfl, rfl, rfl, wx0, wy0⟩ := two_open (hval 0 39 v0 rfl rfl) h0
  have hT := tab_of_laid hL
  have hG := glob_size hsh
  clear hA0 hval0
  simp only [List.append_nil] at hW'
  refine (Ev.ratioReckons_any W x0 y0  hG hT).mono fun ee W' ⟨he, hb⟩ => ?_
  subst he
  exact ⟨_, rfl, post_new hW' (fun _ _ _ => (trodAll_cons_mk (shut_bool Tryz.underlying4 _) trodAll_mk0)) (fun sp => (trodAll_cons_mk (two_shut wx0 wy0) trodAll_mk0)) (fun _ => rfl)
    hb (ok_one (by kernel_rfl) rfl (okWide_bool_mk Tryz.underlying4 _))⟩
theorem reckons_holds : Rows.RatioReckonsSaid :=
  OpenClaim.holds_of_wide 4 Tryz.f4 rfl rfl rfl rfl rfl rfl rfl ⟨rfl, rfl, rfl, rfl, rfl⟩ rfl rfl rfl rfl rfl (by kernel_rfl) Tryz.func4 reckons_closed
    (of_decide_eq_true (by kernel_rfl)) (by unfold Func.isWrapper; first | (rw [if_pos (by decide +kernel)]; kernel_rfl) | (rw [if_neg (by decide +kernel)]; exact ⟨rfl, rfl⟩))
    (fun os started H enc _ => reckons_lifted os started H enc)
theorem reckons_card : Rows.RatioReckonsCardSaid :=
  Claim7.holds_tied_plain_at .later [] [.data, .data, .data] true (true, "4373e4dc532bbbf8c623fbad8e3add76f925905b21b408b0bdf64e0339436f2f") false
    reckons_holds (fun _ h => by cases h) (by kernel_rfl) (fun _ h => by cases h) ratioReckons_row_tie rfl ⟨rfl, rfl⟩ main_is rfl
    (fun f fn hf hfn => by
      obtain rfl : f = 4 := Option.some.inj ((show Tryz.prog.funcNamed "diapason/diapasonlaw01.RatioReckons" = some 4 by kernel_rfl).symm.trans hf) |>.symm
      obtain rfl : fn = Tryz.f4 := (Option.some.inj (Tryz.func4.symm.trans hfn)).symm
      exact ⟨looks_is, fun j t ht => by
        rw [Tryz.params4] at ht
        have h3 : Tryz.prog.wantsStandIn t = false := by
          rcases j with _ | j
          · obtain rfl : t = 39 := by simpa using ht.symm
            kernel_rfl
          · simp at ht
        exact h3⟩)
    reckons_goes
end Go.Proofs.YthjofdfnppadnaaGreatDoor
