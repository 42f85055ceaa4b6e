/- THE LAW GrainBack, PROVED: floats come back from fractions and texts, samples from their levels, whatever the float and the sample. The listed variables lie as the program text lays them. -/
import Derived.Test.YtgcgmplepcfbaaaGreatDoorBh24
import Derived.OpenShut
import Derived.WideShapes
import Derived.ShutString
import Derived.ChangeMaps5
import Derived.Test.YtgcgmplepcfbaaaGreatDoorBh25
import Derived.Test.YtgcgmplepcfbaaaGreatDoorBh26
import Derived.Test.YtgcgmplepcfbaaaGreatDoorBh27
import Derived.Test.YtgcgmplepcfbaaaGreatDoorCards
import Derived.Test.YtgcgmplepcfbaaaGreatDoorTie
import Derived.SevenTiedAt
/- THE LAW GrainBack, PROVED: floats come back from fractions and texts, samples from their levels, whatever the float and the sample. The listed variables lie as the program text lays them. -/
namespace Go.Proofs.YtgcgmplepcfbaaaGreatDoor
open Go.ChangeShapes Go.WideShapes Go.ChangeAt Go.RowKit Go.ChangeMaps Ev

set_option maxRecDepth 100000 in
theorem gback_lifted (os : Os) (started : os.Started) (H : Type) (enc : TypeId × Value → H) :
    ReturnsInHanded {} Tryz.checked os 10 .any (fun w args => (Rows.grainBackSpec.pre enc Tryz.prog Tryz.f10 [] false w args ∧ laidMetH Tryz.prog laid5 w) ∧ sizedMet enc Tryz.prog Tryz.f10 (OpenSpec.ofChange Rows.grainBackSpec) false w args)
      (Rows.grainBackSpec.post enc Tryz.prog Tryz.f10 false true false false) := by
  refine handed_both (C := Tryz.checked) (X := fun w _ => laidMetH Tryz.prog laid5 w) (fun _ _ _ hh h => h.of_heap hh) own started (by kernel_rfl) Tryz.func10
    (ChangeSpec.witness_shaped (enc := enc) (C := Tryz.checked) (os := os) (X := fun w _ => laidMetH Tryz.prog laid5 w) false (World.doorLaid Tryz.prog 4000 os) #[.float .f64 0, .int .i16 0] 8 rfl (World.shaped_of_RefB (by kernel_rfl) (by kernel_rfl)) (by kernel_rfl) (by kernel_rfl) (by kernel_rfl) (door_met5 os _)) ?_
  intro W base args ds gs before hval0 hW hL hsh
  have hval : ∀ (j : Nat) t v, Tryz.f10.params[j]? = some t → args[j]? = some v → Value.okWide Tryz.prog W .any base t v := hval0
  have hW' := hW
  obtain ⟨p, q, hA0, hV, rfl, hfz, hnd⟩ := hW
  have hA : DataW.TrodAll enc Tryz.prog W 0 (fun _ => true) true Tryz.f10.params.toList args.toList ds p := hA0
  rw [Tryz.params10] at hA hval
  obtain ⟨v0, vs0, d0, ds0, p0, q0, hargs, rfl, rfl, h0, r0⟩ := trodAll_cons hA
  obtain ⟨v1, vs1, d1, ds1, p1, q1, ha1, rfl, rfl, h1, r1⟩ := trodAll_cons r0
  obtain ⟨hlast, rfl, rfl⟩ := trodAll_nil r1
  obtain rfl : args = #[v0, v1] := by cases args; simp_all
  obtain ⟨rfl, rfl⟩ := trodVars_none hV
  obtain ⟨n0, rfl, rfl, rfl, wn0⟩ := open_float Tryz.underlying58 (hval 0 58 v0 rfl rfl) h0
  obtain ⟨n1, rfl, rfl, rfl, wn1⟩ := open_int Tryz.underlying68 (hval 1 68 v1 rfl rfl) h1
  obtain ⟨hT, hE⟩ := facts_of_laid hL
  have hG := glob_size hsh
  clear hA0 hval0
  simp only [List.append_nil] at hW'
  refine (grainBack_any W n0 n1 (by simpa [Lit.wf] using wn0) (bounds_i16 wn1).1 (bounds_i16 wn1).2 hG hT).mono fun ee W' ⟨he, hb⟩ => ?_
  subst he
  exact ⟨_, rfl, post_new hW' (fun _ _ _ => (trodAll_cons_mk (shut_bool Tryz.underlying4 _) trodAll_mk0)) (fun sp => (trodAll_cons_mk (shut_float Tryz.underlying58 wn0) (trodAll_cons_mk (shut_int Tryz.underlying68 wn1) trodAll_mk0))) (fun _ => rfl)
    hb (ok_one (by kernel_rfl) rfl (okWide_bool_mk Tryz.underlying4 _))⟩

theorem gback_holds : Rows.GrainBackSaid :=
  OpenClaim.holds_of_wide 10 Tryz.f10 rfl rfl rfl rfl rfl rfl rfl ⟨rfl, rfl, rfl, rfl, rfl⟩ rfl rfl rfl rfl rfl (by kernel_rfl) Tryz.func10 gback_closed
    (of_decide_eq_true (by kernel_rfl)) (by unfold Func.isWrapper; first | (rw [if_pos (by decide +kernel)]; kernel_rfl) | (rw [if_neg (by decide +kernel)]; exact ⟨rfl, rfl⟩))
    (fun os started H enc _ => gback_lifted os started H enc)

theorem gback_card : Rows.GrainBackCardSaid :=
  Claim7.holds_tied_plain_at .later [] [.data, .data, .data, .sentinel, .sentinel] true (true, "35d0721a1d3133ddfd3d000434f908a27f5604c751df3fc4f78beec99216d735") true
    gback_holds (fun _ h => by cases h) (by kernel_rfl) (fun _ h => by cases h) grainBack_row_tie rfl ⟨rfl, rfl⟩ main_is rfl
    (fun f fn hf hfn => by
      obtain rfl : f = 10 := Option.some.inj ((show Tryz.prog.funcNamed "diapason/diapasonlaw03.GrainBack" = some 10 by kernel_rfl).symm.trans hf) |>.symm
      obtain rfl : fn = Tryz.f10 := (Option.some.inj (Tryz.func10.symm.trans hfn)).symm
      exact ⟨looks_is, fun j t ht => by
        rw [Tryz.params10] at ht
        have h3 : Tryz.prog.wantsStandIn t = false := by
          rcases j with _ | _ | j
          · obtain rfl : t = 58 := by simpa using ht.symm
            kernel_rfl
          · obtain rfl : t = 68 := by simpa using ht.symm
            kernel_rfl
          · simp at ht
        exact h3⟩)
    gback_goes
end Go.Proofs.YtgcgmplepcfbaaaGreatDoor
