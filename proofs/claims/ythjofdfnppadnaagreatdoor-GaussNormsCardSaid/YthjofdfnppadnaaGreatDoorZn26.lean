/- THE LAW GaussNorms, PROVED: whatever two complex numbers of fractions are handed in, norms of products are products of norms: it answers true. The listed variables lie as the program text lays them. -/
import Derived.Test.YthjofdfnppadnaaGreatDoorZn23
import Derived.OpenShut
import Derived.WideShapes
import Derived.ChangeMaps5
import Derived.Test.YthjofdfnppadnaaGreatDoorZn24
import Derived.Test.YthjofdfnppadnaaGreatDoorZn25
import Derived.Test.YthjofdfnppadnaaGreatDoorCards
import Derived.Test.YthjofdfnppadnaaGreatDoorTie
import Derived.SevenTiedAt
namespace Go.Proofs.YthjofdfnppadnaaGreatDoor
open Go.ChangeShapes Go.WideShapes Go.ChangeAt Go.RowKit Go.ChangeMaps Ev
set_option maxRecDepth 100000 in
theorem gnorms_lifted (os : Os) (started : os.Started) (H : Type) (enc : TypeId × Value → H) :
    ReturnsInHanded {} Tryz.checked os 8 .any (fun w args => (Rows.gaussNormsSpec.pre enc Tryz.prog Tryz.f8 [] false w args ∧ laidMetH Tryz.prog laidG w) ∧ sizedMet enc Tryz.prog Tryz.f8 (OpenSpec.ofChange Rows.gaussNormsSpec) false w args)
      (Rows.gaussNormsSpec.post enc Tryz.prog Tryz.f8 false true false false) := by
  refine handed_both (C := Tryz.checked) (X := fun w _ => laidMetH Tryz.prog laidG w) (fun _ _ _ hh h => h.of_heap hh) own started (by kernel_rfl) Tryz.func8
    (ChangeSpec.witness_shaped (enc := enc) (C := Tryz.checked) (os := os) (X := fun w _ => laidMetH Tryz.prog laidG w) false (World.laidAll Tryz.prog os laidG) #[gz, gz] 8 (World.laidAll_os _ _ _) (World.shaped_of_ZipB (by kernel_rfl) (by kernel_rfl)) (by kernel_rfl) (by kernel_rfl) (by kernel_rfl)
      (by rw [MakeChecks.laidMetH_plain _ _ _ (by kernel_rfl)]; exact laidMet_laidAll _ (by kernel_rfl) (by kernel_rfl))) ?_
  intro W base args ds gs before hval0 hW hL hsh
  have hval : ∀ (j : Nat) t v, Tryz.f8.params[j]? = some t → args[j]? = some v → Value.okWide Tryz.prog W .any base t v := hval0
  have hW' := hW
  obtain ⟨p, q, hA0, hV, rfl, hfz, hnd⟩ := hW
  have hA : DataW.TrodAll enc Tryz.prog W 0 (fun _ => true) true Tryz.f8.params.toList args.toList ds p := hA0
  rw [Tryz.params8] at hA hval
  obtain ⟨v0, vs0, d0, ds0, p0, q0, hargs, rfl, rfl, h0, r0⟩ := trodAll_cons hA
  obtain ⟨v1, vs1, d1, ds1, p1, q1, ha1, rfl, rfl, h1, r1⟩ := trodAll_cons r0
  obtain ⟨hlast, rfl, rfl⟩ := trodAll_nil r1
  obtain rfl : args = #[v0, v1] := by cases args; simp_all
  obtain ⟨rfl, rfl⟩ := trodVars_none hV
  obtain ⟨x0, y0, rfl, rfl, rfl, wx0, wy0⟩ := gauss_open (hval 0 47 v0 rfl rfl) h0
  obtain ⟨x1, y1, rfl, rfl, rfl, wx1, wy1⟩ := gauss_open (hval 1 47 v1 rfl rfl) h1
  have hT := tab_of_laidG hL
  have hG := glob_size hsh
  clear hA0 hval0
  simp only [List.append_nil] at hW'
  refine (Ev.gaussNorms_any W x0 y0 x1 y1  hG hT).mono fun ee W' ⟨he, hb⟩ => ?_
  subst he
  exact ⟨_, rfl, post_new hW' (fun _ _ _ => (trodAll_cons_mk (shut_bool Tryz.underlying4 _) trodAll_mk0)) (fun sp => (trodAll_cons_mk (gauss_shut wx0 wy0) (trodAll_cons_mk (gauss_shut wx1 wy1) trodAll_mk0))) (fun _ => rfl)
    hb (ok_one (by kernel_rfl) rfl (okWide_bool_mk Tryz.underlying4 _))⟩
theorem gnorms_holds : Rows.GaussNormsSaid :=
  OpenClaim.holds_of_wide 8 Tryz.f8 rfl rfl rfl rfl rfl rfl rfl ⟨rfl, rfl, rfl, rfl, rfl⟩ rfl rfl rfl rfl rfl (by kernel_rfl) Tryz.func8 gnorms_closed
    (of_decide_eq_true (by kernel_rfl)) (by unfold Func.isWrapper; first | (rw [if_pos (by decide +kernel)]; kernel_rfl) | (rw [if_neg (by decide +kernel)]; exact ⟨rfl, rfl⟩))
    (fun os started H enc _ => gnorms_lifted os started H enc)
theorem gnorms_card : Rows.GaussNormsCardSaid :=
  Claim7.holds_tied_plain_at .later [] [.data, .data, .data, .data, .pinned] true (true, "4373e4dc532bbbf8c623fbad8e3add76f925905b21b408b0bdf64e0339436f2f") false
    gnorms_holds (fun _ h => by cases h) (by kernel_rfl) (fun _ h => by cases h) gaussNorms_row_tie rfl ⟨rfl, rfl⟩ main_is rfl
    (fun f fn hf hfn => by
      obtain rfl : f = 8 := Option.some.inj ((show Tryz.prog.funcNamed "diapason/diapasonlaw02.GaussNorms" = some 8 by kernel_rfl).symm.trans hf) |>.symm
      obtain rfl : fn = Tryz.f8 := (Option.some.inj (Tryz.func8.symm.trans hfn)).symm
      exact ⟨looks_is, fun j t ht => by
        rw [Tryz.params8] at ht
        have h3 : Tryz.prog.wantsStandIn t = false := by
          rcases j with _ | _ | j
          · obtain rfl : t = 47 := by simpa using ht.symm
            kernel_rfl
          · obtain rfl : t = 47 := by simpa using ht.symm
            kernel_rfl
          · simp at ht
        exact h3⟩)
    gnorms_goes
end Go.Proofs.YthjofdfnppadnaaGreatDoor
