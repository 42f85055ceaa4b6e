/- THE LAW PolyLaws, PROVED: whatever three lists of small whole numbers are handed in, polynomials are a ring, values go along with products, and the product rule holds: it answers true. The listed variables lie as the program text lays them. -/
import Derived.Test.YtdlhpleabfnogaaGreatDoorLw30
import Derived.OpenShut
import Derived.WideShapes
import Derived.ChangeMaps5
import Derived.Test.YtdlhpleabfnogaaGreatDoorLw31
import Derived.Test.YtdlhpleabfnogaaGreatDoorCards
import Derived.Test.YtdlhpleabfnogaaGreatDoorTie
import Derived.SevenTiedAt
namespace Go.Proofs.YtdlhpleabfnogaaGreatDoor
open Go.ChangeShapes Go.WideShapes Go.ChangeAt Go.RowKit Go.ChangeMaps Ev
set_option maxRecDepth 100000 in
theorem plaws_lifted (os : Os) (started : os.Started) (H : Type) (enc : TypeId × Value → H) :
    ReturnsInHanded {} Tryz.checked os 4 .any (fun w args => (Rows.polyLawsSpec.pre enc Tryz.prog Tryz.f4 [] false w args ∧ laidMetH Tryz.prog laid3 w) ∧ sizedMet enc Tryz.prog Tryz.f4 (OpenSpec.ofChange Rows.polyLawsSpec) false w args)
      (Rows.polyLawsSpec.post enc Tryz.prog Tryz.f4 false true false false) := by
  refine handed_both (C := Tryz.checked) (X := fun w _ => laidMetH Tryz.prog laid3 w) (fun _ _ _ hh h => h.of_heap hh) own started (by kernel_rfl) Tryz.func4
    (ChangeSpec.witness_shaped (enc := enc) (C := Tryz.checked) (os := os) (X := fun w _ => laidMetH Tryz.prog laid3 w) false (World.doorLaid Tryz.prog 4000 os) #[.slice none 0 0, .slice none 0 0, .slice none 0 0] 8 rfl (World.shaped_of_RefB (by kernel_rfl) (by kernel_rfl)) (by kernel_rfl) (by kernel_rfl) (by kernel_rfl) (door_met os _)) ?_
  intro W base args ds gs before hval0 hW hL hsh
  have hval : ∀ (j : Nat) t v, Tryz.f4.params[j]? = some t → args[j]? = some v → Value.okWide Tryz.prog W .any base t v := hval0
  have hW' := hW
  obtain ⟨p, q, hA0, hV, rfl, hfz, hnd⟩ := hW
  have hA : DataW.TrodAll enc Tryz.prog W 0 (fun _ => true) true Tryz.f4.params.toList args.toList ds p := hA0
  rw [Tryz.params4] at hA hval
  obtain ⟨v0, vs0, d0, ds0, p0, q0, hargs, rfl, rfl, h0, r0⟩ := trodAll_cons hA
  obtain ⟨v1, vs1, d1, ds1, p1, q1, ha1, rfl, rfl, h1, r1⟩ := trodAll_cons r0
  obtain ⟨v2, vs2, d2, ds2, p2, q2, ha2, rfl, rfl, h2, r2⟩ := trodAll_cons r1
  obtain ⟨hlast, rfl, rfl⟩ := trodAll_nil r2
  obtain rfl : args = #[v0, v1, v2] := by cases args; simp_all
  obtain ⟨rfl, rfl⟩ := trodVars_none hV
  obtain ⟨q0, wq0, lq0, sq0⟩ := ints8_open (hval 0 30 v0 rfl rfl) h0
  obtain ⟨q1, wq1, lq1, sq1⟩ := ints8_open (hval 1 30 v1 rfl rfl) h1
  obtain ⟨q2, wq2, lq2, sq2⟩ := ints8_open (hval 2 30 v2 rfl rfl) h2
  have hT := tab_of_laid hL
  have hG := glob_size hsh
  clear hA0 hval0
  simp only [List.append_nil] at hW'
  refine (Ev.polyLaws_any W lq0 wq0 lq1 wq1 lq2 wq2  hG hT).mono fun ee W' ⟨he, hb⟩ => ?_
  subst he
  exact ⟨_, rfl, post_kept hW' (fun _ _ _ => (trodAll_cons_mk (shut_bool Tryz.underlying4 _) trodAll_mk0)) (fun sp hsp => by have t := (trodAll_cons_mk (sq0 W' sp hb (fun q h => hsp q (by simp [h]))) (trodAll_cons_mk (sq1 W' sp hb (fun q h => hsp q (by simp [h]))) (trodAll_cons_mk (sq2 W' sp hb (fun q h => hsp q (by simp [h]))) trodAll_mk0))); simp only [List.append_nil, List.nil_append] at t; exact t) (fun _ => rfl)
    hb (ok_one (by kernel_rfl) rfl (okWide_bool_mk Tryz.underlying4 _))⟩
theorem plaws_holds : Rows.PolyLawsSaid :=
  OpenClaim.holds_of_wide 4 Tryz.f4 rfl rfl rfl rfl rfl rfl rfl ⟨rfl, rfl, rfl, rfl, rfl⟩ rfl rfl rfl rfl rfl (by kernel_rfl) Tryz.func4 plaws_closed
    (of_decide_eq_true (by kernel_rfl)) (by unfold Func.isWrapper; first | (rw [if_pos (by decide +kernel)]; kernel_rfl) | (rw [if_neg (by decide +kernel)]; exact ⟨rfl, rfl⟩))
    (fun os started H enc _ => plaws_lifted os started H enc)
theorem plaws_card : Rows.PolyLawsCardSaid :=
  Claim7.holds_tied_plain_at .later [] [.data, .data, .data] true (true, "b13cd94c51eefc6c71299b76400d8e7dbad71a25cdd6d8d04874f14aa5a4dccb") false
    plaws_holds (fun _ h => by cases h) (by kernel_rfl) (fun _ h => by cases h) polyLaws_row_tie rfl ⟨rfl, rfl⟩ main_is rfl
    (fun f fn hf hfn => by
      obtain rfl : f = 4 := Option.some.inj ((show Tryz.prog.funcNamed "diapason/diapasonlaw05.PolyLaws" = some 4 by kernel_rfl).symm.trans hf) |>.symm
      obtain rfl : fn = Tryz.f4 := (Option.some.inj (Tryz.func4.symm.trans hfn)).symm
      exact ⟨looks_is, fun j t ht => by
        rw [Tryz.params4] at ht
        have h3 : Tryz.prog.wantsStandIn t = false := by
          rcases j with _ | _ | _ | j
          · obtain rfl : t = 30 := by simpa using ht.symm
            kernel_rfl
          · obtain rfl : t = 30 := by simpa using ht.symm
            kernel_rfl
          · obtain rfl : t = 30 := by simpa using ht.symm
            kernel_rfl
          · simp at ht
        exact h3⟩)
    plaws_goes
end Go.Proofs.YtdlhpleabfnogaaGreatDoor
