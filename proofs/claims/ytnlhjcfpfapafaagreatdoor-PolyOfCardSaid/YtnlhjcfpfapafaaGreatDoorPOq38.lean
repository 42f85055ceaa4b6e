/- THE LAW PolyOf, PROVED: whatever list of int64 is handed in, poly.Of answers the polynomial of these whole numbers that the document tells: it answers true. The listed variables lie as the program text lays them. -/
import Derived.Test.YtnlhjcfpfapafaaGreatDoorPOq32
import Derived.OpenShut
import Derived.WideShapes
import Derived.Test.YtnlhjcfpfapafaaGreatDoorPOq33
import Derived.ChangeMaps5
import Derived.Test.YtnlhjcfpfapafaaGreatDoorPOq34
import Derived.Test.YtnlhjcfpfapafaaGreatDoorPOq35
import Derived.Test.YtnlhjcfpfapafaaGreatDoorPOq36
import Derived.Test.YtnlhjcfpfapafaaGreatDoorPOq37
import Derived.Test.YtnlhjcfpfapafaaGreatDoorCards
import Derived.Test.YtnlhjcfpfapafaaGreatDoorTie
import Derived.SevenTiedAt
namespace Go.Proofs.YtnlhjcfpfapafaaGreatDoor
open Go.ChangeShapes Go.WideShapes Go.ChangeAt Go.RowKit Go.ChangeMaps Ev
set_option maxRecDepth 100000 in
theorem Zec (os : Os) (started : os.Started) (H : Type) (enc : TypeId × Value → H) :
  ReturnsInHanded {} Tryz.checked os 3 .any (fun w args => (Rows.polyOfSpec.pre enc Tryz.prog Tryz.f3 [] false w args ∧ laidMetH Tryz.prog ZcH w) ∧ sizedMet enc Tryz.prog Tryz.f3 (OpenSpec.ofChange Rows.polyOfSpec) false w args)
   (Rows.polyOfSpec.post enc Tryz.prog Tryz.f3 false true false false) := by
 refine ZcJ (C := Tryz.checked) (X := fun w _ => laidMetH Tryz.prog ZcH w) (fun _ _ _ hh h => h.of_heap hh) own started (by kernel_rfl) Tryz.func3
  (ChangeSpec.witness_shaped (enc := enc) (C := Tryz.checked) (os := os) (X := fun w _ => laidMetH Tryz.prog ZcH w) false (World.doorLaid Tryz.prog 4000 os) #[.slice none 0 0] 8 rfl (World.shaped_of_RefB (by kernel_rfl) (by kernel_rfl)) (by kernel_rfl) (by kernel_rfl) (by kernel_rfl) (Zjo os _)) ?_
 intro W base args ds gs before hval0 hW hL hsh
 have hval : ∀ (j : Nat) t v, Tryz.f3.params[j]? = some t → args[j]? = some v → Value.okWide Tryz.prog W .any base t v := hval0
 have hW' := hW
 obtain ⟨p, q, hA0, hV, rfl, hfz, hnd⟩ := hW
 have hA : DataW.TrodAll enc Tryz.prog W 0 (fun _ => true) true Tryz.f3.params.toList args.toList ds p := hA0
 rw [Tryz.params3] at hA hval
 obtain ⟨v0, vs0, d0, ds0, p0, q0, hargs, rfl, rfl, h0, r0⟩ := trodAll_cons hA
 obtain ⟨hlast, rfl, rfl⟩ := trodAll_nil r0
 obtain rfl : args = #[v0] := by cases args; simp_all
 obtain ⟨rfl, rfl⟩ := trodVars_none hV
 obtain ⟨q0, wq0, lq0, sq0⟩ := ZcG (hval 0 22 v0 rfl rfl) h0
 have hT := ZcI hL
 have hG := ZgC hsh
 clear hA0 hval0
 simp only [List.append_nil] at hW'
 refine (Ev.polyOfJ_any W lq0 wq0  hG hT).mono fun ee W' ⟨he, hb⟩ => ?_
 subst he
 exact ⟨_, rfl, ZgD hW' (fun _ _ _ => (trodAll_cons_mk (shut_bool Tryz.underlying4 _) trodAll_mk0)) (fun sp hsp => by have t := (trodAll_cons_mk (sq0 W' sp hb (fun q h => hsp q (by simp [h]))) trodAll_mk0); simp only [List.append_nil, List.nil_append] at t; exact t) (fun _ => rfl)
  hb (ok_one (by kernel_rfl) rfl (okWide_bool_mk Tryz.underlying4 _))⟩
theorem ZgE : Rows.PolyOfSaid :=
 OpenClaim.holds_of_wide 3 Tryz.f3 rfl rfl rfl rfl rfl rfl rfl ⟨rfl, rfl, rfl, rfl, rfl⟩ rfl rfl rfl rfl rfl (by kernel_rfl) Tryz.func3 Zeb
  (of_decide_eq_true (by kernel_rfl)) (by unfold Func.isWrapper; first | (rw [if_pos (by decide +kernel)]; kernel_rfl) | (rw [if_neg (by decide +kernel)]; exact ⟨rfl, rfl⟩))
  (fun os started H enc _ => Zec os started H enc)
theorem pof_card : Rows.PolyOfCardSaid :=
 Claim7.holds_tied_plain_at .later [] [.data, .data, .data] true (true, "8c089dd74509cdf1c13a1bc1146efa049376ebfe70fe198da6780040f23d7bd5") false
  ZgE (fun _ h => by cases h) (by kernel_rfl) (fun _ h => by cases h) polyOf_row_tie rfl ⟨rfl, rfl⟩ ZlO rfl
  (fun f fn hf hfn => by
   obtain rfl : f = 3 := Option.some.inj ((show Tryz.prog.funcNamed "diapason/diapasonlaw05.PolyOf" = some 3 by kernel_rfl).symm.trans hf) |>.symm
   obtain rfl : fn = Tryz.f3 := (Option.some.inj (Tryz.func3.symm.trans hfn)).symm
   exact ⟨Zjp, fun j t ht => by
    rw [Tryz.params3] at ht
    have h3 : Tryz.prog.wantsStandIn t = false := by
     rcases j with _ | j
     ·obtain rfl : t = 22 := by simpa using ht.symm
      kernel_rfl
     ·simp at ht
    exact h3⟩)
  Zjq
end Go.Proofs.YtnlhjcfpfapafaaGreatDoor
