/- The statement EndsBack: whatever steps and whatever two numbers are handed in, a table's lengths and flares go there and back, rise, and are told within its rows alone: it answers true. No condition. -/
import Derived.Test.YtnlhjcfpfapafaaRows
import Derived.Test.YtnlhjcfpfapafaaEBq31
import Derived.Test.YtnlhjcfpfapafaaEBq29
import Derived.ProofKit
import Derived.OpenShut
import Derived.HandedShaped
namespace Go.Proofs.Ytnlhjcfpfapafaa
open Go.ChangeShapes Go.WideShapes Go.ChangeAt Go.RowKit Ev
set_option maxRecDepth 100000 in
theorem eback_lifted (os : Os) (started : os.Started) (H : Type) (enc : TypeId × Value → H) :
  ReturnsInHanded {} Try.checked os 4 .any (Rows.endsBackSpec.pre6 enc Try.prog Try.f4 Rows.endsBackRow.domain false) (Rows.endsBackSpec.post enc Try.prog Try.f4 false true false false) := by
 refine returnsInHanded_of_change_shaped (C := Try.checked) own started (by kernel_rfl) Try.func4
  (ChangeSpec.witness6 (enc := enc) (C := Try.checked) false ⟨#[], #[.slice none 0 0, .int .i16 0, .int .i16 0], []⟩ 8 (by kernel_rfl) (by kernel_rfl) (by kernel_rfl) (by kernel_rfl)) ?_
 intro W base args ds gs before hval0 hW hcnd _ hsh _
 have hval : ∀ (j : Nat) t v, Try.f4.params[j]? = some t → args[j]? = some v → Value.okWide Try.prog W .any base t v := hval0
 have hW' := hW
 obtain ⟨p, q, hA0, hV, rfl, hfz, hnd⟩ := hW
 have hA : DataW.TrodAll enc Try.prog W 0 (fun _ => true) true Try.f4.params.toList args.toList ds p := hA0
 rw [Try.params4] at hA hval
 obtain ⟨v0, vs0, d0, ds0, p0, q0, hargs, rfl, rfl, h0, r0⟩ := trodAll_cons hA
 obtain ⟨v1, vs1, d1, ds1, p1, q1, ha1, rfl, rfl, h1, r1⟩ := trodAll_cons r0
 obtain ⟨v2, vs2, d2, ds2, p2, q2, ha2, rfl, rfl, h2, r2⟩ := trodAll_cons r1
 obtain ⟨hlast, rfl, rfl⟩ := trodAll_nil r2
 obtain rfl : args = #[v0, v1, v2] := by cases args; simp_all
 obtain ⟨rfl, rfl⟩ := trodVars_none hV
 obtain ⟨q0, lq0, sq0⟩ := steps_open (hval 0 40 v0 rfl rfl) h0
 obtain ⟨n1, rfl, rfl, rfl, wn1⟩ := open_int Try.underlying41 (hval 1 41 v1 rfl rfl) h1
 obtain ⟨n2, rfl, rfl, rfl, wn2⟩ := open_int Try.underlying41 (hval 2 41 v2 rfl rfl) h2
 have hG := glob_size hsh
 clear hA0 hval0
 simp only [List.append_nil] at hW'
 refine (Ev.endsBack_any W (bounds_i16 wn1) (bounds_i16 wn2) lq0 hG trivial).mono fun ee W' ⟨he, hb⟩ => ?_
 subst he
 exact ⟨_, rfl, post_kept hW' (fun _ _ _ => (trodAll_cons_mk (shut_bool Try.underlying4 _) trodAll_mk0)) (fun sp hsp => by have t := (trodAll_cons_mk (sq0 W' sp hb (fun q h => hsp q (by simp [h]))) (trodAll_cons_mk (shut_int Try.underlying41 wn1) (trodAll_cons_mk (shut_int Try.underlying41 wn2) trodAll_mk0))); simp only [List.append_nil, List.nil_append] at t; exact t) (fun _ => rfl)
  hb (ok_one (by kernel_rfl) rfl (okWide_bool_mk Try.underlying4 _))⟩
theorem eback_over : Rows.endsBackRow.holds Try.pinned (OpenSpec.ofChange Rows.endsBackSpec) :=
 OpenClaim.holds_of_wide 4 Try.f4 rfl rfl rfl rfl rfl rfl rfl ⟨rfl, rfl, rfl, rfl, rfl⟩ rfl rfl rfl rfl rfl (by kernel_rfl) Try.func4 (by kernel_rfl)
  (of_decide_eq_true (by kernel_rfl)) (by unfold Func.isWrapper; first | (rw [if_pos (by decide +kernel)]; kernel_rfl) | (rw [if_neg (by decide +kernel)]; exact ⟨rfl, rfl⟩))
  (fun os started H enc _ => eback_lifted os started H enc)
theorem eback_holds : Rows.EndsBackSaid := eback_over
end Go.Proofs.Ytnlhjcfpfapafaa
