/- The statement SchurSigns: whatever chain of reflections is handed in, Closed of both signs add up to over twice, and each is itself, turned round, but for its sign: it answers true. No condition. -/
import Derived.Test.YtnlhjcfpfapafaaRows
import Derived.Test.YtnlhjcfpfapafaaSSq32
import Derived.ProofKit
import Derived.OpenShut
import Derived.HandedShaped
namespace Go.Proofs.Ytnlhjcfpfapafaa
open Go.ChangeShapes Go.WideShapes Go.ChangeAt Go.RowKit Ev
set_option maxRecDepth 100000 in
theorem ssigns_lifted (os : Os) (started : os.Started) (H : Type) (enc : TypeId × Value → H) :
  ReturnsInHanded {} Try.checked os 6 .any (Rows.schurSignsSpec.pre6 enc Try.prog Try.f6 Rows.schurSignsRow.domain false) (Rows.schurSignsSpec.post enc Try.prog Try.f6 false true false false) := by
 refine returnsInHanded_of_change_shaped (C := Try.checked) own started (by kernel_rfl) Try.func6
  (ChangeSpec.witness6 (enc := enc) (C := Try.checked) false ⟨#[], #[.agg #[.slice none 0 0, .int .i64 0]], []⟩ 8 (by kernel_rfl) (by kernel_rfl) (by kernel_rfl) (by kernel_rfl)) ?_
 intro W base args ds gs before hval0 hW hcnd _ hsh _
 have hval : ∀ (j : Nat) t v, Try.f6.params[j]? = some t → args[j]? = some v → Value.okWide Try.prog W .any base t v := hval0
 have hW' := hW
 obtain ⟨p, q, hA0, hV, rfl, hfz, hnd⟩ := hW
 have hA : DataW.TrodAll enc Try.prog W 0 (fun _ => true) true Try.f6.params.toList args.toList ds p := hA0
 rw [Try.params6] at hA hval
 obtain ⟨v0, vs0, d0, ds0, p0, q0, hargs, rfl, rfl, h0, r0⟩ := trodAll_cons hA
 obtain ⟨hlast, rfl, rfl⟩ := trodAll_nil r0
 obtain rfl : args = #[v0] := by cases args; simp_all
 obtain ⟨rfl, rfl⟩ := trodVars_none hV
 obtain ⟨s0, z0, qs0, n0, raw0, rfl, wz0, fq0, br0, lr0, sq0⟩ := chain_open (hval 0 50 v0 rfl rfl) h0
 have hG := glob_size hsh
 clear hA0 hval0
 simp only [List.append_nil] at hW'
 have hz := bounds_i64 wz0
 refine (Ev.ssigns_any W fq0 br0 lr0 hz.1 hz.2 hG trivial).mono fun ee W' ⟨he, hb⟩ => ?_
 subst he
 exact ⟨_, rfl, post_kept hW' (fun _ _ _ => (trodAll_cons_mk (shut_bool Try.underlying4 _) trodAll_mk0)) (fun sp hsp => by have t := (trodAll_cons_mk (sq0 W' sp hb (fun q h => hsp q (by simp [h]))) trodAll_mk0); simp only [List.append_nil, List.nil_append] at t; exact t) (fun _ => rfl)
  hb (ok_one (by kernel_rfl) rfl (okWide_bool_mk Try.underlying4 _))⟩
theorem ssigns_over : Rows.schurSignsRow.holds Try.pinned (OpenSpec.ofChange Rows.schurSignsSpec) :=
 OpenClaim.holds_of_wide 6 Try.f6 rfl rfl rfl rfl rfl rfl rfl ⟨rfl, rfl, rfl, rfl, rfl⟩ rfl rfl rfl rfl rfl (by kernel_rfl) Try.func6 (by kernel_rfl)
  (of_decide_eq_true (by kernel_rfl)) (by unfold Func.isWrapper; first | (rw [if_pos (by decide +kernel)]; kernel_rfl) | (rw [if_neg (by decide +kernel)]; exact ⟨rfl, rfl⟩))
  (fun os started H enc _ => ssigns_lifted os started H enc)
theorem ssigns_holds : Rows.SchurSignsSaid := ssigns_over
end Go.Proofs.Ytnlhjcfpfapafaa
