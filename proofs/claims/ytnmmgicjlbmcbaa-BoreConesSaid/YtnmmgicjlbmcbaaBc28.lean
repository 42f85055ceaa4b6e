/- The statement BoreCones: whatever four bytes make a cone, its pieces are as long as it is, each one at least, and widen or narrow all the way: it answers true. No condition. -/
import Derived.Test.YtnmmgicjlbmcbaaRows
import Derived.Test.YtnmmgicjlbmcbaaBc26
import Derived.Test.YtnmmgicjlbmcbaaBc27
import Derived.ProofKit
import Derived.OpenShut
import Derived.HandedShaped
namespace Go.Proofs.Ytnmmgicjlbmcbaa
open Go.ChangeShapes Go.WideShapes Go.ChangeAt Go.RowKit Ev
set_option maxRecDepth 100000 in
theorem cones_lifted (os : Os) (started : os.Started) (H : Type) (enc : TypeId × Value → H) :
    ReturnsInHanded {} Try.checked os 3 .any (Rows.boreConesSpec.pre6 enc Try.prog Try.f3 Rows.boreConesRow.domain false) (Rows.boreConesSpec.post enc Try.prog Try.f3 false true false false) := by
  refine returnsInHanded_of_change_shaped (C := Try.checked) own started (by kernel_rfl) Try.func3
    (ChangeSpec.witness6 (enc := enc) (C := Try.checked) false ⟨#[], #[.agg #[.int .u8 0, .int .u8 0, .int .u8 0, .int .u8 0]], []⟩ 8 (by kernel_rfl) (by kernel_rfl) (by kernel_rfl) (by kernel_rfl)) ?_
  intro W base args ds gs before hval0 hW hcnd _ hsh _
  have hval : ∀ (j : Nat) t v, Try.f3.params[j]? = some t → args[j]? = some v → Value.okWide Try.prog W .any base t v := hval0
  have hW' := hW
  obtain ⟨p, q, hA0, hV, rfl, hfz, hnd⟩ := hW
  have hA : DataW.TrodAll enc Try.prog W 0 (fun _ => true) true Try.f3.params.toList args.toList ds p := hA0
  rw [Try.params3] at hA hval
  obtain ⟨v0, vs0, d0, ds0, p0, q0, hargs, rfl, rfl, h0, r0⟩ := trodAll_cons hA
  obtain ⟨hlast, rfl, rfl⟩ := trodAll_nil r0
  obtain rfl : args = #[v0] := by cases args; simp_all
  obtain ⟨rfl, rfl⟩ := trodVars_none hV
  obtain ⟨a0, b0, c0, d0, rfl, rfl, rfl, wa0, wb0, wc0, wd0⟩ := tube_open (hval 0 23 v0 rfl rfl) h0
  have bd : ∀ x : Int, (Lit.int .u8 x).wf = true → ∃ n : Nat, n < 256 ∧ x = (n : Nat) := fun x hx => by
    have emin : IntKind.u8.min = 0 := by decide
    have emax : IntKind.u8.max = 255 := by decide
    have h : 0 ≤ x ∧ x ≤ 255 := by simpa [Lit.wf, emin, emax] using hx
    exact ⟨x.toNat, by omega, by omega⟩
  obtain ⟨a0, ha0, rfl⟩ := bd _ wa0
  obtain ⟨b0, hb0, rfl⟩ := bd _ wb0
  obtain ⟨c0, hc0, rfl⟩ := bd _ wc0
  obtain ⟨d0, hd0, rfl⟩ := bd _ wd0
  have hG := glob_size hsh
  clear hA0 hval0
  simp only [List.append_nil] at hW'
  refine (Ev.boreCones_any W a0 b0 c0 d0 ha0 hb0 hc0 hd0 hG trivial).mono fun ee W' ⟨he, hb⟩ => ?_
  subst he
  exact ⟨_, rfl, post_new hW' (fun _ _ _ => (trodAll_cons_mk (shut_bool Try.underlying4 _) trodAll_mk0)) (fun sp => (trodAll_cons_mk (tube_shut wa0 wb0 wc0 wd0) trodAll_mk0)) (fun _ => rfl)
    hb (ok_one (by kernel_rfl) rfl (okWide_bool_mk Try.underlying4 _))⟩
theorem cones_over : Rows.boreConesRow.holds Try.pinned (OpenSpec.ofChange Rows.boreConesSpec) :=
  OpenClaim.holds_of_wide 3 Try.f3 rfl rfl rfl rfl rfl rfl rfl ⟨rfl, rfl, rfl, rfl, rfl⟩ rfl rfl rfl rfl rfl (by kernel_rfl) Try.func3 (by kernel_rfl)
    (of_decide_eq_true (by kernel_rfl)) (by unfold Func.isWrapper; first | (rw [if_pos (by decide +kernel)]; kernel_rfl) | (rw [if_neg (by decide +kernel)]; exact ⟨rfl, rfl⟩))
    (fun os started H enc _ => cones_lifted os started H enc)
theorem cones_holds : Rows.BoreConesSaid := cones_over
end Go.Proofs.Ytnmmgicjlbmcbaa
