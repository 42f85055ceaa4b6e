/- Contracts, in this order: The facts of a row, each by the kernel on its own. -/
import Derived.Test.YtgcgmplepcfbaaaGreatDoorCards
import Derived.Test.YtgcgmplepcfbaaaGreatDoorChecked
import Derived.JoinedOf
/- The facts of a row, each by the kernel on its own. -/
namespace Go.Proofs.YtgcgmplepcfbaaaGreatDoor
set_option maxRecDepth 100000
theorem gback_and {a b : Bool} (ha : a = true) (hb : b = true) : (a && b) = true := by rw [ha, hb]; rfl
theorem gback_c0 : ((Rows.grainBackRow).wf (OpenSpec.ofChange Rows.grainBackSpec)) = true := by kernel_rfl
theorem gback_c1 : (laidOutB Tryz.checked.prog) = true := by kernel_rfl
theorem gback_c2 : (mapsRowed Tryz.checked.prog) = true := by kernel_rfl
theorem gback_c3 : ((Tryz.f10).params.all ((Tryz.checked.prog).readableRec ·)) = true := by kernel_rfl
theorem gback_c4 : (namedTie Tryz.checked.prog (Rows.grainBackRow).named (Rows.grainBackSpec).vars) = true := by kernel_rfl
theorem gback_c5 : (((Rows.grainBackRow).stops == [])) = true := by kernel_rfl
theorem gback_c6 : (((Tryz.checked.prog).stops == [])) = true := by kernel_rfl
theorem gback_c7 : (((Rows.grainBackRow).knobs == [])) = true := by kernel_rfl
theorem gback_c8 : (((Tryz.checked.prog).stopKnobs == [])) = true := by kernel_rfl
theorem gback_c9 : (((Rows.grainBackRow).inPlace == (Tryz.checked.prog).inPlace 10)) = true := by kernel_rfl
theorem gback_c10 : (((Rows.grainBackRow).unfollowed == (Tryz.checked.prog).unfollowed 10)) = true := by kernel_rfl
theorem gback_c11 : (((Rows.grainBackRow).recurses == (Tryz.checked.prog).recurses 10)) = true := by kernel_rfl
theorem gback_c12 : (((Rows.grainBackRow).named == (Tryz.checked.prog).varsNamed 10)) = true := by kernel_rfl
theorem gback_c13 : (((Rows.grainBackRow).maps == ((Tryz.f10).params.toList ++ (Rows.grainBackSpec).plain.varTypes Tryz.checked.prog).any ((Tryz.checked.prog).mapsRec ·))) = true := by kernel_rfl
theorem gback_c14 : (((Rows.grainBackRow).ifaces == ((Tryz.f10).params.toList ++ (Rows.grainBackSpec).plain.varTypes Tryz.checked.prog).any ((Tryz.checked.prog).ifacesRec ·))) = true := by kernel_rfl
theorem gback_c15 : (((Rows.grainBackRow).mapsOut == (Tryz.checked.prog).mapsAmong (Tryz.f10).resultTypes.toList)) = true := by kernel_rfl
theorem gback_c16 : (((Rows.grainBackRow).loops == ((Tryz.f10).params.toList ++ (Rows.grainBackSpec).plain.varTypes Tryz.checked.prog).any ((Tryz.checked.prog).loopsFrom ·))) = true := by kernel_rfl
theorem gback_c17 : (((Rows.grainBackRow).wideKeys == ((Tryz.f10).params.toList ++ (Rows.grainBackSpec).plain.varTypes Tryz.checked.prog ++ (Tryz.f10).resultTypes.toList).any ((Tryz.checked.prog).wideKeysFrom ·))) = true := by kernel_rfl
theorem gback_c18 : ((Rows.grainBackSpec).vars.all ((Tryz.checked.prog).varReadable ·)) = true := by kernel_rfl
theorem gback_c19 : ((Tryz.f10).resultTypes.all (fun t => (Tryz.checked.prog).readableRec t && decide (t < (Tryz.checked.prog).types.size))) = true := by kernel_rfl
theorem gback_c20 : (((Rows.grainBackRow).ifacesOut == (Tryz.f10).resultTypes.toList.any ((Tryz.checked.prog).ifacesRec ·))) = true := by kernel_rfl
theorem gback_c21 : (((Rows.grainBackRow).loopsOut == (Tryz.f10).resultTypes.toList.any ((Tryz.checked.prog).loopsFrom ·))) = true := by kernel_rfl
theorem gback_c22 : (((Rows.grainBackRow).plainKeys == (Tryz.checked.prog).plainKeys)) = true := by kernel_rfl
theorem gback_c23 : ((Rows.grainBackRow).shortTexts.isNone) = true := by kernel_rfl
theorem gback_c24 : ((Tryz.checked.prog).stopsHeard) = true := by kernel_rfl
theorem gback_c25 : ((Tryz.checked.prog).mayEnter) = true := by kernel_rfl
theorem gback_c26 : (((Rows.grainBackRow).lifted == (Tryz.checked.prog).liftsFinal)) = true := by kernel_rfl
theorem gback_c27 : (((Tryz.checked.prog).make == some (Rows.grainBackRow).make)) = true := by kernel_rfl
theorem gback_c28 : (((Rows.grainBackRow).kinds == (if (Rows.grainBackRow).domain.isEmpty then [] else (Tryz.f10).params.toList.map fun t => match (Tryz.checked.prog).underlying t with | some (.int k) => some k | _ => none))) = true := by kernel_rfl
theorem gback_c29 : (((Rows.grainBackRow).pinned == (Rows.grainBackRow).pinnedBy)) = true := by kernel_rfl
theorem gback_c30 : (((Rows.grainBackRow).veiled == ((Tryz.f10).params.toList ++ (Rows.grainBackSpec).plain.varTypes Tryz.checked.prog ++ (Tryz.f10).resultTypes.toList).any ((Tryz.checked.prog).veiledRec ·))) = true := by kernel_rfl
theorem gback_c31 : ((Rows.grainBackRow).veiledFits Tryz.checked.prog (Tryz.f10).params.toList ((Tryz.f10).params.toList ++ (Rows.grainBackSpec).plain.varTypes Tryz.checked.prog ++ (Tryz.f10).resultTypes.toList)) = true := by kernel_rfl
theorem gback_closed : joinedFacts Tryz.checked.prog 10 Tryz.f10 Rows.grainBackSpec Rows.grainBackRow = true := (gback_and (gback_and (gback_and (gback_and (gback_and (gback_and (gback_and (gback_and (gback_and (gback_and (gback_and (gback_and (gback_and (gback_and (gback_and (gback_and (gback_and (gback_and (gback_and (gback_and (gback_and (gback_and (gback_and (gback_and (gback_and (gback_and (gback_and (gback_and (gback_and (gback_and (gback_and gback_c0 gback_c1) gback_c2) gback_c3) gback_c4) gback_c5) gback_c6) gback_c7) gback_c8) gback_c9) gback_c10) gback_c11) gback_c12) gback_c13) gback_c14) gback_c15) gback_c16) gback_c17) gback_c18) gback_c19) gback_c20) gback_c21) gback_c22) gback_c23) gback_c24) gback_c25) gback_c26) gback_c27) gback_c28) gback_c29) gback_c30) gback_c31)
end Go.Proofs.YtgcgmplepcfbaaaGreatDoor
