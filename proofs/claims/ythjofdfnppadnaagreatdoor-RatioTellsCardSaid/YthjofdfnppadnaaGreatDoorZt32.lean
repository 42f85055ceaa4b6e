/- Contracts, in this order: The facts of a row, each by the kernel on its own. -/
import Derived.Test.YthjofdfnppadnaaGreatDoorCards
import Derived.Test.YthjofdfnppadnaaGreatDoorChecked
import Derived.JoinedOf
namespace Go.Proofs.YthjofdfnppadnaaGreatDoor
set_option maxRecDepth 100000
theorem tells_and {a b : Bool} (ha : a = true) (hb : b = true) : (a && b) = true := by rw [ha, hb]; rfl
theorem tells_c0 : ((Rows.ratioTellsRow).wf (OpenSpec.ofChange Rows.ratioTellsSpec)) = true := by kernel_rfl
theorem tells_c1 : (laidOutB Tryz.checked.prog) = true := by kernel_rfl
theorem tells_c2 : (mapsRowed Tryz.checked.prog) = true := by kernel_rfl
theorem tells_c3 : ((Tryz.f5).params.all ((Tryz.checked.prog).readableRec ·)) = true := by kernel_rfl
theorem tells_c4 : (namedTie Tryz.checked.prog (Rows.ratioTellsRow).named (Rows.ratioTellsSpec).vars) = true := by kernel_rfl
theorem tells_c5 : (((Rows.ratioTellsRow).stops == [])) = true := by kernel_rfl
theorem tells_c6 : (((Tryz.checked.prog).stops == [])) = true := by kernel_rfl
theorem tells_c7 : (((Rows.ratioTellsRow).knobs == [])) = true := by kernel_rfl
theorem tells_c8 : (((Tryz.checked.prog).stopKnobs == [])) = true := by kernel_rfl
theorem tells_c9 : (((Rows.ratioTellsRow).inPlace == (Tryz.checked.prog).inPlace 5)) = true := by kernel_rfl
theorem tells_c10 : (((Rows.ratioTellsRow).unfollowed == (Tryz.checked.prog).unfollowed 5)) = true := by kernel_rfl
theorem tells_c11 : (((Rows.ratioTellsRow).recurses == (Tryz.checked.prog).recurses 5)) = true := by kernel_rfl
theorem tells_c12 : (((Rows.ratioTellsRow).named == (Tryz.checked.prog).varsNamed 5)) = true := by kernel_rfl
theorem tells_c13 : (((Rows.ratioTellsRow).maps == ((Tryz.f5).params.toList ++ (Rows.ratioTellsSpec).plain.varTypes Tryz.checked.prog).any ((Tryz.checked.prog).mapsRec ·))) = true := by kernel_rfl
theorem tells_c14 : (((Rows.ratioTellsRow).ifaces == ((Tryz.f5).params.toList ++ (Rows.ratioTellsSpec).plain.varTypes Tryz.checked.prog).any ((Tryz.checked.prog).ifacesRec ·))) = true := by kernel_rfl
theorem tells_c15 : (((Rows.ratioTellsRow).mapsOut == (Tryz.checked.prog).mapsAmong (Tryz.f5).resultTypes.toList)) = true := by kernel_rfl
theorem tells_c16 : (((Rows.ratioTellsRow).loops == ((Tryz.f5).params.toList ++ (Rows.ratioTellsSpec).plain.varTypes Tryz.checked.prog).any ((Tryz.checked.prog).loopsFrom ·))) = true := by kernel_rfl
theorem tells_c17 : (((Rows.ratioTellsRow).wideKeys == ((Tryz.f5).params.toList ++ (Rows.ratioTellsSpec).plain.varTypes Tryz.checked.prog ++ (Tryz.f5).resultTypes.toList).any ((Tryz.checked.prog).wideKeysFrom ·))) = true := by kernel_rfl
theorem tells_c18 : ((Rows.ratioTellsSpec).vars.all ((Tryz.checked.prog).varReadable ·)) = true := by kernel_rfl
theorem tells_c19 : ((Tryz.f5).resultTypes.all (fun t => (Tryz.checked.prog).readableRec t && decide (t < (Tryz.checked.prog).types.size))) = true := by kernel_rfl
theorem tells_c20 : (((Rows.ratioTellsRow).ifacesOut == (Tryz.f5).resultTypes.toList.any ((Tryz.checked.prog).ifacesRec ·))) = true := by kernel_rfl
theorem tells_c21 : (((Rows.ratioTellsRow).loopsOut == (Tryz.f5).resultTypes.toList.any ((Tryz.checked.prog).loopsFrom ·))) = true := by kernel_rfl
theorem tells_c22 : (((Rows.ratioTellsRow).plainKeys == (Tryz.checked.prog).plainKeys)) = true := by kernel_rfl
theorem tells_c23 : ((Rows.ratioTellsRow).shortTexts.isNone) = true := by kernel_rfl
theorem tells_c24 : ((Tryz.checked.prog).stopsHeard) = true := by kernel_rfl
theorem tells_c25 : ((Tryz.checked.prog).mayEnter) = true := by kernel_rfl
theorem tells_c26 : (((Rows.ratioTellsRow).lifted == (Tryz.checked.prog).liftsFinal)) = true := by kernel_rfl
theorem tells_c27 : (((Tryz.checked.prog).make == some (Rows.ratioTellsRow).make)) = true := by kernel_rfl
theorem tells_c28 : (((Rows.ratioTellsRow).kinds == (if (Rows.ratioTellsRow).domain.isEmpty then [] else (Tryz.f5).params.toList.map fun t => match (Tryz.checked.prog).underlying t with | some (.int k) => some k | _ => none))) = true := by kernel_rfl
theorem tells_c29 : (((Rows.ratioTellsRow).pinned == (Rows.ratioTellsRow).pinnedBy)) = true := by kernel_rfl
theorem tells_c30 : (((Rows.ratioTellsRow).veiled == ((Tryz.f5).params.toList ++ (Rows.ratioTellsSpec).plain.varTypes Tryz.checked.prog ++ (Tryz.f5).resultTypes.toList).any ((Tryz.checked.prog).veiledRec ·))) = true := by kernel_rfl
theorem tells_c31 : ((Rows.ratioTellsRow).veiledFits Tryz.checked.prog (Tryz.f5).params.toList ((Tryz.f5).params.toList ++ (Rows.ratioTellsSpec).plain.varTypes Tryz.checked.prog ++ (Tryz.f5).resultTypes.toList)) = true := by kernel_rfl
theorem tells_closed : joinedFacts Tryz.checked.prog 5 Tryz.f5 Rows.ratioTellsSpec Rows.ratioTellsRow = true := (tells_and (tells_and (tells_and (tells_and (tells_and (tells_and (tells_and (tells_and (tells_and (tells_and (tells_and (tells_and (tells_and (tells_and (tells_and (tells_and (tells_and (tells_and (tells_and (tells_and (tells_and (tells_and (tells_and (tells_and (tells_and (tells_and (tells_and (tells_and (tells_and (tells_and (tells_and tells_c0 tells_c1) tells_c2) tells_c3) tells_c4) tells_c5) tells_c6) tells_c7) tells_c8) tells_c9) tells_c10) tells_c11) tells_c12) tells_c13) tells_c14) tells_c15) tells_c16) tells_c17) tells_c18) tells_c19) tells_c20) tells_c21) tells_c22) tells_c23) tells_c24) tells_c25) tells_c26) tells_c27) tells_c28) tells_c29) tells_c30) tells_c31)
end Go.Proofs.YthjofdfnppadnaaGreatDoor
