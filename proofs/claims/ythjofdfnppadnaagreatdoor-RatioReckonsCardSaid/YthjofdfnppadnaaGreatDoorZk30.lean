/- Contracts, in this order: The facts of a row, each by the kernel on its own. -/
import Derived.Test.YthjofdfnppadnaaGreatDoorCards
import Derived.Test.YthjofdfnppadnaaGreatDoorChecked
import Derived.JoinedOf
namespace Go.Proofs.YthjofdfnppadnaaGreatDoor
set_option maxRecDepth 100000
theorem reckons_and {a b : Bool} (ha : a = true) (hb : b = true) : (a && b) = true := by rw [ha, hb]; rfl
theorem reckons_c0 : ((Rows.ratioReckonsRow).wf (OpenSpec.ofChange Rows.ratioReckonsSpec)) = true := by kernel_rfl
theorem reckons_c1 : (laidOutB Tryz.checked.prog) = true := by kernel_rfl
theorem reckons_c2 : (mapsRowed Tryz.checked.prog) = true := by kernel_rfl
theorem reckons_c3 : ((Tryz.f4).params.all ((Tryz.checked.prog).readableRec ·)) = true := by kernel_rfl
theorem reckons_c4 : (namedTie Tryz.checked.prog (Rows.ratioReckonsRow).named (Rows.ratioReckonsSpec).vars) = true := by kernel_rfl
theorem reckons_c5 : (((Rows.ratioReckonsRow).stops == [])) = true := by kernel_rfl
theorem reckons_c6 : (((Tryz.checked.prog).stops == [])) = true := by kernel_rfl
theorem reckons_c7 : (((Rows.ratioReckonsRow).knobs == [])) = true := by kernel_rfl
theorem reckons_c8 : (((Tryz.checked.prog).stopKnobs == [])) = true := by kernel_rfl
theorem reckons_c9 : (((Rows.ratioReckonsRow).inPlace == (Tryz.checked.prog).inPlace 4)) = true := by kernel_rfl
theorem reckons_c10 : (((Rows.ratioReckonsRow).unfollowed == (Tryz.checked.prog).unfollowed 4)) = true := by kernel_rfl
theorem reckons_c11 : (((Rows.ratioReckonsRow).recurses == (Tryz.checked.prog).recurses 4)) = true := by kernel_rfl
theorem reckons_c12 : (((Rows.ratioReckonsRow).named == (Tryz.checked.prog).varsNamed 4)) = true := by kernel_rfl
theorem reckons_c13 : (((Rows.ratioReckonsRow).maps == ((Tryz.f4).params.toList ++ (Rows.ratioReckonsSpec).plain.varTypes Tryz.checked.prog).any ((Tryz.checked.prog).mapsRec ·))) = true := by kernel_rfl
theorem reckons_c14 : (((Rows.ratioReckonsRow).ifaces == ((Tryz.f4).params.toList ++ (Rows.ratioReckonsSpec).plain.varTypes Tryz.checked.prog).any ((Tryz.checked.prog).ifacesRec ·))) = true := by kernel_rfl
theorem reckons_c15 : (((Rows.ratioReckonsRow).mapsOut == (Tryz.checked.prog).mapsAmong (Tryz.f4).resultTypes.toList)) = true := by kernel_rfl
theorem reckons_c16 : (((Rows.ratioReckonsRow).loops == ((Tryz.f4).params.toList ++ (Rows.ratioReckonsSpec).plain.varTypes Tryz.checked.prog).any ((Tryz.checked.prog).loopsFrom ·))) = true := by kernel_rfl
theorem reckons_c17 : (((Rows.ratioReckonsRow).wideKeys == ((Tryz.f4).params.toList ++ (Rows.ratioReckonsSpec).plain.varTypes Tryz.checked.prog ++ (Tryz.f4).resultTypes.toList).any ((Tryz.checked.prog).wideKeysFrom ·))) = true := by kernel_rfl
theorem reckons_c18 : ((Rows.ratioReckonsSpec).vars.all ((Tryz.checked.prog).varReadable ·)) = true := by kernel_rfl
theorem reckons_c19 : ((Tryz.f4).resultTypes.all (fun t => (Tryz.checked.prog).readableRec t && decide (t < (Tryz.checked.prog).types.size))) = true := by kernel_rfl
theorem reckons_c20 : (((Rows.ratioReckonsRow).ifacesOut == (Tryz.f4).resultTypes.toList.any ((Tryz.checked.prog).ifacesRec ·))) = true := by kernel_rfl
theorem reckons_c21 : (((Rows.ratioReckonsRow).loopsOut == (Tryz.f4).resultTypes.toList.any ((Tryz.checked.prog).loopsFrom ·))) = true := by kernel_rfl
theorem reckons_c22 : (((Rows.ratioReckonsRow).plainKeys == (Tryz.checked.prog).plainKeys)) = true := by kernel_rfl
theorem reckons_c23 : ((Rows.ratioReckonsRow).shortTexts.isNone) = true := by kernel_rfl
theorem reckons_c24 : ((Tryz.checked.prog).stopsHeard) = true := by kernel_rfl
theorem reckons_c25 : ((Tryz.checked.prog).mayEnter) = true := by kernel_rfl
theorem reckons_c26 : (((Rows.ratioReckonsRow).lifted == (Tryz.checked.prog).liftsFinal)) = true := by kernel_rfl
theorem reckons_c27 : (((Tryz.checked.prog).make == some (Rows.ratioReckonsRow).make)) = true := by kernel_rfl
theorem reckons_c28 : (((Rows.ratioReckonsRow).kinds == (if (Rows.ratioReckonsRow).domain.isEmpty then [] else (Tryz.f4).params.toList.map fun t => match (Tryz.checked.prog).underlying t with | some (.int k) => some k | _ => none))) = true := by kernel_rfl
theorem reckons_c29 : (((Rows.ratioReckonsRow).pinned == (Rows.ratioReckonsRow).pinnedBy)) = true := by kernel_rfl
theorem reckons_c30 : (((Rows.ratioReckonsRow).veiled == ((Tryz.f4).params.toList ++ (Rows.ratioReckonsSpec).plain.varTypes Tryz.checked.prog ++ (Tryz.f4).resultTypes.toList).any ((Tryz.checked.prog).veiledRec ·))) = true := by kernel_rfl
theorem reckons_c31 : ((Rows.ratioReckonsRow).veiledFits Tryz.checked.prog (Tryz.f4).params.toList ((Tryz.f4).params.toList ++ (Rows.ratioReckonsSpec).plain.varTypes Tryz.checked.prog ++ (Tryz.f4).resultTypes.toList)) = true := by kernel_rfl
theorem reckons_closed : joinedFacts Tryz.checked.prog 4 Tryz.f4 Rows.ratioReckonsSpec Rows.ratioReckonsRow = true := (reckons_and (reckons_and (reckons_and (reckons_and (reckons_and (reckons_and (reckons_and (reckons_and (reckons_and (reckons_and (reckons_and (reckons_and (reckons_and (reckons_and (reckons_and (reckons_and (reckons_and (reckons_and (reckons_and (reckons_and (reckons_and (reckons_and (reckons_and (reckons_and (reckons_and (reckons_and (reckons_and (reckons_and (reckons_and (reckons_and (reckons_and reckons_c0 reckons_c1) reckons_c2) reckons_c3) reckons_c4) reckons_c5) reckons_c6) reckons_c7) reckons_c8) reckons_c9) reckons_c10) reckons_c11) reckons_c12) reckons_c13) reckons_c14) reckons_c15) reckons_c16) reckons_c17) reckons_c18) reckons_c19) reckons_c20) reckons_c21) reckons_c22) reckons_c23) reckons_c24) reckons_c25) reckons_c26) reckons_c27) reckons_c28) reckons_c29) reckons_c30) reckons_c31)
end Go.Proofs.YthjofdfnppadnaaGreatDoor
