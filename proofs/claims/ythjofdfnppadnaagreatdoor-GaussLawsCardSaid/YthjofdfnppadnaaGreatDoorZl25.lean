/- Contracts, in this order: The facts of a row, each by the kernel on its own. -/
import Derived.Test.YthjofdfnppadnaaGreatDoorCards
import Derived.Test.YthjofdfnppadnaaGreatDoorChecked
import Derived.JoinedOf
namespace Go.Proofs.YthjofdfnppadnaaGreatDoor
set_option maxRecDepth 100000
theorem glaws_and {a b : Bool} (ha : a = true) (hb : b = true) : (a && b) = true := by rw [ha, hb]; rfl
theorem glaws_c0 : ((Rows.gaussLawsRow).wf (OpenSpec.ofChange Rows.gaussLawsSpec)) = true := by kernel_rfl
theorem glaws_c1 : (laidOutB Tryz.checked.prog) = true := by kernel_rfl
theorem glaws_c2 : (mapsRowed Tryz.checked.prog) = true := by kernel_rfl
theorem glaws_c3 : ((Tryz.f7).params.all ((Tryz.checked.prog).readableRec ·)) = true := by kernel_rfl
theorem glaws_c4 : (namedTie Tryz.checked.prog (Rows.gaussLawsRow).named (Rows.gaussLawsSpec).vars) = true := by kernel_rfl
theorem glaws_c5 : (((Rows.gaussLawsRow).stops == [])) = true := by kernel_rfl
theorem glaws_c6 : (((Tryz.checked.prog).stops == [])) = true := by kernel_rfl
theorem glaws_c7 : (((Rows.gaussLawsRow).knobs == [])) = true := by kernel_rfl
theorem glaws_c8 : (((Tryz.checked.prog).stopKnobs == [])) = true := by kernel_rfl
theorem glaws_c9 : (((Rows.gaussLawsRow).inPlace == (Tryz.checked.prog).inPlace 7)) = true := by kernel_rfl
theorem glaws_c10 : (((Rows.gaussLawsRow).unfollowed == (Tryz.checked.prog).unfollowed 7)) = true := by kernel_rfl
theorem glaws_c11 : (((Rows.gaussLawsRow).recurses == (Tryz.checked.prog).recurses 7)) = true := by kernel_rfl
theorem glaws_c12 : (((Rows.gaussLawsRow).named == (Tryz.checked.prog).varsNamed 7)) = true := by kernel_rfl
theorem glaws_c13 : (((Rows.gaussLawsRow).maps == ((Tryz.f7).params.toList ++ (Rows.gaussLawsSpec).plain.varTypes Tryz.checked.prog).any ((Tryz.checked.prog).mapsRec ·))) = true := by kernel_rfl
theorem glaws_c14 : (((Rows.gaussLawsRow).ifaces == ((Tryz.f7).params.toList ++ (Rows.gaussLawsSpec).plain.varTypes Tryz.checked.prog).any ((Tryz.checked.prog).ifacesRec ·))) = true := by kernel_rfl
theorem glaws_c15 : (((Rows.gaussLawsRow).mapsOut == (Tryz.checked.prog).mapsAmong (Tryz.f7).resultTypes.toList)) = true := by kernel_rfl
theorem glaws_c16 : (((Rows.gaussLawsRow).loops == ((Tryz.f7).params.toList ++ (Rows.gaussLawsSpec).plain.varTypes Tryz.checked.prog).any ((Tryz.checked.prog).loopsFrom ·))) = true := by kernel_rfl
theorem glaws_c17 : (((Rows.gaussLawsRow).wideKeys == ((Tryz.f7).params.toList ++ (Rows.gaussLawsSpec).plain.varTypes Tryz.checked.prog ++ (Tryz.f7).resultTypes.toList).any ((Tryz.checked.prog).wideKeysFrom ·))) = true := by kernel_rfl
theorem glaws_c18 : ((Rows.gaussLawsSpec).vars.all ((Tryz.checked.prog).varReadable ·)) = true := by kernel_rfl
theorem glaws_c19 : ((Tryz.f7).resultTypes.all (fun t => (Tryz.checked.prog).readableRec t && decide (t < (Tryz.checked.prog).types.size))) = true := by kernel_rfl
theorem glaws_c20 : (((Rows.gaussLawsRow).ifacesOut == (Tryz.f7).resultTypes.toList.any ((Tryz.checked.prog).ifacesRec ·))) = true := by kernel_rfl
theorem glaws_c21 : (((Rows.gaussLawsRow).loopsOut == (Tryz.f7).resultTypes.toList.any ((Tryz.checked.prog).loopsFrom ·))) = true := by kernel_rfl
theorem glaws_c22 : (((Rows.gaussLawsRow).plainKeys == (Tryz.checked.prog).plainKeys)) = true := by kernel_rfl
theorem glaws_c23 : ((Rows.gaussLawsRow).shortTexts.isNone) = true := by kernel_rfl
theorem glaws_c24 : ((Tryz.checked.prog).stopsHeard) = true := by kernel_rfl
theorem glaws_c25 : ((Tryz.checked.prog).mayEnter) = true := by kernel_rfl
theorem glaws_c26 : (((Rows.gaussLawsRow).lifted == (Tryz.checked.prog).liftsFinal)) = true := by kernel_rfl
theorem glaws_c27 : (((Tryz.checked.prog).make == some (Rows.gaussLawsRow).make)) = true := by kernel_rfl
theorem glaws_c28 : (((Rows.gaussLawsRow).kinds == (if (Rows.gaussLawsRow).domain.isEmpty then [] else (Tryz.f7).params.toList.map fun t => match (Tryz.checked.prog).underlying t with | some (.int k) => some k | _ => none))) = true := by kernel_rfl
theorem glaws_c29 : (((Rows.gaussLawsRow).pinned == (Rows.gaussLawsRow).pinnedBy)) = true := by kernel_rfl
theorem glaws_c30 : (((Rows.gaussLawsRow).veiled == ((Tryz.f7).params.toList ++ (Rows.gaussLawsSpec).plain.varTypes Tryz.checked.prog ++ (Tryz.f7).resultTypes.toList).any ((Tryz.checked.prog).veiledRec ·))) = true := by kernel_rfl
theorem glaws_c31 : ((Rows.gaussLawsRow).veiledFits Tryz.checked.prog (Tryz.f7).params.toList ((Tryz.f7).params.toList ++ (Rows.gaussLawsSpec).plain.varTypes Tryz.checked.prog ++ (Tryz.f7).resultTypes.toList)) = true := by kernel_rfl
theorem glaws_closed : joinedFacts Tryz.checked.prog 7 Tryz.f7 Rows.gaussLawsSpec Rows.gaussLawsRow = true := (glaws_and (glaws_and (glaws_and (glaws_and (glaws_and (glaws_and (glaws_and (glaws_and (glaws_and (glaws_and (glaws_and (glaws_and (glaws_and (glaws_and (glaws_and (glaws_and (glaws_and (glaws_and (glaws_and (glaws_and (glaws_and (glaws_and (glaws_and (glaws_and (glaws_and (glaws_and (glaws_and (glaws_and (glaws_and (glaws_and (glaws_and glaws_c0 glaws_c1) glaws_c2) glaws_c3) glaws_c4) glaws_c5) glaws_c6) glaws_c7) glaws_c8) glaws_c9) glaws_c10) glaws_c11) glaws_c12) glaws_c13) glaws_c14) glaws_c15) glaws_c16) glaws_c17) glaws_c18) glaws_c19) glaws_c20) glaws_c21) glaws_c22) glaws_c23) glaws_c24) glaws_c25) glaws_c26) glaws_c27) glaws_c28) glaws_c29) glaws_c30) glaws_c31)
end Go.Proofs.YthjofdfnppadnaaGreatDoor
