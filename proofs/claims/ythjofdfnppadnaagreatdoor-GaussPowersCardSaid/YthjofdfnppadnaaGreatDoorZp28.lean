/- Contracts, in this order: The facts of a row, each by the kernel on its own. -/
import Derived.Test.YthjofdfnppadnaaGreatDoorCards
import Derived.Test.YthjofdfnppadnaaGreatDoorChecked
import Derived.JoinedOf
namespace Go.Proofs.YthjofdfnppadnaaGreatDoor
set_option maxRecDepth 100000
theorem powers_and {a b : Bool} (ha : a = true) (hb : b = true) : (a && b) = true := by rw [ha, hb]; rfl
theorem powers_c0 : ((Rows.gaussPowersRow).wf (OpenSpec.ofChange Rows.gaussPowersSpec)) = true := by kernel_rfl
theorem powers_c1 : (laidOutB Tryz.checked.prog) = true := by kernel_rfl
theorem powers_c2 : (mapsRowed Tryz.checked.prog) = true := by kernel_rfl
theorem powers_c3 : ((Tryz.f9).params.all ((Tryz.checked.prog).readableRec ·)) = true := by kernel_rfl
theorem powers_c4 : (namedTie Tryz.checked.prog (Rows.gaussPowersRow).named (Rows.gaussPowersSpec).vars) = true := by kernel_rfl
theorem powers_c5 : (((Rows.gaussPowersRow).stops == [])) = true := by kernel_rfl
theorem powers_c6 : (((Tryz.checked.prog).stops == [])) = true := by kernel_rfl
theorem powers_c7 : (((Rows.gaussPowersRow).knobs == [])) = true := by kernel_rfl
theorem powers_c8 : (((Tryz.checked.prog).stopKnobs == [])) = true := by kernel_rfl
theorem powers_c9 : (((Rows.gaussPowersRow).inPlace == (Tryz.checked.prog).inPlace 9)) = true := by kernel_rfl
theorem powers_c10 : (((Rows.gaussPowersRow).unfollowed == (Tryz.checked.prog).unfollowed 9)) = true := by kernel_rfl
theorem powers_c11 : (((Rows.gaussPowersRow).recurses == (Tryz.checked.prog).recurses 9)) = true := by kernel_rfl
theorem powers_c12 : (((Rows.gaussPowersRow).named == (Tryz.checked.prog).varsNamed 9)) = true := by kernel_rfl
theorem powers_c13 : (((Rows.gaussPowersRow).maps == ((Tryz.f9).params.toList ++ (Rows.gaussPowersSpec).plain.varTypes Tryz.checked.prog).any ((Tryz.checked.prog).mapsRec ·))) = true := by kernel_rfl
theorem powers_c14 : (((Rows.gaussPowersRow).ifaces == ((Tryz.f9).params.toList ++ (Rows.gaussPowersSpec).plain.varTypes Tryz.checked.prog).any ((Tryz.checked.prog).ifacesRec ·))) = true := by kernel_rfl
theorem powers_c15 : (((Rows.gaussPowersRow).mapsOut == (Tryz.checked.prog).mapsAmong (Tryz.f9).resultTypes.toList)) = true := by kernel_rfl
theorem powers_c16 : (((Rows.gaussPowersRow).loops == ((Tryz.f9).params.toList ++ (Rows.gaussPowersSpec).plain.varTypes Tryz.checked.prog).any ((Tryz.checked.prog).loopsFrom ·))) = true := by kernel_rfl
theorem powers_c17 : (((Rows.gaussPowersRow).wideKeys == ((Tryz.f9).params.toList ++ (Rows.gaussPowersSpec).plain.varTypes Tryz.checked.prog ++ (Tryz.f9).resultTypes.toList).any ((Tryz.checked.prog).wideKeysFrom ·))) = true := by kernel_rfl
theorem powers_c18 : ((Rows.gaussPowersSpec).vars.all ((Tryz.checked.prog).varReadable ·)) = true := by kernel_rfl
theorem powers_c19 : ((Tryz.f9).resultTypes.all (fun t => (Tryz.checked.prog).readableRec t && decide (t < (Tryz.checked.prog).types.size))) = true := by kernel_rfl
theorem powers_c20 : (((Rows.gaussPowersRow).ifacesOut == (Tryz.f9).resultTypes.toList.any ((Tryz.checked.prog).ifacesRec ·))) = true := by kernel_rfl
theorem powers_c21 : (((Rows.gaussPowersRow).loopsOut == (Tryz.f9).resultTypes.toList.any ((Tryz.checked.prog).loopsFrom ·))) = true := by kernel_rfl
theorem powers_c22 : (((Rows.gaussPowersRow).plainKeys == (Tryz.checked.prog).plainKeys)) = true := by kernel_rfl
theorem powers_c23 : ((Rows.gaussPowersRow).shortTexts.isNone) = true := by kernel_rfl
theorem powers_c24 : ((Tryz.checked.prog).stopsHeard) = true := by kernel_rfl
theorem powers_c25 : ((Tryz.checked.prog).mayEnter) = true := by kernel_rfl
theorem powers_c26 : (((Rows.gaussPowersRow).lifted == (Tryz.checked.prog).liftsFinal)) = true := by kernel_rfl
theorem powers_c27 : (((Tryz.checked.prog).make == some (Rows.gaussPowersRow).make)) = true := by kernel_rfl
theorem powers_c28 : (((Rows.gaussPowersRow).kinds == (if (Rows.gaussPowersRow).domain.isEmpty then [] else (Tryz.f9).params.toList.map fun t => match (Tryz.checked.prog).underlying t with | some (.int k) => some k | _ => none))) = true := by kernel_rfl
theorem powers_c29 : (((Rows.gaussPowersRow).pinned == (Rows.gaussPowersRow).pinnedBy)) = true := by kernel_rfl
theorem powers_c30 : (((Rows.gaussPowersRow).veiled == ((Tryz.f9).params.toList ++ (Rows.gaussPowersSpec).plain.varTypes Tryz.checked.prog ++ (Tryz.f9).resultTypes.toList).any ((Tryz.checked.prog).veiledRec ·))) = true := by kernel_rfl
theorem powers_c31 : ((Rows.gaussPowersRow).veiledFits Tryz.checked.prog (Tryz.f9).params.toList ((Tryz.f9).params.toList ++ (Rows.gaussPowersSpec).plain.varTypes Tryz.checked.prog ++ (Tryz.f9).resultTypes.toList)) = true := by kernel_rfl
theorem powers_closed : joinedFacts Tryz.checked.prog 9 Tryz.f9 Rows.gaussPowersSpec Rows.gaussPowersRow = true := (powers_and (powers_and (powers_and (powers_and (powers_and (powers_and (powers_and (powers_and (powers_and (powers_and (powers_and (powers_and (powers_and (powers_and (powers_and (powers_and (powers_and (powers_and (powers_and (powers_and (powers_and (powers_and (powers_and (powers_and (powers_and (powers_and (powers_and (powers_and (powers_and (powers_and (powers_and powers_c0 powers_c1) powers_c2) powers_c3) powers_c4) powers_c5) powers_c6) powers_c7) powers_c8) powers_c9) powers_c10) powers_c11) powers_c12) powers_c13) powers_c14) powers_c15) powers_c16) powers_c17) powers_c18) powers_c19) powers_c20) powers_c21) powers_c22) powers_c23) powers_c24) powers_c25) powers_c26) powers_c27) powers_c28) powers_c29) powers_c30) powers_c31)
end Go.Proofs.YthjofdfnppadnaaGreatDoor
