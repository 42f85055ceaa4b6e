/- Contracts, in this order: The facts of a row, each by the kernel on its own. -/
import Derived.Test.YthjofdfnppadnaaGreatDoorCards
import Derived.Test.YthjofdfnppadnaaGreatDoorChecked
import Derived.JoinedOf
namespace Go.Proofs.YthjofdfnppadnaaGreatDoor
set_option maxRecDepth 100000
theorem gnorms_and {a b : Bool} (ha : a = true) (hb : b = true) : (a && b) = true := by rw [ha, hb]; rfl
theorem gnorms_c0 : ((Rows.gaussNormsRow).wf (OpenSpec.ofChange Rows.gaussNormsSpec)) = true := by kernel_rfl
theorem gnorms_c1 : (laidOutB Tryz.checked.prog) = true := by kernel_rfl
theorem gnorms_c2 : (mapsRowed Tryz.checked.prog) = true := by kernel_rfl
theorem gnorms_c3 : ((Tryz.f8).params.all ((Tryz.checked.prog).readableRec ·)) = true := by kernel_rfl
theorem gnorms_c4 : (namedTie Tryz.checked.prog (Rows.gaussNormsRow).named (Rows.gaussNormsSpec).vars) = true := by kernel_rfl
theorem gnorms_c5 : (((Rows.gaussNormsRow).stops == [])) = true := by kernel_rfl
theorem gnorms_c6 : (((Tryz.checked.prog).stops == [])) = true := by kernel_rfl
theorem gnorms_c7 : (((Rows.gaussNormsRow).knobs == [])) = true := by kernel_rfl
theorem gnorms_c8 : (((Tryz.checked.prog).stopKnobs == [])) = true := by kernel_rfl
theorem gnorms_c9 : (((Rows.gaussNormsRow).inPlace == (Tryz.checked.prog).inPlace 8)) = true := by kernel_rfl
theorem gnorms_c10 : (((Rows.gaussNormsRow).unfollowed == (Tryz.checked.prog).unfollowed 8)) = true := by kernel_rfl
theorem gnorms_c11 : (((Rows.gaussNormsRow).recurses == (Tryz.checked.prog).recurses 8)) = true := by kernel_rfl
theorem gnorms_c12 : (((Rows.gaussNormsRow).named == (Tryz.checked.prog).varsNamed 8)) = true := by kernel_rfl
theorem gnorms_c13 : (((Rows.gaussNormsRow).maps == ((Tryz.f8).params.toList ++ (Rows.gaussNormsSpec).plain.varTypes Tryz.checked.prog).any ((Tryz.checked.prog).mapsRec ·))) = true := by kernel_rfl
theorem gnorms_c14 : (((Rows.gaussNormsRow).ifaces == ((Tryz.f8).params.toList ++ (Rows.gaussNormsSpec).plain.varTypes Tryz.checked.prog).any ((Tryz.checked.prog).ifacesRec ·))) = true := by kernel_rfl
theorem gnorms_c15 : (((Rows.gaussNormsRow).mapsOut == (Tryz.checked.prog).mapsAmong (Tryz.f8).resultTypes.toList)) = true := by kernel_rfl
theorem gnorms_c16 : (((Rows.gaussNormsRow).loops == ((Tryz.f8).params.toList ++ (Rows.gaussNormsSpec).plain.varTypes Tryz.checked.prog).any ((Tryz.checked.prog).loopsFrom ·))) = true := by kernel_rfl
theorem gnorms_c17 : (((Rows.gaussNormsRow).wideKeys == ((Tryz.f8).params.toList ++ (Rows.gaussNormsSpec).plain.varTypes Tryz.checked.prog ++ (Tryz.f8).resultTypes.toList).any ((Tryz.checked.prog).wideKeysFrom ·))) = true := by kernel_rfl
theorem gnorms_c18 : ((Rows.gaussNormsSpec).vars.all ((Tryz.checked.prog).varReadable ·)) = true := by kernel_rfl
theorem gnorms_c19 : ((Tryz.f8).resultTypes.all (fun t => (Tryz.checked.prog).readableRec t && decide (t < (Tryz.checked.prog).types.size))) = true := by kernel_rfl
theorem gnorms_c20 : (((Rows.gaussNormsRow).ifacesOut == (Tryz.f8).resultTypes.toList.any ((Tryz.checked.prog).ifacesRec ·))) = true := by kernel_rfl
theorem gnorms_c21 : (((Rows.gaussNormsRow).loopsOut == (Tryz.f8).resultTypes.toList.any ((Tryz.checked.prog).loopsFrom ·))) = true := by kernel_rfl
theorem gnorms_c22 : (((Rows.gaussNormsRow).plainKeys == (Tryz.checked.prog).plainKeys)) = true := by kernel_rfl
theorem gnorms_c23 : ((Rows.gaussNormsRow).shortTexts.isNone) = true := by kernel_rfl
theorem gnorms_c24 : ((Tryz.checked.prog).stopsHeard) = true := by kernel_rfl
theorem gnorms_c25 : ((Tryz.checked.prog).mayEnter) = true := by kernel_rfl
theorem gnorms_c26 : (((Rows.gaussNormsRow).lifted == (Tryz.checked.prog).liftsFinal)) = true := by kernel_rfl
theorem gnorms_c27 : (((Tryz.checked.prog).make == some (Rows.gaussNormsRow).make)) = true := by kernel_rfl
theorem gnorms_c28 : (((Rows.gaussNormsRow).kinds == (if (Rows.gaussNormsRow).domain.isEmpty then [] else (Tryz.f8).params.toList.map fun t => match (Tryz.checked.prog).underlying t with | some (.int k) => some k | _ => none))) = true := by kernel_rfl
theorem gnorms_c29 : (((Rows.gaussNormsRow).pinned == (Rows.gaussNormsRow).pinnedBy)) = true := by kernel_rfl
theorem gnorms_c30 : (((Rows.gaussNormsRow).veiled == ((Tryz.f8).params.toList ++ (Rows.gaussNormsSpec).plain.varTypes Tryz.checked.prog ++ (Tryz.f8).resultTypes.toList).any ((Tryz.checked.prog).veiledRec ·))) = true := by kernel_rfl
theorem gnorms_c31 : ((Rows.gaussNormsRow).veiledFits Tryz.checked.prog (Tryz.f8).params.toList ((Tryz.f8).params.toList ++ (Rows.gaussNormsSpec).plain.varTypes Tryz.checked.prog ++ (Tryz.f8).resultTypes.toList)) = true := by kernel_rfl
theorem gnorms_closed : joinedFacts Tryz.checked.prog 8 Tryz.f8 Rows.gaussNormsSpec Rows.gaussNormsRow = true := (gnorms_and (gnorms_and (gnorms_and (gnorms_and (gnorms_and (gnorms_and (gnorms_and (gnorms_and (gnorms_and (gnorms_and (gnorms_and (gnorms_and (gnorms_and (gnorms_and (gnorms_and (gnorms_and (gnorms_and (gnorms_and (gnorms_and (gnorms_and (gnorms_and (gnorms_and (gnorms_and (gnorms_and (gnorms_and (gnorms_and (gnorms_and (gnorms_and (gnorms_and (gnorms_and (gnorms_and gnorms_c0 gnorms_c1) gnorms_c2) gnorms_c3) gnorms_c4) gnorms_c5) gnorms_c6) gnorms_c7) gnorms_c8) gnorms_c9) gnorms_c10) gnorms_c11) gnorms_c12) gnorms_c13) gnorms_c14) gnorms_c15) gnorms_c16) gnorms_c17) gnorms_c18) gnorms_c19) gnorms_c20) gnorms_c21) gnorms_c22) gnorms_c23) gnorms_c24) gnorms_c25) gnorms_c26) gnorms_c27) gnorms_c28) gnorms_c29) gnorms_c30) gnorms_c31)
end Go.Proofs.YthjofdfnppadnaaGreatDoor
