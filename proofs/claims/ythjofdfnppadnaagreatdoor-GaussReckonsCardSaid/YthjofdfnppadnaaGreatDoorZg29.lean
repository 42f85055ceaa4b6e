/- Contracts, in this order: The facts of a row, each by the kernel on its own. -/
import Derived.Test.YthjofdfnppadnaaGreatDoorCards
import Derived.Test.YthjofdfnppadnaaGreatDoorChecked
import Derived.JoinedOf
namespace Go.Proofs.YthjofdfnppadnaaGreatDoor
set_option maxRecDepth 100000
theorem greckons_and {a b : Bool} (ha : a = true) (hb : b = true) : (a && b) = true := by rw [ha, hb]; rfl
theorem greckons_c0 : ((Rows.gaussReckonsRow).wf (OpenSpec.ofChange Rows.gaussReckonsSpec)) = true := by kernel_rfl
theorem greckons_c1 : (laidOutB Tryz.checked.prog) = true := by kernel_rfl
theorem greckons_c2 : (mapsRowed Tryz.checked.prog) = true := by kernel_rfl
theorem greckons_c3 : ((Tryz.f10).params.all ((Tryz.checked.prog).readableRec ·)) = true := by kernel_rfl
theorem greckons_c4 : (namedTie Tryz.checked.prog (Rows.gaussReckonsRow).named (Rows.gaussReckonsSpec).vars) = true := by kernel_rfl
theorem greckons_c5 : (((Rows.gaussReckonsRow).stops == [])) = true := by kernel_rfl
theorem greckons_c6 : (((Tryz.checked.prog).stops == [])) = true := by kernel_rfl
theorem greckons_c7 : (((Rows.gaussReckonsRow).knobs == [])) = true := by kernel_rfl
theorem greckons_c8 : (((Tryz.checked.prog).stopKnobs == [])) = true := by kernel_rfl
theorem greckons_c9 : (((Rows.gaussReckonsRow).inPlace == (Tryz.checked.prog).inPlace 10)) = true := by kernel_rfl
theorem greckons_c10 : (((Rows.gaussReckonsRow).unfollowed == (Tryz.checked.prog).unfollowed 10)) = true := by kernel_rfl
theorem greckons_c11 : (((Rows.gaussReckonsRow).recurses == (Tryz.checked.prog).recurses 10)) = true := by kernel_rfl
theorem greckons_c12 : (((Rows.gaussReckonsRow).named == (Tryz.checked.prog).varsNamed 10)) = true := by kernel_rfl
theorem greckons_c13 : (((Rows.gaussReckonsRow).maps == ((Tryz.f10).params.toList ++ (Rows.gaussReckonsSpec).plain.varTypes Tryz.checked.prog).any ((Tryz.checked.prog).mapsRec ·))) = true := by kernel_rfl
theorem greckons_c14 : (((Rows.gaussReckonsRow).ifaces == ((Tryz.f10).params.toList ++ (Rows.gaussReckonsSpec).plain.varTypes Tryz.checked.prog).any ((Tryz.checked.prog).ifacesRec ·))) = true := by kernel_rfl
theorem greckons_c15 : (((Rows.gaussReckonsRow).mapsOut == (Tryz.checked.prog).mapsAmong (Tryz.f10).resultTypes.toList)) = true := by kernel_rfl
theorem greckons_c16 : (((Rows.gaussReckonsRow).loops == ((Tryz.f10).params.toList ++ (Rows.gaussReckonsSpec).plain.varTypes Tryz.checked.prog).any ((Tryz.checked.prog).loopsFrom ·))) = true := by kernel_rfl
theorem greckons_c17 : (((Rows.gaussReckonsRow).wideKeys == ((Tryz.f10).params.toList ++ (Rows.gaussReckonsSpec).plain.varTypes Tryz.checked.prog ++ (Tryz.f10).resultTypes.toList).any ((Tryz.checked.prog).wideKeysFrom ·))) = true := by kernel_rfl
theorem greckons_c18 : ((Rows.gaussReckonsSpec).vars.all ((Tryz.checked.prog).varReadable ·)) = true := by kernel_rfl
theorem greckons_c19 : ((Tryz.f10).resultTypes.all (fun t => (Tryz.checked.prog).readableRec t && decide (t < (Tryz.checked.prog).types.size))) = true := by kernel_rfl
theorem greckons_c20 : (((Rows.gaussReckonsRow).ifacesOut == (Tryz.f10).resultTypes.toList.any ((Tryz.checked.prog).ifacesRec ·))) = true := by kernel_rfl
theorem greckons_c21 : (((Rows.gaussReckonsRow).loopsOut == (Tryz.f10).resultTypes.toList.any ((Tryz.checked.prog).loopsFrom ·))) = true := by kernel_rfl
theorem greckons_c22 : (((Rows.gaussReckonsRow).plainKeys == (Tryz.checked.prog).plainKeys)) = true := by kernel_rfl
theorem greckons_c23 : ((Rows.gaussReckonsRow).shortTexts.isNone) = true := by kernel_rfl
theorem greckons_c24 : ((Tryz.checked.prog).stopsHeard) = true := by kernel_rfl
theorem greckons_c25 : ((Tryz.checked.prog).mayEnter) = true := by kernel_rfl
theorem greckons_c26 : (((Rows.gaussReckonsRow).lifted == (Tryz.checked.prog).liftsFinal)) = true := by kernel_rfl
theorem greckons_c27 : (((Tryz.checked.prog).make == some (Rows.gaussReckonsRow).make)) = true := by kernel_rfl
theorem greckons_c28 : (((Rows.gaussReckonsRow).kinds == (if (Rows.gaussReckonsRow).domain.isEmpty then [] else (Tryz.f10).params.toList.map fun t => match (Tryz.checked.prog).underlying t with | some (.int k) => some k | _ => none))) = true := by kernel_rfl
theorem greckons_c29 : (((Rows.gaussReckonsRow).pinned == (Rows.gaussReckonsRow).pinnedBy)) = true := by kernel_rfl
theorem greckons_c30 : (((Rows.gaussReckonsRow).veiled == ((Tryz.f10).params.toList ++ (Rows.gaussReckonsSpec).plain.varTypes Tryz.checked.prog ++ (Tryz.f10).resultTypes.toList).any ((Tryz.checked.prog).veiledRec ·))) = true := by kernel_rfl
theorem greckons_c31 : ((Rows.gaussReckonsRow).veiledFits Tryz.checked.prog (Tryz.f10).params.toList ((Tryz.f10).params.toList ++ (Rows.gaussReckonsSpec).plain.varTypes Tryz.checked.prog ++ (Tryz.f10).resultTypes.toList)) = true := by kernel_rfl
theorem greckons_closed : joinedFacts Tryz.checked.prog 10 Tryz.f10 Rows.gaussReckonsSpec Rows.gaussReckonsRow = true := (greckons_and (greckons_and (greckons_and (greckons_and (greckons_and (greckons_and (greckons_and (greckons_and (greckons_and (greckons_and (greckons_and (greckons_and (greckons_and (greckons_and (greckons_and (greckons_and (greckons_and (greckons_and (greckons_and (greckons_and (greckons_and (greckons_and (greckons_and (greckons_and (greckons_and (greckons_and (greckons_and (greckons_and (greckons_and (greckons_and (greckons_and greckons_c0 greckons_c1) greckons_c2) greckons_c3) greckons_c4) greckons_c5) greckons_c6) greckons_c7) greckons_c8) greckons_c9) greckons_c10) greckons_c11) greckons_c12) greckons_c13) greckons_c14) greckons_c15) greckons_c16) greckons_c17) greckons_c18) greckons_c19) greckons_c20) greckons_c21) greckons_c22) greckons_c23) greckons_c24) greckons_c25) greckons_c26) greckons_c27) greckons_c28) greckons_c29) greckons_c30) greckons_c31)
end Go.Proofs.YthjofdfnppadnaaGreatDoor
