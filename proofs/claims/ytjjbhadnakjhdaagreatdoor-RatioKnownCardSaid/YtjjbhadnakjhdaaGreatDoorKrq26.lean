/- Contracts, in this order: The facts of a row, each by the kernel on its own. -/
import Derived.Test.YtjjbhadnakjhdaaGreatDoorCards
import Derived.Test.YtjjbhadnakjhdaaGreatDoorChecked
import Derived.JoinedOf
namespace Go.Proofs.YtjjbhadnakjhdaaGreatDoor
set_option maxRecDepth 100000
theorem ratiok_and {a b : Bool} (ha : a = true) (hb : b = true) : (a && b) = true := by rw [ha, hb]; rfl
theorem ratiok_c0 : ((Rows.ratioKnownRow).wf (OpenSpec.ofChange Rows.ratioKnownSpec)) = true := by kernel_rfl
theorem ratiok_c1 : (laidOutB Tryz.checked.prog) = true := by kernel_rfl
theorem ratiok_c2 : (mapsRowed Tryz.checked.prog) = true := by kernel_rfl
theorem ratiok_c3 : ((Tryz.f3).params.all ((Tryz.checked.prog).readableRec ·)) = true := by kernel_rfl
theorem ratiok_c4 : (namedTie Tryz.checked.prog (Rows.ratioKnownRow).named (Rows.ratioKnownSpec).vars) = true := by kernel_rfl
theorem ratiok_c5 : (((Rows.ratioKnownRow).stops == [])) = true := by kernel_rfl
theorem ratiok_c6 : (((Tryz.checked.prog).stops == [])) = true := by kernel_rfl
theorem ratiok_c7 : (((Rows.ratioKnownRow).knobs == [])) = true := by kernel_rfl
theorem ratiok_c8 : (((Tryz.checked.prog).stopKnobs == [])) = true := by kernel_rfl
theorem ratiok_c9 : (((Rows.ratioKnownRow).inPlace == (Tryz.checked.prog).inPlace 3)) = true := by kernel_rfl
theorem ratiok_c10 : (((Rows.ratioKnownRow).unfollowed == (Tryz.checked.prog).unfollowed 3)) = true := by kernel_rfl
theorem ratiok_c11 : (((Rows.ratioKnownRow).recurses == (Tryz.checked.prog).recurses 3)) = true := by kernel_rfl
theorem ratiok_c12 : (((Rows.ratioKnownRow).named == (Tryz.checked.prog).varsNamed 3)) = true := by kernel_rfl
theorem ratiok_c13 : (((Rows.ratioKnownRow).maps == ((Tryz.f3).params.toList ++ (Rows.ratioKnownSpec).plain.varTypes Tryz.checked.prog).any ((Tryz.checked.prog).mapsRec ·))) = true := by kernel_rfl
theorem ratiok_c14 : (((Rows.ratioKnownRow).ifaces == ((Tryz.f3).params.toList ++ (Rows.ratioKnownSpec).plain.varTypes Tryz.checked.prog).any ((Tryz.checked.prog).ifacesRec ·))) = true := by kernel_rfl
theorem ratiok_c15 : (((Rows.ratioKnownRow).mapsOut == (Tryz.checked.prog).mapsAmong (Tryz.f3).resultTypes.toList)) = true := by kernel_rfl
theorem ratiok_c16 : (((Rows.ratioKnownRow).loops == ((Tryz.f3).params.toList ++ (Rows.ratioKnownSpec).plain.varTypes Tryz.checked.prog).any ((Tryz.checked.prog).loopsFrom ·))) = true := by kernel_rfl
theorem ratiok_c17 : (((Rows.ratioKnownRow).wideKeys == ((Tryz.f3).params.toList ++ (Rows.ratioKnownSpec).plain.varTypes Tryz.checked.prog ++ (Tryz.f3).resultTypes.toList).any ((Tryz.checked.prog).wideKeysFrom ·))) = true := by kernel_rfl
theorem ratiok_c18 : ((Rows.ratioKnownSpec).vars.all ((Tryz.checked.prog).varReadable ·)) = true := by kernel_rfl
theorem ratiok_c19 : ((Tryz.f3).resultTypes.all (fun t => (Tryz.checked.prog).readableRec t && decide (t < (Tryz.checked.prog).types.size))) = true := by kernel_rfl
theorem ratiok_c20 : (((Rows.ratioKnownRow).ifacesOut == (Tryz.f3).resultTypes.toList.any ((Tryz.checked.prog).ifacesRec ·))) = true := by kernel_rfl
theorem ratiok_c21 : (((Rows.ratioKnownRow).loopsOut == (Tryz.f3).resultTypes.toList.any ((Tryz.checked.prog).loopsFrom ·))) = true := by kernel_rfl
theorem ratiok_c22 : (((Rows.ratioKnownRow).plainKeys == (Tryz.checked.prog).plainKeys)) = true := by kernel_rfl
theorem ratiok_c23 : ((Rows.ratioKnownRow).shortTexts.isNone) = true := by kernel_rfl
theorem ratiok_c24 : ((Tryz.checked.prog).stopsHeard) = true := by kernel_rfl
theorem ratiok_c25 : ((Tryz.checked.prog).mayEnter) = true := by kernel_rfl
theorem ratiok_c26 : (((Rows.ratioKnownRow).lifted == (Tryz.checked.prog).liftsFinal)) = true := by kernel_rfl
theorem ratiok_c27 : (((Tryz.checked.prog).make == some (Rows.ratioKnownRow).make)) = true := by kernel_rfl
theorem ratiok_c28 : (((Rows.ratioKnownRow).kinds == (if (Rows.ratioKnownRow).domain.isEmpty then [] else (Tryz.f3).params.toList.map fun t => match (Tryz.checked.prog).underlying t with | some (.int k) => some k | _ => none))) = true := by kernel_rfl
theorem ratiok_c29 : (((Rows.ratioKnownRow).pinned == (Rows.ratioKnownRow).pinnedBy)) = true := by kernel_rfl
theorem ratiok_c30 : (((Rows.ratioKnownRow).veiled == ((Tryz.f3).params.toList ++ (Rows.ratioKnownSpec).plain.varTypes Tryz.checked.prog ++ (Tryz.f3).resultTypes.toList).any ((Tryz.checked.prog).veiledRec ·))) = true := by kernel_rfl
theorem ratiok_c31 : ((Rows.ratioKnownRow).veiledFits Tryz.checked.prog (Tryz.f3).params.toList ((Tryz.f3).params.toList ++ (Rows.ratioKnownSpec).plain.varTypes Tryz.checked.prog ++ (Tryz.f3).resultTypes.toList)) = true := by kernel_rfl
theorem ratiok_closed : joinedFacts Tryz.checked.prog 3 Tryz.f3 Rows.ratioKnownSpec Rows.ratioKnownRow = true := (ratiok_and (ratiok_and (ratiok_and (ratiok_and (ratiok_and (ratiok_and (ratiok_and (ratiok_and (ratiok_and (ratiok_and (ratiok_and (ratiok_and (ratiok_and (ratiok_and (ratiok_and (ratiok_and (ratiok_and (ratiok_and (ratiok_and (ratiok_and (ratiok_and (ratiok_and (ratiok_and (ratiok_and (ratiok_and (ratiok_and (ratiok_and (ratiok_and (ratiok_and (ratiok_and (ratiok_and ratiok_c0 ratiok_c1) ratiok_c2) ratiok_c3) ratiok_c4) ratiok_c5) ratiok_c6) ratiok_c7) ratiok_c8) ratiok_c9) ratiok_c10) ratiok_c11) ratiok_c12) ratiok_c13) ratiok_c14) ratiok_c15) ratiok_c16) ratiok_c17) ratiok_c18) ratiok_c19) ratiok_c20) ratiok_c21) ratiok_c22) ratiok_c23) ratiok_c24) ratiok_c25) ratiok_c26) ratiok_c27) ratiok_c28) ratiok_c29) ratiok_c30) ratiok_c31)
end Go.Proofs.YtjjbhadnakjhdaaGreatDoor
