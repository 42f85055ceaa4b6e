/- Contracts, in this order: The facts of a row, each by the kernel on its own. -/
import Derived.Test.YtjjbhadnakjhdaaGreatDoorCards
import Derived.Test.YtjjbhadnakjhdaaGreatDoorChecked
import Derived.JoinedOf
namespace Go.Proofs.YtjjbhadnakjhdaaGreatDoor
set_option maxRecDepth 100000
theorem discK_and {a b : Bool} (ha : a = true) (hb : b = true) : (a && b) = true := by rw [ha, hb]; rfl
theorem discK_c0 : ((Rows.discKnownRow).wf (OpenSpec.ofChange Rows.discKnownSpec)) = true := by kernel_rfl
theorem discK_c1 : (laidOutB Tryz.checked.prog) = true := by kernel_rfl
theorem discK_c2 : (mapsRowed Tryz.checked.prog) = true := by kernel_rfl
theorem discK_c3 : ((Tryz.f4).params.all ((Tryz.checked.prog).readableRec ·)) = true := by kernel_rfl
theorem discK_c4 : (namedTie Tryz.checked.prog (Rows.discKnownRow).named (Rows.discKnownSpec).vars) = true := by kernel_rfl
theorem discK_c5 : (((Rows.discKnownRow).stops == [])) = true := by kernel_rfl
theorem discK_c6 : (((Tryz.checked.prog).stops == [])) = true := by kernel_rfl
theorem discK_c7 : (((Rows.discKnownRow).knobs == [])) = true := by kernel_rfl
theorem discK_c8 : (((Tryz.checked.prog).stopKnobs == [])) = true := by kernel_rfl
theorem discK_c9 : (((Rows.discKnownRow).inPlace == (Tryz.checked.prog).inPlace 4)) = true := by kernel_rfl
theorem discK_c10 : (((Rows.discKnownRow).unfollowed == (Tryz.checked.prog).unfollowed 4)) = true := by kernel_rfl
theorem discK_c11 : (((Rows.discKnownRow).recurses == (Tryz.checked.prog).recurses 4)) = true := by kernel_rfl
theorem discK_c12 : (((Rows.discKnownRow).named == (Tryz.checked.prog).varsNamed 4)) = true := by kernel_rfl
theorem discK_c13 : (((Rows.discKnownRow).maps == ((Tryz.f4).params.toList ++ (Rows.discKnownSpec).plain.varTypes Tryz.checked.prog).any ((Tryz.checked.prog).mapsRec ·))) = true := by kernel_rfl
theorem discK_c14 : (((Rows.discKnownRow).ifaces == ((Tryz.f4).params.toList ++ (Rows.discKnownSpec).plain.varTypes Tryz.checked.prog).any ((Tryz.checked.prog).ifacesRec ·))) = true := by kernel_rfl
theorem discK_c15 : (((Rows.discKnownRow).mapsOut == (Tryz.checked.prog).mapsAmong (Tryz.f4).resultTypes.toList)) = true := by kernel_rfl
theorem discK_c16 : (((Rows.discKnownRow).loops == ((Tryz.f4).params.toList ++ (Rows.discKnownSpec).plain.varTypes Tryz.checked.prog).any ((Tryz.checked.prog).loopsFrom ·))) = true := by kernel_rfl
theorem discK_c17 : (((Rows.discKnownRow).wideKeys == ((Tryz.f4).params.toList ++ (Rows.discKnownSpec).plain.varTypes Tryz.checked.prog ++ (Tryz.f4).resultTypes.toList).any ((Tryz.checked.prog).wideKeysFrom ·))) = true := by kernel_rfl
theorem discK_c18 : ((Rows.discKnownSpec).vars.all ((Tryz.checked.prog).varReadable ·)) = true := by kernel_rfl
theorem discK_c19 : ((Tryz.f4).resultTypes.all (fun t => (Tryz.checked.prog).readableRec t && decide (t < (Tryz.checked.prog).types.size))) = true := by kernel_rfl
theorem discK_c20 : (((Rows.discKnownRow).ifacesOut == (Tryz.f4).resultTypes.toList.any ((Tryz.checked.prog).ifacesRec ·))) = true := by kernel_rfl
theorem discK_c21 : (((Rows.discKnownRow).loopsOut == (Tryz.f4).resultTypes.toList.any ((Tryz.checked.prog).loopsFrom ·))) = true := by kernel_rfl
theorem discK_c22 : (((Rows.discKnownRow).plainKeys == (Tryz.checked.prog).plainKeys)) = true := by kernel_rfl
theorem discK_c23 : ((Rows.discKnownRow).shortTexts.isNone) = true := by kernel_rfl
theorem discK_c24 : ((Tryz.checked.prog).stopsHeard) = true := by kernel_rfl
theorem discK_c25 : ((Tryz.checked.prog).mayEnter) = true := by kernel_rfl
theorem discK_c26 : (((Rows.discKnownRow).lifted == (Tryz.checked.prog).liftsFinal)) = true := by kernel_rfl
theorem discK_c27 : (((Tryz.checked.prog).make == some (Rows.discKnownRow).make)) = true := by kernel_rfl
theorem discK_c28 : (((Rows.discKnownRow).kinds == (if (Rows.discKnownRow).domain.isEmpty then [] else (Tryz.f4).params.toList.map fun t => match (Tryz.checked.prog).underlying t with | some (.int k) => some k | _ => none))) = true := by kernel_rfl
theorem discK_c29 : (((Rows.discKnownRow).pinned == (Rows.discKnownRow).pinnedBy)) = true := by kernel_rfl
theorem discK_c30 : (((Rows.discKnownRow).veiled == ((Tryz.f4).params.toList ++ (Rows.discKnownSpec).plain.varTypes Tryz.checked.prog ++ (Tryz.f4).resultTypes.toList).any ((Tryz.checked.prog).veiledRec ·))) = true := by kernel_rfl
theorem discK_c31 : ((Rows.discKnownRow).veiledFits Tryz.checked.prog (Tryz.f4).params.toList ((Tryz.f4).params.toList ++ (Rows.discKnownSpec).plain.varTypes Tryz.checked.prog ++ (Tryz.f4).resultTypes.toList)) = true := by kernel_rfl
theorem discK_closed : joinedFacts Tryz.checked.prog 4 Tryz.f4 Rows.discKnownSpec Rows.discKnownRow = true := (discK_and (discK_and (discK_and (discK_and (discK_and (discK_and (discK_and (discK_and (discK_and (discK_and (discK_and (discK_and (discK_and (discK_and (discK_and (discK_and (discK_and (discK_and (discK_and (discK_and (discK_and (discK_and (discK_and (discK_and (discK_and (discK_and (discK_and (discK_and (discK_and (discK_and (discK_and discK_c0 discK_c1) discK_c2) discK_c3) discK_c4) discK_c5) discK_c6) discK_c7) discK_c8) discK_c9) discK_c10) discK_c11) discK_c12) discK_c13) discK_c14) discK_c15) discK_c16) discK_c17) discK_c18) discK_c19) discK_c20) discK_c21) discK_c22) discK_c23) discK_c24) discK_c25) discK_c26) discK_c27) discK_c28) discK_c29) discK_c30) discK_c31)
end Go.Proofs.YtjjbhadnakjhdaaGreatDoor
