/- Contracts. -/
import Derived.Test.YtnlhjcfpfapafaaGreatDoorCards
import Derived.Test.YtnlhjcfpfapafaaGreatDoorChecked
import Derived.JoinedOf
namespace Go.Proofs.YtnlhjcfpfapafaaGreatDoor
set_option maxRecDepth 100000
theorem Zy {a b : Bool} (ha : a = true) (hb : b = true) : (a && b) = true := by rw [ha, hb]; rfl
theorem ZnP : ((Rows.polyOfRow).wf (OpenSpec.ofChange Rows.polyOfSpec)) = true := by kernel_rfl
theorem ZnQ : (laidOutB Tryz.checked.prog) = true := by kernel_rfl
theorem ZnR : (mapsRowed Tryz.checked.prog) = true := by kernel_rfl
theorem ZnS : ((Tryz.f3).params.all ((Tryz.checked.prog).readableRec ·)) = true := by kernel_rfl
theorem ZnT : (namedTie Tryz.checked.prog (Rows.polyOfRow).named (Rows.polyOfSpec).vars) = true := by kernel_rfl
theorem ZnU : (((Rows.polyOfRow).stops == [])) = true := by kernel_rfl
theorem ZnV : (((Tryz.checked.prog).stops == [])) = true := by kernel_rfl
theorem ZnW : (((Rows.polyOfRow).knobs == [])) = true := by kernel_rfl
theorem ZnX : (((Tryz.checked.prog).stopKnobs == [])) = true := by kernel_rfl
theorem ZnY : (((Rows.polyOfRow).inPlace == (Tryz.checked.prog).inPlace 3)) = true := by kernel_rfl
theorem Zls : (((Rows.polyOfRow).unfollowed == (Tryz.checked.prog).unfollowed 3)) = true := by kernel_rfl
theorem Zlt : (((Rows.polyOfRow).recurses == (Tryz.checked.prog).recurses 3)) = true := by kernel_rfl
theorem Zlu : (((Rows.polyOfRow).named == (Tryz.checked.prog).varsNamed 3)) = true := by kernel_rfl
theorem Zlv : (((Rows.polyOfRow).maps == ((Tryz.f3).params.toList ++ (Rows.polyOfSpec).plain.varTypes Tryz.checked.prog).any ((Tryz.checked.prog).mapsRec ·))) = true := by kernel_rfl
theorem Zlw : (((Rows.polyOfRow).ifaces == ((Tryz.f3).params.toList ++ (Rows.polyOfSpec).plain.varTypes Tryz.checked.prog).any ((Tryz.checked.prog).ifacesRec ·))) = true := by kernel_rfl
theorem Zlx : (((Rows.polyOfRow).mapsOut == (Tryz.checked.prog).mapsAmong (Tryz.f3).resultTypes.toList)) = true := by kernel_rfl
theorem Zly : (((Rows.polyOfRow).loops == ((Tryz.f3).params.toList ++ (Rows.polyOfSpec).plain.varTypes Tryz.checked.prog).any ((Tryz.checked.prog).loopsFrom ·))) = true := by kernel_rfl
theorem Zlz : (((Rows.polyOfRow).wideKeys == ((Tryz.f3).params.toList ++ (Rows.polyOfSpec).plain.varTypes Tryz.checked.prog ++ (Tryz.f3).resultTypes.toList).any ((Tryz.checked.prog).wideKeysFrom ·))) = true := by kernel_rfl
theorem ZlA : ((Rows.polyOfSpec).vars.all ((Tryz.checked.prog).varReadable ·)) = true := by kernel_rfl
theorem ZlB : ((Tryz.f3).resultTypes.all (fun t => (Tryz.checked.prog).readableRec t && decide (t < (Tryz.checked.prog).types.size))) = true := by kernel_rfl
theorem ZlC : (((Rows.polyOfRow).ifacesOut == (Tryz.f3).resultTypes.toList.any ((Tryz.checked.prog).ifacesRec ·))) = true := by kernel_rfl
theorem ZlD : (((Rows.polyOfRow).loopsOut == (Tryz.f3).resultTypes.toList.any ((Tryz.checked.prog).loopsFrom ·))) = true := by kernel_rfl
theorem ZlE : (((Rows.polyOfRow).plainKeys == (Tryz.checked.prog).plainKeys)) = true := by kernel_rfl
theorem ZlF : ((Rows.polyOfRow).shortTexts.isNone) = true := by kernel_rfl
theorem ZlG : ((Tryz.checked.prog).stopsHeard) = true := by kernel_rfl
theorem ZlH : ((Tryz.checked.prog).mayEnter) = true := by kernel_rfl
theorem ZlI : (((Rows.polyOfRow).lifted == (Tryz.checked.prog).liftsFinal)) = true := by kernel_rfl
theorem ZlJ : (((Tryz.checked.prog).make == some (Rows.polyOfRow).make)) = true := by kernel_rfl
theorem ZlK : (((Rows.polyOfRow).kinds == (if (Rows.polyOfRow).domain.isEmpty then [] else (Tryz.f3).params.toList.map fun t => match (Tryz.checked.prog).underlying t with | some (.int k) => some k | _ => none))) = true := by kernel_rfl
theorem ZlL : (((Rows.polyOfRow).pinned == (Rows.polyOfRow).pinnedBy)) = true := by kernel_rfl
theorem ZlM : (((Rows.polyOfRow).veiled == ((Tryz.f3).params.toList ++ (Rows.polyOfSpec).plain.varTypes Tryz.checked.prog ++ (Tryz.f3).resultTypes.toList).any ((Tryz.checked.prog).veiledRec ·))) = true := by kernel_rfl
theorem ZlN : ((Rows.polyOfRow).veiledFits Tryz.checked.prog (Tryz.f3).params.toList ((Tryz.f3).params.toList ++ (Rows.polyOfSpec).plain.varTypes Tryz.checked.prog ++ (Tryz.f3).resultTypes.toList)) = true := by kernel_rfl
theorem Zeb : joinedFacts Tryz.checked.prog 3 Tryz.f3 Rows.polyOfSpec Rows.polyOfRow = true := (Zy (Zy (Zy (Zy (Zy (Zy (Zy (Zy (Zy (Zy (Zy (Zy (Zy (Zy (Zy (Zy (Zy (Zy (Zy (Zy (Zy (Zy (Zy (Zy (Zy (Zy (Zy (Zy (Zy (Zy (Zy ZnP ZnQ) ZnR) ZnS) ZnT) ZnU) ZnV) ZnW) ZnX) ZnY) Zls) Zlt) Zlu) Zlv) Zlw) Zlx) Zly) Zlz) ZlA) ZlB) ZlC) ZlD) ZlE) ZlF) ZlG) ZlH) ZlI) ZlJ) ZlK) ZlL) ZlM) ZlN)
end Go.Proofs.YtnlhjcfpfapafaaGreatDoor
