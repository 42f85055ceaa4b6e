/- Contracts, in this order: The row's last steps: a call that only makes new memory. · The row's last steps: a call that only makes new memory; the · Listed variables that begin with the table of the lowest bin · Listed variables with package residue's bases among them: wh · What the listed variables give; the start that meets them. · The plain wrap with the listed variables and the world's sha -/
import Derived.Test.YtaefgofheiegeaaGreatDoorRows
import Derived.Test.YtaefgofheiegeaaGreatDoorChecked
import Derived.WalkKit
import Derived.ProofKit
import Derived.OpenShut
import Derived.ChangeSame
import Derived.ChangeVars
import Derived.JoinedOf
import Derived.Stop.Joined
import Derived.HandedShaped
import Derived.LaidMore
import Derived.Lib.LaidTab
import Derived.Test.YtaefgofheiegeaaGreatDoorMKq18
import Derived.Lay
import Derived.SizedLaws
import Derived.Shelf.Vars
namespace Go.Proofs.YtaefgofheiegeaaGreatDoor
open Go.ChangeShapes Go.WideShapes Go.ChangeAt Go.RowKit
theorem own : ownKnob Tryz.prog.godebug = none := by kernel_rfl
section
variable {H : Type} {enc : TypeId × Value → H} {P : Program}
theorem post_new {f : Func} {s : ChangeSpec} {apart fresh handsOn again : Bool} {W W' : World} {args : Array Value} {v : Value} {ds gs : List (DataW H)}
    (hW : DataW.Whole enc P f.params.toList s.vars apart W args.toList ds gs [])
    (hres : ∀ (b : Nat) (sp : Nat → Bool) (hd : Bool), DataW.TrodAll enc P W' b sp hd f.resultTypes.toList (v.resultList f.resultTypes.size) (s.fn H (ds ++ gs)).results [])
    (hargs : ∀ sp : Nat → Bool, DataW.TrodAll enc P W' 0 sp true f.params.toList args.toList (s.fn H (ds ++ gs)).args [])
    (hvars : ∀ sp : Nat → Bool, DataW.TrodVars enc P W' sp s.vars (s.fn H (ds ++ gs)).vars [])
    (hb : Below W.heap.size W W')
    (hok : ∀ (j : Nat) (t : TypeId) (r : Value), f.resultTypes[j]? = some t → (v.resultList f.resultTypes.size)[j]? = some r → Value.okWide P W' .any 0 t r) :
    s.post enc P f apart fresh handsOn again W args v W' := by
  have hk : W.keptBut W' (fun p => p ∈ ([] : List MemPlace)) := hb.frame _
  refine ⟨ds, gs, [], [], [], [], hW, hres _ _ _, hargs _, hvars _, World.keptBut_mono (fun p hp => by cases hp) hk, fun _ => ?_⟩
  refine ⟨hok, _, _, [], ⟨[], [], trodAll_append (hargs _) (hres _ _ _), hvars _, rfl, ?_, ?_⟩, ?_⟩
  · intro b off hp; cases hp
  · intro _; simp
  · intro p hp; cases hp
end
theorem glob_size {W : World} (h : W.ShapedOpen Tryz.prog) : Tryz.prog.globals.size ≤ W.heap.size := by
  have hb : Nat.ble (Tryz.prog.globals.size + 1) (begin Tryz.prog (fun _ _ => 0) default).world.heap.size = true := by kernel_rfl
  obtain ⟨o, o0, h1, -⟩ := h.2 Tryz.prog.globals.size (Nat.le_refl _) (Nat.le_of_ble_eq_true hb)
  exact Nat.le_of_lt (Array.getElem?_eq_some_iff.1 h1).1
end Go.Proofs.YtaefgofheiegeaaGreatDoor
namespace Go.Proofs.YtaefgofheiegeaaGreatDoor
open Go.ChangeShapes Go.WideShapes Go.ChangeAt Go.RowKit
end Go.Proofs.YtaefgofheiegeaaGreatDoor
namespace Go.Proofs.YtaefgofheiegeaaGreatDoor
open Go.ChangeShapes Go.WideShapes Go.ChangeAt Go.RowKit
theorem gTab64 : Tryz.prog.globalNamed "math/bits.deBruijn64tab" = some 3 := by kernel_rfl
theorem tab64_of {W : World} (h : Lib.TabIs Tryz.prog W "math/bits.deBruijn64tab" .u8 (Lib.deBruijn64tab.map Int.ofNat)) : Tab W := by
  intro j hj
  have hl : Lib.deBruijn64tab.length = 64 := by decide
  rw [h.cell gTab64 j (by rw [List.length_map, hl]; exact hj)]
  congr 2
  rw [List.getD_eq_getElem?_getD, List.getElem?_map, List.getD_eq_getElem?_getD, List.getElem?_eq_getElem (by omega)]
  rfl
end Go.Proofs.YtaefgofheiegeaaGreatDoor
namespace Go.Proofs.YtaefgofheiegeaaGreatDoor
open Go.ChangeShapes Go.WideShapes Go.ChangeAt Go.RowKit
theorem gBase : Tryz.prog.globalNamed "diapason/residue.bases" = some 0 := by kernel_rfl
theorem tBase : (Tryz.prog.globals[0]?).map (·.type) = some 316 := by kernel_rfl
theorem dBase : (Rows.laid_diapason_residue_bases : DataW Unit) = Lib.tabData .u64 baseL := by rfl
theorem cBase : Tryz.prog.cellsOf 316 = 12 := by kernel_rfl
theorem ceBase : Tryz.prog.cellsOf 176 = 1 := by kernel_rfl
theorem gLowt : Tryz.prog.globalNamed "math/bits.deBruijn64tab" = some 3 := by kernel_rfl
theorem tLowt : (Tryz.prog.globals[3]?).map (·.type) = some 334 := by kernel_rfl
theorem dLowt : (Rows.laid_math_bits_deBruijn64tab : DataW Unit) = Lib.tabData .u8 lowL := by rfl
theorem cLowt : Tryz.prog.cellsOf 334 = 64 := by kernel_rfl
theorem ceLowt : Tryz.prog.cellsOf 5 = 1 := by kernel_rfl
def laidS : List (String × DataW Unit) := [("math/bits.deBruijn64tab", Rows.laid_math_bits_deBruijn64tab), ("diapason/residue.bases", Rows.laid_diapason_residue_bases)]
theorem tab_of_laidS {W : World} (h : laidMetH Tryz.prog laidS W) : TabB W := by
  rw [MakeChecks.laidMetH_plain _ _ _ (by kernel_rfl)] at h
  obtain ⟨ps, ⟨g1, t1, cs1, f1, p1, q1, hg1, ht1, hv1, hd1, ⟨g2, t2, cs2, f2, p2, q2, hg2, ht2, hv2, hd2, _, _⟩, _⟩, _, _⟩ := h
  obtain rfl := Option.some.inj (gLowt.symm.trans hg1)
  obtain rfl := Option.some.inj (tLowt.symm.trans ht1)
  obtain rfl := Option.some.inj (gBase.symm.trans hg2)
  obtain rfl := Option.some.inj (tBase.symm.trans ht2)
  rw [dLowt] at hd1
  rw [dBase] at hd2
  have hlow : Lib.TabIs Tryz.prog W "math/bits.deBruijn64tab" .u8 lowL := by
    show World.var? Tryz.prog W _ = _
    rw [hv1, ← Lib.cells_of_tab Tryz.underlying334 Tryz.underlying5 ceLowt cLowt hd1]
  refine ⟨tab64_of hlow, ?_, hlow⟩
  show World.var? Tryz.prog W _ = _
  rw [hv2, ← Lib.cells_of_tab Tryz.underlying316 Tryz.underlying176 ceBase cBase hd2]
end Go.Proofs.YtaefgofheiegeaaGreatDoor
namespace Go.Proofs.YtaefgofheiegeaaGreatDoor
open Go.ChangeShapes Go.WideShapes Go.ChangeAt Go.RowKit
end Go.Proofs.YtaefgofheiegeaaGreatDoor
namespace Go.Proofs.YtaefgofheiegeaaGreatDoor
open Go.ChangeShapes Go.WideShapes Go.ChangeAt Go.RowKit
theorem handed_both {H : Type} {enc : TypeId × Value → H} {C : Checked} {os : Os} {f : FuncId} {fn : Func} {s : ChangeSpec} {apart fresh handsOn again : Bool} {X : World → Array Value → Prop}
    (hX : ∀ (w w' : World) (args : Array Value), w.heap = w'.heap → X w args → X w' args)
    (hown : ownKnob C.prog.godebug = none) (started : os.Started) (noInit : C.prog.inits.idxOf? f = none) (hfn : C.prog.funcs[f]? = some fn)
    (witness : ∃ (w : World) (tape : Tape) (i : Input), w.os = os ∧ (w.forCall tape i).Shaped C.prog ∧ i.vars = [] ∧ Input.okWide C.prog (w.forCall tape i) .any w.heap.size f i ∧
      ((s.pre enc C.prog fn [] apart (w.forCall tape i).memory i.args ∧ X (w.forCall tape i).memory i.args) ∧ sizedMet enc C.prog fn (OpenSpec.ofChange s) apart (w.forCall tape i).memory i.args) ∧ Assume.holds {} C.prog (lone (Frame.enter C.prog f i.args .normal) [] (w.forCall tape i)))
    (contract : ∀ (W : World) (base : Nat) (args : Array Value) (ds gs : List (DataW H)) (before : List MemPlace),
      (∀ (j : Nat) t v, fn.params[j]? = some t → args[j]? = some v → Value.okWide C.prog W .any base t v) →
      DataW.Whole enc C.prog fn.params.toList s.vars apart W args.toList ds gs before → X W args → W.ShapedOpen C.prog →
      Calls C.prog f args W fun e W' => ∃ v, e = .returned v ∧ s.post enc C.prog fn apart fresh handsOn again W args v W') :
    ReturnsInHanded {} C os f .any (fun w args => (s.pre enc C.prog fn [] apart w args ∧ X w args) ∧ sizedMet enc C.prog fn (OpenSpec.ofChange s) apart w args) (s.post enc C.prog fn apart fresh handsOn again) := by
  refine returnsInHanded_of_calls hown started noInit witness ?_
  intro w tape i _ hshape _ hin hp _
  obtain ⟨_, _, _, fn2, hfn2, _, _, _, _, hv⟩ := hin
  obtain rfl : fn2 = fn := Option.some.inj (hfn2.symm.trans hfn)
  obtain ⟨⟨⟨ds, gs, before, hwh, _⟩, hx⟩, _⟩ := hp
  refine (contract (w.forCall tape i) w.heap.size i.args ds gs before hv (DataW.Whole.of_heap (w' := w.forCall tape i) (by rfl) hwh) (hX _ _ _ (by rfl) hx) hshape).mono fun e W' ⟨v, he, hpost⟩ => ?_
  subst he
  exact ChangeSpec.post_blind hpost
end Go.Proofs.YtaefgofheiegeaaGreatDoor
