/- Contracts, in this order: The row's last steps: a call that only makes new memory. · A struct of four bytes: its reading, both ways. -/
import Derived.Test.YtnmmgicjlbmcbaaRows
import Derived.Test.YtnmmgicjlbmcbaaChecked
import Derived.WalkKit
import Derived.ProofKit
import Derived.OpenShut
import Derived.ChangeSame
import Derived.ChangeVars
import Derived.JoinedOf
import Derived.Stop.Joined
import Derived.HandedShaped
import Derived.Test.YtnmmgicjlbmcbaaProg
import Derived.ChangeArms
import Derived.WideShapes
namespace Go.Proofs.Ytnmmgicjlbmcbaa
open Go.ChangeShapes Go.WideShapes Go.ChangeAt Go.RowKit
theorem own : ownKnob Try.prog.godebug = none := by kernel_rfl
section
variable {H : Type} {enc : TypeId × Value → H} {P : Program}
theorem post_new {f : Func} {s : ChangeSpec} {apart fresh handsOn again : Bool} {W W' : World} {args : Array Value} {v : Value} {ds gs : List (DataW H)}
    (hW : DataW.Whole enc P f.params.toList s.vars apart W args.toList ds gs [])
    (hres : ∀ (b : Nat) (sp : Nat → Bool) (hd : Bool), DataW.TrodAll enc P W' b sp hd f.resultTypes.toList (v.resultList f.resultTypes.size) (s.fn H (ds ++ gs)).results [])
    (hargs : ∀ sp : Nat → Bool, DataW.TrodAll enc P W' 0 sp true f.params.toList args.toList (s.fn H (ds ++ gs)).args [])
    (hvars : ∀ sp : Nat → Bool, DataW.TrodVars enc P W' sp s.vars (s.fn H (ds ++ gs)).vars [])
    (hb : Below W.heap.size W W')
    (hok : ∀ (j : Nat) (t : TypeId) (r : Value), f.resultTypes[j]? = some t → (v.resultList f.resultTypes.size)[j]? = some r → Value.okWide P W' .any 0 t r) :
    s.post enc P f apart fresh handsOn again W args v W' := by
  have hk : W.keptBut W' (fun p => p ∈ ([] : List MemPlace)) := hb.frame _
  refine ⟨ds, gs, [], [], [], [], hW, hres _ _ _, hargs _, hvars _, World.keptBut_mono (fun p hp => by cases hp) hk, fun _ => ?_⟩
  refine ⟨hok, _, _, [], ⟨[], [], trodAll_append (hargs _) (hres _ _ _), hvars _, rfl, ?_, ?_⟩, ?_⟩
  · intro b off hp; cases hp
  · intro _; simp
  · intro p hp; cases hp
end
theorem glob_size {W : World} (h : W.ShapedOpen Try.prog) : Try.prog.globals.size ≤ W.heap.size := by
  have hb : Nat.ble (Try.prog.globals.size + 1) (begin Try.prog (fun _ _ => 0) default).world.heap.size = true := by kernel_rfl
  obtain ⟨o, o0, h1, -⟩ := h.2 Try.prog.globals.size (Nat.le_refl _) (Nat.le_of_ble_eq_true hb)
  exact Nat.le_of_lt (Array.getElem?_eq_some_iff.1 h1).1
end Go.Proofs.Ytnmmgicjlbmcbaa
namespace Go.Proofs.Ytnmmgicjlbmcbaa
open Go.ChangeShapes Go.WideShapes Go.RowKit
theorem c_u8t : Try.prog.cellsOf 5 = 1 := by kernel_rfl
theorem c_tube : Try.prog.cellsOf 23 = 4 := by kernel_rfl
section
variable {H : Type} {enc : TypeId × Value → H} {w : World} {base : Nat} {spare : Nat → Bool} {held : Bool}
set_option maxRecDepth 100000 in
theorem tube_open {r : Reach} {b0 : Nat} {v : Value} {D : DataW H} {ps : List MemPlace} (hv : Value.okWide Try.prog w r b0 23 v) (h : DataW.Trod enc Try.prog w base spare held 23 v D ps) :
    ∃ a b c d : Int, v = .agg #[.int .u8 a, .int .u8 b, .int .u8 c, .int .u8 d] ∧ D = .agg [.lit (.int .u8 a), .lit (.int .u8 b), .lit (.int .u8 c), .lit (.int .u8 d)] ∧ ps = [] ∧ (Lit.int .u8 a).wf = true ∧ (Lit.int .u8 b).wf = true ∧ (Lit.int .u8 c).wf = true ∧ (Lit.int .u8 d).wf = true := by
  obtain ⟨cs, rfl, hsz⟩ := okWide_struct Try.underlying23 hv
  obtain ⟨fuel, hf⟩ := h
  obtain ⟨xs, n, -, hx, -, hlen, hg⟩ := DataW.trod_struct Try.underlying23 hf
  rw [c_tube] at hsz
  obtain ⟨l⟩ := cs
  match l, hsz, xs, hlen with
  | [ua, ub, uc, ud], _, [ya, yb, yc, yd], _ =>
    have h0 := hg 0 _ rfl
    simp only [Value.cells, c_u8t, List.drop, List.take, List.getElem?_cons_zero, List.getElem?_cons_succ] at h0
    obtain ⟨a, e0, z0, w0⟩ := DataW.trod_int Try.underlying5 h0
    obtain rfl := (List.cons.inj e0).1; clear e0
    subst z0
    have h1 := hg 1 _ rfl
    simp only [Value.cells, c_u8t, List.drop, List.take, List.getElem?_cons_zero, List.getElem?_cons_succ] at h1
    obtain ⟨b, e1, z1, w1⟩ := DataW.trod_int Try.underlying5 h1
    obtain rfl := (List.cons.inj e1).1; clear e1
    subst z1
    have h2 := hg 2 _ rfl
    simp only [Value.cells, c_u8t, List.drop, List.take, List.getElem?_cons_zero, List.getElem?_cons_succ] at h2
    obtain ⟨c, e2, z2, w2⟩ := DataW.trod_int Try.underlying5 h2
    obtain rfl := (List.cons.inj e2).1; clear e2
    subst z2
    have h3 := hg 3 _ rfl
    simp only [Value.cells, c_u8t, List.drop, List.take, List.getElem?_cons_zero, List.getElem?_cons_succ] at h3
    obtain ⟨d, e3, z3, w3⟩ := DataW.trod_int Try.underlying5 h3
    obtain rfl := (List.cons.inj e3).1; clear e3
    subst z3
    simp only [Prod.mk.injEq] at hx
    exact ⟨a, b, c, d, rfl, by simpa using hx.1, by simpa using hx.2, w0, w1, w2, w3⟩
set_option maxRecDepth 100000 in
theorem tube_shut {a b c d : Int} (h0 : (Lit.int .u8 a).wf = true) (h1 : (Lit.int .u8 b).wf = true) (h2 : (Lit.int .u8 c).wf = true) (h3 : (Lit.int .u8 d).wf = true) :
    DataW.Trod enc Try.prog w base spare held 23 (.agg #[.int .u8 a, .int .u8 b, .int .u8 c, .int .u8 d]) (.agg [.lit (.int .u8 a), .lit (.int .u8 b), .lit (.int .u8 c), .lit (.int .u8 d)]) [] := by
  refine ⟨2, ?_⟩
  have hh : ∀ x : Int, (Lit.int .u8 x).wf = true → DataW.trod enc Try.prog w base spare held 1 5 [.int .u8 x] = some (.lit (.int .u8 x), []) := fun x hx => trod_int_mk 0 Try.underlying5 hx
  have hm := trod_struct_mk (enc := enc) (w := w) (base := base) (spare := spare) (held := held) (n := 1) (cs := [.int .u8 a, .int .u8 b, .int .u8 c, .int .u8 d]) (xs := [(.lit (.int .u8 a), []), (.lit (.int .u8 b), []), (.lit (.int .u8 c), []), (.lit (.int .u8 d), [])]) Try.underlying23 (by rw [c_tube]; rfl) (by
    simp [c_u8t, hh a h0, hh b h1, hh c h2, hh d h3])
  simpa [Value.cells] using hm
end
end Go.Proofs.Ytnmmgicjlbmcbaa
