/- THE LAW RatioSimple, PROVED: of any numbers of two int16 each the simplest fraction between lies between, turned arguments turn it, and if it is no whole number then none lies between. It holds for every input; the listed tables lie as the program text lays them. -/
import Derived.Test.YtepnghhgmjobjaaDoorProg
import Derived.ChangeArms
import Derived.ChangeSame
import Derived.WideShapes
import Derived.OpenShut
import Derived.Test.YtepnghhgmjobjaaDoorRows
import Derived.Test.YtepnghhgmjobjaaDoorChecked
import Derived.WalkKit
import Derived.ProofKit
import Derived.ChangeVars
import Derived.JoinedOf
import Derived.Stop.Joined
import Derived.HandedShaped
import Derived.Test.YtepnghhgmjobjaaDoorRs10
import Derived.LaidMore
import Derived.Lib.LaidTab
import Derived.SizedLaws
import Derived.Shelf.Vars
import Derived.Test.YtepnghhgmjobjaaDoorRs17
import Derived.Test.YtepnghhgmjobjaaDoorCards
import Derived.Test.YtepnghhgmjobjaaDoorTie
import Derived.SevenTiedAt
namespace Go.Proofs.YtepnghhgmjobjaaDoor
open Go.ChangeShapes Go.WideShapes Go.RowKit
theorem c_i16 : Tryd.prog.cellsOf 22 = 1 := by kernel_rfl
theorem c_three : Tryd.prog.cellsOf 24 = 6 := by kernel_rfl
section
variable {H : Type} {enc : TypeId × Value → H} {w : World} {base : Nat} {spare : Nat → Bool} {held : Bool}
set_option maxRecDepth 100000 in
theorem three_open {r : Reach} {b0 : Nat} {v : Value} {D : DataW H} {ps : List MemPlace} (hv : Value.okWide Tryd.prog w r b0 24 v) (h : DataW.Trod enc Tryd.prog w base spare held 24 v D ps) :
    ∃ a b c d e f : Int, v = .agg #[.int .i16 a, .int .i16 b, .int .i16 c, .int .i16 d, .int .i16 e, .int .i16 f] ∧ D = .agg [.lit (.int .i16 a), .lit (.int .i16 b), .lit (.int .i16 c), .lit (.int .i16 d), .lit (.int .i16 e), .lit (.int .i16 f)] ∧ ps = [] ∧ (Lit.int .i16 a).wf = true ∧ (Lit.int .i16 b).wf = true ∧ (Lit.int .i16 c).wf = true ∧ (Lit.int .i16 d).wf = true ∧ (Lit.int .i16 e).wf = true ∧ (Lit.int .i16 f).wf = true := by
  obtain ⟨cs, rfl, hsz⟩ := okWide_struct Tryd.underlying24 hv
  obtain ⟨fuel, hf⟩ := h
  obtain ⟨xs, n, -, hx, -, hlen, hg⟩ := DataW.trod_struct Tryd.underlying24 hf
  rw [c_three] at hsz
  obtain ⟨l⟩ := cs
  match l, hsz, xs, hlen with
  | [ua, ub, uc, ud, ue, uf], _, [ya, yb, yc, yd, ye, yf], _ =>
    have h0 := hg 0 _ rfl
    simp only [Value.cells, c_i16, List.drop, List.take, List.getElem?_cons_zero, List.getElem?_cons_succ] at h0
    obtain ⟨a, e0, z0, w0⟩ := DataW.trod_int Tryd.underlying22 h0
    obtain rfl := (List.cons.inj e0).1; clear e0
    subst z0
    have h1 := hg 1 _ rfl
    simp only [Value.cells, c_i16, List.drop, List.take, List.getElem?_cons_zero, List.getElem?_cons_succ] at h1
    obtain ⟨b, e1, z1, w1⟩ := DataW.trod_int Tryd.underlying22 h1
    obtain rfl := (List.cons.inj e1).1; clear e1
    subst z1
    have h2 := hg 2 _ rfl
    simp only [Value.cells, c_i16, List.drop, List.take, List.getElem?_cons_zero, List.getElem?_cons_succ] at h2
    obtain ⟨c, e2, z2, w2⟩ := DataW.trod_int Tryd.underlying22 h2
    obtain rfl := (List.cons.inj e2).1; clear e2
    subst z2
    have h3 := hg 3 _ rfl
    simp only [Value.cells, c_i16, List.drop, List.take, List.getElem?_cons_zero, List.getElem?_cons_succ] at h3
    obtain ⟨d, e3, z3, w3⟩ := DataW.trod_int Tryd.underlying22 h3
    obtain rfl := (List.cons.inj e3).1; clear e3
    subst z3
    have h4 := hg 4 _ rfl
    simp only [Value.cells, c_i16, List.drop, List.take, List.getElem?_cons_zero, List.getElem?_cons_succ] at h4
    obtain ⟨e, e4, z4, w4⟩ := DataW.trod_int Tryd.underlying22 h4
    obtain rfl := (List.cons.inj e4).1; clear e4
    subst z4
    have h5 := hg 5 _ rfl
    simp only [Value.cells, c_i16, List.drop, List.take, List.getElem?_cons_zero, List.getElem?_cons_succ] at h5
    obtain ⟨f, e5, z5, w5⟩ := DataW.trod_int Tryd.underlying22 h5
    obtain rfl := (List.cons.inj e5).1; clear e5
    subst z5
    simp only [Prod.mk.injEq] at hx
    exact ⟨a, b, c, d, e, f, rfl, by simpa using hx.1, by simpa using hx.2, w0, w1, w2, w3, w4, w5⟩
set_option maxRecDepth 100000 in
theorem three_shut {a b c d e f : Int} (h0 : (Lit.int .i16 a).wf = true) (h1 : (Lit.int .i16 b).wf = true) (h2 : (Lit.int .i16 c).wf = true) (h3 : (Lit.int .i16 d).wf = true) (h4 : (Lit.int .i16 e).wf = true) (h5 : (Lit.int .i16 f).wf = true) :
    DataW.Trod enc Tryd.prog w base spare held 24 (.agg #[.int .i16 a, .int .i16 b, .int .i16 c, .int .i16 d, .int .i16 e, .int .i16 f]) (.agg [.lit (.int .i16 a), .lit (.int .i16 b), .lit (.int .i16 c), .lit (.int .i16 d), .lit (.int .i16 e), .lit (.int .i16 f)]) [] := by
  refine ⟨2, ?_⟩
  have hh : ∀ x : Int, (Lit.int .i16 x).wf = true → DataW.trod enc Tryd.prog w base spare held 1 22 [.int .i16 x] = some (.lit (.int .i16 x), []) := fun x hx => trod_int_mk 0 Tryd.underlying22 hx
  have hm := trod_struct_mk (enc := enc) (w := w) (base := base) (spare := spare) (held := held) (n := 1) (cs := [.int .i16 a, .int .i16 b, .int .i16 c, .int .i16 d, .int .i16 e, .int .i16 f]) (xs := [(.lit (.int .i16 a), []), (.lit (.int .i16 b), []), (.lit (.int .i16 c), []), (.lit (.int .i16 d), []), (.lit (.int .i16 e), []), (.lit (.int .i16 f), [])]) Tryd.underlying24 (by rw [c_three]; rfl) (by
    simp [c_i16, hh a h0, hh b h1, hh c h2, hh d h3, hh e h4, hh f h5])
  simpa [Value.cells] using hm
end
end Go.Proofs.YtepnghhgmjobjaaDoor
namespace Go.Proofs.YtepnghhgmjobjaaDoor
open Go.ChangeShapes Go.WideShapes Go.ChangeAt Go.RowKit
theorem own : ownKnob Tryd.prog.godebug = none := by kernel_rfl
section
variable {H : Type} {enc : TypeId × Value → H} {P : Program}
theorem post_new {f : Func} {s : ChangeSpec} {apart fresh handsOn again : Bool} {W W' : World} {args : Array Value} {v : Value} {ds gs : List (DataW H)}
    (hW : DataW.Whole enc P f.params.toList s.vars apart W args.toList ds gs [])
    (hres : ∀ (b : Nat) (sp : Nat → Bool) (hd : Bool), DataW.TrodAll enc P W' b sp hd f.resultTypes.toList (v.resultList f.resultTypes.size) (s.fn H (ds ++ gs)).results [])
    (hargs : ∀ sp : Nat → Bool, DataW.TrodAll enc P W' 0 sp true f.params.toList args.toList (s.fn H (ds ++ gs)).args [])
    (hvars : ∀ sp : Nat → Bool, DataW.TrodVars enc P W' sp s.vars (s.fn H (ds ++ gs)).vars [])
    (hb : Below W.heap.size W W')
    (hok : ∀ (j : Nat) (t : TypeId) (r : Value), f.resultTypes[j]? = some t → (v.resultList f.resultTypes.size)[j]? = some r → Value.okWide P W' .any 0 t r) :
    s.post enc P f apart fresh handsOn again W args v W' := by
  have hk : W.keptBut W' (fun p => p ∈ ([] : List MemPlace)) := hb.frame _
  refine ⟨ds, gs, [], [], [], [], hW, hres _ _ _, hargs _, hvars _, World.keptBut_mono (fun p hp => by cases hp) hk, fun _ => ?_⟩
  refine ⟨hok, _, _, [], ⟨[], [], trodAll_append (hargs _) (hres _ _ _), hvars _, rfl, ?_, ?_⟩, ?_⟩
  · intro b off hp; cases hp
  · intro _; simp
  · intro p hp; cases hp
end
end Go.Proofs.YtepnghhgmjobjaaDoor
namespace Go.Proofs.YtepnghhgmjobjaaDoor
open Go.ChangeShapes Go.WideShapes Go.ChangeAt Go.RowKit
theorem gTab : Tryd.prog.globalNamed "internal/strconv.uint64pow10" = some 2 := by kernel_rfl
end Go.Proofs.YtepnghhgmjobjaaDoor
namespace Go.Proofs.YtepnghhgmjobjaaDoor
open Go.ChangeShapes Go.WideShapes Go.ChangeAt Go.RowKit
def laid3 : List (String × DataW Unit) := [("math/bits.deBruijn32tab", Rows.laid_math_bits_deBruijn32tab), ("math/bits.deBruijn64tab", Rows.laid_math_bits_deBruijn64tab), ("internal/strconv.uint64pow10", Rows.laid_internal_strconv_uint64pow10)]
set_option maxRecDepth 100000 in
theorem door_met (os : Os) (args : Array Value) : laidMetH Tryd.prog laid3 ((World.doorLaid Tryd.prog 4000 os).forCall (fun _ _ => 0) ⟨#[], args, []⟩).memory :=
  laidMetH_of_parts3 (fuel := 8) (laidMet_of_run' 8 (by kernel_rfl) (by kernel_rfl)) (by kernel_rfl) (by kernel_rfl)
theorem tTab : (Tryd.prog.globals[2]?).map (·.type) = some 112 := by kernel_rfl
theorem dTab : (Rows.laid_internal_strconv_uint64pow10 : DataW Unit) = Lib.tabData .u64 Lib.pow10Tab := by rfl
theorem cTab : Tryd.prog.cellsOf 112 = 20 := by kernel_rfl
theorem ceTab : Tryd.prog.cellsOf 59 = 1 := by kernel_rfl
theorem tab_of_laid {W : World} (h : laidMetH Tryd.prog laid3 W) : Tab W := by
  rw [MakeChecks.laidMetH_plain _ _ _ (by kernel_rfl)] at h
  obtain ⟨ps, ⟨g0, t0, cs0, f0, p0, q0, hg0, ht0, hv0, hd0, ⟨g1, t1, cs1, f1, p1, q1, hg1, ht1, hv1, hd1, ⟨g2, t2, cs2, f2, p2, q2, hg2, ht2, hv2, hd2, _, _⟩, _⟩, _⟩, _, _⟩ := h
  obtain rfl := Option.some.inj (gTab.symm.trans hg2)
  obtain rfl := Option.some.inj (tTab.symm.trans ht2)
  rw [dTab] at hd2
  show World.var? Tryd.prog W _ = _
  rw [hv2, ← Lib.cells_of_tab Tryd.underlying112 Tryd.underlying59 ceTab cTab hd2]
end Go.Proofs.YtepnghhgmjobjaaDoor
namespace Go.Proofs.YtepnghhgmjobjaaDoor
open Go.ChangeShapes Go.WideShapes Go.ChangeAt Go.RowKit
theorem handed_both {H : Type} {enc : TypeId × Value → H} {C : Checked} {os : Os} {f : FuncId} {fn : Func} {s : ChangeSpec} {apart fresh handsOn again : Bool} {X : World → Array Value → Prop}
    (hX : ∀ (w w' : World) (args : Array Value), w.heap = w'.heap → X w args → X w' args)
    (hown : ownKnob C.prog.godebug = none) (started : os.Started) (noInit : C.prog.inits.idxOf? f = none) (hfn : C.prog.funcs[f]? = some fn)
    (witness : ∃ (w : World) (tape : Tape) (i : Input), w.os = os ∧ (w.forCall tape i).Shaped C.prog ∧ i.vars = [] ∧ Input.okWide C.prog (w.forCall tape i) .any w.heap.size f i ∧
      ((s.pre enc C.prog fn [] apart (w.forCall tape i).memory i.args ∧ X (w.forCall tape i).memory i.args) ∧ sizedMet enc C.prog fn (OpenSpec.ofChange s) apart (w.forCall tape i).memory i.args) ∧ Assume.holds {} C.prog (lone (Frame.enter C.prog f i.args .normal) [] (w.forCall tape i)))
    (contract : ∀ (W : World) (base : Nat) (args : Array Value) (ds gs : List (DataW H)) (before : List MemPlace),
      (∀ (j : Nat) t v, fn.params[j]? = some t → args[j]? = some v → Value.okWide C.prog W .any base t v) →
      DataW.Whole enc C.prog fn.params.toList s.vars apart W args.toList ds gs before → X W args → W.ShapedOpen C.prog →
      Calls C.prog f args W fun e W' => ∃ v, e = .returned v ∧ s.post enc C.prog fn apart fresh handsOn again W args v W') :
    ReturnsInHanded {} C os f .any (fun w args => (s.pre enc C.prog fn [] apart w args ∧ X w args) ∧ sizedMet enc C.prog fn (OpenSpec.ofChange s) apart w args) (s.post enc C.prog fn apart fresh handsOn again) := by
  refine returnsInHanded_of_calls hown started noInit witness ?_
  intro w tape i _ hshape _ hin hp _
  obtain ⟨_, _, _, fn2, hfn2, _, _, _, _, hv⟩ := hin
  obtain rfl : fn2 = fn := Option.some.inj (hfn2.symm.trans hfn)
  obtain ⟨⟨⟨ds, gs, before, hwh, _⟩, hx⟩, _⟩ := hp
  refine (contract (w.forCall tape i) w.heap.size i.args ds gs before hv (DataW.Whole.of_heap (w' := w.forCall tape i) (by rfl) hwh) (hX _ _ _ (by rfl) hx) hshape).mono fun e W' ⟨v, he, hpost⟩ => ?_
  subst he
  exact ChangeSpec.post_blind hpost
end Go.Proofs.YtepnghhgmjobjaaDoor
namespace Go.Proofs.YtepnghhgmjobjaaDoor
open Go.ChangeShapes Go.WideShapes Go.ChangeAt Go.RowKit
set_option maxRecDepth 100000 in
theorem simple_lifted (os : Os) (started : os.Started) (H : Type) (enc : TypeId × Value → H) :
    ReturnsInHanded {} Tryd.checked os 4 .any (fun w args => (Rows.ratioSimpleSpec.pre enc Tryd.prog Tryd.f4 [] false w args ∧ laidMetH Tryd.prog laid3 w) ∧ sizedMet enc Tryd.prog Tryd.f4 (OpenSpec.ofChange Rows.ratioSimpleSpec) false w args)
      (Rows.ratioSimpleSpec.post enc Tryd.prog Tryd.f4 false true false false) := by
  refine handed_both (C := Tryd.checked) (X := fun w _ => laidMetH Tryd.prog laid3 w) (fun _ _ _ hh h => h.of_heap hh) own started (by kernel_rfl) Tryd.func4
    (ChangeSpec.witness_shaped (enc := enc) (C := Tryd.checked) (os := os) (X := fun w _ => laidMetH Tryd.prog laid3 w) false (World.doorLaid Tryd.prog 4000 os) #[.agg #[.int .i16 0, .int .i16 0, .int .i16 0, .int .i16 0, .int .i16 0, .int .i16 0]] 8 rfl (World.shaped_of_RefB (by kernel_rfl) (by kernel_rfl)) (by kernel_rfl) (by kernel_rfl) (by kernel_rfl) (door_met os _)) ?_
  intro W base args ds gs before hval0 hW hL hsh
  have hval : ∀ (j : Nat) t v, Tryd.f4.params[j]? = some t → args[j]? = some v → Value.okWide Tryd.prog W .any base t v := hval0
  have hW' := hW
  obtain ⟨p, q, hA0, hV, rfl, hfz, hnd⟩ := hW
  have hA : DataW.TrodAll enc Tryd.prog W 0 (fun _ => true) true Tryd.f4.params.toList args.toList ds p := hA0
  rw [Tryd.params4] at hA hval
  obtain ⟨v0, vs0, d0, ds0, p0, q0, hargs, rfl, rfl, h0, r0⟩ := trodAll_cons hA
  obtain ⟨rfl, rfl, rfl⟩ := trodAll_nil r0
  obtain rfl : args = #[v0] := by cases args; simp_all
  obtain ⟨rfl, rfl⟩ := trodVars_none hV
  obtain ⟨a, b, c, d, e, f, rfl, rfl, rfl, w0, w1, w2, w3, w4, w5⟩ := three_open (hval 0 24 v0 rfl rfl) h0
  have htab := tab_of_laid hL
  clear hA0 hval0
  simp only [List.append_nil] at hW'
  have bd : ∀ x : Int, (Lit.int .i16 x).wf = true → -32768 ≤ x ∧ x ≤ 32767 := fun x hx => by
    have emin : IntKind.i16.min = -32768 := by decide
    have emax : IntKind.i16.max = 32767 := by decide
    simpa [Lit.wf, emin, emax] using hx
  have b0 := bd _ w0; have b1 := bd _ w1; have b2 := bd _ w2; have b3 := bd _ w3; have b4 := bd _ w4; have b5 := bd _ w5
  refine (simple_any W a b c d e f ⟨b0.1, b1.1, b2.1, b3.1⟩ ⟨b0.2, b1.2, b2.2, b3.2⟩ htab).mono fun ee W' ⟨he, hb⟩ => ?_
  subst he
  exact ⟨_, rfl, post_new hW' (fun _ _ _ => (trodAll_cons_mk (shut_bool Tryd.underlying4 _) trodAll_mk0)) (fun sp => (trodAll_cons_mk (three_shut w0 w1 w2 w3 w4 w5) trodAll_mk0)) (fun _ => rfl)
    hb (ok_one (by kernel_rfl) rfl (okWide_bool_mk Tryd.underlying4 _))⟩
theorem simple_holds : Rows.RatioSimpleSaid :=
  OpenClaim.holds_of_wide 4 Tryd.f4 rfl rfl rfl rfl rfl rfl rfl ⟨rfl, rfl, rfl, rfl, rfl⟩ rfl rfl rfl rfl rfl (by kernel_rfl) Tryd.func4 (by kernel_rfl)
    (of_decide_eq_true (by kernel_rfl)) (by unfold Func.isWrapper; first | (rw [if_pos (by decide +kernel)]; kernel_rfl) | (rw [if_neg (by decide +kernel)]; exact ⟨rfl, rfl⟩))
    (fun os started H enc _ => simple_lifted os started H enc)
theorem simple_card : Rows.RatioSimpleCardSaid :=
  Claim7.holds_tied_plain_at .later [] [.data, .data, .data] true (true, "702efcbfd594893a1f5d5e833e2a8bae10af173dc25258346e1231c02bd84204") false
    simple_holds (fun _ h => by cases h) (by kernel_rfl) (fun _ h => by cases h) ratioSimple_row_tie rfl ⟨rfl, rfl⟩ (by kernel_rfl) rfl
    (fun f fn hf hfn => by
      obtain rfl : f = 4 := Option.some.inj ((show Tryd.prog.funcNamed "diapason/diapasonlaw01.RatioSimple" = some 4 by kernel_rfl).symm.trans hf) |>.symm
      obtain rfl : fn = Tryd.f4 := (Option.some.inj (Tryd.func4.symm.trans hfn)).symm
      exact ⟨by kernel_rfl, fun j t ht => by
        rw [Tryd.params4] at ht
        have h3 : t = 24 := by
          rcases j with _ | j
          · simpa using ht.symm
          · simp at ht
        subst h3
        exact (show Tryd.prog.wantsStandIn 24 = false by kernel_rfl)⟩)
    (by kernel_rfl)
end Go.Proofs.YtepnghhgmjobjaaDoor
