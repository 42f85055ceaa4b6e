/- Contracts, in this order: ratio's and ref01's answers to what may not be: every path r -/
import Derived.Test.YthjofdfnppadnaaGreatDoorZt25
import Derived.Test.YthjofdfnppadnaaGreatDoorZt23
namespace Go.Proofs.YthjofdfnppadnaaGreatDoor
open Go Go.RowKit
namespace Ev
namespace Tl
set_option maxRecDepth 100000
noncomputable def rdM (args : List Value) : Option (M Sy Value) := match args with
  | [a] => match a with
    | .agg cs => some (bind (frcV cs.toList) (readK []))
    | _ => none
  | _ => none
theorem tl_nil (ρ : Env) : AllH ρ [] := fun x hx => by cases hx
noncomputable def tlL : List (Nat × (List Value → Option (M Sy Value))) := [(120, rdM), (64, ratS [])]
noncomputable def tlS : Sums Sy := sumsOf (mkTab tlL)
theorem tlS_ok (ρ : Env) : SumOK (symSig ρ) Tryz.prog tlS := sumsOf_ok fun x hx => by
  unfold tlL at hx
  simp only [List.mem_cons, List.not_mem_nil, or_false] at hx
  rcases hx with rfl | rfl
  · exact ssum_read (tl_nil ρ)
  · exact s_rat (tl_nil ρ)
noncomputable def worksT : Fact := ⟨18, [], .bool true⟩
theorem worksT_ok : worksT.ok := Fact.of_run (n := 40) (by kernel_rfl) rfl
noncomputable def tlr1 (a : Bool) (f : FuncId) : Option (D3 Sy) := tells (inp a 0) [.agg 3] (call Tryz.prog symC tlS 60 f)
noncomputable def tlr2 (a b : Bool) (f : FuncId) : Option (D3 Sy) := tells (inp a 0 ++ inp b 1) [.agg 3, .agg 3] (call Tryz.prog symC tlS 60 f)
noncomputable def tlI (n : Int) : D3 Sy := .one (.one (.p (.int .i64 n)))
noncomputable def tlZ : D3 Sy := .tuple [.agg [.p (.bool false), .p (.string ⟨#[]⟩), .p (.string ⟨#[]⟩)], .one (.p (.int .i64 2))]
noncomputable def tlC : D3 Sy := .tuple [.one (.p (.int .i64 0)), .one (.p (.int .i64 2))]
noncomputable def tlB : D3 Sy := .tuple [.one (.p (.int .i64 0)), .one (.p (.bool false))]
noncomputable def tlT : D3 Sy := .tuple [.one (.p (.string ⟨#[]⟩)), .one (.p (.int .i64 2))]
theorem tl_check_g : tlr1 true 24 = some (tlI 0) ∧ tlr1 true 25 = some (tlI 0) := by constructor <;> kernel_rfl
theorem tl_check_b : tlr1 false 24 = some (tlI 2) ∧ tlr1 false 25 = some (tlI 2) := by constructor <;> kernel_rfl
theorem tl_sign_b : tlr1 false 26 = some (tlI 0) ∧ tlr1 false 27 = some (tlI 0) := by constructor <;> kernel_rfl
theorem tl_cmp_b : ∀ a b : Bool, (a && b) = false → tlr2 a b 15 = some tlC ∧ tlr2 a b 28 = some tlC := by
  intro a b
  cases a <;> cases b <;> intro h <;> first | (cases h; done) | (constructor <;> kernel_rfl)
theorem tl_floor_b : tlr1 false 14 = some tlZ ∧ tlr1 false 29 = some tlZ := by constructor <;> kernel_rfl
theorem tl_int64_b : tlr1 false 17 = some tlB ∧ tlr1 false 30 = some tlB := by constructor <;> kernel_rfl
theorem tl_text_b : tlr1 false 12 = some tlT ∧ tlr1 false 31 = some tlT := by constructor <;> kernel_rfl
def Both (f g : FuncId) (args : List Value) (v : Value) : Prop := ∀ w : World, Tryz.prog.globals.size ≤ w.heap.size → Tab w →
  Calls Tryz.prog f ⟨args⟩ w (fun e w' => e = .returned v ∧ Below w.heap.size w w') ∧ Calls Tryz.prog g ⟨args⟩ w (fun e w' => e = .returned v ∧ Below w.heap.size w w')
structure TlIn (x : Tri) where
  ρ : Env
  a : Bool
  g : a = true → ∃ q, Fit q ∧ x = tri q
  h : ∀ w, HoldsL (symSig ρ) w (inp a 0) (cel x)
theorem tlin (x : Tri) : ∃ i : TlIn x, True := by
  obtain ⟨i, -⟩ := in4 x x x x
  exact ⟨⟨i.ρ, i.a, fun h => ⟨i.ρ.q 0, i.ρ.fit 0 (by decide), i.hx.1 h⟩, fun w => inp_holds (w := w) i.hx.1 i.hx.2⟩, trivial⟩
theorem tlc1 {x : Tri} (i : TlIn x) {f : FuncId} {d : D3 Sy} {w : World} (hr : tlr1 i.a f = some d) (hG : Tryz.prog.globals.size ≤ w.heap.size) (hT : Tab w) :
    Calls Tryz.prog f ⟨[.agg ⟨cel x⟩]⟩ w fun e w' => ∃ v, e = .returned v ∧ d.is (symSig i.ρ) w' v ∧ Below w.heap.size w w' :=
  tells_calls (symFits _) (tlS_ok i.ρ) hr rfl glob_few (i.h w) hG hT
theorem tlc2 {x y : Tri} (i : In4 x y x y) {f : FuncId} {d : D3 Sy} {w : World} (hr : tlr2 i.a i.b f = some d) (hG : Tryz.prog.globals.size ≤ w.heap.size) (hT : Tab w) :
    Calls Tryz.prog f ⟨[.agg ⟨cel x⟩, .agg ⟨cel y⟩]⟩ w fun e w' => ∃ v, e = .returned v ∧ d.is (symSig i.ρ) w' v ∧ Below w.heap.size w w' :=
  tells_calls (symFits _) (tlS_ok i.ρ) hr rfl glob_few (holdsL_append (inp_holds (w := w) i.hx.1 i.hx.2) (inp_holds i.hy.1 i.hy.2)) hG hT
theorem tlb1 {x : Tri} (i : TlIn x) {f g : FuncId} {d : D3 Sy} {v : Value} (hr : tlr1 i.a f = some d ∧ tlr1 i.a g = some d) (hd : ∀ w u, d.is (symSig i.ρ) w u → u = v) : Both f g [.agg ⟨cel x⟩] v := fun w hG hT =>
  ⟨(tlc1 i hr.1 hG hT).mono fun e w' hh => by obtain ⟨u, rfl, h1, h2⟩ := hh; exact ⟨by rw [hd _ _ h1], h2⟩,
   (tlc1 i hr.2 hG hT).mono fun e w' hh => by obtain ⟨u, rfl, h1, h2⟩ := hh; exact ⟨by rw [hd _ _ h1], h2⟩⟩
theorem tlb2 {x y : Tri} (i : In4 x y x y) {f g : FuncId} {d : D3 Sy} {v : Value} (hr : tlr2 i.a i.b f = some d ∧ tlr2 i.a i.b g = some d) (hd : ∀ w u, d.is (symSig i.ρ) w u → u = v) : Both f g [.agg ⟨cel x⟩, .agg ⟨cel y⟩] v := fun w hG hT =>
  ⟨(tlc2 i hr.1 hG hT).mono fun e w' hh => by obtain ⟨u, rfl, h1, h2⟩ := hh; exact ⟨by rw [hd _ _ h1], h2⟩,
   (tlc2 i hr.2 hG hT).mono fun e w' hh => by obtain ⟨u, rfl, h1, h2⟩ := hh; exact ⟨by rw [hd _ _ h1], h2⟩⟩
theorem tlI_is {ρ : Env} {n : Int} {w : World} {u : Value} (h : (tlI n).is (symSig ρ) w u) : u = .int .i64 n := h
theorem tlT_is {ρ : Env} {a b : Value} {w : World} {u : Value} (h : (D3.tuple [.one (.p a), .one (.p b)] : D3 Sy).is (symSig ρ) w u) : u = .tuple ⟨[a, b]⟩ := by
  obtain ⟨vs, rfl, v1, l1, rfl, h1, v2, l2, rfl, h2, h3⟩ := h
  obtain rfl : l2 = [] := h3
  rw [show v1 = a from h1, show v2 = b from h2]
theorem tlZ_is {ρ : Env} {w : World} {u : Value} (h : tlZ.is (symSig ρ) w u) : u = .tuple ⟨[.agg ⟨[.bool false, .string ⟨#[]⟩, .string ⟨#[]⟩]⟩, .int .i64 2]⟩ := by
  obtain ⟨vs, rfl, v1, l1, rfl, ⟨us, rfl, y1, m1, rfl, k1, y2, m2, rfl, k2, y3, m3, rfl, k3, k4⟩, v2, l2, rfl, h2, h3⟩ := h
  obtain rfl : m3 = [] := k4
  obtain rfl : l2 = [] := h3
  rw [show y1 = _ from k1, show y2 = _ from k2, show y3 = _ from k3, show v2 = _ from h2]
end Tl
end Ev
end Go.Proofs.YthjofdfnppadnaaGreatDoor
