/- THE LAW GaussPrints, PROVED: the text of every number is the document's, and what may not be has none. The listed variables lie as the program text lays them. -/
import Derived.Test.YtepnghhgmjobjaaGreatDoorGt25
import Derived.Test.YtepnghhgmjobjaaGreatDoorGt24
import Derived.Test.YtepnghhgmjobjaaGreatDoorGt23
import Derived.Laws.StructEq
import Derived.Test.YtepnghhgmjobjaaGreatDoorGt26
import Derived.Test.YtepnghhgmjobjaaGreatDoorGt13
import Derived.ChangeArms
import Derived.ChangeSame
import Derived.WideShapes
import Derived.OpenShut
import Derived.Test.YtepnghhgmjobjaaGreatDoorRows
import Derived.Test.YtepnghhgmjobjaaGreatDoorChecked
import Derived.WalkKit
import Derived.ProofKit
import Derived.ChangeVars
import Derived.JoinedOf
import Derived.Stop.Joined
import Derived.HandedShaped
import Derived.LaidMore
import Derived.Lib.LaidTab
import Derived.SizedLaws
import Derived.Shelf.Vars
import Derived.Lay
import Derived.Test.YtepnghhgmjobjaaGreatDoorCards
import Derived.SevenTiedAt
import Derived.ChangeMaps5
import Derived.Test.YtepnghhgmjobjaaGreatDoorTie
namespace Go.Proofs.YtepnghhgmjobjaaGreatDoor
open Go Go.RowKit
namespace Ev
namespace Gp
set_option maxRecDepth 100000
set_option maxHeartbeats 4000000 in
theorem gtext_good (w : World) (x1 y1 : Bool) (x2 x3 y2 y3 : ByteArray) (a b : List UInt8) (la : a.length ≤ 100000000) (lb : b.length ≤ 100000000) (hb : b ≠ [])
    (c1 : ∀ W, Below w.heap.size w W → Calls Tryz.prog 58 #[.agg #[.bool x1, .string x2, .string x3]] W fun e w' => e = .returned (.tuple #[.string ⟨a.toArray⟩, .int .i64 0]) ∧ Below W.heap.size W w')
    (c2 : ∀ W, Below w.heap.size w W → Calls Tryz.prog 58 #[.agg #[.bool y1, .string y2, .string y3]] W fun e w' => e = .returned (.tuple #[.string ⟨b.toArray⟩, .int .i64 0]) ∧ Below W.heap.size W w') :
    Calls Tryz.prog 21 #[.agg #[.bool x1, .string x2, .string x3, .bool y1, .string y2, .string y3]] w fun e w' => e = .returned (.tuple #[sOf (joinB a b), .int .i64 0]) ∧ Below w.heap.size w w' := by
  have C1 := Lib.hid c1
  have C2 := Lib.hid c2
  have HJ := Lib.hid (fun W => join_any W a b la lb hb)
  have HB0 := Lib.hid (box1_below w (.cells #[.bool x1, .string x2, .string x3, .bool y1, .string y2, .string y3] 26))
  have HN0 := Lib.hid (AtL.new w 26 #[.bool x1, .string x2, .string x3, .bool y1, .string y2, .string y3])
  clear c1 c2 la lb hb
  go_enter Tryz.func21, Tryz.ntmps21
  go_wp2_with fail
  generalize w.alloc (.cells #[.bool x1, .string x2, .string x3, .bool y1, .string y2, .string y3] 26) = v0 at *
  refine (C1.out _ HB0.out).mono ?_
  rintro e w1 ⟨rfl, hw1⟩
  have HB1 := Lib.hid (HB0.out.trans (hw1.mono HB0.out.size))
  have HN1 := HN0.out.keep hw1
  have k3 := HN1.cell 3 rfl; have k4 := HN1.cell 4 rfl; have k5 := HN1.cell 5 rfl
  clear hw1 HN0 HB0
  go_wp2_with fail
  refine (C2.out _ HB1.out).mono ?_
  rintro e w2 ⟨rfl, hw2⟩
  have HB2 := Lib.hid (HB1.out.trans (hw2.mono HB1.out.size))
  clear hw2 k3 k4 k5 HN1
  go_wp2_with fail
  refine (HJ.out _).mono ?_
  rintro e w3 ⟨rfl, rfl⟩
  unfold sOf
  go_wp2_with fail
  go_ret2
  exact ⟨rfl, HB2.out⟩
set_option maxHeartbeats 4000000 in
theorem gtext_bad1 (w : World) (x1 y1 : Bool) (x2 x3 y2 y3 : ByteArray) (a b : List UInt8)
    (c1 : ∀ W, Below w.heap.size w W → Calls Tryz.prog 58 #[.agg #[.bool x1, .string x2, .string x3]] W fun e w' => e = .returned (.tuple #[.string ⟨a.toArray⟩, .int .i64 2]) ∧ Below W.heap.size W w')
    (c2 : ∀ W, Below w.heap.size w W → Calls Tryz.prog 58 #[.agg #[.bool y1, .string y2, .string y3]] W fun e w' => e = .returned (.tuple #[.string ⟨b.toArray⟩, .int .i64 0]) ∧ Below W.heap.size W w') :
    Calls Tryz.prog 21 #[.agg #[.bool x1, .string x2, .string x3, .bool y1, .string y2, .string y3]] w fun e w' => e = .returned (.tuple #[.string ⟨#[]⟩, .int .i64 2]) ∧ Below w.heap.size w w' := by
  have C1 := Lib.hid c1
  have C2 := Lib.hid c2
  have HB0 := Lib.hid (box1_below w (.cells #[.bool x1, .string x2, .string x3, .bool y1, .string y2, .string y3] 26))
  have HN0 := Lib.hid (AtL.new w 26 #[.bool x1, .string x2, .string x3, .bool y1, .string y2, .string y3])
  clear c1 c2
  go_enter Tryz.func21, Tryz.ntmps21
  go_wp2_with fail
  generalize w.alloc (.cells #[.bool x1, .string x2, .string x3, .bool y1, .string y2, .string y3] 26) = v0 at *
  refine (C1.out _ HB0.out).mono ?_
  rintro e w1 ⟨rfl, hw1⟩
  have HB1 := Lib.hid (HB0.out.trans (hw1.mono HB0.out.size))
  have HN1 := HN0.out.keep hw1
  have k3 := HN1.cell 3 rfl; have k4 := HN1.cell 4 rfl; have k5 := HN1.cell 5 rfl
  clear hw1 HN0 HB0
  go_wp2_with fail
  refine (C2.out _ HB1.out).mono ?_
  rintro e w2 ⟨rfl, hw2⟩
  have HB2 := Lib.hid (HB1.out.trans (hw2.mono HB1.out.size))
  clear hw2 k3 k4 k5 HN1
  go_wp2_with fail
  go_ret2
  exact ⟨rfl, HB2.out⟩
set_option maxHeartbeats 4000000 in
theorem gtext_bad2 (w : World) (x1 y1 : Bool) (x2 x3 y2 y3 : ByteArray) (a b : List UInt8)
    (c1 : ∀ W, Below w.heap.size w W → Calls Tryz.prog 58 #[.agg #[.bool x1, .string x2, .string x3]] W fun e w' => e = .returned (.tuple #[.string ⟨a.toArray⟩, .int .i64 0]) ∧ Below W.heap.size W w')
    (c2 : ∀ W, Below w.heap.size w W → Calls Tryz.prog 58 #[.agg #[.bool y1, .string y2, .string y3]] W fun e w' => e = .returned (.tuple #[.string ⟨b.toArray⟩, .int .i64 2]) ∧ Below W.heap.size W w') :
    Calls Tryz.prog 21 #[.agg #[.bool x1, .string x2, .string x3, .bool y1, .string y2, .string y3]] w fun e w' => e = .returned (.tuple #[.string ⟨#[]⟩, .int .i64 2]) ∧ Below w.heap.size w w' := by
  have C1 := Lib.hid c1
  have C2 := Lib.hid c2
  have HB0 := Lib.hid (box1_below w (.cells #[.bool x1, .string x2, .string x3, .bool y1, .string y2, .string y3] 26))
  have HN0 := Lib.hid (AtL.new w 26 #[.bool x1, .string x2, .string x3, .bool y1, .string y2, .string y3])
  clear c1 c2
  go_enter Tryz.func21, Tryz.ntmps21
  go_wp2_with fail
  generalize w.alloc (.cells #[.bool x1, .string x2, .string x3, .bool y1, .string y2, .string y3] 26) = v0 at *
  refine (C1.out _ HB0.out).mono ?_
  rintro e w1 ⟨rfl, hw1⟩
  have HB1 := Lib.hid (HB0.out.trans (hw1.mono HB0.out.size))
  have HN1 := HN0.out.keep hw1
  have k3 := HN1.cell 3 rfl; have k4 := HN1.cell 4 rfl; have k5 := HN1.cell 5 rfl
  clear hw1 HN0 HB0
  go_wp2_with fail
  refine (C2.out _ HB1.out).mono ?_
  rintro e w2 ⟨rfl, hw2⟩
  have HB2 := Lib.hid (HB1.out.trans (hw2.mono HB1.out.size))
  clear hw2 k3 k4 k5 HN1
  go_wp2_with fail
  go_ret2
  exact ⟨rfl, HB2.out⟩
set_option maxHeartbeats 4000000 in
theorem gtext_bad3 (w : World) (x1 y1 : Bool) (x2 x3 y2 y3 : ByteArray) (a b : List UInt8)
    (c1 : ∀ W, Below w.heap.size w W → Calls Tryz.prog 58 #[.agg #[.bool x1, .string x2, .string x3]] W fun e w' => e = .returned (.tuple #[.string ⟨a.toArray⟩, .int .i64 2]) ∧ Below W.heap.size W w')
    (c2 : ∀ W, Below w.heap.size w W → Calls Tryz.prog 58 #[.agg #[.bool y1, .string y2, .string y3]] W fun e w' => e = .returned (.tuple #[.string ⟨b.toArray⟩, .int .i64 2]) ∧ Below W.heap.size W w') :
    Calls Tryz.prog 21 #[.agg #[.bool x1, .string x2, .string x3, .bool y1, .string y2, .string y3]] w fun e w' => e = .returned (.tuple #[.string ⟨#[]⟩, .int .i64 2]) ∧ Below w.heap.size w w' := by
  have C1 := Lib.hid c1
  have C2 := Lib.hid c2
  have HB0 := Lib.hid (box1_below w (.cells #[.bool x1, .string x2, .string x3, .bool y1, .string y2, .string y3] 26))
  have HN0 := Lib.hid (AtL.new w 26 #[.bool x1, .string x2, .string x3, .bool y1, .string y2, .string y3])
  clear c1 c2
  go_enter Tryz.func21, Tryz.ntmps21
  go_wp2_with fail
  generalize w.alloc (.cells #[.bool x1, .string x2, .string x3, .bool y1, .string y2, .string y3] 26) = v0 at *
  refine (C1.out _ HB0.out).mono ?_
  rintro e w1 ⟨rfl, hw1⟩
  have HB1 := Lib.hid (HB0.out.trans (hw1.mono HB0.out.size))
  have HN1 := HN0.out.keep hw1
  have k3 := HN1.cell 3 rfl; have k4 := HN1.cell 4 rfl; have k5 := HN1.cell 5 rfl
  clear hw1 HN0 HB0
  go_wp2_with fail
  refine (C2.out _ HB1.out).mono ?_
  rintro e w2 ⟨rfl, hw2⟩
  have HB2 := Lib.hid (HB1.out.trans (hw2.mono HB1.out.size))
  clear hw2 k3 k4 k5 HN1
  go_wp2_with fail
  go_ret2
  exact ⟨rfl, HB2.out⟩
end Gp
end Ev
end Go.Proofs.YtepnghhgmjobjaaGreatDoor
namespace Go.Proofs.YtepnghhgmjobjaaGreatDoor
open Go Go.RowKit
namespace Ev
noncomputable def three (a b : Option Bool) : Option Bool := match a with
  | some x => cond x b (some false)
  | none => match b with
    | some y => cond y none (some false)
    | none => none
section
variable {ρ : Env} {A : List As} {h h' : Tr (Blk Sy)} {nx nx' : Nat} {R W : List Nat} {r : Ren} {w : World}
end
end Ev
end Go.Proofs.YtepnghhgmjobjaaGreatDoor
namespace Go.Proofs.YtepnghhgmjobjaaGreatDoor
open Go Go.RowKit
namespace Ev
structure Ps where
  a : Qe
  b : Qe
  t : Bool
def Ps.holds (ρ : Nat → Rat) (x : Ps) : Prop := x.t = true ↔ (Fit (x.a.ev ρ) ∧ Fit (x.b.ev ρ))
noncomputable def both (o p : Option Qe) : Option (Qe × Qe) := match o with
  | some e => match p with
    | some f => some (e, f)
    | none => none
  | none => none
section
variable {ρ : Env} {A : List As} {B : List Ps} {h h' : Tr (Blk Sy)} {nx nx' : Nat} {R W : List Nat} {r : Ren} {w : World}
theorem mod_G {F : Type} {S : Sig F} {g : Nat → Option (Blk F)} (hM : Mod S r g w) (hG : S.G = Tryz.prog.globals.size) : Tryz.prog.globals.size ≤ w.heap.size := by
  rcases Nat.eq_zero_or_pos Tryz.prog.globals.size with h0 | h0
  · omega
  · have := hM.lt _ _ (hM.glob (Tryz.prog.globals.size - 1) (by rw [hG]; omega))
    omega
end
end Ev
end Go.Proofs.YtepnghhgmjobjaaGreatDoor
namespace Go.Proofs.YtepnghhgmjobjaaGreatDoor
open Go Go.RowKit
namespace Ev
set_option maxRecDepth 100000
section
variable {ρ : Env} {A : List As} {B : List Ps}
end
noncomputable def works2 : Fact := ⟨18, [], .bool true⟩
theorem works2_ok : works2.ok := Fact.of_run (n := 40) (by kernel_rfl) rfl
end Ev
end Go.Proofs.YtepnghhgmjobjaaGreatDoor
namespace Go.Proofs.YtepnghhgmjobjaaGreatDoor
open Go Go.RowKit
namespace Ev
set_option maxRecDepth 100000
section
variable {ρ : Env} {A : List As} {h h' : Tr (Blk Sy)} {nx nx' : Nat} {R W : List Nat} {r : Ren} {w : World}
theorem sgoes_factT {f0 : Sy} {f : FuncId} {args' : List Value} {v u : Value} (hp : plain u = true) (e : (bind (newFact f0) fun p => ret (.tuple ⟨[p, u]⟩) : M Sy Value) h nx = .ok v h' nx' R W) (hM : Mod (symSig ρ) r h.get w) (hN : New r nx nx')
    (c : Calls Tryz.prog f ⟨args'⟩ w fun e w' => ∃ v', e = .returned (.tuple ⟨[v', u]⟩) ∧ f0.holds ρ w' v' ∧ Below w.heap.size w w') : GoesS ρ f args' r w nx nx' W h'.get v := by
  obtain ⟨x, h0, nx0, R0, W0, R00, W00, e0, e00, rfl, rfl⟩ := bind_ok e
  obtain ⟨rfl, rfl, rfl, rfl⟩ := ret_ok e00
  obtain ⟨i, h1, nx1, R1, W1, R2, W2, e1, e2, rfl, rfl⟩ := bind_ok e0
  obtain ⟨rfl, rfl, rfl, rfl⟩ := ret_ok e2
  unfold fresh at e1
  cases e1
  refine c.mono ?_
  rintro en w' ⟨v', rfl, hv, hb⟩
  obtain ⟨r', hX, hr⟩ := ext_fact (S := symSig ρ) (f := f0) hM hb hN hv (Sy.one hv)
  exact ⟨_, r', rfl, .tuple (.cons (.opq hr (Sy.one hv)) (.cons (.same hp) .nil)), by simpa using hX.congr fun n => .inr (Tr.get_set _ _ _ _)⟩
noncomputable def ratS (A : List As) (args : List Value) : Option (M Sy Value) := match args with
  | [a] => match a with
    | .agg cs => some (bind (frcV cs.toList) fun o => match o with
      | some e => match fitB A e with
        | some t => cond t (bind (newFact (.rt e)) fun p => ret (.tuple ⟨[p, .bool true]⟩)) fail
        | none => fail
      | none => bind (newFact .jk) fun p => ret (.tuple ⟨[p, .bool false]⟩))
    | _ => none
  | _ => none
theorem s_rat (hA : AllH ρ A) : SumF (symSig ρ) Tryz.prog 59 (ratS A) := by
  intro args m e
  unfold ratS at e
  rcases args with _ | ⟨a, _ | ⟨c, l⟩⟩ <;> simp only [reduceCtorEq] at e
  cases a <;> simp only [reduceCtorEq, Option.some.injEq] at e
  rename_i cs
  subst e
  refine ⟨loc_bind (loc_frcV _) fun o => ?_, ?_⟩
  · split
    · split
      · exact loc_cond (loc_bind (loc_newFact _) fun _ => loc_ret _) loc_fail
      · exact loc_fail
    · exact loc_bind (loc_newFact _) fun _ => loc_ret _
  intro h nx v h' nx' R W e r w args' ha hM hN
  cases ha with
  | cons ha hb =>
  cases hb
  obtain ⟨cl⟩ := cs
  obtain ⟨cl', rfl, hc⟩ := vr_agg ha
  obtain ⟨o, h1, nx1, R1, W1, R2, W2, e1, e2, rfl, rfl⟩ := bind_ok e
  obtain ⟨rfl, rfl, rfl, hx⟩ := frcV_ok e1 hc hM
  have hG := mod_G hM rfl
  have hT : Tab w := hM.base
  cases o with
  | none =>
    obtain ⟨x, hbad, rfl⟩ := hx
    have := sgoes_factT (u := .bool false) rfl e2 hM hN (f := 59) (args' := [.agg ⟨cel x⟩]) ((rat_bad x hbad hG hT).mono fun e w' hh => by
      obtain ⟨b, rfl, hb⟩ := hh
      exact ⟨_, rfl, ⟨_, rfl⟩, hb⟩)
    exact this
  | some e0 =>
    obtain rfl : cl' = _ := hx
    simp only at e2
    cases hf : fitB A e0 with
    | none => rw [hf] at e2; cases (show (fail : M Sy Value) h1 nx1 = _ from e2)
    | some t =>
      rw [hf] at e2
      obtain ⟨rfl, e3⟩ := cond_ok e2
      have := sgoes_factT (u := .bool true) rfl e3 hM hN (f := 59) (args' := [.agg ⟨cel (tri (e0.ev ρ.q))⟩]) ((rat_ok ((fitB_ok hA hf).1 rfl) hG hT).mono fun e w' hh => by
        obtain ⟨x, rfl, hx, hb⟩ := hh
        exact ⟨_, rfl, hx, hb⟩)
      exact this
end
end Ev
end Go.Proofs.YtepnghhgmjobjaaGreatDoor
namespace Go.Proofs.YtepnghhgmjobjaaGreatDoor
open Go Go.RowKit
namespace Ev
namespace Gp
set_option maxRecDepth 100000
theorem nil_ok (ρ : Env) : AllH ρ [] := fun x hx => by cases hx
noncomputable def rdM (args : List Value) : Option (M Sy Value) := match args with
  | [a] => match a with
    | .agg cs => some (bind (frcV cs.toList) (readK []))
    | _ => none
  | _ => none
noncomputable def gpL : List (Nat × (List Value → Option (M Sy Value))) := [(95, rdM), (59, ratS [])]
noncomputable def gpS : Sums Sy := sumsOf (mkTab gpL)
theorem gpS_ok (ρ : Env) : SumOK (symSig ρ) Tryz.prog gpS := sumsOf_ok fun x hx => by
  unfold gpL at hx
  simp only [List.mem_cons, List.not_mem_nil, or_false] at hx
  rcases hx with rfl | rfl
  · exact ssum_read (nil_ok ρ)
  · exact s_rat (nil_ok ρ)
noncomputable def txD : D3 Sy := .tuple [.one (.p (.string ⟨#[]⟩)), .one (.p (.int .i64 2))]
theorem text_run : tells (inp false 0) [.agg 3] (call Tryz.prog symC gpS 60 58) = some txD := by kernel_rfl
noncomputable def ofD (a b : Bool) : D3 Sy := .tuple [.agg [.f (cond a (.rt v0) .jk), .f (cond b (.rt v1) .jk)], .one (.p (.bool (a && b)))]
theorem of_run (a b : Bool) : tells (inp a 0 ++ inp b 1) [.agg 6] (call Tryz.prog symC gpS 60 22) = some (ofD a b) := by
  cases a <;> cases b <;> kernel_rfl
section
variable {w : World}
theorem text_bad (x : Tri) (hx : BadF x) (hG : Tryz.prog.globals.size ≤ w.heap.size) (hT : Tab w) :
    Calls Tryz.prog 58 ⟨[.agg ⟨cel x⟩]⟩ w fun e w' => e = .returned (.tuple ⟨[.string ⟨#[]⟩, .int .i64 2]⟩) ∧ Below w.heap.size w w' := by
  let ρ : Env := Env.ofFit (fun _ => 0) (fun _ => x) (fun _ => ⟨by decide, by decide⟩) (fun _ => hx)
  have hu : HoldsL (symSig ρ) w (inp false 0) (cel x) := inp_holds (fun h => (by cases h)) (fun _ => rfl)
  refine (tells_calls (symFits _) (gpS_ok ρ) text_run rfl glob_few hu hG hT).mono ?_
  rintro e w' ⟨v', rfl, ⟨vs, rfl, y1, m1, rfl, k1, y2, m2, rfl, k2, k3⟩, hb⟩
  obtain rfl : m2 = [] := k3
  obtain rfl : y1 = .string ⟨#[]⟩ := k1
  obtain rfl : y2 = .int .i64 2 := k2
  exact ⟨rfl, hb⟩
theorem of_any (x y p' : Tri) (q' : Tri) (p q : Rat) (a b : Bool) (h1 : Fit p) (h2 : BadF p') (h3 : a = true → x = tri p) (h4 : a = false → x = p') (i1 : Fit q) (i2 : BadF q') (i3 : b = true → y = tri q) (i4 : b = false → y = q') (hG : Tryz.prog.globals.size ≤ w.heap.size) (hT : Tab w) :
    Calls Tryz.prog 22 ⟨[.agg ⟨cel x ++ cel y⟩]⟩ w fun e w' => (∃ u v, e = .returned (.tuple ⟨[.agg ⟨[.pointer u, .pointer v]⟩, .bool (a && b)]⟩) ∧ (a = true → RatIn w' (.pointer u) p) ∧ (b = true → RatIn w' (.pointer v) q)) ∧ Below w.heap.size w w' := by
  let ρ : Env := Env.ofFit (pick p q 0 0) (pick p' q' (false, ⟨#[]⟩, ⟨#[]⟩) (false, ⟨#[]⟩, ⟨#[]⟩)) (pick_all h1 i1 ⟨by decide, by decide⟩ ⟨by decide, by decide⟩) (pick_all h2 i2 bad_zero bad_zero)
  have hu : HoldsL (symSig ρ) w (inp a 0 ++ inp b 1) (cel x ++ cel y) := holdsL_append (inp_holds h3 h4) (inp_holds i3 i4)
  refine (tells_calls (symFits _) (gpS_ok ρ) (of_run a b) rfl glob_few hu hG hT).mono ?_
  rintro e w' ⟨v', rfl, ⟨vs, rfl, y1, m1, rfl, ⟨us, rfl, z1, n1, rfl, j1, z2, n2, rfl, j2, j3⟩, y2, m2, rfl, k2, k3⟩, hb⟩
  obtain rfl : m2 = [] := k3
  obtain rfl : n2 = [] := j3
  obtain rfl : y2 = .bool (a && b) := k2
  have k1 : ∃ u, z1 = .pointer u := by cases a with
    | true => obtain ⟨b, e, -⟩ := (show RatIn w' z1 _ from j1); exact ⟨_, e⟩
    | false => exact j1
  have k2 : ∃ u, z2 = .pointer u := by cases b with
    | true => obtain ⟨b, e, -⟩ := (show RatIn w' z2 _ from j2); exact ⟨_, e⟩
    | false => exact j2
  obtain ⟨u, rfl⟩ := k1
  obtain ⟨v, rfl⟩ := k2
  refine ⟨⟨u, v, rfl, ?_, ?_⟩, hb⟩
  · rintro rfl; exact j1
  · rintro rfl; exact j2
end
end Gp
end Ev
end Go.Proofs.YtepnghhgmjobjaaGreatDoor
namespace Go.Proofs.YtepnghhgmjobjaaGreatDoor
open Go Go.RowKit
namespace Ev
namespace Gp
set_option maxRecDepth 100000
theorem gdec_cons (n : Nat) : ∃ d l, Lib.decDigits n = d :: l ∧ 48 ≤ d.toNat ∧ d.toNat ≤ 57 := by
  cases h : Lib.decDigits n with
  | nil => exact absurd h (Big.dec_ne n)
  | cons d l => exact ⟨d, l, rfl, Big.digs_dec n d (by rw [h]; simp)⟩
theorem tx_len {q : Rat} (hq : Fit q) : (txQ q).length ≤ 3000 := by
  have h1 : (Lib.decDigits (Big.nu q)).length ≤ 20 * 64 := Big.dec_len_words (by omega) hq.sm.nu.out
  have h2 : (Lib.decDigits (Big.de q)).length ≤ 20 * 64 := Big.dec_len_words (by omega) hq.sm.de.out
  unfold txQ
  split <;> split <;> simp <;> omega
theorem tx_zero {q : Rat} (h : Big.nu q = 0) : txQ q = [48] := by
  rw [Big.nu_zero.1 h]
  have e1 : Big.ng (0 : Rat) = false := by decide
  have e2 : Big.nu (0 : Rat) = 0 := by decide
  have e3 : Big.de (0 : Rat) = 1 := by decide
  unfold txQ
  rw [e1, e2, e3, Lib.decDigits_one (by omega)]
  rfl
theorem tx_pos {q : Rat} (h : Big.nu q ≠ 0) (hn : Big.ng q = false) : ∃ d l, txQ q = d :: l ∧ 49 ≤ d.toNat ∧ d.toNat ≤ 57 := by
  obtain ⟨d, l, e, h1, h2⟩ := gdec_cons (Big.nu q)
  have hh := Big.head_dec (Big.nu q) (by omega)
  rw [e] at hh
  refine ⟨d, l ++ (if Big.de q = 1 then [] else 47 :: Lib.decDigits (Big.de q)), ?_, ?_, h2⟩
  · unfold txQ
    rw [hn, e]
    simp
  · rcases Nat.lt_or_ge 48 d.toNat with h | h
    · exact h
    · have : d.toNat = 48 := by omega
      exact absurd (by rw [List.head?_cons, show d = 48 from UInt8.toNat_inj.1 (by rw [this]; rfl)]) hh
theorem tx_neg {q : Rat} (hn : Big.ng q = true) : ∃ l, txQ q = 45 :: l := by
  refine ⟨Lib.decDigits (Big.nu q) ++ (if Big.de q = 1 then [] else 47 :: Lib.decDigits (Big.de q)), ?_⟩
  unfold txQ
  rw [if_pos hn]
  simp
theorem tx_ne (q : Rat) : txQ q ≠ [] := by
  intro h
  unfold txQ at h
  have h1 := (List.append_eq_nil_iff.1 (List.append_eq_nil_iff.1 h).1).2
  exact Big.dec_ne _ h1
def sg (q : Rat) : Int := cond (decide (Big.nu q = 0)) 0 (cond (Big.ng q) (-1) 1)
theorem tx_sg (q : Rat) : (sg q = 0 ∧ (txQ q == [48]) = true ∧ (((txQ q).headD 0).toNat == 45) = false) ∨ (sg q = 1 ∧ (txQ q == [48]) = false ∧ (((txQ q).headD 0).toNat == 45) = false ∧ (txQ q == [45, 49]) = false) ∨ (sg q = -1 ∧ (txQ q == [48]) = false ∧ (((txQ q).headD 0).toNat == 45) = true ∧ (txQ q == [49]) = false) := by
  by_cases h0 : Big.nu q = 0
  · left
    rw [tx_zero h0]
    exact ⟨by unfold sg; rw [decide_eq_true h0]; rfl, rfl, rfl⟩
  · right
    cases hn : Big.ng q with
    | false =>
      left
      obtain ⟨d, l, e, h1, h2⟩ := tx_pos h0 hn
      refine ⟨by unfold sg; rw [decide_eq_false h0, hn]; rfl, ?_, ?_, ?_⟩
      · rw [e, beq_eq_false_iff_ne]
        intro h
        injection h with h _
        rw [h] at h1
        exact absurd h1 (by decide)
      · rw [e, beq_eq_false_iff_ne]
        show d.toNat ≠ 45
        omega
      · rw [e, beq_eq_false_iff_ne]
        intro h
        injection h with h _
        rw [h] at h1
        exact absurd h1 (by decide)
    | true =>
      right
      obtain ⟨l, e⟩ := tx_neg hn
      refine ⟨by unfold sg; rw [decide_eq_false h0, hn]; rfl, ?_, ?_, ?_⟩
      · rw [e, beq_eq_false_iff_ne]
        intro h
        injection h with h _
        exact absurd h (by decide)
      · rw [e]; rfl
      · rw [e, beq_eq_false_iff_ne]
        intro h
        injection h with h _
        exact absurd h (by decide)
theorem txQ_eq' (q : Rat) : txQ q = textD q := by
  unfold txQ textD R.strD
  by_cases h0 : Big.nu q = 0
  · have hn : Big.ng q = false := by cases hn : Big.ng q with
      | false => rfl
      | true => rw [Big.nu_zero.1 h0] at hn; cases hn
    rw [if_pos h0, hn, h0, Lib.decDigits_one (by omega)]
    have hd : ¬ Big.de q = 0 := by have := de_pos q; omega
    rw [if_neg hd]
    simp
  · have hd : ¬ Big.de q = 0 := by have := de_pos q; omega
    rw [if_neg h0, if_neg hd]
    simp
theorem reft_any (w : World) (u v : Value) (p q : Rat) (hu : RatIn w u p) (hv : RatIn w v q) (hp : Fit p) (hq : Fit q) (hG : Tryz.prog.globals.size ≤ w.heap.size) (hT : Tab w) :
    Calls Tryz.prog 23 #[.agg #[u, v]] w fun e w' => e = .returned (sOf (joinB (txQ p) (txQ q))) ∧ Below w.heap.size w w' := by
  have bp : RB p := bits_sm hp.sm (by omega)
  have bq : RB q := bits_sm hq.sm (by omega)
  have s1 := fun W (h : Below w.heap.size w W) => rsign_any (hu.keep h) bp (Nat.le_trans hG h.size) (hT.keep h)
  have s2 := fun W (h : Below w.heap.size w W) => rsign_any (hv.keep h) bq (Nat.le_trans hG h.size) (hT.keep h)
  have c1 := fun W (h : Below w.heap.size w W) => refText_any W u p (hu.keep h) bp (Nat.le_trans hG h.size) (hT.keep h)
  have c2 := fun W (h : Below w.heap.size w W) => refText_any W v q (hv.keep h) bq (Nat.le_trans hG h.size) (hT.keep h)
  have e1 : cond (decide (Big.nu p = 0)) 0 (cond (Big.ng p) (-1) 1) = sg p := rfl
  have e2 : cond (decide (Big.nu q = 0)) 0 (cond (Big.ng q) (-1) 1) = sg q := rfl
  rw [e1] at s1
  rw [e2] at s2
  rw [← txQ_eq'] at c1 c2
  obtain ⟨b, rfl, -⟩ := hu
  obtain ⟨b', rfl, -⟩ := hv
  have la := tx_len hp
  have lb := tx_len hq
  have la' : (txQ p).length ≤ 100000000 := by omega
  have lb' : (txQ q).length ≤ 100000000 := by omega
  have gp := tx_sg p
  have gq := tx_sg q
  generalize txQ p = a at *
  generalize txQ q = t at *
  generalize sg p = sp at *
  generalize sg q = sq at *
  clear la lb e1 e2
  rcases gq with ⟨rfl, t1, t2⟩ | ⟨rfl, t1, t2, t3⟩ | ⟨rfl, t1, t2, t3⟩
  · rcases gp with ⟨rfl, a1, -⟩ | ⟨rfl, a1, -⟩ | ⟨rfl, a1, -⟩
    · exact rt_zerozz w b b' a t la' lb' s1 s2 c1 c2 a1 t1 t2
    · exact rt_zerozp w b b' a t la' lb' s1 s2 c1 c2 a1 t1 t2
    · exact rt_zerozn w b b' a t la' lb' s1 s2 c1 c2 a1 t1 t2
  · cases h1 : (t == [49]) with
    | true =>
      obtain rfl := eq_of_beq h1
      rcases gp with ⟨rfl, a1, -⟩ | ⟨rfl, a1, -⟩ | ⟨rfl, a1, -⟩
      · exact rt_onepz w b b' a la' s1 s2 c1 c2 a1 t1 t2
      · exact rt_onepp w b b' a la' s1 s2 c1 c2 a1 t1 t2
      · exact rt_onepn w b b' a la' s1 s2 c1 c2 a1 t1 t2
    | false =>
      rcases gp with ⟨rfl, a1, -⟩ | ⟨rfl, a1, -⟩ | ⟨rfl, a1, -⟩
      · exact rt_elsepz w b b' a t la' lb' h1 t3 s1 s2 c1 c2 a1 t1 t2
      · exact rt_elsepp w b b' a t la' lb' h1 t3 s1 s2 c1 c2 a1 t1 t2
      · exact rt_elsepn w b b' a t la' lb' h1 t3 s1 s2 c1 c2 a1 t1 t2
  · cases h1 : (t == [45, 49]) with
    | true =>
      obtain rfl := eq_of_beq h1
      rcases gp with ⟨rfl, a1, -⟩ | ⟨rfl, a1, -⟩ | ⟨rfl, a1, -⟩
      · exact rt_twonz w b b' a la' s1 s2 c1 c2 a1 t1 t2
      · exact rt_twonp w b b' a la' s1 s2 c1 c2 a1 t1 t2
      · exact rt_twonn w b b' a la' s1 s2 c1 c2 a1 t1 t2
    | false =>
      rcases gp with ⟨rfl, a1, -⟩ | ⟨rfl, a1, -⟩ | ⟨rfl, a1, -⟩
      · exact rt_elsenz w b b' a t la' lb' t3 h1 s1 s2 c1 c2 a1 t1 t2
      · exact rt_elsenp w b b' a t la' lb' t3 h1 s1 s2 c1 c2 a1 t1 t2
      · exact rt_elsenn w b b' a t la' lb' t3 h1 s1 s2 c1 c2 a1 t1 t2
end Gp
end Ev
end Go.Proofs.YtepnghhgmjobjaaGreatDoor
namespace Go.Proofs.YtepnghhgmjobjaaGreatDoor
open Go Go.RowKit
namespace Ev
namespace Gp
set_option maxRecDepth 100000
theorem raT {q : Rat} (hq : Fit q) (W : World) (hT : Tab W) : Calls Tryz.prog 58 #[.agg #[.bool (Big.ng q), .string (bst (Big.nu q)), .string (bst (Big.de q))]] W fun e w' => e = .returned (.tuple #[.string ⟨(txQ q).toArray⟩, .int .i64 0]) ∧ Below W.heap.size W w' :=
  (raText_any W q hq hT).mono fun _ _ h => h
theorem gtx_ok (w : World) (p q : Rat) (hp : Fit p) (hq : Fit q) (hT : Tab w) :
    Calls Tryz.prog 21 #[.agg ⟨cel (tri p) ++ cel (tri q)⟩] w fun e w' => e = .returned (.tuple #[sOf (joinB (txQ p) (txQ q)), .int .i64 0]) ∧ Below w.heap.size w w' :=
  gtext_good w (Big.ng p) (Big.ng q) (bst (Big.nu p)) (bst (Big.de p)) (bst (Big.nu q)) (bst (Big.de q)) (txQ p) (txQ q) (by have := tx_len hp; omega) (by have := tx_len hq; omega) (tx_ne q)
    (fun W h => raT hp W (hT.keep h)) (fun W h => raT hq W (hT.keep h))
theorem gtx_bad (w : World) (x y : Tri) (a b : Bool) (p q : Rat) (hp : Fit p) (hq : Fit q) (h1 : a = true → x = tri p) (h2 : a = false → BadF x) (h3 : b = true → y = tri q) (h4 : b = false → BadF y) (hab : (a && b) = false) (hG : Tryz.prog.globals.size ≤ w.heap.size) (hT : Tab w) :
    Calls Tryz.prog 21 #[.agg ⟨cel x ++ cel y⟩] w fun e w' => e = .returned (.tuple #[.string ⟨#[]⟩, .int .i64 2]) ∧ Below w.heap.size w w' := by
  have bad : ∀ z : Tri, BadF z → ∀ W, Below w.heap.size w W → Calls Tryz.prog 58 #[.agg #[.bool z.1, .string z.2.1, .string z.2.2]] W fun e w' => e = .returned (.tuple #[.string ⟨([] : List UInt8).toArray⟩, .int .i64 2]) ∧ Below W.heap.size W w' :=
    fun z hz W h => text_bad z hz (Nat.le_trans hG h.size) (hT.keep h)
  cases a with
  | true =>
    cases b with
    | true => cases hab
    | false =>
      obtain rfl := h1 rfl
      exact gtext_bad2 w (Big.ng p) y.1 (bst (Big.nu p)) (bst (Big.de p)) y.2.1 y.2.2 (txQ p) [] (fun W h => raT hp W (hT.keep h)) (bad y (h4 rfl))
  | false =>
    cases b with
    | true =>
      obtain rfl := h3 rfl
      exact gtext_bad1 w x.1 (Big.ng q) x.2.1 x.2.2 (bst (Big.nu q)) (bst (Big.de q)) [] (txQ q) (bad x (h2 rfl)) (fun W h => raT hq W (hT.keep h))
    | false => exact gtext_bad3 w x.1 y.1 x.2.1 x.2.2 y.2.1 y.2.2 [] [] (bad x (h2 rfl)) (bad y (h4 rfl))
theorem works2g (w : World) (hG : Tryz.prog.globals.size ≤ w.heap.size) (hT : Tab w) : Calls Tryz.prog 18 #[] w fun e w' => e = .returned (.bool true) ∧ Below w.heap.size w w' := works2_ok.2.2 w hG hT
set_option maxHeartbeats 4000000 in
theorem gaussPrints_any (w : World) (x y : Tri) (hG : Tryz.prog.globals.size ≤ w.heap.size) (hT : Tab w) :
    Calls Tryz.prog 5 ⟨[.agg ⟨cel x ++ cel y⟩]⟩ w fun e w' => e = .returned (.bool true) ∧ Below w.heap.size w w' := by
  obtain ⟨a, p, r, h1, h2, h3, h4⟩ := part_of x
  obtain ⟨b, q, s, i1, i2, i3, i4⟩ := part_of y
  have HOF := Lib.hid (fun W (h : Below w.heap.size w W) => of_any (w := W) x y r s p q a b h1 h2 h3 h4 i1 i2 i3 i4 (Nat.le_trans hG h.size) (hT.keep h))
  have HW := Lib.hid (fun W (h : Below w.heap.size w W) => works2g W (Nat.le_trans hG h.size) (hT.keep h))
  cases hab : (a && b) with
  | true =>
    have ha : a = true := by cases a with
      | true => rfl
      | false => cases hab
    have hb : b = true := by cases b with
      | true => rfl
      | false => rw [ha] at hab; cases hab
    rw [hab] at HOF
    have HGT := Lib.hid (fun W (h : Below w.heap.size w W) => gtx_ok W p q h1 i1 (hT.keep h))
    have HRT := Lib.hid (fun W u v (h : Below w.heap.size w W) (hu : RatIn W u p) (hv : RatIn W v q) => reft_any W u v p q hu hv h1 i1 (Nat.le_trans hG h.size) (hT.keep h))
    rw [← h3 ha, ← i3 hb] at HGT
    have HA := Lib.hid (And.intro ha hb)
    generalize joinB (txQ p) (txQ q) = J at *
    clear h1 h2 h3 h4 i1 i2 i3 i4 ha hb hab hG hT
    obtain ⟨x1, x2, x3⟩ := x
    obtain ⟨y1, y2, y3⟩ := y
    rw [show (⟨cel (x1, x2, x3) ++ cel (y1, y2, y3)⟩ : Array Value) = #[.bool x1, .string x2, .string x3, .bool y1, .string y2, .string y3] from rfl] at HOF HGT ⊢
    have HB0 := Lib.hid (box1_below w (.cells #[.bool x1, .string x2, .string x3, .bool y1, .string y2, .string y3] 26))
    have HN0 := Lib.hid (AtL.new w 26 #[.bool x1, .string x2, .string x3, .bool y1, .string y2, .string y3])
    have k0 := True.intro; have k1 := True.intro; have k2 := True.intro; have k3 := True.intro; have k4 := True.intro; have k5 := True.intro
    go_enter Tryz.func5, Tryz.ntmps5
    go_wp2_with fail
    generalize w.alloc (.cells #[.bool x1, .string x2, .string x3, .bool y1, .string y2, .string y3] 26) = w0 at *
    refine (HGT.out _ HB0.out).mono ?_
    rintro e w1 ⟨rfl, hw⟩
    have HB1 := Lib.hid (HB0.out.trans (hw.mono HB0.out.size))
    have HN1 := Lib.hid (HN0.out.keep hw)
    clear hw HN0 HB0 k0 k1 k2 k3 k4 k5
    have k0 := HN1.out.cell 0 rfl; have k1 := HN1.out.cell 1 rfl; have k2 := HN1.out.cell 2 rfl; have k3 := HN1.out.cell 3 rfl; have k4 := HN1.out.cell 4 rfl; have k5 := HN1.out.cell 5 rfl
    unfold sOf
    go_wp2_with fail
    refine (HOF.out _ HB1.out).mono ?_
    rintro e w2 ⟨⟨bu, bv, rfl, hu, hv⟩, hw⟩
    have HB2 := Lib.hid (HB1.out.trans (hw.mono HB1.out.size))
    have HN2 := Lib.hid (HN1.out.keep hw)
    clear hw HN1 HB1 k0 k1 k2 k3 k4 k5
    have k0 := HN2.out.cell 0 rfl; have k1 := HN2.out.cell 1 rfl; have k2 := HN2.out.cell 2 rfl; have k3 := HN2.out.cell 3 rfl; have k4 := HN2.out.cell 4 rfl; have k5 := HN2.out.cell 5 rfl
    obtain ⟨cu, e1, -⟩ := hu HA.out.1
    obtain ⟨cv, e2, -⟩ := hv HA.out.2
    injection e1 with e1
    injection e2 with e2
    subst e1 e2
    have HU := Lib.hid (hu HA.out.1); have HV := Lib.hid (hv HA.out.2)
    clear hu hv
    go_wp2_with fail
    have HBx := Lib.hid (HB2.out.trans ((box1_below w2 (.cells #[.pointer (some ⟨cu, 0, none⟩), .pointer (some ⟨cv, 0, none⟩)] 50)).mono HB2.out.size))
    refine (HRT.out _ _ _ HBx.out (HU.out.keep (box1_below w2 (.cells #[.pointer (some ⟨cu, 0, none⟩), .pointer (some ⟨cv, 0, none⟩)] 50))) (HV.out.keep (box1_below w2 (.cells #[.pointer (some ⟨cu, 0, none⟩), .pointer (some ⟨cv, 0, none⟩)] 50)))).mono ?_
    rintro e w3 ⟨rfl, hw⟩
    have HB3 := Lib.hid (HBx.out.trans (hw.mono HBx.out.size))
    clear hw HBx HU HV
    unfold sOf
    go_wp2_with fail
    refine (HW.out _ HB3.out).mono ?_
    rintro e w4 ⟨rfl, hw⟩
    have HB4 := Lib.hid (HB3.out.trans (hw.mono HB3.out.size))
    clear hw HB3
    go_wp2_with fail
    go_ret
    exact ⟨rfl, HB4.out⟩
  | false =>
    rw [hab] at HOF
    have HGT := Lib.hid (fun W (h : Below w.heap.size w W) => gtx_bad W x y a b p q h1 i1 h3 (fun h => (h4 h) ▸ h2) i3 (fun h => (i4 h) ▸ i2) hab (Nat.le_trans hG h.size) (hT.keep h))
    clear h1 h2 h3 h4 i1 i2 i3 i4 hab hG hT
    obtain ⟨x1, x2, x3⟩ := x
    obtain ⟨y1, y2, y3⟩ := y
    rw [show (⟨cel (x1, x2, x3) ++ cel (y1, y2, y3)⟩ : Array Value) = #[.bool x1, .string x2, .string x3, .bool y1, .string y2, .string y3] from rfl] at HOF HGT ⊢
    have HB0 := Lib.hid (box1_below w (.cells #[.bool x1, .string x2, .string x3, .bool y1, .string y2, .string y3] 26))
    have HN0 := Lib.hid (AtL.new w 26 #[.bool x1, .string x2, .string x3, .bool y1, .string y2, .string y3])
    have k0 := True.intro; have k1 := True.intro; have k2 := True.intro; have k3 := True.intro; have k4 := True.intro; have k5 := True.intro
    go_enter Tryz.func5, Tryz.ntmps5
    go_wp2_with fail
    generalize w.alloc (.cells #[.bool x1, .string x2, .string x3, .bool y1, .string y2, .string y3] 26) = w0 at *
    refine (HGT.out _ HB0.out).mono ?_
    rintro e w1 ⟨rfl, hw⟩
    have HB1 := Lib.hid (HB0.out.trans (hw.mono HB0.out.size))
    have HN1 := Lib.hid (HN0.out.keep hw)
    clear hw HN0 HB0 k0 k1 k2 k3 k4 k5
    have k0 := HN1.out.cell 0 rfl; have k1 := HN1.out.cell 1 rfl; have k2 := HN1.out.cell 2 rfl; have k3 := HN1.out.cell 3 rfl; have k4 := HN1.out.cell 4 rfl; have k5 := HN1.out.cell 5 rfl
    go_wp2_with fail
    refine (HOF.out _ HB1.out).mono ?_
    rintro e w2 ⟨⟨bu, bv, rfl, -, -⟩, hw⟩
    have HB2 := Lib.hid (HB1.out.trans (hw.mono HB1.out.size))
    have HN2 := Lib.hid (HN1.out.keep hw)
    clear hw HN1 HB1 k0 k1 k2 k3 k4 k5
    have k0 := HN2.out.cell 0 rfl; have k1 := HN2.out.cell 1 rfl; have k2 := HN2.out.cell 2 rfl; have k3 := HN2.out.cell 3 rfl; have k4 := HN2.out.cell 4 rfl; have k5 := HN2.out.cell 5 rfl
    go_wp2_with fail
    have HB3 := Lib.hid (HB2.out.trans ((box1_below w2 (.cells #[.pointer bu, .pointer bv] 50)).mono HB2.out.size))
    refine (HW.out _ HB3.out).mono ?_
    rintro e w4 ⟨rfl, hw⟩
    have HB4 := Lib.hid (HB3.out.trans (hw.mono HB3.out.size))
    clear hw HB3
    go_wp2_with fail
    go_ret
    exact ⟨rfl, HB4.out⟩
end Gp
end Ev
end Go.Proofs.YtepnghhgmjobjaaGreatDoor
namespace Go.Proofs.YtepnghhgmjobjaaGreatDoor
open Go Go.ChangeShapes Go.WideShapes Go.RowKit Ev
theorem c_bool : Tryz.prog.cellsOf 4 = 1 := by kernel_rfl
theorem c_str : Tryz.prog.cellsOf 9 = 1 := by kernel_rfl
theorem c_frac : Tryz.prog.cellsOf 24 = 3 := by kernel_rfl
theorem c_gauss : Tryz.prog.cellsOf 26 = 6 := by kernel_rfl
def datT {H : Type} (t : Tri) : DataW H := .agg [.lit (.bool t.1), .lit (.string t.2.1.data.toList), .lit (.string t.2.2.data.toList)]
def wfT (t : Tri) : Prop := t.2.1.size ≤ maxLen ∧ t.2.2.size ≤ maxLen
section
variable {H : Type} {enc : TypeId × Value → H} {w : World} {base : Nat} {spare : Nat → Bool} {held : Bool}
set_option maxRecDepth 100000 in
theorem frac_in {fuel : Nat} {cs : List Value} {x : DataW H × List MemPlace} (h : DataW.trod enc Tryz.prog w base spare held fuel 24 cs = some x) : ∃ t : Tri, cs = cel t ∧ x = (datT t, []) ∧ wfT t := by
  obtain ⟨xs, n, -, hx, hl, hlen, hg⟩ := DataW.trod_struct Tryz.underlying24 h
  rw [c_frac] at hl
  match cs, hl, xs, hlen with
  | [u0, u1, u2], _, [y0, y1, y2], _ =>
    have h0 := hg 0 _ rfl
    simp only [c_bool, List.drop, List.take, List.getElem?_cons_zero] at h0
    obtain ⟨b, e0, z0⟩ := DataW.trod_bool Tryz.underlying4 h0
    obtain rfl := (List.cons.inj e0).1; clear e0
    subst z0
    have h1 := hg 1 _ rfl
    simp only [c_str, List.drop, List.take, List.getElem?_cons_zero, List.getElem?_cons_succ] at h1
    obtain ⟨s, e1, z1, w1⟩ := DataW.trod_string Tryz.underlying9 h1
    obtain rfl := (List.cons.inj e1).1; clear e1
    subst z1
    have h2 := hg 2 _ rfl
    simp only [c_str, List.drop, List.take, List.getElem?_cons_zero, List.getElem?_cons_succ] at h2
    obtain ⟨t, e2, z2, w2⟩ := DataW.trod_string Tryz.underlying9 h2
    obtain rfl := (List.cons.inj e2).1; clear e2
    subst z2
    exact ⟨(b, s, t), rfl, by rw [hx]; rfl, w1, w2⟩
set_option maxRecDepth 100000 in
theorem frac_mk {t : Tri} (h : wfT t) (n : Nat) : DataW.trod enc Tryz.prog w base spare held (n + 2) 24 (cel t) = some (datT t, []) := by
  obtain ⟨b, s, t⟩ := t
  have h1 : s.size ≤ maxLen := h.1
  have h2 : t.size ≤ maxLen := h.2
  have k0 : DataW.trod enc Tryz.prog w base spare held (n + 1) 4 [.bool b] = some (.lit (.bool b), []) := by simp [DataW.trod, Tryz.underlying4]
  have k1 : ∀ s : ByteArray, s.size ≤ maxLen → DataW.trod enc Tryz.prog w base spare held (n + 1) 9 [.string s] = some (.lit (.string s.data.toList), []) := fun s hs => by simp [DataW.trod, Tryz.underlying9, hs]
  have hm := trod_struct_mk (enc := enc) (w := w) (base := base) (spare := spare) (held := held) (n := n + 1) (cs := cel (b, s, t)) (xs := [(.lit (.bool b), []), (.lit (.string s.data.toList), []), (.lit (.string t.data.toList), [])]) Tryz.underlying24 (by rw [c_frac]; rfl) (by
    simp [c_bool, c_str, cel, k0, k1 s h1, k1 t h2])
  exact hm
set_option maxRecDepth 100000 in
theorem gauss_open {r : Reach} {b0 : Nat} {v : Value} {D : DataW H} {ps : List MemPlace} (hv : Value.okWide Tryz.prog w r b0 26 v) (h : DataW.Trod enc Tryz.prog w base spare held 26 v D ps) :
    ∃ x y : Tri, v = .agg ⟨cel x ++ cel y⟩ ∧ D = .agg [datT x, datT y] ∧ ps = [] ∧ wfT x ∧ wfT y := by
  obtain ⟨cs, rfl, hsz⟩ := okWide_struct Tryz.underlying26 hv
  obtain ⟨fuel, hf⟩ := h
  obtain ⟨xs, n, -, hx, hl, hlen, hg⟩ := DataW.trod_struct Tryz.underlying26 hf
  rw [c_gauss] at hsz
  obtain ⟨l⟩ := cs
  match l, hsz, xs, hlen with
  | [u0, u1, u2, u3, u4, u5], _, [y0, y1], _ =>
    have h0 := hg 0 _ rfl
    simp only [Value.cells, c_frac, List.drop, List.take, List.getElem?_cons_zero] at h0
    obtain ⟨t0, e0, z0, w0⟩ := frac_in h0
    subst z0
    have h1 := hg 1 _ rfl
    simp only [Value.cells, c_frac, List.drop, List.take, List.getElem?_cons_zero, List.getElem?_cons_succ] at h1
    obtain ⟨t1, e1, z1, w1⟩ := frac_in h1
    subst z1
    simp only [Prod.mk.injEq] at hx
    refine ⟨t0, t1, ?_, by simpa using hx.1, by simpa using hx.2, w0, w1⟩
    rw [← e0, ← e1]; rfl
set_option maxRecDepth 100000 in
theorem gauss_shut {x y : Tri} (hx : wfT x) (hy : wfT y) : DataW.Trod enc Tryz.prog w base spare held 26 (.agg ⟨cel x ++ cel y⟩) (.agg [datT x, datT y]) [] := by
  refine ⟨3, ?_⟩
  have k0 := frac_mk (enc := enc) (w := w) (base := base) (spare := spare) (held := held) hx 0
  have k1 := frac_mk (enc := enc) (w := w) (base := base) (spare := spare) (held := held) hy 0
  have hm := trod_struct_mk (enc := enc) (w := w) (base := base) (spare := spare) (held := held) (n := 2) (cs := cel x ++ cel y) (xs := [(datT x, []), (datT y, [])]) Tryz.underlying26 (by rw [c_gauss]; rfl) (by
    simp only [List.mapM_cons, List.mapM_nil, c_frac]
    rw [show ((cel x ++ cel y).drop 0).take 3 = cel x from rfl, show ((cel x ++ cel y).drop 3).take 3 = cel y from rfl, k0, k1]
    rfl)
  exact hm
end
def gz : Value := .agg #[.bool false, .string ⟨#[]⟩, .string ⟨#[]⟩, .bool false, .string ⟨#[]⟩, .string ⟨#[]⟩]
end Go.Proofs.YtepnghhgmjobjaaGreatDoor
namespace Go.Proofs.YtepnghhgmjobjaaGreatDoor
open Go.ChangeShapes Go.WideShapes Go.ChangeAt Go.RowKit
theorem own : ownKnob Tryz.prog.godebug = none := by kernel_rfl
section
variable {H : Type} {enc : TypeId × Value → H} {P : Program}
theorem post_new {f : Func} {s : ChangeSpec} {apart fresh handsOn again : Bool} {W W' : World} {args : Array Value} {v : Value} {ds gs : List (DataW H)}
    (hW : DataW.Whole enc P f.params.toList s.vars apart W args.toList ds gs [])
    (hres : ∀ (b : Nat) (sp : Nat → Bool) (hd : Bool), DataW.TrodAll enc P W' b sp hd f.resultTypes.toList (v.resultList f.resultTypes.size) (s.fn H (ds ++ gs)).results [])
    (hargs : ∀ sp : Nat → Bool, DataW.TrodAll enc P W' 0 sp true f.params.toList args.toList (s.fn H (ds ++ gs)).args [])
    (hvars : ∀ sp : Nat → Bool, DataW.TrodVars enc P W' sp s.vars (s.fn H (ds ++ gs)).vars [])
    (hb : Below W.heap.size W W')
    (hok : ∀ (j : Nat) (t : TypeId) (r : Value), f.resultTypes[j]? = some t → (v.resultList f.resultTypes.size)[j]? = some r → Value.okWide P W' .any 0 t r) :
    s.post enc P f apart fresh handsOn again W args v W' := by
  have hk : W.keptBut W' (fun p => p ∈ ([] : List MemPlace)) := hb.frame _
  refine ⟨ds, gs, [], [], [], [], hW, hres _ _ _, hargs _, hvars _, World.keptBut_mono (fun p hp => by cases hp) hk, fun _ => ?_⟩
  refine ⟨hok, _, _, [], ⟨[], [], trodAll_append (hargs _) (hres _ _ _), hvars _, rfl, ?_, ?_⟩, ?_⟩
  · intro b off hp; cases hp
  · intro _; simp
  · intro p hp; cases hp
end
theorem glob_size {W : World} (h : W.ShapedOpen Tryz.prog) : Tryz.prog.globals.size ≤ W.heap.size := by
  have hb : Nat.ble (Tryz.prog.globals.size + 1) (begin Tryz.prog (fun _ _ => 0) default).world.heap.size = true := by kernel_rfl
  obtain ⟨o, o0, h1, -⟩ := h.2 Tryz.prog.globals.size (Nat.le_refl _) (Nat.le_of_ble_eq_true hb)
  exact Nat.le_of_lt (Array.getElem?_eq_some_iff.1 h1).1
end Go.Proofs.YtepnghhgmjobjaaGreatDoor
namespace Go.Proofs.YtepnghhgmjobjaaGreatDoor
open Go.ChangeShapes Go.WideShapes Go.ChangeAt Go.RowKit
theorem gTab : Tryz.prog.globalNamed "internal/strconv.uint64pow10" = some 6 := by kernel_rfl
end Go.Proofs.YtepnghhgmjobjaaGreatDoor
namespace Go.Proofs.YtepnghhgmjobjaaGreatDoor
open Go.ChangeShapes Go.WideShapes Go.ChangeAt Go.RowKit
theorem tTab : (Tryz.prog.globals[6]?).map (·.type) = some 295 := by kernel_rfl
theorem dTab : (Rows.laid_internal_strconv_uint64pow10 : DataW Unit) = Lib.tabData .u64 Lib.pow10Tab := by rfl
theorem cTab : Tryz.prog.cellsOf 295 = 20 := by kernel_rfl
theorem ceTab : Tryz.prog.cellsOf 63 = 1 := by kernel_rfl
end Go.Proofs.YtepnghhgmjobjaaGreatDoor
namespace Go.Proofs.YtepnghhgmjobjaaGreatDoor
open Go.ChangeShapes Go.WideShapes Go.ChangeAt Go.RowKit
theorem handed_both {H : Type} {enc : TypeId × Value → H} {C : Checked} {os : Os} {f : FuncId} {fn : Func} {s : ChangeSpec} {apart fresh handsOn again : Bool} {X : World → Array Value → Prop}
    (hX : ∀ (w w' : World) (args : Array Value), w.heap = w'.heap → X w args → X w' args)
    (hown : ownKnob C.prog.godebug = none) (started : os.Started) (noInit : C.prog.inits.idxOf? f = none) (hfn : C.prog.funcs[f]? = some fn)
    (witness : ∃ (w : World) (tape : Tape) (i : Input), w.os = os ∧ (w.forCall tape i).Shaped C.prog ∧ i.vars = [] ∧ Input.okWide C.prog (w.forCall tape i) .any w.heap.size f i ∧
      ((s.pre enc C.prog fn [] apart (w.forCall tape i).memory i.args ∧ X (w.forCall tape i).memory i.args) ∧ sizedMet enc C.prog fn (OpenSpec.ofChange s) apart (w.forCall tape i).memory i.args) ∧ Assume.holds {} C.prog (lone (Frame.enter C.prog f i.args .normal) [] (w.forCall tape i)))
    (contract : ∀ (W : World) (base : Nat) (args : Array Value) (ds gs : List (DataW H)) (before : List MemPlace),
      (∀ (j : Nat) t v, fn.params[j]? = some t → args[j]? = some v → Value.okWide C.prog W .any base t v) →
      DataW.Whole enc C.prog fn.params.toList s.vars apart W args.toList ds gs before → X W args → W.ShapedOpen C.prog →
      Calls C.prog f args W fun e W' => ∃ v, e = .returned v ∧ s.post enc C.prog fn apart fresh handsOn again W args v W') :
    ReturnsInHanded {} C os f .any (fun w args => (s.pre enc C.prog fn [] apart w args ∧ X w args) ∧ sizedMet enc C.prog fn (OpenSpec.ofChange s) apart w args) (s.post enc C.prog fn apart fresh handsOn again) := by
  refine returnsInHanded_of_calls hown started noInit witness ?_
  intro w tape i _ hshape _ hin hp _
  obtain ⟨_, _, _, fn2, hfn2, _, _, _, _, hv⟩ := hin
  obtain rfl : fn2 = fn := Option.some.inj (hfn2.symm.trans hfn)
  obtain ⟨⟨⟨ds, gs, before, hwh, _⟩, hx⟩, _⟩ := hp
  refine (contract (w.forCall tape i) w.heap.size i.args ds gs before hv (DataW.Whole.of_heap (w' := w.forCall tape i) (by rfl) hwh) (hX _ _ _ (by rfl) hx) hshape).mono fun e W' ⟨v, he, hpost⟩ => ?_
  subst he
  exact ChangeSpec.post_blind hpost
end Go.Proofs.YtepnghhgmjobjaaGreatDoor
namespace Go.Proofs.YtepnghhgmjobjaaGreatDoor
open Go.ChangeShapes Go.WideShapes Go.ChangeAt Go.RowKit
def laidG : List (String × DataW Unit) := [("math/bits.deBruijn32tab", Rows.laid_math_bits_deBruijn32tab), ("math/bits.deBruijn64tab", Rows.laid_math_bits_deBruijn64tab), ("internal/strconv.uint64pow10", Rows.laid_internal_strconv_uint64pow10), ("unicode/utf8.acceptRanges", Rows.laid_unicode_utf8_acceptRanges), ("unicode/utf8.first", Rows.laid_unicode_utf8_first)]
theorem tab_of_laidG {W : World} (h : laidMetH Tryz.prog laidG W) : Tab W := by
  rw [MakeChecks.laidMetH_plain _ _ _ (by kernel_rfl)] at h
  obtain ⟨ps, ⟨g0, t0, cs0, f0, p0, q0, hg0, ht0, hv0, hd0, ⟨g1, t1, cs1, f1, p1, q1, hg1, ht1, hv1, hd1, ⟨g2, t2, cs2, f2, p2, q2, hg2, ht2, hv2, hd2, _, _⟩, _⟩, _⟩, _, _⟩ := h
  obtain rfl := Option.some.inj (gTab.symm.trans hg2)
  obtain rfl := Option.some.inj (tTab.symm.trans ht2)
  rw [dTab] at hd2
  show World.var? Tryz.prog W _ = _
  rw [hv2, ← Lib.cells_of_tab Tryz.underlying295 Tryz.underlying63 ceTab cTab hd2]
end Go.Proofs.YtepnghhgmjobjaaGreatDoor
namespace Go.Proofs.YtepnghhgmjobjaaGreatDoor
set_option maxRecDepth 100000
theorem gprints_and {a b : Bool} (ha : a = true) (hb : b = true) : (a && b) = true := by rw [ha, hb]; rfl
theorem gprints_c0 : ((Rows.gaussPrintsRow).wf (OpenSpec.ofChange Rows.gaussPrintsSpec)) = true := by kernel_rfl
theorem gprints_c1 : (laidOutB Tryz.checked.prog) = true := by kernel_rfl
theorem gprints_c2 : (mapsRowed Tryz.checked.prog) = true := by kernel_rfl
theorem gprints_c3 : ((Tryz.f5).params.all ((Tryz.checked.prog).readableRec ·)) = true := by kernel_rfl
theorem gprints_c4 : (namedTie Tryz.checked.prog (Rows.gaussPrintsRow).named (Rows.gaussPrintsSpec).vars) = true := by kernel_rfl
theorem gprints_c5 : (((Rows.gaussPrintsRow).stops == [])) = true := by kernel_rfl
theorem gprints_c6 : (((Tryz.checked.prog).stops == [])) = true := by kernel_rfl
theorem gprints_c7 : (((Rows.gaussPrintsRow).knobs == [])) = true := by kernel_rfl
theorem gprints_c8 : (((Tryz.checked.prog).stopKnobs == [])) = true := by kernel_rfl
theorem gprints_c9 : (((Rows.gaussPrintsRow).inPlace == (Tryz.checked.prog).inPlace 5)) = true := by kernel_rfl
theorem gprints_c10 : (((Rows.gaussPrintsRow).unfollowed == (Tryz.checked.prog).unfollowed 5)) = true := by kernel_rfl
theorem gprints_c11 : (((Rows.gaussPrintsRow).recurses == (Tryz.checked.prog).recurses 5)) = true := by kernel_rfl
theorem gprints_c12 : (((Rows.gaussPrintsRow).named == (Tryz.checked.prog).varsNamed 5)) = true := by kernel_rfl
theorem gprints_c13 : (((Rows.gaussPrintsRow).maps == ((Tryz.f5).params.toList ++ (Rows.gaussPrintsSpec).plain.varTypes Tryz.checked.prog).any ((Tryz.checked.prog).mapsRec ·))) = true := by kernel_rfl
theorem gprints_c14 : (((Rows.gaussPrintsRow).ifaces == ((Tryz.f5).params.toList ++ (Rows.gaussPrintsSpec).plain.varTypes Tryz.checked.prog).any ((Tryz.checked.prog).ifacesRec ·))) = true := by kernel_rfl
theorem gprints_c15 : (((Rows.gaussPrintsRow).mapsOut == (Tryz.checked.prog).mapsAmong (Tryz.f5).resultTypes.toList)) = true := by kernel_rfl
theorem gprints_c16 : (((Rows.gaussPrintsRow).loops == ((Tryz.f5).params.toList ++ (Rows.gaussPrintsSpec).plain.varTypes Tryz.checked.prog).any ((Tryz.checked.prog).loopsFrom ·))) = true := by kernel_rfl
theorem gprints_c17 : (((Rows.gaussPrintsRow).wideKeys == ((Tryz.f5).params.toList ++ (Rows.gaussPrintsSpec).plain.varTypes Tryz.checked.prog ++ (Tryz.f5).resultTypes.toList).any ((Tryz.checked.prog).wideKeysFrom ·))) = true := by kernel_rfl
theorem gprints_c18 : ((Rows.gaussPrintsSpec).vars.all ((Tryz.checked.prog).varReadable ·)) = true := by kernel_rfl
theorem gprints_c19 : ((Tryz.f5).resultTypes.all (fun t => (Tryz.checked.prog).readableRec t && decide (t < (Tryz.checked.prog).types.size))) = true := by kernel_rfl
theorem gprints_c20 : (((Rows.gaussPrintsRow).ifacesOut == (Tryz.f5).resultTypes.toList.any ((Tryz.checked.prog).ifacesRec ·))) = true := by kernel_rfl
theorem gprints_c21 : (((Rows.gaussPrintsRow).loopsOut == (Tryz.f5).resultTypes.toList.any ((Tryz.checked.prog).loopsFrom ·))) = true := by kernel_rfl
theorem gprints_c22 : (((Rows.gaussPrintsRow).plainKeys == (Tryz.checked.prog).plainKeys)) = true := by kernel_rfl
theorem gprints_c23 : ((Rows.gaussPrintsRow).shortTexts.isNone) = true := by kernel_rfl
theorem gprints_c24 : ((Tryz.checked.prog).stopsHeard) = true := by kernel_rfl
theorem gprints_c25 : ((Tryz.checked.prog).mayEnter) = true := by kernel_rfl
theorem gprints_c26 : (((Rows.gaussPrintsRow).lifted == (Tryz.checked.prog).liftsFinal)) = true := by kernel_rfl
theorem gprints_c27 : (((Tryz.checked.prog).make == some (Rows.gaussPrintsRow).make)) = true := by kernel_rfl
theorem gprints_c28 : (((Rows.gaussPrintsRow).kinds == (if (Rows.gaussPrintsRow).domain.isEmpty then [] else (Tryz.f5).params.toList.map fun t => match (Tryz.checked.prog).underlying t with | some (.int k) => some k | _ => none))) = true := by kernel_rfl
theorem gprints_c29 : (((Rows.gaussPrintsRow).pinned == (Rows.gaussPrintsRow).pinnedBy)) = true := by kernel_rfl
theorem gprints_c30 : (((Rows.gaussPrintsRow).veiled == ((Tryz.f5).params.toList ++ (Rows.gaussPrintsSpec).plain.varTypes Tryz.checked.prog ++ (Tryz.f5).resultTypes.toList).any ((Tryz.checked.prog).veiledRec ·))) = true := by kernel_rfl
theorem gprints_c31 : ((Rows.gaussPrintsRow).veiledFits Tryz.checked.prog (Tryz.f5).params.toList ((Tryz.f5).params.toList ++ (Rows.gaussPrintsSpec).plain.varTypes Tryz.checked.prog ++ (Tryz.f5).resultTypes.toList)) = true := by kernel_rfl
theorem gprints_closed : joinedFacts Tryz.checked.prog 5 Tryz.f5 Rows.gaussPrintsSpec Rows.gaussPrintsRow = true := (gprints_and (gprints_and (gprints_and (gprints_and (gprints_and (gprints_and (gprints_and (gprints_and (gprints_and (gprints_and (gprints_and (gprints_and (gprints_and (gprints_and (gprints_and (gprints_and (gprints_and (gprints_and (gprints_and (gprints_and (gprints_and (gprints_and (gprints_and (gprints_and (gprints_and (gprints_and (gprints_and (gprints_and (gprints_and (gprints_and (gprints_and gprints_c0 gprints_c1) gprints_c2) gprints_c3) gprints_c4) gprints_c5) gprints_c6) gprints_c7) gprints_c8) gprints_c9) gprints_c10) gprints_c11) gprints_c12) gprints_c13) gprints_c14) gprints_c15) gprints_c16) gprints_c17) gprints_c18) gprints_c19) gprints_c20) gprints_c21) gprints_c22) gprints_c23) gprints_c24) gprints_c25) gprints_c26) gprints_c27) gprints_c28) gprints_c29) gprints_c30) gprints_c31)
end Go.Proofs.YtepnghhgmjobjaaGreatDoor
namespace Go.Proofs.YtepnghhgmjobjaaGreatDoor
set_option maxRecDepth 100000
theorem main_is : Tryz.checked.prog.mainIs = some (true, "c747b79b9f1a43fe4c34757cd8e5e2d31f120ab8e01a8c8bfa0c84ed34aa119a".toList) := by kernel_rfl
theorem looks_is : false = Tryz.checked.prog.looks [] := by kernel_rfl
end Go.Proofs.YtepnghhgmjobjaaGreatDoor
namespace Go.Proofs.YtepnghhgmjobjaaGreatDoor
set_option maxRecDepth 100000
theorem gprints_goes : false = Rows.gaussPrintsRow.goesBy Tryz.checked.prog := by kernel_rfl
end Go.Proofs.YtepnghhgmjobjaaGreatDoor
namespace Go.Proofs.YtepnghhgmjobjaaGreatDoor
open Go.ChangeShapes Go.WideShapes Go.ChangeAt Go.RowKit Go.ChangeMaps Ev
set_option maxRecDepth 100000 in
theorem gprints_lifted (os : Os) (started : os.Started) (H : Type) (enc : TypeId × Value → H) :
    ReturnsInHanded {} Tryz.checked os 5 .any (fun w args => (Rows.gaussPrintsSpec.pre enc Tryz.prog Tryz.f5 [] false w args ∧ laidMetH Tryz.prog laidG w) ∧ sizedMet enc Tryz.prog Tryz.f5 (OpenSpec.ofChange Rows.gaussPrintsSpec) false w args)
      (Rows.gaussPrintsSpec.post enc Tryz.prog Tryz.f5 false true false false) := by
  refine handed_both (C := Tryz.checked) (X := fun w _ => laidMetH Tryz.prog laidG w) (fun _ _ _ hh h => h.of_heap hh) own started (by kernel_rfl) Tryz.func5
    (ChangeSpec.witness_shaped (enc := enc) (C := Tryz.checked) (os := os) (X := fun w _ => laidMetH Tryz.prog laidG w) false (World.laidAll Tryz.prog os laidG) #[gz] 8 (World.laidAll_os _ _ _) (World.shaped_of_ZipB (by kernel_rfl) (by kernel_rfl)) (by kernel_rfl) (by kernel_rfl) (by kernel_rfl)
      (by rw [MakeChecks.laidMetH_plain _ _ _ (by kernel_rfl)]; exact laidMet_laidAll _ (by kernel_rfl) (by kernel_rfl))) ?_
  intro W base args ds gs before hval0 hW hL hsh
  have hval : ∀ (j : Nat) t v, Tryz.f5.params[j]? = some t → args[j]? = some v → Value.okWide Tryz.prog W .any base t v := hval0
  have hW' := hW
  obtain ⟨p, q, hA0, hV, rfl, hfz, hnd⟩ := hW
  have hA : DataW.TrodAll enc Tryz.prog W 0 (fun _ => true) true Tryz.f5.params.toList args.toList ds p := hA0
  rw [Tryz.params5] at hA hval
  obtain ⟨v0, vs0, d0, ds0, p0, q0, hargs, rfl, rfl, h0, r0⟩ := trodAll_cons hA
  obtain ⟨hlast, rfl, rfl⟩ := trodAll_nil r0
  obtain rfl : args = #[v0] := by cases args; simp_all
  obtain ⟨rfl, rfl⟩ := trodVars_none hV
  obtain ⟨x0, y0, rfl, rfl, rfl, wx0, wy0⟩ := gauss_open (hval 0 26 v0 rfl rfl) h0
  have hT := tab_of_laidG hL
  have hG := glob_size hsh
  clear hA0 hval0
  simp only [List.append_nil] at hW'
  refine (Ev.Gp.gaussPrints_any W x0 y0  hG hT).mono fun ee W' ⟨he, hb⟩ => ?_
  subst he
  exact ⟨_, rfl, post_new hW' (fun _ _ _ => (trodAll_cons_mk (shut_bool Tryz.underlying4 _) trodAll_mk0)) (fun sp => (trodAll_cons_mk (gauss_shut wx0 wy0) trodAll_mk0)) (fun _ => rfl)
    hb (ok_one (by kernel_rfl) rfl (okWide_bool_mk Tryz.underlying4 _))⟩
theorem gprints_holds : Rows.GaussPrintsSaid :=
  OpenClaim.holds_of_wide 5 Tryz.f5 rfl rfl rfl rfl rfl rfl rfl ⟨rfl, rfl, rfl, rfl, rfl⟩ rfl rfl rfl rfl rfl (by kernel_rfl) Tryz.func5 gprints_closed
    (of_decide_eq_true (by kernel_rfl)) (by unfold Func.isWrapper; first | (rw [if_pos (by decide +kernel)]; kernel_rfl) | (rw [if_neg (by decide +kernel)]; exact ⟨rfl, rfl⟩))
    (fun os started H enc _ => gprints_lifted os started H enc)
theorem gprints_card : Rows.GaussPrintsCardSaid :=
  Claim7.holds_tied_plain_at .later [] [.data, .data, .data, .data, .pinned] true (true, "c747b79b9f1a43fe4c34757cd8e5e2d31f120ab8e01a8c8bfa0c84ed34aa119a") false
    gprints_holds (fun _ h => by cases h) (by kernel_rfl) (fun _ h => by cases h) gaussPrints_row_tie rfl ⟨rfl, rfl⟩ main_is rfl
    (fun f fn hf hfn => by
      obtain rfl : f = 5 := Option.some.inj ((show Tryz.prog.funcNamed "diapason/diapasonlaw02.GaussPrints" = some 5 by kernel_rfl).symm.trans hf) |>.symm
      obtain rfl : fn = Tryz.f5 := (Option.some.inj (Tryz.func5.symm.trans hfn)).symm
      exact ⟨looks_is, fun j t ht => by
        rw [Tryz.params5] at ht
        have h3 : Tryz.prog.wantsStandIn t = false := by
          rcases j with _ | j
          · obtain rfl : t = 26 := by simpa using ht.symm
            kernel_rfl
          · simp at ht
        exact h3⟩)
    gprints_goes
end Go.Proofs.YtepnghhgmjobjaaGreatDoor
