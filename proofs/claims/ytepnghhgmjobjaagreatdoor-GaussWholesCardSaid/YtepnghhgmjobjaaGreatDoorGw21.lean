/- Contracts, in this order: The interpreter over numbers told by expressions: from a run · gauss: what its functions answer, by runs over numbers told  · gauss: sums, differences, products of any two numbers, whate · gauss.Of: what it does with any two whole numbers. · ref90: the bytes of a size. · Runs over ref90's numbers: expressions, what is known, and w · Runs over ref90's numbers: how many words, and whether that  -/
import Derived.Test.YtepnghhgmjobjaaGreatDoorGw20
import Derived.Test.YtepnghhgmjobjaaGreatDoorGw09
import Derived.Deep.DeepCutAuto
import Derived.Test.YtepnghhgmjobjaaGreatDoorGw19
import Derived.Test.YtepnghhgmjobjaaGreatDoorGw08
import Derived.Laws.MakeOwn
import Derived.Test.YtepnghhgmjobjaaGreatDoorGw15
import Derived.Laws.BytesString
namespace Go.Proofs.YtepnghhgmjobjaaGreatDoor
open Go Go.RowKit
namespace Ev
inductive D1 (F : Type) where
  | p (v : Value)
  | f (x : F)
inductive D2 (F : Type) where
  | one (d : D1 F)
  | agg (l : List (D1 F))
inductive D3 (F : Type) where
  | one (d : D2 F)
  | tuple (l : List (D2 F))
section
variable {F : Type}
def D1.is (S : Sig F) (w : World) : D1 F → Value → Prop
  | .p u, v => v = u
  | .f x, v => S.holds x w v
def D1.all (S : Sig F) (w : World) : List (D1 F) → List Value → Prop
  | [], l => l = []
  | d :: ds, l => ∃ v vs, l = v :: vs ∧ d.is S w v ∧ D1.all S w ds vs
def D2.is (S : Sig F) (w : World) : D2 F → Value → Prop
  | .one d, v => d.is S w v
  | .agg ds, v => ∃ vs, v = .agg ⟨vs⟩ ∧ D1.all S w ds vs
def D2.all (S : Sig F) (w : World) : List (D2 F) → List Value → Prop
  | [], l => l = []
  | d :: ds, l => ∃ v vs, l = v :: vs ∧ d.is S w v ∧ D2.all S w ds vs
def D3.is (S : Sig F) (w : World) : D3 F → Value → Prop
  | .one d, v => d.is S w v
  | .tuple ds, v => ∃ vs, v = .tuple ⟨vs⟩ ∧ D2.all S w ds vs
noncomputable def isChan : Value → Option Nat
  | .chan i => i
  | _ => none
noncomputable def see1 (h : Tr (Blk F)) (v : Value) : Option (D1 F) := match isChan v with
  | some i => match h.get i with
    | some b => match b with
      | .fact f => some (.f f)
      | .cells _ _ => none
    | none => none
  | none => cond (plain v) (some (.p v)) none
noncomputable def consO {α : Type} (a : Option α) (b : Option (List α)) : Option (List α) := match a with
  | some d => match b with
    | some ds => some (d :: ds)
    | none => none
  | none => none
noncomputable def seeL {α : Type} (s : Value → Option α) (l : List Value) : Option (List α) := List.rec (motive := fun _ => Option (List α)) (some []) (fun v _ ih => consO (s v) ih) l
noncomputable def see2 (h : Tr (Blk F)) (v : Value) : Option (D2 F) := match v with
  | .agg cs => (seeL (see1 h) cs.toList).map .agg
  | v => (see1 h v).map .one
noncomputable def see3 (h : Tr (Blk F)) (v : Value) : Option (D3 F) := match v with
  | .tuple cs => (seeL (see2 h) cs.toList).map .tuple
  | v => (see2 h v).map .one
variable {S : Sig F} {r : Ren} {h : Tr (Blk F)} {w : World}
theorem isChan_of {v : Value} {i : Nat} (e : isChan v = some i) : v = .chan (some i) := by
  cases v <;> simp [isChan] at e
  subst e; rfl
theorem see1_ok {v v' : Value} {d : D1 F} (e : see1 h v = some d) (hM : Mod S r h.get w) (hv : VR r v v') : d.is S w v' := by
  unfold see1 at e
  cases hc : isChan v with
  | none =>
    rw [hc] at e
    simp only at e
    cases hp : plain v with
    | false => rw [hp] at e; cases e
    | true =>
      rw [hp] at e
      cases e
      exact hv.eq_of_plain hp
  | some i =>
    rw [hc] at e
    have := isChan_of hc
    subst this
    simp only at e
    cases hg : h.get i with
    | none => rw [hg] at e; cases e
    | some b =>
      rw [hg] at e
      cases b with
      | cells _ _ => cases e
      | fact f =>
        cases e
        obtain ⟨v0, hv0, hh, ho⟩ := hM.fact _ _ hg
        cases hv with
        | same p => simp [plain] at p
        | opq hp _ => rw [hv0] at hp; injection hp with hp; subst hp; exact hh
theorem seeL1_ok : ∀ {l l' : List Value} {ds : List (D1 F)}, seeL (see1 h) l = some ds → Mod S r h.get w → VsR r l l' → D1.all S w ds l'
  | [], _, ds, e, hM, hv => by
    cases hv
    cases (show some [] = some ds from e)
    rfl
  | v :: l, _, ds, e, hM, hv => by
    have e' : consO (see1 h v) (seeL (see1 h) l) = some ds := e
    unfold consO at e'
    cases hv with
    | cons ha hb =>
      cases h1 : see1 h v with
      | none => rw [h1] at e'; cases e'
      | some d =>
        rw [h1] at e'
        cases h2 : seeL (see1 h) l with
        | none => rw [h2] at e'; cases e'
        | some ds2 =>
          rw [h2] at e'
          cases e'
          exact ⟨_, _, rfl, see1_ok h1 hM ha, seeL1_ok h2 hM hb⟩
theorem see2_ok {v v' : Value} {d : D2 F} (e : see2 h v = some d) (hM : Mod S r h.get w) (hv : VR r v v') : d.is S w v' := by
  unfold see2 at e
  cases v with
  | agg cs =>
    obtain ⟨l⟩ := cs
    simp only at e
    cases h1 : seeL (see1 h) l with
    | none => rw [h1] at e; cases e
    | some ds =>
      rw [h1] at e
      cases e
      obtain ⟨l', rfl, hl⟩ := vr_agg hv
      exact ⟨_, rfl, seeL1_ok h1 hM hl⟩
  | _ =>
    simp only at e
    obtain ⟨d1, h1, rfl⟩ := Option.map_eq_some_iff.1 e
    exact see1_ok h1 hM hv
theorem seeL2_ok : ∀ {l l' : List Value} {ds : List (D2 F)}, seeL (see2 h) l = some ds → Mod S r h.get w → VsR r l l' → D2.all S w ds l'
  | [], _, ds, e, hM, hv => by
    cases hv
    cases (show some [] = some ds from e)
    rfl
  | v :: l, _, ds, e, hM, hv => by
    have e' : consO (see2 h v) (seeL (see2 h) l) = some ds := e
    unfold consO at e'
    cases hv with
    | cons ha hb =>
      cases h1 : see2 h v with
      | none => rw [h1] at e'; cases e'
      | some d =>
        rw [h1] at e'
        cases h2 : seeL (see2 h) l with
        | none => rw [h2] at e'; cases e'
        | some ds2 =>
          rw [h2] at e'
          cases e'
          exact ⟨_, _, rfl, see2_ok h1 hM ha, seeL2_ok h2 hM hb⟩
theorem see3_ok {v v' : Value} {d : D3 F} (e : see3 h v = some d) (hM : Mod S r h.get w) (hv : VR r v v') : d.is S w v' := by
  unfold see3 at e
  cases v with
  | tuple cs =>
    obtain ⟨l⟩ := cs
    simp only at e
    cases h1 : seeL (see2 h) l with
    | none => rw [h1] at e; cases e
    | some ds =>
      rw [h1] at e
      cases e
      cases hv with
      | same p => simp [plain] at p
      | tuple hl => exact ⟨_, rfl, seeL2_ok h1 hM hl⟩
  | _ =>
    simp only at e
    obtain ⟨d1, h1, rfl⟩ := Option.map_eq_some_iff.1 e
    exact see2_ok h1 hM hv
inductive Lay where
  | p (v : Value)
  | one
  | agg (k : Nat)
noncomputable def split (l : List Lay) : List Value → List Value := List.rec (motive := fun _ => List Value → List Value) (fun _ => []) (fun x _ ih vs => match x with
  | .p v => v :: ih vs
  | .one => vs.headD undef :: ih vs.tail
  | .agg k => .agg ⟨vs.take k⟩ :: ih (vs.drop k)) l
noncomputable def plainLay (l : List Lay) : Bool := List.rec (motive := fun _ => Bool) true (fun x _ ih => match x with
  | .p v => plain2 v && ih
  | _ => ih) l
theorem split_ok : ∀ {l : List Lay}, plainLay l = true → ∀ {vs us : List Value}, VsR r vs us → VsR r (split l vs) (split l us)
  | [], _, _, _, _ => .nil
  | .p v :: l, hp, vs, us, hv => by
    have hp' : (plain2 v && plainLay l) = true := hp
    simp only [Bool.and_eq_true] at hp'
    exact .cons (VR.same2 hp'.1) (split_ok hp'.2 hv)
  | .one :: l, hp, vs, us, hv => by
    refine .cons ?_ (split_ok (l := l) hp ?_)
    · cases hv with
      | nil => exact vr_undef
      | cons a _ => exact a
    · cases hv with
      | nil => exact .nil
      | cons _ b => exact b
  | .agg k :: l, hp, vs, us, hv => .cons (.agg (hv.take k)) (split_ok (l := l) hp (hv.drop k))
noncomputable def tells (fs : List F) (ls : List Lay) (m : List Value → M F Value) : Option (D3 F) := match newFacts fs .nil 100000 with
  | .no => none
  | .ok vs h1 nx1 _ _ => match m (split ls vs) h1 nx1 with
    | .no => none
    | .ok a h2 _ _ W => cond (geAll nx1 W) (see3 h2 a) none
theorem newFacts_W : ∀ (l : List F) {h h' : Tr (Blk F)} {nx nx' : Nat} {R W : List Nat} {vs : List Value}, newFacts l h nx = .ok vs h' nx' R W → W = []
  | [], h, h', nx, nx', R, W, vs, e => (ret_ok (show (ret [] : M F _) h nx = _ from e)).2.2.2
  | f :: l, h, h', nx, nx', R, W, vs, e => by
    obtain ⟨x, h3, nx3, R3, W3, R4, W4, e3, e4, rfl, rfl⟩ := bind_ok (show bind (newFact f) (fun x => bind (newFacts l) fun l => ret (x :: l)) h nx = _ from e)
    obtain ⟨i, h5, nx5, R5, W5, R6, W6, e5, e6, rfl, rfl⟩ := bind_ok e3
    obtain ⟨rfl, rfl, rfl, rfl⟩ := ret_ok e6
    unfold fresh at e5
    cases e5
    obtain ⟨xs, h7, nx7, R7, W7, R8, W8, e7, e8, rfl, rfl⟩ := bind_ok e4
    obtain ⟨rfl, rfl, rfl, rfl⟩ := ret_ok e8
    rw [newFacts_W l e7]; rfl
theorem tells_calls {P : Program} {C : Cfg F} [HardLoc C] {sum : Sums F} {n : Nat} {f : FuncId} {fs : List F} {ls : List Lay} {d : D3 F} (hF : Fits S P C) (hs : SumOK S P sum) (e : tells fs ls (call P C sum n f) = some d) (ha : plainLay ls = true) (hx : S.G ≤ 100000)
    {w : World} {us : List Value} (hu : HoldsL S w fs us) (hG : S.G ≤ w.heap.size) (hb : S.base w) :
    Calls P f ⟨split ls us⟩ w fun e w' => ∃ v', e = .returned v' ∧ d.is S w' v' ∧ Below w.heap.size w w' := by
  unfold tells at e
  cases h1 : newFacts fs .nil 100000 with
  | no => rw [h1] at e; cases e
  | ok vs hh nx1 R1 W1 =>
    rw [h1] at e
    simp only at e
    cases h2 : call P C sum n f (split ls vs) hh nx1 with
    | no => rw [h2] at e; cases e
    | ok a h3 nx2 R W =>
      rw [h2] at e
      simp only at e
      cases hc : geAll nx1 W with
      | false => rw [hc] at e; cases e
      | true =>
        rw [hc] at e
        simp only [cond_true] at e
        have hW := geAll_ok hc
        have hW1 := newFacts_W fs h1
        subst hW1
        have hg : (Tr.get (.nil : Tr (Blk F))) = fun _ => none := funext fun k => Tr.get_nil k
        have hN0 : ∀ m, New (ren0 S.G) 100000 m := fun m k h1 _ => ⟨if_neg (by omega), rfl⟩
        obtain ⟨hle, r1, hX, hvs⟩ := newFacts_ok fs h1 (by rw [hg]; exact mod0 hG hb) (hN0 nx1) hu
        have hcl := call_ok hF hs n
        have hfr : Fr hh nx1 := ((loc_newFacts fs).2 _ _ _ _ _ _ _ h1 (fun k _ => Tr.get_nil k)).fr
        have hrun := Run.self (hcl.loc f _) h2 hfr
        have hN : New r1 nx1 nx2 := New.after (hN0 nx2) hX hle
        refine (hcl.run f _ _ _ _ _ _ _ _ hrun r1 w _ (split_ok ha hvs) hX.mod hN).mono ?_
        rintro en w' ⟨v', r', rfl, hv, hY⟩
        refine ⟨v', rfl, see3_ok e hY.mod hv, hY.os, hY.tape, hY.output, hY.size, fun b hb' => ?_⟩
        have hbo : w.heap[b]? = some w.heap[b] := Array.getElem?_eq_getElem hb'
        rw [hbo]
        refine hY.keep b _ hbo fun k hk he => ?_
        have hge := hW k hk
        rcases hX.new k b he with h5 | h5
        · rw [show (ren0 S.G).blk k = none from if_neg (by omega)] at h5; cases h5
        · omega
end
noncomputable def symCfg (hd : Oper → List Value → M Sy Nxt) : Cfg Sy where
  hid := symHid
  G := natCfg.G
  tab := natCfg.tab
  len := symLen
  hard := hd
end Ev
end Go.Proofs.YtepnghhgmjobjaaGreatDoor
namespace Go.Proofs.YtepnghhgmjobjaaGreatDoor
open Go Go.RowKit
namespace Ev
noncomputable def symC : Cfg Sy := symCfg (fun _ _ => fail)
instance symCHard : HardLoc symC := ⟨fun _ _ => loc_fail⟩
theorem symLen_ok (ρ : Env) : ∀ f n w v, (symSig ρ).holds f w v → symLen f = some n → ∃ a c, v = .slice a n c := fun f n w v h e => by
  cases f with
  | n k =>
    have e' : wordsN k = n := Option.some.inj e
    obtain ⟨a, c, rfl⟩ := nat_slice (show NatIn w v k from h)
    exact ⟨a, c, by rw [e']⟩
  | _ => cases e
noncomputable def frs (e : Qe) : List Sy := [.ng e, .fn e, .fd e]
noncomputable def rws (i : Nat) : List Sy := [.rg i, .rn i, .rd i]
noncomputable def inp (b : Bool) (i : Nat) : List Sy := cond b (frs (.v i)) (rws i)
noncomputable def inp4 (a b c d : Bool) : List Sy := inp a 0 ++ (inp b 1 ++ (inp c 2 ++ inp d 3))
noncomputable def v0 : Qe := .v 0
noncomputable def v1 : Qe := .v 1
noncomputable def v2 : Qe := .v 2
noncomputable def v3 : Qe := .v 3
noncomputable def fits (e f : Qe) (s t : Bool) : List As := [⟨0, e, z0, s⟩, ⟨0, f, z0, t⟩]
set_option maxRecDepth 100000
end Ev
end Go.Proofs.YtepnghhgmjobjaaGreatDoor
namespace Go.Proofs.YtepnghhgmjobjaaGreatDoor
open Go Go.RowKit
namespace Ev
abbrev Tri := Bool × ByteArray × ByteArray
def tri (q : Rat) : Tri := (Big.ng q, bst (Big.nu q), bst (Big.de q))
def cel (x : Tri) : List Value := [.bool x.1, .string x.2.1, .string x.2.2]
section
variable {ρ : Env} {w : World} {v : Value}
end
theorem holdsL_append {F : Type} {S : Sig F} {w : World} : ∀ {l l' : List F} {us us' : List Value}, HoldsL S w l us → HoldsL S w l' us' → HoldsL S w (l ++ l') (us ++ us')
  | [], l', us, us', h, h' => by
    obtain rfl : us = [] := h
    exact h'
  | f :: l, l', us, us', h, h' => by
    obtain ⟨u, vs, rfl, h1, h2, h3⟩ := h
    exact ⟨u, vs ++ us', rfl, h1, h2, holdsL_append h3 h'⟩
def pick {α : Type} (a b c d : α) : Nat → α
  | 0 => a
  | 1 => b
  | 2 => c
  | _ => d
theorem pick_all {α : Type} {p : α → Prop} {a b c d : α} (ha : p a) (hb : p b) (hc : p c) (hd : p d) : ∀ i, p (pick a b c d i)
  | 0 => ha
  | 1 => hb
  | 2 => hc
  | _ + 3 => hd
theorem inp_holds {ρ : Env} {w : World} {b : Bool} {i : Nat} {x : Tri} (h1 : b = true → x = tri (ρ.q i)) (h2 : b = false → x = ρ.raw i) : HoldsL (symSig ρ) w (inp b i) (cel x) := by
  cases b with
  | true =>
    rw [h1 rfl]
    exact frac_holds (w := w) (.v i)
  | false =>
    rw [h2 rfl]
    exact ⟨_, _, rfl, rfl, rfl, _, _, rfl, rfl, rfl, _, _, rfl, rfl, rfl, rfl⟩
structure In4 (x y z u : Tri) where
  ρ : Env
  a : Bool
  b : Bool
  c : Bool
  d : Bool
  hx : (a = true → x = tri (ρ.q 0)) ∧ (a = false → x = ρ.raw 0)
  hy : (b = true → y = tri (ρ.q 1)) ∧ (b = false → y = ρ.raw 1)
  hz : (c = true → z = tri (ρ.q 2)) ∧ (c = false → z = ρ.raw 2)
  hu : (d = true → u = tri (ρ.q 3)) ∧ (d = false → u = ρ.raw 3)
theorem In4.holds {x y z u : Tri} (i : In4 x y z u) (w : World) : HoldsL (symSig i.ρ) w (inp4 i.a i.b i.c i.d) (cel x ++ (cel y ++ (cel z ++ cel u))) :=
  holdsL_append (inp_holds i.hx.1 i.hx.2) (holdsL_append (inp_holds i.hy.1 i.hy.2) (holdsL_append (inp_holds i.hz.1 i.hz.2) (inp_holds i.hu.1 i.hu.2)))
theorem tri_inj {p q : Rat} (h : tri p = tri q) : p = q := by
  unfold tri at h
  simp only [Prod.mk.injEq] at h
  exact Big.parts_eq h.1 (bst_inj h.2.1) (bst_inj h.2.2)
theorem not_bad {q : Rat} (h : Fit q) : ¬ BadF (tri q) := fun hb => hb q h ⟨rfl, rfl, rfl⟩
def envOf (a b c d : Rat) (ha : Fit a) (hb : Fit b) (hc : Fit c) (hd : Fit d) : Env := Env.ofFit (pick a b c d) (fun _ => (false, ⟨#[]⟩, ⟨#[]⟩)) (pick_all ha hb hc hd) fun _ => bad_zero
end Ev
end Go.Proofs.YtepnghhgmjobjaaGreatDoor
namespace Go.Proofs.YtepnghhgmjobjaaGreatDoor
open Go Go.RowKit
namespace Ev
set_option maxRecDepth 100000
set_option maxHeartbeats 4000000 in
theorem gaussOf_any (w : World) (n m : Int) (h1 : -9223372036854775808 ≤ n) (h2 : n ≤ 9223372036854775807) (h3 : -9223372036854775808 ≤ m) (h4 : m ≤ 9223372036854775807) :
    Calls Tryz.prog 9 #[.int .i64 n, .int .i64 m] w fun e w' => e = .returned (.agg ⟨cel (tri (ofQ n 1)) ++ cel (tri (ofQ m 1))⟩) ∧ Below w.heap.size w w' := by
  have C1 := Lib.hid (fun W => raOf_any W n 1 h1 h2 (by omega) (by omega) (by omega))
  have C2 := Lib.hid (fun W => raOf_any W m 1 h3 h4 (by omega) (by omega) (by omega))
  obtain ⟨P, hP⟩ : ∃ P, ofQ n 1 = P := ⟨_, rfl⟩
  obtain ⟨Q, hQ⟩ : ∃ Q, ofQ m 1 = Q := ⟨_, rfl⟩
  rw [hP] at C1 ⊢
  rw [hQ] at C2 ⊢
  clear h1 h2 h3 h4 hP hQ
  have HB := Lib.hid (box1_below w (.cells #[.bool false, .string ⟨#[]⟩, .string ⟨#[]⟩, .bool false, .string ⟨#[]⟩, .string ⟨#[]⟩] 26))
  have HN := Lib.hid (AtL.new w 26 #[.bool false, .string ⟨#[]⟩, .string ⟨#[]⟩, .bool false, .string ⟨#[]⟩, .string ⟨#[]⟩])
  go_enter Tryz.func9, Tryz.ntmps9
  go_wp2_with fail
  generalize w.alloc (.cells #[.bool false, .string ⟨#[]⟩, .string ⟨#[]⟩, .bool false, .string ⟨#[]⟩, .string ⟨#[]⟩] 26) = v0 at *
  refine (C1.out _).mono ?_
  rintro e w1 ⟨rfl, hw1⟩
  unfold fracV
  replace HB := Lib.hid (HB.out.trans (hw1.mono HB.out.size))
  replace HN := Lib.hid (HN.out.keep hw1)
  have hlt1 := HN.out.lt
  have HP := Lib.hid (AtL.new w1 24 #[.bool (Big.ng P), .string (bst (Big.nu P)), .string (bst (Big.de P))])
  replace HB := Lib.hid (below_alloc HB.out (Nat.le_refl _) (.cells #[.bool (Big.ng P), .string (bst (Big.nu P)), .string (bst (Big.de P))] 24))
  replace HN := Lib.hid (HN.out.keep (box1_below w1 (.cells #[.bool (Big.ng P), .string (bst (Big.nu P)), .string (bst (Big.de P))] 24)))
  clear hw1 C1
  go_wp2_with fail
  generalize w1.alloc (.cells #[.bool (Big.ng P), .string (bst (Big.nu P)), .string (bst (Big.de P))] 24) = v1 at *
  generalize hg1 : w1.heap.size = g1 at *
  refine (C2.out _).mono ?_
  rintro e w2 ⟨rfl, hw2⟩
  unfold fracV
  replace HB := Lib.hid (HB.out.trans (hw2.mono HB.out.size))
  replace HN := Lib.hid (HN.out.keep hw2)
  replace HP := Lib.hid (HP.out.keep hw2)
  have hlt2 := HN.out.lt
  have hlt3 := HP.out.lt
  have HQ := Lib.hid (AtL.new w2 24 #[.bool (Big.ng Q), .string (bst (Big.nu Q)), .string (bst (Big.de Q))])
  replace HB := Lib.hid (below_alloc HB.out (Nat.le_refl _) (.cells #[.bool (Big.ng Q), .string (bst (Big.nu Q)), .string (bst (Big.de Q))] 24))
  replace HN := Lib.hid (HN.out.keep (box1_below w2 (.cells #[.bool (Big.ng Q), .string (bst (Big.nu Q)), .string (bst (Big.de Q))] 24)))
  replace HP := Lib.hid (HP.out.keep (box1_below w2 (.cells #[.bool (Big.ng Q), .string (bst (Big.nu Q)), .string (bst (Big.de Q))] 24)))
  clear hw2 C2
  go_upto_region 3 with (fail)
  generalize w2.alloc (.cells #[.bool (Big.ng Q), .string (bst (Big.nu Q)), .string (bst (Big.de Q))] 24) = v2 at *
  generalize hg2 : w2.heap.size = g2 at *
  have p0 := HP.out.cell 0 rfl; have p1 := HP.out.cell 1 rfl; have p2 := HP.out.cell 2 rfl
  have q0 := HQ.out.cell 0 rfl; have q1 := HQ.out.cell 1 rfl; have q2 := HQ.out.cell 2 rfl
  have k0 := HN.out.cell 0 rfl; have k1 := HN.out.cell 1 rfl; have k2 := HN.out.cell 2 rfl; have k3 := HN.out.cell 3 rfl; have k4 := HN.out.cell 4 rfl; have k5 := HN.out.cell 5 rfl
  have f0 := HN.out.frozen 0; have f1 := HN.out.frozen 1; have f2 := HN.out.frozen 2; have f3 := HN.out.frozen 3; have f4 := HN.out.frozen 4; have f5 := HN.out.frozen 5
  have HD := Lib.hid (((((((HN.out).set 0 (.bool (Big.ng P))).set 1 (.string (bst (Big.nu P)))).set 2 (.string (bst (Big.de P)))).set 3 (.bool (Big.ng Q))).set 4 (.string (bst (Big.nu Q)))).set 5 (.string (bst (Big.de Q))))
  have HE := Lib.hid (((((((HB.out).setCell (p := ⟨w.heap.size, 0, none⟩) (Nat.le_refl _) (.bool (Big.ng P))).setCell (p := ⟨w.heap.size, 1, none⟩) (Nat.le_refl _) (.string (bst (Big.nu P)))).setCell (p := ⟨w.heap.size, 2, none⟩) (Nat.le_refl _) (.string (bst (Big.de P)))).setCell (p := ⟨w.heap.size, 3, none⟩) (Nat.le_refl _) (.bool (Big.ng Q))).setCell (p := ⟨w.heap.size, 4, none⟩) (Nat.le_refl _) (.string (bst (Big.nu Q)))).setCell (p := ⟨w.heap.size, 5, none⟩) (Nat.le_refl _) (.string (bst (Big.de Q))))
  clear HP HQ HN
  go_wp2_with fail
  generalize ((((((v2.setCell ⟨w.heap.size, 0, none⟩ (.bool (Big.ng P))).setCell ⟨w.heap.size, 1, none⟩ (.string (bst (Big.nu P)))).setCell ⟨w.heap.size, 2, none⟩ (.string (bst (Big.de P)))).setCell ⟨w.heap.size, 3, none⟩ (.bool (Big.ng Q))).setCell ⟨w.heap.size, 4, none⟩ (.string (bst (Big.nu Q)))).setCell ⟨w.heap.size, 5, none⟩ (.string (bst (Big.de Q)))) = wz at HD HE ⊢
  clear k0 k1 k2 k3 k4 k5 f0 f1 f2 f3 f4 f5
  have r0 := HD.out.cell 0 rfl; have r1 := HD.out.cell 1 rfl; have r2 := HD.out.cell 2 rfl; have r3 := HD.out.cell 3 rfl; have r4 := HD.out.cell 4 rfl; have r5 := HD.out.cell 5 rfl
  exact bodyPost_ret (v := .agg #[.bool (Big.ng P), .string (bst (Big.nu P)), .string (bst (Big.de P)), .bool (Big.ng Q), .string (bst (Big.nu Q)), .string (bst (Big.de Q))]) (by simp [results, Tryz.results9, go_sem, r0, r1, r2, r3, r4, r5]) rfl ⟨rfl, HE.out⟩
end Ev
end Go.Proofs.YtepnghhgmjobjaaGreatDoor
namespace Go.Proofs.YtepnghhgmjobjaaGreatDoor
namespace R
open Go.RowKit
theorem infoU8 : (Tryz.prog.info? 5).map (fun i => (i.zero, i.size, i.bytes)) = some (some (.int .u8 0), 1, 1) := by kernel_rfl
theorem M32_pow : M32 = 256 ^ 4 := by unfold M32; decide
theorem byte_div (n q r : Nat) (hr : r < 4) : n / M32 ^ q % M32 / 2 ^ (8 * r) % 256 = n / 256 ^ (4 * q + r) % 256 := by
  rw [Nat.mul_comm 8 r, ← Big.pow256, M32_pow, ← Nat.pow_mul, Nat.pow_add, ← Nat.div_div_eq_div_mul]
  generalize n / 256 ^ (4 * q) = m
  have e : 256 ^ 4 = 256 ^ r * 256 ^ (4 - r) := by rw [← Nat.pow_add]; congr 1; omega
  rw [e, Nat.mod_mul_right_div_self]
  have e2 : 256 ^ (4 - r) = 256 * 256 ^ (4 - r - 1) := by rw [← Nat.pow_succ']; congr 1; omega
  rw [e2, Nat.mod_mul_right_mod]
theorem isSize_bits {n s : Nat} (h : IsBits n s) : Big.IsSize n ((s + 7) / 8) := by
  obtain ⟨h1, h2⟩ := h
  refine ⟨?_, fun hp => ?_⟩
  · rw [Big.pow256]
    exact Nat.lt_of_lt_of_le h1 (Nat.pow_le_pow_right (by omega) (by omega))
  · rw [Big.pow256]
    exact Nat.le_trans (Nat.pow_le_pow_right (by omega) (by omega)) (h2 (by omega))
theorem take_set {T : List Nat} {I s d : Nat} (hT : T.length = s) (hI : I < s) (hd : Big.nth T I = d) : (T.take I ++ List.replicate (s - I) 0).set I d = T.take (I + 1) ++ List.replicate (s - (I + 1)) 0 := by
  have hl : (T.take I).length = I := by simp; omega
  rw [List.set_append_right _ _ (by omega), hl, Nat.sub_self, show s - I = (s - (I + 1)) + 1 by omega, List.replicate_succ, List.set_cons_zero, Big.take_succ T I (by omega), hd]
  simp
theorem rev_bd (n s I : Nat) (h : I < s) : Big.nth (Big.bd n s).reverse I = n / 256 ^ (s - 1 - I) % 256 := by
  unfold Big.nth
  rw [List.getD_eq_getElem?_getD, List.getElem?_reverse (by rw [Big.bd_length]; exact h), Big.bd_length]
  unfold Big.bd
  rw [List.getElem?_map, List.getElem?_range (by omega)]
  rfl
set_option maxRecDepth 100000 in
set_option maxHeartbeats 400000 in
theorem bytes_any (w : World) (bx ox n : Nat) (s : Bool) (h : IntAt w bx ox s n) (hn : Sml n) :
    Calls Tryz.prog 113 #[.pointer (some ⟨bx, ox, none⟩)] w fun e w' => ∃ v', e = .returned v' ∧ Bt w' v' (btx n) ∧ Below w.heap.size w w' := by
  obtain ⟨-, u, hc, hu⟩ := h
  obtain ⟨l, hw, ol, nl, hv, hl⟩ := nin_list hu hn
  have HCB := Lib.hid (bitsOf_any w u l hw ol nl (by omega))
  rw [hv] at HCB
  have HW := Lib.hid hw; have OL := Lib.hid ol; have HVAL := Lib.hid hv
  obtain ⟨A, c, rfl, -, -, -⟩ := hw
  obtain ⟨i0, hi, hz0, hz1, hz2⟩ := info_parts infoU8
  have hlt := cell_lt hc
  clear ol nl hv hu hn
  go_enter Tryz.func113, Tryz.ntmps113
  go_wp2_with fail
  with_reducible refine HCB.out.mono ?_
  rintro e w1 ⟨sb, rfl, hsb, hsb1, -, rfl⟩
  obtain ⟨sz, hsz⟩ : ∃ z, (sb + 7) / 8 = z := ⟨_, rfl⟩
  have es : ((sb : Int) + 7) / 8 = (sz : Int) := by omega
  have HSZ := Lib.hid (show Big.IsSize n sz by rw [← hsz]; exact isSize_bits hsb)
  have hsb2 : sz ≤ 800000000 := by omega
  have hmk := fun W => make_words (P := Tryz.prog) Tryz.underlying166 hi hz0 hz1 (by rw [hz2]; omega) .i64 .i64 sz sz (Nat.le_refl _) (by omega) W
  have HB1 := Lib.hid (Blk.new w 5 .u8 (List.replicate sz 0))
  have HBel1 := Lib.hid ((Below.refl w.heap.size w).alloc (Nat.le_refl _) (.cells (cellsOf .u8 (List.replicate sz 0)) 5))
  clear hsb hsb1 hsz
  go_wp2_with fail
  clear hmk hi hz0 hz1 hz2
  simp only [es]
  go_loopw [5] (fun i wr => ∃ (I : Nat), I ≤ sz ∧ i = .int .i64 I ∧
      Hid (Blk wr w.heap.size 5 .u8 ((Big.bd n sz).reverse.take I ++ List.replicate (sz - I) 0)) ∧ Hid (Below w.heap.size w wr))
    (fun i _ => sz - (intOf i).toNat)
  case atStart => exact ⟨0, by omega, rfl, Lib.hid (by simpa using HB1.out), HBel1⟩
  case round =>
    obtain ⟨I, hI, rfl, HB, HBel⟩ := hrel
    by_cases hkn : I < sz
    · obtain ⟨k, hk⟩ : ∃ k, sz - 1 - I = k := ⟨_, rfl⟩
      have ek : (sz : Int) - 1 - (I : Int) = (k : Int) := by omega
      obtain ⟨q, r, hqr, hr⟩ : ∃ q r, k = 4 * q + r ∧ r < 4 := ⟨k / 4, k % 4, by omega, by omega⟩
      have hq : q < l.length := by
        rcases Nat.lt_or_ge q l.length with h1 | h1
        · exact h1
        · exfalso
          have h2 := HSZ.out.2 (by omega)
          have h3 := Big.val_lt l OL.out
          rw [HVAL.out, M32_pow, ← Nat.pow_mul] at h3
          have h4 : 256 ^ (4 * l.length) ≤ 256 ^ (sz - 1) := Nat.pow_le_pow_right (by omega) (by omega)
          omega
      obtain ⟨A', c', e, x1, x2, x3⟩ := HW.out
      cases e
      obtain ⟨b, o, rfl, hblt, hcc, -⟩ := x3 (by omega)
      have hcell := (HBel.out.cell (p := ⟨b, o + q, none⟩) hblt).trans (hcc q hq)
      have hcu := (HBel.out.cell (p := ⟨bx, ox + 1, none⟩) hlt).trans hc
      have hst := HB.out.cell I (by simp [Big.bd_length]; omega)
      have hfr := HB.out.frozen I
      have d1 : (k : Int) / 4 = (q : Int) := by omega
      have d2 : (k : Int) % 4 = (r : Int) := by omega
      have hql : (q : Int) < (l.length : Int) := by omega
      have ev := Big.nth_div M32_pos l OL.out q
      rw [HVAL.out] at ev
      have hxm := nth_lt OL.out q
      have hbyte := rev_bd n sz I hkn
      rw [hk] at hbyte
      generalize Big.nth l q = xq at hcell ev hxm
      have hv : ((xq : Nat) : Int) / 2 ^ (8 * r) % 256 = ((n / 256 ^ k % 256 : Nat) : Int) := by
        rw [hqr, ← byte_div n q r hr, ← ev]
        rw [show ((2 : Int) ^ (8 * r)) = ((2 ^ (8 * r) : Nat) : Int) by rw [Int.natCast_pow]; rfl]
        omega
      have HBY := Lib.hid hbyte
      obtain ⟨y, hy⟩ : ∃ y, n / 256 ^ k % 256 = y := ⟨_, rfl⟩
      rw [hy] at hv HBY
      have HV := Lib.hid hv
      have e8 : (8 * (r : Int)).toNat = 8 * r := by omega
      have hr8 : (8 * (r : Int)) < 32 := by omega
      clear hk hqr hcc x3 ev hbyte hy hv
      go_wp2_with fail
      rw [HV.out]
      refine ⟨⟨I + 1, by omega, by go_num, Lib.hid ?_, Lib.hid (HBel.out.setCell (Nat.le_refl _) _)⟩, by simp [intOf]; omega⟩
      have := HB.out.set I y
      rw [take_set (by simp [Big.bd_length]) hkn HBY.out] at this
      exact this
    · have hkl : I = sz := by omega
      subst hkl
      have hB := HB.out
      rw [Nat.sub_self, List.replicate_zero, List.append_nil, List.take_of_length_le (by simp [Big.bd_length])] at hB
      have HBB := Lib.hid hB
      clear hB
      go_wp2
      go_ret
      refine ⟨_, rfl, ?_, HBel.out⟩
      rw [← btx_of HSZ.out]
      have hbl := Big.btext_length n I
      refine ⟨some ⟨w.heap.size, 0, none⟩, I, by rw [hbl]; rfl, by rw [hbl]; exact Nat.le_refl _, fun _ => ⟨w.heap.size, 0, rfl, HBB.out.lt, fun i hi => ?_, _, _, HBB.out⟩⟩
      rw [Nat.zero_add, ← Big.btext_get n I i hi]
      exact HBB.out.cell i (by rw [List.length_reverse, Big.bd_length, ← hbl]; exact hi)
end R
end Go.Proofs.YtepnghhgmjobjaaGreatDoor
namespace Go.Proofs.YtepnghhgmjobjaaGreatDoor
open Go Go.RowKit
namespace Ev
inductive Xe where
  | v (i : Nat)
  | c (n : Nat)
  | add (a b : Xe)
  | sub (a b : Xe)
  | mul (a b : Xe)
  | quo (a b : Xe)
  | gcd (a b : Xe)
def Xe.ev (ρ : Nat → Nat) : Xe → Nat
  | .v i => ρ i
  | .c n => n
  | .add a b => a.ev ρ + b.ev ρ
  | .sub a b => a.ev ρ - b.ev ρ
  | .mul a b => a.ev ρ * b.ev ρ
  | .quo a b => a.ev ρ / b.ev ρ
  | .gcd a b => Nat.gcd (a.ev ρ) (b.ev ρ)
noncomputable def Xe.beq : Xe → Xe → Bool := Xe.rec (motive := fun _ => Xe → Bool)
  (fun i y => match y with | .v j => Nat.beq i j | _ => false)
  (fun n y => match y with | .c m => Nat.beq n m | _ => false)
  (fun _ _ iha ihb y => match y with | .add a b => iha a && ihb b | _ => false)
  (fun _ _ iha ihb y => match y with | .sub a b => iha a && ihb b | _ => false)
  (fun _ _ iha ihb y => match y with | .mul a b => iha a && ihb b | _ => false)
  (fun _ _ iha ihb y => match y with | .quo a b => iha a && ihb b | _ => false)
  (fun _ _ iha ihb y => match y with | .gcd a b => iha a && ihb b | _ => false)
theorem Xe.beq_ok : ∀ (a b : Xe), a.beq b = true → a = b := by
  intro a
  induction a with
  | v i =>
    intro b h
    cases b with
    | v j => rw [Nat.eq_of_beq_eq_true (show Nat.beq i j = true from h)]
    | _ => exact absurd (show false = true from h) (by simp)
  | c n =>
    intro b h
    cases b with
    | c m => rw [Nat.eq_of_beq_eq_true (show Nat.beq n m = true from h)]
    | _ => exact absurd (show false = true from h) (by simp)
  | add a b iha ihb =>
    intro y h
    cases y with
    | add a' b' =>
      have h' : (a.beq a' && b.beq b') = true := h
      simp only [Bool.and_eq_true] at h'
      rw [iha _ h'.1, ihb _ h'.2]
    | _ => exact absurd (show false = true from h) (by simp)
  | sub a b iha ihb =>
    intro y h
    cases y with
    | sub a' b' =>
      have h' : (a.beq a' && b.beq b') = true := h
      simp only [Bool.and_eq_true] at h'
      rw [iha _ h'.1, ihb _ h'.2]
    | _ => exact absurd (show false = true from h) (by simp)
  | mul a b iha ihb =>
    intro y h
    cases y with
    | mul a' b' =>
      have h' : (a.beq a' && b.beq b') = true := h
      simp only [Bool.and_eq_true] at h'
      rw [iha _ h'.1, ihb _ h'.2]
    | _ => exact absurd (show false = true from h) (by simp)
  | quo a b iha ihb =>
    intro y h
    cases y with
    | quo a' b' =>
      have h' : (a.beq a' && b.beq b') = true := h
      simp only [Bool.and_eq_true] at h'
      rw [iha _ h'.1, ihb _ h'.2]
    | _ => exact absurd (show false = true from h) (by simp)
  | gcd a b iha ihb =>
    intro y h
    cases y with
    | gcd a' b' =>
      have h' : (a.beq a' && b.beq b') = true := h
      simp only [Bool.and_eq_true] at h'
      rw [iha _ h'.1, ihb _ h'.2]
    | _ => exact absurd (show false = true from h) (by simp)
noncomputable def Xe.bnd : Xe → Nat := Xe.rec (motive := fun _ => Nat)
  (fun _ => 262144)
  (fun n => Nat.succ (Nat.log2 n))
  (fun _ _ a b => Nat.succ (Nat.add a b))
  (fun _ _ a _ => a)
  (fun _ _ a b => Nat.add a b)
  (fun _ _ a _ => a)
  (fun _ _ a b => Nat.succ (Nat.add a b))
structure Bits (k n : Nat) : Prop where
  out : n < 2 ^ k
theorem Bits.up {k j n : Nat} (h : Bits k n) (hk : k ≤ j) : Bits j n := ⟨Nat.lt_of_lt_of_le h.out (Nat.pow_le_pow_right (by omega) hk)⟩
theorem Bits.le {k n m : Nat} (h : Bits k n) (hm : m ≤ n) : Bits k m := ⟨Nat.lt_of_le_of_lt hm h.out⟩
theorem Bits.add {k j n m : Nat} (h : Bits k n) (i : Bits j m) : Bits (k + j + 1) (n + m) := by
  have h1 := (h.up (show k ≤ k + j by omega)).out
  have h2 := (i.up (show j ≤ k + j by omega)).out
  refine ⟨?_⟩
  rw [Nat.pow_succ]
  generalize 2 ^ (k + j) = p at *
  omega
theorem Bits.mul {k j n m : Nat} (h : Bits k n) (i : Bits j m) : Bits (k + j) (n * m) := by
  refine ⟨?_⟩
  rw [Nat.pow_add]
  exact Nat.mul_lt_mul'' h.out i.out
theorem Bits.log (n : Nat) : Bits (Nat.succ (Nat.log2 n)) n := ⟨Nat.lt_log2_self⟩
theorem Bits.gcd {k j n m : Nat} (h : Bits k n) (i : Bits j m) : Bits (k + j + 1) (Nat.gcd n m) := by
  refine (h.add i).le ?_
  rcases Nat.eq_zero_or_pos n with h0 | h0
  · subst h0; rw [Nat.gcd_zero_left]; omega
  · have := Nat.gcd_le_left m h0; omega
theorem m32_pow (k : Nat) : R.M32 ^ k = 2 ^ (32 * k) := by rw [Nat.pow_mul]; rfl
theorem Bits.sml {k n : Nat} (h : Bits k n) (hk : k ≤ 100000000) : R.Sml n := by
  refine ⟨?_⟩
  rw [m32_pow]
  exact (h.up (show k ≤ 32 * Big.KL by have := Big.KL_eq; omega)).out
structure XEnv where
  q : Nat → Nat
  bit : ∀ i, Bits 262144 (q i)
theorem Xe.bits (ρ : XEnv) : ∀ e : Xe, Bits e.bnd (e.ev ρ.q) := by
  intro e
  induction e with
  | v i => exact ρ.bit i
  | c n => exact Bits.log n
  | add a b iha ihb => exact iha.add ihb
  | sub a b iha _ => exact iha.le (Nat.sub_le _ _)
  | mul a b iha ihb => exact iha.mul ihb
  | quo a b iha _ => exact iha.le (Nat.div_le_self _ _)
  | gcd a b iha ihb => exact iha.gcd ihb
noncomputable def xokB (e : Xe) : Bool := Nat.ble e.bnd 100000000
theorem xokB_sml {ρ : XEnv} {e : Xe} (h : xokB e = true) : R.Sml (e.ev ρ.q) := (e.bits ρ).sml (Nat.le_of_ble_eq_true h)
inductive Wf where
  | wd (e : Xe)
  | lp (e : Xe)
  | st (e : Xe)
  | sb
  | by_ (e : Xe)
  | sx (e : Xe)
  | ln (e : Xe)
  | iv (s : Bool) (e : Xe)
def BadS (s : ByteArray) : Prop := mayB s = false
def Wf.holds (ρ : XEnv) : Wf → World → Value → Prop
  | .wd e, w, v => R.Nin w v (e.ev ρ.q)
  | .lp e, _, v => ∃ k : Nat, v = .int .i64 (k : Int) ∧ (k = 0 ↔ e.ev ρ.q = 0)
  | .st e, _, v => v = .string (bst (e.ev ρ.q)) ∧ szN (e.ev ρ.q) ≤ 512
  | .sb, _, v => ∃ s, v = .string s ∧ BadS s
  | .by_ e, w, v => R.Bt w v (btx (e.ev ρ.q))
  | .sx e, _, v => v = .string (bst (e.ev ρ.q))
  | .ln e, _, v => v = .int .i64 (szN (e.ev ρ.q) : Nat)
  | .iv s e, _, v => v = .int .i64 (Big.sI s (e.ev ρ.q)) ∧ (s = true → 0 < e.ev ρ.q) ∧ e.ev ρ.q ≤ 9223372036854775808 ∧ (s = false → e.ev ρ.q < 9223372036854775808)
theorem Wf.one {ρ : XEnv} {f : Wf} {w : World} {v : Value} (h : f.holds ρ w v) : isOne v = true := by
  cases f with
  | wd e => exact nin_one h
  | lp e => obtain ⟨k, rfl, _⟩ := h; rfl
  | st e => rw [h.1]; rfl
  | sb => obtain ⟨s, rfl, _⟩ := h; rfl
  | by_ e => obtain ⟨A, c, rfl, _⟩ := h; rfl
  | sx e => rw [show v = _ from h]; rfl
  | ln e => rw [show v = _ from h]; rfl
  | iv s e => rw [h.1]; rfl
theorem bt_stable {l : List UInt8} {w w' : World} {v : Value} (h : R.Bt w v l) (hk : ∀ (b : Nat) (c : Array Value) (t : TypeId) (z : Nat × Nat), w.heap[b]? = some (.cells c t z) → Nat.beq t 5 = true → w'.heap[b]? = some (.cells c t z)) : R.Bt w' v l := by
  obtain ⟨A, c, e, h1, h3⟩ := h
  refine ⟨A, c, e, h1, fun hp => ?_⟩
  obtain ⟨b, o, ea, hlt, hc, cs, z, hcs⟩ := h3 hp
  have hcs' := hk b cs _ _ hcs (Nat.beq_refl _)
  refine ⟨b, o, ea, (Array.getElem?_eq_some_iff.1 hcs').1, fun i hi => ?_, cs, z, hcs'⟩
  rw [← hc i hi]
  exact World.cell?_of_block (hcs'.trans hcs.symm)
theorem nin_words {w : World} {v : Value} {n : Nat} (h : R.Nin w v n) : ∃ a k c, v = .slice a k c ∧ (k = 0 ↔ n = 0) := by
  obtain ⟨l, ⟨A, c, e, -, -, -⟩, ol, nl, rfl⟩ := h
  refine ⟨A, l.length, c, e, fun h => ?_, fun h => ?_⟩
  · rw [List.length_eq_zero_iff.1 h]; rfl
  · rw [Big.norm_zero R.M32_pos l nl h]; rfl
noncomputable def wHid (t : TypeId) : Bool := Nat.beq t 227 || Nat.beq t 5
noncomputable def wSig (ρ : XEnv) : Sig Wf where
  holds := Wf.holds ρ
  hid := wHid
  G := natSig.G
  base := natSig.base
  baseS := natSig.baseS
  stable := fun f _ _ _ h hk => by
    have hw := fun (b : Nat) (c : Array Value) (t : TypeId) (z : Nat × Nat) h1 (h2 : Nat.beq t 227 = true) => hk b c t z h1 (by unfold wHid; rw [h2]; rfl)
    have hb := fun (b : Nat) (c : Array Value) (t : TypeId) (z : Nat × Nat) h1 (h2 : Nat.beq t 5 = true) => hk b c t z h1 (by unfold wHid; rw [h2, Bool.or_true])
    cases f with
    | wd e => exact R.nin_stable h hw
    | by_ e => exact bt_stable h hb
    | sx e => exact h
    | ln e => exact h
    | iv s e => exact h
    | lp e => exact h
    | st e => exact h
    | sb => exact h
structure Xs where
  k : Nat
  a : Xe
  b : Xe
  t : Bool
def Xs.holds (ρ : Nat → Nat) (x : Xs) : Prop := match x.k with
  | 1 => x.t = true ↔ x.a.ev ρ = 0
  | 2 => x.t = true ↔ x.a.ev ρ = x.b.ev ρ
  | 4 => x.t = true ↔ 512 < szN (x.a.ev ρ)
  | 7 => x.t = true ↔ x.a.ev ρ < 9223372036854775808
  | 8 => x.t = true ↔ x.a.ev ρ ≤ 9223372036854775808
  | _ => x.t = true ↔ x.a.ev ρ < x.b.ev ρ
def x0 : Xe := .c 0
noncomputable def askX (A : List Xs) (k : Nat) (a b : Xe) : Option Bool := List.rec (motive := fun _ => Option Bool) none
  (fun x _ ih => Bool.rec (motive := fun _ => Option Bool) ih (some x.t) (Nat.beq k x.k && (a.beq x.a && b.beq x.b))) A
theorem askX_ok {k : Nat} {a b : Xe} {t : Bool} : ∀ {A : List Xs}, askX A k a b = some t → ∃ x ∈ A, x.k = k ∧ x.a = a ∧ x.b = b ∧ x.t = t
  | [], h => by cases h
  | x :: A, h => by
    have h' : (Bool.rec (motive := fun _ => Option Bool) (askX A k a b) (some x.t) (Nat.beq k x.k && (a.beq x.a && b.beq x.b)) : Option Bool) = some t := h
    cases hb : (Nat.beq k x.k && (a.beq x.a && b.beq x.b)) with
    | false =>
      rw [hb] at h'
      obtain ⟨y, hy, r⟩ := askX_ok h'
      exact ⟨y, List.mem_cons_of_mem _ hy, r⟩
    | true =>
      rw [hb] at h'
      simp only [Bool.and_eq_true] at hb
      exact ⟨x, List.mem_cons_self, (Nat.eq_of_beq_eq_true hb.1).symm, (Xe.beq_ok _ _ hb.2.1).symm, (Xe.beq_ok _ _ hb.2.2).symm, Option.some.inj h'⟩
def AllX (ρ : XEnv) (A : List Xs) : Prop := ∀ x ∈ A, x.holds ρ.q
section
variable {ρ : XEnv} {A : List Xs} {a b : Xe} {t : Bool}
theorem askX_nought (hA : AllX ρ A) (h : askX A 1 a x0 = some t) : t = true ↔ a.ev ρ.q = 0 := by
  obtain ⟨x, hx, h1, rfl, _, rfl⟩ := askX_ok h
  have := hA x hx
  unfold Xs.holds at this
  rw [h1] at this
  exact this
theorem askX_same (hA : AllX ρ A) (h : askX A 2 a b = some t) : t = true ↔ a.ev ρ.q = b.ev ρ.q := by
  obtain ⟨x, hx, h1, rfl, rfl, rfl⟩ := askX_ok h
  have := hA x hx
  unfold Xs.holds at this
  rw [h1] at this
  exact this
theorem askX_long (hA : AllX ρ A) (h : askX A 4 a x0 = some t) : t = true ↔ 512 < szN (a.ev ρ.q) := by
  obtain ⟨x, hx, h1, rfl, _, rfl⟩ := askX_ok h
  have := hA x hx
  unfold Xs.holds at this
  rw [h1] at this
  exact this
theorem askX_less (hA : AllX ρ A) (h : askX A 3 a b = some t) : t = true ↔ a.ev ρ.q < b.ev ρ.q := by
  obtain ⟨x, hx, h1, rfl, rfl, rfl⟩ := askX_ok h
  have := hA x hx
  unfold Xs.holds at this
  rw [h1] at this
  exact this
end
end Ev
end Go.Proofs.YtepnghhgmjobjaaGreatDoor
namespace Go.Proofs.YtepnghhgmjobjaaGreatDoor
open Go Go.RowKit
namespace Ev
set_option maxRecDepth 100000
noncomputable def isZ (v : Value) : Bool := match v with
  | .int k m => match k with
    | .i64 => match m with
      | .ofNat j => Nat.beq j 0
      | _ => false
    | _ => false
  | _ => false
theorem isZ_ok {v : Value} (h : isZ v = true) : v = .int .i64 ((0 : Nat) : Int) := by
  unfold isZ at h
  split at h
  · split at h
    · split at h
      · rw [Nat.eq_of_beq_eq_true h]; rfl
      · cases h
    · cases h
  · cases h
noncomputable def wLen (a : Value) : M Wf Nxt := bind (fact a) fun x => match x with
  | .wd e => bind (newFact (.lp e)) fun v => val v
  | _ => fail
noncomputable def noughtA (op : BinOp) (t : Bool) : M Wf Nxt := match op with
  | .eql => val (.bool t)
  | .neq => val (.bool (!t))
  | .gtr => val (.bool (!t))
  | _ => fail
noncomputable def is512 (v : Value) : Bool := match v with
  | .int k m => match k with
    | .i64 => match m with
      | .ofNat j => Nat.beq j 512
      | _ => false
    | _ => false
  | _ => false
theorem is512_ok {v : Value} (h : is512 v = true) : v = .int .i64 ((512 : Nat) : Int) := by
  unfold is512 at h
  split at h
  · split at h
    · split at h
      · rw [Nat.eq_of_beq_eq_true h]; rfl
      · cases h
    · cases h
  · cases h
noncomputable def gtrA (op : BinOp) (t : Bool) : M Wf Nxt := match op with
  | .gtr => val (.bool t)
  | _ => fail
noncomputable def wLong (A : List Xs) (op : BinOp) (a : Value) : M Wf Nxt := bind (fact a) fun x => match x with
  | .ln e => match askX A 4 e x0 with
    | some t => gtrA op t
    | none => fail
  | _ => fail
noncomputable def wNought (A : List Xs) (op : BinOp) (a : Value) : M Wf Nxt := bind (fact a) fun x => match x with
  | .lp e => match askX A 1 e x0 with
    | some t => noughtA op t
    | none => fail
  | _ => fail
noncomputable def wCmp (A : List Xs) (op : BinOp) (a b : Value) : M Wf Nxt := cond (isZ b) (wNought A op a) (cond (is512 b) (wLong A op a) fail)
noncomputable def wLenS (a : Value) : M Wf Nxt := bind (fact a) fun x => match x with
  | .sx e => bind (newFact (.ln e)) fun v => val v
  | _ => fail
noncomputable def wStr (a : Value) : M Wf Nxt := bind (fact a) fun x => match x with
  | .by_ e => bind (newFact (.sx e)) fun v => val v
  | _ => fail
noncomputable def isStrT (c : Call) : Bool := match c.argTypes[0]? with
  | some t => Nat.beq t 9
  | none => false
noncomputable def isSl (c : Call) : Bool := match (c.argTypes[0]?).bind (sliceT Tryz.prog) with
  | some _ => true
  | none => false
noncomputable def wHard (A : List Xs) (o : Oper) (vs : List Value) : M Wf Nxt := match o.op with
  | .binOp op _ _ _ _ => match vs with
    | [a, b] => wCmp A op a b
    | _ => fail
  | .call c => match c.callee with
    | .builtin b => match b with
      | .len => match vs with
        | [a] => cond (isSl c) (wLen a) (cond (isStrT c) (wLenS a) fail)
        | _ => fail
      | _ => fail
    | _ => fail
  | .convert src dst _ => match vs with
    | [a] => cond (Nat.beq src 166 && Nat.beq dst 9) (wStr a) fail
    | _ => fail
  | _ => fail
theorem loc_wLen (a : Value) : Loc (wLen a) := by
  unfold wLen
  refine loc_bind (loc_fact _) fun x => ?_
  split
  · exact loc_bind (loc_newFact _) fun _ => loc_val _
  · exact loc_fail
theorem loc_noughtA (op : BinOp) (t : Bool) : Loc (noughtA op t) := by
  unfold noughtA
  split <;> first | exact loc_val _ | exact loc_fail
theorem loc_gtrA (op : BinOp) (t : Bool) : Loc (gtrA op t) := by
  unfold gtrA
  split <;> first | exact loc_val _ | exact loc_fail
theorem loc_wNought (A : List Xs) (op : BinOp) (a : Value) : Loc (wNought A op a) := by
  unfold wNought
  refine loc_bind (loc_fact _) fun x => ?_
  split
  · split
    · exact loc_noughtA _ _
    · exact loc_fail
  · exact loc_fail
theorem loc_wLong (A : List Xs) (op : BinOp) (a : Value) : Loc (wLong A op a) := by
  unfold wLong
  refine loc_bind (loc_fact _) fun x => ?_
  split
  · split
    · exact loc_gtrA _ _
    · exact loc_fail
  · exact loc_fail
theorem loc_wCmp (A : List Xs) (op : BinOp) (a b : Value) : Loc (wCmp A op a b) := loc_cond (loc_wNought _ _ _) (loc_cond (loc_wLong _ _ _) loc_fail)
theorem loc_wLenS (a : Value) : Loc (wLenS a) := by
  unfold wLenS
  refine loc_bind (loc_fact _) fun x => ?_
  split
  · exact loc_bind (loc_newFact _) fun _ => loc_val _
  · exact loc_fail
theorem loc_wStr (a : Value) : Loc (wStr a) := by
  unfold wStr
  refine loc_bind (loc_fact _) fun x => ?_
  split
  · exact loc_bind (loc_newFact _) fun _ => loc_val _
  · exact loc_fail
theorem loc_wHard (A : List Xs) (o : Oper) (vs : List Value) : Loc (wHard A o vs) := by
  unfold wHard
  (repeat' split) <;> first | exact loc_fail | exact loc_wCmp _ _ _ _ | exact loc_cond (loc_wLen _) (loc_cond (loc_wLenS _) loc_fail) | exact loc_cond (loc_wStr _) loc_fail
theorem push_all (l : List UInt8) : ∀ s : ByteArray, (l.map fun b => ((b.toNat : Nat) : Int)).foldl (fun r n => r.push (UInt8.ofNat n.toNat)) s = ⟨s.data ++ l.toArray⟩ := by
  induction l with
  | nil => intro s; simp
  | cons b l ih =>
    intro s
    rw [List.map_cons, List.foldl_cons, ih]
    have : UInt8.ofNat ((b.toNat : Nat) : Int).toNat = b := by simp
    rw [this]
    simp [ByteArray.push]
theorem bt_convert {w : World} {v : Value} {n : Nat} (h : R.Bt w v (btx n)) : (convert 166 9 v).run Tryz.prog w = .ok (.string (bst n)) w := by
  obtain ⟨A, c, rfl, -, h3⟩ := h
  rw [run_convert_bytes_string w 166 9 5 A _ c Tryz.underlying166 Tryz.underlying5 Tryz.underlying9]
  rcases Nat.eq_zero_or_pos (btx n).length with h0 | h0
  · have hnil := List.eq_nil_of_length_eq_zero h0
    have hb : bst n = ⟨#[]⟩ := by unfold bst; rw [hnil]
    rw [hb, hnil]
    cases A with
    | none => simp [Conv.bytesToString, Sem.run_pure]; rfl
    | some a =>
      rw [run_bytesToString w a _ c [] (by simpa using run_loadCells_list (P := Tryz.prog) (w := w) a [] (fun j v h => by simp at h))]
      rfl
  · obtain ⟨b, o, rfl, hlt, hc, -⟩ := h3 h0
    have := run_loadCells_list (P := Tryz.prog) (w := w) ⟨b, o, none⟩ ((btx n).map fun x => Value.int .u8 ((x.toNat : Nat) : Int)) (fun j v hv => by
      rw [List.getElem?_map] at hv
      obtain ⟨x, hx, rfl⟩ := Option.map_eq_some_iff.1 hv
      obtain ⟨hj, rfl⟩ := List.getElem?_eq_some_iff.1 hx
      have hcj := hc j hj
      unfold Addr.add
      split
      · rename_i hj0; subst hj0; exact hcj
      · exact hcj)
    rw [run_bytesToString w ⟨b, o, none⟩ _ c ((btx n).map fun x => ((x.toNat : Nat) : Int)) (by
      simpa [List.map_map, Function.comp_def] using this), push_all]
    unfold bst
    simp [ByteArray.empty, ByteArray.emptyWithCapacity]
    try rfl
section
variable {ρ : XEnv} {A : List Xs} {h h' : Tr (Blk Wf)} {nx nx' : Nat} {R W : List Nat} {r : Ren} {w : World}
theorem wval_fact {f : Wf} {x : Nxt} {v' : Value} (e : (bind (newFact f) fun v => val v : M Wf Nxt) h nx = .ok x h' nx' R W) (hM : Mod (wSig ρ) r h.get w) (hN : New r nx nx') (hv : f.holds ρ w v') (ho : isOne v' = true) :
    nx ≤ nx' ∧ ∃ v r', x = .val v ∧ VR r' v v' ∧ Ext (wSig ρ) r w nx nx' W h'.get r' w := by
  obtain ⟨v, h0, nx0, R0, W0, R1, W1, e0, e1, rfl, rfl⟩ := bind_ok e
  obtain ⟨rfl, rfl, rfl, rfl⟩ := val_ok e1
  obtain ⟨i, h2, nx2, R2, W2, R3, W3, e2, e3, rfl, rfl⟩ := bind_ok e0
  obtain ⟨rfl, rfl, rfl, rfl⟩ := ret_ok e3
  unfold fresh at e2
  cases e2
  obtain ⟨r', hX, hr⟩ := ext_fact (S := wSig ρ) (f := f) hM (Below.refl _ w) hN hv ho
  exact ⟨Nat.le_succ _, _, r', rfl, .opq hr ho, by simpa using hX.congr fun n => .inr (Tr.get_set _ _ _ _)⟩
theorem quick_nought {op : BinOp} {k : Nat} {t : Bool} {x : Nxt} (ht : t = decide (k = 0)) (e : noughtA op t h nx = .ok x h' nx' R W) :
    h' = h ∧ nx' = nx ∧ W = [] ∧ ∃ v, x = .val v ∧ plain v = true ∧ quickB Tryz.prog op (.int .i64 (k : Int)) (.int .i64 ((0 : Nat) : Int)) = some v := by
  subst ht
  unfold noughtA at e
  cases op <;> first | (cases (show (fail : M Wf Nxt) h nx = _ from e); done) | skip
  all_goals
    obtain ⟨rfl, rfl, rfl, rfl⟩ := val_ok e
    refine ⟨rfl, rfl, rfl, _, rfl, rfl, ?_⟩
    rcases Nat.eq_zero_or_pos k with h0 | h0
    · subst h0; rfl
    · obtain ⟨m, rfl⟩ : ∃ m, k = m + 1 := ⟨k - 1, by omega⟩
      simp [quickB, intO]
      try omega
theorem wHard_ok (hA : AllX ρ A) {C : Cfg Wf} (hC : C.hard = wHard A) : HardOK (wSig ρ) Tryz.prog C := by
  intro o vs h nx x h' nx' R W hs e r w ρo hM hN hv
  rw [hC] at e
  unfold wHard at e
  cases hop : o.op with
  | binOp op t p q yt =>
    rw [hop] at e
    simp only at e
    have hops : o.op.operands.toList.map ρo = [ρo p, ρo q] := by rw [hop]; rfl
    rw [hops] at hv
    rcases vs with _ | ⟨u, _ | ⟨v, _ | ⟨z, l⟩⟩⟩ <;> first | (cases (show (fail : M Wf Nxt) h nx = _ from e); done) | skip
    cases hv with
    | cons hu hv => cases hv with
      | cons hv hn =>
        have e0 : wCmp A op u v h nx = .ok x h' nx' R W := e
        clear e
        unfold wCmp at e0
        cases hk : isZ v with
        | true =>
          rw [hk] at e0
          have hb := isZ_ok hk
          subst hb
          have hb' : ρo q = .int .i64 (0 : Nat) := hv.eq_of_plain rfl
          have e0 : wNought A op u h nx = .ok x h' nx' R W := e0
          unfold wNought at e0
          obtain ⟨f, h1, nx1, R1, W1, R2, W2, e2, e3, rfl, rfl⟩ := bind_ok e0
          obtain ⟨rfl, rfl, rfl, hh⟩ := fact_ok e2 hu hM
          cases f with
          | lp e0 =>
            simp only at e3
            cases ha : askX A 1 e0 x0 with
            | none => rw [ha] at e3; cases (show (fail : M Wf Nxt) _ _ = _ from e3)
            | some t0 =>
              rw [ha] at e3
              simp only at e3
              obtain ⟨k, hkv, hk0⟩ := hh
              have ht : t0 = decide (k = 0) := by
                have := askX_nought hA ha
                rw [← hk0] at this
                cases t0 with
                | true => rw [decide_eq_true (this.1 rfl)]
                | false => rw [decide_eq_false (fun h => by cases this.2 h)]
              obtain ⟨rfl, rfl, rfl, v, rfl, hp, hq⟩ := quick_nought ht e3
              refine ⟨Nat.le_refl _, v, w, r, ?_, .same hp, Ext.refl _ _ hM⟩
              simp only [execOp, hop, hkv, hb']
              rw [Sem.run_bind, quickB_ok hq]
              rfl
          | _ => cases (show (fail : M Wf Nxt) _ _ = _ from e3)
        | false =>
          rw [hk] at e0
          obtain ⟨hk2, e1⟩ := cond_ok (show cond (is512 v) (wLong A op u) fail h nx = _ from e0)
          have hb := is512_ok hk2
          subst hb
          have hb' : ρo q = .int .i64 (512 : Nat) := hv.eq_of_plain rfl
          unfold wLong at e1
          obtain ⟨f, h1, nx1, R1, W1, R2, W2, e2, e3, rfl, rfl⟩ := bind_ok e1
          obtain ⟨rfl, rfl, rfl, hh⟩ := fact_ok e2 hu hM
          cases f with
          | ln e0 =>
            simp only at e3
            cases ha : askX A 4 e0 x0 with
            | none => rw [ha] at e3; cases (show (fail : M Wf Nxt) _ _ = _ from e3)
            | some t0 =>
              rw [ha] at e3
              have hkv : ρo p = .int .i64 (szN (e0.ev ρ.q) : Nat) := hh
              have ht := askX_long hA ha
              generalize szN (e0.ev ρ.q) = k at hkv ht
              have e4 : gtrA op t0 h1 nx1 = .ok x h' nx' R2 W2 := e3
              unfold gtrA at e4
              cases op <;> first | (cases (show (fail : M Wf Nxt) _ _ = _ from e4); done) | skip
              obtain ⟨rfl, rfl, rfl, rfl⟩ := val_ok e4
              refine ⟨Nat.le_refl _, _, w, r, ?_, .same rfl, Ext.refl _ _ hM⟩
              have hd : decide (512 < k) = t0 := by
                cases t0 with
                | true => exact decide_eq_true (ht.1 rfl)
                | false => exact decide_eq_false (fun h => by cases ht.2 h)
              simp only [execOp, hop, hkv, hb']
              rw [Sem.run_bind, quickB_ok (z := .bool t0) (by
                rw [← hd]
                simp [quickB, intO]
                try omega)]
              rfl
          | _ => cases (show (fail : M Wf Nxt) _ _ = _ from e3)
  | call c =>
    rw [hop] at e
    obtain ⟨callee, args, ats⟩ := c
    cases callee with
    | builtin b =>
      simp only at e
      cases b <;> first | (cases (show (fail : M Wf Nxt) h nx = _ from e); done) | skip
      simp only at e
      have hops : o.op.operands.toList.map ρo = args.toList.map ρo := by rw [hop]; simp [Op.operands, Call.operands]
      rw [hops] at hv
      rcases vs with _ | ⟨u, _ | ⟨z, l⟩⟩ <;> first | (cases (show (fail : M Wf Nxt) h nx = _ from e); done) | skip
      generalize hl : args.toList.map ρo = al at hv
      cases hv with
      | cons hu hv =>
        cases hv
        rename_i u'
        have hargs : args.map ρo = #[u'] := by rw [map_list, hl]
        cases hsl : isSl ⟨.builtin .len, args, ats⟩ with
        | true =>
          rw [hsl] at e
          have e1 : wLen u h nx = .ok x h' nx' R W := e
          unfold wLen at e1
          obtain ⟨f, h1, nx1, R1, W1, R2, W2, e2, e3, rfl, rfl⟩ := bind_ok e1
          obtain ⟨rfl, rfl, rfl, hh⟩ := fact_ok e2 hu hM
          cases f with
          | wd e0 =>
            simp only at e3
            obtain ⟨a, k, c, rfl, hk0⟩ := nin_words hh
            obtain ⟨hle, v1, r', rfl, hvr, hX⟩ := wval_fact e3 hM hN (v' := .int .i64 (k : Nat)) ⟨k, rfl, hk0⟩ rfl
            refine ⟨hle, _, w, r', ?_, hvr, by simpa using hX⟩
            unfold isSl at hsl
            cases hq : (ats[0]?).bind (sliceT Tryz.prog) with
            | none => rw [hq] at hsl; cases hsl
            | some e2 =>
              obtain ⟨t, ht, hsl2⟩ := Option.bind_eq_some_iff.1 hq
              have hu := run_underlying (sliceT_of hsl2) w
              simp [execOp, hop, resolve, hargs, invoke, builtin, Builtin.len_, ht, hu, goInt]
          | _ => cases (show (fail : M Wf Nxt) _ _ = _ from e3)
        | false =>
          rw [hsl] at e
          obtain ⟨hst, e1⟩ := cond_ok (show cond (isStrT ⟨.builtin .len, args, ats⟩) (wLenS u) fail h nx = _ from e)
          unfold wLenS at e1
          obtain ⟨f, h1, nx1, R1, W1, R2, W2, e2, e3, rfl, rfl⟩ := bind_ok e1
          obtain ⟨rfl, rfl, rfl, hh⟩ := fact_ok e2 hu hM
          cases f with
          | sx e0 =>
            simp only at e3
            obtain rfl : u' = .string (bst (e0.ev ρ.q)) := hh
            obtain ⟨hle, v1, r', rfl, hvr, hX⟩ := wval_fact (f := .ln e0) e3 hM hN (v' := .int .i64 (szN (e0.ev ρ.q) : Nat)) rfl rfl
            refine ⟨hle, _, w, r', ?_, hvr, by simpa using hX⟩
            unfold isStrT at hst
            cases ht : ats[0]? with
            | none => simp only [ht] at hst; cases hst
            | some t =>
              simp only [ht] at hst
              obtain rfl := Nat.eq_of_beq_eq_true hst
              have hu := run_underlying (P := Tryz.prog) Tryz.underlying9 w
              simp [execOp, hop, resolve, hargs, invoke, builtin, Builtin.len_, ht, hu, goInt, bst_size]
          | _ => cases (show (fail : M Wf Nxt) _ _ = _ from e3)
    | _ => cases (show (fail : M Wf Nxt) h nx = _ from e)
  | convert src dst p =>
    rw [hop] at e
    simp only at e
    have hops : o.op.operands.toList.map ρo = [ρo p] := by rw [hop]; rfl
    rw [hops] at hv
    rcases vs with _ | ⟨u, _ | ⟨z, l⟩⟩ <;> first | (cases (show (fail : M Wf Nxt) h nx = _ from e); done) | skip
    cases hv with
    | cons hu hv =>
      obtain ⟨hk, e1⟩ := cond_ok e
      simp only [Bool.and_eq_true] at hk
      obtain rfl := Nat.eq_of_beq_eq_true hk.1
      obtain rfl := Nat.eq_of_beq_eq_true hk.2
      unfold wStr at e1
      obtain ⟨f, h1, nx1, R1, W1, R2, W2, e2, e3, rfl, rfl⟩ := bind_ok e1
      obtain ⟨rfl, rfl, rfl, hh⟩ := fact_ok e2 hu hM
      cases f with
      | by_ e0 =>
        simp only at e3
        obtain ⟨hle, v1, r', rfl, hvr, hX⟩ := wval_fact (f := .sx e0) e3 hM hN (v' := .string (bst (e0.ev ρ.q))) rfl rfl
        refine ⟨hle, _, w, r', ?_, hvr, by simpa using hX⟩
        simp only [execOp, hop]
        rw [Sem.run_bind, bt_convert (w := w) (v := ρo p) (n := e0.ev ρ.q) hh]
        rfl
      | _ => cases (show (fail : M Wf Nxt) _ _ = _ from e3)
  | _ => rw [hop] at e; cases (show (fail : M Wf Nxt) h nx = _ from e)
end
end Ev
end Go.Proofs.YtepnghhgmjobjaaGreatDoor
