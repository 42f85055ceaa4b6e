/- The statement TurnParts: whatever k and n are, the point at k parts of a turn of 2^n and its disc are the document's own, bit by bit, errors too: it answers true. No condition. -/
import Derived.Test.YtepnghhgmjobjaaTq17
import Derived.Laws.StructEq
import Derived.BigQuiet
import Derived.Test.YtepnghhgmjobjaaRows
import Derived.Test.YtepnghhgmjobjaaChecked
import Derived.WalkKit
import Derived.ProofKit
import Derived.OpenShut
import Derived.ChangeSame
import Derived.ChangeVars
import Derived.JoinedOf
import Derived.Stop.Joined
import Derived.HandedShaped
namespace Go.Proofs.Ytepnghhgmjobjaa
open Go Go.RowKit
namespace Ev
section
variable {ρ : Env} {A : List As}
end
end Ev
end Go.Proofs.Ytepnghhgmjobjaa
namespace Go.Proofs.Ytepnghhgmjobjaa
open Go Go.RowKit
namespace Ev
inductive D1 (F : Type) where
  | p (v : Value)
  | f (x : F)
inductive D2 (F : Type) where
  | one (d : D1 F)
  | agg (l : List (D1 F))
inductive D3 (F : Type) where
  | one (d : D2 F)
  | tuple (l : List (D2 F))
section
variable {F : Type}
def D1.is (S : Sig F) (w : World) : D1 F → Value → Prop
  | .p u, v => v = u
  | .f x, v => S.holds x w v
def D1.all (S : Sig F) (w : World) : List (D1 F) → List Value → Prop
  | [], l => l = []
  | d :: ds, l => ∃ v vs, l = v :: vs ∧ d.is S w v ∧ D1.all S w ds vs
def D2.is (S : Sig F) (w : World) : D2 F → Value → Prop
  | .one d, v => d.is S w v
  | .agg ds, v => ∃ vs, v = .agg ⟨vs⟩ ∧ D1.all S w ds vs
def D2.all (S : Sig F) (w : World) : List (D2 F) → List Value → Prop
  | [], l => l = []
  | d :: ds, l => ∃ v vs, l = v :: vs ∧ d.is S w v ∧ D2.all S w ds vs
def D3.is (S : Sig F) (w : World) : D3 F → Value → Prop
  | .one d, v => d.is S w v
  | .tuple ds, v => ∃ vs, v = .tuple ⟨vs⟩ ∧ D2.all S w ds vs
noncomputable def isChan : Value → Option Nat
  | .chan i => i
  | _ => none
noncomputable def see1 (h : Tr (Blk F)) (v : Value) : Option (D1 F) := match isChan v with
  | some i => match h.get i with
    | some b => match b with
      | .fact f => some (.f f)
      | .cells _ _ => none
    | none => none
  | none => cond (plain v) (some (.p v)) none
noncomputable def consO {α : Type} (a : Option α) (b : Option (List α)) : Option (List α) := match a with
  | some d => match b with
    | some ds => some (d :: ds)
    | none => none
  | none => none
noncomputable def seeL {α : Type} (s : Value → Option α) (l : List Value) : Option (List α) := List.rec (motive := fun _ => Option (List α)) (some []) (fun v _ ih => consO (s v) ih) l
noncomputable def see2 (h : Tr (Blk F)) (v : Value) : Option (D2 F) := match v with
  | .agg cs => (seeL (see1 h) cs.toList).map .agg
  | v => (see1 h v).map .one
noncomputable def see3 (h : Tr (Blk F)) (v : Value) : Option (D3 F) := match v with
  | .tuple cs => (seeL (see2 h) cs.toList).map .tuple
  | v => (see2 h v).map .one
variable {S : Sig F} {r : Ren} {h : Tr (Blk F)} {w : World}
inductive Lay where
  | p (v : Value)
  | one
  | agg (k : Nat)
noncomputable def split (l : List Lay) : List Value → List Value := List.rec (motive := fun _ => List Value → List Value) (fun _ => []) (fun x _ ih vs => match x with
  | .p v => v :: ih vs
  | .one => vs.headD undef :: ih vs.tail
  | .agg k => .agg ⟨vs.take k⟩ :: ih (vs.drop k)) l
noncomputable def tells (fs : List F) (ls : List Lay) (m : List Value → M F Value) : Option (D3 F) := match newFacts fs .nil 100000 with
  | .no => none
  | .ok vs h1 nx1 _ _ => match m (split ls vs) h1 nx1 with
    | .no => none
    | .ok a h2 _ _ W => cond (geAll nx1 W) (see3 h2 a) none
end
noncomputable def symCfg (hd : Oper → List Value → M Sy Nxt) : Cfg Sy where
  hid := symHid
  G := natCfg.G
  tab := natCfg.tab
  len := symLen
  hard := hd
end Ev
end Go.Proofs.Ytepnghhgmjobjaa
namespace Go.Proofs.Ytepnghhgmjobjaa
open Go Go.RowKit
namespace Ev
noncomputable def symC : Cfg Sy := symCfg (fun _ _ => fail)
instance symCHard : HardLoc symC := ⟨fun _ _ => loc_fail⟩
noncomputable def frs (e : Qe) : List Sy := [.ng e, .fn e, .fd e]
noncomputable def rws (i : Nat) : List Sy := [.rg i, .rn i, .rd i]
noncomputable def inp (b : Bool) (i : Nat) : List Sy := cond b (frs (.v i)) (rws i)
noncomputable def inp4 (a b c d : Bool) : List Sy := inp a 0 ++ (inp b 1 ++ (inp c 2 ++ inp d 3))
noncomputable def v0 : Qe := .v 0
noncomputable def v1 : Qe := .v 1
noncomputable def v2 : Qe := .v 2
noncomputable def v3 : Qe := .v 3
noncomputable def fits (e f : Qe) (s t : Bool) : List As := [⟨0, e, z0, s⟩, ⟨0, f, z0, t⟩]
set_option maxRecDepth 100000
end Ev
end Go.Proofs.Ytepnghhgmjobjaa
namespace Go.Proofs.Ytepnghhgmjobjaa
open Go Go.RowKit
namespace Ev
abbrev Tri := Bool × ByteArray × ByteArray
def tri (q : Rat) : Tri := (Big.ng q, bst (Big.nu q), bst (Big.de q))
def cel (x : Tri) : List Value := [.bool x.1, .string x.2.1, .string x.2.2]
section
variable {ρ : Env} {w : World} {v : Value}
end
theorem holdsL_append {F : Type} {S : Sig F} {w : World} : ∀ {l l' : List F} {us us' : List Value}, HoldsL S w l us → HoldsL S w l' us' → HoldsL S w (l ++ l') (us ++ us')
  | [], l', us, us', h, h' => by
    obtain rfl : us = [] := h
    exact h'
  | f :: l, l', us, us', h, h' => by
    obtain ⟨u, vs, rfl, h1, h2, h3⟩ := h
    exact ⟨u, vs ++ us', rfl, h1, h2, holdsL_append h3 h'⟩
def pick {α : Type} (a b c d : α) : Nat → α
  | 0 => a
  | 1 => b
  | 2 => c
  | _ => d
theorem inp_holds {ρ : Env} {w : World} {b : Bool} {i : Nat} {x : Tri} (h1 : b = true → x = tri (ρ.q i)) (h2 : b = false → x = ρ.raw i) : HoldsL (symSig ρ) w (inp b i) (cel x) := by
  cases b with
  | true =>
    rw [h1 rfl]
    exact frac_holds (w := w) (.v i)
  | false =>
    rw [h2 rfl]
    exact ⟨_, _, rfl, rfl, rfl, _, _, rfl, rfl, rfl, _, _, rfl, rfl, rfl, rfl⟩
structure In4 (x y z u : Tri) where
  ρ : Env
  a : Bool
  b : Bool
  c : Bool
  d : Bool
  hx : (a = true → x = tri (ρ.q 0)) ∧ (a = false → x = ρ.raw 0)
  hy : (b = true → y = tri (ρ.q 1)) ∧ (b = false → y = ρ.raw 1)
  hz : (c = true → z = tri (ρ.q 2)) ∧ (c = false → z = ρ.raw 2)
  hu : (d = true → u = tri (ρ.q 3)) ∧ (d = false → u = ρ.raw 3)
theorem In4.holds {x y z u : Tri} (i : In4 x y z u) (w : World) : HoldsL (symSig i.ρ) w (inp4 i.a i.b i.c i.d) (cel x ++ (cel y ++ (cel z ++ cel u))) :=
  holdsL_append (inp_holds i.hx.1 i.hx.2) (holdsL_append (inp_holds i.hy.1 i.hy.2) (holdsL_append (inp_holds i.hz.1 i.hz.2) (inp_holds i.hu.1 i.hu.2)))
end Ev
end Go.Proofs.Ytepnghhgmjobjaa
namespace Go.Proofs.Ytepnghhgmjobjaa
open Go Go.RowKit
namespace Ev
noncomputable def three (a b : Option Bool) : Option Bool := match a with
  | some x => cond x b (some false)
  | none => match b with
    | some y => cond y none (some false)
    | none => none
noncomputable def sameO (A : List As) (l m : List Value) (o p : Option Qe) : Option Bool := match o with
  | some e => match p with
    | some f => cond (e.beq f) (some true) (ask A 2 e f)
    | none => match fitB A e with
      | some t => cond t (some false) none
      | none => none
  | none => match p with
    | some f => match fitB A f with
      | some t => cond t (some false) none
      | none => none
    | none => cond (eqL eq1 l m && plainL plain l) (some true) none
noncomputable def eq3 (A : List As) (l m : List Value) : M Sy (Option Bool) := bind (frcV l) fun o => bind (frcV m) fun p => ret (sameO A l m o p)
noncomputable def ansEq (op : BinOp) (b : Option Bool) : M Sy Nxt := match b with
  | some b => match op with
    | .eql => val (.bool b)
    | .neq => val (.bool (!b))
    | _ => fail
  | none => fail
noncomputable def eqCells (A : List As) (op : BinOp) (t : TypeId) (l m : List Value) : M Sy Nxt :=
  cond (Nat.beq t 26) (bind (eq3 A l m) (ansEq op))
    (cond (Nat.beq t 29) (bind (eq3 A (l.take 3) (m.take 3)) fun b => bind (eq3 A (l.drop 3) (m.drop 3)) fun c => ansEq op (three b c)) fail)
noncomputable def eqHard (A : List As) (o : Oper) (vs : List Value) : M Sy Nxt := match o.op with
  | .binOp op t _ _ _ => match vs with
    | [u, v] => match u with
      | .agg cs => match v with
        | .agg ds => eqCells A op t cs.toList ds.toList
        | _ => fail
      | _ => fail
    | _ => fail
  | _ => fail
theorem loc_eq3 (A : List As) (l m : List Value) : Loc (eq3 A l m) := loc_bind (loc_frcV _) fun _ => loc_bind (loc_frcV _) fun _ => loc_ret _
theorem loc_ansEq (op : BinOp) (b : Option Bool) : Loc (ansEq op b) := by
  unfold ansEq
  (repeat' split) <;> first | exact loc_val _ | exact loc_fail
theorem loc_eqHard (A : List As) (o : Oper) (vs : List Value) : Loc (eqHard A o vs) := by
  unfold eqHard
  (repeat' split) <;> first
    | exact loc_fail
    | exact loc_cond (loc_bind (loc_eq3 _ _ _) fun _ => loc_ansEq _ _) (loc_cond (loc_bind (loc_eq3 _ _ _) fun _ => loc_bind (loc_eq3 _ _ _) fun _ => loc_ansEq _ _) loc_fail)
section
variable {ρ : Env} {A : List As} {h h' : Tr (Blk Sy)} {nx nx' : Nat} {R W : List Nat} {r : Ren} {w : World}
end
end Ev
end Go.Proofs.Ytepnghhgmjobjaa
namespace Go.Proofs.Ytepnghhgmjobjaa
open Go Go.RowKit
namespace Ev
structure Ps where
  a : Qe
  b : Qe
  t : Bool
def Ps.holds (ρ : Nat → Rat) (x : Ps) : Prop := x.t = true ↔ (Fit (x.a.ev ρ) ∧ Fit (x.b.ev ρ))
noncomputable def both (o p : Option Qe) : Option (Qe × Qe) := match o with
  | some e => match p with
    | some f => some (e, f)
    | none => none
  | none => none
section
variable {ρ : Env} {A : List As} {B : List Ps} {h h' : Tr (Blk Sy)} {nx nx' : Nat} {R W : List Nat} {r : Ren} {w : World}
end
end Ev
end Go.Proofs.Ytepnghhgmjobjaa
namespace Go.Proofs.Ytepnghhgmjobjaa
open Go Go.RowKit
namespace Ev
set_option maxRecDepth 100000
noncomputable def kAdd (x y : Qe × Qe) : Qe × Qe := (.add x.1 y.1, .add x.2 y.2)
noncomputable def kSub (x y : Qe × Qe) : Qe × Qe := (.sub x.1 y.1, .sub x.2 y.2)
noncomputable def kMul (x y : Qe × Qe) : Qe × Qe := (.sub (.mul x.1 y.1) (.mul x.2 y.2), .add (.mul x.1 y.2) (.mul x.2 y.1))
section
variable {ρ : Env} {A : List As} {B : List Ps}
end
end Ev
end Go.Proofs.Ytepnghhgmjobjaa
namespace Go.Proofs.Ytepnghhgmjobjaa
open Go Go.RowKit
namespace Ev
set_option maxRecDepth 100000
noncomputable def nrm (x : Qe × Qe) : Qe := .add (.mul x.1 x.1) (.mul x.2 x.2)
noncomputable def w0 : Qe × Qe := (v0, v1)
noncomputable def w1 : Qe × Qe := (v2, v3)
noncomputable def kQuo (x y : Qe × Qe) : Qe × Qe := (.quo (.sub (.mul x.1 y.1) (.mul x.2 (.neg y.2))) (nrm y), .quo (.add (.mul x.1 (.neg y.2)) (.mul x.2 y.1)) (nrm y))
section
variable {ρ : Env} {w : World} {v : Value}
end
end Ev
end Go.Proofs.Ytepnghhgmjobjaa
namespace Go.Proofs.Ytepnghhgmjobjaa
open Go Go.RowKit
namespace Ev
set_option maxRecDepth 100000
noncomputable def lawC (A : List As) : Cfg Sy := symCfg (eqHard A)
instance lawHard (A : List As) : HardLoc (lawC A) := ⟨loc_eqHard A⟩
noncomputable def inp6 (a b c d e f : Bool) : List Sy := inp a 0 ++ (inp b 1 ++ (inp c 2 ++ (inp d 3 ++ (inp e 4 ++ inp f 5))))
noncomputable def lx : Qe × Qe := (.v 0, .v 1)
noncomputable def ly : Qe × Qe := (.v 2, .v 3)
noncomputable def lz : Qe × Qe := (.v 4, .v 5)
noncomputable def pr (p : Qe × Qe) (t : Bool) : Ps := ⟨p.1, p.2, t⟩
noncomputable def la : Qe × Qe := kAdd lx ly
noncomputable def ls : Qe × Qe := kMul la lz
noncomputable def lt : Qe × Qe := kMul lx lz
noncomputable def lu : Qe × Qe := kMul ly lz
noncomputable def lk : Qe × Qe := kSub la ly
end Ev
end Go.Proofs.Ytepnghhgmjobjaa
namespace Go.Proofs.Ytepnghhgmjobjaa
open Go Go.RowKit
namespace Ev
set_option maxRecDepth 100000
end Ev
end Go.Proofs.Ytepnghhgmjobjaa
namespace Go.Proofs.Ytepnghhgmjobjaa
open Go Go.RowKit
namespace Ev
structure In6 (x y z u s t : Tri) where
  ρ : Env
  a : Bool
  b : Bool
  c : Bool
  d : Bool
  e : Bool
  f : Bool
  hx : (a = true → x = tri (ρ.q 0)) ∧ (a = false → x = ρ.raw 0)
  hy : (b = true → y = tri (ρ.q 1)) ∧ (b = false → y = ρ.raw 1)
  hz : (c = true → z = tri (ρ.q 2)) ∧ (c = false → z = ρ.raw 2)
  hu : (d = true → u = tri (ρ.q 3)) ∧ (d = false → u = ρ.raw 3)
  hs : (e = true → s = tri (ρ.q 4)) ∧ (e = false → s = ρ.raw 4)
  ht : (f = true → t = tri (ρ.q 5)) ∧ (f = false → t = ρ.raw 5)
theorem In6.holds {x y z u s t : Tri} (i : In6 x y z u s t) (w : World) : HoldsL (symSig i.ρ) w (inp6 i.a i.b i.c i.d i.e i.f) (cel x ++ (cel y ++ (cel z ++ (cel u ++ (cel s ++ cel t))))) :=
  holdsL_append (inp_holds i.hx.1 i.hx.2) (holdsL_append (inp_holds i.hy.1 i.hy.2) (holdsL_append (inp_holds i.hz.1 i.hz.2) (holdsL_append (inp_holds i.hu.1 i.hu.2) (holdsL_append (inp_holds i.hs.1 i.hs.2) (inp_holds i.ht.1 i.ht.2)))))
end Ev
end Go.Proofs.Ytepnghhgmjobjaa
namespace Go.Proofs.Ytepnghhgmjobjaa
open Go Go.RowKit
namespace Ev
set_option maxRecDepth 100000
section
variable {ρ : Env} {A : List As} {B : List Ps} {h h' : Tr (Blk Sy)} {nx nx' : Nat} {R W : List Nat} {r : Ren} {w : World}
end
noncomputable def c0 : Qe := .c false 0 1
noncomputable def np : Qe × Qe := kMul lx ly
noncomputable def nm : Qe := nrm lx
noncomputable def nn : Qe := nrm ly
noncomputable def no : Qe := nrm np
noncomputable def nc : Qe × Qe := (.v 0, .neg (.v 1))
noncomputable def nq : Qe × Qe := kMul lx nc
noncomputable def nb : Qe × Qe := kQuo np ly
end Ev
end Go.Proofs.Ytepnghhgmjobjaa
namespace Go.Proofs.Ytepnghhgmjobjaa
open Go Go.RowKit
namespace Ev
set_option maxRecDepth 100000
end Ev
end Go.Proofs.Ytepnghhgmjobjaa
namespace Go.Proofs.Ytepnghhgmjobjaa
open Go Go.RowKit
namespace Ev
set_option maxRecDepth 100000
noncomputable def uc : Qe := .c false 1 1
section
variable {ρ : Env} {A : List As}
end
noncomputable def ovT (x y : Qe) (d g s : Bool) : List As := [⟨1, y, z0, d⟩, ⟨3, y, z0, g⟩, ⟨0, .quo x y, z0, s⟩]
noncomputable def sT (d g s : Bool) : List As := ovT (.add v0 v1) (.sub uc (.mul v0 v1)) d g s
section
variable {ρ : Env} {w : World} {v : Value}
end
section
variable {f : FuncId} {w : World} {S : List As → Sums Sy}
end
section
variable {w : World}
end
end Ev
end Go.Proofs.Ytepnghhgmjobjaa
namespace Go.Proofs.Ytepnghhgmjobjaa
open Go Go.RowKit
namespace Ev
set_option maxRecDepth 100000
section
variable {ρ : Env} {A : List As} {B : List Ps} {h h' : Tr (Blk Sy)} {nx nx' : Nat} {R W : List Nat} {r : Ren} {w : World}
end
noncomputable def works7 : Fact := ⟨14, [], .bool true⟩
theorem works7_ok : works7.ok := Fact.of_run (n := 60) (by kernel_rfl) rfl
end Ev
end Go.Proofs.Ytepnghhgmjobjaa
namespace Go.Proofs.Ytepnghhgmjobjaa
open Go Go.RowKit
namespace Tp
set_option maxRecDepth 100000
structure Four (k n : Int) (c d r : Nat) (e : Int) : Prop where
  p : ∀ w, Try.prog.globals.size ≤ w.heap.size → Calls Try.prog 15 #[.int .i64 k, .int .i64 n] w fun x w' => x = .returned (.tuple #[.complex .f64 c d, .int .i64 e]) ∧ Below w.heap.size w w'
  q : ∀ w, Try.prog.globals.size ≤ w.heap.size → Calls Try.prog 16 #[.int .i64 k, .int .i64 n] w fun x w' => x = .returned (.tuple #[.complex .f64 c d, .int .i64 e]) ∧ Below w.heap.size w w'
  s : ∀ w, Try.prog.globals.size ≤ w.heap.size → Calls Try.prog 18 #[.int .i64 k, .int .i64 n] w fun x w' => x = .returned (.tuple #[.agg #[.complex .f64 c d, .float .f64 r], .int .i64 e]) ∧ Below w.heap.size w w'
  t : ∀ w, Try.prog.globals.size ≤ w.heap.size → Calls Try.prog 19 #[.int .i64 k, .int .i64 n] w fun x w' => x = .returned (.tuple #[.agg #[.complex .f64 c d, .float .f64 r], .int .i64 e]) ∧ Below w.heap.size w w'
theorem four (k n : Int) (h0 : -9223372036854775808 ≤ k) (h1 : k ≤ 9223372036854775807) : ∃ c d r e, Four k n c d r e := by
  rcases (show n < 0 ∨ 16 < n ∨ (0 ≤ n ∧ n ≤ 16) by omega) with hn | hn | ⟨hn0, hn1⟩
  · exact ⟨0, 0, 0, 2, fun w _ => parts_err w k n 2 (by omega) (fun W => wayTo_low W k n hn), fun w _ => rparts_err w k n 2 (by omega) (fun W => may_low W n hn), fun w _ => disc_err w k n 2 (by omega) (fun W => wayTo_low W k n hn), fun w _ => rdisc_err w k n 2 (by omega) (fun W => may_low W n hn)⟩
  · exact ⟨0, 0, 0, 3, fun w _ => parts_err w k n 3 (by omega) (fun W => wayTo_high W k n hn), fun w _ => rparts_err w k n 3 (by omega) (fun W => may_high W n hn), fun w _ => disc_err w k n 3 (by omega) (fun W => wayTo_high W k n hn), fun w _ => rdisc_err w k n 3 (by omega) (fun W => may_high W n hn)⟩
  · obtain ⟨m, rfl⟩ : ∃ m : Nat, n = (m : Int) := ⟨n.toNat, by omega⟩
    have hm : m ≤ 16 := by omega
    have hj := jN_lt k m
    have hr := restOf_le (jN k m)
    have hq : jN k m / 16384 ≤ 3 := Nat.le_of_lt_succ (Nat.div_lt_of_lt_mul (show jN k m < 16384 * 4 from hj))
    have HW : ∀ W, Calls Try.prog 41 #[.int .i64 k, .int .i64 m] W (WayRes W ((jN k m / 16384 : Nat) : Int) ((restOf (jN k m) : Nat) : Int) (mirOf (jN k m)) 0) := fun W => wayTo_mid W k m hm
    have HAt := fun W (hG : Try.prog.globals.size ≤ W.heap.size) => at_any W k m hm h0 h1 hG
    have HM := fun W => may_mid W (m : Int) (by omega) (by omega)
    generalize jN k m / 16384 = q at *
    generalize restOf (jN k m) = rr at *
    generalize mirOf (jN k m) = mm at *
    have HP := fun W (hG : Try.prog.globals.size ≤ W.heap.size) => point_any W q rr mm hq hr hG
    have hz := pt_zero (m := mm) hq hr
    generalize ptC q mm (zOf rr) = z at *
    obtain ⟨c, d⟩ := z
    rcases hz with ⟨rfl, hz⟩ | ⟨hr0, hz1, hz2⟩
    · refine ⟨c, d, 0, 0, fun w hG => parts_ok w k m q 0 mm c d HW (fun W hb => HP W (Nat.le_trans hG hb.size)), fun w hG => rparts_ok w k m c d HM (fun W hb => HAt W (Nat.le_trans hG hb.size)), fun w hG => disc_zero w k m q mm c d HW (fun W hb => HP W (Nat.le_trans hG hb.size)), fun w hG => ?_⟩
      cases hc : isZ c with
      | true => exact rdisc_z1 w k m c d hc HM (fun W hb => HAt W (Nat.le_trans hG hb.size))
      | false =>
        have hd : isZ d = true := by
          have hz' : (isZ c || isZ d) = true := hz
          rwa [hc, Bool.false_or] at hz'
        exact rdisc_z2 w k m c d hc hd HM (fun W hb => HAt W (Nat.le_trans hG hb.size))
    · exact ⟨c, d, 4409024035195715584, 0, fun w hG => parts_ok w k m q rr mm c d HW (fun W hb => HP W (Nat.le_trans hG hb.size)), fun w hG => rparts_ok w k m c d HM (fun W hb => HAt W (Nat.le_trans hG hb.size)), fun w hG => disc_pos w k m q rr mm c d (by omega) HW (fun W hb => HP W (Nat.le_trans hG hb.size)), fun w hG => rdisc_pos w k m c d hz1 hz2 HM (fun W hb => HAt W (Nat.le_trans hG hb.size))⟩
end Tp
end Go.Proofs.Ytepnghhgmjobjaa
namespace Go.Proofs.Ytepnghhgmjobjaa
open Go Go.RowKit
namespace Tp
set_option maxRecDepth 100000
set_option maxHeartbeats 4000000 in
theorem turnParts_any (w : World) (k n : Int) (h0 : -9223372036854775808 ≤ k) (h1 : k ≤ 9223372036854775807) (_ : -9223372036854775808 ≤ n) (_ : n ≤ 9223372036854775807) (hG : Try.prog.globals.size ≤ w.heap.size) (_ : Tab w) :
    Calls Try.prog 4 #[.int .i64 k, .int .i64 n] w fun e w' => e = .returned (.bool true) ∧ Below w.heap.size w w' := by
  obtain ⟨c, d, r, x, F⟩ := four k n h0 h1
  have HB := Lib.hid (Below.refl w.heap.size w)
  have HS := Lib.hid (fun w => same_self c d w)
  have HR := Lib.hid (fun w => same3_self r w)
  have HW := Lib.hid (fun W (h : Below w.heap.size w W) => (Ev.works7_ok.2.2 W (Nat.le_trans hG h.size) trivial : Calls Try.prog 14 #[] W fun e w' => e = .returned (.bool true) ∧ Below W.heap.size W w'))
  have Hp := Lib.hid (F.p w hG)
  have Hq := Lib.hid (fun W (h : Below w.heap.size w W) => F.q W (Nat.le_trans hG h.size))
  have Hs := Lib.hid (fun W (h : Below w.heap.size w W) => F.s W (Nat.le_trans hG h.size))
  have Ht := Lib.hid (fun W (h : Below w.heap.size w W) => F.t W (Nat.le_trans hG h.size))
  clear h0 h1 hG F
  go_enter Try.func4, Try.ntmps4
  go_wp2_with fail
  refine Hp.out.mono ?_
  rintro e w1 ⟨rfl, hb1⟩
  have HB1 := Lib.hid hb1
  clear hb1 Hp
  go_wp2_with fail
  refine (Hq.out _ HB1.out).mono ?_
  rintro e w2 ⟨rfl, hb2⟩
  have HB2 := Lib.hid (HB1.out.trans (hb2.mono HB1.out.size))
  clear hb2 Hq HB1
  go_wp2_with (go_at_call 17; refine (HS.out _).mono ?_; rintro e w' ⟨rfl, rfl⟩)
  refine (Hs.out _ HB2.out).mono ?_
  rintro e w3 ⟨rfl, hb3⟩
  have HB3 := Lib.hid (below_alloc (HB2.out.trans (hb3.mono HB2.out.size)) (Nat.le_refl _) (.cells #[.complex .f64 c d, .float .f64 r] 49))
  have HN := Lib.hid (AtL.new w3 49 #[.complex .f64 c d, .float .f64 r])
  clear hb3 Hs HB2
  go_wp2_with fail
  refine (Ht.out _ HB3.out).mono ?_
  generalize w3.alloc (.cells #[.complex .f64 c d, .float .f64 r] 49) = wa at *
  rintro e w4 ⟨rfl, hb4⟩
  have HB4 := Lib.hid (below_alloc (HB3.out.trans (hb4.mono HB3.out.size)) (Nat.le_refl _) (.cells #[.complex .f64 c d, .float .f64 r] 49))
  have HN1 := Lib.hid ((HN.out.keep hb4).alloc' (.cells #[.complex .f64 c d, .float .f64 r] 49))
  have HN2 := Lib.hid (AtL.new w4 49 #[.complex .f64 c d, .float .f64 r])
  have x0 := HN1.out.cell 0 rfl; have x1 := HN1.out.cell 1 rfl; have y0 := HN2.out.cell 0 rfl; have y1 := HN2.out.cell 1 rfl
  clear hb4 Ht HB3 HN
  go_wp2_with (first | (go_at_call 17; refine (HS.out _).mono ?_; rintro e w' ⟨rfl, rfl⟩) | (go_at_call 20; refine (HR.out _).mono ?_; rintro e w' ⟨rfl, rfl⟩) | (go_at_call 14; refine (HW.out _ HB4.out).mono ?_; rintro e w5 ⟨rfl, hb5⟩))
  have HB5 := Lib.hid (HB4.out.trans (hb5.mono HB4.out.size))
  go_ret
  exact ⟨rfl, HB5.out⟩
end Tp
end Go.Proofs.Ytepnghhgmjobjaa
namespace Go.Proofs.Ytepnghhgmjobjaa
open Go.ChangeShapes Go.WideShapes Go.ChangeAt Go.RowKit
theorem own : ownKnob Try.prog.godebug = none := by kernel_rfl
section
variable {H : Type} {enc : TypeId × Value → H} {P : Program}
theorem post_new {f : Func} {s : ChangeSpec} {apart fresh handsOn again : Bool} {W W' : World} {args : Array Value} {v : Value} {ds gs : List (DataW H)}
    (hW : DataW.Whole enc P f.params.toList s.vars apart W args.toList ds gs [])
    (hres : ∀ (b : Nat) (sp : Nat → Bool) (hd : Bool), DataW.TrodAll enc P W' b sp hd f.resultTypes.toList (v.resultList f.resultTypes.size) (s.fn H (ds ++ gs)).results [])
    (hargs : ∀ sp : Nat → Bool, DataW.TrodAll enc P W' 0 sp true f.params.toList args.toList (s.fn H (ds ++ gs)).args [])
    (hvars : ∀ sp : Nat → Bool, DataW.TrodVars enc P W' sp s.vars (s.fn H (ds ++ gs)).vars [])
    (hb : Below W.heap.size W W')
    (hok : ∀ (j : Nat) (t : TypeId) (r : Value), f.resultTypes[j]? = some t → (v.resultList f.resultTypes.size)[j]? = some r → Value.okWide P W' .any 0 t r) :
    s.post enc P f apart fresh handsOn again W args v W' := by
  have hk : W.keptBut W' (fun p => p ∈ ([] : List MemPlace)) := hb.frame _
  refine ⟨ds, gs, [], [], [], [], hW, hres _ _ _, hargs _, hvars _, World.keptBut_mono (fun p hp => by cases hp) hk, fun _ => ?_⟩
  refine ⟨hok, _, _, [], ⟨[], [], trodAll_append (hargs _) (hres _ _ _), hvars _, rfl, ?_, ?_⟩, ?_⟩
  · intro b off hp; cases hp
  · intro _; simp
  · intro p hp; cases hp
end
theorem glob_size {W : World} (h : W.ShapedOpen Try.prog) : Try.prog.globals.size ≤ W.heap.size := by
  have hb : Nat.ble (Try.prog.globals.size + 1) (begin Try.prog (fun _ _ => 0) default).world.heap.size = true := by kernel_rfl
  obtain ⟨o, o0, h1, -⟩ := h.2 Try.prog.globals.size (Nat.le_refl _) (Nat.le_of_ble_eq_true hb)
  exact Nat.le_of_lt (Array.getElem?_eq_some_iff.1 h1).1
end Go.Proofs.Ytepnghhgmjobjaa
namespace Go.Proofs.Ytepnghhgmjobjaa
open Go.ChangeShapes Go.WideShapes Go.ChangeAt Go.RowKit Ev
set_option maxRecDepth 100000 in
set_option maxHeartbeats 4000000 in
theorem tparts_lifted (os : Os) (started : os.Started) (H : Type) (enc : TypeId × Value → H) :
    ReturnsInHanded {} Try.checked os 4 .any (Rows.turnPartsSpec.pre6 enc Try.prog Try.f4 Rows.turnPartsRow.domain false) (Rows.turnPartsSpec.post enc Try.prog Try.f4 false true false false) := by
  refine returnsInHanded_of_change_shaped (C := Try.checked) own started (by kernel_rfl) Try.func4
    (ChangeSpec.witness6 (enc := enc) (C := Try.checked) false ⟨#[], #[.int .i64 0, .int .i64 0], []⟩ 8 (by kernel_rfl) (by kernel_rfl) (by kernel_rfl) (by kernel_rfl)) ?_
  intro W base args ds gs before hval0 hW hcnd _ hsh _
  have hval : ∀ (j : Nat) t v, Try.f4.params[j]? = some t → args[j]? = some v → Value.okWide Try.prog W .any base t v := hval0
  have hW' := hW
  obtain ⟨p, q, hA0, hV, rfl, hfz, hnd⟩ := hW
  have hA : DataW.TrodAll enc Try.prog W 0 (fun _ => true) true Try.f4.params.toList args.toList ds p := hA0
  rw [Try.params4] at hA hval
  obtain ⟨v0, vs0, d0, ds0, p0, q0, hargs, rfl, rfl, h0, r0⟩ := trodAll_cons hA
  obtain ⟨v1, vs1, d1, ds1, p1, q1, ha1, rfl, rfl, h1, r1⟩ := trodAll_cons r0
  obtain ⟨hlast, rfl, rfl⟩ := trodAll_nil r1
  obtain rfl : args = #[v0, v1] := by cases args; simp_all
  obtain ⟨rfl, rfl⟩ := trodVars_none hV
  obtain ⟨n0, rfl, rfl, rfl, wn0⟩ := open_int Try.underlying3 (hval 0 3 v0 rfl rfl) h0
  obtain ⟨n1, rfl, rfl, rfl, wn1⟩ := open_int Try.underlying3 (hval 1 3 v1 rfl rfl) h1
  have hG := glob_size hsh
  clear hA0 hval0
  simp only [List.append_nil] at hW'
  refine (Tp.turnParts_any W n0 n1 (bounds_i64 wn0).1 (bounds_i64 wn0).2 (bounds_i64 wn1).1 (bounds_i64 wn1).2 hG trivial).mono fun ee W' ⟨he, hb⟩ => ?_
  subst he
  exact ⟨_, rfl, post_new hW' (fun _ _ _ => (trodAll_cons_mk (shut_bool Try.underlying4 _) trodAll_mk0)) (fun sp => (trodAll_cons_mk (shut_int Try.underlying3 wn0) (trodAll_cons_mk (shut_int Try.underlying3 wn1) trodAll_mk0))) (fun _ => rfl)
    hb (ok_one (by kernel_rfl) rfl (okWide_bool_mk Try.underlying4 _))⟩
theorem tparts_over : Rows.turnPartsRow.holds Try.pinned (OpenSpec.ofChange Rows.turnPartsSpec) :=
  OpenClaim.holds_of_wide 4 Try.f4 rfl rfl rfl rfl rfl rfl rfl ⟨rfl, rfl, rfl, rfl, rfl⟩ rfl rfl rfl rfl rfl (by kernel_rfl) Try.func4 (by kernel_rfl)
    (of_decide_eq_true (by kernel_rfl)) (by unfold Func.isWrapper; first | (rw [if_pos (by decide +kernel)]; kernel_rfl) | (rw [if_neg (by decide +kernel)]; exact ⟨rfl, rfl⟩))
    (fun os started H enc _ => tparts_lifted os started H enc)
theorem tparts_holds : Rows.TurnPartsSaid := tparts_over
end Go.Proofs.Ytepnghhgmjobjaa
