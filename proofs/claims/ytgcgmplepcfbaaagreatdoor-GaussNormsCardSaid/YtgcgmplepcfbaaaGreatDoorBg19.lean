/- Contracts, in this order: gauss: sums, differences, products of any two numbers, whatever they are. · '==' of fractions and of complex numbers of which something is known. · gauss, as a law calls it: its functions over numbers told by expressions. · gauss: what its functions answer, by runs: those that may not be; Check. And the sums for a law. · diapasonlaw02.GaussLaws, run over all that may come. · diapasonlaw02.GaussLaws, run over all numbers that may be. · diapasonlaw02.GaussLaws answers true. · A complex number of fractions by value: its reading, both ways. -/
import Derived.Test.YtgcgmplepcfbaaaGreatDoorBg18
import Derived.Laws.StructEq
import Derived.ChangeArms
import Derived.ChangeSame
import Derived.WideShapes
import Derived.OpenShut
/- gauss: sums, differences, products of any two numbers, whatever they are. -/
namespace Go.Proofs.YtgcgmplepcfbaaaGreatDoor
open Go Go.RowKit
namespace Ev

abbrev Tri := Bool × ByteArray × ByteArray
def tri (q : Rat) : Tri := (Big.ng q, bst (Big.nu q), bst (Big.de q))
def cel (x : Tri) : List Value := [.bool x.1, .string x.2.1, .string x.2.2]
def gV (p q : Rat) : Value := .agg ⟨cel (tri p) ++ cel (tri q)⟩
noncomputable def gZ : Value := .agg ⟨zero6⟩
/-- A number comes back, or the word that it is too long. -/
def GRes (w : World) (p q : Rat) (e : Ending) (w' : World) : Prop :=
  ((Fit p ∧ Fit q) ∧ e = .returned (.tuple ⟨[gV p q, .int .i64 0]⟩) ∨ ¬ (Fit p ∧ Fit q) ∧ e = .returned (.tuple ⟨[gZ, .int .i64 3]⟩)) ∧ Below w.heap.size w w'
/-- That it may not be, or another number of an error. -/
def GErr (w : World) (n : Int) (e : Ending) (w' : World) : Prop := e = .returned (.tuple ⟨[gZ, .int .i64 n]⟩) ∧ Below w.heap.size w w'

section
variable {ρ : Env} {w : World} {v : Value}
theorem seen_is {e : Qe} {l : List (D1 Sy)} {vs : List Value} (h : D1.all (symSig ρ) w (seen e ++ l) vs) : ∃ us, vs = cel (tri (e.ev ρ.q)) ++ us ∧ D1.all (symSig ρ) w l us := by
  obtain ⟨v1, u1, rfl, h1, v2, u2, rfl, h2, v3, u3, rfl, h3, h4⟩ := h
  refine ⟨u3, ?_, h4⟩
  rw [show v1 = .bool (Big.ng (e.ev ρ.q)) from h1, show v2 = .string (bst (Big.nu (e.ev ρ.q))) from h2, show v3 = .string (bst (Big.de (e.ev ρ.q))) from h3]
  rfl
theorem okD_is {e f : Qe} (h : (okD e f).is (symSig ρ) w v) : v = .tuple ⟨[gV (e.ev ρ.q) (f.ev ρ.q), .int .i64 0]⟩ := by
  obtain ⟨vs, rfl, v1, u1, rfl, ⟨x, rfl, hx⟩, v2, u2, rfl, h2, h3⟩ := h
  obtain ⟨us, rfl, hy⟩ := seen_is hx
  have hy' : D1.all (symSig ρ) w (seen f ++ []) us := by simpa using hy
  obtain ⟨us2, rfl, hz⟩ := seen_is hy'
  obtain rfl : us2 = [] := hz
  obtain rfl : u2 = [] := h3
  rw [show v2 = .int .i64 0 from h2, List.append_nil]
  rfl
theorem all_p : ∀ {l vs : List Value}, D1.all (symSig ρ) w (l.map .p) vs → vs = l
  | [], vs, h => h
  | x :: l, vs, h => by
    obtain ⟨v, us, rfl, h1, h2⟩ := h
    rw [show v = x from h1, all_p h2]
theorem noD_is {n : Int} (h : (noD n).is (symSig ρ) w v) : v = .tuple ⟨[gZ, .int .i64 n]⟩ := by
  obtain ⟨vs, rfl, v1, u1, rfl, ⟨x, rfl, hx⟩, v2, u2, rfl, h2, h3⟩ := h
  obtain rfl : u2 = [] := h3
  rw [all_p hx, show v2 = .int .i64 n from h2]
  rfl
end
theorem holdsL_append {F : Type} {S : Sig F} {w : World} : ∀ {l l' : List F} {us us' : List Value}, HoldsL S w l us → HoldsL S w l' us' → HoldsL S w (l ++ l') (us ++ us')
  | [], l', us, us', h, h' => by
    obtain rfl : us = [] := h
    exact h'
  | f :: l, l', us, us', h, h' => by
    obtain ⟨u, vs, rfl, h1, h2, h3⟩ := h
    exact ⟨u, vs ++ us', rfl, h1, h2, holdsL_append h3 h'⟩
/-- A fraction that may be, or not. -/
theorem part_of (x : Tri) : ∃ (b : Bool) (q : Rat) (r : Tri), Fit q ∧ BadF r ∧ (b = true → x = tri q) ∧ (b = false → x = r) := by
  by_cases h : BadF x
  · exact ⟨false, 0, x, ⟨by decide, by decide⟩, h, fun h => (by cases h), fun _ => rfl⟩
  · unfold BadF at h
    have h' : ∃ q : Rat, Fit q ∧ (x.1 = Big.ng q ∧ x.2.1 = bst (Big.nu q) ∧ x.2.2 = bst (Big.de q)) := by
      refine Classical.byContradiction fun hn => h fun q hq he => hn ⟨q, hq, he⟩
    obtain ⟨q, hq, h1, h2, h3⟩ := h'
    refine ⟨true, q, (false, ⟨#[]⟩, ⟨#[]⟩), hq, bad_zero, fun _ => ?_, fun h => (by cases h)⟩
    obtain ⟨x1, x2, x3⟩ := x
    simp only at h1 h2 h3
    rw [h1, h2, h3]; rfl
def pick {α : Type} (a b c d : α) : Nat → α
  | 0 => a
  | 1 => b
  | 2 => c
  | _ => d
theorem pick_all {α : Type} {p : α → Prop} {a b c d : α} (ha : p a) (hb : p b) (hc : p c) (hd : p d) : ∀ i, p (pick a b c d i)
  | 0 => ha
  | 1 => hb
  | 2 => hc
  | _ + 3 => hd
theorem inp_holds {ρ : Env} {w : World} {b : Bool} {i : Nat} {x : Tri} (h1 : b = true → x = tri (ρ.q i)) (h2 : b = false → x = ρ.raw i) : HoldsL (symSig ρ) w (inp b i) (cel x) := by
  cases b with
  | true =>
    rw [h1 rfl]
    exact frac_holds (w := w) (.v i)
  | false =>
    rw [h2 rfl]
    exact ⟨_, _, rfl, rfl, rfl, _, _, rfl, rfl, rfl, _, _, rfl, rfl, rfl, rfl⟩
/-- The four parts: what is handed in. -/
structure In4 (x y z u : Tri) where
  ρ : Env
  a : Bool
  b : Bool
  c : Bool
  d : Bool
  hx : (a = true → x = tri (ρ.q 0)) ∧ (a = false → x = ρ.raw 0)
  hy : (b = true → y = tri (ρ.q 1)) ∧ (b = false → y = ρ.raw 1)
  hz : (c = true → z = tri (ρ.q 2)) ∧ (c = false → z = ρ.raw 2)
  hu : (d = true → u = tri (ρ.q 3)) ∧ (d = false → u = ρ.raw 3)
theorem in4 (x y z u : Tri) : ∃ i : In4 x y z u, True := by
  obtain ⟨a, q, r, h1, h2, h3⟩ := part_of x
  obtain ⟨b, q2, r2, i1, i2, i3⟩ := part_of y
  obtain ⟨c, q3, r3, j1, j2, j3⟩ := part_of z
  obtain ⟨d, q4, r4, k1, k2, k3⟩ := part_of u
  exact ⟨⟨⟨pick q q2 q3 q4, pick r r2 r3 r4, pick_all h1 i1 j1 k1, pick_all h2 i2 j2 k2⟩, a, b, c, d, h3, i3, j3, k3⟩, trivial⟩
theorem In4.holds {x y z u : Tri} (i : In4 x y z u) (w : World) : HoldsL (symSig i.ρ) w (inp4 i.a i.b i.c i.d) (cel x ++ (cel y ++ (cel z ++ cel u))) :=
  holdsL_append (inp_holds i.hx.1 i.hx.2) (holdsL_append (inp_holds i.hy.1 i.hy.2) (holdsL_append (inp_holds i.hz.1 i.hz.2) (inp_holds i.hu.1 i.hu.2)))
theorem tri_inj {p q : Rat} (h : tri p = tri q) : p = q := by
  unfold tri at h
  simp only [Prod.mk.injEq] at h
  exact Big.parts_eq h.1 (bst_inj h.2.1) (bst_inj h.2.2)
theorem not_bad {q : Rat} (h : Fit q) : ¬ BadF (tri q) := fun hb => hb q h ⟨rfl, rfl, rfl⟩
def envOf (a b c d : Rat) (ha : Fit a) (hb : Fit b) (hc : Fit c) (hd : Fit d) : Env := ⟨pick a b c d, fun _ => (false, ⟨#[]⟩, ⟨#[]⟩), pick_all ha hb hc hd, fun _ => bad_zero⟩
theorem fits_hold {ρ : Env} {e f : Qe} {s t : Bool} (h1 : s = true ↔ Fit (e.ev ρ.q)) (h2 : t = true ↔ Fit (f.ev ρ.q)) : AllH ρ (fits e f s t) := by
  intro x hx
  simp only [fits, List.mem_cons, List.not_mem_nil, or_false] at hx
  rcases hx with rfl | rfl
  · exact h1
  · exact h2
theorem fit_bool (q : Rat) : ∃ s : Bool, s = true ↔ Fit q := by
  by_cases h : Fit q
  · exact ⟨true, fun _ => h, fun _ => rfl⟩
  · exact ⟨false, fun h => (by cases h), fun h2 => absurd h2 h⟩
/-- From runs: of any two numbers that may be. -/
theorem ga2 {f : FuncId} {e1 e2 : Qe} (run : ∀ s t, run2 (fits e1 e2 s t) (inp4 true true true true) f = some (andD s t e1 e2)) (w : World) {a b c d : Rat} (ha : Fit a) (hb : Fit b) (hc : Fit c) (hd : Fit d) (hG : Tryz.prog.globals.size ≤ w.heap.size) (hT : Tab w) :
    Calls Tryz.prog f ⟨[gV a b, gV c d]⟩ w (GRes w (e1.ev (pick a b c d)) (e2.ev (pick a b c d))) := by
  obtain ⟨s, hs⟩ := fit_bool (e1.ev (pick a b c d))
  obtain ⟨t, ht⟩ := fit_bool (e2.ev (pick a b c d))
  have hA : AllH (envOf a b c d ha hb hc hd) (fits e1 e2 s t) := fits_hold hs ht
  have hu : HoldsL (symSig (envOf a b c d ha hb hc hd)) w (inp4 true true true true) (cel (tri a) ++ (cel (tri b) ++ (cel (tri c) ++ cel (tri d)))) :=
    holdsL_append (inp_holds (fun _ => rfl) (fun h => (by cases h))) (holdsL_append (inp_holds (fun _ => rfl) (fun h => (by cases h))) (holdsL_append (inp_holds (fun _ => rfl) (fun h => (by cases h))) (inp_holds (fun _ => rfl) (fun h => (by cases h)))))
  refine (tells_calls (symFits _) (symSums_ok hA) (run s t) rfl glob_few hu hG hT).mono ?_
  rintro e w' ⟨v', rfl, hv, hb'⟩
  refine ⟨?_, hb'⟩
  unfold andD at hv
  cases s with
  | true => cases t with
    | true => exact .inl ⟨⟨hs.1 rfl, ht.1 rfl⟩, by rw [okD_is hv]; rfl⟩
    | false => exact .inr ⟨fun h => (by have := ht.2 h.2; cases this), by rw [noD_is hv]⟩
  | false => exact .inr ⟨fun h => (by have := hs.2 h.1; cases this), by rw [noD_is hv]⟩
/-- And of two of which one may not be. -/
theorem ga2_bad {f : FuncId} (run : ∀ a b c d : Bool, (a && b && c && d) = false → run2 [] (inp4 a b c d) f = some (noD 2)) (w : World) (x y z u : Tri) (h : BadF x ∨ BadF y ∨ BadF z ∨ BadF u) (hG : Tryz.prog.globals.size ≤ w.heap.size) (hT : Tab w) :
    Calls Tryz.prog f ⟨[.agg ⟨cel x ++ cel y⟩, .agg ⟨cel z ++ cel u⟩]⟩ w (GErr w 2) := by
  obtain ⟨i, -⟩ := in4 x y z u
  have hA : AllH i.ρ [] := fun _ h => by cases h
  have hb : (i.a && i.b && i.c && i.d) = false := by
    cases ha : i.a with
    | false => rfl
    | true => cases hb : i.b with
      | false => rfl
      | true => cases hc : i.c with
        | false => rfl
        | true => cases hd : i.d with
          | false => rfl
          | true =>
            rcases h with h | h | h | h
            · rw [i.hx.1 ha] at h; exact absurd h (not_bad (i.ρ.fit _))
            · rw [i.hy.1 hb] at h; exact absurd h (not_bad (i.ρ.fit _))
            · rw [i.hz.1 hc] at h; exact absurd h (not_bad (i.ρ.fit _))
            · rw [i.hu.1 hd] at h; exact absurd h (not_bad (i.ρ.fit _))
  have hc := tells_calls (symFits _) (symSums_ok hA) (run _ _ _ _ hb) rfl glob_few (i.holds w) hG hT
  exact hc.mono fun e w' hh => by
    obtain ⟨v', rfl, hv, hb'⟩ := hh
    exact ⟨by rw [noD_is hv], hb'⟩
end Ev
end Go.Proofs.YtgcgmplepcfbaaaGreatDoor
/- '==' of fractions and of complex numbers of which something is known. -/
namespace Go.Proofs.YtgcgmplepcfbaaaGreatDoor
open Go Go.RowKit
namespace Ev

def tbeq (x y : Tri) : Bool := x.1 == y.1 && (x.2.1.toList == y.2.1.toList && x.2.2.toList == y.2.2.toList)
theorem tbeq_iff {x y : Tri} : tbeq x y = true ↔ x = y := by
  obtain ⟨a, s, t⟩ := x
  obtain ⟨b, u, v⟩ := y
  have key : ∀ p q : ByteArray, (p.toList == q.toList) = true ↔ p = q := fun p q => by
    rw [beq_iff_eq, ByteArray.toList_eq, ByteArray.toList_eq]
    obtain ⟨⟨p⟩⟩ := p
    obtain ⟨⟨q⟩⟩ := q
    simp
  simp only [tbeq, Bool.and_eq_true, key, beq_iff_eq, Prod.mk.injEq]
theorem eqIn_frac (d : Nat) (x y : Tri) (w : World) : (Op.equalIn (d + 2) 23 (.agg ⟨cel x⟩) (.agg ⟨cel y⟩)).run Tryz.prog w = .ok (tbeq x y) w := by
  have hS : Tryz.prog.underlying 23 = some (.struct (Tryz.prog.fieldsOf 23)) := by kernel_rfl
  have hp : Tryz.prog.stoodInHeld 23 = false := by kernel_rfl
  obtain ⟨a, s, t⟩ := x
  obtain ⟨b, u, v⟩ := y
  rw [show d + 2 = (d + 1) + 1 from rfl, run_equalIn_struct w (d + 1) 23 _ _ hS hp]
  simp only [Program.fieldsOf, Tryz.underlying23, cel, tbeq]
  generalize hx : (s.toList == u.toList) = b1
  generalize hy : (t.toList == v.toList) = b2
  cases a <;> cases b <;> cases b1 <;> cases b2 <;> go_simp <;> simp [hx, hy]
theorem eqIn_gauss (d : Nat) (x y z u : Tri) (w : World) : (Op.equalIn (d + 3) 47 (.agg ⟨cel x ++ cel y⟩) (.agg ⟨cel z ++ cel u⟩)).run Tryz.prog w = .ok (tbeq x z && tbeq y u) w := by
  have hS : Tryz.prog.underlying 47 = some (.struct (Tryz.prog.fieldsOf 47)) := by kernel_rfl
  have hp : Tryz.prog.stoodInHeld 47 = false := by kernel_rfl
  obtain ⟨x1, x2, x3⟩ := x
  obtain ⟨y1, y2, y3⟩ := y
  obtain ⟨z1, z2, z3⟩ := z
  obtain ⟨u1, u2, u3⟩ := u
  have e1 := fun (a b : Bool) (w : World) => run_equalIn_bool' (P := Tryz.prog) w d 4 a b Tryz.underlying4
  have e2 := fun (a b : ByteArray) (w : World) => run_equalIn_string (P := Tryz.prog) w d 9 a b Tryz.underlying9
  rw [show d + 3 = (d + 2) + 1 from rfl, run_equalIn_struct w (d + 2) 47 _ _ hS hp]
  simp only [Program.fieldsOf, Tryz.underlying47]
  go_simp
  simp only [cel, tbeq, e1, e2]
  generalize h1 : (x1 == z1) = b1
  generalize h2 : (x2.toList == z2.toList) = b2
  generalize h3 : (x3.toList == z3.toList) = b3
  generalize h4 : (y1 == u1) = b4
  generalize h5 : (y2.toList == u2.toList) = b5
  generalize h6 : (y3.toList == u3.toList) = b6
  cases b1 <;> cases b2 <;> cases b3 <;> cases b4 <;> cases b5 <;> cases b6 <;> simp only [beq_iff_eq, beq_eq_false_iff_ne, ne_eq] at h1 h2 h3 h4 h5 h6 <;> simp [e1, e2, h1, h2, h3, h4, h5, h6]
noncomputable def three (a b : Option Bool) : Option Bool := match a with
  | some x => cond x b (some false)
  | none => match b with
    | some y => cond y none (some false)
    | none => none
theorem three_ok {a b : Option Bool} {x y z : Bool} (ha : ∀ t, a = some t → t = x) (hb : ∀ t, b = some t → t = y) (h : three a b = some z) : z = (x && y) := by
  cases a with
  | some p =>
    have := ha p rfl
    subst this
    cases p with
    | true => exact hb z h
    | false => cases h; rfl
  | none =>
    cases b with
    | none => cases h
    | some q =>
      have := hb q rfl
      subst this
      cases q with
      | true => cases h
      | false => cases h; simp
noncomputable def sameO (A : List As) (l m : List Value) (o p : Option Qe) : Option Bool := match o with
  | some e => match p with
    | some f => cond (e.beq f) (some true) (ask A 2 e f)
    | none => match fitB A e with
      | some t => cond t (some false) none
      | none => none
  | none => match p with
    | some f => match fitB A f with
      | some t => cond t (some false) none
      | none => none
    | none => cond (eqL eq1 l m && plainL plain l) (some true) none
noncomputable def eq3 (A : List As) (l m : List Value) : M Sy (Option Bool) := bind (frcV l) fun o => bind (frcV m) fun p => ret (sameO A l m o p)
noncomputable def ansEq (op : BinOp) (b : Option Bool) : M Sy Nxt := match b with
  | some b => match op with
    | .eql => val (.bool b)
    | .neq => val (.bool (!b))
    | _ => fail
  | none => fail
noncomputable def eqCells (A : List As) (op : BinOp) (t : TypeId) (l m : List Value) : M Sy Nxt :=
  cond (Nat.beq t 23) (bind (eq3 A l m) (ansEq op))
    (cond (Nat.beq t 47) (bind (eq3 A (l.take 3) (m.take 3)) fun b => bind (eq3 A (l.drop 3) (m.drop 3)) fun c => ansEq op (three b c)) fail)
noncomputable def eqHard (A : List As) (o : Oper) (vs : List Value) : M Sy Nxt := match o.op with
  | .binOp op t _ _ _ => match vs with
    | [u, v] => match u with
      | .agg cs => match v with
        | .agg ds => eqCells A op t cs.toList ds.toList
        | _ => fail
      | _ => fail
    | _ => fail
  | _ => fail
theorem loc_eq3 (A : List As) (l m : List Value) : Loc (eq3 A l m) := loc_bind (loc_frcV _) fun _ => loc_bind (loc_frcV _) fun _ => loc_ret _
theorem loc_ansEq (op : BinOp) (b : Option Bool) : Loc (ansEq op b) := by
  unfold ansEq
  (repeat' split) <;> first | exact loc_val _ | exact loc_fail
theorem loc_eqHard (A : List As) (o : Oper) (vs : List Value) : Loc (eqHard A o vs) := by
  unfold eqHard
  (repeat' split) <;> first
    | exact loc_fail
    | exact loc_cond (loc_bind (loc_eq3 _ _ _) fun _ => loc_ansEq _ _) (loc_cond (loc_bind (loc_eq3 _ _ _) fun _ => loc_bind (loc_eq3 _ _ _) fun _ => loc_ansEq _ _) loc_fail)
theorem frc_tri {ρ : Env} {l : List Value} {o : Option Qe} (h : FrcIs ρ l o) : ∃ x : Tri, l = cel x ∧ (∀ e, o = some e → x = tri (e.ev ρ.q)) ∧ (o = none → BadF x) := by
  cases o with
  | some e =>
    obtain rfl : l = _ := h
    exact ⟨tri (e.ev ρ.q), rfl, fun e' he => by cases he; rfl, fun h => (by cases h)⟩
  | none =>
    obtain ⟨x, hx, rfl⟩ := h
    exact ⟨x, rfl, fun e' he => (by cases he), fun _ => hx⟩
section
variable {ρ : Env} {A : List As} {h h' : Tr (Blk Sy)} {nx nx' : Nat} {R W : List Nat} {r : Ren} {w : World}
theorem cel_inj {x y : Tri} (h : cel x = cel y) : x = y := by
  obtain ⟨a, s, t⟩ := x
  obtain ⟨b, u, v⟩ := y
  simp only [cel, List.cons.injEq, Value.bool.injEq, Value.string.injEq, and_true] at h
  obtain ⟨rfl, rfl, rfl⟩ := h
  rfl
theorem eq3_ok (hA : AllH ρ A) {l m l' m' : List Value} {b : Option Bool} (e : eq3 A l m h nx = .ok b h' nx' R W) (hl : VsR r l l') (hm : VsR r m m') (hM : Mod (symSig ρ) r h.get w) :
    h' = h ∧ nx' = nx ∧ W = [] ∧ ∃ x y : Tri, l' = cel x ∧ m' = cel y ∧ ∀ t, b = some t → t = tbeq x y := by
  obtain ⟨o, h1, nx1, R1, W1, R2, W2, q1, q2, rfl, rfl⟩ := bind_ok e
  obtain ⟨rfl, rfl, rfl, i1⟩ := frcV_ok q1 hl hM
  obtain ⟨p, h2, nx2, R3, W3, R4, W4, q3, q4, rfl, rfl⟩ := bind_ok q2
  obtain ⟨rfl, rfl, rfl, i2⟩ := frcV_ok q3 hm hM
  obtain ⟨rfl, rfl, rfl, rfl⟩ := ret_ok q4
  obtain ⟨x, rfl, x1, x2⟩ := frc_tri i1
  obtain ⟨y, rfl, y1, y2⟩ := frc_tri i2
  refine ⟨rfl, rfl, by simp, x, y, rfl, rfl, fun t ht => ?_⟩
  have neg : x ≠ y → tbeq x y = false := fun hn => by
    cases hb : tbeq x y with
    | false => rfl
    | true => exact absurd (tbeq_iff.1 hb) hn
  unfold sameO at ht
  cases o with
  | some e0 =>
    have hx := x1 e0 rfl
    cases p with
    | some f =>
      have hy := y1 f rfl
      simp only at ht
      cases hb : e0.beq f with
      | true =>
        rw [hb] at ht
        cases ht
        rw [hx, hy, Qe.beq_ok _ _ hb]
        exact (tbeq_iff.2 rfl).symm
      | false =>
        rw [hb] at ht
        have hs := ask_same hA ht
        cases t with
        | true => rw [hx, hy, hs.1 rfl]; exact (tbeq_iff.2 rfl).symm
        | false =>
          refine (neg fun h => ?_).symm
          rw [hx, hy] at h
          have := hs.2 (tri_inj h)
          cases this
    | none =>
      simp only at ht
      cases hf : fitB A e0 with
      | none => rw [hf] at ht; cases ht
      | some u =>
        rw [hf] at ht
        cases u with
        | false => cases ht
        | true =>
          cases ht
          refine (neg fun h => ?_).symm
          have hbad := y2 rfl
          rw [← h, hx] at hbad
          exact not_bad ((fitB_ok hA hf).1 rfl) hbad
  | none =>
    cases p with
    | some f =>
      have hy := y1 f rfl
      simp only at ht
      cases hf : fitB A f with
      | none => rw [hf] at ht; cases ht
      | some u =>
        rw [hf] at ht
        cases u with
        | false => cases ht
        | true =>
          cases ht
          refine (neg fun h => ?_).symm
          have hbad := x2 rfl
          rw [h, hy] at hbad
          exact not_bad ((fitB_ok hA hf).1 rfl) hbad
    | none =>
      simp only at ht
      cases hk : (eqL eq1 l m && plainL plain l) with
      | false => rw [hk] at ht; cases ht
      | true =>
        rw [hk] at ht
        cases ht
        simp only [Bool.and_eq_true] at hk
        have e1 := eqL_ok eq1_ok hk.1
        subst e1
        have e2 := hl.eq_of_plain hk.2
        have e3 := hm.eq_of_plain hk.2
        rw [← e2] at e3
        rw [cel_inj e3]
        exact (tbeq_iff.2 rfl).symm
theorem run_eqs (op : BinOp) (t : TypeId) (x y : Operand) (cs ds : Array Value) (b : Bool) (v : Value) (hm : Tryz.prog.eqGuardType Tryz.prog.depth t = false) (he : (Op.equalIn 10000 t (.agg cs) (.agg ds)).run Tryz.prog w = .ok b w) (hv : (op = .eql ∧ v = .bool b) ∨ (op = .neq ∧ v = .bool (!b))) :
    (do eqGuard op t x y (.agg cs) (.agg ds); binOp op t (.agg cs) (.agg ds) : Sem Value).run Tryz.prog w = .ok v w := by
  have hg := run_eqGuard_agg (P := Tryz.prog) w op t x y cs ds hm
  have he' : (Op.equal t (.agg cs) (.agg ds)).run Tryz.prog w = .ok b w := he
  rcases hv with ⟨rfl, rfl⟩ | ⟨rfl, rfl⟩
  · rw [Sem.run_bind, hg]
    simp [binOp, he']
  · rw [Sem.run_bind, hg]
    simp [binOp, he']
theorem ansEq_ok {op : BinOp} {b : Option Bool} {x : Nxt} (e : ansEq op b h nx = .ok x h' nx' R W) : h' = h ∧ nx' = nx ∧ W = [] ∧ ∃ t v, b = some t ∧ x = .val v ∧ ((op = .eql ∧ v = .bool t) ∨ (op = .neq ∧ v = .bool (!t))) := by
  unfold ansEq at e
  cases b with
  | none => cases (show (fail : M Sy Nxt) h nx = _ from e)
  | some t =>
    cases op with
    | eql =>
      obtain ⟨rfl, rfl, rfl, rfl⟩ := val_ok (show (val (.bool t) : M Sy Nxt) h nx = _ from e)
      exact ⟨rfl, rfl, rfl, t, _, rfl, rfl, .inl ⟨rfl, rfl⟩⟩
    | neq =>
      obtain ⟨rfl, rfl, rfl, rfl⟩ := val_ok (show (val (.bool (!t)) : M Sy Nxt) h nx = _ from e)
      exact ⟨rfl, rfl, rfl, t, _, rfl, rfl, .inr ⟨rfl, rfl⟩⟩
    | _ => cases (show (fail : M Sy Nxt) h nx = _ from e)
theorem eqHard_ok (hA : AllH ρ A) {C : Cfg Sy} (hC : C.hard = eqHard A) : HardOK (symSig ρ) Tryz.prog C := by
  intro o vs h nx x h' nx' R W hs e r w ρo hM hN hv
  rw [hC] at e
  unfold eqHard at e
  cases hop : o.op with
  | binOp op t p q yt =>
    rw [hop] at e
    simp only at e
    have hops : o.op.operands.toList.map ρo = [ρo p, ρo q] := by rw [hop]; rfl
    rw [hops] at hv
    rcases vs with _ | ⟨u, _ | ⟨v, _ | ⟨z, l⟩⟩⟩ <;> first | (cases (show (fail : M Sy Nxt) h nx = _ from e); done) | skip
    cases hv with
    | cons hu hv => cases hv with
      | cons hv hn =>
        cases u <;> first | (cases (show (fail : M Sy Nxt) h nx = _ from e); done) | skip
        rename_i cs
        cases v <;> first | (cases (show (fail : M Sy Nxt) h nx = _ from e); done) | skip
        rename_i ds
        obtain ⟨cl⟩ := cs
        obtain ⟨dl⟩ := ds
        obtain ⟨cl', hc1, hc2⟩ := vr_agg hu
        obtain ⟨dl', hd1, hd2⟩ := vr_agg hv
        simp only at e
        have fin : ∀ {b : Bool} {v : Value}, (Op.equalIn 10000 t (.agg ⟨cl'⟩) (.agg ⟨dl'⟩)).run Tryz.prog w = .ok b w → Tryz.prog.eqGuardType Tryz.prog.depth t = false → ((op = .eql ∧ v = .bool b) ∨ (op = .neq ∧ v = .bool (!b))) →
            (execOp ρo o).run Tryz.prog w = .ok (.value v) w := fun he hm hv => by
          have := run_eqs op t p q ⟨cl'⟩ ⟨dl'⟩ _ _ hm he hv
          simp only [execOp, hop, hc1, hd1]
          rw [Sem.run_bind, this]
          rfl
        unfold eqCells at e
        cases ht : Nat.beq t 23 with
        | true =>
          rw [ht] at e
          simp only [cond_true] at e
          have htt := Nat.eq_of_beq_eq_true ht
          obtain ⟨b, h1, nx1, R1, W1, R2, W2, e1, e2, rfl, rfl⟩ := bind_ok e
          obtain ⟨rfl, rfl, rfl, x1, y1, rfl, rfl, hb⟩ := eq3_ok hA e1 hc2 hd2 hM
          obtain ⟨rfl, rfl, rfl, t1, v1, rfl, rfl, hv1⟩ := ansEq_ok e2
          have := hb t1 rfl
          subst this
          refine ⟨Nat.le_refl _, v1, w, r, fin (by rw [htt]; exact eqIn_frac 9998 x1 y1 w) (by rw [htt]; kernel_rfl) hv1, ?_, by simpa using Ext.refl _ _ hM⟩
          rcases hv1 with ⟨_, rfl⟩ | ⟨_, rfl⟩ <;> exact .same rfl
        | false =>
          rw [ht] at e
          simp only [cond_false] at e
          cases ht2 : Nat.beq t 47 with
          | false => rw [ht2] at e; cases (show (fail : M Sy Nxt) h nx = _ from e)
          | true =>
            rw [ht2] at e
            simp only [cond_true] at e
            have htt := Nat.eq_of_beq_eq_true ht2
            obtain ⟨b, h1, nx1, R1, W1, R2, W2, e1, e2, rfl, rfl⟩ := bind_ok e
            obtain ⟨rfl, rfl, rfl, x1, y1, hx1, hy1, hb⟩ := eq3_ok hA e1 (hc2.take 3) (hd2.take 3) hM
            obtain ⟨c, h2, nx2, R3, W3, R4, W4, e3, e4, rfl, rfl⟩ := bind_ok e2
            obtain ⟨rfl, rfl, rfl, x2, y2, hx2, hy2, hc⟩ := eq3_ok hA e3 (hc2.drop 3) (hd2.drop 3) hM
            obtain ⟨rfl, rfl, rfl, t1, v1, ht1, rfl, hv1⟩ := ansEq_ok e4
            have := three_ok hb hc ht1
            subst this
            have z1 : cl' = cel x1 ++ cel x2 := by rw [← hx1, ← hx2, List.take_append_drop]
            have z2 : dl' = cel y1 ++ cel y2 := by rw [← hy1, ← hy2, List.take_append_drop]
            refine ⟨Nat.le_refl _, v1, w, r, fin (by rw [htt, z1, z2]; exact eqIn_gauss 9997 x1 x2 y1 y2 w) (by rw [htt]; kernel_rfl) hv1, ?_, by simpa using Ext.refl _ _ hM⟩
            rcases hv1 with ⟨_, rfl⟩ | ⟨_, rfl⟩ <;> exact .same rfl
  | _ => rw [hop] at e; cases (show (fail : M Sy Nxt) h nx = _ from e)
end
end Ev
end Go.Proofs.YtgcgmplepcfbaaaGreatDoor
/- gauss, as a law calls it: its functions over numbers told by expressions. -/
namespace Go.Proofs.YtgcgmplepcfbaaaGreatDoor
open Go Go.RowKit
namespace Ev

/-- Both parts have not too many bytes: what is taken for granted of pairs. -/
structure Ps where
  a : Qe
  b : Qe
  t : Bool
def Ps.holds (ρ : Nat → Rat) (x : Ps) : Prop := x.t = true ↔ (Fit (x.a.ev ρ) ∧ Fit (x.b.ev ρ))
def AllP (ρ : Env) (B : List Ps) : Prop := ∀ x ∈ B, x.holds ρ.q
noncomputable def askP (B : List Ps) (a b : Qe) : Option Bool := List.rec (motive := fun _ => Option Bool) none
  (fun x _ ih => Bool.rec (motive := fun _ => Option Bool) ih (some x.t) (a.beq x.a && b.beq x.b)) B
theorem askP_ok {ρ : Env} {a b : Qe} {t : Bool} : ∀ {B : List Ps}, AllP ρ B → askP B a b = some t → (t = true ↔ (Fit (a.ev ρ.q) ∧ Fit (b.ev ρ.q)))
  | [], _, h => by cases h
  | x :: B, hB, h => by
    have h' : (Bool.rec (motive := fun _ => Option Bool) (askP B a b) (some x.t) (a.beq x.a && b.beq x.b) : Option Bool) = some t := h
    cases hb : (a.beq x.a && b.beq x.b) with
    | false => rw [hb] at h'; exact askP_ok (fun y hy => hB y (List.mem_cons_of_mem _ hy)) h'
    | true =>
      rw [hb] at h'
      simp only [Bool.and_eq_true] at hb
      have hx := hB x List.mem_cons_self
      rw [Qe.beq_ok _ _ hb.1, Qe.beq_ok _ _ hb.2, ← Option.some.inj h']
      exact hx
/-- It is known to be one of a pair that has not too many bytes. -/
noncomputable def inP (B : List Ps) (a : Qe) : Bool := List.rec (motive := fun _ => Bool) false (fun x _ ih => (x.t && (a.beq x.a || a.beq x.b)) || ih) B
theorem inP_ok {ρ : Env} {a : Qe} : ∀ {B : List Ps}, AllP ρ B → inP B a = true → Fit (a.ev ρ.q)
  | [], _, h => by cases h
  | x :: B, hB, h => by
    have h' : ((x.t && (a.beq x.a || a.beq x.b)) || inP B a) = true := h
    simp only [Bool.or_eq_true, Bool.and_eq_true] at h'
    rcases h' with ⟨h1, h2⟩ | h1
    · have hx := (hB x List.mem_cons_self).1 h1
      rcases h2 with h2 | h2
      · rw [Qe.beq_ok _ _ h2]; exact hx.1
      · rw [Qe.beq_ok _ _ h2]; exact hx.2
    · exact inP_ok (fun y hy => hB y (List.mem_cons_of_mem _ hy)) h1
noncomputable def fitT (B : List Ps) (e : Qe) : Bool := match e with
  | .v _ => true
  | .c _ n d => fitC n d
  | e => inP B e
theorem fitT_ok {ρ : Env} {B : List Ps} (hB : AllP ρ B) {e : Qe} (h : fitT B e = true) : Fit (e.ev ρ.q) := by
  unfold fitT at h
  cases e with
  | v i => exact ρ.fit i
  | c s n d => exact fit_c h
  | _ => exact inP_ok hB h

/-- A complex number, or none that may be. -/
noncomputable def both (o p : Option Qe) : Option (Qe × Qe) := match o with
  | some e => match p with
    | some f => some (e, f)
    | none => none
  | none => none
noncomputable def gss (l : List Value) : M Sy (Option (Qe × Qe)) := bind (frcV (l.take 3)) fun o => bind (frcV (l.drop 3)) fun p => ret (both o p)
theorem loc_gss (l : List Value) : Loc (gss l) := loc_bind (loc_frcV _) fun _ => loc_bind (loc_frcV _) fun _ => loc_ret _
/-- What a number's cells are. -/
def GssIs (ρ : Env) (l' : List Value) : Option (Qe × Qe) → Prop
  | some p => l' = cel (tri (p.1.ev ρ.q)) ++ cel (tri (p.2.ev ρ.q))
  | none => ∃ x y : Tri, (BadF x ∨ BadF y) ∧ l' = cel x ++ cel y
section
variable {ρ : Env} {A : List As} {B : List Ps} {h h' : Tr (Blk Sy)} {nx nx' : Nat} {R W : List Nat} {r : Ren} {w : World}
theorem gss_ok {l l' : List Value} {o : Option (Qe × Qe)} (e : gss l h nx = .ok o h' nx' R W) (hv : VsR r l l') (hM : Mod (symSig ρ) r h.get w) : h' = h ∧ nx' = nx ∧ W = [] ∧ GssIs ρ l' o := by
  obtain ⟨o1, h1, nx1, R1, W1, R2, W2, q1, q2, rfl, rfl⟩ := bind_ok e
  obtain ⟨rfl, rfl, rfl, i1⟩ := frcV_ok q1 (hv.take 3) hM
  obtain ⟨p, h2, nx2, R3, W3, R4, W4, q3, q4, rfl, rfl⟩ := bind_ok q2
  obtain ⟨rfl, rfl, rfl, i2⟩ := frcV_ok q3 (hv.drop 3) hM
  obtain ⟨rfl, rfl, rfl, rfl⟩ := ret_ok q4
  obtain ⟨x, hx, x1, x2⟩ := frc_tri i1
  obtain ⟨y, hy, y1, y2⟩ := frc_tri i2
  have hl : l' = cel x ++ cel y := by rw [← hx, ← hy, List.take_append_drop]
  refine ⟨rfl, rfl, by simp, ?_⟩
  cases o1 with
  | none => exact ⟨x, y, .inl (x2 rfl), hl⟩
  | some e1 =>
    cases p with
    | none => exact ⟨x, y, .inr (y2 rfl), hl⟩
    | some f1 =>
      show l' = _
      rw [hl, x1 e1 rfl, y1 f1 rfl]
noncomputable def errG (n : Int) : Value := .tuple ⟨[gZ, .int .i64 n]⟩
noncomputable def ansG (B : List Ps) (p : Qe × Qe) : M Sy Value := match askP B p.1 p.2 with
  | some t => cond t (bind (newFacts (frs p.1 ++ frs p.2)) fun vs => ret (.tuple ⟨[.agg ⟨vs⟩, .int .i64 0]⟩)) (ret (errG 3))
  | none => fail
theorem loc_ansG (B : List Ps) (p : Qe × Qe) : Loc (ansG B p) := by
  unfold ansG
  split
  · exact loc_cond (loc_bind (loc_newFacts _) fun _ => loc_ret _) (loc_ret _)
  · exact loc_fail
theorem frs_holds (w : World) (e : Qe) : HoldsL (symSig ρ) w (frs e) (cel (tri (e.ev ρ.q))) := frac_holds (w := w) e
theorem ansG_ok (hB : AllP ρ B) {p : Qe × Qe} {f : FuncId} {args' : List Value} {v : Value} (e : ansG B p h nx = .ok v h' nx' R W) (hM : Mod (symSig ρ) r h.get w) (hN : New r nx nx') (c : Calls Tryz.prog f ⟨args'⟩ w (GRes w (p.1.ev ρ.q) (p.2.ev ρ.q))) : GoesS ρ f args' r w nx nx' W h'.get v := by
  unfold ansG at e
  cases ha : askP B p.1 p.2 with
  | none => rw [ha] at e; exact absurd e (by simp [fail])
  | some t =>
    rw [ha] at e
    have hf := askP_ok hB ha
    cases t with
    | true =>
      simp only [cond_true] at e
      exact goes_aggT rfl e hM hN (c.mono fun _ w' hh => by
        obtain ⟨h1 | h1, h2⟩ := hh
        · exact ⟨_, h1.2, holdsL_append (frs_holds w' p.1) (frs_holds w' p.2), h2⟩
        · exact absurd (hf.1 rfl) h1.1)
    | false =>
      simp only [cond_false] at e
      exact goes_pl e rfl hM (c.mono fun _ w' hh => by
        obtain ⟨h1 | h1, h2⟩ := hh
        · have := hf.2 h1.1
          cases this
        · exact ⟨h1.2, h2⟩)
noncomputable def gans2 (B : List Ps) (k : Qe × Qe → Qe × Qe → Qe × Qe) (x y : Option (Qe × Qe)) : M Sy Value := match x with
  | some x => match y with
    | some y => cond ((fitT B x.1 && fitT B x.2) && (fitT B y.1 && fitT B y.2)) (ansG B (k x y)) fail
    | none => ret (errG 2)
  | none => ret (errG 2)
noncomputable def gop2 (g : Option (Qe × Qe) → Option (Qe × Qe) → M Sy Value) (args : List Value) : Option (M Sy Value) := match args with
  | [a, b] => match a with
    | .agg cs => match b with
      | .agg ds => some (bind (gss cs.toList) fun x => bind (gss ds.toList) fun y => g x y)
      | _ => none
    | _ => none
  | _ => none
/-- Of two numbers, whatever they are: how a call goes. -/
theorem gop2_ok {f : FuncId} {g : Option (Qe × Qe) → Option (Qe × Qe) → M Sy Value} (hl : ∀ x y, Loc (g x y))
    (hk : ∀ x y (h : Tr (Blk Sy)) nx v h' nx' R W, g x y h nx = .ok v h' nx' R W → ∀ r w l m, GssIs ρ l x → GssIs ρ m y → Mod (symSig ρ) r h.get w → New r nx nx' → GoesS ρ f [.agg ⟨l⟩, .agg ⟨m⟩] r w nx nx' W h'.get v) :
    SumF (symSig ρ) Tryz.prog f (gop2 g) := by
  intro args m e
  unfold gop2 at e
  rcases args with _ | ⟨a, _ | ⟨b, _ | ⟨c, l⟩⟩⟩ <;> simp only [reduceCtorEq] at e
  cases a <;> simp only [reduceCtorEq] at e
  rename_i cs
  cases b <;> simp only [reduceCtorEq, Option.some.injEq] at e
  rename_i ds
  subst e
  refine ⟨loc_bind (loc_gss _) fun x => loc_bind (loc_gss _) fun y => hl x y, ?_⟩
  intro h nx v h' nx' R W e r w args' ha hM hN
  cases ha with
  | cons ha1 ha2 =>
    cases ha2 with
    | cons hb1 hb2 =>
      cases hb2
      obtain ⟨cl⟩ := cs
      obtain ⟨dl⟩ := ds
      obtain ⟨cl', rfl, hc⟩ := vr_agg ha1
      obtain ⟨dl', rfl, hd⟩ := vr_agg hb1
      obtain ⟨x, h1, nx1, R1, W1, R2, W2, e1, e2, rfl, rfl⟩ := bind_ok e
      obtain ⟨rfl, rfl, rfl, hx⟩ := gss_ok e1 hc hM
      obtain ⟨y, h2, nx2, R3, W3, R4, W4, e3, e4, rfl, rfl⟩ := bind_ok e2
      obtain ⟨rfl, rfl, rfl, hy⟩ := gss_ok e3 hd hM
      simpa [GoesS] using hk x y _ _ _ _ _ _ _ e4 r w _ _ hx hy hM hN
theorem mod_G {S : Sig Sy} {g : Nat → Option (Blk Sy)} (hM : Mod S r g w) (hG : S.G = Tryz.prog.globals.size) : Tryz.prog.globals.size ≤ w.heap.size := by
  rcases Nat.eq_zero_or_pos Tryz.prog.globals.size with h0 | h0
  · omega
  · have := hM.lt _ _ (hM.glob (Tryz.prog.globals.size - 1) (by rw [hG]; omega))
    omega
theorem loc_gans2 (k : Qe × Qe → Qe × Qe → Qe × Qe) (x y : Option (Qe × Qe)) : Loc (gans2 B k x y) := by
  unfold gans2
  (repeat' split) <;> first | exact loc_ret _ | exact loc_cond (loc_ansG _ _) loc_fail
theorem gsum2 (hB : AllP ρ B) {f : FuncId} {k : Qe × Qe → Qe × Qe → Qe × Qe}
    (hok : ∀ (w : World) (x y : Qe × Qe), Fit (x.1.ev ρ.q) → Fit (x.2.ev ρ.q) → Fit (y.1.ev ρ.q) → Fit (y.2.ev ρ.q) → Tryz.prog.globals.size ≤ w.heap.size → Tab w → Calls Tryz.prog f ⟨[gV (x.1.ev ρ.q) (x.2.ev ρ.q), gV (y.1.ev ρ.q) (y.2.ev ρ.q)]⟩ w (GRes w ((k x y).1.ev ρ.q) ((k x y).2.ev ρ.q)))
    (hbad : ∀ (w : World) (x y z u : Tri), (BadF x ∨ BadF y ∨ BadF z ∨ BadF u) → Tryz.prog.globals.size ≤ w.heap.size → Tab w → Calls Tryz.prog f ⟨[.agg ⟨cel x ++ cel y⟩, .agg ⟨cel z ++ cel u⟩]⟩ w (GErr w 2)) :
    SumF (symSig ρ) Tryz.prog f (gop2 (gans2 B k)) :=
  gop2_ok (fun x y => loc_gans2 k x y) fun x y h nx v h' nx' R W e r w l m hx hy hM hN => by
    have hG := mod_G hM rfl
    have hT : Tab w := hM.base
    unfold gans2 at e
    cases x with
    | none =>
      obtain ⟨x1, x2, hb, rfl⟩ := hx
      cases y with
      | none =>
        obtain ⟨y1, y2, hb2, rfl⟩ := hy
        exact goes_pl e rfl hM (hbad w _ _ _ _ (by rcases hb with hb | hb; exact .inl hb; exact .inr (.inl hb)) hG hT)
      | some y =>
        obtain rfl : m = _ := hy
        exact goes_pl e rfl hM (hbad w _ _ _ _ (by rcases hb with hb | hb; exact .inl hb; exact .inr (.inl hb)) hG hT)
    | some x =>
      obtain rfl : l = _ := hx
      cases y with
      | none =>
        obtain ⟨y1, y2, hb, rfl⟩ := hy
        exact goes_pl e rfl hM (hbad w _ _ _ _ (by rcases hb with hb | hb; exact .inr (.inr (.inl hb)); exact .inr (.inr (.inr hb))) hG hT)
      | some y =>
        obtain rfl : m = _ := hy
        simp only at e
        obtain ⟨hf, e⟩ := cond_ok e
        simp only [Bool.and_eq_true] at hf
        exact ansG_ok hB e hM hN (hok w x y (fitT_ok hB hf.1.1) (fitT_ok hB hf.1.2) (fitT_ok hB hf.2.1) (fitT_ok hB hf.2.2) hG hT)
end
end Ev
end Go.Proofs.YtgcgmplepcfbaaaGreatDoor
/- gauss: what its functions answer, by runs: those that may not be; Check. And the sums for a law. -/
namespace Go.Proofs.YtgcgmplepcfbaaaGreatDoor
open Go Go.RowKit
namespace Ev
set_option maxRecDepth 100000
theorem add_bad : ∀ a b c d : Bool, (a && b && c && d) = false → run2 [] (inp4 a b c d) 39 = some (noD 2) := by
  intro a b c d
  cases a <;> cases b <;> cases c <;> cases d <;> intro h <;> first | (cases h; done) | kernel_rfl
theorem sub_bad : ∀ a b c d : Bool, (a && b && c && d) = false → run2 [] (inp4 a b c d) 42 = some (noD 2) := by
  intro a b c d
  cases a <;> cases b <;> cases c <;> cases d <;> intro h <;> first | (cases h; done) | kernel_rfl
theorem mul_bad : ∀ a b c d : Bool, (a && b && c && d) = false → run2 [] (inp4 a b c d) 40 = some (noD 2) := by
  intro a b c d
  cases a <;> cases b <;> cases c <;> cases d <;> intro h <;> first | (cases h; done) | kernel_rfl
theorem check_run (a b : Bool) : tells (inp a 0 ++ inp b 1) [.agg 6] (call Tryz.prog symC (symSums []) 60 41) = some (.one (.one (.p (.int .i64 (cond (a && b) 0 2))))) := by
  cases a <;> cases b <;> kernel_rfl
theorem check_any (w : World) (x y : Tri) (hG : Tryz.prog.globals.size ≤ w.heap.size) (hT : Tab w) :
    ∃ n : Int, ((¬ BadF x ∧ ¬ BadF y ∧ n = 0) ∨ ((BadF x ∨ BadF y) ∧ n = 2)) ∧ Calls Tryz.prog 41 ⟨[.agg ⟨cel x ++ cel y⟩]⟩ w fun e w' => e = .returned (.int .i64 n) ∧ Below w.heap.size w w' := by
  obtain ⟨i, -⟩ := in4 x y x y
  have hA : AllH i.ρ [] := fun _ h => by cases h
  have hb1 : i.a = true → ¬ BadF x := fun h => by rw [i.hx.1 h]; exact not_bad (i.ρ.fit _)
  have hb2 : i.b = true → ¬ BadF y := fun h => by rw [i.hy.1 h]; exact not_bad (i.ρ.fit _)
  have hb3 : i.a = false → BadF x := fun h => by rw [i.hx.2 h]; exact i.ρ.bad _
  have hb4 : i.b = false → BadF y := fun h => by rw [i.hy.2 h]; exact i.ρ.bad _
  have hc := tells_calls (symFits _) (symSums_ok hA) (check_run i.a i.b) rfl glob_few (holdsL_append (inp_holds (w := w) i.hx.1 i.hx.2) (inp_holds i.hy.1 i.hy.2)) hG hT
  refine ⟨cond (i.a && i.b) 0 2, ?_, hc.mono fun e w' hh => ?_⟩
  · cases ha : i.a with
    | false => exact .inr ⟨.inl (hb3 ha), rfl⟩
    | true => cases hb : i.b with
      | false => exact .inr ⟨.inr (hb4 hb), rfl⟩
      | true => exact .inl ⟨hb1 ha, hb2 hb, rfl⟩
  · obtain ⟨v', rfl, hv, hb⟩ := hh
    exact ⟨by rw [show v' = .int .i64 (cond (i.a && i.b) 0 2) from hv], hb⟩

noncomputable def kAdd (x y : Qe × Qe) : Qe × Qe := (.add x.1 y.1, .add x.2 y.2)
noncomputable def kSub (x y : Qe × Qe) : Qe × Qe := (.sub x.1 y.1, .sub x.2 y.2)
noncomputable def kMul (x y : Qe × Qe) : Qe × Qe := (.sub (.mul x.1 y.1) (.mul x.2 y.2), .add (.mul x.1 y.2) (.mul x.2 y.1))
section
variable {ρ : Env} {A : List As} {B : List Ps}
theorem lsum_add (hB : AllP ρ B) : SumF (symSig ρ) Tryz.prog 39 (gop2 (gans2 B kAdd)) :=
  gsum2 hB (fun w x y h1 h2 h3 h4 hG hT => ga2 add_run w h1 h2 h3 h4 hG hT) (fun w x y z u h hG hT => ga2_bad add_bad w x y z u h hG hT)
theorem lsum_sub (hB : AllP ρ B) : SumF (symSig ρ) Tryz.prog 42 (gop2 (gans2 B kSub)) :=
  gsum2 hB (fun w x y h1 h2 h3 h4 hG hT => ga2 sub_run w h1 h2 h3 h4 hG hT) (fun w x y z u h hG hT => ga2_bad sub_bad w x y z u h hG hT)
theorem lsum_mul (hB : AllP ρ B) : SumF (symSig ρ) Tryz.prog 40 (gop2 (gans2 B kMul)) :=
  gsum2 hB (fun w x y h1 h2 h3 h4 hG hT => ga2 mul_run w h1 h2 h3 h4 hG hT) (fun w x y z u h hG hT => ga2_bad mul_bad w x y z u h hG hT)
noncomputable def gop1 (g : Option (Qe × Qe) → M Sy Value) (args : List Value) : Option (M Sy Value) := match args with
  | [a] => match a with
    | .agg cs => some (bind (gss cs.toList) fun x => g x)
    | _ => none
  | _ => none
theorem gop1_ok {f : FuncId} {g : Option (Qe × Qe) → M Sy Value} (hl : ∀ x, Loc (g x))
    (hk : ∀ x (h : Tr (Blk Sy)) nx v h' nx' R W, g x h nx = .ok v h' nx' R W → ∀ r w l, GssIs ρ l x → Mod (symSig ρ) r h.get w → New r nx nx' → GoesS ρ f [.agg ⟨l⟩] r w nx nx' W h'.get v) :
    SumF (symSig ρ) Tryz.prog f (gop1 g) := by
  intro args m e
  unfold gop1 at e
  rcases args with _ | ⟨a, _ | ⟨c, l⟩⟩ <;> simp only [reduceCtorEq] at e
  cases a <;> simp only [reduceCtorEq, Option.some.injEq] at e
  rename_i cs
  subst e
  refine ⟨loc_bind (loc_gss _) fun x => hl x, ?_⟩
  intro h nx v h' nx' R W e r w args' ha hM hN
  cases ha with
  | cons ha1 ha2 =>
    cases ha2
    obtain ⟨cl⟩ := cs
    obtain ⟨cl', rfl, hc⟩ := vr_agg ha1
    obtain ⟨x, h1, nx1, R1, W1, R2, W2, e1, e2, rfl, rfl⟩ := bind_ok e
    obtain ⟨rfl, rfl, rfl, hx⟩ := gss_ok e1 hc hM
    simpa [GoesS] using hk x _ _ _ _ _ _ _ e2 r w _ hx hM hN
noncomputable def chk (B : List Ps) (x : Option (Qe × Qe)) : M Sy Value := match x with
  | some x => cond (fitT B x.1 && fitT B x.2) (ret (.int .i64 0)) fail
  | none => ret (.int .i64 2)
theorem lsum_check (hB : AllP ρ B) : SumF (symSig ρ) Tryz.prog 41 (gop1 (chk B)) :=
  gop1_ok (fun x => by
    unfold chk
    split
    · exact loc_cond (loc_ret _) loc_fail
    · exact loc_ret _) fun x h nx v h' nx' R W e r w l hx hM hN => by
    have hG := mod_G hM rfl
    have hT : Tab w := hM.base
    unfold chk at e
    cases x with
    | none =>
      obtain ⟨x1, x2, hb, rfl⟩ := hx
      obtain ⟨n, h1 | h1, hc⟩ := check_any w x1 x2 hG hT
      · rcases hb with hb | hb
        · exact absurd hb h1.1
        · exact absurd hb h1.2.1
      · rw [h1.2] at hc
        exact goes_pl e rfl hM hc
    | some x =>
      obtain rfl : l = _ := hx
      obtain ⟨hf, e⟩ := cond_ok e
      simp only [Bool.and_eq_true] at hf
      have f1 := not_bad (fitT_ok hB hf.1)
      have f2 := not_bad (fitT_ok hB hf.2)
      obtain ⟨n, h1 | h1, hc⟩ := check_any w (tri (x.1.ev ρ.q)) (tri (x.2.ev ρ.q)) hG hT
      · rw [h1.2.2] at hc
        exact goes_pl e rfl hM hc
      · rcases h1.1 with hb | hb
        · exact absurd hb f1
        · exact absurd hb f2
end
/-- Calls of plain values that are known, and then others. -/
noncomputable def withF (l : List Fact) (s : Sums Sy) : Sums Sy := fun f args => match look f args l with
  | some v => some (ret v)
  | none => s f args
theorem withF_ok {ρ : Env} {l : List Fact} (hl : ∀ x ∈ l, x.ok) {s : Sums Sy} (hs : SumOK (symSig ρ) Tryz.prog s) : SumOK (symSig ρ) Tryz.prog (withF l s) := by
  refine ⟨fun f args m e => ?_, fun f args m e h nx v h' nx' R W hr r w args' ha hM hN => ?_⟩
  · unfold withF at e
    cases hk : look f args l with
    | none => rw [hk] at e; exact hs.loc f args m e
    | some v => rw [hk] at e; cases e; exact loc_ret _
  · unfold withF at e
    cases hk : look f args l with
    | none => rw [hk] at e; exact hs.run f args m e h nx v h' nx' R W hr r w args' ha hM hN
    | some u =>
      rw [hk] at e
      cases e
      obtain ⟨x, hx, rfl, rfl, rfl⟩ := look_ok hk
      obtain ⟨h1, h2, h3⟩ := hl x hx
      obtain rfl : args' = x.args := VsR_eq h1 ha
      exact goes_pl hr.ok h2 hM (h3 w (mod_G hM rfl) hM.base)
noncomputable def works2 : Fact := ⟨38, [], .bool true⟩
theorem works2_ok : works2.ok := Fact.of_run (n := 40) (by kernel_rfl) rfl
end Ev
end Go.Proofs.YtgcgmplepcfbaaaGreatDoor
/- diapasonlaw02.GaussLaws, run over all that may come. -/
namespace Go.Proofs.YtgcgmplepcfbaaaGreatDoor
open Go Go.RowKit
namespace Ev
set_option maxRecDepth 100000

noncomputable def lawC (A : List As) : Cfg Sy := symCfg (eqHard A)
instance lawHard (A : List As) : HardLoc (lawC A) := ⟨loc_eqHard A⟩
theorem lawFits {ρ : Env} {A : List As} (hA : AllH ρ A) : Fits (symSig ρ) Tryz.prog (lawC A) where
  hid := rfl
  G := rfl
  len := symLen_ok ρ
  tab := natFits.tab
  mixed := natFits.mixed
  hard := eqHard_ok hA rfl
noncomputable def lawList (B : List Ps) : List (Nat × (List Value → Option (M Sy Value))) := [
  (39, gop2 (gans2 B kAdd)), (42, gop2 (gans2 B kSub)), (40, gop2 (gans2 B kMul)), (41, gop1 (chk B))]
noncomputable def lawSums (B : List Ps) : Sums Sy := withF [works2] (sumsOf (mkTab (lawList B)))
theorem lawSums_ok {ρ : Env} {B : List Ps} (hB : AllP ρ B) : SumOK (symSig ρ) Tryz.prog (lawSums B) :=
  withF_ok (fun x hx => by
    simp only [List.mem_cons, List.not_mem_nil, or_false] at hx
    subst hx; exact works2_ok) (sumsOf_ok fun x hx => by
    simp only [lawList, List.mem_cons, List.not_mem_nil, or_false] at hx
    rcases hx with rfl | rfl | rfl | rfl
    · exact lsum_add hB
    · exact lsum_sub hB
    · exact lsum_mul hB
    · exact lsum_check hB)
noncomputable def inp6 (a b c d e f : Bool) : List Sy := inp a 0 ++ (inp b 1 ++ (inp c 2 ++ (inp d 3 ++ (inp e 4 ++ inp f 5))))
noncomputable def eqs (l : List (Qe × Qe)) : List As := l.map fun p => ⟨2, p.1, p.2, true⟩
theorem eqs_hold {ρ : Env} {l : List (Qe × Qe)} (h : ∀ p ∈ l, p.1.ev ρ.q = p.2.ev ρ.q) : AllH ρ (eqs l) := by
  intro x hx
  obtain ⟨p, hp, rfl⟩ := List.mem_map.1 hx
  exact ⟨fun _ => h p hp, fun _ => rfl⟩
noncomputable def lrun (E : List (Qe × Qe)) (B : List Ps) (fs : List Sy) : Option (D3 Sy) := tells fs [.agg 6, .agg 6, .agg 6] (call Tryz.prog (lawC (eqs E)) (lawSums B) 10 6)
noncomputable def yes : D3 Sy := .one (.one (.p (.bool true)))
noncomputable def lx : Qe × Qe := (.v 0, .v 1)
noncomputable def ly : Qe × Qe := (.v 2, .v 3)
noncomputable def lz : Qe × Qe := (.v 4, .v 5)
noncomputable def pr (p : Qe × Qe) (t : Bool) : Ps := ⟨p.1, p.2, t⟩
noncomputable def la : Qe × Qe := kAdd lx ly
noncomputable def lb : Qe × Qe := kAdd ly lx
noncomputable def lc : Qe × Qe := kMul lx ly
noncomputable def ld : Qe × Qe := kMul ly lx
noncomputable def lp : Qe × Qe := kAdd la lz
noncomputable def lq : Qe × Qe := kAdd ly lz
noncomputable def lr : Qe × Qe := kAdd lx lq
noncomputable def ls : Qe × Qe := kMul la lz
noncomputable def lt : Qe × Qe := kMul lx lz
noncomputable def lu : Qe × Qe := kMul ly lz
noncomputable def lv : Qe × Qe := kAdd lt lu
noncomputable def lk : Qe × Qe := kSub la ly
noncomputable def lE : List (Qe × Qe) := [(la.1, lb.1), (la.2, lb.2), (lc.1, ld.1), (lc.2, ld.2), (lp.1, lr.1), (lp.2, lr.2), (ls.1, lv.1), (ls.2, lv.2), (lk.1, lx.1), (lk.2, lx.2)]
noncomputable def lB (s t : Bool) : List Ps := [pr la s, pr lb s, pr lc t, pr ld t]
noncomputable def lB7 (p q r s t u v : Bool) : List Ps := [pr la true, pr lb true, pr lc true, pr ld true, pr lp p, pr lq q, pr lr r, pr ls s, pr lt t, pr lu u, pr lv v, pr lk true]
theorem laws_bad : ∀ a b c d e f : Bool, (a && b && c && d) = false → lrun [] [] (inp6 a b c d e f) = some yes := by
  intro a b c d e f
  cases a <;> cases b <;> cases c <;> cases d <;> intro h <;> first | (cases h; done) | (cases e <;> cases f <;> kernel_rfl)
theorem laws_long : ∀ s t e f : Bool, (s && t) = false → lrun lE (lB s t) (inp6 true true true true e f) = some yes := by
  intro s t e f
  cases s <;> cases t <;> intro h <;> first | (cases h; done) | (cases e <;> cases f <;> kernel_rfl)
theorem laws_z : ∀ e f : Bool, (e && f) = false → lrun lE (lB true true) (inp6 true true true true e f) = some yes := by
  intro e f
  cases e <;> cases f <;> intro h <;> first | (cases h; done) | kernel_rfl
end Ev
end Go.Proofs.YtgcgmplepcfbaaaGreatDoor
/- diapasonlaw02.GaussLaws, run over all numbers that may be. -/
namespace Go.Proofs.YtgcgmplepcfbaaaGreatDoor
open Go Go.RowKit
namespace Ev
set_option maxRecDepth 100000

theorem laws_tt : ∀ r s t u v : Bool, lrun lE (lB7 true true r s t u v) (inp6 true true true true true true) = some yes := by
  intro r s t u v
  cases r <;> cases s <;> cases t <;> cases u <;> cases v <;> kernel_rfl
theorem laws_tf : ∀ r s t u v : Bool, lrun lE (lB7 true false r s t u v) (inp6 true true true true true true) = some yes := by
  intro r s t u v
  cases r <;> cases s <;> cases t <;> cases u <;> cases v <;> kernel_rfl
theorem laws_ft : ∀ r s t u v : Bool, lrun lE (lB7 false true r s t u v) (inp6 true true true true true true) = some yes := by
  intro r s t u v
  cases r <;> cases s <;> cases t <;> cases u <;> cases v <;> kernel_rfl
theorem laws_ff : ∀ r s t u v : Bool, lrun lE (lB7 false false r s t u v) (inp6 true true true true true true) = some yes := by
  intro r s t u v
  cases r <;> cases s <;> cases t <;> cases u <;> cases v <;> kernel_rfl
theorem laws_all (p q r s t u v : Bool) : lrun lE (lB7 p q r s t u v) (inp6 true true true true true true) = some yes := by
  cases p <;> cases q
  · exact laws_ff r s t u v
  · exact laws_ft r s t u v
  · exact laws_tf r s t u v
  · exact laws_tt r s t u v
end Ev
end Go.Proofs.YtgcgmplepcfbaaaGreatDoor
/- diapasonlaw02.GaussLaws answers true. -/
namespace Go.Proofs.YtgcgmplepcfbaaaGreatDoor
open Go Go.RowKit
namespace Ev

def pick6 {α : Type} (a b c d e f : α) : Nat → α
  | 0 => a
  | 1 => b
  | 2 => c
  | 3 => d
  | 4 => e
  | _ => f
theorem pick6_all {α : Type} {p : α → Prop} {a b c d e f : α} (ha : p a) (hb : p b) (hc : p c) (hd : p d) (he : p e) (hf : p f) : ∀ i, p (pick6 a b c d e f i)
  | 0 => ha
  | 1 => hb
  | 2 => hc
  | 3 => hd
  | 4 => he
  | _ + 5 => hf
/-- The six parts: what is handed in. -/
structure In6 (x y z u s t : Tri) where
  ρ : Env
  a : Bool
  b : Bool
  c : Bool
  d : Bool
  e : Bool
  f : Bool
  hx : (a = true → x = tri (ρ.q 0)) ∧ (a = false → x = ρ.raw 0)
  hy : (b = true → y = tri (ρ.q 1)) ∧ (b = false → y = ρ.raw 1)
  hz : (c = true → z = tri (ρ.q 2)) ∧ (c = false → z = ρ.raw 2)
  hu : (d = true → u = tri (ρ.q 3)) ∧ (d = false → u = ρ.raw 3)
  hs : (e = true → s = tri (ρ.q 4)) ∧ (e = false → s = ρ.raw 4)
  ht : (f = true → t = tri (ρ.q 5)) ∧ (f = false → t = ρ.raw 5)
theorem in6 (x y z u s t : Tri) : ∃ i : In6 x y z u s t, True := by
  obtain ⟨a, q, r, h1, h2, h3⟩ := part_of x
  obtain ⟨b, q2, r2, i1, i2, i3⟩ := part_of y
  obtain ⟨c, q3, r3, j1, j2, j3⟩ := part_of z
  obtain ⟨d, q4, r4, k1, k2, k3⟩ := part_of u
  obtain ⟨e, q5, r5, l1, l2, l3⟩ := part_of s
  obtain ⟨f, q6, r6, m1, m2, m3⟩ := part_of t
  exact ⟨⟨⟨pick6 q q2 q3 q4 q5 q6, pick6 r r2 r3 r4 r5 r6, pick6_all h1 i1 j1 k1 l1 m1, pick6_all h2 i2 j2 k2 l2 m2⟩, a, b, c, d, e, f, h3, i3, j3, k3, l3, m3⟩, trivial⟩
theorem In6.holds {x y z u s t : Tri} (i : In6 x y z u s t) (w : World) : HoldsL (symSig i.ρ) w (inp6 i.a i.b i.c i.d i.e i.f) (cel x ++ (cel y ++ (cel z ++ (cel u ++ (cel s ++ cel t))))) :=
  holdsL_append (inp_holds i.hx.1 i.hx.2) (holdsL_append (inp_holds i.hy.1 i.hy.2) (holdsL_append (inp_holds i.hz.1 i.hz.2) (holdsL_append (inp_holds i.hu.1 i.hu.2) (holdsL_append (inp_holds i.hs.1 i.hs.2) (inp_holds i.ht.1 i.ht.2)))))
theorem pair_bool (p q : Rat) : ∃ s : Bool, s = true ↔ (Fit p ∧ Fit q) := by
  by_cases h : Fit p ∧ Fit q
  · exact ⟨true, fun _ => h, fun _ => rfl⟩
  · exact ⟨false, fun h => (by cases h), fun h2 => absurd h2 h⟩
theorem lE_hold (ρ : Env) : AllH ρ (eqs lE) := eqs_hold fun p hp => by
  simp only [lE, List.mem_cons, List.not_mem_nil, or_false] at hp
  rcases hp with rfl | rfl | rfl | rfl | rfl | rfl | rfl | rfl | rfl | rfl <;>
    simp only [la, lb, lc, ld, lp, lq, lr, ls, lt, lu, lv, lk, lx, ly, lz, kAdd, kSub, kMul, Qe.ev] <;> grind
theorem iff_congr2 {ρ : Nat → Rat} {s : Bool} {p q : Qe × Qe} (h : s = true ↔ (Fit (p.1.ev ρ) ∧ Fit (p.2.ev ρ))) (h1 : p.1.ev ρ = q.1.ev ρ) (h2 : p.2.ev ρ = q.2.ev ρ) : s = true ↔ (Fit (q.1.ev ρ) ∧ Fit (q.2.ev ρ)) := by rw [← h1, ← h2]; exact h
theorem gaussLaws_any (w : World) (x y z u s t : Tri) (hG : Tryz.prog.globals.size ≤ w.heap.size) (hT : Tab w) :
    Calls Tryz.prog 6 ⟨[.agg ⟨cel x ++ cel y⟩, .agg ⟨cel z ++ cel u⟩, .agg ⟨cel s ++ cel t⟩]⟩ w fun e w' => e = .returned (.bool true) ∧ Below w.heap.size w w' := by
  obtain ⟨i, -⟩ := in6 x y z u s t
  have fin : ∀ (E : List (Qe × Qe)) (B : List Ps), AllH i.ρ (eqs E) → AllP i.ρ B → lrun E B (inp6 i.a i.b i.c i.d i.e i.f) = some yes →
      Calls Tryz.prog 6 ⟨[.agg ⟨cel x ++ cel y⟩, .agg ⟨cel z ++ cel u⟩, .agg ⟨cel s ++ cel t⟩]⟩ w fun e w' => e = .returned (.bool true) ∧ Below w.heap.size w w' := fun E B hE hB hr =>
    (tells_calls (lawFits hE) (lawSums_ok hB) hr rfl glob_few (i.holds w) hG hT).mono fun e w' hh => by
      obtain ⟨v', rfl, hv, hb⟩ := hh
      exact ⟨by rw [show v' = .bool true from hv], hb⟩
  cases hb : (i.a && i.b && i.c && i.d) with
  | false => exact fin [] [] (fun _ h => (by cases h)) (fun _ h => (by cases h)) (laws_bad _ _ _ _ _ _ hb)
  | true =>
    simp only [Bool.and_eq_true] at hb
    obtain ⟨⟨⟨ha, hb'⟩, hc⟩, hd⟩ := hb
    rw [ha, hb', hc, hd] at fin
    have hE := lE_hold i.ρ
    obtain ⟨s1, hs1⟩ := pair_bool (la.1.ev i.ρ.q) (la.2.ev i.ρ.q)
    obtain ⟨s2, hs2⟩ := pair_bool (lc.1.ev i.ρ.q) (lc.2.ev i.ρ.q)
    have hs1' : s1 = true ↔ (Fit (lb.1.ev i.ρ.q) ∧ Fit (lb.2.ev i.ρ.q)) := iff_congr2 hs1 (Rat.add_comm _ _) (Rat.add_comm _ _)
    have hs2' : s2 = true ↔ (Fit (ld.1.ev i.ρ.q) ∧ Fit (ld.2.ev i.ρ.q)) := iff_congr2 hs2 (by simp only [lc, ld, lx, ly, kMul, Qe.ev]; grind) (by simp only [lc, ld, lx, ly, kMul, Qe.ev]; grind)
    have hB4 : AllP i.ρ (lB s1 s2) := fun p hp => by
      simp only [lB, List.mem_cons, List.not_mem_nil, or_false] at hp
      rcases hp with rfl | rfl | rfl | rfl
      · exact hs1
      · exact hs1'
      · exact hs2
      · exact hs2'
    cases hs : (s1 && s2) with
    | false => exact fin lE (lB s1 s2) hE hB4 (laws_long _ _ _ _ hs)
    | true =>
      simp only [Bool.and_eq_true] at hs
      obtain ⟨rfl, rfl⟩ := hs
      cases hz : (i.e && i.f) with
      | false => exact fin lE (lB true true) hE hB4 (laws_z _ _ hz)
      | true =>
        simp only [Bool.and_eq_true] at hz
        rw [hz.1, hz.2] at fin
        obtain ⟨p, hp⟩ := pair_bool (lp.1.ev i.ρ.q) (lp.2.ev i.ρ.q)
        obtain ⟨q, hq⟩ := pair_bool (lq.1.ev i.ρ.q) (lq.2.ev i.ρ.q)
        obtain ⟨r, hr⟩ := pair_bool (lr.1.ev i.ρ.q) (lr.2.ev i.ρ.q)
        obtain ⟨s', hs'⟩ := pair_bool (ls.1.ev i.ρ.q) (ls.2.ev i.ρ.q)
        obtain ⟨t', ht'⟩ := pair_bool (lt.1.ev i.ρ.q) (lt.2.ev i.ρ.q)
        obtain ⟨u', hu'⟩ := pair_bool (lu.1.ev i.ρ.q) (lu.2.ev i.ρ.q)
        obtain ⟨v', hv'⟩ := pair_bool (lv.1.ev i.ρ.q) (lv.2.ev i.ρ.q)
        have k1 : lk.1.ev i.ρ.q = i.ρ.q 0 := by simp only [lk, la, lx, ly, kSub, kAdd, Qe.ev]; grind
        have k2 : lk.2.ev i.ρ.q = i.ρ.q 1 := by simp only [lk, la, lx, ly, kSub, kAdd, Qe.ev]; grind
        refine fin lE (lB7 p q r s' t' u' v') hE (fun a ha => ?_) (laws_all _ _ _ _ _ _ _)
        simp only [lB7, List.mem_cons, List.not_mem_nil, or_false] at ha
        rcases ha with rfl | rfl | rfl | rfl | rfl | rfl | rfl | rfl | rfl | rfl | rfl | rfl
        · exact hs1
        · exact hs1'
        · exact hs2
        · exact hs2'
        · exact hp
        · exact hq
        · exact hr
        · exact hs'
        · exact ht'
        · exact hu'
        · exact hv'
        · exact ⟨fun _ => ⟨by rw [show (pr lk true).a.ev i.ρ.q = i.ρ.q 0 from k1]; exact i.ρ.fit 0, by rw [show (pr lk true).b.ev i.ρ.q = i.ρ.q 1 from k2]; exact i.ρ.fit 1⟩, fun _ => rfl⟩
end Ev
end Go.Proofs.YtgcgmplepcfbaaaGreatDoor
/- A complex number of fractions by value: its reading, both ways. -/
namespace Go.Proofs.YtgcgmplepcfbaaaGreatDoor
open Go Go.ChangeShapes Go.WideShapes Go.RowKit Ev

theorem c_bool : Tryz.prog.cellsOf 4 = 1 := by kernel_rfl
theorem c_str : Tryz.prog.cellsOf 9 = 1 := by kernel_rfl
theorem c_frac : Tryz.prog.cellsOf 23 = 3 := by kernel_rfl
theorem c_gauss : Tryz.prog.cellsOf 47 = 6 := by kernel_rfl
/-- What a fraction's parts read as. -/
def datT {H : Type} (t : Tri) : DataW H := .agg [.lit (.bool t.1), .lit (.string t.2.1.data.toList), .lit (.string t.2.2.data.toList)]
def wfT (t : Tri) : Prop := t.2.1.size ≤ maxLen ∧ t.2.2.size ≤ maxLen
section
variable {H : Type} {enc : TypeId × Value → H} {w : World} {base : Nat} {spare : Nat → Bool} {held : Bool}
set_option maxRecDepth 100000 in
theorem frac_in {fuel : Nat} {cs : List Value} {x : DataW H × List MemPlace} (h : DataW.trod enc Tryz.prog w base spare held fuel 23 cs = some x) : ∃ t : Tri, cs = cel t ∧ x = (datT t, []) ∧ wfT t := by
  obtain ⟨xs, n, -, hx, hl, hlen, hg⟩ := DataW.trod_struct Tryz.underlying23 h
  rw [c_frac] at hl
  match cs, hl, xs, hlen with
  | [u0, u1, u2], _, [y0, y1, y2], _ =>
    have h0 := hg 0 _ rfl
    simp only [c_bool, List.drop, List.take, List.getElem?_cons_zero] at h0
    obtain ⟨b, e0, z0⟩ := DataW.trod_bool Tryz.underlying4 h0
    obtain rfl := (List.cons.inj e0).1; clear e0
    subst z0
    have h1 := hg 1 _ rfl
    simp only [c_str, List.drop, List.take, List.getElem?_cons_zero, List.getElem?_cons_succ] at h1
    obtain ⟨s, e1, z1, w1⟩ := DataW.trod_string Tryz.underlying9 h1
    obtain rfl := (List.cons.inj e1).1; clear e1
    subst z1
    have h2 := hg 2 _ rfl
    simp only [c_str, List.drop, List.take, List.getElem?_cons_zero, List.getElem?_cons_succ] at h2
    obtain ⟨t, e2, z2, w2⟩ := DataW.trod_string Tryz.underlying9 h2
    obtain rfl := (List.cons.inj e2).1; clear e2
    subst z2
    exact ⟨(b, s, t), rfl, by rw [hx]; rfl, w1, w2⟩
set_option maxRecDepth 100000 in
theorem frac_mk {t : Tri} (h : wfT t) (n : Nat) : DataW.trod enc Tryz.prog w base spare held (n + 2) 23 (cel t) = some (datT t, []) := by
  obtain ⟨b, s, t⟩ := t
  have h1 : s.size ≤ maxLen := h.1
  have h2 : t.size ≤ maxLen := h.2
  have k0 : DataW.trod enc Tryz.prog w base spare held (n + 1) 4 [.bool b] = some (.lit (.bool b), []) := by simp [DataW.trod, Tryz.underlying4]
  have k1 : ∀ s : ByteArray, s.size ≤ maxLen → DataW.trod enc Tryz.prog w base spare held (n + 1) 9 [.string s] = some (.lit (.string s.data.toList), []) := fun s hs => by simp [DataW.trod, Tryz.underlying9, hs]
  have hm := trod_struct_mk (enc := enc) (w := w) (base := base) (spare := spare) (held := held) (n := n + 1) (cs := cel (b, s, t)) (xs := [(.lit (.bool b), []), (.lit (.string s.data.toList), []), (.lit (.string t.data.toList), [])]) Tryz.underlying23 (by rw [c_frac]; rfl) (by
    simp [c_bool, c_str, cel, k0, k1 s h1, k1 t h2])
  exact hm
set_option maxRecDepth 100000 in
theorem gauss_open {r : Reach} {b0 : Nat} {v : Value} {D : DataW H} {ps : List MemPlace} (hv : Value.okWide Tryz.prog w r b0 47 v) (h : DataW.Trod enc Tryz.prog w base spare held 47 v D ps) :
    ∃ x y : Tri, v = .agg ⟨cel x ++ cel y⟩ ∧ D = .agg [datT x, datT y] ∧ ps = [] ∧ wfT x ∧ wfT y := by
  obtain ⟨cs, rfl, hsz⟩ := okWide_struct Tryz.underlying47 hv
  obtain ⟨fuel, hf⟩ := h
  obtain ⟨xs, n, -, hx, hl, hlen, hg⟩ := DataW.trod_struct Tryz.underlying47 hf
  rw [c_gauss] at hsz
  obtain ⟨l⟩ := cs
  match l, hsz, xs, hlen with
  | [u0, u1, u2, u3, u4, u5], _, [y0, y1], _ =>
    have h0 := hg 0 _ rfl
    simp only [Value.cells, c_frac, List.drop, List.take, List.getElem?_cons_zero] at h0
    obtain ⟨t0, e0, z0, w0⟩ := frac_in h0
    subst z0
    have h1 := hg 1 _ rfl
    simp only [Value.cells, c_frac, List.drop, List.take, List.getElem?_cons_zero, List.getElem?_cons_succ] at h1
    obtain ⟨t1, e1, z1, w1⟩ := frac_in h1
    subst z1
    simp only [Prod.mk.injEq] at hx
    refine ⟨t0, t1, ?_, by simpa using hx.1, by simpa using hx.2, w0, w1⟩
    rw [← e0, ← e1]; rfl
set_option maxRecDepth 100000 in
theorem gauss_shut {x y : Tri} (hx : wfT x) (hy : wfT y) : DataW.Trod enc Tryz.prog w base spare held 47 (.agg ⟨cel x ++ cel y⟩) (.agg [datT x, datT y]) [] := by
  refine ⟨3, ?_⟩
  have k0 := frac_mk (enc := enc) (w := w) (base := base) (spare := spare) (held := held) hx 0
  have k1 := frac_mk (enc := enc) (w := w) (base := base) (spare := spare) (held := held) hy 0
  have hm := trod_struct_mk (enc := enc) (w := w) (base := base) (spare := spare) (held := held) (n := 2) (cs := cel x ++ cel y) (xs := [(datT x, []), (datT y, [])]) Tryz.underlying47 (by rw [c_gauss]; rfl) (by
    simp only [List.mapM_cons, List.mapM_nil, c_frac]
    rw [show ((cel x ++ cel y).drop 0).take 3 = cel x from rfl, show ((cel x ++ cel y).drop 3).take 3 = cel y from rfl, k0, k1]
    rfl)
  exact hm
end
def gz : Value := .agg #[.bool false, .string ⟨#[]⟩, .string ⟨#[]⟩, .bool false, .string ⟨#[]⟩, .string ⟨#[]⟩]
end Go.Proofs.YtgcgmplepcfbaaaGreatDoor
