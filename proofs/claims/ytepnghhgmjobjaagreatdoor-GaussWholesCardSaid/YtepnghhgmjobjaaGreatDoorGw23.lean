/- THE LAW GaussWholes, PROVED: whatever two whole numbers are handed in, gauss.Of has just them as its parts: it answers true. The listed variables lie as the program text lays them. -/
import Derived.Test.YtepnghhgmjobjaaGreatDoorGw22
import Derived.Test.YtepnghhgmjobjaaGreatDoorGw21
import Derived.Laws.StructEq
import Derived.Test.YtepnghhgmjobjaaGreatDoorRows
import Derived.Test.YtepnghhgmjobjaaGreatDoorChecked
import Derived.WalkKit
import Derived.ProofKit
import Derived.OpenShut
import Derived.ChangeSame
import Derived.ChangeVars
import Derived.JoinedOf
import Derived.Stop.Joined
import Derived.HandedShaped
import Derived.Test.YtepnghhgmjobjaaGreatDoorGw08
import Derived.LaidMore
import Derived.Lib.LaidTab
import Derived.SizedLaws
import Derived.Shelf.Vars
import Derived.Lay
import Derived.Test.YtepnghhgmjobjaaGreatDoorCards
import Derived.SevenTiedAt
import Derived.WideShapes
import Derived.ChangeMaps5
import Derived.Test.YtepnghhgmjobjaaGreatDoorTie
namespace Go.Proofs.YtepnghhgmjobjaaGreatDoor
open Go Go.RowKit
namespace Ev
set_option maxRecDepth 100000
noncomputable def nrT (z : Bool) : List Xs := [⟨1, xv, x0, z⟩, ⟨1, x1, x0, false⟩]
noncomputable def runI (A : List Xs) (s t : Bool) (f : FuncId) : Option (E3 Wf) := tellsB [] [.iv s xv, .iv t x1] (fun _ vs => vs) (call Tryz.prog (wCfg A) (wSums2 A) 60 f)
noncomputable def qn : Xe := .quo xv (.gcd xv x1)
noncomputable def qd : Xe := .quo x1 (.gcd xv x1)
noncomputable def ofT (z : Bool) : List Xs := nrT z ++ [⟨1, qn, x0, z⟩, ⟨1, qd, x0, false⟩]
theorem of_run (s t z : Bool) : runI (ofT z) s t 20 = some (.agg [.d (.one (.p (.bool (xor s t && !z)))), .d (.one (.f (.sx qn))), .d (.one (.f (.sx qd)))]) := by
  cases s <;> cases t <;> cases z <;> kernel_rfl
section
variable {w : World} {x y : Value} {p q : Rat}
theorem int_parts (n : Int) : n = Big.sI (decide (n < 0)) n.natAbs := by
  unfold Big.sI
  by_cases h : n < 0
  · rw [decide_eq_true h]; simp; omega
  · rw [decide_eq_false h]; simp; omega
theorem iv_holds {ρ : XEnv} {e : Xe} {n : Int} (he : e.ev ρ.q = n.natAbs) (h1 : -9223372036854775808 ≤ n) (h2 : n ≤ 9223372036854775807) : (Wf.iv (decide (n < 0)) e).holds ρ w (.int .i64 n) := by
  refine ⟨by rw [he, ← int_parts n], fun h => ?_, by rw [he]; omega, fun h => ?_⟩
  · have := of_decide_eq_true h
    rw [he]; omega
  · have := of_decide_eq_false h
    rw [he]; omega
theorem quo_ints (n d : Int) (hd : d ≠ 0) : (n : Rat) / (d : Rat) = mkRat (Big.sI (xor (decide (n < 0)) (decide (d < 0)) && !decide (n.natAbs = 0)) n.natAbs) d.natAbs := by
  have hd0 : (d : Rat) ≠ 0 := fun h => hd (by exact_mod_cast h)
  rw [quo_mk _ _ hd0]
  have e1 : Big.ng (n : Rat) = decide (n < 0) := rfl
  have e2 : Big.ng (d : Rat) = decide (d < 0) := rfl
  have e3 : Big.nu (n : Rat) = n.natAbs := rfl
  have e4 : Big.nu (d : Rat) = d.natAbs := rfl
  have e5 : Big.de (n : Rat) = 1 := rfl
  have e6 : Big.de (d : Rat) = 1 := rfl
  rw [e1, e2, e3, e4, e5, e6, Nat.mul_one, Nat.one_mul]
  congr 1
  exact sI_zero _ _ _ fun h => by rw [decide_eq_false h]; simp
theorem bits_int {n : Int} (h1 : -9223372036854775808 ≤ n) (h2 : n ≤ 9223372036854775807) : Bits 262144 n.natAbs :=
  Bits.up (k := 64) ⟨by have : n.natAbs ≤ 9223372036854775808 := by omega
                        exact Nat.lt_of_le_of_lt this (by decide)⟩ (by decide)
theorem ints_env (n d : Int) (h1 : -9223372036854775808 ≤ n) (h2 : n ≤ 9223372036854775807) (h3 : -9223372036854775808 ≤ d) (h4 : d ≤ 9223372036854775807) : ∃ ρ : XEnv, ρ.q 0 = n.natAbs ∧ ρ.q 1 = d.natAbs :=
  ⟨xenv [n.natAbs, d.natAbs] (by intro m hm; simp only [List.mem_cons, List.not_mem_nil, or_false] at hm; rcases hm with rfl | rfl; exact bits_int h1 h2; exact bits_int h3 h4), rfl, rfl⟩
theorem refOf_any (n d : Int) (h1 : -9223372036854775808 ≤ n) (h2 : n ≤ 9223372036854775807) (h3 : -9223372036854775808 ≤ d) (h4 : d ≤ 9223372036854775807) (hd : d ≠ 0) (hG : Tryz.prog.globals.size ≤ w.heap.size) (hT : Tab w) :
    Calls Tryz.prog 20 ⟨[.int .i64 n, .int .i64 d]⟩ w fun e w' => e = .returned (.agg ⟨cel (tri ((n : Rat) / (d : Rat)))⟩) ∧ Below w.heap.size w w' := by
  obtain ⟨ρ, e0, e1⟩ := ints_env n d h1 h2 h3 h4
  have hd1 : 0 < ρ.q 1 := by rw [e1]; omega
  have hg : 0 < Nat.gcd (ρ.q 0) (ρ.q 1) := Nat.gcd_pos_of_pos_right _ hd1
  have hO : OutOK ρ (xor (decide (n < 0)) (decide (d < 0)) && !decide (n.natAbs = 0)) xv x1 ((n : Rat) / (d : Rat)) := by
    refine ⟨hd1, fun hs => ?_, ?_⟩
    · rw [Bool.and_eq_true, Bool.not_eq_true', decide_eq_false_iff_not] at hs
      show 0 < ρ.q 0
      rw [e0]; omega
    · rw [quo_ints n d hd]
      show _ = mkRat (Big.sI _ (ρ.q 0)) (ρ.q 1)
      rw [e0, e1]
  obtain ⟨p1, p2, p3⟩ := outR_parts hO
  have hA : AllX ρ (ofT (decide (n.natAbs = 0))) := by
    refine allX_cons (holds1 (by rw [decide_eq_true_iff, ← e0]; rfl)) (allX_cons (holds1 (not_nought hd1)) (allX_cons (holds1 ?_) (allX_cons (holds1 (not_nought ?_)) (allX_nil ρ))))
    · rw [decide_eq_true_iff, ← e0]
      show ρ.q 0 = 0 ↔ ρ.q 0 / Nat.gcd (ρ.q 0) (ρ.q 1) = 0
      constructor
      · intro h; rw [h, Nat.zero_div]
      · intro h
        rcases Nat.eq_zero_or_pos (ρ.q 0) with h5 | h5
        · exact h5
        · have := Nat.div_pos (Nat.le_of_dvd h5 (Nat.gcd_dvd_left (ρ.q 0) (ρ.q 1))) hg
          omega
    · exact Nat.div_pos (Nat.le_of_dvd hd1 (Nat.gcd_dvd_right (ρ.q 0) (ρ.q 1))) hg
  refine (tellsB_calls (wFits hA) (wSums2_ok hA) (of_run (decide (n < 0)) (decide (d < 0)) _) (fun _ _ _ _ _ _ h => h) rfl glob_lim (bs := []) (us := [.int .i64 n, .int .i64 d]) rfl ⟨_, _, rfl, iv_holds (w := w) (e := xv) e0 h1 h2, rfl, _, [], rfl, iv_holds (w := w) (e := x1) e1 h3 h4, rfl, rfl⟩ hG hT).mono ?_
  rintro e w' ⟨v, rfl, ⟨us, rfl, y1, m1, rfl, k1, y2, m2, rfl, k2, y3, m3, rfl, k3, k4⟩, hb⟩
  obtain rfl : m3 = [] := k4
  refine ⟨?_, hb⟩
  rw [show y1 = _ from k1, show y2 = _ from k2, show y3 = _ from k3]
  unfold cel tri
  rw [p1, p2, p3]
  rfl
end
end Ev
end Go.Proofs.YtepnghhgmjobjaaGreatDoor
namespace Go.Proofs.YtepnghhgmjobjaaGreatDoor
open Go Go.RowKit
namespace Ev
def tbeq (x y : Tri) : Bool := x.1 == y.1 && (x.2.1.toList == y.2.1.toList && x.2.2.toList == y.2.2.toList)
theorem tbeq_iff {x y : Tri} : tbeq x y = true ↔ x = y := by
  obtain ⟨a, s, t⟩ := x
  obtain ⟨b, u, v⟩ := y
  have key : ∀ p q : ByteArray, (p.toList == q.toList) = true ↔ p = q := fun p q => by
    rw [beq_iff_eq, ByteArray.toList_eq, ByteArray.toList_eq]
    obtain ⟨⟨p⟩⟩ := p
    obtain ⟨⟨q⟩⟩ := q
    simp
  simp only [tbeq, Bool.and_eq_true, key, beq_iff_eq, Prod.mk.injEq]
theorem eqIn_frac (d : Nat) (x y : Tri) (w : World) : (Op.equalIn (d + 2) 24 (.agg ⟨cel x⟩) (.agg ⟨cel y⟩)).run Tryz.prog w = .ok (tbeq x y) w := by
  have hS : Tryz.prog.underlying 24 = some (.struct (Tryz.prog.fieldsOf 24)) := by kernel_rfl
  have hp : Tryz.prog.stoodInHeld 24 = false := by kernel_rfl
  obtain ⟨a, s, t⟩ := x
  obtain ⟨b, u, v⟩ := y
  rw [show d + 2 = (d + 1) + 1 from rfl, run_equalIn_struct w (d + 1) 24 _ _ hS hp]
  simp only [Program.fieldsOf, Tryz.underlying24, cel, tbeq]
  generalize hx : (s.toList == u.toList) = b1
  generalize hy : (t.toList == v.toList) = b2
  cases a <;> cases b <;> cases b1 <;> cases b2 <;> go_simp <;> simp [hx, hy]
theorem eqIn_gauss (d : Nat) (x y z u : Tri) (w : World) : (Op.equalIn (d + 3) 26 (.agg ⟨cel x ++ cel y⟩) (.agg ⟨cel z ++ cel u⟩)).run Tryz.prog w = .ok (tbeq x z && tbeq y u) w := by
  have hS : Tryz.prog.underlying 26 = some (.struct (Tryz.prog.fieldsOf 26)) := by kernel_rfl
  have hp : Tryz.prog.stoodInHeld 26 = false := by kernel_rfl
  obtain ⟨x1, x2, x3⟩ := x
  obtain ⟨y1, y2, y3⟩ := y
  obtain ⟨z1, z2, z3⟩ := z
  obtain ⟨u1, u2, u3⟩ := u
  have e1 := fun (a b : Bool) (w : World) => run_equalIn_bool' (P := Tryz.prog) w d 4 a b Tryz.underlying4
  have e2 := fun (a b : ByteArray) (w : World) => run_equalIn_string (P := Tryz.prog) w d 9 a b Tryz.underlying9
  rw [show d + 3 = (d + 2) + 1 from rfl, run_equalIn_struct w (d + 2) 26 _ _ hS hp]
  simp only [Program.fieldsOf, Tryz.underlying26]
  go_simp
  simp only [cel, tbeq, e1, e2]
  generalize h1 : (x1 == z1) = b1
  generalize h2 : (x2.toList == z2.toList) = b2
  generalize h3 : (x3.toList == z3.toList) = b3
  generalize h4 : (y1 == u1) = b4
  generalize h5 : (y2.toList == u2.toList) = b5
  generalize h6 : (y3.toList == u3.toList) = b6
  cases b1 <;> cases b2 <;> cases b3 <;> cases b4 <;> cases b5 <;> cases b6 <;> simp only [beq_iff_eq, beq_eq_false_iff_ne, ne_eq] at h1 h2 h3 h4 h5 h6 <;> simp [e1, e2, h1, h2, h3, h4, h5, h6]
noncomputable def three (a b : Option Bool) : Option Bool := match a with
  | some x => cond x b (some false)
  | none => match b with
    | some y => cond y none (some false)
    | none => none
theorem three_ok {a b : Option Bool} {x y z : Bool} (ha : ∀ t, a = some t → t = x) (hb : ∀ t, b = some t → t = y) (h : three a b = some z) : z = (x && y) := by
  cases a with
  | some p =>
    have := ha p rfl
    subst this
    cases p with
    | true => exact hb z h
    | false => cases h; rfl
  | none =>
    cases b with
    | none => cases h
    | some q =>
      have := hb q rfl
      subst this
      cases q with
      | true => cases h
      | false => cases h; simp
noncomputable def sameO (A : List As) (l m : List Value) (o p : Option Qe) : Option Bool := match o with
  | some e => match p with
    | some f => cond (e.beq f) (some true) (ask A 2 e f)
    | none => match fitB A e with
      | some t => cond t (some false) none
      | none => none
  | none => match p with
    | some f => match fitB A f with
      | some t => cond t (some false) none
      | none => none
    | none => cond (eqL eq1 l m && plainL plain l) (some true) none
noncomputable def eq3 (A : List As) (l m : List Value) : M Sy (Option Bool) := bind (frcV l) fun o => bind (frcV m) fun p => ret (sameO A l m o p)
noncomputable def ansEq (op : BinOp) (b : Option Bool) : M Sy Nxt := match b with
  | some b => match op with
    | .eql => val (.bool b)
    | .neq => val (.bool (!b))
    | _ => fail
  | none => fail
noncomputable def eqCells (A : List As) (op : BinOp) (t : TypeId) (l m : List Value) : M Sy Nxt :=
  cond (Nat.beq t 24) (bind (eq3 A l m) (ansEq op))
    (cond (Nat.beq t 26) (bind (eq3 A (l.take 3) (m.take 3)) fun b => bind (eq3 A (l.drop 3) (m.drop 3)) fun c => ansEq op (three b c)) fail)
noncomputable def eqHard (A : List As) (o : Oper) (vs : List Value) : M Sy Nxt := match o.op with
  | .binOp op t _ _ _ => match vs with
    | [u, v] => match u with
      | .agg cs => match v with
        | .agg ds => eqCells A op t cs.toList ds.toList
        | _ => fail
      | _ => fail
    | _ => fail
  | _ => fail
theorem loc_eq3 (A : List As) (l m : List Value) : Loc (eq3 A l m) := loc_bind (loc_frcV _) fun _ => loc_bind (loc_frcV _) fun _ => loc_ret _
theorem loc_ansEq (op : BinOp) (b : Option Bool) : Loc (ansEq op b) := by
  unfold ansEq
  (repeat' split) <;> first | exact loc_val _ | exact loc_fail
theorem loc_eqHard (A : List As) (o : Oper) (vs : List Value) : Loc (eqHard A o vs) := by
  unfold eqHard
  (repeat' split) <;> first
    | exact loc_fail
    | exact loc_cond (loc_bind (loc_eq3 _ _ _) fun _ => loc_ansEq _ _) (loc_cond (loc_bind (loc_eq3 _ _ _) fun _ => loc_bind (loc_eq3 _ _ _) fun _ => loc_ansEq _ _) loc_fail)
theorem frc_tri {ρ : Env} {l : List Value} {o : Option Qe} (h : FrcIs ρ l o) : ∃ x : Tri, l = cel x ∧ (∀ e, o = some e → x = tri (e.ev ρ.q)) ∧ (o = none → BadF x) := by
  cases o with
  | some e =>
    obtain rfl : l = _ := h
    exact ⟨tri (e.ev ρ.q), rfl, fun e' he => by cases he; rfl, fun h => (by cases h)⟩
  | none =>
    obtain ⟨x, hx, rfl⟩ := h
    exact ⟨x, rfl, fun e' he => (by cases he), fun _ => hx⟩
section
variable {ρ : Env} {A : List As} {h h' : Tr (Blk Sy)} {nx nx' : Nat} {R W : List Nat} {r : Ren} {w : World}
theorem cel_inj {x y : Tri} (h : cel x = cel y) : x = y := by
  obtain ⟨a, s, t⟩ := x
  obtain ⟨b, u, v⟩ := y
  simp only [cel, List.cons.injEq, Value.bool.injEq, Value.string.injEq, and_true] at h
  obtain ⟨rfl, rfl, rfl⟩ := h
  rfl
theorem eq3_ok (hA : AllH ρ A) {l m l' m' : List Value} {b : Option Bool} (e : eq3 A l m h nx = .ok b h' nx' R W) (hl : VsR r l l') (hm : VsR r m m') (hM : Mod (symSig ρ) r h.get w) :
    h' = h ∧ nx' = nx ∧ W = [] ∧ ∃ x y : Tri, l' = cel x ∧ m' = cel y ∧ ∀ t, b = some t → t = tbeq x y := by
  obtain ⟨o, h1, nx1, R1, W1, R2, W2, q1, q2, rfl, rfl⟩ := bind_ok e
  obtain ⟨rfl, rfl, rfl, i1⟩ := frcV_ok q1 hl hM
  obtain ⟨p, h2, nx2, R3, W3, R4, W4, q3, q4, rfl, rfl⟩ := bind_ok q2
  obtain ⟨rfl, rfl, rfl, i2⟩ := frcV_ok q3 hm hM
  obtain ⟨rfl, rfl, rfl, rfl⟩ := ret_ok q4
  obtain ⟨x, rfl, x1, x2⟩ := frc_tri i1
  obtain ⟨y, rfl, y1, y2⟩ := frc_tri i2
  refine ⟨rfl, rfl, by simp, x, y, rfl, rfl, fun t ht => ?_⟩
  have neg : x ≠ y → tbeq x y = false := fun hn => by
    cases hb : tbeq x y with
    | false => rfl
    | true => exact absurd (tbeq_iff.1 hb) hn
  unfold sameO at ht
  cases o with
  | some e0 =>
    have hx := x1 e0 rfl
    cases p with
    | some f =>
      have hy := y1 f rfl
      simp only at ht
      cases hb : e0.beq f with
      | true =>
        rw [hb] at ht
        cases ht
        rw [hx, hy, Qe.beq_ok _ _ hb]
        exact (tbeq_iff.2 rfl).symm
      | false =>
        rw [hb] at ht
        have hs := ask_same hA ht
        cases t with
        | true => rw [hx, hy, hs.1 rfl]; exact (tbeq_iff.2 rfl).symm
        | false =>
          refine (neg fun h => ?_).symm
          rw [hx, hy] at h
          have := hs.2 (tri_inj h)
          cases this
    | none =>
      simp only at ht
      cases hf : fitB A e0 with
      | none => rw [hf] at ht; cases ht
      | some u =>
        rw [hf] at ht
        cases u with
        | false => cases ht
        | true =>
          cases ht
          refine (neg fun h => ?_).symm
          have hbad := y2 rfl
          rw [← h, hx] at hbad
          exact not_bad ((fitB_ok hA hf).1 rfl) hbad
  | none =>
    cases p with
    | some f =>
      have hy := y1 f rfl
      simp only at ht
      cases hf : fitB A f with
      | none => rw [hf] at ht; cases ht
      | some u =>
        rw [hf] at ht
        cases u with
        | false => cases ht
        | true =>
          cases ht
          refine (neg fun h => ?_).symm
          have hbad := x2 rfl
          rw [h, hy] at hbad
          exact not_bad ((fitB_ok hA hf).1 rfl) hbad
    | none =>
      simp only at ht
      cases hk : (eqL eq1 l m && plainL plain l) with
      | false => rw [hk] at ht; cases ht
      | true =>
        rw [hk] at ht
        cases ht
        simp only [Bool.and_eq_true] at hk
        have e1 := eqL_ok eq1_ok hk.1
        subst e1
        have e2 := hl.eq_of_plain hk.2
        have e3 := hm.eq_of_plain hk.2
        rw [← e2] at e3
        rw [cel_inj e3]
        exact (tbeq_iff.2 rfl).symm
theorem run_eqs (op : BinOp) (t : TypeId) (x y : Operand) (cs ds : Array Value) (b : Bool) (v : Value) (hm : Tryz.prog.eqGuardType Tryz.prog.depth t = false) (he : (Op.equalIn 10000 t (.agg cs) (.agg ds)).run Tryz.prog w = .ok b w) (hv : (op = .eql ∧ v = .bool b) ∨ (op = .neq ∧ v = .bool (!b))) :
    (do eqGuard op t x y (.agg cs) (.agg ds); binOp op t (.agg cs) (.agg ds) : Sem Value).run Tryz.prog w = .ok v w := by
  have hg := run_eqGuard_agg (P := Tryz.prog) w op t x y cs ds hm
  have he' : (Op.equal t (.agg cs) (.agg ds)).run Tryz.prog w = .ok b w := he
  rcases hv with ⟨rfl, rfl⟩ | ⟨rfl, rfl⟩
  · rw [Sem.run_bind, hg]
    simp [binOp, he']
  · rw [Sem.run_bind, hg]
    simp [binOp, he']
theorem ansEq_ok {op : BinOp} {b : Option Bool} {x : Nxt} (e : ansEq op b h nx = .ok x h' nx' R W) : h' = h ∧ nx' = nx ∧ W = [] ∧ ∃ t v, b = some t ∧ x = .val v ∧ ((op = .eql ∧ v = .bool t) ∨ (op = .neq ∧ v = .bool (!t))) := by
  unfold ansEq at e
  cases b with
  | none => cases (show (fail : M Sy Nxt) h nx = _ from e)
  | some t =>
    cases op with
    | eql =>
      obtain ⟨rfl, rfl, rfl, rfl⟩ := val_ok (show (val (.bool t) : M Sy Nxt) h nx = _ from e)
      exact ⟨rfl, rfl, rfl, t, _, rfl, rfl, .inl ⟨rfl, rfl⟩⟩
    | neq =>
      obtain ⟨rfl, rfl, rfl, rfl⟩ := val_ok (show (val (.bool (!t)) : M Sy Nxt) h nx = _ from e)
      exact ⟨rfl, rfl, rfl, t, _, rfl, rfl, .inr ⟨rfl, rfl⟩⟩
    | _ => cases (show (fail : M Sy Nxt) h nx = _ from e)
theorem eqHard_ok (hA : AllH ρ A) {C : Cfg Sy} (hC : C.hard = eqHard A) : HardOK (symSig ρ) Tryz.prog C := by
  intro o vs h nx x h' nx' R W hs e r w ρo hM hN hv
  rw [hC] at e
  unfold eqHard at e
  cases hop : o.op with
  | binOp op t p q yt =>
    rw [hop] at e
    simp only at e
    have hops : o.op.operands.toList.map ρo = [ρo p, ρo q] := by rw [hop]; rfl
    rw [hops] at hv
    rcases vs with _ | ⟨u, _ | ⟨v, _ | ⟨z, l⟩⟩⟩ <;> first | (cases (show (fail : M Sy Nxt) h nx = _ from e); done) | skip
    cases hv with
    | cons hu hv => cases hv with
      | cons hv hn =>
        cases u <;> first | (cases (show (fail : M Sy Nxt) h nx = _ from e); done) | skip
        rename_i cs
        cases v <;> first | (cases (show (fail : M Sy Nxt) h nx = _ from e); done) | skip
        rename_i ds
        obtain ⟨cl⟩ := cs
        obtain ⟨dl⟩ := ds
        obtain ⟨cl', hc1, hc2⟩ := vr_agg hu
        obtain ⟨dl', hd1, hd2⟩ := vr_agg hv
        simp only at e
        have fin : ∀ {b : Bool} {v : Value}, (Op.equalIn 10000 t (.agg ⟨cl'⟩) (.agg ⟨dl'⟩)).run Tryz.prog w = .ok b w → Tryz.prog.eqGuardType Tryz.prog.depth t = false → ((op = .eql ∧ v = .bool b) ∨ (op = .neq ∧ v = .bool (!b))) →
            (execOp ρo o).run Tryz.prog w = .ok (.value v) w := fun he hm hv => by
          have := run_eqs op t p q ⟨cl'⟩ ⟨dl'⟩ _ _ hm he hv
          simp only [execOp, hop, hc1, hd1]
          rw [Sem.run_bind, this]
          rfl
        unfold eqCells at e
        cases ht : Nat.beq t 24 with
        | true =>
          rw [ht] at e
          simp only [cond_true] at e
          have htt := Nat.eq_of_beq_eq_true ht
          obtain ⟨b, h1, nx1, R1, W1, R2, W2, e1, e2, rfl, rfl⟩ := bind_ok e
          obtain ⟨rfl, rfl, rfl, x1, y1, rfl, rfl, hb⟩ := eq3_ok hA e1 hc2 hd2 hM
          obtain ⟨rfl, rfl, rfl, t1, v1, rfl, rfl, hv1⟩ := ansEq_ok e2
          have := hb t1 rfl
          subst this
          refine ⟨Nat.le_refl _, v1, w, r, fin (by rw [htt]; exact eqIn_frac 9998 x1 y1 w) (by rw [htt]; kernel_rfl) hv1, ?_, by simpa using Ext.refl _ _ hM⟩
          rcases hv1 with ⟨_, rfl⟩ | ⟨_, rfl⟩ <;> exact .same rfl
        | false =>
          rw [ht] at e
          simp only [cond_false] at e
          cases ht2 : Nat.beq t 26 with
          | false => rw [ht2] at e; cases (show (fail : M Sy Nxt) h nx = _ from e)
          | true =>
            rw [ht2] at e
            simp only [cond_true] at e
            have htt := Nat.eq_of_beq_eq_true ht2
            obtain ⟨b, h1, nx1, R1, W1, R2, W2, e1, e2, rfl, rfl⟩ := bind_ok e
            obtain ⟨rfl, rfl, rfl, x1, y1, hx1, hy1, hb⟩ := eq3_ok hA e1 (hc2.take 3) (hd2.take 3) hM
            obtain ⟨c, h2, nx2, R3, W3, R4, W4, e3, e4, rfl, rfl⟩ := bind_ok e2
            obtain ⟨rfl, rfl, rfl, x2, y2, hx2, hy2, hc⟩ := eq3_ok hA e3 (hc2.drop 3) (hd2.drop 3) hM
            obtain ⟨rfl, rfl, rfl, t1, v1, ht1, rfl, hv1⟩ := ansEq_ok e4
            have := three_ok hb hc ht1
            subst this
            have z1 : cl' = cel x1 ++ cel x2 := by rw [← hx1, ← hx2, List.take_append_drop]
            have z2 : dl' = cel y1 ++ cel y2 := by rw [← hy1, ← hy2, List.take_append_drop]
            refine ⟨Nat.le_refl _, v1, w, r, fin (by rw [htt, z1, z2]; exact eqIn_gauss 9997 x1 x2 y1 y2 w) (by rw [htt]; kernel_rfl) hv1, ?_, by simpa using Ext.refl _ _ hM⟩
            rcases hv1 with ⟨_, rfl⟩ | ⟨_, rfl⟩ <;> exact .same rfl
  | _ => rw [hop] at e; cases (show (fail : M Sy Nxt) h nx = _ from e)
end
end Ev
end Go.Proofs.YtepnghhgmjobjaaGreatDoor
namespace Go.Proofs.YtepnghhgmjobjaaGreatDoor
open Go Go.RowKit
namespace Ev
structure Ps where
  a : Qe
  b : Qe
  t : Bool
def Ps.holds (ρ : Nat → Rat) (x : Ps) : Prop := x.t = true ↔ (Fit (x.a.ev ρ) ∧ Fit (x.b.ev ρ))
noncomputable def both (o p : Option Qe) : Option (Qe × Qe) := match o with
  | some e => match p with
    | some f => some (e, f)
    | none => none
  | none => none
section
variable {ρ : Env} {A : List As} {B : List Ps} {h h' : Tr (Blk Sy)} {nx nx' : Nat} {R W : List Nat} {r : Ren} {w : World}
theorem frs_holds (w : World) (e : Qe) : HoldsL (symSig ρ) w (frs e) (cel (tri (e.ev ρ.q))) := frac_holds (w := w) e
theorem mod_G {F : Type} {S : Sig F} {g : Nat → Option (Blk F)} (hM : Mod S r g w) (hG : S.G = Tryz.prog.globals.size) : Tryz.prog.globals.size ≤ w.heap.size := by
  rcases Nat.eq_zero_or_pos Tryz.prog.globals.size with h0 | h0
  · omega
  · have := hM.lt _ _ (hM.glob (Tryz.prog.globals.size - 1) (by rw [hG]; omega))
    omega
end
end Ev
end Go.Proofs.YtepnghhgmjobjaaGreatDoor
namespace Go.Proofs.YtepnghhgmjobjaaGreatDoor
open Go Go.RowKit
namespace Ev
set_option maxRecDepth 100000
noncomputable def kAdd (x y : Qe × Qe) : Qe × Qe := (.add x.1 y.1, .add x.2 y.2)
noncomputable def kSub (x y : Qe × Qe) : Qe × Qe := (.sub x.1 y.1, .sub x.2 y.2)
noncomputable def kMul (x y : Qe × Qe) : Qe × Qe := (.sub (.mul x.1 y.1) (.mul x.2 y.2), .add (.mul x.1 y.2) (.mul x.2 y.1))
section
variable {ρ : Env} {A : List As} {B : List Ps}
end
noncomputable def withF (l : List Fact) (s : Sums Sy) : Sums Sy := fun f args => match look f args l with
  | some v => some (ret v)
  | none => s f args
theorem withF_ok {ρ : Env} {l : List Fact} (hl : ∀ x ∈ l, x.ok) {s : Sums Sy} (hs : SumOK (symSig ρ) Tryz.prog s) : SumOK (symSig ρ) Tryz.prog (withF l s) := by
  refine ⟨fun f args m e => ?_, fun f args m e h nx v h' nx' R W hr r w args' ha hM hN => ?_⟩
  · unfold withF at e
    cases hk : look f args l with
    | none => rw [hk] at e; exact hs.loc f args m e
    | some v => rw [hk] at e; cases e; exact loc_ret _
  · unfold withF at e
    cases hk : look f args l with
    | none => rw [hk] at e; exact hs.run f args m e h nx v h' nx' R W hr r w args' ha hM hN
    | some u =>
      rw [hk] at e
      cases e
      obtain ⟨x, hx, rfl, rfl, rfl⟩ := look_ok hk
      obtain ⟨h1, h2, h3⟩ := hl x hx
      obtain rfl : args' = x.args := VsR_eq h1 ha
      exact goes_pl hr.ok h2 hM (h3 w (mod_G hM rfl) hM.base)
noncomputable def works2 : Fact := ⟨18, [], .bool true⟩
theorem works2_ok : works2.ok := Fact.of_run (n := 40) (by kernel_rfl) rfl
end Ev
end Go.Proofs.YtepnghhgmjobjaaGreatDoor
namespace Go.Proofs.YtepnghhgmjobjaaGreatDoor
open Go Go.RowKit
namespace Ev
set_option maxRecDepth 100000
noncomputable def lawC (A : List As) : Cfg Sy := symCfg (eqHard A)
instance lawHard (A : List As) : HardLoc (lawC A) := ⟨loc_eqHard A⟩
theorem lawFits {ρ : Env} {A : List As} (hA : AllH ρ A) : Fits (symSig ρ) Tryz.prog (lawC A) where
  hid := rfl
  G := rfl
  len := symLen_ok ρ
  tab := natFits.tab
  mixed := natFits.mixed
  hard := eqHard_ok hA rfl
noncomputable def inp6 (a b c d e f : Bool) : List Sy := inp a 0 ++ (inp b 1 ++ (inp c 2 ++ (inp d 3 ++ (inp e 4 ++ inp f 5))))
noncomputable def yes : D3 Sy := .one (.one (.p (.bool true)))
noncomputable def lx : Qe × Qe := (.v 0, .v 1)
noncomputable def ly : Qe × Qe := (.v 2, .v 3)
noncomputable def lz : Qe × Qe := (.v 4, .v 5)
noncomputable def pr (p : Qe × Qe) (t : Bool) : Ps := ⟨p.1, p.2, t⟩
noncomputable def la : Qe × Qe := kAdd lx ly
noncomputable def lb : Qe × Qe := kAdd ly lx
noncomputable def lc : Qe × Qe := kMul lx ly
noncomputable def ld : Qe × Qe := kMul ly lx
noncomputable def lp : Qe × Qe := kAdd la lz
noncomputable def lq : Qe × Qe := kAdd ly lz
noncomputable def lr : Qe × Qe := kAdd lx lq
noncomputable def ls : Qe × Qe := kMul la lz
noncomputable def lt : Qe × Qe := kMul lx lz
noncomputable def lu : Qe × Qe := kMul ly lz
noncomputable def lk : Qe × Qe := kSub la ly
noncomputable def lB (s t : Bool) : List Ps := [pr la s, pr lb s, pr lc t, pr ld t]
end Ev
end Go.Proofs.YtepnghhgmjobjaaGreatDoor
namespace Go.Proofs.YtepnghhgmjobjaaGreatDoor
open Go Go.RowKit
namespace Ev
set_option maxRecDepth 100000
end Ev
end Go.Proofs.YtepnghhgmjobjaaGreatDoor
namespace Go.Proofs.YtepnghhgmjobjaaGreatDoor
open Go Go.RowKit
namespace Ev
structure In6 (x y z u s t : Tri) where
  ρ : Env
  a : Bool
  b : Bool
  c : Bool
  d : Bool
  e : Bool
  f : Bool
  hx : (a = true → x = tri (ρ.q 0)) ∧ (a = false → x = ρ.raw 0)
  hy : (b = true → y = tri (ρ.q 1)) ∧ (b = false → y = ρ.raw 1)
  hz : (c = true → z = tri (ρ.q 2)) ∧ (c = false → z = ρ.raw 2)
  hu : (d = true → u = tri (ρ.q 3)) ∧ (d = false → u = ρ.raw 3)
  hs : (e = true → s = tri (ρ.q 4)) ∧ (e = false → s = ρ.raw 4)
  ht : (f = true → t = tri (ρ.q 5)) ∧ (f = false → t = ρ.raw 5)
theorem In6.holds {x y z u s t : Tri} (i : In6 x y z u s t) (w : World) : HoldsL (symSig i.ρ) w (inp6 i.a i.b i.c i.d i.e i.f) (cel x ++ (cel y ++ (cel z ++ (cel u ++ (cel s ++ cel t))))) :=
  holdsL_append (inp_holds i.hx.1 i.hx.2) (holdsL_append (inp_holds i.hy.1 i.hy.2) (holdsL_append (inp_holds i.hz.1 i.hz.2) (holdsL_append (inp_holds i.hu.1 i.hu.2) (holdsL_append (inp_holds i.hs.1 i.hs.2) (inp_holds i.ht.1 i.ht.2)))))
end Ev
end Go.Proofs.YtepnghhgmjobjaaGreatDoor
namespace Go.Proofs.YtepnghhgmjobjaaGreatDoor
open Go Go.RowKit
namespace Ev
set_option maxRecDepth 100000
structure I64 (q : Rat) : Prop where
  lo : -9223372036854775808 ≤ q.num
  hi : q.num ≤ 9223372036854775807
  den : q.den = 1
theorem ofQ_num {q : Rat} (h : q.den = 1) : ofQ q.num 1 = q := by
  unfold ofQ
  apply Rat.ext
  · cases hn : decide (q.num < 0) with
    | true =>
      have := of_decide_eq_true hn
      show (mkRat (Big.sI (true != false) q.num.natAbs) 1).num = _
      simp [Big.sI, Rat.mkRat_one]
      omega
    | false =>
      have := of_decide_eq_false hn
      show (mkRat (Big.sI (false != false) q.num.natAbs) 1).num = _
      simp [Big.sI, Rat.mkRat_one]
      omega
  · rw [h]
    show (mkRat _ 1).den = 1
    rw [Rat.mkRat_one]; rfl
theorem quo_one' {q : Rat} (h : q.den = 1) : ((q.num : Int) : Rat) / ((1 : Int) : Rat) = q := by
  have e : ((q.num : Int) : Rat) = q := by
    apply Rat.ext
    · rfl
    · exact h.symm
  rw [e, show ((1 : Int) : Rat) = 1 from rfl, Rat.div_def, show (1 : Rat)⁻¹ = 1 by grind, Rat.mul_one]
noncomputable def varOf : Sy → Option Nat
  | .it e => match e with
    | .v i => some i
    | _ => none
  | _ => none
theorem varOf_ok {ρ : Env} {f : Sy} {i : Nat} {w : World} {v : Value} (h : varOf f = some i) (hf : f.holds ρ w v) : v = .int .i64 (ρ.q i).num := by
  unfold varOf at h
  split at h
  · split at h
    · cases h; exact hf
    · cases h
  · cases h
section
variable {ρ : Env}
noncomputable def gofS (args : List Value) : Option (M Sy Value) := match args with
  | [a, b] => some (bind (knw varOf a) fun i => bind (knw varOf b) fun j => bind (newFacts (frs (.v i) ++ frs (.v j))) fun vs => ret (.agg ⟨vs⟩))
  | _ => none
noncomputable def rofS (args : List Value) : Option (M Sy Value) := match args with
  | [a, b] => match b with
    | .int k z => cond (decide (k = .i64) && decide (z = 1)) (some (bind (knw varOf a) fun i => bind (newFacts (frs (.v i))) fun vs => ret (.agg ⟨vs⟩))) none
    | _ => none
  | _ => none
theorem s_gof (hv : ∀ i, I64 (ρ.q i)) : SumF (symSig ρ) Tryz.prog 9 gofS := by
  intro args m e
  unfold gofS at e
  rcases args with _ | ⟨a, _ | ⟨b, _ | ⟨c, l⟩⟩⟩ <;> simp only [reduceCtorEq, Option.some.injEq] at e
  subst e
  refine ⟨loc_bind (loc_knw _ _) fun o => loc_bind (loc_knw _ _) fun o => loc_bind (loc_newFacts _) fun _ => loc_ret _, ?_⟩
  intro h nx v h' nx' R W e r w args' ha hM hN
  cases ha with
  | cons ha hb =>
  cases hb with
  | cons hb hc =>
  cases hc
  obtain ⟨i, h1, nx1, R1, W1, R2, W2, e1, e2, rfl, rfl⟩ := bind_ok e
  obtain ⟨rfl, rfl, rfl, f1, hf1, hx⟩ := knw_ok e1 ha hM
  obtain ⟨j, h2, nx2, R3, W3, R4, W4, e3, e4, rfl, rfl⟩ := bind_ok e2
  obtain ⟨rfl, rfl, rfl, f2, hf2, hy⟩ := knw_ok e3 hb hM
  obtain rfl := varOf_ok hf1 hx
  obtain rfl := varOf_ok hf2 hy
  have c := gaussOf_any w (ρ.q i).num (ρ.q j).num (hv i).lo (hv i).hi (hv j).lo (hv j).hi
  rw [ofQ_num (hv i).den, ofQ_num (hv j).den] at c
  simpa [GoesS] using goes_agg e4 hM hN (c.mono fun _ w' hh => ⟨_, hh.1, holdsL_append (frs_holds w' (.v i)) (frs_holds w' (.v j)), hh.2⟩)
theorem s_rof (hv : ∀ i, I64 (ρ.q i)) : SumF (symSig ρ) Tryz.prog 20 rofS := by
  intro args m e
  unfold rofS at e
  rcases args with _ | ⟨a, _ | ⟨b, _ | ⟨c, l⟩⟩⟩ <;> simp only [reduceCtorEq] at e
  cases b <;> simp only [reduceCtorEq] at e
  rename_i k z
  cases hk : (decide (k = .i64) && decide (z = 1)) with
  | false => rw [hk] at e; cases e
  | true =>
  rw [hk] at e
  simp only [cond_true, Option.some.injEq] at e
  simp only [Bool.and_eq_true, decide_eq_true_eq] at hk
  obtain ⟨rfl, rfl⟩ := hk
  subst e
  refine ⟨loc_bind (loc_knw _ _) fun o => loc_bind (loc_newFacts _) fun _ => loc_ret _, ?_⟩
  intro h nx v h' nx' R W e r w args' ha hM hN
  cases ha with
  | cons ha hb =>
  cases hb with
  | cons hb hc =>
  cases hc
  obtain rfl := hb.int
  obtain ⟨i, h1, nx1, R1, W1, R2, W2, e1, e2, rfl, rfl⟩ := bind_ok e
  obtain ⟨rfl, rfl, rfl, f1, hf1, hx⟩ := knw_ok e1 ha hM
  obtain rfl := varOf_ok hf1 hx
  have c := refOf_any (w := w) (ρ.q i).num 1 (hv i).lo (hv i).hi (by omega) (by omega) (by omega) (mod_G hM rfl) hM.base
  rw [quo_one' (hv i).den] at c
  simpa [GoesS] using goes_agg e2 hM hN (c.mono fun _ w' hh => ⟨_, hh.1, frs_holds w' (.v i), hh.2⟩)
noncomputable def gwSums : Sums Sy := withF [works2] (sumsOf (mkTab [(9, gofS), (20, rofS)]))
theorem gwSums_ok (hv : ∀ i, I64 (ρ.q i)) : SumOK (symSig ρ) Tryz.prog gwSums :=
  withF_ok (fun x hx => by
    simp only [List.mem_cons, List.not_mem_nil, or_false] at hx
    subst hx; exact works2_ok) (sumsOf_ok fun x hx => by
    simp only [List.mem_cons, List.not_mem_nil, or_false] at hx
    rcases hx with rfl | rfl
    · exact s_gof hv
    · exact s_rof hv)
end
theorem gwh_run : tells [.it v0, .it v1] [.one, .one] (call Tryz.prog (lawC []) gwSums 20 4) = some yes := by kernel_rfl
theorem i64_by {q : Rat} (h : I64 q) : By 8 q := by
  have h1 := h.lo
  have h2 := h.hi
  refine ⟨?_, ?_⟩
  · show q.num.natAbs < 256 ^ 8
    omega
  · show q.den < 256 ^ 8
    rw [h.den]; decide
theorem i64_fit {q : Rat} (h : I64 q) : Fit q := (i64_by h).fit (by omega)
theorem fit_nought : Fit 0 := ⟨by decide, by decide⟩
theorem gaussWholes_any (w : World) (n m : Int) (h1 : -9223372036854775808 ≤ n) (h2 : n ≤ 9223372036854775807) (h3 : -9223372036854775808 ≤ m) (h4 : m ≤ 9223372036854775807) (hG : Tryz.prog.globals.size ≤ w.heap.size) (hT : Tab w) :
    Calls Tryz.prog 4 ⟨[.int .i64 n, .int .i64 m]⟩ w fun e w' => e = .returned (.bool true) ∧ Below w.heap.size w w' := by
  have in_ : I64 (n : Rat) := ⟨h1, h2, rfl⟩
  have im : I64 (m : Rat) := ⟨h3, h4, rfl⟩
  have i0 : I64 (0 : Rat) := ⟨by decide, by decide, rfl⟩
  obtain ⟨ρ, hρ⟩ : ∃ ρ, envOf (n : Rat) (m : Rat) 0 0 (i64_fit in_) (i64_fit im) fit_nought fit_nought = ρ := ⟨_, rfl⟩
  have hv : ∀ i, I64 (ρ.q i) := by rw [← hρ]; exact pick_all in_ im i0 i0
  have q0 : ρ.q 0 = (n : Rat) := by rw [← hρ]; rfl
  have q1 : ρ.q 1 = (m : Rat) := by rw [← hρ]; rfl
  have hu : HoldsL (symSig ρ) w [.it v0, .it v1] [.int .i64 n, .int .i64 m] := by
    refine ⟨_, _, rfl, ?_, rfl, _, _, rfl, ?_, rfl, rfl⟩
    · show Value.int .i64 n = .int .i64 (ρ.q 0).num
      rw [q0]; rfl
    · show Value.int .i64 m = .int .i64 (ρ.q 1).num
      rw [q1]; rfl
  exact (tells_calls (lawFits (A := []) (fun _ h => by cases h)) (gwSums_ok hv) gwh_run rfl glob_few hu hG hT).mono fun e w' hh => by
    obtain ⟨v', rfl, hv, hb⟩ := hh
    exact ⟨by rw [show v' = .bool true from hv], hb⟩
end Ev
end Go.Proofs.YtepnghhgmjobjaaGreatDoor
namespace Go.Proofs.YtepnghhgmjobjaaGreatDoor
open Go.ChangeShapes Go.WideShapes Go.ChangeAt Go.RowKit
theorem own : ownKnob Tryz.prog.godebug = none := by kernel_rfl
section
variable {H : Type} {enc : TypeId × Value → H} {P : Program}
theorem post_new {f : Func} {s : ChangeSpec} {apart fresh handsOn again : Bool} {W W' : World} {args : Array Value} {v : Value} {ds gs : List (DataW H)}
    (hW : DataW.Whole enc P f.params.toList s.vars apart W args.toList ds gs [])
    (hres : ∀ (b : Nat) (sp : Nat → Bool) (hd : Bool), DataW.TrodAll enc P W' b sp hd f.resultTypes.toList (v.resultList f.resultTypes.size) (s.fn H (ds ++ gs)).results [])
    (hargs : ∀ sp : Nat → Bool, DataW.TrodAll enc P W' 0 sp true f.params.toList args.toList (s.fn H (ds ++ gs)).args [])
    (hvars : ∀ sp : Nat → Bool, DataW.TrodVars enc P W' sp s.vars (s.fn H (ds ++ gs)).vars [])
    (hb : Below W.heap.size W W')
    (hok : ∀ (j : Nat) (t : TypeId) (r : Value), f.resultTypes[j]? = some t → (v.resultList f.resultTypes.size)[j]? = some r → Value.okWide P W' .any 0 t r) :
    s.post enc P f apart fresh handsOn again W args v W' := by
  have hk : W.keptBut W' (fun p => p ∈ ([] : List MemPlace)) := hb.frame _
  refine ⟨ds, gs, [], [], [], [], hW, hres _ _ _, hargs _, hvars _, World.keptBut_mono (fun p hp => by cases hp) hk, fun _ => ?_⟩
  refine ⟨hok, _, _, [], ⟨[], [], trodAll_append (hargs _) (hres _ _ _), hvars _, rfl, ?_, ?_⟩, ?_⟩
  · intro b off hp; cases hp
  · intro _; simp
  · intro p hp; cases hp
end
theorem glob_size {W : World} (h : W.ShapedOpen Tryz.prog) : Tryz.prog.globals.size ≤ W.heap.size := by
  have hb : Nat.ble (Tryz.prog.globals.size + 1) (begin Tryz.prog (fun _ _ => 0) default).world.heap.size = true := by kernel_rfl
  obtain ⟨o, o0, h1, -⟩ := h.2 Tryz.prog.globals.size (Nat.le_refl _) (Nat.le_of_ble_eq_true hb)
  exact Nat.le_of_lt (Array.getElem?_eq_some_iff.1 h1).1
end Go.Proofs.YtepnghhgmjobjaaGreatDoor
namespace Go.Proofs.YtepnghhgmjobjaaGreatDoor
open Go.ChangeShapes Go.WideShapes Go.ChangeAt Go.RowKit
theorem gTab : Tryz.prog.globalNamed "internal/strconv.uint64pow10" = some 6 := by kernel_rfl
end Go.Proofs.YtepnghhgmjobjaaGreatDoor
namespace Go.Proofs.YtepnghhgmjobjaaGreatDoor
open Go.ChangeShapes Go.WideShapes Go.ChangeAt Go.RowKit
theorem tTab : (Tryz.prog.globals[6]?).map (·.type) = some 295 := by kernel_rfl
theorem dTab : (Rows.laid_internal_strconv_uint64pow10 : DataW Unit) = Lib.tabData .u64 Lib.pow10Tab := by rfl
theorem cTab : Tryz.prog.cellsOf 295 = 20 := by kernel_rfl
theorem ceTab : Tryz.prog.cellsOf 63 = 1 := by kernel_rfl
end Go.Proofs.YtepnghhgmjobjaaGreatDoor
namespace Go.Proofs.YtepnghhgmjobjaaGreatDoor
open Go.ChangeShapes Go.WideShapes Go.ChangeAt Go.RowKit
theorem handed_both {H : Type} {enc : TypeId × Value → H} {C : Checked} {os : Os} {f : FuncId} {fn : Func} {s : ChangeSpec} {apart fresh handsOn again : Bool} {X : World → Array Value → Prop}
    (hX : ∀ (w w' : World) (args : Array Value), w.heap = w'.heap → X w args → X w' args)
    (hown : ownKnob C.prog.godebug = none) (started : os.Started) (noInit : C.prog.inits.idxOf? f = none) (hfn : C.prog.funcs[f]? = some fn)
    (witness : ∃ (w : World) (tape : Tape) (i : Input), w.os = os ∧ (w.forCall tape i).Shaped C.prog ∧ i.vars = [] ∧ Input.okWide C.prog (w.forCall tape i) .any w.heap.size f i ∧
      ((s.pre enc C.prog fn [] apart (w.forCall tape i).memory i.args ∧ X (w.forCall tape i).memory i.args) ∧ sizedMet enc C.prog fn (OpenSpec.ofChange s) apart (w.forCall tape i).memory i.args) ∧ Assume.holds {} C.prog (lone (Frame.enter C.prog f i.args .normal) [] (w.forCall tape i)))
    (contract : ∀ (W : World) (base : Nat) (args : Array Value) (ds gs : List (DataW H)) (before : List MemPlace),
      (∀ (j : Nat) t v, fn.params[j]? = some t → args[j]? = some v → Value.okWide C.prog W .any base t v) →
      DataW.Whole enc C.prog fn.params.toList s.vars apart W args.toList ds gs before → X W args → W.ShapedOpen C.prog →
      Calls C.prog f args W fun e W' => ∃ v, e = .returned v ∧ s.post enc C.prog fn apart fresh handsOn again W args v W') :
    ReturnsInHanded {} C os f .any (fun w args => (s.pre enc C.prog fn [] apart w args ∧ X w args) ∧ sizedMet enc C.prog fn (OpenSpec.ofChange s) apart w args) (s.post enc C.prog fn apart fresh handsOn again) := by
  refine returnsInHanded_of_calls hown started noInit witness ?_
  intro w tape i _ hshape _ hin hp _
  obtain ⟨_, _, _, fn2, hfn2, _, _, _, _, hv⟩ := hin
  obtain rfl : fn2 = fn := Option.some.inj (hfn2.symm.trans hfn)
  obtain ⟨⟨⟨ds, gs, before, hwh, _⟩, hx⟩, _⟩ := hp
  refine (contract (w.forCall tape i) w.heap.size i.args ds gs before hv (DataW.Whole.of_heap (w' := w.forCall tape i) (by rfl) hwh) (hX _ _ _ (by rfl) hx) hshape).mono fun e W' ⟨v, he, hpost⟩ => ?_
  subst he
  exact ChangeSpec.post_blind hpost
end Go.Proofs.YtepnghhgmjobjaaGreatDoor
namespace Go.Proofs.YtepnghhgmjobjaaGreatDoor
open Go.ChangeShapes Go.WideShapes Go.ChangeAt Go.RowKit
def laidG : List (String × DataW Unit) := [("math/bits.deBruijn32tab", Rows.laid_math_bits_deBruijn32tab), ("math/bits.deBruijn64tab", Rows.laid_math_bits_deBruijn64tab), ("internal/strconv.uint64pow10", Rows.laid_internal_strconv_uint64pow10), ("unicode/utf8.acceptRanges", Rows.laid_unicode_utf8_acceptRanges), ("unicode/utf8.first", Rows.laid_unicode_utf8_first)]
theorem tab_of_laidG {W : World} (h : laidMetH Tryz.prog laidG W) : Tab W := by
  rw [MakeChecks.laidMetH_plain _ _ _ (by kernel_rfl)] at h
  obtain ⟨ps, ⟨g0, t0, cs0, f0, p0, q0, hg0, ht0, hv0, hd0, ⟨g1, t1, cs1, f1, p1, q1, hg1, ht1, hv1, hd1, ⟨g2, t2, cs2, f2, p2, q2, hg2, ht2, hv2, hd2, _, _⟩, _⟩, _⟩, _, _⟩ := h
  obtain rfl := Option.some.inj (gTab.symm.trans hg2)
  obtain rfl := Option.some.inj (tTab.symm.trans ht2)
  rw [dTab] at hd2
  show World.var? Tryz.prog W _ = _
  rw [hv2, ← Lib.cells_of_tab Tryz.underlying295 Tryz.underlying63 ceTab cTab hd2]
end Go.Proofs.YtepnghhgmjobjaaGreatDoor
namespace Go.Proofs.YtepnghhgmjobjaaGreatDoor
set_option maxRecDepth 100000
theorem gwholes_and {a b : Bool} (ha : a = true) (hb : b = true) : (a && b) = true := by rw [ha, hb]; rfl
theorem gwholes_c0 : ((Rows.gaussWholesRow).wf (OpenSpec.ofChange Rows.gaussWholesSpec)) = true := by kernel_rfl
theorem gwholes_c1 : (laidOutB Tryz.checked.prog) = true := by kernel_rfl
theorem gwholes_c2 : (mapsRowed Tryz.checked.prog) = true := by kernel_rfl
theorem gwholes_c3 : ((Tryz.f4).params.all ((Tryz.checked.prog).readableRec ·)) = true := by kernel_rfl
theorem gwholes_c4 : (namedTie Tryz.checked.prog (Rows.gaussWholesRow).named (Rows.gaussWholesSpec).vars) = true := by kernel_rfl
theorem gwholes_c5 : (((Rows.gaussWholesRow).stops == [])) = true := by kernel_rfl
theorem gwholes_c6 : (((Tryz.checked.prog).stops == [])) = true := by kernel_rfl
theorem gwholes_c7 : (((Rows.gaussWholesRow).knobs == [])) = true := by kernel_rfl
theorem gwholes_c8 : (((Tryz.checked.prog).stopKnobs == [])) = true := by kernel_rfl
theorem gwholes_c9 : (((Rows.gaussWholesRow).inPlace == (Tryz.checked.prog).inPlace 4)) = true := by kernel_rfl
theorem gwholes_c10 : (((Rows.gaussWholesRow).unfollowed == (Tryz.checked.prog).unfollowed 4)) = true := by kernel_rfl
theorem gwholes_c11 : (((Rows.gaussWholesRow).recurses == (Tryz.checked.prog).recurses 4)) = true := by kernel_rfl
theorem gwholes_c12 : (((Rows.gaussWholesRow).named == (Tryz.checked.prog).varsNamed 4)) = true := by kernel_rfl
theorem gwholes_c13 : (((Rows.gaussWholesRow).maps == ((Tryz.f4).params.toList ++ (Rows.gaussWholesSpec).plain.varTypes Tryz.checked.prog).any ((Tryz.checked.prog).mapsRec ·))) = true := by kernel_rfl
theorem gwholes_c14 : (((Rows.gaussWholesRow).ifaces == ((Tryz.f4).params.toList ++ (Rows.gaussWholesSpec).plain.varTypes Tryz.checked.prog).any ((Tryz.checked.prog).ifacesRec ·))) = true := by kernel_rfl
theorem gwholes_c15 : (((Rows.gaussWholesRow).mapsOut == (Tryz.checked.prog).mapsAmong (Tryz.f4).resultTypes.toList)) = true := by kernel_rfl
theorem gwholes_c16 : (((Rows.gaussWholesRow).loops == ((Tryz.f4).params.toList ++ (Rows.gaussWholesSpec).plain.varTypes Tryz.checked.prog).any ((Tryz.checked.prog).loopsFrom ·))) = true := by kernel_rfl
theorem gwholes_c17 : (((Rows.gaussWholesRow).wideKeys == ((Tryz.f4).params.toList ++ (Rows.gaussWholesSpec).plain.varTypes Tryz.checked.prog ++ (Tryz.f4).resultTypes.toList).any ((Tryz.checked.prog).wideKeysFrom ·))) = true := by kernel_rfl
theorem gwholes_c18 : ((Rows.gaussWholesSpec).vars.all ((Tryz.checked.prog).varReadable ·)) = true := by kernel_rfl
theorem gwholes_c19 : ((Tryz.f4).resultTypes.all (fun t => (Tryz.checked.prog).readableRec t && decide (t < (Tryz.checked.prog).types.size))) = true := by kernel_rfl
theorem gwholes_c20 : (((Rows.gaussWholesRow).ifacesOut == (Tryz.f4).resultTypes.toList.any ((Tryz.checked.prog).ifacesRec ·))) = true := by kernel_rfl
theorem gwholes_c21 : (((Rows.gaussWholesRow).loopsOut == (Tryz.f4).resultTypes.toList.any ((Tryz.checked.prog).loopsFrom ·))) = true := by kernel_rfl
theorem gwholes_c22 : (((Rows.gaussWholesRow).plainKeys == (Tryz.checked.prog).plainKeys)) = true := by kernel_rfl
theorem gwholes_c23 : ((Rows.gaussWholesRow).shortTexts.isNone) = true := by kernel_rfl
theorem gwholes_c24 : ((Tryz.checked.prog).stopsHeard) = true := by kernel_rfl
theorem gwholes_c25 : ((Tryz.checked.prog).mayEnter) = true := by kernel_rfl
theorem gwholes_c26 : (((Rows.gaussWholesRow).lifted == (Tryz.checked.prog).liftsFinal)) = true := by kernel_rfl
theorem gwholes_c27 : (((Tryz.checked.prog).make == some (Rows.gaussWholesRow).make)) = true := by kernel_rfl
theorem gwholes_c28 : (((Rows.gaussWholesRow).kinds == (if (Rows.gaussWholesRow).domain.isEmpty then [] else (Tryz.f4).params.toList.map fun t => match (Tryz.checked.prog).underlying t with | some (.int k) => some k | _ => none))) = true := by kernel_rfl
theorem gwholes_c29 : (((Rows.gaussWholesRow).pinned == (Rows.gaussWholesRow).pinnedBy)) = true := by kernel_rfl
theorem gwholes_c30 : (((Rows.gaussWholesRow).veiled == ((Tryz.f4).params.toList ++ (Rows.gaussWholesSpec).plain.varTypes Tryz.checked.prog ++ (Tryz.f4).resultTypes.toList).any ((Tryz.checked.prog).veiledRec ·))) = true := by kernel_rfl
theorem gwholes_c31 : ((Rows.gaussWholesRow).veiledFits Tryz.checked.prog (Tryz.f4).params.toList ((Tryz.f4).params.toList ++ (Rows.gaussWholesSpec).plain.varTypes Tryz.checked.prog ++ (Tryz.f4).resultTypes.toList)) = true := by kernel_rfl
theorem gwholes_closed : joinedFacts Tryz.checked.prog 4 Tryz.f4 Rows.gaussWholesSpec Rows.gaussWholesRow = true := (gwholes_and (gwholes_and (gwholes_and (gwholes_and (gwholes_and (gwholes_and (gwholes_and (gwholes_and (gwholes_and (gwholes_and (gwholes_and (gwholes_and (gwholes_and (gwholes_and (gwholes_and (gwholes_and (gwholes_and (gwholes_and (gwholes_and (gwholes_and (gwholes_and (gwholes_and (gwholes_and (gwholes_and (gwholes_and (gwholes_and (gwholes_and (gwholes_and (gwholes_and (gwholes_and (gwholes_and gwholes_c0 gwholes_c1) gwholes_c2) gwholes_c3) gwholes_c4) gwholes_c5) gwholes_c6) gwholes_c7) gwholes_c8) gwholes_c9) gwholes_c10) gwholes_c11) gwholes_c12) gwholes_c13) gwholes_c14) gwholes_c15) gwholes_c16) gwholes_c17) gwholes_c18) gwholes_c19) gwholes_c20) gwholes_c21) gwholes_c22) gwholes_c23) gwholes_c24) gwholes_c25) gwholes_c26) gwholes_c27) gwholes_c28) gwholes_c29) gwholes_c30) gwholes_c31)
end Go.Proofs.YtepnghhgmjobjaaGreatDoor
namespace Go.Proofs.YtepnghhgmjobjaaGreatDoor
set_option maxRecDepth 100000
theorem main_is : Tryz.checked.prog.mainIs = some (true, "c747b79b9f1a43fe4c34757cd8e5e2d31f120ab8e01a8c8bfa0c84ed34aa119a".toList) := by kernel_rfl
theorem looks_is : false = Tryz.checked.prog.looks [] := by kernel_rfl
end Go.Proofs.YtepnghhgmjobjaaGreatDoor
namespace Go.Proofs.YtepnghhgmjobjaaGreatDoor
set_option maxRecDepth 100000
theorem gwholes_goes : false = Rows.gaussWholesRow.goesBy Tryz.checked.prog := by kernel_rfl
end Go.Proofs.YtepnghhgmjobjaaGreatDoor
namespace Go.Proofs.YtepnghhgmjobjaaGreatDoor
open Go.ChangeShapes Go.WideShapes Go.ChangeAt Go.RowKit Go.ChangeMaps Ev
set_option maxRecDepth 100000 in
theorem gwholes_lifted (os : Os) (started : os.Started) (H : Type) (enc : TypeId × Value → H) :
    ReturnsInHanded {} Tryz.checked os 4 .any (fun w args => (Rows.gaussWholesSpec.pre enc Tryz.prog Tryz.f4 [] false w args ∧ laidMetH Tryz.prog laidG w) ∧ sizedMet enc Tryz.prog Tryz.f4 (OpenSpec.ofChange Rows.gaussWholesSpec) false w args)
      (Rows.gaussWholesSpec.post enc Tryz.prog Tryz.f4 false true false false) := by
  refine handed_both (C := Tryz.checked) (X := fun w _ => laidMetH Tryz.prog laidG w) (fun _ _ _ hh h => h.of_heap hh) own started (by kernel_rfl) Tryz.func4
    (ChangeSpec.witness_shaped (enc := enc) (C := Tryz.checked) (os := os) (X := fun w _ => laidMetH Tryz.prog laidG w) false (World.laidAll Tryz.prog os laidG) #[.int .i64 0, .int .i64 0] 8 (World.laidAll_os _ _ _) (World.shaped_of_ZipB (by kernel_rfl) (by kernel_rfl)) (by kernel_rfl) (by kernel_rfl) (by kernel_rfl)
      (by rw [MakeChecks.laidMetH_plain _ _ _ (by kernel_rfl)]; exact laidMet_laidAll _ (by kernel_rfl) (by kernel_rfl))) ?_
  intro W base args ds gs before hval0 hW hL hsh
  have hval : ∀ (j : Nat) t v, Tryz.f4.params[j]? = some t → args[j]? = some v → Value.okWide Tryz.prog W .any base t v := hval0
  have hW' := hW
  obtain ⟨p, q, hA0, hV, rfl, hfz, hnd⟩ := hW
  have hA : DataW.TrodAll enc Tryz.prog W 0 (fun _ => true) true Tryz.f4.params.toList args.toList ds p := hA0
  rw [Tryz.params4] at hA hval
  obtain ⟨v0, vs0, d0, ds0, p0, q0, hargs, rfl, rfl, h0, r0⟩ := trodAll_cons hA
  obtain ⟨v1, vs1, d1, ds1, p1, q1, ha1, rfl, rfl, h1, r1⟩ := trodAll_cons r0
  obtain ⟨hlast, rfl, rfl⟩ := trodAll_nil r1
  obtain rfl : args = #[v0, v1] := by cases args; simp_all
  obtain ⟨rfl, rfl⟩ := trodVars_none hV
  obtain ⟨n0, rfl, rfl, rfl, wn0⟩ := open_int Tryz.underlying2 (hval 0 2 v0 rfl rfl) h0
  obtain ⟨n1, rfl, rfl, rfl, wn1⟩ := open_int Tryz.underlying2 (hval 1 2 v1 rfl rfl) h1
  have hT := tab_of_laidG hL
  have hG := glob_size hsh
  clear hA0 hval0
  simp only [List.append_nil] at hW'
  refine (Ev.gaussWholes_any W n0 n1 (bounds_i64 wn0).1 (bounds_i64 wn0).2 (bounds_i64 wn1).1 (bounds_i64 wn1).2 hG hT).mono fun ee W' ⟨he, hb⟩ => ?_
  subst he
  exact ⟨_, rfl, post_new hW' (fun _ _ _ => (trodAll_cons_mk (shut_bool Tryz.underlying4 _) trodAll_mk0)) (fun sp => (trodAll_cons_mk (shut_int Tryz.underlying2 wn0) (trodAll_cons_mk (shut_int Tryz.underlying2 wn1) trodAll_mk0))) (fun _ => rfl)
    hb (ok_one (by kernel_rfl) rfl (okWide_bool_mk Tryz.underlying4 _))⟩
theorem gwholes_holds : Rows.GaussWholesSaid :=
  OpenClaim.holds_of_wide 4 Tryz.f4 rfl rfl rfl rfl rfl rfl rfl ⟨rfl, rfl, rfl, rfl, rfl⟩ rfl rfl rfl rfl rfl (by kernel_rfl) Tryz.func4 gwholes_closed
    (of_decide_eq_true (by kernel_rfl)) (by unfold Func.isWrapper; first | (rw [if_pos (by decide +kernel)]; kernel_rfl) | (rw [if_neg (by decide +kernel)]; exact ⟨rfl, rfl⟩))
    (fun os started H enc _ => gwholes_lifted os started H enc)
theorem gwholes_card : Rows.GaussWholesCardSaid :=
  Claim7.holds_tied_plain_at .later [] [.data, .data, .data, .data, .pinned] true (true, "c747b79b9f1a43fe4c34757cd8e5e2d31f120ab8e01a8c8bfa0c84ed34aa119a") false
    gwholes_holds (fun _ h => by cases h) (by kernel_rfl) (fun _ h => by cases h) gaussWholes_row_tie rfl ⟨rfl, rfl⟩ main_is rfl
    (fun f fn hf hfn => by
      obtain rfl : f = 4 := Option.some.inj ((show Tryz.prog.funcNamed "diapason/diapasonlaw02.GaussWholes" = some 4 by kernel_rfl).symm.trans hf) |>.symm
      obtain rfl : fn = Tryz.f4 := (Option.some.inj (Tryz.func4.symm.trans hfn)).symm
      exact ⟨looks_is, fun j t ht => by
        rw [Tryz.params4] at ht
        have h3 : Tryz.prog.wantsStandIn t = false := by
          rcases j with _ | _ | j
          · obtain rfl : t = 2 := by simpa using ht.symm
            kernel_rfl
          · obtain rfl : t = 2 := by simpa using ht.symm
            kernel_rfl
          · simp at ht
        exact h3⟩)
    gwholes_goes
end Go.Proofs.YtepnghhgmjobjaaGreatDoor
