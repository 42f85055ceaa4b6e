/- Contracts, in this order: (exact.Poly).Turned: the contract. (INCL=Lists) · '==' of fractions of which something is known, alone. (INCL= · The law's same: of equal lists. (INCL=Lists) · poly.Turned of any list. (INCL=Lists) · poly.Turned: the contract; turned twice. (INCL=Lists) · ratio: size, answer, Of. · ratio: Of. · poly.Of: its loops' rounds, its run. (INCL=Lists) · poly.Of of any list of whole numbers: the contract. (INCL=Li -/
import Derived.Test.YtdlhpleabfnogaaGreatDoorLu27
import Derived.Laws.StructEq
import Derived.Test.YtdlhpleabfnogaaGreatDoorLu21
import Derived.Lib.ItoaMem
namespace Go.Proofs.YtdlhpleabfnogaaGreatDoor
open Go Go.RowKit
namespace Ev
set_option maxRecDepth 100000
theorem condJ {b : Bool} {m m2 : Tr Value → M Sy (Tr Value)} {o : Option (Tr Value → M Sy (Tr Value))} (h : cond b (some m2) o = some m) : (b = true ∧ m = m2) ∨ (b = false ∧ o = some m) := by
  cases b with
  | true => exact .inl ⟨rfl, (Option.some.inj h).symm⟩
  | false => exact .inr ⟨rfl, h⟩
theorem one_jmp {S : Sig Sy} {f N : Nat} {m : Tr Value → M Sy (Tr Value)} (ho : ∃ fn c, (Tryz.prog).funcs[f]? = some fn ∧ fn.body = some c ∧ fn.ntmps = N ∧ loopsIn c = [loopOf f 0]) (hj : JmpOK S Tryz.prog N (loopOf f 0) m)
    {fn : Func} {c x : Code} (ht : (Tryz.prog).funcs[f]? = some fn) (hb : fn.body = some c) (hx : x ∈ loopsIn c) : JmpOK S Tryz.prog fn.ntmps x m := by
  obtain ⟨fn0, c0, q1, q2, q3, q4⟩ := ho
  rw [q1] at ht
  cases ht
  rw [q2] at hb
  cases hb
  rw [q4] at hx
  obtain rfl := List.mem_singleton.1 hx
  rw [q3]
  exact @hj
theorem tu_one : ∃ fn c, (Tryz.prog).funcs[tuF]? = some fn ∧ fn.body = some c ∧ fn.ntmps = 26 ∧ loopsIn c = [loopOf tuF 0] := ⟨_, _, rfl, rfl, rfl, rfl⟩
theorem tr_one : ∃ fn c, (Tryz.prog).funcs[trF]? = some fn ∧ fn.body = some c ∧ fn.ntmps = 22 ∧ loopsIn c = [loopOf trF 0] := ⟨_, _, rfl, rfl, rfl, rfl⟩
section
variable {qs : List Rat} (hq : ∀ q ∈ qs, Fit q) (lo : Nat) {n m : Nat}
theorem tu_all {kp : Bool} {A : List As} {B : List Ix} (hn : n < 10000) (ht : TrimAt (tv qs n) m) : JmpAll (symSig (tuEnv qs hq lo n 0 0 m)) Tryz.prog (lsCfg kp A B tuJ) := by
  refine ⟨fun f x m e ts => ?_, fun f fn c x m hf hb hx e => ?_⟩
  · rcases condJ (show cond (Nat.beq f tuF) (some (jumpM eqSy 26 tuTm tuPre tuPost)) (cond (Nat.beq f trF) (some (jumpM eqSy 22 trTm (trSl (.ix 3 1)) (trSl (.ix 6 0)))) none) = some m from e) with ⟨_, rfl⟩ | ⟨_, e2⟩
    · exact loc_jumpM _ _ _ _ _
    · rcases condJ e2 with ⟨_, rfl⟩ | ⟨_, e3⟩
      · exact loc_jumpM _ _ _ _ _
      · cases e3
  · rcases condJ (show cond (Nat.beq f tuF) (some (jumpM eqSy 26 tuTm tuPre tuPost)) (cond (Nat.beq f trF) (some (jumpM eqSy 22 trTm (trSl (.ix 3 1)) (trSl (.ix 6 0)))) none) = some m from e) with ⟨h1, rfl⟩ | ⟨_, e2⟩
    · obtain rfl := Nat.eq_of_beq_eq_true h1
      exact one_jmp tu_one (@tu_jmp qs hq lo n _ hn) hf hb hx
    · rcases condJ e2 with ⟨h1, rfl⟩ | ⟨_, e3⟩
      · obtain rfl := Nat.eq_of_beq_eq_true h1
        exact one_jmp tr_one (@tr_jmp qs hq lo n _ hn ht) hf hb hx
      · cases e3
end
theorem turned_any (w : World) {qs : List Rat} (hq : ∀ q ∈ qs, Fit q) {n m : Nat} (hn : n < 9999) (ht : TrimAt (tv qs n) m) {v : Value} (hv : LsIn 1 w v qs) (hG : Tryz.prog.globals.size ≤ w.heap.size) (hT : natSig.base w) :
    Calls Tryz.prog tuF ⟨[v, .int .i64 n]⟩ w fun e w' => ∃ u, e = .returned u ∧ NewOl 1 w w' u ((tv qs n).take m) ∧ Below w.heap.size w w' := by
  have hm := ht.le
  rw [tv_len] at hm
  have hu : HoldsL (symSig (tuEnv qs hq w.heap.size n 0 0 m)) w [.ls 1 0, .ix 3 0] [v, .int .i64 n] := ⟨v, _, rfl, LsIn.ls hv rfl, by obtain ⟨a, m, rfl, _⟩ := hv; rfl, .int .i64 n, [], rfl, by
    show Value.int .i64 ((n : Nat) : Int) = .int .i64 (((n : Nat) : Int) + 0)
    rw [Int.add_zero], rfl, rfl⟩
  have post : ∀ {e : Ending} {w' : World}, (∃ v', e = .returned v' ∧ (D3.one (.one (.ow (.ol 1 (.take (.v 5) 6 0) none))) : D3 Sy).is (symSig (tuEnv qs hq w.heap.size n 0 0 m)) w' v' ∧ Below w.heap.size w w') →
      ∃ u, e = .returned u ∧ NewOl 1 w w' u ((tv qs n).take m) ∧ Below w.heap.size w w' := by
    rintro e w' ⟨v', rfl, h1, hb⟩
    exact ⟨v', rfl, newOl_of (ρ := tuEnv qs hq w.heap.size n 0 0 m) rfl h1 (by
      show (tv qs n).take (((m : Nat) : Int) + 0).toNat = _
      rfl) (fun p hp => by cases hp), hb⟩
  have c1 : n ≤ 10000 := by omega
  have c2 : false = true ↔ ((n + 1 : Nat) : Int) + 0 < ((m : Nat) : Int) + 0 := ⟨fun h => (by cases h), fun h => by omega⟩
  have c3 : m ≤ 10000 := by omega
  rcases Nat.eq_zero_or_pos m with h0 | h0
  · have hA : AllH (tuEnv qs hq w.heap.size n 0 0 m) (tuA0 false false) := fun x hx => by simp [tuA0] at hx
    have hB : AllX (tuEnv qs hq w.heap.size n 0 0 m) (tuB0 false) := fun x hx => by
      simp only [tuB0, cond_false, List.mem_cons, List.not_mem_nil, or_false] at hx
      rcases hx with rfl | rfl | rfl | rfl | rfl
      · exact c1
      · exact tv_len qs n
      · exact c2
      · show false = true ↔ ((0 : Nat) : Int) + 0 < ((m : Nat) : Int) + 0
        exact ⟨fun h => (by cases h), fun h => by omega⟩
      · exact c3
    exact (tells_calls (lsFits hA hB) (lsSumsW_ok hA) tu_runF rfl glob_few hu hG hT (Nat.le_refl _) (tu_all hq w.heap.size (by omega) ht)).mono fun e w' h => post h
  · have hA : AllH (tuEnv qs hq w.heap.size n 0 0 m) (tuA0 true (Big.ng ((tv qs n).getD (m - 1) 0))) := fun x hx => by
      simp only [tuA0, cond_true, List.mem_cons, List.not_mem_nil, or_false] at hx
      rcases hx with rfl | rfl
      · show false = true ↔ (tv qs n).getD (m - 1) 0 = 0
        exact ⟨fun h => (by cases h), fun h => absurd h (ht.last h0)⟩
      · rfl
    have hB : AllX (tuEnv qs hq w.heap.size n 0 0 m) (tuB0 true) := fun x hx => by
      simp only [tuB0, cond_true, List.mem_cons, List.not_mem_nil, or_false] at hx
      rcases hx with rfl | rfl | rfl | rfl | rfl | rfl | rfl | rfl
      · exact c1
      · exact tv_len qs n
      · exact c2
      · show true = true ↔ ((0 : Nat) : Int) + 0 < ((m : Nat) : Int) + 0
        exact ⟨fun _ => by omega, fun _ => rfl⟩
      · show false = true ↔ ((m : Nat) : Int) + (-1) < ((0 : Nat) : Int) + 0
        exact ⟨fun h => (by cases h), fun h => by omega⟩
      · show true = true ↔ ((m : Nat) : Int) + (-1) < ((n : Nat) : Int) + 1
        exact ⟨fun _ => by omega, fun _ => rfl⟩
      · refine ⟨m - 1, ?_, ?_⟩
        · show ((m - 1 : Nat) : Int) = ((m : Nat) : Int) + (-1)
          omega
        · show (tv qs n)[m - 1]? = some ((tv qs n).getD (m - 1) 0)
          rw [List.getD_eq_getElem?_getD, List.getElem?_eq_getElem (by rw [tv_len]; omega)]; rfl
      · exact c3
    exact (tells_calls (lsFits hA hB) (lsSumsW_ok hA) (tu_runT _) rfl glob_few hu hG hT (Nat.le_refl _) (tu_all hq w.heap.size (by omega) ht)).mono fun e w' h => post h
end Ev
end Go.Proofs.YtdlhpleabfnogaaGreatDoor
namespace Go.Proofs.YtdlhpleabfnogaaGreatDoor
open Go Go.RowKit
namespace Ev
namespace Fq
set_option maxRecDepth 100000
abbrev Tri := Bool × ByteArray × ByteArray
def tri (q : Rat) : Tri := (Big.ng q, bst (Big.nu q), bst (Big.de q))
def cel (x : Tri) : List Value := [.bool x.1, .string x.2.1, .string x.2.2]
theorem tri_inj {p q : Rat} (h : tri p = tri q) : p = q := by
  unfold tri at h
  simp only [Prod.mk.injEq] at h
  exact Big.parts_eq h.1 (bst_inj h.2.1) (bst_inj h.2.2)
theorem not_bad {q : Rat} (h : Fit q) : ¬ BadF (tri q) := fun hb => hb q h ⟨rfl, rfl, rfl⟩
def tbeq (x y : Tri) : Bool := x.1 == y.1 && (x.2.1.toList == y.2.1.toList && x.2.2.toList == y.2.2.toList)
theorem tbeq_iff {x y : Tri} : tbeq x y = true ↔ x = y := by
  obtain ⟨a, s, t⟩ := x
  obtain ⟨b, u, v⟩ := y
  have key : ∀ p q : ByteArray, (p.toList == q.toList) = true ↔ p = q := fun p q => by
    rw [beq_iff_eq, ByteArray.toList_eq, ByteArray.toList_eq]
    obtain ⟨⟨p⟩⟩ := p
    obtain ⟨⟨q⟩⟩ := q
    simp
  simp only [tbeq, Bool.and_eq_true, key, beq_iff_eq, Prod.mk.injEq]
theorem eqIn_frac (d : Nat) (x y : Tri) (w : World) : (Op.equalIn (d + 2) 35 (.agg ⟨cel x⟩) (.agg ⟨cel y⟩)).run Tryz.prog w = .ok (tbeq x y) w := by
  have hS : Tryz.prog.underlying 35 = some (.struct (Tryz.prog.fieldsOf 35)) := by kernel_rfl
  have hp : Tryz.prog.stoodInHeld 35 = false := by kernel_rfl
  obtain ⟨a, s, t⟩ := x
  obtain ⟨b, u, v⟩ := y
  rw [show d + 2 = (d + 1) + 1 from rfl, run_equalIn_struct w (d + 1) 35 _ _ hS hp]
  simp only [Program.fieldsOf, Tryz.underlying35, cel, tbeq]
  generalize hx : (s.toList == u.toList) = b1
  generalize hy : (t.toList == v.toList) = b2
  cases a <;> cases b <;> cases b1 <;> cases b2 <;> go_simp <;> simp [hx, hy]
noncomputable def sameO (A : List As) (l m : List Value) (o p : Option Qe) : Option Bool := match o with
  | some e => match p with
    | some f => cond (e.beq f) (some true) (ask A 2 e f)
    | none => match fitB A e with
      | some t => cond t (some false) none
      | none => none
  | none => match p with
    | some f => match fitB A f with
      | some t => cond t (some false) none
      | none => none
    | none => cond (eqL eq1 l m && plainL plain l) (some true) none
noncomputable def eq3 (A : List As) (l m : List Value) : M Sy (Option Bool) := bind (frcV l) fun o => bind (frcV m) fun p => ret (sameO A l m o p)
noncomputable def ansEq (op : BinOp) (b : Option Bool) : M Sy Nxt := match b with
  | some b => match op with
    | .eql => val (.bool b)
    | .neq => val (.bool (!b))
    | _ => fail
  | none => fail
noncomputable def frH (A : List As) (G : Oper → List Value → M Sy Nxt) (o : Oper) (vs : List Value) : M Sy Nxt := match o.op with
  | .binOp op t _ _ _ => match twoM vs with
    | some y => match y.1 with
      | .agg cs => match y.2 with
        | .agg ds => cond (Nat.beq t 35) (bind (eq3 A cs.toList ds.toList) (ansEq op)) fail
        | _ => fail
      | _ => G o vs
    | none => fail
  | _ => G o vs
theorem loc_eq3 (A : List As) (l m : List Value) : Loc (eq3 A l m) := loc_bind (loc_frcV _) fun _ => loc_bind (loc_frcV _) fun _ => loc_ret _
theorem loc_ansEq (op : BinOp) (b : Option Bool) : Loc (ansEq op b) := by
  unfold ansEq
  (repeat' split) <;> first | exact loc_val _ | exact loc_fail
theorem loc_frH {G : Oper → List Value → M Sy Nxt} (hG : ∀ o vs, Loc (G o vs)) (A : List As) (o : Oper) (vs : List Value) : Loc (frH A G o vs) := by
  unfold frH
  (repeat' split) <;> first
    | exact loc_fail
    | exact loc_cond (loc_bind (loc_eq3 _ _ _) fun _ => loc_ansEq _ _) loc_fail
    | exact hG _ _
theorem frc_tri {ρ : Env} {l : List Value} {o : Option Qe} (h : FrcIs ρ l o) : ∃ x : Tri, l = cel x ∧ (∀ e, o = some e → x = tri (e.ev ρ.q)) ∧ (o = none → BadF x) := by
  cases o with
  | some e =>
    obtain rfl : l = _ := h
    exact ⟨tri (e.ev ρ.q), rfl, fun e' he => by cases he; rfl, fun h => (by cases h)⟩
  | none =>
    obtain ⟨x, hx, rfl⟩ := h
    exact ⟨x, rfl, fun e' he => (by cases he), fun _ => hx⟩
section
variable {ρ : Env} {A : List As} {h h' : Tr (Blk Sy)} {nx nx' : Nat} {R W : List Nat} {r : Ren} {w : World}
theorem cel_inj {x y : Tri} (h : cel x = cel y) : x = y := by
  obtain ⟨a, s, t⟩ := x
  obtain ⟨b, u, v⟩ := y
  simp only [cel, List.cons.injEq, Value.bool.injEq, Value.string.injEq, and_true] at h
  obtain ⟨rfl, rfl, rfl⟩ := h
  rfl
theorem eq3_ok (hA : AllH ρ A) {l m l' m' : List Value} {b : Option Bool} (e : eq3 A l m h nx = .ok b h' nx' R W) (hl : VsR r l l') (hm : VsR r m m') (hM : Mod (symSig ρ) r h.get w) :
    h' = h ∧ nx' = nx ∧ W = [] ∧ ∃ x y : Tri, l' = cel x ∧ m' = cel y ∧ ∀ t, b = some t → t = tbeq x y := by
  obtain ⟨o, h1, nx1, R1, W1, R2, W2, q1, q2, rfl, rfl⟩ := bind_ok e
  obtain ⟨rfl, rfl, rfl, i1⟩ := frcV_ok q1 hl hM
  obtain ⟨p, h2, nx2, R3, W3, R4, W4, q3, q4, rfl, rfl⟩ := bind_ok q2
  obtain ⟨rfl, rfl, rfl, i2⟩ := frcV_ok q3 hm hM
  obtain ⟨rfl, rfl, rfl, rfl⟩ := ret_ok q4
  obtain ⟨x, rfl, x1, x2⟩ := frc_tri i1
  obtain ⟨y, rfl, y1, y2⟩ := frc_tri i2
  refine ⟨rfl, rfl, by simp, x, y, rfl, rfl, fun t ht => ?_⟩
  have neg : x ≠ y → tbeq x y = false := fun hn => by
    cases hb : tbeq x y with
    | false => rfl
    | true => exact absurd (tbeq_iff.1 hb) hn
  unfold sameO at ht
  cases o with
  | some e0 =>
    have hx := x1 e0 rfl
    cases p with
    | some f =>
      have hy := y1 f rfl
      simp only at ht
      cases hb : e0.beq f with
      | true =>
        rw [hb] at ht
        cases ht
        rw [hx, hy, Qe.beq_ok _ _ hb]
        exact (tbeq_iff.2 rfl).symm
      | false =>
        rw [hb] at ht
        have hs := ask_same hA ht
        cases t with
        | true => rw [hx, hy, hs.1 rfl]; exact (tbeq_iff.2 rfl).symm
        | false =>
          refine (neg fun h => ?_).symm
          rw [hx, hy] at h
          have := hs.2 (tri_inj h)
          cases this
    | none =>
      simp only at ht
      cases hf : fitB A e0 with
      | none => rw [hf] at ht; cases ht
      | some u =>
        rw [hf] at ht
        cases u with
        | false => cases ht
        | true =>
          cases ht
          refine (neg fun h => ?_).symm
          have hbad := y2 rfl
          rw [← h, hx] at hbad
          exact not_bad ((fitB_ok hA hf).1 rfl) hbad
  | none =>
    cases p with
    | some f =>
      have hy := y1 f rfl
      simp only at ht
      cases hf : fitB A f with
      | none => rw [hf] at ht; cases ht
      | some u =>
        rw [hf] at ht
        cases u with
        | false => cases ht
        | true =>
          cases ht
          refine (neg fun h => ?_).symm
          have hbad := x2 rfl
          rw [h, hy] at hbad
          exact not_bad ((fitB_ok hA hf).1 rfl) hbad
    | none =>
      simp only at ht
      cases hk : (eqL eq1 l m && plainL plain l) with
      | false => rw [hk] at ht; cases ht
      | true =>
        rw [hk] at ht
        cases ht
        simp only [Bool.and_eq_true] at hk
        have e1 := eqL_ok eq1_ok hk.1
        subst e1
        have e2 := hl.eq_of_plain hk.2
        have e3 := hm.eq_of_plain hk.2
        rw [← e2] at e3
        rw [cel_inj e3]
        exact (tbeq_iff.2 rfl).symm
theorem run_eqs (op : BinOp) (t : TypeId) (x y : Operand) (cs ds : Array Value) (b : Bool) (v : Value) (hm : Tryz.prog.eqGuardType Tryz.prog.depth t = false) (he : (Op.equalIn 10000 t (.agg cs) (.agg ds)).run Tryz.prog w = .ok b w) (hv : (op = .eql ∧ v = .bool b) ∨ (op = .neq ∧ v = .bool (!b))) :
    (do eqGuard op t x y (.agg cs) (.agg ds); binOp op t (.agg cs) (.agg ds) : Sem Value).run Tryz.prog w = .ok v w := by
  have hg := run_eqGuard_agg (P := Tryz.prog) w op t x y cs ds hm
  have he' : (Op.equal t (.agg cs) (.agg ds)).run Tryz.prog w = .ok b w := he
  rcases hv with ⟨rfl, rfl⟩ | ⟨rfl, rfl⟩
  · rw [Sem.run_bind, hg]
    simp [binOp, he']
  · rw [Sem.run_bind, hg]
    simp [binOp, he']
theorem ansEq_ok {op : BinOp} {b : Option Bool} {x : Nxt} (e : ansEq op b h nx = .ok x h' nx' R W) : h' = h ∧ nx' = nx ∧ W = [] ∧ ∃ t v, b = some t ∧ x = .val v ∧ ((op = .eql ∧ v = .bool t) ∨ (op = .neq ∧ v = .bool (!t))) := by
  unfold ansEq at e
  cases b with
  | none => cases (show (fail : M Sy Nxt) h nx = _ from e)
  | some t =>
    cases op with
    | eql =>
      obtain ⟨rfl, rfl, rfl, rfl⟩ := val_ok (show (val (.bool t) : M Sy Nxt) h nx = _ from e)
      exact ⟨rfl, rfl, rfl, t, _, rfl, rfl, .inl ⟨rfl, rfl⟩⟩
    | neq =>
      obtain ⟨rfl, rfl, rfl, rfl⟩ := val_ok (show (val (.bool (!t)) : M Sy Nxt) h nx = _ from e)
      exact ⟨rfl, rfl, rfl, t, _, rfl, rfl, .inr ⟨rfl, rfl⟩⟩
    | _ => cases (show (fail : M Sy Nxt) h nx = _ from e)
theorem frH_ok (hA : AllH ρ A) {G : Oper → List Value → M Sy Nxt} {C : Cfg Sy} (hG : HardOK (symSig ρ) Tryz.prog { C with hard := G }) (hC : C.hard = frH A G) : HardOK (symSig ρ) Tryz.prog C := by
  intro o vs h nx x h' nx' R W hs e r w ρo hM hN hv
  rw [hC] at e
  unfold frH at e
  have back : G o vs h nx = .ok x h' nx' R W → nx ≤ nx' ∧ After (symSig ρ) Tryz.prog ((execOp ρo o).run Tryz.prog w) r w nx nx' W h'.get x := fun e2 => hG o vs h nx x h' nx' R W hs e2 r w ρo hM hN hv
  cases hop : o.op with
  | binOp op t p q yt =>
    rw [hop] at e
    simp only at e
    have hops : o.op.operands.toList.map ρo = [ρo p, ρo q] := by rw [hop]; rfl
    rw [hops] at hv
    rcases vs with _ | ⟨u, _ | ⟨v, _ | ⟨z, l⟩⟩⟩ <;> first | (cases (show (fail : M Sy Nxt) h nx = _ from e); done) | skip
    simp only [twoM] at e
    cases hv with
    | cons hu hv => cases hv with
      | cons hv hn =>
        cases u <;> first | exact back e | skip
        rename_i cs
        cases v <;> first | (cases (show (fail : M Sy Nxt) h nx = _ from e); done) | skip
        rename_i ds
        obtain ⟨cl⟩ := cs
        obtain ⟨dl⟩ := ds
        obtain ⟨cl', hc1, hc2⟩ := vr_agg hu
        obtain ⟨dl', hd1, hd2⟩ := vr_agg hv
        simp only at e
        obtain ⟨ht, e⟩ := cond_ok e
        have htt := Nat.eq_of_beq_eq_true ht
        have fin : ∀ {b : Bool} {v : Value}, (Op.equalIn 10000 t (.agg ⟨cl'⟩) (.agg ⟨dl'⟩)).run Tryz.prog w = .ok b w → Tryz.prog.eqGuardType Tryz.prog.depth t = false → ((op = .eql ∧ v = .bool b) ∨ (op = .neq ∧ v = .bool (!b))) →
            (execOp ρo o).run Tryz.prog w = .ok (.value v) w := fun he hm hv => by
          have := run_eqs op t p q ⟨cl'⟩ ⟨dl'⟩ _ _ hm he hv
          simp only [execOp, hop, hc1, hd1]
          rw [Sem.run_bind, this]
          rfl
        obtain ⟨b, h1, nx1, R1, W1, R2, W2, e1, e2, rfl, rfl⟩ := bind_ok e
        obtain ⟨rfl, rfl, rfl, x1, y1, rfl, rfl, hb⟩ := eq3_ok hA e1 hc2 hd2 hM
        obtain ⟨rfl, rfl, rfl, t1, v1, rfl, rfl, hv1⟩ := ansEq_ok e2
        have := hb t1 rfl
        subst this
        refine ⟨Nat.le_refl _, v1, w, r, fin (by rw [htt]; exact eqIn_frac 9998 x1 y1 w) (by rw [htt]; kernel_rfl) hv1, ?_, by simpa using Ext.refl _ _ hM⟩
        rcases hv1 with ⟨_, rfl⟩ | ⟨_, rfl⟩ <;> exact .same rfl
  | _ => rw [hop] at e; exact back e
end
noncomputable def lsCfgQ (kp : Bool) (A : List As) (B : List Ix) (j : Jmps) : Cfg Sy where
  hid _ := symHid
  G := natCfg.G
  glob := natCfg.glob
  tab := natCfg.tab
  len := symLen
  jmp := j
  hard := lsHard kp A B (frH A (memHard Tryz.prog memC))
instance lsHardQ (kp : Bool) (A : List As) (B : List Ix) (j : Jmps) : HardLoc (lsCfgQ kp A B j) := ⟨loc_lsHard (loc_frH (loc_memHard Tryz.prog memC) A) kp A B⟩
theorem lsFitsQ {ρ : Env} {kp : Bool} {A : List As} {B : List Ix} {j : Jmps} (hA : AllH ρ A) (hB : AllX ρ B) : Fits (symSig ρ) Tryz.prog (lsCfgQ kp A B j) where
  hid := rfl
  G := rfl
  len := lsLen_ok ρ
  tab := natFits.tab
  glob := natFits.glob
  mixed := natFits.mixed
  hard := lsHard_ok hA hB (frH_ok hA (memHard_ok (C0 := memC) rfl rfl rfl) rfl) rfl
end Fq
end Ev
end Go.Proofs.YtdlhpleabfnogaaGreatDoor
namespace Go.Proofs.YtdlhpleabfnogaaGreatDoor
open Go Go.RowKit
namespace Ev
set_option maxRecDepth 100000
noncomputable def lsClQ (kp : Bool) (A : List As) (B : List Ix) (n : Nat) : Cl Sy := ⟨callY Tryz.prog (Fq.lsCfgQ kp A B noJ) (lsSums A) n, [], fun _ => none⟩
theorem lsClQ_ok {ρ : Env} {kp : Bool} {A : List As} {B : List Ix} {n : Nat} (hA : AllH ρ A) (hB : AllX ρ B) : ClOK (symSig ρ) Tryz.prog (lsClQ kp A B n) :=
  have h := callY_ok (C := Fq.lsCfgQ kp A B noJ) (Fq.lsFitsQ hA hB) (.none rfl) (lsSums_ok hA) n
  ⟨⟨h.1, by intro x hx; simp [lsClQ] at hx, fun x m e => (by cases e)⟩, h.2⟩
noncomputable def saF : Nat := 12
noncomputable def saTm : List Nat := [0, 1, 5]
noncomputable def saSl (x : Sl Sy) : List (Sl Sy) := [.f (.ls 0 0), .f (.ls 0 0), x]
set_option maxHeartbeats 4000000 in
theorem sa_round : roundT Tryz.prog (Fq.lsCfgQ true [] rpB1 noJ) (lsClQ true [] rpB1 20) 26 20 eqSy saTm (saSl (.f (.ix 2 0))) (saSl (.f (.ix 2 1))) (loopOf saF 0) = true := by kernel_rfl
noncomputable def saJ : Jmps := fun f _ => cond (Nat.beq f saF) (some (jumpM eqSy 26 saTm (saSl (.p (.int .i64 0))) (saSl (.f (.ix 1 0))))) none
set_option maxHeartbeats 4000000 in
theorem sa_run : tells [.ls 0 0, .ls 0 0] [.one, .one] (call Tryz.prog (Fq.lsCfgQ true [] [.ln 0 1] saJ) (lsSums []) 20 saF) = some (.one (.one (.p (.bool true)))) := by kernel_rfl
theorem sa_one : ∃ fn c, (Tryz.prog).funcs[saF]? = some fn ∧ fn.body = some c ∧ fn.ntmps = 26 ∧ loopsIn c = [loopOf saF 0] := ⟨_, _, rfl, rfl, rfl, rfl⟩
section
variable {qs : List Rat} (hq : ∀ q ∈ qs, Fit q) (lo : Nat)
theorem sa_jmp (hl : qs.length ≤ 10000) : JmpOK (symSig (rdEnv qs hq lo 0)) Tryz.prog 26 (loopOf saF 0) (jumpM eqSy 26 saTm (saSl (.p (.int .i64 0))) (saSl (.f (.ix 1 0)))) := by
  refine @jmp_ok Sy (symSig (rdEnv qs hq lo 0)) Tryz.prog eqSy eqSy_ok 26 (loopOf saF 0) saTm _ (saSl (.f (.ix 2 0))) (saSl (.f (.ix 2 1))) _ qs.length (fun k => symSig (rdEnv qs hq lo k)) (fun k => ⟨rfl, rfl, rfl⟩) rfl rfl rfl rfl ?_ ?_ ?_ ?_
  · intro w vs h
    obtain ⟨v1, l1, rfl, a1, v2, l2, rfl, a2, v3, l3, rfl, a3, rfl⟩ := h
    refine ⟨v1, _, rfl, a1, v2, _, rfl, a2, v3, _, rfl, ⟨?_, ?_⟩, rfl⟩
    · rw [show v3 = .int .i64 0 from a3]; rfl
    · rw [show v3 = .int .i64 0 from a3]; rfl
  · intro k hk w vs h
    obtain ⟨v1, l1, rfl, a1, v2, l2, rfl, a2, v3, l3, rfl, a3, rfl⟩ := h
    refine ⟨v1, _, rfl, a1, v2, _, rfl, a2, v3, _, rfl, ⟨?_, a3.2⟩, rfl⟩
    have h4 : v3 = .int .i64 (((k : Nat) : Int) + 1) := a3.1
    show v3 = .int .i64 (((k + 1 : Nat) : Int) + 0)
    rw [h4]; congr 1
  · intro w vs h
    obtain ⟨v1, l1, rfl, a1, v2, l2, rfl, a2, v3, l3, rfl, a3, rfl⟩ := h
    exact ⟨v1, _, rfl, a1, v2, _, rfl, a2, v3, _, rfl, ⟨a3.1, a3.2⟩, rfl⟩
  · intro k hk ro d B0 D0 a w hAt
    have hB := rp_B1 hq lo hl hk
    have hA : AllH (rdEnv qs hq lo k) [] := fun x hx => by simp at hx
    exact round_run (C := Fq.lsCfgQ true [] rpB1 noJ) (call := lsClQ true [] rpB1 20) (fuel := 20) (Fq.lsFitsQ hA hB) (lsClQ_ok hA hB) rfl (fun y _ m e => by cases e) eqSy_ok sa_round few5 hAt
end
theorem same_any (w : World) {qs : List Rat} (hq : ∀ q ∈ qs, Fit q) (hl : qs.length ≤ 10000) {u v : Value} (hu : LsIn 0 w u qs) (hv : LsIn 0 w v qs) (hG : Tryz.prog.globals.size ≤ w.heap.size) (hT : natSig.base w) :
    Calls Tryz.prog saF ⟨[u, v]⟩ w fun e w' => e = .returned (.bool true) ∧ Below w.heap.size w w' := by
  have h0 : HoldsL (symSig (rdEnv qs hq w.heap.size 0)) w [.ls 0 0, .ls 0 0] [u, v] := ⟨u, _, rfl, LsIn.ls hu rfl, by obtain ⟨a, m, rfl, _⟩ := hu; rfl, v, [], rfl, LsIn.ls hv rfl, by obtain ⟨a, m, rfl, _⟩ := hv; rfl, rfl⟩
  have hA : AllH (rdEnv qs hq w.heap.size 0) [] := fun x hx => by simp at hx
  have hB : AllX (rdEnv qs hq w.heap.size 0) [.ln 0 1] := fun x hx => by
    obtain rfl := List.mem_singleton.1 hx
    rfl
  have hJ : JmpAll (symSig (rdEnv qs hq w.heap.size 0)) Tryz.prog (Fq.lsCfgQ true [] [.ln 0 1] saJ) := by
    refine ⟨fun f x m e ts => ?_, fun f fn c x m hf hb hx e => ?_⟩
    · rcases condJ (show cond (Nat.beq f saF) (some (jumpM eqSy 26 saTm (saSl (.p (.int .i64 0))) (saSl (.f (.ix 1 0))))) none = some m from e) with ⟨_, rfl⟩ | ⟨_, e2⟩
      · exact loc_jumpM _ _ _ _ _
      · cases e2
    · rcases condJ (show cond (Nat.beq f saF) (some (jumpM eqSy 26 saTm (saSl (.p (.int .i64 0))) (saSl (.f (.ix 1 0))))) none = some m from e) with ⟨h1, rfl⟩ | ⟨_, e2⟩
      · obtain rfl := Nat.eq_of_beq_eq_true h1
        exact one_jmp sa_one (@sa_jmp qs hq _ hl) hf hb hx
      · cases e2
  refine (tells_calls (Fq.lsFitsQ hA hB) (lsSums_ok hA) sa_run rfl glob_few h0 hG hT (Nat.le_refl _) hJ).mono ?_
  rintro e w' ⟨v', rfl, h1, hb⟩
  have h1' : v' = .bool true := h1
  subst h1'
  exact ⟨rfl, hb⟩
end Ev
end Go.Proofs.YtdlhpleabfnogaaGreatDoor
namespace Go.Proofs.YtdlhpleabfnogaaGreatDoor
open Go Go.RowKit
namespace Ev
set_option maxRecDepth 100000
noncomputable def isLe (y : Nat × Le) (K c : Nat) : Bool := Nat.beq y.1 K && y.2.beq (.v c)
theorem isLe_ok {y : Nat × Le} {K c : Nat} (h : isLe y K c = true) : y = (K, .v c) := by
  obtain ⟨a, l⟩ := y
  have h' := Bool.and_eq_true_iff.1 (show (Nat.beq a K && l.beq (.v c)) = true from h)
  rw [Nat.eq_of_beq_eq_true h'.1, Le.beq_ok _ _ h'.2]
noncomputable def rpS (B : List Ix) (c : Nat) : Nat × (List Value → Option (M Sy Value)) := (rpF, fun args => match args with
  | [a] => some (bind (lsArg B a) fun y => cond (isLe y 0 c) (bind (newOw (.ol 1 (.v c) none)) fun x => ret (.tuple ⟨[x, .bool true]⟩)) fail)
  | _ => none)
noncomputable def ppS (B : List Ix) (c : Nat) : Nat × (List Value → Option (M Sy Value)) := (ppF, fun args => match args with
  | [a] => some (bind (lsArg B a) fun y => cond (isLe y 1 c) (bind (newOw (.ol 0 (.v c) none)) fun x => ret (.tuple ⟨[x, .bool true]⟩)) fail)
  | _ => none)
noncomputable def tuS (B : List Ix) (c a d : Nat) : Nat × (List Value → Option (M Sy Value)) := (tuF, fun args => match args with
  | [x, n] => some (bind (lsArg B x) fun y => bind (ixV n) fun p => cond (isLe y 1 c && (Nat.beq p.1 a && eqI p.2 0)) (newOw (.ol 1 (.v d) none)) fail)
  | _ => none)
section
variable {ρ : Env} {B : List Ix}
theorem rpS_ok (hB : AllX ρ B) {c : Nat} (hp : PolyOK (ρ.lst c)) (hl : (ρ.lst c).length ≤ 33) : SumF (symSig ρ) Tryz.prog (rpS B c).1 (rpS B c).2 := by
  intro args m hm
  rcases args with _ | ⟨a, _ | ⟨b, l⟩⟩ <;> first | (cases (show none = some m from hm); done) | skip
  cases hm
  refine ⟨loc_bind (loc_lsArg _ _) fun _ => loc_cond (loc_bind (loc_newOw _) fun _ => loc_ret _) loc_fail, fun h nx v h' nx' R W e r w args' hv hM hN => ?_⟩
  cases hv with
  | cons h1 h2 =>
    cases h2
    obtain ⟨y, g1, nx1, R1, W1, R2, W2, e1, e2, rfl, rfl⟩ := bind_ok e
    obtain ⟨rfl, rfl, rfl, hls⟩ := lsArg_ok hB e1 h1 hM
    obtain ⟨hk, e3⟩ := cond_ok e2
    obtain rfl := isLe_ok hk
    have := goes_owT (f := rpF) (u2 := .bool true) rfl e3 hM hN ((readPoly_any w hp hl hls hM.fits hM.base).mono fun en w' q => by
      obtain ⟨u, q1, q2, q3, q4⟩ := q
      exact ⟨u, q1, ⟨q2, q3⟩, q4⟩)
    simp only [List.nil_append]
    exact this
theorem ppS_ok (hB : AllX ρ B) {c : Nat} (hp : ∀ q ∈ ρ.lst c, Fit q) (hl : (ρ.lst c).length ≤ 33) : SumF (symSig ρ) Tryz.prog (ppS B c).1 (ppS B c).2 := by
  intro args m hm
  rcases args with _ | ⟨a, _ | ⟨b, l⟩⟩ <;> first | (cases (show none = some m from hm); done) | skip
  cases hm
  refine ⟨loc_bind (loc_lsArg _ _) fun _ => loc_cond (loc_bind (loc_newOw _) fun _ => loc_ret _) loc_fail, fun h nx v h' nx' R W e r w args' hv hM hN => ?_⟩
  cases hv with
  | cons h1 h2 =>
    cases h2
    obtain ⟨y, g1, nx1, R1, W1, R2, W2, e1, e2, rfl, rfl⟩ := bind_ok e
    obtain ⟨rfl, rfl, rfl, hls⟩ := lsArg_ok hB e1 h1 hM
    obtain ⟨hk, e3⟩ := cond_ok e2
    obtain rfl := isLe_ok hk
    have := goes_owT (f := ppF) (u2 := .bool true) rfl e3 hM hN (polyPoly_any w hp hl hls hM.fits hM.base)
    simp only [List.nil_append]
    exact this
theorem tuS_ok (hB : AllX ρ B) {c a d m : Nat} (hq : ∀ q ∈ ρ.lst c, Fit q) (hn : ρ.nat a < 9999) (ht : TrimAt (tv (ρ.lst c) (ρ.nat a)) m) (hd : ρ.lst d = (tv (ρ.lst c) (ρ.nat a)).take m) : SumF (symSig ρ) Tryz.prog (tuS B c a d).1 (tuS B c a d).2 := by
  intro args k hm
  rcases args with _ | ⟨x, _ | ⟨b, _ | ⟨z, l⟩⟩⟩ <;> first | (cases (show none = some k from hm); done) | skip
  cases hm
  refine ⟨loc_bind (loc_lsArg _ _) fun _ => loc_bind (loc_ixV _) fun _ => loc_cond (loc_newOw _) loc_fail, fun h nx v h' nx' R W e r w args' hv hM hN => ?_⟩
  cases hv with
  | cons h1 hv => cases hv with
    | cons h2 h3 =>
      cases h3
      obtain ⟨y, g1, nx1, R1, W1, R2, W2, e1, e2, rfl, rfl⟩ := bind_ok e
      obtain ⟨rfl, rfl, rfl, hls⟩ := lsArg_ok hB e1 h1 hM
      obtain ⟨p, g3, nx3, R3, W3, R4, W4, e3, e4, rfl, rfl⟩ := bind_ok e2
      obtain ⟨rfl, rfl, rfl, hp⟩ := ixV_ok e3 h2 hM
      obtain ⟨hk, e5⟩ := cond_ok e4
      simp only [Bool.and_eq_true] at hk
      obtain rfl := isLe_ok hk.1
      have hp' := hp
      rw [Nat.eq_of_beq_eq_true hk.2.1, eqI_ok hk.2.2] at hp'
      have hp2 : atIx ρ a 0 = ((ρ.nat a : Nat) : Int) := by unfold atIx; simp
      rw [hp2] at hp'
      subst hp'
      have c0 := turned_any w hq hn ht hls hM.fits hM.base
      rw [← hd] at c0
      have := goes_ow (f := tuF) (l := .v d) e5 hM hN c0
      simp only [List.nil_append]
      exact this
end
noncomputable def ptF : Nat := 19
noncomputable def ptB (b : Bool) : List Ix := [.ln 0 1, .bd 3, .lt 3 0 0 0 false, .lt 0 32 3 0 false, .lt 3 1 1 0 b]
noncomputable def ptSums (B : List Ix) : Sums Sy := sumsOf (mkTab [rpS B 0, tuS B 0 3 9, ppS B 9])
set_option maxHeartbeats 4000000 in
theorem pt_run (b : Bool) : tells [.ls 0 0, .ix 3 0] [.one, .one] (call Tryz.prog (lsCfg true [] (ptB b) noJ) (ptSums (ptB b)) 20 ptF) = cond b (some (.tuple [.one (.p (.slice none 0 0)), .one (.p (.int .i64 2))])) (some (.tuple [.one (.ow (.ol 0 (.v 9) none)), .one (.p (.int .i64 0))])) := by
  cases b <;> kernel_rfl
end Ev
end Go.Proofs.YtdlhpleabfnogaaGreatDoor
namespace Go.Proofs.YtdlhpleabfnogaaGreatDoor
open Go Go.RowKit
namespace Ev
set_option maxRecDepth 100000
def ptLst (qs rs : List Rat) : Nat → List Rat
  | 0 => qs
  | 9 => rs
  | _ => []
def ptNat (c n : Nat) : Nat → Nat
  | 1 => c
  | 3 => n
  | _ => 0
def ptEnv (qs rs : List Rat) (lo n : Nat) : Env := ⟨fun _ => 0, fun _ => (false, ⟨#[]⟩, ⟨#[]⟩), fun _ _ => fit00, fun _ => fit00.sm.up (by decide), fun _ => bad_zero, lo, ptLst qs rs, ptNat qs.length n, rfl⟩
theorem polyTurned_any (w : World) {qs : List Rat} (hp : PolyOK qs) (hl : qs.length ≤ 33) {n m : Nat} (hn : n ≤ 32) (ht : TrimAt (tv qs n) m) {v : Value} (hv : LsIn 0 w v qs) (hG : Tryz.prog.globals.size ≤ w.heap.size) (hT : natSig.base w) :
    Calls Tryz.prog ptF ⟨[v, .int .i64 n]⟩ w fun e w' => ((n + 1 < qs.length ∧ e = .returned (.tuple ⟨[.slice none 0 0, .int .i64 2]⟩)) ∨ (qs.length ≤ n + 1 ∧ ∃ u, e = .returned (.tuple ⟨[u, .int .i64 0]⟩) ∧ NewOl 0 w w' u ((tv qs n).take m))) ∧ Below w.heap.size w w' := by
  have hu : HoldsL (symSig (ptEnv qs ((tv qs n).take m) w.heap.size n)) w [.ls 0 0, .ix 3 0] [v, .int .i64 n] := ⟨v, _, rfl, LsIn.ls hv rfl, by obtain ⟨a, m, rfl, _⟩ := hv; rfl, .int .i64 n, [], rfl, by
    show Value.int .i64 ((n : Nat) : Int) = .int .i64 (((n : Nat) : Int) + 0)
    rw [Int.add_zero], rfl, rfl⟩
  have hA : AllH (ptEnv qs ((tv qs n).take m) w.heap.size n) [] := fun x hx => by simp at hx
  have hB : ∀ b, (b = true ↔ n + 1 < qs.length) → AllX (ptEnv qs ((tv qs n).take m) w.heap.size n) (ptB b) := fun b hb x hx => by
    simp only [ptB, List.mem_cons, List.not_mem_nil, or_false] at hx
    rcases hx with rfl | rfl | rfl | rfl | rfl
    · rfl
    · show n ≤ 10000
      omega
    · show false = true ↔ ((n : Nat) : Int) + 0 < ((0 : Nat) : Int) + 0
      exact ⟨fun h => (by cases h), fun h => by omega⟩
    · show false = true ↔ ((0 : Nat) : Int) + 32 < ((n : Nat) : Int) + 0
      exact ⟨fun h => (by cases h), fun h => by omega⟩
    · show b = true ↔ ((n : Nat) : Int) + 1 < ((qs.length : Nat) : Int) + 0
      rw [hb]
      omega
  have hm := ht.le
  rw [tv_len] at hm
  have hrs : ∀ q ∈ (tv qs n).take m, Fit q := fun q h => tv_fit hp.fit n q (List.mem_of_mem_take h)
  have hs : ∀ b, (b = true ↔ n + 1 < qs.length) → SumOK (symSig (ptEnv qs ((tv qs n).take m) w.heap.size n)) Tryz.prog (ptSums (ptB b)) := fun b hb => sumsOf_ok fun x hx => by
    simp only [List.mem_cons, List.not_mem_nil, or_false] at hx
    rcases hx with rfl | rfl | rfl
    · exact rpS_ok (hB b hb) hp hl
    · exact tuS_ok (hB b hb) hp.fit (show n < 9999 by omega) ht rfl
    · exact ppS_ok (hB b hb) hrs (by
        show ((tv qs n).take m).length ≤ 33
        rw [List.length_take, tv_len]; omega)
  rcases Nat.lt_or_ge (n + 1) qs.length with h | h
  · have hb : true = true ↔ n + 1 < qs.length := ⟨fun _ => h, fun _ => rfl⟩
    refine (tells_calls (lsFits hA (hB true hb)) (hs true hb) (pt_run true) rfl glob_few hu hG hT (Nat.le_refl _) (.none rfl)).mono ?_
    rintro e w' ⟨v', rfl, ⟨vs, rfl, u, l1, rfl, h1, u2, l2, rfl, h2, rfl⟩, hb⟩
    have h1' : u = .slice none 0 0 := h1
    have h2' : u2 = .int .i64 2 := h2
    subst h1'; subst h2'
    exact ⟨.inl ⟨h, rfl⟩, hb⟩
  · have hb : false = true ↔ n + 1 < qs.length := ⟨fun h => (by cases h), fun h2 => by omega⟩
    refine (tells_calls (lsFits hA (hB false hb)) (hs false hb) (pt_run false) rfl glob_few hu hG hT (Nat.le_refl _) (.none rfl)).mono ?_
    rintro e w' ⟨v', rfl, ⟨vs, rfl, u, l1, rfl, h1, u2, l2, rfl, h2, rfl⟩, hb⟩
    have h2' : u2 = .int .i64 0 := h2
    subst h2'
    exact ⟨.inr ⟨h, u, rfl, newOl_of (ρ := ptEnv qs ((tv qs n).take m) w.heap.size n) rfl h1 rfl (fun p hp => by cases hp)⟩, hb⟩
theorem trim_ex : ∀ (l : List Rat), ∃ m, TrimAt l m := by
  have key : ∀ (k : Nat) (l : List Rat), k ≤ l.length → (∀ i, k ≤ i → i < l.length → l[i]? = some 0) → ∃ m, TrimAt l m := by
    intro k
    induction k with
    | zero => exact fun l _ hz => ⟨0, Nat.zero_le _, hz, fun h => by omega⟩
    | succ k ih =>
      intro l hk hz
      by_cases h0 : l.getD k 0 = 0
      · refine ih l (by omega) fun i h1 h2 => ?_
        rcases Nat.eq_or_lt_of_le h1 with q | q
        · subst q
          rw [List.getD_eq_getElem?_getD, List.getElem?_eq_getElem h2] at h0
          rw [List.getElem?_eq_getElem h2]
          exact congrArg some h0
        · exact hz i q h2
      · exact ⟨k + 1, hk, hz, fun _ => h0⟩
  exact fun l => key l.length l (Nat.le_refl _) fun i h1 h2 => by omega
theorem TrimAt.getD {l : List Rat} {m : Nat} (h : TrimAt l m) (i : Nat) : (l.take m).getD i 0 = l.getD i 0 := by
  rw [List.getD_eq_getElem?_getD, List.getD_eq_getElem?_getD, List.getElem?_take]
  by_cases hi : i < m
  · rw [if_pos hi]
  · rw [if_neg hi]
    by_cases h2 : i < l.length
    · rw [h.zero i (by omega) h2]; rfl
    · rw [List.getElem?_eq_none (by omega)]
theorem TrimAt.poly {l : List Rat} {m : Nat} (h : TrimAt l m) (hq : ∀ q ∈ l, Fit q) : PolyOK (l.take m) := by
  refine ⟨fun q hq2 => hq q (List.mem_of_mem_take hq2), fun hne => ?_⟩
  have hm := h.le
  have hpos : 0 < m := by
    rcases Nat.eq_zero_or_pos m with q | q
    · subst q; simp at hne
    · exact q
  have hl : (l.take m).length = m := by rw [List.length_take]; omega
  have h2 := h.last hpos
  rw [← h.getD] at h2
  rw [List.getLastD_eq_getLast?, List.getLast?_eq_getElem?, hl, ← List.getD_eq_getElem?_getD]
  exact h2
theorem turn_back {ps : List Rat} {n m : Nat} (hp : PolyOK ps) (hl : ps.length ≤ n + 1) (ht : TrimAt (tv ps n) m) : TrimAt (tv ((tv ps n).take m) n) ps.length ∧ (tv ((tv ps n).take m) n).take ps.length = ps := by
  have hg : ∀ k, k < n + 1 → (tv ((tv ps n).take m) n)[k]? = some (ps.getD k 0) := fun k hk => by
    rw [tv_get hk, ht.getD, List.getD_eq_getElem?_getD, tv_get (show n - k < n + 1 by omega), show n - (n - k) = k by omega]; rfl
  refine ⟨⟨by rw [tv_len]; exact hl, fun i h1 h2 => ?_, fun hpos => ?_⟩, ?_⟩
  · rw [tv_len] at h2
    rw [hg i h2, List.getD_eq_getElem?_getD, List.getElem?_eq_none h1]; rfl
  · rw [List.getD_eq_getElem?_getD, hg _ (by omega)]
    have hne : ps ≠ [] := fun q => by rw [q] at hpos; simp at hpos
    have := hp.last hne
    rw [List.getLastD_eq_getLast?, List.getLast?_eq_getElem?, ← List.getD_eq_getElem?_getD] at this
    exact this
  · apply List.ext_getElem?
    intro i
    rw [List.getElem?_take]
    by_cases hi : i < ps.length
    · rw [if_pos hi, hg i (by omega), List.getD_eq_getElem?_getD, List.getElem?_eq_getElem hi]; rfl
    · rw [if_neg hi, List.getElem?_eq_none (by omega)]
end Ev
end Go.Proofs.YtdlhpleabfnogaaGreatDoor
namespace Go.Proofs.YtdlhpleabfnogaaGreatDoor
open Go.RowKit
set_option maxRecDepth 100000 in
set_option maxHeartbeats 4000000 in
theorem rasize_any (w : World) (n : Int) (h0 : -9223372036854775808 ≤ n) (h1 : n ≤ 9223372036854775807) :
    Calls Tryz.prog 34 #[.int .i64 n] w (Nat1 w n.natAbs) := by
  have hM : n.natAbs < Big.M64 := by unfold Big.M64; omega
  have C := Lib.hid (of_num w n.natAbs hM)
  clear hM
  by_cases hn : n < 0
  · obtain ⟨u, rfl⟩ : ∃ u : Nat, n = -(u : Int) := ⟨n.natAbs, by omega⟩
    have e : (-(u : Int)).natAbs = u := by omega
    rw [e] at C ⊢
    have hwr : IntKind.u64.wrap (-IntKind.u64.wrap (-(u : Int))) = (u : Int) := by rw [IntKind.wrap_u64, IntKind.wrap_u64]; omega
    clear e
    go_enter Tryz.func34, Tryz.ntmps34
    go_wp2_with fail
    refine C.out.mono ?_
    rintro e w' ⟨v', rfl, hv, hb⟩
    go_wp2_with fail
    go_ret
    exact ⟨_, rfl, hv, hb⟩
  · obtain ⟨u, rfl⟩ : ∃ u : Nat, n = (u : Int) := ⟨n.natAbs, by omega⟩
    have e : ((u : Int)).natAbs = u := by omega
    rw [e] at C ⊢
    clear e
    go_enter Tryz.func34, Tryz.ntmps34
    go_wp2_with fail
    refine C.out.mono ?_
    rintro e w' ⟨v', rfl, hv, hb⟩
    go_wp2_with fail
    go_ret
    exact ⟨_, rfl, hv, hb⟩
def Ret2 (w : World) (v : Value) (n : Int) (e : Ending) (w' : World) : Prop := e = .returned (.tuple #[v, .int .i64 n]) ∧ Below w.heap.size w w'
theorem At3.both {w w' : World} {g : Nat} {T : TypeId} {a b c : Value} (h : At3 w g T a b c) (hb : Below w.heap.size w w') (B : Nat) (w0 : World) (hB : Below B w0 w) : At3 w' g T a b c ∧ Below B w0 w' → At3 w' g T a b c := fun _ => h.keep hb
set_option maxRecDepth 100000 in
set_option maxHeartbeats 4000000 in
theorem answer_fit (w : World) (vx : Value) (q : Rat) (k : Nat) (hx : NumIn w vx q) (sx : Sm k q) (hk : k ≤ 10000000) (hf : Fit q) :
    Calls Tryz.prog 32 #[vx] w (Ret2 w (fracV q) 0) := by
  have SX := Lib.hid sx; have HF := Lib.hid hf
  obtain ⟨A, l, c, A2, l2, c2, rfl, hx1, hx2⟩ := hx.is_agg
  have HX := Lib.hid (And.intro hx1 hx2)
  have HQ := Lib.hid hx
  obtain ⟨X0, R0, B0⟩ := boxed2 w 71 35 (.bool (Big.ng q)) (.slice A l c) (.slice A2 l2 c2) (.bool false) (.string ⟨#[]⟩) (.string ⟨#[]⟩)
  have HR0 := Lib.hid R0; have HB0 := Lib.hid B0
  have x0 := X0.c0; have x1 := X0.c1; have x2 := X0.c2
  have C := Lib.hid (fun W (h : Below w.heap.size w W) => exFrac_fit W _ q k (HQ.out.keep h) SX.out hk HF.out)
  clear hx hx1 hx2 sx X0 R0 B0 hf
  go_enter Tryz.func32, Tryz.ntmps32
  go_wp2_with fail
  refine (C.out _ HB0.out).mono ?_
  generalize (w.alloc (.cells #[.bool (Big.ng q), .slice A l c, .slice A2 l2 c2] 71)).alloc (.cells #[.bool false, .string ⟨#[]⟩, .string ⟨#[]⟩] 35) = w0 at *
  rintro e w1 ⟨rfl, hw1⟩
  unfold fracV
  have HB1 := Lib.hid (HB0.out.trans (hw1.mono HB0.out.size))
  have R1 := HR0.out.keep hw1
  have hlt := R1.lt
  have HD := Lib.hid ((At3.put R1 (.bool (Big.ng q)) (.string (bst (Big.nu q))) (.string (bst (Big.de q)))).alloc' (.cells #[.bool (Big.ng q), .string (bst (Big.nu q)), .string (bst (Big.de q))] 35))
  have HE := Lib.hid (below_alloc (put_below HB1.out (show w.heap.size ≤ w.heap.size + 1 by omega) (.bool (Big.ng q)) (.string (bst (Big.nu q))) (.string (bst (Big.de q)))) (Nat.le_refl _) (.cells #[.bool (Big.ng q), .string (bst (Big.nu q)), .string (bst (Big.de q))] 35))
  have k0 := R1.c0; have k1 := R1.c1; have k2 := R1.c2; have f0 := R1.frozen 0; have f1 := R1.frozen 1; have f2 := R1.frozen 2
  clear R1 hw1 x0 x1 x2 HR0 C
  go_wp2_with fail
  generalize ((((w1.setCell ⟨w.heap.size + 1, 0, none⟩ (.bool (Big.ng q))).setCell ⟨w.heap.size + 1, 1, none⟩ (.string (bst (Big.nu q)))).setCell ⟨w.heap.size + 1, 2, none⟩ (.string (bst (Big.de q)))).alloc (.cells #[.bool (Big.ng q), .string (bst (Big.nu q)), .string (bst (Big.de q))] 35)) = wz at HD HE ⊢
  clear k0 k1 k2 f0 f1 f2
  have r0 := HD.out.c0; have r1 := HD.out.c1; have r2 := HD.out.c2
  exact bodyPost_ret (v := .tuple #[.agg #[.bool (Big.ng q), .string (bst (Big.nu q)), .string (bst (Big.de q))], .int .i64 0]) (by simp [results, Tryz.results32, go_sem, r0, r1, r2]) rfl ⟨rfl, HE.out⟩
end Go.Proofs.YtdlhpleabfnogaaGreatDoor
namespace Go.Proofs.YtdlhpleabfnogaaGreatDoor
open Go.RowKit
def ofQ (n d : Int) : Rat := mkRat (Big.sI (decide (n < 0) != decide (d < 0)) n.natAbs) d.natAbs
theorem ofQ_by {n d : Int} {k : Nat} (hn : n.natAbs < 256 ^ k) (hd : d.natAbs < 256 ^ k) (h0 : d ≠ 0) : By k (ofQ n d) := by
  obtain ⟨_, p2, p3⟩ := Big.of_parts (decide (n < 0) != decide (d < 0)) n.natAbs d.natAbs (by omega)
  unfold ofQ
  exact ⟨by rw [p2]; exact Nat.lt_of_le_of_lt (Nat.div_le_self _ _) hn, by rw [p3]; exact Nat.lt_of_le_of_lt (Nat.div_le_self _ _) hd⟩
set_option maxRecDepth 100000 in
set_option maxHeartbeats 4000000 in
theorem raOf_any (w : World) (n d : Int) (h0 : -9223372036854775808 ≤ n) (h1 : n ≤ 9223372036854775807) (h2 : -9223372036854775808 ≤ d) (h3 : d ≤ 9223372036854775807) (hd : d ≠ 0) :
    Calls Tryz.prog 16 #[.int .i64 n, .int .i64 d] w (Ret2 w (fracV (ofQ n d)) 0) := by
  have hb : By 8 (ofQ n d) := ofQ_by (by omega) (by omega) hd
  have HF := Lib.hid (hb.fit (by omega))
  have C1 := Lib.hid (fun W => rasize_any W n h0 h1)
  have C2 := Lib.hid (fun W => rasize_any W d h2 h3)
  have z1 : Sz 1 n.natAbs := sz_word (by unfold Big.M64; omega)
  have z2 : Sz 1 d.natAbs := sz_word (by unfold Big.M64; omega)
  have C3 := Lib.hid (fun W b v u (h : NatIn W v n.natAbs) (i : NatIn W u d.natAbs) => exOf_any W b v u n.natAbs d.natAbs 1 1 h i z1 z2 (by omega) (by omega) (by omega))
  have C4 := Lib.hid (fun W v (h : NumIn W v (ofQ n d)) => answer_fit W v _ 64 h HF.out.sm (by omega) HF.out)
  have hd0 : (d == 0) = false := beq_eq_false_iff_ne.2 hd
  have HOF := Lib.hid (show ofQ n d = mkRat (Big.sI (!(decide (n < 0) == decide (d < 0))) n.natAbs) d.natAbs from rfl)
  have HR0 := Lib.hid (At3.new w 35 (.bool false) (.string ⟨#[]⟩) (.string ⟨#[]⟩))
  have HB0 := Lib.hid (box1_below w (.cells #[.bool false, .string ⟨#[]⟩, .string ⟨#[]⟩] 35))
  clear hb z1 z2 hd h0 h1 h2 h3
  obtain ⟨Q, hQ⟩ : ∃ Q, ofQ n d = Q := ⟨_, rfl⟩
  rw [hQ] at HF C4 HOF ⊢
  clear hQ
  go_enter Tryz.func16, Tryz.ntmps16
  go_wp2_with fail
  generalize w.alloc (.cells #[.bool false, .string ⟨#[]⟩, .string ⟨#[]⟩] 35) = w0 at *
  refine (C1.out _).mono ?_
  rintro e w1 ⟨v1, rfl, hv1, hw1⟩
  go_wp2_with fail
  refine (C2.out _).mono ?_
  rintro e w2 ⟨v2, rfl, hv2, hw2⟩
  go_wp2_with fail
  refine (C3.out _ _ _ _ (hv1.keep hw2) hv2).mono ?_
  rintro e w3 ⟨v3, rfl, hv3, hw3⟩
  rw [← HOF.out] at hv3
  go_wp2_with fail
  refine (C4.out _ _ hv3).mono ?_
  rintro e w4 ⟨rfl, hw4⟩
  unfold fracV
  have b1 := HB0.out.trans (hw1.mono HB0.out.size)
  have b2 := b1.trans (hw2.mono b1.size)
  have b3 := b2.trans (hw3.mono b2.size)
  have b4 := b3.trans (hw4.mono b3.size)
  have R4 := (((HR0.out.keep hw1).keep hw2).keep hw3).keep hw4
  have HD := Lib.hid (At3.put R4 (.bool (Big.ng Q)) (.string (bst (Big.nu Q))) (.string (bst (Big.de Q))))
  have HE := Lib.hid (put_below b4 (Nat.le_refl _) (.bool (Big.ng Q)) (.string (bst (Big.nu Q))) (.string (bst (Big.de Q))))
  have k0 := R4.c0; have k1 := R4.c1; have k2 := R4.c2; have f0 := R4.frozen 0; have f1 := R4.frozen 1; have f2 := R4.frozen 2
  clear R4 b1 b2 b3 b4 hw1 hw2 hw3 hw4 hv1 hv2 hv3 C1 C2 C3 C4 HOF HR0 HB0
  go_wp2_with fail
  generalize (((w4.setCell ⟨w.heap.size, 0, none⟩ (.bool (Big.ng Q))).setCell ⟨w.heap.size, 1, none⟩ (.string (bst (Big.nu Q)))).setCell ⟨w.heap.size, 2, none⟩ (.string (bst (Big.de Q)))) = wz at HD HE ⊢
  clear k0 k1 k2 f0 f1 f2
  have r0 := HD.out.c0; have r1 := HD.out.c1; have r2 := HD.out.c2
  exact bodyPost_ret (v := .tuple #[.agg #[.bool (Big.ng Q), .string (bst (Big.nu Q)), .string (bst (Big.de Q))], .int .i64 0]) (by simp [results, Tryz.results16, go_sem, r0, r1, r2]) rfl ⟨rfl, HE.out⟩
end Go.Proofs.YtdlhpleabfnogaaGreatDoor
namespace Go.Proofs.YtdlhpleabfnogaaGreatDoor
open Go Go.RowKit
namespace Ev
set_option maxRecDepth 100000
theorem ofQ_one {q : Rat} (h : q.den = 1) : ofQ q.num 1 = q := by
  have hq : q = (q.num : Rat) := by
    apply Rat.ext
    · simp
    · simp [h]
  unfold ofQ
  have hd : (decide (q.num < 0) != decide ((1 : Int) < 0)) = decide (q.num < 0) := by
    rw [show decide ((1 : Int) < 0) = false from rfl]
    cases decide (q.num < 0) <;> rfl
  rw [hd, show (1 : Int).natAbs = 1 from rfl]
  have hs : Big.sI (decide (q.num < 0)) q.num.natAbs = q.num := by
    unfold Big.sI
    by_cases h0 : q.num < 0
    · simp [h0]; omega
    · simp [h0]; omega
  rw [hs]
  conv => rhs; rw [hq]
  rw [Rat.mkRat_one]
noncomputable def isI1 (v : Value) : Bool := match v with
  | .int k z => match k with
    | .i64 => eqI z 1
    | _ => false
  | _ => false
theorem isI1_ok {v : Value} (h : isI1 v = true) : v = .int .i64 1 := by
  cases v <;> first | (cases h; done) | skip
  rename_i k z
  cases k <;> first | (cases h; done) | skip
  rw [eqI_ok (show eqI z 1 = true from h)]
noncomputable def ofS : Nat × (List Value → Option (M Sy Value)) := (16, fun args => match args with
  | [a, b] => some (bind (fact a) fun f => match f with
    | .iz k e => cond (Nat.beq k 0 && isI1 b) (bind (newFacts [.ng e, .fn e, .fd e]) fun vs => ret (.tuple ⟨[.agg ⟨vs⟩, .int .i64 0]⟩)) fail
    | _ => fail)
  | _ => none)
theorem ofS_ok {ρ : Env} : SumF (symSig ρ) Tryz.prog ofS.1 ofS.2 := by
  intro args m hm
  rcases args with _ | ⟨a, _ | ⟨b, _ | ⟨c, l⟩⟩⟩ <;> first | (cases (show none = some m from hm); done) | skip
  cases hm
  refine ⟨loc_bind (loc_fact _) fun f => ?_, fun h nx v h' nx' R W e r w args' hv hM hN => ?_⟩
  · split
    · exact loc_cond (loc_bind (loc_newFacts _) fun _ => loc_ret _) loc_fail
    · exact loc_fail
  · cases hv with
    | cons h1 hv => cases hv with
      | cons h2 h3 =>
        cases h3
        obtain ⟨f, g1, nx1, R1, W1, R2, W2, e1, e2, rfl, rfl⟩ := bind_ok e
        obtain ⟨rfl, rfl, rfl, hf⟩ := fact_ok e1 h1 hM
        cases f <;> first | (cases (show (fail : M Sy Value) _ _ = _ from e2); done) | skip
        rename_i k q
        obtain ⟨hk, e3⟩ := cond_ok e2
        simp only [Bool.and_eq_true] at hk
        obtain rfl := Nat.eq_of_beq_eq_true hk.1
        obtain rfl := isI1_ok hk.2
        have hb := h2.int
        subst hb
        obtain ⟨i1, i2, i3, i4⟩ := (show izIs 0 (q.ev ρ.q) _ from hf)
        rw [i1]
        have c0 := raOf_any w (q.ev ρ.q).num 1 i3 i4 (by decide) (by decide) (by decide)
        rw [ofQ_one i2] at c0
        have := goes_aggT (u := .int .i64 0) (f := 16) (args' := [.int .i64 (q.ev ρ.q).num, .int .i64 1]) rfl e3 hM hN (c0.mono fun en w' hr => by
          obtain ⟨h5, h6⟩ := hr
          exact ⟨_, h5, frac_holds q, h6⟩)
        simp only [List.nil_append]
        exact this
def ops1 : Code → Nat
  | .seq a _ => ops1 a
  | .region _ ops _ => ops.size
  | .scope c => ops1 c
  | .block _ c => ops1 c
  | _ => 0
noncomputable def ofF : Nat := 8
noncomputable def o1Tm : List Nat := [0, 3]
noncomputable def o1Sl (x : Sy) : List (Sl Sy) := [.f (.ls 2 0), .f x]
noncomputable def o1B : List Ix := [.ln 0 1, .bd 7, .lt 0 0 7 0 true, .lt 7 (-1) 0 0 false, .lt 7 (-1) 1 0 true, .el 0 7 (-1) (.v 3)]
noncomputable def ofSums (A : List As) : Sums Sy := sumsOf (mkTab (ofS :: symList A))
theorem ofSums_ok {ρ : Env} {A : List As} (hA : AllH ρ A) : SumOK (symSig ρ) Tryz.prog (ofSums A) := sumsOf_ok fun x hx => by
  rcases List.mem_cons.1 hx with rfl | hx
  · exact ofS_ok
  · exact symList_ok hA x hx
noncomputable def ofCl (kp : Bool) (A : List As) (B : List Ix) (n : Nat) : Cl Sy := ⟨callY Tryz.prog (lsCfg kp A B noJ) (ofSums A) n, [], fun _ => none⟩
theorem ofCl_ok {ρ : Env} {kp : Bool} {A : List As} {B : List Ix} {n : Nat} (hA : AllH ρ A) (hB : AllX ρ B) : ClOK (symSig ρ) Tryz.prog (ofCl kp A B n) :=
  have h := callY_ok (C := lsCfg kp A B noJ) (lsFits hA hB) (.none rfl) (ofSums_ok hA) n
  ⟨⟨h.1, by intro x hx; simp [ofCl] at hx, fun x m e => (by cases e)⟩, h.2⟩
set_option maxHeartbeats 4000000 in
theorem o1_round : roundT Tryz.prog (lsCfg false trA1 o1B noJ) (ofCl false trA1 o1B 20) 42 20 eqSy o1Tm (o1Sl (.ix 7 0)) (o1Sl (.ix 7 (-1))) (loopOf ofF 0) = true := by kernel_rfl
noncomputable def o2Tm : List Nat := [4, 0, 25, 26]
noncomputable def o2Sl (l : Le) (x : Sl Sy) : List (Sl Sy) := [.ow (.ol 0 l (some (6, 0))), .f (.ls 2 0), .f (.ix 6 0), x]
noncomputable def o2B : List Ix := [.ln 0 1, .ln 1 2, .bd 2, .lt 2 0 6 0 true, .lt 2 0 1 0 true, .el 0 2 0 (.v 2)]
set_option maxHeartbeats 4000000 in
theorem o2_round : roundT Tryz.prog (lsCfg false [] o2B noJ) (ofCl false [] o2B 20) 42 20 eqSy o2Tm (o2Sl (.v 1) (.f (.ix 2 0))) (o2Sl (.snoc (.v 1) (.v 2)) (.f (.ix 2 1))) (loopOf ofF 1) = true := by kernel_rfl
noncomputable def ofJ : Jmps := fun f x => cond (Nat.beq f ofF) (cond (Nat.beq (ops1 x) 10) (some (jumpM eqSy 42 o1Tm (o1Sl (.ix 1 0)) (o1Sl (.ix 6 0)))) (some (jumpM eqSy 42 o2Tm (o2Sl .nil (.p (.int .i64 0))) (o2Sl (.v 5) (.f (.ix 6 0)))))) none
noncomputable def ofA0 (p : Bool) : List As := cond p [⟨1, .v 4, z0, false⟩] []
noncomputable def ofB0 (p : Bool) : List Ix := cond p [.ln 0 1, .bd 6, .lt 0 33 6 0 false, .lt 0 0 6 0 true, .lt 6 (-1) 0 0 false, .lt 6 (-1) 1 0 true, .el 0 6 (-1) (.v 4)] [.ln 0 1, .bd 6, .lt 0 33 6 0 false, .lt 0 0 6 0 false]
set_option maxHeartbeats 4000000 in
theorem of_run (p : Bool) : tells [.ls 2 0] [.one] (call Tryz.prog (lsCfg false (ofA0 p) (ofB0 p) ofJ) (ofSums (ofA0 p)) 20 ofF) = some (.one (.one (.ow (.ol 0 (.v 5) (some (6, 0)))))) := by cases p <;> kernel_rfl
theorem of_two : ∃ fn c, (Tryz.prog).funcs[ofF]? = some fn ∧ fn.body = some c ∧ fn.ntmps = 42 ∧ loopsIn c = [loopOf ofF 0, loopOf ofF 1] ∧ Nat.beq (ops1 (loopOf ofF 0)) 10 = true ∧ Nat.beq (ops1 (loopOf ofF 1)) 10 = false := ⟨_, _, rfl, rfl, rfl, rfl, rfl, rfl⟩
end Ev
end Go.Proofs.YtdlhpleabfnogaaGreatDoor
namespace Go.Proofs.YtdlhpleabfnogaaGreatDoor
open Go Go.RowKit
namespace Ev
set_option maxRecDepth 100000
def ofQs (qs : List Rat) (k m : Nat) : Nat → Rat
  | 2 => qs.getD k 0
  | 4 => qs.getD (m - 1) 0
  | _ => 0
theorem ofQs_fit {qs : List Rat} (hq : ∀ q ∈ qs, Fit q) (k m i : Nat) : Fit (ofQs qs k m i) := by
  unfold ofQs
  split
  · exact getD_fit hq _
  · exact getD_fit hq _
  · exact fit00
def ofNat (c k j m : Nat) : Nat → Nat
  | 1 => c
  | 2 => k
  | 6 => m
  | 7 => c - j
  | _ => 0
def ofLst (qs : List Rat) (k m : Nat) : Nat → List Rat
  | 0 => qs
  | 1 => qs.take k
  | 5 => qs.take m
  | _ => []
def ofEnv (qs : List Rat) (hq : ∀ q ∈ qs, Fit q) (lo k j m : Nat) : Env := ⟨ofQs qs k m, fun _ => (false, ⟨#[]⟩, ⟨#[]⟩), fun i _ => ofQs_fit hq k m i, fun i => (ofQs_fit hq k m i).sm.up (by decide), fun _ => bad_zero, lo, ofLst qs k m, ofNat qs.length k j m, rfl⟩
theorem condJ' {b : Bool} {m : Tr Value → M Sy (Tr Value)} {o : Option (Tr Value → M Sy (Tr Value))} (h : cond b o none = some m) : b = true ∧ o = some m := by
  cases b with
  | true => exact ⟨rfl, h⟩
  | false => cases h
section
variable {qs : List Rat} (hq : ∀ q ∈ qs, Fit q) (lo : Nat) {m : Nat}
theorem o1_jmp (hn : qs.length ≤ 10000) (ht : TrimAt qs m) : JmpOK (symSig (ofEnv qs hq lo 0 0 m)) Tryz.prog 42 (loopOf ofF 0) (jumpM eqSy 42 o1Tm (o1Sl (.ix 1 0)) (o1Sl (.ix 6 0))) := by
  have hm := ht.le
  refine @jmp_ok Sy (symSig (ofEnv qs hq lo 0 0 m)) Tryz.prog eqSy eqSy_ok 42 (loopOf ofF 0) o1Tm (o1Sl (.ix 1 0)) (o1Sl (.ix 7 0)) (o1Sl (.ix 7 (-1))) (o1Sl (.ix 6 0)) (qs.length - m) (fun j => symSig (ofEnv qs hq lo 0 j m)) (fun k => ⟨rfl, rfl, rfl⟩) rfl rfl rfl rfl ?_ ?_ ?_ ?_
  · intro w vs h
    obtain ⟨v1, l1, rfl, a1, v2, l2, rfl, a2, rfl⟩ := h
    exact ⟨v1, _, rfl, a1, v2, _, rfl, ⟨a2.1, a2.2⟩, rfl⟩
  · intro j hj w vs h
    obtain ⟨v1, l1, rfl, a1, v2, l2, rfl, a2, rfl⟩ := h
    refine ⟨v1, _, rfl, a1, v2, _, rfl, ⟨?_, a2.2⟩, rfl⟩
    have h2 : v2 = .int .i64 (((qs.length - j : Nat) : Int) + (-1)) := a2.1
    show v2 = .int .i64 (((qs.length - (j + 1) : Nat) : Int) + 0)
    rw [h2]; congr 1; omega
  · intro w vs h
    obtain ⟨v1, l1, rfl, a1, v2, l2, rfl, a2, rfl⟩ := h
    refine ⟨v1, _, rfl, a1, v2, _, rfl, ⟨?_, a2.2⟩, rfl⟩
    have h2 : v2 = .int .i64 (((qs.length - (qs.length - m) : Nat) : Int) + 0) := a2.1
    show v2 = .int .i64 (((m : Nat) : Int) + 0)
    rw [h2]; congr 1; omega
  · intro j hj ro d B0 D0 a w hAt
    have hA : AllH (ofEnv qs hq lo 0 j m) trA1 := fun x hx => by
      simp only [trA1, List.mem_cons, List.not_mem_nil, or_false] at hx
      subst hx
      exact ⟨fun _ => rfl, fun _ => rfl⟩
    have hB : AllX (ofEnv qs hq lo 0 j m) o1B := fun x hx => by
      simp only [o1B, List.mem_cons, List.not_mem_nil, or_false] at hx
      rcases hx with rfl | rfl | rfl | rfl | rfl | rfl
      · rfl
      · show qs.length - j ≤ 10000
        omega
      · show true = true ↔ ((0 : Nat) : Int) + 0 < ((qs.length - j : Nat) : Int) + 0
        exact ⟨fun _ => by omega, fun _ => rfl⟩
      · show false = true ↔ ((qs.length - j : Nat) : Int) + (-1) < ((0 : Nat) : Int) + 0
        exact ⟨fun h => (by cases h), fun h => by omega⟩
      · show true = true ↔ ((qs.length - j : Nat) : Int) + (-1) < ((qs.length : Nat) : Int) + 0
        exact ⟨fun _ => by omega, fun _ => rfl⟩
      · refine ⟨qs.length - j - 1, ?_, ?_⟩
        · show ((qs.length - j - 1 : Nat) : Int) = ((qs.length - j : Nat) : Int) + (-1)
          omega
        · exact ht.zero (qs.length - j - 1) (by omega) (by omega)
    exact round_run (C := lsCfg false _ _ noJ) (call := ofCl false _ _ 20) (fuel := 20) (lsFits hA hB) (ofCl_ok hA hB) rfl (fun y _ m e => by cases e) eqSy_ok o1_round few5 hAt
theorem o2_jmp (hn : qs.length ≤ 10000) (ht : TrimAt qs m) : JmpOK (symSig (ofEnv qs hq lo 0 0 m)) Tryz.prog 42 (loopOf ofF 1) (jumpM eqSy 42 o2Tm (o2Sl .nil (.p (.int .i64 0))) (o2Sl (.v 5) (.f (.ix 6 0)))) := by
  have hm := ht.le
  refine @jmp_ok Sy (symSig (ofEnv qs hq lo 0 0 m)) Tryz.prog eqSy eqSy_ok 42 (loopOf ofF 1) o2Tm (o2Sl .nil (.p (.int .i64 0))) (o2Sl (.v 1) (.f (.ix 2 0))) (o2Sl (.snoc (.v 1) (.v 2)) (.f (.ix 2 1))) (o2Sl (.v 5) (.f (.ix 6 0))) m (fun k => symSig (ofEnv qs hq lo k 0 m)) (fun k => ⟨rfl, rfl, rfl⟩) rfl rfl rfl rfl ?_ ?_ ?_ ?_
  · intro w vs h
    obtain ⟨v1, l1, rfl, a1, v2, l2, rfl, a2, v3, l3, rfl, a3, v4, l4, rfl, a4, rfl⟩ := h
    refine ⟨v1, _, rfl, ⟨?_, a1.2⟩, v2, _, rfl, a2, v3, _, rfl, a3, v4, _, rfl, ⟨?_, ?_⟩, rfl⟩
    · exact olIs.env (l' := .v 1) (z' := some (6, 0)) (show olIs _ 0 .nil (some (6, 0)) w v1 from a1.1) rfl rfl
    · rw [show v4 = .int .i64 0 from a4]; rfl
    · rw [show v4 = .int .i64 0 from a4]; rfl
  · intro k hk w vs h
    obtain ⟨v1, l1, rfl, a1, v2, l2, rfl, a2, v3, l3, rfl, a3, v4, l4, rfl, a4, rfl⟩ := h
    refine ⟨v1, _, rfl, ⟨?_, a1.2⟩, v2, _, rfl, a2, v3, _, rfl, a3, v4, _, rfl, ⟨?_, a4.2⟩, rfl⟩
    · refine olIs.env (ρ := ofEnv qs hq lo k 0 m) (l' := .v 1) (z' := some (6, 0)) (show olIs _ 0 (.snoc (.v 1) (.v 2)) (some (6, 0)) w v1 from a1.1) ?_ rfl
      show qs.take (k + 1) = qs.take k ++ [qs.getD k 0]
      rw [List.take_add_one, List.getD_eq_getElem?_getD, List.getElem?_eq_getElem (by omega)]; rfl
    · have h4 : v4 = .int .i64 (((k : Nat) : Int) + 1) := a4.1
      show v4 = .int .i64 (((k + 1 : Nat) : Int) + 0)
      rw [h4]; congr 1
  · intro w vs h
    obtain ⟨v1, l1, rfl, a1, v2, l2, rfl, a2, v3, l3, rfl, a3, v4, l4, rfl, a4, rfl⟩ := h
    refine ⟨v1, _, rfl, ⟨?_, a1.2⟩, v2, _, rfl, a2, v3, _, rfl, a3, v4, _, rfl, ⟨a4.1, a4.2⟩, rfl⟩
    exact olIs.env (ρ := ofEnv qs hq lo m 0 m) (l' := .v 5) (z' := some (6, 0)) (show olIs _ 0 (.v 1) (some (6, 0)) w v1 from a1.1) rfl rfl
  · intro k hk ro d B0 D0 a w hAt
    have hA : AllH (ofEnv qs hq lo k 0 m) [] := fun x hx => by simp at hx
    have hB : AllX (ofEnv qs hq lo k 0 m) o2B := fun x hx => by
      simp only [o2B, List.mem_cons, List.not_mem_nil, or_false] at hx
      rcases hx with rfl | rfl | rfl | rfl | rfl | rfl
      · rfl
      · show (qs.take k).length = k
        rw [List.length_take]; omega
      · show k ≤ 10000
        omega
      · show true = true ↔ ((k : Nat) : Int) + 0 < ((m : Nat) : Int) + 0
        exact ⟨fun _ => by omega, fun _ => rfl⟩
      · show true = true ↔ ((k : Nat) : Int) + 0 < ((qs.length : Nat) : Int) + 0
        exact ⟨fun _ => by omega, fun _ => rfl⟩
      · refine ⟨k, ?_, ?_⟩
        · show ((k : Nat) : Int) = ((k : Nat) : Int) + 0
          omega
        · show qs[k]? = some (qs.getD k 0)
          rw [List.getD_eq_getElem?_getD, List.getElem?_eq_getElem (by omega)]; rfl
    exact round_run (C := lsCfg false _ _ noJ) (call := ofCl false _ _ 20) (fuel := 20) (lsFits hA hB) (ofCl_ok hA hB) rfl (fun y _ m e => by cases e) eqSy_ok o2_round few5 hAt
theorem of_all {kp : Bool} {A : List As} {B : List Ix} (hn : qs.length ≤ 10000) (ht : TrimAt qs m) : JmpAll (symSig (ofEnv qs hq lo 0 0 m)) Tryz.prog (lsCfg kp A B ofJ) := by
  refine ⟨fun f x m e ts => ?_, fun f fn c x m hf hb hx e => ?_⟩
  · rcases condJ' (show cond (Nat.beq f ofF) (cond (Nat.beq (ops1 x) 10) (some (jumpM eqSy 42 o1Tm (o1Sl (.ix 1 0)) (o1Sl (.ix 6 0)))) (some (jumpM eqSy 42 o2Tm (o2Sl .nil (.p (.int .i64 0))) (o2Sl (.v 5) (.f (.ix 6 0)))))) none = some m from e) with ⟨_, e2⟩
    rcases condJ e2 with ⟨_, rfl⟩ | ⟨_, e3⟩
    · exact loc_jumpM _ _ _ _ _
    · cases e3; exact loc_jumpM _ _ _ _ _
  · rcases condJ' (show cond (Nat.beq f ofF) (cond (Nat.beq (ops1 x) 10) (some (jumpM eqSy 42 o1Tm (o1Sl (.ix 1 0)) (o1Sl (.ix 6 0)))) (some (jumpM eqSy 42 o2Tm (o2Sl .nil (.p (.int .i64 0))) (o2Sl (.v 5) (.f (.ix 6 0)))))) none = some m from e) with ⟨h1, e2⟩
    obtain rfl := Nat.eq_of_beq_eq_true h1
    obtain ⟨fn0, c0, q1, q2, q3, q4, q5, q6⟩ := of_two
    have hf' : (Tryz.prog).funcs[ofF]? = some fn := hf
    rw [q1] at hf'
    cases hf'
    rw [q2] at hb
    cases hb
    rw [q4] at hx
    rw [q3]
    simp only [List.mem_cons, List.not_mem_nil, or_false] at hx
    rcases hx with rfl | rfl
    · rw [q5] at e2
      cases e2
      exact @o1_jmp qs hq lo _ hn ht
    · rw [q6] at e2
      cases e2
      exact @o2_jmp qs hq lo _ hn ht
end
end Ev
end Go.Proofs.YtdlhpleabfnogaaGreatDoor
