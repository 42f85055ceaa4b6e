/- Contracts. -/
import Derived.Test.YtnlhjcfpfapafaaSSq27
namespace Go.Proofs.Ytnlhjcfpfapafaa
open Go Go.RowKit
namespace Ev
set_option maxRecDepth 100000
def uqQ (Q : Nat → Rat) : Nat → Rat
 | 109 => 0
 | i => Q i
def uqNat (N : Nat → Nat) (k : Nat) : Nat → Nat
 | 7 => k
 | i => N i
theorem uqQ_is (Q : Nat → Rat) (i : Nat) : uqQ Q i = 0 ∨ uqQ Q i = Q i := by
 unfold uqQ
 split
 ·exact .inl rfl
 ·exact .inr rfl
def uqEnv (E : Env) (k : Nat) : Env := ⟨uqQ E.q, E.raw, fun i h => by
  rcases uqQ_is E.q i with q | q <;> rw [q]
  ·exact fit00
  ·exact E.fit i h, fun i => by
  rcases uqQ_is E.q i with q | q <;> rw [q]
  ·exact fit00.sm.up (by decide)
  ·exact E.big i, E.bad, E.lo, E.lst, uqNat E.nat k, E.nat0⟩
theorem uq_ow {E : Env} {k : Nat} {w : World} {v : Value} (h : olIs E 1 (.v 8) (some (5, 0)) w v) : olIs (uqEnv E k) 1 (.v 8) (some (5, 0)) w v := olIs.env (l' := .v 8) (z' := some (5, 0)) h rfl rfl
theorem uq_wo {E : Env} {k : Nat} {w : World} {v : Value} (h : olIs (uqEnv E k) 1 (.v 8) (some (5, 0)) w v) : olIs E 1 (.v 8) (some (5, 0)) w v := olIs.env (l' := .v 8) (z' := some (5, 0)) h rfl rfl
theorem uq_jmp {E : Env} {m : Nat} (hm : TrimAt (E.lst 8) m) (h5 : E.nat 5 = (E.lst 8).length) (h6 : E.nat 6 = m) (hl : (E.lst 8).length ≤ 9000) :
  JmpOK (symSig E) Try.prog 22 (loopOf trF 0) (jumpM eqSy 22 trTm (uqSl (.ix 5 0)) (uqSl (.ix 6 0))) := by
 have hle := hm.le
 refine @jmp_ok Sy (symSig E) Try.prog eqSy eqSy_ok 22 (loopOf trF 0) trTm (uqSl (.ix 5 0)) (uqSl (.ix 7 0)) (uqSl (.ix 7 (-1))) (uqSl (.ix 6 0)) ((E.lst 8).length - m) (fun j => symSig (uqEnv E ((E.lst 8).length - j))) (fun k => sig_same _ _ (show E.lo = E.lo from rfl)) rfl rfl rfl rfl ?_ ?_ ?_ ?_
 ·intro w vs h
  obtain ⟨v1, l1, rfl, a1, v2, l2, rfl, a2, rfl⟩ := h
  refine ⟨v1, _, rfl, ⟨uq_ow (E := E) (show olIs E 1 (.v 8) (some (5, 0)) w v1 from a1.1), a1.2⟩, v2, _, rfl, ⟨?_, a2.2⟩, rfl⟩
  have h2 : v2 = .int .i64 (((E.nat 5 : Nat) : Int) + 0) := a2.1
  show v2 = .int .i64 ((((E.lst 8).length - 0 : Nat) : Int) + 0)
  rw [h2, h5]; rfl
 ·intro j hj w vs h
  obtain ⟨v1, l1, rfl, a1, v2, l2, rfl, a2, rfl⟩ := h
  refine ⟨v1, _, rfl, ⟨uq_ow (E := E) (uq_wo (show olIs (uqEnv E ((E.lst 8).length - j)) 1 (.v 8) (some (5, 0)) w v1 from a1.1)), a1.2⟩, v2, _, rfl, ⟨?_, a2.2⟩, rfl⟩
  have h2 : v2 = .int .i64 ((((E.lst 8).length - j : Nat) : Int) + (-1)) := a2.1
  show v2 = .int .i64 ((((E.lst 8).length - (j + 1) : Nat) : Int) + 0)
  rw [h2]; congr 1; omega
 ·intro w vs h
  obtain ⟨v1, l1, rfl, a1, v2, l2, rfl, a2, rfl⟩ := h
  refine ⟨v1, _, rfl, ⟨uq_wo (show olIs (uqEnv E ((E.lst 8).length - ((E.lst 8).length - m))) 1 (.v 8) (some (5, 0)) w v1 from a1.1), a1.2⟩, v2, _, rfl, ⟨?_, a2.2⟩, rfl⟩
  have h2 : v2 = .int .i64 ((((E.lst 8).length - ((E.lst 8).length - m) : Nat) : Int) + 0) := a2.1
  show v2 = .int .i64 (((E.nat 6 : Nat) : Int) + 0)
  rw [h2, h6]; congr 1; omega
 ·intro j hj ro d B0 D0 a w hAt
  have hA : AllH (uqEnv E ((E.lst 8).length - j)) uqA1 := fun x hx => by
   simp only [uqA1, List.mem_cons, List.not_mem_nil, or_false] at hx
   subst hx
   exact ⟨fun _ => rfl, fun _ => rfl⟩
  have hB : AllX (uqEnv E ((E.lst 8).length - j)) uqB1 := fun x hx => by
   simp only [uqB1, List.mem_cons, List.not_mem_nil, or_false] at hx
   rcases hx with rfl | rfl | rfl | rfl | rfl | rfl
   ·exact h5.symm
   ·show (E.lst 8).length - j ≤ 10000
    omega
   ·show true = true ↔ ((E.nat 0 : Nat) : Int) + 0 < (((E.lst 8).length - j : Nat) : Int) + 0
    rw [E.nat0]
    exact ⟨fun _ => by omega, fun _ => rfl⟩
   ·show false = true ↔ (((E.lst 8).length - j : Nat) : Int) + (-1) < ((E.nat 0 : Nat) : Int) + 0
    rw [E.nat0]
    exact ⟨fun h => (by cases h), fun h => by omega⟩
   ·show true = true ↔ (((E.lst 8).length - j : Nat) : Int) + (-1) < ((E.nat 5 : Nat) : Int) + 0
    rw [h5]
    exact ⟨fun _ => by omega, fun _ => rfl⟩
   ·refine ⟨(E.lst 8).length - j - 1, ?_, ?_⟩
    ·show (((E.lst 8).length - j - 1 : Nat) : Int) = (((E.lst 8).length - j : Nat) : Int) + (-1)
     omega
    ·exact hm.zero _ (by omega) (by omega)
  exact round_run (C := lsCfg false _ _ noJ) (call := lsClW false _ _ 20) (fuel := 20) (lsFits hA hB) (lsClW_ok hA hB) rfl (fun y _ m e => by cases e) eqSy_ok uq_round few5 hAt
theorem uq_A0 {E : Env} {m : Nat} (hm : TrimAt (E.lst 8) m) (h4 : E.q 104 = (E.lst 8).getD (m - 1) 0) {p : Bool} (hp : p = true ↔ 0 < m) : AllH E (uqA0 p (Big.ng (E.q 104))) := by
 cases p with
 | false => intro x hx; simp [uqA0] at hx
 | true =>
  intro x hx
  simp only [uqA0, cond_true, List.mem_cons, List.not_mem_nil, or_false] at hx
  rcases hx with rfl | rfl
  ·show false = true ↔ E.q 104 = 0
   exact ⟨fun h => (by cases h), fun h => absurd (h4 ▸ h) (hm.last (hp.1 rfl))⟩
  ·rfl
theorem uq_B0 {E : Env} {m : Nat} (hm : TrimAt (E.lst 8) m) (h4 : E.q 104 = (E.lst 8).getD (m - 1) 0) (h5 : E.nat 5 = (E.lst 8).length) (h6 : E.nat 6 = m) (hl : (E.lst 8).length ≤ 9000) {p : Bool} (hp : p = true ↔ 0 < m) : AllX E (uqB0 p) := by
 have hle := hm.le
 have c1 : E.nat 5 ≤ 10000 := by omega
 have c2 : false = true ↔ ((E.nat 5 : Nat) : Int) + 0 < ((E.nat 6 : Nat) : Int) + 0 := ⟨fun h => (by cases h), fun h => by omega⟩
 have c3 : E.nat 6 ≤ 10000 := by omega
 cases p with
 | false =>
  have h0 : m = 0 := by
   rcases Nat.eq_zero_or_pos m with h | h
   ·exact h
   ·have := hp.2 h; cases this
  intro x hx
  simp only [uqB0, cond_false, List.mem_cons, List.not_mem_nil, or_false] at hx
  rcases hx with rfl | rfl | rfl | rfl | rfl
  ·exact c1
  ·exact h5.symm
  ·exact c2
  ·show false = true ↔ ((E.nat 0 : Nat) : Int) + 0 < ((E.nat 6 : Nat) : Int) + 0
   rw [E.nat0]
   exact ⟨fun h => (by cases h), fun h => by omega⟩
  ·exact c3
 | true =>
  have h0 := hp.1 rfl
  intro x hx
  simp only [uqB0, cond_true, List.mem_cons, List.not_mem_nil, or_false] at hx
  rcases hx with rfl | rfl | rfl | rfl | rfl | rfl | rfl | rfl
  ·exact c1
  ·exact h5.symm
  ·exact c2
  ·show true = true ↔ ((E.nat 0 : Nat) : Int) + 0 < ((E.nat 6 : Nat) : Int) + 0
   rw [E.nat0]
   exact ⟨fun _ => by omega, fun _ => rfl⟩
  ·show false = true ↔ ((E.nat 6 : Nat) : Int) + (-1) < ((E.nat 0 : Nat) : Int) + 0
   rw [E.nat0]
   exact ⟨fun h => (by cases h), fun h => by omega⟩
  ·show true = true ↔ ((E.nat 6 : Nat) : Int) + (-1) < ((E.nat 5 : Nat) : Int) + 0
   exact ⟨fun _ => by omega, fun _ => rfl⟩
  ·refine ⟨m - 1, ?_, ?_⟩
   ·show ((m - 1 : Nat) : Int) = ((E.nat 6 : Nat) : Int) + (-1)
    omega
   ·show (E.lst 8)[m - 1]? = some (E.q 104)
    rw [h4, List.getD_eq_getElem?_getD, List.getElem?_eq_getElem (by omega)]; rfl
  ·exact c3
structure QaFit (p q : List Rat) : Prop where
 fp : ∀ x ∈ p, Sm 4096 x
 fq : ∀ x ∈ q, Sm 4096 x
 fs : ∀ x ∈ pa p q, Sm 4096 x
def qaQ (p q : List Rat) (i m : Nat) : Nat → Rat
 | 102 => p.getD i 0
 | 103 => q.getD i 0
 | 104 => (pa p q).getD (m - 1) 0
 | _ => 0
theorem qaQ_fit {p q : List Rat} (h : QaFit p q) (i m n : Nat) : Sm 4096 (qaQ p q i m n) := by
 unfold qaQ
 split
 ·exact getD_sm h.fp _
 ·exact getD_sm h.fq _
 ·exact getD_sm h.fs _
 ·exact fit00.sm.up (by decide)
theorem qaQ_low (p q : List Rat) (i m n : Nat) (hn : n < 100) : Fit (qaQ p q i m n) := by
 unfold qaQ
 split <;> first | omega | exact fit00
def qaNat (a b i m : Nat) : Nat → Nat
 | 1 => a
 | 2 => b
 | 4 => i
 | 5 => max a b
 | 6 => m
 | _ => 0
def qaLst (p q : List Rat) (i : Nat) : Nat → List Rat
 | 0 => p
 | 3 => q
 | 1 => (pa p q).take i
 | 8 => pa p q
 | _ => []
def qaEnv (p q : List Rat) (h : QaFit p q) (lo i m : Nat) : Env := ⟨qaQ p q i m, fun _ => (false, ⟨#[]⟩, ⟨#[]⟩), fun n hn => qaQ_low p q i m n hn, fun n => qaQ_fit h i m n, fun _ => bad_zero, lo, qaLst p q i, qaNat p.length q.length i m, rfl⟩
section
variable {p q : List Rat} (hf : QaFit p q) (lo : Nat) {m : Nat}
theorem qa_jmp (hp9 : p.length ≤ 1000) (hq9 : q.length ≤ 1000) : JmpOK (symSig (qaEnv p q hf lo 0 m)) Try.prog 34 (loopOf qrF 0) (jumpM eqSy 34 qaT (qaS .nil (.p (.int .i64 0))) (qaS (.v 8) (.f (.ix 5 0)))) := by
 have hlen := pa_len p q
 refine @jmp_ok Sy (symSig (qaEnv p q hf lo 0 m)) Try.prog eqSy eqSy_ok 34 (loopOf qrF 0) qaT (qaS .nil (.p (.int .i64 0))) (qaS (.v 1) (.f (.ix 4 0))) (qaS (.snoc (.v 1) (.add (.v 102) (.v 103))) (.f (.ix 4 1))) (qaS (.v 8) (.f (.ix 5 0))) (max p.length q.length) (fun i => symSig (qaEnv p q hf lo i m)) (fun k => sig_same _ _ (show lo = lo from rfl)) rfl rfl rfl rfl ?_ ?_ ?_ ?_
 ·intro w vs h
  obtain ⟨v1, l1, rfl, a1, v2, l2, rfl, a2, v3, l3, rfl, a3, v4, l4, rfl, a4, v5, l5, rfl, a5, v6, l6, rfl, a6, rfl⟩ := h
  refine ⟨v1, _, rfl, ⟨?_, a1.2⟩, v2, _, rfl, a2, v3, _, rfl, a3, v4, _, rfl, a4, v5, _, rfl, a5, v6, _, rfl, ⟨?_, ?_⟩, rfl⟩
  ·exact olIs.env (l' := .v 1) (z' := some (5, 0)) (show olIs _ 1 .nil (some (5, 0)) w v1 from a1.1) rfl rfl
  ·rw [show v6 = .int .i64 0 from a6]; rfl
  ·rw [show v6 = .int .i64 0 from a6]; rfl
 ·intro i hi w vs h
  obtain ⟨v1, l1, rfl, a1, v2, l2, rfl, a2, v3, l3, rfl, a3, v4, l4, rfl, a4, v5, l5, rfl, a5, v6, l6, rfl, a6, rfl⟩ := h
  refine ⟨v1, _, rfl, ⟨?_, a1.2⟩, v2, _, rfl, a2, v3, _, rfl, a3, v4, _, rfl, a4, v5, _, rfl, a5, v6, _, rfl, ⟨?_, a6.2⟩, rfl⟩
  ·refine olIs.env (ρ := qaEnv p q hf lo i m) (l' := .v 1) (z' := some (5, 0)) (show olIs _ 1 (.snoc (.v 1) (.add (.v 102) (.v 103))) (some (5, 0)) w v1 from a1.1) ?_ rfl
   show (pa p q).take (i + 1) = (pa p q).take i ++ [p.getD i 0 + q.getD i 0]
   rw [List.take_add_one, pa_get hi]; rfl
  ·have h6 : v6 = .int .i64 (((i : Nat) : Int) + 1) := a6.1
   show v6 = .int .i64 (((i + 1 : Nat) : Int) + 0)
   rw [h6]; congr 1
 ·intro w vs h
  obtain ⟨v1, l1, rfl, a1, v2, l2, rfl, a2, v3, l3, rfl, a3, v4, l4, rfl, a4, v5, l5, rfl, a5, v6, l6, rfl, a6, rfl⟩ := h
  refine ⟨v1, _, rfl, ⟨?_, a1.2⟩, v2, _, rfl, a2, v3, _, rfl, a3, v4, _, rfl, a4, v5, _, rfl, a5, v6, _, rfl, ⟨a6.1, a6.2⟩, rfl⟩
  refine olIs.env (ρ := qaEnv p q hf lo (max p.length q.length) m) (l' := .v 8) (z' := some (5, 0)) (show olIs _ 1 (.v 1) (some (5, 0)) w v1 from a1.1) ?_ rfl
  show pa p q = (pa p q).take (max p.length q.length)
  rw [List.take_of_length_le (by omega)]
 ·intro i hi ro d B0 D0 a w hAt
  obtain ⟨s, hs⟩ : ∃ b : Bool, b = true ↔ i < p.length := ⟨decide (i < p.length), by rw [decide_eq_true_iff]⟩
  obtain ⟨t, ht⟩ : ∃ b : Bool, b = true ↔ i < q.length := ⟨decide (i < q.length), by rw [decide_eq_true_iff]⟩
  have hB : AllX (qaEnv p q hf lo i m) (qaB1 s t) := by
   intro x hx
   unfold qaB1 at hx
   rcases List.mem_append.1 hx with hx | hx
   ·simp only [List.mem_cons, List.not_mem_nil, or_false] at hx
    rcases hx with rfl | rfl | rfl | rfl | rfl | rfl | rfl
    ·rfl
    ·rfl
    ·show ((pa p q).take i).length = i
     rw [List.length_take]; omega
    ·show i ≤ 10000
     omega
    ·show true = true ↔ ((i : Nat) : Int) + 0 < ((max p.length q.length : Nat) : Int) + 0
     exact ⟨fun _ => by omega, fun _ => rfl⟩
    ·show s = true ↔ ((i : Nat) : Int) + 0 < ((p.length : Nat) : Int) + 0
     rw [hs]; omega
    ·show t = true ↔ ((i : Nat) : Int) + 0 < ((q.length : Nat) : Int) + 0
     rw [ht]; omega
   ·have el : ∀ {l : List Rat} {c : Nat} {e : Qe}, (qaEnv p q hf lo i m).lst c = l → e.ev (qaEnv p q hf lo i m).q = l.getD i 0 → i < l.length → (Ix.el c 4 0 e).holds (qaEnv p q hf lo i m) := fun {l c e} h1 h2 h3 => by
     refine ⟨i, ?_, ?_⟩
     ·show ((i : Nat) : Int) = ((i : Nat) : Int) + 0
      omega
     ·rw [h1, h2, List.getD_eq_getElem?_getD, List.getElem?_eq_getElem h3]; rfl
    rcases List.mem_append.1 hx with hx | hx
    ·cases s with
     | false => simp at hx
     | true =>
      simp only [cond_true, List.mem_cons, List.not_mem_nil, or_false] at hx
      subst hx
      exact el (l := p) rfl rfl (hs.1 rfl)
    ·cases t with
     | false => simp at hx
     | true =>
      simp only [cond_true, List.mem_cons, List.not_mem_nil, or_false] at hx
      subst hx
      exact el (l := q) rfl rfl (ht.1 rfl)
  have hst : (s || t) = true := by
   rcases Nat.lt_or_ge i p.length with h | h
   ·rw [hs.2 h]; rfl
   ·rw [ht.2 (by omega), Bool.or_true]
  have none : ∀ {l : List Rat} {b : Bool}, (b = true ↔ i < l.length) → b = false → l.getD i 0 = 0 := fun {l b} h1 h2 => by
   have hle : l.length ≤ i := by
    rcases Nat.lt_or_ge i l.length with q | q
    ·have := h1.2 q; rw [h2] at this; cases this
    ·exact q
   rw [List.getD_eq_getElem?_getD, List.getElem?_eq_none hle]; rfl
  have hA : AllH (qaEnv p q hf lo i m) (qaA1 s t) := fun x hx => by
   cases s with
   | false =>
    simp only [qaA1, cond_false, List.mem_cons, List.not_mem_nil, or_false] at hx
    subst hx
    show true = true ↔ p.getD i 0 = 0
    exact ⟨fun _ => none hs rfl, fun _ => rfl⟩
   | true =>
    cases t with
    | false =>
     simp only [qaA1, cond_true, cond_false, List.mem_cons, List.not_mem_nil, or_false] at hx
     subst hx
     show true = true ↔ q.getD i 0 = 0
     exact ⟨fun _ => none ht rfl, fun _ => rfl⟩
    | true => simp [qaA1] at hx
  exact round_run (C := lsCfg false (qaA1 s t) (qaB1 s t) noJ) (call := lsClW false (qaA1 s t) (qaB1 s t) 20) (fuel := 20) (lsFits hA hB) (lsClW_ok hA hB) rfl (fun y _ m e => by cases e) eqSy_ok (qa_round s t hst) few5 hAt
theorem qa_all {A : List As} {B : List Ix} (hm : TrimAt (pa p q) m) (hp9 : p.length ≤ 1000) (hq9 : q.length ≤ 1000) : JmpAll (symSig (qaEnv p q hf lo 0 m)) Try.prog (lsCfg false A B qaJ) := by
 have hlen := pa_len p q
 refine ⟨fun f x m e ts => ?_, fun f fn c x m2 ht hb hx e => ?_⟩
 ·rcases condJ (show cond (Nat.beq f qrF) (some (jumpM eqSy 34 qaT (qaS .nil (.p (.int .i64 0))) (qaS (.v 8) (.f (.ix 5 0))))) (uqJ f x) = some m from e) with ⟨_, rfl⟩ | ⟨_, e2⟩
  ·exact loc_jumpM _ _ _ _ _
  ·rcases condJ (show cond (Nat.beq f trF) (some (jumpM eqSy 22 trTm (uqSl (.ix 5 0)) (uqSl (.ix 6 0)))) none = some m from e2) with ⟨_, rfl⟩ | ⟨_, e3⟩
   ·exact loc_jumpM _ _ _ _ _
   ·cases e3
 ·rcases condJ (show cond (Nat.beq f qrF) (some (jumpM eqSy 34 qaT (qaS .nil (.p (.int .i64 0))) (qaS (.v 8) (.f (.ix 5 0))))) (uqJ f x) = some m2 from e) with ⟨h1, rfl⟩ | ⟨_, e2⟩
  ·obtain rfl := Nat.eq_of_beq_eq_true h1
   exact one_jmp qr_one (@qa_jmp p q hf lo m hp9 hq9) ht hb hx
  ·rcases condJ (show cond (Nat.beq f trF) (some (jumpM eqSy 22 trTm (uqSl (.ix 5 0)) (uqSl (.ix 6 0)))) none = some m2 from e2) with ⟨h1, rfl⟩ | ⟨_, e3⟩
   ·obtain rfl := Nat.eq_of_beq_eq_true h1
    exact one_jmp tr_one (@uq_jmp (qaEnv p q hf lo 0 m) m hm (show max p.length q.length = (pa p q).length from hlen.symm) rfl (show (pa p q).length ≤ 9000 by omega)) ht hb hx
   ·cases e3
end
theorem addG_any (w : World) {p q : List Rat} (hf : QaFit p q) {m : Nat} (hm : TrimAt (pa p q) m) (hp9 : p.length ≤ 1000) (hq9 : q.length ≤ 1000) {u v : Value} (hu : LsIn 1 w u p) (hv : LsIn 1 w v q) (hG : Try.prog.globals.size ≤ w.heap.size) (hT : natSig.base w) :
  Calls Try.prog qaF ⟨[u, v]⟩ w fun e w' => ∃ x, e = .returned x ∧ NewOl 1 w w' x ((pa p q).take m) ∧ Below w.heap.size w w' := by
 have hlen := pa_len p q
 have hh : HoldsL (symSig (qaEnv p q hf w.heap.size 0 m)) w [.ls 1 0, .ls 1 3] [u, v] := ⟨u, _, rfl, LsIn.ls hu rfl, by obtain ⟨a, m, rfl, _⟩ := hu; rfl, v, _, rfl, LsIn.ls hv rfl, by obtain ⟨a, m, rfl, _⟩ := hv; rfl, rfl⟩
 obtain ⟨t, ht⟩ : ∃ b : Bool, b = true ↔ 0 < m := ⟨decide (0 < m), by rw [decide_eq_true_iff]⟩
 have hA : AllH (qaEnv p q hf w.heap.size 0 m) (uqA0 t (Big.ng ((qaEnv p q hf w.heap.size 0 m).q 104))) := uq_A0 (E := qaEnv p q hf w.heap.size 0 m) (m := m) hm rfl ht
 have hB : AllX (qaEnv p q hf w.heap.size 0 m) (qaB0 t) := by
  intro x hx
  simp only [qaB0, List.mem_cons] at hx
  rcases hx with rfl | rfl | rfl | hx
  ·rfl
  ·rfl
  ·show biF 3 (((p.length : Nat) : Int) + 0) (((q.length : Nat) : Int) + 0) = ((max p.length q.length : Nat) : Int) + 0 ∧ max p.length q.length ≤ 10000
   refine ⟨?_, by omega⟩
   unfold biF
   simp only
   split <;> omega
  ·exact uq_B0 (E := qaEnv p q hf w.heap.size 0 m) hm rfl (show max p.length q.length = (pa p q).length from hlen.symm) rfl (show (pa p q).length ≤ 9000 by omega) ht x hx
 refine (tells_calls (lsFits hA hB) (lsSumsW_ok hA) (qa_run t _) rfl glob_few hh hG hT (Nat.le_refl _) (qa_all hf w.heap.size hm hp9 hq9)).mono ?_
 rintro e w' ⟨v', rfl, h1, hb⟩
 exact ⟨v', rfl, newOl_of (ρ := qaEnv p q hf w.heap.size 0 m) rfl h1 (by
  show (pa p q).take (((m : Nat) : Int) + 0).toNat = _
  rfl) (fun p hp => by cases hp), hb⟩
noncomputable def qsF : Nat := 51
noncomputable def qsT : List Nat := [7, 0, 1, 2, 16, 17]
noncomputable def qsS (l : Le) (i : Sl Sy) : List (Sl Sy) := [.ow (.ol 1 l (some (5, 0))), .p (.func (.func 83) #[] #[]), .f (.ls 1 0), .f (.ls 1 3), .f (.ix 5 0), i]
noncomputable def qsB1 (a b : Bool) : List Ix := [.ln 0 1, .ln 3 2, .ln 1 4, .bd 4, .lt 4 0 5 0 true, .lt 4 0 1 0 a, .lt 4 0 2 0 b] ++ (cond a [.el 0 4 0 (.v 102)] [] ++ cond b [.el 3 4 0 (.v 103)] [])
noncomputable def qsA1 (a b : Bool) : List As := cond a (cond b [] [⟨1, .v 103, z0, true⟩]) [⟨1, .v 102, z0, true⟩]
set_option maxHeartbeats 4000000 in
theorem qs_round (a b : Bool) (h : (a || b) = true) : roundT Try.prog (lsCfg false (qsA1 a b) (qsB1 a b) noJ) (lsClW false (qsA1 a b) (qsB1 a b) 20) 34 20 eqSy qsT (qsS (.v 1) (.f (.ix 4 0))) (qsS (.snoc (.v 1) (.sub (.v 102) (.v 103))) (.f (.ix 4 1))) (loopOf qrF 0) = true := by cases a <;> cases b <;> first | (cases h; done) | kernel_rfl
noncomputable def qsJ : Jmps := fun f x => cond (Nat.beq f qrF) (some (jumpM eqSy 34 qsT (qsS .nil (.p (.int .i64 0))) (qsS (.v 8) (.f (.ix 5 0))))) (uqJ f x)
noncomputable def qsB0 (p : Bool) : List Ix := .ln 0 1 :: .ln 3 2 :: .bi 3 1 0 2 0 5 0 :: uqB0 p
set_option maxHeartbeats 4000000 in
theorem qs_run (p s : Bool) : tells [.ls 1 0, .ls 1 3] [.one, .one] (call Try.prog (lsCfg false (uqA0 p s) (qsB0 p) qsJ) (lsSumsW (uqA0 p s)) 20 qsF) = some (.one (.one (.ow (.ol 1 (.take (.v 8) 6 0) none)))) := by cases p <;> cases s <;> kernel_rfl
def psb (p q : List Rat) : List Rat := (List.range (max p.length q.length)).map fun i => p.getD i 0 - q.getD i 0
theorem psb_len (p q : List Rat) : (psb p q).length = max p.length q.length := by simp [psb]
theorem psb_get {p q : List Rat} {i : Nat} (h : i < max p.length q.length) : (psb p q)[i]? = some (p.getD i 0 - q.getD i 0) := by
 unfold psb
 rw [List.getElem?_map, List.getElem?_range h]; rfl
structure QsFit (p q : List Rat) : Prop where
 fp : ∀ x ∈ p, Sm 4096 x
 fq : ∀ x ∈ q, Sm 4096 x
 fs : ∀ x ∈ psb p q, Sm 4096 x
def qsQ (p q : List Rat) (i m : Nat) : Nat → Rat
 | 102 => p.getD i 0
 | 103 => q.getD i 0
 | 104 => (psb p q).getD (m - 1) 0
 | _ => 0
theorem qsQ_fit {p q : List Rat} (h : QsFit p q) (i m n : Nat) : Sm 4096 (qsQ p q i m n) := by
 unfold qsQ
 split
 ·exact getD_sm h.fp _
 ·exact getD_sm h.fq _
 ·exact getD_sm h.fs _
 ·exact fit00.sm.up (by decide)
theorem qsQ_low (p q : List Rat) (i m n : Nat) (hn : n < 100) : Fit (qsQ p q i m n) := by
 unfold qsQ
 split <;> first | omega | exact fit00
def qsNat (a b i m : Nat) : Nat → Nat
 | 1 => a
 | 2 => b
 | 4 => i
 | 5 => max a b
 | 6 => m
 | _ => 0
def qsLst (p q : List Rat) (i : Nat) : Nat → List Rat
 | 0 => p
 | 3 => q
 | 1 => (psb p q).take i
 | 8 => psb p q
 | _ => []
def qsEnv (p q : List Rat) (h : QsFit p q) (lo i m : Nat) : Env := ⟨qsQ p q i m, fun _ => (false, ⟨#[]⟩, ⟨#[]⟩), fun n hn => qsQ_low p q i m n hn, fun n => qsQ_fit h i m n, fun _ => bad_zero, lo, qsLst p q i, qsNat p.length q.length i m, rfl⟩
section
variable {p q : List Rat} (hf : QsFit p q) (lo : Nat) {m : Nat}
theorem qs_jmp (hp9 : p.length ≤ 1000) (hq9 : q.length ≤ 1000) : JmpOK (symSig (qsEnv p q hf lo 0 m)) Try.prog 34 (loopOf qrF 0) (jumpM eqSy 34 qsT (qsS .nil (.p (.int .i64 0))) (qsS (.v 8) (.f (.ix 5 0)))) := by
 have hlen := psb_len p q
 refine @jmp_ok Sy (symSig (qsEnv p q hf lo 0 m)) Try.prog eqSy eqSy_ok 34 (loopOf qrF 0) qsT (qsS .nil (.p (.int .i64 0))) (qsS (.v 1) (.f (.ix 4 0))) (qsS (.snoc (.v 1) (.sub (.v 102) (.v 103))) (.f (.ix 4 1))) (qsS (.v 8) (.f (.ix 5 0))) (max p.length q.length) (fun i => symSig (qsEnv p q hf lo i m)) (fun k => sig_same _ _ (show lo = lo from rfl)) rfl rfl rfl rfl ?_ ?_ ?_ ?_
 ·intro w vs h
  obtain ⟨v1, l1, rfl, a1, v2, l2, rfl, a2, v3, l3, rfl, a3, v4, l4, rfl, a4, v5, l5, rfl, a5, v6, l6, rfl, a6, rfl⟩ := h
  refine ⟨v1, _, rfl, ⟨?_, a1.2⟩, v2, _, rfl, a2, v3, _, rfl, a3, v4, _, rfl, a4, v5, _, rfl, a5, v6, _, rfl, ⟨?_, ?_⟩, rfl⟩
  ·exact olIs.env (l' := .v 1) (z' := some (5, 0)) (show olIs _ 1 .nil (some (5, 0)) w v1 from a1.1) rfl rfl
  ·rw [show v6 = .int .i64 0 from a6]; rfl
  ·rw [show v6 = .int .i64 0 from a6]; rfl
 ·intro i hi w vs h
  obtain ⟨v1, l1, rfl, a1, v2, l2, rfl, a2, v3, l3, rfl, a3, v4, l4, rfl, a4, v5, l5, rfl, a5, v6, l6, rfl, a6, rfl⟩ := h
  refine ⟨v1, _, rfl, ⟨?_, a1.2⟩, v2, _, rfl, a2, v3, _, rfl, a3, v4, _, rfl, a4, v5, _, rfl, a5, v6, _, rfl, ⟨?_, a6.2⟩, rfl⟩
  ·refine olIs.env (ρ := qsEnv p q hf lo i m) (l' := .v 1) (z' := some (5, 0)) (show olIs _ 1 (.snoc (.v 1) (.sub (.v 102) (.v 103))) (some (5, 0)) w v1 from a1.1) ?_ rfl
   show (psb p q).take (i + 1) = (psb p q).take i ++ [p.getD i 0 - q.getD i 0]
   rw [List.take_add_one, psb_get hi]; rfl
  ·have h6 : v6 = .int .i64 (((i : Nat) : Int) + 1) := a6.1
   show v6 = .int .i64 (((i + 1 : Nat) : Int) + 0)
   rw [h6]; congr 1
 ·intro w vs h
  obtain ⟨v1, l1, rfl, a1, v2, l2, rfl, a2, v3, l3, rfl, a3, v4, l4, rfl, a4, v5, l5, rfl, a5, v6, l6, rfl, a6, rfl⟩ := h
  refine ⟨v1, _, rfl, ⟨?_, a1.2⟩, v2, _, rfl, a2, v3, _, rfl, a3, v4, _, rfl, a4, v5, _, rfl, a5, v6, _, rfl, ⟨a6.1, a6.2⟩, rfl⟩
  refine olIs.env (ρ := qsEnv p q hf lo (max p.length q.length) m) (l' := .v 8) (z' := some (5, 0)) (show olIs _ 1 (.v 1) (some (5, 0)) w v1 from a1.1) ?_ rfl
  show psb p q = (psb p q).take (max p.length q.length)
  rw [List.take_of_length_le (by omega)]
 ·intro i hi ro d B0 D0 a w hAt
  obtain ⟨s, hs⟩ : ∃ b : Bool, b = true ↔ i < p.length := ⟨decide (i < p.length), by rw [decide_eq_true_iff]⟩
  obtain ⟨t, ht⟩ : ∃ b : Bool, b = true ↔ i < q.length := ⟨decide (i < q.length), by rw [decide_eq_true_iff]⟩
  have hB : AllX (qsEnv p q hf lo i m) (qsB1 s t) := by
   intro x hx
   unfold qsB1 at hx
   rcases List.mem_append.1 hx with hx | hx
   ·simp only [List.mem_cons, List.not_mem_nil, or_false] at hx
    rcases hx with rfl | rfl | rfl | rfl | rfl | rfl | rfl
    ·rfl
    ·rfl
    ·show ((psb p q).take i).length = i
     rw [List.length_take]; omega
    ·show i ≤ 10000
     omega
    ·show true = true ↔ ((i : Nat) : Int) + 0 < ((max p.length q.length : Nat) : Int) + 0
     exact ⟨fun _ => by omega, fun _ => rfl⟩
    ·show s = true ↔ ((i : Nat) : Int) + 0 < ((p.length : Nat) : Int) + 0
     rw [hs]; omega
    ·show t = true ↔ ((i : Nat) : Int) + 0 < ((q.length : Nat) : Int) + 0
     rw [ht]; omega
   ·have el : ∀ {l : List Rat} {c : Nat} {e : Qe}, (qsEnv p q hf lo i m).lst c = l → e.ev (qsEnv p q hf lo i m).q = l.getD i 0 → i < l.length → (Ix.el c 4 0 e).holds (qsEnv p q hf lo i m) := fun {l c e} h1 h2 h3 => by
     refine ⟨i, ?_, ?_⟩
     ·show ((i : Nat) : Int) = ((i : Nat) : Int) + 0
      omega
     ·rw [h1, h2, List.getD_eq_getElem?_getD, List.getElem?_eq_getElem h3]; rfl
    rcases List.mem_append.1 hx with hx | hx
    ·cases s with
     | false => simp at hx
     | true =>
      simp only [cond_true, List.mem_cons, List.not_mem_nil, or_false] at hx
      subst hx
      exact el (l := p) rfl rfl (hs.1 rfl)
    ·cases t with
     | false => simp at hx
     | true =>
      simp only [cond_true, List.mem_cons, List.not_mem_nil, or_false] at hx
      subst hx
      exact el (l := q) rfl rfl (ht.1 rfl)
  have hst : (s || t) = true := by
   rcases Nat.lt_or_ge i p.length with h | h
   ·rw [hs.2 h]; rfl
   ·rw [ht.2 (by omega), Bool.or_true]
  have none : ∀ {l : List Rat} {b : Bool}, (b = true ↔ i < l.length) → b = false → l.getD i 0 = 0 := fun {l b} h1 h2 => by
   have hle : l.length ≤ i := by
    rcases Nat.lt_or_ge i l.length with q | q
    ·have := h1.2 q; rw [h2] at this; cases this
    ·exact q
   rw [List.getD_eq_getElem?_getD, List.getElem?_eq_none hle]; rfl
  have hA : AllH (qsEnv p q hf lo i m) (qsA1 s t) := fun x hx => by
   cases s with
   | false =>
    simp only [qsA1, cond_false, List.mem_cons, List.not_mem_nil, or_false] at hx
    subst hx
    show true = true ↔ p.getD i 0 = 0
    exact ⟨fun _ => none hs rfl, fun _ => rfl⟩
   | true =>
    cases t with
    | false =>
     simp only [qsA1, cond_true, cond_false, List.mem_cons, List.not_mem_nil, or_false] at hx
     subst hx
     show true = true ↔ q.getD i 0 = 0
     exact ⟨fun _ => none ht rfl, fun _ => rfl⟩
    | true => simp [qsA1] at hx
  exact round_run (C := lsCfg false (qsA1 s t) (qsB1 s t) noJ) (call := lsClW false (qsA1 s t) (qsB1 s t) 20) (fuel := 20) (lsFits hA hB) (lsClW_ok hA hB) rfl (fun y _ m e => by cases e) eqSy_ok (qs_round s t hst) few5 hAt
theorem qs_all {A : List As} {B : List Ix} (hm : TrimAt (psb p q) m) (hp9 : p.length ≤ 1000) (hq9 : q.length ≤ 1000) : JmpAll (symSig (qsEnv p q hf lo 0 m)) Try.prog (lsCfg false A B qsJ) := by
 have hlen := psb_len p q
 refine ⟨fun f x m e ts => ?_, fun f fn c x m2 ht hb hx e => ?_⟩
 ·rcases condJ (show cond (Nat.beq f qrF) (some (jumpM eqSy 34 qsT (qsS .nil (.p (.int .i64 0))) (qsS (.v 8) (.f (.ix 5 0))))) (uqJ f x) = some m from e) with ⟨_, rfl⟩ | ⟨_, e2⟩
  ·exact loc_jumpM _ _ _ _ _
  ·rcases condJ (show cond (Nat.beq f trF) (some (jumpM eqSy 22 trTm (uqSl (.ix 5 0)) (uqSl (.ix 6 0)))) none = some m from e2) with ⟨_, rfl⟩ | ⟨_, e3⟩
   ·exact loc_jumpM _ _ _ _ _
   ·cases e3
 ·rcases condJ (show cond (Nat.beq f qrF) (some (jumpM eqSy 34 qsT (qsS .nil (.p (.int .i64 0))) (qsS (.v 8) (.f (.ix 5 0))))) (uqJ f x) = some m2 from e) with ⟨h1, rfl⟩ | ⟨_, e2⟩
  ·obtain rfl := Nat.eq_of_beq_eq_true h1
   exact one_jmp qr_one (@qs_jmp p q hf lo m hp9 hq9) ht hb hx
  ·rcases condJ (show cond (Nat.beq f trF) (some (jumpM eqSy 22 trTm (uqSl (.ix 5 0)) (uqSl (.ix 6 0)))) none = some m2 from e2) with ⟨h1, rfl⟩ | ⟨_, e3⟩
   ·obtain rfl := Nat.eq_of_beq_eq_true h1
    exact one_jmp tr_one (@uq_jmp (qsEnv p q hf lo 0 m) m hm (show max p.length q.length = (psb p q).length from hlen.symm) rfl (show (psb p q).length ≤ 9000 by omega)) ht hb hx
   ·cases e3
end
theorem subG_any (w : World) {p q : List Rat} (hf : QsFit p q) {m : Nat} (hm : TrimAt (psb p q) m) (hp9 : p.length ≤ 1000) (hq9 : q.length ≤ 1000) {u v : Value} (hu : LsIn 1 w u p) (hv : LsIn 1 w v q) (hG : Try.prog.globals.size ≤ w.heap.size) (hT : natSig.base w) :
  Calls Try.prog qsF ⟨[u, v]⟩ w fun e w' => ∃ x, e = .returned x ∧ NewOl 1 w w' x ((psb p q).take m) ∧ Below w.heap.size w w' := by
 have hlen := psb_len p q
 have hh : HoldsL (symSig (qsEnv p q hf w.heap.size 0 m)) w [.ls 1 0, .ls 1 3] [u, v] := ⟨u, _, rfl, LsIn.ls hu rfl, by obtain ⟨a, m, rfl, _⟩ := hu; rfl, v, _, rfl, LsIn.ls hv rfl, by obtain ⟨a, m, rfl, _⟩ := hv; rfl, rfl⟩
 obtain ⟨t, ht⟩ : ∃ b : Bool, b = true ↔ 0 < m := ⟨decide (0 < m), by rw [decide_eq_true_iff]⟩
 have hA : AllH (qsEnv p q hf w.heap.size 0 m) (uqA0 t (Big.ng ((qsEnv p q hf w.heap.size 0 m).q 104))) := uq_A0 (E := qsEnv p q hf w.heap.size 0 m) (m := m) hm rfl ht
 have hB : AllX (qsEnv p q hf w.heap.size 0 m) (qsB0 t) := by
  intro x hx
  simp only [qsB0, List.mem_cons] at hx
  rcases hx with rfl | rfl | rfl | hx
  ·rfl
  ·rfl
  ·show biF 3 (((p.length : Nat) : Int) + 0) (((q.length : Nat) : Int) + 0) = ((max p.length q.length : Nat) : Int) + 0 ∧ max p.length q.length ≤ 10000
   refine ⟨?_, by omega⟩
   unfold biF
   simp only
   split <;> omega
  ·exact uq_B0 (E := qsEnv p q hf w.heap.size 0 m) hm rfl (show max p.length q.length = (psb p q).length from hlen.symm) rfl (show (psb p q).length ≤ 9000 by omega) ht x hx
 refine (tells_calls (lsFits hA hB) (lsSumsW_ok hA) (qs_run t _) rfl glob_few hh hG hT (Nat.le_refl _) (qs_all hf w.heap.size hm hp9 hq9)).mono ?_
 rintro e w' ⟨v', rfl, h1, hb⟩
 exact ⟨v', rfl, newOl_of (ρ := qsEnv p q hf w.heap.size 0 m) rfl h1 (by
  show (psb p q).take (((m : Nat) : Int) + 0).toNat = _
  rfl) (fun p hp => by cases hp), hb⟩
noncomputable def swF : Nat := 53
noncomputable def srF : Nat := 79
set_option maxHeartbeats 4000000 in
theorem isSign_any (w : World) (z : Int) : Calls Try.prog 50 #[.int .i64 z] w fun e w' => e = .returned (.bool (decide (z = 1) || decide (z = -1))) ∧ Below w.heap.size w w' := by
 have HB := Lib.hid (Below.refl w.heap.size w)
 by_cases h1 : z = 1
 ·subst h1
  go_enter Try.func50, Try.ntmps50
  go_wp2_with fail
  go_ret
  exact ⟨rfl, HB.out⟩
 ·have e1 : (z == 1) = false := beq_eq_false_iff_ne.2 h1
  go_enter Try.func50, Try.ntmps50
  go_wp2_with fail
  go_ret
  exact ⟨by rw [decide_eq_false h1, Bool.false_or]; rfl, HB.out⟩
noncomputable def swRun (z : Int) : Option (D3 Nat) := tells [] [.p (.int .i64 z)] (call Try.prog natCfg natSums 100 swF)
theorem sw_run : swRun 1 = some (.one (.agg [.p (.bool false), .f 1, .f 1])) ∧ swRun (-1) = some (.one (.agg [.p (.bool true), .f 1, .f 1])) ∧ swRun 0 = some (.one (.agg [.p (.bool false), .f 0, .f 1])) := ⟨by kernel_rfl, by kernel_rfl, by kernel_rfl⟩
theorem swhole_any (w : World) {z : Int} (h : z = 1 ∨ z = -1 ∨ z = 0) (hG : Try.prog.globals.size ≤ w.heap.size) (hT : natSig.base w) : Calls Try.prog swF ⟨[.int .i64 z]⟩ w (Num1 w (mkRat z 1)) := by
 have key : ∀ (b : Bool) (n : Nat), swRun z = some (.one (.agg [.p (.bool b), .f n, .f 1])) → Big.ng (mkRat z 1) = b → Big.nu (mkRat z 1) = n → Big.de (mkRat z 1) = 1 → Calls Try.prog swF ⟨[.int .i64 z]⟩ w (Num1 w (mkRat z 1)) := by
  intro b n hr h1 h2 h3
  refine (tells_calls natFits natSums_ok hr rfl glob_few (us := []) rfl hG hT).mono ?_
  rintro e w' ⟨v', rfl, ⟨vs, rfl, a, l1, rfl, g1, c, l2, rfl, g2, d, l3, rfl, g3, rfl⟩, hb⟩
  have g1' : a = .bool b := g1
  subst g1'
  refine ⟨_, rfl, ⟨c, d, ?_, ?_, ?_⟩, hb⟩
  ·rw [h1]
  ·rw [h2]; exact g2
  ·rw [h3]; exact g3
 rcases h with rfl | rfl | rfl
 ·exact key false 1 sw_run.1 (by decide +kernel) (by decide +kernel) (by decide +kernel)
 ·exact key true 1 sw_run.2.1 (by decide +kernel) (by decide +kernel) (by decide +kernel)
 ·exact key false 0 sw_run.2.2 (by decide +kernel) (by decide +kernel) (by decide +kernel)
noncomputable def cmS (z : Int) : Nat × (List Value → Option (M Sy Value)) := (71, fun args => match args with
 | [a, b] => some (bind (fact a) fun f => bind (fact b) fun g => cond (eqSy f (.nu (.v 9)) && eqSy g (.de (.v 9))) (ret (.int .i64 z)) fail)
 | _ => none)
theorem cmS_ok {ρ : Env} {z : Int} (hz : z = Big.cmpI (Big.nu (ρ.q 9)) (Big.de (ρ.q 9))) : SumF (symSig ρ) Try.prog (cmS z).1 (cmS z).2 := by
 intro args m e
 rcases args with _ | ⟨a, _ | ⟨b, _ | ⟨c, l⟩⟩⟩ <;> first | (cases (show none = some m from e); done) | skip
 cases e
 refine ⟨loc_bind (loc_fact _) fun f => loc_bind (loc_fact _) fun g => loc_cond (loc_ret _) loc_fail, fun h nx v h' nx' R W e r w args' ha hM hN => ?_⟩
 cases ha with
 | cons h1 ha => cases ha with
  | cons h2 ha =>
   cases ha
   obtain ⟨f, g1, nx1, R1, W1, R2, W2, e1, e2, rfl, rfl⟩ := bind_ok e
   obtain ⟨rfl, rfl, rfl, hf⟩ := fact_ok e1 h1 hM
   obtain ⟨g, g3, nx3, R3, W3, R4, W4, e3, e4, rfl, rfl⟩ := bind_ok e2
   obtain ⟨rfl, rfl, rfl, hg⟩ := fact_ok e3 h2 hM
   obtain ⟨hk, e5⟩ := cond_ok e4
   simp only [Bool.and_eq_true] at hk
   rw [eqSy_ok _ _ hk.1] at hf
   rw [eqSy_ok _ _ hk.2] at hg
   simp only [List.nil_append]
   exact goes_pl e5 rfl hM ((drew_below (cmp_num w _ _ _ _ hf hg)).mono fun _ _ ⟨q1, q2⟩ => ⟨by rw [q1, hz]; rfl, q2⟩)
noncomputable def srRun (z : Int) : Option (D3 Sy) := tells [.ng (.v 9), .nu (.v 9), .de (.v 9)] [.agg 3] (call Try.prog (lsCfg false [] [] noJ) (sumsOf (mkTab [cmS z])) 20 srF)
theorem sr_run : srRun (-1) = some (.one (.one (.p (.bool true)))) ∧ srRun 0 = some (.one (.one (.p (.bool false)))) ∧ srRun 1 = some (.one (.one (.p (.bool false)))) := ⟨by kernel_rfl, by kernel_rfl, by kernel_rfl⟩
theorem isRefl_any (w : World) {v : Value} {x : Rat} (hx : Fit x) (hv : NumIn w v x) (hG : Try.prog.globals.size ≤ w.heap.size) (hT : natSig.base w) :
  Calls Try.prog srF ⟨[v]⟩ w fun e w' => e = .returned (.bool (decide (Big.nu x < Big.de x))) ∧ Below w.heap.size w w' := by
 obtain ⟨us, rfl, hus⟩ := num_holds (e := .v 9) (ρ := atEnv [] x (fun _ h => by simp at h) hx w.heap.size) hv
 have hA : AllH (atEnv [] x (fun _ h => by simp at h) hx w.heap.size) [] := fun x hx => by simp at hx
 have hB : AllX (atEnv [] x (fun _ h => by simp at h) hx w.heap.size) [] := fun x hx => by simp at hx
 have key : ∀ (z : Int) (b : Bool), z = Big.cmpI (Big.nu x) (Big.de x) → b = decide (Big.nu x < Big.de x) → srRun z = some (.one (.one (.p (.bool b)))) → Calls Try.prog srF ⟨[.agg ⟨us⟩]⟩ w fun e w' => e = .returned (.bool (decide (Big.nu x < Big.de x))) ∧ Below w.heap.size w w' := by
  intro z b hz hb hr
  have hS : SumOK (symSig (atEnv [] x (fun _ h => by simp at h) hx w.heap.size)) Try.prog (sumsOf (mkTab [cmS z])) := sumsOf_ok fun y hy => by
   simp only [List.mem_cons, List.not_mem_nil, or_false] at hy
   subst hy
   exact cmS_ok hz
  obtain ⟨a, l1, rfl, g1, o1, c, l2, rfl, g2, o2, d, l3, rfl, g3, o3, rfl⟩ := hus
  refine (tells_calls (lsFits hA hB) hS hr rfl glob_few (us := [a, c, d]) ⟨_, _, rfl, g1, o1, _, _, rfl, g2, o2, _, _, rfl, g3, o3, rfl⟩ hG hT (Nat.le_refl _) (.none rfl)).mono ?_
  rintro e w' ⟨v', rfl, h1, hb2⟩
  have h1' : v' = .bool b := h1
  exact ⟨by rw [h1', hb], hb2⟩
 unfold Big.cmpI at key
 rcases Nat.lt_trichotomy (Big.nu x) (Big.de x) with h | h | h
 ·exact key (-1) true (by rw [if_pos h]) (by rw [decide_eq_true h]) sr_run.1
 ·exact key 0 false (by rw [if_neg (by omega)]; first | rw [if_neg (by omega)] | rw [if_pos h]) (by rw [decide_eq_false (by omega)]) sr_run.2.1
 ·exact key 1 false (by rw [if_neg (by omega)]; first | rw [if_pos h] | rw [if_neg (by omega)]) (by rw [decide_eq_false (by omega)]) sr_run.2.2
theorem refl_iff (x : Rat) : Big.nu x < Big.de x ↔ (x < 1 ∧ -1 < x) := by
 have hd : 0 < x.den := x.den_pos
 rw [Rat.lt_iff, Rat.lt_iff]
 unfold Big.nu Big.de
 have e1 : (1 : Rat).num = 1 := rfl
 have e2 : (1 : Rat).den = 1 := rfl
 have e3 : (-1 : Rat).num = -1 := rfl
 have e4 : (-1 : Rat).den = 1 := rfl
 rw [e1, e2, e3, e4]
 omega
noncomputable def isSignS (t : Bool) : Nat × (List Value → Option (M Sy Value)) := (50, fun args => match args with
 | [a] => some (bind (fact a) fun f => match f with
  | .it e => cond (e.beq (.v 8)) (ret (.bool t)) fail
  | _ => fail)
 | _ => none)
noncomputable def farS : Nat × (List Value → Option (M Sy Value)) := (53, fun args => match args with
 | [a] => some (bind (fact a) fun f => match f with
  | .it e => cond (e.beq (.v 8)) (newNum (.v 8)) fail
  | _ => fail)
 | _ => none)
noncomputable def onC : Qe := .c false 1 1
noncomputable def omC : Qe := .c true 1 1
noncomputable def reflB (A : List As) (x : Qe) : Option Bool := match ask A 9 x onC with
 | some s => cond s (ask A 9 omC x) (some false)
 | none => none
noncomputable def reflS (A : List As) : Nat × (List Value → Option (M Sy Value)) := (79, fun args => num1 args fun x => match fitB A x with
 | some s => cond s (match reflB A x with
  | some t => ret (.bool t)
  | none => fail) fail
 | none => fail)
noncomputable def rdF : Nat := 47
noncomputable def rdSums (t : Bool) (A : List As) : Sums Sy := sumsOf (mkTab (isSignS t :: reflS A :: cond t (farS :: symList A) (symList A)))
noncomputable def rfA : Nat → List As
 | 0 => []
 | k + 1 => ⟨9, .v (10 + k), onC, true⟩ :: ⟨9, omC, .v (10 + k), true⟩ :: rfA k
noncomputable def schB (n : Nat) : List Ix := .lc 0 n :: elRow 0 n
noncomputable def rdE (k : Nat) : Qe := .v (10 + k)
noncomputable def rdRun (n : Nat) : Option (D3 Sy) := tells [.ls 0 0, .it (.v 8)] [.agg 2] (call Try.prog (lsCfg false (rfA n) (schB n) noJ) (rdSums true (rfA n)) 60 rdF)
noncomputable def isRd (n : Nat) (d : Option (D3 Sy)) : Bool := match d with
 | some (.tuple [.agg [.ow a, .f b, .f c, .f d], .one (.p (.bool t))]) => t && (eqSy a (.ol 1 (snE rdE n) (some (0, (n : Int)))) && (eqSy b (.ng (.v 8)) && (eqSy c (.nu (.v 8)) && eqSy d (.de (.v 8)))))
 | _ => false
theorem isRd_ok {n : Nat} {d : Option (D3 Sy)} (h : isRd n d = true) : d = some (.tuple [.agg [.ow (.ol 1 (snE rdE n) (some (0, (n : Int)))), .f (.ng (.v 8)), .f (.nu (.v 8)), .f (.de (.v 8))], .one (.p (.bool true))]) := by
 unfold isRd at h
 split at h
 ·rename_i t
  simp only [Bool.and_eq_true] at h
  obtain ⟨rfl, h1, h2, h3, h4⟩ := h
  rw [eqSy_ok _ _ h1, eqSy_ok _ _ h2, eqSy_ok _ _ h3, eqSy_ok _ _ h4]
 ·cases h
noncomputable def noCh : D3 Sy := .tuple [.agg [.p (.slice none 0 0), .p (.bool false), .p (.slice none 0 0), .p (.slice none 0 0)], .one (.p (.bool false))]
noncomputable def isNil (v : Value) : Bool := match v with
 | .slice a n m => match a with
  | none => Nat.beq n 0 && Nat.beq m 0
  | some _ => false
 | _ => false
theorem isNil_ok {v : Value} (h : isNil v = true) : v = .slice none 0 0 := by
 cases v <;> first | (cases h; done) | skip
 rename_i a n m
 cases a with
 | some _ => cases h
 | none =>
  have h' := Bool.and_eq_true_iff.1 (show (Nat.beq n 0 && Nat.beq m 0) = true from h)
  rw [Nat.eq_of_beq_eq_true h'.1, Nat.eq_of_beq_eq_true h'.2]
noncomputable def isNo (d : Option (D3 Sy)) : Bool := match d with
 | some (.tuple [.agg [.p a, .p (.bool b), .p c, .p d], .one (.p (.bool t))]) => !t && (!b && (isNil a && (isNil c && isNil d)))
 | _ => false
theorem isNo_ok {d : Option (D3 Sy)} (h : isNo d = true) : d = some noCh := by
 unfold isNo at h
 split at h
 ·rename_i b _ _ t
  simp only [Bool.and_eq_true, Bool.not_eq_true'] at h
  obtain ⟨rfl, rfl, h1, h2, h3⟩ := h
  rw [isNil_ok h1, isNil_ok h2, isNil_ok h3]; rfl
 ·cases h
noncomputable def ltR : Nat → List Ix
 | 0 => []
 | k + 1 => .lt 0 k 1 0 true :: ltR k
noncomputable def rawB (j : Nat) : List Ix := .lc 0 j :: .bd 1 :: .lt 0 31 1 0 false :: (ltR (j + 1) ++ elRow 0 j)
noncomputable def rbRun (j : Nat) : Option (D3 Sy) := tells [.lr 0 1, .it (.v 8)] [.agg 2] (call Try.prog (lsCfg false (rfA j) (rawB j) noJ) (rdSums true (rfA j)) 60 rdF)
noncomputable def rgA (j : Nat) (s : Bool) : List As := cond s [⟨9, .v (10 + j), onC, true⟩, ⟨9, omC, .v (10 + j), false⟩] [⟨9, .v (10 + j), onC, false⟩] ++ rfA j
noncomputable def rgB (j : Nat) : List Ix := .bd 1 :: .lt 0 31 1 0 false :: (ltR (j + 1) ++ elRow 0 (j + 1))
noncomputable def rgRun (j : Nat) (s : Bool) : Option (D3 Sy) := tells [.lr 0 1, .it (.v 8)] [.agg 2] (call Try.prog (lsCfg false (rgA j s) (rgB j) noJ) (rdSums true (rgA j s)) 60 rdF)
set_option maxHeartbeats 4000000 in
theorem rx_run : isNo (tells [.wl 1 0, .it (.v 8)] [.agg 2] (call Try.prog (lsCfg false [] [.lt 0 31 1 0 true] noJ) (rdSums true []) 60 rdF)) = true ∧ isNo (tells [.wl 1 0, .it (.v 8)] [.agg 2] (call Try.prog (lsCfg false [] [.lt 0 31 1 0 false] noJ) (rdSums false []) 60 rdF)) = true := ⟨by kernel_rfl, by kernel_rfl⟩
set_option maxHeartbeats 4000000 in
theorem rx_run2 : isNo (tells [.wl 1 0, .it (.v 8)] [.agg 2] (call Try.prog (lsCfg false [] [.lt 0 31 1 0 true] noJ) (rdSums false []) 60 rdF)) = true := by kernel_rfl
set_option maxHeartbeats 4000000 in
theorem rd_runs : (List.range 32).all (fun n => isRd n (rdRun n)) = true := by kernel_rfl
set_option maxHeartbeats 4000000 in
theorem rb_runs : (List.range 31).all (fun j => isNo (rbRun j)) = true := by kernel_rfl
set_option maxHeartbeats 4000000 in
theorem rg_runs : (List.range 31).all (fun j => isNo (rgRun j true) && isNo (rgRun j false)) = true := by kernel_rfl
theorem askL_ok {ρ : Env} {A : List As} (hA : AllH ρ A) {a b : Qe} {t : Bool} (h : ask A 9 a b = some t) : t = true ↔ a.ev ρ.q < b.ev ρ.q := by
 obtain ⟨x, hx, h1, h2, h3, h4⟩ := ask_ok h
 have := hA x hx
 unfold As.holds at this
 rw [h1] at this
 subst h2 h3 h4
 exact this
theorem on_ev (ρ : Env) : onC.ev ρ.q = 1 := by show mkRat (Big.sI false 1) 1 = 1; rfl
theorem om_ev (ρ : Env) : omC.ev ρ.q = -1 := by show mkRat (Big.sI true 1) 1 = -1; rfl
theorem reflB_ok {ρ : Env} {A : List As} (hA : AllH ρ A) {x : Qe} {t : Bool} (h : reflB A x = some t) : t = decide (Big.nu (x.ev ρ.q) < Big.de (x.ev ρ.q)) := by
 rw [Bool.eq_iff_iff, decide_eq_true_iff, refl_iff]
 unfold reflB at h
 cases hs : ask A 9 x onC with
 | none => rw [hs] at h; cases h
 | some s =>
  rw [hs] at h
  have h1 := askL_ok hA hs
  rw [on_ev] at h1
  cases s with
  | false =>
   have h' : some false = some t := h
   cases h'
   exact ⟨fun q => (by cases q), fun q => absurd (h1.2 q.1) (by simp)⟩
  | true =>
   have h2 := askL_ok hA (show ask A 9 omC x = some t from h)
   rw [om_ev] at h2
   exact ⟨fun q => ⟨h1.1 rfl, h2.1 q⟩, fun q => h2.2 q.2⟩
theorem reflS_ok {ρ : Env} {A : List As} (hA : AllH ρ A) : SumF (symSig ρ) Try.prog (reflS A).1 (reflS A).2 :=
 num1_ok (fun x => by
  cases fitB A x with
  | none => exact loc_fail
  | some s =>
   refine loc_cond ?_ loc_fail
   cases reflB A x with
   | none => exact loc_fail
   | some t => exact loc_ret _) fun x h nx v h' nx' R W e r w a ha _ _ hM hN => by
  cases hf : fitB A x with
  | none => rw [hf] at e; exact absurd e (by simp [fail])
  | some s =>
   rw [hf] at e
   obtain ⟨hk, e2⟩ := cond_ok e
   cases hs : reflB A x with
   | none => rw [hs] at e2; exact absurd e2 (by simp [fail])
   | some t =>
    rw [hs] at e2
    rw [reflB_ok hA hs] at e2
    exact goes_pl e2 rfl hM (isRefl_any w ((fitB_ok hA hf).1 hk) ha hM.fits hM.base)
theorem mk1_num (z : Int) : (mkRat z 1).num = z := by
 rw [Rat.mkRat_one, Rat.num_intCast]
theorem isSignS_ok {ρ : Env} {z : Int} (h8 : ρ.q 8 = mkRat z 1) {t : Bool} (ht : t = (decide (z = 1) || decide (z = -1))) : SumF (symSig ρ) Try.prog (isSignS t).1 (isSignS t).2 := by
 intro args m e
 rcases args with _ | ⟨a, _ | ⟨b, l⟩⟩ <;> first | (cases (show none = some m from e); done) | skip
 cases e
 refine ⟨loc_bind (loc_fact _) fun f => by split <;> first | exact loc_cond (loc_ret _) loc_fail | exact loc_fail, fun h nx v h' nx' R W e r w args' ha hM hN => ?_⟩
 cases ha with
 | cons h1 ha =>
  cases ha
  obtain ⟨f, g1, nx1, R1, W1, R2, W2, e1, e2, rfl, rfl⟩ := bind_ok e
  obtain ⟨rfl, rfl, rfl, hf⟩ := fact_ok e1 h1 hM
  split at e2
  ·obtain ⟨hk, e3⟩ := cond_ok e2
   rw [Qe.beq_ok _ _ hk] at hf
   have hf' : _ = Value.int .i64 (ρ.q 8).num := hf
   rw [h8, mk1_num] at hf'
   subst hf'
   simp only [List.nil_append]
   refine goes_pl e3 rfl hM ?_
   rw [ht]
   exact isSign_any w z
  ·cases (show (fail : M Sy Value) _ _ = _ from e2)
theorem farS_ok {ρ : Env} {z : Int} (h8 : ρ.q 8 = mkRat z 1) (hz : z = 1 ∨ z = -1) : SumF (symSig ρ) Try.prog farS.1 farS.2 := by
 intro args m e
 rcases args with _ | ⟨a, _ | ⟨b, l⟩⟩ <;> first | (cases (show none = some m from e); done) | skip
 cases e
 refine ⟨loc_bind (loc_fact _) fun f => by split <;> first | exact loc_cond (loc_newNum _) loc_fail | exact loc_fail, fun h nx v h' nx' R W e r w args' ha hM hN => ?_⟩
 cases ha with
 | cons h1 ha =>
  cases ha
  obtain ⟨f, g1, nx1, R1, W1, R2, W2, e1, e2, rfl, rfl⟩ := bind_ok e
  obtain ⟨rfl, rfl, rfl, hf⟩ := fact_ok e1 h1 hM
  split at e2
  ·obtain ⟨hk, e3⟩ := cond_ok e2
   rw [Qe.beq_ok _ _ hk] at hf
   have hf' : _ = Value.int .i64 (ρ.q 8).num := hf
   rw [h8, mk1_num] at hf'
   subst hf'
   simp only [List.nil_append]
   refine goes_num e3 hM hN ?_
   show Calls _ _ _ _ (Num1 w (ρ.q 8))
   rw [h8]
   exact swhole_any w (hz.elim .inl fun q => .inr (.inl q)) hM.fits hM.base
  ·cases (show (fail : M Sy Value) _ _ = _ from e2)
theorem rdSums_ok {ρ : Env} {A : List As} (hA : AllH ρ A) {z : Int} (h8 : ρ.q 8 = mkRat z 1) {t : Bool} (ht : t = (decide (z = 1) || decide (z = -1))) : SumOK (symSig ρ) Try.prog (rdSums t A) := sumsOf_ok fun x hx => by
 rcases List.mem_cons.1 hx with rfl | hx
 ·exact isSignS_ok h8 ht
 rcases List.mem_cons.1 hx with rfl | hx
 ·exact reflS_ok hA
 cases t with
 | true =>
  rcases List.mem_cons.1 (show x ∈ farS :: symList A from hx) with rfl | hx
  ·refine farS_ok h8 ?_
   have := ht.symm
   simpa using this
  ·exact symList_ok hA x hx
 | false => exact symList_ok hA x hx
def chQ (p : List Rat) (z : Int) (i : Nat) : Rat := if i = 8 then mkRat z 1 else p.getD (i - 10) 0
theorem chQ_fit {p : List Rat} {z : Int} (hp : ∀ y ∈ p, Fit y) (hz : Fit (mkRat z 1)) (i : Nat) : Fit (chQ p z i) := by
 unfold chQ
 split
 ·exact hz
 ·exact getD_fit hp _
theorem chQ_el (p : List Rat) (z : Int) (i : Nat) : chQ p z (10 + i) = p.getD i 0 := by
 unfold chQ
 rw [if_neg (by omega), Nat.add_sub_cancel_left]
def chEnv (p : List Rat) (z : Int) (n : Nat) (raw : Bool × ByteArray × ByteArray) (hp : ∀ y ∈ p, Fit y) (hz : Fit (mkRat z 1)) (hb : BadF raw) (lo : Nat) : Env := ⟨chQ p z, fun _ => raw, fun i _ => chQ_fit hp hz i, fun i => (chQ_fit hp hz i).sm.up (by decide), fun _ => hb, lo, atLst p, atNat n, rfl⟩
theorem fit_i64 {z : Int} (h1 : -9223372036854775808 ≤ z) (h2 : z ≤ 9223372036854775807) : Fit (mkRat z 1) := by
 have e1 : Big.nu (mkRat z 1) = z.natAbs := by unfold Big.nu; rw [mk1_num]
 have e2 : Big.de (mkRat z 1) = 1 := by unfold Big.de; rw [Rat.mkRat_one, Rat.den_intCast]
 refine ⟨?_, ?_⟩
 ·rw [e1]; exact Nat.le_trans (szN_mono (n := 9223372036854775808) (by omega)) (by decide +kernel)
 ·rw [e2]; decide +kernel
def Refl (x : Rat) : Prop := Fit x ∧ Big.nu x < Big.de x
theorem rf_rows {ρ : Env} {p : List Rat} (hq : ∀ i, i < p.length → ρ.q (10 + i) = p.getD i 0) : ∀ n, n ≤ p.length → (∀ i, i < n → Big.nu (p.getD i 0) < Big.de (p.getD i 0)) → AllH ρ (rfA n)
 | 0, _, _ => fun x hx => by simp [rfA] at hx
 | n + 1, hn, hr => fun x hx => by
  have h := (refl_iff _).1 (hr n (by omega))
  rcases List.mem_cons.1 hx with rfl | hx
  ·show true = true ↔ ρ.q (10 + n) < onC.ev ρ.q
   rw [on_ev, hq n (by omega)]
   exact ⟨fun _ => h.1, fun _ => rfl⟩
  rcases List.mem_cons.1 hx with rfl | hx
  ·show true = true ↔ omC.ev ρ.q < ρ.q (10 + n)
   rw [om_ev, hq n (by omega)]
   exact ⟨fun _ => h.2, fun _ => rfl⟩
  ·exact rf_rows hq n (by omega) (fun i hi => hr i (by omega)) x hx
theorem sch_B {ρ : Env} {p : List Rat} (hc : ρ.lst 0 = p) (hq : ∀ i, i < p.length → ρ.q (10 + i) = p.getD i 0) : AllX ρ (schB p.length) := fun y hy => by
 rcases List.mem_cons.1 hy with rfl | hy
 ·show (ρ.lst 0).length = _
  rw [hc]
 ·exact elRow_ok hc hq (Nat.le_refl _) y hy
theorem read_any (w : World) {p : List Rat} {z : Int} (hp : ∀ y ∈ p, Refl y) (hl : p.length ≤ 31) (hz : z = 1 ∨ z = -1) {v : Value} (hv : LsIn 0 w v p) (hG : Try.prog.globals.size ≤ w.heap.size) (hT : natSig.base w) :
  Calls Try.prog rdF ⟨[.agg ⟨[v, .int .i64 z]⟩]⟩ w fun e w' => ∃ u x, e = .returned (.tuple ⟨[.agg ⟨u :: x⟩, .bool true]⟩) ∧ NewOl 1 w w' u p ∧ NumIn w' (.agg ⟨x⟩) (mkRat z 1) ∧ Below w.heap.size w w' := by
 have hzf : Fit (mkRat z 1) := fit_i64 (by omega) (by omega)
 have hpf : ∀ y ∈ p, Fit y := fun y hy => (hp y hy).1
 have hq : ∀ i, i < p.length → (chEnv p z p.length _ hpf hzf bad_zero w.heap.size).q (10 + i) = p.getD i 0 := fun i _ => chQ_el p z i
 have hA := rf_rows hq p.length (Nat.le_refl _) fun i hi => by
  rw [List.getD_eq_getElem?_getD, List.getElem?_eq_getElem hi]
  exact (hp _ (List.getElem_mem hi)).2
 have hB := sch_B (ρ := chEnv p z p.length _ hpf hzf bad_zero w.heap.size) rfl hq
 have hS := rdSums_ok hA (z := z) (show (chEnv p z p.length _ hpf hzf bad_zero w.heap.size).q 8 = mkRat z 1 from rfl) (t := true) (by rcases hz with rfl | rfl <;> rfl)
 have hr := isRd_ok (List.all_eq_true.1 rd_runs p.length (List.mem_range.2 (by omega)))
 refine (tells_calls (lsFits hA hB) hS hr rfl glob_few (us := [v, .int .i64 z]) ⟨_, _, rfl, LsIn.ls hv rfl, by obtain ⟨a, m, rfl, _⟩ := hv; rfl, _, _, rfl, by
  show Value.int .i64 z = .int .i64 (mkRat z 1).num
  rw [mk1_num], rfl, rfl⟩ hG hT (Nat.le_refl _) (.none rfl)).mono ?_
 rintro e w' ⟨v', rfl, ⟨vs, rfl, a, l1, rfl, ⟨us, rfl, u, l2, rfl, h1, x1, l3, rfl, h2, x2, l4, rfl, h3, x3, l5, rfl, h4, rfl⟩, u2, l6, rfl, h5, rfl⟩, hb⟩
 have h5' : u2 = .bool true := h5
 subst h5'
 have h2' : x1 = .bool (Big.ng (mkRat z 1)) := h2
 subst h2'
 refine ⟨u, _, rfl, newOl_of (ρ := chEnv p z p.length _ hpf hzf bad_zero w.heap.size) rfl h1 ?_ (fun q hq => ?_), ⟨x2, x3, rfl, h3, h4⟩, hb⟩
 ·rw [snE_ev]
  have := range_getD p (fun y => y)
  rw [List.map_id'] at this
  exact Eq.trans (List.map_congr_left (g := fun k => p.getD k 0) fun k _ => chQ_el p z k) this
 ·cases hq
  show ((p.length : Nat) : Int) = ((0 : Nat) : Int) + (p.length : Int)
  omega
end Ev
end Go.Proofs.Ytnlhjcfpfapafaa
