/- Contracts. -/
import Derived.Test.YtnlhjcfpfapafaaSSq25
import Derived.Laws.StructEq
import Derived.Test.YtnlhjcfpfapafaaSSq19
import Derived.Lib.ItoaMem
namespace Go.Proofs.Ytnlhjcfpfapafaa
open Go Go.RowKit
namespace Ev
set_option maxRecDepth 100000
theorem whole_run : tells ([] : List Nat) [.p (.slice none 0 0)] (call Try.prog natCfg natSums 20 77) = some (.one (.agg [.p (.bool false), .p (.slice none 0 0), .f 1])) := by kernel_rfl
theorem whole_nought (w : World) (hG : Try.prog.globals.size ≤ w.heap.size) (hT : natSig.base w) :
  Calls Try.prog 77 ⟨[.slice none 0 0]⟩ w fun e w' => ∃ v, e = .returned v ∧ NumIn w' v 0 ∧ Below w.heap.size w w' := by
 refine (tells_calls natFits natSums_ok whole_run rfl glob_few (us := []) rfl hG hT).mono ?_
 rintro e w' ⟨v', rfl, ⟨vs, rfl, a, l1, rfl, h1, b, l2, rfl, h2, c, l3, rfl, h3, rfl⟩, hb⟩
 have h1' : a = .bool false := h1
 have h2' : b = .slice none 0 0 := h2
 subst h1'; subst h2'
 exact ⟨_, rfl, ⟨_, _, rfl, NatIn.nil_ w', h3⟩, hb⟩
noncomputable def noughtE (A : List As) : Qe := cond (yesB (ask A 1 (.v 2) z0)) (.v 2) (cond (yesB (ask A 1 (.v 3) z0)) (.v 3) (cond (yesB (ask A 1 (.v 102) z0)) (.v 102) (cond (yesB (ask A 1 (.v 103) z0)) (.v 103) (.c false 0 1))))
theorem noughtE_ok {ρ : Env} {A : List As} (hA : AllH ρ A) : (noughtE A).ev ρ.q = 0 := by
 unfold noughtE
 cases hn : yesB (ask A 1 (.v 2) z0) with
 | false =>
  cases hm : yesB (ask A 1 (.v 3) z0) with
  | false =>
   cases hk : yesB (ask A 1 (.v 102) z0) with
   | false =>
    cases hj : yesB (ask A 1 (.v 103) z0) with
    | false => show mkRat _ _ = 0; rfl
    | true => exact (ask_nought hA (yesB_ok hj)).1 rfl
   | true => exact (ask_nought hA (yesB_ok hk)).1 rfl
  | true => exact (ask_nought hA (yesB_ok hm)).1 rfl
 | true => exact (ask_nought hA (yesB_ok hn)).1 rfl
noncomputable def wholeS (A : List As) : Nat × (List Value → Option (M Sy Value)) := (77, fun args => match args with
 | [a] => cond (nil0 a) (some (newNum (noughtE A))) none
 | _ => none)
theorem wholeS_ok {ρ : Env} {A : List As} (hA : AllH ρ A) : SumF (symSig ρ) Try.prog (wholeS A).1 (wholeS A).2 := by
 intro args m hm
 rcases args with _ | ⟨a, _ | ⟨b, l⟩⟩ <;> first | (cases (show none = some m from hm); done) | skip
 have hm' : cond (nil0 a) (some (newNum (noughtE A))) none = some m := hm
 cases hn : nil0 a with
 | false => rw [hn] at hm'; cases hm'
 | true =>
  rw [hn] at hm'
  cases hm'
  obtain rfl := nil0_ok hn
  refine ⟨loc_newNum _, fun h nx v h' nx' R W e r w args' hv hM hN => ?_⟩
  cases hv with
  | cons h1 h2 =>
   cases h2
   obtain rfl := h1.eq_of_plain rfl
   refine goes_agg e hM hN ((whole_nought w hM.fits hM.base).mono ?_)
   rintro en w' ⟨u, rfl, hu, hb⟩
   rw [← noughtE_ok hA] at hu
   obtain ⟨us, rfl, hus⟩ := num_holds hu
   exact ⟨us, rfl, hus, hb⟩
noncomputable def lsSumsW (A : List As) : Sums Sy := sumsOf (mkTab (wholeS A :: symList A))
theorem lsSumsW_ok {ρ : Env} {A : List As} (hA : AllH ρ A) : SumOK (symSig ρ) Try.prog (lsSumsW A) := sumsOf_ok fun x hx => by
 rcases List.mem_cons.1 hx with rfl | hx
 ·exact wholeS_ok hA
 ·exact symList_ok hA x hx
noncomputable def lsClW (kp : Bool) (A : List As) (B : List Ix) (n : Nat) : Cl Sy := ⟨callY Try.prog (lsCfg kp A B noJ) (lsSumsW A) n, [], fun _ => none⟩
theorem lsClW_ok {ρ : Env} {kp : Bool} {A : List As} {B : List Ix} {n : Nat} (hA : AllH ρ A) (hB : AllX ρ B) : ClOK (symSig ρ) Try.prog (lsClW kp A B n) :=
 have h := callY_ok (C := lsCfg kp A B noJ) (lsFits hA hB) (.none rfl) (lsSumsW_ok hA) n
 ⟨⟨h.1, by intro x hx; simp [lsClW] at hx, fun x m e => (by cases e)⟩, h.2⟩
noncomputable def trF : Nat := 87
noncomputable def trTm : List Nat := [0, 3]
structure TrimAt (l : List Rat) (m : Nat) : Prop where
 le : m ≤ l.length
 zero : ∀ i, m ≤ i → i < l.length → l[i]? = some 0
 last : 0 < m → l.getD (m - 1) 0 ≠ 0
theorem getD_fit {l : List Rat} (hq : ∀ q ∈ l, Fit q) (k : Nat) : Fit (l.getD k 0) := by
 rw [List.getD_eq_getElem?_getD]
 cases h : l[k]? with
 | none => exact fit00
 | some x => exact hq x (List.mem_of_getElem? h)
section
variable {qs : List Rat} (hq : ∀ q ∈ qs, Fit q) (lo : Nat) {n m : Nat}
end
theorem condJ {b : Bool} {m m2 : Tr Value → M Sy (Tr Value)} {o : Option (Tr Value → M Sy (Tr Value))} (h : cond b (some m2) o = some m) : (b = true ∧ m = m2) ∨ (b = false ∧ o = some m) := by
 cases b with
 | true => exact .inl ⟨rfl, (Option.some.inj h).symm⟩
 | false => exact .inr ⟨rfl, h⟩
theorem one_jmp {S : Sig Sy} {f N : Nat} {m : Tr Value → M Sy (Tr Value)} (ho : ∃ fn c, (Try.prog).funcs[f]? = some fn ∧ fn.body = some c ∧ fn.ntmps = N ∧ loopsIn c = [loopOf f 0]) (hj : JmpOK S Try.prog N (loopOf f 0) m)
  {fn : Func} {c x : Code} (ht : (Try.prog).funcs[f]? = some fn) (hb : fn.body = some c) (hx : x ∈ loopsIn c) : JmpOK S Try.prog fn.ntmps x m := by
 obtain ⟨fn0, c0, q1, q2, q3, q4⟩ := ho
 rw [q1] at ht
 cases ht
 rw [q2] at hb
 cases hb
 rw [q4] at hx
 obtain rfl := List.mem_singleton.1 hx
 rw [q3]
 exact @hj
theorem tr_one : ∃ fn c, (Try.prog).funcs[trF]? = some fn ∧ fn.body = some c ∧ fn.ntmps = 22 ∧ loopsIn c = [loopOf trF 0] := ⟨_, _, rfl, rfl, rfl, rfl⟩
section
variable {qs : List Rat} (hq : ∀ q ∈ qs, Fit q) (lo : Nat) {n m : Nat}
end
end Ev
end Go.Proofs.Ytnlhjcfpfapafaa
namespace Go.Proofs.Ytnlhjcfpfapafaa
namespace Ev
def cf (p : List Rat) (i : Nat) : Rat := p.getD i 0
def sh (g : Nat → Rat) : Nat → Rat
 | 0 => 0
 | j + 1 => g j
def mulF : List Rat → (Nat → Rat) → Nat → Rat
 | [], _, _ => 0
 | a :: p, g, i => a * g i + sh (mulF p g) i
def e0 : Nat → Rat
 | 0 => 1
 | _ + 1 => 0
theorem cf_nil (i : Nat) : cf [] i = 0 := rfl
def ps (p q : List Rat) (i : Nat) : Nat → Rat
 | 0 => 0
 | n + 1 => ps p q i n + cf p n * cf q (i - n)
theorem ps_cons (a : Rat) (p q : List Rat) (i : Nat) : ∀ n, ps (a :: p) q (i + 1) (n + 1) = a * cf q (i + 1) + ps p q i n
 | 0 => by simp only [ps]; show (0 : Rat) + a * cf q (i + 1) = _; grind
 | n + 1 => by
  rw [ps, ps_cons a p q i n, ps]
  rw [show i + 1 - (n + 1) = i - n by omega]
  show _ + cf p n * _ = _
  grind
theorem ps_nil (q : List Rat) (i : Nat) : ∀ n, ps [] q i n = 0
 | 0 => rfl
 | n + 1 => by rw [ps, ps_nil q i n, cf_nil]; grind
theorem ps_mulF : ∀ (p q : List Rat) (i : Nat), ps p q i (i + 1) = mulF p (cf q) i
 | [], q, i => by rw [ps_nil]; rfl
 | a :: p, q, 0 => by simp only [ps, mulF, sh]; show (0 : Rat) + a * cf q 0 = a * cf q 0 + 0; grind
 | a :: p, q, i + 1 => by
  rw [ps_cons, ps_mulF p q i]; rfl
theorem cf_beyond {p : List Rat} {i : Nat} (h : p.length ≤ i) : cf p i = 0 := by
 unfold cf
 rw [List.getD_eq_getElem?_getD, List.getElem?_eq_none h]; rfl
theorem ps_top (p q : List Rat) (i : Nat) : ∀ n m, p.length ≤ n → ps p q i (n + m) = ps p q i n
 | n, 0, _ => rfl
 | n, m + 1, h => by
  rw [← Nat.add_assoc, ps, ps_top p q i n m h, cf_beyond (by omega)]; grind
theorem ps_low (p q : List Rat) (i : Nat) : ∀ n, n + q.length ≤ i + 1 → ps p q i n = 0
 | 0, _ => rfl
 | n + 1, h => by
  rw [ps, ps_low p q i n (by omega), cf_beyond (p := q) (by omega)]; grind
theorem cf_inj : ∀ (l m : List Rat), (l ≠ [] → l.getLastD 0 ≠ 0) → (m ≠ [] → m.getLastD 0 ≠ 0) → (∀ i, cf l i = cf m i) → l = m := by
 have aux : ∀ (m : List Rat), (m ≠ [] → m.getLastD 0 ≠ 0) → (∀ i, cf m i = 0) → m = [] := fun m hm h => by
  cases m with
  | nil => rfl
  | cons a l =>
   refine absurd ?_ (hm (by simp))
   have := h l.length
   unfold cf at this
   rw [List.getLastD_cons, List.getLastD_eq_getLast?]
   cases l with
   | nil => exact this
   | cons b l =>
    rw [List.getD_eq_getElem?_getD, List.length_cons, List.getElem?_cons_succ] at this
    rw [List.getLast?_eq_getElem?]
    simpa using this
 have tl : ∀ {a : Rat} {l : List Rat}, (a :: l ≠ [] → (a :: l).getLastD 0 ≠ 0) → (l ≠ [] → l.getLastD 0 ≠ 0) := fun {a l} h hl => by
  have := h (by simp)
  rw [List.getLastD_cons] at this
  cases l with
  | nil => exact absurd rfl hl
  | cons b l => rw [List.getLastD_cons] at this ⊢; exact this
 intro l
 induction l with
 | nil => exact fun m _ hm h => (aux m hm fun i => (h i).symm).symm
 | cons a l ih =>
  intro m hl hm h
  cases m with
  | nil => exact aux (a :: l) hl h
  | cons b m =>
   have h0 : a = b := h 0
   rw [h0, ih m (tl hl) (tl hm) fun i => h (i + 1)]
end Ev
end Go.Proofs.Ytnlhjcfpfapafaa
namespace Go.Proofs.Ytnlhjcfpfapafaa
open Go Go.RowKit
namespace Ev
namespace Fq
set_option maxRecDepth 100000
abbrev Tri := Bool × ByteArray × ByteArray
def tri (q : Rat) : Tri := (Big.ng q, bst (Big.nu q), bst (Big.de q))
def cel (x : Tri) : List Value := [.bool x.1, .string x.2.1, .string x.2.2]
theorem tri_inj {p q : Rat} (h : tri p = tri q) : p = q := by
 unfold tri at h
 simp only [Prod.mk.injEq] at h
 exact Big.parts_eq h.1 (bst_inj h.2.1) (bst_inj h.2.2)
theorem not_bad {q : Rat} (h : Fit q) : ¬ BadF (tri q) := fun hb => hb q h ⟨rfl, rfl, rfl⟩
def tbeq (x y : Tri) : Bool := x.1 == y.1 && (x.2.1.toList == y.2.1.toList && x.2.2.toList == y.2.2.toList)
theorem tbeq_iff {x y : Tri} : tbeq x y = true ↔ x = y := by
 obtain ⟨a, s, t⟩ := x
 obtain ⟨b, u, v⟩ := y
 have key : ∀ p q : ByteArray, (p.toList == q.toList) = true ↔ p = q := fun p q => by
  rw [beq_iff_eq, ByteArray.toList_eq, ByteArray.toList_eq]
  obtain ⟨⟨p⟩⟩ := p
  obtain ⟨⟨q⟩⟩ := q
  simp
 simp only [tbeq, Bool.and_eq_true, key, beq_iff_eq, Prod.mk.injEq]
theorem eqIn_frac (d : Nat) (x y : Tri) (w : World) : (Op.equalIn (d + 2) 27 (.agg ⟨cel x⟩) (.agg ⟨cel y⟩)).run Try.prog w = .ok (tbeq x y) w := by
 have hS : Try.prog.underlying 27 = some (.struct (Try.prog.fieldsOf 27)) := by kernel_rfl
 have hp : Try.prog.stoodInHeld 27 = false := by kernel_rfl
 obtain ⟨a, s, t⟩ := x
 obtain ⟨b, u, v⟩ := y
 rw [show d + 2 = (d + 1) + 1 from rfl, run_equalIn_struct w (d + 1) 27 _ _ hS hp]
 simp only [Program.fieldsOf, Try.underlying27, cel, tbeq]
 generalize hx : (s.toList == u.toList) = b1
 generalize hy : (t.toList == v.toList) = b2
 cases a <;> cases b <;> cases b1 <;> cases b2 <;> go_simp <;> simp [hx, hy]
noncomputable def sameO (A : List As) (l m : List Value) (o p : Option Qe) : Option Bool := match o with
 | some e => match p with
  | some f => cond (e.beq f) (some true) (ask A 2 e f)
  | none => match fitB A e with
   | some t => cond t (some false) none
   | none => none
 | none => match p with
  | some f => match fitB A f with
   | some t => cond t (some false) none
   | none => none
  | none => cond (eqL eq1 l m && plainL plain l) (some true) none
noncomputable def eq3 (A : List As) (l m : List Value) : M Sy (Option Bool) := bind (frcV l) fun o => bind (frcV m) fun p => ret (sameO A l m o p)
noncomputable def ansEq (op : BinOp) (b : Option Bool) : M Sy Nxt := match b with
 | some b => match op with
  | .eql => val (.bool b)
  | .neq => val (.bool (!b))
  | _ => fail
 | none => fail
noncomputable def frH (A : List As) (G : Oper → List Value → M Sy Nxt) (o : Oper) (vs : List Value) : M Sy Nxt := match o.op with
 | .binOp op t _ _ _ => match twoM vs with
  | some y => match y.1 with
   | .agg cs => match y.2 with
    | .agg ds => cond (Nat.beq t 27) (bind (eq3 A cs.toList ds.toList) (ansEq op)) fail
    | _ => fail
   | _ => G o vs
  | none => fail
 | _ => G o vs
theorem loc_eq3 (A : List As) (l m : List Value) : Loc (eq3 A l m) := loc_bind (loc_frcV _) fun _ => loc_bind (loc_frcV _) fun _ => loc_ret _
theorem loc_ansEq (op : BinOp) (b : Option Bool) : Loc (ansEq op b) := by
 unfold ansEq
 (repeat' split) <;> first | exact loc_val _ | exact loc_fail
theorem loc_frH {G : Oper → List Value → M Sy Nxt} (hG : ∀ o vs, Loc (G o vs)) (A : List As) (o : Oper) (vs : List Value) : Loc (frH A G o vs) := by
 unfold frH
 (repeat' split) <;> first
  | exact loc_fail
  | exact loc_cond (loc_bind (loc_eq3 _ _ _) fun _ => loc_ansEq _ _) loc_fail
  | exact hG _ _
theorem frc_tri {ρ : Env} {l : List Value} {o : Option Qe} (h : FrcIs ρ l o) : ∃ x : Tri, l = cel x ∧ (∀ e, o = some e → x = tri (e.ev ρ.q)) ∧ (o = none → BadF x) := by
 cases o with
 | some e =>
  obtain rfl : l = _ := h
  exact ⟨tri (e.ev ρ.q), rfl, fun e' he => by cases he; rfl, fun h => (by cases h)⟩
 | none =>
  obtain ⟨x, hx, rfl⟩ := h
  exact ⟨x, rfl, fun e' he => (by cases he), fun _ => hx⟩
section
variable {ρ : Env} {A : List As} {h h' : Tr (Blk Sy)} {nx nx' : Nat} {R W : List Nat} {r : Ren} {w : World}
theorem cel_inj {x y : Tri} (h : cel x = cel y) : x = y := by
 obtain ⟨a, s, t⟩ := x
 obtain ⟨b, u, v⟩ := y
 simp only [cel, List.cons.injEq, Value.bool.injEq, Value.string.injEq, and_true] at h
 obtain ⟨rfl, rfl, rfl⟩ := h
 rfl
theorem eq3_ok (hA : AllH ρ A) {l m l' m' : List Value} {b : Option Bool} (e : eq3 A l m h nx = .ok b h' nx' R W) (hl : VsR r l l') (hm : VsR r m m') (hM : Mod (symSig ρ) r h.get w) :
  h' = h ∧ nx' = nx ∧ W = [] ∧ ∃ x y : Tri, l' = cel x ∧ m' = cel y ∧ ∀ t, b = some t → t = tbeq x y := by
 obtain ⟨o, h1, nx1, R1, W1, R2, W2, q1, q2, rfl, rfl⟩ := bind_ok e
 obtain ⟨rfl, rfl, rfl, i1⟩ := frcV_ok q1 hl hM
 obtain ⟨p, h2, nx2, R3, W3, R4, W4, q3, q4, rfl, rfl⟩ := bind_ok q2
 obtain ⟨rfl, rfl, rfl, i2⟩ := frcV_ok q3 hm hM
 obtain ⟨rfl, rfl, rfl, rfl⟩ := ret_ok q4
 obtain ⟨x, rfl, x1, x2⟩ := frc_tri i1
 obtain ⟨y, rfl, y1, y2⟩ := frc_tri i2
 refine ⟨rfl, rfl, by simp, x, y, rfl, rfl, fun t ht => ?_⟩
 have neg : x ≠ y → tbeq x y = false := fun hn => by
  cases hb : tbeq x y with
  | false => rfl
  | true => exact absurd (tbeq_iff.1 hb) hn
 unfold sameO at ht
 cases o with
 | some e0 =>
  have hx := x1 e0 rfl
  cases p with
  | some f =>
   have hy := y1 f rfl
   simp only at ht
   cases hb : e0.beq f with
   | true =>
    rw [hb] at ht
    cases ht
    rw [hx, hy, Qe.beq_ok _ _ hb]
    exact (tbeq_iff.2 rfl).symm
   | false =>
    rw [hb] at ht
    have hs := ask_same hA ht
    cases t with
    | true => rw [hx, hy, hs.1 rfl]; exact (tbeq_iff.2 rfl).symm
    | false =>
     refine (neg fun h => ?_).symm
     rw [hx, hy] at h
     have := hs.2 (tri_inj h)
     cases this
  | none =>
   simp only at ht
   cases hf : fitB A e0 with
   | none => rw [hf] at ht; cases ht
   | some u =>
    rw [hf] at ht
    cases u with
    | false => cases ht
    | true =>
     cases ht
     refine (neg fun h => ?_).symm
     have hbad := y2 rfl
     rw [← h, hx] at hbad
     exact not_bad ((fitB_ok hA hf).1 rfl) hbad
 | none =>
  cases p with
  | some f =>
   have hy := y1 f rfl
   simp only at ht
   cases hf : fitB A f with
   | none => rw [hf] at ht; cases ht
   | some u =>
    rw [hf] at ht
    cases u with
    | false => cases ht
    | true =>
     cases ht
     refine (neg fun h => ?_).symm
     have hbad := x2 rfl
     rw [h, hy] at hbad
     exact not_bad ((fitB_ok hA hf).1 rfl) hbad
  | none =>
   simp only at ht
   cases hk : (eqL eq1 l m && plainL plain l) with
   | false => rw [hk] at ht; cases ht
   | true =>
    rw [hk] at ht
    cases ht
    simp only [Bool.and_eq_true] at hk
    have e1 := eqL_ok eq1_ok hk.1
    subst e1
    have e2 := hl.eq_of_plain hk.2
    have e3 := hm.eq_of_plain hk.2
    rw [← e2] at e3
    rw [cel_inj e3]
    exact (tbeq_iff.2 rfl).symm
theorem run_eqs (op : BinOp) (t : TypeId) (x y : Operand) (cs ds : Array Value) (b : Bool) (v : Value) (hm : Try.prog.eqGuardType Try.prog.depth t = false) (he : (Op.equalIn 10000 t (.agg cs) (.agg ds)).run Try.prog w = .ok b w) (hv : (op = .eql ∧ v = .bool b) ∨ (op = .neq ∧ v = .bool (!b))) :
  (do eqGuard op t x y (.agg cs) (.agg ds); binOp op t (.agg cs) (.agg ds) : Sem Value).run Try.prog w = .ok v w := by
 have hg := run_eqGuard_agg (P := Try.prog) w op t x y cs ds hm
 have he' : (Op.equal t (.agg cs) (.agg ds)).run Try.prog w = .ok b w := he
 rcases hv with ⟨rfl, rfl⟩ | ⟨rfl, rfl⟩
 ·rw [Sem.run_bind, hg]
  simp [binOp, he']
 ·rw [Sem.run_bind, hg]
  simp [binOp, he']
theorem ansEq_ok {op : BinOp} {b : Option Bool} {x : Nxt} (e : ansEq op b h nx = .ok x h' nx' R W) : h' = h ∧ nx' = nx ∧ W = [] ∧ ∃ t v, b = some t ∧ x = .val v ∧ ((op = .eql ∧ v = .bool t) ∨ (op = .neq ∧ v = .bool (!t))) := by
 unfold ansEq at e
 cases b with
 | none => cases (show (fail : M Sy Nxt) h nx = _ from e)
 | some t =>
  cases op with
  | eql =>
   obtain ⟨rfl, rfl, rfl, rfl⟩ := val_ok (show (val (.bool t) : M Sy Nxt) h nx = _ from e)
   exact ⟨rfl, rfl, rfl, t, _, rfl, rfl, .inl ⟨rfl, rfl⟩⟩
  | neq =>
   obtain ⟨rfl, rfl, rfl, rfl⟩ := val_ok (show (val (.bool (!t)) : M Sy Nxt) h nx = _ from e)
   exact ⟨rfl, rfl, rfl, t, _, rfl, rfl, .inr ⟨rfl, rfl⟩⟩
  | _ => cases (show (fail : M Sy Nxt) h nx = _ from e)
theorem frH_ok (hA : AllH ρ A) {G : Oper → List Value → M Sy Nxt} {C : Cfg Sy} (hG : HardOK (symSig ρ) Try.prog { C with hard := G }) (hC : C.hard = frH A G) : HardOK (symSig ρ) Try.prog C := by
 intro o vs h nx x h' nx' R W hs e r w ρo hM hN hv
 rw [hC] at e
 unfold frH at e
 have back : G o vs h nx = .ok x h' nx' R W → nx ≤ nx' ∧ After (symSig ρ) Try.prog ((execOp ρo o).run Try.prog w) r w nx nx' W h'.get x := fun e2 => hG o vs h nx x h' nx' R W hs e2 r w ρo hM hN hv
 cases hop : o.op with
 | binOp op t p q yt =>
  rw [hop] at e
  simp only at e
  have hops : o.op.operands.toList.map ρo = [ρo p, ρo q] := by rw [hop]; rfl
  rw [hops] at hv
  rcases vs with _ | ⟨u, _ | ⟨v, _ | ⟨z, l⟩⟩⟩ <;> first | (cases (show (fail : M Sy Nxt) h nx = _ from e); done) | skip
  simp only [twoM] at e
  cases hv with
  | cons hu hv => cases hv with
   | cons hv hn =>
    cases u <;> first | exact back e | skip
    rename_i cs
    cases v <;> first | (cases (show (fail : M Sy Nxt) h nx = _ from e); done) | skip
    rename_i ds
    obtain ⟨cl⟩ := cs
    obtain ⟨dl⟩ := ds
    obtain ⟨cl', hc1, hc2⟩ := vr_agg hu
    obtain ⟨dl', hd1, hd2⟩ := vr_agg hv
    simp only at e
    obtain ⟨ht, e⟩ := cond_ok e
    have htt := Nat.eq_of_beq_eq_true ht
    have fin : ∀ {b : Bool} {v : Value}, (Op.equalIn 10000 t (.agg ⟨cl'⟩) (.agg ⟨dl'⟩)).run Try.prog w = .ok b w → Try.prog.eqGuardType Try.prog.depth t = false → ((op = .eql ∧ v = .bool b) ∨ (op = .neq ∧ v = .bool (!b))) →
      (execOp ρo o).run Try.prog w = .ok (.value v) w := fun he hm hv => by
     have := run_eqs op t p q ⟨cl'⟩ ⟨dl'⟩ _ _ hm he hv
     simp only [execOp, hop, hc1, hd1]
     rw [Sem.run_bind, this]
     rfl
    obtain ⟨b, h1, nx1, R1, W1, R2, W2, e1, e2, rfl, rfl⟩ := bind_ok e
    obtain ⟨rfl, rfl, rfl, x1, y1, rfl, rfl, hb⟩ := eq3_ok hA e1 hc2 hd2 hM
    obtain ⟨rfl, rfl, rfl, t1, v1, rfl, rfl, hv1⟩ := ansEq_ok e2
    have := hb t1 rfl
    subst this
    refine ⟨Nat.le_refl _, v1, w, r, fin (by rw [htt]; exact eqIn_frac 9998 x1 y1 w) (by rw [htt]; kernel_rfl) hv1, ?_, by simpa using Ext.refl _ _ hM⟩
    rcases hv1 with ⟨_, rfl⟩ | ⟨_, rfl⟩ <;> exact .same rfl
 | _ => rw [hop] at e; exact back e
end
noncomputable def lsCfgQ (kp : Bool) (A : List As) (B : List Ix) (j : Jmps) : Cfg Sy where
 hid _ := symHid
 G := natCfg.G
 glob := natCfg.glob
 tab := natCfg.tab
 len := symLen
 jmp := j
 hard := lsHard kp A B (frH A (memHard Try.prog memC))
instance lsHardQ (kp : Bool) (A : List As) (B : List Ix) (j : Jmps) : HardLoc (lsCfgQ kp A B j) := ⟨loc_lsHard (loc_frH (loc_memHard Try.prog memC) A) kp A B⟩
theorem lsFitsQ {ρ : Env} {kp : Bool} {A : List As} {B : List Ix} {j : Jmps} (hA : AllH ρ A) (hB : AllX ρ B) : Fits (symSig ρ) Try.prog (lsCfgQ kp A B j) where
 hid := rfl
 G := rfl
 len := lsLen_ok ρ
 tab := natFits.tab
 glob := natFits.glob
 mixed := natFits.mixed
 hard := lsHard_ok hA hB (frH_ok hA (memHard_ok (C0 := memC) rfl rfl rfl) rfl) rfl
end Fq
set_option maxRecDepth 100000
noncomputable def lsClQ (kp : Bool) (A : List As) (B : List Ix) (n : Nat) : Cl Sy := ⟨callY Try.prog (Fq.lsCfgQ kp A B noJ) (lsSums A) n, [], fun _ => none⟩
theorem lsClQ_ok {ρ : Env} {kp : Bool} {A : List As} {B : List Ix} {n : Nat} (hA : AllH ρ A) (hB : AllX ρ B) : ClOK (symSig ρ) Try.prog (lsClQ kp A B n) :=
 have h := callY_ok (C := Fq.lsCfgQ kp A B noJ) (Fq.lsFitsQ hA hB) (.none rfl) (lsSums_ok hA) n
 ⟨⟨h.1, by intro x hx; simp [lsClQ] at hx, fun x m e => (by cases e)⟩, h.2⟩
section
variable {qs : List Rat} (hq : ∀ q ∈ qs, Fit q) (lo : Nat)
end
set_option maxRecDepth 100000
noncomputable def isLe (y : Nat × Le) (K c : Nat) : Bool := Nat.beq y.1 K && y.2.beq (.v c)
theorem isLe_ok {y : Nat × Le} {K c : Nat} (h : isLe y K c = true) : y = (K, .v c) := by
 obtain ⟨a, l⟩ := y
 have h' := Bool.and_eq_true_iff.1 (show (Nat.beq a K && l.beq (.v c)) = true from h)
 rw [Nat.eq_of_beq_eq_true h'.1, Le.beq_ok _ _ h'.2]
section
variable {ρ : Env} {B : List Ix}
end
set_option maxRecDepth 100000
theorem trim_ex : ∀ (l : List Rat), ∃ m, TrimAt l m := by
 have key : ∀ (k : Nat) (l : List Rat), k ≤ l.length → (∀ i, k ≤ i → i < l.length → l[i]? = some 0) → ∃ m, TrimAt l m := by
  intro k
  induction k with
  | zero => exact fun l _ hz => ⟨0, Nat.zero_le _, hz, fun h => by omega⟩
  | succ k ih =>
   intro l hk hz
   by_cases h0 : l.getD k 0 = 0
   ·refine ih l (by omega) fun i h1 h2 => ?_
    rcases Nat.eq_or_lt_of_le h1 with q | q
    ·subst q
     rw [List.getD_eq_getElem?_getD, List.getElem?_eq_getElem h2] at h0
     rw [List.getElem?_eq_getElem h2]
     exact congrArg some h0
    ·exact hz i q h2
   ·exact ⟨k + 1, hk, hz, fun _ => h0⟩
 exact fun l => key l.length l (Nat.le_refl _) fun i h1 h2 => by omega
theorem TrimAt.getD {l : List Rat} {m : Nat} (h : TrimAt l m) (i : Nat) : (l.take m).getD i 0 = l.getD i 0 := by
 rw [List.getD_eq_getElem?_getD, List.getD_eq_getElem?_getD, List.getElem?_take]
 by_cases hi : i < m
 ·rw [if_pos hi]
 ·rw [if_neg hi]
  by_cases h2 : i < l.length
  ·rw [h.zero i (by omega) h2]; rfl
  ·rw [List.getElem?_eq_none (by omega)]
theorem TrimAt.poly {l : List Rat} {m : Nat} (h : TrimAt l m) (hq : ∀ q ∈ l, Fit q) : PolyOK (l.take m) := by
 refine ⟨fun q hq2 => hq q (List.mem_of_mem_take hq2), fun hne => ?_⟩
 have hm := h.le
 have hpos : 0 < m := by
  rcases Nat.eq_zero_or_pos m with q | q
  ·subst q; simp at hne
  ·exact q
 have hl : (l.take m).length = m := by rw [List.length_take]; omega
 have h2 := h.last hpos
 rw [← h.getD] at h2
 rw [List.getLastD_eq_getLast?, List.getLast?_eq_getElem?, hl, ← List.getD_eq_getElem?_getD]
 exact h2
end Ev
end Go.Proofs.Ytnlhjcfpfapafaa
namespace Go.Proofs.Ytnlhjcfpfapafaa
open Go.RowKit
theorem At3.both {w w' : World} {g : Nat} {T : TypeId} {a b c : Value} (h : At3 w g T a b c) (hb : Below w.heap.size w w') (B : Nat) (w0 : World) (hB : Below B w0 w) : At3 w' g T a b c ∧ Below B w0 w' → At3 w' g T a b c := fun _ => h.keep hb
end Go.Proofs.Ytnlhjcfpfapafaa
namespace Go.Proofs.Ytnlhjcfpfapafaa
open Go.RowKit
def ofQ (n d : Int) : Rat := mkRat (Big.sI (decide (n < 0) != decide (d < 0)) n.natAbs) d.natAbs
theorem ofQ_by {n d : Int} {k : Nat} (hn : n.natAbs < 256 ^ k) (hd : d.natAbs < 256 ^ k) (h0 : d ≠ 0) : By k (ofQ n d) := by
 obtain ⟨_, p2, p3⟩ := Big.of_parts (decide (n < 0) != decide (d < 0)) n.natAbs d.natAbs (by omega)
 unfold ofQ
 exact ⟨by rw [p2]; exact Nat.lt_of_le_of_lt (Nat.div_le_self _ _) hn, by rw [p3]; exact Nat.lt_of_le_of_lt (Nat.div_le_self _ _) hd⟩
end Go.Proofs.Ytnlhjcfpfapafaa
namespace Go.Proofs.Ytnlhjcfpfapafaa
open Go Go.RowKit
namespace Ev
set_option maxRecDepth 100000
theorem ofQ_one {q : Rat} (h : q.den = 1) : ofQ q.num 1 = q := by
 have hq : q = (q.num : Rat) := by
  apply Rat.ext
  ·simp
  ·simp [h]
 unfold ofQ
 have hd : (decide (q.num < 0) != decide ((1 : Int) < 0)) = decide (q.num < 0) := by
  rw [show decide ((1 : Int) < 0) = false from rfl]
  cases decide (q.num < 0) <;> rfl
 rw [hd, show (1 : Int).natAbs = 1 from rfl]
 have hs : Big.sI (decide (q.num < 0)) q.num.natAbs = q.num := by
  unfold Big.sI
  by_cases h0 : q.num < 0
  ·simp [h0]; omega
  ·simp [h0]; omega
 rw [hs]
 conv => rhs; rw [hq]
 rw [Rat.mkRat_one]
def ops1 : Code → Nat
 | .seq a _ => ops1 a
 | .region _ ops _ => ops.size
 | .scope c => ops1 c
 | .block _ c => ops1 c
 | _ => 0
def ofNat (c k j m : Nat) : Nat → Nat
 | 1 => c
 | 2 => k
 | 6 => m
 | 7 => c - j
 | _ => 0
theorem condJ' {b : Bool} {m : Tr Value → M Sy (Tr Value)} {o : Option (Tr Value → M Sy (Tr Value))} (h : cond b o none = some m) : b = true ∧ o = some m := by
 cases b with
 | true => exact ⟨rfl, h⟩
 | false => cases h
section
variable {qs : List Rat} (hq : ∀ q ∈ qs, Fit q) (lo : Nat) {m : Nat}
end
def pd (p q : List Rat) : List Rat := (List.range (if p.length = 0 ∨ q.length = 0 then 0 else p.length + q.length - 1)).map fun i => ps p q i (i + 1)
theorem pd_len {p q : List Rat} (hp : 0 < p.length) (hq : 0 < q.length) : (pd p q).length = p.length + q.length - 1 := by
 unfold pd
 rw [if_neg (by omega)]
 simp
theorem pd_none {p q : List Rat} (h : p.length = 0 ∨ q.length = 0) : pd p q = [] := by
 unfold pd
 rw [if_pos h]; rfl
theorem pd_get {p q : List Rat} (hp : 0 < p.length) (hq : 0 < q.length) {i : Nat} (h : i < p.length + q.length - 1) : (pd p q)[i]? = some (ps p q i (i + 1)) := by
 unfold pd
 rw [if_neg (by omega), List.getElem?_map, List.getElem?_range h]; rfl
theorem ps_min {p q : List Rat} {i : Nat} (hp : 0 < p.length) : ps p q i (min i (p.length - 1) + 1) = ps p q i (i + 1) := by
 rcases Nat.lt_or_ge i p.length with h | h
 ·rw [show min i (p.length - 1) = i by omega]
 ·rw [show min i (p.length - 1) = p.length - 1 by omega]
  have := ps_top p q i (p.length - 1 + 1) (i + 1 - p.length) (by omega)
  rw [← this]
  congr 1; omega
structure PmFit (p q : List Rat) : Prop where
 fp : ∀ x ∈ p, Fit x
 fq : ∀ x ∈ q, Fit x
 fs : ∀ i k, k ≤ i + 1 → Fit (ps p q i k)
theorem sig_same (a b : Env) (h : a.lo = b.lo) : (symSig a).G = (symSig b).G ∧ (symSig a).lo = (symSig b).lo ∧ (symSig a).base = (symSig b).base := ⟨rfl, h, rfl⟩
section
variable {p q : List Rat} (hf : PmFit p q) (lo : Nat)
end
theorem newOl_nil {w w' : World} : NewOl 1 w w' (.slice none 0 0) [] := ⟨⟨none, 0, rfl, Nat.le_refl _, fun _ => rfl, fun ad h => by cases h⟩, fun b h => by cases h⟩
def pa (p q : List Rat) : List Rat := (List.range (max p.length q.length)).map fun i => p.getD i 0 + q.getD i 0
theorem pa_len (p q : List Rat) : (pa p q).length = max p.length q.length := by simp [pa]
theorem pa_get {p q : List Rat} {i : Nat} (h : i < max p.length q.length) : (pa p q)[i]? = some (p.getD i 0 + q.getD i 0) := by
 unfold pa
 rw [List.getElem?_map, List.getElem?_range h]; rfl
structure PaFit (p q : List Rat) : Prop where
 fp : ∀ x ∈ p, Fit x
 fq : ∀ x ∈ q, Fit x
 fs : ∀ x ∈ pa p q, Fit x
section
variable {p q : List Rat} (hf : PaFit p q) (lo : Nat) {m : Nat}
end
theorem whole_k (k : Nat) : tells [k] [.one] (call Try.prog natCfg natSums 20 77) = some (.one (.agg [.p (.bool false), .f k, .f 1])) := by kernel_rfl
def wq (k : Nat) : Rat := mkRat (Big.sI false k) 1
theorem wq_is (k : Nat) : wq k = ((k : Int) : Rat) := by
 unfold wq
 rw [Big.sI_false, Rat.mkRat_one]
theorem wq_parts (k : Nat) : Big.ng (wq k) = false ∧ Big.nu (wq k) = k ∧ Big.de (wq k) = 1 := by
 rw [wq_is]
 refine ⟨?_, ?_, ?_⟩
 ·unfold Big.ng
  rw [Rat.num_intCast]
  exact decide_eq_false (by omega)
 ·unfold Big.nu
  rw [Rat.num_intCast]; rfl
 ·unfold Big.de
  rw [Rat.den_intCast]
theorem wholeK_any (w : World) {v : Value} {k : Nat} (hv : NatIn w v k) (hG : Try.prog.globals.size ≤ w.heap.size) (hT : natSig.base w) :
  Calls Try.prog 77 ⟨[v]⟩ w fun e w' => ∃ v, e = .returned v ∧ NumIn w' v (wq k) ∧ Below w.heap.size w w' := by
 refine (tells_calls natFits natSums_ok (whole_k k) rfl glob_few (us := [v]) ⟨v, _, rfl, hv, nat_one hv, rfl⟩ hG hT).mono ?_
 rintro e w' ⟨v', rfl, ⟨vs, rfl, a, l1, rfl, h1, b, l2, rfl, h2, c, l3, rfl, h3, rfl⟩, hb⟩
 have h1' : a = .bool false := h1
 subst h1'
 obtain ⟨p1, p2, p3⟩ := wq_parts k
 refine ⟨_, rfl, ⟨b, c, ?_, ?_, ?_⟩, hb⟩
 ·rw [p1]
 ·rw [p2]; exact h2
 ·rw [p3]; exact h3
section
variable {qs : List Rat} (hq : ∀ q ∈ qs, Fit q) (lo : Nat) {m : Nat}
end
section
variable {ρ : Env} {B : List Ix}
end
theorem int_fit {q : Rat} (h : q.den = 1) (h0 : -9223372036854775808 ≤ q.num) (h1 : q.num ≤ 9223372036854775807) : Fit q := by
 have hb : By 8 (ofQ q.num 1) := ofQ_by (by omega) (by decide) (by decide)
 have := hb.fit (by omega)
 rwa [ofQ_one h] at this
def dv (p : List Rat) : List Rat := (List.range (p.length - 1)).map fun i => p.getD (i + 1) 0 * wq (i + 1)
structure DeFit (p : List Rat) : Prop where
 fp : ∀ x ∈ p, Fit x
 fs : ∀ x ∈ dv p, Fit x
section
variable {p : List Rat} (hf : DeFit p) (lo : Nat) {m : Nat}
end
def atQ (p : List Rat) (x : Rat) (i : Nat) : Rat := if i = 9 then x else p.getD (i - 10) 0
theorem atQ_fit {p : List Rat} {x : Rat} (hp : ∀ y ∈ p, Fit y) (hx : Fit x) (i : Nat) : Fit (atQ p x i) := by
 unfold atQ
 split
 ·exact hx
 ·exact getD_fit hp _
def atNat (a : Nat) : Nat → Nat
 | 1 => a
 | _ => 0
def atLst (p : List Rat) : Nat → List Rat
 | 0 => p
 | _ => []
def atEnv (p : List Rat) (x : Rat) (hp : ∀ y ∈ p, Fit y) (hx : Fit x) (lo : Nat) : Env := ⟨atQ p x, fun _ => (false, ⟨#[]⟩, ⟨#[]⟩), fun i _ => atQ_fit hp hx i, fun i => (atQ_fit hp hx i).sm.up (by decide), fun _ => bad_zero, lo, atLst p, atNat p.length, rfl⟩
noncomputable def vOf (K : Nat) (y : Nat × Le) : Option Nat := match y.2 with
 | .v c => cond (Nat.beq y.1 K) (some c) none
 | _ => none
theorem vOf_ok {K c : Nat} {y : Nat × Le} (h : vOf K y = some c) : y = (K, .v c) := by
 obtain ⟨a, l⟩ := y
 cases l <;> first | (cases (show none = some c from h); done) | skip
 rename_i d
 have h' : cond (Nat.beq a K) (some d) none = some c := h
 cases hb : Nat.beq a K with
 | false => rw [hb] at h'; cases h'
 | true =>
  rw [hb] at h'
  cases h'
  rw [Nat.eq_of_beq_eq_true hb]
abbrev Tri3 := List (Nat × Nat × Nat)
noncomputable def findL (L : Tri3) (c d : Nat) : Option Nat := List.rec (motive := fun _ => Option Nat) none (fun x _ ih => cond (Nat.beq x.1 c && Nat.beq x.2.1 d) (some x.2.2) ih) L
theorem findL_ok {c d e : Nat} : ∀ {L : Tri3}, findL L c d = some e → (c, d, e) ∈ L
 | [], h => by cases h
 | x :: L, h => by
  obtain ⟨a, b, g⟩ := x
  have h' : cond (Nat.beq a c && Nat.beq b d) (some g) (findL L c d) = some e := h
  cases hb : (Nat.beq a c && Nat.beq b d) with
  | false => rw [hb] at h'; exact List.mem_cons_of_mem _ (findL_ok h')
  | true =>
   rw [hb] at h'
   cases h'
   simp only [Bool.and_eq_true] at hb
   rw [Nat.eq_of_beq_eq_true hb.1, Nat.eq_of_beq_eq_true hb.2]
   exact List.mem_cons_self
noncomputable def unA (B : List Ix) (K : Nat) (L : Tri3) (k : Nat → M Sy Value) (args : List Value) : Option (M Sy Value) := match args with
 | [a] => some (bind (lsArg B a) fun y => match vOf K y with
  | some c => match findL L c 0 with
   | some e => k e
   | none => fail
  | none => fail)
 | _ => none
noncomputable def biA (B : List Ix) (K : Nat) (L : Tri3) (k : Nat → M Sy Value) (args : List Value) : Option (M Sy Value) := match args with
 | [a, b] => some (bind (lsArg B a) fun y => bind (lsArg B b) fun z => match vOf K y with
  | some c => match vOf K z with
   | some d => match findL L c d with
    | some e => k e
    | none => fail
   | none => fail
  | none => fail)
 | _ => none
noncomputable def giveO (K : Nat) (e : Nat) : M Sy Value := newOw (.ol K (.v e) none)
noncomputable def giveT (K : Nat) (u : Value) (e : Nat) : M Sy Value := bind (newOw (.ol K (.v e) none)) fun x => ret (.tuple ⟨[x, u]⟩)
theorem loc_giveO (K e : Nat) : Loc (giveO K e) := loc_newOw _
theorem loc_giveT (K : Nat) (u : Value) (e : Nat) : Loc (giveT K u e) := loc_bind (loc_newOw _) fun _ => loc_ret _
section
variable {ρ : Env} {B : List Ix}
def UnOK (ρ : Env) (f : FuncId) (K : Nat) (L : Tri3) (Q : Nat → World → Ending → World → Prop) : Prop := ∀ c e, (c, 0, e) ∈ L → ∀ (w : World) (v : Value), LsIn K w v (ρ.lst c) → Try.prog.globals.size ≤ w.heap.size → natSig.base w → Calls Try.prog f ⟨[v]⟩ w fun en w' => Q e w en w' ∧ Below w.heap.size w w'
def BiOK (ρ : Env) (f : FuncId) (K : Nat) (L : Tri3) (Q : Nat → World → Ending → World → Prop) : Prop := ∀ c d e, (c, d, e) ∈ L → ∀ (w : World) (v u : Value), LsIn K w v (ρ.lst c) → LsIn K w u (ρ.lst d) → Try.prog.globals.size ≤ w.heap.size → natSig.base w → Calls Try.prog f ⟨[v, u]⟩ w fun en w' => Q e w en w' ∧ Below w.heap.size w w'
def QO (ρ : Env) (K : Nat) (e : Nat) (w : World) (en : Ending) (w' : World) : Prop := ∃ u, en = .returned u ∧ NewOl K w w' u (ρ.lst e)
def QT (ρ : Env) (K : Nat) (u2 : Value) (e : Nat) (w : World) (en : Ending) (w' : World) : Prop := ∃ u, en = .returned (.tuple ⟨[u, u2]⟩) ∧ NewOl K w w' u (ρ.lst e)
theorem giveO_ok {K e : Nat} {f : FuncId} {args' : List Value} {h h' : Tr (Blk Sy)} {nx nx' : Nat} {R W : List Nat} {r : Ren} {w : World} {v : Value} (e1 : giveO K e h nx = .ok v h' nx' R W) (hM : Mod (symSig ρ) r h.get w) (hN : New r nx nx')
  (c : Calls Try.prog f ⟨args'⟩ w fun en w' => QO ρ K e w en w' ∧ Below w.heap.size w w') : Calls Try.prog f ⟨args'⟩ w fun e w' => ∃ v' r', e = .returned v' ∧ VR r' v v' ∧ Ext (symSig ρ) r w nx nx' W h'.get r' w' :=
 goes_ow (l := .v e) e1 hM hN (c.mono fun en w' hh => by
  obtain ⟨⟨u, q1, q2⟩, q3⟩ := hh
  exact ⟨u, q1, q2, q3⟩)
theorem giveT_ok {K e : Nat} {u2 : Value} (hp : plain u2 = true) {f : FuncId} {args' : List Value} {h h' : Tr (Blk Sy)} {nx nx' : Nat} {R W : List Nat} {r : Ren} {w : World} {v : Value} (e1 : giveT K u2 e h nx = .ok v h' nx' R W) (hM : Mod (symSig ρ) r h.get w) (hN : New r nx nx')
  (c : Calls Try.prog f ⟨args'⟩ w fun en w' => QT ρ K u2 e w en w' ∧ Below w.heap.size w w') : Calls Try.prog f ⟨args'⟩ w fun e w' => ∃ v' r', e = .returned v' ∧ VR r' v v' ∧ Ext (symSig ρ) r w nx nx' W h'.get r' w' :=
 goes_owT (l := .v e) hp e1 hM hN (c.mono fun en w' hh => by
  obtain ⟨⟨u, q1, q2⟩, q3⟩ := hh
  exact ⟨u, q1, q2, q3⟩)
theorem unA_ok (hB : AllX ρ B) {f : FuncId} {K : Nat} {L : Tri3} {k : Nat → M Sy Value} {Q : Nat → World → Ending → World → Prop} (hl : ∀ e, Loc (k e)) (hf : UnOK ρ f K L Q)
  (hk : ∀ e (args' : List Value) (h : Tr (Blk Sy)) nx v h' nx' R W r w, k e h nx = .ok v h' nx' R W → Mod (symSig ρ) r h.get w → New r nx nx' → (Calls Try.prog f ⟨args'⟩ w fun en w' => Q e w en w' ∧ Below w.heap.size w w') →
   Calls Try.prog f ⟨args'⟩ w fun e w' => ∃ v' r', e = .returned v' ∧ VR r' v v' ∧ Ext (symSig ρ) r w nx nx' W h'.get r' w') : SumF (symSig ρ) Try.prog f (unA B K L k) := by
 intro args m hm
 rcases args with _ | ⟨a, _ | ⟨b, l⟩⟩ <;> first | (cases (show none = some m from hm); done) | skip
 cases hm
 refine ⟨loc_bind (loc_lsArg _ _) fun y => ?_, fun h nx v h' nx' R W e r w args' hv hM hN => ?_⟩
 ·(repeat' split) <;> first | exact loc_fail | exact hl _
 cases hv with
 | cons h1 h2 =>
  cases h2
  obtain ⟨y, g1, nx1, R1, W1, R2, W2, e1, e2, rfl, rfl⟩ := bind_ok e
  obtain ⟨rfl, rfl, rfl, hls⟩ := lsArg_ok hB e1 h1 hM
  cases hy : vOf K y with
  | none => rw [hy] at e2; cases (show (fail : M Sy Value) _ _ = _ from e2)
  | some c =>
   rw [hy] at e2; simp only at e2
   cases hc : findL L c 0 with
   | none => rw [hc] at e2; cases (show (fail : M Sy Value) _ _ = _ from e2)
   | some d =>
    rw [hc] at e2
    obtain rfl := vOf_ok hy
    have := hk d _ _ _ _ _ _ _ _ _ _ e2 hM hN (hf c d (findL_ok hc) w _ hls hM.fits hM.base)
    simp only [List.nil_append]
    exact this
theorem biA_ok (hB : AllX ρ B) {f : FuncId} {K : Nat} {L : Tri3} {k : Nat → M Sy Value} {Q : Nat → World → Ending → World → Prop} (hl : ∀ e, Loc (k e)) (hf : BiOK ρ f K L Q)
  (hk : ∀ e (args' : List Value) (h : Tr (Blk Sy)) nx v h' nx' R W r w, k e h nx = .ok v h' nx' R W → Mod (symSig ρ) r h.get w → New r nx nx' → (Calls Try.prog f ⟨args'⟩ w fun en w' => Q e w en w' ∧ Below w.heap.size w w') →
   Calls Try.prog f ⟨args'⟩ w fun e w' => ∃ v' r', e = .returned v' ∧ VR r' v v' ∧ Ext (symSig ρ) r w nx nx' W h'.get r' w') : SumF (symSig ρ) Try.prog f (biA B K L k) := by
 intro args m hm
 rcases args with _ | ⟨a, _ | ⟨b, _ | ⟨z, l⟩⟩⟩ <;> first | (cases (show none = some m from hm); done) | skip
 cases hm
 refine ⟨loc_bind (loc_lsArg _ _) fun y => loc_bind (loc_lsArg _ _) fun z => ?_, fun h nx v h' nx' R W e r w args' hv hM hN => ?_⟩
 ·(repeat' split) <;> first | exact loc_fail | exact hl _
 cases hv with
 | cons h1 hv => cases hv with
  | cons h2 h3 =>
   cases h3
   obtain ⟨y, g1, nx1, R1, W1, R2, W2, e1, e2, rfl, rfl⟩ := bind_ok e
   obtain ⟨rfl, rfl, rfl, hls⟩ := lsArg_ok hB e1 h1 hM
   obtain ⟨z, g3, nx3, R3, W3, R4, W4, e3, e4, rfl, rfl⟩ := bind_ok e2
   obtain ⟨rfl, rfl, rfl, hls2⟩ := lsArg_ok hB e3 h2 hM
   cases hy : vOf K y with
   | none => rw [hy] at e4; cases (show (fail : M Sy Value) _ _ = _ from e4)
   | some c =>
    rw [hy] at e4; simp only at e4
    cases hz : vOf K z with
    | none => rw [hz] at e4; cases (show (fail : M Sy Value) _ _ = _ from e4)
    | some d =>
     rw [hz] at e4; simp only at e4
     cases hc : findL L c d with
     | none => rw [hc] at e4; cases (show (fail : M Sy Value) _ _ = _ from e4)
     | some g =>
      rw [hc] at e4
      obtain rfl := vOf_ok hy
      obtain rfl := vOf_ok hz
      have := hk g _ _ _ _ _ _ _ _ _ _ e4 hM hN (hf c d g (findL_ok hc) w _ _ hls hls2 hM.fits hM.base)
      simp only [List.nil_append]
      exact this
end
end Ev
end Go.Proofs.Ytnlhjcfpfapafaa
