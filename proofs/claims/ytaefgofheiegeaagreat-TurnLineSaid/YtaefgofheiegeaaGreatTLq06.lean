/- Contracts. -/
import Derived.Test.YtaefgofheiegeaaGreatTLq05
import Derived.Test.YtaefgofheiegeaaGreatTLq04
import Derived.Deep.AppendSrc
import Derived.Laws.AppendOwn
import Derived.Laws.Slices
import Derived.Laws.Cover3
import Derived.Laws.Pointers
namespace Go.Proofs.YtaefgofheiegeaaGreat
open Go
namespace Ev
section
variable {F : Type} {S : Sig F} {P : Program} {C : Cfg F}
structure SumOK (S : Sig F) (P : Program) (sum : Sums F) : Prop where
  loc : ∀ f args m, sum f args = some m → Loc m
  run : ∀ f args m, sum f args = some m → ∀ h nx v h' nx' R W, Run m h nx v h' nx' R W → ∀ (r : Ren) (w : World) (args' : List Value), VsR r args args' → Mod S r h.get w → New r nx nx' →
    Calls P f ⟨args'⟩ w fun e w' => ∃ v' r', e = .returned v' ∧ VR r' v v' ∧ Ext S r w nx nx' W h'.get r' w'
theorem initT_get : ∀ (l : List Value) (i : Nat) (t : Tr Value) (k : Nat), (initT l i t).get k = if i ≤ k ∧ k < i + l.length then l[k - i]? else t.get k
  | [], i, t, k => by
    show t.get k = _
    rw [if_neg (by simp)]
  | v :: l, i, t, k => by
    show (initT l (i + 1) (t.set i v)).get k = _
    rw [initT_get l (i + 1) (t.set i v) k, Tr.get_set]
    simp only [List.length_cons]
    by_cases h1 : k = i
    · subst h1
      rw [if_neg (by omega), if_pos rfl, if_pos (by omega), Nat.sub_self]
      rfl
    · rw [if_neg h1]
      by_cases h2 : i + 1 ≤ k ∧ k < i + 1 + l.length
      · rw [if_pos h2, if_pos (by omega), show k - i = (k - (i + 1)) + 1 by omega]
        rfl
      · rw [if_neg h2, if_neg (by omega)]
theorem init_tr {r : Ren} {args args' : List Value} (ha : VsR r args args') (n : Nat) : TR r (initT args 0 .nil) { tmps := ⟨args'⟩ ++ Array.replicate n undef, defers := [] } := by
  intro (t : Nat)
  show VR r (((initT args 0 .nil).get t).getD undef) (((⟨args'⟩ : Array Value) ++ Array.replicate n undef).getD t undef)
  rw [initT_get, Array.getD_eq_getD_getElem?, Array.getElem?_append]
  have hl := ha.length
  by_cases h : t < args.length
  · rw [if_pos (by omega), if_pos (by simp; omega), Nat.sub_zero]
    have h1 : args[t]? = some args[t] := List.getElem?_eq_getElem h
    obtain ⟨v', hv', hr⟩ := ha.get h1
    rw [h1]
    simp only [List.getElem?_toArray, hv', Option.getD_some]
    exact hr
  · rw [if_neg (by omega), if_neg (by simp; omega)]
    have : (Array.replicate n undef)[t - (⟨args'⟩ : Array Value).size]?.getD undef = undef := by
      rw [Array.getElem?_replicate]
      split <;> rfl
    rw [this, Tr.get_nil]
    exact vr_undef
theorem loc_resA (P : Program) (ts : Tr Value) : ∀ l : List ResultVar, Loc (resA P ts l : M F (List Value))
  | [] => loc_ret _
  | .tmp t :: l => loc_bind (loc_resA P ts l) fun _ => loc_ret _
  | .cell a t :: l => loc_bind (loc_loadA P _ _) fun _ => loc_bind (loc_resA P ts l) fun _ => loc_ret _
theorem resA_ok {ts : Tr Value} {a : Act} {r : Ren} {w : World} (hT : TR r ts a) : ∀ (l : List ResultVar) {h h' : Tr (Blk F)} {nx nx' : Nat} {R W : List Nat} {vs : List Value}, (resA P ts l : M F _) h nx = .ok vs h' nx' R W → Mod S r h.get w →
    h' = h ∧ nx' = nx ∧ W = [] ∧ ∃ vs', (l.mapM (fun (x : ResultVar) => match x with
      | .tmp t => (pure (a.tmps.getD t undef) : Sem Value)
      | .cell b t => do loadVar t (← asAddr (a.tmps.getD b undef)))).run P w = .ok vs' w ∧ VsR r vs vs'
  | [], h, h', nx, nx', R, W, vs, e, hM => by
    obtain ⟨rfl, rfl, rfl, rfl⟩ := ret_ok (show (ret [] : M F _) h nx = _ from e)
    exact ⟨rfl, rfl, rfl, [], by simp, .nil⟩
  | .tmp t :: l, h, h', nx, nx', R, W, vs, e, hM => by
    obtain ⟨us, h1, nx1, R1, W1, R2, W2, e1, e2, rfl, rfl⟩ := bind_ok (show (bind (resA P ts l) fun vs => ret (opd ts (.tmp t) :: vs) : M F _) h nx = _ from e)
    obtain ⟨rfl, rfl, rfl, rfl⟩ := ret_ok e2
    obtain ⟨rfl, rfl, rfl, us', hrun, hr⟩ := resA_ok hT l e1 hM
    refine ⟨rfl, rfl, rfl, a.tmps.getD t undef :: us', ?_, .cons (hT t) hr⟩
    rw [List.mapM_cons]
    simp only [Sem.run_bind, Sem.run_pure, Result.andThen_ok, hrun]
  | .cell b t :: l, h, h', nx, nx', R, W, vs, e, hM => by
    obtain ⟨v, h1, nx1, R1, W1, R2, W2, e1, e2, rfl, rfl⟩ := bind_ok (show (bind (loadA P t (opd ts (.tmp b))) fun v => bind (resA P ts l) fun vs => ret (v :: vs) : M F _) h nx = _ from e)
    obtain ⟨us, h2, nx2, R3, W3, R4, W4, e3, e4, rfl, rfl⟩ := bind_ok e2
    obtain ⟨rfl, rfl, rfl, rfl⟩ := ret_ok e4
    obtain ⟨rfl, rfl, rfl, v', ad, hp, hl, hv⟩ := load_ok e1 hM (hT b)
    obtain ⟨rfl, rfl, rfl, us', hrun, hr⟩ := resA_ok hT l e3 hM
    refine ⟨rfl, rfl, rfl, v' :: us', ?_, .cons hv hr⟩
    rw [List.mapM_cons]
    have hp' : a.tmps.getD b undef = .pointer (some ad) := hp
    have hpa : (asAddr (a.tmps.getD b undef)).run P w = .ok ad w := by rw [hp']; rfl
    simp only [Sem.run_bind, Sem.run_pure, Result.andThen_ok, hpa, hl, hrun]
noncomputable def resK (P : Program) (fn : Func) (x : Ex × Tr Value) : M F Value := match x.1 with
  | .exit _ => fail
  | .normal => bind (resA P x.2 fn.results.toList) fun vs => ret (oneOf vs)
  | .ret => bind (resA P x.2 fn.results.toList) fun vs => ret (oneOf vs)
theorem loc_resK (P : Program) (fn : Func) (x : Ex × Tr Value) : Loc (resK P fn x : M F Value) := by
  unfold resK
  split
  · exact loc_fail
  · exact loc_bind (loc_resA P _ _) fun _ => loc_ret _
  · exact loc_bind (loc_resA P _ _) fun _ => loc_ret _
theorem callY_succ (sum : Sums F) (n : Nat) (ys : Ylds F) (f : FuncId) (args : List Value) : callY P C sum (n + 1) ys f args = match sum f args with
    | some s => s
    | none => match C.tab f with
      | none => fail
      | some fn => match fn.body with
        | none => fail
        | some c => cond (Nat.ble args.length fn.ntmps) (bind (code P C ⟨callY P C sum n, ys, C.jmp f⟩ fn.ntmps n c (initT args 0 .nil)) (resK P fn)) fail := rfl
theorem results_ok {fn : Func} {ts : Tr Value} {a : Act} {r : Ren} {w : World} {h h' : Tr (Blk F)} {nx nx' : Nat} {R W : List Nat} {v : Value} (e : (bind (resA P ts fn.results.toList) fun vs => ret (oneOf vs) : M F Value) h nx = .ok v h' nx' R W) (hT : TR r ts a) (hM : Mod S r h.get w) :
    h' = h ∧ nx' = nx ∧ W = [] ∧ ∃ v', (results fn a.tmps).run P w = .ok v' w ∧ VR r v v' := by
  obtain ⟨vs, h1, nx1, R1, W1, R2, W2, e1, e2, rfl, rfl⟩ := bind_ok e
  obtain ⟨rfl, rfl, rfl, rfl⟩ := ret_ok e2
  obtain ⟨rfl, rfl, rfl, vs', hrun, hr⟩ := resA_ok hT _ e1 hM
  refine ⟨rfl, rfl, rfl, ?_⟩
  have hmap : (fn.results.mapM (fun (x : ResultVar) => match x with
      | .tmp t => (pure (a.tmps.getD t undef) : Sem Value)
      | .cell b t => do loadVar t (← asAddr (a.tmps.getD b undef)))).run P w = .ok vs'.toArray w := by
    rw [Array.mapM_eq_mapM_toList]
    simp only [Sem.run_map, hrun, Result.andThen_ok]
  have hres : results fn a.tmps = (fn.results.mapM (fun (x : ResultVar) => match x with
      | .tmp t => (pure (a.tmps.getD t undef) : Sem Value)
      | .cell b t => do loadVar t (← asAddr (a.tmps.getD b undef))) >>= fun vs => pure (if h : vs.size = 1 then vs[0] else .tuple vs)) := by
    unfold results
    congr 1
  rw [hres]
  have hlen := hr.length
  rcases vs with _ | ⟨u, _ | ⟨u2, us⟩⟩
  · have : vs' = [] := List.eq_nil_of_length_eq_zero (by simpa using hlen)
    subst this
    refine ⟨.tuple #[], ?_, .tuple .nil⟩
    rw [Sem.run_bind, hmap]
    rfl
  · rcases vs' with _ | ⟨u', _ | ⟨_, _⟩⟩
    · simp at hlen
    · cases hr with
      | cons h1 h2 =>
        refine ⟨u', ?_, h1⟩
        rw [Sem.run_bind, hmap]
        rfl
    · simp at hlen
  · refine ⟨.tuple vs'.toArray, ?_, .tuple hr⟩
    rw [Sem.run_bind, hmap]
    simp only [Result.andThen_ok]
    rw [dif_neg (by simp; rw [hlen]; simp)]
    rfl
theorem Ext.putObj {r r' : Ren} {w w' : World} {lo hi l : Nat} {W : List Nat} {g : Nat → Option (Blk F)} (h : Ext S r w lo hi W g r' w') (hl : ∀ c t z, w'.heap[l]? ≠ some (.cells c t z)) (hlo : ∀ L, w'.heap[l]? ≠ some (.loop L)) (hG : S.G ≤ l) (hw : w.heap.size ≤ l) (o : Obj) : Ext S r w lo hi W g r' (w'.putObj l o) :=
  ⟨h.le, h.mod.putObj' hl hlo hG o, h.dom, h.new, fun b o' hb hn => by
    have := (Array.getElem?_eq_some_iff.1 hb).1
    rw [World.putObj_heap_other (by omega)]; exact h.keep b o' hb hn, by rw [World.putObj_size]; exact h.size, h.os, h.tape, h.output, ⟨fun b L hb => by
    obtain ⟨L', q1, q2⟩ := h.loops.lp b L hb
    have := (Array.getElem?_eq_some_iff.1 hb).1
    exact ⟨L', by rw [World.putObj_heap_other (by omega)]; exact q1, q2⟩, fun b c t z hb => by
    obtain ⟨c2, q1, q2⟩ := h.loops.sh b c t z hb
    have := (Array.getElem?_eq_some_iff.1 hb).1
    exact ⟨c2, by rw [World.putObj_heap_other (by omega)]; exact q1, q2⟩⟩⟩
theorem Marks.shut {B0 D : Nat} : ∀ {ds : List Deferred} {r : Ren} {w : World}, Marks S B0 ds r w → (∀ e ∈ ds, e.target ≠ .collected D) → ∀ o, Marks S B0 ds r (w.putObj D o)
  | [], _, _, h, _, _ => by show B0 ≤ _; rw [World.putObj_size]; exact h
  | d :: ds, _, _, ⟨h, D', h1, h2, h3⟩, hn, o => ⟨Marks.shut h (fun e he => hn e (List.mem_cons_of_mem _ he)) o, D', h1, by
      rw [World.putObj_heap_other (fun q => hn d List.mem_cons_self (by rw [h1, q]))]; exact h2, h3⟩
theorem leaves_ok {fn : Func} {tmps : Array Value} {v : Value} {r r' : Ren} {w : World} {lo hi : Nat} {W : List Nat} {g : Nat → Option (Blk F)} (hres : ∀ w2, Mod S r' g w2 → ∃ v', (results fn tmps).run P w2 = .ok v' w2 ∧ VR r' v v') :
    ∀ (ds : List Deferred) (w1 : World), Marks S w.heap.size ds r' w1 → Ext S r w lo hi W g r' w1 → LeavesInM Fence.wide 0 P fn tmps (fun e w' => ∃ v' r'', e = .returned v' ∧ VR r'' v v' ∧ Ext S r w lo hi W g r'' w') ds .returning w1
  | [], w1, _, hX => by
    obtain ⟨v', h1, h2⟩ := hres w1 hX.mod
    exact ⟨v', h1, v', r', rfl, h2, hX⟩
  | d :: ds, w1, ⟨hm, D, h1, h2, h3, h4, h5, h6⟩, hX => by
    refine ⟨by simp, .inl ⟨D, _, by rw [h1], run_takeDeferred h2, ?_⟩⟩
    exact leaves_ok hres ds _ (hm.shut h6 _) (hX.putObj (fun c t z q => by rw [h2] at q; cases q) (fun L q => by rw [h2] at q; cases q) h4 h5 _)
theorem callY_ok [HardLoc C] (hF : Fits S P C) (hJ : JmpAll S P C) {sum : Sums F} (hs : SumOK S P sum) : ∀ n, (∀ ys, YLoc ys → ∀ f args, Loc (callY P C sum n ys f args)) ∧ ∀ ys f args h nx v h' nx' R W, YLoc ys → Run (callY P C sum n ys f args) h nx v h' nx' R W →
    ∀ (r : Ren) (w : World) (args' : List Value), VsR r args args' → Mod S r h.get w → New r nx nx' → YOK S P ys r w → Calls P f ⟨args'⟩ w fun e w' => ∃ v' r', e = .returned v' ∧ VR r' v v' ∧ Ext S r w nx nx' W h'.get r' w'
  | 0 => ⟨fun _ _ _ _ => loc_fail, fun ys f args h nx v h' nx' R W _ e => (show Run (fail : M F _) _ _ _ _ _ _ _ from e).no.elim⟩
  | n + 1 => by
    have ih := callY_ok hF hJ hs n
    have hcl : ∀ f ys, YLoc ys → ClOK S P ⟨callY P C sum n, ys, C.jmp f⟩ := fun f ys hy => ⟨⟨ih.1, hy, hJ.loc f⟩, ih.2⟩
    refine ⟨fun ys hy f args => ?_, fun ys f args h nx v h' nx' R W hy e r w args' ha hM hN hY => ?_⟩
    · rw [callY_succ]
      cases hsum : sum f args with
      | some s => exact hs.loc _ _ _ hsum
      | none =>
        simp only
        cases C.tab f with
        | none => exact loc_fail
        | some fn =>
          simp only
          cases fn.body with
          | none => exact loc_fail
          | some c => exact loc_cond (loc_bind (loc_code P C _ _ (hcl f ys hy).loc c _) (loc_resK P fn)) loc_fail
    · rw [callY_succ] at e
      cases hsum : sum f args with
      | some s => rw [hsum] at e; exact hs.run _ _ _ hsum _ _ _ _ _ _ _ e r w args' ha hM hN
      | none =>
        rw [hsum] at e; simp only at e
        cases ht : C.tab f with
        | none => rw [ht] at e; exact e.no.elim
        | some fn =>
          rw [ht] at e; simp only at e
          cases hb : fn.body with
          | none => rw [hb] at e; exact e.no.elim
          | some c =>
            rw [hb] at e; simp only at e
            obtain ⟨hle, e⟩ := e.cond
            have hle2 := Nat.le_of_ble_eq_true hle
            obtain ⟨⟨ex, ts⟩, h1, nx1, R1, W1, R2, W2, e1, e2, rfl, rfl, l1, l2⟩ := e.bind (loc_code P C _ _ (hcl f ys hy).loc c _) (loc_resK P fn)
            have hlen := ha.length
            refine (callsIn_wide (n := 0)).1 (callsIn_of_wp_marks (hF.tab f fn ht).1 hb trivial (code_ok hF (hcl f ys hy) c (fun x hx m => hJ.ok f fn c x m ht hb hx) e1 (ro := none) (d := 0) (B0 := w.heap.size) hM (hN.sub (Nat.le_refl _) l2) ⟨init_tr ha _, by simp; omega, Nat.le_refl _, fun l hl => (by cases hl), hY, .nil⟩ _ fun a' r' w' hS' hX => ?_))
            have fin : (bind (resA P ts fn.results.toList) fun vs => ret (oneOf vs) : M F Value) h1 nx1 = .ok v h' nx' R2 W2 → LeavesInM Fence.wide 0 P fn a'.tmps (fun e w' => ∃ v' r', e = .returned v' ∧ VR r' v v' ∧ Ext S r w nx nx' (W1 ++ W2) h'.get r' w') a'.defers .returning w' := fun e3 => by
              obtain ⟨rfl, rfl, rfl, -⟩ := results_ok e3 hS'.T hX.mod
              refine leaves_ok (fun w2 hM2 => ?_) _ _ hS'.marks (by simpa using hX)
              obtain ⟨-, -, -, v', q1, q2⟩ := results_ok e3 hS'.T hM2
              exact ⟨v', q1, q2⟩
            cases ex with
            | exit i => exact (show Run (fail : M F _) _ _ _ _ _ _ _ from e2).no.elim
            | normal => exact fin (show Run (bind (resA P ts fn.results.toList) fun vs => ret (oneOf vs) : M F Value) _ _ _ _ _ _ _ from e2).ok
            | ret => exact fin (show Run (bind (resA P ts fn.results.toList) fun vs => ret (oneOf vs) : M F Value) _ _ _ _ _ _ _ from e2).ok
theorem call_ok [HardLoc C] (hF : Fits S P C) {sum : Sums F} (hs : SumOK S P sum) (n : Nat) (hJ : JmpAll S P C := by exact .none rfl) : CallOK S P (call P C sum n) :=
  ⟨(callY_ok hF hJ hs n).1 [] (by intro x hx; simp at hx), fun f args h nx v h' nx' R W e r w args' ha hM hN => (callY_ok hF hJ hs n).2 [] f args h nx v h' nx' R W (by intro x hx; simp at hx) e r w args' ha hM hN trivial⟩
end
end Ev
end Go.Proofs.YtaefgofheiegeaaGreat
namespace Go.Proofs.YtaefgofheiegeaaGreat
open Go
namespace Ev
section
variable {F : Type} (P : Program) (C : Cfg F)
noncomputable def isStrTm (t : TypeId) : Bool := match P.underlying t with
  | some d => match d with
    | .string => true
    | _ => false
  | none => false
noncomputable def rowO (b off n : Nat) : M F (List Value) := bind (rdAny b) fun y => match getRow y.1 off n with
  | some l => cond (plainL isOne l) (ret l) fail
  | none => fail
noncomputable def rowsO (base : Option (Nat × Nat)) (n size : Nat) : M F (List Value) := match base with
  | some x => rowO x.1 x.2 (n * size)
  | none => cond (Nat.beq n 0) (ret []) fail
noncomputable def srcO (size : Nat) (tx : TypeId) (x : Value) : M F (Nat × List Value) := match sliceOf x with
  | some y => match sliceT P tx with
    | some _ => bind (rowsO y.1 y.2.1 size) fun l => ret (y.2.1, l)
    | none => fail
  | none => match x with
    | .string s => cond (Nat.beq size 1 && isStrTm P tx) (ret (s.size, byteCells s)) fail
    | _ => fail
noncomputable def roomB (bytes k : Nat) : Bool := Nat.ble (k * bytes) 1048576 && Nat.ble k 1048576
noncomputable def decN (o : Option Value) : Option (Option Nat) := match o with
  | some v => match natVal v with
    | some n => some (some n)
    | none => none
  | none => some none
noncomputable def orN (o : Option Nat) (d : Nat) : Nat := match o with
  | some n => n
  | none => d
noncomputable def cutO (s b off l h m : Nat) : M F Nxt := cond (Nat.ble l h && Nat.ble h m) (val (vslice b (cond (Nat.beq m l) off (off + l * s)) (h - l) (m - l))) fail
noncomputable def slcA (s : Nat) (a : Nat × Nat) (n c : Nat) (lo hi mx : Option Nat) : M F Nxt := match mx with
  | some m => cond (Nat.ble m (cond (Nat.ble capX c) (Nat.mod c capX) c)) (match hi with
    | some h => cond (Nat.ble m (capX - 1)) (cutO s a.1 a.2 (orN lo 0) h m) fail
    | none => fail) fail
  | none => cond (Nat.ble capX c)
    (cond (Nat.beq (Nat.div c capX) (Nat.succ s) && Nat.ble (orN lo 0) (orN hi n) && Nat.ble (orN hi n) (Nat.mod c capX))
      (cond (Nat.beq (orN lo 0) 0) (val (vslice a.1 a.2 (orN hi n) c)) (cond (Nat.ble (Nat.succ (orN lo 0)) (Nat.mod c capX)) (val (vslice a.1 (a.2 + orN lo 0 * s) (orN hi n - orN lo 0) (c - orN lo 0))) fail)) fail)
    (cutO s a.1 a.2 (orN lo 0) (orN hi n) c)
noncomputable def slcO (t : TypeId) (v : Value) (lo hi mx : Option Value) : M F Nxt := match sliceT P t with
  | some e => match sizeT P e with
    | some s => match sliceOf v with
      | some y => match y.1 with
        | some a => match decN lo with
          | some lo => match decN hi with
            | some hi => match decN mx with
              | some mx => slcA s a y.2.1 y.2.2 lo hi mx
              | none => fail
            | none => fail
          | none => fail
        | none => fail
      | none => fail
    | none => fail
  | none => fail
noncomputable def twoM {α : Type} (l : List α) : Option (α × α) := match l with
  | a :: l => match l with
    | b :: l => match l with
      | [] => some (a, b)
      | _ :: _ => none
    | [] => none
  | [] => none
noncomputable def sliceH (t : TypeId) (vs : List Value) (lo hi mx : Bool) : M F Nxt := match vs with
  | v :: l => match lo, l with
    | true, a :: l => match hi, l with
      | true, b :: l => match mx, l with
        | true, [c] => slcO P t v (some a) (some b) (some c)
        | false, [] => slcO P t v (some a) (some b) none
        | _, _ => fail
      | false, [] => cond mx fail (slcO P t v (some a) none none)
      | _, _ => fail
    | false, l => match hi, l with
      | true, b :: l => match mx, l with
        | true, [c] => slcO P t v none (some b) (some c)
        | false, [] => slcO P t v none (some b) none
        | _, _ => fail
      | false, [] => cond mx fail (slcO P t v none none none)
      | _, _ => fail
    | _, _ => fail
  | [] => fail
noncomputable def oneM {α : Type} (l : List α) : Option α := match l with
  | a :: l => match l with
    | [] => some a
    | _ :: _ => none
  | [] => none
noncomputable def memHard (_ : Cfg F) (o : Oper) (vs : List Value) : M F Nxt := match o.op with
  | .slice t _ lo hi mx => sliceH P t vs lo.isSome hi.isSome mx.isSome
  | _ => fail
theorem loc_rowO (b off n : Nat) : Loc (rowO b off n : M F (List Value)) := loc_bind (loc_rdAny _) fun y => by
  split
  · exact loc_cond (loc_ret _) loc_fail
  · exact loc_fail
theorem loc_rowsO (base : Option (Nat × Nat)) (n size : Nat) : Loc (rowsO base n size : M F (List Value)) := by
  unfold rowsO
  split
  · exact loc_rowO _ _ _
  · exact loc_cond (loc_ret _) loc_fail
theorem loc_srcO (size : Nat) (tx : TypeId) (x : Value) : Loc (srcO P size tx x : M F (Nat × List Value)) := by
  unfold srcO
  (repeat' split) <;> first | exact loc_fail | exact loc_bind (loc_rowsO _ _ _) fun _ => loc_ret _ | exact loc_cond (loc_ret _) loc_fail
theorem loc_cutO (s b off l h m : Nat) : Loc (cutO s b off l h m : M F Nxt) := loc_cond (loc_val _) loc_fail
theorem loc_slcA (s : Nat) (a : Nat × Nat) (n c : Nat) (lo hi mx : Option Nat) : Loc (slcA s a n c lo hi mx : M F Nxt) := by
  unfold slcA
  split
  · refine loc_cond ?_ loc_fail
    split
    · exact loc_cond (loc_cutO _ _ _ _ _ _) loc_fail
    · exact loc_fail
  · exact loc_cond (loc_cond (loc_cond (loc_val _) (loc_cond (loc_val _) loc_fail)) loc_fail) (loc_cutO _ _ _ _ _ _)
theorem loc_slcO (t : TypeId) (v : Value) (lo hi mx : Option Value) : Loc (slcO P t v lo hi mx : M F Nxt) := by
  unfold slcO
  (repeat' split) <;> first | exact loc_fail | exact loc_slcA _ _ _ _ _ _ _
theorem loc_sliceH (t : TypeId) (vs : List Value) (lo hi mx : Bool) : Loc (sliceH P t vs lo hi mx : M F Nxt) := by
  unfold sliceH
  (repeat' split) <;> first | exact loc_fail | exact loc_slcO _ _ _ _ _ _ | exact loc_cond loc_fail (loc_slcO _ _ _ _ _ _)
theorem loc_memHard (o : Oper) (vs : List Value) : Loc (memHard P C o vs) := by
  unfold memHard
  (repeat' split) <;> first | exact loc_fail | exact loc_sliceH _ _ _ _ _ _
end
section
variable {F : Type} {S : Sig F} {P : Program} {C : Cfg F}
variable {h h' : Tr (Blk F)} {nx nx' : Nat} {R W : List Nat} {r : Ren} {w : World} {x : Nxt}
theorem slice_cases {b off l c : Nat} {v' : Value} (h : VR r (vslice b off l c) v') : ∃ b' c', r.blk b = some b' ∧ v' = vslice b' off l c' ∧
    ((c < capX ∧ c' = c) ∨ ∃ s c0, c = capX * (s + 1) + c0 ∧ c0 < capX ∧ c0 ≤ c' ∧ off + c' * s ≤ r.len b) := by
  unfold vslice at h
  cases h with
  | same p => simp [plain] at p
  | slice hb hc => exact ⟨_, _, hb, rfl, .inl ⟨hc, rfl⟩⟩
  | slicex hb hc h1 h2 => exact ⟨_, _, hb, rfl, .inr ⟨_, _, rfl, hc, h1, h2⟩⟩
theorem rowO_ok {b off n : Nat} {l : List Value} {b' : Nat} (e : (rowO b off n : M F _) h nx = .ok l h' nx' R W) (hM : Mod S r h.get w) (hb : r.blk b = some b') :
    h' = h ∧ nx' = nx ∧ W = [] ∧ l.length = n ∧ ∃ l', VsR r l l' ∧ (∀ u ∈ l', u.oneCell' = true) ∧ ∀ j u, l'[j]? = some u → w.cell? ⟨b', off + j, none⟩ = some u := by
  unfold rowO at e
  obtain ⟨y, h1, nx1, R1, W1, R2, W2, e1, e2, rfl, rfl⟩ := bind_ok e
  obtain ⟨hg, rfl, rfl, rfl⟩ := rdAny_ok e1
  cases hr : getRow y.1 off n with
  | none => rw [hr] at e2; simp [fail] at e2
  | some l2 =>
    rw [hr] at e2
    obtain ⟨hk, e3⟩ := cond_ok e2
    obtain ⟨rfl, rfl, rfl, rfl⟩ := ret_ok e3
    obtain ⟨rfl, hl⟩ := getRow_ok hr
    obtain ⟨b3, c', hb3, hh, hc, -⟩ := hM.any hg
    obtain rfl : b3 = b' := by rw [hb] at hb3; injection hb3 with e; exact e.symm
    have hsg := pre_seg hc hl
    refine ⟨rfl, rfl, rfl, hl, _, hsg, hsg.ones hk, fun j u hj => ?_⟩
    simp only [World.cell?, hh]
    rw [List.getElem?_take] at hj
    split at hj
    · rw [List.getElem?_drop] at hj; simpa using hj
    · cases hj
theorem rowsO_ok {v' : Value} {base : Option (Nat × Nat)} {n k c size : Nat} {l : List Value} (e : (rowsO base n size : M F _) h nx = .ok l h' nx' R W) (hM : Mod S r h.get w)
    (hv : VR r (.slice (base.map fun y => ⟨y.1, y.2, none⟩) k c) v') : h' = h ∧ nx' = nx ∧ W = [] ∧ l.length = n * size ∧ ∃ a' c' l', v' = .slice a' k c' ∧ VsR r l l' ∧ (∀ u ∈ l', u.oneCell' = true) ∧
      (match a' with | some a => ∀ j u, l'[j]? = some u → w.cell? (a.add j) = some u | none => n = 0 ∧ l' = []) := by
  cases base with
  | none =>
    unfold rowsO at e
    obtain ⟨hk, e3⟩ := cond_ok e
    obtain ⟨rfl, rfl, rfl, rfl⟩ := ret_ok e3
    obtain rfl := Nat.eq_of_beq_eq_true hk
    obtain rfl := VR.nilslc hv
    exact ⟨rfl, rfl, rfl, by simp, none, c, [], rfl, .nil, by simp, rfl, rfl⟩
  | some y =>
    obtain ⟨b, off⟩ := y
    obtain ⟨b', c', hb, rfl, -⟩ := slice_cases (b := b) (off := off) hv
    obtain ⟨rfl, rfl, rfl, hl, l', h1, h2, h3⟩ := rowO_ok (show (rowO b off (n * size) : M F _) h nx = _ from e) hM hb
    exact ⟨rfl, rfl, rfl, hl, _, c', l', rfl, h1, h2, fun j u hj => by rw [add_off]; exact h3 j u hj⟩
theorem byteCells_plain (s : ByteArray) : VsR r (byteCells s) (byteCells s) := by
  unfold byteCells
  generalize s.data.toList = l
  induction l with
  | nil => exact .nil
  | cons a l ih => exact .cons (.same rfl) ih
theorem isStrT_of {t : TypeId} (h : isStrTm P t = true) : P.underlying t = some .string := by
  unfold isStrTm at h
  (repeat' split at h) <;> first | (cases h; done) | assumption
theorem srcO_ok {size : Nat} {tx : TypeId} {v v' : Value} {s : Nat × List Value} (e : srcO P size tx v h nx = .ok s h' nx' R W) (hM : Mod S r h.get w) (hv : VR r v v') :
    h' = h ∧ nx' = nx ∧ W = [] ∧ ∃ l', Src P size tx v' s.1 l' w ∧ VsR r s.2 l' := by
  unfold srcO at e
  cases hs : sliceOf v with
  | some y =>
    rw [hs] at e; simp only at e
    cases ht : sliceT P tx with
    | none => rw [ht] at e; simp [fail] at e
    | some el =>
      rw [ht] at e; simp only at e
      obtain ⟨l, h1, nx1, R1, W1, R2, W2, e1, e2, rfl, rfl⟩ := bind_ok e
      obtain ⟨rfl, rfl, rfl, rfl⟩ := ret_ok e2
      rw [sliceOf_of hs] at hv
      obtain ⟨rfl, rfl, rfl, hl, a', c', l', rfl, g1, g2, g3⟩ := rowsO_ok e1 hM hv
      refine ⟨rfl, rfl, by simp, l', ?_, g1⟩
      cases a' with
      | none => obtain ⟨g4, rfl⟩ := g3; rw [show y.2.1 = 0 from g4]; exact Src.ofNil w (sliceT_of ht) _
      | some a => exact Src.ofSlice w (sliceT_of ht) a _ _ l' (by rw [g1.length, hl]) g3 g2
  | none =>
    rw [hs] at e; simp only at e
    cases v with
    | string t =>
      simp only at e
      obtain ⟨hk, e3⟩ := cond_ok e
      obtain ⟨rfl, rfl, rfl, rfl⟩ := ret_ok e3
      simp only [Bool.and_eq_true] at hk
      obtain rfl := Nat.eq_of_beq_eq_true hk.1
      obtain rfl := hv.str
      exact ⟨rfl, rfl, rfl, _, Src.ofString w (isStrT_of hk.2) t, byteCells_plain t⟩
    | _ => simp [fail] at e
theorem run_room {t tx ty e : TypeId} {i : TypeInfo} (ht : P.underlying t = some (.slice e)) (hi : P.info? e = some i) {b off sLen sCap : Nat} {x : Value} {n : Nat} {news : List Value} {w w' : World} (hs : Src P i.size tx x n news w)
    (hroom : sLen + n ≤ sCap) (hst : (storeCells ⟨b, off + sLen * i.size, none⟩ news).run P w = .ok () w') :
    (Builtin.append_ #[t, tx] ty #[.slice (some ⟨b, off, none⟩) sLen sCap, x]).run P w = .ok (.slice (some ⟨b, off, none⟩) (sLen + n) sCap) w' := by
  rcases hs.kind with ⟨e', hk⟩ | hk <;> simp [Builtin.append_, run_underlying ht, run_underlying hk, sizeOf, typeInfo, hi, hs.len, hroom, hs.cells, Addr.add_lit, hst]
theorem zero_len (z : Array Value) (n : Nat) : (Builtin.zeroCells z n).size = n * z.size := by simp [Builtin.zeroCells]
theorem fits_of {bytes k old : Nat} (h : roomB bytes k = true) (ho : old < k) : ((k : Nat) : Int) ≤ 9223372036854775807 ∧ Builtin.nextslicecap k old * bytes ≤ 281474976710656 ∧ k < capX := by
  unfold roomB at h
  simp only [Bool.and_eq_true] at h
  have h1 := Nat.le_of_ble_eq_true h.1
  have h2 := Nat.le_of_ble_eq_true h.2
  refine ⟨by omega, growslice_fits ho (by omega), by unfold capX; omega⟩
end
end Ev
end Go.Proofs.YtaefgofheiegeaaGreat
namespace Go.Proofs.YtaefgofheiegeaaGreat
open Go
namespace Ev
section
variable {F : Type} {S : Sig F} {P : Program} {C : Cfg F}
variable {h h' : Tr (Blk F)} {nx nx' : Nat} {R W : List Nat} {r : Ren} {w : World} {x : Nxt}
theorem wr_ok {b : Nat} {y : Blk F} {u : Unit} (e : (wr b y : M F Unit) h nx = .ok u h' nx' R W) : h' = h.set b y ∧ nx' = nx ∧ W = [b] := by
  unfold wr at e
  cases hg : h.get b with
  | none => rw [hg] at e; cases e
  | some z => rw [hg] at e; cases e; exact ⟨rfl, rfl, rfl⟩
theorem decN_of {o o' : Option Value} {m : Option Nat} (hd : decN o = some m) (hr : ∀ v, o = some v → ∃ v', o' = some v' ∧ VR r v v') (hn : o = none → o' = none) :
    (m = none ∧ o' = none) ∨ ∃ k n, m = some n ∧ o' = some (.int k (n : Nat)) := by
  cases o with
  | none => cases hd; exact .inl ⟨rfl, hn rfl⟩
  | some v =>
    obtain ⟨v', rfl, hv⟩ := hr v rfl
    unfold decN at hd
    simp only at hd
    cases hv2 : natVal v with
    | none => rw [hv2] at hd; cases hd
    | some n =>
      rw [hv2] at hd
      cases hd
      obtain ⟨k, rfl⟩ := natVal_of hv2
      exact .inr ⟨k, n, rfl, by rw [hv.int]⟩
theorem run_bound (k : IntKind) (n y : Nat) (code : BoundsCode) (hy : n ≤ y) (w : World) : (Instr.sliceBound (.int k (n : Nat)) y code).run P w = .ok n w := by
  rw [run_sliceBound w k (n : Int) y code (by omega) (by omega)]
  simp
theorem run_bounds {len cap : Nat} {lo hi mx : Option Nat} {lo' hi' mx' : Option Value} (h1 : (lo = none ∧ lo' = none) ∨ ∃ k n, lo = some n ∧ lo' = some (.int k (n : Nat))) (h2 : (hi = none ∧ hi' = none) ∨ ∃ k n, hi = some n ∧ hi' = some (.int k (n : Nat)))
    (h3 : (mx = none ∧ mx' = none) ∨ ∃ k n, mx = some n ∧ mx' = some (.int k (n : Nat))) (hmh : hi = none → mx = none) (a1 : orN lo 0 ≤ orN hi len) (a2 : orN hi len ≤ orN mx cap) (a3 : orN mx cap ≤ cap) (w : World) :
    (Instr.sliceBounds true len cap lo' hi' mx').run P w = .ok (orN lo 0, orN hi len, orN mx cap) w := by
  rcases h1 with ⟨rfl, rfl⟩ | ⟨k1, l, rfl, rfl⟩ <;> rcases h2 with ⟨rfl, rfl⟩ | ⟨k2, hh, rfl, rfl⟩ <;> rcases h3 with ⟨rfl, rfl⟩ | ⟨k3, m, rfl, rfl⟩ <;> simp only [orN] at a1 a2 a3 ⊢ <;>
    first
      | (cases hmh rfl; done)
      | (simp only [Instr.sliceBounds, Sem.run_bind, Sem.run_pure, Result.andThen_ok, run_bound _ _ _ _ a1, run_bound _ _ _ _ a2, run_bound _ _ _ _ a3]; done)
theorem run_cut {t e s : Nat} (ht : P.underlying t = some (.slice e)) (hs : sizeT P e = some s) {a : Option Addr} {len cap l h m : Nat} {lo' hi' mx' : Option Value} {w : World} (hb : (Instr.sliceBounds true len cap lo' hi' mx').run P w = .ok (l, h, m) w) :
    (Instr.sliceAt t (.slice a len cap) lo' hi' mx').run P w = .ok (.slice (if m = l then a else a.map (·.add (l * s))) (h - l) (m - l)) w := by
  simp [Instr.sliceAt, Instr.slice, run_underlying ht, hb, size_of hs]
theorem cutO_ok {s b off l hh m : Nat} {b' : Nat} (e : (cutO s b off l hh m : M F Nxt) h nx = .ok x h' nx' R W) (hb : r.blk b = some b') (hm : m < capX) :
    l ≤ hh ∧ hh ≤ m ∧ ∃ v, x = .val v ∧ VR r v (.slice (if m = l then some ⟨b', off, none⟩ else (some (⟨b', off, none⟩ : Addr)).map (·.add (l * s))) (hh - l) (m - l)) ∧ h' = h ∧ nx' = nx ∧ W = [] := by
  obtain ⟨hk, e2⟩ := cond_ok e
  obtain ⟨rfl, hsame⟩ := val_ok e2
  simp only [Bool.and_eq_true] at hk
  refine ⟨Nat.le_of_ble_eq_true hk.1, Nat.le_of_ble_eq_true hk.2, _, rfl, ?_, hsame⟩
  by_cases hml : m = l
  · rw [if_pos hml, show Nat.beq m l = true from by rw [hml]; exact Nat.beq_refl l]
    exact .slice hb (by omega)
  · rw [if_neg hml, show Nat.beq m l = false from by cases hq : Nat.beq m l with
      | false => rfl
      | true => exact absurd (Nat.eq_of_beq_eq_true hq) hml]
    simp only [cond_false, Option.map_some, add_off]
    exact .slice hb (by omega)
theorem slcO_ok {t : TypeId} {v v' : Value} {lo hi mx lo' hi' mx' : Option Value} (e : (slcO P t v lo hi mx : M F Nxt) h nx = .ok x h' nx' R W) (hv : VR r v v')
    (hl : ∀ v, lo = some v → ∃ v', lo' = some v' ∧ VR r v v') (hl0 : lo = none → lo' = none) (hh : ∀ v, hi = some v → ∃ v', hi' = some v' ∧ VR r v v') (hh0 : hi = none → hi' = none) (hm : ∀ v, mx = some v → ∃ v', mx' = some v' ∧ VR r v v') (hm0 : mx = none → mx' = none) :
    Just P r w x (Instr.sliceAt t v' lo' hi' mx') (h' = h ∧ nx' = nx ∧ W = []) := by
  unfold slcO at e
  cases ht : sliceT P t with
  | none => rw [ht] at e; simp [fail] at e
  | some el =>
    rw [ht] at e; simp only at e
    cases hs : sizeT P el with
    | none => rw [hs] at e; simp [fail] at e
    | some s =>
      rw [hs] at e; simp only at e
      cases hsl : sliceOf v with
      | none => rw [hsl] at e; simp [fail] at e
      | some y =>
        obtain ⟨base, n, c⟩ := y
        rw [hsl] at e; simp only at e
        cases base with
        | none => simp [fail] at e
        | some a =>
          obtain ⟨b, off⟩ := a
          simp only at e
          have hvs' : v = vslice b off n c := sliceOf_of hsl
          rw [hvs'] at hv
          obtain ⟨b', c', hb, rfl, hcc⟩ := slice_cases hv
          cases d1 : decN lo with
          | none => rw [d1] at e; simp [fail] at e
          | some lon =>
            rw [d1] at e; simp only at e
            cases d2 : decN hi with
            | none => rw [d2] at e; simp [fail] at e
            | some hin =>
              rw [d2] at e; simp only at e
              cases d3 : decN mx with
              | none => rw [d3] at e; simp [fail] at e
              | some mxn =>
                rw [d3] at e; simp only at e
                have k1 := decN_of d1 hl hl0
                have k2 := decN_of d2 hh hh0
                have k3 := decN_of d3 hm hm0
                have hut := sliceT_of ht
                unfold slcA at e
                cases mxn with
                | some m =>
                  simp only at e
                  obtain ⟨hk, e2⟩ := cond_ok e
                  cases hin with
                  | none => simp [fail] at e2
                  | some hn =>
                    simp only at e2
                    obtain ⟨hk2, e3⟩ := cond_ok e2
                    have hmx : m < capX := by have := Nat.le_of_ble_eq_true hk2; unfold capX at this ⊢; omega
                    obtain ⟨b1, b2, u, rfl, hu, hsame⟩ := cutO_ok e3 hb hmx
                    have hmc : m ≤ c' := by
                      rcases hcc with ⟨hlt, rfl⟩ | ⟨sz, c0, rfl, hc0, hle, hln⟩
                      · have hb0 : Nat.ble capX c' = false := by
                          cases hq : Nat.ble capX c' with
                          | false => rfl
                          | true => have := Nat.le_of_ble_eq_true hq; omega
                        rw [hb0] at hk; exact Nat.le_of_ble_eq_true hk
                      · have hmod : Nat.mod (capX * (sz + 1) + c0) capX = c0 := by
                          show (capX * (sz + 1) + c0) % capX = c0
                          unfold capX at hc0 ⊢; omega
                        have hb0 : Nat.ble capX (capX * (sz + 1) + c0) = true := Nat.ble_eq_true_of_le (by unfold capX; omega)
                        rw [hb0, hmod] at hk
                        have := Nat.le_of_ble_eq_true (show Nat.ble m c0 = true from hk)
                        omega
                    exact ⟨u, _, rfl, run_cut hut hs (run_bounds k1 k2 k3 (fun q => by cases q) b1 b2 hmc w), hu, hsame⟩
                | none =>
                  simp only at e
                  rcases hcc with ⟨hlt, rfl⟩ | ⟨sz, c0, rfl, hc0, hle, hln⟩
                  · have hb0 : Nat.ble capX c' = false := by
                      cases hq : Nat.ble capX c' with
                      | false => rfl
                      | true => have := Nat.le_of_ble_eq_true hq; omega
                    rw [hb0] at e
                    simp only [cond_false] at e
                    obtain ⟨b1, b2, u, rfl, hu, hsame⟩ := cutO_ok e hb hlt
                    exact ⟨u, _, rfl, run_cut hut hs (run_bounds k1 k2 k3 (fun _ => rfl) b1 b2 (Nat.le_refl _) w), hu, hsame⟩
                  · have hdiv : Nat.div (capX * (sz + 1) + c0) capX = sz + 1 := by
                      show (capX * (sz + 1) + c0) / capX = sz + 1
                      unfold capX at hc0 ⊢; omega
                    have hmod : Nat.mod (capX * (sz + 1) + c0) capX = c0 := by
                      show (capX * (sz + 1) + c0) % capX = c0
                      unfold capX at hc0 ⊢; omega
                    have hb0 : Nat.ble capX (capX * (sz + 1) + c0) = true := Nat.ble_eq_true_of_le (by unfold capX; omega)
                    rw [hb0, hmod, hdiv] at e
                    simp only [cond_true] at e
                    obtain ⟨hk, e2⟩ := cond_ok e
                    simp only [Bool.and_eq_true] at hk
                    obtain ⟨⟨q1, q2⟩, q3⟩ := hk
                    have hsz : sz = s := by have := Nat.eq_of_beq_eq_true q1; omega
                    subst hsz
                    have q2' := Nat.le_of_ble_eq_true q2
                    have q3' := Nat.le_of_ble_eq_true q3
                    have hrun : (Instr.sliceAt t (vslice b' off n c') lo' hi' mx').run P w = .ok (.slice (if c' = orN lon 0 then some ⟨b', off, none⟩ else (some (⟨b', off, none⟩ : Addr)).map (·.add (orN lon 0 * sz))) (orN hin n - orN lon 0) (c' - orN lon 0)) w :=
                      run_cut (a := some ⟨b', off, none⟩) hut hs (run_bounds (P := P) (len := n) (cap := c') k1 k2 k3 (fun _ => rfl) q2' (show orN hin n ≤ c' by omega) (Nat.le_refl _) w)
                    generalize orN lon 0 = L at *
                    generalize orN hin n = H at *
                    cases hz : Nat.beq L 0 with
                    | true =>
                      rw [hz] at e2
                      obtain ⟨rfl, hsame⟩ := val_ok e2
                      have hz0 := Nat.eq_of_beq_eq_true hz
                      subst hz0
                      refine ⟨_, _, rfl, hrun, ?_, hsame⟩
                      simp only [Nat.zero_mul, Option.map_some, add_off, Nat.add_zero, ite_self, Nat.sub_zero]
                      exact .slicex hb hc0 hle hln
                    | false =>
                      rw [hz] at e2
                      simp only [cond_false] at e2
                      obtain ⟨hk, e3⟩ := cond_ok e2
                      obtain ⟨rfl, hsame⟩ := val_ok e3
                      have hk' : L < c0 := Nat.le_of_ble_eq_true hk
                      refine ⟨_, _, rfl, hrun, ?_, hsame⟩
                      have hne : ¬ c' = L := by omega
                      rw [if_neg hne]
                      simp only [Option.map_some, add_off]
                      have e4 : capX * (sz + 1) + c0 - L = capX * (sz + 1) + (c0 - L) := by omega
                      unfold vslice
                      rw [e4]
                      refine .slicex hb (by omega) (by omega) ?_
                      have : (c' - L) * sz + L * sz = c' * sz := by rw [← Nat.add_mul]; congr 1; omega
                      omega
end
end Ev
end Go.Proofs.YtaefgofheiegeaaGreat
namespace Go.Proofs.YtaefgofheiegeaaGreat
open Go
namespace Ev
section
variable {F : Type} {S : Sig F} {P : Program}
theorem memHard_ok {C C0 : Cfg F} (hC : C.hard = memHard P C0) (h0 : C0.hid = S.hn) (hG : C0.G = S.G) : HardOK S P C := by
  intro o vs h nx x h' nx' R W hs e r w ρ hM hN hv
  rw [hC] at e
  unfold memHard at e
  cases hop : o.op with
  | slice t y lo hi mx =>
    rw [hop] at e
    have e' : (sliceH P t vs lo.isSome hi.isSome mx.isSome : M F Nxt) h nx = .ok x h' nx' R W := e
    have hops : o.op.operands.toList.map ρ = ρ y :: (lo.toList.map ρ ++ (hi.toList.map ρ ++ mx.toList.map ρ)) := by rw [hop]; cases lo <;> cases hi <;> cases mx <;> rfl
    rw [hops] at hv
    have key : Just P r w x (Instr.sliceAt t (ρ y) (lo.map ρ) (hi.map ρ) (mx.map ρ)) (h' = h ∧ nx' = nx ∧ W = []) := by
      cases hv with
      | cons hv0 hv =>
        unfold sliceH at e'
        cases lo with
        | none =>
          cases hi with
          | none =>
            cases mx with
            | none =>
              cases hv
              exact slcO_ok (lo := none) (hi := none) (mx := none) e' hv0 (fun _ q => by cases q) (fun _ => rfl) (fun _ q => by cases q) (fun _ => rfl) (fun _ q => by cases q) (fun _ => rfl)
            | some c =>
              cases hv with
              | cons hv3 hv => cases hv; exact absurd e' (by simp [fail])
          | some b =>
            cases hv with
            | cons hv2 hv =>
              cases mx with
              | none =>
                cases hv
                exact slcO_ok (lo := none) (hi := some _) (mx := none) e' hv0 (fun _ q => by cases q) (fun _ => rfl) (fun _ q => by cases q; exact ⟨_, rfl, hv2⟩) (fun q => by cases q) (fun _ q => by cases q) (fun _ => rfl)
              | some c =>
                cases hv with
                | cons hv3 hv =>
                  cases hv
                  exact slcO_ok (lo := none) (hi := some _) (mx := some _) e' hv0 (fun _ q => by cases q) (fun _ => rfl) (fun _ q => by cases q; exact ⟨_, rfl, hv2⟩) (fun q => by cases q) (fun _ q => by cases q; exact ⟨_, rfl, hv3⟩) (fun q => by cases q)
        | some a =>
          cases hv with
          | cons hv1 hv =>
            cases hi with
            | none =>
              cases mx with
              | none =>
                cases hv
                exact slcO_ok (lo := some _) (hi := none) (mx := none) e' hv0 (fun _ q => by cases q; exact ⟨_, rfl, hv1⟩) (fun q => by cases q) (fun _ q => by cases q) (fun _ => rfl) (fun _ q => by cases q) (fun _ => rfl)
              | some c =>
                cases hv with
                | cons hv3 hv => cases hv; exact absurd e' (by simp [fail])
            | some b =>
              cases hv with
              | cons hv2 hv =>
                cases mx with
                | none =>
                  cases hv
                  exact slcO_ok (lo := some _) (hi := some _) (mx := none) e' hv0 (fun _ q => by cases q; exact ⟨_, rfl, hv1⟩) (fun q => by cases q) (fun _ q => by cases q; exact ⟨_, rfl, hv2⟩) (fun q => by cases q) (fun _ q => by cases q) (fun _ => rfl)
                | some c =>
                  cases hv with
                  | cons hv3 hv =>
                    cases hv
                    exact slcO_ok (lo := some _) (hi := some _) (mx := some _) e' hv0 (fun _ q => by cases q; exact ⟨_, rfl, hv1⟩) (fun q => by cases q) (fun _ q => by cases q; exact ⟨_, rfl, hv2⟩) (fun q => by cases q) (fun _ q => by cases q; exact ⟨_, rfl, hv3⟩) (fun q => by cases q)
    refine key.after hM fun v hv => ?_
    simp only [execOp, hop, Sem.run_bind, hv, Result.andThen_ok, Sem.run_pure]
  | _ => rw [hop] at e; exact absurd e (by simp [fail])
end
end Ev
end Go.Proofs.YtaefgofheiegeaaGreat
namespace Go.Proofs.YtaefgofheiegeaaGreat
namespace Big
def val (B : Nat) : List Nat → Nat
  | [] => 0
  | d :: l => d + B * val B l
def Ok (B : Nat) (l : List Nat) : Prop := ∀ d ∈ l, d < B
def Norm (l : List Nat) : Prop := l.getLast? ≠ some 0
def nth (l : List Nat) (i : Nat) : Nat := l.getD i 0
def M64 : Nat := 18446744073709551616
theorem M64_eq : M64 = 18446744073709551616 := rfl
theorem M64_pos : 0 < M64 := by unfold M64; omega
def KX : Nat := 1000000000
def KL : Nat := 100000000
theorem KX_eq : KX = 1000000000 := rfl
theorem KL_eq : KL = 100000000 := rfl
theorem KL_le : KL ≤ KX := by unfold KL KX; omega
section
variable {B : Nat}
theorem Ok.nil : Ok B [] := by intro d h; simp at h
theorem Ok.tail {d : Nat} {l : List Nat} (h : Ok B (d :: l)) : Ok B l := fun x hx => h x (by simp [hx])
theorem Ok.head {d : Nat} {l : List Nat} (h : Ok B (d :: l)) : d < B := h d (by simp)
theorem Ok.cons {d : Nat} {l : List Nat} (h : d < B) (k : Ok B l) : Ok B (d :: l) := by
  intro x hx; rcases List.mem_cons.1 hx with rfl | hx
  · exact h
  · exact k x hx
theorem Ok.append {l m : List Nat} (h : Ok B l) (k : Ok B m) : Ok B (l ++ m) := by
  intro x hx; rcases List.mem_append.1 hx with hx | hx
  · exact h x hx
  · exact k x hx
theorem Ok.take {l : List Nat} (h : Ok B l) (n : Nat) : Ok B (l.take n) := fun x hx => h x (List.mem_of_mem_take hx)
theorem Ok.drop {l : List Nat} (h : Ok B l) (n : Nat) : Ok B (l.drop n) := fun x hx => h x (List.mem_of_mem_drop hx)
theorem Ok.nth {l : List Nat} (h : Ok B l) (hB : 0 < B) (i : Nat) : nth l i < B := by
  unfold Big.nth
  rw [List.getD_eq_getElem?_getD]
  cases hi : l[i]? with
  | none => simpa using hB
  | some d => simpa using h d (List.mem_of_getElem? hi)
theorem val_append (l m : List Nat) : val B (l ++ m) = val B l + B ^ l.length * val B m := by
  induction l with
  | nil => simp [val]
  | cons d l ih =>
    simp only [List.cons_append, val, ih, List.length_cons, Nat.pow_succ', Nat.mul_add, Nat.mul_assoc]
    omega
theorem val_lt (l : List Nat) (h : Ok B l) : val B l < B ^ l.length := by
  induction l with
  | nil => simp [val]
  | cons d l ih =>
    have h1 := ih h.tail
    have h2 := h.head
    have h3 : B * (val B l + 1) ≤ B * B ^ l.length := Nat.mul_le_mul_left B h1
    rw [Nat.mul_add] at h3
    simp only [val, List.length_cons, Nat.pow_succ']
    omega
theorem val_replicate (n : Nat) : val B (List.replicate n 0) = 0 := by
  induction n with
  | zero => rfl
  | succ n ih => simp [List.replicate_succ, val, ih]
theorem take_succ (l : List Nat) (k : Nat) (h : k < l.length) : l.take (k + 1) = l.take k ++ [nth l k] := by
  unfold nth
  rw [List.take_succ_eq_append_getElem h, List.getD_eq_getElem?_getD, List.getElem?_eq_getElem h]; rfl
theorem val_take_succ (l : List Nat) (k : Nat) (h : k < l.length) : val B (l.take (k + 1)) = val B (l.take k) + B ^ k * nth l k := by
  rw [take_succ l k h, val_append]
  simp [val, Nat.min_eq_left (Nat.le_of_lt h)]
theorem val_take_all (l : List Nat) (k : Nat) (h : l.length ≤ k) : val B (l.take k) = val B l := by rw [List.take_of_length_le h]
theorem nth_ge (l : List Nat) (k : Nat) (h : l.length ≤ k) : nth l k = 0 := by
  unfold nth
  rw [List.getD_eq_getElem?_getD, List.getElem?_eq_none h]; rfl
theorem val_take_succ' (l : List Nat) (k : Nat) : val B (l.take (k + 1)) = val B (l.take k) + B ^ k * nth l k := by
  rcases Nat.lt_or_ge k l.length with h | h
  · exact val_take_succ l k h
  · rw [val_take_all l _ (by omega), val_take_all l _ h, nth_ge l k h]; simp
theorem val_take_drop (l : List Nat) (k : Nat) (h : k ≤ l.length) : val B l = val B (l.take k) + B ^ k * val B (l.drop k) := by
  conv => lhs; rw [← List.take_append_drop k l]
  rw [val_append, List.length_take, Nat.min_eq_left h]
theorem norm_nil : Norm [] := by simp [Norm]
theorem norm_tail {d : Nat} {l : List Nat} (h : Norm (d :: l)) : Norm l := by
  cases l with
  | nil => exact norm_nil
  | cons e l => simpa [Norm, List.getLast?_cons_cons] using h
theorem norm_ge (l : List Nat) (h : Norm l) (hne : l ≠ []) : B ^ (l.length - 1) ≤ val B l := by
  induction l with
  | nil => exact absurd rfl hne
  | cons d l ih =>
    cases l with
    | nil =>
      have : d ≠ 0 := by intro e; subst e; simp [Norm] at h
      simp [val]; omega
    | cons e l =>
      have h1 := ih (norm_tail h) (by simp)
      have h2 : B * B ^ (l.length) ≤ B * val B (e :: l) := Nat.mul_le_mul_left B (by simpa using h1)
      simp only [val, List.length_cons] at *
      rw [show l.length + 1 + 1 - 1 = l.length + 1 by omega, Nat.pow_succ']
      omega
theorem norm_pos (hB : 0 < B) (l : List Nat) (h : Norm l) (hne : l ≠ []) : 0 < val B l :=
  Nat.lt_of_lt_of_le (Nat.pow_pos hB) (norm_ge l h hne)
theorem norm_zero (hB : 0 < B) (l : List Nat) (h : Norm l) (h0 : val B l = 0) : l = [] := by
  cases l with
  | nil => rfl
  | cons d l => have := norm_pos hB _ h (by simp); omega
theorem val_inj (hB : 0 < B) : ∀ (l m : List Nat), Ok B l → Ok B m → Norm l → Norm m → val B l = val B m → l = m
  | [], m, _, _, _, nm, h => (norm_zero hB m nm (by simpa [val] using h.symm)).symm
  | d :: l, [], _, _, nl, _, h => by have := norm_pos hB _ nl (by simp); simp only [val] at h this; omega
  | d :: l, e :: m, ol, om, nl, nm, h => by
    have h1 := ol.head; have h2 := om.head
    simp only [val] at h
    have hd : d = e := by
      have a := congrArg (· % B) h
      simpa [Nat.add_mul_mod_self_left, Nat.mod_eq_of_lt h1, Nat.mod_eq_of_lt h2] using a
    subst hd
    have hv : val B l = val B m := Nat.eq_of_mul_eq_mul_left hB (by omega)
    rw [val_inj hB l m ol.tail om.tail (norm_tail nl) (norm_tail nm) hv]
theorem lt_of_length (hB : 0 < B) {l m : List Nat} (ol : Ok B l) (nm : Norm m) (h : l.length < m.length) : val B l < val B m := by
  have h1 := val_lt l ol
  have h2 := norm_ge (B := B) m nm (by intro e; subst e; simp at h)
  have h3 : B ^ l.length ≤ B ^ (m.length - 1) := Nat.pow_le_pow_right hB (by omega)
  omega
theorem length_le (hB : 0 < B) {l m : List Nat} (nl : Norm l) (om : Ok B m) (h : val B l ≤ val B m) : l.length ≤ m.length := by
  rcases Nat.lt_or_ge m.length l.length with hlt | hge
  · have := lt_of_length hB om nl hlt; omega
  · exact hge
def strip : List Nat → List Nat
  | [] => []
  | d :: l => match strip l with
    | [] => if d = 0 then [] else [d]
    | e :: m => d :: e :: m
theorem strip_val (l : List Nat) : val B (strip l) = val B l := by
  induction l with
  | nil => rfl
  | cons d l ih =>
    simp only [strip]
    split
    · rename_i h; rw [h] at ih; simp only [val] at ih ⊢
      split <;> simp_all [val, ← ih]
    · rename_i e m h; rw [h] at ih; simp only [val] at ih ⊢; rw [ih]
theorem strip_norm (l : List Nat) : Norm (strip l) := by
  induction l with
  | nil => exact norm_nil
  | cons d l ih =>
    simp only [strip]
    split
    · split
      · exact norm_nil
      · rename_i h; simpa [Norm] using h
    · rename_i e m h; rw [h] at ih; simpa [Norm, List.getLast?_cons_cons] using ih
theorem strip_of_norm (l : List Nat) (h : Norm l) : strip l = l := by
  induction l with
  | nil => rfl
  | cons d l ih =>
    simp only [strip, ih (norm_tail h)]
    cases l with
    | nil => have : d ≠ 0 := by intro e; subst e; simp [Norm] at h
             simp [this]
    | cons e m => rfl
theorem strip_ok {l : List Nat} (h : Ok B l) : Ok B (strip l) := by
  induction l with
  | nil => exact h
  | cons d l ih =>
    have hi := ih h.tail
    simp only [strip]
    split
    · split
      · exact Ok.nil
      · exact Ok.cons h.head Ok.nil
    · rename_i e m he; rw [he] at hi; exact Ok.cons h.head hi
theorem strip_take_self (l : List Nat) : strip l = l.take (strip l).length := by
  induction l with
  | nil => rfl
  | cons d l ih =>
    simp only [strip]
    split
    · split
      · rfl
      · simp
    · rename_i e m he; rw [he] at ih; simp only [List.length_cons, List.take_succ_cons] at ih ⊢
      rw [← ih]
theorem strip_len (l : List Nat) : (strip l).length ≤ l.length := by
  have := congrArg List.length (strip_take_self l)
  rw [List.length_take] at this
  omega
theorem strip_snoc_zero (l : List Nat) : strip (l ++ [0]) = strip l := by
  induction l with
  | nil => rfl
  | cons d l ih => simp only [List.cons_append, strip, ih]
theorem strip_take (l : List Nat) (n : Nat) (h : n < l.length) (h0 : nth l n = 0) : strip (l.take (n + 1)) = strip (l.take n) := by
  rw [take_succ l n h, h0, strip_snoc_zero]
theorem strip_take_ne (l : List Nat) (n : Nat) (h : n < l.length) (h0 : nth l n ≠ 0) : strip (l.take (n + 1)) = l.take (n + 1) := by
  apply strip_of_norm
  rw [take_succ l n h]
  simpa [Norm] using h0
def ordI (b : Bool) : Int := if b then -1 else 1
def cmpI (a b : Nat) : Int := if a < b then -1 else if a = b then 0 else 1
theorem cmpI_lt {a b : Nat} (h : a < b) : cmpI a b = -1 := by simp [cmpI, h]
theorem cmpI_gt {a b : Nat} (h : b < a) : cmpI a b = 1 := by
  unfold cmpI; rw [if_neg (by omega), if_neg (by omega)]
theorem cmpI_eq (a : Nat) : cmpI a a = 0 := by simp [cmpI]
theorem val_split (l : List Nat) (k : Nat) (h : k < l.length) : val B l = val B (l.take k) + B ^ k * nth l k + B ^ (k + 1) * val B (l.drop (k + 1)) := by
  rw [val_take_drop l (k + 1) (by omega), val_take_succ l k h]
theorem lt_at {l m : List Nat} {k : Nat} (hl : k < l.length) (hm : k < m.length) (ol : Ok B l) (hd : l.drop (k + 1) = m.drop (k + 1)) (h : nth l k < nth m k) : val B l < val B m := by
  rw [val_split l k hl, val_split m k hm, hd]
  have h1 := val_lt (l.take k) (ol.take k)
  rw [List.length_take, Nat.min_eq_left (by omega)] at h1
  have h2 : B ^ k * (nth l k + 1) ≤ B ^ k * nth m k := Nat.mul_le_mul_left _ h
  rw [Nat.mul_add] at h2
  omega
theorem drop_cons (l : List Nat) (k : Nat) (h : k < l.length) : l.drop k = nth l k :: l.drop (k + 1) := by
  rw [List.drop_eq_getElem_cons h]; unfold nth
  rw [List.getD_eq_getElem?_getD, List.getElem?_eq_getElem h]; rfl
end
end Big
end Go.Proofs.YtaefgofheiegeaaGreat
