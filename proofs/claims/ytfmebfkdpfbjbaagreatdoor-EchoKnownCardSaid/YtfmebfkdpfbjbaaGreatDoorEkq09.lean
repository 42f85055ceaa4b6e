/- Contracts, in this order: The interpreter: what it answers, the program does. No progr · The interpreter: parts of slices, append, copy. No program. -/
import Derived.Test.YtfmebfkdpfbjbaaGreatDoorEkq08
import Derived.Test.YtfmebfkdpfbjbaaGreatDoorEkq06
import Derived.Deep.AppendSrc
import Derived.Laws.AppendOwn
import Derived.Laws.Slices
namespace Go.Proofs.YtfmebfkdpfbjbaaGreatDoor
open Go
namespace Ev
section
variable {F : Type} {S : Sig F} {P : Program} {C : Cfg F}
structure SumOK (S : Sig F) (P : Program) (sum : Sums F) : Prop where
  loc : ∀ f args m, sum f args = some m → Loc m
  run : ∀ f args m, sum f args = some m → ∀ h nx v h' nx' R W, Run m h nx v h' nx' R W → ∀ (r : Ren) (w : World) (args' : List Value), VsR r args args' → Mod S r h.get w → New r nx nx' →
    Calls P f ⟨args'⟩ w fun e w' => ∃ v' r', e = .returned v' ∧ VR r' v v' ∧ Ext S r w nx nx' W h'.get r' w'
theorem initT_get : ∀ (l : List Value) (i : Nat) (t : Tr Value) (k : Nat), (initT l i t).get k = if i ≤ k ∧ k < i + l.length then l[k - i]? else t.get k
  | [], i, t, k => by
    show t.get k = _
    rw [if_neg (by simp)]
  | v :: l, i, t, k => by
    show (initT l (i + 1) (t.set i v)).get k = _
    rw [initT_get l (i + 1) (t.set i v) k, Tr.get_set]
    simp only [List.length_cons]
    by_cases h1 : k = i
    · subst h1
      rw [if_neg (by omega), if_pos rfl, if_pos (by omega), Nat.sub_self]
      rfl
    · rw [if_neg h1]
      by_cases h2 : i + 1 ≤ k ∧ k < i + 1 + l.length
      · rw [if_pos h2, if_pos (by omega), show k - i = (k - (i + 1)) + 1 by omega]
        rfl
      · rw [if_neg h2, if_neg (by omega)]
theorem init_tr {r : Ren} {args args' : List Value} (ha : VsR r args args') (n : Nat) : TR r (initT args 0 .nil) { tmps := ⟨args'⟩ ++ Array.replicate n undef, defers := [] } := by
  intro (t : Nat)
  show VR r (((initT args 0 .nil).get t).getD undef) (((⟨args'⟩ : Array Value) ++ Array.replicate n undef).getD t undef)
  rw [initT_get, Array.getD_eq_getD_getElem?, Array.getElem?_append]
  have hl := ha.length
  by_cases h : t < args.length
  · rw [if_pos (by omega), if_pos (by simp; omega), Nat.sub_zero]
    have h1 : args[t]? = some args[t] := List.getElem?_eq_getElem h
    obtain ⟨v', hv', hr⟩ := ha.get h1
    rw [h1]
    simp only [List.getElem?_toArray, hv', Option.getD_some]
    exact hr
  · rw [if_neg (by omega), if_neg (by simp; omega)]
    have : (Array.replicate n undef)[t - (⟨args'⟩ : Array Value).size]?.getD undef = undef := by
      rw [Array.getElem?_replicate]
      split <;> rfl
    rw [this, Tr.get_nil]
    exact vr_undef
theorem loc_resA (P : Program) (ts : Tr Value) : ∀ l : List ResultVar, Loc (resA P ts l : M F (List Value))
  | [] => loc_ret _
  | .tmp t :: l => loc_bind (loc_resA P ts l) fun _ => loc_ret _
  | .cell a t :: l => loc_bind (loc_loadA P _ _) fun _ => loc_bind (loc_resA P ts l) fun _ => loc_ret _
theorem resA_ok {ts : Tr Value} {a : Act} {r : Ren} {w : World} (hT : TR r ts a) : ∀ (l : List ResultVar) {h h' : Tr (Blk F)} {nx nx' : Nat} {R W : List Nat} {vs : List Value}, (resA P ts l : M F _) h nx = .ok vs h' nx' R W → Mod S r h.get w →
    h' = h ∧ nx' = nx ∧ W = [] ∧ ∃ vs', (l.mapM (fun (x : ResultVar) => match x with
      | .tmp t => (pure (a.tmps.getD t undef) : Sem Value)
      | .cell b t => do loadVar t (← asAddr (a.tmps.getD b undef)))).run P w = .ok vs' w ∧ VsR r vs vs'
  | [], h, h', nx, nx', R, W, vs, e, hM => by
    obtain ⟨rfl, rfl, rfl, rfl⟩ := ret_ok (show (ret [] : M F _) h nx = _ from e)
    exact ⟨rfl, rfl, rfl, [], by simp, .nil⟩
  | .tmp t :: l, h, h', nx, nx', R, W, vs, e, hM => by
    obtain ⟨us, h1, nx1, R1, W1, R2, W2, e1, e2, rfl, rfl⟩ := bind_ok (show (bind (resA P ts l) fun vs => ret (opd ts (.tmp t) :: vs) : M F _) h nx = _ from e)
    obtain ⟨rfl, rfl, rfl, rfl⟩ := ret_ok e2
    obtain ⟨rfl, rfl, rfl, us', hrun, hr⟩ := resA_ok hT l e1 hM
    refine ⟨rfl, rfl, rfl, a.tmps.getD t undef :: us', ?_, .cons (hT t) hr⟩
    rw [List.mapM_cons]
    simp only [Sem.run_bind, Sem.run_pure, Result.andThen_ok, hrun]
  | .cell b t :: l, h, h', nx, nx', R, W, vs, e, hM => by
    obtain ⟨v, h1, nx1, R1, W1, R2, W2, e1, e2, rfl, rfl⟩ := bind_ok (show (bind (loadA P t (opd ts (.tmp b))) fun v => bind (resA P ts l) fun vs => ret (v :: vs) : M F _) h nx = _ from e)
    obtain ⟨us, h2, nx2, R3, W3, R4, W4, e3, e4, rfl, rfl⟩ := bind_ok e2
    obtain ⟨rfl, rfl, rfl, rfl⟩ := ret_ok e4
    obtain ⟨rfl, rfl, rfl, v', ad, hp, hl, hv⟩ := load_ok e1 hM (hT b)
    obtain ⟨rfl, rfl, rfl, us', hrun, hr⟩ := resA_ok hT l e3 hM
    refine ⟨rfl, rfl, rfl, v' :: us', ?_, .cons hv hr⟩
    rw [List.mapM_cons]
    have hp' : a.tmps.getD b undef = .pointer (some ad) := hp
    have hpa : (asAddr (a.tmps.getD b undef)).run P w = .ok ad w := by rw [hp']; rfl
    simp only [Sem.run_bind, Sem.run_pure, Result.andThen_ok, hpa, hl, hrun]
noncomputable def resK (P : Program) (fn : Func) (x : Ex × Tr Value) : M F Value := match x.1 with
  | .exit _ => fail
  | .normal => bind (resA P x.2 fn.results.toList) fun vs => ret (oneOf vs)
  | .ret => bind (resA P x.2 fn.results.toList) fun vs => ret (oneOf vs)
theorem loc_resK (P : Program) (fn : Func) (x : Ex × Tr Value) : Loc (resK P fn x : M F Value) := by
  unfold resK
  split
  · exact loc_fail
  · exact loc_bind (loc_resA P _ _) fun _ => loc_ret _
  · exact loc_bind (loc_resA P _ _) fun _ => loc_ret _
theorem callY_succ (sum : Sums F) (n : Nat) (ys : Ylds F) (f : FuncId) (args : List Value) : callY P C sum (n + 1) ys f args = match sum f args with
    | some s => s
    | none => match C.tab f with
      | none => fail
      | some fn => match fn.body with
        | none => fail
        | some c => cond (Nat.ble args.length fn.ntmps) (bind (code P C ⟨callY P C sum n, ys, C.jmp f⟩ fn.ntmps n c (initT args 0 .nil)) (resK P fn)) fail := rfl
theorem results_ok {fn : Func} {ts : Tr Value} {a : Act} {r : Ren} {w : World} {h h' : Tr (Blk F)} {nx nx' : Nat} {R W : List Nat} {v : Value} (e : (bind (resA P ts fn.results.toList) fun vs => ret (oneOf vs) : M F Value) h nx = .ok v h' nx' R W) (hT : TR r ts a) (hM : Mod S r h.get w) :
    h' = h ∧ nx' = nx ∧ W = [] ∧ ∃ v', (results fn a.tmps).run P w = .ok v' w ∧ VR r v v' := by
  obtain ⟨vs, h1, nx1, R1, W1, R2, W2, e1, e2, rfl, rfl⟩ := bind_ok e
  obtain ⟨rfl, rfl, rfl, rfl⟩ := ret_ok e2
  obtain ⟨rfl, rfl, rfl, vs', hrun, hr⟩ := resA_ok hT _ e1 hM
  refine ⟨rfl, rfl, rfl, ?_⟩
  have hmap : (fn.results.mapM (fun (x : ResultVar) => match x with
      | .tmp t => (pure (a.tmps.getD t undef) : Sem Value)
      | .cell b t => do loadVar t (← asAddr (a.tmps.getD b undef)))).run P w = .ok vs'.toArray w := by
    rw [Array.mapM_eq_mapM_toList]
    simp only [Sem.run_map, hrun, Result.andThen_ok]
  have hres : results fn a.tmps = (fn.results.mapM (fun (x : ResultVar) => match x with
      | .tmp t => (pure (a.tmps.getD t undef) : Sem Value)
      | .cell b t => do loadVar t (← asAddr (a.tmps.getD b undef))) >>= fun vs => pure (if h : vs.size = 1 then vs[0] else .tuple vs)) := by
    unfold results
    congr 1
  rw [hres]
  have hlen := hr.length
  rcases vs with _ | ⟨u, _ | ⟨u2, us⟩⟩
  · have : vs' = [] := List.eq_nil_of_length_eq_zero (by simpa using hlen)
    subst this
    refine ⟨.tuple #[], ?_, .tuple .nil⟩
    rw [Sem.run_bind, hmap]
    rfl
  · rcases vs' with _ | ⟨u', _ | ⟨_, _⟩⟩
    · simp at hlen
    · cases hr with
      | cons h1 h2 =>
        refine ⟨u', ?_, h1⟩
        rw [Sem.run_bind, hmap]
        rfl
    · simp at hlen
  · refine ⟨.tuple vs'.toArray, ?_, .tuple hr⟩
    rw [Sem.run_bind, hmap]
    simp only [Result.andThen_ok]
    rw [dif_neg (by simp; rw [hlen]; simp)]
    rfl
theorem Ext.putObj {r r' : Ren} {w w' : World} {lo hi l : Nat} {W : List Nat} {g : Nat → Option (Blk F)} (h : Ext S r w lo hi W g r' w') (hl : ∀ c t z, w'.heap[l]? ≠ some (.cells c t z)) (hlo : ∀ L, w'.heap[l]? ≠ some (.loop L)) (hG : S.G ≤ l) (hw : w.heap.size ≤ l) (o : Obj) : Ext S r w lo hi W g r' (w'.putObj l o) :=
  ⟨h.le, h.mod.putObj' hl hlo hG o, h.dom, h.new, fun b o' hb hn => by
    have := (Array.getElem?_eq_some_iff.1 hb).1
    rw [World.putObj_heap_other (by omega)]; exact h.keep b o' hb hn, by rw [World.putObj_size]; exact h.size, h.os, h.tape, h.output, ⟨fun b L hb => by
    obtain ⟨L', q1, q2⟩ := h.loops.lp b L hb
    have := (Array.getElem?_eq_some_iff.1 hb).1
    exact ⟨L', by rw [World.putObj_heap_other (by omega)]; exact q1, q2⟩, fun b c t z hb => by
    obtain ⟨c2, q1, q2⟩ := h.loops.sh b c t z hb
    have := (Array.getElem?_eq_some_iff.1 hb).1
    exact ⟨c2, by rw [World.putObj_heap_other (by omega)]; exact q1, q2⟩⟩⟩
theorem Marks.shut {B0 D : Nat} : ∀ {ds : List Deferred} {r : Ren} {w : World}, Marks S B0 ds r w → (∀ e ∈ ds, e.target ≠ .collected D) → ∀ o, Marks S B0 ds r (w.putObj D o)
  | [], _, _, h, _, _ => by show B0 ≤ _; rw [World.putObj_size]; exact h
  | d :: ds, _, _, ⟨h, D', h1, h2, h3⟩, hn, o => ⟨Marks.shut h (fun e he => hn e (List.mem_cons_of_mem _ he)) o, D', h1, by
      rw [World.putObj_heap_other (fun q => hn d List.mem_cons_self (by rw [h1, q]))]; exact h2, h3⟩
theorem leaves_ok {fn : Func} {tmps : Array Value} {v : Value} {r r' : Ren} {w : World} {lo hi : Nat} {W : List Nat} {g : Nat → Option (Blk F)} (hres : ∀ w2, Mod S r' g w2 → ∃ v', (results fn tmps).run P w2 = .ok v' w2 ∧ VR r' v v') :
    ∀ (ds : List Deferred) (w1 : World), Marks S w.heap.size ds r' w1 → Ext S r w lo hi W g r' w1 → LeavesInM Fence.wide 0 P fn tmps (fun e w' => ∃ v' r'', e = .returned v' ∧ VR r'' v v' ∧ Ext S r w lo hi W g r'' w') ds .returning w1
  | [], w1, _, hX => by
    obtain ⟨v', h1, h2⟩ := hres w1 hX.mod
    exact ⟨v', h1, v', r', rfl, h2, hX⟩
  | d :: ds, w1, ⟨hm, D, h1, h2, h3, h4, h5, h6⟩, hX => by
    refine ⟨by simp, .inl ⟨D, _, by rw [h1], run_takeDeferred h2, ?_⟩⟩
    exact leaves_ok hres ds _ (hm.shut h6 _) (hX.putObj (fun c t z q => by rw [h2] at q; cases q) (fun L q => by rw [h2] at q; cases q) h4 h5 _)
theorem callY_ok [HardLoc C] (hF : Fits S P C) (hJ : JmpAll S P C) {sum : Sums F} (hs : SumOK S P sum) : ∀ n, (∀ ys, YLoc ys → ∀ f args, Loc (callY P C sum n ys f args)) ∧ ∀ ys f args h nx v h' nx' R W, YLoc ys → Run (callY P C sum n ys f args) h nx v h' nx' R W →
    ∀ (r : Ren) (w : World) (args' : List Value), VsR r args args' → Mod S r h.get w → New r nx nx' → YOK S P ys r w → Calls P f ⟨args'⟩ w fun e w' => ∃ v' r', e = .returned v' ∧ VR r' v v' ∧ Ext S r w nx nx' W h'.get r' w'
  | 0 => ⟨fun _ _ _ _ => loc_fail, fun ys f args h nx v h' nx' R W _ e => (show Run (fail : M F _) _ _ _ _ _ _ _ from e).no.elim⟩
  | n + 1 => by
    have ih := callY_ok hF hJ hs n
    have hcl : ∀ f ys, YLoc ys → ClOK S P ⟨callY P C sum n, ys, C.jmp f⟩ := fun f ys hy => ⟨⟨ih.1, hy, hJ.loc f⟩, ih.2⟩
    refine ⟨fun ys hy f args => ?_, fun ys f args h nx v h' nx' R W hy e r w args' ha hM hN hY => ?_⟩
    · rw [callY_succ]
      cases hsum : sum f args with
      | some s => exact hs.loc _ _ _ hsum
      | none =>
        simp only
        cases C.tab f with
        | none => exact loc_fail
        | some fn =>
          simp only
          cases fn.body with
          | none => exact loc_fail
          | some c => exact loc_cond (loc_bind (loc_code P C _ _ (hcl f ys hy).loc c _) (loc_resK P fn)) loc_fail
    · rw [callY_succ] at e
      cases hsum : sum f args with
      | some s => rw [hsum] at e; exact hs.run _ _ _ hsum _ _ _ _ _ _ _ e r w args' ha hM hN
      | none =>
        rw [hsum] at e; simp only at e
        cases ht : C.tab f with
        | none => rw [ht] at e; exact e.no.elim
        | some fn =>
          rw [ht] at e; simp only at e
          cases hb : fn.body with
          | none => rw [hb] at e; exact e.no.elim
          | some c =>
            rw [hb] at e; simp only at e
            obtain ⟨hle, e⟩ := e.cond
            have hle2 := Nat.le_of_ble_eq_true hle
            obtain ⟨⟨ex, ts⟩, h1, nx1, R1, W1, R2, W2, e1, e2, rfl, rfl, l1, l2⟩ := e.bind (loc_code P C _ _ (hcl f ys hy).loc c _) (loc_resK P fn)
            have hlen := ha.length
            refine (callsIn_wide (n := 0)).1 (callsIn_of_wp_marks (hF.tab f fn ht).1 hb trivial (code_ok hF (hcl f ys hy) c (fun x hx m => hJ.ok f fn c x m ht hb hx) e1 (ro := none) (d := 0) (B0 := w.heap.size) hM (hN.sub (Nat.le_refl _) l2) ⟨init_tr ha _, by simp; omega, Nat.le_refl _, fun l hl => (by cases hl), hY, .nil⟩ _ fun a' r' w' hS' hX => ?_))
            have fin : (bind (resA P ts fn.results.toList) fun vs => ret (oneOf vs) : M F Value) h1 nx1 = .ok v h' nx' R2 W2 → LeavesInM Fence.wide 0 P fn a'.tmps (fun e w' => ∃ v' r', e = .returned v' ∧ VR r' v v' ∧ Ext S r w nx nx' (W1 ++ W2) h'.get r' w') a'.defers .returning w' := fun e3 => by
              obtain ⟨rfl, rfl, rfl, -⟩ := results_ok e3 hS'.T hX.mod
              refine leaves_ok (fun w2 hM2 => ?_) _ _ hS'.marks (by simpa using hX)
              obtain ⟨-, -, -, v', q1, q2⟩ := results_ok e3 hS'.T hM2
              exact ⟨v', q1, q2⟩
            cases ex with
            | exit i => exact (show Run (fail : M F _) _ _ _ _ _ _ _ from e2).no.elim
            | normal => exact fin (show Run (bind (resA P ts fn.results.toList) fun vs => ret (oneOf vs) : M F Value) _ _ _ _ _ _ _ from e2).ok
            | ret => exact fin (show Run (bind (resA P ts fn.results.toList) fun vs => ret (oneOf vs) : M F Value) _ _ _ _ _ _ _ from e2).ok
theorem call_ok [HardLoc C] (hF : Fits S P C) {sum : Sums F} (hs : SumOK S P sum) (n : Nat) (hJ : JmpAll S P C := by exact .none rfl) : CallOK S P (call P C sum n) :=
  ⟨(callY_ok hF hJ hs n).1 [] (by intro x hx; simp at hx), fun f args h nx v h' nx' R W e r w args' ha hM hN => (callY_ok hF hJ hs n).2 [] f args h nx v h' nx' R W (by intro x hx; simp at hx) e r w args' ha hM hN trivial⟩
end
end Ev
end Go.Proofs.YtfmebfkdpfbjbaaGreatDoor
namespace Go.Proofs.YtfmebfkdpfbjbaaGreatDoor
open Go
namespace Ev
section
variable {F : Type} (P : Program) (C : Cfg F)
noncomputable def eszT (e : TypeId) : Option (Nat × Nat × Value) := match P.info? e with
  | some i => match i.zero with
    | some z => cond (plain2 z && Nat.beq (cellsOf z).length i.size) (some (i.size, i.bytes, z)) none
    | none => none
  | none => none
noncomputable def isStrTm (t : TypeId) : Bool := match P.underlying t with
  | some d => match d with
    | .string => true
    | _ => false
  | none => false
noncomputable def rowO (b off n : Nat) : M F (List Value) := bind (rdAny b) fun y => match getRow y.1 off n with
  | some l => cond (plainL isOne l) (ret l) fail
  | none => fail
noncomputable def rowsO (base : Option (Nat × Nat)) (n size : Nat) : M F (List Value) := match base with
  | some x => rowO x.1 x.2 (n * size)
  | none => cond (Nat.beq n 0) (ret []) fail
noncomputable def srcO (size : Nat) (tx : TypeId) (x : Value) : M F (Nat × List Value) := match sliceOf x with
  | some y => match sliceT P tx with
    | some _ => bind (rowsO y.1 y.2.1 size) fun l => ret (y.2.1, l)
    | none => fail
  | none => match x with
    | .string s => cond (Nat.beq size 1 && isStrTm P tx) (ret (s.size, byteCells s)) fail
    | _ => fail
noncomputable def roomO (size b off l n c : Nat) (news : List Value) : M F Nxt := cond (Nat.beq n 0) (val (vslice b off l c)) (bind (storeAt C b (off + l * size) news) fun _ => val (vslice b off (l + n) c))
noncomputable def newRoom (e : TypeId) (size k : Nat) (cs : List Value) : M F Nxt := bind (fresh (.room cs e)) fun m => val (vslice m 0 k (capX * (size + 1) + k))
noncomputable def moveO (e : TypeId) (size b l n cc : Nat) (news : List Value) : M F Nxt := bind (rdAny b) fun y =>
  cond (y.2.2 && Nat.beq y.2.1 e && (Nat.beq (cc * size) y.1.length && isMore y.1) && (Nat.ble l cc && Nat.ble C.G b && !C.hid b e))
    (bind (wr b (.room [] e)) fun _ => newRoom e size (l + n) (y.1.take (l * size) ++ news)) fail
noncomputable def roomB (bytes k : Nat) : Bool := Nat.ble (k * bytes) 1048576 && Nat.ble k 1048576
noncomputable def appO (t tx : TypeId) (v x : Value) : M F Nxt := match sliceT P t with
  | some e => match eszT P e with
    | some i => match sliceOf v with
      | some y => bind (srcO P i.1 tx x) fun s =>
        cond (Nat.ble capX y.2.2)
          (match y.1 with
            | some a => cond (Nat.beq (Nat.div y.2.2 capX) (Nat.succ i.1))
              (cond (Nat.ble (y.2.1 + s.1) (Nat.mod y.2.2 capX)) (roomO C i.1 a.1 a.2 y.2.1 s.1 y.2.2 s.2)
                (cond (Nat.beq a.2 0 && roomB i.2.1 (y.2.1 + s.1)) (moveO C e i.1 a.1 y.2.1 s.1 (Nat.mod y.2.2 capX) s.2) fail)) fail
            | none => fail)
          (cond (Nat.ble (y.2.1 + s.1) y.2.2)
            (match y.1 with
              | some a => roomO C i.1 a.1 a.2 y.2.1 s.1 y.2.2 s.2
              | none => cond (Nat.beq s.1 0) (val v) fail)
            (cond (roomB i.2.1 (y.2.1 + s.1)) (bind (rowsO y.1 y.2.1 i.1) fun olds => newRoom e i.1 (y.2.1 + s.1) (olds ++ s.2)) fail))
      | none => fail
    | none => fail
  | none => fail
noncomputable def decN (o : Option Value) : Option (Option Nat) := match o with
  | some v => match natVal v with
    | some n => some (some n)
    | none => none
  | none => some none
noncomputable def orN (o : Option Nat) (d : Nat) : Nat := match o with
  | some n => n
  | none => d
noncomputable def cutO (s b off l h m : Nat) : M F Nxt := cond (Nat.ble l h && Nat.ble h m) (val (vslice b (cond (Nat.beq m l) off (off + l * s)) (h - l) (m - l))) fail
noncomputable def slcA (s : Nat) (a : Nat × Nat) (n c : Nat) (lo hi mx : Option Nat) : M F Nxt := match mx with
  | some m => cond (Nat.ble m (cond (Nat.ble capX c) (Nat.mod c capX) c)) (match hi with
    | some h => cond (Nat.ble m (capX - 1)) (cutO s a.1 a.2 (orN lo 0) h m) fail
    | none => fail) fail
  | none => cond (Nat.ble capX c)
    (cond (Nat.beq (Nat.div c capX) (Nat.succ s) && Nat.ble (orN lo 0) (orN hi n) && Nat.ble (orN hi n) (Nat.mod c capX))
      (cond (Nat.beq (orN lo 0) 0) (val (vslice a.1 a.2 (orN hi n) c)) (cond (Nat.ble (Nat.succ (orN lo 0)) (Nat.mod c capX)) (val (vslice a.1 (a.2 + orN lo 0 * s) (orN hi n - orN lo 0) (c - orN lo 0))) fail)) fail)
    (cutO s a.1 a.2 (orN lo 0) (orN hi n) c)
noncomputable def slcO (t : TypeId) (v : Value) (lo hi mx : Option Value) : M F Nxt := match sliceT P t with
  | some e => match sizeT P e with
    | some s => match sliceOf v with
      | some y => match y.1 with
        | some a => match decN lo with
          | some lo => match decN hi with
            | some hi => match decN mx with
              | some mx => slcA s a y.2.1 y.2.2 lo hi mx
              | none => fail
            | none => fail
          | none => fail
        | none => fail
      | none => fail
    | none => fail
  | none => fail
noncomputable def copO (t tx : TypeId) (d x : Value) : M F Nxt := match sliceT P t with
  | some e => match sizeT P e with
    | some s => match sliceOf d with
      | some y => match sliceOf x with
        | some z => bind (rowsO z.1 (Nat.min z.2.1 y.2.1) s) fun l => cond (Nat.beq (Nat.min z.2.1 y.2.1) 0) (val (vint 0)) (match y.1 with
          | some a => bind (storeAt C a.1 a.2 l) fun _ => val (vint (Nat.min z.2.1 y.2.1))
          | none => fail)
        | none => fail
      | none => fail
    | none => fail
  | none => fail
noncomputable def twoM {α : Type} (l : List α) : Option (α × α) := match l with
  | a :: l => match l with
    | b :: l => match l with
      | [] => some (a, b)
      | _ :: _ => none
    | [] => none
  | [] => none
noncomputable def sliceH (t : TypeId) (vs : List Value) (lo hi mx : Bool) : M F Nxt := match vs with
  | v :: l => match lo, l with
    | true, a :: l => match hi, l with
      | true, b :: l => match mx, l with
        | true, [c] => slcO P t v (some a) (some b) (some c)
        | false, [] => slcO P t v (some a) (some b) none
        | _, _ => fail
      | false, [] => cond mx fail (slcO P t v (some a) none none)
      | _, _ => fail
    | false, l => match hi, l with
      | true, b :: l => match mx, l with
        | true, [c] => slcO P t v none (some b) (some c)
        | false, [] => slcO P t v none (some b) none
        | _, _ => fail
      | false, [] => cond mx fail (slcO P t v none none none)
      | _, _ => fail
    | _, _ => fail
  | [] => fail
noncomputable def oneM {α : Type} (l : List α) : Option α := match l with
  | a :: l => match l with
    | [] => some a
    | _ :: _ => none
  | [] => none
noncomputable def capO (t : TypeId) (v : Value) : M F Nxt := match sliceT P t with
  | some _ => match sliceOf v with
    | some y => cond (Nat.ble (Nat.succ y.2.2) capX) (val (vint y.2.2)) fail
    | none => fail
  | none => fail
noncomputable def isNil0 (v : Value) : Bool := match v with
  | .slice a n c => match a with
    | none => Nat.beq n 0 && Nat.beq c 0
    | some _ => false
  | _ => false
noncomputable def isIntTm (t : TypeId) : Bool := match P.underlying t with
  | some d => match d with
    | .int _ => true
    | _ => false
  | none => false
noncomputable def zerO (t tx : TypeId) (v : Value) (n : Nat) : M F Nxt := match sliceT P t with
  | some e => match eszT P e with
    | some i => cond (isNil0 v && isIntTm P tx && (Nat.ble 1 n && roomB i.2.1 n)) (newRoom e i.1 n (Builtin.zeroCells i.2.2.cells n).toList) fail
    | none => fail
  | none => fail
noncomputable def isPtrT (t : TypeId) : Bool := match P.underlying t with
  | some d => match d with
    | .pointer _ => true
    | _ => false
  | none => false
noncomputable def nilP (op : BinOp) (t : TypeId) (u v : Value) : M F Nxt := cond (isPtrT P t) (match u with
  | .pointer a => match v with
    | .pointer b => match b with
      | none => match op with
        | .eql => val (.bool a.isNone)
        | .neq => val (.bool (!a.isNone))
        | _ => fail
      | some _ => fail
    | _ => fail
  | _ => fail) fail
noncomputable def nilH (op : BinOp) (t : TypeId) (vs : List Value) : M F Nxt := match twoM vs with
  | some x => match sliceT P t with
    | some _ => match sliceOf x.1 with
      | some y => cond (isNil0 x.2) (match op with
        | .eql => val (.bool y.1.isNone)
        | .neq => val (.bool (!y.1.isNone))
        | _ => fail) fail
      | none => fail
    | none => nilP P op t x.1 x.2
  | none => fail
noncomputable def byteN (v : Value) : Option Int := match v with
  | .int k n => match k with
    | .u8 => some n
    | _ => none
  | _ => none
noncomputable def byteInts : List Value → Option (List Int)
  | [] => some []
  | v :: l => match byteN v with
    | some n => match byteInts l with
      | some ns => some (n :: ns)
      | none => none
    | none => none
noncomputable def isByteTm (t : TypeId) : Bool := match P.underlying t with
  | some d => match d with
    | .int k => match k with
      | .u8 => true
      | _ => false
    | _ => false
  | none => false
noncomputable def strO (src dst : TypeId) (v : Value) : M F Nxt := match sliceT P src with
  | some e => cond (isByteTm P e && isStrTm P dst) (match sliceOf v with
    | some y => bind (rowsO y.1 y.2.1 1) fun l => match byteInts l with
      | some ns => val (.string ⟨(ns.map fun n => UInt8.ofNat n.toNat).toArray⟩)
      | none => fail
    | none => fail) fail
  | none => fail
noncomputable def memHard (o : Oper) (vs : List Value) : M F Nxt := match o.op with
  | .binOp op t _ _ _ => nilH P op t vs
  | .slice t _ lo hi mx => sliceH P t vs lo.isSome hi.isSome mx.isSome
  | .call c => match c.callee with
    | .builtin b => match twoM vs with
      | some x => match c.argTypes[0]? with
        | some t => match c.argTypes[1]? with
          | some tx => match b with
            | .append => match natVal x.2 with
              | some n => zerO P t tx x.1 n
              | none => appO P C t tx x.1 x.2
            | .copy => copO P C t tx x.1 x.2
            | _ => fail
          | none => fail
        | none => fail
      | none => match oneM vs with
        | some v => match c.argTypes[0]? with
          | some t => match b with
            | .cap => capO P t v
            | _ => fail
          | none => fail
        | none => fail
    | _ => fail
  | .convert src dst _ => match oneM vs with
    | some v => strO P src dst v
    | none => fail
  | _ => fail
theorem loc_rowO (b off n : Nat) : Loc (rowO b off n : M F (List Value)) := loc_bind (loc_rdAny _) fun y => by
  split
  · exact loc_cond (loc_ret _) loc_fail
  · exact loc_fail
theorem loc_rowsO (base : Option (Nat × Nat)) (n size : Nat) : Loc (rowsO base n size : M F (List Value)) := by
  unfold rowsO
  split
  · exact loc_rowO _ _ _
  · exact loc_cond (loc_ret _) loc_fail
theorem loc_srcO (size : Nat) (tx : TypeId) (x : Value) : Loc (srcO P size tx x : M F (Nat × List Value)) := by
  unfold srcO
  (repeat' split) <;> first | exact loc_fail | exact loc_bind (loc_rowsO _ _ _) fun _ => loc_ret _ | exact loc_cond (loc_ret _) loc_fail
theorem loc_roomO (size b off l n c : Nat) (news : List Value) : Loc (roomO C size b off l n c news) := loc_cond (loc_val _) (loc_bind (loc_storeAt _ _ _ _) fun _ => loc_val _)
theorem loc_newRoom (e : TypeId) (size k : Nat) (cs : List Value) : Loc (newRoom e size k cs : M F Nxt) := loc_bind (loc_fresh _) fun _ => loc_val _
theorem loc_moveO (e : TypeId) (size b l n cc : Nat) (news : List Value) : Loc (moveO C e size b l n cc news) := loc_bind (loc_rdAny _) fun _ => loc_cond (loc_bind (loc_wr _ _) fun _ => loc_newRoom _ _ _ _) loc_fail
theorem loc_appO (t tx : TypeId) (v x : Value) : Loc (appO P C t tx v x) := by
  unfold appO
  (repeat' split) <;> first
    | exact loc_fail
    | exact loc_bind (loc_srcO _ _ _ _) fun s => loc_cond (by first | exact loc_fail | exact loc_cond (loc_cond (loc_roomO _ _ _ _ _ _ _ _) (loc_cond (loc_moveO _ _ _ _ _ _ _ _) loc_fail)) loc_fail)
        (loc_cond (by first | exact loc_roomO _ _ _ _ _ _ _ _ | exact loc_cond (loc_val _) loc_fail) (loc_cond (loc_bind (loc_rowsO _ _ _) fun _ => loc_newRoom _ _ _ _) loc_fail))
theorem loc_cutO (s b off l h m : Nat) : Loc (cutO s b off l h m : M F Nxt) := loc_cond (loc_val _) loc_fail
theorem loc_slcA (s : Nat) (a : Nat × Nat) (n c : Nat) (lo hi mx : Option Nat) : Loc (slcA s a n c lo hi mx : M F Nxt) := by
  unfold slcA
  split
  · refine loc_cond ?_ loc_fail
    split
    · exact loc_cond (loc_cutO _ _ _ _ _ _) loc_fail
    · exact loc_fail
  · exact loc_cond (loc_cond (loc_cond (loc_val _) (loc_cond (loc_val _) loc_fail)) loc_fail) (loc_cutO _ _ _ _ _ _)
theorem loc_slcO (t : TypeId) (v : Value) (lo hi mx : Option Value) : Loc (slcO P t v lo hi mx : M F Nxt) := by
  unfold slcO
  (repeat' split) <;> first | exact loc_fail | exact loc_slcA _ _ _ _ _ _ _
theorem loc_copO (t tx : TypeId) (d x : Value) : Loc (copO P C t tx d x) := by
  unfold copO
  (repeat' split) <;> first
    | exact loc_fail
    | exact loc_bind (loc_rowsO _ _ _) fun _ => loc_cond (loc_val _) (by first | exact loc_fail | exact loc_bind (loc_storeAt _ _ _ _) fun _ => loc_val _)
theorem loc_sliceH (t : TypeId) (vs : List Value) (lo hi mx : Bool) : Loc (sliceH P t vs lo hi mx : M F Nxt) := by
  unfold sliceH
  (repeat' split) <;> first | exact loc_fail | exact loc_slcO _ _ _ _ _ _ | exact loc_cond loc_fail (loc_slcO _ _ _ _ _ _)
theorem loc_nilP (op : BinOp) (t : TypeId) (u v : Value) : Loc (nilP P op t u v : M F Nxt) := by
  unfold nilP
  refine loc_cond ?_ loc_fail
  (repeat' split) <;> first | exact loc_fail | exact loc_val _
theorem loc_nilH (op : BinOp) (t : TypeId) (vs : List Value) : Loc (nilH P op t vs : M F Nxt) := by
  unfold nilH
  (repeat' split) <;> first | exact loc_fail | exact loc_nilP _ _ _ _ _ | exact loc_cond (by (repeat' split) <;> first | exact loc_fail | exact loc_val _) loc_fail
theorem loc_zerO (t tx : TypeId) (v : Value) (n : Nat) : Loc (zerO P t tx v n : M F Nxt) := by
  unfold zerO
  (repeat' split) <;> first | exact loc_fail | exact loc_cond (loc_newRoom _ _ _ _) loc_fail
theorem loc_capO (t : TypeId) (v : Value) : Loc (capO P t v : M F Nxt) := by
  unfold capO
  (repeat' split) <;> first | exact loc_fail | exact loc_cond (loc_val _) loc_fail
theorem loc_strO (src dst : TypeId) (v : Value) : Loc (strO P src dst v : M F Nxt) := by
  unfold strO
  split
  · refine loc_cond ?_ loc_fail
    split
    · exact loc_bind (loc_rowsO _ _ _) fun _ => by
        split
        · exact loc_val _
        · exact loc_fail
    · exact loc_fail
  · exact loc_fail
theorem loc_memHard (o : Oper) (vs : List Value) : Loc (memHard P C o vs) := by
  unfold memHard
  (repeat' split) <;> first | exact loc_fail | exact loc_capO _ _ _ | exact loc_nilH _ _ _ _ | exact loc_sliceH _ _ _ _ _ _ | exact loc_appO _ _ _ _ _ _ | exact loc_zerO _ _ _ _ _ | exact loc_copO _ _ _ _ _ _ | exact loc_strO _ _ _ _
end
section
variable {F : Type} {S : Sig F} {P : Program} {C : Cfg F}
variable {h h' : Tr (Blk F)} {nx nx' : Nat} {R W : List Nat} {r : Ren} {w : World} {x : Nxt}
theorem slice_cases {b off l c : Nat} {v' : Value} (h : VR r (vslice b off l c) v') : ∃ b' c', r.blk b = some b' ∧ v' = vslice b' off l c' ∧
    ((c < capX ∧ c' = c) ∨ ∃ s c0, c = capX * (s + 1) + c0 ∧ c0 < capX ∧ c0 ≤ c' ∧ off + c' * s ≤ r.len b) := by
  unfold vslice at h
  cases h with
  | same p => simp [plain] at p
  | slice hb hc => exact ⟨_, _, hb, rfl, .inl ⟨hc, rfl⟩⟩
  | slicex hb hc h1 h2 => exact ⟨_, _, hb, rfl, .inr ⟨_, _, rfl, hc, h1, h2⟩⟩
theorem eszT_of {e size bytes : Nat} {z : Value} (h : eszT P e = some (size, bytes, z)) : ∃ i, P.info? e = some i ∧ i.zero = some z ∧ i.size = size ∧ i.bytes = bytes ∧ z.cells.size = size ∧ plain2 z = true := by
  unfold eszT at h
  split at h
  case h_2 => cases h
  case h_1 i hi =>
    split at h
    case h_2 => cases h
    case h_1 z' hz =>
      cases hk : (plain2 z' && Nat.beq (cellsOf z').length i.size) with
      | false => rw [hk] at h; cases h
      | true =>
        rw [hk] at h
        simp only [cond_true, Option.some.injEq, Prod.mk.injEq] at h
        obtain ⟨rfl, rfl, rfl⟩ := h
        simp only [Bool.and_eq_true] at hk
        refine ⟨i, hi, hz, rfl, rfl, ?_, hk.1⟩
        rw [← Nat.eq_of_beq_eq_true hk.2, ← cells_list, Array.length_toList]
theorem rowO_ok {b off n : Nat} {l : List Value} {b' : Nat} (e : (rowO b off n : M F _) h nx = .ok l h' nx' R W) (hM : Mod S r h.get w) (hb : r.blk b = some b') :
    h' = h ∧ nx' = nx ∧ W = [] ∧ l.length = n ∧ ∃ l', VsR r l l' ∧ (∀ u ∈ l', u.oneCell' = true) ∧ ∀ j u, l'[j]? = some u → w.cell? ⟨b', off + j, none⟩ = some u := by
  unfold rowO at e
  obtain ⟨y, h1, nx1, R1, W1, R2, W2, e1, e2, rfl, rfl⟩ := bind_ok e
  obtain ⟨hg, rfl, rfl, rfl⟩ := rdAny_ok e1
  cases hr : getRow y.1 off n with
  | none => rw [hr] at e2; simp [fail] at e2
  | some l2 =>
    rw [hr] at e2
    obtain ⟨hk, e3⟩ := cond_ok e2
    obtain ⟨rfl, rfl, rfl, rfl⟩ := ret_ok e3
    obtain ⟨rfl, hl⟩ := getRow_ok hr
    obtain ⟨b3, c', hb3, hh, hc, -⟩ := hM.any hg
    obtain rfl : b3 = b' := by rw [hb] at hb3; injection hb3 with e; exact e.symm
    have hsg := pre_seg hc hl
    refine ⟨rfl, rfl, rfl, hl, _, hsg, hsg.ones hk, fun j u hj => ?_⟩
    simp only [World.cell?, hh]
    rw [List.getElem?_take] at hj
    split at hj
    · rw [List.getElem?_drop] at hj; simpa using hj
    · cases hj
theorem rowsO_ok {v' : Value} {base : Option (Nat × Nat)} {n k c size : Nat} {l : List Value} (e : (rowsO base n size : M F _) h nx = .ok l h' nx' R W) (hM : Mod S r h.get w)
    (hv : VR r (.slice (base.map fun y => ⟨y.1, y.2, none⟩) k c) v') : h' = h ∧ nx' = nx ∧ W = [] ∧ l.length = n * size ∧ ∃ a' c' l', v' = .slice a' k c' ∧ VsR r l l' ∧ (∀ u ∈ l', u.oneCell' = true) ∧
      (match a' with | some a => ∀ j u, l'[j]? = some u → w.cell? (a.add j) = some u | none => n = 0 ∧ l' = []) := by
  cases base with
  | none =>
    unfold rowsO at e
    obtain ⟨hk, e3⟩ := cond_ok e
    obtain ⟨rfl, rfl, rfl, rfl⟩ := ret_ok e3
    obtain rfl := Nat.eq_of_beq_eq_true hk
    obtain rfl := VR.nilslc hv
    exact ⟨rfl, rfl, rfl, by simp, none, c, [], rfl, .nil, by simp, rfl, rfl⟩
  | some y =>
    obtain ⟨b, off⟩ := y
    obtain ⟨b', c', hb, rfl, -⟩ := slice_cases (b := b) (off := off) hv
    obtain ⟨rfl, rfl, rfl, hl, l', h1, h2, h3⟩ := rowO_ok (show (rowO b off (n * size) : M F _) h nx = _ from e) hM hb
    exact ⟨rfl, rfl, rfl, hl, _, c', l', rfl, h1, h2, fun j u hj => by rw [add_off]; exact h3 j u hj⟩
theorem byteCells_plain (s : ByteArray) : VsR r (byteCells s) (byteCells s) := by
  unfold byteCells
  generalize s.data.toList = l
  induction l with
  | nil => exact .nil
  | cons a l ih => exact .cons (.same rfl) ih
theorem isStrT_of {t : TypeId} (h : isStrTm P t = true) : P.underlying t = some .string := by
  unfold isStrTm at h
  (repeat' split at h) <;> first | (cases h; done) | assumption
theorem srcO_ok {size : Nat} {tx : TypeId} {v v' : Value} {s : Nat × List Value} (e : srcO P size tx v h nx = .ok s h' nx' R W) (hM : Mod S r h.get w) (hv : VR r v v') :
    h' = h ∧ nx' = nx ∧ W = [] ∧ ∃ l', Src P size tx v' s.1 l' w ∧ VsR r s.2 l' := by
  unfold srcO at e
  cases hs : sliceOf v with
  | some y =>
    rw [hs] at e; simp only at e
    cases ht : sliceT P tx with
    | none => rw [ht] at e; simp [fail] at e
    | some el =>
      rw [ht] at e; simp only at e
      obtain ⟨l, h1, nx1, R1, W1, R2, W2, e1, e2, rfl, rfl⟩ := bind_ok e
      obtain ⟨rfl, rfl, rfl, rfl⟩ := ret_ok e2
      rw [sliceOf_of hs] at hv
      obtain ⟨rfl, rfl, rfl, hl, a', c', l', rfl, g1, g2, g3⟩ := rowsO_ok e1 hM hv
      refine ⟨rfl, rfl, by simp, l', ?_, g1⟩
      cases a' with
      | none => obtain ⟨g4, rfl⟩ := g3; rw [show y.2.1 = 0 from g4]; exact Src.ofNil w (sliceT_of ht) _
      | some a => exact Src.ofSlice w (sliceT_of ht) a _ _ l' (by rw [g1.length, hl]) g3 g2
  | none =>
    rw [hs] at e; simp only at e
    cases v with
    | string t =>
      simp only at e
      obtain ⟨hk, e3⟩ := cond_ok e
      obtain ⟨rfl, rfl, rfl, rfl⟩ := ret_ok e3
      simp only [Bool.and_eq_true] at hk
      obtain rfl := Nat.eq_of_beq_eq_true hk.1
      obtain rfl := hv.str
      exact ⟨rfl, rfl, rfl, _, Src.ofString w (isStrT_of hk.2) t, byteCells_plain t⟩
    | _ => simp [fail] at e
theorem run_room {t tx ty e : TypeId} {i : TypeInfo} (ht : P.underlying t = some (.slice e)) (hi : P.info? e = some i) {b off sLen sCap : Nat} {x : Value} {n : Nat} {news : List Value} {w w' : World} (hs : Src P i.size tx x n news w)
    (hroom : sLen + n ≤ sCap) (hst : (storeCells ⟨b, off + sLen * i.size, none⟩ news).run P w = .ok () w') :
    (Builtin.append_ #[t, tx] ty #[.slice (some ⟨b, off, none⟩) sLen sCap, x]).run P w = .ok (.slice (some ⟨b, off, none⟩) (sLen + n) sCap) w' := by
  rcases hs.kind with ⟨e', hk⟩ | hk <;> simp [Builtin.append_, run_underlying ht, run_underlying hk, sizeOf, typeInfo, hi, hs.len, hroom, hs.cells, Addr.add_lit, hst]
theorem run_store_none {a : Addr} {w : World} : (storeCells a []).run P w = .ok () w := by
  simp [storeCells]
theorem run_room_nil {t tx ty e : TypeId} {i : TypeInfo} (ht : P.underlying t = some (.slice e)) (hi : P.info? e = some i) {sLen sCap : Nat} {x : Value} {news : List Value} {w : World} (hs : Src P i.size tx x 0 news w) (hroom : sLen ≤ sCap) :
    (Builtin.append_ #[t, tx] ty #[.slice none sLen sCap, x]).run P w = .ok (.slice none sLen sCap) w := by
  rcases hs.kind with ⟨e', hk⟩ | hk <;> simp [Builtin.append_, run_underlying ht, run_underlying hk, sizeOf, typeInfo, hi, hs.len, hroom, hs.cells]
theorem roomO_ok {t tx ty e : TypeId} {i : TypeInfo} (ht : P.underlying t = some (.slice e)) (hi : P.info? e = some i) {b off l n c : Nat} {news news' : List Value} {x' v' : Value} {s : Nat} (hsz : i.size = s) (hs : Src P i.size tx x' n news' w) (hn : VsR r news news')
    (e1 : roomO C s b off l n c news h nx = .ok x h' nx' R W) (hG : C.G = S.G) (hC : C.hid = S.hn) (hM : Mod S r h.get w) {b' c' : Nat} (hb : r.blk b = some b') (hv : v' = vslice b' off l c') (hc : l + n ≤ c')
    (hval : ∀ k, VR r (vslice b off k c) (vslice b' off k c')) :
    nx ≤ nx' ∧ ∃ u u' w', x = .val u ∧ (Builtin.append_ #[t, tx] ty #[v', x']).run P w = .ok u' w' ∧ VR r u u' ∧ Ext S r w nx nx' W h'.get r w' := by
  subst hsz
  subst hv
  unfold roomO at e1
  cases hz : Nat.beq n 0 with
  | true =>
    rw [hz] at e1
    obtain ⟨rfl, rfl, rfl, rfl⟩ := val_ok e1
    obtain rfl := Nat.eq_of_beq_eq_true hz
    have h0 : news' = [] := by have := hs.newsLen; simpa using this
    subst h0
    exact ⟨Nat.le_refl _, _, _, w, rfl, run_room ht hi hs hc run_store_none, hval l, Ext.refl _ _ hM⟩
  | false =>
    rw [hz] at e1
    obtain ⟨u, h1, nx1, R1, W1, R2, W2, e2, e3, rfl, rfl⟩ := bind_ok (show bind (storeAt C b (off + l * i.size) news) (fun _ => val (vslice b off (l + n) c)) h nx = _ from e1)
    obtain ⟨rfl, rfl, rfl, rfl⟩ := val_ok e3
    obtain ⟨rfl, w', hrun, hX⟩ := storeAt_ok (P := P) e2 hG hC hM hb hn
    exact ⟨Nat.le_refl _, _, _, w', rfl, run_room ht hi hs hc (hrun ()), hval _, by simpa using hX⟩
theorem zero_len (z : Array Value) (n : Nat) : (Builtin.zeroCells z n).size = n * z.size := by simp [Builtin.zeroCells]
theorem pre_more {c c' : List Value} (hc : VsR r c c') (m : List Value) : VsR r c ((c' ++ m).take c.length) := by
  rw [List.take_append_of_le_length (by rw [hc.length]; exact Nat.le_refl _), List.take_of_length_le (by rw [hc.length]; exact Nat.le_refl _)]; exact hc
theorem fits_of {bytes k old : Nat} (h : roomB bytes k = true) (ho : old < k) : ((k : Nat) : Int) ≤ 9223372036854775807 ∧ Builtin.nextslicecap k old * bytes ≤ 281474976710656 ∧ k < capX := by
  unfold roomB at h
  simp only [Bool.and_eq_true] at h
  have h1 := Nat.le_of_ble_eq_true h.1
  have h2 := Nat.le_of_ble_eq_true h.2
  refine ⟨by omega, growslice_fits ho (by omega), by unfold capX; omega⟩
theorem grow_ok {t tx ty e : TypeId} {i : TypeInfo} {z : Value} (ht : P.underlying t = some (.slice e)) (hi : P.info? e = some i) (hz : i.zero = some z) (hzs : z.cells.size = i.size) {a' : Option Addr} {l n c' : Nat} {olds olds' news news' : List Value} {x' : Value}
    (hs : Src P i.size tx x' n news' w) (hn : VsR r news news') (ho : VsR r olds olds') (hol : olds.length = l * i.size)
    (hold : match a' with | some a => ∀ j u, olds'[j]? = some u → w.cell? (a.add j) = some u | none => l = 0 ∧ olds' = [])
    (hg : c' < l + n) (hf : roomB i.bytes (l + n) = true) (hM : Mod S r h.get w) (hN : New r nx (nx + 1)) :
    ∃ u' r' w', (Builtin.append_ #[t, tx] ty #[.slice a' l c', x']).run P w = .ok u' w' ∧ VR r' (vslice nx 0 (l + n) (capX * (i.size + 1) + (l + n))) u' ∧
      Ext S r w nx (nx + 1) [] (fun k => if k = nx then some (.room (olds ++ news) e) else h.get k) r' w' := by
  obtain ⟨f1, f2, f3⟩ := fits_of hf hg
  have hold' : (Builtin.firstCells i.size l (.slice a' l c')).run P w.drew = .ok olds'.toArray w.drew := by
    cases a' with
    | none => obtain ⟨rfl, rfl⟩ := hold; exact run_firstCells_none w.drew i.size 0 0 c'
    | some a => exact run_firstCells_some w.drew i.size l a l c' olds' (by rw [ho.length, hol]) (by simpa using hold)
  have hrun := run_append_grow_src (P := P) w t tx ty e i z ht hi hz a' l c' olds' hold' x' n news' hs hg f1 f2
  have hge := grownCap_ge w (l + n) c' e
  have hnl := hs.newsLen
  have hlen : ((olds' ++ news').toArray ++ Builtin.zeroCells z.cells (grownCap w (l + n) c' e - (l + n))).size = grownCap w (l + n) c' e * i.size := by
    rw [Array.size_append, zero_len, hzs]
    simp only [List.size_toArray, List.length_append, ho.length, hol, hnl]
    rw [← Nat.add_mul, ← Nat.add_mul]
    congr 1
    omega
  have hcells : ((olds' ++ news').toArray ++ Builtin.zeroCells z.cells (grownCap w (l + n) c' e - (l + n))) = ⟨(olds' ++ news') ++ (Builtin.zeroCells z.cells (grownCap w (l + n) c' e - (l + n))).toList⟩ := by
    apply Array.ext'
    simp
  obtain ⟨r', hX, hb, hlr⟩ := ext_new (w0 := w.drew) (x := .room (olds ++ news) e) (c' := (olds' ++ news') ++ (Builtin.zeroCells z.cells (grownCap w (l + n) c' e - (l + n))).toList) hM hN rfl rfl rfl rfl (.inr ⟨_, rfl, pre_more (ho.append hn) _⟩)
  refine ⟨_, r', _, hrun, .slicex hb f3 hge ?_, ?_⟩
  · rw [hlr, Nat.zero_add, ← hlen, hcells]
    simp
  · rw [hcells]; exact hX
end
end Ev
end Go.Proofs.YtfmebfkdpfbjbaaGreatDoor
