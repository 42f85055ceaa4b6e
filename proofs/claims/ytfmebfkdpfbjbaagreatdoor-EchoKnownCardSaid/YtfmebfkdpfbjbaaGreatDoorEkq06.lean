/- Contracts, in this order: The interpreter: what each operation does hangs on what it r · The interpreter: a run in a memory that has what another one · The interpreter: operations one after another. No program. · The interpreter: what a region's edges and names say. No pro -/
import Derived.Test.YtfmebfkdpfbjbaaGreatDoorEkq05
import Derived.OrdersIn
import Derived.RangeFuncNested
import Derived.RangeFuncLeaves
namespace Go.Proofs.YtfmebfkdpfbjbaaGreatDoor
open Go
namespace Ev
section
variable {F : Type} (P : Program) (C : Cfg F)
theorem loc_optVal (o : Option Value) : Loc (optVal o : M F Nxt) := by
  cases o with
  | none => exact loc_fail
  | some v => exact loc_val v
theorem loc0_rdAny (b : Nat) : Loc0 (rdAny b : M F (List Value × TypeId × Bool)) := by
  intro h nx x h' nx' R W e hfr
  unfold rdAny at e
  cases hg : h.get b with
  | none => rw [hg] at e; cases e
  | some y =>
    rw [hg] at e
    have hlt : b < nx := by
      rcases Nat.lt_or_ge b nx with hl | hl
      · exact hl
      · rw [hfr b hl] at hg; cases hg
    cases y with
    | fact f => cases e
    | opq => cases e
    | lp s => cases e
    | ow f => cases e
    | ad m x => cases e
    | cells c t =>
      simp only at e
      cases e
      refine ⟨Nat.le_refl _, hfr, by simpa using hlt, by simp, fun _ _ _ => rfl, fun n hn => by rcases hn with hn | hn | hn <;> first | (simp at hn; done) | omega | exact hn, fun h2 hR hN => ⟨h2, ?_, fun k hk hl => ?_, fun _ _ _ => rfl⟩⟩
      · unfold rdAny; rw [hR b (by simp) hlt, hg]
      · rcases hk with hk | hk
        · simp at hk
        · omega
    | room c t =>
      simp only at e
      cases e
      refine ⟨Nat.le_refl _, hfr, by simpa using hlt, by simp, fun _ _ _ => rfl, fun n hn => by rcases hn with hn | hn | hn <;> first | (simp at hn; done) | omega | exact hn, fun h2 hR hN => ⟨h2, ?_, fun k hk hl => ?_, fun _ _ _ => rfl⟩⟩
      · unfold rdAny; rw [hR b (by simp) hlt, hg]
      · rcases hk with hk | hk
        · simp at hk
        · omega
theorem loc_rdAny (b : Nat) : Loc (rdAny b : M F (List Value × TypeId × Bool)) := ⟨fun h nx x h' nx' R W e => by
  obtain ⟨_, _, h3, _⟩ := rdAny_ok e
  exact Nat.le_of_eq h3.symm, loc0_rdAny b⟩
theorem loc_fact (v : Value) : Loc (fact v : M F F) := by
  unfold fact
  split
  · exact loc_bind (loc_rd _) fun b => by
      cases b with
      | cells _ _ => exact loc_fail
      | room _ _ => exact loc_fail
      | opq => exact loc_fail
      | lp s => exact loc_fail
      | ow f => exact loc_fail
      | ad m x => exact loc_fail
      | fact f => exact loc_ret _
  · exact loc_fail
theorem loc_newFact (f : F) : Loc (newFact f : M F Value) := loc_bind (loc_fresh _) fun _ => loc_ret _
theorem loc_loadA (t : TypeId) (a : Value) : Loc (loadA P t a : M F Value) := by
  unfold loadA
  split
  · refine loc_bind (loc_rdAny _) fun x => ?_
    split
    · exact loc_ret _
    · exact loc_fail
  · exact loc_fail
theorem loc_storeAt (b off : Nat) (vs : List Value) : Loc (storeAt C b off vs : M F Unit) := by
  unfold storeAt
  refine loc_bind (loc_rdAny _) fun x => ?_
  split
  · exact loc_cond (loc_wr _ _) loc_fail
  · exact loc_fail
theorem loc_storeA (t : TypeId) (a v : Value) : Loc (storeA P C t a v : M F Unit) := by
  unfold storeA
  split
  · split
    · exact loc_cond (loc_storeAt _ _ _ _) loc_fail
    · exact loc_fail
  · exact loc_fail
theorem loc_loadG (t : TypeId) (a : Value) : Loc (loadG P C t a : M F Value) := by
  unfold loadG
  (repeat' split) <;> first | exact loc_ret _ | exact loc_fail | exact loc_loadA _ _ _
theorem loc_boxO (t : TypeId) (v : Value) : Loc (boxO t v : M F Nxt) := loc_cond loc_fail (loc_bind (loc_fresh _) fun _ => loc_val _)
theorem loc_softO [HardLoc C] (ts : Tr Value) (o : Oper) : Loc (softO P C ts o : M F Nxt) := by
  unfold softO softV hardO
  refine loc_cond ?_ (HardLoc.loc _ _)
  (repeat' split) <;> first | exact loc_fail | exact HardLoc.loc _ _ | exact loc_cond (loc_val _) loc_fail
theorem loc_lenO {k : M F Nxt} (hk : Loc k) (v : Value) : Loc (lenO C k v : M F Nxt) := by
  unfold lenO
  split
  · exact loc_val _
  · refine loc_bind (loc_fact _) fun f => ?_
    split
    · exact loc_val _
    · exact hk
  · exact loc_fail
theorem loc_lenW {k : M F Nxt} (hk : Loc k) (v : Value) : Loc (lenW C k v : M F Nxt) := by
  unfold lenW
  split
  · refine loc_bind (loc_rd _) fun _ => loc_cond hk ?_
    first | exact loc_lenO hk _ | exact loc_lenO _ hk _
  · first | exact loc_lenO hk _ | exact loc_lenO _ hk _
theorem loc_disp [HardLoc C] (op : Op) (o : Oper) (ts : Tr Value) : Loc (disp op P C o ts : M F Nxt) := by
  cases op with
  | move x => exact loc_val _
  | assign x => exact loc_val _
  | pick c a b => show Loc (pickO _ _ _); unfold pickO; split <;> first | exact loc_val _ | exact loc_fail
  | alloc t => show Loc (allocO P t); unfold allocO; split <;> first | exact loc_boxO _ _ | exact loc_fail
  | box t x => exact loc_boxO _ _
  | build t ps =>
    show Loc (buildO P ts t ps); unfold buildO
    split
    · refine loc_cond ?_ loc_fail
      split <;> first | exact loc_val _ | exact loc_fail
    · exact loc_fail
  | buildSlice t n ps =>
    show Loc (bslO P ts t n ps); unfold bslO
    refine loc_cond ?_ loc_fail
    (repeat' split) <;> first | exact loc_fail | (refine loc_cond ?_ (loc_cond ?_ loc_fail) <;> (repeat' split) <;> first | exact loc_fail | exact loc_bind (loc_fresh _) fun _ => loc_val _)
  | load t a => exact loc_cond (HardLoc.loc _ _) (loc_bind (loc_loadG _ _ _ _) fun _ => loc_val _)
  | store t a x => exact loc_cond (HardLoc.loc _ _) (loc_bind (loc_storeA _ _ _ _ _) fun _ => loc_ret _)
  | nilCheck x => refine loc_cond (HardLoc.loc _ _) ?_; show Loc (nilO _); unfold nilO; (repeat' split) <;> first | exact loc_val _ | exact loc_fail
  | binOp op t x y yt =>
    show Loc (binO P C ts o op _ _); unfold binO
    split
    · exact loc_cond (loc_val _) loc_fail
    · exact loc_softO _ _ _ _
  | unOp op t x =>
    show Loc (unO P C ts o op _); unfold unO
    (repeat' split) <;> first | exact loc_val _ | exact loc_softO _ _ _ _
  | convert t u x => exact loc_softO _ _ _ _
  | makeInterface t x => show Loc (mkiO P t _); unfold mkiO; (repeat' split) <;> first | exact loc_val _ | exact loc_fail
  | makeFunc fn a b => exact loc_val _
  | makeSlice t l c =>
    refine loc_cond (HardLoc.loc _ _) ?_
    show Loc (mslO P t _ _); unfold mslO
    (repeat' split) <;> first | exact loc_fail | (refine loc_cond ?_ loc_fail; exact loc_bind (loc_fresh _) fun _ => loc_val _)
  | slice t x lo hi mx => exact loc_softO _ _ _ _
  | fieldAddr s x f =>
    refine loc_cond (HardLoc.loc _ _) ?_
    show Loc (faddrO P s _ f); unfold faddrO
    (repeat' split) <;> first | exact loc_fail | (refine loc_cond loc_fail ?_; (repeat' split) <;> first | exact loc_val _ | exact loc_fail)
  | field t x f => show Loc (fieldO P t _ f); unfold fieldO; (repeat' split) <;> first | exact loc_optVal _ | exact loc_fail
  | indexAddr t x i =>
    refine loc_cond (HardLoc.loc _ _) ?_
    show Loc (iaddrO P t _ _); unfold iaddrO
    (repeat' split) <;> first | exact loc_fail | exact loc_cond (loc_val _) loc_fail
  | index t x i =>
    show Loc (cond _ (softO P C ts o) (indexO P t _ _))
    refine loc_cond (loc_softO _ _ _ _) ?_
    unfold indexO
    (repeat' split) <;> first | exact loc_fail | exact loc_cond (loc_optVal _) loc_fail
  | extract t i => show Loc (extractO _ i); unfold extractO; split <;> first | exact loc_optVal _ | exact loc_fail
  | call c =>
    show Loc (callO P C ts o c); unfold callO
    split
    · unfold calO
      (repeat' split) <;> first | exact loc_ret _ | exact loc_fail
    · unfold bltO
      (repeat' split) <;> first | exact loc_fail | exact HardLoc.loc _ _ | exact loc_softO _ _ _ _ | (refine loc_cond (loc_softO _ _ _ _) ?_; (repeat' split) <;> first | exact loc_lenW (show Loc (hardO C ts o) from HardLoc.loc _ _) _ | exact loc_lenW _ (show Loc (hardO C ts o) from HardLoc.loc _ _) _ | exact loc_fail | exact HardLoc.loc _ _)
    · exact loc_fail
  | _ => exact loc_fail
def YLoc (ys : Ylds F) : Prop := ∀ x ∈ ys, ∀ args, Loc (x.2 args)
structure ClLoc (call : Cl F) : Prop where
  go : ∀ ys, YLoc ys → ∀ f args, Loc (call.go ys f args)
  ys : YLoc call.ys
  jmp : ∀ x m, call.jmp x = some m → ∀ ts, Loc (m ts)
theorem yldOf_cons (x : Nat × (List Value → M F Value)) (l : Ylds F) (i : Nat) : yldOf (x :: l) i = cond (Nat.beq x.1 i) (some x.2) (yldOf l i) := by
  show Bool.rec (motive := fun _ => Option (List Value → M F Value)) (yldOf l i) (some x.2) (Nat.beq x.1 i) = _
  cases Nat.beq x.1 i <;> rfl
theorem yldOf_mem : ∀ {ys : Ylds F} {i : Nat} {m : List Value → M F Value}, yldOf ys i = some m → (i, m) ∈ ys
  | [], _, _, h => by cases h
  | x :: l, i, m, h => by
    rw [yldOf_cons] at h
    cases hb : Nat.beq x.1 i with
    | false => rw [hb] at h; exact List.mem_cons_of_mem _ (yldOf_mem h)
    | true =>
      rw [hb] at h
      cases h
      obtain rfl := Nat.eq_of_beq_eq_true hb
      exact List.mem_cons_self
theorem loc_turnLp (i : Nat) (p : Lst → Bool) (b : Lst) : Loc (turnLp i p b : M F Unit) := loc_bind (loc_rd _) fun x => by
  split
  · exact loc_cond (loc_wr _ _) loc_fail
  · exact loc_fail
theorem loc_endLp (i : Nat) : Loc (endLp i : M F Lst) := loc_bind (loc_rd _) fun x => by
  split
  · exact loc_bind (loc_wr _ _) fun _ => loc_ret _
  · exact loc_fail
theorem loc_roundM {i : Nat} {ps : Array Nat} {ia ib : Tr Value → M F (Ex × Tr Value)} (ha : ∀ ts, Loc (ia ts)) (hb : ∀ ts, Loc (ib ts)) (ts : Tr Value) (args : List Value) : Loc (roundM i ps ia ib ts args) := by
  unfold roundM
  refine loc_cond (loc_bind (ha _) fun x => ?_) loc_fail
  split
  · exact loc_bind (loc_turnLp _ _ _) fun _ => loc_bind (hb _) fun y => loc_bind (loc_turnLp _ _ _) fun _ => loc_ret _
  · exact loc_fail
  · exact loc_fail
variable {call : Cl F}
theorem loc_rngO (hc : ClLoc call) (N : Nat) (g : Operand) (ps : Array Nat) {ia ib : Tr Value → M F (Ex × Tr Value)} (ha : ∀ ts, Loc (ia ts)) (hb : ∀ ts, Loc (ib ts)) (ts : Tr Value) : Loc (rngO C call N g ps ia ib ts) := by
  unfold rngO
  (repeat' split) <;> first
    | exact loc_fail
    | exact loc_cond (loc_bind (loc_fresh _) fun i => loc_bind (hc.go _ (fun x hx args => by
        rcases List.mem_cons.1 hx with rfl | hx
        · exact loc_roundM ha hb ts args
        · exact hc.ys x hx args) _ _) fun _ => loc_bind (loc_endLp _) fun s => by
        (repeat' split) <;> first | exact loc_ret _ | exact loc_fail) loc_fail
theorem loc_doCall (hc : ClLoc call) (f : FuncId) (args : List Value) : Loc (doCall P C call f args) := by
  unfold doCall
  split
  · exact loc_fail
  · split
    · exact loc_scp (hc.go _ hc.ys _ _)
    · refine loc_cond ?_ loc_fail
      (repeat' split) <;> first | exact loc_fail | exact loc_cond (loc_ret _) loc_fail
theorem loc_step1 [HardLoc C] (hc : ClLoc call) (ops : Array Oper) (ts : Tr Value) (o : Oper) : Loc (step1 P C call ops ts o) := by
  unfold step1
  split
  · refine loc_cond (loc_bind (loc_disp _ _ _ _ _) fun x => ?_) (loc_ret _)
    unfold after1
    split
    · exact loc_ret _
    · exact loc_ret _
    · exact loc_doCall _ _ hc _ _
    · split
      · rename_i h
        exact loc_scp (hc.ys _ (yldOf_mem h) _)
      · exact loc_fail
  · exact loc_fail
theorem loc_seqOps [HardLoc C] (hc : ClLoc call) (ops : Array Oper) : ∀ (l : List Oper) (ts : Tr Value), Loc (seqOps P C call ops l ts)
  | [], _ => loc_ret _
  | _ :: l, _ => loc_bind (loc_step1 P C hc ops _ _) fun _ => loc_seqOps hc ops l _
end
end Ev
end Go.Proofs.YtfmebfkdpfbjbaaGreatDoor
namespace Go.Proofs.YtfmebfkdpfbjbaaGreatDoor
open Go
namespace Ev
section
variable {F α β : Type}
structure Run (m : M F α) (h : Tr (Blk F)) (nx : Nat) (a : α) (h' : Tr (Blk F)) (nx' : Nat) (R W : List Nat) : Prop where
  ok : m h nx = .ok a h' nx' R W
  from_ : ∃ hc hc', Fr hc nx ∧ m hc nx = .ok a hc' nx' R W ∧ (∀ n ∈ R, n < nx → h.get n = hc.get n) ∧ (∀ n, nx ≤ n → n < nx' → h.get n = none) ∧
    (∀ n, (n ∈ W ∨ nx ≤ n) → n < nx' → h'.get n = hc'.get n) ∧ (∀ n, n ∉ W → ¬ (nx ≤ n ∧ n < nx') → h'.get n = h.get n)
theorem Run.of {m : M F α} (hm : Loc m) {hc hc' : Tr (Blk F)} {nx nx' : Nat} {a : α} {R W : List Nat} (e : m hc nx = .ok a hc' nx' R W) (hf : Fr hc nx) {h : Tr (Blk F)} (h1 : ∀ n ∈ R, n < nx → h.get n = hc.get n) (h2 : ∀ n, nx ≤ n → n < nx' → h.get n = none) :
    ∃ h', Run m h nx a h' nx' R W ∧ (∀ n, (n ∈ W ∨ nx ≤ n) → n < nx' → h'.get n = hc'.get n) ∧ (∀ n, n ∉ W → ¬ (nx ≤ n ∧ n < nx') → h'.get n = h.get n) := by
  obtain ⟨h', c, t, u⟩ := (hm.2 _ _ _ _ _ _ _ e hf).again h h1 h2
  exact ⟨h', ⟨c, hc, hc', hf, e, h1, h2, t, u⟩, t, u⟩
theorem Run.self {m : M F α} (hm : Loc m) {hc hc' : Tr (Blk F)} {nx nx' : Nat} {a : α} {R W : List Nat} (e : m hc nx = .ok a hc' nx' R W) (hf : Fr hc nx) : Run m hc nx a hc' nx' R W := by
  have L := hm.2 _ _ _ _ _ _ _ e hf
  refine ⟨e, hc, hc', hf, e, fun _ _ _ => rfl, fun n h1 h2 => hf n h1, fun _ _ _ => rfl, fun n h1 h2 => ?_⟩
  by_cases hl : n < nx
  · exact L.keep n hl h1
  · rw [hf n (by omega)]
    exact L.fr n (by omega)
theorem Run.bind {m : M F α} {f : α → M F β} (hm : Loc m) (hf : ∀ a, Loc (f a)) {h h' : Tr (Blk F)} {nx nx' : Nat} {b : β} {R W : List Nat} (H : Run (Ev.bind m f) h nx b h' nx' R W) :
    ∃ a h1 nx1 R1 W1 R2 W2, Run m h nx a h1 nx1 R1 W1 ∧ Run (f a) h1 nx1 b h' nx' R2 W2 ∧ R = R1 ++ R2 ∧ W = W1 ++ W2 ∧ nx ≤ nx1 ∧ nx1 ≤ nx' := by
  obtain ⟨ok, hc, hc', hfr, ec, hR, hN, ht, hu⟩ := H
  obtain ⟨a, hc1, nx1, R1, W1, R2, W2, e1, e2, rfl, rfl⟩ := bind_ok ec
  have l1 := hm.1 _ _ _ _ _ _ _ e1
  have l2 := (hf a).1 _ _ _ _ _ _ _ e2
  have L1 := hm.2 _ _ _ _ _ _ _ e1 hfr
  obtain ⟨h1, r1, t1, u1⟩ := Run.of hm e1 hfr (h := h) (fun n hn hl => hR n (List.mem_append_left _ hn) hl) (fun n a1 a2 => hN n a1 (by omega))
  have hR2 : ∀ n ∈ R2, n < nx1 → h1.get n = hc1.get n := by
    intro n hn hl
    by_cases hw : n ∈ W1 ∨ nx ≤ n
    · exact t1 n hw hl
    · rw [not_or] at hw
      rw [u1 n hw.1 (by omega), hR n (List.mem_append_right _ hn) (by omega), L1.keep n (by omega) hw.1]
  have hN2 : ∀ n, nx1 ≤ n → n < nx' → h1.get n = none := by
    intro n a1 a2
    rw [u1 n (fun hw => by have := L1.ltW n hw; omega) (by omega)]
    exact hN n (by omega) a2
  obtain ⟨h2, r2, t2, u2⟩ := Run.of (hf a) e2 L1.fr (h := h1) hR2 hN2
  have he := bind_of r1.ok r2.ok
  rw [ok] at he
  cases he
  exact ⟨a, h1, nx1, R1, W1, R2, W2, r1, r2, rfl, rfl, l1, l2⟩
theorem Run.scp {m : M F α} (hm : Loc m) {h h' : Tr (Blk F)} {nx nx' : Nat} {a : α} {R W : List Nat} (H : Run (Ev.scp m) h nx a h' nx' R W) :
    ∃ R1 W1, Run m h nx a h' nx' R1 W1 ∧ R = below nx R1 ∧ W = below nx W1 ∧ ∀ n ∈ W1, n < nx' := by
  obtain ⟨ok, hc, hc', hfr, ec, hR, hN, ht, hu⟩ := H
  obtain ⟨R1, W1, e1, rfl, rfl, hb⟩ := scp_ok ec
  obtain ⟨h2, r1, t1, u1⟩ := Run.of hm e1 hfr (h := h) (fun n hn hl => hR n (mem_below.2 ⟨hl, hn⟩) hl) hN
  obtain ⟨R3, W3, e3, _, _, _⟩ := scp_ok ok
  rw [r1.ok] at e3
  cases e3
  exact ⟨R1, W1, r1, rfl, rfl, hb⟩
theorem Run.cond {b : Bool} {m : M F α} {h h' : Tr (Blk F)} {nx nx' : Nat} {a : α} {R W : List Nat} (H : Run (cond b m fail) h nx a h' nx' R W) : b = true ∧ Run m h nx a h' nx' R W := by
  cases b with
  | false => exact absurd H.ok (by simp [fail])
  | true => exact ⟨rfl, H⟩
theorem Run.no {h h' : Tr (Blk F)} {nx nx' : Nat} {a : α} {R W : List Nat} (H : Run (fail : M F α) h nx a h' nx' R W) : False := absurd H.ok (by simp [fail])
end
end Ev
end Go.Proofs.YtfmebfkdpfbjbaaGreatDoor
namespace Go.Proofs.YtfmebfkdpfbjbaaGreatDoor
open Go
namespace Ev
section
variable {F : Type} {S : Sig F} {P : Program} {C : Cfg F}
variable {h h' : Tr (Blk F)} {nx nx' : Nat} {R W : List Nat} {r : Ren} {w : World}
structure CallOK (S : Sig F) (P : Program) (call : Call1 F) : Prop where
  loc : ∀ f args, Loc (call f args)
  run : ∀ f args h nx v h' nx' R W, Run (call f args) h nx v h' nx' R W → ∀ (r : Ren) (w : World) (args' : List Value), VsR r args args' → Mod S r h.get w → New r nx nx' →
    Calls P f ⟨args'⟩ w fun e w' => ∃ v' r', e = .returned v' ∧ VR r' v v' ∧ Ext S r w nx nx' W h'.get r' w'
def RF (ro : Option Nat) : Fence := { Fence.wide with round := ro }
theorem rf_no {ro : Option Nat} {p : Prop} (q : (RF ro).depth.isSome = true) : p := by
  cases ro <;> cases q
theorem rf_calls {ro : Option Nat} {n : Nat} {f : FuncId} {args : Array Value} {w : World} {R' : Ending → World → Prop} (h : Calls P f args w R') : CallsIn (RF ro) n P f args w R' :=
  (callsIn_wide (n := n)).2 h
structure Going (r : Ren) (w : World) (r' : Ren) (w' : World) : Prop where
  le : r.le r'
  keep : ∀ (b : Nat) (o : Obj), w.heap[b]? = some o → (∀ k, r.blk k ≠ some b) → w'.heap[b]? = some o
  new : ∀ (k b : Nat), r'.blk k = some b → (∃ j, r.blk j = some b) ∨ w.heap.size ≤ b
  size : w.heap.size ≤ w'.heap.size
  loops : Loops w w'
theorem Ext.going {r r' : Ren} {w w' : World} {lo hi : Nat} {W : List Nat} {g : Nat → Option (Blk F)} (h : Ext S r w lo hi W g r' w') : Going r w r' w' :=
  ⟨h.le, fun b o hb hn => h.keep b o hb fun n _ => hn n, fun k b hk => by
    rcases h.new k b hk with q | q | ⟨j, _, q⟩
    · exact .inl ⟨k, q⟩
    · exact .inr q
    · exact .inl ⟨j, q⟩, h.size, h.loops⟩
theorem Going.nameless {r r' : Ren} {w w' : World} (h : Going r w r' w') {b : Nat} {o : Obj} (hb : w.heap[b]? = some o) (hn : ∀ k, r.blk k ≠ some b) : w'.heap[b]? = some o ∧ ∀ k, r'.blk k ≠ some b :=
  ⟨h.keep b o hb hn, fun k q => by
    rcases h.new k b q with ⟨j, q⟩ | q
    · exact hn j q
    · have := (Array.getElem?_eq_some_iff.1 hb).1; omega⟩
structure YB (S : Sig F) (r : Ren) (w : World) (i b : Nat) (L : Loop) : Prop where
  val : r.val i = some (.func (.yield b) #[] #[])
  blk : r.blk i = some b
  at_ : ∃ L', w.heap[b]? = some (.loop L') ∧ LStep L L'
  own : S.G ≤ b
theorem YB.mono {r r' : Ren} {w w' : World} {i b : Nat} {L : Loop} (h : YB S r w i b L) (g : Going r w r' w') : YB S r' w' i b L := by
  obtain ⟨L1, h1, s1⟩ := h.at_
  obtain ⟨L2, h2, s2⟩ := g.loops.lp b L1 h1
  exact ⟨g.le.val _ _ h.val, g.le.blk _ _ h.blk, ⟨L2, h2, s1.trans s2⟩, h.own⟩
def YOK (S : Sig F) (P : Program) : Ylds F → Ren → World → Prop
  | [], _, _ => True
  | x :: ys, r, w => YOK S P ys r w ∧ ∃ (b : Nat) (L : Loop) (r0 : Ren), YB S r w x.1 b L ∧ r0.le r ∧ ∀ (r2 : Ren) (w2 : World) (args args' : List Value) (h : Tr (Blk F)) (nx : Nat) (v : Value) (h' : Tr (Blk F)) (nx' : Nat) (R W : List Nat), r0.le r2 → YB S r2 w2 x.1 b L → YOK S P ys r2 w2 →
      Run (x.2 args) h nx v h' nx' R W → VsR r2 args args' → Mod S r2 h.get w2 → New r2 nx nx' →
      YieldAt Fence.wide 0 P b ⟨args'⟩ w2 fun e w' => ∃ v' r', e = .returned v' ∧ VR r' v v' ∧ Ext S r2 w2 nx nx' W h'.get r' w'
theorem YOK.mono : ∀ {ys : Ylds F} {r r' : Ren} {w w' : World}, YOK S P ys r w → Going r w r' w' → YOK S P ys r' w'
  | [], _, _, _, _, _, _ => trivial
  | _ :: _, _, _, _, _, ⟨h, b, L, r0, hb, hle, hs⟩, g => ⟨YOK.mono h g, b, L, r0, hb.mono g, hle.trans g.le, hs⟩
theorem YOK.at_ : ∀ {ys : Ylds F} {r : Ren} {w : World} {i : Nat} {m : List Value → M F Value}, YOK S P ys r w → yldOf ys i = some m → ∃ b, r.val i = some (.func (.yield b) #[] #[]) ∧
    ∀ (args args' : List Value) (h : Tr (Blk F)) (nx : Nat) (v : Value) (h' : Tr (Blk F)) (nx' : Nat) (R W : List Nat), Run (m args) h nx v h' nx' R W → VsR r args args' → Mod S r h.get w → New r nx nx' →
      YieldAt Fence.wide 0 P b ⟨args'⟩ w fun e w' => ∃ v' r', e = .returned v' ∧ VR r' v v' ∧ Ext S r w nx nx' W h'.get r' w'
  | [], _, _, _, _, _, h => by cases h
  | x :: ys, r, w, i, m, ⟨hy, b, L, r0, hb, hle, hs⟩, h => by
    rw [yldOf_cons] at h
    cases hx : Nat.beq x.1 i with
    | false => rw [hx] at h; exact YOK.at_ hy h
    | true =>
      rw [hx] at h
      cases h
      obtain rfl := Nat.eq_of_beq_eq_true hx
      exact ⟨b, hb.val, fun args args' h nx v h' nx' R W => hs r w args args' h nx v h' nx' R W hle hb hy⟩
structure ClOK (S : Sig F) (P : Program) (call : Cl F) : Prop where
  loc : ClLoc call
  run : ∀ ys f args h nx v h' nx' R W, YLoc ys → Run (call.go ys f args) h nx v h' nx' R W → ∀ (r : Ren) (w : World) (args' : List Value), VsR r args args' → Mod S r h.get w → New r nx nx' → YOK S P ys r w →
    Calls P f ⟨args'⟩ w fun e w' => ∃ v' r', e = .returned v' ∧ VR r' v v' ∧ Ext S r w nx nx' W h'.get r' w'
theorem vr_undef : VR r undef undef := .tuple .nil
def GR (r : Ren) (ops : Array Oper) (ts : Tr Value) (a : Act) (o : Oper) : Prop := ∀ j b t, o.guard = some (j, b) → (ops[j]?).bind (·.dst) = some t → VR r (opd ts (.tmp t)) (a.eval (.tmp t))
theorem want_ok {ops : Array Oper} {ts : Tr Value} {a : Act} {o : Oper} {b : Bool} (e : want ops ts o = some b) (hg : GR r ops ts a o) : Region.wanted o (yielded ops a.tmps) = b := by
  unfold want at e
  unfold Region.wanted
  cases hgd : o.guard with
  | none => rw [hgd] at e; simpa using e
  | some jb =>
    obtain ⟨j, c⟩ := jb
    rw [hgd] at e
    simp only at e ⊢
    unfold yielded
    cases hd : (ops[j]?).bind (·.dst) with
    | none => rw [hd] at e; simp only [Option.some.injEq] at e; subst e; simp
    | some t =>
      rw [hd] at e
      simp only at e
      have hv := hg j c t hgd hd
      have hev : a.eval (.tmp t) = a.tmps.getD t undef := rfl
      cases ho : opd ts (.tmp t) with
      | bool x =>
        rw [ho] at e hv
        have h1 := hv.bool
        rw [hev] at h1
        simp only [Option.some.injEq] at e
        have h2 : a.tmps[t]? = some (.bool x) := by
          rw [Array.getD_eq_getD_getElem?] at h1
          cases h3 : a.tmps[t]? with
          | none => rw [h3] at h1; cases h1
          | some y => rw [h3] at h1; simp at h1; rw [h1]
        simp only [Option.bind_some, h2]
        subst e
        cases c <;> cases x <;> rfl
      | tuple y =>
        rw [ho] at e hv
        simp only [Option.some.injEq] at e
        subst e
        have h1 : ∃ z, a.eval (.tmp t) = .tuple z := by
          generalize a.eval (.tmp t) = q at hv
          cases hv with
          | same p => exact ⟨_, rfl⟩
          | tuple _ => exact ⟨_, rfl⟩
        obtain ⟨z, h1⟩ := h1
        rw [hev, Array.getD_eq_getD_getElem?] at h1
        simp only [Option.bind_some]
        cases h3 : a.tmps[t]? with
        | none => rfl
        | some y => rw [h3] at h1; simp at h1; rw [h1]; rfl
      | _ => rw [ho] at e; simp at e
theorem call_run (hF : Fits S P C) {f : FuncId} {fn : Func} (ht : C.tab f = some fn) {c : Code} (hb : fn.body = some c) (args : Array Value) (w : World) : (callFunc f args).run P w = .ok (.enter f args) w := by
  obtain ⟨h1, h2⟩ := hF.tab f fn ht
  have h3 : ¬ fn.name = "runtime.NumGoroutine" := by simpa using h2
  simp [callFunc, h1, h3, hb]
theorem VsR.eq_of_plain2 : ∀ {l l' : List Value}, VsR r l l' → plainL plain2 l = true → l' = l
  | _, _, .nil, _ => rfl
  | _, _, .cons a b, h => by
    simp only [plainL, Bool.and_eq_true] at h
    rw [a.eq_of_plain2 h.1, VsR.eq_of_plain2 b h.2]
theorem step1_ok [HardLoc C] {call : Cl F} {ops : Array Oper} {ts : Tr Value} {a : Act} {o : Oper} {v : Value} (hF : Fits S P C) (hc : ClOK S P call) (e : Run (step1 P C call ops ts o) h nx v h' nx' R W)
    (hM : Mod S r h.get w) (hN : New r nx nx') (hO : OR r ts a o.op.operands.toList) (hG : GR r ops ts a o) (hY : YOK S P call.ys r w) (ro : Option Nat) (n : Nat) :
    ∀ (Q : Exit → Act → World → Prop) (K : Act → World → Prop), (∀ v' r' w', VR r' v v' → Ext S r w nx nx' W h'.get r' w' → K (a.put o.dst v') w') →
      (if Region.wanted o (yielded ops a.tmps) then o.wpIn (RF ro) n P a w K Q else (∀ f, o.about P w a.eval = some f → (RF ro).fn f) ∧ K (a.put o.dst undef) w) := by
  unfold step1 at e
  cases hw : want ops ts o with
  | none => rw [hw] at e; exact e.no.elim
  | some b =>
    rw [hw] at e; simp only at e
    have hwd := want_ok hw hG
    cases b with
    | false =>
      simp only [cond_false] at e
      obtain ⟨rfl, rfl, rfl, rfl⟩ := ret_ok e.ok
      intro Q K hK
      rw [hwd, if_neg (by decide)]
      exact ⟨fun _ _ => trivial, hK undef r w vr_undef (Ext.refl _ _ hM)⟩
    | true =>
      simp only [cond_true] at e
      obtain ⟨x, h1, nx1, R1, W1, R2, W2, e1, e2, rfl, rfl, hm1, hm2⟩ := e.bind (loc_disp P C o.op o ts) (fun x => by
        unfold after1
        cases x with
        | val v => exact loc_ret _
        | skip => exact loc_ret _
        | enter f args => exact loc_doCall P C hc.loc f args
        | yld i args =>
          simp only
          split
          · rename_i hm
            exact loc_scp (hc.loc.ys _ (yldOf_mem hm) _)
          · exact loc_fail)
      obtain ⟨hle, hA⟩ := disp_ok (a := a) hF e1.ok hM (hN.sub (Nat.le_refl _) hm2) hO
      intro Q K hK
      rw [hwd, if_pos rfl]
      have hnd : ∀ c, o.op ≠ .defer c := fun c hcd => by
        have e1' := e1.ok
        rw [hcd] at e1'
        exact absurd (show (fail : M F Nxt) h nx = _ from e1') (by simp [fail])
      refine ⟨fun _ _ => trivial, ?_⟩
      rw [Oper.semAt_eq _ _ _ hnd]
      unfold after1 at e2
      cases x with
      | val u =>
        obtain ⟨rfl, rfl, rfl, rfl⟩ := ret_ok e2.ok
        obtain ⟨u', w', r', hrun, hu, hX⟩ := hA
        rw [hrun]
        exact hK u' r' w' hu (by simpa using hX)
      | skip =>
        obtain ⟨rfl, rfl, rfl, rfl⟩ := ret_ok e2.ok
        obtain ⟨w', r', hrun, hX⟩ := hA
        rw [hrun]
        exact hK undef r' w' vr_undef (by simpa using hX)
      | enter f args =>
        obtain ⟨args', hrun, hargs, hX⟩ := hA
        rw [hrun]
        simp only at e2
        unfold doCall at e2
        cases ht : C.tab f with
        | none => rw [ht] at e2; exact e2.no.elim
        | some fn =>
          rw [ht] at e2; simp only at e2
          cases hb : fn.body with
          | some c =>
            rw [hb] at e2; simp only at e2
            rw [call_run hF ht hb]
            obtain ⟨R3, W3, e3, rfl, rfl, hW3⟩ := e2.scp (hc.loc.go _ hc.loc.ys f args)
            have hN1 : New r nx1 nx' := hN.sub hm1 (Nat.le_refl _)
            refine ⟨fun q => (by cases q), rf_calls ((hc.run _ _ _ _ _ _ _ _ _ _ hc.loc.ys e3 r w args' hargs hX.mod hN1 hY).mono ?_)⟩
            rintro en w' ⟨v', r', rfl, hv, hX2⟩
            refine hK v' r' w' hv ?_
            exact hX.trans (hX2.below hN1 hW3) hm1 hm2
          | none =>
            rw [hb] at e2; simp only at e2
            obtain ⟨hp, e2⟩ := e2.cond
            have hae := VsR.eq_of_plain2 hargs hp
            subst hae
            cases hr : pureRun P (callFunc f args'.toArray) with
            | none => rw [hr] at e2; exact e2.no.elim
            | some n =>
              rw [hr] at e2
              cases n with
              | value u =>
                simp only at e2
                obtain ⟨hpu, e2⟩ := e2.cond
                obtain ⟨rfl, rfl, rfl, rfl⟩ := ret_ok e2.ok
                rw [show (⟨args'⟩ : Array Value) = args'.toArray from rfl, pureRun_run _ hr w]
                exact hK _ r w (VR.same2 hpu) (by simpa using hX)
              | _ => exact e2.no.elim
      | yld i args =>
        obtain ⟨v', args', hval, hargs, hrun, hX⟩ := hA
        simp only at e2
        cases hm : yldOf call.ys i with
        | none => rw [hm] at e2; exact e2.no.elim
        | some m =>
          rw [hm] at e2; simp only at e2
          obtain ⟨b, hb, hs⟩ := hY.at_ hm
          rw [hb] at hval
          cases hval
          rw [hrun b rfl]
          obtain ⟨R3, W3, e3, rfl, rfl, hW3⟩ := e2.scp (hc.loc.ys _ (yldOf_mem hm) _)
          have hN1 : New r nx1 nx' := hN.sub hm1 (Nat.le_refl _)
          obtain ⟨fn, tmps, assign, body, hy, hR⟩ := hs _ _ _ _ _ _ _ _ _ e3 hargs hX.mod hN1
          rw [hy]
          refine ⟨fun q => (by cases q), ?_⟩
          have hR' : RoundIn (RF ro) (n - 1) P b fn tmps assign body w _ := ⟨trivial, fun c cs _ => hR.2 c cs (room_wide _)⟩
          refine hR'.mono ?_
          rintro en w' ⟨v2, r', rfl, hv, hX2⟩
          refine hK v2 r' w' hv ?_
          exact hX.trans (hX2.below hN1 hW3) hm1 hm2
theorem opd_put (ts : Tr Value) (d : Nat) (v : Value) (t : Nat) : opd (ts.set d v) (.tmp t) = if t = d then v else opd ts (.tmp t) := by
  show ((ts.set d v).get t).getD undef = if t = d then v else (ts.get t).getD undef
  rw [Tr.get_set]
  split <;> rfl
theorem eval_put (a : Act) (d : Nat) (v : Value) (t : Nat) (hd : d < a.tmps.size) : (a.put (some d) v).eval (.tmp t) = if t = d then v else a.eval (.tmp t) := by
  show (a.tmps.setIfInBounds d v).getD t undef = _
  rw [Array.getD_eq_getD_getElem?, Array.getElem?_setIfInBounds]
  by_cases h : d = t
  · subst h; simp [hd]
  · rw [if_neg h, if_neg (fun e => h e.symm)]
    show _ = a.tmps.getD t undef
    rw [Array.getD_eq_getD_getElem?]
theorem tr_put {ts : Tr Value} {a : Act} (hT : TR r ts a) {dst : Option Nat} {v v' : Value} (hv : VR r v v') (hd : ∀ d, dst = some d → d < a.tmps.size) : TR r (put ts dst v) (a.put dst v') := by
  intro t
  cases dst with
  | none => exact hT t
  | some d =>
    show VR r (opd (ts.set d v) (.tmp t)) _
    rw [opd_put, eval_put a d v' t (hd d rfl)]
    split
    · exact hv
    · exact hT t
theorem put_size (a : Act) (dst : Option Nat) (v : Value) : (a.put dst v).tmps.size = a.tmps.size := by cases dst <;> simp [Act.put]
theorem put_defers (a : Act) (dst : Option Nat) (v : Value) : (a.put dst v).defers = a.defers := by cases dst <;> rfl
theorem okOps_mem {N : Nat} : ∀ {l : List Oper}, okOps C N l = true → ∀ o ∈ l, (∀ d, o.dst = some d → d < N) ∧ ∀ y ∈ o.op.operands.toList, okOpd C y = true
  | [], _, o, ho => by simp at ho
  | x :: l, h, o, ho => by
    simp only [okOps, Bool.and_eq_true] at h
    rcases List.mem_cons.1 ho with rfl | ho
    · refine ⟨fun d hd => ?_, okOpds_mem h.1.2⟩
      have h1 := h.1.1
      rw [hd] at h1
      exact Nat.le_of_ble_eq_true h1
    · exact okOps_mem h.2 o ho
theorem or_of {ts : Tr Value} {a : Act} (hF : Fits S P C) (hT : TR r ts a) {g : Nat → Option (Blk F)} (hM : Mod S r g w) {l : List Operand} (h : ∀ y ∈ l, okOpd C y = true) : OR r ts a l :=
  fun y hy => opd_ok (C := C) (fun t _ => hT t) (fun n hn => hM.glob n (hF.G ▸ hn)) (h y hy)
theorem seqOps_ok [HardLoc C] {call : Cl F} {ops : Array Oper} (hF : Fits S P C) (hc : ClOK S P call) (ro : Option Nat) (n : Nat) (ds : List Deferred) (Q : Exit → Act → World → Prop) (hok : ∀ o ∈ ops.toList, ∀ y ∈ o.op.operands.toList, okOpd C y = true) {N : Nat} (hdst : ∀ o ∈ ops.toList, ∀ d, o.dst = some d → d < N) :
    ∀ (l : List Oper) (i : Nat), ops.toList.drop i = l → ∀ {ts ts' : Tr Value} {a : Act} {h h' : Tr (Blk F)} {nx nx' : Nat} {R W : List Nat} {r : Ren} {w : World}, Run (seqOps P C call ops l ts) h nx ts' h' nx' R W →
      Mod S r h.get w → New r nx nx' → TR r ts a → a.tmps.size = N → a.defers = ds → YOK S P call.ys r w →
      (∀ a' r' w', TR r' ts' a' → a'.tmps.size = N → a'.defers = ds → Ext S r w nx nx' W h'.get r' w' → Q .normal a' w') → wpOpsIn (RF ro) n P ops Q (List.range' i l.length) a w := by
  intro l
  induction l with
  | nil =>
    intro i hl ts ts' a h h' nx nx' R W r w e hM hN hT hz hd hY hQ
    obtain ⟨rfl, rfl, rfl, rfl⟩ := ret_ok (show (ret ts : M F _) h nx = _ from e.ok)
    exact hQ a r w hT hz hd (Ext.refl _ _ hM)
  | cons o l ih =>
    intro i hl ts ts' a h h' nx nx' R W r w e hM hN hT hz hd hY hQ
    have e' : Run (bind (step1 P C call ops ts o) (fun v => seqOps P C call ops l (put ts o.dst v))) h nx ts' h' nx' R W := e
    obtain ⟨v, h1, nx1, R1, W1, R2, W2, e1, e2, rfl, rfl, hm1, hm2⟩ := e'.bind (loc_step1 P C hc.loc ops ts o) (fun v => loc_seqOps P C hc.loc ops l (put ts o.dst v))
    have hget : ops.toList[i]? = some o := by
      have := congrArg (·[0]?) hl
      simpa using this
    have hmem : o ∈ ops.toList := List.mem_of_getElem? hget
    have hS := step1_ok (a := a) hF hc e1 hM (hN.sub (Nat.le_refl _) hm2) (or_of hF hT hM (hok o hmem)) (fun _ _ t _ _ => hT t) hY ro n Q (wpOpsIn (RF ro) n P ops Q (List.range' (i + 1) l.length)) (fun v' r' w' hv hX => by
      refine ih (i + 1) ?_ e2 hX.mod (hN.after hX hm1) (tr_put (hT.mono hX.le) hv (fun d hd' => by rw [hz]; exact hdst o hmem d hd')) ((put_size _ _ _).trans hz) ((put_defers _ _ _).trans hd) (hY.mono hX.going) fun a' r2 w2 hT2 hz2 hd2 hX2 => hQ a' r2 w2 hT2 hz2 hd2 (hX.trans hX2 hm1 hm2)
      have := congrArg List.tail hl
      simpa using this)
    have hget2 : ops[i]? = some o := by simpa using hget
    show wpOpsIn (RF ro) n P ops Q (List.range' i (l.length + 1)) a w
    rw [List.range'_succ]
    simp only [wpOpsIn, hget2]
    exact hS
end
end Ev
end Go.Proofs.YtfmebfkdpfbjbaaGreatDoor
namespace Go.Proofs.YtfmebfkdpfbjbaaGreatDoor
open Go
namespace Ev
theorem ready_all {ops : Array Oper} {md : Region.Mode} {listed : Array Bool}
    (hac : ∀ (i : Nat) (o : Oper), ops[i]? = some o → ∀ e ∈ o.after, Region.binds md e = true → e.on < i)
    (hz : listed.size = ops.size) (h : Region.ready md ops listed = []) : ∀ i, i < ops.size → listed.getD i false = true := by
  intro i
  induction i using Nat.strongRecOn with
  | ind i ih =>
    intro hi
    cases hl : listed.getD i false with
    | true => rfl
    | false =>
      have hl' : listed.getD i true = false := by
        have h1 : i < listed.size := by omega
        simp only [Array.getD, h1, dite_true] at hl ⊢
        exact hl
      have hm : i ∈ Region.ready md ops listed := mem_ready.2 ⟨hl', ops[i], Array.getElem?_eq_getElem hi, fun e he hb =>
        ih e.on (hac i _ (Array.getElem?_eq_getElem hi) e he hb) (Nat.lt_trans (hac i _ (Array.getElem?_eq_getElem hi) e he hb) hi)⟩
      rw [h] at hm; cases hm
theorem wpAny_by {F : Fence} {n : Nat} {P : Program} {md : Region.Mode} {ops : Array Oper} {Q : Exit → Act → World → Prop} (Inv : Array Bool → Act → World → Prop)
    (hac : ∀ (i : Nat) (o : Oper), ops[i]? = some o → ∀ e ∈ o.after, Region.binds md e = true → e.on < i)
    (step : ∀ (i : Nat) (o : Oper) (listed : Array Bool) (a : Act) (w : World), ops[i]? = some o → listed.size = ops.size → listed.getD i true = false → (∀ e ∈ o.after, Region.binds md e = true → listed.getD e.on false = true) → Inv listed a w → wpOpIn F n P ops Q i (fun a' w' => Inv (listed.setIfInBounds i true) a' w') a w)
    (done : ∀ (listed : Array Bool) (a : Act) (w : World), Inv listed a w → (∀ i, i < ops.size → listed.getD i false = true) → Q .normal a w) :
    ∀ (fuel : Nat) (listed : Array Bool) (a : Act) (w : World), listed.size = ops.size → listed.toList.count false ≤ fuel → Inv listed a w → wpAnyIn F n P md ops Q fuel listed a w := by
  intro fuel
  induction fuel with
  | zero =>
    intro listed a w hz hc hI
    have h0 : ∀ i, listed.getD i true = false → False := fun i h => by
      by_cases hi : i < listed.size
      · simp only [Array.getD, hi, dite_true] at h
        have h1 : false ∈ listed.toList := by rw [← h]; exact Array.mem_toList_iff.2 (Array.getElem_mem hi)
        have := List.count_pos_iff.2 h1
        omega
      · simp [Array.getD, hi] at h
    have hr : Region.ready md ops listed = [] := by
      cases hr : Region.ready md ops listed with
      | nil => rfl
      | cons x xs =>
        have hx : x ∈ Region.ready md ops listed := by rw [hr]; exact List.mem_cons_self
        exact absurd (mem_ready.1 hx).1 (fun h => h0 x h)
    exact ⟨hr, done listed a w hI (ready_all hac hz hr)⟩
  | succ fuel ih =>
    intro listed a w hz hc hI
    refine ⟨fun hr => done listed a w hI (ready_all hac hz hr), fun i hi => ?_⟩
    obtain ⟨h0, o, ho, hall⟩ := mem_ready.1 hi
    have hlt : i < listed.size := by rw [hz]; exact (Array.getElem?_eq_some_iff.1 ho).1
    refine wpOpIn_mono (fun a' w' h' => ih _ a' w' (by simp [hz]) ?_ h') (step i o listed a w ho hz h0 hall hI)
    rw [Array.toList_setIfInBounds, List.count_set (by simpa using hlt)]
    simp only [Array.getD, hlt, dite_true] at h0
    have h1 : false ∈ listed.toList := by rw [← h0]; exact Array.mem_toList_iff.2 (Array.getElem_mem hlt)
    have h2 := List.count_pos_iff.2 h1
    have h3 : listed.toList[i]'(by simpa using hlt) = false := by simpa using h0
    simp only [h3]
    generalize listed.toList.count false = n at *
    simp
    omega
def rowB (acc : Array Nat) (o : Oper) : Nat := o.after.foldl (fun s e => if Region.binds .any e then s ||| 2 ^ e.on ||| acc.getD e.on 0 else s) 0
def runB (acc : Array Nat) (l : List Oper) : Array Nat := l.foldl (fun acc o => acc.push (rowB acc o)) acc
theorem before_eq (ops : Array Oper) : Region.before ops = runB #[] ops.toList := by
  unfold Region.before runB
  rw [← Array.foldl_toList]
  rfl
theorem runB_pre : ∀ (l : List Oper) (acc : Array Nat) (j : Nat), j < acc.size → (runB acc l).getD j 0 = acc.getD j 0
  | [], acc, j, _ => rfl
  | o :: l, acc, j, h => by
    show (runB (acc.push (rowB acc o)) l).getD j 0 = _
    rw [runB_pre l _ j (by simp; omega)]
    rw [Array.getD_eq_getD_getElem?, Array.getD_eq_getD_getElem?, Array.getElem?_push_lt h, Array.getElem?_eq_getElem h]
theorem runB_at : ∀ (l : List Oper) (acc : Array Nat) (m : Nat) (o : Oper), l[m]? = some o → ∃ acc', acc'.size = acc.size + m ∧ (runB acc l).getD (acc.size + m) 0 = rowB acc' o ∧ ∀ j, j < acc'.size → acc'.getD j 0 = (runB acc l).getD j 0
  | [], acc, m, o, h => by simp at h
  | x :: l, acc, 0, o, h => by
    simp only [List.getElem?_cons_zero, Option.some.injEq] at h
    subst h
    refine ⟨acc, rfl, ?_, fun j hj => (runB_pre (x :: l) acc j hj).symm⟩
    show (runB (acc.push (rowB acc x)) l).getD (acc.size + 0) 0 = _
    rw [runB_pre l _ _ (by simp)]
    simp [Array.getD_eq_getD_getElem?]
  | x :: l, acc, m + 1, o, h => by
    simp only [List.getElem?_cons_succ] at h
    obtain ⟨acc', h1, h2, h3⟩ := runB_at l (acc.push (rowB acc x)) m o h
    refine ⟨acc', by rw [h1]; simp; omega, ?_, h3⟩
    have : acc.size + (m + 1) = (acc.push (rowB acc x)).size + m := by simp; omega
    rw [this]; exact h2
theorem rowB_bit {acc : Array Nat} {o : Oper} {k : Nat} (h : (rowB acc o).testBit k = true) : ∃ e ∈ o.after, Region.binds .any e = true ∧ (e.on = k ∨ (acc.getD e.on 0).testBit k = true) := by
  unfold rowB at h
  rw [← Array.foldl_toList] at h
  have key : ∀ (l : List Edge) (s : Nat), (l.foldl (fun s e => if Region.binds .any e then s ||| 2 ^ e.on ||| acc.getD e.on 0 else s) s).testBit k = true → s.testBit k = true ∨ ∃ e ∈ l, Region.binds .any e = true ∧ (e.on = k ∨ (acc.getD e.on 0).testBit k = true) := by
    intro l
    induction l with
    | nil => intro s h; exact .inl h
    | cons e l ih =>
      intro s h
      simp only [List.foldl_cons] at h
      rcases ih _ h with h | ⟨e', he', hb⟩
      · split at h
        · rename_i hb
          simp only [Nat.testBit_or, Bool.or_eq_true, Nat.testBit_two_pow, decide_eq_true_eq] at h
          rcases h with (h | h) | h
          · exact .inl h
          · exact .inr ⟨e, by simp, hb, .inl h⟩
          · exact .inr ⟨e, by simp, hb, .inr h⟩
        · exact .inl h
      · exact .inr ⟨e', by simp [he'], hb⟩
  rcases key _ _ h with h | ⟨e, he, hb⟩
  · simp at h
  · exact ⟨e, by simpa using he, hb⟩
theorem before_bit {ops : Array Oper} {i k : Nat} {o : Oper} (ho : ops[i]? = some o) (hac : ∀ e ∈ o.after, Region.binds .any e = true → e.on < i) (h : ((Region.before ops).getD i 0).testBit k = true) :
    ∃ e ∈ o.after, Region.binds .any e = true ∧ (e.on = k ∨ ((Region.before ops).getD e.on 0).testBit k = true) := by
  rw [before_eq] at h ⊢
  obtain ⟨acc', h1, h2, h3⟩ := runB_at ops.toList #[] i o (by simpa using ho)
  simp only [List.size_toArray, List.length_nil, Nat.zero_add] at h1 h2
  rw [h2] at h
  obtain ⟨e, he, hb, hk⟩ := rowB_bit h
  refine ⟨e, he, hb, hk.imp id fun hk => ?_⟩
  rw [← h3 e.on (by rw [h1]; exact hac e he hb)]
  exact hk
theorem writers_mem (n : Nat) (hn : 0 < n) : ∀ (l : List (Oper × Nat)) (w : Array (List (Nat × Nat))), w.size = n → ∀ (d i : Nat), ((∃ o, (o, i) ∈ l ∧ o.dst = some d) ∨ (d, i) ∈ w.getD (d % n) []) →
    (d, i) ∈ (l.foldl (fun w x => match x.1.dst with
      | some d => w.modify (d % n) ((d, x.2) :: ·)
      | none => w) w).getD (d % n) []
  | [], w, hw, d, i, h => by
    rcases h with ⟨o, h, _⟩ | h
    · simp at h
    · exact h
  | x :: l, w, hw, d, i, h => by
    simp only [List.foldl_cons]
    refine writers_mem n hn l _ ?_ d i ?_
    · split <;> simp [hw]
    · have hlt : d % n < w.size := by rw [hw]; exact Nat.mod_lt _ hn
      have hkeep : (d, i) ∈ w.getD (d % n) [] → (d, i) ∈ (match x.1.dst with
          | some d => w.modify (d % n) ((d, x.2) :: ·)
          | none => w).getD (d % n) [] := by
        intro hm
        split
        · rename_i d' _
          rw [Array.getD_eq_getD_getElem?] at hm ⊢
          rw [Array.getElem?_modify]
          split
          · rw [Array.getElem?_eq_getElem hlt] at hm ⊢
            simp only [Option.map_some, Option.getD_some] at hm ⊢
            exact List.mem_cons_of_mem _ hm
          · exact hm
        · exact hm
      rcases h with ⟨o, h, ho⟩ | h
      · rcases List.mem_cons.1 h with h | h
        · right
          subst h
          simp only [ho]
          rw [Array.getD_eq_getD_getElem?, Array.getElem?_modify, if_pos rfl, Array.getElem?_eq_getElem hlt]
          simp
        · exact .inl ⟨o, h, ho⟩
      · exact .inr (hkeep h)
theorem tidy_ok {ops : Array Oper} {b : Array Nat} (h : tidyT ops b = true) {j k : Nat} {o o' : Oper} (hj : ops[j]? = some o) (hk : ops[k]? = some o') {t : Nat} (hd : o'.dst = some t) (ht : t ∈ namesOf ops o) :
    k = j ∨ (b.getD (max k j) 0).testBit (min k j) = true := by
  unfold tidyT at h
  have hn : 0 < ops.size := Nat.lt_of_le_of_lt (Nat.zero_le _) (Array.getElem?_eq_some_iff.1 hj).1
  have mem : ∀ {i : Nat} {x : Oper}, ops[i]? = some x → (x, i) ∈ ops.toList.zipIdx := by
    intro i x hi
    rw [List.mem_zipIdx_iff_getElem?]
    simpa using hi
  have h1 := List.all_eq_true.1 h _ (mem hj)
  have h2 := List.all_eq_true.1 h1 t ht
  have h3 := List.all_eq_true.1 h2 (t, k) (writers_mem ops.size hn _ _ (by simp) t k (.inl ⟨o', mem hk, hd⟩))
  simp only [Nat.beq_refl, Bool.not_true, Bool.false_or, Bool.or_eq_true] at h3
  rcases h3 with h3 | h3
  · exact .inl (Nat.eq_of_beq_eq_true h3)
  · exact .inr h3
theorem tidy_edges {ops : Array Oper} (h : tidyRegion ops = true) : tidyT ops (Region.before ops) = true ∧ ∀ (i : Nat) (o : Oper), ops[i]? = some o → ∀ e ∈ o.after, Region.binds .any e = true → e.on < i := by
  unfold tidyRegion at h
  simp only [Bool.and_eq_true] at h
  refine ⟨h.1, fun i o ho e he hb => ?_⟩
  have h1 := List.all_eq_true.1 h.2 (o, i) (by rw [List.mem_zipIdx_iff_getElem?]; simpa using ho)
  have h2 := List.all_eq_true.1 h1 e (by simpa using he)
  simp only [hb, Bool.not_true, Bool.false_or] at h2
  exact Nat.le_of_ble_eq_true h2
section
open Classical
noncomputable def pf {α β : Type} (init : α → β) (dom : Nat → α → Prop) (val : Nat → α → β) (L : Nat → Bool) : Nat → α → β
  | 0, m => init m
  | k + 1, m => if L k = true ∧ dom k m then val k m else pf init dom val L k m
variable {α β : Type} {init : α → β} {dom : Nat → α → Prop} {val : Nat → α → β}
theorem pf_pos {L : Nat → Bool} {k : Nat} {m : α} (h1 : L k = true) (h2 : dom k m) : pf init dom val L (k + 1) m = val k m := by
  show (if L k = true ∧ dom k m then val k m else pf init dom val L k m) = _
  rw [if_pos ⟨h1, h2⟩]
theorem pf_neg {L : Nat → Bool} {k : Nat} {m : α} (h : ¬ (L k = true ∧ dom k m)) : pf init dom val L (k + 1) m = pf init dom val L k m := by
  show (if L k = true ∧ dom k m then val k m else pf init dom val L k m) = _
  rw [if_neg h]
theorem pf_none {L : Nat → Bool} {m : α} : ∀ n, (∀ k, k < n → dom k m → L k = false) → pf init dom val L n m = init m := by
  intro n
  induction n with
  | zero => intro _; rfl
  | succ n ih =>
    intro h
    rw [pf_neg (fun hh => by rw [h n (by omega) hh.2] at hh; exact absurd hh.1 (by decide))]
    exact ih fun k a b => h k (by omega) b
theorem pf_set {L L' : Nat → Bool} {i : Nat} {m : α} (hL : ∀ k, L' k = if k = i then true else L k) :
    ∀ n, i < n → (∀ k, i < k → k < n → L k = true → dom k m → ¬ dom i m) → pf init dom val L' n m = if dom i m then val i m else pf init dom val L n m := by
  have lo : ∀ n, n ≤ i → pf init dom val L' n m = pf init dom val L n m := by
    intro n
    induction n with
    | zero => intro _; rfl
    | succ n ih =>
      intro hn
      show (if L' n = true ∧ dom n m then val n m else pf init dom val L' n m) = (if L n = true ∧ dom n m then val n m else pf init dom val L n m)
      rw [hL n, if_neg (show ¬ n = i by omega), ih (by omega)]
  intro n
  induction n with
  | zero => intro h; omega
  | succ n ih =>
    intro hn hk
    show (if L' n = true ∧ dom n m then val n m else pf init dom val L' n m) = _
    show _ = if dom i m then val i m else (if L n = true ∧ dom n m then val n m else pf init dom val L n m)
    by_cases hni : n = i
    · subst hni
      rw [hL n, if_pos rfl, lo n (Nat.le_refl _)]
      by_cases hd : dom n m
      · rw [if_pos ⟨rfl, hd⟩, if_pos hd]
      · rw [if_neg (fun h => hd h.2), if_neg hd, if_neg (fun h => hd h.2)]
    · have hlt : i < n := by omega
      have ih' := ih hlt fun k a b => hk k a (by omega)
      rw [hL n, if_neg hni, ih']
      by_cases hd : L n = true ∧ dom n m
      · rw [if_pos hd, if_pos hd, if_neg (hk n hlt (by omega) hd.1 hd.2)]
      · rw [if_neg hd, if_neg hd]
theorem pf_same {L : Nat → Bool} {i : Nat} {m : α} : ∀ n, i ≤ n → (∀ k, k < n → dom k m → (L k = true ↔ k < i)) → pf init dom val L n m = pf init dom val (fun _ => true) i m := by
  have base : ∀ j, j ≤ i → (∀ k, k < j → dom k m → L k = true) → pf init dom val L j m = pf init dom val (fun _ => true) j m := by
    intro j
    induction j with
    | zero => intro _ _; rfl
    | succ j ih =>
      intro hj h
      show (if L j = true ∧ dom j m then val j m else pf init dom val L j m) = (if true = true ∧ dom j m then val j m else pf init dom val (fun _ => true) j m)
      rw [ih (by omega) fun k a b => h k (by omega) b]
      by_cases hd : dom j m
      · rw [if_pos ⟨h j (by omega) hd, hd⟩, if_pos ⟨rfl, hd⟩]
      · rw [if_neg (fun h => hd h.2), if_neg (fun h => hd h.2)]
  intro n
  induction n with
  | zero => intro h _; have : i = 0 := by omega
            subst this; rfl
  | succ n ih =>
    intro hn h
    by_cases hni : i = n + 1
    · subst hni
      exact base _ (Nat.le_refl _) fun k a b => (h k a b).2 a
    · show (if L n = true ∧ dom n m then val n m else pf init dom val L n m) = _
      rw [if_neg (fun hh => by have := (h n (by omega) hh.2).1 hh.1; omega)]
      exact ih (by omega) fun k a b => h k (by omega) b
end
end Ev
end Go.Proofs.YtfmebfkdpfbjbaaGreatDoor
