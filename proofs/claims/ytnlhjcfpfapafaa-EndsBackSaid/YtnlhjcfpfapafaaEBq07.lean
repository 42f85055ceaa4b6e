/- Contracts. -/
import Derived.Test.YtnlhjcfpfapafaaEBq06
import Derived.Scope
namespace Go.Proofs.Ytnlhjcfpfapafaa
open Go Go.RowKit
namespace Ev
section
variable {F : Type} {S : Sig F} {P : Program} {C : Cfg F}
theorem wp_loop_ix {d : Nat} {fe : Fence} {c : Code} {Q : Exit → Act → World → Prop} {a : Act} {w : World} (I : Nat → Act → World → Prop) {n : Nat} (h₀ : I n a w)
  (round : ∀ n a w, I n a w → c.wpIn fe d P (Exit.then (fun a' w' => ∃ m, m < n ∧ I m a' w') Q) a w) : (Code.loop c).wpIn fe d P Q a w := by
 intro b k cs hro hb hr
 have key : ∀ n a w, I n a w → ∃ e a' w', Q e a' w' ∧ ArrivesIn (Machine.fenced P fe) P (lone (b.atR a (.code c :: .inLoop c :: k)) cs w) b k cs e a' w' := by
  intro n
  induction n using Nat.strongRecOn with
  | _ n ih =>
   intro a w hI
   obtain ⟨e, a₁, w₁, hq, harr⟩ := round n a w hI b (.inLoop c :: k) cs hro hb hr
   cases e with
   | normal =>
    obtain ⟨m, hlt, hI₁⟩ := hq
    obtain ⟨e₂, a₂, w₂, hq₂, harr₂⟩ := ih m hlt a₁ w₁ hI₁
    exact ⟨e₂, a₂, w₂, hq₂, .of_steps (StepsIn.trans harr (.one (fenced_calm hb hr rfl) stepR_inLoop)) harr₂⟩
   | exit id => exact ⟨_, a₁, w₁, hq, .pass (x := .inLoop c) rfl (fun _ _ => .inl (by simp)) harr⟩
   | goto l => exact ⟨_, a₁, w₁, hq, .pass (x := .inLoop c) rfl (fun _ _ => .inl (by simp)) harr⟩
   | ret => exact ⟨_, a₁, w₁, hq, .pass (x := .inLoop c) rfl (fun _ _ => .inl (by simp)) harr⟩
   | panic ch => exact ⟨_, a₁, w₁, hq, .pass (x := .inLoop c) rfl (fun _ _ => .inl (by simp)) harr⟩
   | outgrown => exact ⟨_, a₁, w₁, hq, .pass (x := .inLoop c) rfl (fun _ _ => .inl (by simp)) harr⟩
 obtain ⟨e, a', w', hq, harr⟩ := key n a w h₀
 exact ⟨e, a', w', hq, .of_steps (.one (fenced_calm hb hr rfl) stepR_loop) harr⟩
theorem stepR_scope {c : Code} {b : Frame} {a : Act} {k : List Item} {cs : List Frame} {w : World} : step P (lone (b.atR a (.code (.scope c) :: k)) cs w) = .next (lone (b.atR a (.code c :: .inScope c :: k)) cs w) :=
 step_lone_go (by simp [stepG, stepG.exec, Frame.atR])
theorem stepR_inScope {c : Code} {b : Frame} {a : Act} {k : List Item} {cs : List Frame} {w : World} : step P (lone (b.atR a (.inScope c :: k)) cs w) = .next (lone (b.atR a k) cs w) :=
 step_lone_go (by simp [stepG, stepG.exec, Frame.atR])
theorem wp_scope_straight {d : Nat} {fe : Fence} {c : Code} {Q : Exit → Act → World → Prop} {a : Act} {w : World} (h : c.wpIn fe d P (Exit.noGoto Q) a w) : (Code.scope c).wpIn fe d P Q a w := by
 intro b k cs hro hb hr
 have h0 : (lone (b.atR a (.code (.scope c) :: k)) cs w).fenced P fe := fenced_calm hb hr rfl
 obtain ⟨e, a₁, w₁, hq, harr⟩ := h b (.inScope c :: k) cs hro hb hr
 have hx : ∀ id, exitTo id (.inScope c :: k) = exitTo id k := fun id => by simp [exitTo]
 cases e with
 | normal => exact ⟨.normal, a₁, w₁, hq, .head h0 stepR_scope (StepsIn.trans harr (.one (fenced_calm hb hr rfl) stepR_inScope))⟩
 | exit id => exact ⟨.exit id, a₁, w₁, hq, fun k' hk => .head h0 stepR_scope (harr.1 k' (by rw [hx]; exact hk)),
    fun hr' hk => let ⟨k₁, h1, h2⟩ := harr.2 hr' (by rw [hx]; exact hk); ⟨k₁, h1, .head h0 stepR_scope h2⟩⟩
 | goto l => exact hq.elim
 | ret => exact ⟨_, a₁, w₁, hq, .of_steps (.one h0 stepR_scope) harr⟩
 | panic ch => exact ⟨_, a₁, w₁, hq, .of_steps (.one h0 stepR_scope) harr⟩
 | outgrown => exact ⟨_, a₁, w₁, hq, .of_steps (.one h0 stepR_scope) harr⟩
def Marks (S : Sig F) (B0 : Nat) : List Deferred → Ren → World → Prop
 | [], _, w => B0 ≤ w.heap.size
 | d :: ds, r, w => Marks S B0 ds r w ∧ ∃ D, d = { target := .collected D, args := #[] } ∧ w.heap[D]? = some (.deferred (some [])) ∧ (∀ k, r.blk k ≠ some D) ∧ S.G ≤ D ∧ B0 ≤ D ∧ ∀ e ∈ ds, e.target ≠ .collected D
theorem Marks.mono {B0 : Nat} : ∀ {ds : List Deferred} {r r' : Ren} {w w' : World}, Marks S B0 ds r w → Going r w r' w' → Marks S B0 ds r' w'
 | [], _, _, _, _, h, g => Nat.le_trans h g.size
 | _ :: _, _, _, _, _, ⟨h, D, h1, h2, h3, h4, h5, h6⟩, g => ⟨Marks.mono h g, D, h1, (g.nameless h2 h3).1, (g.nameless h2 h3).2, h4, h5, h6⟩
theorem Marks.lt {B0 : Nat} : ∀ {ds : List Deferred} {r : Ren} {w : World}, Marks S B0 ds r w → ∀ D, (∃ e ∈ ds, e.target = .collected D) → D < w.heap.size
 | [], _, _, _, _, ⟨e, he, _⟩ => by simp at he
 | d :: ds, r, w, ⟨h, D0, h1, h2, h3, h4, h5, h6⟩, D, ⟨e, he, ht⟩ => by
  rcases List.mem_cons.1 he with rfl | he
  ·rw [h1] at ht
   injection ht with ht
   subst ht
   exact (Array.getElem?_eq_some_iff.1 h2).1
  ·exact Marks.lt h D ⟨e, he, ht⟩
theorem Marks.base {B0 : Nat} : ∀ {ds : List Deferred} {r : Ren} {w : World}, Marks S B0 ds r w → B0 ≤ w.heap.size
 | [], _, _, h => h
 | _ :: _, _, _, ⟨h, _⟩ => Marks.base h
def InRound (ro : Option Nat) (w : World) : Prop := ∀ l, ro = some l → ∃ L, w.heap[l]? = some (.loop L)
theorem InRound.mono {ro : Option Nat} {r r' : Ren} {w w' : World} (h : InRound ro w) (g : Going r w r' w') : InRound ro w' := fun l hl => by
 obtain ⟨L, h1⟩ := h l hl
 obtain ⟨L', h2, _⟩ := g.loops.lp l L h1
 exact ⟨L', h2⟩
structure Df where
 ds : List Deferred
 z : Nat
def DfOK (D0 : Df) (ds : List Deferred) (w : World) : Prop := D0.z ≤ w.heap.size ∧ ∃ pre, ds = pre ++ D0.ds ∧ ∀ e ∈ pre, ∃ D, e.target = .collected D ∧ D0.z ≤ D
theorem DfOK.mono {D0 : Df} {ds : List Deferred} {w w' : World} (h : DfOK D0 ds w) (hz : w.heap.size ≤ w'.heap.size) : DfOK D0 ds w' := ⟨Nat.le_trans h.1 hz, h.2⟩
theorem DfOK.nil {w : World} : DfOK ⟨[], 0⟩ [] w := ⟨Nat.zero_le _, [], rfl, fun _ h => by simp at h⟩
structure St (S : Sig F) (P : Program) (ys : Ylds F) (N : Nat) (ro : Option Nat) (B0 : Nat) (D0 : Df) (ts : Tr Value) (r : Ren) (w : World) (a : Act) : Prop where
 T : TR r ts a
 size : a.tmps.size = N
 marks : Marks S B0 a.defers r w
 round : InRound ro w
 ys : YOK S P ys r w
 dfs : DfOK D0 a.defers w
theorem St.next {ys : Ylds F} {N : Nat} {ro : Option Nat} {B0 : Nat} {D0 : Df} {ts ts' : Tr Value} {r r' : Ren} {w w' : World} {a a' : Act} (h : St S P ys N ro B0 D0 ts r w a) (hT : TR r' ts' a') (hz : a'.tmps.size = N) (hd : a'.defers = a.defers) (g : Going r w r' w') : St S P ys N ro B0 D0 ts' r' w' a' :=
 ⟨hT, hz, by rw [hd]; exact h.marks.mono g, h.round.mono g, h.ys.mono g, by rw [hd]; exact h.dfs.mono g.size⟩
def JmpOK (S : Sig F) (P : Program) (N : Nat) (x : Code) (m : Tr Value → M F (Tr Value)) : Prop :=
 ∀ {ys : Ylds F} {ts ts1 : Tr Value} {h h1 : Tr (Blk F)} {nx nx1 : Nat} {R W : List Nat}, Run (m ts) h nx ts1 h1 nx1 R W →
  ∀ {r : Ren} {w : World} {a : Act} {ro : Option Nat} (d : Nat) {B0 : Nat} {D0 : Df}, Mod S r h.get w → New r nx nx1 → St S P ys N ro B0 D0 ts r w a →
   ∃ (K : Nat) (J : Nat → Act → World → Prop), J K a w ∧ (∀ j a' w', J (j + 1) a' w' → x.wpIn (RF ro) d P (Exit.then (J j) (fun _ _ _ => False)) a' w') ∧
    ∀ a' w', J 0 a' w' → ∃ r', St S P ys N ro B0 D0 ts1 r' w' a' ∧ Ext S r w nx nx1 W h1.get r' w'
def loopsIn : Code → List Code
 | .seq a b => loopsIn a ++ loopsIn b
 | .cond _ a b => loopsIn a ++ loopsIn b
 | .block _ c => loopsIn c
 | .loop c => c :: loopsIn c
 | .rangeFunc _ _ a b => loopsIn a ++ loopsIn b
 | .scope c => loopsIn c
 | _ => []
structure JmpAll (S : Sig F) (P : Program) (C : Cfg F) : Prop where
 loc : ∀ f x m, C.jmp f x = some m → ∀ ts, Loc (m ts)
 ok : ∀ f fn c x m, C.tab f = some fn → fn.body = some c → x ∈ loopsIn c → C.jmp f x = some m → JmpOK S P fn.ntmps x m
theorem JmpAll.none {C : Cfg F} (h : C.jmp = fun _ _ => .none) : JmpAll S P C := ⟨fun f x m e => (by rw [h] at e; cases e), fun f fn c x m _ _ _ e => (by rw [h] at e; cases e)⟩
def toExit : Ex → Exit
 | .normal => .normal
 | .exit i => .exit i
 | .ret => .ret
variable {call : Cl F} {N fuel : Nat}
noncomputable def seqK (call : Cl F) (N fuel : Nat) (P : Program) (C : Cfg F) (b : Code) (x : Ex × Tr Value) : M F (Ex × Tr Value) := match x.1 with
 | .normal => code P C call N fuel b x.2
 | .exit i => ret (.exit i, x.2)
 | .ret => ret (.ret, x.2)
noncomputable def blockK (id : Nat) (x : Ex × Tr Value) : M F (Ex × Tr Value) := match x.1 with
 | .normal => ret (.normal, x.2)
 | .exit j => cond (Nat.beq j id) (ret (.normal, x.2)) (ret (.exit j, x.2))
 | .ret => ret (.ret, x.2)
noncomputable def iterK (f : Nat) (body : Tr Value → M F (Ex × Tr Value)) (x : Ex × Tr Value) : M F (Ex × Tr Value) := match x.1 with
 | .normal => iter f body x.2
 | .exit i => ret (.exit i, x.2)
 | .ret => ret (.ret, x.2)
theorem code_seq (a b : Code) (ts : Tr Value) : code P C call N fuel (.seq a b) ts = bind (code P C call N fuel a ts) (seqK call N fuel P C b) := by
 show bind (code P C call N fuel a ts) _ = _
 congr 1; funext x; obtain ⟨e, t⟩ := x; cases e <;> rfl
theorem code_block (id : Nat) (c : Code) (ts : Tr Value) : code P C call N fuel (.block id c) ts = bind (code P C call N fuel c ts) (blockK id) := by
 show bind (code P C call N fuel c ts) _ = _
 congr 1; funext x; obtain ⟨e, t⟩ := x
 cases e with
 | exit j =>
  show Bool.rec (motive := fun _ => M F (Ex × Tr Value)) (ret (.exit j, t)) (ret (.normal, t)) (Nat.beq j id) = cond (Nat.beq j id) (ret (.normal, t)) (ret (.exit j, t))
  cases Nat.beq j id <;> rfl
 | _ => rfl
theorem iter_succ (f : Nat) (body : Tr Value → M F (Ex × Tr Value)) (ts : Tr Value) : iter (f + 1) body ts = bind (body ts) (iterK f body) := by
 show bind (body ts) _ = _
 congr 1; funext x; obtain ⟨e, t⟩ := x; cases e <;> rfl
theorem bind_assoc {α β γ : Type} (m : M F α) (f : α → M F β) (g : β → M F γ) : bind (bind m f) g = bind m (fun a => bind (f a) g) := by
 funext h nx
 simp only [bind_eq]
 cases m h nx with
 | no => rfl
 | ok a h1 nx1 R1 W1 =>
  simp only
  cases f a h1 nx1 with
  | no => rfl
  | ok b h2 nx2 R2 W2 =>
   simp only
   cases g b h2 nx2 with
   | no => rfl
   | ok c h3 nx3 R3 W3 => simp [List.append_assoc]
theorem ret_bind {α β : Type} (a : α) (f : α → M F β) : bind (ret a) f = f a := by
 funext h nx
 simp only [bind_eq, ret]
 cases f a h nx with
 | no => rfl
 | ok c h3 nx3 R3 W3 => simp
theorem halves_succ (d : Nat) (body : Tr Value → M F (Ex × Tr Value)) (ts : Tr Value) : halves (d + 1) body ts = bind (halves d body ts) (fun x => match x.1 with
 | .normal => halves d body x.2
 | .exit i => ret (.exit i, x.2)
 | .ret => ret (.ret, x.2)) := by
 show bind (halves d body ts) _ = _
 congr 1; funext x; obtain ⟨e, t⟩ := x; cases e <;> rfl
theorem halves_iter (body : Tr Value → M F (Ex × Tr Value)) : ∀ (d f : Nat) (ts : Tr Value), bind (halves d body ts) (iterK f body) = iter (2 ^ d + f) body ts
 | 0, f, ts => by
  rw [Nat.pow_zero, Nat.add_comm, iter_succ]
  rfl
 | d + 1, f, ts => by
  rw [halves_succ, bind_assoc, show 2 ^ (d + 1) + f = 2 ^ d + (2 ^ d + f) by rw [Nat.pow_succ]; omega, ← halves_iter body d (2 ^ d + f) ts]
  congr 1; funext x; obtain ⟨e, t⟩ := x
  cases e with
  | normal => exact halves_iter body d f t
  | exit i => exact ret_bind _ _
  | ret => exact ret_bind _ _
theorem loc_jumpO (hc : ClLoc call) (x : Code) (ts : Tr Value) : Loc (jumpO call x ts) := by
 unfold jumpO
 cases h : call.jmp x with
 | none => exact loc_ret _
 | some m => exact hc.jmp x m h ts
theorem code_loop (c : Code) (ts : Tr Value) : code P C call N fuel (.loop c) ts = bind (jumpO call c ts) (iter (2 ^ 12 + fuel) (fun ts => code P C call N fuel c ts)) := by
 show bind (jumpO call c ts) _ = bind (jumpO call c ts) _
 congr 1; funext ts
 rw [← halves_iter]
 show bind (halves 12 (fun ts => code P C call N fuel c ts) ts) _ = _
 congr 1; funext x; obtain ⟨e, t⟩ := x; cases e <;> rfl
theorem code_regF (id : Nat) (ops : Array Oper) (ts : Tr Value) : code P C call N fuel (.region id ops false) ts = cond (okOps C N ops.toList) (bind (seqOps P C call ops ops.toList ts) fun ts' => ret (.normal, ts')) fail := by
 show Bool.rec (motive := fun _ => M F (Ex × Tr Value)) fail (bind (seqOps P C call ops ops.toList ts) fun ts' => ret (.normal, ts')) (okOps C N ops.toList) = _
 cases okOps C N ops.toList <;> rfl
theorem code_regT (id : Nat) (ops : Array Oper) (ts : Tr Value) : code P C call N fuel (.region id ops true) ts = cond (okOps C N ops.toList && tidyRegion ops) (bind (scp (anyOps P C call ops (Region.before ops) ops.toList 0 [] ts)) fun ts' => ret (.normal, ts')) fail := by
 show Bool.rec (motive := fun _ => M F (Ex × Tr Value)) fail (bind (scp (anyOps P C call ops (Region.before ops) ops.toList 0 [] ts)) fun ts' => ret (.normal, ts')) (okOps C N ops.toList && tidyRegion ops) = _
 cases (okOps C N ops.toList && tidyRegion ops) <;> rfl
theorem code_cond (c : Operand) (x y : Code) (ts : Tr Value) : code P C call N fuel (.cond c x y) ts = match opd ts c with
  | .bool b => cond b (code P C call N fuel x ts) (code P C call N fuel y ts)
  | _ => fail := by
 show (match opd ts c with
  | .bool b => Bool.rec (motive := fun _ => M F (Ex × Tr Value)) (code P C call N fuel y ts) (code P C call N fuel x ts) b
  | _ => fail) = _
 split
 ·rename_i b _
  cases b <;> rfl
 ·rfl
theorem loc_iter {body : Tr Value → M F (Ex × Tr Value)} (hb : ∀ ts, Loc (body ts)) : ∀ (f : Nat) (ts : Tr Value), Loc (iter f body ts)
 | 0, _ => loc_fail
 | f + 1, ts => by
  rw [iter_succ]
  refine loc_bind (hb ts) fun x => ?_
  unfold iterK
  split
  ·exact loc_iter hb f _
  ·exact loc_ret _
  ·exact loc_ret _
theorem loc_code (P : Program) (C : Cfg F) [HardLoc C] (N fuel : Nat) (hc : ClLoc call) : ∀ (c : Code) (ts : Tr Value), Loc (code P C call N fuel c ts)
 | .skip, _ => loc_ret _
 | .label _, _ => loc_ret _
 | .region id ops false, ts => by rw [code_regF]; exact loc_cond (loc_bind (loc_seqOps P C hc ops _ _) fun _ => loc_ret _) loc_fail
 | .region id ops true, ts => by rw [code_regT]; exact loc_cond (loc_bind (loc_scp (loc_anyOps P C hc ops _ _ _ _ _)) fun _ => loc_ret _) loc_fail
 | .seq a b, ts => by
  rw [code_seq]
  refine loc_bind (loc_code P C N fuel hc a ts) fun x => ?_
  unfold seqK
  split
  ·exact loc_code P C N fuel hc b _
  ·exact loc_ret _
  ·exact loc_ret _
 | .cond c x y, ts => by
  rw [code_cond]
  split
  ·exact loc_cond (loc_code P C N fuel hc x ts) (loc_code P C N fuel hc y ts)
  ·exact loc_fail
 | .block id c, ts => by
  rw [code_block]
  refine loc_bind (loc_code P C N fuel hc c ts) fun x => ?_
  unfold blockK
  split
  ·exact loc_ret _
  ·exact loc_cond (loc_ret _) (loc_ret _)
  ·exact loc_ret _
 | .loop c, ts => by rw [code_loop]; exact loc_bind (loc_jumpO hc c ts) fun ts => loc_iter (fun ts => loc_code P C N fuel hc c ts) _ ts
 | .scope c, ts => loc_code P C N fuel hc c ts
 | .exit _, _ => loc_ret _
 | .ret, _ => loc_ret _
 | .goto _, _ => loc_fail
 | .refuse _, _ => loc_fail
 | .rangeFunc _ _ _ _, _ => loc_fail
theorem eval_bool {r : Ren} {ts : Tr Value} {a : Act} (hT : TR r ts a) {c : Operand} {b : Bool} (h : opd ts c = .bool b) : a.eval c = .bool b := by
 cases c with
 | tmp t => have h1 := hT t; rw [h] at h1; exact h1.bool
 | const v => exact h
 | global g => simp [opd] at h
 | func f => simp [opd] at h
theorem Mod.grown {r : Ren} {g : Nat → Option (Blk F)} {w w' : World} (hM : Mod S r g w) (hk : ∀ (b : Nat) (o : Obj), w.heap[b]? = some o → w'.heap[b]? = some o) (hz : w.heap.size ≤ w'.heap.size) : Mod S r g w' := by
 refine ⟨hM.inj, fun n b hn => Nat.lt_of_lt_of_le (hM.lt n b hn) hz, fun n c t hn => ?_, fun n f hn => ?_, S.baseS w w' hM.base fun b o _ => hk b o, hM.glob, hM.own, fun n c t hn => ?_, Nat.le_trans hM.sz hz, hM.lp.mono (.refl r) (fun _ _ q => q) fun b L => hk b _, hM.ow.all (.refl r) (fun _ _ q => q) hk, hM.ad⟩
 ·obtain ⟨b, c', h1, h2, h3, h4⟩ := hM.cells n c t hn
  exact ⟨b, c', h1, hk b _ h2, h3, h4⟩
 ·obtain ⟨v, h1, h2, h3⟩ := hM.fact n f hn
  exact ⟨v, h1, S.stable f w w' v h2 fun b c t z hbo _ => hk b _ hbo, h3⟩
 ·obtain ⟨b, c', h1, h2, h3, h4, h5⟩ := hM.room n c t hn
  exact ⟨b, c', h1, hk b _ h2, h3, h4, h5⟩
theorem Mod.putObj' {r : Ren} {g : Nat → Option (Blk F)} {w : World} {l : Nat} (hM : Mod S r g w) (hl : ∀ c t z, w.heap[l]? ≠ some (.cells c t z)) (hlo : ∀ L, w.heap[l]? ≠ some (.loop L)) (hG : S.G ≤ l) (o : Obj) : Mod S r g (w.putObj l o) := by
 have hk : ∀ (b : Nat) (c : Array Value) (t : TypeId) (z : Nat × Nat), w.heap[b]? = some (.cells c t z) → (w.putObj l o).heap[b]? = some (.cells c t z) := fun b c t z hb => by
  rw [World.putObj_heap_other (fun q => by rw [q] at hb; exact hl c t z hb)]; exact hb
 refine ⟨hM.inj, fun n b hn => by rw [World.putObj_size]; exact hM.lt n b hn, fun n c t hn => ?_, fun n f hn => ?_, S.baseS w _ hM.base fun b o' hb ho => by rw [World.putObj_heap_other (by omega)]; exact ho, hM.glob, hM.own, fun n c t hn => ?_, by rw [World.putObj_size]; exact hM.sz, hM.lp.mono (.refl r) (fun _ _ q => q) fun b L hb => by rw [World.putObj_heap_other (fun q => by rw [q] at hb; exact hlo L hb)]; exact hb, hM.ow.mono (.refl r) (fun _ _ q => q) fun b c t z hb _ => hk b c t z hb, hM.ad⟩
 ·obtain ⟨b, c', h1, h2, h3, h4⟩ := hM.cells n c t hn
  exact ⟨b, c', h1, hk _ _ _ _ h2, h3, h4⟩
 ·obtain ⟨v, h1, h2, h3⟩ := hM.fact n f hn
  exact ⟨v, h1, S.stable f w _ v h2 fun b c t z hbo _ => hk _ _ _ _ hbo, h3⟩
 ·obtain ⟨b, c', h1, h2, h3, h4, h5⟩ := hM.room n c t hn
  exact ⟨b, c', h1, hk _ _ _ _ h2, h3, h4, h5⟩
theorem Marks.putObj {B0 : Nat} {l : Nat} {L : Loop} {w : World} (hl : w.heap[l]? = some (.loop L)) (o : Obj) : ∀ {ds : List Deferred} {r : Ren}, Marks S B0 ds r w → Marks S B0 ds r (w.putObj l o)
 | [], _, h => by show B0 ≤ _; rw [World.putObj_size]; exact h
 | _ :: _, _, ⟨h, D, h1, h2, h3⟩ => ⟨Marks.putObj hl o h, D, h1, by rw [World.putObj_heap_other (fun q => by rw [q, hl] at h2; cases h2)]; exact h2, h3⟩
theorem Marks.named {B0 l : Nat} {L : Loop} {w : World} (hl : w.heap[l]? = some (.loop L)) {r r1 : Ren} (hr : ∀ k b, r1.blk k = some b → r.blk k = some b ∨ b = l) : ∀ {ds : List Deferred}, Marks S B0 ds r w → Marks S B0 ds r1 w
 | [], h => h
 | _ :: _, ⟨h, D, h1, h2, h3, h4⟩ => ⟨Marks.named hl hr h, D, h1, h2, fun k q => (hr k D q).elim (h3 k) fun q => (by rw [q, hl] at h2; cases h2), h4⟩
theorem YOK.putObj {l : Nat} (o : Obj) : ∀ {ys : Ylds F} {r : Ren} {w : World}, YOK S P ys r w → (∀ x ∈ ys, ∀ b, r.val x.1 = some (.func (.yield b) #[] #[]) → b ≠ l) → YOK S P ys r (w.putObj l o)
 | [], _, _, _, _ => trivial
 | x :: _, _, _, ⟨h, b, L, r0, hb, hle, hs⟩, hne => ⟨YOK.putObj o h fun y hy => hne y (List.mem_cons_of_mem _ hy), b, L, r0,
    ⟨hb.val, hb.blk, by rw [World.putObj_heap_other (hne x List.mem_cons_self b hb.val)]; exact hb.at_, hb.own⟩, hle, hs⟩
theorem YOK.lt : ∀ {ys : Ylds F} {r : Ren} {w : World}, YOK S P ys r w → ∀ x ∈ ys, ∃ b, r.val x.1 = some (.func (.yield b) #[] #[]) ∧ b < w.heap.size
 | [], _, _, _, x, hx => by simp at hx
 | y :: _, _, _, ⟨h, b, L, r0, hb, _, _⟩, x, hx => by
  rcases List.mem_cons.1 hx with rfl | hx
  ·obtain ⟨L', h1, _⟩ := hb.at_
   exact ⟨b, hb.val, (Array.getElem?_eq_some_iff.1 h1).1⟩
  ·exact YOK.lt h x hx
theorem Ext.more {r r' : Ren} {w w' : World} {lo hi : Nat} {W W' : List Nat} {g : Nat → Option (Blk F)} (h : Ext S r w lo hi W g r' w') (hW : ∀ n ∈ W, n ∈ W') : Ext S r w lo hi W' g r' w' :=
 ⟨h.le, h.mod, h.dom, fun n b hn => (h.new n b hn).imp id (Or.imp id fun ⟨k, hk, q⟩ => ⟨k, hW k hk, q⟩), fun b o hb hw => h.keep b o hb fun n hn => hw n (hW n hn), h.size, h.os, h.tape, h.output, h.loops⟩
theorem Ext.under {r r' : Ren} {w w' : World} {lo hi l i : Nat} {W : List Nat} {g g' : Nat → Option (Blk F)} {L L1 L2 : Loop} (h : Ext S r (w.putObj l (.loop L1)) lo hi W g r' w') (hl : w.heap[l]? = some (.loop L)) (hb : r.blk i = some l)
  (hM : Mod S r' g' (w'.putObj l (.loop L2))) (hs : LStep L L2) : Ext S r w lo hi (i :: W) g' r' (w'.putObj l (.loop L2)) := by
 have hlt := (Array.getElem?_eq_some_iff.1 hl).1
 have hz := h.size
 rw [World.putObj_size] at hz
 refine ⟨h.le, hM, h.dom, fun n b hb => ?_, fun b o hb' hw => ?_, by rw [World.putObj_size]; exact hz, h.os, h.tape, h.output, ⟨fun b L0 hb' => ?_, fun b c t z hb' => ?_⟩⟩
 ·have := h.new n b hb
  rw [World.putObj_size] at this
  exact this.imp id (Or.imp id fun ⟨k, hk, q⟩ => ⟨k, List.mem_cons_of_mem _ hk, q⟩)
 ·have e : b ≠ l := fun e => hw i List.mem_cons_self (e ▸ hb)
  rw [World.putObj_heap_other e]
  exact h.keep b o (by rw [World.putObj_heap_other e]; exact hb') fun n hn => hw n (List.mem_cons_of_mem _ hn)
 ·by_cases e : b = l
  ·subst e
   rw [hl] at hb'
   cases hb'
   exact ⟨L2, World.putObj_heap_same (by omega), hs⟩
  ·obtain ⟨L', q1, q2⟩ := h.loops.lp b L0 (by rw [World.putObj_heap_other e]; exact hb')
   exact ⟨L', by rw [World.putObj_heap_other e]; exact q1, q2⟩
 ·have e : b ≠ l := fun e => by rw [e, hl] at hb'; cases hb'
  obtain ⟨c2, q1, q2⟩ := h.loops.sh b c t z (by rw [World.putObj_heap_other e]; exact hb')
  exact ⟨c2, by rw [World.putObj_heap_other e]; exact q1, q2⟩
theorem LStep.same {L L' : Loop} (h : LStep L L') : L'.fn = L.fn ∧ L'.tmps = L.tmps ∧ L'.params = L.params ∧ L'.assign = L.assign ∧ L'.body = L.body := by
 rcases h with rfl | ⟨_, c, rfl⟩ <;> exact ⟨rfl, rfl, rfl, rfl, rfl⟩
section
variable {N : Nat}
end
theorem code_ok [HardLoc C] (hF : Fits S P C) (hc : ClOK S P call) : ∀ (c : Code), (∀ x ∈ loopsIn c, ∀ m, call.jmp x = some m → JmpOK S P N x m) → ∀ {ts ts' : Tr Value} {ex : Ex} {h h' : Tr (Blk F)} {nx nx' : Nat} {R W : List Nat}, Run (code P C call N fuel c ts) h nx (ex, ts') h' nx' R W →
  ∀ {r : Ren} {w : World} {a : Act} {ro : Option Nat} {d B0 : Nat} {D0 : Df}, Mod S r h.get w → New r nx nx' → St S P call.ys N ro B0 D0 ts r w a → ∀ (Q : Exit → Act → World → Prop),
   (∀ a' r' w', St S P call.ys N ro B0 D0 ts' r' w' a' → Ext S r w nx nx' W h'.get r' w' → Q (toExit ex) a' w') → c.wpIn (RF ro) d P Q a w
 | .skip, hJ, ts, ts', ex, h, h', nx, nx', R, W, e, r, w, a, ro, d, B0, D0, hM, hN, hS, Q, hQ => by
  obtain ⟨h1, rfl, rfl, rfl⟩ := ret_ok (show (ret (Ex.normal, ts) : M F _) h nx = _ from e.ok)
  cases h1
  exact wpIn_skip (hQ a r w hS (Ext.refl _ _ hM))
 | .label _, hJ, ts, ts', ex, h, h', nx, nx', R, W, e, r, w, a, ro, d, B0, D0, hM, hN, hS, Q, hQ => by
  obtain ⟨h1, rfl, rfl, rfl⟩ := ret_ok (show (ret (Ex.normal, ts) : M F _) h nx = _ from e.ok)
  cases h1
  exact wpIn_label (hQ a r w hS (Ext.refl _ _ hM))
 | .exit id, hJ, ts, ts', ex, h, h', nx, nx', R, W, e, r, w, a, ro, d, B0, D0, hM, hN, hS, Q, hQ => by
  obtain ⟨h1, rfl, rfl, rfl⟩ := ret_ok (show (ret (Ex.exit id, ts) : M F _) h nx = _ from e.ok)
  cases h1
  exact wpIn_exit (hQ a r w hS (Ext.refl _ _ hM))
 | .ret, hJ, ts, ts', ex, h, h', nx, nx', R, W, e, r, w, a, ro, d, B0, D0, hM, hN, hS, Q, hQ => by
  obtain ⟨h1, rfl, rfl, rfl⟩ := ret_ok (show (ret (Ex.ret, ts) : M F _) h nx = _ from e.ok)
  cases h1
  exact wpIn_ret (hQ a r w hS (Ext.refl _ _ hM))
 | .region id ops false, hJ, ts, ts', ex, h, h', nx, nx', R, W, e, r, w, a, ro, d, B0, D0, hM, hN, hS, Q, hQ => by
  rw [code_regF] at e
  obtain ⟨hok, e⟩ := e.cond
  obtain ⟨ts1, h1, nx1, R1, W1, R2, W2, e1, e2, rfl, rfl, -, -⟩ := e.bind (loc_seqOps P C hc.loc ops _ _) (fun _ => loc_ret _)
  obtain ⟨q, rfl, rfl, rfl⟩ := ret_ok e2.ok
  cases q
  refine wpIn_region ?_
  have hm := okOps_mem hok
  have := seqOps_ok hF hc ro d a.defers Q (fun o ho => (hm o ho).2) (N := N) (fun o ho => (hm o ho).1) ops.toList 0 rfl e1 hM hN hS.T hS.size rfl hS.ys fun a' r' w' h1 h2 h3 hX => hQ a' r' w' (hS.next h1 h2 h3 hX.going) (by simpa using hX)
  rwa [Array.length_toList, ← List.range_eq_range'] at this
 | .region id ops true, hJ, ts, ts', ex, h, h', nx, nx', R, W, e, r, w, a, ro, d, B0, D0, hM, hN, hS, Q, hQ => by
  rw [code_regT] at e
  obtain ⟨hok, e⟩ := e.cond
  simp only [Bool.and_eq_true] at hok
  obtain ⟨ts1, h1, nx1, R1, W1, R2, W2, e1, e2, rfl, rfl, -, -⟩ := e.bind (loc_scp (loc_anyOps P C hc.loc ops _ _ _ _ _)) (fun _ => loc_ret _)
  obtain ⟨q, rfl, rfl, rfl⟩ := ret_ok e2.ok
  cases q
  exact any_ok hF hc ro d a.defers hok.1 hok.2 e1 hM hN hS.T hS.size rfl hS.ys Q fun a' r' w' h1 h2 h3 hX => hQ a' r' w' (hS.next h1 h2 h3 hX.going) (by simpa using hX)
 | .seq x y, hJ, ts, ts', ex, h, h', nx, nx', R, W, e, r, w, a, ro, d, B0, D0, hM, hN, hS, Q, hQ => by
  rw [code_seq] at e
  have lk : ∀ x, Loc (seqK call N fuel P C y x) := fun x => by
   unfold seqK
   split
   ·exact loc_code P C N fuel hc.loc y _
   ·exact loc_ret _
   ·exact loc_ret _
  obtain ⟨⟨e1x, ts1⟩, h1, nx1, R1, W1, R2, W2, e1, e2, rfl, rfl, l1, l2⟩ := e.bind (loc_code P C N fuel hc.loc x ts) lk
  refine wpIn_seq (code_ok hF hc x (fun z hz => hJ z (List.mem_append_left _ hz)) e1 hM (hN.sub (Nat.le_refl _) l2) hS _ fun a1 r1 w1 hS1 hX1 => ?_)
  cases e1x with
  | normal => exact code_ok hF hc y (fun z hz => hJ z (List.mem_append_right _ hz)) (show Run (code P C call N fuel y ts1) _ _ _ _ _ _ _ from e2) hX1.mod (hN.after hX1 l1) hS1 Q fun a2 r2 w2 hS2 hX2 => hQ a2 r2 w2 hS2 (hX1.trans hX2 l1 l2)
  | exit i =>
   obtain ⟨q, rfl, rfl, rfl⟩ := ret_ok (show (ret (Ex.exit i, ts1) : M F _) _ _ = _ from e2.ok)
   cases q
   exact hQ a1 r1 w1 hS1 (by simpa using hX1)
  | ret =>
   obtain ⟨q, rfl, rfl, rfl⟩ := ret_ok (show (ret (Ex.ret, ts1) : M F _) _ _ = _ from e2.ok)
   cases q
   exact hQ a1 r1 w1 hS1 (by simpa using hX1)
 | .cond c x y, hJ, ts, ts', ex, h, h', nx, nx', R, W, e, r, w, a, ro, d, B0, D0, hM, hN, hS, Q, hQ => by
  rw [code_cond] at e
  cases hv : opd ts c with
  | bool b =>
   rw [hv] at e; simp only at e
   refine wpIn_cond (eval_bool hS.T hv) ?_
   cases b with
   | true => exact code_ok hF hc x (fun z hz => hJ z (List.mem_append_left _ hz)) e hM hN hS Q hQ
   | false => exact code_ok hF hc y (fun z hz => hJ z (List.mem_append_right _ hz)) e hM hN hS Q hQ
  | _ => rw [hv] at e; exact e.no.elim
 | .block id c, hJ, ts, ts', ex, h, h', nx, nx', R, W, e, r, w, a, ro, d, B0, D0, hM, hN, hS, Q, hQ => by
  rw [code_block] at e
  have lk : ∀ x, Loc (blockK id x : M F _) := fun x => by
   unfold blockK
   split
   ·exact loc_ret _
   ·exact loc_cond (loc_ret _) (loc_ret _)
   ·exact loc_ret _
  obtain ⟨⟨e1x, ts1⟩, h1, nx1, R1, W1, R2, W2, e1, e2, rfl, rfl, l1, l2⟩ := e.bind (loc_code P C N fuel hc.loc c ts) lk
  refine wpIn_block (code_ok hF hc c (fun z hz => hJ z hz) e1 hM (hN.sub (Nat.le_refl _) l2) hS _ fun a1 r1 w1 hS1 hX1 => ?_)
  cases e1x with
  | normal =>
   obtain ⟨q, rfl, rfl, rfl⟩ := ret_ok (show (ret (Ex.normal, ts1) : M F _) _ _ = _ from e2.ok)
   cases q
   exact hQ a1 r1 w1 hS1 (by simpa using hX1)
  | ret =>
   obtain ⟨q, rfl, rfl, rfl⟩ := ret_ok (show (ret (Ex.ret, ts1) : M F _) _ _ = _ from e2.ok)
   cases q
   exact hQ a1 r1 w1 hS1 (by simpa using hX1)
  | exit j =>
   have e3 : (cond (Nat.beq j id) (ret (Ex.normal, ts1)) (ret (Ex.exit j, ts1)) : M F _) h1 nx1 = .ok (ex, ts') h' nx' R2 W2 := e2.ok
   show (if j = id then Q .normal a1 w1 else Q (.exit j) a1 w1)
   cases hj : Nat.beq j id with
   | true =>
    rw [hj] at e3
    obtain ⟨q, rfl, rfl, rfl⟩ := ret_ok e3
    cases q
    rw [if_pos (Nat.eq_of_beq_eq_true hj)]
    exact hQ a1 r1 w1 hS1 (by simpa using hX1)
   | false =>
    rw [hj] at e3
    obtain ⟨q, rfl, rfl, rfl⟩ := ret_ok e3
    cases q
    rw [if_neg (fun q => by subst q; rw [Nat.beq_refl] at hj; cases hj)]
    exact hQ a1 r1 w1 hS1 (by simpa using hX1)
 | .loop c, hJ, ts, ts', ex, h, h', nx, nx', R, W, e, r, w, a, ro, d, B0, D0, hM, hN, hS, Q, hQ => by
  rw [code_loop] at e
  obtain ⟨ts0, h0, nx0, R0, W0, R9, W9, ej, e9, rfl, rfl, l0, l9⟩ := e.bind (loc_jumpO hc.loc c ts) fun ts => loc_iter (fun ts => loc_code P C N fuel hc.loc c ts) _ ts
  obtain ⟨I, hI⟩ : ∃ I : Nat → Act → World → Prop, I = fun n a w => ∃ ts h nx R W r, Run (iter n (fun ts => code P C call N fuel c ts) ts) h nx (ex, ts') h' nx' R W ∧ Mod S r h.get w ∧ New r nx nx' ∧ St S P call.ys N ro B0 D0 ts r w a ∧
    ∀ a' r' w', St S P call.ys N ro B0 D0 ts' r' w' a' → Ext S r w nx nx' W h'.get r' w' → Q (toExit ex) a' w' := ⟨_, rfl⟩
  have main : ∀ n a w, I n a w → c.wpIn (RF ro) d P (Exit.then (fun a' w' => ∃ m, m < n ∧ I m a' w') Q) a w := by
   subst hI
   rintro n a w ⟨ts, h, nx, R, W, r, e, hM, hN, hS, hQ⟩
   cases n with
   | zero => exact (show Run (fail : M F _) _ _ _ _ _ _ _ from e).no.elim
   | succ n =>
    rw [iter_succ] at e
    have lk : ∀ x, Loc (iterK n (fun ts => code P C call N fuel c ts) x) := fun x => by
     unfold iterK
     split
     ·exact loc_iter (fun ts => loc_code P C N fuel hc.loc c ts) n _
     ·exact loc_ret _
     ·exact loc_ret _
    obtain ⟨⟨e1x, ts1⟩, h1, nx1, R1, W1, R2, W2, e1, e2, rfl, rfl, l1, l2⟩ := e.bind (loc_code P C N fuel hc.loc c ts) lk
    refine code_ok hF hc c (fun z hz => hJ z (List.mem_cons_of_mem _ hz)) e1 hM (hN.sub (Nat.le_refl _) l2) hS _ fun a1 r1 w1 hS1 hX1 => ?_
    cases e1x with
    | normal =>
     exact ⟨n, Nat.lt_succ_self n, ts1, h1, nx1, R2, W2, r1, e2, hX1.mod, hN.after hX1 l1, hS1, fun a2 r2 w2 hS2 hX2 => hQ a2 r2 w2 hS2 (hX1.trans hX2 l1 l2)⟩
    | exit i =>
     obtain ⟨q, rfl, rfl, rfl⟩ := ret_ok (show (ret (Ex.exit i, ts1) : M F _) _ _ = _ from e2.ok)
     cases q
     exact hQ a1 r1 w1 hS1 (by simpa using hX1)
    | ret =>
     obtain ⟨q, rfl, rfl, rfl⟩ := ret_ok (show (ret (Ex.ret, ts1) : M F _) _ _ = _ from e2.ok)
     cases q
     exact hQ a1 r1 w1 hS1 (by simpa using hX1)
  have goes : ∀ {ts : Tr Value} {h : Tr (Blk F)} {nx : Nat} {R W : List Nat} {r : Ren} {w : World} {a : Act}, Run (iter (2 ^ 12 + fuel) (fun ts => code P C call N fuel c ts) ts) h nx (ex, ts') h' nx' R W → Mod S r h.get w → New r nx nx' → St S P call.ys N ro B0 D0 ts r w a →
    (∀ a' r' w', St S P call.ys N ro B0 D0 ts' r' w' a' → Ext S r w nx nx' W h'.get r' w' → Q (toExit ex) a' w') → I (2 ^ 12 + fuel) a w := fun e hM hN hS hQ => by
   subst hI
   exact ⟨_, _, _, _, _, _, e, hM, hN, hS, hQ⟩
  cases hj : call.jmp c with
  | none =>
   have ej' : (ret ts : M F (Tr Value)) h nx = .ok ts0 h0 nx0 R0 W0 := by
    have := ej.ok
    unfold jumpO at this
    rw [hj] at this
    exact this
   obtain ⟨rfl, rfl, rfl, rfl⟩ := ret_ok ej'
   exact wp_loop_ix I (goes e9 hM hN hS hQ) main
  | some m =>
   have ej' : Run (m ts) h nx ts0 h0 nx0 R0 W0 := by
    unfold jumpO at ej
    rw [hj] at ej
    exact ej
   obtain ⟨K, J, j0, j1, j2⟩ := hJ c List.mem_cons_self m hj ej' d hM (hN.sub (Nat.le_refl _) l9) hS
   have jI : ∀ a' w', J 0 a' w' → I (2 ^ 12 + fuel) a' w' := fun a' w' hq => by
    obtain ⟨r', hS', hX'⟩ := j2 a' w' hq
    exact goes e9 hX'.mod (hN.after hX' l0) hS' fun a2 r2 w2 hS2 hX2 => hQ a2 r2 w2 hS2 (hX'.trans hX2 l0 l9)
   generalize 2 ^ 12 + fuel = n0 at goes jI
   have step : ∀ j a' w', J j a' w' → ∃ n, n ≤ n0 + j ∧ (I n a' w' ∨ ∃ i, n = n0 + 1 + i ∧ J (i + 1) a' w') := fun j a' w' hq => by
    cases j with
    | zero => exact ⟨n0, by omega, .inl (jI a' w' hq)⟩
    | succ i => exact ⟨n0 + 1 + i, by omega, .inr ⟨i, rfl, hq⟩⟩
   obtain ⟨n1, -, h1⟩ := step K a w j0
   refine wp_loop_ix (fun n a w => I n a w ∨ ∃ i, n = n0 + 1 + i ∧ J (i + 1) a w) h1 ?_
   rintro n a w (hI' | ⟨i, rfl, hq⟩)
   ·refine wpIn_mono (main n a w hI') fun e a' w' hp => ?_
    cases e with
    | normal => obtain ⟨m, q1, q2⟩ := hp; exact ⟨m, q1, .inl q2⟩
    | _ => exact hp
   ·refine wpIn_mono (j1 i a w hq) fun e a' w' hp => ?_
    cases e with
    | normal => obtain ⟨m, q1, q2⟩ := step i a' w' hp; exact ⟨m, by omega, q2⟩
    | _ => exact hp.elim
 | .scope c, hJ, ts, ts', ex, h, h', nx, nx', R, W, e, r, w, a, ro, d, B0, D0, hM, hN, hS, Q, hQ => by
  refine wp_scope_straight (code_ok hF hc c (fun z hz => hJ z hz) e hM hN hS _ fun a1 r1 w1 hS1 hX1 => ?_)
  have := hQ a1 r1 w1 hS1 hX1
  cases ex <;> exact this
 | .goto _, hJ, ts, ts', ex, h, h', nx, nx', R, W, e, r, w, a, ro, d, B0, D0, hM, hN, hS, Q, hQ => (show Run (fail : M F _) _ _ _ _ _ _ _ from e).no.elim
 | .refuse _, hJ, ts, ts', ex, h, h', nx, nx', R, W, e, r, w, a, ro, d, B0, D0, hM, hN, hS, Q, hQ => (show Run (fail : M F _) _ _ _ _ _ _ _ from e).no.elim
 | .rangeFunc _ _ _ _, hJ, ts, ts', ex, h, h', nx, nx', R, W, e, r, w, a, ro, d, B0, D0, hM, hN, hS, Q, hQ => (show Run (fail : M F _) _ _ _ _ _ _ _ from e).no.elim
end
end Ev
end Go.Proofs.Ytnlhjcfpfapafaa
namespace Go.Proofs.Ytnlhjcfpfapafaa
open Go
namespace Ev
section
variable {F : Type} {S : Sig F} {P : Program} {C : Cfg F}
structure SumOK (S : Sig F) (P : Program) (sum : Sums F) : Prop where
 loc : ∀ f args m, sum f args = some m → Loc m
 run : ∀ f args m, sum f args = some m → ∀ h nx v h' nx' R W, Run m h nx v h' nx' R W → ∀ (r : Ren) (w : World) (args' : List Value), VsR r args args' → Mod S r h.get w → New r nx nx' →
  Calls P f ⟨args'⟩ w fun e w' => ∃ v' r', e = .returned v' ∧ VR r' v v' ∧ Ext S r w nx nx' W h'.get r' w'
theorem initT_get : ∀ (l : List Value) (i : Nat) (t : Tr Value) (k : Nat), (initT l i t).get k = if i ≤ k ∧ k < i + l.length then l[k - i]? else t.get k
 | [], i, t, k => by
  show t.get k = _
  rw [if_neg (by simp)]
 | v :: l, i, t, k => by
  show (initT l (i + 1) (t.set i v)).get k = _
  rw [initT_get l (i + 1) (t.set i v) k, Tr.get_set]
  simp only [List.length_cons]
  by_cases h1 : k = i
  ·subst h1
   rw [if_neg (by omega), if_pos rfl, if_pos (by omega), Nat.sub_self]
   rfl
  ·rw [if_neg h1]
   by_cases h2 : i + 1 ≤ k ∧ k < i + 1 + l.length
   ·rw [if_pos h2, if_pos (by omega), show k - i = (k - (i + 1)) + 1 by omega]
    rfl
   ·rw [if_neg h2, if_neg (by omega)]
theorem init_tr {r : Ren} {args args' : List Value} (ha : VsR r args args') (n : Nat) : TR r (initT args 0 .nil) { tmps := ⟨args'⟩ ++ Array.replicate n undef, defers := [] } := by
 intro (t : Nat)
 show VR r (((initT args 0 .nil).get t).getD undef) (((⟨args'⟩ : Array Value) ++ Array.replicate n undef).getD t undef)
 rw [initT_get, Array.getD_eq_getD_getElem?, Array.getElem?_append]
 have hl := ha.length
 by_cases h : t < args.length
 ·rw [if_pos (by omega), if_pos (by simp; omega), Nat.sub_zero]
  have h1 : args[t]? = some args[t] := List.getElem?_eq_getElem h
  obtain ⟨v', hv', hr⟩ := ha.get h1
  rw [h1]
  simp only [List.getElem?_toArray, hv', Option.getD_some]
  exact hr
 ·rw [if_neg (by omega), if_neg (by simp; omega)]
  have : (Array.replicate n undef)[t - (⟨args'⟩ : Array Value).size]?.getD undef = undef := by
   rw [Array.getElem?_replicate]
   split <;> rfl
  rw [this, Tr.get_nil]
  exact vr_undef
theorem loc_resA (P : Program) (ts : Tr Value) : ∀ l : List ResultVar, Loc (resA P ts l : M F (List Value))
 | [] => loc_ret _
 | .tmp t :: l => loc_bind (loc_resA P ts l) fun _ => loc_ret _
 | .cell a t :: l => loc_bind (loc_loadA P _ _) fun _ => loc_bind (loc_resA P ts l) fun _ => loc_ret _
theorem resA_ok {ts : Tr Value} {a : Act} {r : Ren} {w : World} (hT : TR r ts a) : ∀ (l : List ResultVar) {h h' : Tr (Blk F)} {nx nx' : Nat} {R W : List Nat} {vs : List Value}, (resA P ts l : M F _) h nx = .ok vs h' nx' R W → Mod S r h.get w →
  h' = h ∧ nx' = nx ∧ W = [] ∧ ∃ vs', (l.mapM (fun (x : ResultVar) => match x with
   | .tmp t => (pure (a.tmps.getD t undef) : Sem Value)
   | .cell b t => do loadVar t (← asAddr (a.tmps.getD b undef)))).run P w = .ok vs' w ∧ VsR r vs vs'
 | [], h, h', nx, nx', R, W, vs, e, hM => by
  obtain ⟨rfl, rfl, rfl, rfl⟩ := ret_ok (show (ret [] : M F _) h nx = _ from e)
  exact ⟨rfl, rfl, rfl, [], by simp, .nil⟩
 | .tmp t :: l, h, h', nx, nx', R, W, vs, e, hM => by
  obtain ⟨us, h1, nx1, R1, W1, R2, W2, e1, e2, rfl, rfl⟩ := bind_ok (show (bind (resA P ts l) fun vs => ret (opd ts (.tmp t) :: vs) : M F _) h nx = _ from e)
  obtain ⟨rfl, rfl, rfl, rfl⟩ := ret_ok e2
  obtain ⟨rfl, rfl, rfl, us', hrun, hr⟩ := resA_ok hT l e1 hM
  refine ⟨rfl, rfl, rfl, a.tmps.getD t undef :: us', ?_, .cons (hT t) hr⟩
  rw [List.mapM_cons]
  simp only [Sem.run_bind, Sem.run_pure, Result.andThen_ok, hrun]
 | .cell b t :: l, h, h', nx, nx', R, W, vs, e, hM => by
  obtain ⟨v, h1, nx1, R1, W1, R2, W2, e1, e2, rfl, rfl⟩ := bind_ok (show (bind (loadA P t (opd ts (.tmp b))) fun v => bind (resA P ts l) fun vs => ret (v :: vs) : M F _) h nx = _ from e)
  obtain ⟨us, h2, nx2, R3, W3, R4, W4, e3, e4, rfl, rfl⟩ := bind_ok e2
  obtain ⟨rfl, rfl, rfl, rfl⟩ := ret_ok e4
  obtain ⟨rfl, rfl, rfl, v', ad, hp, hl, hv⟩ := load_ok e1 hM (hT b)
  obtain ⟨rfl, rfl, rfl, us', hrun, hr⟩ := resA_ok hT l e3 hM
  refine ⟨rfl, rfl, rfl, v' :: us', ?_, .cons hv hr⟩
  rw [List.mapM_cons]
  have hp' : a.tmps.getD b undef = .pointer (some ad) := hp
  have hpa : (asAddr (a.tmps.getD b undef)).run P w = .ok ad w := by rw [hp']; rfl
  simp only [Sem.run_bind, Sem.run_pure, Result.andThen_ok, hpa, hl, hrun]
noncomputable def resK (P : Program) (fn : Func) (x : Ex × Tr Value) : M F Value := match x.1 with
 | .exit _ => fail
 | .normal => bind (resA P x.2 fn.results.toList) fun vs => ret (oneOf vs)
 | .ret => bind (resA P x.2 fn.results.toList) fun vs => ret (oneOf vs)
theorem loc_resK (P : Program) (fn : Func) (x : Ex × Tr Value) : Loc (resK P fn x : M F Value) := by
 unfold resK
 split
 ·exact loc_fail
 ·exact loc_bind (loc_resA P _ _) fun _ => loc_ret _
 ·exact loc_bind (loc_resA P _ _) fun _ => loc_ret _
theorem callY_succ (sum : Sums F) (n : Nat) (ys : Ylds F) (f : FuncId) (args : List Value) : callY P C sum (n + 1) ys f args = match sum f args with
  | some s => s
  | none => match C.tab f with
   | none => fail
   | some fn => match fn.body with
    | none => fail
    | some c => cond (Nat.ble args.length fn.ntmps) (bind (code P C ⟨callY P C sum n, ys, C.jmp f⟩ fn.ntmps n c (initT args 0 .nil)) (resK P fn)) fail := rfl
theorem results_ok {fn : Func} {ts : Tr Value} {a : Act} {r : Ren} {w : World} {h h' : Tr (Blk F)} {nx nx' : Nat} {R W : List Nat} {v : Value} (e : (bind (resA P ts fn.results.toList) fun vs => ret (oneOf vs) : M F Value) h nx = .ok v h' nx' R W) (hT : TR r ts a) (hM : Mod S r h.get w) :
  h' = h ∧ nx' = nx ∧ W = [] ∧ ∃ v', (results fn a.tmps).run P w = .ok v' w ∧ VR r v v' := by
 obtain ⟨vs, h1, nx1, R1, W1, R2, W2, e1, e2, rfl, rfl⟩ := bind_ok e
 obtain ⟨rfl, rfl, rfl, rfl⟩ := ret_ok e2
 obtain ⟨rfl, rfl, rfl, vs', hrun, hr⟩ := resA_ok hT _ e1 hM
 refine ⟨rfl, rfl, rfl, ?_⟩
 have hmap : (fn.results.mapM (fun (x : ResultVar) => match x with
   | .tmp t => (pure (a.tmps.getD t undef) : Sem Value)
   | .cell b t => do loadVar t (← asAddr (a.tmps.getD b undef)))).run P w = .ok vs'.toArray w := by
  rw [Array.mapM_eq_mapM_toList]
  simp only [Sem.run_map, hrun, Result.andThen_ok]
 have hres : results fn a.tmps = (fn.results.mapM (fun (x : ResultVar) => match x with
   | .tmp t => (pure (a.tmps.getD t undef) : Sem Value)
   | .cell b t => do loadVar t (← asAddr (a.tmps.getD b undef))) >>= fun vs => pure (if h : vs.size = 1 then vs[0] else .tuple vs)) := by
  unfold results
  congr 1
 rw [hres]
 have hlen := hr.length
 rcases vs with _ | ⟨u, _ | ⟨u2, us⟩⟩
 ·have : vs' = [] := List.eq_nil_of_length_eq_zero (by simpa using hlen)
  subst this
  refine ⟨.tuple #[], ?_, .tuple .nil⟩
  rw [Sem.run_bind, hmap]
  rfl
 ·rcases vs' with _ | ⟨u', _ | ⟨_, _⟩⟩
  ·simp at hlen
  ·cases hr with
   | cons h1 h2 =>
    refine ⟨u', ?_, h1⟩
    rw [Sem.run_bind, hmap]
    rfl
  ·simp at hlen
 ·refine ⟨.tuple vs'.toArray, ?_, .tuple hr⟩
  rw [Sem.run_bind, hmap]
  simp only [Result.andThen_ok]
  rw [dif_neg (by simp; rw [hlen]; simp)]
  rfl
theorem Ext.putObj {r r' : Ren} {w w' : World} {lo hi l : Nat} {W : List Nat} {g : Nat → Option (Blk F)} (h : Ext S r w lo hi W g r' w') (hl : ∀ c t z, w'.heap[l]? ≠ some (.cells c t z)) (hlo : ∀ L, w'.heap[l]? ≠ some (.loop L)) (hG : S.G ≤ l) (hw : w.heap.size ≤ l) (o : Obj) : Ext S r w lo hi W g r' (w'.putObj l o) :=
 ⟨h.le, h.mod.putObj' hl hlo hG o, h.dom, h.new, fun b o' hb hn => by
  have := (Array.getElem?_eq_some_iff.1 hb).1
  rw [World.putObj_heap_other (by omega)]; exact h.keep b o' hb hn, by rw [World.putObj_size]; exact h.size, h.os, h.tape, h.output, ⟨fun b L hb => by
  obtain ⟨L', q1, q2⟩ := h.loops.lp b L hb
  have := (Array.getElem?_eq_some_iff.1 hb).1
  exact ⟨L', by rw [World.putObj_heap_other (by omega)]; exact q1, q2⟩, fun b c t z hb => by
  obtain ⟨c2, q1, q2⟩ := h.loops.sh b c t z hb
  have := (Array.getElem?_eq_some_iff.1 hb).1
  exact ⟨c2, by rw [World.putObj_heap_other (by omega)]; exact q1, q2⟩⟩⟩
theorem Marks.shut {B0 D : Nat} : ∀ {ds : List Deferred} {r : Ren} {w : World}, Marks S B0 ds r w → (∀ e ∈ ds, e.target ≠ .collected D) → ∀ o, Marks S B0 ds r (w.putObj D o)
 | [], _, _, h, _, _ => by show B0 ≤ _; rw [World.putObj_size]; exact h
 | d :: ds, _, _, ⟨h, D', h1, h2, h3⟩, hn, o => ⟨Marks.shut h (fun e he => hn e (List.mem_cons_of_mem _ he)) o, D', h1, by
    rw [World.putObj_heap_other (fun q => hn d List.mem_cons_self (by rw [h1, q]))]; exact h2, h3⟩
theorem leaves_ok {fn : Func} {tmps : Array Value} {v : Value} {r r' : Ren} {w : World} {lo hi : Nat} {W : List Nat} {g : Nat → Option (Blk F)} (hres : ∀ w2, Mod S r' g w2 → ∃ v', (results fn tmps).run P w2 = .ok v' w2 ∧ VR r' v v') :
  ∀ (ds : List Deferred) (w1 : World), Marks S w.heap.size ds r' w1 → Ext S r w lo hi W g r' w1 → LeavesInM Fence.wide 0 P fn tmps (fun e w' => ∃ v' r'', e = .returned v' ∧ VR r'' v v' ∧ Ext S r w lo hi W g r'' w') ds .returning w1
 | [], w1, _, hX => by
  obtain ⟨v', h1, h2⟩ := hres w1 hX.mod
  exact ⟨v', h1, v', r', rfl, h2, hX⟩
 | d :: ds, w1, ⟨hm, D, h1, h2, h3, h4, h5, h6⟩, hX => by
  refine ⟨by simp, .inl ⟨D, _, by rw [h1], run_takeDeferred h2, ?_⟩⟩
  exact leaves_ok hres ds _ (hm.shut h6 _) (hX.putObj (fun c t z q => by rw [h2] at q; cases q) (fun L q => by rw [h2] at q; cases q) h4 h5 _)
theorem callY_ok [HardLoc C] (hF : Fits S P C) (hJ : JmpAll S P C) {sum : Sums F} (hs : SumOK S P sum) : ∀ n, (∀ ys, YLoc ys → ∀ f args, Loc (callY P C sum n ys f args)) ∧ ∀ ys f args h nx v h' nx' R W, YLoc ys → Run (callY P C sum n ys f args) h nx v h' nx' R W →
  ∀ (r : Ren) (w : World) (args' : List Value), VsR r args args' → Mod S r h.get w → New r nx nx' → YOK S P ys r w → Calls P f ⟨args'⟩ w fun e w' => ∃ v' r', e = .returned v' ∧ VR r' v v' ∧ Ext S r w nx nx' W h'.get r' w'
 | 0 => ⟨fun _ _ _ _ => loc_fail, fun ys f args h nx v h' nx' R W _ e => (show Run (fail : M F _) _ _ _ _ _ _ _ from e).no.elim⟩
 | n + 1 => by
  have ih := callY_ok hF hJ hs n
  have hcl : ∀ f ys, YLoc ys → ClOK S P ⟨callY P C sum n, ys, C.jmp f⟩ := fun f ys hy => ⟨⟨ih.1, hy, hJ.loc f⟩, ih.2⟩
  refine ⟨fun ys hy f args => ?_, fun ys f args h nx v h' nx' R W hy e r w args' ha hM hN hY => ?_⟩
  ·rw [callY_succ]
   cases hsum : sum f args with
   | some s => exact hs.loc _ _ _ hsum
   | none =>
    simp only
    cases C.tab f with
    | none => exact loc_fail
    | some fn =>
     simp only
     cases fn.body with
     | none => exact loc_fail
     | some c => exact loc_cond (loc_bind (loc_code P C _ _ (hcl f ys hy).loc c _) (loc_resK P fn)) loc_fail
  ·rw [callY_succ] at e
   cases hsum : sum f args with
   | some s => rw [hsum] at e; exact hs.run _ _ _ hsum _ _ _ _ _ _ _ e r w args' ha hM hN
   | none =>
    rw [hsum] at e; simp only at e
    cases ht : C.tab f with
    | none => rw [ht] at e; exact e.no.elim
    | some fn =>
     rw [ht] at e; simp only at e
     cases hb : fn.body with
     | none => rw [hb] at e; exact e.no.elim
     | some c =>
      rw [hb] at e; simp only at e
      obtain ⟨hle, e⟩ := e.cond
      have hle2 := Nat.le_of_ble_eq_true hle
      obtain ⟨⟨ex, ts⟩, h1, nx1, R1, W1, R2, W2, e1, e2, rfl, rfl, l1, l2⟩ := e.bind (loc_code P C _ _ (hcl f ys hy).loc c _) (loc_resK P fn)
      have hlen := ha.length
      refine (callsIn_wide (n := 0)).1 (callsIn_of_wp_marks (hF.tab f fn ht).1 hb trivial (code_ok hF (hcl f ys hy) c (fun x hx m => hJ.ok f fn c x m ht hb hx) e1 (ro := none) (d := 0) (B0 := w.heap.size) hM (hN.sub (Nat.le_refl _) l2) ⟨init_tr ha _, by simp; omega, Nat.le_refl _, fun l hl => (by cases hl), hY, .nil⟩ _ fun a' r' w' hS' hX => ?_))
      have fin : (bind (resA P ts fn.results.toList) fun vs => ret (oneOf vs) : M F Value) h1 nx1 = .ok v h' nx' R2 W2 → LeavesInM Fence.wide 0 P fn a'.tmps (fun e w' => ∃ v' r', e = .returned v' ∧ VR r' v v' ∧ Ext S r w nx nx' (W1 ++ W2) h'.get r' w') a'.defers .returning w' := fun e3 => by
       obtain ⟨rfl, rfl, rfl, -⟩ := results_ok e3 hS'.T hX.mod
       refine leaves_ok (fun w2 hM2 => ?_) _ _ hS'.marks (by simpa using hX)
       obtain ⟨-, -, -, v', q1, q2⟩ := results_ok e3 hS'.T hM2
       exact ⟨v', q1, q2⟩
      cases ex with
      | exit i => exact (show Run (fail : M F _) _ _ _ _ _ _ _ from e2).no.elim
      | normal => exact fin (show Run (bind (resA P ts fn.results.toList) fun vs => ret (oneOf vs) : M F Value) _ _ _ _ _ _ _ from e2).ok
      | ret => exact fin (show Run (bind (resA P ts fn.results.toList) fun vs => ret (oneOf vs) : M F Value) _ _ _ _ _ _ _ from e2).ok
theorem call_ok [HardLoc C] (hF : Fits S P C) {sum : Sums F} (hs : SumOK S P sum) (n : Nat) (hJ : JmpAll S P C := by exact .none rfl) : CallOK S P (call P C sum n) :=
 ⟨(callY_ok hF hJ hs n).1 [] (by intro x hx; simp at hx), fun f args h nx v h' nx' R W e r w args' ha hM hN => (callY_ok hF hJ hs n).2 [] f args h nx v h' nx' R W (by intro x hx; simp at hx) e r w args' ha hM hN trivial⟩
end
end Ev
end Go.Proofs.Ytnlhjcfpfapafaa
