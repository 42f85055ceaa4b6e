/- Contracts, in this order: The interpreter: code, and calls. No program. -/
import Derived.Test.YtfmebfkdpfbjbaaGreatDoorEkq07
import Derived.Scope
namespace Go.Proofs.YtfmebfkdpfbjbaaGreatDoor
open Go Go.RowKit
namespace Ev
section
variable {F : Type} {S : Sig F} {P : Program} {C : Cfg F}
theorem wp_loop_ix {d : Nat} {fe : Fence} {c : Code} {Q : Exit → Act → World → Prop} {a : Act} {w : World} (I : Nat → Act → World → Prop) {n : Nat} (h₀ : I n a w)
    (round : ∀ n a w, I n a w → c.wpIn fe d P (Exit.then (fun a' w' => ∃ m, m < n ∧ I m a' w') Q) a w) : (Code.loop c).wpIn fe d P Q a w := by
  intro b k cs hro hb hr
  have key : ∀ n a w, I n a w → ∃ e a' w', Q e a' w' ∧ ArrivesIn (Machine.fenced P fe) P (lone (b.atR a (.code c :: .inLoop c :: k)) cs w) b k cs e a' w' := by
    intro n
    induction n using Nat.strongRecOn with
    | _ n ih =>
      intro a w hI
      obtain ⟨e, a₁, w₁, hq, harr⟩ := round n a w hI b (.inLoop c :: k) cs hro hb hr
      cases e with
      | normal =>
        obtain ⟨m, hlt, hI₁⟩ := hq
        obtain ⟨e₂, a₂, w₂, hq₂, harr₂⟩ := ih m hlt a₁ w₁ hI₁
        exact ⟨e₂, a₂, w₂, hq₂, .of_steps (StepsIn.trans harr (.one (fenced_calm hb hr rfl) stepR_inLoop)) harr₂⟩
      | exit id => exact ⟨_, a₁, w₁, hq, .pass (x := .inLoop c) rfl (fun _ _ => .inl (by simp)) harr⟩
      | goto l => exact ⟨_, a₁, w₁, hq, .pass (x := .inLoop c) rfl (fun _ _ => .inl (by simp)) harr⟩
      | ret => exact ⟨_, a₁, w₁, hq, .pass (x := .inLoop c) rfl (fun _ _ => .inl (by simp)) harr⟩
      | panic ch => exact ⟨_, a₁, w₁, hq, .pass (x := .inLoop c) rfl (fun _ _ => .inl (by simp)) harr⟩
      | outgrown => exact ⟨_, a₁, w₁, hq, .pass (x := .inLoop c) rfl (fun _ _ => .inl (by simp)) harr⟩
  obtain ⟨e, a', w', hq, harr⟩ := key n a w h₀
  exact ⟨e, a', w', hq, .of_steps (.one (fenced_calm hb hr rfl) stepR_loop) harr⟩
theorem stepR_scope {c : Code} {b : Frame} {a : Act} {k : List Item} {cs : List Frame} {w : World} : step P (lone (b.atR a (.code (.scope c) :: k)) cs w) = .next (lone (b.atR a (.code c :: .inScope c :: k)) cs w) :=
  step_lone_go (by simp [stepG, stepG.exec, Frame.atR])
theorem stepR_inScope {c : Code} {b : Frame} {a : Act} {k : List Item} {cs : List Frame} {w : World} : step P (lone (b.atR a (.inScope c :: k)) cs w) = .next (lone (b.atR a k) cs w) :=
  step_lone_go (by simp [stepG, stepG.exec, Frame.atR])
theorem wp_scope_straight {d : Nat} {fe : Fence} {c : Code} {Q : Exit → Act → World → Prop} {a : Act} {w : World} (h : c.wpIn fe d P (Exit.noGoto Q) a w) : (Code.scope c).wpIn fe d P Q a w := by
  intro b k cs hro hb hr
  have h0 : (lone (b.atR a (.code (.scope c) :: k)) cs w).fenced P fe := fenced_calm hb hr rfl
  obtain ⟨e, a₁, w₁, hq, harr⟩ := h b (.inScope c :: k) cs hro hb hr
  have hx : ∀ id, exitTo id (.inScope c :: k) = exitTo id k := fun id => by simp [exitTo]
  cases e with
  | normal => exact ⟨.normal, a₁, w₁, hq, .head h0 stepR_scope (StepsIn.trans harr (.one (fenced_calm hb hr rfl) stepR_inScope))⟩
  | exit id => exact ⟨.exit id, a₁, w₁, hq, fun k' hk => .head h0 stepR_scope (harr.1 k' (by rw [hx]; exact hk)),
      fun hr' hk => let ⟨k₁, h1, h2⟩ := harr.2 hr' (by rw [hx]; exact hk); ⟨k₁, h1, .head h0 stepR_scope h2⟩⟩
  | goto l => exact hq.elim
  | ret => exact ⟨_, a₁, w₁, hq, .of_steps (.one h0 stepR_scope) harr⟩
  | panic ch => exact ⟨_, a₁, w₁, hq, .of_steps (.one h0 stepR_scope) harr⟩
  | outgrown => exact ⟨_, a₁, w₁, hq, .of_steps (.one h0 stepR_scope) harr⟩
def Marks (S : Sig F) (B0 : Nat) : List Deferred → Ren → World → Prop
  | [], _, w => B0 ≤ w.heap.size
  | d :: ds, r, w => Marks S B0 ds r w ∧ ∃ D, d = { target := .collected D, args := #[] } ∧ w.heap[D]? = some (.deferred (some [])) ∧ (∀ k, r.blk k ≠ some D) ∧ S.G ≤ D ∧ B0 ≤ D ∧ ∀ e ∈ ds, e.target ≠ .collected D
theorem Marks.mono {B0 : Nat} : ∀ {ds : List Deferred} {r r' : Ren} {w w' : World}, Marks S B0 ds r w → Going r w r' w' → Marks S B0 ds r' w'
  | [], _, _, _, _, h, g => Nat.le_trans h g.size
  | _ :: _, _, _, _, _, ⟨h, D, h1, h2, h3, h4, h5, h6⟩, g => ⟨Marks.mono h g, D, h1, (g.nameless h2 h3).1, (g.nameless h2 h3).2, h4, h5, h6⟩
theorem Marks.lt {B0 : Nat} : ∀ {ds : List Deferred} {r : Ren} {w : World}, Marks S B0 ds r w → ∀ D, (∃ e ∈ ds, e.target = .collected D) → D < w.heap.size
  | [], _, _, _, _, ⟨e, he, _⟩ => by simp at he
  | d :: ds, r, w, ⟨h, D0, h1, h2, h3, h4, h5, h6⟩, D, ⟨e, he, ht⟩ => by
    rcases List.mem_cons.1 he with rfl | he
    · rw [h1] at ht
      injection ht with ht
      subst ht
      exact (Array.getElem?_eq_some_iff.1 h2).1
    · exact Marks.lt h D ⟨e, he, ht⟩
theorem Marks.base {B0 : Nat} : ∀ {ds : List Deferred} {r : Ren} {w : World}, Marks S B0 ds r w → B0 ≤ w.heap.size
  | [], _, _, h => h
  | _ :: _, _, _, ⟨h, _⟩ => Marks.base h
def InRound (ro : Option Nat) (w : World) : Prop := ∀ l, ro = some l → ∃ L, w.heap[l]? = some (.loop L)
theorem InRound.mono {ro : Option Nat} {r r' : Ren} {w w' : World} (h : InRound ro w) (g : Going r w r' w') : InRound ro w' := fun l hl => by
  obtain ⟨L, h1⟩ := h l hl
  obtain ⟨L', h2, _⟩ := g.loops.lp l L h1
  exact ⟨L', h2⟩
structure Df where
  ds : List Deferred
  z : Nat
def DfOK (D0 : Df) (ds : List Deferred) (w : World) : Prop := D0.z ≤ w.heap.size ∧ ∃ pre, ds = pre ++ D0.ds ∧ ∀ e ∈ pre, ∃ D, e.target = .collected D ∧ D0.z ≤ D
theorem DfOK.mono {D0 : Df} {ds : List Deferred} {w w' : World} (h : DfOK D0 ds w) (hz : w.heap.size ≤ w'.heap.size) : DfOK D0 ds w' := ⟨Nat.le_trans h.1 hz, h.2⟩
theorem DfOK.nil {w : World} : DfOK ⟨[], 0⟩ [] w := ⟨Nat.zero_le _, [], rfl, fun _ h => by simp at h⟩
structure St (S : Sig F) (P : Program) (ys : Ylds F) (N : Nat) (ro : Option Nat) (B0 : Nat) (D0 : Df) (ts : Tr Value) (r : Ren) (w : World) (a : Act) : Prop where
  T : TR r ts a
  size : a.tmps.size = N
  marks : Marks S B0 a.defers r w
  round : InRound ro w
  ys : YOK S P ys r w
  dfs : DfOK D0 a.defers w
theorem St.next {ys : Ylds F} {N : Nat} {ro : Option Nat} {B0 : Nat} {D0 : Df} {ts ts' : Tr Value} {r r' : Ren} {w w' : World} {a a' : Act} (h : St S P ys N ro B0 D0 ts r w a) (hT : TR r' ts' a') (hz : a'.tmps.size = N) (hd : a'.defers = a.defers) (g : Going r w r' w') : St S P ys N ro B0 D0 ts' r' w' a' :=
  ⟨hT, hz, by rw [hd]; exact h.marks.mono g, h.round.mono g, h.ys.mono g, by rw [hd]; exact h.dfs.mono g.size⟩
def JmpOK (S : Sig F) (P : Program) (N : Nat) (x : Code) (m : Tr Value → M F (Tr Value)) : Prop :=
  ∀ {ys : Ylds F} {ts ts1 : Tr Value} {h h1 : Tr (Blk F)} {nx nx1 : Nat} {R W : List Nat}, Run (m ts) h nx ts1 h1 nx1 R W →
    ∀ {r : Ren} {w : World} {a : Act} {ro : Option Nat} (d : Nat) {B0 : Nat} {D0 : Df}, Mod S r h.get w → New r nx nx1 → St S P ys N ro B0 D0 ts r w a →
      ∃ (K : Nat) (J : Nat → Act → World → Prop), J K a w ∧ (∀ j a' w', J (j + 1) a' w' → x.wpIn (RF ro) d P (Exit.then (J j) (fun _ _ _ => False)) a' w') ∧
        ∀ a' w', J 0 a' w' → ∃ r', St S P ys N ro B0 D0 ts1 r' w' a' ∧ Ext S r w nx nx1 W h1.get r' w'
def loopsIn : Code → List Code
  | .seq a b => loopsIn a ++ loopsIn b
  | .cond _ a b => loopsIn a ++ loopsIn b
  | .block _ c => loopsIn c
  | .loop c => c :: loopsIn c
  | .rangeFunc _ _ a b => loopsIn a ++ loopsIn b
  | .scope c => loopsIn c
  | _ => []
structure JmpAll (S : Sig F) (P : Program) (C : Cfg F) : Prop where
  loc : ∀ f x m, C.jmp f x = some m → ∀ ts, Loc (m ts)
  ok : ∀ f fn c x m, C.tab f = some fn → fn.body = some c → x ∈ loopsIn c → C.jmp f x = some m → JmpOK S P fn.ntmps x m
theorem JmpAll.none {C : Cfg F} (h : C.jmp = fun _ _ => .none) : JmpAll S P C := ⟨fun f x m e => (by rw [h] at e; cases e), fun f fn c x m _ _ _ e => (by rw [h] at e; cases e)⟩
def toExit : Ex → Exit
  | .normal => .normal
  | .exit i => .exit i
  | .ret => .ret
variable {call : Cl F} {N fuel : Nat}
noncomputable def seqK (call : Cl F) (N fuel : Nat) (P : Program) (C : Cfg F) (b : Code) (x : Ex × Tr Value) : M F (Ex × Tr Value) := match x.1 with
  | .normal => code P C call N fuel b x.2
  | .exit i => ret (.exit i, x.2)
  | .ret => ret (.ret, x.2)
noncomputable def blockK (id : Nat) (x : Ex × Tr Value) : M F (Ex × Tr Value) := match x.1 with
  | .normal => ret (.normal, x.2)
  | .exit j => cond (Nat.beq j id) (ret (.normal, x.2)) (ret (.exit j, x.2))
  | .ret => ret (.ret, x.2)
noncomputable def iterK (f : Nat) (body : Tr Value → M F (Ex × Tr Value)) (x : Ex × Tr Value) : M F (Ex × Tr Value) := match x.1 with
  | .normal => iter f body x.2
  | .exit i => ret (.exit i, x.2)
  | .ret => ret (.ret, x.2)
theorem code_seq (a b : Code) (ts : Tr Value) : code P C call N fuel (.seq a b) ts = bind (code P C call N fuel a ts) (seqK call N fuel P C b) := by
  show bind (code P C call N fuel a ts) _ = _
  congr 1; funext x; obtain ⟨e, t⟩ := x; cases e <;> rfl
theorem code_block (id : Nat) (c : Code) (ts : Tr Value) : code P C call N fuel (.block id c) ts = bind (code P C call N fuel c ts) (blockK id) := by
  show bind (code P C call N fuel c ts) _ = _
  congr 1; funext x; obtain ⟨e, t⟩ := x
  cases e with
  | exit j =>
    show Bool.rec (motive := fun _ => M F (Ex × Tr Value)) (ret (.exit j, t)) (ret (.normal, t)) (Nat.beq j id) = cond (Nat.beq j id) (ret (.normal, t)) (ret (.exit j, t))
    cases Nat.beq j id <;> rfl
  | _ => rfl
theorem iter_succ (f : Nat) (body : Tr Value → M F (Ex × Tr Value)) (ts : Tr Value) : iter (f + 1) body ts = bind (body ts) (iterK f body) := by
  show bind (body ts) _ = _
  congr 1; funext x; obtain ⟨e, t⟩ := x; cases e <;> rfl
theorem bind_assoc {α β γ : Type} (m : M F α) (f : α → M F β) (g : β → M F γ) : bind (bind m f) g = bind m (fun a => bind (f a) g) := by
  funext h nx
  simp only [bind_eq]
  cases m h nx with
  | no => rfl
  | ok a h1 nx1 R1 W1 =>
    simp only
    cases f a h1 nx1 with
    | no => rfl
    | ok b h2 nx2 R2 W2 =>
      simp only
      cases g b h2 nx2 with
      | no => rfl
      | ok c h3 nx3 R3 W3 => simp [List.append_assoc]
theorem ret_bind {α β : Type} (a : α) (f : α → M F β) : bind (ret a) f = f a := by
  funext h nx
  simp only [bind_eq, ret]
  cases f a h nx with
  | no => rfl
  | ok c h3 nx3 R3 W3 => simp
theorem halves_succ (d : Nat) (body : Tr Value → M F (Ex × Tr Value)) (ts : Tr Value) : halves (d + 1) body ts = bind (halves d body ts) (fun x => match x.1 with
  | .normal => halves d body x.2
  | .exit i => ret (.exit i, x.2)
  | .ret => ret (.ret, x.2)) := by
  show bind (halves d body ts) _ = _
  congr 1; funext x; obtain ⟨e, t⟩ := x; cases e <;> rfl
theorem halves_iter (body : Tr Value → M F (Ex × Tr Value)) : ∀ (d f : Nat) (ts : Tr Value), bind (halves d body ts) (iterK f body) = iter (2 ^ d + f) body ts
  | 0, f, ts => by
    rw [Nat.pow_zero, Nat.add_comm, iter_succ]
    rfl
  | d + 1, f, ts => by
    rw [halves_succ, bind_assoc, show 2 ^ (d + 1) + f = 2 ^ d + (2 ^ d + f) by rw [Nat.pow_succ]; omega, ← halves_iter body d (2 ^ d + f) ts]
    congr 1; funext x; obtain ⟨e, t⟩ := x
    cases e with
    | normal => exact halves_iter body d f t
    | exit i => exact ret_bind _ _
    | ret => exact ret_bind _ _
theorem loc_jumpO (hc : ClLoc call) (x : Code) (ts : Tr Value) : Loc (jumpO call x ts) := by
  unfold jumpO
  cases h : call.jmp x with
  | none => exact loc_ret _
  | some m => exact hc.jmp x m h ts
theorem code_loop (c : Code) (ts : Tr Value) : code P C call N fuel (.loop c) ts = bind (jumpO call c ts) (iter (2 ^ 12 + fuel) (fun ts => code P C call N fuel c ts)) := by
  show bind (jumpO call c ts) _ = bind (jumpO call c ts) _
  congr 1; funext ts
  rw [← halves_iter]
  show bind (halves 12 (fun ts => code P C call N fuel c ts) ts) _ = _
  congr 1; funext x; obtain ⟨e, t⟩ := x; cases e <;> rfl
theorem code_regF (id : Nat) (ops : Array Oper) (ts : Tr Value) : code P C call N fuel (.region id ops false) ts = cond (okOps C N ops.toList) (bind (seqOps P C call ops ops.toList ts) fun ts' => ret (.normal, ts')) fail := by
  show Bool.rec (motive := fun _ => M F (Ex × Tr Value)) fail (bind (seqOps P C call ops ops.toList ts) fun ts' => ret (.normal, ts')) (okOps C N ops.toList) = _
  cases okOps C N ops.toList <;> rfl
theorem code_regT (id : Nat) (ops : Array Oper) (ts : Tr Value) : code P C call N fuel (.region id ops true) ts = cond (okOps C N ops.toList && tidyRegion ops) (bind (scp (anyOps P C call ops (Region.before ops) ops.toList 0 [] ts)) fun ts' => ret (.normal, ts')) fail := by
  show Bool.rec (motive := fun _ => M F (Ex × Tr Value)) fail (bind (scp (anyOps P C call ops (Region.before ops) ops.toList 0 [] ts)) fun ts' => ret (.normal, ts')) (okOps C N ops.toList && tidyRegion ops) = _
  cases (okOps C N ops.toList && tidyRegion ops) <;> rfl
theorem code_cond (c : Operand) (x y : Code) (ts : Tr Value) : code P C call N fuel (.cond c x y) ts = match opd ts c with
    | .bool b => cond b (code P C call N fuel x ts) (code P C call N fuel y ts)
    | _ => fail := by
  show (match opd ts c with
    | .bool b => Bool.rec (motive := fun _ => M F (Ex × Tr Value)) (code P C call N fuel y ts) (code P C call N fuel x ts) b
    | _ => fail) = _
  split
  · rename_i b _
    cases b <;> rfl
  · rfl
theorem loc_iter {body : Tr Value → M F (Ex × Tr Value)} (hb : ∀ ts, Loc (body ts)) : ∀ (f : Nat) (ts : Tr Value), Loc (iter f body ts)
  | 0, _ => loc_fail
  | f + 1, ts => by
    rw [iter_succ]
    refine loc_bind (hb ts) fun x => ?_
    unfold iterK
    split
    · exact loc_iter hb f _
    · exact loc_ret _
    · exact loc_ret _
theorem loc_code (P : Program) (C : Cfg F) [HardLoc C] (N fuel : Nat) (hc : ClLoc call) : ∀ (c : Code) (ts : Tr Value), Loc (code P C call N fuel c ts)
  | .skip, _ => loc_ret _
  | .label _, _ => loc_ret _
  | .region id ops false, ts => by rw [code_regF]; exact loc_cond (loc_bind (loc_seqOps P C hc ops _ _) fun _ => loc_ret _) loc_fail
  | .region id ops true, ts => by rw [code_regT]; exact loc_cond (loc_bind (loc_scp (loc_anyOps P C hc ops _ _ _ _ _)) fun _ => loc_ret _) loc_fail
  | .seq a b, ts => by
    rw [code_seq]
    refine loc_bind (loc_code P C N fuel hc a ts) fun x => ?_
    unfold seqK
    split
    · exact loc_code P C N fuel hc b _
    · exact loc_ret _
    · exact loc_ret _
  | .cond c x y, ts => by
    rw [code_cond]
    split
    · exact loc_cond (loc_code P C N fuel hc x ts) (loc_code P C N fuel hc y ts)
    · exact loc_fail
  | .block id c, ts => by
    rw [code_block]
    refine loc_bind (loc_code P C N fuel hc c ts) fun x => ?_
    unfold blockK
    split
    · exact loc_ret _
    · exact loc_cond (loc_ret _) (loc_ret _)
    · exact loc_ret _
  | .loop c, ts => by rw [code_loop]; exact loc_bind (loc_jumpO hc c ts) fun ts => loc_iter (fun ts => loc_code P C N fuel hc c ts) _ ts
  | .scope c, ts => loc_code P C N fuel hc c ts
  | .exit _, _ => loc_ret _
  | .ret, _ => loc_ret _
  | .goto _, _ => loc_fail
  | .refuse _, _ => loc_fail
  | .rangeFunc g ps x y, ts => loc_rngO C hc N g ps (fun ts => loc_code P C N fuel hc x ts) (fun ts => loc_code P C N fuel hc y ts) ts
theorem eval_bool {r : Ren} {ts : Tr Value} {a : Act} (hT : TR r ts a) {c : Operand} {b : Bool} (h : opd ts c = .bool b) : a.eval c = .bool b := by
  cases c with
  | tmp t => have h1 := hT t; rw [h] at h1; exact h1.bool
  | const v => exact h
  | global g => simp [opd] at h
  | func f => simp [opd] at h
theorem Mod.grown {r : Ren} {g : Nat → Option (Blk F)} {w w' : World} (hM : Mod S r g w) (hk : ∀ (b : Nat) (o : Obj), w.heap[b]? = some o → w'.heap[b]? = some o) (hz : w.heap.size ≤ w'.heap.size) : Mod S r g w' := by
  refine ⟨hM.inj, fun n b hn => Nat.lt_of_lt_of_le (hM.lt n b hn) hz, fun n c t hn => ?_, fun n f hn => ?_, S.baseS w w' hM.base fun b o _ => hk b o, hM.glob, hM.own, fun n c t hn => ?_, Nat.le_trans hM.sz hz, hM.lp.mono (.refl r) (fun _ _ q => q) fun b L => hk b _, hM.ow.all (.refl r) (fun _ _ q => q) hk, hM.ad⟩
  · obtain ⟨b, c', h1, h2, h3, h4⟩ := hM.cells n c t hn
    exact ⟨b, c', h1, hk b _ h2, h3, h4⟩
  · obtain ⟨v, h1, h2, h3⟩ := hM.fact n f hn
    exact ⟨v, h1, S.stable f w w' v h2 fun b c t z hbo _ => hk b _ hbo, h3⟩
  · obtain ⟨b, c', h1, h2, h3, h4, h5⟩ := hM.room n c t hn
    exact ⟨b, c', h1, hk b _ h2, h3, h4, h5⟩
theorem Mod.putObj' {r : Ren} {g : Nat → Option (Blk F)} {w : World} {l : Nat} (hM : Mod S r g w) (hl : ∀ c t z, w.heap[l]? ≠ some (.cells c t z)) (hlo : ∀ L, w.heap[l]? ≠ some (.loop L)) (hG : S.G ≤ l) (o : Obj) : Mod S r g (w.putObj l o) := by
  have hk : ∀ (b : Nat) (c : Array Value) (t : TypeId) (z : Nat × Nat), w.heap[b]? = some (.cells c t z) → (w.putObj l o).heap[b]? = some (.cells c t z) := fun b c t z hb => by
    rw [World.putObj_heap_other (fun q => by rw [q] at hb; exact hl c t z hb)]; exact hb
  refine ⟨hM.inj, fun n b hn => by rw [World.putObj_size]; exact hM.lt n b hn, fun n c t hn => ?_, fun n f hn => ?_, S.baseS w _ hM.base fun b o' hb ho => by rw [World.putObj_heap_other (by omega)]; exact ho, hM.glob, hM.own, fun n c t hn => ?_, by rw [World.putObj_size]; exact hM.sz, hM.lp.mono (.refl r) (fun _ _ q => q) fun b L hb => by rw [World.putObj_heap_other (fun q => by rw [q] at hb; exact hlo L hb)]; exact hb, hM.ow.mono (.refl r) (fun _ _ q => q) fun b c t z hb _ => hk b c t z hb, hM.ad⟩
  · obtain ⟨b, c', h1, h2, h3, h4⟩ := hM.cells n c t hn
    exact ⟨b, c', h1, hk _ _ _ _ h2, h3, h4⟩
  · obtain ⟨v, h1, h2, h3⟩ := hM.fact n f hn
    exact ⟨v, h1, S.stable f w _ v h2 fun b c t z hbo _ => hk _ _ _ _ hbo, h3⟩
  · obtain ⟨b, c', h1, h2, h3, h4, h5⟩ := hM.room n c t hn
    exact ⟨b, c', h1, hk _ _ _ _ h2, h3, h4, h5⟩
theorem Mod.turn {r : Ren} {g : Nat → Option (Blk F)} {w : World} {i l : Nat} {s0 : Lst} {L L' : Loop} {x : Blk F} (hM : Mod S r g w) (hg : g i = some (.lp s0)) (hb : r.blk i = some l) (hv : r.val i = some (.func (.yield l) #[] #[])) (hl : w.heap[l]? = some (.loop L)) (hG : S.G ≤ l)
    (hx : x = .opq ∨ ∃ s, x = .lp s ∧ L'.state = s.state ∧ L'.pending = s.pend) : Mod S r (fun n => if n = i then some x else g n) (w.putObj l (.loop L')) := by
  have hlt := (Array.getElem?_eq_some_iff.1 hl).1
  have hgi : ¬ Gone g i := fun q => q.2.2.1 s0 hg
  have hk : ∀ (b : Nat) (c : Array Value) (t : TypeId) (z : Nat × Nat), w.heap[b]? = some (.cells c t z) → (w.putObj l (.loop L')).heap[b]? = some (.cells c t z) := fun b c t z hb => by
    rw [World.putObj_heap_other (fun q => by rw [q, hl] at hb; cases hb)]; exact hb
  have hgo : ∀ k, Gone g k → Gone (fun n => if n = i then some x else g n) k := fun k q => by
    have e : k ≠ i := fun e => hgi (e ▸ q)
    exact ⟨fun c t => by simpa only [if_neg e] using q.1 c t, fun c t => by simpa only [if_neg e] using q.2.1 c t, ⟨fun s => by simpa only [if_neg e] using q.2.2.1 s, fun f => by simpa only [if_neg e] using q.2.2.2 f⟩⟩
  refine ⟨fun n m b h1 h2 => (hM.inj n m b h1 h2).imp id (Or.imp (hgo n) (hgo m)), fun n b hn => by rw [World.putObj_size]; exact hM.lt n b hn, fun n c t hn => ?_, fun n f hn => ?_, S.baseS w _ hM.base fun b o' hb ho => by rw [World.putObj_heap_other (by omega)]; exact ho, hM.glob, hM.own, fun n c t hn => ?_, by rw [World.putObj_size]; exact hM.sz, fun n s hn => ?_, hM.ow.mono (.refl r) (fun n f hn => by
    by_cases e : n = i
    · simp only [if_pos e, Option.some.injEq] at hn
      rcases hx with rfl | ⟨s, rfl, _⟩ <;> cases hn
    · simpa only [if_neg e] using hn) (fun b c t z hb _ => hk b c t z hb), hM.ad.mono (.refl r) fun n m y hn => by
    by_cases e : n = i
    · simp only [if_pos e, Option.some.injEq] at hn
      rcases hx with rfl | ⟨s, rfl, _⟩ <;> cases hn
    · simpa only [if_neg e] using hn⟩
  · by_cases e : n = i
    · simp only [if_pos e, Option.some.injEq] at hn
      rcases hx with rfl | ⟨s, rfl, _⟩ <;> cases hn
    · simp only [if_neg e] at hn
      obtain ⟨b, c', h1, h2, h3, h4⟩ := hM.cells n c t hn
      exact ⟨b, c', h1, hk _ _ _ _ h2, h3, h4⟩
  · by_cases e : n = i
    · simp only [if_pos e, Option.some.injEq] at hn
      rcases hx with rfl | ⟨s, rfl, _⟩ <;> cases hn
    · simp only [if_neg e] at hn
      obtain ⟨v, h1, h2, h3⟩ := hM.fact n f hn
      exact ⟨v, h1, S.stable f w _ v h2 fun b c t z hbo _ => hk _ _ _ _ hbo, h3⟩
  · by_cases e : n = i
    · simp only [if_pos e, Option.some.injEq] at hn
      rcases hx with rfl | ⟨s, rfl, _⟩ <;> cases hn
    · simp only [if_neg e] at hn
      obtain ⟨b, c', h1, h2, h3, h4, h5⟩ := hM.room n c t hn
      exact ⟨b, c', h1, hk _ _ _ _ h2, h3, h4, h5⟩
  · by_cases e : n = i
    · subst e
      simp only [if_true, Option.some.injEq] at hn
      rcases hx with rfl | ⟨s', rfl, h1, h2⟩
      · cases hn
      · cases hn
        exact ⟨l, L', hb, hv, World.putObj_heap_same hlt, h1, h2⟩
    · simp only [if_neg e] at hn
      obtain ⟨b, L1, h1, h2, h3, h4⟩ := hM.lp n s hn
      refine ⟨b, L1, h1, h2, ?_, h4⟩
      rw [World.putObj_heap_other (fun q => ?_)]
      · exact h3
      · subst q
        rcases hM.inj n i b h1 hb with q | q | q
        · exact e q
        · exact q.2.2.1 s hn
        · exact hgi q
theorem Marks.putObj {B0 : Nat} {l : Nat} {L : Loop} {w : World} (hl : w.heap[l]? = some (.loop L)) (o : Obj) : ∀ {ds : List Deferred} {r : Ren}, Marks S B0 ds r w → Marks S B0 ds r (w.putObj l o)
  | [], _, h => by show B0 ≤ _; rw [World.putObj_size]; exact h
  | _ :: _, _, ⟨h, D, h1, h2, h3⟩ => ⟨Marks.putObj hl o h, D, h1, by rw [World.putObj_heap_other (fun q => by rw [q, hl] at h2; cases h2)]; exact h2, h3⟩
theorem Marks.named {B0 l : Nat} {L : Loop} {w : World} (hl : w.heap[l]? = some (.loop L)) {r r1 : Ren} (hr : ∀ k b, r1.blk k = some b → r.blk k = some b ∨ b = l) : ∀ {ds : List Deferred}, Marks S B0 ds r w → Marks S B0 ds r1 w
  | [], h => h
  | _ :: _, ⟨h, D, h1, h2, h3, h4⟩ => ⟨Marks.named hl hr h, D, h1, h2, fun k q => (hr k D q).elim (h3 k) fun q => (by rw [q, hl] at h2; cases h2), h4⟩
theorem YOK.putObj {l : Nat} (o : Obj) : ∀ {ys : Ylds F} {r : Ren} {w : World}, YOK S P ys r w → (∀ x ∈ ys, ∀ b, r.val x.1 = some (.func (.yield b) #[] #[]) → b ≠ l) → YOK S P ys r (w.putObj l o)
  | [], _, _, _, _ => trivial
  | x :: _, _, _, ⟨h, b, L, r0, hb, hle, hs⟩, hne => ⟨YOK.putObj o h fun y hy => hne y (List.mem_cons_of_mem _ hy), b, L, r0,
      ⟨hb.val, hb.blk, by rw [World.putObj_heap_other (hne x List.mem_cons_self b hb.val)]; exact hb.at_, hb.own⟩, hle, hs⟩
theorem YOK.lt : ∀ {ys : Ylds F} {r : Ren} {w : World}, YOK S P ys r w → ∀ x ∈ ys, ∃ b, r.val x.1 = some (.func (.yield b) #[] #[]) ∧ b < w.heap.size
  | [], _, _, _, x, hx => by simp at hx
  | y :: _, _, _, ⟨h, b, L, r0, hb, _, _⟩, x, hx => by
    rcases List.mem_cons.1 hx with rfl | hx
    · obtain ⟨L', h1, _⟩ := hb.at_
      exact ⟨b, hb.val, (Array.getElem?_eq_some_iff.1 h1).1⟩
    · exact YOK.lt h x hx
theorem Ext.more {r r' : Ren} {w w' : World} {lo hi : Nat} {W W' : List Nat} {g : Nat → Option (Blk F)} (h : Ext S r w lo hi W g r' w') (hW : ∀ n ∈ W, n ∈ W') : Ext S r w lo hi W' g r' w' :=
  ⟨h.le, h.mod, h.dom, fun n b hn => (h.new n b hn).imp id (Or.imp id fun ⟨k, hk, q⟩ => ⟨k, hW k hk, q⟩), fun b o hb hw => h.keep b o hb fun n hn => hw n (hW n hn), h.size, h.os, h.tape, h.output, h.loops⟩
theorem Ext.putNew {r r' : Ren} {w w' : World} {lo hi l : Nat} {W : List Nat} {g g' : Nat → Option (Blk F)} {o : Obj} (h : Ext S r w lo hi W g r' w') (hl : w.heap.size ≤ l) (hM : Mod S r' g' (w'.putObj l o)) : Ext S r w lo hi W g' r' (w'.putObj l o) := by
  refine ⟨h.le, hM, h.dom, h.new, fun b o' hb hn => ?_, by rw [World.putObj_size]; exact h.size, h.os, h.tape, h.output, ⟨fun b L hb => ?_, fun b c t z hb => ?_⟩⟩
  · have := (Array.getElem?_eq_some_iff.1 hb).1
    rw [World.putObj_heap_other (by omega)]; exact h.keep b o' hb hn
  · obtain ⟨L', q1, q2⟩ := h.loops.lp b L hb
    have := (Array.getElem?_eq_some_iff.1 hb).1
    exact ⟨L', by rw [World.putObj_heap_other (by omega)]; exact q1, q2⟩
  · obtain ⟨c2, q1, q2⟩ := h.loops.sh b c t z hb
    have := (Array.getElem?_eq_some_iff.1 hb).1
    exact ⟨c2, by rw [World.putObj_heap_other (by omega)]; exact q1, q2⟩
theorem Ext.under {r r' : Ren} {w w' : World} {lo hi l i : Nat} {W : List Nat} {g g' : Nat → Option (Blk F)} {L L1 L2 : Loop} (h : Ext S r (w.putObj l (.loop L1)) lo hi W g r' w') (hl : w.heap[l]? = some (.loop L)) (hb : r.blk i = some l)
    (hM : Mod S r' g' (w'.putObj l (.loop L2))) (hs : LStep L L2) : Ext S r w lo hi (i :: W) g' r' (w'.putObj l (.loop L2)) := by
  have hlt := (Array.getElem?_eq_some_iff.1 hl).1
  have hz := h.size
  rw [World.putObj_size] at hz
  refine ⟨h.le, hM, h.dom, fun n b hb => ?_, fun b o hb' hw => ?_, by rw [World.putObj_size]; exact hz, h.os, h.tape, h.output, ⟨fun b L0 hb' => ?_, fun b c t z hb' => ?_⟩⟩
  · have := h.new n b hb
    rw [World.putObj_size] at this
    exact this.imp id (Or.imp id fun ⟨k, hk, q⟩ => ⟨k, List.mem_cons_of_mem _ hk, q⟩)
  · have e : b ≠ l := fun e => hw i List.mem_cons_self (e ▸ hb)
    rw [World.putObj_heap_other e]
    exact h.keep b o (by rw [World.putObj_heap_other e]; exact hb') fun n hn => hw n (List.mem_cons_of_mem _ hn)
  · by_cases e : b = l
    · subst e
      rw [hl] at hb'
      cases hb'
      exact ⟨L2, World.putObj_heap_same (by omega), hs⟩
    · obtain ⟨L', q1, q2⟩ := h.loops.lp b L0 (by rw [World.putObj_heap_other e]; exact hb')
      exact ⟨L', by rw [World.putObj_heap_other e]; exact q1, q2⟩
  · have e : b ≠ l := fun e => by rw [e, hl] at hb'; cases hb'
    obtain ⟨c2, q1, q2⟩ := h.loops.sh b c t z (by rw [World.putObj_heap_other e]; exact hb')
    exact ⟨c2, by rw [World.putObj_heap_other e]; exact q1, q2⟩
theorem turnLp_ok {i : Nat} {p : Lst → Bool} {b : Lst} {u : Unit} {h h' : Tr (Blk F)} {nx nx' : Nat} {R W : List Nat} (e : (turnLp i p b : M F Unit) h nx = .ok u h' nx' R W) : ∃ s, h.get i = some (.lp s) ∧ p s = true ∧ h' = h.set i (.lp b) ∧ nx' = nx ∧ W = [i] := by
  unfold turnLp at e
  obtain ⟨x, h1, nx1, R1, W1, R2, W2, e1, e2, rfl, rfl⟩ := bind_ok e
  unfold rd at e1
  cases hg : h.get i with
  | none => rw [hg] at e1; cases e1
  | some y =>
    rw [hg] at e1
    cases e1
    cases x with
    | lp s =>
      simp only at e2
      cases hp : p s with
      | false => rw [hp] at e2; cases e2
      | true =>
        rw [hp] at e2
        simp only [cond_true] at e2
        unfold wr at e2
        rw [hg] at e2
        cases e2
        exact ⟨s, rfl, hp, rfl, rfl, rfl⟩
    | _ => cases e2
theorem endLp_ok {i : Nat} {s : Lst} {h h' : Tr (Blk F)} {nx nx' : Nat} {R W : List Nat} (e : (endLp i : M F Lst) h nx = .ok s h' nx' R W) : h.get i = some (.lp s) ∧ h' = h.set i .opq ∧ nx' = nx ∧ W = [i] := by
  unfold endLp at e
  obtain ⟨x, h1, nx1, R1, W1, R2, W2, e1, e2, rfl, rfl⟩ := bind_ok e
  unfold rd at e1
  cases hg : h.get i with
  | none => rw [hg] at e1; cases e1
  | some y =>
    rw [hg] at e1
    cases e1
    cases x with
    | lp s0 =>
      simp only at e2
      obtain ⟨u, h2, nx2, R3, W3, R4, W4, e3, e4, rfl, rfl⟩ := bind_ok e2
      obtain ⟨rfl, rfl, rfl, rfl⟩ := ret_ok e4
      unfold wr at e3
      rw [hg] at e3
      cases e3
      exact ⟨rfl, rfl, rfl, rfl⟩
    | _ => cases e2
theorem LStep.same {L L' : Loop} (h : LStep L L') : L'.fn = L.fn ∧ L'.tmps = L.tmps ∧ L'.params = L.params ∧ L'.assign = L.assign ∧ L'.body = L.body := by
  rcases h with rfl | ⟨_, c, rfl⟩ <;> exact ⟨rfl, rfl, rfl, rfl, rfl⟩
theorem tr_putAll {r : Ren} : ∀ (ps : List Nat) {args args' : List Value} {ts : Tr Value} {T : Array Value}, VsR r args args' → args.length = ps.length → allLt T.size ps = true → TR r ts { tmps := T, defers := [] } →
    TR r (putAll ts ps args) { tmps := (ps.zip args').foldl (fun t x => t.setIfInBounds x.1 x.2) T, defers := [] } ∧ ((ps.zip args').foldl (fun t x => t.setIfInBounds x.1 x.2) T).size = T.size
  | [], _, _, ts, T, _, _, _, hT => by
    exact ⟨hT, rfl⟩
  | p :: ps, _, _, ts, T, .nil, hl, _, _ => by simp at hl
  | p :: ps, _, _, ts, T, .cons (v := v) (v' := v') (l := l) (l' := l') hv hvs, hl, hp, hT => by
    simp only [allLt, Bool.and_eq_true] at hp
    have h1 := tr_put (a := { tmps := T, defers := [] }) hT (dst := some p) hv (fun d hd => by cases hd; exact Nat.le_of_ble_eq_true hp.1)
    have h2 := tr_putAll ps (T := T.setIfInBounds p v') hvs (by simpa using hl) (by simpa using hp.2) h1
    simp only [List.zip_cons_cons, List.foldl_cons]
    exact ⟨h2.1, by rw [h2.2]; simp⟩
theorem fold_zip (ps : Array Nat) (args' : List Value) (T : Array Value) : (ps.zip ⟨args'⟩).foldl (fun t (p, v) => t.setIfInBounds p v) T = (ps.toList.zip args').foldl (fun t x => t.setIfInBounds x.1 x.2) T := by
  rw [← Array.foldl_toList]
  simp
section
variable {N : Nat}
def CodeOK (S : Sig F) (P : Program) (ys : Ylds F) (N : Nat) (m : Tr Value → M F (Ex × Tr Value)) (c : Code) : Prop :=
  ∀ {ts ts' : Tr Value} {ex : Ex} {h h' : Tr (Blk F)} {nx nx' : Nat} {R W : List Nat}, Run (m ts) h nx (ex, ts') h' nx' R W →
    ∀ {r : Ren} {w : World} {a : Act} {ro : Option Nat} {d B0 : Nat} {D0 : Df}, Mod S r h.get w → New r nx nx' → St S P ys N ro B0 D0 ts r w a → ∀ (Q : Exit → Act → World → Prop),
      (∀ a' r' w', St S P ys N ro B0 D0 ts' r' w' a' → Ext S r w nx nx' W h'.get r' w' → Q (toExit ex) a' w') → c.wpIn (RF ro) d P Q a w
theorem round_ok {ys : Ylds F} {ps : Array Nat} {x y : Code} {ia ib : Tr Value → M F (Ex × Tr Value)} (la : ∀ ts, Loc (ia ts)) (lb : ∀ ts, Loc (ib ts)) (hx : CodeOK S P ys N ia x) (hy : CodeOK S P ys N ib y)
    {ts : Tr Value} {r0 : Ren} {a : Act} (hT : TR r0 ts a) (hz : a.tmps.size = N) (hps : allLt N ps.toList = true) {l : Nat} {L : Loop} (hL1 : L.state = .ready) (hL2 : L.pending = none) (hL3 : L.tmps = a.tmps) (hL4 : L.params = ps) (hL5 : L.assign = x) (hL6 : L.body = y)
    {i : Nat} {r2 : Ren} {w2 : World} {args args' : List Value} {h h' : Tr (Blk F)} {nx nx' : Nat} {v : Value} {R W : List Nat} (hle : r0.le r2) (hyb : YB S r2 w2 i l L) (hys : YOK S P ys r2 w2) (hne : ∀ z ∈ ys, ∃ b, r0.val z.1 = some (.func (.yield b) #[] #[]) ∧ b ≠ l)
    (e : Run (roundM i ps ia ib ts args) h nx v h' nx' R W) (ha : VsR r2 args args') (hM : Mod S r2 h.get w2) (hN : New r2 nx nx') :
    YieldAt Fence.wide 0 P l ⟨args'⟩ w2 fun e w' => ∃ v' r', e = .returned v' ∧ VR r' v v' ∧ Ext S r2 w2 nx nx' W h'.get r' w' := by
  unfold roundM at e
  obtain ⟨hlen, e⟩ := e.cond
  have hlen' := Nat.eq_of_beq_eq_true hlen
  obtain ⟨⟨ex1, ts1⟩, h1, nx1, R1, W1, R2, W2, ea, eb, rfl, rfl, l1, l2⟩ := e.bind (la _) (fun z => by
    split
    · exact loc_bind (loc_turnLp _ _ _) fun _ => loc_bind (lb _) fun _ => loc_bind (loc_turnLp _ _ _) fun _ => loc_ret _
    · exact loc_fail
    · exact loc_fail)
  cases ex1 with
  | exit j => exact eb.no.elim
  | ret => exact eb.no.elim
  | normal =>
    simp only at eb
    obtain ⟨u1, h2, nx2, R3, W3, R4, W4, ec, ed, rfl, rfl, l3, l4⟩ := eb.bind (loc_turnLp _ _ _) (fun _ => loc_bind (lb _) fun _ => loc_bind (loc_turnLp _ _ _) fun _ => loc_ret _)
    obtain ⟨s0, hg, hp, rfl, rfl, rfl⟩ := turnLp_ok ec.ok
    obtain ⟨⟨ex2, ts2⟩, h3, nx3, R5, W5, R6, W6, ee, ef, rfl, rfl, l5, l6⟩ := ed.bind (lb _) (fun _ => loc_bind (loc_turnLp _ _ _) fun _ => loc_ret _)
    obtain ⟨u2, h4, nx4, R7, W7, R8, W8, eg, eh, rfl, rfl, l7, l8⟩ := ef.bind (loc_turnLp _ _ _) (fun _ => loc_ret _)
    obtain ⟨s1, hg1, hp1, rfl, rfl, rfl⟩ := turnLp_ok eg.ok
    obtain ⟨rfl, rfl, rfl, rfl⟩ := ret_ok eh.ok
    obtain ⟨L', hL', hstep⟩ := hyb.at_
    obtain ⟨f1, f2, f3, f4, f5⟩ := hstep.same
    have hsz : (⟨args'⟩ : Array Value).size = L'.params.size := by
      rw [f3, hL4]
      show args'.length = _
      rw [ha.length, hlen', Array.length_toList]
    have hT2 : TR r2 ts { tmps := a.tmps, defers := [] } := fun t => (hT t).mono hle
    obtain ⟨hT3, hz3⟩ := tr_putAll ps.toList ha hlen' (by rw [hz]; exact hps) hT2
    refine ⟨L'.fn, _, L'.assign, L'.body, run_yield hL' hsz, ?_⟩
    rw [f2, f3, f4, f5, hL3, hL4, hL5, hL6, fold_zip]
    refine roundIn_of_wpIn trivial ?_
    refine hx ea (ro := some l) (B0 := 0) hM (hN.sub (Nat.le_refl _) l2) ⟨hT3, hz3.trans hz, Nat.zero_le _, fun l' hl' => by cases hl'; exact ⟨L', hL'⟩, hys, .nil⟩ _ fun a1 r3 w3 hS3 hX3 => ?_
    have hbi : r3.blk i = some l := hX3.le.blk _ _ hyb.blk
    obtain ⟨b3, L3, q1, q2, q3, q4, q5⟩ := hX3.mod.lp i s0 hg
    rw [hbi] at q1
    cases q1
    have hs0 : s0 = .live := by cases s0 <;> first | rfl | cases hp
    subst hs0
    obtain ⟨L4, k1, k2⟩ := (hyb.mono hX3.going).at_
    rw [q3] at k1
    cases k1
    obtain rfl := k2.ready q4
    refine ⟨_, run_beginRound q3 q4, ?_⟩
    have hle3 := hle.trans hX3.le
    have hne3 : ∀ z ∈ ys, ∀ b, r3.val z.1 = some (.func (.yield b) #[] #[]) → b ≠ l := fun z hz' b hb => by
      obtain ⟨b0, q1, q2⟩ := hne z hz'
      have := hle3.val _ _ q1
      rw [hb] at this
      cases this; exact q2
    have hlt3 := (Array.getElem?_eq_some_iff.1 q3).1
    have hMb : Mod S r3 (h1.set i (.lp .busy)).get (w3.putObj l (.loop { L3 with state := .busy })) :=
      (hX3.mod.turn (x := .lp .busy) (L' := { L3 with state := .busy }) hg hbi q2 q3 hyb.own (.inr ⟨.busy, rfl, rfl, q5⟩)).congr fun n => .inr (Tr.get_set _ _ _ _)
    refine hy ee (ro := some l) (B0 := 0) hMb ((hN.after hX3 l1).sub (Nat.le_refl _) (by omega)) ⟨hS3.T, hS3.size, hS3.marks.putObj q3 _, fun l' hl' => by cases hl'; exact ⟨_, World.putObj_heap_same hlt3⟩, hS3.ys.putObj _ hne3, hS3.dfs.mono (by rw [World.putObj_size]; exact Nat.le_refl _)⟩ _ fun a2 r5 w5 hS5 hX5 => ?_
    have hbi5 : r5.blk i = some l := hX5.le.blk _ _ hbi
    obtain ⟨b5, L5, p1, p2, p3, p4, p5⟩ := hX5.mod.lp i s1 hg1
    rw [hbi5] at p1
    cases p1
    obtain ⟨L6, m1, m2⟩ := hX5.loops.lp l _ (World.putObj_heap_same hlt3)
    rw [p3] at m1
    cases m1
    obtain rfl := m2.busy (by simp)
    have fin : ∀ jump : Option Code, (exLst ex2).pend = jump → (exLst ex2).state = (if jump.isNone then .ready else .done) → isLive (exLst ex2) = jump.isNone →
        ∃ v w', (Instr.endRound l jump).run P w5 = .ok v w' ∧ ∃ v' r', Ending.returned v = .returned v' ∧ VR r' (.bool (isLive (exLst ex2))) v' ∧ Ext S r2 w2 nx nx' (W1 ++ ([i] ++ (W5 ++ ([i] ++ [])))) (h3.set i (.lp (exLst ex2))).get r' w' := by
      intro jump j1 j2 j3
      refine ⟨_, _, run_endRound (P := P) jump p3, .bool jump.isNone, r5, rfl, by rw [j3]; exact .same rfl, ?_⟩
      have hMf := hX5.mod.turn (x := .lp (exLst ex2)) (L' := { L3 with state := if jump.isNone then .ready else .done, pending := jump }) hg1 hbi5 p2 p3 hyb.own (.inr ⟨_, rfl, j2.symm, j1.symm⟩)
      have hst : LStep L3 { L3 with state := if jump.isNone then .ready else .done, pending := jump } := by
        cases jump with
        | none => left; cases L3; simp only at hL1 hL2; subst hL1; subst hL2; rfl
        | some c => exact .inr ⟨hL1, c, rfl⟩
      have hu := hX5.under q3 hbi (hMf.congr fun n => .inr (Tr.get_set _ _ _ _)) hst
      refine (hX3.trans hu l1 l5).more fun n hn => ?_
      simp only [List.mem_append, List.mem_cons] at hn
      rcases hn with q | q | q <;> simp [q]
    cases ex2 with
    | normal => exact fin none rfl rfl rfl
    | ret => exact fin (some .ret) rfl rfl rfl
    | exit j => exact fin (some (.exit j)) rfl rfl rfl
set_option maxHeartbeats 2000000 in
theorem rng_ok [HardLoc C] (hF : Fits S P C) (hc : ClOK S P call) {g : Operand} {ps : Array Nat} {x y : Code} {ia ib : Tr Value → M F (Ex × Tr Value)} (la : ∀ ts, Loc (ia ts)) (lb : ∀ ts, Loc (ib ts)) (hx : CodeOK S P call.ys N ia x) (hy : CodeOK S P call.ys N ib y)
    {ts ts' : Tr Value} {ex : Ex} {h h' : Tr (Blk F)} {nx nx' : Nat} {R W : List Nat} (e : Run (rngO C call N g ps ia ib ts) h nx (ex, ts') h' nx' R W)
    {r : Ren} {w : World} {a : Act} {ro : Option Nat} {d B0 : Nat} {D0 : Df} (hM : Mod S r h.get w) (hN : New r nx nx') (hS : St S P call.ys N ro B0 D0 ts r w a) (Q : Exit → Act → World → Prop)
    (hQ : ∀ a' r' w', St S P call.ys N ro B0 D0 ts' r' w' a' → Ext S r w nx nx' W h'.get r' w' → Q (toExit ex) a' w') : (Code.rangeFunc g ps x y).wpIn (RF ro) d P Q a w := by
  unfold rngO at e
  cases hv : opd ts g with
  | func fn lf mf =>
    rw [hv] at e; simp only at e
    cases fn with
    | func f =>
      simp only at e
      cases ht : C.tab f with
      | none => rw [ht] at e; exact e.no.elim
      | some fd =>
        rw [ht] at e; simp only at e
        cases hb : fd.body with
        | none => rw [hb] at e; exact e.no.elim
        | some bd =>
          rw [hb] at e; simp only at e
          obtain ⟨hok, e⟩ := e.cond
          simp only [Bool.and_eq_true] at hok
          have hyl : ∀ i, YLoc ((i, roundM i ps ia ib ts) :: call.ys) := fun i z hz args => by
            rcases List.mem_cons.1 hz with rfl | hz
            · exact loc_roundM la lb ts args
            · exact hc.loc.ys z hz args
          have lE : ∀ i, Loc (bind (endLp i) fun s => match lstEx s with
              | some e => ret (e, ts)
              | none => fail : M F (Ex × Tr Value)) := fun i => loc_bind (loc_endLp _) fun s => by
            split
            · exact loc_ret _
            · exact loc_fail
          obtain ⟨i, h1, nx1, R1, W1, R2, W2, e1, e2, rfl, rfl, l1, l2⟩ := e.bind (loc_fresh _) (fun i => loc_bind (hc.loc.go _ (hyl i) _ _) fun _ => lE i)
          have e1' := e1.ok
          unfold fresh at e1'
          cases e1'
          obtain ⟨u, h2, nx2, R3, W3, R4, W4, e3, e4, rfl, rfl, l3, l4⟩ := e2.bind (hc.loc.go _ (hyl nx) _ _) (fun _ => lE nx)
          obtain ⟨s, h3, nx3, R5, W5, R6, W6, e5, e6, rfl, rfl, l5, l6⟩ := e4.bind (loc_endLp _) (fun s => by
            split
            · exact loc_ret _
            · exact loc_fail)
          obtain ⟨hgE, rfl, rfl, rfl⟩ := endLp_ok e5.ok
          cases hls : lstEx s with
          | none => rw [hls] at e6; exact e6.no.elim
          | some ex0 =>
          rw [hls] at e6
          obtain ⟨q, rfl, rfl, rfl⟩ := ret_ok e6.ok
          cases q
          have hvg := opd_ok (C := C) (ts := ts) (a := a) (fun t _ => hS.T t) (fun n hn => hM.glob n (hF.G ▸ hn)) hok.1
          rw [hv] at hvg
          have key : ∃ l' m', a.eval g = .func (.func f) ⟨l'⟩ ⟨m'⟩ ∧ VsR r lf.toList l' ∧ VsR r mf.toList m' := by
            generalize a.eval g = vf at hvg
            cases hvg with
            | same p =>
              simp only [plain, Bool.and_eq_true, Array.isEmpty_iff] at p
              obtain ⟨rfl, rfl⟩ := p
              exact ⟨[], [], rfl, .nil, .nil⟩
            | func h1 h2 => exact ⟨_, _, rfl, h1, h2⟩
          obtain ⟨l', m', hev, hl', hm'⟩ := key
          refine wpIn_rangeFunc fun fnid _ => ?_
          have key2 : ∃ l mark W1 L, (Instr.enterLoop fnid a.tmps ps x y (RF ro).round).run P w = .ok (l, mark) W1 ∧ W1.heap[l]? = some (.loop L) ∧ L.state = .ready ∧ L.pending = none ∧ L.tmps = a.tmps ∧ L.params = ps ∧ L.assign = x ∧ L.body = y ∧ w.heap.size ≤ l ∧ Below w.heap.size w W1 ∧ Marks S B0 (mark ++ a.defers) r W1 ∧ ∀ e ∈ mark, ∃ D, e.target = .collected D ∧ w.heap.size ≤ D := by
            cases ro with
            | none =>
              have hb1 : Below w.heap.size w (w.alloc (.deferred (some []))) := (Below.refl _ w).alloc (Nat.le_refl _) _
              have hb2 : Below w.heap.size w ((w.alloc (.deferred (some []))).alloc (.loop { state := .ready, pending := none, fn := fnid, tmps := a.tmps, params := ps, assign := x, body := y, defers := w.heap.size })) := hb1.alloc (by simp) _
              have hD : ((w.alloc (.deferred (some []))).alloc (.loop { state := .ready, pending := none, fn := fnid, tmps := a.tmps, params := ps, assign := x, body := y, defers := w.heap.size })).heap[w.heap.size]? = some (.deferred (some [])) :=
                (Below.heap_alloc _ _ _ (by simp)).trans (World.alloc_heap_new w _)
              refine ⟨_, _, _, { state := .ready, pending := none, fn := fnid, tmps := a.tmps, params := ps, assign := x, body := y, defers := w.heap.size }, run_enterLoop_outer _ _ _ _ _, ?_, rfl, rfl, rfl, rfl, rfl, rfl, Nat.le_succ _, hb2, ?_, fun e he => ?_⟩
              · have := World.alloc_heap_new (w.alloc (.deferred (some []))) (.loop { state := .ready, pending := none, fn := fnid, tmps := a.tmps, params := ps, assign := x, body := y, defers := w.heap.size })
                rwa [World.size_alloc] at this
              · refine ⟨hS.marks.mono ⟨.refl r, fun b o hb _ => (hb2.block b (Array.getElem?_eq_some_iff.1 hb).1).trans hb, fun k b hk => .inl ⟨k, hk⟩, hb2.size, .of fun b o hb => (hb2.block b (Array.getElem?_eq_some_iff.1 hb).1).trans hb⟩, w.heap.size, rfl, hD, fun k hk => ?_, hM.fits, hS.marks.base, fun e he ht => ?_⟩
                · have := hM.lt k _ hk; omega
                · have := hS.marks.lt _ ⟨e, he, ht⟩; omega
              · obtain rfl := List.mem_singleton.1 he
                exact ⟨_, rfl, Nat.le_refl _⟩
            | some l0 =>
              obtain ⟨L0, hl0⟩ := hS.round l0 rfl
              have hb2 : Below w.heap.size w (w.alloc (.loop { state := .ready, pending := none, fn := fnid, tmps := a.tmps, params := ps, assign := x, body := y, defers := L0.defers })) := (Below.refl _ w).alloc (Nat.le_refl _) _
              refine ⟨_, _, _, { state := .ready, pending := none, fn := fnid, tmps := a.tmps, params := ps, assign := x, body := y, defers := L0.defers }, run_enterLoop_inner hl0 _ _ _ _ _, World.alloc_heap_new w _, rfl, rfl, rfl, rfl, rfl, rfl, Nat.le_refl _, hb2, ?_, fun e he => by simp at he⟩
              exact hS.marks.mono ⟨.refl r, fun b o hb _ => (hb2.block b (Array.getElem?_eq_some_iff.1 hb).1).trans hb, fun k b hk => .inl ⟨k, hk⟩, hb2.size, .of fun b o hb => (hb2.block b (Array.getElem?_eq_some_iff.1 hb).1).trans hb⟩
          obtain ⟨l, mark, W1, L, henter, hL, hL1, hL2, hL3, hL4, hL5, hL6, hge, hbel, hmk, hmd⟩ := key2
          have hkW : ∀ (b : Nat) (o : Obj), w.heap[b]? = some o → W1.heap[b]? = some o := fun b o hb => (hbel.block b (Array.getElem?_eq_some_iff.1 hb).1).trans hb
          have hno := hN nx (Nat.le_refl _) (by omega)
          have hrl : r.le ⟨fun n => if n = nx then some l else r.blk n, fun n => if n = nx then some (.func (.yield l) #[] #[]) else r.val n, r.len⟩ := by
            refine ⟨fun n v e => ?_, fun n v e => ?_, fun _ _ _ => rfl⟩
            · have : n ≠ nx := fun q => by rw [q, hno.1] at e; cases e
              simp only [if_neg this, e]
            · have : n ≠ nx := fun q => by rw [q, hno.2] at e; cases e
              simp only [if_neg this, e]
          generalize hr1 : (⟨fun n => if n = nx then some l else r.blk n, fun n => if n = nx then some (.func (.yield l) #[] #[]) else r.val n, r.len⟩ : Ren) = r1 at hrl
          have hr1b : ∀ n, r1.blk n = if n = nx then some l else r.blk n := fun n => by rw [← hr1]
          have hr1v : ∀ n, r1.val n = if n = nx then some (.func (.yield l) #[] #[]) else r.val n := fun n => by rw [← hr1]
          have hG : S.G ≤ l := Nat.le_trans hM.fits hge
          have hM0 := hM.grown hkW hbel.size
          have hX1 : Ext S r w nx (nx + 1) [] (h.set nx (.lp .live)).get r1 W1 := by
            have hgo : ∀ n, n ≠ nx → Gone h.get n → Gone (h.set nx (.lp .live)).get n := fun n hn q => by
              refine ⟨fun c t => ?_, fun c t => ?_, fun s => ?_, fun f => ?_⟩ <;> rw [Tr.get_set, if_neg hn]
              · exact q.1 c t
              · exact q.2.1 c t
              · exact q.2.2.1 s
              · exact q.2.2.2 f
            refine ⟨hrl, ⟨fun n m b q1 q2 => ?_, fun n b q => ?_, fun n c t q => ?_, fun n k q => ?_, hM0.base, fun n hn => hrl.blk _ _ (hM0.glob n hn), fun n b q hn => ?_, fun n c t q => ?_, hM0.sz, fun n s q => ?_, hM0.ow.all hrl (fun n f q => by
              rw [Tr.get_set] at q
              split at q
              · cases q
              · exact q) (fun _ _ q => q), hM0.ad.mono hrl fun n m x q => by
              rw [Tr.get_set] at q
              split at q
              · cases q
              · exact q⟩, fun n q => ?_, fun n b q => ?_, fun b o hb _ => hkW b o hb, hbel.size, hbel.os, hbel.tape, hbel.output, .of hkW⟩
            · rw [hr1b] at q1 q2
              by_cases e1 : n = nx <;> by_cases e2 : m = nx
              · exact .inl (by omega)
              · rw [if_pos e1] at q1
                rw [if_neg e2] at q2
                cases q1
                have := hM.lt m _ q2; omega
              · rw [if_neg e1] at q1
                rw [if_pos e2] at q2
                cases q2
                have := hM.lt n _ q1; omega
              · rw [if_neg e1] at q1
                rw [if_neg e2] at q2
                exact (hM0.inj n m b q1 q2).imp id (Or.imp (hgo n e1) (hgo m e2))
            · rw [hr1b] at q
              split at q
              · cases q; exact (Array.getElem?_eq_some_iff.1 hL).1
              · exact hM0.lt n b q
            · rw [Tr.get_set] at q
              split at q
              · cases q
              · obtain ⟨b, c', k1, k2, k3, k4⟩ := hM0.cells n c t q
                exact ⟨b, c', hrl.blk _ _ k1, k2, k3.mono hrl, k4⟩
            · rw [Tr.get_set] at q
              split at q
              · cases q
              · obtain ⟨v, k1, k2, k3⟩ := hM0.fact n k q
                exact ⟨v, hrl.val _ _ k1, k2, k3⟩
            · rw [hr1b] at q
              split at q
              · cases q; exact hG
              · exact hM0.own n b q hn
            · rw [Tr.get_set] at q
              split at q
              · cases q
              · obtain ⟨b, c', k1, k2, k3, k4, k5⟩ := hM0.room n c t q
                exact ⟨b, c', hrl.blk _ _ k1, k2, k3.mono hrl, k4, by rw [hrl.len _ _ k1]; exact k5⟩
            · rw [Tr.get_set] at q
              split at q
              · rename_i e
                cases q
                exact ⟨l, L, by rw [hr1b, if_pos e], by rw [hr1v, if_pos e], hL, hL1, hL2⟩
              · obtain ⟨b, L0, k1, k2, k3⟩ := hM0.lp n s q
                exact ⟨b, L0, hrl.blk _ _ k1, hrl.val _ _ k2, k3⟩
            · by_cases e : n = nx
              · exact .inr ⟨by omega, by omega⟩
              · rw [hr1b, hr1v, if_neg e, if_neg e] at q
                exact .inl q
            · rw [hr1b] at q
              split at q
              · cases q; exact .inr (.inl hge)
              · exact .inl q
          have hN1 := hN.after hX1 (Nat.le_succ nx)
          have hyb : YB S r1 W1 nx l L := ⟨by rw [hr1v, if_pos rfl], by rw [hr1b, if_pos rfl], ⟨L, hL, .inl rfl⟩, hG⟩
          have hne : ∀ z ∈ call.ys, ∃ b, r1.val z.1 = some (.func (.yield b) #[] #[]) ∧ b ≠ l := fun z hz => by
            obtain ⟨b, q1, q2⟩ := hS.ys.lt z hz
            exact ⟨b, hrl.val _ _ q1, by omega⟩
          have hY1 : YOK S P ((nx, roundM nx ps ia ib ts) :: call.ys) r1 W1 := ⟨hS.ys.mono hX1.going, l, L, r1, hyb, .refl r1, fun r2 w2 args args' hh n1 v hh' n1' RR WW hle2 hyb2 hys2 e5 ha2 hM2 hN2 =>
            round_ok la lb hx hy (fun t => (hS.T t).mono hrl) hS.size hok.2 hL1 hL2 hL3 hL4 hL5 hL6 hle2 hyb2 hys2 hne e5 ha2 hM2 hN2⟩
          have hargs : VsR r1 (lf.toList ++ [.chan (some nx)] ++ mf.toList) (l' ++ [.func (.yield l) #[] #[]] ++ m') :=
            ((hl'.mono hrl).append (.cons (.opq hyb.val rfl) .nil)).append (hm'.mono hrl)
          have hcall := hc.run _ _ _ _ _ _ _ _ _ _ (hyl nx) e3 r1 W1 _ hargs hX1.mod (hN1.sub (Nat.le_refl _) (Nat.le_refl _)) hY1
          refine ⟨l, mark, W1, { target := .fn (.func f) ⟨m'⟩, args := ⟨l'⟩ ++ #[.func (.yield l) #[] #[]] }, W1, f, ⟨l' ++ [.func (.yield l) #[] #[]] ++ m'⟩, W1, henter, ?_, fun _ _ => trivial, ?_, rf_no, ?_⟩
          · simp only [resolve, hev, Deferred.ofValue]
            simp [Act.eval]
          · have := call_run hF ht hb ⟨l' ++ [.func (.yield l) #[] #[]] ++ m'⟩ W1
            rw [← this]
            simp [invoke]
          · apply rf_calls
            refine Calls.mono hcall ?_
            rintro en w' ⟨v', r', rfl, _, hX⟩
            have hbl : r'.blk nx = some l := hX.le.blk _ _ hyb.blk
            obtain ⟨b, LE, q1, q2, q3, q4, q5⟩ := hX.mod.lp nx s hgE
            rw [hbl] at q1
            cases q1
            have hnb : LE.state ≠ .busy := by
              rw [q4]
              cases s <;> first | (cases hls; done) | (intro q; cases q)
            have hend := run_endLoop (P := P) q3 hnb
            have hXt := hX1.trans hX (Nat.le_succ _) l3
            have hMe := (hX.mod.turn (x := .opq) (L' := { LE with state := .exhausted }) hgE hbl q2 q3 hG (.inl rfl)).congr (g' := (h2.set nx .opq).get) fun n => .inr (Tr.get_set _ _ _ _)
            have hXf := (hXt.putNew hge hMe).more (W' := [] ++ (W3 ++ ([nx] ++ []))) fun n hn => by
              simp only [List.nil_append, List.mem_append] at hn ⊢
              exact .inl hn
            have hSt : St S P call.ys N ro B0 D0 ts r' (w'.putObj l (.loop { LE with state := .exhausted })) { a with defers := mark ++ a.defers } := by
              refine ⟨fun t => (hS.T t).mono hXt.le, hS.size, (((hmk.named hL fun k b q => ?_).mono hX.going).putObj q3 _), fun l0 hl0 => ?_, (hS.ys.mono hXt.going).putObj _ (fun z hz b hb => ?_), ?_⟩
              · rw [hr1b] at q
                split at q
                · cases q; exact .inr rfl
                · exact .inl q
              · obtain ⟨L0, q1⟩ := hS.round l0 hl0
                obtain ⟨L9, q6, _⟩ := hXt.loops.lp l0 L0 q1
                have := (Array.getElem?_eq_some_iff.1 q1).1
                exact ⟨L9, by rw [World.putObj_heap_other (by omega)]; exact q6⟩
              · obtain ⟨b0, q1, q2⟩ := hS.ys.lt z hz
                have := hXt.le.val _ _ q1
                rw [hb] at this
                cases this
                omega
              · obtain ⟨q1, pre, q2, q3⟩ := hS.dfs
                refine ⟨Nat.le_trans q1 (by rw [World.putObj_size]; exact hXt.size), mark ++ pre, by rw [List.append_assoc, ← q2], fun e he => ?_⟩
                rcases List.mem_append.1 he with he | he
                · obtain ⟨D, q4, q5⟩ := hmd e he
                  exact ⟨D, q4, Nat.le_trans q1 q5⟩
                · exact q3 e he
            have hq := hQ _ _ _ hSt hXf
            have hend2 : (Instr.endLoop l).run P w' = .ok s.pend (w'.putObj l (.loop { LE with state := .exhausted })) := hend.trans (by rw [q5])
            refine ⟨s.pend, _, hend2, ?_⟩
            clear hend hend2 q5
            cases s with
            | live => cases hls; exact hq
            | busy => cases hls
            | ret => cases hls; exact wpIn_ret hq
            | exit j => cases hls; exact wpIn_exit hq
    | _ => exact e.no.elim
  | _ => rw [hv] at e; exact e.no.elim
end
theorem code_ok [HardLoc C] (hF : Fits S P C) (hc : ClOK S P call) : ∀ (c : Code), (∀ x ∈ loopsIn c, ∀ m, call.jmp x = some m → JmpOK S P N x m) → ∀ {ts ts' : Tr Value} {ex : Ex} {h h' : Tr (Blk F)} {nx nx' : Nat} {R W : List Nat}, Run (code P C call N fuel c ts) h nx (ex, ts') h' nx' R W →
    ∀ {r : Ren} {w : World} {a : Act} {ro : Option Nat} {d B0 : Nat} {D0 : Df}, Mod S r h.get w → New r nx nx' → St S P call.ys N ro B0 D0 ts r w a → ∀ (Q : Exit → Act → World → Prop),
      (∀ a' r' w', St S P call.ys N ro B0 D0 ts' r' w' a' → Ext S r w nx nx' W h'.get r' w' → Q (toExit ex) a' w') → c.wpIn (RF ro) d P Q a w
  | .skip, hJ, ts, ts', ex, h, h', nx, nx', R, W, e, r, w, a, ro, d, B0, D0, hM, hN, hS, Q, hQ => by
    obtain ⟨h1, rfl, rfl, rfl⟩ := ret_ok (show (ret (Ex.normal, ts) : M F _) h nx = _ from e.ok)
    cases h1
    exact wpIn_skip (hQ a r w hS (Ext.refl _ _ hM))
  | .label _, hJ, ts, ts', ex, h, h', nx, nx', R, W, e, r, w, a, ro, d, B0, D0, hM, hN, hS, Q, hQ => by
    obtain ⟨h1, rfl, rfl, rfl⟩ := ret_ok (show (ret (Ex.normal, ts) : M F _) h nx = _ from e.ok)
    cases h1
    exact wpIn_label (hQ a r w hS (Ext.refl _ _ hM))
  | .exit id, hJ, ts, ts', ex, h, h', nx, nx', R, W, e, r, w, a, ro, d, B0, D0, hM, hN, hS, Q, hQ => by
    obtain ⟨h1, rfl, rfl, rfl⟩ := ret_ok (show (ret (Ex.exit id, ts) : M F _) h nx = _ from e.ok)
    cases h1
    exact wpIn_exit (hQ a r w hS (Ext.refl _ _ hM))
  | .ret, hJ, ts, ts', ex, h, h', nx, nx', R, W, e, r, w, a, ro, d, B0, D0, hM, hN, hS, Q, hQ => by
    obtain ⟨h1, rfl, rfl, rfl⟩ := ret_ok (show (ret (Ex.ret, ts) : M F _) h nx = _ from e.ok)
    cases h1
    exact wpIn_ret (hQ a r w hS (Ext.refl _ _ hM))
  | .region id ops false, hJ, ts, ts', ex, h, h', nx, nx', R, W, e, r, w, a, ro, d, B0, D0, hM, hN, hS, Q, hQ => by
    rw [code_regF] at e
    obtain ⟨hok, e⟩ := e.cond
    obtain ⟨ts1, h1, nx1, R1, W1, R2, W2, e1, e2, rfl, rfl, -, -⟩ := e.bind (loc_seqOps P C hc.loc ops _ _) (fun _ => loc_ret _)
    obtain ⟨q, rfl, rfl, rfl⟩ := ret_ok e2.ok
    cases q
    refine wpIn_region ?_
    have hm := okOps_mem hok
    have := seqOps_ok hF hc ro d a.defers Q (fun o ho => (hm o ho).2) (N := N) (fun o ho => (hm o ho).1) ops.toList 0 rfl e1 hM hN hS.T hS.size rfl hS.ys fun a' r' w' h1 h2 h3 hX => hQ a' r' w' (hS.next h1 h2 h3 hX.going) (by simpa using hX)
    rwa [Array.length_toList, ← List.range_eq_range'] at this
  | .region id ops true, hJ, ts, ts', ex, h, h', nx, nx', R, W, e, r, w, a, ro, d, B0, D0, hM, hN, hS, Q, hQ => by
    rw [code_regT] at e
    obtain ⟨hok, e⟩ := e.cond
    simp only [Bool.and_eq_true] at hok
    obtain ⟨ts1, h1, nx1, R1, W1, R2, W2, e1, e2, rfl, rfl, -, -⟩ := e.bind (loc_scp (loc_anyOps P C hc.loc ops _ _ _ _ _)) (fun _ => loc_ret _)
    obtain ⟨q, rfl, rfl, rfl⟩ := ret_ok e2.ok
    cases q
    exact any_ok hF hc ro d a.defers hok.1 hok.2 e1 hM hN hS.T hS.size rfl hS.ys Q fun a' r' w' h1 h2 h3 hX => hQ a' r' w' (hS.next h1 h2 h3 hX.going) (by simpa using hX)
  | .seq x y, hJ, ts, ts', ex, h, h', nx, nx', R, W, e, r, w, a, ro, d, B0, D0, hM, hN, hS, Q, hQ => by
    rw [code_seq] at e
    have lk : ∀ x, Loc (seqK call N fuel P C y x) := fun x => by
      unfold seqK
      split
      · exact loc_code P C N fuel hc.loc y _
      · exact loc_ret _
      · exact loc_ret _
    obtain ⟨⟨e1x, ts1⟩, h1, nx1, R1, W1, R2, W2, e1, e2, rfl, rfl, l1, l2⟩ := e.bind (loc_code P C N fuel hc.loc x ts) lk
    refine wpIn_seq (code_ok hF hc x (fun z hz => hJ z (List.mem_append_left _ hz)) e1 hM (hN.sub (Nat.le_refl _) l2) hS _ fun a1 r1 w1 hS1 hX1 => ?_)
    cases e1x with
    | normal => exact code_ok hF hc y (fun z hz => hJ z (List.mem_append_right _ hz)) (show Run (code P C call N fuel y ts1) _ _ _ _ _ _ _ from e2) hX1.mod (hN.after hX1 l1) hS1 Q fun a2 r2 w2 hS2 hX2 => hQ a2 r2 w2 hS2 (hX1.trans hX2 l1 l2)
    | exit i =>
      obtain ⟨q, rfl, rfl, rfl⟩ := ret_ok (show (ret (Ex.exit i, ts1) : M F _) _ _ = _ from e2.ok)
      cases q
      exact hQ a1 r1 w1 hS1 (by simpa using hX1)
    | ret =>
      obtain ⟨q, rfl, rfl, rfl⟩ := ret_ok (show (ret (Ex.ret, ts1) : M F _) _ _ = _ from e2.ok)
      cases q
      exact hQ a1 r1 w1 hS1 (by simpa using hX1)
  | .cond c x y, hJ, ts, ts', ex, h, h', nx, nx', R, W, e, r, w, a, ro, d, B0, D0, hM, hN, hS, Q, hQ => by
    rw [code_cond] at e
    cases hv : opd ts c with
    | bool b =>
      rw [hv] at e; simp only at e
      refine wpIn_cond (eval_bool hS.T hv) ?_
      cases b with
      | true => exact code_ok hF hc x (fun z hz => hJ z (List.mem_append_left _ hz)) e hM hN hS Q hQ
      | false => exact code_ok hF hc y (fun z hz => hJ z (List.mem_append_right _ hz)) e hM hN hS Q hQ
    | _ => rw [hv] at e; exact e.no.elim
  | .block id c, hJ, ts, ts', ex, h, h', nx, nx', R, W, e, r, w, a, ro, d, B0, D0, hM, hN, hS, Q, hQ => by
    rw [code_block] at e
    have lk : ∀ x, Loc (blockK id x : M F _) := fun x => by
      unfold blockK
      split
      · exact loc_ret _
      · exact loc_cond (loc_ret _) (loc_ret _)
      · exact loc_ret _
    obtain ⟨⟨e1x, ts1⟩, h1, nx1, R1, W1, R2, W2, e1, e2, rfl, rfl, l1, l2⟩ := e.bind (loc_code P C N fuel hc.loc c ts) lk
    refine wpIn_block (code_ok hF hc c (fun z hz => hJ z hz) e1 hM (hN.sub (Nat.le_refl _) l2) hS _ fun a1 r1 w1 hS1 hX1 => ?_)
    cases e1x with
    | normal =>
      obtain ⟨q, rfl, rfl, rfl⟩ := ret_ok (show (ret (Ex.normal, ts1) : M F _) _ _ = _ from e2.ok)
      cases q
      exact hQ a1 r1 w1 hS1 (by simpa using hX1)
    | ret =>
      obtain ⟨q, rfl, rfl, rfl⟩ := ret_ok (show (ret (Ex.ret, ts1) : M F _) _ _ = _ from e2.ok)
      cases q
      exact hQ a1 r1 w1 hS1 (by simpa using hX1)
    | exit j =>
      have e3 : (cond (Nat.beq j id) (ret (Ex.normal, ts1)) (ret (Ex.exit j, ts1)) : M F _) h1 nx1 = .ok (ex, ts') h' nx' R2 W2 := e2.ok
      show (if j = id then Q .normal a1 w1 else Q (.exit j) a1 w1)
      cases hj : Nat.beq j id with
      | true =>
        rw [hj] at e3
        obtain ⟨q, rfl, rfl, rfl⟩ := ret_ok e3
        cases q
        rw [if_pos (Nat.eq_of_beq_eq_true hj)]
        exact hQ a1 r1 w1 hS1 (by simpa using hX1)
      | false =>
        rw [hj] at e3
        obtain ⟨q, rfl, rfl, rfl⟩ := ret_ok e3
        cases q
        rw [if_neg (fun q => by subst q; rw [Nat.beq_refl] at hj; cases hj)]
        exact hQ a1 r1 w1 hS1 (by simpa using hX1)
  | .loop c, hJ, ts, ts', ex, h, h', nx, nx', R, W, e, r, w, a, ro, d, B0, D0, hM, hN, hS, Q, hQ => by
    rw [code_loop] at e
    obtain ⟨ts0, h0, nx0, R0, W0, R9, W9, ej, e9, rfl, rfl, l0, l9⟩ := e.bind (loc_jumpO hc.loc c ts) fun ts => loc_iter (fun ts => loc_code P C N fuel hc.loc c ts) _ ts
    obtain ⟨I, hI⟩ : ∃ I : Nat → Act → World → Prop, I = fun n a w => ∃ ts h nx R W r, Run (iter n (fun ts => code P C call N fuel c ts) ts) h nx (ex, ts') h' nx' R W ∧ Mod S r h.get w ∧ New r nx nx' ∧ St S P call.ys N ro B0 D0 ts r w a ∧
        ∀ a' r' w', St S P call.ys N ro B0 D0 ts' r' w' a' → Ext S r w nx nx' W h'.get r' w' → Q (toExit ex) a' w' := ⟨_, rfl⟩
    have main : ∀ n a w, I n a w → c.wpIn (RF ro) d P (Exit.then (fun a' w' => ∃ m, m < n ∧ I m a' w') Q) a w := by
      subst hI
      rintro n a w ⟨ts, h, nx, R, W, r, e, hM, hN, hS, hQ⟩
      cases n with
      | zero => exact (show Run (fail : M F _) _ _ _ _ _ _ _ from e).no.elim
      | succ n =>
        rw [iter_succ] at e
        have lk : ∀ x, Loc (iterK n (fun ts => code P C call N fuel c ts) x) := fun x => by
          unfold iterK
          split
          · exact loc_iter (fun ts => loc_code P C N fuel hc.loc c ts) n _
          · exact loc_ret _
          · exact loc_ret _
        obtain ⟨⟨e1x, ts1⟩, h1, nx1, R1, W1, R2, W2, e1, e2, rfl, rfl, l1, l2⟩ := e.bind (loc_code P C N fuel hc.loc c ts) lk
        refine code_ok hF hc c (fun z hz => hJ z (List.mem_cons_of_mem _ hz)) e1 hM (hN.sub (Nat.le_refl _) l2) hS _ fun a1 r1 w1 hS1 hX1 => ?_
        cases e1x with
        | normal =>
          exact ⟨n, Nat.lt_succ_self n, ts1, h1, nx1, R2, W2, r1, e2, hX1.mod, hN.after hX1 l1, hS1, fun a2 r2 w2 hS2 hX2 => hQ a2 r2 w2 hS2 (hX1.trans hX2 l1 l2)⟩
        | exit i =>
          obtain ⟨q, rfl, rfl, rfl⟩ := ret_ok (show (ret (Ex.exit i, ts1) : M F _) _ _ = _ from e2.ok)
          cases q
          exact hQ a1 r1 w1 hS1 (by simpa using hX1)
        | ret =>
          obtain ⟨q, rfl, rfl, rfl⟩ := ret_ok (show (ret (Ex.ret, ts1) : M F _) _ _ = _ from e2.ok)
          cases q
          exact hQ a1 r1 w1 hS1 (by simpa using hX1)
    have goes : ∀ {ts : Tr Value} {h : Tr (Blk F)} {nx : Nat} {R W : List Nat} {r : Ren} {w : World} {a : Act}, Run (iter (2 ^ 12 + fuel) (fun ts => code P C call N fuel c ts) ts) h nx (ex, ts') h' nx' R W → Mod S r h.get w → New r nx nx' → St S P call.ys N ro B0 D0 ts r w a →
        (∀ a' r' w', St S P call.ys N ro B0 D0 ts' r' w' a' → Ext S r w nx nx' W h'.get r' w' → Q (toExit ex) a' w') → I (2 ^ 12 + fuel) a w := fun e hM hN hS hQ => by
      subst hI
      exact ⟨_, _, _, _, _, _, e, hM, hN, hS, hQ⟩
    cases hj : call.jmp c with
    | none =>
      have ej' : (ret ts : M F (Tr Value)) h nx = .ok ts0 h0 nx0 R0 W0 := by
        have := ej.ok
        unfold jumpO at this
        rw [hj] at this
        exact this
      obtain ⟨rfl, rfl, rfl, rfl⟩ := ret_ok ej'
      exact wp_loop_ix I (goes e9 hM hN hS hQ) main
    | some m =>
      have ej' : Run (m ts) h nx ts0 h0 nx0 R0 W0 := by
        unfold jumpO at ej
        rw [hj] at ej
        exact ej
      obtain ⟨K, J, j0, j1, j2⟩ := hJ c List.mem_cons_self m hj ej' d hM (hN.sub (Nat.le_refl _) l9) hS
      have jI : ∀ a' w', J 0 a' w' → I (2 ^ 12 + fuel) a' w' := fun a' w' hq => by
        obtain ⟨r', hS', hX'⟩ := j2 a' w' hq
        exact goes e9 hX'.mod (hN.after hX' l0) hS' fun a2 r2 w2 hS2 hX2 => hQ a2 r2 w2 hS2 (hX'.trans hX2 l0 l9)
      generalize 2 ^ 12 + fuel = n0 at goes jI
      have step : ∀ j a' w', J j a' w' → ∃ n, n ≤ n0 + j ∧ (I n a' w' ∨ ∃ i, n = n0 + 1 + i ∧ J (i + 1) a' w') := fun j a' w' hq => by
        cases j with
        | zero => exact ⟨n0, by omega, .inl (jI a' w' hq)⟩
        | succ i => exact ⟨n0 + 1 + i, by omega, .inr ⟨i, rfl, hq⟩⟩
      obtain ⟨n1, -, h1⟩ := step K a w j0
      refine wp_loop_ix (fun n a w => I n a w ∨ ∃ i, n = n0 + 1 + i ∧ J (i + 1) a w) h1 ?_
      rintro n a w (hI' | ⟨i, rfl, hq⟩)
      · refine wpIn_mono (main n a w hI') fun e a' w' hp => ?_
        cases e with
        | normal => obtain ⟨m, q1, q2⟩ := hp; exact ⟨m, q1, .inl q2⟩
        | _ => exact hp
      · refine wpIn_mono (j1 i a w hq) fun e a' w' hp => ?_
        cases e with
        | normal => obtain ⟨m, q1, q2⟩ := step i a' w' hp; exact ⟨m, by omega, q2⟩
        | _ => exact hp.elim
  | .scope c, hJ, ts, ts', ex, h, h', nx, nx', R, W, e, r, w, a, ro, d, B0, D0, hM, hN, hS, Q, hQ => by
    refine wp_scope_straight (code_ok hF hc c (fun z hz => hJ z hz) e hM hN hS _ fun a1 r1 w1 hS1 hX1 => ?_)
    have := hQ a1 r1 w1 hS1 hX1
    cases ex <;> exact this
  | .goto _, hJ, ts, ts', ex, h, h', nx, nx', R, W, e, r, w, a, ro, d, B0, D0, hM, hN, hS, Q, hQ => (show Run (fail : M F _) _ _ _ _ _ _ _ from e).no.elim
  | .refuse _, hJ, ts, ts', ex, h, h', nx, nx', R, W, e, r, w, a, ro, d, B0, D0, hM, hN, hS, Q, hQ => (show Run (fail : M F _) _ _ _ _ _ _ _ from e).no.elim
  | .rangeFunc g ps x y, hJ, ts, ts', ex, h, h', nx, nx', R, W, e, r, w, a, ro, d, B0, D0, hM, hN, hS, Q, hQ =>
    rng_ok hF hc (fun ts => loc_code P C N fuel hc.loc x ts) (fun ts => loc_code P C N fuel hc.loc y ts) (by
      intro _ _ _ _ _ _ _ _ _ e _ _ _ _ _ _ _ hM hN hS Q hQ
      exact code_ok hF hc x (fun z hz => hJ z (List.mem_append_left _ hz)) e hM hN hS Q hQ) (by
      intro _ _ _ _ _ _ _ _ _ e _ _ _ _ _ _ _ hM hN hS Q hQ
      exact code_ok hF hc y (fun z hz => hJ z (List.mem_append_right _ hz)) e hM hN hS Q hQ) e hM hN hS Q hQ
end
end Ev
end Go.Proofs.YtfmebfkdpfbjbaaGreatDoor
