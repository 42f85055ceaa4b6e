/- Contracts. -/
import Derived.Test.YtnlhjcfpfapafaaGreatDoorPOq05
import Derived.Scope
import Derived.Test.YtnlhjcfpfapafaaGreatDoorPOq04
import Derived.Deep.AppendSrc
import Derived.Laws.AppendOwn
import Derived.Laws.Slices
namespace Go.Proofs.YtnlhjcfpfapafaaGreatDoor
open Go Go.RowKit
namespace Ev
section
variable {F : Type} {S : Sig F} {P : Program} {C : Cfg F}
theorem Jh {d : Nat} {fe : Fence} {c : Code} {Q : Exit → Act → World → Prop} {a : Act} {w : World} (I : Nat → Act → World → Prop) {n : Nat} (h₀ : I n a w)
  (round : ∀ n a w, I n a w → c.wpIn fe d P (Exit.then (fun a' w' => ∃ m, m < n ∧ I m a' w') Q) a w) : (Code.loop c).wpIn fe d P Q a w := by
 intro b k cs hro hb hr
 have key : ∀ n a w, I n a w → ∃ e a' w', Q e a' w' ∧ ArrivesIn (Machine.fenced P fe) P (lone (b.atR a (.code c :: .inLoop c :: k)) cs w) b k cs e a' w' := by
  intro n
  induction n using Nat.strongRecOn with
  | _ n ih =>
   intro a w hI
   obtain ⟨e, a₁, w₁, hq, harr⟩ := round n a w hI b (.inLoop c :: k) cs hro hb hr
   cases e with
   | normal =>
    obtain ⟨m, hlt, hI₁⟩ := hq
    obtain ⟨e₂, a₂, w₂, hq₂, harr₂⟩ := ih m hlt a₁ w₁ hI₁
    exact ⟨e₂, a₂, w₂, hq₂, .of_steps (StepsIn.trans harr (.one (fenced_calm hb hr rfl) stepR_inLoop)) harr₂⟩
   | exit id => exact ⟨_, a₁, w₁, hq, .pass (x := .inLoop c) rfl (fun _ _ => .inl (by simp)) harr⟩
   | goto l => exact ⟨_, a₁, w₁, hq, .pass (x := .inLoop c) rfl (fun _ _ => .inl (by simp)) harr⟩
   | ret => exact ⟨_, a₁, w₁, hq, .pass (x := .inLoop c) rfl (fun _ _ => .inl (by simp)) harr⟩
   | panic ch => exact ⟨_, a₁, w₁, hq, .pass (x := .inLoop c) rfl (fun _ _ => .inl (by simp)) harr⟩
   | outgrown => exact ⟨_, a₁, w₁, hq, .pass (x := .inLoop c) rfl (fun _ _ => .inl (by simp)) harr⟩
 obtain ⟨e, a', w', hq, harr⟩ := key n a w h₀
 exact ⟨e, a', w', hq, .of_steps (.one (fenced_calm hb hr rfl) stepR_loop) harr⟩
theorem YM {c : Code} {b : Frame} {a : Act} {k : List Item} {cs : List Frame} {w : World} : step P (lone (b.atR a (.code (.scope c) :: k)) cs w) = .next (lone (b.atR a (.code c :: .inScope c :: k)) cs w) :=
 step_lone_go (by simp [stepG, stepG.exec, Frame.atR])
theorem Kr {c : Code} {b : Frame} {a : Act} {k : List Item} {cs : List Frame} {w : World} : step P (lone (b.atR a (.inScope c :: k)) cs w) = .next (lone (b.atR a k) cs w) :=
 step_lone_go (by simp [stepG, stepG.exec, Frame.atR])
theorem V5 {d : Nat} {fe : Fence} {c : Code} {Q : Exit → Act → World → Prop} {a : Act} {w : World} (h : c.wpIn fe d P (Exit.noGoto Q) a w) : (Code.scope c).wpIn fe d P Q a w := by
 intro b k cs hro hb hr
 have h0 : (lone (b.atR a (.code (.scope c) :: k)) cs w).fenced P fe := fenced_calm hb hr rfl
 obtain ⟨e, a₁, w₁, hq, harr⟩ := h b (.inScope c :: k) cs hro hb hr
 have hx : ∀ id, exitTo id (.inScope c :: k) = exitTo id k := fun id => by simp [exitTo]
 cases e with
 | normal => exact ⟨.normal, a₁, w₁, hq, .head h0 YM (StepsIn.trans harr (.one (fenced_calm hb hr rfl) Kr))⟩
 | exit id => exact ⟨.exit id, a₁, w₁, hq, fun k' hk => .head h0 YM (harr.1 k' (by rw [hx]; exact hk)),
    fun hr' hk => let ⟨k₁, h1, h2⟩ := harr.2 hr' (by rw [hx]; exact hk); ⟨k₁, h1, .head h0 YM h2⟩⟩
 | goto l => exact hq.elim
 | ret => exact ⟨_, a₁, w₁, hq, .of_steps (.one h0 YM) harr⟩
 | panic ch => exact ⟨_, a₁, w₁, hq, .of_steps (.one h0 YM) harr⟩
 | outgrown => exact ⟨_, a₁, w₁, hq, .of_steps (.one h0 YM) harr⟩
def YQ (S : Sig F) (B0 : Nat) : List Deferred → Ren → World → Prop
 | [], _, w => B0 ≤ w.heap.size
 | d :: ds, r, w => YQ S B0 ds r w ∧ ∃ D, d = { target := .collected D, args := #[] } ∧ w.heap[D]? = some (.deferred (some [])) ∧ (∀ k, r.blk k ≠ some D) ∧ S.G ≤ D ∧ B0 ≤ D ∧ ∀ e ∈ ds, e.target ≠ .collected D
theorem YQ.mono {B0 : Nat} : ∀ {ds : List Deferred} {r r' : Ren} {w w' : World}, YQ S B0 ds r w → Going r w r' w' → YQ S B0 ds r' w'
 | [], _, _, _, _, h, g => Nat.le_trans h g.size
 | _ :: _, _, _, _, _, ⟨h, D, h1, h2, h3, h4, h5, h6⟩, g => ⟨YQ.mono h g, D, h1, (g.nameless h2 h3).1, (g.nameless h2 h3).2, h4, h5, h6⟩
def Wr (ro : Option Nat) (w : World) : Prop := ∀ l, ro = some l → ∃ L, w.heap[l]? = some (.loop L)
theorem Wr.mono {ro : Option Nat} {r r' : Ren} {w w' : World} (h : Wr ro w) (g : Going r w r' w') : Wr ro w' := fun l hl => by
 obtain ⟨L, h1⟩ := h l hl
 obtain ⟨L', h2, _⟩ := g.loops.lp l L h1
 exact ⟨L', h2⟩
structure Df where
 ds : List Deferred
 z : Nat
def Zav (D0 : Df) (ds : List Deferred) (w : World) : Prop := D0.z ≤ w.heap.size ∧ ∃ pre, ds = pre ++ D0.ds ∧ ∀ e ∈ pre, ∃ D, e.target = .collected D ∧ D0.z ≤ D
theorem Zav.mono {D0 : Df} {ds : List Deferred} {w w' : World} (h : Zav D0 ds w) (hz : w.heap.size ≤ w'.heap.size) : Zav D0 ds w' := ⟨Nat.le_trans h.1 hz, h.2⟩
theorem Zav.nil {w : World} : Zav ⟨[], 0⟩ [] w := ⟨Nat.zero_le _, [], rfl, fun _ h => by simp at h⟩
structure St (S : Sig F) (P : Program) (ys : VU F) (N : Nat) (ro : Option Nat) (B0 : Nat) (D0 : Df) (ts : Tr Value) (r : Ren) (w : World) (a : Act) : Prop where
 T : TR r ts a
 size : a.tmps.size = N
 marks : YQ S B0 a.defers r w
 round : Wr ro w
 ys : YOK S P ys r w
 dfs : Zav D0 a.defers w
theorem St.next {ys : VU F} {N : Nat} {ro : Option Nat} {B0 : Nat} {D0 : Df} {ts ts' : Tr Value} {r r' : Ren} {w w' : World} {a a' : Act} (h : St S P ys N ro B0 D0 ts r w a) (hT : TR r' ts' a') (hz : a'.tmps.size = N) (hd : a'.defers = a.defers) (g : Going r w r' w') : St S P ys N ro B0 D0 ts' r' w' a' :=
 ⟨hT, hz, by rw [hd]; exact h.marks.mono g, h.round.mono g, h.ys.mono g, by rw [hd]; exact h.dfs.mono g.size⟩
def X3 (S : Sig F) (P : Program) (N : Nat) (x : Code) (m : Tr Value → M F (Tr Value)) : Prop :=
 ∀ {ys : VU F} {ts ts1 : Tr Value} {h h1 : Tr (Blk F)} {nx nx1 : Nat} {R W : List Nat}, Run (m ts) h nx ts1 h1 nx1 R W →
  ∀ {r : Ren} {w : World} {a : Act} {ro : Option Nat} (d : Nat) {B0 : Nat} {D0 : Df}, Mod S r h.get w → New r nx nx1 → St S P ys N ro B0 D0 ts r w a →
   ∃ (K : Nat) (J : Nat → Act → World → Prop), J K a w ∧ (∀ j a' w', J (j + 1) a' w' → x.wpIn (RF ro) d P (Exit.then (J j) (fun _ _ _ => False)) a' w') ∧
    ∀ a' w', J 0 a' w' → ∃ r', St S P ys N ro B0 D0 ts1 r' w' a' ∧ Ext S r w nx nx1 W h1.get r' w'
def ZS : Code → List Code
 | .seq a b => ZS a ++ ZS b
 | .cond _ a b => ZS a ++ ZS b
 | .block _ c => ZS c
 | .loop c => c :: ZS c
 | .rangeFunc _ _ a b => ZS a ++ ZS b
 | .scope c => ZS c
 | _ => []
structure JmpAll (S : Sig F) (P : Program) (C : Cfg F) : Prop where
 loc : ∀ f x m, C.jmp f x = some m → ∀ ts, Loc (m ts)
 ok : ∀ f fn c x m, C.tab f = some fn → fn.body = some c → x ∈ ZS c → C.jmp f x = some m → X3 S P fn.ntmps x m
theorem JmpAll.none {C : Cfg F} (h : C.jmp = fun _ _ => .none) : JmpAll S P C := ⟨fun f x m e => (by rw [h] at e; cases e), fun f fn c x m _ _ _ e => (by rw [h] at e; cases e)⟩
def Zc1 : Ex → Exit
 | .normal => .normal
 | .exit i => .exit i
 | .ret => .ret
variable {call : Cl F} {N fuel : Nat}
noncomputable def ZjF (call : Cl F) (N fuel : Nat) (P : Program) (C : Cfg F) (b : Code) (x : Ex × Tr Value) : M F (Ex × Tr Value) := match x.1 with
 | .normal => code P C call N fuel b x.2
 | .exit i => ret (.exit i, x.2)
 | .ret => ret (.ret, x.2)
noncomputable def Zaw (id : Nat) (x : Ex × Tr Value) : M F (Ex × Tr Value) := match x.1 with
 | .normal => ret (.normal, x.2)
 | .exit j => cond (Nat.beq j id) (ret (.normal, x.2)) (ret (.exit j, x.2))
 | .ret => ret (.ret, x.2)
noncomputable def ZbC (f : Nat) (body : Tr Value → M F (Ex × Tr Value)) (x : Ex × Tr Value) : M F (Ex × Tr Value) := match x.1 with
 | .normal => Zap f body x.2
 | .exit i => ret (.exit i, x.2)
 | .ret => ret (.ret, x.2)
theorem ZbD (a b : Code) (ts : Tr Value) : code P C call N fuel (.seq a b) ts = bind (code P C call N fuel a ts) (ZjF call N fuel P C b) := by
 show bind (code P C call N fuel a ts) _ = _
 congr 1; funext x; obtain ⟨e, t⟩ := x; cases e <;> rfl
theorem Ji (id : Nat) (c : Code) (ts : Tr Value) : code P C call N fuel (.block id c) ts = bind (code P C call N fuel c ts) (Zaw id) := by
 show bind (code P C call N fuel c ts) _ = _
 congr 1; funext x; obtain ⟨e, t⟩ := x
 cases e with
 | exit j =>
  show Bool.rec (motive := fun _ => M F (Ex × Tr Value)) (ret (.exit j, t)) (ret (.normal, t)) (Nat.beq j id) = cond (Nat.beq j id) (ret (.normal, t)) (ret (.exit j, t))
  cases Nat.beq j id <;> rfl
 | _ => rfl
theorem UR (f : Nat) (body : Tr Value → M F (Ex × Tr Value)) (ts : Tr Value) : Zap (f + 1) body ts = bind (body ts) (ZbC f body) := by
 show bind (body ts) _ = _
 congr 1; funext x; obtain ⟨e, t⟩ := x; cases e <;> rfl
theorem Zc2 {α β γ : Type} (m : M F α) (f : α → M F β) (g : β → M F γ) : bind (bind m f) g = bind m (fun a => bind (f a) g) := by
 funext h nx
 simp only [VY]
 cases m h nx with
 | no => rfl
 | ok a h1 nx1 R1 W1 =>
  simp only
  cases f a h1 nx1 with
  | no => rfl
  | ok b h2 nx2 R2 W2 =>
   simp only
   cases g b h2 nx2 with
   | no => rfl
   | ok c h3 nx3 R3 W3 => simp [List.append_assoc]
theorem ZbE {α β : Type} (a : α) (f : α → M F β) : bind (ret a) f = f a := by
 funext h nx
 simp only [VY, ret]
 cases f a h nx with
 | no => rfl
 | ok c h3 nx3 R3 W3 => simp
theorem ZbF (d : Nat) (body : Tr Value → M F (Ex × Tr Value)) (ts : Tr Value) : VB (d + 1) body ts = bind (VB d body ts) (fun x => match x.1 with
 | .normal => VB d body x.2
 | .exit i => ret (.exit i, x.2)
 | .ret => ret (.ret, x.2)) := by
 show bind (VB d body ts) _ = _
 congr 1; funext x; obtain ⟨e, t⟩ := x; cases e <;> rfl
theorem WK (body : Tr Value → M F (Ex × Tr Value)) : ∀ (d f : Nat) (ts : Tr Value), bind (VB d body ts) (ZbC f body) = Zap (2 ^ d + f) body ts
 | 0, f, ts => by
  rw [Nat.pow_zero, Nat.add_comm, UR]
  rfl
 | d + 1, f, ts => by
  rw [ZbF, Zc2, show 2 ^ (d + 1) + f = 2 ^ d + (2 ^ d + f) by rw [Nat.pow_succ]; omega, ← WK body d (2 ^ d + f) ts]
  congr 1; funext x; obtain ⟨e, t⟩ := x
  cases e with
  | normal => exact WK body d f t
  | exit i => exact ZbE _ _
  | ret => exact ZbE _ _
theorem KH (hc : ClLoc call) (x : Code) (ts : Tr Value) : Loc (Qm call x ts) := by
 unfold Qm
 cases h : call.jmp x with
 | none => exact Zg _
 | some m => exact hc.jmp x m h ts
theorem KI (c : Code) (ts : Tr Value) : code P C call N fuel (.loop c) ts = bind (Qm call c ts) (Zap (2 ^ 12 + fuel) (fun ts => code P C call N fuel c ts)) := by
 show bind (Qm call c ts) _ = bind (Qm call c ts) _
 congr 1; funext ts
 rw [← WK]
 show bind (VB 12 (fun ts => code P C call N fuel c ts) ts) _ = _
 congr 1; funext x; obtain ⟨e, t⟩ := x; cases e <;> rfl
theorem KJ (id : Nat) (ops : Array Oper) (ts : Tr Value) : code P C call N fuel (.region id ops false) ts = cond (WA C N ops.toList) (bind (UH P C call ops ops.toList ts) fun ts' => ret (.normal, ts')) fail := by
 show Bool.rec (motive := fun _ => M F (Ex × Tr Value)) fail (bind (UH P C call ops ops.toList ts) fun ts' => ret (.normal, ts')) (WA C N ops.toList) = _
 cases WA C N ops.toList <;> rfl
theorem KK (id : Nat) (ops : Array Oper) (ts : Tr Value) : code P C call N fuel (.region id ops true) ts = cond (WA C N ops.toList && YJ ops) (bind (scp (YI P C call ops (Region.before ops) ops.toList 0 [] ts)) fun ts' => ret (.normal, ts')) fail := by
 show Bool.rec (motive := fun _ => M F (Ex × Tr Value)) fail (bind (scp (YI P C call ops (Region.before ops) ops.toList 0 [] ts)) fun ts' => ret (.normal, ts')) (WA C N ops.toList && YJ ops) = _
 cases (WA C N ops.toList && YJ ops) <;> rfl
theorem KM (c : Operand) (x y : Code) (ts : Tr Value) : code P C call N fuel (.cond c x y) ts = match opd ts c with
  | .bool b => cond b (code P C call N fuel x ts) (code P C call N fuel y ts)
  | _ => fail := by
 show (match opd ts c with
  | .bool b => Bool.rec (motive := fun _ => M F (Ex × Tr Value)) (code P C call N fuel y ts) (code P C call N fuel x ts) b
  | _ => fail) = _
 split
 ·rename_i b _
  cases b <;> rfl
 ·rfl
theorem V6 {body : Tr Value → M F (Ex × Tr Value)} (hb : ∀ ts, Loc (body ts)) : ∀ (f : Nat) (ts : Tr Value), Loc (Zap f body ts)
 | 0, _ => Za
 | f + 1, ts => by
  rw [UR]
  refine Zb (hb ts) fun x => ?_
  unfold ZbC
  split
  ·exact V6 hb f _
  ·exact Zg _
  ·exact Zg _
theorem ZU (P : Program) (C : Cfg F) [HardLoc C] (N fuel : Nat) (hc : ClLoc call) : ∀ (c : Code) (ts : Tr Value), Loc (code P C call N fuel c ts)
 | .skip, _ => Zg _
 | .label _, _ => Zg _
 | .region id ops false, ts => by rw [KJ]; exact Ze (Zb (Wq P C hc ops _ _) fun _ => Zg _) Za
 | .region id ops true, ts => by rw [KK]; exact Ze (Zb (Xm (VG P C hc ops _ _ _ _ _)) fun _ => Zg _) Za
 | .seq a b, ts => by
  rw [ZbD]
  refine Zb (ZU P C N fuel hc a ts) fun x => ?_
  unfold ZjF
  split
  ·exact ZU P C N fuel hc b _
  ·exact Zg _
  ·exact Zg _
 | .cond c x y, ts => by
  rw [KM]
  split
  ·exact Ze (ZU P C N fuel hc x ts) (ZU P C N fuel hc y ts)
  ·exact Za
 | .block id c, ts => by
  rw [Ji]
  refine Zb (ZU P C N fuel hc c ts) fun x => ?_
  unfold Zaw
  split
  ·exact Zg _
  ·exact Ze (Zg _) (Zg _)
  ·exact Zg _
 | .loop c, ts => by rw [KI]; exact Zb (KH hc c ts) fun ts => V6 (fun ts => ZU P C N fuel hc c ts) _ ts
 | .scope c, ts => ZU P C N fuel hc c ts
 | .exit _, _ => Zg _
 | .ret, _ => Zg _
 | .goto _, _ => Za
 | .refuse _, _ => Za
 | .rangeFunc _ _ _ _, _ => Za
theorem Zfx {r : Ren} {ts : Tr Value} {a : Act} (hT : TR r ts a) {c : Operand} {b : Bool} (h : opd ts c = .bool b) : a.eval c = .bool b := by
 cases c with
 | tmp t => have h1 := hT t; rw [h] at h1; exact h1.bool
 | const v => exact h
 | global g => simp [opd] at h
 | func f => simp [opd] at h
theorem Mod.putObj' {r : Ren} {g : Nat → Option (Blk F)} {w : World} {l : Nat} (hM : Mod S r g w) (hl : ∀ c t z, w.heap[l]? ≠ some (.cells c t z)) (hlo : ∀ L, w.heap[l]? ≠ some (.loop L)) (hG : S.G ≤ l) (o : Obj) : Mod S r g (w.putObj l o) := by
 have hk : ∀ (b : Nat) (c : Array Value) (t : TypeId) (z : Nat × Nat), w.heap[b]? = some (.cells c t z) → (w.putObj l o).heap[b]? = some (.cells c t z) := fun b c t z hb => by
  rw [World.putObj_heap_other (fun q => by rw [q] at hb; exact hl c t z hb)]; exact hb
 refine ⟨hM.inj, fun n b hn => by rw [World.putObj_size]; exact hM.lt n b hn, fun n c t hn => ?_, fun n f hn => ?_, S.baseS w _ hM.base fun b o' hb ho => by rw [World.putObj_heap_other (by omega)]; exact ho, hM.glob, hM.own, fun n c t hn => ?_, by rw [World.putObj_size]; exact hM.sz, hM.lp.mono (.refl r) (fun _ _ q => q) fun b L hb => by rw [World.putObj_heap_other (fun q => by rw [q] at hb; exact hlo L hb)]; exact hb, hM.ow.mono (.refl r) (fun _ _ q => q) fun b c t z hb _ => hk b c t z hb, hM.ad⟩
 ·obtain ⟨b, c', h1, h2, h3, h4⟩ := hM.cells n c t hn
  exact ⟨b, c', h1, hk _ _ _ _ h2, h3, h4⟩
 ·obtain ⟨v, h1, h2, h3⟩ := hM.fact n f hn
  exact ⟨v, h1, S.stable f w _ v h2 fun b c t z hbo _ => hk _ _ _ _ hbo, h3⟩
 ·obtain ⟨b, c', h1, h2, h3, h4, h5⟩ := hM.room n c t hn
  exact ⟨b, c', h1, hk _ _ _ _ h2, h3, h4, h5⟩
section
variable {N : Nat}
end
theorem Xn [HardLoc C] (hF : Fits S P C) (hc : ClOK S P call) : ∀ (c : Code), (∀ x ∈ ZS c, ∀ m, call.jmp x = some m → X3 S P N x m) → ∀ {ts ts' : Tr Value} {ex : Ex} {h h' : Tr (Blk F)} {nx nx' : Nat} {R W : List Nat}, Run (code P C call N fuel c ts) h nx (ex, ts') h' nx' R W →
  ∀ {r : Ren} {w : World} {a : Act} {ro : Option Nat} {d B0 : Nat} {D0 : Df}, Mod S r h.get w → New r nx nx' → St S P call.ys N ro B0 D0 ts r w a → ∀ (Q : Exit → Act → World → Prop),
   (∀ a' r' w', St S P call.ys N ro B0 D0 ts' r' w' a' → Ext S r w nx nx' W h'.get r' w' → Q (Zc1 ex) a' w') → c.wpIn (RF ro) d P Q a w
 | .skip, hJ, ts, ts', ex, h, h', nx, nx', R, W, e, r, w, a, ro, d, B0, D0, hM, hN, hS, Q, hQ => by
  obtain ⟨h1, rfl, rfl, rfl⟩ := Zh (show (ret (Ex.normal, ts) : M F _) h nx = _ from e.ok)
  cases h1
  exact wpIn_skip (hQ a r w hS (Ext.refl _ _ hM))
 | .label _, hJ, ts, ts', ex, h, h', nx, nx', R, W, e, r, w, a, ro, d, B0, D0, hM, hN, hS, Q, hQ => by
  obtain ⟨h1, rfl, rfl, rfl⟩ := Zh (show (ret (Ex.normal, ts) : M F _) h nx = _ from e.ok)
  cases h1
  exact wpIn_label (hQ a r w hS (Ext.refl _ _ hM))
 | .exit id, hJ, ts, ts', ex, h, h', nx, nx', R, W, e, r, w, a, ro, d, B0, D0, hM, hN, hS, Q, hQ => by
  obtain ⟨h1, rfl, rfl, rfl⟩ := Zh (show (ret (Ex.exit id, ts) : M F _) h nx = _ from e.ok)
  cases h1
  exact wpIn_exit (hQ a r w hS (Ext.refl _ _ hM))
 | .ret, hJ, ts, ts', ex, h, h', nx, nx', R, W, e, r, w, a, ro, d, B0, D0, hM, hN, hS, Q, hQ => by
  obtain ⟨h1, rfl, rfl, rfl⟩ := Zh (show (ret (Ex.ret, ts) : M F _) h nx = _ from e.ok)
  cases h1
  exact wpIn_ret (hQ a r w hS (Ext.refl _ _ hM))
 | .region id ops false, hJ, ts, ts', ex, h, h', nx, nx', R, W, e, r, w, a, ro, d, B0, D0, hM, hN, hS, Q, hQ => by
  rw [KJ] at e
  obtain ⟨hok, e⟩ := e.cond
  obtain ⟨ts1, h1, nx1, R1, W1, R2, W2, e1, e2, rfl, rfl, -, -⟩ := e.bind (Wq P C hc.loc ops _ _) (fun _ => Zg _)
  obtain ⟨q, rfl, rfl, rfl⟩ := Zh e2.ok
  cases q
  refine wpIn_region ?_
  have hm := UO hok
  have := Zfu hF hc ro d a.defers Q (fun o ho => (hm o ho).2) (N := N) (fun o ho => (hm o ho).1) ops.toList 0 rfl e1 hM hN hS.T hS.size rfl hS.ys fun a' r' w' h1 h2 h3 hX => hQ a' r' w' (hS.next h1 h2 h3 hX.going) (by simpa using hX)
  rwa [Array.length_toList, ← List.range_eq_range'] at this
 | .region id ops true, hJ, ts, ts', ex, h, h', nx, nx', R, W, e, r, w, a, ro, d, B0, D0, hM, hN, hS, Q, hQ => by
  rw [KK] at e
  obtain ⟨hok, e⟩ := e.cond
  simp only [Bool.and_eq_true] at hok
  obtain ⟨ts1, h1, nx1, R1, W1, R2, W2, e1, e2, rfl, rfl, -, -⟩ := e.bind (Xm (VG P C hc.loc ops _ _ _ _ _)) (fun _ => Zg _)
  obtain ⟨q, rfl, rfl, rfl⟩ := Zh e2.ok
  cases q
  exact Zmk hF hc ro d a.defers hok.1 hok.2 e1 hM hN hS.T hS.size rfl hS.ys Q fun a' r' w' h1 h2 h3 hX => hQ a' r' w' (hS.next h1 h2 h3 hX.going) (by simpa using hX)
 | .seq x y, hJ, ts, ts', ex, h, h', nx, nx', R, W, e, r, w, a, ro, d, B0, D0, hM, hN, hS, Q, hQ => by
  rw [ZbD] at e
  have lk : ∀ x, Loc (ZjF call N fuel P C y x) := fun x => by
   unfold ZjF
   split
   ·exact ZU P C N fuel hc.loc y _
   ·exact Zg _
   ·exact Zg _
  obtain ⟨⟨e1x, ts1⟩, h1, nx1, R1, W1, R2, W2, e1, e2, rfl, rfl, l1, l2⟩ := e.bind (ZU P C N fuel hc.loc x ts) lk
  refine wpIn_seq (Xn hF hc x (fun z hz => hJ z (List.mem_append_left _ hz)) e1 hM (hN.sub (Nat.le_refl _) l2) hS _ fun a1 r1 w1 hS1 hX1 => ?_)
  cases e1x with
  | normal => exact Xn hF hc y (fun z hz => hJ z (List.mem_append_right _ hz)) (show Run (code P C call N fuel y ts1) _ _ _ _ _ _ _ from e2) hX1.mod (hN.after hX1 l1) hS1 Q fun a2 r2 w2 hS2 hX2 => hQ a2 r2 w2 hS2 (hX1.trans hX2 l1 l2)
  | exit i =>
   obtain ⟨q, rfl, rfl, rfl⟩ := Zh (show (ret (Ex.exit i, ts1) : M F _) _ _ = _ from e2.ok)
   cases q
   exact hQ a1 r1 w1 hS1 (by simpa using hX1)
  | ret =>
   obtain ⟨q, rfl, rfl, rfl⟩ := Zh (show (ret (Ex.ret, ts1) : M F _) _ _ = _ from e2.ok)
   cases q
   exact hQ a1 r1 w1 hS1 (by simpa using hX1)
 | .cond c x y, hJ, ts, ts', ex, h, h', nx, nx', R, W, e, r, w, a, ro, d, B0, D0, hM, hN, hS, Q, hQ => by
  rw [KM] at e
  cases hv : opd ts c with
  | bool b =>
   rw [hv] at e; simp only at e
   refine wpIn_cond (Zfx hS.T hv) ?_
   cases b with
   | true => exact Xn hF hc x (fun z hz => hJ z (List.mem_append_left _ hz)) e hM hN hS Q hQ
   | false => exact Xn hF hc y (fun z hz => hJ z (List.mem_append_right _ hz)) e hM hN hS Q hQ
  | _ => rw [hv] at e; exact e.no.elim
 | .block id c, hJ, ts, ts', ex, h, h', nx, nx', R, W, e, r, w, a, ro, d, B0, D0, hM, hN, hS, Q, hQ => by
  rw [Ji] at e
  have lk : ∀ x, Loc (Zaw id x : M F _) := fun x => by
   unfold Zaw
   split
   ·exact Zg _
   ·exact Ze (Zg _) (Zg _)
   ·exact Zg _
  obtain ⟨⟨e1x, ts1⟩, h1, nx1, R1, W1, R2, W2, e1, e2, rfl, rfl, l1, l2⟩ := e.bind (ZU P C N fuel hc.loc c ts) lk
  refine wpIn_block (Xn hF hc c (fun z hz => hJ z hz) e1 hM (hN.sub (Nat.le_refl _) l2) hS _ fun a1 r1 w1 hS1 hX1 => ?_)
  cases e1x with
  | normal =>
   obtain ⟨q, rfl, rfl, rfl⟩ := Zh (show (ret (Ex.normal, ts1) : M F _) _ _ = _ from e2.ok)
   cases q
   exact hQ a1 r1 w1 hS1 (by simpa using hX1)
  | ret =>
   obtain ⟨q, rfl, rfl, rfl⟩ := Zh (show (ret (Ex.ret, ts1) : M F _) _ _ = _ from e2.ok)
   cases q
   exact hQ a1 r1 w1 hS1 (by simpa using hX1)
  | exit j =>
   have e3 : (cond (Nat.beq j id) (ret (Ex.normal, ts1)) (ret (Ex.exit j, ts1)) : M F _) h1 nx1 = .ok (ex, ts') h' nx' R2 W2 := e2.ok
   show (if j = id then Q .normal a1 w1 else Q (.exit j) a1 w1)
   cases hj : Nat.beq j id with
   | true =>
    rw [hj] at e3
    obtain ⟨q, rfl, rfl, rfl⟩ := Zh e3
    cases q
    rw [if_pos (Nat.eq_of_beq_eq_true hj)]
    exact hQ a1 r1 w1 hS1 (by simpa using hX1)
   | false =>
    rw [hj] at e3
    obtain ⟨q, rfl, rfl, rfl⟩ := Zh e3
    cases q
    rw [if_neg (fun q => by subst q; rw [Nat.beq_refl] at hj; cases hj)]
    exact hQ a1 r1 w1 hS1 (by simpa using hX1)
 | .loop c, hJ, ts, ts', ex, h, h', nx, nx', R, W, e, r, w, a, ro, d, B0, D0, hM, hN, hS, Q, hQ => by
  rw [KI] at e
  obtain ⟨ts0, h0, nx0, R0, W0, R9, W9, ej, e9, rfl, rfl, l0, l9⟩ := e.bind (KH hc.loc c ts) fun ts => V6 (fun ts => ZU P C N fuel hc.loc c ts) _ ts
  obtain ⟨I, hI⟩ : ∃ I : Nat → Act → World → Prop, I = fun n a w => ∃ ts h nx R W r, Run (Zap n (fun ts => code P C call N fuel c ts) ts) h nx (ex, ts') h' nx' R W ∧ Mod S r h.get w ∧ New r nx nx' ∧ St S P call.ys N ro B0 D0 ts r w a ∧
    ∀ a' r' w', St S P call.ys N ro B0 D0 ts' r' w' a' → Ext S r w nx nx' W h'.get r' w' → Q (Zc1 ex) a' w' := ⟨_, rfl⟩
  have main : ∀ n a w, I n a w → c.wpIn (RF ro) d P (Exit.then (fun a' w' => ∃ m, m < n ∧ I m a' w') Q) a w := by
   subst hI
   rintro n a w ⟨ts, h, nx, R, W, r, e, hM, hN, hS, hQ⟩
   cases n with
   | zero => exact (show Run (fail : M F _) _ _ _ _ _ _ _ from e).no.elim
   | succ n =>
    rw [UR] at e
    have lk : ∀ x, Loc (ZbC n (fun ts => code P C call N fuel c ts) x) := fun x => by
     unfold ZbC
     split
     ·exact V6 (fun ts => ZU P C N fuel hc.loc c ts) n _
     ·exact Zg _
     ·exact Zg _
    obtain ⟨⟨e1x, ts1⟩, h1, nx1, R1, W1, R2, W2, e1, e2, rfl, rfl, l1, l2⟩ := e.bind (ZU P C N fuel hc.loc c ts) lk
    refine Xn hF hc c (fun z hz => hJ z (List.mem_cons_of_mem _ hz)) e1 hM (hN.sub (Nat.le_refl _) l2) hS _ fun a1 r1 w1 hS1 hX1 => ?_
    cases e1x with
    | normal =>
     exact ⟨n, Nat.lt_succ_self n, ts1, h1, nx1, R2, W2, r1, e2, hX1.mod, hN.after hX1 l1, hS1, fun a2 r2 w2 hS2 hX2 => hQ a2 r2 w2 hS2 (hX1.trans hX2 l1 l2)⟩
    | exit i =>
     obtain ⟨q, rfl, rfl, rfl⟩ := Zh (show (ret (Ex.exit i, ts1) : M F _) _ _ = _ from e2.ok)
     cases q
     exact hQ a1 r1 w1 hS1 (by simpa using hX1)
    | ret =>
     obtain ⟨q, rfl, rfl, rfl⟩ := Zh (show (ret (Ex.ret, ts1) : M F _) _ _ = _ from e2.ok)
     cases q
     exact hQ a1 r1 w1 hS1 (by simpa using hX1)
  have goes : ∀ {ts : Tr Value} {h : Tr (Blk F)} {nx : Nat} {R W : List Nat} {r : Ren} {w : World} {a : Act}, Run (Zap (2 ^ 12 + fuel) (fun ts => code P C call N fuel c ts) ts) h nx (ex, ts') h' nx' R W → Mod S r h.get w → New r nx nx' → St S P call.ys N ro B0 D0 ts r w a →
    (∀ a' r' w', St S P call.ys N ro B0 D0 ts' r' w' a' → Ext S r w nx nx' W h'.get r' w' → Q (Zc1 ex) a' w') → I (2 ^ 12 + fuel) a w := fun e hM hN hS hQ => by
   subst hI
   exact ⟨_, _, _, _, _, _, e, hM, hN, hS, hQ⟩
  cases hj : call.jmp c with
  | none =>
   have ej' : (ret ts : M F (Tr Value)) h nx = .ok ts0 h0 nx0 R0 W0 := by
    have := ej.ok
    unfold Qm at this
    rw [hj] at this
    exact this
   obtain ⟨rfl, rfl, rfl, rfl⟩ := Zh ej'
   exact Jh I (goes e9 hM hN hS hQ) main
  | some m =>
   have ej' : Run (m ts) h nx ts0 h0 nx0 R0 W0 := by
    unfold Qm at ej
    rw [hj] at ej
    exact ej
   obtain ⟨K, J, j0, j1, j2⟩ := hJ c List.mem_cons_self m hj ej' d hM (hN.sub (Nat.le_refl _) l9) hS
   have jI : ∀ a' w', J 0 a' w' → I (2 ^ 12 + fuel) a' w' := fun a' w' hq => by
    obtain ⟨r', hS', hX'⟩ := j2 a' w' hq
    exact goes e9 hX'.mod (hN.after hX' l0) hS' fun a2 r2 w2 hS2 hX2 => hQ a2 r2 w2 hS2 (hX'.trans hX2 l0 l9)
   generalize 2 ^ 12 + fuel = n0 at goes jI
   have step : ∀ j a' w', J j a' w' → ∃ n, n ≤ n0 + j ∧ (I n a' w' ∨ ∃ i, n = n0 + 1 + i ∧ J (i + 1) a' w') := fun j a' w' hq => by
    cases j with
    | zero => exact ⟨n0, by omega, .inl (jI a' w' hq)⟩
    | succ i => exact ⟨n0 + 1 + i, by omega, .inr ⟨i, rfl, hq⟩⟩
   obtain ⟨n1, -, h1⟩ := step K a w j0
   refine Jh (fun n a w => I n a w ∨ ∃ i, n = n0 + 1 + i ∧ J (i + 1) a w) h1 ?_
   rintro n a w (hI' | ⟨i, rfl, hq⟩)
   ·refine wpIn_mono (main n a w hI') fun e a' w' hp => ?_
    cases e with
    | normal => obtain ⟨m, q1, q2⟩ := hp; exact ⟨m, q1, .inl q2⟩
    | _ => exact hp
   ·refine wpIn_mono (j1 i a w hq) fun e a' w' hp => ?_
    cases e with
    | normal => obtain ⟨m, q1, q2⟩ := step i a' w' hp; exact ⟨m, by omega, q2⟩
    | _ => exact hp.elim
 | .scope c, hJ, ts, ts', ex, h, h', nx, nx', R, W, e, r, w, a, ro, d, B0, D0, hM, hN, hS, Q, hQ => by
  refine V5 (Xn hF hc c (fun z hz => hJ z hz) e hM hN hS _ fun a1 r1 w1 hS1 hX1 => ?_)
  have := hQ a1 r1 w1 hS1 hX1
  cases ex <;> exact this
 | .goto _, hJ, ts, ts', ex, h, h', nx, nx', R, W, e, r, w, a, ro, d, B0, D0, hM, hN, hS, Q, hQ => (show Run (fail : M F _) _ _ _ _ _ _ _ from e).no.elim
 | .refuse _, hJ, ts, ts', ex, h, h', nx, nx', R, W, e, r, w, a, ro, d, B0, D0, hM, hN, hS, Q, hQ => (show Run (fail : M F _) _ _ _ _ _ _ _ from e).no.elim
 | .rangeFunc _ _ _ _, hJ, ts, ts', ex, h, h', nx, nx', R, W, e, r, w, a, ro, d, B0, D0, hM, hN, hS, Q, hQ => (show Run (fail : M F _) _ _ _ _ _ _ _ from e).no.elim
end
end Ev
end Go.Proofs.YtnlhjcfpfapafaaGreatDoor
namespace Go.Proofs.YtnlhjcfpfapafaaGreatDoor
open Go
namespace Ev
section
variable {F : Type} {S : Sig F} {P : Program} {C : Cfg F}
structure SumOK (S : Sig F) (P : Program) (sum : WE F) : Prop where
 loc : ∀ f args m, sum f args = some m → Loc m
 run : ∀ f args m, sum f args = some m → ∀ h nx v h' nx' R W, Run m h nx v h' nx' R W → ∀ (r : Ren) (w : World) (args' : List Value), VsR r args args' → Mod S r h.get w → New r nx nx' →
  Calls P f ⟨args'⟩ w fun e w' => ∃ v' r', e = .returned v' ∧ VR r' v v' ∧ Ext S r w nx nx' W h'.get r' w'
theorem KN : ∀ (l : List Value) (i : Nat) (t : Tr Value) (k : Nat), (Q8 l i t).get k = if i ≤ k ∧ k < i + l.length then l[k - i]? else t.get k
 | [], i, t, k => by
  show t.get k = _
  rw [if_neg (by simp)]
 | v :: l, i, t, k => by
  show (Q8 l (i + 1) (t.set i v)).get k = _
  rw [KN l (i + 1) (t.set i v) k, Tr.get_set]
  simp only [List.length_cons]
  by_cases h1 : k = i
  ·subst h1
   rw [if_neg (by omega), if_pos rfl, if_pos (by omega), Nat.sub_self]
   rfl
  ·rw [if_neg h1]
   by_cases h2 : i + 1 ≤ k ∧ k < i + 1 + l.length
   ·rw [if_pos h2, if_pos (by omega), show k - i = (k - (i + 1)) + 1 by omega]
    rfl
   ·rw [if_neg h2, if_neg (by omega)]
theorem ZjG {r : Ren} {args args' : List Value} (ha : VsR r args args') (n : Nat) : TR r (Q8 args 0 .nil) { tmps := ⟨args'⟩ ++ Array.replicate n undef, defers := [] } := by
 intro (t : Nat)
 show VR r (((Q8 args 0 .nil).get t).getD undef) (((⟨args'⟩ : Array Value) ++ Array.replicate n undef).getD t undef)
 rw [KN, Array.getD_eq_getD_getElem?, Array.getElem?_append]
 have hl := ha.length
 by_cases h : t < args.length
 ·rw [if_pos (by omega), if_pos (by simp; omega), Nat.sub_zero]
  have h1 : args[t]? = some args[t] := List.getElem?_eq_getElem h
  obtain ⟨v', hv', hr⟩ := ha.get h1
  rw [h1]
  simp only [List.getElem?_toArray, hv', Option.getD_some]
  exact hr
 ·rw [if_neg (by omega), if_neg (by simp; omega)]
  have : (Array.replicate n undef)[t - (⟨args'⟩ : Array Value).size]?.getD undef = undef := by
   rw [Array.getElem?_replicate]
   split <;> rfl
  rw [this, Tr.get_nil]
  exact XB
theorem V7 (P : Program) (ts : Tr Value) : ∀ l : List ResultVar, Loc (VW P ts l : M F (List Value))
 | [] => Zg _
 | .tmp t :: l => Zb (V7 P ts l) fun _ => Zg _
 | .cell a t :: l => Zb (KF P _ _) fun _ => Zb (V7 P ts l) fun _ => Zg _
theorem Zax {ts : Tr Value} {a : Act} {r : Ren} {w : World} (hT : TR r ts a) : ∀ (l : List ResultVar) {h h' : Tr (Blk F)} {nx nx' : Nat} {R W : List Nat} {vs : List Value}, (VW P ts l : M F _) h nx = .ok vs h' nx' R W → Mod S r h.get w →
  h' = h ∧ nx' = nx ∧ W = [] ∧ ∃ vs', (l.mapM (fun (x : ResultVar) => match x with
   | .tmp t => (pure (a.tmps.getD t undef) : Sem Value)
   | .cell b t => do loadVar t (← asAddr (a.tmps.getD b undef)))).run P w = .ok vs' w ∧ VsR r vs vs'
 | [], h, h', nx, nx', R, W, vs, e, hM => by
  obtain ⟨rfl, rfl, rfl, rfl⟩ := Zh (show (ret [] : M F _) h nx = _ from e)
  exact ⟨rfl, rfl, rfl, [], by simp, .nil⟩
 | .tmp t :: l, h, h', nx, nx', R, W, vs, e, hM => by
  obtain ⟨us, h1, nx1, R1, W1, R2, W2, e1, e2, rfl, rfl⟩ := Zc (show (bind (VW P ts l) fun vs => ret (opd ts (.tmp t) :: vs) : M F _) h nx = _ from e)
  obtain ⟨rfl, rfl, rfl, rfl⟩ := Zh e2
  obtain ⟨rfl, rfl, rfl, us', hrun, hr⟩ := Zax hT l e1 hM
  refine ⟨rfl, rfl, rfl, a.tmps.getD t undef :: us', ?_, .cons (hT t) hr⟩
  rw [List.mapM_cons]
  simp only [Sem.run_bind, Sem.run_pure, Result.andThen_ok, hrun]
 | .cell b t :: l, h, h', nx, nx', R, W, vs, e, hM => by
  obtain ⟨v, h1, nx1, R1, W1, R2, W2, e1, e2, rfl, rfl⟩ := Zc (show (bind (Q4 P t (opd ts (.tmp b))) fun v => bind (VW P ts l) fun vs => ret (v :: vs) : M F _) h nx = _ from e)
  obtain ⟨us, h2, nx2, R3, W3, R4, W4, e3, e4, rfl, rfl⟩ := Zc e2
  obtain ⟨rfl, rfl, rfl, rfl⟩ := Zh e4
  obtain ⟨rfl, rfl, rfl, v', ad, hp, hl, hv⟩ := Zek e1 hM (hT b)
  obtain ⟨rfl, rfl, rfl, us', hrun, hr⟩ := Zax hT l e3 hM
  refine ⟨rfl, rfl, rfl, v' :: us', ?_, .cons hv hr⟩
  rw [List.mapM_cons]
  have hp' : a.tmps.getD b undef = .pointer (some ad) := hp
  have hpa : (asAddr (a.tmps.getD b undef)).run P w = .ok ad w := by rw [hp']; rfl
  simp only [Sem.run_bind, Sem.run_pure, Result.andThen_ok, hpa, hl, hrun]
noncomputable def Zml (P : Program) (fn : Func) (x : Ex × Tr Value) : M F Value := match x.1 with
 | .exit _ => fail
 | .normal => bind (VW P x.2 fn.results.toList) fun vs => ret (Qn vs)
 | .ret => bind (VW P x.2 fn.results.toList) fun vs => ret (Qn vs)
theorem ZbG (P : Program) (fn : Func) (x : Ex × Tr Value) : Loc (Zml P fn x : M F Value) := by
 unfold Zml
 split
 ·exact Za
 ·exact Zb (V7 P _ _) fun _ => Zg _
 ·exact Zb (V7 P _ _) fun _ => Zg _
theorem Jj (sum : WE F) (n : Nat) (ys : VU F) (f : FuncId) (args : List Value) : Vw P C sum (n + 1) ys f args = match sum f args with
  | some s => s
  | none => match C.tab f with
   | none => fail
   | some fn => match fn.body with
    | none => fail
    | some c => cond (Nat.ble args.length fn.ntmps) (bind (code P C ⟨Vw P C sum n, ys, C.jmp f⟩ fn.ntmps n c (Q8 args 0 .nil)) (Zml P fn)) fail := rfl
theorem Jk {fn : Func} {ts : Tr Value} {a : Act} {r : Ren} {w : World} {h h' : Tr (Blk F)} {nx nx' : Nat} {R W : List Nat} {v : Value} (e : (bind (VW P ts fn.results.toList) fun vs => ret (Qn vs) : M F Value) h nx = .ok v h' nx' R W) (hT : TR r ts a) (hM : Mod S r h.get w) :
  h' = h ∧ nx' = nx ∧ W = [] ∧ ∃ v', (results fn a.tmps).run P w = .ok v' w ∧ VR r v v' := by
 obtain ⟨vs, h1, nx1, R1, W1, R2, W2, e1, e2, rfl, rfl⟩ := Zc e
 obtain ⟨rfl, rfl, rfl, rfl⟩ := Zh e2
 obtain ⟨rfl, rfl, rfl, vs', hrun, hr⟩ := Zax hT _ e1 hM
 refine ⟨rfl, rfl, rfl, ?_⟩
 have hmap : (fn.results.mapM (fun (x : ResultVar) => match x with
   | .tmp t => (pure (a.tmps.getD t undef) : Sem Value)
   | .cell b t => do loadVar t (← asAddr (a.tmps.getD b undef)))).run P w = .ok vs'.toArray w := by
  rw [Array.mapM_eq_mapM_toList]
  simp only [Sem.run_map, hrun, Result.andThen_ok]
 have hres : results fn a.tmps = (fn.results.mapM (fun (x : ResultVar) => match x with
   | .tmp t => (pure (a.tmps.getD t undef) : Sem Value)
   | .cell b t => do loadVar t (← asAddr (a.tmps.getD b undef))) >>= fun vs => pure (if h : vs.size = 1 then vs[0] else .tuple vs)) := by
  unfold results
  congr 1
 rw [hres]
 have hlen := hr.length
 rcases vs with _ | ⟨u, _ | ⟨u2, us⟩⟩
 ·have : vs' = [] := List.eq_nil_of_length_eq_zero (by simpa using hlen)
  subst this
  refine ⟨.tuple #[], ?_, .tuple .nil⟩
  rw [Sem.run_bind, hmap]
  rfl
 ·rcases vs' with _ | ⟨u', _ | ⟨_, _⟩⟩
  ·simp at hlen
  ·cases hr with
   | cons h1 h2 =>
    refine ⟨u', ?_, h1⟩
    rw [Sem.run_bind, hmap]
    rfl
  ·simp at hlen
 ·refine ⟨.tuple vs'.toArray, ?_, .tuple hr⟩
  rw [Sem.run_bind, hmap]
  simp only [Result.andThen_ok]
  rw [dif_neg (by simp; rw [hlen]; simp)]
  rfl
theorem Ext.putObj {r r' : Ren} {w w' : World} {lo hi l : Nat} {W : List Nat} {g : Nat → Option (Blk F)} (h : Ext S r w lo hi W g r' w') (hl : ∀ c t z, w'.heap[l]? ≠ some (.cells c t z)) (hlo : ∀ L, w'.heap[l]? ≠ some (.loop L)) (hG : S.G ≤ l) (hw : w.heap.size ≤ l) (o : Obj) : Ext S r w lo hi W g r' (w'.putObj l o) :=
 ⟨h.le, h.mod.putObj' hl hlo hG o, h.dom, h.new, fun b o' hb hn => by
  have := (Array.getElem?_eq_some_iff.1 hb).1
  rw [World.putObj_heap_other (by omega)]; exact h.keep b o' hb hn, by rw [World.putObj_size]; exact h.size, h.os, h.tape, h.output, ⟨fun b L hb => by
  obtain ⟨L', q1, q2⟩ := h.loops.lp b L hb
  have := (Array.getElem?_eq_some_iff.1 hb).1
  exact ⟨L', by rw [World.putObj_heap_other (by omega)]; exact q1, q2⟩, fun b c t z hb => by
  obtain ⟨c2, q1, q2⟩ := h.loops.sh b c t z hb
  have := (Array.getElem?_eq_some_iff.1 hb).1
  exact ⟨c2, by rw [World.putObj_heap_other (by omega)]; exact q1, q2⟩⟩⟩
theorem YQ.shut {B0 D : Nat} : ∀ {ds : List Deferred} {r : Ren} {w : World}, YQ S B0 ds r w → (∀ e ∈ ds, e.target ≠ .collected D) → ∀ o, YQ S B0 ds r (w.putObj D o)
 | [], _, _, h, _, _ => by show B0 ≤ _; rw [World.putObj_size]; exact h
 | d :: ds, _, _, ⟨h, D', h1, h2, h3⟩, hn, o => ⟨YQ.shut h (fun e he => hn e (List.mem_cons_of_mem _ he)) o, D', h1, by
    rw [World.putObj_heap_other (fun q => hn d List.mem_cons_self (by rw [h1, q]))]; exact h2, h3⟩
theorem KO {fn : Func} {tmps : Array Value} {v : Value} {r r' : Ren} {w : World} {lo hi : Nat} {W : List Nat} {g : Nat → Option (Blk F)} (hres : ∀ w2, Mod S r' g w2 → ∃ v', (results fn tmps).run P w2 = .ok v' w2 ∧ VR r' v v') :
  ∀ (ds : List Deferred) (w1 : World), YQ S w.heap.size ds r' w1 → Ext S r w lo hi W g r' w1 → LeavesInM Fence.wide 0 P fn tmps (fun e w' => ∃ v' r'', e = .returned v' ∧ VR r'' v v' ∧ Ext S r w lo hi W g r'' w') ds .returning w1
 | [], w1, _, hX => by
  obtain ⟨v', h1, h2⟩ := hres w1 hX.mod
  exact ⟨v', h1, v', r', rfl, h2, hX⟩
 | d :: ds, w1, ⟨hm, D, h1, h2, h3, h4, h5, h6⟩, hX => by
  refine ⟨by simp, .inl ⟨D, _, by rw [h1], run_takeDeferred h2, ?_⟩⟩
  exact KO hres ds _ (hm.shut h6 _) (hX.putObj (fun c t z q => by rw [h2] at q; cases q) (fun L q => by rw [h2] at q; cases q) h4 h5 _)
theorem X4 [HardLoc C] (hF : Fits S P C) (hJ : JmpAll S P C) {sum : WE F} (hs : SumOK S P sum) : ∀ n, (∀ ys, Zft ys → ∀ f args, Loc (Vw P C sum n ys f args)) ∧ ∀ ys f args h nx v h' nx' R W, Zft ys → Run (Vw P C sum n ys f args) h nx v h' nx' R W →
  ∀ (r : Ren) (w : World) (args' : List Value), VsR r args args' → Mod S r h.get w → New r nx nx' → YOK S P ys r w → Calls P f ⟨args'⟩ w fun e w' => ∃ v' r', e = .returned v' ∧ VR r' v v' ∧ Ext S r w nx nx' W h'.get r' w'
 | 0 => ⟨fun _ _ _ _ => Za, fun ys f args h nx v h' nx' R W _ e => (show Run (fail : M F _) _ _ _ _ _ _ _ from e).no.elim⟩
 | n + 1 => by
  have ih := X4 hF hJ hs n
  have hcl : ∀ f ys, Zft ys → ClOK S P ⟨Vw P C sum n, ys, C.jmp f⟩ := fun f ys hy => ⟨⟨ih.1, hy, hJ.loc f⟩, ih.2⟩
  refine ⟨fun ys hy f args => ?_, fun ys f args h nx v h' nx' R W hy e r w args' ha hM hN hY => ?_⟩
  ·rw [Jj]
   cases hsum : sum f args with
   | some s => exact hs.loc _ _ _ hsum
   | none =>
    simp only
    cases C.tab f with
    | none => exact Za
    | some fn =>
     simp only
     cases fn.body with
     | none => exact Za
     | some c => exact Ze (Zb (ZU P C _ _ (hcl f ys hy).loc c _) (ZbG P fn)) Za
  ·rw [Jj] at e
   cases hsum : sum f args with
   | some s => rw [hsum] at e; exact hs.run _ _ _ hsum _ _ _ _ _ _ _ e r w args' ha hM hN
   | none =>
    rw [hsum] at e; simp only at e
    cases ht : C.tab f with
    | none => rw [ht] at e; exact e.no.elim
    | some fn =>
     rw [ht] at e; simp only at e
     cases hb : fn.body with
     | none => rw [hb] at e; exact e.no.elim
     | some c =>
      rw [hb] at e; simp only at e
      obtain ⟨hle, e⟩ := e.cond
      have hle2 := Nat.le_of_ble_eq_true hle
      obtain ⟨⟨ex, ts⟩, h1, nx1, R1, W1, R2, W2, e1, e2, rfl, rfl, l1, l2⟩ := e.bind (ZU P C _ _ (hcl f ys hy).loc c _) (ZbG P fn)
      have hlen := ha.length
      refine (callsIn_wide (n := 0)).1 (callsIn_of_wp_marks (hF.tab f fn ht).1 hb trivial (Xn hF (hcl f ys hy) c (fun x hx m => hJ.ok f fn c x m ht hb hx) e1 (ro := none) (d := 0) (B0 := w.heap.size) hM (hN.sub (Nat.le_refl _) l2) ⟨ZjG ha _, by simp; omega, Nat.le_refl _, fun l hl => (by cases hl), hY, .nil⟩ _ fun a' r' w' hS' hX => ?_))
      have fin : (bind (VW P ts fn.results.toList) fun vs => ret (Qn vs) : M F Value) h1 nx1 = .ok v h' nx' R2 W2 → LeavesInM Fence.wide 0 P fn a'.tmps (fun e w' => ∃ v' r', e = .returned v' ∧ VR r' v v' ∧ Ext S r w nx nx' (W1 ++ W2) h'.get r' w') a'.defers .returning w' := fun e3 => by
       obtain ⟨rfl, rfl, rfl, -⟩ := Jk e3 hS'.T hX.mod
       refine KO (fun w2 hM2 => ?_) _ _ hS'.marks (by simpa using hX)
       obtain ⟨-, -, -, v', q1, q2⟩ := Jk e3 hS'.T hM2
       exact ⟨v', q1, q2⟩
      cases ex with
      | exit i => exact (show Run (fail : M F _) _ _ _ _ _ _ _ from e2).no.elim
      | normal => exact fin (show Run (bind (VW P ts fn.results.toList) fun vs => ret (Qn vs) : M F Value) _ _ _ _ _ _ _ from e2).ok
      | ret => exact fin (show Run (bind (VW P ts fn.results.toList) fun vs => ret (Qn vs) : M F Value) _ _ _ _ _ _ _ from e2).ok
theorem Zay [HardLoc C] (hF : Fits S P C) {sum : WE F} (hs : SumOK S P sum) (n : Nat) (hJ : JmpAll S P C := by exact .none rfl) : CallOK S P (call P C sum n) :=
 ⟨(X4 hF hJ hs n).1 [] (by intro x hx; simp at hx), fun f args h nx v h' nx' R W e r w args' ha hM hN => (X4 hF hJ hs n).2 [] f args h nx v h' nx' R W (by intro x hx; simp at hx) e r w args' ha hM hN trivial⟩
end
end Ev
end Go.Proofs.YtnlhjcfpfapafaaGreatDoor
namespace Go.Proofs.YtnlhjcfpfapafaaGreatDoor
open Go
namespace Ev
section
variable {F : Type} (P : Program) (C : Cfg F)
noncomputable def Zaz (t : TypeId) : Bool := match P.underlying t with
 | some d => match d with
  | .string => true
  | _ => false
 | none => false
noncomputable def Zfy (b off n : Nat) : M F (List Value) := bind (Vt b) fun y => match Zaj y.1 off n with
 | some l => cond (ZV ZR l) (ret l) fail
 | none => fail
noncomputable def ZbH (base : Option (Nat × Nat)) (n size : Nat) : M F (List Value) := match base with
 | some x => Zfy x.1 x.2 (n * size)
 | none => cond (Nat.beq n 0) (ret []) fail
noncomputable def Zg1 (size : Nat) (tx : TypeId) (x : Value) : M F (Nat × List Value) := match Yt x with
 | some y => match Zz P tx with
  | some _ => bind (ZbH y.1 y.2.1 size) fun l => ret (y.2.1, l)
  | none => fail
 | none => match x with
  | .string s => cond (Nat.beq size 1 && Zaz P tx) (ret (s.size, byteCells s)) fail
  | _ => fail
noncomputable def Zeq (bytes k : Nat) : Bool := Nat.ble (k * bytes) 1048576 && Nat.ble k 1048576
noncomputable def ZbI (o : Option Value) : Option (Option Nat) := match o with
 | some v => match Xf v with
  | some n => some (some n)
  | none => none
 | none => some none
noncomputable def orN (o : Option Nat) (d : Nat) : Nat := match o with
 | some n => n
 | none => d
noncomputable def ZjH (s b off l h m : Nat) : M F Nxt := cond (Nat.ble l h && Nat.ble h m) (val (Z5 b (cond (Nat.beq m l) off (off + l * s)) (h - l) (m - l))) fail
noncomputable def ZjI (s : Nat) (a : Nat × Nat) (n c : Nat) (lo hi mx : Option Nat) : M F Nxt := match mx with
 | some m => cond (Nat.ble m (cond (Nat.ble ZH c) (Nat.mod c ZH) c)) (match hi with
  | some h => cond (Nat.ble m (ZH - 1)) (ZjH s a.1 a.2 (orN lo 0) h m) fail
  | none => fail) fail
 | none => cond (Nat.ble ZH c)
  (cond (Nat.beq (Nat.div c ZH) (Nat.succ s) && Nat.ble (orN lo 0) (orN hi n) && Nat.ble (orN hi n) (Nat.mod c ZH))
   (cond (Nat.beq (orN lo 0) 0) (val (Z5 a.1 a.2 (orN hi n) c)) (cond (Nat.ble (Nat.succ (orN lo 0)) (Nat.mod c ZH)) (val (Z5 a.1 (a.2 + orN lo 0 * s) (orN hi n - orN lo 0) (c - orN lo 0))) fail)) fail)
  (ZjH s a.1 a.2 (orN lo 0) (orN hi n) c)
noncomputable def Ks (t : TypeId) (v : Value) (lo hi mx : Option Value) : M F Nxt := match Zz P t with
 | some e => match sizeT P e with
  | some s => match Yt v with
   | some y => match y.1 with
    | some a => match ZbI lo with
     | some lo => match ZbI hi with
      | some hi => match ZbI mx with
       | some mx => ZjI s a y.2.1 y.2.2 lo hi mx
       | none => fail
      | none => fail
     | none => fail
    | none => fail
   | none => fail
  | none => fail
 | none => fail
noncomputable def WF {α : Type} (l : List α) : Option (α × α) := match l with
 | a :: l => match l with
  | b :: l => match l with
   | [] => some (a, b)
   | _ :: _ => none
  | [] => none
 | [] => none
noncomputable def Jl (t : TypeId) (vs : List Value) (lo hi mx : Bool) : M F Nxt := match vs with
 | v :: l => match lo, l with
  | true, a :: l => match hi, l with
   | true, b :: l => match mx, l with
    | true, [c] => Ks P t v (some a) (some b) (some c)
    | false, [] => Ks P t v (some a) (some b) none
    | _, _ => fail
   | false, [] => cond mx fail (Ks P t v (some a) none none)
   | _, _ => fail
  | false, l => match hi, l with
   | true, b :: l => match mx, l with
    | true, [c] => Ks P t v none (some b) (some c)
    | false, [] => Ks P t v none (some b) none
    | _, _ => fail
   | false, [] => cond mx fail (Ks P t v none none none)
   | _, _ => fail
  | _, _ => fail
 | [] => fail
noncomputable def Zfz {α : Type} (l : List α) : Option α := match l with
 | a :: l => match l with
  | [] => some a
  | _ :: _ => none
 | [] => none
noncomputable def XL (_ : Cfg F) (o : Oper) (vs : List Value) : M F Nxt := match o.op with
 | .slice t _ lo hi mx => Jl P t vs lo.isSome hi.isSome mx.isSome
 | _ => fail
theorem ZbJ (b off n : Nat) : Loc (Zfy b off n : M F (List Value)) := Zb (UN _) fun y => by
 split
 ·exact Ze (Zg _) Za
 ·exact Za
theorem ZfA (base : Option (Nat × Nat)) (n size : Nat) : Loc (ZbH base n size : M F (List Value)) := by
 unfold ZbH
 split
 ·exact ZbJ _ _ _
 ·exact Ze (Zg _) Za
theorem Zg2 (size : Nat) (tx : TypeId) (x : Value) : Loc (Zg1 P size tx x : M F (Nat × List Value)) := by
 unfold Zg1
 (repeat' split) <;> first | exact Za | exact Zb (ZfA _ _ _) fun _ => Zg _ | exact Ze (Zg _) Za
theorem ZbK (s b off l h m : Nat) : Loc (ZjH s b off l h m : M F Nxt) := Ze (Zm _) Za
theorem Zg3 (s : Nat) (a : Nat × Nat) (n c : Nat) (lo hi mx : Option Nat) : Loc (ZjI s a n c lo hi mx : M F Nxt) := by
 unfold ZjI
 split
 ·refine Ze ?_ Za
  split
  ·exact Ze (ZbK _ _ _ _ _ _) Za
  ·exact Za
 ·exact Ze (Ze (Ze (Zm _) (Ze (Zm _) Za)) Za) (ZbK _ _ _ _ _ _)
theorem ZbL (t : TypeId) (v : Value) (lo hi mx : Option Value) : Loc (Ks P t v lo hi mx : M F Nxt) := by
 unfold Ks
 (repeat' split) <;> first | exact Za | exact Zg3 _ _ _ _ _ _ _
theorem Zc3 (t : TypeId) (vs : List Value) (lo hi mx : Bool) : Loc (Jl P t vs lo hi mx : M F Nxt) := by
 unfold Jl
 (repeat' split) <;> first | exact Za | exact ZbL _ _ _ _ _ _ | exact Ze Za (ZbL _ _ _ _ _ _)
theorem XM (o : Oper) (vs : List Value) : Loc (XL P C o vs) := by
 unfold XL
 (repeat' split) <;> first | exact Za | exact Zc3 _ _ _ _ _ _
end
section
variable {F : Type} {S : Sig F} {P : Program} {C : Cfg F}
variable {h h' : Tr (Blk F)} {nx nx' : Nat} {R W : List Nat} {r : Ren} {w : World} {x : Nxt}
theorem WL {b off l c : Nat} {v' : Value} (h : VR r (Z5 b off l c) v') : ∃ b' c', r.blk b = some b' ∧ v' = Z5 b' off l c' ∧
  ((c < ZH ∧ c' = c) ∨ ∃ s c0, c = ZH * (s + 1) + c0 ∧ c0 < ZH ∧ c0 ≤ c' ∧ off + c' * s ≤ r.len b) := by
 unfold Z5 at h
 cases h with
 | same p => simp [plain] at p
 | slice hb hc => exact ⟨_, _, hb, rfl, .inl ⟨hc, rfl⟩⟩
 | slicex hb hc h1 h2 => exact ⟨_, _, hb, rfl, .inr ⟨_, _, rfl, hc, h1, h2⟩⟩
theorem Zer {b off n : Nat} {l : List Value} {b' : Nat} (e : (Zfy b off n : M F _) h nx = .ok l h' nx' R W) (hM : Mod S r h.get w) (hb : r.blk b = some b') :
  h' = h ∧ nx' = nx ∧ W = [] ∧ l.length = n ∧ ∃ l', VsR r l l' ∧ (∀ u ∈ l', u.oneCell' = true) ∧ ∀ j u, l'[j]? = some u → w.cell? ⟨b', off + j, none⟩ = some u := by
 unfold Zfy at e
 obtain ⟨y, h1, nx1, R1, W1, R2, W2, e1, e2, rfl, rfl⟩ := Zc e
 obtain ⟨hg, rfl, rfl, rfl⟩ := V0 e1
 cases hr : Zaj y.1 off n with
 | none => rw [hr] at e2; simp [fail] at e2
 | some l2 =>
  rw [hr] at e2
  obtain ⟨hk, e3⟩ := Zi e2
  obtain ⟨rfl, rfl, rfl, rfl⟩ := Zh e3
  obtain ⟨rfl, hl⟩ := Zfo hr
  obtain ⟨b3, c', hb3, hh, hc, -⟩ := hM.any hg
  obtain rfl : b3 = b' := by rw [hb] at hb3; injection hb3 with e; exact e.symm
  have hsg := Zei hc hl
  refine ⟨rfl, rfl, rfl, hl, _, hsg, hsg.ones hk, fun j u hj => ?_⟩
  simp only [World.cell?, hh]
  rw [List.getElem?_take] at hj
  split at hj
  ·rw [List.getElem?_drop] at hj; simpa using hj
  ·cases hj
theorem Zg4 {v' : Value} {base : Option (Nat × Nat)} {n k c size : Nat} {l : List Value} (e : (ZbH base n size : M F _) h nx = .ok l h' nx' R W) (hM : Mod S r h.get w)
  (hv : VR r (.slice (base.map fun y => ⟨y.1, y.2, none⟩) k c) v') : h' = h ∧ nx' = nx ∧ W = [] ∧ l.length = n * size ∧ ∃ a' c' l', v' = .slice a' k c' ∧ VsR r l l' ∧ (∀ u ∈ l', u.oneCell' = true) ∧
   (match a' with | some a => ∀ j u, l'[j]? = some u → w.cell? (a.add j) = some u | none => n = 0 ∧ l' = []) := by
 cases base with
 | none =>
  unfold ZbH at e
  obtain ⟨hk, e3⟩ := Zi e
  obtain ⟨rfl, rfl, rfl, rfl⟩ := Zh e3
  obtain rfl := Nat.eq_of_beq_eq_true hk
  obtain rfl := VR.nilslc hv
  exact ⟨rfl, rfl, rfl, by simp, none, c, [], rfl, .nil, by simp, rfl, rfl⟩
 | some y =>
  obtain ⟨b, off⟩ := y
  obtain ⟨b', c', hb, rfl, -⟩ := WL (b := b) (off := off) hv
  obtain ⟨rfl, rfl, rfl, hl, l', h1, h2, h3⟩ := Zer (show (Zfy b off (n * size) : M F _) h nx = _ from e) hM hb
  exact ⟨rfl, rfl, rfl, hl, _, c', l', rfl, h1, h2, fun j u hj => by rw [Yu]; exact h3 j u hj⟩
theorem QA (s : ByteArray) : VsR r (byteCells s) (byteCells s) := by
 unfold byteCells
 generalize s.data.toList = l
 induction l with
 | nil => exact .nil
 | cons a l ih => exact .cons (.same rfl) ih
theorem ZfB {t : TypeId} (h : Zaz P t = true) : P.underlying t = some .string := by
 unfold Zaz at h
 (repeat' split at h) <;> first | (cases h; done) | assumption
theorem ZjJ {size : Nat} {tx : TypeId} {v v' : Value} {s : Nat × List Value} (e : Zg1 P size tx v h nx = .ok s h' nx' R W) (hM : Mod S r h.get w) (hv : VR r v v') :
  h' = h ∧ nx' = nx ∧ W = [] ∧ ∃ l', Src P size tx v' s.1 l' w ∧ VsR r s.2 l' := by
 unfold Zg1 at e
 cases hs : Yt v with
 | some y =>
  rw [hs] at e; simp only at e
  cases ht : Zz P tx with
  | none => rw [ht] at e; simp [fail] at e
  | some el =>
   rw [ht] at e; simp only at e
   obtain ⟨l, h1, nx1, R1, W1, R2, W2, e1, e2, rfl, rfl⟩ := Zc e
   obtain ⟨rfl, rfl, rfl, rfl⟩ := Zh e2
   rw [Wo hs] at hv
   obtain ⟨rfl, rfl, rfl, hl, a', c', l', rfl, g1, g2, g3⟩ := Zg4 e1 hM hv
   refine ⟨rfl, rfl, by simp, l', ?_, g1⟩
   cases a' with
   | none => obtain ⟨g4, rfl⟩ := g3; rw [show y.2.1 = 0 from g4]; exact Src.ofNil w (Zw ht) _
   | some a => exact Src.ofSlice w (Zw ht) a _ _ l' (by rw [g1.length, hl]) g3 g2
 | none =>
  rw [hs] at e; simp only at e
  cases v with
  | string t =>
   simp only at e
   obtain ⟨hk, e3⟩ := Zi e
   obtain ⟨rfl, rfl, rfl, rfl⟩ := Zh e3
   simp only [Bool.and_eq_true] at hk
   obtain rfl := Nat.eq_of_beq_eq_true hk.1
   obtain rfl := hv.str
   exact ⟨rfl, rfl, rfl, _, Src.ofString w (ZfB hk.2) t, QA t⟩
  | _ => simp [fail] at e
theorem Zg5 {t tx ty e : TypeId} {i : TypeInfo} (ht : P.underlying t = some (.slice e)) (hi : P.info? e = some i) {b off sLen sCap : Nat} {x : Value} {n : Nat} {news : List Value} {w w' : World} (hs : Src P i.size tx x n news w)
  (hroom : sLen + n ≤ sCap) (hst : (storeCells ⟨b, off + sLen * i.size, none⟩ news).run P w = .ok () w') :
  (Builtin.append_ #[t, tx] ty #[.slice (some ⟨b, off, none⟩) sLen sCap, x]).run P w = .ok (.slice (some ⟨b, off, none⟩) (sLen + n) sCap) w' := by
 rcases hs.kind with ⟨e', hk⟩ | hk <;> simp [Builtin.append_, run_underlying ht, run_underlying hk, sizeOf, typeInfo, hi, hs.len, hroom, hs.cells, Addr.add_lit, hst]
theorem Zg6 (z : Array Value) (n : Nat) : (Builtin.zeroCells z n).size = n * z.size := by simp [Builtin.zeroCells]
theorem ZjK {bytes k old : Nat} (h : Zeq bytes k = true) (ho : old < k) : ((k : Nat) : Int) ≤ 9223372036854775807 ∧ Builtin.nextslicecap k old * bytes ≤ 281474976710656 ∧ k < ZH := by
 unfold Zeq at h
 simp only [Bool.and_eq_true] at h
 have h1 := Nat.le_of_ble_eq_true h.1
 have h2 := Nat.le_of_ble_eq_true h.2
 refine ⟨by omega, growslice_fits ho (by omega), by unfold ZH; omega⟩
end
end Ev
end Go.Proofs.YtnlhjcfpfapafaaGreatDoor
