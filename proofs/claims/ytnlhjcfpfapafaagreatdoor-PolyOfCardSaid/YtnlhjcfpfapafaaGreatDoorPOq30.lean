/- Contracts. -/
import Derived.Test.YtnlhjcfpfapafaaGreatDoorPOq29
import Derived.Test.YtnlhjcfpfapafaaGreatDoorPOq26
import Derived.Test.YtnlhjcfpfapafaaGreatDoorPOq27
namespace Go.Proofs.YtnlhjcfpfapafaaGreatDoor
open Go Go.RowKit
namespace Ev
set_option maxRecDepth 100000
noncomputable def fcF : Nat := 46
noncomputable def Zgv : List Nat := [4, 0, 5]
noncomputable def Zlk (x y : Sl Sy) : List (Sl Sy) := [x, .f (.ls 4 0), y]
noncomputable def ZcD : List (Sl Sy) := Zlk (.p (.slice none 0 0)) (.p (.int .i64 0))
noncomputable def ZoB : List (Sl Sy) := Zlk (.ow (.ol 0 (.v 1) none)) (.f (.ix 2 0))
noncomputable def Zl4 : List (Sl Sy) := Zlk (.ow (.ol 0 (.snoc (.v 1) (.v 2)) none)) (.f (.ix 2 1))
noncomputable def Km : List (Sl Sy) := Zlk (.ow (.ol 0 (.v 0) none)) (.f (.ix 1 0))
noncomputable def Zll : List Ix := [.ln 0 1, .ln 1 2, .bd 2, .lt 2 0 1 0 true, .el 0 2 0 (.v 2)]
set_option maxHeartbeats 4000000 in
theorem Zjd : WU Tryz.prog (Yo false [] Zll noJ) (ZcC false [] Zll 20) 30 20 Yl Zgv ZoB Zl4 (ZL fcF 0) = true := by kernel_rfl
noncomputable def fcJ : J6 := fun f _ => cond (Nat.beq f fcF) (some (Z9 Yl 30 Zgv ZcD Km)) none
set_option maxHeartbeats 4000000 in
theorem Zny : tells [.ls 4 0] [.one] (call Tryz.prog (Yo false [] [.ln 0 1] fcJ) (Zd7 []) 20 fcF) = some (.tuple [.one (.ow (.ol 0 (.v 0) none)), .one (.p (.int .i64 0))]) := by kernel_rfl
theorem Znz : ∃ fn c, (Tryz.prog).funcs[fcF]? = some fn ∧ fn.body = some c ∧ fn.ntmps = 30 ∧ ZS c = [ZL fcF 0] := ⟨_, _, rfl, rfl, rfl, rfl⟩
def ZoC (c k : Nat) : Nat → Nat
 | 1 => c
 | 2 => k
 | _ => 0
def ZoD (qs : List Rat) (k : Nat) : Nat → List Rat
 | 0 => qs
 | 1 => qs.take k
 | _ => []
def WC (qs : List Rat) (hq : ∀ q ∈ qs, Fit q) (lo k : Nat) : Env := ⟨lfQ qs k, fun _ => (false, ⟨#[]⟩, ⟨#[]⟩), fun i _ => Ze3 hq k i, fun i => (Ze3 hq k i).sm.up (by decide), fun _ => Wc, lo, ZoD qs k, ZoC qs.length k, rfl⟩
section
variable {qs : List Rat} (hq : ∀ q ∈ qs, Fit q) (lo : Nat)
theorem ZnA (hl : qs.length ≤ 10000) : X3 (Zf (WC qs hq lo 0)) Tryz.prog 30 (ZL fcF 0) (Z9 Yl 30 Zgv ZcD Km) := by
 refine @Za6 Sy (Zf (WC qs hq lo 0)) Tryz.prog Yl YH 30 (ZL fcF 0) Zgv ZcD ZoB Zl4 Km qs.length (fun k => Zf (WC qs hq lo k)) (fun k => ⟨rfl, rfl, rfl⟩) ?_ rfl rfl rfl ?_ ?_ ?_ ?_
 ·intro w vs h
  obtain ⟨v1, l1, rfl, a1, v2, l2, rfl, a2, v3, l3, rfl, a3, rfl⟩ := h
  rw [show v1 = .slice none 0 0 from a1]; rfl
 ·intro w vs h
  obtain ⟨v1, l1, rfl, a1, v2, l2, rfl, a2, v3, l3, rfl, a3, rfl⟩ := h
  have h1 : v1 = .slice none 0 0 := a1
  subst h1
  refine ⟨_, _, rfl, ⟨⟨none, 0, 0, rfl, Nat.le_refl _, Nat.le_refl _, rfl, fun _ => rfl, fun _ h => (by cases h)⟩, rfl, fun _ h => (by cases h)⟩, v2, _, rfl, a2, v3, _, rfl, ⟨?_, ?_⟩, rfl⟩
  ·rw [show v3 = .int .i64 0 from a3]; rfl
  ·rw [show v3 = .int .i64 0 from a3]; rfl
 ·intro k hk w vs h
  obtain ⟨v1, l1, rfl, a1, v2, l2, rfl, a2, v3, l3, rfl, a3, rfl⟩ := h
  refine ⟨v1, _, rfl, ⟨?_, a1.2⟩, v2, _, rfl, a2, v3, _, rfl, ⟨?_, a3.2⟩, rfl⟩
  ·refine Yq.env (ρ := WC qs hq lo k) (l' := .v 1) (z' := none) (show Yq _ 0 (.snoc (.v 1) (.v 2)) none w v1 from a1.1) ?_ trivial
   show qs.take (k + 1) = qs.take k ++ [qs.getD k 0]
   rw [List.take_add_one, List.getD_eq_getElem?_getD, List.getElem?_eq_getElem (by omega)]; rfl
  ·have h4 : v3 = .int .i64 (((k : Nat) : Int) + 1) := a3.1
   show v3 = .int .i64 (((k + 1 : Nat) : Int) + 0)
   rw [h4]; congr 1
 ·intro w vs h
  obtain ⟨v1, l1, rfl, a1, v2, l2, rfl, a2, v3, l3, rfl, a3, rfl⟩ := h
  exact ⟨v1, _, rfl, ⟨Yq.env (ρ := WC qs hq lo qs.length) (l' := .v 0) (z' := none) (show Yq _ 0 (.v 1) none w v1 from a1.1) (show qs = qs.take qs.length by rw [List.take_length]) trivial, a1.2⟩, v2, _, rfl, a2, v3, _, rfl, ⟨a3.1, a3.2⟩, rfl⟩
 ·intro k hk ro d B0 D0 a w hAt
  have hA : Yd (WC qs hq lo k) [] := fun x hx => by simp at hx
  have hB : ZD (WC qs hq lo k) Zll := fun x hx => by
   simp only [Zll, List.mem_cons, List.not_mem_nil, or_false] at hx
   rcases hx with rfl | rfl | rfl | rfl | rfl
   ·rfl
   ·show (qs.take k).length = k
    rw [List.length_take]; omega
   ·show k ≤ 10000
    omega
   ·show true = true ↔ ((k : Nat) : Int) + 0 < ((qs.length : Nat) : Int) + 0
    exact ⟨fun _ => by omega, fun _ => rfl⟩
   ·refine ⟨k, ?_, ?_⟩
    ·show ((k : Nat) : Int) = ((k : Nat) : Int) + 0
     omega
    ·show qs[k]? = some (qs.getD k 0)
     rw [List.getD_eq_getElem?_getD, List.getElem?_eq_getElem (by omega)]; rfl
  exact Xx (C := Yo false _ _ noJ) (call := ZcC false _ _ 20) (fuel := 20) (YW hA hB) (Zbl hA hB) rfl (fun y _ m e => by cases e) YH Zjd Zf4 hAt
end
theorem Zgw (w : World) {qs : List Rat} (hq : ∀ q ∈ qs, Fit q) (hl : qs.length ≤ 10000) {v : Value} (hv : LsIn 4 w v qs) (hG : Tryz.prog.globals.size ≤ w.heap.size) (hT : Zn.base w) :
  Calls Tryz.prog fcF ⟨[v]⟩ w fun e w' => ∃ u, e = .returned (.tuple ⟨[u, .int .i64 0]⟩) ∧ NewOl 0 w w' u qs ∧ Below w.heap.size w w' := by
 have hu : Yz (Zf (WC qs hq w.heap.size 0)) w [.ls 4 0] [v] := ⟨v, [], rfl, LsIn.ls hv rfl, by obtain ⟨a, m, rfl, _⟩ := hv; rfl, rfl⟩
 have hA : Yd (WC qs hq w.heap.size 0) [] := fun x hx => by simp at hx
 have hB : ZD (WC qs hq w.heap.size 0) [.ln 0 1] := fun x hx => by
  obtain rfl := List.mem_singleton.1 hx
  rfl
 have hJ : JmpAll (Zf (WC qs hq w.heap.size 0)) Tryz.prog (Yo false [] [.ln 0 1] fcJ) := by
  refine ⟨fun f x m e ts => ?_, fun f fn c x m hf hb hx e => ?_⟩
  ·obtain ⟨_, e2⟩ := Zbg (show cond (Nat.beq f fcF) (some (Z9 Yl 30 Zgv ZcD Km)) none = some m from e)
   cases e2
   exact Xy _ _ _ _ _
  ·obtain ⟨h1, e2⟩ := Zbg (show cond (Nat.beq f fcF) (some (Z9 Yl 30 Zgv ZcD Km)) none = some m from e)
   cases e2
   obtain rfl := Nat.eq_of_beq_eq_true h1
   exact QY Znz (@ZnA qs hq _ hl) hf hb hx
 refine (Ya (YW hA hB) (Zag hA) Zny rfl YT hu hG hT (Nat.le_refl _) hJ).mono ?_
 rintro e w' ⟨v', rfl, ⟨vs, rfl, x1, l1, rfl, h1, x3, l3, rfl, h3, rfl⟩, hb⟩
 have h3' : x3 = .int .i64 0 := h3
 subst h3'
 exact ⟨x1, rfl, J7 (ρ := WC qs hq w.heap.size 0) rfl h1 rfl (fun p hp => by cases hp), hb⟩
noncomputable def vOf (K : Nat) (y : Nat × Le) : Option Nat := match y.2 with
 | .v c => cond (Nat.beq y.1 K) (some c) none
 | _ => none
theorem Zd8 {K c : Nat} {y : Nat × Le} (h : vOf K y = some c) : y = (K, .v c) := by
 obtain ⟨a, l⟩ := y
 cases l <;> first | (cases (show none = some c from h); done) | skip
 rename_i d
 have h' : cond (Nat.beq a K) (some d) none = some c := h
 cases hb : Nat.beq a K with
 | false => rw [hb] at h'; cases h'
 | true =>
  rw [hb] at h'
  cases h'
  rw [Nat.eq_of_beq_eq_true hb]
abbrev Kz := List (Nat × Nat × Nat)
noncomputable def Zah (L : Kz) (c d : Nat) : Option Nat := List.rec (motive := fun _ => Option Nat) none (fun x _ ih => cond (Nat.beq x.1 c && Nat.beq x.2.1 d) (some x.2.2) ih) L
theorem Kn {c d e : Nat} : ∀ {L : Kz}, Zah L c d = some e → (c, d, e) ∈ L
 | [], h => by cases h
 | x :: L, h => by
  obtain ⟨a, b, g⟩ := x
  have h' : cond (Nat.beq a c && Nat.beq b d) (some g) (Zah L c d) = some e := h
  cases hb : (Nat.beq a c && Nat.beq b d) with
  | false => rw [hb] at h'; exact List.mem_cons_of_mem _ (Kn h')
  | true =>
   rw [hb] at h'
   cases h'
   simp only [Bool.and_eq_true] at hb
   rw [Nat.eq_of_beq_eq_true hb.1, Nat.eq_of_beq_eq_true hb.2]
   exact List.mem_cons_self
noncomputable def unA (B : List Ix) (K : Nat) (L : Kz) (k : Nat → M Sy Value) (args : List Value) : Option (M Sy Value) := match args with
 | [a] => some (bind (Qy B a) fun y => match vOf K y with
  | some c => match Zah L c 0 with
   | some e => k e
   | none => fail
  | none => fail)
 | _ => none
noncomputable def biA (B : List Ix) (K : Nat) (L : Kz) (k : Nat → M Sy Value) (args : List Value) : Option (M Sy Value) := match args with
 | [a, b] => some (bind (Qy B a) fun y => bind (Qy B b) fun z => match vOf K y with
  | some c => match vOf K z with
   | some d => match Zah L c d with
    | some e => k e
    | none => fail
   | none => fail
  | none => fail)
 | _ => none
noncomputable def Zfb (K : Nat) (e : Nat) : M Sy Value := Zab (.ol K (.v e) none)
noncomputable def Zje (K : Nat) (u : Value) (e : Nat) : M Sy Value := bind (Zab (.ol K (.v e) none)) fun x => ret (.tuple ⟨[x, u]⟩)
theorem Zgx (K e : Nat) : Loc (Zfb K e) := Zac _
theorem Zgy (K : Nat) (u : Value) (e : Nat) : Loc (Zje K u e) := Zb (Zac _) fun _ => Zg _
section
variable {ρ : Env} {B : List Ix}
def ZnB (ρ : Env) (f : FuncId) (K : Nat) (L : Kz) (Q : Nat → World → Ending → World → Prop) : Prop := ∀ c e, (c, 0, e) ∈ L → ∀ (w : World) (v : Value), LsIn K w v (ρ.lst c) → Tryz.prog.globals.size ≤ w.heap.size → Zn.base w → Calls Tryz.prog f ⟨[v]⟩ w fun en w' => Q e w en w' ∧ Below w.heap.size w w'
def ZoY (ρ : Env) (f : FuncId) (K : Nat) (L : Kz) (Q : Nat → World → Ending → World → Prop) : Prop := ∀ c d e, (c, d, e) ∈ L → ∀ (w : World) (v u : Value), LsIn K w v (ρ.lst c) → LsIn K w u (ρ.lst d) → Tryz.prog.globals.size ≤ w.heap.size → Zn.base w → Calls Tryz.prog f ⟨[v, u]⟩ w fun en w' => Q e w en w' ∧ Below w.heap.size w w'
def QO (ρ : Env) (K : Nat) (e : Nat) (w : World) (en : Ending) (w' : World) : Prop := ∃ u, en = .returned u ∧ NewOl K w w' u (ρ.lst e)
def QT (ρ : Env) (K : Nat) (u2 : Value) (e : Nat) (w : World) (en : Ending) (w' : World) : Prop := ∃ u, en = .returned (.tuple ⟨[u, u2]⟩) ∧ NewOl K w w' u (ρ.lst e)
theorem Zjf {K e : Nat} {f : FuncId} {args' : List Value} {h h' : Tr (Blk Sy)} {nx nx' : Nat} {R W : List Nat} {r : Ren} {w : World} {v : Value} (e1 : Zfb K e h nx = .ok v h' nx' R W) (hM : Mod (Zf ρ) r h.get w) (hN : New r nx nx')
  (c : Calls Tryz.prog f ⟨args'⟩ w fun en w' => QO ρ K e w en w' ∧ Below w.heap.size w w') : Calls Tryz.prog f ⟨args'⟩ w fun e w' => ∃ v' r', e = .returned v' ∧ VR r' v v' ∧ Ext (Zf ρ) r w nx nx' W h'.get r' w' :=
 Zk0 (l := .v e) e1 hM hN (c.mono fun en w' hh => by
  obtain ⟨⟨u, q1, q2⟩, q3⟩ := hh
  exact ⟨u, q1, q2, q3⟩)
theorem Zjg {K e : Nat} {u2 : Value} (hp : plain u2 = true) {f : FuncId} {args' : List Value} {h h' : Tr (Blk Sy)} {nx nx' : Nat} {R W : List Nat} {r : Ren} {w : World} {v : Value} (e1 : Zje K u2 e h nx = .ok v h' nx' R W) (hM : Mod (Zf ρ) r h.get w) (hN : New r nx nx')
  (c : Calls Tryz.prog f ⟨args'⟩ w fun en w' => QT ρ K u2 e w en w' ∧ Below w.heap.size w w') : Calls Tryz.prog f ⟨args'⟩ w fun e w' => ∃ v' r', e = .returned v' ∧ VR r' v v' ∧ Ext (Zf ρ) r w nx nx' W h'.get r' w' :=
 Ziq (l := .v e) hp e1 hM hN (c.mono fun en w' hh => by
  obtain ⟨⟨u, q1, q2⟩, q3⟩ := hh
  exact ⟨u, q1, q2, q3⟩)
theorem Zjh (hB : ZD ρ B) {f : FuncId} {K : Nat} {L : Kz} {k : Nat → M Sy Value} {Q : Nat → World → Ending → World → Prop} (hl : ∀ e, Loc (k e)) (hf : ZnB ρ f K L Q)
  (hk : ∀ e (args' : List Value) (h : Tr (Blk Sy)) nx v h' nx' R W r w, k e h nx = .ok v h' nx' R W → Mod (Zf ρ) r h.get w → New r nx nx' → (Calls Tryz.prog f ⟨args'⟩ w fun en w' => Q e w en w' ∧ Below w.heap.size w w') →
   Calls Tryz.prog f ⟨args'⟩ w fun e w' => ∃ v' r', e = .returned v' ∧ VR r' v v' ∧ Ext (Zf ρ) r w nx nx' W h'.get r' w') : Z3 (Zf ρ) Tryz.prog f (unA B K L k) := by
 intro args m hm
 rcases args with _ | ⟨a, _ | ⟨b, l⟩⟩ <;> first | (cases (show none = some m from hm); done) | skip
 cases hm
 refine ⟨Zb (Vp _ _) fun y => ?_, fun h nx v h' nx' R W e r w args' hv hM hN => ?_⟩
 ·(repeat' split) <;> first | exact Za | exact hl _
 cases hv with
 | cons h1 h2 =>
  cases h2
  obtain ⟨y, g1, nx1, R1, W1, R2, W2, e1, e2, rfl, rfl⟩ := Zc e
  obtain ⟨rfl, rfl, rfl, hls⟩ := Uo hB e1 h1 hM
  cases hy : vOf K y with
  | none => rw [hy] at e2; cases (show (fail : M Sy Value) _ _ = _ from e2)
  | some c =>
   rw [hy] at e2; simp only at e2
   cases hc : Zah L c 0 with
   | none => rw [hc] at e2; cases (show (fail : M Sy Value) _ _ = _ from e2)
   | some d =>
    rw [hc] at e2
    obtain rfl := Zd8 hy
    have := hk d _ _ _ _ _ _ _ _ _ _ e2 hM hN (hf c d (Kn hc) w _ hls hM.fits hM.base)
    simp only [List.nil_append]
    exact this
theorem ZnC (hB : ZD ρ B) {f : FuncId} {K : Nat} {L : Kz} {k : Nat → M Sy Value} {Q : Nat → World → Ending → World → Prop} (hl : ∀ e, Loc (k e)) (hf : ZoY ρ f K L Q)
  (hk : ∀ e (args' : List Value) (h : Tr (Blk Sy)) nx v h' nx' R W r w, k e h nx = .ok v h' nx' R W → Mod (Zf ρ) r h.get w → New r nx nx' → (Calls Tryz.prog f ⟨args'⟩ w fun en w' => Q e w en w' ∧ Below w.heap.size w w') →
   Calls Tryz.prog f ⟨args'⟩ w fun e w' => ∃ v' r', e = .returned v' ∧ VR r' v v' ∧ Ext (Zf ρ) r w nx nx' W h'.get r' w') : Z3 (Zf ρ) Tryz.prog f (biA B K L k) := by
 intro args m hm
 rcases args with _ | ⟨a, _ | ⟨b, _ | ⟨z, l⟩⟩⟩ <;> first | (cases (show none = some m from hm); done) | skip
 cases hm
 refine ⟨Zb (Vp _ _) fun y => Zb (Vp _ _) fun z => ?_, fun h nx v h' nx' R W e r w args' hv hM hN => ?_⟩
 ·(repeat' split) <;> first | exact Za | exact hl _
 cases hv with
 | cons h1 hv => cases hv with
  | cons h2 h3 =>
   cases h3
   obtain ⟨y, g1, nx1, R1, W1, R2, W2, e1, e2, rfl, rfl⟩ := Zc e
   obtain ⟨rfl, rfl, rfl, hls⟩ := Uo hB e1 h1 hM
   obtain ⟨z, g3, nx3, R3, W3, R4, W4, e3, e4, rfl, rfl⟩ := Zc e2
   obtain ⟨rfl, rfl, rfl, hls2⟩ := Uo hB e3 h2 hM
   cases hy : vOf K y with
   | none => rw [hy] at e4; cases (show (fail : M Sy Value) _ _ = _ from e4)
   | some c =>
    rw [hy] at e4; simp only at e4
    cases hz : vOf K z with
    | none => rw [hz] at e4; cases (show (fail : M Sy Value) _ _ = _ from e4)
    | some d =>
     rw [hz] at e4; simp only at e4
     cases hc : Zah L c d with
     | none => rw [hc] at e4; cases (show (fail : M Sy Value) _ _ = _ from e4)
     | some g =>
      rw [hc] at e4
      obtain rfl := Zd8 hy
      obtain rfl := Zd8 hz
      have := hk g _ _ _ _ _ _ _ _ _ _ e4 hM hN (hf c d g (Kn hc) w _ _ hls hls2 hM.fits hM.base)
      simp only [List.nil_append]
      exact this
end
noncomputable def roF : Nat := 7
noncomputable def cuF : Nat := 45
noncomputable def Zgz : List Nat := [3, 0, 4]
noncomputable def Zlm (x y : Sl Sy) : List (Sl Sy) := [x, .f (.ls 2 0), y]
noncomputable def ZcE : List (Sl Sy) := Zlm (.p (.slice none 0 0)) (.p (.int .i64 0))
noncomputable def ZoE : List (Sl Sy) := Zlm (.ow (.ol 4 (.v 1) none)) (.f (.ix 2 0))
noncomputable def Zl5 : List (Sl Sy) := Zlm (.ow (.ol 4 (.snoc (.v 1) (.v 2)) none)) (.f (.ix 2 1))
noncomputable def Ko : List (Sl Sy) := Zlm (.ow (.ol 4 (.v 0) none)) (.f (.ix 1 0))
noncomputable def Zln : List Ix := [.ln 0 1, .ln 1 2, .bd 2, .lt 2 0 1 0 true, .el 0 2 0 (.v 2)]
set_option maxHeartbeats 4000000 in
theorem Zji : WU Tryz.prog (Yo false [] Zln noJ) (ZcC false [] Zln 20) 27 20 Yl Zgz ZoE Zl5 (ZL roF 0) = true := by kernel_rfl
noncomputable def ZgA : List Nat := [0, 3]
noncomputable def Uy (x : Sy) : List (Sl Sy) := [.ow (.ol 4 (.v 0) none), .f x]
noncomputable def Zlo : List Ix := [.ln 0 1, .bd 7, .lt 0 0 7 0 true, .lt 7 (-1) 0 0 false, .lt 7 (-1) 1 0 true, .el 0 7 (-1) (.v 3)]
noncomputable def Zlp : List As := [⟨1, .v 3, z0, true⟩]
set_option maxHeartbeats 4000000 in
theorem Zjj : WU Tryz.prog (Yo false Zlp Zlo noJ) (ZcC false Zlp Zlo 20) 22 20 Yl ZgA (Uy (.ix 7 0)) (Uy (.ix 7 (-1))) (ZL cuF 0) = true := by kernel_rfl
noncomputable def roJ : J6 := fun f _ => cond (Nat.beq f roF) (some (Z9 Yl 27 Zgz ZcE Ko)) (cond (Nat.beq f cuF) (some (Z9 Yl 22 ZgA (Uy (.ix 1 0)) (Uy (.ix 6 0)))) none)
noncomputable def ZgB (p s : Bool) : List As := cond p [⟨1, .v 4, z0, false⟩, ⟨3, .v 4, z0, s⟩] []
noncomputable def Zjk (p g : Bool) : List Ix := [.ln 0 1, .bd 6, .lt 1 0 6 0 false, .lt 0 0 6 0 p, .lt 0 33 6 0 g] ++ cond p [.lt 6 (-1) 0 0 false, .lt 6 (-1) 1 0 true, .el 0 6 (-1) (.v 4)] []
noncomputable def fcS (B : List Ix) : Nat × (List Value → Option (M Sy Value)) := (fcF, fun args => match args with
 | [a] => some (bind (Qy B a) fun y => cond (Nat.beq y.1 4 && y.2.beq (.take (.v 0) 6 0)) (Zje 0 (.int .i64 0) 11) fail)
 | _ => none)
theorem ZnD {ρ : Env} {B : List Ix} (hB : ZD ρ B) (hl : (ρ.lst 11).length ≤ 10000) (hq : ∀ q ∈ ρ.lst 11, Fit q) (he : (Le.take (.v 0) 6 0).ev ρ = ρ.lst 11) : Z3 (Zf ρ) Tryz.prog (fcS B).1 (fcS B).2 := by
 intro args m hm
 rcases args with _ | ⟨a, _ | ⟨b, l⟩⟩ <;> first | (cases (show none = some m from hm); done) | skip
 cases hm
 refine ⟨Zb (Vp _ _) fun _ => Ze (Zgy _ _ _) Za, fun h nx v h' nx' R W e r w args' hv hM hN => ?_⟩
 cases hv with
 | cons h1 h2 =>
  cases h2
  obtain ⟨y, g1, nx1, R1, W1, R2, W2, e1, e2, rfl, rfl⟩ := Zc e
  obtain ⟨rfl, rfl, rfl, hls⟩ := Uo hB e1 h1 hM
  obtain ⟨hk, e3⟩ := Zi e2
  simp only [Bool.and_eq_true] at hk
  rw [Nat.eq_of_beq_eq_true hk.1, Le.beq_ok _ _ hk.2, he] at hls
  simp only [List.nil_append]
  refine Zjg rfl e3 hM hN ((Zgw w hq hl hls hM.fits hM.base).mono ?_)
  rintro en w' ⟨y, q1, q2, q3⟩
  exact ⟨⟨y, q1, q2⟩, q3⟩
noncomputable def Zjl (A : List As) (B : List Ix) : WE Sy := Xi (Xj (fcS B :: Zlj A))
noncomputable def Zl6 (p s g : Bool) : Option (D3 Sy) := tells [.ls 2 0] [.one] (call Tryz.prog (Yo false (ZgB p s) (Zjk p g) roJ) (Zjl (ZgB p s) (Zjk p g)) 30 roF)
set_option maxHeartbeats 4000000 in
theorem ZnE (p s : Bool) : Zl6 p s false = some (.one (.one (.ow (.ol 0 (.v 11) none)))) := by cases p <;> cases s <;> kernel_rfl
set_option maxHeartbeats 4000000 in
theorem Zlq (s : Bool) : Zl6 true s true = some (.one (.one (.p (.slice none 0 0)))) := by cases s <;> kernel_rfl
theorem ZnF : ∃ fn c, (Tryz.prog).funcs[roF]? = some fn ∧ fn.body = some c ∧ fn.ntmps = 27 ∧ ZS c = [ZL roF 0] := ⟨_, _, rfl, rfl, rfl, rfl⟩
theorem ZnG : ∃ fn c, (Tryz.prog).funcs[cuF]? = some fn ∧ fn.body = some c ∧ fn.ntmps = 22 ∧ ZS c = [ZL cuF 0] := ⟨_, _, rfl, rfl, rfl, rfl⟩
def roQ (qs : List Rat) (k m : Nat) : Nat → Rat
 | 2 => qs.getD k 0
 | 4 => qs.getD (m - 1) 0
 | _ => 0
theorem Zfc {qs : List Rat} (hq : ∀ q ∈ qs, Fit q) (k m i : Nat) : Fit (roQ qs k m i) := by
 unfold roQ
 split
 ·exact WY hq _
 ·exact WY hq _
 ·exact Un
def ZoF (c k j m : Nat) : Nat → Nat
 | 1 => c
 | 2 => k
 | 6 => m
 | 7 => c - j
 | _ => 0
def ZoG (qs : List Rat) (k m : Nat) : Nat → List Rat
 | 0 => qs
 | 1 => qs.take k
 | 11 => qs.take m
 | _ => []
def XR (qs : List Rat) (hq : ∀ q ∈ qs, Fit q) (lo k j m : Nat) : Env := ⟨roQ qs k m, fun _ => (false, ⟨#[]⟩, ⟨#[]⟩), fun i _ => Zfc hq k m i, fun i => (Zfc hq k m i).sm.up (by decide), fun _ => Wc, lo, ZoG qs k m, ZoF qs.length k j m, rfl⟩
section
variable {qs : List Rat} (hq : ∀ q ∈ qs, Fit q) (lo : Nat) {m : Nat}
theorem ZnH (hl : qs.length ≤ 10000) : X3 (Zf (XR qs hq lo 0 0 m)) Tryz.prog 27 (ZL roF 0) (Z9 Yl 27 Zgz ZcE Ko) := by
 refine @Za6 Sy (Zf (XR qs hq lo 0 0 m)) Tryz.prog Yl YH 27 (ZL roF 0) Zgz ZcE ZoE Zl5 Ko qs.length (fun k => Zf (XR qs hq lo k 0 m)) (fun k => ⟨rfl, rfl, rfl⟩) ?_ rfl rfl rfl ?_ ?_ ?_ ?_
 ·intro w vs h
  obtain ⟨v1, l1, rfl, a1, v2, l2, rfl, a2, v3, l3, rfl, a3, rfl⟩ := h
  rw [show v1 = .slice none 0 0 from a1]; rfl
 ·intro w vs h
  obtain ⟨v1, l1, rfl, a1, v2, l2, rfl, a2, v3, l3, rfl, a3, rfl⟩ := h
  have h1 : v1 = .slice none 0 0 := a1
  subst h1
  refine ⟨_, _, rfl, ⟨⟨none, 0, 0, rfl, Nat.le_refl _, Nat.le_refl _, rfl, fun _ => rfl, fun _ h => (by cases h)⟩, rfl, fun _ h => (by cases h)⟩, v2, _, rfl, a2, v3, _, rfl, ⟨?_, ?_⟩, rfl⟩
  ·rw [show v3 = .int .i64 0 from a3]; rfl
  ·rw [show v3 = .int .i64 0 from a3]; rfl
 ·intro k hk w vs h
  obtain ⟨v1, l1, rfl, a1, v2, l2, rfl, a2, v3, l3, rfl, a3, rfl⟩ := h
  refine ⟨v1, _, rfl, ⟨?_, a1.2⟩, v2, _, rfl, a2, v3, _, rfl, ⟨?_, a3.2⟩, rfl⟩
  ·refine Yq.env (ρ := XR qs hq lo k 0 m) (l' := .v 1) (z' := none) (show Yq _ 4 (.snoc (.v 1) (.v 2)) none w v1 from a1.1) ?_ trivial
   show qs.take (k + 1) = qs.take k ++ [qs.getD k 0]
   rw [List.take_add_one, List.getD_eq_getElem?_getD, List.getElem?_eq_getElem (by omega)]; rfl
  ·have h4 : v3 = .int .i64 (((k : Nat) : Int) + 1) := a3.1
   show v3 = .int .i64 (((k + 1 : Nat) : Int) + 0)
   rw [h4]; congr 1
 ·intro w vs h
  obtain ⟨v1, l1, rfl, a1, v2, l2, rfl, a2, v3, l3, rfl, a3, rfl⟩ := h
  exact ⟨v1, _, rfl, ⟨Yq.env (ρ := XR qs hq lo qs.length 0 m) (l' := .v 0) (z' := none) (show Yq _ 4 (.v 1) none w v1 from a1.1) (show qs = qs.take qs.length by rw [List.take_length]) trivial, a1.2⟩, v2, _, rfl, a2, v3, _, rfl, ⟨a3.1, a3.2⟩, rfl⟩
 ·intro k hk ro d B0 D0 a w hAt
  have hA : Yd (XR qs hq lo k 0 m) [] := fun x hx => by simp at hx
  have hB : ZD (XR qs hq lo k 0 m) Zln := fun x hx => by
   simp only [Zln, List.mem_cons, List.not_mem_nil, or_false] at hx
   rcases hx with rfl | rfl | rfl | rfl | rfl
   ·rfl
   ·show (qs.take k).length = k
    rw [List.length_take]; omega
   ·show k ≤ 10000
    omega
   ·show true = true ↔ ((k : Nat) : Int) + 0 < ((qs.length : Nat) : Int) + 0
    exact ⟨fun _ => by omega, fun _ => rfl⟩
   ·refine ⟨k, ?_, ?_⟩
    ·show ((k : Nat) : Int) = ((k : Nat) : Int) + 0
     omega
    ·show qs[k]? = some (qs.getD k 0)
     rw [List.getD_eq_getElem?_getD, List.getElem?_eq_getElem (by omega)]; rfl
  exact Xx (C := Yo false _ _ noJ) (call := ZcC false _ _ 20) (fuel := 20) (YW hA hB) (Zbl hA hB) rfl (fun y _ m e => by cases e) YH Zji Zf4 hAt
theorem ZnI (hl : qs.length ≤ 10000) (ht : TrimAt qs m) : X3 (Zf (XR qs hq lo 0 0 m)) Tryz.prog 22 (ZL cuF 0) (Z9 Yl 22 ZgA (Uy (.ix 1 0)) (Uy (.ix 6 0))) := by
 have hm := ht.le
 refine @Za7 Sy (Zf (XR qs hq lo 0 0 m)) Tryz.prog Yl YH 22 (ZL cuF 0) ZgA (Uy (.ix 1 0)) (Uy (.ix 7 0)) (Uy (.ix 7 (-1))) (Uy (.ix 6 0)) (qs.length - m) (fun j => Zf (XR qs hq lo 0 j m)) (fun k => ⟨rfl, rfl, rfl⟩) rfl rfl rfl rfl ?_ ?_ ?_ ?_
 ·intro w vs h
  obtain ⟨v1, l1, rfl, a1, v2, l2, rfl, a2, rfl⟩ := h
  refine ⟨v1, _, rfl, a1, v2, _, rfl, ⟨?_, a2.2⟩, rfl⟩
  have h2 : v2 = .int .i64 (((qs.length : Nat) : Int) + 0) := a2.1
  show v2 = .int .i64 (((qs.length - 0 : Nat) : Int) + 0)
  rw [h2]; congr 1
 ·intro j hj w vs h
  obtain ⟨v1, l1, rfl, a1, v2, l2, rfl, a2, rfl⟩ := h
  refine ⟨v1, _, rfl, a1, v2, _, rfl, ⟨?_, a2.2⟩, rfl⟩
  have h2 : v2 = .int .i64 (((qs.length - j : Nat) : Int) + (-1)) := a2.1
  show v2 = .int .i64 (((qs.length - (j + 1) : Nat) : Int) + 0)
  rw [h2]; congr 1; omega
 ·intro w vs h
  obtain ⟨v1, l1, rfl, a1, v2, l2, rfl, a2, rfl⟩ := h
  refine ⟨v1, _, rfl, a1, v2, _, rfl, ⟨?_, a2.2⟩, rfl⟩
  have h2 : v2 = .int .i64 (((qs.length - (qs.length - m) : Nat) : Int) + 0) := a2.1
  show v2 = .int .i64 (((m : Nat) : Int) + 0)
  rw [h2]; congr 1; omega
 ·intro j hj ro d B0 D0 a w hAt
  have hA : Yd (XR qs hq lo 0 j m) Zlp := fun x hx => by
   simp only [Zlp, List.mem_cons, List.not_mem_nil, or_false] at hx
   subst hx
   exact ⟨fun _ => rfl, fun _ => rfl⟩
  have hB : ZD (XR qs hq lo 0 j m) Zlo := fun x hx => by
   simp only [Zlo, List.mem_cons, List.not_mem_nil, or_false] at hx
   rcases hx with rfl | rfl | rfl | rfl | rfl | rfl
   ·rfl
   ·show qs.length - j ≤ 10000
    omega
   ·show true = true ↔ ((0 : Nat) : Int) + 0 < ((qs.length - j : Nat) : Int) + 0
    exact ⟨fun _ => by omega, fun _ => rfl⟩
   ·show false = true ↔ ((qs.length - j : Nat) : Int) + (-1) < ((0 : Nat) : Int) + 0
    exact ⟨fun h => (by cases h), fun h => by omega⟩
   ·show true = true ↔ ((qs.length - j : Nat) : Int) + (-1) < ((qs.length : Nat) : Int) + 0
    exact ⟨fun _ => by omega, fun _ => rfl⟩
   ·refine ⟨qs.length - 1 - j, ?_, ?_⟩
    ·show ((qs.length - 1 - j : Nat) : Int) = ((qs.length - j : Nat) : Int) + (-1)
     omega
    ·exact ht.zero (qs.length - 1 - j) (by omega) (by omega)
  exact Xx (C := Yo false _ _ noJ) (call := ZcC false _ _ 20) (fuel := 20) (YW hA hB) (Zbl hA hB) rfl (fun y _ m e => by cases e) YH Zjj Zf4 hAt
theorem Zjm {A : List As} {B : List Ix} (hl : qs.length ≤ 10000) (ht : TrimAt qs m) : JmpAll (Zf (XR qs hq lo 0 0 m)) Tryz.prog (Yo false A B roJ) := by
 refine ⟨fun f x m e ts => ?_, fun f fn c x m hf hb hx e => ?_⟩
 ·rcases J8 (show cond (Nat.beq f roF) (some (Z9 Yl 27 Zgz ZcE Ko)) (cond (Nat.beq f cuF) (some (Z9 Yl 22 ZgA (Uy (.ix 1 0)) (Uy (.ix 6 0)))) none) = some m from e) with ⟨_, rfl⟩ | ⟨_, e2⟩
  ·exact Xy _ _ _ _ _
  ·rcases J8 e2 with ⟨_, rfl⟩ | ⟨_, e3⟩
   ·exact Xy _ _ _ _ _
   ·cases e3
 ·rcases J8 (show cond (Nat.beq f roF) (some (Z9 Yl 27 Zgz ZcE Ko)) (cond (Nat.beq f cuF) (some (Z9 Yl 22 ZgA (Uy (.ix 1 0)) (Uy (.ix 6 0)))) none) = some m from e) with ⟨h1, rfl⟩ | ⟨_, e2⟩
  ·obtain rfl := Nat.eq_of_beq_eq_true h1
   exact QY ZnF (@ZnH qs hq lo _ hl) hf hb hx
  ·rcases J8 e2 with ⟨h1, rfl⟩ | ⟨_, e3⟩
   ·obtain rfl := Nat.eq_of_beq_eq_true h1
    exact QY ZnG (@ZnI qs hq lo _ hl ht) hf hb hx
   ·cases e3
end
theorem KA (w : World) {qs : List Rat} (hq : ∀ q ∈ qs, Fit q) (hl : qs.length ≤ 10000) {m : Nat} (ht : TrimAt qs m) {v : Value} (hv : LsIn 2 w v qs) (hG : Tryz.prog.globals.size ≤ w.heap.size) (hT : Zn.base w) :
  Calls Tryz.prog roF ⟨[v]⟩ w fun e w' => (∃ u, e = .returned u ∧ (m ≤ 33 → NewOl 0 w w' u (qs.take m)) ∧ (33 < m → u = .slice none 0 0)) ∧ Below w.heap.size w w' := by
 have hm := ht.le
 let E := XR qs hq w.heap.size 0 0 m
 have hu : Yz (Zf E) w [.ls 2 0] [v] := ⟨v, [], rfl, LsIn.ls hv rfl, by obtain ⟨a, m, rfl, _⟩ := hv; rfl, rfl⟩
 obtain ⟨p, hp⟩ : ∃ b : Bool, b = true ↔ 0 < m := ⟨decide (0 < m), by rw [decide_eq_true_iff]⟩
 obtain ⟨g, hg⟩ : ∃ b : Bool, b = true ↔ 33 < m := ⟨decide (33 < m), by rw [decide_eq_true_iff]⟩
 have hA : Yd E (ZgB p (Big.ng (qs.getD (m - 1) 0))) := fun x hx => by
  cases p with
  | false => simp [ZgB] at hx
  | true =>
   simp only [ZgB, cond_true, List.mem_cons, List.not_mem_nil, or_false] at hx
   rcases hx with rfl | rfl
   ·show false = true ↔ qs.getD (m - 1) 0 = 0
    exact ⟨fun h => (by cases h), fun h => absurd h (ht.last (hp.1 rfl))⟩
   ·rfl
 have hB : ZD E (Zjk p g) := fun x hx => by
  unfold Zjk at hx
  rcases List.mem_append.1 hx with hx | hx
  ·simp only [List.mem_cons, List.not_mem_nil, or_false] at hx
   rcases hx with rfl | rfl | rfl | rfl | rfl
   ·rfl
   ·show m ≤ 10000
    omega
   ·show false = true ↔ ((qs.length : Nat) : Int) + 0 < ((m : Nat) : Int) + 0
    exact ⟨fun h => (by cases h), fun h => by omega⟩
   ·show p = true ↔ ((0 : Nat) : Int) + 0 < ((m : Nat) : Int) + 0
    rw [hp]; omega
   ·show g = true ↔ ((0 : Nat) : Int) + 33 < ((m : Nat) : Int) + 0
    rw [hg]; omega
  ·cases p with
   | false => simp at hx
   | true =>
    have h0 := hp.1 rfl
    simp only [cond_true, List.mem_cons, List.not_mem_nil, or_false] at hx
    rcases hx with rfl | rfl | rfl
    ·show false = true ↔ ((m : Nat) : Int) + (-1) < ((0 : Nat) : Int) + 0
     exact ⟨fun h => (by cases h), fun h => by omega⟩
    ·show true = true ↔ ((m : Nat) : Int) + (-1) < ((qs.length : Nat) : Int) + 0
     exact ⟨fun _ => by omega, fun _ => rfl⟩
    ·refine ⟨m - 1, ?_, ?_⟩
     ·show ((m - 1 : Nat) : Int) = ((m : Nat) : Int) + (-1)
      omega
     ·show qs[m - 1]? = some (qs.getD (m - 1) 0)
      rw [List.getD_eq_getElem?_getD, List.getElem?_eq_getElem (by omega)]; rfl
 have hS : SumOK (Zf E) Tryz.prog (Zjl (ZgB p (Big.ng (qs.getD (m - 1) 0))) (Zjk p g)) := YO fun x hx => by
  rcases List.mem_cons.1 hx with rfl | hx
  ·exact ZnD (ρ := E) hB (show (qs.take m).length ≤ 10000 by rw [List.length_take]; omega) (fun q h => hq q (List.mem_of_mem_take h)) rfl
  ·exact Zfa hA x hx
 cases g with
 | false =>
  refine (Ya (YW hA hB) hS (ZnE p _) rfl YT hu hG hT (Nat.le_refl _) (Zjm hq w.heap.size hl ht)).mono ?_
  rintro e w' ⟨v', rfl, h1, hb⟩
  exact ⟨⟨v', rfl, fun _ => J7 (ρ := E) rfl h1 rfl (fun p hp => by cases hp), fun h => absurd (hg.2 h) (by simp)⟩, hb⟩
 | true =>
  have h33 := hg.1 rfl
  obtain rfl : p = true := hp.2 (by omega)
  refine (Ya (YW hA hB) hS (Zlq _) rfl YT hu hG hT (Nat.le_refl _) (Zjm hq w.heap.size hl ht)).mono ?_
  rintro e w' ⟨v', rfl, h1, hb⟩
  have h1' : v' = .slice none 0 0 := h1
  exact ⟨⟨v', rfl, fun h => by omega, fun _ => h1'⟩, hb⟩
noncomputable def woF : Nat := 8
noncomputable def woS : Nat × (List Value → Option (M Sy Value)) := (woF, fun args => match args with
 | [] => some (ret (.bool true))
 | _ => none)
section
variable {ρ : Env} {B : List Ix}
end
end Ev
end Go.Proofs.YtnlhjcfpfapafaaGreatDoor
