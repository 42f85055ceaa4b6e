/- Contracts. -/
import Derived.Test.YtnlhjcfpfapafaaGreatDoorPOq28
import Derived.Test.YtnlhjcfpfapafaaGreatDoorPOq22
import Derived.Test.YtnlhjcfpfapafaaGreatDoorPOq27
import Derived.Test.YtnlhjcfpfapafaaGreatDoorPOq26
namespace Go.Proofs.YtnlhjcfpfapafaaGreatDoor
open Go Go.RowKit
namespace Ev
set_option maxRecDepth 100000
noncomputable def Zld (l : List Value) : M Wf (Bool × Xe) := match l with
 | s :: u :: _ => match s with
  | .bool t => bind (wv u) fun e => ret (t, e)
  | _ => fail
 | _ => fail
noncomputable def Kf (v : Value) : M Wf (Bool × Xe) := match Z6 v with
 | some x => bind (Y6 x.1) fun c => Zld (c.1.drop x.2)
 | none => fail
noncomputable def ZiP (A : List Xs) (b : Bool) (e : Xe) : Option Bool := cond b (match XK A 1 e x0 with
 | some t => some (!t)
 | none => none) (some false)
noncomputable def Znr (s : Bool) (vs : List Value) : List Value := match vs with
 | [u, v] => [.bool s, u, .bool false, v]
 | _ => []
noncomputable def ZiQ (z : Value) (s : Bool) (n d : Xe) : M Wf Value := match Z6 z with
 | some x => cond (Nat.beq x.2 0 && Nat.ble Yy.G x.1) (bind (Y6 x.1) fun c0 => cond (Nat.beq c0.1.length 4 && !ZdU c0.2)
    (bind (ZG [.wd (.quo n (.gcd n d)), .wd (.quo d (.gcd n d))]) fun vs => bind (Y6 x.1) fun c => bind (wr x.1 (.cells (Znr s vs) c.2)) fun _ => ret z) fail) fail
 | none => fail
noncomputable def Kg (A : List Xs) (args : List Value) : Option (M Wf Value) := match args with
 | [z, x, y] => some (bind (Kf x) fun a => bind (Kf y) fun c => cond (Zgb a.2 && Zgb c.2) (match XK A 1 c.2 x0 with
  | some t => cond t fail (match ZiP A (xor a.1 c.1) a.2 with
   | some s => ZiQ z s a.2 c.2
   | none => fail)
  | none => fail) fail)
 | _ => none
theorem ZiR (l : List Value) : Loc (Zld l) := by
 unfold Zld
 (repeat' split) <;> first | exact Za | exact Zb (ZdX _) fun _ => Zg _
theorem Qk (v : Value) : Loc (Kf v) := by
 unfold Kf
 split
 ·exact Zb (WI _) fun _ => ZiR _
 ·exact Za
theorem ZiS (z : Value) (s : Bool) (n d : Xe) : Loc (ZiQ z s n d) := by
 unfold ZiQ
 split
 ·exact Ze (Zb (WI _) fun _ => Ze (Zb (ZC _) fun _ => Zb (WI _) fun _ => Zb (VD _ _) fun _ => Zg _) Za) Za
 ·exact Za
section
variable {ρ : XEnv} {A : List Xs} {h h' : Tr (Blk Wf)} {nx nx' : Nat} {Q W : List Nat} {r : Ren} {w : World}
theorem ZiT {v v' : Value} {b o : Nat} (e : Z6 v = some (b, o)) (hv : VR r v v') : ∃ b', r.blk b = some b' ∧ v' = .pointer (some ⟨b', o, none⟩) ∧ v = .pointer (some ⟨b, o, none⟩) := by
 rw [Xu e] at hv ⊢
 obtain ⟨b2, hb, rfl⟩ := hv.pointer
 exact ⟨b2, hb, rfl, rfl⟩
theorem Kh {v v' : Value} {x : Bool × Xe} (e : Kf v h nx = .ok x h' nx' Q W) (hv : VR r v v') (hM : Mod (YA ρ) r h.get w) :
  h' = h ∧ nx' = nx ∧ W = [] ∧ ∃ b o, v' = .pointer (some ⟨b, o, none⟩) ∧ R.IntAt w b o x.1 (x.2.ev ρ.q) := by
 unfold Kf at e
 cases ha : Z6 v with
 | none => rw [ha] at e; cases (show (fail : M Wf (Bool × Xe)) h nx = _ from e)
 | some y =>
  obtain ⟨b, o⟩ := y
  rw [ha] at e
  obtain ⟨c, h1, nx1, R1, W1, R2, W2, e1, e2, rfl, rfl⟩ := Zc (show bind (Y6 b) (fun c => Zld (c.1.drop o)) h nx = _ from e)
  obtain ⟨hg, rfl, rfl, rfl⟩ := Wp e1
  obtain ⟨b2, hb2, rfl, -⟩ := ZiT ha hv
  obtain ⟨b3, c', hb3, hh, hc, -⟩ := hM.cells _ _ _ hg
  obtain rfl : b3 = b2 := by rw [hb2] at hb3; injection hb3 with e; exact e.symm
  have hd := hc.drop o
  cases hl : c.1.drop o with
  | nil => rw [hl] at e2; cases (show (fail : M Wf (Bool × Xe)) h1 nx1 = _ from e2)
  | cons s l2 =>
   rw [hl] at e2 hd
   cases l2 with
   | nil => cases (show (fail : M Wf (Bool × Xe)) h1 nx1 = _ from e2)
   | cons u l3 =>
    cases s <;> first | (cases (show (fail : M Wf (Bool × Xe)) h1 nx1 = _ from e2); done) | skip
    rename_i t
    obtain ⟨x1, h3, nx3, R3, W3, R4, W4, e3, e4, rfl, rfl⟩ := Zc (show bind (wv u) (fun e => ret (t, e)) h1 nx1 = _ from e2)
    generalize hdd : c'.drop o = d' at hd
    cases hd with
    | cons hs hd2 =>
     cases hd2 with
     | cons hu _ =>
      obtain ⟨rfl, rfl, rfl, hn⟩ := ZiO e3 hu hM
      obtain ⟨rfl, rfl, rfl, rfl⟩ := Zh e4
      have hs' := hs.eq_of_plain rfl
      subst hs'
      refine ⟨rfl, rfl, rfl, b3, o, rfl, R.cell_at hh ?_, _, R.cell_at hh (v := _) ?_, hn⟩
      ·have := congrArg (fun l => l[0]?) hdd
       simpa using this
      ·have := congrArg (fun l => l[1]?) hdd
       simpa using this
theorem ZiU {w : World} {b : Nat} {c : List Value} {t : TypeId} {x y z u : Value} (h : w.heap[b]? = some (.cells ⟨c⟩ t (0, 0))) (hl : c.length = 4) :
  ((((w.setCell ⟨b, 0, none⟩ x).setCell ⟨b, 1, none⟩ y).setCell ⟨b, 2, none⟩ z).setCell ⟨b, 3, none⟩ u).heap = w.heap.setIfInBounds b (.cells ⟨[x, y, z, u]⟩ t (0, 0)) := by
 have hlt := (Array.getElem?_eq_some_iff.1 h).1
 match c, hl with
 | [c0, c1, c2, c3], _ =>
 have s1 := R.set_heap (o := 0) (v := x) h
 have g1 : (w.setCell ⟨b, 0, none⟩ x).heap[b]? = some (.cells ⟨[x, c1, c2, c3]⟩ t (0, 0)) := by rw [s1, Array.getElem?_setIfInBounds_self_of_lt hlt]; rfl
 have s2 := R.set_heap (o := 1) (v := y) g1
 have g2 : ((w.setCell ⟨b, 0, none⟩ x).setCell ⟨b, 1, none⟩ y).heap[b]? = some (.cells ⟨[x, y, c2, c3]⟩ t (0, 0)) := by rw [s2, Array.getElem?_setIfInBounds_self_of_lt (Array.getElem?_eq_some_iff.1 g1).1]; rfl
 have s3 := R.set_heap (o := 2) (v := z) g2
 have g3 : (((w.setCell ⟨b, 0, none⟩ x).setCell ⟨b, 1, none⟩ y).setCell ⟨b, 2, none⟩ z).heap[b]? = some (.cells ⟨[x, y, z, c3]⟩ t (0, 0)) := by rw [s3, Array.getElem?_setIfInBounds_self_of_lt (Array.getElem?_eq_some_iff.1 g2).1]; rfl
 rw [R.set_heap (o := 3) (v := u) g3, s3, s2, s1]
 simp
theorem Zgl (hA : YX ρ A) : Z3 (YA ρ) Tryz.prog 77 (Kg A) := by
 intro args m e
 unfold Kg at e
 rcases args with _ | ⟨z, _ | ⟨x, _ | ⟨y, _ | ⟨c, l⟩⟩⟩⟩ <;> simp only [reduceCtorEq, Option.some.injEq] at e
 subst e
 refine ⟨Zb (Qk x) fun a => Zb (Qk y) fun c => Ze ?_ Za, ?_⟩
 ·split
  ·refine Ze Za ?_
   split
   ·exact ZiS _ _ _ _
   ·exact Za
  ·exact Za
 intro h nx v h' nx' Q W e r w args' ha hM hN
 cases ha with
 | cons hz ha =>
 cases ha with
 | cons hx ha =>
 cases ha with
 | cons hy ha =>
 cases ha
 obtain ⟨a, h1, nx1, R1, W1, R2, W2, e1, e2, rfl, rfl⟩ := Zc e
 obtain ⟨rfl, rfl, rfl, bx, ox, rfl, hax⟩ := Kh e1 hx hM
 obtain ⟨c, h2, nx2, R3, W3, R4, W4, e3, e4, rfl, rfl⟩ := Zc e2
 obtain ⟨rfl, rfl, rfl, by_, oy, rfl, hay⟩ := Kh e3 hy hM
 obtain ⟨hs, e5⟩ := Zi e4
 simp only [Bool.and_eq_true] at hs
 cases h0 : XK A 1 c.2 x0 with
 | none => rw [h0] at e5; cases (show (fail : M Wf Value) _ _ = _ from e5)
 | some t =>
 rw [h0] at e5
 obtain ⟨rfl, e6⟩ := QJ e5
 have hd0 : 0 < c.2.ev ρ.q := by
  have := Va hA h0
  rcases Nat.eq_zero_or_pos (c.2.ev ρ.q) with h | h
  ·exact absurd (this.2 h) (by simp)
  ·exact h
 cases hsg : ZiP A (xor a.1 c.1) a.2 with
 | none => rw [hsg] at e6; cases (show (fail : M Wf Value) _ _ = _ from e6)
 | some s =>
 rw [hsg] at e6
 have hsv : ((a.1 != c.1) && decide (0 < a.2.ev ρ.q)) = s := by
  unfold ZiP at hsg
  have hx : (a.1 != c.1) = xor a.1 c.1 := by cases a.1 <;> cases c.1 <;> rfl
  rw [hx]
  cases hb : xor a.1 c.1 with
  | false => rw [hb] at hsg; cases hsg; rfl
  | true =>
   rw [hb] at hsg
   simp only [cond_true] at hsg
   cases h1 : XK A 1 a.2 x0 with
   | none => rw [h1] at hsg; cases hsg
   | some t =>
    rw [h1] at hsg
    cases hsg
    have := Va hA h1
    rcases Nat.eq_zero_or_pos (a.2.ev ρ.q) with h | h
    ·rw [this.2 h, h]; rfl
    ·have ht : t = false := by
      cases t with
      | false => rfl
      | true => have := this.1 rfl; omega
     rw [ht, decide_eq_true h]; rfl
 have e7 : ZiQ z s a.2 c.2 h2 nx2 = .ok v h' nx' R4 W4 := e6
 unfold ZiQ at e7
 cases haz : Z6 z with
 | none => rw [haz] at e7; cases (show (fail : M Wf Value) _ _ = _ from e7)
 | some y =>
 obtain ⟨zb, zo⟩ := y
 rw [haz] at e7
 obtain ⟨hk, e8⟩ := Zi e7
 simp only [Bool.and_eq_true] at hk
 obtain rfl : zo = 0 := Nat.eq_of_beq_eq_true hk.1
 have hG : Zn.G ≤ zb := Nat.le_of_ble_eq_true hk.2
 obtain ⟨c0, h3, nx3, R5, W5, R6, W6, e9, e10, rfl, rfl⟩ := Zc e8
 obtain ⟨hg0, rfl, rfl, rfl⟩ := Wp e9
 obtain ⟨hl45, e11⟩ := Zi e10
 simp only [Bool.and_eq_true, Bool.not_eq_true'] at hl45
 obtain ⟨hl4, hht⟩ := hl45
 obtain ⟨vs, h5, nx5, R7, W7, R8, W8, e12, e13, rfl, rfl⟩ := Zc e11
 obtain ⟨c1, h6, nx6, R9, W9, R10, W10, e14, e15, rfl, rfl⟩ := Zc e13
 obtain ⟨hg1, rfl, rfl, rfl⟩ := Wp e14
 obtain ⟨u0, h7, nx7, R11, W11, R12, W12, e16, e17, rfl, rfl⟩ := Zc e15
 obtain ⟨rfl, rfl, rfl, rfl⟩ := Zh e17
 unfold wr at e16
 rw [hg1] at e16
 cases e16
 obtain ⟨b2, hb2, rfl, hzv⟩ := ZiT haz hz
 obtain ⟨b3, c', hb3, hh, hc, -⟩ := hM.cells _ _ _ hg0
 obtain rfl : b3 = b2 := by rw [hb2] at hb3; injection hb3 with e; exact e.symm
 have hcl : c'.length = 4 := by rw [hc.length]; exact Nat.eq_of_beq_eq_true hl4
 have hW7 := XE _ e12
 subst hW7
 refine (R.setFrac_any w b3 bx ox by_ oy _ _ a.1 c.1 (R.room_at hh (by omega)) (R.room_at hh (by omega)) hax hay (WZ hs.1) (WZ hs.2) hd0).mono ?_
 rintro en w' ⟨rfl, w1, u, d, hb, hu, hd, rfl⟩
 rw [hsv]
 have hX1 := Xw hM hb nx3
 obtain ⟨hle, r', hX2, hvs⟩ := Z4 (S := YA ρ) _ e12 hX1.mod hN ⟨u, [d], rfl, hu, Xq hu, d, [], rfl, hd, Xq hd, rfl⟩
 obtain ⟨x1, l1, rfl, hx1⟩ : ∃ x y, vs = [x, y] ∧ VsR r' [x, y] [u, d] := by
  have hlen := hvs.length
  match vs, hvs, hlen with
  | [x, y], hvs, _ => exact ⟨x, y, rfl, hvs⟩
 cases hx1 with
 | cons k1 k2 =>
 cases k2 with
 | cons k2 _ =>
 have hw1 : w1.heap[b3]? = some (.cells ⟨c'⟩ c0.2 (0, 0)) := (hb.block b3 (Array.getElem?_eq_some_iff.1 hh).1).trans hh
 obtain ⟨b4, c4, hb4, hh4, hc4, ht4⟩ := hX2.mod.cells _ _ _ hg1
 have hb3' := hX2.le.blk _ _ hb2
 obtain rfl : b4 = b3 := by rw [hb3'] at hb4; injection hb4 with e; exact e.symm
 have hty : c1.2 = c0.2 := by
  rw [hw1] at hh4
  simp only [Option.some.injEq, Obj.cells.injEq] at hh4
  exact hh4.2.1.symm
 have hc44 : c4 = c' := by
  have q := hh4
  rw [hw1] at q
  simp only [Option.some.injEq, Obj.cells.injEq] at q
  have q1 := q.1
  injection q1 with e
  exact e.symm
 have hl4' : c4.length = 4 := by rw [hc44]; exact hcl
 have hne : c1.1 ≠ [] := fun q => by have q2 := hc4.length; rw [q, hl4'] at q2; simp at q2
 have hX3 := Zeg (nx := nx') (y := .cells (Znr s [x1, l1]) c1.2) (d := Znr s [x1, l1]) (d' := [.bool s, u, .bool false, d]) hX2.mod hg1 hb3' (.inl ⟨rfl, rfl, .cons (.same rfl) (.cons k1 (.cons (.same rfl) (.cons k2 .nil)))⟩) hne hh4 (by rw [hl4']; rfl) hG (by show ZdU c1.2 = false; rw [hty]; exact hht)
  (w' := (((w1.setCell ⟨b4, 0, none⟩ (.bool s)).setCell ⟨b4, 1, none⟩ u).setCell ⟨b4, 2, none⟩ (.bool false)).setCell ⟨b4, 3, none⟩ d) (by rw [hty]; exact ZiU hw1 hcl) rfl rfl rfl
 have hX := (hX1.trans hX2 (Nat.le_refl _) hle).trans hX3 hle (Nat.le_refl _)
 refine ⟨_, r', rfl, ?_, by simpa using hX.congr fun n => .inr (Tr.get_set _ _ _ _)⟩
 rw [hzv]
 exact .ptr hb3'
end
noncomputable def ZiV (A : List Xs) : Cfg Wf where
 hid _ := ZdU
 G := Yy.G
 tab := Yy.tab
 glob := Yy.glob
 len _ := none
 hard := Zcq A
instance wCfgHard (A : List Xs) : HardLoc (ZiV A) := ⟨fun o vs => Zgi A o vs⟩
theorem ZiW {ρ : XEnv} {A : List Xs} (hA : YX ρ A) : Fits (YA ρ) Tryz.prog (ZiV A) where
 hid := rfl
 G := rfl
 len := fun f n w v _ e => by cases e
 tab := Y7.tab
 glob := Y7.glob
 mixed := Y7.mixed
 hard := ZiJ hA rfl
noncomputable def Ze7 (A : List Xs) : List (Nat × (List Value → Option (M Wf Value))) := [
 (125, fun args => w2 args fun x y => QH (.mul x y)),
 (126, fun args => w2 args fun x y => QH (.add x y)),
 (110, fun args => w2 args fun x y => QH (.gcd x y)),
 (127, fun args => w2 args (ZiK A)),
 (111, fun args => w2 args (ZiL A)),
 (77, Kg A)]
theorem Zcv {ρ : XEnv} {A : List Xs} (hA : YX ρ A) : ∀ x ∈ Ze7 A, Z3 (YA ρ) Tryz.prog x.1 x.2 := by
 intro x hx
 simp only [Ze7, List.mem_cons, List.not_mem_nil, or_false] at hx
 rcases hx with rfl | rfl | rfl | rfl | rfl | rfl
 ·exact Zov
 ·exact Zow
 ·exact Zox
 ·exact Zoy hA
 ·exact Zoz hA
 ·exact Zgl hA
noncomputable def Zl1 (A : List Xs) : WE Wf := Xi (Xj (Ze7 A))
theorem ZiX {ρ : XEnv} {A : List Xs} (hA : YX ρ A) : SumOK (YA ρ) Tryz.prog (Zl1 A) := YO (Zcv hA)
noncomputable def XW (s : Bool) (e : Xe) : M Wf Value := bind (Zo (.wd e)) fun u => bind (fresh (.cells [.bool s, u] 92)) fun n => ret (Xk n 0)
theorem VT (s : Bool) (e : Xe) : Loc (XW s e) := Zb (Zp _) fun _ => Zb (ZX _) fun _ => Zg _
noncomputable def Zbj (args : List Value) : Option (M Wf Value) := match args with
 | [a] => some (bind (fact a) fun f => match f with
  | .st e => bind (XW false e) fun p => ret (.tuple ⟨[p, .bool true]⟩)
  | .sb => ret (.tuple ⟨[.pointer none, .bool false]⟩)
  | _ => fail)
 | _ => none
noncomputable def Ux (a : Value) : M Wf Value := bind (fact a) fun f => match f with
 | .iv s e => XW s e
 | _ => fail
noncomputable def Q0 (a : Value) : M Wf Value := match a with
 | .int k m => match k with
  | .i64 => match m with
   | .ofNat j => cond (Nat.ble j 1000000) (XW false (.c j)) fail
   | .negSucc j => cond (Nat.ble j 1000000) (XW true (.c (Nat.succ j))) fail
  | _ => fail
 | _ => Ux a
noncomputable def Zbk (args : List Value) : Option (M Wf Value) := match args with
 | [a] => some (Q0 a)
 | _ => none
theorem Zcw (a : Value) : Loc (Ux a) := by
 unfold Ux
 refine Zb (ZA a) fun f => ?_
 split
 ·exact VT _ _
 ·exact Za
theorem Zcx (a : Value) : Loc (Q0 a) := by
 unfold Q0
 (repeat' split) <;> first | exact Ze (VT _ _) Za | exact Za | exact Zcw _
noncomputable def ZdZ (args : List Value) : Option (M Wf Value) := match args with
 | [a] => some (bind (Kf a) fun x => cond (Zgb x.2) (Zo (.by_ x.2)) fail)
 | _ => none
section
variable {ρ : XEnv} {A : List Xs} {h h' : Tr (Blk Wf)} {nx nx' : Nat} {Q W : List Nat} {r : Ren} {w w' : World}
theorem ZiY {F : Type} {S : Sig F} {r : Ren} {g : Nat → Option (Blk F)} {w : World} (hM : Mod S r g w) : Mod S r (fun _ => none) w := hM.congr fun _ => .inl rfl
theorem Ql {s : Bool} {e0 : Xe} {v : Value} {b : Nat} (e : XW s e0 h nx = .ok v h' nx' Q W) (hM : Mod (YA ρ) r h.get w) (hN : New r nx nx') (hI : R.NewI w b s (e0.ev ρ.q) w') :
  ∃ r', VR r' v (.pointer (some ⟨b, 0, none⟩)) ∧ Ext (YA ρ) r w nx nx' W h'.get r' w' := by
 obtain ⟨hge, ⟨u, hc, hu⟩, hb⟩ := hI
 unfold XW at e
 obtain ⟨u0, h1, nx1, R1, W1, R2, W2, e1, e2, rfl, rfl⟩ := Zc e
 obtain ⟨i, h2, nx2, R3, W3, R4, W4, e3, e4, rfl, rfl⟩ := Zc e1
 obtain ⟨rfl, rfl, rfl, rfl⟩ := Zh e4
 unfold fresh at e3
 cases e3
 obtain ⟨n, h3, nx3, R5, W5, R6, W6, e5, e6, rfl, rfl⟩ := Zc e2
 obtain ⟨rfl, rfl, rfl, rfl⟩ := Zh e6
 unfold fresh at e5
 cases e5
 obtain ⟨r1, hX, hr, hbl⟩ := Zgj (S := YA ρ) (f := .wd e0) hM hb (hN.sub (Nat.le_refl _) (by omega)) hu (Xq hu)
 obtain ⟨r2, hY, hr2⟩ := Zgk (c := [.bool s, .chan (some nx)]) (ZiY hM) hX hbl (New.after hN hX (by omega)) (by omega) hge hc (.cons (.same rfl) (.cons (.opq hr (Xq hu)) .nil)) (by kernel_rfl)
 refine ⟨r2, .ptr hr2, ?_⟩
 have := hY.congr (g' := ((h.set nx (.fact (.wd e0))).set (nx + 1) (.cells [.bool s, .chan (some nx)] 92)).get) fun n => .inr (by
  rw [Tr.get_set]
  by_cases hn : n = nx + 1
  ·rw [if_pos hn, if_pos hn]
  ·rw [if_neg hn, if_neg hn]; exact Tr.get_set _ _ _ _)
 simpa using this
theorem Zd0 {f0 : Wf} {f : FuncId} {args' : List Value} {v : Value} (e : (Zo f0 : M Wf Value) h nx = .ok v h' nx' Q W) (hM : Mod (YA ρ) r h.get w) (hN : New r nx nx')
  (c : Calls Tryz.prog f ⟨args'⟩ w fun e w' => ∃ v', e = .returned v' ∧ f0.holds ρ w' v' ∧ Below w.heap.size w w') : Uv ρ f args' r w nx nx' W h'.get v := by
 obtain ⟨i, h1, nx1, R1, W1, R2, W2, e1, e2, rfl, rfl⟩ := Zc e
 obtain ⟨rfl, rfl, rfl, rfl⟩ := Zh e2
 unfold fresh at e1
 cases e1
 refine c.mono ?_
 rintro en w' ⟨v', rfl, hv, hb⟩
 obtain ⟨r', hX, hr⟩ := YF (S := YA ρ) (f := f0) hM hb hN hv (Wf.one hv)
 exact ⟨v', r', rfl, .opq hr (Wf.one hv), by simpa using hX.congr fun n => .inr (Tr.get_set _ _ _ _)⟩
theorem ZiZ : Z3 (YA ρ) Tryz.prog 71 Zbj := by
 intro args m e
 unfold Zbj at e
 rcases args with _ | ⟨a, _ | ⟨c, l⟩⟩ <;> simp only [reduceCtorEq, Option.some.injEq] at e
 subst e
 refine ⟨Zb (ZA a) fun f => ?_, ?_⟩
 ·split
  ·exact Zb (VT _ _) fun _ => Zg _
  ·exact Zg _
  ·exact Za
 intro h nx v h' nx' Q W e r w args' ha hM hN
 cases ha with
 | cons ha hb =>
 cases hb
 obtain ⟨f, h1, nx1, R1, W1, R2, W2, e1, e2, rfl, rfl⟩ := Zc e
 obtain ⟨rfl, rfl, rfl, hh⟩ := ZB e1 ha hM
 cases f with
 | st e0 =>
  obtain ⟨rfl, hsz⟩ : _ ∧ _ := hh
  obtain ⟨p, h3, nx3, R5, W5, R6, W6, e5, e6, rfl, rfl⟩ := Zc (show (bind (XW false e0) (fun p => ret (Value.tuple ⟨[p, .bool true]⟩)) : M Wf Value) h1 nx1 = .ok v h' nx' R2 W2 from e2)
  obtain ⟨rfl, rfl, rfl, rfl⟩ := Zh e6
  refine (R.number_ok w (e0.ev ρ.q) hsz).mono ?_
  rintro en w' ⟨b, rfl, hI⟩
  obtain ⟨r', hp, hX⟩ := Ql e5 hM hN hI
  exact ⟨_, r', rfl, .tuple (.cons hp (.cons (.same rfl) .nil)), by simpa using hX⟩
 | sb =>
  obtain ⟨s, rfl, hs⟩ := hh
  have e3 : (ret (.tuple ⟨[.pointer none, .bool false]⟩) : M Wf Value) h1 nx1 = .ok v h' nx' R2 W2 := e2
  simpa using Xr e3 rfl hM ((R.number_bad w s hs).mono fun e w' hh => ⟨hh.1, hh.2 ▸ Below.refl _ w⟩)
 | _ => cases (show (fail : M Wf Value) h1 nx1 = _ from e2)
theorem Zi0 : Z3 (YA ρ) Tryz.prog 75 Zbk := by
 intro args m e
 unfold Zbk at e
 rcases args with _ | ⟨a, _ | ⟨c, l⟩⟩ <;> simp only [reduceCtorEq, Option.some.injEq] at e
 subst e
 refine ⟨Zcx a, ?_⟩
 intro h nx v h' nx' Q W e r w args' ha hM hN
 cases ha with
 | cons ha hb =>
 cases hb
 have key : ∀ (s : Bool) (e0 : Xe) (a' : Value), a' = .int .i64 (Big.sI s (e0.ev ρ.q)) → (s = true → 0 < e0.ev ρ.q) → e0.ev ρ.q ≤ 9223372036854775808 → (s = false → e0.ev ρ.q < 9223372036854775808) → XW s e0 h nx = .ok v h' nx' Q W → Uv ρ 75 [a'] r w nx nx' W h'.get v := by
  rintro s e0 _ rfl h1 h2 h3 e1
  refine (R.newInt_any w s (e0.ev ρ.q) h1 h2 h3).mono ?_
  rintro en w' ⟨b, rfl, hI⟩
  obtain ⟨r', hp, hX⟩ := Ql (e0 := e0) e1 hM hN hI
  exact ⟨_, r', rfl, hp, hX⟩
 have fin : ∀ a', VR r a a' → Ux a h nx = .ok v h' nx' Q W → Uv ρ 75 [a'] r w nx nx' W h'.get v := by
  intro a' ha' e1
  unfold Ux at e1
  obtain ⟨f, h1, nx1, R1, W1, R2, W2, e2, e3, rfl, rfl⟩ := Zc e1
  obtain ⟨rfl, rfl, rfl, hh⟩ := ZB e2 ha' hM
  cases f with
  | iv s e0 =>
   obtain ⟨rfl, k1, k2, k3⟩ : _ ∧ _ := hh
   have e4 : XW s e0 h1 nx1 = .ok v h' nx' R2 W2 := e3
   refine (R.newInt_any w s (e0.ev ρ.q) k1 k2 k3).mono ?_
   rintro en w' ⟨b, rfl, hI⟩
   obtain ⟨r', hp, hX⟩ := Ql (e0 := e0) e4 hM hN hI
   exact ⟨_, r', rfl, hp, hX⟩
  | _ => cases (show (fail : M Wf Value) h1 nx1 = _ from e3)
 unfold Q0 at e
 split at e
 ·rename_i k z
  split at e
  ·rename_i z2
   split at e
   ·rename_i z3 j
    obtain ⟨hk, e1⟩ := Zi e
    have hk2 := Nat.le_of_ble_eq_true hk
    exact key false (.c j) _ (by rw [ha.eq_of_plain rfl]; rfl) (fun h => by cases h) (by show j ≤ _; omega) (fun _ => by show j < _; omega) e1
   ·rename_i z3 j
    obtain ⟨hk, e1⟩ := Zi e
    have hk2 := Nat.le_of_ble_eq_true hk
    exact key true (.c (Nat.succ j)) _ (by rw [ha.eq_of_plain rfl]; rfl) (fun _ => Nat.succ_pos j) (by show j + 1 ≤ _; omega) (fun h => by cases h) e1
  ·cases (show (fail : M Wf Value) h nx = _ from e)
 ·exact fin _ ha e
theorem Zle : Z3 (YA ρ) Tryz.prog 148 ZdZ := by
 intro args m e
 unfold ZdZ at e
 rcases args with _ | ⟨a, _ | ⟨c, l⟩⟩ <;> simp only [reduceCtorEq, Option.some.injEq] at e
 subst e
 refine ⟨Zb (Qk a) fun f => Ze (Zp _) Za, ?_⟩
 intro h nx v h' nx' Q W e r w args' ha hM hN
 cases ha with
 | cons ha hb =>
 cases hb
 obtain ⟨x, h1, nx1, R1, W1, R2, W2, e1, e2, rfl, rfl⟩ := Zc e
 obtain ⟨rfl, rfl, rfl, b, o, rfl, hI⟩ := Kh e1 ha hM
 obtain ⟨hk, e3⟩ := Zi e2
 simpa [Uv] using Zd0 e3 hM hN (R.bytes_any w b o _ _ hI (WZ hk))
end
noncomputable def Zi1 (A : List Xs) : List (Nat × (List Value → Option (M Wf Value))) := (71, Zbj) :: (75, Zbk) :: (148, ZdZ) :: Ze7 A
theorem Zgm {ρ : XEnv} {A : List Xs} (hA : YX ρ A) : ∀ x ∈ Zi1 A, Z3 (YA ρ) Tryz.prog x.1 x.2 := by
 intro x hx
 rcases List.mem_cons.1 hx with rfl | hx
 ·exact ZiZ
 rcases List.mem_cons.1 hx with rfl | hx
 ·exact Zi0
 rcases List.mem_cons.1 hx with rfl | hx
 ·exact Zle
 ·exact Zcv hA x hx
noncomputable def Zd1 (A : List Xs) : WE Wf := Xi (Xj (Zi1 A))
theorem Zaf {ρ : XEnv} {A : List Xs} (hA : YX ρ A) : SumOK (YA ρ) Tryz.prog (Zd1 A) := YO (Zgm hA)
noncomputable def Zi2 (s : Bool) (n d : Xe) : BL Wf := ⟨94, [.wd n, .wd d], [.p (.bool s), .one, .p (.bool false), .one]⟩
noncomputable def ZoT (A : List Xs) (bl : List (BL Wf)) (is : List Nat) (f : FuncId) : Option (E3 Wf) := Kd bl [] (fun ps _ => sel is ps) (call Tryz.prog (ZiV A) (Zl1 A) 60 f)
noncomputable def ZoA (s : Bool) (n d : Xe) : E3 Wf := .one (.b 94 [.p (.bool s), .f (.wd (.quo n (.gcd n d))), .p (.bool false), .f (.wd (.quo d (.gcd n d)))])
noncomputable def ZoU (n : Int) : E3 Wf := .one (.d (.one (.p (.int .i64 n))))
noncomputable def x1 : Xe := .v 1
noncomputable def x2 : Xe := .v 2
noncomputable def x3 : Xe := .v 3
noncomputable def xv : Xe := .v 0
section
variable (a b c d : Xe)
end
theorem Zgn (s n : Bool) : ZoT [⟨1, xv, x0, n⟩] [Zi2 s xv x1] [0] 54 = some (ZoU (cond n 0 (cond s (-1) 1))) := by
 cases s <;> cases n <;> kernel_rfl
def RB (q : Rat) : Prop := Bits 262144 (Big.nu q) ∧ Bits 262144 (Big.de q)
theorem Zgo (k : Nat) : Bits k 0 := ⟨Nat.two_pow_pos k⟩
def Zns (l : List Nat) (h : ∀ n ∈ l, Bits 262144 n) : XEnv := ⟨fun i => l.getD i 0, fun i => by
 rcases Nat.lt_or_ge i l.length with h1 | h1
 ·simp only [List.getD, List.getElem?_eq_getElem h1, Option.getD_some]; exact h _ (List.getElem_mem h1)
 ·simp only [List.getD, List.getElem?_eq_none h1, Option.getD_none]; exact Zgo _⟩
theorem Zcy {ρ : XEnv} {w : World} {b : Nat} {s : Bool} {n d : Xe} {u v : Value} (hb : w.heap[b]? = some (.cells ⟨[.bool s, u, .bool false, v]⟩ 94 (0, 0))) (hu : R.Nin w u (n.ev ρ.q)) (hv : R.Nin w v (d.ev ρ.q)) :
  ∃ us, Yz (YA ρ) w (Zi2 s n d).fs us ∧ w.heap[b]? = some (.cells ⟨split (Zi2 s n d).ls us⟩ (Zi2 s n d).t (0, 0)) :=
 ⟨[u, v], ⟨u, [v], rfl, hu, Xq hu, v, [], rfl, hv, Xq hv, rfl⟩, hb⟩
structure OutOK (ρ : XEnv) (s : Bool) (n d : Xe) (z : Rat) : Prop where
 d0 : 0 < d.ev ρ.q
 n0 : s = true → 0 < n.ev ρ.q
 eq : z = mkRat (Big.sI s (n.ev ρ.q)) (d.ev ρ.q)
theorem Zd2 {ρ : XEnv} {s : Bool} {n d : Xe} {z : Rat} (h : OutOK ρ s n d z) : Big.ng z = s ∧ Big.nu z = n.ev ρ.q / Nat.gcd (n.ev ρ.q) (d.ev ρ.q) ∧ Big.de z = d.ev ρ.q / Nat.gcd (n.ev ρ.q) (d.ev ρ.q) := by
 obtain ⟨h1, h2, h3⟩ := Big.of_parts s (n.ev ρ.q) (d.ev ρ.q) h.d0
 rw [h.eq]
 refine ⟨?_, h2, h3⟩
 rw [h1]
 cases s with
 | false => rfl
 | true =>
  have := h.n0 rfl
  rw [decide_eq_true (Nat.div_pos (Nat.le_of_dvd this (Nat.gcd_dvd_left _ _)) (Nat.gcd_pos_of_pos_right _ h.d0))]; rfl
theorem Zlf {ρ : XEnv} {lo : Nat} {bs : List Nat} {w : World} {v : Value} {s : Bool} {n d : Xe} {z : Rat} (h : (ZoA s n d).is (YA ρ) lo bs w v) (hz : OutOK ρ s n d z) (hlo : Tryz.prog.globals.size ≤ lo) : WS w v z := by
 obtain ⟨b, vs, rfl, hb, hh, v1, l1, rfl, h1, v2, l2, rfl, h2, v3, l3, rfl, h3, v4, l4, rfl, h4, h5⟩ := h
 obtain rfl : l4 = [] := h5
 obtain rfl : v1 = .bool s := h1
 obtain rfl : v3 = .bool false := h3
 obtain ⟨p1, p2, p3⟩ := Zd2 hz
 refine ⟨b, rfl, Nat.le_trans hlo hb, v2, v4, by rw [p1]; exact hh, ?_, ?_⟩
 ·rw [p2]; exact h2
 ·rw [p3]; exact h4
def ZoV (w : World) (z : Rat) (e : Ending) (w' : World) : Prop := ∃ v, e = .returned v ∧ WS w' v z ∧ Below w.heap.size w w'
theorem de_pos (q : Rat) : 0 < Big.de q := Nat.pos_of_ne_zero q.den_nz
theorem Ki (ρ : XEnv) : YX ρ [] := fun x hx => by cases hx
theorem Y5 {ρ : XEnv} {x : Xs} {A : List Xs} (h : x.holds ρ.q) (i : YX ρ A) : YX ρ (x :: A) := fun y hy => by
 rcases List.mem_cons.1 hy with rfl | hy
 ·exact h
 ·exact i y hy
theorem sI_mul (s : Bool) (a d : Nat) : Big.sI s a * (d : Int) = Big.sI s (a * d) := by
 cases s <;> simp [Big.sI, Int.neg_mul]
theorem Kj {ρ : Nat → Nat} {a : Xe} {t : Bool} (h : t = true ↔ a.ev ρ = 0) : (⟨1, a, x0, t⟩ : Xs).holds ρ := h
theorem Zi3 {ρ : Nat → Nat} {a : Xe} {t : Bool} (h : t = true ↔ 512 < szN (a.ev ρ)) : (⟨4, a, x0, t⟩ : Xs).holds ρ := h
section
variable {ρ : XEnv} {a b c d : Xe}
theorem Kk {n : Nat} (h : 0 < n) : (false = true ↔ n = 0) := ⟨fun h => (by cases h), fun h => (by omega)⟩
end
section
variable {w : World} {x y : Value} {p q : Rat}
theorem Zlg (s t : Bool) (a c : Nat) : Big.sI s a * Big.sI t c = Big.sI (xor s t) (a * c) := by
 cases s <;> cases t <;> simp [Big.sI, Int.neg_mul, Int.mul_neg]
theorem Zlh (s t : Bool) (n : Nat) (h : n ≠ 0 → s = t) : Big.sI s n = Big.sI t n := by
 rcases Nat.eq_zero_or_pos n with h0 | h0
 ·subst h0; cases s <;> cases t <;> rfl
 ·rw [h (by omega)]
theorem Znt (p q : Rat) (hq : q ≠ 0) : p / q = mkRat (Big.sI (xor (Big.ng p) (Big.ng q)) (Big.nu p * Big.de q)) (Big.de p * Big.nu q) := by
 have h0 : Big.nu q ≠ 0 := fun h => hq (Big.nu_zero.1 h)
 obtain ⟨i1, i2, i3⟩ := Big.inv_parts q h0
 rw [Rat.div_def]
 conv => lhs; rw [Big.is_mk p, Big.is_mk q⁻¹, i1, i2, i3]
 rw [Rat.mkRat_mul_mkRat, Zlg]
end
noncomputable def Zi4 (n l m : Bool) : List Xs := [⟨1, xv, x0, n⟩, ⟨1, x1, x0, false⟩, ⟨4, xv, x0, l⟩, ⟨4, x1, x0, m⟩]
noncomputable def Zl2 (s n l m : Bool) : E3 Wf := cond (l || m) (.tuple [.d (.agg [.p (.bool false), .p (.string ⟨#[]⟩), .p (.string ⟨#[]⟩)]), .d (.one (.p (.int .i64 3)))])
 (.tuple [.d (.agg [.p (.bool (s && !n)), .f (.sx xv), .f (.sx x1)]), .d (.one (.p (.int .i64 0)))])
theorem Zi5 (s n l m : Bool) : Kd [Zi2 s xv x1] [] (fun ps _ => sel [0] ps) (call Tryz.prog (ZiV (Zi4 n l m)) (Zd1 (Zi4 n l m)) 60 82) = some (Zl2 s n l m) := by
 cases s <;> cases n <;> cases l <;> cases m <;> kernel_rfl
noncomputable def ZoW : Cfg Sy := ZdB (fun _ _ => fail)
instance symCHard : HardLoc ZoW := ⟨fun _ _ => Za⟩
noncomputable def frs (e : Qe) : List Sy := [.ng e, .fn e, .fd e]
noncomputable def rws (i : Nat) : List Sy := [.rg i, .rn i, .rd i]
noncomputable def inp (b : Bool) (i : Nat) : List Sy := cond b (frs (.v i)) (rws i)
noncomputable def Zo5 (a b c d : Bool) : List Sy := inp a 0 ++ (inp b 1 ++ (inp c 2 ++ inp d 3))
noncomputable def v0 : Qe := .v 0
noncomputable def v1 : Qe := .v 1
noncomputable def v2 : Qe := .v 2
noncomputable def v3 : Qe := .v 3
noncomputable def fits (e f : Qe) (s t : Bool) : List As := [⟨0, e, z0, s⟩, ⟨0, f, z0, t⟩]
set_option maxRecDepth 100000
abbrev Tri := Bool × ByteArray × ByteArray
def tri (q : Rat) : Tri := (Big.ng q, bst (Big.nu q), bst (Big.de q))
def cel (x : Tri) : List Value := [.bool x.1, .string x.2.1, .string x.2.2]
section
variable {ρ : Env} {w : World} {v : Value}
end
def pick {α : Type} (a b c d : α) : Nat → α
 | 0 => a
 | 1 => b
 | 2 => c
 | _ => d
structure In4 (x y z u : Tri) where
 ρ : Env
 lo0 : ρ.lo = 0
 a : Bool
 b : Bool
 c : Bool
 d : Bool
 hx : (a = true → x = tri (ρ.q 0)) ∧ (a = false → x = ρ.raw 0)
 hy : (b = true → y = tri (ρ.q 1)) ∧ (b = false → y = ρ.raw 1)
 hz : (c = true → z = tri (ρ.q 2)) ∧ (c = false → z = ρ.raw 2)
 hu : (d = true → u = tri (ρ.q 3)) ∧ (d = false → u = ρ.raw 3)
theorem tri_inj {p q : Rat} (h : tri p = tri q) : p = q := by
 unfold tri at h
 simp only [Prod.mk.injEq] at h
 exact Big.parts_eq h.1 (QQ h.2.1) (QQ h.2.2)
theorem not_bad {q : Rat} (h : Fit q) : ¬ ZfQ (tri q) := fun hb => hb q h ⟨rfl, rfl, rfl⟩
theorem Ze8 {k n : Nat} (h : Sz k n) : Bits (64 * k) n := ⟨by
 have := h.out
 rw [show Big.M64 = 2 ^ 64 from rfl, ← Nat.pow_mul] at this
 exact this⟩
theorem Zli {k : Nat} {q : Rat} (h : Sm k q) (hk : k ≤ 4096) : RB q := ⟨(Ze8 h.nu).up (by omega), (Ze8 h.de).up (by omega)⟩
theorem Kl : Tryz.prog.globals.size ≤ 100000 := Nat.le_of_ble_eq_true (by kernel_rfl)
section
variable {w : World}
def Znu (w : World) (q : Rat) (e : Ending) (w' : World) : Prop :=
 (Fit q ∧ e = .returned (.tuple ⟨[.agg ⟨cel (tri q)⟩, .int .i64 0]⟩) ∨ ¬ Fit q ∧ e = .returned (.tuple ⟨[.agg ⟨[.bool false, .string ⟨#[]⟩, .string ⟨#[]⟩]⟩, .int .i64 3]⟩)) ∧ Below w.heap.size w w'
theorem Zi6 {v : Value} {q : Rat} (hv : WS w v q) (hq : RB q) (hG : Tryz.prog.globals.size ≤ w.heap.size) (hT : Tab w) : Calls Tryz.prog 82 ⟨[v]⟩ w (Znu w q) := by
 obtain ⟨b, rfl, g, u, d, hb, hu, hd⟩ := hv
 obtain ⟨ρ, e0, e1⟩ : ∃ ρ : XEnv, ρ.q 0 = Big.nu q ∧ ρ.q 1 = Big.de q := ⟨Zns [Big.nu q, Big.de q] (by intro n hn; simp only [List.mem_cons, List.not_mem_nil, or_false] at hn; rcases hn with rfl | rfl; exact hq.1; exact hq.2), rfl, rfl⟩
 rw [← e0] at hu
 rw [← e1] at hd
 have hA : YX ρ (Zi4 (decide (Big.nu q = 0)) (decide (512 < szN (Big.nu q))) (decide (512 < szN (Big.de q)))) := by
  refine Y5 (Kj ?_) (Y5 (Kj (Kk (by show 0 < ρ.q 1; rw [e1]; exact de_pos q))) (Y5 (Zi3 ?_) (Y5 (Zi3 ?_) (Ki ρ))))
  ·rw [decide_eq_true_iff, ← e0]; rfl
  ·rw [decide_eq_true_iff, ← e0]; rfl
  ·rw [decide_eq_true_iff, ← e1]; rfl
 refine (Wz (ZiW hA) (Zaf hA) (Zi5 (Big.ng q) _ _ _) (fun _ _ _ _ _ hp _ => ZdY hp _) (by kernel_rfl) Kl (bs := [b]) (us := []) ⟨b, [], rfl, Zcy (n := xv) (d := x1) hb hu hd, by simp, g, rfl⟩ rfl hG hT).mono ?_
 rintro e w' ⟨x, rfl, hx, hbl⟩
 have hs : (Big.ng q && !decide (Big.nu q = 0)) = Big.ng q := by
  cases hn : Big.ng q with
  | false => rfl
  | true =>
   by_cases h0 : Big.nu q = 0
   ·rw [Big.nu_zero.1 h0] at hn; cases hn
   ·rw [decide_eq_false h0]; rfl
 unfold Zl2 at hx
 rw [hs] at hx
 cases hl : (decide (512 < szN (Big.nu q)) || decide (512 < szN (Big.de q))) with
 | true =>
  rw [hl] at hx
  obtain ⟨vs, rfl, v1, l1, rfl, ⟨us, rfl, y1, m1, rfl, k1, y2, m2, rfl, k2, y3, m3, rfl, k3, k4⟩, v2, l2, rfl, h2, h3⟩ := hx
  obtain rfl : m3 = [] := k4
  obtain rfl : l2 = [] := h3
  obtain rfl : y1 = .bool false := k1
  obtain rfl : y2 = .string ⟨#[]⟩ := k2
  obtain rfl : y3 = .string ⟨#[]⟩ := k3
  obtain rfl : v2 = .int .i64 3 := h2
  refine ⟨.inr ⟨fun hf => ?_, rfl⟩, hbl⟩
  rw [Bool.or_eq_true, decide_eq_true_iff, decide_eq_true_iff] at hl
  have h1 := hf.nu
  have h2 := hf.de
  omega
 | false =>
  rw [hl] at hx
  obtain ⟨vs, rfl, v1, l1, rfl, ⟨us, rfl, y1, m1, rfl, k1, y2, m2, rfl, k2, y3, m3, rfl, k3, k4⟩, v2, l2, rfl, h2, h3⟩ := hx
  obtain rfl : m3 = [] := k4
  obtain rfl : l2 = [] := h3
  obtain rfl : y1 = .bool (Big.ng q) := k1
  obtain rfl : y2 = .string (bst (ρ.q 0)) := k2
  obtain rfl : y3 = .string (bst (ρ.q 1)) := k3
  obtain rfl : v2 = .int .i64 0 := h2
  rw [Bool.or_eq_false_iff, decide_eq_false_iff_not, decide_eq_false_iff_not] at hl
  exact ⟨.inl ⟨⟨by omega, by omega⟩, by rw [e0, e1]; rfl⟩, hbl⟩
theorem Zgp {v : Value} {q : Rat} (hv : WS w v q) (hq : RB q) (hG : Tryz.prog.globals.size ≤ w.heap.size) (hT : Tab w) :
  Calls Tryz.prog 54 ⟨[v]⟩ w fun e w' => e = .returned (.int .i64 (cond (decide (Big.nu q = 0)) 0 (cond (Big.ng q) (-1) 1))) ∧ Below w.heap.size w w' := by
 obtain ⟨b, rfl, g, u, d, hb, hu, hd⟩ := hv
 obtain ⟨ρ, e0, e1⟩ : ∃ ρ : XEnv, ρ.q 0 = Big.nu q ∧ ρ.q 1 = Big.de q := ⟨Zns [Big.nu q, Big.de q] (by intro n hn; simp only [List.mem_cons, List.not_mem_nil, or_false] at hn; rcases hn with rfl | rfl; exact hq.1; exact hq.2), rfl, rfl⟩
 rw [← e0] at hu
 rw [← e1] at hd
 have hA : YX ρ [⟨1, xv, x0, decide (Big.nu q = 0)⟩] := Y5 (Kj (by rw [decide_eq_true_iff, ← e0]; rfl)) (Ki ρ)
 refine (Wz (ZiW hA) (ZiX hA) (Zgn (Big.ng q) _) (fun _ _ _ _ _ hp _ => ZdY hp _) (by kernel_rfl) Kl (bs := [b]) (us := []) ⟨b, [], rfl, Zcy (n := xv) (d := x1) hb hu hd, by simp, g, rfl⟩ rfl hG hT).mono ?_
 rintro e w' ⟨x, rfl, hx, hbl⟩
 exact ⟨by rw [show x = _ from hx], hbl⟩
end
noncomputable def nrT (z : Bool) : List Xs := [⟨1, xv, x0, z⟩, ⟨1, x1, x0, false⟩]
noncomputable def ZoX (A : List Xs) (s t : Bool) (f : FuncId) : Option (E3 Wf) := Kd [] [.iv s xv, .iv t x1] (fun _ vs => vs) (call Tryz.prog (ZiV A) (Zd1 A) 60 f)
theorem Zd3 (s t z : Bool) : ZoX (nrT z) s t 44 = some (ZoA (xor s t && !z) xv x1) := by
 cases s <;> cases t <;> cases z <;> kernel_rfl
section
variable {w : World} {x y : Value} {p q : Rat}
theorem Zgq (n : Int) : n = Big.sI (decide (n < 0)) n.natAbs := by
 unfold Big.sI
 by_cases h : n < 0
 ·rw [decide_eq_true h]; simp; omega
 ·rw [decide_eq_false h]; simp; omega
theorem Zcz {ρ : XEnv} {e : Xe} {n : Int} (he : e.ev ρ.q = n.natAbs) (h1 : -9223372036854775808 ≤ n) (h2 : n ≤ 9223372036854775807) : (Wf.iv (decide (n < 0)) e).holds ρ w (.int .i64 n) := by
 refine ⟨by rw [he, ← Zgq n], fun h => ?_, by rw [he]; omega, fun h => ?_⟩
 ·have := of_decide_eq_true h
  rw [he]; omega
 ·have := of_decide_eq_false h
  rw [he]; omega
theorem Zi7 (n d : Int) (hd : d ≠ 0) : (n : Rat) / (d : Rat) = mkRat (Big.sI (xor (decide (n < 0)) (decide (d < 0)) && !decide (n.natAbs = 0)) n.natAbs) d.natAbs := by
 have hd0 : (d : Rat) ≠ 0 := fun h => hd (by exact_mod_cast h)
 rw [Znt _ _ hd0]
 have e1 : Big.ng (n : Rat) = decide (n < 0) := rfl
 have e2 : Big.ng (d : Rat) = decide (d < 0) := rfl
 have e3 : Big.nu (n : Rat) = n.natAbs := rfl
 have e4 : Big.nu (d : Rat) = d.natAbs := rfl
 have e5 : Big.de (n : Rat) = 1 := rfl
 have e6 : Big.de (d : Rat) = 1 := rfl
 rw [e1, e2, e3, e4, e5, e6, Nat.mul_one, Nat.one_mul]
 congr 1
 exact Zlh _ _ _ fun h => by rw [decide_eq_false h]; simp
theorem ZcA {n : Int} (h1 : -9223372036854775808 ≤ n) (h2 : n ≤ 9223372036854775807) : Bits 262144 n.natAbs :=
 Bits.up (k := 64) ⟨by have : n.natAbs ≤ 9223372036854775808 := by omega
                       exact Nat.lt_of_le_of_lt this (by decide)⟩ (by decide)
theorem Zi8 (n d : Int) (h1 : -9223372036854775808 ≤ n) (h2 : n ≤ 9223372036854775807) (h3 : -9223372036854775808 ≤ d) (h4 : d ≤ 9223372036854775807) : ∃ ρ : XEnv, ρ.q 0 = n.natAbs ∧ ρ.q 1 = d.natAbs :=
 ⟨Zns [n.natAbs, d.natAbs] (by intro m hm; simp only [List.mem_cons, List.not_mem_nil, or_false] at hm; rcases hm with rfl | rfl; exact ZcA h1 h2; exact ZcA h3 h4), rfl, rfl⟩
theorem Zd4 (n d : Int) (h1 : -9223372036854775808 ≤ n) (h2 : n ≤ 9223372036854775807) (h3 : -9223372036854775808 ≤ d) (h4 : d ≤ 9223372036854775807) (hd : d ≠ 0) (hG : Tryz.prog.globals.size ≤ w.heap.size) (hT : Tab w) :
  Calls Tryz.prog 44 ⟨[.int .i64 n, .int .i64 d]⟩ w (ZoV w ((n : Rat) / (d : Rat))) := by
 obtain ⟨ρ, e0, e1⟩ := Zi8 n d h1 h2 h3 h4
 have hd1 : 0 < ρ.q 1 := by rw [e1]; omega
 have hA : YX ρ (nrT (decide (n.natAbs = 0))) := Y5 (Kj (by rw [decide_eq_true_iff, ← e0]; rfl)) (Y5 (Kj (Kk hd1)) (Ki ρ))
 refine (Wz (ZiW hA) (Zaf hA) (Zd3 (decide (n < 0)) (decide (d < 0)) _) (fun _ _ _ _ _ _ h => h) rfl Kl (bs := []) (us := [.int .i64 n, .int .i64 d]) rfl ⟨_, _, rfl, Zcz (w := w) (e := xv) e0 h1 h2, rfl, _, [], rfl, Zcz (w := w) (e := x1) e1 h3 h4, rfl, rfl⟩ hG hT).mono ?_
 rintro e w' ⟨v, rfl, hv, hb⟩
 refine ⟨v, rfl, Zlf hv ⟨hd1, fun hs => ?_, ?_⟩ hG, hb⟩
 ·rw [Bool.and_eq_true, Bool.not_eq_true', decide_eq_false_iff_not] at hs
  show 0 < ρ.q 0
  rw [e0]; omega
 ·rw [Zi7 n d hd]
  show _ = mkRat (Big.sI _ (ρ.q 0)) (ρ.q 1)
  rw [e0, e1]
end
noncomputable def Ze9 : Sy → Option Qe | .rt e => some e | _ => none
theorem Zl3 {ρ : Env} {w : World} {f : Sy} {e : Qe} {v : Value} (hg : Ze9 f = some e) (h : f.holds ρ w v) : WS w v (e.ev ρ.q) := by cases f <;> simp [Ze9] at hg; subst hg; exact h
section
variable {ρ : Env} {A : List As} {h h' : Tr (Blk Sy)} {nx nx' : Nat} {R W : List Nat} {r : Ren} {w : World}
theorem Zi9 {f0 : Sy} {f : FuncId} {args' : List Value} {v : Value} (e : (Zo f0 : M Sy Value) h nx = .ok v h' nx' R W) (hM : Mod (Zf ρ) r h.get w) (hN : New r nx nx')
  (c : Calls Tryz.prog f ⟨args'⟩ w fun e w' => ∃ v', e = .returned v' ∧ f0.holds ρ w' v' ∧ Below w.heap.size w w') : Calls Tryz.prog f ⟨args'⟩ w fun e w' => ∃ v' r', e = .returned v' ∧ VR r' v v' ∧ Ext (Zf ρ) r w nx nx' W h'.get r' w' := by
 obtain ⟨i, h1, nx1, R1, W1, R2, W2, e1, e2, rfl, rfl⟩ := Zc e
 obtain ⟨rfl, rfl, rfl, rfl⟩ := Zh e2
 unfold fresh at e1
 cases e1
 refine c.mono ?_
 rintro en w' ⟨v', rfl, hv, hb⟩
 obtain ⟨r', hX, hr⟩ := YF (S := Zf ρ) (f := f0) hM hb hN hv (Sy.one hv)
 exact ⟨v', r', rfl, .opq hr (Sy.one hv), by simpa using hX.congr fun n => .inr (Tr.get_set _ _ _ _)⟩
end
noncomputable def Zja : Nat × (List Value → Option (M Sy Value)) := (44, fun args => match args with
 | [a, b] => some (bind (fact a) fun f => match f with
  | .iz k e => cond (Nat.beq k 0 && Zni b) (Zo (.rt e)) fail
  | _ => fail)
 | _ => none)
theorem Zjb {ρ : Env} : Z3 (Zf ρ) Tryz.prog Zja.1 Zja.2 := by
 intro args m hm
 rcases args with _ | ⟨a, _ | ⟨b, _ | ⟨c, l⟩⟩⟩ <;> first | (cases (show none = some m from hm); done) | skip
 cases hm
 refine ⟨Zb (ZA _) fun f => ?_, fun h nx v h' nx' R W e r w args' hv hM hN => ?_⟩
 ·split
  ·exact Ze (Zp _) Za
  ·exact Za
 ·cases hv with
  | cons h1 hv => cases hv with
   | cons h2 h3 =>
    cases h3
    obtain ⟨f, g1, nx1, R1, W1, R2, W2, e1, e2, rfl, rfl⟩ := Zc e
    obtain ⟨rfl, rfl, rfl, hf⟩ := ZB e1 h1 hM
    cases f <;> first | (cases (show (fail : M Sy Value) _ _ = _ from e2); done) | skip
    rename_i k q
    obtain ⟨hk, e3⟩ := Zi e2
    simp only [Bool.and_eq_true] at hk
    obtain rfl := Nat.eq_of_beq_eq_true hk.1
    obtain rfl := Ze1 hk.2
    obtain rfl := h2.eq_of_plain rfl
    obtain ⟨hv1, hd, k1, k2⟩ := (show JQ 0 (q.ev ρ.q) _ from hf)
    have hv2 : _ = Value.int .i64 (q.ev ρ.q).num := hv1
    subst hv2
    simp only [List.nil_append]
    refine Zi9 e3 hM hN ((Zd4 (q.ev ρ.q).num 1 k1 k2 (by decide) (by decide) (by decide) hM.fits hM.base).mono ?_)
    rintro en w' ⟨v, rfl, hv, hb⟩
    refine ⟨v, rfl, ?_, hb⟩
    have hq : ((q.ev ρ.q).num : Rat) / ((1 : Int) : Rat) = q.ev ρ.q := by
     have h9 : (((q.ev ρ.q).num : Int) : Rat) = q.ev ρ.q := by
      apply Rat.ext
      ·simp
      ·simp [hd]
     rw [h9]
     show q.ev ρ.q / 1 = _
     grind
    rw [hq] at hv
    exact hv
noncomputable def Zd5 (A : List As) : Nat × (List Value → Option (M Sy Value)) := (54, fun args => match args with
 | [a] => some (bind (knw Ze9 a) fun e => cond (Nat.ble e.bnd 4096) (match ask A 1 e z0 with
  | some t => cond t (ret (.int .i64 0)) (match ask A 3 e z0 with
   | some g => ret (.int .i64 (cond g (-1) 1))
   | none => fail)
  | none => fail) fail)
 | _ => none)
theorem ZcB {ρ : Env} {e : Qe} (h : Nat.ble e.bnd 4096 = true) : RB (e.ev ρ.q) := Zli (Qe.sm ρ.fit ρ.big e) (Nat.le_of_ble_eq_true h)
theorem Zgr {ρ : Env} {A : List As} (hA : Yd ρ A) : Z3 (Zf ρ) Tryz.prog (Zd5 A).1 (Zd5 A).2 := by
 intro args m e
 rcases args with _ | ⟨a, _ | ⟨c, l⟩⟩ <;> first | (cases (show none = some m from e); done) | skip
 cases e
 refine ⟨Zb (Xt _ _) fun o => Ze ?_ Za, ?_⟩
 ·split
  ·refine Ze (Zg _) ?_
   split
   ·exact Zg _
   ·exact Za
  ·exact Za
 intro h nx v h' nx' R W e r w args' ha hM hN
 cases ha with
 | cons ha hb =>
 cases hb
 obtain ⟨e0, h1, nx1, R1, W1, R2, W2, e1, e2, rfl, rfl⟩ := Zc e
 obtain ⟨rfl, rfl, rfl, f, hf, hx⟩ := Wx e1 ha hM
 obtain ⟨hs, e3⟩ := Zi e2
 have c := Zgp (Zl3 hf hx) (ZcB (ρ := ρ) hs) hM.fits hM.base
 simp only [List.nil_append]
 cases h1 : ask A 1 e0 z0 with
 | none => rw [h1] at e3; cases (show (fail : M Sy Value) _ _ = _ from e3)
 | some t =>
  rw [h1] at e3
  have ht := VO hA h1
  have hnu : Big.nu (e0.ev ρ.q) = 0 ↔ e0.ev ρ.q = 0 := by
   unfold Big.nu
   rw [Int.natAbs_eq_zero, Rat.num_eq_zero]
  cases t with
  | true =>
   refine Xr e3 rfl hM (c.mono fun en w' q => ⟨?_, q.2⟩)
   rw [q.1, decide_eq_true (hnu.2 (ht.1 rfl))]; rfl
  | false =>
   have h0 : ¬ Big.nu (e0.ev ρ.q) = 0 := fun q => by
    have := ht.2 (hnu.1 q); cases this
   simp only [cond_false] at e3
   cases h3 : ask A 3 e0 z0 with
   | none => rw [h3] at e3; cases (show (fail : M Sy Value) _ _ = _ from e3)
   | some g =>
    rw [h3] at e3
    have hg : g = Big.ng (e0.ev ρ.q) := by
     obtain ⟨x, hx, y1, y2, y3, y4⟩ := U4 h3
     have := hA x hx
     unfold As.holds at this
     rw [y1] at this
     rw [← y4, ← y2]
     exact this
    refine Xr e3 (by cases g <;> rfl) hM (c.mono fun en w' q => ⟨?_, q.2⟩)
    rw [q.1, decide_eq_false h0, hg]; rfl
noncomputable def Zd6 (A : List As) : Nat × (List Value → Option (M Sy Value)) := (82, fun args => match args with
 | [a] => some (bind (knw Ze9 a) fun e => cond (Nat.ble e.bnd 4096) (match QF A e with
  | some t => cond t (bind (ZG [.ng e, .fn e, .fd e]) fun vs => ret (.tuple ⟨[.agg ⟨vs⟩, .int .i64 0]⟩)) fail
  | none => fail) fail)
 | _ => none)
theorem Zgs {ρ : Env} {A : List As} (hA : Yd ρ A) : Z3 (Zf ρ) Tryz.prog (Zd6 A).1 (Zd6 A).2 := by
 intro args m e
 rcases args with _ | ⟨a, _ | ⟨c, l⟩⟩ <;> first | (cases (show none = some m from e); done) | skip
 cases e
 refine ⟨Zb (Xt _ _) fun o => Ze ?_ Za, ?_⟩
 ·split
  ·exact Ze (Zb (ZC _) fun _ => Zg _) Za
  ·exact Za
 intro h nx v h' nx' R W e r w args' ha hM hN
 cases ha with
 | cons ha hb =>
 cases hb
 obtain ⟨e0, h1, nx1, R1, W1, R2, W2, e1, e2, rfl, rfl⟩ := Zc e
 obtain ⟨rfl, rfl, rfl, f, hf, hx⟩ := Wx e1 ha hM
 obtain ⟨hs, e3⟩ := Zi e2
 have c := Zi6 (Zl3 hf hx) (ZcB (ρ := ρ) hs) hM.fits hM.base
 cases hfit : QF A e0 with
 | none => rw [hfit] at e3; cases (show (fail : M Sy Value) h1 nx1 = _ from e3)
 | some t =>
  rw [hfit] at e3
  have ht := QS hA hfit
  obtain ⟨ht2, e4⟩ := Zi e3
  subst ht2
  simp only [List.nil_append]
  exact U5 rfl e4 hM hN (c.mono fun _ w' hh => by
   obtain ⟨k | k, hb⟩ := hh
   ·exact ⟨_, k.2, VP (w := w') e0, hb⟩
   ·exact absurd (ht.1 rfl) k.1)
noncomputable def Zlj (A : List As) : List (Nat × (List Value → Option (M Sy Value))) := [Zja, Zd5 A, Zd6 A]
theorem Zfa {ρ : Env} {A : List As} (hA : Yd ρ A) : ∀ x ∈ Zlj A, Z3 (Zf ρ) Tryz.prog x.1 x.2 := fun x hx => by
 simp only [Zlj, List.mem_cons, List.not_mem_nil, or_false] at hx
 rcases hx with rfl | rfl | rfl
 ·exact Zjb
 ·exact Zgr hA
 ·exact Zgs hA
noncomputable def Zd7 (A : List As) : WE Sy := Xi (Xj (Zlj A))
theorem Zag {ρ : Env} {A : List As} (hA : Yd ρ A) : SumOK (Zf ρ) Tryz.prog (Zd7 A) := YO (Zfa hA)
noncomputable def ZcC (kp : Bool) (A : List As) (B : List Ix) (n : Nat) : Cl Sy := ⟨Vw Tryz.prog (Yo kp A B noJ) (Zd7 A) n, [], fun _ => none⟩
theorem Zbl {ρ : Env} {kp : Bool} {A : List As} {B : List Ix} {n : Nat} (hA : Yd ρ A) (hB : ZD ρ B) : ClOK (Zf ρ) Tryz.prog (ZcC kp A B n) :=
 have h := X4 (C := Yo kp A B noJ) (YW hA hB) (.none rfl) (Zag hA) n
 ⟨⟨h.1, by intro x hx; simp [ZcC] at hx, fun x m e => (by cases e)⟩, h.2⟩
noncomputable def s5F : Nat := 5
noncomputable def Zgt : List Nat := [0, 1, 5]
noncomputable def QI (x : Sl Sy) : List (Sl Sy) := [.f (.ls 0 0), .f (.ls 0 0), x]
set_option maxHeartbeats 4000000 in
theorem Zjc : WU Tryz.prog (Fq.lsCfgQ true [] Zf3 noJ) (ZeZ true [] Zf3 20) 26 20 Yl Zgt (QI (.f (.ix 2 0))) (QI (.f (.ix 2 1))) (ZL s5F 0) = true := by kernel_rfl
noncomputable def s5J : J6 := fun f _ => cond (Nat.beq f s5F) (some (Z9 Yl 26 Zgt (QI (.p (.int .i64 0))) (QI (.f (.ix 1 0))))) none
set_option maxHeartbeats 4000000 in
theorem Znv : tells [.ls 0 0, .ls 0 0] [.one, .one] (call Tryz.prog (Fq.lsCfgQ true [] [.ln 0 1] s5J) (ZdO []) 20 s5F) = some (.one (.one (.p (.bool true)))) := by kernel_rfl
theorem Znw : ∃ fn c, (Tryz.prog).funcs[s5F]? = some fn ∧ fn.body = some c ∧ fn.ntmps = 26 ∧ ZS c = [ZL s5F 0] := ⟨_, _, rfl, rfl, rfl, rfl⟩
section
variable {qs : List Rat} (hq : ∀ q ∈ qs, Fit q) (lo : Nat)
theorem Znx (hl : qs.length ≤ 10000) : X3 (Zf (Vz qs hq lo 0)) Tryz.prog 26 (ZL s5F 0) (Z9 Yl 26 Zgt (QI (.p (.int .i64 0))) (QI (.f (.ix 1 0)))) := by
 refine @Za7 Sy (Zf (Vz qs hq lo 0)) Tryz.prog Yl YH 26 (ZL s5F 0) Zgt _ (QI (.f (.ix 2 0))) (QI (.f (.ix 2 1))) _ qs.length (fun k => Zf (Vz qs hq lo k)) (fun k => ⟨rfl, rfl, rfl⟩) rfl rfl rfl rfl ?_ ?_ ?_ ?_
 ·intro w vs h
  obtain ⟨v1, l1, rfl, a1, v2, l2, rfl, a2, v3, l3, rfl, a3, rfl⟩ := h
  refine ⟨v1, _, rfl, a1, v2, _, rfl, a2, v3, _, rfl, ⟨?_, ?_⟩, rfl⟩
  ·rw [show v3 = .int .i64 0 from a3]; rfl
  ·rw [show v3 = .int .i64 0 from a3]; rfl
 ·intro k hk w vs h
  obtain ⟨v1, l1, rfl, a1, v2, l2, rfl, a2, v3, l3, rfl, a3, rfl⟩ := h
  refine ⟨v1, _, rfl, a1, v2, _, rfl, a2, v3, _, rfl, ⟨?_, a3.2⟩, rfl⟩
  have h4 : v3 = .int .i64 (((k : Nat) : Int) + 1) := a3.1
  show v3 = .int .i64 (((k + 1 : Nat) : Int) + 0)
  rw [h4]; congr 1
 ·intro w vs h
  obtain ⟨v1, l1, rfl, a1, v2, l2, rfl, a2, v3, l3, rfl, a3, rfl⟩ := h
  exact ⟨v1, _, rfl, a1, v2, _, rfl, a2, v3, _, rfl, ⟨a3.1, a3.2⟩, rfl⟩
 ·intro k hk ro d B0 D0 a w hAt
  have hB := Zos hq lo hl hk
  have hA : Yd (Vz qs hq lo k) [] := fun x hx => by simp at hx
  exact Xx (C := Fq.lsCfgQ true [] Zf3 noJ) (call := ZeZ true [] Zf3 20) (fuel := 20) (Fq.lsFitsQ hA hB) (Zis hA hB) rfl (fun y _ m e => by cases e) YH Zjc Zf4 hAt
end
theorem Zgu (w : World) {qs : List Rat} (hq : ∀ q ∈ qs, Fit q) (hl : qs.length ≤ 10000) {u v : Value} (hu : LsIn 0 w u qs) (hv : LsIn 0 w v qs) (hG : Tryz.prog.globals.size ≤ w.heap.size) (hT : Zn.base w) :
  Calls Tryz.prog s5F ⟨[u, v]⟩ w fun e w' => e = .returned (.bool true) ∧ Below w.heap.size w w' := by
 have h0 : Yz (Zf (Vz qs hq w.heap.size 0)) w [.ls 0 0, .ls 0 0] [u, v] := ⟨u, _, rfl, LsIn.ls hu rfl, by obtain ⟨a, m, rfl, _⟩ := hu; rfl, v, [], rfl, LsIn.ls hv rfl, by obtain ⟨a, m, rfl, _⟩ := hv; rfl, rfl⟩
 have hA : Yd (Vz qs hq w.heap.size 0) [] := fun x hx => by simp at hx
 have hB : ZD (Vz qs hq w.heap.size 0) [.ln 0 1] := fun x hx => by
  obtain rfl := List.mem_singleton.1 hx
  rfl
 have hJ : JmpAll (Zf (Vz qs hq w.heap.size 0)) Tryz.prog (Fq.lsCfgQ true [] [.ln 0 1] s5J) := by
  refine ⟨fun f x m e ts => ?_, fun f fn c x m hf hb hx e => ?_⟩
  ·rcases J8 (show cond (Nat.beq f s5F) (some (Z9 Yl 26 Zgt (QI (.p (.int .i64 0))) (QI (.f (.ix 1 0))))) none = some m from e) with ⟨_, rfl⟩ | ⟨_, e2⟩
   ·exact Xy _ _ _ _ _
   ·cases e2
  ·rcases J8 (show cond (Nat.beq f s5F) (some (Z9 Yl 26 Zgt (QI (.p (.int .i64 0))) (QI (.f (.ix 1 0))))) none = some m from e) with ⟨h1, rfl⟩ | ⟨_, e2⟩
   ·obtain rfl := Nat.eq_of_beq_eq_true h1
    exact QY Znw (@Znx qs hq _ hl) hf hb hx
   ·cases e2
 refine (Ya (Fq.lsFitsQ hA hB) (Zaa hA) Znv rfl YT h0 hG hT (Nat.le_refl _) hJ).mono ?_
 rintro e w' ⟨v', rfl, h1, hb⟩
 have h1' : v' = .bool true := h1
 subst h1'
 exact ⟨rfl, hb⟩
end Ev
end Go.Proofs.YtnlhjcfpfapafaaGreatDoor
