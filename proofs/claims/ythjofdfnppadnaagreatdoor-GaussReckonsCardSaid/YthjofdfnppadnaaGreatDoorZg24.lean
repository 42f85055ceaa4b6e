/- Contracts, in this order: Runs over ref90's numbers: SetFrac stores a fraction; what t · Runs over ref90's numbers: numbers of bytes, of 64 bits; byt · ref00's Add, Sub, Mul, Quo; a fraction's sign: every path ru · ref00's Add, Sub, Mul, Quo; a fraction's sign: what they do. · ref00.Rat: bytes to a fraction: every path run. · gauss: what its functions answer, by runs over numbers told  · gauss: sums, differences, products of any two numbers, whate -/
import Derived.Test.YthjofdfnppadnaaGreatDoorZg23
namespace Go.Proofs.YthjofdfnppadnaaGreatDoor
open Go Go.RowKit
namespace Ev
set_option maxRecDepth 100000
noncomputable def int2 (l : List Value) : M Wf (Bool × Xe) := match l with
  | s :: u :: _ => match s with
    | .bool t => bind (wv u) fun e => ret (t, e)
    | _ => fail
  | _ => fail
noncomputable def rdInt (v : Value) : M Wf (Bool × Xe) := match addrOf v with
  | some x => bind (rdCells x.1) fun c => int2 (c.1.drop x.2)
  | none => fail
noncomputable def signX (A : List Xs) (b : Bool) (e : Xe) : Option Bool := cond b (match askX A 1 e x0 with
  | some t => some (!t)
  | none => none) (some false)
noncomputable def row4 (s : Bool) (vs : List Value) : List Value := match vs with
  | [u, v] => [.bool s, u, .bool false, v]
  | _ => []
noncomputable def putF (z : Value) (s : Bool) (n d : Xe) : M Wf Value := match addrOf z with
  | some x => cond (Nat.beq x.2 0 && Nat.ble natCfg.G x.1) (bind (rdCells x.1) fun c0 => cond (Nat.beq c0.1.length 4)
      (bind (newFacts [.wd (.quo n (.gcd n d)), .wd (.quo d (.gcd n d))]) fun vs => bind (rdCells x.1) fun c => bind (wr x.1 (.cells (row4 s vs) c.2)) fun _ => ret z) fail) fail
  | none => fail
noncomputable def setFracM (A : List Xs) (args : List Value) : Option (M Wf Value) := match args with
  | [z, x, y] => some (bind (rdInt x) fun a => bind (rdInt y) fun c => cond (xokB a.2 && xokB c.2) (match askX A 1 c.2 x0 with
    | some t => cond t fail (match signX A (xor a.1 c.1) a.2 with
      | some s => putF z s a.2 c.2
      | none => fail)
    | none => fail) fail)
  | _ => none
theorem loc_int2 (l : List Value) : Loc (int2 l) := by
  unfold int2
  (repeat' split) <;> first | exact loc_fail | exact loc_bind (loc_wv _) fun _ => loc_ret _
theorem loc_rdInt (v : Value) : Loc (rdInt v) := by
  unfold rdInt
  split
  · exact loc_bind (loc_rdCells _) fun _ => loc_int2 _
  · exact loc_fail
theorem loc_putF (z : Value) (s : Bool) (n d : Xe) : Loc (putF z s n d) := by
  unfold putF
  split
  · exact loc_cond (loc_bind (loc_rdCells _) fun _ => loc_cond (loc_bind (loc_newFacts _) fun _ => loc_bind (loc_rdCells _) fun _ => loc_bind (loc_wr _ _) fun _ => loc_ret _) loc_fail) loc_fail
  · exact loc_fail
section
variable {ρ : XEnv} {A : List Xs} {h h' : Tr (Blk Wf)} {nx nx' : Nat} {Q W : List Nat} {r : Ren} {w : World}
theorem ptr_vr {v v' : Value} {b o : Nat} (e : addrOf v = some (b, o)) (hv : VR r v v') : ∃ b', r.blk b = some b' ∧ v' = .pointer (some ⟨b', o, none⟩) ∧ v = .pointer (some ⟨b, o, none⟩) := by
  rw [addrOf_of e] at hv ⊢
  obtain ⟨b2, hb, rfl⟩ := hv.pointer
  exact ⟨b2, hb, rfl, rfl⟩
theorem rdInt_ok {v v' : Value} {x : Bool × Xe} (e : rdInt v h nx = .ok x h' nx' Q W) (hv : VR r v v') (hM : Mod (wSig ρ) r h.get w) :
    h' = h ∧ nx' = nx ∧ W = [] ∧ ∃ b o, v' = .pointer (some ⟨b, o, none⟩) ∧ R.IntAt w b o x.1 (x.2.ev ρ.q) := by
  unfold rdInt at e
  cases ha : addrOf v with
  | none => rw [ha] at e; cases (show (fail : M Wf (Bool × Xe)) h nx = _ from e)
  | some y =>
    obtain ⟨b, o⟩ := y
    rw [ha] at e
    obtain ⟨c, h1, nx1, R1, W1, R2, W2, e1, e2, rfl, rfl⟩ := bind_ok (show bind (rdCells b) (fun c => int2 (c.1.drop o)) h nx = _ from e)
    obtain ⟨hg, rfl, rfl, rfl⟩ := rdCells_ok e1
    obtain ⟨b2, hb2, rfl, -⟩ := ptr_vr ha hv
    obtain ⟨b3, c', hb3, hh, hc, -⟩ := hM.cells _ _ _ hg
    obtain rfl : b3 = b2 := by rw [hb2] at hb3; injection hb3 with e; exact e.symm
    have hd := hc.drop o
    cases hl : c.1.drop o with
    | nil => rw [hl] at e2; cases (show (fail : M Wf (Bool × Xe)) h1 nx1 = _ from e2)
    | cons s l2 =>
      rw [hl] at e2 hd
      cases l2 with
      | nil => cases (show (fail : M Wf (Bool × Xe)) h1 nx1 = _ from e2)
      | cons u l3 =>
        cases s <;> first | (cases (show (fail : M Wf (Bool × Xe)) h1 nx1 = _ from e2); done) | skip
        rename_i t
        obtain ⟨x1, h3, nx3, R3, W3, R4, W4, e3, e4, rfl, rfl⟩ := bind_ok (show bind (wv u) (fun e => ret (t, e)) h1 nx1 = _ from e2)
        generalize hdd : c'.drop o = d' at hd
        cases hd with
        | cons hs hd2 =>
          cases hd2 with
          | cons hu _ =>
            obtain ⟨rfl, rfl, rfl, hn⟩ := wv_ok e3 hu hM
            obtain ⟨rfl, rfl, rfl, rfl⟩ := ret_ok e4
            have hs' := hs.eq_of_plain rfl
            subst hs'
            refine ⟨rfl, rfl, rfl, b3, o, rfl, R.cell_at hh ?_, _, R.cell_at hh (v := _) ?_, hn⟩
            · have := congrArg (fun l => l[0]?) hdd
              simpa using this
            · have := congrArg (fun l => l[1]?) hdd
              simpa using this
theorem set_four {w : World} {b : Nat} {c : List Value} {t : TypeId} {x y z u : Value} (h : w.heap[b]? = some (.cells ⟨c⟩ t (0, 0))) (hl : c.length = 4) :
    ((((w.setCell ⟨b, 0, none⟩ x).setCell ⟨b, 1, none⟩ y).setCell ⟨b, 2, none⟩ z).setCell ⟨b, 3, none⟩ u).heap = w.heap.setIfInBounds b (.cells ⟨[x, y, z, u]⟩ t (0, 0)) := by
  have hlt := (Array.getElem?_eq_some_iff.1 h).1
  match c, hl with
  | [c0, c1, c2, c3], _ =>
  have s1 := R.set_heap (o := 0) (v := x) h
  have g1 : (w.setCell ⟨b, 0, none⟩ x).heap[b]? = some (.cells ⟨[x, c1, c2, c3]⟩ t (0, 0)) := by rw [s1, Array.getElem?_setIfInBounds_self_of_lt hlt]; rfl
  have s2 := R.set_heap (o := 1) (v := y) g1
  have g2 : ((w.setCell ⟨b, 0, none⟩ x).setCell ⟨b, 1, none⟩ y).heap[b]? = some (.cells ⟨[x, y, c2, c3]⟩ t (0, 0)) := by rw [s2, Array.getElem?_setIfInBounds_self_of_lt (Array.getElem?_eq_some_iff.1 g1).1]; rfl
  have s3 := R.set_heap (o := 2) (v := z) g2
  have g3 : (((w.setCell ⟨b, 0, none⟩ x).setCell ⟨b, 1, none⟩ y).setCell ⟨b, 2, none⟩ z).heap[b]? = some (.cells ⟨[x, y, z, c3]⟩ t (0, 0)) := by rw [s3, Array.getElem?_setIfInBounds_self_of_lt (Array.getElem?_eq_some_iff.1 g2).1]; rfl
  rw [R.set_heap (o := 3) (v := u) g3, s3, s2, s1]
  simp
theorem w_setFrac (hA : AllX ρ A) : SumF (wSig ρ) Tryz.prog 141 (setFracM A) := by
  intro args m e
  unfold setFracM at e
  rcases args with _ | ⟨z, _ | ⟨x, _ | ⟨y, _ | ⟨c, l⟩⟩⟩⟩ <;> simp only [reduceCtorEq, Option.some.injEq] at e
  subst e
  refine ⟨loc_bind (loc_rdInt x) fun a => loc_bind (loc_rdInt y) fun c => loc_cond ?_ loc_fail, ?_⟩
  · split
    · refine loc_cond loc_fail ?_
      split
      · exact loc_putF _ _ _ _
      · exact loc_fail
    · exact loc_fail
  intro h nx v h' nx' Q W e r w args' ha hM hN
  cases ha with
  | cons hz ha =>
  cases ha with
  | cons hx ha =>
  cases ha with
  | cons hy ha =>
  cases ha
  obtain ⟨a, h1, nx1, R1, W1, R2, W2, e1, e2, rfl, rfl⟩ := bind_ok e
  obtain ⟨rfl, rfl, rfl, bx, ox, rfl, hax⟩ := rdInt_ok e1 hx hM
  obtain ⟨c, h2, nx2, R3, W3, R4, W4, e3, e4, rfl, rfl⟩ := bind_ok e2
  obtain ⟨rfl, rfl, rfl, by_, oy, rfl, hay⟩ := rdInt_ok e3 hy hM
  obtain ⟨hs, e5⟩ := cond_ok e4
  simp only [Bool.and_eq_true] at hs
  cases h0 : askX A 1 c.2 x0 with
  | none => rw [h0] at e5; cases (show (fail : M Wf Value) _ _ = _ from e5)
  | some t =>
  rw [h0] at e5
  obtain ⟨rfl, e6⟩ := cond_no e5
  have hd0 : 0 < c.2.ev ρ.q := by
    have := askX_nought hA h0
    rcases Nat.eq_zero_or_pos (c.2.ev ρ.q) with h | h
    · exact absurd (this.2 h) (by simp)
    · exact h
  cases hsg : signX A (xor a.1 c.1) a.2 with
  | none => rw [hsg] at e6; cases (show (fail : M Wf Value) _ _ = _ from e6)
  | some s =>
  rw [hsg] at e6
  have hsv : ((a.1 != c.1) && decide (0 < a.2.ev ρ.q)) = s := by
    unfold signX at hsg
    have hx : (a.1 != c.1) = xor a.1 c.1 := by cases a.1 <;> cases c.1 <;> rfl
    rw [hx]
    cases hb : xor a.1 c.1 with
    | false => rw [hb] at hsg; cases hsg; rfl
    | true =>
      rw [hb] at hsg
      simp only [cond_true] at hsg
      cases h1 : askX A 1 a.2 x0 with
      | none => rw [h1] at hsg; cases hsg
      | some t =>
        rw [h1] at hsg
        cases hsg
        have := askX_nought hA h1
        rcases Nat.eq_zero_or_pos (a.2.ev ρ.q) with h | h
        · rw [this.2 h, h]; rfl
        · have ht : t = false := by
            cases t with
            | false => rfl
            | true => have := this.1 rfl; omega
          rw [ht, decide_eq_true h]; rfl
  have e7 : putF z s a.2 c.2 h2 nx2 = .ok v h' nx' R4 W4 := e6
  unfold putF at e7
  cases haz : addrOf z with
  | none => rw [haz] at e7; cases (show (fail : M Wf Value) _ _ = _ from e7)
  | some y =>
  obtain ⟨zb, zo⟩ := y
  rw [haz] at e7
  obtain ⟨hk, e8⟩ := cond_ok e7
  simp only [Bool.and_eq_true] at hk
  obtain rfl : zo = 0 := Nat.eq_of_beq_eq_true hk.1
  have hG : natSig.G ≤ zb := Nat.le_of_ble_eq_true hk.2
  obtain ⟨c0, h3, nx3, R5, W5, R6, W6, e9, e10, rfl, rfl⟩ := bind_ok e8
  obtain ⟨hg0, rfl, rfl, rfl⟩ := rdCells_ok e9
  obtain ⟨hl4, e11⟩ := cond_ok e10
  obtain ⟨vs, h5, nx5, R7, W7, R8, W8, e12, e13, rfl, rfl⟩ := bind_ok e11
  obtain ⟨c1, h6, nx6, R9, W9, R10, W10, e14, e15, rfl, rfl⟩ := bind_ok e13
  obtain ⟨hg1, rfl, rfl, rfl⟩ := rdCells_ok e14
  obtain ⟨u0, h7, nx7, R11, W11, R12, W12, e16, e17, rfl, rfl⟩ := bind_ok e15
  obtain ⟨rfl, rfl, rfl, rfl⟩ := ret_ok e17
  unfold wr at e16
  rw [hg1] at e16
  cases e16
  obtain ⟨b2, hb2, rfl, hzv⟩ := ptr_vr haz hz
  obtain ⟨b3, c', hb3, hh, hc, -⟩ := hM.cells _ _ _ hg0
  obtain rfl : b3 = b2 := by rw [hb2] at hb3; injection hb3 with e; exact e.symm
  have hcl : c'.length = 4 := by rw [hc.length]; exact Nat.eq_of_beq_eq_true hl4
  have hW7 := newFacts_W _ e12
  subst hW7
  refine (R.setFrac_any w b3 bx ox by_ oy _ _ a.1 c.1 (R.room_at hh (by omega)) (R.room_at hh (by omega)) hax hay (xokB_sml hs.1) (xokB_sml hs.2) hd0).mono ?_
  rintro en w' ⟨rfl, w1, u, d, hb, hu, hd, rfl⟩
  rw [hsv]
  have hX1 := ext_below hM hb nx3
  obtain ⟨hle, r', hX2, hvs⟩ := newFacts_ok (S := wSig ρ) _ e12 hX1.mod hN ⟨u, [d], rfl, hu, nin_one hu, d, [], rfl, hd, nin_one hd, rfl⟩
  obtain ⟨x1, l1, rfl, hx1⟩ : ∃ x y, vs = [x, y] ∧ VsR r' [x, y] [u, d] := by
    have hlen := hvs.length
    match vs, hvs, hlen with
    | [x, y], hvs, _ => exact ⟨x, y, rfl, hvs⟩
  cases hx1 with
  | cons k1 k2 =>
  cases k2 with
  | cons k2 _ =>
  have hw1 : w1.heap[b3]? = some (.cells ⟨c'⟩ c0.2 (0, 0)) := (hb.block b3 (Array.getElem?_eq_some_iff.1 hh).1).trans hh
  obtain ⟨b4, c4, hb4, hh4, hc4, ht4⟩ := hX2.mod.cells _ _ _ hg1
  have hb3' := hX2.le.blk _ _ hb2
  obtain rfl : b4 = b3 := by rw [hb3'] at hb4; injection hb4 with e; exact e.symm
  have hty : c1.2 = c0.2 := by
    rw [hw1] at hh4
    simp only [Option.some.injEq, Obj.cells.injEq] at hh4
    exact hh4.2.1.symm
  have hX3 := ext_write (nx := nx') (d := row4 s [x1, l1]) (d' := [.bool s, u, .bool false, d]) hX2.mod hg1 hb3' (.cons (.same rfl) (.cons k1 (.cons (.same rfl) (.cons k2 .nil)))) hG
    (w' := (((w1.setCell ⟨b4, 0, none⟩ (.bool s)).setCell ⟨b4, 1, none⟩ u).setCell ⟨b4, 2, none⟩ (.bool false)).setCell ⟨b4, 3, none⟩ d) (by rw [hty]; exact set_four hw1 hcl) rfl rfl rfl
  have hX := (hX1.trans hX2 (Nat.le_refl _) hle).trans hX3 hle (Nat.le_refl _)
  refine ⟨_, r', rfl, ?_, by simpa using hX.congr fun n => .inr (Tr.get_set _ _ _ _)⟩
  rw [hzv]
  exact .ptr hb3'
end
noncomputable def wCfg (A : List Xs) : Cfg Wf where
  hid := wHid
  G := natCfg.G
  tab := natCfg.tab
  len _ := none
  hard := wHard A
instance wCfgHard (A : List Xs) : HardLoc (wCfg A) := ⟨fun o vs => loc_wHard A o vs⟩
theorem wFits {ρ : XEnv} {A : List Xs} (hA : AllX ρ A) : Fits (wSig ρ) Tryz.prog (wCfg A) where
  hid := rfl
  G := rfl
  len := fun f n w v _ e => by cases e
  tab := natFits.tab
  mixed := natFits.mixed
  hard := wHard_ok hA rfl
noncomputable def wList (A : List Xs) : List (Nat × (List Value → Option (M Wf Value))) := [
  (202, fun args => w2 args fun x y => newW (.mul x y)),
  (242, fun args => w2 args fun x y => newW (.add x y)),
  (197, fun args => w2 args fun x y => newW (.gcd x y)),
  (243, fun args => w2 args (subA A)),
  (198, fun args => w2 args (cmpA A)),
  (141, setFracM A)]
theorem wList_ok {ρ : XEnv} {A : List Xs} (hA : AllX ρ A) : ∀ x ∈ wList A, SumF (wSig ρ) Tryz.prog x.1 x.2 := by
  intro x hx
  simp only [wList, List.mem_cons, List.not_mem_nil, or_false] at hx
  rcases hx with rfl | rfl | rfl | rfl | rfl | rfl
  · exact w_mul
  · exact w_add
  · exact w_gcd
  · exact w_sub hA
  · exact w_cmp hA
  · exact w_setFrac hA
noncomputable def wSums (A : List Xs) : Sums Wf := sumsOf (mkTab (wList A))
theorem wSums_ok {ρ : XEnv} {A : List Xs} (hA : AllX ρ A) : SumOK (wSig ρ) Tryz.prog (wSums A) := sumsOf_ok (wList_ok hA)
end Ev
end Go.Proofs.YthjofdfnppadnaaGreatDoor
namespace Go.Proofs.YthjofdfnppadnaaGreatDoor
open Go Go.RowKit
namespace Ev
set_option maxRecDepth 100000
noncomputable def freshI (s : Bool) (e : Xe) : M Wf Value := bind (newFact (.wd e)) fun u => bind (fresh (.cells [.bool s, u] 100)) fun n => ret (vptr n 0)
theorem loc_freshI (s : Bool) (e : Xe) : Loc (freshI s e) := loc_bind (loc_newFact _) fun _ => loc_bind (loc_fresh _) fun _ => loc_ret _
noncomputable def numberM (args : List Value) : Option (M Wf Value) := match args with
  | [a] => some (bind (fact a) fun f => match f with
    | .st e => bind (freshI false e) fun p => ret (.tuple ⟨[p, .bool true]⟩)
    | .sb => ret (.tuple ⟨[.pointer none, .bool false]⟩)
    | _ => fail)
  | _ => none
noncomputable def newIntM (args : List Value) : Option (M Wf Value) := match args with
  | [a] => match a with
    | .int k m => match k with
      | .i64 => match m with
        | .ofNat j => some (cond (Nat.ble j 1000000) (freshI false (.c j)) fail)
        | _ => none
      | _ => none
    | _ => none
  | _ => none
noncomputable def bytesM (args : List Value) : Option (M Wf Value) := match args with
  | [a] => some (bind (rdInt a) fun x => cond (xokB x.2) (newFact (.by_ x.2)) fail)
  | _ => none
section
variable {ρ : XEnv} {A : List Xs} {h h' : Tr (Blk Wf)} {nx nx' : Nat} {Q W : List Nat} {r : Ren} {w w' : World}
theorem mod_none {F : Type} {S : Sig F} {r : Ren} {g : Nat → Option (Blk F)} {w : World} (hM : Mod S r g w) : Mod S r (fun _ => none) w := hM.congr fun _ => .inl rfl
theorem freshI_ok {s : Bool} {e0 : Xe} {v : Value} {b : Nat} (e : freshI s e0 h nx = .ok v h' nx' Q W) (hM : Mod (wSig ρ) r h.get w) (hN : New r nx nx') (hI : R.NewI w b s (e0.ev ρ.q) w') :
    ∃ r', VR r' v (.pointer (some ⟨b, 0, none⟩)) ∧ Ext (wSig ρ) r w nx nx' W h'.get r' w' := by
  obtain ⟨hge, ⟨u, hc, hu⟩, hb⟩ := hI
  unfold freshI at e
  obtain ⟨u0, h1, nx1, R1, W1, R2, W2, e1, e2, rfl, rfl⟩ := bind_ok e
  obtain ⟨i, h2, nx2, R3, W3, R4, W4, e3, e4, rfl, rfl⟩ := bind_ok e1
  obtain ⟨rfl, rfl, rfl, rfl⟩ := ret_ok e4
  unfold fresh at e3
  cases e3
  obtain ⟨n, h3, nx3, R5, W5, R6, W6, e5, e6, rfl, rfl⟩ := bind_ok e2
  obtain ⟨rfl, rfl, rfl, rfl⟩ := ret_ok e6
  unfold fresh at e5
  cases e5
  obtain ⟨r1, hX, hr, hbl⟩ := ext_fact2 (S := wSig ρ) (f := .wd e0) hM hb (hN.sub (Nat.le_refl _) (by omega)) hu (nin_one hu)
  obtain ⟨r2, hY, hr2⟩ := ext_adopt (c := [.bool s, .chan (some nx)]) (mod_none hM) hX hbl (New.after hN hX (by omega)) (by omega) hge hc (.cons (.same rfl) (.cons (.opq hr (nin_one hu)) .nil)) (by kernel_rfl)
  refine ⟨r2, .ptr hr2, ?_⟩
  have := hY.congr (g' := ((h.set nx (.fact (.wd e0))).set (nx + 1) (.cells [.bool s, .chan (some nx)] 100)).get) fun n => .inr (by
    rw [Tr.get_set]
    by_cases hn : n = nx + 1
    · rw [if_pos hn, if_pos hn]
    · rw [if_neg hn, if_neg hn]; exact Tr.get_set _ _ _ _)
  simpa using this
theorem goes_fact {f0 : Wf} {f : FuncId} {args' : List Value} {v : Value} (e : (newFact f0 : M Wf Value) h nx = .ok v h' nx' Q W) (hM : Mod (wSig ρ) r h.get w) (hN : New r nx nx')
    (c : Calls Tryz.prog f ⟨args'⟩ w fun e w' => ∃ v', e = .returned v' ∧ f0.holds ρ w' v' ∧ Below w.heap.size w w') : GoesW ρ f args' r w nx nx' W h'.get v := by
  obtain ⟨i, h1, nx1, R1, W1, R2, W2, e1, e2, rfl, rfl⟩ := bind_ok e
  obtain ⟨rfl, rfl, rfl, rfl⟩ := ret_ok e2
  unfold fresh at e1
  cases e1
  refine c.mono ?_
  rintro en w' ⟨v', rfl, hv, hb⟩
  obtain ⟨r', hX, hr⟩ := ext_fact (S := wSig ρ) (f := f0) hM hb hN hv (Wf.one hv)
  exact ⟨v', r', rfl, .opq hr (Wf.one hv), by simpa using hX.congr fun n => .inr (Tr.get_set _ _ _ _)⟩
theorem w_number : SumF (wSig ρ) Tryz.prog 135 numberM := by
  intro args m e
  unfold numberM at e
  rcases args with _ | ⟨a, _ | ⟨c, l⟩⟩ <;> simp only [reduceCtorEq, Option.some.injEq] at e
  subst e
  refine ⟨loc_bind (loc_fact a) fun f => ?_, ?_⟩
  · split
    · exact loc_bind (loc_freshI _ _) fun _ => loc_ret _
    · exact loc_ret _
    · exact loc_fail
  intro h nx v h' nx' Q W e r w args' ha hM hN
  cases ha with
  | cons ha hb =>
  cases hb
  obtain ⟨f, h1, nx1, R1, W1, R2, W2, e1, e2, rfl, rfl⟩ := bind_ok e
  obtain ⟨rfl, rfl, rfl, hh⟩ := fact_ok e1 ha hM
  cases f with
  | st e0 =>
    obtain ⟨rfl, hsz⟩ : _ ∧ _ := hh
    obtain ⟨p, h3, nx3, R5, W5, R6, W6, e5, e6, rfl, rfl⟩ := bind_ok (show (bind (freshI false e0) (fun p => ret (Value.tuple ⟨[p, .bool true]⟩)) : M Wf Value) h1 nx1 = .ok v h' nx' R2 W2 from e2)
    obtain ⟨rfl, rfl, rfl, rfl⟩ := ret_ok e6
    refine (R.number_ok w (e0.ev ρ.q) hsz).mono ?_
    rintro en w' ⟨b, rfl, hI⟩
    obtain ⟨r', hp, hX⟩ := freshI_ok e5 hM hN hI
    exact ⟨_, r', rfl, .tuple (.cons hp (.cons (.same rfl) .nil)), by simpa using hX⟩
  | sb =>
    obtain ⟨s, rfl, hs⟩ := hh
    have e3 : (ret (.tuple ⟨[.pointer none, .bool false]⟩) : M Wf Value) h1 nx1 = .ok v h' nx' R2 W2 := e2
    simpa using goes_pl e3 rfl hM ((R.number_bad w s hs).mono fun e w' hh => ⟨hh.1, hh.2 ▸ Below.refl _ w⟩)
  | _ => cases (show (fail : M Wf Value) h1 nx1 = _ from e2)
theorem w_newInt : SumF (wSig ρ) Tryz.prog 139 newIntM := by
  intro args m e
  unfold newIntM at e
  rcases args with _ | ⟨a, _ | ⟨c, l⟩⟩ <;> simp only [reduceCtorEq] at e
  cases a <;> simp only [reduceCtorEq] at e
  rename_i k z
  cases k <;> simp only [reduceCtorEq] at e
  cases z <;> simp only [reduceCtorEq, Option.some.injEq] at e
  rename_i j
  subst e
  refine ⟨loc_cond (loc_freshI _ _) loc_fail, ?_⟩
  intro h nx v h' nx' Q W e r w args' ha hM hN
  cases ha with
  | cons ha hb =>
  cases hb
  obtain ⟨hk, e1⟩ := cond_ok e
  have hk2 := Nat.le_of_ble_eq_true hk
  have := ha.eq_of_plain rfl
  subst this
  refine (R.newInt_nat w j (by omega)).mono ?_
  rintro en w' ⟨b, rfl, hI⟩
  obtain ⟨r', hp, hX⟩ := freshI_ok (e0 := .c j) e1 hM hN hI
  exact ⟨_, r', rfl, hp, hX⟩
theorem w_bytes : SumF (wSig ρ) Tryz.prog 200 bytesM := by
  intro args m e
  unfold bytesM at e
  rcases args with _ | ⟨a, _ | ⟨c, l⟩⟩ <;> simp only [reduceCtorEq, Option.some.injEq] at e
  subst e
  refine ⟨loc_bind (loc_rdInt a) fun f => loc_cond (loc_newFact _) loc_fail, ?_⟩
  intro h nx v h' nx' Q W e r w args' ha hM hN
  cases ha with
  | cons ha hb =>
  cases hb
  obtain ⟨x, h1, nx1, R1, W1, R2, W2, e1, e2, rfl, rfl⟩ := bind_ok e
  obtain ⟨rfl, rfl, rfl, b, o, rfl, hI⟩ := rdInt_ok e1 ha hM
  obtain ⟨hk, e3⟩ := cond_ok e2
  simpa [GoesW] using goes_fact e3 hM hN (R.bytes_any w b o _ _ hI (xokB_sml hk))
end
noncomputable def wList2 (A : List Xs) : List (Nat × (List Value → Option (M Wf Value))) := (135, numberM) :: (139, newIntM) :: (200, bytesM) :: wList A
theorem wList2_ok {ρ : XEnv} {A : List Xs} (hA : AllX ρ A) : ∀ x ∈ wList2 A, SumF (wSig ρ) Tryz.prog x.1 x.2 := by
  intro x hx
  rcases List.mem_cons.1 hx with rfl | hx
  · exact w_number
  rcases List.mem_cons.1 hx with rfl | hx
  · exact w_newInt
  rcases List.mem_cons.1 hx with rfl | hx
  · exact w_bytes
  · exact wList_ok hA x hx
noncomputable def wSums2 (A : List Xs) : Sums Wf := sumsOf (mkTab (wList2 A))
theorem wSums2_ok {ρ : XEnv} {A : List Xs} (hA : AllX ρ A) : SumOK (wSig ρ) Tryz.prog (wSums2 A) := sumsOf_ok (wList2_ok hA)
end Ev
end Go.Proofs.YthjofdfnppadnaaGreatDoor
namespace Go.Proofs.YthjofdfnppadnaaGreatDoor
open Go Go.RowKit
namespace Ev
set_option maxRecDepth 100000
noncomputable def blkR (s : Bool) (n d : Xe) : BL Wf := ⟨102, [.wd n, .wd d], [.p (.bool s), .one, .p (.bool false), .one]⟩
noncomputable def runV (A : List Xs) (bl : List (BL Wf)) (is : List Nat) (f : FuncId) : Option (E3 Wf) := tellsB bl [] (fun ps _ => sel is ps) (call Tryz.prog (wCfg A) (wSums A) 60 f)
noncomputable def outR (s : Bool) (n d : Xe) : E3 Wf := .one (.b 102 [.p (.bool s), .f (.wd (.quo n (.gcd n d))), .p (.bool false), .f (.wd (.quo d (.gcd n d)))])
noncomputable def intD (n : Int) : E3 Wf := .one (.d (.one (.p (.int .i64 n))))
noncomputable def x1 : Xe := .v 1
noncomputable def x2 : Xe := .v 2
noncomputable def x3 : Xe := .v 3
noncomputable def xv : Xe := .v 0
section
variable (a b c d : Xe)
noncomputable def dens : List Xs := [⟨1, b, x0, false⟩, ⟨1, d, x0, false⟩, ⟨1, .mul b d, x0, false⟩]
noncomputable def sumT (na nb lt eq : Bool) : List Xs := dens b d ++ [⟨1, .mul a d, x0, na⟩, ⟨1, .mul c b, x0, nb⟩, ⟨1, .add (.mul a d) (.mul c b), x0, na && nb⟩, ⟨3, .mul a d, .mul c b, lt⟩, ⟨2, .mul a d, .mul c b, eq⟩,
  ⟨1, .sub (.mul c b) (.mul a d), x0, !lt⟩, ⟨1, .sub (.mul a d) (.mul c b), x0, lt || eq⟩]
noncomputable def sumO (s t na nb lt eq : Bool) : E3 Wf := cond (beqB (s && !na) (t && !nb)) (outR ((s && !na) && !(na && nb)) (.add (.mul a d) (.mul c b)) (.mul b d))
  (cond lt (outR (t && !nb) (.sub (.mul c b) (.mul a d)) (.mul b d)) (outR ((s && !na) && !eq) (.sub (.mul a d) (.mul c b)) (.mul b d)))
end
theorem radd_run (s t na nb lt eq : Bool) (hx : (lt && eq) = false) : runV (sumT xv x1 x2 x3 na nb lt eq) [blkR s xv x1, blkR t x2 x3] [0, 1] 66 = some (sumO xv x1 x2 x3 s t na nb lt eq) := by
  cases lt <;> cases eq <;> first | (cases hx; done) | (cases s <;> cases t <;> cases na <;> cases nb <;> kernel_rfl)
theorem radd_self (s na : Bool) : runV (sumT xv x1 xv x1 na na false true) [blkR s xv x1] [0, 0] 66 = some (sumO xv x1 xv x1 s s na na false true) := by
  cases s <;> cases na <;> kernel_rfl
theorem rsub_run (s t na nb lt eq : Bool) (hx : (lt && eq) = false) : runV (sumT xv x1 x2 x3 na nb lt eq) [blkR s xv x1, blkR t x2 x3] [0, 1] 67 = some (sumO xv x1 x2 x3 s (!t) na nb lt eq) := by
  cases lt <;> cases eq <;> first | (cases hx; done) | (cases s <;> cases t <;> cases na <;> cases nb <;> kernel_rfl)
theorem rsub_self (s na : Bool) : runV (sumT xv x1 xv x1 na na false true) [blkR s xv x1] [0, 0] 67 = some (sumO xv x1 xv x1 s (!s) na na false true) := by
  cases s <;> cases na <;> kernel_rfl
theorem rmul_run (s t nn : Bool) : runV (dens x1 x3 ++ [⟨1, .mul xv x2, x0, nn⟩]) [blkR s xv x1, blkR t x2 x3] [0, 1] 68 = some (outR (xor s t && !nn) (.mul xv x2) (.mul x1 x3)) := by
  cases s <;> cases t <;> cases nn <;> kernel_rfl
theorem rmul_self (s nn : Bool) : runV (dens x1 x1 ++ [⟨1, .mul xv xv, x0, nn⟩]) [blkR s xv x1] [0, 0] 68 = some (outR false (.mul xv xv) (.mul x1 x1)) := by
  cases s <;> cases nn <;> kernel_rfl
theorem rquo_run (s t nn : Bool) : runV (dens x1 x3 ++ [⟨1, .mul xv x3, x0, nn⟩, ⟨1, .mul x1 x2, x0, false⟩]) [blkR s xv x1, blkR t x2 x3] [0, 1] 70 = some (outR (xor (s && !nn) t && !nn) (.mul xv x3) (.mul x1 x2)) := by
  cases s <;> cases t <;> cases nn <;> kernel_rfl
theorem rquo_self (s : Bool) : runV (dens x1 x1 ++ [⟨1, .mul xv x1, x0, false⟩, ⟨1, .mul x1 xv, x0, false⟩]) [blkR s xv x1] [0, 0] 70 = some (outR false (.mul xv x1) (.mul x1 xv)) := by
  cases s <;> kernel_rfl
theorem rsign_run (s n : Bool) : runV [⟨1, xv, x0, n⟩] [blkR s xv x1] [0] 69 = some (intD (cond n 0 (cond s (-1) 1))) := by
  cases s <;> cases n <;> kernel_rfl
end Ev
end Go.Proofs.YthjofdfnppadnaaGreatDoor
namespace Go.Proofs.YthjofdfnppadnaaGreatDoor
open Go Go.RowKit
namespace Ev
set_option maxRecDepth 100000
theorem nin_inj {w : World} {v : Value} {m n : Nat} (h : R.Nin w v m) (k : R.Nin w v n) : m = n := by
  obtain ⟨l, ⟨A, c, e, -, -, h3⟩, ol, nl, rfl⟩ := h
  obtain ⟨l', ⟨A', c', e', -, -, k3⟩, ol', nl', rfl⟩ := k
  rw [e] at e'
  injection e' with e1 e2 e3
  subst e1
  have hl : l = l' := by
    refine List.ext_getElem e2 fun i h1 h2 => ?_
    obtain ⟨b, o, rfl, -, hc, -⟩ := h3 (by omega)
    obtain ⟨b', o', eb, -, hc', -⟩ := k3 (by omega)
    injection eb with eb
    injection eb with e4 e5
    subst e4; subst e5
    have := (hc i h1).symm.trans (hc' i h2)
    have he : ((Big.nth l i : Nat) : Int) = ((Big.nth l' i : Nat) : Int) := by simpa using this
    unfold Big.nth at he
    simp only [List.getD, List.getElem?_eq_getElem h1, List.getElem?_eq_getElem h2, Option.getD_some] at he
    omega
  rw [hl]
def RB (q : Rat) : Prop := Bits 262144 (Big.nu q) ∧ Bits 262144 (Big.de q)
theorem ratIn_inj {w : World} {v : Value} {p q : Rat} (h : RatIn w v p) (k : RatIn w v q) : p = q := by
  obtain ⟨b, rfl, -, u, d, hb, hu, hd⟩ := h
  obtain ⟨b', e, -, u', d', hb', hu', hd'⟩ := k
  injection e with e
  injection e with e
  injection e with e
  subst e
  rw [hb] at hb'
  simp only [Option.some.injEq, Obj.cells.injEq, Array.mk.injEq, List.cons.injEq, Value.bool.injEq, and_true, true_and] at hb'
  obtain ⟨e1, rfl, rfl⟩ := hb'
  rw [Big.is_mk p, Big.is_mk q, e1, nin_inj hu hu', nin_inj hd hd']
theorem bits_zero (k : Nat) : Bits k 0 := ⟨Nat.two_pow_pos k⟩
def xenv (l : List Nat) (h : ∀ n ∈ l, Bits 262144 n) : XEnv := ⟨fun i => l.getD i 0, fun i => by
  rcases Nat.lt_or_ge i l.length with h1 | h1
  · simp only [List.getD, List.getElem?_eq_getElem h1, Option.getD_some]; exact h _ (List.getElem_mem h1)
  · simp only [List.getD, List.getElem?_eq_none h1, Option.getD_none]; exact bits_zero _⟩
theorem blkR_are {ρ : XEnv} {w : World} {b : Nat} {s : Bool} {n d : Xe} {u v : Value} (hb : w.heap[b]? = some (.cells ⟨[.bool s, u, .bool false, v]⟩ 102 (0, 0))) (hu : R.Nin w u (n.ev ρ.q)) (hv : R.Nin w v (d.ev ρ.q)) :
    ∃ us, HoldsL (wSig ρ) w (blkR s n d).fs us ∧ w.heap[b]? = some (.cells ⟨split (blkR s n d).ls us⟩ (blkR s n d).t (0, 0)) :=
  ⟨[u, v], ⟨u, [v], rfl, hu, nin_one hu, v, [], rfl, hv, nin_one hv, rfl⟩, hb⟩
structure OutOK (ρ : XEnv) (s : Bool) (n d : Xe) (z : Rat) : Prop where
  d0 : 0 < d.ev ρ.q
  n0 : s = true → 0 < n.ev ρ.q
  eq : z = mkRat (Big.sI s (n.ev ρ.q)) (d.ev ρ.q)
theorem outR_parts {ρ : XEnv} {s : Bool} {n d : Xe} {z : Rat} (h : OutOK ρ s n d z) : Big.ng z = s ∧ Big.nu z = n.ev ρ.q / Nat.gcd (n.ev ρ.q) (d.ev ρ.q) ∧ Big.de z = d.ev ρ.q / Nat.gcd (n.ev ρ.q) (d.ev ρ.q) := by
  obtain ⟨h1, h2, h3⟩ := Big.of_parts s (n.ev ρ.q) (d.ev ρ.q) h.d0
  rw [h.eq]
  refine ⟨?_, h2, h3⟩
  rw [h1]
  cases s with
  | false => rfl
  | true =>
    have := h.n0 rfl
    rw [decide_eq_true (Nat.div_pos (Nat.le_of_dvd this (Nat.gcd_dvd_left _ _)) (Nat.gcd_pos_of_pos_right _ h.d0))]; rfl
theorem outR_is {ρ : XEnv} {lo : Nat} {bs : List Nat} {w : World} {v : Value} {s : Bool} {n d : Xe} {z : Rat} (h : (outR s n d).is (wSig ρ) lo bs w v) (hz : OutOK ρ s n d z) (hlo : Tryz.prog.globals.size ≤ lo) : RatIn w v z := by
  obtain ⟨b, vs, rfl, hb, hh, v1, l1, rfl, h1, v2, l2, rfl, h2, v3, l3, rfl, h3, v4, l4, rfl, h4, h5⟩ := h
  obtain rfl : l4 = [] := h5
  obtain rfl : v1 = .bool s := h1
  obtain rfl : v3 = .bool false := h3
  obtain ⟨p1, p2, p3⟩ := outR_parts hz
  refine ⟨b, rfl, Nat.le_trans hlo hb, v2, v4, by rw [p1]; exact hh, ?_, ?_⟩
  · rw [p2]; exact h2
  · rw [p3]; exact h4
def RRes (w : World) (z : Rat) (e : Ending) (w' : World) : Prop := ∃ v, e = .returned v ∧ RatIn w' v z ∧ Below w.heap.size w w'
theorem ref2_any {f : FuncId} {w : World} {x y : Value} {p q z : Rat} (hx : RatIn w x p) (hy : RatIn w y q) (bp : RB p) (bq : RB q) (hG : Tryz.prog.globals.size ≤ w.heap.size) (hT : Tab w)
    (h1 : ∀ ρ : XEnv, ρ.q 0 = Big.nu p → ρ.q 1 = Big.de p → ρ.q 2 = Big.nu q → ρ.q 3 = Big.de q → ∃ A s n d, AllX ρ A ∧ runV A [blkR (Big.ng p) xv x1, blkR (Big.ng q) x2 x3] [0, 1] f = some (outR s n d) ∧ OutOK ρ s n d z)
    (h2 : p = q → ∀ ρ : XEnv, ρ.q 0 = Big.nu p → ρ.q 1 = Big.de p → ∃ A s n d, AllX ρ A ∧ runV A [blkR (Big.ng p) xv x1] [0, 0] f = some (outR s n d) ∧ OutOK ρ s n d z) :
    Calls Tryz.prog f ⟨[x, y]⟩ w (RRes w z) := by
  have hx0 := hx
  obtain ⟨b1, rfl, g1, u1, d1, hb1, hu1, hd1⟩ := hx
  have hy0 := hy
  obtain ⟨b2, rfl, g2, u2, d2, hb2, hu2, hd2⟩ := hy
  have hlim : (wSig (xenv [] (by simp))).G ≤ 100000 := by show Tryz.prog.globals.size ≤ 100000; exact Nat.le_of_ble_eq_true (by kernel_rfl)
  by_cases hbb : b1 = b2
  · subst hbb
    have hpq := ratIn_inj hx0 hy0
    obtain ⟨A, s, n, d, hA, hr, ho⟩ := h2 hpq (xenv [Big.nu p, Big.de p] (by intro n hn; simp only [List.mem_cons, List.not_mem_nil, or_false] at hn; rcases hn with rfl | rfl; exact bp.1; exact bp.2)) rfl rfl
    refine (tellsB_calls (wFits hA) (wSums_ok hA) hr (fun _ _ _ _ _ hp _ => sel_ok hp _) (by kernel_rfl) hlim (bs := [b1]) (us := []) ⟨b1, [], rfl, blkR_are hb1 hu1 hd1, by simp, g1, rfl⟩ rfl hG hT).mono ?_
    rintro e w' ⟨v, rfl, hv, hb⟩
    exact ⟨v, rfl, outR_is hv ho hG, hb⟩
  · obtain ⟨A, s, n, d, hA, hr, ho⟩ := h1 (xenv [Big.nu p, Big.de p, Big.nu q, Big.de q] (by intro n hn; simp only [List.mem_cons, List.not_mem_nil, or_false] at hn; rcases hn with rfl | rfl | rfl | rfl; exact bp.1; exact bp.2; exact bq.1; exact bq.2)) rfl rfl rfl rfl
    refine (tellsB_calls (wFits hA) (wSums_ok hA) hr (fun _ _ _ _ _ hp _ => sel_ok hp _) (by kernel_rfl) hlim (bs := [b1, b2]) (us := []) ⟨b1, [b2], rfl, blkR_are hb1 hu1 hd1, by simp [hbb], g1, b2, [], rfl, blkR_are hb2 hu2 hd2, by simp, g2, rfl⟩ rfl hG hT).mono ?_
    rintro e w' ⟨v, rfl, hv, hb⟩
    exact ⟨v, rfl, outR_is hv ho hG, hb⟩
theorem de_pos (q : Rat) : 0 < Big.de q := Nat.pos_of_ne_zero q.den_nz
theorem allX_nil (ρ : XEnv) : AllX ρ [] := fun x hx => by cases hx
theorem allX_cons {ρ : XEnv} {x : Xs} {A : List Xs} (h : x.holds ρ.q) (i : AllX ρ A) : AllX ρ (x :: A) := fun y hy => by
  rcases List.mem_cons.1 hy with rfl | hy
  · exact h
  · exact i y hy
theorem sI_mul (s : Bool) (a d : Nat) : Big.sI s a * (d : Int) = Big.sI s (a * d) := by
  cases s <;> simp [Big.sI, Int.neg_mul]
theorem sI_add (s t : Bool) (A B : Nat) : ∃ S N, (cond (beqB (s && !decide (A = 0)) (t && !decide (B = 0))) ((s && !decide (A = 0)) && !(decide (A = 0) && decide (B = 0)), A + B) (cond (decide (A < B)) (t && !decide (B = 0), B - A) ((s && !decide (A = 0)) && !decide (A = B), A - B)) : Bool × Nat) = (S, N) ∧
    Big.sI s A + Big.sI t B = Big.sI S N ∧ (S = true → 0 < N) := by
  refine ⟨_, _, rfl, ?_⟩
  rcases Nat.eq_zero_or_pos A with hA | hA <;> rcases Nat.eq_zero_or_pos B with hB | hB <;> cases s <;> cases t <;> rcases Nat.lt_trichotomy A B with h | h | h <;>
    first
      | (exfalso; omega)
      | (have e1 : ¬ A = 0 := by omega
         have e2 : ¬ B = 0 := by omega
         have e3 : ¬ A < B := by omega
         have e4 : ¬ A = B := by omega
         simp [e1, e2, e3, e4, Big.sI, beqB]; try omega)
      | (have e1 : ¬ A = 0 := by omega
         have e2 : ¬ B = 0 := by omega
         have e3 : ¬ A < B := by omega
         subst h
         simp [e1, Big.sI, beqB]; try omega)
      | (have e1 : ¬ A = 0 := by omega
         have e2 : ¬ B = 0 := by omega
         simp [e1, e2, h, Big.sI, beqB]; try omega)
      | (have e1 : ¬ A = 0 := by omega
         subst hB
         simp [e1, hA, Big.sI, beqB]; try omega)
      | (have e1 : ¬ B = 0 := by omega
         subst hA
         simp [e1, hB, Big.sI, beqB]; try omega)
      | (subst hA; subst hB; simp [Big.sI, beqB])
theorem holds1 {ρ : Nat → Nat} {a : Xe} {t : Bool} (h : t = true ↔ a.ev ρ = 0) : (⟨1, a, x0, t⟩ : Xs).holds ρ := h
theorem holds2 {ρ : Nat → Nat} {a b : Xe} {t : Bool} (h : t = true ↔ a.ev ρ = b.ev ρ) : (⟨2, a, b, t⟩ : Xs).holds ρ := h
theorem holds3 {ρ : Nat → Nat} {a b : Xe} {t : Bool} (h : t = true ↔ a.ev ρ < b.ev ρ) : (⟨3, a, b, t⟩ : Xs).holds ρ := h
theorem holds4 {ρ : Nat → Nat} {a : Xe} {t : Bool} (h : t = true ↔ 512 < szN (a.ev ρ)) : (⟨4, a, x0, t⟩ : Xs).holds ρ := h
section
variable {ρ : XEnv} {a b c d : Xe}
theorem not_nought {n : Nat} (h : 0 < n) : (false = true ↔ n = 0) := ⟨fun h => (by cases h), fun h => (by omega)⟩
theorem dens_ok (hb : 0 < b.ev ρ.q) (hd : 0 < d.ev ρ.q) {A : List Xs} (hA : AllX ρ A) : AllX ρ (dens b d ++ A) :=
  allX_cons (holds1 (not_nought hb)) (allX_cons (holds1 (not_nought hd)) (allX_cons (holds1 (not_nought (Nat.mul_pos hb hd))) hA))
theorem sum_ok (s t : Bool) (hb : 0 < b.ev ρ.q) (hd : 0 < d.ev ρ.q) {A B : Nat} (eA : A = a.ev ρ.q * d.ev ρ.q) (eB : B = c.ev ρ.q * b.ev ρ.q) :
    AllX ρ (sumT a b c d (decide (A = 0)) (decide (B = 0)) (decide (A < B)) (decide (A = B))) ∧ (decide (A < B) && decide (A = B)) = false ∧
    ∃ S N D, sumO a b c d s t (decide (A = 0)) (decide (B = 0)) (decide (A < B)) (decide (A = B)) = outR S N D ∧ OutOK ρ S N D (mkRat (Big.sI s (a.ev ρ.q)) (b.ev ρ.q) + mkRat (Big.sI t (c.ev ρ.q)) (d.ev ρ.q)) := by
  have hq : mkRat (Big.sI s (a.ev ρ.q)) (b.ev ρ.q) + mkRat (Big.sI t (c.ev ρ.q)) (d.ev ρ.q) = mkRat (Big.sI s A + Big.sI t B) (b.ev ρ.q * d.ev ρ.q) := by
    rw [Rat.mkRat_add_mkRat _ _ (by omega) (by omega), sI_mul, sI_mul, eA, eB]
  refine ⟨dens_ok hb hd (allX_cons (holds1 ?_) (allX_cons (holds1 ?_) (allX_cons (holds1 ?_) (allX_cons (holds3 ?_) (allX_cons (holds2 ?_) (allX_cons (holds1 ?_) (allX_cons (holds1 ?_) (allX_nil ρ)))))))), ?_, ?_⟩
  · rw [decide_eq_true_iff, eA]; rfl
  · rw [decide_eq_true_iff, eB]; rfl
  · rw [Bool.and_eq_true, decide_eq_true_iff, decide_eq_true_iff]
    show _ ↔ a.ev ρ.q * d.ev ρ.q + c.ev ρ.q * b.ev ρ.q = 0
    rw [← eA, ← eB]; omega
  · rw [decide_eq_true_iff, eA, eB]; rfl
  · rw [decide_eq_true_iff, eA, eB]; rfl
  · rw [Bool.not_eq_true', decide_eq_false_iff_not]
    show _ ↔ c.ev ρ.q * b.ev ρ.q - a.ev ρ.q * d.ev ρ.q = 0
    rw [← eA, ← eB]; omega
  · rw [Bool.or_eq_true, decide_eq_true_iff, decide_eq_true_iff]
    show _ ↔ a.ev ρ.q * d.ev ρ.q - c.ev ρ.q * b.ev ρ.q = 0
    rw [← eA, ← eB]; omega
  · rw [Bool.and_eq_false_iff, decide_eq_false_iff_not, decide_eq_false_iff_not]; omega
  · obtain ⟨S, N, hSN, heq, hpos⟩ := sI_add s t A B
    rw [hq, heq]
    have fin : ∀ {S' : Bool} {N' : Xe} {n : Nat}, (S', n) = (S, N) → N'.ev ρ.q = n → OutOK ρ S' N' (.mul b d) (mkRat (Big.sI S N) (b.ev ρ.q * d.ev ρ.q)) := by
      rintro S' N' n h1 h2
      simp only [Prod.mk.injEq] at h1
      obtain ⟨rfl, rfl⟩ := h1
      exact ⟨Nat.mul_pos hb hd, fun h => by rw [h2]; exact hpos h, by rw [h2]; rfl⟩
    unfold sumO
    cases h1 : beqB (s && !decide (A = 0)) (t && !decide (B = 0)) with
    | true =>
      rw [h1] at hSN
      exact ⟨_, _, _, rfl, fin hSN (by rw [eA, eB]; rfl)⟩
    | false =>
      rw [h1] at hSN
      cases h2 : decide (A < B) with
      | true =>
        rw [h2] at hSN
        exact ⟨_, _, _, rfl, fin hSN (by rw [eA, eB]; rfl)⟩
      | false =>
        rw [h2] at hSN
        exact ⟨_, _, _, rfl, fin hSN (by rw [eA, eB]; rfl)⟩
end
section
variable {w : World} {x y : Value} {p q : Rat}
theorem mk_ev {ρ : XEnv} {p : Rat} {i j : Nat} (h0 : ρ.q i = Big.nu p) (h1 : ρ.q j = Big.de p) : p = mkRat (Big.sI (Big.ng p) ((Xe.v i).ev ρ.q)) ((Xe.v j).ev ρ.q) := by
  show p = mkRat (Big.sI (Big.ng p) (ρ.q i)) (ρ.q j)
  rw [h0, h1]; exact Big.is_mk p
theorem radd_any (hx : RatIn w x p) (hy : RatIn w y q) (bp : RB p) (bq : RB q) (hG : Tryz.prog.globals.size ≤ w.heap.size) (hT : Tab w) : Calls Tryz.prog 66 ⟨[x, y]⟩ w (RRes w (p + q)) := by
  refine ref2_any hx hy bp bq hG hT (fun ρ e0 e1 e2 e3 => ?_) fun e ρ e0 e1 => ?_
  · obtain ⟨hA, hlt, S, N, D, hS, hO⟩ := sum_ok (ρ := ρ) (a := xv) (b := x1) (c := x2) (d := x3) (Big.ng p) (Big.ng q) (by show 0 < ρ.q 1; rw [e1]; exact de_pos p) (by show 0 < ρ.q 3; rw [e3]; exact de_pos q) rfl rfl
    refine ⟨_, S, N, D, hA, by rw [radd_run _ _ _ _ _ _ hlt, hS], ?_⟩
    have := hO
    unfold xv x1 x2 x3 at this
    rwa [← mk_ev e0 e1, ← mk_ev e2 e3] at this
  · subst e
    obtain ⟨hA, -, S, N, D, hS, hO⟩ := sum_ok (ρ := ρ) (a := xv) (b := x1) (c := xv) (d := x1) (Big.ng p) (Big.ng p) (by show 0 < ρ.q 1; rw [e1]; exact de_pos p) (by show 0 < ρ.q 1; rw [e1]; exact de_pos p) rfl rfl
    rw [decide_eq_false (Nat.lt_irrefl _), decide_eq_true (rfl : xv.ev ρ.q * x1.ev ρ.q = xv.ev ρ.q * x1.ev ρ.q)] at hA hS
    refine ⟨_, S, N, D, hA, by rw [radd_self, hS], ?_⟩
    have := hO
    unfold xv x1 at this
    rwa [← mk_ev e0 e1] at this
theorem neg_mk (q : Rat) : mkRat (Big.sI (!Big.ng q) (Big.nu q)) (Big.de q) = -q := by
  have h := Big.is_mk q
  have e : Big.sI (!Big.ng q) (Big.nu q) = -Big.sI (Big.ng q) (Big.nu q) := by cases Big.ng q <;> simp [Big.sI]
  rw [e, ← Rat.neg_mkRat, ← h]
theorem rsub_any (hx : RatIn w x p) (hy : RatIn w y q) (bp : RB p) (bq : RB q) (hG : Tryz.prog.globals.size ≤ w.heap.size) (hT : Tab w) : Calls Tryz.prog 67 ⟨[x, y]⟩ w (RRes w (p - q)) := by
  refine ref2_any hx hy bp bq hG hT (fun ρ e0 e1 e2 e3 => ?_) fun e ρ e0 e1 => ?_
  · obtain ⟨hA, hlt, S, N, D, hS, hO⟩ := sum_ok (ρ := ρ) (a := xv) (b := x1) (c := x2) (d := x3) (Big.ng p) (!Big.ng q) (by show 0 < ρ.q 1; rw [e1]; exact de_pos p) (by show 0 < ρ.q 3; rw [e3]; exact de_pos q) rfl rfl
    refine ⟨_, S, N, D, hA, by rw [rsub_run _ _ _ _ _ _ hlt, hS], ?_⟩
    have := hO
    unfold xv x1 x2 x3 at this
    rw [← mk_ev e0 e1] at this
    rw [Rat.sub_eq_add_neg, ← neg_mk q, ← e2, ← e3]
    exact this
  · subst e
    obtain ⟨hA, -, S, N, D, hS, hO⟩ := sum_ok (ρ := ρ) (a := xv) (b := x1) (c := xv) (d := x1) (Big.ng p) (!Big.ng p) (by show 0 < ρ.q 1; rw [e1]; exact de_pos p) (by show 0 < ρ.q 1; rw [e1]; exact de_pos p) rfl rfl
    rw [decide_eq_false (Nat.lt_irrefl _), decide_eq_true (rfl : xv.ev ρ.q * x1.ev ρ.q = xv.ev ρ.q * x1.ev ρ.q)] at hA hS
    refine ⟨_, S, N, D, hA, by rw [rsub_self, hS], ?_⟩
    have := hO
    unfold xv x1 at this
    rw [← mk_ev e0 e1] at this
    rw [Rat.sub_eq_add_neg]
    have hn := neg_mk p
    rw [← e0, ← e1] at hn
    rw [← hn]
    exact this
theorem sI_prod (s t : Bool) (a c : Nat) : Big.sI s a * Big.sI t c = Big.sI (xor s t) (a * c) := by
  cases s <;> cases t <;> simp [Big.sI, Int.neg_mul, Int.mul_neg]
theorem sI_zero (s t : Bool) (n : Nat) (h : n ≠ 0 → s = t) : Big.sI s n = Big.sI t n := by
  rcases Nat.eq_zero_or_pos n with h0 | h0
  · subst h0; cases s <;> cases t <;> rfl
  · rw [h (by omega)]
theorem rmul_any (hx : RatIn w x p) (hy : RatIn w y q) (bp : RB p) (bq : RB q) (hG : Tryz.prog.globals.size ≤ w.heap.size) (hT : Tab w) : Calls Tryz.prog 68 ⟨[x, y]⟩ w (RRes w (p * q)) := by
  have key : ∀ (s : Bool), s = (xor (Big.ng p) (Big.ng q) && !decide (Big.nu p * Big.nu q = 0)) → (s = true → 0 < Big.nu p * Big.nu q) ∧ p * q = mkRat (Big.sI s (Big.nu p * Big.nu q)) (Big.de p * Big.de q) := by
    intro s hs
    refine ⟨fun h => ?_, ?_⟩
    · rw [hs, Bool.and_eq_true, Bool.not_eq_true', decide_eq_false_iff_not] at h
      omega
    · rw [sI_zero s (xor (Big.ng p) (Big.ng q)) _ fun h => by rw [hs, decide_eq_false h]; simp]
      rw [← sI_prod]
      conv => lhs; rw [Big.is_mk p, Big.is_mk q]
      rw [Rat.mkRat_mul_mkRat]
  refine ref2_any hx hy bp bq hG hT (fun ρ e0 e1 e2 e3 => ?_) fun e ρ e0 e1 => ?_
  · have d1 : 0 < x1.ev ρ.q := by show 0 < ρ.q 1; rw [e1]; exact de_pos p
    have d3 : 0 < x3.ev ρ.q := by show 0 < ρ.q 3; rw [e3]; exact de_pos q
    obtain ⟨k1, k2⟩ := key _ rfl
    rw [← e0, ← e1, ← e2, ← e3] at k2
    rw [← e0, ← e2] at k1
    exact ⟨_, _, _, _, dens_ok d1 d3 (allX_cons (holds1 (t := decide (ρ.q 0 * ρ.q 2 = 0)) decide_eq_true_iff) (allX_nil ρ)), rmul_run _ _ _, ⟨Nat.mul_pos d1 d3, k1, k2⟩⟩
  · subst e
    have d1 : 0 < x1.ev ρ.q := by show 0 < ρ.q 1; rw [e1]; exact de_pos p
    obtain ⟨k1, k2⟩ := key false (by simp)
    rw [← e0, ← e1] at k2
    exact ⟨_, _, _, _, dens_ok d1 d1 (allX_cons (holds1 (t := decide (ρ.q 0 * ρ.q 0 = 0)) decide_eq_true_iff) (allX_nil ρ)), rmul_self _ _, ⟨Nat.mul_pos d1 d1, fun h => (by cases h), k2⟩⟩
theorem quo_mk (p q : Rat) (hq : q ≠ 0) : p / q = mkRat (Big.sI (xor (Big.ng p) (Big.ng q)) (Big.nu p * Big.de q)) (Big.de p * Big.nu q) := by
  have h0 : Big.nu q ≠ 0 := fun h => hq (Big.nu_zero.1 h)
  obtain ⟨i1, i2, i3⟩ := Big.inv_parts q h0
  rw [Rat.div_def]
  conv => lhs; rw [Big.is_mk p, Big.is_mk q⁻¹, i1, i2, i3]
  rw [Rat.mkRat_mul_mkRat, sI_prod]
theorem rquo_any (hx : RatIn w x p) (hy : RatIn w y q) (bp : RB p) (bq : RB q) (hq : q ≠ 0) (hG : Tryz.prog.globals.size ≤ w.heap.size) (hT : Tab w) : Calls Tryz.prog 70 ⟨[x, y]⟩ w (RRes w (p / q)) := by
  have hq0 : 0 < Big.nu q := Nat.pos_of_ne_zero fun h => hq (Big.nu_zero.1 h)
  have key : ∀ (s : Bool), s = (xor (Big.ng p && !decide (Big.nu p * Big.de q = 0)) (Big.ng q) && !decide (Big.nu p * Big.de q = 0)) → (s = true → 0 < Big.nu p * Big.de q) ∧ p / q = mkRat (Big.sI s (Big.nu p * Big.de q)) (Big.de p * Big.nu q) := by
    intro s hs
    refine ⟨fun h => ?_, ?_⟩
    · rw [hs, Bool.and_eq_true, Bool.not_eq_true', decide_eq_false_iff_not] at h
      omega
    · rw [sI_zero s (xor (Big.ng p) (Big.ng q)) _ fun h => by rw [hs, decide_eq_false h]; simp]
      exact quo_mk p q hq
  refine ref2_any hx hy bp bq hG hT (fun ρ e0 e1 e2 e3 => ?_) fun e ρ e0 e1 => ?_
  · have d1 : 0 < x1.ev ρ.q := by show 0 < ρ.q 1; rw [e1]; exact de_pos p
    have d3 : 0 < x3.ev ρ.q := by show 0 < ρ.q 3; rw [e3]; exact de_pos q
    have d2 : 0 < x2.ev ρ.q := by show 0 < ρ.q 2; rw [e2]; exact hq0
    obtain ⟨k1, k2⟩ := key _ rfl
    rw [← e0, ← e1, ← e2, ← e3] at k2
    rw [← e0, ← e3] at k1
    exact ⟨_, _, _, _, dens_ok d1 d3 (allX_cons (holds1 (t := decide (ρ.q 0 * ρ.q 3 = 0)) decide_eq_true_iff) (allX_cons (holds1 (a := .mul x1 x2) (not_nought (Nat.mul_pos d1 d2))) (allX_nil ρ))), rquo_run _ _ _, ⟨Nat.mul_pos d1 d2, k1, k2⟩⟩
  · subst e
    have d1 : 0 < x1.ev ρ.q := by show 0 < ρ.q 1; rw [e1]; exact de_pos p
    have d0 : 0 < xv.ev ρ.q := by show 0 < ρ.q 0; rw [e0]; exact hq0
    have hne : ¬ Big.nu p * Big.de p = 0 := by have := Nat.mul_pos hq0 (de_pos p); omega
    obtain ⟨k1, k2⟩ := key false (by rw [decide_eq_false hne]; cases Big.ng p <;> rfl)
    rw [← e0, ← e1] at k2
    exact ⟨_, _, _, _, dens_ok d1 d1 (allX_cons (holds1 (a := .mul xv x1) (not_nought (Nat.mul_pos d0 d1))) (allX_cons (holds1 (a := .mul x1 xv) (not_nought (Nat.mul_pos d1 d0))) (allX_nil ρ))), rquo_self _, ⟨Nat.mul_pos d1 d0, fun h => (by cases h), k2⟩⟩
end
end Ev
end Go.Proofs.YthjofdfnppadnaaGreatDoor
namespace Go.Proofs.YthjofdfnppadnaaGreatDoor
open Go Go.RowKit
namespace Ev
set_option maxRecDepth 100000
noncomputable def mkFrac (s : Bool) (vs : List Value) : List Value := match vs with
  | [a, b] => [.agg ⟨[.bool s, a, b]⟩]
  | _ => []
theorem mkFrac_ok (s : Bool) (r : Ren) (vs us : List Value) (h : VsR r vs us) : VsR r (mkFrac s vs) (mkFrac s us) := by
  match vs, us, h with
  | [], _, .nil => exact .nil
  | [a], _, .cons _ .nil => exact .nil
  | [a, b], _, .cons h1 (.cons h2 .nil) => exact .cons (.agg (.cons (.same rfl) (.cons h1 (.cons h2 .nil)))) .nil
  | a :: b :: c :: l, _, .cons h1 (.cons h2 (.cons h3 h4)) => exact .nil
noncomputable def runF (A : List Xs) (s : Bool) (a b : Wf) : Option (E3 Wf) := tellsB [] [a, b] (fun _ vs => mkFrac s vs) (call Tryz.prog (wCfg A) (wSums2 A) 60 64)
noncomputable def ratT (dz nz lt one : Bool) : List Xs := [⟨1, x1, x0, dz⟩, ⟨1, xv, x0, nz⟩, ⟨3, .gcd xv x1, .c 1, lt⟩, ⟨2, .gcd xv x1, .c 1, one⟩]
noncomputable def noR : E3 Wf := .tuple [.b 102 [.p (.bool false), .p (.slice none 0 0), .p (.bool false), .p (.slice none 0 0)], .d (.one (.p (.bool false)))]
noncomputable def yesR (s : Bool) : E3 Wf := .tuple [.b 102 [.p (.bool s), .f (.wd (.quo xv (.gcd xv x1))), .p (.bool false), .f (.wd (.quo x1 (.gcd xv x1)))], .d (.one (.p (.bool true)))]
theorem rat_run (s dz nz lt one : Bool) (h : (lt && !dz) = false) : runF (ratT dz nz lt one) s (.st xv) (.st x1) = some (cond (dz || ((s && nz) || !one)) noR (yesR s)) := by
  cases dz <;> cases lt <;> first | (cases h; done) | (cases s <;> cases nz <;> cases one <;> kernel_rfl)
theorem rat_badN (s : Bool) : runF [] s .sb (.st x1) = some noR := by cases s <;> kernel_rfl
theorem rat_badD (s : Bool) : runF [] s (.st xv) .sb = some noR := by cases s <;> kernel_rfl
theorem rat_badB (s : Bool) : runF [] s .sb .sb = some noR := by cases s <;> kernel_rfl
noncomputable def fracT (n l m : Bool) : List Xs := [⟨1, xv, x0, n⟩, ⟨1, x1, x0, false⟩, ⟨4, xv, x0, l⟩, ⟨4, x1, x0, m⟩]
noncomputable def fracO (s n l m : Bool) : E3 Wf := cond (l || m) (.tuple [.d (.agg [.p (.bool false), .p (.string ⟨#[]⟩), .p (.string ⟨#[]⟩)]), .d (.one (.p (.int .i64 3)))])
  (.tuple [.d (.agg [.p (.bool (s && !n)), .f (.sx xv), .f (.sx x1)]), .d (.one (.p (.int .i64 0)))])
theorem frac_run (s n l m : Bool) : tellsB [blkR s xv x1] [] (fun ps _ => sel [0] ps) (call Tryz.prog (wCfg (fracT n l m)) (wSums2 (fracT n l m)) 60 65) = some (fracO s n l m) := by
  cases s <;> cases n <;> cases l <;> cases m <;> kernel_rfl
end Ev
end Go.Proofs.YthjofdfnppadnaaGreatDoor
namespace Go.Proofs.YthjofdfnppadnaaGreatDoor
open Go Go.RowKit
namespace Ev
noncomputable def symC : Cfg Sy := symCfg (fun _ _ => fail)
instance symCHard : HardLoc symC := ⟨fun _ _ => loc_fail⟩
theorem symLen_ok (ρ : Env) : ∀ f n w v, (symSig ρ).holds f w v → symLen f = some n → ∃ a c, v = .slice a n c := fun f n w v h e => by
  cases f with
  | n k =>
    have e' : wordsN k = n := Option.some.inj e
    obtain ⟨a, c, rfl⟩ := nat_slice (show NatIn w v k from h)
    exact ⟨a, c, by rw [e']⟩
  | _ => cases e
theorem symFits (ρ : Env) : Fits (symSig ρ) Tryz.prog symC where
  hid := rfl
  G := rfl
  len := symLen_ok ρ
  tab := natFits.tab
  mixed := natFits.mixed
  hard := fun o vs h nx x h' nx' R W _ e => by cases (show (fail : M Sy Nxt) h nx = _ from e)
noncomputable def symSums (A : List As) : Sums Sy := sumsOf (mkTab (symList A))
theorem symSums_ok {ρ : Env} {A : List As} (hA : AllH ρ A) : SumOK (symSig ρ) Tryz.prog (symSums A) := sumsOf_ok (symList_ok hA)
noncomputable def frs (e : Qe) : List Sy := [.ng e, .fn e, .fd e]
noncomputable def rws (i : Nat) : List Sy := [.rg i, .rn i, .rd i]
noncomputable def inp (b : Bool) (i : Nat) : List Sy := cond b (frs (.v i)) (rws i)
noncomputable def inp4 (a b c d : Bool) : List Sy := inp a 0 ++ (inp b 1 ++ (inp c 2 ++ inp d 3))
noncomputable def seen (e : Qe) : List (D1 Sy) := [.f (.ng e), .f (.fn e), .f (.fd e)]
noncomputable def okD (e f : Qe) : D3 Sy := .tuple [.agg (seen e ++ seen f), .one (.p (.int .i64 0))]
noncomputable def zero6 : List Value := [.bool false, .string ⟨#[]⟩, .string ⟨#[]⟩, .bool false, .string ⟨#[]⟩, .string ⟨#[]⟩]
noncomputable def noD (n : Int) : D3 Sy := .tuple [.agg (zero6.map .p), .one (.p (.int .i64 n))]
noncomputable def run2 (A : List As) (fs : List Sy) (f : FuncId) : Option (D3 Sy) := tells fs [.agg 6, .agg 6] (call Tryz.prog symC (symSums A) 60 f)
noncomputable def v0 : Qe := .v 0
noncomputable def v1 : Qe := .v 1
noncomputable def v2 : Qe := .v 2
noncomputable def v3 : Qe := .v 3
noncomputable def fits (e f : Qe) (s t : Bool) : List As := [⟨0, e, z0, s⟩, ⟨0, f, z0, t⟩]
noncomputable def andD (s t : Bool) (e f : Qe) : D3 Sy := cond (s && t) (okD e f) (noD 3)
noncomputable def mRe : Qe := .sub (.mul v0 v2) (.mul v1 v3)
noncomputable def mIm : Qe := .add (.mul v0 v3) (.mul v1 v2)
set_option maxRecDepth 100000
theorem add_run (s t : Bool) : run2 (fits (.add v0 v2) (.add v1 v3) s t) (inp4 true true true true) 43 = some (andD s t (.add v0 v2) (.add v1 v3)) := by
  cases s <;> cases t <;> kernel_rfl
theorem sub_run (s t : Bool) : run2 (fits (.sub v0 v2) (.sub v1 v3) s t) (inp4 true true true true) 45 = some (andD s t (.sub v0 v2) (.sub v1 v3)) := by
  cases s <;> cases t <;> kernel_rfl
theorem mul_run (s t : Bool) : run2 (fits mRe mIm s t) (inp4 true true true true) 44 = some (andD s t mRe mIm) := by
  cases s <;> cases t <;> kernel_rfl
end Ev
end Go.Proofs.YthjofdfnppadnaaGreatDoor
namespace Go.Proofs.YthjofdfnppadnaaGreatDoor
open Go Go.RowKit
namespace Ev
abbrev Tri := Bool × ByteArray × ByteArray
def tri (q : Rat) : Tri := (Big.ng q, bst (Big.nu q), bst (Big.de q))
def cel (x : Tri) : List Value := [.bool x.1, .string x.2.1, .string x.2.2]
def gV (p q : Rat) : Value := .agg ⟨cel (tri p) ++ cel (tri q)⟩
noncomputable def gZ : Value := .agg ⟨zero6⟩
def GRes (w : World) (p q : Rat) (e : Ending) (w' : World) : Prop :=
  ((Fit p ∧ Fit q) ∧ e = .returned (.tuple ⟨[gV p q, .int .i64 0]⟩) ∨ ¬ (Fit p ∧ Fit q) ∧ e = .returned (.tuple ⟨[gZ, .int .i64 3]⟩)) ∧ Below w.heap.size w w'
def GErr (w : World) (n : Int) (e : Ending) (w' : World) : Prop := e = .returned (.tuple ⟨[gZ, .int .i64 n]⟩) ∧ Below w.heap.size w w'
section
variable {ρ : Env} {w : World} {v : Value}
theorem seen_is {e : Qe} {l : List (D1 Sy)} {vs : List Value} (h : D1.all (symSig ρ) w (seen e ++ l) vs) : ∃ us, vs = cel (tri (e.ev ρ.q)) ++ us ∧ D1.all (symSig ρ) w l us := by
  obtain ⟨v1, u1, rfl, h1, v2, u2, rfl, h2, v3, u3, rfl, h3, h4⟩ := h
  refine ⟨u3, ?_, h4⟩
  rw [show v1 = .bool (Big.ng (e.ev ρ.q)) from h1, show v2 = .string (bst (Big.nu (e.ev ρ.q))) from h2, show v3 = .string (bst (Big.de (e.ev ρ.q))) from h3]
  rfl
theorem okD_is {e f : Qe} (h : (okD e f).is (symSig ρ) w v) : v = .tuple ⟨[gV (e.ev ρ.q) (f.ev ρ.q), .int .i64 0]⟩ := by
  obtain ⟨vs, rfl, v1, u1, rfl, ⟨x, rfl, hx⟩, v2, u2, rfl, h2, h3⟩ := h
  obtain ⟨us, rfl, hy⟩ := seen_is hx
  have hy' : D1.all (symSig ρ) w (seen f ++ []) us := by simpa using hy
  obtain ⟨us2, rfl, hz⟩ := seen_is hy'
  obtain rfl : us2 = [] := hz
  obtain rfl : u2 = [] := h3
  rw [show v2 = .int .i64 0 from h2, List.append_nil]
  rfl
theorem all_p : ∀ {l vs : List Value}, D1.all (symSig ρ) w (l.map .p) vs → vs = l
  | [], vs, h => h
  | x :: l, vs, h => by
    obtain ⟨v, us, rfl, h1, h2⟩ := h
    rw [show v = x from h1, all_p h2]
theorem noD_is {n : Int} (h : (noD n).is (symSig ρ) w v) : v = .tuple ⟨[gZ, .int .i64 n]⟩ := by
  obtain ⟨vs, rfl, v1, u1, rfl, ⟨x, rfl, hx⟩, v2, u2, rfl, h2, h3⟩ := h
  obtain rfl : u2 = [] := h3
  rw [all_p hx, show v2 = .int .i64 n from h2]
  rfl
end
theorem holdsL_append {F : Type} {S : Sig F} {w : World} : ∀ {l l' : List F} {us us' : List Value}, HoldsL S w l us → HoldsL S w l' us' → HoldsL S w (l ++ l') (us ++ us')
  | [], l', us, us', h, h' => by
    obtain rfl : us = [] := h
    exact h'
  | f :: l, l', us, us', h, h' => by
    obtain ⟨u, vs, rfl, h1, h2, h3⟩ := h
    exact ⟨u, vs ++ us', rfl, h1, h2, holdsL_append h3 h'⟩
theorem part_of (x : Tri) : ∃ (b : Bool) (q : Rat) (r : Tri), Fit q ∧ BadF r ∧ (b = true → x = tri q) ∧ (b = false → x = r) := by
  by_cases h : BadF x
  · exact ⟨false, 0, x, ⟨by decide, by decide⟩, h, fun h => (by cases h), fun _ => rfl⟩
  · unfold BadF at h
    have h' : ∃ q : Rat, Fit q ∧ (x.1 = Big.ng q ∧ x.2.1 = bst (Big.nu q) ∧ x.2.2 = bst (Big.de q)) := by
      refine Classical.byContradiction fun hn => h fun q hq he => hn ⟨q, hq, he⟩
    obtain ⟨q, hq, h1, h2, h3⟩ := h'
    refine ⟨true, q, (false, ⟨#[]⟩, ⟨#[]⟩), hq, bad_zero, fun _ => ?_, fun h => (by cases h)⟩
    obtain ⟨x1, x2, x3⟩ := x
    simp only at h1 h2 h3
    rw [h1, h2, h3]; rfl
def pick {α : Type} (a b c d : α) : Nat → α
  | 0 => a
  | 1 => b
  | 2 => c
  | _ => d
theorem pick_all {α : Type} {p : α → Prop} {a b c d : α} (ha : p a) (hb : p b) (hc : p c) (hd : p d) : ∀ i, p (pick a b c d i)
  | 0 => ha
  | 1 => hb
  | 2 => hc
  | _ + 3 => hd
theorem inp_holds {ρ : Env} {w : World} {b : Bool} {i : Nat} {x : Tri} (h1 : b = true → x = tri (ρ.q i)) (h2 : b = false → x = ρ.raw i) : HoldsL (symSig ρ) w (inp b i) (cel x) := by
  cases b with
  | true =>
    rw [h1 rfl]
    exact frac_holds (w := w) (.v i)
  | false =>
    rw [h2 rfl]
    exact ⟨_, _, rfl, rfl, rfl, _, _, rfl, rfl, rfl, _, _, rfl, rfl, rfl, rfl⟩
structure In4 (x y z u : Tri) where
  ρ : Env
  a : Bool
  b : Bool
  c : Bool
  d : Bool
  hx : (a = true → x = tri (ρ.q 0)) ∧ (a = false → x = ρ.raw 0)
  hy : (b = true → y = tri (ρ.q 1)) ∧ (b = false → y = ρ.raw 1)
  hz : (c = true → z = tri (ρ.q 2)) ∧ (c = false → z = ρ.raw 2)
  hu : (d = true → u = tri (ρ.q 3)) ∧ (d = false → u = ρ.raw 3)
theorem in4 (x y z u : Tri) : ∃ i : In4 x y z u, True := by
  obtain ⟨a, q, r, h1, h2, h3⟩ := part_of x
  obtain ⟨b, q2, r2, i1, i2, i3⟩ := part_of y
  obtain ⟨c, q3, r3, j1, j2, j3⟩ := part_of z
  obtain ⟨d, q4, r4, k1, k2, k3⟩ := part_of u
  exact ⟨⟨Env.ofFit (pick q q2 q3 q4) (pick r r2 r3 r4) (pick_all h1 i1 j1 k1) (pick_all h2 i2 j2 k2), a, b, c, d, h3, i3, j3, k3⟩, trivial⟩
theorem In4.holds {x y z u : Tri} (i : In4 x y z u) (w : World) : HoldsL (symSig i.ρ) w (inp4 i.a i.b i.c i.d) (cel x ++ (cel y ++ (cel z ++ cel u))) :=
  holdsL_append (inp_holds i.hx.1 i.hx.2) (holdsL_append (inp_holds i.hy.1 i.hy.2) (holdsL_append (inp_holds i.hz.1 i.hz.2) (inp_holds i.hu.1 i.hu.2)))
theorem tri_inj {p q : Rat} (h : tri p = tri q) : p = q := by
  unfold tri at h
  simp only [Prod.mk.injEq] at h
  exact Big.parts_eq h.1 (bst_inj h.2.1) (bst_inj h.2.2)
theorem not_bad {q : Rat} (h : Fit q) : ¬ BadF (tri q) := fun hb => hb q h ⟨rfl, rfl, rfl⟩
def envOf (a b c d : Rat) (ha : Fit a) (hb : Fit b) (hc : Fit c) (hd : Fit d) : Env := Env.ofFit (pick a b c d) (fun _ => (false, ⟨#[]⟩, ⟨#[]⟩)) (pick_all ha hb hc hd) fun _ => bad_zero
theorem fits_hold {ρ : Env} {e f : Qe} {s t : Bool} (h1 : s = true ↔ Fit (e.ev ρ.q)) (h2 : t = true ↔ Fit (f.ev ρ.q)) : AllH ρ (fits e f s t) := by
  intro x hx
  simp only [fits, List.mem_cons, List.not_mem_nil, or_false] at hx
  rcases hx with rfl | rfl
  · exact h1
  · exact h2
theorem fit_bool (q : Rat) : ∃ s : Bool, s = true ↔ Fit q := by
  by_cases h : Fit q
  · exact ⟨true, fun _ => h, fun _ => rfl⟩
  · exact ⟨false, fun h => (by cases h), fun h2 => absurd h2 h⟩
theorem ga2 {f : FuncId} {e1 e2 : Qe} (run : ∀ s t, run2 (fits e1 e2 s t) (inp4 true true true true) f = some (andD s t e1 e2)) (w : World) {a b c d : Rat} (ha : Fit a) (hb : Fit b) (hc : Fit c) (hd : Fit d) (hG : Tryz.prog.globals.size ≤ w.heap.size) (hT : Tab w) :
    Calls Tryz.prog f ⟨[gV a b, gV c d]⟩ w (GRes w (e1.ev (pick a b c d)) (e2.ev (pick a b c d))) := by
  obtain ⟨s, hs⟩ := fit_bool (e1.ev (pick a b c d))
  obtain ⟨t, ht⟩ := fit_bool (e2.ev (pick a b c d))
  have hA : AllH (envOf a b c d ha hb hc hd) (fits e1 e2 s t) := fits_hold hs ht
  have hu : HoldsL (symSig (envOf a b c d ha hb hc hd)) w (inp4 true true true true) (cel (tri a) ++ (cel (tri b) ++ (cel (tri c) ++ cel (tri d)))) :=
    holdsL_append (inp_holds (fun _ => rfl) (fun h => (by cases h))) (holdsL_append (inp_holds (fun _ => rfl) (fun h => (by cases h))) (holdsL_append (inp_holds (fun _ => rfl) (fun h => (by cases h))) (inp_holds (fun _ => rfl) (fun h => (by cases h)))))
  refine (tells_calls (symFits _) (symSums_ok hA) (run s t) rfl glob_few hu hG hT).mono ?_
  rintro e w' ⟨v', rfl, hv, hb'⟩
  refine ⟨?_, hb'⟩
  unfold andD at hv
  cases s with
  | true => cases t with
    | true => exact .inl ⟨⟨hs.1 rfl, ht.1 rfl⟩, by rw [okD_is hv]; rfl⟩
    | false => exact .inr ⟨fun h => (by have := ht.2 h.2; cases this), by rw [noD_is hv]⟩
  | false => exact .inr ⟨fun h => (by have := hs.2 h.1; cases this), by rw [noD_is hv]⟩
theorem ga2_bad {f : FuncId} (run : ∀ a b c d : Bool, (a && b && c && d) = false → run2 [] (inp4 a b c d) f = some (noD 2)) (w : World) (x y z u : Tri) (h : BadF x ∨ BadF y ∨ BadF z ∨ BadF u) (hG : Tryz.prog.globals.size ≤ w.heap.size) (hT : Tab w) :
    Calls Tryz.prog f ⟨[.agg ⟨cel x ++ cel y⟩, .agg ⟨cel z ++ cel u⟩]⟩ w (GErr w 2) := by
  obtain ⟨i, -⟩ := in4 x y z u
  have hA : AllH i.ρ [] := fun _ h => by cases h
  have hb : (i.a && i.b && i.c && i.d) = false := by
    cases ha : i.a with
    | false => rfl
    | true => cases hb : i.b with
      | false => rfl
      | true => cases hc : i.c with
        | false => rfl
        | true => cases hd : i.d with
          | false => rfl
          | true =>
            rcases h with h | h | h | h
            · rw [i.hx.1 ha] at h; exact absurd h (not_bad ((i.ρ.fit _ (by decide))))
            · rw [i.hy.1 hb] at h; exact absurd h (not_bad ((i.ρ.fit _ (by decide))))
            · rw [i.hz.1 hc] at h; exact absurd h (not_bad ((i.ρ.fit _ (by decide))))
            · rw [i.hu.1 hd] at h; exact absurd h (not_bad ((i.ρ.fit _ (by decide))))
  have hc := tells_calls (symFits _) (symSums_ok hA) (run _ _ _ _ hb) rfl glob_few (i.holds w) hG hT
  exact hc.mono fun e w' hh => by
    obtain ⟨v', rfl, hv, hb'⟩ := hh
    exact ⟨by rw [noD_is hv], hb'⟩
end Ev
end Go.Proofs.YthjofdfnppadnaaGreatDoor
