/- Contracts, in this order: ref90's Num, Denom, IsInt; ref00.Text, ref01.Text: what they · Runs over ref90's numbers: quotient and rest; a number of 64 · ref01.Floor: every path run; what it does. · ref01.Int64: every path run; what it does. · '==' of fractions and of complex numbers of which something  · gauss, as a law calls it: its functions over numbers told by · gauss: what its functions answer, by runs: those that may no · ref00, as runs over numbers told by expressions call it. -/
import Derived.Test.YthjofdfnppadnaaGreatDoorZt23
import Derived.Test.YthjofdfnppadnaaGreatDoorZt24
import Derived.Laws.Concat
import Derived.Laws.StructEq
namespace Go.Proofs.YthjofdfnppadnaaGreatDoor
open Go Go.RowKit
namespace Ev
set_option maxRecDepth 100000
noncomputable def outI (s : Bool) (n : Xe) : E3 Wf := .one (.b 100 [.p (.bool s), .f (.wd n)])
theorem num_run (s z : Bool) : runV [⟨1, xv, x0, z⟩, ⟨1, x1, x0, false⟩] [blkR s xv x1] [0] 83 = some (outI (s && !z) xv) := by
  cases s <;> cases z <;> kernel_rfl
theorem denom_run (s z : Bool) : runV [⟨1, xv, x0, z⟩, ⟨1, x1, x0, false⟩] [blkR s xv x1] [0] 154 = some (outI false x1) := by
  cases s <;> cases z <;> kernel_rfl
noncomputable def runV2 (A : List Xs) (bl : List (BL Wf)) (is : List Nat) (f : FuncId) : Option (E3 Wf) := tellsB bl [] (fun ps _ => sel is ps) (call Tryz.prog (wCfg A) (wSums2 A) 60 f)
theorem isInt_run (s wh : Bool) : runV2 [⟨1, x1, x0, false⟩, ⟨3, x1, .c 1, false⟩, ⟨2, x1, .c 1, wh⟩] [blkR s xv x1] [0] 82 = some (.one (.d (.one (.p (.bool wh))))) := by
  cases s <;> cases wh <;> kernel_rfl
section
variable {w : World} {v : Value} {q : Rat}
theorem outI_is {ρ : XEnv} {lo : Nat} {bs : List Nat} {s : Bool} {n : Xe} (h : (outI s n).is (wSig ρ) lo bs w v) (hlo : Tryz.prog.globals.size ≤ lo) : IntIn w v s (n.ev ρ.q) := by
  obtain ⟨b, vs, rfl, hb, hh, v1, l1, rfl, h1, v2, l2, rfl, h2, h3⟩ := h
  obtain rfl : l2 = [] := h3
  obtain rfl : v1 = .bool s := h1
  exact ⟨b, rfl, Nat.le_trans hlo hb, v2, hh, h2⟩
def IRes (w : World) (s : Bool) (n : Nat) (e : Ending) (w' : World) : Prop := ∃ v, e = .returned v ∧ IntIn w' v s n ∧ Below w.heap.size w w'
theorem num_any (hv : RatIn w v q) (hq : RB q) (hG : Tryz.prog.globals.size ≤ w.heap.size) (hT : Tab w) : Calls Tryz.prog 83 ⟨[v]⟩ w (IRes w (Big.ng q) (Big.nu q)) := by
  obtain ⟨b, rfl, g, u, d, hb, hu, hd⟩ := hv
  obtain ⟨ρ, e0, e1⟩ : ∃ ρ : XEnv, ρ.q 0 = Big.nu q ∧ ρ.q 1 = Big.de q := ⟨xenv [Big.nu q, Big.de q] (by intro n hn; simp only [List.mem_cons, List.not_mem_nil, or_false] at hn; rcases hn with rfl | rfl; exact hq.1; exact hq.2), rfl, rfl⟩
  rw [← e0] at hu
  rw [← e1] at hd
  have hA : AllX ρ [⟨1, xv, x0, decide (Big.nu q = 0)⟩, ⟨1, x1, x0, false⟩] := allX_cons (holds1 (by rw [decide_eq_true_iff, ← e0]; rfl)) (allX_cons (holds1 (not_nought (by show 0 < ρ.q 1; rw [e1]; exact de_pos q))) (allX_nil ρ))
  refine (tellsB_calls (wFits hA) (wSums_ok hA) (num_run (Big.ng q) _) (fun _ _ _ _ _ hp _ => sel_ok hp _) (by kernel_rfl) glob_lim (bs := [b]) (us := []) ⟨b, [], rfl, blkR_are (n := xv) (d := x1) hb hu hd, by simp, g, rfl⟩ rfl hG hT).mono ?_
  rintro e w' ⟨x, rfl, hx, hbl⟩
  have hs : (Big.ng q && !decide (Big.nu q = 0)) = Big.ng q := by
    cases hn : Big.ng q with
    | false => rfl
    | true =>
      by_cases h0 : Big.nu q = 0
      · rw [Big.nu_zero.1 h0] at hn; cases hn
      · rw [decide_eq_false h0]; rfl
  rw [hs] at hx
  have hh := outI_is hx hG
  rw [show xv.ev ρ.q = Big.nu q from e0] at hh
  exact ⟨x, rfl, hh, hbl⟩
theorem denom_any (hv : RatIn w v q) (hq : RB q) (hG : Tryz.prog.globals.size ≤ w.heap.size) (hT : Tab w) : Calls Tryz.prog 154 ⟨[v]⟩ w (IRes w false (Big.de q)) := by
  obtain ⟨b, rfl, g, u, d, hb, hu, hd⟩ := hv
  obtain ⟨ρ, e0, e1⟩ : ∃ ρ : XEnv, ρ.q 0 = Big.nu q ∧ ρ.q 1 = Big.de q := ⟨xenv [Big.nu q, Big.de q] (by intro n hn; simp only [List.mem_cons, List.not_mem_nil, or_false] at hn; rcases hn with rfl | rfl; exact hq.1; exact hq.2), rfl, rfl⟩
  rw [← e0] at hu
  rw [← e1] at hd
  have hA : AllX ρ [⟨1, xv, x0, decide (Big.nu q = 0)⟩, ⟨1, x1, x0, false⟩] := allX_cons (holds1 (by rw [decide_eq_true_iff, ← e0]; rfl)) (allX_cons (holds1 (not_nought (by show 0 < ρ.q 1; rw [e1]; exact de_pos q))) (allX_nil ρ))
  refine (tellsB_calls (wFits hA) (wSums_ok hA) (denom_run (Big.ng q) _) (fun _ _ _ _ _ hp _ => sel_ok hp _) (by kernel_rfl) glob_lim (bs := [b]) (us := []) ⟨b, [], rfl, blkR_are (n := xv) (d := x1) hb hu hd, by simp, g, rfl⟩ rfl hG hT).mono ?_
  rintro e w' ⟨x, rfl, hx, hbl⟩
  have hh := outI_is hx hG
  rw [show x1.ev ρ.q = Big.de q from e1] at hh
  exact ⟨x, rfl, hh, hbl⟩
theorem isInt_any (hv : RatIn w v q) (hq : RB q) (hG : Tryz.prog.globals.size ≤ w.heap.size) (hT : Tab w) :
    Calls Tryz.prog 82 ⟨[v]⟩ w fun e w' => e = .returned (.bool (decide (Big.de q = 1))) ∧ Below w.heap.size w w' := by
  obtain ⟨b, rfl, g, u, d, hb, hu, hd⟩ := hv
  obtain ⟨ρ, e0, e1⟩ : ∃ ρ : XEnv, ρ.q 0 = Big.nu q ∧ ρ.q 1 = Big.de q := ⟨xenv [Big.nu q, Big.de q] (by intro n hn; simp only [List.mem_cons, List.not_mem_nil, or_false] at hn; rcases hn with rfl | rfl; exact hq.1; exact hq.2), rfl, rfl⟩
  rw [← e0] at hu
  rw [← e1] at hd
  have hd1 := de_pos q
  have hA : AllX ρ [⟨1, x1, x0, false⟩, ⟨3, x1, .c 1, false⟩, ⟨2, x1, .c 1, decide (Big.de q = 1)⟩] := by
    refine allX_cons (holds1 (not_nought (by show 0 < ρ.q 1; rw [e1]; exact hd1))) (allX_cons (holds3 ?_) (allX_cons (holds2 ?_) (allX_nil ρ)))
    · show _ ↔ ρ.q 1 < 1
      rw [e1]
      exact ⟨fun h => (by cases h), fun h => (by omega)⟩
    · rw [decide_eq_true_iff, ← e1]; rfl
  refine (tellsB_calls (wFits hA) (wSums2_ok hA) (isInt_run (Big.ng q) _) (fun _ _ _ _ _ hp _ => sel_ok hp _) (by kernel_rfl) glob_lim (bs := [b]) (us := []) ⟨b, [], rfl, blkR_are (n := xv) (d := x1) hb hu hd, by simp, g, rfl⟩ rfl hG hT).mono ?_
  rintro e w' ⟨x, rfl, hx, hbl⟩
  exact ⟨by rw [show x = _ from hx], hbl⟩
theorem intIn_at {b n : Nat} {s : Bool} (h : IntIn w (.pointer (some ⟨b, 0, none⟩)) s n) : R.IntAt w b 0 s n := by
  obtain ⟨b', e, -, u, hb, hu⟩ := h
  injection e with e
  injection e with e
  injection e with e
  subst e
  exact ⟨R.cell_at hb rfl, u, R.cell_at hb rfl, hu⟩
def sOf (l : List UInt8) : Value := .string ⟨l.toArray⟩
theorem str_any {s : Bool} {n : Nat} (hv : IntIn w v s n) (hn : R.Sml n) : Calls Tryz.prog 156 ⟨[v]⟩ w fun e w' => e = .returned (sOf (R.strD s n)) ∧ Below w.heap.size w w' := by
  obtain ⟨b, rfl, hv2⟩ := id hv
  exact R.string_any w b 0 n s (intIn_at hv) hn
theorem strD_len {s : Bool} {n : Nat} (hn : R.Sml n) : (R.strD s n).length ≤ 32 * Big.KL + 1 := by
  by_cases h0 : n = 0
  · subst h0; unfold R.strD; rw [if_pos rfl, List.length_singleton]; omega
  · rw [← R.strD_rev s h0, List.length_reverse, List.length_append]
    have := R.rdg_len (32 * Big.KL) n (Nat.lt_of_lt_of_le hn.lt (by rw [R.M32_eq, show (4294967296 : Nat) = 2 ^ 32 from rfl, ← Nat.pow_mul]; exact Nat.pow_le_pow_left (by omega) _))
    cases s <;> simp <;> omega
def textD (q : Rat) : List UInt8 := R.strD (Big.ng q) (Big.nu q) ++ (if Big.de q = 1 then [] else 47 :: R.strD false (Big.de q))
theorem addS {P : Program} (a b : List UInt8) (ha : a.length ≤ 300000000000) (hb : b.length ≤ 300000000000) (W : World) : (Op.stringOp .add ⟨a.toArray⟩ ⟨b.toArray⟩).run P W = .ok (.string ⟨(a ++ b).toArray⟩) W := by
  rw [run_string_add_sum W _ _ (by simp [ByteArray.size]; omega)]
  have e : (⟨a.toArray⟩ : ByteArray) ++ ⟨b.toArray⟩ = ⟨(a ++ b).toArray⟩ := by
    apply ByteArray.ext
    simp
  rw [e]
set_option maxHeartbeats 4000000 in
theorem refText_any (w : World) (v : Value) (q : Rat) (hv : RatIn w v q) (hq : RB q) (hG : Tryz.prog.globals.size ≤ w.heap.size) (hT : Tab w) :
    Calls Tryz.prog 86 #[v] w fun e w' => e = .returned (sOf (textD q)) ∧ Below w.heap.size w w' := by
  have HI := Lib.hid (isInt_any hv hq hG hT)
  have HV := Lib.hid hv
  have HQ := Lib.hid hq
  have HG := Lib.hid (And.intro hG hT)
  have HT := Lib.hid (show textD q = R.strD (Big.ng q) (Big.nu q) ++ (if Big.de q = 1 then [] else 47 :: R.strD false (Big.de q)) from rfl)
  have HSN := Lib.hid (hq.1.sml (by decide))
  have HSD := Lib.hid (hq.2.sml (by decide))
  obtain ⟨b, rfl, -⟩ := hv
  clear hG hT hq
  go_enter Tryz.func86, Tryz.ntmps86
  go_wp2_with fail
  refine HI.out.mono ?_
  rintro e w1 ⟨rfl, hw1⟩
  have HB1 := Lib.hid hw1
  have HN := Lib.hid (num_any (HV.out.keep hw1) HQ.out (Nat.le_trans HG.out.1 hw1.size) (HG.out.2.keep hw1))
  clear hw1 HI
  by_cases hde : Big.de q = 1
  · have hde2 : decide (Big.de q = 1) = true := decide_eq_true hde
    rw [hde2]
    go_wp2_with fail
    refine HN.out.mono ?_
    rintro e w2 ⟨v2, rfl, hv2, hw2⟩
    have HB2 := Lib.hid (HB1.out.trans (hw2.mono HB1.out.size))
    have HS := Lib.hid (str_any hv2 HSN.out)
    obtain ⟨b2, rfl, -⟩ := hv2
    clear hw2 HN
    go_wp2_with fail
    refine HS.out.mono ?_
    rintro e w3 ⟨rfl, hw3⟩
    have HB3 := Lib.hid (HB2.out.trans (hw3.mono HB2.out.size))
    clear hw3 HS
    go_wp2_with fail
    go_ret
    refine ⟨?_, HB3.out⟩
    rw [HT.out, if_pos hde, List.append_nil]
    rfl
  · have hde2 : decide (Big.de q = 1) = false := decide_eq_false hde
    rw [hde2]
    go_wp2_with fail
    refine HN.out.mono ?_
    rintro e w2 ⟨v2, rfl, hv2, hw2⟩
    have HB2 := Lib.hid (HB1.out.trans (hw2.mono HB1.out.size))
    have HS := Lib.hid (str_any hv2 HSN.out)
    obtain ⟨b2, rfl, -⟩ := hv2
    clear hw2 HN
    go_wp2_with fail
    refine HS.out.mono ?_
    rintro e w3 ⟨rfl, hw3⟩
    have HB3 := Lib.hid (HB2.out.trans (hw3.mono HB2.out.size))
    have HD := Lib.hid (denom_any (HV.out.keep HB3.out) HQ.out (Nat.le_trans HG.out.1 HB3.out.size) (HG.out.2.keep HB3.out))
    have l1 := strD_len (s := Big.ng q) HSN.out
    have l2 := strD_len (s := false) HSD.out
    have hK : 32 * Big.KL ≤ 100000000000 := by rw [Big.KL_eq]; omega
    have add1 := fun W => addS (P := Tryz.prog) (R.strD (Big.ng q) (Big.nu q)) [47] (by omega) (by simp) W
    have add2 := fun W => addS (P := Tryz.prog) (R.strD (Big.ng q) (Big.nu q) ++ [47]) (R.strD false (Big.de q)) (by simp; omega) (by omega) W
    clear hw3 HS l1 l2 hK
    unfold sOf
    go_wp2_with fail
    refine HD.out.mono ?_
    rintro e w4 ⟨v4, rfl, hv4, hw4⟩
    have HB4 := Lib.hid (HB3.out.trans (hw4.mono HB3.out.size))
    have HS := Lib.hid (str_any hv4 HSD.out)
    obtain ⟨b4, rfl, -⟩ := hv4
    clear hw4 HD
    go_wp2_with fail
    refine HS.out.mono ?_
    rintro e w5 ⟨rfl, hw5⟩
    have HB5 := Lib.hid (HB4.out.trans (hw5.mono HB4.out.size))
    clear hw5 HS
    unfold sOf
    go_wp2_with fail
    go_ret
    refine ⟨?_, HB5.out⟩
    rw [HT.out, if_neg hde]
    unfold sOf
    simp
end
end Ev
end Go.Proofs.YthjofdfnppadnaaGreatDoor
namespace Go.Proofs.YthjofdfnppadnaaGreatDoor
open Go Go.RowKit
namespace Ev
set_option maxRecDepth 100000
noncomputable def modX (a b : Xe) : Xe := .sub a (.mul (.quo a b) b)
theorem modX_ev (ρ : Nat → Nat) (a b : Xe) : (modX a b).ev ρ = a.ev ρ % b.ev ρ := by
  show a.ev ρ - a.ev ρ / b.ev ρ * b.ev ρ = _
  have := Nat.div_add_mod' (a.ev ρ) (b.ev ρ)
  omega
noncomputable def divA (A : List Xs) (x y : Xe) : M Wf Value := match askX A 1 y x0 with
  | some t => cond t fail (bind (newFacts [.wd (.quo x y), .wd (modX x y)]) fun vs => ret (.tuple ⟨vs⟩))
  | none => fail
theorem loc_divA (A : List Xs) (x y : Xe) : Loc (divA A x y) := by
  unfold divA
  split
  · exact loc_cond loc_fail (loc_bind (loc_newFacts _) fun _ => loc_ret _)
  · exact loc_fail
noncomputable def putI (z : Value) (s : Bool) (e : Xe) : M Wf Value := match addrOf z with
  | some x => cond (Nat.ble natCfg.G x.1) (bind (rdCells x.1) fun c0 => cond (Nat.ble (Nat.succ (Nat.succ x.2)) c0.1.length)
      (bind (newFact (.wd e)) fun u => bind (rdCells x.1) fun c => bind (wr x.1 (.cells ((c.1.set x.2 (.bool s)).set (Nat.succ x.2) u) c.2)) fun _ => ret z) fail) fail
  | none => fail
noncomputable def setI64M (args : List Value) : Option (M Wf Value) := match args with
  | [z, a] => match a with
    | .int k m => match k with
      | .i64 => match m with
        | .ofNat j => some (cond (Nat.ble j 1000000) (putI z false (.c j)) fail)
        | _ => none
      | _ => none
    | _ => none
  | _ => none
theorem loc_putI (z : Value) (s : Bool) (e : Xe) : Loc (putI z s e) := by
  unfold putI
  split
  · exact loc_cond (loc_bind (loc_rdCells _) fun _ => loc_cond (loc_bind (loc_newFact _) fun _ => loc_bind (loc_rdCells _) fun _ => loc_bind (loc_wr _ _) fun _ => loc_ret _) loc_fail) loc_fail
  · exact loc_fail
section
variable {ρ : XEnv} {A : List Xs} {h h' : Tr (Blk Wf)} {nx nx' : Nat} {Q W : List Nat} {r : Ren} {w : World}
theorem w_div (hA : AllX ρ A) : SumF (wSig ρ) Tryz.prog 199 (fun args => w2 args (divA A)) :=
  w2_ok (fun _ _ => loc_divA A _ _) fun x y h nx v h' nx' Q W e r w a b ha hb hx hy hM hN => by
    unfold divA at e
    cases h1 : askX A 1 y x0 with
    | none => rw [h1] at e; cases (show (fail : M Wf Value) h nx = _ from e)
    | some t =>
      rw [h1] at e
      obtain ⟨rfl, e2⟩ := cond_no e
      have hy0 : 0 < y.ev ρ.q := by
        have := askX_nought hA h1
        rcases Nat.eq_zero_or_pos (y.ev ρ.q) with h | h
        · exact absurd (this.2 h) (by simp)
        · exact h
      obtain ⟨vs, h2, nx2, R1, W1, R2, W2, e3, e4, rfl, rfl⟩ := bind_ok e2
      obtain ⟨rfl, rfl, rfl, rfl⟩ := ret_ok e4
      have hW := newFacts_W _ e3
      subst hW
      refine (R.div_nat w a b _ _ ha hb hx hy0).mono ?_
      rintro en w' ⟨q, t, rfl, hq, ht, hb'⟩
      have hX := ext_below hM hb' nx
      obtain ⟨hle, r', hY, hv⟩ := newFacts_ok (S := wSig ρ) (us := [q, t]) _ e3 hX.mod hN ⟨q, [t], rfl, hq, nin_one hq, t, [], rfl, by show R.Nin w' t ((modX x y).ev ρ.q); rw [modX_ev]; exact ht, nin_one ht, rfl⟩
      exact ⟨_, r', rfl, .tuple hv, by simpa using hX.trans hY (Nat.le_refl _) hle⟩
theorem goes_put {z z' : Value} {s : Bool} {e0 : Xe} {f : FuncId} {args' : List Value} {v : Value} (e : putI z s e0 h nx = .ok v h' nx' Q W) (hz : VR r z z') (hM : Mod (wSig ρ) r h.get w) (hN : New r nx nx')
    (c : ∀ b o, z' = .pointer (some ⟨b, o, none⟩) → R.Room w b o → Calls Tryz.prog f ⟨args'⟩ w (R.Put w b o s (e0.ev ρ.q))) : GoesW ρ f args' r w nx nx' W h'.get v := by
  unfold putI at e
  cases haz : addrOf z with
  | none => rw [haz] at e; cases (show (fail : M Wf Value) h nx = _ from e)
  | some y =>
  obtain ⟨zb, zo⟩ := y
  rw [haz] at e
  obtain ⟨hk, e8⟩ := cond_ok e
  have hG : natSig.G ≤ zb := Nat.le_of_ble_eq_true hk
  obtain ⟨c0, h3, nx3, R5, W5, R6, W6, e9, e10, rfl, rfl⟩ := bind_ok e8
  obtain ⟨hg0, rfl, rfl, rfl⟩ := rdCells_ok e9
  obtain ⟨hl4, e11⟩ := cond_ok e10
  have hl := Nat.le_of_ble_eq_true hl4
  obtain ⟨u0, h5, nx5, R7, W7, R8, W8, e12, e13, rfl, rfl⟩ := bind_ok e11
  obtain ⟨c1, h6, nx6, R9, W9, R10, W10, e14, e15, rfl, rfl⟩ := bind_ok e13
  obtain ⟨hg1, rfl, rfl, rfl⟩ := rdCells_ok e14
  obtain ⟨u1, h7, nx7, R11, W11, R12, W12, e16, e17, rfl, rfl⟩ := bind_ok e15
  obtain ⟨rfl, rfl, rfl, rfl⟩ := ret_ok e17
  unfold wr at e16
  rw [hg1] at e16
  cases e16
  obtain ⟨b2, hb2, rfl, hzv⟩ := ptr_vr haz hz
  obtain ⟨b3, c', hb3, hh, hc, -⟩ := hM.cells _ _ _ hg0
  obtain rfl : b3 = b2 := by rw [hb2] at hb3; injection hb3 with e; exact e.symm
  have hcl : zo + 1 < c'.length := by rw [hc.length]; exact hl
  obtain ⟨i, h8, nx8, R13, W13, R14, W14, e18, e19, rfl, rfl⟩ := bind_ok e12
  obtain ⟨rfl, rfl, rfl, rfl⟩ := ret_ok e19
  unfold fresh at e18
  cases e18
  refine (c b3 zo rfl (R.room_at hh hcl)).mono ?_
  rintro en w' ⟨rfl, w1, u, hb, hu, rfl⟩
  obtain ⟨r', hX, hr⟩ := ext_fact (S := wSig ρ) (f := .wd e0) hM hb hN hu (nin_one hu)
  have hX2 := hX.congr (g' := (Tr.set _ _ _).get) fun n => .inr (Tr.get_set _ _ _ n)
  have hw1 : w1.heap[b3]? = some (.cells ⟨c'⟩ c0.2 (0, 0)) := (hb.block b3 (Array.getElem?_eq_some_iff.1 hh).1).trans hh
  obtain ⟨b4, c4, hb4, hh4, hc4, ht4⟩ := hX2.mod.cells _ _ _ hg1
  have hb3' := hX2.le.blk _ _ hb2
  obtain rfl : b4 = b3 := by rw [hb3'] at hb4; injection hb4 with e; exact e.symm
  have hty : c1.2 = c0.2 ∧ c4 = c' := by
    rw [hw1] at hh4
    simp only [Option.some.injEq, Obj.cells.injEq, Array.mk.injEq] at hh4
    exact ⟨hh4.2.1.symm, hh4.1.symm⟩
  obtain ⟨ht1, rfl⟩ := hty
  have hs1 := R.set_heap (o := zo) (v := .bool s) hw1
  have g1 : (w1.setCell ⟨b4, zo, none⟩ (.bool s)).heap[b4]? = some (.cells ⟨c4.set zo (.bool s)⟩ c0.2 (0, 0)) := by rw [hs1, Array.getElem?_setIfInBounds_self_of_lt (Array.getElem?_eq_some_iff.1 hw1).1]
  have hs2 := R.set_heap (o := zo + 1) (v := u) g1
  have hX3 := fun (k : Nat) => ext_write (nx := k) (d := (c1.1.set zo (.bool s)).set (zo + 1) (.chan (some _))) (d' := (c4.set zo (.bool s)).set (zo + 1) u) hX2.mod hg1 hb3' (VsR.set (VsR.set hc4 (.same rfl) zo) (.opq hr (nin_one hu)) (zo + 1)) hG
    (w' := (w1.setCell ⟨b4, zo, none⟩ (.bool s)).setCell ⟨b4, zo + 1, none⟩ u) (by rw [ht1, hs2, hs1]; simp) rfl rfl rfl
  have hX4 := hX2.trans (hX3 _) (Nat.le_succ _) (Nat.le_refl _)
  refine ⟨_, r', rfl, ?_, by simpa using hX4.congr fun n => .inr (Tr.get_set _ _ _ _)⟩
  rw [hzv]
  exact .ptr hb3'
theorem w_setI64 : SumF (wSig ρ) Tryz.prog 152 setI64M := by
  intro args m e
  unfold setI64M at e
  rcases args with _ | ⟨z, _ | ⟨a, _ | ⟨c, l⟩⟩⟩ <;> simp only [reduceCtorEq] at e
  cases a <;> simp only [reduceCtorEq] at e
  rename_i k z2
  cases k <;> simp only [reduceCtorEq] at e
  cases z2 <;> simp only [reduceCtorEq, Option.some.injEq] at e
  rename_i j
  subst e
  refine ⟨loc_cond (loc_putI _ _ _) loc_fail, ?_⟩
  intro h nx v h' nx' Q W e r w args' ha hM hN
  cases ha with
  | cons hz ha =>
  cases ha with
  | cons ha hb =>
  cases hb
  obtain ⟨hk, e1⟩ := cond_ok e
  have hk2 := Nat.le_of_ble_eq_true hk
  have := ha.eq_of_plain rfl
  subst this
  refine goes_put (e0 := .c j) e1 hz hM hN ?_
  rintro b o rfl hr
  exact R.setInt64_nat w b o j (by omega) hr
end
noncomputable def wList3 (A : List Xs) : List (Nat × (List Value → Option (M Wf Value))) := (199, fun args => w2 args (divA A)) :: (152, setI64M) :: wList2 A
theorem wList3_ok {ρ : XEnv} {A : List Xs} (hA : AllX ρ A) : ∀ x ∈ wList3 A, SumF (wSig ρ) Tryz.prog x.1 x.2 := by
  intro x hx
  rcases List.mem_cons.1 hx with rfl | hx
  · exact w_div hA
  rcases List.mem_cons.1 hx with rfl | hx
  · exact w_setI64
  · exact wList2_ok hA x hx
noncomputable def wSums3 (A : List Xs) : Sums Wf := sumsOf (mkTab (wList3 A))
theorem wSums3_ok {ρ : XEnv} {A : List Xs} (hA : AllX ρ A) : SumOK (wSig ρ) Tryz.prog (wSums3 A) := sumsOf_ok (wList3_ok hA)
end Ev
end Go.Proofs.YthjofdfnppadnaaGreatDoor
namespace Go.Proofs.YthjofdfnppadnaaGreatDoor
open Go Go.RowKit
namespace Ev
set_option maxRecDepth 100000
noncomputable def fQ : Xe := .quo qn qd
noncomputable def fR : Xe := modX qn qd
noncomputable def fA : Xe := .add fQ (.c 1)
noncomputable def fB : Xe := .sub (.c 1) fQ
noncomputable def flT (nz zq zr l2 la : Bool) : List Xs := [⟨1, x1, x0, false⟩, ⟨1, xv, x0, nz⟩, ⟨3, .gcd xv x1, .c 1, false⟩, ⟨2, .gcd xv x1, .c 1, true⟩, ⟨1, qn, x0, nz⟩, ⟨1, qd, x0, false⟩, ⟨1, fQ, x0, zq⟩, ⟨1, fR, x0, zr⟩, ⟨1, .c 1, x0, false⟩, ⟨1, fA, x0, false⟩,
  ⟨3, fQ, .c 1, zq⟩, ⟨3, .c 1, fQ, l2⟩, ⟨1, fB, x0, !zq⟩, ⟨4, fQ, x0, false⟩, ⟨4, fA, x0, la⟩, ⟨4, fB, x0, false⟩, ⟨4, .c 1, x0, false⟩]
noncomputable def flE (s zq zr : Bool) : Xe := cond s (cond zr fQ (cond zq fB fA)) fQ
theorem floor_run (s nz zq zr l2 la : Bool) (h4 : (zq && l2) = false) (h3 : (s && (!zr && (!zq && la))) = false) (h1 : (s && nz) = false) (h2 : (s && (zr && zq)) = false) :
    tellsB [] [.st xv, .st x1] (fun _ vs => mkFrac s vs) (call Tryz.prog (wCfg (flT nz zq zr l2 la)) (wSums3 (flT nz zq zr l2 la)) 60 29) = some (.tuple [.d (.agg [.p (.bool s), .f (.sx (flE s zq zr)), .f (.sx (.c 1))]), .d (.one (.p (.int .i64 0)))]) := by
  cases s <;> cases nz <;> cases zq <;> cases zr <;> cases la <;> first | (cases h1; done) | (cases h2; done) | (cases h3; done) | (cases l2 <;> first | (cases h4; done) | kernel_rfl)
section
variable {w : World}
theorem szN_lt {m n : Nat} (h : m ≤ n) (hn : szN n ≤ 512) : szN m ≤ 512 := Nat.le_trans (szN_mono h) hn
theorem refFloor_ok {q : Rat} (hq : Fit q) (hG : Tryz.prog.globals.size ≤ w.heap.size) (hT : Tab w) :
    Calls Tryz.prog 29 ⟨[.agg ⟨cel (tri q)⟩]⟩ w fun e w' => e = .returned (.tuple ⟨[.agg ⟨cel (tri (Big.flQ q))⟩, .int .i64 0]⟩) ∧ Below w.heap.size w w' := by
  obtain ⟨ρ, e0, e1⟩ : ∃ ρ : XEnv, ρ.q 0 = Big.nu q ∧ ρ.q 1 = Big.de q := ⟨xenv [Big.nu q, Big.de q] (by intro n hn; simp only [List.mem_cons, List.not_mem_nil, or_false] at hn; rcases hn with rfl | rfl; exact bits_bytes hq.nu; exact bits_bytes hq.de), rfl, rfl⟩
  have hd := de_pos q
  have hg : Nat.gcd (Big.nu q) (Big.de q) = 1 := q.reduced
  have vn : qn.ev ρ.q = Big.nu q := by
    show ρ.q 0 / Nat.gcd (ρ.q 0) (ρ.q 1) = _
    rw [e0, e1, hg, Nat.div_one]
  have vd : qd.ev ρ.q = Big.de q := by
    show ρ.q 1 / Nat.gcd (ρ.q 0) (ρ.q 1) = _
    rw [e0, e1, hg, Nat.div_one]
  have vq : fQ.ev ρ.q = Big.nu q / Big.de q := by
    show qn.ev ρ.q / qd.ev ρ.q = _
    rw [vn, vd]
  have vr : fR.ev ρ.q = Big.nu q % Big.de q := by
    show (modX qn qd).ev ρ.q = _
    rw [modX_ev, vn, vd]
  have va : fA.ev ρ.q = Big.nu q / Big.de q + 1 := by
    show fQ.ev ρ.q + 1 = _
    rw [vq]
  have vb : fB.ev ρ.q = 1 - Big.nu q / Big.de q := by
    show 1 - fQ.ev ρ.q = _
    rw [vq]
  have hle : Big.nu q / Big.de q ≤ Big.nu q := Nat.div_le_self _ _
  have hzq : szN (Big.nu q / Big.de q) ≤ 512 := szN_lt hle hq.nu
  have h1z : szN 1 ≤ 512 := by decide
  have hzb : szN (1 - Big.nu q / Big.de q) ≤ 512 := szN_lt (Nat.sub_le _ _) h1z
  have hA : AllX ρ (flT (decide (Big.nu q = 0)) (decide (Big.nu q / Big.de q = 0)) (decide (Big.nu q % Big.de q = 0)) (decide (1 < Big.nu q / Big.de q)) (decide (512 < szN (Big.nu q / Big.de q + 1)))) := by
    refine allX_cons (holds1 (not_nought (by show 0 < ρ.q 1; rw [e1]; exact hd))) (allX_cons (holds1 ?_) (allX_cons (holds3 ?_) (allX_cons (holds2 ?_) (allX_cons (holds1 ?_) (allX_cons (holds1 (not_nought (by rw [vd]; exact hd))) (allX_cons (holds1 ?_) (allX_cons (holds1 ?_) (allX_cons (holds1 (not_nought (show 0 < 1 by omega))) (allX_cons (holds1 (not_nought (by rw [va]; omega))) (allX_cons (holds3 ?_) (allX_cons (holds3 ?_) (allX_cons (holds1 ?_) (allX_cons (holds4 ?_) (allX_cons (holds4 ?_) (allX_cons (holds4 ?_) (allX_cons (holds4 ?_) (allX_nil ρ)))))))))))))))))
    · rw [decide_eq_true_iff, ← e0]; rfl
    · show _ ↔ Nat.gcd (ρ.q 0) (ρ.q 1) < 1
      rw [e0, e1, hg]; simp
    · show _ ↔ Nat.gcd (ρ.q 0) (ρ.q 1) = 1
      rw [e0, e1, hg]; exact ⟨fun _ => rfl, fun _ => rfl⟩
    · rw [decide_eq_true_iff, vn]
    · rw [decide_eq_true_iff, vq]
    · rw [decide_eq_true_iff, vr]
    · rw [decide_eq_true_iff, vq]
      show _ ↔ Big.nu q / Big.de q < 1
      omega
    · rw [decide_eq_true_iff, vq]; rfl
    · rw [vb, Bool.not_eq_true', decide_eq_false_iff_not]; omega
    · rw [vq]; exact ⟨fun h => (by cases h), fun h => (by omega)⟩
    · rw [decide_eq_true_iff, va]
    · rw [vb]; exact ⟨fun h => (by cases h), fun h => (by omega)⟩
    · exact ⟨fun h => (by cases h), fun h => absurd (show 512 < szN 1 from h) (by omega)⟩
  have hs : Big.ng q = true → 0 < Big.nu q := fun hn => Nat.pos_of_ne_zero fun h0 => by rw [Big.nu_zero.1 h0] at hn; cases hn
  have k1 : (Big.ng q && decide (Big.nu q = 0)) = false := by
    rw [Bool.and_eq_false_iff, decide_eq_false_iff_not]
    cases hn : Big.ng q with
    | false => exact .inl rfl
    | true => have := hs hn; exact .inr (by omega)
  have hdm := Nat.div_add_mod (Big.nu q) (Big.de q)
  have k2 : (Big.ng q && (decide (Big.nu q % Big.de q = 0) && decide (Big.nu q / Big.de q = 0))) = false := by
    rw [Bool.and_eq_false_iff, Bool.and_eq_false_iff, decide_eq_false_iff_not, decide_eq_false_iff_not]
    cases hn : Big.ng q with
    | false => exact .inl rfl
    | true =>
      have h1 := hs hn
      right
      by_cases h2 : Big.nu q % Big.de q = 0
      · right
        intro h3
        rw [h2, h3, Nat.mul_zero] at hdm
        omega
      · exact .inl h2
  have k3 : (Big.ng q && (!decide (Big.nu q % Big.de q = 0) && (!decide (Big.nu q / Big.de q = 0) && decide (512 < szN (Big.nu q / Big.de q + 1))))) = false := by
    by_cases h2 : Big.nu q % Big.de q = 0
    · rw [decide_eq_true h2]; simp
    · have h3 : szN (Big.nu q / Big.de q + 1) ≤ 512 := by
        rcases Nat.eq_zero_or_pos (Big.nu q) with h0 | h0
        · rw [h0, Nat.zero_div]; decide
        · have h1 : Big.de q ≠ 1 := fun h => h2 (by rw [h]; exact Nat.mod_one _)
          have : Big.nu q / Big.de q < Big.nu q := Nat.div_lt_self h0 (by omega)
          exact szN_lt (by omega) hq.nu
      rw [decide_eq_false (show ¬ 512 < szN (Big.nu q / Big.de q + 1) by omega)]; simp
  have k4 : (decide (Big.nu q / Big.de q = 0) && decide (1 < Big.nu q / Big.de q)) = false := by
    rw [Bool.and_eq_false_iff, decide_eq_false_iff_not, decide_eq_false_iff_not]; omega
  have ha : (Wf.st xv).holds ρ w (.string (bst (Big.nu q))) := ⟨by show _ = Value.string (bst (ρ.q 0)); rw [e0], by show szN (ρ.q 0) ≤ 512; rw [e0]; exact hq.nu⟩
  have hb : (Wf.st x1).holds ρ w (.string (bst (Big.de q))) := ⟨by show _ = Value.string (bst (ρ.q 1)); rw [e1], by show szN (ρ.q 1) ≤ 512; rw [e1]; exact hq.de⟩
  refine (tellsB_calls (wFits hA) (wSums3_ok hA) (floor_run (Big.ng q) _ _ _ _ _ k4 k3 k1 k2) (fun r _ _ vs us _ h => mkFrac_ok _ r vs us h) rfl glob_lim (bs := []) (us := [.string (bst (Big.nu q)), .string (bst (Big.de q))]) rfl ⟨_, _, rfl, ha, rfl, _, [], rfl, hb, rfl, rfl⟩ hG hT).mono ?_
  rintro e w' ⟨x, rfl, ⟨vs, rfl, v1, l1, rfl, ⟨us, rfl, y1, m1, rfl, j1, y2, m2, rfl, j2, y3, m3, rfl, j3, j4⟩, v2, l2, rfl, h2, h3⟩, hbl⟩
  obtain rfl : m3 = [] := j4
  obtain rfl : l2 = [] := h3
  obtain rfl : y1 = .bool (Big.ng q) := j1
  obtain rfl : y2 = .string (bst ((flE (Big.ng q) (decide (Big.nu q / Big.de q = 0)) (decide (Big.nu q % Big.de q = 0))).ev ρ.q)) := j2
  obtain rfl : y3 = .string (bst 1) := j3
  obtain rfl : v2 = .int .i64 0 := h2
  refine ⟨?_, hbl⟩
  obtain ⟨p1, p2, p3⟩ := Big.flQ_parts q
  unfold cel tri
  rw [p1, p2, p3]
  have hv : (flE (Big.ng q) (decide (Big.nu q / Big.de q = 0)) (decide (Big.nu q % Big.de q = 0))).ev ρ.q = Big.nu q / Big.de q + (if Big.ng q = true ∧ 0 < Big.nu q % Big.de q then 1 else 0) := by
    unfold flE
    cases hn : Big.ng q with
    | false =>
      rw [if_neg (by simp)]
      exact vq
    | true =>
      by_cases h5 : Big.nu q % Big.de q = 0
      · rw [decide_eq_true h5, if_neg (by omega)]
        exact vq
      · rw [decide_eq_false h5, if_pos ⟨rfl, by omega⟩]
        by_cases h6 : Big.nu q / Big.de q = 0
        · rw [decide_eq_true h6]
          show fB.ev ρ.q = _
          rw [vb, h6]
        · rw [decide_eq_false h6]
          exact va
  rw [hv]
end
end Ev
end Go.Proofs.YthjofdfnppadnaaGreatDoor
namespace Go.Proofs.YthjofdfnppadnaaGreatDoor
open Go Go.RowKit
namespace Ev
set_option maxRecDepth 100000
noncomputable def fitsX (A : List Xs) (s : Bool) (e : Xe) : Option Bool := cond s (askX A 8 e x0) (askX A 7 e x0)
noncomputable def isI64M (A : List Xs) (args : List Value) : Option (M Wf Value) := match args with
  | [a] => some (bind (rdInt a) fun x => match fitsX A x.1 x.2 with
    | some t => ret (.bool t)
    | none => fail)
  | _ => none
noncomputable def i64A (A : List Xs) (s : Bool) (e : Xe) : M Wf Value := match fitsX A s e with
  | some t => cond t (match askX A 1 e x0 with
    | some z => cond (s && z) fail (newFact (.iv s e))
    | none => fail) fail
  | none => fail
noncomputable def i64M (A : List Xs) (args : List Value) : Option (M Wf Value) := match args with
  | [a] => some (bind (rdInt a) fun x => i64A A x.1 x.2)
  | _ => none
section
variable {ρ : XEnv} {A : List Xs} {h h' : Tr (Blk Wf)} {nx nx' : Nat} {Q W : List Nat} {r : Ren} {w : World}
theorem fitsX_ok (hA : AllX ρ A) {s t : Bool} {e : Xe} (h : fitsX A s e = some t) : R.fits64 s (e.ev ρ.q) = t := by
  unfold fitsX at h
  unfold R.fits64
  cases s with
  | true =>
    have := askX_neg64 hA h
    cases t with
    | true =>
      have := this.1 rfl
      simp; omega
    | false =>
      have : ¬ e.ev ρ.q ≤ 9223372036854775808 := fun h => by cases this.2 h
      simp; omega
  | false =>
    have := askX_pos64 hA h
    cases t with
    | true =>
      have := this.1 rfl
      simp; omega
    | false =>
      have : ¬ e.ev ρ.q < 9223372036854775808 := fun h => by cases this.2 h
      simp; omega
theorem w_isI64 (hA : AllX ρ A) : SumF (wSig ρ) Tryz.prog 84 (isI64M A) := by
  intro args m e
  unfold isI64M at e
  rcases args with _ | ⟨a, _ | ⟨c, l⟩⟩ <;> simp only [reduceCtorEq, Option.some.injEq] at e
  subst e
  refine ⟨loc_bind (loc_rdInt a) fun f => by split; exact loc_ret _; exact loc_fail, ?_⟩
  intro h nx v h' nx' Q W e r w args' ha hM hN
  cases ha with
  | cons ha hb =>
  cases hb
  obtain ⟨x, h1, nx1, R1, W1, R2, W2, e1, e2, rfl, rfl⟩ := bind_ok e
  obtain ⟨rfl, rfl, rfl, b, o, rfl, hI⟩ := rdInt_ok e1 ha hM
  cases hf : fitsX A x.1 x.2 with
  | none => rw [hf] at e2; cases (show (fail : M Wf Value) h1 nx1 = _ from e2)
  | some t =>
    rw [hf] at e2
    have c := R.isInt64_any w b o _ _ hI
    rw [fitsX_ok hA hf] at c
    simpa using goes_pl (show (ret (.bool t) : M Wf Value) h1 nx1 = .ok v h' nx' R2 W2 from e2) rfl hM (c.mono fun _ _ hh => ⟨hh.1, hh.2 ▸ Below.refl _ w⟩)
theorem w_i64 (hA : AllX ρ A) : SumF (wSig ρ) Tryz.prog 85 (i64M A) := by
  intro args m e
  unfold i64M at e
  rcases args with _ | ⟨a, _ | ⟨c, l⟩⟩ <;> simp only [reduceCtorEq, Option.some.injEq] at e
  subst e
  refine ⟨loc_bind (loc_rdInt a) fun f => by
    unfold i64A
    split
    · refine loc_cond ?_ loc_fail
      split
      · exact loc_cond loc_fail (loc_newFact _)
      · exact loc_fail
    · exact loc_fail, ?_⟩
  intro h nx v h' nx' Q W e r w args' ha hM hN
  cases ha with
  | cons ha hb =>
  cases hb
  obtain ⟨x, h1, nx1, R1, W1, R2, W2, e1, e2, rfl, rfl⟩ := bind_ok e
  obtain ⟨rfl, rfl, rfl, b, o, rfl, hI⟩ := rdInt_ok e1 ha hM
  unfold i64A at e2
  cases hf : fitsX A x.1 x.2 with
  | none => rw [hf] at e2; cases (show (fail : M Wf Value) h1 nx1 = _ from e2)
  | some t =>
    rw [hf] at e2
    obtain ⟨rfl, e3⟩ := cond_ok e2
    have hfit := fitsX_ok hA hf
    cases hz : askX A 1 x.2 x0 with
    | none => rw [hz] at e3; cases (show (fail : M Wf Value) h1 nx1 = _ from e3)
    | some z =>
      rw [hz] at e3
      obtain ⟨hsz, e4⟩ := cond_no e3
      have hn := askX_nought hA hz
      obtain ⟨l1, l2⟩ := R.fits_lt hfit
      have hpos : x.1 = true → 0 < x.2.ev ρ.q := fun h => by
        rcases Nat.eq_zero_or_pos (x.2.ev ρ.q) with h0 | h0
        · rw [hn.2 h0, h] at hsz; cases hsz
        · exact h0
      simpa [GoesW] using goes_fact e4 hM hN ((R.int64_any w b o _ _ hI hfit).mono fun e w' hh => by
        obtain ⟨rfl, rfl⟩ := hh
        exact ⟨_, rfl, ⟨rfl, hpos, l2, l1⟩, Below.refl _ w⟩)
end
noncomputable def wList4 (A : List Xs) : List (Nat × (List Value → Option (M Wf Value))) := (84, isI64M A) :: (85, i64M A) :: wList3 A
theorem wList4_ok {ρ : XEnv} {A : List Xs} (hA : AllX ρ A) : ∀ x ∈ wList4 A, SumF (wSig ρ) Tryz.prog x.1 x.2 := by
  intro x hx
  rcases List.mem_cons.1 hx with rfl | hx
  · exact w_isI64 hA
  rcases List.mem_cons.1 hx with rfl | hx
  · exact w_i64 hA
  · exact wList3_ok hA x hx
noncomputable def wSums4 (A : List Xs) : Sums Wf := sumsOf (mkTab (wList4 A))
theorem wSums4_ok {ρ : XEnv} {A : List Xs} (hA : AllX ρ A) : SumOK (wSig ρ) Tryz.prog (wSums4 A) := sumsOf_ok (wList4_ok hA)
noncomputable def i6T (nz wh f g : Bool) : List Xs := [⟨1, x1, x0, false⟩, ⟨1, xv, x0, nz⟩, ⟨3, .gcd xv x1, .c 1, false⟩, ⟨2, .gcd xv x1, .c 1, true⟩, ⟨1, qn, x0, nz⟩, ⟨1, qd, x0, false⟩, ⟨3, qd, .c 1, false⟩, ⟨2, qd, .c 1, wh⟩, ⟨7, qn, x0, f⟩, ⟨8, qn, x0, g⟩]
noncomputable def i6O (s wh f g : Bool) : E3 Wf := cond (wh && cond s g f) (.tuple [.d (.one (.f (.iv s qn))), .d (.one (.p (.bool true)))]) (.tuple [.d (.one (.p (.int .i64 0))), .d (.one (.p (.bool false)))])
theorem i64_run (s nz wh f g : Bool) (h1 : (s && nz) = false) :
    tellsB [] [.st xv, .st x1] (fun _ vs => mkFrac s vs) (call Tryz.prog (wCfg (i6T nz wh f g)) (wSums4 (i6T nz wh f g)) 60 30) = some (i6O s wh f g) := by
  cases s <;> cases nz <;> first | (cases h1; done) | (cases wh <;> cases f <;> cases g <;> kernel_rfl)
def i64Q (q : Rat) : Int × Bool := if Big.de q = 1 ∧ R.fits64 (Big.ng q) (Big.nu q) = true then (Big.sI (Big.ng q) (Big.nu q), true) else (0, false)
section
variable {w : World}
theorem refInt64_ok {q : Rat} (hq : Fit q) (hG : Tryz.prog.globals.size ≤ w.heap.size) (hT : Tab w) :
    Calls Tryz.prog 30 ⟨[.agg ⟨cel (tri q)⟩]⟩ w fun e w' => e = .returned (.tuple ⟨[.int .i64 (i64Q q).1, .bool (i64Q q).2]⟩) ∧ Below w.heap.size w w' := by
  obtain ⟨ρ, e0, e1⟩ : ∃ ρ : XEnv, ρ.q 0 = Big.nu q ∧ ρ.q 1 = Big.de q := ⟨xenv [Big.nu q, Big.de q] (by intro n hn; simp only [List.mem_cons, List.not_mem_nil, or_false] at hn; rcases hn with rfl | rfl; exact bits_bytes hq.nu; exact bits_bytes hq.de), rfl, rfl⟩
  have hd := de_pos q
  have hg : Nat.gcd (Big.nu q) (Big.de q) = 1 := q.reduced
  have vn : qn.ev ρ.q = Big.nu q := by
    show ρ.q 0 / Nat.gcd (ρ.q 0) (ρ.q 1) = _
    rw [e0, e1, hg, Nat.div_one]
  have vd : qd.ev ρ.q = Big.de q := by
    show ρ.q 1 / Nat.gcd (ρ.q 0) (ρ.q 1) = _
    rw [e0, e1, hg, Nat.div_one]
  have hA : AllX ρ (i6T (decide (Big.nu q = 0)) (decide (Big.de q = 1)) (decide (Big.nu q < 9223372036854775808)) (decide (Big.nu q ≤ 9223372036854775808))) := by
    refine allX_cons (holds1 (not_nought (by show 0 < ρ.q 1; rw [e1]; exact hd))) (allX_cons (holds1 ?_) (allX_cons (holds3 ?_) (allX_cons (holds2 ?_) (allX_cons (holds1 ?_) (allX_cons (holds1 (not_nought (by rw [vd]; exact hd))) (allX_cons (holds3 ?_) (allX_cons (holds2 ?_) (allX_cons ?_ (allX_cons ?_ (allX_nil ρ))))))))))
    · rw [decide_eq_true_iff, ← e0]; rfl
    · show _ ↔ Nat.gcd (ρ.q 0) (ρ.q 1) < 1
      rw [e0, e1, hg]; simp
    · show _ ↔ Nat.gcd (ρ.q 0) (ρ.q 1) = 1
      rw [e0, e1, hg]; exact ⟨fun _ => rfl, fun _ => rfl⟩
    · rw [decide_eq_true_iff, vn]
    · rw [vd]
      show _ ↔ Big.de q < 1
      exact ⟨fun h => (by cases h), fun h => (by omega)⟩
    · rw [decide_eq_true_iff, vd]; rfl
    · show _ ↔ qn.ev ρ.q < _
      rw [decide_eq_true_iff, vn]
    · show _ ↔ qn.ev ρ.q ≤ _
      rw [decide_eq_true_iff, vn]
  have k1 : (Big.ng q && decide (Big.nu q = 0)) = false := by
    rw [Bool.and_eq_false_iff, decide_eq_false_iff_not]
    cases hn : Big.ng q with
    | false => exact .inl rfl
    | true => exact .inr fun h0 => by rw [Big.nu_zero.1 h0] at hn; cases hn
  have ha : (Wf.st xv).holds ρ w (.string (bst (Big.nu q))) := ⟨by show _ = Value.string (bst (ρ.q 0)); rw [e0], by show szN (ρ.q 0) ≤ 512; rw [e0]; exact hq.nu⟩
  have hb : (Wf.st x1).holds ρ w (.string (bst (Big.de q))) := ⟨by show _ = Value.string (bst (ρ.q 1)); rw [e1], by show szN (ρ.q 1) ≤ 512; rw [e1]; exact hq.de⟩
  refine (tellsB_calls (wFits hA) (wSums4_ok hA) (i64_run (Big.ng q) _ _ _ _ k1) (fun r _ _ vs us _ h => mkFrac_ok _ r vs us h) rfl glob_lim (bs := []) (us := [.string (bst (Big.nu q)), .string (bst (Big.de q))]) rfl ⟨_, _, rfl, ha, rfl, _, [], rfl, hb, rfl, rfl⟩ hG hT).mono ?_
  rintro e w' ⟨x, rfl, hx, hbl⟩
  refine ⟨?_, hbl⟩
  have hfit : R.fits64 (Big.ng q) (Big.nu q) = cond (Big.ng q) (decide (Big.nu q ≤ 9223372036854775808)) (decide (Big.nu q < 9223372036854775808)) := by
    unfold R.fits64
    cases Big.ng q with
    | false => simp
    | true =>
      show (decide _ || (true && decide _)) = decide _
      rw [Bool.true_and, ← Bool.decide_or, decide_eq_decide]
      omega
  unfold i64Q
  rw [hfit]
  unfold i6O at hx
  cases hc : (decide (Big.de q = 1) && cond (Big.ng q) (decide (Big.nu q ≤ 9223372036854775808)) (decide (Big.nu q < 9223372036854775808))) with
  | true =>
    rw [hc] at hx
    rw [Bool.and_eq_true, decide_eq_true_iff] at hc
    rw [if_pos hc]
    obtain ⟨vs, rfl, v1, l1, rfl, h1, v2, l2, rfl, h2, h3⟩ := hx
    obtain rfl : l2 = [] := h3
    obtain rfl : v2 = .bool true := h2
    have h4 : v1 = .int .i64 (Big.sI (Big.ng q) (qn.ev ρ.q)) := h1.1
    rw [h4, vn]
  | false =>
    rw [hc] at hx
    rw [if_neg (fun hh => by rw [hh.2, decide_eq_true hh.1] at hc; cases hc)]
    obtain ⟨vs, rfl, v1, l1, rfl, h1, v2, l2, rfl, h2, h3⟩ := hx
    obtain rfl : l2 = [] := h3
    obtain rfl : v2 = .bool false := h2
    obtain rfl : v1 = .int .i64 0 := h1
    rfl
end
end Ev
end Go.Proofs.YthjofdfnppadnaaGreatDoor
namespace Go.Proofs.YthjofdfnppadnaaGreatDoor
open Go Go.RowKit
namespace Ev
noncomputable def three (a b : Option Bool) : Option Bool := match a with
  | some x => cond x b (some false)
  | none => match b with
    | some y => cond y none (some false)
    | none => none
section
variable {ρ : Env} {A : List As} {h h' : Tr (Blk Sy)} {nx nx' : Nat} {R W : List Nat} {r : Ren} {w : World}
end
end Ev
end Go.Proofs.YthjofdfnppadnaaGreatDoor
namespace Go.Proofs.YthjofdfnppadnaaGreatDoor
open Go Go.RowKit
namespace Ev
structure Ps where
  a : Qe
  b : Qe
  t : Bool
def Ps.holds (ρ : Nat → Rat) (x : Ps) : Prop := x.t = true ↔ (Fit (x.a.ev ρ) ∧ Fit (x.b.ev ρ))
noncomputable def both (o p : Option Qe) : Option (Qe × Qe) := match o with
  | some e => match p with
    | some f => some (e, f)
    | none => none
  | none => none
section
variable {ρ : Env} {A : List As} {B : List Ps} {h h' : Tr (Blk Sy)} {nx nx' : Nat} {R W : List Nat} {r : Ren} {w : World}
theorem mod_G {F : Type} {S : Sig F} {g : Nat → Option (Blk F)} (hM : Mod S r g w) (hG : S.G = Tryz.prog.globals.size) : Tryz.prog.globals.size ≤ w.heap.size := by
  rcases Nat.eq_zero_or_pos Tryz.prog.globals.size with h0 | h0
  · omega
  · have := hM.lt _ _ (hM.glob (Tryz.prog.globals.size - 1) (by rw [hG]; omega))
    omega
end
end Ev
end Go.Proofs.YthjofdfnppadnaaGreatDoor
namespace Go.Proofs.YthjofdfnppadnaaGreatDoor
open Go Go.RowKit
namespace Ev
set_option maxRecDepth 100000
section
variable {ρ : Env} {A : List As} {B : List Ps}
end
end Ev
end Go.Proofs.YthjofdfnppadnaaGreatDoor
namespace Go.Proofs.YthjofdfnppadnaaGreatDoor
open Go Go.RowKit
namespace Ev
set_option maxRecDepth 100000
section
variable {ρ : Env} {A : List As} {h h' : Tr (Blk Sy)} {nx nx' : Nat} {R W : List Nat} {r : Ren} {w : World}
theorem sgoes_factT {f0 : Sy} {f : FuncId} {args' : List Value} {v u : Value} (hp : plain u = true) (e : (bind (newFact f0) fun p => ret (.tuple ⟨[p, u]⟩) : M Sy Value) h nx = .ok v h' nx' R W) (hM : Mod (symSig ρ) r h.get w) (hN : New r nx nx')
    (c : Calls Tryz.prog f ⟨args'⟩ w fun e w' => ∃ v', e = .returned (.tuple ⟨[v', u]⟩) ∧ f0.holds ρ w' v' ∧ Below w.heap.size w w') : GoesS ρ f args' r w nx nx' W h'.get v := by
  obtain ⟨x, h0, nx0, R0, W0, R00, W00, e0, e00, rfl, rfl⟩ := bind_ok e
  obtain ⟨rfl, rfl, rfl, rfl⟩ := ret_ok e00
  obtain ⟨i, h1, nx1, R1, W1, R2, W2, e1, e2, rfl, rfl⟩ := bind_ok e0
  obtain ⟨rfl, rfl, rfl, rfl⟩ := ret_ok e2
  unfold fresh at e1
  cases e1
  refine c.mono ?_
  rintro en w' ⟨v', rfl, hv, hb⟩
  obtain ⟨r', hX, hr⟩ := ext_fact (S := symSig ρ) (f := f0) hM hb hN hv (Sy.one hv)
  exact ⟨_, r', rfl, .tuple (.cons (.opq hr (Sy.one hv)) (.cons (.same hp) .nil)), by simpa using hX.congr fun n => .inr (Tr.get_set _ _ _ _)⟩
noncomputable def ratS (A : List As) (args : List Value) : Option (M Sy Value) := match args with
  | [a] => match a with
    | .agg cs => some (bind (frcV cs.toList) fun o => match o with
      | some e => match fitB A e with
        | some t => cond t (bind (newFact (.rt e)) fun p => ret (.tuple ⟨[p, .bool true]⟩)) fail
        | none => fail
      | none => bind (newFact .jk) fun p => ret (.tuple ⟨[p, .bool false]⟩))
    | _ => none
  | _ => none
theorem s_rat (hA : AllH ρ A) : SumF (symSig ρ) Tryz.prog 64 (ratS A) := by
  intro args m e
  unfold ratS at e
  rcases args with _ | ⟨a, _ | ⟨c, l⟩⟩ <;> simp only [reduceCtorEq] at e
  cases a <;> simp only [reduceCtorEq, Option.some.injEq] at e
  rename_i cs
  subst e
  refine ⟨loc_bind (loc_frcV _) fun o => ?_, ?_⟩
  · split
    · split
      · exact loc_cond (loc_bind (loc_newFact _) fun _ => loc_ret _) loc_fail
      · exact loc_fail
    · exact loc_bind (loc_newFact _) fun _ => loc_ret _
  intro h nx v h' nx' R W e r w args' ha hM hN
  cases ha with
  | cons ha hb =>
  cases hb
  obtain ⟨cl⟩ := cs
  obtain ⟨cl', rfl, hc⟩ := vr_agg ha
  obtain ⟨o, h1, nx1, R1, W1, R2, W2, e1, e2, rfl, rfl⟩ := bind_ok e
  obtain ⟨rfl, rfl, rfl, hx⟩ := frcV_ok e1 hc hM
  have hG := mod_G hM rfl
  have hT : Tab w := hM.base
  cases o with
  | none =>
    obtain ⟨x, hbad, rfl⟩ := hx
    have := sgoes_factT (u := .bool false) rfl e2 hM hN (f := 64) (args' := [.agg ⟨cel x⟩]) ((rat_bad x hbad hG hT).mono fun e w' hh => by
      obtain ⟨b, rfl, hb⟩ := hh
      exact ⟨_, rfl, ⟨_, rfl⟩, hb⟩)
    exact this
  | some e0 =>
    obtain rfl : cl' = _ := hx
    simp only at e2
    cases hf : fitB A e0 with
    | none => rw [hf] at e2; cases (show (fail : M Sy Value) h1 nx1 = _ from e2)
    | some t =>
      rw [hf] at e2
      obtain ⟨rfl, e3⟩ := cond_ok e2
      have := sgoes_factT (u := .bool true) rfl e3 hM hN (f := 64) (args' := [.agg ⟨cel (tri (e0.ev ρ.q))⟩]) ((rat_ok ((fitB_ok hA hf).1 rfl) hG hT).mono fun e w' hh => by
        obtain ⟨x, rfl, hx, hb⟩ := hh
        exact ⟨_, rfl, hx, hb⟩)
      exact this
end
end Ev
end Go.Proofs.YthjofdfnppadnaaGreatDoor
