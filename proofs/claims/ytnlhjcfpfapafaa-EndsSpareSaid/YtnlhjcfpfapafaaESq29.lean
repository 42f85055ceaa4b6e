/- Contracts. -/
import Derived.Test.YtnlhjcfpfapafaaESq28
import Derived.Test.YtnlhjcfpfapafaaESq27
namespace Go.Proofs.Ytnlhjcfpfapafaa
open Go Go.RowKit
namespace Ev
set_option maxRecDepth 100000
noncomputable def isFnE (f : Fn) : Bool := match f with
 | .func g => Nat.beq g esF
 | _ => false
theorem isFnE_ok {f : Fn} (h : isFnE f = true) : f = .func esF := by
 cases f <;> first | (cases (show false = true from h); done) | skip
 rw [Nat.eq_of_beq_eq_true (show Nat.beq _ esF = true from h)]
noncomputable def isIxE (a : Nat) (f : Sy) : Bool := match f with
 | .ix b s => Nat.beq b a && eqI s 0
 | _ => false
theorem isIxE_ok {a : Nat} {f : Sy} (h : isIxE a f = true) : f = .ix a 0 := by
 cases f <;> first | (cases (show false = true from h); done) | skip
 have h' := Bool.and_eq_true_iff.1 (show (Nat.beq _ a && eqI _ 0) = true from h)
 rw [Nat.eq_of_beq_eq_true h'.1, eqI_ok h'.2]
noncomputable def isLsE (K c : Nat) (f : Sy) : Bool := match f with
 | .ls k d => Nat.beq k K && Nat.beq d c
 | _ => false
theorem isLsE_ok {K c : Nat} {f : Sy} (h : isLsE K c f = true) : f = .ls K c := by
 cases f <;> first | (cases (show false = true from h); done) | skip
 have h' := Bool.and_eq_true_iff.1 (show (Nat.beq _ K && Nat.beq _ c) = true from h)
 rw [Nat.eq_of_beq_eq_true h'.1, Nat.eq_of_beq_eq_true h'.2]
noncomputable def boxL (n : Nat) : M Sy Unit := bind (rd n) fun y => match y with
 | .cells c t => match c with
  | [v] => bind (fact v) fun z => cond (Nat.beq t 35 && isLsE 1 0 z) (ret ()) fail
  | _ => fail
 | _ => fail
noncomputable def boxX (n : Nat) : M Sy Unit := bind (rd n) fun y => match y with
 | .cells c t => bind (numV (.agg ⟨c⟩)) fun q => cond (Nat.beq t 70 && q.beq (.v 8)) (ret ()) fail
 | _ => fail
theorem loc_boxL (n : Nat) : Loc (boxL n) := loc_bind (loc_rd _) fun y => by
 (repeat' split) <;> first | exact loc_fail | exact loc_bind (loc_fact _) fun _ => loc_cond (loc_ret _) loc_fail
theorem loc_boxX (n : Nat) : Loc (boxX n) := loc_bind (loc_rd _) fun y => by
 (repeat' split) <;> first | exact loc_fail | exact loc_bind (loc_numV _) fun _ => loc_cond (loc_ret _) loc_fail
section
variable {ρ : Env} {h h' : Tr (Blk Sy)} {nx nx' : Nat} {R W : List Nat} {r : Ren} {w : World} {u : Unit}
theorem lo_of {b : Nat} {t : TypeId} (hd : (symSig ρ).hid b t = false) : ρ.lo ≤ b := by
 have hd' : (Nat.blt b ρ.lo || (ρ.fz.t t || symHid t)) = false := hd
 rw [Bool.or_eq_false_iff] at hd'
 replace hd' := hd'.1
 apply Nat.le_of_not_lt
 intro q
 have : Nat.blt b ρ.lo = true := Nat.ble_eq_true_of_le q
 rw [hd'] at this; cases this
theorem boxL_ok {n b : Nat} (e : boxL n h nx = .ok u h' nx' R W) (hM : Mod (symSig ρ) r h.get w) (hb : r.blk n = some b) (hf0 : Pl ρ) : h' = h ∧ nx' = nx ∧ W = [] ∧ ρ.lo ≤ b ∧ ∃ v, w.heap[b]? = some (.cells ⟨[v]⟩ 35 (0, 0)) ∧ LsLo ρ.lo 1 w v (ρ.lst 0) := by
 obtain ⟨y, h1, nx1, R1, W1, R2, W2, e1, e2, rfl, rfl⟩ := bind_ok e
 obtain ⟨hg, rfl, rfl, rfl⟩ := rdb_ok e1
 cases y <;> first | (cases (show (fail : M Sy Unit) _ _ = _ from e2); done) | skip
 rename_i c t
 rcases c with _ | ⟨v, _ | ⟨v2, c⟩⟩ <;> first | (cases (show (fail : M Sy Unit) _ _ = _ from e2); done) | skip
 obtain ⟨z, h3, nx3, R3, W3, R4, W4, e3, e4, rfl, rfl⟩ := bind_ok e2
 obtain ⟨b', c', k1, k2, k3, k4⟩ := hM.cells n _ _ hg
 rw [hb] at k1
 cases k1
 cases k3 with
 | cons k5 k6 =>
  cases k6
  obtain ⟨rfl, rfl, rfl, hf⟩ := fact_ok e3 k5 hM
  obtain ⟨hk, e5⟩ := cond_ok e4
  obtain ⟨_, rfl, rfl, rfl⟩ := ret_ok e5
  simp only [Bool.and_eq_true] at hk
  have ht := Nat.eq_of_beq_eq_true hk.1
  subst ht
  rw [isLsE_ok hk.2] at hf
  exact ⟨rfl, rfl, rfl, lo_of (k4 (show (ρ.fz.t _ || symHid _) = false from by rw [hf0]; kernel_rfl)), _, k2, hf⟩
theorem boxX_ok {n b : Nat} (e : boxX n h nx = .ok u h' nx' R W) (hM : Mod (symSig ρ) r h.get w) (hb : r.blk n = some b) (hf0 : Pl ρ) : h' = h ∧ nx' = nx ∧ W = [] ∧ ρ.lo ≤ b ∧ ∃ cl, w.heap[b]? = some (.cells ⟨cl⟩ 70 (0, 0)) ∧ NumIn w (.agg ⟨cl⟩) (ρ.q 8) := by
 obtain ⟨y, h1, nx1, R1, W1, R2, W2, e1, e2, rfl, rfl⟩ := bind_ok e
 obtain ⟨hg, rfl, rfl, rfl⟩ := rdb_ok e1
 cases y <;> first | (cases (show (fail : M Sy Unit) _ _ = _ from e2); done) | skip
 rename_i c t
 obtain ⟨q, h3, nx3, R3, W3, R4, W4, e3, e4, rfl, rfl⟩ := bind_ok e2
 obtain ⟨b', c', k1, k2, k3, k4⟩ := hM.cells n _ _ hg
 rw [hb] at k1
 cases k1
 obtain ⟨rfl, rfl, rfl, hn⟩ := numV_ok e3 (.agg k3) hM
 obtain ⟨hk, e5⟩ := cond_ok e4
 obtain ⟨_, rfl, rfl, rfl⟩ := ret_ok e5
 simp only [Bool.and_eq_true] at hk
 have ht := Nat.eq_of_beq_eq_true hk.1
 subst ht
 rw [Qe.beq_ok _ _ hk.2] at hn
 exact ⟨rfl, rfl, rfl, lo_of (k4 (show (ρ.fz.t _ || symHid _) = false from by rw [hf0]; kernel_rfl)), _, k2, hn⟩
end
theorem search_lst (w : World) {qs : List Rat} {x : Rat} (hq : ∀ y ∈ qs, Fit y) (hx : Fit x) (hl : qs.length ≤ 10000) {b3 b5 lo c : Nat} {v : Value} {cl : List Value} (l3 : lo ≤ b3) (l5 : lo ≤ b5) (h3 : w.heap[b3]? = some (.cells ⟨[v]⟩ 35 (0, 0))) (hv : LsLo lo 1 w v qs)
  (h5 : w.heap[b5]? = some (.cells ⟨cl⟩ 70 (0, 0))) (hc : NumIn w (.agg ⟨cl⟩) x) (g3 : Try.prog.globals.size ≤ b3) (g5 : Try.prog.globals.size ≤ b5) (h6 : c ≤ qs.length) (hb : ∀ t, t < c → qs.getD t 0 < x) (ha : ∀ t, c ≤ t → t < qs.length → ¬ qs.getD t 0 < x) (hG : Try.prog.globals.size ≤ w.heap.size) (hT : natSig.base w) :
  Calls Try.prog 67 ⟨[.int .i64 ((qs.length : Nat) : Int), .func (.func esF) ⟨[]⟩ ⟨[vpt0 b3, vpt0 b5]⟩]⟩ w fun e w' => e = .returned (.int .i64 (c : Int)) ∧ Below w.heap.size w w' := by
 refine search_any w ⟨[vpt0 b3, vpt0 b5]⟩ qs.length c (fun i => !decide (qs.getD i 0 < x)) hl (fun W' i hbW hi => ?_) h6 (fun t ht => ?_) (fun t h1 h2 => ?_)
 ·have k3 := (hbW.block b3 (Array.getElem?_eq_some_iff.1 h3).1).trans h3
  have k5 := (hbW.block b5 (Array.getElem?_eq_some_iff.1 h5).1).trans h5
  have c0 := closure_any W' hq hx hl l3 l5 k3 (hv.keep hbW) k5 (hc.keep hbW) g3 g5 hi (Nat.le_trans hG hbW.size) (natSig.baseS w W' hT fun b o hb ho => (hbW.block b (Nat.lt_of_lt_of_le hb hG)).trans ho)
  have e0 : (#[.int .i64 (i : Int)] : Array Value) ++ ⟨[vpt0 b3, vpt0 b5]⟩ = ⟨[.int .i64 (i : Int), vpt0 b3, vpt0 b5]⟩ := by simp
  rw [e0]
  exact Calls.mono c0 fun e W2 hh => ⟨hh.1, hbW.trans (hh.2.mono hbW.size)⟩
 ·rw [decide_eq_true (hb t ht)]; rfl
 ·rw [decide_eq_false (ha t h1 h2)]; rfl
theorem vr_clo {r : Ren} {fn : Fn} {n k : Nat} {v' : Value} (h : VR r (.func fn ⟨[]⟩ ⟨[vpt0 n, vpt0 k]⟩) v') : ∃ b3 b5, r.blk n = some b3 ∧ r.blk k = some b5 ∧ v' = .func fn ⟨[]⟩ ⟨[vpt0 b3, vpt0 b5]⟩ := by
 cases h with
 | same p => simp [plain] at p
 | func z1 z2 =>
  cases z1
  cases z2 with
  | cons z3 z4 => cases z4 with
   | cons z5 z6 =>
    cases z6
    unfold vpt0 at z3 z5
    cases z3 with
    | same p => simp [plain] at p
    | ptr y3 => cases z5 with
     | same p => simp [plain] at p
     | ptr y5 => exact ⟨_, _, y3, y5, rfl⟩
noncomputable def srcS : Nat × (List Value → Option (M Sy Value)) := (67, fun args => match args with
 | [a, f] => match f with
  | .func fn first cap => match first.toList with
   | [] => match cap.toList with
    | [p, q] => match isPtr0 p with
     | some n => match isPtr0 q with
      | some m => some (bind (fact a) fun x => bind (boxL n) fun _ => bind (boxX m) fun _ => cond (isFnE fn && (isIxE 1 x && (Nat.ble 100000 n && Nat.ble 100000 m))) (newFact (.ix 6 0)) fail)
      | none => none
     | none => none
    | _ => none
   | _ => none
  | _ => none
 | _ => none)
theorem srcS_ok {ρ : Env} (hq : ∀ y ∈ ρ.lst 0, Fit y) (hx : Fit (ρ.q 8)) (hl : (ρ.lst 0).length ≤ 10000) (h1 : ρ.nat 1 = (ρ.lst 0).length) (h6 : ρ.nat 6 ≤ (ρ.lst 0).length) (hb : ∀ t, t < ρ.nat 6 → (ρ.lst 0).getD t 0 < ρ.q 8) (ha : ∀ t, ρ.nat 6 ≤ t → t < (ρ.lst 0).length → ¬ (ρ.lst 0).getD t 0 < ρ.q 8) (hf0 : Pl ρ := by rfl) :
  SumF (symSig ρ) Try.prog srcS.1 srcS.2 := by
 intro args m e
 rcases args with _ | ⟨a, _ | ⟨f, _ | ⟨z, l⟩⟩⟩ <;> first | (cases (show none = some m from e); done) | skip
 cases f <;> first | (cases (show none = some m from e); done) | skip
 rename_i fn first cap
 obtain ⟨first⟩ := first
 obtain ⟨cap⟩ := cap
 rcases first with _ | ⟨f1, first⟩ <;> first | (cases (show none = some m from e); done) | skip
 rcases cap with _ | ⟨p, _ | ⟨q, _ | ⟨q2, cap⟩⟩⟩ <;> first | (cases (show none = some m from e); done) | skip
 cases hp : isPtr0 p with
 | none => simp only [srcS, hp] at e; cases e
 | some n =>
  cases hq2 : isPtr0 q with
  | none => simp only [srcS, hp, hq2] at e; cases e
  | some k =>
   simp only [srcS, hp, hq2, Option.some.injEq] at e
   subst e
   have e1 := isPtr0_of hp
   have e2 := isPtr0_of hq2
   subst e1 e2
   refine ⟨loc_bind (loc_fact _) fun _ => loc_bind (loc_boxL _) fun _ => loc_bind (loc_boxX _) fun _ => loc_cond (loc_newFact _) loc_fail, fun h nx v h' nx' R W e r w args' hv hM hN => ?_⟩
   cases hv with
   | cons v1 hv => cases hv with
    | cons v2 hv =>
     cases hv
     obtain ⟨x, g1, nx1, R1, W1, R2, W2, e1, e2, rfl, rfl⟩ := bind_ok e
     obtain ⟨rfl, rfl, rfl, hf⟩ := fact_ok e1 v1 hM
     obtain ⟨_, g3, nx3, R3, W3, R4, W4, e3, e4, rfl, rfl⟩ := bind_ok e2
     obtain ⟨_, g5, nx5, R5, W5, R6, W6, e5, e6, rfl, rfl⟩ := bind_ok e4
     obtain ⟨b3, b5, hb3, hb5, rfl⟩ := vr_clo v2
     obtain ⟨rfl, rfl, rfl, l3, v3, c3, d3⟩ := boxL_ok e3 hM hb3 hf0
     obtain ⟨rfl, rfl, rfl, l5, cl5, c5, d5⟩ := boxX_ok e5 hM hb5 hf0
     obtain ⟨hk, e7⟩ := cond_ok e6
     simp only [Bool.and_eq_true] at hk
     obtain ⟨k1, k2, k3, k4⟩ := hk
     have hfn := isFnE_ok k1
     subst hfn
     rw [isIxE_ok k2] at hf
     have hf' : _ = Value.int .i64 (((ρ.nat 1 : Nat) : Int) + 0) := hf
     rw [Int.add_zero, h1] at hf'
     subst hf'
     have hgl : (symSig ρ).G ≤ 100000 := glob_few
     have g3' : Try.prog.globals.size ≤ b3 := hM.own n b3 hb3 (Nat.le_trans hgl (Nat.le_of_ble_eq_true k3))
     have g5' : Try.prog.globals.size ≤ b5 := hM.own k b5 hb5 (Nat.le_trans hgl (Nat.le_of_ble_eq_true k4))
     simp only [List.nil_append]
     have hG : Try.prog.globals.size ≤ w.heap.size := hM.fits
     have cS := search_lst w hq hx hl l3 l5 c3 d3 c5 d5 g3' g5' h6 hb ha hG hM.base
     obtain ⟨i9, q1, nq1, Rq, Wq, Rq2, Wq2, f1, f2, rfl, rfl⟩ := bind_ok e7
     obtain ⟨rfl, rfl, rfl, rfl⟩ := ret_ok f2
     unfold fresh at f1
     cases f1
     refine Calls.mono cS ?_
     rintro en w' ⟨rfl, hbb⟩
     have hh : (Sy.ix 6 0).holds ρ w' (.int .i64 ((ρ.nat 6 : Nat) : Int)) := by
      show Value.int .i64 ((ρ.nat 6 : Nat) : Int) = .int .i64 (((ρ.nat 6 : Nat) : Int) + 0)
      rw [Int.add_zero]
     obtain ⟨r', hX, hr⟩ := ext_fact (S := symSig ρ) (f := .ix 6 0) hM hbb hN hh rfl
     exact ⟨_, r', rfl, .opq hr rfl, by simpa using hX.congr fun n => .inr (Tr.get_set _ _ _ _)⟩
noncomputable def stF : Nat := 36
noncomputable def stD : Qe := .sub (.v 2) (.v 8)
noncomputable def stE : Qe := .add (.v 5) (.quo (.mul (.sub (.v 3) (.v 5)) (.sub (.v 8) (.v 4))) (.sub (.v 2) (.v 4)))
noncomputable def stSums (A : List As) : Sums Sy := sumsOf (mkTab (srcS :: ecmpS A :: symList A))
noncomputable def stB (k : Nat) : List Ix := [.ln 0 1, .ln 3 1, .bd 1, .bd 6, .lt 1 0 6 0 false] ++ (match k with
 | 0 => [.lt 6 0 1 0 false]
 | 1 => [.lt 6 0 1 0 true, .el 0 6 0 (.v 2), .el 3 6 0 (.v 3)]
 | 2 => [.lt 6 0 1 0 true, .el 0 6 0 (.v 2), .el 3 6 0 (.v 3), .lt 6 0 0 0 false, .lt 0 0 6 0 false]
 | _ => [.lt 6 0 1 0 true, .el 0 6 0 (.v 2), .el 3 6 0 (.v 3), .lt 6 0 0 0 false, .lt 0 0 6 0 true, .lt 6 (-1) 0 0 false, .lt 6 (-1) 1 0 true, .el 0 6 (-1) (.v 4), .el 3 6 (-1) (.v 5)])
noncomputable def stA (k : Nat) : List As := match k with
 | 0 => []
 | 1 => [⟨1, stD, z0, true⟩]
 | 2 => [⟨1, stD, z0, false⟩, ⟨3, stD, z0, false⟩]
 | _ => [⟨1, stD, z0, false⟩, ⟨3, stD, z0, false⟩, ⟨1, .sub (.v 2) (.v 4), z0, false⟩]
noncomputable def stRun (k : Nat) : Option (D3 Sy) := tells [.ls 1 0, .ls 1 3, .ng (.v 8), .nu (.v 8), .de (.v 8)] [.one, .one, .agg 3] (call Try.prog (lsCfg false (stA k) (stB k) noJ) (stSums (stA k)) 30 stF)
noncomputable def stNo : D3 Sy := .tuple [.agg [.p (.bool false), .p (.slice none 0 0), .p (.slice none 0 0)], .one (.p (.bool false))]
noncomputable def stYes (e : Qe) : D3 Sy := .tuple [.agg [.f (.ng e), .f (.nu e), .f (.de e)], .one (.p (.bool true))]
set_option maxHeartbeats 4000000 in
theorem st_runs : stRun 0 = some stNo ∧ stRun 1 = some (stYes (.v 3)) ∧ stRun 2 = some stNo ∧ stRun 3 = some (stYes stE) := ⟨by kernel_rfl, by kernel_rfl, by kernel_rfl, by kernel_rfl⟩
def stQ (qs rs : List Rat) (x : Rat) (c : Nat) : Nat → Rat
 | 2 => qs.getD c 0
 | 3 => rs.getD c 0
 | 4 => qs.getD (c - 1) 0
 | 5 => rs.getD (c - 1) 0
 | 8 => x
 | _ => 0
theorem stQ_fit {qs rs : List Rat} {x : Rat} (hq : ∀ y ∈ qs, Fit y) (hr : ∀ y ∈ rs, Fit y) (hx : Fit x) (c i : Nat) : Fit (stQ qs rs x c i) := by
 unfold stQ
 split
 ·exact getD_fit hq _
 ·exact getD_fit hr _
 ·exact getD_fit hq _
 ·exact getD_fit hr _
 ·exact hx
 ·exact fit00
def stNat (n c : Nat) : Nat → Nat
 | 1 => n
 | 6 => c
 | _ => 0
def stLst (qs rs : List Rat) : Nat → List Rat
 | 0 => qs
 | 3 => rs
 | _ => []
def stEnv (qs rs : List Rat) (x : Rat) (hq : ∀ y ∈ qs, Fit y) (hr : ∀ y ∈ rs, Fit y) (hx : Fit x) (c lo : Nat) : Env := ⟨stQ qs rs x c, fun _ => (false, ⟨#[]⟩, ⟨#[]⟩), fun i _ => stQ_fit hq hr hx c i, fun i => (stQ_fit hq hr hx c i).sm.up (by decide), fun _ => bad_zero, lo, stLst qs rs, stNat qs.length c, rfl⟩
def linAt (qs rs : List Rat) (x : Rat) (c : Nat) : Option Rat :=
 if c = qs.length then none else if qs.getD c 0 = x then some (rs.getD c 0) else if c = 0 then none
 else some (rs.getD (c - 1) 0 + (rs.getD c 0 - rs.getD (c - 1) 0) * (x - qs.getD (c - 1) 0) / (qs.getD c 0 - qs.getD (c - 1) 0))
def StRes (o : Option Rat) (e : Ending) (w' : World) : Prop := match o with
 | none => e = .returned (.tuple ⟨[.agg ⟨[.bool false, .slice none 0 0, .slice none 0 0]⟩, .bool false]⟩)
 | some y => ∃ z, e = .returned (.tuple ⟨[z, .bool true]⟩) ∧ NumIn w' z y
theorem straight_any (w : World) {qs rs : List Rat} {x : Rat} (hq : ∀ y ∈ qs, Fit y) (hr : ∀ y ∈ rs, Fit y) (hx : Fit x) (hl : qs.length ≤ 10000) (hlr : rs.length = qs.length) {c : Nat} (h6 : c ≤ qs.length) (hb : ∀ t, t < c → qs.getD t 0 < x) (ha : ∀ t, c ≤ t → t < qs.length → ¬ qs.getD t 0 < x)
  {v u z : Value} (hv : LsIn 1 w v qs) (hu : LsIn 1 w u rs) (hz : NumIn w z x) (hG : Try.prog.globals.size ≤ w.heap.size) (hT : natSig.base w) :
  Calls Try.prog stF ⟨[v, u, z]⟩ w fun e w' => StRes (linAt qs rs x c) e w' ∧ Below w.heap.size w w' := by
 let E := stEnv qs rs x hq hr hx c w.heap.size
 obtain ⟨us, rfl, hh⟩ := num_holds (ρ := E) (e := .v 8) (w := w) hz
 have hin : HoldsL (symSig E) w [.ls 1 0, .ls 1 3, .ng (.v 8), .nu (.v 8), .de (.v 8)] (v :: u :: us) := ⟨_, _, rfl, LsIn.ls hv rfl, by obtain ⟨a, m, rfl, _⟩ := hv; rfl, _, _, rfl, LsIn.ls hu rfl, by obtain ⟨a, m, rfl, _⟩ := hu; rfl, hh⟩
 have h3 : us.length = 3 := by
  obtain ⟨u1, l1, rfl, _, _, u2, l2, rfl, _, _, u3, l3, rfl, _, _, rfl⟩ := hh
  rfl
 have hS : ∀ A, AllH E A → SumOK (symSig E) Try.prog (stSums A) := fun A hA => sumsOf_ok fun y hy => by
  rcases List.mem_cons.1 hy with rfl | hy
  ·exact srcS_ok (ρ := E) hq hx hl rfl h6 hb ha
  rcases List.mem_cons.1 hy with rfl | hy
  ·exact ecmpS_ok hA
  ·exact symList_ok hA y hy
 have hB0 : ∀ y ∈ ([.ln 0 1, .ln 3 1, .bd 1, .bd 6, .lt 1 0 6 0 false] : List Ix), y.holds E := fun y hy => by
  simp only [List.mem_cons, List.not_mem_nil, or_false] at hy
  rcases hy with rfl | rfl | rfl | rfl | rfl
  ·rfl
  ·exact hlr
  ·exact hl
  ·show c ≤ 10000
   omega
  ·show false = true ↔ ((qs.length : Nat) : Int) + 0 < ((c : Nat) : Int) + 0
   exact ⟨fun h => (by cases h), fun h => by omega⟩
 have hlt : c < qs.length → ∀ y ∈ ([.lt 6 0 1 0 true, .el 0 6 0 (.v 2), .el 3 6 0 (.v 3)] : List Ix), y.holds E := fun hc y hy => by
  simp only [List.mem_cons, List.not_mem_nil, or_false] at hy
  rcases hy with rfl | rfl | rfl
  ·show true = true ↔ ((c : Nat) : Int) + 0 < ((qs.length : Nat) : Int) + 0
   exact ⟨fun _ => by omega, fun _ => rfl⟩
  ·refine ⟨c, (Int.add_zero _).symm, ?_⟩
   show qs[c]? = some (qs.getD c 0)
   rw [List.getD_eq_getElem?_getD, List.getElem?_eq_getElem hc]; rfl
  ·refine ⟨c, (Int.add_zero _).symm, ?_⟩
   show rs[c]? = some (rs.getD c 0)
   rw [List.getD_eq_getElem?_getD, List.getElem?_eq_getElem (by omega)]; rfl
 have run : ∀ {k : Nat} {d : D3 Sy} {Q : Ending → World → Prop}, AllH E (stA k) → AllX E (stB k) → stRun k = some d → (∀ w' v', d.is (symSig E) w' v' → Q (.returned v') w') → Calls Try.prog stF ⟨[v, u, .agg ⟨us⟩]⟩ w fun e w' => Q e w' ∧ Below w.heap.size w w' := fun {k d Q} hA hB hr hd => by
  have c0 := tells_calls (lsFits hA hB) (hS _ hA) hr rfl glob_few hin hG hT (Nat.le_refl _) (.none rfl)
  have e0 : split [.one, .one, .agg 3] (v :: u :: us) = [v, u, .agg ⟨us⟩] := by
   show [v, u, .agg ⟨us.take 3⟩] = _
   rw [List.take_of_length_le (by omega)]
  rw [e0] at c0
  refine c0.mono ?_
  rintro e w' ⟨v', rfl, h1, hb⟩
  exact ⟨hd w' v' h1, hb⟩
 have no : ∀ w' v', stNo.is (symSig E) w' v' → StRes none (.returned v') w' := fun w' v' h => by
  obtain ⟨vs, rfl, a, l1, rfl, ⟨us, rfl, a1, m1, rfl, k1, a2, m2, rfl, k2, a3, m3, rfl, k3, rfl⟩, u2, l2, rfl, h2, rfl⟩ := h
  have k1' : a1 = .bool false := k1
  have k2' : a2 = .slice none 0 0 := k2
  have k3' : a3 = .slice none 0 0 := k3
  have h2' : u2 = .bool false := h2
  subst k1' k2' k3' h2'
  rfl
 have yes : ∀ (e : Qe) w' v', (stYes e).is (symSig E) w' v' → StRes (some (e.ev E.q)) (.returned v') w' := fun e w' v' h => by
  obtain ⟨vs, rfl, a, l1, rfl, ⟨us, rfl, a1, m1, rfl, k1, a2, m2, rfl, k2, a3, m3, rfl, k3, rfl⟩, u2, l2, rfl, h2, rfl⟩ := h
  have k1' : a1 = .bool (Big.ng (e.ev E.q)) := k1
  have h2' : u2 = .bool true := h2
  subst k1' h2'
  exact ⟨_, rfl, ⟨a2, a3, rfl, k2, k3⟩⟩
 by_cases hcn : c = qs.length
 ·have e0 : linAt qs rs x c = none := by unfold linAt; rw [if_pos hcn]
  rw [e0]
  refine run (k := 0) (fun y hy => by simp [stA] at hy) (fun y hy => ?_) st_runs.1 no
  rcases List.mem_append.1 hy with hy | hy
  ·exact hB0 y hy
  ·obtain rfl := List.mem_singleton.1 hy
   show false = true ↔ ((c : Nat) : Int) + 0 < ((qs.length : Nat) : Int) + 0
   exact ⟨fun h => (by cases h), fun h => by omega⟩
 have hc : c < qs.length := by omega
 by_cases he : qs.getD c 0 = x
 ·have e0 : linAt qs rs x c = some (rs.getD c 0) := by unfold linAt; rw [if_neg hcn, if_pos he]
  rw [e0]
  refine run (k := 1) (fun y hy => ?_) (fun y hy => ?_) st_runs.2.1 (yes (.v 3))
  ·obtain rfl := List.mem_singleton.1 hy
   show true = true ↔ qs.getD c 0 - x = 0
   exact ⟨fun _ => by rw [he]; grind, fun _ => rfl⟩
  ·rcases List.mem_append.1 hy with hy | hy
   ·exact hB0 y hy
   ·exact hlt hc y hy
 have hgt : x < qs.getD c 0 := by
  have h1 := ha c (Nat.le_refl _) hc
  grind
 have hA2 : ∀ y ∈ ([⟨1, stD, z0, false⟩, ⟨3, stD, z0, false⟩] : List As), y.holds E.q := fun y hy => by
  simp only [List.mem_cons, List.not_mem_nil, or_false] at hy
  rcases hy with rfl | rfl
  ·show false = true ↔ qs.getD c 0 - x = 0
   exact ⟨fun h => (by cases h), fun h => absurd (show qs.getD c 0 = x by grind) he⟩
  ·show false = Big.ng (qs.getD c 0 - x)
   unfold Big.ng
   symm
   rw [decide_eq_false_iff_not, Int.not_lt, Rat.num_nonneg]
   grind
 by_cases h0 : c = 0
 ·have e0 : linAt qs rs x c = none := by unfold linAt; rw [if_neg hcn, if_neg he, if_pos h0]
  rw [e0]
  refine run (k := 2) hA2 (fun y hy => ?_) st_runs.2.2.1 no
  rcases List.mem_append.1 hy with hy | hy
  ·exact hB0 y hy
  ·rcases List.mem_append.1 (show y ∈ ([.lt 6 0 1 0 true, .el 0 6 0 (.v 2), .el 3 6 0 (.v 3)] : List Ix) ++ [.lt 6 0 0 0 false, .lt 0 0 6 0 false] from hy) with hy | hy
   ·exact hlt hc y hy
   ·simp only [List.mem_cons, List.not_mem_nil, or_false] at hy
    rcases hy with rfl | rfl
    ·show false = true ↔ ((c : Nat) : Int) + 0 < ((0 : Nat) : Int) + 0
     exact ⟨fun h => (by cases h), fun h => by omega⟩
    ·show false = true ↔ ((0 : Nat) : Int) + 0 < ((c : Nat) : Int) + 0
     exact ⟨fun h => (by cases h), fun h => by omega⟩
 ·have e0 : linAt qs rs x c = some (stE.ev E.q) := by unfold linAt; rw [if_neg hcn, if_neg he, if_neg h0]; rfl
  rw [e0]
  have hlow := hb (c - 1) (by omega)
  refine run (k := 3) (fun y hy => ?_) (fun y hy => ?_) st_runs.2.2.2 (yes stE)
  ·rcases List.mem_append.1 (show y ∈ ([⟨1, stD, z0, false⟩, ⟨3, stD, z0, false⟩] : List As) ++ [⟨1, .sub (.v 2) (.v 4), z0, false⟩] from hy) with hy | hy
   ·exact hA2 y hy
   ·obtain rfl := List.mem_singleton.1 hy
    show false = true ↔ qs.getD c 0 - qs.getD (c - 1) 0 = 0
    exact ⟨fun h => (by cases h), fun h => by grind⟩
  ·rcases List.mem_append.1 hy with hy | hy
   ·exact hB0 y hy
   ·rcases List.mem_append.1 (show y ∈ ([.lt 6 0 1 0 true, .el 0 6 0 (.v 2), .el 3 6 0 (.v 3)] : List Ix) ++ [.lt 6 0 0 0 false, .lt 0 0 6 0 true, .lt 6 (-1) 0 0 false, .lt 6 (-1) 1 0 true, .el 0 6 (-1) (.v 4), .el 3 6 (-1) (.v 5)] from hy) with hy | hy
    ·exact hlt hc y hy
    ·simp only [List.mem_cons, List.not_mem_nil, or_false] at hy
     rcases hy with rfl | rfl | rfl | rfl | rfl | rfl
     ·show false = true ↔ ((c : Nat) : Int) + 0 < ((0 : Nat) : Int) + 0
      exact ⟨fun h => (by cases h), fun h => by omega⟩
     ·show true = true ↔ ((0 : Nat) : Int) + 0 < ((c : Nat) : Int) + 0
      exact ⟨fun _ => by omega, fun _ => rfl⟩
     ·show false = true ↔ ((c : Nat) : Int) + (-1) < ((0 : Nat) : Int) + 0
      exact ⟨fun h => (by cases h), fun h => by omega⟩
     ·show true = true ↔ ((c : Nat) : Int) + (-1) < ((qs.length : Nat) : Int) + 0
      exact ⟨fun _ => by omega, fun _ => rfl⟩
     ·refine ⟨c - 1, ?_, ?_⟩
      ·show ((c - 1 : Nat) : Int) = ((c : Nat) : Int) + (-1)
       omega
      ·show qs[c - 1]? = some (qs.getD (c - 1) 0)
       rw [List.getD_eq_getElem?_getD, List.getElem?_eq_getElem (by omega)]; rfl
     ·refine ⟨c - 1, ?_, ?_⟩
      ·show ((c - 1 : Nat) : Int) = ((c : Nat) : Int) + (-1)
       omega
      ·show rs[c - 1]? = some (rs.getD (c - 1) 0)
       rw [List.getD_eq_getElem?_getD, List.getElem?_eq_getElem (by omega)]; rfl
section
variable {qs : List Rat} (hq : ∀ q ∈ qs, Fit q) (lo : Nat)
end
noncomputable def isLe (y : Nat × Le) (K c : Nat) : Bool := Nat.beq y.1 K && y.2.beq (.v c)
theorem isLe_ok {y : Nat × Le} {K c : Nat} (h : isLe y K c = true) : y = (K, .v c) := by
 obtain ⟨a, l⟩ := y
 have h' := Bool.and_eq_true_iff.1 (show (Nat.beq a K && l.beq (.v c)) = true from h)
 rw [Nat.eq_of_beq_eq_true h'.1, Le.beq_ok _ _ h'.2]
section
variable {ρ : Env} {B : List Ix}
end
noncomputable def zNumB : Value := .tuple ⟨[.agg ⟨[.bool false, .slice none 0 0, .slice none 0 0]⟩, .bool false]⟩
noncomputable def stS (g : Bool) : Nat × (List Value → Option (M Sy Value)) := (stF, fun args => match args with
 | [a, b, z] => some (bind (lsArg [] a) fun l => bind (lsArg [] b) fun k => bind (numV z) fun q => cond (isLe l 1 0 && (isLe k 1 3 && q.beq (.v 8))) (cond g (ret zNumB) (bind (newFacts [.ng (.v 105), .nu (.v 105), .de (.v 105)]) fun vs => ret (.tuple ⟨[.agg ⟨vs⟩, .bool true]⟩))) fail)
 | _ => none)
theorem stS_ok {ρ : Env} {g : Bool} {c : Nat} (hq : ∀ y ∈ ρ.lst 0, Fit y) (hr : ∀ y ∈ ρ.lst 3, Fit y) (hx : Fit (ρ.q 8)) (hl : (ρ.lst 0).length ≤ 10000) (hlr : (ρ.lst 3).length = (ρ.lst 0).length) (h6 : c ≤ (ρ.lst 0).length) (hb : ∀ t, t < c → (ρ.lst 0).getD t 0 < ρ.q 8) (ha : ∀ t, c ≤ t → t < (ρ.lst 0).length → ¬ (ρ.lst 0).getD t 0 < ρ.q 8)
  (hg : linAt (ρ.lst 0) (ρ.lst 3) (ρ.q 8) c = cond g none (some (ρ.q 105))) : SumF (symSig ρ) Try.prog (stS g).1 (stS g).2 := by
 intro args m e
 rcases args with _ | ⟨a, _ | ⟨b, _ | ⟨z, _ | ⟨z2, l⟩⟩⟩⟩ <;> first | (cases (show none = some m from e); done) | skip
 cases e
 refine ⟨loc_bind (loc_lsArg _ _) fun _ => loc_bind (loc_lsArg _ _) fun _ => loc_bind (loc_numV _) fun _ => loc_cond (loc_cond (loc_ret _) (loc_bind (loc_newFacts _) fun _ => loc_ret _)) loc_fail, fun h nx v h' nx' R W e r w args' hv hM hN => ?_⟩
 have hn : AllX ρ [] := fun _ h => by simp at h
 cases hv with
 | cons v1 hv => cases hv with
  | cons v2 hv => cases hv with
   | cons v3 hv =>
    cases hv
    obtain ⟨l, g1, nx1, R1, W1, R2, W2, e1, e2, rfl, rfl⟩ := bind_ok e
    obtain ⟨rfl, rfl, rfl, q1⟩ := lsArg_ok hn e1 v1 hM
    obtain ⟨k, g3, nx3, R3, W3, R4, W4, e3, e4, rfl, rfl⟩ := bind_ok e2
    obtain ⟨rfl, rfl, rfl, q2⟩ := lsArg_ok hn e3 v2 hM
    obtain ⟨q, g5, nx5, R5, W5, R6, W6, e5, e6, rfl, rfl⟩ := bind_ok e4
    obtain ⟨rfl, rfl, rfl, q3⟩ := numV_ok e5 v3 hM
    obtain ⟨hk, e7⟩ := cond_ok e6
    simp only [Bool.and_eq_true] at hk
    obtain rfl := isLe_ok hk.1
    obtain rfl := isLe_ok hk.2.1
    obtain rfl := Qe.beq_ok _ _ hk.2.2
    have c0 := straight_any w hq hr hx hl hlr h6 hb ha q1 q2 q3 hM.fits hM.base
    rw [hg] at c0
    simp only [List.nil_append]
    cases g with
    | true =>
     refine goes_pl (show (ret zNumB : M Sy Value) _ _ = _ from e7) rfl hM (c0.mono ?_)
     rintro en w' ⟨q, hb⟩
     exact ⟨q, hb⟩
    | false =>
     refine goes_aggT rfl (show (bind (newFacts [.ng (.v 105), .nu (.v 105), .de (.v 105)]) fun vs => ret (.tuple ⟨[.agg ⟨vs⟩, .bool true]⟩) : M Sy Value) _ _ = _ from e7) hM hN (c0.mono ?_)
     rintro en w' ⟨⟨z, h1, h2⟩, hb⟩
     obtain ⟨us, rfl, hu⟩ := num_holds (ρ := ρ) (e := .v 105) (w := w') h2
     exact ⟨us, h1, hu, hb⟩
noncomputable def toF : Nat := 33
noncomputable def toA (f : Bool) : List As := [⟨0, .v 105, z0, f⟩]
noncomputable def toSums (g f : Bool) : Sums Sy := sumsOf (mkTab (stS g :: symList (toA f)))
noncomputable def toRun (g f : Bool) : Option (D3 Sy) := tells [.ls 1 0, .ls 1 3, .ng (.v 8), .fn (.v 8), .fd (.v 8)] [.one, .one, .agg 3] (call Try.prog (lsCfg false (toA f) [] noJ) (toSums g f) 30 toF)
noncomputable def toD (g f : Bool) : D3 Sy := cond g (.tuple [.agg [.p (.bool false), .p (.string ⟨#[]⟩), .p (.string ⟨#[]⟩)], .one (.p (.int .i64 130))])
 (cond f (.tuple [.agg [.f (.ng (.v 105)), .f (.fn (.v 105)), .f (.fd (.v 105))], .one (.p (.int .i64 0))]) (.tuple [.agg [.p (.bool false), .p (.string ⟨#[]⟩), .p (.string ⟨#[]⟩)], .one (.p (.int .i64 3))]))
set_option maxHeartbeats 4000000 in
theorem to_runs (g f : Bool) : toRun g f = some (toD g f) := by cases g <;> cases f <;> kernel_rfl
noncomputable def zFrE (n : Int) : Value := .tuple ⟨[.agg ⟨[.bool false, .string ⟨#[]⟩, .string ⟨#[]⟩]⟩, .int .i64 n]⟩
noncomputable def frE (y : Rat) : Value := .tuple ⟨[.agg ⟨[.bool (Big.ng y), .string (bst (Big.nu y)), .string (bst (Big.de y))]⟩, .int .i64 0]⟩
def ToRes (o : Option Rat) (e : Ending) : Prop := match o with
 | none => e = .returned (zFrE 130)
 | some y => (Fit y ∧ e = .returned (frE y)) ∨ (¬ Fit y ∧ e = .returned (zFrE 3))
def toQ (qs rs : List Rat) (x y : Rat) (c i : Nat) : Rat := if i = 105 then y else stQ qs rs x c i
theorem lin_sm {qs rs : List Rat} {x y : Rat} (hq : ∀ y ∈ qs, Fit y) (hr : ∀ y ∈ rs, Fit y) (hx : Fit x) {c : Nat} (h : linAt qs rs x c = some y) : Sm 4096 y := by
 unfold linAt at h
 split at h
 ·cases h
 ·split at h
  ·cases h
   exact (getD_fit hr c).sm.up (by decide)
  ·split at h
   ·cases h
   ·cases h
    have := Qe.sm (stEnv qs rs x hq hr hx c 0).fit (stEnv qs rs x hq hr hx c 0).big stE
    exact this.up (by decide)
theorem told_any (w : World) {qs rs : List Rat} {x : Rat} (hq : ∀ y ∈ qs, Fit y) (hr : ∀ y ∈ rs, Fit y) (hx : Fit x) (hl : qs.length ≤ 10000) (hlr : rs.length = qs.length) {c : Nat} (h6 : c ≤ qs.length) (hb : ∀ t, t < c → qs.getD t 0 < x) (ha : ∀ t, c ≤ t → t < qs.length → ¬ qs.getD t 0 < x)
  {v u : Value} (hv : LsIn 1 w v qs) (hu : LsIn 1 w u rs) (hG : Try.prog.globals.size ≤ w.heap.size) (hT : natSig.base w) :
  Calls Try.prog toF ⟨[v, u, .agg ⟨[.bool (Big.ng x), .string (bst (Big.nu x)), .string (bst (Big.de x))]⟩]⟩ w fun e w' => ToRes (linAt qs rs x c) e ∧ Below w.heap.size w w' := by
 obtain ⟨g, y, hy, hg⟩ : ∃ (g : Bool) (y : Rat), Sm 4096 y ∧ linAt qs rs x c = cond g none (some y) := by
  cases h : linAt qs rs x c with
  | none => exact ⟨true, 0, fit00.sm.up (by decide), rfl⟩
  | some y => exact ⟨false, y, lin_sm hq hr hx h, rfl⟩
 let E : Env := ⟨toQ qs rs x y c, fun _ => (false, ⟨#[]⟩, ⟨#[]⟩), fun i h => by
  show Fit (toQ qs rs x y c i)
  unfold toQ
  rw [if_neg (by omega)]
  exact stQ_fit hq hr hx c i, fun i => by
  show Sm 4096 (toQ qs rs x y c i)
  unfold toQ
  split
  ·exact hy
  ·exact (stQ_fit hq hr hx c i).sm.up (by decide), fun _ => bad_zero, w.heap.size, stLst qs rs, fun _ => 0, rfl⟩
 have e8 : E.q 8 = x := rfl
 have e105 : E.q 105 = y := rfl
 obtain ⟨f, hf⟩ : ∃ b : Bool, b = true ↔ Fit y := by
  by_cases h : Fit y
  ·exact ⟨true, ⟨fun _ => h, fun _ => rfl⟩⟩
  ·exact ⟨false, ⟨fun q => (by cases q), fun q => absurd q h⟩⟩
 have hA : AllH E (toA f) := fun z hz => by
  obtain rfl := List.mem_singleton.1 hz
  show f = true ↔ Fit y
  exact hf
 have hB : AllX E [] := fun _ h => by simp at h
 have hS : SumOK (symSig E) Try.prog (toSums g f) := sumsOf_ok fun z hz => by
  rcases List.mem_cons.1 hz with rfl | hz
  ·exact stS_ok (ρ := E) hq hr hx hl hlr h6 hb ha hg
  ·exact symList_ok hA z hz
 have hin : HoldsL (symSig E) w [.ls 1 0, .ls 1 3, .ng (.v 8), .fn (.v 8), .fd (.v 8)] [v, u, .bool (Big.ng x), .string (bst (Big.nu x)), .string (bst (Big.de x))] := ⟨_, _, rfl, LsIn.ls hv rfl, by obtain ⟨a, m, rfl, _⟩ := hv; rfl, _, _, rfl, LsIn.ls hu rfl, by obtain ⟨a, m, rfl, _⟩ := hu; rfl, frac_holds (ρ := E) (.v 8)⟩
 refine (tells_calls (lsFits hA hB) hS (to_runs g f) rfl glob_few hin hG hT (Nat.le_refl _) (.none rfl)).mono ?_
 rintro e w' ⟨v', rfl, h1, hbb⟩
 refine ⟨?_, hbb⟩
 rw [hg]
 cases g with
 | true =>
  obtain ⟨vs, rfl, a, l1, rfl, ⟨us, rfl, a1, m1, rfl, k1, a2, m2, rfl, k2, a3, m3, rfl, k3, rfl⟩, u2, l2, rfl, h2, rfl⟩ := h1
  have k1' : a1 = .bool false := k1
  have k2' : a2 = .string ⟨#[]⟩ := k2
  have k3' : a3 = .string ⟨#[]⟩ := k3
  have h2' : u2 = .int .i64 130 := h2
  subst k1' k2' k3' h2'
  rfl
 | false =>
  cases f with
  | true =>
   obtain ⟨vs, rfl, a, l1, rfl, ⟨us, rfl, a1, m1, rfl, k1, a2, m2, rfl, k2, a3, m3, rfl, k3, rfl⟩, u2, l2, rfl, h2, rfl⟩ := h1
   have k1' : a1 = .bool (Big.ng y) := k1
   have k2' : a2 = .string (bst (Big.nu y)) := k2
   have k3' : a3 = .string (bst (Big.de y)) := k3
   have h2' : u2 = .int .i64 0 := h2
   subst k1' k2' k3' h2'
   exact .inl ⟨hf.1 rfl, rfl⟩
  | false =>
   obtain ⟨vs, rfl, a, l1, rfl, ⟨us, rfl, a1, m1, rfl, k1, a2, m2, rfl, k2, a3, m3, rfl, k3, rfl⟩, u2, l2, rfl, h2, rfl⟩ := h1
   have k1' : a1 = .bool false := k1
   have k2' : a2 = .string ⟨#[]⟩ := k2
   have k3' : a3 = .string ⟨#[]⟩ := k3
   have h2' : u2 = .int .i64 3 := h2
   subst k1' k2' k3' h2'
   exact .inr ⟨fun h => (by have := hf.2 h; cases this), rfl⟩
noncomputable def rwCfg (A : List As) (B : List Ix) (j : Jmps) : Cfg Sy where
 hid _ := symHid
 G := natCfg.G
 glob := natCfg.glob
 tab := natCfg.tab
 len := symLen
 jmp := j
 hard := rwH B (lsHard false A B (memHard Try.prog memC))
instance rwHardI (A : List As) (B : List Ix) (j : Jmps) : HardLoc (rwCfg A B j) := ⟨loc_rwH (loc_lsHard (loc_memHard Try.prog memC) false A B) B⟩
theorem rwFits {ρ : Env} {A : List As} {B : List Ix} {j : Jmps} (hA : AllH ρ A) (hB : AllX ρ B) (hf : Pl ρ := by rfl) : Fits (symSig ρ) Try.prog (rwCfg A B j) where
 hid := hn_of hf
 G := rfl
 len := lsLen_ok ρ
 tab := natFits.tab
 glob := natFits.glob
 mixed := natFits.mixed
 hard := rwH_ok hB (lsHard_ok hA hB (memHard_ok (C0 := memC) rfl (hn_of hf) rfl) rfl hf) rfl
noncomputable def clF : Nat := 27
noncomputable def clV (g : Bool) : Value := cond g (.func (.func 29) #[] #[]) (.func (.func 28) #[] #[])
noncomputable def clTm : List Nat := [1, 6, 14, 15, 16]
noncomputable def clSl (g : Bool) (l : Le) (i : Sl Sy) : List (Sl Sy) := [.p (clV g), .ow (.ol 1 l (some (1, 0))), .f (.rl 0), .f (.ix 1 0), i]
noncomputable def clX (g : Bool) : Qe := cond g (.v 3) (.v 2)
noncomputable def clA (g p : Bool) : List As := cond p [⟨1, .sub (.v 4) (clX g), z0, false⟩, ⟨3, .sub (.v 4) (clX g), z0, true⟩] []
noncomputable def clB (p : Bool) : List Ix := [.ln 0 1, .ln 1 1, .ln 2 2, .bd 1, .bd 2, .lt 2 0 1 0 true, .el 0 2 0 (.v 2), .el 1 2 0 (.v 3), .lt 0 0 2 0 p] ++ cond p [.lt 2 (-1) 0 0 false, .lt 2 (-1) 1 0 true, .el 2 2 (-1) (.v 4)] []
noncomputable def clSums (A : List As) : Sums Sy := sumsOf (mkTab (ecmpS A :: symList A))
theorem clSums_ok {ρ : Env} {A : List As} (hA : AllH ρ A) : SumOK (symSig ρ) Try.prog (clSums A) := sumsOf_ok fun y hy => by
 rcases List.mem_cons.1 hy with rfl | hy
 ·exact ecmpS_ok hA
 ·exact symList_ok hA y hy
noncomputable def clCl (A : List As) (B : List Ix) (n : Nat) : Cl Sy := ⟨callY Try.prog (rwCfg A B noJ) (clSums A) n, [], fun _ => none⟩
theorem clCl_ok {ρ : Env} {A : List As} {B : List Ix} {n : Nat} (hA : AllH ρ A) (hB : AllX ρ B) (hf : Pl ρ := by rfl) : ClOK (symSig ρ) Try.prog (clCl A B n) :=
 have h := callY_ok (C := rwCfg A B noJ) (rwFits hA hB hf) (.none rfl) (clSums_ok hA) n
 ⟨⟨h.1, by intro x hx; simp [clCl] at hx, fun x m e => (by cases e)⟩, h.2⟩
set_option maxHeartbeats 4000000 in
theorem cl_round (g p : Bool) : roundT Try.prog (rwCfg (clA g p) (clB p) noJ) (clCl (clA g p) (clB p) 20) 50 20 eqSy clTm (clSl g (.v 2) (.f (.ix 2 0))) (clSl g (.snoc (.v 2) (clX g)) (.f (.ix 2 1))) (loopOf clF 0) = true := by
 cases g <;> cases p <;> kernel_rfl
noncomputable def clJ (g : Bool) : Jmps := fun f _ => cond (Nat.beq f clF) (some (jumpM eqSy 50 clTm (clSl g .nil (.p (.int .i64 0))) (clSl g (.v (cond g 1 0)) (.f (.ix 1 0))))) none
noncomputable def clMk (g : Bool) (_ : List Value) (vs : List Value) : List Value := vs ++ [clV g]
set_option maxHeartbeats 4000000 in
theorem cl_run (g : Bool) : tellsB [] [.rl 0] (clMk g) (call Try.prog (rwCfg [] [.ln 0 1, .bd 1] (clJ g)) (clSums []) 20 clF) = some (.tuple [.d (.one (.ow (.ol 1 (.v (cond g 1 0)) (some (1, 0))))), .d (.one (.p (.bool true)))]) := by
 cases g <;> kernel_rfl
theorem cl_one : ∃ fn c, (Try.prog).funcs[clF]? = some fn ∧ fn.body = some c ∧ fn.ntmps = 50 ∧ loopsIn c = [loopOf clF 0] := ⟨_, _, rfl, rfl, rfl, rfl⟩
def ckL (g : Bool) (qs rs : List Rat) : List Rat := cond g rs qs
def ckQ (g : Bool) (qs rs : List Rat) (k : Nat) : Nat → Rat
 | 2 => qs.getD k 0
 | 3 => rs.getD k 0
 | 4 => (ckL g qs rs).getD (k - 1) 0
 | _ => 0
theorem ckL_fit {g : Bool} {qs rs : List Rat} (hq : ∀ y ∈ qs, Fit y) (hr : ∀ y ∈ rs, Fit y) : ∀ y ∈ ckL g qs rs, Fit y := by cases g <;> assumption
theorem ckQ_fit {g : Bool} {qs rs : List Rat} (hq : ∀ y ∈ qs, Fit y) (hr : ∀ y ∈ rs, Fit y) (k i : Nat) : Fit (ckQ g qs rs k i) := by
 unfold ckQ
 split
 ·exact getD_fit hq _
 ·exact getD_fit hr _
 ·exact getD_fit (ckL_fit hq hr) _
 ·exact fit00
def ckNat (n k : Nat) : Nat → Nat
 | 1 => n
 | 2 => k
 | _ => 0
def ckLst (g : Bool) (qs rs : List Rat) (k : Nat) : Nat → List Rat
 | 0 => qs
 | 1 => rs
 | 2 => (ckL g qs rs).take k
 | _ => []
def ckEnv (g : Bool) (qs rs : List Rat) (hq : ∀ y ∈ qs, Fit y) (hr : ∀ y ∈ rs, Fit y) (lo k : Nat) : Env := ⟨ckQ g qs rs k, fun _ => (false, ⟨#[]⟩, ⟨#[]⟩), fun i _ => ckQ_fit hq hr k i, fun i => (ckQ_fit hq hr k i).sm.up (by decide), fun _ => bad_zero, lo, ckLst g qs rs k, ckNat qs.length k, rfl⟩
def Rises (l : List Rat) : Prop := ∀ i, i + 1 < l.length → l.getD i 0 < l.getD (i + 1) 0
section
variable {g : Bool} {qs rs : List Rat} (hq : ∀ y ∈ qs, Fit y) (hr : ∀ y ∈ rs, Fit y) (lo : Nat)
theorem ckX_ev (k : Nat) : (clX g).ev (ckEnv g qs rs hq hr lo k).q = (ckL g qs rs).getD k 0 := by cases g <;> rfl
theorem ck_len (hlr : rs.length = qs.length) : (ckL g qs rs).length = qs.length := by
 cases g
 ·rfl
 ·exact hlr
theorem ck_A (hlr : rs.length = qs.length) (hri : Rises (ckL g qs rs)) {k : Nat} (hk : k < qs.length) {p : Bool} (hp : p = true ↔ 0 < k) : AllH (ckEnv g qs rs hq hr lo k) (clA g p) := by
 have hl := ck_len (g := g) hlr
 cases p with
 | false => intro x hx; simp [clA] at hx
 | true =>
  have h0 := hp.1 rfl
  have hlt := hri (k - 1) (by rw [hl]; omega)
  rw [show k - 1 + 1 = k by omega] at hlt
  have hev : (Qe.sub (.v 4) (clX g)).ev (ckEnv g qs rs hq hr lo k).q = (ckL g qs rs).getD (k - 1) 0 - (ckL g qs rs).getD k 0 := by
   show (ckL g qs rs).getD (k - 1) 0 - (clX g).ev (ckEnv g qs rs hq hr lo k).q = _
   rw [ckX_ev]
  intro x hx
  simp only [clA, cond_true, List.mem_cons, List.not_mem_nil, or_false] at hx
  rcases hx with rfl | rfl
  ·show false = true ↔ (Qe.sub (.v 4) (clX g)).ev (ckEnv g qs rs hq hr lo k).q = 0
   rw [hev]
   exact ⟨fun h => (by cases h), fun h => by exfalso; grind⟩
  ·show true = Big.ng ((Qe.sub (.v 4) (clX g)).ev (ckEnv g qs rs hq hr lo k).q)
   rw [hev]
   symm
   unfold Big.ng
   rw [decide_eq_true_iff, ← Int.not_le, Rat.num_nonneg, Rat.not_le]
   grind
theorem ck_B (hlr : rs.length = qs.length) (hl : qs.length ≤ 10000) {k : Nat} (hk : k < qs.length) {p : Bool} (hp : p = true ↔ 0 < k) : AllX (ckEnv g qs rs hq hr lo k) (clB p) := by
 have hll := ck_len (g := g) hlr
 have el : ∀ (l : List Rat) (i : Nat), i < l.length → l[i]? = some (l.getD i 0) := fun l i h => by rw [List.getD_eq_getElem?_getD, List.getElem?_eq_getElem h]; rfl
 have base : ∀ x ∈ ([.ln 0 1, .ln 1 1, .ln 2 2, .bd 1, .bd 2, .lt 2 0 1 0 true, .el 0 2 0 (.v 2), .el 1 2 0 (.v 3), .lt 0 0 2 0 p] : List Ix), x.holds (ckEnv g qs rs hq hr lo k) := fun x hx => by
  simp only [List.mem_cons, List.not_mem_nil, or_false] at hx
  rcases hx with rfl | rfl | rfl | rfl | rfl | rfl | rfl | rfl | rfl
  ·rfl
  ·exact hlr
  ·show ((ckL g qs rs).take k).length = k
   rw [List.length_take]; omega
  ·exact hl
  ·show k ≤ 10000
   omega
  ·show true = true ↔ ((k : Nat) : Int) + 0 < ((qs.length : Nat) : Int) + 0
   exact ⟨fun _ => by omega, fun _ => rfl⟩
  ·refine ⟨k, ?_, el qs k hk⟩
   show ((k : Nat) : Int) = ((k : Nat) : Int) + 0
   omega
  ·refine ⟨k, ?_, el rs k (by omega)⟩
   show ((k : Nat) : Int) = ((k : Nat) : Int) + 0
   omega
  ·show p = true ↔ ((0 : Nat) : Int) + 0 < ((k : Nat) : Int) + 0
   rw [hp]; constructor <;> intro _ <;> omega
 intro x hx
 rcases List.mem_append.1 hx with hx | hx
 ·exact base x hx
 cases p with
 | false => simp at hx
 | true =>
  have h0 := hp.1 rfl
  simp only [cond_true, List.mem_cons, List.not_mem_nil, or_false] at hx
  rcases hx with rfl | rfl | rfl
  ·show false = true ↔ ((k : Nat) : Int) + (-1) < ((0 : Nat) : Int) + 0
   exact ⟨fun h => (by cases h), fun h => by omega⟩
  ·show true = true ↔ ((k : Nat) : Int) + (-1) < ((qs.length : Nat) : Int) + 0
   exact ⟨fun _ => by omega, fun _ => rfl⟩
  ·refine ⟨k - 1, ?_, ?_⟩
   ·show ((k - 1 : Nat) : Int) = ((k : Nat) : Int) + (-1)
    omega
   ·show ((ckL g qs rs).take k)[k - 1]? = some ((ckL g qs rs).getD (k - 1) 0)
    rw [List.getElem?_take, if_pos (by omega)]
    exact el _ _ (by omega)
theorem ck_jmp (hlr : rs.length = qs.length) (hl : qs.length ≤ 10000) (hri : Rises (ckL g qs rs)) : JmpOK (symSig (ckEnv g qs rs hq hr lo 0)) Try.prog 50 (loopOf clF 0) (jumpM eqSy 50 clTm (clSl g .nil (.p (.int .i64 0))) (clSl g (.v (cond g 1 0)) (.f (.ix 1 0)))) := by
 have hll := ck_len (g := g) hlr
 refine @jmp_ok Sy (symSig (ckEnv g qs rs hq hr lo 0)) Try.prog eqSy eqSy_ok 50 (loopOf clF 0) clTm _ (clSl g (.v 2) (.f (.ix 2 0))) (clSl g (.snoc (.v 2) (clX g)) (.f (.ix 2 1))) _ qs.length (fun k => symSig (ckEnv g qs rs hq hr lo k)) (fun k => ⟨rfl, rfl, rfl⟩) rfl rfl rfl (by cases g <;> rfl) ?_ ?_ ?_ ?_
 ·intro w vs h
  obtain ⟨v0, l0, rfl, a0, v1, l1, rfl, a1, v2, l2, rfl, a2, v3, l3, rfl, a3, v4, l4, rfl, a4, rfl⟩ := h
  refine ⟨v0, _, rfl, a0, v1, _, rfl, ⟨?_, a1.2⟩, v2, _, rfl, a2, v3, _, rfl, a3, v4, _, rfl, ⟨?_, ?_⟩, rfl⟩
  ·exact olIs.env (l' := .v 2) (z' := some (1, 0)) (show olIs _ 1 .nil (some (1, 0)) w v1 from a1.1) rfl rfl
  ·rw [show v4 = .int .i64 0 from a4]; rfl
  ·rw [show v4 = .int .i64 0 from a4]; rfl
 ·intro k hk w vs h
  obtain ⟨v0, l0, rfl, a0, v1, l1, rfl, a1, v2, l2, rfl, a2, v3, l3, rfl, a3, v4, l4, rfl, a4, rfl⟩ := h
  refine ⟨v0, _, rfl, a0, v1, _, rfl, ⟨?_, a1.2⟩, v2, _, rfl, a2, v3, _, rfl, a3, v4, _, rfl, ⟨?_, a4.2⟩, rfl⟩
  ·refine olIs.env (ρ := ckEnv g qs rs hq hr lo k) (l' := .v 2) (z' := some (1, 0)) (show olIs _ 1 (.snoc (.v 2) (clX g)) (some (1, 0)) w v1 from a1.1) ?_ rfl
   show (ckL g qs rs).take (k + 1) = (ckL g qs rs).take k ++ [(clX g).ev (ckEnv g qs rs hq hr lo k).q]
   rw [ckX_ev, List.take_add_one, List.getD_eq_getElem?_getD, List.getElem?_eq_getElem (by omega)]; rfl
  ·have h4 : v4 = .int .i64 (((k : Nat) : Int) + 1) := a4.1
   show v4 = .int .i64 (((k + 1 : Nat) : Int) + 0)
   rw [h4]; congr 1
 ·intro w vs h
  obtain ⟨v0, l0, rfl, a0, v1, l1, rfl, a1, v2, l2, rfl, a2, v3, l3, rfl, a3, v4, l4, rfl, a4, rfl⟩ := h
  refine ⟨v0, _, rfl, a0, v1, _, rfl, ⟨?_, a1.2⟩, v2, _, rfl, a2, v3, _, rfl, a3, v4, _, rfl, ⟨a4.1, a4.2⟩, rfl⟩
  refine olIs.env (ρ := ckEnv g qs rs hq hr lo qs.length) (l' := .v (cond g 1 0)) (z' := some (1, 0)) (show olIs _ 1 (.v 2) (some (1, 0)) w v1 from a1.1) ?_ rfl
  show ckLst g qs rs 0 (cond g 1 0) = (ckL g qs rs).take qs.length
  rw [← hll, List.take_length]
  cases g <;> rfl
 ·intro k hk ro d B0 D0 a w hAt
  obtain ⟨p, hp⟩ : ∃ p : Bool, p = true ↔ 0 < k := ⟨decide (0 < k), by rw [decide_eq_true_iff]⟩
  have hB := ck_B (g := g) hq hr lo hlr hl hk hp
  have hA := ck_A (g := g) hq hr lo hlr hri hk hp
  exact round_run (C := rwCfg (clA g p) (clB p) noJ) (call := clCl (clA g p) (clB p) 20) (fuel := 20) (rwFits hA hB) (clCl_ok hA hB) rfl (fun y _ m e => by cases e) eqSy_ok (cl_round g p) few5 hAt
theorem ck_all {A : List As} {B : List Ix} (hlr : rs.length = qs.length) (hl : qs.length ≤ 10000) (hri : Rises (ckL g qs rs)) : JmpAll (symSig (ckEnv g qs rs hq hr lo 0)) Try.prog (rwCfg A B (clJ g)) := by
 refine ⟨fun f x m e ts => ?_, fun f fn c x m ht hb hx e => ?_⟩
 ·have e' : cond (Nat.beq f clF) (some (jumpM eqSy 50 clTm (clSl g .nil (.p (.int .i64 0))) (clSl g (.v (cond g 1 0)) (.f (.ix 1 0))))) none = some m := e
  cases hf : Nat.beq f clF with
  | false => rw [hf] at e'; cases e'
  | true => rw [hf] at e'; cases e'; exact loc_jumpM _ _ _ _ _
 ·have e' : cond (Nat.beq f clF) (some (jumpM eqSy 50 clTm (clSl g .nil (.p (.int .i64 0))) (clSl g (.v (cond g 1 0)) (.f (.ix 1 0))))) none = some m := e
  cases hf : Nat.beq f clF with
  | false => rw [hf] at e'; cases e'
  | true =>
   rw [hf] at e'
   cases e'
   obtain rfl := Nat.eq_of_beq_eq_true hf
   obtain ⟨fn0, c0, q1, q2, q3, q4⟩ := cl_one
   have ht' : (Try.prog).funcs[clF]? = some fn := ht
   rw [q1] at ht'
   cases ht'
   rw [q2] at hb
   cases hb
   rw [q4] at hx
   obtain rfl := List.mem_singleton.1 hx
   rw [q3]
   exact @ck_jmp g qs rs hq hr lo hlr hl hri
end
def RlIn (w : World) (v : Value) (qs rs : List Rat) : Prop := ∃ a m, v = .slice a qs.length m ∧ qs.length ≤ m ∧ (qs ≠ [] → ∃ b off cl t z, a = some ⟨b, off, none⟩ ∧ w.heap[b]? = some (.cells ⟨cl⟩ t z) ∧ RowsAt cl off qs rs)
theorem RlIn.rl {ρ : Env} {c : Nat} {w : World} {v : Value} (h : RlIn w v (ρ.lst c) (ρ.lst (c + 1))) (hlo : ρ.lo = w.heap.size) : rlIs ρ c w v := by
 obtain ⟨a, m, h1, h2, h3⟩ := h
 exact ⟨a, m, h1, h2, fun hp => by
  obtain ⟨b, off, cl, t, z, h4, h5, h6⟩ := h3 hp
  exact ⟨b, off, cl, t, z, h4, .inl (by rw [hlo]; exact (Array.getElem?_eq_some_iff.1 h5).1), h5, h6⟩⟩
theorem RlIn.one {w : World} {v : Value} {qs rs : List Rat} (h : RlIn w v qs rs) : isOne v = true := by obtain ⟨a, m, rfl, _⟩ := h; rfl
theorem column_any (g : Bool) (w : World) {qs rs : List Rat} (hq : ∀ y ∈ qs, Fit y) (hr : ∀ y ∈ rs, Fit y) (hlr : rs.length = qs.length) (hl : qs.length ≤ 10000) (hri : Rises (ckL g qs rs)) {v : Value} (hv : RlIn w v qs rs) (hG : Try.prog.globals.size ≤ w.heap.size) (hT : natSig.base w) :
  Calls Try.prog clF ⟨[v, clV g]⟩ w fun e w' => ∃ u, e = .returned (.tuple ⟨[u, .bool true]⟩) ∧ NewOl 1 w w' u (ckL g qs rs) ∧ Below w.heap.size w w' := by
 let E := ckEnv g qs rs hq hr w.heap.size 0
 have hA : AllH E [] := fun x hx => by simp at hx
 have hB : AllX E [.ln 0 1, .bd 1] := fun x hx => by
  simp only [List.mem_cons, List.not_mem_nil, or_false] at hx
  rcases hx with rfl | rfl
  ·rfl
  ·exact hl
 have hu : HoldsL (symSig E) w [.rl 0] [v] := ⟨_, _, rfl, RlIn.rl hv rfl, hv.one, rfl⟩
 have hpl : plain (clV g) = true := by cases g <;> rfl
 refine (tellsB_calls (bs := []) (rwFits hA hB) (clSums_ok hA) (cl_run g) (fun r ps qs vs us _ h2 => h2.append (.cons (.same hpl) .nil)) rfl glob_few rfl hu hG hT (fun b hb => by simp at hb) (Nat.le_refl _) (ck_all hq hr w.heap.size hlr hl hri)).mono ?_
 rintro e w' ⟨v', rfl, ⟨vs, rfl, u, l1, rfl, h1, u2, l2, rfl, h2, rfl⟩, hb⟩
 have h2' : u2 = .bool true := h2
 subst h2'
 refine ⟨u, rfl, newOl_of (ρ := E) rfl (show (D1.ow (.ol 1 (.v (cond g 1 0)) (some (1, 0))) : D1 Sy).is (symSig E) w' u from h1) (by cases g <;> rfl) (fun p hp => ?_), hb⟩
 cases hp
 show (((ckL g qs rs).length : Nat) : Int) = ((qs.length : Nat) : Int) + 0
 rw [ck_len hlr]; omega
end Ev
end Go.Proofs.Ytnlhjcfpfapafaa
