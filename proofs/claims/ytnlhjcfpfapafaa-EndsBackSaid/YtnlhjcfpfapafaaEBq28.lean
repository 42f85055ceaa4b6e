/- Contracts. -/
import Derived.Test.YtnlhjcfpfapafaaEBq27
import Derived.Test.YtnlhjcfpfapafaaEBq26
import Derived.Laws.CopyOwn
namespace Go.Proofs.Ytnlhjcfpfapafaa
open Go Go.RowKit
namespace Ev
set_option maxRecDepth 100000
noncomputable def zNumB : Value := .tuple ⟨[.agg ⟨[.bool false, .slice none 0 0, .slice none 0 0]⟩, .bool false]⟩
noncomputable def stS (g : Bool) : Nat × (List Value → Option (M Sy Value)) := (stF, fun args => match args with
 | [a, b, z] => some (bind (lsArg [] a) fun l => bind (lsArg [] b) fun k => bind (numV z) fun q => cond (isLe l 1 0 && (isLe k 1 3 && q.beq (.v 8))) (cond g (ret zNumB) (bind (newFacts [.ng (.v 105), .nu (.v 105), .de (.v 105)]) fun vs => ret (.tuple ⟨[.agg ⟨vs⟩, .bool true]⟩))) fail)
 | _ => none)
theorem stS_ok {ρ : Env} {g : Bool} {c : Nat} (hq : ∀ y ∈ ρ.lst 0, Fit y) (hr : ∀ y ∈ ρ.lst 3, Fit y) (hx : Fit (ρ.q 8)) (hl : (ρ.lst 0).length ≤ 10000) (hlr : (ρ.lst 3).length = (ρ.lst 0).length) (h6 : c ≤ (ρ.lst 0).length) (hb : ∀ t, t < c → (ρ.lst 0).getD t 0 < ρ.q 8) (ha : ∀ t, c ≤ t → t < (ρ.lst 0).length → ¬ (ρ.lst 0).getD t 0 < ρ.q 8)
  (hg : linAt (ρ.lst 0) (ρ.lst 3) (ρ.q 8) c = cond g none (some (ρ.q 105))) : SumF (symSig ρ) Try.prog (stS g).1 (stS g).2 := by
 intro args m e
 rcases args with _ | ⟨a, _ | ⟨b, _ | ⟨z, _ | ⟨z2, l⟩⟩⟩⟩ <;> first | (cases (show none = some m from e); done) | skip
 cases e
 refine ⟨loc_bind (loc_lsArg _ _) fun _ => loc_bind (loc_lsArg _ _) fun _ => loc_bind (loc_numV _) fun _ => loc_cond (loc_cond (loc_ret _) (loc_bind (loc_newFacts _) fun _ => loc_ret _)) loc_fail, fun h nx v h' nx' R W e r w args' hv hM hN => ?_⟩
 have hn : AllX ρ [] := fun _ h => by simp at h
 cases hv with
 | cons v1 hv => cases hv with
  | cons v2 hv => cases hv with
   | cons v3 hv =>
    cases hv
    obtain ⟨l, g1, nx1, R1, W1, R2, W2, e1, e2, rfl, rfl⟩ := bind_ok e
    obtain ⟨rfl, rfl, rfl, q1⟩ := lsArg_ok hn e1 v1 hM
    obtain ⟨k, g3, nx3, R3, W3, R4, W4, e3, e4, rfl, rfl⟩ := bind_ok e2
    obtain ⟨rfl, rfl, rfl, q2⟩ := lsArg_ok hn e3 v2 hM
    obtain ⟨q, g5, nx5, R5, W5, R6, W6, e5, e6, rfl, rfl⟩ := bind_ok e4
    obtain ⟨rfl, rfl, rfl, q3⟩ := numV_ok e5 v3 hM
    obtain ⟨hk, e7⟩ := cond_ok e6
    simp only [Bool.and_eq_true] at hk
    obtain rfl := isLe_ok hk.1
    obtain rfl := isLe_ok hk.2.1
    obtain rfl := Qe.beq_ok _ _ hk.2.2
    have c0 := straight_any w hq hr hx hl hlr h6 hb ha q1 q2 q3 hM.fits hM.base
    rw [hg] at c0
    simp only [List.nil_append]
    cases g with
    | true =>
     refine goes_pl (show (ret zNumB : M Sy Value) _ _ = _ from e7) rfl hM (c0.mono ?_)
     rintro en w' ⟨q, hb⟩
     exact ⟨q, hb⟩
    | false =>
     refine goes_aggT rfl (show (bind (newFacts [.ng (.v 105), .nu (.v 105), .de (.v 105)]) fun vs => ret (.tuple ⟨[.agg ⟨vs⟩, .bool true]⟩) : M Sy Value) _ _ = _ from e7) hM hN (c0.mono ?_)
     rintro en w' ⟨⟨z, h1, h2⟩, hb⟩
     obtain ⟨us, rfl, hu⟩ := num_holds (ρ := ρ) (e := .v 105) (w := w') h2
     exact ⟨us, h1, hu, hb⟩
noncomputable def toF : Nat := 33
noncomputable def toA (f : Bool) : List As := [⟨0, .v 105, z0, f⟩]
noncomputable def toSums (g f : Bool) : Sums Sy := sumsOf (mkTab (stS g :: symList (toA f)))
noncomputable def toRun (g f : Bool) : Option (D3 Sy) := tells [.ls 1 0, .ls 1 3, .ng (.v 8), .fn (.v 8), .fd (.v 8)] [.one, .one, .agg 3] (call Try.prog (lsCfg false (toA f) [] noJ) (toSums g f) 30 toF)
noncomputable def toD (g f : Bool) : D3 Sy := cond g (.tuple [.agg [.p (.bool false), .p (.string ⟨#[]⟩), .p (.string ⟨#[]⟩)], .one (.p (.int .i64 130))])
 (cond f (.tuple [.agg [.f (.ng (.v 105)), .f (.fn (.v 105)), .f (.fd (.v 105))], .one (.p (.int .i64 0))]) (.tuple [.agg [.p (.bool false), .p (.string ⟨#[]⟩), .p (.string ⟨#[]⟩)], .one (.p (.int .i64 3))]))
set_option maxHeartbeats 4000000 in
theorem to_runs (g f : Bool) : toRun g f = some (toD g f) := by cases g <;> cases f <;> kernel_rfl
noncomputable def zFrE (n : Int) : Value := .tuple ⟨[.agg ⟨[.bool false, .string ⟨#[]⟩, .string ⟨#[]⟩]⟩, .int .i64 n]⟩
noncomputable def frE (y : Rat) : Value := .tuple ⟨[.agg ⟨[.bool (Big.ng y), .string (bst (Big.nu y)), .string (bst (Big.de y))]⟩, .int .i64 0]⟩
def ToRes (o : Option Rat) (e : Ending) : Prop := match o with
 | none => e = .returned (zFrE 130)
 | some y => (Fit y ∧ e = .returned (frE y)) ∨ (¬ Fit y ∧ e = .returned (zFrE 3))
def toQ (qs rs : List Rat) (x y : Rat) (c i : Nat) : Rat := if i = 105 then y else stQ qs rs x c i
theorem lin_sm {qs rs : List Rat} {x y : Rat} (hq : ∀ y ∈ qs, Fit y) (hr : ∀ y ∈ rs, Fit y) (hx : Fit x) {c : Nat} (h : linAt qs rs x c = some y) : Sm 4096 y := by
 unfold linAt at h
 split at h
 ·cases h
 ·split at h
  ·cases h
   exact (getD_fit hr c).sm.up (by decide)
  ·split at h
   ·cases h
   ·cases h
    have := Qe.sm (stEnv qs rs x hq hr hx c 0).fit (stEnv qs rs x hq hr hx c 0).big stE
    exact this.up (by decide)
theorem told_any (w : World) {qs rs : List Rat} {x : Rat} (hq : ∀ y ∈ qs, Fit y) (hr : ∀ y ∈ rs, Fit y) (hx : Fit x) (hl : qs.length ≤ 10000) (hlr : rs.length = qs.length) {c : Nat} (h6 : c ≤ qs.length) (hb : ∀ t, t < c → qs.getD t 0 < x) (ha : ∀ t, c ≤ t → t < qs.length → ¬ qs.getD t 0 < x)
  {v u : Value} (hv : LsIn 1 w v qs) (hu : LsIn 1 w u rs) (hG : Try.prog.globals.size ≤ w.heap.size) (hT : natSig.base w) :
  Calls Try.prog toF ⟨[v, u, .agg ⟨[.bool (Big.ng x), .string (bst (Big.nu x)), .string (bst (Big.de x))]⟩]⟩ w fun e w' => ToRes (linAt qs rs x c) e ∧ Below w.heap.size w w' := by
 obtain ⟨g, y, hy, hg⟩ : ∃ (g : Bool) (y : Rat), Sm 4096 y ∧ linAt qs rs x c = cond g none (some y) := by
  cases h : linAt qs rs x c with
  | none => exact ⟨true, 0, fit00.sm.up (by decide), rfl⟩
  | some y => exact ⟨false, y, lin_sm hq hr hx h, rfl⟩
 let E : Env := ⟨toQ qs rs x y c, fun _ => (false, ⟨#[]⟩, ⟨#[]⟩), fun i h => by
  show Fit (toQ qs rs x y c i)
  unfold toQ
  rw [if_neg (by omega)]
  exact stQ_fit hq hr hx c i, fun i => by
  show Sm 4096 (toQ qs rs x y c i)
  unfold toQ
  split
  ·exact hy
  ·exact (stQ_fit hq hr hx c i).sm.up (by decide), fun _ => bad_zero, w.heap.size, stLst qs rs, fun _ => 0, rfl⟩
 have e8 : E.q 8 = x := rfl
 have e105 : E.q 105 = y := rfl
 obtain ⟨f, hf⟩ : ∃ b : Bool, b = true ↔ Fit y := by
  by_cases h : Fit y
  ·exact ⟨true, ⟨fun _ => h, fun _ => rfl⟩⟩
  ·exact ⟨false, ⟨fun q => (by cases q), fun q => absurd q h⟩⟩
 have hA : AllH E (toA f) := fun z hz => by
  obtain rfl := List.mem_singleton.1 hz
  show f = true ↔ Fit y
  exact hf
 have hB : AllX E [] := fun _ h => by simp at h
 have hS : SumOK (symSig E) Try.prog (toSums g f) := sumsOf_ok fun z hz => by
  rcases List.mem_cons.1 hz with rfl | hz
  ·exact stS_ok (ρ := E) hq hr hx hl hlr h6 hb ha hg
  ·exact symList_ok hA z hz
 have hin : HoldsL (symSig E) w [.ls 1 0, .ls 1 3, .ng (.v 8), .fn (.v 8), .fd (.v 8)] [v, u, .bool (Big.ng x), .string (bst (Big.nu x)), .string (bst (Big.de x))] := ⟨_, _, rfl, LsIn.ls hv rfl, by obtain ⟨a, m, rfl, _⟩ := hv; rfl, _, _, rfl, LsIn.ls hu rfl, by obtain ⟨a, m, rfl, _⟩ := hu; rfl, frac_holds (ρ := E) (.v 8)⟩
 refine (tells_calls (lsFits hA hB) hS (to_runs g f) rfl glob_few hin hG hT (Nat.le_refl _) (.none rfl)).mono ?_
 rintro e w' ⟨v', rfl, h1, hbb⟩
 refine ⟨?_, hbb⟩
 rw [hg]
 cases g with
 | true =>
  obtain ⟨vs, rfl, a, l1, rfl, ⟨us, rfl, a1, m1, rfl, k1, a2, m2, rfl, k2, a3, m3, rfl, k3, rfl⟩, u2, l2, rfl, h2, rfl⟩ := h1
  have k1' : a1 = .bool false := k1
  have k2' : a2 = .string ⟨#[]⟩ := k2
  have k3' : a3 = .string ⟨#[]⟩ := k3
  have h2' : u2 = .int .i64 130 := h2
  subst k1' k2' k3' h2'
  rfl
 | false =>
  cases f with
  | true =>
   obtain ⟨vs, rfl, a, l1, rfl, ⟨us, rfl, a1, m1, rfl, k1, a2, m2, rfl, k2, a3, m3, rfl, k3, rfl⟩, u2, l2, rfl, h2, rfl⟩ := h1
   have k1' : a1 = .bool (Big.ng y) := k1
   have k2' : a2 = .string (bst (Big.nu y)) := k2
   have k3' : a3 = .string (bst (Big.de y)) := k3
   have h2' : u2 = .int .i64 0 := h2
   subst k1' k2' k3' h2'
   exact .inl ⟨hf.1 rfl, rfl⟩
  | false =>
   obtain ⟨vs, rfl, a, l1, rfl, ⟨us, rfl, a1, m1, rfl, k1, a2, m2, rfl, k2, a3, m3, rfl, k3, rfl⟩, u2, l2, rfl, h2, rfl⟩ := h1
   have k1' : a1 = .bool false := k1
   have k2' : a2 = .string ⟨#[]⟩ := k2
   have k3' : a3 = .string ⟨#[]⟩ := k3
   have h2' : u2 = .int .i64 3 := h2
   subst k1' k2' k3' h2'
   exact .inr ⟨fun h => (by have := hf.2 h; cases this), rfl⟩
noncomputable def rwCfg (A : List As) (B : List Ix) (j : Jmps) : Cfg Sy where
 hid _ := symHid
 G := natCfg.G
 glob := natCfg.glob
 tab := natCfg.tab
 len := symLen
 jmp := j
 hard := rwH B (lsHard false A B (memHard Try.prog memC))
instance rwHardI (A : List As) (B : List Ix) (j : Jmps) : HardLoc (rwCfg A B j) := ⟨loc_rwH (loc_lsHard (loc_memHard Try.prog memC) false A B) B⟩
theorem rwFits {ρ : Env} {A : List As} {B : List Ix} {j : Jmps} (hA : AllH ρ A) (hB : AllX ρ B) (hf : Pl ρ := by rfl) : Fits (symSig ρ) Try.prog (rwCfg A B j) where
 hid := hn_of hf
 G := rfl
 len := lsLen_ok ρ
 tab := natFits.tab
 glob := natFits.glob
 mixed := natFits.mixed
 hard := rwH_ok hB (lsHard_ok hA hB (memHard_ok (C0 := memC) rfl (hn_of hf) rfl) rfl hf) rfl
noncomputable def clF : Nat := 27
noncomputable def clV (g : Bool) : Value := cond g (.func (.func 29) #[] #[]) (.func (.func 28) #[] #[])
noncomputable def clTm : List Nat := [1, 6, 14, 15, 16]
noncomputable def clSl (g : Bool) (l : Le) (i : Sl Sy) : List (Sl Sy) := [.p (clV g), .ow (.ol 1 l (some (1, 0))), .f (.rl 0), .f (.ix 1 0), i]
noncomputable def clX (g : Bool) : Qe := cond g (.v 3) (.v 2)
noncomputable def clA (g p : Bool) : List As := cond p [⟨1, .sub (.v 4) (clX g), z0, false⟩, ⟨3, .sub (.v 4) (clX g), z0, true⟩] []
noncomputable def clB (p : Bool) : List Ix := [.ln 0 1, .ln 1 1, .ln 2 2, .bd 1, .bd 2, .lt 2 0 1 0 true, .el 0 2 0 (.v 2), .el 1 2 0 (.v 3), .lt 0 0 2 0 p] ++ cond p [.lt 2 (-1) 0 0 false, .lt 2 (-1) 1 0 true, .el 2 2 (-1) (.v 4)] []
noncomputable def clSums (A : List As) : Sums Sy := sumsOf (mkTab (ecmpS A :: symList A))
theorem clSums_ok {ρ : Env} {A : List As} (hA : AllH ρ A) : SumOK (symSig ρ) Try.prog (clSums A) := sumsOf_ok fun y hy => by
 rcases List.mem_cons.1 hy with rfl | hy
 ·exact ecmpS_ok hA
 ·exact symList_ok hA y hy
noncomputable def clCl (A : List As) (B : List Ix) (n : Nat) : Cl Sy := ⟨callY Try.prog (rwCfg A B noJ) (clSums A) n, [], fun _ => none⟩
theorem clCl_ok {ρ : Env} {A : List As} {B : List Ix} {n : Nat} (hA : AllH ρ A) (hB : AllX ρ B) (hf : Pl ρ := by rfl) : ClOK (symSig ρ) Try.prog (clCl A B n) :=
 have h := callY_ok (C := rwCfg A B noJ) (rwFits hA hB hf) (.none rfl) (clSums_ok hA) n
 ⟨⟨h.1, by intro x hx; simp [clCl] at hx, fun x m e => (by cases e)⟩, h.2⟩
set_option maxHeartbeats 4000000 in
theorem cl_round (g p : Bool) : roundT Try.prog (rwCfg (clA g p) (clB p) noJ) (clCl (clA g p) (clB p) 20) 50 20 eqSy clTm (clSl g (.v 2) (.f (.ix 2 0))) (clSl g (.snoc (.v 2) (clX g)) (.f (.ix 2 1))) (loopOf clF 0) = true := by
 cases g <;> cases p <;> kernel_rfl
noncomputable def clJ (g : Bool) : Jmps := fun f _ => cond (Nat.beq f clF) (some (jumpM eqSy 50 clTm (clSl g .nil (.p (.int .i64 0))) (clSl g (.v (cond g 1 0)) (.f (.ix 1 0))))) none
noncomputable def clMk (g : Bool) (_ : List Value) (vs : List Value) : List Value := vs ++ [clV g]
set_option maxHeartbeats 4000000 in
theorem cl_run (g : Bool) : tellsB [] [.rl 0] (clMk g) (call Try.prog (rwCfg [] [.ln 0 1, .bd 1] (clJ g)) (clSums []) 20 clF) = some (.tuple [.d (.one (.ow (.ol 1 (.v (cond g 1 0)) (some (1, 0))))), .d (.one (.p (.bool true)))]) := by
 cases g <;> kernel_rfl
theorem cl_one : ∃ fn c, (Try.prog).funcs[clF]? = some fn ∧ fn.body = some c ∧ fn.ntmps = 50 ∧ loopsIn c = [loopOf clF 0] := ⟨_, _, rfl, rfl, rfl, rfl⟩
def ckL (g : Bool) (qs rs : List Rat) : List Rat := cond g rs qs
def ckQ (g : Bool) (qs rs : List Rat) (k : Nat) : Nat → Rat
 | 2 => qs.getD k 0
 | 3 => rs.getD k 0
 | 4 => (ckL g qs rs).getD (k - 1) 0
 | _ => 0
theorem ckL_fit {g : Bool} {qs rs : List Rat} (hq : ∀ y ∈ qs, Fit y) (hr : ∀ y ∈ rs, Fit y) : ∀ y ∈ ckL g qs rs, Fit y := by cases g <;> assumption
theorem ckQ_fit {g : Bool} {qs rs : List Rat} (hq : ∀ y ∈ qs, Fit y) (hr : ∀ y ∈ rs, Fit y) (k i : Nat) : Fit (ckQ g qs rs k i) := by
 unfold ckQ
 split
 ·exact getD_fit hq _
 ·exact getD_fit hr _
 ·exact getD_fit (ckL_fit hq hr) _
 ·exact fit00
def ckNat (n k : Nat) : Nat → Nat
 | 1 => n
 | 2 => k
 | _ => 0
def ckLst (g : Bool) (qs rs : List Rat) (k : Nat) : Nat → List Rat
 | 0 => qs
 | 1 => rs
 | 2 => (ckL g qs rs).take k
 | _ => []
def ckEnv (g : Bool) (qs rs : List Rat) (hq : ∀ y ∈ qs, Fit y) (hr : ∀ y ∈ rs, Fit y) (lo k : Nat) : Env := ⟨ckQ g qs rs k, fun _ => (false, ⟨#[]⟩, ⟨#[]⟩), fun i _ => ckQ_fit hq hr k i, fun i => (ckQ_fit hq hr k i).sm.up (by decide), fun _ => bad_zero, lo, ckLst g qs rs k, ckNat qs.length k, rfl⟩
def Rises (l : List Rat) : Prop := ∀ i, i + 1 < l.length → l.getD i 0 < l.getD (i + 1) 0
section
variable {g : Bool} {qs rs : List Rat} (hq : ∀ y ∈ qs, Fit y) (hr : ∀ y ∈ rs, Fit y) (lo : Nat)
theorem ckX_ev (k : Nat) : (clX g).ev (ckEnv g qs rs hq hr lo k).q = (ckL g qs rs).getD k 0 := by cases g <;> rfl
theorem ck_len (hlr : rs.length = qs.length) : (ckL g qs rs).length = qs.length := by
 cases g
 ·rfl
 ·exact hlr
theorem ck_A (hlr : rs.length = qs.length) (hri : Rises (ckL g qs rs)) {k : Nat} (hk : k < qs.length) {p : Bool} (hp : p = true ↔ 0 < k) : AllH (ckEnv g qs rs hq hr lo k) (clA g p) := by
 have hl := ck_len (g := g) hlr
 cases p with
 | false => intro x hx; simp [clA] at hx
 | true =>
  have h0 := hp.1 rfl
  have hlt := hri (k - 1) (by rw [hl]; omega)
  rw [show k - 1 + 1 = k by omega] at hlt
  have hev : (Qe.sub (.v 4) (clX g)).ev (ckEnv g qs rs hq hr lo k).q = (ckL g qs rs).getD (k - 1) 0 - (ckL g qs rs).getD k 0 := by
   show (ckL g qs rs).getD (k - 1) 0 - (clX g).ev (ckEnv g qs rs hq hr lo k).q = _
   rw [ckX_ev]
  intro x hx
  simp only [clA, cond_true, List.mem_cons, List.not_mem_nil, or_false] at hx
  rcases hx with rfl | rfl
  ·show false = true ↔ (Qe.sub (.v 4) (clX g)).ev (ckEnv g qs rs hq hr lo k).q = 0
   rw [hev]
   exact ⟨fun h => (by cases h), fun h => by exfalso; grind⟩
  ·show true = Big.ng ((Qe.sub (.v 4) (clX g)).ev (ckEnv g qs rs hq hr lo k).q)
   rw [hev]
   symm
   unfold Big.ng
   rw [decide_eq_true_iff, ← Int.not_le, Rat.num_nonneg, Rat.not_le]
   grind
theorem ck_B (hlr : rs.length = qs.length) (hl : qs.length ≤ 10000) {k : Nat} (hk : k < qs.length) {p : Bool} (hp : p = true ↔ 0 < k) : AllX (ckEnv g qs rs hq hr lo k) (clB p) := by
 have hll := ck_len (g := g) hlr
 have el : ∀ (l : List Rat) (i : Nat), i < l.length → l[i]? = some (l.getD i 0) := fun l i h => by rw [List.getD_eq_getElem?_getD, List.getElem?_eq_getElem h]; rfl
 have base : ∀ x ∈ ([.ln 0 1, .ln 1 1, .ln 2 2, .bd 1, .bd 2, .lt 2 0 1 0 true, .el 0 2 0 (.v 2), .el 1 2 0 (.v 3), .lt 0 0 2 0 p] : List Ix), x.holds (ckEnv g qs rs hq hr lo k) := fun x hx => by
  simp only [List.mem_cons, List.not_mem_nil, or_false] at hx
  rcases hx with rfl | rfl | rfl | rfl | rfl | rfl | rfl | rfl | rfl
  ·rfl
  ·exact hlr
  ·show ((ckL g qs rs).take k).length = k
   rw [List.length_take]; omega
  ·exact hl
  ·show k ≤ 10000
   omega
  ·show true = true ↔ ((k : Nat) : Int) + 0 < ((qs.length : Nat) : Int) + 0
   exact ⟨fun _ => by omega, fun _ => rfl⟩
  ·refine ⟨k, ?_, el qs k hk⟩
   show ((k : Nat) : Int) = ((k : Nat) : Int) + 0
   omega
  ·refine ⟨k, ?_, el rs k (by omega)⟩
   show ((k : Nat) : Int) = ((k : Nat) : Int) + 0
   omega
  ·show p = true ↔ ((0 : Nat) : Int) + 0 < ((k : Nat) : Int) + 0
   rw [hp]; constructor <;> intro _ <;> omega
 intro x hx
 rcases List.mem_append.1 hx with hx | hx
 ·exact base x hx
 cases p with
 | false => simp at hx
 | true =>
  have h0 := hp.1 rfl
  simp only [cond_true, List.mem_cons, List.not_mem_nil, or_false] at hx
  rcases hx with rfl | rfl | rfl
  ·show false = true ↔ ((k : Nat) : Int) + (-1) < ((0 : Nat) : Int) + 0
   exact ⟨fun h => (by cases h), fun h => by omega⟩
  ·show true = true ↔ ((k : Nat) : Int) + (-1) < ((qs.length : Nat) : Int) + 0
   exact ⟨fun _ => by omega, fun _ => rfl⟩
  ·refine ⟨k - 1, ?_, ?_⟩
   ·show ((k - 1 : Nat) : Int) = ((k : Nat) : Int) + (-1)
    omega
   ·show ((ckL g qs rs).take k)[k - 1]? = some ((ckL g qs rs).getD (k - 1) 0)
    rw [List.getElem?_take, if_pos (by omega)]
    exact el _ _ (by omega)
theorem ck_jmp (hlr : rs.length = qs.length) (hl : qs.length ≤ 10000) (hri : Rises (ckL g qs rs)) : JmpOK (symSig (ckEnv g qs rs hq hr lo 0)) Try.prog 50 (loopOf clF 0) (jumpM eqSy 50 clTm (clSl g .nil (.p (.int .i64 0))) (clSl g (.v (cond g 1 0)) (.f (.ix 1 0)))) := by
 have hll := ck_len (g := g) hlr
 refine @jmp_ok Sy (symSig (ckEnv g qs rs hq hr lo 0)) Try.prog eqSy eqSy_ok 50 (loopOf clF 0) clTm _ (clSl g (.v 2) (.f (.ix 2 0))) (clSl g (.snoc (.v 2) (clX g)) (.f (.ix 2 1))) _ qs.length (fun k => symSig (ckEnv g qs rs hq hr lo k)) (fun k => ⟨rfl, rfl, rfl⟩) rfl rfl rfl (by cases g <;> rfl) ?_ ?_ ?_ ?_
 ·intro w vs h
  obtain ⟨v0, l0, rfl, a0, v1, l1, rfl, a1, v2, l2, rfl, a2, v3, l3, rfl, a3, v4, l4, rfl, a4, rfl⟩ := h
  refine ⟨v0, _, rfl, a0, v1, _, rfl, ⟨?_, a1.2⟩, v2, _, rfl, a2, v3, _, rfl, a3, v4, _, rfl, ⟨?_, ?_⟩, rfl⟩
  ·exact olIs.env (l' := .v 2) (z' := some (1, 0)) (show olIs _ 1 .nil (some (1, 0)) w v1 from a1.1) rfl rfl
  ·rw [show v4 = .int .i64 0 from a4]; rfl
  ·rw [show v4 = .int .i64 0 from a4]; rfl
 ·intro k hk w vs h
  obtain ⟨v0, l0, rfl, a0, v1, l1, rfl, a1, v2, l2, rfl, a2, v3, l3, rfl, a3, v4, l4, rfl, a4, rfl⟩ := h
  refine ⟨v0, _, rfl, a0, v1, _, rfl, ⟨?_, a1.2⟩, v2, _, rfl, a2, v3, _, rfl, a3, v4, _, rfl, ⟨?_, a4.2⟩, rfl⟩
  ·refine olIs.env (ρ := ckEnv g qs rs hq hr lo k) (l' := .v 2) (z' := some (1, 0)) (show olIs _ 1 (.snoc (.v 2) (clX g)) (some (1, 0)) w v1 from a1.1) ?_ rfl
   show (ckL g qs rs).take (k + 1) = (ckL g qs rs).take k ++ [(clX g).ev (ckEnv g qs rs hq hr lo k).q]
   rw [ckX_ev, List.take_add_one, List.getD_eq_getElem?_getD, List.getElem?_eq_getElem (by omega)]; rfl
  ·have h4 : v4 = .int .i64 (((k : Nat) : Int) + 1) := a4.1
   show v4 = .int .i64 (((k + 1 : Nat) : Int) + 0)
   rw [h4]; congr 1
 ·intro w vs h
  obtain ⟨v0, l0, rfl, a0, v1, l1, rfl, a1, v2, l2, rfl, a2, v3, l3, rfl, a3, v4, l4, rfl, a4, rfl⟩ := h
  refine ⟨v0, _, rfl, a0, v1, _, rfl, ⟨?_, a1.2⟩, v2, _, rfl, a2, v3, _, rfl, a3, v4, _, rfl, ⟨a4.1, a4.2⟩, rfl⟩
  refine olIs.env (ρ := ckEnv g qs rs hq hr lo qs.length) (l' := .v (cond g 1 0)) (z' := some (1, 0)) (show olIs _ 1 (.v 2) (some (1, 0)) w v1 from a1.1) ?_ rfl
  show ckLst g qs rs 0 (cond g 1 0) = (ckL g qs rs).take qs.length
  rw [← hll, List.take_length]
  cases g <;> rfl
 ·intro k hk ro d B0 D0 a w hAt
  obtain ⟨p, hp⟩ : ∃ p : Bool, p = true ↔ 0 < k := ⟨decide (0 < k), by rw [decide_eq_true_iff]⟩
  have hB := ck_B (g := g) hq hr lo hlr hl hk hp
  have hA := ck_A (g := g) hq hr lo hlr hri hk hp
  exact round_run (C := rwCfg (clA g p) (clB p) noJ) (call := clCl (clA g p) (clB p) 20) (fuel := 20) (rwFits hA hB) (clCl_ok hA hB) rfl (fun y _ m e => by cases e) eqSy_ok (cl_round g p) few5 hAt
theorem ck_all {A : List As} {B : List Ix} (hlr : rs.length = qs.length) (hl : qs.length ≤ 10000) (hri : Rises (ckL g qs rs)) : JmpAll (symSig (ckEnv g qs rs hq hr lo 0)) Try.prog (rwCfg A B (clJ g)) := by
 refine ⟨fun f x m e ts => ?_, fun f fn c x m ht hb hx e => ?_⟩
 ·have e' : cond (Nat.beq f clF) (some (jumpM eqSy 50 clTm (clSl g .nil (.p (.int .i64 0))) (clSl g (.v (cond g 1 0)) (.f (.ix 1 0))))) none = some m := e
  cases hf : Nat.beq f clF with
  | false => rw [hf] at e'; cases e'
  | true => rw [hf] at e'; cases e'; exact loc_jumpM _ _ _ _ _
 ·have e' : cond (Nat.beq f clF) (some (jumpM eqSy 50 clTm (clSl g .nil (.p (.int .i64 0))) (clSl g (.v (cond g 1 0)) (.f (.ix 1 0))))) none = some m := e
  cases hf : Nat.beq f clF with
  | false => rw [hf] at e'; cases e'
  | true =>
   rw [hf] at e'
   cases e'
   obtain rfl := Nat.eq_of_beq_eq_true hf
   obtain ⟨fn0, c0, q1, q2, q3, q4⟩ := cl_one
   have ht' : (Try.prog).funcs[clF]? = some fn := ht
   rw [q1] at ht'
   cases ht'
   rw [q2] at hb
   cases hb
   rw [q4] at hx
   obtain rfl := List.mem_singleton.1 hx
   rw [q3]
   exact @ck_jmp g qs rs hq hr lo hlr hl hri
end
def RlIn (w : World) (v : Value) (qs rs : List Rat) : Prop := ∃ a m, v = .slice a qs.length m ∧ qs.length ≤ m ∧ (qs ≠ [] → ∃ b off cl t z, a = some ⟨b, off, none⟩ ∧ w.heap[b]? = some (.cells ⟨cl⟩ t z) ∧ RowsAt cl off qs rs)
theorem RlIn.rl {ρ : Env} {c : Nat} {w : World} {v : Value} (h : RlIn w v (ρ.lst c) (ρ.lst (c + 1))) (hlo : ρ.lo = w.heap.size) : rlIs ρ c w v := by
 obtain ⟨a, m, h1, h2, h3⟩ := h
 exact ⟨a, m, h1, h2, fun hp => by
  obtain ⟨b, off, cl, t, z, h4, h5, h6⟩ := h3 hp
  exact ⟨b, off, cl, t, z, h4, .inl (by rw [hlo]; exact (Array.getElem?_eq_some_iff.1 h5).1), h5, h6⟩⟩
theorem RlIn.one {w : World} {v : Value} {qs rs : List Rat} (h : RlIn w v qs rs) : isOne v = true := by obtain ⟨a, m, rfl, _⟩ := h; rfl
theorem column_any (g : Bool) (w : World) {qs rs : List Rat} (hq : ∀ y ∈ qs, Fit y) (hr : ∀ y ∈ rs, Fit y) (hlr : rs.length = qs.length) (hl : qs.length ≤ 10000) (hri : Rises (ckL g qs rs)) {v : Value} (hv : RlIn w v qs rs) (hG : Try.prog.globals.size ≤ w.heap.size) (hT : natSig.base w) :
  Calls Try.prog clF ⟨[v, clV g]⟩ w fun e w' => ∃ u, e = .returned (.tuple ⟨[u, .bool true]⟩) ∧ NewOl 1 w w' u (ckL g qs rs) ∧ Below w.heap.size w w' := by
 let E := ckEnv g qs rs hq hr w.heap.size 0
 have hA : AllH E [] := fun x hx => by simp at hx
 have hB : AllX E [.ln 0 1, .bd 1] := fun x hx => by
  simp only [List.mem_cons, List.not_mem_nil, or_false] at hx
  rcases hx with rfl | rfl
  ·rfl
  ·exact hl
 have hu : HoldsL (symSig E) w [.rl 0] [v] := ⟨_, _, rfl, RlIn.rl hv rfl, hv.one, rfl⟩
 have hpl : plain (clV g) = true := by cases g <;> rfl
 refine (tellsB_calls (bs := []) (rwFits hA hB) (clSums_ok hA) (cl_run g) (fun r ps qs vs us _ h2 => h2.append (.cons (.same hpl) .nil)) rfl glob_few rfl hu hG hT (fun b hb => by simp at hb) (Nat.le_refl _) (ck_all hq hr w.heap.size hlr hl hri)).mono ?_
 rintro e w' ⟨v', rfl, ⟨vs, rfl, u, l1, rfl, h1, u2, l2, rfl, h2, rfl⟩, hb⟩
 have h2' : u2 = .bool true := h2
 subst h2'
 refine ⟨u, rfl, newOl_of (ρ := E) rfl (show (D1.ow (.ol 1 (.v (cond g 1 0)) (some (1, 0))) : D1 Sy).is (symSig E) w' u from h1) (by cases g <;> rfl) (fun p hp => ?_), hb⟩
 cases hp
 show (((ckL g qs rs).length : Nat) : Int) = ((qs.length : Nat) : Int) + 0
 rw [ck_len hlr]; omega
theorem run_copy_sz {P : Program} (w : World) (dT sT ty elem : TypeId) (z : Nat) (g dLen dCap : Nat) (a : Addr) (sLen sCap : Nat) (cur : Array Value) (t : TypeId) (cs : List Value)
  (hu : P.underlying dT = some (.slice elem)) (hs : (P.info? elem).map (·.size) = some z)
  (hg : w.heap[g]? = some (.cells cur t (0, 0))) (hn : cs.length = Nat.min sLen dLen * z)
  (hsrc : ∀ j v, cs[j]? = some v → w.cell? (a.add j) = some v) (hfit : cs.length ≤ cur.size) (h1 : ∀ v ∈ cs, v.oneCell' = true) :
  (Builtin.copy_ #[dT, sT] ty #[.slice (some ⟨g, 0, none⟩) dLen dCap, .slice (some a) sLen sCap]).run P w =
   .ok (goInt (Nat.min sLen dLen : Nat)) (w.setRow g (cs ++ cur.toList.drop cs.length).toArray) := by
 have hl := run_loadCells_list (P := P) w a cs hsrc
 have hst := run_storeCells_at P g 0 t cs 0 cur w hg (by simpa using hfit) h1
 cases hq : P.info? elem with
 | none => simp [hq] at hs
 | some i =>
  have hi : i.size = z := by simpa [hq] using hs
  simp [Builtin.copy_, run_underlying hu, Builtin.lenOf, Builtin.firstCells, sizeOf, typeInfo, hq, hi, ← hn, hl, hst]
theorem wpList_copy_sz {P : Program} {w : World} {ops : Array Oper} {rest : List Oper} {o : Oper} {a : Act} {Q : Exit → Act → World → Prop} (hgd : o.guard = none) (d s : Operand) (dT sT : TypeId)
  (ho : o.op = .call { callee := .builtin .copy, args := #[d, s], argTypes := #[dT, sT] }) (elem : TypeId) (z : Nat) (hu : P.underlying dT = some (.slice elem)) (hsz : (P.info? elem).map (·.size) = some z)
  (g dLen dCap : Nat) (ad : Addr) (sLen sCap : Nat) (hd : a.eval d = .slice (some ⟨g, 0, none⟩) dLen dCap) (hs : a.eval s = .slice (some ad) sLen sCap)
  (cur : Array Value) (t : TypeId) (hg : w.heap[g]? = some (.cells cur t (0, 0))) (cs : List Value) (hn : cs.length = Nat.min sLen dLen * z)
  (hsrc : ∀ j v, cs[j]? = some v → w.cell? (ad.add j) = some v) (hfit : cs.length ≤ cur.size) (h1 : ∀ v ∈ cs, v.oneCell' = true)
  (h : ∀ w', w' = w.setRow g (cs ++ cur.toList.drop cs.length).toArray → wpList P ops Q rest (a.put o.dst (goInt (Nat.min sLen dLen : Nat))) w') : wpList P ops Q (o :: rest) a w := by
 refine wpList_plain hgd fun K hK => ?_
 have hrun := run_copy_sz (P := P) w dT sT o.type elem z g dLen dCap ad sLen sCap cur t cs hu hsz hg hn hsrc hfit h1
 unfold Oper.wp
 simp [execOp, ho, resolve, invoke, builtin, hd, hs, hrun, Result.andThen]
 exact hK _ _ (by simpa using h _ rfl)
theorem rows_len {cl : List Value} {off : Nat} {qs rs : List Rat} (h : RowsAt cl off qs rs) (hne : qs ≠ []) : off + qs.length * 6 ≤ cl.length := by
 have hp : 0 < qs.length := List.length_pos_iff.2 hne
 have h6 := h.2 (qs.length - 1) _ _ (List.getElem?_eq_getElem (by omega)) (List.getElem?_eq_getElem (by rw [h.1]; omega))
 have hl := congrArg List.length h6
 rw [List.length_take, List.length_drop] at hl
 have : (frC qs[qs.length - 1] ++ frC (rs[qs.length - 1]'(by rw [h.1]; omega))).length = 6 := rfl
 rw [this] at hl
 omega
theorem rows_one {cl : List Value} {off : Nat} {qs rs : List Rat} (h : RowsAt cl off qs rs) : ∀ v ∈ (cl.drop off).take (qs.length * 6), v.oneCell' = true := by
 intro v hv
 obtain ⟨j, hj, rfl⟩ := List.getElem_of_mem hv
 rw [List.length_take] at hj
 have hi : j / 6 < qs.length := by omega
 have h6 := h.2 (j / 6) _ _ (List.getElem?_eq_getElem hi) (List.getElem?_eq_getElem (by rw [h.1]; exact hi))
 have he : (frC qs[j / 6] ++ frC (rs[j / 6]'(by rw [h.1]; exact hi)))[j % 6]? = some ((cl.drop off).take (qs.length * 6))[j] := by
  rw [← h6, List.getElem?_take, if_pos (by omega), List.getElem?_drop, ← List.getElem?_eq_getElem (by rw [List.length_take]; omega), List.getElem?_take, if_pos (by omega), List.getElem?_drop]
  congr 1; omega
 have hm := List.mem_of_getElem? he
 simp only [frC, List.cons_append, List.nil_append, List.mem_cons, List.not_mem_nil, or_false] at hm
 rcases hm with h | h | h | h | h | h <;> rw [h] <;> rfl
def RlT (w : World) (v : Value) (qs rs : List Rat) : Prop := ∃ a m, v = .slice a qs.length m ∧ qs.length ≤ m ∧ (qs ≠ [] → ∃ b off cl z, a = some ⟨b, off, none⟩ ∧ w.heap[b]? = some (.cells ⟨cl⟩ 30 z) ∧ RowsAt cl off qs rs)
def LsT (lo : Nat) (w : World) (v : Value) (qs : List Rat) : Prop := ∃ a m, v = .slice a qs.length m ∧ qs.length ≤ m ∧ (qs ≠ [] → ∃ b off cl z, a = some ⟨b, off, none⟩ ∧ b < lo ∧ w.heap[b]? = some (.cells ⟨cl⟩ 70 z) ∧ RowAt 1 w cl off qs)
theorem RlT.un {w : World} {v : Value} {qs rs : List Rat} (h : RlT w v qs rs) : RlIn w v qs rs := by
 obtain ⟨a, m, h1, h2, h3⟩ := h
 exact ⟨a, m, h1, h2, fun hp => by
  obtain ⟨b, off, cl, z, k1, k2, k3⟩ := h3 hp
  exact ⟨b, off, cl, _, z, k1, k2, k3⟩⟩
theorem LsT.un {lo : Nat} {w : World} {v : Value} {qs : List Rat} (h : LsT lo w v qs) : LsLo lo 1 w v qs := by
 obtain ⟨a, m, h1, h2, h3⟩ := h
 exact ⟨a, m, h1, h2, fun hp => by
  obtain ⟨b, off, cl, z, k1, k2, k3, k4⟩ := h3 hp
  exact ⟨b, off, cl, _, z, k1, k2, k3, k4⟩⟩
abbrev KeptT (w w' : World) : Prop := ∀ (b : Nat) (c : Array Value) (t : TypeId) (z : Nat × Nat), w.heap[b]? = some (.cells c t z) → (t = 37 ∨ t = 30 ∨ t = 70 ∨ symHid t = true) → w'.heap[b]? = some (.cells c t z)
theorem below_keptT {w w' : World} (hb : Below w.heap.size w w') : KeptT w w' := fun b _ _ _ h _ => (hb.block b (Array.getElem?_eq_some_iff.1 h).1).trans h
theorem RlT.stay {w w' : World} {v : Value} {qs rs : List Rat} (h : RlT w v qs rs) (hk : KeptT w w') : RlT w' v qs rs := by
 obtain ⟨a, m, h1, h2, h3⟩ := h
 exact ⟨a, m, h1, h2, fun hp => by
  obtain ⟨b, off, cl, z, k1, k2, k3⟩ := h3 hp
  exact ⟨b, off, cl, z, k1, hk _ _ _ _ k2 (.inr (.inl rfl)), k3⟩⟩
theorem LsT.stay {lo : Nat} {w w' : World} {v : Value} {qs : List Rat} (h : LsT lo w v qs) (hk : KeptT w w') : LsT lo w' v qs := by
 obtain ⟨a, m, h1, h2, h3⟩ := h
 exact ⟨a, m, h1, h2, fun hp => by
  obtain ⟨b, off, cl, z, k1, k2, k3, k4⟩ := h3 hp
  exact ⟨b, off, cl, z, k1, k2, hk _ _ _ _ k3 (.inr (.inr (.inl rfl))), k4.stable fun b c t z g1 g2 => hk b c t z g1 (.inr (.inr (.inr g2)))⟩⟩
theorem OlIn.lsT {w : World} {v : Value} {qs : List Rat} (h : OlIn 1 w v qs) {lo : Nat} (hlo : w.heap.size ≤ lo) : LsT lo w v qs := by
 obtain ⟨a, m, h1, h2, h3, h4⟩ := h
 refine ⟨a, m, h1, h2, fun hp => ?_⟩
 cases a with
 | none => have := h3 rfl; cases qs with
  | nil => exact absurd rfl hp
  | cons q l => simp only [List.length_cons] at h2; omega
 | some ad =>
  obtain ⟨cl, k1, k2, k3, k4⟩ := h4 ad rfl
  exact ⟨ad.block, 0, cl, _, by rw [← k1], Nat.lt_of_lt_of_le (Array.getElem?_eq_some_iff.1 k2).1 hlo, k2, k4⟩
theorem copied_any (w : World) {qs rs : List Rat} (hne : qs ≠ []) (hl : qs.length ≤ 10000) {v : Value} (hv : RlIn w v qs rs) :
  Calls Try.prog 30 #[v] w fun e w' => ∃ b, e = .returned (.slice (some ⟨b, 0, none⟩) qs.length qs.length) ∧ RlT w' (.slice (some ⟨b, 0, none⟩) qs.length qs.length) qs rs ∧ Below w.heap.size w w' := by
 obtain ⟨a, m, rfl, hm, hh⟩ := hv
 obtain ⟨b, off, cl, t, z, rfl, hb, hr⟩ := hh hne
 have HR := Lib.hid hr
 have HL := Lib.hid (rows_len hr hne)
 have hi : (Try.prog.info? 30).map (fun i => (i.zero.map Value.cells, i.size, i.bytes)) = some (some #[.bool false, .string ⟨#[]⟩, .string ⟨#[]⟩, .bool false, .string ⟨#[]⟩, .string ⟨#[]⟩], 6, 80) := by kernel_rfl
 obtain ⟨i0, hi0, hi1⟩ := Option.map_eq_some_iff.1 hi
 simp only [Prod.mk.injEq] at hi1
 obtain ⟨hz0, hz1, hz2⟩ := hi1
 obtain ⟨z0, hz3, hz4⟩ := Option.map_eq_some_iff.1 hz0
 have hmk := fun W : World => run_make (P := Try.prog) W 34 30 i0 z0 Try.underlying34 hi0 hz3 .i64 .i64 qs.length qs.length (by omega) (by omega) (by rw [hz2]; omega) (by omega)
 simp only [Int.toNat_natCast, hz1] at hmk
 have hsz : (Try.prog.info? 30).map (·.size) = some 6 := by rw [hi0]; simp [hz1]
 have hlen : ((cl.drop off).take (qs.length * 6)).length = qs.length * 6 := by
  rw [List.length_take, List.length_drop]; have := HL.out; omega
 obtain ⟨cs, hcs⟩ : ∃ cs, cs = (cl.drop off).take (qs.length * 6) := ⟨_, rfl⟩
 have HO := Lib.hid (rows_one hr)
 rw [← hcs] at hlen HO
 obtain ⟨M, hM⟩ : ∃ M, M = madeCells z0.cells (qs.length * 6) := ⟨_, rfl⟩
 have hMs : M.size = qs.length * 6 := by rw [hM]; exact size_madeCells _ _
 rw [← hM] at hmk
 have hlt := (Array.getElem?_eq_some_iff.1 hb).1
 have HS := Lib.hid (fun (j : Nat) (v : Value) (h : cs[j]? = some v) => show (w.alloc (.cells M 30)).cell? (Addr.add ⟨b, off, none⟩ j) = some v by
  rw [hcs, List.getElem?_take] at h
  split at h
  ·rw [List.getElem?_drop] at h
   have hb2 : (w.alloc (.cells M 30)).heap[b]? = some (.cells ⟨cl⟩ t z) := by
    show (w.heap.push _)[b]? = _
    rw [Array.getElem?_push_lt (by omega)]
    rw [Array.getElem?_eq_getElem (by omega)] at hb
    exact hb
   rw [add_off]
   simp only [World.cell?, hb2]
   simpa using h
  ·cases h)
 have HN : (w.alloc (.cells M 30)).heap[w.heap.size]? = some (.cells M 30 (0, 0)) := by
  show (w.heap.push _)[w.heap.size]? = _
  simp
 have HB0 : Below w.heap.size w (w.alloc (.cells M 30)) := (Below.refl _ _).alloc (Nat.le_refl _) _
 replace HN := Lib.hid HN
 replace HB0 := Lib.hid HB0
 have hb0 := Lib.hid hb
 replace hM := Lib.hid hM
 replace hcs := Lib.hid hcs
 clear hb hr hh hi hi0 hz0 hz1 hz2 hz3 hz4
 go_enter Try.func30, Try.ntmps30
 go_wp2_with (first
  | (with_reducible refine wpList_copy_sz rfl (.tmp 7) (.tmp 8) 34 34 rfl 30 6 Try.underlying34 hsz w.heap.size qs.length qs.length ⟨b, off, none⟩ qs.length m rfl rfl M 30 HN.out cs (by rw [hlen, show Nat.min qs.length qs.length = qs.length from Nat.min_self _]) HS.out (by rw [hMs, hlen]; exact Nat.le_refl _) HO.out ?_))
 go_ret
 have hd : cs ++ List.drop (qs.length * 6) M.toList = cs := by rw [List.drop_eq_nil_of_le (by simp; omega), List.append_nil]
 have hset : ((w.alloc (.cells M 30)).setRow w.heap.size (cs ++ List.drop (qs.length * 6) M.toList).toArray).heap[w.heap.size]? = some (.cells ⟨cs⟩ 30 (0, 0)) := by
  rw [hd]
  rw [setRow_heap HN.out]
  simp [(Array.getElem?_eq_some_iff.1 HN.out).1]
 refine ⟨w.heap.size, rfl, ⟨_, _, rfl, Nat.le_refl _, fun _ => ⟨w.heap.size, 0, cs, _, rfl, hset, HR.out.1, fun i q p h1 h2 => ?_⟩⟩, below_setRow HB0.out (Nat.le_refl _) _⟩
 have hil := (List.getElem?_eq_some_iff.1 h1).1
 rw [hcs.out, Nat.zero_add, List.drop_take, List.drop_drop, List.take_take, Nat.min_eq_left (by omega)]
 exact HR.out.2 i q p h1 h2
theorem LsIn.lo {K : Nat} {w : World} {v : Value} {qs : List Rat} (h : LsIn K w v qs) {lo : Nat} (hlo : w.heap.size ≤ lo) : LsLo lo K w v qs := by
 obtain ⟨a, m, h1, h2, h3⟩ := h
 exact ⟨a, m, h1, h2, fun hp => by
  obtain ⟨b, off, cl, t, z, k1, k3, k4⟩ := h3 hp
  exact ⟨b, off, cl, t, z, k1, Nat.lt_of_lt_of_le (Array.getElem?_eq_some_iff.1 k3).1 hlo, k3, k4⟩⟩
def TabIn (w : World) (v : Value) (qs rs : List Rat) : Prop := ∃ b s u1 u2, v = vpt0 b ∧ Try.prog.globals.size ≤ b ∧ w.heap[b]? = some (.cells ⟨[s, u1, u2]⟩ 37 (0, 0)) ∧ RlT w s qs rs ∧ LsT b w u1 qs ∧ LsT b w u2 rs
theorem LsIn.keep {K : Nat} {w w' : World} {v : Value} {qs : List Rat} (h : LsIn K w v qs) (hb : Below w.heap.size w w') : LsIn K w' v qs := by
 obtain ⟨a, m, h1, h2, h3⟩ := h
 exact ⟨a, m, h1, h2, fun hp => by
  obtain ⟨b, off, cl, t, z, k1, k3, k4⟩ := h3 hp
  exact ⟨b, off, cl, t, z, k1, (hb.block b (Array.getElem?_eq_some_iff.1 k3).1).trans k3, Below.rowAt hb k4⟩⟩
theorem RlIn.keep {w w' : World} {v : Value} {qs rs : List Rat} (h : RlIn w v qs rs) (hb : Below w.heap.size w w') : RlIn w' v qs rs := by
 obtain ⟨a, m, h1, h2, h3⟩ := h
 exact ⟨a, m, h1, h2, fun hp => by
  obtain ⟨b, off, cl, t, z, k1, k3, k4⟩ := h3 hp
  exact ⟨b, off, cl, t, z, k1, (hb.block b (Array.getElem?_eq_some_iff.1 k3).1).trans k3, k4⟩⟩
theorem TabIn.stay {w w' : World} {v : Value} {qs rs : List Rat} (h : TabIn w v qs rs) (hk : KeptT w w') : TabIn w' v qs rs := by
 obtain ⟨b, s, u1, u2, h1, h6, h2, h3, h4, h5⟩ := h
 exact ⟨b, s, u1, u2, h1, h6, hk _ _ _ _ h2 (.inl rfl), h3.stay hk, h4.stay hk, h5.stay hk⟩
theorem TabIn.un {w : World} {v : Value} {qs rs : List Rat} (h : TabIn w v qs rs) : ∃ b s u1 u2, v = vpt0 b ∧ Try.prog.globals.size ≤ b ∧ w.heap[b]? = some (.cells ⟨[s, u1, u2]⟩ 37 (0, 0)) ∧ RlIn w s qs rs ∧ LsLo b 1 w u1 qs ∧ LsLo b 1 w u2 rs := by
 obtain ⟨b, s, u1, u2, h1, h6, h2, h3, h4, h5⟩ := h
 exact ⟨b, s, u1, u2, h1, h6, h2, h3.un, h4.un, h5.un⟩
theorem baseUp {w W : World} (hG : Try.prog.globals.size ≤ w.heap.size) (hT : natSig.base w) (hb : Below w.heap.size w W) : natSig.base W := by
 refine natSig.baseS w W hT fun b o hbG ho => ?_
 have h1 : b < Try.prog.globals.size := hbG
 exact (hb.block b (Nat.lt_of_lt_of_le h1 hG)).trans ho
set_option maxHeartbeats 400000 in
theorem new_any (w : World) {qs rs : List Rat} (hq : ∀ y ∈ qs, Fit y) (hr : ∀ y ∈ rs, Fit y) (hlr : rs.length = qs.length) (hne : qs ≠ []) (hl : qs.length ≤ 64) (h1 : Rises qs) (h2 : Rises rs) {v : Value} (hv : RlIn w v qs rs) (hG : Try.prog.globals.size ≤ w.heap.size) (hT : natSig.base w) :
  Calls Try.prog 7 #[v] w fun e w' => ∃ u, e = .returned (.tuple ⟨[u, .int .i64 0]⟩) ∧ TabIn w' u qs rs ∧ Below w.heap.size w w' := by
 have G1 : ∀ W, Below w.heap.size w W → Try.prog.globals.size ≤ W.heap.size := fun W hb => Nat.le_trans hG hb.size
 have T1 : ∀ W, Below w.heap.size w W → natSig.base W := fun W hb => baseUp hG hT hb
 have V1 : ∀ W, Below w.heap.size w W → RlIn W v qs rs := fun W hb => hv.keep hb
 have K1 : ∀ W, Below w.heap.size w W → Calls Try.prog 27 #[v, .func (.func 28) #[] #[]] W fun e w' => ∃ u, e = .returned (.tuple ⟨[u, .bool true]⟩) ∧ NewOl 1 W w' u qs ∧ Below W.heap.size W w' := fun W hb => column_any false W hq hr hlr (by omega) h1 (V1 W hb) (G1 W hb) (T1 W hb)
 have K2 : ∀ W, Below w.heap.size w W → Calls Try.prog 27 #[v, .func (.func 29) #[] #[]] W fun e w' => ∃ u, e = .returned (.tuple ⟨[u, .bool true]⟩) ∧ NewOl 1 W w' u rs ∧ Below W.heap.size W w' := fun W hb => column_any true W hq hr hlr (by omega) h2 (V1 W hb) (G1 W hb) (T1 W hb)
 have K3 : ∀ W, Below w.heap.size w W → Calls Try.prog 30 #[v] W fun e w' => ∃ b, e = .returned (.slice (some ⟨b, 0, none⟩) qs.length qs.length) ∧ RlT w' (.slice (some ⟨b, 0, none⟩) qs.length qs.length) qs rs ∧ Below W.heap.size W w' := fun W hb => copied_any W hne (by omega) (V1 W hb)
 replace K1 := Lib.hid K1; replace K2 := Lib.hid K2; replace K3 := Lib.hid K3
 clear G1 T1 V1
 have hG0 := Lib.hid hG
 have hp : 0 < qs.length := List.length_pos_iff.2 hne
 obtain ⟨a, m, rfl, _⟩ := hv
 have c1 : ¬ ((qs.length : Int) = 0) := by omega
 have c2 : ¬ (64 < (qs.length : Int)) := by omega
 clear hq hr hlr hne h1 h2 hG hT
 go_enter Try.func7, Try.ntmps7
 go_wp2_with (go_at_call 27; with_reducible refine (K1.out _ (Below.refl _ _)).mono ?_; rintro e w1 ⟨u1, rfl, hu1, hb1⟩)
 have HB1 := Lib.hid hb1
 have HU1 := Lib.hid hu1
 obtain ⟨a1, m1, he1, _⟩ := hu1.ol
 clear hb1 hu1
 subst he1
 go_wp2_with (go_at_call 27; with_reducible refine (K2.out _ HB1.out).mono ?_; rintro e w2 ⟨u2, rfl, hu2, hb2⟩)
 have HB2 := Lib.hid (HB1.out.trans (hb2.mono HB1.out.size))
 have HB2' := Lib.hid hb2
 have HU2 := Lib.hid hu2
 obtain ⟨a2, m2, he2, _⟩ := hu2.ol
 clear hb2 hu2
 subst he2
 go_wp2_with (go_at_call 30; with_reducible refine (K3.out _ HB2.out).mono ?_; rintro e w3 ⟨b3, rfl, hu3, hb3⟩)
 have HB3 := Lib.hid hb3
 have HU3 := Lib.hid hu3
 clear hb3 hu3
 go_ret2
 have HBA := (Below.refl w3.heap.size w3).alloc (Nat.le_refl _) (.cells #[.slice (some ⟨b3, 0, none⟩) qs.length qs.length, .slice a1 qs.length m1, .slice a2 rs.length m2] 37)
 have HB23 : w1.heap.size ≤ w3.heap.size := Nat.le_trans HB2'.out.size HB3.out.size
 refine ⟨_, rfl, ⟨w3.heap.size, _, _, _, rfl, Nat.le_trans hG0.out (HB2.out.trans (HB3.out.mono HB2.out.size)).size, ?_, HU3.out.stay (below_keptT HBA), (((HU1.out.ol.lsT HB23).stay (below_keptT HB2'.out)).stay (below_keptT HB3.out)).stay (below_keptT HBA), ((HU2.out.ol.lsT HB3.out.size).stay (below_keptT HB3.out)).stay (below_keptT HBA)⟩, (HB2.out.trans (HB3.out.mono HB2.out.size)).trans (HBA.mono (HB2.out.trans (HB3.out.mono HB2.out.size)).size)⟩
 show (w3.heap.push _)[w3.heap.size]? = _
 simp
noncomputable def zFrV (n : Int) : Value := .tuple ⟨[.agg ⟨[.bool false, .string ⟨#[]⟩, .string ⟨#[]⟩]⟩, .int .i64 n]⟩
noncomputable def toS (g f : Bool) : Nat × (List Value → Option (M Sy Value)) := (toF, fun args => match args with
 | [a, b, z] => match z with
  | .agg cs => some (bind (lsArg [] a) fun l => bind (lsArg [] b) fun k => bind (frcV cs.toList) fun q => match q with
   | some e => cond (isLe l 1 0 && (isLe k 1 3 && e.beq (.v 8))) (cond g (ret (zFrV 130)) (cond f (bind (newFacts [.ng (.v 105), .fn (.v 105), .fd (.v 105)]) fun vs => ret (.tuple ⟨[.agg ⟨vs⟩, .int .i64 0]⟩)) (ret (zFrV 3)))) fail
   | none => fail)
  | _ => none
 | _ => none)
theorem goes_aggE {ρ : Env} {fs : List Sy} {f : FuncId} {args' : List Value} {h h' : Tr (Blk Sy)} {nx nx' : Nat} {R W : List Nat} {r : Ren} {w : World} {v u2 : Value} (hp : plain u2 = true) (e : (bind (newFacts fs) fun vs => ret (.tuple ⟨[.agg ⟨vs⟩, u2]⟩) : M Sy Value) h nx = .ok v h' nx' R W) (hM : Mod (symSig ρ) r h.get w) (hN : New r nx nx')
  (c : Calls Try.prog f ⟨args'⟩ w fun en w' => ∃ us, en = .returned (.tuple ⟨[.agg ⟨us⟩, u2]⟩) ∧ HoldsL (symSig ρ) w' fs us ∧ Below w.heap.size w w') :
  GoesS ρ f args' r w nx nx' W h'.get v := goes_aggT hp e hM hN c
theorem toS_ok {ρ : Env} {g f : Bool} {c : Nat} (hq : ∀ y ∈ ρ.lst 0, Fit y) (hr : ∀ y ∈ ρ.lst 3, Fit y) (hx : Fit (ρ.q 8)) (hl : (ρ.lst 0).length ≤ 10000) (hlr : (ρ.lst 3).length = (ρ.lst 0).length) (h6 : c ≤ (ρ.lst 0).length) (hb : ∀ t, t < c → (ρ.lst 0).getD t 0 < ρ.q 8) (ha : ∀ t, c ≤ t → t < (ρ.lst 0).length → ¬ (ρ.lst 0).getD t 0 < ρ.q 8)
  (hg : linAt (ρ.lst 0) (ρ.lst 3) (ρ.q 8) c = cond g none (some (ρ.q 105))) (hf : f = true ↔ Fit (ρ.q 105)) : SumF (symSig ρ) Try.prog (toS g f).1 (toS g f).2 := by
 intro args m e
 rcases args with _ | ⟨a, _ | ⟨b, _ | ⟨z, _ | ⟨z2, l⟩⟩⟩⟩ <;> first | (cases (show none = some m from e); done) | skip
 cases z <;> first | (cases (show none = some m from e); done) | skip
 rename_i cs
 cases e
 refine ⟨loc_bind (loc_lsArg _ _) fun _ => loc_bind (loc_lsArg _ _) fun _ => loc_bind (loc_frcV _) fun q => ?_, fun h nx v h' nx' R W e r w args' hv hM hN => ?_⟩
 ·split
  ·exact loc_cond (loc_cond (loc_ret _) (loc_cond (loc_bind (loc_newFacts _) fun _ => loc_ret _) (loc_ret _))) loc_fail
  ·exact loc_fail
 have hn : AllX ρ [] := fun _ h => by simp at h
 cases hv with
 | cons v1 hv => cases hv with
  | cons v2 hv => cases hv with
   | cons v3 hv =>
    cases hv
    obtain ⟨l, g1, nx1, R1, W1, R2, W2, e1, e2, rfl, rfl⟩ := bind_ok e
    obtain ⟨rfl, rfl, rfl, q1⟩ := lsArg_ok hn e1 v1 hM
    obtain ⟨k, g3, nx3, R3, W3, R4, W4, e3, e4, rfl, rfl⟩ := bind_ok e2
    obtain ⟨rfl, rfl, rfl, q2⟩ := lsArg_ok hn e3 v2 hM
    obtain ⟨q, g5, nx5, R5, W5, R6, W6, e5, e6, rfl, rfl⟩ := bind_ok e4
    obtain ⟨cl⟩ := cs
    obtain ⟨cl', rfl, hcl⟩ := vr_agg v3
    obtain ⟨rfl, rfl, rfl, q3⟩ := frcV_ok e5 hcl hM
    cases q with
    | none => cases (show (fail : M Sy Value) _ _ = _ from e6)
    | some qe =>
    simp only at e6
    obtain ⟨hk, e7⟩ := cond_ok e6
    simp only [Bool.and_eq_true] at hk
    obtain rfl := isLe_ok hk.1
    obtain rfl := isLe_ok hk.2.1
    obtain rfl := Qe.beq_ok _ _ hk.2.2
    have q3' : cl' = [.bool (Big.ng (ρ.q 8)), .string (bst (Big.nu (ρ.q 8))), .string (bst (Big.de (ρ.q 8)))] := q3
    subst q3'
    have c0 := told_any w hq hr hx hl hlr h6 hb ha q1 q2 hM.fits hM.base
    rw [hg] at c0
    simp only [List.nil_append]
    cases g with
    | true => exact goes_pl (show (ret (zFrV 130) : M Sy Value) _ _ = _ from e7) rfl hM (c0.mono fun en w' hh => ⟨hh.1, hh.2⟩)
    | false =>
     cases f with
     | true =>
      have hfit := hf.1 rfl
      refine goes_aggE (u2 := .int .i64 0) rfl (show (bind (newFacts [.ng (.v 105), .fn (.v 105), .fd (.v 105)]) fun vs => ret (.tuple ⟨[.agg ⟨vs⟩, .int .i64 0]⟩) : M Sy Value) _ _ = _ from e7) hM hN (c0.mono ?_)
      rintro en w' ⟨h1, hb⟩
      rcases h1 with ⟨_, h1⟩ | ⟨h1, _⟩
      ·exact ⟨_, h1, frC_holds (ρ := ρ) (.v 105), hb⟩
      ·exact absurd hfit h1
     | false =>
      have hfit : ¬ Fit (ρ.q 105) := fun q => by have := hf.2 q; cases this
      refine goes_pl (show (ret (zFrV 3) : M Sy Value) _ _ = _ from e7) rfl hM (c0.mono ?_)
      rintro en w' ⟨h1, hb⟩
      rcases h1 with ⟨h1, _⟩ | ⟨_, h1⟩
      ·exact absurd h1 hfit
      ·exact ⟨h1, hb⟩
noncomputable def taF (k : Bool) : Nat := cond k 11 9
noncomputable def taBl (k : Bool) : List (BL Sy) := [⟨37, [.wl 1 0, .ls 1 (cond k 3 0), .ls 1 (cond k 0 3)], [.one, .one, .one]⟩]
noncomputable def taMk (ps vs : List Value) : List Value := ps ++ [.agg ⟨vs⟩]
noncomputable def taB : List Ix := [.bd 1, .lt 1 0 0 0 false, .lt 0 0 1 0 true]
noncomputable def taRun (k g f : Bool) : Option (E3 Sy) := tellsB (taBl k) [.ng (.v 8), .fn (.v 8), .fd (.v 8)] taMk (call Try.prog (lsCfg false [] taB noJ) (sumsOf (mkTab [toS g f])) 30 (taF k))
noncomputable def taD (g f : Bool) : E3 Sy := cond g (.tuple [.d (.agg [.p (.bool false), .p (.string ⟨#[]⟩), .p (.string ⟨#[]⟩)]), .d (.one (.p (.int .i64 130)))])
 (cond f (.tuple [.d (.agg [.f (.ng (.v 105)), .f (.fn (.v 105)), .f (.fd (.v 105))]), .d (.one (.p (.int .i64 0)))]) (.tuple [.d (.agg [.p (.bool false), .p (.string ⟨#[]⟩), .p (.string ⟨#[]⟩)]), .d (.one (.p (.int .i64 3)))]))
set_option maxHeartbeats 4000000 in
theorem ta_runs (k g f : Bool) : taRun k g f = some (taD g f) := by cases k <;> cases g <;> cases f <;> kernel_rfl
noncomputable def frV (x : Rat) : Value := .agg ⟨frC x⟩
theorem tab_bl {E : Env} {w : World} {b : Nat} {s u1 u2 : Value} {qs rs : List Rat} (k : Bool) (hb : w.heap[b]? = some (.cells ⟨[s, u1, u2]⟩ 37 (0, 0))) (hg : Try.prog.globals.size ≤ b) (hs : RlIn w s qs rs) (h1 : LsLo b 1 w u1 qs) (h2 : LsLo b 1 w u2 rs)
  (hlo : E.lo = b) (hn : E.nat 1 = qs.length) (h0 : E.lst (cond k 3 0) = qs) (h3 : E.lst (cond k 0 3) = rs) : BlksAre (symSig E) w (taBl k) [b] := by
 refine ⟨b, [], rfl, ⟨[s, u1, u2], ⟨_, _, rfl, ?_, hs.one, _, _, rfl, ?_, ?_, _, _, rfl, ?_, ?_, rfl⟩, hb⟩, by simp, hg, rfl⟩
 ·obtain ⟨a, m, rfl, _⟩ := hs
  exact ⟨a, _, m, rfl, by rw [hn, Int.add_zero]⟩
 ·show lsIs E 1 (cond k 3 0) w u1
  unfold lsIs
  rw [h0, hlo]; exact h1
 ·obtain ⟨a, m, rfl, _⟩ := h1; rfl
 ·show lsIs E 1 (cond k 0 3) w u2
  unfold lsIs
  rw [h3, hlo]; exact h2
 ·obtain ⟨a, m, rfl, _⟩ := h2; rfl
def tjQ (x z y : Rat) (i : Nat) : Rat := if i = 8 then x else if i = 9 then z else if i = 105 then y else 0
def tjNat (n : Nat) : Nat → Nat
 | 1 => n
 | _ => 0
def tjLst (qs rs : List Rat) : Nat → List Rat
 | 0 => qs
 | 3 => rs
 | _ => []
theorem tjQ_fit {x z y : Rat} (hx : Fit x) (hz : Fit z) (i : Nat) (h : i < 100) : Fit (tjQ x z y i) := by
 unfold tjQ
 split
 ·exact hx
 split
 ·exact hz
 rw [if_neg (by omega)]
 exact fit00
theorem tjQ_big {x z y : Rat} (hx : Fit x) (hz : Fit z) (hy : Sm 4096 y) (i : Nat) : Sm 4096 (tjQ x z y i) := by
 unfold tjQ
 split
 ·exact hx.sm.up (by decide)
 split
 ·exact hz.sm.up (by decide)
 split
 ·exact hy
 ·exact fit00.sm.up (by decide)
def tjEnv (qs rs : List Rat) (x z y : Rat) (hx : Fit x) (hz : Fit z) (hy : Sm 4096 y) (lo : Nat) : Env := ⟨tjQ x z y, fun _ => (false, ⟨#[]⟩, ⟨#[]⟩), fun i h => tjQ_fit hx hz i h, fun i => tjQ_big hx hz hy i, fun _ => bad_zero, lo, tjLst qs rs, tjNat qs.length, rfl⟩
theorem tj_B {qs rs : List Rat} {x z y : Rat} {hx : Fit x} {hz : Fit z} {hy : Sm 4096 y} {lo : Nat} (hne : qs ≠ []) (hl : qs.length ≤ 10000) : AllX (tjEnv qs rs x z y hx hz hy lo) taB := fun u hu => by
 have hp : 0 < qs.length := List.length_pos_iff.2 hne
 simp only [taB, List.mem_cons, List.not_mem_nil, or_false] at hu
 rcases hu with rfl | rfl | rfl
 ·exact hl
 ·show false = true ↔ ((qs.length : Nat) : Int) + 0 < ((0 : Nat) : Int) + 0
  exact ⟨fun h => (by cases h), fun h => by omega⟩
 ·show true = true ↔ ((0 : Nat) : Int) + 0 < ((qs.length : Nat) : Int) + 0
  exact ⟨fun _ => by omega, fun _ => rfl⟩
theorem tj_hid {E : Env} {b : Nat} (hlo : E.lo = b) (hf : Pl E) : ∀ b' ∈ [b], ∀ t, (symSig E).hn 0 t = false → (symSig E).hid b' t = false := fun b' hb t h => by
 obtain rfl := List.mem_singleton.1 hb
 exact (symSig E).new 0 _ _ (by show E.lo ≤ b'; rw [hlo]; exact Nat.le_refl _) h
theorem tab_any (k : Bool) (w : World) {qs rs : List Rat} {x : Rat} (hq : ∀ y ∈ qs, Fit y) (hr : ∀ y ∈ rs, Fit y) (hx : Fit x) (hl : qs.length ≤ 10000) (hlr : rs.length = qs.length) (hne : qs ≠ []) {c : Nat} (h6 : c ≤ qs.length) (hb : ∀ t, t < c → qs.getD t 0 < x) (ha : ∀ t, c ≤ t → t < qs.length → ¬ qs.getD t 0 < x)
  {v : Value} (hv : TabIn w v (cond k rs qs) (cond k qs rs)) (hG : Try.prog.globals.size ≤ w.heap.size) (hT : natSig.base w) :
  Calls Try.prog (taF k) ⟨[v, frV x]⟩ w fun e w' => ToRes (linAt qs rs x c) e ∧ Below w.heap.size w w' := by
 obtain ⟨b, s, u1, u2, rfl, hgb, hbb, hs, h1, h2⟩ := hv.un
 obtain ⟨g, y, hy, hg⟩ : ∃ (g : Bool) (y : Rat), Sm 4096 y ∧ linAt qs rs x c = cond g none (some y) := by
  cases h : linAt qs rs x c with
  | none => exact ⟨true, 0, fit00.sm.up (by decide), rfl⟩
  | some y => exact ⟨false, y, lin_sm hq hr hx h, rfl⟩
 obtain ⟨f, hf⟩ : ∃ b : Bool, b = true ↔ Fit y := by
  by_cases h : Fit y
  ·exact ⟨true, ⟨fun _ => h, fun _ => rfl⟩⟩
  ·exact ⟨false, ⟨fun q => (by cases q), fun q => absurd q h⟩⟩
 let E := tjEnv qs rs x 0 y hx fit00 hy b
 have hA : AllH E [] := fun z hz => by simp at hz
 have hB : AllX E taB := tj_B hne hl
 have hS : SumOK (symSig E) Try.prog (sumsOf (mkTab [toS g f])) := sumsOf_ok fun z hz => by
  obtain rfl := List.mem_singleton.1 hz
  exact toS_ok (ρ := E) hq hr hx hl hlr h6 hb ha hg hf
 have hbl : BlksAre (symSig E) w (taBl k) [b] := tab_bl k hbb hgb hs h1 h2 rfl (by cases k <;> simp [E, tjEnv, tjNat, hlr]) (by cases k <;> rfl) (by cases k <;> rfl)
 have hlt := (Array.getElem?_eq_some_iff.1 hbb).1
 refine (tellsB_calls (lsFits hA hB) hS (ta_runs k g f) (fun r ps qs vs us h1 h2 => h1.append (.cons (.agg h2) .nil)) (by cases k <;> kernel_rfl) glob_few hbl (frC_holds (ρ := E) (.v 8)) hG hT (tj_hid rfl rfl) (Nat.le_of_lt hlt) (.none rfl)).mono ?_
 rintro e w' ⟨v', rfl, h1, hbe⟩
 refine ⟨?_, hbe⟩
 rw [hg]
 cases g with
 | true =>
  obtain ⟨vs, rfl, a, l1, rfl, ⟨us, rfl, a1, m1, rfl, k1, a2, m2, rfl, k2, a3, m3, rfl, k3, rfl⟩, u2, l2, rfl, h2, rfl⟩ := h1
  have k1' : a1 = .bool false := k1
  have k2' : a2 = .string ⟨#[]⟩ := k2
  have k3' : a3 = .string ⟨#[]⟩ := k3
  have h2' : u2 = .int .i64 130 := h2
  subst k1' k2' k3' h2'
  rfl
 | false =>
  cases f with
  | true =>
   obtain ⟨vs, rfl, a, l1, rfl, ⟨us, rfl, a1, m1, rfl, k1, a2, m2, rfl, k2, a3, m3, rfl, k3, rfl⟩, u2, l2, rfl, h2, rfl⟩ := h1
   have k1' : a1 = .bool (Big.ng y) := k1
   have k2' : a2 = .string (bst (Big.nu y)) := k2
   have k3' : a3 = .string (bst (Big.de y)) := k3
   have h2' : u2 = .int .i64 0 := h2
   subst k1' k2' k3' h2'
   exact .inl ⟨hf.1 rfl, rfl⟩
  | false =>
   obtain ⟨vs, rfl, a, l1, rfl, ⟨us, rfl, a1, m1, rfl, k1, a2, m2, rfl, k2, a3, m3, rfl, k3, rfl⟩, u2, l2, rfl, h2, rfl⟩ := h1
   have k1' : a1 = .bool false := k1
   have k2' : a2 = .string ⟨#[]⟩ := k2
   have k3' : a3 = .string ⟨#[]⟩ := k3
   have h2' : u2 = .int .i64 3 := h2
   subst k1' k2' k3' h2'
   exact .inr ⟨fun h => (by have := hf.2 h; cases this), rfl⟩
noncomputable def cuF : Nat := 10
noncomputable def cuMk (ps vs : List Value) : List Value := ps ++ [.agg ⟨vs.take 3⟩, .agg ⟨vs.drop 3⟩]
noncomputable def cuX : Qe := .sub (.v 9) (.v 105)
noncomputable def cuA (eq lt f : Bool) : List As := [⟨1, .v 9, z0, false⟩, ⟨3, .v 9, z0, false⟩, ⟨1, cuX, z0, eq⟩, ⟨3, cuX, z0, lt⟩, ⟨0, cuX, z0, f⟩]
noncomputable def cuRun (eq lt f : Bool) : Option (E3 Sy) := tellsB (taBl false) [.ng (.v 9), .fn (.v 9), .fd (.v 9), .ng (.v 8), .fn (.v 8), .fd (.v 8)] cuMk (call Try.prog (lsCfg false (cuA eq lt f) taB noJ) (sumsOf (mkTab (stS false :: ecmpS (cuA eq lt f) :: symList (cuA eq lt f)))) 30 cuF)
noncomputable def cuZ (n : Int) : E3 Sy := .tuple [.d (.agg [.p (.bool false), .p (.string ⟨#[]⟩), .p (.string ⟨#[]⟩)]), .d (.one (.p (.int .i64 n)))]
noncomputable def cuD (eq lt f : Bool) : E3 Sy := cond (eq || lt) (cuZ 10) (cond f (.tuple [.d (.agg [.f (.ng cuX), .f (.fn cuX), .f (.fd cuX)]), .d (.one (.p (.int .i64 0)))]) (cuZ 3))
set_option maxHeartbeats 4000000 in
theorem cu_runs (eq lt f : Bool) (h : (eq && lt) = false) : cuRun eq lt f = some (cuD eq lt f) := by cases eq <;> cases lt <;> cases f <;> first | (cases h; done) | kernel_rfl
end Ev
end Go.Proofs.Ytnlhjcfpfapafaa
