/- Contracts, in this order: gauss.Power: its calls, and its run. · diapasonlaw02.GaussLaws, run over all that may come. · diapasonlaw02.GaussLaws, run over all numbers that may be. · diapasonlaw02.GaussLaws answers true. · diapasonlaw02.GaussNorms, run over all that may come. · gauss.Power: its calls answer so. -/
import Derived.Test.YthjofdfnppadnaaGreatDoorZp22
namespace Go.Proofs.YthjofdfnppadnaaGreatDoor
open Go Go.RowKit
namespace Ev
set_option maxRecDepth 100000
noncomputable def newAgg (l : List Pw) : M Pw Value := bind (newFacts l) fun vs => ret (.agg ⟨vs⟩)
noncomputable def newAggT (l : List Pw) (u : Value) : M Pw Value := bind (newFacts l) fun vs => ret (.tuple ⟨[.agg ⟨vs⟩, u]⟩)
theorem loc_newAgg (l : List Pw) : Loc (newAgg l) := loc_bind (loc_newFacts _) fun _ => loc_ret _
theorem loc_newAggT (l : List Pw) (u : Value) : Loc (newAggT l u) := loc_bind (loc_newFacts _) fun _ => loc_ret _
noncomputable def pOf (a b : Value) : M Pw Value := cond (isI a 1 && isI b 0) (newAgg (frcs 0)) fail
noncomputable def pRead (neg : Bool) (a : Value) : M Pw Value := kFracs a fun k => cond (Nat.beq k 0 || Nat.beq k (zi neg)) (newAggT (prts k) (.bool true)) fail
noncomputable def pNought (neg : Bool) (a : Value) : M Pw Value := kParts a fun k => cond (Nat.beq k 100 && neg) (ret (.bool false)) fail
noncomputable def pQuo (neg : Bool) (a b : Value) : M Pw Value := kParts a fun k => kParts b fun j => cond (neg && (Nat.beq k 0 && Nat.beq j 100)) (newAgg (prts 1)) fail
noncomputable def lowB (J k : Nat) : Bool := Nat.ble (Nat.succ k) J && Nat.ble k 58
noncomputable def pMul (J : Nat) (a b : Value) : M Pw Value := kParts a fun k => kParts b fun j => cond (Nat.beq j 1 && lowB J k) (newAgg (prts (Nat.succ k))) fail
noncomputable def pSize (J : Nat) (a : Value) : M Pw Value := kNum a fun k i => cond (Nat.ble 1 k && (Nat.ble k J && Nat.ble k 58)) (newFact (.sz k i)) fail
noncomputable def pAns (J n : Nat) (fit : Bool) (a : Value) : M Pw Value := kParts a fun k => cond (Nat.beq k n && lowB J k) (cond fit (newAggT (frcs k) (.int .i64 0)) (ret (.tuple ⟨[.agg ⟨zero6⟩, .int .i64 3]⟩))) fail
noncomputable def one1 (k : Value → M Pw Value) (args : List Value) : Option (M Pw Value) := match args with
  | [a] => some (k a)
  | _ => none
noncomputable def two2 (k : Value → Value → M Pw Value) (args : List Value) : Option (M Pw Value) := match args with
  | [a, b] => some (k a b)
  | _ => none
noncomputable def pList (neg : Bool) (J n : Nat) (fit : Bool) : List (Nat × (List Value → Option (M Pw Value))) := [
  (32, two2 pOf),
  (91, one1 (pRead neg)),
  (89, one1 (pNought neg)),
  (90, two2 (pQuo neg)),
  (92, two2 (pMul J)),
  (157, one1 (pSize J)),
  (94, one1 (pAns J n fit))]
noncomputable def pCfg (J : Nat) (stop : Bool) : Cfg Pw where
  hid := natCfg.hid
  G := natCfg.G
  tab := natCfg.tab
  len := fun _ => none
  hard := pHard J stop
instance pHardI (J : Nat) (stop : Bool) : HardLoc (pCfg J stop) := ⟨loc_pHard J stop⟩
noncomputable def powI (neg : Bool) (n : Nat) : Int := cond neg (Int.neg (Int.ofNat n)) (Int.ofNat n)
noncomputable def pRun (neg : Bool) (n J : Nat) (stop fit : Bool) : Option (D3 Pw) := tells (frcs (zi neg)) [.agg 6, .p (.int .i64 (powI neg n))] (call Tryz.prog (pCfg J stop) (sumsOf (mkTab (pList neg J n fit))) 60 34)
noncomputable def okP (n : Nat) : D3 Pw := .tuple [.agg ((frcs n).map .f), .one (.p (.int .i64 0))]
noncomputable def noP (e : Int) : D3 Pw := .tuple [.agg (zero6.map .p), .one (.p (.int .i64 e))]
end Ev
end Go.Proofs.YthjofdfnppadnaaGreatDoor
namespace Go.Proofs.YthjofdfnppadnaaGreatDoor
open Go Go.RowKit
namespace Ev
set_option maxRecDepth 100000
noncomputable def lawC (A : List As) : Cfg Sy := symCfg (eqHard A)
instance lawHard (A : List As) : HardLoc (lawC A) := ⟨loc_eqHard A⟩
noncomputable def inp6 (a b c d e f : Bool) : List Sy := inp a 0 ++ (inp b 1 ++ (inp c 2 ++ (inp d 3 ++ (inp e 4 ++ inp f 5))))
noncomputable def eqs (l : List (Qe × Qe)) : List As := l.map fun p => ⟨2, p.1, p.2, true⟩
theorem eqs_hold {ρ : Env} {l : List (Qe × Qe)} (h : ∀ p ∈ l, p.1.ev ρ.q = p.2.ev ρ.q) : AllH ρ (eqs l) := by
  intro x hx
  obtain ⟨p, hp, rfl⟩ := List.mem_map.1 hx
  exact ⟨fun _ => h p hp, fun _ => rfl⟩
noncomputable def yes : D3 Sy := .one (.one (.p (.bool true)))
noncomputable def lx : Qe × Qe := (.v 0, .v 1)
noncomputable def ly : Qe × Qe := (.v 2, .v 3)
noncomputable def lz : Qe × Qe := (.v 4, .v 5)
noncomputable def pr (p : Qe × Qe) (t : Bool) : Ps := ⟨p.1, p.2, t⟩
noncomputable def la : Qe × Qe := kAdd lx ly
noncomputable def lb : Qe × Qe := kAdd ly lx
noncomputable def lc : Qe × Qe := kMul lx ly
noncomputable def ld : Qe × Qe := kMul ly lx
noncomputable def lq : Qe × Qe := kAdd ly lz
noncomputable def lr : Qe × Qe := kAdd lx lq
noncomputable def ls : Qe × Qe := kMul la lz
noncomputable def lt : Qe × Qe := kMul lx lz
noncomputable def lu : Qe × Qe := kMul ly lz
noncomputable def lv : Qe × Qe := kAdd lt lu
noncomputable def lk : Qe × Qe := kSub la ly
noncomputable def lB (s t : Bool) : List Ps := [pr la s, pr lb s, pr lc t, pr ld t]
end Ev
end Go.Proofs.YthjofdfnppadnaaGreatDoor
namespace Go.Proofs.YthjofdfnppadnaaGreatDoor
open Go Go.RowKit
namespace Ev
set_option maxRecDepth 100000
end Ev
end Go.Proofs.YthjofdfnppadnaaGreatDoor
namespace Go.Proofs.YthjofdfnppadnaaGreatDoor
open Go Go.RowKit
namespace Ev
structure In6 (x y z u s t : Tri) where
  ρ : Env
  a : Bool
  b : Bool
  c : Bool
  d : Bool
  e : Bool
  f : Bool
  hx : (a = true → x = tri (ρ.q 0)) ∧ (a = false → x = ρ.raw 0)
  hy : (b = true → y = tri (ρ.q 1)) ∧ (b = false → y = ρ.raw 1)
  hz : (c = true → z = tri (ρ.q 2)) ∧ (c = false → z = ρ.raw 2)
  hu : (d = true → u = tri (ρ.q 3)) ∧ (d = false → u = ρ.raw 3)
  hs : (e = true → s = tri (ρ.q 4)) ∧ (e = false → s = ρ.raw 4)
  ht : (f = true → t = tri (ρ.q 5)) ∧ (f = false → t = ρ.raw 5)
theorem In6.holds {x y z u s t : Tri} (i : In6 x y z u s t) (w : World) : HoldsL (symSig i.ρ) w (inp6 i.a i.b i.c i.d i.e i.f) (cel x ++ (cel y ++ (cel z ++ (cel u ++ (cel s ++ cel t))))) :=
  holdsL_append (inp_holds i.hx.1 i.hx.2) (holdsL_append (inp_holds i.hy.1 i.hy.2) (holdsL_append (inp_holds i.hz.1 i.hz.2) (holdsL_append (inp_holds i.hu.1 i.hu.2) (holdsL_append (inp_holds i.hs.1 i.hs.2) (inp_holds i.ht.1 i.ht.2)))))
end Ev
end Go.Proofs.YthjofdfnppadnaaGreatDoor
namespace Go.Proofs.YthjofdfnppadnaaGreatDoor
open Go Go.RowKit
namespace Ev
set_option maxRecDepth 100000
section
variable {ρ : Env} {A : List As} {B : List Ps} {h h' : Tr (Blk Sy)} {nx nx' : Nat} {R W : List Nat} {r : Ren} {w : World}
end
noncomputable def of00 : Fact := ⟨32, [.int .i64 0, .int .i64 0], .agg ⟨[.bool false, .string ⟨⟨[]⟩⟩, .string ⟨⟨[1]⟩⟩, .bool false, .string ⟨⟨[]⟩⟩, .string ⟨⟨[1]⟩⟩]⟩⟩
theorem of00_ok : of00.ok := Fact.of_run (n := 100) (by kernel_rfl) rfl
noncomputable def c0 : Qe := .c false 0 1
noncomputable def np : Qe × Qe := kMul lx ly
noncomputable def nm : Qe := nrm lx
noncomputable def nn : Qe := nrm ly
noncomputable def no : Qe := nrm np
noncomputable def nc : Qe × Qe := (.v 0, .neg (.v 1))
noncomputable def nq : Qe × Qe := kMul lx nc
noncomputable def nb : Qe × Qe := kQuo np ly
end Ev
end Go.Proofs.YthjofdfnppadnaaGreatDoor
namespace Go.Proofs.YthjofdfnppadnaaGreatDoor
open Go Go.RowKit
namespace Ev
set_option maxRecDepth 100000
theorem one1_ok {g : Pe} {f : FuncId} {k : Value → M Pw Value} (hl : ∀ a, Loc (k a)) (hk : ∀ a a' h nx v h' nx' R W, k a h nx = .ok v h' nx' R W → ∀ (r : Ren) (w : World), VR r a a' → Mod (pSig g) r h.get w → New r nx nx' →
    Calls Tryz.prog f ⟨[a']⟩ w fun e w' => ∃ v' r', e = .returned v' ∧ VR r' v v' ∧ Ext (pSig g) r w nx nx' W h'.get r' w') : SumF (pSig g) Tryz.prog f (one1 k) := by
  intro args m e
  unfold one1 at e
  rcases args with _ | ⟨a, _ | ⟨b, l⟩⟩ <;> simp only [reduceCtorEq, Option.some.injEq] at e
  subst e
  refine ⟨hl a, ?_⟩
  intro h nx v h' nx' R W e r w args' ha hM hN
  cases ha with
  | cons h1 h2 => cases h2; exact hk _ _ _ _ _ _ _ _ _ e r w h1 hM hN
theorem two2_ok {g : Pe} {f : FuncId} {k : Value → Value → M Pw Value} (hl : ∀ a b, Loc (k a b)) (hk : ∀ a b a' b' h nx v h' nx' R W, k a b h nx = .ok v h' nx' R W → ∀ (r : Ren) (w : World), VR r a a' → VR r b b' → Mod (pSig g) r h.get w → New r nx nx' →
    Calls Tryz.prog f ⟨[a', b']⟩ w fun e w' => ∃ v' r', e = .returned v' ∧ VR r' v v' ∧ Ext (pSig g) r w nx nx' W h'.get r' w') : SumF (pSig g) Tryz.prog f (two2 k) := by
  intro args m e
  unfold two2 at e
  rcases args with _ | ⟨a, _ | ⟨b, _ | ⟨c, l⟩⟩⟩ <;> simp only [reduceCtorEq, Option.some.injEq] at e
  subst e
  refine ⟨hl a b, ?_⟩
  intro h nx v h' nx' R W e r w args' ha hM hN
  cases ha with
  | cons h1 h2 => cases h2 with
    | cons h2 h3 => cases h3; exact hk _ _ _ _ _ _ _ _ _ _ _ e r w h1 h2 hM hN
section
variable {g : Pe}
theorem pG {h : Tr (Blk Pw)} {r : Ren} {w : World} (hM : Mod (pSig g) r h.get w) : Tryz.prog.globals.size ≤ w.heap.size := mod_G hM (show (pSig g).G = Tryz.prog.globals.size from rfl)
theorem prts_holds {k : Nat} {w : World} {v : Value} (h : CxIn w v (g.P k)) : ∃ us, v = .agg ⟨us⟩ ∧ HoldsL (pSig g) w (prts k) us := by
  obtain ⟨a, b, c, d, rfl, h1, h2, h3, h4⟩ := h
  exact ⟨_, rfl, _, _, rfl, rfl, rfl, _, _, rfl, h1, nat_one h1, _, _, rfl, h2, nat_one h2, _, _, rfl, rfl, rfl, _, _, rfl, h3, nat_one h3, _, _, rfl, h4, nat_one h4, rfl⟩
theorem frcs_holds (k : Nat) (w : World) : HoldsL (pSig g) w (frcs k) (cel (tri (g.P k).1) ++ cel (tri (g.P k).2)) :=
  ⟨_, _, rfl, rfl, rfl, _, _, rfl, rfl, rfl, _, _, rfl, rfl, rfl, _, _, rfl, rfl, rfl, _, _, rfl, rfl, rfl, _, _, rfl, rfl, rfl, rfl⟩
theorem sm_low {p : Rat × Rat} (h : szP p ≤ 2048) : SmP 4096 p := by
  unfold szP szQ at h
  exact ⟨⟨(Sz.bytes8 (k := 256) (by omega)).up (by decide), (Sz.bytes8 (k := 256) (by omega)).up (by decide)⟩, (Sz.bytes8 (k := 256) (by omega)).up (by decide), (Sz.bytes8 (k := 256) (by omega)).up (by decide)⟩
theorem Pe.sm (g : Pe) {k : Nat} (h : lowB g.J k = true) : SmP 4096 (g.P k) ∧ k < 59 := by
  unfold lowB at h
  simp only [Bool.and_eq_true] at h
  have h1 := Nat.le_of_ble_eq_true h.1
  have h2 := Nat.le_of_ble_eq_true h.2
  exact ⟨sm_low (g.low k h1 (by omega)), by omega⟩
theorem goes_cx {k : Nat} {f : FuncId} {args' : List Value} {h h' : Tr (Blk Pw)} {nx nx' : Nat} {R W : List Nat} {r : Ren} {w : World} {v : Value} (he : newAgg (prts k) h nx = .ok v h' nx' R W) (hM : Mod (pSig g) r h.get w) (hN : New r nx nx') (c : Calls Tryz.prog f ⟨args'⟩ w (CxRes w (g.P k))) :
    Calls Tryz.prog f ⟨args'⟩ w fun e w' => ∃ v' r', e = .returned v' ∧ VR r' v v' ∧ Ext (pSig g) r w nx nx' W h'.get r' w' :=
  goes_agg he hM hN (c.mono fun _ w' ⟨v', h1, h2, h3⟩ => by
    obtain ⟨us, rfl, hu⟩ := prts_holds h2
    exact ⟨us, h1, hu, h3⟩)
noncomputable def of10 : Fact := ⟨32, [.int .i64 1, .int .i64 0], .agg ⟨[.bool false, .string ⟨⟨[1]⟩⟩, .string ⟨⟨[1]⟩⟩, .bool false, .string ⟨⟨[]⟩⟩, .string ⟨⟨[1]⟩⟩]⟩⟩
theorem of10_ok : of10.ok := Fact.of_run (n := 100) (by kernel_rfl) rfl
theorem p_of : SumF (pSig g) Tryz.prog 32 (two2 pOf) :=
  two2_ok (fun a b => loc_cond (loc_newAgg _) loc_fail) fun a b a' b' h nx v h' nx' R W e r w ha hb hM hN => by
    obtain ⟨hk, e2⟩ := cond_ok e
    simp only [Bool.and_eq_true] at hk
    have h1 := isI_ok hk.1
    have h2 := isI_ok hk.2
    subst h1; subst h2
    obtain rfl : a' = .int .i64 (1 : Nat) := ha.eq_of_plain rfl
    obtain rfl : b' = .int .i64 (0 : Nat) := hb.eq_of_plain rfl
    refine goes_agg e2 hM hN ((of10_ok.2.2 w (pG hM) hM.base).mono fun _ w' ⟨k1, k2⟩ => ?_)
    refine ⟨_, k1, ?_, k2⟩
    have := frcs_holds (g := g) 0 w'
    rw [g.one] at this
    exact this
theorem p_read : SumF (pSig g) Tryz.prog 91 (one1 (pRead g.neg)) :=
  one1_ok (fun a => loc_kFracs fun k => loc_cond (loc_newAggT _ _) loc_fail) fun a a' h nx v h' nx' R W e r w ha hM hN => by
    obtain ⟨k, R2, rfl, e2⟩ := kFracs_ok e ha hM
    obtain ⟨hk, e3⟩ := cond_ok e2
    simp only [Bool.or_eq_true] at hk
    have hf : FitP (g.P k) := by
      rcases hk with hk | hk
      · rw [Nat.eq_of_beq_eq_true hk, g.one]; exact ⟨⟨by decide, by decide⟩, ⟨by decide, by decide⟩⟩
      · rw [Nat.eq_of_beq_eq_true hk]; exact g.zfit
    exact goes_aggT rfl e3 hM hN ((cx_read w hf.1 hf.2 (pG hM) hM.base).mono fun _ w' ⟨v', k1, k2, k3⟩ => by
      obtain ⟨us, rfl, hu⟩ := prts_holds (g := g) (k := k) k2
      exact ⟨us, k1, hu, k3⟩)
theorem p_nought : SumF (pSig g) Tryz.prog 89 (one1 (pNought g.neg)) :=
  one1_ok (fun a => loc_kParts fun k => loc_cond (loc_ret _) loc_fail) fun a a' h nx v h' nx' R W e r w ha hM hN => by
    obtain ⟨k, R2, hc, e2⟩ := kParts_ok e ha hM
    obtain ⟨hk, e3⟩ := cond_ok e2
    simp only [Bool.and_eq_true] at hk
    have hk1 := Nat.eq_of_beq_eq_true hk.1
    subst hk1
    have hz : FitP (g.P 100) := by
      have := g.zfit
      rw [hk.2] at this
      exact this
    have c := cx_nought w a' _ hz hc (pG hM) hM.base
    rw [show decide ((g.P 100).1 = 0 ∧ (g.P 100).2 = 0) = false from decide_eq_false (g.quo hk.2).2] at c
    exact goes_pl e3 rfl hM c
theorem p_quo : SumF (pSig g) Tryz.prog 90 (two2 (pQuo g.neg)) :=
  two2_ok (fun a b => loc_kParts fun k => loc_kParts fun j => loc_cond (loc_newAgg _) loc_fail) fun a b a' b' h nx v h' nx' R W e r w ha hb hM hN => by
    obtain ⟨k, R2, hc, e2⟩ := kParts_ok e ha hM
    obtain ⟨j, R3, hd, e3⟩ := kParts_ok e2 hb hM
    obtain ⟨hk, e4⟩ := cond_ok e3
    simp only [Bool.and_eq_true] at hk
    obtain ⟨h0, h1, h2⟩ := hk
    have h1 := Nat.eq_of_beq_eq_true h1
    have h2 := Nat.eq_of_beq_eq_true h2
    subst h1; subst h2
    have hz : FitP (g.P 100) := by
      have := g.zfit
      rw [h0] at this
      exact this
    refine goes_cx e4 hM hN ?_
    rw [(g.quo h0).1]
    exact cx_quo w a' b' _ _ (by rw [g.one]; exact ⟨(Fit.sm ⟨by decide, by decide⟩).up (by decide), fit_zero.sm.up (by decide)⟩) ⟨hz.1.sm.up (by decide), hz.2.sm.up (by decide)⟩ (g.quo h0).2 hc hd (pG hM) hM.base
theorem p_mul : SumF (pSig g) Tryz.prog 92 (two2 (pMul g.J)) :=
  two2_ok (fun a b => loc_kParts fun k => loc_kParts fun j => loc_cond (loc_newAgg _) loc_fail) fun a b a' b' h nx v h' nx' R W e r w ha hb hM hN => by
    obtain ⟨k, R2, hc, e2⟩ := kParts_ok e ha hM
    obtain ⟨j, R3, hd, e3⟩ := kParts_ok e2 hb hM
    obtain ⟨hk, e4⟩ := cond_ok e3
    simp only [Bool.and_eq_true] at hk
    have h1 := Nat.eq_of_beq_eq_true hk.1
    subst h1
    obtain ⟨s, hl⟩ := g.sm hk.2
    refine goes_cx e4 hM hN ?_
    rw [show g.P (Nat.succ k) = _ from g.step k (by omega)]
    exact cx_mul w a' b' _ _ s g.sm1 hc hd (pG hM) hM.base
theorem sm_cMul {p q : Rat × Rat} (hp : SmP 4096 p) (hq : SmP 4096 q) : SmP 40000 (cMul p q) :=
  ⟨(sm_sub (hp.1.mul hq.1) (hp.2.mul hq.2)).up (by decide), ((hp.1.mul hq.2).add (hp.2.mul hq.1)).up (by decide)⟩
theorem p_size : SumF (pSig g) Tryz.prog 157 (one1 (pSize g.J)) :=
  one1_ok (fun a => loc_kNum fun k i => loc_cond (loc_newFact _) loc_fail) fun a a' h nx v h' nx' R W e r w ha hM hN => by
    obtain ⟨k, i, R2, hn, e2⟩ := kNum_ok e ha hM
    obtain ⟨hk, e3⟩ := cond_ok e2
    simp only [Bool.and_eq_true] at hk
    obtain ⟨k1, k2, k3⟩ := hk
    have k1 := Nat.le_of_ble_eq_true k1
    have k2 := Nat.le_of_ble_eq_true k2
    have k3 := Nat.le_of_ble_eq_true k3
    obtain ⟨j, rfl⟩ : ∃ j, k = j + 1 := ⟨k - 1, by omega⟩
    have hs : SmP 40000 (g.P (j + 1)) := by
      rw [g.step j (by omega)]
      exact sm_cMul (sm_low (g.low j (by omega) (by omega))) g.sm1
    have hs' : Sm 40000 (cp (g.P (j + 1)) i) := by cases i; exact hs.1; exact hs.2
    obtain ⟨x, h1, nx1, R1, W1, R3, W3, e4, e5, rfl, rfl⟩ := bind_ok e3
    obtain ⟨rfl, rfl, rfl, rfl⟩ := ret_ok e5
    unfold fresh at e4
    cases e4
    refine (exSize_any w a' _ _ hn hs' (by omega)).mono ?_
    rintro en w' ⟨rfl, hb⟩
    obtain ⟨r', hX, hr⟩ := ext_fact (S := pSig g) (f := .sz (j + 1) i) hM hb hN (v' := .int .i64 (szQ (cp (g.P (j + 1)) i) : Nat)) rfl rfl
    exact ⟨_, r', rfl, .opq hr rfl, by simpa using hX.congr fun n => .inr (Tr.get_set _ _ _ _)⟩
theorem p_ans : SumF (pSig g) Tryz.prog 94 (one1 (pAns g.J g.n g.fit)) :=
  one1_ok (fun a => loc_kParts fun k => loc_cond (loc_cond (loc_newAggT _ _) (loc_ret _)) loc_fail) fun a a' h nx v h' nx' R W e r w ha hM hN => by
    obtain ⟨k, R2, hc, e2⟩ := kParts_ok e ha hM
    obtain ⟨hk, e3⟩ := cond_ok e2
    simp only [Bool.and_eq_true] at hk
    have h1 := Nat.eq_of_beq_eq_true hk.1
    subst h1
    obtain ⟨s, hl⟩ := g.sm hk.2
    have c := cx_answer w a' _ s hc (pG hM) hM.base
    cases hfit : g.fit with
    | true =>
      rw [hfit] at e3
      exact goes_aggT rfl (show (bind (newFacts (frcs g.n)) fun vs => ret (.tuple ⟨[.agg ⟨vs⟩, .int .i64 0]⟩) : M Pw Value) h nx = _ from e3) hM hN (c.mono fun _ w' ⟨k1, k2⟩ => by
        rcases k1 with ⟨_, k1⟩ | ⟨k1, _⟩
        · exact ⟨_, k1, frcs_holds g.n w', k2⟩
        · exact absurd (g.last.1 hfit) k1)
    | false =>
      rw [hfit] at e3
      exact goes_pl e3 rfl hM (c.mono fun _ w' ⟨k1, k2⟩ => by
        rcases k1 with ⟨k1, _⟩ | ⟨_, k1⟩
        · have := g.last.2 k1; rw [hfit] at this; cases this
        · exact ⟨k1, k2⟩)
theorem pList_ok : SumOK (pSig g) Tryz.prog (sumsOf (mkTab (pList g.neg g.J g.n g.fit))) := sumsOf_ok fun x hx => by
  simp only [pList, List.mem_cons, List.not_mem_nil, or_false] at hx
  rcases hx with rfl | rfl | rfl | rfl | rfl | rfl | rfl
  · exact p_of
  · exact p_read
  · exact p_nought
  · exact p_quo
  · exact p_mul
  · exact p_size
  · exact p_ans
theorem pFits : Fits (pSig g) Tryz.prog (pCfg g.J g.stop) where
  hid := rfl
  G := rfl
  len := fun f n w v h e => by cases e
  tab := natFits.tab
  mixed := natFits.mixed
  hard := pHard_ok rfl
end
end Ev
end Go.Proofs.YthjofdfnppadnaaGreatDoor
