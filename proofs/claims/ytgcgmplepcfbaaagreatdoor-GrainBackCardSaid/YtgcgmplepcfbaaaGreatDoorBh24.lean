/- Contracts, in this order: diapasonlaw03.GrainBack: what its calls answer. · The row's last steps: a call that only makes new memory; the laid table. · What the listed variables give; the start that meets them. · The plain wrap with the listed variables and the world's shape. · What the five listed variables give; the start that meets them. · The five listed variables of the statements of diapasonlaw02 (and three of diapasonlaw01's): what they give; a world's size. -/
import Derived.Test.YtgcgmplepcfbaaaGreatDoorBh23
import Derived.Test.YtgcgmplepcfbaaaGreatDoorRows
import Derived.Test.YtgcgmplepcfbaaaGreatDoorBh19
import Derived.WalkKit
import Derived.ProofKit
import Derived.OpenShut
import Derived.ChangeSame
import Derived.ChangeVars
import Derived.JoinedOf
import Derived.LaidMore
import Derived.Lib.LaidTab
import Derived.Stop.Joined
import Derived.SizedLaws
import Derived.HandedShaped
import Derived.Shelf.Vars
import Derived.Test.YtgcgmplepcfbaaaGreatDoorBh14
import Derived.Lay
/- diapasonlaw03.GrainBack: what its calls answer. -/
namespace Go.Proofs.YtgcgmplepcfbaaaGreatDoor
open Go Go.RowKit Ieee Fl
namespace Ev

noncomputable def isFl (k : Nat) : Gy → Bool | .fl i => Nat.beq i k | _ => false
noncomputable def isTx : Gy → Bool | .tx => true | _ => false
noncomputable def isSm : Gy → Bool | .sm => true | _ => false
noncomputable def isNg : Gy → Bool | .ng => true | _ => false
noncomputable def isNu : Gy → Bool | .nu => true | _ => false
noncomputable def isDe : Gy → Bool | .de => true | _ => false
noncomputable def isFn : Gy → Bool | .fn => true | _ => false
noncomputable def isFd : Gy → Bool | .fd => true | _ => false
/-- One of these is known of it. -/
noncomputable def kn (g : Gy → Bool) (v : Value) (k : M Gy Value) : M Gy Value := bind (fact v) fun f => cond (g f) k fail
noncomputable def kn3 (g1 g2 g3 : Gy → Bool) (v : Value) (k : M Gy Value) : M Gy Value := match v with
  | .agg cs => match cs.toList with
    | [a, b, c] => kn g1 a (kn g2 b (kn g3 c k))
    | _ => fail
  | _ => fail
theorem loc_kn {g : Gy → Bool} {v : Value} {k : M Gy Value} (hk : Loc k) : Loc (kn g v k) := loc_bind (loc_fact v) fun _ => loc_cond hk loc_fail
theorem loc_kn3 {g1 g2 g3 : Gy → Bool} {v : Value} {k : M Gy Value} (hk : Loc k) : Loc (kn3 g1 g2 g3 v k) := by
  unfold kn3
  (repeat' split) <;> first | exact loc_fail | exact loc_kn (loc_kn (loc_kn hk))
section
variable {g : Gn} {h h' : Tr (Blk Gy)} {nx nx' : Nat} {R W : List Nat} {r : Ren} {w : World} {v v' x : Value}
theorem kn_ok {p : Gy → Bool} {k : M Gy Value} (e : kn p v k h nx = .ok x h' nx' R W) (hv : VR r v v') (hM : Mod (gSig g) r h.get w) : ∃ f R2, p f = true ∧ f.holds g w v' ∧ k h nx = .ok x h' nx' R2 W := by
  obtain ⟨f, h1, nx1, R1, W1, R2, W2, e1, e2, rfl, rfl⟩ := bind_ok e
  obtain ⟨rfl, rfl, rfl, hh⟩ := fact_ok e1 hv hM
  obtain ⟨hp, e3⟩ := cond_ok e2
  exact ⟨f, R2, hp, hh, by simpa using e3⟩
theorem fl_of {k : Nat} {f : Gy} (hp : isFl k f = true) (hh : f.holds g w v') : v' = .float .f64 (g.F k) := by
  cases f with
  | fl i =>
    have hi : i = k := Nat.eq_of_beq_eq_true hp
    subst hi; exact hh
  | _ => cases hp
theorem kn3_num {k : M Gy Value} (e : kn3 isNg isNu isDe v k h nx = .ok x h' nx' R W) (hv : VR r v v') (hM : Mod (gSig g) r h.get w) : ∃ R2, NumIn w v' (worth g.x) ∧ k h nx = .ok x h' nx' R2 W := by
  unfold kn3 at e
  cases v with
  | agg cs =>
    obtain ⟨l⟩ := cs
    obtain ⟨l', rfl, hl⟩ := vr_agg hv
    simp only at e
    rcases l with _ | ⟨a, _ | ⟨b, _ | ⟨c, _ | ⟨d, l⟩⟩⟩⟩ <;> first | (cases (show (fail : M Gy Value) h nx = _ from e); done) | skip
    cases hl with
    | cons ha hl => cases hl with
      | cons hb hl => cases hl with
        | cons hc hl =>
          cases hl
          obtain ⟨f1, R1, p1, q1, e1⟩ := kn_ok e ha hM
          obtain ⟨f2, R2, p2, q2, e2⟩ := kn_ok e1 hb hM
          obtain ⟨f3, R3, p3, q3, e3⟩ := kn_ok e2 hc hM
          cases f1 <;> first | (cases p1; done) | skip
          cases f2 <;> first | (cases p2; done) | skip
          cases f3 <;> first | (cases p3; done) | skip
          refine ⟨R3, ⟨_, _, ?_, q2, q3⟩, e3⟩
          rw [show (_ : Value) = _ from q1]
  | _ => cases (show (fail : M Gy Value) h nx = _ from e)
theorem kn3_frac {k : M Gy Value} (e : kn3 isNg isFn isFd v k h nx = .ok x h' nx' R W) (hv : VR r v v') (hM : Mod (gSig g) r h.get w) : ∃ R2, v' = fracV (worth g.x) ∧ k h nx = .ok x h' nx' R2 W := by
  unfold kn3 at e
  cases v with
  | agg cs =>
    obtain ⟨l⟩ := cs
    obtain ⟨l', rfl, hl⟩ := vr_agg hv
    simp only at e
    rcases l with _ | ⟨a, _ | ⟨b, _ | ⟨c, _ | ⟨d, l⟩⟩⟩⟩ <;> first | (cases (show (fail : M Gy Value) h nx = _ from e); done) | skip
    cases hl with
    | cons ha hl => cases hl with
      | cons hb hl => cases hl with
        | cons hc hl =>
          cases hl
          obtain ⟨f1, R1, p1, q1, e1⟩ := kn_ok e ha hM
          obtain ⟨f2, R2, p2, q2, e2⟩ := kn_ok e1 hb hM
          obtain ⟨f3, R3, p3, q3, e3⟩ := kn_ok e2 hc hM
          cases f1 <;> first | (cases p1; done) | skip
          cases f2 <;> first | (cases p2; done) | skip
          cases f3 <;> first | (cases p3; done) | skip
          refine ⟨R3, ?_, e3⟩
          rw [show (_ : Value) = _ from q1, show (_ : Value) = _ from q2, show (_ : Value) = _ from q3]
          rfl
  | _ => cases (show (fail : M Gy Value) h nx = _ from e)
/-- A value of which this is known, and a plain one behind it. -/
theorem goes_f1 {S : Sig Gy} {P : Program} {f : Gy} {u : Value} {fid : FuncId} {args' : List Value} (hp : plain u = true) (e : (bind (newFact f) fun x => ret (.tuple ⟨[x, u]⟩) : M Gy Value) h nx = .ok v h' nx' R W) (hM : Mod S r h.get w) (hN : New r nx nx')
    (c : Calls P fid ⟨args'⟩ w fun e w' => ∃ v', e = .returned (.tuple ⟨[v', u]⟩) ∧ S.holds f w' v' ∧ isOne v' = true ∧ Below w.heap.size w w') : Calls P fid ⟨args'⟩ w fun e w' => ∃ v' r', e = .returned v' ∧ VR r' v v' ∧ Ext S r w nx nx' W h'.get r' w' := by
  obtain ⟨x, h0, nx0, R0, W0, R3, W3, e0, e3, rfl, rfl⟩ := bind_ok e
  obtain ⟨rfl, rfl, rfl, rfl⟩ := ret_ok e3
  obtain ⟨i, h1, nx1, R1, W1, R2, W2, e1, e2, rfl, rfl⟩ := bind_ok e0
  obtain ⟨rfl, rfl, rfl, rfl⟩ := ret_ok e2
  unfold fresh at e1
  cases e1
  refine c.mono ?_
  rintro en w' ⟨v', rfl, hv, ho, hb⟩
  obtain ⟨r', hX, hr⟩ := ext_fact (S := S) (f := f) hM hb hN hv ho
  exact ⟨.tuple ⟨[v', u]⟩, r', rfl, .tuple (.cons (.opq hr ho) (.cons (.same hp) .nil)), by simpa using hX.congr fun n => .inr (Tr.get_set _ _ _ _)⟩
/-- A value of which this is known. -/
theorem goes_f {S : Sig Gy} {P : Program} {f : Gy} {fid : FuncId} {args' : List Value} (e : (newFact f : M Gy Value) h nx = .ok v h' nx' R W) (hM : Mod S r h.get w) (hN : New r nx nx')
    (c : Calls P fid ⟨args'⟩ w fun e w' => ∃ v', e = .returned v' ∧ S.holds f w' v' ∧ isOne v' = true ∧ Below w.heap.size w w') : Calls P fid ⟨args'⟩ w fun e w' => ∃ v' r', e = .returned v' ∧ VR r' v v' ∧ Ext S r w nx nx' W h'.get r' w' := by
  obtain ⟨i, h1, nx1, R1, W1, R2, W2, e1, e2, rfl, rfl⟩ := bind_ok e
  obtain ⟨rfl, rfl, rfl, rfl⟩ := ret_ok e2
  unfold fresh at e1
  cases e1
  refine c.mono ?_
  rintro en w' ⟨v', rfl, hv, ho, hb⟩
  obtain ⟨r', hX, hr⟩ := ext_fact (S := S) (f := f) hM hb hN hv ho
  exact ⟨v', r', rfl, .opq hr ho, by simpa using hX.congr fun n => .inr (Tr.get_set _ _ _ _)⟩
end
noncomputable def arg1 (k : Value → M Gy Value) (args : List Value) : Option (M Gy Value) := match args with
  | [a] => some (k a)
  | _ => none
noncomputable def arg2 (k : Value → Value → M Gy Value) (args : List Value) : Option (M Gy Value) := match args with
  | [a, b] => some (k a b)
  | _ => none
def SumG (g : Gn) (f : FuncId) (s : List Value → Option (M Gy Value)) : Prop := SumF (gSig g) Tryz.prog f s
theorem arg1_ok {g : Gn} {f : FuncId} {k : Value → M Gy Value} (hl : ∀ a, Loc (k a)) (hk : ∀ a a' h nx v h' nx' R W, k a h nx = .ok v h' nx' R W → ∀ (r : Ren) (w : World), VR r a a' → Mod (gSig g) r h.get w → New r nx nx' →
    Calls Tryz.prog f ⟨[a']⟩ w fun e w' => ∃ v' r', e = .returned v' ∧ VR r' v v' ∧ Ext (gSig g) r w nx nx' W h'.get r' w') : SumG g f (arg1 k) := by
  intro args m e
  unfold arg1 at e
  rcases args with _ | ⟨a, _ | ⟨b, l⟩⟩ <;> simp only [reduceCtorEq, Option.some.injEq] at e
  subst e
  refine ⟨hl a, ?_⟩
  intro h nx v h' nx' R W e r w args' ha hM hN
  cases ha with
  | cons h1 h2 => cases h2; exact hk _ _ _ _ _ _ _ _ _ e r w h1 hM hN
theorem arg2_ok {g : Gn} {f : FuncId} {k : Value → Value → M Gy Value} (hl : ∀ a b, Loc (k a b)) (hk : ∀ a b a' b' h nx v h' nx' R W, k a b h nx = .ok v h' nx' R W → ∀ (r : Ren) (w : World), VR r a a' → VR r b b' → Mod (gSig g) r h.get w → New r nx nx' →
    Calls Tryz.prog f ⟨[a', b']⟩ w fun e w' => ∃ v' r', e = .returned v' ∧ VR r' v v' ∧ Ext (gSig g) r w nx nx' W h'.get r' w') : SumG g f (arg2 k) := by
  intro args m e
  unfold arg2 at e
  rcases args with _ | ⟨a, _ | ⟨b, _ | ⟨c, l⟩⟩⟩ <;> simp only [reduceCtorEq, Option.some.injEq] at e
  subst e
  refine ⟨hl a b, ?_⟩
  intro h nx v h' nx' R W e r w args' ha hM hN
  cases ha with
  | cons h1 h2 => cases h2 with
    | cons h2 h3 => cases h3; exact hk _ _ _ _ _ _ _ _ _ _ _ e r w h1 h2 hM hN
noncomputable def numG : M Gy Value := bind (newFacts [.ng, .nu, .de]) fun vs => ret (.tuple ⟨[.agg ⟨vs⟩, .bool true]⟩)
noncomputable def fracG : M Gy Value := bind (newFacts [.ng, .fn, .fd]) fun vs => ret (.tuple ⟨[.agg ⟨vs⟩, .bool true]⟩)
noncomputable def noneG : M Gy Value := ret (.tuple ⟨[.agg ⟨[.bool false, .slice none 0 0, .slice none 0 0]⟩, .bool false]⟩)
theorem loc_numG : Loc numG := loc_bind (loc_newFacts _) fun _ => loc_ret _
theorem loc_fracG : Loc fracG := loc_bind (loc_newFacts _) fun _ => loc_ret _
section
variable {g : Gn} {fin : Bool}
theorem numG_holds {w : World} {v' : Value} (h : NumIn w v' (worth g.x)) : ∃ us, v' = .agg ⟨us⟩ ∧ HoldsL (gSig g) w [.ng, .nu, .de] us := by
  obtain ⟨a, b, rfl, h1, h2⟩ := h
  exact ⟨[.bool (Big.ng (worth g.x)), a, b], rfl, _, _, rfl, rfl, rfl, _, _, rfl, h1, nat_one h1, _, _, rfl, h2, nat_one h2, rfl⟩
theorem g_text : SumG g 56 (arg1 fun a => kn (isFl 0) a (newFact .tx)) :=
  arg1_ok (fun a => loc_kn (loc_newFact _)) fun a a' h nx v h' nx' R W e r w ha hM hN => by
    obtain ⟨f, R2, p, q, e2⟩ := kn_ok e ha hM
    rw [fl_of p q]
    exact goes_f e2 hM hN ((ftext_any g.x64 w hM.base).mono fun _ _ ⟨h1, h2⟩ => ⟨_, h1, rfl, rfl, h2⟩)
theorem g_parse : SumG g 55 (arg1 fun a => kn isTx a (bind (newFact (.fl 1)) fun x => ret (.tuple ⟨[x, .int .i64 0]⟩))) :=
  arg1_ok (fun a => loc_kn (loc_bind (loc_newFact _) fun _ => loc_ret _)) fun a a' h nx v h' nx' R W e r w ha hM hN => by
    obtain ⟨f, R2, p, q, e2⟩ := kn_ok e ha hM
    cases f <;> first | (cases p; done) | skip
    obtain rfl : a' = .string (told g.x) := q
    exact goes_f1 rfl e2 hM hN ((parse_told g.x64 w hM.base).mono fun _ _ ⟨h1, h2⟩ => ⟨_, h1, rfl, rfl, h2⟩)
theorem g_same : SumG g 57 (arg2 fun a b => kn (isFl 0) a (kn (isFl 1) b (ret (.bool true)))) :=
  arg2_ok (fun a b => loc_kn (loc_kn (loc_ret _))) fun a b a' b' h nx v h' nx' R W e r w ha hb hM hN => by
    obtain ⟨f, R2, p, q, e2⟩ := kn_ok e ha hM
    obtain ⟨f2, R3, p2, q2, e3⟩ := kn_ok e2 hb hM
    rw [fl_of p q, fl_of p2 q2]
    exact goes_pl e3 rfl hM ((same_bo w).mono fun _ _ ⟨h1, h2⟩ => ⟨h1, h2 ▸ Below.refl _ _⟩)
theorem g_finite (hf : fin = true ↔ FinW g.x) : SumG g 59 (arg1 fun a => kn (isFl 0) a (ret (.bool fin))) :=
  arg1_ok (fun a => loc_kn (loc_ret _)) fun a a' h nx v h' nx' R W e r w ha hM hN => by
    obtain ⟨f, R2, p, q, e2⟩ := kn_ok e ha hM
    rw [fl_of p q]
    refine goes_pl e2 rfl hM (Calls.mono ?_ fun _ _ (hh : _ ∧ w = _) => ⟨hh.1, hh.2 ▸ Below.refl _ _⟩)
    cases fin with
    | true => exact fin_yes g.x64 (hf.1 rfl) w
    | false => exact fin_no g.x64 (fun h => (by have := hf.2 h; cases this)) w
theorem g_from0 (hf : fin = true ↔ FinW g.x) : SumG g 162 (arg1 fun a => bind (fact a) fun f => cond (isFl 0 f) (cond fin numG noneG) (cond (isFl 2 f && fin) numG fail)) :=
  arg1_ok (fun a => loc_bind (loc_fact _) fun f => loc_cond (loc_cond loc_numG (loc_ret _)) (loc_cond loc_numG loc_fail)) fun a a' h nx v h' nx' R W e r w ha hM hN => by
    obtain ⟨f, h1, nx1, R1, W1, R2, W2, e1, e2, rfl, rfl⟩ := bind_ok e
    obtain ⟨rfl, rfl, rfl, hh⟩ := fact_ok e1 ha hM
    cases h0 : isFl 0 f with
    | true =>
      rw [h0] at e2
      rw [fl_of h0 hh]
      cases fin with
      | true =>
        simpa [Gn.F] using goes_aggT rfl (show (bind (newFacts [Gy.ng, .nu, .de]) fun vs => ret (.tuple ⟨[.agg ⟨vs⟩, .bool true]⟩) : M Gy Value) _ _ = _ from e2) hM hN ((fromFloat_any (hf.1 rfl) g.x64 w).mono fun _ w' ⟨v', k1, k2, k3⟩ => by
          obtain ⟨us, rfl, hu⟩ := numG_holds k2
          exact ⟨us, k1, hu, k3⟩)
      | false =>
        simpa [Gn.F] using goes_pl (show (ret (.tuple ⟨[.agg ⟨[.bool false, .slice none 0 0, .slice none 0 0]⟩, .bool false]⟩) : M Gy Value) _ _ = _ from e2) rfl hM (fromFloat_bad (fun h => (by have := hf.2 h; cases this)) g.x64 w)
    | false =>
      rw [h0] at e2
      obtain ⟨hk, e3⟩ := cond_ok (show cond (isFl 2 f && fin) numG fail _ _ = _ from e2)
      simp only [Bool.and_eq_true] at hk
      rw [fl_of hk.1 hh]
      have hx := hf.1 hk.2
      simpa [Gn.F] using goes_aggT rfl (show (bind (newFacts [Gy.ng, .nu, .de]) fun vs => ret (.tuple ⟨[.agg ⟨vs⟩, .bool true]⟩) : M Gy Value) _ _ = _ from e3) hM hN ((fromFloat_any (unsg_fin hx) (unsg_64 g.x64) w).mono fun _ w' ⟨v', k1, k2, k3⟩ => by
        rw [worth_unsg] at k2
        obtain ⟨us, rfl, hu⟩ := numG_holds k2
        exact ⟨us, k1, hu, k3⟩)
theorem g_frac (hf : fin = true → FinW g.x) : SumG g 145 (arg1 fun a => kn3 isNg isNu isDe a (cond fin fracG fail)) :=
  arg1_ok (fun a => loc_kn3 (loc_cond loc_fracG loc_fail)) fun a a' h nx v h' nx' R W e r w ha hM hN => by
    obtain ⟨R2, hn, e2⟩ := kn3_num e ha hM
    obtain ⟨hk, e3⟩ := cond_ok e2
    have hx := hf hk
    exact goes_aggT rfl (show (bind (newFacts [Gy.ng, .fn, .fd]) fun vs => ret (.tuple ⟨[.agg ⟨vs⟩, .bool true]⟩) : M Gy Value) _ _ = _ from e3) hM hN ((exFrac_fit w a' _ 33 hn (worth_sm hx) (by omega) (worth_fit hx)).mono fun _ w' ⟨h1, h2⟩ =>
      ⟨_, h1, ⟨_, _, rfl, rfl, rfl, _, _, rfl, rfl, rfl, _, _, rfl, rfl, rfl, rfl⟩, h2⟩)
theorem g_read (hf : fin = true → FinW g.x) : SumG g 163 (arg1 fun a => kn3 isNg isFn isFd a (cond fin numG fail)) :=
  arg1_ok (fun a => loc_kn3 (loc_cond loc_numG loc_fail)) fun a a' h nx v h' nx' R W e r w ha hM hN => by
    obtain ⟨R2, hn, e2⟩ := kn3_frac e ha hM
    obtain ⟨hk, e3⟩ := cond_ok e2
    have hx := hf hk
    rw [hn]
    exact goes_aggT rfl (show (bind (newFacts [Gy.ng, .nu, .de]) fun vs => ret (.tuple ⟨[.agg ⟨vs⟩, .bool true]⟩) : M Gy Value) _ _ = _ from e3) hM hN ((exRead_ok w _ (worth_fit hx)).mono fun _ w' ⟨v', k1, k2, k3⟩ => by
      obtain ⟨us, rfl, hu⟩ := numG_holds k2
      exact ⟨us, k1, hu, k3⟩)
theorem g_float (hf : fin = true → FinW g.x) : SumG g 156 (arg1 fun a => kn3 isNg isNu isDe a (cond fin (newFact (.fl 2)) fail)) :=
  arg1_ok (fun a => loc_kn3 (loc_cond (loc_newFact _) loc_fail)) fun a a' h nx v h' nx' R W e r w ha hM hN => by
    obtain ⟨R2, hn, e2⟩ := kn3_num e ha hM
    obtain ⟨hk, e3⟩ := cond_ok e2
    exact goes_f e3 hM hN ((float_any w a' hn (hf hk) g.x64).mono fun _ _ ⟨h1, h2⟩ => ⟨_, h1, rfl, rfl, h2⟩)
theorem cmpQ_self (q : Rat) : Big.cmpQ q q = 0 := by
  unfold Big.cmpQ
  rw [if_neg (by simp [Rat.lt_irrefl]), if_pos rfl]
theorem g_cmp (hf : fin = true → FinW g.x) : SumG g 117 (arg2 fun a b => kn3 isNg isNu isDe a (kn3 isNg isNu isDe b (cond fin (ret (.int .i64 0)) fail))) :=
  arg2_ok (fun a b => loc_kn3 (loc_kn3 (loc_cond (loc_ret _) loc_fail))) fun a b a' b' h nx v h' nx' R W e r w ha hb hM hN => by
    obtain ⟨R2, hn, e2⟩ := kn3_num e ha hM
    obtain ⟨R3, hn2, e3⟩ := kn3_num e2 hb hM
    obtain ⟨hk, e4⟩ := cond_ok e3
    have hx := hf hk
    have c := exCmp_any w a' b' _ _ 33 hn hn2 (worth_sm hx) (worth_sm hx) (by omega)
    rw [cmpQ_self] at c
    exact goes_pl e4 rfl hM c
noncomputable def isF0 : Value → Bool
  | .float k n => decide (k = .f64) && Nat.beq n 0
  | _ => false
theorem g_sides (hf : fin = true → FinW g.x) : SumG g 164 (arg2 fun a b => kn (isFl 2) a (cond (isF0 b && fin) (bind (newFacts [.fl 2, .fl 2]) fun vs => ret (.tuple ⟨vs⟩)) fail)) :=
  arg2_ok (fun a b => loc_kn (loc_cond (loc_bind (loc_newFacts _) fun _ => loc_ret _) loc_fail)) fun a b a' b' h nx v h' nx' R W e r w ha hb hM hN => by
    obtain ⟨f, R2, p, q, e2⟩ := kn_ok e ha hM
    obtain ⟨hk, e3⟩ := cond_ok e2
    simp only [Bool.and_eq_true] at hk
    have hx := hf hk.2
    have hb0 : b = .float .f64 0 := by
      cases b <;> first | (cases hk.1; done) | skip
      have h1 := hk.1
      simp only [isF0, Bool.and_eq_true, decide_eq_true_eq] at h1
      rw [h1.1, Nat.eq_of_beq_eq_true h1.2]
    subst hb0
    have hb' : b' = .float .f64 0 := hb.eq_of_plain rfl
    rw [fl_of p q, hb']
    have c := sides_no (x := unsg g.x) (r := 0) (Nat.le_of_lt (unsg_fin hx)) (unsg_64 g.x64) (by decide +kernel) (by decide +kernel) w
    rw [unsg_unsg] at c
    obtain ⟨vs, h1, nx1, R3, W3, R4, W4, e4, e5, rfl, rfl⟩ := bind_ok e3
    obtain ⟨rfl, rfl, rfl, rfl⟩ := ret_ok e5
    refine c.mono ?_
    rintro en w' ⟨rfl, rfl⟩
    obtain ⟨hle, r', hY, hv⟩ := newFacts_ok _ e4 hM hN (us := [.float .f64 (unsg g.x), .float .f64 (unsg g.x)]) ⟨_, _, rfl, rfl, rfl, _, _, rfl, rfl, rfl, rfl⟩
    exact ⟨_, r', rfl, .tuple hv, by simpa using hY⟩
theorem g_level : SumG g 62 (arg1 fun a => kn isSm a (newFact (.fl 3))) :=
  arg1_ok (fun a => loc_kn (loc_newFact _)) fun a a' h nx v h' nx' R W e r w ha hM hN => by
    obtain ⟨f, R2, p, q, e2⟩ := kn_ok e ha hM
    cases f <;> first | (cases p; done) | skip
    obtain rfl : a' = .int .i16 g.s := q
    exact goes_f e2 hM hN ((level_any g.s0 g.s1 w).mono fun _ _ ⟨h1, h2⟩ => ⟨_, h1, rfl, rfl, h2 ▸ Below.refl _ _⟩)
theorem g_sample : SumG g 61 (arg1 fun a => kn (isFl 3) a (bind (newFact .sm) fun x => ret (.tuple ⟨[x, .bool true]⟩))) :=
  arg1_ok (fun a => loc_kn (loc_bind (loc_newFact _) fun _ => loc_ret _)) fun a a' h nx v h' nx' R W e r w ha hM hN => by
    obtain ⟨f, R2, p, q, e2⟩ := kn_ok e ha hM
    rw [fl_of p q]
    exact goes_f1 rfl e2 hM hN ((sample_level g.s0 g.s1 w).mono fun _ _ ⟨h1, h2⟩ => ⟨_, h1, rfl, rfl, h2 ▸ Below.refl _ _⟩)
noncomputable def arg0 (k : M Gy Value) (args : List Value) : Option (M Gy Value) := match args with
  | [] => some k
  | _ => none
theorem g_works : SumG g 63 (arg0 (ret (.bool true))) := by
  intro args m e
  unfold arg0 at e
  rcases args with _ | ⟨a, l⟩ <;> simp only [reduceCtorEq, Option.some.injEq] at e
  subst e
  refine ⟨loc_ret _, ?_⟩
  intro h nx v h' nx' R W e r w args' ha hM hN
  cases ha
  exact goes_pl e rfl hM ((gworks_any w).mono fun _ _ ⟨h1, h2⟩ => ⟨h1, h2 ▸ Below.refl _ _⟩)
end
noncomputable def gList (fin : Bool) : List (Nat × (List Value → Option (M Gy Value))) := [
  (56, arg1 fun a => kn (isFl 0) a (newFact .tx)),
  (55, arg1 fun a => kn isTx a (bind (newFact (.fl 1)) fun x => ret (.tuple ⟨[x, .int .i64 0]⟩))),
  (57, arg2 fun a b => kn (isFl 0) a (kn (isFl 1) b (ret (.bool true)))),
  (59, arg1 fun a => kn (isFl 0) a (ret (.bool fin))),
  (162, arg1 fun a => bind (fact a) fun f => cond (isFl 0 f) (cond fin numG noneG) (cond (isFl 2 f && fin) numG fail)),
  (145, arg1 fun a => kn3 isNg isNu isDe a (cond fin fracG fail)),
  (163, arg1 fun a => kn3 isNg isFn isFd a (cond fin numG fail)),
  (156, arg1 fun a => kn3 isNg isNu isDe a (cond fin (newFact (.fl 2)) fail)),
  (117, arg2 fun a b => kn3 isNg isNu isDe a (kn3 isNg isNu isDe b (cond fin (ret (.int .i64 0)) fail))),
  (164, arg2 fun a b => kn (isFl 2) a (cond (isF0 b && fin) (bind (newFacts [.fl 2, .fl 2]) fun vs => ret (.tuple ⟨vs⟩)) fail)),
  (62, arg1 fun a => kn isSm a (newFact (.fl 3))),
  (61, arg1 fun a => kn (isFl 3) a (bind (newFact .sm) fun x => ret (.tuple ⟨[x, .bool true]⟩))),
  (63, arg0 (ret (.bool true)))]
theorem gList_ok {g : Gn} {fin : Bool} (hf : fin = true ↔ FinW g.x) : SumOK (gSig g) Tryz.prog (sumsOf (mkTab (gList fin))) := sumsOf_ok fun x hx => by
  simp only [gList, List.mem_cons, List.not_mem_nil, or_false] at hx
  rcases hx with rfl | rfl | rfl | rfl | rfl | rfl | rfl | rfl | rfl | rfl | rfl | rfl | rfl
  · exact g_text
  · exact g_parse
  · exact g_same
  · exact g_finite hf
  · exact g_from0 hf
  · exact g_frac hf.1
  · exact g_read hf.1
  · exact g_float hf.1
  · exact g_cmp hf.1
  · exact g_sides hf.1
  · exact g_level
  · exact g_sample
  · exact g_works
noncomputable def gCfg (fin : Bool) : Cfg Gy where
  hid := natCfg.hid
  G := natCfg.G
  tab := natCfg.tab
  len := fun _ => none
  hard := gHard fin
instance gHardI (fin : Bool) : HardLoc (gCfg fin) := ⟨loc_gHard fin⟩
theorem gFits {g : Gn} {fin : Bool} (hf : fin = true ↔ FinW g.x) : Fits (gSig g) Tryz.prog (gCfg fin) where
  hid := rfl
  G := rfl
  len := fun f n w v h e => by cases e
  tab := natFits.tab
  mixed := natFits.mixed
  hard := gHard_ok hf.1 rfl
set_option maxRecDepth 100000
theorem grainBack_run (fin : Bool) : tells [Gy.fl 0, .sm] [.one, .one] (call Tryz.prog (gCfg fin) (sumsOf (mkTab (gList fin))) 20 10) = some (.one (.one (.p (.bool true)))) := by
  cases fin <;> kernel_rfl
theorem grainBack_any (W : World) (x : Nat) (s : Int) (x64 : x < 18446744073709551616) (s0 : -32768 ≤ s) (s1 : s ≤ 32767) (hG : Tryz.prog.globals.size ≤ W.heap.size) (hT : T64 W) :
    Calls Tryz.prog 10 #[.float .f64 x, .int .i16 s] W fun e w' => e = .returned (.bool true) ∧ Below W.heap.size W w' := by
  let g : Gn := ⟨x, s, x64, s0, s1⟩
  obtain ⟨fin, hf⟩ : ∃ b : Bool, b = true ↔ FinW g.x := by
    by_cases h : FinW x
    · exact ⟨true, fun _ => h, fun _ => rfl⟩
    · exact ⟨false, fun h => (by cases h), fun h2 => absurd h2 h⟩
  exact (tells_calls (us := [.float .f64 x, .int .i16 s]) (gFits hf) (gList_ok hf) (grainBack_run fin) rfl glob_few ⟨_, _, rfl, rfl, rfl, _, _, rfl, rfl, rfl, rfl⟩ hG hT).mono fun e w' hh => by
    obtain ⟨v', rfl, hv, hb⟩ := hh
    exact ⟨by rw [show v' = .bool true from hv], hb⟩
end Ev
end Go.Proofs.YtgcgmplepcfbaaaGreatDoor
/- The row's last steps: a call that only makes new memory; the laid table. -/
namespace Go.Proofs.YtgcgmplepcfbaaaGreatDoor
open Go.ChangeShapes Go.WideShapes Go.ChangeAt Go.RowKit

theorem own : ownKnob Tryz.prog.godebug = none := by kernel_rfl
section
variable {H : Type} {enc : TypeId × Value → H} {P : Program}
/-- Plain data came in, and all that the call did is new memory. -/
theorem post_new {f : Func} {s : ChangeSpec} {apart fresh handsOn again : Bool} {W W' : World} {args : Array Value} {v : Value} {ds gs : List (DataW H)}
    (hW : DataW.Whole enc P f.params.toList s.vars apart W args.toList ds gs [])
    (hres : ∀ (b : Nat) (sp : Nat → Bool) (hd : Bool), DataW.TrodAll enc P W' b sp hd f.resultTypes.toList (v.resultList f.resultTypes.size) (s.fn H (ds ++ gs)).results [])
    (hargs : ∀ sp : Nat → Bool, DataW.TrodAll enc P W' 0 sp true f.params.toList args.toList (s.fn H (ds ++ gs)).args [])
    (hvars : ∀ sp : Nat → Bool, DataW.TrodVars enc P W' sp s.vars (s.fn H (ds ++ gs)).vars [])
    (hb : Below W.heap.size W W')
    (hok : ∀ (j : Nat) (t : TypeId) (r : Value), f.resultTypes[j]? = some t → (v.resultList f.resultTypes.size)[j]? = some r → Value.okWide P W' .any 0 t r) :
    s.post enc P f apart fresh handsOn again W args v W' := by
  have hk : W.keptBut W' (fun p => p ∈ ([] : List MemPlace)) := hb.frame _
  refine ⟨ds, gs, [], [], [], [], hW, hres _ _ _, hargs _, hvars _, World.keptBut_mono (fun p hp => by cases hp) hk, fun _ => ?_⟩
  refine ⟨hok, _, _, [], ⟨[], [], trodAll_append (hargs _) (hres _ _ _), hvars _, rfl, ?_, ?_⟩, ?_⟩
  · intro b off hp; cases hp
  · intro _; simp
  · intro p hp; cases hp
end

theorem gTab : Tryz.prog.globalNamed "internal/strconv.uint64pow10" = some 6 := by kernel_rfl
end Go.Proofs.YtgcgmplepcfbaaaGreatDoor
/- What the listed variables give; the start that meets them. -/
namespace Go.Proofs.YtgcgmplepcfbaaaGreatDoor
open Go.ChangeShapes Go.WideShapes Go.ChangeAt Go.RowKit

def laid3 : List (String × DataW Unit) := [("math/bits.deBruijn32tab", Rows.laid_math_bits_deBruijn32tab), ("math/bits.deBruijn64tab", Rows.laid_math_bits_deBruijn64tab), ("internal/strconv.uint64pow10", Rows.laid_internal_strconv_uint64pow10)]
set_option maxRecDepth 100000 in
theorem door_met (os : Os) (args : Array Value) : laidMetH Tryz.prog laid3 ((World.doorLaid Tryz.prog 4000 os).forCall (fun _ _ => 0) ⟨#[], args, []⟩).memory :=
  laidMetH_of_parts3 (fuel := 8) (laidMet_of_run' 8 (by kernel_rfl) (by kernel_rfl)) (by kernel_rfl) (by kernel_rfl)
theorem tTab : (Tryz.prog.globals[6]?).map (·.type) = some 367 := by kernel_rfl
theorem dTab : (Rows.laid_internal_strconv_uint64pow10 : DataW Unit) = Lib.tabData .u64 Lib.pow10Tab := by rfl
theorem cTab : Tryz.prog.cellsOf 367 = 20 := by kernel_rfl
theorem ceTab : Tryz.prog.cellsOf 90 = 1 := by kernel_rfl
theorem tab_of_laid {W : World} (h : laidMetH Tryz.prog laid3 W) : Tab W := by
  rw [MakeChecks.laidMetH_plain _ _ _ (by kernel_rfl)] at h
  obtain ⟨ps, ⟨g0, t0, cs0, f0, p0, q0, hg0, ht0, hv0, hd0, ⟨g1, t1, cs1, f1, p1, q1, hg1, ht1, hv1, hd1, ⟨g2, t2, cs2, f2, p2, q2, hg2, ht2, hv2, hd2, _, _⟩, _⟩, _⟩, _, _⟩ := h
  obtain rfl := Option.some.inj (gTab.symm.trans hg2)
  obtain rfl := Option.some.inj (tTab.symm.trans ht2)
  rw [dTab] at hd2
  show World.var? Tryz.prog W _ = _
  rw [hv2, ← Lib.cells_of_tab Tryz.underlying367 Tryz.underlying90 ceTab cTab hd2]
end Go.Proofs.YtgcgmplepcfbaaaGreatDoor
/- The plain wrap with the listed variables and the world's shape. -/
namespace Go.Proofs.YtgcgmplepcfbaaaGreatDoor
open Go.ChangeShapes Go.WideShapes Go.ChangeAt Go.RowKit

theorem handed_both {H : Type} {enc : TypeId × Value → H} {C : Checked} {os : Os} {f : FuncId} {fn : Func} {s : ChangeSpec} {apart fresh handsOn again : Bool} {X : World → Array Value → Prop}
    (hX : ∀ (w w' : World) (args : Array Value), w.heap = w'.heap → X w args → X w' args)
    (hown : ownKnob C.prog.godebug = none) (started : os.Started) (noInit : C.prog.inits.idxOf? f = none) (hfn : C.prog.funcs[f]? = some fn)
    (witness : ∃ (w : World) (tape : Tape) (i : Input), w.os = os ∧ (w.forCall tape i).Shaped C.prog ∧ i.vars = [] ∧ Input.okWide C.prog (w.forCall tape i) .any w.heap.size f i ∧
      ((s.pre enc C.prog fn [] apart (w.forCall tape i).memory i.args ∧ X (w.forCall tape i).memory i.args) ∧ sizedMet enc C.prog fn (OpenSpec.ofChange s) apart (w.forCall tape i).memory i.args) ∧ Assume.holds {} C.prog (lone (Frame.enter C.prog f i.args .normal) [] (w.forCall tape i)))
    (contract : ∀ (W : World) (base : Nat) (args : Array Value) (ds gs : List (DataW H)) (before : List MemPlace),
      (∀ (j : Nat) t v, fn.params[j]? = some t → args[j]? = some v → Value.okWide C.prog W .any base t v) →
      DataW.Whole enc C.prog fn.params.toList s.vars apart W args.toList ds gs before → X W args → W.ShapedOpen C.prog →
      Calls C.prog f args W fun e W' => ∃ v, e = .returned v ∧ s.post enc C.prog fn apart fresh handsOn again W args v W') :
    ReturnsInHanded {} C os f .any (fun w args => (s.pre enc C.prog fn [] apart w args ∧ X w args) ∧ sizedMet enc C.prog fn (OpenSpec.ofChange s) apart w args) (s.post enc C.prog fn apart fresh handsOn again) := by
  refine returnsInHanded_of_calls hown started noInit witness ?_
  intro w tape i _ hshape _ hin hp _
  obtain ⟨_, _, _, fn2, hfn2, _, _, _, _, hv⟩ := hin
  obtain rfl : fn2 = fn := Option.some.inj (hfn2.symm.trans hfn)
  obtain ⟨⟨⟨ds, gs, before, hwh, _⟩, hx⟩, _⟩ := hp
  refine (contract (w.forCall tape i) w.heap.size i.args ds gs before hv (DataW.Whole.of_heap (w' := w.forCall tape i) (by rfl) hwh) (hX _ _ _ (by rfl) hx) hshape).mono fun e W' ⟨v, he, hpost⟩ => ?_
  subst he
  exact ChangeSpec.post_blind hpost
end Go.Proofs.YtgcgmplepcfbaaaGreatDoor
/- What the five listed variables give; the start that meets them. -/
namespace Go.Proofs.YtgcgmplepcfbaaaGreatDoor
open Go.ChangeShapes Go.WideShapes Go.ChangeAt Go.RowKit

def laid5 : List (String × DataW Unit) := [("math/bits.deBruijn32tab", Rows.laid_math_bits_deBruijn32tab), ("math/bits.deBruijn64tab", Rows.laid_math_bits_deBruijn64tab), ("internal/strconv.uint64pow10", Rows.laid_internal_strconv_uint64pow10), ("strconv.ErrRange", Rows.laid_strconv_ErrRange), ("strconv.ErrSyntax", Rows.laid_strconv_ErrSyntax)]
set_option maxRecDepth 100000 in
theorem door_met5 (os : Os) (args : Array Value) : laidMetH Tryz.prog laid5 ((World.doorLaid Tryz.prog 4000 os).forCall (fun _ _ => 0) ⟨#[], args, []⟩).memory :=
  laidMetH_of_parts3 (fuel := 8) (laidMet_of_run' 8 (by kernel_rfl) (by kernel_rfl)) (by kernel_rfl) (by kernel_rfl)
theorem gBr : Tryz.prog.globalNamed "math/bits.deBruijn64tab" = some 1 := by kernel_rfl
theorem tBr : (Tryz.prog.globals[1]?).map (·.type) = some 341 := by kernel_rfl
def brTab : List Int := [0, 1, 56, 2, 57, 49, 28, 3, 61, 58, 42, 50, 38, 29, 17, 4, 62, 47, 59, 36, 45, 43, 51, 22, 53, 39, 33, 30, 24, 18, 12, 5, 63, 55, 48, 27, 60, 41, 37, 16, 46, 35, 44, 21, 52, 32, 23, 11, 54, 26, 40, 15, 34, 20, 31, 10, 25, 14, 19, 9, 13, 8, 7, 6]
theorem dBr : (Rows.laid_math_bits_deBruijn64tab : DataW Unit) = Lib.tabData .u8 brTab := by rfl
theorem cBr : Tryz.prog.cellsOf 341 = 64 := by kernel_rfl
theorem ceBr : Tryz.prog.cellsOf 5 = 1 := by kernel_rfl
theorem gEs : Tryz.prog.globalNamed "strconv.ErrSyntax" = some 4 := by kernel_rfl
theorem tEs : (Tryz.prog.globals[4]?).map (·.type) = some 180 := by kernel_rfl
theorem cell_lt {W : World} {g i : Nat} {v : Value} (h : W.cell? ⟨g, i, none⟩ = some v) : g < W.heap.size := by
  rcases Nat.lt_or_ge g W.heap.size with h1 | h1
  · exact h1
  · simp [World.cell?, Array.getElem?_eq_none h1] at h
theorem facts_of_laid {W : World} (h : laidMetH Tryz.prog laid5 W) : T64 W ∧ ES W := by
  rw [MakeChecks.laidMetH_plain _ _ _ (by kernel_rfl)] at h
  obtain ⟨ps, ⟨g0, t0, cs0, f0, p0, q0, hg0, ht0, hv0, hd0, ⟨g1, t1, cs1, f1, p1, q1, hg1, ht1, hv1, hd1, ⟨g2, t2, cs2, f2, p2, q2, hg2, ht2, hv2, hd2, ⟨g3, t3, cs3, f3, p3, q3, hg3, ht3, hv3, hd3, ⟨g4, t4, cs4, f4, p4, q4, hg4, ht4, hv4, hd4, _, _⟩, _⟩, _⟩, _⟩, _⟩, _, _⟩ := h
  constructor
  · obtain rfl := Option.some.inj (gBr.symm.trans hg1)
    obtain rfl := Option.some.inj (tBr.symm.trans ht1)
    rw [dBr] at hd1
    have e := Lib.cells_of_tab Tryz.underlying341 Tryz.underlying5 ceBr cBr hd1
    have hc := World.var?_cell gBr hv1 15
    have hc2 : W.cell? ⟨1, 15, none⟩ = some (.int .u8 4) := by
      rw [hc, ← Array.getElem?_toList, e]; rfl
    exact ⟨hc2, cell_lt hc2⟩
  · obtain rfl := Option.some.inj (gEs.symm.trans hg4)
    obtain rfl := Option.some.inj (tEs.symm.trans ht4)
    obtain ⟨f5, u, v, e, -, -⟩ := iface_of_trod Tryz.underlying180 hd4
    have hc := World.var?_cell gEs hv4 0
    have hc2 : W.cell? ⟨4, 0, none⟩ = some (.iface u v) := by
      rw [hc, ← Array.getElem?_toList, e]; rfl
    exact ⟨⟨_, hc2, .inr ⟨_, _, rfl⟩⟩, cell_lt hc2⟩
end Go.Proofs.YtgcgmplepcfbaaaGreatDoor
/- The five listed variables of the statements of diapasonlaw02 (and three of diapasonlaw01's): what they give; a world's size. -/
namespace Go.Proofs.YtgcgmplepcfbaaaGreatDoor
open Go.ChangeShapes Go.WideShapes Go.ChangeAt Go.RowKit

def laidG : List (String × DataW Unit) := [("math/bits.deBruijn32tab", Rows.laid_math_bits_deBruijn32tab), ("math/bits.deBruijn64tab", Rows.laid_math_bits_deBruijn64tab), ("internal/strconv.uint64pow10", Rows.laid_internal_strconv_uint64pow10), ("unicode/utf8.acceptRanges", Rows.laid_unicode_utf8_acceptRanges), ("unicode/utf8.first", Rows.laid_unicode_utf8_first)]
theorem tab_of_laidG {W : World} (h : laidMetH Tryz.prog laidG W) : Tab W := by
  rw [MakeChecks.laidMetH_plain _ _ _ (by kernel_rfl)] at h
  obtain ⟨ps, ⟨g0, t0, cs0, f0, p0, q0, hg0, ht0, hv0, hd0, ⟨g1, t1, cs1, f1, p1, q1, hg1, ht1, hv1, hd1, ⟨g2, t2, cs2, f2, p2, q2, hg2, ht2, hv2, hd2, _, _⟩, _⟩, _⟩, _, _⟩ := h
  obtain rfl := Option.some.inj (gTab.symm.trans hg2)
  obtain rfl := Option.some.inj (tTab.symm.trans ht2)
  rw [dTab] at hd2
  show World.var? Tryz.prog W _ = _
  rw [hv2, ← Lib.cells_of_tab Tryz.underlying367 Tryz.underlying90 ceTab cTab hd2]
theorem glob_size {W : World} (h : W.ShapedOpen Tryz.prog) : Tryz.prog.globals.size ≤ W.heap.size := by
  have hb : Nat.ble (Tryz.prog.globals.size + 1) (begin Tryz.prog (fun _ _ => 0) default).world.heap.size = true := by kernel_rfl
  obtain ⟨o, o0, h1, -⟩ := h.2 Tryz.prog.globals.size (Nat.le_refl _) (Nat.le_of_ble_eq_true hb)
  exact Nat.le_of_lt (Array.getElem?_eq_some_iff.1 h1).1
end Go.Proofs.YtgcgmplepcfbaaaGreatDoor
