/- Contracts. -/
import Derived.Test.YtnlhjcfpfapafaaSSq30
import Derived.Test.YtnlhjcfpfapafaaSSq26
namespace Go.Proofs.Ytnlhjcfpfapafaa
open Go Go.RowKit
namespace Ev
set_option maxRecDepth 100000
theorem cf_sc (p : List Rat) (x : Rat) (i : Nat) : cf (sc p x) i = cf p i * x := by
 unfold cf sc
 rw [List.getD_eq_getElem?_getD, List.getD_eq_getElem?_getD, List.getElem?_map]
 cases p[i]? with
 | none => show (0 : Rat) = 0 * x; grind
 | some y => rfl
theorem cf_ov (p : List Rat) (x : Rat) (i : Nat) : cf (ov p x) i = cf p i / x := by
 unfold cf ov
 rw [List.getD_eq_getElem?_getD, List.getD_eq_getElem?_getD, List.getElem?_map]
 cases p[i]? with
 | none => show (0 : Rat) = 0 / x; rw [Rat.div_def]; grind
 | some y => rfl
theorem cf_psb (p q : List Rat) (i : Nat) : cf (psb p q) i = cf p i - cf q i := by
 rcases Nat.lt_or_ge i (max p.length q.length) with h | h
 ·unfold cf
  rw [List.getD_eq_getElem?_getD, psb_get h]; rfl
 ·rw [cf_beyond (by rw [psb_len]; exact h), cf_beyond (p := p) (by omega), cf_beyond (p := q) (by omega)]; grind
theorem cf_01 (q : List Rat) : cf (pd [0, 1] q) 0 = 0 ∧ ∀ i, cf (pd [0, 1] q) (i + 1) = cf q i := by
 refine ⟨?_, fun i => ?_⟩
 ·rw [cf_pd]
  simp only [mulF, sh]
  grind
 ·rw [cf_pd]
  cases i with
  | zero => simp only [mulF, sh]; grind
  | succ i => simp only [mulF, sh]; grind
section
variable {p : List Rat} {F : Rat} (hF : F * F = 1)
include hF
theorem un_ov (hlu : ∀ m, (unL p F m).length ≤ m + 2) (hlo : ∀ m, (ovL p F m).length ≤ m + 1) : ∀ m i, i ≤ m + 1 → cf (unL p F m) i = F * cf (ovL p F m) (m + 1 - i)
 | 0, i, hi => by
  have e : ∀ i, cf (unL p F 0) i = cf [0, 1] i * F := fun i => (cf_trmm _ i).trans (cf_sc _ _ i)
  rw [e]
  rcases Nat.eq_zero_or_pos i with rfl | h
  ·show (0 : Rat) * F = F * 0; grind
  ·obtain rfl : i = 1 := by omega
   show (1 : Rat) * F = F * 1; grind
 | m + 1, i, hi => by
  have ih := un_ov hlu hlo m
  have eo : ∀ i, cf (ovL p F (m + 1)) i = cf (ovL p F m) i * bN p (p.length - 1 - m) + cf (unL p F m) i * aN p (p.length - 1 - m) := fun i => by
   rw [ovL_succ, cf_trmm, cf_pa, cf_trmm, cf_trmm, cf_sc, cf_sc]
  have es : ∀ i, cf (s1L p F m) i = cf (ovL p F m) i * aN p (p.length - 1 - m) + cf (unL p F m) i * bN p (p.length - 1 - m) := fun i => by
   unfold s1L
   rw [cf_trmm, cf_pa, cf_trmm, cf_trmm, cf_sc, cf_sc]
  rw [unL_succ, eo]
  have h1 := hlu m
  have h2 := hlo m
  cases i with
  | zero =>
   rw [(cf_01 _).1, cf_beyond (p := ovL p F m) (by omega), cf_beyond (p := unL p F m) (by omega)]; grind
  | succ i =>
   rw [(cf_01 _).2, es, ih i (by omega), show m + 1 + 1 - (i + 1) = m + 1 - i by omega, ih (m + 1 - i) (by omega), show m + 1 - (m + 1 - i) = i by omega]
   generalize cf (ovL p F m) i = x
   generalize cf (ovL p F m) (m + 1 - i) = y
   generalize aN p (p.length - 1 - m) = a
   generalize bN p (p.length - 1 - m) = b
   grind
theorem cl_turned {N : Rat} (hN : N * N = 1) (hlu : ∀ m, (unL p F m).length ≤ m + 2) (hlo : ∀ m, (ovL p F m).length ≤ m + 1) {i : Nat} (hi : i ≤ p.length + 1) : cf (clL p F N) i = -(N * F) * cf (clL p F N) (p.length + 1 - i) := by
 have e : ∀ i, cf (clL p F N) i = cf (ovL p F p.length) i - cf (unL p F p.length) i * N := fun i => by
  unfold clL
  rw [cf_trmm, cf_psb, cf_trmm, cf_sc]
 have h1 := un_ov hF hlu hlo p.length i hi
 have h2 := un_ov hF hlu hlo p.length (p.length + 1 - i) (by omega)
 rw [show p.length + 1 - (p.length + 1 - i) = i by omega] at h2
 rw [e, e, h1, h2]
 generalize cf (ovL p F p.length) i = x
 generalize cf (ovL p F p.length) (p.length + 1 - i) = y
 grind
end
theorem cl_sum (p : List Rat) (F : Rat) (i : Nat) : cf (clL p F 1) i + cf (clL p F (-1)) i = 2 * cf (ovL p F p.length) i := by
 have e : ∀ N i, cf (clL p F N) i = cf (ovL p F p.length) i - cf (unL p F p.length) i * N := fun N i => by
  unfold clL
  rw [cf_trmm, cf_psb, cf_trmm, cf_sc]
 rw [e, e]
 grind
noncomputable def s8F : Nat := 25
noncomputable def s8Tm : List Nat := [0, 1, 5]
noncomputable def s8Sl (x : Sl Sy) : List (Sl Sy) := [.f (.ls 0 0), .f (.ls 0 0), x]
set_option maxHeartbeats 4000000 in
theorem s8_round : roundT Try.prog (Fq.lsCfgQ true [] rpB1 noJ) (lsClQ true [] rpB1 20) 26 20 eqSy s8Tm (s8Sl (.f (.ix 2 0))) (s8Sl (.f (.ix 2 1))) (loopOf s8F 0) = true := by kernel_rfl
noncomputable def s8J : Jmps := fun f _ => cond (Nat.beq f s8F) (some (jumpM eqSy 26 s8Tm (s8Sl (.p (.int .i64 0))) (s8Sl (.f (.ix 1 0))))) none
set_option maxHeartbeats 4000000 in
theorem s8_run : tells [.ls 0 0, .ls 0 0] [.one, .one] (call Try.prog (Fq.lsCfgQ true [] [.ln 0 1] s8J) (lsSums []) 20 s8F) = some (.one (.one (.p (.bool true)))) := by kernel_rfl
theorem s8_one : ∃ fn c, (Try.prog).funcs[s8F]? = some fn ∧ fn.body = some c ∧ fn.ntmps = 26 ∧ loopsIn c = [loopOf s8F 0] := ⟨_, _, rfl, rfl, rfl, rfl⟩
section
variable {qs : List Rat} (hq : ∀ q ∈ qs, Fit q) (lo : Nat)
theorem s8_jmp (hl : qs.length ≤ 10000) : JmpOK (symSig (rdEnv qs hq lo 0)) Try.prog 26 (loopOf s8F 0) (jumpM eqSy 26 s8Tm (s8Sl (.p (.int .i64 0))) (s8Sl (.f (.ix 1 0)))) := by
 refine @jmp_ok Sy (symSig (rdEnv qs hq lo 0)) Try.prog eqSy eqSy_ok 26 (loopOf s8F 0) s8Tm _ (s8Sl (.f (.ix 2 0))) (s8Sl (.f (.ix 2 1))) _ qs.length (fun k => symSig (rdEnv qs hq lo k)) (fun k => ⟨rfl, rfl, rfl⟩) rfl rfl rfl rfl ?_ ?_ ?_ ?_
 ·intro w vs h
  obtain ⟨v1, l1, rfl, a1, v2, l2, rfl, a2, v3, l3, rfl, a3, rfl⟩ := h
  refine ⟨v1, _, rfl, a1, v2, _, rfl, a2, v3, _, rfl, ⟨?_, ?_⟩, rfl⟩
  ·rw [show v3 = .int .i64 0 from a3]; rfl
  ·rw [show v3 = .int .i64 0 from a3]; rfl
 ·intro k hk w vs h
  obtain ⟨v1, l1, rfl, a1, v2, l2, rfl, a2, v3, l3, rfl, a3, rfl⟩ := h
  refine ⟨v1, _, rfl, a1, v2, _, rfl, a2, v3, _, rfl, ⟨?_, a3.2⟩, rfl⟩
  have h4 : v3 = .int .i64 (((k : Nat) : Int) + 1) := a3.1
  show v3 = .int .i64 (((k + 1 : Nat) : Int) + 0)
  rw [h4]; congr 1
 ·intro w vs h
  obtain ⟨v1, l1, rfl, a1, v2, l2, rfl, a2, v3, l3, rfl, a3, rfl⟩ := h
  exact ⟨v1, _, rfl, a1, v2, _, rfl, a2, v3, _, rfl, ⟨a3.1, a3.2⟩, rfl⟩
 ·intro k hk ro d B0 D0 a w hAt
  have hB := rp_B1 hq lo hl hk
  have hA : AllH (rdEnv qs hq lo k) [] := fun x hx => by simp at hx
  exact round_run (C := Fq.lsCfgQ true [] rpB1 noJ) (call := lsClQ true [] rpB1 20) (fuel := 20) (Fq.lsFitsQ hA hB) (lsClQ_ok hA hB) rfl (fun y _ m e => by cases e) eqSy_ok s8_round few5 hAt
end
theorem same8_any (w : World) {qs : List Rat} (hq : ∀ q ∈ qs, Fit q) (hl : qs.length ≤ 10000) {u v : Value} (hu : LsIn 0 w u qs) (hv : LsIn 0 w v qs) (hG : Try.prog.globals.size ≤ w.heap.size) (hT : natSig.base w) :
  Calls Try.prog s8F ⟨[u, v]⟩ w fun e w' => e = .returned (.bool true) ∧ Below w.heap.size w w' := by
 have h0 : HoldsL (symSig (rdEnv qs hq w.heap.size 0)) w [.ls 0 0, .ls 0 0] [u, v] := ⟨u, _, rfl, LsIn.ls hu rfl, by obtain ⟨a, m, rfl, _⟩ := hu; rfl, v, [], rfl, LsIn.ls hv rfl, by obtain ⟨a, m, rfl, _⟩ := hv; rfl, rfl⟩
 have hA : AllH (rdEnv qs hq w.heap.size 0) [] := fun x hx => by simp at hx
 have hB : AllX (rdEnv qs hq w.heap.size 0) [.ln 0 1] := fun x hx => by
  obtain rfl := List.mem_singleton.1 hx
  rfl
 have hJ : JmpAll (symSig (rdEnv qs hq w.heap.size 0)) Try.prog (Fq.lsCfgQ true [] [.ln 0 1] s8J) := by
  refine ⟨fun f x m e ts => ?_, fun f fn c x m hf hb hx e => ?_⟩
  ·rcases condJ (show cond (Nat.beq f s8F) (some (jumpM eqSy 26 s8Tm (s8Sl (.p (.int .i64 0))) (s8Sl (.f (.ix 1 0))))) none = some m from e) with ⟨_, rfl⟩ | ⟨_, e2⟩
   ·exact loc_jumpM _ _ _ _ _
   ·cases e2
  ·rcases condJ (show cond (Nat.beq f s8F) (some (jumpM eqSy 26 s8Tm (s8Sl (.p (.int .i64 0))) (s8Sl (.f (.ix 1 0))))) none = some m from e) with ⟨h1, rfl⟩ | ⟨_, e2⟩
   ·obtain rfl := Nat.eq_of_beq_eq_true h1
    exact one_jmp s8_one (@s8_jmp qs hq _ hl) hf hb hx
   ·cases e2
 refine (tells_calls (Fq.lsFitsQ hA hB) (lsSums_ok hA) s8_run rfl glob_few h0 hG hT (Nat.le_refl _) hJ).mono ?_
 rintro e w' ⟨v', rfl, h1, hb⟩
 have h1' : v' = .bool true := h1
 subst h1'
 exact ⟨rfl, hb⟩
noncomputable def tdF : Nat := 26
noncomputable def frac0S : Nat × (List Value → Option (M Sy Value)) := (23, fun args => match args with
 | [a, b] => cond (isIq 0 a && isIq 1 b) (some (bind (newFacts [.ng nuC, .fn nuC, .fd nuC]) fun vs => ret (.agg ⟨vs⟩))) none
 | _ => none)
noncomputable def tdX (a : Bool) : Qe := cond a (.v 2) nuC
noncomputable def tdY (b : Bool) : Qe := cond b (.v 3) nuC
noncomputable def tdZ (s b : Bool) : Qe := cond s (tdY b) (.sub nuC (tdY b))
noncomputable def tdA (s a b : Bool) : List As := [⟨0, .sub nuC (tdY b), z0, true⟩, ⟨2, tdX a, tdZ s b, true⟩]
noncomputable def tdB (a b : Bool) : List Ix := [.ln 0 1, .bd 1, .bd 2, .bd 3, .bd 4, .lt 3 0 2 0 false, .lt 2 0 1 0 a, .df 3 0 2 0 4, .lt 4 0 1 0 b] ++ (cond a [.el 0 2 0 (.v 2)] [] ++ cond b [.el 0 4 0 (.v 3)] [])
noncomputable def tdSums (A : List As) : Sums Sy := sumsOf (mkTab (frac0S :: symList A))
noncomputable def tdCl (A : List As) (B : List Ix) (n : Nat) : Cl Sy := ⟨callY Try.prog (Fq.lsCfgQ true A B noJ) (tdSums A) n, [], fun _ => none⟩
noncomputable def sgI (s : Bool) : Int := cond s 1 (-1)
noncomputable def tdT : List Nat := [0, 1, 2, 7]
noncomputable def tdS (s : Bool) (x : Sl Sy) : List (Sl Sy) := [.f (.ls 0 0), .f (.ix 3 0), .p (.int .i64 (sgI s)), x]
set_option maxHeartbeats 4000000 in
theorem td_round (s a b : Bool) : roundT Try.prog (Fq.lsCfgQ true (tdA s a b) (tdB a b) noJ) (tdCl (tdA s a b) (tdB a b) 30) 48 30 eqSy tdT (tdS s (.f (.ix 2 0))) (tdS s (.f (.ix 2 1))) (loopOf tdF 0) = true := by cases s <;> cases a <;> cases b <;> kernel_rfl
noncomputable def tdJ (s : Bool) : Jmps := fun f _ => cond (Nat.beq f tdF) (some (jumpM eqSy 48 tdT (tdS s (.p (.int .i64 0))) (tdS s (.f (.ix 3 1))))) none
set_option maxHeartbeats 4000000 in
theorem td_run (s : Bool) : tells [.ls 0 0, .ix 3 0] [.one, .one, .p (.int .i64 (sgI s))] (call Try.prog (Fq.lsCfgQ true [] [.bd 3] (tdJ s)) (tdSums []) 30 tdF) = some (.one (.one (.p (.bool true)))) := by cases s <;> kernel_rfl
theorem td_one : ∃ fn c, (Try.prog).funcs[tdF]? = some fn ∧ fn.body = some c ∧ fn.ntmps = 48 ∧ loopsIn c = [loopOf tdF 0] := ⟨_, _, rfl, rfl, rfl, rfl⟩
def tdQ (l : List Rat) (n k : Nat) : Nat → Rat
 | 2 => l.getD k 0
 | 3 => l.getD (n - k) 0
 | _ => 0
theorem tdQ_fit {l : List Rat} (h : ∀ q ∈ l, Fit q) (n k i : Nat) : Fit (tdQ l n k i) := by
 unfold tdQ
 split
 ·exact getD_fit h _
 ·exact getD_fit h _
 ·exact fit00
def tdNat (a n k : Nat) : Nat → Nat
 | 1 => a
 | 2 => k
 | 3 => n
 | 4 => n - k
 | _ => 0
def tdEnv (l : List Rat) (h : ∀ q ∈ l, Fit q) (lo n k : Nat) : Env := ⟨tdQ l n k, fun _ => (false, ⟨#[]⟩, ⟨#[]⟩), fun i _ => tdQ_fit h n k i, fun i => (tdQ_fit h n k i).sm.up (by decide), fun _ => bad_zero, lo, atLst l, tdNat l.length n k, rfl⟩
theorem frac8_zero (w : World) (hG : Try.prog.globals.size ≤ w.heap.size) (hT : natSig.base w) : Calls Try.prog 23 ⟨[.int .i64 0, .int .i64 1]⟩ w fun e w' => e = .returned (.agg ⟨[.bool false, .string ⟨#[]⟩, .string ⟨#[1]⟩]⟩) ∧ Below w.heap.size w w' := by
 have hr : tells [] [.p (.int .i64 0), .p (.int .i64 1)] (call Try.prog natCfg natSums 100 23) = some (.one (.agg [.p (.bool false), .p (.string ⟨#[]⟩), .p (.string ⟨#[1]⟩)])) := by kernel_rfl
 refine (tells_calls natFits natSums_ok hr rfl glob_few (us := []) rfl hG hT).mono ?_
 rintro e w' ⟨v', rfl, ⟨vs, rfl, a, l1, rfl, g1, c, l2, rfl, g2, d, l3, rfl, g3, rfl⟩, hb⟩
 have g1' : a = .bool false := g1
 have g2' : c = .string ⟨#[]⟩ := g2
 have g3' : d = .string ⟨#[1]⟩ := g3
 subst g1' g2' g3'
 exact ⟨rfl, hb⟩
theorem frac0S_ok {ρ : Env} : SumF (symSig ρ) Try.prog frac0S.1 frac0S.2 := by
 intro args m e
 rcases args with _ | ⟨a, _ | ⟨b, _ | ⟨c, l⟩⟩⟩ <;> first | (cases (show none = some m from e); done) | skip
 have e' : cond (isIq 0 a && isIq 1 b) (some (bind (newFacts [.ng nuC, .fn nuC, .fd nuC]) fun vs => (ret (.agg ⟨vs⟩) : M Sy Value))) none = some m := e
 cases hab : (isIq 0 a && isIq 1 b) with
 | false => rw [hab] at e'; cases e'
 | true =>
  rw [hab] at e'
  cases e'
  simp only [Bool.and_eq_true] at hab
  obtain rfl := isIq_ok hab.1
  obtain rfl := isIq_ok hab.2
  refine ⟨loc_bind (loc_newFacts _) fun _ => loc_ret _, fun h nx v h' nx' R W e9 r w args' hv hM hN => ?_⟩
  cases hv with
  | cons h1 hv => cases hv with
   | cons h2 hv =>
    cases hv
    obtain rfl := h1.eq_of_plain rfl
    obtain rfl := h2.eq_of_plain rfl
    refine goes_agg e9 hM hN ((frac8_zero w hM.fits hM.base).mono ?_)
    rintro en w' ⟨rfl, hb⟩
    have e0 : nuC.ev ρ.q = 0 := by show mkRat (Big.sI false 0) 1 = 0; rfl
    refine ⟨_, rfl, ⟨_, _, rfl, ?_, rfl, _, _, rfl, ?_, rfl, _, _, rfl, ?_, rfl, rfl⟩, hb⟩
    ·show Value.bool false = .bool (Big.ng (nuC.ev ρ.q))
     rw [e0]; rfl
    ·show Value.string ⟨#[]⟩ = .string (bst (Big.nu (nuC.ev ρ.q)))
     rw [e0]; rfl
    ·show Value.string ⟨#[1]⟩ = .string (bst (Big.de (nuC.ev ρ.q)))
     rw [e0, show Big.de 0 = 1 from rfl]
     congr 1
theorem tdSums_ok {ρ : Env} {A : List As} (hA : AllH ρ A) : SumOK (symSig ρ) Try.prog (tdSums A) := sumsOf_ok fun x hx => by
 rcases List.mem_cons.1 hx with rfl | hx
 ·exact frac0S_ok
 ·exact symList_ok hA x hx
theorem tdCl_ok {ρ : Env} {A : List As} {B : List Ix} {n : Nat} (hA : AllH ρ A) (hB : AllX ρ B) : ClOK (symSig ρ) Try.prog (tdCl A B n) :=
 have h := callY_ok (C := Fq.lsCfgQ true A B noJ) (Fq.lsFitsQ hA hB) (.none rfl) (tdSums_ok hA) n
 ⟨⟨h.1, by intro x hx; simp [tdCl] at hx, fun x m e => (by cases e)⟩, h.2⟩
section
variable {l : List Rat} (hl : ∀ q ∈ l, Fit q) (lo : Nat) {n : Nat} {s : Bool}
theorem td_jmp (hl9 : l.length ≤ 1000) (hn : n ≤ 1000) (ht : ∀ i, i ≤ n → cf l i = (sgI s : Int) * cf l (n - i)) : JmpOK (symSig (tdEnv l hl lo n 0)) Try.prog 48 (loopOf tdF 0) (jumpM eqSy 48 tdT (tdS s (.p (.int .i64 0))) (tdS s (.f (.ix 3 1)))) := by
 refine @jmp_ok Sy (symSig (tdEnv l hl lo n 0)) Try.prog eqSy eqSy_ok 48 (loopOf tdF 0) tdT (tdS s (.p (.int .i64 0))) (tdS s (.f (.ix 2 0))) (tdS s (.f (.ix 2 1))) (tdS s (.f (.ix 3 1))) (n + 1) (fun k => symSig (tdEnv l hl lo n k)) (fun k => sig_same _ _ (show lo = lo from rfl)) rfl rfl rfl rfl ?_ ?_ ?_ ?_
 ·intro w vs h
  obtain ⟨v1, l1, rfl, a1, v2, l2, rfl, a2, v3, l3, rfl, a3, v4, l4, rfl, a4, rfl⟩ := h
  refine ⟨v1, _, rfl, a1, v2, _, rfl, a2, v3, _, rfl, a3, v4, _, rfl, ⟨?_, ?_⟩, rfl⟩
  ·rw [show v4 = .int .i64 0 from a4]; rfl
  ·rw [show v4 = .int .i64 0 from a4]; rfl
 ·intro k hk w vs h
  obtain ⟨v1, l1, rfl, a1, v2, l2, rfl, a2, v3, l3, rfl, a3, v4, l4, rfl, a4, rfl⟩ := h
  refine ⟨v1, _, rfl, a1, v2, _, rfl, a2, v3, _, rfl, a3, v4, _, rfl, ⟨?_, a4.2⟩, rfl⟩
  have h4 : v4 = .int .i64 (((k : Nat) : Int) + 1) := a4.1
  show v4 = .int .i64 (((k + 1 : Nat) : Int) + 0)
  rw [h4]; congr 1
 ·intro w vs h
  obtain ⟨v1, l1, rfl, a1, v2, l2, rfl, a2, v3, l3, rfl, a3, v4, l4, rfl, a4, rfl⟩ := h
  refine ⟨v1, _, rfl, a1, v2, _, rfl, a2, v3, _, rfl, a3, v4, _, rfl, ⟨?_, a4.2⟩, rfl⟩
  have h4 : v4 = .int .i64 (((n + 1 : Nat) : Int) + 0) := a4.1
  show v4 = .int .i64 (((n : Nat) : Int) + 1)
  rw [h4]; congr 1
 ·intro k hk ro d B0 D0 a w hAt
  obtain ⟨x, hx⟩ : ∃ b : Bool, b = true ↔ k < l.length := ⟨decide (k < l.length), by rw [decide_eq_true_iff]⟩
  obtain ⟨y, hy⟩ : ∃ b : Bool, b = true ↔ n - k < l.length := ⟨decide (n - k < l.length), by rw [decide_eq_true_iff]⟩
  have none : ∀ {i : Nat} {b : Bool}, (b = true ↔ i < l.length) → b = false → l.getD i 0 = 0 := fun {i b} h1 h2 => by
   have hle : l.length ≤ i := by
    rcases Nat.lt_or_ge i l.length with q | q
    ·have := h1.2 q; rw [h2] at this; cases this
    ·exact q
   rw [List.getD_eq_getElem?_getD, List.getElem?_eq_none hle]; rfl
  have e0 : nuC.ev (tdQ l n k) = 0 := by show mkRat (Big.sI false 0) 1 = 0; rfl
  have eX : (tdX x).ev (tdQ l n k) = l.getD k 0 := by
   cases x with
   | true => rfl
   | false => exact e0.trans (none hx rfl).symm
  have eY : (tdY y).ev (tdQ l n k) = l.getD (n - k) 0 := by
   cases y with
   | true => rfl
   | false => exact e0.trans (none hy rfl).symm
  have hA : AllH (tdEnv l hl lo n k) (tdA s x y) := fun z hz => by
   simp only [tdA, List.mem_cons, List.not_mem_nil, or_false] at hz
   rcases hz with rfl | rfl
   ·show true = true ↔ Fit (nuC.ev (tdQ l n k) - (tdY y).ev (tdQ l n k))
    rw [e0, eY]
    refine ⟨fun _ => ?_, fun _ => rfl⟩
    have hf := getD_fit hl (n - k)
    rw [show (0 : Rat) - l.getD (n - k) 0 = -(l.getD (n - k) 0) by grind]
    exact ⟨by unfold Big.nu; rw [Rat.neg_num, Int.natAbs_neg]; exact hf.nu, by unfold Big.de; rw [Rat.neg_den]; exact hf.de⟩
   ·show true = true ↔ (tdX x).ev (tdQ l n k) = (tdZ s y).ev (tdQ l n k)
    refine ⟨fun _ => ?_, fun _ => rfl⟩
    have h := ht k (by omega)
    unfold cf at h
    rw [eX, h]
    cases s with
    | true =>
     show ((1 : Int) : Rat) * l.getD (n - k) 0 = (tdY y).ev (tdQ l n k)
     rw [eY]
     show (1 : Rat) * _ = _
     grind
    | false =>
     show ((-1 : Int) : Rat) * l.getD (n - k) 0 = nuC.ev (tdQ l n k) - (tdY y).ev (tdQ l n k)
     rw [e0, eY]
     show (-1 : Rat) * _ = _
     grind
  have hB : AllX (tdEnv l hl lo n k) (tdB x y) := fun z hz => by
   unfold tdB at hz
   rcases List.mem_append.1 hz with hz | hz
   ·simp only [List.mem_cons, List.not_mem_nil, or_false] at hz
    rcases hz with rfl | rfl | rfl | rfl | rfl | rfl | rfl | rfl | rfl
    ·rfl
    ·show l.length ≤ 10000
     omega
    ·show k ≤ 10000
     omega
    ·show n ≤ 10000
     omega
    ·show n - k ≤ 10000
     omega
    ·show false = true ↔ ((n : Nat) : Int) + 0 < ((k : Nat) : Int) + 0
     exact ⟨fun h => (by cases h), fun h => by omega⟩
    ·show x = true ↔ ((k : Nat) : Int) + 0 < ((l.length : Nat) : Int) + 0
     rw [hx]; omega
    ·show ((n : Nat) : Int) + 0 - (((k : Nat) : Int) + 0) = ((n - k : Nat) : Int) ∧ n - k ≤ 10000
     exact ⟨by omega, by omega⟩
    ·show y = true ↔ ((n - k : Nat) : Int) + 0 < ((l.length : Nat) : Int) + 0
     rw [hy]; omega
   ·rcases List.mem_append.1 hz with hz | hz
    ·cases x with
     | false => simp at hz
     | true =>
      simp only [cond_true, List.mem_cons, List.not_mem_nil, or_false] at hz
      subst hz
      refine ⟨k, ?_, ?_⟩
      ·show ((k : Nat) : Int) = ((k : Nat) : Int) + 0
       omega
      ·show l[k]? = some (l.getD k 0)
       rw [List.getD_eq_getElem?_getD, List.getElem?_eq_getElem (hx.1 rfl)]; rfl
    ·cases y with
     | false => simp at hz
     | true =>
      simp only [cond_true, List.mem_cons, List.not_mem_nil, or_false] at hz
      subst hz
      refine ⟨n - k, ?_, ?_⟩
      ·show ((n - k : Nat) : Int) = ((n - k : Nat) : Int) + 0
       omega
      ·show l[n - k]? = some (l.getD (n - k) 0)
       rw [List.getD_eq_getElem?_getD, List.getElem?_eq_getElem (hy.1 rfl)]; rfl
  exact round_run (C := Fq.lsCfgQ true (tdA s x y) (tdB x y) noJ) (call := tdCl (tdA s x y) (tdB x y) 30) (fuel := 30) (Fq.lsFitsQ hA hB) (tdCl_ok hA hB) rfl (fun y _ m e => by cases e) eqSy_ok (td_round s x y) few5 hAt
end
theorem turned8_any (w : World) {l : List Rat} (hl : ∀ q ∈ l, Fit q) (hl9 : l.length ≤ 1000) {n : Nat} (hn : n ≤ 1000) {s : Bool} (ht : ∀ i, i ≤ n → cf l i = (sgI s : Int) * cf l (n - i)) {v : Value} (hv : LsIn 0 w v l) (hG : Try.prog.globals.size ≤ w.heap.size) (hT : natSig.base w) :
  Calls Try.prog tdF ⟨[v, .int .i64 n, .int .i64 (sgI s)]⟩ w fun e w' => e = .returned (.bool true) ∧ Below w.heap.size w w' := by
 have hA : AllH (tdEnv l hl w.heap.size n 0) [] := fun x hx => by simp at hx
 have hB : AllX (tdEnv l hl w.heap.size n 0) [.bd 3] := fun x hx => by
  simp only [List.mem_cons, List.not_mem_nil, or_false] at hx
  subst hx
  show n ≤ 10000
  omega
 have hu : HoldsL (symSig (tdEnv l hl w.heap.size n 0)) w [.ls 0 0, .ix 3 0] [v, .int .i64 n] := ⟨_, _, rfl, LsIn.ls hv rfl, by obtain ⟨a, m, rfl, _⟩ := hv; rfl, _, _, rfl, by
  show Value.int .i64 ((n : Nat) : Int) = .int .i64 (((n : Nat) : Int) + 0)
  rw [Int.add_zero], rfl, rfl⟩
 have hJ : JmpAll (symSig (tdEnv l hl w.heap.size n 0)) Try.prog (Fq.lsCfgQ true [] [.bd 3] (tdJ s)) := by
  refine ⟨fun f x m e ts => ?_, fun f fn c x m hf hb hx e => ?_⟩
  ·obtain ⟨_, e2⟩ := condJ' (show cond (Nat.beq f tdF) (some (jumpM eqSy 48 tdT (tdS s (.p (.int .i64 0))) (tdS s (.f (.ix 3 1))))) none = some m from e)
   cases e2
   exact loc_jumpM _ _ _ _ _
  ·obtain ⟨h1, e2⟩ := condJ' (show cond (Nat.beq f tdF) (some (jumpM eqSy 48 tdT (tdS s (.p (.int .i64 0))) (tdS s (.f (.ix 3 1))))) none = some m from e)
   cases e2
   obtain rfl := Nat.eq_of_beq_eq_true h1
   exact one_jmp td_one (@td_jmp l hl w.heap.size n s hl9 hn ht) hf hb hx
 refine (tells_calls (Fq.lsFitsQ hA hB) (tdSums_ok hA) (td_run s) rfl glob_few hu hG hT (Nat.le_refl _) hJ).mono ?_
 rintro e w' ⟨v', rfl, h1, hb⟩
 have h1' : v' = .bool true := h1
 exact ⟨by rw [h1'], hb⟩
noncomputable def pbA (j : Nat) : List As := ⟨0, .v (110 + j), z0, false⟩ :: Nat.rec (motive := fun _ => List As) [] (fun k ih => ⟨0, .v (110 + k), z0, true⟩ :: ih) j
noncomputable def pbRun (j : Nat) : Option (D3 Sy) := tells [.ls 1 0] [.one] (call Try.prog (lsCfg false (pbA j) (obB j) noJ) (lsSumsW (pbA j)) 60 ppF)
set_option maxHeartbeats 4000000 in
theorem pb_runs : (List.range 33).all (fun j => isNF (pbRun j)) = true := by kernel_rfl
noncomputable def psF : Nat := 22
noncomputable def paddF : Nat := 24
noncomputable def rpS2 : Nat × (List Value → Option (M Sy Value)) := rpG [] [(0, 0, 0), (3, 0, 3)]
noncomputable def ppS2 (b : Bool) : Nat × (List Value → Option (M Sy Value)) := (ppF, unN [] noNs 1 [(5, 0, 5)] (ovK fun _ => b))
noncomputable def psSums (b : Bool) : Sums Sy := sumsOf (mkTab (rpS2 :: ppS2 b :: (scF, siN [] noNs 1 [(0, .v 9, 5)] (giveO 1)) :: symList []))
noncomputable def psRun (b : Bool) : Option (D3 Sy) := tells [.ls 0 0, .ng (.v 9), .fn (.v 9), .fd (.v 9)] [.one, .agg 3] (call Try.prog (lsCfg false [] [] noJ) (psSums b) 60 psF)
noncomputable def paSums (b : Bool) : Sums Sy := sumsOf (mkTab [rpS2, ppS2 b, (58, biN [] noNs 1 [(0, 3, 5)] (giveO 1))])
noncomputable def paRun (b : Bool) : Option (D3 Sy) := tells [.ls 0 0, .ls 0 3] [.one, .one] (call Try.prog (lsCfg false [] [] noJ) (paSums b) 60 paddF)
set_option maxHeartbeats 4000000 in
theorem ps_run : psRun false = some (.tuple [.one (.ow (.ol 0 (.v 5) none)), .one (.p (.int .i64 0))]) ∧ psRun true = some (.tuple [.one (.p (.slice none 0 0)), .one (.p (.int .i64 3))]) := ⟨by kernel_rfl, by kernel_rfl⟩
set_option maxHeartbeats 4000000 in
theorem padd_run : paRun false = some (.tuple [.one (.ow (.ol 0 (.v 5) none)), .one (.p (.int .i64 0))]) ∧ paRun true = some (.tuple [.one (.p (.slice none 0 0)), .one (.p (.int .i64 3))]) := ⟨by kernel_rfl, by kernel_rfl⟩
theorem polyPoly_bad (w : World) {p : List Rat} (hp : ∀ y ∈ p, Sm 4096 y) (hf : ∃ y ∈ p, ¬ Fit y) (hl : p.length ≤ 33) {u : Value} (hu : LsIn 1 w u p) (hG : Try.prog.globals.size ≤ w.heap.size) (hT : natSig.base w) :
  Calls Try.prog ppF ⟨[u]⟩ w fun e w' => e = .returned (.tuple ⟨[.slice none 0 0, .bool false]⟩) ∧ Below w.heap.size w w' := by
 obtain ⟨j, j1, j2, j3⟩ := first_not (P := Fit) hf
 have hx : Sm 4096 (0 : Rat) := fit00.sm.up (by decide)
 have hr := isNF_ok (List.all_eq_true.1 pb_runs j (List.mem_range.2 (by omega)))
 have hrow : ∀ k, k ≤ j → ∀ y ∈ (Nat.rec (motive := fun _ => List As) [] (fun k ih => ⟨0, .v (110 + k), z0, true⟩ :: ih) k : List As), y.holds (bgQ p 0) := by
  intro k
  induction k with
  | zero =>
   intro _ y hy
   have hy' : y ∈ ([] : List As) := hy
   simp at hy'
  | succ k ih =>
   intro hk y hy
   rcases List.mem_cons.1 hy with rfl | hy
   ·show true = true ↔ Fit (bgQ p 0 (110 + k))
    rw [bgQ_el]
    exact ⟨fun _ => j3 k (by omega), fun _ => rfl⟩
   ·exact ih (by omega) y hy
 have hA : AllH (bgEnv p 0 hp hx w.heap.size) (pbA j) := fun y hy => by
  rcases List.mem_cons.1 hy with rfl | hy
  ·show false = true ↔ Fit (bgQ p 0 (110 + j))
   rw [bgQ_el]
   exact ⟨fun h => (by cases h), fun h => absurd h j2⟩
  ·exact hrow j (Nat.le_refl _) y hy
 have hB : AllX (bgEnv p 0 hp hx w.heap.size) (obB j) := fun y hy => by
  rcases List.mem_cons.1 hy with rfl | hy
  ·rfl
  rcases List.mem_cons.1 hy with rfl | hy
  ·show p.length ≤ 10000
   omega
  rcases List.mem_cons.1 hy with rfl | hy
  ·show false = true ↔ ((0 : Nat) : Int) + 33 < ((p.length : Nat) : Int) + 0
   exact ⟨fun h => (by cases h), fun h => by omega⟩
  rcases List.mem_append.1 hy with hy | hy
  ·exact ltR_ok (ρ := bgEnv p 0 hp hx w.heap.size) (j + 1) (show j + 1 ≤ p.length by omega) y hy
  ·exact elRowG_ok (ρ := bgEnv p 0 hp hx w.heap.size) (c := 0) (p := p) (n := j + 1) rfl (fun i _ => bgQ_el p 0 i) (by omega) y hy
 have hh : HoldsL (symSig (bgEnv p 0 hp hx w.heap.size)) w [.ls 1 0] [u] := ⟨u, _, rfl, LsIn.ls hu rfl, by obtain ⟨a, m, rfl, _⟩ := hu; rfl, rfl⟩
 refine (tells_calls (lsFits hA hB) (lsSumsW_ok hA) hr rfl glob_few hh hG hT (Nat.le_refl _) (.none rfl)).mono ?_
 rintro e w' ⟨v', rfl, ⟨vs, rfl, a, l1, rfl, h1, u2, l2, rfl, h2, rfl⟩, hb⟩
 have h1' : a = .slice none 0 0 := h1
 have h2' : u2 = .bool false := h2
 subst h1' h2'
 exact ⟨rfl, hb⟩
theorem fit_orL (l : List Rat) : ∃ b : Bool, (b = true → ∃ y ∈ l, ¬ Fit y) ∧ (b = false → ∀ y ∈ l, Fit y) := by
 by_cases h : ∀ y ∈ l, Fit y
 ·exact ⟨false, ⟨fun q => (by cases q), fun _ => h⟩⟩
 ·refine ⟨true, ⟨fun _ => ?_, fun q => (by cases q)⟩⟩
  exact Classical.byContradiction fun q => h fun y hy => Classical.byContradiction fun g => q ⟨y, hy, g⟩
theorem noNs_ok {ρ : Env} : NmsOK ρ noNs := ⟨fun _ _ h => by simp [noNs] at h, fun _ _ h => by simp [noNs] at h⟩
theorem ppS2_ok {ρ : Env} {b : Bool} (hs : ∀ y ∈ ρ.lst 5, Sm 4096 y) (hl : (ρ.lst 5).length ≤ 33) (h1 : b = true → ∃ y ∈ ρ.lst 5, ¬ Fit y) (h2 : b = false → ∀ y ∈ ρ.lst 5, Fit y) : SumF (symSig ρ) Try.prog (ppS2 b).1 (ppS2 b).2 := by
 refine unN_ok (fun _ h => by simp at h) noNs_ok (fun e => ?_) (fun c e hm w v hv hG hT => ?_) ovK_gives
 ·unfold ovK
  exact loc_cond (loc_ret _) (loc_giveT _ _ _)
 ·simp only [List.mem_cons, List.not_mem_nil, or_false, Prod.mk.injEq, true_and] at hm
  obtain ⟨rfl, rfl⟩ := hm
  show Calls Try.prog ppF ⟨[v]⟩ w fun en w' => (cond b (en = .returned (.tuple ⟨[.slice none 0 0, .bool false]⟩)) (QT ρ 0 (.bool true) 5 w en w')) ∧ Below w.heap.size w w'
  cases b with
  | true => exact polyPoly_bad w hs (h1 rfl) hl hv hG hT
  | false =>
   refine (polyPoly_any w (h2 rfl) hl hv hG hT).mono ?_
   rintro en w' ⟨y, q1, q2, q3⟩
   exact ⟨⟨y, q1, q2⟩, q3⟩
theorem pscale_any (w : World) {p : List Rat} {x : Rat} (hp : PolyOK p) (hl : p.length ≤ 33) (hx : Fit x) {u : Value} (hu : LsIn 0 w u p) (hG : Try.prog.globals.size ≤ w.heap.size) (hT : natSig.base w) :
  Calls Try.prog psF ⟨[u, .agg ⟨[.bool (Big.ng x), .string (bst (Big.nu x)), .string (bst (Big.de x))]⟩]⟩ w fun e w' => ((e = .returned (.tuple ⟨[.slice none 0 0, .int .i64 3]⟩) ∧ ∃ t ∈ trmm (sc p x), ¬ Fit t) ∨ ∃ y, e = .returned (.tuple ⟨[y, .int .i64 0]⟩) ∧ NewOl 0 w w' y (trmm (sc p x)) ∧ ∀ t ∈ trmm (sc p x), Fit t) ∧ Below w.heap.size w w' := by
 let E := l3Env p [] (trmm (sc p x)) x 0 hx fit00 w.heap.size
 obtain ⟨b, c1, c2⟩ := fit_orL (trmm (sc p x))
 have hA : AllH E [] := fun x hx => by simp at hx
 have hB : AllX E [] := fun x hx => by simp at hx
 have hmem : ∀ t ∈ trmm (sc p x), t ∈ sc p x := fun t ht => List.mem_of_mem_take ht
 have hsm : ∀ t ∈ trmm (sc p x), Sm 4096 t := fun t ht => by
  have h := hmem t ht
  unfold sc at h
  obtain ⟨y, hy, rfl⟩ := List.mem_map.1 h
  exact ((hp.fit y hy).sm.mul hx.sm).up (by decide)
 have hlen : (trmm (sc p x)).length ≤ 33 := by
  unfold trmm
  rw [List.length_take, sc_lenS]; omega
 have hS : SumOK (symSig E) Try.prog (psSums b) := sumsOf_ok fun z hz => by
  rcases List.mem_cons.1 hz with rfl | hz
  ·refine rpG_ok hB fun c e hm => ?_
   simp only [List.mem_cons, List.not_mem_nil, or_false, Prod.mk.injEq, true_and] at hm
   rcases hm with ⟨rfl, rfl⟩ | ⟨rfl, rfl⟩
   ·exact ⟨rfl, hp, hl⟩
   ·exact ⟨rfl, ⟨fun _ h => by simp [E, l3Env, l3Lst] at h, fun h => absurd rfl h⟩, Nat.zero_le _⟩
  rcases List.mem_cons.1 hz with rfl | hz
  ·exact ppS2_ok hsm hlen c1 c2
  rcases List.mem_cons.1 hz with rfl | hz
  ·refine siN_ok hB noNs_ok (loc_giveO _) (Q := QO E 1) (fun c y e hm w v u hv hu hG hT => ?_) giveO_gives
   simp only [List.mem_cons, List.not_mem_nil, or_false, Prod.mk.injEq] at hm
   obtain ⟨rfl, rfl, rfl⟩ := hm
   refine (scaleG_any w (p := p) (x := x) (fun y hy => (hp.fit y hy).sm.up (by decide)) (hx.sm.up (by decide)) hl (tmm_ok _) (tmm_sc hp.last x) hv hu hG hT).mono ?_
   rintro en w' ⟨y, q1, q2, q3⟩
   exact ⟨⟨y, q1, q2⟩, q3⟩
  ·exact symList_ok hA z hz
 have hh : HoldsL (symSig E) w [.ls 0 0, .ng (.v 9), .fn (.v 9), .fd (.v 9)] [u, .bool (Big.ng x), .string (bst (Big.nu x)), .string (bst (Big.de x))] := ⟨_, _, rfl, LsIn.ls hu rfl, by obtain ⟨a, m, rfl, _⟩ := hu; rfl, frac_holds (ρ := E) (.v 9)⟩
 cases b with
 | true =>
  refine (tells_calls (lsFits hA hB) hS ps_run.2 rfl glob_few hh hG hT (Nat.le_refl _) (.none rfl)).mono ?_
  rintro e w' ⟨v', rfl, ⟨vs, rfl, a, l1, rfl, h1, u2, l2, rfl, h2, rfl⟩, hb⟩
  have h1' : a = .slice none 0 0 := h1
  have h2' : u2 = .int .i64 3 := h2
  subst h1' h2'
  exact ⟨.inl ⟨rfl, c1 rfl⟩, hb⟩
 | false =>
  refine (tells_calls (lsFits hA hB) hS ps_run.1 rfl glob_few hh hG hT (Nat.le_refl _) (.none rfl)).mono ?_
  rintro e w' ⟨v', rfl, ⟨vs, rfl, a, l1, rfl, h1, u2, l2, rfl, h2, rfl⟩, hb⟩
  have h2' : u2 = .int .i64 0 := h2
  subst h2'
  exact ⟨.inr ⟨a, rfl, newOl_of (ρ := E) rfl h1 rfl (fun p hp => by cases hp), c2 rfl⟩, hb⟩
theorem padd_any (w : World) {p q : List Rat} (hp : PolyOK p) (hq : PolyOK q) (hl : p.length ≤ 33) (hl2 : q.length ≤ 33) {u v : Value} (hu : LsIn 0 w u p) (hv : LsIn 0 w v q) (hG : Try.prog.globals.size ≤ w.heap.size) (hT : natSig.base w) :
  Calls Try.prog paddF ⟨[u, v]⟩ w fun e w' => ((e = .returned (.tuple ⟨[.slice none 0 0, .int .i64 3]⟩) ∧ ∃ t ∈ trmm (pa p q), ¬ Fit t) ∨ ∃ y, e = .returned (.tuple ⟨[y, .int .i64 0]⟩) ∧ NewOl 0 w w' y (trmm (pa p q)) ∧ ∀ t ∈ trmm (pa p q), Fit t) ∧ Below w.heap.size w w' := by
 let E := l3Env p q (trmm (pa p q)) 0 0 fit00 fit00 w.heap.size
 obtain ⟨b, c1, c2⟩ := fit_orL (trmm (pa p q))
 have hA : AllH E [] := fun x hx => by simp at hx
 have hB : AllX E [] := fun x hx => by simp at hx
 have hpa : ∀ t ∈ pa p q, Sm 4096 t := fun t h => by
  unfold pa at h
  obtain ⟨i, _, rfl⟩ := List.mem_map.1 h
  exact ((getD_fit hp.fit i).sm.add (getD_fit hq.fit i).sm).up (by decide)
 have hsm : ∀ t ∈ trmm (pa p q), Sm 4096 t := fun t ht => hpa t (List.mem_of_mem_take ht)
 have hlen : (trmm (pa p q)).length ≤ 33 := by
  unfold trmm
  rw [List.length_take, pa_len]; omega
 have hS : SumOK (symSig E) Try.prog (paSums b) := sumsOf_ok fun z hz => by
  simp only [List.mem_cons, List.not_mem_nil, or_false] at hz
  rcases hz with rfl | rfl | rfl
  ·refine rpG_ok hB fun c e hm => ?_
   simp only [List.mem_cons, List.not_mem_nil, or_false, Prod.mk.injEq, true_and] at hm
   rcases hm with ⟨rfl, rfl⟩ | ⟨rfl, rfl⟩
   ·exact ⟨rfl, hp, hl⟩
   ·exact ⟨rfl, hq, hl2⟩
  ·exact ppS2_ok hsm hlen c1 c2
  ·refine biN_ok hB noNs_ok (loc_giveO _) (Q := QO E 1) (fun c d e hm w v u hv hu hG hT => ?_) giveO_gives
   simp only [List.mem_cons, List.not_mem_nil, or_false, Prod.mk.injEq] at hm
   obtain ⟨rfl, rfl, rfl⟩ := hm
   refine (addG_any w (p := p) (q := q) ⟨fun y hy => (hp.fit y hy).sm.up (by decide), fun y hy => (hq.fit y hy).sm.up (by decide), hpa⟩ (tmm_ok _) (by omega) (by omega) hv hu hG hT).mono ?_
   rintro en w' ⟨y, q1, q2, q3⟩
   exact ⟨⟨y, q1, q2⟩, q3⟩
 have hh : HoldsL (symSig E) w [.ls 0 0, .ls 0 3] [u, v] := ⟨_, _, rfl, LsIn.ls hu rfl, by obtain ⟨a, m, rfl, _⟩ := hu; rfl, _, _, rfl, LsIn.ls hv rfl, by obtain ⟨a, m, rfl, _⟩ := hv; rfl, rfl⟩
 cases b with
 | true =>
  refine (tells_calls (lsFits hA hB) hS padd_run.2 rfl glob_few hh hG hT (Nat.le_refl _) (.none rfl)).mono ?_
  rintro e w' ⟨v', rfl, ⟨vs, rfl, a, l1, rfl, h1, u2, l2, rfl, h2, rfl⟩, hb⟩
  have h1' : a = .slice none 0 0 := h1
  have h2' : u2 = .int .i64 3 := h2
  subst h1' h2'
  exact ⟨.inl ⟨rfl, c1 rfl⟩, hb⟩
 | false =>
  refine (tells_calls (lsFits hA hB) hS padd_run.1 rfl glob_few hh hG hT (Nat.le_refl _) (.none rfl)).mono ?_
  rintro e w' ⟨v', rfl, ⟨vs, rfl, a, l1, rfl, h1, u2, l2, rfl, h2, rfl⟩, hb⟩
  have h2' : u2 = .int .i64 0 := h2
  subst h2'
  exact ⟨.inr ⟨a, rfl, newOl_of (ρ := E) rfl h1 rfl (fun p hp => by cases hp), c2 rfl⟩, hb⟩
noncomputable def wk8F : Nat := 19
set_option maxHeartbeats 4000000 in
theorem wk8_run : tells [] [] (call Try.prog natCfg natSums 200 wk8F) = some (.one (.one (.p (.bool true)))) := by kernel_rfl
theorem works8_any (w : World) (hG : Try.prog.globals.size ≤ w.heap.size) (hT : natSig.base w) : Calls Try.prog wk8F ⟨[]⟩ w fun e w' => e = .returned (.bool true) ∧ Below w.heap.size w w' := by
 refine (tells_calls natFits natSums_ok wk8_run rfl glob_few (us := []) rfl hG hT).mono ?_
 rintro e w' ⟨v', rfl, h1, hb⟩
 have h1' : v' = .bool true := h1
 exact ⟨by rw [h1'], hb⟩
noncomputable def ssF : Nat := 6
noncomputable def wk8S : Nat × (List Value → Option (M Sy Value)) := (19, fun args => match args with
 | [] => some (ret (.bool true))
 | _ => none)
theorem wk8S_ok {ρ : Env} : SumF (symSig ρ) Try.prog wk8S.1 wk8S.2 := by
 intro args m e
 rcases args with _ | ⟨a, l⟩ <;> first | (cases (show none = some m from e); done) | skip
 cases e
 refine ⟨loc_ret _, fun h nx v h' nx' R W e r w args' hv hM hN => ?_⟩
 cases hv
 exact goes_pl e rfl hM (works8_any w hM.fits hM.base)
noncomputable def noChV : Value := .tuple ⟨[.agg ⟨[.slice none 0 0, .bool false, .slice none 0 0, .slice none 0 0]⟩, .bool false]⟩
noncomputable def isLr (f : Sy) : Bool := match f with
 | .lr c a => Nat.beq c 0 && Nat.beq a 1
 | _ => false
theorem isLr_ok {f : Sy} (h : isLr f = true) : f = .lr 0 1 := by
 unfold isLr at h
 split at h
 ·simp only [Bool.and_eq_true] at h
  rw [Nat.eq_of_beq_eq_true h.1, Nat.eq_of_beq_eq_true h.2]
 ·cases h
noncomputable def readB : Nat × (List Value → Option (M Sy Value)) := (47, fun args => match args with
 | [a] => match a with
  | .agg cs => match cs.toList with
   | [x, y] => some (bind (fact x) fun l => bind (fact y) fun f => cond (isLr l && isItV 8 f) (ret noChV) fail)
   | _ => none
  | _ => none
 | _ => none)
noncomputable def ssBad : Option (D3 Sy) := tells [.lr 0 1, .it (.v 8)] [.agg 2] (call Try.prog (lsCfg false [] [] noJ) (sumsOf (mkTab [wk8S, readB])) 60 ssF)
set_option maxHeartbeats 4000000 in
theorem ss_bad : ssBad = some (.one (.one (.p (.bool true)))) := by kernel_rfl
theorem readB_ok {ρ : Env} {z : Int} (h8 : ρ.q 8 = mkRat z 1) (hz1 : -9223372036854775808 ≤ z) (hz2 : z ≤ 9223372036854775807) (hf : ∀ y ∈ ρ.lst 0, Fit y)
  (hbad : 31 < ρ.nat 1 ∨ ¬ (z = 1 ∨ z = -1) ∨ (ρ.lst 0).length < ρ.nat 1 ∨ ∃ y ∈ ρ.lst 0, ¬ Big.nu y < Big.de y) : SumF (symSig ρ) Try.prog readB.1 readB.2 := by
 intro args m e
 rcases args with _ | ⟨a, _ | ⟨b, l⟩⟩ <;> first | (cases (show none = some m from e); done) | skip
 cases a with
 | agg cs =>
  obtain ⟨l⟩ := cs
  rcases l with _ | ⟨x, _ | ⟨y, _ | ⟨y2, l⟩⟩⟩ <;> first | (cases (show none = some m from e); done) | skip
  cases e
  refine ⟨loc_bind (loc_fact _) fun l => loc_bind (loc_fact _) fun f => loc_cond (loc_ret _) loc_fail, fun h nx v h' nx' R W e r w args' ha hM hN => ?_⟩
  cases ha with
  | cons h1 ha =>
   cases ha
   obtain ⟨us, rfl, hus⟩ := vr_agg h1
   cases hus with
   | cons hx hus => cases hus with
    | cons hy hus =>
     cases hus
     obtain ⟨l, g1, nx1, R1, W1, R2, W2, e1, e2, rfl, rfl⟩ := bind_ok e
     obtain ⟨rfl, rfl, rfl, hl⟩ := fact_ok e1 hx hM
     obtain ⟨f, g3, nx3, R3, W3, R4, W4, e3, e4, rfl, rfl⟩ := bind_ok e2
     obtain ⟨rfl, rfl, rfl, hf9⟩ := fact_ok e3 hy hM
     obtain ⟨hk, e5⟩ := cond_ok e4
     simp only [Bool.and_eq_true] at hk
     rw [isLr_ok hk.1] at hl
     rw [isItV_ok hk.2] at hf9
     have hf' : _ = Value.int .i64 (ρ.q 8).num := hf9
     rw [h8, mk1_num] at hf'
     subst hf'
     obtain ⟨ad, mm, k1, k2, k3, k4⟩ := (show lrIs ρ 0 1 w _ from hl)
     have hLr : LrIn w _ (ρ.lst 0) (ρ.nat 1) (ρ.raw 0) := ⟨ad, mm, k1, k2, k3, fun hp => by
      obtain ⟨b, off, cl, t, z, q1, _, q2, q3, q4⟩ := k4 hp
      exact ⟨b, off, cl, t, z, q1, q2, q3, q4⟩⟩
     simp only [List.nil_append]
     refine goes_pl e5 rfl hM ((read_bad w hf (ρ.bad 0) hLr hz1 hz2 hbad hM.fits hM.base).mono ?_)
     rintro en w' ⟨q1, q2⟩
     exact ⟨q1, q2⟩
 | _ => cases (show none = some m from e)
theorem ssigns_bad (w : World) {qs : List Rat} {n : Nat} {raw : Bool × ByteArray × ByteArray} {z : Int} (hf : ∀ y ∈ qs, Fit y) (hb : BadF raw) {v : Value} (hv : LrIn w v qs n raw) (hz1 : -9223372036854775808 ≤ z) (hz2 : z ≤ 9223372036854775807)
  (hbad : 31 < n ∨ ¬ (z = 1 ∨ z = -1) ∨ qs.length < n ∨ ∃ y ∈ qs, ¬ Big.nu y < Big.de y) (hG : Try.prog.globals.size ≤ w.heap.size) (hT : natSig.base w) :
  Calls Try.prog ssF ⟨[.agg ⟨[v, .int .i64 z]⟩]⟩ w fun e w' => e = .returned (.bool true) ∧ Below w.heap.size w w' := by
 have hzf : Fit (mkRat z 1) := fit_i64 hz1 hz2
 let E := chEnv qs z n raw hf hzf hb w.heap.size
 have hA : AllH E [] := fun x hx => by simp at hx
 have hB : AllX E [] := fun x hx => by simp at hx
 have hS : SumOK (symSig E) Try.prog (sumsOf (mkTab [wk8S, readB])) := sumsOf_ok fun x hx => by
  simp only [List.mem_cons, List.not_mem_nil, or_false] at hx
  rcases hx with rfl | rfl
  ·exact wk8S_ok
  ·exact readB_ok (z := z) rfl hz1 hz2 hf hbad
 have hlr : HoldsL (symSig E) w [.lr 0 1, .it (.v 8)] [v, .int .i64 z] :=
  ⟨_, _, rfl, hv.lr rfl rfl rfl rfl, by obtain ⟨a, m, rfl, _⟩ := hv; rfl, _, _, rfl, by
   show Value.int .i64 z = .int .i64 (mkRat z 1).num
   rw [mk1_num], rfl, rfl⟩
 refine (tells_calls (lsFits hA hB) hS ss_bad rfl glob_few hlr hG hT (Nat.le_refl _) (.none rfl)).mono ?_
 rintro e w' ⟨v', rfl, h1, hb⟩
 have h1' : v' = .bool true := h1
 exact ⟨by rw [h1'], hb⟩
noncomputable def frac8F : Nat := 23
noncomputable def twP : Value := .agg ⟨[.bool false, .string ⟨#[2]⟩, .string ⟨#[1]⟩]⟩
noncomputable def twC : Qe := .c false 2 1
noncomputable def fr21S : Nat × (List Value → Option (M Sy Value)) := (frac8F, fun args => match args with
 | [a, b] => cond (isIq 2 a && isIq 1 b) (some (ret twP)) none
 | _ => none)
noncomputable def longV : Value := .tuple ⟨[.slice none 0 0, .int .i64 3]⟩
noncomputable def eK (b : Bool) (e : Nat) : M Sy Value := cond b (ret longV) (giveT 0 (.int .i64 0) e)
noncomputable def fwK (a : Bool) : M Sy Value := cond a (ret (.tuple ⟨[.slice none 0 0, .slice none 0 0, .int .i64 3]⟩)) (bind (newOw (.ol 0 (.v 21) none)) fun k => bind (newFacts [.wl 2 0]) fun vs => ret (.tuple ⟨vs ++ [k, .int .i64 0]⟩))
noncomputable def fwS (s a : Bool) : Nat × (List Value → Option (M Sy Value)) := (fwF, fun args => match args with
 | [c] => match c with
  | .agg cs => match cs.toList with
   | [x, y] => some (bind (lsArg [] x) fun l => cond (isLe l 0 0 && isIq (sgI s) y) (fwK a) fail)
   | _ => none
  | _ => none
 | _ => none)
noncomputable def clS (s b1 b2 : Bool) : Nat × (List Value → Option (M Sy Value)) := (clF, fun args => match args with
 | [c, n] => match c with
  | .agg cs => match cs.toList with
   | [x, y] => some (bind (lsArg [] x) fun l => cond (isLe l 0 0 && isIq (sgI s) y) (cond (isIq 1 n) (eK b1 23) (cond (isIq (-1) n) (eK b2 24) fail)) fail)
   | _ => none
  | _ => none
 | _ => none)
noncomputable def ps9S (b : Bool) : Nat × (List Value → Option (M Sy Value)) := (psF, fun args => match args with
 | [a, x] => match x with
  | .agg cs => some (bind (lsArg [] a) fun l => bind (frcV cs.toList) fun o => match o with
   | some q => cond (isLe l 0 21 && q.beq twC) (eK b 30) fail
   | none => fail)
  | _ => none
 | _ => none)
noncomputable def pa9T : Tri3 := [(23, 24, 30)]
noncomputable def pa9S (b : Bool) : Nat × (List Value → Option (M Sy Value)) := (paddF, biA [] 0 pa9T (eK b))
noncomputable def s8T (b : Bool) : Tri3 := cond b [] [(30, 30, 1)]
noncomputable def s8S (b : Bool) : Nat × (List Value → Option (M Sy Value)) := (s8F, biA [] 0 (s8T b) fun _ => ret (.bool true))
noncomputable def isI11 (f : Sy) : Bool := match f with
 | .ix a s => Nat.beq a 1 && eqI s 1
 | _ => false
theorem isI11_ok {f : Sy} (h : isI11 f = true) : f = .ix 1 1 := by
 unfold isI11 at h
 split at h
 ·simp only [Bool.and_eq_true] at h
  rw [Nat.eq_of_beq_eq_true h.1, eqI_ok h.2]
 ·cases h
noncomputable def tdS9 (s : Bool) : Nat × (List Value → Option (M Sy Value)) := (tdF, fun args => match args with
 | [a, n, t] => some (bind (lsArg [] a) fun l => bind (fact n) fun f => cond (isI11 f) (cond (isLe l 0 23 && isIq (sgI (!s)) t) (ret (.bool true)) (cond (isLe l 0 24 && isIq (sgI s) t) (ret (.bool true)) fail)) fail)
 | _ => none)
noncomputable def ssLong (s a b1 b2 : Bool) : Option (D3 Sy) := tells [.ls 0 0] [.agq 1 (.int .i64 (sgI s))] (call Try.prog (lsCfg false [] [] noJ) (sumsOf (mkTab [wk8S, fwS s a, clS s b1 b2])) 60 ssF)
set_option maxHeartbeats 4000000 in
theorem ss_long (s a b1 b2 : Bool) (h : (a || b1 || b2) = true) : ssLong s a b1 b2 = some (.one (.one (.p (.bool true)))) := by
 cases s <;> cases a <;> cases b1 <;> cases b2 <;> first | (cases h; done) | kernel_rfl
noncomputable def ssFull (s b : Bool) : Option (D3 Sy) := tells [.ls 0 0] [.agq 1 (.int .i64 (sgI s))] (call Try.prog (lsCfg false [] [.ln 0 1, .bd 1] noJ) (sumsOf (mkTab [wk8S, fwS s false, clS s false false, fr21S, ps9S b, pa9S b, s8S b, tdS9 s])) 60 ssF)
set_option maxHeartbeats 4000000 in
theorem ss_full (s b : Bool) : ssFull s b = some (.one (.one (.p (.bool true)))) := by cases s <;> cases b <;> kernel_rfl
set_option maxHeartbeats 4000000 in
theorem fr21_run : tells [] [.p (.int .i64 2), .p (.int .i64 1)] (call Try.prog natCfg natSums 100 frac8F) = some (.one (.agg [.p (.bool false), .p (.string ⟨#[2]⟩), .p (.string ⟨#[1]⟩)])) := by kernel_rfl
end Ev
end Go.Proofs.Ytnlhjcfpfapafaa
