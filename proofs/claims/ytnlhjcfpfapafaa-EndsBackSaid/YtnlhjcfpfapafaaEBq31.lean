/- Contracts. -/
import Derived.Test.YtnlhjcfpfapafaaEBq29
import Derived.Test.YtnlhjcfpfapafaaEBq30
import Derived.ChangeArms
import Derived.WideShapes
namespace Go.Proofs.Ytnlhjcfpfapafaa
open Go Go.RowKit
namespace Ev
set_option maxRecDepth 100000
theorem ofQ_val {n : Int} {d : Nat} (hd : 0 < d) : ofQ n (d : Int) = (n : Rat) / (d : Rat) := by
 unfold ofQ
 have h2 : decide (((d : Nat) : Int) < 0) = false := decide_eq_false (by omega)
 rw [h2]
 have e : Big.sI (decide (n < 0) != false) n.natAbs = n := by
  unfold Big.sI
  by_cases h : n < 0
  ·rw [decide_eq_true h]
   simp
   omega
  ·rw [decide_eq_false h]
   simp
   omega
 rw [e, Int.natAbs_natCast, Rat.mkRat_eq_div]
theorem ofQ_lt {n m : Int} {d : Nat} (hd : 0 < d) (h : n < m) : ofQ n (d : Int) < ofQ m (d : Int) := by
 rw [ofQ_val hd, ofQ_val hd]
 have h1 : (n : Rat) < (m : Rat) := by exact_mod_cast h
 have h2 : (0 : Rat) < (d : Rat) := by exact_mod_cast hd
 obtain ⟨t, ht⟩ : ∃ t, t = (n : Rat) / (d : Rat) := ⟨_, rfl⟩
 obtain ⟨u, hu⟩ : ∃ u, u = (m : Rat) / (d : Rat) := ⟨_, rfl⟩
 have ht2 : t * (d : Rat) = n := by rw [ht]; exact rat_div_mul (by grind)
 have hu2 : u * (d : Rat) = m := by rw [hu]; exact rat_div_mul (by grind)
 rw [← ht, ← hu]
 apply Rat.not_le.1
 intro hle
 have := Rat.mul_le_mul_of_nonneg_right hle (Rat.le_of_lt h2)
 grind
theorem sm_by {k : Nat} {q : Rat} (h : Sm k q) : By (8 * k) q := by
 have h1 := h.nu.out
 have h2 := h.de.out
 rw [Big.M64_pow, ← Nat.pow_mul] at h1 h2
 exact ⟨h1, h2⟩
theorem sm_fit {k : Nat} {q : Rat} (h : Sm k q) (hk : 8 * k ≤ 512) : Fit q := (sm_by h).fit hk
theorem by_sm1 {q : Rat} (h : By 8 q) : Sm 1 q := ⟨Sz.bytes8 (szN_le h.nu), Sz.bytes8 (szN_le h.de)⟩
theorem ofQ_sm {n : Int} {d : Nat} (hd : 0 < d) (h0 : -9223372036854775808 ≤ n) (h1 : n ≤ 9223372036854775807) (h2 : d < 1000) : Sm 1 (ofQ n (d : Int)) := by_sm1 (ofQ_by (k := 8) (n := n) (d := (d : Int)) (by omega) (by omega) (by omega))
def ebN (ss : List (Nat × Nat)) : Nat := min ss.length 29 + 1
theorem rwQ_get (ss : List (Nat × Nat)) {N i : Nat} (h : i < N) : (rwQ ss N).getD i 0 = ofQ (stpA ss i) 4 := by
 rw [List.getD_eq_getElem?_getD]; simp [rwQ, List.getElem?_range h]
theorem rwR_get (ss : List (Nat × Nat)) {N i : Nat} (h : i < N) : (rwR ss N).getD i 0 = ofQ (stpB ss i) 6 := by
 rw [List.getD_eq_getElem?_getD]; simp [rwR, List.getElem?_range h]
section
variable {ss : List (Nat × Nat)} (hs : ∀ p ∈ ss, p.1 < 256 ∧ p.2 < 256)
include hs
theorem rwQ_sm {N : Nat} (hN : N ≤ 30) : ∀ q ∈ rwQ ss N, Sm 1 q := fun q hq => by
 simp only [rwQ, List.mem_map, List.mem_range] at hq
 obtain ⟨i, hi, rfl⟩ := hq
 have := stpA_bd hs i
 exact ofQ_sm (d := 4) (by omega) (by omega) (by omega) (by omega)
theorem rwR_sm {N : Nat} (hN : N ≤ 30) : ∀ q ∈ rwR ss N, Sm 1 q := fun q hq => by
 simp only [rwR, List.mem_map, List.mem_range] at hq
 obtain ⟨i, hi, rfl⟩ := hq
 have := stpB_bd hs i
 exact ofQ_sm (d := 6) (by omega) (by omega) (by omega) (by omega)
omit hs in
theorem rwQ_rises (N : Nat) : Rises (rwQ ss N) := fun i hi => by
 have hl : (rwQ ss N).length = N := by simp [rwQ]
 rw [rwQ_get ss (by omega), rwQ_get ss (by omega)]
 refine ofQ_lt (d := 4) (by omega) ?_
 show stpA ss i < stpA ss i + 1 + _
 omega
omit hs in
theorem rwR_rises (N : Nat) : Rises (rwR ss N) := fun i hi => by
 have hl : (rwR ss N).length = N := by simp [rwR]
 rw [rwR_get ss (by omega), rwR_get ss (by omega)]
 refine ofQ_lt (d := 6) (by omega) ?_
 show stpB ss i < stpB ss i + 1 + _
 omega
end
def ebQ (n m : Int) (qs : List Rat) (a b : Rat) : Nat → Rat
 | 1 => n
 | 2 => m
 | 5 => qs.getD 0 0
 | 6 => qs.getD (qs.length - 1) 0
 | 8 => ofQ n (12 : Nat)
 | 9 => ofQ m (12 : Nat)
 | 11 => a
 | 12 => b
 | 13 => a + ofQ 5 (3 : Nat)
 | 14 => ofQ 5 (3 : Nat)
 | _ => 0
def ebLst (qs rs : List Rat) : Nat → List Rat
 | 0 => qs
 | 1 => rs
 | _ => []
def ebNat (k : Nat) : Nat → Nat
 | 1 => k
 | _ => 0
noncomputable abbrev ebX (ss : List (Nat × Nat)) (qs rs : List Rat) (lo : Nat) : Fz where
 t := ebFz
 is i w v := match i with
  | 0 => StIn lo w v ss
  | 1 => TabIn w v qs rs
  | _ => False
 one i w v h := by
  match i, h with
  | 0, h => obtain ⟨a, m, rfl, _⟩ := (show StIn lo w v ss from h); rfl
  | 1, h => obtain ⟨b, s, u1, u2, rfl, _⟩ := (show TabIn w v qs rs from h); rfl
  | _ + 2, h => exact h.elim
 lo := lo
 stable i w w' v h hk := by
  match i, h with
  | 0, h =>
   obtain ⟨a, m, h1, h2, h3⟩ := (show StIn lo w v ss from h)
   exact ⟨a, m, h1, h2, fun hp => by
    obtain ⟨b, off, cl, t, z, k1, k2, k3, k4⟩ := h3 hp
    exact ⟨b, off, cl, t, z, k1, k2, hk _ _ _ _ k3 (.inl k2), k4⟩⟩
  | 1, h => exact (show TabIn w v qs rs from h).stay fun b c t z g1 g2 => hk b c t z g1 (by
     rcases g2 with rfl | rfl | rfl | g2
     ·exact .inr (.inl (by decide))
     ·exact .inr (.inl (by decide))
     ·exact .inr (.inl (by decide))
     ·exact .inr (.inr g2))
  | _ + 2, h => exact h.elim
section
variable {n m : Int} {ss : List (Nat × Nat)} {lo : Nat} {a b : Rat}
theorem ebQ_fit (hn : -32768 ≤ n ∧ n ≤ 32767) (hm : -32768 ≤ m ∧ m ≤ 32767) {qs : List Rat} (hq : ∀ q ∈ qs, Fit q) (ha : Sm 11 a) (hb : Sm 11 b) (i : Nat) : Fit (ebQ n m qs a b i) := by
 have hi : ∀ k : Int, -32768 ≤ k ∧ k ≤ 32767 → Fit (k : Rat) := fun k hk => by
  have e : (k : Rat) = ofQ k (1 : Nat) := by rw [ofQ_val (by omega)]; simp; grind
  rw [e]
  exact sm_fit (k := 1) (ofQ_sm (by omega) (by omega) (by omega) (by omega)) (by omega)
 have h53 : Sm 1 (ofQ 5 (3 : Nat)) := ofQ_sm (by omega) (by omega) (by omega) (by omega)
 unfold ebQ
 split
 ·exact hi n hn
 ·exact hi m hm
 ·exact getD_fit hq _
 ·exact getD_fit hq _
 ·exact sm_fit (k := 1) (ofQ_sm (by omega) (by omega) (by omega) (by omega)) (by omega)
 ·exact sm_fit (k := 1) (ofQ_sm (by omega) (by omega) (by omega) (by omega)) (by omega)
 ·exact sm_fit ha (by omega)
 ·exact sm_fit hb (by omega)
 ·exact sm_fit (sm_add1 ha h53) (by omega)
 ·exact sm_fit h53 (by omega)
 ·exact fit00
noncomputable def ebEnv (n m : Int) (ss : List (Nat × Nat)) (qs rs : List Rat) (lo : Nat) (a b : Rat) (hf : ∀ i, Fit (ebQ n m qs a b i)) : Env := @Env.mk (ebQ n m qs a b) (fun _ => (false, ⟨#[]⟩, ⟨#[]⟩)) (fun i _ => hf i) (fun i => (hf i).sm.up (by decide)) (fun _ => bad_zero) lo (ebLst qs rs) (ebNat qs.length) rfl (ebX ss qs rs lo)
variable {qs rs : List Rat} {hf : ∀ i, Fit (ebQ n m qs a b i)}
theorem goF {ρ : Env} {f : FuncId} {vs : List Value} {w : World} {e : Qe} {q : Rat} (he : e.ev ρ.q = q) (h : Calls Try.prog f ⟨vs⟩ w fun en w' => en = .returned (fracV q) ∧ Below w.heap.size w w') : Calls Try.prog f ⟨vs⟩ w fun en w' => ∃ us, HoldsL (symSig ρ) w' (anF e).fs us ∧ en = .returned ((anF e).wrap us) ∧ Below w.heap.size w w' :=
 h.mono fun en w' hh => ⟨frC q, by rw [← he]; exact frC_holds e, hh.1, hh.2⟩
theorem goFE {ρ : Env} {f : FuncId} {vs : List Value} {w : World} {e : Qe} {q : Rat} {k : Int} (he : e.ev ρ.q = q) (h : Calls Try.prog f ⟨vs⟩ w fun en w' => en = .returned (.tuple ⟨[fracV q, .int .i64 k]⟩) ∧ Below w.heap.size w w') : Calls Try.prog f ⟨vs⟩ w fun en w' => ∃ us, HoldsL (symSig ρ) w' (anFE e k).fs us ∧ en = .returned ((anFE e k).wrap us) ∧ Below w.heap.size w w' :=
 h.mono fun en w' hh => ⟨frC q, by rw [← he]; exact frC_holds e, hh.1, hh.2⟩
theorem goZ {ρ : Env} {f : FuncId} {vs : List Value} {w : World} {k : Int} (h : Calls Try.prog f ⟨vs⟩ w fun en w' => en = .returned (zFrE k) ∧ Below w.heap.size w w') : Calls Try.prog f ⟨vs⟩ w fun en w' => ∃ us, HoldsL (symSig ρ) w' (anZ k).fs us ∧ en = .returned ((anZ k).wrap us) ∧ Below w.heap.size w w' :=
 h.mono fun en w' hh => ⟨[], rfl, hh.1, hh.2⟩
theorem goI {ρ : Env} {f : FuncId} {vs : List Value} {w : World} {k : Int} (h : Calls Try.prog f ⟨vs⟩ w fun en w' => en = .returned (.int .i64 k) ∧ Below w.heap.size w w') : Calls Try.prog f ⟨vs⟩ w fun en w' => ∃ us, HoldsL (symSig ρ) w' (anI k).fs us ∧ en = .returned ((anI k).wrap us) ∧ Below w.heap.size w w' :=
 h.mono fun en w' hh => ⟨[], rfl, hh.1, hh.2⟩
theorem goII {ρ : Env} {f : FuncId} {vs : List Value} {w : World} {k l : Int} (h : Calls Try.prog f ⟨vs⟩ w fun en w' => en = .returned (.tuple ⟨[.int .i64 k, .int .i64 l]⟩) ∧ Below w.heap.size w w') : Calls Try.prog f ⟨vs⟩ w fun en w' => ∃ us, HoldsL (symSig ρ) w' (anII k l).fs us ∧ en = .returned ((anII k l).wrap us) ∧ Below w.heap.size w w' :=
 h.mono fun en w' hh => ⟨[], rfl, hh.1, hh.2⟩
theorem goB {ρ : Env} {f : FuncId} {vs : List Value} {w : World} {k : Bool} (h : Calls Try.prog f ⟨vs⟩ w fun en w' => en = .returned (.bool k) ∧ Below w.heap.size w w') : Calls Try.prog f ⟨vs⟩ w fun en w' => ∃ us, HoldsL (symSig ρ) w' (anB k).fs us ∧ en = .returned ((anB k).wrap us) ∧ Below w.heap.size w w' :=
 h.mono fun en w' hh => ⟨[], rfl, hh.1, hh.2⟩
theorem pts0 {ρ : Env} {w : World} {vs : List Value} (h : PtsIs ρ w [] vs) : vs = [] := h
theorem pts1 {ρ : Env} {w : World} {x : Pt} {vs : List Value} (h : PtsIs ρ w [x] vs) : ∃ v, vs = [v] ∧ x.is ρ w v := by
 obtain ⟨v, l, rfl, h1, h2⟩ := h
 obtain rfl : l = [] := h2
 exact ⟨v, rfl, h1⟩
theorem pts2 {ρ : Env} {w : World} {x y : Pt} {vs : List Value} (h : PtsIs ρ w [x, y] vs) : ∃ v u, vs = [v, u] ∧ x.is ρ w v ∧ y.is ρ w u := by
 obtain ⟨v, l, rfl, h1, h2⟩ := h
 obtain ⟨u, rfl, h3⟩ := pts1 h2
 exact ⟨v, u, rfl, h1, h3⟩
theorem pts3 {ρ : Env} {w : World} {x y z : Pt} {vs : List Value} (h : PtsIs ρ w [x, y, z] vs) : ∃ v u t, vs = [v, u, t] ∧ x.is ρ w v ∧ y.is ρ w u ∧ z.is ρ w t := by
 obtain ⟨v, l, rfl, h1, h2⟩ := h
 obtain ⟨u, t, rfl, h3, h4⟩ := pts2 h2
 exact ⟨v, u, t, rfl, h1, h3, h4⟩
theorem sg_ex (q : Rat) : (q < 0 ∧ sgQ q = sg 0) ∨ (q = 0 ∧ sgQ q = sg 1) ∨ (0 < q ∧ sgQ q = sg 2) := by
 unfold sgQ
 by_cases h : Big.ng q = true
 ·rw [if_pos h]
  refine .inl ⟨?_, rfl⟩
  unfold Big.ng at h
  rw [decide_eq_true_iff, ← Int.not_le, Rat.num_nonneg, Rat.not_le] at h
  exact h
 ·rw [if_neg h]
  have h2 : 0 ≤ q := by
   unfold Big.ng at h
   rw [decide_eq_true_iff, Int.not_lt, Rat.num_nonneg] at h
   exact h
  by_cases h0 : Big.nu q = 0
  ·rw [if_pos h0]
   exact .inr (.inl ⟨Big.nu_zero.1 h0, rfl⟩)
  ·rw [if_neg h0]
   refine .inr (.inr ⟨?_, rfl⟩)
   have : q ≠ 0 := fun e => h0 (Big.nu_zero.2 e)
   grind
theorem cmp_go {ρ : Env} {w : World} {e1 e2 : Qe} {s : Int} {vs : List Value} (h1 : Fit (e1.ev ρ.q)) (h2 : Fit (e2.ev ρ.q)) (hs : sgQ (e1.ev ρ.q - e2.ev ρ.q) = s) (h : PtsIs ρ w [.fr e1, .fr e2] vs) : Calls Try.prog 15 ⟨vs⟩ w fun en w' => ∃ us, HoldsL (symSig ρ) w' (anII s 0).fs us ∧ en = .returned ((anII s 0).wrap us) ∧ Below w.heap.size w w' := by
 obtain ⟨v, u, rfl, q1, q2⟩ := pts2 h
 have q1' : v = frQ (e1.ev ρ.q) := q1
 have q2' : u = frQ (e2.ev ρ.q) := q2
 subst q1' q2'
 have c := raCmp_any w _ _ h1 h2
 rw [cmpQ_sgn, hs] at c
 exact goII (c.mono fun en w' hh => ⟨hh.1, hh.2⟩)
structure EbOK (n m : Int) (ss : List (Nat × Nat)) (qs rs : List Rat) (a b : Rat) (gx gy : Bool) (s0 sL sxy : Int) : Prop where
 hn : -32768 ≤ n ∧ n ≤ 32767
 hm : -32768 ≤ m ∧ m ≤ 32767
 hq : ∀ q ∈ qs, Sm 1 q
 hr : ∀ q ∈ rs, Sm 1 q
 q1 : qs = rwQ ss (ebN ss)
 r1 : rs = rwR ss (ebN ss)
 ha : Sm 11 a
 hb : Sm 11 b
 la : ∃ c, PlAt qs (ofQ n (12 : Nat)) c ∧ linAt qs rs (ofQ n (12 : Nat)) c = cond gx (some a) none
 lb : ∃ c, PlAt qs (ofQ m (12 : Nat)) c ∧ linAt qs rs (ofQ m (12 : Nat)) c = cond gy (some b) none
 c0 : sgQ (ofQ n (12 : Nat) - qs.getD 0 0) = s0
 cL : sgQ (ofQ n (12 : Nat) - qs.getD (qs.length - 1) 0) = sL
 cx : gx = true → gy = true → sgQ (ofQ n (12 : Nat) - ofQ m (12 : Nat)) = sxy
 ca : gx = true → gy = true → sgQ (a - b) = sxy
section
variable {gx gy : Bool} {s0 sL sxy : Int} (H : EbOK n m ss qs rs a b gx gy s0 sL sxy)
include H
theorem eb_len : qs.length = ebN ss ∧ rs.length = ebN ss := by rw [H.q1, H.r1]; simp [rwQ, rwR]
theorem eb_ne : qs ≠ [] := fun h => by
 have := (eb_len H).1
 rw [h] at this
 unfold ebN at this
 simp at this
theorem eb_rises : Rises qs ∧ Rises rs := by rw [H.q1, H.r1]; exact ⟨rwQ_rises _, rwR_rises _⟩
theorem eb_30 : qs.length ≤ 30 := by rw [(eb_len H).1]; unfold ebN; omega
theorem eb_fits : (∀ q ∈ qs, Fit q) ∧ (∀ q ∈ rs, Fit q) := ⟨fun q h => sm_fit (H.hq q h) (by omega), fun q h => sm_fit (H.hr q h) (by omega)⟩
theorem eb_pos (h : gx = true) : 0 < a := by
 obtain ⟨c, hc, hl⟩ := H.la
 rw [h] at hl
 have h1 := lin_ge (eb_rises H).1 (eb_rises H).2 ((eb_len H).2.trans (eb_len H).1.symm) hc hl
 have h2 : rs.getD 0 0 = ofQ (stpB ss 0) (6 : Nat) := by rw [H.r1]; exact rwR_get ss (by unfold ebN; omega)
 rw [h2, ofQ_val (by omega)] at h1
 have h3 : (((stpB ss 0 : Int) : Rat) / ((6 : Nat) : Rat)) = 1 / 6 := by
  show (((1 : Int) : Rat) / ((6 : Nat) : Rat)) = 1 / 6
  norm_cast
 rw [h3] at h1
 have h4 : (0 : Rat) < 1 / 6 := by grind
 grind
theorem tabRows : TabOK (ebEnv n m ss qs rs lo a b hf) 14 ebRows := fun x hx w vs hp hG hT hlo => by
 obtain rfl := List.mem_singleton.1 hx
 obtain ⟨v, rfl, h1⟩ := pts1 hp
 have h1' : StIn lo w v ss := (show (ebX ss qs rs lo).is 0 w v ∧ _ from h1).1
 refine (rows_any w h1').mono ?_
 rintro en w' ⟨u, rfl, hu, hb⟩
 refine ⟨[u], ⟨u, [], rfl, ?_, ?_, rfl⟩, rfl, hb⟩
 ·obtain ⟨g, k, cl, z, rfl, k1, k2, k3, k4⟩ := hu
  have e1 : rwQ ss (min ss.length 29 + 1) = qs := H.q1.symm
  have e2 : rwR ss (min ss.length 29 + 1) = rs := H.r1.symm
  rw [e1, e2] at k4
  rw [e1] at k1
  refine ⟨some ⟨g, 0, none⟩, k, by rw [e1]; rfl, k1, fun _ => ⟨g, 0, cl, _, z, rfl, .inr ?_, k3, k4⟩⟩
  show ebFz 30 = true
  kernel_rfl
 ·obtain ⟨g, k, cl, z, rfl, _⟩ := hu; rfl
theorem tabNew : TabOK (ebEnv n m ss qs rs lo a b hf) 7 ebNew := fun x hx w vs hp hG hT hlo => by
 obtain rfl := List.mem_singleton.1 hx
 obtain ⟨v, rfl, h1⟩ := pts1 hp
 have h1' : rlIs (ebEnv n m ss qs rs lo a b hf) 0 w v := h1
 have h2 : RlIn w v qs rs := by
  obtain ⟨a', k, k1, k2, k3⟩ := h1'
  exact ⟨a', k, k1, k2, fun hp => by
   obtain ⟨g, off, cl, t, z, q1, _, q3, q4⟩ := k3 hp
   exact ⟨g, off, cl, t, z, q1, q3, q4⟩⟩
 refine (new_any w (eb_fits H).1 (eb_fits H).2 ((eb_len H).2.trans (eb_len H).1.symm) (eb_ne H) (by have := eb_30 H; omega) (eb_rises H).1 (eb_rises H).2 h2 hG hT).mono ?_
 rintro en w' ⟨u, rfl, hu, hb⟩
 refine ⟨[u], ⟨u, [], rfl, ⟨hu, Nat.le_refl _⟩, ?_, rfl⟩, rfl, hb⟩
 obtain ⟨g, s, u1, u2, rfl, _⟩ := hu; rfl
omit H in
theorem tabOf (hn : -32768 ≤ n ∧ n ≤ 32767) (hm : -32768 ≤ m ∧ m ≤ 32767) : TabOK (ebEnv n m ss qs rs lo a b hf) 8 ebOf := fun x hx w vs hp hG hT hlo => by
 simp only [ebOf, List.mem_cons, List.not_mem_nil, or_false] at hx
 rcases hx with rfl | rfl | rfl
 ·obtain ⟨v, u, rfl, h1, h2⟩ := pts2 hp
  have h1' : v = .int .i64 n := h1
  have h2' : u = .int .i64 12 := h2
  subst h1' h2'
  exact goF (ρ := ebEnv n m ss qs rs lo a b hf) (e := .v 8) rfl (of13_any w n 12 (by omega) (by omega) (by omega) (by omega) (by omega))
 ·obtain ⟨v, u, rfl, h1, h2⟩ := pts2 hp
  have h1' : v = .int .i64 m := h1
  have h2' : u = .int .i64 12 := h2
  subst h1' h2'
  exact goF (ρ := ebEnv n m ss qs rs lo a b hf) (e := .v 9) rfl (of13_any w m 12 (by omega) (by omega) (by omega) (by omega) (by omega))
 ·obtain ⟨v, u, rfl, h1, h2⟩ := pts2 hp
  have h1' : v = .int .i64 5 := h1
  have h2' : u = .int .i64 3 := h2
  subst h1' h2'
  exact goF (ρ := ebEnv n m ss qs rs lo a b hf) (e := .v 14) rfl (of13_any w 5 3 (by omega) (by omega) (by omega) (by omega) (by omega))
theorem tabAt1 (x : Rat) (g : Bool) (y : Rat) (e1 e2 : Qe) (he1 : e1.ev (ebEnv n m ss qs rs lo a b hf).q = x) (he2 : e2.ev (ebEnv n m ss qs rs lo a b hf).q = y) (hx : Fit x) (hy : Fit y) (hl : ∃ c, PlAt qs x c ∧ linAt qs rs x c = cond g (some y) none) {w : World} {vs : List Value}
  (hp : PtsIs (ebEnv n m ss qs rs lo a b hf) w [.f (.oq 1), .fr e1] vs) (hG : Try.prog.globals.size ≤ w.heap.size) (hT : natSig.base w) : Calls Try.prog 9 ⟨vs⟩ w fun e w' => ∃ us, HoldsL (symSig (ebEnv n m ss qs rs lo a b hf)) w' (cond g (anFE e2 0) (anZ 130)).fs us ∧ e = .returned ((cond g (anFE e2 0) (anZ 130)).wrap us) ∧ Below w.heap.size w w' := by
 obtain ⟨v, u, rfl, h1, h2⟩ := pts2 hp
 have h1' : TabIn w v qs rs := (show (ebX ss qs rs lo).is 1 w v ∧ _ from h1).1
 have h2' : u = frV x := by rw [← he1]; exact h2
 subst h2'
 obtain ⟨c, hc, hll⟩ := hl
 have c0 := tab_any false w (eb_fits H).1 (eb_fits H).2 hx (by have := eb_30 H; omega) ((eb_len H).2.trans (eb_len H).1.symm) (eb_ne H) hc.1 hc.2.1 hc.2.2 h1' hG hT
 rw [hll] at c0
 cases g with
 | true => exact goFE he2 (c0.mono fun en w' hh => ⟨by
    rcases hh.1 with ⟨_, q⟩ | ⟨q, _⟩
    ·exact q
    ·exact absurd hy q, hh.2⟩)
 | false => exact goZ (c0.mono fun en w' hh => ⟨hh.1, hh.2⟩)
end
end
section
variable {n m : Int} {ss : List (Nat × Nat)} {lo : Nat} {a b : Rat} {qs rs : List Rat} {hf : ∀ i, Fit (ebQ n m qs a b i)} {gx gy : Bool} {s0 sL sxy : Int} (H : EbOK n m ss qs rs a b gx gy s0 sL sxy)
include H
theorem tabAt : TabOK (ebEnv n m ss qs rs lo a b hf) 9 (ebAt gx gy) := fun x hx w vs hp hG hT hlo => by
 simp only [ebAt, List.mem_cons, List.not_mem_nil, or_false] at hx
 rcases hx with rfl | rfl
 ·exact tabAt1 H _ gx a (.v 8) (.v 11) rfl rfl (hf 8) (hf 11) H.la hp hG hT
 ·exact tabAt1 H _ gy b (.v 9) (.v 12) rfl rfl (hf 9) (hf 12) H.lb hp hG hT
theorem tabCmp : TabOK (ebEnv n m ss qs rs lo a b hf) 15 (ebCmp gx gy s0 sL sxy) := fun x hx w vs hp hG hT hlo => by
 rcases List.mem_append.1 hx with hx | hx
 ·simp only [List.mem_cons, List.not_mem_nil, or_false] at hx
  rcases hx with rfl | rfl
  ·exact cmp_go (ρ := ebEnv n m ss qs rs lo a b hf) (e1 := .v 8) (e2 := .v 5) (hf 8) (hf 5) H.c0 hp
  ·exact cmp_go (ρ := ebEnv n m ss qs rs lo a b hf) (e1 := .v 8) (e2 := .v 6) (hf 8) (hf 6) H.cL hp
 ·cases hgx : gx with
  | false => rw [hgx] at hx; simp at hx
  | true =>
   cases hgy : gy with
   | false => rw [hgx, hgy] at hx; simp at hx
   | true =>
    rw [hgx, hgy] at hx
    simp only [Bool.and_self, cond_true, List.mem_cons, List.not_mem_nil, or_false] at hx
    rcases hx with rfl | rfl
    ·exact cmp_go (ρ := ebEnv n m ss qs rs lo a b hf) (e1 := .v 8) (e2 := .v 9) (hf 8) (hf 9) (H.cx hgx hgy) hp
    ·exact cmp_go (ρ := ebEnv n m ss qs rs lo a b hf) (e1 := .v 11) (e2 := .v 12) (hf 11) (hf 12) (H.ca hgx hgy) hp
theorem tabBk : TabOK (ebEnv n m ss qs rs lo a b hf) 11 (ebBk gx) := fun x hx w vs hp hG hT hlo => by
 unfold ebBk at hx
 cases hgx : gx with
 | false => rw [hgx] at hx; simp at hx
 | true =>
  rw [hgx] at hx
  obtain rfl := List.mem_singleton.1 hx
  obtain ⟨v, u, rfl, h1, h2⟩ := pts2 hp
  have h1' : TabIn w v qs rs := (show (ebX ss qs rs lo).is 1 w v ∧ _ from h1).1
  have h2' : u = frV a := h2
  subst h2'
  obtain ⟨c, hc, hll⟩ := H.la
  rw [hgx] at hll
  have hlr := (eb_len H).2.trans (eb_len H).1.symm
  have hpl := (lin_place (eb_rises H).1 (eb_rises H).2 hlr hc hll).1
  have hbk := lin_back (eb_rises H).1 (eb_rises H).2 hlr hc hll
  have c0 := tab_any true w (eb_fits H).2 (eb_fits H).1 (show Fit a from hf 11) (by have := eb_30 H; omega) hlr.symm (fun q => by
   have := eb_ne H
   have h0 : rs.length = 0 := by rw [q]; rfl
   exact this (List.length_eq_zero_iff.1 (by omega))) hpl.1 hpl.2.1 hpl.2.2 h1' hG hT
  rw [hbk] at c0
  exact goFE (ρ := ebEnv n m ss qs rs lo a b hf) (e := .v 8) (q := ofQ n (12 : Nat)) rfl (c0.mono fun en w' hh => ⟨by
   rcases hh.1 with ⟨_, q⟩ | ⟨q, _⟩
   ·exact q
   ·exact absurd (hf 8) q, hh.2⟩)
omit H in
theorem tabAdd : TabOK (ebEnv n m ss qs rs lo a b hf) 16 (ebAdd gx) := fun x hx w vs hp hG hT hlo => by
 unfold ebAdd at hx
 cases hgx : gx with
 | false => rw [hgx] at hx; simp at hx
 | true =>
  rw [hgx] at hx
  obtain rfl := List.mem_singleton.1 hx
  obtain ⟨v, u, rfl, h1, h2⟩ := pts2 hp
  have h1' : v = frQ a := h1
  have h2' : u = frQ (ofQ 5 (3 : Nat)) := h2
  subst h1' h2'
  exact goFE (ρ := ebEnv n m ss qs rs lo a b hf) (e := .v 13) rfl ((raAdd_fit w a (ofQ 5 (3 : Nat)) (hf 11) (hf 14) (hf 13)).mono fun en w' hh => ⟨hh.1, hh.2⟩)
theorem tabCut : TabOK (ebEnv n m ss qs rs lo a b hf) 10 (ebCut gx) := fun x hx w vs hp hG hT hlo => by
 unfold ebCut at hx
 cases hgx : gx with
 | false => rw [hgx] at hx; simp at hx
 | true =>
  rw [hgx] at hx
  obtain ⟨c, hc, hll⟩ := H.la
  rw [hgx] at hll
  have hpos := eb_pos H hgx
  have hlr := (eb_len H).2.trans (eb_len H).1.symm
  have h53 : (0 : Rat) < ofQ 5 (3 : Nat) := by
   rw [ofQ_val (by omega)]
   have : (((5 : Int) : Rat) / ((3 : Nat) : Rat)) = 5 / 3 := by norm_cast
   rw [this]; grind
  simp only [cond_true, List.mem_cons, List.not_mem_nil, or_false] at hx
  rcases hx with rfl | rfl
  ·obtain ⟨v, u, t, rfl, h1, h2, h3⟩ := pts3 hp
   have h1' : TabIn w v qs rs := (show (ebX ss qs rs lo).is 1 w v ∧ _ from h1).1
   have h2' : u = frV (a + ofQ 5 (3 : Nat)) := h2
   have h3' : t = frV (ofQ n (12 : Nat)) := h3
   subst h2' h3'
   have c0 := cut_any w (eb_fits H).1 (eb_fits H).2 (show Fit (ofQ n (12 : Nat)) from hf 8) (show Fit (a + ofQ 5 (3 : Nat)) from hf 13) (show 0 < a + ofQ 5 (3 : Nat) by grind) (by have := eb_30 H; omega) hlr (eb_ne H) hc.1 hc.2.1 hc.2.2 hll h1' hG hT
   refine goFE (ρ := ebEnv n m ss qs rs lo a b hf) (e := .v 14) (q := ofQ 5 (3 : Nat)) rfl (c0.mono fun en w' hh => ⟨?_, hh.2⟩)
   have e : a + ofQ 5 (3 : Nat) - a = ofQ 5 (3 : Nat) := by grind
   rcases hh.1 with ⟨q, _⟩ | ⟨_, ⟨_, q⟩ | ⟨q, _⟩⟩
   ·exfalso; grind
   ·rw [e] at q; exact q
   ·rw [e] at q; exact absurd (hf 14) q
  ·obtain ⟨v, u, t, rfl, h1, h2, h3⟩ := pts3 hp
   have h1' : TabIn w v qs rs := (show (ebX ss qs rs lo).is 1 w v ∧ _ from h1).1
   have h2' : u = frV a := h2
   have h3' : t = frV (ofQ n (12 : Nat)) := h3
   subst h2' h3'
   have c0 := cut_any w (eb_fits H).1 (eb_fits H).2 (show Fit (ofQ n (12 : Nat)) from hf 8) (show Fit a from hf 11) hpos (by have := eb_30 H; omega) hlr (eb_ne H) hc.1 hc.2.1 hc.2.2 hll h1' hG hT
   refine goZ (c0.mono fun en w' hh => ⟨?_, hh.2⟩)
   rcases hh.1 with ⟨_, q⟩ | ⟨q, _⟩
   ·exact q
   ·exfalso; grind
theorem tabSgn : TabOK (ebEnv n m ss qs rs lo a b hf) 17 (ebSgn gx) := fun x hx w vs hp hG hT hlo => by
 unfold ebSgn at hx
 cases hgx : gx with
 | false => rw [hgx] at hx; simp at hx
 | true =>
  rw [hgx] at hx
  obtain rfl := List.mem_singleton.1 hx
  obtain ⟨v, rfl, h1⟩ := pts1 hp
  have h1' : v = frQ a := h1
  subst h1'
  have hpos := eb_pos H hgx
  have c0 := raSign_any w a (hf 11)
  have e : sgQ a = 1 := by
   rcases sg_ex a with ⟨q, _⟩ | ⟨q, _⟩ | ⟨_, q⟩
   ·exfalso; grind
   ·exfalso; grind
   ·exact q
  rw [e] at c0
  exact goI c0
omit H in
theorem tabWks : TabOK (ebEnv n m ss qs rs lo a b hf) 13 ebWks := fun x hx w vs hp hG hT hlo => by
 obtain rfl := List.mem_singleton.1 hx
 obtain rfl := pts0 hp
 exact goB (runsN_calls (l := []) (fun _ h => by cases h) works13_run (by kernel_rfl) hG hT)
theorem ebSums_ok : SumOK (symSig (ebEnv n m ss qs rs lo a b hf)) Try.prog (ebSums gx gy s0 sL sxy) := sumsOf_ok fun x hx => by
 simp only [List.mem_cons, List.not_mem_nil, or_false] at hx
 rcases hx with rfl | rfl | rfl | rfl | rfl | rfl | rfl | rfl | rfl | rfl
 ·exact tabS_ok rfl (tabRows H)
 ·exact tabS_ok rfl (tabNew H)
 ·exact tabS_ok rfl (tabOf H.hn H.hm)
 ·exact tabS_ok (by cases gx <;> cases gy <;> rfl) (tabAt H)
 ·exact tabS_ok (by cases gx <;> cases gy <;> rfl) (tabCmp H)
 ·exact tabS_ok (by cases gx <;> rfl) (tabBk H)
 ·exact tabS_ok (by cases gx <;> rfl) tabAdd
 ·exact tabS_ok (by cases gx <;> rfl) (tabCut H)
 ·exact tabS_ok (by cases gx <;> rfl) (tabSgn H)
 ·exact tabS_ok rfl tabWks
end
theorem eb_fin (w : World) {ss : List (Nat × Nat)} {v : Value} {n m : Int} {qs rs : List Rat} {a b : Rat} {gx gy : Bool} {s0 sL sxy : Int} (H : EbOK n m ss qs rs a b gx gy s0 sL sxy) (hr : ebRun gx gy s0 sL sxy = ebT) (hv : StIn w.heap.size w v ss) (hG : Try.prog.globals.size ≤ w.heap.size) (hT : natSig.base w) :
  Calls Try.prog ebF ⟨[v, .int .i16 n, .int .i16 m]⟩ w fun e w' => e = .returned (.bool true) ∧ Below w.heap.size w w' := by
 have hf := ebQ_fit (a := a) (b := b) H.hn H.hm (eb_fits H).1 H.ha H.hb
 have hlen := (eb_len H).1
 have h30 := eb_30 H
 have hp : 0 < qs.length := List.length_pos_iff.2 (eb_ne H)
 let E := ebEnv n m ss qs rs w.heap.size a b hf
 have hA : AllH E [] := fun x hx => by simp at hx
 have el : ∀ i, i < qs.length → qs[i]? = some (qs.getD i 0) := fun i h => by rw [List.getD_eq_getElem?_getD, List.getElem?_eq_getElem h]; rfl
 have hB : AllX E ebB := fun x hx => by
  simp only [ebB, List.mem_cons, List.not_mem_nil, or_false] at hx
  rcases hx with rfl | rfl | rfl | rfl | rfl | rfl | rfl
  ·rfl
  ·show qs.length ≤ 10000
   omega
  ·show true = true ↔ ((0 : Nat) : Int) + 0 < ((qs.length : Nat) : Int) + 0
   exact ⟨fun _ => by omega, fun _ => rfl⟩
  ·show false = true ↔ ((qs.length : Nat) : Int) + (-1) < ((0 : Nat) : Int) + 0
   exact ⟨fun h => (by cases h), fun h => by omega⟩
  ·show true = true ↔ ((qs.length : Nat) : Int) + (-1) < ((qs.length : Nat) : Int) + 0
   exact ⟨fun _ => by omega, fun _ => rfl⟩
  ·exact ⟨0, (by show ((0 : Nat) : Int) = ((0 : Nat) : Int) + 0; rfl), el 0 hp⟩
  ·refine ⟨qs.length - 1, ?_, el _ (by omega)⟩
   show ((qs.length - 1 : Nat) : Int) = ((qs.length : Nat) : Int) + (-1)
   omega
 have i16 : ∀ k : Int, -32768 ≤ k ∧ k ≤ 32767 → I16 (k : Rat) := fun k hk => ⟨by simp; omega, by simp; omega, by simp⟩
 have hu : HoldsL (symSig E) w [.oq 0, .is (.v 1), .is (.v 2)] [v, .int .i16 n, .int .i16 m] :=
  ⟨_, _, rfl, ⟨hv, Nat.le_refl _⟩, (ebX ss qs rs w.heap.size).one 0 w v hv, _, _, rfl, ⟨rfl, i16 n H.hn⟩, rfl, _, _, rfl, ⟨rfl, i16 m H.hm⟩, rfl, rfl⟩
 refine (tells_calls (lwFits hA hB rfl) (ebSums_ok (lo := w.heap.size) (hf := hf) H) hr rfl glob_few hu hG hT (Nat.le_refl _) (.none rfl)).mono ?_
 rintro e w' ⟨v', rfl, h1, hb⟩
 have h1' : v' = .bool true := h1
 exact ⟨by rw [h1'], hb⟩
theorem endsBack_any (w : World) {ss : List (Nat × Nat)} {v : Value} {n m : Int} (hn : -32768 ≤ n ∧ n ≤ 32767) (hm : -32768 ≤ m ∧ m ≤ 32767) (hv : StIn w.heap.size w v ss) (hG : Try.prog.globals.size ≤ w.heap.size) (hT : natSig.base w) :
  Calls Try.prog ebF ⟨[v, .int .i16 n, .int .i16 m]⟩ w fun e w' => e = .returned (.bool true) ∧ Below w.heap.size w w' := by
 have hs : ∀ p ∈ ss, p.1 < 256 ∧ p.2 < 256 := by obtain ⟨_, _, _, h, _⟩ := hv; exact h
 obtain ⟨qs, hqs⟩ : ∃ l, l = rwQ ss (ebN ss) := ⟨_, rfl⟩
 obtain ⟨rs, hrs⟩ : ∃ l, l = rwR ss (ebN ss) := ⟨_, rfl⟩
 have hN : ebN ss ≤ 30 := by unfold ebN; omega
 have hq1 : ∀ q ∈ qs, Sm 1 q := by rw [hqs]; exact rwQ_sm hs hN
 have hr1 : ∀ q ∈ rs, Sm 1 q := by rw [hrs]; exact rwR_sm hs hN
 have hRq : Rises qs := by rw [hqs]; exact rwQ_rises _
 have hRr : Rises rs := by rw [hrs]; exact rwR_rises _
 have hl1 : qs.length = ebN ss := by rw [hqs]; simp [rwQ]
 have hl2 : rs.length = ebN ss := by rw [hrs]; simp [rwR]
 have hlr : rs.length = qs.length := hl2.trans hl1.symm
 have hne : qs ≠ [] := fun h => by rw [h] at hl1; unfold ebN at hl1; simp at hl1
 have hx1 : Sm 1 (ofQ n (12 : Nat)) := ofQ_sm (by omega) (by omega) (by omega) (by omega)
 have hy1 : Sm 1 (ofQ m (12 : Nat)) := ofQ_sm (by omega) (by omega) (by omega) (by omega)
 obtain ⟨x, hx⟩ : ∃ x, x = ofQ n (12 : Nat) := ⟨_, rfl⟩
 obtain ⟨y, hy⟩ : ∃ y, y = ofQ m (12 : Nat) := ⟨_, rfl⟩
 rw [← hx] at hx1
 rw [← hy] at hy1
 obtain ⟨c, hc⟩ := place hRq x
 obtain ⟨d, hd⟩ := place hRq y
 have tell : ∀ (z : Rat) (c : Nat), Sm 1 z → ∃ (g : Bool) (a : Rat), Sm 11 a ∧ linAt qs rs z c = cond g (some a) none := fun z c hz => by
  cases h : linAt qs rs z c with
  | none => exact ⟨false, 0, sm_zero (by omega), rfl⟩
  | some a => exact ⟨true, a, lin_eleven hq1 hr1 hz h, rfl⟩
 obtain ⟨gx, a, ha, hla⟩ := tell x c hx1
 obtain ⟨gy, b, hb, hlb⟩ := tell y d hy1
 have hiff := lin_iff (rs := rs) hRq hne hc
 obtain ⟨i, hi3, hi, hi0, hi1⟩ : ∃ i, i < 3 ∧ sgQ (x - qs.getD 0 0) = sg i ∧ (i = 0 ↔ ¬ qs.getD 0 0 ≤ x) ∧ True := by
  rcases sg_ex (x - qs.getD 0 0) with ⟨q, h⟩ | ⟨q, h⟩ | ⟨q, h⟩
  ·exact ⟨0, by omega, h, ⟨fun _ => by grind, fun _ => rfl⟩, trivial⟩
  ·exact ⟨1, by omega, h, ⟨fun h => by omega, fun h => by exfalso; grind⟩, trivial⟩
  ·exact ⟨2, by omega, h, ⟨fun h => by omega, fun h => by exfalso; grind⟩, trivial⟩
 obtain ⟨j, hj3, hj, hj0⟩ : ∃ j, j < 3 ∧ sgQ (x - qs.getD (qs.length - 1) 0) = sg j ∧ (j = 2 ↔ ¬ x ≤ qs.getD (qs.length - 1) 0) := by
  rcases sg_ex (x - qs.getD (qs.length - 1) 0) with ⟨q, h⟩ | ⟨q, h⟩ | ⟨q, h⟩
  ·exact ⟨0, by omega, h, ⟨fun h => by omega, fun h => by exfalso; grind⟩⟩
  ·exact ⟨1, by omega, h, ⟨fun h => by omega, fun h => by exfalso; grind⟩⟩
  ·exact ⟨2, by omega, h, ⟨fun _ => by grind, fun _ => rfl⟩⟩
 cases gx with
 | false =>
  have hnone : linAt qs rs x c = none := hla
  have hor : i = 0 ∨ j = 2 := by
   by_cases h1 : qs.getD 0 0 ≤ x
   ·refine .inr (hj0.2 fun h2 => ?_)
    exact hiff.2 ⟨h1, h2⟩ hnone
   ·exact .inl (hi0.2 h1)
  have H : EbOK n m ss qs rs a b false gy (sg i) (sg j) 0 := ⟨hn, hm, hq1, hr1, hqs, hrs, ha, hb, ⟨c, by rw [← hx]; exact hc, by rw [← hx]; exact hla⟩, ⟨d, by rw [← hy]; exact hd, by rw [← hy]; exact hlb⟩, by rw [← hx]; exact hi, by rw [← hx]; exact hj, fun h => (by cases h), fun h => (by cases h)⟩
  exact eb_fin w H (eb_out gy i j hi3 hj3 hor) hv hG hT
 | true =>
  have hsome : linAt qs rs x c = some a := hla
  have hin := hiff.1 (by rw [hsome]; simp)
  have hi2 : i ≠ 0 := fun h => hi0.1 h hin.1
  have hj2 : j ≠ 2 := fun h => hj0.1 h hin.2
  obtain ⟨k, hk3, hk, hka⟩ : ∃ k, k < 3 ∧ (gy = true → sgQ (x - y) = sg k) ∧ (gy = true → sgQ (a - b) = sg k) := by
   cases gy with
   | false => exact ⟨0, by omega, fun h => (by cases h), fun h => (by cases h)⟩
   | true =>
    have hsb : linAt qs rs y d = some b := hlb
    rcases sg_ex (x - y) with ⟨q, h⟩ | ⟨q, h⟩ | ⟨q, h⟩
    ·have hm := lin_mono hRq hRr hlr hc hd hsome hsb (by grind)
     refine ⟨0, by omega, fun _ => h, fun _ => ?_⟩
     rcases sg_ex (a - b) with ⟨_, h2⟩ | ⟨q2, _⟩ | ⟨q2, _⟩
     ·exact h2
     ·exfalso; grind
     ·exfalso; grind
    ·have exy : x = y := by grind
     refine ⟨1, by omega, fun _ => h, fun _ => ?_⟩
     have hcd : c = d := by rw [exy] at hc; exact hc.eq hd
     have hab : a = b := by rw [exy, hcd, hsb] at hsome; exact (Option.some.inj hsome).symm
     rcases sg_ex (a - b) with ⟨q2, _⟩ | ⟨_, h2⟩ | ⟨q2, _⟩
     ·exfalso; grind
     ·exact h2
     ·exfalso; grind
    ·have hm := lin_mono hRq hRr hlr hd hc hsb hsome (by grind)
     refine ⟨2, by omega, fun _ => h, fun _ => ?_⟩
     rcases sg_ex (a - b) with ⟨q2, _⟩ | ⟨q2, _⟩ | ⟨_, h2⟩
     ·exfalso; grind
     ·exfalso; grind
     ·exact h2
  have H : EbOK n m ss qs rs a b true gy (sg i) (sg j) (sg k) := ⟨hn, hm, hq1, hr1, hqs, hrs, ha, hb, ⟨c, by rw [← hx]; exact hc, by rw [← hx]; exact hla⟩, ⟨d, by rw [← hy]; exact hd, by rw [← hy]; exact hlb⟩, by rw [← hx]; exact hi, by rw [← hx]; exact hj, fun _ h => by rw [← hx, ← hy]; exact hk h, fun _ h => hka h⟩
  obtain ⟨i', rfl⟩ : ∃ i', i = i' + 1 := ⟨i - 1, by omega⟩
  exact eb_fin w H (eb_in gy i' j k (by omega) (by omega) hk3) hv hG hT
end Ev
end Go.Proofs.Ytnlhjcfpfapafaa
namespace Go.Proofs.Ytnlhjcfpfapafaa
open Go Go.ChangeShapes Go.WideShapes Go.ChangeAt Go.RowKit Ev
set_option maxRecDepth 100000
theorem c_u8S : Try.prog.cellsOf 5 = 1 := by kernel_rfl
theorem c_stepS : Try.prog.cellsOf 78 = 2 := by kernel_rfl
def datS {H : Type} (t : Nat × Nat) : DataW H := .agg [.lit (.int .u8 (t.1 : Int)), .lit (.int .u8 (t.2 : Int))]
def triS {H : Type} (y : DataW H × List MemPlace) : Nat × Nat := match y.1 with
 | .agg [.lit (.int .u8 a), .lit (.int .u8 b)] => (a.toNat, b.toNat)
 | _ => (0, 0)
def rawS (t : Nat × Nat) : List Value := [.int .u8 (t.1 : Int), .int .u8 (t.2 : Int)]
def wfS (t : Nat × Nat) : Prop := t.1 < 256 ∧ t.2 < 256
def zeS : Nat × Nat := (0, 0)
section
variable {H : Type} {enc : TypeId × Value → H} {w : World} {base : Nat} {spare : Nat → Bool} {held : Bool}
theorem step_inS {fuel : Nat} {cs : List Value} {x : DataW H × List MemPlace} (h : DataW.trod enc Try.prog w base spare held fuel 78 cs = some x) : ∃ t : Nat × Nat, cs = rawS t ∧ x = (datS t, []) ∧ wfS t := by
 obtain ⟨xs, n, -, hx, hl, hlen, hg⟩ := DataW.trod_array Try.underlying78 h
 rw [c_stepS] at hl
 match cs, hl, xs, hlen with
 | [u0, u1], _, [y0, y1], _ =>
  have h0 := hg 0 (by omega)
  simp only [c_u8S, List.drop, List.take, List.getElem?_cons_zero] at h0
  obtain ⟨a, e0, z0, w0⟩ := DataW.trod_int Try.underlying5 h0
  obtain rfl := (List.cons.inj e0).1; clear e0
  subst z0
  have h1 := hg 1 (by omega)
  simp only [c_u8S, List.drop, List.take, List.getElem?_cons_zero, List.getElem?_cons_succ] at h1
  obtain ⟨b, e1, z1, w1⟩ := DataW.trod_int Try.underlying5 h1
  obtain rfl := (List.cons.inj e1).1; clear e1
  subst z1
  have ha := bounds_u8 w0
  have hb := bounds_u8 w1
  refine ⟨(a.toNat, b.toNat), ?_, ?_, ?_⟩
  ·simp [rawS, Int.toNat_of_nonneg ha.1, Int.toNat_of_nonneg hb.1]
  ·rw [hx]; simp [datS, Int.toNat_of_nonneg ha.1, Int.toNat_of_nonneg hb.1]
  ·constructor
   ·show a.toNat < 256
    omega
   ·show b.toNat < 256
    omega
theorem u8_wfS {n : Nat} (h : n < 256) : (Lit.int .u8 (n : Int)).wf = true := by
 simp [Lit.wf, IntKind.min, IntKind.max, IntKind.signed, IntKind.bits]
 omega
theorem step_mkS {t : Nat × Nat} (h : wfS t) (n : Nat) : DataW.trod enc Try.prog w base spare held (n + 2) 78 (rawS t) = some (datS t, []) := by
 obtain ⟨a, b⟩ := t
 have k1 : ∀ a : Nat, a < 256 → DataW.trod enc Try.prog w base spare held (n + 1) 5 [.int .u8 (a : Int)] = some (.lit (.int .u8 (a : Int)), []) := fun a ha => trod_int_mk n Try.underlying5 (u8_wfS ha)
 have r2 : List.range 2 = [0, 1] := rfl
 unfold DataW.trod
 simp [Try.underlying78, c_u8S, c_stepS, rawS, datS, r2, k1 a h.1, k1 b h.2]
theorem steps_in {fuel : Nat} {cs : List Value} {x : DataW H × List MemPlace} (h : DataW.trod enc Try.prog w 0 (fun _ => true) held fuel 40 cs = some x) :
  (cs = [.slice none 0 0] ∧ x = (.nil, [])) ∨
  ∃ (a : Addr) (len cap : Nat) (ts : List (Nat × Nat)), cs = [.slice (some a) len cap] ∧ len ≤ cap ∧ cap ≤ maxLen ∧ ts.length = cap ∧ x = (.slice ((ts.take len).map datS) ((ts.drop len).map datS), MemPlace.row a (cap * 2)) ∧
   (∀ i, i < cap → w.cells? 0 (a.add (i * 2)) 2 = some (rawS (ts.getD i zeS))) ∧ ∀ t ∈ ts, wfS t := by
 rcases DataW.trod_slice Try.underlying40 h with h0 | ⟨a, len, cap, elems, rest, n, _, rfl, rfl, hb, hl, hm, hlen, hel, hsp, _⟩
 ·exact Or.inl h0
 right
 obtain ⟨hrl, hr⟩ := hsp rfl
 rw [c_stepS] at hel hr
 have each : ∀ i y, (elems ++ rest)[i]? = some y → y = (datS (triS y), []) ∧ wfS (triS y) ∧ w.cells? 0 (a.add (i * 2)) 2 = some (rawS (triS y)) := by
  intro i y hy
  have hb' : (w.cells? 0 (a.add (i * 2)) 2).bind (DataW.trod enc Try.prog w 0 (fun _ => true) held n 78) = some y := by
   by_cases hi : i < len
   ·rw [hel i hi, ← hy, List.getElem?_append_left (by omega)]
   ·have hi' : i - len < rest.length := by
     have := (List.getElem?_eq_some_iff.1 hy).1
     simp at this
     omega
    have := hr (i - len) (by omega)
    rw [show len + (i - len) = i by omega] at this
    rw [this, ← hy, List.getElem?_append_right (by omega), hlen]
  rw [Option.bind_eq_some_iff] at hb'
  obtain ⟨cs', hcs, hy'⟩ := hb'
  obtain ⟨t, rfl, rfl, hw⟩ := step_inS hy'
  exact ⟨rfl, hw, hcs⟩
 have mem : ∀ y ∈ elems ++ rest, y = (datS (triS y), []) ∧ wfS (triS y) := by
  intro y hy
  obtain ⟨i, hi⟩ := List.getElem?_of_mem hy
  exact ⟨(each i y hi).1, (each i y hi).2.1⟩
 refine ⟨a, len, cap, (elems ++ rest).map triS, rfl, hl, hm, ?_, ?_, ?_, ?_⟩
 ·simp only [List.length_map, List.length_append, hlen, hrl]; omega
 ·have e1 : ((elems ++ rest).map triS).take len = elems.map triS := by rw [← List.map_take, ← hlen, List.take_left]
  have e2 : ((elems ++ rest).map triS).drop len = rest.map triS := by rw [← List.map_drop, ← hlen, List.drop_left]
  have f1 : ∀ l : List (DataW H × List MemPlace), (∀ y ∈ l, y ∈ elems ++ rest) → l.map (·.1) = (l.map triS).map datS := by
   intro l hl'
   simp only [List.map_map]
   exact List.map_congr_left (fun y hy => by
    have := (mem y (hl' y hy)).1
    exact congrArg Prod.fst this)
  have f2 : (elems ++ rest).flatMap (·.2) = [] := by
   rw [List.flatMap_eq_nil_iff]
   intro y hy
   exact congrArg Prod.snd (mem y hy).1
  have f3 : (elems.length + rest.length) * Try.prog.cellsOf 78 = cap * 2 := by rw [c_stepS, hlen, hrl]; congr 1; omega
  rw [e1, e2, f1 elems (fun y hy => by simp [hy]), f1 rest (fun y hy => by simp [hy]), f2, f3]
  simp
 ·intro i hi
  have hi2 : i < (elems ++ rest).length := by rw [List.length_append]; omega
  have hy : (elems ++ rest)[i]? = some ((elems ++ rest)[i]'hi2) := List.getElem?_eq_getElem hi2
  have := (each i _ hy).2.2
  have e : ((elems ++ rest).map triS).getD i zeS = triS ((elems ++ rest)[i]'hi2) := by rw [List.getD_eq_getElem?_getD, List.getElem?_map, hy]; rfl
  rw [this, e]
 ·intro m hm'
  obtain ⟨y, hy, rfl⟩ := List.mem_map.1 hm'
  exact (mem y hy).2
theorem steps_mk {a : Addr} {len cap : Nat} {ts : List (Nat × Nat)} (m : Nat) (hl : len ≤ cap) (hm : cap ≤ maxLen) (hz : ts.length = cap) (hsp : 0 < cap → spare a.block = true) (hcell : ∀ i, i < cap → w.cells? 0 (a.add (i * 2)) 2 = some (rawS (ts.getD i zeS))) (hw : ∀ t ∈ ts, wfS t) :
  DataW.trod enc Try.prog w 0 spare held (m + 3) 40 [.slice (some a) len cap] = some (.slice ((ts.take len).map datS) ((ts.drop len).map datS), MemPlace.row a (cap * 2)) := by
 have one : ∀ i, i < cap → (w.cells? 0 (a.add (i * Try.prog.cellsOf 78)) (Try.prog.cellsOf 78)).bind (DataW.trod enc Try.prog w 0 spare held (m + 2) 78) = some ((datS (ts.getD i zeS), []) : DataW H × List MemPlace) := by
  intro i hi
  rw [c_stepS, hcell i hi]
  exact step_mkS (hw _ (by
   rw [List.getD_eq_getElem?_getD, List.getElem?_eq_getElem (show i < ts.length by omega)]
   exact List.getElem_mem _)) m
 have t1 : (List.range len).map (fun i => ((datS (ts.getD i zeS), []) : DataW H × List MemPlace)) = (ts.take len).map fun n => (datS n, []) := by
  apply List.ext_getElem?
  intro i
  by_cases hi : i < len
  ·simp [hi, List.getD, show i < ts.length by omega]
  ·simp [hi, List.getElem?_take]
 have t2 : (List.range (cap - len)).map (fun j => ((datS (ts.getD (len + j) zeS), []) : DataW H × List MemPlace)) = (ts.drop len).map fun n => (datS n, []) := by
  apply List.ext_getElem?
  intro j
  by_cases hj : j < ts.length - len
  ·simp [show j < cap - len by omega, List.getD, show len + j < ts.length by omega]
  ·simp [show ¬ j < cap - len by omega, hj]
 have z : ∀ l : List (Nat × Nat), (l.map fun n => ((datS n, []) : DataW H × List MemPlace)).flatMap (·.2) = [] := fun l =>
  List.flatMap_eq_nil_iff.2 fun y hy => by
   obtain ⟨n, _, rfl⟩ := List.mem_map.1 hy
   rfl
 have z1 : ∀ l : List (Nat × Nat), (l.map fun n => ((datS n, []) : DataW H × List MemPlace)).map (·.1) = l.map datS := fun l => by
  rw [List.map_map]; rfl
 rw [DataW.trod_step]
 unfold DataW.trodStep
 simp only [Try.underlying40]
 rw [if_pos ⟨Nat.zero_le _, hl, hm⟩, mapM_range_of len (fun i hi => one i (by omega)), t1]
 simp only [Option.bind_some]
 rcases Nat.eq_zero_or_pos cap with h0 | h0
 ·have hts : ts = [] := List.length_eq_zero_iff.1 (by omega)
  have hl0 : len = 0 := by omega
  subst hts hl0 h0
  cases spare a.block <;> simp
 ·rw [if_pos (hsp h0), mapM_range_of (cap - len) (fun j hj => one (len + j) (by omega)), t2, Option.map_some, List.flatMap_append, z, z, z1, z1, List.length_map, List.length_map, List.length_take, List.length_drop, c_stepS, show min len ts.length + (ts.length - len) = cap by omega]
  simp
end
theorem cells_rowS {w : World} {b off : Nat} {cl : List Value} {t : TypeId} {z : Nat × Nat} {l : List Value} (h : w.cells? 0 ⟨b, off, none⟩ l.length = some l) (hh : w.heap[b]? = some (.cells ⟨cl⟩ t z)) : (cl.drop off).take l.length = l := by
 obtain ⟨_, _, hc⟩ := World.cells?_some h
 apply List.ext_getElem?
 intro k
 by_cases hk : k < l.length
 ·have h1 := hc k hk
  rw [add_off] at h1
  rw [List.getElem?_take, if_pos hk, List.getElem?_drop, ← h1]
  simp [World.cell?, hh]
 ·rw [List.getElem?_take, if_neg hk, List.getElem?_eq_none (by omega)]
theorem cells_belowS {W W' : World} (hb : Below W.heap.size W W') {a : Addr} {n : Nat} (h : a.block < W.heap.size) : W'.cells? 0 a n = W.cells? 0 a n := by
 unfold World.cells?
 rw [show (fun i => W'.cell? (a.add i)) = fun i => W.cell? (a.add i) from funext fun i => cell_below hb (by rw [block_add]; exact h)]
theorem steps_st {w : World} {a : Addr} {len cap : Nat} {ts : List (Nat × Nat)} (hl : len ≤ cap) (hz : ts.length = cap) (hcell : ∀ i, i < cap → w.cells? 0 (a.add (i * 2)) 2 = some (rawS (ts.getD i zeS))) (hw : ∀ t ∈ ts, wfS t) : StIn w.heap.size w (.slice (some a) len cap) (ts.take len) := by
 have hlt : (ts.take len).length = len := by rw [List.length_take]; omega
 refine ⟨some a, cap, by rw [hlt], fun p hp => hw p (List.mem_of_mem_take hp), fun hne => ?_⟩
 have hp : 0 < len := by rw [← hlt]; exact List.length_pos_iff.2 hne
 have h0 := hcell 0 (by omega)
 obtain ⟨_, hlen0, hc0⟩ := World.cells?_some h0
 have hc00 := hc0 0 (by omega)
 obtain ⟨b, off, spot⟩ := a
 have hsp : spot = none := by
  cases spot with
  | none => rfl
  | some s =>
   exfalso
   simp [World.cell?, Addr.add, rawS] at hc00
   split at hc00 <;> simp_all
 subst hsp
 cases hh : w.heap[b]? with
 | none => simp [World.cell?, Addr.add, hh, rawS] at hc00
 | some o =>
  cases o with
  | cells c t z =>
   obtain ⟨cl⟩ := c
   refine ⟨b, off, cl, t, z, rfl, (Array.getElem?_eq_some_iff.1 hh).1, hh, fun i p hi => ?_⟩
   have hil : i < len := by rw [← hlt]; exact (List.getElem?_eq_some_iff.1 hi).1
   have hx' : ts[i]? = some p := by
    rw [List.getElem?_take, if_pos hil] at hi; exact hi
   have h6 := hcell i (by omega)
   rw [add_off, List.getD_eq_getElem?_getD, hx'] at h6
   have hrow := cells_rowS (l := rawS p) h6 hh
   have hd : ∀ k, k < 2 → cl[off + i * 2 + k]? = (rawS p)[k]? := fun k hk => by
    rw [← hrow, List.getElem?_take, if_pos (show k < (rawS p).length from hk), List.getElem?_drop]
   exact ⟨hd 0 (by omega), hd 1 (by omega)⟩
  | _ => simp [World.cell?, Addr.add, hh, rawS] at hc00
theorem steps_open {H : Type} {enc : TypeId × Value → H} {W : World} {b0 : Nat} {v : Value} {d : DataW H} {p : List MemPlace} (hval : Value.okWide Try.prog W .any b0 40 v)
  (h0 : DataW.Trod enc Try.prog W 0 (fun _ => true) true 40 v d p) :
  ∃ ss : List (Nat × Nat), StIn W.heap.size W v ss ∧
   ∀ (W' : World) (sp : Nat → Bool), Below W.heap.size W W' → (∀ q ∈ p, sp q.block = true) → DataW.Trod enc Try.prog W' 0 sp true 40 v d p := by
 obtain ⟨a0, len0, cap0, rfl⟩ := okWide_slice Try.underlying40 hval
 obtain ⟨fuel, hf⟩ := h0
 rcases steps_in hf with ⟨e3, hx⟩ | ⟨a, len, cap, ts, e3, hl9, hm, hz9, hx, hcell, hw⟩
 ·simp [Value.cells] at e3
  obtain ⟨rfl, rfl, rfl⟩ := e3
  simp only [Prod.mk.injEq] at hx
  obtain ⟨rfl, rfl⟩ := hx
  exact ⟨[], ⟨none, 0, rfl, fun _ h => by simp at h, fun h => absurd rfl h⟩, fun W' sp _ _ => shut_slice_nil Try.underlying40⟩
 ·simp [Value.cells] at e3
  obtain ⟨rfl, rfl, rfl⟩ := e3
  simp only [Prod.mk.injEq] at hx
  obtain ⟨rfl, rfl⟩ := hx
  refine ⟨ts.take len0, steps_st hl9 hz9 hcell hw, fun W' sp hb hsp => ⟨3, ?_⟩⟩
  have t0 := steps_mk (enc := enc) (w := W') (spare := sp) (held := true) 0 hl9 hm hz9 (fun hp => hsp (MemPlace.cell a.block (a.off + 0)) (MemPlace.mem_row.2 ⟨0, by omega, rfl⟩)) (fun i hi => by
   have h6 := hcell i hi
   have hlt : a.block < W.heap.size := by
    obtain ⟨_, _, hc⟩ := World.cells?_some h6
    have h7 := hc 0 (by omega)
    have h8 := cell_lt (show W.cell? ((a.add (i * 2)).add 0) = some _ from h7)
    rw [block_add, block_add] at h8
    exact h8
   rw [cells_belowS hb (by rw [block_add]; exact hlt)]
   exact h6) hw
  simpa [Value.cells] using t0
end Go.Proofs.Ytnlhjcfpfapafaa
