/- Contracts. -/
import Derived.Test.YtaefgofheiegeaaGreatTLq25
import Derived.Test.YtaefgofheiegeaaGreatTLq18
import Derived.Laws.StructEq
namespace Go.Proofs.YtaefgofheiegeaaGreat
open Go Go.RowKit
namespace Ev
set_option maxRecDepth 100000
def ZI (B : Nat) (x : Rat) : Prop := ∃ z : Int, x = (z : Rat) ∧ z.natAbs ≤ B
theorem ZI.add {A B : Nat} {x y : Rat} (h : ZI A x) (i : ZI B y) : ZI (A + B) (x + y) := by
  obtain ⟨a, rfl, ha⟩ := h
  obtain ⟨b, rfl, hb⟩ := i
  exact ⟨a + b, by rw [Rat.intCast_add], Nat.le_trans (Int.natAbs_add_le a b) (by omega)⟩
theorem ZI.mul {A B : Nat} {x y : Rat} (h : ZI A x) (i : ZI B y) : ZI (A * B) (x * y) := by
  obtain ⟨a, rfl, ha⟩ := h
  obtain ⟨b, rfl, hb⟩ := i
  exact ⟨a * b, by rw [Rat.intCast_mul], by rw [Int.natAbs_mul]; exact Nat.mul_le_mul ha hb⟩
theorem ZI.mono {A B : Nat} {x : Rat} (h : ZI A x) (i : A ≤ B) : ZI B x := by
  obtain ⟨a, e, ha⟩ := h
  exact ⟨a, e, Nat.le_trans ha i⟩
theorem ZI.zero (B : Nat) : ZI B 0 := ⟨0, rfl, Nat.zero_le _⟩
theorem ZI.fit {B : Nat} {x : Rat} (h : ZI B x) (hB : B ≤ 9000000000000000000) : Fit x := by
  obtain ⟨a, rfl, ha⟩ := h
  exact int_fit (Rat.den_intCast _) (by rw [Rat.num_intCast]; omega) (by rw [Rat.num_intCast]; omega)
theorem ZI.getD {B : Nat} {l : List Rat} (h : ∀ x ∈ l, ZI B x) (i : Nat) : ZI B (l.getD i 0) := by
  rw [List.getD_eq_getElem?_getD]
  cases hi : l[i]? with
  | none => exact ZI.zero B
  | some x => exact h x (List.mem_of_getElem? hi)
theorem ps_zi {A B : Nat} {p q : List Rat} (hp : ∀ x ∈ p, ZI A x) (hq : ∀ x ∈ q, ZI B x) (i : Nat) : ∀ n, ZI (min n p.length * (A * B)) (ps p q i n)
  | 0 => ZI.zero _
  | n + 1 => by
    have ih := ps_zi hp hq i n
    rw [ps]
    rcases Nat.lt_or_ge n p.length with h | h
    · refine (ih.add ((ZI.getD hp n).mul (ZI.getD hq (i - n)))).mono ?_
      rw [show min (n + 1) p.length = min n p.length + 1 by omega, Nat.add_mul, Nat.one_mul]
      exact Nat.le_refl _
    · rw [cf_beyond h, show min (n + 1) p.length = min n p.length by omega]
      have : ps p q i n + 0 * cf q (i - n) = ps p q i n := by grind
      rw [this]
      exact ih
structure PB (B n : Nat) (l : List Rat) : Prop where
  zi : ∀ x ∈ l, ZI B x
  len : l.length ≤ n
  last : l ≠ [] → l.getLastD 0 ≠ 0
theorem PB.poly {B n : Nat} {l : List Rat} (h : PB B n l) (hB : B ≤ 9000000000000000000) : PolyOK l := ⟨fun x hx => (h.zi x hx).fit hB, h.last⟩
theorem lastD_get (l : List Rat) : l.getLastD 0 = l.getD (l.length - 1) 0 := by
  rw [List.getLastD_eq_getLast?, List.getLast?_eq_getElem?, List.getD_eq_getElem?_getD]
theorem ps_far {p q : List Rat} {i : Nat} (h : p.length + q.length ≤ i + 1) : ∀ n, n ≤ i + 1 → ps p q i n = 0
  | 0, _ => rfl
  | n + 1, hn => by
    rw [ps, ps_far h n (by omega)]
    rcases Nat.lt_or_ge n p.length with g | g
    · rw [cf_beyond (p := q) (by omega)]; grind
    · rw [cf_beyond g]; grind
theorem cf_pd (p q : List Rat) (i : Nat) : cf (pd p q) i = mulF p (cf q) i := by
  rw [← ps_mulF]
  rcases Nat.eq_zero_or_pos p.length with h | h
  · rw [pd_none (.inl h), cf_nil, List.length_eq_zero_iff.1 h, ps_nil]
  · rcases Nat.eq_zero_or_pos q.length with g | g
    · rw [pd_none (.inr g), cf_nil, ps_low p q i (i + 1) (by omega)]
    · rcases Nat.lt_or_ge i (p.length + q.length - 1) with k | k
      · unfold cf
        rw [List.getD_eq_getElem?_getD, pd_get h g k]; rfl
      · rw [cf_beyond (by rw [pd_len h g]; exact k), ps_far (by omega) _ (Nat.le_refl _)]
theorem cf_pa (p q : List Rat) (i : Nat) : cf (pa p q) i = cf p i + cf q i := by
  rcases Nat.lt_or_ge i (max p.length q.length) with h | h
  · have := pa_get h
    unfold cf
    rw [List.getD_eq_getElem?_getD (l := pa p q), this]; rfl
  · rw [cf_beyond (by rw [pa_len]; exact h), cf_beyond (p := p) (by omega), cf_beyond (p := q) (by omega)]; grind
theorem cf_take {l : List Rat} {m : Nat} (h : TrimAt l m) (i : Nat) : cf (l.take m) i = cf l i := by
  have hle := h.le
  unfold cf
  rw [List.getD_eq_getElem?_getD, List.getD_eq_getElem?_getD, List.getElem?_take]
  rcases Nat.lt_or_ge i m with g | g
  · rw [if_pos g]
  · rw [if_neg (by omega)]
    rcases Nat.lt_or_ge i l.length with k | k
    · rw [h.zero i g k]; rfl
    · rw [List.getElem?_eq_none k]
theorem take_last {l : List Rat} {m : Nat} (h : TrimAt l m) : l.take m ≠ [] → (l.take m).getLastD 0 ≠ 0 := by
  intro hne
  have hle := h.le
  have hm : 0 < m := by
    rcases Nat.eq_zero_or_pos m with q | q
    · subst q; simp at hne
    · exact q
  rw [lastD_get, List.length_take, show min m l.length = m by omega]
  have := h.last hm
  rw [List.getD_eq_getElem?_getD, List.getElem?_take, if_pos (by omega)]
  rwa [List.getD_eq_getElem?_getD] at this
theorem PB.take {B n : Nat} {l : List Rat} {m : Nat} (hm : TrimAt l m) (hz : ∀ x ∈ l, ZI B x) (hl : l.length ≤ n) : PB B n (l.take m) :=
  ⟨fun x hx => hz x (List.mem_of_mem_take hx), by rw [List.length_take]; omega, take_last hm⟩
theorem pd_zi {A B n k : Nat} {p q : List Rat} (hp : PB A n p) (hq : PB B k q) : ∀ x ∈ pd p q, ZI (n * (A * B)) x := fun x hx => by
  unfold pd at hx
  obtain ⟨i, _, rfl⟩ := List.mem_map.1 hx
  refine (ps_zi hp.zi hq.zi i (i + 1)).mono (Nat.mul_le_mul_right _ ?_)
  have := hp.len
  omega
theorem PB.pd {A B n k : Nat} {p q : List Rat} (hp : PB A n p) (hq : PB B k q) (hn : 1 ≤ n) (hk : 1 ≤ k) : PB (n * (A * B)) (n + k - 1) (pd p q) := by
  have h1 := hp.len
  have h2 := hq.len
  refine ⟨pd_zi hp hq, ?_, fun hne => ?_⟩
  · rcases Nat.eq_zero_or_pos p.length with h | h
    · rw [pd_none (.inl h)]; exact Nat.zero_le _
    · rcases Nat.eq_zero_or_pos q.length with g | g
      · rw [pd_none (.inr g)]; exact Nat.zero_le _
      · rw [pd_len h g]; omega
  · have h : 0 < p.length := by
      rcases Nat.eq_zero_or_pos p.length with h | h
      · exact absurd (pd_none (.inl h)) hne
      · exact h
    have g : 0 < q.length := by
      rcases Nat.eq_zero_or_pos q.length with g | g
      · exact absurd (pd_none (.inr g)) hne
      · exact g
    have hpl := hp.last (fun q => by rw [q] at h; simp at h)
    have hql := hq.last (fun q => by rw [q] at g; simp at g)
    rw [lastD_get] at hpl hql
    rw [lastD_get, pd_len h g, List.getD_eq_getElem?_getD, pd_get h g (i := p.length + q.length - 1 - 1) (by omega)]
    show ps p q (p.length + q.length - 1 - 1) (p.length + q.length - 1 - 1 + 1) ≠ 0
    have key : ∀ n, n ≤ p.length - 1 → ps p q (p.length + q.length - 1 - 1) n = 0 := by
      intro n
      induction n with
      | zero => intro _; rfl
      | succ n ih =>
        intro hn
        rw [ps, ih (by omega), cf_beyond (p := q) (by omega)]; grind
    have top := ps_top p q (p.length + q.length - 1 - 1) p.length (q.length - 1) (Nat.le_refl _)
    rw [show p.length + q.length - 1 - 1 + 1 = p.length + (q.length - 1) by omega, top]
    have h3 : ps p q (p.length + q.length - 1 - 1) p.length = cf p (p.length - 1) * cf q (q.length - 1) := by
      have : ps p q (p.length + q.length - 1 - 1) (p.length - 1 + 1) = ps p q (p.length + q.length - 1 - 1) (p.length - 1) + cf p (p.length - 1) * cf q (p.length + q.length - 1 - 1 - (p.length - 1)) := rfl
      rw [show p.length - 1 + 1 = p.length by omega, key _ (Nat.le_refl _), show p.length + q.length - 1 - 1 - (p.length - 1) = q.length - 1 by omega] at this
      rw [this]; grind
    rw [h3]
    intro h0
    rcases Rat.mul_eq_zero.1 h0 with z | z
    · exact hpl z
    · exact hql z
theorem PB.pm {A B n k : Nat} {p q : List Rat} (hp : PB A n p) (hq : PB B k q) (h1 : A ≤ 9000000000000000000) (h2 : B ≤ 9000000000000000000) (h3 : n * (A * B) ≤ 9000000000000000000) : PmFit p q :=
  ⟨fun x hx => (hp.zi x hx).fit h1, fun x hx => (hq.zi x hx).fit h2, fun i k _ => ((ps_zi hp.zi hq.zi i k).mono (Nat.mul_le_mul_right _ (by have := hp.len; omega))).fit h3⟩
theorem pa_zi {A B n k : Nat} {p q : List Rat} (hp : PB A n p) (hq : PB B k q) : ∀ x ∈ pa p q, ZI (A + B) x := fun x hx => by
  unfold pa at hx
  obtain ⟨i, _, rfl⟩ := List.mem_map.1 hx
  exact (ZI.getD hp.zi i).add (ZI.getD hq.zi i)
theorem PB.pa {A B n k : Nat} {p q : List Rat} (hp : PB A n p) (hq : PB B k q) (h3 : A + B ≤ 9000000000000000000) : PaFit p q :=
  ⟨fun x hx => (hp.zi x hx).fit (by omega), fun x hx => (hq.zi x hx).fit (by omega), fun x hx => (pa_zi hp hq x hx).fit h3⟩
theorem dv_zi {A n : Nat} {p : List Rat} (hp : PB A n p) : ∀ x ∈ dv p, ZI (A * n) x := fun x hx => by
  unfold dv at hx
  obtain ⟨i, hi, rfl⟩ := List.mem_map.1 hx
  have hi' := List.mem_range.1 hi
  have := hp.len
  refine ((ZI.getD hp.zi (i + 1)).mul (B := i + 1) ⟨((i + 1 : Nat) : Int), by rw [wq_is], by omega⟩).mono (Nat.mul_le_mul_left _ (by omega))
theorem PB.de {A n : Nat} {p : List Rat} (hp : PB A n p) (h1 : A ≤ 9000000000000000000) (h3 : A * n ≤ 9000000000000000000) : DeFit p :=
  ⟨fun x hx => (hp.zi x hx).fit h1, fun x hx => (dv_zi hp x hx).fit h3⟩
noncomputable def tm (l : List Rat) : Nat := Classical.choose (trim_ex l)
theorem tm_ok (l : List Rat) : TrimAt l (tm l) := Classical.choose_spec (trim_ex l)
noncomputable def trm (l : List Rat) : List Rat := l.take (tm l)
noncomputable def powL : Nat → List Rat
  | 0 => [1]
  | j + 1 => pd (powL j) [1, -1]
noncomputable def sclL (p : List Rat) (j : Nat) : List Rat := trm (sc (powL j) (p.getD (8 - j) 0))
noncomputable def sumL (p : List Rat) : Nat → List Rat
  | 0 => []
  | j + 1 => if 8 - j < p.length then trm (pa (pd (sumL p j) [1, 1]) (sclL p j)) else pd (sumL p j) [1, 1]
def sumN (n : Nat) : Nat → Nat
  | 0 => 20
  | j + 1 => cond (Nat.blt (8 - j) n) (60 + j) (30 + j)
noncomputable def alLst (p : List Rat) (c : Nat) : List Rat :=
  if c = 0 then p else if c = 1 then [1, 1] else if c = 2 then [1, -1] else if c < 30 then [] else if c < 40 then pd (sumL p (c - 30)) [1, 1] else if c < 50 then sclL p (c - 40) else if c < 60 then powL (c - 50) else if c < 70 then trm (pa (pd (sumL p (c - 60)) [1, 1]) (sclL p (c - 60))) else []
theorem al30 (p : List Rat) {j : Nat} (h : j < 10) : alLst p (30 + j) = pd (sumL p j) [1, 1] := by
  unfold alLst
  rw [if_neg (by omega), if_neg (by omega), if_neg (by omega), if_neg (by omega), if_pos (by omega), Nat.add_sub_cancel_left]
theorem al40 (p : List Rat) {j : Nat} (h : j < 10) : alLst p (40 + j) = sclL p j := by
  unfold alLst
  rw [if_neg (by omega), if_neg (by omega), if_neg (by omega), if_neg (by omega), if_neg (by omega), if_pos (by omega), Nat.add_sub_cancel_left]
theorem al50 (p : List Rat) {j : Nat} (h : j < 10) : alLst p (50 + j) = powL j := by
  unfold alLst
  rw [if_neg (by omega), if_neg (by omega), if_neg (by omega), if_neg (by omega), if_neg (by omega), if_neg (by omega), if_pos (by omega), Nat.add_sub_cancel_left]
theorem al60 (p : List Rat) {j : Nat} (h : j < 10) : alLst p (60 + j) = trm (pa (pd (sumL p j) [1, 1]) (sclL p j)) := by
  unfold alLst
  rw [if_neg (by omega), if_neg (by omega), if_neg (by omega), if_neg (by omega), if_neg (by omega), if_neg (by omega), if_neg (by omega), if_pos (by omega), Nat.add_sub_cancel_left]
theorem alSum (p : List Rat) {j : Nat} (h : j ≤ 9) : alLst p (sumN p.length j) = sumL p j := by
  cases j with
  | zero => rfl
  | succ j =>
    show alLst p (cond (Nat.blt (8 - j) p.length) (60 + j) (30 + j)) = if 8 - j < p.length then _ else _
    cases hb : Nat.blt (8 - j) p.length with
    | true =>
      rw [cond_true, al60 p (by omega), if_pos (show 8 - j < p.length from Nat.le_of_ble_eq_true hb)]
    | false =>
      have hn : ¬ 8 - j < p.length := fun q => by
        have : Nat.blt (8 - j) p.length = true := Nat.ble_eq_true_of_le q
        rw [hb] at this; cases this
      rw [cond_false, al30 p (by omega), if_neg hn]
def alMul (n : Nat) : Tri3 := (List.range 9).map (fun j => (sumN n j, 1, 30 + j)) ++ (List.range 9).map (fun j => (50 + j, 2, 51 + j))
def alAdd : Tri3 := (List.range 9).map fun j => (30 + j, 40 + j, 60 + j)
noncomputable def alScl : TriS := (List.range 9).map fun j => (50 + j, .v (10 + (8 - j)), 40 + j)
noncomputable def oQ : Qe := .c false 1 1
noncomputable def alN : Nms := ⟨[([], 20), ([oQ, oQ], 1), ([oQ, .neg oQ], 2), ([oQ], 50)], []⟩
noncomputable def alF : Nat := 18
noncomputable def alSums (n : Nat) : Sums Sy := sumsOf (mkTab ((pmF, biN [] alN 1 (alMul n) (giveO 1)) :: (paF, biN [] alN 1 alAdd (giveO 1)) :: (scF, siN [] alN 1 alScl (giveO 1)) :: natOfL :: wholeL :: symList []))
noncomputable def alRun (n : Nat) : Option (D3 Sy) := tells [.ls 1 0] [.one, .p (.int .i64 8)] (call Tryz.prog (lsCfg false [] (.lc 0 n :: elRow 0 n) noJ) (alSums n) 60 alF)
set_option maxHeartbeats 4000000 in
theorem al_runs : (List.range 9).all (fun n => isOl 1 (.v (sumN n 9)) (alRun n)) = true := by kernel_rfl
theorem PB.up {B C n m : Nat} {l : List Rat} (h : PB B n l) (hB : B ≤ C) (hn : n ≤ m) : PB C m l := ⟨fun x hx => (h.zi x hx).mono hB, Nat.le_trans h.len hn, h.last⟩
theorem pb_11 : PB 1 2 [1, 1] := ⟨fun x hx => by
  simp only [List.mem_cons, List.not_mem_nil, or_false, or_self] at hx
  subst hx
  exact ⟨1, rfl, Nat.le_refl _⟩, Nat.le_refl _, fun _ => by decide⟩
theorem pb_1m : PB 1 2 [1, -1] := ⟨fun x hx => by
  simp only [List.mem_cons, List.not_mem_nil, or_false] at hx
  rcases hx with rfl | rfl
  · exact ⟨1, rfl, Nat.le_refl _⟩
  · exact ⟨-1, rfl, Nat.le_refl _⟩, Nat.le_refl _, fun _ => by decide⟩
theorem pb_pow : ∀ j, j ≤ 9 → PB (10 ^ j) (j + 1) (powL j)
  | 0, _ => ⟨fun x hx => by
    have : x = 1 := by simpa [powL] using hx
    subst this
    exact ⟨1, rfl, Nat.le_refl _⟩, Nat.le_refl _, fun _ => by decide⟩
  | j + 1, h => by
    have ih := pb_pow j (by omega)
    refine (ih.pd pb_1m (by omega) (by omega)).up ?_ (by omega)
    rw [Nat.mul_one, Nat.pow_succ, Nat.mul_comm (10 ^ j) 10]
    exact Nat.mul_le_mul_right _ (by omega)
theorem sc_zi {A B : Nat} {p : List Rat} {x : Rat} (hp : ∀ y ∈ p, ZI A y) (hx : ZI B x) : ∀ y ∈ sc p x, ZI (A * B) y := fun y hy => by
  unfold sc at hy
  obtain ⟨z, hz, rfl⟩ := List.mem_map.1 hy
  exact (hp z hz).mul hx
theorem sc_len (p : List Rat) (x : Rat) : (sc p x).length = p.length := by unfold sc; rw [List.length_map]
theorem pb_scl {p : List Rat} (hp : PB 128 8 p) {j : Nat} (h : j ≤ 8) : PB (10 ^ j * 128) (j + 1) (sclL p j) := by
  have h1 := pb_pow j (by omega)
  exact PB.take (tm_ok _) (sc_zi h1.zi (ZI.getD hp.zi _)) (by rw [sc_len]; exact h1.len)
theorem pb_t {p : List Rat} {B j : Nat} (h : PB B j (sumL p j)) : PB ((j + 1) * B) (j + 1) (pd (sumL p j) [1, 1]) := by
  rcases Nat.eq_zero_or_pos j with h0 | h0
  · subst h0
    have : pd (sumL p 0) [1, 1] = [] := pd_none (.inl rfl)
    rw [this]
    exact ⟨fun x hx => by simp at hx, by simp, fun q => absurd rfl q⟩
  · refine (h.pd pb_11 h0 (by omega)).up ?_ (by omega)
    rw [Nat.mul_one]
    exact Nat.mul_le_mul_right _ (by omega)
theorem pb_sum {p : List Rat} (hp : PB 128 8 p) : ∀ j, j ≤ 9 → PB (1000 * 20 ^ j) j (sumL p j)
  | 0, _ => ⟨fun x hx => by simp [sumL] at hx, by simp [sumL], fun q => absurd rfl q⟩
  | j + 1, h => by
    have ih := pb_t (pb_sum hp j (by omega))
    have hs := pb_scl hp (j := j) (by omega)
    have hle : (j + 1) * (1000 * 20 ^ j) + 10 ^ j * 128 ≤ 1000 * 20 ^ (j + 1) := by
      have h1 : 10 ^ j ≤ 20 ^ j := Nat.pow_le_pow_left (by omega) j
      have h2 : (j + 1) * (1000 * 20 ^ j) ≤ 9 * (1000 * 20 ^ j) := Nat.mul_le_mul_right _ (by omega)
      rw [Nat.pow_succ]
      omega
    show PB _ _ (if 8 - j < p.length then trm (pa (pd (sumL p j) [1, 1]) (sclL p j)) else pd (sumL p j) [1, 1])
    split
    · refine (PB.take (tm_ok _) (pa_zi ih hs) (n := j + 1) ?_).up hle (Nat.le_refl _)
      rw [pa_len]
      have := ih.len
      have := hs.len
      omega
    · exact ih.up (by omega) (Nat.le_refl _)
theorem sum_big {j : Nat} (h : j ≤ 9) : 1000 * 20 ^ j ≤ 512000000000000 := by
  have : 20 ^ j ≤ 20 ^ 9 := Nat.pow_le_pow_right (by omega) h
  have h9 : 20 ^ 9 = 512000000000 := by decide
  omega
theorem pow_big {j : Nat} (h : j ≤ 9) : 10 ^ j ≤ 1000000000 := by
  have : 10 ^ j ≤ 10 ^ 9 := Nat.pow_le_pow_right (by omega) h
  have h9 : 10 ^ 9 = 1000000000 := by decide
  omega
theorem pb_fit {B n : Nat} {l : List Rat} (h : PB B n l) (hB : B ≤ 9000000000000000000) : ∀ x ∈ l, Fit x := fun x hx => (h.zi x hx).fit hB
noncomputable def alEnv (p : List Rat) (hp : ∀ y ∈ p, Fit y) (lo : Nat) : Env := ⟨atQ p 0, fun _ => (false, ⟨#[]⟩, ⟨#[]⟩), fun i _ => atQ_fit hp fit00 i, fun i => (atQ_fit hp fit00 i).sm.up (by decide), fun _ => bad_zero, lo, alLst p, fun _ => 0, rfl⟩
theorem oQ_ev (q : Nat → Rat) : oQ.ev q = 1 := by show mkRat (Big.sI false 1) 1 = 1; rfl
theorem alN_ok {p : List Rat} (hp : ∀ y ∈ p, Fit y) (lo : Nat) : NmsOK (alEnv p hp lo) alN := by
  refine ⟨fun es c h => ?_, fun l c h => by simp [alN] at h⟩
  simp only [alN, List.mem_cons, List.not_mem_nil, or_false, Prod.mk.injEq] at h
  rcases h with ⟨rfl, rfl⟩ | ⟨rfl, rfl⟩ | ⟨rfl, rfl⟩ | ⟨rfl, rfl⟩
  · rfl
  · show ([1, 1] : List Rat) = [oQ.ev _, oQ.ev _]
    rw [oQ_ev]
  · show ([1, -1] : List Rat) = [oQ.ev _, -oQ.ev _]
    rw [oQ_ev]
  · show ([1] : List Rat) = [oQ.ev _]
    rw [oQ_ev]
theorem along_any (w : World) {p : List Rat} (hp : PB 128 8 p) {u : Value} (hu : LsIn 1 w u p) (hG : Tryz.prog.globals.size ≤ w.heap.size) (hT : natSig.base w) :
    Calls Tryz.prog alF ⟨[u, .int .i64 8]⟩ w fun e w' => ∃ y, e = .returned y ∧ NewOl 1 w w' y (sumL p 9) ∧ Below w.heap.size w w' := by
  have hl := hp.len
  have hf := pb_fit hp (by omega)
  let E := alEnv p hf w.heap.size
  have hr := isOl_ok (List.all_eq_true.1 al_runs p.length (List.mem_range.2 (by omega)))
  have hA : AllH E [] := fun x hx => by simp at hx
  have hB : AllX E (.lc 0 p.length :: elRow 0 p.length) := fun x hx => by
    rcases List.mem_cons.1 hx with rfl | hx
    · rfl
    · exact elRow_ok (ρ := E) (c := 0) (p := p) rfl (fun i _ => atQ_el p 0 i) (Nat.le_refl _) x hx
  have hB0 : AllX E [] := fun x hx => by simp at hx
  have hN := alN_ok hf w.heap.size
  have hS : SumOK (symSig E) Tryz.prog (alSums p.length) := sumsOf_ok fun z hz => by
    rcases List.mem_cons.1 hz with rfl | hz
    · refine biN_ok hB0 hN (loc_giveO _) (Q := QO E 1) (fun c d e hm w v u hv hu hG hT => ?_) giveO_gives
      rcases List.mem_append.1 hm with hm | hm
      · obtain ⟨j, hj, he⟩ := List.mem_map.1 hm
        simp only [Prod.mk.injEq] at he
        obtain ⟨rfl, rfl, rfl⟩ := he
        have hj := List.mem_range.1 hj
        have e1 : E.lst (sumN p.length j) = sumL p j := alSum p (by omega)
        have e2 : E.lst 1 = [1, 1] := rfl
        have e3 : E.lst (30 + j) = pd (sumL p j) [1, 1] := al30 p (by omega)
        rw [e1] at hv
        rw [e2] at hu
        have b1 := pb_sum hp j (by omega)
        have g1 := sum_big (j := j) (by omega)
        have hl1 := b1.len
        refine (mulE_any w (b1.pm pb_11 (by omega) (by omega) ?_) (by omega) (by simp) hv hu hG hT).mono ?_
        · rw [Nat.mul_one]
          exact Nat.le_trans (Nat.mul_le_mul (show j ≤ 9 by omega) g1) (by decide)
        · rintro en w' ⟨x, q1, q2, q3⟩
          refine ⟨⟨x, q1, ?_⟩, q3⟩
          rw [e3]; exact q2
      · obtain ⟨j, hj, he⟩ := List.mem_map.1 hm
        simp only [Prod.mk.injEq] at he
        obtain ⟨rfl, rfl, rfl⟩ := he
        have hj := List.mem_range.1 hj
        have e1 : E.lst (50 + j) = powL j := al50 p (by omega)
        have e2 : E.lst 2 = [1, -1] := rfl
        have e3 : E.lst (51 + j) = pd (powL j) [1, -1] := by rw [show 51 + j = 50 + (j + 1) by omega]; exact al50 p (j := j + 1) (by omega)
        rw [e1] at hv
        rw [e2] at hu
        have b1 := pb_pow j (by omega)
        have g1 := pow_big (j := j) (by omega)
        have hl1 := b1.len
        refine (mulE_any w (b1.pm pb_1m (by omega) (by omega) ?_) (by omega) (by simp) hv hu hG hT).mono ?_
        · rw [Nat.mul_one]
          exact Nat.le_trans (Nat.mul_le_mul (show j + 1 ≤ 9 by omega) g1) (by decide)
        · rintro en w' ⟨x, q1, q2, q3⟩
          refine ⟨⟨x, q1, ?_⟩, q3⟩
          rw [e3]; exact q2
    rcases List.mem_cons.1 hz with rfl | hz
    · refine biN_ok hB0 hN (loc_giveO _) (Q := QO E 1) (fun c d e hm w v u hv hu hG hT => ?_) giveO_gives
      obtain ⟨j, hj, he⟩ := List.mem_map.1 hm
      simp only [Prod.mk.injEq] at he
      obtain ⟨rfl, rfl, rfl⟩ := he
      have hj := List.mem_range.1 hj
      have e1 : E.lst (30 + j) = pd (sumL p j) [1, 1] := al30 p (by omega)
      have e2 : E.lst (40 + j) = sclL p j := al40 p (by omega)
      have e3 : E.lst (60 + j) = trm (pa (pd (sumL p j) [1, 1]) (sclL p j)) := al60 p (by omega)
      rw [e1] at hv
      rw [e2] at hu
      have b1 := pb_t (pb_sum hp j (by omega))
      have b2 := pb_scl hp (j := j) (by omega)
      have g1 := sum_big (j := j) (by omega)
      have g2 := pow_big (j := j) (by omega)
      have hl1 := b1.len
      have hl2 := b2.len
      refine (addE_any w (b1.pa b2 ?_) (tm_ok _) (by omega) (by omega) hv hu hG hT).mono ?_
      · have := Nat.mul_le_mul (show j + 1 ≤ 9 by omega) g1
        omega
      · rintro en w' ⟨x, q1, q2, q3⟩
        refine ⟨⟨x, q1, ?_⟩, q3⟩
        rw [e3]; exact q2
    rcases List.mem_cons.1 hz with rfl | hz
    · refine siN_ok hB0 hN (loc_giveO _) (Q := QO E 1) (fun c x e hm w v u hv hu hG hT => ?_) giveO_gives
      obtain ⟨j, hj, he⟩ := List.mem_map.1 hm
      simp only [Prod.mk.injEq] at he
      obtain ⟨rfl, rfl, rfl⟩ := he
      have hj := List.mem_range.1 hj
      have e1 : E.lst (50 + j) = powL j := al50 p (by omega)
      have e2 : E.lst (40 + j) = sclL p j := al40 p (by omega)
      rw [e1] at hv
      have hx : (Qe.v (10 + (8 - j))).ev E.q = p.getD (8 - j) 0 := atQ_el p 0 (8 - j)
      rw [hx] at hu
      have b1 := pb_pow j (by omega)
      have g2 := pow_big (j := j) (by omega)
      have hl1 := b1.len
      refine (scaleE_any w (pb_fit b1 (by omega)) ((ZI.getD hp.zi _).fit (by omega)) (by omega) (tm_ok _) hv hu hG hT).mono ?_
      rintro en w' ⟨x, q1, q2, q3⟩
      refine ⟨⟨x, q1, ?_⟩, q3⟩
      rw [e2]; exact q2
    rcases List.mem_cons.1 hz with rfl | hz
    · exact natOfL_ok
    rcases List.mem_cons.1 hz with rfl | hz
    · exact wholeL_ok
    · exact symList_ok hA z hz
  refine (tells_calls (lsFits hA hB) hS hr rfl glob_few (us := [u]) ⟨_, _, rfl, LsIn.ls hu rfl, by obtain ⟨a, m, rfl, _⟩ := hu; rfl, rfl⟩ hG hT (Nat.le_refl _) (.none rfl)).mono ?_
  rintro e w' ⟨v', rfl, h1, hb⟩
  exact ⟨v', rfl, newOl_of (ρ := E) rfl h1 (alSum p (Nat.le_refl _)) (fun p hp => by cases hp), hb⟩
noncomputable def symC : Cfg Sy := symCfg (fun _ _ => fail)
instance symCHard : HardLoc symC := ⟨fun _ _ => loc_fail⟩
theorem symLen_ok (ρ : Env) : ∀ f n w v, (symSig ρ).holds f w v → symLen f = some n → ∃ a c, v = .slice a n c := fun f n w v h e => by
  cases f with
  | n k =>
    have e' : wordsN k = n := Option.some.inj e
    obtain ⟨a, c, rfl⟩ := nat_slice (show NatIn w v k from h)
    exact ⟨a, c, by rw [e']⟩
  | _ => cases e
theorem symFits (ρ : Env) : Fits (symSig ρ) Tryz.prog symC where
  hid := rfl
  G := rfl
  len := symLen_ok ρ
  tab := natFits.tab
  glob := natFits.glob
  mixed := natFits.mixed
  hard := fun o vs h nx x h' nx' R W _ e => by cases (show (fail : M Sy Nxt) h nx = _ from e)
noncomputable def symSums (A : List As) : Sums Sy := sumsOf (mkTab (symList A))
theorem symSums_ok {ρ : Env} {A : List As} (hA : AllH ρ A) : SumOK (symSig ρ) Tryz.prog (symSums A) := sumsOf_ok (symList_ok hA)
noncomputable def frs (e : Qe) : List Sy := [.ng e, .fn e, .fd e]
noncomputable def rws (i : Nat) : List Sy := [.rg i, .rn i, .rd i]
noncomputable def inp (b : Bool) (i : Nat) : List Sy := cond b (frs (.v i)) (rws i)
noncomputable def inp4 (a b c d : Bool) : List Sy := inp a 0 ++ (inp b 1 ++ (inp c 2 ++ inp d 3))
noncomputable def seen (e : Qe) : List (D1 Sy) := [.f (.ng e), .f (.fn e), .f (.fd e)]
noncomputable def okD (e f : Qe) : D3 Sy := .tuple [.agg (seen e ++ seen f), .one (.p (.int .i64 0))]
noncomputable def zero6 : List Value := [.bool false, .string ⟨#[]⟩, .string ⟨#[]⟩, .bool false, .string ⟨#[]⟩, .string ⟨#[]⟩]
noncomputable def noD (n : Int) : D3 Sy := .tuple [.agg (zero6.map .p), .one (.p (.int .i64 n))]
noncomputable def run2 (A : List As) (fs : List Sy) (f : FuncId) : Option (D3 Sy) := tells fs [.agg 6, .agg 6] (call Tryz.prog symC (symSums A) 60 f)
noncomputable def v0 : Qe := .v 0
noncomputable def v1 : Qe := .v 1
noncomputable def v2 : Qe := .v 2
noncomputable def v3 : Qe := .v 3
noncomputable def fits (e f : Qe) (s t : Bool) : List As := [⟨0, e, z0, s⟩, ⟨0, f, z0, t⟩]
noncomputable def andD (s t : Bool) (e f : Qe) : D3 Sy := cond (s && t) (okD e f) (noD 3)
noncomputable def mRe : Qe := .sub (.mul v0 v2) (.mul v1 v3)
noncomputable def mIm : Qe := .add (.mul v0 v3) (.mul v1 v2)
set_option maxRecDepth 100000
theorem mul_run (s t : Bool) : run2 (fits mRe mIm s t) (inp4 true true true true) 13 = some (andD s t mRe mIm) := by
  cases s <;> cases t <;> kernel_rfl
abbrev Tri := Bool × ByteArray × ByteArray
def tri (q : Rat) : Tri := (Big.ng q, bst (Big.nu q), bst (Big.de q))
def cel (x : Tri) : List Value := [.bool x.1, .string x.2.1, .string x.2.2]
def gV (p q : Rat) : Value := .agg ⟨cel (tri p) ++ cel (tri q)⟩
noncomputable def gZ : Value := .agg ⟨zero6⟩
def GRes (w : World) (p q : Rat) (e : Ending) (w' : World) : Prop :=
  ((Fit p ∧ Fit q) ∧ e = .returned (.tuple ⟨[gV p q, .int .i64 0]⟩) ∨ ¬ (Fit p ∧ Fit q) ∧ e = .returned (.tuple ⟨[gZ, .int .i64 3]⟩)) ∧ Below w.heap.size w w'
section
variable {ρ : Env} {w : World} {v : Value}
theorem seen_is {e : Qe} {l : List (D1 Sy)} {vs : List Value} (h : D1.all (symSig ρ) w (seen e ++ l) vs) : ∃ us, vs = cel (tri (e.ev ρ.q)) ++ us ∧ D1.all (symSig ρ) w l us := by
  obtain ⟨v1, u1, rfl, h1, v2, u2, rfl, h2, v3, u3, rfl, h3, h4⟩ := h
  refine ⟨u3, ?_, h4⟩
  rw [show v1 = .bool (Big.ng (e.ev ρ.q)) from h1, show v2 = .string (bst (Big.nu (e.ev ρ.q))) from h2, show v3 = .string (bst (Big.de (e.ev ρ.q))) from h3]
  rfl
theorem okD_is {e f : Qe} (h : (okD e f).is (symSig ρ) w v) : v = .tuple ⟨[gV (e.ev ρ.q) (f.ev ρ.q), .int .i64 0]⟩ := by
  obtain ⟨vs, rfl, v1, u1, rfl, ⟨x, rfl, hx⟩, v2, u2, rfl, h2, h3⟩ := h
  obtain ⟨us, rfl, hy⟩ := seen_is hx
  have hy' : D1.all (symSig ρ) w (seen f ++ []) us := by simpa using hy
  obtain ⟨us2, rfl, hz⟩ := seen_is hy'
  obtain rfl : us2 = [] := hz
  obtain rfl : u2 = [] := h3
  rw [show v2 = .int .i64 0 from h2, List.append_nil]
  rfl
theorem all_p : ∀ {l vs : List Value}, D1.all (symSig ρ) w (l.map .p) vs → vs = l
  | [], vs, h => h
  | x :: l, vs, h => by
    obtain ⟨v, us, rfl, h1, h2⟩ := h
    rw [show v = x from h1, all_p h2]
theorem noD_is {n : Int} (h : (noD n).is (symSig ρ) w v) : v = .tuple ⟨[gZ, .int .i64 n]⟩ := by
  obtain ⟨vs, rfl, v1, u1, rfl, ⟨x, rfl, hx⟩, v2, u2, rfl, h2, h3⟩ := h
  obtain rfl : u2 = [] := h3
  rw [all_p hx, show v2 = .int .i64 n from h2]
  rfl
end
theorem holdsL_append {F : Type} {S : Sig F} {w : World} : ∀ {l l' : List F} {us us' : List Value}, HoldsL S w l us → HoldsL S w l' us' → HoldsL S w (l ++ l') (us ++ us')
  | [], l', us, us', h, h' => by
    obtain rfl : us = [] := h
    exact h'
  | f :: l, l', us, us', h, h' => by
    obtain ⟨u, vs, rfl, h1, h2, h3⟩ := h
    exact ⟨u, vs ++ us', rfl, h1, h2, holdsL_append h3 h'⟩
def pick {α : Type} (a b c d : α) : Nat → α
  | 0 => a
  | 1 => b
  | 2 => c
  | _ => d
theorem pick_all {α : Type} {p : α → Prop} {a b c d : α} (ha : p a) (hb : p b) (hc : p c) (hd : p d) : ∀ i, p (pick a b c d i)
  | 0 => ha
  | 1 => hb
  | 2 => hc
  | _ + 3 => hd
theorem inp_holds {ρ : Env} {w : World} {b : Bool} {i : Nat} {x : Tri} (h1 : b = true → x = tri (ρ.q i)) (h2 : b = false → x = ρ.raw i) : HoldsL (symSig ρ) w (inp b i) (cel x) := by
  cases b with
  | true =>
    rw [h1 rfl]
    exact frac_holds (w := w) (.v i)
  | false =>
    rw [h2 rfl]
    exact ⟨_, _, rfl, rfl, rfl, _, _, rfl, rfl, rfl, _, _, rfl, rfl, rfl, rfl⟩
structure In4 (x y z u : Tri) where
  ρ : Env
  lo0 : ρ.lo = 0
  a : Bool
  b : Bool
  c : Bool
  d : Bool
  hx : (a = true → x = tri (ρ.q 0)) ∧ (a = false → x = ρ.raw 0)
  hy : (b = true → y = tri (ρ.q 1)) ∧ (b = false → y = ρ.raw 1)
  hz : (c = true → z = tri (ρ.q 2)) ∧ (c = false → z = ρ.raw 2)
  hu : (d = true → u = tri (ρ.q 3)) ∧ (d = false → u = ρ.raw 3)
theorem In4.holds {x y z u : Tri} (i : In4 x y z u) (w : World) : HoldsL (symSig i.ρ) w (inp4 i.a i.b i.c i.d) (cel x ++ (cel y ++ (cel z ++ cel u))) :=
  holdsL_append (inp_holds i.hx.1 i.hx.2) (holdsL_append (inp_holds i.hy.1 i.hy.2) (holdsL_append (inp_holds i.hz.1 i.hz.2) (inp_holds i.hu.1 i.hu.2)))
theorem tri_inj {p q : Rat} (h : tri p = tri q) : p = q := by
  unfold tri at h
  simp only [Prod.mk.injEq] at h
  exact Big.parts_eq h.1 (bst_inj h.2.1) (bst_inj h.2.2)
theorem not_bad {q : Rat} (h : Fit q) : ¬ BadF (tri q) := fun hb => hb q h ⟨rfl, rfl, rfl⟩
def envOf (a b c d : Rat) (ha : Fit a) (hb : Fit b) (hc : Fit c) (hd : Fit d) : Env := Env.ofFit (pick a b c d) (fun _ => (false, ⟨#[]⟩, ⟨#[]⟩)) (pick_all ha hb hc hd) fun _ => bad_zero
theorem fits_hold {ρ : Env} {e f : Qe} {s t : Bool} (h1 : s = true ↔ Fit (e.ev ρ.q)) (h2 : t = true ↔ Fit (f.ev ρ.q)) : AllH ρ (fits e f s t) := by
  intro x hx
  simp only [fits, List.mem_cons, List.not_mem_nil, or_false] at hx
  rcases hx with rfl | rfl
  · exact h1
  · exact h2
theorem fit_bool (q : Rat) : ∃ s : Bool, s = true ↔ Fit q := by
  by_cases h : Fit q
  · exact ⟨true, fun _ => h, fun _ => rfl⟩
  · exact ⟨false, fun h => (by cases h), fun h2 => absurd h2 h⟩
theorem ga2 {f : FuncId} {e1 e2 : Qe} (run : ∀ s t, run2 (fits e1 e2 s t) (inp4 true true true true) f = some (andD s t e1 e2)) (w : World) {a b c d : Rat} (ha : Fit a) (hb : Fit b) (hc : Fit c) (hd : Fit d) (hG : Tryz.prog.globals.size ≤ w.heap.size) (hT : Tab w) :
    Calls Tryz.prog f ⟨[gV a b, gV c d]⟩ w (GRes w (e1.ev (pick a b c d)) (e2.ev (pick a b c d))) := by
  obtain ⟨s, hs⟩ := fit_bool (e1.ev (pick a b c d))
  obtain ⟨t, ht⟩ := fit_bool (e2.ev (pick a b c d))
  have hA : AllH (envOf a b c d ha hb hc hd) (fits e1 e2 s t) := fits_hold hs ht
  have hu : HoldsL (symSig (envOf a b c d ha hb hc hd)) w (inp4 true true true true) (cel (tri a) ++ (cel (tri b) ++ (cel (tri c) ++ cel (tri d)))) :=
    holdsL_append (inp_holds (fun _ => rfl) (fun h => (by cases h))) (holdsL_append (inp_holds (fun _ => rfl) (fun h => (by cases h))) (holdsL_append (inp_holds (fun _ => rfl) (fun h => (by cases h))) (inp_holds (fun _ => rfl) (fun h => (by cases h)))))
  refine (tells_calls (symFits _) (symSums_ok hA) (run s t) rfl glob_few hu hG hT).mono ?_
  rintro e w' ⟨v', rfl, hv, hb'⟩
  refine ⟨?_, hb'⟩
  unfold andD at hv
  cases s with
  | true => cases t with
    | true => exact .inl ⟨⟨hs.1 rfl, ht.1 rfl⟩, by rw [okD_is hv]; rfl⟩
    | false => exact .inr ⟨fun h => (by have := ht.2 h.2; cases this), by rw [noD_is hv]⟩
  | false => exact .inr ⟨fun h => (by have := hs.2 h.1; cases this), by rw [noD_is hv]⟩
def tbeq (x y : Tri) : Bool := x.1 == y.1 && (x.2.1.toList == y.2.1.toList && x.2.2.toList == y.2.2.toList)
theorem tbeq_iff {x y : Tri} : tbeq x y = true ↔ x = y := by
  obtain ⟨a, s, t⟩ := x
  obtain ⟨b, u, v⟩ := y
  have key : ∀ p q : ByteArray, (p.toList == q.toList) = true ↔ p = q := fun p q => by
    rw [beq_iff_eq, ByteArray.toList_eq, ByteArray.toList_eq]
    obtain ⟨⟨p⟩⟩ := p
    obtain ⟨⟨q⟩⟩ := q
    simp
  simp only [tbeq, Bool.and_eq_true, key, beq_iff_eq, Prod.mk.injEq]
theorem eqIn_frac (d : Nat) (x y : Tri) (w : World) : (Op.equalIn (d + 2) 30 (.agg ⟨cel x⟩) (.agg ⟨cel y⟩)).run Tryz.prog w = .ok (tbeq x y) w := by
  have hS : Tryz.prog.underlying 30 = some (.struct (Tryz.prog.fieldsOf 30)) := by kernel_rfl
  have hp : Tryz.prog.stoodInHeld 30 = false := by kernel_rfl
  obtain ⟨a, s, t⟩ := x
  obtain ⟨b, u, v⟩ := y
  rw [show d + 2 = (d + 1) + 1 from rfl, run_equalIn_struct w (d + 1) 30 _ _ hS hp]
  simp only [Program.fieldsOf, Tryz.underlying30, cel, tbeq]
  generalize hx : (s.toList == u.toList) = b1
  generalize hy : (t.toList == v.toList) = b2
  cases a <;> cases b <;> cases b1 <;> cases b2 <;> go_simp <;> simp [hx, hy]
theorem eqIn_gauss (d : Nat) (x y z u : Tri) (w : World) : (Op.equalIn (d + 3) 38 (.agg ⟨cel x ++ cel y⟩) (.agg ⟨cel z ++ cel u⟩)).run Tryz.prog w = .ok (tbeq x z && tbeq y u) w := by
  have hS : Tryz.prog.underlying 38 = some (.struct (Tryz.prog.fieldsOf 38)) := by kernel_rfl
  have hp : Tryz.prog.stoodInHeld 38 = false := by kernel_rfl
  obtain ⟨x1, x2, x3⟩ := x
  obtain ⟨y1, y2, y3⟩ := y
  obtain ⟨z1, z2, z3⟩ := z
  obtain ⟨u1, u2, u3⟩ := u
  have e1 := fun (a b : Bool) (w : World) => run_equalIn_bool' (P := Tryz.prog) w d 4 a b Tryz.underlying4
  have e2 := fun (a b : ByteArray) (w : World) => run_equalIn_string (P := Tryz.prog) w d 9 a b Tryz.underlying9
  rw [show d + 3 = (d + 2) + 1 from rfl, run_equalIn_struct w (d + 2) 38 _ _ hS hp]
  simp only [Program.fieldsOf, Tryz.underlying38]
  go_simp
  simp only [cel, tbeq, e1, e2]
  generalize h1 : (x1 == z1) = b1
  generalize h2 : (x2.toList == z2.toList) = b2
  generalize h3 : (x3.toList == z3.toList) = b3
  generalize h4 : (y1 == u1) = b4
  generalize h5 : (y2.toList == u2.toList) = b5
  generalize h6 : (y3.toList == u3.toList) = b6
  cases b1 <;> cases b2 <;> cases b3 <;> cases b4 <;> cases b5 <;> cases b6 <;> simp only [beq_iff_eq, beq_eq_false_iff_ne, ne_eq] at h1 h2 h3 h4 h5 h6 <;> simp [e1, e2, h1, h2, h3, h4, h5, h6]
noncomputable def three (a b : Option Bool) : Option Bool := match a with
  | some x => cond x b (some false)
  | none => match b with
    | some y => cond y none (some false)
    | none => none
theorem three_ok {a b : Option Bool} {x y z : Bool} (ha : ∀ t, a = some t → t = x) (hb : ∀ t, b = some t → t = y) (h : three a b = some z) : z = (x && y) := by
  cases a with
  | some p =>
    have := ha p rfl
    subst this
    cases p with
    | true => exact hb z h
    | false => cases h; rfl
  | none =>
    cases b with
    | none => cases h
    | some q =>
      have := hb q rfl
      subst this
      cases q with
      | true => cases h
      | false => cases h; simp
noncomputable def sameO (A : List As) (l m : List Value) (o p : Option Qe) : Option Bool := match o with
  | some e => match p with
    | some f => cond (e.beq f) (some true) (ask A 2 e f)
    | none => match fitB A e with
      | some t => cond t (some false) none
      | none => none
  | none => match p with
    | some f => match fitB A f with
      | some t => cond t (some false) none
      | none => none
    | none => cond (eqL eq1 l m && plainL plain l) (some true) none
noncomputable def eq3 (A : List As) (l m : List Value) : M Sy (Option Bool) := bind (frcV l) fun o => bind (frcV m) fun p => ret (sameO A l m o p)
noncomputable def ansEq (op : BinOp) (b : Option Bool) : M Sy Nxt := match b with
  | some b => match op with
    | .eql => val (.bool b)
    | .neq => val (.bool (!b))
    | _ => fail
  | none => fail
noncomputable def eqCells (A : List As) (op : BinOp) (t : TypeId) (l m : List Value) : M Sy Nxt :=
  cond (Nat.beq t 30) (bind (eq3 A l m) (ansEq op))
    (cond (Nat.beq t 38) (bind (eq3 A (l.take 3) (m.take 3)) fun b => bind (eq3 A (l.drop 3) (m.drop 3)) fun c => ansEq op (three b c)) fail)
noncomputable def eqHard (A : List As) (o : Oper) (vs : List Value) : M Sy Nxt := match o.op with
  | .binOp op t _ _ _ => match vs with
    | [u, v] => match u with
      | .agg cs => match v with
        | .agg ds => eqCells A op t cs.toList ds.toList
        | _ => fail
      | _ => fail
    | _ => fail
  | _ => fail
theorem loc_eq3 (A : List As) (l m : List Value) : Loc (eq3 A l m) := loc_bind (loc_frcV _) fun _ => loc_bind (loc_frcV _) fun _ => loc_ret _
theorem loc_ansEq (op : BinOp) (b : Option Bool) : Loc (ansEq op b) := by
  unfold ansEq
  (repeat' split) <;> first | exact loc_val _ | exact loc_fail
theorem loc_eqHard (A : List As) (o : Oper) (vs : List Value) : Loc (eqHard A o vs) := by
  unfold eqHard
  (repeat' split) <;> first
    | exact loc_fail
    | exact loc_cond (loc_bind (loc_eq3 _ _ _) fun _ => loc_ansEq _ _) (loc_cond (loc_bind (loc_eq3 _ _ _) fun _ => loc_bind (loc_eq3 _ _ _) fun _ => loc_ansEq _ _) loc_fail)
theorem frc_tri {ρ : Env} {l : List Value} {o : Option Qe} (h : FrcIs ρ l o) : ∃ x : Tri, l = cel x ∧ (∀ e, o = some e → x = tri (e.ev ρ.q)) ∧ (o = none → BadF x) := by
  cases o with
  | some e =>
    obtain rfl : l = _ := h
    exact ⟨tri (e.ev ρ.q), rfl, fun e' he => by cases he; rfl, fun h => (by cases h)⟩
  | none =>
    obtain ⟨x, hx, rfl⟩ := h
    exact ⟨x, rfl, fun e' he => (by cases he), fun _ => hx⟩
section
variable {ρ : Env} {A : List As} {h h' : Tr (Blk Sy)} {nx nx' : Nat} {R W : List Nat} {r : Ren} {w : World}
theorem cel_inj {x y : Tri} (h : cel x = cel y) : x = y := by
  obtain ⟨a, s, t⟩ := x
  obtain ⟨b, u, v⟩ := y
  simp only [cel, List.cons.injEq, Value.bool.injEq, Value.string.injEq, and_true] at h
  obtain ⟨rfl, rfl, rfl⟩ := h
  rfl
theorem eq3_ok (hA : AllH ρ A) {l m l' m' : List Value} {b : Option Bool} (e : eq3 A l m h nx = .ok b h' nx' R W) (hl : VsR r l l') (hm : VsR r m m') (hM : Mod (symSig ρ) r h.get w) :
    h' = h ∧ nx' = nx ∧ W = [] ∧ ∃ x y : Tri, l' = cel x ∧ m' = cel y ∧ ∀ t, b = some t → t = tbeq x y := by
  obtain ⟨o, h1, nx1, R1, W1, R2, W2, q1, q2, rfl, rfl⟩ := bind_ok e
  obtain ⟨rfl, rfl, rfl, i1⟩ := frcV_ok q1 hl hM
  obtain ⟨p, h2, nx2, R3, W3, R4, W4, q3, q4, rfl, rfl⟩ := bind_ok q2
  obtain ⟨rfl, rfl, rfl, i2⟩ := frcV_ok q3 hm hM
  obtain ⟨rfl, rfl, rfl, rfl⟩ := ret_ok q4
  obtain ⟨x, rfl, x1, x2⟩ := frc_tri i1
  obtain ⟨y, rfl, y1, y2⟩ := frc_tri i2
  refine ⟨rfl, rfl, by simp, x, y, rfl, rfl, fun t ht => ?_⟩
  have neg : x ≠ y → tbeq x y = false := fun hn => by
    cases hb : tbeq x y with
    | false => rfl
    | true => exact absurd (tbeq_iff.1 hb) hn
  unfold sameO at ht
  cases o with
  | some e0 =>
    have hx := x1 e0 rfl
    cases p with
    | some f =>
      have hy := y1 f rfl
      simp only at ht
      cases hb : e0.beq f with
      | true =>
        rw [hb] at ht
        cases ht
        rw [hx, hy, Qe.beq_ok _ _ hb]
        exact (tbeq_iff.2 rfl).symm
      | false =>
        rw [hb] at ht
        have hs := ask_same hA ht
        cases t with
        | true => rw [hx, hy, hs.1 rfl]; exact (tbeq_iff.2 rfl).symm
        | false =>
          refine (neg fun h => ?_).symm
          rw [hx, hy] at h
          have := hs.2 (tri_inj h)
          cases this
    | none =>
      simp only at ht
      cases hf : fitB A e0 with
      | none => rw [hf] at ht; cases ht
      | some u =>
        rw [hf] at ht
        cases u with
        | false => cases ht
        | true =>
          cases ht
          refine (neg fun h => ?_).symm
          have hbad := y2 rfl
          rw [← h, hx] at hbad
          exact not_bad ((fitB_ok hA hf).1 rfl) hbad
  | none =>
    cases p with
    | some f =>
      have hy := y1 f rfl
      simp only at ht
      cases hf : fitB A f with
      | none => rw [hf] at ht; cases ht
      | some u =>
        rw [hf] at ht
        cases u with
        | false => cases ht
        | true =>
          cases ht
          refine (neg fun h => ?_).symm
          have hbad := x2 rfl
          rw [h, hy] at hbad
          exact not_bad ((fitB_ok hA hf).1 rfl) hbad
    | none =>
      simp only at ht
      cases hk : (eqL eq1 l m && plainL plain l) with
      | false => rw [hk] at ht; cases ht
      | true =>
        rw [hk] at ht
        cases ht
        simp only [Bool.and_eq_true] at hk
        have e1 := eqL_ok eq1_ok hk.1
        subst e1
        have e2 := hl.eq_of_plain hk.2
        have e3 := hm.eq_of_plain hk.2
        rw [← e2] at e3
        rw [cel_inj e3]
        exact (tbeq_iff.2 rfl).symm
theorem run_eqs (op : BinOp) (t : TypeId) (x y : Operand) (cs ds : Array Value) (b : Bool) (v : Value) (hm : Tryz.prog.eqGuardType Tryz.prog.depth t = false) (he : (Op.equalIn 10000 t (.agg cs) (.agg ds)).run Tryz.prog w = .ok b w) (hv : (op = .eql ∧ v = .bool b) ∨ (op = .neq ∧ v = .bool (!b))) :
    (do eqGuard op t x y (.agg cs) (.agg ds); binOp op t (.agg cs) (.agg ds) : Sem Value).run Tryz.prog w = .ok v w := by
  have hg := run_eqGuard_agg (P := Tryz.prog) w op t x y cs ds hm
  have he' : (Op.equal t (.agg cs) (.agg ds)).run Tryz.prog w = .ok b w := he
  rcases hv with ⟨rfl, rfl⟩ | ⟨rfl, rfl⟩
  · rw [Sem.run_bind, hg]
    simp [binOp, he']
  · rw [Sem.run_bind, hg]
    simp [binOp, he']
theorem ansEq_ok {op : BinOp} {b : Option Bool} {x : Nxt} (e : ansEq op b h nx = .ok x h' nx' R W) : h' = h ∧ nx' = nx ∧ W = [] ∧ ∃ t v, b = some t ∧ x = .val v ∧ ((op = .eql ∧ v = .bool t) ∨ (op = .neq ∧ v = .bool (!t))) := by
  unfold ansEq at e
  cases b with
  | none => cases (show (fail : M Sy Nxt) h nx = _ from e)
  | some t =>
    cases op with
    | eql =>
      obtain ⟨rfl, rfl, rfl, rfl⟩ := val_ok (show (val (.bool t) : M Sy Nxt) h nx = _ from e)
      exact ⟨rfl, rfl, rfl, t, _, rfl, rfl, .inl ⟨rfl, rfl⟩⟩
    | neq =>
      obtain ⟨rfl, rfl, rfl, rfl⟩ := val_ok (show (val (.bool (!t)) : M Sy Nxt) h nx = _ from e)
      exact ⟨rfl, rfl, rfl, t, _, rfl, rfl, .inr ⟨rfl, rfl⟩⟩
    | _ => cases (show (fail : M Sy Nxt) h nx = _ from e)
theorem eqHard_ok (hA : AllH ρ A) {C : Cfg Sy} (hC : C.hard = eqHard A) : HardOK (symSig ρ) Tryz.prog C := by
  intro o vs h nx x h' nx' R W hs e r w ρo hM hN hv
  rw [hC] at e
  unfold eqHard at e
  cases hop : o.op with
  | binOp op t p q yt =>
    rw [hop] at e
    simp only at e
    have hops : o.op.operands.toList.map ρo = [ρo p, ρo q] := by rw [hop]; rfl
    rw [hops] at hv
    rcases vs with _ | ⟨u, _ | ⟨v, _ | ⟨z, l⟩⟩⟩ <;> first | (cases (show (fail : M Sy Nxt) h nx = _ from e); done) | skip
    cases hv with
    | cons hu hv => cases hv with
      | cons hv hn =>
        cases u <;> first | (cases (show (fail : M Sy Nxt) h nx = _ from e); done) | skip
        rename_i cs
        cases v <;> first | (cases (show (fail : M Sy Nxt) h nx = _ from e); done) | skip
        rename_i ds
        obtain ⟨cl⟩ := cs
        obtain ⟨dl⟩ := ds
        obtain ⟨cl', hc1, hc2⟩ := vr_agg hu
        obtain ⟨dl', hd1, hd2⟩ := vr_agg hv
        simp only at e
        have fin : ∀ {b : Bool} {v : Value}, (Op.equalIn 10000 t (.agg ⟨cl'⟩) (.agg ⟨dl'⟩)).run Tryz.prog w = .ok b w → Tryz.prog.eqGuardType Tryz.prog.depth t = false → ((op = .eql ∧ v = .bool b) ∨ (op = .neq ∧ v = .bool (!b))) →
            (execOp ρo o).run Tryz.prog w = .ok (.value v) w := fun he hm hv => by
          have := run_eqs op t p q ⟨cl'⟩ ⟨dl'⟩ _ _ hm he hv
          simp only [execOp, hop, hc1, hd1]
          rw [Sem.run_bind, this]
          rfl
        unfold eqCells at e
        cases ht : Nat.beq t 30 with
        | true =>
          rw [ht] at e
          simp only [cond_true] at e
          have htt := Nat.eq_of_beq_eq_true ht
          obtain ⟨b, h1, nx1, R1, W1, R2, W2, e1, e2, rfl, rfl⟩ := bind_ok e
          obtain ⟨rfl, rfl, rfl, x1, y1, rfl, rfl, hb⟩ := eq3_ok hA e1 hc2 hd2 hM
          obtain ⟨rfl, rfl, rfl, t1, v1, rfl, rfl, hv1⟩ := ansEq_ok e2
          have := hb t1 rfl
          subst this
          refine ⟨Nat.le_refl _, v1, w, r, fin (by rw [htt]; exact eqIn_frac 9998 x1 y1 w) (by rw [htt]; kernel_rfl) hv1, ?_, by simpa using Ext.refl _ _ hM⟩
          rcases hv1 with ⟨_, rfl⟩ | ⟨_, rfl⟩ <;> exact .same rfl
        | false =>
          rw [ht] at e
          simp only [cond_false] at e
          cases ht2 : Nat.beq t 38 with
          | false => rw [ht2] at e; cases (show (fail : M Sy Nxt) h nx = _ from e)
          | true =>
            rw [ht2] at e
            simp only [cond_true] at e
            have htt := Nat.eq_of_beq_eq_true ht2
            obtain ⟨b, h1, nx1, R1, W1, R2, W2, e1, e2, rfl, rfl⟩ := bind_ok e
            obtain ⟨rfl, rfl, rfl, x1, y1, hx1, hy1, hb⟩ := eq3_ok hA e1 (hc2.take 3) (hd2.take 3) hM
            obtain ⟨c, h2, nx2, R3, W3, R4, W4, e3, e4, rfl, rfl⟩ := bind_ok e2
            obtain ⟨rfl, rfl, rfl, x2, y2, hx2, hy2, hc⟩ := eq3_ok hA e3 (hc2.drop 3) (hd2.drop 3) hM
            obtain ⟨rfl, rfl, rfl, t1, v1, ht1, rfl, hv1⟩ := ansEq_ok e4
            have := three_ok hb hc ht1
            subst this
            have z1 : cl' = cel x1 ++ cel x2 := by rw [← hx1, ← hx2, List.take_append_drop]
            have z2 : dl' = cel y1 ++ cel y2 := by rw [← hy1, ← hy2, List.take_append_drop]
            refine ⟨Nat.le_refl _, v1, w, r, fin (by rw [htt, z1, z2]; exact eqIn_gauss 9997 x1 x2 y1 y2 w) (by rw [htt]; kernel_rfl) hv1, ?_, by simpa using Ext.refl _ _ hM⟩
            rcases hv1 with ⟨_, rfl⟩ | ⟨_, rfl⟩ <;> exact .same rfl
  | _ => rw [hop] at e; cases (show (fail : M Sy Nxt) h nx = _ from e)
end
structure Ps where
  a : Qe
  b : Qe
  t : Bool
def Ps.holds (ρ : Nat → Rat) (x : Ps) : Prop := x.t = true ↔ (Fit (x.a.ev ρ) ∧ Fit (x.b.ev ρ))
noncomputable def both (o p : Option Qe) : Option (Qe × Qe) := match o with
  | some e => match p with
    | some f => some (e, f)
    | none => none
  | none => none
noncomputable def gss (l : List Value) : M Sy (Option (Qe × Qe)) := bind (frcV (l.take 3)) fun o => bind (frcV (l.drop 3)) fun p => ret (both o p)
theorem loc_gss (l : List Value) : Loc (gss l) := loc_bind (loc_frcV _) fun _ => loc_bind (loc_frcV _) fun _ => loc_ret _
def GssIs (ρ : Env) (l' : List Value) : Option (Qe × Qe) → Prop
  | some p => l' = cel (tri (p.1.ev ρ.q)) ++ cel (tri (p.2.ev ρ.q))
  | none => ∃ x y : Tri, (BadF x ∨ BadF y) ∧ l' = cel x ++ cel y
section
variable {ρ : Env} {A : List As} {B : List Ps} {h h' : Tr (Blk Sy)} {nx nx' : Nat} {R W : List Nat} {r : Ren} {w : World}
theorem gss_ok {l l' : List Value} {o : Option (Qe × Qe)} (e : gss l h nx = .ok o h' nx' R W) (hv : VsR r l l') (hM : Mod (symSig ρ) r h.get w) : h' = h ∧ nx' = nx ∧ W = [] ∧ GssIs ρ l' o := by
  obtain ⟨o1, h1, nx1, R1, W1, R2, W2, q1, q2, rfl, rfl⟩ := bind_ok e
  obtain ⟨rfl, rfl, rfl, i1⟩ := frcV_ok q1 (hv.take 3) hM
  obtain ⟨p, h2, nx2, R3, W3, R4, W4, q3, q4, rfl, rfl⟩ := bind_ok q2
  obtain ⟨rfl, rfl, rfl, i2⟩ := frcV_ok q3 (hv.drop 3) hM
  obtain ⟨rfl, rfl, rfl, rfl⟩ := ret_ok q4
  obtain ⟨x, hx, x1, x2⟩ := frc_tri i1
  obtain ⟨y, hy, y1, y2⟩ := frc_tri i2
  have hl : l' = cel x ++ cel y := by rw [← hx, ← hy, List.take_append_drop]
  refine ⟨rfl, rfl, by simp, ?_⟩
  cases o1 with
  | none => exact ⟨x, y, .inl (x2 rfl), hl⟩
  | some e1 =>
    cases p with
    | none => exact ⟨x, y, .inr (y2 rfl), hl⟩
    | some f1 =>
      show l' = _
      rw [hl, x1 e1 rfl, y1 f1 rfl]
theorem frs_holds (w : World) (e : Qe) : HoldsL (symSig ρ) w (frs e) (cel (tri (e.ev ρ.q))) := frac_holds (w := w) e
theorem mod_G {F : Type} {S : Sig F} {g : Nat → Option (Blk F)} (hM : Mod S r g w) (hG : S.G = Tryz.prog.globals.size) : Tryz.prog.globals.size ≤ w.heap.size := by
  rcases Nat.eq_zero_or_pos Tryz.prog.globals.size with h0 | h0
  · omega
  · have := hM.lt _ _ (hM.glob (Tryz.prog.globals.size - 1) (by rw [hG]; omega))
    omega
end
noncomputable def kAdd (x y : Qe × Qe) : Qe × Qe := (.add x.1 y.1, .add x.2 y.2)
noncomputable def kSub (x y : Qe × Qe) : Qe × Qe := (.sub x.1 y.1, .sub x.2 y.2)
noncomputable def kMul (x y : Qe × Qe) : Qe × Qe := (.sub (.mul x.1 y.1) (.mul x.2 y.2), .add (.mul x.1 y.2) (.mul x.2 y.1))
section
variable {ρ : Env} {A : List As} {B : List Ps}
end
end Ev
end Go.Proofs.YtaefgofheiegeaaGreat
