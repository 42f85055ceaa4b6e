/- Contracts, in this order: The simplest fraction between two: the continued fraction that both ends share. No program. · ratio: simplestAbove. -/
import Derived.Test.YtgdcahdnojaebaaDoorSm11
import Derived.Test.YtgdcahdnojaebaaDoorSm13
import Derived.LoopN
import Derived.Handy
import Derived.Deep.DeepCutAuto
/- The simplest fraction between two: the continued fraction that both ends share. No program. -/
namespace Go.Proofs.YtgdcahdnojaebaaDoor.Big

/-- The simplest one between a / b and c / d (c / 0 is above all), numerator and denominator; f: more than how many rounds there are. -/
def sp : Nat → Nat → Nat → Nat → Nat → Nat × Nat
  | 0, _, _, _, _ => (0, 1)
  | f + 1, a, b, c, d => if (a / b + 1) * d < c then (a / b + 1, 1) else (a / b * (sp f d (c - a / b * d) b (a % b)).1 + (sp f d (c - a / b * d) b (a % b)).2, (sp f d (c - a / b * d) b (a % b)).1)
theorem sp_found {f a b c d : Nat} (h : (a / b + 1) * d < c) : sp (f + 1) a b c d = (a / b + 1, 1) := by rw [sp, if_pos h]
theorem sp_on {f a b c d : Nat} (h : ¬ (a / b + 1) * d < c) : sp (f + 1) a b c d = (a / b * (sp f d (c - a / b * d) b (a % b)).1 + (sp f d (c - a / b * d) b (a % b)).2, (sp f d (c - a / b * d) b (a % b)).1) := by rw [sp, if_neg h]

/-- How far a state is from the end. -/
def spm (a b c d : Nat) : Nat := 2 * (a + b + c + d) + (if a < b then 1 else 0)
/-- Two ends, the first below the second. -/
structure Ends (a b c d : Nat) : Prop where
  b1 : 1 ≤ b
  lt : a * d < c * b
theorem Ends.c1 {a b c d : Nat} (h : Ends a b c d) : 1 ≤ c := by
  have := h.lt
  rcases Nat.eq_zero_or_pos c with h0 | h0
  · subst h0; simp at this
  · exact h0
/-- The whole part lies below the upper end too. -/
theorem Ends.wd {a b c d : Nat} (h : Ends a b c d) : a / b * d < c := by
  have h1 := h.lt
  have h2 := Nat.div_mul_le_self a b
  have h3 : a / b * d * b ≤ a * d := by
    rw [Nat.mul_right_comm]; exact Nat.mul_le_mul_right _ h2
  exact Nat.lt_of_mul_lt_mul_right (Nat.lt_of_le_of_lt h3 h1)
theorem Ends.next {a b c d : Nat} (h : Ends a b c d) : Ends d (c - a / b * d) b (a % b) := by
  have hw := h.wd
  refine ⟨by omega, ?_⟩
  have h1 := h.lt
  have dm := Nat.div_add_mod a b
  generalize a / b = w at *
  generalize a % b = r at *
  subst dm
  obtain ⟨e, he⟩ : ∃ e, c = w * d + e := ⟨c - w * d, by omega⟩
  subst he
  rw [Nat.add_sub_cancel_left]
  have e1 : (b * w + r) * d = b * w * d + r * d := Nat.add_mul ..
  have e2 : (w * d + e) * b = b * w * d + b * e := by grind
  rw [e1, e2] at h1
  rw [Nat.mul_comm d r]
  omega
theorem Ends.fall {a b c d : Nat} (h : Ends a b c d) (hn : ¬ (a / b + 1) * d < c) : spm d (c - a / b * d) b (a % b) < spm a b c d := by
  have hw := h.wd
  have hb := h.b1
  have dm := Nat.div_add_mod a b
  have hr := Nat.mod_lt a hb
  unfold spm
  by_cases hab : a < b
  · have h0 : a / b = 0 := Nat.div_eq_of_lt hab
    have ha : a % b = a := Nat.mod_eq_of_lt hab
    rw [h0, Nat.zero_add, Nat.one_mul] at hn
    rw [h0, ha, if_pos hab, Nat.zero_mul, Nat.sub_zero, if_neg hn]
    omega
  · have h0 : 1 ≤ a / b := (Nat.le_div_iff_mul_le hb).2 (by omega)
    rw [if_neg hab]
    have h1 : b * 1 ≤ b * (a / b) := Nat.mul_le_mul_left _ h0
    have h2 : 1 * d ≤ a / b * d := Nat.mul_le_mul_right _ h0
    generalize a / b = w at *
    generalize a % b = r at *
    generalize w * d = wd at *
    generalize b * w = bw at *
    split <;> omega
theorem sp_all : ∀ (f a b c d : Nat), Ends a b c d → spm a b c d < f → a * (sp f a b c d).2 < (sp f a b c d).1 * b ∧ (sp f a b c d).1 * d < c * (sp f a b c d).2 ∧ 1 ≤ (sp f a b c d).1 ∧ 1 ≤ (sp f a b c d).2 ∧
    (sp f a b c d).1 ≤ a + c ∧ (sp f a b c d).2 ≤ b + d ∧ Nat.gcd (sp f a b c d).1 (sp f a b c d).2 = 1
  | 0, a, b, c, d, _, hf => absurd hf (by omega)
  | f + 1, a, b, c, d, h, hf => by
    have hb := h.b1
    have hc := h.c1
    have dm := Nat.div_add_mod a b
    have hr := Nat.mod_lt a hb
    by_cases hn : (a / b + 1) * d < c
    · rw [sp_found hn]
      have hwa : a / b ≤ a := Nat.div_le_self _ _
      refine ⟨?_, by simpa using hn, Nat.le_add_left _ _, Nat.le_refl _, by show a / b + 1 ≤ a + c; omega, by show 1 ≤ b + d; omega, by simp⟩
      show a * 1 < (a / b + 1) * b
      rw [Nat.add_mul, Nat.mul_comm (a / b) b]; omega
    · have ih := sp_all f _ _ _ _ h.next (by have := h.fall hn; omega)
      rw [sp_on hn]
      have hw := h.wd
      generalize sp f d (c - a / b * d) b (a % b) = z at *
      obtain ⟨n, m⟩ := z
      obtain ⟨i1, i2, i3, i4, i5, i6, i7⟩ := ih
      simp only at *
      have e7 : Nat.gcd (a / b * n + m) n = 1 := by
        rw [Nat.gcd_comm, Nat.mul_comm, Nat.gcd_mul_left_add_right]; exact i7
      generalize a / b = w at *
      generalize a % b = r at *
      obtain ⟨e, he⟩ : ∃ e, c = w * d + e := ⟨c - w * d, by omega⟩
      subst he
      rw [Nat.add_sub_cancel_left] at *
      subst dm
      refine ⟨?_, ?_, by omega, i3, ?_, ?_, e7⟩
      · have e1 : (b * w + r) * n = b * w * n + n * r := by grind
        have e2 : (w * n + m) * b = b * w * n + b * m := by grind
        rw [e1, e2]; omega
      · have e1 : (w * n + m) * d = w * d * n + d * m := by grind
        have e2 : (w * d + e) * n = w * d * n + n * e := by grind
        rw [e1, e2]; omega
      · have e1 : w * n ≤ w * (d + b) := Nat.mul_le_mul_left _ i5
        rw [Nat.mul_add, Nat.mul_comm w b] at e1
        omega
      · omega
/-- Where a whole number lies between, the answer is whole. -/
theorem sp_whole {f a b c d k : Nat} (h : Ends a b c d) (h1 : a < k * b) (h2 : k * d < c) : (sp (f + 1) a b c d).2 = 1 := by
  have hb := h.b1
  have h3 : a / b < k := (Nat.div_lt_iff_lt_mul hb).2 h1
  have h4 : (a / b + 1) * d ≤ k * d := Nat.mul_le_mul_right _ h3
  rw [sp_found (by omega)]

/-- What has been gone through so far: the answer of what is left, put into the convergents. -/
structure Conv (A B X Y a b c d p p' q q' : Nat) (f : Nat) : Prop where
  ends : Ends a b c d
  fuel : spm a b c d < f
  np : p * (a + c) + p' * (b + d) = A
  nq : q * (a + c) + q' * (b + d) = B
  n : p * (sp f a b c d).1 + p' * (sp f a b c d).2 = X
  m : q * (sp f a b c d).1 + q' * (sp f a b c d).2 = Y
theorem Conv.start {a b c d f : Nat} (h : Ends a b c d) (hf : spm a b c d < f) : Conv (a + c) (b + d) (sp f a b c d).1 (sp f a b c d).2 a b c d 1 0 0 1 f :=
  ⟨h, hf, by omega, by omega, by omega, by omega⟩
theorem Conv.done {A B X Y a b c d p p' q q' f : Nat} (h : Conv A B X Y a b c d p p' q q' f) (hn : (a / b + 1) * d < c) : (a / b + 1) * p + p' = X ∧ (a / b + 1) * q + q' = Y := by
  obtain ⟨h1, h2, -, -, h3, h4⟩ := h
  obtain ⟨g, rfl⟩ : ∃ g, f = g + 1 := ⟨f - 1, by omega⟩
  rw [sp_found hn] at h3 h4
  rw [← h3, ← h4]
  constructor <;> grind
theorem Conv.step {A B X Y a b c d p p' q q' f : Nat} (h : Conv A B X Y a b c d p p' q q' f) (hn : ¬ (a / b + 1) * d < c) :
    ∃ g, g < f ∧ Conv A B X Y d (c - a / b * d) b (a % b) (a / b * p + p') p (a / b * q + q') q g := by
  obtain ⟨h1, h2, h5, h6, h3, h4⟩ := h
  have hfall := h1.fall hn
  have hw := h1.wd
  have hnx := h1.next
  obtain ⟨g, rfl⟩ : ∃ g, f = g + 1 := ⟨f - 1, by omega⟩
  rw [sp_on hn] at h3 h4
  refine ⟨g, by omega, hnx, by omega, ?_, ?_, ?_, ?_⟩
  · have dm := Nat.div_add_mod a b
    generalize a / b = w at *
    generalize a % b = r at *
    obtain ⟨e, he⟩ : ∃ e, c = w * d + e := ⟨c - w * d, by omega⟩
    subst he dm
    rw [Nat.add_sub_cancel_left]
    rw [← h5]; grind
  · have dm := Nat.div_add_mod a b
    generalize a / b = w at *
    generalize a % b = r at *
    obtain ⟨e, he⟩ : ∃ e, c = w * d + e := ⟨c - w * d, by omega⟩
    subst he dm
    rw [Nat.add_sub_cancel_left]
    rw [← h6]; grind
  · rw [← h3]; grind
  · rw [← h4]; grind
/-- The convergents are no greater than both ends. -/
theorem Conv.le {A B X Y a b c d p p' q q' f : Nat} (h : Conv A B X Y a b c d p p' q q' f) : p ≤ A ∧ p' ≤ A ∧ q ≤ B ∧ q' ≤ B := by
  obtain ⟨h1, h2, h5, h6, h3, h4⟩ := h
  have c1 := h1.c1
  have b1 := h1.b1
  have x1 : p * 1 ≤ p * (a + c) := Nat.mul_le_mul_left _ (by omega)
  have x2 : p' * 1 ≤ p' * (b + d) := Nat.mul_le_mul_left _ (by omega)
  have x3 : q * 1 ≤ q * (a + c) := Nat.mul_le_mul_left _ (by omega)
  have x4 : q' * 1 ≤ q' * (b + d) := Nat.mul_le_mul_left _ (by omega)
  omega

/-- The simplest one between two fractions, the first of which is below the second. -/
def spQ (x y : Rat) : Rat :=
  let z := sp (spm (nu x) (de x) (nu y) (de y) + 1) (nu x) (de x) (nu y) (de y)
  mkRat (z.1 : Int) z.2
def simplest (x y : Rat) : Rat := if ng x = true then (if ng y = false ∧ 0 < nu y then 0 else -spQ (-y) (-x)) else spQ x y
theorem ends_of {x y : Rat} (hx : ng x = false) (hy : ng y = false) (h : x < y) : Ends (nu x) (de x) (nu y) (de y) := by
  refine ⟨de_pos x, ?_⟩
  rw [lt_cross, hx, hy, sI_false, sI_false, ← Int.natCast_mul, ← Int.natCast_mul] at h
  omega
theorem spQ_parts {x y : Rat} (hx : ng x = false) (hy : ng y = false) (h : x < y) :
    ng (spQ x y) = false ∧ nu (spQ x y) = (sp (spm (nu x) (de x) (nu y) (de y) + 1) (nu x) (de x) (nu y) (de y)).1 ∧ de (spQ x y) = (sp (spm (nu x) (de x) (nu y) (de y) + 1) (nu x) (de x) (nu y) (de y)).2 := by
  have he := ends_of hx hy h
  obtain ⟨i1, i2, i3, i4, i5, i6, i7⟩ := sp_all _ _ _ _ _ he (Nat.lt_succ_self _)
  unfold spQ
  simp only at *
  generalize sp (spm (nu x) (de x) (nu y) (de y) + 1) (nu x) (de x) (nu y) (de y) = z at *
  have := of_parts false z.1 z.2 i4
  rw [i7, Nat.div_one, Nat.div_one] at this
  exact this
theorem spQ_between {x y : Rat} (hx : ng x = false) (hy : ng y = false) (h : x < y) : x < spQ x y ∧ spQ x y < y := by
  have he := ends_of hx hy h
  obtain ⟨p1, p2, p3⟩ := spQ_parts hx hy h
  obtain ⟨i1, i2, i3, i4, i5, i6, i7⟩ := sp_all _ _ _ _ _ he (Nat.lt_succ_self _)
  rw [← p2, ← p3] at i1 i2
  rw [lt_cross, lt_cross, hx, hy, p1, sI_false, sI_false, sI_false]
  simp only [← Int.natCast_mul]
  omega
theorem neg_lt {q : Rat} : ng q = true ↔ q < 0 := by
  unfold ng
  rw [decide_eq_true_iff, Rat.lt_iff]
  simp
theorem not_neg {q : Rat} : ng q = false ↔ 0 ≤ q := by
  rw [← Bool.not_eq_true, neg_lt, Rat.not_lt]
theorem pos_iff {q : Rat} : ng q = false ∧ 0 < nu q ↔ 0 < q := by
  rw [not_neg, Nat.pos_iff_ne_zero, Ne, nu_zero, Rat.lt_iff_le_and_ne]
  constructor
  · intro ⟨a, b⟩; exact ⟨a, fun e => b e.symm⟩
  · intro ⟨a, b⟩; exact ⟨a, fun e => b e.symm⟩
theorem simplest_between {x y : Rat} (h : x < y) : x < simplest x y ∧ simplest x y < y := by
  unfold simplest
  by_cases hx : ng x = true
  · rw [if_pos hx]
    by_cases hy : ng y = false ∧ 0 < nu y
    · rw [if_pos hy]
      exact ⟨neg_lt.1 hx, pos_iff.1 hy⟩
    · rw [if_neg hy]
      have hy0 : ¬ 0 < y := fun e => hy (pos_iff.2 e)
      have hy1 : y ≤ 0 := Rat.not_lt.1 hy0
      have n1 : ng (-y) = false := not_neg.2 (by have := Rat.neg_le_neg hy1; simpa using this)
      have n2 : ng (-x) = false := not_neg.2 (by have := Rat.neg_le_neg (Rat.le_of_lt (neg_lt.1 hx)); simpa using this)
      obtain ⟨k1, k2⟩ := spQ_between n1 n2 (Rat.neg_lt_neg h)
      exact ⟨by rw [Rat.lt_neg_iff]; exact k2, by rw [Rat.neg_lt_iff]; exact k1⟩
  · rw [if_neg hx]
    have hx' : ng x = false := by simpa using hx
    have hy' : ng y = false := not_neg.2 (Rat.le_trans (not_neg.1 hx') (Rat.le_of_lt h))
    exact spQ_between hx' hy' h
theorem simplest_turned {x y : Rat} (h : x < y) : simplest (-y) (-x) = -simplest x y := by
  unfold simplest
  have c1 : ng (-y) = true ↔ 0 < y := by rw [neg_lt, Rat.neg_lt_iff]; simp
  have c2 : (ng (-x) = false ∧ 0 < nu (-x)) ↔ ng x = true := by rw [pos_iff, neg_lt, Rat.lt_neg_iff]; simp
  have c3 : (ng y = false ∧ 0 < nu y) ↔ 0 < y := pos_iff
  by_cases hx : ng x = true
  · by_cases hy : 0 < y
    · rw [if_pos (c1.2 hy), if_pos (c2.2 hx), if_pos hx, if_pos (c3.2 hy)]; simp
    · rw [if_neg (fun e => hy (c1.1 e)), if_pos hx, if_neg (fun e => hy (c3.1 e)), Rat.neg_neg]
  · have hy : 0 < y := by
      have hx' : ng x = false := by simpa using hx
      have h1 := not_neg.1 hx'
      rcases Rat.lt_iff_le_and_ne.1 h with ⟨_, _⟩
      exact Rat.not_le.1 (fun e => absurd (Rat.le_trans e h1) (Rat.not_le.2 h))
    rw [if_pos (c1.2 hy), if_neg (fun e => hx (c2.1 e)), if_neg hx, Rat.neg_neg, Rat.neg_neg]
theorem spQ_whole {x y : Rat} (hx : ng x = false) (hy : ng y = false) (h : x < y) {k : Int} (h1 : x < (k : Rat)) (h2 : (k : Rat) < y) : de (spQ x y) = 1 := by
  obtain ⟨p1, p2, p3⟩ := spQ_parts hx hy h
  rw [p3]
  have k0 : 0 ≤ (k : Rat) := Rat.le_of_lt (Rat.not_le.1 (fun e => absurd (Rat.le_trans e (not_neg.1 hx)) (Rat.not_le.2 h1)))
  have kI : 0 ≤ k := Rat.intCast_nonneg.1 k0
  obtain ⟨n, rfl⟩ : ∃ n : Nat, k = n := ⟨k.toNat, by omega⟩
  have e1 : (nu x : Int) * 1 < (n : Int) * de x := by
    have := (Rat.lt_iff _ _).1 h1
    rw [num_eq x, hx, sI_false] at this
    exact this
  have e2 : (n : Int) * de y < (nu y : Int) * 1 := by
    have := (Rat.lt_iff _ _).1 h2
    rw [num_eq y, hy, sI_false] at this
    exact this
  rw [← Int.natCast_mul] at e1 e2
  exact sp_whole (k := n) (ends_of hx hy h) (by omega) (by omega)
theorem simplest_whole {x y : Rat} (h : x < y) {k : Int} (h1 : x < (k : Rat)) (h2 : (k : Rat) < y) : de (simplest x y) = 1 := by
  unfold simplest
  by_cases hx : ng x = true
  · rw [if_pos hx]
    by_cases hy : ng y = false ∧ 0 < nu y
    · rw [if_pos hy]; rfl
    · rw [if_neg hy, (neg_parts _).2.2]
      have hy0 : ¬ 0 < y := fun e => hy (pos_iff.2 e)
      have hy1 : y ≤ 0 := Rat.not_lt.1 hy0
      have n1 : ng (-y) = false := not_neg.2 (by have := Rat.neg_le_neg hy1; simpa using this)
      have n2 : ng (-x) = false := not_neg.2 (by have := Rat.neg_le_neg (Rat.le_of_lt (neg_lt.1 hx)); simpa using this)
      refine spQ_whole (k := -k) n1 n2 (Rat.neg_lt_neg h) ?_ ?_
      · rw [Rat.intCast_neg]; exact Rat.neg_lt_neg h2
      · rw [Rat.intCast_neg]; exact Rat.neg_lt_neg h1
  · rw [if_neg hx]
    have hx' : ng x = false := by simpa using hx
    have hy' : ng y = false := not_neg.2 (Rat.le_trans (not_neg.1 hx') (Rat.le_of_lt h))
    exact spQ_whole hx' hy' h h1 h2
theorem not_whole {x y : Rat} (h : x < y) (hd : de (simplest x y) ≠ 1) : y ≤ flQ x + 1 := by
  refine Rat.not_lt.1 (fun e => hd ?_)
  refine simplest_whole h (k := x.floor + 1) ?_ ?_
  · exact Rat.lt_floor_add_one x
  · rw [Rat.intCast_add]; exact e
/-- The answer is no longer than both ends. -/
theorem spQ_le {x y : Rat} (hx : ng x = false) (hy : ng y = false) (h : x < y) : nu (spQ x y) ≤ nu x + nu y ∧ de (spQ x y) ≤ de x + de y := by
  obtain ⟨p1, p2, p3⟩ := spQ_parts hx hy h
  obtain ⟨i1, i2, i3, i4, i5, i6, i7⟩ := sp_all _ _ _ _ _ (ends_of hx hy h) (Nat.lt_succ_self _)
  rw [p2, p3]
  exact ⟨i5, i6⟩
theorem simplest_le {x y : Rat} (h : x < y) : nu (simplest x y) ≤ nu x + nu y ∧ de (simplest x y) ≤ de x + de y := by
  unfold simplest
  by_cases hx : ng x = true
  · rw [if_pos hx]
    by_cases hy : ng y = false ∧ 0 < nu y
    · rw [if_pos hy]
      have := de_pos x
      exact ⟨by show 0 ≤ _; omega, by show 1 ≤ _; omega⟩
    · rw [if_neg hy, (neg_parts _).2.1, (neg_parts _).2.2]
      have hy0 : ¬ 0 < y := fun e => hy (pos_iff.2 e)
      have hy1 : y ≤ 0 := Rat.not_lt.1 hy0
      have n1 : ng (-y) = false := not_neg.2 (by have := Rat.neg_le_neg hy1; simpa using this)
      have n2 : ng (-x) = false := not_neg.2 (by have := Rat.neg_le_neg (Rat.le_of_lt (neg_lt.1 hx)); simpa using this)
      have := spQ_le n1 n2 (Rat.neg_lt_neg h)
      rw [(neg_parts _).2.1, (neg_parts _).2.2, (neg_parts _).2.1, (neg_parts _).2.2] at this
      omega
  · rw [if_neg hx]
    have hx' : ng x = false := by simpa using hx
    have hy' : ng y = false := not_neg.2 (Rat.le_trans (not_neg.1 hx') (Rat.le_of_lt h))
    exact spQ_le hx' hy' h
end Go.Proofs.YtgdcahdnojaebaaDoor.Big
/- ratio: simplestAbove. -/
namespace Go.Proofs.YtgdcahdnojaebaaDoor
open Go.RowKit

theorem numAt_in {w : World} {v : Value} {n : Nat} (h : NatIn w v n) : numAt w v = n := by
  obtain ⟨l, ⟨A, c, rfl, h1, h2, h3⟩, ok, nl, rfl⟩ := h
  rcases Nat.eq_zero_or_pos l.length with h0 | h0
  · obtain rfl := List.length_eq_zero_iff.1 h0
    cases A <;> rfl
  · obtain ⟨b, o, rfl, hb, hc⟩ := h3 h0
    have e : (List.range l.length).map (wordAt w ⟨b, o, none⟩) = l := by
      apply List.ext_getElem
      · simp
      · intro i h1 h2
        have h3 : i < l.length := h2
        simp only [List.getElem_map, List.getElem_range]
        unfold wordAt
        rw [hc i h3]
        show (intOf (.int .u64 ((Big.nth l i : Nat) : Int))).toNat = _
        simp [intOf, Big.nth, h3]
    show Big.val Big.M64 ((List.range l.length).map (wordAt w ⟨b, o, none⟩)) = _
    rw [e]
/-- Two numbers come back. -/
def Nat22 (w : World) (X Y : Nat) (e : Ending) (w' : World) : Prop := ∃ u v, e = .returned (.tuple #[u, v]) ∧ NatIn w' u X ∧ NatIn w' v Y ∧ Below w.heap.size w w'
theorem numB {P : Program} {f : FuncId} {args : Array Value} {b W : World} {r : Nat} (h : Below b.heap.size b W) (c : Calls P f args W (Nat1 W r)) : Calls P f args W (Nat2 b W r) :=
  c.mono fun _ _ ⟨v, h1, h2, h3⟩ => ⟨v, h1, h2, h.trans (h3.mono h.size), h3⟩
theorem conv_bounds {A B X Y a b c d p p' q q' f : Nat} (h : Big.Conv A B X Y a b c d p p' q q' f) (h1 : 1 ≤ p + q) (h2 : 1 ≤ p' + q') : a + c ≤ A + B ∧ b + d ≤ A + B := by
  have e1 := h.np
  have e2 := h.nq
  have x1 : 1 * (a + c) ≤ (p + q) * (a + c) := Nat.mul_le_mul_right _ h1
  have x2 : 1 * (b + d) ≤ (p' + q') * (b + d) := Nat.mul_le_mul_right _ h2
  rw [Nat.add_mul, Nat.one_mul] at x1 x2
  generalize p * (a + c) = m1 at *
  generalize p' * (b + d) = m2 at *
  generalize q * (a + c) = m3 at *
  generalize q' * (b + d) = m4 at *
  omega
set_option maxRecDepth 100000 in
set_option maxHeartbeats 4000000 in
theorem above_any (w : World) (vx vy : Value) (x y : Rat) (hx : NumIn w vx x) (hy : NumIn w vy y) (ng1 : Big.ng x = false) (ng2 : Big.ng y = false) (hlt : x < y) (A B X Y : Nat) (hA : Big.nu x + Big.nu y = A) (hB : Big.de x + Big.de y = B)
    (hX : (Big.sp (Big.spm (Big.nu x) (Big.de x) (Big.nu y) (Big.de y) + 1) (Big.nu x) (Big.de x) (Big.nu y) (Big.de y)).1 = X) (hY : (Big.sp (Big.spm (Big.nu x) (Big.de x) (Big.nu y) (Big.de y) + 1) (Big.nu x) (Big.de x) (Big.nu y) (Big.de y)).2 = Y) (hS : Sz 300 (A + B)) :
    Calls Tryd.prog 65 #[vx, vy] w (Nat22 w X Y) := by
  have HCV0 := Lib.hid (hX ▸ hY ▸ hA ▸ hB ▸ Big.Conv.start (Big.ends_of ng1 ng2 hlt) (Nat.lt_succ_self _))
  have HS := Lib.hid hS
  obtain ⟨A1, l1, c1, A2, l2, c2, rfl, -, -⟩ := hx.is_agg
  obtain ⟨B1, m1, d1, B2, m2, d2, rfl, -, -⟩ := hy.is_agg
  have HX := Lib.hid hx; have HY := Lib.hid hy
  obtain ⟨X0, Y0, B0⟩ := boxed2 w 61 61 (.bool (Big.ng x)) (.slice A1 l1 c1) (.slice A2 l2 c2) (.bool (Big.ng y)) (.slice B1 m1 d1) (.slice B2 m2 d2)
  have HX0 := Lib.hid X0; have HY0 := Lib.hid Y0; have HB0 := Lib.hid B0
  clear X0 Y0 B0 hX hY hA hB hS hx hy ng1 ng2 hlt
  go_enter Tryd.func65, Tryd.ntmps65
  go_wp2_with fail
  refine (of_num _ 1 M64_gt).mono ?_
  generalize (w.alloc (.cells #[.bool (Big.ng x), .slice A1 l1 c1, .slice A2 l2 c2] 61)).alloc (.cells #[.bool (Big.ng y), .slice B1 m1 d1, .slice B2 m2 d2] 61) = w0 at *
  rintro e w1 ⟨v1, rfl, n1, hw1⟩
  obtain ⟨O, lo, co, rfl, -⟩ := n1.is_slice
  have hb1 := HB0.out.trans (hw1.mono HB0.out.size)
  have HX1 := Lib.hid (HX0.out.keep hw1); have HY1 := Lib.hid (HY0.out.keep hw1)
  have KX := Lib.hid (show ∀ W, Below w1.heap.size w1 W → W.cell? ⟨w.heap.size, 0, none⟩ = some (.bool (Big.ng x)) ∧ W.cell? ⟨w.heap.size, 1, none⟩ = some (.slice A1 l1 c1) ∧ W.cell? ⟨w.heap.size, 2, none⟩ = some (.slice A2 l2 c2) ∧ W.cell? ⟨w.heap.size + 1, 0, none⟩ = some (.bool (Big.ng y)) ∧ W.cell? ⟨w.heap.size + 1, 1, none⟩ = some (.slice B1 m1 d1) ∧ W.cell? ⟨w.heap.size + 1, 2, none⟩ = some (.slice B2 m2 d2) from fun W h => ⟨(HX1.out.keep h).c0, (HX1.out.keep h).c1, (HX1.out.keep h).c2, (HY1.out.keep h).c0, (HY1.out.keep h).c1, (HY1.out.keep h).c2⟩)
  have CN1 := Lib.hid (fun W (h : Below w1.heap.size w1 W) => numB h (exNum_any W _ x ((HX.out.keep hb1).keep h)))
  have CD1 := Lib.hid (fun W (h : Below w1.heap.size w1 W) => numB h (exDen_any W _ x ((HX.out.keep hb1).keep h)))
  have CN2 := Lib.hid (fun W (h : Below w1.heap.size w1 W) => numB h (exNum_any W _ y ((HY.out.keep hb1).keep h)))
  have CD2 := Lib.hid (fun W (h : Below w1.heap.size w1 W) => numB h (exDen_any W _ y ((HY.out.keep hb1).keep h)))
  have H1 := Lib.hid n1
  have HBL1 := Lib.hid hb1
  clear n1 hw1 hb1 HX HY HX0 HY0 HX1 HY1 HB0
  go_wp2_with fail
  go_region_held3 (fun w' => w'.cell? ⟨w.heap.size, 0, none⟩ = some (.bool (Big.ng x)) ∧ w'.cell? ⟨w.heap.size, 1, none⟩ = some (.slice A1 l1 c1) ∧ w'.cell? ⟨w.heap.size, 2, none⟩ = some (.slice A2 l2 c2) ∧ w'.cell? ⟨w.heap.size + 1, 0, none⟩ = some (.bool (Big.ng y)) ∧ w'.cell? ⟨w.heap.size + 1, 1, none⟩ = some (.slice B1 m1 d1) ∧ w'.cell? ⟨w.heap.size + 1, 2, none⟩ = some (.slice B2 m2 d2))
    (exact KX.out _ (by first | assumption | exact Below.refl _ _ | exact below_drew (Below.refl _ _) | exact below_drew (by assumption)))
    (first
      | (go_at_call 41; (with_reducible refine (CN1.out _ (by first | assumption | exact Below.refl _ _ | exact below_drew (Below.refl _ _) | exact below_drew (by assumption))).mono ?_); rintro e w2 ⟨va, rfl, na, hw2, hw2'⟩)
      | (go_at_call 70; (with_reducible refine (CD1.out _ (by first | assumption | exact Below.refl _ _ | exact below_drew (Below.refl _ _) | exact below_drew (by assumption))).mono ?_); rintro e w3 ⟨vb, rfl, nb, hw3, hw3'⟩)
      | fail)
  go_wp2_with fail
  go_region_held3 (fun w' => w'.cell? ⟨w.heap.size, 0, none⟩ = some (.bool (Big.ng x)) ∧ w'.cell? ⟨w.heap.size, 1, none⟩ = some (.slice A1 l1 c1) ∧ w'.cell? ⟨w.heap.size, 2, none⟩ = some (.slice A2 l2 c2) ∧ w'.cell? ⟨w.heap.size + 1, 0, none⟩ = some (.bool (Big.ng y)) ∧ w'.cell? ⟨w.heap.size + 1, 1, none⟩ = some (.slice B1 m1 d1) ∧ w'.cell? ⟨w.heap.size + 1, 2, none⟩ = some (.slice B2 m2 d2))
    (exact KX.out _ (by first | assumption | exact Below.refl _ _ | exact below_drew (Below.refl _ _) | exact below_drew (by assumption)))
    (first
      | (go_at_call 41; (with_reducible refine (CN2.out _ (by first | assumption | exact Below.refl _ _ | exact below_drew (Below.refl _ _) | exact below_drew (by assumption))).mono ?_); rintro e w4 ⟨vc, rfl, nc, hw4, hw4'⟩)
      | (go_at_call 70; (with_reducible refine (CD2.out _ (by first | assumption | exact Below.refl _ _ | exact below_drew (Below.refl _ _) | exact below_drew (by assumption))).mono ?_); rintro e w5 ⟨ve, rfl, ne, hw5, hw5'⟩)
      | fail)
  obtain ⟨wl, hwl⟩ : ∃ z, z = w5 := ⟨_, rfl⟩
  have n1' := Lib.hid (H1.out.keep hw5)
  have na' := Lib.hid (((NatIn.dr (na.keep hw3')).keep hw4').keep hw5')
  have nb' := Lib.hid (((NatIn.dr nb).keep hw4').keep hw5')
  have nc' := Lib.hid (nc.keep hw5'); have ne' := Lib.hid ne
  have HBL := Lib.hid (HBL1.out.trans (hw5.mono HBL1.out.size))
  rw [← hwl] at *
  clear hwl
  go_wp2_with fail
  go_loopw [4, 5, 7, 8, 9, 10, 11, 12] (fun vn vd va vb vc ve vp vq wr => ∃ a b c d p p' q q' f : Nat, Hid (Big.Conv A B X Y a b c d p p' q q' f) ∧ Hid (1 ≤ p + q ∧ 1 ≤ p' + q') ∧ Hid (NatIn wr vn p) ∧ Hid (NatIn wr vd q) ∧ Hid (NatIn wr va a) ∧ Hid (NatIn wr vb b) ∧ Hid (NatIn wr vc c) ∧ Hid (NatIn wr ve d) ∧ Hid (NatIn wr vp p') ∧ Hid (NatIn wr vq q') ∧ Hid (Below wl.heap.size wl wr)) (fun vn vd va vb vc ve vp vq wr => Big.spm (numAt wr va) (numAt wr vb) (numAt wr vc) (numAt wr ve))
  case atStart => exact ⟨_, _, _, _, _, _, _, _, _, HCV0, ⟨by omega, by omega⟩, n1', Lib.hid (NatIn.nil_ _), na', nb', nc', ne', Lib.hid (NatIn.nil_ _), n1', Lib.hid (Below.refl _ _)⟩
  case round =>
    obtain ⟨a, b, c, d, p, p', q, q', f, HCV, HPQ, HN, HD, HA, HBb, HC, HE, HP, HQ, HBr⟩ := hrel
    obtain ⟨k1, k2⟩ := conv_bounds HCV.out HPQ.out.1 HPQ.out.2
    obtain ⟨k3, k4, k5, k6⟩ := HCV.out.le
    have sA : ∀ n, n ≤ A + B → Sz 300 n := fun n h => HS.out.le h
    have SZ := Lib.hid (show Sz 300 a ∧ Sz 300 b ∧ Sz 300 c ∧ Sz 300 d ∧ Sz 300 p ∧ Sz 300 p' ∧ Sz 300 q ∧ Sz 300 q' from ⟨sA _ (by omega), sA _ (by omega), sA _ (by omega), sA _ (by omega), sA _ (by omega), sA _ (by omega), sA _ (by omega), sA _ (by omega)⟩)
    have SW := Lib.hid (SZ.out.1.le (Nat.div_le_self a b))
    have SW1 := Lib.hid (SW.out.add sz_one)
    have HPQ2 := Lib.hid (show 1 ≤ (a / b * p + p') + (a / b * q + q') ∧ 1 ≤ p + q from ⟨by have := HPQ.out.2; omega, HPQ.out.1⟩)
    have HMs := Lib.hid (And.intro HA.out (And.intro HBb.out (And.intro HC.out HE.out)))
    have H1 := Lib.hid (n1'.out.keep HBr.out)
    clear k1 k2 k3 k4 k5 k6 sA
    go_wp2_with fail
    refine (quoRem_num _ _ _ a b 300 HA.out HBb.out SZ.out.1 (by omega)).mono ?_
    rintro e x0 ⟨w0, r0, rfl, nw, nr, hx0⟩
    have Hvnx0 := Lib.hid (HN.out.keep hx0)
    have Hvdx0 := Lib.hid (HD.out.keep hx0)
    have Hvax0 := Lib.hid (HA.out.keep hx0)
    have Hvbx0 := Lib.hid (HBb.out.keep hx0)
    have Hvcx0 := Lib.hid (HC.out.keep hx0)
    have Hvex0 := Lib.hid (HE.out.keep hx0)
    have Hvpx0 := Lib.hid (HP.out.keep hx0)
    have Hvqx0 := Lib.hid (HQ.out.keep hx0)
    have Hv1x0 := Lib.hid (H1.out.keep hx0)
    have HBx0 := Lib.hid (HBr.out.trans (hx0.mono HBr.out.size))
    clear hx0 HBr HN HD HA HBb HC HE HP HQ H1
    obtain ⟨Aw, lw, cw, rfl, -⟩ := nw.is_slice
    obtain ⟨Ar, lr, cr, rfl, -⟩ := nr.is_slice
    have Hwwx0 := Lib.hid nw; have Hrrx0 := Lib.hid nr
    clear nw nr
    go_wp2_with fail
    refine (add_num _ _ _ (a / b) 1 300 1 Hwwx0.out Hv1x0.out SW.out sz_one (by omega) (by omega)).mono ?_
    rintro e x1 ⟨ab, rfl, nab, hx1⟩
    have Hvnx1 := Lib.hid (Hvnx0.out.keep hx1)
    have Hvdx1 := Lib.hid (Hvdx0.out.keep hx1)
    have Hvax1 := Lib.hid (Hvax0.out.keep hx1)
    have Hvbx1 := Lib.hid (Hvbx0.out.keep hx1)
    have Hvcx1 := Lib.hid (Hvcx0.out.keep hx1)
    have Hvex1 := Lib.hid (Hvex0.out.keep hx1)
    have Hvpx1 := Lib.hid (Hvpx0.out.keep hx1)
    have Hvqx1 := Lib.hid (Hvqx0.out.keep hx1)
    have Hv1x1 := Lib.hid (Hv1x0.out.keep hx1)
    have Hwwx1 := Lib.hid (Hwwx0.out.keep hx1)
    have Hrrx1 := Lib.hid (Hrrx0.out.keep hx1)
    have HBx1 := Lib.hid (HBx0.out.trans (hx1.mono HBx0.out.size))
    clear hx1 HBx0 Hvnx0 Hvdx0 Hvax0 Hvbx0 Hvcx0 Hvex0 Hvpx0 Hvqx0 Hv1x0 Hwwx0 Hrrx0
    obtain ⟨Aab, lab, cab, rfl, -⟩ := nab.is_slice
    have Habx1 := Lib.hid nab
    clear nab
    go_wp2_with fail
    refine (mul_num _ _ _ (a / b + 1) d 302 300 Habx1.out Hvex1.out SW1.out SZ.out.2.2.2.1 (by omega) (by omega)).mono ?_
    rintro e x2 ⟨m1, rfl, nm1, hx2⟩
    have Hvnx2 := Lib.hid (Hvnx1.out.keep hx2)
    have Hvdx2 := Lib.hid (Hvdx1.out.keep hx2)
    have Hvax2 := Lib.hid (Hvax1.out.keep hx2)
    have Hvbx2 := Lib.hid (Hvbx1.out.keep hx2)
    have Hvcx2 := Lib.hid (Hvcx1.out.keep hx2)
    have Hvex2 := Lib.hid (Hvex1.out.keep hx2)
    have Hvpx2 := Lib.hid (Hvpx1.out.keep hx2)
    have Hvqx2 := Lib.hid (Hvqx1.out.keep hx2)
    have Hv1x2 := Lib.hid (Hv1x1.out.keep hx2)
    have Hwwx2 := Lib.hid (Hwwx1.out.keep hx2)
    have Hrrx2 := Lib.hid (Hrrx1.out.keep hx2)
    have Habx2 := Lib.hid (Habx1.out.keep hx2)
    have HBx2 := Lib.hid (HBx1.out.trans (hx2.mono HBx1.out.size))
    clear hx2 HBx1 Hvnx1 Hvdx1 Hvax1 Hvbx1 Hvcx1 Hvex1 Hvpx1 Hvqx1 Hv1x1 Hwwx1 Hrrx1 Habx1
    obtain ⟨Am1, lm1, cm1, rfl, -⟩ := nm1.is_slice
    have Hm1x2 := Lib.hid nm1
    clear nm1
    go_wp2_with fail
    refine (cmp_num _ _ _ _ _ Hm1x2.out Hvcx2.out).mono ?_
    rintro e xc ⟨rfl, hxc⟩
    have hxc' := hxc.below x2.heap.size
    clear hxc
    have Hvnxc := Lib.hid (Hvnx2.out.keep hxc')
    have Hvdxc := Lib.hid (Hvdx2.out.keep hxc')
    have Hvaxc := Lib.hid (Hvax2.out.keep hxc')
    have Hvbxc := Lib.hid (Hvbx2.out.keep hxc')
    have Hvcxc := Lib.hid (Hvcx2.out.keep hxc')
    have Hvexc := Lib.hid (Hvex2.out.keep hxc')
    have Hvpxc := Lib.hid (Hvpx2.out.keep hxc')
    have Hvqxc := Lib.hid (Hvqx2.out.keep hxc')
    have Hv1xc := Lib.hid (Hv1x2.out.keep hxc')
    have Hwwxc := Lib.hid (Hwwx2.out.keep hxc')
    have Hrrxc := Lib.hid (Hrrx2.out.keep hxc')
    have Habxc := Lib.hid (Habx2.out.keep hxc')
    have Hm1xc := Lib.hid (Hm1x2.out.keep hxc')
    have HBxc := Lib.hid (HBx2.out.trans (hxc'.mono HBx2.out.size))
    clear hxc' HBx2 Hvnx2 Hvdx2 Hvax2 Hvbx2 Hvcx2 Hvex2 Hvpx2 Hvqx2 Hv1x2 Hwwx2 Hrrx2 Habx2 Hm1x2
    by_cases hn : (a / b + 1) * d < c
    · rw [Big.cmpI_lt hn]
      have HX := Lib.hid (HCV.out.done hn)
      go_wp2_with fail
      refine (mul_num _ _ _ (a / b + 1) p 302 300 Habxc.out Hvnxc.out SW1.out SZ.out.2.2.2.2.1 (by omega) (by omega)).mono ?_
      rintro e x3 ⟨m2, rfl, nm2, hx3⟩
      have Hvnx3 := Lib.hid (Hvnxc.out.keep hx3)
      have Hvdx3 := Lib.hid (Hvdxc.out.keep hx3)
      have Hvax3 := Lib.hid (Hvaxc.out.keep hx3)
      have Hvbx3 := Lib.hid (Hvbxc.out.keep hx3)
      have Hvcx3 := Lib.hid (Hvcxc.out.keep hx3)
      have Hvex3 := Lib.hid (Hvexc.out.keep hx3)
      have Hvpx3 := Lib.hid (Hvpxc.out.keep hx3)
      have Hvqx3 := Lib.hid (Hvqxc.out.keep hx3)
      have Hv1x3 := Lib.hid (Hv1xc.out.keep hx3)
      have Hwwx3 := Lib.hid (Hwwxc.out.keep hx3)
      have Hrrx3 := Lib.hid (Hrrxc.out.keep hx3)
      have Habx3 := Lib.hid (Habxc.out.keep hx3)
      have Hm1x3 := Lib.hid (Hm1xc.out.keep hx3)
      have HBx3 := Lib.hid (HBxc.out.trans (hx3.mono HBxc.out.size))
      clear hx3 HBxc Hvnxc Hvdxc Hvaxc Hvbxc Hvcxc Hvexc Hvpxc Hvqxc Hv1xc Hwwxc Hrrxc Habxc Hm1xc
      obtain ⟨Am2, lm2, cm2, rfl, -⟩ := nm2.is_slice
      have Hm2x3 := Lib.hid nm2
      clear nm2
      go_wp2_with fail
      refine (add_num _ _ _ ((a / b + 1) * p) p' 602 300 Hm2x3.out Hvpx3.out (SW1.out.mul SZ.out.2.2.2.2.1) SZ.out.2.2.2.2.2.1 (by omega) (by omega)).mono ?_
      rintro e x4 ⟨u1, rfl, nu1, hx4⟩
      have Hvnx4 := Lib.hid (Hvnx3.out.keep hx4)
      have Hvdx4 := Lib.hid (Hvdx3.out.keep hx4)
      have Hvax4 := Lib.hid (Hvax3.out.keep hx4)
      have Hvbx4 := Lib.hid (Hvbx3.out.keep hx4)
      have Hvcx4 := Lib.hid (Hvcx3.out.keep hx4)
      have Hvex4 := Lib.hid (Hvex3.out.keep hx4)
      have Hvpx4 := Lib.hid (Hvpx3.out.keep hx4)
      have Hvqx4 := Lib.hid (Hvqx3.out.keep hx4)
      have Hv1x4 := Lib.hid (Hv1x3.out.keep hx4)
      have Hwwx4 := Lib.hid (Hwwx3.out.keep hx4)
      have Hrrx4 := Lib.hid (Hrrx3.out.keep hx4)
      have Habx4 := Lib.hid (Habx3.out.keep hx4)
      have Hm1x4 := Lib.hid (Hm1x3.out.keep hx4)
      have Hm2x4 := Lib.hid (Hm2x3.out.keep hx4)
      have HBx4 := Lib.hid (HBx3.out.trans (hx4.mono HBx3.out.size))
      clear hx4 HBx3 Hvnx3 Hvdx3 Hvax3 Hvbx3 Hvcx3 Hvex3 Hvpx3 Hvqx3 Hv1x3 Hwwx3 Hrrx3 Habx3 Hm1x3 Hm2x3
      obtain ⟨Au1, lu1, cu1, rfl, -⟩ := nu1.is_slice
      have Hu1x4 := Lib.hid nu1
      clear nu1
      go_wp2_with fail
      refine (mul_num _ _ _ (a / b + 1) q 302 300 Habx4.out Hvdx4.out SW1.out SZ.out.2.2.2.2.2.2.1 (by omega) (by omega)).mono ?_
      rintro e x5 ⟨m3, rfl, nm3, hx5⟩
      have Hvnx5 := Lib.hid (Hvnx4.out.keep hx5)
      have Hvdx5 := Lib.hid (Hvdx4.out.keep hx5)
      have Hvax5 := Lib.hid (Hvax4.out.keep hx5)
      have Hvbx5 := Lib.hid (Hvbx4.out.keep hx5)
      have Hvcx5 := Lib.hid (Hvcx4.out.keep hx5)
      have Hvex5 := Lib.hid (Hvex4.out.keep hx5)
      have Hvpx5 := Lib.hid (Hvpx4.out.keep hx5)
      have Hvqx5 := Lib.hid (Hvqx4.out.keep hx5)
      have Hv1x5 := Lib.hid (Hv1x4.out.keep hx5)
      have Hwwx5 := Lib.hid (Hwwx4.out.keep hx5)
      have Hrrx5 := Lib.hid (Hrrx4.out.keep hx5)
      have Habx5 := Lib.hid (Habx4.out.keep hx5)
      have Hm1x5 := Lib.hid (Hm1x4.out.keep hx5)
      have Hm2x5 := Lib.hid (Hm2x4.out.keep hx5)
      have Hu1x5 := Lib.hid (Hu1x4.out.keep hx5)
      have HBx5 := Lib.hid (HBx4.out.trans (hx5.mono HBx4.out.size))
      clear hx5 HBx4 Hvnx4 Hvdx4 Hvax4 Hvbx4 Hvcx4 Hvex4 Hvpx4 Hvqx4 Hv1x4 Hwwx4 Hrrx4 Habx4 Hm1x4 Hm2x4 Hu1x4
      obtain ⟨Am3, lm3, cm3, rfl, -⟩ := nm3.is_slice
      have Hm3x5 := Lib.hid nm3
      clear nm3
      go_wp2_with fail
      refine (add_num _ _ _ ((a / b + 1) * q) q' 602 300 Hm3x5.out Hvqx5.out (SW1.out.mul SZ.out.2.2.2.2.2.2.1) SZ.out.2.2.2.2.2.2.2 (by omega) (by omega)).mono ?_
      rintro e x6 ⟨u2, rfl, nu2, hx6⟩
      have Hvnx6 := Lib.hid (Hvnx5.out.keep hx6)
      have Hvdx6 := Lib.hid (Hvdx5.out.keep hx6)
      have Hvax6 := Lib.hid (Hvax5.out.keep hx6)
      have Hvbx6 := Lib.hid (Hvbx5.out.keep hx6)
      have Hvcx6 := Lib.hid (Hvcx5.out.keep hx6)
      have Hvex6 := Lib.hid (Hvex5.out.keep hx6)
      have Hvpx6 := Lib.hid (Hvpx5.out.keep hx6)
      have Hvqx6 := Lib.hid (Hvqx5.out.keep hx6)
      have Hv1x6 := Lib.hid (Hv1x5.out.keep hx6)
      have Hwwx6 := Lib.hid (Hwwx5.out.keep hx6)
      have Hrrx6 := Lib.hid (Hrrx5.out.keep hx6)
      have Habx6 := Lib.hid (Habx5.out.keep hx6)
      have Hm1x6 := Lib.hid (Hm1x5.out.keep hx6)
      have Hm2x6 := Lib.hid (Hm2x5.out.keep hx6)
      have Hu1x6 := Lib.hid (Hu1x5.out.keep hx6)
      have Hm3x6 := Lib.hid (Hm3x5.out.keep hx6)
      have HBx6 := Lib.hid (HBx5.out.trans (hx6.mono HBx5.out.size))
      clear hx6 HBx5 Hvnx5 Hvdx5 Hvax5 Hvbx5 Hvcx5 Hvex5 Hvpx5 Hvqx5 Hv1x5 Hwwx5 Hrrx5 Habx5 Hm1x5 Hm2x5 Hu1x5 Hm3x5
      obtain ⟨Au2, lu2, cu2, rfl, -⟩ := nu2.is_slice
      have Hu2x6 := Lib.hid nu2
      clear nu2
      go_wp2_with fail
      have r1 := Hu1x6.out; have r2 := Hu2x6.out
      rw [HX.out.1] at r1; rw [HX.out.2] at r2
      go_ret2
      exact ⟨_, _, rfl, r1, r2, HBL.out.trans (HBx6.out.mono HBL.out.size)⟩
    · have tn : decide (Big.cmpI ((a / b + 1) * d) c < 0) = false := decide_eq_false (by unfold Big.cmpI; rw [if_neg hn]; split <;> omega)
      generalize Big.cmpI ((a / b + 1) * d) c = cc at *
      go_wp2_with fail
      refine (mul_num _ _ _ (a / b) p 300 300 Hwwxc.out Hvnxc.out SW.out SZ.out.2.2.2.2.1 (by omega) (by omega)).mono ?_
      rintro e x3 ⟨m2, rfl, nm2, hx3⟩
      have Hvnx3 := Lib.hid (Hvnxc.out.keep hx3)
      have Hvdx3 := Lib.hid (Hvdxc.out.keep hx3)
      have Hvax3 := Lib.hid (Hvaxc.out.keep hx3)
      have Hvbx3 := Lib.hid (Hvbxc.out.keep hx3)
      have Hvcx3 := Lib.hid (Hvcxc.out.keep hx3)
      have Hvex3 := Lib.hid (Hvexc.out.keep hx3)
      have Hvpx3 := Lib.hid (Hvpxc.out.keep hx3)
      have Hvqx3 := Lib.hid (Hvqxc.out.keep hx3)
      have Hv1x3 := Lib.hid (Hv1xc.out.keep hx3)
      have Hwwx3 := Lib.hid (Hwwxc.out.keep hx3)
      have Hrrx3 := Lib.hid (Hrrxc.out.keep hx3)
      have Habx3 := Lib.hid (Habxc.out.keep hx3)
      have Hm1x3 := Lib.hid (Hm1xc.out.keep hx3)
      have HBx3 := Lib.hid (HBxc.out.trans (hx3.mono HBxc.out.size))
      clear hx3 HBxc Hvnxc Hvdxc Hvaxc Hvbxc Hvcxc Hvexc Hvpxc Hvqxc Hv1xc Hwwxc Hrrxc Habxc Hm1xc
      obtain ⟨Am2, lm2, cm2, rfl, -⟩ := nm2.is_slice
      have Hm2x3 := Lib.hid nm2
      clear nm2
      go_wp2_with fail
      refine (add_num _ _ _ (a / b * p) p' 600 300 Hm2x3.out Hvpx3.out (SW.out.mul SZ.out.2.2.2.2.1) SZ.out.2.2.2.2.2.1 (by omega) (by omega)).mono ?_
      rintro e x4 ⟨u1, rfl, nu1, hx4⟩
      have Hvnx4 := Lib.hid (Hvnx3.out.keep hx4)
      have Hvdx4 := Lib.hid (Hvdx3.out.keep hx4)
      have Hvax4 := Lib.hid (Hvax3.out.keep hx4)
      have Hvbx4 := Lib.hid (Hvbx3.out.keep hx4)
      have Hvcx4 := Lib.hid (Hvcx3.out.keep hx4)
      have Hvex4 := Lib.hid (Hvex3.out.keep hx4)
      have Hvpx4 := Lib.hid (Hvpx3.out.keep hx4)
      have Hvqx4 := Lib.hid (Hvqx3.out.keep hx4)
      have Hv1x4 := Lib.hid (Hv1x3.out.keep hx4)
      have Hwwx4 := Lib.hid (Hwwx3.out.keep hx4)
      have Hrrx4 := Lib.hid (Hrrx3.out.keep hx4)
      have Habx4 := Lib.hid (Habx3.out.keep hx4)
      have Hm1x4 := Lib.hid (Hm1x3.out.keep hx4)
      have Hm2x4 := Lib.hid (Hm2x3.out.keep hx4)
      have HBx4 := Lib.hid (HBx3.out.trans (hx4.mono HBx3.out.size))
      clear hx4 HBx3 Hvnx3 Hvdx3 Hvax3 Hvbx3 Hvcx3 Hvex3 Hvpx3 Hvqx3 Hv1x3 Hwwx3 Hrrx3 Habx3 Hm1x3 Hm2x3
      obtain ⟨Au1, lu1, cu1, rfl, -⟩ := nu1.is_slice
      have Hu1x4 := Lib.hid nu1
      clear nu1
      go_wp2_with fail
      refine (mul_num _ _ _ (a / b) q 300 300 Hwwx4.out Hvdx4.out SW.out SZ.out.2.2.2.2.2.2.1 (by omega) (by omega)).mono ?_
      rintro e x5 ⟨m3, rfl, nm3, hx5⟩
      have Hvnx5 := Lib.hid (Hvnx4.out.keep hx5)
      have Hvdx5 := Lib.hid (Hvdx4.out.keep hx5)
      have Hvax5 := Lib.hid (Hvax4.out.keep hx5)
      have Hvbx5 := Lib.hid (Hvbx4.out.keep hx5)
      have Hvcx5 := Lib.hid (Hvcx4.out.keep hx5)
      have Hvex5 := Lib.hid (Hvex4.out.keep hx5)
      have Hvpx5 := Lib.hid (Hvpx4.out.keep hx5)
      have Hvqx5 := Lib.hid (Hvqx4.out.keep hx5)
      have Hv1x5 := Lib.hid (Hv1x4.out.keep hx5)
      have Hwwx5 := Lib.hid (Hwwx4.out.keep hx5)
      have Hrrx5 := Lib.hid (Hrrx4.out.keep hx5)
      have Habx5 := Lib.hid (Habx4.out.keep hx5)
      have Hm1x5 := Lib.hid (Hm1x4.out.keep hx5)
      have Hm2x5 := Lib.hid (Hm2x4.out.keep hx5)
      have Hu1x5 := Lib.hid (Hu1x4.out.keep hx5)
      have HBx5 := Lib.hid (HBx4.out.trans (hx5.mono HBx4.out.size))
      clear hx5 HBx4 Hvnx4 Hvdx4 Hvax4 Hvbx4 Hvcx4 Hvex4 Hvpx4 Hvqx4 Hv1x4 Hwwx4 Hrrx4 Habx4 Hm1x4 Hm2x4 Hu1x4
      obtain ⟨Am3, lm3, cm3, rfl, -⟩ := nm3.is_slice
      have Hm3x5 := Lib.hid nm3
      clear nm3
      go_wp2_with fail
      refine (add_num _ _ _ (a / b * q) q' 600 300 Hm3x5.out Hvqx5.out (SW.out.mul SZ.out.2.2.2.2.2.2.1) SZ.out.2.2.2.2.2.2.2 (by omega) (by omega)).mono ?_
      rintro e x6 ⟨u2, rfl, nu2, hx6⟩
      have Hvnx6 := Lib.hid (Hvnx5.out.keep hx6)
      have Hvdx6 := Lib.hid (Hvdx5.out.keep hx6)
      have Hvax6 := Lib.hid (Hvax5.out.keep hx6)
      have Hvbx6 := Lib.hid (Hvbx5.out.keep hx6)
      have Hvcx6 := Lib.hid (Hvcx5.out.keep hx6)
      have Hvex6 := Lib.hid (Hvex5.out.keep hx6)
      have Hvpx6 := Lib.hid (Hvpx5.out.keep hx6)
      have Hvqx6 := Lib.hid (Hvqx5.out.keep hx6)
      have Hv1x6 := Lib.hid (Hv1x5.out.keep hx6)
      have Hwwx6 := Lib.hid (Hwwx5.out.keep hx6)
      have Hrrx6 := Lib.hid (Hrrx5.out.keep hx6)
      have Habx6 := Lib.hid (Habx5.out.keep hx6)
      have Hm1x6 := Lib.hid (Hm1x5.out.keep hx6)
      have Hm2x6 := Lib.hid (Hm2x5.out.keep hx6)
      have Hu1x6 := Lib.hid (Hu1x5.out.keep hx6)
      have Hm3x6 := Lib.hid (Hm3x5.out.keep hx6)
      have HBx6 := Lib.hid (HBx5.out.trans (hx6.mono HBx5.out.size))
      clear hx6 HBx5 Hvnx5 Hvdx5 Hvax5 Hvbx5 Hvcx5 Hvex5 Hvpx5 Hvqx5 Hv1x5 Hwwx5 Hrrx5 Habx5 Hm1x5 Hm2x5 Hu1x5 Hm3x5
      obtain ⟨Au2, lu2, cu2, rfl, -⟩ := nu2.is_slice
      have Hu2x6 := Lib.hid nu2
      clear nu2
      go_wp2_with fail
      refine (mul_num _ _ _ (a / b) d 300 300 Hwwx6.out Hvex6.out SW.out SZ.out.2.2.2.1 (by omega) (by omega)).mono ?_
      rintro e x7 ⟨m4, rfl, nm4, hx7⟩
      have Hvnx7 := Lib.hid (Hvnx6.out.keep hx7)
      have Hvdx7 := Lib.hid (Hvdx6.out.keep hx7)
      have Hvax7 := Lib.hid (Hvax6.out.keep hx7)
      have Hvbx7 := Lib.hid (Hvbx6.out.keep hx7)
      have Hvcx7 := Lib.hid (Hvcx6.out.keep hx7)
      have Hvex7 := Lib.hid (Hvex6.out.keep hx7)
      have Hvpx7 := Lib.hid (Hvpx6.out.keep hx7)
      have Hvqx7 := Lib.hid (Hvqx6.out.keep hx7)
      have Hv1x7 := Lib.hid (Hv1x6.out.keep hx7)
      have Hwwx7 := Lib.hid (Hwwx6.out.keep hx7)
      have Hrrx7 := Lib.hid (Hrrx6.out.keep hx7)
      have Habx7 := Lib.hid (Habx6.out.keep hx7)
      have Hm1x7 := Lib.hid (Hm1x6.out.keep hx7)
      have Hm2x7 := Lib.hid (Hm2x6.out.keep hx7)
      have Hu1x7 := Lib.hid (Hu1x6.out.keep hx7)
      have Hm3x7 := Lib.hid (Hm3x6.out.keep hx7)
      have Hu2x7 := Lib.hid (Hu2x6.out.keep hx7)
      have HBx7 := Lib.hid (HBx6.out.trans (hx7.mono HBx6.out.size))
      clear hx7 HBx6 Hvnx6 Hvdx6 Hvax6 Hvbx6 Hvcx6 Hvex6 Hvpx6 Hvqx6 Hv1x6 Hwwx6 Hrrx6 Habx6 Hm1x6 Hm2x6 Hu1x6 Hm3x6 Hu2x6
      obtain ⟨Am4, lm4, cm4, rfl, -⟩ := nm4.is_slice
      have Hm4x7 := Lib.hid nm4
      clear nm4
      go_wp2_with fail
      refine (sub_num _ _ _ c (a / b * d) 300 Hvcx7.out Hm4x7.out SZ.out.2.2.1 (by omega)).mono ?_
      rintro e x8 ⟨u3, rfl, nu3, hx8⟩
      have Hvnx8 := Lib.hid (Hvnx7.out.keep hx8)
      have Hvdx8 := Lib.hid (Hvdx7.out.keep hx8)
      have Hvax8 := Lib.hid (Hvax7.out.keep hx8)
      have Hvbx8 := Lib.hid (Hvbx7.out.keep hx8)
      have Hvcx8 := Lib.hid (Hvcx7.out.keep hx8)
      have Hvex8 := Lib.hid (Hvex7.out.keep hx8)
      have Hvpx8 := Lib.hid (Hvpx7.out.keep hx8)
      have Hvqx8 := Lib.hid (Hvqx7.out.keep hx8)
      have Hv1x8 := Lib.hid (Hv1x7.out.keep hx8)
      have Hwwx8 := Lib.hid (Hwwx7.out.keep hx8)
      have Hrrx8 := Lib.hid (Hrrx7.out.keep hx8)
      have Habx8 := Lib.hid (Habx7.out.keep hx8)
      have Hm1x8 := Lib.hid (Hm1x7.out.keep hx8)
      have Hm2x8 := Lib.hid (Hm2x7.out.keep hx8)
      have Hu1x8 := Lib.hid (Hu1x7.out.keep hx8)
      have Hm3x8 := Lib.hid (Hm3x7.out.keep hx8)
      have Hu2x8 := Lib.hid (Hu2x7.out.keep hx8)
      have Hm4x8 := Lib.hid (Hm4x7.out.keep hx8)
      have HBx8 := Lib.hid (HBx7.out.trans (hx8.mono HBx7.out.size))
      clear hx8 HBx7 Hvnx7 Hvdx7 Hvax7 Hvbx7 Hvcx7 Hvex7 Hvpx7 Hvqx7 Hv1x7 Hwwx7 Hrrx7 Habx7 Hm1x7 Hm2x7 Hu1x7 Hm3x7 Hu2x7 Hm4x7
      obtain ⟨Au3, lu3, cu3, rfl, -⟩ := nu3.is_slice
      have Hu3x8 := Lib.hid nu3
      clear nu3
      go_wp2_with fail
      obtain ⟨gf, hgf, HCV2⟩ := HCV.out.step hn
      refine ⟨⟨_, _, _, _, _, _, _, _, gf, Lib.hid HCV2, HPQ2, Hu1x8, Hu2x8, Hvex8, Hu3x8, Hvbx8, Hrrx8, Hvnx8, Hvdx8, HBx8⟩, ?_⟩
      rw [numAt_in HMs.out.1, numAt_in HMs.out.2.1, numAt_in HMs.out.2.2.1, numAt_in HMs.out.2.2.2, numAt_in Hvex8.out, numAt_in Hu3x8.out, numAt_in Hvbx8.out, numAt_in Hrrx8.out]
      exact HCV.out.ends.fall hn
end Go.Proofs.YtgdcahdnojaebaaDoor
