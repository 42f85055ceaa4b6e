/- Contracts, in this order: What is so of a cone's areas. -/
import Derived.Test.YtnmmgicjlbmcbaaBc21
namespace Go.Proofs.Ytnmmgicjlbmcbaa
open Go Go.RowKit
namespace Ev
set_option maxRecDepth 100000
noncomputable def cRoot (s i : Nat) : Qe := .quo (.add (.mul (.v 0) (.c false (2 * (s - i) - 1) 1)) (.mul (.v 1) (.c false (2 * i + 1) 1))) (.c false (2 * s) 1)
noncomputable def cArea (s i : Nat) : Qe := .mul (cRoot s i) (cRoot s i)
noncomputable def one4 (e : Qe) : List As := [⟨1, e, z0, false⟩, ⟨3, e, z0, false⟩, ⟨0, e, z0, true⟩, ⟨8, e, z0, true⟩]
noncomputable def two2A (e g : Qe) (lt eq : Bool) : List As := [⟨9, e, g, lt⟩, ⟨2, e, g, eq⟩]
noncomputable def stepsT (s : Nat) (lt eq : Bool) : Nat → List As
  | 0 => []
  | 1 => one4 (cArea s 0)
  | i + 2 => one4 (cArea s (i + 1)) ++ (two2A (cArea s i) (cArea s (i + 1)) lt eq ++ stepsT s lt eq (i + 1))
noncomputable def coneT (s : Nat) (lt eq : Bool) : List As := ⟨1, .v 0, z0, false⟩ :: ⟨3, .v 0, z0, false⟩ :: ⟨1, .v 1, z0, false⟩ :: ⟨3, .v 1, z0, false⟩ :: (two2A (.v 0) (.v 1) lt eq ++ stepsT s lt eq s)
theorem rat_sq (a b l g s : Nat) (hs : 1 ≤ s) :
    (mkRat (a : Int) 4 * mkRat (Big.sI false l) 1 + mkRat (b : Int) 4 * mkRat (Big.sI false g) 1) / mkRat (Big.sI false (2 * s)) 1 = mkRat ((a * l + b * g : Nat) : Int) (8 * s) := by
  have h0 : (s : Rat) ≠ 0 := by
    intro h
    have : (s : Rat) = ((0 : Nat) : Rat) := by simpa using h
    have := Rat.natCast_inj.1 this
    omega
  have e : ∀ k : Nat, Big.sI false k = (k : Int) := fun _ => rfl
  rw [e, e, e]
  simp only [Rat.mkRat_eq_div]
  push_cast
  grind
theorem area_ev {q : Nat → Rat} {a b s i : Nat} (ha : q 0 = mkRat (a : Int) 4) (hb : q 1 = mkRat (b : Int) 4) (hs : 1 ≤ s) :
    (cArea s i).ev q = mkRat (Big.sI false ((a * (2 * (s - i) - 1) + b * (2 * i + 1)) * (a * (2 * (s - i) - 1) + b * (2 * i + 1)))) ((8 * s) * (8 * s)) := by
  have h1 : (cRoot s i).ev q = mkRat ((a * (2 * (s - i) - 1) + b * (2 * i + 1) : Nat) : Int) (8 * s) := by
    show (q 0 * mkRat (Big.sI false (2 * (s - i) - 1)) 1 + q 1 * mkRat (Big.sI false (2 * i + 1)) 1) / mkRat (Big.sI false (2 * s)) 1 = _
    rw [ha, hb, rat_sq _ _ _ _ _ hs]
  show (cRoot s i).ev q * (cRoot s i).ev q = _
  rw [h1, Rat.mkRat_mul_mkRat]
  rfl
theorem nat_parts {n d : Nat} (hd : 1 ≤ d) (hn : 1 ≤ n) : Big.ng (mkRat (Big.sI false n) d) = false ∧ Big.nu (mkRat (Big.sI false n) d) ≤ n ∧ Big.de (mkRat (Big.sI false n) d) ≤ d ∧ mkRat (Big.sI false n) d ≠ 0 := by
  obtain ⟨h1, h2, h3⟩ := Big.of_parts false n d hd
  refine ⟨by rw [h1]; rfl, by rw [h2]; exact Nat.div_le_self _ _, by rw [h3]; exact Nat.div_le_self _ _, fun h => ?_⟩
  have := (Rat.mkRat_eq_zero (n := Big.sI false n) (show d ≠ 0 by omega)).1 h
  have e : Big.sI false n = (n : Int) := rfl
  omega
theorem mk_lt {n m d : Nat} (hd : 1 ≤ d) : mkRat (Big.sI false n) d < mkRat (Big.sI false m) d ↔ n < m := by
  have e : ∀ k : Nat, mkRat (Big.sI false k) d = (k : Rat) * (d : Rat)⁻¹ := fun k => by
    rw [Rat.mkRat_eq_div, Rat.div_def]; rfl
  have hp : (0 : Rat) < (d : Rat)⁻¹ := Rat.inv_pos.2 (by exact_mod_cast hd)
  rw [e, e]
  constructor
  · intro h
    have := Rat.lt_of_mul_lt_mul_right h (Rat.le_of_lt hp)
    exact_mod_cast this
  · intro h
    exact Rat.mul_lt_mul_of_pos_right (by exact_mod_cast h) hp
theorem mk_eq {n m d : Nat} (hd : 1 ≤ d) : mkRat (Big.sI false n) d = mkRat (Big.sI false m) d ↔ n = m := by
  constructor
  · intro h
    have h1 : ¬ n < m := fun k => by have := (mk_lt hd).2 k; rw [h] at this; exact Rat.lt_irrefl this
    have h2 : ¬ m < n := fun k => by have := (mk_lt hd).2 k; rw [h] at this; exact Rat.lt_irrefl this
    omega
  · rintro rfl; rfl
section
variable {ρ : Env} {a b s : Nat} (ha : ρ.q 0 = mkRat (a : Int) 4) (hb : ρ.q 1 = mkRat (b : Int) 4) (a1 : 1 ≤ a) (a2 : a ≤ 20) (b1 : 1 ≤ b) (b2 : b ≤ 20) (hs : 1 ≤ s) (hs6 : s ≤ 6)
include ha hb a1 a2 b1 b2 hs hs6
omit a1 in
theorem one4_ok {i : Nat} (hi : i < s) : ∀ x ∈ one4 (cArea s i), x.holds ρ.q := by
  have hev := area_ev (q := ρ.q) (i := i) ha hb hs
  generalize hN : a * (2 * (s - i) - 1) + b * (2 * i + 1) = N at hev
  have hN1 : 1 ≤ N := by
    have : 1 * 1 ≤ b * (2 * i + 1) := Nat.mul_le_mul b1 (by omega)
    omega
  have hN2 : N ≤ 240 := by
    have h1 : a * (2 * (s - i) - 1) ≤ 20 * (2 * (s - i) - 1) := Nat.mul_le_mul_right _ a2
    have h2 : b * (2 * i + 1) ≤ 20 * (2 * i + 1) := Nat.mul_le_mul_right _ b2
    omega
  have hNN : N * N ≤ 240 * 240 := Nat.mul_le_mul hN2 hN2
  have hNN1 : 1 * 1 ≤ N * N := Nat.mul_le_mul hN1 hN1
  have hD : 8 * s * (8 * s) ≤ 48 * 48 := Nat.mul_le_mul (by omega) (by omega)
  have hD1 : 8 * 8 ≤ 8 * s * (8 * s) := Nat.mul_le_mul (by omega) (by omega)
  obtain ⟨p1, p2, p3, p4⟩ := nat_parts (n := N * N) (d := 8 * s * (8 * s)) (by omega) (by omega)
  rw [← hev] at p1 p2 p3 p4
  have hfit : Fit ((cArea s i).ev ρ.q) := ⟨Nat.le_trans (szN_mono (n := 65535) (by omega)) (by decide +kernel), Nat.le_trans (szN_mono (n := 65535) (by omega)) (by decide +kernel)⟩
  have hlow : Big.nu ((cArea s i).ev ρ.q) < 65535 ∧ Big.de ((cArea s i).ev ρ.q) < 65535 := ⟨by omega, by omega⟩
  intro x hx
  simp only [one4, List.mem_cons, List.not_mem_nil, or_false] at hx
  rcases hx with rfl | rfl | rfl | rfl
  · exact ⟨fun h => (by cases h), fun h => absurd h p4⟩
  · exact p1.symm
  · exact ⟨fun _ => hfit, fun _ => rfl⟩
  · exact fun _ => hlow
omit a1 a2 b1 b2 in
theorem two_ok' {i : Nat} (hi : i + 1 < s) {lt eq : Bool} (hl : lt = decide (a < b)) (he : eq = decide (a = b)) : ∀ x ∈ two2A (cArea s i) (cArea s (i + 1)) lt eq, x.holds ρ.q := by
  have h1 := area_ev (q := ρ.q) (i := i) ha hb hs
  have h2 := area_ev (q := ρ.q) (i := i + 1) ha hb hs
  have hD1 : 8 * 8 ≤ 8 * s * (8 * s) := Nat.mul_le_mul (by omega) (by omega)
  have hl1 : 2 * (s - i) - 1 = (2 * (s - (i + 1)) - 1) + 2 := by omega
  have hg1 : 2 * (i + 1) + 1 = (2 * i + 1) + 2 := by omega
  rw [hl1] at h1
  rw [hg1] at h2
  generalize 2 * (s - (i + 1)) - 1 = l at *
  generalize 2 * i + 1 = g at *
  have hab : (a * (l + 2) + b * g < a * l + b * (g + 2)) ↔ a < b := by
    rw [Nat.mul_add, Nat.mul_add]; omega
  have hae : (a * (l + 2) + b * g = a * l + b * (g + 2)) ↔ a = b := by
    rw [Nat.mul_add, Nat.mul_add]; omega
  intro x hx
  simp only [two2A, List.mem_cons, List.not_mem_nil, or_false] at hx
  rcases hx with rfl | rfl
  · show lt = true ↔ (cArea s i).ev ρ.q < (cArea s (i + 1)).ev ρ.q
    rw [h1, h2, mk_lt (by omega), hl, decide_eq_true_iff, ← hab]
    exact Nat.mul_self_lt_mul_self_iff.symm
  · show eq = true ↔ (cArea s i).ev ρ.q = (cArea s (i + 1)).ev ρ.q
    rw [h1, h2, mk_eq (by omega), he, decide_eq_true_iff, ← hae]
    exact Nat.mul_self_inj.symm
omit a1 in
theorem stepsT_ok {lt eq : Bool} (hl : lt = decide (a < b)) (he : eq = decide (a = b)) : ∀ i, i ≤ s → ∀ x ∈ stepsT s lt eq i, x.holds ρ.q
  | 0, _, x, hx => by cases (show x ∈ ([] : List As) from hx)
  | 1, h, x, hx => one4_ok ha hb a2 b1 b2 hs hs6 (show 0 < s by omega) x hx
  | i + 2, h, x, hx => by
    rcases List.mem_append.1 (show x ∈ one4 (cArea s (i + 1)) ++ (two2A (cArea s i) (cArea s (i + 1)) lt eq ++ stepsT s lt eq (i + 1)) from hx) with hx | hx
    · exact one4_ok ha hb a2 b1 b2 hs hs6 (by omega) x hx
    · rcases List.mem_append.1 hx with hx | hx
      · exact two_ok' ha hb hs hs6 (by omega) hl he x hx
      · exact stepsT_ok hl he (i + 1) (by omega) x hx
theorem coneT_ok {lt eq : Bool} (hl : lt = decide (a < b)) (he : eq = decide (a = b)) : AllH ρ (coneT s lt eq) := by
  obtain ⟨p1, _, _, p4⟩ := nat_parts (n := a) (d := 4) (by omega) a1
  obtain ⟨q1, _, _, q4⟩ := nat_parts (n := b) (d := 4) (by omega) b1
  rw [show mkRat (Big.sI false a) 4 = ρ.q 0 from ha.symm] at p1 p4
  rw [show mkRat (Big.sI false b) 4 = ρ.q 1 from hb.symm] at q1 q4
  intro x hx
  simp only [coneT, two2A, List.cons_append, List.nil_append, List.mem_cons] at hx
  rcases hx with rfl | rfl | rfl | rfl | rfl | rfl | hx
  · exact ⟨fun h => (by cases h), fun h => absurd h p4⟩
  · exact p1.symm
  · exact ⟨fun h => (by cases h), fun h => absurd h q4⟩
  · exact q1.symm
  · show lt = true ↔ ρ.q 0 < ρ.q 1
    rw [ha, hb, show mkRat (a : Int) 4 = mkRat (Big.sI false a) 4 from rfl, show mkRat (b : Int) 4 = mkRat (Big.sI false b) 4 from rfl, mk_lt (by omega), hl, decide_eq_true_iff]
  · show eq = true ↔ ρ.q 0 = ρ.q 1
    rw [ha, hb, show mkRat (a : Int) 4 = mkRat (Big.sI false a) 4 from rfl, show mkRat (b : Int) 4 = mkRat (Big.sI false b) 4 from rfl, mk_eq (by omega), he, decide_eq_true_iff]
  · exact stepsT_ok ha hb a2 b1 b2 hs hs6 hl he s (Nat.le_refl s) x hx
end
noncomputable def works9 : Fact := ⟨8, [], .bool true⟩
theorem works9_ok : works9.ok := Fact.by_runN (l := []) (fun _ h => by cases h) (n := 300) (by kernel_rfl) rfl
noncomputable def withC (l : List Fact) (s : Sums Sy) : Sums Sy := fun f args => match look f args l with
  | some v => some (ret v)
  | none => s f args
theorem withC_ok {ρ : Env} {l : List Fact} (hl : ∀ x ∈ l, x.ok) {s : Sums Sy} (hs : SumOK (symSig ρ) Try.prog s) : SumOK (symSig ρ) Try.prog (withC l s) := by
  refine ⟨fun f args m e => ?_, fun f args m e h nx v h' nx' R W hr r w args' ha hM hN => ?_⟩
  · unfold withC at e
    cases hk : look f args l with
    | none => rw [hk] at e; exact hs.loc f args m e
    | some v => rw [hk] at e; cases e; exact loc_ret _
  · unfold withC at e
    cases hk : look f args l with
    | none => rw [hk] at e; exact hs.run f args m e h nx v h' nx' R W hr r w args' ha hM hN
    | some u =>
      rw [hk] at e
      cases e
      obtain ⟨x, hx, rfl, rfl, rfl⟩ := look_ok hk
      obtain ⟨h1, h2, h3⟩ := hl x hx
      obtain rfl : args' = x.args := VsR_eq h1 ha
      exact goes_pl hr.ok h2 hM (h3 w (mod_Gc hM rfl) hM.base)
noncomputable def coneS (A : List As) : Sums Sy := withC [works9] (coneSums A)
theorem coneS_ok {ρ : Env} {A : List As} (hA : AllH ρ A) : SumOK (symSig ρ) Try.prog (coneS A) :=
  withC_ok (fun x hx => by
    simp only [List.mem_cons, List.not_mem_nil, or_false] at hx
    subst hx; exact works9_ok) (coneSums_ok hA)
noncomputable def coneRun (s j : Nat) (lt eq : Bool) : Option (D3 Sy) := tells [.bj 0 0, .bj 0 1, .bk 10 j, .bk 6 (s - 1)] [.agg 4] (call Try.prog coneC (coneS (coneT s lt eq)) 100 3)
noncomputable def coneYes : Option (D3 Sy) := some (.one (.one (.p (.bool true))))
end Ev
end Go.Proofs.Ytnmmgicjlbmcbaa
