/- Floats: which operations have an answer that is a number. -/
import Derived.Test.YtgdcahdnojaebaaFt
namespace Go.Proofs.Ytgdcahdnojaebaa
namespace Fl
open Ieee

def Num64 (r : Nat) : Prop := IsN r ∧ r < 18446744073709551616
theorem num_wd (s : Bool) {r : Nat} (h : r ≤ INF) : Num64 (wd s r) := by
  refine ⟨isN_wd s h, ?_⟩
  unfold INF at h; unfold wd; cases s <;> simp <;> omega
theorem nearest_num (s : Bool) (m : Nat) (p : Int) : Num64 (double.nearest s m p) := by
  rw [nearest_eq, wd_eq]; exact num_wd s (rung_le _ _)
theorem inf_num (s : Bool) : Num64 (double.word s double.infRung) := by
  rw [wd_eq, show double.infRung = INF by decide]; exact num_wd s (Nat.le_refl _)
theorem mul_some {x y : Nat} (hx : FinW x) (hy : FinW y) : ∃ r, double.mul x y = some r ∧ Num64 r := by
  obtain ⟨m, e, hm, -⟩ := read_num hx
  obtain ⟨n, i, hn, -⟩ := read_num hy
  unfold Format.mul
  rw [hm, hn]
  exact ⟨_, rfl, nearest_num _ _ _⟩
theorem div_some {x y : Nat} (hx : FinW x) (hy : FinW y) (h0 : sv y ≠ 0) : ∃ r, double.div x y = some r ∧ Num64 r := by
  obtain ⟨m, e, hm, -⟩ := read_num hx
  obtain ⟨n, i, hn, en⟩ := read_num hy
  have hn0 : n ≠ 0 := by
    intro h; subst h; apply h0; unfold sv sg; rw [← en]; simp
  unfold Format.div
  rw [hm, hn]
  show ∃ r, Option.map double.write (if n = 0 then _ else _) = some r ∧ _
  rw [if_neg hn0]
  exact ⟨_, rfl, nearest_num _ _ _⟩
theorem sum_some {s : Bool} {m : Nat} {p : Int} (d : Datum) (h : d.isNaN = false) : ∃ r, ((Datum.number s m p).sum d).map double.write = some r ∧ Num64 r := by
  cases d with
  | number t n j => exact ⟨_, rfl, nearest_num _ _ _⟩
  | infinity t => exact ⟨_, rfl, inf_num t⟩
  | nan t f => cases h
theorem sum_some' {s : Bool} {m : Nat} {p : Int} (d : Datum) (h : d.isNaN = false) : ∃ r, (d.sum (Datum.number s m p)).map double.write = some r ∧ Num64 r := by
  cases d with
  | number t n j => exact ⟨_, rfl, nearest_num _ _ _⟩
  | infinity t => exact ⟨_, rfl, inf_num t⟩
  | nan t f => cases h
theorem read_ok {x : Nat} (h : IsN x) : (double.read x).isNaN = false := by
  rcases fin_or h with h | h
  · obtain ⟨m, e, hm, -⟩ := read_num h; rw [hm]; rfl
  · rw [read_inf h]; rfl
theorem opp_ok {d : Datum} (h : d.isNaN = false) : d.opposite.isNaN = false := by
  cases d with
  | number t n j => rfl
  | infinity t => rfl
  | nan t f => cases h
theorem add_some {x y : Nat} (hx : FinW x) (hy : IsN y) : ∃ r, double.add x y = some r ∧ Num64 r := by
  obtain ⟨m, e, hm, -⟩ := read_num hx
  unfold Format.add
  rw [hm]
  exact sum_some _ (read_ok hy)
theorem add_some' {x y : Nat} (hx : IsN x) (hy : FinW y) : ∃ r, double.add x y = some r ∧ Num64 r := by
  obtain ⟨m, e, hm, -⟩ := read_num hy
  unfold Format.add
  rw [hm]
  exact sum_some' _ (read_ok hx)
theorem sub_some {x y : Nat} (hx : FinW x) (hy : IsN y) : ∃ r, double.sub x y = some r ∧ Num64 r := by
  obtain ⟨m, e, hm, -⟩ := read_num hx
  unfold Format.sub
  rw [hm]
  exact sum_some _ (opp_ok (read_ok hy))
theorem sub_some' {x y : Nat} (hx : IsN x) (hy : FinW y) : ∃ r, double.sub x y = some r ∧ Num64 r := by
  obtain ⟨m, e, hm, -⟩ := read_num hy
  unfold Format.sub
  rw [hm]
  exact sum_some' _ (read_ok hx)
theorem fma_some {x y z : Nat} (hx : FinW x) (hy : FinW y) (hz : IsN z) : ∃ r, double.fma x y z = some r ∧ Num64 r := by
  obtain ⟨m, e, hm, -⟩ := read_num hx
  obtain ⟨n, i, hn, -⟩ := read_num hy
  unfold Format.fma
  rw [hm, hn]
  exact sum_some _ (read_ok hz)
theorem xor_num {b : Nat} (h : Num64 b) : Num64 (b ^^^ 2 ^ 63) := by
  obtain ⟨h1, h2⟩ := h
  refine ⟨?_, Nat.xor_lt_two_pow (n := 64) h2 (by decide)⟩
  unfold IsN rg at *
  rw [show 9223372036854775808 = 2 ^ 63 from rfl, Nat.xor_mod_two_pow, Nat.mod_self, Nat.xor_zero]
  exact h1
/-- A word with an exponent's field of its own. -/
theorem pack_fin (a k : Nat) (ha : a < 18446744073709551616) (hk : k ≤ 2046) : FinW ((a &&& 9227875636482146303) ||| (k * 4503599627370496)) ∧ ((a &&& 9227875636482146303) ||| (k * 4503599627370496)) < 18446744073709551616 := by
  constructor
  · unfold FinW rg INF
    rw [show 9223372036854775808 = 2 ^ 63 from rfl, Nat.or_mod_two_pow, Nat.and_mod_two_pow]
    have e1 : 9227875636482146303 % 2 ^ 63 = 2 ^ 52 - 1 := by decide
    have e2 : k * 4503599627370496 % 2 ^ 63 = k * 4503599627370496 := Nat.mod_eq_of_lt (by omega)
    rw [e1, e2, Nat.and_two_pow_sub_one_eq_mod]
    have h1 := Nat.or_lt_two_pow (n := 63) (x := a % 2 ^ 63 % 2 ^ 52) (y := k * 4503599627370496) (by omega) (by omega)
    have h2 : a % 2 ^ 63 % 2 ^ 52 ||| k * 4503599627370496 = k * 4503599627370496 + a % 2 ^ 63 % 2 ^ 52 := by
      rw [Nat.or_comm, show k * 4503599627370496 = 2 ^ 52 * k by omega]
      exact (Nat.two_pow_add_eq_or_of_lt (Nat.mod_lt _ (by decide)) k).symm
    rw [h2]
    have := Nat.mod_lt (a % 2 ^ 63) (show 0 < 2 ^ 52 by decide)
    omega
  · exact Nat.or_lt_two_pow (n := 64) (Nat.lt_of_le_of_lt Nat.and_le_left ha) (by omega)
theorem pack_pos (a k : Nat) (hk : k ≤ 2046) (h0 : 0 < k) : rg ((a &&& 9227875636482146303) ||| (k * 4503599627370496)) ≠ 0 := by
  intro h
  unfold rg at h
  rw [show 9223372036854775808 = 2 ^ 63 from rfl, Nat.or_mod_two_pow] at h
  have e2 : k * 4503599627370496 % 2 ^ 63 = k * 4503599627370496 := Nat.mod_eq_of_lt (by omega)
  rw [e2] at h
  have : k * 4503599627370496 ≤ (a &&& 9227875636482146303) % 2 ^ 63 ||| k * 4503599627370496 := Nat.right_le_or
  omega
theorem rg_of_sv {x : Nat} (h : sv x ≠ 0) : rg x ≠ 0 := by
  intro e; apply h; unfold sv sg; rw [e, V_zero]; split <;> rfl
theorem sv_of_rg {x : Nat} (h : rg x ≠ 0) : sv x ≠ 0 := by
  have := V_lt (show 0 < rg x by omega)
  unfold sv sg; split <;> omega
/-- One factor may be infinite, if the other one is not nought. -/
theorem fma_some' {x y z : Nat} (hx : IsN x) (hy : FinW y) (h0 : rg y ≠ 0) (hz : FinW z) : ∃ r, double.fma x y z = some r ∧ Num64 r := by
  rcases fin_or hx with fx | ix
  · exact fma_some fx hy (Nat.le_of_lt hz)
  · obtain ⟨n, i, hn, en⟩ := read_num hy
    obtain ⟨l, j, hl, -⟩ := read_num hz
    have hn0 : n ≠ 0 := by
      intro h; subst h
      have := V_lt (show 0 < rg y by omega)
      rw [← en, V_zero] at this; simp at this
    unfold Format.fma
    rw [read_inf ix, hn, hl]
    show ∃ r, Option.map double.write (Option.bind (if n = 0 then none else some (Datum.infinity _)) _) = some r ∧ _
    rw [if_neg hn0]
    exact ⟨_, rfl, inf_num _⟩
end Fl
end Go.Proofs.Ytgdcahdnojaebaa
