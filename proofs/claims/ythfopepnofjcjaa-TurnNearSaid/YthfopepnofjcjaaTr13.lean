/- Contracts, in this order: Fractions as the program holds them: a number of three parts · Structs of three cells in memory. No program. · Sums, differences and products of words of 64 bits: the libr · nat: the small functions over slices of words: word, order,  · nat: sums and differences. -/
import Derived.Test.YthfopepnofjcjaaTr12
import Derived.Test.YthfopepnofjcjaaProg
import Derived.Test.YthfopepnofjcjaaShelf
import Derived.IntWalk
import Derived.Shelf.Spec.BitsCarry
import Derived.Outline
import Derived.Deep.RegionHeld3
namespace Go.Proofs.Ythfopepnofjcjaa
open Go.RowKit
def szN (n : Nat) : Nat := if n = 0 then 0 else Nat.log2 n / 8 + 1
theorem szN_is (n : Nat) : Big.IsSize n (szN n) := by
  unfold szN
  by_cases h : n = 0
  · subst h; exact Big.isSize_zero
  · rw [if_neg h]
    have h1 := Nat.log2_self_le h
    have h2 : n < 2 ^ (Nat.log2 n + 1) := Nat.lt_log2_self
    generalize Nat.log2 n = b at *
    refine ⟨?_, fun _ => ?_⟩
    · rw [Big.pow256]
      exact Nat.lt_of_lt_of_le h2 (Nat.pow_le_pow_right (by omega) (by omega))
    · rw [Big.pow256]
      exact Nat.le_trans (Nat.pow_le_pow_right (by omega) (by omega)) h1
theorem szN_of {n s : Nat} (h : Big.IsSize n s) : s = szN n := Big.isSize_unique h (szN_is n)
theorem szN_le {n k : Nat} (h : n < 256 ^ k) : szN n ≤ k := by
  rcases Nat.lt_or_ge k (szN n) with h1 | h1
  · have h2 := (szN_is n).2 (by omega)
    have h3 : 256 ^ k ≤ 256 ^ (szN n - 1) := Nat.pow_le_pow_right (by omega) (by omega)
    omega
  · exact h1
theorem lt_szN {n k : Nat} (h : szN n ≤ k) : n < 256 ^ k :=
  Nat.lt_of_lt_of_le (szN_is n).1 (Nat.pow_le_pow_right (by omega) h)
def btx (n : Nat) : List UInt8 := Big.btext n (szN n)
theorem btx_of {n s : Nat} (h : Big.IsSize n s) : Big.btext n s = btx n := by rw [szN_of h]; rfl
def bst (n : Nat) : ByteArray := ⟨(btx n).toArray⟩
structure Fit (q : Rat) : Prop where
  nu : szN (Big.nu q) ≤ 512
  de : szN (Big.de q) ≤ 512
def NumIn (w : World) (v : Value) (q : Rat) : Prop := ∃ a b, v = .agg #[.bool (Big.ng q), a, b] ∧ NatIn w a (Big.nu q) ∧ NatIn w b (Big.de q)
theorem NumIn.keep {w w' : World} {v : Value} {q : Rat} (h : NumIn w v q) (hb : Below w.heap.size w w') : NumIn w' v q := by
  obtain ⟨a, b, e, h1, h2⟩ := h; exact ⟨a, b, e, h1.keep hb, h2.keep hb⟩
theorem NumIn.drew {w w' : World} {v : Value} {q : Rat} (h : NumIn w v q) (hb : Drew w w') : NumIn w' v q := h.keep (hb.below _)
structure Sz (k n : Nat) : Prop where
  out : n < Big.M64 ^ k
theorem M64_gt : 1 < Big.M64 := by unfold Big.M64; omega
theorem Sz.up {k j n : Nat} (h : Sz k n) (hk : k ≤ j) : Sz j n := ⟨Nat.lt_of_lt_of_le h.out (Nat.pow_le_pow_right Big.M64_pos hk)⟩
theorem Sz.le {k m n : Nat} (h : Sz k n) (hm : m ≤ n) : Sz k m := ⟨Nat.lt_of_le_of_lt hm h.out⟩
theorem Sz.mul {k j m n : Nat} (h : Sz k n) (i : Sz j m) : Sz (k + j) (n * m) := by
  refine ⟨?_⟩
  rw [Nat.pow_add]
  exact Nat.mul_lt_mul'' h.out i.out
theorem Sz.add {k j m n : Nat} (h : Sz k n) (i : Sz j m) : Sz (k + j + 1) (n + m) := by
  have a := (h.up (show k ≤ k + j by omega)).out
  have b := (i.up (show j ≤ k + j by omega)).out
  refine ⟨?_⟩
  rw [Nat.pow_succ]
  have h2 : Big.M64 ^ (k + j) * 2 ≤ Big.M64 ^ (k + j) * Big.M64 := Nat.mul_le_mul_left _ (by have := M64_gt; omega)
  generalize Big.M64 ^ (k + j) = P at *
  generalize P * Big.M64 = Q at *
  omega
theorem Sz.bytes8 {n k : Nat} (h : szN n ≤ 8 * k) : Sz k n := by
  refine ⟨?_⟩
  rw [Big.M64_pow, ← Nat.pow_mul]
  exact lt_szN h
theorem Sz.bytes {n : Nat} (h : szN n ≤ 512) : Sz 64 n := Sz.bytes8 h
theorem sz_one : Sz 1 1 := ⟨by rw [Nat.pow_one]; exact M64_gt⟩
theorem sz_zero : Sz 0 0 := ⟨by simp⟩
structure Sm (k : Nat) (q : Rat) : Prop where
  nu : Sz k (Big.nu q)
  de : Sz k (Big.de q)
theorem Fit.sm {q : Rat} (h : Fit q) : Sm 64 q := ⟨Sz.bytes h.nu, Sz.bytes h.de⟩
theorem Sm.up {k j : Nat} {q : Rat} (h : Sm k q) (hk : k ≤ j) : Sm j q := ⟨h.nu.up hk, h.de.up hk⟩
theorem Sm.neg {k : Nat} {q : Rat} (h : Sm k q) : Sm k (-q) := by
  obtain ⟨_, h2, h3⟩ := Big.neg_parts q
  exact ⟨by rw [h2]; exact h.nu, by rw [h3]; exact h.de⟩
theorem Sm.mul {k j : Nat} {q r : Rat} (h : Sm k q) (i : Sm j r) : Sm (k + j) (q * r) := by
  obtain ⟨_, h2, h3⟩ := Big.mul_parts q r
  exact ⟨by rw [h2]; exact (h.nu.le (Nat.div_le_self _ _)).mul (i.nu.le (Nat.div_le_self _ _)), by rw [h3]; exact (h.de.le (Nat.div_le_self _ _)).mul (i.de.le (Nat.div_le_self _ _))⟩
theorem Sm.inv {k : Nat} {q : Rat} (h : Sm k q) (h0 : Big.nu q ≠ 0) : Sm k q⁻¹ := by
  obtain ⟨_, h2, h3⟩ := Big.inv_parts q h0
  exact ⟨by rw [h2]; exact h.de, by rw [h3]; exact h.nu⟩
theorem abs_sum_le (b c : Bool) (n m : Nat) : (Big.sI b n + Big.sI c m).natAbs ≤ n + m := by
  have h1 := Big.sI_abs b n
  have h2 := Big.sI_abs c m
  omega
theorem Sm.add {k j : Nat} {q r : Rat} (h : Sm k q) (i : Sm j r) : Sm (2 * k + 2 * j + 1) (q + r) := by
  obtain ⟨_, h2, h3⟩ := Big.add_parts q r _ _ _ _ rfl rfl rfl rfl
  refine ⟨?_, ?_⟩
  · rw [h2]
    refine Sz.le ?_ (Nat.div_le_self _ _)
    refine Sz.le ?_ (abs_sum_le _ _ _ _)
    exact ((h.nu.mul (i.de.le (Nat.div_le_self _ _))).add (i.nu.mul (h.de.le (Nat.div_le_self _ _)))).up (by omega)
  · rw [h3]
    exact ((h.de.le (Nat.div_le_self _ _)).mul (i.de.le (Nat.div_le_self _ _))).up (by omega)
structure By (k : Nat) (q : Rat) : Prop where
  nu : Big.nu q < 256 ^ k
  de : Big.de q < 256 ^ k
theorem By.fit {k : Nat} {q : Rat} (h : By k q) (hk : k ≤ 512) : Fit q := ⟨Nat.le_trans (szN_le h.nu) hk, Nat.le_trans (szN_le h.de) hk⟩
theorem By.up {k j : Nat} {q : Rat} (h : By k q) (hk : k ≤ j) : By j q :=
  ⟨Nat.lt_of_lt_of_le h.nu (Nat.pow_le_pow_right (by omega) hk), Nat.lt_of_lt_of_le h.de (Nat.pow_le_pow_right (by omega) hk)⟩
theorem By.neg {k : Nat} {q : Rat} (h : By k q) : By k (-q) := by
  obtain ⟨_, h2, h3⟩ := Big.neg_parts q
  exact ⟨by rw [h2]; exact h.nu, by rw [h3]; exact h.de⟩
theorem By.mul {k j : Nat} {q r : Rat} (h : By k q) (i : By j r) : By (k + j) (q * r) := by
  obtain ⟨_, h2, h3⟩ := Big.mul_parts q r
  refine ⟨?_, ?_⟩
  · rw [h2, Nat.pow_add]
    exact Nat.mul_lt_mul'' (Nat.lt_of_le_of_lt (Nat.div_le_self _ _) h.nu) (Nat.lt_of_le_of_lt (Nat.div_le_self _ _) i.nu)
  · rw [h3, Nat.pow_add]
    exact Nat.mul_lt_mul'' (Nat.lt_of_le_of_lt (Nat.div_le_self _ _) h.de) (Nat.lt_of_le_of_lt (Nat.div_le_self _ _) i.de)
theorem By.inv {k : Nat} {q : Rat} (h : By k q) (h0 : Big.nu q ≠ 0) : By k q⁻¹ := by
  obtain ⟨_, h2, h3⟩ := Big.inv_parts q h0
  exact ⟨by rw [h2]; exact h.de, by rw [h3]; exact h.nu⟩
theorem By.add {k j : Nat} {q r : Rat} (h : By k q) (i : By j r) : By (k + j + 1) (q + r) := by
  obtain ⟨_, h2, h3⟩ := Big.add_parts q r _ _ _ _ rfl rfl rfl rfl
  have e : 256 ^ (k + j + 1) = 256 ^ k * 256 ^ j * 256 := by rw [Nat.pow_succ, Nat.pow_add]
  refine ⟨?_, ?_⟩
  · rw [h2, e]
    refine Nat.lt_of_le_of_lt (Nat.div_le_self _ _) (Nat.lt_of_le_of_lt (abs_sum_le _ _ _ _) ?_)
    have a1 := Nat.mul_lt_mul'' h.nu (Nat.lt_of_le_of_lt (Nat.div_le_self (Big.de r) (Nat.gcd (Big.de q) (Big.de r))) i.de)
    have a2 := Nat.mul_lt_mul'' i.nu (Nat.lt_of_le_of_lt (Nat.div_le_self (Big.de q) (Nat.gcd (Big.de q) (Big.de r))) h.de)
    rw [Nat.mul_comm (256 ^ j)] at a2
    generalize 256 ^ k * 256 ^ j = P at *
    omega
  · rw [h3, e]
    have a1 := Nat.mul_lt_mul'' (Nat.lt_of_le_of_lt (Nat.div_le_self (Big.de q) (Nat.gcd (Big.de q) (Big.de r))) h.de) (Nat.lt_of_le_of_lt (Nat.div_le_self (Big.de r) (Nat.gcd (Big.sI (Big.ng q) (Big.nu q * (Big.de r / (Big.de q).gcd (Big.de r))) + Big.sI (Big.ng r) (Big.nu r * (Big.de q / (Big.de q).gcd (Big.de r)))).natAbs ((Big.de q).gcd (Big.de r)))) i.de)
    generalize 256 ^ k * 256 ^ j = P at *
    omega
theorem By.sub {k j : Nat} {q r : Rat} (h : By k q) (i : By j r) : By (k + j + 1) (q - r) := by rw [Rat.sub_eq_add_neg]; exact h.add i.neg
theorem By.div {k j : Nat} {q r : Rat} (h : By k q) (i : By j r) (h0 : Big.nu r ≠ 0) : By (k + j) (q / r) := by rw [Rat.div_def]; exact h.mul (i.inv h0)
end Go.Proofs.Ythfopepnofjcjaa
namespace Go.Proofs.Ythfopepnofjcjaa
open Go.RowKit
def At3 (w : World) (g : Nat) (T : TypeId) (a b c : Value) : Prop := w.heap[g]? = some (.cells #[a, b, c] T (0, 0))
section
variable {w w' : World} {g : Nat} {T : TypeId} {a b c : Value}
theorem At3.lt (h : At3 w g T a b c) : g < w.heap.size := by
  rcases Nat.lt_or_ge g w.heap.size with h1 | h1
  · exact h1
  · unfold At3 at h; rw [Array.getElem?_eq_none h1] at h; cases h
theorem At3.c0 (h : At3 w g T a b c) : w.cell? ⟨g, 0, none⟩ = some a := by rw [cell_of_row w g 0 _ _ (0, 0) h]; rfl
theorem At3.c1 (h : At3 w g T a b c) : w.cell? ⟨g, 1, none⟩ = some b := by rw [cell_of_row w g 1 _ _ (0, 0) h]; rfl
theorem At3.c2 (h : At3 w g T a b c) : w.cell? ⟨g, 2, none⟩ = some c := by rw [cell_of_row w g 2 _ _ (0, 0) h]; rfl
theorem At3.frozen (h : At3 w g T a b c) (i : Nat) : w.frozen? ⟨g, i, none⟩ = false := frozen_of_row w g i _ _ h
theorem At3.new (w : World) (T : TypeId) (a b c : Value) : At3 (w.alloc (.cells #[a, b, c] T)) w.heap.size T a b c := heap_alloc_new w _
theorem At3.alloc' (h : At3 w g T a b c) (o : Obj) : At3 (w.alloc o) g T a b c := (Below.heap_alloc w o g h.lt).trans h
theorem At3.drewN (h : At3 w g T a b c) (n : Nat) : At3 (w.drewN n) g T a b c := h
theorem At3.below (h : At3 w g T a b c) {B : Nat} (hb : Below B w w') (hg : g < B) : At3 w' g T a b c := (hb.block g hg).trans h
theorem At3.keep (h : At3 w g T a b c) (hb : Below w.heap.size w w') : At3 w' g T a b c := h.below hb h.lt
theorem At3.far (h : At3 w g T a b c) {p : Addr} (hp : g ≠ p.block) (u : Value) : At3 (w.setCell p u) g T a b c := (heap_setCell_other w p g u hp).trans h
theorem At3.put (h : At3 w g T a b c) (a' b' c' : Value) : At3 (((w.setCell ⟨g, 0, none⟩ a').setCell ⟨g, 1, none⟩ b').setCell ⟨g, 2, none⟩ c') g T a' b' c' := by
  have h1 := heap_setCell_same w g 0 _ _ a' h
  have h2 := heap_setCell_same _ g 1 _ _ b' h1
  have h3 := heap_setCell_same _ g 2 _ _ c' h2
  exact h3
end
theorem NatIn.only {w w' : World} {v : Value} {n g : Nat} (h : NatIn w v n) (hg : ∀ i x, w.cell? ⟨g, i, none⟩ ≠ some (.int .u64 x)) (ho : Only g w w') : NatIn w' v n := by
  obtain ⟨l, ⟨A, c, rfl, h1, h2, h3⟩, ok⟩ := h
  refine ⟨l, ⟨A, c, rfl, h1, h2, fun hl => ?_⟩, ok⟩
  obtain ⟨b, o, rfl, hlt, hc, hty⟩ := h3 hl
  have hne : b ≠ g := by
    intro e; subst e
    exact hg _ _ (hc 0 hl)
  exact ⟨b, o, rfl, Nat.lt_of_lt_of_le hlt ho.size, fun i hi => (ho.cell hlt hne).trans (hc i hi), hty.same (ho.block b hlt (fun e => hne (by cases e; rfl)))⟩
theorem below_alloc {B : Nat} {w0 w : World} (h : Below B w0 w) (hB : B ≤ w0.heap.size) (o : Obj) : Below B w0 (w.alloc o) := h.alloc (Nat.le_trans hB h.size) o
end Go.Proofs.Ythfopepnofjcjaa
namespace Go.Proofs.Ythfopepnofjcjaa
open Go.RowKit
def lo64 (n : Nat) : Nat := n % 18446744073709551616
def hi64 (n : Nat) : Nat := n / 18446744073709551616
theorem lo64_lt (n : Nat) : lo64 n < 18446744073709551616 := by unfold lo64; omega
theorem lo_hi (n : Nat) : n = lo64 n + 18446744073709551616 * hi64 n := by unfold lo64 hi64; omega
theorem hi64_le {n k : Nat} (h : n < (k + 1) * 18446744073709551616) : hi64 n ≤ k := by unfold hi64; omega
theorem hi64_carry {x y c : Nat} (hx : x < 18446744073709551616) (hy : y < 18446744073709551616) (hc : c ≤ 1) : hi64 (x + y + c) ≤ 1 := by unfold hi64; omega
def bor64 (x y b : Nat) : Nat := if x < y + b then 1 else 0
def dif64 (x y b : Nat) : Nat := (x + 18446744073709551616 - y - b) % 18446744073709551616
theorem bor64_le (x y b : Nat) : bor64 x y b ≤ 1 := by unfold bor64; split <;> omega
theorem dif64_lt (x y b : Nat) : dif64 x y b < 18446744073709551616 := by unfold dif64; omega
theorem dif_bor {x y b : Nat} (hx : x < 18446744073709551616) (hy : y < 18446744073709551616) (hb : b ≤ 1) : x + 18446744073709551616 * bor64 x y b = dif64 x y b + y + b := by
  unfold bor64 dif64; split <;> omega
theorem mul_lt {x y c : Nat} (hx : x < 18446744073709551616) (hy : y < 18446744073709551616) (hc : c < 18446744073709551616) : x * y + c < 18446744073709551616 * 18446744073709551616 := by
  have : x * y ≤ 18446744073709551615 * 18446744073709551615 := Nat.mul_le_mul (by omega) (by omega)
  omega
theorem hi64_mul {x y c : Nat} (hx : x < 18446744073709551616) (hy : y < 18446744073709551616) (hc : c < 18446744073709551616) : hi64 (x * y + c) < 18446744073709551616 := by
  have := mul_lt hx hy hc
  unfold hi64; omega
theorem hi_plus (p m : Nat) : hi64 p + hi64 (lo64 p + m) = hi64 (p + m) := by unfold hi64 lo64; omega
theorem lo_plus (p m : Nat) : lo64 (lo64 p + m) = lo64 (p + m) := by unfold lo64; omega
def Try.lays25_ren : Go.Shelf.Ren := ⟨fun | 25 => 95 | n => n, fun | 22 => 63 | n => n, fun | n => n⟩
theorem Try.lays25 : Go.Proofs.Lays7.n25 Try.prog Try.lays25_ren := {
  mixed := by kernel_rfl
  f25 := Try.func95.trans (congrArg some (by kernel_rfl))
  t22 := Try.underlying63
  a22 := Try.isAgg63
  z22 := Try.sizeOf63
  v22 := Try.zeroValue63
  i22 := by kernel_rfl }
def Try.lays26_ren : Go.Shelf.Ren := ⟨fun | 26 => 96 | n => n, fun | 22 => 63 | n => n, fun | n => n⟩
theorem Try.lays26 : Go.Proofs.Lays7.n26 Try.prog Try.lays26_ren := {
  mixed := by kernel_rfl
  f26 := Try.func96.trans (congrArg some (by kernel_rfl))
  t22 := Try.underlying63
  a22 := Try.isAgg63
  z22 := Try.sizeOf63
  v22 := Try.zeroValue63
  i22 := by kernel_rfl }
theorem add64 (x y c : Nat) (hc : c ≤ 1) (w : World) : (callFunc 95 #[.int .u64 x, .int .u64 y, .int .u64 c]).run Try.prog w =
    .ok (.value (.tuple #[.int .u64 ((lo64 (x + y + c) : Nat) : Int), .int .u64 ((hi64 (x + y + c) : Nat) : Int)])) w := Any7.bits_Add64 Try.lays25 x y c hc w
theorem add64_0 (x y : Nat) (w : World) : (callFunc 95 #[.int .u64 x, .int .u64 y, .int .u64 0]).run Try.prog w =
    .ok (.value (.tuple #[.int .u64 ((lo64 (x + y) : Nat) : Int), .int .u64 ((hi64 (x + y) : Nat) : Int)])) w := add64 x y 0 (by omega) w
theorem sub64 (x y b : Nat) (hb : b ≤ 1) (w : World) : (callFunc 96 #[.int .u64 x, .int .u64 y, .int .u64 b]).run Try.prog w =
    .ok (.value (.tuple #[.int .u64 ((dif64 x y b : Nat) : Int), .int .u64 ((bor64 x y b : Nat) : Int)])) w := Any7.bits_Sub64 Try.lays26 x y b hb w
theorem mul64 (x y : Nat) (hx : x < 18446744073709551616) (hy : y < 18446744073709551616) (w : World) :
    Calls Try.prog 101 #[.int .u64 x, .int .u64 y] w fun e w' => e = .returned (.tuple #[.int .u64 ((hi64 (x * y) : Nat) : Int), .int .u64 ((lo64 (x * y) : Nat) : Int)]) ∧ w = w' :=
  (Try.bits_Mul64 x y hx hy w).mono fun _ _ ⟨h1, h2⟩ => ⟨h1, h2.symm⟩
theorem timesPlus_any (v u m : Nat) (hv : v < 18446744073709551616) (hu : u < 18446744073709551616) (hm : m < 18446744073709551616) (w : World) :
    Calls Try.prog 94 #[.int .u64 v, .int .u64 u, .int .u64 m] w fun e w' =>
      e = .returned (.tuple #[.int .u64 ((lo64 (v * u + m) : Nat) : Int), .int .u64 ((hi64 (v * u + m) : Nat) : Int)]) ∧ w = w' := by
  have H1 := Lib.hid (hi_plus (v * u) m)
  have H2 := Lib.hid (lo_plus (v * u) m)
  have b1 : ((hi64 (v * u) : Nat) : Int) + ((hi64 (lo64 (v * u) + m) : Nat) : Int) < 18446744073709551616 := by
    have := hi64_mul hv hu hm
    have := H1.out
    omega
  go_enter Try.func94, Try.ntmps94
  go_wp2_with (first
    | (go_at_call 101; refine (mul64 _ _ hv hu _).mono ?_; rintro e w' ⟨rfl, rfl⟩)
    | simp only [add64_0 (lo64 (v * u)) m])
  go_ret2
  exact ⟨by rw [← H1.out, ← H2.out]; simp, rfl⟩
end Go.Proofs.Ythfopepnofjcjaa
namespace Go.Proofs.Ythfopepnofjcjaa
open Go.RowKit
theorem word_any (w : World) (v : Value) (l : List Nat) (i : Nat) (h : Wd w .u64 v l) :
    Calls Try.prog 87 #[v, .int .i64 (i : Int)] w fun e w' => e = .returned (.int .u64 ((Big.nth l i : Nat) : Int)) ∧ w = w' := by
  obtain ⟨A, c, rfl, h1, h2, h3⟩ := h
  by_cases hi : i < l.length
  · obtain ⟨b, o, rfl, hlt, hc, -⟩ := h3 (by omega)
    have hcell := hc i hi
    clear hc h3
    go_enter Try.func87, Try.ntmps87
    go_wp2
    go_ret
    exact ⟨rfl, rfl⟩
  · have H0 := Lib.hid (Big.nth_ge l i (by omega))
    clear h3
    go_enter Try.func87, Try.ntmps87
    go_wp2
    go_ret
    exact ⟨by rw [H0.out]; rfl, rfl⟩
theorem order_any (w : World) (b : Bool) :
    Calls Try.prog 82 #[.bool b] w fun e w' => e = .returned (.int .i64 (Big.ordI b)) ∧ w = w' := by
  cases b <;>
  · go_enter Try.func82, Try.ntmps82
    go_wp2
    go_ret
    exact ⟨rfl, rfl⟩
theorem isOne_any (w : World) (v : Value) (l : List Nat) (h : Wd w .u64 v l) :
    Calls Try.prog 56 #[v] w fun e w' => e = .returned (.bool (decide (l = [1]))) ∧ w = w' := by
  obtain ⟨A, c, rfl, h1, h2, h3⟩ := h
  by_cases hl : l.length = 1
  · obtain ⟨x, rfl⟩ := List.length_eq_one_iff.1 hl
    obtain ⟨b, o, rfl, hlt, hc, -⟩ := h3 (by omega)
    have hcell : w.cell? ⟨b, o, none⟩ = some (.int .u64 (x : Int)) := hc 0 (by omega)
    clear hc h3 h1
    go_enter Try.func56, Try.ntmps56
    go_wp2
    go_ret
    exact ⟨ret_bool (by rw [Bool.eq_iff_iff]; simp; omega), rfl⟩
  · have e1 : decide (l = [1]) = false := decide_eq_false (fun e => hl (by rw [e]; rfl))
    rw [e1]
    have e2 : ((l.length : Int) == 1) = false := beq_eq_false_iff_ne.2 (by omega)
    clear h3
    go_enter Try.func56, Try.ntmps56
    go_wp2
    go_ret
    exact ⟨rfl, rfl⟩
theorem trim_slice (w : World) (A : Option Addr) (c : Nat) (l : List Nat) (h : Wd w .u64 (.slice A l.length c) l) :
    Calls Try.prog 73 #[.slice A l.length c] w fun e w' => e = .returned (.slice A (Big.strip l).length c) ∧ w = w' := by
  obtain ⟨A', c', e, h1, h2, h3⟩ := h
  cases e
  go_enter Try.func73, Try.ntmps73
  go_wp2
  go_loop [3] (fun n => ∃ k : Nat, k ≤ l.length ∧ n = .int .i64 k ∧ Hid (Big.strip (l.take k) = Big.strip l)) (fun n => (intOf n).toNat)
  case atStart => exact ⟨l.length, Nat.le_refl _, rfl, Lib.hid (by rw [List.take_length])⟩
  case round =>
    obtain ⟨k, hk, rfl, HS⟩ := hrel
    by_cases hk0 : k = 0
    · subst hk0
      have HN := Lib.hid (show (Big.strip l).length = 0 by rw [← HS.out, List.take_zero]; rfl)
      go_wp2
      go_ret
      exact ⟨by rw [HN.out]; rfl, rfl⟩
    · obtain ⟨b, o, rfl, hlt, hc, -⟩ := h3 (by omega)
      have hcell := hc (k - 1) (by omega)
      clear hc h3
      go_wp2
      · have hz : ((Big.nth l (k - 1) : Nat) == (0 : Int)) = true := by assumption
        refine ⟨⟨k - 1, by omega, ?_, Lib.hid ?_⟩, by simp [intOf]; omega⟩
        · congr 1; omega
        · rw [← HS.out]
          have := Big.strip_take l (k - 1) (by omega) (by simpa using hz)
          rw [show k - 1 + 1 = k by omega] at this
          exact this.symm
      · have hz : ((Big.nth l (k - 1) : Nat) == (0 : Int)) = false := by assumption
        have h2 := Big.strip_take_ne l (k - 1) (by omega) (by simpa using hz)
        rw [show k - 1 + 1 = k by omega, HS.out] at h2
        have HN := Lib.hid (show (Big.strip l).length = k by rw [h2, List.length_take]; omega)
        clear h2
        go_ret
        exact ⟨by rw [HN.out]; rfl, rfl⟩
theorem trim_any (w : World) (v : Value) (l : List Nat) (h : Wd w .u64 v l) :
    Calls Try.prog 73 #[v] w fun e w' => ∃ v', e = .returned v' ∧ Wd w .u64 v' (Big.strip l) ∧ w = w' := by
  obtain ⟨A, c, rfl, h1, h2, h3⟩ := h
  refine (trim_slice w A c l ⟨A, c, rfl, h1, h2, h3⟩).mono fun e w' ⟨he, hw⟩ => ⟨_, he, ?_, hw⟩
  have := Wd.cut (w := w) (k := .u64) (A := A) (l := l) (c := c) (n := (Big.strip l).length) ⟨A, c, rfl, h1, h2, h3⟩ (Big.strip_len l)
  rwa [← Big.strip_take_self] at this
theorem natOf_any (w : World) (n : Nat) :
    Calls Try.prog 58 #[.int .u64 (n : Int)] w fun e w' => ∃ v', e = .returned v' ∧ Wd w' .u64 v' (if n = 0 then [] else [n]) ∧ Below w.heap.size w w' := by
  by_cases hn : n = 0
  · subst hn
    go_enter Try.func58, Try.ntmps58
    go_wp2
    go_ret
    exact ⟨_, rfl, Wd.nil_ _ _, Below.refl _ _⟩
  · have h0 : ((n : Int) == 0) = false := beq_eq_false_iff_ne.2 (by omega)
    go_enter Try.func58, Try.ntmps58
    go_wp2
    go_ret
    refine ⟨_, rfl, ?_, ?_⟩
    · refine Wd.new 1 1 rfl (Nat.le_refl _) (by omega) (heap_alloc_new w _) (fun i hi => ?_)
      have : i = 0 := by simp at hi; omega
      subst this; rfl
    · exact (Below.refl _ _).alloc (Nat.le_refl _) _
theorem cmp_any (w : World) (v u : Value) (l m : List Nat) (h : Wd w .u64 v l) (k : Wd w .u64 u m) (ol : Big.Ok Big.M64 l) (om : Big.Ok Big.M64 m) (nl : Big.Norm l) (nm : Big.Norm m) :
    Calls Try.prog 65 #[v, u] w fun e w' => e = .returned (.int .i64 (Big.cmpI (Big.val Big.M64 l) (Big.val Big.M64 m))) ∧ Drew w w' := by
  obtain ⟨A, c, rfl, h1, h2, h3⟩ := h
  obtain ⟨A2, c2, rfl, k1, k2, k3⟩ := k
  rcases Nat.lt_trichotomy l.length m.length with hlt | heq | hgt
  · have H := Lib.hid (Big.cmpI_lt (Big.lt_of_length Big.M64_pos ol nm hlt))
    have hne : ((l.length : Int) != m.length) = true := by rw [bne_iff_ne]; omega
    clear h3 k3
    go_enter Try.func65, Try.ntmps65
    go_wp2_with (go_at_call 82; refine (order_any _ _).mono ?_; rintro e w' ⟨rfl, rfl⟩)
    go_ret
    exact ⟨by rw [H.out]; simp [Big.ordI], Drew.refl _⟩
  · obtain ⟨N, hN⟩ : ∃ N, l.length = N := ⟨_, rfl⟩
    rw [hN] at h3 h1 heq
    rw [← heq] at k3 k1
    have HN := Lib.hid hN; have HM := Lib.hid heq.symm
    rw [hN, ← heq]
    have hne : ((N : Int) != N) = false := by simp
    clear hN heq
    go_enter Try.func65, Try.ntmps65
    go_wp2_with fail
    go_loopw [5] (fun i wr => ∃ k : Nat, k ≤ N ∧ i = .int .i64 ((k : Int) - 1) ∧ Drew w wr ∧ Hid (l.drop k = m.drop k)) (fun i _ => (intOf i + 1).toNat)
    case atStart => exact ⟨N, Nat.le_refl _, rfl, Drew.refl _, Lib.hid (by rw [List.drop_eq_nil_of_le (by have := HN.out; omega), List.drop_eq_nil_of_le (by have := HM.out; omega)])⟩
    case round =>
      obtain ⟨k, hk, rfl, hd, HS⟩ := hrel
      rcases Nat.eq_zero_or_pos k with rfl | hp
      · go_wp2
        go_ret
        have e : l = m := by simpa using HS.out
        exact ⟨by rw [e, Big.cmpI_eq]; simp, hd⟩
      · obtain ⟨j, rfl⟩ : ∃ j, k = j + 1 := ⟨k - 1, by omega⟩
        rw [show (((j + 1 : Nat) : Int) - 1) = (j : Int) by omega]
        obtain ⟨b, o, rfl, hlt, hc, -⟩ := h3 (by omega)
        obtain ⟨b2, o2, rfl, hlt2, hc2, -⟩ := k3 (by omega)
        have hcell := (hd.cell _).trans (hc j (by omega))
        have hcell2 := (hd.cell _).trans (hc2 j (by omega))
        have HD := Lib.hid hd
        have hl := HN.out; have hm := HM.out
        rcases Nat.lt_trichotomy (Big.nth l j) (Big.nth m j) with hj | hj | hj
        · have H := Lib.hid (Big.cmpI_lt (Big.lt_at (k := j) (by omega) (by omega) ol HS.out hj))
          have t1 : (((Big.nth l j : Nat) : Int) != ((Big.nth m j : Nat) : Int)) = true := by rw [bne_iff_ne]; omega
          clear hc hc2 h3 k3 hd hl hm
          go_wp2_with fail
          go_quiet (fail)
          go_wp2_with fail
          have g1 : (wr.drewN nq).cell? ⟨b, o + j, none⟩ = some (.int .u64 ((Big.nth l j : Nat) : Int)) := hcell
          have g2 : (wr.drewN nq).cell? ⟨b2, o2 + j, none⟩ = some (.int .u64 ((Big.nth m j : Nat) : Int)) := hcell2
          have HE := Lib.hid (HD.out.drewN nq)
          clear HD hcell hcell2
          generalize wr.drewN nq = w1 at g1 g2 HE ⊢
          go_quiet ((go_at_call 82; exact quiet_same (order_any _ _)))
          go_wp2
          go_ret
          exact ⟨by rw [H.out]; simp [Big.ordI], (HE.out.drewN _)⟩
        · have HS' := Lib.hid (show l.drop j = m.drop j by rw [Big.drop_cons l j (by omega), Big.drop_cons m j (by omega), HS.out, hj])
          have t1 : (((Big.nth l j : Nat) : Int) != ((Big.nth m j : Nat) : Int)) = false := by rw [bne_eq_false_iff_eq]; omega
          clear hc hc2 h3 k3 hd hl hm hj
          go_wp2_with fail
          go_quiet (fail)
          go_wp2_with fail
          go_roundw
          case rel => exact ⟨j, by omega, rfl, HD.out.drewN _, HS'⟩
          case measure => simp [intOf]
        · have H := Lib.hid (Big.cmpI_gt (Big.lt_at (k := j) (by omega) (by omega) om HS.out.symm hj))
          have t1 : (((Big.nth l j : Nat) : Int) != ((Big.nth m j : Nat) : Int)) = true := by rw [bne_iff_ne]; omega
          clear hc hc2 h3 k3 hd hl hm
          go_wp2_with fail
          go_quiet (fail)
          go_wp2_with fail
          have g1 : (wr.drewN nq).cell? ⟨b, o + j, none⟩ = some (.int .u64 ((Big.nth l j : Nat) : Int)) := hcell
          have g2 : (wr.drewN nq).cell? ⟨b2, o2 + j, none⟩ = some (.int .u64 ((Big.nth m j : Nat) : Int)) := hcell2
          have HE := Lib.hid (HD.out.drewN nq)
          clear HD hcell hcell2
          generalize wr.drewN nq = w1 at g1 g2 HE ⊢
          go_quiet ((go_at_call 82; exact quiet_same (order_any _ _)))
          go_wp2
          go_ret
          exact ⟨by rw [H.out]; simp [Big.ordI]; omega, (HE.out.drewN _)⟩
  · have H := Lib.hid (Big.cmpI_gt (Big.lt_of_length Big.M64_pos om nl hgt))
    have hne : ((l.length : Int) != m.length) = true := by rw [bne_iff_ne]; omega
    clear h3 k3
    go_enter Try.func65, Try.ntmps65
    go_wp2_with (go_at_call 82; refine (order_any _ _).mono ?_; rintro e w' ⟨rfl, rfl⟩)
    go_ret
    exact ⟨by rw [H.out]; simp [Big.ordI]; omega, Drew.refl _⟩
end Go.Proofs.Ythfopepnofjcjaa
namespace Go.Proofs.Ythfopepnofjcjaa
open Go.RowKit
theorem Try.infoU64 : (Try.prog.info? 63).map (fun i => (i.zero, i.size, i.bytes)) = some (some (.int .u64 0), 1, 8) := by kernel_rfl
theorem add_round {l m zs : List Nat} {k n : Nat} (ol : Big.Ok Big.M64 l) (om : Big.Ok Big.M64 m) (hn : n ≤ 1)
    (h : zs.length = k ∧ Big.Ok Big.M64 zs ∧ Big.val Big.M64 zs + Big.M64 ^ k * n = Big.val Big.M64 (l.take k) + Big.val Big.M64 (m.take k)) :
    hi64 (Big.nth l k + Big.nth m k + n) ≤ 1 ∧ (zs ++ [lo64 (Big.nth l k + Big.nth m k + n)]).length = k + 1 ∧ Big.Ok Big.M64 (zs ++ [lo64 (Big.nth l k + Big.nth m k + n)]) ∧
      Big.val Big.M64 (zs ++ [lo64 (Big.nth l k + Big.nth m k + n)]) + Big.M64 ^ (k + 1) * hi64 (Big.nth l k + Big.nth m k + n) = Big.val Big.M64 (l.take (k + 1)) + Big.val Big.M64 (m.take (k + 1)) := by
  obtain ⟨h1, h2, h3⟩ := h
  have a := ol.nth Big.M64_pos k
  have b := om.nth Big.M64_pos k
  refine ⟨hi64_carry (by rw [← Big.M64_eq]; exact a) (by rw [← Big.M64_eq]; exact b) hn, by simp [h1], h2.append (Big.Ok.cons (by rw [Big.M64_eq]; exact lo64_lt _) Big.Ok.nil), ?_⟩
  rw [Big.val_take_succ', Big.val_take_succ']
  exact Big.add_step h1 h3 (by rw [Big.M64_eq]; exact lo_hi _)
set_option maxRecDepth 100000 in
set_option maxHeartbeats 1000000 in
theorem add_ge (w : World) (v u : Value) (l m : List Nat) (h : Wd w .u64 v l) (k : Wd w .u64 u m) (ol : Big.Ok Big.M64 l) (om : Big.Ok Big.M64 m)
    (hl : l.length ≤ 1000000000000) (hlm : m.length ≤ l.length) :
    Calls Try.prog 83 #[v, u] w fun e w' => ∃ v', e = .returned v' ∧ NatIn w' v' (Big.val Big.M64 l + Big.val Big.M64 m) ∧ Below w.heap.size w w' := by
  obtain ⟨A, c, rfl, h1, h2, h3⟩ := h
  obtain ⟨A2, c2, rfl, k1, k2, k3⟩ := k
  obtain ⟨i0, hi, hz0, hz1, hz2⟩ := info_parts Try.infoU64
  have OL := Lib.hid ol; have OM := Lib.hid om
  clear ol om
  have hmk := fun W => make_words (P := Try.prog) Try.underlying66 hi hz0 hz1 (by rw [hz2]; omega) .i64 .i64 (l.length + 1) (l.length + 1) (Nat.le_refl _) (by omega) W
  rw [show ((l.length + 1 : Nat) : Int) = (l.length : Int) + 1 by omega] at hmk
  have hnlt : ¬ ((l.length : Int) < m.length) := by omega
  have hb0 : Blk (w.alloc (.cells (cellsOf .u64 (List.replicate (l.length + 1) 0)) 63)) w.heap.size 63 .u64 (List.replicate (l.length + 1) 0) := Blk.new _ _ _ _
  have hbel0 : Below w.heap.size w (w.alloc (.cells (cellsOf .u64 (List.replicate (l.length + 1) 0)) 63)) := (Below.refl _ _).alloc (Nat.le_refl _) _
  have hw0 : Wd (w.alloc (.cells (cellsOf .u64 (List.replicate (l.length + 1) 0)) 63)) .u64 (.slice A l.length c) l := Wd.keep ⟨A, c, rfl, h1, h2, h3⟩ hbel0
  have H0 := Lib.hid (And.intro hb0 (And.intro hbel0 hw0))
  clear hb0 hbel0 hw0
  have hu : (Try.prog.info? 63).map (·.size) = some 1 := by rw [hi]; simp [hz1]
  go_enter Try.func83, Try.ntmps83
  go_wp2_with (first
    | (with_reducible refine wpList_copy_words rfl (.tmp 19) (.tmp 20) 66 66 rfl 63 Try.underlying66 hu w.heap.size 63 .u64 (List.replicate (l.length + 1) 0) l (l.length + 1) (l.length + 1) A c rfl rfl H0.out.2.2 H0.out.1 (by omega) (by simp) w.heap.size w H0.out.2.1 (Nat.le_refl _) ?_))
  intro w1 hB1 hBel1
  have HW1 := Lib.hid (show Wd w .u64 (.slice A l.length c) l from ⟨A, c, rfl, h1, h2, h3⟩)
  have HW2 := Lib.hid (show Wd w .u64 (.slice A2 m.length c2) m from ⟨A2, c2, rfl, k1, k2, k3⟩)
  have HB1 := Lib.hid hB1; have HBel1 := Lib.hid hBel1
  clear hB1 hBel1 H0 hmk h3 k3
  go_wp2_with fail
  go_loopw [6, 24] (fun o i wr => ∃ (k n : Nat) (zs : List Nat), k ≤ l.length ∧ i = .int .i64 k ∧ o = .int .u64 n ∧ n ≤ 1 ∧
      Hid (zs.length = k ∧ Big.Ok Big.M64 zs ∧ Big.val Big.M64 zs + Big.M64 ^ k * n = Big.val Big.M64 (l.take k) + Big.val Big.M64 (m.take k)) ∧
      Hid (Blk wr w.heap.size 63 .u64 (zs ++ (l ++ [0]).drop k)) ∧ Hid (Below w.heap.size w wr))
    (fun _ i _ => l.length - (intOf i).toNat)
  case atStart => exact ⟨0, 0, [], by omega, rfl, rfl, by omega, Lib.hid ⟨rfl, Big.Ok.nil, by simp [Big.val]⟩, Lib.hid (by simpa using HB1.out), HBel1⟩
  case round =>
    obtain ⟨k, n, zs, hk, rfl, rfl, hn1, HZ, HB, HBel⟩ := hrel
    by_cases hlt : k < l.length
    · have hX := HW1.out
      obtain ⟨A', c', e, x1, x2, x3⟩ := hX
      cases e
      obtain ⟨b, o, rfl, hblt, hc, -⟩ := x3 (by omega)
      have hcell := (HBel.out.cell (p := ⟨b, o + k, none⟩) hblt).trans (hc k hlt)
      have hadd := fun W => add64 (Big.nth l k) (Big.nth m k) n hn1 W
      have hst := HB.out.cell k (by have := HZ.out.1; simp; omega)
      have hfr := HB.out.frozen k
      have HY := Lib.hid (HW2.out.keep HBel.out)
      have HYd := Lib.hid (HY.out.drew ⟨1, rfl⟩ : Wd wr.drew .u64 _ m)
      have hz1 : (k : Int) < (l.length : Int) + 1 := by omega
      have hz0 : (0 : Int) ≤ (k : Int) := by omega
      clear hc x3
      go_wp2_with fail
      go_region_held3 (fun w' => w'.cell? ⟨b, o + k, none⟩ = some (.int .u64 ((Big.nth l k : Nat) : Int)))
        (first | exact hcell | exact (World.cell?_setCell_other _ _ _ _ (by intro e; injection e; omega)).trans hcell)
        (first | (go_at_call 87; refine (word_any _ _ m k HYd.out).mono ?_; rintro e w' ⟨rfl, rfl⟩) | fail)
      have R := add_round OL.out OM.out hn1 HZ.out
      have R1 := Lib.hid R.2
      have R0 := R.1
      have HB' := Lib.hid (HB.out.set k (lo64 (Big.nth l k + Big.nth m k + n)))
      clear R
      go_wp2
      go_roundw
      case rel =>
        refine ⟨k + 1, _, _, by omega, by go_num, rfl, R0, R1, Lib.hid ?_, Lib.hid (((HBel.out).drew).setCell (Nat.le_refl _) _)⟩
        have := HB'.out
        rw [set_drop zs (l ++ [0]) k _ HZ.out.1 (by simp; omega)] at this
        exact this
      case measure => simp [intOf]; omega
    · have hkl : k = l.length := by omega
      subst hkl
      have hst := HB.out.cell l.length (by have := HZ.out.1; simp; omega)
      have hfr := HB.out.frozen l.length
      have HB' := Lib.hid (HB.out.set l.length n)
      have HBel' := Lib.hid (HBel.out.setCell (p := ⟨w.heap.size, l.length, none⟩) (Nat.le_refl _) (.int .u64 (n : Int)))
      have hz1 : (l.length : Int) < (l.length : Int) + 1 := by omega
      go_wp2_with fail
      refine (trim_any _ _ (zs ++ [n]) ?_).mono ?_
      · have h1 := HB'.out
        rw [set_drop zs (l ++ [0]) l.length _ HZ.out.1 (by simp)] at h1
        rw [show List.drop (l.length + 1) (l ++ [0]) = [] from List.drop_eq_nil_of_le (by simp), List.append_nil] at h1
        have h2 := h1.wd0 (l.length + 1) (by have := HZ.out.1; simp; omega) (by omega)
        rw [show (zs ++ [n]).length = l.length + 1 by have := HZ.out.1; simp; omega] at h2
        exact h2
      · rintro e w' ⟨v', rfl, hv', rfl⟩
        have HV := Lib.hid hv'
        clear hv'
        go_wp2
        go_ret
        have Z := HZ.out
        have oz : Big.Ok Big.M64 (zs ++ [n]) := Z.2.1.append (Big.Ok.cons (by unfold Big.M64; omega) Big.Ok.nil)
        refine ⟨v', rfl, ⟨Big.strip (zs ++ [n]), HV.out, Big.strip_ok oz, Big.strip_norm _, ?_⟩, HBel'.out⟩
        have e1 := Z.2.2
        rw [Big.val_take_all l _ (Nat.le_refl _), Big.val_take_all m _ (by omega)] at e1
        rw [Big.strip_val, Big.val_snoc, Z.1]
        exact e1
set_option maxRecDepth 100000 in
set_option maxHeartbeats 1000000 in
theorem add_lt (w : World) (v u : Value) (l m : List Nat) (h : Wd w .u64 v l) (k : Wd w .u64 u m) (ol : Big.Ok Big.M64 l) (om : Big.Ok Big.M64 m)
    (hl : l.length ≤ 1000000000000) (hlm : m.length < l.length) :
    Calls Try.prog 83 #[u, v] w fun e w' => ∃ v', e = .returned v' ∧ NatIn w' v' (Big.val Big.M64 l + Big.val Big.M64 m) ∧ Below w.heap.size w w' := by
  obtain ⟨A, c, rfl, h1, h2, h3⟩ := h
  obtain ⟨A2, c2, rfl, k1, k2, k3⟩ := k
  obtain ⟨i0, hi, hz0, hz1, hz2⟩ := info_parts Try.infoU64
  have OL := Lib.hid ol; have OM := Lib.hid om
  clear ol om
  have hmk := fun W => make_words (P := Try.prog) Try.underlying66 hi hz0 hz1 (by rw [hz2]; omega) .i64 .i64 (l.length + 1) (l.length + 1) (Nat.le_refl _) (by omega) W
  rw [show ((l.length + 1 : Nat) : Int) = (l.length : Int) + 1 by omega] at hmk
  have hnlt : ((m.length : Int) < l.length) := by omega
  have hb0 : Blk (w.alloc (.cells (cellsOf .u64 (List.replicate (l.length + 1) 0)) 63)) w.heap.size 63 .u64 (List.replicate (l.length + 1) 0) := Blk.new _ _ _ _
  have hbel0 : Below w.heap.size w (w.alloc (.cells (cellsOf .u64 (List.replicate (l.length + 1) 0)) 63)) := (Below.refl _ _).alloc (Nat.le_refl _) _
  have hw0 : Wd (w.alloc (.cells (cellsOf .u64 (List.replicate (l.length + 1) 0)) 63)) .u64 (.slice A l.length c) l := Wd.keep ⟨A, c, rfl, h1, h2, h3⟩ hbel0
  have H0 := Lib.hid (And.intro hb0 (And.intro hbel0 hw0))
  clear hb0 hbel0 hw0
  have hu : (Try.prog.info? 63).map (·.size) = some 1 := by rw [hi]; simp [hz1]
  go_enter Try.func83, Try.ntmps83
  go_wp2_with (first
    | (with_reducible refine wpList_copy_words rfl (.tmp 19) (.tmp 20) 66 66 rfl 63 Try.underlying66 hu w.heap.size 63 .u64 (List.replicate (l.length + 1) 0) l (l.length + 1) (l.length + 1) A c rfl rfl H0.out.2.2 H0.out.1 (by omega) (by simp) w.heap.size w H0.out.2.1 (Nat.le_refl _) ?_))
  intro w1 hB1 hBel1
  have HW1 := Lib.hid (show Wd w .u64 (.slice A l.length c) l from ⟨A, c, rfl, h1, h2, h3⟩)
  have HW2 := Lib.hid (show Wd w .u64 (.slice A2 m.length c2) m from ⟨A2, c2, rfl, k1, k2, k3⟩)
  have HB1 := Lib.hid hB1; have HBel1 := Lib.hid hBel1
  clear hB1 hBel1 H0 hmk h3 k3
  go_wp2_with fail
  go_loopw [6, 24] (fun o i wr => ∃ (k n : Nat) (zs : List Nat), k ≤ l.length ∧ i = .int .i64 k ∧ o = .int .u64 n ∧ n ≤ 1 ∧
      Hid (zs.length = k ∧ Big.Ok Big.M64 zs ∧ Big.val Big.M64 zs + Big.M64 ^ k * n = Big.val Big.M64 (l.take k) + Big.val Big.M64 (m.take k)) ∧
      Hid (Blk wr w.heap.size 63 .u64 (zs ++ (l ++ [0]).drop k)) ∧ Hid (Below w.heap.size w wr))
    (fun _ i _ => l.length - (intOf i).toNat)
  case atStart => exact ⟨0, 0, [], by omega, rfl, rfl, by omega, Lib.hid ⟨rfl, Big.Ok.nil, by simp [Big.val]⟩, Lib.hid (by simpa using HB1.out), HBel1⟩
  case round =>
    obtain ⟨k, n, zs, hk, rfl, rfl, hn1, HZ, HB, HBel⟩ := hrel
    by_cases hlt : k < l.length
    · have hX := HW1.out
      obtain ⟨A', c', e, x1, x2, x3⟩ := hX
      cases e
      obtain ⟨b, o, rfl, hblt, hc, -⟩ := x3 (by omega)
      have hcell := (HBel.out.cell (p := ⟨b, o + k, none⟩) hblt).trans (hc k hlt)
      have hadd := fun W => add64 (Big.nth l k) (Big.nth m k) n hn1 W
      have hst := HB.out.cell k (by have := HZ.out.1; simp; omega)
      have hfr := HB.out.frozen k
      have HY := Lib.hid (HW2.out.keep HBel.out)
      have HYd := Lib.hid (HY.out.drew ⟨1, rfl⟩ : Wd wr.drew .u64 _ m)
      have hz1 : (k : Int) < (l.length : Int) + 1 := by omega
      have hz0 : (0 : Int) ≤ (k : Int) := by omega
      clear hc x3
      go_wp2_with fail
      go_region_held3 (fun w' => w'.cell? ⟨b, o + k, none⟩ = some (.int .u64 ((Big.nth l k : Nat) : Int)))
        (first | exact hcell | exact (World.cell?_setCell_other _ _ _ _ (by intro e; injection e; omega)).trans hcell)
        (first | (go_at_call 87; refine (word_any _ _ m k HYd.out).mono ?_; rintro e w' ⟨rfl, rfl⟩) | fail)
      have R := add_round OL.out OM.out hn1 HZ.out
      have R1 := Lib.hid R.2
      have R0 := R.1
      have HB' := Lib.hid (HB.out.set k (lo64 (Big.nth l k + Big.nth m k + n)))
      clear R
      go_wp2
      go_roundw
      case rel =>
        refine ⟨k + 1, _, _, by omega, by go_num, rfl, R0, R1, Lib.hid ?_, Lib.hid (((HBel.out).drew).setCell (Nat.le_refl _) _)⟩
        have := HB'.out
        rw [set_drop zs (l ++ [0]) k _ HZ.out.1 (by simp; omega)] at this
        exact this
      case measure => simp [intOf]; omega
    · have hkl : k = l.length := by omega
      subst hkl
      have hst := HB.out.cell l.length (by have := HZ.out.1; simp; omega)
      have hfr := HB.out.frozen l.length
      have HB' := Lib.hid (HB.out.set l.length n)
      have HBel' := Lib.hid (HBel.out.setCell (p := ⟨w.heap.size, l.length, none⟩) (Nat.le_refl _) (.int .u64 (n : Int)))
      have hz1 : (l.length : Int) < (l.length : Int) + 1 := by omega
      go_wp2_with fail
      refine (trim_any _ _ (zs ++ [n]) ?_).mono ?_
      · have h1 := HB'.out
        rw [set_drop zs (l ++ [0]) l.length _ HZ.out.1 (by simp)] at h1
        rw [show List.drop (l.length + 1) (l ++ [0]) = [] from List.drop_eq_nil_of_le (by simp), List.append_nil] at h1
        have h2 := h1.wd0 (l.length + 1) (by have := HZ.out.1; simp; omega) (by omega)
        rw [show (zs ++ [n]).length = l.length + 1 by have := HZ.out.1; simp; omega] at h2
        exact h2
      · rintro e w' ⟨v', rfl, hv', rfl⟩
        have HV := Lib.hid hv'
        clear hv'
        go_wp2
        go_ret
        have Z := HZ.out
        have oz : Big.Ok Big.M64 (zs ++ [n]) := Z.2.1.append (Big.Ok.cons (by unfold Big.M64; omega) Big.Ok.nil)
        refine ⟨v', rfl, ⟨Big.strip (zs ++ [n]), HV.out, Big.strip_ok oz, Big.strip_norm _, ?_⟩, HBel'.out⟩
        have e1 := Z.2.2
        rw [Big.val_take_all l _ (Nat.le_refl _), Big.val_take_all m _ (by omega)] at e1
        rw [Big.strip_val, Big.val_snoc, Z.1]
        exact e1
theorem add_any (w : World) (v u : Value) (n m : Nat) (h : NatIn w v n) (k : NatIn w u m) (hn : n < Big.M64 ^ Big.KX) (hm : m < Big.M64 ^ Big.KX) :
    Calls Try.prog 83 #[v, u] w fun e w' => ∃ v', e = .returned v' ∧ NatIn w' v' (n + m) ∧ Below w.heap.size w w' := by
  obtain ⟨l, h1, h2, h3, rfl⟩ := h
  obtain ⟨r, k1, k2, k3, rfl⟩ := k
  have hl := len_of_lt h3 hn
  rw [Big.KX_eq] at hl
  have hr := len_of_lt k3 hm
  rw [Big.KX_eq] at hr
  rcases Nat.lt_or_ge l.length r.length with hlt | hge
  · rw [Nat.add_comm]
    exact add_lt w u v r l k1 h1 k2 h2 (by omega) hlt
  · exact add_ge w v u l r h1 k1 h2 k2 (by omega) hge
theorem sub_round {l m zs : List Nat} {k n : Nat} (ol : Big.Ok Big.M64 l) (om : Big.Ok Big.M64 m) (hn : n ≤ 1)
    (h : zs.length = k ∧ Big.Ok Big.M64 zs ∧ Big.val Big.M64 zs + Big.val Big.M64 (m.take k) = Big.val Big.M64 (l.take k) + Big.M64 ^ k * n) :
    bor64 (Big.nth l k) (Big.nth m k) n ≤ 1 ∧ (zs ++ [dif64 (Big.nth l k) (Big.nth m k) n]).length = k + 1 ∧ Big.Ok Big.M64 (zs ++ [dif64 (Big.nth l k) (Big.nth m k) n]) ∧
      Big.val Big.M64 (zs ++ [dif64 (Big.nth l k) (Big.nth m k) n]) + Big.val Big.M64 (m.take (k + 1)) = Big.val Big.M64 (l.take (k + 1)) + Big.M64 ^ (k + 1) * bor64 (Big.nth l k) (Big.nth m k) n := by
  obtain ⟨h1, h2, h3⟩ := h
  have a := ol.nth Big.M64_pos k
  have b := om.nth Big.M64_pos k
  refine ⟨bor64_le _ _ _, by simp [h1], h2.append (Big.Ok.cons (by rw [Big.M64_eq]; exact dif64_lt _ _ _) Big.Ok.nil), ?_⟩
  rw [Big.val_take_succ', Big.val_take_succ']
  exact Big.sub_step h1 h3 (by rw [Big.M64_eq]; exact dif_bor (by rw [← Big.M64_eq]; exact a) (by rw [← Big.M64_eq]; exact b) hn)
set_option maxRecDepth 100000 in
set_option maxHeartbeats 1000000 in
theorem sub_any (w : World) (v u : Value) (n' m' : Nat) (h : NatIn w v n') (k : NatIn w u m') (hn : n' < Big.M64 ^ Big.KX) :
    Calls Try.prog 84 #[v, u] w fun e w' => ∃ v', e = .returned v' ∧ NatIn w' v' (n' - m') ∧ Below w.heap.size w w' := by
  obtain ⟨l, hx, ol, nl, rfl⟩ := h
  obtain ⟨m, hy, om, nm, rfl⟩ := k
  have hl := len_of_lt nl hn
  rw [Big.KX_eq] at hl
  clear hn
  have CMP := Lib.hid (cmp_any w v u l m hx hy ol om nl nm)
  have HW1 := Lib.hid hx; have HW2 := Lib.hid hy
  have OL := Lib.hid ol; have OM := Lib.hid om
  have NL := Lib.hid nl; have NM := Lib.hid nm
  clear hx hy ol om nl nm
  obtain ⟨A, c, rfl, -, -, -⟩ := HW1.out
  obtain ⟨i0, hi, hz0, hz1, hz2⟩ := info_parts Try.infoU64
  have hmk := fun W => make_words (P := Try.prog) Try.underlying66 hi hz0 hz1 (by rw [hz2]; omega) .i64 .i64 l.length l.length (Nat.le_refl _) (by omega) W
  rcases Nat.lt_or_ge (Big.val Big.M64 l) (Big.val Big.M64 m) with hlt | hge
  · have hc := Big.cmpI_lt hlt
    rw [hc] at CMP
    rw [Nat.sub_eq_zero_of_le (Nat.le_of_lt hlt)]
    clear hmk hlt hc
    go_enter Try.func84, Try.ntmps84
    go_wp2_with (go_at_call 65; refine CMP.out.mono ?_; rintro e w1 ⟨rfl, hd⟩)
    go_ret
    exact ⟨_, rfl, NatIn.nil_ _, (by assumption : Drew w w1).below _⟩
  · have hc : 0 ≤ Big.cmpI (Big.val Big.M64 l) (Big.val Big.M64 m) := by unfold Big.cmpI; split <;> (try split) <;> omega
    generalize Big.cmpI (Big.val Big.M64 l) (Big.val Big.M64 m) = cc at CMP hc
    have hnlt : ¬ (cc < 0) := by omega
    have HGE := Lib.hid hge
    clear hge
    go_enter Try.func84, Try.ntmps84
    go_wp2_with (go_at_call 65; refine CMP.out.mono ?_; rintro e w1 ⟨rfl, hd⟩; have HD := Lib.hid hd; clear hd)
    have hs : w1.heap.size = w.heap.size := by rw [HD.out.heap]
    have HS := Lib.hid hs
    have hbel1 := HD.out.below w.heap.size
    have HB1 := Lib.hid (Blk.new w1 63 .u64 (List.replicate l.length 0))
    have HBel1 := Lib.hid (hbel1.alloc (by omega) (.cells (cellsOf .u64 (List.replicate l.length 0)) 63))
    clear hmk hs hbel1
    go_loopw [6, 17] (fun o i wr => ∃ (k n : Nat) (zs : List Nat), k ≤ l.length ∧ i = .int .i64 k ∧ o = .int .u64 n ∧ n ≤ 1 ∧
        Hid (zs.length = k ∧ Big.Ok Big.M64 zs ∧ Big.val Big.M64 zs + Big.val Big.M64 (m.take k) = Big.val Big.M64 (l.take k) + Big.M64 ^ k * n) ∧
        Hid (Blk wr w1.heap.size 63 .u64 (zs ++ (List.replicate l.length 0).drop k)) ∧ Hid (Below w.heap.size w wr))
      (fun _ i _ => l.length - (intOf i).toNat)
    case atStart => exact ⟨0, 0, [], by omega, rfl, rfl, by omega, Lib.hid ⟨rfl, Big.Ok.nil, by simp [Big.val]⟩, Lib.hid (by simpa using HB1.out), HBel1⟩
    case round =>
      obtain ⟨k, n, zs, hk, rfl, rfl, hn1, HZ, HB, HBel⟩ := hrel
      by_cases hlt : k < l.length
      · have hX := HW1.out
        obtain ⟨A', c', e, x1, x2, x3⟩ := hX
        cases e
        obtain ⟨b, o, rfl, hblt, hc, -⟩ := x3 (by omega)
        have hcell := (HBel.out.cell (p := ⟨b, o + k, none⟩) hblt).trans (hc k hlt)
        have hsub := fun W => sub64 (Big.nth l k) (Big.nth m k) n hn1 W
        have hst := HB.out.cell k (by have := HZ.out.1; simp; omega)
        have hfr := HB.out.frozen k
        have HY := Lib.hid (HW2.out.keep HBel.out)
        have HYd := Lib.hid (HY.out.drew ⟨1, rfl⟩ : Wd wr.drew .u64 _ m)
        have hz1 : (k : Int) < (l.length : Int) := by omega
        have hz0 : (0 : Int) ≤ (k : Int) := by omega
        have hbne : b ≠ w1.heap.size := by have := HS.out; omega
        clear hc x3
        go_wp2_with fail
        go_region_held3 (fun w' => w'.cell? ⟨b, o + k, none⟩ = some (.int .u64 ((Big.nth l k : Nat) : Int)))
          (first | exact hcell | exact (World.cell?_setCell_other _ _ _ _ (by intro e; injection e; omega)).trans hcell)
          (first | (go_at_call 87; refine (word_any _ _ m k HYd.out).mono ?_; rintro e w' ⟨rfl, rfl⟩) | fail)
        have R := sub_round OL.out OM.out hn1 HZ.out
        have R1 := Lib.hid R.2
        have R0 := R.1
        have HB' := Lib.hid (HB.out.set k (dif64 (Big.nth l k) (Big.nth m k) n))
        have hle : w.heap.size ≤ w1.heap.size := by have := HS.out; omega
        clear R
        go_wp2
        go_roundw
        case rel =>
          refine ⟨k + 1, _, _, by omega, by go_num, rfl, R0, R1, Lib.hid ?_, Lib.hid (((HBel.out).drew).setCell hle _)⟩
          have := HB'.out
          rw [set_drop zs (List.replicate l.length 0) k _ HZ.out.1 (by simp; omega)] at this
          exact this
        case measure => simp [intOf]; omega
      · have hkl : k = l.length := by omega
        subst hkl
        go_wp2_with fail
        refine (trim_any _ _ zs ?_).mono ?_
        · have h1 := HB.out
          rw [List.drop_eq_nil_of_le (by simp), List.append_nil] at h1
          have h2 := h1.wd0 l.length (by have := HZ.out.1; omega) (by omega)
          rw [HZ.out.1] at h2
          exact h2
        · rintro e w' ⟨v', rfl, hv', rfl⟩
          have HV := Lib.hid hv'
          clear hv'
          go_wp2
          go_ret
          have Z := HZ.out
          refine ⟨v', rfl, ⟨Big.strip zs, HV.out, Big.strip_ok Z.2.1, Big.strip_norm _, ?_⟩, HBel.out⟩
          have hml : m.length ≤ l.length := Big.length_le Big.M64_pos NM.out OL.out HGE.out
          have e1 := Z.2.2
          rw [Big.val_take_all l _ (Nat.le_refl _), Big.val_take_all m _ hml] at e1
          rw [Big.strip_val]
          have hz := Big.val_lt zs Z.2.1
          rw [Z.1] at hz
          have hge := HGE.out
          rcases Nat.eq_zero_or_pos n with h0 | h0
          · subst h0; omega
          · have : n = 1 := by omega
            subst this; omega
end Go.Proofs.Ythfopepnofjcjaa
