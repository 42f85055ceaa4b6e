/- Contracts, in this order: Fractions as the program holds them: a number of three parts · nat's contracts at numbers, under a bound behind a name. · Structs of three cells in memory. No program. · exact: sum, Of. · exact: sum. · exact: Add. · exact: Mul. · exact: Neg, Sign, IsWhole, Num, Den. · exact: Cmp. exact: Sub, Quo, Cmp. · exact: Size, Frac. · exact: Frac. · exact: mayBeBytes, Read. · exact: Read, of what may be. · ratio: size, answer, Of. · ratio: Of. · A block of known cells. · ratio: read, of one and of two. · ratio: reckon. · ratio: Sign, Cmp. · What is asked of the listed table, where the program prints  · strconv: FormatUint, AppendUint at base 10. -/
import Derived.Test.YtepnghhgmjobjaaGreatDoorGw01
import Derived.Test.YtepnghhgmjobjaaGreatDoorGw02
import Derived.Test.YtepnghhgmjobjaaGreatDoorGw07
import Derived.Deep.RegionHeld3
import Derived.Laws.IdiomStrings
import Derived.Lib.ItoaMem
import Derived.LoopN
import Derived.Test.YtepnghhgmjobjaaGreatDoorProg
import Derived.Test.YtepnghhgmjobjaaGreatDoorShelf
import Derived.Lib.AppendIntMem
import Derived.Lib.Walk
import Derived.WalkKit
import Derived.BigCall
import Derived.BigGuard
import Derived.Lib.Hide
namespace Go.Proofs.YtepnghhgmjobjaaGreatDoor
open Go.RowKit
def szN (n : Nat) : Nat := if n = 0 then 0 else Nat.log2 n / 8 + 1
theorem szN_is (n : Nat) : Big.IsSize n (szN n) := by
  unfold szN
  by_cases h : n = 0
  · subst h; exact Big.isSize_zero
  · rw [if_neg h]
    have h1 := Nat.log2_self_le h
    have h2 : n < 2 ^ (Nat.log2 n + 1) := Nat.lt_log2_self
    generalize Nat.log2 n = b at *
    refine ⟨?_, fun _ => ?_⟩
    · rw [Big.pow256]
      exact Nat.lt_of_lt_of_le h2 (Nat.pow_le_pow_right (by omega) (by omega))
    · rw [Big.pow256]
      exact Nat.le_trans (Nat.pow_le_pow_right (by omega) (by omega)) h1
theorem szN_of {n s : Nat} (h : Big.IsSize n s) : s = szN n := Big.isSize_unique h (szN_is n)
theorem szN_le {n k : Nat} (h : n < 256 ^ k) : szN n ≤ k := by
  rcases Nat.lt_or_ge k (szN n) with h1 | h1
  · have h2 := (szN_is n).2 (by omega)
    have h3 : 256 ^ k ≤ 256 ^ (szN n - 1) := Nat.pow_le_pow_right (by omega) (by omega)
    omega
  · exact h1
theorem lt_szN {n k : Nat} (h : szN n ≤ k) : n < 256 ^ k :=
  Nat.lt_of_lt_of_le (szN_is n).1 (Nat.pow_le_pow_right (by omega) h)
theorem szN_mono {m n : Nat} (h : m ≤ n) : szN m ≤ szN n := szN_le (Nat.lt_of_le_of_lt h (szN_is n).1)
theorem szN_pos {n : Nat} (h : n ≠ 0) : 0 < szN n := by unfold szN; rw [if_neg h]; omega
def btx (n : Nat) : List UInt8 := Big.btext n (szN n)
theorem btx_of {n s : Nat} (h : Big.IsSize n s) : Big.btext n s = btx n := by rw [szN_of h]; rfl
theorem btx_length (n : Nat) : (btx n).length = szN n := Big.btext_length _ _
theorem btx_num (n : Nat) : Big.bnum (btx n) = n := Big.btext_num _ _ (szN_is n).1
theorem btx_inj {m n : Nat} (h : btx m = btx n) : m = n := by rw [← btx_num m, h, btx_num]
def bst (n : Nat) : ByteArray := ⟨(btx n).toArray⟩
theorem bst_size (n : Nat) : (bst n).size = szN n := by
  show (btx n).toArray.size = _
  rw [List.size_toArray, btx_length]
theorem bst_list (n : Nat) : (bst n).data.toList = btx n := rfl
theorem bst_inj {m n : Nat} (h : bst m = bst n) : m = n := btx_inj (by rw [← bst_list, h, bst_list])
def Lead (l : List UInt8) : Prop := l.head? ≠ some 0
theorem btx_lead (n : Nat) : Lead (btx n) := by
  intro h
  have hs := szN_is n
  have hl := btx_length n
  have h1 : Big.bnum (btx n) = n := btx_num n
  cases hb : btx n with
  | nil => rw [hb] at h; simp at h
  | cons c l =>
    rw [hb] at h h1 hl
    have hc : c = 0 := by simpa using h
    subst hc
    have hlen : szN n = l.length + 1 := by rw [← hl]; rfl
    have h2 := hs.2 (by omega)
    rw [hlen, Nat.add_sub_cancel] at h2
    have h3 : Big.bnum (0 :: l) = Big.bnum l := by
      unfold Big.bnum Big.rev
      rw [List.reverse_cons, List.map_append, Big.val_append]
      simp [Big.val]
    have h4 := Big.val_lt _ (Big.rev_ok l)
    rw [Big.rev_length] at h4
    have h5 : Big.bnum l < 256 ^ l.length := h4
    rw [← h3, h1] at h5
    omega
def fracV (q : Rat) : Value := .agg #[.bool (Big.ng q), .string (bst (Big.nu q)), .string (bst (Big.de q))]
structure Fit (q : Rat) : Prop where
  nu : szN (Big.nu q) ≤ 512
  de : szN (Big.de q) ≤ 512
def NumIn (w : World) (v : Value) (q : Rat) : Prop := ∃ a b, v = .agg #[.bool (Big.ng q), a, b] ∧ NatIn w a (Big.nu q) ∧ NatIn w b (Big.de q)
theorem NumIn.keep {w w' : World} {v : Value} {q : Rat} (h : NumIn w v q) (hb : Below w.heap.size w w') : NumIn w' v q := by
  obtain ⟨a, b, e, h1, h2⟩ := h; exact ⟨a, b, e, h1.keep hb, h2.keep hb⟩
theorem NumIn.drew {w w' : World} {v : Value} {q : Rat} (h : NumIn w v q) (hb : Drew w w') : NumIn w' v q := h.keep (hb.below _)
structure Sz (k n : Nat) : Prop where
  out : n < Big.M64 ^ k
theorem M64_gt : 1 < Big.M64 := by unfold Big.M64; omega
theorem Sz.up {k j n : Nat} (h : Sz k n) (hk : k ≤ j) : Sz j n := ⟨Nat.lt_of_lt_of_le h.out (Nat.pow_le_pow_right Big.M64_pos hk)⟩
theorem Sz.le {k m n : Nat} (h : Sz k n) (hm : m ≤ n) : Sz k m := ⟨Nat.lt_of_le_of_lt hm h.out⟩
theorem Sz.mul {k j m n : Nat} (h : Sz k n) (i : Sz j m) : Sz (k + j) (n * m) := by
  refine ⟨?_⟩
  rw [Nat.pow_add]
  exact Nat.mul_lt_mul'' h.out i.out
theorem Sz.add {k j m n : Nat} (h : Sz k n) (i : Sz j m) : Sz (k + j + 1) (n + m) := by
  have a := (h.up (show k ≤ k + j by omega)).out
  have b := (i.up (show j ≤ k + j by omega)).out
  refine ⟨?_⟩
  rw [Nat.pow_succ]
  have h2 : Big.M64 ^ (k + j) * 2 ≤ Big.M64 ^ (k + j) * Big.M64 := Nat.mul_le_mul_left _ (by have := M64_gt; omega)
  generalize Big.M64 ^ (k + j) = P at *
  generalize P * Big.M64 = Q at *
  omega
theorem Sz.bytes8 {n k : Nat} (h : szN n ≤ 8 * k) : Sz k n := by
  refine ⟨?_⟩
  rw [Big.M64_pow, ← Nat.pow_mul]
  exact lt_szN h
theorem Sz.bytes {n : Nat} (h : szN n ≤ 512) : Sz 64 n := Sz.bytes8 h
theorem sz_one : Sz 1 1 := ⟨by rw [Nat.pow_one]; exact M64_gt⟩
theorem sz_zero : Sz 0 0 := ⟨by simp⟩
theorem sz_word {n : Nat} (h : n < Big.M64) : Sz 1 n := ⟨by rwa [Nat.pow_one]⟩
structure Sm (k : Nat) (q : Rat) : Prop where
  nu : Sz k (Big.nu q)
  de : Sz k (Big.de q)
theorem Fit.sm {q : Rat} (h : Fit q) : Sm 64 q := ⟨Sz.bytes h.nu, Sz.bytes h.de⟩
theorem Sm.up {k j : Nat} {q : Rat} (h : Sm k q) (hk : k ≤ j) : Sm j q := ⟨h.nu.up hk, h.de.up hk⟩
theorem Sm.neg {k : Nat} {q : Rat} (h : Sm k q) : Sm k (-q) := by
  obtain ⟨_, h2, h3⟩ := Big.neg_parts q
  exact ⟨by rw [h2]; exact h.nu, by rw [h3]; exact h.de⟩
theorem Sm.mul {k j : Nat} {q r : Rat} (h : Sm k q) (i : Sm j r) : Sm (k + j) (q * r) := by
  obtain ⟨_, h2, h3⟩ := Big.mul_parts q r
  exact ⟨by rw [h2]; exact (h.nu.le (Nat.div_le_self _ _)).mul (i.nu.le (Nat.div_le_self _ _)), by rw [h3]; exact (h.de.le (Nat.div_le_self _ _)).mul (i.de.le (Nat.div_le_self _ _))⟩
theorem Sm.inv {k : Nat} {q : Rat} (h : Sm k q) (h0 : Big.nu q ≠ 0) : Sm k q⁻¹ := by
  obtain ⟨_, h2, h3⟩ := Big.inv_parts q h0
  exact ⟨by rw [h2]; exact h.de, by rw [h3]; exact h.nu⟩
theorem abs_sum_le (b c : Bool) (n m : Nat) : (Big.sI b n + Big.sI c m).natAbs ≤ n + m := by
  have h1 := Big.sI_abs b n
  have h2 := Big.sI_abs c m
  omega
theorem Sm.add {k j : Nat} {q r : Rat} (h : Sm k q) (i : Sm j r) : Sm (2 * k + 2 * j + 1) (q + r) := by
  obtain ⟨_, h2, h3⟩ := Big.add_parts q r _ _ _ _ rfl rfl rfl rfl
  refine ⟨?_, ?_⟩
  · rw [h2]
    refine Sz.le ?_ (Nat.div_le_self _ _)
    refine Sz.le ?_ (abs_sum_le _ _ _ _)
    exact ((h.nu.mul (i.de.le (Nat.div_le_self _ _))).add (i.nu.mul (h.de.le (Nat.div_le_self _ _)))).up (by omega)
  · rw [h3]
    exact ((h.de.le (Nat.div_le_self _ _)).mul (i.de.le (Nat.div_le_self _ _))).up (by omega)
structure By (k : Nat) (q : Rat) : Prop where
  nu : Big.nu q < 256 ^ k
  de : Big.de q < 256 ^ k
theorem By.fit {k : Nat} {q : Rat} (h : By k q) (hk : k ≤ 512) : Fit q := ⟨Nat.le_trans (szN_le h.nu) hk, Nat.le_trans (szN_le h.de) hk⟩
theorem By.up {k j : Nat} {q : Rat} (h : By k q) (hk : k ≤ j) : By j q :=
  ⟨Nat.lt_of_lt_of_le h.nu (Nat.pow_le_pow_right (by omega) hk), Nat.lt_of_lt_of_le h.de (Nat.pow_le_pow_right (by omega) hk)⟩
theorem By.neg {k : Nat} {q : Rat} (h : By k q) : By k (-q) := by
  obtain ⟨_, h2, h3⟩ := Big.neg_parts q
  exact ⟨by rw [h2]; exact h.nu, by rw [h3]; exact h.de⟩
theorem By.mul {k j : Nat} {q r : Rat} (h : By k q) (i : By j r) : By (k + j) (q * r) := by
  obtain ⟨_, h2, h3⟩ := Big.mul_parts q r
  refine ⟨?_, ?_⟩
  · rw [h2, Nat.pow_add]
    exact Nat.mul_lt_mul'' (Nat.lt_of_le_of_lt (Nat.div_le_self _ _) h.nu) (Nat.lt_of_le_of_lt (Nat.div_le_self _ _) i.nu)
  · rw [h3, Nat.pow_add]
    exact Nat.mul_lt_mul'' (Nat.lt_of_le_of_lt (Nat.div_le_self _ _) h.de) (Nat.lt_of_le_of_lt (Nat.div_le_self _ _) i.de)
theorem By.inv {k : Nat} {q : Rat} (h : By k q) (h0 : Big.nu q ≠ 0) : By k q⁻¹ := by
  obtain ⟨_, h2, h3⟩ := Big.inv_parts q h0
  exact ⟨by rw [h2]; exact h.de, by rw [h3]; exact h.nu⟩
theorem By.add {k j : Nat} {q r : Rat} (h : By k q) (i : By j r) : By (k + j + 1) (q + r) := by
  obtain ⟨_, h2, h3⟩ := Big.add_parts q r _ _ _ _ rfl rfl rfl rfl
  have e : 256 ^ (k + j + 1) = 256 ^ k * 256 ^ j * 256 := by rw [Nat.pow_succ, Nat.pow_add]
  refine ⟨?_, ?_⟩
  · rw [h2, e]
    refine Nat.lt_of_le_of_lt (Nat.div_le_self _ _) (Nat.lt_of_le_of_lt (abs_sum_le _ _ _ _) ?_)
    have a1 := Nat.mul_lt_mul'' h.nu (Nat.lt_of_le_of_lt (Nat.div_le_self (Big.de r) (Nat.gcd (Big.de q) (Big.de r))) i.de)
    have a2 := Nat.mul_lt_mul'' i.nu (Nat.lt_of_le_of_lt (Nat.div_le_self (Big.de q) (Nat.gcd (Big.de q) (Big.de r))) h.de)
    rw [Nat.mul_comm (256 ^ j)] at a2
    generalize 256 ^ k * 256 ^ j = P at *
    omega
  · rw [h3, e]
    have a1 := Nat.mul_lt_mul'' (Nat.lt_of_le_of_lt (Nat.div_le_self (Big.de q) (Nat.gcd (Big.de q) (Big.de r))) h.de) (Nat.lt_of_le_of_lt (Nat.div_le_self (Big.de r) (Nat.gcd (Big.sI (Big.ng q) (Big.nu q * (Big.de r / (Big.de q).gcd (Big.de r))) + Big.sI (Big.ng r) (Big.nu r * (Big.de q / (Big.de q).gcd (Big.de r)))).natAbs ((Big.de q).gcd (Big.de r)))) i.de)
    generalize 256 ^ k * 256 ^ j = P at *
    omega
theorem By.sub {k j : Nat} {q r : Rat} (h : By k q) (i : By j r) : By (k + j + 1) (q - r) := by rw [Rat.sub_eq_add_neg]; exact h.add i.neg
theorem By.div {k j : Nat} {q r : Rat} (h : By k q) (i : By j r) (h0 : Big.nu r ≠ 0) : By (k + j) (q / r) := by rw [Rat.div_def]; exact h.mul (i.inv h0)
end Go.Proofs.YtepnghhgmjobjaaGreatDoor
namespace Go.Proofs.YtepnghhgmjobjaaGreatDoor
open Go.RowKit
theorem Sz.kx {k n : Nat} (h : Sz k n) (hk : k ≤ 100000000) : n < Big.M64 ^ Big.KX := (h.up (show k ≤ Big.KX by have := Big.KL_le; have := Big.KL_eq; omega)).out
theorem Sz.kl {k n : Nat} (h : Sz k n) (hk : k ≤ 100000000) : n < Big.M64 ^ Big.KL := (h.up (show k ≤ Big.KL by have := Big.KL_eq; omega)).out
theorem Sz.fits {k n : Nat} (h : Sz k n) (hk : k ≤ 100000000) : Fits n := ⟨h.kl hk⟩
def Nat1 (w : World) (r : Nat) (e : Ending) (w' : World) : Prop := ∃ v', e = .returned v' ∧ NatIn w' v' r ∧ Below w.heap.size w w'
theorem NatIn.len_zero {w : World} {A : Option Addr} {l c n : Nat} (h : NatIn w (.slice A l c) n) : l = 0 ↔ n = 0 := by
  obtain ⟨r, ⟨A', c', e, h1, h2, h3⟩, ok, nl, hv⟩ := h
  cases e
  constructor
  · intro h0
    rw [List.length_eq_zero_iff.1 h0] at hv
    rw [← hv]; rfl
  · intro h0
    rw [h0] at hv
    rw [Big.norm_zero Big.M64_pos r nl hv]; rfl
theorem NatIn.is_slice {w : World} {v : Value} {n : Nat} (h : NatIn w v n) : ∃ A l c, v = .slice A l c ∧ (l = 0 ↔ n = 0) := by
  have h' := h
  obtain ⟨r, ⟨A', c', rfl, h1, h2, h3⟩, ok, nl, hv⟩ := h
  exact ⟨_, _, _, rfl, h'.len_zero⟩
theorem one_iff {l : List Nat} (ok : Big.Ok Big.M64 l) (nl : Big.Norm l) : l = [1] ↔ Big.val Big.M64 l = 1 := by
  have n1 : Big.Norm [1] := by simp [Big.Norm]
  have o1 : Big.Ok Big.M64 [1] := Big.Ok.cons M64_gt Big.Ok.nil
  have v1 : Big.val Big.M64 [1] = 1 := by simp [Big.val]
  constructor
  · intro e; rw [e, v1]
  · intro e; exact Big.val_inj Big.M64_pos _ _ ok o1 nl n1 (by rw [v1]; exact e)
theorem isOne_num (w : World) (v : Value) (n : Nat) (h : NatIn w v n) :
    Calls Tryz.prog 165 #[v] w fun e w' => e = .returned (.bool (decide (n = 1))) ∧ w = w' := by
  obtain ⟨l, h1, ok, nl, rfl⟩ := h
  refine (isOne_any w v l h1).mono fun e w' ⟨he, hw⟩ => ⟨?_, hw⟩
  rw [he]
  exact ret_bool (by rw [decide_eq_decide]; exact one_iff ok nl)
theorem cmp_num (w : World) (v u : Value) (n m : Nat) (h : NatIn w v n) (k : NatIn w u m) :
    Calls Tryz.prog 129 #[v, u] w fun e w' => e = .returned (.int .i64 (Big.cmpI n m)) ∧ Drew w w' := by
  obtain ⟨l, h1, ok, nl, rfl⟩ := h
  obtain ⟨r, k1, kk, kl, rfl⟩ := k
  exact cmp_any w v u l r h1 k1 ok kk nl kl
theorem of_num (w : World) (n : Nat) (hn : n < Big.M64) : Calls Tryz.prog 130 #[.int .u64 (n : Int)] w (Nat1 w n) :=
  (natOf_any w n).mono fun _ _ ⟨v', h1, h2, h3⟩ => ⟨v', h1, ⟨_, h2, by
    split
    · exact Big.Ok.nil
    · exact Big.Ok.cons hn Big.Ok.nil, by
    split
    · exact Big.norm_nil
    · rename_i h0; simp [Big.Norm, h0], by
    split
    · rename_i h0; rw [h0]; rfl
    · simp [Big.val]⟩, h3⟩
theorem add_num (w : World) (v u : Value) (n m k j : Nat) (h : NatIn w v n) (i : NatIn w u m) (hn : Sz k n) (hm : Sz j m) (hk : k ≤ 100000000) (hj : j ≤ 100000000) :
    Calls Tryz.prog 200 #[v, u] w (Nat1 w (n + m)) := add_any w v u n m h i (hn.kx hk) (hm.kx hj)
theorem sub_num (w : World) (v u : Value) (n m k : Nat) (h : NatIn w v n) (i : NatIn w u m) (hn : Sz k n) (hk : k ≤ 100000000) :
    Calls Tryz.prog 201 #[v, u] w (Nat1 w (n - m)) := sub_any w v u n m h i (hn.kx hk)
theorem mul_num (w : World) (v u : Value) (n m k j : Nat) (h : NatIn w v n) (i : NatIn w u m) (hn : Sz k n) (hm : Sz j m) (hk : k ≤ 100000000) (hj : j ≤ 100000000) :
    Calls Tryz.prog 128 #[v, u] w (Nat1 w (n * m)) := mul_any w v u n m h i (hn.kl hk) (hm.kl hj)
theorem quo_num (w : World) (v u : Value) (n m k : Nat) (h : NatIn w v n) (i : NatIn w u m) (hn : Sz k n) (hk : k ≤ 100000000) :
    Calls Tryz.prog 147 #[v, u] w (Nat1 w (n / m)) := quo_any w v u n m h i (hn.kl hk)
theorem gcd_num (w : World) (v u : Value) (n m k j : Nat) (h : NatIn w v n) (i : NatIn w u m) (hn : Sz k n) (hm : Sz j m) (hk : k ≤ 100000000) (hj : j ≤ 100000000) :
    Calls Tryz.prog 146 #[v, u] w (Nat1 w (Nat.gcd n m)) := gcd_any w v u n m h i (hn.fits hk) (hm.fits hj)
theorem quoRem_num (w : World) (v u : Value) (n m k : Nat) (h : NatIn w v n) (i : NatIn w u m) (hn : Sz k n) (hk : k ≤ 100000000) :
    Calls Tryz.prog 178 #[v, u] w fun e w' => ∃ q r, e = .returned (.tuple #[q, r]) ∧ NatIn w' q (n / m) ∧ NatIn w' r (n % m) ∧ Below w.heap.size w w' :=
  quoRem_any w v u n m h i (hn.kl hk)
theorem size_num (w : World) (v : Value) (n k : Nat) (h : NatIn w v n) (hn : Sz k n) (hk : k ≤ 100000000) :
    Calls Tryz.prog 166 #[v] w fun e w' => e = .returned (.int .i64 ((szN n : Nat) : Int)) ∧ w = w' :=
  (size_any w v n h (hn.kx hk)).mono fun _ _ ⟨_, h1, h2, h3⟩ => ⟨by rw [h1, szN_of h2], h3⟩
theorem bytes_num (w : World) (v : Value) (n k : Nat) (h : NatIn w v n) (hn : Sz k n) (hk : k ≤ 100000000) :
    Calls Tryz.prog 104 #[v] w fun e w' => e = .returned (.string (bst n)) ∧ Below w.heap.size w w' :=
  (bytes_any w v n h (hn.kl hk)).mono fun _ _ ⟨_, h1, h2, h3⟩ => ⟨by rw [h1, btx_of h2]; rfl, h3⟩
end Go.Proofs.YtepnghhgmjobjaaGreatDoor
namespace Go.Proofs.YtepnghhgmjobjaaGreatDoor
open Go.RowKit
def At3 (w : World) (g : Nat) (T : TypeId) (a b c : Value) : Prop := w.heap[g]? = some (.cells #[a, b, c] T (0, 0))
section
variable {w w' : World} {g : Nat} {T : TypeId} {a b c : Value}
theorem At3.lt (h : At3 w g T a b c) : g < w.heap.size := by
  rcases Nat.lt_or_ge g w.heap.size with h1 | h1
  · exact h1
  · unfold At3 at h; rw [Array.getElem?_eq_none h1] at h; cases h
theorem At3.c0 (h : At3 w g T a b c) : w.cell? ⟨g, 0, none⟩ = some a := by rw [cell_of_row w g 0 _ _ (0, 0) h]; rfl
theorem At3.c1 (h : At3 w g T a b c) : w.cell? ⟨g, 1, none⟩ = some b := by rw [cell_of_row w g 1 _ _ (0, 0) h]; rfl
theorem At3.c2 (h : At3 w g T a b c) : w.cell? ⟨g, 2, none⟩ = some c := by rw [cell_of_row w g 2 _ _ (0, 0) h]; rfl
theorem At3.frozen (h : At3 w g T a b c) (i : Nat) : w.frozen? ⟨g, i, none⟩ = false := frozen_of_row w g i _ _ h
theorem At3.new (w : World) (T : TypeId) (a b c : Value) : At3 (w.alloc (.cells #[a, b, c] T)) w.heap.size T a b c := heap_alloc_new w _
theorem At3.alloc' (h : At3 w g T a b c) (o : Obj) : At3 (w.alloc o) g T a b c := (Below.heap_alloc w o g h.lt).trans h
theorem At3.drewN (h : At3 w g T a b c) (n : Nat) : At3 (w.drewN n) g T a b c := h
theorem At3.below (h : At3 w g T a b c) {B : Nat} (hb : Below B w w') (hg : g < B) : At3 w' g T a b c := (hb.block g hg).trans h
theorem At3.keep (h : At3 w g T a b c) (hb : Below w.heap.size w w') : At3 w' g T a b c := h.below hb h.lt
theorem At3.far (h : At3 w g T a b c) {p : Addr} (hp : g ≠ p.block) (u : Value) : At3 (w.setCell p u) g T a b c := (heap_setCell_other w p g u hp).trans h
theorem At3.put (h : At3 w g T a b c) (a' b' c' : Value) : At3 (((w.setCell ⟨g, 0, none⟩ a').setCell ⟨g, 1, none⟩ b').setCell ⟨g, 2, none⟩ c') g T a' b' c' := by
  have h1 := heap_setCell_same w g 0 _ _ a' h
  have h2 := heap_setCell_same _ g 1 _ _ b' h1
  have h3 := heap_setCell_same _ g 2 _ _ c' h2
  exact h3
theorem put_below {B : Nat} {w0 w : World} {g : Nat} (hb : Below B w0 w) (hg : B ≤ g) (a b c : Value) :
    Below B w0 (((w.setCell ⟨g, 0, none⟩ a).setCell ⟨g, 1, none⟩ b).setCell ⟨g, 2, none⟩ c) :=
  ((hb.setCell (p := ⟨g, 0, none⟩) hg a).setCell (p := ⟨g, 1, none⟩) hg b).setCell (p := ⟨g, 2, none⟩) hg c
end
theorem put_only (w : World) (g : Nat) (a b c : Value) : Only g w (((w.setCell ⟨g, 0, none⟩ a).setCell ⟨g, 1, none⟩ b).setCell ⟨g, 2, none⟩ c) :=
  (((Only.refl g w).setCell 0 a).setCell 1 b).setCell 2 c
theorem NatIn.only {w w' : World} {v : Value} {n g : Nat} (h : NatIn w v n) (hg : ∀ i x, w.cell? ⟨g, i, none⟩ ≠ some (.int .u64 x)) (ho : Only g w w') : NatIn w' v n := by
  obtain ⟨l, ⟨A, c, rfl, h1, h2, h3⟩, ok⟩ := h
  refine ⟨l, ⟨A, c, rfl, h1, h2, fun hl => ?_⟩, ok⟩
  obtain ⟨b, o, rfl, hlt, hc, hty⟩ := h3 hl
  have hne : b ≠ g := by
    intro e; subst e
    exact hg _ _ (hc 0 hl)
  exact ⟨b, o, rfl, Nat.lt_of_lt_of_le hlt ho.size, fun i hi => (ho.cell hlt hne).trans (hc i hi), hty.same (ho.block b hlt (fun e => hne (by cases e; rfl)))⟩
def NumRes (w : World) (g : Nat) (T : TypeId) : Prop := At3 w g T (.bool false) (.slice none 0 0) (.slice none 0 0)
theorem NumRes.no_int {w : World} {g : Nat} {T : TypeId} (h : NumRes w g T) (i : Nat) (x : Int) : w.cell? ⟨g, i, none⟩ ≠ some (.int .u64 x) := by
  unfold NumRes At3 at h
  rw [cell_of_row w g i _ _ (0, 0) h]
  match i with
  | 0 => simp
  | 1 => simp
  | 2 => simp
  | k + 3 => simp
theorem num_done {B : Nat} {w W : World} {g : Nat} {T : TypeId} {q : Rat} {a c : Value} {bb : Bool} (h : NumRes W g T) (hb : Below B w W) (hB : B ≤ g) (ha : NatIn W a (Big.nu q)) (hc : NatIn W c (Big.de q)) (hbb : bb = Big.ng q) :
    At3 (((W.setCell ⟨g, 0, none⟩ (.bool bb)).setCell ⟨g, 1, none⟩ a).setCell ⟨g, 2, none⟩ c) g T (.bool bb) a c ∧
      NumIn (((W.setCell ⟨g, 0, none⟩ (.bool bb)).setCell ⟨g, 1, none⟩ a).setCell ⟨g, 2, none⟩ c) (.agg #[.bool bb, a, c]) q ∧
      Below B w (((W.setCell ⟨g, 0, none⟩ (.bool bb)).setCell ⟨g, 1, none⟩ a).setCell ⟨g, 2, none⟩ c) := by
  subst hbb
  have ho := put_only W g (.bool (Big.ng q)) a c
  exact ⟨At3.put h _ _ _, ⟨a, c, rfl, ha.only h.no_int ho, hc.only h.no_int ho⟩, put_below hb hB _ _ _⟩
def Num1 (w : World) (q : Rat) (e : Ending) (w' : World) : Prop := ∃ v', e = .returned v' ∧ NumIn w' v' q ∧ Below w.heap.size w w'
theorem NumIn.is_agg {w : World} {v : Value} {q : Rat} (h : NumIn w v q) : ∃ A l c A2 l2 c2, v = .agg #[.bool (Big.ng q), .slice A l c, .slice A2 l2 c2] ∧ NatIn w (.slice A l c) (Big.nu q) ∧ NatIn w (.slice A2 l2 c2) (Big.de q) := by
  obtain ⟨a, b, rfl, h1, h2⟩ := h
  have k1 := h1; have k2 := h2
  obtain ⟨_, ⟨A, c, rfl, _⟩, _⟩ := h1
  obtain ⟨_, ⟨A2, c2, rfl, _⟩, _⟩ := h2
  exact ⟨_, _, _, _, _, _, rfl, k1, k2⟩
theorem below_alloc {B : Nat} {w0 w : World} (h : Below B w0 w) (hB : B ≤ w0.heap.size) (o : Obj) : Below B w0 (w.alloc o) := h.alloc (Nat.le_trans hB h.size) o
theorem below_drew {B : Nat} {a w : World} (h : Below B a w) : Below B a w.drew := ⟨h.os, h.tape, h.output, h.size, h.block⟩
theorem put_cell {w : World} {b i g : Nat} {x : Option Value} (h : w.cell? ⟨b, i, none⟩ = x) (hne : b ≠ g) (u v z : Value) : (((w.setCell ⟨g, 0, none⟩ u).setCell ⟨g, 1, none⟩ v).setCell ⟨g, 2, none⟩ z).cell? ⟨b, i, none⟩ = x := by
  rw [World.cell?_setCell_other _ _ _ _ (by simp), World.cell?_setCell_other _ _ _ _ (by simp), World.cell?_setCell_other _ _ _ _ (by simp)]; exact h
theorem alloc_size (w : World) (o : Obj) : (w.alloc o).heap.size = w.heap.size + 1 := by simp
theorem boxed2 (w : World) (T U : TypeId) (a b c x y z : Value) :
    At3 ((w.alloc (.cells #[a, b, c] T)).alloc (.cells #[x, y, z] U)) w.heap.size T a b c ∧
    At3 ((w.alloc (.cells #[a, b, c] T)).alloc (.cells #[x, y, z] U)) (w.heap.size + 1) U x y z ∧
    Below w.heap.size w ((w.alloc (.cells #[a, b, c] T)).alloc (.cells #[x, y, z] U)) := by
  refine ⟨(At3.new w T a b c).alloc' _, ?_, below_alloc (below_alloc (Below.refl _ _) (Nat.le_refl _) _) (Nat.le_refl _) _⟩
  have h := At3.new (w.alloc (.cells #[a, b, c] T)) U x y z
  rwa [alloc_size] at h
end Go.Proofs.YtepnghhgmjobjaaGreatDoor
namespace Go.Proofs.YtepnghhgmjobjaaGreatDoor
open Go.RowKit
set_option maxRecDepth 100000 in
set_option maxHeartbeats 2000000 in
theorem exOf_any (w : World) (b : Bool) (v u : Value) (n d k j : Nat) (h : NatIn w v n) (i : NatIn w u d) (hn : Sz k n) (hm : Sz j d) (hk : k ≤ 100000000) (hj : j ≤ 100000000) (hd : 1 ≤ d) :
    Calls Tryz.prog 90 #[.bool b, v, u] w (Num1 w (mkRat (Big.sI b n) d)) := by
  obtain ⟨p1, p2, p3⟩ := Big.of_parts b n d hd
  have HP := Lib.hid (And.intro p1 (And.intro p2 p3))
  have HV := Lib.hid h; have HU := Lib.hid i; have HN := Lib.hid hn; have HM := Lib.hid hm
  obtain ⟨A, l, c, rfl, hl⟩ := h.is_slice
  obtain ⟨A2, l2, c2, rfl, hl2⟩ := i.is_slice
  have t1 : ((l2 : Int) == 0) = false := beq_eq_false_iff_ne.2 (by omega)
  clear p1 p2 p3 h i hn hm hl hl2 hd
  generalize mkRat (Big.sI b n) d = q at *
  go_enter Tryz.func90, Tryz.ntmps90
  go_wp2_with fail
  have HB0 := Lib.hid ((Below.refl w.heap.size w).alloc (Nat.le_refl _) (.cells #[.bool false, .slice none 0 0, .slice none 0 0] 82))
  have HR := Lib.hid (At3.new w 82 (.bool false) (.slice none 0 0) (.slice none 0 0))
  generalize w.alloc (.cells #[.bool false, .slice none 0 0, .slice none 0 0] 82) = w0 at *
  refine (gcd_num w0 _ _ n d k j (HV.out.keep HB0.out) (HU.out.keep HB0.out) HN.out HM.out hk hj).mono ?_
  rintro e w1 ⟨v1, rfl, hv1, hb1⟩
  have HV1 := Lib.hid hv1; have HB1 := Lib.hid (HB0.out.trans (hb1.mono HB0.out.size)); have HR1 := Lib.hid (HR.out.keep hb1)
  clear hv1 hb1 HR
  go_wp2_with fail
  refine (quo_num w1 _ _ n _ k (HV.out.keep HB1.out) HV1.out HN.out hk).mono ?_
  rintro e w2 ⟨v2, rfl, hv2, hb2⟩
  have HV2 := Lib.hid hv2
  obtain ⟨A3, l3, c3, rfl, hl3⟩ := hv2.is_slice
  have HV1' := Lib.hid (HV1.out.keep hb2)
  have HB2 := Lib.hid (HB1.out.trans (hb2.mono HB1.out.size)); have HR2 := Lib.hid (HR1.out.keep hb2)
  have HL3 := Lib.hid hl3
  clear hv2 hb2 HR1 hl3
  have g0 : n / Nat.gcd n d = 0 ↔ l3 = 0 := HL3.out.symm
  have CQ := Lib.hid (quo_num w2 _ _ d _ j (HU.out.keep HB2.out) HV1'.out HM.out hj)
  have HBR := Lib.hid (show NumRes w2 w.heap.size 82 from HR2.out)
  have f0 := fun W (hW : Below w2.heap.size w2 W) => (HR2.out.keep hW).frozen 0
  have done : ∀ (bb : Bool) (W : World) (v4 : Value), bb = (b && decide (0 < n / Nat.gcd n d)) → Below w2.heap.size w2 W → NatIn W v4 (d / Nat.gcd n d) →
      At3 (((W.setCell ⟨w.heap.size, 0, none⟩ (.bool bb)).setCell ⟨w.heap.size, 1, none⟩ (.slice A3 l3 c3)).setCell ⟨w.heap.size, 2, none⟩ v4) w.heap.size 82 (.bool bb) (.slice A3 l3 c3) v4 ∧
      Num1 w q (.returned (.agg #[.bool bb, .slice A3 l3 c3, v4])) (((W.setCell ⟨w.heap.size, 0, none⟩ (.bool bb)).setCell ⟨w.heap.size, 1, none⟩ (.slice A3 l3 c3)).setCell ⟨w.heap.size, 2, none⟩ v4) := by
    intro bb W v4 e hW hv4
    have h1 := HV2.out.keep hW
    rw [← HP.out.2.1] at h1
    rw [← HP.out.2.2] at hv4
    have D := num_done (show NumRes W w.heap.size _ from HR2.out.keep hW) (HB2.out.trans (hW.mono HB2.out.size)) (Nat.le_refl _) h1 hv4 (e.trans HP.out.1.symm)
    exact ⟨D.1, _, rfl, D.2⟩
  have DONE := Lib.hid done
  clear done f0
  have t2 : 0 < n / Nat.gcd n d ↔ 0 < l3 := by rw [Nat.pos_iff_ne_zero, Nat.pos_iff_ne_zero, Ne, Ne, g0]
  have t3 : (b && decide (0 < n / Nat.gcd n d)) = (b && decide (0 < l3)) := by rw [decide_eq_decide.2 t2]
  rw [t3] at DONE
  clear g0 t2 t3 HP HL3 HV HU HN HM HV1' HV2 HV1
  rcases Nat.eq_zero_or_pos l3 with hl0 | hl0
  · subst hl0
    rw [decide_eq_false (by omega)] at DONE
    cases b
    all_goals
      go_wp2_with fail
      refine CQ.out.mono ?_
      rintro e w3 ⟨v4, rfl, hv4, hb3⟩
      obtain ⟨A4, l4, c4, rfl, hl4⟩ := hv4.is_slice
      obtain ⟨D1, D2⟩ := DONE.out false w3 _ rfl hb3 hv4
      have R3 := HR2.out.keep hb3
      have k0 := R3.c0; have k1 := R3.c1; have k2 := R3.c2; have f0 := R3.frozen 0; have f1 := R3.frozen 1; have f2 := R3.frozen 2
      have HD1 := Lib.hid D1; have HD2 := Lib.hid D2
      clear D1 D2 R3 hv4 hb3 hl4
      go_wp2_with fail
      generalize (((w3.setCell ⟨w.heap.size, 0, none⟩ (.bool false)).setCell ⟨w.heap.size, 1, none⟩ (.slice A3 0 c3)).setCell ⟨w.heap.size, 2, none⟩ (.slice A4 l4 c4)) = wz at HD1 HD2 ⊢
      have r0 := HD1.out.c0; have r1 := HD1.out.c1; have r2 := HD1.out.c2
      exact bodyPost_ret (v := .agg #[.bool false, .slice A3 0 c3, .slice A4 l4 c4]) (by simp [results, Tryz.results90, go_sem, r0, r1, r2]) rfl HD2.out
  · have t4 : ((l3 : Int) > 0) := by omega
    rw [decide_eq_true (by omega)] at DONE
    cases b
    · go_wp2_with fail
      refine CQ.out.mono ?_
      rintro e w3 ⟨v4, rfl, hv4, hb3⟩
      obtain ⟨A4, l4, c4, rfl, hl4⟩ := hv4.is_slice
      obtain ⟨D1, D2⟩ := DONE.out false w3 _ rfl hb3 hv4
      have R3 := HR2.out.keep hb3
      have k0 := R3.c0; have k1 := R3.c1; have k2 := R3.c2; have f0 := R3.frozen 0; have f1 := R3.frozen 1; have f2 := R3.frozen 2
      have HD1 := Lib.hid D1; have HD2 := Lib.hid D2
      clear D1 D2 R3 hv4 hb3 hl4
      go_wp2_with fail
      generalize (((w3.setCell ⟨w.heap.size, 0, none⟩ (.bool false)).setCell ⟨w.heap.size, 1, none⟩ (.slice A3 l3 c3)).setCell ⟨w.heap.size, 2, none⟩ (.slice A4 l4 c4)) = wz at HD1 HD2 ⊢
      have r0 := HD1.out.c0; have r1 := HD1.out.c1; have r2 := HD1.out.c2
      exact bodyPost_ret (v := .agg #[.bool false, .slice A3 l3 c3, .slice A4 l4 c4]) (by simp [results, Tryz.results90, go_sem, r0, r1, r2]) rfl HD2.out
    · go_wp2_with fail
      refine CQ.out.mono ?_
      rintro e w3 ⟨v4, rfl, hv4, hb3⟩
      obtain ⟨A4, l4, c4, rfl, hl4⟩ := hv4.is_slice
      obtain ⟨D1, D2⟩ := DONE.out true w3 _ rfl hb3 hv4
      have R3 := HR2.out.keep hb3
      have k0 := R3.c0; have k1 := R3.c1; have k2 := R3.c2; have f0 := R3.frozen 0; have f1 := R3.frozen 1; have f2 := R3.frozen 2
      have HD1 := Lib.hid D1; have HD2 := Lib.hid D2
      clear D1 D2 R3 hv4 hb3 hl4
      go_wp2_with fail
      generalize (((w3.setCell ⟨w.heap.size, 0, none⟩ (.bool true)).setCell ⟨w.heap.size, 1, none⟩ (.slice A3 l3 c3)).setCell ⟨w.heap.size, 2, none⟩ (.slice A4 l4 c4)) = wz at HD1 HD2 ⊢
      have r0 := HD1.out.c0; have r1 := HD1.out.c1; have r2 := HD1.out.c2
      exact bodyPost_ret (v := .agg #[.bool true, .slice A3 l3 c3, .slice A4 l4 c4]) (by simp [results, Tryz.results90, go_sem, r0, r1, r2]) rfl HD2.out
end Go.Proofs.YtepnghhgmjobjaaGreatDoor
namespace Go.Proofs.YtepnghhgmjobjaaGreatDoor
open Go.RowKit
end Go.Proofs.YtepnghhgmjobjaaGreatDoor
namespace Go.Proofs.YtepnghhgmjobjaaGreatDoor
open Go.RowKit
end Go.Proofs.YtepnghhgmjobjaaGreatDoor
namespace Go.Proofs.YtepnghhgmjobjaaGreatDoor
open Go.RowKit
end Go.Proofs.YtepnghhgmjobjaaGreatDoor
namespace Go.Proofs.YtepnghhgmjobjaaGreatDoor
open Go.RowKit
theorem box1_below (w : World) (o : Obj) : Below w.heap.size w (w.alloc o) := below_alloc (Below.refl _ _) (Nat.le_refl _) o
end Go.Proofs.YtepnghhgmjobjaaGreatDoor
namespace Go.Proofs.YtepnghhgmjobjaaGreatDoor
open Go.RowKit
end Go.Proofs.YtepnghhgmjobjaaGreatDoor
namespace Go.Proofs.YtepnghhgmjobjaaGreatDoor
open Go.RowKit
theorem sizeT {P : Program} {f : FuncId} {args : Array Value} {b W : World} {v : Value} (h : Below b.heap.size b W) (c : Calls P f args W fun e w' => e = .returned v ∧ W = w') :
    Calls P f args W fun e w' => e = .returned v ∧ Below b.heap.size b w' :=
  c.mono fun _ _ ⟨h1, h2⟩ => ⟨h1, h2 ▸ h⟩
set_option maxRecDepth 100000 in
set_option maxHeartbeats 4000000 in
theorem exSize_any (w : World) (vx : Value) (q : Rat) (k : Nat) (hx : NumIn w vx q) (sx : Sm k q) (hk : k ≤ 10000000) :
    Calls Tryz.prog 98 #[vx] w fun e w' => e = .returned (.int .i64 ((max (szN (Big.nu q)) (szN (Big.de q)) : Nat) : Int)) ∧ Below w.heap.size w w' := by
  obtain ⟨A, l, c, A2, l2, c2, rfl, hx1, hx2⟩ := hx.is_agg
  have HX := Lib.hid (And.intro hx1 hx2)
  have SX := Lib.hid sx
  have HB0 := Lib.hid (box1_below w (.cells #[.bool (Big.ng q), .slice A l c, .slice A2 l2 c2] 82))
  have HX0 := Lib.hid (At3.new w 82 (.bool (Big.ng q)) (.slice A l c) (.slice A2 l2 c2))
  clear hx hx1 hx2 sx
  generalize Big.ng q = nq at *
  go_enter Tryz.func98, Tryz.ntmps98
  go_wp2_with fail
  generalize w.alloc (.cells #[.bool nq, .slice A l c, .slice A2 l2 c2] 82) = w0 at *
  have KX := Lib.hid (fun W (h : Below w0.heap.size w0 W) => And.intro (HX0.out.keep h).c1 (HX0.out.keep h).c2)
  have C1 := Lib.hid (fun W (h : Below w0.heap.size w0 W) => sizeT h (size_num W _ _ k ((HX.out.1.keep HB0.out).keep h) SX.out.nu (by omega)))
  have C2 := Lib.hid (fun W (h : Below w0.heap.size w0 W) => sizeT h (size_num W _ _ k ((HX.out.2.keep HB0.out).keep h) SX.out.de (by omega)))
  go_region_held3 (fun w' => w'.cell? ⟨w.heap.size, 1, none⟩ = some (.slice A l c) ∧ w'.cell? ⟨w.heap.size, 2, none⟩ = some (.slice A2 l2 c2))
    (exact KX.out _ (by first | assumption | exact Below.refl _ _ | exact below_drew (Below.refl _ _) | exact below_drew (by assumption)))
    (first
      | (go_at_call 166; (with_reducible refine (C1.out _ (by first | assumption | exact Below.refl _ _ | exact below_drew (Below.refl _ _) | exact below_drew (by assumption))).mono ?_); rintro e w2 ⟨rfl, hw2⟩)
      | (go_at_call 166; (with_reducible refine (C2.out _ (by first | assumption | exact Below.refl _ _ | exact below_drew (Below.refl _ _) | exact below_drew (by assumption))).mono ?_); rintro e w3 ⟨rfl, hw3⟩)
      | fail)
  have HB3 := Lib.hid (HB0.out.trans (hw3.mono HB0.out.size))
  go_wp2_with fail
  go_ret
  refine ⟨?_, HB3.out⟩
  apply ret_int
  generalize szN (Big.nu q) = s1; generalize szN (Big.de q) = s2; omega
end Go.Proofs.YtepnghhgmjobjaaGreatDoor
namespace Go.Proofs.YtepnghhgmjobjaaGreatDoor
open Go.RowKit
def Frac1 (w : World) (v : Value) (b : Bool) (e : Ending) (w' : World) : Prop := e = .returned (.tuple #[v, .bool b]) ∧ Below w.heap.size w w'
theorem bytesT {P : Program} {f : FuncId} {args : Array Value} {b W : World} {v : Value} (h : Below b.heap.size b W) (c : Calls P f args W fun e w' => e = .returned v ∧ Below W.heap.size W w') :
    Calls P f args W fun e w' => e = .returned v ∧ Below b.heap.size b w' :=
  c.mono fun _ _ ⟨h1, h2⟩ => ⟨h1, h.trans (h2.mono h.size)⟩
set_option maxRecDepth 100000 in
set_option maxHeartbeats 4000000 in
theorem exFrac_fit (w : World) (vx : Value) (q : Rat) (k : Nat) (hx : NumIn w vx q) (sx : Sm k q) (hk : k ≤ 10000000) (hf : Fit q) :
    Calls Tryz.prog 51 #[vx] w (Frac1 w (fracV q) true) := by
  have e1 : szN (Big.nu q) ≤ 512 := hf.nu
  have e2 : szN (Big.de q) ≤ 512 := hf.de
  have HF := Lib.hid (show fracV q = .agg #[.bool (Big.ng q), .string (bst (Big.nu q)), .string (bst (Big.de q))] from rfl)
  clear hf
  generalize fracV q = fv at *
  have SX := Lib.hid sx
  obtain ⟨A, l, c, A2, l2, c2, rfl, hx1, hx2⟩ := hx.is_agg
  have HX := Lib.hid (And.intro hx1 hx2)
  have HQ := Lib.hid hx
  obtain ⟨X0, R0, B0⟩ := boxed2 w 82 24 (.bool (Big.ng q)) (.slice A l c) (.slice A2 l2 c2) (.bool false) (.string ⟨#[]⟩) (.string ⟨#[]⟩)
  have HX0 := Lib.hid X0; have HR0 := Lib.hid R0; have HB0 := Lib.hid B0
  clear hx hx1 hx2 sx X0 R0 B0
  generalize Big.ng q = nq at *
  go_enter Tryz.func51, Tryz.ntmps51
  go_wp2_with fail
  generalize (w.alloc (.cells #[.bool nq, .slice A l c, .slice A2 l2 c2] 82)).alloc (.cells #[.bool false, .string ⟨#[]⟩, .string ⟨#[]⟩] 24) = w0 at *
  have CS := Lib.hid (exSize_any w0 _ q k (HQ.out.keep HB0.out) SX.out hk)
  have hm : ¬ (max (szN (Big.nu q)) (szN (Big.de q)) : Nat) > 512 := by omega
  generalize max (szN (Big.nu q)) (szN (Big.de q)) = mx at *
  have hm' : ¬ ((mx : Int) > 512) := by omega
  clear hm e1 e2
  refine CS.out.mono ?_
  rintro e w1 ⟨rfl, hw1⟩
  have HB1 := Lib.hid (HB0.out.trans (hw1.mono HB0.out.size))
  have HX1 := Lib.hid (HX0.out.keep hw1); have HR1 := Lib.hid (HR0.out.keep hw1)
  clear hw1 HX0 HR0 CS
  have KX := Lib.hid (fun W (h : Below w1.heap.size w1 W) => And.intro (HX1.out.keep h).c0 (And.intro (HX1.out.keep h).c1 (HX1.out.keep h).c2))
  have KP := Lib.hid (fun W x y z (h : Below w1.heap.size w1 W) => And.intro (put_cell (KX.out W h).1 (show w.heap.size ≠ w.heap.size + 1 by omega) x y z) (And.intro (put_cell (KX.out W h).2.1 (show w.heap.size ≠ w.heap.size + 1 by omega) x y z) (put_cell (KX.out W h).2.2 (show w.heap.size ≠ w.heap.size + 1 by omega) x y z)))
  have C1 := Lib.hid (fun W (h : Below w1.heap.size w1 W) => bytesT h (bytes_num W _ _ k ((HX.out.1.keep HB1.out).keep h) SX.out.nu (by omega)))
  have C2 := Lib.hid (fun W (h : Below w1.heap.size w1 W) => bytesT h (bytes_num W _ _ k ((HX.out.2.keep HB1.out).keep h) SX.out.de (by omega)))
  have RES := Lib.hid (fun W (h : Below w1.heap.size w1 W) => HR1.out.keep h)
  go_wp2_with fail
  go_region_held3 (fun w' => w'.cell? ⟨w.heap.size, 0, none⟩ = some (.bool nq) ∧ w'.cell? ⟨w.heap.size, 1, none⟩ = some (.slice A l c) ∧ w'.cell? ⟨w.heap.size, 2, none⟩ = some (.slice A2 l2 c2))
    (first | exact KX.out _ (by first | assumption | exact Below.refl _ _ | exact below_drew (Below.refl _ _) | exact below_drew (by assumption)) | exact KP.out _ _ _ _ (by assumption))
    (first
      | (go_at_call 104; (with_reducible refine (C1.out _ (by first | assumption | exact Below.refl _ _ | exact below_drew (Below.refl _ _) | exact below_drew (by assumption))).mono ?_); rintro e w2 ⟨rfl, hw2⟩)
      | (go_at_call 104; (with_reducible refine (C2.out _ (by first | assumption | exact Below.refl _ _ | exact below_drew (Below.refl _ _) | exact below_drew (by assumption))).mono ?_); rintro e w3 ⟨rfl, hw3⟩; have RR := RES.out _ hw3; have k0 := RR.c0; have k1 := RR.c1; have k2 := RR.c2; have f0 := RR.frozen 0; have f1 := RR.frozen 1; have f2 := RR.frozen 2)
      | fail)
  have D1 := At3.put RR (.bool nq) (.string (bst (Big.nu q))) (.string (bst (Big.de q)))
  have D3 := put_below (HB1.out.trans (hw3.mono HB1.out.size)) (show w.heap.size ≤ w.heap.size + 1 by omega) (.bool nq) (.string (bst (Big.nu q))) (.string (bst (Big.de q)))
  have HD1 := Lib.hid D1; have HD3 := Lib.hid D3
  clear D1 D3 k0 k1 k2 f0 f1 f2 RR
  generalize (((w3.setCell ⟨w.heap.size + 1, 0, none⟩ (.bool nq)).setCell ⟨w.heap.size + 1, 1, none⟩ (.string (bst (Big.nu q)))).setCell ⟨w.heap.size + 1, 2, none⟩ (.string (bst (Big.de q)))) = wz at HD1 HD3 ⊢
  have r0 := HD1.out.c0; have r1 := HD1.out.c1; have r2 := HD1.out.c2
  go_wp2_with fail
  exact bodyPost_ret (v := .tuple #[.agg #[.bool nq, .string (bst (Big.nu q)), .string (bst (Big.de q))], .bool true]) (by simp [results, Tryz.results51, go_sem, r0, r1, r2]) rfl ⟨by rw [HF.out], HD3.out⟩
end Go.Proofs.YtepnghhgmjobjaaGreatDoor
namespace Go.Proofs.YtepnghhgmjobjaaGreatDoor
open Go.RowKit
def mayB (s : ByteArray) : Bool := decide (s.size ≤ 512) && !(s.data.toList.head? == some 0)
theorem empty_of {s : ByteArray} (h : s.size = 0) : s = ⟨#[]⟩ := by
  have h2 : s.data = #[] := Array.eq_empty_of_size_eq_zero h
  cases s; simp at h2; rw [h2]
theorem size_toList (s : ByteArray) : s.data.toList.length = s.size := by
  show s.data.toList.length = s.data.size; simp
theorem head_get {s : ByteArray} (h : 0 < s.size) : s.data.toList.head? = some s[0] := by
  have hl : 0 < s.data.toList.length := by rw [size_toList]; exact h
  rw [List.head?_eq_getElem?, List.getElem?_eq_getElem hl]; rfl
end Go.Proofs.YtepnghhgmjobjaaGreatDoor
namespace Go.Proofs.YtepnghhgmjobjaaGreatDoor
open Go.RowKit
end Go.Proofs.YtepnghhgmjobjaaGreatDoor
namespace Go.Proofs.YtepnghhgmjobjaaGreatDoor
open Go.RowKit
set_option maxRecDepth 100000 in
set_option maxHeartbeats 4000000 in
theorem rasize_any (w : World) (n : Int) (h0 : -9223372036854775808 ≤ n) (h1 : n ≤ 9223372036854775807) :
    Calls Tryz.prog 91 #[.int .i64 n] w (Nat1 w n.natAbs) := by
  have hM : n.natAbs < Big.M64 := by unfold Big.M64; omega
  have C := Lib.hid (of_num w n.natAbs hM)
  clear hM
  by_cases hn : n < 0
  · obtain ⟨u, rfl⟩ : ∃ u : Nat, n = -(u : Int) := ⟨n.natAbs, by omega⟩
    have e : (-(u : Int)).natAbs = u := by omega
    rw [e] at C ⊢
    have hwr : IntKind.u64.wrap (-IntKind.u64.wrap (-(u : Int))) = (u : Int) := by rw [IntKind.wrap_u64, IntKind.wrap_u64]; omega
    clear e
    go_enter Tryz.func91, Tryz.ntmps91
    go_wp2_with fail
    refine C.out.mono ?_
    rintro e w' ⟨v', rfl, hv, hb⟩
    go_wp2_with fail
    go_ret
    exact ⟨_, rfl, hv, hb⟩
  · obtain ⟨u, rfl⟩ : ∃ u : Nat, n = (u : Int) := ⟨n.natAbs, by omega⟩
    have e : ((u : Int)).natAbs = u := by omega
    rw [e] at C ⊢
    clear e
    go_enter Tryz.func91, Tryz.ntmps91
    go_wp2_with fail
    refine C.out.mono ?_
    rintro e w' ⟨v', rfl, hv, hb⟩
    go_wp2_with fail
    go_ret
    exact ⟨_, rfl, hv, hb⟩
def Ret2 (w : World) (v : Value) (n : Int) (e : Ending) (w' : World) : Prop := e = .returned (.tuple #[v, .int .i64 n]) ∧ Below w.heap.size w w'
theorem At3.both {w w' : World} {g : Nat} {T : TypeId} {a b c : Value} (h : At3 w g T a b c) (hb : Below w.heap.size w w') (B : Nat) (w0 : World) (hB : Below B w0 w) : At3 w' g T a b c ∧ Below B w0 w' → At3 w' g T a b c := fun _ => h.keep hb
set_option maxRecDepth 100000 in
set_option maxHeartbeats 4000000 in
theorem answer_fit (w : World) (vx : Value) (q : Rat) (k : Nat) (hx : NumIn w vx q) (sx : Sm k q) (hk : k ≤ 10000000) (hf : Fit q) :
    Calls Tryz.prog 89 #[vx] w (Ret2 w (fracV q) 0) := by
  have SX := Lib.hid sx; have HF := Lib.hid hf
  obtain ⟨A, l, c, A2, l2, c2, rfl, hx1, hx2⟩ := hx.is_agg
  have HX := Lib.hid (And.intro hx1 hx2)
  have HQ := Lib.hid hx
  obtain ⟨X0, R0, B0⟩ := boxed2 w 82 24 (.bool (Big.ng q)) (.slice A l c) (.slice A2 l2 c2) (.bool false) (.string ⟨#[]⟩) (.string ⟨#[]⟩)
  have HR0 := Lib.hid R0; have HB0 := Lib.hid B0
  have x0 := X0.c0; have x1 := X0.c1; have x2 := X0.c2
  have C := Lib.hid (fun W (h : Below w.heap.size w W) => exFrac_fit W _ q k (HQ.out.keep h) SX.out hk HF.out)
  clear hx hx1 hx2 sx X0 R0 B0 hf
  go_enter Tryz.func89, Tryz.ntmps89
  go_wp2_with fail
  refine (C.out _ HB0.out).mono ?_
  generalize (w.alloc (.cells #[.bool (Big.ng q), .slice A l c, .slice A2 l2 c2] 82)).alloc (.cells #[.bool false, .string ⟨#[]⟩, .string ⟨#[]⟩] 24) = w0 at *
  rintro e w1 ⟨rfl, hw1⟩
  unfold fracV
  have HB1 := Lib.hid (HB0.out.trans (hw1.mono HB0.out.size))
  have R1 := HR0.out.keep hw1
  have hlt := R1.lt
  have HD := Lib.hid ((At3.put R1 (.bool (Big.ng q)) (.string (bst (Big.nu q))) (.string (bst (Big.de q)))).alloc' (.cells #[.bool (Big.ng q), .string (bst (Big.nu q)), .string (bst (Big.de q))] 24))
  have HE := Lib.hid (below_alloc (put_below HB1.out (show w.heap.size ≤ w.heap.size + 1 by omega) (.bool (Big.ng q)) (.string (bst (Big.nu q))) (.string (bst (Big.de q)))) (Nat.le_refl _) (.cells #[.bool (Big.ng q), .string (bst (Big.nu q)), .string (bst (Big.de q))] 24))
  have k0 := R1.c0; have k1 := R1.c1; have k2 := R1.c2; have f0 := R1.frozen 0; have f1 := R1.frozen 1; have f2 := R1.frozen 2
  clear R1 hw1 x0 x1 x2 HR0 C
  go_wp2_with fail
  generalize ((((w1.setCell ⟨w.heap.size + 1, 0, none⟩ (.bool (Big.ng q))).setCell ⟨w.heap.size + 1, 1, none⟩ (.string (bst (Big.nu q)))).setCell ⟨w.heap.size + 1, 2, none⟩ (.string (bst (Big.de q)))).alloc (.cells #[.bool (Big.ng q), .string (bst (Big.nu q)), .string (bst (Big.de q))] 24)) = wz at HD HE ⊢
  clear k0 k1 k2 f0 f1 f2
  have r0 := HD.out.c0; have r1 := HD.out.c1; have r2 := HD.out.c2
  exact bodyPost_ret (v := .tuple #[.agg #[.bool (Big.ng q), .string (bst (Big.nu q)), .string (bst (Big.de q))], .int .i64 0]) (by simp [results, Tryz.results89, go_sem, r0, r1, r2]) rfl ⟨rfl, HE.out⟩
end Go.Proofs.YtepnghhgmjobjaaGreatDoor
namespace Go.Proofs.YtepnghhgmjobjaaGreatDoor
open Go.RowKit
def ofQ (n d : Int) : Rat := mkRat (Big.sI (decide (n < 0) != decide (d < 0)) n.natAbs) d.natAbs
theorem ofQ_by {n d : Int} {k : Nat} (hn : n.natAbs < 256 ^ k) (hd : d.natAbs < 256 ^ k) (h0 : d ≠ 0) : By k (ofQ n d) := by
  obtain ⟨_, p2, p3⟩ := Big.of_parts (decide (n < 0) != decide (d < 0)) n.natAbs d.natAbs (by omega)
  unfold ofQ
  exact ⟨by rw [p2]; exact Nat.lt_of_le_of_lt (Nat.div_le_self _ _) hn, by rw [p3]; exact Nat.lt_of_le_of_lt (Nat.div_le_self _ _) hd⟩
set_option maxRecDepth 100000 in
set_option maxHeartbeats 4000000 in
theorem raOf_any (w : World) (n d : Int) (h0 : -9223372036854775808 ≤ n) (h1 : n ≤ 9223372036854775807) (h2 : -9223372036854775808 ≤ d) (h3 : d ≤ 9223372036854775807) (hd : d ≠ 0) :
    Calls Tryz.prog 38 #[.int .i64 n, .int .i64 d] w (Ret2 w (fracV (ofQ n d)) 0) := by
  have hb : By 8 (ofQ n d) := ofQ_by (by omega) (by omega) hd
  have HF := Lib.hid (hb.fit (by omega))
  have C1 := Lib.hid (fun W => rasize_any W n h0 h1)
  have C2 := Lib.hid (fun W => rasize_any W d h2 h3)
  have z1 : Sz 1 n.natAbs := sz_word (by unfold Big.M64; omega)
  have z2 : Sz 1 d.natAbs := sz_word (by unfold Big.M64; omega)
  have C3 := Lib.hid (fun W b v u (h : NatIn W v n.natAbs) (i : NatIn W u d.natAbs) => exOf_any W b v u n.natAbs d.natAbs 1 1 h i z1 z2 (by omega) (by omega) (by omega))
  have C4 := Lib.hid (fun W v (h : NumIn W v (ofQ n d)) => answer_fit W v _ 64 h HF.out.sm (by omega) HF.out)
  have hd0 : (d == 0) = false := beq_eq_false_iff_ne.2 hd
  have HOF := Lib.hid (show ofQ n d = mkRat (Big.sI (!(decide (n < 0) == decide (d < 0))) n.natAbs) d.natAbs from rfl)
  have HR0 := Lib.hid (At3.new w 24 (.bool false) (.string ⟨#[]⟩) (.string ⟨#[]⟩))
  have HB0 := Lib.hid (box1_below w (.cells #[.bool false, .string ⟨#[]⟩, .string ⟨#[]⟩] 24))
  clear hb z1 z2 hd h0 h1 h2 h3
  obtain ⟨Q, hQ⟩ : ∃ Q, ofQ n d = Q := ⟨_, rfl⟩
  rw [hQ] at HF C4 HOF ⊢
  clear hQ
  go_enter Tryz.func38, Tryz.ntmps38
  go_wp2_with fail
  generalize w.alloc (.cells #[.bool false, .string ⟨#[]⟩, .string ⟨#[]⟩] 24) = w0 at *
  refine (C1.out _).mono ?_
  rintro e w1 ⟨v1, rfl, hv1, hw1⟩
  go_wp2_with fail
  refine (C2.out _).mono ?_
  rintro e w2 ⟨v2, rfl, hv2, hw2⟩
  go_wp2_with fail
  refine (C3.out _ _ _ _ (hv1.keep hw2) hv2).mono ?_
  rintro e w3 ⟨v3, rfl, hv3, hw3⟩
  rw [← HOF.out] at hv3
  go_wp2_with fail
  refine (C4.out _ _ hv3).mono ?_
  rintro e w4 ⟨rfl, hw4⟩
  unfold fracV
  have b1 := HB0.out.trans (hw1.mono HB0.out.size)
  have b2 := b1.trans (hw2.mono b1.size)
  have b3 := b2.trans (hw3.mono b2.size)
  have b4 := b3.trans (hw4.mono b3.size)
  have R4 := (((HR0.out.keep hw1).keep hw2).keep hw3).keep hw4
  have HD := Lib.hid (At3.put R4 (.bool (Big.ng Q)) (.string (bst (Big.nu Q))) (.string (bst (Big.de Q))))
  have HE := Lib.hid (put_below b4 (Nat.le_refl _) (.bool (Big.ng Q)) (.string (bst (Big.nu Q))) (.string (bst (Big.de Q))))
  have k0 := R4.c0; have k1 := R4.c1; have k2 := R4.c2; have f0 := R4.frozen 0; have f1 := R4.frozen 1; have f2 := R4.frozen 2
  clear R4 b1 b2 b3 b4 hw1 hw2 hw3 hw4 hv1 hv2 hv3 C1 C2 C3 C4 HOF HR0 HB0
  go_wp2_with fail
  generalize (((w4.setCell ⟨w.heap.size, 0, none⟩ (.bool (Big.ng Q))).setCell ⟨w.heap.size, 1, none⟩ (.string (bst (Big.nu Q)))).setCell ⟨w.heap.size, 2, none⟩ (.string (bst (Big.de Q)))) = wz at HD HE ⊢
  clear k0 k1 k2 f0 f1 f2
  have r0 := HD.out.c0; have r1 := HD.out.c1; have r2 := HD.out.c2
  exact bodyPost_ret (v := .tuple #[.agg #[.bool (Big.ng Q), .string (bst (Big.nu Q)), .string (bst (Big.de Q))], .int .i64 0]) (by simp [results, Tryz.results38, go_sem, r0, r1, r2]) rfl ⟨rfl, HE.out⟩
end Go.Proofs.YtepnghhgmjobjaaGreatDoor
namespace Go.Proofs.YtepnghhgmjobjaaGreatDoor
open Go.RowKit
def AtL (w : World) (g : Nat) (T : TypeId) (cs : Array Value) : Prop := w.heap[g]? = some (.cells cs T (0, 0))
section
variable {w w' : World} {g : Nat} {T : TypeId} {cs : Array Value}
theorem AtL.lt (h : AtL w g T cs) : g < w.heap.size := by
  rcases Nat.lt_or_ge g w.heap.size with h1 | h1
  · exact h1
  · unfold AtL at h; rw [Array.getElem?_eq_none h1] at h; cases h
theorem AtL.cell (h : AtL w g T cs) (i : Nat) {x : Value} (hx : cs[i]? = some x) : w.cell? ⟨g, i, none⟩ = some x := by rw [cell_of_row w g i _ _ (0, 0) h]; exact hx
theorem AtL.frozen (h : AtL w g T cs) (i : Nat) : w.frozen? ⟨g, i, none⟩ = false := frozen_of_row w g i _ _ h
theorem AtL.new (w : World) (T : TypeId) (cs : Array Value) : AtL (w.alloc (.cells cs T)) w.heap.size T cs := heap_alloc_new w _
theorem AtL.alloc' (h : AtL w g T cs) (o : Obj) : AtL (w.alloc o) g T cs := (Below.heap_alloc w o g h.lt).trans h
theorem AtL.below (h : AtL w g T cs) {B : Nat} (hb : Below B w w') (hg : g < B) : AtL w' g T cs := (hb.block g hg).trans h
theorem AtL.keep (h : AtL w g T cs) (hb : Below w.heap.size w w') : AtL w' g T cs := h.below hb h.lt
theorem AtL.set (h : AtL w g T cs) (i : Nat) (x : Value) : AtL (w.setCell ⟨g, i, none⟩ x) g T (cs.setIfInBounds i x) := heap_setCell_same w g i _ _ x h
end
end Go.Proofs.YtepnghhgmjobjaaGreatDoor
namespace Go.Proofs.YtepnghhgmjobjaaGreatDoor
open Go.RowKit
def One (w : World) (v : Value) (q : Rat) : Prop := ∃ g a b, v = .slice (some ⟨g, 0, none⟩) 1 1 ∧ AtL w g 82 #[.bool (Big.ng q), a, b] ∧ NumIn w (.agg #[.bool (Big.ng q), a, b]) q
def Two (w : World) (v : Value) (q r : Rat) : Prop := ∃ g a b c d, v = .slice (some ⟨g, 0, none⟩) 2 2 ∧ AtL w g 82 #[.bool (Big.ng q), a, b, .bool (Big.ng r), c, d] ∧ NumIn w (.agg #[.bool (Big.ng q), a, b]) q ∧ NumIn w (.agg #[.bool (Big.ng r), c, d]) r
theorem AtL.no_int {w : World} {g : Nat} {T : TypeId} {cs : Array Value} (h : AtL w g T cs) (hc : ∀ v ∈ cs.toList, ∀ x, v ≠ .int .u64 x) (i : Nat) (x : Int) : w.cell? ⟨g, i, none⟩ ≠ some (.int .u64 x) := by
  rw [cell_of_row w g i _ _ (0, 0) h]
  intro e
  exact hc _ (by rw [Array.mem_toList_iff]; exact Array.mem_of_getElem? e) x rfl
theorem NumIn.only {w w' : World} {v : Value} {q : Rat} {g : Nat} (h : NumIn w v q) (hg : ∀ i x, w.cell? ⟨g, i, none⟩ ≠ some (.int .u64 x)) (ho : Only g w w') : NumIn w' v q := by
  obtain ⟨a, b, e, h1, h2⟩ := h; exact ⟨a, b, e, h1.only hg ho, h2.only hg ho⟩
theorem Only.alloc {g : Nat} {w w' : World} (h : Only g w w') (o : Obj) : Only g w (w'.alloc o) := h.trans (Only.of_below (box1_below w' o))
end Go.Proofs.YtepnghhgmjobjaaGreatDoor
namespace Go.Proofs.YtepnghhgmjobjaaGreatDoor
open Go.RowKit
end Go.Proofs.YtepnghhgmjobjaaGreatDoor
namespace Go.Proofs.YtepnghhgmjobjaaGreatDoor
open Go.RowKit
end Go.Proofs.YtepnghhgmjobjaaGreatDoor
namespace Go.Proofs.YtepnghhgmjobjaaGreatDoor
open Go.RowKit Go.Sort
def Tab (w : World) : Prop := Lib.TabIs Tryz.prog w "internal/strconv.uint64pow10" .u64 Lib.pow10Tab
theorem Tab.keep {w w' : World} (h : Tab w) (hb : Below w.heap.size w w') : Tab w' := Lib.tabBelow_of_tabIs h w' hb
end Go.Proofs.YtepnghhgmjobjaaGreatDoor
namespace Go.Proofs.YtepnghhgmjobjaaGreatDoor
open Go.RowKit Go.Sort
set_option maxHeartbeats 4000000 in
set_option maxRecDepth 100000 in
theorem intFormatUint (u : Nat) (hu : u < 18446744073709551616) (w : World) (htab : Tab w) :
    Calls Tryz.prog 270 #[.int .u64 (u : Int), .int .i64 10] w fun e w' => e = .returned (.string ⟨(Lib.decDigits u).toArray⟩) ∧ Below w.heap.size w w' := by
  by_cases hs : u < 100
  · have C := Lib.hid (fun W => Tryz.internal_strconv_small u hs W)
    have i1 : (u : Int) < 100 := by omega
    go_enter Tryz.func270, Tryz.ntmps270
    go_wp2_with (go_at_call 266; refine (C.out _).mono ?_; rintro e w' ⟨rfl, rfl⟩)
    go_ret
    exact ⟨rfl, Below.refl _ _⟩
  · have hu1 : 1 ≤ u := by omega
    have i1 : ¬ (u : Int) < 100 := by omega
    have hnd20 : Lib.nDigits u ≤ 20 := by have := Lib.numDigits_eq u hu1 hu; split at this <;> omega
    have hal : Tryz.prog.arrayLen 286 = 24 := by kernel_rfl
    have hsl : ∀ W, (Instr.sliceAt 286 (.pointer (some ⟨w.heap.size, 0, none⟩)) none (some (.int .i64 (Lib.nDigits u : Int))) none).run Tryz.prog W = .ok (.slice (some ⟨w.heap.size, 0, none⟩) (Lib.nDigits u) 24) W := fun W => by
      rw [run_sliceAt_array_h W 286 ⟨w.heap.size, 0, none⟩ (by simp [Program.arrayLen, Program.elem, Tryz.underlying286]) .i64 (Lib.nDigits u : Int) (by omega) (by rw [hal]; omega)]
      go_simp
    have hH0 := Lib.holds_zero0 w 286 (Lib.nDigits u) (by omega)
    have hfmt := Tryz.internal_strconv_formatBase10 w.heap.size 0 24 u (Array.replicate (Lib.nDigits u) 0) (w.alloc (.cells Lib.zeros24 286)) hH0 (by rw [Array.size_replicate]; exact Lib.lt_pow_nDigits u) hu (by rw [Array.size_replicate]; omega)
    rw [Array.size_replicate] at hfmt
    have HH0 := Lib.hid hH0
    have HT := Lib.hid htab
    have HF := Lib.hid hfmt
    clear hH0 hal htab hfmt
    go_enter Tryz.func270, Tryz.ntmps270
    go_wp2_with (go_at_call 267; refine (Tryz.internal_strconv_numDigits u hu1 hu _ (Lib.tabIs_alloc HT.out _)).mono ?_; rintro e w' ⟨rfl, rfl⟩)
    refine HF.out.mono ?_
    rintro e w' ⟨rfl, k, v', dk, rfl, hF⟩
    have hcv : (convert 166 9 (.slice (some ⟨w.heap.size, 0, none⟩) (Lib.nDigits u) 24)).run Tryz.prog ((putRow (fun (b : UInt8) => Value.int .u8 (b.toNat : Int)) (w.alloc (.cells Lib.zeros24 286)) w.heap.size 0 dk).drewN k) = .ok (.string ⟨(Lib.decDigits u).toArray⟩) ((putRow (fun (b : UInt8) => Value.int .u8 (b.toNat : Int)) (w.alloc (.cells Lib.zeros24 286)) w.heap.size 0 dk).drewN k) := by
      have h := run_convert_bytes_back (P := Tryz.prog) ((putRow (fun (b : UInt8) => Value.int .u8 (b.toNat : Int)) (w.alloc (.cells Lib.zeros24 286)) w.heap.size 0 dk).drewN k) 166 9 5 ⟨w.heap.size, 0, none⟩ 24 (Lib.decDigits u) Tryz.underlying166 Tryz.underlying5 Tryz.underlying9 (fun j hj => by
        rw [Lib.row_is_numeral hF j hj, Lib.add_plain, World.cell?_drewN]
        exact cell?_putRow (fun (b : UInt8) => Value.int .u8 (b.toNat : Int)) _ w.heap.size 0 _ dk HH0.out (by rw [hF.size, Array.size_replicate]) j (by rw [hF.size]; rw [Lib.decDigits_length] at hj; exact hj))
      rw [Lib.decDigits_length] at h
      exact h
    obtain ⟨os, eo⟩ := Lib.fin_at w (.cells Lib.zeros24 286) dk k 0
    have HBel := Lib.hid (show Below w.heap.size w ((putRow (fun (b : UInt8) => Value.int .u8 (b.toNat : Int)) (w.alloc (.cells Lib.zeros24 286)) w.heap.size 0 dk).drewN k) by rw [eo]; exact Lib.below_grow w.heap.size w (Nat.le_refl _) k os)
    clear eo hF
    go_wp2_with fail
    go_ret
    exact ⟨rfl, HBel.out⟩
theorem formatUint_any (u : Nat) (hu : u < 18446744073709551616) (w : World) (htab : Tab w) :
    Calls Tryz.prog 248 #[.int .u64 (u : Int), .int .i64 10] w fun e w' => e = .returned (.string ⟨(Lib.decDigits u).toArray⟩) ∧ Below w.heap.size w w' := by
  have C := Lib.hid (fun W h => intFormatUint u hu W h)
  have HT := Lib.hid htab
  clear htab hu
  go_enter Tryz.func248, Tryz.ntmps248
  go_wp2_with fail
  refine (C.out _ HT.out).mono ?_
  rintro e w' ⟨rfl, hb⟩
  go_wp2_with fail
  go_ret
  exact ⟨rfl, hb⟩
theorem appendUint_any (B n u : Nat) (hu : u < 18446744073709551616) (sv : Value) (xs : List Value) (w : World) (hown : w.ownsRow B 5 1 sv n xs) (hBw : B ≤ w.heap.size) (hlim : n + 20 ≤ 140737488355328) (htab : Tab w) :
    Calls Tryz.prog 193 #[sv, .int .u64 (u : Int), .int .i64 10] w fun e w' => ∃ v', e = .returned v' ∧ w'.ownsRow B 5 1 v' (n + (Lib.decDigits u).length) (xs ++ Lib.byteCells (Lib.decDigits u)) ∧ Below B w w' := by
  have C := Lib.hid (Tryz.internal_strconv_AppendUint_10 B n u hu sv xs w hown hBw hlim htab)
  clear hown hBw hlim htab hu
  go_enter Tryz.func193, Tryz.ntmps193
  go_wp2_with fail
  refine C.out.mono ?_
  rintro e w' ⟨v', rfl, h1, h2, -⟩
  go_wp2_with fail
  go_ret
  exact ⟨_, rfl, h1, h2⟩
end Go.Proofs.YtepnghhgmjobjaaGreatDoor
