/- Contracts, in this order: Fractions as the program holds them: a number of three parts · nat's contracts at numbers, under a bound behind a name. · What is asked of the listed table, where the program prints  · strconv: FormatUint, AppendUint at base 10. · Decimal texts of natural numbers. No program. · Structs of three cells in memory. No program. · nat: appendGroup. · nat: Text. -/
import Derived.Test.YtfmebfkdpfbjbaaGreatDoorEkq11
import Derived.Test.YtfmebfkdpfbjbaaGreatDoorEkq12
import Derived.Test.YtfmebfkdpfbjbaaGreatDoorEkq17
import Derived.Test.YtfmebfkdpfbjbaaGreatDoorProg
import Derived.Test.YtfmebfkdpfbjbaaGreatDoorShelf
import Derived.Lib.ItoaMem
import Derived.Lib.TrailingZeros
import Derived.Lib.AppendIntMem
import Derived.Lib.Walk
import Derived.WalkKit
import Derived.BigCall
import Derived.BigGuard
import Derived.Lib.Hide
import Derived.Lib.ItoaNum
import Derived.Lib.Slices
import Derived.Lib.OwnKind
import Derived.Laws.AppendOwn
import Derived.Lib.AppendStr
import Derived.OwnWalk
namespace Go.Proofs.YtfmebfkdpfbjbaaGreatDoor
open Go.RowKit
def szN (n : Nat) : Nat := if n = 0 then 0 else Nat.log2 n / 8 + 1
theorem szN_is (n : Nat) : Big.IsSize n (szN n) := by
  unfold szN
  by_cases h : n = 0
  · subst h; exact Big.isSize_zero
  · rw [if_neg h]
    have h1 := Nat.log2_self_le h
    have h2 : n < 2 ^ (Nat.log2 n + 1) := Nat.lt_log2_self
    generalize Nat.log2 n = b at *
    refine ⟨?_, fun _ => ?_⟩
    · rw [Big.pow256]
      exact Nat.lt_of_lt_of_le h2 (Nat.pow_le_pow_right (by omega) (by omega))
    · rw [Big.pow256]
      exact Nat.le_trans (Nat.pow_le_pow_right (by omega) (by omega)) h1
theorem szN_of {n s : Nat} (h : Big.IsSize n s) : s = szN n := Big.isSize_unique h (szN_is n)
theorem lt_szN {n k : Nat} (h : szN n ≤ k) : n < 256 ^ k :=
  Nat.lt_of_lt_of_le (szN_is n).1 (Nat.pow_le_pow_right (by omega) h)
theorem szN_pos {n : Nat} (h : n ≠ 0) : 0 < szN n := by unfold szN; rw [if_neg h]; omega
def btx (n : Nat) : List UInt8 := Big.btext n (szN n)
theorem btx_of {n s : Nat} (h : Big.IsSize n s) : Big.btext n s = btx n := by rw [szN_of h]; rfl
theorem btx_length (n : Nat) : (btx n).length = szN n := Big.btext_length _ _
theorem btx_num (n : Nat) : Big.bnum (btx n) = n := Big.btext_num _ _ (szN_is n).1
def bst (n : Nat) : ByteArray := ⟨(btx n).toArray⟩
theorem bst_size (n : Nat) : (bst n).size = szN n := by
  show (btx n).toArray.size = _
  rw [List.size_toArray, btx_length]
theorem bst_list (n : Nat) : (bst n).data.toList = btx n := rfl
def Lead (l : List UInt8) : Prop := l.head? ≠ some 0
theorem rev_norm {l : List UInt8} (h : Lead l) : Big.Norm (Big.rev l) := by
  unfold Big.Norm Big.rev
  cases l with
  | nil => simp
  | cons c l =>
    simp
    intro e
    exact h (by simp; exact UInt8.toNat_inj.1 e)
theorem btx_bnum {l : List UInt8} (h : Lead l) : btx (Big.bnum l) = l := by
  have ok := Big.rev_ok l
  have h1 : Big.IsSize (Big.bnum l) l.length := by
    refine ⟨?_, fun hp => ?_⟩
    · have := Big.val_lt _ ok; rwa [Big.rev_length] at this
    · have := Big.norm_ge (B := 256) (Big.rev l) (rev_norm h) (by intro e; have := Big.rev_length l; rw [e] at this; simp at this; omega)
      rwa [Big.rev_length] at this
  rw [← btx_of h1]
  unfold Big.btext
  have e : Big.bd (Big.bnum l) l.length = Big.rev l := by
    have lb := Big.bd_length (Big.bnum l) l.length
    have lr := Big.rev_length l
    have ev : Big.val 256 (Big.bd (Big.bnum l) l.length) = Big.val 256 (Big.rev l) := by
      rw [Big.bd_val]; exact Nat.mod_eq_of_lt h1.1
    apply List.ext_getElem (by omega)
    intro i hi hj
    have n1 := Big.nth_div (B := 256) (by omega) _ (Big.bd_ok (Big.bnum l) l.length) i
    have n2 := Big.nth_div (B := 256) (by omega) _ ok i
    rw [ev, ← n2] at n1
    unfold Big.nth at n1
    rwa [List.getD_eq_getElem?_getD, List.getD_eq_getElem?_getD, List.getElem?_eq_getElem hi, List.getElem?_eq_getElem hj] at n1
  rw [e]
  unfold Big.rev
  rw [← List.map_reverse, List.reverse_reverse, List.map_map]
  conv => rhs; rw [← List.map_id l]
  apply List.map_congr_left
  intro c _
  exact UInt8.ofNat_toNat
theorem btx_lead (n : Nat) : Lead (btx n) := by
  intro h
  have hs := szN_is n
  have hl := btx_length n
  have h1 : Big.bnum (btx n) = n := btx_num n
  cases hb : btx n with
  | nil => rw [hb] at h; simp at h
  | cons c l =>
    rw [hb] at h h1 hl
    have hc : c = 0 := by simpa using h
    subst hc
    have hlen : szN n = l.length + 1 := by rw [← hl]; rfl
    have h2 := hs.2 (by omega)
    rw [hlen, Nat.add_sub_cancel] at h2
    have h3 : Big.bnum (0 :: l) = Big.bnum l := by
      unfold Big.bnum Big.rev
      rw [List.reverse_cons, List.map_append, Big.val_append]
      simp [Big.val]
    have h4 := Big.val_lt _ (Big.rev_ok l)
    rw [Big.rev_length] at h4
    have h5 : Big.bnum l < 256 ^ l.length := h4
    rw [← h3, h1] at h5
    omega
structure Fit (q : Rat) : Prop where
  nu : szN (Big.nu q) ≤ 512
  de : szN (Big.de q) ≤ 512
def NumIn (w : World) (v : Value) (q : Rat) : Prop := ∃ a b, v = .agg #[.bool (Big.ng q), a, b] ∧ NatIn w a (Big.nu q) ∧ NatIn w b (Big.de q)
theorem NumIn.keep {w w' : World} {v : Value} {q : Rat} (h : NumIn w v q) (hb : Below w.heap.size w w') : NumIn w' v q := by
  obtain ⟨a, b, e, h1, h2⟩ := h; exact ⟨a, b, e, h1.keep hb, h2.keep hb⟩
theorem NumIn.drew {w w' : World} {v : Value} {q : Rat} (h : NumIn w v q) (hb : Drew w w') : NumIn w' v q := h.keep (hb.below _)
structure Sz (k n : Nat) : Prop where
  out : n < Big.M64 ^ k
theorem M64_gt : 1 < Big.M64 := by unfold Big.M64; omega
theorem Sz.up {k j n : Nat} (h : Sz k n) (hk : k ≤ j) : Sz j n := ⟨Nat.lt_of_lt_of_le h.out (Nat.pow_le_pow_right Big.M64_pos hk)⟩
theorem Sz.le {k m n : Nat} (h : Sz k n) (hm : m ≤ n) : Sz k m := ⟨Nat.lt_of_le_of_lt hm h.out⟩
theorem Sz.mul {k j m n : Nat} (h : Sz k n) (i : Sz j m) : Sz (k + j) (n * m) := by
  refine ⟨?_⟩
  rw [Nat.pow_add]
  exact Nat.mul_lt_mul'' h.out i.out
theorem Sz.add {k j m n : Nat} (h : Sz k n) (i : Sz j m) : Sz (k + j + 1) (n + m) := by
  have a := (h.up (show k ≤ k + j by omega)).out
  have b := (i.up (show j ≤ k + j by omega)).out
  refine ⟨?_⟩
  rw [Nat.pow_succ]
  have h2 : Big.M64 ^ (k + j) * 2 ≤ Big.M64 ^ (k + j) * Big.M64 := Nat.mul_le_mul_left _ (by have := M64_gt; omega)
  generalize Big.M64 ^ (k + j) = P at *
  generalize P * Big.M64 = Q at *
  omega
theorem Sz.bytes8 {n k : Nat} (h : szN n ≤ 8 * k) : Sz k n := by
  refine ⟨?_⟩
  rw [Big.M64_pow, ← Nat.pow_mul]
  exact lt_szN h
theorem Sz.bytes {n : Nat} (h : szN n ≤ 512) : Sz 64 n := Sz.bytes8 h
structure Sm (k : Nat) (q : Rat) : Prop where
  nu : Sz k (Big.nu q)
  de : Sz k (Big.de q)
theorem Fit.sm {q : Rat} (h : Fit q) : Sm 64 q := ⟨Sz.bytes h.nu, Sz.bytes h.de⟩
theorem Sm.up {k j : Nat} {q : Rat} (h : Sm k q) (hk : k ≤ j) : Sm j q := ⟨h.nu.up hk, h.de.up hk⟩
theorem Sm.neg {k : Nat} {q : Rat} (h : Sm k q) : Sm k (-q) := by
  obtain ⟨_, h2, h3⟩ := Big.neg_parts q
  exact ⟨by rw [h2]; exact h.nu, by rw [h3]; exact h.de⟩
theorem Sm.mul {k j : Nat} {q r : Rat} (h : Sm k q) (i : Sm j r) : Sm (k + j) (q * r) := by
  obtain ⟨_, h2, h3⟩ := Big.mul_parts q r
  exact ⟨by rw [h2]; exact (h.nu.le (Nat.div_le_self _ _)).mul (i.nu.le (Nat.div_le_self _ _)), by rw [h3]; exact (h.de.le (Nat.div_le_self _ _)).mul (i.de.le (Nat.div_le_self _ _))⟩
theorem Sm.inv {k : Nat} {q : Rat} (h : Sm k q) (h0 : Big.nu q ≠ 0) : Sm k q⁻¹ := by
  obtain ⟨_, h2, h3⟩ := Big.inv_parts q h0
  exact ⟨by rw [h2]; exact h.de, by rw [h3]; exact h.nu⟩
theorem abs_sum_le (b c : Bool) (n m : Nat) : (Big.sI b n + Big.sI c m).natAbs ≤ n + m := by
  have h1 := Big.sI_abs b n
  have h2 := Big.sI_abs c m
  omega
theorem Sm.add {k j : Nat} {q r : Rat} (h : Sm k q) (i : Sm j r) : Sm (2 * k + 2 * j + 1) (q + r) := by
  obtain ⟨_, h2, h3⟩ := Big.add_parts q r _ _ _ _ rfl rfl rfl rfl
  refine ⟨?_, ?_⟩
  · rw [h2]
    refine Sz.le ?_ (Nat.div_le_self _ _)
    refine Sz.le ?_ (abs_sum_le _ _ _ _)
    exact ((h.nu.mul (i.de.le (Nat.div_le_self _ _))).add (i.nu.mul (h.de.le (Nat.div_le_self _ _)))).up (by omega)
  · rw [h3]
    exact ((h.de.le (Nat.div_le_self _ _)).mul (i.de.le (Nat.div_le_self _ _))).up (by omega)
structure By (k : Nat) (q : Rat) : Prop where
  nu : Big.nu q < 256 ^ k
  de : Big.de q < 256 ^ k
theorem By.up {k j : Nat} {q : Rat} (h : By k q) (hk : k ≤ j) : By j q :=
  ⟨Nat.lt_of_lt_of_le h.nu (Nat.pow_le_pow_right (by omega) hk), Nat.lt_of_lt_of_le h.de (Nat.pow_le_pow_right (by omega) hk)⟩
theorem By.neg {k : Nat} {q : Rat} (h : By k q) : By k (-q) := by
  obtain ⟨_, h2, h3⟩ := Big.neg_parts q
  exact ⟨by rw [h2]; exact h.nu, by rw [h3]; exact h.de⟩
theorem By.mul {k j : Nat} {q r : Rat} (h : By k q) (i : By j r) : By (k + j) (q * r) := by
  obtain ⟨_, h2, h3⟩ := Big.mul_parts q r
  refine ⟨?_, ?_⟩
  · rw [h2, Nat.pow_add]
    exact Nat.mul_lt_mul'' (Nat.lt_of_le_of_lt (Nat.div_le_self _ _) h.nu) (Nat.lt_of_le_of_lt (Nat.div_le_self _ _) i.nu)
  · rw [h3, Nat.pow_add]
    exact Nat.mul_lt_mul'' (Nat.lt_of_le_of_lt (Nat.div_le_self _ _) h.de) (Nat.lt_of_le_of_lt (Nat.div_le_self _ _) i.de)
theorem By.inv {k : Nat} {q : Rat} (h : By k q) (h0 : Big.nu q ≠ 0) : By k q⁻¹ := by
  obtain ⟨_, h2, h3⟩ := Big.inv_parts q h0
  exact ⟨by rw [h2]; exact h.de, by rw [h3]; exact h.nu⟩
theorem By.add {k j : Nat} {q r : Rat} (h : By k q) (i : By j r) : By (k + j + 1) (q + r) := by
  obtain ⟨_, h2, h3⟩ := Big.add_parts q r _ _ _ _ rfl rfl rfl rfl
  have e : 256 ^ (k + j + 1) = 256 ^ k * 256 ^ j * 256 := by rw [Nat.pow_succ, Nat.pow_add]
  refine ⟨?_, ?_⟩
  · rw [h2, e]
    refine Nat.lt_of_le_of_lt (Nat.div_le_self _ _) (Nat.lt_of_le_of_lt (abs_sum_le _ _ _ _) ?_)
    have a1 := Nat.mul_lt_mul'' h.nu (Nat.lt_of_le_of_lt (Nat.div_le_self (Big.de r) (Nat.gcd (Big.de q) (Big.de r))) i.de)
    have a2 := Nat.mul_lt_mul'' i.nu (Nat.lt_of_le_of_lt (Nat.div_le_self (Big.de q) (Nat.gcd (Big.de q) (Big.de r))) h.de)
    rw [Nat.mul_comm (256 ^ j)] at a2
    generalize 256 ^ k * 256 ^ j = P at *
    omega
  · rw [h3, e]
    have a1 := Nat.mul_lt_mul'' (Nat.lt_of_le_of_lt (Nat.div_le_self (Big.de q) (Nat.gcd (Big.de q) (Big.de r))) h.de) (Nat.lt_of_le_of_lt (Nat.div_le_self (Big.de r) (Nat.gcd (Big.sI (Big.ng q) (Big.nu q * (Big.de r / (Big.de q).gcd (Big.de r))) + Big.sI (Big.ng r) (Big.nu r * (Big.de q / (Big.de q).gcd (Big.de r)))).natAbs ((Big.de q).gcd (Big.de r)))) i.de)
    generalize 256 ^ k * 256 ^ j = P at *
    omega
theorem By.sub {k j : Nat} {q r : Rat} (h : By k q) (i : By j r) : By (k + j + 1) (q - r) := by rw [Rat.sub_eq_add_neg]; exact h.add i.neg
theorem By.div {k j : Nat} {q r : Rat} (h : By k q) (i : By j r) (h0 : Big.nu r ≠ 0) : By (k + j) (q / r) := by rw [Rat.div_def]; exact h.mul (i.inv h0)
end Go.Proofs.YtfmebfkdpfbjbaaGreatDoor
namespace Go.Proofs.YtfmebfkdpfbjbaaGreatDoor
open Go.RowKit
theorem Sz.kx {k n : Nat} (h : Sz k n) (hk : k ≤ 100000000) : n < Big.M64 ^ Big.KX := (h.up (show k ≤ Big.KX by have := Big.KL_le; have := Big.KL_eq; omega)).out
theorem Sz.kl {k n : Nat} (h : Sz k n) (hk : k ≤ 100000000) : n < Big.M64 ^ Big.KL := (h.up (show k ≤ Big.KL by have := Big.KL_eq; omega)).out
theorem Sz.fits {k n : Nat} (h : Sz k n) (hk : k ≤ 100000000) : Fits n := ⟨h.kl hk⟩
def Nat1 (w : World) (r : Nat) (e : Ending) (w' : World) : Prop := ∃ v', e = .returned v' ∧ NatIn w' v' r ∧ Below w.heap.size w w'
theorem NatIn.len_zero {w : World} {A : Option Addr} {l c n : Nat} (h : NatIn w (.slice A l c) n) : l = 0 ↔ n = 0 := by
  obtain ⟨r, ⟨A', c', e, h1, h2, h3⟩, ok, nl, hv⟩ := h
  cases e
  constructor
  · intro h0
    rw [List.length_eq_zero_iff.1 h0] at hv
    rw [← hv]; rfl
  · intro h0
    rw [h0] at hv
    rw [Big.norm_zero Big.M64_pos r nl hv]; rfl
theorem NatIn.is_slice {w : World} {v : Value} {n : Nat} (h : NatIn w v n) : ∃ A l c, v = .slice A l c ∧ (l = 0 ↔ n = 0) := by
  have h' := h
  obtain ⟨r, ⟨A', c', rfl, h1, h2, h3⟩, ok, nl, hv⟩ := h
  exact ⟨_, _, _, rfl, h'.len_zero⟩
theorem one_iff {l : List Nat} (ok : Big.Ok Big.M64 l) (nl : Big.Norm l) : l = [1] ↔ Big.val Big.M64 l = 1 := by
  have n1 : Big.Norm [1] := by simp [Big.Norm]
  have o1 : Big.Ok Big.M64 [1] := Big.Ok.cons M64_gt Big.Ok.nil
  have v1 : Big.val Big.M64 [1] = 1 := by simp [Big.val]
  constructor
  · intro e; rw [e, v1]
  · intro e; exact Big.val_inj Big.M64_pos _ _ ok o1 nl n1 (by rw [v1]; exact e)
theorem isOne_num (w : World) (v : Value) (n : Nat) (h : NatIn w v n) :
    Calls Tryz.prog 61 #[v] w fun e w' => e = .returned (.bool (decide (n = 1))) ∧ w = w' := by
  obtain ⟨l, h1, ok, nl, rfl⟩ := h
  refine (isOne_any w v l h1).mono fun e w' ⟨he, hw⟩ => ⟨?_, hw⟩
  rw [he]
  exact ret_bool (by rw [decide_eq_decide]; exact one_iff ok nl)
theorem cmp_num (w : World) (v u : Value) (n m : Nat) (h : NatIn w v n) (k : NatIn w u m) :
    Calls Tryz.prog 103 #[v, u] w fun e w' => e = .returned (.int .i64 (Big.cmpI n m)) ∧ Drew w w' := by
  obtain ⟨l, h1, ok, nl, rfl⟩ := h
  obtain ⟨r, k1, kk, kl, rfl⟩ := k
  exact cmp_any w v u l r h1 k1 ok kk nl kl
theorem of_num (w : World) (n : Nat) (hn : n < Big.M64) : Calls Tryz.prog 100 #[.int .u64 (n : Int)] w (Nat1 w n) :=
  (natOf_any w n).mono fun _ _ ⟨v', h1, h2, h3⟩ => ⟨v', h1, ⟨_, h2, by
    split
    · exact Big.Ok.nil
    · exact Big.Ok.cons hn Big.Ok.nil, by
    split
    · exact Big.norm_nil
    · rename_i h0; simp [Big.Norm, h0], by
    split
    · rename_i h0; rw [h0]; rfl
    · simp [Big.val]⟩, h3⟩
theorem add_num (w : World) (v u : Value) (n m k j : Nat) (h : NatIn w v n) (i : NatIn w u m) (hn : Sz k n) (hm : Sz j m) (hk : k ≤ 100000000) (hj : j ≤ 100000000) :
    Calls Tryz.prog 179 #[v, u] w (Nat1 w (n + m)) := add_any w v u n m h i (hn.kx hk) (hm.kx hj)
theorem sub_num (w : World) (v u : Value) (n m k : Nat) (h : NatIn w v n) (i : NatIn w u m) (hn : Sz k n) (hk : k ≤ 100000000) :
    Calls Tryz.prog 180 #[v, u] w (Nat1 w (n - m)) := sub_any w v u n m h i (hn.kx hk)
theorem mul_num (w : World) (v u : Value) (n m k j : Nat) (h : NatIn w v n) (i : NatIn w u m) (hn : Sz k n) (hm : Sz j m) (hk : k ≤ 100000000) (hj : j ≤ 100000000) :
    Calls Tryz.prog 102 #[v, u] w (Nat1 w (n * m)) := mul_any w v u n m h i (hn.kl hk) (hm.kl hj)
theorem quo_num (w : World) (v u : Value) (n m k : Nat) (h : NatIn w v n) (i : NatIn w u m) (hn : Sz k n) (hk : k ≤ 100000000) :
    Calls Tryz.prog 110 #[v, u] w (Nat1 w (n / m)) := quo_any w v u n m h i (hn.kl hk)
theorem gcd_num (w : World) (v u : Value) (n m k j : Nat) (h : NatIn w v n) (i : NatIn w u m) (hn : Sz k n) (hm : Sz j m) (hk : k ≤ 100000000) (hj : j ≤ 100000000) :
    Calls Tryz.prog 60 #[v, u] w (Nat1 w (Nat.gcd n m)) := gcd_any w v u n m h i (hn.fits hk) (hm.fits hj)
theorem quoRem_num (w : World) (v u : Value) (n m k : Nat) (h : NatIn w v n) (i : NatIn w u m) (hn : Sz k n) (hk : k ≤ 100000000) :
    Calls Tryz.prog 116 #[v, u] w fun e w' => ∃ q r, e = .returned (.tuple #[q, r]) ∧ NatIn w' q (n / m) ∧ NatIn w' r (n % m) ∧ Below w.heap.size w w' :=
  quoRem_any w v u n m h i (hn.kl hk)
theorem size_num (w : World) (v : Value) (n k : Nat) (h : NatIn w v n) (hn : Sz k n) (hk : k ≤ 100000000) :
    Calls Tryz.prog 62 #[v] w fun e w' => e = .returned (.int .i64 ((szN n : Nat) : Int)) ∧ w = w' :=
  (size_any w v n h (hn.kx hk)).mono fun _ _ ⟨_, h1, h2, h3⟩ => ⟨by rw [h1, szN_of h2], h3⟩
theorem bytes_num (w : World) (v : Value) (n k : Nat) (h : NatIn w v n) (hn : Sz k n) (hk : k ≤ 100000000) :
    Calls Tryz.prog 112 #[v] w fun e w' => e = .returned (.string (bst n)) ∧ Below w.heap.size w w' :=
  (bytes_any w v n h (hn.kl hk)).mono fun _ _ ⟨_, h1, h2, h3⟩ => ⟨by rw [h1, btx_of h2]; rfl, h3⟩
theorem fromBytes_num (w : World) (n : Nat) (hn : szN n ≤ 1000000000) : Calls Tryz.prog 59 #[.string (bst n)] w (Nat1 w n) := by
  have h := fromBytes_any w (bst n) (by rw [bst_size]; exact hn)
  rw [bst_list, btx_num] at h
  exact h
end Go.Proofs.YtfmebfkdpfbjbaaGreatDoor
namespace Go.Proofs.YtfmebfkdpfbjbaaGreatDoor
open Go.RowKit Go.Sort
def Tab (w : World) : Prop := Lib.TabIs Tryz.prog w "internal/strconv.uint64pow10" .u64 Lib.pow10Tab
theorem Tab.keep {w w' : World} (h : Tab w) (hb : Below w.heap.size w w') : Tab w' := Lib.tabBelow_of_tabIs h w' hb
abbrev TabB (w : World) : Prop := Tab w
theorem TabB.tab {w : World} (h : TabB w) : Tab w := h
end Go.Proofs.YtfmebfkdpfbjbaaGreatDoor
namespace Go.Proofs.YtfmebfkdpfbjbaaGreatDoor
open Go.RowKit Go.Sort
set_option maxHeartbeats 4000000 in
set_option maxRecDepth 100000 in
theorem intFormatUint (u : Nat) (hu : u < 18446744073709551616) (w : World) (htab : Tab w) :
    Calls Tryz.prog 272 #[.int .u64 (u : Int), .int .i64 10] w fun e w' => e = .returned (.string ⟨(Lib.decDigits u).toArray⟩) ∧ Below w.heap.size w w' := by
  by_cases hs : u < 100
  · have C := Lib.hid (fun W => Tryz.internal_strconv_small u hs W)
    have i1 : (u : Int) < 100 := by omega
    go_enter Tryz.func272, Tryz.ntmps272
    go_wp2_with (go_at_call 268; refine (C.out _).mono ?_; rintro e w' ⟨rfl, rfl⟩)
    go_ret
    exact ⟨rfl, Below.refl _ _⟩
  · have hu1 : 1 ≤ u := by omega
    have i1 : ¬ (u : Int) < 100 := by omega
    have hnd20 : Lib.nDigits u ≤ 20 := by have := Lib.numDigits_eq u hu1 hu; split at this <;> omega
    have hal : Tryz.prog.arrayLen 302 = 24 := by kernel_rfl
    have hsl : ∀ W, (Instr.sliceAt 302 (.pointer (some ⟨w.heap.size, 0, none⟩)) none (some (.int .i64 (Lib.nDigits u : Int))) none).run Tryz.prog W = .ok (.slice (some ⟨w.heap.size, 0, none⟩) (Lib.nDigits u) 24) W := fun W => by
      rw [run_sliceAt_array_h W 302 ⟨w.heap.size, 0, none⟩ (by simp [Program.arrayLen, Program.elem, Tryz.underlying302]) .i64 (Lib.nDigits u : Int) (by omega) (by rw [hal]; omega)]
      go_simp
    have hH0 := Lib.holds_zero0 w 302 (Lib.nDigits u) (by omega)
    have hfmt := Tryz.internal_strconv_formatBase10 w.heap.size 0 24 u (Array.replicate (Lib.nDigits u) 0) (w.alloc (.cells Lib.zeros24 302)) hH0 (by rw [Array.size_replicate]; exact Lib.lt_pow_nDigits u) hu (by rw [Array.size_replicate]; omega)
    rw [Array.size_replicate] at hfmt
    have HH0 := Lib.hid hH0
    have HT := Lib.hid htab
    have HF := Lib.hid hfmt
    clear hH0 hal htab hfmt
    go_enter Tryz.func272, Tryz.ntmps272
    go_wp2_with (go_at_call 269; refine (Tryz.internal_strconv_numDigits u hu1 hu _ (Lib.tabIs_alloc HT.out _)).mono ?_; rintro e w' ⟨rfl, rfl⟩)
    refine HF.out.mono ?_
    rintro e w' ⟨rfl, k, v', dk, rfl, hF⟩
    have hcv : (convert 48 9 (.slice (some ⟨w.heap.size, 0, none⟩) (Lib.nDigits u) 24)).run Tryz.prog ((putRow (fun (b : UInt8) => Value.int .u8 (b.toNat : Int)) (w.alloc (.cells Lib.zeros24 302)) w.heap.size 0 dk).drewN k) = .ok (.string ⟨(Lib.decDigits u).toArray⟩) ((putRow (fun (b : UInt8) => Value.int .u8 (b.toNat : Int)) (w.alloc (.cells Lib.zeros24 302)) w.heap.size 0 dk).drewN k) := by
      have h := run_convert_bytes_back (P := Tryz.prog) ((putRow (fun (b : UInt8) => Value.int .u8 (b.toNat : Int)) (w.alloc (.cells Lib.zeros24 302)) w.heap.size 0 dk).drewN k) 48 9 5 ⟨w.heap.size, 0, none⟩ 24 (Lib.decDigits u) Tryz.underlying48 Tryz.underlying5 Tryz.underlying9 (fun j hj => by
        rw [Lib.row_is_numeral hF j hj, Lib.add_plain, World.cell?_drewN]
        exact cell?_putRow (fun (b : UInt8) => Value.int .u8 (b.toNat : Int)) _ w.heap.size 0 _ dk HH0.out (by rw [hF.size, Array.size_replicate]) j (by rw [hF.size]; rw [Lib.decDigits_length] at hj; exact hj))
      rw [Lib.decDigits_length] at h
      exact h
    obtain ⟨os, eo⟩ := Lib.fin_at w (.cells Lib.zeros24 302) dk k 0
    have HBel := Lib.hid (show Below w.heap.size w ((putRow (fun (b : UInt8) => Value.int .u8 (b.toNat : Int)) (w.alloc (.cells Lib.zeros24 302)) w.heap.size 0 dk).drewN k) by rw [eo]; exact Lib.below_grow w.heap.size w (Nat.le_refl _) k os)
    clear eo hF
    go_wp2_with fail
    go_ret
    exact ⟨rfl, HBel.out⟩
theorem formatUint_any (u : Nat) (hu : u < 18446744073709551616) (w : World) (htab : Tab w) :
    Calls Tryz.prog 259 #[.int .u64 (u : Int), .int .i64 10] w fun e w' => e = .returned (.string ⟨(Lib.decDigits u).toArray⟩) ∧ Below w.heap.size w w' := by
  have C := Lib.hid (fun W h => intFormatUint u hu W h)
  have HT := Lib.hid htab
  clear htab hu
  go_enter Tryz.func259, Tryz.ntmps259
  go_wp2_with fail
  refine (C.out _ HT.out).mono ?_
  rintro e w' ⟨rfl, hb⟩
  go_wp2_with fail
  go_ret
  exact ⟨rfl, hb⟩
theorem appendUint_any (B n u : Nat) (hu : u < 18446744073709551616) (sv : Value) (xs : List Value) (w : World) (hown : w.ownsRow B 5 1 sv n xs) (hBw : B ≤ w.heap.size) (hlim : n + 20 ≤ 140737488355328) (htab : Tab w) :
    Calls Tryz.prog 217 #[sv, .int .u64 (u : Int), .int .i64 10] w fun e w' => ∃ v', e = .returned v' ∧ w'.ownsRow B 5 1 v' (n + (Lib.decDigits u).length) (xs ++ Lib.byteCells (Lib.decDigits u)) ∧ Below B w w' := by
  have C := Lib.hid (Tryz.internal_strconv_AppendUint_10 B n u hu sv xs w hown hBw hlim htab)
  clear hown hBw hlim htab hu
  go_enter Tryz.func217, Tryz.ntmps217
  go_wp2_with fail
  refine C.out.mono ?_
  rintro e w' ⟨v', rfl, h1, h2, -⟩
  go_wp2_with fail
  go_ret
  exact ⟨_, rfl, h1, h2⟩
end Go.Proofs.YtfmebfkdpfbjbaaGreatDoor
namespace Go.Proofs.YtfmebfkdpfbjbaaGreatDoor.Big
open Go
def pad : Nat → Nat → List UInt8
  | 0, _ => []
  | k + 1, r => pad k (r / 10) ++ [UInt8.ofNat (48 + r % 10)]
theorem pad_length : ∀ (k r : Nat), (pad k r).length = k
  | 0, _ => rfl
  | k + 1, r => by simp [pad, pad_length k]
theorem dec_big {u : Nat} (h : ¬ u < 10) : Lib.decDigits u = Lib.decDigits (u / 10) ++ [UInt8.ofNat (48 + u % 10)] := by
  rw [Lib.decDigits, dif_neg h]
theorem dec_pad : ∀ (k q r : Nat), 1 ≤ q → r < 10 ^ k → Lib.decDigits (q * 10 ^ k + r) = Lib.decDigits q ++ pad k r
  | 0, q, r, _, hr => by
    have : r = 0 := by simpa using hr
    subst this; simp [pad]
  | k + 1, q, r, hq, hr => by
    rw [Nat.pow_succ] at hr
    have hk : 1 ≤ 10 ^ k := Nat.one_le_pow _ _ (by decide)
    have e1 : (q * 10 ^ (k + 1) + r) / 10 = q * 10 ^ k + r / 10 := by
      rw [Nat.pow_succ, ← Nat.mul_assoc]; omega
    have e2 : (q * 10 ^ (k + 1) + r) % 10 = r % 10 := by
      rw [Nat.pow_succ, ← Nat.mul_assoc]; omega
    have e3 : ¬ (q * 10 ^ (k + 1) + r < 10) := by
      have : 1 * 10 ^ k ≤ q * 10 ^ k := Nat.mul_le_mul_right _ hq
      rw [Nat.pow_succ, ← Nat.mul_assoc]; omega
    rw [dec_big e3, e1, e2, dec_pad k q (r / 10) hq (by omega), pad, List.append_assoc]
theorem pad_nought (k : Nat) : pad k 0 = List.replicate k 48 := by
  induction k with
  | zero => rfl
  | succ k ih => rw [pad, ih, List.replicate_succ']; rfl
theorem pad_dec : ∀ (k r : Nat), 1 ≤ k → r < 10 ^ k → List.replicate (k - (Lib.decDigits r).length) 48 ++ Lib.decDigits r = pad k r
  | 0, _, h, _ => absurd h (by omega)
  | k + 1, r, _, hr => by
    by_cases h10 : r < 10
    · rw [Lib.decDigits_one h10, pad, Nat.div_eq_of_lt h10, pad_nought, Nat.mod_eq_of_lt h10]; simp
    · rw [dec_big h10, pad]
      have hr' : r / 10 < 10 ^ k := by rw [Nat.pow_succ] at hr; omega
      have hk : 1 ≤ k := by
        rcases k with _ | k
        · simp at hr'; omega
        · omega
      rw [← pad_dec k (r / 10) hk hr', List.length_append, List.append_assoc]
      have e : k + 1 - ((Lib.decDigits (r / 10)).length + [UInt8.ofNat (48 + r % 10)].length) = k - (Lib.decDigits (r / 10)).length := by
        rw [List.length_singleton]; omega
      rw [e]
def Digs (l : List UInt8) : Prop := ∀ c ∈ l, 48 ≤ c.toNat ∧ c.toNat ≤ 57
theorem Digs.append {a b : List UInt8} (h : Digs a) (k : Digs b) : Digs (a ++ b) := fun c hc => (List.mem_append.1 hc).elim (h c) (k c)
theorem dec_ne (n : Nat) : Lib.decDigits n ≠ [] := by
  intro h
  have := Lib.decDigits_length n
  have := Lib.nDigits_pos n
  rw [h] at *
  simp at *; omega
def G19 : Nat := 10000000000000000000
theorem G19_eq : G19 = 10 ^ 19 := by unfold G19; decide
theorem G19_pos : 0 < G19 := by unfold G19; omega
theorem dec_groups {gs : List Nat} {i : Nat} (ok : Ok G19 gs) (hi : i < gs.length) (h1 : 1 ≤ val G19 (gs.drop (i + 1))) :
    Lib.decDigits (val G19 (gs.drop i)) = Lib.decDigits (val G19 (gs.drop (i + 1))) ++ pad 19 (nth gs i) := by
  rw [drop_cons gs i hi]
  have h2 := ok.nth G19_pos i
  rw [← dec_pad 19 _ _ h1 (by rw [← G19_eq]; exact h2), ← G19_eq]
  congr 1
  simp only [val]
  rw [Nat.mul_comm, Nat.add_comm]
theorem val_drop_pos {r : List Nat} {t j : Nat} (ht : 1 ≤ t) (hj : j < (r ++ [t]).length) : 1 ≤ val G19 ((r ++ [t]).drop j) := by
  have hj' : j ≤ r.length := by simp at hj; omega
  rw [List.drop_append_of_le_length hj', val_append]
  have h1 : 1 ≤ G19 ^ (r.drop j).length := Nat.one_le_pow _ _ G19_pos
  have h2 : 1 * 1 ≤ G19 ^ (r.drop j).length * val G19 [t] := Nat.mul_le_mul h1 (by simp [val]; omega)
  omega
theorem groups_few {gs : List Nat} {R n K : Nat} (h : val G19 gs + G19 ^ gs.length * R = n) (hR : 1 ≤ R) (hn : n < M64 ^ K) : gs.length < 2 * K := by
  have h1 : G19 ^ gs.length * 1 ≤ G19 ^ gs.length * R := Nat.mul_le_mul_left _ hR
  have h2 : M64 ≤ G19 ^ 2 := by unfold M64 G19; omega
  have h3 : M64 ^ K ≤ G19 ^ (2 * K) := by rw [Nat.pow_mul]; exact Nat.pow_le_pow_left h2 K
  exact (Nat.pow_lt_pow_iff_right (by unfold G19; omega)).1 (show G19 ^ gs.length < G19 ^ (2 * K) by omega)
theorem val_snoc_group {gs : List Nat} {R n r q : Nat} (h : val G19 gs + G19 ^ gs.length * R = n) (e : R = q * G19 + r) : val G19 (gs ++ [r]) + G19 ^ (gs ++ [r]).length * q = n := by
  rw [val_snoc, List.length_append, List.length_singleton, Nat.pow_succ, ← h, e]
  generalize G19 ^ gs.length = P
  grind
end Go.Proofs.YtfmebfkdpfbjbaaGreatDoor.Big
namespace Go.Proofs.YtfmebfkdpfbjbaaGreatDoor
open Go.RowKit
def At3 (w : World) (g : Nat) (T : TypeId) (a b c : Value) : Prop := w.heap[g]? = some (.cells #[a, b, c] T (0, 0))
section
variable {w w' : World} {g : Nat} {T : TypeId} {a b c : Value}
theorem At3.lt (h : At3 w g T a b c) : g < w.heap.size := by
  rcases Nat.lt_or_ge g w.heap.size with h1 | h1
  · exact h1
  · unfold At3 at h; rw [Array.getElem?_eq_none h1] at h; cases h
theorem At3.c0 (h : At3 w g T a b c) : w.cell? ⟨g, 0, none⟩ = some a := by rw [cell_of_row w g 0 _ _ (0, 0) h]; rfl
theorem At3.c1 (h : At3 w g T a b c) : w.cell? ⟨g, 1, none⟩ = some b := by rw [cell_of_row w g 1 _ _ (0, 0) h]; rfl
theorem At3.c2 (h : At3 w g T a b c) : w.cell? ⟨g, 2, none⟩ = some c := by rw [cell_of_row w g 2 _ _ (0, 0) h]; rfl
theorem At3.frozen (h : At3 w g T a b c) (i : Nat) : w.frozen? ⟨g, i, none⟩ = false := frozen_of_row w g i _ _ h
theorem At3.new (w : World) (T : TypeId) (a b c : Value) : At3 (w.alloc (.cells #[a, b, c] T)) w.heap.size T a b c := heap_alloc_new w _
theorem At3.alloc' (h : At3 w g T a b c) (o : Obj) : At3 (w.alloc o) g T a b c := (Below.heap_alloc w o g h.lt).trans h
theorem At3.drewN (h : At3 w g T a b c) (n : Nat) : At3 (w.drewN n) g T a b c := h
theorem At3.below (h : At3 w g T a b c) {B : Nat} (hb : Below B w w') (hg : g < B) : At3 w' g T a b c := (hb.block g hg).trans h
theorem At3.keep (h : At3 w g T a b c) (hb : Below w.heap.size w w') : At3 w' g T a b c := h.below hb h.lt
theorem At3.far (h : At3 w g T a b c) {p : Addr} (hp : g ≠ p.block) (u : Value) : At3 (w.setCell p u) g T a b c := (heap_setCell_other w p g u hp).trans h
theorem At3.put (h : At3 w g T a b c) (a' b' c' : Value) : At3 (((w.setCell ⟨g, 0, none⟩ a').setCell ⟨g, 1, none⟩ b').setCell ⟨g, 2, none⟩ c') g T a' b' c' := by
  have h1 := heap_setCell_same w g 0 _ _ a' h
  have h2 := heap_setCell_same _ g 1 _ _ b' h1
  have h3 := heap_setCell_same _ g 2 _ _ c' h2
  exact h3
theorem put_below {B : Nat} {w0 w : World} {g : Nat} (hb : Below B w0 w) (hg : B ≤ g) (a b c : Value) :
    Below B w0 (((w.setCell ⟨g, 0, none⟩ a).setCell ⟨g, 1, none⟩ b).setCell ⟨g, 2, none⟩ c) :=
  ((hb.setCell (p := ⟨g, 0, none⟩) hg a).setCell (p := ⟨g, 1, none⟩) hg b).setCell (p := ⟨g, 2, none⟩) hg c
end
theorem put_only (w : World) (g : Nat) (a b c : Value) : Only g w (((w.setCell ⟨g, 0, none⟩ a).setCell ⟨g, 1, none⟩ b).setCell ⟨g, 2, none⟩ c) :=
  (((Only.refl g w).setCell 0 a).setCell 1 b).setCell 2 c
theorem NatIn.only {w w' : World} {v : Value} {n g : Nat} (h : NatIn w v n) (hg : ∀ i x, w.cell? ⟨g, i, none⟩ ≠ some (.int .u64 x)) (ho : Only g w w') : NatIn w' v n := by
  obtain ⟨l, ⟨A, c, rfl, h1, h2, h3⟩, ok⟩ := h
  refine ⟨l, ⟨A, c, rfl, h1, h2, fun hl => ?_⟩, ok⟩
  obtain ⟨b, o, rfl, hlt, hc, hty⟩ := h3 hl
  have hne : b ≠ g := by
    intro e; subst e
    exact hg _ _ (hc 0 hl)
  exact ⟨b, o, rfl, Nat.lt_of_lt_of_le hlt ho.size, fun i hi => (ho.cell hlt hne).trans (hc i hi), hty.same (ho.block b hlt (fun e => hne (by cases e; rfl)))⟩
def NumRes (w : World) (g : Nat) (T : TypeId) : Prop := At3 w g T (.bool false) (.slice none 0 0) (.slice none 0 0)
theorem NumRes.no_int {w : World} {g : Nat} {T : TypeId} (h : NumRes w g T) (i : Nat) (x : Int) : w.cell? ⟨g, i, none⟩ ≠ some (.int .u64 x) := by
  unfold NumRes At3 at h
  rw [cell_of_row w g i _ _ (0, 0) h]
  match i with
  | 0 => simp
  | 1 => simp
  | 2 => simp
  | k + 3 => simp
theorem num_done {B : Nat} {w W : World} {g : Nat} {T : TypeId} {q : Rat} {a c : Value} {bb : Bool} (h : NumRes W g T) (hb : Below B w W) (hB : B ≤ g) (ha : NatIn W a (Big.nu q)) (hc : NatIn W c (Big.de q)) (hbb : bb = Big.ng q) :
    At3 (((W.setCell ⟨g, 0, none⟩ (.bool bb)).setCell ⟨g, 1, none⟩ a).setCell ⟨g, 2, none⟩ c) g T (.bool bb) a c ∧
      NumIn (((W.setCell ⟨g, 0, none⟩ (.bool bb)).setCell ⟨g, 1, none⟩ a).setCell ⟨g, 2, none⟩ c) (.agg #[.bool bb, a, c]) q ∧
      Below B w (((W.setCell ⟨g, 0, none⟩ (.bool bb)).setCell ⟨g, 1, none⟩ a).setCell ⟨g, 2, none⟩ c) := by
  subst hbb
  have ho := put_only W g (.bool (Big.ng q)) a c
  exact ⟨At3.put h _ _ _, ⟨a, c, rfl, ha.only h.no_int ho, hc.only h.no_int ho⟩, put_below hb hB _ _ _⟩
def Num1 (w : World) (q : Rat) (e : Ending) (w' : World) : Prop := ∃ v', e = .returned v' ∧ NumIn w' v' q ∧ Below w.heap.size w w'
theorem NumIn.is_agg {w : World} {v : Value} {q : Rat} (h : NumIn w v q) : ∃ A l c A2 l2 c2, v = .agg #[.bool (Big.ng q), .slice A l c, .slice A2 l2 c2] ∧ NatIn w (.slice A l c) (Big.nu q) ∧ NatIn w (.slice A2 l2 c2) (Big.de q) := by
  obtain ⟨a, b, rfl, h1, h2⟩ := h
  have k1 := h1; have k2 := h2
  obtain ⟨_, ⟨A, c, rfl, _⟩, _⟩ := h1
  obtain ⟨_, ⟨A2, c2, rfl, _⟩, _⟩ := h2
  exact ⟨_, _, _, _, _, _, rfl, k1, k2⟩
def Nat2 (b w : World) (r : Nat) (e : Ending) (w' : World) : Prop := ∃ v', e = .returned v' ∧ NatIn w' v' r ∧ Below b.heap.size b w' ∧ Below w.heap.size w w'
theorem below_alloc {B : Nat} {w0 w : World} (h : Below B w0 w) (hB : B ≤ w0.heap.size) (o : Obj) : Below B w0 (w.alloc o) := h.alloc (Nat.le_trans hB h.size) o
theorem below_drew {B : Nat} {a w : World} (h : Below B a w) : Below B a w.drew := ⟨h.os, h.tape, h.output, h.size, h.block⟩
theorem NatIn.dr {w : World} {v : Value} {n : Nat} (h : NatIn w v n) : NatIn w.drew v n := h.keep (below_drew (Below.refl _ _))
theorem put_cell {w : World} {b i g : Nat} {x : Option Value} (h : w.cell? ⟨b, i, none⟩ = x) (hne : b ≠ g) (u v z : Value) : (((w.setCell ⟨g, 0, none⟩ u).setCell ⟨g, 1, none⟩ v).setCell ⟨g, 2, none⟩ z).cell? ⟨b, i, none⟩ = x := by
  rw [World.cell?_setCell_other _ _ _ _ (by simp), World.cell?_setCell_other _ _ _ _ (by simp), World.cell?_setCell_other _ _ _ _ (by simp)]; exact h
theorem alloc_size (w : World) (o : Obj) : (w.alloc o).heap.size = w.heap.size + 1 := by simp
theorem boxed3 (w : World) (T U : TypeId) (a b c a' b' c' x y z : Value) :
    At3 (((w.alloc (.cells #[a, b, c] T)).alloc (.cells #[a', b', c'] T)).alloc (.cells #[x, y, z] U)) w.heap.size T a b c ∧
    At3 (((w.alloc (.cells #[a, b, c] T)).alloc (.cells #[a', b', c'] T)).alloc (.cells #[x, y, z] U)) (w.heap.size + 1) T a' b' c' ∧
    At3 (((w.alloc (.cells #[a, b, c] T)).alloc (.cells #[a', b', c'] T)).alloc (.cells #[x, y, z] U)) (w.heap.size + 1 + 1) U x y z ∧
    Below w.heap.size w (((w.alloc (.cells #[a, b, c] T)).alloc (.cells #[a', b', c'] T)).alloc (.cells #[x, y, z] U)) := by
  refine ⟨((At3.new w T a b c).alloc' _).alloc' _, ?_, ?_, below_alloc (below_alloc (below_alloc (Below.refl _ _) (Nat.le_refl _) _) (Nat.le_refl _) _) (Nat.le_refl _) _⟩
  · have h := (At3.new (w.alloc (.cells #[a, b, c] T)) T a' b' c').alloc' (.cells #[x, y, z] U)
    rwa [alloc_size] at h
  · have h := At3.new ((w.alloc (.cells #[a, b, c] T)).alloc (.cells #[a', b', c'] T)) U x y z
    rwa [alloc_size, alloc_size] at h
theorem boxed2 (w : World) (T U : TypeId) (a b c x y z : Value) :
    At3 ((w.alloc (.cells #[a, b, c] T)).alloc (.cells #[x, y, z] U)) w.heap.size T a b c ∧
    At3 ((w.alloc (.cells #[a, b, c] T)).alloc (.cells #[x, y, z] U)) (w.heap.size + 1) U x y z ∧
    Below w.heap.size w ((w.alloc (.cells #[a, b, c] T)).alloc (.cells #[x, y, z] U)) := by
  refine ⟨(At3.new w T a b c).alloc' _, ?_, below_alloc (below_alloc (Below.refl _ _) (Nat.le_refl _) _) (Nat.le_refl _) _⟩
  have h := At3.new (w.alloc (.cells #[a, b, c] T)) U x y z
  rwa [alloc_size] at h
end Go.Proofs.YtfmebfkdpfbjbaaGreatDoor
namespace Go.Proofs.YtfmebfkdpfbjbaaGreatDoor
open Go.RowKit
theorem Tryz.infoByte : (Tryz.prog.info? 5).map (fun i => (i.zero, i.size, i.bytes)) = some (some (.int .u8 0), 1, 1) := by kernel_rfl
def Row (w : World) (B : Nat) (v : Value) (n : Nat) (l : List UInt8) : Prop := w.ownsRow B 5 1 v n (Lib.byteCells l)
set_option maxHeartbeats 2000000 in
set_option maxRecDepth 100000 in
theorem appendGroup_any (B n g : Nat) (hg : g < 10000000000000000000) (sv : Value) (l : List UInt8) (w : World) (hown : Row w B sv n l) (hBw : B ≤ w.heap.size) (hlim : n ≤ 100000000000000) (htab : Tab w) :
    Calls Tryz.prog 218 #[sv, .int .u64 (g : Int)] w fun e w' => ∃ v', e = .returned v' ∧ Row w' B v' (n + 19) (l ++ Big.pad 19 g) ∧ Below B w w' := by
  obtain ⟨i0, hi, hz0, hz1, hz2⟩ := info_parts Tryz.infoByte
  have hg' : g < 10 ^ 19 := by omega
  have HPAD := Lib.hid (Big.pad_dec 19 g (by omega) hg')
  have hl1 := Lib.decDigits_length g
  have hl2 : (Lib.decDigits g).length ≤ 19 := by
    rw [hl1]
    rcases Nat.lt_or_ge 19 (Lib.nDigits g) with h | h
    · exfalso
      have e := Big.pad_length 19 g
      rw [← HPAD.out, List.length_append, List.length_replicate, hl1] at e
      omega
    · exact h
  have C := Lib.hid (formatUint_any g (by omega) w htab)
  obtain ⟨D, hD⟩ : ∃ D, Lib.decDigits g = D := ⟨_, rfl⟩
  rw [hD] at HPAD hl2 C
  have hsz : (⟨D.toArray⟩ : ByteArray).size = D.length := by simp [ByteArray.size]
  obtain ⟨S, hS⟩ : ∃ S : ByteArray, (⟨D.toArray⟩ : ByteArray) = S := ⟨_, rfl⟩
  obtain ⟨m, hm⟩ : ∃ m, D.length = m := ⟨_, rfl⟩
  rw [hS] at hsz C
  rw [hm] at hsz hl2 HPAD
  have HS := Lib.hid (And.intro hS (And.intro hsz hm))
  have HO := Lib.hid hown
  have hc19 : (19 : Int) - (m : Int) = ((19 - m : Nat) : Int) := by omega
  have hw19 : IntKind.i64.wrap ((19 : Int) - (m : Int)) = ((19 - m : Nat) : Int) := by rw [hc19]; exact IntWalk.i64_in _ (by omega)
  obtain ⟨c, hc⟩ : ∃ c, 19 - m = c := ⟨_, rfl⟩
  rw [hc] at hc19 hw19 HPAD
  have hcl : c + m = 19 := by omega
  have HC := Lib.hid hc
  clear hl1 hS hm hown htab hD hg hg' hc
  go_enter Tryz.func218, Tryz.ntmps218
  go_wp2_with fail
  refine C.out.mono ?_
  rintro e w1 ⟨rfl, hw1⟩
  have HO1 := Lib.hid (show Row w1 B sv n l from World.ownsRow.kept HO.out (row := none) ⟨hw1.os, hw1.tape, hw1.output, hw1.size, fun k hk _ => hw1.block k hk⟩ (by cases hv : sv.ownBlock <;> simp))
  have HB1 := Lib.hid (hw1.mono hBw)
  have hBw1 : B ≤ w1.heap.size := Nat.le_trans hBw hw1.size
  have hsz := HS.out.2.1
  clear hw1
  go_wp2_with fail
  clear hsz hw19 hc19
  go_loopw [0, 11] (fun s i wr => ∃ k : Nat, k ≤ c ∧ i = .int .i64 k ∧ Hid (Row wr B s (n + k) (l ++ List.replicate k 48)) ∧ Hid (Below B w wr) ∧ B ≤ wr.heap.size) (fun _ i _ => c - (intOf i).toNat)
  case atStart => exact ⟨0, by omega, rfl, Lib.hid (by simpa using HO1.out), HB1, hBw1⟩
  case round =>
    obtain ⟨k, hk, rfl, HR, HB, hBr⟩ := hrel
    by_cases hkc : k < c
    · have hkI : (k : Int) < (c : Int) := by omega
      have HO := Lib.hid (HR.out.alloc (.cells #[.int .u8 48] 5))
      go_wp2_with (at_builtin; refine wpList_append_own _ rfl _ _ 48 rfl B 5 i0 (.int .u8 0) 1 1 Tryz.underlying48 hi hz0 hz1 hz2 rfl (by decide) _ _ _ rfl HO.out ⟨_, 0, none⟩ 1 1 [Value.int .u8 48] rfl rfl (by intro j u' hj; match j, hj with | 0, hj => simp at hj; subst hj; simp [Addr.add]) (by intro u' hu'; simp at hu'; subst hu'; rfl) (by unfold maxLen; omega) (by omega) (by simp; omega) ?_)
      intro v1 w2 hown1 hgrow _
      have HO2 := Lib.hid hown1
      have HB2 := Lib.hid ((below_alloc HB.out (Nat.le_trans hBw (Nat.le_refl _)) (.cells #[.int .u8 48] 5)).grown hgrow (by simp; omega) (fun k hk => (HR.out.lt k hk).1))
      have hBr2 : B ≤ w2.heap.size := by have := hgrow.size; simp at this; omega
      clear hown1 hgrow
      go_wp2_with fail
      go_roundw
      case rel =>
        refine ⟨k + 1, by omega, by go_num, Lib.hid ?_, HB2, hBr2⟩
        have h1 := HO2.out
        unfold Row
        rw [List.replicate_succ', ← List.append_assoc, Lib.byteCells_append]
        exact h1
      case measure => simp [intOf]; omega
    · have hkl : k = c := by omega
      subst hkl
      go_wp2_with (at_builtin; refine Lib.wpList_append_own_string _ rfl _ _ 48 9 rfl B 5 i0 Tryz.underlying48 Tryz.underlying9 hi hz0 hz1 hz2 _ _ _ rfl HR.out S rfl (by rw [HS.out.2.1]; unfold maxLen; omega) (by rw [HS.out.2.1]; omega) hBr ?_)
      intro v1 w2 hown1 hgrow _
      have HO2 := Lib.hid hown1
      have HB2 := Lib.hid (HB.out.grown hgrow hBr (fun k hk => (HR.out.lt k hk).1))
      clear hown1 hgrow
      go_wp2_with fail
      go_ret
      refine ⟨_, rfl, ?_, HB2.out⟩
      have h1 := HO2.out
      rw [show n + k + m = n + 19 by omega, Lib.byteCells_append, List.append_assoc] at h1
      have e : Lib.strCells S = Lib.byteCells D := by rw [← HS.out.1]; simp [Lib.strCells, Lib.byteCells]
      rw [e] at h1
      unfold Row
      rw [← HPAD.out, Lib.byteCells_append, Lib.byteCells_append]
      exact h1
end Go.Proofs.YtfmebfkdpfbjbaaGreatDoor
namespace Go.Proofs.YtfmebfkdpfbjbaaGreatDoor
open Go.RowKit
def Grs (w : World) (B : Nat) (v : Value) (gs : List Nat) : Prop := w.ownsRow B 95 1 v gs.length (cellsOf .u64 gs).toList
structure GI (n : Nat) (gs : List Nat) (R : Nat) : Prop where
  ok : Big.Ok Big.G19 gs
  eq : Big.val Big.G19 gs + Big.G19 ^ gs.length * R = n
  top : R = 0 → ∃ r t, gs = r ++ [t] ∧ 1 ≤ t
theorem Tryz.infoU64' : (Tryz.prog.info? 95).map (fun i => (i.zero, i.size, i.bytes)) = some (some (.int .u64 0), 1, 8) := by kernel_rfl
def QW (W : World) (g k : Nat) (L : List Nat) (e : Ending) (w' : World) : Prop := ∃ (r : Nat) (zs : List Nat), e = .returned (.int .u64 (r : Int)) ∧ r < Big.G19 ∧ zs.length = k ∧ Big.Ok Big.M64 zs ∧ Big.val Big.M64 (L.take k) = Big.val Big.M64 zs * Big.G19 + r ∧
  Blk w' g 95 .u64 (zs ++ L.drop k) ∧ Only g W w'
set_option maxHeartbeats 1000000 in
set_option maxRecDepth 100000 in
theorem text_any (w : World) (v : Value) (n K : Nat) (h : NatIn w v n) (hn : Sz K n) (hK : K ≤ 100000000) (htab : Tab w) :
    Calls Tryz.prog 154 #[v] w fun e w' => e = .returned (.string ⟨(Lib.decDigits n).toArray⟩) ∧ Below w.heap.size w w' := by
  obtain ⟨l, hx, ol, nl, rfl⟩ := h
  have hl := len_of_lt nl hn.out
  by_cases h0 : l = []
  · subst h0
    obtain ⟨A, c, rfl, -, -, -⟩ := hx
    have e : Big.val Big.M64 [] = 0 := rfl
    rw [e]
    have HD := Lib.hid (show (⟨(Lib.decDigits 0).toArray⟩ : ByteArray) = ⟨#[48]⟩ by rw [Lib.decDigits_one (by omega)]; rfl)
    clear hn htab ol nl hl e
    go_enter Tryz.func154, Tryz.ntmps154
    go_wp2_with fail
    go_ret
    exact ⟨by rw [HD.out]; rfl, Below.refl _ _⟩
  have hne : Big.val Big.M64 l ≠ 0 := fun e => h0 (Big.norm_zero Big.M64_pos l nl e)
  have HX := Lib.hid hx; have OL := Lib.hid (And.intro ol nl); have HT := Lib.hid htab; have HS := Lib.hid hn
  have t0 : ((l.length : Int) == 0) = false := beq_eq_false_iff_ne.2 (by have := List.length_pos_iff.2 h0; omega)
  obtain ⟨A, c, rfl, -, -, -⟩ := hx
  obtain ⟨i0, hi, hz0, hz1, hz2⟩ := info_parts Tryz.infoU64'
  obtain ⟨N, hN⟩ : ∃ N, Big.val Big.M64 l = N := ⟨_, rfl⟩
  rw [hN] at hne HS ⊢
  have HN := Lib.hid hN
  clear ol nl htab hn hN h0
  go_enter Tryz.func154, Tryz.ntmps154
  go_wp2_with fail
  refine (clone_any w _ l HX.out (by omega)).mono ?_
  rintro e w1 ⟨rfl, hk1, hk2⟩
  have HP := Lib.hid (own_clone hk1 OL.out.1 OL.out.2 (by omega))
  rw [HN.out] at HP
  have HB := Lib.hid hk2
  have HG := Lib.hid hk1.lt
  clear hk1 hk2
  have hw1 : w.heap.size ≤ w1.heap.size := HB.out.size
  go_wp2_with fail
  have CW := Lib.hid (fun W L k c' (hb : Blk W w.heap.size 95 .u64 L) (a1 : k ≤ L.length) (a2 : k ≤ c') (a3 : Big.Ok Big.M64 L) (a4 : k ≤ 1000000000000) =>
    show Calls Tryz.prog 182 #[.slice (some ⟨w.heap.size, 0, none⟩) k c', .int .u64 10000000000000000000] W (QW W w.heap.size k L) from quoWord_any W w.heap.size k c' Big.G19 L hb a1 a2 a3 Big.G19_pos (by unfold Big.G19 Big.M64; omega) a4)
  go_loopw [3, 4] (fun gv rv wr => ∃ (gs : List Nat) (R : Nat), Hid (OwnNat wr rv w.heap.size (l.length + 1) R) ∧ Hid (Grs wr (w.heap.size + 1) gv gs) ∧ Hid (GI N gs R) ∧ Hid (Below w.heap.size w wr)) (fun _ rv wr => numAt wr rv)
  case atStart => exact ⟨[], N, HP, Lib.hid (World.ownsRow_nil _ _ _ _), Lib.hid ⟨Big.Ok.nil, by simp [Big.val], fun e => absurd e hne⟩, HB⟩
  case round =>
    obtain ⟨gs, R, HO, HGr, HI, HBr⟩ := hrel
    obtain ⟨k, X, rfl, hb, hk, hcX, hcl, oX, nX, lX, hv⟩ := HO.out.len
    have HX1 := Lib.hid (And.intro hb (And.intro oX (And.intro nX (And.intro lX hv)))); have HX2 := Lib.hid (And.intro hk (And.intro hcX hcl))
    have hkR : k = 0 ↔ R = 0 := by
      rw [← hv]
      constructor
      · intro e; subst e; rfl
      · intro e; have := Big.norm_zero Big.M64_pos _ nX e; rw [this] at lX; simpa using lX.symm
    have hnum := numAt_own HO.out
    have HNUM := Lib.hid hnum
    have hgl := hb.lt
    clear hb oX nX lX hv hcX hcl hnum
    rcases Nat.eq_zero_or_pos k with hk0 | hk0
    · have hR0 := hkR.1 hk0
      subst hk0 hR0
      obtain ⟨r, t, hgs, ht1⟩ := HI.out.top rfl
      have hval : Big.val Big.G19 gs = N := by have := HI.out.eq; rw [Nat.mul_zero, Nat.add_zero] at this; exact this
      obtain ⟨m, hm⟩ : ∃ m, r.length = m := ⟨_, rfl⟩
      have hlenM : gs.length = m + 1 := by rw [hgs]; simp [hm]
      have hmb : m ≤ 2 * K := by
        rcases Nat.eq_zero_or_pos m with e | e
        · omega
        · have h1 := Big.groups_few (gs := r) (R := t) (n := N) (K := K) (by rw [← hval, hgs, Big.val_snoc]) ht1 HS.out.out
          omega
      have hG := HGr.out
      rcases hG.2 with ⟨_, e⟩ | ⟨gb, cap, cur, hu3, hgb, hblk, -⟩
      · omega
      subst hu3
      have hcell : ∀ j, j < m + 1 → wr.cell? ⟨gb, j, none⟩ = some (.int .u64 ((Big.nth gs j : Nat) : Int)) := fun j hj => by
        rw [World.ownsRow.cellAt hG j (by omega), ← cellsOf_get .u64 gs j (by omega)]; simp
      have hgbl : gb < wr.heap.size := (Array.getElem?_eq_some_iff.1 hblk).1
      have hnth : Big.nth gs m = t := by rw [hgs]; unfold Big.nth; rw [List.getD_eq_getElem?_getD, List.getElem?_append_right (by omega), hm]; simp
      have c0 := hcell m (by omega)
      rw [hnth] at c0
      have htG : t < Big.G19 := by rw [← hnth]; exact HI.out.ok.nth Big.G19_pos m
      have HCELL := Lib.hid hcell
      have HGS := Lib.hid (And.intro hgs (And.intro hm (And.intro hlenM (And.intro hval HI.out.ok))))
      have HTG := Lib.hid (And.intro ht1 htG)
      have hdrop : Big.val Big.G19 (gs.drop m) = t := by rw [hgs, List.drop_append_of_le_length (by omega), ← hm, List.drop_length]; simp [Big.val]
      have HDR := Lib.hid hdrop
      have CA := Lib.hid (fun hB => appendUint_any wr.heap.size 0 t (by unfold Big.G19 at htG; omega) (.slice none 0 0) [] wr (World.ownsRow_nil _ _ _ _) hB (by omega) (HT.out.keep HBr.out))
      have hle20 : (Lib.decDigits t).length ≤ 20 := by
        rw [Lib.decDigits_length]
        have := Lib.numDigits_eq t ht1 (by unfold Big.G19 at htG; omega); split at this <;> omega
      have HLE := Lib.hid hle20
      obtain ⟨M, hM⟩ : ∃ M, gs.length = M := ⟨_, rfl⟩
      rw [hM] at hlenM ⊢
      have i1 : (M : Int) - 1 = (m : Int) := by omega
      have i2 : (m : Int) < (M : Int) := by omega
      have i3 : M ≤ 1000000001 := by omega
      clear hgs hval hm hG hblk hcell hnth htG hdrop hle20 hM hlenM HO HNUM HX1 HX2 HGr HI hkR ht1
      go_wp2_with fail
      refine (CA.out (Nat.le_refl _)).mono ?_
      rintro e w5 ⟨v5, rfl, hv5, hw5⟩
      have HV5 := Lib.hid (show Row w5 wr.heap.size v5 (0 + (Lib.decDigits t).length) (Lib.decDigits t) from hv5)
      have HW5 := Lib.hid hw5
      clear hv5 hw5 CA c0
      go_wp2_with fail
      go_loopw [6, 7] (fun s i wq => ∃ (j nb : Nat), j ≤ m ∧ i = .int .i64 ((j : Int) - 1) ∧ nb ≤ 20 * (m + 1 - j) ∧ Hid (Row wq wr.heap.size s nb (Lib.decDigits (Big.val Big.G19 (gs.drop j)))) ∧ Hid (Below wr.heap.size wr wq)) (fun _ i _ => (intOf i + 1).toNat)
      case atStart => exact ⟨m, 0 + (Lib.decDigits t).length, Nat.le_refl _, rfl, by have := HLE.out; omega, Lib.hid (by rw [HDR.out]; exact HV5.out), HW5⟩
      case round =>
        obtain ⟨j, nb, hj, rfl, hnb, HR, HBq⟩ := hrel
        rename World => wq
        rcases Nat.eq_zero_or_pos j with hj0 | hj0
        · subst hj0
          have hR := HR.out
          rw [List.drop_zero, HGS.out.2.2.2.1] at hR
          have hlen := hR.1
          rw [Nat.mul_one, Lib.byteCells_length] at hlen
          rcases hR.2 with ⟨_, e⟩ | ⟨gs', cap', cur', hu6, hgb', hblk', -⟩
          · exfalso
            rw [← hlen] at e
            exact Big.dec_ne N (List.length_eq_zero_iff.1 e)
          subst hu6
          have hcv := run_convert_bytes_back (P := Tryz.prog) wq 48 9 5 ⟨gs', 0, none⟩ cap' (Lib.decDigits N) Tryz.underlying48 Tryz.underlying5 Tryz.underlying9 (fun i hi => by
            rw [Lib.add_plain, Nat.zero_add, World.ownsRow.cellAt hR i (by omega)]
            simp [Lib.byteCells, hi])
          rw [hlen] at hcv
          have HEND := Lib.hid (HBr.out.trans (HBq.out.mono HBr.out.size))
          clear hR hlen hblk'
          go_wp2_with fail
          go_ret
          exact ⟨rfl, HEND.out⟩
        · obtain ⟨j', rfl⟩ : ∃ j', j = j' + 1 := ⟨j - 1, by omega⟩
          have e1 : (((j' + 1 : Nat) : Int) - 1) = (j' : Int) := by omega
          rw [e1]
          have hjm : (j' : Int) < (M : Int) := by omega
          have hj0' : (0 : Int) ≤ (j' : Int) := by omega
          have c0 := (HBq.out.cell (p := ⟨gb, j', none⟩) hgbl).trans (HCELL.out j' (by omega))
          have hposd : 1 ≤ Big.val Big.G19 (gs.drop (j' + 1)) := by
            rw [HGS.out.1]
            exact Big.val_drop_pos HTG.out.1 (by have := HGS.out.2.1; simp; omega)
          have HDG := Lib.hid (Big.dec_groups HGS.out.2.2.2.2 (show j' < gs.length by have := HGS.out.2.2.1; omega) hposd)
          have hgG := HGS.out.2.2.2.2.nth Big.G19_pos j'
          obtain ⟨x, hx⟩ : ∃ x, Big.nth gs j' = x := ⟨_, rfl⟩
          rw [hx] at c0 HDG hgG
          have CG := Lib.hid (appendGroup_any wr.heap.size nb x hgG u6 _ wq HR.out HBq.out.size (by omega) (HT.out.keep (HBr.out.trans (HBq.out.mono HBr.out.size))))
          clear hposd hgG hx e1
          go_wp2_with fail
          refine CG.out.mono ?_
          rintro e w7 ⟨v7, rfl, hv7, hw7⟩
          have HV7 := Lib.hid hv7; have HB7 := Lib.hid (HBq.out.trans hw7)
          clear hv7 hw7
          go_wp2_with fail
          go_roundw
          case rel => exact ⟨j', nb + 19, by omega, rfl, by omega, Lib.hid (by rw [HDG.out]; exact HV7.out), HB7⟩
          case measure => first | (simp [intOf]; done) | (simp [intOf]; omega)
    · have hkI : (k : Int) > 0 := by omega
      have hR1 : 1 ≤ R := by
        rcases Nat.eq_zero_or_pos R with e | e
        · exact absurd (hkR.2 e) (by omega)
        · exact e
      go_wp2_with fail
      refine (CW.out _ X k _ HX1.out.1 (by have := HX2.out; omega) HX2.out.1 HX1.out.2.1 (by have := HX2.out; omega)).mono ?_
      rintro e w2 ⟨r, zs, rfl, hrl, hzl, hzo, hzv, hzb, hzw⟩
      have HZ := Lib.hid (And.intro hzl (And.intro hzo (And.intro hzv hrl)))
      have HZB := Lib.hid hzb
      have HGr2 := Lib.hid (show Grs w2 (w.heap.size + 1) u3 gs from World.ownsRow.kept HGr.out hzw (by
        rcases hv : u3.ownBlock with _ | kk
        · exact Or.inl rfl
        · exact Or.inr (by have := (HGr.out.lt kk hv).1; intro e; injection e with e; omega)))
      have HBr2 := Lib.hid (hzw.below HBr.out (Nat.le_refl _) HBr.out.size)
      have hgl2 := hzb.lt
      clear hzl hzo hzv hzb hzw hrl
      have hlenb : gs.length < 2 * K := by have hi := HI.out.eq; exact Big.groups_few hi hR1 (by rw [← HN.out] at HS; have h1 := HS.out.out; rw [HN.out] at h1; exact h1)
      have HO3 := Lib.hid (HGr2.out.alloc (.cells #[.int .u64 (r : Int)] 95))
      have HBr3 := Lib.hid (below_alloc HBr2.out (Nat.le_refl _) (.cells #[.int .u64 (r : Int)] 95))
      have HZ3 := Lib.hid (HZB.out.alloc' (.cells #[.int .u64 (r : Int)] 95))
      have hbs : w.heap.size + 1 ≤ w2.heap.size + 1 := by omega
      go_wp2_with (at_builtin; refine wpList_append_own _ rfl _ _ 68 rfl (w.heap.size + 1) 95 i0 (.int .u64 0) 1 8 Tryz.underlying68 hi hz0 hz1 hz2 rfl (by decide) _ _ _ rfl HO3.out ⟨_, 0, none⟩ 1 1 [Value.int .u64 (r : Int)] rfl rfl (by intro j u' hj; match j, hj with | 0, hj => simp at hj; subst hj; simp [Addr.add]) (by intro u' hu'; simp at hu'; subst hu'; rfl) (by unfold maxLen; omega) (by omega) (by simp; omega) ?_)
      intro v4 w4 hown4 hgrow4 _
      have HGr4 := Lib.hid (show Grs w4 (w.heap.size + 1) v4 (gs ++ [r]) by
        unfold Grs; rw [List.length_append, List.length_singleton, cellsOf_toList, List.map_append, ← cellsOf_toList]; exact hown4)
      have HB4 := Lib.hid (HBr3.out.grown hgrow4 HBr3.out.size (fun kk hk => by have := (HO3.out.lt kk hk).1; omega))
      have HZ4 := Lib.hid (show Blk w4 w.heap.size 95 .u64 (zs ++ X.drop k) from (hgrow4.block w.heap.size HZ3.out.lt (by
        intro e; have := (HO3.out.lt w.heap.size e.symm).1; omega)).trans HZ3.out)
      have T := trimmed HZ4.out HZ.out.1 HX2.out.2.1 HX2.out.1 HX2.out.2.2 HZ.out.2.1 HX1.out.2.1
      have HTr := Lib.hid T
      have CT := Lib.hid (trim_call T.1 HZ.out.1)
      clear hown4 hgrow4 T HBr3 HZ3 HO3 HZB HBr2 HGr2 hbs
      go_wp2_with fail
      refine CT.out.mono ?_
      rintro e w' ⟨rfl, rfl⟩
      go_wp2_with fail
      have eq1 : R = Big.val Big.M64 zs * Big.G19 + r := by have h1 := HZ.out.2.2.1; rw [HX1.out.2.2.2.2] at h1; exact h1
      go_roundw
      case rel =>
        refine ⟨gs ++ [r], Big.val Big.M64 zs, Lib.hid HTr.out.2, HGr4, Lib.hid ⟨HI.out.ok.append (Big.Ok.cons HZ.out.2.2.2 Big.Ok.nil), Big.val_snoc_group HI.out.eq eq1, fun e => ⟨gs, r, rfl, ?_⟩⟩, HB4⟩
        rw [e, Nat.zero_mul, Nat.zero_add] at eq1
        omega
      case measure =>
        rw [numAt_own HTr.out.2, HNUM.out, eq1]
        have h2 : Big.val Big.M64 zs * 2 ≤ Big.val Big.M64 zs * Big.G19 := Nat.mul_le_mul_left _ (by unfold Big.G19; omega)
        omega
end Go.Proofs.YtfmebfkdpfbjbaaGreatDoor
