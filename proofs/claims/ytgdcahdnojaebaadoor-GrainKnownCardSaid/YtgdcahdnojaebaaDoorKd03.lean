/- Contracts, in this order: Texts of sixteen digits (plain). · Plain arithmetic of numbers written as lists of words, the lowest first: no program. · Slices that read as lists of words, in a world: what is kept by later worlds. No program. · A block of the call's own that holds words: made, filled, stored into, read as a slice. No program. · internal/strconv.formatBits at base 16. -/
import Derived.WalkKit
import Derived.Laws.OwnMore
import Derived.Deep.Draws
import Derived.Deep.QuietTactic
import Derived.BigQuiet
import Derived.Lib.Hide
import Derived.Laws.CopyOwn
import Derived.Laws.MakeOwn
import Derived.OwnWalk
import Derived.Test.YtgdcahdnojaebaaDoorChecked
import Derived.Laws.Closers25
import Derived.Laws.IdiomStrings
import Derived.LoopTactic
import Derived.Lib.ItoaMem
import Derived.Laws.BitsAllLaws
/- Texts of sixteen digits (plain). -/
namespace Go.Proofs.YtgdcahdnojaebaaDoor
namespace Hx

/-- What a digit tells: of both cases; of the lower case alone. -/
def hd (c : UInt8) : Option Nat := if 48 ≤ c.toNat ∧ c.toNat ≤ 57 then some (c.toNat - 48) else if 97 ≤ (c ||| 32).toNat ∧ (c ||| 32).toNat ≤ 102 then some ((c ||| 32).toNat - 87) else none
def ld (c : UInt8) : Option Nat := if 48 ≤ c.toNat ∧ c.toNat ≤ 57 then some (c.toNat - 48) else if 97 ≤ c.toNat ∧ c.toNat ≤ 102 then some (c.toNat - 87) else none
def hxv : Nat → List UInt8 → Option Nat
  | a, [] => some a
  | a, c :: r => match hd c with | none => none | some d => hxv (a * 16 + d) r
def lxv : Nat → List UInt8 → Option Nat
  | a, [] => some a
  | a, c :: r => match ld c with | none => none | some d => lxv (a * 16 + d) r
def hdig (d : Nat) : UInt8 := UInt8.ofNat (if d < 10 then 48 + d else 87 + d)
/-- The last k digits. -/
def hexk : Nat → Nat → List UInt8
  | 0, _ => []
  | k + 1, n => hexk k (n / 16) ++ [hdig (n % 16)]
def hex (n : Nat) : List UInt8 := if _h : n < 16 then [hdig n] else hex (n / 16) ++ [hdig (n % 16)]
termination_by n

theorem all_dig : ∀ d, d < 16 → ld (hdig d) = some d ∧ hd (hdig d) = some d := by decide
theorem ld_hd : ∀ c : UInt8, ∀ d, ld c = some d → hd c = some d ∧ d < 16 ∧ hdig d = c := by
  intro c d h
  have key : ∀ n : Fin 256, ∀ d, ld (UInt8.ofNat n.val) = some d → hd (UInt8.ofNat n.val) = some d ∧ d < 16 ∧ hdig d = UInt8.ofNat n.val := by
    intro n d hd'
    have hlt : d < 16 := by
      unfold ld at hd'
      split at hd'
      · cases hd'; omega
      · split at hd'
        · cases hd'; omega
        · cases hd'
    have hall : ∀ n : Fin 256, ∀ d : Fin 16, ld (UInt8.ofNat n.val) = some d.val → hd (UInt8.ofNat n.val) = some d.val ∧ hdig d.val = UInt8.ofNat n.val := by decide +kernel
    have := hall n ⟨d, hlt⟩ hd'
    exact ⟨this.1, hlt, this.2⟩
  have e : UInt8.ofNat c.toNat = c := by simp
  have := key ⟨c.toNat, c.toNat_lt⟩ d (by rw [e]; exact h)
  rw [e] at this
  exact this
theorem hd_lt {c : UInt8} {d : Nat} (h : hd c = some d) : d < 16 := by
  unfold hd at h
  split at h
  · cases h; omega
  · split at h
    · cases h; omega
    · cases h

theorem hexk_len (k n : Nat) : (hexk k n).length = k := by
  induction k generalizing n with
  | zero => rfl
  | succ k ih => simp [hexk, ih]
theorem hxv_append (a : Nat) (l r : List UInt8) : hxv a (l ++ r) = (hxv a l).bind fun b => hxv b r := by
  induction l generalizing a with
  | nil => rfl
  | cons c l ih =>
    simp only [List.cons_append, hxv]
    cases hd c with
    | none => rfl
    | some d => exact ih _
theorem lxv_append (a : Nat) (l r : List UInt8) : lxv a (l ++ r) = (lxv a l).bind fun b => lxv b r := by
  induction l generalizing a with
  | nil => rfl
  | cons c l ih =>
    simp only [List.cons_append, lxv]
    cases ld c with
    | none => rfl
    | some d => exact ih _
theorem hexk_read (k n : Nat) (h : n < 16 ^ k) : lxv 0 (hexk k n) = some n ∧ hxv 0 (hexk k n) = some n := by
  induction k generalizing n with
  | zero =>
    have : n = 0 := by simpa using h
    subst this; exact ⟨rfl, rfl⟩
  | succ k ih =>
    have hq : n / 16 < 16 ^ k := Nat.div_lt_of_lt_mul (by rw [Nat.pow_succ, Nat.mul_comm] at h; exact h)
    obtain ⟨h1, h2⟩ := ih _ hq
    obtain ⟨d1, d2⟩ := all_dig (n % 16) (Nat.mod_lt _ (by omega))
    unfold hexk
    rw [lxv_append, hxv_append, h1, h2]
    simp only [Option.bind_some, lxv, hxv, d1, d2]
    have := Nat.div_add_mod n 16
    exact ⟨by congr 1; omega, by congr 1; omega⟩
theorem lxv_val (l : List UInt8) (a b : Nat) (h : lxv a l = some b) : hxv a l = some b ∧ b < (a + 1) * 16 ^ l.length ∧ hexk l.length b = l ∧ b / 16 ^ l.length = a := by
  induction l generalizing a with
  | nil => cases h; simp [hxv, hexk]
  | cons c r ih =>
    unfold lxv at h
    cases hc : ld c with
    | none => rw [hc] at h; cases h
    | some d =>
      rw [hc] at h
      obtain ⟨e1, e2, e3⟩ := ld_hd c d hc
      obtain ⟨i1, i2, i3, i4⟩ := ih _ h
      refine ⟨by simp only [hxv, e1]; exact i1, ?_, ?_, ?_⟩
      · have h1 : (a * 16 + d + 1) * 16 ^ r.length ≤ ((a + 1) * 16) * 16 ^ r.length := Nat.mul_le_mul_right _ (by omega)
        rw [List.length_cons, Nat.pow_succ, Nat.mul_comm (16 ^ _) 16, ← Nat.mul_assoc]; omega
      · have hk : ∀ k n, hexk (k + 1) n = hdig (n / 16 ^ k % 16) :: hexk k n := by
          intro k
          induction k with
          | zero => intro n; simp [hexk]
          | succ k ik =>
            intro n
            show hexk (k + 1) (n / 16) ++ [hdig (n % 16)] = hdig (n / 16 ^ (k + 1) % 16) :: (hexk k (n / 16) ++ [hdig (n % 16)])
            rw [ik, Nat.pow_succ, Nat.mul_comm, ← Nat.div_div_eq_div_mul]; rfl
        rw [List.length_cons, hk, i3, i4, show (a * 16 + d) % 16 = d by omega, e3]
      · rw [List.length_cons, Nat.pow_succ, ← Nat.div_div_eq_div_mul, i4]; omega
theorem hex_pad (k n : Nat) (hk : 1 ≤ k) (h : n < 16 ^ k) : (hex n).length ≤ k ∧ 1 ≤ (hex n).length ∧ List.replicate (k - (hex n).length) 48 ++ hex n = hexk k n := by
  induction k generalizing n with
  | zero => omega
  | succ k ih =>
    by_cases hn : n < 16
    · have e : hex n = [hdig n] := by rw [hex, dif_pos hn]
      have hz : ∀ k, hexk k 0 = List.replicate k 48 := by
        intro k
        induction k with
        | zero => rfl
        | succ k ik => show hexk k (0 / 16) ++ [hdig 0] = _; rw [show 0 / 16 = 0 from rfl, ik, List.replicate_succ']; rfl
      rw [e]
      refine ⟨by simp, by simp, ?_⟩
      show List.replicate (k + 1 - 1) 48 ++ [hdig n] = hexk k (n / 16) ++ [hdig (n % 16)]
      rw [show n / 16 = 0 by omega, hz, Nat.mod_eq_of_lt hn]; rfl
    · have e : hex n = hex (n / 16) ++ [hdig (n % 16)] := by rw [hex, dif_neg hn]
      have hk1 : 1 ≤ k := by
        rcases Nat.eq_zero_or_pos k with h0 | h0
        · subst h0; simp at h; omega
        · exact h0
      have hq : n / 16 < 16 ^ k := Nat.div_lt_of_lt_mul (by rw [Nat.pow_succ, Nat.mul_comm] at h; exact h)
      obtain ⟨i1, i2, i3⟩ := ih _ hk1 hq
      rw [e]
      refine ⟨by simp; exact i1, by simp, ?_⟩
      rw [List.length_append, List.length_singleton, show k + 1 - ((hex (n / 16)).length + 1) = k - (hex (n / 16)).length by omega, ← List.append_assoc, i3]
      rfl
end Hx
end Go.Proofs.YtgdcahdnojaebaaDoor
/- Plain arithmetic of numbers written as lists of words, the lowest first: no program. -/
namespace Go.Proofs.YtgdcahdnojaebaaDoor
namespace Big

def val (B : Nat) : List Nat → Nat
  | [] => 0
  | d :: l => d + B * val B l

def Ok (B : Nat) (l : List Nat) : Prop := ∀ d ∈ l, d < B
def Norm (l : List Nat) : Prop := l.getLast? ≠ some 0

/-- The word at i; 0 behind the end. -/
def nth (l : List Nat) (i : Nat) : Nat := l.getD i 0
/-- Two to the power 64. -/
def M64 : Nat := 18446744073709551616
theorem M64_eq : M64 = 18446744073709551616 := rfl
theorem M64_pos : 0 < M64 := by unfold M64; omega
/-- Bounds on how many words a number has, behind names. -/
def KX : Nat := 1000000000
def KL : Nat := 100000000
theorem KX_eq : KX = 1000000000 := rfl
theorem KL_eq : KL = 100000000 := rfl
theorem KL_le : KL ≤ KX := by unfold KL KX; omega

section
variable {B : Nat}

theorem Ok.nil : Ok B [] := by intro d h; simp at h
theorem Ok.tail {d : Nat} {l : List Nat} (h : Ok B (d :: l)) : Ok B l := fun x hx => h x (by simp [hx])
theorem Ok.head {d : Nat} {l : List Nat} (h : Ok B (d :: l)) : d < B := h d (by simp)
theorem Ok.cons {d : Nat} {l : List Nat} (h : d < B) (k : Ok B l) : Ok B (d :: l) := by
  intro x hx; rcases List.mem_cons.1 hx with rfl | hx
  · exact h
  · exact k x hx
theorem Ok.append {l m : List Nat} (h : Ok B l) (k : Ok B m) : Ok B (l ++ m) := by
  intro x hx; rcases List.mem_append.1 hx with hx | hx
  · exact h x hx
  · exact k x hx
theorem Ok.take {l : List Nat} (h : Ok B l) (n : Nat) : Ok B (l.take n) := fun x hx => h x (List.mem_of_mem_take hx)
theorem Ok.drop {l : List Nat} (h : Ok B l) (n : Nat) : Ok B (l.drop n) := fun x hx => h x (List.mem_of_mem_drop hx)
theorem Ok.nth {l : List Nat} (h : Ok B l) (hB : 0 < B) (i : Nat) : nth l i < B := by
  unfold Big.nth
  rw [List.getD_eq_getElem?_getD]
  cases hi : l[i]? with
  | none => simpa using hB
  | some d => simpa using h d (List.mem_of_getElem? hi)

theorem val_append (l m : List Nat) : val B (l ++ m) = val B l + B ^ l.length * val B m := by
  induction l with
  | nil => simp [val]
  | cons d l ih =>
    simp only [List.cons_append, val, ih, List.length_cons, Nat.pow_succ', Nat.mul_add, Nat.mul_assoc]
    omega
theorem val_lt (l : List Nat) (h : Ok B l) : val B l < B ^ l.length := by
  induction l with
  | nil => simp [val]
  | cons d l ih =>
    have h1 := ih h.tail
    have h2 := h.head
    have h3 : B * (val B l + 1) ≤ B * B ^ l.length := Nat.mul_le_mul_left B h1
    rw [Nat.mul_add] at h3
    simp only [val, List.length_cons, Nat.pow_succ']
    omega
theorem val_replicate (n : Nat) : val B (List.replicate n 0) = 0 := by
  induction n with
  | zero => rfl
  | succ n ih => simp [List.replicate_succ, val, ih]
theorem take_succ (l : List Nat) (k : Nat) (h : k < l.length) : l.take (k + 1) = l.take k ++ [nth l k] := by
  unfold nth
  rw [List.take_succ_eq_append_getElem h, List.getD_eq_getElem?_getD, List.getElem?_eq_getElem h]; rfl
theorem val_take_succ (l : List Nat) (k : Nat) (h : k < l.length) : val B (l.take (k + 1)) = val B (l.take k) + B ^ k * nth l k := by
  rw [take_succ l k h, val_append]
  simp [val, Nat.min_eq_left (Nat.le_of_lt h)]
theorem val_take_all (l : List Nat) (k : Nat) (h : l.length ≤ k) : val B (l.take k) = val B l := by rw [List.take_of_length_le h]
theorem nth_ge (l : List Nat) (k : Nat) (h : l.length ≤ k) : nth l k = 0 := by
  unfold nth
  rw [List.getD_eq_getElem?_getD, List.getElem?_eq_none h]; rfl
/-- The same beyond the end. -/
theorem val_take_succ' (l : List Nat) (k : Nat) : val B (l.take (k + 1)) = val B (l.take k) + B ^ k * nth l k := by
  rcases Nat.lt_or_ge k l.length with h | h
  · exact val_take_succ l k h
  · rw [val_take_all l _ (by omega), val_take_all l _ h, nth_ge l k h]; simp
theorem val_take_drop (l : List Nat) (k : Nat) (h : k ≤ l.length) : val B l = val B (l.take k) + B ^ k * val B (l.drop k) := by
  conv => lhs; rw [← List.take_append_drop k l]
  rw [val_append, List.length_take, Nat.min_eq_left h]

theorem norm_nil : Norm [] := by simp [Norm]
theorem norm_tail {d : Nat} {l : List Nat} (h : Norm (d :: l)) : Norm l := by
  cases l with
  | nil => exact norm_nil
  | cons e l => simpa [Norm, List.getLast?_cons_cons] using h
theorem norm_ge (l : List Nat) (h : Norm l) (hne : l ≠ []) : B ^ (l.length - 1) ≤ val B l := by
  induction l with
  | nil => exact absurd rfl hne
  | cons d l ih =>
    cases l with
    | nil =>
      have : d ≠ 0 := by intro e; subst e; simp [Norm] at h
      simp [val]; omega
    | cons e l =>
      have h1 := ih (norm_tail h) (by simp)
      have h2 : B * B ^ (l.length) ≤ B * val B (e :: l) := Nat.mul_le_mul_left B (by simpa using h1)
      simp only [val, List.length_cons] at *
      rw [show l.length + 1 + 1 - 1 = l.length + 1 by omega, Nat.pow_succ']
      omega
theorem norm_pos (hB : 0 < B) (l : List Nat) (h : Norm l) (hne : l ≠ []) : 0 < val B l :=
  Nat.lt_of_lt_of_le (Nat.pow_pos hB) (norm_ge l h hne)
theorem norm_zero (hB : 0 < B) (l : List Nat) (h : Norm l) (h0 : val B l = 0) : l = [] := by
  cases l with
  | nil => rfl
  | cons d l => have := norm_pos hB _ h (by simp); omega
theorem val_inj (hB : 0 < B) : ∀ (l m : List Nat), Ok B l → Ok B m → Norm l → Norm m → val B l = val B m → l = m
  | [], m, _, _, _, nm, h => (norm_zero hB m nm (by simpa [val] using h.symm)).symm
  | d :: l, [], _, _, nl, _, h => by have := norm_pos hB _ nl (by simp); simp only [val] at h this; omega
  | d :: l, e :: m, ol, om, nl, nm, h => by
    have h1 := ol.head; have h2 := om.head
    simp only [val] at h
    have hd : d = e := by
      have a := congrArg (· % B) h
      simpa [Nat.add_mul_mod_self_left, Nat.mod_eq_of_lt h1, Nat.mod_eq_of_lt h2] using a
    subst hd
    have hv : val B l = val B m := Nat.eq_of_mul_eq_mul_left hB (by omega)
    rw [val_inj hB l m ol.tail om.tail (norm_tail nl) (norm_tail nm) hv]
theorem lt_of_length (hB : 0 < B) {l m : List Nat} (ol : Ok B l) (nm : Norm m) (h : l.length < m.length) : val B l < val B m := by
  have h1 := val_lt l ol
  have h2 := norm_ge (B := B) m nm (by intro e; subst e; simp at h)
  have h3 : B ^ l.length ≤ B ^ (m.length - 1) := Nat.pow_le_pow_right hB (by omega)
  omega
theorem length_le (hB : 0 < B) {l m : List Nat} (nl : Norm l) (om : Ok B m) (h : val B l ≤ val B m) : l.length ≤ m.length := by
  rcases Nat.lt_or_ge m.length l.length with hlt | hge
  · have := lt_of_length hB om nl hlt; omega
  · exact hge

/-- Noughts at the end left away. -/
def strip : List Nat → List Nat
  | [] => []
  | d :: l => match strip l with
    | [] => if d = 0 then [] else [d]
    | e :: m => d :: e :: m
theorem strip_val (l : List Nat) : val B (strip l) = val B l := by
  induction l with
  | nil => rfl
  | cons d l ih =>
    simp only [strip]
    split
    · rename_i h; rw [h] at ih; simp only [val] at ih ⊢
      split <;> simp_all [val, ← ih]
    · rename_i e m h; rw [h] at ih; simp only [val] at ih ⊢; rw [ih]
theorem strip_norm (l : List Nat) : Norm (strip l) := by
  induction l with
  | nil => exact norm_nil
  | cons d l ih =>
    simp only [strip]
    split
    · split
      · exact norm_nil
      · rename_i h; simpa [Norm] using h
    · rename_i e m h; rw [h] at ih; simpa [Norm, List.getLast?_cons_cons] using ih
theorem strip_of_norm (l : List Nat) (h : Norm l) : strip l = l := by
  induction l with
  | nil => rfl
  | cons d l ih =>
    simp only [strip, ih (norm_tail h)]
    cases l with
    | nil => have : d ≠ 0 := by intro e; subst e; simp [Norm] at h
             simp [this]
    | cons e m => rfl
theorem strip_ok {l : List Nat} (h : Ok B l) : Ok B (strip l) := by
  induction l with
  | nil => exact h
  | cons d l ih =>
    have hi := ih h.tail
    simp only [strip]
    split
    · split
      · exact Ok.nil
      · exact Ok.cons h.head Ok.nil
    · rename_i e m he; rw [he] at hi; exact Ok.cons h.head hi
theorem strip_take_self (l : List Nat) : strip l = l.take (strip l).length := by
  induction l with
  | nil => rfl
  | cons d l ih =>
    simp only [strip]
    split
    · split
      · rfl
      · simp
    · rename_i e m he; rw [he] at ih; simp only [List.length_cons, List.take_succ_cons] at ih ⊢
      rw [← ih]
theorem strip_len (l : List Nat) : (strip l).length ≤ l.length := by
  have := congrArg List.length (strip_take_self l)
  rw [List.length_take] at this
  omega
theorem strip_snoc_zero (l : List Nat) : strip (l ++ [0]) = strip l := by
  induction l with
  | nil => rfl
  | cons d l ih => simp only [List.cons_append, strip, ih]
theorem strip_take (l : List Nat) (n : Nat) (h : n < l.length) (h0 : nth l n = 0) : strip (l.take (n + 1)) = strip (l.take n) := by
  rw [take_succ l n h, h0, strip_snoc_zero]
theorem strip_take_ne (l : List Nat) (n : Nat) (h : n < l.length) (h0 : nth l n ≠ 0) : strip (l.take (n + 1)) = l.take (n + 1) := by
  apply strip_of_norm
  rw [take_succ l n h]
  simpa [Norm] using h0

/-- -1 or 1. -/
def ordI (b : Bool) : Int := if b then -1 else 1
/-- -1, 0 or 1. -/
def cmpI (a b : Nat) : Int := if a < b then -1 else if a = b then 0 else 1
theorem cmpI_lt {a b : Nat} (h : a < b) : cmpI a b = -1 := by simp [cmpI, h]
theorem cmpI_gt {a b : Nat} (h : b < a) : cmpI a b = 1 := by
  unfold cmpI; rw [if_neg (by omega), if_neg (by omega)]
theorem cmpI_eq (a : Nat) : cmpI a a = 0 := by simp [cmpI]
theorem val_split (l : List Nat) (k : Nat) (h : k < l.length) : val B l = val B (l.take k) + B ^ k * nth l k + B ^ (k + 1) * val B (l.drop (k + 1)) := by
  rw [val_take_drop l (k + 1) (by omega), val_take_succ l k h]
theorem lt_at {l m : List Nat} {k : Nat} (hl : k < l.length) (hm : k < m.length) (ol : Ok B l) (hd : l.drop (k + 1) = m.drop (k + 1)) (h : nth l k < nth m k) : val B l < val B m := by
  rw [val_split l k hl, val_split m k hm, hd]
  have h1 := val_lt (l.take k) (ol.take k)
  rw [List.length_take, Nat.min_eq_left (by omega)] at h1
  have h2 : B ^ k * (nth l k + 1) ≤ B ^ k * nth m k := Nat.mul_le_mul_left _ h
  rw [Nat.mul_add] at h2
  omega
theorem drop_cons (l : List Nat) (k : Nat) (h : k < l.length) : l.drop k = nth l k :: l.drop (k + 1) := by
  rw [List.drop_eq_getElem_cons h]; unfold nth
  rw [List.getD_eq_getElem?_getD, List.getElem?_eq_getElem h]; rfl
end
end Big
end Go.Proofs.YtgdcahdnojaebaaDoor
/- Slices that read as lists of words, in a world: what is kept by later worlds. No program. -/
namespace Go.Proofs.YtgdcahdnojaebaaDoor
open Go.RowKit

/-- The slice v reads as the words l, of integers of kind k. -/
def Wd (w : World) (k : IntKind) (v : Value) (l : List Nat) : Prop :=
  ∃ A c, v = .slice A l.length c ∧ l.length ≤ c ∧ c ≤ 1152921504606846976 ∧
    (0 < l.length → ∃ b o, A = some ⟨b, o, none⟩ ∧ b < w.heap.size ∧ ∀ i, i < l.length → w.cell? ⟨b, o + i, none⟩ = some (.int k ((Big.nth l i : Nat) : Int)))

theorem Wd.keep {w w' : World} {k : IntKind} {v : Value} {l : List Nat} (h : Wd w k v l) (hb : Below w.heap.size w w') : Wd w' k v l := by
  obtain ⟨A, c, rfl, h1, h2, h3⟩ := h
  refine ⟨A, c, rfl, h1, h2, fun hl => ?_⟩
  obtain ⟨b, o, rfl, hlt, hc⟩ := h3 hl
  exact ⟨b, o, rfl, Nat.lt_of_lt_of_le hlt hb.size, fun i hi => (hb.cell (p := ⟨b, o + i, none⟩) hlt).trans (hc i hi)⟩
theorem Wd.nil_ (w : World) (k : IntKind) : Wd w k (.slice none 0 0) [] := ⟨none, 0, rfl, Nat.le_refl _, by omega, fun h => absurd h (by simp)⟩
/-- Nothing but draws. -/
def Drew (w w' : World) : Prop := ∃ n, w' = w.drewN n
theorem Drew.refl (w : World) : Drew w w := ⟨0, rfl⟩
theorem Drew.drewN {a w : World} (h : Drew a w) (n : Nat) : Drew a (w.drewN n) := by
  obtain ⟨m, rfl⟩ := h; exact ⟨m + n, by rw [World.drewN_drewN]⟩
theorem Drew.trans {a b c : World} (h : Drew a b) (k : Drew b c) : Drew a c := by
  obtain ⟨n, rfl⟩ := k; exact h.drewN n
theorem Drew.cell {w w' : World} (h : Drew w w') (p : Addr) : w'.cell? p = w.cell? p := by obtain ⟨n, rfl⟩ := h; rfl
theorem Drew.frozen {w w' : World} (h : Drew w w') (p : Addr) : w'.frozen? p = w.frozen? p := by obtain ⟨n, rfl⟩ := h; rfl
theorem Drew.heap {w w' : World} (h : Drew w w') : w'.heap = w.heap := by obtain ⟨n, rfl⟩ := h; rfl
theorem Drew.below {w w' : World} (h : Drew w w') (B : Nat) : Below B w w' := by obtain ⟨n, rfl⟩ := h; exact ⟨rfl, rfl, rfl, Nat.le_refl _, fun _ _ => rfl⟩
theorem quiet_drew {P : Program} {f : FuncId} {args : Array Value} {w : World} {n : Nat} {v : Value}
    (h : Calls P f args (w.drewN n) fun e w' => e = .returned v ∧ Drew (w.drewN n) w') : Calls P f args (w.drewN n) fun e w'' => e = .returned v ∧ ∃ m, w'' = w.drewN m :=
  h.mono fun _ _ ⟨he, m, hm⟩ => ⟨he, n + m, by rw [hm, World.drewN_drewN]⟩
theorem quiet_same {P : Program} {f : FuncId} {args : Array Value} {w : World} {n : Nat} {v : Value}
    (h : Calls P f args (w.drewN n) fun e w' => e = .returned v ∧ w.drewN n = w') : Calls P f args (w.drewN n) fun e w'' => e = .returned v ∧ ∃ m, w'' = w.drewN m :=
  h.mono fun _ _ ⟨he, hm⟩ => ⟨he, n, hm.symm⟩
theorem still_same {P : Program} {f : FuncId} {args : Array Value} {w : World} {v : Value}
    (h : Calls P f args w fun e w' => e = .returned v ∧ w = w') : Calls P f args w fun e w'' => e = .returned v ∧ w'' = w := h.mono fun _ _ ⟨he, hm⟩ => ⟨he, hm.symm⟩
theorem below_drewN {B : Nat} {a w : World} (h : Below B a w) (n : Nat) : Below B a (w.drewN n) := ⟨h.os, h.tape, h.output, h.size, h.block⟩

theorem ret_bool {a b : Bool} (h : a = b) : Ending.returned (.bool a) = .returned (.bool b) := by rw [h]
theorem ret_int {k : IntKind} {a b : Int} (h : a = b) : Ending.returned (.int k a) = .returned (.int k b) := by rw [h]

theorem Wd.drew {w w' : World} {k : IntKind} {v : Value} {l : List Nat} (h : Wd w k v l) (hb : Drew w w') : Wd w' k v l := h.keep (hb.below _)
/-- The same, in a block below B. -/
def WdB (B : Nat) (w : World) (k : IntKind) (v : Value) (l : List Nat) : Prop :=
  ∃ A c, v = .slice A l.length c ∧ l.length ≤ c ∧ c ≤ 1152921504606846976 ∧
    (0 < l.length → ∃ b o, A = some ⟨b, o, none⟩ ∧ b < B ∧ ∀ i, i < l.length → w.cell? ⟨b, o + i, none⟩ = some (.int k ((Big.nth l i : Nat) : Int)))
theorem WdB.wd {B : Nat} {w : World} {k : IntKind} {v : Value} {l : List Nat} (h : WdB B w k v l) (hB : B ≤ w.heap.size) : Wd w k v l := by
  obtain ⟨A, c, rfl, h1, h2, h3⟩ := h
  refine ⟨A, c, rfl, h1, h2, fun hp => ?_⟩
  obtain ⟨b, o, e, hb, hc⟩ := h3 hp
  exact ⟨b, o, e, Nat.lt_of_lt_of_le hb hB, hc⟩
theorem Wd.wdB {w : World} {k : IntKind} {v : Value} {l : List Nat} (h : Wd w k v l) : WdB w.heap.size w k v l := h
theorem WdB.more {B B' : Nat} {w : World} {k : IntKind} {v : Value} {l : List Nat} (h : WdB B w k v l) (hB : B ≤ B') : WdB B' w k v l := by
  obtain ⟨A, c, rfl, h1, h2, h3⟩ := h
  refine ⟨A, c, rfl, h1, h2, fun hp => ?_⟩
  obtain ⟨b, o, e, hb, hc⟩ := h3 hp
  exact ⟨b, o, e, Nat.lt_of_lt_of_le hb hB, hc⟩
theorem WdB.keep {B : Nat} {w w' : World} {k : IntKind} {v : Value} {l : List Nat} (h : WdB B w k v l) (hk : ∀ b o, b < B → w'.cell? ⟨b, o, none⟩ = w.cell? ⟨b, o, none⟩) : WdB B w' k v l := by
  obtain ⟨A, c, rfl, h1, h2, h3⟩ := h
  refine ⟨A, c, rfl, h1, h2, fun hp => ?_⟩
  obtain ⟨b, o, e, hb, hc⟩ := h3 hp
  exact ⟨b, o, e, hb, fun i hi => (hk b _ hb).trans (hc i hi)⟩
theorem WdB.below {B : Nat} {w w' : World} {k : IntKind} {v : Value} {l : List Nat} (h : WdB B w k v l) (hb : Below B w w') : WdB B w' k v l :=
  h.keep fun b o hlt => hb.cell (p := ⟨b, o, none⟩) hlt
/-- Only block g has turned, and new blocks are there. -/
def Only (g : Nat) (w w' : World) : Prop := w.grownBy w' (some g)
theorem Only.refl (g : Nat) (w : World) : Only g w w := ⟨rfl, rfl, rfl, Nat.le_refl _, fun _ _ _ => rfl⟩
theorem Only.cell {g : Nat} {w w' : World} (h : Only g w w') {b o : Nat} (hb : b < w.heap.size) (hne : b ≠ g) : w'.cell? ⟨b, o, none⟩ = w.cell? ⟨b, o, none⟩ :=
  World.cell?_of_block (h.block b hb (by intro e; injection e with e; exact hne e))
theorem Only.drewN {g : Nat} {w w' : World} (h : Only g w w') (n : Nat) : Only g w (w'.drewN n) := ⟨h.os, h.tape, h.output, h.size, h.block⟩
theorem Only.drew {g : Nat} {w w' : World} (h : Only g w w') : Only g w w'.drew := ⟨h.os, h.tape, h.output, h.size, h.block⟩
theorem Only.setCell {g : Nat} {w w' : World} (h : Only g w w') (i : Nat) (u : Value) : Only g w (w'.setCell ⟨g, i, none⟩ u) :=
  ⟨h.os, h.tape, h.output, by simpa [World.setCell] using h.size, fun j hj hne => (Below.heap_setCell w' ⟨g, i, none⟩ u j (by intro e; exact hne (by rw [e]))).trans (h.block j hj hne)⟩
theorem Only.wdB {g B : Nat} {w w' : World} (h : Only g w w') (hBg : B ≤ g) (hB : B ≤ w.heap.size) {k : IntKind} {v : Value} {l : List Nat} (hw : WdB B w k v l) : WdB B w' k v l :=
  hw.keep fun _ _ hb => h.cell (Nat.lt_of_lt_of_le hb hB) (by omega)
theorem Only.below {g B : Nat} {w0 w w' : World} (h : Only g w w') (hb : Below B w0 w) (hBg : B ≤ g) (hB : B ≤ w.heap.size) : Below B w0 w' :=
  hb.grown h hB (fun k hk => by injection hk with hk; omega)
theorem Only.trans {g : Nat} {a b c : World} (h : Only g a b) (k : Only g b c) : Only g a c :=
  ⟨k.os.trans h.os, k.tape.trans h.tape, k.output.trans h.output, Nat.le_trans h.size k.size, fun j hj hne => (k.block j (Nat.lt_of_lt_of_le hj h.size) hne).trans (h.block j hj hne)⟩
theorem Only.of_below {g : Nat} {w w' : World} (h : Below w.heap.size w w') : Only g w w' := ⟨h.os, h.tape, h.output, h.size, fun j hj _ => h.block j hj⟩

/-- A slice that reads as a natural number. -/
def NatIn (w : World) (v : Value) (n : Nat) : Prop := ∃ l, Wd w .u64 v l ∧ Big.Ok Big.M64 l ∧ Big.Norm l ∧ Big.val Big.M64 l = n
theorem NatIn.keep {w w' : World} {v : Value} {n : Nat} (h : NatIn w v n) (hb : Below w.heap.size w w') : NatIn w' v n := by
  obtain ⟨l, h1, h2⟩ := h; exact ⟨l, h1.keep hb, h2⟩
theorem NatIn.drew {w w' : World} {v : Value} {n : Nat} (h : NatIn w v n) (hb : Drew w w') : NatIn w' v n := h.keep (hb.below _)
theorem NatIn.nil_ (w : World) : NatIn w (.slice none 0 0) 0 := ⟨[], Wd.nil_ _ _, Big.Ok.nil, Big.norm_nil, rfl⟩
theorem len_of_lt {l : List Nat} {K : Nat} (nl : Big.Norm l) (h : Big.val Big.M64 l < Big.M64 ^ K) : l.length ≤ K := by
  rcases Nat.lt_or_ge K l.length with hlt | hge
  · have h1 := Big.norm_ge (B := Big.M64) l nl (by intro e; subst e; simp at hlt)
    have h2 : Big.M64 ^ K ≤ Big.M64 ^ (l.length - 1) := Nat.pow_le_pow_right Big.M64_pos (by omega)
    omega
  · exact hge

/-- A block of the call's own that holds just these words. -/
theorem Wd.new {w : World} {k : IntKind} {g : Nat} {t : TypeId} {l : List Nat} {cs : Array Value} (n c : Nat) (hn : n = l.length) (hc : l.length ≤ c) (hc2 : c ≤ 1152921504606846976)
    (hb : w.heap[g]? = some (.cells cs t (0, 0))) (h : ∀ i, i < l.length → cs[i]? = some (.int k ((Big.nth l i : Nat) : Int))) : Wd w k (.slice (some ⟨g, 0, none⟩) n c) l := by
  subst hn
  refine ⟨_, c, rfl, hc, hc2, fun _ => ⟨g, 0, rfl, ?_, fun i hi => ?_⟩⟩
  · rcases Nat.lt_or_ge g w.heap.size with h1 | h1
    · exact h1
    · rw [Array.getElem?_eq_none h1] at hb; cases hb
  · rw [Nat.zero_add, cell_of_row w g i cs t (0, 0) hb]; exact h i hi

/-- The first n words of a slice. -/
theorem Wd.cut {w : World} {k : IntKind} {A : Option Addr} {l : List Nat} {c n : Nat} (h : Wd w k (.slice A l.length c) l) (hn : n ≤ l.length) : Wd w k (.slice A n c) (l.take n) := by
  obtain ⟨A', c', e, h1, h2, h3⟩ := h
  cases e
  have hl : (l.take n).length = n := by rw [List.length_take, Nat.min_eq_left hn]
  refine ⟨A, c, by rw [hl], by omega, h2, fun hp => ?_⟩
  obtain ⟨b, o, rfl, hlt, hc⟩ := h3 (by omega)
  refine ⟨b, o, rfl, hlt, fun i hi => ?_⟩
  rw [hc i (by omega)]
  unfold Big.nth
  rw [List.getD_eq_getElem?_getD, List.getD_eq_getElem?_getD, List.getElem?_take_of_lt (by omega)]
end Go.Proofs.YtgdcahdnojaebaaDoor
/- A block of the call's own that holds words: made, filled, stored into, read as a slice. No program. -/
namespace Go.Proofs.YtgdcahdnojaebaaDoor
open Go.RowKit

def cellsOf (k : IntKind) (l : List Nat) : Array Value := (l.map fun d => Value.int k ((d : Nat) : Int)).toArray
theorem cellsOf_size (k : IntKind) (l : List Nat) : (cellsOf k l).size = l.length := by simp [cellsOf]
theorem cellsOf_get (k : IntKind) (l : List Nat) (i : Nat) (h : i < l.length) : (cellsOf k l)[i]? = some (.int k ((Big.nth l i : Nat) : Int)) := by
  simp [cellsOf, h, Big.nth]
theorem cellsOf_set (k : IntKind) (l : List Nat) (i x : Nat) : (cellsOf k l).setIfInBounds i (.int k ((x : Nat) : Int)) = cellsOf k (l.set i x) := by
  simp [cellsOf, List.map_set]
theorem cellsOf_toList (k : IntKind) (l : List Nat) : (cellsOf k l).toList = l.map fun d => Value.int k ((d : Nat) : Int) := by simp [cellsOf]
theorem cellsOf_zero (k : IntKind) (n : Nat) : madeCells #[.int k 0] n = cellsOf k (List.replicate n 0) := by
  apply Array.ext'
  rw [toList_madeCells_one, cellsOf_toList]; simp

/-- Block g is just these words, of element type t. -/
def Blk (w : World) (g : Nat) (t : TypeId) (k : IntKind) (l : List Nat) : Prop := w.heap[g]? = some (.cells (cellsOf k l) t (0, 0))
section
variable {w w' : World} {g : Nat} {t : TypeId} {k : IntKind} {l : List Nat}
theorem Blk.lt (h : Blk w g t k l) : g < w.heap.size := by
  rcases Nat.lt_or_ge g w.heap.size with h1 | h1
  · exact h1
  · unfold Blk at h; rw [Array.getElem?_eq_none h1] at h; cases h
theorem Blk.cell (h : Blk w g t k l) (i : Nat) (hi : i < l.length) : w.cell? ⟨g, i, none⟩ = some (.int k ((Big.nth l i : Nat) : Int)) := by
  rw [cell_of_row w g i _ t (0, 0) h]; exact cellsOf_get k l i hi
theorem Blk.frozen (h : Blk w g t k l) (i : Nat) : w.frozen? ⟨g, i, none⟩ = false := frozen_of_row w g i _ t h
theorem Blk.new (w : World) (t : TypeId) (k : IntKind) (l : List Nat) : Blk (w.alloc (.cells (cellsOf k l) t)) w.heap.size t k l := heap_alloc_new w _
theorem Blk.set (h : Blk w g t k l) (i x : Nat) : Blk (w.setCell ⟨g, i, none⟩ (.int k ((x : Nat) : Int))) g t k (l.set i x) := by
  unfold Blk
  rw [heap_setCell_same w g i _ t _ h, cellsOf_set]
theorem Blk.alloc' (h : Blk w g t k l) (o : Obj) : Blk (w.alloc o) g t k l := (Below.heap_alloc w o g h.lt).trans h
theorem Blk.drewN (h : Blk w g t k l) (n : Nat) : Blk (w.drewN n) g t k l := h
theorem Blk.drew (h : Blk w g t k l) (hd : Drew w w') : Blk w' g t k l := by unfold Blk; rw [hd.heap]; exact h
theorem Blk.below (h : Blk w g t k l) (hb : Below w.heap.size w w') : Blk w' g t k l := (hb.block g h.lt).trans h
theorem Blk.below' {B : Nat} (h : Blk w g t k l) (hb : Below B w w') (hg : g < B) : Blk w' g t k l := (hb.block g hg).trans h
theorem Blk.far (h : Blk w g t k l) {p : Addr} (hp : g ≠ p.block) (u : Value) : Blk (w.setCell p u) g t k l := (heap_setCell_other w p g u hp).trans h
/-- The slice from o on, of n words. -/
theorem Blk.wd (h : Blk w g t k l) (o n c : Nat) (hn : o + n ≤ l.length) (hc : n ≤ c) (hc2 : c ≤ 1152921504606846976) : Wd w k (.slice (some ⟨g, o, none⟩) n c) ((l.drop o).take n) := by
  have hl : ((l.drop o).take n).length = n := by rw [List.length_take, List.length_drop]; omega
  refine ⟨_, c, by rw [hl], by omega, hc2, fun _ => ⟨g, o, rfl, h.lt, fun i hi => ?_⟩⟩
  rw [h.cell (o + i) (by omega)]
  unfold Big.nth
  rw [List.getD_eq_getElem?_getD, List.getD_eq_getElem?_getD, List.getElem?_take_of_lt (by omega), List.getElem?_drop]
theorem Blk.wd0 (h : Blk w g t k l) (c : Nat) (hc : l.length ≤ c) (hc2 : c ≤ 1152921504606846976) : Wd w k (.slice (some ⟨g, 0, none⟩) l.length c) l := by
  have := h.wd 0 l.length c (by omega) hc hc2
  simpa using this
end

theorem set_at (zs r : List Nat) (k x : Nat) (h : zs.length = k) : (zs ++ r).set k x = zs ++ r.set 0 x := by
  rw [List.set_append_right k x (by omega), h, Nat.sub_self]
theorem set_drop (zs l : List Nat) (k x : Nat) (h : zs.length = k) (hk : k < l.length) : (zs ++ l.drop k).set k x = (zs ++ [x]) ++ l.drop (k + 1) := by
  rw [set_at zs _ k x h, Big.drop_cons l k hk]; simp

/-- make of n words. -/
theorem make_words {P : Program} {t e : TypeId} {i : TypeInfo} {k : IntKind} (ht : P.underlying t = some (.slice e)) (hi : P.info? e = some i) (hz : i.zero = some (.int k 0)) (hs : i.size = 1) (hb : i.bytes ≤ 8)
    (kl kc : IntKind) (n c : Nat) (hnc : n ≤ c) (hn : c ≤ 2000000000000) (w : World) :
    (Instr.makeSlice t (.int kl ((n : Nat) : Int)) (.int kc ((c : Nat) : Int))).run P w = .ok (.slice (some ⟨w.heap.size, 0, none⟩) n c) (w.alloc (.cells (cellsOf k (List.replicate c 0)) e)) := by
  have hbb : (i.bytes : Int) * (c : Int) ≤ 281474976710656 := by
    have h : i.bytes * c ≤ 8 * c := Nat.mul_le_mul_right c hb
    have h2 : ((i.bytes * c : Nat) : Int) ≤ 281474976710656 := by omega
    rwa [Int.natCast_mul] at h2
  have hr := run_make (P := P) w t e i _ ht hi hz kl kc n c (by omega) (by omega) hbb (by omega)
  simp only [Int.toNat_natCast, hs, Nat.mul_one] at hr
  rw [hr]
  show Result.ok _ (w.alloc (.cells (madeCells #[.int k 0] c) e)) = _
  rw [cellsOf_zero]

theorem splice_words (k : IntKind) (cur xs : List Nat) : splice (cellsOf k cur).toList 0 (xs.map fun d => Value.int k ((d : Nat) : Int)) = (cellsOf k (xs ++ cur.drop xs.length)).toList := by
  simp [splice, cellsOf_toList, List.map_drop]

/-- copy of words into a block of the call's own, from its head on. -/
theorem wpList_copy_words {P : Program} {w : World} {ops : Array Oper} {rest : List Oper} {o : Oper} {a : Act} {Q : Exit → Act → World → Prop} (hgd : o.guard = none) (d s : Operand) (dT sT : TypeId)
    (ho : o.op = .call { callee := .builtin .copy, args := #[d, s], argTypes := #[dT, sT] }) (elem : TypeId) (hu : P.underlying dT = some (.slice elem)) (hsz : (P.info? elem).map (·.size) = some 1)
    (g t : Nat) (k : IntKind) (cur xs : List Nat) (dLen dCap : Nat) (A : Option Addr) (c : Nat) (hd : a.eval d = .slice (some ⟨g, 0, none⟩) dLen dCap) (hs : a.eval s = .slice A xs.length c)
    (hr : Wd w k (.slice A xs.length c) xs) (hb : Blk w g t k cur) (hn : xs.length ≤ dLen) (hfit : dLen ≤ cur.length) (B : Nat) (w0 : World) (hB : Below B w0 w) (hBg : B ≤ g)
    (h : ∀ w', Blk w' g t k (xs ++ cur.drop xs.length) → Below B w0 w' → wpList P ops Q rest (a.put o.dst (goInt xs.length)) w') :
    wpList P ops Q (o :: rest) a w := by
  have hlen : (xs.map fun d => Value.int k ((d : Nat) : Int)).length = xs.length := by simp
  refine wpList_copy_splice hgd d s dT sT ho elem hu hsz _ _ dLen dCap xs.length c hd hs g 0 (cellsOf k cur).toList t (by rw [Array.toArray_toList]; exact hb) (xs.map fun d => Value.int k ((d : Nat) : Int))
    (by rw [hlen]; exact (Nat.min_eq_left hn).symm) (fun hp => ⟨rfl, ?_⟩) (by rw [hlen, cellsOf_toList]; simp; omega) (by intro v hv; simp at hv; obtain ⟨_, _, rfl⟩ := hv; rfl) B w0 hB hBg ?_
  · obtain ⟨A', c', e, h1, h2, h3⟩ := hr
    cases e
    obtain ⟨b, o', rfl, hlt, hc⟩ := h3 (by simpa using hp)
    refine ⟨_, rfl, fun j v hv => ?_⟩
    have hj : j < xs.length := by
      rcases Nat.lt_or_ge j xs.length with h | h
      · exact h
      · rw [List.getElem?_eq_none (by simpa using h)] at hv; cases hv
    rw [List.getElem?_map, List.getElem?_eq_getElem hj] at hv
    have := hc j hj
    unfold Big.nth at this
    rw [List.getD_eq_getElem?_getD, List.getElem?_eq_getElem hj] at this
    simp at hv
    rw [← hv]
    unfold Addr.add
    split
    · rename_i h0; subst h0; simpa using this
    · simpa using this
  · intro w' hh hbel
    have hh' := hh.out
    rw [splice_words] at hh'
    rw [hlen]
    exact h w' (by unfold Blk; rw [Array.toArray_toList] at hh'; exact hh') hbel
end Go.Proofs.YtgdcahdnojaebaaDoor
/- internal/strconv.formatBits at base 16. -/
namespace Go.Proofs.YtgdcahdnojaebaaDoor
open Go.RowKit Hx

/-- What package math/bits asks of its table. -/
structure T64 (w : World) : Prop where
  cell : w.cell? ⟨8, 15, none⟩ = some (.int .u8 4)
  lt : 8 < w.heap.size
theorem T64.keep {w w' : World} (h : T64 w) (hb : Below w.heap.size w w') : T64 w' :=
  ⟨(hb.cell (p := ⟨8, 15, none⟩) h.lt).trans h.cell, Nat.lt_of_lt_of_le h.lt hb.size⟩
theorem tz_any (w : World) (h : T64 w) : Calls Tryd.prog 149 #[.int .u64 16] w fun e w' => e = .returned (.int .i64 4) ∧ w = w' := by
  have hc := h.cell
  clear h
  have e1 : IntKind.u64.wrap (-16) = 18446744073709551600 := by decide
  have e2 : bits .and .u64 16 18446744073709551600 = 16 := by kernel_rfl
  have e3 : IntKind.u64.wrap (16 * 285870213051353865) = 4573923408821661840 := by decide
  have e4 : IntKind.u64.wrap 4573923408821661840 = 4573923408821661840 := by decide
  go_enter Tryd.func149, Tryd.ntmps149
  go_wp2
  go_ret
  exact ⟨rfl, rfl⟩
theorem pow2_any (w : World) : Calls Tryd.prog 148 #[.int .i64 16] w fun e w' => e = .returned (.bool true) ∧ w = w' := by
  have e2 : bits .and .i64 16 15 = 0 := by kernel_rfl
  go_enter Tryd.func148, Tryd.ntmps148
  go_wp2
  go_ret
  exact ⟨rfl, rfl⟩
theorem dig_fin : ∀ d : Fin 16, (⟨#[48, 49, 50, 51, 52, 53, 54, 55, 56, 57, 97, 98, 99, 100, 101, 102, 103, 104, 105, 106, 107, 108, 109, 110, 111, 112, 113, 114, 115, 116, 117, 118, 119, 120, 121, 122]⟩ : ByteArray)[d.val]'(by have := d.isLt; show d.val < 36; omega) = hdig d.val := by decide
theorem dig_at (d : Nat) (hd : d < 16) (h : d < (⟨#[48, 49, 50, 51, 52, 53, 54, 55, 56, 57, 97, 98, 99, 100, 101, 102, 103, 104, 105, 106, 107, 108, 109, 110, 111, 112, 113, 114, 115, 116, 117, 118, 119, 120, 121, 122]⟩ : ByteArray).size) : ((⟨#[48, 49, 50, 51, 52, 53, 54, 55, 56, 57, 97, 98, 99, 100, 101, 102, 103, 104, 105, 106, 107, 108, 109, 110, 111, 112, 113, 114, 115, 116, 117, 118, 119, 120, 121, 122]⟩ : ByteArray)[d]'h).toNat = (hdig d).toNat := congrArg UInt8.toNat (dig_fin ⟨d, hd⟩)
theorem set_drop_at (l : List Nat) (j X : Nat) (h : j < l.length) : (l.set j X).drop j = X :: l.drop (j + 1) := by
  rw [List.drop_eq_getElem_cons (by simpa using h)]
  simp [List.drop_set]
set_option maxHeartbeats 4000000 in
set_option maxRecDepth 100000 in
theorem fb_any (u : Nat) (hu : u < 18446744073709551616) (w : World) (h : T64 w) :
    Calls Tryd.prog 126 #[.slice none 0 0, .int .u64 (u : Int), .int .i64 16, .bool false, .bool false] w fun e w' => e = .returned (.tuple #[.slice none 0 0, .string ⟨(hex u).toArray⟩]) ∧ Below w.heap.size w w' := by
  have CT := Lib.hid (fun W h => tz_any W h)
  have HT := Lib.hid h
  clear h
  go_enter Tryd.func126, Tryd.ntmps126
  go_wp2_with (first | (go_at_call 148; refine (pow2_any _).mono ?_; rintro e w' ⟨rfl, rfl⟩) | (go_at_call 149; refine (CT.out _ (HT.out.keep ((Below.refl _ _).alloc (Nat.le_refl _) _))).mono ?_; rintro e w' ⟨rfl, rfl⟩))
  have B1 := Lib.hid (show Below w.heap.size w (w.alloc (.cells Tryd.zeroCells161 161)) from (Below.refl _ _).alloc (Nat.le_refl _) _)
  have K1 := Lib.hid (show Blk (w.alloc (.cells Tryd.zeroCells161 161)) w.heap.size 161 .u8 (List.replicate 65 0) from Blk.new w _ .u8 (List.replicate 65 0))
  have I1 := Lib.hid (show u < 16 ^ (65 - 49) ∧ ∃ ds : List UInt8, hex u = hex u ++ ds ∧ (List.replicate 65 0).drop 65 = ds.map UInt8.toNat from ⟨by show u < 16 ^ 16; omega, [], by simp⟩)
  generalize w.alloc (.cells Tryd.zeroCells161 161) = w1 at *
  go_loopw [1, 13] (fun vu vi wr => ∃ (v i : Nat) (l : List Nat), vu = .int .u64 (v : Int) ∧ vi = .int .i64 (i : Int) ∧ i ≤ 65 ∧ 50 ≤ i ∧ v < 18446744073709551616 ∧ l.length = 65 ∧ Hid (v < 16 ^ (i - 49) ∧ ∃ ds : List UInt8, hex u = hex v ++ ds ∧ l.drop i = ds.map UInt8.toNat) ∧ Hid (Blk wr w.heap.size 161 .u8 l) ∧ Hid (Below w.heap.size w wr))
    (fun vu _ _ => (intOf vu).toNat)
  case atStart => exact ⟨u, 65, _, rfl, rfl, by omega, by omega, hu, by simp, I1, K1, B1⟩
  case round =>
    obtain ⟨v, i, l, rfl, rfl, hi1, hi2, hv, hl, HI, HB, HW⟩ := hrel
    by_cases hge : 16 ≤ v
    · have hi : 51 ≤ i := by
        by_cases e : i = 50
        · subst e; have := HI.out.1; omega
        · omega
      have hand : bits .and .u64 (v : Int) 15 = ((v % 16 : Nat) : Int) := by
        have h := u64_and_nat v 15 hv (by omega)
        rw [show ((15 : Nat) : Int) = 15 from rfl, show (15 : Nat) = 2 ^ 4 - 1 from rfl, Nat.and_two_pow_sub_one_eq_mod] at h
        exact h
      have hd : v % 16 < 16 := Nat.mod_lt _ (by omega)
      have hfz := HB.out.frozen (i - 1)
      have hst := HB.out.cell (i - 1) (by omega)
      have HN := Lib.hid (show ∀ X, X = (hdig (v % 16)).toNat → v / 16 < 16 ^ (i - 1 - 49) ∧ ∃ ds : List UInt8, hex u = hex (v / 16) ++ ds ∧ (l.set (i - 1) X).drop (i - 1) = ds.map UInt8.toNat from fun X hX => by
        obtain ⟨h1, ds, h2, h3⟩ := HI.out
        have e : i - 49 = (i - 1 - 49) + 1 := by omega
        rw [e, Nat.pow_succ, Nat.mul_comm] at h1
        refine ⟨Nat.div_lt_of_lt_mul h1, hdig (v % 16) :: ds, ?_, ?_⟩
        · rw [h2]
          conv => lhs; rw [hex, dif_neg (by omega)]
          simp
        · rw [set_drop_at l (i - 1) X (by omega), show i - 1 + 1 = i by omega, h3, hX, List.map_cons])
      generalize v % 16 = d at *
      go_wp2
      go_roundw
      case rel => exact ⟨v / 16, i - 1, l.set (i - 1) _, by congr 1, by congr 1; omega, by omega, by omega, by omega, by simp [hl], Lib.hid (HN.out _ (dig_at d hd _)), Lib.hid (HB.out.set (i - 1) _), Lib.hid (HW.out.setCell (Nat.le_refl _) _)⟩
      case measure => simp [intOf]; omega
    · have hv16 : v < 16 := by omega
      have hi49 : i - 1 < l.length := by omega
      have hfz := HB.out.frozen (i - 1)
      have hst := HB.out.cell (i - 1) (by omega)
      have HE := Lib.hid (show ∀ X, X = (hdig v).toNat → (l.set (i - 1) X).drop (i - 1) = (hex u).map UInt8.toNat from fun X hX => by
        obtain ⟨h1, ds, h2, h3⟩ := HI.out
        rw [set_drop_at l (i - 1) X (by omega), show i - 1 + 1 = i by omega, h3, hX, h2, hex, dif_pos hv16]
        rfl)
      have hsl : ∀ W, (Instr.sliceAt 161 (.pointer (some ⟨w.heap.size, 0, none⟩)) (some (.int .i64 ((i : Int) - 1))) none none).run Tryd.prog W = .ok (.slice (some ⟨w.heap.size, i - 1, none⟩) (66 - i) (66 - i)) W := fun W => by
        have hal : Tryd.prog.arrayLen 161 = 65 := by kernel_rfl
        rw [run_sliceAt_array_l W 161 ⟨w.heap.size, 0, none⟩ (by simp [Program.arrayLen, Program.elem, Tryd.underlying161]) .i64 ((i : Int) - 1) (by omega) (by rw [hal]; omega)]
        rw [hal]
        have e1 : ((i : Int) - 1).toNat = i - 1 := by omega
        have e2 : 65 - (i - 1) = 66 - i := by omega
        have hsz : ∀ W, (sizeOf (Tryd.prog.elem 161)).run Tryd.prog W = .ok 1 W := fun W => by simp [Program.elem, Tryd.underlying161]
        rw [hsz]
        simp only [Result.andThen, slicedAt, e1, e2]
        rw [if_neg (by omega), Nat.mul_one]
        rw [Lib.add_plain, Nat.zero_add]
      go_wp2
      generalize hX : ((⟨#[48, 49, 50, 51, 52, 53, 54, 55, 56, 57, 97, 98, 99, 100, 101, 102, 103, 104, 105, 106, 107, 108, 109, 110, 111, 112, 113, 114, 115, 116, 117, 118, 119, 120, 121, 122]⟩ : ByteArray)[v]'(by show v < 36; omega)).toNat = X at *
      have hX2 : X = (hdig v).toNat := by rw [← hX]; exact dig_at v hv16 _
      have HB2 := Lib.hid (HB.out.set (i - 1) X)
      have HW2 := Lib.hid (HW.out.setCell (p := ⟨w.heap.size, i - 1, none⟩) (Nat.le_refl _) (.int .u8 (X : Int)))
      have HE2 := Lib.hid (HE.out X hX2)
      have hl2 : (l.set (i - 1) X).length = 65 := by simp [hl]
      generalize l.set (i - 1) X = l2 at *
      generalize wr.setCell ⟨w.heap.size, i - 1, none⟩ (.int .u8 (X : Int)) = wz at *
      have hlen : (hex u).length = 66 - i := by
        have := congrArg List.length HE2.out
        simp at this; omega
      have hcv := run_convert_bytes_back (P := Tryd.prog) wz 111 9 5 ⟨w.heap.size, i - 1, none⟩ (66 - i) (hex u) Tryd.underlying111 Tryd.underlying5 Tryd.underlying9 (fun j hj => by
        have h1 := HB2.out.cell (i - 1 + j) (by omega)
        have h2 : Big.nth l2 (i - 1 + j) = ((hex u)[j]).toNat := by
          have h3 : (l2.drop (i - 1))[j]? = ((hex u).map UInt8.toNat)[j]? := by rw [HE2.out]
          rw [List.getElem?_drop, List.getElem?_map, List.getElem?_eq_getElem hj] at h3
          unfold Big.nth
          rw [List.getD_eq_getElem?_getD, h3]; rfl
        rw [h2] at h1
        rw [Lib.add_plain]
        exact h1)
      rw [hlen] at hcv
      clear hX hX2 hlen HB2 HE2 HE HB HW HI hsl hst hfz
      go_wp2_with (simp only [hcv])
      go_ret2
      exact ⟨rfl, HW2.out⟩
/-- strconv.FormatUint at base 16. -/
theorem fu16_any (u : Nat) (hu : u < 18446744073709551616) (w : World) (h : T64 w) :
    Calls Tryd.prog 59 #[.int .u64 (u : Int), .int .i64 16] w fun e w' => e = .returned (.string ⟨(hex u).toArray⟩) ∧ Below w.heap.size w w' := by
  have C := Lib.hid (fun W h => fb_any u hu W h)
  have HT := Lib.hid h
  clear h hu
  have D := Lib.hid (show ∀ W, T64 W → Calls Tryd.prog 86 #[.int .u64 (u : Int), .int .i64 16] W fun e w' => e = .returned (.string ⟨(hex u).toArray⟩) ∧ Below W.heap.size W w' from fun W HW => by
    have HW := Lib.hid HW
    go_enter Tryd.func86, Tryd.ntmps86
    go_wp2_with (go_at_call 126; refine (C.out _ HW.out).mono ?_; rintro e w' ⟨rfl, hb⟩)
    go_ret
    exact ⟨rfl, hb⟩)
  go_enter Tryd.func59, Tryd.ntmps59
  go_wp2_with (go_at_call 86; refine (D.out _ HT.out).mono ?_; rintro e w' ⟨rfl, hb⟩)
  go_ret
  exact ⟨rfl, hb⟩
end Go.Proofs.YtgdcahdnojaebaaDoor
