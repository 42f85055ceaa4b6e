/- Contracts. -/
import Derived.Test.YtnlhjcfpfapafaaESq21
import Derived.Test.YtnlhjcfpfapafaaESq20
import Derived.Test.YtnlhjcfpfapafaaESq19
namespace Go.Proofs.Ytnlhjcfpfapafaa
open Go Go.RowKit
namespace Ev
inductive Qe where
 | v (i : Nat)
 | c (s : Bool) (n d : Nat)
 | neg (a : Qe)
 | add (a b : Qe)
 | sub (a b : Qe)
 | mul (a b : Qe)
 | quo (a b : Qe)
def Qe.ev (ρ : Nat → Rat) : Qe → Rat
 | .v i => ρ i
 | .c s n d => mkRat (Big.sI s n) d
 | .neg a => -(a.ev ρ)
 | .add a b => a.ev ρ + b.ev ρ
 | .sub a b => a.ev ρ - b.ev ρ
 | .mul a b => a.ev ρ * b.ev ρ
 | .quo a b => a.ev ρ / b.ev ρ
noncomputable def beqB (a b : Bool) : Bool := Bool.rec (motive := fun _ => Bool) (Bool.rec (motive := fun _ => Bool) true false b) b a
theorem beqB_ok {a b : Bool} (h : beqB a b = true) : a = b := by cases a <;> cases b <;> first | rfl | (exact absurd h (by simp [beqB]))
noncomputable def Qe.beq : Qe → Qe → Bool := Qe.rec (motive := fun _ => Qe → Bool)
 (fun i y => match y with | .v j => Nat.beq i j | _ => false)
 (fun s n d y => match y with | .c s' n' d' => beqB s s' && (Nat.beq n n' && Nat.beq d d') | _ => false)
 (fun _ ih y => match y with | .neg b => ih b | _ => false)
 (fun _ _ iha ihb y => match y with | .add a b => iha a && ihb b | _ => false)
 (fun _ _ iha ihb y => match y with | .sub a b => iha a && ihb b | _ => false)
 (fun _ _ iha ihb y => match y with | .mul a b => iha a && ihb b | _ => false)
 (fun _ _ iha ihb y => match y with | .quo a b => iha a && ihb b | _ => false)
theorem Qe.beq_ok : ∀ (a b : Qe), a.beq b = true → a = b := by
 intro a
 induction a with
 | v i =>
  intro b h
  cases b with
  | v j => rw [Nat.eq_of_beq_eq_true (show Nat.beq i j = true from h)]
  | _ => exact absurd (show false = true from h) (by simp)
 | c s n d =>
  intro b h
  cases b with
  | c s' n' d' =>
   have h' : (beqB s s' && (Nat.beq n n' && Nat.beq d d')) = true := h
   simp only [Bool.and_eq_true] at h'
   rw [beqB_ok h'.1, Nat.eq_of_beq_eq_true h'.2.1, Nat.eq_of_beq_eq_true h'.2.2]
  | _ => exact absurd (show false = true from h) (by simp)
 | neg a ih =>
  intro b h
  cases b with
  | neg b => rw [ih b h]
  | _ => exact absurd (show false = true from h) (by simp)
 | add a b iha ihb =>
  intro y h
  cases y with
  | add a' b' =>
   have h' : (a.beq a' && b.beq b') = true := h
   simp only [Bool.and_eq_true] at h'
   rw [iha _ h'.1, ihb _ h'.2]
  | _ => exact absurd (show false = true from h) (by simp)
 | sub a b iha ihb =>
  intro y h
  cases y with
  | sub a' b' =>
   have h' : (a.beq a' && b.beq b') = true := h
   simp only [Bool.and_eq_true] at h'
   rw [iha _ h'.1, ihb _ h'.2]
  | _ => exact absurd (show false = true from h) (by simp)
 | mul a b iha ihb =>
  intro y h
  cases y with
  | mul a' b' =>
   have h' : (a.beq a' && b.beq b') = true := h
   simp only [Bool.and_eq_true] at h'
   rw [iha _ h'.1, ihb _ h'.2]
  | _ => exact absurd (show false = true from h) (by simp)
 | quo a b iha ihb =>
  intro y h
  cases y with
  | quo a' b' =>
   have h' : (a.beq a' && b.beq b') = true := h
   simp only [Bool.and_eq_true] at h'
   rw [iha _ h'.1, ihb _ h'.2]
  | _ => exact absurd (show false = true from h) (by simp)
noncomputable def Qe.bnd : Qe → Nat := Qe.rec (motive := fun _ => Nat)
 (fun i => cond (Nat.ble 100 i) 4096 64)
 (fun _ n d => Nat.add (Nat.add (Nat.div (Nat.log2 n) 64) (Nat.div (Nat.log2 d) 64)) 1)
 (fun _ a => a)
 (fun _ _ a b => Nat.succ (Nat.add a b))
 (fun _ _ a b => Nat.succ (Nat.add a b))
 (fun _ _ a b => Nat.add a b)
 (fun _ _ a b => Nat.add a b)
theorem Qe.bnd_pos : ∀ e : Qe, 1 ≤ e.bnd := by
 intro e
 induction e with
 | v i => show 1 ≤ cond (Nat.ble 100 i) 4096 64; cases Nat.ble 100 i <;> decide
 | c s n d => exact Nat.succ_le_succ (Nat.zero_le _)
 | neg a ih => exact ih
 | add a b _ _ => exact Nat.succ_le_succ (Nat.zero_le _)
 | sub a b _ _ => exact Nat.succ_le_succ (Nat.zero_le _)
 | mul a b iha _ => exact Nat.le_trans iha (Nat.le_add_right _ _)
 | quo a b iha _ => exact Nat.le_trans iha (Nat.le_add_right _ _)
theorem sm_zero {k : Nat} (hk : 1 ≤ k) : Sm k 0 := ⟨sz_zero.up (Nat.zero_le _), sz_one.up hk⟩
theorem sz_add1 {k m n : Nat} (h : Sz k n) (i : Sz k m) : Sz (k + 1) (n + m) := by
 have a := h.out
 have b := i.out
 refine ⟨?_⟩
 rw [Nat.pow_succ]
 have h2 : Big.M64 ^ k * 2 ≤ Big.M64 ^ k * Big.M64 := Nat.mul_le_mul_left _ (by have := M64_gt; omega)
 generalize Big.M64 ^ k = x at *
 omega
theorem sm_add1 {k j : Nat} {q r : Rat} (h : Sm k q) (i : Sm j r) : Sm (k + j + 1) (q + r) := by
 obtain ⟨_, h2, h3⟩ := Big.add_parts q r _ _ _ _ rfl rfl rfl rfl
 refine ⟨?_, ?_⟩
 ·rw [h2]
  refine Sz.le ?_ (Nat.div_le_self _ _)
  refine Sz.le ?_ (abs_sum_le _ _ _ _)
  exact sz_add1 (h.nu.mul (i.de.le (Nat.div_le_self _ _))) ((i.nu.mul (h.de.le (Nat.div_le_self _ _))).up (by omega))
 ·rw [h3]
  exact ((h.de.le (Nat.div_le_self _ _)).mul (i.de.le (Nat.div_le_self _ _))).up (by omega)
theorem sm_sub {k j : Nat} {q r : Rat} (h : Sm k q) (i : Sm j r) : Sm (k + j + 1) (q - r) := by
 rw [Rat.sub_eq_add_neg]
 exact sm_add1 h i.neg
theorem Qe.sm {ρ : Nat → Rat} (hρ : ∀ i, i < 100 → Fit (ρ i)) (hβ : ∀ i, Sm 4096 (ρ i)) : ∀ e : Qe, Sm e.bnd (e.ev ρ) := by
 intro e
 induction e with
 | v i =>
  show Sm (cond (Nat.ble 100 i) 4096 64) (ρ i)
  cases hi : Nat.ble 100 i with
  | true => exact hβ i
  | false => exact (hρ i (by
     rcases Nat.lt_or_ge i 100 with h | h
     ·exact h
     ·rw [Nat.ble_eq_true_of_le h] at hi; cases hi)).sm
 | c s n d =>
  show Sm (Nat.div (Nat.log2 n) 64 + Nat.div (Nat.log2 d) 64 + 1) (mkRat (Big.sI s n) d)
  have e1 : Nat.div (Nat.log2 n) 64 = Nat.log2 n / 64 := rfl
  have e2 : Nat.div (Nat.log2 d) 64 = Nat.log2 d / 64 := rfl
  rw [e1, e2]
  rcases Nat.eq_zero_or_pos d with h0 | h0
  ·subst h0
   rw [Rat.mkRat_zero]
   exact sm_zero (by omega)
  ·obtain ⟨_, p2, p3⟩ := Big.of_parts s n d h0
   refine ⟨?_, ?_⟩
   ·rw [p2]; exact (sz_log (k := Nat.log2 n / 64 + Nat.log2 d / 64 + 1) (by omega)).le (Nat.div_le_self _ _)
   ·rw [p3]; exact (sz_log (k := Nat.log2 n / 64 + Nat.log2 d / 64 + 1) (by omega)).le (Nat.div_le_self _ _)
 | neg a ih => exact ih.neg
 | add a b iha ihb => exact sm_add1 iha ihb
 | sub a b iha ihb => exact sm_sub iha ihb
 | mul a b iha ihb => exact iha.mul ihb
 | quo a b iha ihb =>
  show Sm (a.bnd + b.bnd) (a.ev ρ / b.ev ρ)
  by_cases h0 : Big.nu (b.ev ρ) = 0
  ·rw [Big.nu_zero.1 h0, Rat.div_def, Rat.inv_zero, Rat.mul_zero]
   exact sm_zero (Nat.le_trans a.bnd_pos (Nat.le_add_right _ _))
  ·rw [Rat.div_def]
   exact iha.mul (ihb.inv h0)
noncomputable def symHid : TypeId → Bool := natSig.hid 0
theorem symHid_nat {b : Nat} {t : TypeId} (h : natSig.hid b t = true) : symHid t = true := h
class Fz where
 t : TypeId → Bool
 is : Nat → World → Value → Prop
 one : ∀ i w v, is i w v → isOne v = true
 lo : Nat
 stable : ∀ i w w' v, is i w v → (∀ (b : Nat) (c : Array Value) (ty : TypeId) (z : Nat × Nat), w.heap[b]? = some (.cells c ty z) → (b < lo ∨ t ty = true ∨ symHid ty = true) → w'.heap[b]? = some (.cells c ty z)) → is i w' v
instance (priority := low) fz0 : Fz := ⟨fun _ => false, fun _ _ _ => False, fun _ _ _ h => h.elim, 0, fun _ _ _ _ h _ => h.elim⟩
structure Env where
 q : Nat → Rat
 raw : Nat → Bool × ByteArray × ByteArray
 fit : ∀ i, i < 100 → Fit (q i)
 big : ∀ i, Sm 4096 (q i)
 bad : ∀ i, BadF (raw i)
 lo : Nat
 lst : Nat → List Rat
 nat : Nat → Nat
 nat0 : nat 0 = 0
 [fz : Fz]
inductive Le where
 | nil
 | v (c : Nat)
 | snoc (l : Le) (e : Qe)
 | take (l : Le) (a : Nat) (s : Int)
def Le.ev (ρ : Env) : Le → List Rat
 | .nil => []
 | .v c => ρ.lst c
 | .snoc l e => l.ev ρ ++ [e.ev ρ.q]
 | .take l a s => (l.ev ρ).take ((ρ.nat a : Int) + s).toNat
inductive Sy where
 | n (n : Nat)
 | ng (e : Qe)
 | nu (e : Qe)
 | de (e : Qe)
 | fn (e : Qe)
 | fd (e : Qe)
 | rg (i : Nat)
 | rn (i : Nat)
 | rd (i : Nat)
 | it (e : Qe)
 | is (e : Qe)
 | lg (l : List Nat)
 | ix (a : Nat) (s : Int)
 | iz (k : Nat) (e : Qe)
 | ls (K c : Nat)
 | lp (K c a : Nat) (s : Int)
 | ol (K : Nat) (l : Le) (z : Option (Nat × Int))
 | pl (K a : Nat) (s : Int)
 | wl (a : Nat) (s : Int)
 | lr (c a : Nat)
 | lq (c a x : Nat) (s : Int)
 | rl (c : Nat)
 | rp (c f a : Nat) (s : Int)
 | oq (i : Nat)
def lenC (ρ : Env) (c : Nat) : Int := match c % 4 with
 | 0 => ((szN (Big.nu (ρ.q (c / 4))) : Nat) : Int)
 | 1 => ((szN (Big.de (ρ.q (c / 4))) : Nat) : Int)
 | 2 => (((ρ.raw (c / 4)).2.1.size : Nat) : Int)
 | _ => (((ρ.raw (c / 4)).2.2.size : Nat) : Int)
def lenSum (ρ : Env) : List Nat → Int
 | [] => 0
 | c :: l => match l with
  | [] => lenC ρ c
  | _ => IntKind.i64.wrap (lenSum ρ l + lenC ρ c)
structure I16 (q : Rat) : Prop where
 lo : -32768 ≤ q.num
 hi : q.num ≤ 32767
 den : q.den = 1
def ikOf : Nat → IntKind
 | 0 => .i64
 | _ => .i8
def izIs (k : Nat) (q : Rat) (v : Value) : Prop := v = .int (ikOf k) q.num ∧ q.den = 1 ∧ -9223372036854775808 ≤ q.num ∧ q.num ≤ 9223372036854775807
def elIs (K : Nat) (w : World) (q : Rat) (l : List Value) : Prop := match K with
 | 0 => l = [.bool (Big.ng q), .string (bst (Big.nu q)), .string (bst (Big.de q))]
 | 1 => ∃ a b, l = [.bool (Big.ng q), a, b] ∧ NatIn w a (Big.nu q) ∧ NatIn w b (Big.de q)
 | 2 => ∃ v, l = [v] ∧ izIs 0 q v
 | 3 => ∃ v, l = [v] ∧ izIs 1 q v
 | _ => False
def elSz : Nat → Nat
 | 0 => 3
 | 1 => 3
 | _ => 1
def RowAt (K : Nat) (w : World) (cl : List Value) (off : Nat) (qs : List Rat) : Prop := ∀ (i : Nat) (q : Rat), qs[i]? = some q → elIs K w q ((cl.drop (off + i * elSz K)).take (elSz K))
abbrev Kept (hid : Nat → TypeId → Bool) (w w' : World) : Prop := ∀ (b : Nat) (c : Array Value) (t : TypeId) (z : Nat × Nat), w.heap[b]? = some (.cells c t z) → hid b t = true → w'.heap[b]? = some (.cells c t z)
theorem elIs.stable {K : Nat} {w w' : World} {q : Rat} {l : List Value} (h : elIs K w q l) (hk : Kept (fun _ => symHid) w w') : elIs K w' q l := by
 unfold elIs at h ⊢
 split at h
 ·exact h
 ·obtain ⟨a, b, h1, h2, h3⟩ := h
  have hn := fun (b : Nat) (c : Array Value) (t : TypeId) (z : Nat × Nat) h1 (h2 : natSig.hid b t = true) => hk b c t z h1 (symHid_nat h2)
  exact ⟨a, b, h1, nat_stable h2 hn, nat_stable h3 hn⟩
 ·exact h
 ·exact h
 ·exact h.elim
theorem RowAt.stable {K off : Nat} {w w' : World} {cl : List Value} {qs : List Rat} (h : RowAt K w cl off qs) (hk : Kept (fun _ => symHid) w w') : RowAt K w' cl off qs := fun i q hq => (h i q hq).stable hk
def lsIs (ρ : Env) (K c : Nat) (w : World) (v : Value) : Prop := ∃ a m, v = .slice a (ρ.lst c).length m ∧ (ρ.lst c).length ≤ m ∧ (ρ.lst c ≠ [] → ∃ b off cl t z, a = some ⟨b, off, none⟩ ∧ b < ρ.lo ∧ w.heap[b]? = some (.cells ⟨cl⟩ t z) ∧ RowAt K w cl off (ρ.lst c))
def lpIs (ρ : Env) (K c a : Nat) (s : Int) (w : World) (v : Value) : Prop := ∃ b off cl t z i, v = .pointer (some ⟨b, off + i * elSz K, none⟩) ∧ ((i : Nat) : Int) = ρ.nat a + s ∧ i < (ρ.lst c).length ∧ b < ρ.lo ∧ w.heap[b]? = some (.cells ⟨cl⟩ t z) ∧ RowAt K w cl off (ρ.lst c)
def rawC (x : Bool × ByteArray × ByteArray) : List Value := [.bool x.1, .string x.2.1, .string x.2.2]
def RawAt (ρ : Env) (c a : Nat) (cl : List Value) (off : Nat) : Prop := (ρ.lst c).length < ρ.nat a → (cl.drop (off + (ρ.lst c).length * 3)).take 3 = rawC (ρ.raw c)
def lrIs (ρ : Env) (c a : Nat) (w : World) (v : Value) : Prop := ∃ ad m, v = .slice ad (ρ.nat a) m ∧ ρ.nat a ≤ m ∧ (ρ.lst c).length ≤ ρ.nat a ∧ (0 < ρ.nat a → ∃ b off cl t z, ad = some ⟨b, off, none⟩ ∧ b < ρ.lo ∧ w.heap[b]? = some (.cells ⟨cl⟩ t z) ∧ RowAt 0 w cl off (ρ.lst c) ∧ RawAt ρ c a cl off)
def lqIs (ρ : Env) (c a x : Nat) (s : Int) (w : World) (v : Value) : Prop := ∃ b off cl t z i, v = .pointer (some ⟨b, off + i * 3, none⟩) ∧ ((i : Nat) : Int) = ρ.nat x + s ∧ i < ρ.nat a ∧ b < ρ.lo ∧ w.heap[b]? = some (.cells ⟨cl⟩ t z) ∧ RowAt 0 w cl off (ρ.lst c) ∧ RawAt ρ c a cl off
def frC (q : Rat) : List Value := [.bool (Big.ng q), .string (bst (Big.nu q)), .string (bst (Big.de q))]
def RowsAt (cl : List Value) (off : Nat) (qs rs : List Rat) : Prop := rs.length = qs.length ∧ ∀ (i : Nat) (q p : Rat), qs[i]? = some q → rs[i]? = some p → (cl.drop (off + i * 6)).take 6 = frC q ++ frC p
def rlIs (ρ : Env) (c : Nat) (w : World) (v : Value) : Prop := ∃ a m, v = .slice a (ρ.lst c).length m ∧ (ρ.lst c).length ≤ m ∧ (ρ.lst c ≠ [] → ∃ b off cl t z, a = some ⟨b, off, none⟩ ∧ (b < ρ.lo ∨ ρ.fz.t t = true) ∧ w.heap[b]? = some (.cells ⟨cl⟩ t z) ∧ RowsAt cl off (ρ.lst c) (ρ.lst (c + 1)))
def rpIs (ρ : Env) (c f a : Nat) (s : Int) (w : World) (v : Value) : Prop := f < 2 ∧ ∃ b off cl t z i, v = .pointer (some ⟨b, off + i * 6 + f * 3, none⟩) ∧ ((i : Nat) : Int) = ρ.nat a + s ∧ i < (ρ.lst c).length ∧ (b < ρ.lo ∨ ρ.fz.t t = true) ∧ w.heap[b]? = some (.cells ⟨cl⟩ t z) ∧ RowsAt cl off (ρ.lst c) (ρ.lst (c + 1))
def tyK : Nat → TypeId
 | 0 => 27
 | 1 => 70
 | 2 => 2
 | 3 => 4294967295
 | _ => 4294967295
def zeroK : Nat → List Value
 | 0 => [.bool false, .string ⟨#[]⟩, .string ⟨#[]⟩]
 | 1 => [.bool false, .slice none 0 0, .slice none 0 0]
 | 2 => [.int .i64 0]
 | 3 => [.int .i8 0]
 | _ => [.pointer none]
def olIs (ρ : Env) (K : Nat) (l : Le) (z : Option (Nat × Int)) (w : World) (v : Value) : Prop := ∃ a n m, v = .slice a n m ∧ n ≤ m ∧ (l.ev ρ).length ≤ n ∧ (match z with | none => n = (l.ev ρ).length | some p => (n : Int) = ρ.nat p.1 + p.2) ∧ (a = none → m = 0) ∧
 ∀ ad, a = some ad → ∃ cl, ad = ⟨ad.block, 0, none⟩ ∧ w.heap[ad.block]? = some (.cells ⟨cl⟩ (tyK K) (0, 0)) ∧ cl.length = m * elSz K ∧ RowAt K w cl 0 (l.ev ρ) ∧ ∀ i, (l.ev ρ).length ≤ i → i < n → (cl.drop (i * elSz K)).take (elSz K) = zeroK K
def Sy.holds (ρ : Env) : Sy → World → Value → Prop
 | .n k, w, v => NatIn w v k
 | .ng e, _, v => v = .bool (Big.ng (e.ev ρ.q))
 | .nu e, w, v => NatIn w v (Big.nu (e.ev ρ.q))
 | .de e, w, v => NatIn w v (Big.de (e.ev ρ.q))
 | .fn e, _, v => v = .string (bst (Big.nu (e.ev ρ.q)))
 | .fd e, _, v => v = .string (bst (Big.de (e.ev ρ.q)))
 | .rg i, _, v => v = .bool (ρ.raw i).1
 | .rn i, _, v => v = .string (ρ.raw i).2.1
 | .rd i, _, v => v = .string (ρ.raw i).2.2
 | .it e, _, v => v = .int .i64 (e.ev ρ.q).num
 | .is e, _, v => v = .int .i16 (e.ev ρ.q).num ∧ I16 (e.ev ρ.q)
 | .lg l, _, v => v = .int .i64 (lenSum ρ l)
 | .ix a s, _, v => v = .int .i64 (ρ.nat a + s)
 | .iz k e, _, v => izIs k (e.ev ρ.q) v
 | .ls K c, w, v => lsIs ρ K c w v
 | .lp K c a s, w, v => lpIs ρ K c a s w v
 | .ol _ _ _, _, _ => False
 | .pl _ _ _, _, _ => False
 | .wl a s, _, v => ∃ b n m, v = .slice b n m ∧ ((n : Nat) : Int) = ρ.nat a + s
 | .lr c a, w, v => lrIs ρ c a w v
 | .lq c a x s, w, v => lqIs ρ c a x s w v
 | .rl c, w, v => rlIs ρ c w v
 | .rp c f a s, w, v => rpIs ρ c f a s w v
 | .oq i, w, v => ρ.fz.is i w v ∧ ρ.fz.lo ≤ ρ.lo
theorem Sy.one {ρ : Env} {f : Sy} {w : World} {v : Value} (h : f.holds ρ w v) : isOne v = true := by
 cases f <;> first | exact nat_one h | (rw [show v = _ from h]; rfl) | (rw [h.1]; rfl) | skip
 ·obtain ⟨a, m, rfl, _⟩ := h; rfl
 ·obtain ⟨b, off, cl, t, z, i, rfl, _⟩ := h; rfl
 ·exact h.elim
 ·exact h.elim
 ·obtain ⟨b, n, m, rfl, _⟩ := h; rfl
 ·obtain ⟨a, m, rfl, _⟩ := h; rfl
 ·obtain ⟨b, off, cl, t, z, i, rfl, _⟩ := h; rfl
 ·obtain ⟨a, m, rfl, _⟩ := h; rfl
 ·obtain ⟨_, b, off, cl, t, z, i, rfl, _⟩ := h; rfl
 ·exact ρ.fz.one _ _ _ h.1
noncomputable def symSig (ρ : Env) : Sig Sy where
 holds := Sy.holds ρ
 hid b t := Nat.blt b ρ.lo || (ρ.fz.t t || symHid t)
 hn _ t := ρ.fz.t t || symHid t
 lo := ρ.lo
 new := fun _ b t hb h => by
  rw [h, Bool.or_false]
  cases hq : Nat.blt b ρ.lo with
  | false => rfl
  | true =>
   have : b < ρ.lo := Nat.le_of_ble_eq_true hq
   omega
 G := natSig.G
 base := natSig.base
 baseS := natSig.baseS
 ow f w v := match f with
  | .ol K l z => olIs ρ K l z w v
  | _ => False
 at_ f off := match f with
  | .pl K a s => ∃ i : Nat, off = i * elSz K ∧ (i : Int) = ρ.nat a + s
  | _ => False
 owS := fun f _ _ v h hk => by
  cases f <;> first | exact h.elim | skip
  obtain ⟨a, n, m, h1, h2, h3, h4, h5, h6⟩ := h
  refine ⟨a, n, m, h1, h2, h3, h4, h5, fun ad hd => ?_⟩
  obtain ⟨cl, g1, g2, g3, g4, g5⟩ := h6 ad hd
  exact ⟨cl, g1, hk _ _ _ _ g2 (.inr (by rw [h1, hd]; rfl)), g3, g4.stable fun b c t z hb hh => hk b c t z hb (.inl (by rw [show symHid t = true from hh, Bool.or_true, Bool.or_true])), g5⟩
 stable := fun f _ _ _ h hk => by
  have hn := fun (b : Nat) (c : Array Value) (t : TypeId) (z : Nat × Nat) h1 (h2 : natSig.hid b t = true) => hk b c t z h1 (by rw [symHid_nat (b := b) h2, Bool.or_true, Bool.or_true])
  have hl := fun (b : Nat) (c : Array Value) (t : TypeId) (z : Nat × Nat) h1 (h2 : Nat.blt b ρ.lo = true) => hk b c t z h1 (by rw [h2, Bool.true_or])
  have hs := fun (b : Nat) (c : Array Value) (t : TypeId) (z : Nat × Nat) h1 (h2 : symHid t = true) => hk b c t z h1 (by rw [h2, Bool.or_true, Bool.or_true])
  cases f <;> first | exact nat_stable h hn | exact h | skip
  ·obtain ⟨a, m, h1, h2, h3⟩ := h
   exact ⟨a, m, h1, h2, fun hp => by
    obtain ⟨b, off, cl, t, z, h4, h5, h6, h7⟩ := h3 hp
    exact ⟨b, off, cl, t, z, h4, h5, hl b _ _ _ h6 (Nat.ble_eq_true_of_le h5), h7.stable hs⟩⟩
  ·obtain ⟨b, off, cl, t, z, i, h1, h2, h3, h4, h5, h6⟩ := h
   exact ⟨b, off, cl, t, z, i, h1, h2, h3, h4, hl b _ _ _ h5 (Nat.ble_eq_true_of_le h4), h6.stable hs⟩
  ·obtain ⟨a, m, h1, h2, h8, h3⟩ := h
   exact ⟨a, m, h1, h2, h8, fun hp => by
    obtain ⟨b, off, cl, t, z, h4, h5, h6, h7, h9⟩ := h3 hp
    exact ⟨b, off, cl, t, z, h4, h5, hl b _ _ _ h6 (Nat.ble_eq_true_of_le h5), h7.stable hs, h9⟩⟩
  ·obtain ⟨b, off, cl, t, z, i, h1, h2, h3, h4, h5, h6, h7⟩ := h
   exact ⟨b, off, cl, t, z, i, h1, h2, h3, h4, hl b _ _ _ h5 (Nat.ble_eq_true_of_le h4), h6.stable hs, h7⟩
  ·obtain ⟨a, m, h1, h2, h3⟩ := h
   exact ⟨a, m, h1, h2, fun hp => by
    obtain ⟨b, off, cl, t, z, h4, h5, h6, h7⟩ := h3 hp
    exact ⟨b, off, cl, t, z, h4, h5, hk b _ _ _ h6 (by
     rcases h5 with h5 | h5
     ·rw [show Nat.blt b ρ.lo = true from Nat.ble_eq_true_of_le h5, Bool.true_or]
     ·rw [h5, Bool.true_or, Bool.or_true]), h7⟩⟩
  ·obtain ⟨h0, b, off, cl, t, z, i, h1, h2, h3, h4, h5, h6⟩ := h
   exact ⟨h0, b, off, cl, t, z, i, h1, h2, h3, h4, hk b _ _ _ h5 (by
    rcases h4 with h5 | h5
    ·rw [show Nat.blt b ρ.lo = true from Nat.ble_eq_true_of_le h5, Bool.true_or]
    ·rw [h5, Bool.true_or, Bool.or_true]), h6⟩
  ·exact ⟨ρ.fz.stable _ _ _ _ h.1 fun b c t z h1 h2 => hk b c t z h1 (by
    rcases h2 with h2 | h2 | h2
    ·rw [show Nat.blt b ρ.lo = true from Nat.ble_eq_true_of_le (Nat.lt_of_lt_of_le h2 h.2), Bool.true_or]
    ·rw [h2, Bool.true_or, Bool.or_true]
    ·rw [h2, Bool.or_true, Bool.or_true]), h.2⟩
abbrev Pl (ρ : Env) : Prop := ρ.fz.t = fun _ => false
theorem new_pl {ρ : Env} (hf : Pl ρ) {b : Nat} {t : TypeId} (h : ρ.lo ≤ b) (hs : symHid t = false) : (symSig ρ).hid b t = false :=
 (symSig ρ).new 0 b t h (by show (ρ.fz.t t || symHid t) = false; rw [hf, hs]; rfl)
theorem hn_of {ρ : Env} (hf : Pl ρ) : (fun (_ : Nat) => symHid) = (symSig ρ).hn := by
 funext n t
 show symHid t = (ρ.fz.t t || symHid t)
 rw [hf]; rfl
noncomputable def symLen : Sy → Option Nat
 | .n k => some (wordsN k)
 | _ => none
structure As where
 k : Nat
 a : Qe
 b : Qe
 t : Bool
def As.holds (ρ : Nat → Rat) (x : As) : Prop := match x.k with
 | 0 => x.t = true ↔ Fit (x.a.ev ρ)
 | 1 => x.t = true ↔ x.a.ev ρ = 0
 | 2 => x.t = true ↔ x.a.ev ρ = x.b.ev ρ
 | 5 => x.t = true → (x.b.ev ρ).num = (x.a.ev ρ).num.tmod 12
 | 8 => x.t = true → Big.nu (x.a.ev ρ) < 65535 ∧ Big.de (x.a.ev ρ) < 65535
 | 9 => x.t = true ↔ x.a.ev ρ < x.b.ev ρ
 | 6 => x.t = true → IntKind.i64.wrap ((x.a.ev ρ).num + (x.b.ev ρ).num) = ((Qe.add x.a x.b).ev ρ).num
 | _ => x.t = Big.ng (x.a.ev ρ)
def z0 : Qe := .v 0
noncomputable def ask (A : List As) (k : Nat) (a b : Qe) : Option Bool := List.rec (motive := fun _ => Option Bool) none
 (fun x _ ih => Bool.rec (motive := fun _ => Option Bool) ih (some x.t) (Nat.beq k x.k && (a.beq x.a && b.beq x.b))) A
theorem ask_ok {k : Nat} {a b : Qe} {t : Bool} : ∀ {A : List As}, ask A k a b = some t → ∃ x ∈ A, x.k = k ∧ x.a = a ∧ x.b = b ∧ x.t = t
 | [], h => by cases h
 | x :: A, h => by
  have h' : (Bool.rec (motive := fun _ => Option Bool) (ask A k a b) (some x.t) (Nat.beq k x.k && (a.beq x.a && b.beq x.b)) : Option Bool) = some t := h
  cases hb : (Nat.beq k x.k && (a.beq x.a && b.beq x.b)) with
  | false =>
   rw [hb] at h'
   obtain ⟨y, hy, r⟩ := ask_ok h'
   exact ⟨y, List.mem_cons_of_mem _ hy, r⟩
  | true =>
   rw [hb] at h'
   simp only [Bool.and_eq_true] at hb
   exact ⟨x, List.mem_cons_self, (Nat.eq_of_beq_eq_true hb.1).symm, (Qe.beq_ok _ _ hb.2.1).symm, (Qe.beq_ok _ _ hb.2.2).symm, Option.some.inj h'⟩
def AllH (ρ : Env) (A : List As) : Prop := ∀ x ∈ A, x.holds ρ.q
section
variable {ρ : Env} {A : List As} {a b : Qe} {t : Bool}
theorem ask_fit (hA : AllH ρ A) (h : ask A 0 a z0 = some t) : t = true ↔ Fit (a.ev ρ.q) := by
 obtain ⟨x, hx, h1, rfl, _, rfl⟩ := ask_ok h
 have := hA x hx
 unfold As.holds at this
 rw [h1] at this
 exact this
theorem ask_nought (hA : AllH ρ A) (h : ask A 1 a z0 = some t) : t = true ↔ a.ev ρ.q = 0 := by
 obtain ⟨x, hx, h1, rfl, _, rfl⟩ := ask_ok h
 have := hA x hx
 unfold As.holds at this
 rw [h1] at this
 exact this
theorem ask_below (hA : AllH ρ A) (h : ask A 3 a z0 = some t) : t = Big.ng (a.ev ρ.q) := by
 obtain ⟨x, hx, h1, rfl, _, rfl⟩ := ask_ok h
 have := hA x hx
 unfold As.holds at this
 rw [h1] at this
 exact this
end
noncomputable def fitC (n d : Nat) : Bool := Nat.ble (szN n) 512 && Nat.ble (szN d) 512
theorem fit_c {s : Bool} {n d : Nat} (h : fitC n d = true) : Fit (mkRat (Big.sI s n) d) := by
 simp only [fitC, Bool.and_eq_true] at h
 have h1 := Nat.le_of_ble_eq_true h.1
 have h2 := Nat.le_of_ble_eq_true h.2
 rcases Nat.eq_zero_or_pos d with h0 | h0
 ·subst h0
  rw [Rat.mkRat_zero]
  exact ⟨by decide, by decide⟩
 ·obtain ⟨_, p2, p3⟩ := Big.of_parts s n d h0
  exact ⟨by rw [p2]; exact Nat.le_trans (szN_mono (Nat.div_le_self _ _)) h1, by rw [p3]; exact Nat.le_trans (szN_mono (Nat.div_le_self _ _)) h2⟩
noncomputable def fitB (A : List As) (e : Qe) : Option Bool := match ask A 0 e z0 with
 | some t => some t
 | none => match e with
  | .v i => cond (Nat.ble 100 i) none (some true)
  | .c _ n d => cond (fitC n d) (some true) none
  | _ => none
theorem fitB_ok {ρ : Env} {A : List As} (hA : AllH ρ A) {e : Qe} {t : Bool} (h : fitB A e = some t) : t = true ↔ Fit (e.ev ρ.q) := by
 unfold fitB at h
 cases ha : ask A 0 e z0 with
 | some u => rw [ha] at h; cases h; exact ask_fit hA ha
 | none =>
  rw [ha] at h
  cases e with
  | v i =>
   simp only at h
   cases hi : Nat.ble 100 i with
   | true => rw [hi] at h; cases h
   | false =>
    rw [hi] at h; cases h
    exact ⟨fun _ => ρ.fit i (by
     rcases Nat.lt_or_ge i 100 with h | h
     ·exact h
     ·rw [Nat.ble_eq_true_of_le h] at hi; cases hi), fun _ => rfl⟩
  | c s n d =>
   simp only at h
   cases hc : fitC n d with
   | false => rw [hc] at h; cases h
   | true => rw [hc] at h; cases h; exact ⟨fun _ => fit_c hc, fun _ => rfl⟩
  | _ => cases h
noncomputable def okB (e : Qe) : Bool := Nat.ble e.bnd 10000000
theorem okB_sm {ρ : Env} {e : Qe} (_ : okB e = true) : Sm e.bnd (e.ev ρ.q) := Qe.sm ρ.fit ρ.big e
theorem okB_le {e : Qe} (h : okB e = true) : e.bnd ≤ 10000000 := Nat.le_of_ble_eq_true h
section
variable {F : Type}
noncomputable def newFacts : List F → M F (List Value) := List.rec (motive := fun _ => M F (List Value)) (ret []) (fun f _ ih => bind (newFact f) fun x => bind ih fun l => ret (x :: l))
def HoldsL (S : Sig F) (w : World) : List F → List Value → Prop
 | [], us => us = []
 | f :: l, us => ∃ u us', us = u :: us' ∧ S.holds f w u ∧ isOne u = true ∧ HoldsL S w l us'
theorem loc_newFacts : ∀ l : List F, Loc (newFacts l)
 | [] => loc_ret _
 | f :: l => loc_bind (loc_newFact f) fun _ => loc_bind (loc_newFacts l) fun _ => loc_ret _
theorem newFacts_ok {S : Sig F} : ∀ (l : List F) {h h' : Tr (Blk F)} {nx nx' : Nat} {R W : List Nat} {vs : List Value} {r : Ren} {w : World} {us : List Value}, newFacts l h nx = .ok vs h' nx' R W → Mod S r h.get w → New r nx nx' → HoldsL S w l us →
  nx ≤ nx' ∧ ∃ r', Ext S r w nx nx' W h'.get r' w ∧ VsR r' vs us
 | [], h, h', nx, nx', R, W, vs, r, w, us, e, hM, hN, hu => by
  obtain ⟨rfl, rfl, rfl, rfl⟩ := ret_ok (show (ret [] : M F _) h nx = _ from e)
  obtain rfl : us = [] := hu
  exact ⟨Nat.le_refl _, r, Ext.refl _ _ hM, .nil⟩
 | f :: l, h, h', nx, nx', R, W, vs, r, w, us, e, hM, hN, hu => by
  obtain ⟨u, us', rfl, h1, ho, h2⟩ := hu
  obtain ⟨x, h3, nx3, R3, W3, R4, W4, e3, e4, rfl, rfl⟩ := bind_ok (show bind (newFact f) (fun x => bind (newFacts l) fun l => ret (x :: l)) h nx = _ from e)
  obtain ⟨i, h5, nx5, R5, W5, R6, W6, e5, e6, rfl, rfl⟩ := bind_ok e3
  obtain ⟨rfl, rfl, rfl, rfl⟩ := ret_ok e6
  unfold fresh at e5
  cases e5
  obtain ⟨xs, h7, nx7, R7, W7, R8, W8, e7, e8, rfl, rfl⟩ := bind_ok e4
  obtain ⟨rfl, rfl, rfl, rfl⟩ := ret_ok e8
  have hle : nx + 1 ≤ nx' := (loc_newFacts l).1 _ _ _ _ _ _ _ e7
  obtain ⟨r1, hX, hr⟩ := ext_fact (S := S) (f := f) hM (Below.refl _ w) (hN.sub (Nat.le_refl _) hle) h1 ho
  have hX' : Ext S r w nx (nx + 1) [] (h.set nx (.fact f)).get r1 w := hX.congr fun n => .inr (Tr.get_set _ _ _ _)
  obtain ⟨_, r2, hY, hs⟩ := newFacts_ok l e7 hX'.mod (New.after hN hX' (by omega)) h2
  refine ⟨by omega, r2, by simpa using hX'.trans hY (by omega) hle, .cons (.opq (hY.le.val _ _ hr) ho) hs⟩
theorem goes_agg {S : Sig F} {P : Program} {l : List F} {f : FuncId} {args' : List Value} {h h' : Tr (Blk F)} {nx nx' : Nat} {R W : List Nat} {r : Ren} {w : World} {v : Value}
  (e : (bind (newFacts l) fun vs => ret (.agg ⟨vs⟩) : M F Value) h nx = .ok v h' nx' R W) (hM : Mod S r h.get w) (hN : New r nx nx') (c : Calls P f ⟨args'⟩ w fun e w' => ∃ us, e = .returned (.agg ⟨us⟩) ∧ HoldsL S w' l us ∧ Below w.heap.size w w') :
  Calls P f ⟨args'⟩ w fun e w' => ∃ v' r', e = .returned v' ∧ VR r' v v' ∧ Ext S r w nx nx' W h'.get r' w' := by
 obtain ⟨vs, h1, nx1, R1, W1, R2, W2, e1, e2, rfl, rfl⟩ := bind_ok e
 obtain ⟨rfl, rfl, rfl, rfl⟩ := ret_ok e2
 refine c.mono ?_
 rintro en w' ⟨us, rfl, hu, hb⟩
 have hX := ext_below hM hb nx
 obtain ⟨hle, r', hY, hv⟩ := newFacts_ok l e1 hX.mod hN hu
 exact ⟨_, r', rfl, .agg hv, by simpa using hX.trans hY (Nat.le_refl _) hle⟩
theorem goes_aggT {S : Sig F} {P : Program} {l : List F} {f : FuncId} {args' : List Value} {h h' : Tr (Blk F)} {nx nx' : Nat} {R W : List Nat} {r : Ren} {w : World} {v u : Value} (hp : plain u = true)
  (e : (bind (newFacts l) fun vs => ret (.tuple ⟨[.agg ⟨vs⟩, u]⟩) : M F Value) h nx = .ok v h' nx' R W) (hM : Mod S r h.get w) (hN : New r nx nx') (c : Calls P f ⟨args'⟩ w fun e w' => ∃ us, e = .returned (.tuple ⟨[.agg ⟨us⟩, u]⟩) ∧ HoldsL S w' l us ∧ Below w.heap.size w w') :
  Calls P f ⟨args'⟩ w fun e w' => ∃ v' r', e = .returned v' ∧ VR r' v v' ∧ Ext S r w nx nx' W h'.get r' w' := by
 obtain ⟨vs, h1, nx1, R1, W1, R2, W2, e1, e2, rfl, rfl⟩ := bind_ok e
 obtain ⟨rfl, rfl, rfl, rfl⟩ := ret_ok e2
 refine c.mono ?_
 rintro en w' ⟨us, rfl, hu, hb⟩
 have hX := ext_below hM hb nx
 obtain ⟨hle, r', hY, hv⟩ := newFacts_ok l e1 hX.mod hN hu
 exact ⟨_, r', rfl, .tuple (.cons (.agg hv) (.cons (.same hp) .nil)), by simpa using hX.trans hY (Nat.le_refl _) hle⟩
theorem goes_pl {S : Sig F} {P : Program} {f : FuncId} {args' : List Value} {h h' : Tr (Blk F)} {nx nx' : Nat} {R W : List Nat} {r : Ren} {w : World} {u v : Value} (e : (ret u : M F Value) h nx = .ok v h' nx' R W) (hp : plain3 u = true) (hM : Mod S r h.get w)
  (c : Calls P f ⟨args'⟩ w fun e w' => e = .returned u ∧ Below w.heap.size w w') : Calls P f ⟨args'⟩ w fun e w' => ∃ v' r', e = .returned v' ∧ VR r' v v' ∧ Ext S r w nx nx' W h'.get r' w' := by
 obtain ⟨rfl, rfl, rfl, rfl⟩ := ret_ok e
 refine c.mono ?_
 rintro en w' ⟨rfl, hb⟩
 exact ⟨_, r, rfl, same3 hp, ext_below hM hb _⟩
end
noncomputable def getNg : Sy → Option Qe | .ng e => some e | _ => none
noncomputable def getNu : Sy → Option Qe | .nu e => some e | _ => none
noncomputable def getDe : Sy → Option Qe | .de e => some e | _ => none
noncomputable def getFn : Sy → Option Qe | .fn e => some e | _ => none
noncomputable def getFd : Sy → Option Qe | .fd e => some e | _ => none
noncomputable def getRn : Sy → Option Nat | .rn e => some e | _ => none
noncomputable def getRd : Sy → Option Nat | .rd e => some e | _ => none
noncomputable def knw {α : Type} (g : Sy → Option α) (v : Value) : M Sy α := bind (fact v) fun f => ofOpt (g f)
theorem loc_knw {α : Type} (g : Sy → Option α) (v : Value) : Loc (knw g v) := loc_bind (loc_fact v) fun _ => loc_opt _
section
variable {ρ : Env} {h h' : Tr (Blk Sy)} {nx nx' : Nat} {R W : List Nat} {r : Ren} {w : World}
theorem knw_ok {α : Type} {g : Sy → Option α} {v v' : Value} {x : α} (e : knw g v h nx = .ok x h' nx' R W) (hv : VR r v v') (hM : Mod (symSig ρ) r h.get w) : h' = h ∧ nx' = nx ∧ W = [] ∧ ∃ f, g f = some x ∧ f.holds ρ w v' := by
 obtain ⟨f, h1, nx1, R1, W1, R2, W2, e1, e2, rfl, rfl⟩ := bind_ok e
 obtain ⟨rfl, rfl, rfl, hh⟩ : h1 = h ∧ nx1 = nx ∧ W1 = [] ∧ (symSig ρ).holds f w v' := by
  have e1' : (fact v : M Sy Sy) h nx = .ok f h1 nx1 R1 W1 := e1
  exact fact_ok e1' hv hM
 cases hg : g f with
 | none => rw [hg] at e2; exact absurd e2 (by simp [ofOpt, fail])
 | some y =>
  rw [hg] at e2
  obtain ⟨rfl, rfl, rfl, rfl⟩ := ret_ok e2
  exact ⟨rfl, rfl, rfl, f, hg, hh⟩
theorem ng_of {f : Sy} {e : Qe} {v : Value} (hg : getNg f = some e) (h : f.holds ρ w v) : v = .bool (Big.ng (e.ev ρ.q)) := by cases f <;> simp [getNg] at hg; subst hg; exact h
theorem nu_of {f : Sy} {e : Qe} {v : Value} (hg : getNu f = some e) (h : f.holds ρ w v) : NatIn w v (Big.nu (e.ev ρ.q)) := by cases f <;> simp [getNu] at hg; subst hg; exact h
theorem de_of {f : Sy} {e : Qe} {v : Value} (hg : getDe f = some e) (h : f.holds ρ w v) : NatIn w v (Big.de (e.ev ρ.q)) := by cases f <;> simp [getDe] at hg; subst hg; exact h
theorem fn_of {f : Sy} {e : Qe} {v : Value} (hg : getFn f = some e) (h : f.holds ρ w v) : v = .string (bst (Big.nu (e.ev ρ.q))) := by cases f <;> simp [getFn] at hg; subst hg; exact h
theorem fd_of {f : Sy} {e : Qe} {v : Value} (hg : getFd f = some e) (h : f.holds ρ w v) : v = .string (bst (Big.de (e.ev ρ.q))) := by cases f <;> simp [getFd] at hg; subst hg; exact h
theorem rn_of {f : Sy} {e : Nat} {v : Value} (hg : getRn f = some e) (h : f.holds ρ w v) : v = .string (ρ.raw e).2.1 := by cases f <;> simp [getRn] at hg; subst hg; exact h
theorem rd_of {f : Sy} {e : Nat} {v : Value} (hg : getRd f = some e) (h : f.holds ρ w v) : v = .string (ρ.raw e).2.2 := by cases f <;> simp [getRd] at hg; subst hg; exact h
theorem vr_agg {l : List Value} {v' : Value} (h : VR r (.agg ⟨l⟩) v') : ∃ l', v' = .agg ⟨l'⟩ ∧ VsR r l l' := by
 cases h with
 | same p => simp [plain] at p
 | agg a => exact ⟨_, rfl, a⟩
end
noncomputable def num3 (l : List Value) : M Sy Qe := match l with
 | [a, b, c] => bind (knw getNg a) fun e => bind (knw getNu b) fun e2 => bind (knw getDe c) fun e3 => cond (e.beq e2 && e.beq e3) (ret e) fail
 | _ => fail
noncomputable def numV (v : Value) : M Sy Qe := match v with
 | .agg cs => num3 cs.toList
 | _ => fail
theorem loc_num3 (l : List Value) : Loc (num3 l) := by
 unfold num3
 split
 ·exact loc_bind (loc_knw _ _) fun _ => loc_bind (loc_knw _ _) fun _ => loc_bind (loc_knw _ _) fun _ => loc_cond (loc_ret _) loc_fail
 ·exact loc_fail
theorem loc_numV (v : Value) : Loc (numV v) := by
 unfold numV
 split
 ·exact loc_num3 _
 ·exact loc_fail
section
variable {ρ : Env} {h h' : Tr (Blk Sy)} {nx nx' : Nat} {R W : List Nat} {r : Ren} {w : World}
theorem num3_ok {l l' : List Value} {q : Qe} (e : num3 l h nx = .ok q h' nx' R W) (hv : VsR r l l') (hM : Mod (symSig ρ) r h.get w) : h' = h ∧ nx' = nx ∧ W = [] ∧ NumIn w (.agg ⟨l'⟩) (q.ev ρ.q) := by
 unfold num3 at e
 rcases l with _ | ⟨a, _ | ⟨b, _ | ⟨c, _ | ⟨d, l⟩⟩⟩⟩ <;> first | (cases (show (fail : M Sy Qe) h nx = _ from e); done) | skip
 cases hv with
 | cons ha hv => cases hv with
  | cons hb hv => cases hv with
   | cons hc hv =>
    cases hv
    obtain ⟨e1, h1, nx1, R1, W1, R2, W2, q1, q2, rfl, rfl⟩ := bind_ok e
    obtain ⟨rfl, rfl, rfl, f1, g1, k1⟩ := knw_ok q1 ha hM
    obtain ⟨e2, h2, nx2, R3, W3, R4, W4, q3, q4, rfl, rfl⟩ := bind_ok q2
    obtain ⟨rfl, rfl, rfl, f2, g2, k2⟩ := knw_ok q3 hb hM
    obtain ⟨e3, h3, nx3, R5, W5, R6, W6, q5, q6, rfl, rfl⟩ := bind_ok q4
    obtain ⟨rfl, rfl, rfl, f3, g3, k3⟩ := knw_ok q5 hc hM
    obtain ⟨hbq, q7⟩ := cond_ok q6
    obtain ⟨rfl, rfl, rfl, rfl⟩ := ret_ok q7
    simp only [Bool.and_eq_true] at hbq
    have x2 := Qe.beq_ok _ _ hbq.1
    have x3 := Qe.beq_ok _ _ hbq.2
    subst x2; subst x3
    refine ⟨rfl, rfl, by simp, _, _, ?_, nu_of g2 k2, de_of g3 k3⟩
    rw [ng_of g1 k1]
theorem numV_ok {v v' : Value} {q : Qe} (e : numV v h nx = .ok q h' nx' R W) (hv : VR r v v') (hM : Mod (symSig ρ) r h.get w) : h' = h ∧ nx' = nx ∧ W = [] ∧ NumIn w v' (q.ev ρ.q) := by
 unfold numV at e
 cases v with
 | agg cs =>
  obtain ⟨l⟩ := cs
  obtain ⟨l', rfl, hl⟩ := vr_agg hv
  exact num3_ok e hl hM
 | _ => exact absurd e (by simp [fail])
theorem num_holds {v' : Value} {e : Qe} (h : NumIn w v' (e.ev ρ.q)) : ∃ us, v' = .agg ⟨us⟩ ∧ HoldsL (symSig ρ) w [.ng e, .nu e, .de e] us := by
 obtain ⟨a, b, rfl, h1, h2⟩ := h
 exact ⟨[.bool (Big.ng (e.ev ρ.q)), a, b], rfl, _, _, rfl, rfl, rfl, _, _, rfl, h1, nat_one h1, _, _, rfl, h2, nat_one h2, rfl⟩
theorem frac_holds (e : Qe) : HoldsL (symSig ρ) w [.ng e, .fn e, .fd e] [.bool (Big.ng (e.ev ρ.q)), .string (bst (Big.nu (e.ev ρ.q))), .string (bst (Big.de (e.ev ρ.q)))] :=
 ⟨_, _, rfl, rfl, rfl, _, _, rfl, rfl, rfl, _, _, rfl, rfl, rfl, rfl⟩
end
noncomputable def frc (a b : Value) (e : Qe) : M Sy (Option Qe) := bind (knw getFn a) fun e2 => bind (knw getFd b) fun e3 => cond (e.beq e2 && e.beq e3) (ret (some e)) fail
noncomputable def raw (a b : Value) (i : Nat) : M Sy (Option Qe) := bind (knw getRn a) fun j => bind (knw getRd b) fun k => cond (Nat.beq i j && Nat.beq i k) (ret none) fail
noncomputable def isB (n : Nat) (s : ByteArray) : Bool := eqL eqC (btx n) s.data.toList
noncomputable def cst (s : Bool) (a b : Value) : Option (Option Qe) := match a with
 | .string x => match b with
  | .string y => cond (Nat.ble y.size 0 && (Nat.ble x.size 0 && !s)) (some none)
     (cond (Nat.beq (Nat.gcd (Big.bnum x.data.toList) (Big.bnum y.data.toList)) 1 && (Nat.ble 1 (Big.bnum y.data.toList) && ((!s || Nat.ble 1 (Big.bnum x.data.toList)) && (isB (Big.bnum x.data.toList) x && isB (Big.bnum y.data.toList) y))))
      (some (some (.c s (Big.bnum x.data.toList) (Big.bnum y.data.toList)))) none)
  | _ => none
 | _ => none
noncomputable def frg (b c : Value) (f : Sy) : M Sy (Option Qe) := match f with
 | .ng e => frc b c e
 | .rg i => raw b c i
 | _ => fail
noncomputable def frcV (l : List Value) : M Sy (Option Qe) := match l with
 | [a, b, c] => match a with
  | .bool s => ofOpt (cst s b c)
  | a => bind (fact a) (frg b c)
 | _ => fail
theorem loc_frg (b c : Value) (f : Sy) : Loc (frg b c f) := by
 unfold frg frc raw
 split
 ·exact loc_bind (loc_knw _ _) fun _ => loc_bind (loc_knw _ _) fun _ => loc_cond (loc_ret _) loc_fail
 ·exact loc_bind (loc_knw _ _) fun _ => loc_bind (loc_knw _ _) fun _ => loc_cond (loc_ret _) loc_fail
 ·exact loc_fail
theorem loc_frcV (l : List Value) : Loc (frcV l) := by
 unfold frcV
 split
 ·split
  ·exact loc_opt _
  ·exact loc_bind (loc_fact _) fun _ => loc_frg _ _ _
 ·exact loc_fail
theorem bad_zero : BadF (false, ⟨#[]⟩, ⟨#[]⟩) := by
 intro q _ ⟨_, _, h⟩
 have h1 : (⟨#[]⟩ : ByteArray).size = (bst (Big.de q)).size := congrArg ByteArray.size h
 have h2 := szN_pos (n := Big.de q) (by have := Big.de_pos q; omega)
 rw [bst_size] at h1
 have : (⟨#[]⟩ : ByteArray).size = 0 := rfl
 omega
def FrcIs (ρ : Env) (l' : List Value) : Option Qe → Prop
 | some e => l' = [.bool (Big.ng (e.ev ρ.q)), .string (bst (Big.nu (e.ev ρ.q))), .string (bst (Big.de (e.ev ρ.q)))]
 | none => ∃ x, BadF x ∧ l' = [.bool x.1, .string x.2.1, .string x.2.2]
theorem isB_ok {n : Nat} {s : ByteArray} (h : isB n s = true) : s = bst n := by
 have h1 := eqL_ok eqC_ok h
 obtain ⟨⟨l⟩⟩ := s
 unfold bst
 rw [h1]
theorem parts_c {s : Bool} {n d : Nat} (h1 : Nat.gcd n d = 1) (h2 : 1 ≤ d) (h3 : s = true → 1 ≤ n) : Big.ng (mkRat (Big.sI s n) d) = s ∧ Big.nu (mkRat (Big.sI s n) d) = n ∧ Big.de (mkRat (Big.sI s n) d) = d :=
 Big.parts h2 h1 h3 (show d ≠ 0 by omega) rfl rfl
theorem cst_ok {ρ : Env} {s : Bool} {a b : Value} {o : Option Qe} (h : cst s a b = some o) : FrcIs ρ [.bool s, a, b] o := by
 unfold cst at h
 cases a with
 | string x =>
  cases b with
  | string y =>
   simp only at h
   cases hz : (Nat.ble y.size 0 && (Nat.ble x.size 0 && !s)) with
   | true =>
    rw [hz] at h
    simp only [cond_true, Option.some.injEq] at h
    subst h
    simp only [Bool.and_eq_true, Bool.not_eq_true'] at hz
    have y0 := empty_of (Nat.le_zero.1 (Nat.le_of_ble_eq_true hz.1))
    have x0 := empty_of (Nat.le_zero.1 (Nat.le_of_ble_eq_true hz.2.1))
    have s0 := hz.2.2
    subst y0; subst x0; subst s0
    exact ⟨(false, ⟨#[]⟩, ⟨#[]⟩), bad_zero, rfl⟩
   | false =>
    rw [hz] at h
    simp only [cond_false] at h
    cases hk : (Nat.beq (Nat.gcd (Big.bnum x.data.toList) (Big.bnum y.data.toList)) 1 && (Nat.ble 1 (Big.bnum y.data.toList) && ((!s || Nat.ble 1 (Big.bnum x.data.toList)) && (isB (Big.bnum x.data.toList) x && isB (Big.bnum y.data.toList) y)))) with
    | false => rw [hk] at h; cases h
    | true =>
     rw [hk] at h
     simp only [cond_true, Option.some.injEq] at h
     subst h
     simp only [Bool.and_eq_true, Bool.or_eq_true, Bool.not_eq_true'] at hk
     obtain ⟨k1, k2, k3, k4, k5⟩ := hk
     obtain ⟨p1, p2, p3⟩ := parts_c (s := s) (Nat.eq_of_beq_eq_true k1) (Nat.le_of_ble_eq_true k2) (fun hs => by
      rcases k3 with k3 | k3
      ·rw [hs] at k3; cases k3
      ·exact Nat.le_of_ble_eq_true k3)
     show [Value.bool s, .string x, .string y] = [.bool (Big.ng (mkRat (Big.sI s (Big.bnum x.data.toList)) (Big.bnum y.data.toList))), .string (bst (Big.nu (mkRat (Big.sI s (Big.bnum x.data.toList)) (Big.bnum y.data.toList)))), .string (bst (Big.de (mkRat (Big.sI s (Big.bnum x.data.toList)) (Big.bnum y.data.toList))))]
     rw [p1, p2, p3, ← isB_ok k4, ← isB_ok k5]
  | _ => simp at h
 | _ => simp at h
section
variable {ρ : Env} {h h' : Tr (Blk Sy)} {nx nx' : Nat} {R W : List Nat} {r : Ren} {w : World}
theorem frg_ok {b c b' c' v : Value} {f : Sy} {o : Option Qe} (e : frg b c f h nx = .ok o h' nx' R W) (hb : VR r b b') (hc : VR r c c') (hf : f.holds ρ w v) (hM : Mod (symSig ρ) r h.get w) : h' = h ∧ nx' = nx ∧ W = [] ∧ FrcIs ρ [v, b', c'] o := by
 unfold frg at e
 cases f with
 | ng q =>
  obtain ⟨e2, h2, nx2, R3, W3, R4, W4, q3, q4, rfl, rfl⟩ := bind_ok (show frc b c q h nx = _ from e)
  obtain ⟨rfl, rfl, rfl, f2, g2, k2⟩ := knw_ok q3 hb hM
  obtain ⟨e3, h3, nx3, R5, W5, R6, W6, q5, q6, rfl, rfl⟩ := bind_ok q4
  obtain ⟨rfl, rfl, rfl, f3, g3, k3⟩ := knw_ok q5 hc hM
  obtain ⟨hbq, q7⟩ := cond_ok q6
  obtain ⟨rfl, rfl, rfl, rfl⟩ := ret_ok q7
  simp only [Bool.and_eq_true] at hbq
  have x2 := Qe.beq_ok _ _ hbq.1
  have x3 := Qe.beq_ok _ _ hbq.2
  subst x2; subst x3
  refine ⟨rfl, rfl, by simp, ?_⟩
  show [v, b', c'] = _
  rw [show v = .bool (Big.ng (q.ev ρ.q)) from hf, fn_of g2 k2, fd_of g3 k3]
 | rg i =>
  obtain ⟨e2, h2, nx2, R3, W3, R4, W4, q3, q4, rfl, rfl⟩ := bind_ok (show raw b c i h nx = _ from e)
  obtain ⟨rfl, rfl, rfl, f2, g2, k2⟩ := knw_ok q3 hb hM
  obtain ⟨e3, h3, nx3, R5, W5, R6, W6, q5, q6, rfl, rfl⟩ := bind_ok q4
  obtain ⟨rfl, rfl, rfl, f3, g3, k3⟩ := knw_ok q5 hc hM
  obtain ⟨hbq, q7⟩ := cond_ok q6
  obtain ⟨rfl, rfl, rfl, rfl⟩ := ret_ok q7
  simp only [Bool.and_eq_true] at hbq
  have x2 := Nat.eq_of_beq_eq_true hbq.1
  have x3 := Nat.eq_of_beq_eq_true hbq.2
  subst x2; subst x3
  refine ⟨rfl, rfl, by simp, ρ.raw i, ρ.bad i, ?_⟩
  rw [show v = .bool (ρ.raw i).1 from hf, rn_of g2 k2, rd_of g3 k3]
 | _ => exact absurd e (by simp [fail])
theorem frcV_ok {l l' : List Value} {o : Option Qe} (e : frcV l h nx = .ok o h' nx' R W) (hv : VsR r l l') (hM : Mod (symSig ρ) r h.get w) : h' = h ∧ nx' = nx ∧ W = [] ∧ FrcIs ρ l' o := by
 unfold frcV at e
 rcases l with _ | ⟨a, _ | ⟨b, _ | ⟨c, _ | ⟨d, l⟩⟩⟩⟩ <;> first | (cases (show (fail : M Sy (Option Qe)) h nx = _ from e); done) | skip
 cases hv with
 | cons ha hv => cases hv with
  | cons hb hv => cases hv with
   | cons hc hv =>
    cases hv
    simp only at e
    split at e
    ·rename_i s
     cases hcs : cst s b c with
     | none => rw [hcs] at e; exact absurd e (by simp [ofOpt, fail])
     | some o2 =>
      rw [hcs] at e
      obtain ⟨rfl, rfl, rfl, rfl⟩ := ret_ok e
      refine ⟨rfl, rfl, rfl, ?_⟩
      rw [ha.bool]
      have hb2 : plain b = true ∧ plain c = true := by
       unfold cst at hcs
       cases b <;> simp at hcs <;> cases c <;> simp at hcs <;> exact ⟨rfl, rfl⟩
      rw [hb.eq_of_plain hb2.1, hc.eq_of_plain hb2.2]
      exact cst_ok hcs
    ·obtain ⟨f, h1, nx1, R1, W1, R2, W2, q1, q2, rfl, rfl⟩ := bind_ok e
     obtain ⟨rfl, rfl, rfl, hf⟩ := fact_ok q1 ha hM
     obtain ⟨rfl, rfl, rfl, k⟩ := frg_ok q2 hb hc hf hM
     exact ⟨rfl, rfl, by simp, k⟩
end
noncomputable def newNum (e : Qe) : M Sy Value := bind (newFacts [.ng e, .nu e, .de e]) fun vs => ret (.agg ⟨vs⟩)
theorem loc_newNum (e : Qe) : Loc (newNum e) := loc_bind (loc_newFacts _) fun _ => loc_ret _
section
variable {ρ : Env} {A : List As}
noncomputable def num2 (args : List Value) (k : Qe → Qe → M Sy Value) : Option (M Sy Value) := match args with
 | [a, b] => some (bind (numV a) fun x => bind (numV b) fun y => cond (okB x && okB y) (k x y) fail)
 | _ => none
noncomputable def num1 (args : List Value) (k : Qe → M Sy Value) : Option (M Sy Value) := match args with
 | [a] => some (bind (numV a) fun x => cond (okB x) (k x) fail)
 | _ => none
def GoesS (ρ : Env) (f : FuncId) (args' : List Value) (r : Ren) (w : World) (nx nx' : Nat) (W : List Nat) (g' : Nat → Option (Blk Sy)) (v : Value) : Prop :=
 Calls Try.prog f ⟨args'⟩ w fun e w' => ∃ v' r', e = .returned v' ∧ VR r' v v' ∧ Ext (symSig ρ) r w nx nx' W g' r' w'
theorem num2_ok {f : FuncId} {k : Qe → Qe → M Sy Value} (hl : ∀ n m, Loc (k n m)) (hk : ∀ x y (h : Tr (Blk Sy)) nx v h' nx' R W, k x y h nx = .ok v h' nx' R W → ∀ r w a b, NumIn w a (x.ev ρ.q) → NumIn w b (y.ev ρ.q) → Sm (max x.bnd y.bnd) (x.ev ρ.q) → Sm (max x.bnd y.bnd) (y.ev ρ.q) → max x.bnd y.bnd ≤ 10000000 → Mod (symSig ρ) r h.get w → New r nx nx' → GoesS ρ f [a, b] r w nx nx' W h'.get v) :
  SumF (symSig ρ) Try.prog f (fun args => num2 args k) := by
 intro args m e
 unfold num2 at e
 rcases args with _ | ⟨a, _ | ⟨b, _ | ⟨c, l⟩⟩⟩ <;> simp only [reduceCtorEq, Option.some.injEq] at e
 subst e
 refine ⟨loc_bind (loc_numV a) fun n => loc_bind (loc_numV b) fun m => loc_cond (hl n m) loc_fail, ?_⟩
 intro h nx v h' nx' R W e r w args' ha hM hN
 cases ha with
 | cons ha1 ha2 =>
  cases ha2 with
  | cons hb1 hb2 =>
   cases hb2
   obtain ⟨n, h1, nx1, R1, W1, R2, W2, e1, e2, rfl, rfl⟩ := bind_ok e
   obtain ⟨rfl, rfl, rfl, hn⟩ := numV_ok e1 ha1 hM
   obtain ⟨m, h2, nx2, R3, W3, R4, W4, e3, e4, rfl, rfl⟩ := bind_ok e2
   obtain ⟨rfl, rfl, rfl, hm⟩ := numV_ok e3 hb1 hM
   obtain ⟨hs, e5⟩ := cond_ok e4
   simp only [Bool.and_eq_true] at hs
   have l1 := okB_le hs.1
   have l2 := okB_le hs.2
   simpa [GoesS] using hk n m _ _ _ _ _ _ _ e5 r w _ _ hn hm ((okB_sm hs.1).up (Nat.le_max_left _ _)) ((okB_sm hs.2).up (Nat.le_max_right _ _)) (by omega) hM hN
theorem num1_ok {f : FuncId} {k : Qe → M Sy Value} (hl : ∀ n, Loc (k n)) (hk : ∀ x (h : Tr (Blk Sy)) nx v h' nx' R W, k x h nx = .ok v h' nx' R W → ∀ r w a, NumIn w a (x.ev ρ.q) → Sm x.bnd (x.ev ρ.q) → x.bnd ≤ 10000000 → Mod (symSig ρ) r h.get w → New r nx nx' → GoesS ρ f [a] r w nx nx' W h'.get v) :
  SumF (symSig ρ) Try.prog f (fun args => num1 args k) := by
 intro args m e
 unfold num1 at e
 rcases args with _ | ⟨a, _ | ⟨c, l⟩⟩ <;> simp only [reduceCtorEq, Option.some.injEq] at e
 subst e
 refine ⟨loc_bind (loc_numV a) fun n => loc_cond (hl n) loc_fail, ?_⟩
 intro h nx v h' nx' R W e r w args' ha hM hN
 cases ha with
 | cons ha1 ha2 =>
  cases ha2
  obtain ⟨n, h1, nx1, R1, W1, R2, W2, e1, e2, rfl, rfl⟩ := bind_ok e
  obtain ⟨rfl, rfl, rfl, hn⟩ := numV_ok e1 ha1 hM
  obtain ⟨hs, e5⟩ := cond_ok e2
  simpa [GoesS] using hk n _ _ _ _ _ _ _ e5 r w _ hn (okB_sm hs) (okB_le hs) hM hN
theorem goes_num {e : Qe} {f : FuncId} {args' : List Value} {h h' : Tr (Blk Sy)} {nx nx' : Nat} {R W : List Nat} {r : Ren} {w : World} {v : Value} (he : newNum e h nx = .ok v h' nx' R W) (hM : Mod (symSig ρ) r h.get w) (hN : New r nx nx') (c : Calls Try.prog f ⟨args'⟩ w (Num1 w (e.ev ρ.q))) : GoesS ρ f args' r w nx nx' W h'.get v :=
 goes_agg he hM hN (c.mono fun _ w' ⟨v', h1, h2, h3⟩ => by
  obtain ⟨us, rfl, hu⟩ := num_holds (w := w') h2
  exact ⟨us, h1, hu, h3⟩)
theorem ssum_add : SumF (symSig ρ) Try.prog 43 (fun args => num2 args fun x y => newNum (.add x y)) :=
 num2_ok (fun _ _ => loc_newNum _) fun x y h nx v h' nx' R W e r w a b ha hb sa sb hk hM hN => goes_num e hM hN (exAdd_any w a b _ _ _ ha hb sa sb hk)
theorem ssum_sub : SumF (symSig ρ) Try.prog 39 (fun args => num2 args fun x y => newNum (.sub x y)) :=
 num2_ok (fun _ _ => loc_newNum _) fun x y h nx v h' nx' R W e r w a b ha hb sa sb hk hM hN => goes_num e hM hN (exSub_any w a b _ _ _ ha hb sa sb hk)
theorem ssum_mul : SumF (symSig ρ) Try.prog 45 (fun args => num2 args fun x y => newNum (.mul x y)) :=
 num2_ok (fun _ _ => loc_newNum _) fun x y h nx v h' nx' R W e r w a b ha hb sa sb hk hM hN => goes_num e hM hN (exMul_any w a b _ _ _ ha hb sa sb hk)
theorem ssum_neg : SumF (symSig ρ) Try.prog 73 (fun args => num1 args fun x => newNum (.neg x)) :=
 num1_ok (fun _ => loc_newNum _) fun x h nx v h' nx' R W e r w a ha _ _ hM hN => goes_num e hM hN (exNeg_any w a _ ha)
noncomputable def noughtB (A : List As) (e : Qe) : Option Bool := match ask A 1 e z0 with
 | some t => some t
 | none => match e with
  | .c _ n d => cond (Nat.ble 1 n && Nat.ble 1 d) (some false) (cond (Nat.ble n 0) (some true) none)
  | _ => none
theorem noughtB_ok (hA : AllH ρ A) {e : Qe} {t : Bool} (h : noughtB A e = some t) : t = true ↔ e.ev ρ.q = 0 := by
 unfold noughtB at h
 cases ha : ask A 1 e z0 with
 | some u => rw [ha] at h; cases h; exact ask_nought hA ha
 | none =>
  rw [ha] at h
  cases e with
  | c s n d =>
   simp only at h
   cases hc : (Nat.ble 1 n && Nat.ble 1 d) with
   | true =>
    rw [hc] at h
    simp only [cond_true, Option.some.injEq] at h
    subst h
    simp only [Bool.and_eq_true] at hc
    have h1 := Nat.le_of_ble_eq_true hc.1
    have h2 := Nat.le_of_ble_eq_true hc.2
    refine ⟨fun h => (by cases h), fun h => ?_⟩
    have h3 := (Rat.mkRat_eq_zero (n := Big.sI s n) (show d ≠ 0 by omega)).1 h
    have h4 := Big.sI_abs s n
    rw [h3] at h4
    simp at h4
    omega
   | false =>
    rw [hc] at h
    simp only [cond_false] at h
    cases hd : Nat.ble n 0 with
    | false => rw [hd] at h; cases h
    | true =>
     rw [hd] at h
     simp only [cond_true, Option.some.injEq] at h
     subst h
     have hn : n = 0 := Nat.le_zero.1 (Nat.le_of_ble_eq_true hd)
     subst hn
     refine ⟨fun _ => ?_, fun _ => rfl⟩
     show mkRat (Big.sI s 0) d = 0
     have : Big.sI s 0 = 0 := by cases s <;> rfl
     rw [this, Rat.zero_mkRat]
  | _ => cases h
theorem ssum_quo (hA : AllH ρ A) : SumF (symSig ρ) Try.prog 69 (fun args => num2 args fun x y => match noughtB A y with
  | some t => cond t fail (newNum (.quo x y))
  | none => fail) :=
 num2_ok (fun _ y => by
  cases noughtB A y with
  | none => exact loc_fail
  | some t => exact loc_cond loc_fail (loc_newNum _)) fun x y h nx v h' nx' R W e r w a b ha hb sa sb hk hM hN => by
  cases hn : noughtB A y with
  | none => rw [hn] at e; exact absurd e (by simp [fail])
  | some t =>
   rw [hn] at e
   obtain ⟨rfl, e⟩ := cond_no e
   have h0 := noughtB_ok hA hn
   exact goes_num e hM hN (exQuo_any w a b _ _ _ ha hb sa sb hk (fun h => by
    have := h0.2 (Big.nu_zero.1 h)
    cases this))
noncomputable def signB (A : List As) (e : Qe) : Option Int := match noughtB A e with
 | some t => cond t (some 0) (match ask A 3 e z0 with
  | some t => some (cond t (-1) 1)
  | none => none)
 | none => none
theorem signB_ok (hA : AllH ρ A) {e : Qe} {z : Int} (h : signB A e = some z) : z = sgQ (e.ev ρ.q) := by
 unfold signB at h
 cases hn : noughtB A e with
 | none => rw [hn] at h; cases h
 | some t =>
  rw [hn] at h
  have h0 := noughtB_ok hA hn
  cases t with
  | true =>
   cases h
   rw [h0.1 rfl]
   rfl
  | false =>
   simp only [cond_false] at h
   cases hb : ask A 3 e z0 with
   | none => rw [hb] at h; cases h
   | some u =>
    rw [hb] at h
    cases h
    have hu := ask_below hA hb
    have hz : Big.nu (e.ev ρ.q) ≠ 0 := fun h => by
     have := h0.2 (Big.nu_zero.1 h)
     cases this
    unfold sgQ
    rw [← hu]
    cases u
    ·rw [if_neg (by simp), if_neg hz]; rfl
    ·rfl
theorem ssum_sign (hA : AllH ρ A) : SumF (symSig ρ) Try.prog 35 (fun args => num1 args fun x => match signB A x with
  | some z => ret (.int .i64 z)
  | none => fail) :=
 num1_ok (fun x => by
  cases signB A x with
  | none => exact loc_fail
  | some z => exact loc_ret _) fun x h nx v h' nx' R W e r w a ha _ _ hM hN => by
  cases hs : signB A x with
  | none => rw [hs] at e; exact absurd e (by simp [fail])
  | some z =>
   rw [hs] at e
   rw [signB_ok hA hs] at e
   exact goes_pl e rfl hM (exSign_any w a _ ha)
theorem ssum_frac (hA : AllH ρ A) : SumF (symSig ρ) Try.prog 72 (fun args => num1 args fun x => match fitB A x with
  | some t => cond t (bind (newFacts [.ng x, .fn x, .fd x]) fun vs => ret (.tuple ⟨[.agg ⟨vs⟩, .bool true]⟩)) (ret (.tuple ⟨[.agg ⟨[.bool false, .string ⟨#[]⟩, .string ⟨#[]⟩]⟩, .bool false]⟩))
  | none => fail) :=
 num1_ok (fun x => by
  cases fitB A x with
  | none => exact loc_fail
  | some t => exact loc_cond (loc_bind (loc_newFacts _) fun _ => loc_ret _) (loc_ret _)) fun x h nx v h' nx' R W e r w a ha sa hk hM hN => by
  cases hs : fitB A x with
  | none => rw [hs] at e; exact absurd e (by simp [fail])
  | some t =>
   rw [hs] at e
   have hf := fitB_ok hA hs
   cases t with
   | true =>
    simp only [cond_true] at e
    exact goes_aggT rfl e hM hN ((exFrac_fit w a _ _ ha sa hk (hf.1 rfl)).mono fun _ w' ⟨h1, h2⟩ => ⟨_, h1, frac_holds (w := w') x, h2⟩)
   | false =>
    simp only [cond_false] at e
    exact goes_pl e rfl hM (exFrac_long w a _ _ ha sa hk (fun h => by have := hf.2 h; cases this))
noncomputable def zeroNum : Value := .agg ⟨[.bool false, .slice none 0 0, .slice none 0 0]⟩
noncomputable def readK (A : List As) (o : Option Qe) : M Sy Value := match o with
 | some e => match fitB A e with
  | some t => cond t (bind (newFacts [.ng e, .nu e, .de e]) fun vs => ret (.tuple ⟨[.agg ⟨vs⟩, .bool true]⟩)) fail
  | none => fail
 | none => ret (.tuple ⟨[zeroNum, .bool false]⟩)
theorem ssum_read (hA : AllH ρ A) : SumF (symSig ρ) Try.prog 34 (fun args => match args with
  | [a] => match a with
   | .agg cs => some (bind (frcV cs.toList) (readK A))
   | _ => none
  | _ => none) := by
 intro args m e
 rcases args with _ | ⟨a, _ | ⟨c, l⟩⟩ <;> simp only [reduceCtorEq] at e
 cases a with
 | agg cs =>
  obtain ⟨l⟩ := cs
  simp only [Option.some.injEq] at e
  subst e
  refine ⟨loc_bind (loc_frcV _) fun o => ?_, ?_⟩
  ·unfold readK
   cases o with
   | none => exact loc_ret _
   | some e =>
    simp only
    cases fitB A e with
    | none => exact loc_fail
    | some t => exact loc_cond (loc_bind (loc_newFacts _) fun _ => loc_ret _) loc_fail
  ·intro h nx v h' nx' R W e r w args' ha hM hN
   cases ha with
   | cons ha1 ha2 =>
    cases ha2
    obtain ⟨l', rfl, hl⟩ := vr_agg ha1
    obtain ⟨o, h1, nx1, R1, W1, R2, W2, e1, e2, rfl, rfl⟩ := bind_ok e
    obtain ⟨rfl, rfl, rfl, ho⟩ := frcV_ok e1 hl hM
    unfold readK at e2
    cases o with
    | none =>
     obtain ⟨x, hx, rfl⟩ := ho
     simpa using goes_pl e2 rfl hM (exRead_bad w x hx)
    | some q =>
     simp only at e2
     cases hs : fitB A q with
     | none => rw [hs] at e2; exact absurd e2 (by simp [fail])
     | some t =>
      rw [hs] at e2
      obtain ⟨ht, e3⟩ := cond_ok e2
      subst ht
      have hf := (fitB_ok hA hs).1 rfl
      obtain rfl : l' = _ := ho
      simpa using goes_aggT rfl e3 hM hN ((exRead_ok w _ hf).mono fun _ w' ⟨v', h1, h2, h3⟩ => by
       obtain ⟨us, rfl, hu⟩ := num_holds (w := w') h2
       exact ⟨us, h1, hu, h3⟩)
 | _ => simp at e
noncomputable def symList (A : List As) : List (Nat × (List Value → Option (M Sy Value))) := [
 (43, fun args => num2 args fun x y => newNum (.add x y)),
 (39, fun args => num2 args fun x y => newNum (.sub x y)),
 (45, fun args => num2 args fun x y => newNum (.mul x y)),
 (73, fun args => num1 args fun x => newNum (.neg x)),
 (69, fun args => num2 args fun x y => match noughtB A y with
  | some t => cond t fail (newNum (.quo x y))
  | none => fail),
 (34, fun args => match args with
  | [a] => match a with
   | .agg cs => some (bind (frcV cs.toList) (readK A))
   | _ => none
  | _ => none),
 (35, fun args => num1 args fun x => match signB A x with
  | some z => ret (.int .i64 z)
  | none => fail),
 (72, fun args => num1 args fun x => match fitB A x with
  | some t => cond t (bind (newFacts [.ng x, .fn x, .fd x]) fun vs => ret (.tuple ⟨[.agg ⟨vs⟩, .bool true]⟩)) (ret (.tuple ⟨[.agg ⟨[.bool false, .string ⟨#[]⟩, .string ⟨#[]⟩]⟩, .bool false]⟩))
  | none => fail)]
theorem symList_ok (hA : AllH ρ A) : ∀ x ∈ symList A, SumF (symSig ρ) Try.prog x.1 x.2 := by
 unfold symList
 intro x hx
 simp only [List.mem_cons, List.not_mem_nil, or_false] at hx
 repeat' (rcases hx with rfl | hx)
 all_goals first
  | exact ssum_add
  | exact ssum_mul
  | exact ssum_sign hA
  | exact ssum_frac hA
  | exact ssum_read hA
  | exact ssum_sub
  | exact ssum_neg
  | exact ssum_quo hA
end
end Ev
end Go.Proofs.Ytnlhjcfpfapafaa
