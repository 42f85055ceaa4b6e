/- Contracts. -/
import Derived.Test.YtnlhjcfpfapafaaGreatDoorPOq15
import Derived.Test.YtnlhjcfpfapafaaGreatDoorPOq20
namespace Go.Proofs.YtnlhjcfpfapafaaGreatDoor
open Go Go.RowKit
namespace Ev
theorem Xq {w : World} {v : Value} {n : Nat} (h : R.Nin w v n) : ZR v = true := by
 obtain ⟨a, k, c, rfl⟩ := R.nin_slice h; rfl
def WS (w : World) (v : Value) (q : Rat) : Prop := ∃ b, v = .pointer (some ⟨b, 0, none⟩) ∧ Tryz.prog.globals.size ≤ b ∧ ∃ u d, w.heap[b]? = some (.cells ⟨[.bool (Big.ng q), u, .bool false, d]⟩ 94 (0, 0)) ∧ R.Nin w u (Big.nu q) ∧ R.Nin w d (Big.de q)
def ZeK (w : World) (v : Value) (s : Bool) (n : Nat) : Prop := ∃ b, v = .pointer (some ⟨b, 0, none⟩) ∧ Tryz.prog.globals.size ≤ b ∧ ∃ u, w.heap[b]? = some (.cells ⟨[.bool s, u]⟩ 92 (0, 0)) ∧ R.Nin w u n
noncomputable def ZaW (t : TypeId) : Bool := Nat.beq t 148 || (Nat.beq t 94 || Nat.beq t 92)
def K1 (w w' : World) : Prop := ∀ (b : Nat) (c : Array Value) (t : TypeId) (z : Nat × Nat), w.heap[b]? = some (.cells c t z) → ZaW t = true → w'.heap[b]? = some (.cells c t z)
theorem K1.words {w w' : World} (h : K1 w w') : ∀ (b : Nat) (c : Array Value) (t : TypeId) (z : Nat × Nat), w.heap[b]? = some (.cells c t z) → Nat.beq t 148 = true → w'.heap[b]? = some (.cells c t z) :=
 fun b c t z h1 h2 => h b c t z h1 (by unfold ZaW; rw [h2]; rfl)
theorem Ui {w w' : World} {v : Value} {q : Rat} (h : WS w v q) (hk : K1 w w') : WS w' v q := by
 obtain ⟨b, rfl, hg, u, d, hb, hu, hd⟩ := h
 exact ⟨b, rfl, hg, u, d, hk _ _ _ _ hb (by kernel_rfl), R.nin_stable hu hk.words, R.nin_stable hd hk.words⟩
theorem ZaX {w w' : World} {v : Value} {s : Bool} {n : Nat} (h : ZeK w v s n) (hk : K1 w w') : ZeK w' v s n := by
 obtain ⟨b, rfl, hg, u, hb, hu⟩ := h
 exact ⟨b, rfl, hg, u, hk _ _ _ _ hb (by kernel_rfl), R.nin_stable hu hk.words⟩
theorem Below.keepR {w w' : World} (h : Below w.heap.size w w') : K1 w w' := fun b c t z h1 _ => (h.block b (Array.getElem?_eq_some_iff.1 h1).1).trans h1
theorem U2 {w : World} {v : Value} {q : Rat} (h : WS w v q) : ZR v = true := by
 obtain ⟨b, rfl, _⟩ := h; rfl
theorem ZfP {w : World} {v : Value} {s : Bool} {n : Nat} (h : ZeK w v s n) : ZR v = true := by
 obtain ⟨b, rfl, _⟩ := h; rfl
end Ev
end Go.Proofs.YtnlhjcfpfapafaaGreatDoor
namespace Go.Proofs.YtnlhjcfpfapafaaGreatDoor
open Go.RowKit
def ZfQ (x : Bool × ByteArray × ByteArray) : Prop := ∀ q : Rat, Fit q → ¬ (x.1 = Big.ng q ∧ x.2.1 = bst (Big.nu q) ∧ x.2.2 = bst (Big.de q))
end Go.Proofs.YtnlhjcfpfapafaaGreatDoor
namespace Go.Proofs.YtnlhjcfpfapafaaGreatDoor
open Go Go.RowKit
namespace Ev
inductive Qe where
 | v (i : Nat)
 | c (s : Bool) (n d : Nat)
 | neg (a : Qe)
 | add (a b : Qe)
 | sub (a b : Qe)
 | mul (a b : Qe)
 | quo (a b : Qe)
def Qe.ev (ρ : Nat → Rat) : Qe → Rat
 | .v i => ρ i
 | .c s n d => mkRat (Big.sI s n) d
 | .neg a => -(a.ev ρ)
 | .add a b => a.ev ρ + b.ev ρ
 | .sub a b => a.ev ρ - b.ev ρ
 | .mul a b => a.ev ρ * b.ev ρ
 | .quo a b => a.ev ρ / b.ev ρ
noncomputable def Zkl (a b : Bool) : Bool := Bool.rec (motive := fun _ => Bool) (Bool.rec (motive := fun _ => Bool) true false b) b a
theorem Zkm {a b : Bool} (h : Zkl a b = true) : a = b := by cases a <;> cases b <;> first | rfl | (exact absurd h (by simp [Zkl]))
noncomputable def Qe.beq : Qe → Qe → Bool := Qe.rec (motive := fun _ => Qe → Bool)
 (fun i y => match y with | .v j => Nat.beq i j | _ => false)
 (fun s n d y => match y with | .c s' n' d' => Zkl s s' && (Nat.beq n n' && Nat.beq d d') | _ => false)
 (fun _ ih y => match y with | .neg b => ih b | _ => false)
 (fun _ _ iha ihb y => match y with | .add a b => iha a && ihb b | _ => false)
 (fun _ _ iha ihb y => match y with | .sub a b => iha a && ihb b | _ => false)
 (fun _ _ iha ihb y => match y with | .mul a b => iha a && ihb b | _ => false)
 (fun _ _ iha ihb y => match y with | .quo a b => iha a && ihb b | _ => false)
theorem Qe.beq_ok : ∀ (a b : Qe), a.beq b = true → a = b := by
 intro a
 induction a with
 | v i =>
  intro b h
  cases b with
  | v j => rw [Nat.eq_of_beq_eq_true (show Nat.beq i j = true from h)]
  | _ => exact absurd (show false = true from h) (by simp)
 | c s n d =>
  intro b h
  cases b with
  | c s' n' d' =>
   have h' : (Zkl s s' && (Nat.beq n n' && Nat.beq d d')) = true := h
   simp only [Bool.and_eq_true] at h'
   rw [Zkm h'.1, Nat.eq_of_beq_eq_true h'.2.1, Nat.eq_of_beq_eq_true h'.2.2]
  | _ => exact absurd (show false = true from h) (by simp)
 | neg a ih =>
  intro b h
  cases b with
  | neg b => rw [ih b h]
  | _ => exact absurd (show false = true from h) (by simp)
 | add a b iha ihb =>
  intro y h
  cases y with
  | add a' b' =>
   have h' : (a.beq a' && b.beq b') = true := h
   simp only [Bool.and_eq_true] at h'
   rw [iha _ h'.1, ihb _ h'.2]
  | _ => exact absurd (show false = true from h) (by simp)
 | sub a b iha ihb =>
  intro y h
  cases y with
  | sub a' b' =>
   have h' : (a.beq a' && b.beq b') = true := h
   simp only [Bool.and_eq_true] at h'
   rw [iha _ h'.1, ihb _ h'.2]
  | _ => exact absurd (show false = true from h) (by simp)
 | mul a b iha ihb =>
  intro y h
  cases y with
  | mul a' b' =>
   have h' : (a.beq a' && b.beq b') = true := h
   simp only [Bool.and_eq_true] at h'
   rw [iha _ h'.1, ihb _ h'.2]
  | _ => exact absurd (show false = true from h) (by simp)
 | quo a b iha ihb =>
  intro y h
  cases y with
  | quo a' b' =>
   have h' : (a.beq a' && b.beq b') = true := h
   simp only [Bool.and_eq_true] at h'
   rw [iha _ h'.1, ihb _ h'.2]
  | _ => exact absurd (show false = true from h) (by simp)
noncomputable def Qe.bnd : Qe → Nat := Qe.rec (motive := fun _ => Nat)
 (fun i => cond (Nat.ble 100 i) 4096 64)
 (fun _ n d => Nat.add (Nat.add (Nat.div (Nat.log2 n) 64) (Nat.div (Nat.log2 d) 64)) 1)
 (fun _ a => a)
 (fun _ _ a b => Nat.succ (Nat.add a b))
 (fun _ _ a b => Nat.succ (Nat.add a b))
 (fun _ _ a b => Nat.add a b)
 (fun _ _ a b => Nat.add a b)
theorem Qe.bnd_pos : ∀ e : Qe, 1 ≤ e.bnd := by
 intro e
 induction e with
 | v i => show 1 ≤ cond (Nat.ble 100 i) 4096 64; cases Nat.ble 100 i <;> decide
 | c s n d => exact Nat.succ_le_succ (Nat.zero_le _)
 | neg a ih => exact ih
 | add a b _ _ => exact Nat.succ_le_succ (Nat.zero_le _)
 | sub a b _ _ => exact Nat.succ_le_succ (Nat.zero_le _)
 | mul a b iha _ => exact Nat.le_trans iha (Nat.le_add_right _ _)
 | quo a b iha _ => exact Nat.le_trans iha (Nat.le_add_right _ _)
theorem ZeL {k : Nat} (hk : 1 ≤ k) : Sm k 0 := ⟨ZjZ.up (Nat.zero_le _), Zmt.up hk⟩
theorem Zkn {k m n : Nat} (h : Sz k n) (i : Sz k m) : Sz (k + 1) (n + m) := by
 have a := h.out
 have b := i.out
 refine ⟨?_⟩
 rw [Nat.pow_succ]
 have h2 : Big.M64 ^ k * 2 ≤ Big.M64 ^ k * Big.M64 := Nat.mul_le_mul_left _ (by have := Zde; omega)
 generalize Big.M64 ^ k = x at *
 omega
theorem ZeM {k j : Nat} {q r : Rat} (h : Sm k q) (i : Sm j r) : Sm (k + j + 1) (q + r) := by
 obtain ⟨_, h2, h3⟩ := Big.add_parts q r _ _ _ _ rfl rfl rfl rfl
 refine ⟨?_, ?_⟩
 ·rw [h2]
  refine Sz.le ?_ (Nat.div_le_self _ _)
  refine Sz.le ?_ (Zdf _ _ _ _)
  exact Zkn (h.nu.mul (i.de.le (Nat.div_le_self _ _))) ((i.nu.mul (h.de.le (Nat.div_le_self _ _))).up (by omega))
 ·rw [h3]
  exact ((h.de.le (Nat.div_le_self _ _)).mul (i.de.le (Nat.div_le_self _ _))).up (by omega)
theorem ZmL {k j : Nat} {q r : Rat} (h : Sm k q) (i : Sm j r) : Sm (k + j + 1) (q - r) := by
 rw [Rat.sub_eq_add_neg]
 exact ZeM h i.neg
theorem Qe.sm {ρ : Nat → Rat} (hρ : ∀ i, i < 100 → Fit (ρ i)) (hβ : ∀ i, Sm 4096 (ρ i)) : ∀ e : Qe, Sm e.bnd (e.ev ρ) := by
 intro e
 induction e with
 | v i =>
  show Sm (cond (Nat.ble 100 i) 4096 64) (ρ i)
  cases hi : Nat.ble 100 i with
  | true => exact hβ i
  | false => exact (hρ i (by
     rcases Nat.lt_or_ge i 100 with h | h
     ·exact h
     ·rw [Nat.ble_eq_true_of_le h] at hi; cases hi)).sm
 | c s n d =>
  show Sm (Nat.div (Nat.log2 n) 64 + Nat.div (Nat.log2 d) 64 + 1) (mkRat (Big.sI s n) d)
  have e1 : Nat.div (Nat.log2 n) 64 = Nat.log2 n / 64 := rfl
  have e2 : Nat.div (Nat.log2 d) 64 = Nat.log2 d / 64 := rfl
  rw [e1, e2]
  rcases Nat.eq_zero_or_pos d with h0 | h0
  ·subst h0
   rw [Rat.mkRat_zero]
   exact ZeL (by omega)
  ·obtain ⟨_, p2, p3⟩ := Big.of_parts s n d h0
   refine ⟨?_, ?_⟩
   ·rw [p2]; exact (Zdn (k := Nat.log2 n / 64 + Nat.log2 d / 64 + 1) (by omega)).le (Nat.div_le_self _ _)
   ·rw [p3]; exact (Zdn (k := Nat.log2 n / 64 + Nat.log2 d / 64 + 1) (by omega)).le (Nat.div_le_self _ _)
 | neg a ih => exact ih.neg
 | add a b iha ihb => exact ZeM iha ihb
 | sub a b iha ihb => exact ZmL iha ihb
 | mul a b iha ihb => exact iha.mul ihb
 | quo a b iha ihb =>
  show Sm (a.bnd + b.bnd) (a.ev ρ / b.ev ρ)
  by_cases h0 : Big.nu (b.ev ρ) = 0
  ·rw [Big.nu_zero.1 h0, Rat.div_def, Rat.inv_zero, Rat.mul_zero]
   exact ZeL (Nat.le_trans a.bnd_pos (Nat.le_add_right _ _))
  ·rw [Rat.div_def]
   exact iha.mul (ihb.inv h0)
structure Env where
 q : Nat → Rat
 raw : Nat → Bool × ByteArray × ByteArray
 fit : ∀ i, i < 100 → Fit (q i)
 big : ∀ i, Sm 4096 (q i)
 bad : ∀ i, ZfQ (raw i)
 lo : Nat
 lst : Nat → List Rat
 nat : Nat → Nat
 nat0 : nat 0 = 0
inductive Le where
 | nil
 | v (c : Nat)
 | snoc (l : Le) (e : Qe)
 | take (l : Le) (a : Nat) (s : Int)
def Le.ev (ρ : Env) : Le → List Rat
 | .nil => []
 | .v c => ρ.lst c
 | .snoc l e => l.ev ρ ++ [e.ev ρ.q]
 | .take l a s => (l.ev ρ).take ((ρ.nat a : Int) + s).toNat
inductive Sy where
 | n (n : Nat)
 | ng (e : Qe)
 | nu (e : Qe)
 | de (e : Qe)
 | fn (e : Qe)
 | fd (e : Qe)
 | rg (i : Nat)
 | rn (i : Nat)
 | rd (i : Nat)
 | it (e : Qe)
 | is (e : Qe)
 | lg (l : List Nat)
 | rt (e : Qe)
 | zt (e : Qe)
 | jk
 | ix (a : Nat) (s : Int)
 | iz (k : Nat) (e : Qe)
 | ls (K c : Nat)
 | lp (K c a : Nat) (s : Int)
 | ol (K : Nat) (l : Le) (z : Option (Nat × Int))
 | pl (K a : Nat) (s : Int)
 | wl (a : Nat) (s : Int)
 | lr (c a : Nat)
 | lq (c a x : Nat) (s : Int)
def Zn8 (ρ : Env) (c : Nat) : Int := match c % 4 with
 | 0 => ((szN (Big.nu (ρ.q (c / 4))) : Nat) : Int)
 | 1 => ((szN (Big.de (ρ.q (c / 4))) : Nat) : Int)
 | 2 => (((ρ.raw (c / 4)).2.1.size : Nat) : Int)
 | _ => (((ρ.raw (c / 4)).2.2.size : Nat) : Int)
def ZhU (ρ : Env) : List Nat → Int
 | [] => 0
 | c :: l => match l with
  | [] => Zn8 ρ c
  | _ => IntKind.i64.wrap (ZhU ρ l + Zn8 ρ c)
structure I16 (q : Rat) : Prop where
 lo : -32768 ≤ q.num
 hi : q.num ≤ 32767
 den : q.den = 1
noncomputable def ZW (t : TypeId) : Bool := Zn.hid 0 t || ZaW t
theorem JO {b : Nat} {t : TypeId} (h : Zn.hid b t = true) : ZW t = true := by unfold ZW; rw [show Zn.hid 0 t = true from h]; rfl
theorem JP {t : TypeId} (h : ZaW t = true) : ZW t = true := by unfold ZW; rw [h, Bool.or_true]
def ZhV : Nat → IntKind
 | 0 => .i64
 | _ => .i8
def JQ (k : Nat) (q : Rat) (v : Value) : Prop := v = .int (ZhV k) q.num ∧ q.den = 1 ∧ -9223372036854775808 ≤ q.num ∧ q.num ≤ 9223372036854775807
def U3 (K : Nat) (w : World) (q : Rat) (l : List Value) : Prop := match K with
 | 0 => l = [.bool (Big.ng q), .string (bst (Big.nu q)), .string (bst (Big.de q))]
 | 1 => ∃ a b, l = [.bool (Big.ng q), a, b] ∧ Zj w a (Big.nu q) ∧ Zj w b (Big.de q)
 | 2 => ∃ v, l = [v] ∧ JQ 0 q v
 | 3 => ∃ v, l = [v] ∧ JQ 1 q v
 | _ => ∃ v, l = [v] ∧ WS w v q
def Zq : Nat → Nat
 | 0 => 3
 | 1 => 3
 | _ => 1
def WT (K : Nat) (w : World) (cl : List Value) (off : Nat) (qs : List Rat) : Prop := ∀ (i : Nat) (q : Rat), qs[i]? = some q → U3 K w q ((cl.drop (off + i * Zq K)).take (Zq K))
abbrev ZhW (hid : Nat → TypeId → Bool) (w w' : World) : Prop := ∀ (b : Nat) (c : Array Value) (t : TypeId) (z : Nat × Nat), w.heap[b]? = some (.cells c t z) → hid b t = true → w'.heap[b]? = some (.cells c t z)
theorem U3.stable {K : Nat} {w w' : World} {q : Rat} {l : List Value} (h : U3 K w q l) (hk : ZhW (fun _ => ZW) w w') : U3 K w' q l := by
 unfold U3 at h ⊢
 split at h
 ·exact h
 ·obtain ⟨a, b, h1, h2, h3⟩ := h
  have hn := fun (b : Nat) (c : Array Value) (t : TypeId) (z : Nat × Nat) h1 (h2 : Zn.hid b t = true) => hk b c t z h1 (JO h2)
  exact ⟨a, b, h1, Wu h2 hn, Wu h3 hn⟩
 ·exact h
 ·exact h
 ·obtain ⟨v, h1, h2⟩ := h
  exact ⟨v, h1, Ui h2 fun b c t z h3 h4 => hk b c t z h3 (JP h4)⟩
theorem WT.stable {K off : Nat} {w w' : World} {cl : List Value} {qs : List Rat} (h : WT K w cl off qs) (hk : ZhW (fun _ => ZW) w w') : WT K w' cl off qs := fun i q hq => (h i q hq).stable hk
def ZaY (ρ : Env) (K c : Nat) (w : World) (v : Value) : Prop := ∃ a m, v = .slice a (ρ.lst c).length m ∧ (ρ.lst c).length ≤ m ∧ (ρ.lst c ≠ [] → ∃ b off cl t z, a = some ⟨b, off, none⟩ ∧ b < ρ.lo ∧ w.heap[b]? = some (.cells ⟨cl⟩ t z) ∧ WT K w cl off (ρ.lst c))
def Zn9 (ρ : Env) (K c a : Nat) (s : Int) (w : World) (v : Value) : Prop := ∃ b off cl t z i, v = .pointer (some ⟨b, off + i * Zq K, none⟩) ∧ ((i : Nat) : Int) = ρ.nat a + s ∧ i < (ρ.lst c).length ∧ b < ρ.lo ∧ w.heap[b]? = some (.cells ⟨cl⟩ t z) ∧ WT K w cl off (ρ.lst c)
def ZoP (x : Bool × ByteArray × ByteArray) : List Value := [.bool x.1, .string x.2.1, .string x.2.2]
def ZlY (ρ : Env) (c a : Nat) (cl : List Value) (off : Nat) : Prop := (ρ.lst c).length < ρ.nat a → (cl.drop (off + (ρ.lst c).length * 3)).take 3 = ZoP (ρ.raw c)
def ZmM (ρ : Env) (c a : Nat) (w : World) (v : Value) : Prop := ∃ ad m, v = .slice ad (ρ.nat a) m ∧ ρ.nat a ≤ m ∧ (ρ.lst c).length ≤ ρ.nat a ∧ (0 < ρ.nat a → ∃ b off cl t z, ad = some ⟨b, off, none⟩ ∧ b < ρ.lo ∧ w.heap[b]? = some (.cells ⟨cl⟩ t z) ∧ WT 0 w cl off (ρ.lst c) ∧ ZlY ρ c a cl off)
def Zoa (ρ : Env) (c a x : Nat) (s : Int) (w : World) (v : Value) : Prop := ∃ b off cl t z i, v = .pointer (some ⟨b, off + i * 3, none⟩) ∧ ((i : Nat) : Int) = ρ.nat x + s ∧ i < ρ.nat a ∧ b < ρ.lo ∧ w.heap[b]? = some (.cells ⟨cl⟩ t z) ∧ WT 0 w cl off (ρ.lst c) ∧ ZlY ρ c a cl off
def tyK : Nat → TypeId
 | 0 => 31
 | 1 => 60
 | 2 => 2
 | 3 => 4294967295
 | _ => 43
def ZeN : Nat → List Value
 | 0 => [.bool false, .string ⟨#[]⟩, .string ⟨#[]⟩]
 | 1 => [.bool false, .slice none 0 0, .slice none 0 0]
 | 2 => [.int .i64 0]
 | 3 => [.int .i8 0]
 | _ => [.pointer none]
def Yq (ρ : Env) (K : Nat) (l : Le) (z : Option (Nat × Int)) (w : World) (v : Value) : Prop := ∃ a n m, v = .slice a n m ∧ n ≤ m ∧ (l.ev ρ).length ≤ n ∧ (match z with | none => n = (l.ev ρ).length | some p => (n : Int) = ρ.nat p.1 + p.2) ∧ (a = none → m = 0) ∧
 ∀ ad, a = some ad → ∃ cl, ad = ⟨ad.block, 0, none⟩ ∧ w.heap[ad.block]? = some (.cells ⟨cl⟩ (tyK K) (0, 0)) ∧ cl.length = m * Zq K ∧ WT K w cl 0 (l.ev ρ) ∧ ∀ i, (l.ev ρ).length ≤ i → i < n → (cl.drop (i * Zq K)).take (Zq K) = ZeN K
def Sy.holds (ρ : Env) : Sy → World → Value → Prop
 | .n k, w, v => Zj w v k
 | .ng e, _, v => v = .bool (Big.ng (e.ev ρ.q))
 | .nu e, w, v => Zj w v (Big.nu (e.ev ρ.q))
 | .de e, w, v => Zj w v (Big.de (e.ev ρ.q))
 | .fn e, _, v => v = .string (bst (Big.nu (e.ev ρ.q)))
 | .fd e, _, v => v = .string (bst (Big.de (e.ev ρ.q)))
 | .rg i, _, v => v = .bool (ρ.raw i).1
 | .rn i, _, v => v = .string (ρ.raw i).2.1
 | .rd i, _, v => v = .string (ρ.raw i).2.2
 | .it e, _, v => v = .int .i64 (e.ev ρ.q).num
 | .is e, _, v => v = .int .i16 (e.ev ρ.q).num ∧ I16 (e.ev ρ.q)
 | .lg l, _, v => v = .int .i64 (ZhU ρ l)
 | .rt e, w, v => WS w v (e.ev ρ.q)
 | .zt e, w, v => ZeK w v (Big.ng (e.ev ρ.q)) (Big.nu (e.ev ρ.q)) ∧ Big.de (e.ev ρ.q) = 1
 | .jk, _, v => ∃ a, v = .pointer a
 | .ix a s, _, v => v = .int .i64 (ρ.nat a + s)
 | .iz k e, _, v => JQ k (e.ev ρ.q) v
 | .ls K c, w, v => ZaY ρ K c w v
 | .lp K c a s, w, v => Zn9 ρ K c a s w v
 | .ol _ _ _, _, _ => False
 | .pl _ _ _, _, _ => False
 | .wl a s, _, v => ∃ b n m, v = .slice b n m ∧ ((n : Nat) : Int) = ρ.nat a + s
 | .lr c a, w, v => ZmM ρ c a w v
 | .lq c a x s, w, v => Zoa ρ c a x s w v
theorem Sy.one {ρ : Env} {f : Sy} {w : World} {v : Value} (h : f.holds ρ w v) : ZR v = true := by
 cases f <;> first | exact YS h | (rw [show v = _ from h]; rfl) | (rw [h.1]; rfl) | skip
 ·exact U2 h
 ·exact ZfP h.1
 ·obtain ⟨a, rfl⟩ := h; rfl
 ·obtain ⟨a, m, rfl, _⟩ := h; rfl
 ·obtain ⟨b, off, cl, t, z, i, rfl, _⟩ := h; rfl
 ·exact h.elim
 ·exact h.elim
 ·obtain ⟨b, n, m, rfl, _⟩ := h; rfl
 ·obtain ⟨a, m, rfl, _⟩ := h; rfl
 ·obtain ⟨b, off, cl, t, z, i, rfl, _⟩ := h; rfl
noncomputable def Zf (ρ : Env) : Sig Sy where
 holds := Sy.holds ρ
 hid b t := Nat.blt b ρ.lo || ZW t
 hn _ := ZW
 lo := ρ.lo
 new := fun _ b t hb h => by
  rw [h, Bool.or_false]
  cases hq : Nat.blt b ρ.lo with
  | false => rfl
  | true =>
   have : b < ρ.lo := Nat.le_of_ble_eq_true hq
   omega
 G := Zn.G
 base := Zn.base
 baseS := Zn.baseS
 ow f w v := match f with
  | .ol K l z => Yq ρ K l z w v
  | _ => False
 at_ f off := match f with
  | .pl K a s => ∃ i : Nat, off = i * Zq K ∧ (i : Int) = ρ.nat a + s
  | _ => False
 owS := fun f _ _ v h hk => by
  cases f <;> first | exact h.elim | skip
  obtain ⟨a, n, m, h1, h2, h3, h4, h5, h6⟩ := h
  refine ⟨a, n, m, h1, h2, h3, h4, h5, fun ad hd => ?_⟩
  obtain ⟨cl, g1, g2, g3, g4, g5⟩ := h6 ad hd
  exact ⟨cl, g1, hk _ _ _ _ g2 (.inr (by rw [h1, hd]; rfl)), g3, g4.stable fun b c t z hb hh => hk b c t z hb (.inl (by rw [show ZW t = true from hh, Bool.or_true])), g5⟩
 stable := fun f _ _ _ h hk => by
  have hn := fun (b : Nat) (c : Array Value) (t : TypeId) (z : Nat × Nat) h1 (h2 : Zn.hid b t = true) => hk b c t z h1 (by rw [JO (b := b) h2, Bool.or_true])
  have hr : K1 _ _ := fun b c t z h1 h2 => hk b c t z h1 (by rw [JP h2, Bool.or_true])
  have hl := fun (b : Nat) (c : Array Value) (t : TypeId) (z : Nat × Nat) h1 (h2 : Nat.blt b ρ.lo = true) => hk b c t z h1 (by rw [h2, Bool.true_or])
  have hs := fun (b : Nat) (c : Array Value) (t : TypeId) (z : Nat × Nat) h1 (h2 : ZW t = true) => hk b c t z h1 (by rw [h2, Bool.or_true])
  cases f <;> first | exact Wu h hn | exact h | skip
  ·exact Ui h hr
  ·exact ⟨ZaX h.1 hr, h.2⟩
  ·obtain ⟨a, m, h1, h2, h3⟩ := h
   exact ⟨a, m, h1, h2, fun hp => by
    obtain ⟨b, off, cl, t, z, h4, h5, h6, h7⟩ := h3 hp
    exact ⟨b, off, cl, t, z, h4, h5, hl b _ _ _ h6 (Nat.ble_eq_true_of_le h5), h7.stable hs⟩⟩
  ·obtain ⟨b, off, cl, t, z, i, h1, h2, h3, h4, h5, h6⟩ := h
   exact ⟨b, off, cl, t, z, i, h1, h2, h3, h4, hl b _ _ _ h5 (Nat.ble_eq_true_of_le h4), h6.stable hs⟩
  ·obtain ⟨a, m, h1, h2, h8, h3⟩ := h
   exact ⟨a, m, h1, h2, h8, fun hp => by
    obtain ⟨b, off, cl, t, z, h4, h5, h6, h7, h9⟩ := h3 hp
    exact ⟨b, off, cl, t, z, h4, h5, hl b _ _ _ h6 (Nat.ble_eq_true_of_le h5), h7.stable hs, h9⟩⟩
  ·obtain ⟨b, off, cl, t, z, i, h1, h2, h3, h4, h5, h6, h7⟩ := h
   exact ⟨b, off, cl, t, z, i, h1, h2, h3, h4, hl b _ _ _ h5 (Nat.ble_eq_true_of_le h4), h6.stable hs, h7⟩
noncomputable def ZaZ : Sy → Option Nat
 | .n k => some (WO k)
 | _ => none
structure As where
 k : Nat
 a : Qe
 b : Qe
 t : Bool
def As.holds (ρ : Nat → Rat) (x : As) : Prop := match x.k with
 | 0 => x.t = true ↔ Fit (x.a.ev ρ)
 | 1 => x.t = true ↔ x.a.ev ρ = 0
 | 2 => x.t = true ↔ x.a.ev ρ = x.b.ev ρ
 | 5 => x.t = true → (x.b.ev ρ).num = (x.a.ev ρ).num.tmod 12
 | 8 => x.t = true → Big.nu (x.a.ev ρ) < 65535 ∧ Big.de (x.a.ev ρ) < 65535
 | 9 => x.t = true ↔ x.a.ev ρ < x.b.ev ρ
 | 6 => x.t = true → IntKind.i64.wrap ((x.a.ev ρ).num + (x.b.ev ρ).num) = ((Qe.add x.a x.b).ev ρ).num
 | _ => x.t = Big.ng (x.a.ev ρ)
def z0 : Qe := .v 0
noncomputable def ask (A : List As) (k : Nat) (a b : Qe) : Option Bool := List.rec (motive := fun _ => Option Bool) none
 (fun x _ ih => Bool.rec (motive := fun _ => Option Bool) ih (some x.t) (Nat.beq k x.k && (a.beq x.a && b.beq x.b))) A
theorem U4 {k : Nat} {a b : Qe} {t : Bool} : ∀ {A : List As}, ask A k a b = some t → ∃ x ∈ A, x.k = k ∧ x.a = a ∧ x.b = b ∧ x.t = t
 | [], h => by cases h
 | x :: A, h => by
  have h' : (Bool.rec (motive := fun _ => Option Bool) (ask A k a b) (some x.t) (Nat.beq k x.k && (a.beq x.a && b.beq x.b)) : Option Bool) = some t := h
  cases hb : (Nat.beq k x.k && (a.beq x.a && b.beq x.b)) with
  | false =>
   rw [hb] at h'
   obtain ⟨y, hy, r⟩ := U4 h'
   exact ⟨y, List.mem_cons_of_mem _ hy, r⟩
  | true =>
   rw [hb] at h'
   simp only [Bool.and_eq_true] at hb
   exact ⟨x, List.mem_cons_self, (Nat.eq_of_beq_eq_true hb.1).symm, (Qe.beq_ok _ _ hb.2.1).symm, (Qe.beq_ok _ _ hb.2.2).symm, Option.some.inj h'⟩
def Yd (ρ : Env) (A : List As) : Prop := ∀ x ∈ A, x.holds ρ.q
section
variable {ρ : Env} {A : List As} {a b : Qe} {t : Bool}
theorem Zko (hA : Yd ρ A) (h : ask A 0 a z0 = some t) : t = true ↔ Fit (a.ev ρ.q) := by
 obtain ⟨x, hx, h1, rfl, _, rfl⟩ := U4 h
 have := hA x hx
 unfold As.holds at this
 rw [h1] at this
 exact this
theorem VO (hA : Yd ρ A) (h : ask A 1 a z0 = some t) : t = true ↔ a.ev ρ.q = 0 := by
 obtain ⟨x, hx, h1, rfl, _, rfl⟩ := U4 h
 have := hA x hx
 unfold As.holds at this
 rw [h1] at this
 exact this
theorem ZhX (hA : Yd ρ A) (h : ask A 2 a b = some t) : t = true ↔ a.ev ρ.q = b.ev ρ.q := by
 obtain ⟨x, hx, h1, rfl, rfl, rfl⟩ := U4 h
 have := hA x hx
 unfold As.holds at this
 rw [h1] at this
 exact this
theorem ZfR (hA : Yd ρ A) (h : ask A 3 a z0 = some t) : t = Big.ng (a.ev ρ.q) := by
 obtain ⟨x, hx, h1, rfl, _, rfl⟩ := U4 h
 have := hA x hx
 unfold As.holds at this
 rw [h1] at this
 exact this
end
noncomputable def Zkp (n d : Nat) : Bool := Nat.ble (szN n) 512 && Nat.ble (szN d) 512
theorem Zob {s : Bool} {n d : Nat} (h : Zkp n d = true) : Fit (mkRat (Big.sI s n) d) := by
 simp only [Zkp, Bool.and_eq_true] at h
 have h1 := Nat.le_of_ble_eq_true h.1
 have h2 := Nat.le_of_ble_eq_true h.2
 rcases Nat.eq_zero_or_pos d with h0 | h0
 ·subst h0
  rw [Rat.mkRat_zero]
  exact ⟨by decide, by decide⟩
 ·obtain ⟨_, p2, p3⟩ := Big.of_parts s n d h0
  exact ⟨by rw [p2]; exact Nat.le_trans (ZbV (Nat.div_le_self _ _)) h1, by rw [p3]; exact Nat.le_trans (ZbV (Nat.div_le_self _ _)) h2⟩
noncomputable def QF (A : List As) (e : Qe) : Option Bool := match ask A 0 e z0 with
 | some t => some t
 | none => match e with
  | .v i => cond (Nat.ble 100 i) none (some true)
  | .c _ n d => cond (Zkp n d) (some true) none
  | _ => none
theorem QS {ρ : Env} {A : List As} (hA : Yd ρ A) {e : Qe} {t : Bool} (h : QF A e = some t) : t = true ↔ Fit (e.ev ρ.q) := by
 unfold QF at h
 cases ha : ask A 0 e z0 with
 | some u => rw [ha] at h; cases h; exact Zko hA ha
 | none =>
  rw [ha] at h
  cases e with
  | v i =>
   simp only at h
   cases hi : Nat.ble 100 i with
   | true => rw [hi] at h; cases h
   | false =>
    rw [hi] at h; cases h
    exact ⟨fun _ => ρ.fit i (by
     rcases Nat.lt_or_ge i 100 with h | h
     ·exact h
     ·rw [Nat.ble_eq_true_of_le h] at hi; cases hi), fun _ => rfl⟩
  | c s n d =>
   simp only at h
   cases hc : Zkp n d with
   | false => rw [hc] at h; cases h
   | true => rw [hc] at h; cases h; exact ⟨fun _ => Zob hc, fun _ => rfl⟩
  | _ => cases h
noncomputable def okB (e : Qe) : Bool := Nat.ble e.bnd 10000000
theorem ZmN {ρ : Env} {e : Qe} (_ : okB e = true) : Sm e.bnd (e.ev ρ.q) := Qe.sm ρ.fit ρ.big e
theorem ZmO {e : Qe} (h : okB e = true) : e.bnd ≤ 10000000 := Nat.le_of_ble_eq_true h
section
variable {F : Type}
noncomputable def ZG : List F → M F (List Value) := List.rec (motive := fun _ => M F (List Value)) (ret []) (fun f _ ih => bind (Zo f) fun x => bind ih fun l => ret (x :: l))
def Yz (S : Sig F) (w : World) : List F → List Value → Prop
 | [], us => us = []
 | f :: l, us => ∃ u us', us = u :: us' ∧ S.holds f w u ∧ ZR u = true ∧ Yz S w l us'
theorem ZC : ∀ l : List F, Loc (ZG l)
 | [] => Zg _
 | f :: l => Zb (Zp f) fun _ => Zb (ZC l) fun _ => Zg _
theorem Z4 {S : Sig F} : ∀ (l : List F) {h h' : Tr (Blk F)} {nx nx' : Nat} {R W : List Nat} {vs : List Value} {r : Ren} {w : World} {us : List Value}, ZG l h nx = .ok vs h' nx' R W → Mod S r h.get w → New r nx nx' → Yz S w l us →
  nx ≤ nx' ∧ ∃ r', Ext S r w nx nx' W h'.get r' w ∧ VsR r' vs us
 | [], h, h', nx, nx', R, W, vs, r, w, us, e, hM, hN, hu => by
  obtain ⟨rfl, rfl, rfl, rfl⟩ := Zh (show (ret [] : M F _) h nx = _ from e)
  obtain rfl : us = [] := hu
  exact ⟨Nat.le_refl _, r, Ext.refl _ _ hM, .nil⟩
 | f :: l, h, h', nx, nx', R, W, vs, r, w, us, e, hM, hN, hu => by
  obtain ⟨u, us', rfl, h1, ho, h2⟩ := hu
  obtain ⟨x, h3, nx3, R3, W3, R4, W4, e3, e4, rfl, rfl⟩ := Zc (show bind (Zo f) (fun x => bind (ZG l) fun l => ret (x :: l)) h nx = _ from e)
  obtain ⟨i, h5, nx5, R5, W5, R6, W6, e5, e6, rfl, rfl⟩ := Zc e3
  obtain ⟨rfl, rfl, rfl, rfl⟩ := Zh e6
  unfold fresh at e5
  cases e5
  obtain ⟨xs, h7, nx7, R7, W7, R8, W8, e7, e8, rfl, rfl⟩ := Zc e4
  obtain ⟨rfl, rfl, rfl, rfl⟩ := Zh e8
  have hle : nx + 1 ≤ nx' := (ZC l).1 _ _ _ _ _ _ _ e7
  obtain ⟨r1, hX, hr⟩ := YF (S := S) (f := f) hM (Below.refl _ w) (hN.sub (Nat.le_refl _) hle) h1 ho
  have hX' : Ext S r w nx (nx + 1) [] (h.set nx (.fact f)).get r1 w := hX.congr fun n => .inr (Tr.get_set _ _ _ _)
  obtain ⟨_, r2, hY, hs⟩ := Z4 l e7 hX'.mod (New.after hN hX' (by omega)) h2
  refine ⟨by omega, r2, by simpa using hX'.trans hY (by omega) hle, .cons (.opq (hY.le.val _ _ hr) ho) hs⟩
theorem U5 {S : Sig F} {P : Program} {l : List F} {f : FuncId} {args' : List Value} {h h' : Tr (Blk F)} {nx nx' : Nat} {R W : List Nat} {r : Ren} {w : World} {v u : Value} (hp : plain u = true)
  (e : (bind (ZG l) fun vs => ret (.tuple ⟨[.agg ⟨vs⟩, u]⟩) : M F Value) h nx = .ok v h' nx' R W) (hM : Mod S r h.get w) (hN : New r nx nx') (c : Calls P f ⟨args'⟩ w fun e w' => ∃ us, e = .returned (.tuple ⟨[.agg ⟨us⟩, u]⟩) ∧ Yz S w' l us ∧ Below w.heap.size w w') :
  Calls P f ⟨args'⟩ w fun e w' => ∃ v' r', e = .returned v' ∧ VR r' v v' ∧ Ext S r w nx nx' W h'.get r' w' := by
 obtain ⟨vs, h1, nx1, R1, W1, R2, W2, e1, e2, rfl, rfl⟩ := Zc e
 obtain ⟨rfl, rfl, rfl, rfl⟩ := Zh e2
 refine c.mono ?_
 rintro en w' ⟨us, rfl, hu, hb⟩
 have hX := Xw hM hb nx
 obtain ⟨hle, r', hY, hv⟩ := Z4 l e1 hX.mod hN hu
 exact ⟨_, r', rfl, .tuple (.cons (.agg hv) (.cons (.same hp) .nil)), by simpa using hX.trans hY (Nat.le_refl _) hle⟩
theorem Xr {S : Sig F} {P : Program} {f : FuncId} {args' : List Value} {h h' : Tr (Blk F)} {nx nx' : Nat} {R W : List Nat} {r : Ren} {w : World} {u v : Value} (e : (ret u : M F Value) h nx = .ok v h' nx' R W) (hp : Wv u = true) (hM : Mod S r h.get w)
  (c : Calls P f ⟨args'⟩ w fun e w' => e = .returned u ∧ Below w.heap.size w w') : Calls P f ⟨args'⟩ w fun e w' => ∃ v' r', e = .returned v' ∧ VR r' v v' ∧ Ext S r w nx nx' W h'.get r' w' := by
 obtain ⟨rfl, rfl, rfl, rfl⟩ := Zh e
 refine c.mono ?_
 rintro en w' ⟨rfl, hb⟩
 exact ⟨_, r, rfl, Zn2 hp, Xw hM hb _⟩
end
noncomputable def ZhY : Sy → Option Qe | .ng e => some e | _ => none
noncomputable def ZhZ : Sy → Option Qe | .nu e => some e | _ => none
noncomputable def Zh0 : Sy → Option Qe | .de e => some e | _ => none
noncomputable def Zh1 : Sy → Option Qe | .fn e => some e | _ => none
noncomputable def Zh2 : Sy → Option Qe | .fd e => some e | _ => none
noncomputable def Zh3 : Sy → Option Nat | .rn e => some e | _ => none
noncomputable def Zh4 : Sy → Option Nat | .rd e => some e | _ => none
noncomputable def knw {α : Type} (g : Sy → Option α) (v : Value) : M Sy α := bind (fact v) fun f => Q1 (g f)
theorem Xt {α : Type} (g : Sy → Option α) (v : Value) : Loc (knw g v) := Zb (ZA v) fun _ => Zar _
section
variable {ρ : Env} {h h' : Tr (Blk Sy)} {nx nx' : Nat} {R W : List Nat} {r : Ren} {w : World}
theorem Wx {α : Type} {g : Sy → Option α} {v v' : Value} {x : α} (e : knw g v h nx = .ok x h' nx' R W) (hv : VR r v v') (hM : Mod (Zf ρ) r h.get w) : h' = h ∧ nx' = nx ∧ W = [] ∧ ∃ f, g f = some x ∧ f.holds ρ w v' := by
 obtain ⟨f, h1, nx1, R1, W1, R2, W2, e1, e2, rfl, rfl⟩ := Zc e
 obtain ⟨rfl, rfl, rfl, hh⟩ : h1 = h ∧ nx1 = nx ∧ W1 = [] ∧ (Zf ρ).holds f w v' := by
  have e1' : (fact v : M Sy Sy) h nx = .ok f h1 nx1 R1 W1 := e1
  exact ZB e1' hv hM
 cases hg : g f with
 | none => rw [hg] at e2; exact absurd e2 (by simp [Q1, fail])
 | some y =>
  rw [hg] at e2
  obtain ⟨rfl, rfl, rfl, rfl⟩ := Zh e2
  exact ⟨rfl, rfl, rfl, f, hg, hh⟩
theorem Zoc {f : Sy} {e : Qe} {v : Value} (hg : ZhY f = some e) (h : f.holds ρ w v) : v = .bool (Big.ng (e.ev ρ.q)) := by cases f <;> simp [ZhY] at hg; subst hg; exact h
theorem Zod {f : Sy} {e : Qe} {v : Value} (hg : ZhZ f = some e) (h : f.holds ρ w v) : Zj w v (Big.nu (e.ev ρ.q)) := by cases f <;> simp [ZhZ] at hg; subst hg; exact h
theorem Zoe {f : Sy} {e : Qe} {v : Value} (hg : Zh0 f = some e) (h : f.holds ρ w v) : Zj w v (Big.de (e.ev ρ.q)) := by cases f <;> simp [Zh0] at hg; subst hg; exact h
theorem Zof {f : Sy} {e : Qe} {v : Value} (hg : Zh1 f = some e) (h : f.holds ρ w v) : v = .string (bst (Big.nu (e.ev ρ.q))) := by cases f <;> simp [Zh1] at hg; subst hg; exact h
theorem Zog {f : Sy} {e : Qe} {v : Value} (hg : Zh2 f = some e) (h : f.holds ρ w v) : v = .string (bst (Big.de (e.ev ρ.q))) := by cases f <;> simp [Zh2] at hg; subst hg; exact h
theorem Zoh {f : Sy} {e : Nat} {v : Value} (hg : Zh3 f = some e) (h : f.holds ρ w v) : v = .string (ρ.raw e).2.1 := by cases f <;> simp [Zh3] at hg; subst hg; exact h
theorem Zoi {f : Sy} {e : Nat} {v : Value} (hg : Zh4 f = some e) (h : f.holds ρ w v) : v = .string (ρ.raw e).2.2 := by cases f <;> simp [Zh4] at hg; subst hg; exact h
theorem U6 {l : List Value} {v' : Value} (h : VR r (.agg ⟨l⟩) v') : ∃ l', v' = .agg ⟨l'⟩ ∧ VsR r l l' := by
 cases h with
 | same p => simp [plain] at p
 | agg a => exact ⟨_, rfl, a⟩
end
noncomputable def Zh5 (l : List Value) : M Sy Qe := match l with
 | [a, b, c] => bind (knw ZhY a) fun e => bind (knw ZhZ b) fun e2 => bind (knw Zh0 c) fun e3 => cond (e.beq e2 && e.beq e3) (ret e) fail
 | _ => fail
noncomputable def Zdy (v : Value) : M Sy Qe := match v with
 | .agg cs => Zh5 cs.toList
 | _ => fail
theorem Zh6 (l : List Value) : Loc (Zh5 l) := by
 unfold Zh5
 split
 ·exact Zb (Xt _ _) fun _ => Zb (Xt _ _) fun _ => Zb (Xt _ _) fun _ => Ze (Zg _) Za
 ·exact Za
theorem Zca (v : Value) : Loc (Zdy v) := by
 unfold Zdy
 split
 ·exact Zh6 _
 ·exact Za
section
variable {ρ : Env} {h h' : Tr (Blk Sy)} {nx nx' : Nat} {R W : List Nat} {r : Ren} {w : World}
theorem Zkq {l l' : List Value} {q : Qe} (e : Zh5 l h nx = .ok q h' nx' R W) (hv : VsR r l l') (hM : Mod (Zf ρ) r h.get w) : h' = h ∧ nx' = nx ∧ W = [] ∧ YR w (.agg ⟨l'⟩) (q.ev ρ.q) := by
 unfold Zh5 at e
 rcases l with _ | ⟨a, _ | ⟨b, _ | ⟨c, _ | ⟨d, l⟩⟩⟩⟩ <;> first | (cases (show (fail : M Sy Qe) h nx = _ from e); done) | skip
 cases hv with
 | cons ha hv => cases hv with
  | cons hb hv => cases hv with
   | cons hc hv =>
    cases hv
    obtain ⟨e1, h1, nx1, R1, W1, R2, W2, q1, q2, rfl, rfl⟩ := Zc e
    obtain ⟨rfl, rfl, rfl, f1, g1, k1⟩ := Wx q1 ha hM
    obtain ⟨e2, h2, nx2, R3, W3, R4, W4, q3, q4, rfl, rfl⟩ := Zc q2
    obtain ⟨rfl, rfl, rfl, f2, g2, k2⟩ := Wx q3 hb hM
    obtain ⟨e3, h3, nx3, R5, W5, R6, W6, q5, q6, rfl, rfl⟩ := Zc q4
    obtain ⟨rfl, rfl, rfl, f3, g3, k3⟩ := Wx q5 hc hM
    obtain ⟨hbq, q7⟩ := Zi q6
    obtain ⟨rfl, rfl, rfl, rfl⟩ := Zh q7
    simp only [Bool.and_eq_true] at hbq
    have x2 := Qe.beq_ok _ _ hbq.1
    have x3 := Qe.beq_ok _ _ hbq.2
    subst x2; subst x3
    refine ⟨rfl, rfl, by simp, _, _, ?_, Zod g2 k2, Zoe g3 k3⟩
    rw [Zoc g1 k1]
theorem ZeO {v v' : Value} {q : Qe} (e : Zdy v h nx = .ok q h' nx' R W) (hv : VR r v v') (hM : Mod (Zf ρ) r h.get w) : h' = h ∧ nx' = nx ∧ W = [] ∧ YR w v' (q.ev ρ.q) := by
 unfold Zdy at e
 cases v with
 | agg cs =>
  obtain ⟨l⟩ := cs
  obtain ⟨l', rfl, hl⟩ := U6 hv
  exact Zkq e hl hM
 | _ => exact absurd e (by simp [fail])
theorem VP (e : Qe) : Yz (Zf ρ) w [.ng e, .fn e, .fd e] [.bool (Big.ng (e.ev ρ.q)), .string (bst (Big.nu (e.ev ρ.q))), .string (bst (Big.de (e.ev ρ.q)))] :=
 ⟨_, _, rfl, rfl, rfl, _, _, rfl, rfl, rfl, _, _, rfl, rfl, rfl, rfl⟩
end
noncomputable def frc (a b : Value) (e : Qe) : M Sy (Option Qe) := bind (knw Zh1 a) fun e2 => bind (knw Zh2 b) fun e3 => cond (e.beq e2 && e.beq e3) (ret (some e)) fail
noncomputable def raw (a b : Value) (i : Nat) : M Sy (Option Qe) := bind (knw Zh3 a) fun j => bind (knw Zh4 b) fun k => cond (Nat.beq i j && Nat.beq i k) (ret none) fail
noncomputable def isB (n : Nat) (s : ByteArray) : Bool := eqL eqC (btx n) s.data.toList
noncomputable def cst (s : Bool) (a b : Value) : Option (Option Qe) := match a with
 | .string x => match b with
  | .string y => cond (Nat.ble y.size 0 && (Nat.ble x.size 0 && !s)) (some none)
     (cond (Nat.beq (Nat.gcd (Big.bnum x.data.toList) (Big.bnum y.data.toList)) 1 && (Nat.ble 1 (Big.bnum y.data.toList) && ((!s || Nat.ble 1 (Big.bnum x.data.toList)) && (isB (Big.bnum x.data.toList) x && isB (Big.bnum y.data.toList) y))))
      (some (some (.c s (Big.bnum x.data.toList) (Big.bnum y.data.toList)))) none)
  | _ => none
 | _ => none
noncomputable def frg (b c : Value) (f : Sy) : M Sy (Option Qe) := match f with
 | .ng e => frc b c e
 | .rg i => raw b c i
 | _ => fail
noncomputable def Zdz (l : List Value) : M Sy (Option Qe) := match l with
 | [a, b, c] => match a with
  | .bool s => Q1 (cst s b c)
  | a => bind (fact a) (frg b c)
 | _ => fail
theorem Zkr (b c : Value) (f : Sy) : Loc (frg b c f) := by
 unfold frg frc raw
 split
 ·exact Zb (Xt _ _) fun _ => Zb (Xt _ _) fun _ => Ze (Zg _) Za
 ·exact Zb (Xt _ _) fun _ => Zb (Xt _ _) fun _ => Ze (Zg _) Za
 ·exact Za
theorem JR (l : List Value) : Loc (Zdz l) := by
 unfold Zdz
 split
 ·split
  ·exact Zar _
  ·exact Zb (ZA _) fun _ => Zkr _ _ _
 ·exact Za
theorem Wc : ZfQ (false, ⟨#[]⟩, ⟨#[]⟩) := by
 intro q _ ⟨_, _, h⟩
 have h1 : (⟨#[]⟩ : ByteArray).size = (bst (Big.de q)).size := congrArg ByteArray.size h
 have h2 := ZjX (n := Big.de q) (by have := Big.de_pos q; omega)
 rw [Ju] at h1
 have : (⟨#[]⟩ : ByteArray).size = 0 := rfl
 omega
def ZeP (ρ : Env) (l' : List Value) : Option Qe → Prop
 | some e => l' = [.bool (Big.ng (e.ev ρ.q)), .string (bst (Big.nu (e.ev ρ.q))), .string (bst (Big.de (e.ev ρ.q)))]
 | none => ∃ x, ZfQ x ∧ l' = [.bool x.1, .string x.2.1, .string x.2.2]
theorem Zh7 {n : Nat} {s : ByteArray} (h : isB n s = true) : s = bst n := by
 have h1 := U0 ZhB h
 obtain ⟨⟨l⟩⟩ := s
 unfold bst
 rw [h1]
theorem Zks {s : Bool} {n d : Nat} (h1 : Nat.gcd n d = 1) (h2 : 1 ≤ d) (h3 : s = true → 1 ≤ n) : Big.ng (mkRat (Big.sI s n) d) = s ∧ Big.nu (mkRat (Big.sI s n) d) = n ∧ Big.de (mkRat (Big.sI s n) d) = d :=
 Big.parts h2 h1 h3 (show d ≠ 0 by omega) rfl rfl
theorem ZmP {ρ : Env} {s : Bool} {a b : Value} {o : Option Qe} (h : cst s a b = some o) : ZeP ρ [.bool s, a, b] o := by
 unfold cst at h
 cases a with
 | string x =>
  cases b with
  | string y =>
   simp only at h
   cases hz : (Nat.ble y.size 0 && (Nat.ble x.size 0 && !s)) with
   | true =>
    rw [hz] at h
    simp only [cond_true, Option.some.injEq] at h
    subst h
    simp only [Bool.and_eq_true, Bool.not_eq_true'] at hz
    have y0 := JN (Nat.le_zero.1 (Nat.le_of_ble_eq_true hz.1))
    have x0 := JN (Nat.le_zero.1 (Nat.le_of_ble_eq_true hz.2.1))
    have s0 := hz.2.2
    subst y0; subst x0; subst s0
    exact ⟨(false, ⟨#[]⟩, ⟨#[]⟩), Wc, rfl⟩
   | false =>
    rw [hz] at h
    simp only [cond_false] at h
    cases hk : (Nat.beq (Nat.gcd (Big.bnum x.data.toList) (Big.bnum y.data.toList)) 1 && (Nat.ble 1 (Big.bnum y.data.toList) && ((!s || Nat.ble 1 (Big.bnum x.data.toList)) && (isB (Big.bnum x.data.toList) x && isB (Big.bnum y.data.toList) y)))) with
    | false => rw [hk] at h; cases h
    | true =>
     rw [hk] at h
     simp only [cond_true, Option.some.injEq] at h
     subst h
     simp only [Bool.and_eq_true, Bool.or_eq_true, Bool.not_eq_true'] at hk
     obtain ⟨k1, k2, k3, k4, k5⟩ := hk
     obtain ⟨p1, p2, p3⟩ := Zks (s := s) (Nat.eq_of_beq_eq_true k1) (Nat.le_of_ble_eq_true k2) (fun hs => by
      rcases k3 with k3 | k3
      ·rw [hs] at k3; cases k3
      ·exact Nat.le_of_ble_eq_true k3)
     show [Value.bool s, .string x, .string y] = [.bool (Big.ng (mkRat (Big.sI s (Big.bnum x.data.toList)) (Big.bnum y.data.toList))), .string (bst (Big.nu (mkRat (Big.sI s (Big.bnum x.data.toList)) (Big.bnum y.data.toList)))), .string (bst (Big.de (mkRat (Big.sI s (Big.bnum x.data.toList)) (Big.bnum y.data.toList))))]
     rw [p1, p2, p3, ← Zh7 k4, ← Zh7 k5]
  | _ => simp at h
 | _ => simp at h
section
variable {ρ : Env} {h h' : Tr (Blk Sy)} {nx nx' : Nat} {R W : List Nat} {r : Ren} {w : World}
theorem ZmQ {b c b' c' v : Value} {f : Sy} {o : Option Qe} (e : frg b c f h nx = .ok o h' nx' R W) (hb : VR r b b') (hc : VR r c c') (hf : f.holds ρ w v) (hM : Mod (Zf ρ) r h.get w) : h' = h ∧ nx' = nx ∧ W = [] ∧ ZeP ρ [v, b', c'] o := by
 unfold frg at e
 cases f with
 | ng q =>
  obtain ⟨e2, h2, nx2, R3, W3, R4, W4, q3, q4, rfl, rfl⟩ := Zc (show frc b c q h nx = _ from e)
  obtain ⟨rfl, rfl, rfl, f2, g2, k2⟩ := Wx q3 hb hM
  obtain ⟨e3, h3, nx3, R5, W5, R6, W6, q5, q6, rfl, rfl⟩ := Zc q4
  obtain ⟨rfl, rfl, rfl, f3, g3, k3⟩ := Wx q5 hc hM
  obtain ⟨hbq, q7⟩ := Zi q6
  obtain ⟨rfl, rfl, rfl, rfl⟩ := Zh q7
  simp only [Bool.and_eq_true] at hbq
  have x2 := Qe.beq_ok _ _ hbq.1
  have x3 := Qe.beq_ok _ _ hbq.2
  subst x2; subst x3
  refine ⟨rfl, rfl, by simp, ?_⟩
  show [v, b', c'] = _
  rw [show v = .bool (Big.ng (q.ev ρ.q)) from hf, Zof g2 k2, Zog g3 k3]
 | rg i =>
  obtain ⟨e2, h2, nx2, R3, W3, R4, W4, q3, q4, rfl, rfl⟩ := Zc (show raw b c i h nx = _ from e)
  obtain ⟨rfl, rfl, rfl, f2, g2, k2⟩ := Wx q3 hb hM
  obtain ⟨e3, h3, nx3, R5, W5, R6, W6, q5, q6, rfl, rfl⟩ := Zc q4
  obtain ⟨rfl, rfl, rfl, f3, g3, k3⟩ := Wx q5 hc hM
  obtain ⟨hbq, q7⟩ := Zi q6
  obtain ⟨rfl, rfl, rfl, rfl⟩ := Zh q7
  simp only [Bool.and_eq_true] at hbq
  have x2 := Nat.eq_of_beq_eq_true hbq.1
  have x3 := Nat.eq_of_beq_eq_true hbq.2
  subst x2; subst x3
  refine ⟨rfl, rfl, by simp, ρ.raw i, ρ.bad i, ?_⟩
  rw [show v = .bool (ρ.raw i).1 from hf, Zoh g2 k2, Zoi g3 k3]
 | _ => exact absurd e (by simp [fail])
theorem Za0 {l l' : List Value} {o : Option Qe} (e : Zdz l h nx = .ok o h' nx' R W) (hv : VsR r l l') (hM : Mod (Zf ρ) r h.get w) : h' = h ∧ nx' = nx ∧ W = [] ∧ ZeP ρ l' o := by
 unfold Zdz at e
 rcases l with _ | ⟨a, _ | ⟨b, _ | ⟨c, _ | ⟨d, l⟩⟩⟩⟩ <;> first | (cases (show (fail : M Sy (Option Qe)) h nx = _ from e); done) | skip
 cases hv with
 | cons ha hv => cases hv with
  | cons hb hv => cases hv with
   | cons hc hv =>
    cases hv
    simp only at e
    split at e
    ·rename_i s
     cases hcs : cst s b c with
     | none => rw [hcs] at e; exact absurd e (by simp [Q1, fail])
     | some o2 =>
      rw [hcs] at e
      obtain ⟨rfl, rfl, rfl, rfl⟩ := Zh e
      refine ⟨rfl, rfl, rfl, ?_⟩
      rw [ha.bool]
      have hb2 : plain b = true ∧ plain c = true := by
       unfold cst at hcs
       cases b <;> simp at hcs <;> cases c <;> simp at hcs <;> exact ⟨rfl, rfl⟩
      rw [hb.eq_of_plain hb2.1, hc.eq_of_plain hb2.2]
      exact ZmP hcs
    ·obtain ⟨f, h1, nx1, R1, W1, R2, W2, q1, q2, rfl, rfl⟩ := Zc e
     obtain ⟨rfl, rfl, rfl, hf⟩ := ZB q1 ha hM
     obtain ⟨rfl, rfl, rfl, k⟩ := ZmQ q2 hb hc hf hM
     exact ⟨rfl, rfl, by simp, k⟩
end
section
variable {ρ : Env} {A : List As}
noncomputable def ZfS (args : List Value) (k : Qe → M Sy Value) : Option (M Sy Value) := match args with
 | [a] => some (bind (Zdy a) fun x => cond (okB x) (k x) fail)
 | _ => none
def ZlZ (ρ : Env) (f : FuncId) (args' : List Value) (r : Ren) (w : World) (nx nx' : Nat) (W : List Nat) (g' : Nat → Option (Blk Sy)) (v : Value) : Prop :=
 Calls Tryz.prog f ⟨args'⟩ w fun e w' => ∃ v' r', e = .returned v' ∧ VR r' v v' ∧ Ext (Zf ρ) r w nx nx' W g' r' w'
theorem ZeQ {f : FuncId} {k : Qe → M Sy Value} (hl : ∀ n, Loc (k n)) (hk : ∀ x (h : Tr (Blk Sy)) nx v h' nx' R W, k x h nx = .ok v h' nx' R W → ∀ r w a, YR w a (x.ev ρ.q) → Sm x.bnd (x.ev ρ.q) → x.bnd ≤ 10000000 → Mod (Zf ρ) r h.get w → New r nx nx' → ZlZ ρ f [a] r w nx nx' W h'.get v) :
  Z3 (Zf ρ) Tryz.prog f (fun args => ZfS args k) := by
 intro args m e
 unfold ZfS at e
 rcases args with _ | ⟨a, _ | ⟨c, l⟩⟩ <;> simp only [reduceCtorEq, Option.some.injEq] at e
 subst e
 refine ⟨Zb (Zca a) fun n => Ze (hl n) Za, ?_⟩
 intro h nx v h' nx' R W e r w args' ha hM hN
 cases ha with
 | cons ha1 ha2 =>
  cases ha2
  obtain ⟨n, h1, nx1, R1, W1, R2, W2, e1, e2, rfl, rfl⟩ := Zc e
  obtain ⟨rfl, rfl, rfl, hn⟩ := ZeO e1 ha1 hM
  obtain ⟨hs, e5⟩ := Zi e2
  simpa [ZlZ] using hk n _ _ _ _ _ _ _ e5 r w _ hn (ZmN hs) (ZmO hs) hM hN
noncomputable def QU (A : List As) (e : Qe) : Option Bool := match ask A 1 e z0 with
 | some t => some t
 | none => match e with
  | .c _ n d => cond (Nat.ble 1 n && Nat.ble 1 d) (some false) (cond (Nat.ble n 0) (some true) none)
  | _ => none
theorem ZdA (hA : Yd ρ A) {e : Qe} {t : Bool} (h : QU A e = some t) : t = true ↔ e.ev ρ.q = 0 := by
 unfold QU at h
 cases ha : ask A 1 e z0 with
 | some u => rw [ha] at h; cases h; exact VO hA ha
 | none =>
  rw [ha] at h
  cases e with
  | c s n d =>
   simp only at h
   cases hc : (Nat.ble 1 n && Nat.ble 1 d) with
   | true =>
    rw [hc] at h
    simp only [cond_true, Option.some.injEq] at h
    subst h
    simp only [Bool.and_eq_true] at hc
    have h1 := Nat.le_of_ble_eq_true hc.1
    have h2 := Nat.le_of_ble_eq_true hc.2
    refine ⟨fun h => (by cases h), fun h => ?_⟩
    have h3 := (Rat.mkRat_eq_zero (n := Big.sI s n) (show d ≠ 0 by omega)).1 h
    have h4 := Big.sI_abs s n
    rw [h3] at h4
    simp at h4
    omega
   | false =>
    rw [hc] at h
    simp only [cond_false] at h
    cases hd : Nat.ble n 0 with
    | false => rw [hd] at h; cases h
    | true =>
     rw [hd] at h
     simp only [cond_true, Option.some.injEq] at h
     subst h
     have hn : n = 0 := Nat.le_zero.1 (Nat.le_of_ble_eq_true hd)
     subst hn
     refine ⟨fun _ => ?_, fun _ => rfl⟩
     show mkRat (Big.sI s 0) d = 0
     have : Big.sI s 0 = 0 := by cases s <;> rfl
     rw [this, Rat.zero_mkRat]
  | _ => cases h
noncomputable def K3 (A : List As) (e : Qe) : Option Int := match QU A e with
 | some t => cond t (some 0) (match ask A 3 e z0 with
  | some t => some (cond t (-1) 1)
  | none => none)
 | none => none
theorem Zh8 (hA : Yd ρ A) {e : Qe} {z : Int} (h : K3 A e = some z) : z = sgQ (e.ev ρ.q) := by
 unfold K3 at h
 cases hn : QU A e with
 | none => rw [hn] at h; cases h
 | some t =>
  rw [hn] at h
  have h0 := ZdA hA hn
  cases t with
  | true =>
   cases h
   rw [h0.1 rfl]
   rfl
  | false =>
   simp only [cond_false] at h
   cases hb : ask A 3 e z0 with
   | none => rw [hb] at h; cases h
   | some u =>
    rw [hb] at h
    cases h
    have hu := ZfR hA hb
    have hz : Big.nu (e.ev ρ.q) ≠ 0 := fun h => by
     have := h0.2 (Big.nu_zero.1 h)
     cases this
    unfold sgQ
    rw [← hu]
    cases u
    ·rw [if_neg (by simp), if_neg hz]; rfl
    ·rfl
theorem ZfT (hA : Yd ρ A) : Z3 (Zf ρ) Tryz.prog 86 (fun args => ZfS args fun x => match K3 A x with
  | some z => ret (.int .i64 z)
  | none => fail) :=
 ZeQ (fun x => by
  cases K3 A x with
  | none => exact Za
  | some z => exact Zg _) fun x h nx v h' nx' R W e r w a ha _ _ hM hN => by
  cases hs : K3 A x with
  | none => rw [hs] at e; exact absurd e (by simp [fail])
  | some z =>
   rw [hs] at e
   rw [Zh8 hA hs] at e
   exact Xr e rfl hM (Zdw w a _ ha)
theorem ZfU (hA : Yd ρ A) : Z3 (Zf ρ) Tryz.prog 80 (fun args => ZfS args fun x => match QF A x with
  | some t => cond t (bind (ZG [.ng x, .fn x, .fd x]) fun vs => ret (.tuple ⟨[.agg ⟨vs⟩, .bool true]⟩)) (ret (.tuple ⟨[.agg ⟨[.bool false, .string ⟨#[]⟩, .string ⟨#[]⟩]⟩, .bool false]⟩))
  | none => fail) :=
 ZeQ (fun x => by
  cases QF A x with
  | none => exact Za
  | some t => exact Ze (Zb (ZC _) fun _ => Zg _) (Zg _)) fun x h nx v h' nx' R W e r w a ha sa hk hM hN => by
  cases hs : QF A x with
  | none => rw [hs] at e; exact absurd e (by simp [fail])
  | some t =>
   rw [hs] at e
   have hf := QS hA hs
   cases t with
   | true =>
    simp only [cond_true] at e
    exact U5 rfl e hM hN ((JM w a _ _ ha sa hk (hf.1 rfl)).mono fun _ w' ⟨h1, h2⟩ => ⟨_, h1, VP (w := w') x, h2⟩)
   | false =>
    simp only [cond_false] at e
    exact Xr e rfl hM (Zb8 w a _ _ ha sa hk (fun h => by have := hf.2 h; cases this))
noncomputable def QV (A : List As) : List (Nat × (List Value → Option (M Sy Value))) := [
 (86, fun args => ZfS args fun x => match K3 A x with
  | some z => ret (.int .i64 z)
  | none => fail),
 (80, fun args => ZfS args fun x => match QF A x with
  | some t => cond t (bind (ZG [.ng x, .fn x, .fd x]) fun vs => ret (.tuple ⟨[.agg ⟨vs⟩, .bool true]⟩)) (ret (.tuple ⟨[.agg ⟨[.bool false, .string ⟨#[]⟩, .string ⟨#[]⟩]⟩, .bool false]⟩))
  | none => fail)]
theorem JS (hA : Yd ρ A) : ∀ x ∈ QV A, Z3 (Zf ρ) Tryz.prog x.1 x.2 := by
 unfold QV
 intro x hx
 simp only [List.mem_cons, List.not_mem_nil, or_false] at hx
 repeat' (rcases hx with rfl | hx)
 all_goals first
  | exact ZfT hA
  | exact ZfU hA
end
end Ev
end Go.Proofs.YtnlhjcfpfapafaaGreatDoor
