/- Contracts, in this order: Runs over ref90's numbers: expressions, what is known, and w · Runs over ref90's numbers: how many words, and whether that  · exact: Sub, Quo, Cmp. · exact: Read, of what may be. -/
import Derived.Test.YthjofdfnppadnaaGreatDoorZg20
import Derived.Test.YthjofdfnppadnaaGreatDoorZg15
import Derived.Laws.BytesString
namespace Go.Proofs.YthjofdfnppadnaaGreatDoor
open Go Go.RowKit
namespace Ev
inductive Xe where
  | v (i : Nat)
  | c (n : Nat)
  | add (a b : Xe)
  | sub (a b : Xe)
  | mul (a b : Xe)
  | quo (a b : Xe)
  | gcd (a b : Xe)
def Xe.ev (ρ : Nat → Nat) : Xe → Nat
  | .v i => ρ i
  | .c n => n
  | .add a b => a.ev ρ + b.ev ρ
  | .sub a b => a.ev ρ - b.ev ρ
  | .mul a b => a.ev ρ * b.ev ρ
  | .quo a b => a.ev ρ / b.ev ρ
  | .gcd a b => Nat.gcd (a.ev ρ) (b.ev ρ)
noncomputable def Xe.beq : Xe → Xe → Bool := Xe.rec (motive := fun _ => Xe → Bool)
  (fun i y => match y with | .v j => Nat.beq i j | _ => false)
  (fun n y => match y with | .c m => Nat.beq n m | _ => false)
  (fun _ _ iha ihb y => match y with | .add a b => iha a && ihb b | _ => false)
  (fun _ _ iha ihb y => match y with | .sub a b => iha a && ihb b | _ => false)
  (fun _ _ iha ihb y => match y with | .mul a b => iha a && ihb b | _ => false)
  (fun _ _ iha ihb y => match y with | .quo a b => iha a && ihb b | _ => false)
  (fun _ _ iha ihb y => match y with | .gcd a b => iha a && ihb b | _ => false)
theorem Xe.beq_ok : ∀ (a b : Xe), a.beq b = true → a = b := by
  intro a
  induction a with
  | v i =>
    intro b h
    cases b with
    | v j => rw [Nat.eq_of_beq_eq_true (show Nat.beq i j = true from h)]
    | _ => exact absurd (show false = true from h) (by simp)
  | c n =>
    intro b h
    cases b with
    | c m => rw [Nat.eq_of_beq_eq_true (show Nat.beq n m = true from h)]
    | _ => exact absurd (show false = true from h) (by simp)
  | add a b iha ihb =>
    intro y h
    cases y with
    | add a' b' =>
      have h' : (a.beq a' && b.beq b') = true := h
      simp only [Bool.and_eq_true] at h'
      rw [iha _ h'.1, ihb _ h'.2]
    | _ => exact absurd (show false = true from h) (by simp)
  | sub a b iha ihb =>
    intro y h
    cases y with
    | sub a' b' =>
      have h' : (a.beq a' && b.beq b') = true := h
      simp only [Bool.and_eq_true] at h'
      rw [iha _ h'.1, ihb _ h'.2]
    | _ => exact absurd (show false = true from h) (by simp)
  | mul a b iha ihb =>
    intro y h
    cases y with
    | mul a' b' =>
      have h' : (a.beq a' && b.beq b') = true := h
      simp only [Bool.and_eq_true] at h'
      rw [iha _ h'.1, ihb _ h'.2]
    | _ => exact absurd (show false = true from h) (by simp)
  | quo a b iha ihb =>
    intro y h
    cases y with
    | quo a' b' =>
      have h' : (a.beq a' && b.beq b') = true := h
      simp only [Bool.and_eq_true] at h'
      rw [iha _ h'.1, ihb _ h'.2]
    | _ => exact absurd (show false = true from h) (by simp)
  | gcd a b iha ihb =>
    intro y h
    cases y with
    | gcd a' b' =>
      have h' : (a.beq a' && b.beq b') = true := h
      simp only [Bool.and_eq_true] at h'
      rw [iha _ h'.1, ihb _ h'.2]
    | _ => exact absurd (show false = true from h) (by simp)
noncomputable def Xe.bnd : Xe → Nat := Xe.rec (motive := fun _ => Nat)
  (fun _ => 262144)
  (fun n => Nat.succ (Nat.log2 n))
  (fun _ _ a b => Nat.succ (Nat.add a b))
  (fun _ _ a _ => a)
  (fun _ _ a b => Nat.add a b)
  (fun _ _ a _ => a)
  (fun _ _ a b => Nat.succ (Nat.add a b))
structure Bits (k n : Nat) : Prop where
  out : n < 2 ^ k
theorem Bits.up {k j n : Nat} (h : Bits k n) (hk : k ≤ j) : Bits j n := ⟨Nat.lt_of_lt_of_le h.out (Nat.pow_le_pow_right (by omega) hk)⟩
theorem Bits.le {k n m : Nat} (h : Bits k n) (hm : m ≤ n) : Bits k m := ⟨Nat.lt_of_le_of_lt hm h.out⟩
theorem Bits.add {k j n m : Nat} (h : Bits k n) (i : Bits j m) : Bits (k + j + 1) (n + m) := by
  have h1 := (h.up (show k ≤ k + j by omega)).out
  have h2 := (i.up (show j ≤ k + j by omega)).out
  refine ⟨?_⟩
  rw [Nat.pow_succ]
  generalize 2 ^ (k + j) = p at *
  omega
theorem Bits.mul {k j n m : Nat} (h : Bits k n) (i : Bits j m) : Bits (k + j) (n * m) := by
  refine ⟨?_⟩
  rw [Nat.pow_add]
  exact Nat.mul_lt_mul'' h.out i.out
theorem Bits.log (n : Nat) : Bits (Nat.succ (Nat.log2 n)) n := ⟨Nat.lt_log2_self⟩
theorem Bits.gcd {k j n m : Nat} (h : Bits k n) (i : Bits j m) : Bits (k + j + 1) (Nat.gcd n m) := by
  refine (h.add i).le ?_
  rcases Nat.eq_zero_or_pos n with h0 | h0
  · subst h0; rw [Nat.gcd_zero_left]; omega
  · have := Nat.gcd_le_left m h0; omega
theorem m32_pow (k : Nat) : R.M32 ^ k = 2 ^ (32 * k) := by rw [Nat.pow_mul]; rfl
theorem Bits.sml {k n : Nat} (h : Bits k n) (hk : k ≤ 100000000) : R.Sml n := by
  refine ⟨?_⟩
  rw [m32_pow]
  exact (h.up (show k ≤ 32 * Big.KL by have := Big.KL_eq; omega)).out
structure XEnv where
  q : Nat → Nat
  bit : ∀ i, Bits 262144 (q i)
theorem Xe.bits (ρ : XEnv) : ∀ e : Xe, Bits e.bnd (e.ev ρ.q) := by
  intro e
  induction e with
  | v i => exact ρ.bit i
  | c n => exact Bits.log n
  | add a b iha ihb => exact iha.add ihb
  | sub a b iha _ => exact iha.le (Nat.sub_le _ _)
  | mul a b iha ihb => exact iha.mul ihb
  | quo a b iha _ => exact iha.le (Nat.div_le_self _ _)
  | gcd a b iha ihb => exact iha.gcd ihb
noncomputable def xokB (e : Xe) : Bool := Nat.ble e.bnd 100000000
theorem xokB_sml {ρ : XEnv} {e : Xe} (h : xokB e = true) : R.Sml (e.ev ρ.q) := (e.bits ρ).sml (Nat.le_of_ble_eq_true h)
inductive Wf where
  | wd (e : Xe)
  | lp (e : Xe)
  | st (e : Xe)
  | sb
  | by_ (e : Xe)
  | sx (e : Xe)
  | ln (e : Xe)
def BadS (s : ByteArray) : Prop := mayB s = false
def Wf.holds (ρ : XEnv) : Wf → World → Value → Prop
  | .wd e, w, v => R.Nin w v (e.ev ρ.q)
  | .lp e, _, v => ∃ k : Nat, v = .int .i64 (k : Int) ∧ (k = 0 ↔ e.ev ρ.q = 0)
  | .st e, _, v => v = .string (bst (e.ev ρ.q)) ∧ szN (e.ev ρ.q) ≤ 512
  | .sb, _, v => ∃ s, v = .string s ∧ BadS s
  | .by_ e, w, v => R.Bt w v (btx (e.ev ρ.q))
  | .sx e, _, v => v = .string (bst (e.ev ρ.q))
  | .ln e, _, v => v = .int .i64 (szN (e.ev ρ.q) : Nat)
theorem Wf.one {ρ : XEnv} {f : Wf} {w : World} {v : Value} (h : f.holds ρ w v) : isOne v = true := by
  cases f with
  | wd e => exact nin_one h
  | lp e => obtain ⟨k, rfl, _⟩ := h; rfl
  | st e => rw [h.1]; rfl
  | sb => obtain ⟨s, rfl, _⟩ := h; rfl
  | by_ e => obtain ⟨A, c, rfl, _⟩ := h; rfl
  | sx e => rw [show v = _ from h]; rfl
  | ln e => rw [show v = _ from h]; rfl
theorem bt_stable {l : List UInt8} {w w' : World} {v : Value} (h : R.Bt w v l) (hk : ∀ (b : Nat) (c : Array Value) (t : TypeId) (z : Nat × Nat), w.heap[b]? = some (.cells c t z) → Nat.beq t 5 = true → w'.heap[b]? = some (.cells c t z)) : R.Bt w' v l := by
  obtain ⟨A, c, e, h1, h3⟩ := h
  refine ⟨A, c, e, h1, fun hp => ?_⟩
  obtain ⟨b, o, ea, hlt, hc, cs, z, hcs⟩ := h3 hp
  have hcs' := hk b cs _ _ hcs (Nat.beq_refl _)
  refine ⟨b, o, ea, (Array.getElem?_eq_some_iff.1 hcs').1, fun i hi => ?_, cs, z, hcs'⟩
  rw [← hc i hi]
  exact World.cell?_of_block (hcs'.trans hcs.symm)
theorem nin_words {w : World} {v : Value} {n : Nat} (h : R.Nin w v n) : ∃ a k c, v = .slice a k c ∧ (k = 0 ↔ n = 0) := by
  obtain ⟨l, ⟨A, c, e, -, -, -⟩, ol, nl, rfl⟩ := h
  refine ⟨A, l.length, c, e, fun h => ?_, fun h => ?_⟩
  · rw [List.length_eq_zero_iff.1 h]; rfl
  · rw [Big.norm_zero R.M32_pos l nl h]; rfl
noncomputable def wHid (t : TypeId) : Bool := Nat.beq t 167 || Nat.beq t 5
noncomputable def wSig (ρ : XEnv) : Sig Wf where
  holds := Wf.holds ρ
  hid := wHid
  G := natSig.G
  base := natSig.base
  baseS := natSig.baseS
  stable := fun f _ _ _ h hk => by
    have hw := fun (b : Nat) (c : Array Value) (t : TypeId) (z : Nat × Nat) h1 (h2 : Nat.beq t 167 = true) => hk b c t z h1 (by unfold wHid; rw [h2]; rfl)
    have hb := fun (b : Nat) (c : Array Value) (t : TypeId) (z : Nat × Nat) h1 (h2 : Nat.beq t 5 = true) => hk b c t z h1 (by unfold wHid; rw [h2, Bool.or_true])
    cases f with
    | wd e => exact R.nin_stable h hw
    | by_ e => exact bt_stable h hb
    | sx e => exact h
    | ln e => exact h
    | lp e => exact h
    | st e => exact h
    | sb => exact h
structure Xs where
  k : Nat
  a : Xe
  b : Xe
  t : Bool
def Xs.holds (ρ : Nat → Nat) (x : Xs) : Prop := match x.k with
  | 1 => x.t = true ↔ x.a.ev ρ = 0
  | 2 => x.t = true ↔ x.a.ev ρ = x.b.ev ρ
  | 4 => x.t = true ↔ 512 < szN (x.a.ev ρ)
  | _ => x.t = true ↔ x.a.ev ρ < x.b.ev ρ
def x0 : Xe := .c 0
noncomputable def askX (A : List Xs) (k : Nat) (a b : Xe) : Option Bool := List.rec (motive := fun _ => Option Bool) none
  (fun x _ ih => Bool.rec (motive := fun _ => Option Bool) ih (some x.t) (Nat.beq k x.k && (a.beq x.a && b.beq x.b))) A
theorem askX_ok {k : Nat} {a b : Xe} {t : Bool} : ∀ {A : List Xs}, askX A k a b = some t → ∃ x ∈ A, x.k = k ∧ x.a = a ∧ x.b = b ∧ x.t = t
  | [], h => by cases h
  | x :: A, h => by
    have h' : (Bool.rec (motive := fun _ => Option Bool) (askX A k a b) (some x.t) (Nat.beq k x.k && (a.beq x.a && b.beq x.b)) : Option Bool) = some t := h
    cases hb : (Nat.beq k x.k && (a.beq x.a && b.beq x.b)) with
    | false =>
      rw [hb] at h'
      obtain ⟨y, hy, r⟩ := askX_ok h'
      exact ⟨y, List.mem_cons_of_mem _ hy, r⟩
    | true =>
      rw [hb] at h'
      simp only [Bool.and_eq_true] at hb
      exact ⟨x, List.mem_cons_self, (Nat.eq_of_beq_eq_true hb.1).symm, (Xe.beq_ok _ _ hb.2.1).symm, (Xe.beq_ok _ _ hb.2.2).symm, Option.some.inj h'⟩
def AllX (ρ : XEnv) (A : List Xs) : Prop := ∀ x ∈ A, x.holds ρ.q
section
variable {ρ : XEnv} {A : List Xs} {a b : Xe} {t : Bool}
theorem askX_nought (hA : AllX ρ A) (h : askX A 1 a x0 = some t) : t = true ↔ a.ev ρ.q = 0 := by
  obtain ⟨x, hx, h1, rfl, _, rfl⟩ := askX_ok h
  have := hA x hx
  unfold Xs.holds at this
  rw [h1] at this
  exact this
theorem askX_same (hA : AllX ρ A) (h : askX A 2 a b = some t) : t = true ↔ a.ev ρ.q = b.ev ρ.q := by
  obtain ⟨x, hx, h1, rfl, rfl, rfl⟩ := askX_ok h
  have := hA x hx
  unfold Xs.holds at this
  rw [h1] at this
  exact this
theorem askX_long (hA : AllX ρ A) (h : askX A 4 a x0 = some t) : t = true ↔ 512 < szN (a.ev ρ.q) := by
  obtain ⟨x, hx, h1, rfl, _, rfl⟩ := askX_ok h
  have := hA x hx
  unfold Xs.holds at this
  rw [h1] at this
  exact this
theorem askX_less (hA : AllX ρ A) (h : askX A 3 a b = some t) : t = true ↔ a.ev ρ.q < b.ev ρ.q := by
  obtain ⟨x, hx, h1, rfl, rfl, rfl⟩ := askX_ok h
  have := hA x hx
  unfold Xs.holds at this
  rw [h1] at this
  exact this
end
end Ev
end Go.Proofs.YthjofdfnppadnaaGreatDoor
namespace Go.Proofs.YthjofdfnppadnaaGreatDoor
open Go Go.RowKit
namespace Ev
set_option maxRecDepth 100000
noncomputable def isZ (v : Value) : Bool := match v with
  | .int k m => match k with
    | .i64 => match m with
      | .ofNat j => Nat.beq j 0
      | _ => false
    | _ => false
  | _ => false
theorem isZ_ok {v : Value} (h : isZ v = true) : v = .int .i64 ((0 : Nat) : Int) := by
  unfold isZ at h
  split at h
  · split at h
    · split at h
      · rw [Nat.eq_of_beq_eq_true h]; rfl
      · cases h
    · cases h
  · cases h
noncomputable def wLen (a : Value) : M Wf Nxt := bind (fact a) fun x => match x with
  | .wd e => bind (newFact (.lp e)) fun v => val v
  | _ => fail
noncomputable def noughtA (op : BinOp) (t : Bool) : M Wf Nxt := match op with
  | .eql => val (.bool t)
  | .neq => val (.bool (!t))
  | .gtr => val (.bool (!t))
  | _ => fail
noncomputable def is512 (v : Value) : Bool := match v with
  | .int k m => match k with
    | .i64 => match m with
      | .ofNat j => Nat.beq j 512
      | _ => false
    | _ => false
  | _ => false
theorem is512_ok {v : Value} (h : is512 v = true) : v = .int .i64 ((512 : Nat) : Int) := by
  unfold is512 at h
  split at h
  · split at h
    · split at h
      · rw [Nat.eq_of_beq_eq_true h]; rfl
      · cases h
    · cases h
  · cases h
noncomputable def gtrA (op : BinOp) (t : Bool) : M Wf Nxt := match op with
  | .gtr => val (.bool t)
  | _ => fail
noncomputable def wLong (A : List Xs) (op : BinOp) (a : Value) : M Wf Nxt := bind (fact a) fun x => match x with
  | .ln e => match askX A 4 e x0 with
    | some t => gtrA op t
    | none => fail
  | _ => fail
noncomputable def wNought (A : List Xs) (op : BinOp) (a : Value) : M Wf Nxt := bind (fact a) fun x => match x with
  | .lp e => match askX A 1 e x0 with
    | some t => noughtA op t
    | none => fail
  | _ => fail
noncomputable def wCmp (A : List Xs) (op : BinOp) (a b : Value) : M Wf Nxt := cond (isZ b) (wNought A op a) (cond (is512 b) (wLong A op a) fail)
noncomputable def wLenS (a : Value) : M Wf Nxt := bind (fact a) fun x => match x with
  | .sx e => bind (newFact (.ln e)) fun v => val v
  | _ => fail
noncomputable def wStr (a : Value) : M Wf Nxt := bind (fact a) fun x => match x with
  | .by_ e => bind (newFact (.sx e)) fun v => val v
  | _ => fail
noncomputable def isStrT (c : Call) : Bool := match c.argTypes[0]? with
  | some t => Nat.beq t 9
  | none => false
noncomputable def isSl (c : Call) : Bool := match (c.argTypes[0]?).bind (sliceT Tryz.prog) with
  | some _ => true
  | none => false
noncomputable def wHard (A : List Xs) (o : Oper) (vs : List Value) : M Wf Nxt := match o.op with
  | .binOp op _ _ _ _ => match vs with
    | [a, b] => wCmp A op a b
    | _ => fail
  | .call c => match c.callee with
    | .builtin b => match b with
      | .len => match vs with
        | [a] => cond (isSl c) (wLen a) (cond (isStrT c) (wLenS a) fail)
        | _ => fail
      | _ => fail
    | _ => fail
  | .convert src dst _ => match vs with
    | [a] => cond (Nat.beq src 140 && Nat.beq dst 9) (wStr a) fail
    | _ => fail
  | _ => fail
theorem loc_wLen (a : Value) : Loc (wLen a) := by
  unfold wLen
  refine loc_bind (loc_fact _) fun x => ?_
  split
  · exact loc_bind (loc_newFact _) fun _ => loc_val _
  · exact loc_fail
theorem loc_noughtA (op : BinOp) (t : Bool) : Loc (noughtA op t) := by
  unfold noughtA
  split <;> first | exact loc_val _ | exact loc_fail
theorem loc_gtrA (op : BinOp) (t : Bool) : Loc (gtrA op t) := by
  unfold gtrA
  split <;> first | exact loc_val _ | exact loc_fail
theorem loc_wNought (A : List Xs) (op : BinOp) (a : Value) : Loc (wNought A op a) := by
  unfold wNought
  refine loc_bind (loc_fact _) fun x => ?_
  split
  · split
    · exact loc_noughtA _ _
    · exact loc_fail
  · exact loc_fail
theorem loc_wLong (A : List Xs) (op : BinOp) (a : Value) : Loc (wLong A op a) := by
  unfold wLong
  refine loc_bind (loc_fact _) fun x => ?_
  split
  · split
    · exact loc_gtrA _ _
    · exact loc_fail
  · exact loc_fail
theorem loc_wCmp (A : List Xs) (op : BinOp) (a b : Value) : Loc (wCmp A op a b) := loc_cond (loc_wNought _ _ _) (loc_cond (loc_wLong _ _ _) loc_fail)
theorem loc_wLenS (a : Value) : Loc (wLenS a) := by
  unfold wLenS
  refine loc_bind (loc_fact _) fun x => ?_
  split
  · exact loc_bind (loc_newFact _) fun _ => loc_val _
  · exact loc_fail
theorem loc_wStr (a : Value) : Loc (wStr a) := by
  unfold wStr
  refine loc_bind (loc_fact _) fun x => ?_
  split
  · exact loc_bind (loc_newFact _) fun _ => loc_val _
  · exact loc_fail
theorem loc_wHard (A : List Xs) (o : Oper) (vs : List Value) : Loc (wHard A o vs) := by
  unfold wHard
  (repeat' split) <;> first | exact loc_fail | exact loc_wCmp _ _ _ _ | exact loc_cond (loc_wLen _) (loc_cond (loc_wLenS _) loc_fail) | exact loc_cond (loc_wStr _) loc_fail
theorem push_all (l : List UInt8) : ∀ s : ByteArray, (l.map fun b => ((b.toNat : Nat) : Int)).foldl (fun r n => r.push (UInt8.ofNat n.toNat)) s = ⟨s.data ++ l.toArray⟩ := by
  induction l with
  | nil => intro s; simp
  | cons b l ih =>
    intro s
    rw [List.map_cons, List.foldl_cons, ih]
    have : UInt8.ofNat ((b.toNat : Nat) : Int).toNat = b := by simp
    rw [this]
    simp [ByteArray.push]
theorem bt_convert {w : World} {v : Value} {n : Nat} (h : R.Bt w v (btx n)) : (convert 140 9 v).run Tryz.prog w = .ok (.string (bst n)) w := by
  obtain ⟨A, c, rfl, -, h3⟩ := h
  rw [run_convert_bytes_string w 140 9 5 A _ c Tryz.underlying140 Tryz.underlying5 Tryz.underlying9]
  rcases Nat.eq_zero_or_pos (btx n).length with h0 | h0
  · have hnil := List.eq_nil_of_length_eq_zero h0
    have hb : bst n = ⟨#[]⟩ := by unfold bst; rw [hnil]
    rw [hb, hnil]
    cases A with
    | none => simp [Conv.bytesToString, Sem.run_pure]; rfl
    | some a =>
      rw [run_bytesToString w a _ c [] (by simpa using run_loadCells_list (P := Tryz.prog) (w := w) a [] (fun j v h => by simp at h))]
      rfl
  · obtain ⟨b, o, rfl, hlt, hc, -⟩ := h3 h0
    have := run_loadCells_list (P := Tryz.prog) (w := w) ⟨b, o, none⟩ ((btx n).map fun x => Value.int .u8 ((x.toNat : Nat) : Int)) (fun j v hv => by
      rw [List.getElem?_map] at hv
      obtain ⟨x, hx, rfl⟩ := Option.map_eq_some_iff.1 hv
      obtain ⟨hj, rfl⟩ := List.getElem?_eq_some_iff.1 hx
      have hcj := hc j hj
      unfold Addr.add
      split
      · rename_i hj0; subst hj0; exact hcj
      · exact hcj)
    rw [run_bytesToString w ⟨b, o, none⟩ _ c ((btx n).map fun x => ((x.toNat : Nat) : Int)) (by
      simpa [List.map_map, Function.comp_def] using this), push_all]
    unfold bst
    simp [ByteArray.empty, ByteArray.emptyWithCapacity]
    try rfl
section
variable {ρ : XEnv} {A : List Xs} {h h' : Tr (Blk Wf)} {nx nx' : Nat} {R W : List Nat} {r : Ren} {w : World}
theorem wval_fact {f : Wf} {x : Nxt} {v' : Value} (e : (bind (newFact f) fun v => val v : M Wf Nxt) h nx = .ok x h' nx' R W) (hM : Mod (wSig ρ) r h.get w) (hN : New r nx nx') (hv : f.holds ρ w v') (ho : isOne v' = true) :
    nx ≤ nx' ∧ ∃ v r', x = .val v ∧ VR r' v v' ∧ Ext (wSig ρ) r w nx nx' W h'.get r' w := by
  obtain ⟨v, h0, nx0, R0, W0, R1, W1, e0, e1, rfl, rfl⟩ := bind_ok e
  obtain ⟨rfl, rfl, rfl, rfl⟩ := val_ok e1
  obtain ⟨i, h2, nx2, R2, W2, R3, W3, e2, e3, rfl, rfl⟩ := bind_ok e0
  obtain ⟨rfl, rfl, rfl, rfl⟩ := ret_ok e3
  unfold fresh at e2
  cases e2
  obtain ⟨r', hX, hr⟩ := ext_fact (S := wSig ρ) (f := f) hM (Below.refl _ w) hN hv ho
  exact ⟨Nat.le_succ _, _, r', rfl, .opq hr ho, by simpa using hX.congr fun n => .inr (Tr.get_set _ _ _ _)⟩
theorem quick_nought {op : BinOp} {k : Nat} {t : Bool} {x : Nxt} (ht : t = decide (k = 0)) (e : noughtA op t h nx = .ok x h' nx' R W) :
    h' = h ∧ nx' = nx ∧ W = [] ∧ ∃ v, x = .val v ∧ plain v = true ∧ quickB Tryz.prog op (.int .i64 (k : Int)) (.int .i64 ((0 : Nat) : Int)) = some v := by
  subst ht
  unfold noughtA at e
  cases op <;> first | (cases (show (fail : M Wf Nxt) h nx = _ from e); done) | skip
  all_goals
    obtain ⟨rfl, rfl, rfl, rfl⟩ := val_ok e
    refine ⟨rfl, rfl, rfl, _, rfl, rfl, ?_⟩
    rcases Nat.eq_zero_or_pos k with h0 | h0
    · subst h0; rfl
    · obtain ⟨m, rfl⟩ : ∃ m, k = m + 1 := ⟨k - 1, by omega⟩
      simp [quickB, intO]
      try omega
theorem wHard_ok (hA : AllX ρ A) {C : Cfg Wf} (hC : C.hard = wHard A) : HardOK (wSig ρ) Tryz.prog C := by
  intro o vs h nx x h' nx' R W hs e r w ρo hM hN hv
  rw [hC] at e
  unfold wHard at e
  cases hop : o.op with
  | binOp op t p q yt =>
    rw [hop] at e
    simp only at e
    have hops : o.op.operands.toList.map ρo = [ρo p, ρo q] := by rw [hop]; rfl
    rw [hops] at hv
    rcases vs with _ | ⟨u, _ | ⟨v, _ | ⟨z, l⟩⟩⟩ <;> first | (cases (show (fail : M Wf Nxt) h nx = _ from e); done) | skip
    cases hv with
    | cons hu hv => cases hv with
      | cons hv hn =>
        have e0 : wCmp A op u v h nx = .ok x h' nx' R W := e
        clear e
        unfold wCmp at e0
        cases hk : isZ v with
        | true =>
          rw [hk] at e0
          have hb := isZ_ok hk
          subst hb
          have hb' : ρo q = .int .i64 (0 : Nat) := hv.eq_of_plain rfl
          have e0 : wNought A op u h nx = .ok x h' nx' R W := e0
          unfold wNought at e0
          obtain ⟨f, h1, nx1, R1, W1, R2, W2, e2, e3, rfl, rfl⟩ := bind_ok e0
          obtain ⟨rfl, rfl, rfl, hh⟩ := fact_ok e2 hu hM
          cases f with
          | lp e0 =>
            simp only at e3
            cases ha : askX A 1 e0 x0 with
            | none => rw [ha] at e3; cases (show (fail : M Wf Nxt) _ _ = _ from e3)
            | some t0 =>
              rw [ha] at e3
              simp only at e3
              obtain ⟨k, hkv, hk0⟩ := hh
              have ht : t0 = decide (k = 0) := by
                have := askX_nought hA ha
                rw [← hk0] at this
                cases t0 with
                | true => rw [decide_eq_true (this.1 rfl)]
                | false => rw [decide_eq_false (fun h => by cases this.2 h)]
              obtain ⟨rfl, rfl, rfl, v, rfl, hp, hq⟩ := quick_nought ht e3
              refine ⟨Nat.le_refl _, v, w, r, ?_, .same hp, Ext.refl _ _ hM⟩
              simp only [execOp, hop, hkv, hb']
              rw [Sem.run_bind, quickB_ok hq]
              rfl
          | _ => cases (show (fail : M Wf Nxt) _ _ = _ from e3)
        | false =>
          rw [hk] at e0
          obtain ⟨hk2, e1⟩ := cond_ok (show cond (is512 v) (wLong A op u) fail h nx = _ from e0)
          have hb := is512_ok hk2
          subst hb
          have hb' : ρo q = .int .i64 (512 : Nat) := hv.eq_of_plain rfl
          unfold wLong at e1
          obtain ⟨f, h1, nx1, R1, W1, R2, W2, e2, e3, rfl, rfl⟩ := bind_ok e1
          obtain ⟨rfl, rfl, rfl, hh⟩ := fact_ok e2 hu hM
          cases f with
          | ln e0 =>
            simp only at e3
            cases ha : askX A 4 e0 x0 with
            | none => rw [ha] at e3; cases (show (fail : M Wf Nxt) _ _ = _ from e3)
            | some t0 =>
              rw [ha] at e3
              have hkv : ρo p = .int .i64 (szN (e0.ev ρ.q) : Nat) := hh
              have ht := askX_long hA ha
              generalize szN (e0.ev ρ.q) = k at hkv ht
              have e4 : gtrA op t0 h1 nx1 = .ok x h' nx' R2 W2 := e3
              unfold gtrA at e4
              cases op <;> first | (cases (show (fail : M Wf Nxt) _ _ = _ from e4); done) | skip
              obtain ⟨rfl, rfl, rfl, rfl⟩ := val_ok e4
              refine ⟨Nat.le_refl _, _, w, r, ?_, .same rfl, Ext.refl _ _ hM⟩
              have hd : decide (512 < k) = t0 := by
                cases t0 with
                | true => exact decide_eq_true (ht.1 rfl)
                | false => exact decide_eq_false (fun h => by cases ht.2 h)
              simp only [execOp, hop, hkv, hb']
              rw [Sem.run_bind, quickB_ok (z := .bool t0) (by
                rw [← hd]
                simp [quickB, intO]
                try omega)]
              rfl
          | _ => cases (show (fail : M Wf Nxt) _ _ = _ from e3)
  | call c =>
    rw [hop] at e
    obtain ⟨callee, args, ats⟩ := c
    cases callee with
    | builtin b =>
      simp only at e
      cases b <;> first | (cases (show (fail : M Wf Nxt) h nx = _ from e); done) | skip
      simp only at e
      have hops : o.op.operands.toList.map ρo = args.toList.map ρo := by rw [hop]; simp [Op.operands, Call.operands]
      rw [hops] at hv
      rcases vs with _ | ⟨u, _ | ⟨z, l⟩⟩ <;> first | (cases (show (fail : M Wf Nxt) h nx = _ from e); done) | skip
      generalize hl : args.toList.map ρo = al at hv
      cases hv with
      | cons hu hv =>
        cases hv
        rename_i u'
        have hargs : args.map ρo = #[u'] := by rw [map_list, hl]
        cases hsl : isSl ⟨.builtin .len, args, ats⟩ with
        | true =>
          rw [hsl] at e
          have e1 : wLen u h nx = .ok x h' nx' R W := e
          unfold wLen at e1
          obtain ⟨f, h1, nx1, R1, W1, R2, W2, e2, e3, rfl, rfl⟩ := bind_ok e1
          obtain ⟨rfl, rfl, rfl, hh⟩ := fact_ok e2 hu hM
          cases f with
          | wd e0 =>
            simp only at e3
            obtain ⟨a, k, c, rfl, hk0⟩ := nin_words hh
            obtain ⟨hle, v1, r', rfl, hvr, hX⟩ := wval_fact e3 hM hN (v' := .int .i64 (k : Nat)) ⟨k, rfl, hk0⟩ rfl
            refine ⟨hle, _, w, r', ?_, hvr, by simpa using hX⟩
            unfold isSl at hsl
            cases hq : (ats[0]?).bind (sliceT Tryz.prog) with
            | none => rw [hq] at hsl; cases hsl
            | some e2 =>
              obtain ⟨t, ht, hsl2⟩ := Option.bind_eq_some_iff.1 hq
              have hu := run_underlying (sliceT_of hsl2) w
              simp [execOp, hop, resolve, hargs, invoke, builtin, Builtin.len_, ht, hu, goInt]
          | _ => cases (show (fail : M Wf Nxt) _ _ = _ from e3)
        | false =>
          rw [hsl] at e
          obtain ⟨hst, e1⟩ := cond_ok (show cond (isStrT ⟨.builtin .len, args, ats⟩) (wLenS u) fail h nx = _ from e)
          unfold wLenS at e1
          obtain ⟨f, h1, nx1, R1, W1, R2, W2, e2, e3, rfl, rfl⟩ := bind_ok e1
          obtain ⟨rfl, rfl, rfl, hh⟩ := fact_ok e2 hu hM
          cases f with
          | sx e0 =>
            simp only at e3
            obtain rfl : u' = .string (bst (e0.ev ρ.q)) := hh
            obtain ⟨hle, v1, r', rfl, hvr, hX⟩ := wval_fact (f := .ln e0) e3 hM hN (v' := .int .i64 (szN (e0.ev ρ.q) : Nat)) rfl rfl
            refine ⟨hle, _, w, r', ?_, hvr, by simpa using hX⟩
            unfold isStrT at hst
            cases ht : ats[0]? with
            | none => simp only [ht] at hst; cases hst
            | some t =>
              simp only [ht] at hst
              obtain rfl := Nat.eq_of_beq_eq_true hst
              have hu := run_underlying (P := Tryz.prog) Tryz.underlying9 w
              simp [execOp, hop, resolve, hargs, invoke, builtin, Builtin.len_, ht, hu, goInt, bst_size]
          | _ => cases (show (fail : M Wf Nxt) _ _ = _ from e3)
    | _ => cases (show (fail : M Wf Nxt) h nx = _ from e)
  | convert src dst p =>
    rw [hop] at e
    simp only at e
    have hops : o.op.operands.toList.map ρo = [ρo p] := by rw [hop]; rfl
    rw [hops] at hv
    rcases vs with _ | ⟨u, _ | ⟨z, l⟩⟩ <;> first | (cases (show (fail : M Wf Nxt) h nx = _ from e); done) | skip
    cases hv with
    | cons hu hv =>
      obtain ⟨hk, e1⟩ := cond_ok e
      simp only [Bool.and_eq_true] at hk
      obtain rfl := Nat.eq_of_beq_eq_true hk.1
      obtain rfl := Nat.eq_of_beq_eq_true hk.2
      unfold wStr at e1
      obtain ⟨f, h1, nx1, R1, W1, R2, W2, e2, e3, rfl, rfl⟩ := bind_ok e1
      obtain ⟨rfl, rfl, rfl, hh⟩ := fact_ok e2 hu hM
      cases f with
      | by_ e0 =>
        simp only at e3
        obtain ⟨hle, v1, r', rfl, hvr, hX⟩ := wval_fact (f := .sx e0) e3 hM hN (v' := .string (bst (e0.ev ρ.q))) rfl rfl
        refine ⟨hle, _, w, r', ?_, hvr, by simpa using hX⟩
        simp only [execOp, hop]
        rw [Sem.run_bind, bt_convert (w := w) (v := ρo p) (n := e0.ev ρ.q) hh]
        rfl
      | _ => cases (show (fail : M Wf Nxt) _ _ = _ from e3)
  | _ => rw [hop] at e; cases (show (fail : M Wf Nxt) h nx = _ from e)
end
end Ev
end Go.Proofs.YthjofdfnppadnaaGreatDoor
namespace Go.Proofs.YthjofdfnppadnaaGreatDoor
open Go.RowKit
set_option maxRecDepth 100000 in
set_option maxHeartbeats 4000000 in
theorem exSub_any (w : World) (vx vy : Value) (q r : Rat) (k : Nat) (hx : NumIn w vx q) (hy : NumIn w vy r) (sx : Sm k q) (sy : Sm k r) (hk : k ≤ 10000000) :
    Calls Tryz.prog 72 #[vx, vy] w (Num1 w (q - r)) := by
  have HQ := Lib.hid hx; have HR := Lib.hid hy; have SN := Lib.hid sy.neg
  obtain ⟨A, l, c, A2, l2, c2, rfl, hx1, hx2⟩ := hx.is_agg
  obtain ⟨B, m, d, B2, m2, d2, rfl, hy1, hy2⟩ := hy.is_agg
  have HX := Lib.hid (And.intro hx1 hx2); have HY := Lib.hid (And.intro hy1 hy2)
  have SX := Lib.hid sx; have SY := Lib.hid sy
  have GX := Lib.hid (And.intro (@Big.ng_pos q) (And.intro (@Big.ng_pos r) (And.intro (Big.de_pos q) (Big.de_pos r))))
  rw [Rat.sub_eq_add_neg]
  clear hx hy hx1 hx2 hy1 hy2 sx sy GX HX HY
  generalize Big.ng q = nq at *
  generalize Big.ng r = nr at *
  go_enter Tryz.func72, Tryz.ntmps72
  go_wp2_with fail
  obtain ⟨X0, Y0, R0, B0⟩ := boxed3 w 71 71 (.bool nq) (.slice A l c) (.slice A2 l2 c2) (.bool nr) (.slice B m d) (.slice B2 m2 d2) (.bool false) (.slice none 0 0) (.slice none 0 0)
  have HX0 := Lib.hid X0; have HY0 := Lib.hid Y0; have HR0 := Lib.hid R0; have HB0 := Lib.hid B0
  clear X0 Y0 R0 B0
  generalize ((w.alloc (.cells #[.bool nq, .slice A l c, .slice A2 l2 c2] 71)).alloc (.cells #[.bool nr, .slice B m d, .slice B2 m2 d2] 71)).alloc (.cells #[.bool false, .slice none 0 0, .slice none 0 0] 71) = w0 at *
  have KX := Lib.hid (fun W (h : Below w0.heap.size w0 W) => And.intro (HX0.out.keep h).c0 (And.intro (HX0.out.keep h).c1 (And.intro (HX0.out.keep h).c2 (And.intro (HY0.out.keep h).c0 (And.intro (HY0.out.keep h).c1 (HY0.out.keep h).c2)))))
  have RES := Lib.hid (fun W (h : Below w0.heap.size w0 W) => HR0.out.keep h)
  have C1 := Lib.hid (fun W (h : Below w0.heap.size w0 W) => liftN h (exNeg_any W _ _ ((HR.out.keep HB0.out).keep h)))
  have C2 := Lib.hid (fun W v (hv : NumIn W v (-r)) (h : Below w0.heap.size w0 W) => liftN h (exAdd_any W _ v _ _ k ((HQ.out.keep HB0.out).keep h) hv SX.out SN.out hk))
  have KP := Lib.hid (fun W x y z (h : Below w0.heap.size w0 W) => show ((((W.setCell ⟨w.heap.size + 1 + 1, 0, none⟩ x).setCell ⟨w.heap.size + 1 + 1, 1, none⟩ y).setCell ⟨w.heap.size + 1 + 1, 2, none⟩ z).cell? ⟨w.heap.size, 0, none⟩ = some (.bool nq)) ∧ ((((W.setCell ⟨w.heap.size + 1 + 1, 0, none⟩ x).setCell ⟨w.heap.size + 1 + 1, 1, none⟩ y).setCell ⟨w.heap.size + 1 + 1, 2, none⟩ z).cell? ⟨w.heap.size, 1, none⟩ = some (.slice A l c)) ∧ ((((W.setCell ⟨w.heap.size + 1 + 1, 0, none⟩ x).setCell ⟨w.heap.size + 1 + 1, 1, none⟩ y).setCell ⟨w.heap.size + 1 + 1, 2, none⟩ z).cell? ⟨w.heap.size, 2, none⟩ = some (.slice A2 l2 c2)) ∧ ((((W.setCell ⟨w.heap.size + 1 + 1, 0, none⟩ x).setCell ⟨w.heap.size + 1 + 1, 1, none⟩ y).setCell ⟨w.heap.size + 1 + 1, 2, none⟩ z).cell? ⟨w.heap.size + 1, 0, none⟩ = some (.bool nr)) ∧ ((((W.setCell ⟨w.heap.size + 1 + 1, 0, none⟩ x).setCell ⟨w.heap.size + 1 + 1, 1, none⟩ y).setCell ⟨w.heap.size + 1 + 1, 2, none⟩ z).cell? ⟨w.heap.size + 1, 1, none⟩ = some (.slice B m d)) ∧ ((((W.setCell ⟨w.heap.size + 1 + 1, 0, none⟩ x).setCell ⟨w.heap.size + 1 + 1, 1, none⟩ y).setCell ⟨w.heap.size + 1 + 1, 2, none⟩ z).cell? ⟨w.heap.size + 1, 2, none⟩ = some (.slice B2 m2 d2)) from by exact ⟨put_cell (KX.out W h).1 (by omega) x y z, put_cell (KX.out W h).2.1 (by omega) x y z, put_cell (KX.out W h).2.2.1 (by omega) x y z, put_cell (KX.out W h).2.2.2.1 (by omega) x y z, put_cell (KX.out W h).2.2.2.2.1 (by omega) x y z, put_cell (KX.out W h).2.2.2.2.2 (by omega) x y z⟩)
  go_region_held3 (fun w' => w'.cell? ⟨w.heap.size, 0, none⟩ = some (.bool nq) ∧ w'.cell? ⟨w.heap.size, 1, none⟩ = some (.slice A l c) ∧ w'.cell? ⟨w.heap.size, 2, none⟩ = some (.slice A2 l2 c2) ∧ w'.cell? ⟨w.heap.size + 1, 0, none⟩ = some (.bool nr) ∧ w'.cell? ⟨w.heap.size + 1, 1, none⟩ = some (.slice B m d) ∧ w'.cell? ⟨w.heap.size + 1, 2, none⟩ = some (.slice B2 m2 d2))
    (first | exact KX.out _ (by first | assumption | exact Below.refl _ _ | exact below_drew (Below.refl _ _) | exact below_drew (by assumption)) | exact KP.out _ _ _ _ (by assumption))
    (first
      | (go_at_call 147; (with_reducible refine (C1.out _ (by first | assumption | exact Below.refl _ _ | exact below_drew (Below.refl _ _) | exact below_drew (by assumption))).mono ?_); rintro e w2 ⟨v2, rfl, hv2, hw2, hw2'⟩)
      | (go_at_call 62; (with_reducible refine (C2.out _ _ (by first | exact hv2 | exact hv2.keep (below_drew (Below.refl _ _))) (by first | assumption | exact Below.refl _ _ | exact below_drew (Below.refl _ _) | exact below_drew (by assumption))).mono ?_); rintro e w3 ⟨v3, rfl, hv3, hw3, hw3'⟩; have RR := RES.out _ hw3; have k0 := RR.c0; have k1 := RR.c1; have k2 := RR.c2; have f0 := RR.frozen 0; have f1 := RR.frozen 1; have f2 := RR.frozen 2; obtain ⟨A8, l8, c8, A9, l9, c9, rfl, h8, h9⟩ := hv3.is_agg; have HH := Lib.hid (And.intro h8 h9); clear hv3 h8 h9; obtain ⟨nz, hnz⟩ : ∃ z, Big.ng (q + -r) = z := ⟨_, rfl⟩; rw [hnz]; have HNZ := Lib.hid hnz; clear hnz)
      | fail)
  obtain ⟨D1, D2, D3⟩ := num_done (bb := nz) (show NumRes w3 _ _ from RR) (HB0.out.trans (hw3.mono HB0.out.size)) (by omega) HH.out.1 HH.out.2 HNZ.out.symm
  have HD1 := Lib.hid D1; have HD2 := Lib.hid D2; have HD3 := Lib.hid D3
  clear D1 D2 D3 k0 k1 k2 f0 f1 f2 RR
  generalize (((w3.setCell ⟨w.heap.size + 1 + 1, 0, none⟩ (.bool (nz))).setCell ⟨w.heap.size + 1 + 1, 1, none⟩ (.slice A8 l8 c8)).setCell ⟨w.heap.size + 1 + 1, 2, none⟩ (.slice A9 l9 c9)) = wz at HD1 HD2 HD3 ⊢
  have r0 := HD1.out.c0; have r1 := HD1.out.c1; have r2 := HD1.out.c2
  go_wp2_with fail
  exact bodyPost_ret (v := .agg #[.bool (nz), (.slice A8 l8 c8), (.slice A9 l9 c9)]) (by simp [results, Tryz.results72, go_sem, r0, r1, r2]) rfl ⟨_, rfl, HD2.out, HD3.out⟩
set_option maxRecDepth 100000 in
set_option maxHeartbeats 4000000 in
theorem exQuo_any (w : World) (vx vy : Value) (q r : Rat) (k : Nat) (hx : NumIn w vx q) (hy : NumIn w vy r) (sx : Sm k q) (sy : Sm k r) (hk : k ≤ 10000000) (h0 : Big.nu r ≠ 0) :
    Calls Tryz.prog 76 #[vx, vy] w (Num1 w (q / r)) := by
  have HQ := Lib.hid hx; have SN := Lib.hid (sy.inv h0)
  obtain ⟨A, l, c, A2, l2, c2, rfl, hx1, hx2⟩ := hx.is_agg
  obtain ⟨B, m, d, B2, m2, d2, rfl, hy1, hy2⟩ := hy.is_agg
  have HX := Lib.hid (And.intro hx1 hx2); have HY := Lib.hid (And.intro hy1 hy2)
  have SX := Lib.hid sx; have SY := Lib.hid sy
  have GX := Lib.hid (And.intro (@Big.ng_pos q) (And.intro (@Big.ng_pos r) (And.intro (Big.de_pos q) (Big.de_pos r))))
  rw [Rat.div_def]
  obtain ⟨i1, i2, i3⟩ := Big.inv_parts r h0
  have HI := Lib.hid (show NumIn w (.agg #[.bool (Big.ng r), .slice B2 m2 d2, .slice B m d]) r⁻¹ from ⟨_, _, by rw [i1], by rw [i2]; exact hy2, by rw [i3]; exact hy1⟩)
  have hm0 := hy1.len_zero
  have t0 : ((m : Int) == 0) = false := beq_eq_false_iff_ne.2 (by omega)
  clear hx hy hx1 hx2 hy1 hy2 sx sy GX HX HY i1 i2 i3 hm0 h0
  generalize Big.ng q = nq at *
  generalize Big.ng r = nr at *
  go_enter Tryz.func76, Tryz.ntmps76
  go_wp2_with fail
  obtain ⟨X0, Y0, R0, B0⟩ := boxed3 w 71 71 (.bool nq) (.slice A l c) (.slice A2 l2 c2) (.bool nr) (.slice B m d) (.slice B2 m2 d2) (.bool false) (.slice none 0 0) (.slice none 0 0)
  have HX0 := Lib.hid X0; have HY0 := Lib.hid Y0; have HR0 := Lib.hid R0; have HB0 := Lib.hid B0
  clear X0 Y0 R0 B0
  generalize ((w.alloc (.cells #[.bool nq, .slice A l c, .slice A2 l2 c2] 71)).alloc (.cells #[.bool nr, .slice B m d, .slice B2 m2 d2] 71)).alloc (.cells #[.bool false, .slice none 0 0, .slice none 0 0] 71) = w0 at *
  refine (exMul_any w0 _ _ _ _ k (HQ.out.keep HB0.out) (HI.out.keep HB0.out) SX.out SN.out hk).mono ?_
  rintro e w3 ⟨v3, rfl, hv3, hw3⟩
  have RR := HR0.out.keep hw3
  have k0 := RR.c0; have k1 := RR.c1; have k2 := RR.c2; have f0 := RR.frozen 0; have f1 := RR.frozen 1; have f2 := RR.frozen 2
  obtain ⟨A8, l8, c8, A9, l9, c9, rfl, h8, h9⟩ := hv3.is_agg
  have HH := Lib.hid (And.intro h8 h9)
  have HBF := Lib.hid (HB0.out.trans (hw3.mono HB0.out.size))
  clear hv3 h8 h9 hw3
  obtain ⟨nz, hnz⟩ : ∃ z, Big.ng (q * r⁻¹) = z := ⟨_, rfl⟩
  rw [hnz]
  have HNZ := Lib.hid hnz
  clear hnz
  go_wp2_with fail
  obtain ⟨D1, D2, D3⟩ := num_done (bb := nz) (show NumRes w3 _ _ from RR) HBF.out (by omega) HH.out.1 HH.out.2 HNZ.out.symm
  have HD1 := Lib.hid D1; have HD2 := Lib.hid D2; have HD3 := Lib.hid D3
  clear D1 D2 D3 k0 k1 k2 f0 f1 f2 RR
  generalize (((w3.setCell ⟨w.heap.size + 1 + 1, 0, none⟩ (.bool (nz))).setCell ⟨w.heap.size + 1 + 1, 1, none⟩ (.slice A8 l8 c8)).setCell ⟨w.heap.size + 1 + 1, 2, none⟩ (.slice A9 l9 c9)) = wz at HD1 HD2 HD3 ⊢
  have r0 := HD1.out.c0; have r1 := HD1.out.c1; have r2 := HD1.out.c2
  exact bodyPost_ret (v := .agg #[.bool (nz), (.slice A8 l8 c8), (.slice A9 l9 c9)]) (by simp [results, Tryz.results76, go_sem, r0, r1, r2]) rfl ⟨_, rfl, HD2.out, HD3.out⟩
end Go.Proofs.YthjofdfnppadnaaGreatDoor
namespace Go.Proofs.YthjofdfnppadnaaGreatDoor
open Go.RowKit
def Read1 (w : World) (q : Rat) (e : Ending) (w' : World) : Prop := ∃ v', e = .returned (.tuple #[v', .bool true]) ∧ NumIn w' v' q ∧ Below w.heap.size w w'
theorem bst_ne {n : Nat} (h : n ≠ 0) : ¬ (bst n).toList = [] := by
  rw [ByteArray.toList_eq, bst_list]; intro e
  have h1 := btx_length n
  rw [e] at h1
  have h2 := szN_pos h
  rw [← h1] at h2
  exact absurd h2 (by simp)
theorem bst_ne2 {n : Nat} (h : n ≠ 0) : (bst n).toList.isEmpty = false := by
  rw [Bool.eq_false_iff]; intro e; exact bst_ne h (List.isEmpty_iff.1 e)
set_option maxRecDepth 100000 in
set_option maxHeartbeats 4000000 in
theorem exRead_ok (w : World) (q : Rat) (hf : Fit q) :
    Calls Tryz.prog 120 #[.agg #[.bool (Big.ng q), .string (bst (Big.nu q)), .string (bst (Big.de q))]] w (Read1 w q) := by
  have M1 := Lib.hid (fun W => mayBe_any W (bst (Big.nu q)) (by rw [bst_size]; have := hf.nu; omega))
  have M2 := Lib.hid (fun W => mayBe_any W (bst (Big.de q)) (by rw [bst_size]; have := hf.de; omega))
  rw [mayB_bst hf.nu] at M1
  rw [mayB_bst hf.de] at M2
  have S := Lib.hid hf.sm
  have P := Lib.hid (show NumIn w (.agg #[.bool (Big.ng q), .slice none 0 0, .slice none 0 0]) q → True from fun _ => trivial)
  have F1 := Lib.hid (fun W => fromBytes_num W (Big.nu q) (by have := hf.nu; omega))
  have F2 := Lib.hid (fun W => fromBytes_num W (Big.de q) (by have := hf.de; omega))
  have d1 := bst_ne (n := Big.de q) (by have := Big.de_pos q; omega)
  have d2 := bst_ne2 (n := Big.de q) (by have := Big.de_pos q; omega)
  have n0 : Big.ng q = true → ¬ (bst (Big.nu q)).toList = [] ∧ (bst (Big.nu q)).toList.isEmpty = false := fun h => by
    have h1 := Big.ng_pos h
    exact ⟨bst_ne (by omega), bst_ne2 (by omega)⟩
  obtain ⟨X0, R0, B0⟩ := boxed2 w 23 71 (.bool (Big.ng q)) (.string (bst (Big.nu q))) (.string (bst (Big.de q))) (.bool false) (.slice none 0 0) (.slice none 0 0)
  have HX0 := Lib.hid X0; have HR0 := Lib.hid R0; have HB0 := Lib.hid B0
  have HC := Lib.hid (Big.cop q)
  have HNG := Lib.hid (rfl : Big.ng q = Big.ng q)
  clear hf X0 R0 B0 P HNG
  obtain ⟨nq, hnq⟩ : ∃ z, Big.ng q = z := ⟨_, rfl⟩
  rw [hnq] at n0 HX0 HR0 HB0 ⊢
  have HNQ := Lib.hid hnq
  clear hnq
  have HN0 := Lib.hid n0
  clear n0
  cases nq
  · go_enter Tryz.func120, Tryz.ntmps120
    go_wp2_with fail
    generalize (w.alloc (.cells #[.bool false, .string (bst (Big.nu q)), .string (bst (Big.de q))] 23)).alloc (.cells #[.bool false, .slice none 0 0, .slice none 0 0] 71) = w0 at *
    have x0 := HX0.out.c0; have x1 := HX0.out.c1; have x2 := HX0.out.c2
    go_wp2_with (first
      | (go_at_call 175; with_reducible refine (M1.out _).mono ?_; rintro e w' ⟨rfl, rfl⟩)
      | (go_at_call 175; with_reducible refine (M2.out _).mono ?_; rintro e w' ⟨rfl, rfl⟩))
    clear x0 x1 x2 d1 d2
    have KX := Lib.hid (fun W (h : Below w0.heap.size w0 W) => And.intro (HX0.out.keep h).c1 (HX0.out.keep h).c2)
    have C1 := Lib.hid (fun W (h : Below w0.heap.size w0 W) => lift2 h (F1.out W))
    have C2 := Lib.hid (fun W (h : Below w0.heap.size w0 W) => lift2 h (F2.out W))
    go_region_held3 (fun w' => w'.cell? ⟨w.heap.size, 1, none⟩ = some (.string (bst (Big.nu q))) ∧ w'.cell? ⟨w.heap.size, 2, none⟩ = some (.string (bst (Big.de q))))
      (exact KX.out _ (by first | assumption | exact Below.refl _ _ | exact below_drew (Below.refl _ _) | exact below_drew (by assumption)))
      (first
        | (go_at_call 176; (with_reducible refine (C1.out _ (by first | assumption | exact Below.refl _ _ | exact below_drew (Below.refl _ _) | exact below_drew (by assumption))).mono ?_); rintro e w2 ⟨v2, rfl, hv2, hw2, hw2'⟩)
        | (go_at_call 176; (with_reducible refine (C2.out _ (by first | assumption | exact Below.refl _ _ | exact below_drew (Below.refl _ _) | exact below_drew (by assumption))).mono ?_); rintro e w3 ⟨v3, rfl, hv3, hw3, hw3'⟩)
        | fail)
    have HB3 := Lib.hid (HB0.out.trans (hw3.mono HB0.out.size))
    have HX3 := Lib.hid (HX0.out.keep hw3); have HR3 := Lib.hid (HR0.out.keep hw3)
    have HV := Lib.hid (And.intro (hv2.keep hw3') hv3)
    clear hv2 hv3 hw2 hw2' hw3 hw3' HX0 HR0 HB0 KX C1 C2
    have G := Lib.hid (gcd_num w3 _ _ _ _ 64 64 HV.out.1 HV.out.2 S.out.nu S.out.de (by omega) (by omega))
    rw [HC.out] at G
    go_wp2_with fail
    refine G.out.mono ?_
    rintro e w4 ⟨v4, rfl, hv4, hw4⟩
    have I := Lib.hid (isOne_num w4 v4 1 hv4)
    rw [decide_eq_true rfl] at I
    have HB4 := Lib.hid (HB3.out.trans (hw4.mono HB3.out.size))
    have HX4 := Lib.hid (HX3.out.keep hw4); have HR4 := Lib.hid (HR3.out.keep hw4)
    have HV4 := Lib.hid (And.intro (HV.out.1.keep hw4) (HV.out.2.keep hw4))
    clear hv4 hw4 HB3 HX3 HR3 HV G
    go_wp2_with fail
    refine I.out.mono ?_
    rintro e w' ⟨rfl, rfl⟩
    obtain ⟨A8, l8, c8, rfl, -⟩ := HV4.out.1.is_slice
    obtain ⟨A9, l9, c9, rfl, -⟩ := HV4.out.2.is_slice
    have RR := HR4.out
    have x0 := HX4.out.c0
    have k0 := RR.c0; have k1 := RR.c1; have k2 := RR.c2; have f0 := RR.frozen 0; have f1 := RR.frozen 1; have f2 := RR.frozen 2
    go_wp2_with fail
    obtain ⟨D1, D2, D3⟩ := num_done (bb := false) (show NumRes w4 _ _ from RR) HB4.out (by omega) HV4.out.1 HV4.out.2 HNQ.out.symm
    have HD1 := Lib.hid D1; have HD2 := Lib.hid D2; have HD3 := Lib.hid D3
    clear D1 D2 D3 k0 k1 k2 f0 f1 f2 RR
    generalize (((w4.setCell ⟨w.heap.size + 1, 0, none⟩ (.bool (false))).setCell ⟨w.heap.size + 1, 1, none⟩ (.slice A8 l8 c8)).setCell ⟨w.heap.size + 1, 2, none⟩ (.slice A9 l9 c9)) = wz at HD1 HD2 HD3 ⊢
    have r0 := HD1.out.c0; have r1 := HD1.out.c1; have r2 := HD1.out.c2
    exact bodyPost_ret (v := .tuple #[.agg #[.bool (false), .slice A8 l8 c8, .slice A9 l9 c9], .bool true]) (by simp [results, Tryz.results120, go_sem, r0, r1, r2]) rfl ⟨_, rfl, HD2.out, HD3.out⟩
  · obtain ⟨z1, z2⟩ := HN0.out rfl
    go_enter Tryz.func120, Tryz.ntmps120
    go_wp2_with fail
    generalize (w.alloc (.cells #[.bool true, .string (bst (Big.nu q)), .string (bst (Big.de q))] 23)).alloc (.cells #[.bool false, .slice none 0 0, .slice none 0 0] 71) = w0 at *
    have x0 := HX0.out.c0; have x1 := HX0.out.c1; have x2 := HX0.out.c2
    go_wp2_with (first
      | (go_at_call 175; with_reducible refine (M1.out _).mono ?_; rintro e w' ⟨rfl, rfl⟩)
      | (go_at_call 175; with_reducible refine (M2.out _).mono ?_; rintro e w' ⟨rfl, rfl⟩))
    clear x0 x1 x2 d1 d2
    have KX := Lib.hid (fun W (h : Below w0.heap.size w0 W) => And.intro (HX0.out.keep h).c1 (HX0.out.keep h).c2)
    have C1 := Lib.hid (fun W (h : Below w0.heap.size w0 W) => lift2 h (F1.out W))
    have C2 := Lib.hid (fun W (h : Below w0.heap.size w0 W) => lift2 h (F2.out W))
    go_region_held3 (fun w' => w'.cell? ⟨w.heap.size, 1, none⟩ = some (.string (bst (Big.nu q))) ∧ w'.cell? ⟨w.heap.size, 2, none⟩ = some (.string (bst (Big.de q))))
      (exact KX.out _ (by first | assumption | exact Below.refl _ _ | exact below_drew (Below.refl _ _) | exact below_drew (by assumption)))
      (first
        | (go_at_call 176; (with_reducible refine (C1.out _ (by first | assumption | exact Below.refl _ _ | exact below_drew (Below.refl _ _) | exact below_drew (by assumption))).mono ?_); rintro e w2 ⟨v2, rfl, hv2, hw2, hw2'⟩)
        | (go_at_call 176; (with_reducible refine (C2.out _ (by first | assumption | exact Below.refl _ _ | exact below_drew (Below.refl _ _) | exact below_drew (by assumption))).mono ?_); rintro e w3 ⟨v3, rfl, hv3, hw3, hw3'⟩)
        | fail)
    have HB3 := Lib.hid (HB0.out.trans (hw3.mono HB0.out.size))
    have HX3 := Lib.hid (HX0.out.keep hw3); have HR3 := Lib.hid (HR0.out.keep hw3)
    have HV := Lib.hid (And.intro (hv2.keep hw3') hv3)
    clear hv2 hv3 hw2 hw2' hw3 hw3' HX0 HR0 HB0 KX C1 C2
    have G := Lib.hid (gcd_num w3 _ _ _ _ 64 64 HV.out.1 HV.out.2 S.out.nu S.out.de (by omega) (by omega))
    rw [HC.out] at G
    go_wp2_with fail
    refine G.out.mono ?_
    rintro e w4 ⟨v4, rfl, hv4, hw4⟩
    have I := Lib.hid (isOne_num w4 v4 1 hv4)
    rw [decide_eq_true rfl] at I
    have HB4 := Lib.hid (HB3.out.trans (hw4.mono HB3.out.size))
    have HX4 := Lib.hid (HX3.out.keep hw4); have HR4 := Lib.hid (HR3.out.keep hw4)
    have HV4 := Lib.hid (And.intro (HV.out.1.keep hw4) (HV.out.2.keep hw4))
    clear hv4 hw4 HB3 HX3 HR3 HV G
    go_wp2_with fail
    refine I.out.mono ?_
    rintro e w' ⟨rfl, rfl⟩
    obtain ⟨A8, l8, c8, rfl, -⟩ := HV4.out.1.is_slice
    obtain ⟨A9, l9, c9, rfl, -⟩ := HV4.out.2.is_slice
    have RR := HR4.out
    have x0 := HX4.out.c0
    have k0 := RR.c0; have k1 := RR.c1; have k2 := RR.c2; have f0 := RR.frozen 0; have f1 := RR.frozen 1; have f2 := RR.frozen 2
    go_wp2_with fail
    obtain ⟨D1, D2, D3⟩ := num_done (bb := true) (show NumRes w4 _ _ from RR) HB4.out (by omega) HV4.out.1 HV4.out.2 HNQ.out.symm
    have HD1 := Lib.hid D1; have HD2 := Lib.hid D2; have HD3 := Lib.hid D3
    clear D1 D2 D3 k0 k1 k2 f0 f1 f2 RR
    generalize (((w4.setCell ⟨w.heap.size + 1, 0, none⟩ (.bool (true))).setCell ⟨w.heap.size + 1, 1, none⟩ (.slice A8 l8 c8)).setCell ⟨w.heap.size + 1, 2, none⟩ (.slice A9 l9 c9)) = wz at HD1 HD2 HD3 ⊢
    have r0 := HD1.out.c0; have r1 := HD1.out.c1; have r2 := HD1.out.c2
    exact bodyPost_ret (v := .tuple #[.agg #[.bool (true), .slice A8 l8 c8, .slice A9 l9 c9], .bool true]) (by simp [results, Tryz.results120, go_sem, r0, r1, r2]) rfl ⟨_, rfl, HD2.out, HD3.out⟩
end Go.Proofs.YthjofdfnppadnaaGreatDoor
