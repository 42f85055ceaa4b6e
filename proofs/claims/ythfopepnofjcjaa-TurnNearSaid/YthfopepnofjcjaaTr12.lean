/- Contracts, in this order: Plain arithmetic of numbers written as lists of words, the l · Slices that read as lists of words, in a world: what is kept · A block of the call's own that holds words: made, filled, st · Plain arithmetic: one word of a sum, of a difference, of a p · Plain arithmetic: bytes, the lowest first, in words of eight · Fractions in lowest terms, by their three parts. No program. -/
import Derived.WalkKit
import Derived.Laws.OwnMore
import Derived.Deep.Draws
import Derived.Deep.QuietTactic
import Derived.BigQuiet
import Derived.Lib.Hide
import Derived.Laws.CopyOwn
import Derived.Laws.MakeOwn
import Derived.OwnWalk
namespace Go.Proofs.Ythfopepnofjcjaa
namespace Big
def val (B : Nat) : List Nat → Nat
  | [] => 0
  | d :: l => d + B * val B l
def Ok (B : Nat) (l : List Nat) : Prop := ∀ d ∈ l, d < B
def Norm (l : List Nat) : Prop := l.getLast? ≠ some 0
def nth (l : List Nat) (i : Nat) : Nat := l.getD i 0
def M64 : Nat := 18446744073709551616
theorem M64_eq : M64 = 18446744073709551616 := rfl
theorem M64_pos : 0 < M64 := by unfold M64; omega
def KX : Nat := 1000000000
def KL : Nat := 100000000
theorem KX_eq : KX = 1000000000 := rfl
theorem KL_eq : KL = 100000000 := rfl
theorem KL_le : KL ≤ KX := by unfold KL KX; omega
section
variable {B : Nat}
theorem Ok.nil : Ok B [] := by intro d h; simp at h
theorem Ok.tail {d : Nat} {l : List Nat} (h : Ok B (d :: l)) : Ok B l := fun x hx => h x (by simp [hx])
theorem Ok.head {d : Nat} {l : List Nat} (h : Ok B (d :: l)) : d < B := h d (by simp)
theorem Ok.cons {d : Nat} {l : List Nat} (h : d < B) (k : Ok B l) : Ok B (d :: l) := by
  intro x hx; rcases List.mem_cons.1 hx with rfl | hx
  · exact h
  · exact k x hx
theorem Ok.append {l m : List Nat} (h : Ok B l) (k : Ok B m) : Ok B (l ++ m) := by
  intro x hx; rcases List.mem_append.1 hx with hx | hx
  · exact h x hx
  · exact k x hx
theorem Ok.take {l : List Nat} (h : Ok B l) (n : Nat) : Ok B (l.take n) := fun x hx => h x (List.mem_of_mem_take hx)
theorem Ok.drop {l : List Nat} (h : Ok B l) (n : Nat) : Ok B (l.drop n) := fun x hx => h x (List.mem_of_mem_drop hx)
theorem Ok.nth {l : List Nat} (h : Ok B l) (hB : 0 < B) (i : Nat) : nth l i < B := by
  unfold Big.nth
  rw [List.getD_eq_getElem?_getD]
  cases hi : l[i]? with
  | none => simpa using hB
  | some d => simpa using h d (List.mem_of_getElem? hi)
theorem val_append (l m : List Nat) : val B (l ++ m) = val B l + B ^ l.length * val B m := by
  induction l with
  | nil => simp [val]
  | cons d l ih =>
    simp only [List.cons_append, val, ih, List.length_cons, Nat.pow_succ', Nat.mul_add, Nat.mul_assoc]
    omega
theorem val_lt (l : List Nat) (h : Ok B l) : val B l < B ^ l.length := by
  induction l with
  | nil => simp [val]
  | cons d l ih =>
    have h1 := ih h.tail
    have h2 := h.head
    have h3 : B * (val B l + 1) ≤ B * B ^ l.length := Nat.mul_le_mul_left B h1
    rw [Nat.mul_add] at h3
    simp only [val, List.length_cons, Nat.pow_succ']
    omega
theorem val_replicate (n : Nat) : val B (List.replicate n 0) = 0 := by
  induction n with
  | zero => rfl
  | succ n ih => simp [List.replicate_succ, val, ih]
theorem take_succ (l : List Nat) (k : Nat) (h : k < l.length) : l.take (k + 1) = l.take k ++ [nth l k] := by
  unfold nth
  rw [List.take_succ_eq_append_getElem h, List.getD_eq_getElem?_getD, List.getElem?_eq_getElem h]; rfl
theorem val_take_succ (l : List Nat) (k : Nat) (h : k < l.length) : val B (l.take (k + 1)) = val B (l.take k) + B ^ k * nth l k := by
  rw [take_succ l k h, val_append]
  simp [val, Nat.min_eq_left (Nat.le_of_lt h)]
theorem val_take_all (l : List Nat) (k : Nat) (h : l.length ≤ k) : val B (l.take k) = val B l := by rw [List.take_of_length_le h]
theorem nth_ge (l : List Nat) (k : Nat) (h : l.length ≤ k) : nth l k = 0 := by
  unfold nth
  rw [List.getD_eq_getElem?_getD, List.getElem?_eq_none h]; rfl
theorem val_take_succ' (l : List Nat) (k : Nat) : val B (l.take (k + 1)) = val B (l.take k) + B ^ k * nth l k := by
  rcases Nat.lt_or_ge k l.length with h | h
  · exact val_take_succ l k h
  · rw [val_take_all l _ (by omega), val_take_all l _ h, nth_ge l k h]; simp
theorem val_take_drop (l : List Nat) (k : Nat) (h : k ≤ l.length) : val B l = val B (l.take k) + B ^ k * val B (l.drop k) := by
  conv => lhs; rw [← List.take_append_drop k l]
  rw [val_append, List.length_take, Nat.min_eq_left h]
theorem norm_nil : Norm [] := by simp [Norm]
theorem norm_tail {d : Nat} {l : List Nat} (h : Norm (d :: l)) : Norm l := by
  cases l with
  | nil => exact norm_nil
  | cons e l => simpa [Norm, List.getLast?_cons_cons] using h
theorem norm_ge (l : List Nat) (h : Norm l) (hne : l ≠ []) : B ^ (l.length - 1) ≤ val B l := by
  induction l with
  | nil => exact absurd rfl hne
  | cons d l ih =>
    cases l with
    | nil =>
      have : d ≠ 0 := by intro e; subst e; simp [Norm] at h
      simp [val]; omega
    | cons e l =>
      have h1 := ih (norm_tail h) (by simp)
      have h2 : B * B ^ (l.length) ≤ B * val B (e :: l) := Nat.mul_le_mul_left B (by simpa using h1)
      simp only [val, List.length_cons] at *
      rw [show l.length + 1 + 1 - 1 = l.length + 1 by omega, Nat.pow_succ']
      omega
theorem norm_pos (hB : 0 < B) (l : List Nat) (h : Norm l) (hne : l ≠ []) : 0 < val B l :=
  Nat.lt_of_lt_of_le (Nat.pow_pos hB) (norm_ge l h hne)
theorem norm_zero (hB : 0 < B) (l : List Nat) (h : Norm l) (h0 : val B l = 0) : l = [] := by
  cases l with
  | nil => rfl
  | cons d l => have := norm_pos hB _ h (by simp); omega
theorem val_inj (hB : 0 < B) : ∀ (l m : List Nat), Ok B l → Ok B m → Norm l → Norm m → val B l = val B m → l = m
  | [], m, _, _, _, nm, h => (norm_zero hB m nm (by simpa [val] using h.symm)).symm
  | d :: l, [], _, _, nl, _, h => by have := norm_pos hB _ nl (by simp); simp only [val] at h this; omega
  | d :: l, e :: m, ol, om, nl, nm, h => by
    have h1 := ol.head; have h2 := om.head
    simp only [val] at h
    have hd : d = e := by
      have a := congrArg (· % B) h
      simpa [Nat.add_mul_mod_self_left, Nat.mod_eq_of_lt h1, Nat.mod_eq_of_lt h2] using a
    subst hd
    have hv : val B l = val B m := Nat.eq_of_mul_eq_mul_left hB (by omega)
    rw [val_inj hB l m ol.tail om.tail (norm_tail nl) (norm_tail nm) hv]
theorem lt_of_length (hB : 0 < B) {l m : List Nat} (ol : Ok B l) (nm : Norm m) (h : l.length < m.length) : val B l < val B m := by
  have h1 := val_lt l ol
  have h2 := norm_ge (B := B) m nm (by intro e; subst e; simp at h)
  have h3 : B ^ l.length ≤ B ^ (m.length - 1) := Nat.pow_le_pow_right hB (by omega)
  omega
theorem length_le (hB : 0 < B) {l m : List Nat} (nl : Norm l) (om : Ok B m) (h : val B l ≤ val B m) : l.length ≤ m.length := by
  rcases Nat.lt_or_ge m.length l.length with hlt | hge
  · have := lt_of_length hB om nl hlt; omega
  · exact hge
def strip : List Nat → List Nat
  | [] => []
  | d :: l => match strip l with
    | [] => if d = 0 then [] else [d]
    | e :: m => d :: e :: m
theorem strip_val (l : List Nat) : val B (strip l) = val B l := by
  induction l with
  | nil => rfl
  | cons d l ih =>
    simp only [strip]
    split
    · rename_i h; rw [h] at ih; simp only [val] at ih ⊢
      split <;> simp_all [val, ← ih]
    · rename_i e m h; rw [h] at ih; simp only [val] at ih ⊢; rw [ih]
theorem strip_norm (l : List Nat) : Norm (strip l) := by
  induction l with
  | nil => exact norm_nil
  | cons d l ih =>
    simp only [strip]
    split
    · split
      · exact norm_nil
      · rename_i h; simpa [Norm] using h
    · rename_i e m h; rw [h] at ih; simpa [Norm, List.getLast?_cons_cons] using ih
theorem strip_of_norm (l : List Nat) (h : Norm l) : strip l = l := by
  induction l with
  | nil => rfl
  | cons d l ih =>
    simp only [strip, ih (norm_tail h)]
    cases l with
    | nil => have : d ≠ 0 := by intro e; subst e; simp [Norm] at h
             simp [this]
    | cons e m => rfl
theorem strip_ok {l : List Nat} (h : Ok B l) : Ok B (strip l) := by
  induction l with
  | nil => exact h
  | cons d l ih =>
    have hi := ih h.tail
    simp only [strip]
    split
    · split
      · exact Ok.nil
      · exact Ok.cons h.head Ok.nil
    · rename_i e m he; rw [he] at hi; exact Ok.cons h.head hi
theorem strip_take_self (l : List Nat) : strip l = l.take (strip l).length := by
  induction l with
  | nil => rfl
  | cons d l ih =>
    simp only [strip]
    split
    · split
      · rfl
      · simp
    · rename_i e m he; rw [he] at ih; simp only [List.length_cons, List.take_succ_cons] at ih ⊢
      rw [← ih]
theorem strip_len (l : List Nat) : (strip l).length ≤ l.length := by
  have := congrArg List.length (strip_take_self l)
  rw [List.length_take] at this
  omega
theorem strip_snoc_zero (l : List Nat) : strip (l ++ [0]) = strip l := by
  induction l with
  | nil => rfl
  | cons d l ih => simp only [List.cons_append, strip, ih]
theorem strip_take (l : List Nat) (n : Nat) (h : n < l.length) (h0 : nth l n = 0) : strip (l.take (n + 1)) = strip (l.take n) := by
  rw [take_succ l n h, h0, strip_snoc_zero]
theorem strip_take_ne (l : List Nat) (n : Nat) (h : n < l.length) (h0 : nth l n ≠ 0) : strip (l.take (n + 1)) = l.take (n + 1) := by
  apply strip_of_norm
  rw [take_succ l n h]
  simpa [Norm] using h0
def ordI (b : Bool) : Int := if b then -1 else 1
def cmpI (a b : Nat) : Int := if a < b then -1 else if a = b then 0 else 1
theorem cmpI_lt {a b : Nat} (h : a < b) : cmpI a b = -1 := by simp [cmpI, h]
theorem cmpI_gt {a b : Nat} (h : b < a) : cmpI a b = 1 := by
  unfold cmpI; rw [if_neg (by omega), if_neg (by omega)]
theorem cmpI_eq (a : Nat) : cmpI a a = 0 := by simp [cmpI]
theorem val_split (l : List Nat) (k : Nat) (h : k < l.length) : val B l = val B (l.take k) + B ^ k * nth l k + B ^ (k + 1) * val B (l.drop (k + 1)) := by
  rw [val_take_drop l (k + 1) (by omega), val_take_succ l k h]
theorem lt_at {l m : List Nat} {k : Nat} (hl : k < l.length) (hm : k < m.length) (ol : Ok B l) (hd : l.drop (k + 1) = m.drop (k + 1)) (h : nth l k < nth m k) : val B l < val B m := by
  rw [val_split l k hl, val_split m k hm, hd]
  have h1 := val_lt (l.take k) (ol.take k)
  rw [List.length_take, Nat.min_eq_left (by omega)] at h1
  have h2 : B ^ k * (nth l k + 1) ≤ B ^ k * nth m k := Nat.mul_le_mul_left _ h
  rw [Nat.mul_add] at h2
  omega
theorem drop_cons (l : List Nat) (k : Nat) (h : k < l.length) : l.drop k = nth l k :: l.drop (k + 1) := by
  rw [List.drop_eq_getElem_cons h]; unfold nth
  rw [List.getD_eq_getElem?_getD, List.getElem?_eq_getElem h]; rfl
end
end Big
end Go.Proofs.Ythfopepnofjcjaa
namespace Go.Proofs.Ythfopepnofjcjaa
open Go.RowKit
def Ty (w : World) (b : Nat) : Prop := ∃ cs, w.heap[b]? = some (.cells cs 63 (0, 0))
theorem Ty.same {w w' : World} {b : Nat} (h : Ty w b) (e : w'.heap[b]? = w.heap[b]?) : Ty w' b := by
  obtain ⟨cs, hc⟩ := h; exact ⟨cs, e.trans hc⟩
def Wd (w : World) (k : IntKind) (v : Value) (l : List Nat) : Prop :=
  ∃ A c, v = .slice A l.length c ∧ l.length ≤ c ∧ c ≤ 1152921504606846976 ∧
    (0 < l.length → ∃ b o, A = some ⟨b, o, none⟩ ∧ b < w.heap.size ∧ (∀ i, i < l.length → w.cell? ⟨b, o + i, none⟩ = some (.int k ((Big.nth l i : Nat) : Int))) ∧ Ty w b)
theorem Wd.keep {w w' : World} {k : IntKind} {v : Value} {l : List Nat} (h : Wd w k v l) (hb : Below w.heap.size w w') : Wd w' k v l := by
  obtain ⟨A, c, rfl, h1, h2, h3⟩ := h
  refine ⟨A, c, rfl, h1, h2, fun hl => ?_⟩
  obtain ⟨b, o, rfl, hlt, hc, hty⟩ := h3 hl
  exact ⟨b, o, rfl, Nat.lt_of_lt_of_le hlt hb.size, fun i hi => (hb.cell (p := ⟨b, o + i, none⟩) hlt).trans (hc i hi), hty.same (hb.block b hlt)⟩
theorem Wd.nil_ (w : World) (k : IntKind) : Wd w k (.slice none 0 0) [] := ⟨none, 0, rfl, Nat.le_refl _, by omega, fun h => absurd h (by simp)⟩
def Drew (w w' : World) : Prop := ∃ n, w' = w.drewN n
theorem Drew.refl (w : World) : Drew w w := ⟨0, rfl⟩
theorem Drew.drewN {a w : World} (h : Drew a w) (n : Nat) : Drew a (w.drewN n) := by
  obtain ⟨m, rfl⟩ := h; exact ⟨m + n, by rw [World.drewN_drewN]⟩
theorem Drew.trans {a b c : World} (h : Drew a b) (k : Drew b c) : Drew a c := by
  obtain ⟨n, rfl⟩ := k; exact h.drewN n
theorem Drew.cell {w w' : World} (h : Drew w w') (p : Addr) : w'.cell? p = w.cell? p := by obtain ⟨n, rfl⟩ := h; rfl
theorem Drew.frozen {w w' : World} (h : Drew w w') (p : Addr) : w'.frozen? p = w.frozen? p := by obtain ⟨n, rfl⟩ := h; rfl
theorem Drew.heap {w w' : World} (h : Drew w w') : w'.heap = w.heap := by obtain ⟨n, rfl⟩ := h; rfl
theorem Drew.below {w w' : World} (h : Drew w w') (B : Nat) : Below B w w' := by obtain ⟨n, rfl⟩ := h; exact ⟨rfl, rfl, rfl, Nat.le_refl _, fun _ _ => rfl⟩
theorem quiet_same {P : Program} {f : FuncId} {args : Array Value} {w : World} {n : Nat} {v : Value}
    (h : Calls P f args (w.drewN n) fun e w' => e = .returned v ∧ w.drewN n = w') : Calls P f args (w.drewN n) fun e w'' => e = .returned v ∧ ∃ m, w'' = w.drewN m :=
  h.mono fun _ _ ⟨he, hm⟩ => ⟨he, n, hm.symm⟩
theorem still_same {P : Program} {f : FuncId} {args : Array Value} {w : World} {v : Value}
    (h : Calls P f args w fun e w' => e = .returned v ∧ w = w') : Calls P f args w fun e w'' => e = .returned v ∧ w'' = w := h.mono fun _ _ ⟨he, hm⟩ => ⟨he, hm.symm⟩
theorem below_drewN {B : Nat} {a w : World} (h : Below B a w) (n : Nat) : Below B a (w.drewN n) := ⟨h.os, h.tape, h.output, h.size, h.block⟩
theorem ret_bool {a b : Bool} (h : a = b) : Ending.returned (.bool a) = .returned (.bool b) := by rw [h]
theorem ret_int {k : IntKind} {a b : Int} (h : a = b) : Ending.returned (.int k a) = .returned (.int k b) := by rw [h]
theorem Wd.drew {w w' : World} {k : IntKind} {v : Value} {l : List Nat} (h : Wd w k v l) (hb : Drew w w') : Wd w' k v l := h.keep (hb.below _)
def WdB (B : Nat) (w : World) (k : IntKind) (v : Value) (l : List Nat) : Prop :=
  ∃ A c, v = .slice A l.length c ∧ l.length ≤ c ∧ c ≤ 1152921504606846976 ∧
    (0 < l.length → ∃ b o, A = some ⟨b, o, none⟩ ∧ b < B ∧ (∀ i, i < l.length → w.cell? ⟨b, o + i, none⟩ = some (.int k ((Big.nth l i : Nat) : Int))) ∧ Ty w b)
theorem WdB.wd {B : Nat} {w : World} {k : IntKind} {v : Value} {l : List Nat} (h : WdB B w k v l) (hB : B ≤ w.heap.size) : Wd w k v l := by
  obtain ⟨A, c, rfl, h1, h2, h3⟩ := h
  refine ⟨A, c, rfl, h1, h2, fun hp => ?_⟩
  obtain ⟨b, o, e, hb, hc, hty⟩ := h3 hp
  exact ⟨b, o, e, Nat.lt_of_lt_of_le hb hB, hc, hty⟩
theorem Wd.wdB {w : World} {k : IntKind} {v : Value} {l : List Nat} (h : Wd w k v l) : WdB w.heap.size w k v l := h
theorem WdB.more {B B' : Nat} {w : World} {k : IntKind} {v : Value} {l : List Nat} (h : WdB B w k v l) (hB : B ≤ B') : WdB B' w k v l := by
  obtain ⟨A, c, rfl, h1, h2, h3⟩ := h
  refine ⟨A, c, rfl, h1, h2, fun hp => ?_⟩
  obtain ⟨b, o, e, hb, hc, hty⟩ := h3 hp
  exact ⟨b, o, e, Nat.lt_of_lt_of_le hb hB, hc, hty⟩
theorem WdB.keep {B : Nat} {w w' : World} {k : IntKind} {v : Value} {l : List Nat} (h : WdB B w k v l) (hk : ∀ b, b < B → w'.heap[b]? = w.heap[b]?) : WdB B w' k v l := by
  obtain ⟨A, c, rfl, h1, h2, h3⟩ := h
  refine ⟨A, c, rfl, h1, h2, fun hp => ?_⟩
  obtain ⟨b, o, e, hb, hc, hty⟩ := h3 hp
  exact ⟨b, o, e, hb, fun i hi => (World.cell?_of_block (hk b hb)).trans (hc i hi), hty.same (hk b hb)⟩
theorem WdB.below {B : Nat} {w w' : World} {k : IntKind} {v : Value} {l : List Nat} (h : WdB B w k v l) (hb : Below B w w') : WdB B w' k v l :=
  h.keep fun b hlt => hb.block b hlt
def Only (g : Nat) (w w' : World) : Prop := w.grownBy w' (some g)
theorem Only.refl (g : Nat) (w : World) : Only g w w := ⟨rfl, rfl, rfl, Nat.le_refl _, fun _ _ _ => rfl⟩
theorem Only.cell {g : Nat} {w w' : World} (h : Only g w w') {b o : Nat} (hb : b < w.heap.size) (hne : b ≠ g) : w'.cell? ⟨b, o, none⟩ = w.cell? ⟨b, o, none⟩ :=
  World.cell?_of_block (h.block b hb (by intro e; injection e with e; exact hne e))
theorem Only.drewN {g : Nat} {w w' : World} (h : Only g w w') (n : Nat) : Only g w (w'.drewN n) := ⟨h.os, h.tape, h.output, h.size, h.block⟩
theorem Only.drew {g : Nat} {w w' : World} (h : Only g w w') : Only g w w'.drew := ⟨h.os, h.tape, h.output, h.size, h.block⟩
theorem Only.setCell {g : Nat} {w w' : World} (h : Only g w w') (i : Nat) (u : Value) : Only g w (w'.setCell ⟨g, i, none⟩ u) :=
  ⟨h.os, h.tape, h.output, by simpa [World.setCell] using h.size, fun j hj hne => (Below.heap_setCell w' ⟨g, i, none⟩ u j (by intro e; exact hne (by rw [e]))).trans (h.block j hj hne)⟩
theorem Only.wdB {g B : Nat} {w w' : World} (h : Only g w w') (hBg : B ≤ g) (hB : B ≤ w.heap.size) {k : IntKind} {v : Value} {l : List Nat} (hw : WdB B w k v l) : WdB B w' k v l :=
  hw.keep fun b hb => h.block b (Nat.lt_of_lt_of_le hb hB) (by intro e; injection e with e; omega)
theorem Only.below {g B : Nat} {w0 w w' : World} (h : Only g w w') (hb : Below B w0 w) (hBg : B ≤ g) (hB : B ≤ w.heap.size) : Below B w0 w' :=
  hb.grown h hB (fun k hk => by injection hk with hk; omega)
theorem Only.trans {g : Nat} {a b c : World} (h : Only g a b) (k : Only g b c) : Only g a c :=
  ⟨k.os.trans h.os, k.tape.trans h.tape, k.output.trans h.output, Nat.le_trans h.size k.size, fun j hj hne => (k.block j (Nat.lt_of_lt_of_le hj h.size) hne).trans (h.block j hj hne)⟩
theorem Only.of_below {g : Nat} {w w' : World} (h : Below w.heap.size w w') : Only g w w' := ⟨h.os, h.tape, h.output, h.size, fun j hj _ => h.block j hj⟩
def NatIn (w : World) (v : Value) (n : Nat) : Prop := ∃ l, Wd w .u64 v l ∧ Big.Ok Big.M64 l ∧ Big.Norm l ∧ Big.val Big.M64 l = n
theorem NatIn.keep {w w' : World} {v : Value} {n : Nat} (h : NatIn w v n) (hb : Below w.heap.size w w') : NatIn w' v n := by
  obtain ⟨l, h1, h2⟩ := h; exact ⟨l, h1.keep hb, h2⟩
theorem NatIn.drew {w w' : World} {v : Value} {n : Nat} (h : NatIn w v n) (hb : Drew w w') : NatIn w' v n := h.keep (hb.below _)
theorem NatIn.nil_ (w : World) : NatIn w (.slice none 0 0) 0 := ⟨[], Wd.nil_ _ _, Big.Ok.nil, Big.norm_nil, rfl⟩
theorem len_of_lt {l : List Nat} {K : Nat} (nl : Big.Norm l) (h : Big.val Big.M64 l < Big.M64 ^ K) : l.length ≤ K := by
  rcases Nat.lt_or_ge K l.length with hlt | hge
  · have h1 := Big.norm_ge (B := Big.M64) l nl (by intro e; subst e; simp at hlt)
    have h2 : Big.M64 ^ K ≤ Big.M64 ^ (l.length - 1) := Nat.pow_le_pow_right Big.M64_pos (by omega)
    omega
  · exact hge
theorem Wd.new {w : World} {k : IntKind} {g : Nat} {l : List Nat} {cs : Array Value} (n c : Nat) (hn : n = l.length) (hc : l.length ≤ c) (hc2 : c ≤ 1152921504606846976)
    (hb : w.heap[g]? = some (.cells cs 63 (0, 0))) (h : ∀ i, i < l.length → cs[i]? = some (.int k ((Big.nth l i : Nat) : Int))) : Wd w k (.slice (some ⟨g, 0, none⟩) n c) l := by
  subst hn
  refine ⟨_, c, rfl, hc, hc2, fun _ => ⟨g, 0, rfl, ?_, fun i hi => ?_, cs, hb⟩⟩
  · rcases Nat.lt_or_ge g w.heap.size with h1 | h1
    · exact h1
    · rw [Array.getElem?_eq_none h1] at hb; cases hb
  · rw [Nat.zero_add, cell_of_row w g i cs 63 (0, 0) hb]; exact h i hi
theorem Wd.cut {w : World} {k : IntKind} {A : Option Addr} {l : List Nat} {c n : Nat} (h : Wd w k (.slice A l.length c) l) (hn : n ≤ l.length) : Wd w k (.slice A n c) (l.take n) := by
  obtain ⟨A', c', e, h1, h2, h3⟩ := h
  cases e
  have hl : (l.take n).length = n := by rw [List.length_take, Nat.min_eq_left hn]
  refine ⟨A, c, by rw [hl], by omega, h2, fun hp => ?_⟩
  obtain ⟨b, o, rfl, hlt, hc, hty⟩ := h3 (by omega)
  refine ⟨b, o, rfl, hlt, fun i hi => ?_, hty⟩
  rw [hc i (by omega)]
  unfold Big.nth
  rw [List.getD_eq_getElem?_getD, List.getD_eq_getElem?_getD, List.getElem?_take_of_lt (by omega)]
end Go.Proofs.Ythfopepnofjcjaa
namespace Go.Proofs.Ythfopepnofjcjaa
open Go.RowKit
def cellsOf (k : IntKind) (l : List Nat) : Array Value := (l.map fun d => Value.int k ((d : Nat) : Int)).toArray
theorem cellsOf_get (k : IntKind) (l : List Nat) (i : Nat) (h : i < l.length) : (cellsOf k l)[i]? = some (.int k ((Big.nth l i : Nat) : Int)) := by
  simp [cellsOf, h, Big.nth]
theorem cellsOf_set (k : IntKind) (l : List Nat) (i x : Nat) : (cellsOf k l).setIfInBounds i (.int k ((x : Nat) : Int)) = cellsOf k (l.set i x) := by
  simp [cellsOf, List.map_set]
theorem cellsOf_toList (k : IntKind) (l : List Nat) : (cellsOf k l).toList = l.map fun d => Value.int k ((d : Nat) : Int) := by simp [cellsOf]
theorem cellsOf_zero (k : IntKind) (n : Nat) : madeCells #[.int k 0] n = cellsOf k (List.replicate n 0) := by
  apply Array.ext'
  rw [toList_madeCells_one, cellsOf_toList]; simp
def Blk (w : World) (g : Nat) (t : TypeId) (k : IntKind) (l : List Nat) : Prop := w.heap[g]? = some (.cells (cellsOf k l) t (0, 0))
section
variable {w w' : World} {g : Nat} {t : TypeId} {k : IntKind} {l : List Nat}
theorem Blk.lt (h : Blk w g t k l) : g < w.heap.size := by
  rcases Nat.lt_or_ge g w.heap.size with h1 | h1
  · exact h1
  · unfold Blk at h; rw [Array.getElem?_eq_none h1] at h; cases h
theorem Blk.cell (h : Blk w g t k l) (i : Nat) (hi : i < l.length) : w.cell? ⟨g, i, none⟩ = some (.int k ((Big.nth l i : Nat) : Int)) := by
  rw [cell_of_row w g i _ t (0, 0) h]; exact cellsOf_get k l i hi
theorem Blk.frozen (h : Blk w g t k l) (i : Nat) : w.frozen? ⟨g, i, none⟩ = false := frozen_of_row w g i _ t h
theorem Blk.new (w : World) (t : TypeId) (k : IntKind) (l : List Nat) : Blk (w.alloc (.cells (cellsOf k l) t)) w.heap.size t k l := heap_alloc_new w _
theorem Blk.set (h : Blk w g t k l) (i x : Nat) : Blk (w.setCell ⟨g, i, none⟩ (.int k ((x : Nat) : Int))) g t k (l.set i x) := by
  unfold Blk
  rw [heap_setCell_same w g i _ t _ h, cellsOf_set]
theorem Blk.alloc' (h : Blk w g t k l) (o : Obj) : Blk (w.alloc o) g t k l := (Below.heap_alloc w o g h.lt).trans h
theorem Blk.drewN (h : Blk w g t k l) (n : Nat) : Blk (w.drewN n) g t k l := h
theorem Blk.drew (h : Blk w g t k l) (hd : Drew w w') : Blk w' g t k l := by unfold Blk; rw [hd.heap]; exact h
theorem Blk.below (h : Blk w g t k l) (hb : Below w.heap.size w w') : Blk w' g t k l := (hb.block g h.lt).trans h
theorem Blk.far (h : Blk w g t k l) {p : Addr} (hp : g ≠ p.block) (u : Value) : Blk (w.setCell p u) g t k l := (heap_setCell_other w p g u hp).trans h
theorem Blk.wd (h : Blk w g 63 k l) (o n c : Nat) (hn : o + n ≤ l.length) (hc : n ≤ c) (hc2 : c ≤ 1152921504606846976) : Wd w k (.slice (some ⟨g, o, none⟩) n c) ((l.drop o).take n) := by
  have hl : ((l.drop o).take n).length = n := by rw [List.length_take, List.length_drop]; omega
  refine ⟨_, c, by rw [hl], by omega, hc2, fun _ => ⟨g, o, rfl, h.lt, fun i hi => ?_, _, h⟩⟩
  rw [h.cell (o + i) (by omega)]
  unfold Big.nth
  rw [List.getD_eq_getElem?_getD, List.getD_eq_getElem?_getD, List.getElem?_take_of_lt (by omega), List.getElem?_drop]
theorem Blk.wd0 (h : Blk w g 63 k l) (c : Nat) (hc : l.length ≤ c) (hc2 : c ≤ 1152921504606846976) : Wd w k (.slice (some ⟨g, 0, none⟩) l.length c) l := by
  have := h.wd 0 l.length c (by omega) hc hc2
  simpa using this
end
theorem set_at (zs r : List Nat) (k x : Nat) (h : zs.length = k) : (zs ++ r).set k x = zs ++ r.set 0 x := by
  rw [List.set_append_right k x (by omega), h, Nat.sub_self]
theorem set_drop (zs l : List Nat) (k x : Nat) (h : zs.length = k) (hk : k < l.length) : (zs ++ l.drop k).set k x = (zs ++ [x]) ++ l.drop (k + 1) := by
  rw [set_at zs _ k x h, Big.drop_cons l k hk]; simp
theorem make_words {P : Program} {t e : TypeId} {i : TypeInfo} {k : IntKind} (ht : P.underlying t = some (.slice e)) (hi : P.info? e = some i) (hz : i.zero = some (.int k 0)) (hs : i.size = 1) (hb : i.bytes ≤ 8)
    (kl kc : IntKind) (n c : Nat) (hnc : n ≤ c) (hn : c ≤ 2000000000000) (w : World) :
    (Instr.makeSlice t (.int kl ((n : Nat) : Int)) (.int kc ((c : Nat) : Int))).run P w = .ok (.slice (some ⟨w.heap.size, 0, none⟩) n c) (w.alloc (.cells (cellsOf k (List.replicate c 0)) e)) := by
  have hbb : (i.bytes : Int) * (c : Int) ≤ 281474976710656 := by
    have h : i.bytes * c ≤ 8 * c := Nat.mul_le_mul_right c hb
    have h2 : ((i.bytes * c : Nat) : Int) ≤ 281474976710656 := by omega
    rwa [Int.natCast_mul] at h2
  have hr := run_make (P := P) w t e i _ ht hi hz kl kc n c (by omega) (by omega) hbb (by omega)
  simp only [Int.toNat_natCast, hs, Nat.mul_one] at hr
  rw [hr]
  show Result.ok _ (w.alloc (.cells (madeCells #[.int k 0] c) e)) = _
  rw [cellsOf_zero]
theorem splice_words (k : IntKind) (cur xs : List Nat) : splice (cellsOf k cur).toList 0 (xs.map fun d => Value.int k ((d : Nat) : Int)) = (cellsOf k (xs ++ cur.drop xs.length)).toList := by
  simp [splice, cellsOf_toList, List.map_drop]
theorem wpList_copy_words {P : Program} {w : World} {ops : Array Oper} {rest : List Oper} {o : Oper} {a : Act} {Q : Exit → Act → World → Prop} (hgd : o.guard = none) (d s : Operand) (dT sT : TypeId)
    (ho : o.op = .call { callee := .builtin .copy, args := #[d, s], argTypes := #[dT, sT] }) (elem : TypeId) (hu : P.underlying dT = some (.slice elem)) (hsz : (P.info? elem).map (·.size) = some 1)
    (g t : Nat) (k : IntKind) (cur xs : List Nat) (dLen dCap : Nat) (A : Option Addr) (c : Nat) (hd : a.eval d = .slice (some ⟨g, 0, none⟩) dLen dCap) (hs : a.eval s = .slice A xs.length c)
    (hr : Wd w k (.slice A xs.length c) xs) (hb : Blk w g t k cur) (hn : xs.length ≤ dLen) (hfit : dLen ≤ cur.length) (B : Nat) (w0 : World) (hB : Below B w0 w) (hBg : B ≤ g)
    (h : ∀ w', Blk w' g t k (xs ++ cur.drop xs.length) → Below B w0 w' → wpList P ops Q rest (a.put o.dst (goInt xs.length)) w') :
    wpList P ops Q (o :: rest) a w := by
  have hlen : (xs.map fun d => Value.int k ((d : Nat) : Int)).length = xs.length := by simp
  refine wpList_copy_splice hgd d s dT sT ho elem hu hsz _ _ dLen dCap xs.length c hd hs g 0 (cellsOf k cur).toList t (by rw [Array.toArray_toList]; exact hb) (xs.map fun d => Value.int k ((d : Nat) : Int))
    (by rw [hlen]; exact (Nat.min_eq_left hn).symm) (fun hp => ⟨rfl, ?_⟩) (by rw [hlen, cellsOf_toList]; simp; omega) (by intro v hv; simp at hv; obtain ⟨_, _, rfl⟩ := hv; rfl) B w0 hB hBg ?_
  · obtain ⟨A', c', e, h1, h2, h3⟩ := hr
    cases e
    obtain ⟨b, o', rfl, hlt, hc, -⟩ := h3 (by simpa using hp)
    refine ⟨_, rfl, fun j v hv => ?_⟩
    have hj : j < xs.length := by
      rcases Nat.lt_or_ge j xs.length with h | h
      · exact h
      · rw [List.getElem?_eq_none (by simpa using h)] at hv; cases hv
    rw [List.getElem?_map, List.getElem?_eq_getElem hj] at hv
    have := hc j hj
    unfold Big.nth at this
    rw [List.getD_eq_getElem?_getD, List.getElem?_eq_getElem hj] at this
    simp at hv
    rw [← hv]
    unfold Addr.add
    split
    · rename_i h0; subst h0; simpa using this
    · simpa using this
  · intro w' hh hbel
    have hh' := hh.out
    rw [splice_words] at hh'
    rw [hlen]
    exact h w' (by unfold Blk; rw [Array.toArray_toList] at hh'; exact hh') hbel
end Go.Proofs.Ythfopepnofjcjaa
namespace Go.Proofs.Ythfopepnofjcjaa
namespace Big
section
variable {B : Nat}
theorem val_snoc (zs : List Nat) (s : Nat) : val B (zs ++ [s]) = val B zs + B ^ zs.length * s := by
  rw [val_append]; simp [val]
theorem add_step {zs : List Nat} {k o o' s x y X Y : Nat} (hl : zs.length = k) (h : val B zs + B ^ k * o = X + Y) (hs : x + y + o = s + B * o') :
    val B (zs ++ [s]) + B ^ (k + 1) * o' = (X + B ^ k * x) + (Y + B ^ k * y) := by
  subst hl
  rw [val_snoc, Nat.pow_succ, Nat.mul_assoc]
  have e : B ^ zs.length * (x + y + o) = B ^ zs.length * (s + B * o') := by rw [hs]
  simp only [Nat.mul_add] at e
  omega
theorem sub_step {zs : List Nat} {k o o' s x y X Y : Nat} (hl : zs.length = k) (h : val B zs + Y = X + B ^ k * o) (hs : x + B * o' = s + y + o) :
    val B (zs ++ [s]) + (Y + B ^ k * y) = (X + B ^ k * x) + B ^ (k + 1) * o' := by
  subst hl
  rw [val_snoc, Nat.pow_succ, Nat.mul_assoc]
  have e : B ^ zs.length * (x + B * o') = B ^ zs.length * (s + y + o) := by rw [hs]
  simp only [Nat.mul_add] at e
  omega
theorem mul_step {zs : List Nat} {k o o' s z v w Z Y : Nat} (hl : zs.length = k) (h : val B zs + B ^ k * o = Z + Y * w) (hs : z + v * w + o = s + B * o') :
    val B (zs ++ [s]) + B ^ (k + 1) * o' = (Z + B ^ k * z) + (Y + B ^ k * v) * w := by
  subst hl
  rw [val_snoc, Nat.pow_succ, Nat.mul_assoc]
  have e : B ^ zs.length * (z + v * w + o) = B ^ zs.length * (s + B * o') := by rw [hs]
  simp only [Nat.mul_add, Nat.add_mul] at e ⊢
  rw [Nat.mul_assoc (B ^ zs.length) v w]
  omega
theorem mulsub_step {zs : List Nat} {k o o' l l' s x v w t X Y : Nat} (hl : zs.length = k)
    (h : val B zs + Y * w = X + B ^ k * o + B ^ k * l) (h1 : v * w + o = t + B * o') (h2 : x + B * l' = s + t + l) :
    val B (zs ++ [s]) + (Y + B ^ k * v) * w = (X + B ^ k * x) + B ^ (k + 1) * o' + B ^ (k + 1) * l' := by
  subst hl
  rw [val_snoc, Nat.pow_succ, Nat.mul_assoc, Nat.mul_assoc]
  have e1 : B ^ zs.length * (v * w + o) = B ^ zs.length * (t + B * o') := by rw [h1]
  have e2 : B ^ zs.length * (x + B * l') = B ^ zs.length * (s + t + l) := by rw [h2]
  simp only [Nat.mul_add, Nat.add_mul] at e1 e2 ⊢
  rw [Nat.mul_assoc (B ^ zs.length) v w]
  omega
end
theorem guess_ge {P X Y q xx xl yy yl : Nat} (hX : X = xx * P + xl) (hxl : xl < P) (hY : Y = yy * P + yl) (h : q * Y ≤ X) : q * yy ≤ xx := by
  have h1 : q * (yy * P) ≤ q * Y := Nat.mul_le_mul_left q (by omega)
  have h2 : q * yy * P < (xx + 1) * P := by rw [Nat.mul_assoc, Nat.add_mul]; omega
  have := Nat.lt_of_mul_lt_mul_right h2
  omega
theorem guess_div {P X Y q xx xl yy yl : Nat} (hX : X = xx * P + xl) (hxl : xl < P) (hY : Y = yy * P + yl) (h : q * Y ≤ X) (hyy : 0 < yy) : q ≤ xx / yy :=
  (Nat.le_div_iff_mul_le hyy).2 (guess_ge hX hxl hY h)
end Big
end Go.Proofs.Ythfopepnofjcjaa
namespace Go.Proofs.Ythfopepnofjcjaa
namespace Big
theorem val_take_drop' {B : Nat} (l : List Nat) (k : Nat) : val B l = val B (l.take k) + B ^ k * val B (l.drop k) := by
  rcases Nat.lt_or_ge l.length k with h | h
  · rw [List.take_of_length_le (by omega), List.drop_eq_nil_of_le (by omega)]; simp [val]
  · exact val_take_drop l k h
theorem nth_cons_zero (d : Nat) (l : List Nat) : nth (d :: l) 0 = d := rfl
theorem nth_cons_succ (d : Nat) (l : List Nat) (j : Nat) : nth (d :: l) (j + 1) = nth l j := rfl
theorem nth_set (l : List Nat) (i j x : Nat) : nth (l.set i x) j = if i = j ∧ j < l.length then x else nth l j := by
  unfold nth
  rw [List.getD_eq_getElem?_getD, List.getD_eq_getElem?_getD, List.getElem?_set]
  by_cases h : i = j
  · subst h
    by_cases h2 : i < l.length <;> simp [h2]
  · simp [h]
theorem nth_replicate (n i : Nat) : nth (List.replicate n 0) i = 0 := by
  unfold nth
  rw [List.getD_eq_getElem?_getD, List.getElem?_replicate]
  split <;> rfl
theorem regroup {b k C : Nat} (hC : C = b ^ k) (X R : List Nat) (hl : R.length ≤ k * X.length) (h : ∀ j, j < X.length → nth X j = val b ((R.drop (k * j)).take k)) : val C X = val b R := by
  induction X generalizing R with
  | nil => obtain rfl : R = [] := List.eq_nil_of_length_eq_zero (by simpa using hl); rfl
  | cons x X ih =>
    have h0 := h 0 (by simp)
    rw [nth_cons_zero, Nat.mul_zero, List.drop_zero] at h0
    rw [val_take_drop' R k]
    simp only [val, h0, hC]
    congr 2
    rw [← hC]
    apply ih
    · simp only [List.length_cons, Nat.mul_add, List.length_drop] at hl ⊢; omega
    · intro j hj
      have := h (j + 1) (by simpa using hj)
      rw [nth_cons_succ] at this
      rw [this, List.drop_drop]
      congr 3
      rw [Nat.mul_add]; omega
theorem byte_step {k : Nat} (hk : 0 < k) {b : Nat} {X R : List Nat} {q r : Nat} (hr : r < k) (hi : k * q + r < R.length) (hq : q < X.length)
    (h : ∀ j, j < X.length → nth X j = val b (((R.take (k * q + r)).drop (k * j)).take k)) :
    ∀ j, j < (X.set q (nth X q + b ^ r * nth R (k * q + r))).length → nth (X.set q (nth X q + b ^ r * nth R (k * q + r))) j = val b (((R.take (k * q + r + 1)).drop (k * j)).take k) := by
  intro j hj
  simp only [List.length_set] at hj
  rw [nth_set]
  by_cases e : q = j
  · subst e
    rw [if_pos ⟨rfl, hq⟩, h q hq]
    have e1 : (R.take (k * q + r + 1)).drop (k * q) = (R.take (k * q + r)).drop (k * q) ++ [nth R (k * q + r)] := by
      rw [take_succ R _ hi, List.drop_append_of_le_length (by simp; omega)]
    have l1 : ((R.take (k * q + r)).drop (k * q)).length = r := by simp; omega
    have a1 : List.take k ((R.take (k * q + r)).drop (k * q)) = (R.take (k * q + r)).drop (k * q) := List.take_of_length_le (by omega)
    have a2 : List.take k ((R.take (k * q + r)).drop (k * q) ++ [nth R (k * q + r)]) = (R.take (k * q + r)).drop (k * q) ++ [nth R (k * q + r)] := List.take_of_length_le (by rw [List.length_append, l1]; simp; omega)
    rw [e1, a1, a2, val_snoc, l1]
  · rw [if_neg (by intro h; exact e h.1), h j hj]
    rcases Nat.lt_or_ge j q with hlt | hge
    · have e2 : k * (j + 1) ≤ k * q := Nat.mul_le_mul_left k hlt
      rw [Nat.mul_add, Nat.mul_one] at e2
      rw [List.drop_take, List.drop_take, List.take_take, List.take_take, Nat.min_eq_left (by omega), Nat.min_eq_left (by omega)]
    · have e2 : k * (q + 1) ≤ k * j := Nat.mul_le_mul_left k (by omega)
      rw [Nat.mul_add, Nat.mul_one] at e2
      rw [List.drop_eq_nil_of_le (by simp; omega), List.drop_eq_nil_of_le (by simp; omega)]
def rev (l : List UInt8) : List Nat := l.reverse.map (·.toNat)
def bnum (l : List UInt8) : Nat := val 256 (rev l)
theorem rev_length (l : List UInt8) : (rev l).length = l.length := by simp [rev]
theorem rev_ok (l : List UInt8) : Ok 256 (rev l) := by
  intro d hd
  simp [rev] at hd
  obtain ⟨a, _, rfl⟩ := hd
  exact a.toNat_lt
theorem rev_nth (l : List UInt8) (i : Nat) (h : i < l.length) : nth (rev l) i = (l[l.length - 1 - i]'(by omega)).toNat := by
  unfold nth rev
  rw [List.getD_eq_getElem?_getD, List.getElem?_map, List.getElem?_reverse h, List.getElem?_eq_getElem (by omega)]
  rfl
theorem pow256 (r : Nat) : 256 ^ r = 2 ^ (r * 8) := by rw [Nat.mul_comm, Nat.pow_mul]
theorem M64_pow : M64 = 256 ^ 8 := by unfold M64; decide
theorem or_byte {x r b : Nat} (hx : x < 256 ^ r) : x ||| b * 2 ^ (r * 8) = x + 256 ^ r * b := by
  rw [pow256] at *
  rw [Nat.or_comm, ← Nat.shiftLeft_eq, ← Nat.shiftLeft_add_eq_or_of_lt hx, Nat.shiftLeft_eq]
  rw [Nat.mul_comm b]; omega
theorem byte_bound {b r : Nat} (hb : b < 256) (hr : r < 8) : b * 2 ^ (r * 8) < 18446744073709551616 := by
  have h1 : 2 ^ (r * 8) ≤ 2 ^ 56 := Nat.pow_le_pow_right (by omega) (by omega)
  have h2 : b * 2 ^ (r * 8) ≤ 255 * 2 ^ 56 := Nat.mul_le_mul (by omega) h1
  omega
def IsSize (n s : Nat) : Prop := n < 256 ^ s ∧ (0 < s → 256 ^ (s - 1) ≤ n)
theorem isSize_zero : IsSize 0 0 := ⟨by simp, fun h => absurd h (by omega)⟩
theorem isSize_top {l : List Nat} {t b : Nat} (hl : Ok M64 l) (ht : t < 2 ^ b) (ht2 : 2 ^ (b - 1) ≤ t) (hb : 1 ≤ b) (hb2 : b ≤ 64) :
    IsSize (val M64 (l ++ [t])) (8 * l.length + 8 - (64 - b) / 8) := by
  have h1 := val_lt l hl
  rw [M64_pow, ← Nat.pow_mul] at h1
  have hM : M64 ^ l.length = 256 ^ (8 * l.length) := by rw [M64_pow, ← Nat.pow_mul]
  rw [M64_pow] at *
  obtain ⟨d, hd⟩ : ∃ d, d = (64 - b) / 8 := ⟨_, rfl⟩
  have e1 : 8 * l.length + 8 - (64 - b) / 8 = 8 * l.length + (8 - d) := by omega
  have hp : t < 256 ^ (8 - d) := by
    refine Nat.lt_of_lt_of_le ht ?_
    rw [pow256]
    exact Nat.pow_le_pow_right (by omega) (by omega)
  have hq : 256 ^ (8 - d - 1) ≤ t := by
    refine Nat.le_trans ?_ ht2
    rw [pow256]
    exact Nat.pow_le_pow_right (by omega) (by omega)
  rw [e1]
  refine ⟨?_, fun _ => ?_⟩
  · rw [val_snoc, hM, Nat.pow_add]
    have : 256 ^ (8 * l.length) * (t + 1) ≤ 256 ^ (8 * l.length) * 256 ^ (8 - d) := Nat.mul_le_mul_left _ hp
    rw [Nat.mul_add] at this
    omega
  · rw [val_snoc, hM, show 8 * l.length + (8 - d) - 1 = 8 * l.length + (8 - d - 1) by omega, Nat.pow_add]
    have := Nat.mul_le_mul_left (256 ^ (8 * l.length)) hq
    omega
theorem isSize_unique {n s t : Nat} (h : IsSize n s) (k : IsSize n t) : s = t := by
  rcases Nat.lt_trichotomy s t with hlt | he | hgt
  · have h1 := k.2 (by omega)
    have h2 : 256 ^ s ≤ 256 ^ (t - 1) := Nat.pow_le_pow_right (by omega) (by omega)
    have := h.1; omega
  · exact he
  · have h1 := h.2 (by omega)
    have h2 : 256 ^ t ≤ 256 ^ (s - 1) := Nat.pow_le_pow_right (by omega) (by omega)
    have := k.1; omega
theorem nth_div {B : Nat} (hB : 0 < B) (l : List Nat) (h : Ok B l) (q : Nat) : nth l q = val B l / B ^ q % B := by
  induction l generalizing q with
  | nil => simp [nth, val]
  | cons d l ih =>
    have hd := h.head
    cases q with
    | zero => rw [nth_cons_zero]; simp [val, Nat.mod_eq_of_lt hd]
    | succ q =>
      rw [nth_cons_succ, ih h.tail]
      simp only [val]
      rw [Nat.pow_succ', ← Nat.div_div_eq_div_mul, Nat.add_mul_div_left _ _ hB, Nat.div_eq_of_lt hd, Nat.zero_add]
theorem byte_div (n q r : Nat) (hr : r < 8) : n / M64 ^ q % M64 / 2 ^ (r * 8) % 256 = n / 256 ^ (8 * q + r) % 256 := by
  rw [← pow256, M64_pow, ← Nat.pow_mul, Nat.pow_add, ← Nat.div_div_eq_div_mul]
  generalize n / 256 ^ (8 * q) = m
  have e : 256 ^ 8 = 256 ^ r * 256 ^ (8 - r) := by rw [← Nat.pow_add]; congr 1; omega
  rw [e, Nat.mod_mul_right_div_self]
  have e2 : 256 ^ (8 - r) = 256 * 256 ^ (8 - r - 1) := by rw [← Nat.pow_succ']; congr 1; omega
  rw [e2, Nat.mod_mul_right_mod]
def bd (n k : Nat) : List Nat := (List.range k).map fun j => n / 256 ^ j % 256
theorem bd_length (n k : Nat) : (bd n k).length = k := by simp [bd]
theorem bd_succ (n k : Nat) : bd n (k + 1) = bd n k ++ [n / 256 ^ k % 256] := by simp [bd, List.range_succ]
theorem bd_ok (n k : Nat) : Ok 256 (bd n k) := by
  intro d hd; simp [bd] at hd; obtain ⟨j, _, rfl⟩ := hd; exact Nat.mod_lt _ (by omega)
theorem bd_set (n k s : Nat) (h : k < s) : (List.replicate (s - k) 0 ++ (bd n k).reverse).set (s - 1 - k) (n / 256 ^ k % 256) = List.replicate (s - (k + 1)) 0 ++ (bd n (k + 1)).reverse := by
  have e : s - k = (s - (k + 1)) + 1 := by omega
  rw [e, List.replicate_succ', List.append_assoc, List.set_append_right _ _ (by simp; omega)]
  simp only [List.length_replicate]
  rw [show s - 1 - k - (s - (k + 1)) = 0 by omega, bd_succ]
  simp
def btext (n k : Nat) : List UInt8 := (bd n k).reverse.map UInt8.ofNat
theorem btext_length (n k : Nat) : (btext n k).length = k := by simp [btext, bd_length]
theorem btext_get (n k j : Nat) (hj : j < (btext n k).length) : nth (bd n k).reverse j = (btext n k)[j].toNat := by
  have hj' : j < (bd n k).reverse.length := by simpa [btext_length, bd_length] using hj
  have h1 : nth (bd n k).reverse j = (bd n k).reverse[j] := by unfold nth; rw [List.getD_eq_getElem?_getD, List.getElem?_eq_getElem hj']; rfl
  have h2 := bd_ok n k _ (List.mem_reverse.1 (List.getElem_mem hj'))
  have h3 : (btext n k)[j] = UInt8.ofNat (bd n k).reverse[j] := List.getElem_map ..
  rw [h1, h3]
  generalize (bd n k).reverse[j] = x at *
  have h4 : (UInt8.ofNat x).toNat = x % 256 := by simp
  rw [h4, Nat.mod_eq_of_lt h2]
end Big
end Go.Proofs.Ythfopepnofjcjaa
namespace Go.Proofs.Ythfopepnofjcjaa.Big
def ng (q : Rat) : Bool := decide (q.num < 0)
def nu (q : Rat) : Nat := q.num.natAbs
def de (q : Rat) : Nat := q.den
def sI (b : Bool) (n : Nat) : Int := if b then -(n : Int) else (n : Int)
theorem sI_true (n : Nat) : sI true n = -(n : Int) := rfl
theorem sI_false (n : Nat) : sI false n = (n : Int) := rfl
theorem sI_abs (b : Bool) (n : Nat) : (sI b n).natAbs = n := by cases b <;> simp [sI]
theorem sI_mul (b : Bool) (n m : Nat) : sI b (n * m) = sI b n * (m : Int) := by cases b <;> simp [sI, Int.neg_mul]
theorem num_eq (q : Rat) : q.num = sI (ng q) (nu q) := by
  unfold ng nu sI
  by_cases h : q.num < 0
  · rw [if_pos (decide_eq_true h)]; omega
  · rw [if_neg (by simpa using h)]; omega
theorem de_pos (q : Rat) : 1 ≤ de q := Nat.pos_of_ne_zero q.den_nz
theorem cop (q : Rat) : Nat.gcd (nu q) (de q) = 1 := q.reduced
theorem sI_neg {b : Bool} {n : Nat} (h : b = true → 1 ≤ n) : decide (sI b n < 0) = b := by
  cases b with
  | true => have := h rfl; rw [sI_true]; exact decide_eq_true (by omega)
  | false => rw [sI_false]; exact decide_eq_false (by omega)
theorem parts {b : Bool} {n d : Nat} (hd : 1 ≤ d) (hc : Nat.gcd n d = 1) (hs : b = true → 1 ≤ n) {N : Int} {D : Nat} (hD : D ≠ 0) (h : sI b n * (D : Int) = N * (d : Int)) {q : Rat} (hq : q = mkRat N D) :
    ng q = b ∧ nu q = n ∧ de q = d := by
  have hd0 : d ≠ 0 := by omega
  have e : q = (⟨sI b n, d, hd0, by rw [sI_abs]; exact hc⟩ : Rat) := by
    rw [Rat.mk_eq_mkRat, hq, Rat.mkRat_eq_iff hD hd0, h]
  rw [e]
  exact ⟨sI_neg hs, sI_abs b n, rfl⟩
theorem parts_of (q : Rat) (b : Bool) (n d : Nat) (h : ng q = b ∧ nu q = n ∧ de q = d) : q = mkRat (sI b n) d := by
  obtain ⟨rfl, rfl, rfl⟩ := h
  rw [← num_eq]; exact (Rat.mkRat_self q).symm
theorem is_mk (q : Rat) : q = mkRat (sI (ng q) (nu q)) (de q) := parts_of q _ _ _ ⟨rfl, rfl, rfl⟩
theorem gcd_pos_right {n d : Nat} (h : 1 ≤ d) : 1 ≤ Nat.gcd n d := Nat.gcd_pos_of_pos_right _ h
theorem cop_div {a b c d : Nat} (h : Nat.gcd a b = 1) (hc : c ∣ a) (hd : d ∣ b) : Nat.gcd c d = 1 := by
  refine Nat.dvd_one.1 ?_
  rw [← h]
  exact Nat.dvd_gcd (Nat.dvd_trans (Nat.gcd_dvd_left _ _) hc) (Nat.dvd_trans (Nat.gcd_dvd_right _ _) hd)
theorem of_parts (b : Bool) (n d : Nat) (hd : 1 ≤ d) :
    ng (mkRat (sI b n) d) = (b && decide (0 < n / Nat.gcd n d)) ∧ nu (mkRat (sI b n) d) = n / Nat.gcd n d ∧ de (mkRat (sI b n) d) = d / Nat.gcd n d := by
  have hg := gcd_pos_right (n := n) hd
  have e1 := Nat.div_mul_cancel (Nat.gcd_dvd_left n d)
  have e2 := Nat.div_mul_cancel (Nat.gcd_dvd_right n d)
  refine parts ?_ (Nat.gcd_div_gcd_div_gcd_of_pos_right hd) ?_ (show d ≠ 0 by omega) ?_ rfl
  · exact Nat.div_pos (Nat.le_of_dvd hd (Nat.gcd_dvd_right _ _)) hg
  · intro h
    rw [Bool.and_eq_true] at h
    exact of_decide_eq_true h.2
  · generalize Nat.gcd n d = g at *
    generalize n / g = n' at *
    generalize d / g = d' at *
    subst e1 e2
    cases b
    · simp [sI]; grind
    · by_cases h0 : 0 < n'
      · simp [sI, h0]; grind
      · have : n' = 0 := by omega
        subst this; simp [sI]
theorem mul_parts (q r : Rat) :
    ng (q * r) = ((ng q != ng r) && decide (0 < nu q / Nat.gcd (nu q) (de r) * (nu r / Nat.gcd (nu r) (de q)))) ∧
    nu (q * r) = nu q / Nat.gcd (nu q) (de r) * (nu r / Nat.gcd (nu r) (de q)) ∧
    de (q * r) = de q / Nat.gcd (nu r) (de q) * (de r / Nat.gcd (nu q) (de r)) := by
  have hq := de_pos q
  have hr := de_pos r
  have cq := cop q
  have cr := cop r
  have eq : q * r = mkRat (sI (ng q) (nu q) * sI (ng r) (nu r)) (de q * de r) := by
    rw [Rat.mul_def', num_eq q, num_eq r]; rfl
  generalize nu q = n at *
  generalize de q = d at *
  generalize nu r = m at *
  generalize de r = e at *
  generalize ng q = b at *
  generalize ng r = c at *
  have g1 := gcd_pos_right (n := n) hr
  have g2 := gcd_pos_right (n := m) hq
  have a1 := Nat.div_mul_cancel (Nat.gcd_dvd_left n e)
  have a2 := Nat.div_mul_cancel (Nat.gcd_dvd_right n e)
  have a3 := Nat.div_mul_cancel (Nat.gcd_dvd_left m d)
  have a4 := Nat.div_mul_cancel (Nat.gcd_dvd_right m d)
  have c1 : Nat.gcd (n / Nat.gcd n e) (e / Nat.gcd n e) = 1 := Nat.gcd_div_gcd_div_gcd_of_pos_right hr
  have c2 : Nat.gcd (m / Nat.gcd m d) (d / Nat.gcd m d) = 1 := Nat.gcd_div_gcd_div_gcd_of_pos_right hq
  have p1 : 1 ≤ d / Nat.gcd m d := Nat.div_pos (Nat.le_of_dvd hq (Nat.gcd_dvd_right _ _)) g2
  have p2 : 1 ≤ e / Nat.gcd n e := Nat.div_pos (Nat.le_of_dvd hr (Nat.gcd_dvd_right _ _)) g1
  generalize Nat.gcd n e = g at *
  generalize Nat.gcd m d = k at *
  generalize n / g = n' at *
  generalize e / g = e' at *
  generalize m / k = m' at *
  generalize d / k = d' at *
  refine parts (Nat.mul_pos p1 p2) ?_ ?_ (Nat.ne_of_gt (Nat.mul_pos hq hr)) ?_ eq
  · have x1 : Nat.Coprime n' d' := cop_div cq ⟨g, a1.symm⟩ ⟨k, a4.symm⟩
    have x2 : Nat.Coprime n' e' := c1
    have x3 : Nat.Coprime m' d' := c2
    have x4 : Nat.Coprime m' e' := cop_div cr ⟨k, a3.symm⟩ ⟨g, a2.symm⟩
    exact (Nat.Coprime.mul_right x1 x2).mul_left (Nat.Coprime.mul_right x3 x4)
  · intro h
    rw [Bool.and_eq_true] at h
    exact of_decide_eq_true h.2
  · clear c1 c2 cq cr eq p1 p2
    subst a1 a2 a3 a4
    by_cases h0 : 0 < n' * m'
    · rw [decide_eq_true h0, Bool.and_true]
      cases b <;> cases c <;> simp [sI] <;> grind
    · have h1 : n' * m' = 0 := by omega
      have h2 : n' = 0 ∨ m' = 0 := Nat.mul_eq_zero.1 h1
      rw [h1]
      rcases h2 with h2 | h2 <;> subst h2 <;> simp [sI]
theorem add_parts (q r : Rat) (s L R : Nat) (S : Int) (hs : s = Nat.gcd (de q) (de r)) (hL : L = de q / s) (hR : R = de r / s) (hS : S = sI (ng q) (nu q * R) + sI (ng r) (nu r * L)) :
    ng (q + r) = decide (S < 0) ∧ nu (q + r) = S.natAbs / Nat.gcd S.natAbs s ∧ de (q + r) = L * (de r / Nat.gcd S.natAbs s) := by
  have hq := de_pos q
  have hr := de_pos r
  have cq := cop q
  have cr := cop r
  have eq : q + r = mkRat (sI (ng q) (nu q) * de r + sI (ng r) (nu r) * de q) (de q * de r) := by
    rw [Rat.add_def', num_eq q, num_eq r]; rfl
  rw [sI_mul, sI_mul] at hS
  have kq : (sI (ng q) (nu q)).natAbs = nu q := sI_abs _ _
  have kr : (sI (ng r) (nu r)).natAbs = nu r := sI_abs _ _
  generalize nu q = n at *
  generalize de q = d at *
  generalize nu r = m at *
  generalize de r = e at *
  generalize sI (ng q) n = x at *
  generalize sI (ng r) m = y at *
  have hs1 : 1 ≤ s := by rw [hs]; exact gcd_pos_right hr
  have e1 : L * s = d := by rw [hL, hs]; exact Nat.div_mul_cancel (Nat.gcd_dvd_left _ _)
  have e2 : R * s = e := by rw [hR, hs]; exact Nat.div_mul_cancel (Nat.gcd_dvd_right _ _)
  have cLR : Nat.gcd L R = 1 := by rw [hL, hR, hs]; exact Nat.gcd_div_gcd_div_gcd_of_pos_right hr
  have hL1 : 1 ≤ L := by rcases Nat.eq_zero_or_pos L with h | h
                         · rw [h] at e1; omega
                         · exact h
  have hR1 : 1 ≤ R := by rcases Nat.eq_zero_or_pos R with h | h
                         · rw [h] at e2; omega
                         · exact h
  clear hL hR hs
  -- what goes into the sum and into L, or into R, is 1
  have oL : Nat.gcd S.natAbs L = 1 := by
    have hg1 : (Nat.gcd S.natAbs L) ∣ S.natAbs := Nat.gcd_dvd_left _ _
    have hg2 : (Nat.gcd S.natAbs L) ∣ L := Nat.gcd_dvd_right _ _
    generalize Nat.gcd S.natAbs L = g at *
    have h1 : (g : Int) ∣ S := Int.ofNat_dvd_left.2 hg1
    have h2 : (g : Int) ∣ y * (L : Int) := Int.dvd_trans (Int.natCast_dvd_natCast.2 hg2) (Int.dvd_mul_left _ _)
    have h3 : (g : Int) ∣ x * (R : Int) := by
      have : x * (R : Int) = S - y * (L : Int) := by rw [hS]; omega
      rw [this]; exact Int.dvd_sub h1 h2
    have h4 : g ∣ n * R := by
      have := Int.ofNat_dvd_left.1 h3
      rwa [Int.natAbs_mul, kq, Int.natAbs_natCast] at this
    have c1 : Nat.Coprime g n := Nat.Coprime.symm (cop_div cq (Nat.dvd_refl _) (Nat.dvd_trans hg2 ⟨s, e1.symm⟩))
    have c2 : Nat.Coprime g R := cop_div cLR hg2 (Nat.dvd_refl _)
    exact Nat.Coprime.eq_one_of_dvd (Nat.Coprime.mul_right c1 c2) h4
  have oR : Nat.gcd S.natAbs R = 1 := by
    have hg1 : (Nat.gcd S.natAbs R) ∣ S.natAbs := Nat.gcd_dvd_left _ _
    have hg2 : (Nat.gcd S.natAbs R) ∣ R := Nat.gcd_dvd_right _ _
    generalize Nat.gcd S.natAbs R = g at *
    have h1 : (g : Int) ∣ S := Int.ofNat_dvd_left.2 hg1
    have h2 : (g : Int) ∣ x * (R : Int) := Int.dvd_trans (Int.natCast_dvd_natCast.2 hg2) (Int.dvd_mul_left _ _)
    have h3 : (g : Int) ∣ y * (L : Int) := by
      have : y * (L : Int) = S - x * (R : Int) := by rw [hS]; omega
      rw [this]; exact Int.dvd_sub h1 h2
    have h4 : g ∣ m * L := by
      have := Int.ofNat_dvd_left.1 h3
      rwa [Int.natAbs_mul, kr, Int.natAbs_natCast] at this
    have c1 : Nat.Coprime g m := Nat.Coprime.symm (cop_div cr (Nat.dvd_refl _) (Nat.dvd_trans hg2 ⟨s, e2.symm⟩))
    have c2 : Nat.Coprime g L := Nat.Coprime.symm (cop_div cLR (Nat.dvd_refl _) hg2)
    exact Nat.Coprime.eq_one_of_dvd (Nat.Coprime.mul_right c1 c2) h4
  have hcs : Nat.gcd S.natAbs s ∣ s := Nat.gcd_dvd_right _ _
  have hcS : Nat.gcd S.natAbs s ∣ S.natAbs := Nat.gcd_dvd_left _ _
  have c3 : Nat.gcd (S.natAbs / Nat.gcd S.natAbs s) (s / Nat.gcd S.natAbs s) = 1 := Nat.gcd_div_gcd_div_gcd_of_pos_right hs1
  have hc1 : 1 ≤ Nat.gcd S.natAbs s := gcd_pos_right hs1
  have e3 := Nat.div_mul_cancel hcs
  have e4 := Nat.div_mul_cancel hcS
  have e5 : e / Nat.gcd S.natAbs s = R * (s / Nat.gcd S.natAbs s) := by rw [← e2, Nat.mul_div_assoc _ hcs]
  have hsc : 1 ≤ s / Nat.gcd S.natAbs s := Nat.div_pos (Nat.le_of_dvd hs1 hcs) hc1
  rw [e5]
  generalize Nat.gcd S.natAbs s = c at *
  have eS : S = sI (decide (S < 0)) S.natAbs := by
    unfold sI
    by_cases h : S < 0
    · rw [if_pos (decide_eq_true h)]; omega
    · rw [if_neg (by simpa using h)]; omega
  refine parts (Nat.mul_pos hL1 (Nat.mul_pos hR1 hsc)) ?_ ?_ (Nat.ne_of_gt (Nat.mul_pos hq hr)) ?_ eq
  · have d1 : S.natAbs / c ∣ S.natAbs := ⟨c, e4.symm⟩
    have x1 : Nat.Coprime (S.natAbs / c) L := cop_div oL d1 (Nat.dvd_refl _)
    have x2 : Nat.Coprime (S.natAbs / c) R := cop_div oR d1 (Nat.dvd_refl _)
    exact Nat.Coprime.mul_right x1 (Nat.Coprime.mul_right x2 c3)
  · intro h
    have h0 := of_decide_eq_true h
    rcases Nat.eq_zero_or_pos (S.natAbs / c) with h1 | h1
    · rw [h1] at e4; omega
    · exact h1
  · have e6 : sI (decide (S < 0)) (S.natAbs / c) * (c : Int) = x * (R : Int) + y * (L : Int) := by
      rw [← sI_mul, e4, ← eS, hS]
    generalize sI (decide (S < 0)) (S.natAbs / c) = z at *
    generalize s / c = t at *
    rw [← e1, ← e2, ← e3]
    simp only [Int.natCast_mul]
    grind
theorem neg_parts (q : Rat) : ng (-q) = (!ng q && decide (0 < nu q)) ∧ nu (-q) = nu q ∧ de (-q) = de q := by
  unfold ng nu de
  rw [Rat.neg_num, Rat.neg_den]
  refine ⟨?_, by omega, rfl⟩
  by_cases h : q.num < 0
  · rw [decide_eq_true h, decide_eq_false (by omega)]; rfl
  · rw [decide_eq_false h]
    by_cases h0 : q.num = 0
    · rw [h0]; rfl
    · rw [decide_eq_true (by omega), decide_eq_true (by omega)]; rfl
theorem nu_zero {q : Rat} : nu q = 0 ↔ q = 0 := by
  unfold nu
  rw [Int.natAbs_eq_zero]; exact Rat.num_eq_zero
theorem inv_parts (q : Rat) (h : nu q ≠ 0) : ng q⁻¹ = ng q ∧ nu q⁻¹ = de q ∧ de q⁻¹ = nu q := by
  have e := is_mk q
  rw [← Rat.divInt_ofNat] at e
  have e2 : q⁻¹ = Rat.divInt (sI (ng q) (de q)) ((nu q : Nat) : Int) := by
    conv => lhs; rw [e, Rat.inv_divInt]
    cases ng q
    · rfl
    · rw [sI_true, sI_true, Rat.divInt_neg']
  rw [Rat.divInt_ofNat] at e2
  refine parts (by omega) (by rw [Nat.gcd_comm]; exact cop q) (fun _ => de_pos q) h rfl e2
end Go.Proofs.Ythfopepnofjcjaa.Big
