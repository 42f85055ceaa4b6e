/- Contracts, in this order: The interpreter: what it does hangs on what it reads alone.  -/
import Derived.Test.YtfmebfkdpfbjbaaGreatDoorEkq01
namespace Go.Proofs.YtfmebfkdpfbjbaaGreatDoor
open Go
namespace Ev
section
variable {α : Type}
theorem div2_lt {m f : Nat} (h : m + 1 < f + 1) : Nat.div m 2 < f := by
  have : Nat.div m 2 = m / 2 := rfl
  omega
theorem dm_inj {m k : Nat} (h : Nat.beq (Nat.mod m 2) 0 = Nat.beq (Nat.mod k 2) 0) (hd : Nat.div m 2 = Nat.div k 2) : m = k := by
  have e1 : Nat.div m 2 = m / 2 := rfl
  have e2 : Nat.div k 2 = k / 2 := rfl
  have e3 : Nat.mod m 2 = m % 2 := rfl
  have e4 : Nat.mod k 2 = k % 2 := rfl
  rw [e3, e4] at h
  rw [e1, e2] at hd
  rcases Nat.mod_two_eq_zero_or_one m with a | a <;> rcases Nat.mod_two_eq_zero_or_one k with b | b <;> rw [a, b] at h <;> first | (exact absurd h (by decide)) | omega
theorem Act1.rec_run {A B C : Type} (k : (A → B) → C) (a : Act1 A B) : Act1.rec (motive := fun _ => C) k a = k a.run := by cases a; rfl
theorem Tr.getO_succ (v : Option α) (l r : Tr α) (m : Nat) : (Tr.node v l r).getO (m + 1) = cond (Nat.beq (Nat.mod m 2) 0) (l.getO (Nat.div m 2)) (r.getO (Nat.div m 2)) := by
  show Bool.rec (motive := fun _ => Option α) (r.getO (Nat.div m 2)) (l.getO (Nat.div m 2)) (Nat.beq (Nat.mod m 2) 0) = _
  cases Nat.beq (Nat.mod m 2) 0 <;> rfl
theorem Tr.gF_succ (f m : Nat) : (Tr.gF (f + 1) (m + 1) : Act1 (Tr α) (Option α)) = cond (Nat.beq (Nat.mod m 2) 0)
    ⟨fun t => Tr.rec (motive := fun _ => Option α) none (fun _ l _ _ _ => Act1.rec (motive := fun _ => Option α) (fun (g : Tr α → Option α) => g l) (Tr.gF f (Nat.div m 2))) t⟩
    ⟨fun t => Tr.rec (motive := fun _ => Option α) none (fun _ _ r _ _ => Act1.rec (motive := fun _ => Option α) (fun (g : Tr α → Option α) => g r) (Tr.gF f (Nat.div m 2))) t⟩ := by
  show Bool.rec (motive := fun _ => Act1 (Tr α) (Option α)) _ _ (Nat.beq (Nat.mod m 2) 0) = _
  cases Nat.beq (Nat.mod m 2) 0 <;> rfl
theorem Tr.gF_run : ∀ (f n : Nat) (t : Tr α), n < f → (Tr.gF f n).run t = t.getO n
  | 0, _, _, h => by omega
  | _ + 1, 0, t, _ => by cases t <;> rfl
  | f + 1, m + 1, t, h => by
    have e := fun t => Tr.gF_run f (Nat.div m 2) t (div2_lt h)
    rw [Tr.gF_succ]
    cases t with
    | nil => cases Nat.beq (Nat.mod m 2) 0 <;> rfl
    | node v l r =>
      rw [Tr.getO_succ]
      cases Nat.beq (Nat.mod m 2) 0 with
      | true => exact (Act1.rec_run (fun (g : Tr α → Option α) => g l) (Tr.gF f (Nat.div m 2))).trans (e l)
      | false => exact (Act1.rec_run (fun (g : Tr α → Option α) => g r) (Tr.gF f (Nat.div m 2))).trans (e r)
theorem Tr.get_eq (t : Tr α) (n : Nat) : t.get n = t.getO n := by
  exact (Act1.rec_run (fun (g : Tr α → Option α) => g t) (Tr.gF (Nat.succ n) n)).trans (Tr.gF_run _ _ _ (Nat.lt_succ_self n))
theorem Tr.get_nil (n : Nat) : (Tr.nil : Tr α).get n = none := by rw [Tr.get_eq]; rfl
theorem Tr.get_zero (v : Option α) (l r : Tr α) : (Tr.node v l r).get 0 = v := by rw [Tr.get_eq]; rfl
theorem Tr.get_succ (v : Option α) (l r : Tr α) (m : Nat) : (Tr.node v l r).get (m + 1) = cond (Nat.beq (Nat.mod m 2) 0) (l.get (Nat.div m 2)) (r.get (Nat.div m 2)) := by
  rw [Tr.get_eq, Tr.get_eq, Tr.get_eq, Tr.getO_succ]
theorem Tr.set_z (x : α) (f : Nat) : Tr.setF x (f + 1) 0 .nil = .node (some x) .nil .nil := rfl
theorem Tr.set_zn (x : α) (f : Nat) (v : Option α) (l r : Tr α) : Tr.setF x (f + 1) 0 (.node v l r) = .node (some x) l r := rfl
theorem Tr.set_s (x : α) (f m : Nat) : Tr.setF x (f + 1) (m + 1) .nil = cond (Nat.beq (Nat.mod m 2) 0) (.node none (Tr.setF x f (Nat.div m 2) .nil) .nil) (.node none .nil (Tr.setF x f (Nat.div m 2) .nil)) := by
  show Bool.rec (motive := fun _ => Tr α) (.node none .nil (Tr.setF x f (Nat.div m 2) .nil)) (.node none (Tr.setF x f (Nat.div m 2) .nil) .nil) (Nat.beq (Nat.mod m 2) 0) = _
  cases Nat.beq (Nat.mod m 2) 0 <;> rfl
theorem Tr.set_sn (x : α) (f m : Nat) (v : Option α) (l r : Tr α) : Tr.setF x (f + 1) (m + 1) (.node v l r) = cond (Nat.beq (Nat.mod m 2) 0) (.node v (Tr.setF x f (Nat.div m 2) l) r) (.node v l (Tr.setF x f (Nat.div m 2) r)) := by
  show Bool.rec (motive := fun _ => Tr α) (.node v l (Tr.setF x f (Nat.div m 2) r)) (.node v (Tr.setF x f (Nat.div m 2) l) r) (Nat.beq (Nat.mod m 2) 0) = _
  cases Nat.beq (Nat.mod m 2) 0 <;> rfl
theorem Tr.sF_succ (f m : Nat) : (Tr.sF (f + 1) (m + 1) : Act1 α (Tr α → Tr α)) = cond (Nat.beq (Nat.mod m 2) 0)
    ⟨fun x t => Tr.rec (motive := fun _ => Tr α) (.node none (Act1.rec (motive := fun _ => Tr α) (fun (g : α → Tr α → Tr α) => g x .nil) (Tr.sF f (Nat.div m 2))) .nil) (fun v l r _ _ => .node v (Act1.rec (motive := fun _ => Tr α) (fun (g : α → Tr α → Tr α) => g x l) (Tr.sF f (Nat.div m 2))) r) t⟩
    ⟨fun x t => Tr.rec (motive := fun _ => Tr α) (.node none .nil (Act1.rec (motive := fun _ => Tr α) (fun (g : α → Tr α → Tr α) => g x .nil) (Tr.sF f (Nat.div m 2)))) (fun v l r _ _ => .node v l (Act1.rec (motive := fun _ => Tr α) (fun (g : α → Tr α → Tr α) => g x r) (Tr.sF f (Nat.div m 2)))) t⟩ := by
  show Bool.rec (motive := fun _ => Act1 α (Tr α → Tr α)) _ _ (Nat.beq (Nat.mod m 2) 0) = _
  cases Nat.beq (Nat.mod m 2) 0 <;> rfl
theorem Tr.sF_run (x : α) : ∀ (f n : Nat) (t : Tr α), (Tr.sF f n).run x t = Tr.setF x f n t
  | 0, _, _ => rfl
  | _ + 1, 0, t => by cases t <;> rfl
  | f + 1, m + 1, t => by
    have e := fun t => Tr.sF_run x f (Nat.div m 2) t
    have q : ∀ t, Act1.rec (motive := fun _ => Tr α) (fun (g : α → Tr α → Tr α) => g x t) (Tr.sF f (Nat.div m 2)) = Tr.setF x f (Nat.div m 2) t := fun t => (Act1.rec_run (fun (g : α → Tr α → Tr α) => g x t) (Tr.sF f (Nat.div m 2))).trans (e t)
    rw [Tr.sF_succ]
    cases t with
    | nil =>
      rw [Tr.set_s, ← q]
      cases Nat.beq (Nat.mod m 2) 0 <;> rfl
    | node v l r =>
      rw [Tr.set_sn, ← q, ← q]
      cases Nat.beq (Nat.mod m 2) 0 <;> rfl
theorem Tr.get_setF (x : α) : ∀ (f n : Nat) (t : Tr α), n < f → ∀ k, (Tr.setF x f n t).get k = if k = n then some x else t.get k := by
  intro f
  induction f with
  | zero => intro n t h; omega
  | succ f ih =>
    intro n t h k
    cases n with
    | zero =>
      cases t <;> cases k <;> simp [Tr.set_z, Tr.set_zn, Tr.get_zero, Tr.get_succ, Tr.get_nil]
    | succ m =>
      have hm := div2_lt h
      have key : ∀ j, Nat.beq (Nat.mod m 2) 0 = Nat.beq (Nat.mod j 2) 0 → (Nat.div j 2 = Nat.div m 2 ↔ j + 1 = m + 1) := fun j hb => ⟨fun hd => by rw [dm_inj hb.symm hd], fun e => congrArg (fun z => Nat.div z 2) (Nat.succ.inj e)⟩
      cases hb : Nat.beq (Nat.mod m 2) 0 <;> cases t <;> cases k <;> simp only [Tr.set_s, Tr.set_sn, hb, cond_true, cond_false, Tr.get_zero, Tr.get_succ, Tr.get_nil] <;>
        first
          | (rw [if_neg (by omega)])
          | (rename_i j
             cases hj : Nat.beq (Nat.mod j 2) 0 <;> simp only [cond_true, cond_false, Tr.get_nil] <;>
               first
                 | (rw [ih _ _ hm]
                    have := key j (by rw [hb, hj])
                    by_cases e : Nat.div j 2 = Nat.div m 2
                    · rw [if_pos e, if_pos (this.1 e)]
                    · rw [if_neg e, if_neg (fun h => e (this.2 h))]
                      try rw [Tr.get_nil])
                 | (rw [if_neg (fun h => by have : j = m := by omega
                                            subst this; rw [hb] at hj; cases hj)]))
theorem Tr.get_set (t : Tr α) (n : Nat) (x : α) (k : Nat) : (t.set n x).get k = if k = n then some x else t.get k := by
  have e : t.set n x = Tr.setF x (Nat.succ n) n t := (Act1.rec_run (fun (g : α → Tr α → Tr α) => g x t) (Tr.sF (Nat.succ n) n)).trans (Tr.sF_run x _ _ _)
  rw [e]
  exact Tr.get_setF x _ n t (Nat.lt_succ_self n) k
end
theorem elem_cons (n m : Nat) (l : List Nat) : elem n (m :: l) = cond (Nat.beq n m) true (elem n l) := by
  show Bool.rec (motive := fun _ => Bool) (elem n l) true (Nat.beq n m) = _
  cases Nat.beq n m <;> rfl
theorem below_cons (k n : Nat) (l : List Nat) : below k (n :: l) = cond (Nat.ble (Nat.succ n) k) (cond (elem n (below k l)) (below k l) (n :: below k l)) (below k l) := by
  show Bool.rec (motive := fun _ => List Nat) (below k l) (Bool.rec (motive := fun _ => List Nat) (n :: below k l) (below k l) (elem n (below k l))) (Nat.ble (Nat.succ n) k) = _
  cases Nat.ble (Nat.succ n) k <;> cases elem n (below k l) <;> rfl
theorem elem_iff {n : Nat} : ∀ {l : List Nat}, elem n l = true ↔ n ∈ l
  | [] => by simp [show elem n [] = false from rfl]
  | m :: l => by
    rw [elem_cons]
    cases h : Nat.beq n m with
    | true => simp [Nat.eq_of_beq_eq_true h]
    | false =>
      have hne : n ≠ m := fun e => by subst e; rw [Nat.beq_refl] at h; cases h
      simp [elem_iff (l := l), hne]
theorem mem_below {k n : Nat} : ∀ {l : List Nat}, n ∈ below k l ↔ n < k ∧ n ∈ l
  | [] => by simp [show below k [] = [] from rfl]
  | m :: l => by
    have ih := mem_below (k := k) (n := n) (l := l)
    rw [below_cons]
    cases h : Nat.ble (Nat.succ m) k with
    | false =>
      have hm : ¬ m < k := fun e => by rw [Nat.ble_eq_true_of_le e] at h; cases h
      simp only [cond_false, ih, List.mem_cons]
      constructor
      · exact fun ⟨a, b⟩ => ⟨a, .inr b⟩
      · rintro ⟨a, rfl | b⟩
        · exact absurd a hm
        · exact ⟨a, b⟩
    | true =>
      have hm : m < k := Nat.le_of_ble_eq_true h
      simp only [cond_true]
      cases he : elem m (below k l) with
      | true =>
        have hmem := elem_iff.1 he
        simp only [cond_true, ih, List.mem_cons]
        constructor
        · exact fun ⟨a, b⟩ => ⟨a, .inr b⟩
        · rintro ⟨a, rfl | b⟩
          · exact (mem_below (k := k) (l := l)).1 hmem
          · exact ⟨a, b⟩
      | false =>
        simp only [cond_false, List.mem_cons, ih]
        constructor
        · rintro (rfl | ⟨a, b⟩)
          · exact ⟨hm, .inl rfl⟩
          · exact ⟨a, .inr b⟩
        · rintro ⟨a, rfl | b⟩
          · exact .inl rfl
          · exact .inr ⟨a, b⟩
section
variable {F α β : Type}
def Fr (h : Tr (Blk F)) (nx : Nat) : Prop := ∀ n, nx ≤ n → h.get n = none
structure Lo (m : M F α) (h : Tr (Blk F)) (nx : Nat) (a : α) (h' : Tr (Blk F)) (nx' : Nat) (R W : List Nat) : Prop where
  le : nx ≤ nx'
  fr : Fr h' nx'
  ltR : ∀ n ∈ R, n < nx'
  ltW : ∀ n ∈ W, n < nx'
  keep : ∀ n, n < nx → n ∉ W → h'.get n = h.get n
  live : ∀ n, (n ∈ W ∨ (nx ≤ n ∧ n < nx') ∨ (h.get n).isSome) → (h'.get n).isSome
  again : ∀ h2, (∀ n ∈ R, n < nx → h2.get n = h.get n) → (∀ n, nx ≤ n → n < nx' → h2.get n = none) →
    ∃ h2', m h2 nx = .ok a h2' nx' R W ∧ (∀ n, (n ∈ W ∨ nx ≤ n) → n < nx' → h2'.get n = h'.get n) ∧ (∀ n, n ∉ W → ¬ (nx ≤ n ∧ n < nx') → h2'.get n = h2.get n)
def Loc0 (m : M F α) : Prop := ∀ h nx a h' nx' R W, m h nx = .ok a h' nx' R W → Fr h nx → Lo m h nx a h' nx' R W
theorem loc0_ret (a : α) : Loc0 (ret a : M F α) := by
  intro h nx b h' nx' R W e hf
  unfold ret at e
  cases e
  exact ⟨Nat.le_refl _, hf, by simp, by simp, fun _ _ _ => rfl, fun n hn => by rcases hn with hn | hn | hn <;> first | (simp at hn; done) | omega | exact hn, fun h2 _ _ => ⟨h2, rfl, fun n hn hl => absurd hn (by simp; omega), fun _ _ _ => rfl⟩⟩
theorem loc0_fail : Loc0 (fail : M F α) := by intro h nx b h' nx' R W e; simp [fail] at e
theorem bind_eq (m : M F α) (f : α → M F β) (h : Tr (Blk F)) (nx : Nat) : bind m f h nx = match m h nx with
  | .no => .no
  | .ok a h1 nx1 R W => match f a h1 nx1 with
    | .no => .no
    | .ok b h2 nx2 R2 W2 => .ok b h2 nx2 (R ++ R2) (W ++ W2) := by
  unfold bind
  cases m h nx with
  | no => rfl
  | ok a h1 nx1 R W => cases hf : f a h1 nx1 <;> simp [hf]
theorem bind_ok {m : M F α} {f : α → M F β} {h : Tr (Blk F)} {nx : Nat} {b : β} {h' : Tr (Blk F)} {nx' : Nat} {R W : List Nat} (e : bind m f h nx = .ok b h' nx' R W) :
    ∃ a h1 nx1 R1 W1 R2 W2, m h nx = .ok a h1 nx1 R1 W1 ∧ f a h1 nx1 = .ok b h' nx' R2 W2 ∧ R = R1 ++ R2 ∧ W = W1 ++ W2 := by
  rw [bind_eq] at e
  cases hm : m h nx with
  | no => rw [hm] at e; cases e
  | ok a h1 nx1 R1 W1 =>
    rw [hm] at e
    simp only at e
    cases hf : f a h1 nx1 with
    | no => rw [hf] at e; cases e
    | ok b2 h2 nx2 R2 W2 =>
      rw [hf] at e
      simp only at e
      cases e
      exact ⟨a, h1, nx1, R1, W1, R2, W2, rfl, hf, rfl, rfl⟩
theorem bind_of {m : M F α} {f : α → M F β} {h h1 h' : Tr (Blk F)} {nx nx1 nx' : Nat} {a : α} {b : β} {R1 W1 R2 W2 : List Nat} (e1 : m h nx = .ok a h1 nx1 R1 W1) (e2 : f a h1 nx1 = .ok b h' nx' R2 W2) :
    bind m f h nx = .ok b h' nx' (R1 ++ R2) (W1 ++ W2) := by
  rw [bind_eq, e1]; simp only; rw [e2]
theorem loc0_bind {m : M F α} {f : α → M F β} (hm : Loc0 m) (hf : ∀ a, Loc0 (f a)) : Loc0 (bind m f) := by
  intro h nx b h' nx' R W e hfr
  obtain ⟨a, h1, nx1, R1, W1, R2, W2, e1, e2, rfl, rfl⟩ := bind_ok e
  have L1 := hm _ _ _ _ _ _ _ e1 hfr
  have L2 := hf a _ _ _ _ _ _ _ e2 L1.fr
  have le1 := L1.le; have le2 := L2.le
  refine ⟨by omega, L2.fr, ?_, ?_, ?_, ?_, ?_⟩
  · intro n hn
    rcases List.mem_append.1 hn with hn | hn
    · have := L1.ltR n hn; omega
    · exact L2.ltR n hn
  · intro n hn
    rcases List.mem_append.1 hn with hn | hn
    · have := L1.ltW n hn; omega
    · exact L2.ltW n hn
  · intro n hn hw
    rw [List.mem_append, not_or] at hw
    rw [L2.keep n (by omega) hw.2, L1.keep n hn hw.1]
  · intro n hn
    rcases hn with hn | hn | hn
    · rcases List.mem_append.1 hn with hn | hn
      · exact L2.live n (.inr (.inr (L1.live n (.inl hn))))
      · exact L2.live n (.inl hn)
    · by_cases h1 : n < nx1
      · exact L2.live n (.inr (.inr (L1.live n (.inr (.inl ⟨hn.1, h1⟩)))))
      · exact L2.live n (.inr (.inl ⟨by omega, hn.2⟩))
    · exact L2.live n (.inr (.inr (L1.live n (.inr (.inr hn)))))
  · intro h2 hR hN
    obtain ⟨g1, c1, t1, u1⟩ := L1.again h2 (fun n hn hl => hR n (List.mem_append_left _ hn) hl) (fun n a1 a2 => hN n a1 (by omega))
    have hR2 : ∀ n ∈ R2, n < nx1 → g1.get n = h1.get n := by
      intro n hn hl
      by_cases hw : n ∈ W1 ∨ nx ≤ n
      · exact t1 n hw hl
      · rw [not_or] at hw
        rw [u1 n hw.1 (by omega), hR n (List.mem_append_right _ hn) (by omega), L1.keep n (by omega) hw.1]
    have hN2 : ∀ n, nx1 ≤ n → n < nx' → g1.get n = none := by
      intro n a1 a2
      rw [u1 n (fun hw => by have := L1.ltW n hw; omega) (by omega)]
      exact hN n (by omega) a2
    obtain ⟨g2, c2, t2, u2⟩ := L2.again g1 hR2 hN2
    refine ⟨g2, bind_of c1 c2, ?_, ?_⟩
    · intro n hn hl
      by_cases hw : n ∈ W2 ∨ nx1 ≤ n
      · exact t2 n hw hl
      · rw [not_or] at hw
        have hn1 : n < nx1 := by omega
        rw [u2 n hw.1 (by omega), L2.keep n hn1 hw.1]
        refine t1 n ?_ hn1
        rcases hn with hn | hn
        · rcases List.mem_append.1 hn with hn | hn
          · exact .inl hn
          · exact absurd hn hw.1
        · exact .inr hn
    · intro n hn hl
      rw [List.mem_append, not_or] at hn
      rw [u2 n hn.2 (by omega), u1 n hn.1 (by omega)]
theorem loc0_rd (n : Nat) : Loc0 (rd n : M F (Blk F)) := by
  intro h nx b h' nx' R W e hfr
  unfold rd at e
  cases hg : h.get n with
  | none => rw [hg] at e; cases e
  | some x =>
    rw [hg] at e
    simp only at e
    cases e
    have hlt : n < nx := by
      rcases Nat.lt_or_ge n nx with hl | hl
      · exact hl
      · rw [hfr n hl] at hg; cases hg
    refine ⟨Nat.le_refl _, hfr, by simpa using hlt, by simp, fun _ _ _ => rfl, fun n hn => by rcases hn with hn | hn | hn <;> first | (simp at hn; done) | omega | exact hn, fun h2 hR hN => ⟨h2, ?_, fun k hk hl => ?_, fun _ _ _ => rfl⟩⟩
    · unfold rd; rw [hR n (by simp) hlt, hg]
    · rcases hk with hk | hk
      · simp at hk
      · omega
theorem loc0_wr (n : Nat) (b : Blk F) : Loc0 (wr n b : M F Unit) := by
  intro h nx u h' nx' R W e hfr
  unfold wr at e
  cases hg : h.get n with
  | none => rw [hg] at e; cases e
  | some x =>
    rw [hg] at e
    simp only at e
    cases e
    have hlt : n < nx := by
      rcases Nat.lt_or_ge n nx with hl | hl
      · exact hl
      · rw [hfr n hl] at hg; cases hg
    refine ⟨Nat.le_refl _, ?_, by simpa using hlt, by simpa using hlt, ?_, fun k hk => ?_, fun h2 hR hN => ⟨h2.set n b, ?_, fun k hk hl => ?_, fun k hk hl => ?_⟩⟩
    · intro k hk; rw [Tr.get_set, if_neg (by omega)]; exact hfr k hk
    · intro k hk hw; rw [Tr.get_set, if_neg (by simpa using hw)]
    · rw [Tr.get_set]
      by_cases e : k = n
      · simp [e]
      · rw [if_neg e]
        rcases hk with hk | hk | hk
        · simp at hk; exact absurd hk e
        · omega
        · exact hk
    · unfold wr; rw [hR n (by simp) hlt, hg]
    · rcases hk with hk | hk
      · have : k = n := by simpa using hk
        rw [this, Tr.get_set, Tr.get_set]; simp
      · omega
    · rw [Tr.get_set, if_neg (by simpa using hk)]
theorem loc0_fresh (b : Blk F) : Loc0 (fresh b : M F Nat) := by
  intro h nx u h' nx' R W e hfr
  unfold fresh at e
  cases e
  refine ⟨Nat.le_succ _, ?_, by simp, by simp, ?_, fun k hk => ?_, fun h2 hR hN => ⟨h2.set nx b, rfl, fun k hk hl => ?_, fun k hk hl => ?_⟩⟩
  · intro k hk
    have hk' : nx + 1 ≤ k := hk
    rw [Tr.get_set, if_neg (by omega)]; exact hfr k (by omega)
  · intro k hk hw; rw [Tr.get_set, if_neg (by omega)]
  · rw [Tr.get_set]
    by_cases e : k = nx
    · simp [e]
    · rw [if_neg e]
      rcases hk with hk | hk | hk
      · simp at hk
      · have : k < nx + 1 := hk.2
        omega
      · exact hk
  · have hk2 : k < nx + 1 := hl
    rcases hk with hk | hk
    · simp at hk
    · have : k = nx := by omega
      rw [this, Tr.get_set, Tr.get_set]; simp
  · have hl' : ¬ (nx ≤ k ∧ k < nx + 1) := hl
    rw [Tr.get_set, if_neg (by omega)]
theorem allBelow_cons (k n : Nat) (l : List Nat) : allBelow k (n :: l) = cond (Nat.ble (Nat.succ n) k) (allBelow k l) false := by
  show Bool.rec (motive := fun _ => Bool) false (allBelow k l) (Nat.ble (Nat.succ n) k) = _
  cases Nat.ble (Nat.succ n) k <;> rfl
theorem allBelow_iff {k : Nat} : ∀ {l : List Nat}, allBelow k l = true ↔ ∀ n ∈ l, n < k
  | [] => by simp [show allBelow k [] = true from rfl]
  | m :: l => by
    rw [allBelow_cons]
    cases h : Nat.ble (Nat.succ m) k with
    | true =>
      have hm : m < k := Nat.le_of_ble_eq_true h
      simp [allBelow_iff (l := l), hm]
    | false =>
      have hm : ¬ m < k := fun e => by rw [Nat.ble_eq_true_of_le e] at h; cases h
      simp [hm]
theorem scp_ok {m : M F α} {h : Tr (Blk F)} {nx : Nat} {a : α} {h' : Tr (Blk F)} {nx' : Nat} {R W : List Nat} (e : scp m h nx = .ok a h' nx' R W) :
    ∃ R1 W1, m h nx = .ok a h' nx' R1 W1 ∧ R = below nx R1 ∧ W = below nx W1 ∧ ∀ n ∈ W1, n < nx' := by
  unfold scp at e
  cases hm : m h nx with
  | no => rw [hm] at e; cases e
  | ok a h1 nx1 R1 W1 =>
    rw [hm] at e; simp only at e
    cases hb : allBelow nx1 W1 with
    | false => rw [hb] at e; cases e
    | true => rw [hb] at e; cases e; exact ⟨R1, W1, rfl, rfl, rfl, allBelow_iff.1 hb⟩
theorem loc0_scp {m : M F α} (hm : Loc0 m) : Loc0 (scp m) := by
  intro h nx a h' nx' R W e hfr
  obtain ⟨R1, W1, e1, rfl, rfl, hb⟩ := scp_ok e
  have L := hm _ _ _ _ _ _ _ e1 hfr
  have le := L.le
  refine ⟨le, L.fr, fun n hn => L.ltR n (mem_below.1 hn).2, fun n hn => L.ltW n (mem_below.1 hn).2, fun n hn hw => L.keep n hn (fun h => hw (mem_below.2 ⟨hn, h⟩)), fun n hn => L.live n (hn.imp (fun h => (mem_below.1 h).2) id), ?_⟩
  intro h2 hR hN
  obtain ⟨g, c, t, u⟩ := L.again h2 (fun n hn hl => hR n (mem_below.2 ⟨hl, hn⟩) hl) hN
  refine ⟨g, by unfold scp; rw [c]; simp only [allBelow_iff.2 hb, cond_true], fun n hn hl => t n (hn.imp (fun h => (mem_below.1 h).2) id) hl, fun n hn hl => ?_⟩
  by_cases hw : n ∈ W1
  · have h1 := L.ltW n hw
    have h2 : n < nx := by omega
    exact absurd (mem_below.2 ⟨h2, hw⟩) hn
  · exact u n hw hl
def Mon (m : M F α) : Prop := ∀ h nx a h' nx' R W, m h nx = .ok a h' nx' R W → nx ≤ nx'
def Loc (m : M F α) : Prop := Mon m ∧ Loc0 m
theorem loc_ret (a : α) : Loc (ret a : M F α) := ⟨fun h nx b h' nx' R W e => by unfold ret at e; cases e; exact Nat.le_refl _, loc0_ret a⟩
theorem loc_fail : Loc (fail : M F α) := ⟨fun h nx b h' nx' R W e => by simp [fail] at e, loc0_fail⟩
theorem loc_bind {m : M F α} {f : α → M F β} (hm : Loc m) (hf : ∀ a, Loc (f a)) : Loc (bind m f) :=
  ⟨fun h nx b h' nx' R W e => by
    obtain ⟨a, h1, nx1, R1, W1, R2, W2, e1, e2, rfl, rfl⟩ := bind_ok e
    exact Nat.le_trans (hm.1 _ _ _ _ _ _ _ e1) ((hf a).1 _ _ _ _ _ _ _ e2), loc0_bind hm.2 fun a => (hf a).2⟩
theorem loc_rd (n : Nat) : Loc (rd n : M F (Blk F)) := ⟨fun h nx b h' nx' R W e => by
    unfold rd at e
    cases hg : h.get n with
    | none => rw [hg] at e; cases e
    | some x => rw [hg] at e; cases e; exact Nat.le_refl _, loc0_rd n⟩
theorem loc_wr (n : Nat) (b : Blk F) : Loc (wr n b : M F Unit) := ⟨fun h nx u h' nx' R W e => by
    unfold wr at e
    cases hg : h.get n with
    | none => rw [hg] at e; cases e
    | some x => rw [hg] at e; cases e; exact Nat.le_refl _, loc0_wr n b⟩
theorem loc_fresh (b : Blk F) : Loc (fresh b : M F Nat) := ⟨fun h nx u h' nx' R W e => by unfold fresh at e; cases e; exact Nat.le_succ _, loc0_fresh b⟩
theorem loc_scp {m : M F α} (hm : Loc m) : Loc (scp m) := ⟨fun h nx b h' nx' R W e => by
    obtain ⟨R1, W1, e1, _⟩ := scp_ok e
    exact hm.1 _ _ _ _ _ _ _ e1, loc0_scp hm.2⟩
theorem loc_cond {b : Bool} {x y : M F α} (hx : Loc x) (hy : Loc y) : Loc (cond b x y) := by cases b <;> assumption
end
class HardLoc {F : Type} (C : Cfg F) : Prop where
  loc : ∀ o vs, Loc (C.hard o vs)
end Ev
end Go.Proofs.YtfmebfkdpfbjbaaGreatDoor
