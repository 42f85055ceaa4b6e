/- Contracts, in this order: The interpreter: a region in whatever order. No program. · The interpreter: a region in whatever order is one in its ow -/
import Derived.Test.YtfmebfkdpfbjbaaGreatDoorEkq06
namespace Go.Proofs.YtfmebfkdpfbjbaaGreatDoor
open Go
namespace Ev
section
variable {F : Type} {S : Sig F} {P : Program} {C : Cfg F}
theorem disj_iff {m : List Nat} : ∀ {l : List Nat}, disj l m = true → ∀ n ∈ l, n ∉ m
  | [], _, n, hn => by simp at hn
  | x :: l, h, n, hn => by
    have h' : cond (elem x m) false (disj l m) = true := h
    cases he : elem x m with
    | true => rw [he] at h'; cases h'
    | false =>
      rw [he] at h'
      rcases List.mem_cons.1 hn with rfl | hn
      · intro hm; rw [elem_iff.2 hm] at he; cases he
      · exact disj_iff h' n hn
theorem outside_iff {lo hi : Nat} : ∀ {l : List Nat}, outside lo hi l = true → ∀ n ∈ l, ¬ (lo ≤ n ∧ n < hi)
  | [], _, n, hn => by simp at hn
  | x :: l, h, n, hn => by
    have h' : cond (Nat.ble lo x && Nat.ble (Nat.succ x) hi) false (outside lo hi l) = true := h
    cases he : (Nat.ble lo x && Nat.ble (Nat.succ x) hi) with
    | true => rw [he] at h'; cases h'
    | false =>
      rw [he] at h'
      rcases List.mem_cons.1 hn with rfl | hn
      · intro ⟨a, b⟩
        rw [Nat.ble_eq_true_of_le a, Nat.ble_eq_true_of_le (show Nat.succ n ≤ hi from b)] at he; cases he
      · exact outside_iff h' n hn
structure Apart (x y : Did) : Prop where
  ww : ∀ n ∈ x.W, n ∉ y.W
  wr : ∀ n ∈ x.W, n ∉ y.R
  rw : ∀ n ∈ x.R, n ∉ y.W
  out : ∀ n ∈ y.R, ¬ (x.lo ≤ n ∧ n < x.hi)
  outW : ∀ n ∈ y.W, ¬ (x.lo ≤ n ∧ n < x.hi)
theorem apart_of {x y : Did} (h : apart x y = true) : Apart x y := by
  unfold apart at h
  simp only [Bool.and_eq_true] at h
  exact ⟨disj_iff h.1.1.1.1, disj_iff h.1.1.1.2, disj_iff h.1.1.2, outside_iff h.1.2, outside_iff h.2⟩
theorem apartAll_of {y : Did} {bits : Nat} : ∀ {l : List Did}, apartAll y bits l = true → ∀ x ∈ l, bits.testBit x.i = true ∨ Apart x y
  | [], _, x, hx => by simp at hx
  | z :: l, h, x, hx => by
    have h' : cond (Nat.testBit bits z.i || apart z y) (apartAll y bits l) false = true := h
    cases he : (Nat.testBit bits z.i || apart z y) with
    | false => rw [he] at h'; cases h'
    | true =>
      rw [he] at h'
      rcases List.mem_cons.1 hx with rfl | hx
      · rcases Bool.or_eq_true_iff.1 he with he | he
        · exact .inl he
        · exact .inr (apart_of he)
      · exact apartAll_of h' x hx
structure Trace (P : Program) (C : Cfg F) (call : Cl F) (ops : Array Oper) (T : Nat → Tr Value) (H : Nat → Tr (Blk F)) (X : Nat → Nat) (V : Nat → Value) (RR WW : Nat → List Nat) (i n : Nat) : Prop where
  step : ∀ j o, i ≤ j → j < n → ops[j]? = some o → scp (step1 P C call ops (T j) o) (H j) (X j) = .ok (V j) (H (j + 1)) (X (j + 1)) (RR j) (WW j)
  next : ∀ j o, i ≤ j → j < n → ops[j]? = some o → T (j + 1) = put (T j) o.dst (V j)
  apart : ∀ j k, k < j → i ≤ j → j < n → ((Region.before ops).getD j 0).testBit k = true ∨ Apart ⟨k, RR k, WW k, X k, X (k + 1)⟩ ⟨j, RR j, WW j, X j, X (j + 1)⟩
theorem any_cons (call : Cl F) (ops : Array Oper) (bef : Array Nat) (o : Oper) (l : List Oper) (i : Nat) (ds : List Did) (ts : Tr Value) (h : Tr (Blk F)) (nx : Nat) :
    anyOps P C call ops bef (o :: l) i ds ts h nx = (match scp (step1 P C call ops ts o) h nx with
      | .no => .no
      | .ok v h1 nx1 R W => cond (idle ⟨i, R, W, nx, nx1⟩ || apartAll ⟨i, R, W, nx, nx1⟩ (bef.getD i 0) ds)
        (match anyOps P C call ops bef l (Nat.succ i) (noted ⟨i, R, W, nx, nx1⟩ ds) (put ts o.dst v) h1 nx1 with
          | .no => .no
          | .ok ts' h2 nx2 R2 W2 => .ok ts' h2 nx2 (R ++ R2) (W ++ W2)) .no) := by
  show Out.rec (motive := fun _ => Out F (Tr Value)) _ _ (scp (step1 P C call ops ts o) h nx) = _
  cases scp (step1 P C call ops ts o) h nx with
  | no => rfl
  | ok v h1 nx1 R W =>
    show Bool.rec (motive := fun _ => Out F (Tr Value)) .no (Out.rec (motive := fun _ => Out F (Tr Value)) .no (fun ts' h2 nx2 R2 W2 => .ok ts' h2 nx2 (R ++ R2) (W ++ W2)) (anyOps P C call ops bef l (Nat.succ i) (noted ⟨i, R, W, nx, nx1⟩ ds) (put ts o.dst v) h1 nx1)) (idle ⟨i, R, W, nx, nx1⟩ || apartAll ⟨i, R, W, nx, nx1⟩ (bef.getD i 0) ds) =
      cond (idle ⟨i, R, W, nx, nx1⟩ || apartAll ⟨i, R, W, nx, nx1⟩ (bef.getD i 0) ds) (match anyOps P C call ops bef l (Nat.succ i) (noted ⟨i, R, W, nx, nx1⟩ ds) (put ts o.dst v) h1 nx1 with
          | .no => .no
          | .ok ts' h2 nx2 R2 W2 => .ok ts' h2 nx2 (R ++ R2) (W ++ W2)) .no
    generalize (idle ⟨i, R, W, nx, nx1⟩ || apartAll ⟨i, R, W, nx, nx1⟩ (bef.getD i 0) ds) = b
    generalize anyOps P C call ops bef l (Nat.succ i) (noted ⟨i, R, W, nx, nx1⟩ ds) (put ts o.dst v) h1 nx1 = z
    cases b <;> cases z <;> rfl
theorem any_trace {call : Cl F} {ops : Array Oper} : ∀ (l : List Oper) (i : Nat) (ds : List Did) (ts ts' : Tr Value) (h h' : Tr (Blk F)) (nx nx' : Nat) (R W : List Nat), ops.toList.drop i = l →
    anyOps P C call ops (Region.before ops) l i ds ts h nx = .ok ts' h' nx' R W →
    ∀ (T : Nat → Tr Value) (H : Nat → Tr (Blk F)) (X : Nat → Nat) (V : Nat → Value) (RR WW : Nat → List Nat), T i = ts → H i = h → X i = nx →
      (∀ k, k < i → (RR k = [] ∧ WW k = [] ∧ X k = X (k + 1)) ∨ (⟨k, RR k, WW k, X k, X (k + 1)⟩ : Did) ∈ ds) →
      ∃ (T' : Nat → Tr Value) (H' : Nat → Tr (Blk F)) (X' : Nat → Nat) (V' : Nat → Value) (RR' WW' : Nat → List Nat),
        (∀ k, k ≤ i → T' k = T k ∧ H' k = H k ∧ X' k = X k) ∧ (∀ k, k < i → V' k = V k ∧ RR' k = RR k ∧ WW' k = WW k) ∧
        Trace P C call ops T' H' X' V' RR' WW' i (i + l.length) ∧ T' (i + l.length) = ts' ∧ H' (i + l.length) = h' ∧ X' (i + l.length) = nx' ∧
        (∀ j, i ≤ j → j < i + l.length → (∀ n ∈ WW' j, n ∈ W) ∧ (∀ n ∈ RR' j, n ∈ R)) ∧ (∀ n ∈ W, ∃ j, i ≤ j ∧ j < i + l.length ∧ n ∈ WW' j) := by
  intro l
  induction l with
  | nil =>
    intro i ds ts ts' h h' nx nx' R W hl e T H X V RR WW hT hH hX hds
    have e' : (ret ts : M F _) h nx = .ok ts' h' nx' R W := e
    obtain ⟨rfl, rfl, rfl, rfl⟩ := ret_ok e'
    exact ⟨T, H, X, V, RR, WW, fun _ _ => ⟨rfl, rfl, rfl⟩, fun _ _ => ⟨rfl, rfl, rfl⟩, ⟨fun j o a b => by simp at b; omega, fun j o a b => by simp at b; omega, fun j k _ a b => by simp at b; omega⟩, hT, hH, hX, fun j a b => by simp at b; omega, fun n hn => by simp at hn⟩
  | cons o l ih =>
    intro i ds ts ts' h h' nx nx' R W hl e T H X V RR WW hT hH hX hds
    rw [any_cons] at e
    cases hs : scp (step1 P C call ops ts o) h nx with
    | no => rw [hs] at e; cases e
    | ok v h1 nx1 R1 W1 =>
      rw [hs] at e; simp only at e
      cases hap : (idle ⟨i, R1, W1, nx, nx1⟩ || apartAll ⟨i, R1, W1, nx, nx1⟩ ((Region.before ops).getD i 0) ds) with
      | false => rw [hap] at e; cases e
      | true =>
        rw [hap] at e; simp only [cond_true] at e
        cases hr : anyOps P C call ops (Region.before ops) l (Nat.succ i) (noted ⟨i, R1, W1, nx, nx1⟩ ds) (put ts o.dst v) h1 nx1 with
        | no => rw [hr] at e; cases e
        | ok ts2 h2 nx2 R2 W2 =>
          rw [hr] at e; simp only at e
          cases e
          have hget : ops[i]? = some o := by
            have := congrArg (·[0]?) hl
            simpa using this
          have hl2 : ops.toList.drop (i + 1) = l := by
            have := congrArg List.tail hl
            simpa using this
          obtain ⟨T', H', X', V', RR', WW', k1, k2, k3, k4, k5, k6, k7, k8⟩ := ih (i + 1) _ _ _ _ _ _ _ _ _ hl2 hr
            (fun k => if k ≤ i then T k else put ts o.dst v) (fun k => if k ≤ i then H k else h1) (fun k => if k ≤ i then X k else nx1) (fun k => if k < i then V k else v) (fun k => if k < i then RR k else R1) (fun k => if k < i then WW k else W1)
            (if_neg (by omega)) (if_neg (by omega)) (if_neg (by omega)) (by
              intro k hk
              by_cases hki : k < i
              · simp only [if_pos hki, if_pos (Nat.le_of_lt hki), if_pos (show k + 1 ≤ i from hki)]
                rcases hds k hki with hd | hd
                · exact .inl hd
                · right
                  unfold noted
                  cases (idle ⟨i, R1, W1, nx, nx1⟩ && Nat.beq nx nx1) with
                  | true => exact hd
                  | false => exact List.mem_cons_of_mem _ hd
              · have : k = i := by omega
                subst this
                simp only [if_neg hki, if_pos (Nat.le_refl k), if_neg (show ¬ k + 1 ≤ k by omega), hX]
                unfold noted
                cases hno : (idle ⟨k, R1, W1, nx, nx1⟩ && Nat.beq nx nx1) with
                | true =>
                  left
                  simp only [Bool.and_eq_true, idle, List.isEmpty_iff] at hno
                  exact ⟨hno.1.1, hno.1.2, Nat.eq_of_beq_eq_true hno.2⟩
                | false => exact .inr (by simp))
          have q1 := fun k (hk : k ≤ i) => k1 k (by omega)
          have q2 := fun k (hk : k < i) => k2 k (by omega)
          have ci := k1 i (by omega)
          have ci1 := k1 (i + 1) (Nat.le_refl _)
          have vi := k2 i (by omega)
          simp only [if_pos (Nat.le_refl i), if_neg (show ¬ i + 1 ≤ i by omega), if_neg (Nat.lt_irrefl i)] at ci ci1 vi
          have hlen : i + (o :: l).length = i + 1 + l.length := by simp; omega
          rw [hlen]
          refine ⟨T', H', X', V', RR', WW', fun k hk => ?_, fun k hk => ?_, ⟨fun j p a b hj => ?_, fun j p a b hj => ?_, fun j k hkj a b => ?_⟩, k4, k5, k6, fun j a b => ?_, fun n hn => ?_⟩
          · have := q1 k hk; simpa only [if_pos hk] using this
          · have := q2 k hk; simpa only [if_pos hk] using this
          · by_cases hji : j = i
            · subst hji
              rw [hget] at hj; injection hj with hj; subst hj
              rw [ci.1, ci.2.1, ci.2.2, ci1.2.1, ci1.2.2, vi.1, vi.2.1, vi.2.2, hT, hH, hX]
              exact hs
            · exact k3.step j p (by omega) b hj
          · by_cases hji : j = i
            · subst hji
              rw [hget] at hj; injection hj with hj; subst hj
              rw [ci1.1, ci.1, vi.1, hT]
            · exact k3.next j p (by omega) b hj
          · by_cases hji : j = i
            · subst hji
              have ck := q1 k (by omega)
              have ck1 := q1 (k + 1) (by omega)
              have vk := q2 k hkj
              simp only [if_pos (show k ≤ j by omega)] at ck
              simp only [if_pos (show k + 1 ≤ j by omega)] at ck1
              simp only [if_pos hkj] at vk
              rw [vk.2.1, vk.2.2, ck.2.2, ck1.2.2, vi.2.1, vi.2.2, ci.2.2, ci1.2.2, hX]
              rcases Bool.or_eq_true_iff.1 hap with hid | hall
              · right
                simp only [idle, Bool.and_eq_true, List.isEmpty_iff] at hid
                exact ⟨by simp [hid.2], by simp [hid.1], by simp [hid.2], by simp [hid.1], by simp [hid.2]⟩
              · rcases hds k hkj with hd | hd
                · right
                  exact ⟨by simp [hd.2.1], by simp [hd.2.1], by simp [hd.1], fun n _ hn => by simp only at hn; omega, fun n _ hn => by simp only at hn; omega⟩
                · exact apartAll_of hall _ hd
            · exact k3.apart j k hkj (by omega) b
          · by_cases hji : j = i
            · subst hji
              rw [vi.2.2, vi.2.1]
              exact ⟨fun n hn => List.mem_append_left _ hn, fun n hn => List.mem_append_left _ hn⟩
            · have := k7 j (by omega) b
              exact ⟨fun n hn => List.mem_append_right _ (this.1 n hn), fun n hn => List.mem_append_right _ (this.2 n hn)⟩
          · rcases List.mem_append.1 hn with hn | hn
            · exact ⟨i, Nat.le_refl _, by omega, by rw [vi.2.2]; exact hn⟩
            · obtain ⟨j, a, b, c⟩ := k8 n hn
              exact ⟨j, by omega, b, c⟩
end
end Ev
end Go.Proofs.YtfmebfkdpfbjbaaGreatDoor
namespace Go.Proofs.YtfmebfkdpfbjbaaGreatDoor
open Go
namespace Ev
section
variable {F : Type} {S : Sig F} {P : Program} {C : Cfg F}
theorem ex_over (g : Tr (Blk F)) (f : Nat → Blk F) : ∀ names : List Nat, ∃ g' : Tr (Blk F), ∀ m, g'.get m = if m ∈ names then some (f m) else g.get m
  | [] => ⟨g, fun m => by simp⟩
  | n :: l => by
    obtain ⟨g1, h1⟩ := ex_over g f l
    refine ⟨g1.set n (f n), fun m => ?_⟩
    rw [Tr.get_set, h1]
    by_cases h : m = n
    · subst h; simp
    · rw [if_neg h]
      simp [h]
def logged {α : Type} (m : M F α) : M F (α × Nat × Nat × List Nat × List Nat) := fun h nx => match m h nx with
  | .no => .no
  | .ok v h1 nx1 R W => .ok (v, nx, nx1, R, W) h1 nx1 R W
theorem loc_logged {α : Type} {m : M F α} (L : Loc m) : Loc (logged m) := by
  refine ⟨fun h nx a h' nx' R W e => ?_, fun h nx a h' nx' R W e hf => ?_⟩
  · unfold logged at e
    cases hs : m h nx with
    | no => rw [hs] at e; cases e
    | ok v h1 nx1 R1 W1 => rw [hs] at e; cases e; exact L.1 _ _ _ _ _ _ _ hs
  · unfold logged at e
    cases hs : m h nx with
    | no => rw [hs] at e; cases e
    | ok v h1 nx1 R1 W1 =>
      rw [hs] at e; cases e
      have LL := L.2 _ _ _ _ _ _ _ hs hf
      refine ⟨LL.le, LL.fr, LL.ltR, LL.ltW, LL.keep, LL.live, fun h2 a b => ?_⟩
      obtain ⟨g, c, t, u⟩ := LL.again h2 a b
      exact ⟨g, by unfold logged; rw [c], t, u⟩
theorem loc_anyOps (P : Program) (C : Cfg F) [HardLoc C] {call : Cl F} (hc : ClLoc call) (ops : Array Oper) (bef : Array Nat) : ∀ (l : List Oper) (i : Nat) (ds : List Did) (ts : Tr Value), Loc (anyOps P C call ops bef l i ds ts)
  | [], _, _, _ => loc_ret _
  | o :: l, i, ds, ts => by
    have key : anyOps P C call ops bef (o :: l) i ds ts = bind (logged (scp (step1 P C call ops ts o))) (fun x => cond (idle ⟨i, x.2.2.2.1, x.2.2.2.2, x.2.1, x.2.2.1⟩ || apartAll ⟨i, x.2.2.2.1, x.2.2.2.2, x.2.1, x.2.2.1⟩ (bef.getD i 0) ds)
          (anyOps P C call ops bef l (Nat.succ i) (noted ⟨i, x.2.2.2.1, x.2.2.2.2, x.2.1, x.2.2.1⟩ ds) (put ts o.dst x.1)) fail) := by
      funext h nx
      rw [any_cons, bind_eq]
      unfold logged
      cases scp (step1 P C call ops ts o) h nx with
      | no => rfl
      | ok v h1 nx1 R W =>
        simp only
        cases (idle ⟨i, R, W, nx, nx1⟩ || apartAll ⟨i, R, W, nx, nx1⟩ (bef.getD i 0) ds) with
        | false => rfl
        | true =>
          simp only [cond_true]
          cases anyOps P C call ops bef l (Nat.succ i) (noted ⟨i, R, W, nx, nx1⟩ ds) (put ts o.dst v) h1 nx1 <;> rfl
    rw [key]
    exact loc_bind (loc_logged (loc_scp (loc_step1 P C hc ops ts o))) fun x => loc_cond (loc_anyOps P C hc ops bef l _ _ _) loc_fail
theorem Mod.heap {r : Ren} {g : Nat → Option (Blk F)} {w w1 : World} (h : Mod S r g w) (e : w1.heap = w.heap) : Mod S r g w1 :=
  ⟨h.inj, fun n b hn => by rw [e]; exact h.lt n b hn, fun n c t hn => by
    obtain ⟨b, c', h1, h2, h3, h4⟩ := h.cells n c t hn
    exact ⟨b, c', h1, by rw [e]; exact h2, h3, h4⟩, fun n f hn => by
    obtain ⟨v, h1, h2, h3⟩ := h.fact n f hn
    exact ⟨v, h1, S.stable f w w1 v h2 fun b c t z hb _ => by rw [e]; exact hb, h3⟩, S.baseS w w1 h.base fun b o _ hb => by rw [e]; exact hb, h.glob, h.own, fun n c t hn => by
    obtain ⟨b, c', h1, h2, h3, h4, h5⟩ := h.room n c t hn
    exact ⟨b, c', h1, by rw [e]; exact h2, h3, h4, h5⟩, by rw [e]; exact h.sz, h.lp.mono (.refl r) (fun _ _ q => q) fun b L hb => by rw [e]; exact hb, h.ow.all (.refl r) (fun _ _ q => q) fun b o hb => by rw [e]; exact hb, h.ad⟩
structure Mid (S : Sig F) (X : Nat → Nat) (WW : Nat → List Nat) (n : Nat) (L : Nat → Bool) (r : Ren) (w : World) (r' : Ren) (w' : World) : Prop where
  le : r.le r'
  dom : ∀ m, r'.blk m ≠ none ∨ r'.val m ≠ none → (r.blk m ≠ none ∨ r.val m ≠ none) ∨ ∃ k, k < n ∧ L k = true ∧ X k ≤ m ∧ m < X (k + 1)
  new : ∀ m b, r'.blk m = some b → r.blk m = some b ∨ w.heap.size ≤ b ∨ ∃ k, k < n ∧ L k = true ∧ ∃ j ∈ WW k, r.blk j = some b
  keep : ∀ (b : Nat) (o : Obj), w.heap[b]? = some o → (∀ k, k < n → L k = true → ∀ m ∈ WW k, r.blk m ≠ some b) → w'.heap[b]? = some o
  size : w.heap.size ≤ w'.heap.size
  os : w'.os = w.os
  tape : w'.tape = w.tape
  output : w'.output = w.output
  loops : Loops w w'
theorem any_ok [HardLoc C] {call : Cl F} {ops : Array Oper} {N : Nat} (hF : Fits S P C) (hc : ClOK S P call) (ro : Option Nat) (n : Nat) (ds : List Deferred) (hok : okOps C N ops.toList = true) (htd : tidyRegion ops = true)
    {ts ts' : Tr Value} {h h' : Tr (Blk F)} {nx nx' : Nat} {R W : List Nat} {id : Nat} (e : Run (scp (anyOps P C call ops (Region.before ops) ops.toList 0 [] ts)) h nx ts' h' nx' R W)
    {r : Ren} {w : World} {a : Act} (hM : Mod S r h.get w) (hN : New r nx nx') (hT : TR r ts a) (hz : a.tmps.size = N) (hd : a.defers = ds) (hY : YOK S P call.ys r w) (Q : Exit → Act → World → Prop)
    (hQ : ∀ a' r' w', TR r' ts' a' → a'.tmps.size = N → a'.defers = ds → Ext S r w nx nx' W h'.get r' w' → Q .normal a' w') : (Code.region id ops true).wpIn (RF ro) n P Q a w := by
  obtain ⟨ok, hcan, hcan', hfr, ec, hR, hNn, ht, hu⟩ := e
  obtain ⟨R1, W1, e1, rfl, rfl, hb⟩ := scp_ok ec
  obtain ⟨T, H, X, V, RR, WW, h0, -, tr, hTn, hHn, hXn, hsub, hcov⟩ := any_trace ops.toList 0 [] ts ts' hcan hcan' nx nx' R1 W1 rfl e1 (fun _ => ts) (fun _ => hcan) (fun _ => nx) (fun _ => undef) (fun _ => []) (fun _ => []) rfl rfl rfl (fun k hk => by omega)
  simp only [Nat.zero_add, Array.length_toList] at tr hTn hHn hXn hsub hcov
  obtain ⟨hT0, hH0, hX0⟩ := h0 0 (Nat.le_refl _)
  obtain ⟨htt, hac⟩ := tidy_edges htd
  have hopsok : ∀ (j : Nat) (o : Oper), ops[j]? = some o → (∀ d, o.dst = some d → d < N) ∧ ∀ y ∈ o.op.operands.toList, okOpd C y = true := fun j o hj => okOps_mem hok o (List.mem_of_getElem? (by simpa using hj))
  have hfrX : ∀ j, j ≤ ops.size → Fr (H j) (X j) ∧ X 0 ≤ X j := by
    intro j
    induction j with
    | zero => intro _; rw [hH0, hX0]; exact ⟨hfr, Nat.le_refl _⟩
    | succ j ih =>
      intro hj
      obtain ⟨f1, f2⟩ := ih (by omega)
      have L := (loc_scp (loc_step1 P C hc.loc ops (T j) ops[j])).2 _ _ _ _ _ _ _ (tr.step j ops[j] (Nat.zero_le _) (by omega) (Array.getElem?_eq_getElem (by omega))) f1
      exact ⟨L.fr, Nat.le_trans f2 L.le⟩
  have hL : ∀ j (hj : j < ops.size), Lo (scp (step1 P C call ops (T j) ops[j])) (H j) (X j) (V j) (H (j + 1)) (X (j + 1)) (RR j) (WW j) := fun j hj =>
    (loc_scp (loc_step1 P C hc.loc ops (T j) ops[j])).2 _ _ _ _ _ _ _ (tr.step j ops[j] (Nat.zero_le _) hj (Array.getElem?_eq_getElem hj)) (hfrX j (by omega)).1
  have hXm : ∀ j k, j ≤ k → k ≤ ops.size → X j ≤ X k := by
    intro j k hjk
    induction hjk with
    | refl => intro _; exact Nat.le_refl _
    | step hjk ih => intro hk; exact Nat.le_trans (ih (by omega)) (hL _ (by omega)).le
  -- each new name has its maker
  have cover : ∀ j, j ≤ ops.size → ∀ m, nx ≤ m → m < X j → ∃ k, k < j ∧ X k ≤ m ∧ m < X (k + 1) := by
    intro j
    induction j with
    | zero => intro _ m a b; rw [hX0] at b; omega
    | succ j ih =>
      intro hj m a b
      by_cases hm : m < X j
      · obtain ⟨k, h1, h2, h3⟩ := ih (by omega) m a hm
        exact ⟨k, by omega, h2, h3⟩
      · exact ⟨j, by omega, by omega, b⟩
  let domH : Nat → Nat → Prop := fun k m => m ∈ WW k ∨ (X k ≤ m ∧ m < X (k + 1))
  let valH : Nat → Nat → Option (Blk F) := fun k m => (H (k + 1)).get m
  let domT : Nat → Nat → Prop := fun k t => (ops[k]?).bind (·.dst) = some t
  let valT : Nat → Nat → Value := fun k _ => V k
  let bit : Nat → Nat → Bool := fun j k => ((Region.before ops).getD j 0).testBit k
  have fullH : ∀ j, j ≤ ops.size → ∀ m, pf h.get domH valH (fun _ => true) j m = (H j).get m ∨ (pf h.get domH valH (fun _ => true) j m = h.get m ∧ (H j).get m = hcan.get m ∧ ∀ k, k < j → ¬ domH k m) := by
    intro j
    induction j with
    | zero => intro _ m; right; exact ⟨rfl, by rw [hH0], fun k hk => by omega⟩
    | succ j ih =>
      intro hj m
      have LL := hL j (by omega)
      by_cases hdm : domH j m
      · rw [pf_pos rfl hdm]; exact .inl rfl
      · rw [pf_neg (fun hh => hdm hh.2)]
        have hkeep : (H (j + 1)).get m = (H j).get m := by
          by_cases hm : m < X j
          · exact LL.keep m hm (fun hw => hdm (.inl hw))
          · have hm2 : X (j + 1) ≤ m := by
              rcases Nat.lt_or_ge m (X (j + 1)) with q | q
              · exact absurd (.inr ⟨by omega, q⟩) hdm
              · exact q
            rw [LL.fr m hm2, (hfrX j (by omega)).1 m (by omega)]
        rw [hkeep]
        rcases ih (by omega) m with q | ⟨q1, q2, q3⟩
        · exact .inl q
        · refine .inr ⟨q1, q2, fun k hk => ?_⟩
          by_cases hkj : k = j
          · subst hkj; exact hdm
          · exact q3 k (by omega)
  have fullT : ∀ j, j ≤ ops.size → ∀ t, pf (fun t => opd ts (.tmp t)) domT valT (fun _ => true) j t = opd (T j) (.tmp t) := by
    intro j
    induction j with
    | zero => intro _ t; show opd ts (.tmp t) = _; rw [hT0]
    | succ j ih =>
      intro hj t
      have ho : ops[j]? = some ops[j] := Array.getElem?_eq_getElem (by omega)
      rw [tr.next j ops[j] (Nat.zero_le _) (by omega) ho]
      have hdo : domT j t ↔ ops[j].dst = some t := by show (ops[j]?).bind (·.dst) = some t ↔ _; rw [ho, Option.bind_some]
      cases hdst : ops[j].dst with
      | none => rw [pf_neg (fun hh => by rw [hdo, hdst] at hh; cases hh.2), ih (by omega) t]; rfl
      | some d =>
        show _ = opd ((T j).set d (V j)) (.tmp t)
        rw [opd_put]
        by_cases htd2 : t = d
        · subst htd2; rw [if_pos rfl, pf_pos rfl (hdo.2 hdst)]
        · rw [if_neg htd2, pf_neg (fun hh => by rw [hdo, hdst] at hh; exact htd2 (Option.some.inj hh.2).symm), ih (by omega) t]
  have exT : ∀ (L : Nat → Bool) (n : Nat), n ≤ ops.size → ∃ g : Tr (Blk F), ∀ m, g.get m = pf h.get domH valH L n m := by
    intro L n
    induction n with
    | zero => intro _; exact ⟨h, fun _ => rfl⟩
    | succ n ih =>
      intro hn
      obtain ⟨g, hg⟩ := ih (by omega)
      cases hLn : L n with
      | false => exact ⟨g, fun m => by rw [pf_neg (fun hh => by rw [hLn] at hh; exact absurd hh.1 (by decide))]; exact hg m⟩
      | true =>
        have LL := hL n (by omega)
        obtain ⟨g', hg'⟩ := ex_over g (fun m => ((H (n + 1)).get m).getD (.cells [] 0)) (WW n ++ List.range' (X n) (X (n + 1) - X n))
        refine ⟨g', fun m => ?_⟩
        rw [hg']
        have hiff : m ∈ WW n ++ List.range' (X n) (X (n + 1) - X n) ↔ domH n m := by
          rw [List.mem_append, List.mem_range'_1]
          have := LL.le
          constructor
          · rintro (q | q)
            · exact .inl q
            · exact .inr ⟨q.1, by omega⟩
          · rintro (q | q)
            · exact .inl q
            · exact .inr ⟨q.1, by omega⟩
        by_cases hdm : domH n m
        · rw [if_pos (hiff.2 hdm), pf_pos hLn hdm]
          have hs : ((H (n + 1)).get m).isSome := LL.live m (hdm.elim .inl fun q => .inr (.inl q))
          show _ = (H (n + 1)).get m
          obtain ⟨x, hx⟩ := Option.isSome_iff_exists.1 hs
          rw [hx]; rfl
        · rw [if_neg (fun q => hdm (hiff.1 q)), pf_neg (fun hh => hdm hh.2)]
          exact hg m
  have hbit : ∀ (j k : Nat) (o : Oper), ops[j]? = some o → bit j k = true → ∃ e ∈ o.after, Region.binds .any e = true ∧ e.on < j ∧ (e.on = k ∨ bit e.on k = true) := by
    intro j k o hj hbk
    obtain ⟨e, he, hbd, hk⟩ := before_bit hj (hac j o hj) hbk
    exact ⟨e, he, hbd, hac j o hj e he hbd, hk⟩
  let w1 : World := { w with drawn := w.drawn + 1 }
  have hM1 : Mod S r h.get w1 := hM.heap rfl
  let Inv : Array Bool → Act → World → Prop := fun listed a' w' =>
    (∀ j, j < ops.size → listed.getD j false = true → ∀ k, bit j k = true → listed.getD k false = true) ∧ a'.tmps.size = N ∧ a'.defers = ds ∧
    ∃ r', Mid S X WW ops.size (fun k => listed.getD k false) r w r' w' ∧ Mod S r' (pf h.get domH valH (fun k => listed.getD k false) ops.size) w' ∧
      ∀ t, VR r' (pf (fun t => opd ts (.tmp t)) domT valT (fun k => listed.getD k false) ops.size t) (a'.eval (.tmp t))
  refine wpIn_region_any hF.mixed (wpAny_by Inv hac ?_ ?_ ops.size (Array.replicate ops.size false) a w1 (by simp) (by simp) ?_)
  · -- one more
    intro i o listed a' w' ho hsz hun hall hI
    obtain ⟨hcl, hz', hd', r', hmid, hmod, htm⟩ := hI
    have hi : i < ops.size := (Array.getElem?_eq_some_iff.1 ho).1
    have hoi : ops[i] = o := (Array.getElem?_eq_some_iff.1 ho).2
    have hunl : listed.getD i false = false := by
      have h1 : i < listed.size := by omega
      simp only [Array.getD, h1, dite_true] at hun ⊢
      exact hun
    have hset : ∀ k, (listed.setIfInBounds i true).getD k false = if k = i then true else listed.getD k false := by
      intro k
      rw [Array.getD_eq_getD_getElem?, Array.getElem?_setIfInBounds, Array.getD_eq_getD_getElem?]
      by_cases hk : k = i
      · subst hk; simp [show k < listed.size by omega]
      · rw [if_neg (fun q => hk q.symm), if_neg hk]
    have hpre : ∀ k, bit i k = true → listed.getD k false = true := by
      intro k hbk
      obtain ⟨e, he, hbd, hlt, hk⟩ := hbit i k o ho hbk
      have h1 := hall e he hbd
      rcases hk with rfl | hk
      · exact h1
      · exact hcl e.on (by omega) h1 k hk
    have hnl : ∀ k, k < ops.size → listed.getD k false = true → bit k i = true → False := fun k hk hlk hbk => by
      have := hcl k hk hlk i hbk
      rw [hunl] at this; cases this
    have LL := hL i hi
    rw [hoi] at LL
    -- what it reads is as it was
    have cA : ∀ m ∈ RR i, m < X i → pf h.get domH valH (fun k => listed.getD k false) ops.size m = (H i).get m := by
      intro m hm hmx
      have hsame : pf h.get domH valH (fun k => listed.getD k false) ops.size m = pf h.get domH valH (fun _ => true) i m := by
        refine pf_same ops.size (Nat.le_of_lt hi) fun k hk hdk => ?_
        rcases Nat.lt_trichotomy k i with hlt | rfl | hgt
        · refine ⟨fun _ => hlt, fun _ => ?_⟩
          rcases tr.apart i k hlt (Nat.zero_le _) hi with hbk | hap
          · exact hpre k hbk
          · rcases hdk with q | q
            · exact absurd hm (hap.wr m q)
            · exact absurd q (hap.out m hm)
        · exact ⟨fun q => by rw [hunl] at q; exact absurd q (by decide), fun q => absurd q (Nat.lt_irrefl _)⟩
        · refine ⟨fun q => ?_, fun q => by omega⟩
          rcases tr.apart k i hgt (Nat.zero_le _) hk with hbk | hap
          · exact (hnl k hk q hbk).elim
          · rcases hdk with p | p
            · exact absurd p (hap.rw m hm)
            · have := hXm i k (Nat.le_of_lt hgt) (Nat.le_of_lt hk); omega
      rw [hsame]
      rcases fullH i (Nat.le_of_lt hi) m with q | ⟨q1, q2, q3⟩
      · exact q
      · rw [q1, q2]
        have hmn : m < nx := by
          rcases Nat.lt_or_ge m nx with q | q
          · exact q
          · obtain ⟨k, a1, a2, a3⟩ := cover i (Nat.le_of_lt hi) m q hmx
            exact absurd (.inr ⟨a2, a3⟩) (q3 k a1)
        exact hR m (mem_below.2 ⟨hmn, (hsub i (Nat.zero_le _) hi).2 m hm⟩) hmn
    have cB : ∀ m, X i ≤ m → m < X (i + 1) → pf h.get domH valH (fun k => listed.getD k false) ops.size m = none := by
      intro m a1 a2
      rw [pf_none ops.size]
      · refine hNn m ?_ ?_
        · have := (hfrX i (Nat.le_of_lt hi)).2; rw [hX0] at this; omega
        · have := hXm (i + 1) ops.size (by omega) (Nat.le_refl _); rw [hXn] at this; omega
      · intro k hk hdk
        rcases Nat.lt_trichotomy k i with hlt | rfl | hgt
        · have hx := hXm (k + 1) i (by omega) (Nat.le_of_lt hi)
          rcases hdk with q | q
          · have := (hL k hk).ltW m q; omega
          · omega
        · exact hunl
        · have hx := hXm (i + 1) k (by omega) (Nat.le_of_lt hk)
          rcases hdk with q | q
          · cases hlk : listed.getD k false with
            | false => rfl
            | true =>
              rcases tr.apart k i hgt (Nat.zero_le _) hk with hbk | hap
              · exact (hnl k hk hlk hbk).elim
              · exact absurd ⟨a1, a2⟩ (hap.outW m q)
          · omega
    have cT : ∀ t ∈ namesOf ops o, pf (fun t => opd ts (.tmp t)) domT valT (fun k => listed.getD k false) ops.size t = opd (T i) (.tmp t) := by
      intro t htn
      rw [← fullT i (Nat.le_of_lt hi) t]
      refine pf_same ops.size (Nat.le_of_lt hi) fun k hk hdk => ?_
      have hok : ops[k]? = some ops[k] := Array.getElem?_eq_getElem hk
      have hdk' : ops[k].dst = some t := by
        have h1 : (ops[k]?).bind (·.dst) = some t := hdk
        rw [hok, Option.bind_some] at h1; exact h1
      rcases tidy_ok htt ho hok hdk' htn with rfl | hbk
      · exact ⟨fun q => by rw [hunl] at q; exact absurd q (by decide), fun q => absurd q (Nat.lt_irrefl _)⟩
      · rcases Nat.lt_trichotomy k i with hlt | rfl | hgt
        · rw [Nat.max_eq_right (Nat.le_of_lt hlt), Nat.min_eq_left (Nat.le_of_lt hlt)] at hbk
          exact ⟨fun _ => hlt, fun _ => hpre k hbk⟩
        · exact ⟨fun q => by rw [hunl] at q; exact absurd q (by decide), fun q => absurd q (Nat.lt_irrefl _)⟩
        · rw [Nat.max_eq_left (Nat.le_of_lt hgt), Nat.min_eq_right (Nat.le_of_lt hgt)] at hbk
          exact ⟨fun q => (hnl k hk q hbk).elim, fun q => by omega⟩
    obtain ⟨g2, hg2⟩ := exT (fun k => listed.getD k false) ops.size (Nat.le_refl _)
    obtain ⟨g3, run3, t3, u3⟩ := Run.of (loc_scp (loc_step1 P C hc.loc ops (T i) o)) (tr.step i o (Nat.zero_le _) hi ho) (hfrX i (Nat.le_of_lt hi)).1 (h := g2) (fun m hm hl => by rw [hg2]; exact cA m hm hl) (fun m a1 a2 => by rw [hg2]; exact cB m a1 a2)
    obtain ⟨R3, W3, run4, hR3, hW3, hW3l⟩ := run3.scp (loc_step1 P C hc.loc ops (T i) o)
    have hmod2 : Mod S r' g2.get w' := hmod.congr fun m => .inr (hg2 m)
    have hxi := hXm i ops.size (Nat.le_of_lt hi) (Nat.le_refl _)
    have hxi1 := hXm (i + 1) ops.size (by omega) (Nat.le_refl _)
    have hx0 := (hfrX i (Nat.le_of_lt hi)).2
    rw [hX0] at hx0
    rw [hXn] at hxi hxi1
    have hnew : New r' (X i) (X (i + 1)) := by
      intro m a1 a2
      have hno := hN m (by omega) (by omega)
      have hkey : ¬ (r'.blk m ≠ none ∨ r'.val m ≠ none) := by
        intro q
        rcases hmid.dom m q with p | ⟨k, hk, hlk, b1, b2⟩
        · rcases p with p | p
          · exact p hno.1
          · exact p hno.2
        · rcases Nat.lt_trichotomy k i with hlt | rfl | hgt
          · have := hXm (k + 1) i (by omega) (Nat.le_of_lt hi); omega
          · rw [hunl] at hlk; cases hlk
          · have := hXm (i + 1) k (by omega) (Nat.le_of_lt hk); omega
      exact ⟨Classical.byContradiction fun q => hkey (.inl q), Classical.byContradiction fun q => hkey (.inr q)⟩
    have hO : OR r' (T i) a' o.op.operands.toList := by
      intro y hy
      refine opd_ok (C := C) (fun t hyt => ?_) (fun n hn => hmod2.glob n (hF.G ▸ hn)) ((hopsok i o ho).2 y hy)
      have htn : t ∈ namesOf ops o := by
        unfold namesOf
        rw [List.mem_append, List.mem_append]
        refine .inl (.inr ?_)
        rw [List.mem_filterMap]
        exact ⟨y, hy, by rw [hyt]⟩
      rw [← cT t htn]; exact htm t
    have hG : GR r' ops (T i) a' o := by
      intro j b t hgd hdj
      have htn : t ∈ namesOf ops o := by
        unfold namesOf
        rw [List.mem_append]
        refine .inr ?_
        rw [hgd]
        simp only
        rw [hdj]; simp
      rw [← cT t htn]; exact htm t
    unfold wpOpIn
    rw [ho]
    refine step1_ok (a := a') hF hc run4 hmod2 hnew hO hG (hY.mono ⟨hmid.le, fun b ob hb hno => hmid.keep b ob hb fun k _ _ m _ => hno m, fun k b hk => by
      rcases hmid.new k b hk with q | q | ⟨_, _, _, j, _, q⟩
      · exact .inl ⟨k, q⟩
      · exact .inr q
      · exact .inl ⟨j, q⟩, hmid.size, hmid.loops⟩) ro n Q _ fun v' r2 w2 hv hX3 => ?_
    have hX2 := hX3.below hnew hW3l
    rw [← hW3] at hX2
    -- the state again
    have hheap : ∀ m, g3.get m = pf h.get domH valH (fun k => (listed.setIfInBounds i true).getD k false) ops.size m := by
      intro m
      rw [pf_set (L := fun k => listed.getD k false) (i := i) (fun k => hset k) ops.size hi (fun k hik hk hlk hdk hdi => by
        rcases tr.apart k i hik (Nat.zero_le _) hk with hbk | hap
        · exact hnl k hk hlk hbk
        · have hx := hXm (i + 1) k (by omega) (Nat.le_of_lt hk)
          rcases hdk with p | p <;> rcases hdi with q | q
          · exact hap.ww m q p
          · exact hap.outW m p q
          · have := LL.ltW m q; omega
          · omega)]
      by_cases hdi : domH i m
      · rw [if_pos hdi]
        have hlt : m < X (i + 1) := by
          rcases hdi with q | q
          · exact LL.ltW m q
          · exact q.2
        exact t3 m (hdi.elim .inl fun q => .inr q.1) hlt
      · rw [if_neg hdi, u3 m (fun q => hdi (.inl q)) (fun q => hdi (.inr q)), hg2]
    refine ⟨?_, (put_size _ _ _).trans hz', (put_defers _ _ _).trans hd', r2, ?_, hX2.mod.congr fun m => .inr (hheap m).symm, ?_⟩
    · intro j hj hlj k hbk
      rw [hset] at hlj ⊢
      by_cases hki : k = i
      · rw [if_pos hki]
      · rw [if_neg hki]
        by_cases hji : j = i
        · subst hji; exact hpre k hbk
        · rw [if_neg hji] at hlj; exact hcl j hj hlj k hbk
    · refine ⟨hmid.le.trans hX2.le, fun m q => ?_, fun m b q => ?_, fun b ob hob hk => ?_, Nat.le_trans hmid.size hX2.size, hX2.os.trans hmid.os, hX2.tape.trans hmid.tape, hX2.output.trans hmid.output, hmid.loops.trans hX2.loops⟩
      · rcases hX2.dom m q with p | p
        · rcases hmid.dom m p with p | ⟨k, hk, hlk, b1, b2⟩
          · exact .inl p
          · exact .inr ⟨k, hk, by rw [hset]; split <;> first | rfl | exact hlk, b1, b2⟩
        · exact .inr ⟨i, hi, by rw [hset, if_pos rfl], p.1, p.2⟩
      · have hup : (∃ k, k < ops.size ∧ listed.getD k false = true ∧ ∃ j ∈ WW k, r.blk j = some b) → ∃ k, k < ops.size ∧ (listed.setIfInBounds i true).getD k false = true ∧ ∃ j ∈ WW k, r.blk j = some b := fun ⟨k, hk, hlk, y⟩ => ⟨k, hk, by rw [hset]; split <;> first | rfl | exact hlk, y⟩
        rcases hX2.new m b q with p | p | ⟨j, hj, p⟩
        · exact (hmid.new m b p).imp (fun y => y) (Or.imp (fun y => y) hup)
        · exact .inr (.inl (Nat.le_trans hmid.size p))
        · rcases hmid.new j b p with p | p | p
          · exact .inr (.inr ⟨i, hi, by rw [hset, if_pos rfl], j, hj, p⟩)
          · exact .inr (.inl p)
          · exact .inr (.inr (hup p))
      · refine hX2.keep b ob (hmid.keep b ob hob fun k hk2 hlk m hm => hk k hk2 (by rw [hset]; split <;> first | rfl | exact hlk) m hm) fun m hm q => ?_
        rcases hmid.new m b q with p | p | ⟨k, hk2, hlk, j, hj, p⟩
        · exact hk i hi (by rw [hset, if_pos rfl]) m hm p
        · have := (Array.getElem?_eq_some_iff.1 hob).1; omega
        · exact hk k hk2 (by rw [hset]; split <;> first | rfl | exact hlk) j hj p
    · intro t
      have hdi : domT i t ↔ o.dst = some t := by show (ops[i]?).bind (·.dst) = some t ↔ _; rw [ho, Option.bind_some]
      rw [pf_set (L := fun k => listed.getD k false) (i := i) (fun k => hset k) ops.size hi (fun k hik hk hlk hdk hdi2 => by
        have hok : ops[k]? = some ops[k] := Array.getElem?_eq_getElem hk
        have hdk' : ops[k].dst = some t := by
          have h1 : (ops[k]?).bind (·.dst) = some t := hdk
          rw [hok, Option.bind_some] at h1; exact h1
        have htn : t ∈ namesOf ops o := by
          unfold namesOf
          rw [List.mem_append, List.mem_append]
          exact .inl (.inl (by rw [hdi.1 hdi2]; simp))
        rcases tidy_ok htt ho hok hdk' htn with rfl | hbk
        · omega
        · rw [Nat.max_eq_left (Nat.le_of_lt hik), Nat.min_eq_right (Nat.le_of_lt hik)] at hbk
          exact hnl k hk hlk hbk)]
      cases hdst : o.dst with
      | none =>
        rw [if_neg (fun q => by rw [hdi, hdst] at q; cases q)]
        exact (htm t).mono hX2.le
      | some d =>
        rw [eval_put a' d v' t (by rw [hz']; exact (hopsok i o ho).1 d hdst)]
        by_cases htd2 : t = d
        · subst htd2
          rw [if_pos (hdi.2 hdst), if_pos rfl]
          exact hv
        · rw [if_neg (fun q => by rw [hdi, hdst] at q; exact htd2 (Option.some.inj q).symm), if_neg htd2]
          exact (htm t).mono hX2.le
  · -- all done
    intro listed a' w' hI hall
    obtain ⟨-, hz', hd', r', hmid, hmod, htm⟩ := hI
    have hall' : ∀ k, k < ops.size → listed.getD k false = true := hall
    have hH : ∀ m, pf h.get domH valH (fun k => listed.getD k false) ops.size m = h'.get m := by
      intro m
      rw [pf_same (i := ops.size) ops.size (Nat.le_refl _) fun k hk _ => ⟨fun _ => hk, fun _ => hall' k hk⟩]
      by_cases hdm : ∃ k, k < ops.size ∧ domH k m
      · obtain ⟨k, hk, hdk⟩ := hdm
        rcases fullH ops.size (Nat.le_refl _) m with q | ⟨_, _, q3⟩
        · rw [q, hHn]
          have hx1 := hXm (k + 1) ops.size (by omega) (Nat.le_refl _)
          have hx2 := (hfrX k (Nat.le_of_lt hk)).2
          rw [hX0] at hx2
          rw [hXn] at hx1
          rcases hdk with p | p
          · have hlt := (hL k hk).ltW m p
            by_cases hmn : m < nx
            · exact (ht m (.inl (mem_below.2 ⟨hmn, (hsub k (Nat.zero_le _) hk).1 m p⟩)) (by omega)).symm
            · exact (ht m (.inr (by omega)) (by omega)).symm
          · exact (ht m (.inr (by omega)) (by omega)).symm
        · exact absurd hdk (q3 k hk)
      · rw [pf_none ops.size fun k hk q => absurd ⟨k, hk, q⟩ hdm]
        refine (hu m (fun q => ?_) (fun q => ?_)).symm
        · obtain ⟨j, _, hj, hw⟩ := hcov m (mem_below.1 q).2
          exact hdm ⟨j, hj, .inl hw⟩
        · rw [← hXn] at q
          obtain ⟨k, hk, p⟩ := cover ops.size (Nat.le_refl _) m q.1 q.2
          exact hdm ⟨k, hk, .inr p⟩
    refine hQ a' r' w' (fun t => ?_) hz' hd' ⟨hmid.le, hmod.congr fun m => .inr (hH m).symm, fun m q => ?_, fun m b q => (hmid.new m b q).imp (fun y => y) (Or.imp (fun y => y) fun ⟨k, hk, _, j, hj, p⟩ => ⟨j, mem_below.2 ⟨(by
      rcases Nat.lt_or_ge j nx with hjn | hjn
      · exact hjn
      · have hlt := (hL k hk).ltW j hj
        have hx1 := hXm (k + 1) ops.size (by omega) (Nat.le_refl _)
        rw [hXn] at hx1
        rw [(hN j (by omega) (by omega)).1] at p; cases p), (hsub k (Nat.zero_le _) hk).1 j hj⟩, p⟩), fun b ob hob hk => hmid.keep b ob hob fun k hk2 _ m hm q => ?_, hmid.size, hmid.os, hmid.tape, hmid.output, hmid.loops⟩
    · have h1 := htm t
      rw [pf_same (i := ops.size) ops.size (Nat.le_refl _) fun k hk _ => ⟨fun _ => hk, fun _ => hall' k hk⟩, fullT ops.size (Nat.le_refl _) t, hTn] at h1
      exact h1
    · rcases hmid.dom m q with p | ⟨k, hk, _, b1, b2⟩
      · exact .inl p
      · have hx1 := hXm (k + 1) ops.size (by omega) (Nat.le_refl _)
        have hx2 := (hfrX k (Nat.le_of_lt hk)).2
        rw [hX0] at hx2
        rw [hXn] at hx1
        exact .inr ⟨by omega, by omega⟩
    · by_cases hmn : m < nx
      · exact hk m (mem_below.2 ⟨hmn, (hsub k (Nat.zero_le _) hk2).1 m hm⟩) q
      · have hlt := (hL k hk2).ltW m hm
        have hx1 := hXm (k + 1) ops.size (by omega) (Nat.le_refl _)
        rw [hXn] at hx1
        rw [(hN m (by omega) (by omega)).1] at q; cases q
  · -- at the start
    have hno : ∀ k, (Array.replicate ops.size false).getD k false = false := by
      intro k
      rw [Array.getD_eq_getD_getElem?]
      by_cases hk : k < ops.size
      · simp [hk]
      · simp [hk]
    refine ⟨fun j _ hlj => (by rw [hno] at hlj; exact absurd hlj (by decide)), hz, hd, r, ⟨.refl r, fun m q => .inl q, fun m b q => .inl q, fun b ob hob _ => hob, Nat.le_refl _, rfl, rfl, rfl, .of fun _ _ q => q⟩, hM1.congr fun m => .inr (pf_none _ fun k _ _ => hno k), fun t => ?_⟩
    rw [pf_none _ fun k _ _ => hno k]
    exact hT t
end
end Ev
end Go.Proofs.YtfmebfkdpfbjbaaGreatDoor
