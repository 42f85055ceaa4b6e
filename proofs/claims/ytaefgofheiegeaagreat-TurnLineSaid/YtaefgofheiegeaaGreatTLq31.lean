/- Contracts. -/
import Derived.Test.YtaefgofheiegeaaGreatTLq28
import Derived.Test.YtaefgofheiegeaaGreatTLq29
import Derived.Test.YtaefgofheiegeaaGreatTLq30
import Derived.Test.YtaefgofheiegeaaGreatRows
import Derived.Test.YtaefgofheiegeaaGreatChecked
import Derived.WalkKit
import Derived.ProofKit
import Derived.OpenShut
import Derived.ChangeSame
import Derived.ChangeVars
import Derived.JoinedOf
import Derived.Stop.Joined
import Derived.HandedShaped
import Derived.Test.YtaefgofheiegeaaGreatTLq24
import Derived.ChangeSlices
namespace Go.Proofs.YtaefgofheiegeaaGreat
open Go Go.RowKit
namespace Ev
set_option maxRecDepth 100000
theorem reF_len : ∀ (l : List Rat) (k : Nat), (reF k l).length = l.length ∧ (imF k l).length = l.length
  | [], _ => ⟨rfl, rfl⟩
  | a :: l, k => by
    obtain ⟨h1, h2⟩ := reF_len l (k + 1)
    exact ⟨by show (reF (k + 1) l).length + 1 = _; rw [h1]; rfl, by show (imF (k + 1) l).length + 1 = _; rw [h2]; rfl⟩
theorem reF_get : ∀ (l : List Rat) (k i : Nat), i < l.length → (reF k l).getD i 0 = rotR (k + i) (l.getD i 0) ∧ (imF k l).getD i 0 = rotI (k + i) (l.getD i 0)
  | [], _, _, h => by simp at h
  | a :: l, k, 0, _ => ⟨rfl, rfl⟩
  | a :: l, k, i + 1, h => by
    have := reF_get l (k + 1) i (by simpa using h)
    rw [show k + (i + 1) = k + 1 + i by omega]
    exact this
theorem reF_map (l : List Rat) : (List.range l.length).map (fun k => rotR k (l.getD k 0)) = reF 0 l ∧ (List.range l.length).map (fun k => rotI k (l.getD k 0)) = imF 0 l := by
  obtain ⟨n1, n2⟩ := reF_len l 0
  constructor
  · apply List.ext_getElem?
    intro i
    rw [List.getElem?_map]
    rcases Nat.lt_or_ge i l.length with h | h
    · have := (reF_get l 0 i h).1
      rw [List.getD_eq_getElem?_getD (l := reF 0 l), List.getElem?_eq_getElem (by omega), Nat.zero_add] at this
      rw [List.getElem?_range h, List.getElem?_eq_getElem (by omega)]
      exact congrArg some this.symm
    · rw [List.getElem?_eq_none (by simpa using h), List.getElem?_eq_none (by omega)]; rfl
  · apply List.ext_getElem?
    intro i
    rw [List.getElem?_map]
    rcases Nat.lt_or_ge i l.length with h | h
    · have := (reF_get l 0 i h).2
      rw [List.getD_eq_getElem?_getD (l := imF 0 l), List.getElem?_eq_getElem (by omega), Nat.zero_add] at this
      rw [List.getElem?_range h, List.getElem?_eq_getElem (by omega)]
      exact congrArg some this.symm
    · rw [List.getElem?_eq_none (by simpa using h), List.getElem?_eq_none (by omega)]; rfl
theorem rot_fit {a : Rat} (h : Fit a) (k : Nat) : Fit (rotR k a) ∧ Fit (rotI k a) := by
  unfold rotR rotI
  constructor <;> (repeat' split) <;> first | exact h | exact fit_neg h | exact fit00
theorem reF_fit : ∀ (l : List Rat) (k : Nat), (∀ x ∈ l, Fit x) → (∀ x ∈ reF k l, Fit x) ∧ ∀ x ∈ imF k l, Fit x
  | [], _, _ => ⟨fun x h => by simp [reF] at h, fun x h => by simp [imF] at h⟩
  | a :: l, k, hl => by
    obtain ⟨h1, h2⟩ := reF_fit l (k + 1) fun x h => hl x (List.mem_cons_of_mem _ h)
    have ha := rot_fit (hl a List.mem_cons_self) k
    refine ⟨fun x h => ?_, fun x h => ?_⟩
    · rcases List.mem_cons.1 (show x ∈ rotR k a :: reF (k + 1) l from h) with rfl | h
      · exact ha.1
      · exact h1 x h
    · rcases List.mem_cons.1 (show x ∈ rotI k a :: imF (k + 1) l from h) with rfl | h
      · exact ha.2
      · exact h2 x h
theorem trim_top {l : List Rat} {m : Nat} (hm : TrimAt l m) {i : Nat} (hi : i < l.length) (h : l.getD i 0 ≠ 0) : i < m := by
  rcases Nat.lt_or_ge i m with q | q
  · exact q
  · refine absurd ?_ h
    rw [List.getD_eq_getElem?_getD, hm.zero i q hi]; rfl
theorem okM_ok {l : List Rat} (hl : l ≠ [] → l.getLastD 0 ≠ 0) {m1 m2 : Nat} (h1 : TrimAt (reF 0 l) m1) (h2 : TrimAt (imF 0 l) m2) : okM l.length m1 m2 = true := by
  obtain ⟨n1, n2⟩ := reF_len l 0
  have l1 := h1.le
  have l2 := h2.le
  have a1 : m1 = 0 ∨ m1 % 2 = 1 := by
    rcases Nat.eq_zero_or_pos m1 with q | q
    · exact .inl q
    · right
      have := h1.last q
      rw [(reF_get l 0 (m1 - 1) (by omega)).1, Nat.zero_add] at this
      unfold rotR at this
      rcases (show (m1 - 1) % 4 = 0 ∨ (m1 - 1) % 4 = 1 ∨ (m1 - 1) % 4 = 2 ∨ (m1 - 1) % 4 = 3 by omega) with e | e | e | e
      · omega
      · rw [if_neg (by omega), if_neg (by omega)] at this
        exact absurd rfl this
      · omega
      · rw [if_neg (by omega), if_neg (by omega)] at this
        exact absurd rfl this
  have a2 : m2 % 2 = 0 := by
    rcases Nat.eq_zero_or_pos m2 with q | q
    · subst q; rfl
    · have := h2.last q
      rw [(reF_get l 0 (m2 - 1) (by omega)).2, Nat.zero_add] at this
      unfold rotI at this
      rcases (show (m2 - 1) % 4 = 0 ∨ (m2 - 1) % 4 = 1 ∨ (m2 - 1) % 4 = 2 ∨ (m2 - 1) % 4 = 3 by omega) with e | e | e | e
      · rw [if_neg (by omega), if_neg (by omega)] at this
        exact absurd rfl this
      · omega
      · rw [if_neg (by omega), if_neg (by omega)] at this
        exact absurd rfl this
      · omega
  have a3 : l.length = 0 ∨ (l.length % 2 = 1 ∧ m1 = l.length) ∨ (l.length % 2 = 0 ∧ m2 = l.length) := by
    rcases Nat.eq_zero_or_pos l.length with q | q
    · exact .inl q
    · right
      have hne : l ≠ [] := fun e => by rw [e] at q; simp at q
      have hlast := hl hne
      rw [lastD_get] at hlast
      have hneg : ∀ {x : Rat}, x ≠ 0 → -x ≠ 0 := fun {x} h e => h (by grind)
      rcases (show (l.length - 1) % 4 = 0 ∨ (l.length - 1) % 4 = 1 ∨ (l.length - 1) % 4 = 2 ∨ (l.length - 1) % 4 = 3 by omega) with e | e | e | e
      · left
        refine ⟨by omega, ?_⟩
        have := trim_top h1 (i := l.length - 1) (by omega) (by
          rw [(reF_get l 0 (l.length - 1) (by omega)).1, Nat.zero_add]
          unfold rotR
          rw [if_pos e]
          exact hlast)
        omega
      · right
        refine ⟨by omega, ?_⟩
        have := trim_top h2 (i := l.length - 1) (by omega) (by
          rw [(reF_get l 0 (l.length - 1) (by omega)).2, Nat.zero_add]
          unfold rotI
          rw [if_pos e]
          exact hlast)
        omega
      · left
        refine ⟨by omega, ?_⟩
        have := trim_top h1 (i := l.length - 1) (by omega) (by
          rw [(reF_get l 0 (l.length - 1) (by omega)).1, Nat.zero_add]
          unfold rotR
          rw [if_neg (by omega), if_pos e]
          exact hneg hlast)
        omega
      · right
        refine ⟨by omega, ?_⟩
        have := trim_top h2 (i := l.length - 1) (by omega) (by
          rw [(reF_get l 0 (l.length - 1) (by omega)).2, Nat.zero_add]
          unfold rotI
          rw [if_neg (by omega), if_pos e]
          exact hneg hlast)
        omega
  unfold okM
  rw [Bool.and_eq_true, Bool.and_eq_true, Bool.or_eq_true, Bool.or_eq_true]
  refine ⟨?_, by rw [a2]; rfl, ?_⟩
  · rcases a1 with q | q
    · exact .inl (by rw [q]; rfl)
    · exact .inr (by rw [q]; rfl)
  · rcases a3 with q | ⟨q1, q2⟩ | ⟨q1, q2⟩
    · exact .inl (by rw [q]; rfl)
    · right
      rw [q1]
      show Nat.beq m1 l.length = true
      rw [q2]; exact Nat.beq_refl _
    · right
      rw [q1]
      show Nat.beq m2 l.length = true
      rw [q2]; exact Nat.beq_refl _
theorem tl_run_ok {p : Bool} {n m1 m2 : Nat} (hn : n ≤ 9) (h1 : m1 ≤ n) (h2 : m2 ≤ n) (hk : okM n m1 m2 = true) : isTrue (tlRun p n m1 m2) = true := by
  have h0 : tlAll p n = true := by
    cases p
    · exact List.all_eq_true.1 tl_runF n (List.mem_range.2 (by omega))
    · exact List.all_eq_true.1 tl_runT n (List.mem_range.2 (by omega))
  have h3 := List.all_eq_true.1 (List.all_eq_true.1 h0 m1 (List.mem_range.2 (by omega))) m2 (List.mem_range.2 (by omega))
  rw [hk] at h3
  exact h3
structure Tl where
  n : Rat
  d : Rat
  t : Rat
  W : Rat × Rat
  z : Rat × Rat
  V : Rat × Rat
  Q : Rat × Rat
  S : List Rat
  g1 : Rat
  g2 : Rat
noncomputable def Tl.q (x : Tl) (i : Nat) : Rat := if 10 ≤ i ∧ i < 20 then x.S.getD (i - 10) 0 else match i with
  | 1 => x.n
  | 2 => x.d
  | 3 => x.t
  | 4 => x.W.1
  | 5 => x.W.2
  | 6 => x.z.1
  | 7 => x.z.2
  | 8 => x.V.1
  | 9 => x.V.2
  | 52 => -1
  | 53 => 1
  | 54 => x.Q.1
  | 55 => x.Q.2
  | 90 => x.g1
  | 91 => x.g2
  | 105 => wq 1
  | _ => 0
structure TlFit (x : Tl) : Prop where
  n : Fit x.n
  d : Fit x.d
  t : Fit x.t
  W : Fit x.W.1 ∧ Fit x.W.2
  z : Fit x.z.1 ∧ Fit x.z.2
  V : Fit x.V.1 ∧ Fit x.V.2
  Q : Fit x.Q.1 ∧ Fit x.Q.2
  S : ∀ y ∈ x.S, Fit y
  g1 : Fit x.g1
  g2 : Fit x.g2
theorem Tl.fit {x : Tl} (h : TlFit x) (i : Nat) : Fit (x.q i) := by
  unfold Tl.q
  split
  · exact getD_fit h.S _
  · split <;> first | exact h.n | exact h.d | exact h.t | exact h.W.1 | exact h.W.2 | exact h.z.1 | exact h.z.2 | exact h.V.1 | exact h.V.2 | exact fit_neg lc_fit1 | exact lc_fit1 | exact h.Q.1 | exact h.Q.2 | exact h.g1 | exact h.g2 | exact wq_fit (by decide) | exact fit00
theorem Tl.el (x : Tl) {i : Nat} (h : i < 10) : x.q (10 + i) = x.S.getD i 0 := by
  unfold Tl.q
  rw [if_pos (by omega), Nat.add_sub_cancel_left]
noncomputable def tlLst (qs p S : List Rat) (m1 m2 : Nat) : Nat → List Rat
  | 0 => qs
  | 5 => qs.take (min qs.length 8)
  | 9 => p
  | 70 => S
  | 71 => (reF 0 S).take m1
  | 72 => (imF 0 S).take m2
  | _ => []
def tlNat (a b : Nat) : Nat → Nat
  | 1 => a
  | 6 => min a 8
  | 7 => b
  | _ => 0
noncomputable def tlEnv (x : Tl) (hx : TlFit x) (qs p : List Rat) (m1 m2 lo : Nat) : Env := ⟨x.q, fun _ => (false, ⟨#[]⟩, ⟨#[]⟩), fun i _ => Tl.fit hx i, fun i => (Tl.fit hx i).sm.up (by decide), fun _ => bad_zero, lo, tlLst qs p x.S m1 m2, tlNat qs.length p.length, rfl⟩
theorem reE_ev (x : Tl) {k : Nat} (h : k < 10) : (reE k).ev x.q = rotR k (x.S.getD k 0) ∧ (imE k).ev x.q = rotI k (x.S.getD k 0) := by
  have he := x.el h
  have e0 : ((.c false 0 1 : Qe)).ev x.q = 0 := by show mkRat (Big.sI false 0) 1 = 0; rfl
  have ev : (Qe.v (10 + k)).ev x.q = x.S.getD k 0 := he
  have en : (Qe.neg (.v (10 + k))).ev x.q = -x.S.getD k 0 := by show -(x.q (10 + k)) = _; rw [he]
  unfold reE imE rotR rotI
  rcases (show k % 4 = 0 ∨ k % 4 = 1 ∨ k % 4 = 2 ∨ k % 4 = 3 by omega) with e | e | e | e <;> rw [e]
  · exact ⟨ev, e0⟩
  · exact ⟨e0, ev⟩
  · exact ⟨en, e0⟩
  · exact ⟨e0, en⟩
theorem trZ_ok {ρ : Env} {e : Nat → Qe} {l : List Rat} {m : Nat} (hm : TrimAt l m) (he : ∀ i, i < l.length → (e i).ev ρ.q = l.getD i 0) : ∀ n, n ≤ l.length → AllH ρ (trZ e m n)
  | 0, _ => fun x hx => by
    have hx' : x ∈ ([] : List As) := hx
    simp at hx'
  | n + 1, hn => fun x hx => by
    have ih := trZ_ok hm he n (by omega)
    have hx' : x ∈ cond (Nat.blt n m) (cond (Nat.beq (n + 1) m) (⟨1, e n, z0, false⟩ :: trZ e m n) (trZ e m n)) (⟨1, e n, z0, true⟩ :: trZ e m n) := hx
    cases hb : Nat.blt n m with
    | true =>
      rw [hb] at hx'
      simp only [cond_true] at hx'
      cases hc : Nat.beq (n + 1) m with
      | true =>
        rw [hc] at hx'
        simp only [cond_true, List.mem_cons] at hx'
        have hnm := Nat.eq_of_beq_eq_true hc
        rcases hx' with rfl | hx'
        · show false = true ↔ (e n).ev ρ.q = 0
          rw [he n (by omega)]
          have := hm.last (by omega)
          rw [show m - 1 = n by omega] at this
          exact ⟨fun h => (by cases h), fun h => absurd h this⟩
        · exact ih x hx'
      | false => rw [hc] at hx'; exact ih x hx'
    | false =>
      rw [hb] at hx'
      simp only [cond_false, List.mem_cons] at hx'
      have hnm : ¬ n < m := fun h => by
        have : Nat.blt n m = true := Nat.ble_eq_true_of_le h
        rw [hb] at this; cases this
      rcases hx' with rfl | hx'
      · show true = true ↔ (e n).ev ρ.q = 0
        rw [he n (by omega), List.getD_eq_getElem?_getD, hm.zero n (by omega) (by omega)]
        exact ⟨fun _ => rfl, fun _ => rfl⟩
      · exact ih x hx'
theorem i8_zi' {l : List Rat} (h : ∀ q ∈ l, q.den = 1 ∧ -128 ≤ q.num ∧ q.num ≤ 127) : ∀ x ∈ l, ZI 128 x := fun x hx => by
  obtain ⟨h1, h2, h3⟩ := h x hx
  refine ⟨x.num, ?_, by omega⟩
  apply Rat.ext
  · simp
  · simp [h1]
theorem zi_de {B : Nat} {x : Rat} (h : ZI B x) : Big.de x = 1 := by
  obtain ⟨z, rfl, _⟩ := h
  exact Rat.den_intCast z
theorem sg_fit (x : Rat) : Fit ((sgQ x : Int) : Rat) := by
  obtain ⟨_, h2, h3, h4⟩ := sg_iz x
  exact int_fit h2 h3 h4
theorem sgQ_ne {x : Rat} (h : x ≠ 0) : sgQ x ≠ 0 := by
  unfold sgQ
  split
  · decide
  · rw [if_neg fun q => h (Big.nu_zero.1 q)]; decide
theorem sg_row {l : List Rat} {m : Nat} (hm : TrimAt l m) : (Nat.beq m 0 = true) ↔ ((sgQ (l.getD (m - 1) 0) : Int) : Rat) = 0 := by
  rcases Nat.eq_zero_or_pos m with q | q
  · subst q
    have h0 : l.getD (0 - 1) 0 = 0 := by
      rw [List.getD_eq_getElem?_getD]
      cases hl : l[0 - 1]? with
      | none => rfl
      | some y =>
        have := hm.zero 0 (Nat.le_refl _) (List.getElem?_eq_some_iff.1 hl).1
        rw [show (0 : Nat) - 1 = 0 from rfl, this] at hl
        cases hl; rfl
    rw [h0]
    exact ⟨fun _ => rfl, fun _ => rfl⟩
  · have h1 := sgQ_ne (hm.last q)
    refine ⟨fun h => ?_, fun h => ?_⟩
    · have := Nat.eq_of_beq_eq_true h; omega
    · exact absurd (by exact_mod_cast h) h1
theorem turnLine_any (w : World) {v : Value} {qs : List Rat} (hv : LsIn 3 w v qs) (hq : ∀ q ∈ qs, q.den = 1 ∧ -128 ≤ q.num ∧ q.num ≤ 127) (n d : Int) (n0 : -32768 ≤ n) (n1 : n ≤ 32767) (d0 : -32768 ≤ d) (d1 : d ≤ 32767)
    (hG : Tryz.prog.globals.size ≤ w.heap.size) (hT : Tab w) : Calls Tryz.prog tlF ⟨[v, .int .i16 n, .int .i16 d]⟩ w fun e w' => e = .returned (.bool true) ∧ Below w.heap.size w w' := by
  obtain ⟨c8, hc8⟩ : ∃ c, c = qs.take (min qs.length 8) := ⟨_, rfl⟩
  obtain ⟨p, hpd⟩ : ∃ p, p = c8.take (tm c8) := ⟨_, rfl⟩
  have hzc : ∀ x ∈ c8, ZI 128 x := fun x hx => by rw [hc8] at hx; exact i8_zi' hq x (List.mem_of_mem_take hx)
  have hc8l : c8.length ≤ 8 := by rw [hc8, List.length_take]; omega
  have htm := tm_ok c8
  have Pp : PB 128 8 p := by rw [hpd]; exact PB.take htm hzc hc8l
  have lp := Pp.len
  have pf := pb_fit Pp (by decide)
  have pok : PolyOK p := Pp.poly (by decide)
  have pde : ∀ y ∈ p, Big.de y = 1 := fun y hy => zi_de (Pp.zi y hy)
  have hqf : ∀ q ∈ qs, Fit q := fun q h => int_fit (hq q h).1 (by have := (hq q h).2.1; omega) (by have := (hq q h).2.2; omega)
  have hcf : ∀ q ∈ c8, Fit q := fun q h => (hzc q h).fit (by decide)
  have ht : By 2 (lofQ n d) := lofQ_by (by omega) (by omega)
  obtain ⟨t, htd⟩ : ∃ t, t = lofQ n d := ⟨_, rfl⟩
  rw [← htd] at ht
  have PS : PB (1000 * 20 ^ 9) 9 (sumL p 9) := pb_sum Pp 9 (by decide)
  have lS := PS.len
  have Sf := pb_fit PS (Nat.le_trans (sum_big (Nat.le_refl 9)) (by decide))
  obtain ⟨S, hS⟩ : ∃ S, S = sumL p 9 := ⟨_, rfl⟩
  rw [← hS] at PS lS Sf
  obtain ⟨rl, il⟩ := reF_len S 0
  have h1 := tm_ok (reF 0 S)
  have h2 := tm_ok (imF 0 S)
  obtain ⟨m1, hm1⟩ : ∃ m, m = tm (reF 0 S) := ⟨_, rfl⟩
  obtain ⟨m2, hm2⟩ : ∃ m, m = tm (imF 0 S) := ⟨_, rfl⟩
  rw [← hm1] at h1
  rw [← hm2] at h2
  have le1 := h1.le
  have le2 := h2.le
  have hok := okM_ok PS.last h1 h2
  have vb := val_by ht Pp.zi lp
  have qb := pow_by ht (k := 8) (Nat.le_refl _)
  have zb := pt_by ht
  have wb := wan_by ht Pp.zi lp
  have hwan : evC (0, t) S = wan t p := by rw [hS]; exact wan_is (by omega)
  let X : Tl := ⟨((n : Int) : Rat), ((d : Int) : Rat), t, wan t p, ptZ t, evC (ptZ t) p, evC (0, t) (powL 8), S, ((sgQ ((reF 0 S).getD (m1 - 1) 0) : Int) : Rat), ((sgQ ((imF 0 S).getD (m2 - 1) 0) : Int) : Rat)⟩
  have HX : TlFit X := {
    n := int_fit (Rat.den_intCast _) (by rw [Rat.num_intCast]; omega) (by rw [Rat.num_intCast]; omega)
    d := int_fit (Rat.den_intCast _) (by rw [Rat.num_intCast]; omega) (by rw [Rat.num_intCast]; omega)
    t := ht.fit (by decide)
    W := ⟨wb.1.fit (by decide), wb.2.fit (by decide)⟩
    z := ⟨zb.1.fit (by decide), zb.2.fit (by decide)⟩
    V := ⟨vb.1.fit (by decide), vb.2.fit (by decide)⟩
    Q := ⟨qb.1.fit (by decide), qb.2.fit (by decide)⟩
    S := Sf
    g1 := sg_fit _
    g2 := sg_fit _ }
  let E := tlEnv X HX qs p m1 m2 w.heap.size
  have tf := HX.t
  have hlow : lowE.ev E.q = -t := by
    show t * (-1) = -t
    grind
  have he1 : ∀ i, i < (reF 0 S).length → (reE i).ev E.q = (reF 0 S).getD i 0 := fun i hi => by
    rw [(reF_get S 0 i (by omega)).1, Nat.zero_add]
    exact (reE_ev X (by omega)).1
  have he2 : ∀ i, i < (imF 0 S).length → (imE i).ev E.q = (imF 0 S).getD i 0 := fun i hi => by
    rw [(reF_get S 0 i (by omega)).2, Nat.zero_add]
    exact (reE_ev X (by omega)).2
  have hmap1 : (snE reE S.length).ev E = reF 0 S := by
    rw [snE_ev, ← (reF_map S).1]
    exact List.map_congr_left fun k hk => (reE_ev X (by have := List.mem_range.1 hk; omega)).1
  have hmap2 : (snE imE S.length).ev E = imF 0 S := by
    rw [snE_ev, ← (reF_map S).2]
    exact List.map_congr_left fun k hk => (reE_ev X (by have := List.mem_range.1 hk; omega)).2
  have hNm : NmsOK E (tlN S.length m1 m2) := by
    refine ⟨fun es c h => by simp [tlN] at h, fun l c h => ?_⟩
    simp only [tlN, List.mem_cons, List.not_mem_nil, or_false, Prod.mk.injEq] at h
    rcases h with ⟨rfl, rfl⟩ | ⟨rfl, rfl⟩
    · show (reF 0 S).take m1 = ((snE reE S.length).ev E).take (((0 : Nat) : Int) + (m1 : Int)).toNat
      rw [hmap1, show (((0 : Nat) : Int) + (m1 : Int)).toNat = m1 by omega]
    · show (imF 0 S).take m2 = ((snE imE S.length).ev E).take (((0 : Nat) : Int) + (m2 : Int)).toNat
      rw [hmap2, show (((0 : Nat) : Int) + (m2 : Int)).toNat = m2 by omega]
  have hA : AllH E (tlA S.length m1 m2) := fun x hx => by
    rcases List.mem_append.1 hx with hx | hx
    · simp only [List.mem_cons, List.not_mem_nil, or_false] at hx
      rcases hx with rfl | rfl | rfl
      · show true = true ↔ Fit (lowE.ev E.q)
        rw [hlow]
        exact ⟨fun _ => fit_neg tf, fun _ => rfl⟩
      · exact sg_row h1
      · exact sg_row h2
    rcases List.mem_append.1 hx with hx | hx
    · cases hb : Nat.beq S.length 0 with
      | false => rw [hb] at hx; simp at hx
      | true =>
        rw [hb] at hx
        simp only [cond_true, List.mem_cons, List.not_mem_nil, or_false] at hx
        subst hx
        have hS0 : S = [] := List.length_eq_zero_iff.1 (Nat.eq_of_beq_eq_true hb)
        show true = true ↔ (wan t p).2 = (wan t p).1
        rw [← hwan, hS0]
        exact ⟨fun _ => rfl, fun _ => rfl⟩
    rcases List.mem_append.1 hx with hx | hx
    · exact trZ_ok (ρ := E) h1 he1 S.length (by omega) x hx
    · exact trZ_ok (ρ := E) h2 he2 S.length (by omega) x hx
  obtain ⟨b, hb⟩ : ∃ b : Bool, b = true ↔ 8 < qs.length := ⟨decide (8 < qs.length), by rw [decide_eq_true_iff]⟩
  have hB : AllX E (lnB7 b S.length) := fun x hx => by
    rcases List.mem_append.1 hx with hx | hx
    · have c1 : min qs.length 8 ≤ 10000 := by omega
      cases b with
      | true =>
        have hlt := hb.1 rfl
        simp only [cond_true, List.mem_cons, List.not_mem_nil, or_false] at hx
        rcases hx with rfl | rfl | rfl | rfl
        · rfl
        · exact c1
        · show true = true ↔ ((min qs.length 8 : Nat) : Int) + 0 < ((qs.length : Nat) : Int) + 0
          exact ⟨fun _ => by omega, fun _ => rfl⟩
        · show false = true ↔ ((min qs.length 8 : Nat) : Int) + 0 < ((0 : Nat) : Int) + 8
          exact ⟨fun h => (by cases h), fun h => by omega⟩
      | false =>
        have hge : ¬ 8 < qs.length := fun h => by have := hb.2 h; cases this
        simp only [cond_false, List.mem_cons, List.not_mem_nil, or_false] at hx
        rcases hx with rfl | rfl | rfl
        · rfl
        · exact c1
        · show false = true ↔ ((min qs.length 8 : Nat) : Int) + 0 < ((qs.length : Nat) : Int) + 0
          exact ⟨fun h => (by cases h), fun h => by omega⟩
    rcases List.mem_cons.1 hx with rfl | hx
    · rfl
    rcases List.mem_cons.1 hx with rfl | hx
    · show false = true ↔ ((0 : Nat) : Int) + 9 < ((p.length : Nat) : Int) + 0
      exact ⟨fun h => (by cases h), fun h => by omega⟩
    rcases List.mem_cons.1 hx with rfl | hx
    · rfl
    · exact elRow_ok (ρ := E) (c := 70) (p := S) rfl (fun i hi => X.el (by omega)) (Nat.le_refl _) x hx
  have reok : ∀ {l : List Rat} {m : Nat}, (∀ x ∈ l, Fit x) → l.length ≤ 9 → TrimAt l m → PolyOK (l.take m) ∧ (l.take m).length ≤ 20 ∧ evL t (l.take m) = evL t l := fun {l m} hf hl hm =>
    ⟨⟨fun x hx => hf x (List.mem_of_mem_take hx), take_last hm⟩, by rw [List.length_take]; omega, evL_ext t _ _ fun i => cf_take hm i⟩
  obtain ⟨rf, imf⟩ := reF_fit S 0 Sf
  obtain ⟨r1, r2, r3⟩ := reok rf (by omega) h1
  obtain ⟨j1, j2, j3⟩ := reok imf (by omega) h2
  rw [re_ev, hwan] at r3
  rw [im_ev, hwan] at j3
  have hSums : SumOK (symSig E) Tryz.prog (tlSums b S.length m1 m2) := sumsOf_ok fun x hx => by
    rcases List.mem_cons.1 hx with rfl | hx
    · exact poS_ok (ρ := E) hB (c := 5) (d := 9) (m := tm c8) (by rw [show E.lst 5 = c8 from hc8.symm]; exact hcf) (by rw [show E.lst 5 = c8 from hc8.symm]; omega) (by rw [show E.lst 5 = c8 from hc8.symm]; exact htm) (by have := htm.le; omega) (by rw [show E.lst 5 = c8 from hc8.symm]; exact hpd)
    rcases List.mem_cons.1 hx with rfl | hx
    · exact ofT_ok (ρ := E) (by
        show t = lofQ ((n : Int) : Rat).num ((d : Int) : Rat).num
        rw [Rat.num_intCast, Rat.num_intCast]; exact htd)
    rcases List.mem_cons.1 hx with rfl | hx
    · refine rpG_ok hB fun c e hm => ?_
      obtain ⟨rfl, _, rfl⟩ := two_mem hm
      exact ⟨rfl, pok, show p.length ≤ 33 by omega⟩
    rcases List.mem_cons.1 hx with rfl | hx
    · exact dn9_ok (ρ := E) pf pde (show p.length ≤ 9 by omega)
    rcases List.mem_cons.1 hx with rfl | hx
    · exact whole3_ok (ρ := E) (k := 1) rfl
    rcases List.mem_cons.1 hx with rfl | hx
    · refine siN_ok (ρ := E) (B := []) (fun x hx => by simp at hx) noN_ok (loc_giveO _) (Q := QO E 1) (fun c x e hm w v u hv hu hG hT => ?_) giveO_gives
      simp only [List.mem_cons, List.not_mem_nil, or_false, Prod.mk.injEq] at hm
      obtain ⟨rfl, rfl, rfl⟩ := hm
      have hu' : NumIn w u (1 : Rat) := by rw [← oQ_ev E.q]; exact hu
      have hsc : sc p 1 = p := by
        unfold sc
        rw [List.map_congr_left (g := id) fun y _ => Rat.mul_one y, List.map_id]
      have htr : TrimAt (sc p 1) p.length := by
        rw [hsc]
        refine ⟨Nat.le_refl _, fun i a b => by omega, fun h => ?_⟩
        have := pok.last (fun q => by rw [q] at h; simp at h)
        rwa [lastD_get] at this
      refine (scaleE_any w (p := p) (x := 1) pf lc_fit1 (by omega) htr hv hu' hG hT).mono ?_
      rintro en w' ⟨y, q1, q2, q3⟩
      refine ⟨⟨y, q1, ?_⟩, q3⟩
      rw [hsc, List.take_of_length_le (Nat.le_refl _)] at q2
      exact q2
    rcases List.mem_cons.1 hx with rfl | hx
    · exact alT_ok (ρ := E) Pp hS
    rcases List.mem_cons.1 hx with rfl | hx
    · refine siN_ok (ρ := E) hB hNm (loc_giveT _ _) (Q := QT E 0 (.bool true)) (fun c x e hm w v u hv hu hG hT => ?_) (giveT_gives rfl)
      have hov : ∀ l : List Rat, ov l 1 = l := fun l => by
        unfold ov
        rw [List.map_congr_left (g := id) fun y _ => (by show y / 1 = y; rw [Rat.div_def]; grind), List.map_id]
      simp only [List.mem_cons, List.not_mem_nil, or_false, Prod.mk.injEq] at hm
      have hu' : ∀ {x : Qe}, x = oQ → NumIn w u (x.ev E.q) → NumIn w u (1 : Rat) := fun {x} e h => by rw [← oQ_ev E.q, ← e]; exact h
      rcases hm with ⟨rfl, rfl, rfl⟩ | ⟨rfl, rfl, rfl⟩
      · have hf : ∀ y ∈ (reF 0 S).take m1, Fit y := fun y hy => rf y (List.mem_of_mem_take hy)
        refine (overE_any w (p := (reF 0 S).take m1) (x := 1) hf lc_fit1 (by decide) (by rw [hov]; exact hf) (by rw [List.length_take]; omega) hv (hu' rfl hu) hG hT).mono ?_
        rintro en w' ⟨y, q1, q2, q3⟩
        rw [hov] at q2
        exact ⟨⟨y, q1, q2⟩, q3⟩
      · have hf : ∀ y ∈ (imF 0 S).take m2, Fit y := fun y hy => imf y (List.mem_of_mem_take hy)
        refine (overE_any w (p := (imF 0 S).take m2) (x := 1) hf lc_fit1 (by decide) (by rw [hov]; exact hf) (by rw [List.length_take]; omega) hv (hu' rfl hu) hG hT).mono ?_
        rintro en w' ⟨y, q1, q2, q3⟩
        rw [hov] at q2
        exact ⟨⟨y, q1, q2⟩, q3⟩
    rcases List.mem_cons.1 hx with rfl | hx
    · refine atT_ok (ρ := E) tf fun c e hm => ?_
      simp only [List.mem_cons, List.not_mem_nil, or_false, Prod.mk.injEq, true_and] at hm
      rcases hm with ⟨rfl, rfl⟩ | ⟨rfl, rfl⟩
      · exact ⟨r1, r2, (by show Fit (evL t ((reF 0 S).take m1)); rw [r3]; exact HX.W.1), r3.symm⟩
      · exact ⟨j1, j2, (by show Fit (evL t ((imF 0 S).take m2)); rw [j3]; exact HX.W.2), j3.symm⟩
    rcases List.mem_cons.1 hx with rfl | hx
    · exact unT_ok (ρ := E) tf rfl rfl HX.z.1 HX.z.2
    rcases List.mem_cons.1 hx with rfl | hx
    · exact agT_ok (ρ := E) pok pde lp HX.z.1 HX.z.2 rfl rfl HX.V.1 HX.V.2
    rcases List.mem_cons.1 hx with rfl | hx
    · exact of1T_ok (ρ := E) rfl rfl
    rcases List.mem_cons.1 hx with rfl | hx
    · exact pwT_ok (ρ := E) hlow rfl ht rfl rfl
    rcases List.mem_cons.1 hx with rfl | hx
    · exact muT_ok (ρ := E) HX.V.1 HX.V.2 HX.Q.1 HX.Q.2 rfl rfl HX.W.1 HX.W.2
    rcases List.mem_cons.1 hx with rfl | hx
    · exact wo7_ok
    rcases List.mem_cons.1 hx with rfl | hx
    · refine sgT_ok hA fun x k hm => ?_
      simp only [tlL, List.mem_cons, List.not_mem_nil, or_false, Prod.mk.injEq] at hm
      have one : ∀ {l : List Rat} {e : Nat → Qe} {m : Nat}, TrimAt l m → l.length ≤ 9 → (∀ i, i < l.length → (e i).ev E.q = l.getD i 0) → (l.length = 0 → (e 0).ev E.q = 0) → (e (m - 1)).ev E.q = l.getD (m - 1) 0 := fun {l e m} hm hl he h0 => by
        have := hm.le
        rcases Nat.eq_zero_or_pos l.length with q | q
        · rw [show m - 1 = 0 by omega, h0 q, List.length_eq_zero_iff.1 q]; rfl
        · exact he _ (by omega)
      rcases hm with ⟨rfl, rfl⟩ | ⟨rfl, rfl⟩
      · have := one (e := reE) h1 (by omega) he1 (fun q => by
          show (reE 0).ev X.q = 0
          rw [(reE_ev X (by decide)).1]
          have : X.S = [] := List.length_eq_zero_iff.1 (by show S.length = 0; omega)
          rw [this]; rfl)
        rw [this]; rfl
      · have := one (e := imE) h2 (by omega) he2 (fun q => by
          show (imE 0).ev X.q = 0
          rw [(reE_ev X (by decide)).2]
          have : X.S = [] := List.length_eq_zero_iff.1 (by show S.length = 0; omega)
          rw [this]; rfl)
        rw [this]; rfl
    · exact symList_ok hA x hx
  have hJ : JmpAll (symSig E) Tryz.prog (lsCfgG false (tlA S.length m1 m2) (lnB7 b S.length) tlJ) := by
    refine ⟨fun f x m e ts => ?_, fun f fn c x m hf hb hx e => ?_⟩
    · obtain ⟨_, e2⟩ := condJ' (show cond (Nat.beq f tlF) (some (jumpM eqSy 148 tlTm tlPre tlPost)) none = some m from e)
      cases e2
      exact loc_jumpM _ _ _ _ _
    · obtain ⟨h1, e2⟩ := condJ' (show cond (Nat.beq f tlF) (some (jumpM eqSy 148 tlTm tlPre tlPost)) none = some m from e)
      cases e2
      obtain rfl := Nat.eq_of_beq_eq_true h1
      exact one_jmp tl_loop1 (tl_jmp (qs := qs) hqf (E := E) rfl rfl rfl) hf hb hx
  have hh : HoldsL (symSig E) w [.ls 3 0, .is (.v 1), .is (.v 2)] [v, .int .i16 n, .int .i16 d] := by
    refine ⟨v, _, rfl, LsIn.ls hv rfl, by obtain ⟨a, m, rfl, _⟩ := hv; rfl, .int .i16 n, _, rfl, ⟨?_, ⟨?_, ?_, ?_⟩⟩, rfl, .int .i16 d, _, rfl, ⟨?_, ⟨?_, ?_, ?_⟩⟩, rfl, rfl⟩
    · show Value.int .i16 n = .int .i16 ((n : Int) : Rat).num
      rw [Rat.num_intCast]
    · show -32768 ≤ ((n : Int) : Rat).num
      rw [Rat.num_intCast]; exact n0
    · show ((n : Int) : Rat).num ≤ 32767
      rw [Rat.num_intCast]; exact n1
    · exact Rat.den_intCast n
    · show Value.int .i16 d = .int .i16 ((d : Int) : Rat).num
      rw [Rat.num_intCast]
    · show -32768 ≤ ((d : Int) : Rat).num
      rw [Rat.num_intCast]; exact d0
    · show ((d : Int) : Rat).num ≤ 32767
      rw [Rat.num_intCast]; exact d1
    · exact Rat.den_intCast d
  refine (tells_calls (lsFitsG hA hB) hSums (isTrue_ok (tl_run_ok (by omega) (by omega) (by omega) hok)) rfl glob_few hh hG hT (Nat.le_refl _) hJ).mono ?_
  rintro e w' ⟨v', rfl, h1, hb⟩
  have h1' : v' = .bool true := h1
  subst h1'
  exact ⟨rfl, hb⟩
end Ev
end Go.Proofs.YtaefgofheiegeaaGreat
namespace Go.Proofs.YtaefgofheiegeaaGreat
open Go.ChangeShapes Go.WideShapes Go.ChangeAt Go.RowKit
theorem own : ownKnob Tryz.prog.godebug = none := by kernel_rfl
section
variable {H : Type} {enc : TypeId × Value → H} {P : Program}
end
theorem glob_size {W : World} (h : W.ShapedOpen Tryz.prog) : Tryz.prog.globals.size ≤ W.heap.size := by
  have hb : Nat.ble (Tryz.prog.globals.size + 1) (begin Tryz.prog (fun _ _ => 0) default).world.heap.size = true := by kernel_rfl
  obtain ⟨o, o0, h1, -⟩ := h.2 Tryz.prog.globals.size (Nat.le_refl _) (Nat.le_of_ble_eq_true hb)
  exact Nat.le_of_lt (Array.getElem?_eq_some_iff.1 h1).1
end Go.Proofs.YtaefgofheiegeaaGreat
namespace Go.Proofs.YtaefgofheiegeaaGreat
open Go Go.RowKit
namespace Ev
set_option maxRecDepth 100000
theorem int_rat (z : Int) : ((z : Int) : Rat).num = z ∧ ((z : Int) : Rat).den = 1 := ⟨by simp, by simp⟩
theorem ints_ls {w : World} {a : Addr} {len cap : Nat} {zs : List Int} (hs : a.spot = none) (hl : len ≤ cap) (hlen : len ≤ zs.length) (hc : ∀ i, i < zs.length → w.cell? (a.add i) = some (.int .i8 (zs.getD i 0))) (hb : ∀ n ∈ zs, -128 ≤ n ∧ n ≤ 127) :
    LsIn 3 w (.slice (some a) len cap) ((zs.take len).map fun z => ((z : Int) : Rat)) := by
  have hlm : ((zs.take len).map fun z => ((z : Int) : Rat)).length = len := by rw [List.length_map, List.length_take]; omega
  refine ⟨some a, cap, by rw [hlm], by rw [hlm]; exact hl, fun hne => ?_⟩
  have hpos : 0 < len := by
    rcases Nat.eq_zero_or_pos len with q | q
    · subst q; simp at hne
    · exact q
  obtain ⟨b, off, spot⟩ := a
  have h0 := hc 0 (by omega)
  have hs' : spot = none := hs
  subst hs'
  cases hh : w.heap[b]? with
  | none => simp [World.cell?, Addr.add, hh] at h0
  | some o =>
      cases o with
      | cells c t z =>
        obtain ⟨cl⟩ := c
        refine ⟨b, off, cl, t, z, rfl, hh, fun i q hi => ?_⟩
        rw [List.getElem?_map] at hi
        obtain ⟨x, hx, rfl⟩ := Option.map_eq_some_iff.1 hi
        have hi2 := (List.getElem?_eq_some_iff.1 hx).1
        rw [List.length_take] at hi2
        have hx2 : zs[i]? = some x := by
          rw [List.getElem?_take, if_pos (by omega)] at hx; exact hx
        have h1 := hc i (by omega)
        rw [List.getD_eq_getElem?_getD, hx2] at h1
        have h2 : cl[off + i]? = some (.int .i8 x) := by
          rw [add_off] at h1
          simpa [World.cell?, hh] using h1
        have hm := hb x (List.mem_of_getElem? hx2)
        refine ⟨.int .i8 x, ?_, ?_⟩
        · show ((cl.drop (off + i * 1)).take 1) = _
          rw [Nat.mul_one]
          have hlt := (List.getElem?_eq_some_iff.1 h2).1
          rw [List.drop_eq_getElem_cons hlt]
          simp [(List.getElem?_eq_some_iff.1 h2).2]
        · show _ = Value.int .i8 _ ∧ _
          rw [(int_rat x).1]
          exact ⟨rfl, (int_rat x).2, by omega, by omega⟩
      | _ => simp [World.cell?, Addr.add, hh] at h0
end Ev
end Go.Proofs.YtaefgofheiegeaaGreat
namespace Go.Proofs.YtaefgofheiegeaaGreat
open Go Go.ChangeShapes Go.WideShapes Go.ChangeAt Go.RowKit
theorem cell_below {W W' : World} (hb : Below W.heap.size W W') {a : Addr} (h : a.block < W.heap.size) : W'.cell? a = W.cell? a := by
  unfold World.cell?
  rw [hb.block _ h]
theorem frozen_below {W W' : World} (hb : Below W.heap.size W W') {a : Addr} (h : a.block < W.heap.size) : W'.frozen? a = W.frozen? a := by
  unfold World.frozen?
  rw [hb.block _ h]
theorem cell_lt {W : World} {a : Addr} {v : Value} (h : W.cell? a = some v) : a.block < W.heap.size := by
  apply Nat.lt_of_not_le
  intro hn
  have hx : W.heap[a.block]? = none := Array.getElem?_eq_none hn
  simp [World.cell?, hx] at h
section
variable {H : Type} {enc : TypeId × Value → H} {P : Program}
theorem post_kept {f : Func} {s : ChangeSpec} {apart fresh handsOn again : Bool} {W W' : World} {args : Array Value} {v : Value} {ds gs : List (DataW H)} {before : List MemPlace}
    (hW : DataW.Whole enc P f.params.toList s.vars apart W args.toList ds gs before)
    (hres : ∀ (b : Nat) (sp : Nat → Bool) (hd : Bool), DataW.TrodAll enc P W' b sp hd f.resultTypes.toList (v.resultList f.resultTypes.size) (s.fn H (ds ++ gs)).results [])
    (hargs : ∀ sp : Nat → Bool, (∀ p ∈ before, sp p.block = true) → DataW.TrodAll enc P W' 0 sp true f.params.toList args.toList (s.fn H (ds ++ gs)).args before)
    (hvars : ∀ sp : Nat → Bool, DataW.TrodVars enc P W' sp s.vars (s.fn H (ds ++ gs)).vars [])
    (hb : Below W.heap.size W W')
    (hok : ∀ (j : Nat) (t : TypeId) (r : Value), f.resultTypes[j]? = some t → (v.resultList f.resultTypes.size)[j]? = some r → Value.okWide P W' .any 0 t r) :
    s.post enc P f apart fresh handsOn again W args v W' := by
  have hk : W.keptBut W' (fun p => p ∈ ([] : List MemPlace)) := hb.frame _
  have hold : ∀ p ∈ before, (fun b => decide (b < W.heap.size)) p.block = true := fun p hp => by simpa using hW.lt p hp
  have hlt : ∀ p ∈ before, p.block < W.heap.size := fun p hp => hW.lt p hp
  refine ⟨ds, gs, before, [], before, [], hW, hres _ _ _, hargs _ hold, hvars _, World.keptBut_mono (fun p hp => by cases hp) hk, fun _ => ?_⟩
  obtain ⟨_, _, _, _, _, hz, hn⟩ := hW
  refine ⟨hok, _, _, before, ⟨[] ++ before, [], trodAll_append (hargs _ (fun _ _ => rfl)) (hres _ _ _), hvars _, by simp, ?_, hn⟩, fun p hp _ => hp⟩
  intro b off hp
  rw [frozen_below hb (a := ⟨b, off, none⟩) (hlt _ hp)]
  exact hz b off hp
end
set_option maxRecDepth 100000
theorem ints8_open {H : Type} {enc : TypeId × Value → H} {W : World} {base : Nat} {v : Value} {d : DataW H} {p : List MemPlace} (hval : Value.okWide Tryz.prog W .any base 22 v)
    (h0 : DataW.Trod enc Tryz.prog W 0 (fun _ => true) true 22 v d p) :
    ∃ qs : List Rat, (∀ q ∈ qs, q.den = 1 ∧ -128 ≤ q.num ∧ q.num ≤ 127) ∧ Ev.LsIn 3 W v qs ∧
      ∀ (W' : World) (sp : Nat → Bool), Below W.heap.size W W' → (∀ q ∈ p, sp q.block = true) → DataW.Trod enc Tryz.prog W' 0 sp true 22 v d p := by
  have hc : Tryz.prog.cellsOf 25 = 1 := by kernel_rfl
  obtain ⟨a0, len0, cap0, rfl⟩ := okWide_slice Tryz.underlying22 hval
  obtain ⟨fuel, hf⟩ := h0
  rcases open_ints Tryz.underlying22 Tryz.underlying25 hc hf with ⟨hcs, hx⟩ | ⟨a, len, cap, zs, hcs, _, hl, hm, hz, hx, hcell, hwz⟩
  · simp [Value.cells] at hcs
    obtain ⟨rfl, rfl, rfl⟩ := hcs
    simp only [Prod.mk.injEq] at hx
    obtain ⟨rfl, rfl⟩ := hx
    exact ⟨[], fun q h => by simp at h, ⟨none, 0, rfl, Nat.le_refl _, fun h => absurd rfl h⟩, fun W' sp _ _ => shut_slice_nil Tryz.underlying22⟩
  · simp [Value.cells] at hcs
    obtain ⟨rfl, rfl, rfl⟩ := hcs
    simp only [Prod.mk.injEq] at hx
    obtain ⟨rfl, rfl⟩ := hx
    simp only [if_true] at hz
    have hwb : ∀ n ∈ zs, -128 ≤ n ∧ n ≤ 127 := fun n h => bounds_i8 (hwz n h)
    refine ⟨(zs.take len0).map fun z => ((z : Int) : Rat), ?_, ?_, ?_⟩
    · intro q hq
      obtain ⟨z, hz1, rfl⟩ := List.mem_map.1 hq
      have h := hwb z (List.mem_of_mem_take hz1)
      rw [(Ev.int_rat z).1]
      exact ⟨(Ev.int_rat z).2, h.1, h.2⟩
    · rcases Nat.eq_zero_or_pos zs.length with h | h
      · have hl0 : len0 = 0 := by omega
        subst hl0
        exact ⟨some a, cap0, rfl, Nat.zero_le _, fun h => absurd rfl h⟩
      · obtain ⟨b, off, rfl, _⟩ := ints_at hcell h
        exact Ev.ints_ls rfl hl (by omega) hcell hwb
    · intro W' sp hb hsp
      refine ⟨2, ?_⟩
      have t0 := shut_ints (enc := enc) (P := Tryz.prog) (w := W') (base := 0) (spare := sp) (held := true) (a := a) (len := len0) (cap := cap0) (zs := zs) 0 Tryz.underlying22 Tryz.underlying25 hc (Nat.zero_le _) hl hm
        (by
          rcases Nat.eq_zero_or_pos zs.length with h | h
          · split <;> omega
          · obtain ⟨b, off, rfl, _⟩ := ints_at hcell h
            have : sp b = true := hsp (MemPlace.cell b (off + 0)) (MemPlace.mem_row.2 ⟨0, h, rfl⟩)
            rw [if_pos this]; exact hz)
        (fun i hi => by
          rw [cell_below hb (cell_lt (hcell i hi))]
          exact hcell i hi) hwz
      simpa [Value.cells] using t0
end Go.Proofs.YtaefgofheiegeaaGreat
