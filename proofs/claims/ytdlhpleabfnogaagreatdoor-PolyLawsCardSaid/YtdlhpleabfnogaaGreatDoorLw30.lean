/- Contracts. -/
import Derived.Test.YtdlhpleabfnogaaGreatDoorLw29
import Derived.ChangeSlices
import Derived.Test.YtdlhpleabfnogaaGreatDoorRows
import Derived.Test.YtdlhpleabfnogaaGreatDoorChecked
import Derived.WalkKit
import Derived.ProofKit
import Derived.OpenShut
import Derived.ChangeSame
import Derived.ChangeVars
import Derived.JoinedOf
import Derived.Stop.Joined
import Derived.HandedShaped
import Derived.Test.YtdlhpleabfnogaaGreatDoorLw18
import Derived.LaidMore
import Derived.Lib.LaidTab
import Derived.SizedLaws
import Derived.Shelf.Vars
import Derived.Test.YtdlhpleabfnogaaGreatDoorCards
import Derived.SevenTiedAt
namespace Go.Proofs.YtdlhpleabfnogaaGreatDoor
open Go Go.RowKit
namespace Ev
set_option maxRecDepth 100000
theorem pAt_any (w : World) {p : List Rat} {x : Rat} (hp : PolyOK p) (hl : p.length ≤ 20) (hx : Fit x) (hy : Fit (evL x p)) {u : Value} (hu : LsIn 0 w u p) (hG : Tryz.prog.globals.size ≤ w.heap.size) (hT : natSig.base w) :
    Calls Tryz.prog pAF ⟨[u, .agg ⟨[.bool (Big.ng x), .string (bst (Big.nu x)), .string (bst (Big.de x))]⟩]⟩ w fun e w' => e = .returned (.tuple ⟨[.agg ⟨[.bool (Big.ng (evL x p)), .string (bst (Big.nu (evL x p))), .string (bst (Big.de (evL x p)))]⟩, .int .i64 0]⟩) ∧ Below w.heap.size w w' := by
  let E := l3Env p [] [] x (evL x p) hx hy w.heap.size
  obtain ⟨a, l1, e1, g1, o1, b, l2, rfl, g2, o2, c, l3, rfl, g3, o3, rfl⟩ := frac_holds (ρ := E) (w := w) (.v 9)
  simp only [List.cons.injEq, and_true] at e1
  obtain ⟨rfl, rfl, rfl⟩ := e1
  have hh : HoldsL (symSig E) w [.ls 0 0, .ng (.v 9), .fn (.v 9), .fd (.v 9)] [u, .bool (Big.ng x), .string (bst (Big.nu x)), .string (bst (Big.de x))] := ⟨u, _, rfl, LsIn.ls hu rfl, by obtain ⟨a, m, rfl, _⟩ := hu; rfl, _, _, rfl, g1, o1, _, _, rfl, g2, o2, _, _, rfl, g3, o3, rfl⟩
  have hA : AllH E [] := fun x hx => by simp at hx
  have hB : AllX E [] := fun x hx => by simp at hx
  have hS : SumOK (symSig E) Tryz.prog pASums := sumsOf_ok fun y hy => by
    rcases List.mem_cons.1 hy with rfl | hy
    · refine rpG_ok hB fun c e hm2 => ?_
      obtain ⟨rfl, _, rfl⟩ := two_mem hm2
      exact ⟨rfl, hp, show p.length ≤ 33 by omega⟩
    rcases List.mem_cons.1 hy with rfl | hy
    · exact atS_ok (ρ := E) hp.fit hl hx rfl
    · exact symList_ok hA y hy
  refine (tells_calls (lsFits hA hB) hS pA_run rfl glob_few hh hG hT (Nat.le_refl _) (.none rfl)).mono ?_
  rintro e w' ⟨v', rfl, ⟨vs, rfl, a, l1, rfl, ⟨us, rfl, a1, m1, rfl, k1, a2, m2, rfl, k2, a3, m3, rfl, k3, rfl⟩, u2, l2, rfl, h2, rfl⟩, hb⟩
  have k1' : a1 = .bool (Big.ng (evL x p)) := k1
  have k2' : a2 = .string (bst (Big.nu (evL x p))) := k2
  have k3' : a3 = .string (bst (Big.de (evL x p))) := k3
  have h2' : u2 = .int .i64 0 := h2
  subst k1' k2' k3' h2'
  exact ⟨rfl, hb⟩
noncomputable def lwF : Nat := 4
noncomputable def lwOf : Tri3 := [(0, 0, 10), (1, 0, 11), (2, 0, 12)]
noncomputable def lwAdd : Tri3 := [(10, 11, 13), (11, 10, 13), (11, 12, 17), (14, 19, 18), (22, 24, 20)]
noncomputable def lwMul : Tri3 := [(10, 11, 14), (11, 10, 14), (14, 12, 15), (11, 12, 16), (10, 16, 15), (10, 17, 18), (10, 12, 19), (21, 11, 22), (10, 23, 24)]
noncomputable def lwSl : Tri3 := [(14, 0, 20), (10, 0, 21), (11, 0, 23)]
noncomputable def lwSame : Tri3 := [(13, 13, 1), (14, 14, 1), (15, 15, 1), (18, 18, 1), (20, 20, 1)]
noncomputable def lwAt : Tri3 := [(14, 0, 6), (10, 0, 7), (11, 0, 8)]
noncomputable def isI (k : Int) (v : Value) : Bool := match v with
  | .int t z => match t with
    | .i64 => eqI z k
    | _ => false
  | _ => false
theorem isI_ok {k : Int} {v : Value} (h : isI k v = true) : v = .int .i64 k := by
  cases v <;> first | (cases h; done) | skip
  rename_i t z
  cases t <;> first | (cases h; done) | skip
  rw [eqI_ok (show eqI z k = true from h)]
noncomputable def giveF (e : Nat) : M Sy Value := bind (newFacts [.ng (.v e), .fn (.v e), .fd (.v e)]) fun vs => ret (.tuple ⟨[.agg ⟨vs⟩, .int .i64 0]⟩)
theorem loc_giveF (e : Nat) : Loc (giveF e) := loc_bind (loc_newFacts _) fun _ => loc_ret _
noncomputable def of23S : Nat × (List Value → Option (M Sy Value)) := (16, fun args => match args with
  | [a, b] => cond (isI 2 a && isI 3 b) (some (giveF 9)) none
  | _ => none)
noncomputable def pAtS : Nat × (List Value → Option (M Sy Value)) := (pAF, fun args => match args with
  | [a, b] => match b with
    | .agg cs => some (bind (lsArg [] a) fun y => bind (frcV cs.toList) fun o => match vOf 0 y with
      | some c => match o with
        | some x => match findL lwAt c 0 with
          | some e => cond (x.beq (.v 9)) (giveF e) fail
          | none => fail
        | none => fail
      | none => fail)
    | _ => none
  | _ => none)
noncomputable def lwA : List As := [⟨0, .mul (.v 7) (.v 8), z0, true⟩, ⟨2, .v 6, .mul (.v 7) (.v 8), true⟩]
noncomputable def lwSums : Sums Sy := sumsOf (mkTab ((lfF, unA [] 3 lwOf (giveO 0)) :: (laF, biA [] 0 lwAdd (giveO 0)) :: (lmF, biA [] 0 lwMul (giveO 0)) :: (lsF, unA [] 0 lwSl (giveO 0)) :: (saF, biA [] 0 lwSame (fun _ => ret (.bool true))) :: of23S :: pAtS :: woS :: symList lwA))
noncomputable def lwRun : Option (D3 Sy) := tells [.ls 3 0, .ls 3 1, .ls 3 2] [.one, .one, .one] (call Tryz.prog (Fq.lsCfgQ true lwA [] noJ) lwSums 40 lwF)
set_option maxHeartbeats 4000000 in
theorem lw_run : isTrue lwRun = true := by kernel_rfl
def ZI (B : Nat) (x : Rat) : Prop := ∃ z : Int, x = (z : Rat) ∧ z.natAbs ≤ B
theorem ZI.add {A B : Nat} {x y : Rat} (h : ZI A x) (i : ZI B y) : ZI (A + B) (x + y) := by
  obtain ⟨a, rfl, ha⟩ := h
  obtain ⟨b, rfl, hb⟩ := i
  exact ⟨a + b, by rw [Rat.intCast_add], Nat.le_trans (Int.natAbs_add_le a b) (by omega)⟩
theorem ZI.mul {A B : Nat} {x y : Rat} (h : ZI A x) (i : ZI B y) : ZI (A * B) (x * y) := by
  obtain ⟨a, rfl, ha⟩ := h
  obtain ⟨b, rfl, hb⟩ := i
  exact ⟨a * b, by rw [Rat.intCast_mul], by rw [Int.natAbs_mul]; exact Nat.mul_le_mul ha hb⟩
theorem ZI.mono {A B : Nat} {x : Rat} (h : ZI A x) (i : A ≤ B) : ZI B x := by
  obtain ⟨a, e, ha⟩ := h
  exact ⟨a, e, Nat.le_trans ha i⟩
theorem ZI.zero (B : Nat) : ZI B 0 := ⟨0, rfl, Nat.zero_le _⟩
theorem ZI.fit {B : Nat} {x : Rat} (h : ZI B x) (hB : B ≤ 9000000000000000000) : Fit x := by
  obtain ⟨a, rfl, ha⟩ := h
  exact int_fit (Rat.den_intCast _) (by rw [Rat.num_intCast]; omega) (by rw [Rat.num_intCast]; omega)
theorem ZI.getD {B : Nat} {l : List Rat} (h : ∀ x ∈ l, ZI B x) (i : Nat) : ZI B (l.getD i 0) := by
  rw [List.getD_eq_getElem?_getD]
  cases hi : l[i]? with
  | none => exact ZI.zero B
  | some x => exact h x (List.mem_of_getElem? hi)
theorem ps_zi {A B : Nat} {p q : List Rat} (hp : ∀ x ∈ p, ZI A x) (hq : ∀ x ∈ q, ZI B x) (i : Nat) : ∀ n, ZI (min n p.length * (A * B)) (ps p q i n)
  | 0 => ZI.zero _
  | n + 1 => by
    have ih := ps_zi hp hq i n
    rw [ps]
    rcases Nat.lt_or_ge n p.length with h | h
    · refine (ih.add ((ZI.getD hp n).mul (ZI.getD hq (i - n)))).mono ?_
      rw [show min (n + 1) p.length = min n p.length + 1 by omega, Nat.add_mul, Nat.one_mul]
      exact Nat.le_refl _
    · rw [cf_beyond h, show min (n + 1) p.length = min n p.length by omega]
      have : ps p q i n + 0 * cf q (i - n) = ps p q i n := by grind
      rw [this]
      exact ih
structure PB (B n : Nat) (l : List Rat) : Prop where
  zi : ∀ x ∈ l, ZI B x
  len : l.length ≤ n
  last : l ≠ [] → l.getLastD 0 ≠ 0
theorem PB.poly {B n : Nat} {l : List Rat} (h : PB B n l) (hB : B ≤ 9000000000000000000) : PolyOK l := ⟨fun x hx => (h.zi x hx).fit hB, h.last⟩
theorem lastD_get (l : List Rat) : l.getLastD 0 = l.getD (l.length - 1) 0 := by
  rw [List.getLastD_eq_getLast?, List.getLast?_eq_getElem?, List.getD_eq_getElem?_getD]
theorem ps_far {p q : List Rat} {i : Nat} (h : p.length + q.length ≤ i + 1) : ∀ n, n ≤ i + 1 → ps p q i n = 0
  | 0, _ => rfl
  | n + 1, hn => by
    rw [ps, ps_far h n (by omega)]
    rcases Nat.lt_or_ge n p.length with g | g
    · rw [cf_beyond (p := q) (by omega)]; grind
    · rw [cf_beyond g]; grind
theorem cf_pd (p q : List Rat) (i : Nat) : cf (pd p q) i = mulF p (cf q) i := by
  rw [← ps_mulF]
  rcases Nat.eq_zero_or_pos p.length with h | h
  · rw [pd_none (.inl h), cf_nil, List.length_eq_zero_iff.1 h, ps_nil]
  · rcases Nat.eq_zero_or_pos q.length with g | g
    · rw [pd_none (.inr g), cf_nil, ps_low p q i (i + 1) (by omega)]
    · rcases Nat.lt_or_ge i (p.length + q.length - 1) with k | k
      · unfold cf
        rw [List.getD_eq_getElem?_getD, pd_get h g k]; rfl
      · rw [cf_beyond (by rw [pd_len h g]; exact k), ps_far (by omega) _ (Nat.le_refl _)]
theorem cf_pa (p q : List Rat) (i : Nat) : cf (pa p q) i = cf p i + cf q i := by
  rcases Nat.lt_or_ge i (max p.length q.length) with h | h
  · have := pa_get h
    unfold cf
    rw [List.getD_eq_getElem?_getD (l := pa p q), this]; rfl
  · rw [cf_beyond (by rw [pa_len]; exact h), cf_beyond (p := p) (by omega), cf_beyond (p := q) (by omega)]; grind
theorem wq_nat (k : Nat) : wq k = ((k : Nat) : Rat) := by
  rw [wq_is]; rfl
theorem cf_dv (p : List Rat) (i : Nat) : cf (dv p) i = der (cf p) i := by
  rcases Nat.lt_or_ge i (p.length - 1) with h | h
  · have := dv_get h
    unfold der
    unfold cf
    rw [List.getD_eq_getElem?_getD (l := dv p), this, wq_nat]
    show _ * _ = _
    grind
  · rw [cf_beyond (by rw [dv_len]; exact h)]
    unfold der
    rw [cf_beyond (p := p) (by omega)]; grind
theorem cf_take {l : List Rat} {m : Nat} (h : TrimAt l m) (i : Nat) : cf (l.take m) i = cf l i := by
  have hle := h.le
  unfold cf
  rw [List.getD_eq_getElem?_getD, List.getD_eq_getElem?_getD, List.getElem?_take]
  rcases Nat.lt_or_ge i m with g | g
  · rw [if_pos g]
  · rw [if_neg (by omega)]
    rcases Nat.lt_or_ge i l.length with k | k
    · rw [h.zero i g k]; rfl
    · rw [List.getElem?_eq_none k]
theorem take_last {l : List Rat} {m : Nat} (h : TrimAt l m) : l.take m ≠ [] → (l.take m).getLastD 0 ≠ 0 := by
  intro hne
  have hle := h.le
  have hm : 0 < m := by
    rcases Nat.eq_zero_or_pos m with q | q
    · subst q; simp at hne
    · exact q
  rw [lastD_get, List.length_take, show min m l.length = m by omega]
  have := h.last hm
  rw [List.getD_eq_getElem?_getD, List.getElem?_take, if_pos (by omega)]
  rwa [List.getD_eq_getElem?_getD] at this
theorem PB.take {B n : Nat} {l : List Rat} {m : Nat} (hm : TrimAt l m) (hz : ∀ x ∈ l, ZI B x) (hl : l.length ≤ n) : PB B n (l.take m) :=
  ⟨fun x hx => hz x (List.mem_of_mem_take hx), by rw [List.length_take]; omega, take_last hm⟩
theorem pd_zi {A B n k : Nat} {p q : List Rat} (hp : PB A n p) (hq : PB B k q) : ∀ x ∈ pd p q, ZI (n * (A * B)) x := fun x hx => by
  unfold pd at hx
  obtain ⟨i, _, rfl⟩ := List.mem_map.1 hx
  refine (ps_zi hp.zi hq.zi i (i + 1)).mono (Nat.mul_le_mul_right _ ?_)
  have := hp.len
  omega
theorem PB.pd {A B n k : Nat} {p q : List Rat} (hp : PB A n p) (hq : PB B k q) (hn : 1 ≤ n) (hk : 1 ≤ k) : PB (n * (A * B)) (n + k - 1) (pd p q) := by
  have h1 := hp.len
  have h2 := hq.len
  refine ⟨pd_zi hp hq, ?_, fun hne => ?_⟩
  · rcases Nat.eq_zero_or_pos p.length with h | h
    · rw [pd_none (.inl h)]; exact Nat.zero_le _
    · rcases Nat.eq_zero_or_pos q.length with g | g
      · rw [pd_none (.inr g)]; exact Nat.zero_le _
      · rw [pd_len h g]; omega
  · have h : 0 < p.length := by
      rcases Nat.eq_zero_or_pos p.length with h | h
      · exact absurd (pd_none (.inl h)) hne
      · exact h
    have g : 0 < q.length := by
      rcases Nat.eq_zero_or_pos q.length with g | g
      · exact absurd (pd_none (.inr g)) hne
      · exact g
    have hpl := hp.last (fun q => by rw [q] at h; simp at h)
    have hql := hq.last (fun q => by rw [q] at g; simp at g)
    rw [lastD_get] at hpl hql
    rw [lastD_get, pd_len h g, List.getD_eq_getElem?_getD, pd_get h g (i := p.length + q.length - 1 - 1) (by omega)]
    show ps p q (p.length + q.length - 1 - 1) (p.length + q.length - 1 - 1 + 1) ≠ 0
    have key : ∀ n, n ≤ p.length - 1 → ps p q (p.length + q.length - 1 - 1) n = 0 := by
      intro n
      induction n with
      | zero => intro _; rfl
      | succ n ih =>
        intro hn
        rw [ps, ih (by omega), cf_beyond (p := q) (by omega)]; grind
    have top := ps_top p q (p.length + q.length - 1 - 1) p.length (q.length - 1) (Nat.le_refl _)
    rw [show p.length + q.length - 1 - 1 + 1 = p.length + (q.length - 1) by omega, top]
    have h3 : ps p q (p.length + q.length - 1 - 1) p.length = cf p (p.length - 1) * cf q (q.length - 1) := by
      have : ps p q (p.length + q.length - 1 - 1) (p.length - 1 + 1) = ps p q (p.length + q.length - 1 - 1) (p.length - 1) + cf p (p.length - 1) * cf q (p.length + q.length - 1 - 1 - (p.length - 1)) := rfl
      rw [show p.length - 1 + 1 = p.length by omega, key _ (Nat.le_refl _), show p.length + q.length - 1 - 1 - (p.length - 1) = q.length - 1 by omega] at this
      rw [this]; grind
    rw [h3]
    intro h0
    rcases Rat.mul_eq_zero.1 h0 with z | z
    · exact hpl z
    · exact hql z
theorem PB.pm {A B n k : Nat} {p q : List Rat} (hp : PB A n p) (hq : PB B k q) (h1 : A ≤ 9000000000000000000) (h2 : B ≤ 9000000000000000000) (h3 : n * (A * B) ≤ 9000000000000000000) : PmFit p q :=
  ⟨fun x hx => (hp.zi x hx).fit h1, fun x hx => (hq.zi x hx).fit h2, fun i k _ => ((ps_zi hp.zi hq.zi i k).mono (Nat.mul_le_mul_right _ (by have := hp.len; omega))).fit h3⟩
theorem pa_zi {A B n k : Nat} {p q : List Rat} (hp : PB A n p) (hq : PB B k q) : ∀ x ∈ pa p q, ZI (A + B) x := fun x hx => by
  unfold pa at hx
  obtain ⟨i, _, rfl⟩ := List.mem_map.1 hx
  exact (ZI.getD hp.zi i).add (ZI.getD hq.zi i)
theorem PB.pa {A B n k : Nat} {p q : List Rat} (hp : PB A n p) (hq : PB B k q) (h3 : A + B ≤ 9000000000000000000) : PaFit p q :=
  ⟨fun x hx => (hp.zi x hx).fit (by omega), fun x hx => (hq.zi x hx).fit (by omega), fun x hx => (pa_zi hp hq x hx).fit h3⟩
theorem dv_zi {A n : Nat} {p : List Rat} (hp : PB A n p) : ∀ x ∈ dv p, ZI (A * n) x := fun x hx => by
  unfold dv at hx
  obtain ⟨i, hi, rfl⟩ := List.mem_map.1 hx
  have hi' := List.mem_range.1 hi
  have := hp.len
  refine ((ZI.getD hp.zi (i + 1)).mul (B := i + 1) ⟨((i + 1 : Nat) : Int), by rw [wq_is], by omega⟩).mono (Nat.mul_le_mul_left _ (by omega))
theorem PB.de {A n : Nat} {p : List Rat} (hp : PB A n p) (h1 : A ≤ 9000000000000000000) (h3 : A * n ≤ 9000000000000000000) : DeFit p :=
  ⟨fun x hx => (hp.zi x hx).fit h1, fun x hx => (dv_zi hp x hx).fit h3⟩
def tt : Rat := mkRat 2 3
theorem tt_3 : tt * 3 = 2 := by decide +kernel
theorem evL_tt {B : Nat} : ∀ {l : List Rat}, (∀ x ∈ l, ZI B x) → ∃ N : Int, evL tt l * ((3 ^ l.length : Nat) : Rat) = (N : Rat) ∧ N.natAbs ≤ 3 ^ (l.length + 1) * B
  | [], _ => ⟨0, by show (0 : Rat) * _ = _; simp, Nat.zero_le _⟩
  | a :: l, h => by
    obtain ⟨N, h1, h2⟩ := evL_tt (l := l) fun x hx => h x (List.mem_cons_of_mem _ hx)
    obtain ⟨z, rfl, hz⟩ := h a List.mem_cons_self
    refine ⟨2 * N + (3 ^ (l.length + 1) : Nat) * z, ?_, ?_⟩
    · show (evL tt l * tt + (z : Rat)) * ((3 ^ (l.length + 1) : Nat) : Rat) = _
      have e3 : ((3 ^ (l.length + 1) : Nat) : Rat) = ((3 ^ l.length : Nat) : Rat) * 3 := by
        rw [Nat.pow_succ]; simp
      have e4 : ((2 * N + (3 ^ (l.length + 1) : Nat) * z : Int) : Rat) = 2 * (N : Rat) + ((3 ^ (l.length + 1) : Nat) : Rat) * (z : Rat) := by
        rw [Rat.intCast_add, Rat.intCast_mul, Rat.intCast_mul]; rfl
      rw [e4, e3, ← h1]
      have := tt_3
      generalize ((3 ^ l.length : Nat) : Rat) = c
      generalize evL tt l = y
      grind
    · have e5 : (2 * N + ((3 ^ (l.length + 1) : Nat) : Int) * z).natAbs ≤ 2 * N.natAbs + 3 ^ (l.length + 1) * z.natAbs := by
        refine Nat.le_trans (Int.natAbs_add_le _ _) ?_
        rw [Int.natAbs_mul, Int.natAbs_mul]
        exact Nat.le_refl _
      refine Nat.le_trans e5 ?_
      have e6 : 3 ^ (l.length + 1) * z.natAbs ≤ 3 ^ (l.length + 1) * B := Nat.mul_le_mul_left _ hz
      show _ ≤ 3 ^ (l.length + 1 + 1) * B
      rw [Nat.pow_succ 3 (l.length + 1)]
      have e7 : 3 ^ (l.length + 1) * 3 * B = 3 * (3 ^ (l.length + 1) * B) := by rw [Nat.mul_comm (3 ^ (l.length + 1)) 3, Nat.mul_assoc]
      rw [e7]
      generalize 3 ^ (l.length + 1) * B = X at *
      generalize 3 ^ (l.length + 1) * z.natAbs = Y at *
      omega
theorem int_rat (z : Int) : ((z : Int) : Rat).num = z ∧ ((z : Int) : Rat).den = 1 := ⟨by simp, by simp⟩
theorem ints_ls {w : World} {a : Addr} {len cap : Nat} {zs : List Int} (hs : a.spot = none) (hl : len ≤ cap) (hlen : len ≤ zs.length) (hc : ∀ i, i < zs.length → w.cell? (a.add i) = some (.int .i8 (zs.getD i 0))) (hb : ∀ n ∈ zs, -128 ≤ n ∧ n ≤ 127) :
    LsIn 3 w (.slice (some a) len cap) ((zs.take len).map fun z => ((z : Int) : Rat)) := by
  have hlm : ((zs.take len).map fun z => ((z : Int) : Rat)).length = len := by rw [List.length_map, List.length_take]; omega
  refine ⟨some a, cap, by rw [hlm], by rw [hlm]; exact hl, fun hne => ?_⟩
  have hpos : 0 < len := by
    rcases Nat.eq_zero_or_pos len with q | q
    · subst q; simp at hne
    · exact q
  obtain ⟨b, off, spot⟩ := a
  have h0 := hc 0 (by omega)
  have hs' : spot = none := hs
  subst hs'
  cases hh : w.heap[b]? with
  | none => simp [World.cell?, Addr.add, hh] at h0
  | some o =>
      cases o with
      | cells c t z =>
        obtain ⟨cl⟩ := c
        refine ⟨b, off, cl, t, z, rfl, hh, fun i q hi => ?_⟩
        rw [List.getElem?_map] at hi
        obtain ⟨x, hx, rfl⟩ := Option.map_eq_some_iff.1 hi
        have hi2 := (List.getElem?_eq_some_iff.1 hx).1
        rw [List.length_take] at hi2
        have hx2 : zs[i]? = some x := by
          rw [List.getElem?_take, if_pos (by omega)] at hx; exact hx
        have h1 := hc i (by omega)
        rw [List.getD_eq_getElem?_getD, hx2] at h1
        have h2 : cl[off + i]? = some (.int .i8 x) := by
          rw [add_off] at h1
          simpa [World.cell?, hh] using h1
        have hm := hb x (List.mem_of_getElem? hx2)
        refine ⟨.int .i8 x, ?_, ?_⟩
        · show ((cl.drop (off + i * 1)).take 1) = _
          rw [Nat.mul_one]
          have hlt := (List.getElem?_eq_some_iff.1 h2).1
          rw [List.drop_eq_getElem_cons hlt]
          simp [(List.getElem?_eq_some_iff.1 h2).2]
        · show _ = Value.int .i8 _ ∧ _
          rw [(int_rat x).1]
          exact ⟨rfl, (int_rat x).2, by omega, by omega⟩
      | _ => simp [World.cell?, Addr.add, hh] at h0
end Ev
end Go.Proofs.YtdlhpleabfnogaaGreatDoor
namespace Go.Proofs.YtdlhpleabfnogaaGreatDoor
open Go.ChangeShapes Go.WideShapes Go.ChangeAt Go.RowKit
theorem own : ownKnob Tryz.prog.godebug = none := by kernel_rfl
section
variable {H : Type} {enc : TypeId × Value → H} {P : Program}
end
theorem glob_size {W : World} (h : W.ShapedOpen Tryz.prog) : Tryz.prog.globals.size ≤ W.heap.size := by
  have hb : Nat.ble (Tryz.prog.globals.size + 1) (begin Tryz.prog (fun _ _ => 0) default).world.heap.size = true := by kernel_rfl
  obtain ⟨o, o0, h1, -⟩ := h.2 Tryz.prog.globals.size (Nat.le_refl _) (Nat.le_of_ble_eq_true hb)
  exact Nat.le_of_lt (Array.getElem?_eq_some_iff.1 h1).1
end Go.Proofs.YtdlhpleabfnogaaGreatDoor
namespace Go.Proofs.YtdlhpleabfnogaaGreatDoor
open Go Go.ChangeShapes Go.WideShapes Go.ChangeAt Go.RowKit
theorem cell_below {W W' : World} (hb : Below W.heap.size W W') {a : Addr} (h : a.block < W.heap.size) : W'.cell? a = W.cell? a := by
  unfold World.cell?
  rw [hb.block _ h]
theorem frozen_below {W W' : World} (hb : Below W.heap.size W W') {a : Addr} (h : a.block < W.heap.size) : W'.frozen? a = W.frozen? a := by
  unfold World.frozen?
  rw [hb.block _ h]
theorem cell_lt {W : World} {a : Addr} {v : Value} (h : W.cell? a = some v) : a.block < W.heap.size := by
  apply Nat.lt_of_not_le
  intro hn
  have hx : W.heap[a.block]? = none := Array.getElem?_eq_none hn
  simp [World.cell?, hx] at h
section
variable {H : Type} {enc : TypeId × Value → H} {P : Program}
theorem post_kept {f : Func} {s : ChangeSpec} {apart fresh handsOn again : Bool} {W W' : World} {args : Array Value} {v : Value} {ds gs : List (DataW H)} {before : List MemPlace}
    (hW : DataW.Whole enc P f.params.toList s.vars apart W args.toList ds gs before)
    (hres : ∀ (b : Nat) (sp : Nat → Bool) (hd : Bool), DataW.TrodAll enc P W' b sp hd f.resultTypes.toList (v.resultList f.resultTypes.size) (s.fn H (ds ++ gs)).results [])
    (hargs : ∀ sp : Nat → Bool, (∀ p ∈ before, sp p.block = true) → DataW.TrodAll enc P W' 0 sp true f.params.toList args.toList (s.fn H (ds ++ gs)).args before)
    (hvars : ∀ sp : Nat → Bool, DataW.TrodVars enc P W' sp s.vars (s.fn H (ds ++ gs)).vars [])
    (hb : Below W.heap.size W W')
    (hok : ∀ (j : Nat) (t : TypeId) (r : Value), f.resultTypes[j]? = some t → (v.resultList f.resultTypes.size)[j]? = some r → Value.okWide P W' .any 0 t r) :
    s.post enc P f apart fresh handsOn again W args v W' := by
  have hk : W.keptBut W' (fun p => p ∈ ([] : List MemPlace)) := hb.frame _
  have hold : ∀ p ∈ before, (fun b => decide (b < W.heap.size)) p.block = true := fun p hp => by simpa using hW.lt p hp
  have hlt : ∀ p ∈ before, p.block < W.heap.size := fun p hp => hW.lt p hp
  refine ⟨ds, gs, before, [], before, [], hW, hres _ _ _, hargs _ hold, hvars _, World.keptBut_mono (fun p hp => by cases hp) hk, fun _ => ?_⟩
  obtain ⟨_, _, _, _, _, hz, hn⟩ := hW
  refine ⟨hok, _, _, before, ⟨[] ++ before, [], trodAll_append (hargs _ (fun _ _ => rfl)) (hres _ _ _), hvars _, by simp, ?_, hn⟩, fun p hp _ => hp⟩
  intro b off hp
  rw [frozen_below hb (a := ⟨b, off, none⟩) (hlt _ hp)]
  exact hz b off hp
end
set_option maxRecDepth 100000
theorem fit_i8 {q : Rat} (h : q.den = 1 ∧ -128 ≤ q.num ∧ q.num ≤ 127) : Fit q := Ev.int_fit h.1 (by omega) (by omega)
theorem ints8_open {H : Type} {enc : TypeId × Value → H} {W : World} {base : Nat} {v : Value} {d : DataW H} {p : List MemPlace} (hval : Value.okWide Tryz.prog W .any base 30 v)
    (h0 : DataW.Trod enc Tryz.prog W 0 (fun _ => true) true 30 v d p) :
    ∃ qs : List Rat, (∀ q ∈ qs, q.den = 1 ∧ -128 ≤ q.num ∧ q.num ≤ 127) ∧ Ev.LsIn 3 W v qs ∧
      ∀ (W' : World) (sp : Nat → Bool), Below W.heap.size W W' → (∀ q ∈ p, sp q.block = true) → DataW.Trod enc Tryz.prog W' 0 sp true 30 v d p := by
  have hc : Tryz.prog.cellsOf 65 = 1 := by kernel_rfl
  obtain ⟨a0, len0, cap0, rfl⟩ := okWide_slice Tryz.underlying30 hval
  obtain ⟨fuel, hf⟩ := h0
  rcases open_ints Tryz.underlying30 Tryz.underlying65 hc hf with ⟨hcs, hx⟩ | ⟨a, len, cap, zs, hcs, _, hl, hm, hz, hx, hcell, hwz⟩
  · simp [Value.cells] at hcs
    obtain ⟨rfl, rfl, rfl⟩ := hcs
    simp only [Prod.mk.injEq] at hx
    obtain ⟨rfl, rfl⟩ := hx
    exact ⟨[], fun q h => by simp at h, ⟨none, 0, rfl, Nat.le_refl _, fun h => absurd rfl h⟩, fun W' sp _ _ => shut_slice_nil Tryz.underlying30⟩
  · simp [Value.cells] at hcs
    obtain ⟨rfl, rfl, rfl⟩ := hcs
    simp only [Prod.mk.injEq] at hx
    obtain ⟨rfl, rfl⟩ := hx
    simp only [if_true] at hz
    have hwb : ∀ n ∈ zs, -128 ≤ n ∧ n ≤ 127 := fun n h => bounds_i8 (hwz n h)
    refine ⟨(zs.take len0).map fun z => ((z : Int) : Rat), ?_, ?_, ?_⟩
    · intro q hq
      obtain ⟨z, hz1, rfl⟩ := List.mem_map.1 hq
      have h := hwb z (List.mem_of_mem_take hz1)
      rw [(Ev.int_rat z).1]
      exact ⟨(Ev.int_rat z).2, h.1, h.2⟩
    · rcases Nat.eq_zero_or_pos zs.length with h | h
      · have hl0 : len0 = 0 := by omega
        subst hl0
        exact ⟨some a, cap0, rfl, Nat.zero_le _, fun h => absurd rfl h⟩
      · obtain ⟨b, off, rfl, _⟩ := ints_at hcell h
        exact Ev.ints_ls rfl hl (by omega) hcell hwb
    · intro W' sp hb hsp
      refine ⟨2, ?_⟩
      have t0 := shut_ints (enc := enc) (P := Tryz.prog) (w := W') (base := 0) (spare := sp) (held := true) (a := a) (len := len0) (cap := cap0) (zs := zs) 0 Tryz.underlying30 Tryz.underlying65 hc (Nat.zero_le _) hl hm
        (by
          rcases Nat.eq_zero_or_pos zs.length with h | h
          · split <;> omega
          · obtain ⟨b, off, rfl, _⟩ := ints_at hcell h
            have : sp b = true := hsp (MemPlace.cell b (off + 0)) (MemPlace.mem_row.2 ⟨0, h, rfl⟩)
            rw [if_pos this]; exact hz)
        (fun i hi => by
          rw [cell_below hb (cell_lt (hcell i hi))]
          exact hcell i hi) hwz
      simpa [Value.cells] using t0
end Go.Proofs.YtdlhpleabfnogaaGreatDoor
namespace Go.Proofs.YtdlhpleabfnogaaGreatDoor
open Go Go.RowKit
namespace Ev
set_option maxRecDepth 100000
theorem tt_of : ofQ 2 3 = tt := by decide +kernel
theorem mk_of {N : Int} {d : Nat} (h : 0 < d) : ofQ N (d : Int) = mkRat N d := by
  unfold ofQ
  have h1 : decide ((d : Int) < 0) = false := decide_eq_false (by omega)
  have hd : (decide (N < 0) != decide ((d : Int) < 0)) = decide (N < 0) := by
    rw [h1]; cases decide (N < 0) <;> rfl
  rw [hd]
  congr 1
  unfold Big.sI
  by_cases h0 : N < 0
  · simp [h0]; omega
  · simp [h0]; omega
theorem evL_fit {B n : Nat} {l : List Rat} (h : PB B n l) (hn : n ≤ 20) (hB : B ≤ 1000000) : Fit (evL tt l) := by
  obtain ⟨N, h1, h2⟩ := evL_tt h.zi
  have hl := h.len
  have hd : 0 < 3 ^ l.length := Nat.pow_pos (by decide)
  have hd2 : 3 ^ l.length ≤ 3 ^ 20 := Nat.pow_le_pow_right (by decide) (by omega)
  have hd3 : 3 ^ (l.length + 1) ≤ 3 ^ 21 := Nat.pow_le_pow_right (by decide) (by omega)
  have e20 : 3 ^ 20 = 3486784401 := by decide +kernel
  have e21 : 3 ^ 21 = 10460353203 := by decide +kernel
  rw [e20] at hd2
  rw [e21] at hd3
  have hN : N.natAbs ≤ 10460353203 * 1000000 := Nat.le_trans h2 (Nat.mul_le_mul hd3 hB)
  generalize hdd : 3 ^ l.length = d at *
  have hne : ((d : Nat) : Rat) ≠ 0 := by
    intro q
    have : ((d : Nat) : Rat) = ((0 : Nat) : Rat) := q
    have := Rat.natCast_inj.1 this
    omega
  have hv : evL tt l = ofQ N (d : Int) := by
    rw [mk_of hd, Rat.mkRat_eq_div]
    show evL tt l = (N : Rat) / ((d : Nat) : Rat)
    rw [← h1, Rat.div_def, Rat.mul_assoc, Rat.mul_inv_cancel _ hne, Rat.mul_one]
  rw [hv]
  have hb : By 8 (ofQ N (d : Int)) := ofQ_by (by
    have : (256 : Nat) ^ 8 = 18446744073709551616 := by decide +kernel
    omega) (by
    have : (256 : Nat) ^ 8 = 18446744073709551616 := by decide +kernel
    omega) (by omega)
  exact hb.fit (by omega)
theorem tt_fit : Fit tt := by
  rw [← tt_of]
  have hb : By 8 (ofQ 2 3) := ofQ_by (by decide +kernel) (by decide +kernel) (by decide)
  exact hb.fit (by omega)
structure LwOK (L : Nat → List Rat) : Prop where
  p : PB 128 10 (L 10)
  q : PB 128 10 (L 11)
  r : PB 128 10 (L 12)
  pq : PB 256 10 (L 13)
  mpq : L 14 = pd (L 10) (L 11)
  mpqr : L 15 = pd (L 14) (L 12)
  mqr : L 16 = pd (L 11) (L 12)
  qr : PB 256 10 (L 17)
  mpqr2 : L 18 = pd (L 10) (L 17)
  mpr : L 19 = pd (L 10) (L 12)
  d14 : PB 3112960 18 (L 20)
  dp : PB 1280 9 (L 21)
  mdp : L 22 = pd (L 21) (L 11)
  dq : PB 1280 9 (L 23)
  mdq : L 24 = pd (L 10) (L 23)
  cpq : ∀ i, cf (L 13) i = cf (L 10) i + cf (L 11) i
  cqr : ∀ i, cf (L 17) i = cf (L 11) i + cf (L 12) i
  c20 : ∀ i, cf (L 20) i = der (cf (L 14)) i
  c21 : ∀ i, cf (L 21) i = der (cf (L 10)) i
  c23 : ∀ i, cf (L 23) i = der (cf (L 11)) i
theorem add_rel {A B C n k j : Nat} {c d e : List Rat} (hc : PB A n c) (hd : PB B k d) (he : PB C j e) (hf : ∀ i, cf e i = cf c i + cf d i) (hn : n ≤ 33) (hk : k ≤ 33) (hAB : A + B ≤ 9000000000000000000) (w : World) (v u : Value) (hv : LsIn 0 w v c) (hu : LsIn 0 w u d) (hG : Tryz.prog.globals.size ≤ w.heap.size) (hT : natSig.base w) :
    Calls Tryz.prog laF ⟨[v, u]⟩ w fun en w' => (∃ x, en = .returned x ∧ NewOl 0 w w' x e) ∧ Below w.heap.size w w' := by
  have h1 := hc.len
  have h2 := hd.len
  obtain ⟨m, hm⟩ := trim_ex (pa c d)
  have heq : e = (pa c d).take m := cf_inj _ _ he.last (take_last hm) fun i => by rw [hf, cf_take hm, cf_pa]
  refine (ladd_any w (hc.poly (by omega)) (hd.poly (by omega)) (by omega) (by omega) (hc.pa hd hAB) hm hv hu hG hT).mono ?_
  rintro en w' ⟨x, q1, q2, q3⟩
  exact ⟨⟨x, q1, by rw [heq]; exact q2⟩, q3⟩
theorem mul_rel {A B C n k j : Nat} {c d e : List Rat} (hc : PB A n c) (hd : PB B k d) (he : PB C j e) (hf : ∀ i, cf e i = mulF c (cf d) i) (hn : n ≤ 33) (hk : k ≤ 33) (hnk : n + k ≤ 34) (hn1 : 1 ≤ n) (hk1 : 1 ≤ k) (hA : A ≤ 9000000000000000000) (hB : B ≤ 9000000000000000000) (hAB : n * (A * B) ≤ 9000000000000000000) (w : World) (v u : Value) (hv : LsIn 0 w v c) (hu : LsIn 0 w u d) (hG : Tryz.prog.globals.size ≤ w.heap.size) (hT : natSig.base w) :
    Calls Tryz.prog lmF ⟨[v, u]⟩ w fun en w' => (∃ x, en = .returned x ∧ NewOl 0 w w' x e) ∧ Below w.heap.size w w' := by
  have h1 := hc.len
  have h2 := hd.len
  have heq : e = pd c d := cf_inj _ _ he.last (hc.pd hd hn1 hk1).last fun i => by rw [hf, cf_pd]
  refine (lmul_any w (hc.poly hA) (hd.poly hB) (by omega) (by omega) (by omega) (hc.pm hd hA hB hAB) hv hu hG hT).mono ?_
  rintro en w' ⟨x, q1, q2, q3⟩
  exact ⟨⟨x, q1, by rw [heq]; exact q2⟩, q3⟩
theorem sl_rel {A C n j : Nat} {c e : List Rat} (hc : PB A n c) (he : PB C j e) (hf : ∀ i, cf e i = der (cf c) i) (hn : n ≤ 33) (hA : A ≤ 9000000000000000000) (hAn : A * n ≤ 9000000000000000000) (w : World) (v : Value) (hv : LsIn 0 w v c) (hG : Tryz.prog.globals.size ≤ w.heap.size) (hT : natSig.base w) :
    Calls Tryz.prog lsF ⟨[v]⟩ w fun en w' => (∃ x, en = .returned x ∧ NewOl 0 w w' x e) ∧ Below w.heap.size w w' := by
  have h1 := hc.len
  obtain ⟨m, hm⟩ := trim_ex (dv c)
  have heq : e = (dv c).take m := cf_inj _ _ he.last (take_last hm) fun i => by rw [hf, cf_take hm, cf_dv]
  refine (lslope_any w (hc.poly hA) (by omega) (hc.de hA hAn) hm hv hG hT).mono ?_
  rintro en w' ⟨x, q1, q2, q3⟩
  exact ⟨⟨x, q1, by rw [heq]; exact q2⟩, q3⟩
section
variable {L : Nat → List Rat} (H : LwOK L)
include H
theorem LwOK.p14 : PB 163840 19 (L 14) := by rw [H.mpq]; exact H.p.pd H.q (by decide) (by decide)
theorem LwOK.p16 : PB 163840 19 (L 16) := by rw [H.mqr]; exact H.q.pd H.r (by decide) (by decide)
theorem LwOK.p19 : PB 163840 19 (L 19) := by rw [H.mpr]; exact H.p.pd H.r (by decide) (by decide)
theorem LwOK.p15 : PB 398458880 28 (L 15) := by rw [H.mpqr]; exact H.p14.pd H.r (by decide) (by decide)
theorem LwOK.p18 : PB 327680 19 (L 18) := by rw [H.mpqr2]; exact H.p.pd H.qr (by decide) (by decide)
theorem LwOK.p22 : PB 1474560 18 (L 22) := by rw [H.mdp]; exact H.dp.pd H.q (by decide) (by decide)
theorem LwOK.p24 : PB 1638400 18 (L 24) := by rw [H.mdq]; exact H.p.pd H.dq (by decide) (by decide)
theorem LwOK.k14 (i : Nat) : cf (L 14) i = mulF (L 10) (cf (L 11)) i := by rw [H.mpq, cf_pd]
theorem LwOK.k16 (i : Nat) : cf (L 16) i = mulF (L 11) (cf (L 12)) i := by rw [H.mqr, cf_pd]
theorem LwOK.k15 (i : Nat) : cf (L 15) i = mulF (L 10) (cf (L 16)) i := by
  rw [H.mpqr, cf_pd]
  exact mulF_assoc H.k14 H.k16 i
theorem LwOK.k18 (i : Nat) : cf (L 18) i = cf (L 14) i + cf (L 19) i := by
  rw [H.mpqr2, cf_pd, H.mpr, cf_pd, H.k14, mulF_ext H.cqr, mulF_add (cf (L 11)) (cf (L 12))]
theorem LwOK.k20 (i : Nat) : cf (L 20) i = cf (L 22) i + cf (L 24) i := by
  rw [H.c20, der_ext H.k14, mulF_der, H.mdp, cf_pd, H.mdq, cf_pd, mulF_comm, mulF_ext H.c21, mulF_ext H.c23]
  grind
end
def lwQ (L : Nat → List Rat) : Nat → Rat
  | 6 => evL tt (L 14)
  | 7 => evL tt (L 10)
  | 8 => evL tt (L 11)
  | 9 => tt
  | _ => 0
theorem lwQ_fit {L : Nat → List Rat} (H : LwOK L) (i : Nat) : Fit (lwQ L i) := by
  unfold lwQ
  split
  · exact evL_fit H.p14 (by decide) (by decide)
  · exact evL_fit H.p (by decide) (by decide)
  · exact evL_fit H.q (by decide) (by decide)
  · exact tt_fit
  · exact fit00
def lwEnv (L : Nat → List Rat) (H : LwOK L) (lo : Nat) : Env := ⟨lwQ L, fun _ => (false, ⟨#[]⟩, ⟨#[]⟩), fun i _ => lwQ_fit H i, fun i => (lwQ_fit H i).sm.up (by decide), fun _ => bad_zero, lo, L, fun _ => 0, rfl⟩
section
variable {L : Nat → List Rat} (H : LwOK L) (lo : Nat)
theorem lw_add : BiOK (lwEnv L H lo) laF 0 lwAdd (QO (lwEnv L H lo) 0) := fun c d e hm w v u hv hu hG hT => by
  simp only [lwAdd, List.mem_cons, List.not_mem_nil, or_false, Prod.mk.injEq] at hm
  rcases hm with ⟨rfl, rfl, rfl⟩ | ⟨rfl, rfl, rfl⟩ | ⟨rfl, rfl, rfl⟩ | ⟨rfl, rfl, rfl⟩ | ⟨rfl, rfl, rfl⟩
  · exact add_rel H.p H.q H.pq H.cpq (by decide) (by decide) (by decide) w v u hv hu hG hT
  · exact add_rel H.q H.p H.pq (fun i => by rw [H.cpq]; grind) (by decide) (by decide) (by decide) w v u hv hu hG hT
  · exact add_rel H.q H.r H.qr H.cqr (by decide) (by decide) (by decide) w v u hv hu hG hT
  · exact add_rel H.p14 H.p19 H.p18 H.k18 (by decide) (by decide) (by decide) w v u hv hu hG hT
  · exact add_rel H.p22 H.p24 H.d14 H.k20 (by decide) (by decide) (by decide) w v u hv hu hG hT
theorem lw_mul : BiOK (lwEnv L H lo) lmF 0 lwMul (QO (lwEnv L H lo) 0) := fun c d e hm w v u hv hu hG hT => by
  simp only [lwMul, List.mem_cons, List.not_mem_nil, or_false, Prod.mk.injEq] at hm
  rcases hm with ⟨rfl, rfl, rfl⟩ | ⟨rfl, rfl, rfl⟩ | ⟨rfl, rfl, rfl⟩ | ⟨rfl, rfl, rfl⟩ | ⟨rfl, rfl, rfl⟩ | ⟨rfl, rfl, rfl⟩ | ⟨rfl, rfl, rfl⟩ | ⟨rfl, rfl, rfl⟩ | ⟨rfl, rfl, rfl⟩
  · exact mul_rel H.p H.q H.p14 H.k14 (by decide) (by decide) (by decide) (by decide) (by decide) (by decide) (by decide) (by decide) w v u hv hu hG hT
  · exact mul_rel H.q H.p H.p14 (fun i => by rw [H.k14, mulF_comm]) (by decide) (by decide) (by decide) (by decide) (by decide) (by decide) (by decide) (by decide) w v u hv hu hG hT
  · exact mul_rel H.p14 H.r H.p15 (fun i => by rw [H.mpqr, cf_pd]) (by decide) (by decide) (by decide) (by decide) (by decide) (by decide) (by decide) (by decide) w v u hv hu hG hT
  · exact mul_rel H.q H.r H.p16 H.k16 (by decide) (by decide) (by decide) (by decide) (by decide) (by decide) (by decide) (by decide) w v u hv hu hG hT
  · exact mul_rel H.p H.p16 H.p15 H.k15 (by decide) (by decide) (by decide) (by decide) (by decide) (by decide) (by decide) (by decide) w v u hv hu hG hT
  · exact mul_rel H.p H.qr H.p18 (fun i => by rw [H.mpqr2, cf_pd]) (by decide) (by decide) (by decide) (by decide) (by decide) (by decide) (by decide) (by decide) w v u hv hu hG hT
  · exact mul_rel H.p H.r H.p19 (fun i => by rw [H.mpr, cf_pd]) (by decide) (by decide) (by decide) (by decide) (by decide) (by decide) (by decide) (by decide) w v u hv hu hG hT
  · exact mul_rel H.dp H.q H.p22 (fun i => by rw [H.mdp, cf_pd]) (by decide) (by decide) (by decide) (by decide) (by decide) (by decide) (by decide) (by decide) w v u hv hu hG hT
  · exact mul_rel H.p H.dq H.p24 (fun i => by rw [H.mdq, cf_pd]) (by decide) (by decide) (by decide) (by decide) (by decide) (by decide) (by decide) (by decide) w v u hv hu hG hT
theorem lw_sl : UnOK (lwEnv L H lo) lsF 0 lwSl (QO (lwEnv L H lo) 0) := fun c e hm w v hv hG hT => by
  simp only [lwSl, List.mem_cons, List.not_mem_nil, or_false, Prod.mk.injEq, true_and] at hm
  rcases hm with ⟨rfl, rfl⟩ | ⟨rfl, rfl⟩ | ⟨rfl, rfl⟩
  · exact sl_rel H.p14 H.d14 H.c20 (by decide) (by decide) (by decide) w v hv hG hT
  · exact sl_rel H.p H.dp H.c21 (by decide) (by decide) (by decide) w v hv hG hT
  · exact sl_rel H.q H.dq H.c23 (by decide) (by decide) (by decide) w v hv hG hT
theorem lw_same : BiOK (lwEnv L H lo) saF 0 lwSame (fun _ _ en _ => en = .returned (.bool true)) := fun c d e hm w v u hv hu hG hT => by
  have go : ∀ {B n : Nat} {l : List Rat}, PB B n l → B ≤ 9000000000000000000 → n ≤ 10000 → LsIn 0 w v l → LsIn 0 w u l → Calls Tryz.prog saF ⟨[v, u]⟩ w fun en w' => en = .returned (.bool true) ∧ Below w.heap.size w w' := fun {B n l} h h1 h2 hv hu =>
    same_any w (fun x hx => (h.zi x hx).fit h1) (Nat.le_trans h.len h2) hv hu hG hT
  simp only [lwSame, List.mem_cons, List.not_mem_nil, or_false, Prod.mk.injEq] at hm
  rcases hm with ⟨rfl, rfl, rfl⟩ | ⟨rfl, rfl, rfl⟩ | ⟨rfl, rfl, rfl⟩ | ⟨rfl, rfl, rfl⟩ | ⟨rfl, rfl, rfl⟩
  · exact go H.pq (by decide) (by decide) hv hu
  · exact go H.p14 (by decide) (by decide) hv hu
  · exact go H.p15 (by decide) (by decide) hv hu
  · exact go H.p18 (by decide) (by decide) hv hu
  · exact go H.d14 (by decide) (by decide) hv hu
theorem lw_A : AllH (lwEnv L H lo) lwA := fun x hx => by
  have hm : evL tt (L 14) = evL tt (L 10) * evL tt (L 11) := evL_mul tt H.k14
  simp only [lwA, List.mem_cons, List.not_mem_nil, or_false] at hx
  rcases hx with rfl | rfl
  · show true = true ↔ Fit (evL tt (L 10) * evL tt (L 11))
    exact ⟨fun _ => by rw [← hm]; exact lwQ_fit H 6, fun _ => rfl⟩
  · show true = true ↔ evL tt (L 14) = evL tt (L 10) * evL tt (L 11)
    exact ⟨fun _ => hm, fun _ => rfl⟩
end
theorem giveF_ok {ρ : Env} {e : Nat} {f : FuncId} {args' : List Value} {h h' : Tr (Blk Sy)} {nx nx' : Nat} {R W : List Nat} {r : Ren} {w : World} {v : Value} (e1 : giveF e h nx = .ok v h' nx' R W) (hM : Mod (symSig ρ) r h.get w) (hN : New r nx nx')
    (c : Calls Tryz.prog f ⟨args'⟩ w fun en w' => en = .returned (.tuple ⟨[.agg ⟨[.bool (Big.ng (ρ.q e)), .string (bst (Big.nu (ρ.q e))), .string (bst (Big.de (ρ.q e)))]⟩, .int .i64 0]⟩) ∧ Below w.heap.size w w') :
    Calls Tryz.prog f ⟨args'⟩ w fun e w' => ∃ v' r', e = .returned v' ∧ VR r' v v' ∧ Ext (symSig ρ) r w nx nx' W h'.get r' w' :=
  goes_aggT (u := .int .i64 0) (f := f) rfl e1 hM hN (c.mono fun en w' hr => by
    obtain ⟨h5, h6⟩ := hr
    exact ⟨_, h5, frac_holds (.v e), h6⟩)
theorem of23S_ok {ρ : Env} (h9 : ρ.q 9 = tt) : SumF (symSig ρ) Tryz.prog of23S.1 of23S.2 := by
  intro args m hm
  rcases args with _ | ⟨a, _ | ⟨b, _ | ⟨z, l⟩⟩⟩ <;> first | (cases (show none = some m from hm); done) | skip
  have hm' : cond (isI 2 a && isI 3 b) (some (giveF 9)) none = some m := hm
  cases hk : (isI 2 a && isI 3 b) with
  | false => rw [hk] at hm'; cases hm'
  | true =>
    rw [hk] at hm'
    cases hm'
    simp only [Bool.and_eq_true] at hk
    obtain rfl := isI_ok hk.1
    obtain rfl := isI_ok hk.2
    refine ⟨loc_giveF _, fun h nx v h' nx' R W e r w args' hv hM hN => ?_⟩
    cases hv with
    | cons h1 hv => cases hv with
      | cons h2 h3 =>
        cases h3
        obtain rfl := h1.eq_of_plain rfl
        obtain rfl := h2.eq_of_plain rfl
        have c0 := raOf_any w 2 3 (by decide) (by decide) (by decide) (by decide) (by decide)
        rw [tt_of, ← h9] at c0
        exact giveF_ok e hM hN c0
theorem pAtS_ok {ρ : Env} (h9 : ρ.q 9 = tt) (hc : ∀ c e, (c, 0, e) ∈ lwAt → PolyOK (ρ.lst c) ∧ (ρ.lst c).length ≤ 20 ∧ Fit (evL tt (ρ.lst c)) ∧ ρ.q e = evL tt (ρ.lst c)) : SumF (symSig ρ) Tryz.prog pAtS.1 pAtS.2 := by
  intro args m hm
  rcases args with _ | ⟨a, _ | ⟨b, _ | ⟨z, l⟩⟩⟩ <;> first | (cases (show none = some m from hm); done) | skip
  cases b <;> first | (cases (show none = some m from hm); done) | skip
  rename_i cs
  obtain ⟨cl⟩ := cs
  cases hm
  refine ⟨loc_bind (loc_lsArg _ _) fun y => loc_bind (loc_frcV _) fun o => ?_, fun h nx v h' nx' R W e r w args' hv hM hN => ?_⟩
  · (repeat' split) <;> first | exact loc_fail | exact loc_cond (loc_giveF _) loc_fail
  cases hv with
  | cons h1 hv => cases hv with
    | cons h2 h3 =>
      cases h3
      obtain ⟨l', rfl, hl⟩ := vr_agg h2
      obtain ⟨y, g1, nx1, R1, W1, R2, W2, e1, e2, rfl, rfl⟩ := bind_ok e
      obtain ⟨rfl, rfl, rfl, hls⟩ := lsArg_ok (ρ := ρ) (fun x hx => by simp at hx) e1 h1 hM
      obtain ⟨o, g3, nx3, R3, W3, R4, W4, e3, e4, rfl, rfl⟩ := bind_ok e2
      obtain ⟨rfl, rfl, rfl, hf⟩ := frcV_ok e3 hl hM
      cases hy : vOf 0 y with
      | none => rw [hy] at e4; cases (show (fail : M Sy Value) _ _ = _ from e4)
      | some c =>
        rw [hy] at e4; simp only at e4
        cases o with
        | none => cases (show (fail : M Sy Value) _ _ = _ from e4)
        | some x =>
          simp only at e4
          cases hfd : findL lwAt c 0 with
          | none => rw [hfd] at e4; cases (show (fail : M Sy Value) _ _ = _ from e4)
          | some k =>
            rw [hfd] at e4
            obtain ⟨hk, e5⟩ := cond_ok e4
            obtain rfl := vOf_ok hy
            rw [Qe.beq_ok _ _ hk] at hf
            obtain rfl : l' = _ := hf
            obtain ⟨q1, q2, q3, q4⟩ := hc c k (findL_ok hfd)
            have c0 := pAt_any w (x := tt) q1 q2 tt_fit q3 hls hM.fits hM.base
            rw [← q4] at c0
            have h9' : (Qe.v 9).ev ρ.q = tt := h9
            rw [h9']
            simp only [List.nil_append]
            exact giveF_ok e5 hM hN c0
def lwLst (a b c p q r pq qr d14 dp dq : List Rat) : Nat → List Rat
  | 0 => a
  | 1 => b
  | 2 => c
  | 10 => p
  | 11 => q
  | 12 => r
  | 13 => pq
  | 14 => pd p q
  | 15 => pd (pd p q) r
  | 16 => pd q r
  | 17 => qr
  | 18 => pd p qr
  | 19 => pd p r
  | 20 => d14
  | 21 => dp
  | 22 => pd dp q
  | 23 => dq
  | 24 => pd p dq
  | _ => []
theorem i8_zi {l : List Rat} (h : ∀ q ∈ l, q.den = 1 ∧ -128 ≤ q.num ∧ q.num ≤ 127) : ∀ x ∈ l, ZI 128 x := fun x hx => by
  obtain ⟨h1, h2, h3⟩ := h x hx
  refine ⟨x.num, ?_, by omega⟩
  apply Rat.ext
  · simp
  · simp [h1]
theorem polyLaws_any (w : World) {u v t : Value} {a b c : List Rat} (hu : LsIn 3 w u a) (ha : ∀ q ∈ a, q.den = 1 ∧ -128 ≤ q.num ∧ q.num ≤ 127) (hv : LsIn 3 w v b) (hb : ∀ q ∈ b, q.den = 1 ∧ -128 ≤ q.num ∧ q.num ≤ 127) (ht : LsIn 3 w t c) (hc : ∀ q ∈ c, q.den = 1 ∧ -128 ≤ q.num ∧ q.num ≤ 127)
    (hG : Tryz.prog.globals.size ≤ w.heap.size) (hT : Tab w) : Calls Tryz.prog lwF ⟨[u, v, t]⟩ w fun e w' => e = .returned (.bool true) ∧ Below w.heap.size w w' := by
  have ten : ∀ l : List Rat, (l.take (min l.length 10)).length ≤ 10 := fun l => by rw [List.length_take]; omega
  have tz : ∀ {l : List Rat}, (∀ q ∈ l, q.den = 1 ∧ -128 ≤ q.num ∧ q.num ≤ 127) → ∀ x ∈ l.take (min l.length 10), ZI 128 x := fun {l} h x hx => i8_zi h x (List.mem_of_mem_take hx)
  obtain ⟨ma, hma⟩ := trim_ex (a.take (min a.length 10))
  obtain ⟨mb, hmb⟩ := trim_ex (b.take (min b.length 10))
  obtain ⟨mc, hmc⟩ := trim_ex (c.take (min c.length 10))
  obtain ⟨p, hp⟩ : ∃ p, p = (a.take (min a.length 10)).take ma := ⟨_, rfl⟩
  obtain ⟨q, hq⟩ : ∃ q, q = (b.take (min b.length 10)).take mb := ⟨_, rfl⟩
  obtain ⟨s, hs⟩ : ∃ s, s = (c.take (min c.length 10)).take mc := ⟨_, rfl⟩
  have Pp : PB 128 10 p := by rw [hp]; exact PB.take hma (tz ha) (ten a)
  have Pq : PB 128 10 q := by rw [hq]; exact PB.take hmb (tz hb) (ten b)
  have Ps : PB 128 10 s := by rw [hs]; exact PB.take hmc (tz hc) (ten c)
  have lp := Pp.len
  have lq := Pq.len
  have ls := Ps.len
  have Ppq : PB 163840 19 (pd p q) := Pp.pd Pq (by decide) (by decide)
  have l14 := Ppq.len
  obtain ⟨m1, h1⟩ := trim_ex (pa p q)
  obtain ⟨m2, h2⟩ := trim_ex (pa q s)
  obtain ⟨m3, h3⟩ := trim_ex (dv (pd p q))
  obtain ⟨m4, h4⟩ := trim_ex (dv p)
  obtain ⟨m5, h5⟩ := trim_ex (dv q)
  have H : LwOK (lwLst a b c p q s ((pa p q).take m1) ((pa q s).take m2) ((dv (pd p q)).take m3) ((dv p).take m4) ((dv q).take m5)) :=
    { p := Pp, q := Pq, r := Ps
      pq := PB.take h1 (pa_zi Pp Pq) (by rw [pa_len]; omega)
      mpq := rfl, mpqr := rfl, mqr := rfl
      qr := PB.take h2 (pa_zi Pq Ps) (by rw [pa_len]; omega)
      mpqr2 := rfl, mpr := rfl
      d14 := PB.take h3 (dv_zi Ppq) (by rw [dv_len]; omega)
      dp := PB.take h4 (dv_zi Pp) (by rw [dv_len]; omega)
      mdp := rfl
      dq := PB.take h5 (dv_zi Pq) (by rw [dv_len]; omega)
      mdq := rfl
      cpq := fun i => (cf_take h1 i).trans (cf_pa p q i)
      cqr := fun i => (cf_take h2 i).trans (cf_pa q s i)
      c20 := fun i => (cf_take h3 i).trans (cf_dv (pd p q) i)
      c21 := fun i => (cf_take h4 i).trans (cf_dv p i)
      c23 := fun i => (cf_take h5 i).trans (cf_dv q i) }
  let E := lwEnv _ H w.heap.size
  have hh : HoldsL (symSig E) w [.ls 3 0, .ls 3 1, .ls 3 2] [u, v, t] := ⟨u, _, rfl, LsIn.ls hu rfl, by obtain ⟨a, m, rfl, _⟩ := hu; rfl, v, _, rfl, LsIn.ls hv rfl, by obtain ⟨a, m, rfl, _⟩ := hv; rfl, t, _, rfl, LsIn.ls ht rfl, by obtain ⟨a, m, rfl, _⟩ := ht; rfl, rfl⟩
  have hB : AllX E [] := fun x hx => by simp at hx
  have hA : AllH E lwA := lw_A H w.heap.size
  have hO : UnOK E lfF 3 lwOf (QO E 0) := fun d e hm w v hv hG hT => by
    simp only [lwOf, List.mem_cons, List.not_mem_nil, or_false, Prod.mk.injEq, true_and] at hm
    have go : ∀ {l p : List Rat} {m : Nat}, (∀ q ∈ l, q.den = 1 ∧ -128 ≤ q.num ∧ q.num ≤ 127) → TrimAt (l.take (min l.length 10)) m → p = (l.take (min l.length 10)).take m → LsIn 3 w v l → Calls Tryz.prog lfF ⟨[v]⟩ w fun en w' => (∃ x, en = .returned x ∧ NewOl 0 w w' x p) ∧ Below w.heap.size w w' := fun {l p m} h1 h2 h3 h4 =>
      (lawOf_any w (fun q h => fit_i8 (h1 q h)) h2 h4 hG hT).mono fun en w' hh => by
        obtain ⟨x, q1, q2, q3⟩ := hh
        exact ⟨⟨x, q1, by rw [h3]; exact q2⟩, q3⟩
    rcases hm with ⟨rfl, rfl⟩ | ⟨rfl, rfl⟩ | ⟨rfl, rfl⟩
    · exact go ha hma hp hv
    · exact go hb hmb hq hv
    · exact go hc hmc hs hv
  have hS : SumOK (symSig E) Tryz.prog lwSums := sumsOf_ok fun x hx => by
    rcases List.mem_cons.1 hx with rfl | hx
    · exact unA_ok hB (loc_giveO _) hO fun _ _ _ _ _ _ _ _ _ _ _ e hM hN c => giveO_ok e hM hN c
    rcases List.mem_cons.1 hx with rfl | hx
    · exact biA_ok hB (loc_giveO _) (lw_add H w.heap.size) fun _ _ _ _ _ _ _ _ _ _ _ e hM hN c => giveO_ok e hM hN c
    rcases List.mem_cons.1 hx with rfl | hx
    · exact biA_ok hB (loc_giveO _) (lw_mul H w.heap.size) fun _ _ _ _ _ _ _ _ _ _ _ e hM hN c => giveO_ok e hM hN c
    rcases List.mem_cons.1 hx with rfl | hx
    · exact unA_ok hB (loc_giveO _) (lw_sl H w.heap.size) fun _ _ _ _ _ _ _ _ _ _ _ e hM hN c => giveO_ok e hM hN c
    rcases List.mem_cons.1 hx with rfl | hx
    · exact biA_ok hB (fun _ => loc_ret _) (lw_same H w.heap.size) fun _ _ _ _ _ _ _ _ _ _ _ e hM hN c => goes_pl e rfl hM c
    rcases List.mem_cons.1 hx with rfl | hx
    · exact of23S_ok (ρ := E) rfl
    rcases List.mem_cons.1 hx with rfl | hx
    · refine pAtS_ok (ρ := E) rfl fun c e hm => ?_
      simp only [lwAt, List.mem_cons, List.not_mem_nil, or_false, Prod.mk.injEq, true_and] at hm
      rcases hm with ⟨rfl, rfl⟩ | ⟨rfl, rfl⟩ | ⟨rfl, rfl⟩
      · exact ⟨Ppq.poly (by decide), show (pd p q).length ≤ 20 by omega, lwQ_fit H 6, rfl⟩
      · exact ⟨Pp.poly (by decide), show p.length ≤ 20 by omega, lwQ_fit H 7, rfl⟩
      · exact ⟨Pq.poly (by decide), show q.length ≤ 20 by omega, lwQ_fit H 8, rfl⟩
    rcases List.mem_cons.1 hx with rfl | hx
    · exact woS_ok
    · exact symList_ok hA x hx
  refine (tells_calls (Fq.lsFitsQ hA hB) hS (isTrue_ok lw_run) rfl glob_few hh hG hT (Nat.le_refl _) (.none rfl)).mono ?_
  rintro e w' ⟨v', rfl, h1, hb⟩
  have h1' : v' = .bool true := h1
  subst h1'
  exact ⟨rfl, hb⟩
end Ev
end Go.Proofs.YtdlhpleabfnogaaGreatDoor
namespace Go.Proofs.YtdlhpleabfnogaaGreatDoor
open Go.ChangeShapes Go.WideShapes Go.ChangeAt Go.RowKit
theorem gTab : Tryz.prog.globalNamed "internal/strconv.uint64pow10" = some 3 := by kernel_rfl
end Go.Proofs.YtdlhpleabfnogaaGreatDoor
namespace Go.Proofs.YtdlhpleabfnogaaGreatDoor
open Go.ChangeShapes Go.WideShapes Go.ChangeAt Go.RowKit
def laid3 : List (String × DataW Unit) := [("math/bits.deBruijn32tab", Rows.laid_math_bits_deBruijn32tab), ("math/bits.deBruijn64tab", Rows.laid_math_bits_deBruijn64tab), ("internal/strconv.uint64pow10", Rows.laid_internal_strconv_uint64pow10)]
set_option maxRecDepth 100000 in
theorem door_met (os : Os) (args : Array Value) : laidMetH Tryz.prog laid3 ((World.doorLaid Tryz.prog 4000 os).forCall (fun _ _ => 0) ⟨#[], args, []⟩).memory :=
  laidMetH_of_parts3 (fuel := 8) (laidMet_of_run' 8 (by kernel_rfl) (by kernel_rfl)) (by kernel_rfl) (by kernel_rfl)
theorem tTab : (Tryz.prog.globals[3]?).map (·.type) = some 274 := by kernel_rfl
theorem cTab : Tryz.prog.cellsOf 274 = 20 := by kernel_rfl
theorem ceTab : Tryz.prog.cellsOf 121 = 1 := by kernel_rfl
theorem dTab : (Rows.laid_internal_strconv_uint64pow10 : DataW Unit) = Lib.tabData .u64 Lib.pow10Tab := by rfl
theorem tab_of_laid {W : World} (h : laidMetH Tryz.prog laid3 W) : Tab W := by
  rw [MakeChecks.laidMetH_plain _ _ _ (by kernel_rfl)] at h
  obtain ⟨ps, ⟨g0, t0, cs0, f0, p0, q0, hg0, ht0, hv0, hd0, ⟨g1, t1, cs1, f1, p1, q1, hg1, ht1, hv1, hd1, ⟨g2, t2, cs2, f2, p2, q2, hg2, ht2, hv2, hd2, _, _⟩, _⟩, _⟩, _, _⟩ := h
  obtain rfl := Option.some.inj (gTab.symm.trans hg2)
  obtain rfl := Option.some.inj (tTab.symm.trans ht2)
  rw [dTab] at hd2
  show World.var? Tryz.prog W _ = _
  rw [hv2, ← Lib.cells_of_tab Tryz.underlying274 Tryz.underlying121 ceTab cTab hd2]
end Go.Proofs.YtdlhpleabfnogaaGreatDoor
namespace Go.Proofs.YtdlhpleabfnogaaGreatDoor
open Go.ChangeShapes Go.WideShapes Go.ChangeAt Go.RowKit
theorem handed_both {H : Type} {enc : TypeId × Value → H} {C : Checked} {os : Os} {f : FuncId} {fn : Func} {s : ChangeSpec} {apart fresh handsOn again : Bool} {X : World → Array Value → Prop}
    (hX : ∀ (w w' : World) (args : Array Value), w.heap = w'.heap → X w args → X w' args)
    (hown : ownKnob C.prog.godebug = none) (started : os.Started) (noInit : C.prog.inits.idxOf? f = none) (hfn : C.prog.funcs[f]? = some fn)
    (witness : ∃ (w : World) (tape : Tape) (i : Input), w.os = os ∧ (w.forCall tape i).Shaped C.prog ∧ i.vars = [] ∧ Input.okWide C.prog (w.forCall tape i) .any w.heap.size f i ∧
      ((s.pre enc C.prog fn [] apart (w.forCall tape i).memory i.args ∧ X (w.forCall tape i).memory i.args) ∧ sizedMet enc C.prog fn (OpenSpec.ofChange s) apart (w.forCall tape i).memory i.args) ∧ Assume.holds {} C.prog (lone (Frame.enter C.prog f i.args .normal) [] (w.forCall tape i)))
    (contract : ∀ (W : World) (base : Nat) (args : Array Value) (ds gs : List (DataW H)) (before : List MemPlace),
      (∀ (j : Nat) t v, fn.params[j]? = some t → args[j]? = some v → Value.okWide C.prog W .any base t v) →
      DataW.Whole enc C.prog fn.params.toList s.vars apart W args.toList ds gs before → X W args → W.ShapedOpen C.prog →
      Calls C.prog f args W fun e W' => ∃ v, e = .returned v ∧ s.post enc C.prog fn apart fresh handsOn again W args v W') :
    ReturnsInHanded {} C os f .any (fun w args => (s.pre enc C.prog fn [] apart w args ∧ X w args) ∧ sizedMet enc C.prog fn (OpenSpec.ofChange s) apart w args) (s.post enc C.prog fn apart fresh handsOn again) := by
  refine returnsInHanded_of_calls hown started noInit witness ?_
  intro w tape i _ hshape _ hin hp _
  obtain ⟨_, _, _, fn2, hfn2, _, _, _, _, hv⟩ := hin
  obtain rfl : fn2 = fn := Option.some.inj (hfn2.symm.trans hfn)
  obtain ⟨⟨⟨ds, gs, before, hwh, _⟩, hx⟩, _⟩ := hp
  refine (contract (w.forCall tape i) w.heap.size i.args ds gs before hv (DataW.Whole.of_heap (w' := w.forCall tape i) (by rfl) hwh) (hX _ _ _ (by rfl) hx) hshape).mono fun e W' ⟨v, he, hpost⟩ => ?_
  subst he
  exact ChangeSpec.post_blind hpost
end Go.Proofs.YtdlhpleabfnogaaGreatDoor
namespace Go.Proofs.YtdlhpleabfnogaaGreatDoor
set_option maxRecDepth 100000
theorem plaws_and {a b : Bool} (ha : a = true) (hb : b = true) : (a && b) = true := by rw [ha, hb]; rfl
theorem plaws_c0 : ((Rows.polyLawsRow).wf (OpenSpec.ofChange Rows.polyLawsSpec)) = true := by kernel_rfl
theorem plaws_c1 : (laidOutB Tryz.checked.prog) = true := by kernel_rfl
theorem plaws_c2 : (mapsRowed Tryz.checked.prog) = true := by kernel_rfl
theorem plaws_c3 : ((Tryz.f4).params.all ((Tryz.checked.prog).readableRec ·)) = true := by kernel_rfl
theorem plaws_c4 : (namedTie Tryz.checked.prog (Rows.polyLawsRow).named (Rows.polyLawsSpec).vars) = true := by kernel_rfl
theorem plaws_c5 : (((Rows.polyLawsRow).stops == [])) = true := by kernel_rfl
theorem plaws_c6 : (((Tryz.checked.prog).stops == [])) = true := by kernel_rfl
theorem plaws_c7 : (((Rows.polyLawsRow).knobs == [])) = true := by kernel_rfl
theorem plaws_c8 : (((Tryz.checked.prog).stopKnobs == [])) = true := by kernel_rfl
theorem plaws_c9 : (((Rows.polyLawsRow).inPlace == (Tryz.checked.prog).inPlace 4)) = true := by kernel_rfl
theorem plaws_c10 : (((Rows.polyLawsRow).unfollowed == (Tryz.checked.prog).unfollowed 4)) = true := by kernel_rfl
theorem plaws_c11 : (((Rows.polyLawsRow).recurses == (Tryz.checked.prog).recurses 4)) = true := by kernel_rfl
theorem plaws_c12 : (((Rows.polyLawsRow).named == (Tryz.checked.prog).varsNamed 4)) = true := by kernel_rfl
theorem plaws_c13 : (((Rows.polyLawsRow).maps == ((Tryz.f4).params.toList ++ (Rows.polyLawsSpec).plain.varTypes Tryz.checked.prog).any ((Tryz.checked.prog).mapsRec ·))) = true := by kernel_rfl
theorem plaws_c14 : (((Rows.polyLawsRow).ifaces == ((Tryz.f4).params.toList ++ (Rows.polyLawsSpec).plain.varTypes Tryz.checked.prog).any ((Tryz.checked.prog).ifacesRec ·))) = true := by kernel_rfl
theorem plaws_c15 : (((Rows.polyLawsRow).mapsOut == (Tryz.checked.prog).mapsAmong (Tryz.f4).resultTypes.toList)) = true := by kernel_rfl
theorem plaws_c16 : (((Rows.polyLawsRow).loops == ((Tryz.f4).params.toList ++ (Rows.polyLawsSpec).plain.varTypes Tryz.checked.prog).any ((Tryz.checked.prog).loopsFrom ·))) = true := by kernel_rfl
theorem plaws_c17 : (((Rows.polyLawsRow).wideKeys == ((Tryz.f4).params.toList ++ (Rows.polyLawsSpec).plain.varTypes Tryz.checked.prog ++ (Tryz.f4).resultTypes.toList).any ((Tryz.checked.prog).wideKeysFrom ·))) = true := by kernel_rfl
theorem plaws_c18 : ((Rows.polyLawsSpec).vars.all ((Tryz.checked.prog).varReadable ·)) = true := by kernel_rfl
theorem plaws_c19 : ((Tryz.f4).resultTypes.all (fun t => (Tryz.checked.prog).readableRec t && decide (t < (Tryz.checked.prog).types.size))) = true := by kernel_rfl
theorem plaws_c20 : (((Rows.polyLawsRow).ifacesOut == (Tryz.f4).resultTypes.toList.any ((Tryz.checked.prog).ifacesRec ·))) = true := by kernel_rfl
theorem plaws_c21 : (((Rows.polyLawsRow).loopsOut == (Tryz.f4).resultTypes.toList.any ((Tryz.checked.prog).loopsFrom ·))) = true := by kernel_rfl
theorem plaws_c22 : (((Rows.polyLawsRow).plainKeys == (Tryz.checked.prog).plainKeys)) = true := by kernel_rfl
theorem plaws_c23 : ((Rows.polyLawsRow).shortTexts.isNone) = true := by kernel_rfl
theorem plaws_c24 : ((Tryz.checked.prog).stopsHeard) = true := by kernel_rfl
theorem plaws_c25 : ((Tryz.checked.prog).mayEnter) = true := by kernel_rfl
theorem plaws_c26 : (((Rows.polyLawsRow).lifted == (Tryz.checked.prog).liftsFinal)) = true := by kernel_rfl
theorem plaws_c27 : (((Tryz.checked.prog).make == some (Rows.polyLawsRow).make)) = true := by kernel_rfl
theorem plaws_c28 : (((Rows.polyLawsRow).kinds == (if (Rows.polyLawsRow).domain.isEmpty then [] else (Tryz.f4).params.toList.map fun t => match (Tryz.checked.prog).underlying t with | some (.int k) => some k | _ => none))) = true := by kernel_rfl
theorem plaws_c29 : (((Rows.polyLawsRow).pinned == (Rows.polyLawsRow).pinnedBy)) = true := by kernel_rfl
theorem plaws_c30 : (((Rows.polyLawsRow).veiled == ((Tryz.f4).params.toList ++ (Rows.polyLawsSpec).plain.varTypes Tryz.checked.prog ++ (Tryz.f4).resultTypes.toList).any ((Tryz.checked.prog).veiledRec ·))) = true := by kernel_rfl
theorem plaws_c31 : ((Rows.polyLawsRow).veiledFits Tryz.checked.prog (Tryz.f4).params.toList ((Tryz.f4).params.toList ++ (Rows.polyLawsSpec).plain.varTypes Tryz.checked.prog ++ (Tryz.f4).resultTypes.toList)) = true := by kernel_rfl
theorem plaws_closed : joinedFacts Tryz.checked.prog 4 Tryz.f4 Rows.polyLawsSpec Rows.polyLawsRow = true := (plaws_and (plaws_and (plaws_and (plaws_and (plaws_and (plaws_and (plaws_and (plaws_and (plaws_and (plaws_and (plaws_and (plaws_and (plaws_and (plaws_and (plaws_and (plaws_and (plaws_and (plaws_and (plaws_and (plaws_and (plaws_and (plaws_and (plaws_and (plaws_and (plaws_and (plaws_and (plaws_and (plaws_and (plaws_and (plaws_and (plaws_and plaws_c0 plaws_c1) plaws_c2) plaws_c3) plaws_c4) plaws_c5) plaws_c6) plaws_c7) plaws_c8) plaws_c9) plaws_c10) plaws_c11) plaws_c12) plaws_c13) plaws_c14) plaws_c15) plaws_c16) plaws_c17) plaws_c18) plaws_c19) plaws_c20) plaws_c21) plaws_c22) plaws_c23) plaws_c24) plaws_c25) plaws_c26) plaws_c27) plaws_c28) plaws_c29) plaws_c30) plaws_c31)
end Go.Proofs.YtdlhpleabfnogaaGreatDoor
namespace Go.Proofs.YtdlhpleabfnogaaGreatDoor
set_option maxRecDepth 100000
theorem main_is : Tryz.checked.prog.mainIs = some (true, "b13cd94c51eefc6c71299b76400d8e7dbad71a25cdd6d8d04874f14aa5a4dccb".toList) := by kernel_rfl
theorem looks_is : false = Tryz.checked.prog.looks [] := by kernel_rfl
end Go.Proofs.YtdlhpleabfnogaaGreatDoor
