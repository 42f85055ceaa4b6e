/- Contracts, in this order: diapasonlaw02.GaussNorms answers true. · gauss.Power: what it does with a number that may be; powers  · Runs over numbers told by expressions: whole numbers, how lo -/
import Derived.Test.YthjofdfnppadnaaGreatDoorZp23
import Derived.Test.YthjofdfnppadnaaGreatDoorZp24
namespace Go.Proofs.YthjofdfnppadnaaGreatDoor
open Go Go.RowKit
namespace Ev
theorem allH_append {ρ : Env} {A B : List As} (h1 : AllH ρ A) (h2 : AllH ρ B) : AllH ρ (A ++ B) := fun x hx => by
  rcases List.mem_append.1 hx with h | h
  · exact h1 x h
  · exact h2 x h
theorem c0_ev (ρ : Nat → Rat) : c0.ev ρ = 0 := by show mkRat (Big.sI false 0) 1 = 0; decide +kernel
end Ev
end Go.Proofs.YthjofdfnppadnaaGreatDoor
namespace Go.Proofs.YthjofdfnppadnaaGreatDoor
open Go Go.RowKit
namespace Ev
set_option maxRecDepth 100000
def pw (B : Rat × Rat) : Nat → Rat × Rat
  | 0 => (1, 0)
  | k + 1 => cMul (pw B k) B
def PowOK (B : Rat × Rat) (n : Nat) : Prop := (∀ k, 1 ≤ k → k ≤ n → szP (pw B k) ≤ 2048) ∧ FitP (pw B n)
def PowRes (w : World) (B : Rat × Rat) (n : Nat) (e : Ending) (w' : World) : Prop :=
  (PowOK B n ∧ e = .returned (.tuple ⟨[gV (pw B n).1 (pw B n).2, .int .i64 0]⟩) ∨ ¬ PowOK B n ∧ e = .returned (.tuple ⟨[gZ, .int .i64 3]⟩)) ∧ Below w.heap.size w w'
def baseOf (neg : Bool) (z : Rat × Rat) : Rat × Rat := cond neg (cQuo (1, 0) z) z
theorem pw_one (B : Rat × Rat) : pw B 1 = B := by
  obtain ⟨a, b⟩ := B
  show cMul (1, 0) (a, b) = (a, b)
  unfold cMul
  simp only [Prod.mk.injEq]
  constructor <;> grind
noncomputable def i1 : Qe := .c false 1 1
theorem i1_ev (ρ : Nat → Rat) : i1.ev ρ = 1 := by show mkRat (Big.sI false 1) 1 = 1; decide +kernel
theorem base_sm {neg : Bool} {z : Rat × Rat} (hz : FitP z) : SmP 4096 (baseOf neg z) := by
  cases neg with
  | false => exact ⟨hz.1.sm.up (by decide), hz.2.sm.up (by decide)⟩
  | true =>
    have h1 := Qe.sm (ρ := (envOf z.1 z.2 0 0 hz.1 hz.2 fit_zero fit_zero).q) (envOf z.1 z.2 0 0 hz.1 hz.2 fit_zero fit_zero).fit (envOf z.1 z.2 0 0 hz.1 hz.2 fit_zero fit_zero).big (kQuo (i1, c0) (v0, v1)).1
    have h2 := Qe.sm (ρ := (envOf z.1 z.2 0 0 hz.1 hz.2 fit_zero fit_zero).q) (envOf z.1 z.2 0 0 hz.1 hz.2 fit_zero fit_zero).fit (envOf z.1 z.2 0 0 hz.1 hz.2 fit_zero fit_zero).big (kQuo (i1, c0) (v0, v1)).2
    have b1 : (kQuo (i1, c0) (v0, v1)).1.bnd ≤ 4096 := Nat.le_of_ble_eq_true (by kernel_rfl)
    have b2 : (kQuo (i1, c0) (v0, v1)).2.bnd ≤ 4096 := Nat.le_of_ble_eq_true (by kernel_rfl)
    have e1 : (kQuo (i1, c0) (v0, v1)).1.ev (envOf z.1 z.2 0 0 hz.1 hz.2 fit_zero fit_zero).q = (cQuo (1, 0) z).1 := by
      show (i1.ev _ * _ - c0.ev _ * _) / _ = _
      rw [i1_ev, c0_ev]; rfl
    have e2 : (kQuo (i1, c0) (v0, v1)).2.ev (envOf z.1 z.2 0 0 hz.1 hz.2 fit_zero fit_zero).q = (cQuo (1, 0) z).2 := by
      show (i1.ev _ * _ + c0.ev _ * _) / _ = _
      rw [i1_ev, c0_ev]; rfl
    rw [e1] at h1
    rw [e2] at h2
    exact ⟨h1.up b1, h2.up b2⟩
theorem least (p : Nat → Prop) (n : Nat) : (∃ J, 1 ≤ J ∧ J ≤ n ∧ p J ∧ ∀ k, 1 ≤ k → k < J → ¬ p k) ∨ ∀ k, 1 ≤ k → k ≤ n → ¬ p k := by
  induction n with
  | zero => exact .inr fun k h1 h2 => by omega
  | succ n ih =>
    rcases ih with ⟨J, h1, h2, h3, h4⟩ | ih
    · exact .inl ⟨J, h1, by omega, h3, h4⟩
    · by_cases h : p (n + 1)
      · exact .inl ⟨n + 1, by omega, Nat.le_refl _, h, fun k h1 h2 => ih k h1 (by omega)⟩
      · exact .inr fun k h1 h2 => by
          by_cases hk : k = n + 1
          · subst hk; exact h
          · exact ih k h1 (by omega)
theorem szP_one : szP (1, 0) ≤ 2048 := by
  show max (szQ 1) (szQ 0) ≤ 2048
  decide +kernel
section
variable {w : World} {neg : Bool} {n : Nat} {z : Rat × Rat}
def powP (neg : Bool) (z : Rat × Rat) (k : Nat) : Rat × Rat := if k = 100 then z else pw (baseOf neg z) k
theorem powP_lt {k : Nat} (h : k < 100) : powP neg z k = pw (baseOf neg z) k := if_neg (by omega)
theorem powP_z : powP neg z (zi neg) = z := by
  cases neg with
  | true => exact if_pos rfl
  | false =>
    show powP false z 1 = z
    rw [powP_lt (by omega), pw_one]; rfl
def peOf (neg : Bool) (n : Nat) (z : Rat × Rat) (hn : n ≤ 22) (hz : FitP z) (h0 : neg = true → ¬ (z.1 = 0 ∧ z.2 = 0)) (J : Nat) (stop fit : Bool) (low : ∀ k, k < J → k < 60 → szP (powP neg z k) ≤ 2048) (far : stop = true → 2048 < szP (powP neg z J)) (last : fit = true ↔ FitP (pw (baseOf neg z) n)) : Pe where
  P := powP neg z
  neg := neg
  J := J
  stop := stop
  fit := fit
  n := n
  one := rfl
  zfit := by rw [powP_z]; exact hz
  step := fun k hk => by rw [powP_lt (by omega), powP_lt (by omega), powP_lt (by omega), pw_one]; rfl
  quo := fun h => by
    subst h
    refine ⟨?_, h0 rfl⟩
    rw [powP_lt (by omega), pw_one]; rfl
  sm1 := by rw [powP_lt (by omega), pw_one]; exact base_sm hz
  low := low
  far := far
  last := by rw [powP_lt (by omega)]; exact last
theorem okP_is {g : Pe} {k : Nat} {w : World} {v : Value} (h : (okP k).is (pSig g) w v) : v = .tuple ⟨[gV (g.P k).1 (g.P k).2, .int .i64 0]⟩ := by
  obtain ⟨vs, rfl, v1, u1, rfl, ⟨x, rfl, a1, b1, rfl, h1, a2, b2, rfl, h2, a3, b3, rfl, h3, a4, b4, rfl, h4, a5, b5, rfl, h5, a6, b6, rfl, h6, h7⟩, v2, u2, rfl, h8, h9⟩ := h
  obtain rfl : b6 = [] := h7
  obtain rfl : u2 = [] := h9
  rw [show a1 = _ from h1, show a2 = _ from h2, show a3 = _ from h3, show a4 = _ from h4, show a5 = _ from h5, show a6 = _ from h6, show v2 = _ from h8]
  rfl
theorem all_pP {g : Pe} {w : World} : ∀ {l vs : List Value}, D1.all (pSig g) w (l.map .p) vs → vs = l
  | [], vs, h => h
  | x :: l, vs, h => by
    obtain ⟨v, us, rfl, h1, h2⟩ := h
    rw [show v = x from h1, all_pP h2]
theorem noP_is {g : Pe} {e : Int} {w : World} {v : Value} (h : (noP e).is (pSig g) w v) : v = .tuple ⟨[gZ, .int .i64 e]⟩ := by
  obtain ⟨vs, rfl, v1, u1, rfl, ⟨x, rfl, hx⟩, v2, u2, rfl, h2, h3⟩ := h
  obtain rfl : u2 = [] := h3
  rw [all_pP hx, show v2 = .int .i64 e from h2]
  rfl
theorem ar_all (h1 : n ≤ 22) (h2 : neg = true → 1 ≤ n) : AllRun neg n := by
  cases neg with
  | false => exact ar_pos n h1
  | true => exact ar_neg n (h2 rfl) h1
theorem power_run (g : Pe) {J : Nat} {stop fit : Bool} (e1 : g.neg = neg) (e2 : g.n = n) (e3 : g.J = J) (e4 : g.stop = stop) (e5 : g.fit = fit) {q : Rat × Rat} (hq : g.P n = q) (hr : pRun neg n J stop fit = pExp n ⟨J, stop, fit⟩) (hz : g.P (zi neg) = z) (hG : Tryz.prog.globals.size ≤ w.heap.size) (hT : Tab w) :
    Calls Tryz.prog 34 ⟨[gV z.1 z.2, .int .i64 (powI neg n)]⟩ w fun e w' => (e = .returned (cond stop (.tuple ⟨[gZ, .int .i64 3]⟩) (cond fit (.tuple ⟨[gV q.1 q.2, .int .i64 0]⟩) (.tuple ⟨[gZ, .int .i64 3]⟩)))) ∧ Below w.heap.size w w' := by
  subst e1 e2 e3 e4 e5 hq
  have hu := frcs_holds (g := g) (zi g.neg) w
  rw [hz] at hu
  refine (tells_calls (pFits (g := g)) (pList_ok (g := g)) (show pRun g.neg g.n g.J g.stop g.fit = some (cond g.stop (noP 3) (cond g.fit (okP g.n) (noP 3))) from hr) rfl glob_few hu hG hT).mono ?_
  rintro e w' ⟨v', rfl, hv, hb⟩
  refine ⟨?_, hb⟩
  congr 1
  cases hs : g.stop with
  | true => rw [hs] at hv; exact noP_is hv
  | false =>
    rw [hs] at hv
    cases hf : g.fit with
    | true => rw [hf] at hv; exact okP_is hv
    | false => rw [hf] at hv; exact noP_is hv
theorem power_any (hn : n ≤ 22) (h1 : neg = true → 1 ≤ n) (hz : FitP z) (h0 : neg = true → ¬ (z.1 = 0 ∧ z.2 = 0)) (hG : Tryz.prog.globals.size ≤ w.heap.size) (hT : Tab w) :
    Calls Tryz.prog 34 ⟨[gV z.1 z.2, .int .i64 (powI neg n)]⟩ w (PowRes w (baseOf neg z) n) := by
  obtain ⟨fit, hf⟩ : ∃ b : Bool, b = true ↔ FitP (pw (baseOf neg z) n) := by
    by_cases h : FitP (pw (baseOf neg z) n)
    · exact ⟨true, fun _ => h, fun _ => rfl⟩
    · exact ⟨false, fun h => (by cases h), fun h2 => absurd h2 h⟩
  rcases least (fun k => 2048 < szP (pw (baseOf neg z) k)) n with ⟨J, j1, j2, j3, j4⟩ | hall
  · have hlow : ∀ k, k < J → k < 60 → szP (powP neg z k) ≤ 2048 := fun k hk hk2 => by
      rw [powP_lt (by omega)]
      rcases Nat.eq_zero_or_pos k with h | h
      · subst h; exact szP_one
      · exact Nat.le_of_not_lt (j4 k h hk)
    have c := power_run (w := w) (z := z) (J := J) (stop := true) (fit := fit) (peOf neg n z hn hz h0 J true fit hlow (fun _ => by rw [powP_lt (by omega)]; exact j3) hf) rfl rfl rfl rfl rfl rfl (run_of (ar_all hn h1) (c := ⟨J, true, fit⟩) (pcs_stop n fit J j1 j2)) powP_z hG hT
    refine c.mono fun e w' hh => ⟨.inr ⟨fun hok => ?_, hh.1⟩, hh.2⟩
    have := hok.1 J j1 j2
    omega
  · have hlow : ∀ k, k < Nat.succ n → k < 60 → szP (powP neg z k) ≤ 2048 := fun k hk hk2 => by
      rw [powP_lt (by omega)]
      rcases Nat.eq_zero_or_pos k with h | h
      · subst h; exact szP_one
      · exact Nat.le_of_not_lt (hall k h (by omega))
    have e1 : powP neg z n = pw (baseOf neg z) n := powP_lt (by omega)
    have c := power_run (w := w) (z := z) (J := Nat.succ n) (stop := false) (fit := fit) (peOf neg n z hn hz h0 (Nat.succ n) false fit hlow (fun h => (by cases h)) hf) rfl rfl rfl rfl rfl e1 (run_of (ar_all hn h1) (c := ⟨Nat.succ n, false, fit⟩) (pcs_end n fit)) powP_z hG hT
    refine c.mono fun e w' hh => ⟨?_, hh.2⟩
    cases hfit : fit with
    | true =>
      refine .inl ⟨⟨fun k k1 k2 => Nat.le_of_not_lt (hall k k1 k2), hf.1 hfit⟩, ?_⟩
      have h2 := hh.1
      rw [hfit] at h2
      exact h2
    | false =>
      refine .inr ⟨fun hok => ?_, ?_⟩
      · have := hf.2 hok.2
        rw [hfit] at this; cases this
      · have h2 := hh.1
        rw [hfit] at h2
        exact h2
end
theorem cMul_assoc (p q r : Rat × Rat) : cMul (cMul p q) r = cMul p (cMul q r) := by
  unfold cMul
  simp only [Prod.mk.injEq]
  constructor <;> grind
theorem cMul_comm (p q : Rat × Rat) : cMul p q = cMul q p := by
  unfold cMul
  simp only [Prod.mk.injEq]
  constructor <;> grind
theorem cMul_one (p : Rat × Rat) : cMul p (1, 0) = p := by
  obtain ⟨a, b⟩ := p
  unfold cMul
  simp only [Prod.mk.injEq]
  constructor <;> grind
theorem pw_add (B : Rat × Rat) (i : Nat) : ∀ j, pw B (i + j) = cMul (pw B i) (pw B j)
  | 0 => (cMul_one _).symm
  | j + 1 => by
    show cMul (pw B (i + j)) B = cMul (pw B i) (cMul (pw B j) B)
    rw [pw_add B i j, cMul_assoc]
theorem pw_sub {B C : Rat × Rat} (h : cMul B C = (1, 0)) : ∀ (j i : Nat), cMul (pw B (i + j)) (pw C j) = pw B i
  | 0, i => cMul_one _
  | j + 1, i => by
    show cMul (cMul (pw B (i + j)) B) (cMul (pw C j) C) = pw B i
    rw [cMul_assoc, ← cMul_assoc B, cMul_comm B (pw C j), cMul_assoc (pw C j), h, cMul_one, pw_sub h j i]
theorem cMul_inv {z : Rat × Rat} (h0 : ¬ (z.1 = 0 ∧ z.2 = 0)) : cMul z (cQuo (1, 0) z) = (1, 0) := by
  obtain ⟨a, b⟩ := z
  have hN : a * a + b * b ≠ 0 := fun h => h0 (sq_zero h)
  unfold cMul cQuo
  simp only [Prod.mk.injEq]
  generalize hN' : a * a + b * b = N at hN
  constructor
  · grind
  · grind
def zp (z : Rat × Rat) (k : Int) : Rat × Rat := if k < 0 then pw (cQuo (1, 0) z) k.natAbs else pw z k.natAbs
theorem zp_add {z : Rat × Rat} (h0 : ¬ (z.1 = 0 ∧ z.2 = 0)) (i j : Int) : zp z (i + j) = cMul (zp z i) (zp z j) := by
  have hI := cMul_inv h0
  have hI' : cMul (cQuo (1, 0) z) z = (1, 0) := by rw [cMul_comm]; exact hI
  unfold zp
  by_cases hi : i < 0 <;> by_cases hj : j < 0
  · rw [if_pos hi, if_pos hj, if_pos (by omega), ← pw_add]
    congr 1; omega
  · rw [if_pos hi, if_neg hj]
    by_cases hk : i + j < 0
    · rw [if_pos hk, show i.natAbs = (i + j).natAbs + j.natAbs by omega, pw_sub hI']
    · rw [if_neg hk, cMul_comm, show j.natAbs = (i + j).natAbs + i.natAbs by omega, pw_sub hI]
  · rw [if_neg hi, if_pos hj]
    by_cases hk : i + j < 0
    · rw [if_pos hk, cMul_comm, show j.natAbs = (i + j).natAbs + i.natAbs by omega, pw_sub hI']
    · rw [if_neg hk, show i.natAbs = (i + j).natAbs + j.natAbs by omega, pw_sub hI]
  · rw [if_neg hi, if_neg hj, if_neg (by omega), ← pw_add]
    congr 1; omega
end Ev
end Go.Proofs.YthjofdfnppadnaaGreatDoor
namespace Go.Proofs.YthjofdfnppadnaaGreatDoor
open Go Go.RowKit
namespace Ev
set_option maxRecDepth 100000
noncomputable def isN (v : Value) (n : Nat) : Bool := match v with
  | .int k m => match k with
    | .i64 => match m with
      | .ofNat j => Nat.beq j n
      | _ => false
    | _ => false
  | _ => false
theorem isN_ok {v : Value} {n : Nat} (h : isN v n = true) : v = .int .i64 (n : Nat) := by
  unfold isN at h
  split at h
  · split at h
    · split at h
      · rw [Nat.eq_of_beq_eq_true h]; rfl
      · cases h
    · cases h
  · cases h
noncomputable def remOf (A : List As) (a : Qe) : Option Qe := List.rec (motive := fun _ => Option Qe) none (fun x _ ih => cond (Nat.beq 5 x.k && (x.t && a.beq x.a)) (some x.b) ih) A
theorem remOf_ok {ρ : Env} {a b : Qe} : ∀ {A : List As}, AllH ρ A → remOf A a = some b → (b.ev ρ.q).num = (a.ev ρ.q).num.tmod 12
  | [], _, h => by cases (show (none : Option Qe) = some b from h)
  | x :: A, hA, h => by
    have h' : cond (Nat.beq 5 x.k && (x.t && a.beq x.a)) (some x.b) (remOf A a) = some b := h
    cases hb : (Nat.beq 5 x.k && (x.t && a.beq x.a)) with
    | false =>
      rw [hb] at h'
      exact remOf_ok (fun y hy => hA y (List.mem_cons_of_mem _ hy)) h'
    | true =>
      rw [hb] at h'
      simp only [Bool.and_eq_true] at hb
      cases h'
      have hx := hA x List.mem_cons_self
      unfold As.holds at hx
      rw [← Nat.eq_of_beq_eq_true hb.1] at hx
      rw [Qe.beq_ok _ _ hb.2.2]
      exact hx hb.2.1
noncomputable def codeOf (f : Sy) : Option Nat := match f with
  | .fn e => match e with
    | .v i => some (Nat.mul 4 i)
    | _ => none
  | .fd e => match e with
    | .v i => some (Nat.succ (Nat.mul 4 i))
    | _ => none
  | .rn i => some (Nat.succ (Nat.succ (Nat.mul 4 i)))
  | .rd i => some (Nat.succ (Nat.succ (Nat.succ (Nat.mul 4 i))))
  | _ => none
theorem codeOf_ok {ρ : Env} {f : Sy} {c : Nat} {w : World} {v : Value} (h : codeOf f = some c) (hf : f.holds ρ w v) : ∃ s : ByteArray, v = .string s ∧ ((s.size : Nat) : Int) = lenC ρ c := by
  have hm : ∀ (i j : Nat), j < 4 → (4 * i + j) % 4 = j ∧ (4 * i + j) / 4 = i := fun i j hj => ⟨by omega, by omega⟩
  unfold codeOf at h
  split at h
  · split at h
    · rename_i i
      cases h
      refine ⟨_, hf, ?_⟩
      unfold lenC
      rw [show Nat.mul 4 i = 4 * i + 0 from rfl, (hm i 0 (by omega)).1, (hm i 0 (by omega)).2, bst_size]; rfl
    · cases h
  · split at h
    · rename_i i
      cases h
      refine ⟨_, hf, ?_⟩
      unfold lenC
      rw [show Nat.succ (Nat.mul 4 i) = 4 * i + 1 from rfl, (hm i 1 (by omega)).1, (hm i 1 (by omega)).2, bst_size]; rfl
    · cases h
  · rename_i i
    cases h
    refine ⟨_, hf, ?_⟩
    unfold lenC
    rw [show Nat.succ (Nat.succ (Nat.mul 4 i)) = 4 * i + 2 from rfl, (hm i 2 (by omega)).1, (hm i 2 (by omega)).2]; rfl
  · rename_i i
    cases h
    refine ⟨_, hf, ?_⟩
    unfold lenC
    rw [show Nat.succ (Nat.succ (Nat.succ (Nat.mul 4 i))) = 4 * i + 3 from rfl, (hm i 3 (by omega)).1, (hm i 3 (by omega)).2]; rfl
  · cases h
noncomputable def valF (f : Sy) : M Sy Nxt := bind (newFact f) fun v => val v
theorem loc_valF (f : Sy) : Loc (valF f) := loc_bind (loc_newFact _) fun _ => loc_val _
noncomputable def beqNs (l m : List Nat) : Bool := decide (l = m)
noncomputable def one1L (l : List Nat) : Option Nat := match l with
  | c :: l => match l with
    | [] => some c
    | _ => none
  | [] => none
theorem one1L_ok {l : List Nat} {c : Nat} (h : one1L l = some c) : l = [c] := by
  unfold one1L at h
  split at h
  · split at h
    · cases h; rfl
    · cases h
  · cases h
noncomputable def iAdd (A : List As) (x y : Sy) : M Sy Nxt := match x with
  | .it a => match y with
    | .it b => match ask A 6 a b with
      | some t => cond t (valF (.it (.add a b))) fail
      | none => fail
    | _ => fail
  | .lg l => match l with
    | [] => fail
    | c0 :: l0 => match y with
      | .lg m => match one1L m with
        | some c => valF (.lg (c :: c0 :: l0))
        | none => fail
      | _ => fail
  | _ => fail
noncomputable def iRem (A : List As) (x : Sy) : M Sy Nxt := match x with
  | .it a => match remOf A a with
    | some b => valF (.it b)
    | none => fail
  | _ => fail
noncomputable def iGtr (L : List Nat) (big : Bool) (x : Sy) : M Sy Nxt := match x with
  | .lg l => cond (beqNs l L) (val (.bool big)) fail
  | _ => fail
noncomputable def iLen (x : Sy) : M Sy Nxt := match codeOf x with
  | some c => valF (.lg [c])
  | none => fail
noncomputable def iBin (A : List As) (L : List Nat) (big : Bool) (o : Oper) (op : BinOp) (vs : List Value) : M Sy Nxt := match op with
  | .rem => match vs with
    | [a, b] => cond (isN b 12) (bind (fact a) fun x => iRem A x) fail
    | _ => fail
  | .add => match vs with
    | [a, b] => bind (fact a) fun x => bind (fact b) fun y => iAdd A x y
    | _ => fail
  | .gtr => match vs with
    | [a, b] => cond (isN b 128) (bind (fact a) fun x => iGtr L big x) fail
    | _ => fail
  | _ => eqHard A o vs
noncomputable def isStT (c : Call) : Bool := match c.argTypes[0]? with
  | some t => Nat.beq t 9
  | none => false
noncomputable def iHard (A : List As) (L : List Nat) (big : Bool) (o : Oper) (vs : List Value) : M Sy Nxt := match o.op with
  | .binOp op _ _ _ _ => iBin A L big o op vs
  | .call c => match c.callee with
    | .builtin b => match b with
      | .len => match vs with
        | [a] => cond (isStT c) (bind (fact a) fun x => iLen x) fail
        | _ => fail
      | _ => fail
    | _ => fail
  | _ => fail
theorem loc_iAdd (A : List As) (x y : Sy) : Loc (iAdd A x y) := by
  unfold iAdd
  (repeat' split) <;> first | exact loc_fail | exact loc_valF _ | exact loc_cond (loc_valF _) loc_fail
theorem loc_iRem (A : List As) (x : Sy) : Loc (iRem A x) := by
  unfold iRem
  (repeat' split) <;> first | exact loc_fail | exact loc_valF _
theorem loc_iGtr (L : List Nat) (big : Bool) (x : Sy) : Loc (iGtr L big x) := by
  unfold iGtr
  (repeat' split) <;> first | exact loc_fail | exact loc_cond (loc_val _) loc_fail
theorem loc_iLen (x : Sy) : Loc (iLen x) := by
  unfold iLen
  (repeat' split) <;> first | exact loc_fail | exact loc_valF _
theorem loc_iBin (A : List As) (L : List Nat) (big : Bool) (o : Oper) (op : BinOp) (vs : List Value) : Loc (iBin A L big o op vs) := by
  unfold iBin
  (repeat' split) <;> first | exact loc_fail | exact loc_eqHard _ _ _ | exact loc_cond (loc_bind (loc_fact _) fun _ => loc_iRem _ _) loc_fail | exact loc_cond (loc_bind (loc_fact _) fun _ => loc_iGtr _ _ _) loc_fail | exact loc_bind (loc_fact _) fun _ => loc_bind (loc_fact _) fun _ => loc_iAdd _ _ _
theorem loc_iHard (A : List As) (L : List Nat) (big : Bool) (o : Oper) (vs : List Value) : Loc (iHard A L big o vs) := by
  unfold iHard
  (repeat' split) <;> first | exact loc_fail | exact loc_iBin _ _ _ _ _ _ | exact loc_cond (loc_bind (loc_fact _) fun _ => loc_iLen _) loc_fail
section
variable {ρ : Env} {A : List As} {h h' : Tr (Blk Sy)} {nx nx' : Nat} {R W : List Nat} {r : Ren} {w : World}
theorem valF_ok {f : Sy} {x : Nxt} {v' : Value} (e : valF f h nx = .ok x h' nx' R W) (hM : Mod (symSig ρ) r h.get w) (hN : New r nx nx') (hv : f.holds ρ w v') :
    nx ≤ nx' ∧ ∃ v r', x = .val v ∧ VR r' v v' ∧ Ext (symSig ρ) r w nx nx' W h'.get r' w := by
  obtain ⟨v, h0, nx0, R0, W0, R1, W1, e0, e1, rfl, rfl⟩ := bind_ok e
  obtain ⟨rfl, rfl, rfl, rfl⟩ := val_ok e1
  obtain ⟨i, h2, nx2, R2, W2, R3, W3, e2, e3, rfl, rfl⟩ := bind_ok e0
  obtain ⟨rfl, rfl, rfl, rfl⟩ := ret_ok e3
  unfold fresh at e2
  cases e2
  obtain ⟨r', hX, hr⟩ := ext_fact (S := symSig ρ) (f := f) hM (Below.refl _ w) hN hv (Sy.one hv)
  exact ⟨Nat.le_succ _, _, r', rfl, .opq hr (Sy.one hv), by simpa using hX.congr fun n => .inr (Tr.get_set _ _ _ _)⟩
theorem rem_int (t : TypeId) (p q : Operand) (a : Int) (w : World) :
    (do eqGuard .rem t p q (.int .i64 a) (.int .i64 ((12 : Nat) : Int)); binOp .rem t (.int .i64 a) (.int .i64 ((12 : Nat) : Int)) : Sem Value).run Tryz.prog w = .ok (.int .i64 (a.tmod 12)) w := by
  simp [eqGuard, binOp, Op.intDiv]
theorem add_int (t : TypeId) (p q : Operand) (a b : Int) (w : World) :
    (do eqGuard .add t p q (.int .i64 a) (.int .i64 b); binOp .add t (.int .i64 a) (.int .i64 b) : Sem Value).run Tryz.prog w = .ok (.int .i64 (IntKind.i64.wrap (a + b))) w := by
  simp [eqGuard, binOp, Op.intArith]
theorem gtr_int2 (t : TypeId) (p q : Operand) (a b : Int) (w : World) :
    (do eqGuard .gtr t p q (.int .i64 a) (.int .i64 b); binOp .gtr t (.int .i64 a) (.int .i64 b) : Sem Value).run Tryz.prog w = .ok (.bool (decide (b < a))) w := by
  simp [eqGuard, binOp, Op.intCmp]
theorem iHard_ok {C : Cfg Sy} {L : List Nat} {big : Bool} (hA : AllH ρ A) (hL : big = true ↔ 128 < lenSum ρ L) (hC : C.hard = iHard A L big) : HardOK (symSig ρ) Tryz.prog C := by
  intro o vs h nx x h' nx' R W hs e r w ρo hM hN hv
  rw [hC] at e
  unfold iHard at e
  cases hop : o.op with
  | binOp op t p q yt =>
    rw [hop] at e
    have e1 : iBin A L big o op vs h nx = .ok x h' nx' R W := e
    have hops : o.op.operands.toList.map ρo = [ρo p, ρo q] := by rw [hop]; rfl
    have heq : eqHard A o vs h nx = .ok x h' nx' R W → nx ≤ nx' ∧ After (symSig ρ) Tryz.prog ((execOp ρo o).run Tryz.prog w) r w nx nx' W h'.get x := fun e2 =>
      eqHard_ok (C := { C with hard := eqHard A }) hA rfl o vs h nx x h' nx' R W hs e2 r w ρo hM hN hv
    unfold iBin at e1
    cases op <;> first | exact heq e1 | skip
    · -- add
      rw [hops] at hv
      rcases vs with _ | ⟨u, _ | ⟨v, _ | ⟨z, l⟩⟩⟩ <;> first | (cases (show (fail : M Sy Nxt) h nx = _ from e1); done) | skip
      cases hv with
      | cons hu hv => cases hv with
        | cons hv hn =>
          obtain ⟨f, h1, nx1, R1, W1, R2, W2, e2, e3, rfl, rfl⟩ := bind_ok e1
          obtain ⟨rfl, rfl, rfl, hf⟩ := fact_ok e2 hu hM
          obtain ⟨g, h2, nx2, R3, W3, R4, W4, e4, e5, rfl, rfl⟩ := bind_ok e3
          obtain ⟨rfl, rfl, rfl, hg⟩ := fact_ok e4 hv hM
          have key : ∀ (m n : Int) (k : Sy), ρo p = .int .i64 m → ρo q = .int .i64 n → k.holds ρ w (.int .i64 (IntKind.i64.wrap (m + n))) → valF k h2 nx2 = .ok x h' nx' R4 W4 → nx2 ≤ nx' ∧ After (symSig ρ) Tryz.prog ((execOp ρo o).run Tryz.prog w) r w nx2 nx' ([] ++ ([] ++ W4)) h'.get x := by
            intro m n k hm hn2 hk e6
            obtain ⟨hle, v1, r', rfl, hvr, hX⟩ := valF_ok e6 hM hN hk
            refine ⟨hle, _, w, r', ?_, hvr, by simpa using hX⟩
            simp only [execOp, hop, hm, hn2]
            rw [Sem.run_bind, add_int]
            rfl
          unfold iAdd at e5
          cases f <;> first | (cases (show (fail : M Sy Nxt) _ _ = _ from e5); done) | skip
          · rename_i a
            cases g <;> first | (cases (show (fail : M Sy Nxt) _ _ = _ from e5); done) | skip
            rename_i b
            simp only at e5
            cases ha : ask A 6 a b with
            | none => rw [ha] at e5; cases (show (fail : M Sy Nxt) _ _ = _ from e5)
            | some t6 =>
              rw [ha] at e5
              obtain ⟨rfl, e6⟩ := cond_ok e5
              obtain ⟨y, hy, h1, rfl, rfl, h2⟩ := ask_ok ha
              have hh := hA y hy
              unfold As.holds at hh
              rw [h1] at hh
              exact key _ _ _ hf hg (by show Value.int .i64 _ = .int .i64 _; rw [hh h2]) e6
          · rename_i l
            cases l with
            | nil => cases (show (fail : M Sy Nxt) _ _ = _ from e5)
            | cons c0 l0 =>
              cases g <;> first | (cases (show (fail : M Sy Nxt) _ _ = _ from e5); done) | skip
              rename_i m
              simp only at e5
              cases hc : one1L m with
              | none => rw [hc] at e5; cases (show (fail : M Sy Nxt) _ _ = _ from e5)
              | some c =>
                rw [hc] at e5
                have := one1L_ok hc
                subst this
                exact key _ _ _ hf hg (by rfl) e5
    · -- rem
      rw [hops] at hv
      rcases vs with _ | ⟨u, _ | ⟨v, _ | ⟨z, l⟩⟩⟩ <;> first | (cases (show (fail : M Sy Nxt) h nx = _ from e1); done) | skip
      cases hv with
      | cons hu hv => cases hv with
        | cons hv hn =>
          obtain ⟨hk, e2⟩ := cond_ok e1
          have hb := isN_ok hk
          subst hb
          have hb' : ρo q = .int .i64 ((12 : Nat) : Int) := hv.eq_of_plain rfl
          obtain ⟨f, h1, nx1, R1, W1, R2, W2, e3, e4, rfl, rfl⟩ := bind_ok e2
          obtain ⟨rfl, rfl, rfl, hf⟩ := fact_ok e3 hu hM
          unfold iRem at e4
          cases f <;> first | (cases (show (fail : M Sy Nxt) _ _ = _ from e4); done) | skip
          rename_i a
          simp only at e4
          cases ha : remOf A a with
          | none => rw [ha] at e4; cases (show (fail : M Sy Nxt) _ _ = _ from e4)
          | some b =>
            rw [ha] at e4
            have hr := remOf_ok hA ha
            have ha' : ρo p = .int .i64 (a.ev ρ.q).num := hf
            obtain ⟨hle, v1, r', rfl, hvr, hX⟩ := valF_ok (v' := .int .i64 ((a.ev ρ.q).num.tmod 12)) e4 hM hN (by show Value.int .i64 _ = .int .i64 _; rw [hr])
            refine ⟨hle, _, w, r', ?_, hvr, by simpa using hX⟩
            simp only [execOp, hop, ha', hb']
            rw [Sem.run_bind, rem_int]
            rfl
    · -- gtr
      rw [hops] at hv
      rcases vs with _ | ⟨u, _ | ⟨v, _ | ⟨z, l⟩⟩⟩ <;> first | (cases (show (fail : M Sy Nxt) h nx = _ from e1); done) | skip
      cases hv with
      | cons hu hv => cases hv with
        | cons hv hn =>
          obtain ⟨hk, e2⟩ := cond_ok e1
          have hb := isN_ok hk
          subst hb
          have hb' : ρo q = .int .i64 ((128 : Nat) : Int) := hv.eq_of_plain rfl
          obtain ⟨f, h1, nx1, R1, W1, R2, W2, e3, e4, rfl, rfl⟩ := bind_ok e2
          obtain ⟨rfl, rfl, rfl, hf⟩ := fact_ok e3 hu hM
          unfold iGtr at e4
          cases f <;> first | (cases (show (fail : M Sy Nxt) _ _ = _ from e4); done) | skip
          rename_i l
          obtain ⟨hl, e5⟩ := cond_ok e4
          have := of_decide_eq_true (show decide (l = L) = true from hl)
          subst this
          have ha' : ρo p = .int .i64 (lenSum ρ l) := hf
          obtain ⟨rfl, rfl, rfl, rfl⟩ := val_ok e5
          refine ⟨Nat.le_refl _, _, w, r, ?_, .same rfl, by simpa using Ext.refl _ _ hM⟩
          have hd : decide (((128 : Nat) : Int) < lenSum ρ l) = big := by
            cases big with
            | true => exact decide_eq_true (hL.1 rfl)
            | false => exact decide_eq_false (fun h => by cases hL.2 h)
          simp only [execOp, hop, ha', hb']
          rw [Sem.run_bind, gtr_int2, hd]
          rfl
  | call c =>
    rw [hop] at e
    obtain ⟨callee, args, ats⟩ := c
    cases callee with
    | builtin b =>
      simp only at e
      cases b <;> first | (cases (show (fail : M Sy Nxt) h nx = _ from e); done) | skip
      simp only at e
      have hops : o.op.operands.toList.map ρo = args.toList.map ρo := by rw [hop]; simp [Op.operands, Call.operands]
      rw [hops] at hv
      rcases vs with _ | ⟨u, _ | ⟨z, l⟩⟩ <;> first | (cases (show (fail : M Sy Nxt) h nx = _ from e); done) | skip
      generalize hl : args.toList.map ρo = al at hv
      cases hv with
      | cons hu hv =>
        cases hv
        rename_i u'
        have hargs : args.map ρo = #[u'] := by rw [map_list, hl]
        obtain ⟨hst, e1⟩ := cond_ok (show cond (isStT ⟨.builtin .len, args, ats⟩) (bind (fact u) fun x => iLen x) fail h nx = _ from e)
        obtain ⟨f, h1, nx1, R1, W1, R2, W2, e2, e3, rfl, rfl⟩ := bind_ok e1
        obtain ⟨rfl, rfl, rfl, hf⟩ := fact_ok e2 hu hM
        unfold iLen at e3
        cases hc : codeOf f with
        | none => rw [hc] at e3; cases (show (fail : M Sy Nxt) _ _ = _ from e3)
        | some c =>
          rw [hc] at e3
          obtain ⟨s, rfl, hsz⟩ := codeOf_ok hc hf
          obtain ⟨hle, v1, r', rfl, hvr, hX⟩ := valF_ok (v' := .int .i64 ((s.size : Nat) : Int)) e3 hM hN (by show Value.int .i64 _ = .int .i64 _; rw [hsz]; rfl)
          refine ⟨hle, _, w, r', ?_, hvr, by simpa using hX⟩
          unfold isStT at hst
          cases ht : ats[0]? with
          | none => simp only [ht] at hst; cases hst
          | some t =>
            simp only [ht] at hst
            obtain rfl := Nat.eq_of_beq_eq_true hst
            have hu := run_underlying (P := Tryz.prog) Tryz.underlying9 w
            simp [execOp, hop, resolve, hargs, invoke, builtin, Builtin.len_, ht, hu, goInt]
    | _ => cases (show (fail : M Sy Nxt) h nx = _ from e)
  | _ => rw [hop] at e; cases (show (fail : M Sy Nxt) h nx = _ from e)
end
end Ev
end Go.Proofs.YthjofdfnppadnaaGreatDoor
