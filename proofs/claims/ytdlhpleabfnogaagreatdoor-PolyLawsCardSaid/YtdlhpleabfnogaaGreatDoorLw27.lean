/- Contracts. -/
import Derived.Test.YtdlhpleabfnogaaGreatDoorLw26
import Derived.Laws.StructEq
import Derived.Test.YtdlhpleabfnogaaGreatDoorLw20
import Derived.Lib.ItoaMem
namespace Go.Proofs.YtdlhpleabfnogaaGreatDoor
open Go Go.RowKit
namespace Ev
set_option maxRecDepth 100000
theorem whole_run : tells ([] : List Nat) [.p (.slice none 0 0)] (call Tryz.prog natCfg natSums 20 74) = some (.one (.agg [.p (.bool false), .p (.slice none 0 0), .f 1])) := by kernel_rfl
theorem whole_nought (w : World) (hG : Tryz.prog.globals.size ≤ w.heap.size) (hT : natSig.base w) :
    Calls Tryz.prog 74 ⟨[.slice none 0 0]⟩ w fun e w' => ∃ v, e = .returned v ∧ NumIn w' v 0 ∧ Below w.heap.size w w' := by
  refine (tells_calls natFits natSums_ok whole_run rfl glob_few (us := []) rfl hG hT).mono ?_
  rintro e w' ⟨v', rfl, ⟨vs, rfl, a, l1, rfl, h1, b, l2, rfl, h2, c, l3, rfl, h3, rfl⟩, hb⟩
  have h1' : a = .bool false := h1
  have h2' : b = .slice none 0 0 := h2
  subst h1'; subst h2'
  exact ⟨_, rfl, ⟨_, _, rfl, NatIn.nil_ w', h3⟩, hb⟩
noncomputable def noughtE (A : List As) : Qe := cond (yesB (ask A 1 (.v 2) z0)) (.v 2) (cond (yesB (ask A 1 (.v 3) z0)) (.v 3) (.c false 0 1))
theorem noughtE_ok {ρ : Env} {A : List As} (hA : AllH ρ A) : (noughtE A).ev ρ.q = 0 := by
  unfold noughtE
  cases hn : yesB (ask A 1 (.v 2) z0) with
  | false =>
    cases hm : yesB (ask A 1 (.v 3) z0) with
    | false => show mkRat _ _ = 0; rfl
    | true => exact (ask_nought hA (yesB_ok hm)).1 rfl
  | true => exact (ask_nought hA (yesB_ok hn)).1 rfl
noncomputable def wholeS (A : List As) : Nat × (List Value → Option (M Sy Value)) := (74, fun args => match args with
  | [a] => cond (nil0 a) (some (newNum (noughtE A))) none
  | _ => none)
theorem wholeS_ok {ρ : Env} {A : List As} (hA : AllH ρ A) : SumF (symSig ρ) Tryz.prog (wholeS A).1 (wholeS A).2 := by
  intro args m hm
  rcases args with _ | ⟨a, _ | ⟨b, l⟩⟩ <;> first | (cases (show none = some m from hm); done) | skip
  have hm' : cond (nil0 a) (some (newNum (noughtE A))) none = some m := hm
  cases hn : nil0 a with
  | false => rw [hn] at hm'; cases hm'
  | true =>
    rw [hn] at hm'
    cases hm'
    obtain rfl := nil0_ok hn
    refine ⟨loc_newNum _, fun h nx v h' nx' R W e r w args' hv hM hN => ?_⟩
    cases hv with
    | cons h1 h2 =>
      cases h2
      obtain rfl := h1.eq_of_plain rfl
      refine goes_agg e hM hN ((whole_nought w hM.fits hM.base).mono ?_)
      rintro en w' ⟨u, rfl, hu, hb⟩
      rw [← noughtE_ok hA] at hu
      obtain ⟨us, rfl, hus⟩ := num_holds hu
      exact ⟨us, rfl, hus, hb⟩
noncomputable def lsSumsW (A : List As) : Sums Sy := sumsOf (mkTab (wholeS A :: symList A))
theorem lsSumsW_ok {ρ : Env} {A : List As} (hA : AllH ρ A) : SumOK (symSig ρ) Tryz.prog (lsSumsW A) := sumsOf_ok fun x hx => by
  rcases List.mem_cons.1 hx with rfl | hx
  · exact wholeS_ok hA
  · exact symList_ok hA x hx
noncomputable def lsClW (kp : Bool) (A : List As) (B : List Ix) (n : Nat) : Cl Sy := ⟨callY Tryz.prog (lsCfg kp A B noJ) (lsSumsW A) n, [], fun _ => none⟩
theorem lsClW_ok {ρ : Env} {kp : Bool} {A : List As} {B : List Ix} {n : Nat} (hA : AllH ρ A) (hB : AllX ρ B) : ClOK (symSig ρ) Tryz.prog (lsClW kp A B n) :=
  have h := callY_ok (C := lsCfg kp A B noJ) (lsFits hA hB) (.none rfl) (lsSumsW_ok hA) n
  ⟨⟨h.1, by intro x hx; simp [lsClW] at hx, fun x m e => (by cases e)⟩, h.2⟩
noncomputable def trF : Nat := 70
noncomputable def trTm : List Nat := [0, 3]
noncomputable def trA1 : List As := [⟨1, .v 3, z0, true⟩]
structure TrimAt (l : List Rat) (m : Nat) : Prop where
  le : m ≤ l.length
  zero : ∀ i, m ≤ i → i < l.length → l[i]? = some 0
  last : 0 < m → l.getD (m - 1) 0 ≠ 0
theorem getD_fit {l : List Rat} (hq : ∀ q ∈ l, Fit q) (k : Nat) : Fit (l.getD k 0) := by
  rw [List.getD_eq_getElem?_getD]
  cases h : l[k]? with
  | none => exact fit00
  | some x => exact hq x (List.mem_of_getElem? h)
section
variable {qs : List Rat} (hq : ∀ q ∈ qs, Fit q) (lo : Nat) {n m : Nat}
end
theorem condJ {b : Bool} {m m2 : Tr Value → M Sy (Tr Value)} {o : Option (Tr Value → M Sy (Tr Value))} (h : cond b (some m2) o = some m) : (b = true ∧ m = m2) ∨ (b = false ∧ o = some m) := by
  cases b with
  | true => exact .inl ⟨rfl, (Option.some.inj h).symm⟩
  | false => exact .inr ⟨rfl, h⟩
theorem one_jmp {S : Sig Sy} {f N : Nat} {m : Tr Value → M Sy (Tr Value)} (ho : ∃ fn c, (Tryz.prog).funcs[f]? = some fn ∧ fn.body = some c ∧ fn.ntmps = N ∧ loopsIn c = [loopOf f 0]) (hj : JmpOK S Tryz.prog N (loopOf f 0) m)
    {fn : Func} {c x : Code} (ht : (Tryz.prog).funcs[f]? = some fn) (hb : fn.body = some c) (hx : x ∈ loopsIn c) : JmpOK S Tryz.prog fn.ntmps x m := by
  obtain ⟨fn0, c0, q1, q2, q3, q4⟩ := ho
  rw [q1] at ht
  cases ht
  rw [q2] at hb
  cases hb
  rw [q4] at hx
  obtain rfl := List.mem_singleton.1 hx
  rw [q3]
  exact @hj
section
variable {qs : List Rat} (hq : ∀ q ∈ qs, Fit q) (lo : Nat) {n m : Nat}
end
end Ev
end Go.Proofs.YtdlhpleabfnogaaGreatDoor
namespace Go.Proofs.YtdlhpleabfnogaaGreatDoor
namespace Ev
def cf (p : List Rat) (i : Nat) : Rat := p.getD i 0
def sh (g : Nat → Rat) : Nat → Rat
  | 0 => 0
  | j + 1 => g j
def mulF : List Rat → (Nat → Rat) → Nat → Rat
  | [], _, _ => 0
  | a :: p, g, i => a * g i + sh (mulF p g) i
def der (g : Nat → Rat) (i : Nat) : Rat := ((i + 1 : Nat) : Rat) * g (i + 1)
def e0 : Nat → Rat
  | 0 => 1
  | _ + 1 => 0
theorem cf_nil (i : Nat) : cf [] i = 0 := rfl
theorem cf_cons (a : Rat) (p : List Rat) (i : Nat) : cf (a :: p) i = a * e0 i + sh (cf p) i := by
  cases i with
  | zero => simp [cf, e0, sh]; grind
  | succ j => simp [cf, e0, sh]; grind
theorem sh_ext {g h : Nat → Rat} (e : ∀ i, g i = h i) (i : Nat) : sh g i = sh h i := by
  cases i with
  | zero => rfl
  | succ j => exact e j
theorem sh_add (g h : Nat → Rat) (i : Nat) : sh (fun i => g i + h i) i = sh g i + sh h i := by
  cases i with
  | zero => show (0 : Rat) = 0 + 0; grind
  | succ j => rfl
theorem sh_mul (c : Rat) (g : Nat → Rat) (i : Nat) : sh (fun i => c * g i) i = c * sh g i := by
  cases i with
  | zero => simp [sh]
  | succ j => rfl
theorem mulF_ext {g h : Nat → Rat} (e : ∀ i, g i = h i) : ∀ (p : List Rat) (i : Nat), mulF p g i = mulF p h i
  | [], _ => rfl
  | a :: p, i => by
    show a * g i + sh (mulF p g) i = a * h i + sh (mulF p h) i
    rw [e i, sh_ext (mulF_ext e p) i]
theorem mulF_add (g h : Nat → Rat) : ∀ (p : List Rat) (i : Nat), mulF p (fun i => g i + h i) i = mulF p g i + mulF p h i
  | [], _ => by show (0 : Rat) = 0 + 0; grind
  | a :: p, i => by
    show a * (g i + h i) + sh (mulF p (fun i => g i + h i)) i = (a * g i + sh (mulF p g) i) + (a * h i + sh (mulF p h) i)
    rw [sh_ext (mulF_add g h p) i, sh_add]; grind
theorem mulF_scale (c : Rat) (g : Nat → Rat) : ∀ (p : List Rat) (i : Nat), mulF p (fun i => c * g i) i = c * mulF p g i
  | [], _ => by simp [mulF]
  | a :: p, i => by
    show a * (c * g i) + sh (mulF p (fun i => c * g i)) i = c * (a * g i + sh (mulF p g) i)
    rw [sh_ext (mulF_scale c g p) i, sh_mul]; grind
theorem mulF_sh (g : Nat → Rat) : ∀ (p : List Rat) (i : Nat), mulF p (sh g) i = sh (mulF p g) i
  | [], i => by cases i <;> rfl
  | a :: p, i => by
    show a * sh g i + sh (mulF p (sh g)) i = sh (mulF (a :: p) g) i
    rw [sh_ext (mulF_sh g p) i]
    cases i with
    | zero => show a * (0 : Rat) + 0 = 0; grind
    | succ j => rfl
theorem mulF_zero : ∀ (p : List Rat) (i : Nat), mulF p (fun _ => 0) i = 0
  | [], _ => rfl
  | a :: p, i => by
    show a * 0 + sh (mulF p (fun _ => 0)) i = 0
    rw [sh_ext (mulF_zero p) i]
    cases i <;> (show a * (0 : Rat) + 0 = 0; grind)
theorem mulF_e0 : ∀ (p : List Rat) (i : Nat), mulF p e0 i = cf p i
  | [], _ => rfl
  | a :: p, i => by
    show a * e0 i + sh (mulF p e0) i = cf (a :: p) i
    rw [sh_ext (mulF_e0 p) i, cf_cons]
theorem mulF_cons (q : List Rat) (a : Rat) (p : List Rat) (i : Nat) : mulF q (cf (a :: p)) i = a * cf q i + sh (mulF q (cf p)) i := by
  rw [mulF_ext (cf_cons a p) q i, mulF_add (fun i => a * e0 i) (sh (cf p)) q i, mulF_scale, mulF_e0, mulF_sh]
theorem mulF_comm : ∀ (p q : List Rat) (i : Nat), mulF p (cf q) i = mulF q (cf p) i
  | [], q, i => by
    rw [mulF_ext cf_nil q i, mulF_zero]; rfl
  | a :: p, q, i => by
    rw [mulF_cons]
    show a * cf q i + sh (mulF p (cf q)) i = _
    rw [sh_ext (mulF_comm p q) i]
theorem mulF_swap (p : List Rat) (g : Nat → Rat) : ∀ (r : List Rat) (i : Nat), mulF r (mulF p g) i = mulF p (mulF r g) i
  | [], i => by
    show 0 = mulF p (fun _ => 0) i
    rw [mulF_zero]
  | c :: r, i => by
    show c * mulF p g i + sh (mulF r (mulF p g)) i = mulF p (fun i => c * g i + sh (mulF r g) i) i
    rw [mulF_add (fun i => c * g i) (sh (mulF r g)) p i, mulF_scale, mulF_sh, sh_ext (mulF_swap p g r) i]
theorem mulF_assoc {p q r pq qr : List Rat} (h1 : ∀ i, cf pq i = mulF p (cf q) i) (h2 : ∀ i, cf qr i = mulF q (cf r) i) (i : Nat) : mulF pq (cf r) i = mulF p (cf qr) i := by
  rw [mulF_comm, mulF_ext h1 r i, mulF_swap, mulF_ext (g := mulF r (cf q)) (h := cf qr) (fun i => by rw [h2, mulF_comm]) p i]
theorem der_sh (h : Nat → Rat) (i : Nat) : der (sh h) i = h i + sh (der h) i := by
  cases i with
  | zero => simp [der, sh]; grind
  | succ j =>
    show ((j + 1 + 1 : Nat) : Rat) * h (j + 1) = h (j + 1) + ((j + 1 : Nat) : Rat) * h (j + 1)
    have : ((j + 1 + 1 : Nat) : Rat) = ((j + 1 : Nat) : Rat) + 1 := by simp
    rw [this]; grind
theorem der_ext {g h : Nat → Rat} (e : ∀ i, g i = h i) (i : Nat) : der g i = der h i := by unfold der; rw [e]
theorem der_add (g h : Nat → Rat) (i : Nat) : der (fun i => g i + h i) i = der g i + der h i := by unfold der; grind
theorem der_scale (c : Rat) (g : Nat → Rat) (i : Nat) : der (fun i => c * g i) i = c * der g i := by unfold der; grind
theorem der_e0 (i : Nat) : der e0 i = 0 := by unfold der; show _ * (0 : Rat) = 0; simp
theorem mulF_der : ∀ (p q : List Rat) (i : Nat), der (mulF p (cf q)) i = mulF p (der (cf q)) i + mulF q (der (cf p)) i
  | [], q, i => by
    rw [mulF_ext (h := fun _ => 0) (fun i => by rw [der_ext cf_nil]; unfold der; simp) q i, mulF_zero]
    show ((i + 1 : Nat) : Rat) * 0 = 0 + 0
    grind
  | a :: p, q, i => by
    have h1 : der (mulF (a :: p) (cf q)) i = a * der (cf q) i + (mulF p (cf q) i + sh (der (mulF p (cf q))) i) := by
      show der (fun i => a * cf q i + sh (mulF p (cf q)) i) i = _
      rw [der_add (fun i => a * cf q i) (sh (mulF p (cf q))) i, der_scale, der_sh]
    have h2 : mulF q (der (cf (a :: p))) i = mulF q (cf p) i + sh (mulF q (der (cf p))) i := by
      rw [mulF_ext (h := fun i => cf p i + sh (der (cf p)) i) (fun i => by
        rw [der_ext (cf_cons a p), der_add (fun i => a * e0 i) (sh (cf p)) i, der_scale, der_e0, der_sh]; grind) q i, mulF_add (cf p) (sh (der (cf p))) q i, mulF_sh]
    have h3 : sh (der (mulF p (cf q))) i = sh (mulF p (der (cf q))) i + sh (mulF q (der (cf p))) i := by
      rw [sh_ext (mulF_der p q) i, sh_add (mulF p (der (cf q))) (mulF q (der (cf p))) i]
    show _ = (a * der (cf q) i + sh (mulF p (der (cf q))) i) + _
    rw [h1, h2, h3, mulF_comm q p]; grind
def evL (x : Rat) : List Rat → Rat
  | [] => 0
  | a :: p => evL x p * x + a
theorem evL_zero (x : Rat) : ∀ l : List Rat, (∀ i, cf l i = 0) → evL x l = 0
  | [], _ => rfl
  | a :: l, h => by
    have h0 : a = 0 := h 0
    have h1 := evL_zero x l fun i => h (i + 1)
    show evL x l * x + a = 0
    rw [h0, h1]; grind
theorem evL_ext (x : Rat) : ∀ (l m : List Rat), (∀ i, cf l i = cf m i) → evL x l = evL x m
  | [], m, h => (evL_zero x m fun i => (h i).symm).symm
  | a :: l, [], h => evL_zero x (a :: l) h
  | a :: l, b :: m, h => by
    have h0 : a = b := h 0
    have h1 := evL_ext x l m fun i => h (i + 1)
    show evL x l * x + a = evL x m * x + b
    rw [h0, h1]
def addL : List Rat → List Rat → List Rat
  | [], q => q
  | a :: p, [] => a :: p
  | a :: p, b :: q => (a + b) :: addL p q
def mulL : List Rat → List Rat → List Rat
  | [], _ => []
  | a :: p, q => addL (q.map (a * ·)) (0 :: mulL p q)
theorem cf_addL : ∀ (p q : List Rat) (i : Nat), cf (addL p q) i = cf p i + cf q i
  | [], q, i => by rw [cf_nil]; show cf q i = _; grind
  | a :: p, [], i => by rw [cf_nil]; show cf (a :: p) i = _; grind
  | a :: p, b :: q, 0 => rfl
  | a :: p, b :: q, i + 1 => cf_addL p q i
theorem cf_map (a : Rat) : ∀ (q : List Rat) (i : Nat), cf (q.map (a * ·)) i = a * cf q i
  | [], i => by rw [cf_nil]; show (0 : Rat) = a * 0; simp
  | b :: q, 0 => rfl
  | b :: q, i + 1 => cf_map a q i
theorem cf_mulL : ∀ (p q : List Rat) (i : Nat), cf (mulL p q) i = mulF p (cf q) i
  | [], q, i => rfl
  | a :: p, q, i => by
    show cf (addL (q.map (a * ·)) (0 :: mulL p q)) i = a * cf q i + sh (mulF p (cf q)) i
    rw [cf_addL, cf_map, cf_cons, sh_ext (cf_mulL p q) i]; grind
theorem evL_addL (x : Rat) : ∀ p q : List Rat, evL x (addL p q) = evL x p + evL x q
  | [], q => by show evL x q = 0 + evL x q; grind
  | a :: p, [] => by show evL x (a :: p) = evL x (a :: p) + 0; grind
  | a :: p, b :: q => by
    show evL x (addL p q) * x + (a + b) = (evL x p * x + a) + (evL x q * x + b)
    rw [evL_addL x p q]; grind
theorem evL_map (x a : Rat) : ∀ q : List Rat, evL x (q.map (a * ·)) = a * evL x q
  | [] => by show (0 : Rat) = a * 0; simp
  | b :: q => by
    show evL x (q.map (a * ·)) * x + a * b = a * (evL x q * x + b)
    rw [evL_map x a q]; grind
theorem evL_mulL (x : Rat) : ∀ p q : List Rat, evL x (mulL p q) = evL x p * evL x q
  | [], q => by show (0 : Rat) = 0 * evL x q; simp
  | a :: p, q => by
    show evL x (addL (q.map (a * ·)) (0 :: mulL p q)) = (evL x p * x + a) * evL x q
    rw [evL_addL, evL_map]
    show a * evL x q + (evL x (mulL p q) * x + 0) = _
    rw [evL_mulL x p q]; grind
theorem evL_mul (x : Rat) {p q l : List Rat} (h : ∀ i, cf l i = mulF p (cf q) i) : evL x l = evL x p * evL x q := by
  rw [evL_ext x l (mulL p q) fun i => by rw [h, cf_mulL], evL_mulL]
def ps (p q : List Rat) (i : Nat) : Nat → Rat
  | 0 => 0
  | n + 1 => ps p q i n + cf p n * cf q (i - n)
theorem ps_cons (a : Rat) (p q : List Rat) (i : Nat) : ∀ n, ps (a :: p) q (i + 1) (n + 1) = a * cf q (i + 1) + ps p q i n
  | 0 => by simp only [ps]; show (0 : Rat) + a * cf q (i + 1) = _; grind
  | n + 1 => by
    rw [ps, ps_cons a p q i n, ps]
    rw [show i + 1 - (n + 1) = i - n by omega]
    show _ + cf p n * _ = _
    grind
theorem ps_nil (q : List Rat) (i : Nat) : ∀ n, ps [] q i n = 0
  | 0 => rfl
  | n + 1 => by rw [ps, ps_nil q i n, cf_nil]; grind
theorem ps_mulF : ∀ (p q : List Rat) (i : Nat), ps p q i (i + 1) = mulF p (cf q) i
  | [], q, i => by rw [ps_nil]; rfl
  | a :: p, q, 0 => by simp only [ps, mulF, sh]; show (0 : Rat) + a * cf q 0 = a * cf q 0 + 0; grind
  | a :: p, q, i + 1 => by
    rw [ps_cons, ps_mulF p q i]; rfl
theorem cf_beyond {p : List Rat} {i : Nat} (h : p.length ≤ i) : cf p i = 0 := by
  unfold cf
  rw [List.getD_eq_getElem?_getD, List.getElem?_eq_none h]; rfl
theorem ps_top (p q : List Rat) (i : Nat) : ∀ n m, p.length ≤ n → ps p q i (n + m) = ps p q i n
  | n, 0, _ => rfl
  | n, m + 1, h => by
    rw [← Nat.add_assoc, ps, ps_top p q i n m h, cf_beyond (by omega)]; grind
theorem ps_low (p q : List Rat) (i : Nat) : ∀ n, n + q.length ≤ i + 1 → ps p q i n = 0
  | 0, _ => rfl
  | n + 1, h => by
    rw [ps, ps_low p q i n (by omega), cf_beyond (p := q) (by omega)]; grind
theorem cf_inj : ∀ (l m : List Rat), (l ≠ [] → l.getLastD 0 ≠ 0) → (m ≠ [] → m.getLastD 0 ≠ 0) → (∀ i, cf l i = cf m i) → l = m := by
  have aux : ∀ (m : List Rat), (m ≠ [] → m.getLastD 0 ≠ 0) → (∀ i, cf m i = 0) → m = [] := fun m hm h => by
    cases m with
    | nil => rfl
    | cons a l =>
      refine absurd ?_ (hm (by simp))
      have := h l.length
      unfold cf at this
      rw [List.getLastD_cons, List.getLastD_eq_getLast?]
      cases l with
      | nil => exact this
      | cons b l =>
        rw [List.getD_eq_getElem?_getD, List.length_cons, List.getElem?_cons_succ] at this
        rw [List.getLast?_eq_getElem?]
        simpa using this
  have tl : ∀ {a : Rat} {l : List Rat}, (a :: l ≠ [] → (a :: l).getLastD 0 ≠ 0) → (l ≠ [] → l.getLastD 0 ≠ 0) := fun {a l} h hl => by
    have := h (by simp)
    rw [List.getLastD_cons] at this
    cases l with
    | nil => exact absurd rfl hl
    | cons b l => rw [List.getLastD_cons] at this ⊢; exact this
  intro l
  induction l with
  | nil => exact fun m _ hm h => (aux m hm fun i => (h i).symm).symm
  | cons a l ih =>
    intro m hl hm h
    cases m with
    | nil => exact aux (a :: l) hl h
    | cons b m =>
      have h0 : a = b := h 0
      rw [h0, ih m (tl hl) (tl hm) fun i => h (i + 1)]
end Ev
end Go.Proofs.YtdlhpleabfnogaaGreatDoor
namespace Go.Proofs.YtdlhpleabfnogaaGreatDoor
open Go Go.RowKit
namespace Ev
namespace Fq
set_option maxRecDepth 100000
abbrev Tri := Bool × ByteArray × ByteArray
def tri (q : Rat) : Tri := (Big.ng q, bst (Big.nu q), bst (Big.de q))
def cel (x : Tri) : List Value := [.bool x.1, .string x.2.1, .string x.2.2]
theorem tri_inj {p q : Rat} (h : tri p = tri q) : p = q := by
  unfold tri at h
  simp only [Prod.mk.injEq] at h
  exact Big.parts_eq h.1 (bst_inj h.2.1) (bst_inj h.2.2)
theorem not_bad {q : Rat} (h : Fit q) : ¬ BadF (tri q) := fun hb => hb q h ⟨rfl, rfl, rfl⟩
def tbeq (x y : Tri) : Bool := x.1 == y.1 && (x.2.1.toList == y.2.1.toList && x.2.2.toList == y.2.2.toList)
theorem tbeq_iff {x y : Tri} : tbeq x y = true ↔ x = y := by
  obtain ⟨a, s, t⟩ := x
  obtain ⟨b, u, v⟩ := y
  have key : ∀ p q : ByteArray, (p.toList == q.toList) = true ↔ p = q := fun p q => by
    rw [beq_iff_eq, ByteArray.toList_eq, ByteArray.toList_eq]
    obtain ⟨⟨p⟩⟩ := p
    obtain ⟨⟨q⟩⟩ := q
    simp
  simp only [tbeq, Bool.and_eq_true, key, beq_iff_eq, Prod.mk.injEq]
theorem eqIn_frac (d : Nat) (x y : Tri) (w : World) : (Op.equalIn (d + 2) 35 (.agg ⟨cel x⟩) (.agg ⟨cel y⟩)).run Tryz.prog w = .ok (tbeq x y) w := by
  have hS : Tryz.prog.underlying 35 = some (.struct (Tryz.prog.fieldsOf 35)) := by kernel_rfl
  have hp : Tryz.prog.stoodInHeld 35 = false := by kernel_rfl
  obtain ⟨a, s, t⟩ := x
  obtain ⟨b, u, v⟩ := y
  rw [show d + 2 = (d + 1) + 1 from rfl, run_equalIn_struct w (d + 1) 35 _ _ hS hp]
  simp only [Program.fieldsOf, Tryz.underlying35, cel, tbeq]
  generalize hx : (s.toList == u.toList) = b1
  generalize hy : (t.toList == v.toList) = b2
  cases a <;> cases b <;> cases b1 <;> cases b2 <;> go_simp <;> simp [hx, hy]
noncomputable def sameO (A : List As) (l m : List Value) (o p : Option Qe) : Option Bool := match o with
  | some e => match p with
    | some f => cond (e.beq f) (some true) (ask A 2 e f)
    | none => match fitB A e with
      | some t => cond t (some false) none
      | none => none
  | none => match p with
    | some f => match fitB A f with
      | some t => cond t (some false) none
      | none => none
    | none => cond (eqL eq1 l m && plainL plain l) (some true) none
noncomputable def eq3 (A : List As) (l m : List Value) : M Sy (Option Bool) := bind (frcV l) fun o => bind (frcV m) fun p => ret (sameO A l m o p)
noncomputable def ansEq (op : BinOp) (b : Option Bool) : M Sy Nxt := match b with
  | some b => match op with
    | .eql => val (.bool b)
    | .neq => val (.bool (!b))
    | _ => fail
  | none => fail
noncomputable def frH (A : List As) (G : Oper → List Value → M Sy Nxt) (o : Oper) (vs : List Value) : M Sy Nxt := match o.op with
  | .binOp op t _ _ _ => match twoM vs with
    | some y => match y.1 with
      | .agg cs => match y.2 with
        | .agg ds => cond (Nat.beq t 35) (bind (eq3 A cs.toList ds.toList) (ansEq op)) fail
        | _ => fail
      | _ => G o vs
    | none => fail
  | _ => G o vs
theorem loc_eq3 (A : List As) (l m : List Value) : Loc (eq3 A l m) := loc_bind (loc_frcV _) fun _ => loc_bind (loc_frcV _) fun _ => loc_ret _
theorem loc_ansEq (op : BinOp) (b : Option Bool) : Loc (ansEq op b) := by
  unfold ansEq
  (repeat' split) <;> first | exact loc_val _ | exact loc_fail
theorem loc_frH {G : Oper → List Value → M Sy Nxt} (hG : ∀ o vs, Loc (G o vs)) (A : List As) (o : Oper) (vs : List Value) : Loc (frH A G o vs) := by
  unfold frH
  (repeat' split) <;> first
    | exact loc_fail
    | exact loc_cond (loc_bind (loc_eq3 _ _ _) fun _ => loc_ansEq _ _) loc_fail
    | exact hG _ _
theorem frc_tri {ρ : Env} {l : List Value} {o : Option Qe} (h : FrcIs ρ l o) : ∃ x : Tri, l = cel x ∧ (∀ e, o = some e → x = tri (e.ev ρ.q)) ∧ (o = none → BadF x) := by
  cases o with
  | some e =>
    obtain rfl : l = _ := h
    exact ⟨tri (e.ev ρ.q), rfl, fun e' he => by cases he; rfl, fun h => (by cases h)⟩
  | none =>
    obtain ⟨x, hx, rfl⟩ := h
    exact ⟨x, rfl, fun e' he => (by cases he), fun _ => hx⟩
section
variable {ρ : Env} {A : List As} {h h' : Tr (Blk Sy)} {nx nx' : Nat} {R W : List Nat} {r : Ren} {w : World}
theorem cel_inj {x y : Tri} (h : cel x = cel y) : x = y := by
  obtain ⟨a, s, t⟩ := x
  obtain ⟨b, u, v⟩ := y
  simp only [cel, List.cons.injEq, Value.bool.injEq, Value.string.injEq, and_true] at h
  obtain ⟨rfl, rfl, rfl⟩ := h
  rfl
theorem eq3_ok (hA : AllH ρ A) {l m l' m' : List Value} {b : Option Bool} (e : eq3 A l m h nx = .ok b h' nx' R W) (hl : VsR r l l') (hm : VsR r m m') (hM : Mod (symSig ρ) r h.get w) :
    h' = h ∧ nx' = nx ∧ W = [] ∧ ∃ x y : Tri, l' = cel x ∧ m' = cel y ∧ ∀ t, b = some t → t = tbeq x y := by
  obtain ⟨o, h1, nx1, R1, W1, R2, W2, q1, q2, rfl, rfl⟩ := bind_ok e
  obtain ⟨rfl, rfl, rfl, i1⟩ := frcV_ok q1 hl hM
  obtain ⟨p, h2, nx2, R3, W3, R4, W4, q3, q4, rfl, rfl⟩ := bind_ok q2
  obtain ⟨rfl, rfl, rfl, i2⟩ := frcV_ok q3 hm hM
  obtain ⟨rfl, rfl, rfl, rfl⟩ := ret_ok q4
  obtain ⟨x, rfl, x1, x2⟩ := frc_tri i1
  obtain ⟨y, rfl, y1, y2⟩ := frc_tri i2
  refine ⟨rfl, rfl, by simp, x, y, rfl, rfl, fun t ht => ?_⟩
  have neg : x ≠ y → tbeq x y = false := fun hn => by
    cases hb : tbeq x y with
    | false => rfl
    | true => exact absurd (tbeq_iff.1 hb) hn
  unfold sameO at ht
  cases o with
  | some e0 =>
    have hx := x1 e0 rfl
    cases p with
    | some f =>
      have hy := y1 f rfl
      simp only at ht
      cases hb : e0.beq f with
      | true =>
        rw [hb] at ht
        cases ht
        rw [hx, hy, Qe.beq_ok _ _ hb]
        exact (tbeq_iff.2 rfl).symm
      | false =>
        rw [hb] at ht
        have hs := ask_same hA ht
        cases t with
        | true => rw [hx, hy, hs.1 rfl]; exact (tbeq_iff.2 rfl).symm
        | false =>
          refine (neg fun h => ?_).symm
          rw [hx, hy] at h
          have := hs.2 (tri_inj h)
          cases this
    | none =>
      simp only at ht
      cases hf : fitB A e0 with
      | none => rw [hf] at ht; cases ht
      | some u =>
        rw [hf] at ht
        cases u with
        | false => cases ht
        | true =>
          cases ht
          refine (neg fun h => ?_).symm
          have hbad := y2 rfl
          rw [← h, hx] at hbad
          exact not_bad ((fitB_ok hA hf).1 rfl) hbad
  | none =>
    cases p with
    | some f =>
      have hy := y1 f rfl
      simp only at ht
      cases hf : fitB A f with
      | none => rw [hf] at ht; cases ht
      | some u =>
        rw [hf] at ht
        cases u with
        | false => cases ht
        | true =>
          cases ht
          refine (neg fun h => ?_).symm
          have hbad := x2 rfl
          rw [h, hy] at hbad
          exact not_bad ((fitB_ok hA hf).1 rfl) hbad
    | none =>
      simp only at ht
      cases hk : (eqL eq1 l m && plainL plain l) with
      | false => rw [hk] at ht; cases ht
      | true =>
        rw [hk] at ht
        cases ht
        simp only [Bool.and_eq_true] at hk
        have e1 := eqL_ok eq1_ok hk.1
        subst e1
        have e2 := hl.eq_of_plain hk.2
        have e3 := hm.eq_of_plain hk.2
        rw [← e2] at e3
        rw [cel_inj e3]
        exact (tbeq_iff.2 rfl).symm
theorem run_eqs (op : BinOp) (t : TypeId) (x y : Operand) (cs ds : Array Value) (b : Bool) (v : Value) (hm : Tryz.prog.eqGuardType Tryz.prog.depth t = false) (he : (Op.equalIn 10000 t (.agg cs) (.agg ds)).run Tryz.prog w = .ok b w) (hv : (op = .eql ∧ v = .bool b) ∨ (op = .neq ∧ v = .bool (!b))) :
    (do eqGuard op t x y (.agg cs) (.agg ds); binOp op t (.agg cs) (.agg ds) : Sem Value).run Tryz.prog w = .ok v w := by
  have hg := run_eqGuard_agg (P := Tryz.prog) w op t x y cs ds hm
  have he' : (Op.equal t (.agg cs) (.agg ds)).run Tryz.prog w = .ok b w := he
  rcases hv with ⟨rfl, rfl⟩ | ⟨rfl, rfl⟩
  · rw [Sem.run_bind, hg]
    simp [binOp, he']
  · rw [Sem.run_bind, hg]
    simp [binOp, he']
theorem ansEq_ok {op : BinOp} {b : Option Bool} {x : Nxt} (e : ansEq op b h nx = .ok x h' nx' R W) : h' = h ∧ nx' = nx ∧ W = [] ∧ ∃ t v, b = some t ∧ x = .val v ∧ ((op = .eql ∧ v = .bool t) ∨ (op = .neq ∧ v = .bool (!t))) := by
  unfold ansEq at e
  cases b with
  | none => cases (show (fail : M Sy Nxt) h nx = _ from e)
  | some t =>
    cases op with
    | eql =>
      obtain ⟨rfl, rfl, rfl, rfl⟩ := val_ok (show (val (.bool t) : M Sy Nxt) h nx = _ from e)
      exact ⟨rfl, rfl, rfl, t, _, rfl, rfl, .inl ⟨rfl, rfl⟩⟩
    | neq =>
      obtain ⟨rfl, rfl, rfl, rfl⟩ := val_ok (show (val (.bool (!t)) : M Sy Nxt) h nx = _ from e)
      exact ⟨rfl, rfl, rfl, t, _, rfl, rfl, .inr ⟨rfl, rfl⟩⟩
    | _ => cases (show (fail : M Sy Nxt) h nx = _ from e)
theorem frH_ok (hA : AllH ρ A) {G : Oper → List Value → M Sy Nxt} {C : Cfg Sy} (hG : HardOK (symSig ρ) Tryz.prog { C with hard := G }) (hC : C.hard = frH A G) : HardOK (symSig ρ) Tryz.prog C := by
  intro o vs h nx x h' nx' R W hs e r w ρo hM hN hv
  rw [hC] at e
  unfold frH at e
  have back : G o vs h nx = .ok x h' nx' R W → nx ≤ nx' ∧ After (symSig ρ) Tryz.prog ((execOp ρo o).run Tryz.prog w) r w nx nx' W h'.get x := fun e2 => hG o vs h nx x h' nx' R W hs e2 r w ρo hM hN hv
  cases hop : o.op with
  | binOp op t p q yt =>
    rw [hop] at e
    simp only at e
    have hops : o.op.operands.toList.map ρo = [ρo p, ρo q] := by rw [hop]; rfl
    rw [hops] at hv
    rcases vs with _ | ⟨u, _ | ⟨v, _ | ⟨z, l⟩⟩⟩ <;> first | (cases (show (fail : M Sy Nxt) h nx = _ from e); done) | skip
    simp only [twoM] at e
    cases hv with
    | cons hu hv => cases hv with
      | cons hv hn =>
        cases u <;> first | exact back e | skip
        rename_i cs
        cases v <;> first | (cases (show (fail : M Sy Nxt) h nx = _ from e); done) | skip
        rename_i ds
        obtain ⟨cl⟩ := cs
        obtain ⟨dl⟩ := ds
        obtain ⟨cl', hc1, hc2⟩ := vr_agg hu
        obtain ⟨dl', hd1, hd2⟩ := vr_agg hv
        simp only at e
        obtain ⟨ht, e⟩ := cond_ok e
        have htt := Nat.eq_of_beq_eq_true ht
        have fin : ∀ {b : Bool} {v : Value}, (Op.equalIn 10000 t (.agg ⟨cl'⟩) (.agg ⟨dl'⟩)).run Tryz.prog w = .ok b w → Tryz.prog.eqGuardType Tryz.prog.depth t = false → ((op = .eql ∧ v = .bool b) ∨ (op = .neq ∧ v = .bool (!b))) →
            (execOp ρo o).run Tryz.prog w = .ok (.value v) w := fun he hm hv => by
          have := run_eqs op t p q ⟨cl'⟩ ⟨dl'⟩ _ _ hm he hv
          simp only [execOp, hop, hc1, hd1]
          rw [Sem.run_bind, this]
          rfl
        obtain ⟨b, h1, nx1, R1, W1, R2, W2, e1, e2, rfl, rfl⟩ := bind_ok e
        obtain ⟨rfl, rfl, rfl, x1, y1, rfl, rfl, hb⟩ := eq3_ok hA e1 hc2 hd2 hM
        obtain ⟨rfl, rfl, rfl, t1, v1, rfl, rfl, hv1⟩ := ansEq_ok e2
        have := hb t1 rfl
        subst this
        refine ⟨Nat.le_refl _, v1, w, r, fin (by rw [htt]; exact eqIn_frac 9998 x1 y1 w) (by rw [htt]; kernel_rfl) hv1, ?_, by simpa using Ext.refl _ _ hM⟩
        rcases hv1 with ⟨_, rfl⟩ | ⟨_, rfl⟩ <;> exact .same rfl
  | _ => rw [hop] at e; exact back e
end
noncomputable def lsCfgQ (kp : Bool) (A : List As) (B : List Ix) (j : Jmps) : Cfg Sy where
  hid _ := symHid
  G := natCfg.G
  glob := natCfg.glob
  tab := natCfg.tab
  len := symLen
  jmp := j
  hard := lsHard kp A B (frH A (memHard Tryz.prog memC))
instance lsHardQ (kp : Bool) (A : List As) (B : List Ix) (j : Jmps) : HardLoc (lsCfgQ kp A B j) := ⟨loc_lsHard (loc_frH (loc_memHard Tryz.prog memC) A) kp A B⟩
theorem lsFitsQ {ρ : Env} {kp : Bool} {A : List As} {B : List Ix} {j : Jmps} (hA : AllH ρ A) (hB : AllX ρ B) : Fits (symSig ρ) Tryz.prog (lsCfgQ kp A B j) where
  hid := rfl
  G := rfl
  len := lsLen_ok ρ
  tab := natFits.tab
  glob := natFits.glob
  mixed := natFits.mixed
  hard := lsHard_ok hA hB (frH_ok hA (memHard_ok (C0 := memC) rfl rfl rfl) rfl) rfl
end Fq
set_option maxRecDepth 100000
noncomputable def lsClQ (kp : Bool) (A : List As) (B : List Ix) (n : Nat) : Cl Sy := ⟨callY Tryz.prog (Fq.lsCfgQ kp A B noJ) (lsSums A) n, [], fun _ => none⟩
theorem lsClQ_ok {ρ : Env} {kp : Bool} {A : List As} {B : List Ix} {n : Nat} (hA : AllH ρ A) (hB : AllX ρ B) : ClOK (symSig ρ) Tryz.prog (lsClQ kp A B n) :=
  have h := callY_ok (C := Fq.lsCfgQ kp A B noJ) (Fq.lsFitsQ hA hB) (.none rfl) (lsSums_ok hA) n
  ⟨⟨h.1, by intro x hx; simp [lsClQ] at hx, fun x m e => (by cases e)⟩, h.2⟩
noncomputable def saF : Nat := 12
noncomputable def saTm : List Nat := [0, 1, 5]
noncomputable def saSl (x : Sl Sy) : List (Sl Sy) := [.f (.ls 0 0), .f (.ls 0 0), x]
set_option maxHeartbeats 4000000 in
theorem sa_round : roundT Tryz.prog (Fq.lsCfgQ true [] rpB1 noJ) (lsClQ true [] rpB1 20) 26 20 eqSy saTm (saSl (.f (.ix 2 0))) (saSl (.f (.ix 2 1))) (loopOf saF 0) = true := by kernel_rfl
noncomputable def saJ : Jmps := fun f _ => cond (Nat.beq f saF) (some (jumpM eqSy 26 saTm (saSl (.p (.int .i64 0))) (saSl (.f (.ix 1 0))))) none
set_option maxHeartbeats 4000000 in
theorem sa_run : tells [.ls 0 0, .ls 0 0] [.one, .one] (call Tryz.prog (Fq.lsCfgQ true [] [.ln 0 1] saJ) (lsSums []) 20 saF) = some (.one (.one (.p (.bool true)))) := by kernel_rfl
theorem sa_one : ∃ fn c, (Tryz.prog).funcs[saF]? = some fn ∧ fn.body = some c ∧ fn.ntmps = 26 ∧ loopsIn c = [loopOf saF 0] := ⟨_, _, rfl, rfl, rfl, rfl⟩
section
variable {qs : List Rat} (hq : ∀ q ∈ qs, Fit q) (lo : Nat)
theorem sa_jmp (hl : qs.length ≤ 10000) : JmpOK (symSig (rdEnv qs hq lo 0)) Tryz.prog 26 (loopOf saF 0) (jumpM eqSy 26 saTm (saSl (.p (.int .i64 0))) (saSl (.f (.ix 1 0)))) := by
  refine @jmp_ok Sy (symSig (rdEnv qs hq lo 0)) Tryz.prog eqSy eqSy_ok 26 (loopOf saF 0) saTm _ (saSl (.f (.ix 2 0))) (saSl (.f (.ix 2 1))) _ qs.length (fun k => symSig (rdEnv qs hq lo k)) (fun k => ⟨rfl, rfl, rfl⟩) rfl rfl rfl rfl ?_ ?_ ?_ ?_
  · intro w vs h
    obtain ⟨v1, l1, rfl, a1, v2, l2, rfl, a2, v3, l3, rfl, a3, rfl⟩ := h
    refine ⟨v1, _, rfl, a1, v2, _, rfl, a2, v3, _, rfl, ⟨?_, ?_⟩, rfl⟩
    · rw [show v3 = .int .i64 0 from a3]; rfl
    · rw [show v3 = .int .i64 0 from a3]; rfl
  · intro k hk w vs h
    obtain ⟨v1, l1, rfl, a1, v2, l2, rfl, a2, v3, l3, rfl, a3, rfl⟩ := h
    refine ⟨v1, _, rfl, a1, v2, _, rfl, a2, v3, _, rfl, ⟨?_, a3.2⟩, rfl⟩
    have h4 : v3 = .int .i64 (((k : Nat) : Int) + 1) := a3.1
    show v3 = .int .i64 (((k + 1 : Nat) : Int) + 0)
    rw [h4]; congr 1
  · intro w vs h
    obtain ⟨v1, l1, rfl, a1, v2, l2, rfl, a2, v3, l3, rfl, a3, rfl⟩ := h
    exact ⟨v1, _, rfl, a1, v2, _, rfl, a2, v3, _, rfl, ⟨a3.1, a3.2⟩, rfl⟩
  · intro k hk ro d B0 D0 a w hAt
    have hB := rp_B1 hq lo hl hk
    have hA : AllH (rdEnv qs hq lo k) [] := fun x hx => by simp at hx
    exact round_run (C := Fq.lsCfgQ true [] rpB1 noJ) (call := lsClQ true [] rpB1 20) (fuel := 20) (Fq.lsFitsQ hA hB) (lsClQ_ok hA hB) rfl (fun y _ m e => by cases e) eqSy_ok sa_round few5 hAt
end
theorem same_any (w : World) {qs : List Rat} (hq : ∀ q ∈ qs, Fit q) (hl : qs.length ≤ 10000) {u v : Value} (hu : LsIn 0 w u qs) (hv : LsIn 0 w v qs) (hG : Tryz.prog.globals.size ≤ w.heap.size) (hT : natSig.base w) :
    Calls Tryz.prog saF ⟨[u, v]⟩ w fun e w' => e = .returned (.bool true) ∧ Below w.heap.size w w' := by
  have h0 : HoldsL (symSig (rdEnv qs hq w.heap.size 0)) w [.ls 0 0, .ls 0 0] [u, v] := ⟨u, _, rfl, LsIn.ls hu rfl, by obtain ⟨a, m, rfl, _⟩ := hu; rfl, v, [], rfl, LsIn.ls hv rfl, by obtain ⟨a, m, rfl, _⟩ := hv; rfl, rfl⟩
  have hA : AllH (rdEnv qs hq w.heap.size 0) [] := fun x hx => by simp at hx
  have hB : AllX (rdEnv qs hq w.heap.size 0) [.ln 0 1] := fun x hx => by
    obtain rfl := List.mem_singleton.1 hx
    rfl
  have hJ : JmpAll (symSig (rdEnv qs hq w.heap.size 0)) Tryz.prog (Fq.lsCfgQ true [] [.ln 0 1] saJ) := by
    refine ⟨fun f x m e ts => ?_, fun f fn c x m hf hb hx e => ?_⟩
    · rcases condJ (show cond (Nat.beq f saF) (some (jumpM eqSy 26 saTm (saSl (.p (.int .i64 0))) (saSl (.f (.ix 1 0))))) none = some m from e) with ⟨_, rfl⟩ | ⟨_, e2⟩
      · exact loc_jumpM _ _ _ _ _
      · cases e2
    · rcases condJ (show cond (Nat.beq f saF) (some (jumpM eqSy 26 saTm (saSl (.p (.int .i64 0))) (saSl (.f (.ix 1 0))))) none = some m from e) with ⟨h1, rfl⟩ | ⟨_, e2⟩
      · obtain rfl := Nat.eq_of_beq_eq_true h1
        exact one_jmp sa_one (@sa_jmp qs hq _ hl) hf hb hx
      · cases e2
  refine (tells_calls (Fq.lsFitsQ hA hB) (lsSums_ok hA) sa_run rfl glob_few h0 hG hT (Nat.le_refl _) hJ).mono ?_
  rintro e w' ⟨v', rfl, h1, hb⟩
  have h1' : v' = .bool true := h1
  subst h1'
  exact ⟨rfl, hb⟩
set_option maxRecDepth 100000
noncomputable def isLe (y : Nat × Le) (K c : Nat) : Bool := Nat.beq y.1 K && y.2.beq (.v c)
theorem isLe_ok {y : Nat × Le} {K c : Nat} (h : isLe y K c = true) : y = (K, .v c) := by
  obtain ⟨a, l⟩ := y
  have h' := Bool.and_eq_true_iff.1 (show (Nat.beq a K && l.beq (.v c)) = true from h)
  rw [Nat.eq_of_beq_eq_true h'.1, Le.beq_ok _ _ h'.2]
section
variable {ρ : Env} {B : List Ix}
end
set_option maxRecDepth 100000
theorem trim_ex : ∀ (l : List Rat), ∃ m, TrimAt l m := by
  have key : ∀ (k : Nat) (l : List Rat), k ≤ l.length → (∀ i, k ≤ i → i < l.length → l[i]? = some 0) → ∃ m, TrimAt l m := by
    intro k
    induction k with
    | zero => exact fun l _ hz => ⟨0, Nat.zero_le _, hz, fun h => by omega⟩
    | succ k ih =>
      intro l hk hz
      by_cases h0 : l.getD k 0 = 0
      · refine ih l (by omega) fun i h1 h2 => ?_
        rcases Nat.eq_or_lt_of_le h1 with q | q
        · subst q
          rw [List.getD_eq_getElem?_getD, List.getElem?_eq_getElem h2] at h0
          rw [List.getElem?_eq_getElem h2]
          exact congrArg some h0
        · exact hz i q h2
      · exact ⟨k + 1, hk, hz, fun _ => h0⟩
  exact fun l => key l.length l (Nat.le_refl _) fun i h1 h2 => by omega
theorem TrimAt.getD {l : List Rat} {m : Nat} (h : TrimAt l m) (i : Nat) : (l.take m).getD i 0 = l.getD i 0 := by
  rw [List.getD_eq_getElem?_getD, List.getD_eq_getElem?_getD, List.getElem?_take]
  by_cases hi : i < m
  · rw [if_pos hi]
  · rw [if_neg hi]
    by_cases h2 : i < l.length
    · rw [h.zero i (by omega) h2]; rfl
    · rw [List.getElem?_eq_none (by omega)]
theorem TrimAt.poly {l : List Rat} {m : Nat} (h : TrimAt l m) (hq : ∀ q ∈ l, Fit q) : PolyOK (l.take m) := by
  refine ⟨fun q hq2 => hq q (List.mem_of_mem_take hq2), fun hne => ?_⟩
  have hm := h.le
  have hpos : 0 < m := by
    rcases Nat.eq_zero_or_pos m with q | q
    · subst q; simp at hne
    · exact q
  have hl : (l.take m).length = m := by rw [List.length_take]; omega
  have h2 := h.last hpos
  rw [← h.getD] at h2
  rw [List.getLastD_eq_getLast?, List.getLast?_eq_getElem?, hl, ← List.getD_eq_getElem?_getD]
  exact h2
end Ev
end Go.Proofs.YtdlhpleabfnogaaGreatDoor
namespace Go.Proofs.YtdlhpleabfnogaaGreatDoor
open Go.RowKit
set_option maxRecDepth 100000 in
set_option maxHeartbeats 4000000 in
theorem rasize_any (w : World) (n : Int) (h0 : -9223372036854775808 ≤ n) (h1 : n ≤ 9223372036854775807) :
    Calls Tryz.prog 34 #[.int .i64 n] w (Nat1 w n.natAbs) := by
  have hM : n.natAbs < Big.M64 := by unfold Big.M64; omega
  have C := Lib.hid (of_num w n.natAbs hM)
  clear hM
  by_cases hn : n < 0
  · obtain ⟨u, rfl⟩ : ∃ u : Nat, n = -(u : Int) := ⟨n.natAbs, by omega⟩
    have e : (-(u : Int)).natAbs = u := by omega
    rw [e] at C ⊢
    have hwr : IntKind.u64.wrap (-IntKind.u64.wrap (-(u : Int))) = (u : Int) := by rw [IntKind.wrap_u64, IntKind.wrap_u64]; omega
    clear e
    go_enter Tryz.func34, Tryz.ntmps34
    go_wp2_with fail
    refine C.out.mono ?_
    rintro e w' ⟨v', rfl, hv, hb⟩
    go_wp2_with fail
    go_ret
    exact ⟨_, rfl, hv, hb⟩
  · obtain ⟨u, rfl⟩ : ∃ u : Nat, n = (u : Int) := ⟨n.natAbs, by omega⟩
    have e : ((u : Int)).natAbs = u := by omega
    rw [e] at C ⊢
    clear e
    go_enter Tryz.func34, Tryz.ntmps34
    go_wp2_with fail
    refine C.out.mono ?_
    rintro e w' ⟨v', rfl, hv, hb⟩
    go_wp2_with fail
    go_ret
    exact ⟨_, rfl, hv, hb⟩
def Ret2 (w : World) (v : Value) (n : Int) (e : Ending) (w' : World) : Prop := e = .returned (.tuple #[v, .int .i64 n]) ∧ Below w.heap.size w w'
theorem At3.both {w w' : World} {g : Nat} {T : TypeId} {a b c : Value} (h : At3 w g T a b c) (hb : Below w.heap.size w w') (B : Nat) (w0 : World) (hB : Below B w0 w) : At3 w' g T a b c ∧ Below B w0 w' → At3 w' g T a b c := fun _ => h.keep hb
set_option maxRecDepth 100000 in
set_option maxHeartbeats 4000000 in
theorem answer_fit (w : World) (vx : Value) (q : Rat) (k : Nat) (hx : NumIn w vx q) (sx : Sm k q) (hk : k ≤ 10000000) (hf : Fit q) :
    Calls Tryz.prog 32 #[vx] w (Ret2 w (fracV q) 0) := by
  have SX := Lib.hid sx; have HF := Lib.hid hf
  obtain ⟨A, l, c, A2, l2, c2, rfl, hx1, hx2⟩ := hx.is_agg
  have HX := Lib.hid (And.intro hx1 hx2)
  have HQ := Lib.hid hx
  obtain ⟨X0, R0, B0⟩ := boxed2 w 71 35 (.bool (Big.ng q)) (.slice A l c) (.slice A2 l2 c2) (.bool false) (.string ⟨#[]⟩) (.string ⟨#[]⟩)
  have HR0 := Lib.hid R0; have HB0 := Lib.hid B0
  have x0 := X0.c0; have x1 := X0.c1; have x2 := X0.c2
  have C := Lib.hid (fun W (h : Below w.heap.size w W) => exFrac_fit W _ q k (HQ.out.keep h) SX.out hk HF.out)
  clear hx hx1 hx2 sx X0 R0 B0 hf
  go_enter Tryz.func32, Tryz.ntmps32
  go_wp2_with fail
  refine (C.out _ HB0.out).mono ?_
  generalize (w.alloc (.cells #[.bool (Big.ng q), .slice A l c, .slice A2 l2 c2] 71)).alloc (.cells #[.bool false, .string ⟨#[]⟩, .string ⟨#[]⟩] 35) = w0 at *
  rintro e w1 ⟨rfl, hw1⟩
  unfold fracV
  have HB1 := Lib.hid (HB0.out.trans (hw1.mono HB0.out.size))
  have R1 := HR0.out.keep hw1
  have hlt := R1.lt
  have HD := Lib.hid ((At3.put R1 (.bool (Big.ng q)) (.string (bst (Big.nu q))) (.string (bst (Big.de q)))).alloc' (.cells #[.bool (Big.ng q), .string (bst (Big.nu q)), .string (bst (Big.de q))] 35))
  have HE := Lib.hid (below_alloc (put_below HB1.out (show w.heap.size ≤ w.heap.size + 1 by omega) (.bool (Big.ng q)) (.string (bst (Big.nu q))) (.string (bst (Big.de q)))) (Nat.le_refl _) (.cells #[.bool (Big.ng q), .string (bst (Big.nu q)), .string (bst (Big.de q))] 35))
  have k0 := R1.c0; have k1 := R1.c1; have k2 := R1.c2; have f0 := R1.frozen 0; have f1 := R1.frozen 1; have f2 := R1.frozen 2
  clear R1 hw1 x0 x1 x2 HR0 C
  go_wp2_with fail
  generalize ((((w1.setCell ⟨w.heap.size + 1, 0, none⟩ (.bool (Big.ng q))).setCell ⟨w.heap.size + 1, 1, none⟩ (.string (bst (Big.nu q)))).setCell ⟨w.heap.size + 1, 2, none⟩ (.string (bst (Big.de q)))).alloc (.cells #[.bool (Big.ng q), .string (bst (Big.nu q)), .string (bst (Big.de q))] 35)) = wz at HD HE ⊢
  clear k0 k1 k2 f0 f1 f2
  have r0 := HD.out.c0; have r1 := HD.out.c1; have r2 := HD.out.c2
  exact bodyPost_ret (v := .tuple #[.agg #[.bool (Big.ng q), .string (bst (Big.nu q)), .string (bst (Big.de q))], .int .i64 0]) (by simp [results, Tryz.results32, go_sem, r0, r1, r2]) rfl ⟨rfl, HE.out⟩
end Go.Proofs.YtdlhpleabfnogaaGreatDoor
namespace Go.Proofs.YtdlhpleabfnogaaGreatDoor
open Go.RowKit
def ofQ (n d : Int) : Rat := mkRat (Big.sI (decide (n < 0) != decide (d < 0)) n.natAbs) d.natAbs
theorem ofQ_by {n d : Int} {k : Nat} (hn : n.natAbs < 256 ^ k) (hd : d.natAbs < 256 ^ k) (h0 : d ≠ 0) : By k (ofQ n d) := by
  obtain ⟨_, p2, p3⟩ := Big.of_parts (decide (n < 0) != decide (d < 0)) n.natAbs d.natAbs (by omega)
  unfold ofQ
  exact ⟨by rw [p2]; exact Nat.lt_of_le_of_lt (Nat.div_le_self _ _) hn, by rw [p3]; exact Nat.lt_of_le_of_lt (Nat.div_le_self _ _) hd⟩
set_option maxRecDepth 100000 in
set_option maxHeartbeats 4000000 in
theorem raOf_any (w : World) (n d : Int) (h0 : -9223372036854775808 ≤ n) (h1 : n ≤ 9223372036854775807) (h2 : -9223372036854775808 ≤ d) (h3 : d ≤ 9223372036854775807) (hd : d ≠ 0) :
    Calls Tryz.prog 16 #[.int .i64 n, .int .i64 d] w (Ret2 w (fracV (ofQ n d)) 0) := by
  have hb : By 8 (ofQ n d) := ofQ_by (by omega) (by omega) hd
  have HF := Lib.hid (hb.fit (by omega))
  have C1 := Lib.hid (fun W => rasize_any W n h0 h1)
  have C2 := Lib.hid (fun W => rasize_any W d h2 h3)
  have z1 : Sz 1 n.natAbs := sz_word (by unfold Big.M64; omega)
  have z2 : Sz 1 d.natAbs := sz_word (by unfold Big.M64; omega)
  have C3 := Lib.hid (fun W b v u (h : NatIn W v n.natAbs) (i : NatIn W u d.natAbs) => exOf_any W b v u n.natAbs d.natAbs 1 1 h i z1 z2 (by omega) (by omega) (by omega))
  have C4 := Lib.hid (fun W v (h : NumIn W v (ofQ n d)) => answer_fit W v _ 64 h HF.out.sm (by omega) HF.out)
  have hd0 : (d == 0) = false := beq_eq_false_iff_ne.2 hd
  have HOF := Lib.hid (show ofQ n d = mkRat (Big.sI (!(decide (n < 0) == decide (d < 0))) n.natAbs) d.natAbs from rfl)
  have HR0 := Lib.hid (At3.new w 35 (.bool false) (.string ⟨#[]⟩) (.string ⟨#[]⟩))
  have HB0 := Lib.hid (box1_below w (.cells #[.bool false, .string ⟨#[]⟩, .string ⟨#[]⟩] 35))
  clear hb z1 z2 hd h0 h1 h2 h3
  obtain ⟨Q, hQ⟩ : ∃ Q, ofQ n d = Q := ⟨_, rfl⟩
  rw [hQ] at HF C4 HOF ⊢
  clear hQ
  go_enter Tryz.func16, Tryz.ntmps16
  go_wp2_with fail
  generalize w.alloc (.cells #[.bool false, .string ⟨#[]⟩, .string ⟨#[]⟩] 35) = w0 at *
  refine (C1.out _).mono ?_
  rintro e w1 ⟨v1, rfl, hv1, hw1⟩
  go_wp2_with fail
  refine (C2.out _).mono ?_
  rintro e w2 ⟨v2, rfl, hv2, hw2⟩
  go_wp2_with fail
  refine (C3.out _ _ _ _ (hv1.keep hw2) hv2).mono ?_
  rintro e w3 ⟨v3, rfl, hv3, hw3⟩
  rw [← HOF.out] at hv3
  go_wp2_with fail
  refine (C4.out _ _ hv3).mono ?_
  rintro e w4 ⟨rfl, hw4⟩
  unfold fracV
  have b1 := HB0.out.trans (hw1.mono HB0.out.size)
  have b2 := b1.trans (hw2.mono b1.size)
  have b3 := b2.trans (hw3.mono b2.size)
  have b4 := b3.trans (hw4.mono b3.size)
  have R4 := (((HR0.out.keep hw1).keep hw2).keep hw3).keep hw4
  have HD := Lib.hid (At3.put R4 (.bool (Big.ng Q)) (.string (bst (Big.nu Q))) (.string (bst (Big.de Q))))
  have HE := Lib.hid (put_below b4 (Nat.le_refl _) (.bool (Big.ng Q)) (.string (bst (Big.nu Q))) (.string (bst (Big.de Q))))
  have k0 := R4.c0; have k1 := R4.c1; have k2 := R4.c2; have f0 := R4.frozen 0; have f1 := R4.frozen 1; have f2 := R4.frozen 2
  clear R4 b1 b2 b3 b4 hw1 hw2 hw3 hw4 hv1 hv2 hv3 C1 C2 C3 C4 HOF HR0 HB0
  go_wp2_with fail
  generalize (((w4.setCell ⟨w.heap.size, 0, none⟩ (.bool (Big.ng Q))).setCell ⟨w.heap.size, 1, none⟩ (.string (bst (Big.nu Q)))).setCell ⟨w.heap.size, 2, none⟩ (.string (bst (Big.de Q)))) = wz at HD HE ⊢
  clear k0 k1 k2 f0 f1 f2
  have r0 := HD.out.c0; have r1 := HD.out.c1; have r2 := HD.out.c2
  exact bodyPost_ret (v := .tuple #[.agg #[.bool (Big.ng Q), .string (bst (Big.nu Q)), .string (bst (Big.de Q))], .int .i64 0]) (by simp [results, Tryz.results16, go_sem, r0, r1, r2]) rfl ⟨rfl, HE.out⟩
end Go.Proofs.YtdlhpleabfnogaaGreatDoor
namespace Go.Proofs.YtdlhpleabfnogaaGreatDoor
open Go Go.RowKit
namespace Ev
set_option maxRecDepth 100000
theorem ofQ_one {q : Rat} (h : q.den = 1) : ofQ q.num 1 = q := by
  have hq : q = (q.num : Rat) := by
    apply Rat.ext
    · simp
    · simp [h]
  unfold ofQ
  have hd : (decide (q.num < 0) != decide ((1 : Int) < 0)) = decide (q.num < 0) := by
    rw [show decide ((1 : Int) < 0) = false from rfl]
    cases decide (q.num < 0) <;> rfl
  rw [hd, show (1 : Int).natAbs = 1 from rfl]
  have hs : Big.sI (decide (q.num < 0)) q.num.natAbs = q.num := by
    unfold Big.sI
    by_cases h0 : q.num < 0
    · simp [h0]; omega
    · simp [h0]; omega
  rw [hs]
  conv => rhs; rw [hq]
  rw [Rat.mkRat_one]
noncomputable def isI1 (v : Value) : Bool := match v with
  | .int k z => match k with
    | .i64 => eqI z 1
    | _ => false
  | _ => false
theorem isI1_ok {v : Value} (h : isI1 v = true) : v = .int .i64 1 := by
  cases v <;> first | (cases h; done) | skip
  rename_i k z
  cases k <;> first | (cases h; done) | skip
  rw [eqI_ok (show eqI z 1 = true from h)]
noncomputable def ofS : Nat × (List Value → Option (M Sy Value)) := (16, fun args => match args with
  | [a, b] => some (bind (fact a) fun f => match f with
    | .iz k e => cond (Nat.beq k 0 && isI1 b) (bind (newFacts [.ng e, .fn e, .fd e]) fun vs => ret (.tuple ⟨[.agg ⟨vs⟩, .int .i64 0]⟩)) fail
    | _ => fail)
  | _ => none)
theorem ofS_ok {ρ : Env} : SumF (symSig ρ) Tryz.prog ofS.1 ofS.2 := by
  intro args m hm
  rcases args with _ | ⟨a, _ | ⟨b, _ | ⟨c, l⟩⟩⟩ <;> first | (cases (show none = some m from hm); done) | skip
  cases hm
  refine ⟨loc_bind (loc_fact _) fun f => ?_, fun h nx v h' nx' R W e r w args' hv hM hN => ?_⟩
  · split
    · exact loc_cond (loc_bind (loc_newFacts _) fun _ => loc_ret _) loc_fail
    · exact loc_fail
  · cases hv with
    | cons h1 hv => cases hv with
      | cons h2 h3 =>
        cases h3
        obtain ⟨f, g1, nx1, R1, W1, R2, W2, e1, e2, rfl, rfl⟩ := bind_ok e
        obtain ⟨rfl, rfl, rfl, hf⟩ := fact_ok e1 h1 hM
        cases f <;> first | (cases (show (fail : M Sy Value) _ _ = _ from e2); done) | skip
        rename_i k q
        obtain ⟨hk, e3⟩ := cond_ok e2
        simp only [Bool.and_eq_true] at hk
        obtain rfl := Nat.eq_of_beq_eq_true hk.1
        obtain rfl := isI1_ok hk.2
        have hb := h2.int
        subst hb
        obtain ⟨i1, i2, i3, i4⟩ := (show izIs 0 (q.ev ρ.q) _ from hf)
        rw [i1]
        have c0 := raOf_any w (q.ev ρ.q).num 1 i3 i4 (by decide) (by decide) (by decide)
        rw [ofQ_one i2] at c0
        have := goes_aggT (u := .int .i64 0) (f := 16) (args' := [.int .i64 (q.ev ρ.q).num, .int .i64 1]) rfl e3 hM hN (c0.mono fun en w' hr => by
          obtain ⟨h5, h6⟩ := hr
          exact ⟨_, h5, frac_holds q, h6⟩)
        simp only [List.nil_append]
        exact this
def ops1 : Code → Nat
  | .seq a _ => ops1 a
  | .region _ ops _ => ops.size
  | .scope c => ops1 c
  | .block _ c => ops1 c
  | _ => 0
noncomputable def ofF : Nat := 8
noncomputable def o1Tm : List Nat := [0, 3]
noncomputable def o1Sl (x : Sy) : List (Sl Sy) := [.f (.ls 2 0), .f x]
noncomputable def o1B : List Ix := [.ln 0 1, .bd 7, .lt 0 0 7 0 true, .lt 7 (-1) 0 0 false, .lt 7 (-1) 1 0 true, .el 0 7 (-1) (.v 3)]
noncomputable def ofSums (A : List As) : Sums Sy := sumsOf (mkTab (ofS :: symList A))
theorem ofSums_ok {ρ : Env} {A : List As} (hA : AllH ρ A) : SumOK (symSig ρ) Tryz.prog (ofSums A) := sumsOf_ok fun x hx => by
  rcases List.mem_cons.1 hx with rfl | hx
  · exact ofS_ok
  · exact symList_ok hA x hx
noncomputable def ofCl (kp : Bool) (A : List As) (B : List Ix) (n : Nat) : Cl Sy := ⟨callY Tryz.prog (lsCfg kp A B noJ) (ofSums A) n, [], fun _ => none⟩
theorem ofCl_ok {ρ : Env} {kp : Bool} {A : List As} {B : List Ix} {n : Nat} (hA : AllH ρ A) (hB : AllX ρ B) : ClOK (symSig ρ) Tryz.prog (ofCl kp A B n) :=
  have h := callY_ok (C := lsCfg kp A B noJ) (lsFits hA hB) (.none rfl) (ofSums_ok hA) n
  ⟨⟨h.1, by intro x hx; simp [ofCl] at hx, fun x m e => (by cases e)⟩, h.2⟩
set_option maxHeartbeats 4000000 in
theorem o1_round : roundT Tryz.prog (lsCfg false trA1 o1B noJ) (ofCl false trA1 o1B 20) 42 20 eqSy o1Tm (o1Sl (.ix 7 0)) (o1Sl (.ix 7 (-1))) (loopOf ofF 0) = true := by kernel_rfl
noncomputable def o2Tm : List Nat := [4, 0, 25, 26]
noncomputable def o2Sl (l : Le) (x : Sl Sy) : List (Sl Sy) := [.ow (.ol 0 l (some (6, 0))), .f (.ls 2 0), .f (.ix 6 0), x]
noncomputable def o2B : List Ix := [.ln 0 1, .ln 1 2, .bd 2, .lt 2 0 6 0 true, .lt 2 0 1 0 true, .el 0 2 0 (.v 2)]
set_option maxHeartbeats 4000000 in
theorem o2_round : roundT Tryz.prog (lsCfg false [] o2B noJ) (ofCl false [] o2B 20) 42 20 eqSy o2Tm (o2Sl (.v 1) (.f (.ix 2 0))) (o2Sl (.snoc (.v 1) (.v 2)) (.f (.ix 2 1))) (loopOf ofF 1) = true := by kernel_rfl
noncomputable def ofJ : Jmps := fun f x => cond (Nat.beq f ofF) (cond (Nat.beq (ops1 x) 10) (some (jumpM eqSy 42 o1Tm (o1Sl (.ix 1 0)) (o1Sl (.ix 6 0)))) (some (jumpM eqSy 42 o2Tm (o2Sl .nil (.p (.int .i64 0))) (o2Sl (.v 5) (.f (.ix 6 0)))))) none
noncomputable def ofA0 (p : Bool) : List As := cond p [⟨1, .v 4, z0, false⟩] []
noncomputable def ofB0 (p : Bool) : List Ix := cond p [.ln 0 1, .bd 6, .lt 0 33 6 0 false, .lt 0 0 6 0 true, .lt 6 (-1) 0 0 false, .lt 6 (-1) 1 0 true, .el 0 6 (-1) (.v 4)] [.ln 0 1, .bd 6, .lt 0 33 6 0 false, .lt 0 0 6 0 false]
set_option maxHeartbeats 4000000 in
theorem of_run (p : Bool) : tells [.ls 2 0] [.one] (call Tryz.prog (lsCfg false (ofA0 p) (ofB0 p) ofJ) (ofSums (ofA0 p)) 20 ofF) = some (.one (.one (.ow (.ol 0 (.v 5) (some (6, 0)))))) := by cases p <;> kernel_rfl
theorem of_two : ∃ fn c, (Tryz.prog).funcs[ofF]? = some fn ∧ fn.body = some c ∧ fn.ntmps = 42 ∧ loopsIn c = [loopOf ofF 0, loopOf ofF 1] ∧ Nat.beq (ops1 (loopOf ofF 0)) 10 = true ∧ Nat.beq (ops1 (loopOf ofF 1)) 10 = false := ⟨_, _, rfl, rfl, rfl, rfl, rfl, rfl⟩
noncomputable def pmF : Nat := 60
noncomputable def pmT2 : List Nat := [5, 0, 1, 24, 25, 6, 7]
noncomputable def pmS2 (l : Le) (k : Sl Sy) : List (Sl Sy) := [.ow (.ol 1 l (some (5, 0))), .f (.ls 1 0), .f (.ls 1 3), .f (.ix 5 0), .f (.ix 4 0), .f (.ix 4 0), k]
noncomputable def pmB2 : List Ix := [.ln 0 1, .ln 3 2, .ln 1 4, .bd 1, .bd 4, .bd 13, .bi 2 4 0 1 (-1) 10 0, .lt 10 0 13 0 false, .lt 4 0 5 0 true, .lt 13 0 1 0 true, .el 0 13 0 (.v 3), .df 4 0 13 0 11, .lt 11 0 2 0 true, .el 3 11 0 (.v 4)]
noncomputable def pmCs2 : List (Sl Sy) := pmS2 (.snoc (.v 1) (.v 2)) (.f (.ix 13 0))
noncomputable def pmCs2' : List (Sl Sy) := pmS2 (.snoc (.take (.snoc (.v 1) (.v 2)) 4 0) (.add (.v 2) (.mul (.v 3) (.v 4)))) (.f (.ix 13 1))
set_option maxHeartbeats 4000000 in
theorem pm_round2 : roundT Tryz.prog (lsCfg false [] pmB2 noJ) (lsClW false [] pmB2 20) 68 20 eqSy pmT2 pmCs2 pmCs2' (loopOf pmF 1) = true := by kernel_rfl
noncomputable def pmPre2 : List (Sl Sy) := pmS2 (.snoc (.v 1) (.c false 0 1)) (.f (.ix 9 0))
noncomputable def pmPost2 : List (Sl Sy) := pmS2 (.v 7) (.f (.ix 10 1))
noncomputable def pmJ2 : Tr Value → M Sy (Tr Value) := jumpM eqSy 68 pmT2 pmPre2 pmPost2
noncomputable def pmT1 : List Nat := [5, 0, 1, 24, 25]
noncomputable def pmS1 (l : Le) (i : Sl Sy) : List (Sl Sy) := [.ow (.ol 1 l (some (5, 0))), .f (.ls 1 0), .f (.ls 1 3), .f (.ix 5 0), i]
noncomputable def pmB1 : List Ix := [.ln 0 1, .ln 3 2, .ln 1 4, .bd 1, .bd 4, .bd 12, .lt 4 0 5 0 true, .bi 1 4 0 2 0 12 (-5000), .bi 3 0 0 12 (-4999) 9 0, .bi 2 4 0 1 (-1) 10 0]
noncomputable def pmCl (B : List Ix) (n : Nat) : Cl Sy := ⟨callY Tryz.prog (lsCfg false [] B noJ) (lsSumsW []) n, [], fun x => cond (Nat.beq (ops1 x) 7) (some pmJ2) none⟩
set_option maxHeartbeats 4000000 in
theorem pm_round1 : roundT Tryz.prog (lsCfg false [] pmB1 noJ) (pmCl pmB1 20) 68 20 eqSy pmT1 (pmS1 (.v 1) (.f (.ix 4 0))) (pmS1 (.v 7) (.f (.ix 4 1))) (loopOf pmF 0) = true := by kernel_rfl
noncomputable def pmJ1 : Tr Value → M Sy (Tr Value) := jumpM eqSy 68 pmT1 (pmS1 .nil (.p (.int .i64 0))) (pmS1 (.v 8) (.f (.ix 5 0)))
noncomputable def pmJ : Jmps := fun f x => cond (Nat.beq f pmF && Nat.beq (ops1 x) 1) (some pmJ1) none
noncomputable def pmB0 (a b : Bool) : List Ix := [.ln 0 1, .ln 3 2, .bd 1, .lt 1 0 0 0 false, .lt 0 0 1 0 a, .lt 2 0 0 0 false, .lt 0 0 2 0 b] ++ cond (a && b) [.bd 5, .bi 0 1 0 2 0 5 1, .lt 5 0 0 0 false] []
set_option maxHeartbeats 4000000 in
theorem pm_runT : tells [.ls 1 0, .ls 1 3] [.one, .one] (call Tryz.prog (lsCfg false [] (pmB0 true true) pmJ) (lsSumsW []) 20 pmF) = some (.one (.one (.ow (.ol 1 (.v 8) (some (5, 0)))))) := by kernel_rfl
set_option maxHeartbeats 4000000 in
theorem pm_runF (a b : Bool) (h : (a && b) = false) : tells [.ls 1 0, .ls 1 3] [.one, .one] (call Tryz.prog (lsCfg false [] (pmB0 a b) noJ) (lsSumsW []) 20 pmF) = some (.one (.one (.p (.slice none 0 0)))) := by
  cases a <;> cases b <;> first | (cases h; done) | kernel_rfl
theorem pm_two : ∃ fn c, (Tryz.prog).funcs[pmF]? = some fn ∧ fn.body = some c ∧ fn.ntmps = 68 ∧ loopsIn c = [loopOf pmF 0, loopOf pmF 1] ∧ loopsIn (loopOf pmF 0) = [loopOf pmF 1] ∧ Nat.beq (ops1 (loopOf pmF 0)) 1 = true ∧ Nat.beq (ops1 (loopOf pmF 1)) 1 = false ∧ Nat.beq (ops1 (loopOf pmF 1)) 7 = true := ⟨_, _, rfl, rfl, rfl, rfl, rfl, rfl, rfl, rfl⟩
end Ev
end Go.Proofs.YtdlhpleabfnogaaGreatDoor
