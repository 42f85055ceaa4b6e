/- Contracts, in this order: The interpreter over numbers told by expressions: package ex · The interpreter over numbers told by expressions: from a run · gauss: what its functions answer, by runs over numbers told  · gauss: sums, differences, products of any two numbers, whate · '==' of fractions and of complex numbers of which something  · gauss, as a law calls it: its functions over numbers told by · gauss: what its functions answer, by runs: those that may no · gauss: norms, mirrored numbers, quotients: by runs; of any n · diapasonlaw02.GaussLaws, run over all that may come. -/
import Derived.Test.YtepnghhgmjobjaaGreatTt21
import Derived.Laws.StructEq
namespace Go.Proofs.YtepnghhgmjobjaaGreat
open Go Go.RowKit
namespace Ev
noncomputable def newNum (e : Qe) : M Sy Value := bind (newFacts [.ng e, .nu e, .de e]) fun vs => ret (.agg ⟨vs⟩)
theorem loc_newNum (e : Qe) : Loc (newNum e) := loc_bind (loc_newFacts _) fun _ => loc_ret _
section
variable {ρ : Env} {A : List As}
noncomputable def num2 (args : List Value) (k : Qe → Qe → M Sy Value) : Option (M Sy Value) := match args with
  | [a, b] => some (bind (numV a) fun x => bind (numV b) fun y => cond (okB x && okB y) (k x y) fail)
  | _ => none
noncomputable def num1 (args : List Value) (k : Qe → M Sy Value) : Option (M Sy Value) := match args with
  | [a] => some (bind (numV a) fun x => cond (okB x) (k x) fail)
  | _ => none
def GoesS (ρ : Env) (f : FuncId) (args' : List Value) (r : Ren) (w : World) (nx nx' : Nat) (W : List Nat) (g' : Nat → Option (Blk Sy)) (v : Value) : Prop :=
  Calls Tryz.prog f ⟨args'⟩ w fun e w' => ∃ v' r', e = .returned v' ∧ VR r' v v' ∧ Ext (symSig ρ) r w nx nx' W g' r' w'
theorem num2_ok {f : FuncId} {k : Qe → Qe → M Sy Value} (hl : ∀ n m, Loc (k n m)) (hk : ∀ x y (h : Tr (Blk Sy)) nx v h' nx' R W, k x y h nx = .ok v h' nx' R W → ∀ r w a b, NumIn w a (x.ev ρ.q) → NumIn w b (y.ev ρ.q) → Sm (max x.bnd y.bnd) (x.ev ρ.q) → Sm (max x.bnd y.bnd) (y.ev ρ.q) → max x.bnd y.bnd ≤ 10000000 → Mod (symSig ρ) r h.get w → New r nx nx' → GoesS ρ f [a, b] r w nx nx' W h'.get v) :
    SumF (symSig ρ) Tryz.prog f (fun args => num2 args k) := by
  intro args m e
  unfold num2 at e
  rcases args with _ | ⟨a, _ | ⟨b, _ | ⟨c, l⟩⟩⟩ <;> simp only [reduceCtorEq, Option.some.injEq] at e
  subst e
  refine ⟨loc_bind (loc_numV a) fun n => loc_bind (loc_numV b) fun m => loc_cond (hl n m) loc_fail, ?_⟩
  intro h nx v h' nx' R W e r w args' ha hM hN
  cases ha with
  | cons ha1 ha2 =>
    cases ha2 with
    | cons hb1 hb2 =>
      cases hb2
      obtain ⟨n, h1, nx1, R1, W1, R2, W2, e1, e2, rfl, rfl⟩ := bind_ok e
      obtain ⟨rfl, rfl, rfl, hn⟩ := numV_ok e1 ha1 hM
      obtain ⟨m, h2, nx2, R3, W3, R4, W4, e3, e4, rfl, rfl⟩ := bind_ok e2
      obtain ⟨rfl, rfl, rfl, hm⟩ := numV_ok e3 hb1 hM
      obtain ⟨hs, e5⟩ := cond_ok e4
      simp only [Bool.and_eq_true] at hs
      have l1 := okB_le hs.1
      have l2 := okB_le hs.2
      simpa [GoesS] using hk n m _ _ _ _ _ _ _ e5 r w _ _ hn hm ((okB_sm hs.1).up (Nat.le_max_left _ _)) ((okB_sm hs.2).up (Nat.le_max_right _ _)) (by omega) hM hN
theorem num1_ok {f : FuncId} {k : Qe → M Sy Value} (hl : ∀ n, Loc (k n)) (hk : ∀ x (h : Tr (Blk Sy)) nx v h' nx' R W, k x h nx = .ok v h' nx' R W → ∀ r w a, NumIn w a (x.ev ρ.q) → Sm x.bnd (x.ev ρ.q) → x.bnd ≤ 10000000 → Mod (symSig ρ) r h.get w → New r nx nx' → GoesS ρ f [a] r w nx nx' W h'.get v) :
    SumF (symSig ρ) Tryz.prog f (fun args => num1 args k) := by
  intro args m e
  unfold num1 at e
  rcases args with _ | ⟨a, _ | ⟨c, l⟩⟩ <;> simp only [reduceCtorEq, Option.some.injEq] at e
  subst e
  refine ⟨loc_bind (loc_numV a) fun n => loc_cond (hl n) loc_fail, ?_⟩
  intro h nx v h' nx' R W e r w args' ha hM hN
  cases ha with
  | cons ha1 ha2 =>
    cases ha2
    obtain ⟨n, h1, nx1, R1, W1, R2, W2, e1, e2, rfl, rfl⟩ := bind_ok e
    obtain ⟨rfl, rfl, rfl, hn⟩ := numV_ok e1 ha1 hM
    obtain ⟨hs, e5⟩ := cond_ok e2
    simpa [GoesS] using hk n _ _ _ _ _ _ _ e5 r w _ hn (okB_sm hs) (okB_le hs) hM hN
theorem goes_num {e : Qe} {f : FuncId} {args' : List Value} {h h' : Tr (Blk Sy)} {nx nx' : Nat} {R W : List Nat} {r : Ren} {w : World} {v : Value} (he : newNum e h nx = .ok v h' nx' R W) (hM : Mod (symSig ρ) r h.get w) (hN : New r nx nx') (c : Calls Tryz.prog f ⟨args'⟩ w (Num1 w (e.ev ρ.q))) : GoesS ρ f args' r w nx nx' W h'.get v :=
  goes_agg he hM hN (c.mono fun _ w' ⟨v', h1, h2, h3⟩ => by
    obtain ⟨us, rfl, hu⟩ := num_holds (w := w') h2
    exact ⟨us, h1, hu, h3⟩)
theorem ssum_add : SumF (symSig ρ) Tryz.prog 23 (fun args => num2 args fun x y => newNum (.add x y)) :=
  num2_ok (fun _ _ => loc_newNum _) fun x y h nx v h' nx' R W e r w a b ha hb sa sb hk hM hN => goes_num e hM hN (exAdd_any w a b _ _ _ ha hb sa sb hk)
theorem ssum_sub : SumF (symSig ρ) Tryz.prog 31 (fun args => num2 args fun x y => newNum (.sub x y)) :=
  num2_ok (fun _ _ => loc_newNum _) fun x y h nx v h' nx' R W e r w a b ha hb sa sb hk hM hN => goes_num e hM hN (exSub_any w a b _ _ _ ha hb sa sb hk)
theorem ssum_mul : SumF (symSig ρ) Tryz.prog 32 (fun args => num2 args fun x y => newNum (.mul x y)) :=
  num2_ok (fun _ _ => loc_newNum _) fun x y h nx v h' nx' R W e r w a b ha hb sa sb hk hM hN => goes_num e hM hN (exMul_any w a b _ _ _ ha hb sa sb hk)
theorem ssum_neg : SumF (symSig ρ) Tryz.prog 45 (fun args => num1 args fun x => newNum (.neg x)) :=
  num1_ok (fun _ => loc_newNum _) fun x h nx v h' nx' R W e r w a ha _ _ hM hN => goes_num e hM hN (exNeg_any w a _ ha)
noncomputable def noughtB (A : List As) (e : Qe) : Option Bool := match ask A 1 e z0 with
  | some t => some t
  | none => match e with
    | .c _ n d => cond (Nat.ble 1 n && Nat.ble 1 d) (some false) (cond (Nat.ble n 0) (some true) none)
    | _ => none
theorem noughtB_ok (hA : AllH ρ A) {e : Qe} {t : Bool} (h : noughtB A e = some t) : t = true ↔ e.ev ρ.q = 0 := by
  unfold noughtB at h
  cases ha : ask A 1 e z0 with
  | some u => rw [ha] at h; cases h; exact ask_nought hA ha
  | none =>
    rw [ha] at h
    cases e with
    | c s n d =>
      simp only at h
      cases hc : (Nat.ble 1 n && Nat.ble 1 d) with
      | true =>
        rw [hc] at h
        simp only [cond_true, Option.some.injEq] at h
        subst h
        simp only [Bool.and_eq_true] at hc
        have h1 := Nat.le_of_ble_eq_true hc.1
        have h2 := Nat.le_of_ble_eq_true hc.2
        refine ⟨fun h => (by cases h), fun h => ?_⟩
        have h3 := (Rat.mkRat_eq_zero (n := Big.sI s n) (show d ≠ 0 by omega)).1 h
        have h4 := Big.sI_abs s n
        rw [h3] at h4
        simp at h4
        omega
      | false =>
        rw [hc] at h
        simp only [cond_false] at h
        cases hd : Nat.ble n 0 with
        | false => rw [hd] at h; cases h
        | true =>
          rw [hd] at h
          simp only [cond_true, Option.some.injEq] at h
          subst h
          have hn : n = 0 := Nat.le_zero.1 (Nat.le_of_ble_eq_true hd)
          subst hn
          refine ⟨fun _ => ?_, fun _ => rfl⟩
          show mkRat (Big.sI s 0) d = 0
          have : Big.sI s 0 = 0 := by cases s <;> rfl
          rw [this, Rat.zero_mkRat]
    | _ => cases h
theorem ssum_quo (hA : AllH ρ A) : SumF (symSig ρ) Tryz.prog 44 (fun args => num2 args fun x y => match noughtB A y with
    | some t => cond t fail (newNum (.quo x y))
    | none => fail) :=
  num2_ok (fun _ y => by
    cases noughtB A y with
    | none => exact loc_fail
    | some t => exact loc_cond loc_fail (loc_newNum _)) fun x y h nx v h' nx' R W e r w a b ha hb sa sb hk hM hN => by
    cases hn : noughtB A y with
    | none => rw [hn] at e; exact absurd e (by simp [fail])
    | some t =>
      rw [hn] at e
      obtain ⟨rfl, e⟩ := cond_no e
      have h0 := noughtB_ok hA hn
      exact goes_num e hM hN (exQuo_any w a b _ _ _ ha hb sa sb hk (fun h => by
        have := h0.2 (Big.nu_zero.1 h)
        cases this))
noncomputable def signB (A : List As) (e : Qe) : Option Int := match noughtB A e with
  | some t => cond t (some 0) (match ask A 3 e z0 with
    | some t => some (cond t (-1) 1)
    | none => none)
  | none => none
theorem signB_ok (hA : AllH ρ A) {e : Qe} {z : Int} (h : signB A e = some z) : z = sgQ (e.ev ρ.q) := by
  unfold signB at h
  cases hn : noughtB A e with
  | none => rw [hn] at h; cases h
  | some t =>
    rw [hn] at h
    have h0 := noughtB_ok hA hn
    cases t with
    | true =>
      cases h
      rw [h0.1 rfl]
      rfl
    | false =>
      simp only [cond_false] at h
      cases hb : ask A 3 e z0 with
      | none => rw [hb] at h; cases h
      | some u =>
        rw [hb] at h
        cases h
        have hu := ask_below hA hb
        have hz : Big.nu (e.ev ρ.q) ≠ 0 := fun h => by
          have := h0.2 (Big.nu_zero.1 h)
          cases this
        unfold sgQ
        rw [← hu]
        cases u
        · rw [if_neg (by simp), if_neg hz]; rfl
        · rfl
theorem ssum_sign (hA : AllH ρ A) : SumF (symSig ρ) Tryz.prog 56 (fun args => num1 args fun x => match signB A x with
    | some z => ret (.int .i64 z)
    | none => fail) :=
  num1_ok (fun x => by
    cases signB A x with
    | none => exact loc_fail
    | some z => exact loc_ret _) fun x h nx v h' nx' R W e r w a ha _ _ hM hN => by
    cases hs : signB A x with
    | none => rw [hs] at e; exact absurd e (by simp [fail])
    | some z =>
      rw [hs] at e
      rw [signB_ok hA hs] at e
      exact goes_pl e rfl hM (exSign_any w a _ ha)
theorem ssum_frac (hA : AllH ρ A) : SumF (symSig ρ) Tryz.prog 46 (fun args => num1 args fun x => match fitB A x with
    | some t => cond t (bind (newFacts [.ng x, .fn x, .fd x]) fun vs => ret (.tuple ⟨[.agg ⟨vs⟩, .bool true]⟩)) (ret (.tuple ⟨[.agg ⟨[.bool false, .string ⟨#[]⟩, .string ⟨#[]⟩]⟩, .bool false]⟩))
    | none => fail) :=
  num1_ok (fun x => by
    cases fitB A x with
    | none => exact loc_fail
    | some t => exact loc_cond (loc_bind (loc_newFacts _) fun _ => loc_ret _) (loc_ret _)) fun x h nx v h' nx' R W e r w a ha sa hk hM hN => by
    cases hs : fitB A x with
    | none => rw [hs] at e; exact absurd e (by simp [fail])
    | some t =>
      rw [hs] at e
      have hf := fitB_ok hA hs
      cases t with
      | true =>
        simp only [cond_true] at e
        exact goes_aggT rfl e hM hN ((exFrac_fit w a _ _ ha sa hk (hf.1 rfl)).mono fun _ w' ⟨h1, h2⟩ => ⟨_, h1, frac_holds (w := w') x, h2⟩)
      | false =>
        simp only [cond_false] at e
        exact goes_pl e rfl hM (exFrac_long w a _ _ ha sa hk (fun h => by have := hf.2 h; cases this))
noncomputable def zeroNum : Value := .agg ⟨[.bool false, .slice none 0 0, .slice none 0 0]⟩
noncomputable def readK (A : List As) (o : Option Qe) : M Sy Value := match o with
  | some e => match fitB A e with
    | some t => cond t (bind (newFacts [.ng e, .nu e, .de e]) fun vs => ret (.tuple ⟨[.agg ⟨vs⟩, .bool true]⟩)) fail
    | none => fail
  | none => ret (.tuple ⟨[zeroNum, .bool false]⟩)
theorem ssum_read (hA : AllH ρ A) : SumF (symSig ρ) Tryz.prog 11 (fun args => match args with
    | [a] => match a with
      | .agg cs => some (bind (frcV cs.toList) (readK A))
      | _ => none
    | _ => none) := by
  intro args m e
  rcases args with _ | ⟨a, _ | ⟨c, l⟩⟩ <;> simp only [reduceCtorEq] at e
  cases a with
  | agg cs =>
    obtain ⟨l⟩ := cs
    simp only [Option.some.injEq] at e
    subst e
    refine ⟨loc_bind (loc_frcV _) fun o => ?_, ?_⟩
    · unfold readK
      cases o with
      | none => exact loc_ret _
      | some e =>
        simp only
        cases fitB A e with
        | none => exact loc_fail
        | some t => exact loc_cond (loc_bind (loc_newFacts _) fun _ => loc_ret _) loc_fail
    · intro h nx v h' nx' R W e r w args' ha hM hN
      cases ha with
      | cons ha1 ha2 =>
        cases ha2
        obtain ⟨l', rfl, hl⟩ := vr_agg ha1
        obtain ⟨o, h1, nx1, R1, W1, R2, W2, e1, e2, rfl, rfl⟩ := bind_ok e
        obtain ⟨rfl, rfl, rfl, ho⟩ := frcV_ok e1 hl hM
        unfold readK at e2
        cases o with
        | none =>
          obtain ⟨x, hx, rfl⟩ := ho
          simpa using goes_pl e2 rfl hM (exRead_bad w x hx)
        | some q =>
          simp only at e2
          cases hs : fitB A q with
          | none => rw [hs] at e2; exact absurd e2 (by simp [fail])
          | some t =>
            rw [hs] at e2
            obtain ⟨ht, e3⟩ := cond_ok e2
            subst ht
            have hf := (fitB_ok hA hs).1 rfl
            obtain rfl : l' = _ := ho
            simpa using goes_aggT rfl e3 hM hN ((exRead_ok w _ hf).mono fun _ w' ⟨v', h1, h2, h3⟩ => by
              obtain ⟨us, rfl, hu⟩ := num_holds (w := w') h2
              exact ⟨us, h1, hu, h3⟩)
  | _ => simp at e
noncomputable def symList (A : List As) : List (Nat × (List Value → Option (M Sy Value))) := [
  (23, fun args => num2 args fun x y => newNum (.add x y)),
  (31, fun args => num2 args fun x y => newNum (.sub x y)),
  (32, fun args => num2 args fun x y => newNum (.mul x y)),
  (45, fun args => num1 args fun x => newNum (.neg x)),
  (44, fun args => num2 args fun x y => match noughtB A y with
    | some t => cond t fail (newNum (.quo x y))
    | none => fail),
  (56, fun args => num1 args fun x => match signB A x with
    | some z => ret (.int .i64 z)
    | none => fail),
  (46, fun args => num1 args fun x => match fitB A x with
    | some t => cond t (bind (newFacts [.ng x, .fn x, .fd x]) fun vs => ret (.tuple ⟨[.agg ⟨vs⟩, .bool true]⟩)) (ret (.tuple ⟨[.agg ⟨[.bool false, .string ⟨#[]⟩, .string ⟨#[]⟩]⟩, .bool false]⟩))
    | none => fail),
  (11, fun args => match args with
    | [a] => match a with
      | .agg cs => some (bind (frcV cs.toList) (readK A))
      | _ => none
    | _ => none)]
theorem symList_ok (hA : AllH ρ A) : ∀ x ∈ symList A, SumF (symSig ρ) Tryz.prog x.1 x.2 := by
  unfold symList
  intro x hx
  simp only [List.mem_cons, List.not_mem_nil, or_false] at hx
  rcases hx with rfl | rfl | rfl | rfl | rfl | rfl | rfl | rfl
  · exact ssum_add
  · exact ssum_sub
  · exact ssum_mul
  · exact ssum_neg
  · exact ssum_quo hA
  · exact ssum_sign hA
  · exact ssum_frac hA
  · exact ssum_read hA
end
end Ev
end Go.Proofs.YtepnghhgmjobjaaGreat
namespace Go.Proofs.YtepnghhgmjobjaaGreat
open Go Go.RowKit
namespace Ev
inductive D1 (F : Type) where
  | p (v : Value)
  | f (x : F)
inductive D2 (F : Type) where
  | one (d : D1 F)
  | agg (l : List (D1 F))
inductive D3 (F : Type) where
  | one (d : D2 F)
  | tuple (l : List (D2 F))
section
variable {F : Type}
def D1.is (S : Sig F) (w : World) : D1 F → Value → Prop
  | .p u, v => v = u
  | .f x, v => S.holds x w v
def D1.all (S : Sig F) (w : World) : List (D1 F) → List Value → Prop
  | [], l => l = []
  | d :: ds, l => ∃ v vs, l = v :: vs ∧ d.is S w v ∧ D1.all S w ds vs
def D2.is (S : Sig F) (w : World) : D2 F → Value → Prop
  | .one d, v => d.is S w v
  | .agg ds, v => ∃ vs, v = .agg ⟨vs⟩ ∧ D1.all S w ds vs
def D2.all (S : Sig F) (w : World) : List (D2 F) → List Value → Prop
  | [], l => l = []
  | d :: ds, l => ∃ v vs, l = v :: vs ∧ d.is S w v ∧ D2.all S w ds vs
def D3.is (S : Sig F) (w : World) : D3 F → Value → Prop
  | .one d, v => d.is S w v
  | .tuple ds, v => ∃ vs, v = .tuple ⟨vs⟩ ∧ D2.all S w ds vs
noncomputable def isChan : Value → Option Nat
  | .chan i => i
  | _ => none
noncomputable def see1 (h : Tr (Blk F)) (v : Value) : Option (D1 F) := match isChan v with
  | some i => match h.get i with
    | some b => match b with
      | .fact f => some (.f f)
      | .cells _ _ => none
    | none => none
  | none => cond (plain v) (some (.p v)) none
noncomputable def consO {α : Type} (a : Option α) (b : Option (List α)) : Option (List α) := match a with
  | some d => match b with
    | some ds => some (d :: ds)
    | none => none
  | none => none
noncomputable def seeL {α : Type} (s : Value → Option α) (l : List Value) : Option (List α) := List.rec (motive := fun _ => Option (List α)) (some []) (fun v _ ih => consO (s v) ih) l
noncomputable def see2 (h : Tr (Blk F)) (v : Value) : Option (D2 F) := match v with
  | .agg cs => (seeL (see1 h) cs.toList).map .agg
  | v => (see1 h v).map .one
noncomputable def see3 (h : Tr (Blk F)) (v : Value) : Option (D3 F) := match v with
  | .tuple cs => (seeL (see2 h) cs.toList).map .tuple
  | v => (see2 h v).map .one
variable {S : Sig F} {r : Ren} {h : Tr (Blk F)} {w : World}
theorem isChan_of {v : Value} {i : Nat} (e : isChan v = some i) : v = .chan (some i) := by
  cases v <;> simp [isChan] at e
  subst e; rfl
theorem see1_ok {v v' : Value} {d : D1 F} (e : see1 h v = some d) (hM : Mod S r h.get w) (hv : VR r v v') : d.is S w v' := by
  unfold see1 at e
  cases hc : isChan v with
  | none =>
    rw [hc] at e
    simp only at e
    cases hp : plain v with
    | false => rw [hp] at e; cases e
    | true =>
      rw [hp] at e
      cases e
      exact hv.eq_of_plain hp
  | some i =>
    rw [hc] at e
    have := isChan_of hc
    subst this
    simp only at e
    cases hg : h.get i with
    | none => rw [hg] at e; cases e
    | some b =>
      rw [hg] at e
      cases b with
      | cells _ _ => cases e
      | fact f =>
        cases e
        obtain ⟨v0, hv0, hh, ho⟩ := hM.fact _ _ hg
        cases hv with
        | same p => simp [plain] at p
        | opq hp _ => rw [hv0] at hp; injection hp with hp; subst hp; exact hh
theorem seeL1_ok : ∀ {l l' : List Value} {ds : List (D1 F)}, seeL (see1 h) l = some ds → Mod S r h.get w → VsR r l l' → D1.all S w ds l'
  | [], _, ds, e, hM, hv => by
    cases hv
    cases (show some [] = some ds from e)
    rfl
  | v :: l, _, ds, e, hM, hv => by
    have e' : consO (see1 h v) (seeL (see1 h) l) = some ds := e
    unfold consO at e'
    cases hv with
    | cons ha hb =>
      cases h1 : see1 h v with
      | none => rw [h1] at e'; cases e'
      | some d =>
        rw [h1] at e'
        cases h2 : seeL (see1 h) l with
        | none => rw [h2] at e'; cases e'
        | some ds2 =>
          rw [h2] at e'
          cases e'
          exact ⟨_, _, rfl, see1_ok h1 hM ha, seeL1_ok h2 hM hb⟩
theorem see2_ok {v v' : Value} {d : D2 F} (e : see2 h v = some d) (hM : Mod S r h.get w) (hv : VR r v v') : d.is S w v' := by
  unfold see2 at e
  cases v with
  | agg cs =>
    obtain ⟨l⟩ := cs
    simp only at e
    cases h1 : seeL (see1 h) l with
    | none => rw [h1] at e; cases e
    | some ds =>
      rw [h1] at e
      cases e
      obtain ⟨l', rfl, hl⟩ := vr_agg hv
      exact ⟨_, rfl, seeL1_ok h1 hM hl⟩
  | _ =>
    simp only at e
    obtain ⟨d1, h1, rfl⟩ := Option.map_eq_some_iff.1 e
    exact see1_ok h1 hM hv
theorem seeL2_ok : ∀ {l l' : List Value} {ds : List (D2 F)}, seeL (see2 h) l = some ds → Mod S r h.get w → VsR r l l' → D2.all S w ds l'
  | [], _, ds, e, hM, hv => by
    cases hv
    cases (show some [] = some ds from e)
    rfl
  | v :: l, _, ds, e, hM, hv => by
    have e' : consO (see2 h v) (seeL (see2 h) l) = some ds := e
    unfold consO at e'
    cases hv with
    | cons ha hb =>
      cases h1 : see2 h v with
      | none => rw [h1] at e'; cases e'
      | some d =>
        rw [h1] at e'
        cases h2 : seeL (see2 h) l with
        | none => rw [h2] at e'; cases e'
        | some ds2 =>
          rw [h2] at e'
          cases e'
          exact ⟨_, _, rfl, see2_ok h1 hM ha, seeL2_ok h2 hM hb⟩
theorem see3_ok {v v' : Value} {d : D3 F} (e : see3 h v = some d) (hM : Mod S r h.get w) (hv : VR r v v') : d.is S w v' := by
  unfold see3 at e
  cases v with
  | tuple cs =>
    obtain ⟨l⟩ := cs
    simp only at e
    cases h1 : seeL (see2 h) l with
    | none => rw [h1] at e; cases e
    | some ds =>
      rw [h1] at e
      cases e
      cases hv with
      | same p => simp [plain] at p
      | tuple hl => exact ⟨_, rfl, seeL2_ok h1 hM hl⟩
  | _ =>
    simp only at e
    obtain ⟨d1, h1, rfl⟩ := Option.map_eq_some_iff.1 e
    exact see2_ok h1 hM hv
inductive Lay where
  | p (v : Value)
  | one
  | agg (k : Nat)
noncomputable def split (l : List Lay) : List Value → List Value := List.rec (motive := fun _ => List Value → List Value) (fun _ => []) (fun x _ ih vs => match x with
  | .p v => v :: ih vs
  | .one => vs.headD undef :: ih vs.tail
  | .agg k => .agg ⟨vs.take k⟩ :: ih (vs.drop k)) l
noncomputable def plainLay (l : List Lay) : Bool := List.rec (motive := fun _ => Bool) true (fun x _ ih => match x with
  | .p v => plain2 v && ih
  | _ => ih) l
theorem split_ok : ∀ {l : List Lay}, plainLay l = true → ∀ {vs us : List Value}, VsR r vs us → VsR r (split l vs) (split l us)
  | [], _, _, _, _ => .nil
  | .p v :: l, hp, vs, us, hv => by
    have hp' : (plain2 v && plainLay l) = true := hp
    simp only [Bool.and_eq_true] at hp'
    exact .cons (VR.same2 hp'.1) (split_ok hp'.2 hv)
  | .one :: l, hp, vs, us, hv => by
    refine .cons ?_ (split_ok (l := l) hp ?_)
    · cases hv with
      | nil => exact vr_undef
      | cons a _ => exact a
    · cases hv with
      | nil => exact .nil
      | cons _ b => exact b
  | .agg k :: l, hp, vs, us, hv => .cons (.agg (hv.take k)) (split_ok (l := l) hp (hv.drop k))
noncomputable def tells (fs : List F) (ls : List Lay) (m : List Value → M F Value) : Option (D3 F) := match newFacts fs .nil 100000 with
  | .no => none
  | .ok vs h1 nx1 _ _ => match m (split ls vs) h1 nx1 with
    | .no => none
    | .ok a h2 _ _ W => cond (geAll nx1 W) (see3 h2 a) none
theorem newFacts_W : ∀ (l : List F) {h h' : Tr (Blk F)} {nx nx' : Nat} {R W : List Nat} {vs : List Value}, newFacts l h nx = .ok vs h' nx' R W → W = []
  | [], h, h', nx, nx', R, W, vs, e => (ret_ok (show (ret [] : M F _) h nx = _ from e)).2.2.2
  | f :: l, h, h', nx, nx', R, W, vs, e => by
    obtain ⟨x, h3, nx3, R3, W3, R4, W4, e3, e4, rfl, rfl⟩ := bind_ok (show bind (newFact f) (fun x => bind (newFacts l) fun l => ret (x :: l)) h nx = _ from e)
    obtain ⟨i, h5, nx5, R5, W5, R6, W6, e5, e6, rfl, rfl⟩ := bind_ok e3
    obtain ⟨rfl, rfl, rfl, rfl⟩ := ret_ok e6
    unfold fresh at e5
    cases e5
    obtain ⟨xs, h7, nx7, R7, W7, R8, W8, e7, e8, rfl, rfl⟩ := bind_ok e4
    obtain ⟨rfl, rfl, rfl, rfl⟩ := ret_ok e8
    rw [newFacts_W l e7]; rfl
theorem tells_calls {P : Program} {C : Cfg F} [HardLoc C] {sum : Sums F} {n : Nat} {f : FuncId} {fs : List F} {ls : List Lay} {d : D3 F} (hF : Fits S P C) (hs : SumOK S P sum) (e : tells fs ls (call P C sum n f) = some d) (ha : plainLay ls = true) (hx : S.G ≤ 100000)
    {w : World} {us : List Value} (hu : HoldsL S w fs us) (hG : S.G ≤ w.heap.size) (hb : S.base w) :
    Calls P f ⟨split ls us⟩ w fun e w' => ∃ v', e = .returned v' ∧ d.is S w' v' ∧ Below w.heap.size w w' := by
  unfold tells at e
  cases h1 : newFacts fs .nil 100000 with
  | no => rw [h1] at e; cases e
  | ok vs hh nx1 R1 W1 =>
    rw [h1] at e
    simp only at e
    cases h2 : call P C sum n f (split ls vs) hh nx1 with
    | no => rw [h2] at e; cases e
    | ok a h3 nx2 R W =>
      rw [h2] at e
      simp only at e
      cases hc : geAll nx1 W with
      | false => rw [hc] at e; cases e
      | true =>
        rw [hc] at e
        simp only [cond_true] at e
        have hW := geAll_ok hc
        have hW1 := newFacts_W fs h1
        subst hW1
        have hg : (Tr.get (.nil : Tr (Blk F))) = fun _ => none := funext fun k => Tr.get_nil k
        have hN0 : ∀ m, New (ren0 S.G) 100000 m := fun m k h1 _ => ⟨if_neg (by omega), rfl⟩
        obtain ⟨hle, r1, hX, hvs⟩ := newFacts_ok fs h1 (by rw [hg]; exact mod0 hG hb) (hN0 nx1) hu
        have hcl := call_ok hF hs n
        have hfr : Fr hh nx1 := ((loc_newFacts fs).2 _ _ _ _ _ _ _ h1 (fun k _ => Tr.get_nil k)).fr
        have hrun := Run.self (hcl.loc f _) h2 hfr
        have hN : New r1 nx1 nx2 := New.after (hN0 nx2) hX hle
        refine (hcl.run f _ _ _ _ _ _ _ _ hrun r1 w _ (split_ok ha hvs) hX.mod hN).mono ?_
        rintro en w' ⟨v', r', rfl, hv, hY⟩
        refine ⟨v', rfl, see3_ok e hY.mod hv, hY.os, hY.tape, hY.output, hY.size, fun b hb' => ?_⟩
        have hbo : w.heap[b]? = some w.heap[b] := Array.getElem?_eq_getElem hb'
        rw [hbo]
        refine hY.keep b _ hbo fun k hk he => ?_
        have hge := hW k hk
        rcases hX.new k b he with h5 | h5
        · rw [show (ren0 S.G).blk k = none from if_neg (by omega)] at h5; cases h5
        · omega
end
noncomputable def symCfg (hd : Oper → List Value → M Sy Nxt) : Cfg Sy where
  hid := symHid
  G := natCfg.G
  tab := natCfg.tab
  len := symLen
  hard := hd
end Ev
end Go.Proofs.YtepnghhgmjobjaaGreat
namespace Go.Proofs.YtepnghhgmjobjaaGreat
open Go Go.RowKit
namespace Ev
noncomputable def symC : Cfg Sy := symCfg (fun _ _ => fail)
instance symCHard : HardLoc symC := ⟨fun _ _ => loc_fail⟩
theorem symLen_ok (ρ : Env) : ∀ f n w v, (symSig ρ).holds f w v → symLen f = some n → ∃ a c, v = .slice a n c := fun f n w v h e => by
  cases f with
  | n k =>
    have e' : wordsN k = n := Option.some.inj e
    obtain ⟨a, c, rfl⟩ := nat_slice (show NatIn w v k from h)
    exact ⟨a, c, by rw [e']⟩
  | _ => cases e
theorem symFits (ρ : Env) : Fits (symSig ρ) Tryz.prog symC where
  hid := rfl
  G := rfl
  len := symLen_ok ρ
  tab := natFits.tab
  mixed := natFits.mixed
  hard := fun o vs h nx x h' nx' R W _ e => by cases (show (fail : M Sy Nxt) h nx = _ from e)
noncomputable def frs (e : Qe) : List Sy := [.ng e, .fn e, .fd e]
noncomputable def rws (i : Nat) : List Sy := [.rg i, .rn i, .rd i]
noncomputable def inp (b : Bool) (i : Nat) : List Sy := cond b (frs (.v i)) (rws i)
noncomputable def inp4 (a b c d : Bool) : List Sy := inp a 0 ++ (inp b 1 ++ (inp c 2 ++ inp d 3))
noncomputable def seen (e : Qe) : List (D1 Sy) := [.f (.ng e), .f (.fn e), .f (.fd e)]
noncomputable def okD (e f : Qe) : D3 Sy := .tuple [.agg (seen e ++ seen f), .one (.p (.int .i64 0))]
noncomputable def zero6 : List Value := [.bool false, .string ⟨#[]⟩, .string ⟨#[]⟩, .bool false, .string ⟨#[]⟩, .string ⟨#[]⟩]
noncomputable def noD (n : Int) : D3 Sy := .tuple [.agg (zero6.map .p), .one (.p (.int .i64 n))]
noncomputable def v0 : Qe := .v 0
noncomputable def v1 : Qe := .v 1
noncomputable def v2 : Qe := .v 2
noncomputable def v3 : Qe := .v 3
noncomputable def fits (e f : Qe) (s t : Bool) : List As := [⟨0, e, z0, s⟩, ⟨0, f, z0, t⟩]
noncomputable def andD (s t : Bool) (e f : Qe) : D3 Sy := cond (s && t) (okD e f) (noD 3)
set_option maxRecDepth 100000
end Ev
end Go.Proofs.YtepnghhgmjobjaaGreat
namespace Go.Proofs.YtepnghhgmjobjaaGreat
open Go Go.RowKit
namespace Ev
abbrev Tri := Bool × ByteArray × ByteArray
def tri (q : Rat) : Tri := (Big.ng q, bst (Big.nu q), bst (Big.de q))
def cel (x : Tri) : List Value := [.bool x.1, .string x.2.1, .string x.2.2]
def gV (p q : Rat) : Value := .agg ⟨cel (tri p) ++ cel (tri q)⟩
noncomputable def gZ : Value := .agg ⟨zero6⟩
def GRes (w : World) (p q : Rat) (e : Ending) (w' : World) : Prop :=
  ((Fit p ∧ Fit q) ∧ e = .returned (.tuple ⟨[gV p q, .int .i64 0]⟩) ∨ ¬ (Fit p ∧ Fit q) ∧ e = .returned (.tuple ⟨[gZ, .int .i64 3]⟩)) ∧ Below w.heap.size w w'
def GErr (w : World) (n : Int) (e : Ending) (w' : World) : Prop := e = .returned (.tuple ⟨[gZ, .int .i64 n]⟩) ∧ Below w.heap.size w w'
section
variable {ρ : Env} {w : World} {v : Value}
theorem seen_is {e : Qe} {l : List (D1 Sy)} {vs : List Value} (h : D1.all (symSig ρ) w (seen e ++ l) vs) : ∃ us, vs = cel (tri (e.ev ρ.q)) ++ us ∧ D1.all (symSig ρ) w l us := by
  obtain ⟨v1, u1, rfl, h1, v2, u2, rfl, h2, v3, u3, rfl, h3, h4⟩ := h
  refine ⟨u3, ?_, h4⟩
  rw [show v1 = .bool (Big.ng (e.ev ρ.q)) from h1, show v2 = .string (bst (Big.nu (e.ev ρ.q))) from h2, show v3 = .string (bst (Big.de (e.ev ρ.q))) from h3]
  rfl
theorem okD_is {e f : Qe} (h : (okD e f).is (symSig ρ) w v) : v = .tuple ⟨[gV (e.ev ρ.q) (f.ev ρ.q), .int .i64 0]⟩ := by
  obtain ⟨vs, rfl, v1, u1, rfl, ⟨x, rfl, hx⟩, v2, u2, rfl, h2, h3⟩ := h
  obtain ⟨us, rfl, hy⟩ := seen_is hx
  have hy' : D1.all (symSig ρ) w (seen f ++ []) us := by simpa using hy
  obtain ⟨us2, rfl, hz⟩ := seen_is hy'
  obtain rfl : us2 = [] := hz
  obtain rfl : u2 = [] := h3
  rw [show v2 = .int .i64 0 from h2, List.append_nil]
  rfl
theorem all_p : ∀ {l vs : List Value}, D1.all (symSig ρ) w (l.map .p) vs → vs = l
  | [], vs, h => h
  | x :: l, vs, h => by
    obtain ⟨v, us, rfl, h1, h2⟩ := h
    rw [show v = x from h1, all_p h2]
theorem noD_is {n : Int} (h : (noD n).is (symSig ρ) w v) : v = .tuple ⟨[gZ, .int .i64 n]⟩ := by
  obtain ⟨vs, rfl, v1, u1, rfl, ⟨x, rfl, hx⟩, v2, u2, rfl, h2, h3⟩ := h
  obtain rfl : u2 = [] := h3
  rw [all_p hx, show v2 = .int .i64 n from h2]
  rfl
end
theorem holdsL_append {F : Type} {S : Sig F} {w : World} : ∀ {l l' : List F} {us us' : List Value}, HoldsL S w l us → HoldsL S w l' us' → HoldsL S w (l ++ l') (us ++ us')
  | [], l', us, us', h, h' => by
    obtain rfl : us = [] := h
    exact h'
  | f :: l, l', us, us', h, h' => by
    obtain ⟨u, vs, rfl, h1, h2, h3⟩ := h
    exact ⟨u, vs ++ us', rfl, h1, h2, holdsL_append h3 h'⟩
theorem part_of (x : Tri) : ∃ (b : Bool) (q : Rat) (r : Tri), Fit q ∧ BadF r ∧ (b = true → x = tri q) ∧ (b = false → x = r) := by
  by_cases h : BadF x
  · exact ⟨false, 0, x, ⟨by decide, by decide⟩, h, fun h => (by cases h), fun _ => rfl⟩
  · unfold BadF at h
    have h' : ∃ q : Rat, Fit q ∧ (x.1 = Big.ng q ∧ x.2.1 = bst (Big.nu q) ∧ x.2.2 = bst (Big.de q)) := by
      refine Classical.byContradiction fun hn => h fun q hq he => hn ⟨q, hq, he⟩
    obtain ⟨q, hq, h1, h2, h3⟩ := h'
    refine ⟨true, q, (false, ⟨#[]⟩, ⟨#[]⟩), hq, bad_zero, fun _ => ?_, fun h => (by cases h)⟩
    obtain ⟨x1, x2, x3⟩ := x
    simp only at h1 h2 h3
    rw [h1, h2, h3]; rfl
def pick {α : Type} (a b c d : α) : Nat → α
  | 0 => a
  | 1 => b
  | 2 => c
  | _ => d
theorem pick_all {α : Type} {p : α → Prop} {a b c d : α} (ha : p a) (hb : p b) (hc : p c) (hd : p d) : ∀ i, p (pick a b c d i)
  | 0 => ha
  | 1 => hb
  | 2 => hc
  | _ + 3 => hd
theorem inp_holds {ρ : Env} {w : World} {b : Bool} {i : Nat} {x : Tri} (h1 : b = true → x = tri (ρ.q i)) (h2 : b = false → x = ρ.raw i) : HoldsL (symSig ρ) w (inp b i) (cel x) := by
  cases b with
  | true =>
    rw [h1 rfl]
    exact frac_holds (w := w) (.v i)
  | false =>
    rw [h2 rfl]
    exact ⟨_, _, rfl, rfl, rfl, _, _, rfl, rfl, rfl, _, _, rfl, rfl, rfl, rfl⟩
structure In4 (x y z u : Tri) where
  ρ : Env
  a : Bool
  b : Bool
  c : Bool
  d : Bool
  hx : (a = true → x = tri (ρ.q 0)) ∧ (a = false → x = ρ.raw 0)
  hy : (b = true → y = tri (ρ.q 1)) ∧ (b = false → y = ρ.raw 1)
  hz : (c = true → z = tri (ρ.q 2)) ∧ (c = false → z = ρ.raw 2)
  hu : (d = true → u = tri (ρ.q 3)) ∧ (d = false → u = ρ.raw 3)
theorem in4 (x y z u : Tri) : ∃ i : In4 x y z u, True := by
  obtain ⟨a, q, r, h1, h2, h3⟩ := part_of x
  obtain ⟨b, q2, r2, i1, i2, i3⟩ := part_of y
  obtain ⟨c, q3, r3, j1, j2, j3⟩ := part_of z
  obtain ⟨d, q4, r4, k1, k2, k3⟩ := part_of u
  exact ⟨⟨Env.ofFit (pick q q2 q3 q4) (pick r r2 r3 r4) (pick_all h1 i1 j1 k1) (pick_all h2 i2 j2 k2), a, b, c, d, h3, i3, j3, k3⟩, trivial⟩
theorem In4.holds {x y z u : Tri} (i : In4 x y z u) (w : World) : HoldsL (symSig i.ρ) w (inp4 i.a i.b i.c i.d) (cel x ++ (cel y ++ (cel z ++ cel u))) :=
  holdsL_append (inp_holds i.hx.1 i.hx.2) (holdsL_append (inp_holds i.hy.1 i.hy.2) (holdsL_append (inp_holds i.hz.1 i.hz.2) (inp_holds i.hu.1 i.hu.2)))
theorem tri_inj {p q : Rat} (h : tri p = tri q) : p = q := by
  unfold tri at h
  simp only [Prod.mk.injEq] at h
  exact Big.parts_eq h.1 (bst_inj h.2.1) (bst_inj h.2.2)
theorem not_bad {q : Rat} (h : Fit q) : ¬ BadF (tri q) := fun hb => hb q h ⟨rfl, rfl, rfl⟩
def envOf (a b c d : Rat) (ha : Fit a) (hb : Fit b) (hc : Fit c) (hd : Fit d) : Env := Env.ofFit (pick a b c d) (fun _ => (false, ⟨#[]⟩, ⟨#[]⟩)) (pick_all ha hb hc hd) fun _ => bad_zero
theorem fits_hold {ρ : Env} {e f : Qe} {s t : Bool} (h1 : s = true ↔ Fit (e.ev ρ.q)) (h2 : t = true ↔ Fit (f.ev ρ.q)) : AllH ρ (fits e f s t) := by
  intro x hx
  simp only [fits, List.mem_cons, List.not_mem_nil, or_false] at hx
  rcases hx with rfl | rfl
  · exact h1
  · exact h2
theorem fit_bool (q : Rat) : ∃ s : Bool, s = true ↔ Fit q := by
  by_cases h : Fit q
  · exact ⟨true, fun _ => h, fun _ => rfl⟩
  · exact ⟨false, fun h => (by cases h), fun h2 => absurd h2 h⟩
end Ev
end Go.Proofs.YtepnghhgmjobjaaGreat
namespace Go.Proofs.YtepnghhgmjobjaaGreat
open Go Go.RowKit
namespace Ev
def tbeq (x y : Tri) : Bool := x.1 == y.1 && (x.2.1.toList == y.2.1.toList && x.2.2.toList == y.2.2.toList)
theorem tbeq_iff {x y : Tri} : tbeq x y = true ↔ x = y := by
  obtain ⟨a, s, t⟩ := x
  obtain ⟨b, u, v⟩ := y
  have key : ∀ p q : ByteArray, (p.toList == q.toList) = true ↔ p = q := fun p q => by
    rw [beq_iff_eq, ByteArray.toList_eq, ByteArray.toList_eq]
    obtain ⟨⟨p⟩⟩ := p
    obtain ⟨⟨q⟩⟩ := q
    simp
  simp only [tbeq, Bool.and_eq_true, key, beq_iff_eq, Prod.mk.injEq]
theorem eqIn_frac (d : Nat) (x y : Tri) (w : World) : (Op.equalIn (d + 2) 23 (.agg ⟨cel x⟩) (.agg ⟨cel y⟩)).run Tryz.prog w = .ok (tbeq x y) w := by
  have hS : Tryz.prog.underlying 23 = some (.struct (Tryz.prog.fieldsOf 23)) := by kernel_rfl
  have hp : Tryz.prog.stoodInHeld 23 = false := by kernel_rfl
  obtain ⟨a, s, t⟩ := x
  obtain ⟨b, u, v⟩ := y
  rw [show d + 2 = (d + 1) + 1 from rfl, run_equalIn_struct w (d + 1) 23 _ _ hS hp]
  simp only [Program.fieldsOf, Tryz.underlying23, cel, tbeq]
  generalize hx : (s.toList == u.toList) = b1
  generalize hy : (t.toList == v.toList) = b2
  cases a <;> cases b <;> cases b1 <;> cases b2 <;> go_simp <;> simp [hx, hy]
theorem eqIn_gauss (d : Nat) (x y z u : Tri) (w : World) : (Op.equalIn (d + 3) 25 (.agg ⟨cel x ++ cel y⟩) (.agg ⟨cel z ++ cel u⟩)).run Tryz.prog w = .ok (tbeq x z && tbeq y u) w := by
  have hS : Tryz.prog.underlying 25 = some (.struct (Tryz.prog.fieldsOf 25)) := by kernel_rfl
  have hp : Tryz.prog.stoodInHeld 25 = false := by kernel_rfl
  obtain ⟨x1, x2, x3⟩ := x
  obtain ⟨y1, y2, y3⟩ := y
  obtain ⟨z1, z2, z3⟩ := z
  obtain ⟨u1, u2, u3⟩ := u
  have e1 := fun (a b : Bool) (w : World) => run_equalIn_bool' (P := Tryz.prog) w d 4 a b Tryz.underlying4
  have e2 := fun (a b : ByteArray) (w : World) => run_equalIn_string (P := Tryz.prog) w d 9 a b Tryz.underlying9
  rw [show d + 3 = (d + 2) + 1 from rfl, run_equalIn_struct w (d + 2) 25 _ _ hS hp]
  simp only [Program.fieldsOf, Tryz.underlying25]
  go_simp
  simp only [cel, tbeq, e1, e2]
  generalize h1 : (x1 == z1) = b1
  generalize h2 : (x2.toList == z2.toList) = b2
  generalize h3 : (x3.toList == z3.toList) = b3
  generalize h4 : (y1 == u1) = b4
  generalize h5 : (y2.toList == u2.toList) = b5
  generalize h6 : (y3.toList == u3.toList) = b6
  cases b1 <;> cases b2 <;> cases b3 <;> cases b4 <;> cases b5 <;> cases b6 <;> simp only [beq_iff_eq, beq_eq_false_iff_ne, ne_eq] at h1 h2 h3 h4 h5 h6 <;> simp [e1, e2, h1, h2, h3, h4, h5, h6]
noncomputable def three (a b : Option Bool) : Option Bool := match a with
  | some x => cond x b (some false)
  | none => match b with
    | some y => cond y none (some false)
    | none => none
theorem three_ok {a b : Option Bool} {x y z : Bool} (ha : ∀ t, a = some t → t = x) (hb : ∀ t, b = some t → t = y) (h : three a b = some z) : z = (x && y) := by
  cases a with
  | some p =>
    have := ha p rfl
    subst this
    cases p with
    | true => exact hb z h
    | false => cases h; rfl
  | none =>
    cases b with
    | none => cases h
    | some q =>
      have := hb q rfl
      subst this
      cases q with
      | true => cases h
      | false => cases h; simp
noncomputable def sameO (A : List As) (l m : List Value) (o p : Option Qe) : Option Bool := match o with
  | some e => match p with
    | some f => cond (e.beq f) (some true) (ask A 2 e f)
    | none => match fitB A e with
      | some t => cond t (some false) none
      | none => none
  | none => match p with
    | some f => match fitB A f with
      | some t => cond t (some false) none
      | none => none
    | none => cond (eqL eq1 l m && plainL plain l) (some true) none
noncomputable def eq3 (A : List As) (l m : List Value) : M Sy (Option Bool) := bind (frcV l) fun o => bind (frcV m) fun p => ret (sameO A l m o p)
noncomputable def ansEq (op : BinOp) (b : Option Bool) : M Sy Nxt := match b with
  | some b => match op with
    | .eql => val (.bool b)
    | .neq => val (.bool (!b))
    | _ => fail
  | none => fail
noncomputable def eqCells (A : List As) (op : BinOp) (t : TypeId) (l m : List Value) : M Sy Nxt :=
  cond (Nat.beq t 23) (bind (eq3 A l m) (ansEq op))
    (cond (Nat.beq t 25) (bind (eq3 A (l.take 3) (m.take 3)) fun b => bind (eq3 A (l.drop 3) (m.drop 3)) fun c => ansEq op (three b c)) fail)
noncomputable def eqHard (A : List As) (o : Oper) (vs : List Value) : M Sy Nxt := match o.op with
  | .binOp op t _ _ _ => match vs with
    | [u, v] => match u with
      | .agg cs => match v with
        | .agg ds => eqCells A op t cs.toList ds.toList
        | _ => fail
      | _ => fail
    | _ => fail
  | _ => fail
theorem loc_eq3 (A : List As) (l m : List Value) : Loc (eq3 A l m) := loc_bind (loc_frcV _) fun _ => loc_bind (loc_frcV _) fun _ => loc_ret _
theorem loc_ansEq (op : BinOp) (b : Option Bool) : Loc (ansEq op b) := by
  unfold ansEq
  (repeat' split) <;> first | exact loc_val _ | exact loc_fail
theorem loc_eqHard (A : List As) (o : Oper) (vs : List Value) : Loc (eqHard A o vs) := by
  unfold eqHard
  (repeat' split) <;> first
    | exact loc_fail
    | exact loc_cond (loc_bind (loc_eq3 _ _ _) fun _ => loc_ansEq _ _) (loc_cond (loc_bind (loc_eq3 _ _ _) fun _ => loc_bind (loc_eq3 _ _ _) fun _ => loc_ansEq _ _) loc_fail)
theorem frc_tri {ρ : Env} {l : List Value} {o : Option Qe} (h : FrcIs ρ l o) : ∃ x : Tri, l = cel x ∧ (∀ e, o = some e → x = tri (e.ev ρ.q)) ∧ (o = none → BadF x) := by
  cases o with
  | some e =>
    obtain rfl : l = _ := h
    exact ⟨tri (e.ev ρ.q), rfl, fun e' he => by cases he; rfl, fun h => (by cases h)⟩
  | none =>
    obtain ⟨x, hx, rfl⟩ := h
    exact ⟨x, rfl, fun e' he => (by cases he), fun _ => hx⟩
section
variable {ρ : Env} {A : List As} {h h' : Tr (Blk Sy)} {nx nx' : Nat} {R W : List Nat} {r : Ren} {w : World}
theorem cel_inj {x y : Tri} (h : cel x = cel y) : x = y := by
  obtain ⟨a, s, t⟩ := x
  obtain ⟨b, u, v⟩ := y
  simp only [cel, List.cons.injEq, Value.bool.injEq, Value.string.injEq, and_true] at h
  obtain ⟨rfl, rfl, rfl⟩ := h
  rfl
theorem eq3_ok (hA : AllH ρ A) {l m l' m' : List Value} {b : Option Bool} (e : eq3 A l m h nx = .ok b h' nx' R W) (hl : VsR r l l') (hm : VsR r m m') (hM : Mod (symSig ρ) r h.get w) :
    h' = h ∧ nx' = nx ∧ W = [] ∧ ∃ x y : Tri, l' = cel x ∧ m' = cel y ∧ ∀ t, b = some t → t = tbeq x y := by
  obtain ⟨o, h1, nx1, R1, W1, R2, W2, q1, q2, rfl, rfl⟩ := bind_ok e
  obtain ⟨rfl, rfl, rfl, i1⟩ := frcV_ok q1 hl hM
  obtain ⟨p, h2, nx2, R3, W3, R4, W4, q3, q4, rfl, rfl⟩ := bind_ok q2
  obtain ⟨rfl, rfl, rfl, i2⟩ := frcV_ok q3 hm hM
  obtain ⟨rfl, rfl, rfl, rfl⟩ := ret_ok q4
  obtain ⟨x, rfl, x1, x2⟩ := frc_tri i1
  obtain ⟨y, rfl, y1, y2⟩ := frc_tri i2
  refine ⟨rfl, rfl, by simp, x, y, rfl, rfl, fun t ht => ?_⟩
  have neg : x ≠ y → tbeq x y = false := fun hn => by
    cases hb : tbeq x y with
    | false => rfl
    | true => exact absurd (tbeq_iff.1 hb) hn
  unfold sameO at ht
  cases o with
  | some e0 =>
    have hx := x1 e0 rfl
    cases p with
    | some f =>
      have hy := y1 f rfl
      simp only at ht
      cases hb : e0.beq f with
      | true =>
        rw [hb] at ht
        cases ht
        rw [hx, hy, Qe.beq_ok _ _ hb]
        exact (tbeq_iff.2 rfl).symm
      | false =>
        rw [hb] at ht
        have hs := ask_same hA ht
        cases t with
        | true => rw [hx, hy, hs.1 rfl]; exact (tbeq_iff.2 rfl).symm
        | false =>
          refine (neg fun h => ?_).symm
          rw [hx, hy] at h
          have := hs.2 (tri_inj h)
          cases this
    | none =>
      simp only at ht
      cases hf : fitB A e0 with
      | none => rw [hf] at ht; cases ht
      | some u =>
        rw [hf] at ht
        cases u with
        | false => cases ht
        | true =>
          cases ht
          refine (neg fun h => ?_).symm
          have hbad := y2 rfl
          rw [← h, hx] at hbad
          exact not_bad ((fitB_ok hA hf).1 rfl) hbad
  | none =>
    cases p with
    | some f =>
      have hy := y1 f rfl
      simp only at ht
      cases hf : fitB A f with
      | none => rw [hf] at ht; cases ht
      | some u =>
        rw [hf] at ht
        cases u with
        | false => cases ht
        | true =>
          cases ht
          refine (neg fun h => ?_).symm
          have hbad := x2 rfl
          rw [h, hy] at hbad
          exact not_bad ((fitB_ok hA hf).1 rfl) hbad
    | none =>
      simp only at ht
      cases hk : (eqL eq1 l m && plainL plain l) with
      | false => rw [hk] at ht; cases ht
      | true =>
        rw [hk] at ht
        cases ht
        simp only [Bool.and_eq_true] at hk
        have e1 := eqL_ok eq1_ok hk.1
        subst e1
        have e2 := hl.eq_of_plain hk.2
        have e3 := hm.eq_of_plain hk.2
        rw [← e2] at e3
        rw [cel_inj e3]
        exact (tbeq_iff.2 rfl).symm
theorem run_eqs (op : BinOp) (t : TypeId) (x y : Operand) (cs ds : Array Value) (b : Bool) (v : Value) (hm : Tryz.prog.eqGuardType Tryz.prog.depth t = false) (he : (Op.equalIn 10000 t (.agg cs) (.agg ds)).run Tryz.prog w = .ok b w) (hv : (op = .eql ∧ v = .bool b) ∨ (op = .neq ∧ v = .bool (!b))) :
    (do eqGuard op t x y (.agg cs) (.agg ds); binOp op t (.agg cs) (.agg ds) : Sem Value).run Tryz.prog w = .ok v w := by
  have hg := run_eqGuard_agg (P := Tryz.prog) w op t x y cs ds hm
  have he' : (Op.equal t (.agg cs) (.agg ds)).run Tryz.prog w = .ok b w := he
  rcases hv with ⟨rfl, rfl⟩ | ⟨rfl, rfl⟩
  · rw [Sem.run_bind, hg]
    simp [binOp, he']
  · rw [Sem.run_bind, hg]
    simp [binOp, he']
theorem ansEq_ok {op : BinOp} {b : Option Bool} {x : Nxt} (e : ansEq op b h nx = .ok x h' nx' R W) : h' = h ∧ nx' = nx ∧ W = [] ∧ ∃ t v, b = some t ∧ x = .val v ∧ ((op = .eql ∧ v = .bool t) ∨ (op = .neq ∧ v = .bool (!t))) := by
  unfold ansEq at e
  cases b with
  | none => cases (show (fail : M Sy Nxt) h nx = _ from e)
  | some t =>
    cases op with
    | eql =>
      obtain ⟨rfl, rfl, rfl, rfl⟩ := val_ok (show (val (.bool t) : M Sy Nxt) h nx = _ from e)
      exact ⟨rfl, rfl, rfl, t, _, rfl, rfl, .inl ⟨rfl, rfl⟩⟩
    | neq =>
      obtain ⟨rfl, rfl, rfl, rfl⟩ := val_ok (show (val (.bool (!t)) : M Sy Nxt) h nx = _ from e)
      exact ⟨rfl, rfl, rfl, t, _, rfl, rfl, .inr ⟨rfl, rfl⟩⟩
    | _ => cases (show (fail : M Sy Nxt) h nx = _ from e)
theorem eqHard_ok (hA : AllH ρ A) {C : Cfg Sy} (hC : C.hard = eqHard A) : HardOK (symSig ρ) Tryz.prog C := by
  intro o vs h nx x h' nx' R W hs e r w ρo hM hN hv
  rw [hC] at e
  unfold eqHard at e
  cases hop : o.op with
  | binOp op t p q yt =>
    rw [hop] at e
    simp only at e
    have hops : o.op.operands.toList.map ρo = [ρo p, ρo q] := by rw [hop]; rfl
    rw [hops] at hv
    rcases vs with _ | ⟨u, _ | ⟨v, _ | ⟨z, l⟩⟩⟩ <;> first | (cases (show (fail : M Sy Nxt) h nx = _ from e); done) | skip
    cases hv with
    | cons hu hv => cases hv with
      | cons hv hn =>
        cases u <;> first | (cases (show (fail : M Sy Nxt) h nx = _ from e); done) | skip
        rename_i cs
        cases v <;> first | (cases (show (fail : M Sy Nxt) h nx = _ from e); done) | skip
        rename_i ds
        obtain ⟨cl⟩ := cs
        obtain ⟨dl⟩ := ds
        obtain ⟨cl', hc1, hc2⟩ := vr_agg hu
        obtain ⟨dl', hd1, hd2⟩ := vr_agg hv
        simp only at e
        have fin : ∀ {b : Bool} {v : Value}, (Op.equalIn 10000 t (.agg ⟨cl'⟩) (.agg ⟨dl'⟩)).run Tryz.prog w = .ok b w → Tryz.prog.eqGuardType Tryz.prog.depth t = false → ((op = .eql ∧ v = .bool b) ∨ (op = .neq ∧ v = .bool (!b))) →
            (execOp ρo o).run Tryz.prog w = .ok (.value v) w := fun he hm hv => by
          have := run_eqs op t p q ⟨cl'⟩ ⟨dl'⟩ _ _ hm he hv
          simp only [execOp, hop, hc1, hd1]
          rw [Sem.run_bind, this]
          rfl
        unfold eqCells at e
        cases ht : Nat.beq t 23 with
        | true =>
          rw [ht] at e
          simp only [cond_true] at e
          have htt := Nat.eq_of_beq_eq_true ht
          obtain ⟨b, h1, nx1, R1, W1, R2, W2, e1, e2, rfl, rfl⟩ := bind_ok e
          obtain ⟨rfl, rfl, rfl, x1, y1, rfl, rfl, hb⟩ := eq3_ok hA e1 hc2 hd2 hM
          obtain ⟨rfl, rfl, rfl, t1, v1, rfl, rfl, hv1⟩ := ansEq_ok e2
          have := hb t1 rfl
          subst this
          refine ⟨Nat.le_refl _, v1, w, r, fin (by rw [htt]; exact eqIn_frac 9998 x1 y1 w) (by rw [htt]; kernel_rfl) hv1, ?_, by simpa using Ext.refl _ _ hM⟩
          rcases hv1 with ⟨_, rfl⟩ | ⟨_, rfl⟩ <;> exact .same rfl
        | false =>
          rw [ht] at e
          simp only [cond_false] at e
          cases ht2 : Nat.beq t 25 with
          | false => rw [ht2] at e; cases (show (fail : M Sy Nxt) h nx = _ from e)
          | true =>
            rw [ht2] at e
            simp only [cond_true] at e
            have htt := Nat.eq_of_beq_eq_true ht2
            obtain ⟨b, h1, nx1, R1, W1, R2, W2, e1, e2, rfl, rfl⟩ := bind_ok e
            obtain ⟨rfl, rfl, rfl, x1, y1, hx1, hy1, hb⟩ := eq3_ok hA e1 (hc2.take 3) (hd2.take 3) hM
            obtain ⟨c, h2, nx2, R3, W3, R4, W4, e3, e4, rfl, rfl⟩ := bind_ok e2
            obtain ⟨rfl, rfl, rfl, x2, y2, hx2, hy2, hc⟩ := eq3_ok hA e3 (hc2.drop 3) (hd2.drop 3) hM
            obtain ⟨rfl, rfl, rfl, t1, v1, ht1, rfl, hv1⟩ := ansEq_ok e4
            have := three_ok hb hc ht1
            subst this
            have z1 : cl' = cel x1 ++ cel x2 := by rw [← hx1, ← hx2, List.take_append_drop]
            have z2 : dl' = cel y1 ++ cel y2 := by rw [← hy1, ← hy2, List.take_append_drop]
            refine ⟨Nat.le_refl _, v1, w, r, fin (by rw [htt, z1, z2]; exact eqIn_gauss 9997 x1 x2 y1 y2 w) (by rw [htt]; kernel_rfl) hv1, ?_, by simpa using Ext.refl _ _ hM⟩
            rcases hv1 with ⟨_, rfl⟩ | ⟨_, rfl⟩ <;> exact .same rfl
  | _ => rw [hop] at e; cases (show (fail : M Sy Nxt) h nx = _ from e)
end
end Ev
end Go.Proofs.YtepnghhgmjobjaaGreat
namespace Go.Proofs.YtepnghhgmjobjaaGreat
open Go Go.RowKit
namespace Ev
structure Ps where
  a : Qe
  b : Qe
  t : Bool
def Ps.holds (ρ : Nat → Rat) (x : Ps) : Prop := x.t = true ↔ (Fit (x.a.ev ρ) ∧ Fit (x.b.ev ρ))
def AllP (ρ : Env) (B : List Ps) : Prop := ∀ x ∈ B, x.holds ρ.q
noncomputable def askP (B : List Ps) (a b : Qe) : Option Bool := List.rec (motive := fun _ => Option Bool) none
  (fun x _ ih => Bool.rec (motive := fun _ => Option Bool) ih (some x.t) (a.beq x.a && b.beq x.b)) B
theorem askP_ok {ρ : Env} {a b : Qe} {t : Bool} : ∀ {B : List Ps}, AllP ρ B → askP B a b = some t → (t = true ↔ (Fit (a.ev ρ.q) ∧ Fit (b.ev ρ.q)))
  | [], _, h => by cases h
  | x :: B, hB, h => by
    have h' : (Bool.rec (motive := fun _ => Option Bool) (askP B a b) (some x.t) (a.beq x.a && b.beq x.b) : Option Bool) = some t := h
    cases hb : (a.beq x.a && b.beq x.b) with
    | false => rw [hb] at h'; exact askP_ok (fun y hy => hB y (List.mem_cons_of_mem _ hy)) h'
    | true =>
      rw [hb] at h'
      simp only [Bool.and_eq_true] at hb
      have hx := hB x List.mem_cons_self
      rw [Qe.beq_ok _ _ hb.1, Qe.beq_ok _ _ hb.2, ← Option.some.inj h']
      exact hx
noncomputable def inP (B : List Ps) (a : Qe) : Bool := List.rec (motive := fun _ => Bool) false (fun x _ ih => (x.t && (a.beq x.a || a.beq x.b)) || ih) B
theorem inP_ok {ρ : Env} {a : Qe} : ∀ {B : List Ps}, AllP ρ B → inP B a = true → Fit (a.ev ρ.q)
  | [], _, h => by cases h
  | x :: B, hB, h => by
    have h' : ((x.t && (a.beq x.a || a.beq x.b)) || inP B a) = true := h
    simp only [Bool.or_eq_true, Bool.and_eq_true] at h'
    rcases h' with ⟨h1, h2⟩ | h1
    · have hx := (hB x List.mem_cons_self).1 h1
      rcases h2 with h2 | h2
      · rw [Qe.beq_ok _ _ h2]; exact hx.1
      · rw [Qe.beq_ok _ _ h2]; exact hx.2
    · exact inP_ok (fun y hy => hB y (List.mem_cons_of_mem _ hy)) h1
noncomputable def fitT (B : List Ps) (e : Qe) : Bool := match e with
  | .v i => Nat.ble i 99
  | .c _ n d => fitC n d
  | e => inP B e
theorem fitT_ok {ρ : Env} {B : List Ps} (hB : AllP ρ B) {e : Qe} (h : fitT B e = true) : Fit (e.ev ρ.q) := by
  unfold fitT at h
  cases e with
  | v i => exact ρ.fit i (Nat.lt_succ_of_le (Nat.le_of_ble_eq_true h))
  | c s n d => exact fit_c h
  | _ => exact inP_ok hB h
noncomputable def both (o p : Option Qe) : Option (Qe × Qe) := match o with
  | some e => match p with
    | some f => some (e, f)
    | none => none
  | none => none
noncomputable def gss (l : List Value) : M Sy (Option (Qe × Qe)) := bind (frcV (l.take 3)) fun o => bind (frcV (l.drop 3)) fun p => ret (both o p)
theorem loc_gss (l : List Value) : Loc (gss l) := loc_bind (loc_frcV _) fun _ => loc_bind (loc_frcV _) fun _ => loc_ret _
def GssIs (ρ : Env) (l' : List Value) : Option (Qe × Qe) → Prop
  | some p => l' = cel (tri (p.1.ev ρ.q)) ++ cel (tri (p.2.ev ρ.q))
  | none => ∃ x y : Tri, (BadF x ∨ BadF y) ∧ l' = cel x ++ cel y
section
variable {ρ : Env} {A : List As} {B : List Ps} {h h' : Tr (Blk Sy)} {nx nx' : Nat} {R W : List Nat} {r : Ren} {w : World}
theorem gss_ok {l l' : List Value} {o : Option (Qe × Qe)} (e : gss l h nx = .ok o h' nx' R W) (hv : VsR r l l') (hM : Mod (symSig ρ) r h.get w) : h' = h ∧ nx' = nx ∧ W = [] ∧ GssIs ρ l' o := by
  obtain ⟨o1, h1, nx1, R1, W1, R2, W2, q1, q2, rfl, rfl⟩ := bind_ok e
  obtain ⟨rfl, rfl, rfl, i1⟩ := frcV_ok q1 (hv.take 3) hM
  obtain ⟨p, h2, nx2, R3, W3, R4, W4, q3, q4, rfl, rfl⟩ := bind_ok q2
  obtain ⟨rfl, rfl, rfl, i2⟩ := frcV_ok q3 (hv.drop 3) hM
  obtain ⟨rfl, rfl, rfl, rfl⟩ := ret_ok q4
  obtain ⟨x, hx, x1, x2⟩ := frc_tri i1
  obtain ⟨y, hy, y1, y2⟩ := frc_tri i2
  have hl : l' = cel x ++ cel y := by rw [← hx, ← hy, List.take_append_drop]
  refine ⟨rfl, rfl, by simp, ?_⟩
  cases o1 with
  | none => exact ⟨x, y, .inl (x2 rfl), hl⟩
  | some e1 =>
    cases p with
    | none => exact ⟨x, y, .inr (y2 rfl), hl⟩
    | some f1 =>
      show l' = _
      rw [hl, x1 e1 rfl, y1 f1 rfl]
noncomputable def errG (n : Int) : Value := .tuple ⟨[gZ, .int .i64 n]⟩
noncomputable def ansG (B : List Ps) (p : Qe × Qe) : M Sy Value := match askP B p.1 p.2 with
  | some t => cond t (bind (newFacts (frs p.1 ++ frs p.2)) fun vs => ret (.tuple ⟨[.agg ⟨vs⟩, .int .i64 0]⟩)) (ret (errG 3))
  | none => fail
theorem loc_ansG (B : List Ps) (p : Qe × Qe) : Loc (ansG B p) := by
  unfold ansG
  split
  · exact loc_cond (loc_bind (loc_newFacts _) fun _ => loc_ret _) (loc_ret _)
  · exact loc_fail
theorem frs_holds (w : World) (e : Qe) : HoldsL (symSig ρ) w (frs e) (cel (tri (e.ev ρ.q))) := frac_holds (w := w) e
theorem ansG_ok (hB : AllP ρ B) {p : Qe × Qe} {f : FuncId} {args' : List Value} {v : Value} (e : ansG B p h nx = .ok v h' nx' R W) (hM : Mod (symSig ρ) r h.get w) (hN : New r nx nx') (c : Calls Tryz.prog f ⟨args'⟩ w (GRes w (p.1.ev ρ.q) (p.2.ev ρ.q))) : GoesS ρ f args' r w nx nx' W h'.get v := by
  unfold ansG at e
  cases ha : askP B p.1 p.2 with
  | none => rw [ha] at e; exact absurd e (by simp [fail])
  | some t =>
    rw [ha] at e
    have hf := askP_ok hB ha
    cases t with
    | true =>
      simp only [cond_true] at e
      exact goes_aggT rfl e hM hN (c.mono fun _ w' hh => by
        obtain ⟨h1 | h1, h2⟩ := hh
        · exact ⟨_, h1.2, holdsL_append (frs_holds w' p.1) (frs_holds w' p.2), h2⟩
        · exact absurd (hf.1 rfl) h1.1)
    | false =>
      simp only [cond_false] at e
      exact goes_pl e rfl hM (c.mono fun _ w' hh => by
        obtain ⟨h1 | h1, h2⟩ := hh
        · have := hf.2 h1.1
          cases this
        · exact ⟨h1.2, h2⟩)
theorem mod_G {F : Type} {S : Sig F} {g : Nat → Option (Blk F)} (hM : Mod S r g w) (hG : S.G = Tryz.prog.globals.size) : Tryz.prog.globals.size ≤ w.heap.size := by
  rcases Nat.eq_zero_or_pos Tryz.prog.globals.size with h0 | h0
  · omega
  · have := hM.lt _ _ (hM.glob (Tryz.prog.globals.size - 1) (by rw [hG]; omega))
    omega
end
end Ev
end Go.Proofs.YtepnghhgmjobjaaGreat
namespace Go.Proofs.YtepnghhgmjobjaaGreat
open Go Go.RowKit
namespace Ev
set_option maxRecDepth 100000
noncomputable def kAdd (x y : Qe × Qe) : Qe × Qe := (.add x.1 y.1, .add x.2 y.2)
noncomputable def kSub (x y : Qe × Qe) : Qe × Qe := (.sub x.1 y.1, .sub x.2 y.2)
noncomputable def kMul (x y : Qe × Qe) : Qe × Qe := (.sub (.mul x.1 y.1) (.mul x.2 y.2), .add (.mul x.1 y.2) (.mul x.2 y.1))
section
variable {ρ : Env} {A : List As} {B : List Ps}
noncomputable def gop1 (g : Option (Qe × Qe) → M Sy Value) (args : List Value) : Option (M Sy Value) := match args with
  | [a] => match a with
    | .agg cs => some (bind (gss cs.toList) fun x => g x)
    | _ => none
  | _ => none
theorem gop1_ok {f : FuncId} {g : Option (Qe × Qe) → M Sy Value} (hl : ∀ x, Loc (g x))
    (hk : ∀ x (h : Tr (Blk Sy)) nx v h' nx' R W, g x h nx = .ok v h' nx' R W → ∀ r w l, GssIs ρ l x → Mod (symSig ρ) r h.get w → New r nx nx' → GoesS ρ f [.agg ⟨l⟩] r w nx nx' W h'.get v) :
    SumF (symSig ρ) Tryz.prog f (gop1 g) := by
  intro args m e
  unfold gop1 at e
  rcases args with _ | ⟨a, _ | ⟨c, l⟩⟩ <;> simp only [reduceCtorEq] at e
  cases a <;> simp only [reduceCtorEq, Option.some.injEq] at e
  rename_i cs
  subst e
  refine ⟨loc_bind (loc_gss _) fun x => hl x, ?_⟩
  intro h nx v h' nx' R W e r w args' ha hM hN
  cases ha with
  | cons ha1 ha2 =>
    cases ha2
    obtain ⟨cl⟩ := cs
    obtain ⟨cl', rfl, hc⟩ := vr_agg ha1
    obtain ⟨x, h1, nx1, R1, W1, R2, W2, e1, e2, rfl, rfl⟩ := bind_ok e
    obtain ⟨rfl, rfl, rfl, hx⟩ := gss_ok e1 hc hM
    simpa [GoesS] using hk x _ _ _ _ _ _ _ e2 r w _ hx hM hN
end
noncomputable def withF (l : List Fact) (s : Sums Sy) : Sums Sy := fun f args => match look f args l with
  | some v => some (ret v)
  | none => s f args
theorem withF_ok {ρ : Env} {l : List Fact} (hl : ∀ x ∈ l, x.ok) {s : Sums Sy} (hs : SumOK (symSig ρ) Tryz.prog s) : SumOK (symSig ρ) Tryz.prog (withF l s) := by
  refine ⟨fun f args m e => ?_, fun f args m e h nx v h' nx' R W hr r w args' ha hM hN => ?_⟩
  · unfold withF at e
    cases hk : look f args l with
    | none => rw [hk] at e; exact hs.loc f args m e
    | some v => rw [hk] at e; cases e; exact loc_ret _
  · unfold withF at e
    cases hk : look f args l with
    | none => rw [hk] at e; exact hs.run f args m e h nx v h' nx' R W hr r w args' ha hM hN
    | some u =>
      rw [hk] at e
      cases e
      obtain ⟨x, hx, rfl, rfl, rfl⟩ := look_ok hk
      obtain ⟨h1, h2, h3⟩ := hl x hx
      obtain rfl : args' = x.args := VsR_eq h1 ha
      exact goes_pl hr.ok h2 hM (h3 w (mod_G hM rfl) hM.base)
end Ev
end Go.Proofs.YtepnghhgmjobjaaGreat
namespace Go.Proofs.YtepnghhgmjobjaaGreat
open Go Go.RowKit
namespace Ev
set_option maxRecDepth 100000
noncomputable def nrm (x : Qe × Qe) : Qe := .add (.mul x.1 x.1) (.mul x.2 x.2)
noncomputable def zero3 : List Value := [.bool false, .string ⟨#[]⟩, .string ⟨#[]⟩]
noncomputable def w0 : Qe × Qe := (v0, v1)
noncomputable def w1 : Qe × Qe := (v2, v3)
noncomputable def kQuo (x y : Qe × Qe) : Qe × Qe := (.quo (.sub (.mul x.1 y.1) (.mul x.2 (.neg y.2))) (nrm y), .quo (.add (.mul x.1 (.neg y.2)) (.mul x.2 y.1)) (nrm y))
noncomputable def signs (n2 g2 n3 g3 : Bool) : List As := [⟨1, v2, z0, n2⟩, ⟨3, v2, z0, g2⟩, ⟨1, v3, z0, n3⟩, ⟨3, v3, z0, g3⟩]
def fV (p : Rat) : Value := .agg ⟨cel (tri p)⟩
noncomputable def fZ : Value := .agg ⟨zero3⟩
section
variable {ρ : Env} {w : World} {v : Value}
end
theorem in2_holds {a b : Rat} (ha : Fit a) (hb : Fit b) (c d : Rat) (hc : Fit c) (hd : Fit d) (w : World) : HoldsL (symSig (envOf a b c d ha hb hc hd)) w (inp true 0 ++ inp true 1) (cel (tri a) ++ cel (tri b)) :=
  holdsL_append (inp_holds (fun _ => rfl) (fun h => (by cases h))) (inp_holds (fun _ => rfl) (fun h => (by cases h)))
theorem fit_zero : Fit 0 := ⟨by decide, by decide⟩
theorem sq_nonneg (c : Rat) : 0 ≤ c * c := by
  rcases Rat.le_total (a := 0) (b := c) with h | h
  · exact Rat.mul_nonneg h h
  · have h1 : 0 ≤ -c := by grind
    have h2 := Rat.mul_nonneg h1 h1
    grind
theorem zero_bool (q : Rat) : ∃ s : Bool, s = true ↔ q = 0 := ⟨decide (q = 0), decide_eq_true_iff⟩
end Ev
end Go.Proofs.YtepnghhgmjobjaaGreat
namespace Go.Proofs.YtepnghhgmjobjaaGreat
open Go Go.RowKit
namespace Ev
set_option maxRecDepth 100000
noncomputable def lawC (A : List As) : Cfg Sy := symCfg (eqHard A)
instance lawHard (A : List As) : HardLoc (lawC A) := ⟨loc_eqHard A⟩
theorem lawFits {ρ : Env} {A : List As} (hA : AllH ρ A) : Fits (symSig ρ) Tryz.prog (lawC A) where
  hid := rfl
  G := rfl
  len := symLen_ok ρ
  tab := natFits.tab
  mixed := natFits.mixed
  hard := eqHard_ok hA rfl
noncomputable def inp6 (a b c d e f : Bool) : List Sy := inp a 0 ++ (inp b 1 ++ (inp c 2 ++ (inp d 3 ++ (inp e 4 ++ inp f 5))))
noncomputable def yes : D3 Sy := .one (.one (.p (.bool true)))
noncomputable def lx : Qe × Qe := (.v 0, .v 1)
noncomputable def ly : Qe × Qe := (.v 2, .v 3)
noncomputable def lz : Qe × Qe := (.v 4, .v 5)
noncomputable def pr (p : Qe × Qe) (t : Bool) : Ps := ⟨p.1, p.2, t⟩
noncomputable def la : Qe × Qe := kAdd lx ly
noncomputable def lb : Qe × Qe := kAdd ly lx
noncomputable def lc : Qe × Qe := kMul lx ly
noncomputable def ld : Qe × Qe := kMul ly lx
noncomputable def lp : Qe × Qe := kAdd la lz
noncomputable def lq : Qe × Qe := kAdd ly lz
noncomputable def lr : Qe × Qe := kAdd lx lq
noncomputable def ls : Qe × Qe := kMul la lz
noncomputable def lt : Qe × Qe := kMul lx lz
noncomputable def lu : Qe × Qe := kMul ly lz
noncomputable def lk : Qe × Qe := kSub la ly
noncomputable def lB (s t : Bool) : List Ps := [pr la s, pr lb s, pr lc t, pr ld t]
end Ev
end Go.Proofs.YtepnghhgmjobjaaGreat
