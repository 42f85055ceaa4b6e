/- Contracts, in this order: gauss, as a law calls it: its functions over numbers told by · gauss: what its functions answer, by runs: those that may no · gauss: norms, mirrored numbers, quotients: by runs; of any n · diapasonlaw02.GaussLaws, run over all that may come. · diapasonlaw02.GaussLaws, run over all numbers that may be. · diapasonlaw02.GaussLaws answers true. · diapasonlaw02.GaussNorms, run over all that may come. · The order of two fractions is the sign of their difference. · turn: what Unit, Half, Sum answer, of any fractions: by runs · Unit, Half, Sum, as a law calls them. -/
import Derived.Test.YtepnghhgmjobjaaTr17
import Derived.Test.YtepnghhgmjobjaaTr15
namespace Go.Proofs.Ytepnghhgmjobjaa
open Go Go.RowKit
namespace Ev
structure Ps where
  a : Qe
  b : Qe
  t : Bool
def Ps.holds (ρ : Nat → Rat) (x : Ps) : Prop := x.t = true ↔ (Fit (x.a.ev ρ) ∧ Fit (x.b.ev ρ))
def AllP (ρ : Env) (B : List Ps) : Prop := ∀ x ∈ B, x.holds ρ.q
noncomputable def askP (B : List Ps) (a b : Qe) : Option Bool := List.rec (motive := fun _ => Option Bool) none
  (fun x _ ih => Bool.rec (motive := fun _ => Option Bool) ih (some x.t) (a.beq x.a && b.beq x.b)) B
theorem askP_ok {ρ : Env} {a b : Qe} {t : Bool} : ∀ {B : List Ps}, AllP ρ B → askP B a b = some t → (t = true ↔ (Fit (a.ev ρ.q) ∧ Fit (b.ev ρ.q)))
  | [], _, h => by cases h
  | x :: B, hB, h => by
    have h' : (Bool.rec (motive := fun _ => Option Bool) (askP B a b) (some x.t) (a.beq x.a && b.beq x.b) : Option Bool) = some t := h
    cases hb : (a.beq x.a && b.beq x.b) with
    | false => rw [hb] at h'; exact askP_ok (fun y hy => hB y (List.mem_cons_of_mem _ hy)) h'
    | true =>
      rw [hb] at h'
      simp only [Bool.and_eq_true] at hb
      have hx := hB x List.mem_cons_self
      rw [Qe.beq_ok _ _ hb.1, Qe.beq_ok _ _ hb.2, ← Option.some.inj h']
      exact hx
noncomputable def inP (B : List Ps) (a : Qe) : Bool := List.rec (motive := fun _ => Bool) false (fun x _ ih => (x.t && (a.beq x.a || a.beq x.b)) || ih) B
theorem inP_ok {ρ : Env} {a : Qe} : ∀ {B : List Ps}, AllP ρ B → inP B a = true → Fit (a.ev ρ.q)
  | [], _, h => by cases h
  | x :: B, hB, h => by
    have h' : ((x.t && (a.beq x.a || a.beq x.b)) || inP B a) = true := h
    simp only [Bool.or_eq_true, Bool.and_eq_true] at h'
    rcases h' with ⟨h1, h2⟩ | h1
    · have hx := (hB x List.mem_cons_self).1 h1
      rcases h2 with h2 | h2
      · rw [Qe.beq_ok _ _ h2]; exact hx.1
      · rw [Qe.beq_ok _ _ h2]; exact hx.2
    · exact inP_ok (fun y hy => hB y (List.mem_cons_of_mem _ hy)) h1
noncomputable def fitT (B : List Ps) (e : Qe) : Bool := match e with
  | .v i => Nat.ble i 99
  | .c _ n d => fitC n d
  | e => inP B e
theorem fitT_ok {ρ : Env} {B : List Ps} (hB : AllP ρ B) {e : Qe} (h : fitT B e = true) : Fit (e.ev ρ.q) := by
  unfold fitT at h
  cases e with
  | v i => exact ρ.fit i (Nat.lt_succ_of_le (Nat.le_of_ble_eq_true h))
  | c s n d => exact fit_c h
  | _ => exact inP_ok hB h
noncomputable def both (o p : Option Qe) : Option (Qe × Qe) := match o with
  | some e => match p with
    | some f => some (e, f)
    | none => none
  | none => none
noncomputable def gss (l : List Value) : M Sy (Option (Qe × Qe)) := bind (frcV (l.take 3)) fun o => bind (frcV (l.drop 3)) fun p => ret (both o p)
theorem loc_gss (l : List Value) : Loc (gss l) := loc_bind (loc_frcV _) fun _ => loc_bind (loc_frcV _) fun _ => loc_ret _
def GssIs (ρ : Env) (l' : List Value) : Option (Qe × Qe) → Prop
  | some p => l' = cel (tri (p.1.ev ρ.q)) ++ cel (tri (p.2.ev ρ.q))
  | none => ∃ x y : Tri, (BadF x ∨ BadF y) ∧ l' = cel x ++ cel y
section
variable {ρ : Env} {A : List As} {B : List Ps} {h h' : Tr (Blk Sy)} {nx nx' : Nat} {R W : List Nat} {r : Ren} {w : World}
theorem gss_ok {l l' : List Value} {o : Option (Qe × Qe)} (e : gss l h nx = .ok o h' nx' R W) (hv : VsR r l l') (hM : Mod (symSig ρ) r h.get w) : h' = h ∧ nx' = nx ∧ W = [] ∧ GssIs ρ l' o := by
  obtain ⟨o1, h1, nx1, R1, W1, R2, W2, q1, q2, rfl, rfl⟩ := bind_ok e
  obtain ⟨rfl, rfl, rfl, i1⟩ := frcV_ok q1 (hv.take 3) hM
  obtain ⟨p, h2, nx2, R3, W3, R4, W4, q3, q4, rfl, rfl⟩ := bind_ok q2
  obtain ⟨rfl, rfl, rfl, i2⟩ := frcV_ok q3 (hv.drop 3) hM
  obtain ⟨rfl, rfl, rfl, rfl⟩ := ret_ok q4
  obtain ⟨x, hx, x1, x2⟩ := frc_tri i1
  obtain ⟨y, hy, y1, y2⟩ := frc_tri i2
  have hl : l' = cel x ++ cel y := by rw [← hx, ← hy, List.take_append_drop]
  refine ⟨rfl, rfl, by simp, ?_⟩
  cases o1 with
  | none => exact ⟨x, y, .inl (x2 rfl), hl⟩
  | some e1 =>
    cases p with
    | none => exact ⟨x, y, .inr (y2 rfl), hl⟩
    | some f1 =>
      show l' = _
      rw [hl, x1 e1 rfl, y1 f1 rfl]
noncomputable def errG (n : Int) : Value := .tuple ⟨[gZ, .int .i64 n]⟩
noncomputable def ansG (B : List Ps) (p : Qe × Qe) : M Sy Value := match askP B p.1 p.2 with
  | some t => cond t (bind (newFacts (frs p.1 ++ frs p.2)) fun vs => ret (.tuple ⟨[.agg ⟨vs⟩, .int .i64 0]⟩)) (ret (errG 3))
  | none => fail
theorem loc_ansG (B : List Ps) (p : Qe × Qe) : Loc (ansG B p) := by
  unfold ansG
  split
  · exact loc_cond (loc_bind (loc_newFacts _) fun _ => loc_ret _) (loc_ret _)
  · exact loc_fail
theorem frs_holds (w : World) (e : Qe) : HoldsL (symSig ρ) w (frs e) (cel (tri (e.ev ρ.q))) := frac_holds (w := w) e
theorem ansG_ok (hB : AllP ρ B) {p : Qe × Qe} {f : FuncId} {args' : List Value} {v : Value} (e : ansG B p h nx = .ok v h' nx' R W) (hM : Mod (symSig ρ) r h.get w) (hN : New r nx nx') (c : Calls Try.prog f ⟨args'⟩ w (GRes w (p.1.ev ρ.q) (p.2.ev ρ.q))) : GoesS ρ f args' r w nx nx' W h'.get v := by
  unfold ansG at e
  cases ha : askP B p.1 p.2 with
  | none => rw [ha] at e; exact absurd e (by simp [fail])
  | some t =>
    rw [ha] at e
    have hf := askP_ok hB ha
    cases t with
    | true =>
      simp only [cond_true] at e
      exact goes_aggT rfl e hM hN (c.mono fun _ w' hh => by
        obtain ⟨h1 | h1, h2⟩ := hh
        · exact ⟨_, h1.2, holdsL_append (frs_holds w' p.1) (frs_holds w' p.2), h2⟩
        · exact absurd (hf.1 rfl) h1.1)
    | false =>
      simp only [cond_false] at e
      exact goes_pl e rfl hM (c.mono fun _ w' hh => by
        obtain ⟨h1 | h1, h2⟩ := hh
        · have := hf.2 h1.1
          cases this
        · exact ⟨h1.2, h2⟩)
noncomputable def gans2 (B : List Ps) (k : Qe × Qe → Qe × Qe → Qe × Qe) (x y : Option (Qe × Qe)) : M Sy Value := match x with
  | some x => match y with
    | some y => cond ((fitT B x.1 && fitT B x.2) && (fitT B y.1 && fitT B y.2)) (ansG B (k x y)) fail
    | none => ret (errG 2)
  | none => ret (errG 2)
noncomputable def gop2 (g : Option (Qe × Qe) → Option (Qe × Qe) → M Sy Value) (args : List Value) : Option (M Sy Value) := match args with
  | [a, b] => match a with
    | .agg cs => match b with
      | .agg ds => some (bind (gss cs.toList) fun x => bind (gss ds.toList) fun y => g x y)
      | _ => none
    | _ => none
  | _ => none
theorem gop2_ok {f : FuncId} {g : Option (Qe × Qe) → Option (Qe × Qe) → M Sy Value} (hl : ∀ x y, Loc (g x y))
    (hk : ∀ x y (h : Tr (Blk Sy)) nx v h' nx' R W, g x y h nx = .ok v h' nx' R W → ∀ r w l m, GssIs ρ l x → GssIs ρ m y → Mod (symSig ρ) r h.get w → New r nx nx' → GoesS ρ f [.agg ⟨l⟩, .agg ⟨m⟩] r w nx nx' W h'.get v) :
    SumF (symSig ρ) Try.prog f (gop2 g) := by
  intro args m e
  unfold gop2 at e
  rcases args with _ | ⟨a, _ | ⟨b, _ | ⟨c, l⟩⟩⟩ <;> simp only [reduceCtorEq] at e
  cases a <;> simp only [reduceCtorEq] at e
  rename_i cs
  cases b <;> simp only [reduceCtorEq, Option.some.injEq] at e
  rename_i ds
  subst e
  refine ⟨loc_bind (loc_gss _) fun x => loc_bind (loc_gss _) fun y => hl x y, ?_⟩
  intro h nx v h' nx' R W e r w args' ha hM hN
  cases ha with
  | cons ha1 ha2 =>
    cases ha2 with
    | cons hb1 hb2 =>
      cases hb2
      obtain ⟨cl⟩ := cs
      obtain ⟨dl⟩ := ds
      obtain ⟨cl', rfl, hc⟩ := vr_agg ha1
      obtain ⟨dl', rfl, hd⟩ := vr_agg hb1
      obtain ⟨x, h1, nx1, R1, W1, R2, W2, e1, e2, rfl, rfl⟩ := bind_ok e
      obtain ⟨rfl, rfl, rfl, hx⟩ := gss_ok e1 hc hM
      obtain ⟨y, h2, nx2, R3, W3, R4, W4, e3, e4, rfl, rfl⟩ := bind_ok e2
      obtain ⟨rfl, rfl, rfl, hy⟩ := gss_ok e3 hd hM
      simpa [GoesS] using hk x y _ _ _ _ _ _ _ e4 r w _ _ hx hy hM hN
theorem mod_G {F : Type} {S : Sig F} {g : Nat → Option (Blk F)} (hM : Mod S r g w) (hG : S.G = Try.prog.globals.size) : Try.prog.globals.size ≤ w.heap.size := by
  rcases Nat.eq_zero_or_pos Try.prog.globals.size with h0 | h0
  · omega
  · have := hM.lt _ _ (hM.glob (Try.prog.globals.size - 1) (by rw [hG]; omega))
    omega
theorem loc_gans2 (k : Qe × Qe → Qe × Qe → Qe × Qe) (x y : Option (Qe × Qe)) : Loc (gans2 B k x y) := by
  unfold gans2
  (repeat' split) <;> first | exact loc_ret _ | exact loc_cond (loc_ansG _ _) loc_fail
theorem gsum2 (hB : AllP ρ B) {f : FuncId} {k : Qe × Qe → Qe × Qe → Qe × Qe}
    (hok : ∀ (w : World) (x y : Qe × Qe), Fit (x.1.ev ρ.q) → Fit (x.2.ev ρ.q) → Fit (y.1.ev ρ.q) → Fit (y.2.ev ρ.q) → Try.prog.globals.size ≤ w.heap.size → Tab w → Calls Try.prog f ⟨[gV (x.1.ev ρ.q) (x.2.ev ρ.q), gV (y.1.ev ρ.q) (y.2.ev ρ.q)]⟩ w (GRes w ((k x y).1.ev ρ.q) ((k x y).2.ev ρ.q)))
    (hbad : ∀ (w : World) (x y z u : Tri), (BadF x ∨ BadF y ∨ BadF z ∨ BadF u) → Try.prog.globals.size ≤ w.heap.size → Tab w → Calls Try.prog f ⟨[.agg ⟨cel x ++ cel y⟩, .agg ⟨cel z ++ cel u⟩]⟩ w (GErr w 2)) :
    SumF (symSig ρ) Try.prog f (gop2 (gans2 B k)) :=
  gop2_ok (fun x y => loc_gans2 k x y) fun x y h nx v h' nx' R W e r w l m hx hy hM hN => by
    have hG := mod_G hM rfl
    have hT : Tab w := hM.base
    unfold gans2 at e
    cases x with
    | none =>
      obtain ⟨x1, x2, hb, rfl⟩ := hx
      cases y with
      | none =>
        obtain ⟨y1, y2, hb2, rfl⟩ := hy
        exact goes_pl e rfl hM (hbad w _ _ _ _ (by rcases hb with hb | hb; exact .inl hb; exact .inr (.inl hb)) hG hT)
      | some y =>
        obtain rfl : m = _ := hy
        exact goes_pl e rfl hM (hbad w _ _ _ _ (by rcases hb with hb | hb; exact .inl hb; exact .inr (.inl hb)) hG hT)
    | some x =>
      obtain rfl : l = _ := hx
      cases y with
      | none =>
        obtain ⟨y1, y2, hb, rfl⟩ := hy
        exact goes_pl e rfl hM (hbad w _ _ _ _ (by rcases hb with hb | hb; exact .inr (.inr (.inl hb)); exact .inr (.inr (.inr hb))) hG hT)
      | some y =>
        obtain rfl : m = _ := hy
        simp only at e
        obtain ⟨hf, e⟩ := cond_ok e
        simp only [Bool.and_eq_true] at hf
        exact ansG_ok hB e hM hN (hok w x y (fitT_ok hB hf.1.1) (fitT_ok hB hf.1.2) (fitT_ok hB hf.2.1) (fitT_ok hB hf.2.2) hG hT)
end
end Ev
end Go.Proofs.Ytepnghhgmjobjaa
namespace Go.Proofs.Ytepnghhgmjobjaa
open Go Go.RowKit
namespace Ev
set_option maxRecDepth 100000
theorem mul_bad : ∀ a b c d : Bool, (a && b && c && d) = false → run2 [] (inp4 a b c d) 11 = some (noD 2) := by
  intro a b c d
  cases a <;> cases b <;> cases c <;> cases d <;> intro h <;> first | (cases h; done) | kernel_rfl
noncomputable def kAdd (x y : Qe × Qe) : Qe × Qe := (.add x.1 y.1, .add x.2 y.2)
noncomputable def kSub (x y : Qe × Qe) : Qe × Qe := (.sub x.1 y.1, .sub x.2 y.2)
noncomputable def kMul (x y : Qe × Qe) : Qe × Qe := (.sub (.mul x.1 y.1) (.mul x.2 y.2), .add (.mul x.1 y.2) (.mul x.2 y.1))
section
variable {ρ : Env} {A : List As} {B : List Ps}
theorem lsum_mul (hB : AllP ρ B) : SumF (symSig ρ) Try.prog 11 (gop2 (gans2 B kMul)) :=
  gsum2 hB (fun w x y h1 h2 h3 h4 hG hT => ga2 mul_run w h1 h2 h3 h4 hG hT) (fun w x y z u h hG hT => ga2_bad mul_bad w x y z u h hG hT)
noncomputable def gop1 (g : Option (Qe × Qe) → M Sy Value) (args : List Value) : Option (M Sy Value) := match args with
  | [a] => match a with
    | .agg cs => some (bind (gss cs.toList) fun x => g x)
    | _ => none
  | _ => none
theorem gop1_ok {f : FuncId} {g : Option (Qe × Qe) → M Sy Value} (hl : ∀ x, Loc (g x))
    (hk : ∀ x (h : Tr (Blk Sy)) nx v h' nx' R W, g x h nx = .ok v h' nx' R W → ∀ r w l, GssIs ρ l x → Mod (symSig ρ) r h.get w → New r nx nx' → GoesS ρ f [.agg ⟨l⟩] r w nx nx' W h'.get v) :
    SumF (symSig ρ) Try.prog f (gop1 g) := by
  intro args m e
  unfold gop1 at e
  rcases args with _ | ⟨a, _ | ⟨c, l⟩⟩ <;> simp only [reduceCtorEq] at e
  cases a <;> simp only [reduceCtorEq, Option.some.injEq] at e
  rename_i cs
  subst e
  refine ⟨loc_bind (loc_gss _) fun x => hl x, ?_⟩
  intro h nx v h' nx' R W e r w args' ha hM hN
  cases ha with
  | cons ha1 ha2 =>
    cases ha2
    obtain ⟨cl⟩ := cs
    obtain ⟨cl', rfl, hc⟩ := vr_agg ha1
    obtain ⟨x, h1, nx1, R1, W1, R2, W2, e1, e2, rfl, rfl⟩ := bind_ok e
    obtain ⟨rfl, rfl, rfl, hx⟩ := gss_ok e1 hc hM
    simpa [GoesS] using hk x _ _ _ _ _ _ _ e2 r w _ hx hM hN
end
noncomputable def withF (l : List Fact) (s : Sums Sy) : Sums Sy := fun f args => match look f args l with
  | some v => some (ret v)
  | none => s f args
theorem withF_ok {ρ : Env} {l : List Fact} (hl : ∀ x ∈ l, x.ok) {s : Sums Sy} (hs : SumOK (symSig ρ) Try.prog s) : SumOK (symSig ρ) Try.prog (withF l s) := by
  refine ⟨fun f args m e => ?_, fun f args m e h nx v h' nx' R W hr r w args' ha hM hN => ?_⟩
  · unfold withF at e
    cases hk : look f args l with
    | none => rw [hk] at e; exact hs.loc f args m e
    | some v => rw [hk] at e; cases e; exact loc_ret _
  · unfold withF at e
    cases hk : look f args l with
    | none => rw [hk] at e; exact hs.run f args m e h nx v h' nx' R W hr r w args' ha hM hN
    | some u =>
      rw [hk] at e
      cases e
      obtain ⟨x, hx, rfl, rfl, rfl⟩ := look_ok hk
      obtain ⟨h1, h2, h3⟩ := hl x hx
      obtain rfl : args' = x.args := VsR_eq h1 ha
      exact goes_pl hr.ok h2 hM (h3 w (mod_G hM rfl) hM.base)
end Ev
end Go.Proofs.Ytepnghhgmjobjaa
namespace Go.Proofs.Ytepnghhgmjobjaa
open Go Go.RowKit
namespace Ev
set_option maxRecDepth 100000
noncomputable def nrm (x : Qe × Qe) : Qe := .add (.mul x.1 x.1) (.mul x.2 x.2)
noncomputable def okF (e : Qe) : D3 Sy := .tuple [.agg (seen e), .one (.p (.int .i64 0))]
noncomputable def zero3 : List Value := [.bool false, .string ⟨#[]⟩, .string ⟨#[]⟩]
noncomputable def noF (n : Int) : D3 Sy := .tuple [.agg (zero3.map .p), .one (.p (.int .i64 n))]
noncomputable def w0 : Qe × Qe := (v0, v1)
noncomputable def w1 : Qe × Qe := (v2, v3)
theorem norm_run (s : Bool) : run1 [⟨0, nrm w0, z0, s⟩] (inp true 0 ++ inp true 1) 8 = some (cond s (okF (nrm w0)) (noF 3)) := by
  cases s <;> kernel_rfl
theorem norm_bad : ∀ a b : Bool, (a && b) = false → run1 [] (inp a 0 ++ inp b 1) 8 = some (noF 2) := by
  intro a b
  cases a <;> cases b <;> intro h <;> first | (cases h; done) | kernel_rfl
noncomputable def kQuo (x y : Qe × Qe) : Qe × Qe := (.quo (.sub (.mul x.1 y.1) (.mul x.2 (.neg y.2))) (nrm y), .quo (.add (.mul x.1 (.neg y.2)) (.mul x.2 y.1)) (nrm y))
noncomputable def signs (n2 g2 n3 g3 : Bool) : List As := [⟨1, v2, z0, n2⟩, ⟨3, v2, z0, g2⟩, ⟨1, v3, z0, n3⟩, ⟨3, v3, z0, g3⟩]
def fV (p : Rat) : Value := .agg ⟨cel (tri p)⟩
noncomputable def fZ : Value := .agg ⟨zero3⟩
def FRes (w : World) (p : Rat) (e : Ending) (w' : World) : Prop :=
  (Fit p ∧ e = .returned (.tuple ⟨[fV p, .int .i64 0]⟩) ∨ ¬ Fit p ∧ e = .returned (.tuple ⟨[fZ, .int .i64 3]⟩)) ∧ Below w.heap.size w w'
def FErr (w : World) (n : Int) (e : Ending) (w' : World) : Prop := e = .returned (.tuple ⟨[fZ, .int .i64 n]⟩) ∧ Below w.heap.size w w'
section
variable {ρ : Env} {w : World} {v : Value}
theorem okF_is {e : Qe} (h : (okF e).is (symSig ρ) w v) : v = .tuple ⟨[fV (e.ev ρ.q), .int .i64 0]⟩ := by
  obtain ⟨vs, rfl, v1, u1, rfl, ⟨x, rfl, hx⟩, v2, u2, rfl, h2, h3⟩ := h
  have hx' : D1.all (symSig ρ) w (seen e ++ []) x := by simpa using hx
  obtain ⟨us, rfl, hz⟩ := seen_is hx'
  obtain rfl : us = [] := hz
  obtain rfl : u2 = [] := h3
  rw [show v2 = .int .i64 0 from h2, List.append_nil]
  rfl
theorem noF_is {n : Int} (h : (noF n).is (symSig ρ) w v) : v = .tuple ⟨[fZ, .int .i64 n]⟩ := by
  obtain ⟨vs, rfl, v1, u1, rfl, ⟨x, rfl, hx⟩, v2, u2, rfl, h2, h3⟩ := h
  obtain rfl : u2 = [] := h3
  rw [all_p hx, show v2 = .int .i64 n from h2]
  rfl
end
theorem in2_holds {a b : Rat} (ha : Fit a) (hb : Fit b) (c d : Rat) (hc : Fit c) (hd : Fit d) (w : World) : HoldsL (symSig (envOf a b c d ha hb hc hd)) w (inp true 0 ++ inp true 1) (cel (tri a) ++ cel (tri b)) :=
  holdsL_append (inp_holds (fun _ => rfl) (fun h => (by cases h))) (inp_holds (fun _ => rfl) (fun h => (by cases h)))
theorem fit_zero : Fit 0 := ⟨by decide, by decide⟩
theorem norm_any (w : World) {a b : Rat} (ha : Fit a) (hb : Fit b) (hG : Try.prog.globals.size ≤ w.heap.size) (hT : Tab w) : Calls Try.prog 8 ⟨[gV a b]⟩ w (FRes w (a * a + b * b)) := by
  obtain ⟨s, hs⟩ := fit_bool (a * a + b * b)
  have hA : AllH (envOf a b 0 0 ha hb fit_zero fit_zero) [⟨0, nrm w0, z0, s⟩] := fun x hx => by
    simp only [List.mem_cons, List.not_mem_nil, or_false] at hx
    subst hx; exact hs
  refine (tells_calls (symFits _) (symSums_ok hA) (norm_run s) rfl glob_few (in2_holds ha hb 0 0 fit_zero fit_zero w) hG hT).mono ?_
  rintro e w' ⟨v', rfl, hv, hb'⟩
  refine ⟨?_, hb'⟩
  cases s with
  | true => exact .inl ⟨hs.1 rfl, by rw [okF_is hv]; rfl⟩
  | false => exact .inr ⟨fun h => (by have := hs.2 h; cases this), by rw [noF_is hv]⟩
theorem ga1_bad {f : FuncId} {d : D3 Sy} {P : Ending → Prop} (run : ∀ a b : Bool, (a && b) = false → run1 [] (inp a 0 ++ inp b 1) f = some d) (hP : ∀ (ρ : Env) (w : World) (v : Value), d.is (symSig ρ) w v → P (.returned v)) (w : World) (x y : Tri) (h : BadF x ∨ BadF y) (hG : Try.prog.globals.size ≤ w.heap.size) (hT : Tab w) :
    Calls Try.prog f ⟨[.agg ⟨cel x ++ cel y⟩]⟩ w fun e w' => P e ∧ Below w.heap.size w w' := by
  obtain ⟨i, -⟩ := in4 x y x y
  have hA : AllH i.ρ [] := fun _ h => (by cases h)
  have hb : (i.a && i.b) = false := by
    cases ha : i.a with
    | false => rfl
    | true => cases hb : i.b with
      | false => rfl
      | true =>
        rcases h with h | h
        · rw [i.hx.1 ha] at h; exact absurd h (not_bad ((i.ρ.fit _ (by decide))))
        · rw [i.hy.1 hb] at h; exact absurd h (not_bad ((i.ρ.fit _ (by decide))))
  exact (tells_calls (symFits _) (symSums_ok hA) (run _ _ hb) rfl glob_few (holdsL_append (inp_holds (w := w) i.hx.1 i.hx.2) (inp_holds i.hy.1 i.hy.2)) hG hT).mono fun e w' hh => by
    obtain ⟨v', rfl, hv, hb'⟩ := hh
    exact ⟨hP _ _ _ hv, hb'⟩
theorem norm_none (w : World) (x y : Tri) (h : BadF x ∨ BadF y) (hG : Try.prog.globals.size ≤ w.heap.size) (hT : Tab w) : Calls Try.prog 8 ⟨[.agg ⟨cel x ++ cel y⟩]⟩ w (FErr w 2) :=
  ga1_bad norm_bad (P := fun e => e = .returned (.tuple ⟨[fZ, .int .i64 2]⟩)) (fun _ _ _ h => by rw [noF_is h]) w x y h hG hT
theorem sq_nonneg (c : Rat) : 0 ≤ c * c := by
  rcases Rat.le_total (a := 0) (b := c) with h | h
  · exact Rat.mul_nonneg h h
  · have h1 : 0 ≤ -c := by grind
    have h2 := Rat.mul_nonneg h1 h1
    grind
theorem zero_bool (q : Rat) : ∃ s : Bool, s = true ↔ q = 0 := ⟨decide (q = 0), decide_eq_true_iff⟩
end Ev
end Go.Proofs.Ytepnghhgmjobjaa
namespace Go.Proofs.Ytepnghhgmjobjaa
open Go Go.RowKit
namespace Ev
set_option maxRecDepth 100000
noncomputable def lawC (A : List As) : Cfg Sy := symCfg (eqHard A)
instance lawHard (A : List As) : HardLoc (lawC A) := ⟨loc_eqHard A⟩
theorem lawFits {ρ : Env} {A : List As} (hA : AllH ρ A) : Fits (symSig ρ) Try.prog (lawC A) where
  hid := rfl
  G := rfl
  len := symLen_ok ρ
  tab := natFits.tab
  mixed := natFits.mixed
  hard := eqHard_ok hA rfl
noncomputable def inp6 (a b c d e f : Bool) : List Sy := inp a 0 ++ (inp b 1 ++ (inp c 2 ++ (inp d 3 ++ (inp e 4 ++ inp f 5))))
noncomputable def eqs (l : List (Qe × Qe)) : List As := l.map fun p => ⟨2, p.1, p.2, true⟩
theorem eqs_hold {ρ : Env} {l : List (Qe × Qe)} (h : ∀ p ∈ l, p.1.ev ρ.q = p.2.ev ρ.q) : AllH ρ (eqs l) := by
  intro x hx
  obtain ⟨p, hp, rfl⟩ := List.mem_map.1 hx
  exact ⟨fun _ => h p hp, fun _ => rfl⟩
noncomputable def yes : D3 Sy := .one (.one (.p (.bool true)))
noncomputable def lx : Qe × Qe := (.v 0, .v 1)
noncomputable def ly : Qe × Qe := (.v 2, .v 3)
noncomputable def lz : Qe × Qe := (.v 4, .v 5)
noncomputable def pr (p : Qe × Qe) (t : Bool) : Ps := ⟨p.1, p.2, t⟩
noncomputable def la : Qe × Qe := kAdd lx ly
noncomputable def lb : Qe × Qe := kAdd ly lx
noncomputable def lq : Qe × Qe := kAdd ly lz
noncomputable def lr : Qe × Qe := kAdd lx lq
noncomputable def ls : Qe × Qe := kMul la lz
noncomputable def lt : Qe × Qe := kMul lx lz
noncomputable def lu : Qe × Qe := kMul ly lz
noncomputable def lk : Qe × Qe := kSub la ly
end Ev
end Go.Proofs.Ytepnghhgmjobjaa
namespace Go.Proofs.Ytepnghhgmjobjaa
open Go Go.RowKit
namespace Ev
set_option maxRecDepth 100000
end Ev
end Go.Proofs.Ytepnghhgmjobjaa
namespace Go.Proofs.Ytepnghhgmjobjaa
open Go Go.RowKit
namespace Ev
structure In6 (x y z u s t : Tri) where
  ρ : Env
  a : Bool
  b : Bool
  c : Bool
  d : Bool
  e : Bool
  f : Bool
  hx : (a = true → x = tri (ρ.q 0)) ∧ (a = false → x = ρ.raw 0)
  hy : (b = true → y = tri (ρ.q 1)) ∧ (b = false → y = ρ.raw 1)
  hz : (c = true → z = tri (ρ.q 2)) ∧ (c = false → z = ρ.raw 2)
  hu : (d = true → u = tri (ρ.q 3)) ∧ (d = false → u = ρ.raw 3)
  hs : (e = true → s = tri (ρ.q 4)) ∧ (e = false → s = ρ.raw 4)
  ht : (f = true → t = tri (ρ.q 5)) ∧ (f = false → t = ρ.raw 5)
theorem In6.holds {x y z u s t : Tri} (i : In6 x y z u s t) (w : World) : HoldsL (symSig i.ρ) w (inp6 i.a i.b i.c i.d i.e i.f) (cel x ++ (cel y ++ (cel z ++ (cel u ++ (cel s ++ cel t))))) :=
  holdsL_append (inp_holds i.hx.1 i.hx.2) (holdsL_append (inp_holds i.hy.1 i.hy.2) (holdsL_append (inp_holds i.hz.1 i.hz.2) (holdsL_append (inp_holds i.hu.1 i.hu.2) (holdsL_append (inp_holds i.hs.1 i.hs.2) (inp_holds i.ht.1 i.ht.2)))))
end Ev
end Go.Proofs.Ytepnghhgmjobjaa
namespace Go.Proofs.Ytepnghhgmjobjaa
open Go Go.RowKit
namespace Ev
set_option maxRecDepth 100000
section
variable {ρ : Env} {A : List As} {B : List Ps} {h h' : Tr (Blk Sy)} {nx nx' : Nat} {R W : List Nat} {r : Ren} {w : World}
noncomputable def errF (n : Int) : Value := .tuple ⟨[fZ, .int .i64 n]⟩
noncomputable def ansF (B : List Ps) (e : Qe) : M Sy Value := match askP B e e with
  | some t => cond t (bind (newFacts (frs e)) fun vs => ret (.tuple ⟨[.agg ⟨vs⟩, .int .i64 0]⟩)) (ret (errF 3))
  | none => fail
theorem loc_ansF (B : List Ps) (e : Qe) : Loc (ansF B e) := by
  unfold ansF
  split
  · exact loc_cond (loc_bind (loc_newFacts _) fun _ => loc_ret _) (loc_ret _)
  · exact loc_fail
theorem ansF_ok (hB : AllP ρ B) {p : Qe} {f : FuncId} {args' : List Value} {v : Value} (e : ansF B p h nx = .ok v h' nx' R W) (hM : Mod (symSig ρ) r h.get w) (hN : New r nx nx') (c : Calls Try.prog f ⟨args'⟩ w (FRes w (p.ev ρ.q))) : GoesS ρ f args' r w nx nx' W h'.get v := by
  unfold ansF at e
  cases ha : askP B p p with
  | none => rw [ha] at e; exact absurd e (by simp [fail])
  | some t =>
    rw [ha] at e
    have hf := askP_ok hB ha
    cases t with
    | true =>
      simp only [cond_true] at e
      exact goes_aggT rfl e hM hN (c.mono fun _ w' hh => by
        obtain ⟨h1 | h1, h2⟩ := hh
        · exact ⟨_, h1.2, frs_holds w' p, h2⟩
        · exact absurd (hf.1 rfl).1 h1.1)
    | false =>
      simp only [cond_false] at e
      exact goes_pl e rfl hM (c.mono fun _ w' hh => by
        obtain ⟨h1 | h1, h2⟩ := hh
        · have := hf.2 ⟨h1.1, h1.1⟩
          cases this
        · exact ⟨h1.2, h2⟩)
noncomputable def nrmS (B : List Ps) (x : Option (Qe × Qe)) : M Sy Value := match x with
  | some x => cond (fitT B x.1 && fitT B x.2) (ansF B (nrm x)) fail
  | none => ret (errF 2)
theorem lsum_norm (hB : AllP ρ B) : SumF (symSig ρ) Try.prog 8 (gop1 (nrmS B)) :=
  gop1_ok (fun x => by
    unfold nrmS
    split
    · exact loc_cond (loc_ansF _ _) loc_fail
    · exact loc_ret _) fun x h nx v h' nx' R W e r w l hx hM hN => by
    have hG := mod_G hM rfl
    have hT : Tab w := hM.base
    unfold nrmS at e
    cases x with
    | none =>
      obtain ⟨x1, x2, hb, rfl⟩ := hx
      exact goes_pl e rfl hM (norm_none w x1 x2 hb hG hT)
    | some x =>
      obtain rfl : l = _ := hx
      obtain ⟨hf, e⟩ := cond_ok e
      simp only [Bool.and_eq_true] at hf
      exact ansF_ok hB e hM hN (norm_any w (fitT_ok hB hf.1) (fitT_ok hB hf.2) hG hT)
end
noncomputable def c0 : Qe := .c false 0 1
noncomputable def np : Qe × Qe := kMul lx ly
noncomputable def nm : Qe := nrm lx
noncomputable def nn : Qe := nrm ly
noncomputable def no : Qe := nrm np
noncomputable def nc : Qe × Qe := (.v 0, .neg (.v 1))
noncomputable def nq : Qe × Qe := kMul lx nc
noncomputable def nb : Qe × Qe := kQuo np ly
end Ev
end Go.Proofs.Ytepnghhgmjobjaa
namespace Go.Proofs.Ytepnghhgmjobjaa
open Go Go.RowKit
namespace Ev
set_option maxRecDepth 100000
theorem cmpQ_sgn (x y : Rat) : Big.cmpQ x y = sgQ (x - y) := by
  unfold Big.cmpQ sgQ
  have hng : Big.ng (x - y) = decide ((x - y).num < 0) := rfl
  have hnu : Big.nu (x - y) = (x - y).num.natAbs := rfl
  rw [hng, hnu]
  have hle : 0 ≤ (x - y).num ↔ y ≤ x := by rw [Rat.num_nonneg]; exact (Rat.le_iff_sub_nonneg y x).symm
  by_cases h1 : x < y
  · have : ¬ y ≤ x := Rat.not_le.2 h1
    have h0 : ¬ 0 ≤ (x - y).num := fun h => this (hle.1 h)
    rw [if_pos h1, if_pos (decide_eq_true (by omega))]
  · have h2 : y ≤ x := Rat.not_lt.1 h1
    have h3 := hle.2 h2
    have h4 : ¬ (decide ((x - y).num < 0) = true) := fun hd => by have := of_decide_eq_true hd; omega
    rw [if_neg h1, if_neg h4]
    by_cases e : x = y
    · subst e
      rw [if_pos rfl, Rat.sub_self]; rfl
    · rw [if_neg e, if_neg]
      intro hz
      have h5 : (x - y).num = 0 := by omega
      have h6 := Rat.num_eq_zero.1 h5
      apply e
      have h7 : x - y + y = x := by rw [Rat.sub_eq_add_neg, Rat.add_assoc, Rat.neg_add_cancel, Rat.add_zero]
      rw [← h7, h6, Rat.zero_add]
end Ev
end Go.Proofs.Ytepnghhgmjobjaa
namespace Go.Proofs.Ytepnghhgmjobjaa
open Go Go.RowKit
namespace Ev
set_option maxRecDepth 100000
theorem tone_run : tells [] [] (call Try.prog natCfg natSums 20 23) = some (.one (.agg [.p (.bool false), .f 1, .f 1])) := by kernel_rfl
theorem tone_any (w : World) (hG : Try.prog.globals.size ≤ w.heap.size) (hT : Tab w) : Calls Try.prog 23 ⟨[]⟩ w (Num1 w 1) := by
  refine (tells_calls natFits natSums_ok tone_run rfl glob_few (us := []) rfl hG hT).mono ?_
  rintro e w' ⟨v, rfl, ⟨vs, rfl, x1, u1, rfl, h1, x2, u2, rfl, h2, x3, u3, rfl, h3, h4⟩, hb⟩
  obtain rfl : u3 = [] := h4
  obtain rfl : x1 = .bool false := h1
  exact ⟨_, rfl, ⟨x2, x3, rfl, h2, h3⟩, hb⟩
noncomputable def uc : Qe := .c false 1 1
theorem uc_ev (q : Nat → Rat) : uc.ev q = 1 := by show mkRat (Big.sI false 1) 1 = 1; rfl
section
variable {ρ : Env} {A : List As}
noncomputable def toneS (args : List Value) : Option (M Sy Value) := match args with
  | [] => some (newNum uc)
  | _ => none
theorem s_tone : SumF (symSig ρ) Try.prog 23 toneS := by
  intro args m e
  unfold toneS at e
  rcases args with _ | ⟨a, l⟩ <;> simp only [reduceCtorEq, Option.some.injEq] at e
  subst e
  refine ⟨loc_newNum _, ?_⟩
  intro h nx v h' nx' R W e r w args' ha hM hN
  cases ha
  refine goes_num e hM hN ?_
  rw [uc_ev]
  exact tone_any w (mod_G hM rfl) hM.base
noncomputable def ncmpK (A : List As) (x y : Qe) : M Sy Value := match signB A (.sub x y) with
  | some z => ret (.int .i64 z)
  | none => fail
theorem s_ncmp (hA : AllH ρ A) : SumF (symSig ρ) Try.prog 33 (fun args => num2 args (ncmpK A)) :=
  num2_ok (fun _ _ => by
    unfold ncmpK
    split
    · exact loc_ret _
    · exact loc_fail) fun x y h nx v h' nx' R W e r w a b ha hb sa sb hk hM hN => by
    unfold ncmpK at e
    cases hz : signB A (.sub x y) with
    | none => rw [hz] at e; cases (show (fail : M Sy Value) _ _ = _ from e)
    | some z =>
      rw [hz] at e
      have hzz := signB_ok hA hz
      have c := exCmp_any w a b _ _ _ ha hb sa sb hk
      rw [cmpQ_sgn] at c
      rw [show sgQ (x.ev ρ.q - y.ev ρ.q) = z from hzz.symm] at c
      exact goes_pl (show (ret (.int .i64 z) : M Sy Value) _ _ = .ok v h' nx' _ _ from e) rfl hM c
noncomputable def tuList (A : List As) : List (Nat × (List Value → Option (M Sy Value))) := [
  (23, toneS), (33, fun args => num2 args (ncmpK A))]
noncomputable def tuSums (A : List As) : Sums Sy := sumsOf (mkTab (tuList A ++ symList A))
theorem tuSums_ok (hA : AllH ρ A) : SumOK (symSig ρ) Try.prog (tuSums A) := sumsOf_ok fun x hx => by
  rcases List.mem_append.1 hx with hx | hx
  · simp only [tuList, List.mem_cons, List.not_mem_nil, or_false] at hx
    rcases hx with rfl | rfl
    · exact s_tone
    · exact s_ncmp hA
  · exact symList_ok hA x hx
end
noncomputable def uQ (t : Qe) : Qe × Qe := kQuo (uc, t) (uc, .neg t)
noncomputable def uR (t : Qe) : Qe × Qe := (.quo (.sub uc (.mul t t)) (.add uc (.mul t t)), .quo (.add t t) (.add uc (.mul t t)))
noncomputable def okT (e : Qe) : D3 Sy := .tuple [.agg (seen e), .one (.p (.bool true)), .one (.p (.int .i64 0))]
noncomputable def noT (n : Int) : D3 Sy := .tuple [.agg (zero3.map .p), .one (.p (.bool false)), .one (.p (.int .i64 n))]
noncomputable def ovD (d s : Bool) (e : Qe) : D3 Sy := cond d (noT 0) (cond s (okT e) (noT 3))
noncomputable def ovT (x y : Qe) (d g s : Bool) : List As := [⟨1, y, z0, d⟩, ⟨3, y, z0, g⟩, ⟨0, .quo x y, z0, s⟩]
noncomputable def uT (s t : Bool) : List As := fits (uQ v0).1 (uQ v0).2 s t ++ [⟨1, nrm (uc, .neg v0), z0, false⟩]
noncomputable def tHT (c g d g2 s : Bool) : List As := [⟨1, .sub (nrm w0) uc, z0, c⟩, ⟨3, .sub (nrm w0) uc, z0, g⟩] ++ ovT v1 (.add uc v0) d g2 s
noncomputable def sT (d g s : Bool) : List As := ovT (.add v0 v1) (.sub uc (.mul v0 v1)) d g s
noncomputable def runU (S : Sums Sy) (f : FuncId) (ls : List Lay) (fs : List Sy) : Option (D3 Sy) := tells fs ls (call Try.prog symC S 60 f)
theorem tunit_run (s t : Bool) : runU (tuSums (uT s t)) 7 [.agg 3] (inp true 0) = some (andD s t (uQ v0).1 (uQ v0).2) := by
  cases s <;> cases t <;> kernel_rfl
theorem tunit_bad : runU (tuSums []) 7 [.agg 3] (inp false 0) = some (noD 2) := by kernel_rfl
theorem thalf_run (c g d g2 s : Bool) : runU (tuSums (tHT c g d g2 s)) 10 [.agg 6] (inp true 0 ++ inp true 1) = some (cond c (ovD d s (.quo v1 (.add uc v0))) (noT 2)) := by
  cases c <;> cases g <;> cases d <;> cases g2 <;> cases s <;> kernel_rfl
theorem thalf_bad : ∀ a b : Bool, (a && b) = false → runU (tuSums []) 10 [.agg 6] (inp a 0 ++ inp b 1) = some (noT 2) := by
  intro a b
  cases a <;> cases b <;> intro h <;> first | (cases h; done) | kernel_rfl
theorem tsum_run (d g s : Bool) : runU (tuSums (sT d g s)) 12 [.agg 3, .agg 3] (inp true 0 ++ inp true 1) = some (ovD d s (.quo (.add v0 v1) (.sub uc (.mul v0 v1)))) := by
  cases d <;> cases g <;> cases s <;> kernel_rfl
theorem tsum_bad : ∀ a b : Bool, (a && b) = false → runU (tuSums []) 12 [.agg 3, .agg 3] (inp a 0 ++ inp b 1) = some (noT 2) := by
  intro a b
  cases a <;> cases b <;> intro h <;> first | (cases h; done) | kernel_rfl
def okV (q : Rat) : Value := .tuple ⟨[fV q, .bool true, .int .i64 0]⟩
noncomputable def noV (n : Int) : Value := .tuple ⟨[fZ, .bool false, .int .i64 n]⟩
open Classical in
noncomputable def overV (x y : Rat) : Value := if y = 0 then noV 0 else if Fit (x / y) then okV (x / y) else noV 3
open Classical in
noncomputable def halfV (x y : Rat) : Value := if x * x + y * y = 1 then overV y (1 + x) else noV 2
def RetV (w : World) (v : Value) (e : Ending) (w' : World) : Prop := e = .returned v ∧ Below w.heap.size w w'
section
variable {ρ : Env} {w : World} {v : Value}
theorem okT_is {e : Qe} (h : (okT e).is (symSig ρ) w v) : v = okV (e.ev ρ.q) := by
  obtain ⟨vs, rfl, x1, u1, rfl, ⟨x, rfl, hx⟩, x2, u2, rfl, h2, x3, u3, rfl, h3, h4⟩ := h
  have hx' : D1.all (symSig ρ) w (seen e ++ []) x := by simpa using hx
  obtain ⟨us, rfl, hz⟩ := seen_is hx'
  obtain rfl : us = [] := hz
  obtain rfl : u3 = [] := h4
  rw [show x2 = .bool true from h2, show x3 = .int .i64 0 from h3, List.append_nil]
  rfl
theorem noT_is {n : Int} (h : (noT n).is (symSig ρ) w v) : v = noV n := by
  obtain ⟨vs, rfl, x1, u1, rfl, ⟨x, rfl, hx⟩, x2, u2, rfl, h2, x3, u3, rfl, h3, h4⟩ := h
  obtain rfl : u3 = [] := h4
  rw [all_p hx, show x2 = .bool false from h2, show x3 = .int .i64 n from h3]
  rfl
theorem ovD_is {d s : Bool} {x y : Qe} (hd : d = true ↔ y.ev ρ.q = 0) (hs : s = true ↔ Fit (x.ev ρ.q / y.ev ρ.q)) (h : (ovD d s (.quo x y)).is (symSig ρ) w v) : v = overV (x.ev ρ.q) (y.ev ρ.q) := by
  unfold ovD at h
  unfold overV
  cases d with
  | true => rw [if_pos (hd.1 rfl)]; exact noT_is h
  | false =>
    rw [if_neg fun h0 => by have := hd.2 h0; cases this]
    cases s with
    | true => rw [if_pos (hs.1 rfl)]; exact okT_is h
    | false => rw [if_neg fun h0 => by have := hs.2 h0; cases this]; exact noT_is h
theorem sub_zero_iff {p q : Rat} : p - q = 0 ↔ p = q := by
  constructor
  · intro h
    have : p = (p - q) + q := by grind
    rw [this, h, Rat.zero_add]
  · intro h
    rw [h, Rat.sub_self]
theorem ovT_hold {x y : Qe} {d g s : Bool} (hd : d = true ↔ y.ev ρ.q = 0) (hg : g = Big.ng (y.ev ρ.q)) (hs : s = true ↔ Fit (x.ev ρ.q / y.ev ρ.q)) : AllH ρ (ovT x y d g s) := fun z hz => by
  simp only [ovT, List.mem_cons, List.not_mem_nil, or_false] at hz
  rcases hz with rfl | rfl | rfl
  · exact hd
  · exact hg
  · exact hs
end
section
variable {f : FuncId} {w : World} {S : List As → Sums Sy}
theorem u_unit (hS : ∀ (ρ : Env) (A : List As), AllH ρ A → SumOK (symSig ρ) Try.prog (S A)) {e1 e2 : Qe} {T : Bool → Bool → List As} (run : ∀ s t, runU (S (T s t)) f [.agg 3] (inp true 0) = some (andD s t e1 e2)) {t : Rat} (ht : Fit t)
    (hA : ∀ s u, (s = true ↔ Fit (e1.ev (pick t 0 0 0))) → (u = true ↔ Fit (e2.ev (pick t 0 0 0))) → AllH (envOf t 0 0 0 ht fit_zero fit_zero fit_zero) (T s u)) (hG : Try.prog.globals.size ≤ w.heap.size) (hT : Tab w) :
    Calls Try.prog f ⟨[fV t]⟩ w (GRes w (e1.ev (pick t 0 0 0)) (e2.ev (pick t 0 0 0))) := by
  obtain ⟨s, hs⟩ := fit_bool (e1.ev (pick t 0 0 0))
  obtain ⟨u, hu⟩ := fit_bool (e2.ev (pick t 0 0 0))
  have hh : HoldsL (symSig (envOf t 0 0 0 ht fit_zero fit_zero fit_zero)) w (inp true 0) (cel (tri t)) := inp_holds (fun _ => rfl) (fun h => (by cases h))
  refine (tells_calls (symFits _) (hS _ _ (hA s u hs hu)) (run s u) rfl glob_few hh hG hT).mono ?_
  rintro e w' ⟨v', rfl, hv, hb'⟩
  refine ⟨?_, hb'⟩
  unfold andD at hv
  cases s with
  | true => cases u with
    | true => exact .inl ⟨⟨hs.1 rfl, hu.1 rfl⟩, by rw [okD_is hv]; rfl⟩
    | false => exact .inr ⟨fun h => (by have := hu.2 h.2; cases this), by rw [noD_is hv]⟩
  | false => exact .inr ⟨fun h => (by have := hs.2 h.1; cases this), by rw [noD_is hv]⟩
theorem u_bad1 (hS : ∀ (ρ : Env) (A : List As), AllH ρ A → SumOK (symSig ρ) Try.prog (S A)) (run : runU (S []) f [.agg 3] (inp false 0) = some (noD 2)) (x : Tri) (h : BadF x) (hG : Try.prog.globals.size ≤ w.heap.size) (hT : Tab w) :
    Calls Try.prog f ⟨[.agg ⟨cel x⟩]⟩ w (GErr w 2) := by
  obtain ⟨i, -⟩ := in4 x x x x
  have hA : AllH i.ρ [] := fun _ h => (by cases h)
  have ha : i.a = false := by
    cases ha : i.a with
    | false => rfl
    | true => rw [i.hx.1 ha] at h; exact absurd h (not_bad ((i.ρ.fit _ (by decide))))
  have hh := inp_holds (w := w) i.hx.1 i.hx.2
  rw [ha] at hh
  refine (tells_calls (symFits _) (hS _ _ hA) run rfl glob_few hh hG hT).mono ?_
  rintro e w' ⟨v', rfl, hv, hb'⟩
  exact ⟨by rw [noD_is hv], hb'⟩
theorem u_half (hS : ∀ (ρ : Env) (A : List As), AllH ρ A → SumOK (symSig ρ) Try.prog (S A)) (run : ∀ c g d g2 s, runU (S (tHT c g d g2 s)) f [.agg 6] (inp true 0 ++ inp true 1) = some (cond c (ovD d s (.quo v1 (.add uc v0))) (noT 2))) {x y : Rat} (hx : Fit x) (hy : Fit y) (hG : Try.prog.globals.size ≤ w.heap.size) (hT : Tab w) :
    Calls Try.prog f ⟨[gV x y]⟩ w (RetV w (halfV x y)) := by
  obtain ⟨c, hc⟩ := zero_bool (x * x + y * y - 1)
  obtain ⟨d, hd⟩ := zero_bool (1 + x)
  obtain ⟨s, hs⟩ := fit_bool (y / (1 + x))
  have hA : AllH (envOf x y 0 0 hx hy fit_zero fit_zero) (tHT c (Big.ng (x * x + y * y - 1)) d (Big.ng (1 + x)) s) := fun z hz => by
    rcases List.mem_append.1 hz with hz | hz
    · simp only [List.mem_cons, List.not_mem_nil, or_false] at hz
      rcases hz with rfl | rfl
      · exact hc
      · exact (rfl : Big.ng (x * x + y * y - 1) = _)
    · exact ovT_hold (ρ := envOf x y 0 0 hx hy fit_zero fit_zero) (x := v1) (y := .add uc v0) hd rfl hs z hz
  refine (tells_calls (symFits _) (hS _ _ hA) (run c _ d _ s) rfl glob_few (in2_holds hx hy 0 0 fit_zero fit_zero w) hG hT).mono ?_
  rintro e w' ⟨v', rfl, hv, hb'⟩
  refine ⟨?_, hb'⟩
  unfold halfV
  cases c with
  | true =>
    rw [if_pos (sub_zero_iff.1 (hc.1 rfl))]
    have := ovD_is (ρ := envOf x y 0 0 hx hy fit_zero fit_zero) (x := v1) (y := .add uc v0) hd hs hv
    rw [this]; rfl
  | false =>
    rw [if_neg fun h0 => by have := hc.2 (sub_zero_iff.2 h0); cases this]
    rw [noT_is hv]
theorem u_badN (hS : ∀ (ρ : Env) (A : List As), AllH ρ A → SumOK (symSig ρ) Try.prog (S A)) {ls : List Lay} (hl : plainLay ls = true) (run : ∀ a b : Bool, (a && b) = false → runU (S []) f ls (inp a 0 ++ inp b 1) = some (noT 2)) (x y : Tri) (h : BadF x ∨ BadF y) (hG : Try.prog.globals.size ≤ w.heap.size) (hT : Tab w) :
    Calls Try.prog f ⟨split ls (cel x ++ cel y)⟩ w (RetV w (noV 2)) := by
  obtain ⟨i, -⟩ := in4 x y x y
  have hA : AllH i.ρ [] := fun _ h => (by cases h)
  have hb : (i.a && i.b) = false := by
    cases ha : i.a with
    | false => rfl
    | true => cases hb : i.b with
      | false => rfl
      | true =>
        rcases h with h | h
        · rw [i.hx.1 ha] at h; exact absurd h (not_bad ((i.ρ.fit _ (by decide))))
        · rw [i.hy.1 hb] at h; exact absurd h (not_bad ((i.ρ.fit _ (by decide))))
  refine (tells_calls (symFits _) (hS _ _ hA) (run _ _ hb) hl glob_few (holdsL_append (inp_holds (w := w) i.hx.1 i.hx.2) (inp_holds i.hy.1 i.hy.2)) hG hT).mono ?_
  rintro e w' ⟨v', rfl, hv, hb'⟩
  exact ⟨by rw [noT_is hv], hb'⟩
theorem u_sum (hS : ∀ (ρ : Env) (A : List As), AllH ρ A → SumOK (symSig ρ) Try.prog (S A)) (run : ∀ d g s, runU (S (sT d g s)) f [.agg 3, .agg 3] (inp true 0 ++ inp true 1) = some (ovD d s (.quo (.add v0 v1) (.sub uc (.mul v0 v1))))) {x y : Rat} (hx : Fit x) (hy : Fit y) (hG : Try.prog.globals.size ≤ w.heap.size) (hT : Tab w) :
    Calls Try.prog f ⟨[fV x, fV y]⟩ w (RetV w (overV (x + y) (1 - x * y))) := by
  obtain ⟨d, hd⟩ := zero_bool (1 - x * y)
  obtain ⟨s, hs⟩ := fit_bool ((x + y) / (1 - x * y))
  have hA : AllH (envOf x y 0 0 hx hy fit_zero fit_zero) (sT d (Big.ng (1 - x * y)) s) :=
    ovT_hold (ρ := envOf x y 0 0 hx hy fit_zero fit_zero) (x := .add v0 v1) (y := .sub uc (.mul v0 v1)) hd rfl hs
  refine (tells_calls (symFits _) (hS _ _ hA) (run d _ s) rfl glob_few (in2_holds hx hy 0 0 fit_zero fit_zero w) hG hT).mono ?_
  rintro e w' ⟨v', rfl, hv, hb'⟩
  refine ⟨?_, hb'⟩
  have := ovD_is (ρ := envOf x y 0 0 hx hy fit_zero fit_zero) (x := .add v0 v1) (y := .sub uc (.mul v0 v1)) hd hs hv
  rw [this]; rfl
end
section
variable {w : World}
theorem one_sq (t : Rat) : ¬ 1 + t * t = 0 := fun h => by
  have h1 := sq_nonneg t
  have h2 : (0 : Rat) ≤ 1 := by decide
  have : (1 : Rat) = 0 := by grind
  exact absurd this (by decide)
theorem uQ_1 (t : Rat) : (1 * 1 - t * -(-t)) / (1 * 1 + -t * -t) = (1 - t * t) / (1 + t * t) := by
  have e1 : 1 * 1 - t * -(-t) = 1 - t * t := by grind
  have e2 : 1 * 1 + -t * -t = 1 + t * t := by grind
  rw [e1, e2]
theorem uQ_2 (t : Rat) : (1 * -(-t) + t * 1) / (1 * 1 + -t * -t) = (t + t) / (1 + t * t) := by
  have e1 : 1 * -(-t) + t * 1 = t + t := by grind
  have e2 : 1 * 1 + -t * -t = 1 + t * t := by grind
  rw [e1, e2]
theorem tunit_any {t : Rat} (ht : Fit t) (hG : Try.prog.globals.size ≤ w.heap.size) (hT : Tab w) : Calls Try.prog 7 ⟨[fV t]⟩ w (GRes w ((1 - t * t) / (1 + t * t)) ((t + t) / (1 + t * t))) := by
  have h := u_unit (S := tuSums) (w := w) (fun _ _ h => tuSums_ok h) tunit_run ht (fun s u hs hu z hz => by
    rcases List.mem_append.1 hz with hz | hz
    · exact fits_hold (ρ := envOf t 0 0 0 ht fit_zero fit_zero fit_zero) (e := (uQ v0).1) (f := (uQ v0).2) hs hu z hz
    · simp only [List.mem_cons, List.not_mem_nil, or_false] at hz
      subst hz
      exact ⟨fun h => (by cases h), fun h => absurd (show 1 + t * t = 0 by
        have h2 : (1 : Rat) * 1 + -t * -t = 0 := h
        rw [← h2]; grind) (one_sq t)⟩) hG hT
  have e1 : (uQ v0).1.ev (pick t 0 0 0) = (1 - t * t) / (1 + t * t) := uQ_1 t
  have e2 : (uQ v0).2.ev (pick t 0 0 0) = (t + t) / (1 + t * t) := uQ_2 t
  rw [e1, e2] at h
  exact h
theorem tunit_none (x : Tri) (h : BadF x) (hG : Try.prog.globals.size ≤ w.heap.size) (hT : Tab w) : Calls Try.prog 7 ⟨[.agg ⟨cel x⟩]⟩ w (GErr w 2) :=
  u_bad1 (S := tuSums) (fun _ _ h => tuSums_ok h) tunit_bad x h hG hT
theorem thalf_any {x y : Rat} (hx : Fit x) (hy : Fit y) (hG : Try.prog.globals.size ≤ w.heap.size) (hT : Tab w) : Calls Try.prog 10 ⟨[gV x y]⟩ w (RetV w (halfV x y)) :=
  u_half (S := tuSums) (fun _ _ h => tuSums_ok h) thalf_run hx hy hG hT
theorem thalf_none (x y : Tri) (h : BadF x ∨ BadF y) (hG : Try.prog.globals.size ≤ w.heap.size) (hT : Tab w) : Calls Try.prog 10 ⟨[.agg ⟨cel x ++ cel y⟩]⟩ w (RetV w (noV 2)) :=
  u_badN (S := tuSums) (fun _ _ h => tuSums_ok h) (ls := [.agg 6]) rfl thalf_bad x y h hG hT
theorem tsum_any {x y : Rat} (hx : Fit x) (hy : Fit y) (hG : Try.prog.globals.size ≤ w.heap.size) (hT : Tab w) : Calls Try.prog 12 ⟨[fV x, fV y]⟩ w (RetV w (overV (x + y) (1 - x * y))) :=
  u_sum (S := tuSums) (fun _ _ h => tuSums_ok h) tsum_run hx hy hG hT
theorem tsum_none (x y : Tri) (h : BadF x ∨ BadF y) (hG : Try.prog.globals.size ≤ w.heap.size) (hT : Tab w) : Calls Try.prog 12 ⟨[.agg ⟨cel x⟩, .agg ⟨cel y⟩]⟩ w (RetV w (noV 2)) :=
  u_badN (S := tuSums) (fun _ _ h => tuSums_ok h) (ls := [.agg 3, .agg 3]) rfl tsum_bad x y h hG hT
end
end Ev
end Go.Proofs.Ytepnghhgmjobjaa
namespace Go.Proofs.Ytepnghhgmjobjaa
open Go Go.RowKit
namespace Ev
set_option maxRecDepth 100000
theorem goes_aggT2 {F : Type} {S : Sig F} {P : Program} {l : List F} {f : FuncId} {args' : List Value} {h h' : Tr (Blk F)} {nx nx' : Nat} {R W : List Nat} {r : Ren} {w : World} {v u u2 : Value} (hp : plain u = true) (hp2 : plain u2 = true)
    (e : (bind (newFacts l) fun vs => ret (.tuple ⟨[.agg ⟨vs⟩, u, u2]⟩) : M F Value) h nx = .ok v h' nx' R W) (hM : Mod S r h.get w) (hN : New r nx nx') (c : Calls P f ⟨args'⟩ w fun e w' => ∃ us, e = .returned (.tuple ⟨[.agg ⟨us⟩, u, u2]⟩) ∧ HoldsL S w' l us ∧ Below w.heap.size w w') :
    Calls P f ⟨args'⟩ w fun e w' => ∃ v' r', e = .returned v' ∧ VR r' v v' ∧ Ext S r w nx nx' W h'.get r' w' := by
  obtain ⟨vs, h1, nx1, R1, W1, R2, W2, e1, e2, rfl, rfl⟩ := bind_ok e
  obtain ⟨rfl, rfl, rfl, rfl⟩ := ret_ok e2
  refine c.mono ?_
  rintro en w' ⟨us, rfl, hu, hb⟩
  have hX := ext_below hM hb nx
  obtain ⟨hle, r', hY, hv⟩ := newFacts_ok l e1 hX.mod hN hu
  exact ⟨_, r', rfl, .tuple (.cons (.agg hv) (.cons (.same hp) (.cons (.same hp2) .nil))), by simpa using hX.trans hY (Nat.le_refl _) hle⟩
section
variable {ρ : Env} {A : List As} {B : List Ps} {h h' : Tr (Blk Sy)} {nx nx' : Nat} {R W : List Nat} {r : Ren} {w : World}
noncomputable def frc1 (g : Option Qe → M Sy Value) (args : List Value) : Option (M Sy Value) := match args with
  | [a] => match a with
    | .agg cs => some (bind (frcV cs.toList) fun x => g x)
    | _ => none
  | _ => none
theorem frc1_ok {f : FuncId} {g : Option Qe → M Sy Value} (hl : ∀ x, Loc (g x))
    (hk : ∀ x (h : Tr (Blk Sy)) nx v h' nx' R W, g x h nx = .ok v h' nx' R W → ∀ r w l, FrcIs ρ l x → Mod (symSig ρ) r h.get w → New r nx nx' → GoesS ρ f [.agg ⟨l⟩] r w nx nx' W h'.get v) :
    SumF (symSig ρ) Try.prog f (frc1 g) := by
  intro args m e
  unfold frc1 at e
  rcases args with _ | ⟨a, _ | ⟨c, l⟩⟩ <;> simp only [reduceCtorEq] at e
  cases a <;> simp only [reduceCtorEq, Option.some.injEq] at e
  rename_i cs
  subst e
  refine ⟨loc_bind (loc_frcV _) fun x => hl x, ?_⟩
  intro h nx v h' nx' R W e r w args' ha hM hN
  cases ha with
  | cons ha1 ha2 =>
    cases ha2
    obtain ⟨cl⟩ := cs
    obtain ⟨cl', rfl, hc⟩ := vr_agg ha1
    obtain ⟨x, h1, nx1, R1, W1, R2, W2, e1, e2, rfl, rfl⟩ := bind_ok e
    obtain ⟨rfl, rfl, rfl, hx⟩ := frcV_ok e1 hc hM
    simpa [GoesS] using hk x _ _ _ _ _ _ _ e2 r w _ hx hM hN
noncomputable def frc2 (g : Option Qe → Option Qe → M Sy Value) (args : List Value) : Option (M Sy Value) := match args with
  | [a, b] => match a with
    | .agg cs => match b with
      | .agg ds => some (bind (frcV cs.toList) fun x => bind (frcV ds.toList) fun y => g x y)
      | _ => none
    | _ => none
  | _ => none
theorem frc2_ok {f : FuncId} {g : Option Qe → Option Qe → M Sy Value} (hl : ∀ x y, Loc (g x y))
    (hk : ∀ x y (h : Tr (Blk Sy)) nx v h' nx' R W, g x y h nx = .ok v h' nx' R W → ∀ r w l m, FrcIs ρ l x → FrcIs ρ m y → Mod (symSig ρ) r h.get w → New r nx nx' → GoesS ρ f [.agg ⟨l⟩, .agg ⟨m⟩] r w nx nx' W h'.get v) :
    SumF (symSig ρ) Try.prog f (frc2 g) := by
  intro args m e
  unfold frc2 at e
  rcases args with _ | ⟨a, _ | ⟨b, _ | ⟨c, l⟩⟩⟩ <;> simp only [reduceCtorEq] at e
  cases a <;> simp only [reduceCtorEq] at e
  rename_i cs
  cases b <;> simp only [reduceCtorEq, Option.some.injEq] at e
  rename_i ds
  subst e
  refine ⟨loc_bind (loc_frcV _) fun x => loc_bind (loc_frcV _) fun y => hl x y, ?_⟩
  intro h nx v h' nx' R W e r w args' ha hM hN
  cases ha with
  | cons ha1 ha2 =>
    cases ha2 with
    | cons hb1 hb2 =>
      cases hb2
      obtain ⟨cl⟩ := cs
      obtain ⟨dl⟩ := ds
      obtain ⟨cl', rfl, hc⟩ := vr_agg ha1
      obtain ⟨dl', rfl, hd⟩ := vr_agg hb1
      obtain ⟨x, h1, nx1, R1, W1, R2, W2, e1, e2, rfl, rfl⟩ := bind_ok e
      obtain ⟨rfl, rfl, rfl, hx⟩ := frcV_ok e1 hc hM
      obtain ⟨y, h2, nx2, R3, W3, R4, W4, e3, e4, rfl, rfl⟩ := bind_ok e2
      obtain ⟨rfl, rfl, rfl, hy⟩ := frcV_ok e3 hd hM
      simpa [GoesS] using hk x y _ _ _ _ _ _ _ e4 r w _ _ hx hy hM hN
noncomputable def ansT (B : List Ps) (e : Qe) : M Sy Value := match askP B e e with
  | some t => cond t (bind (newFacts (frs e)) fun vs => ret (.tuple ⟨[.agg ⟨vs⟩, .bool true, .int .i64 0]⟩)) (ret (noV 3))
  | none => fail
noncomputable def overS (A : List As) (B : List Ps) (x y : Qe) : M Sy Value := match noughtB A y with
  | some d => cond d (ret (noV 0)) (ansT B (.quo x y))
  | none => fail
theorem loc_ansT (B : List Ps) (e : Qe) : Loc (ansT B e) := by
  unfold ansT
  split
  · exact loc_cond (loc_bind (loc_newFacts _) fun _ => loc_ret _) (loc_ret _)
  · exact loc_fail
theorem loc_overS (A : List As) (B : List Ps) (x y : Qe) : Loc (overS A B x y) := by
  unfold overS
  split
  · exact loc_cond (loc_ret _) (loc_ansT _ _)
  · exact loc_fail
theorem overS_ok (hA : AllH ρ A) (hB : AllP ρ B) {x y : Qe} {f : FuncId} {args' : List Value} {v : Value} (e : overS A B x y h nx = .ok v h' nx' R W) (hM : Mod (symSig ρ) r h.get w) (hN : New r nx nx') (c : Calls Try.prog f ⟨args'⟩ w (RetV w (overV (x.ev ρ.q) (y.ev ρ.q)))) : GoesS ρ f args' r w nx nx' W h'.get v := by
  unfold overS at e
  cases hn : noughtB A y with
  | none => rw [hn] at e; exact absurd e (by simp [fail])
  | some d =>
    rw [hn] at e
    have hd := noughtB_ok hA hn
    unfold overV at c
    cases d with
    | true =>
      rw [if_pos (hd.1 rfl)] at c
      exact goes_pl e rfl hM c
    | false =>
      rw [if_neg fun h0 => by have := hd.2 h0; cases this] at c
      simp only [cond_false] at e
      unfold ansT at e
      cases ha : askP B (.quo x y) (.quo x y) with
      | none => rw [ha] at e; exact absurd e (by simp [fail])
      | some t =>
        rw [ha] at e
        have hf := askP_ok hB ha
        cases t with
        | true =>
          have hff : Fit (x.ev ρ.q / y.ev ρ.q) := (hf.1 rfl).1
          rw [if_pos hff] at c
          simp only [cond_true] at e
          exact goes_aggT2 rfl rfl e hM hN (c.mono fun _ w' hh => ⟨_, hh.1, frs_holds w' (.quo x y), hh.2⟩)
        | false =>
          have hff : ¬ Fit (x.ev ρ.q / y.ev ρ.q) := fun h0 => by have := hf.2 ⟨h0, h0⟩; cases this
          rw [if_neg hff] at c
          exact goes_pl e rfl hM c
noncomputable def unitS (B : List Ps) (o : Option Qe) : M Sy Value := match o with
  | some t => cond (fitT B t) (ansG B (uR t)) fail
  | none => ret (errG 2)
noncomputable def halfS (A : List As) (B : List Ps) (o : Option (Qe × Qe)) : M Sy Value := match o with
  | some z => cond (fitT B z.1 && fitT B z.2) (match ask A 2 (nrm z) uc with
    | some c => cond c (overS A B z.2 (.add uc z.1)) (ret (noV 2))
    | none => fail) fail
  | none => ret (noV 2)
noncomputable def sumS (A : List As) (B : List Ps) (o p : Option Qe) : M Sy Value := match o with
  | some s => match p with
    | some t => cond (fitT B s && fitT B t) (overS A B (.add s t) (.sub uc (.mul s t))) fail
    | none => ret (noV 2)
  | none => ret (noV 2)
theorem loc_unitS (o : Option Qe) : Loc (unitS B o) := by
  unfold unitS
  split
  · exact loc_cond (loc_ansG _ _) loc_fail
  · exact loc_ret _
theorem loc_halfS (o : Option (Qe × Qe)) : Loc (halfS A B o) := by
  unfold halfS
  split
  · refine loc_cond ?_ loc_fail
    split
    · exact loc_cond (loc_overS _ _ _ _) (loc_ret _)
    · exact loc_fail
  · exact loc_ret _
theorem loc_sumS (o p : Option Qe) : Loc (sumS A B o p) := by
  unfold sumS
  (repeat' split) <;> first | exact loc_ret _ | exact loc_cond (loc_overS _ _ _ _) loc_fail
theorem s_unit (hB : AllP ρ B) {f : FuncId}
    (hok : ∀ (w : World) (t : Rat), Fit t → Try.prog.globals.size ≤ w.heap.size → Tab w → Calls Try.prog f ⟨[fV t]⟩ w (GRes w ((1 - t * t) / (1 + t * t)) ((t + t) / (1 + t * t))))
    (hbad : ∀ (w : World) (x : Tri), BadF x → Try.prog.globals.size ≤ w.heap.size → Tab w → Calls Try.prog f ⟨[.agg ⟨cel x⟩]⟩ w (GErr w 2)) : SumF (symSig ρ) Try.prog f (frc1 (unitS B)) :=
  frc1_ok (fun x => loc_unitS x) fun x h nx v h' nx' R W e r w l hx hM hN => by
    have hG := mod_G hM rfl
    have hT : Tab w := hM.base
    unfold unitS at e
    cases x with
    | none =>
      obtain ⟨x1, hb, rfl⟩ := hx
      exact goes_pl e rfl hM (hbad w x1 hb hG hT)
    | some t =>
      obtain rfl : l = _ := hx
      obtain ⟨hf, e⟩ := cond_ok e
      have c := hok w (t.ev ρ.q) (fitT_ok hB hf) hG hT
      refine ansG_ok hB e hM hN ?_
      have e1 : (uR t).1.ev ρ.q = (1 - t.ev ρ.q * t.ev ρ.q) / (1 + t.ev ρ.q * t.ev ρ.q) := by
        show (uc.ev ρ.q - _) / (uc.ev ρ.q + _) = _
        rw [uc_ev]; rfl
      have e2 : (uR t).2.ev ρ.q = (t.ev ρ.q + t.ev ρ.q) / (1 + t.ev ρ.q * t.ev ρ.q) := by
        show _ / (uc.ev ρ.q + _) = _
        rw [uc_ev]; rfl
      rw [e1, e2]
      exact c
theorem s_half (hA : AllH ρ A) (hB : AllP ρ B) {f : FuncId}
    (hok : ∀ (w : World) (x y : Rat), Fit x → Fit y → Try.prog.globals.size ≤ w.heap.size → Tab w → Calls Try.prog f ⟨[gV x y]⟩ w (RetV w (halfV x y)))
    (hbad : ∀ (w : World) (x y : Tri), (BadF x ∨ BadF y) → Try.prog.globals.size ≤ w.heap.size → Tab w → Calls Try.prog f ⟨[.agg ⟨cel x ++ cel y⟩]⟩ w (RetV w (noV 2))) : SumF (symSig ρ) Try.prog f (gop1 (halfS A B)) :=
  gop1_ok (fun x => loc_halfS x) fun x h nx v h' nx' R W e r w l hx hM hN => by
    have hG := mod_G hM rfl
    have hT : Tab w := hM.base
    unfold halfS at e
    cases x with
    | none =>
      obtain ⟨x1, x2, hb, rfl⟩ := hx
      exact goes_pl e rfl hM (hbad w x1 x2 hb hG hT)
    | some z =>
      obtain rfl : l = _ := hx
      obtain ⟨hf, e⟩ := cond_ok e
      simp only [Bool.and_eq_true] at hf
      have c := hok w (z.1.ev ρ.q) (z.2.ev ρ.q) (fitT_ok hB hf.1) (fitT_ok hB hf.2) hG hT
      unfold halfV at c
      cases ha : ask A 2 (nrm z) uc with
      | none => rw [ha] at e; exact absurd e (by simp [fail])
      | some cb =>
        rw [ha] at e
        have hc := ask_same hA ha
        rw [uc_ev] at hc
        have hc' : cb = true ↔ z.1.ev ρ.q * z.1.ev ρ.q + z.2.ev ρ.q * z.2.ev ρ.q = 1 := hc
        cases cb with
        | true =>
          rw [if_pos (hc'.1 rfl)] at c
          have e1 : (Qe.add uc z.1).ev ρ.q = 1 + z.1.ev ρ.q := by
            show uc.ev ρ.q + _ = _
            rw [uc_ev]
          rw [← e1] at c
          exact overS_ok hA hB e hM hN c
        | false =>
          rw [if_neg fun h0 => by have := hc'.2 h0; cases this] at c
          exact goes_pl e rfl hM c
theorem s_sum (hA : AllH ρ A) (hB : AllP ρ B) {f : FuncId}
    (hok : ∀ (w : World) (x y : Rat), Fit x → Fit y → Try.prog.globals.size ≤ w.heap.size → Tab w → Calls Try.prog f ⟨[fV x, fV y]⟩ w (RetV w (overV (x + y) (1 - x * y))))
    (hbad : ∀ (w : World) (x y : Tri), (BadF x ∨ BadF y) → Try.prog.globals.size ≤ w.heap.size → Tab w → Calls Try.prog f ⟨[.agg ⟨cel x⟩, .agg ⟨cel y⟩]⟩ w (RetV w (noV 2))) : SumF (symSig ρ) Try.prog f (frc2 (sumS A B)) :=
  frc2_ok (fun x y => loc_sumS x y) fun x y h nx v h' nx' R W e r w l m hx hy hM hN => by
    have hG := mod_G hM rfl
    have hT : Tab w := hM.base
    have hx' : ∃ x1 : Tri, l = cel x1 ∧ (x = none → BadF x1) := by
      cases x with
      | none => obtain ⟨x1, hb, rfl⟩ := hx; exact ⟨x1, rfl, fun _ => hb⟩
      | some s => exact ⟨tri (s.ev ρ.q), hx, fun h => by cases h⟩
    have hy' : ∃ y1 : Tri, m = cel y1 ∧ (y = none → BadF y1) := by
      cases y with
      | none => obtain ⟨x1, hb, rfl⟩ := hy; exact ⟨x1, rfl, fun _ => hb⟩
      | some s => exact ⟨tri (s.ev ρ.q), hy, fun h => by cases h⟩
    obtain ⟨x1, l1, bx⟩ := hx'
    obtain ⟨y1, m1, by1⟩ := hy'
    unfold sumS at e
    cases x with
    | none =>
      rw [l1, m1]
      exact goes_pl e rfl hM (hbad w x1 y1 (.inl (bx rfl)) hG hT)
    | some s =>
      cases y with
      | none =>
        rw [l1, m1]
        exact goes_pl e rfl hM (hbad w x1 y1 (.inr (by1 rfl)) hG hT)
      | some t =>
        obtain rfl : l = _ := hx
        obtain rfl : m = _ := hy
        simp only at e
        obtain ⟨hf, e⟩ := cond_ok e
        simp only [Bool.and_eq_true] at hf
        have c := hok w (s.ev ρ.q) (t.ev ρ.q) (fitT_ok hB hf.1) (fitT_ok hB hf.2) hG hT
        have e1 : (Qe.sub uc (.mul s t)).ev ρ.q = 1 - s.ev ρ.q * t.ev ρ.q := by
          show uc.ev ρ.q - _ = _
          rw [uc_ev]; rfl
        rw [← e1] at c
        exact overS_ok (x := .add s t) hA hB e hM hN c
end
noncomputable def works7 : Fact := ⟨14, [], .bool true⟩
theorem works7_ok : works7.ok := Fact.of_run (n := 60) (by kernel_rfl) rfl
end Ev
end Go.Proofs.Ytepnghhgmjobjaa
