/- Contracts, in this order: The interpreter: calls whose slices' elements are plain, and · The interpreter: calls whose first argument is a struct that · No facts. -/
import Derived.Test.YtaefgofheiegeaaGreatDoorMKq21
namespace Go.Proofs.YtaefgofheiegeaaGreatDoor
open Go Go.RowKit
namespace Ev
inductive BArg where
  | one (v : Value)
  | row (t : TypeId) (s n : Nat) (cs : List Value)
inductive BAns where
  | one (v : Value)
  | pair (t : TypeId) (s n : Nat) (cs : List Value) (u : Value)
def RowAt (w : World) (b : Nat) (t : TypeId) (s n c : Nat) (cs : List Value) : Prop := ∃ cl, w.heap[b]? = some (.cells ⟨cl⟩ t (0, 0)) ∧ cl.take cs.length = cs ∧ n ≤ c ∧ c * s ≤ cl.length
def ArgsAre (w : World) : List BArg → List Value → List Nat → Prop
  | [], vs, bs => vs = [] ∧ bs = []
  | .one v :: l, vs, bs => ∃ us, vs = v :: us ∧ ArgsAre w l us bs
  | .row t s n cs :: l, vs, bs => ∃ b c us bs', vs = .slice (some ⟨b, 0, none⟩) n c :: us ∧ bs = b :: bs' ∧ RowAt w b t s n c cs ∧ b ∉ bs' ∧ Tryz.prog.globals.size ≤ b ∧ ArgsAre w l us bs'
def BAns.is (lo : Nat) (w : World) : BAns → Value → Prop
  | .one v, u => u = v
  | .pair t s n cs u, v => ∃ b c, v = .tuple #[.slice (some ⟨b, 0, none⟩) n c, u] ∧ lo ≤ b ∧ RowAt w b t s n c cs
structure BFact where
  f : FuncId
  args : List BArg
  v : BAns
def BFact.ok (x : BFact) : Prop := ∀ (w : World) (vs : List Value) (bs : List Nat), Tryz.prog.globals.size ≤ w.heap.size → TabB w → ArgsAre w x.args vs bs →
  Calls Tryz.prog x.f ⟨vs⟩ w fun e w' => ∃ v', e = .returned v' ∧ x.v.is w.heap.size w' v' ∧ Below w.heap.size w w'
noncomputable def slcx (b n s : Nat) : Value := vslice b 0 n (capX * (s + 1) + n)
noncomputable def argV (l : List BArg) : Nat → List Value := List.rec (motive := fun _ => Nat → List Value) (fun _ => []) (fun x _ ih i => match x with
  | .one v => v :: ih i
  | .row _ s n _ => slcx i n s :: ih (Nat.succ i)) l
noncomputable def argH (l : List BArg) : Nat → List (Nat × Blk Nat) := List.rec (motive := fun _ => Nat → List (Nat × Blk Nat)) (fun _ => []) (fun x _ ih i => match x with
  | .one _ => ih i
  | .row t _ _ cs => (i, .room cs t) :: ih (Nat.succ i)) l
noncomputable def argOk (l : List BArg) : Bool := List.rec (motive := fun _ => Bool) true (fun x _ ih => (match x with
  | .one v => plain2 v
  | .row _ _ n cs => plainL plain cs && Nat.ble (Nat.succ n) capX) && ih) l
noncomputable def ansB (h : Tr (Blk Nat)) (lo : Nat) (v : Value) : Option BAns := match v with
  | .tuple l => match twoM l.toList with
    | some x => match x.1 with
      | .slice a n c => match a with
        | some a => match a.off with
          | 0 => match a.spot with
            | none => cond (Nat.ble lo a.block && plain2 x.2) (match h.get a.block with
              | some b => match b with
                | .cells cs t => cond (plainL plain cs && (Nat.ble n c && Nat.ble (Nat.succ c) capX)) (cond (Nat.beq n 0) none (cond (Nat.beq (Nat.mul (Nat.div cs.length c) c) cs.length) (some (.pair t (Nat.div cs.length c) n cs x.2)) none)) none
                | .room cs t => cond (plainL plain cs && (Nat.ble capX c && (Nat.ble n (Nat.mod c capX)))) (some (.pair t (Nat.div c capX - 1) n cs x.2)) none
                | _ => none
              | none => none) none
            | some _ => none
          | _ => none
        | none => cond (plain3 v) (some (.one v)) none
      | _ => cond (plain3 v) (some (.one v)) none
    | none => cond (plain3 v) (some (.one v)) none
  | v => cond (plain3 v) (some (.one v)) none
noncomputable def brun (l : List Fact) (n : Nat) (f : FuncId) (args : List BArg) : Option BAns :=
  cond (argOk args && Nat.ble args.length 1000) (match call Tryz.prog natCfg (knownR l) n f (argV args 100000) (mkTab (argH args 100000)) 200000 with
    | .no => none
    | .ok v h _ _ W => cond (geAll 200000 W) (ansB h 200000 v) none) none
theorem argsAre_len {w : World} : ∀ {l : List BArg} {vs : List Value} {bs : List Nat}, ArgsAre w l vs bs → ∀ i, ∀ x ∈ argH l i, i ≤ x.1 ∧ x.1 < i + bs.length
  | [], _, _, _, i, x, hx => by simp [argH] at hx
  | .one v :: l, vs, bs, h, i, x, hx => by
    obtain ⟨us, _, h2⟩ := h
    exact argsAre_len h2 i x hx
  | .row t s n cs :: l, vs, bs, h, i, x, hx => by
    obtain ⟨b, c, us, bs', _, rfl, _, _, _, h2⟩ := h
    rcases List.mem_cons.1 (show x ∈ (i, Blk.room cs t) :: argH l (Nat.succ i) from hx) with rfl | hx
    · simp
    · have := argsAre_len h2 _ x hx
      simp only [List.length_cons]
      omega
def BRen (r : Ren) (w : World) (i : Nat) (bs : List Nat) : Prop := ∀ j b, bs[j]? = some b → r.blk (i + j) = some b ∧ ∃ cl t, w.heap[b]? = some (.cells ⟨cl⟩ t (0, 0)) ∧ r.len (i + j) = cl.length
theorem args_vr {r : Ren} {w : World} : ∀ {l : List BArg} {vs : List Value} {bs : List Nat} {i : Nat}, ArgsAre w l vs bs → argOk l = true → BRen r w i bs → VsR r (argV l i) vs
  | [], _, _, i, h, _, _ => by obtain ⟨rfl, _⟩ := h; exact .nil
  | .one v :: l, vs, bs, i, h, hok, hb => by
    obtain ⟨us, rfl, h2⟩ := h
    have hok' : (plain2 v && argOk l) = true := hok
    simp only [Bool.and_eq_true] at hok'
    exact .cons (VR.same2 hok'.1) (args_vr h2 hok'.2 hb)
  | .row t s n cs :: l, vs, bs, i, h, hok, hb => by
    obtain ⟨b, c, us, bs', rfl, rfl, ⟨cl, q1, q2, q3, q4⟩, _, _, h2⟩ := h
    have hok' : ((plainL plain cs && Nat.ble (Nat.succ n) capX) && argOk l) = true := hok
    simp only [Bool.and_eq_true] at hok'
    obtain ⟨k1, cl2, t2, k2, k3⟩ := hb 0 b rfl
    have hcl : cl2 = cl := by rw [q1] at k2; simp at k2; exact k2.1.symm
    refine .cons ?_ (args_vr h2 hok'.2 fun j b' hj => ?_)
    · exact .slicex (by simpa using k1) (Nat.le_of_ble_eq_true hok'.1.2) q3 (by
        rw [Nat.zero_add]
        rw [show r.len i = cl.length by rw [← hcl]; simpa using k3]
        exact q4)
    · have := hb (j + 1) b' (by simpa using hj)
      rw [show i + (j + 1) = Nat.succ i + j by omega] at this
      exact this
theorem argH_room {w : World} : ∀ {l : List BArg} {vs : List Value} {bs : List Nat} {i : Nat}, ArgsAre w l vs bs → argOk l = true → ∀ x ∈ argH l i, ∃ j b cs t, x = (i + j, .room cs t) ∧ bs[j]? = some b ∧ (∃ cl, w.heap[b]? = some (.cells ⟨cl⟩ t (0, 0)) ∧ cl.take cs.length = cs) ∧ plainL plain cs = true
  | [], _, _, i, _, _, x, hx => by simp [argH] at hx
  | .one v :: l, vs, bs, i, h, hok, x, hx => by
    obtain ⟨us, _, h2⟩ := h
    have hok' : (plain2 v && argOk l) = true := hok
    simp only [Bool.and_eq_true] at hok'
    exact argH_room h2 hok'.2 x hx
  | .row t s n cs :: l, vs, bs, i, h, hok, x, hx => by
    obtain ⟨b, c, us, bs', _, rfl, ⟨cl, q1, q2, _, _⟩, _, _, h2⟩ := h
    have hok' : ((plainL plain cs && Nat.ble (Nat.succ n) capX) && argOk l) = true := hok
    simp only [Bool.and_eq_true] at hok'
    rcases List.mem_cons.1 (show x ∈ (i, Blk.room cs t) :: argH l (Nat.succ i) from hx) with rfl | hx
    · exact ⟨0, b, cs, t, rfl, rfl, ⟨cl, q1, q2⟩, hok'.1.1⟩
    · obtain ⟨j, b', cs', t', e1, e2, e3⟩ := argH_room h2 hok'.2 x hx
      exact ⟨j + 1, b', cs', t', by rw [e1, show Nat.succ i + j = i + (j + 1) by omega], by simpa using e2, e3⟩
theorem args_apart {w : World} : ∀ {l : List BArg} {vs : List Value} {bs : List Nat}, ArgsAre w l vs bs → (∀ j k b : Nat, bs[j]? = some b → bs[k]? = some b → j = k) ∧ ∀ b ∈ bs, Tryz.prog.globals.size ≤ b ∧ ∃ cl t, w.heap[b]? = some (.cells ⟨cl⟩ t (0, 0))
  | [], _, _, h => by
    obtain ⟨_, rfl⟩ := h
    exact ⟨fun j k b q => by simp at q, by simp⟩
  | .one v :: l, vs, bs, h => by
    obtain ⟨us, _, h2⟩ := h
    exact args_apart h2
  | .row t s n cs :: l, vs, bs, h => by
    obtain ⟨b, c, us, bs', _, rfl, ⟨cl, q1, _⟩, hn, hG, h2⟩ := h
    obtain ⟨a1, a2⟩ := args_apart h2
    refine ⟨fun j k b' hj hk => ?_, fun b' hb => ?_⟩
    · cases j with
      | zero =>
        cases k with
        | zero => rfl
        | succ k =>
          simp only [List.getElem?_cons_zero, List.getElem?_cons_succ, Option.some.injEq] at hj hk
          subst hj
          exact absurd (List.mem_of_getElem? hk) hn
      | succ j =>
        cases k with
        | zero =>
          simp only [List.getElem?_cons_zero, List.getElem?_cons_succ, Option.some.injEq] at hj hk
          subst hk
          exact absurd (List.mem_of_getElem? hj) hn
        | succ k =>
          simp only [List.getElem?_cons_succ] at hj hk
          rw [a1 j k b' hj hk]
    · rcases List.mem_cons.1 hb with rfl | hb
      · exact ⟨hG, cl, t, q1⟩
      · exact a2 b' hb
theorem globs_few : Tryz.prog.globals.size ≤ 100000 := Nat.le_of_ble_eq_true (by kernel_rfl)
theorem plain_pre {cs cl : List Value} (h : cl.take cs.length = cs) (hp : plainL plain cs = true) {r : Ren} : VsR r cs (cl.take cs.length) := by rw [h]; exact VsR.same hp
theorem args_few {w : World} : ∀ {l : List BArg} {vs : List Value} {bs : List Nat}, ArgsAre w l vs bs → bs.length ≤ l.length
  | [], _, _, h => by obtain ⟨_, rfl⟩ := h; simp
  | .one v :: l, vs, bs, h => by
    obtain ⟨us, _, h2⟩ := h
    have := args_few h2
    simp; omega
  | .row t s n cs :: l, vs, bs, h => by
    obtain ⟨b, c, us, bs', _, rfl, _, _, _, h2⟩ := h
    have := args_few h2
    simp; omega
theorem vsr_plain {r : Ren} {cs l : List Value} (h : VsR r cs l) (hp : plainL plain cs = true) : l = cs := h.eq_of_plain hp
theorem vr_tuple {r : Ren} {l : Array Value} {v : Value} (h : VR r (.tuple l) v) : ∃ l', v = .tuple ⟨l'⟩ ∧ VsR r l.toList l' := by
  cases h with
  | same p => simp [plain] at p
  | tuple h => exact ⟨_, rfl, h⟩
theorem ansB_ok {h : Tr (Blk Nat)} {lo hi : Nat} {v v' : Value} {a : BAns} {r : Ren} {w' : World} (e : ansB h lo v = some a) (hv : VR r v v') (hM : Mod natSig r h.get w') (hlo : ∀ m b, lo ≤ m → r.blk m = some b → hi ≤ b) : a.is hi w' v' := by
  have pl : (cond (plain3 v) (some (.one v)) none : Option BAns) = some a → a.is hi w' v' := fun q => by
    cases hp : plain3 v with
    | false => rw [hp] at q; cases q
    | true => rw [hp] at q; cases q; exact eq_of_plain3 hv hp
  unfold ansB at e
  cases v with
  | tuple l =>
    simp only at e
    cases h2 : twoM l.toList with
    | none => rw [h2] at e; exact pl e
    | some x =>
      obtain ⟨x1, x2⟩ := x
      rw [h2] at e
      simp only at e
      have hl := twoM_ok h2
      cases x1 with
      | slice a0 n c =>
        simp only at e
        cases a0 with
        | none => exact pl e
        | some a1 =>
          obtain ⟨b, off, spot⟩ := a1
          simp only at e
          cases off with
          | succ _ => cases e
          | zero =>
            cases spot with
            | some _ => cases e
            | none =>
              simp only at e
              cases hk : (Nat.ble lo b && plain2 x2) with
              | false => rw [hk] at e; cases e
              | true =>
                rw [hk] at e
                simp only [cond_true] at e
                simp only [Bool.and_eq_true] at hk
                obtain ⟨l', rfl, hvs⟩ := vr_tuple hv
                rw [hl] at hvs
                cases hvs with
                | cons hv1 hvs => cases hvs with
                  | cons hv2 hvs =>
                    cases hvs
                    have hx2 := hv2.eq_of_plain2 hk.2
                    subst hx2
                    obtain ⟨b', c', hb, rfl, hcc⟩ := slice_cases (b := b) (off := 0) hv1
                    have hge := hlo b b' (Nat.le_of_ble_eq_true hk.1) hb
                    cases hg : h.get b with
                    | none => rw [hg] at e; cases e
                    | some bl =>
                      rw [hg] at e
                      simp only at e
                      cases bl with
                      | fact _ => cases e
                      | opq => cases e
                      | lp _ => cases e
                      | ow _ => cases e
                      | ad _ _ => cases e
                      | cells cs t =>
                        simp only at e
                        cases hp : (plainL plain cs && (Nat.ble n c && Nat.ble (Nat.succ c) capX)) with
                        | false => rw [hp] at e; cases e
                        | true =>
                          rw [hp] at e
                          simp only [cond_true] at e
                          simp only [Bool.and_eq_true] at hp
                          cases hn0 : Nat.beq n 0 with
                          | true => rw [hn0] at e; cases e
                          | false =>
                            rw [hn0] at e
                            simp only [cond_false] at e
                            cases hd : Nat.beq (Nat.mul (Nat.div cs.length c) c) cs.length with
                            | false => rw [hd] at e; cases e
                            | true =>
                              rw [hd] at e
                              cases e
                              obtain ⟨b2, cl, k1, k2, k3, _⟩ := hM.cells b cs t hg
                              rw [hb] at k1; cases k1
                              have := vsr_plain k3 hp.1
                              subst this
                              rcases hcc with ⟨_, rfl⟩ | ⟨sz, c0, q, hc0, _⟩
                              · refine ⟨b', c', rfl, hge, cl, k2, List.take_length, Nat.le_of_ble_eq_true hp.2.1, ?_⟩
                                have q := Nat.eq_of_beq_eq_true hd
                                have q' : (cl.length / c') * c' = cl.length := q
                                show c' * (cl.length / c') ≤ cl.length
                                rw [Nat.mul_comm, q']; exact Nat.le_refl _
                              · have hlt : c < capX := Nat.le_of_ble_eq_true hp.2.2
                                have : capX * (sz + 1) = capX * sz + capX := Nat.mul_succ _ _
                                omega
                      | room cs t =>
                        simp only at e
                        cases hp : (plainL plain cs && (Nat.ble capX c && (Nat.ble n (Nat.mod c capX)))) with
                        | false => rw [hp] at e; cases e
                        | true =>
                          rw [hp] at e
                          simp only [cond_true] at e
                          cases e
                          simp only [Bool.and_eq_true] at hp
                          obtain ⟨b2, cl, k1, k2, k3, _, k5⟩ := hM.room b cs t hg
                          rw [hb] at k1; cases k1
                          have hpre := vsr_plain k3 hp.1
                          have hbig := Nat.le_of_ble_eq_true hp.2.1
                          have hnn := Nat.le_of_ble_eq_true hp.2.2
                          rcases hcc with ⟨q, _⟩ | ⟨sz, c0, rfl, hc0, q1, q2⟩
                          · omega
                          · have hdiv : Nat.div (capX * (sz + 1) + c0) capX = sz + 1 := by
                              show (capX * (sz + 1) + c0) / capX = sz + 1
                              unfold capX at hc0 ⊢; omega
                            have hmod : Nat.mod (capX * (sz + 1) + c0) capX = c0 := by
                              show (capX * (sz + 1) + c0) % capX = c0
                              unfold capX at hc0 ⊢; omega
                            rw [hmod] at hnn
                            rw [hdiv]
                            exact ⟨b', c', rfl, hge, cl, k2, hpre, by omega, by simp only [Nat.add_sub_cancel]; omega⟩
      | _ => exact pl e
  | _ => exact pl e
theorem BFact.by_run {l : List Fact} (hl : ∀ x ∈ l, x.ok) {x : BFact} {n : Nat} (h : brun l n x.f x.args = some x.v) : x.ok := by
  intro w vs bs hG hT hA
  unfold brun at h
  cases hok0 : (argOk x.args && Nat.ble x.args.length 1000) with
  | false => rw [hok0] at h; cases h
  | true =>
    rw [hok0] at h
    simp only [cond_true] at h
    simp only [Bool.and_eq_true] at hok0
    obtain ⟨hok, hfew⟩ := hok0
    have hfew := Nat.le_trans (args_few hA) (Nat.le_of_ble_eq_true hfew)
    cases hc : call Tryz.prog natCfg (knownR l) n x.f (argV x.args 100000) (mkTab (argH x.args 100000)) 200000 with
    | no => rw [hc] at h; cases h
    | ok v h' nx' R W =>
      rw [hc] at h
      simp only at h
      cases hg : geAll 200000 W with
      | false => rw [hg] at h; cases h
      | true =>
        rw [hg] at h
        simp only [cond_true] at h
        have hW := geAll_ok hg
        obtain ⟨ap1, ap2⟩ := args_apart hA
        have hGf := globs_few
        have hfr : Fr (mkTab (argH x.args 100000)) 200000 := fr_mkTab fun y hy => by
          have := argsAre_len hA 100000 y hy
          omega
        have hcl := call_ok natFits (knownR_ok hl) n
        have hrun := Run.self (hcl.loc x.f (argV x.args 100000)) hc hfr
        have L := (hcl.loc x.f (argV x.args 100000)).2 _ _ _ _ _ _ _ hc hfr
        obtain ⟨r1, hr1⟩ : ∃ r1 : Ren, r1 = ⟨fun n => if n < Tryz.prog.globals.size then some n else if 100000 ≤ n then bs[n - 100000]? else none, fun _ => none, fun n => match bs[n - 100000]? with
            | some b => match w.heap[b]? with
              | some (.cells c _ _) => c.size
              | _ => 0
            | none => 0⟩ := ⟨_, rfl⟩
        have hb1 : ∀ n, r1.blk n = if n < Tryz.prog.globals.size then some n else if 100000 ≤ n then bs[n - 100000]? else none := fun n => by rw [hr1]
        have hbig : ∀ n, 100000 ≤ n → r1.blk n = bs[n - 100000]? := fun n hn => by rw [hb1, if_neg (by omega), if_pos hn]
        have hbr : BRen r1 w 100000 bs := fun j b hj => by
          have hj2 := (List.getElem?_eq_some_iff.1 hj).1
          have e1 : 100000 + j - 100000 = j := by omega
          obtain ⟨_, cl, t, hh⟩ := ap2 b (List.mem_of_getElem? hj)
          refine ⟨by rw [hbig _ (by omega), e1]; exact hj, cl, t, hh, ?_⟩
          rw [hr1]
          simp only [e1, hj, hh]
          simp
        have hrow : ∀ n b, 100000 ≤ n → r1.blk n = some b → bs[n - 100000]? = some b := fun n b hn q => by rw [hbig n hn] at q; exact q
        have hM : Mod natSig r1 (mkTab (argH x.args 100000)).get w := by
          have hno : ∀ n bl, (mkTab (argH x.args 100000)).get n = some bl → ∃ j b cs t, n = 100000 + j ∧ bl = .room cs t ∧ bs[j]? = some b ∧ (∃ cl, w.heap[b]? = some (.cells ⟨cl⟩ t (0, 0)) ∧ cl.take cs.length = cs) ∧ plainL plain cs = true := fun n bl hn => by
            obtain ⟨j, b, cs, t, q1, q2⟩ := argH_room (i := 100000) hA hok _ (mkTab_get hn)
            cases q1
            exact ⟨j, b, cs, t, rfl, rfl, q2⟩
          refine ⟨fun n m b q1 q2 => ?_, fun n b q => ?_, fun n c t q => ?_, fun n k q => ?_, hT, fun n hn => by rw [hb1]; exact if_pos hn, fun n b q hn => ?_, fun n c t q => ?_, Nat.zero_le _, (fun n s q => by
            obtain ⟨_, _, _, _, _, q2, _⟩ := hno n _ q
            cases q2), (fun n f q => by
            obtain ⟨_, _, _, _, _, q2, _⟩ := hno n _ q
            cases q2), fun n m x q => by
            obtain ⟨_, _, _, _, _, q2, _⟩ := hno n _ q
            cases q2⟩
          · left
            rw [hb1] at q1 q2
            split at q1 <;> split at q2
            · cases q1; cases q2; rfl
            · rename_i a1 a2
              split at q2
              · cases q1
                have := (ap2 _ (List.mem_of_getElem? q2)).1
                omega
              · cases q2
            · rename_i a1 a2
              split at q1
              · cases q2
                have := (ap2 _ (List.mem_of_getElem? q1)).1
                omega
              · cases q1
            · split at q1
              · split at q2
                · have := ap1 _ _ b q1 q2
                  omega
                · cases q2
              · cases q1
          · rw [hb1] at q
            split at q
            · cases q; omega
            · split at q
              · obtain ⟨_, cl, t, hh⟩ := ap2 b (List.mem_of_getElem? q)
                exact (Array.getElem?_eq_some_iff.1 hh).1
              · cases q
          · obtain ⟨_, _, _, _, _, q2, _⟩ := hno n _ q
            cases q2
          · obtain ⟨_, _, _, _, _, q2, _⟩ := hno n _ q
            cases q2
          · rw [hb1] at q
            split at q
            · rename_i a; exact absurd a (Nat.not_lt.2 hn)
            · split at q
              · exact (ap2 b (List.mem_of_getElem? q)).1
              · cases q
          · obtain ⟨j, b, cs, t', rfl, q2, q3, ⟨cl, q4, q5⟩, q6⟩ := hno n _ q
            cases q2
            obtain ⟨p1, cl2, t2, p2, p3⟩ := hbr j b q3
            rw [q4] at p2
            simp only [Option.some.injEq, Obj.cells.injEq, Array.mk.injEq] at p2
            exact ⟨b, cl, p1, q4, plain_pre q5 q6, id, by rw [p3, p2.1]; exact Nat.le_refl _⟩
        have hN : New r1 200000 nx' := fun n q1 q2 => by
          refine ⟨?_, by rw [hr1]⟩
          rw [hbig n (by omega)]
          exact List.getElem?_eq_none_iff.2 (by omega)
        refine (hcl.run x.f _ _ _ _ _ _ _ _ hrun r1 w vs (args_vr hA hok hbr) hM hN).mono ?_
        rintro en w' ⟨v', r', rfl, hv, hX⟩
        have hnone : ∀ m, 200000 ≤ m → r1.blk m = none := fun m hm => by
          rw [hbig m (by omega)]
          exact List.getElem?_eq_none_iff.2 (by omega)
        refine ⟨v', rfl, ansB_ok h hv hX.mod (fun m b hm hb => ?_), hX.os, hX.tape, hX.output, hX.size, fun b hb' => ?_⟩
        · rcases hX.new m b hb with q | q | ⟨k, hk, q⟩
          · rw [hnone m hm] at q; cases q
          · exact q
          · rw [hnone k (hW k hk)] at q; cases q
        · have hbo : w.heap[b]? = some w.heap[b] := Array.getElem?_eq_getElem hb'
          rw [hbo]
          exact hX.keep b _ hbo fun k hk q => by rw [hnone k (hW k hk)] at q; cases q
noncomputable def eqNl (v w : Value) : Bool := match v with
  | .slice a n c => match a with
    | none => match w with
      | .slice b m d => match b with
        | none => Nat.beq n m && Nat.beq c d
        | some _ => false
      | _ => false
    | some _ => false
  | v => eqV v w
theorem eqNl_ok (v w : Value) (h : eqNl v w = true) : v = w := by
  unfold eqNl at h
  split at h
  · rename_i a n c
    cases a with
    | some a => cases h
    | none =>
      cases w with
      | slice b m d =>
        cases b with
        | some b => cases h
        | none =>
          simp only [Bool.and_eq_true] at h
          rw [Nat.eq_of_beq_eq_true h.1, Nat.eq_of_beq_eq_true h.2]
      | _ => cases h
  · exact eqV_ok _ _ h
noncomputable def mArgs (l : List BArg) : List Value → M Nat (Option (List Nat)) := List.rec (motive := fun _ => List Value → M Nat (Option (List Nat))) (fun us => match us with
    | [] => ret (some [])
    | _ :: _ => ret none)
  (fun x _ ih us => match us with
    | [] => ret none
    | u :: us => match x with
      | .one v => cond (eqNl v u && plain2 v) (ih us) (ret none)
      | .row t s n cs => match u with
        | .slice a m c => match a with
          | some a => match a.off with
            | 0 => match a.spot with
              | none => bind (rdAny a.block) fun y =>
                cond (Nat.beq m n && Nat.beq y.2.1 t && (eqL eq1 (y.1.take cs.length) cs && isMore y.1 && (Nat.ble Tryz.prog.globals.size a.block && Nat.ble cs.length y.1.length) &&
                    ((Nat.ble (Nat.succ c) capX && Nat.ble n c && Nat.ble (c * s) y.1.length) || (y.2.2 && (Nat.beq (Nat.div c capX) (Nat.succ s) && Nat.ble n (Nat.mod c capX))))))
                  (bind (ih us) fun o => match o with
                    | some ns => cond (elem a.block ns) (ret none) (ret (some (a.block :: ns)))
                    | none => ret none) (ret none)
              | some _ => ret none
            | _ => ret none
          | none => ret none
        | _ => ret none) l
theorem loc_mArgs : ∀ (l : List BArg) (us : List Value), Loc (mArgs l us)
  | [], [] => loc_ret _
  | [], _ :: _ => loc_ret _
  | _ :: _, [] => loc_ret _
  | .one v :: l, u :: us => loc_cond (loc_mArgs l us) (loc_ret _)
  | .row t s n cs :: l, u :: us => by
    cases u with
    | slice a m c =>
      cases a with
      | none => exact loc_ret _
      | some a =>
        obtain ⟨b, off, spot⟩ := a
        cases off with
        | succ _ => exact loc_ret _
        | zero =>
          cases spot with
          | some _ => exact loc_ret _
          | none =>
            refine loc_bind (loc_rdAny _) fun y => loc_cond (loc_bind (loc_mArgs l us) fun o => ?_) (loc_ret _)
            split
            · exact loc_cond (loc_ret _) (loc_ret _)
            · exact loc_ret _
    | _ => exact loc_ret _
theorem mArgs_ok : ∀ {l : List BArg} {us : List Value} {h h' : Tr (Blk Nat)} {nx nx' : Nat} {R W : List Nat} {o : Option (List Nat)}, mArgs l us h nx = .ok o h' nx' R W → h' = h ∧ nx' = nx ∧ W = [] ∧
    ∀ ns, o = some ns → ∀ {r : Ren} {w : World} {us' : List Value}, VsR r us us' → Mod natSig r h.get w → ∃ bs, ArgsAre w l us' bs ∧ ∀ b ∈ bs, ∃ n ∈ ns, r.blk n = some b ∧ ¬ Gone h.get n
  | [], [], h, h', nx, nx', R, W, o, e => by
    obtain ⟨rfl, rfl, rfl, rfl⟩ := ret_ok (show (ret (some []) : M Nat _) h nx = _ from e)
    refine ⟨rfl, rfl, rfl, fun ns q => ?_⟩
    cases q
    intro r w us' hv _
    cases hv
    exact ⟨[], ⟨rfl, rfl⟩, by simp⟩
  | [], _ :: _, h, h', nx, nx', R, W, o, e => by
    obtain ⟨rfl, rfl, rfl, rfl⟩ := ret_ok (show (ret none : M Nat _) h nx = _ from e)
    exact ⟨rfl, rfl, rfl, fun ns q => by cases q⟩
  | _ :: _, [], h, h', nx, nx', R, W, o, e => by
    obtain ⟨rfl, rfl, rfl, rfl⟩ := ret_ok (show (ret none : M Nat _) h nx = _ from e)
    exact ⟨rfl, rfl, rfl, fun ns q => by cases q⟩
  | .one v :: l, u :: us, h, h', nx, nx', R, W, o, e => by
    have e' : (cond (eqNl v u && plain2 v) (mArgs l us) (ret none) : M Nat _) h nx = .ok o h' nx' R W := e
    cases hk : (eqNl v u && plain2 v) with
    | false =>
      rw [hk] at e'
      obtain ⟨rfl, rfl, rfl, rfl⟩ := ret_ok (show (ret none : M Nat _) h nx = _ from e')
      exact ⟨rfl, rfl, rfl, fun ns q => by cases q⟩
    | true =>
      rw [hk] at e'
      simp only [Bool.and_eq_true] at hk
      obtain rfl := eqNl_ok _ _ hk.1
      obtain ⟨h1, h2, h3, h4⟩ := mArgs_ok (show mArgs l us h nx = _ from e')
      refine ⟨h1, h2, h3, fun ns q => ?_⟩
      intro r w us' hv hM
      cases hv with
      | cons hv1 hv2 =>
        obtain rfl := hv1.eq_of_plain2 hk.2
        obtain ⟨bs, q1, q2⟩ := h4 ns q hv2 hM
        exact ⟨bs, ⟨_, rfl, q1⟩, q2⟩
  | .row t s n cs :: l, u :: us, h, h', nx, nx', R, W, o, e => by
    have no : (ret none : M Nat (Option (List Nat))) h nx = .ok o h' nx' R W → h' = h ∧ nx' = nx ∧ W = [] ∧
        ∀ ns, o = some ns → ∀ {r : Ren} {w : World} {us' : List Value}, VsR r (u :: us) us' → Mod natSig r h.get w → ∃ bs, ArgsAre w (.row t s n cs :: l) us' bs ∧ ∀ b ∈ bs, ∃ n ∈ ns, r.blk n = some b ∧ ¬ Gone h.get n := fun q => by
      obtain ⟨rfl, rfl, rfl, rfl⟩ := ret_ok q
      exact ⟨rfl, rfl, rfl, fun ns q => by cases q⟩
    cases u with
    | slice a m c =>
      cases a with
      | none => exact no e
      | some a =>
        obtain ⟨b, off, spot⟩ := a
        cases off with
        | succ _ => exact no e
        | zero =>
          cases spot with
          | some _ => exact no e
          | none =>
            obtain ⟨y, h1, nx1, R1, W1, R2, W2, e1, e2, rfl, rfl⟩ := bind_ok (show bind (rdAny b) _ h nx = _ from e)
            obtain ⟨hg, rfl, rfl, rfl⟩ := rdAny_ok e1
            obtain ⟨yc, yt, yr⟩ := y
            simp only at e2 hg
            generalize hkk : (Nat.beq m n && Nat.beq yt t && (eqL eq1 (yc.take cs.length) cs && isMore yc && (Nat.ble Tryz.prog.globals.size b && Nat.ble cs.length yc.length) &&
                    ((Nat.ble (Nat.succ c) capX && Nat.ble n c && Nat.ble (c * s) yc.length) || (yr && (Nat.beq (Nat.div c capX) (Nat.succ s) && Nat.ble n (Nat.mod c capX)))))) = kk at e2
            cases kk with
            | false =>
              simp only [cond_false] at e2
              obtain ⟨rfl, rfl, rfl, rfl⟩ := ret_ok e2
              exact ⟨rfl, rfl, rfl, fun ns q => by cases q⟩
            | true =>
              simp only [cond_true] at e2
              obtain ⟨o2, h2, nx2, R3, W3, R4, W4, e3, e4, rfl, rfl⟩ := bind_ok e2
              obtain ⟨rfl, rfl, rfl, ih⟩ := mArgs_ok e3
              cases o2 with
              | none =>
                obtain ⟨rfl, rfl, rfl, rfl⟩ := ret_ok (show (ret none : M Nat _) _ _ = _ from e4)
                exact ⟨rfl, rfl, rfl, fun ns q => by cases q⟩
              | some ns2 =>
                simp only at e4
                cases hel : elem b ns2 with
                | true =>
                  rw [hel] at e4
                  obtain ⟨rfl, rfl, rfl, rfl⟩ := ret_ok (show (ret none : M Nat _) _ _ = _ from e4)
                  exact ⟨rfl, rfl, rfl, fun ns q => by cases q⟩
                | false =>
                  rw [hel] at e4
                  obtain ⟨rfl, rfl, rfl, rfl⟩ := ret_ok (show (ret (some (b :: ns2)) : M Nat _) _ _ = _ from e4)
                  refine ⟨rfl, rfl, rfl, fun ns q => ?_⟩
                  cases q
                  intro r w us' hv hM
                  cases hv with
                  | cons hv1 hv2 =>
                    obtain ⟨bs, q1, q2⟩ := ih ns2 rfl hv2 hM
                    obtain ⟨b', c', hb, rfl, hcc⟩ := slice_cases (b := b) (off := 0) hv1
                    simp only [Bool.and_eq_true, Bool.or_eq_true] at hkk
                    obtain ⟨⟨k1, k2⟩, ⟨⟨k3, k4⟩, k5, k6⟩, k7⟩ := hkk
                    obtain rfl := Nat.eq_of_beq_eq_true k1
                    obtain rfl := Nat.eq_of_beq_eq_true k2
                    have k3' := eqL_ok eq1_ok k3
                    have hpl : plainL plain cs = true := by
                      have key : ∀ (l m : List Value), eqL eq1 l m = true → plainL plain m = true := by
                        intro l
                        induction l with
                        | nil => intro m hm; cases m with
                          | nil => rfl
                          | cons _ _ => exact absurd (show false = true from hm) (by simp)
                        | cons a l ih =>
                          intro m hm
                          cases m with
                          | nil => exact absurd (show false = true from hm) (by simp)
                          | cons b m =>
                            have hm' : (eq1 a b && eqL eq1 l m) = true := hm
                            simp only [Bool.and_eq_true] at hm'
                            have h1 : plain b = true := by
                              have := hm'.1
                              unfold eq1 at this
                              cases a <;> simp only [Bool.false_eq_true] at this <;> cases b <;> simp only [Bool.false_eq_true] at this <;> rfl
                            simp only [plainL, h1, ih m hm'.2, Bool.and_self]
                      exact key _ _ k3
                    obtain ⟨b2, cl, p1, p2, p3, _, p5, p6⟩ := hM.any hg
                    rw [hb] at p1; cases p1
                    have hlen : cs.length ≤ yc.length := Nat.le_of_ble_eq_true k6
                    have hpre : cl.take cs.length = cs := by
                      have h1 := p3.take cs.length
                      rw [List.take_take, Nat.min_eq_left hlen, k3'] at h1
                      exact vsr_plain h1 hpl
                    have hyl := pre_len p3
                    have hgone : ¬ Gone h'.get b := fun q => by
                      cases yr with
                      | false => exact q.1 yc yt hg
                      | true =>
                        have := q.2.1 yc yt hg
                        rw [this] at k4; cases k4
                    have hcap : m ≤ c' ∧ c' * s ≤ cl.length := by
                      rcases k7 with ⟨⟨a1, a2⟩, a3⟩ | ⟨a0, a1, a2⟩
                      · have a1' : c < capX := Nat.le_of_ble_eq_true a1
                        have a2' := Nat.le_of_ble_eq_true a2
                        have a3' := Nat.le_of_ble_eq_true a3
                        rcases hcc with ⟨_, rfl⟩ | ⟨sz, c0, q, _⟩
                        · exact ⟨a2', by omega⟩
                        · have : capX * (sz + 1) = capX * sz + capX := Nat.mul_succ _ _
                          omega
                      · have a1' := Nat.eq_of_beq_eq_true a1
                        have a2' := Nat.le_of_ble_eq_true a2
                        rcases hcc with ⟨hlt, _⟩ | ⟨sz, c0, rfl, hc0, g1, g2⟩
                        · have : Nat.div c capX = 0 := Nat.div_eq_of_lt hlt
                          rw [this] at a1'; cases a1'
                        · have hdiv : Nat.div (capX * (sz + 1) + c0) capX = sz + 1 := by
                            show (capX * (sz + 1) + c0) / capX = sz + 1
                            unfold capX at hc0 ⊢; omega
                          have hmod : Nat.mod (capX * (sz + 1) + c0) capX = c0 := by
                            show (capX * (sz + 1) + c0) % capX = c0
                            unfold capX at hc0 ⊢; omega
                          rw [hdiv] at a1'
                          rw [hmod] at a2'
                          have hs : sz = s := by omega
                          subst hs
                          have := p6 a0
                          exact ⟨by omega, by omega⟩
                    refine ⟨b' :: bs, ⟨b', c', _, bs, rfl, rfl, ⟨cl, p2, hpre, hcap.1, hcap.2⟩, fun hm => ?_, ?_, q1⟩, fun b3 hb3 => ?_⟩
                    · obtain ⟨n3, hn3, g1, g2⟩ := q2 b' hm
                      rcases hM.inj b n3 b' hb g1 with q | q | q
                      · subst q
                        rw [elem_iff.2 hn3] at hel; cases hel
                      · exact hgone q
                      · exact g2 q
                    · exact hM.own b b' hb (Nat.le_of_ble_eq_true k5)
                    · rcases List.mem_cons.1 hb3 with rfl | hb3
                      · exact ⟨b, List.mem_cons_self, hb, hgone⟩
                      · obtain ⟨n3, hn3, g⟩ := q2 b3 hb3
                        exact ⟨n3, List.mem_cons_of_mem _ hn3, g⟩
    | _ => exact no e
noncomputable def ansM (a : BAns) : M Nat Value := match a with
  | .one v => cond (plain3 v) (ret v) fail
  | .pair t s n cs u => cond (plain2 u && plainL plain cs && Nat.ble (Nat.succ n) capX) (bind (fresh (.room cs t)) fun m => ret (.tuple #[slcx m n s, u])) fail
theorem loc_ansM (a : BAns) : Loc (ansM a) := by
  unfold ansM
  split
  · exact loc_cond (loc_ret _) loc_fail
  · exact loc_cond (loc_bind (loc_fresh _) fun _ => loc_ret _) loc_fail
theorem ext_come {r : Ren} {g : Nat → Option (Blk Nat)} {w w' : World} {nx b : Nat} {cs cl : List Value} {t : TypeId} (hM : Mod natSig r g w) (hb : Below w.heap.size w w') (hN : New r nx (nx + 1)) (hge : w.heap.size ≤ b) (hh : w'.heap[b]? = some (.cells ⟨cl⟩ t (0, 0))) (hc : cl.take cs.length = cs) (hp : plainL plain cs = true) :
    ∃ r', Ext natSig r w nx (nx + 1) [] (fun n => if n = nx then some (.room cs t) else g n) r' w' ∧ r'.blk nx = some b ∧ r'.len nx = cl.length := by
  have hX := ext_below hM hb nx
  have hno := hN nx (Nat.le_refl _) (Nat.lt_succ_self _)
  have hle : r.le ⟨fun n => if n = nx then some b else r.blk n, r.val, fun n => if n = nx then cl.length else r.len n⟩ := by
    refine ⟨fun n a e => ?_, fun _ _ e => e, fun n a e => ?_⟩
    · have : n ≠ nx := fun q => by rw [q, hno.1] at e; cases e
      simp only [if_neg this, e]
    · have : n ≠ nx := fun q => by rw [q, hno.1] at e; cases e
      simp only [if_neg this]
  have hG := hM.fits
  refine ⟨⟨fun n => if n = nx then some b else r.blk n, r.val, fun n => if n = nx then cl.length else r.len n⟩, ⟨hle, ⟨?_, ?_, ?_, ?_, hX.mod.base, fun n hn => hle.blk _ _ (hM.glob n hn), ?_, ?_, Nat.zero_le _, hX.mod.lp.mono hle (fun n s hn => by
    by_cases h : n = nx
    · simp only [if_pos h, Option.some.injEq] at hn; cases hn
    · simpa only [if_neg h] using hn) (fun _ _ q => q), hX.mod.ow.all hle (fun n s hn => by
    by_cases h : n = nx
    · simp only [if_pos h, Option.some.injEq] at hn; cases hn
    · simpa only [if_neg h] using hn) (fun _ _ q => q), hX.mod.ad.mono hle fun n k x hn => by
    by_cases h : n = nx
    · simp only [if_pos h, Option.some.injEq] at hn; cases hn
    · simpa only [if_neg h] using hn⟩, ?_, ?_, hX.keep, hX.size, hX.os, hX.tape, hX.output, hX.loops⟩, by simp, by simp⟩
  · intro n m a hn hm
    simp only at hn hm
    split at hn <;> split at hm
    · exact .inl (by omega)
    · have := hM.lt m a hm
      simp only [Option.some.injEq] at hn; omega
    · have := hM.lt n a hn
      simp only [Option.some.injEq] at hm; omega
    · rename_i h1 h2
      refine (hM.inj n m a hn hm).imp id (Or.imp (fun k => ?_) (fun k => ?_))
      · exact ⟨fun c t => by simpa only [if_neg h1] using k.1 c t, fun c t => by simpa only [if_neg h1] using k.2.1 c t, ⟨fun s => by simpa only [if_neg h1] using k.2.2.1 s, fun f => by simpa only [if_neg h1] using k.2.2.2 f⟩⟩
      · exact ⟨fun c t => by simpa only [if_neg h2] using k.1 c t, fun c t => by simpa only [if_neg h2] using k.2.1 c t, ⟨fun s => by simpa only [if_neg h2] using k.2.2.1 s, fun f => by simpa only [if_neg h2] using k.2.2.2 f⟩⟩
  · intro n a hn
    simp only at hn
    split at hn
    · simp only [Option.some.injEq] at hn; subst hn; exact (Array.getElem?_eq_some_iff.1 hh).1
    · exact hX.mod.lt n a hn
  · intro n d u hn
    by_cases h : n = nx
    · simp only [if_pos h, Option.some.injEq] at hn; cases hn
    · simp only [if_neg h] at hn
      obtain ⟨a, d', h1, h2, h3, h4⟩ := hX.mod.cells n d u hn
      exact ⟨a, d', by simp only [if_neg h, h1], h2, h3.mono hle, h4⟩
  · intro n f hn
    by_cases h : n = nx
    · simp only [if_pos h, Option.some.injEq] at hn; cases hn
    · simp only [if_neg h] at hn
      exact hX.mod.fact n f hn
  · intro n a hn hGn
    simp only at hn
    split at hn
    · simp only [Option.some.injEq] at hn; omega
    · exact hM.own n a hn hGn
  · intro n d u hn
    by_cases h : n = nx
    · simp only [if_pos h, Option.some.injEq, Blk.room.injEq] at hn
      obtain ⟨rfl, rfl⟩ := hn
      exact ⟨b, cl, by simp [h], hh, plain_pre hc hp, id, by simp [h]⟩
    · simp only [if_neg h] at hn
      obtain ⟨a, d', h1, h2, h3, h4, h5⟩ := hX.mod.room n d u hn
      exact ⟨a, d', by simp only [if_neg h, h1], h2, h3.mono hle, h4, by simp only [if_neg h]; exact h5⟩
  · intro n hn
    by_cases h : n = nx
    · exact .inr ⟨by omega, by omega⟩
    · simp only [if_neg h] at hn; exact .inl hn
  · intro n a hn
    simp only at hn
    split at hn
    · simp only [Option.some.injEq] at hn; exact .inr (.inl (by omega))
    · exact .inl hn
noncomputable def tryB (args : List Value) (l : List BFact) : M Nat Value := List.rec (motive := fun _ => M Nat Value) fail (fun x _ ih => bind (mArgs x.args args) fun o => match o with
  | some _ => ansM x.v
  | none => ih) l
theorem loc_tryB (args : List Value) : ∀ l : List BFact, Loc (tryB args l)
  | [] => loc_fail
  | x :: l => loc_bind (loc_mArgs _ _) fun o => by
    split
    · exact loc_ansM _
    · exact loc_tryB args l
theorem tryB_ok {f : FuncId} {args : List Value} : ∀ {l : List BFact}, (∀ x ∈ l, x.ok ∧ x.f = f) → ∀ {h h' : Tr (Blk Nat)} {nx nx' : Nat} {R W : List Nat} {v : Value}, tryB args l h nx = .ok v h' nx' R W → ∀ (r : Ren) (w : World) (args' : List Value), VsR r args args' → Mod natSig r h.get w → New r nx nx' → Goes f args' r w nx nx' W h'.get v
  | [], _, h, h', nx, nx', R, W, v, e => by exact absurd (show (fail : M Nat Value) h nx = _ from e) (by simp [fail])
  | x :: l, hl, h, h', nx, nx', R, W, v, e => by
    intro r w args' ha hM hN
    obtain ⟨o, h1, nx1, R1, W1, R2, W2, e1, e2, rfl, rfl⟩ := bind_ok (show bind (mArgs x.args args) _ h nx = _ from e)
    obtain ⟨rfl, rfl, rfl, hm⟩ := mArgs_ok e1
    cases o with
    | none => simpa using tryB_ok (fun y hy => hl y (List.mem_cons_of_mem _ hy)) (show tryB args l _ _ = _ from e2) r w args' ha hM hN
    | some ns =>
      simp only at e2
      obtain ⟨bs, hA, _⟩ := hm ns rfl ha hM
      obtain ⟨hok, rfl⟩ := hl x List.mem_cons_self
      have hc := hok w args' bs hM.fits hM.base hA
      unfold ansM at e2
      cases hv : x.v with
      | one u =>
        rw [hv] at e2 hc
        simp only at e2
        obtain ⟨hp, e3⟩ := cond_ok e2
        refine goes_val3 (show (ret u : M Nat Value) _ _ = .ok v h' nx' R2 ([] ++ W2) from by simpa using e3) hp hM (hc.mono ?_)
        rintro en w' ⟨v', rfl, q, hb⟩
        exact ⟨by rw [show v' = u from q], hb⟩
      | pair t s n cs u =>
        rw [hv] at e2 hc
        simp only at e2
        obtain ⟨hp, e3⟩ := cond_ok e2
        simp only [Bool.and_eq_true] at hp
        obtain ⟨m, h3, nx3, R3, W3, R4, W4, e4, e5, rfl, rfl⟩ := bind_ok e3
        obtain ⟨rfl, rfl, rfl, rfl⟩ := ret_ok e5
        unfold fresh at e4
        cases e4
        refine hc.mono ?_
        rintro en w' ⟨v', rfl, ⟨b, c, rfl, hge, cl, q1, q2, q3, q4⟩, hb⟩
        obtain ⟨r', hX, hb1, hl1⟩ := ext_come hM hb hN hge q1 q2 hp.1.2
        refine ⟨_, r', rfl, .tuple (.cons (.slicex hb1 (Nat.le_of_ble_eq_true hp.2) q3 (by rw [hl1, Nat.zero_add]; exact q4)) (.cons (VR.same2 hp.1.1) .nil)), by simpa using hX.congr fun k => .inr (Tr.get_set _ _ _ _)⟩
noncomputable def ofF (f : FuncId) (l : List BFact) : List BFact := List.rec (motive := fun _ => List BFact) [] (fun x _ ih => cond (Nat.beq x.f f) (x :: ih) ih) l
theorem ofF_ok {f : FuncId} : ∀ {l : List BFact}, (∀ x ∈ l, x.ok) → ∀ x ∈ ofF f l, x.ok ∧ x.f = f
  | [], _, x, hx => by simp [ofF] at hx
  | y :: l, h, x, hx => by
    have e : ofF f (y :: l) = cond (Nat.beq y.f f) (y :: ofF f l) (ofF f l) := rfl
    rw [e] at hx
    cases hb : Nat.beq y.f f with
    | false => rw [hb] at hx; exact ofF_ok (fun z hz => h z (List.mem_cons_of_mem _ hz)) x hx
    | true =>
      rw [hb] at hx
      rcases List.mem_cons.1 hx with rfl | hx
      · exact ⟨h x List.mem_cons_self, Nat.eq_of_beq_eq_true hb⟩
      · exact ofF_ok (fun z hz => h z (List.mem_cons_of_mem _ hz)) x hx
noncomputable def knownB (lb : List BFact) (l : List Fact) : Sums Nat := fun f args => match ofF f lb with
  | [] => knownR l f args
  | x :: xs => some (tryB args (x :: xs))
theorem knownB_ok {lb : List BFact} {l : List Fact} (hb : ∀ x ∈ lb, x.ok) (hl : ∀ x ∈ l, x.ok) : SumOK natSig Tryz.prog (knownB lb l) := by
  have hk := knownR_ok hl
  refine ⟨fun f args m e => ?_, fun f args m e h nx v h' nx' R W hr r w args' ha hM hN => ?_⟩
  · unfold knownB at e
    cases hq : ofF f lb with
    | nil => rw [hq] at e; exact hk.loc f args m e
    | cons x xs => rw [hq] at e; cases e; exact loc_tryB _ _
  · unfold knownB at e
    cases hq : ofF f lb with
    | nil => rw [hq] at e; exact hk.run f args m e h nx v h' nx' R W hr r w args' ha hM hN
    | cons x xs =>
      rw [hq] at e
      cases e
      exact tryB_ok (fun y hy => ofF_ok hb y (by rw [hq]; exact hy)) hr.ok r w args' ha hM hN
end Ev
end Go.Proofs.YtaefgofheiegeaaGreatDoor
namespace Go.Proofs.YtaefgofheiegeaaGreatDoor
open Go Go.RowKit
namespace Ev
noncomputable def packA (k : Nat) (l : List Value) : List Value := match k with
  | 0 => l
  | k + 1 => .agg ⟨l.take (k + 1)⟩ :: l.drop (k + 1)
noncomputable def unpA (k : Nat) (l : List Value) : Option (List Value) := match k with
  | 0 => some l
  | k + 1 => match l with
    | v :: us => match v with
      | .agg cs => cond (Nat.beq cs.toList.length (k + 1)) (some (cs.toList ++ us)) none
      | _ => none
    | [] => none
theorem vsr_td {r : Ren} : ∀ {l l' : List Value}, VsR r l l' → ∀ n, VsR r (l.take n) (l'.take n) ∧ VsR r (l.drop n) (l'.drop n)
  | [], l', h, n => by
    cases h
    simp only [List.take_nil, List.drop_nil]
    exact ⟨.nil, .nil⟩
  | a :: l, l', h, n => by
    cases h with
    | cons h1 h2 =>
      cases n with
      | zero => exact ⟨.nil, .cons h1 h2⟩
      | succ n => exact ⟨.cons h1 (vsr_td h2 n).1, (vsr_td h2 n).2⟩
theorem vsr_app {r : Ren} : ∀ {l l' m m' : List Value}, VsR r l l' → VsR r m m' → VsR r (l ++ m) (l' ++ m')
  | [], l', m, m', h, k => by cases h; exact k
  | a :: l, l', m, m', h, k => by
    cases h with
    | cons h1 h2 => exact .cons h1 (vsr_app h2 k)
theorem vr_aggA {r : Ren} {l : List Value} {v' : Value} (h : VR r (.agg ⟨l⟩) v') : ∃ l', v' = .agg ⟨l'⟩ ∧ VsR r l l' := by
  cases h with
  | same p => simp [plain] at p
  | agg a => exact ⟨_, rfl, a⟩
theorem packA_vr {r : Ren} (k : Nat) {l l' : List Value} (h : VsR r l l') : VsR r (packA k l) (packA k l') := by
  cases k with
  | zero => exact h
  | succ k => exact .cons (.agg (vsr_td h (k + 1)).1) (vsr_td h (k + 1)).2
theorem unpA_ok {r : Ren} {k : Nat} {l us l' : List Value} (e : unpA k l = some us) (h : VsR r l l') : ∃ us', VsR r us us' ∧ l' = packA k us' := by
  cases k with
  | zero =>
    cases e
    exact ⟨l', h, rfl⟩
  | succ k =>
    unfold unpA at e
    cases l with
    | nil => cases e
    | cons v vs =>
      simp only at e
      cases v <;> first | (cases e; done) | skip
      rename_i cs
      simp only at e
      cases hb : Nat.beq cs.toList.length (k + 1) with
      | false => rw [hb] at e; cases e
      | true =>
        rw [hb] at e
        cases e
        have hl := Nat.eq_of_beq_eq_true hb
        cases h with
        | cons h1 h2 =>
          obtain ⟨cl⟩ := cs
          obtain ⟨cl', rfl, h3⟩ := vr_aggA h1
          have hl' : cl'.length = k + 1 := by rw [h3.length]; exact hl
          refine ⟨_, vsr_app h3 h2, ?_⟩
          show _ = Value.agg ⟨(cl' ++ _).take (k + 1)⟩ :: (cl' ++ _).drop (k + 1)
          rw [← hl', List.take_left, List.drop_left]
structure SFact where
  f : FuncId
  sh : Nat
  args : List BArg
  v : BAns
def SFact.ok (x : SFact) : Prop := ∀ (w : World) (vs : List Value) (bs : List Nat), Tryz.prog.globals.size ≤ w.heap.size → TabB w → ArgsAre w x.args vs bs →
  Calls Tryz.prog x.f ⟨packA x.sh vs⟩ w fun e w' => ∃ v', e = .returned v' ∧ x.v.is w.heap.size w' v' ∧ Below w.heap.size w w'
noncomputable def srun (sum : Sums Nat) (n : Nat) (f : FuncId) (sh : Nat) (args : List BArg) : Option BAns :=
  cond (argOk args && Nat.ble args.length 1000) (match call Tryz.prog natCfg sum n f (packA sh (argV args 100000)) (mkTab (argH args 100000)) 200000 with
    | .no => none
    | .ok v h _ _ W => cond (geAll 200000 W) (ansB h 200000 v) none) none
theorem SFact.by_run {sum : Sums Nat} (hs : SumOK natSig Tryz.prog sum) {x : SFact} {n : Nat} (h : srun sum n x.f x.sh x.args = some x.v) : x.ok := by
  intro w vs bs hG hT hA
  unfold srun at h
  cases hok0 : (argOk x.args && Nat.ble x.args.length 1000) with
  | false => rw [hok0] at h; cases h
  | true =>
    rw [hok0] at h
    simp only [cond_true] at h
    simp only [Bool.and_eq_true] at hok0
    obtain ⟨hok, hfew⟩ := hok0
    have hfew := Nat.le_trans (args_few hA) (Nat.le_of_ble_eq_true hfew)
    cases hc : call Tryz.prog natCfg sum n x.f (packA x.sh (argV x.args 100000)) (mkTab (argH x.args 100000)) 200000 with
    | no => rw [hc] at h; cases h
    | ok v h' nx' R W =>
      rw [hc] at h
      simp only at h
      cases hg : geAll 200000 W with
      | false => rw [hg] at h; cases h
      | true =>
        rw [hg] at h
        simp only [cond_true] at h
        have hW := geAll_ok hg
        obtain ⟨ap1, ap2⟩ := args_apart hA
        have hGf := globs_few
        have hfr : Fr (mkTab (argH x.args 100000)) 200000 := fr_mkTab fun y hy => by
          have := argsAre_len hA 100000 y hy
          omega
        have hcl := call_ok natFits hs n
        have hrun := Run.self (hcl.loc x.f (packA x.sh (argV x.args 100000))) hc hfr
        have L := (hcl.loc x.f (packA x.sh (argV x.args 100000))).2 _ _ _ _ _ _ _ hc hfr
        obtain ⟨r1, hr1⟩ : ∃ r1 : Ren, r1 = ⟨fun n => if n < Tryz.prog.globals.size then some n else if 100000 ≤ n then bs[n - 100000]? else none, fun _ => none, fun n => match bs[n - 100000]? with
            | some b => match w.heap[b]? with
              | some (.cells c _ _) => c.size
              | _ => 0
            | none => 0⟩ := ⟨_, rfl⟩
        have hb1 : ∀ n, r1.blk n = if n < Tryz.prog.globals.size then some n else if 100000 ≤ n then bs[n - 100000]? else none := fun n => by rw [hr1]
        have hbig : ∀ n, 100000 ≤ n → r1.blk n = bs[n - 100000]? := fun n hn => by rw [hb1, if_neg (by omega), if_pos hn]
        have hbr : BRen r1 w 100000 bs := fun j b hj => by
          have hj2 := (List.getElem?_eq_some_iff.1 hj).1
          have e1 : 100000 + j - 100000 = j := by omega
          obtain ⟨_, cl, t, hh⟩ := ap2 b (List.mem_of_getElem? hj)
          refine ⟨by rw [hbig _ (by omega), e1]; exact hj, cl, t, hh, ?_⟩
          rw [hr1]
          simp only [e1, hj, hh]
          simp
        have hrow : ∀ n b, 100000 ≤ n → r1.blk n = some b → bs[n - 100000]? = some b := fun n b hn q => by rw [hbig n hn] at q; exact q
        have hM : Mod natSig r1 (mkTab (argH x.args 100000)).get w := by
          have hno : ∀ n bl, (mkTab (argH x.args 100000)).get n = some bl → ∃ j b cs t, n = 100000 + j ∧ bl = .room cs t ∧ bs[j]? = some b ∧ (∃ cl, w.heap[b]? = some (.cells ⟨cl⟩ t (0, 0)) ∧ cl.take cs.length = cs) ∧ plainL plain cs = true := fun n bl hn => by
            obtain ⟨j, b, cs, t, q1, q2⟩ := argH_room (i := 100000) hA hok _ (mkTab_get hn)
            cases q1
            exact ⟨j, b, cs, t, rfl, rfl, q2⟩
          refine ⟨fun n m b q1 q2 => ?_, fun n b q => ?_, fun n c t q => ?_, fun n k q => ?_, hT, fun n hn => by rw [hb1]; exact if_pos hn, fun n b q hn => ?_, fun n c t q => ?_, Nat.zero_le _, (fun n s q => by
            obtain ⟨_, _, _, _, _, q2, _⟩ := hno n _ q
            cases q2), (fun n f q => by
            obtain ⟨_, _, _, _, _, q2, _⟩ := hno n _ q
            cases q2), fun n m x q => by
            obtain ⟨_, _, _, _, _, q2, _⟩ := hno n _ q
            cases q2⟩
          · left
            rw [hb1] at q1 q2
            split at q1 <;> split at q2
            · cases q1; cases q2; rfl
            · rename_i a1 a2
              split at q2
              · cases q1
                have := (ap2 _ (List.mem_of_getElem? q2)).1
                omega
              · cases q2
            · rename_i a1 a2
              split at q1
              · cases q2
                have := (ap2 _ (List.mem_of_getElem? q1)).1
                omega
              · cases q1
            · split at q1
              · split at q2
                · have := ap1 _ _ b q1 q2
                  omega
                · cases q2
              · cases q1
          · rw [hb1] at q
            split at q
            · cases q; omega
            · split at q
              · obtain ⟨_, cl, t, hh⟩ := ap2 b (List.mem_of_getElem? q)
                exact (Array.getElem?_eq_some_iff.1 hh).1
              · cases q
          · obtain ⟨_, _, _, _, _, q2, _⟩ := hno n _ q
            cases q2
          · obtain ⟨_, _, _, _, _, q2, _⟩ := hno n _ q
            cases q2
          · rw [hb1] at q
            split at q
            · rename_i a; exact absurd a (Nat.not_lt.2 hn)
            · split at q
              · exact (ap2 b (List.mem_of_getElem? q)).1
              · cases q
          · obtain ⟨j, b, cs, t', rfl, q2, q3, ⟨cl, q4, q5⟩, q6⟩ := hno n _ q
            cases q2
            obtain ⟨p1, cl2, t2, p2, p3⟩ := hbr j b q3
            rw [q4] at p2
            simp only [Option.some.injEq, Obj.cells.injEq, Array.mk.injEq] at p2
            exact ⟨b, cl, p1, q4, plain_pre q5 q6, id, by rw [p3, p2.1]; exact Nat.le_refl _⟩
        have hN : New r1 200000 nx' := fun n q1 q2 => by
          refine ⟨?_, by rw [hr1]⟩
          rw [hbig n (by omega)]
          exact List.getElem?_eq_none_iff.2 (by omega)
        refine (hcl.run x.f _ _ _ _ _ _ _ _ hrun r1 w _ (packA_vr x.sh (args_vr hA hok hbr)) hM hN).mono ?_
        rintro en w' ⟨v', r', rfl, hv, hX⟩
        have hnone : ∀ m, 200000 ≤ m → r1.blk m = none := fun m hm => by
          rw [hbig m (by omega)]
          exact List.getElem?_eq_none_iff.2 (by omega)
        refine ⟨v', rfl, ansB_ok h hv hX.mod (fun m b hm hb => ?_), hX.os, hX.tape, hX.output, hX.size, fun b hb' => ?_⟩
        · rcases hX.new m b hb with q | q | ⟨k, hk, q⟩
          · rw [hnone m hm] at q; cases q
          · exact q
          · rw [hnone k (hW k hk)] at q; cases q
        · have hbo : w.heap[b]? = some w.heap[b] := Array.getElem?_eq_getElem hb'
          rw [hbo]
          exact hX.keep b _ hbo fun k hk q => by rw [hnone k (hW k hk)] at q; cases q
noncomputable def tryP (args : List Value) (l : List SFact) : M Nat Value := List.rec (motive := fun _ => M Nat Value) fail (fun x _ ih => match unpA x.sh args with
  | some us => bind (mArgs x.args us) fun o => match o with
    | some _ => ansM x.v
    | none => ih
  | none => ih) l
theorem tryP_eq (args : List Value) (x : SFact) (l : List SFact) : tryP args (x :: l) = (match unpA x.sh args with
  | some us => bind (mArgs x.args us) fun o => match o with
    | some _ => ansM x.v
    | none => tryP args l
  | none => tryP args l) := rfl
theorem loc_tryP (args : List Value) : ∀ l : List SFact, Loc (tryP args l)
  | [] => loc_fail
  | x :: l => by
    rw [tryP_eq]
    split
    · refine loc_bind (loc_mArgs _ _) fun o => ?_
      split
      · exact loc_ansM _
      · exact loc_tryP args l
    · exact loc_tryP args l
theorem tryP_ok {f : FuncId} {args : List Value} : ∀ {l : List SFact}, (∀ x ∈ l, x.ok ∧ x.f = f) → ∀ {h h' : Tr (Blk Nat)} {nx nx' : Nat} {R W : List Nat} {v : Value}, tryP args l h nx = .ok v h' nx' R W → ∀ (r : Ren) (w : World) (args' : List Value), VsR r args args' → Mod natSig r h.get w → New r nx nx' →
    Calls Tryz.prog f ⟨args'⟩ w fun e w' => ∃ v' r', e = .returned v' ∧ VR r' v v' ∧ Ext natSig r w nx nx' W h'.get r' w'
  | [], _, h, h', nx, nx', R, W, v, e => by exact absurd (show (fail : M Nat Value) h nx = _ from e) (by simp [fail])
  | x :: l, hl, h, h', nx, nx', R, W, v, e => by
    intro r w args' ha hM hN
    have rest := fun q => tryP_ok (f := f) (args := args) (l := l) (fun y hy => hl y (List.mem_cons_of_mem _ hy)) (h := h) (h' := h') (nx := nx) (nx' := nx') (R := R) (W := W) (v := v) q r w args' ha hM hN
    rw [tryP_eq] at e
    cases hu : unpA x.sh args with
    | none => rw [hu] at e; exact rest e
    | some us =>
      rw [hu] at e
      simp only at e
      obtain ⟨us', hv, rfl⟩ := unpA_ok hu ha
      obtain ⟨o, h1, nx1, R1, W1, R2, W2, e1, e2, rfl, rfl⟩ := bind_ok e
      obtain ⟨rfl, rfl, rfl, hm⟩ := mArgs_ok e1
      cases o with
      | none => simpa using tryP_ok (f := f) (args := args) (l := l) (fun y hy => hl y (List.mem_cons_of_mem _ hy)) (show tryP args l _ _ = _ from e2) r w _ ha hM hN
      | some ns =>
        simp only at e2
        obtain ⟨bs, hA, _⟩ := hm ns rfl hv hM
        obtain ⟨hok, rfl⟩ := hl x List.mem_cons_self
        have hc := hok w us' bs hM.fits hM.base hA
        unfold ansM at e2
        cases hxv : x.v with
        | one u =>
          rw [hxv] at e2 hc
          simp only at e2
          obtain ⟨hp, e3⟩ := cond_ok e2
          refine goes_val3 (show (ret u : M Nat Value) _ _ = .ok v h' nx' R2 ([] ++ W2) from by simpa using e3) hp hM (hc.mono ?_)
          rintro en w' ⟨v', rfl, q, hb⟩
          exact ⟨by rw [show v' = u from q], hb⟩
        | pair t s n cs u =>
          rw [hxv] at e2 hc
          simp only at e2
          obtain ⟨hp, e3⟩ := cond_ok e2
          simp only [Bool.and_eq_true] at hp
          obtain ⟨m, h3, nx3, R3, W3, R4, W4, e4, e5, rfl, rfl⟩ := bind_ok e3
          obtain ⟨rfl, rfl, rfl, rfl⟩ := ret_ok e5
          unfold fresh at e4
          cases e4
          refine hc.mono ?_
          rintro en w' ⟨v', rfl, ⟨b, c, rfl, hge, cl, q1, q2, q3, q4⟩, hb⟩
          obtain ⟨r', hX, hb1, hl1⟩ := ext_come hM hb hN hge q1 q2 hp.1.2
          refine ⟨_, r', rfl, .tuple (.cons (.slicex hb1 (Nat.le_of_ble_eq_true hp.2) q3 (by rw [hl1, Nat.zero_add]; exact q4)) (.cons (VR.same2 hp.1.1) .nil)), by simpa using hX.congr fun k => .inr (Tr.get_set _ _ _ _)⟩
noncomputable def ofP (f : FuncId) (l : List SFact) : List SFact := List.rec (motive := fun _ => List SFact) [] (fun x _ ih => cond (Nat.beq x.f f) (x :: ih) ih) l
theorem ofP_ok {f : FuncId} : ∀ {l : List SFact}, (∀ x ∈ l, x.ok) → ∀ x ∈ ofP f l, x.ok ∧ x.f = f
  | [], _, x, hx => by simp [ofP] at hx
  | y :: l, h, x, hx => by
    have e : ofP f (y :: l) = cond (Nat.beq y.f f) (y :: ofP f l) (ofP f l) := rfl
    rw [e] at hx
    cases hb : Nat.beq y.f f with
    | false => rw [hb] at hx; exact ofP_ok (fun z hz => h z (List.mem_cons_of_mem _ hz)) x hx
    | true =>
      rw [hb] at hx
      rcases List.mem_cons.1 hx with rfl | hx
      · exact ⟨h x List.mem_cons_self, Nat.eq_of_beq_eq_true hb⟩
      · exact ofP_ok (fun z hz => h z (List.mem_cons_of_mem _ hz)) x hx
noncomputable def knownP (ls : List SFact) (lb : List BFact) (l : List Fact) : Sums Nat := fun f args => match ofP f ls with
  | [] => knownB lb l f args
  | x :: xs => some (tryP args (x :: xs))
theorem knownP_ok {ls : List SFact} {lb : List BFact} {l : List Fact} (hp : ∀ x ∈ ls, x.ok) (hb : ∀ x ∈ lb, x.ok) (hl : ∀ x ∈ l, x.ok) : SumOK natSig Tryz.prog (knownP ls lb l) := by
  have hk := knownB_ok hb hl
  refine ⟨fun f args m e => ?_, fun f args m e h nx v h' nx' R W hr r w args' ha hM hN => ?_⟩
  · unfold knownP at e
    cases hq : ofP f ls with
    | nil => rw [hq] at e; exact hk.loc f args m e
    | cons x xs => rw [hq] at e; cases e; exact loc_tryP _ _
  · unfold knownP at e
    cases hq : ofP f ls with
    | nil => rw [hq] at e; exact hk.run f args m e h nx v h' nx' R W hr r w args' ha hM hN
    | cons x xs =>
      rw [hq] at e
      cases e
      exact tryP_ok (fun y hy => ofP_ok hp y (by rw [hq]; exact hy)) hr.ok r w args' ha hM hN
noncomputable def runsP (ls : List SFact) (lb : List BFact) (l : List Fact) (n : Nat) (f : FuncId) (args : List Value) : Option Value := gives 100000 (call Tryz.prog natCfg (knownP ls lb l) n f args)
theorem runsP_calls {ls : List SFact} {lb : List BFact} {l : List Fact} (hp : ∀ x ∈ ls, x.ok) (hb : ∀ x ∈ lb, x.ok) (hl : ∀ x ∈ l, x.ok) {n : Nat} {f : FuncId} {args : List Value} {v : Value} (e : runsP ls lb l n f args = some v) (ha : plains args = true) {w : World} (hG : Tryz.prog.globals.size ≤ w.heap.size) (hT : TabB w) :
    Calls Tryz.prog f ⟨args⟩ w fun e w' => e = .returned v ∧ Below w.heap.size w w' :=
  gives_calls natFits (knownP_ok hp hb hl) e ha glob_few hG hT
end Ev
end Go.Proofs.YtaefgofheiegeaaGreatDoor
namespace Go.Proofs.YtaefgofheiegeaaGreatDoor
open Go Go.RowKit
namespace Ev
theorem mk0_ok : ∀ x ∈ ([] : List Fact), x.ok := fun _ h => by cases h
end Ev
end Go.Proofs.YtaefgofheiegeaaGreatDoor
