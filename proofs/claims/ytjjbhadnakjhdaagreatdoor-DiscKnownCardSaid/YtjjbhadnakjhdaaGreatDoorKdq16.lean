/- Contracts, in this order: The interpreter: from a run to what the program does. · The interpreter: calls of plain values whose answers are kno -/
import Derived.Test.YtjjbhadnakjhdaaGreatDoorKdq15
namespace Go.Proofs.YtjjbhadnakjhdaaGreatDoor
open Go Go.RowKit
namespace Ev
section
variable {F : Type} {S : Sig F} {P : Program}
noncomputable def geAll (k : Nat) (l : List Nat) : Bool := List.rec (motive := fun _ => Bool) true (fun n _ ih => Bool.rec (motive := fun _ => Bool) false ih (Nat.ble k n)) l
theorem geAll_ok {k : Nat} : ∀ {l : List Nat}, geAll k l = true → ∀ n ∈ l, k ≤ n
  | [], _, n, hn => by simp at hn
  | m :: l, h, n, hn => by
    have h' : (Bool.rec (motive := fun _ => Bool) false (geAll k l) (Nat.ble k m) : Bool) = true := h
    cases hb : Nat.ble k m with
    | false => rw [hb] at h'; cases h'
    | true =>
      rw [hb] at h'
      rcases List.mem_cons.1 hn with rfl | hn
      · exact Nat.le_of_ble_eq_true hb
      · exact geAll_ok h' n hn
noncomputable def plains (l : List Value) : Bool := plainL plain2 l
theorem plains_ok {r : Ren} : ∀ {l : List Value}, plains l = true → VsR r l l
  | [], _ => .nil
  | v :: l, h => by
    have h' : (plain2 v && plains l) = true := h
    simp only [Bool.and_eq_true] at h'
    exact .cons (VR.same2 h'.1) (plains_ok h'.2)
theorem VsR_eq {r : Ren} : ∀ {l l' : List Value}, plains l = true → VsR r l l' → l' = l
  | [], _, _, h => by cases h; rfl
  | v :: l, _, hp, h => by
    have h' : (plain2 v && plains l) = true := hp
    simp only [Bool.and_eq_true] at h'
    cases h with
    | cons a b => rw [a.eq_of_plain2 h'.1, VsR_eq h'.2 b]
noncomputable def plain3 (v : Value) : Bool := match v with
  | .tuple cs => plains cs.toList
  | v => plain2 v
theorem same3 {r : Ren} {v : Value} (h : plain3 v = true) : VR r v v := by
  cases v with
  | tuple cs => cases cs; exact .tuple (plains_ok (by simpa [plain3] using h))
  | _ => exact VR.same2 h
theorem eq_of_plain3 {r : Ren} {v v' : Value} (h : VR r v v') (hp : plain3 v = true) : v' = v := by
  cases h with
  | tuple a => rw [VsR_eq (by simpa [plain3] using hp) a]
  | same p => rfl
  | ptr p => exact (VR.ptr p).eq_of_plain2 hp
  | slice p hc => exact (VR.slice p hc).eq_of_plain2 hp
  | slicex p hc h1 h2 => exact (VR.slicex p hc h1 h2).eq_of_plain2 hp
  | agg a => exact (VR.agg a).eq_of_plain2 hp
  | opq p o => exact (VR.opq p o).eq_of_plain2 hp
  | func a b => exact (VR.func a b).eq_of_plain2 hp
  | iface a => exact (VR.iface a).eq_of_plain2 hp
noncomputable def gives (nx : Nat) (m : M F Value) : Option Value := match m .nil nx with
  | .no => none
  | .ok a _ _ _ W => cond (plain3 a && geAll nx W) (some a) none
theorem gives_ok {nx : Nat} {m : M F Value} {v : Value} (e : gives nx m = some v) : ∃ h' nx' R W, m .nil nx = .ok v h' nx' R W ∧ plain3 v = true ∧ ∀ n ∈ W, nx ≤ n := by
  unfold gives at e
  cases hm : m .nil nx with
  | no => rw [hm] at e; cases e
  | ok a h' nx' R W =>
    rw [hm] at e
    simp only at e
    cases hc : (plain3 a && geAll nx W) with
    | false => rw [hc] at e; cases e
    | true =>
      rw [hc] at e
      simp only [cond_true, Option.some.injEq] at e
      subst e
      simp only [Bool.and_eq_true] at hc
      exact ⟨h', nx', R, W, rfl, hc.1, geAll_ok hc.2⟩
noncomputable def ren0 (G : Nat) : Ren := ⟨fun n => if n < G then some n else none, fun _ => none, fun _ => 0⟩
theorem mod0 {w : World} (hG : S.G ≤ w.heap.size) (hb : S.base w) : Mod S (ren0 S.G) (fun _ => none) w := by
  refine ⟨fun n m b h1 h2 => ?_, fun n b h => ?_, fun n c t h => (by cases h), fun n f h => (by cases h), hb, fun n hn => if_pos hn, fun n b h hn => ?_, fun n c t h => (by cases h)⟩
  · unfold ren0 at h1 h2
    simp only at h1 h2
    split at h1 <;> split at h2 <;> first | (cases h1; cases h2; exact .inl rfl) | (cases h1; done) | (cases h2; done)
  · unfold ren0 at h
    simp only at h
    split at h
    · cases h; omega
    · cases h
  · rw [show (ren0 S.G).blk n = none from if_neg (by omega)] at h; cases h
theorem gives_calls {C : Cfg F} [HardLoc C] {sum : Sums F} {n nx : Nat} {f : FuncId} {args : List Value} {v : Value} (hF : Fits S P C) (hs : SumOK S P sum) (e : gives nx (call P C sum n f args) = some v) (ha : plains args = true) (hx : S.G ≤ nx) {w : World} (hG : S.G ≤ w.heap.size) (hb : S.base w) :
    Calls P f ⟨args⟩ w fun e w' => e = .returned v ∧ Below w.heap.size w w' := by
  obtain ⟨h', nx', R, W, hm, hp, hW⟩ := gives_ok e
  have hc := call_ok hF hs n
  have hfr : Fr (.nil : Tr (Blk F)) nx := fun k _ => Tr.get_nil k
  have hrun := Run.self (hc.loc f args) hm hfr
  have hN : New (ren0 S.G) nx nx' := fun k h1 h2 => ⟨if_neg (by omega), rfl⟩
  have hg : (Tr.get (.nil : Tr (Blk F))) = fun _ => none := funext fun k => Tr.get_nil k
  refine (hc.run f args _ _ _ _ _ _ _ hrun (ren0 S.G) w args (plains_ok ha) (by rw [hg]; exact mod0 hG hb) hN).mono ?_
  rintro en w' ⟨v', r', rfl, hv, hX⟩
  have hv' := eq_of_plain3 hv hp
  subst hv'
  refine ⟨rfl, hX.os, hX.tape, hX.output, hX.size, fun b hb' => ?_⟩
  have hbo : w.heap[b]? = some w.heap[b] := Array.getElem?_eq_getElem hb'
  rw [hbo]
  exact hX.keep b _ hbo fun k hk => by
    have := hW k hk
    show ¬ (if k < S.G then some k else none) = some b
    rw [if_neg (by omega)]
    simp
end
noncomputable def natList : List (Nat × (List Value → Option (M Nat Value))) := [
  (226, fun args => two args fun n m => newFact (Nat.add n m)),
  (227, fun args => two args fun n m => newFact (Nat.sub n m)),
  (140, fun args => two args fun n m => newFact (Nat.mul n m)),
  (138, fun args => two args fun n m => newFact (Nat.div n m)),
  (137, fun args => two args fun n m => newFact (Nat.gcd n m)),
  (221, fun args => two args fun n m => bind (newFact (Nat.div n m)) fun x => bind (newFact (Nat.mod n m)) fun y => ret (.tuple ⟨[x, y]⟩)),
  (141, fun args => two args fun n m => ret (.int .i64 (Big.cmpI n m))),
  (150, fun args => one args fun n => ret (.bool (decide (n = 1)))),
  (200, fun args => one args fun n => ret (.int .i64 ((szN n : Nat) : Int))),
  (297, fun args => one args fun n => ret (.int .i64 ((bitsN n : Nat) : Int))),
  (219, fun args => one args fun n => ret (.string (bst n))),
  (298, fun args => one args fun n => ret (.tuple #[.int .u64 (((if n < Big.M64 then n else 0) : Nat) : Int), .bool (decide (n < Big.M64))])),
  (248, fun args => match args with
    | [a, b] => match b with
      | .int k s => cond (decide (k = .i64) && decide (s ≤ 64000000000)) (some (bind (natV a) fun n => cond (small n) (newFact (n * 2 ^ s.toNat)) fail)) none
      | _ => none
    | _ => none),
  (154, fun args => match args with
    | [a] => match a with
      | .string s => cond (Nat.ble s.size 100000 && isTextB s.data.toList) (some (bind (newFact (dnumF s.data.toList 0)) fun x => ret (.tuple ⟨[x, .bool true]⟩))) none
      | _ => none
    | _ => none),
  (116, joinS),
  (307, shrS),
  (305, fun args => one args fun n => ret (.int .i64 ((tzW n : Nat) : Int))),
  (171, tzS),
  (139, fun args => match args with
    | [a] => match a with
      | .int k s => match s with
        | .ofNat n => cond (decide (k = .u64) && Nat.ble (Nat.succ n) 18446744073709551616) (some (newFact n)) none
        | _ => none
      | _ => none
    | _ => none),
  (229, fun args => match args with
    | [a] => match a with
      | .string s => cond (Nat.ble s.size 100000) (some (newFact (Big.bnum s.data.toList))) none
      | _ => none
    | _ => none)]
theorem natList_ok : ∀ x ∈ natList, SumF natSig Tryz.prog x.1 x.2 := by
  unfold natList
  intro x hx
  simp only [List.mem_cons, List.not_mem_nil, or_false] at hx
  rcases hx with rfl | rfl | rfl | rfl | rfl | rfl | rfl | rfl | rfl | hx
  · exact sum_add
  · exact sum_sub
  · exact sum_mul
  · exact sum_quo
  · exact sum_gcd
  · exact sum_quoRem
  · exact sum_cmp
  · exact sum_isOne
  · exact sum_size
  rcases hx with rfl | hx
  · exact sum_bits
  rcases hx with rfl | hx
  · exact sum_bytes
  rcases hx with rfl | hx
  · exact sum_word
  rcases hx with rfl | hx
  · exact sum_shl
  rcases hx with rfl | hx
  · exact sum_parse
  rcases hx with rfl | hx
  · exact sum_join
  rcases hx with rfl | hx
  · exact sum_shr
  rcases hx with rfl | rfl | hx
  · exact sum_twos
  · exact sum_tz
  rcases hx with rfl | rfl
  · exact sum_of
  · exact sum_fromBytes
noncomputable def natSums : Sums Nat := sumsOf (mkTab natList)
theorem natSums_ok : SumOK natSig Tryz.prog natSums := sumsOf_ok natList_ok
noncomputable def runs (n : Nat) (f : FuncId) (args : List Value) : Option Value := gives 100000 (call Tryz.prog natCfg natSums n f args)
theorem glob_few : Tryz.prog.globals.size ≤ 100000 := by
  have h : Nat.ble Tryz.prog.globals.size 100000 = true := by kernel_rfl
  exact Nat.le_of_ble_eq_true h
theorem runs_calls {n : Nat} {f : FuncId} {args : List Value} {v : Value} (e : runs n f args = some v) (ha : plains args = true) {w : World} (hG : Tryz.prog.globals.size ≤ w.heap.size) (hb : Tab w) :
    Calls Tryz.prog f ⟨args⟩ w fun e w' => e = .returned v ∧ Below w.heap.size w w' :=
  gives_calls natFits natSums_ok e ha glob_few hG hb
end Ev
end Go.Proofs.YtjjbhadnakjhdaaGreatDoor
namespace Go.Proofs.YtjjbhadnakjhdaaGreatDoor
open Go Go.RowKit
namespace Ev
noncomputable def eqL {α : Type} (f : α → α → Bool) (l : List α) : List α → Bool := List.rec (motive := fun _ => List α → Bool)
  (fun m => match m with | [] => true | _ :: _ => false) (fun a _ ih m => match m with | [] => false | b :: m => f a b && ih m) l
theorem eqL_ok {α : Type} {f : α → α → Bool} (hf : ∀ a b, f a b = true → a = b) : ∀ {l m : List α}, eqL f l m = true → l = m
  | [], [], _ => rfl
  | [], _ :: _, h => by exact absurd (show false = true from h) (by simp)
  | _ :: _, [], h => by exact absurd (show false = true from h) (by simp)
  | a :: l, b :: m, h => by
    have h' : (f a b && eqL f l m) = true := h
    simp only [Bool.and_eq_true] at h'
    rw [hf _ _ h'.1, eqL_ok hf h'.2]
noncomputable def eqC (a b : UInt8) : Bool := Nat.beq a.toNat b.toNat
theorem eqC_ok (a b : UInt8) (h : eqC a b = true) : a = b := UInt8.toNat_inj.1 (Nat.eq_of_beq_eq_true h)
noncomputable def eqS (s t : ByteArray) : Bool := eqL eqC s.data.toList t.data.toList
theorem eqS_ok {s t : ByteArray} (h : eqS s t = true) : s = t := by
  obtain ⟨⟨l⟩⟩ := s
  obtain ⟨⟨m⟩⟩ := t
  have : l = m := eqL_ok eqC_ok h
  rw [this]
noncomputable def eq1 (v w : Value) : Bool := match v with
  | .bool a => match w with | .bool b => decide (a = b) | _ => false
  | .int k a => match w with | .int l b => decide (k = l) && decide (a = b) | _ => false
  | .float k a => match w with | .float l b => decide (k = l) && Nat.beq a b | _ => false
  | .complex k a b => match w with | .complex l c d => decide (k = l) && (Nat.beq a c && Nat.beq b d) | _ => false
  | .string s => match w with | .string t => eqS s t | _ => false
  | _ => false
theorem eq1_ok (v w : Value) (h : eq1 v w = true) : v = w := by
  unfold eq1 at h
  cases v <;> simp only [Bool.false_eq_true] at h <;> cases w <;> simp only [Bool.false_eq_true, Bool.and_eq_true, decide_eq_true_eq] at h
  · rw [h]
  · rw [h.1, h.2]
  · rw [h.1, Nat.eq_of_beq_eq_true h.2]
  · rw [h.1, Nat.eq_of_beq_eq_true h.2.1, Nat.eq_of_beq_eq_true h.2.2]
  · rw [eqS_ok h]
noncomputable def eqV (v w : Value) : Bool := match v with
  | .agg a => match w with | .agg b => eqL eq1 a.toList b.toList | _ => false
  | _ => eq1 v w
theorem eqV_ok (v w : Value) (h : eqV v w = true) : v = w := by
  unfold eqV at h
  cases v <;> try exact eq1_ok _ _ h
  cases w <;> simp only [Bool.false_eq_true] at h
  rename_i a b
  obtain ⟨l⟩ := a
  obtain ⟨m⟩ := b
  have : l = m := eqL_ok eq1_ok h
  rw [this]
theorem goes_val3 {h h' : Tr (Blk Nat)} {nx nx' : Nat} {R W : List Nat} {r : Ren} {w : World} {u v : Value} {f : FuncId} {args' : List Value} (e : (ret u : M Nat Value) h nx = .ok v h' nx' R W) (hp : plain3 u = true) (hM : Mod natSig r h.get w) (c : Calls Tryz.prog f ⟨args'⟩ w fun e w' => e = .returned u ∧ Below w.heap.size w w') : Goes f args' r w nx nx' W h'.get v := by
  obtain ⟨rfl, rfl, rfl, rfl⟩ := ret_ok e
  refine c.mono ?_
  rintro en w' ⟨rfl, hb⟩
  exact ⟨_, r, rfl, same3 hp, ext_below hM hb _⟩
structure Fact where
  f : FuncId
  args : List Value
  v : Value
def Fact.ok (x : Fact) : Prop := plains x.args = true ∧ plain3 x.v = true ∧ ∀ w : World, Tryz.prog.globals.size ≤ w.heap.size → Tab w → Calls Tryz.prog x.f ⟨x.args⟩ w fun e w' => e = .returned x.v ∧ Below w.heap.size w w'
theorem Fact.of_run {x : Fact} {n : Nat} (h : runs n x.f x.args = some x.v) (ha : plains x.args = true) : x.ok := by
  refine ⟨ha, ?_, fun w hG hT => runs_calls h ha hG hT⟩
  obtain ⟨_, _, _, _, _, hp, _⟩ := gives_ok h
  exact hp
noncomputable def look (f : FuncId) (args : List Value) (l : List Fact) : Option Value := List.rec (motive := fun _ => Option Value) none
  (fun x _ ih => Bool.rec (motive := fun _ => Option Value) ih (Bool.rec (motive := fun _ => Option Value) ih (some x.v) (eqL eqV x.args args)) (Nat.beq x.f f)) l
theorem look_ok {f : FuncId} {args : List Value} {v : Value} : ∀ {l : List Fact}, look f args l = some v → ∃ x ∈ l, x.f = f ∧ x.args = args ∧ x.v = v
  | [], h => by cases h
  | x :: l, h => by
    have h' : (Bool.rec (motive := fun _ => Option Value) (look f args l) (Bool.rec (motive := fun _ => Option Value) (look f args l) (some x.v) (eqL eqV x.args args)) (Nat.beq x.f f) : Option Value) = some v := h
    cases hb : Nat.beq x.f f with
    | false =>
      rw [hb] at h'
      obtain ⟨y, hy, r⟩ := look_ok h'
      exact ⟨y, List.mem_cons_of_mem _ hy, r⟩
    | true =>
      rw [hb] at h'
      cases hc : eqL eqV x.args args with
      | false =>
        rw [hc] at h'
        obtain ⟨y, hy, r⟩ := look_ok h'
        exact ⟨y, List.mem_cons_of_mem _ hy, r⟩
      | true =>
        rw [hc] at h'
        exact ⟨x, List.mem_cons_self, Nat.eq_of_beq_eq_true hb, eqL_ok eqV_ok hc, Option.some.inj h'⟩
noncomputable def known (l : List Fact) : Sums Nat := fun f args => match look f args l with
  | some v => some (ret v)
  | none => natSums f args
theorem known_ok {l : List Fact} (hl : ∀ x ∈ l, x.ok) : SumOK natSig Tryz.prog (known l) := by
  refine ⟨fun f args m e => ?_, fun f args m e h nx v h' nx' R W hr r w args' ha hM hN => ?_⟩
  · unfold known at e
    cases hk : look f args l with
    | none => rw [hk] at e; exact natSums_ok.loc f args m e
    | some v => rw [hk] at e; cases e; exact loc_ret _
  · unfold known at e
    cases hk : look f args l with
    | none => rw [hk] at e; exact natSums_ok.run f args m e h nx v h' nx' R W hr r w args' ha hM hN
    | some u =>
      rw [hk] at e
      cases e
      obtain ⟨x, hx, rfl, rfl, rfl⟩ := look_ok hk
      obtain ⟨h1, h2, h3⟩ := hl x hx
      obtain rfl : args' = x.args := VsR_eq h1 ha
      have hG : Tryz.prog.globals.size ≤ w.heap.size := by
        rcases Nat.eq_zero_or_pos Tryz.prog.globals.size with h0 | h0
        · omega
        · have := hM.lt _ _ (hM.glob (Tryz.prog.globals.size - 1) (show _ < Tryz.prog.globals.size by omega))
          omega
      exact goes_val3 hr.ok h2 hM (h3 w hG hM.base)
noncomputable def runsBy (l : List Fact) (n : Nat) (f : FuncId) (args : List Value) : Option Value := gives 100000 (call Tryz.prog natCfg (known l) n f args)
theorem runsBy_calls {l : List Fact} (hl : ∀ x ∈ l, x.ok) {n : Nat} {f : FuncId} {args : List Value} {v : Value} (e : runsBy l n f args = some v) (ha : plains args = true) {w : World} (hG : Tryz.prog.globals.size ≤ w.heap.size) (hb : Tab w) :
    Calls Tryz.prog f ⟨args⟩ w fun e w' => e = .returned v ∧ Below w.heap.size w w' :=
  gives_calls natFits (known_ok hl) e ha glob_few hG hb
end Ev
end Go.Proofs.YtjjbhadnakjhdaaGreatDoor
