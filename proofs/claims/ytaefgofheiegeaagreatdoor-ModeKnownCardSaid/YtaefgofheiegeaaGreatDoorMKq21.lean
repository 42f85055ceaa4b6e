/- Contracts, in this order: The interpreter: calls of plain values whose answers are kno · The interpreter: runs within a run that make no numbers and  -/
import Derived.Test.YtaefgofheiegeaaGreatDoorMKq20
namespace Go.Proofs.YtaefgofheiegeaaGreatDoor
open Go Go.RowKit
namespace Ev
noncomputable def eqL {α : Type} (f : α → α → Bool) (l : List α) : List α → Bool := List.rec (motive := fun _ => List α → Bool)
  (fun m => match m with | [] => true | _ :: _ => false) (fun a _ ih m => match m with | [] => false | b :: m => f a b && ih m) l
theorem eqL_ok {α : Type} {f : α → α → Bool} (hf : ∀ a b, f a b = true → a = b) : ∀ {l m : List α}, eqL f l m = true → l = m
  | [], [], _ => rfl
  | [], _ :: _, h => by exact absurd (show false = true from h) (by simp)
  | _ :: _, [], h => by exact absurd (show false = true from h) (by simp)
  | a :: l, b :: m, h => by
    have h' : (f a b && eqL f l m) = true := h
    simp only [Bool.and_eq_true] at h'
    rw [hf _ _ h'.1, eqL_ok hf h'.2]
noncomputable def eqC (a b : UInt8) : Bool := Nat.beq a.toNat b.toNat
theorem eqC_ok (a b : UInt8) (h : eqC a b = true) : a = b := UInt8.toNat_inj.1 (Nat.eq_of_beq_eq_true h)
noncomputable def eqS (s t : ByteArray) : Bool := eqL eqC s.data.toList t.data.toList
theorem eqS_ok {s t : ByteArray} (h : eqS s t = true) : s = t := by
  obtain ⟨⟨l⟩⟩ := s
  obtain ⟨⟨m⟩⟩ := t
  have : l = m := eqL_ok eqC_ok h
  rw [this]
noncomputable def eq1 (v w : Value) : Bool := match v with
  | .bool a => match w with | .bool b => decide (a = b) | _ => false
  | .int k a => match w with | .int l b => decide (k = l) && decide (a = b) | _ => false
  | .float k a => match w with | .float l b => decide (k = l) && Nat.beq a b | _ => false
  | .complex k a b => match w with | .complex l c d => decide (k = l) && (Nat.beq a c && Nat.beq b d) | _ => false
  | .string s => match w with | .string t => eqS s t | _ => false
  | _ => false
theorem eq1_ok (v w : Value) (h : eq1 v w = true) : v = w := by
  unfold eq1 at h
  cases v <;> simp only [Bool.false_eq_true] at h <;> cases w <;> simp only [Bool.false_eq_true, Bool.and_eq_true, decide_eq_true_eq] at h
  · rw [h]
  · rw [h.1, h.2]
  · rw [h.1, Nat.eq_of_beq_eq_true h.2]
  · rw [h.1, Nat.eq_of_beq_eq_true h.2.1, Nat.eq_of_beq_eq_true h.2.2]
  · rw [eqS_ok h]
noncomputable def eqV (v w : Value) : Bool := match v with
  | .agg a => match w with | .agg b => eqL eq1 a.toList b.toList | _ => false
  | _ => eq1 v w
theorem eqV_ok (v w : Value) (h : eqV v w = true) : v = w := by
  unfold eqV at h
  cases v <;> try exact eq1_ok _ _ h
  cases w <;> simp only [Bool.false_eq_true] at h
  rename_i a b
  obtain ⟨l⟩ := a
  obtain ⟨m⟩ := b
  have : l = m := eqL_ok eq1_ok h
  rw [this]
theorem goes_val3 {h h' : Tr (Blk Nat)} {nx nx' : Nat} {R W : List Nat} {r : Ren} {w : World} {u v : Value} {f : FuncId} {args' : List Value} (e : (ret u : M Nat Value) h nx = .ok v h' nx' R W) (hp : plain3 u = true) (hM : Mod natSig r h.get w) (c : Calls Tryz.prog f ⟨args'⟩ w fun e w' => e = .returned u ∧ Below w.heap.size w w') : Goes f args' r w nx nx' W h'.get v := by
  obtain ⟨rfl, rfl, rfl, rfl⟩ := ret_ok e
  refine c.mono ?_
  rintro en w' ⟨rfl, hb⟩
  exact ⟨_, r, rfl, same3 hp, ext_below hM hb _⟩
structure Fact where
  f : FuncId
  args : List Value
  v : Value
def Fact.ok (x : Fact) : Prop := plains x.args = true ∧ plain3 x.v = true ∧ ∀ w : World, Tryz.prog.globals.size ≤ w.heap.size → TabB w → Calls Tryz.prog x.f ⟨x.args⟩ w fun e w' => e = .returned x.v ∧ Below w.heap.size w w'
noncomputable def look (f : FuncId) (args : List Value) (l : List Fact) : Option Value := List.rec (motive := fun _ => Option Value) none
  (fun x _ ih => Bool.rec (motive := fun _ => Option Value) ih (Bool.rec (motive := fun _ => Option Value) ih (some x.v) (eqL eqV x.args args)) (Nat.beq x.f f)) l
theorem look_ok {f : FuncId} {args : List Value} {v : Value} : ∀ {l : List Fact}, look f args l = some v → ∃ x ∈ l, x.f = f ∧ x.args = args ∧ x.v = v
  | [], h => by cases h
  | x :: l, h => by
    have h' : (Bool.rec (motive := fun _ => Option Value) (look f args l) (Bool.rec (motive := fun _ => Option Value) (look f args l) (some x.v) (eqL eqV x.args args)) (Nat.beq x.f f) : Option Value) = some v := h
    cases hb : Nat.beq x.f f with
    | false =>
      rw [hb] at h'
      obtain ⟨y, hy, r⟩ := look_ok h'
      exact ⟨y, List.mem_cons_of_mem _ hy, r⟩
    | true =>
      rw [hb] at h'
      cases hc : eqL eqV x.args args with
      | false =>
        rw [hc] at h'
        obtain ⟨y, hy, r⟩ := look_ok h'
        exact ⟨y, List.mem_cons_of_mem _ hy, r⟩
      | true =>
        rw [hc] at h'
        exact ⟨x, List.mem_cons_self, Nat.eq_of_beq_eq_true hb, eqL_ok eqV_ok hc, Option.some.inj h'⟩
noncomputable def known (l : List Fact) : Sums Nat := fun f args => match look f args l with
  | some v => some (ret v)
  | none => natSums f args
theorem known_ok {l : List Fact} (hl : ∀ x ∈ l, x.ok) : SumOK natSig Tryz.prog (known l) := by
  refine ⟨fun f args m e => ?_, fun f args m e h nx v h' nx' R W hr r w args' ha hM hN => ?_⟩
  · unfold known at e
    cases hk : look f args l with
    | none => rw [hk] at e; exact natSums_ok.loc f args m e
    | some v => rw [hk] at e; cases e; exact loc_ret _
  · unfold known at e
    cases hk : look f args l with
    | none => rw [hk] at e; exact natSums_ok.run f args m e h nx v h' nx' R W hr r w args' ha hM hN
    | some u =>
      rw [hk] at e
      cases e
      obtain ⟨x, hx, rfl, rfl, rfl⟩ := look_ok hk
      obtain ⟨h1, h2, h3⟩ := hl x hx
      obtain rfl : args' = x.args := VsR_eq h1 ha
      have hG : Tryz.prog.globals.size ≤ w.heap.size := by
        rcases Nat.eq_zero_or_pos Tryz.prog.globals.size with h0 | h0
        · omega
        · have := hM.lt _ _ (hM.glob (Tryz.prog.globals.size - 1) (show _ < Tryz.prog.globals.size by omega))
          omega
      exact goes_val3 hr.ok h2 hM (h3 w hG hM.base)
noncomputable def runsBy (l : List Fact) (n : Nat) (f : FuncId) (args : List Value) : Option Value := gives 100000 (call Tryz.prog natCfg (known l) n f args)
theorem runsBy_calls {l : List Fact} (hl : ∀ x ∈ l, x.ok) {n : Nat} {f : FuncId} {args : List Value} {v : Value} (e : runsBy l n f args = some v) (ha : plains args = true) {w : World} (hG : Tryz.prog.globals.size ≤ w.heap.size) (hb : TabB w) :
    Calls Tryz.prog f ⟨args⟩ w fun e w' => e = .returned v ∧ Below w.heap.size w w' :=
  gives_calls natFits (known_ok hl) e ha glob_few hG hb
theorem Fact.by_run {l : List Fact} (hl : ∀ x ∈ l, x.ok) {x : Fact} {n : Nat} (h : runsBy l n x.f x.args = some x.v) (ha : plains x.args = true) : x.ok := by
  refine ⟨ha, ?_, fun w hG hT => runsBy_calls hl h ha hG hT⟩
  obtain ⟨_, _, _, _, _, hp, _⟩ := gives_ok h
  exact hp
noncomputable def knownN (l : List Fact) : Sums Nat := fun f args => match look f args l with
  | some v => some (ret v)
  | none => numSums f args
theorem knownN_ok {l : List Fact} (hl : ∀ x ∈ l, x.ok) : SumOK natSig Tryz.prog (knownN l) := by
  have hk := known_ok hl
  refine ⟨fun f args m e => ?_, fun f args m e h nx v h' nx' R W hr r w args' ha hM hN => ?_⟩
  · unfold knownN at e
    cases hq : look f args l with
    | none => rw [hq] at e; exact numSums_ok.loc f args m e
    | some v => rw [hq] at e; cases e; exact loc_ret _
  · unfold knownN at e
    cases hq : look f args l with
    | none => rw [hq] at e; exact numSums_ok.run f args m e h nx v h' nx' R W hr r w args' ha hM hN
    | some u =>
      rw [hq] at e
      exact hk.run f args m (by unfold known; rw [hq]; exact e) h nx v h' nx' R W hr r w args' ha hM hN
end Ev
end Go.Proofs.YtaefgofheiegeaaGreatDoor
namespace Go.Proofs.YtaefgofheiegeaaGreatDoor
open Go Go.RowKit
namespace Ev
def Kept (w0 w : World) : Prop := ∀ (b : Nat) (c : Array Value) (z : Nat × Nat), w0.heap[b]? = some (.cells c 176 z) → w.heap[b]? = some (.cells c 176 z)
noncomputable def wordSig (w0 : World) (n0 : Nat) : Sig Nat where
  holds n w v := NatIn w0 v n ∧ Kept w0 w
  hid b t := Nat.beq t 176 && decide (b < w0.heap.size)
  hn n t := Nat.beq t 176 && Nat.ble (Nat.succ n) n0
  lo := w0.heap.size
  new := fun n b t h _ => by
    have : decide (b < w0.heap.size) = false := decide_eq_false (by omega)
    rw [this, Bool.and_false]
  G := Tryz.prog.globals.size
  base := TabB
  baseS := natSig.baseS
  stable := fun f w w' v h hk => ⟨h.1, fun b c z hb => hk b c _ z (h.2 b c z hb) (by
    have := (Array.getElem?_eq_some_iff.1 hb).1
    simp [this])⟩
noncomputable def wordCfg0 (n0 : Nat) : Cfg Nat where
  hid n t := Nat.beq t 176 && Nat.ble (Nat.succ n) n0
  G := Tryz.prog.globals.size
  tab f := Tryz.prog.funcs[f]?
  len n := some (wordsN n)
  glob := natGlob
  hard _ _ := fail
noncomputable def wordCfg (n0 : Nat) : Cfg Nat where
  hid n t := Nat.beq t 176 && Nat.ble (Nat.succ n) n0
  G := Tryz.prog.globals.size
  tab f := Tryz.prog.funcs[f]?
  len n := some (wordsN n)
  glob := natGlob
  hard := memHard Tryz.prog (wordCfg0 n0)
instance wordHard (n0 : Nat) : HardLoc (wordCfg n0) := ⟨fun o vs => loc_memHard Tryz.prog (wordCfg0 n0) o vs⟩
theorem nat_kept {w0 w : World} {v : Value} {n : Nat} (h : NatIn w0 v n) (k : Kept w0 w) : NatIn w v n :=
  nat_stable h fun b c t z hb ht => by
    obtain rfl := Nat.eq_of_beq_eq_true ht
    exact k b c z hb
theorem wordFits (w0 : World) (n0 : Nat) : Fits (wordSig w0 n0) Tryz.prog (wordCfg n0) where
  hid := rfl
  G := rfl
  len := fun f n w v h e => natFits.len f n w0 v h.1 e
  glob := natFits.glob
  tab := natFits.tab
  mixed := natFits.mixed
  hard := memHard_ok (C0 := wordCfg0 n0) rfl rfl rfl
section
variable {S : Sig Nat} {h h' : Tr (Blk Nat)} {nx nx' : Nat} {R W : List Nat} {r : Ren} {w : World}
theorem any_val {u v : Value} {f : FuncId} {args' : List Value} (e : (ret u : M Nat Value) h nx = .ok v h' nx' R W) (hp : plain3 u = true) (hM : Mod S r h.get w) (c : Calls Tryz.prog f ⟨args'⟩ w fun e w' => e = .returned u ∧ Below w.heap.size w w') :
    Calls Tryz.prog f ⟨args'⟩ w fun e w' => ∃ v' r', e = .returned v' ∧ VR r' v v' ∧ Ext S r w nx nx' W h'.get r' w' := by
  obtain ⟨rfl, rfl, rfl, rfl⟩ := ret_ok e
  refine c.mono ?_
  rintro en w' ⟨rfl, hb⟩
  exact ⟨_, r, rfl, same3 hp, ext_below hM hb _⟩
theorem natV_any (hS : ∀ n w v, S.holds n w v → NatIn w v n) {v v' : Value} {n : Nat} (e : natV v h nx = .ok n h' nx' R W) (hv : VR r v v') (hM : Mod S r h.get w) : h' = h ∧ nx' = nx ∧ W = [] ∧ NatIn w v' n := by
  unfold natV at e
  cases hi : isNilV v with
  | true =>
    rw [hi] at e
    obtain ⟨rfl, rfl, rfl, rfl⟩ := ret_ok e
    refine ⟨rfl, rfl, rfl, ?_⟩
    cases v with
    | slice a m c =>
      cases a with
      | some _ => simp [isNilV] at hi
      | none =>
        simp only [isNilV, Bool.and_eq_true] at hi
        have h1 := Nat.eq_of_beq_eq_true hi.1
        have h2 := Nat.eq_of_beq_eq_true hi.2
        subst h1; subst h2
        rw [hv.nilslc]
        exact NatIn.nil_ w
    | _ => simp [isNilV] at hi
  | false =>
    rw [hi] at e
    obtain ⟨h1, h2, h3, h4⟩ := fact_ok e hv hM
    exact ⟨h1, h2, h3, hS _ _ _ h4⟩
theorem rest_any (hS : ∀ n w v, S.holds n w v → NatIn w v n) : SumF S Tryz.prog 168 restS := by
  intro args m e
  unfold restS at e
  rcases args with _ | ⟨a, _ | ⟨b, _ | ⟨c, l⟩⟩⟩ <;> simp only [reduceCtorEq] at e
  cases hb : u64of b with
  | none => rw [hb] at e; cases e
  | some y =>
    rw [hb] at e
    simp only at e
    cases hk : Nat.ble 1 y with
    | false => rw [hk] at e; cases e
    | true =>
      rw [hk] at e
      cases e
      obtain ⟨rfl, hy⟩ := u64of_ok hb
      refine ⟨loc_bind (loc_natV a) fun n => loc_cond (loc_ret _) loc_fail, ?_⟩
      intro h nx v h' nx' R W e r w args' ha hM hN
      cases ha with
      | cons ha1 ha2 => cases ha2 with
        | cons hb1 hb2 =>
          cases hb2
          obtain rfl := hb1.int
          obtain ⟨n, h1, nx1, R1, W1, R2, W2, e1, e2, rfl, rfl⟩ := bind_ok e
          obtain ⟨rfl, rfl, rfl, hn⟩ := natV_any hS e1 ha1 hM
          obtain ⟨hs, e3⟩ := cond_ok e2
          obtain ⟨l, hw, ol, nl, rfl⟩ := hn
          have hsz := (sz_small hs).out
          have hlen : l.length ≤ 1000 := by
            rcases Nat.lt_or_ge 1000 l.length with q | q
            · have hne : l ≠ [] := fun e => by rw [e] at q; simp at q
              have h1 := Big.norm_ge (B := Big.M64) l nl hne
              have h2 := Nat.lt_of_le_of_lt h1 hsz
              have h3 := (Nat.pow_lt_pow_iff_right (show 1 < Big.M64 by decide)).1 h2
              omega
            · exact q
          simpa using any_val e3 rfl hM (drew_below (restWord_any w _ l y hw ol (Nat.le_of_ble_eq_true hk) hy (by omega)))
end
noncomputable def wordSums (l : List Fact) : Sums Nat := fun f args => match look f args l with
  | some v => some (ret v)
  | none => cond (Nat.beq f 168) (restS args) (cond (Nat.beq f 226) (mulP args) none)
theorem mod_globs {F : Type} {S : Sig F} {r : Ren} {g : Nat → Option (Blk F)} {w : World} (hM : Mod S r g w) : S.G ≤ w.heap.size := hM.fits
theorem wordSums_ok {l : List Fact} (hl : ∀ x ∈ l, x.ok) (w0 : World) (n0 : Nat) : SumOK (wordSig w0 n0) Tryz.prog (wordSums l) := by
  have hR : SumF (wordSig w0 n0) Tryz.prog 168 restS := rest_any fun n w v h => nat_kept h.1 h.2
  have hP : SumF (wordSig w0 n0) Tryz.prog 226 mulP := by
    intro args m e
    unfold mulP at e
    rcases args with _ | ⟨a, _ | ⟨b, _ | ⟨c, _ | ⟨d, l⟩⟩⟩⟩ <;> simp only [reduceCtorEq] at e
    cases hp : u64of a with
    | none => rw [hp] at e; cases e
    | some p =>
      rw [hp] at e; simp only at e
      cases hx : u64of b with
      | none => rw [hx] at e; cases e
      | some x =>
        rw [hx] at e; simp only at e
        cases hy : u64of c with
        | none => rw [hy] at e; cases e
        | some y =>
          rw [hy] at e; simp only at e
          cases hk : Nat.ble (Nat.succ (Nat.div (Nat.mul x y) Big.M64)) p with
          | false => rw [hk] at e; cases e
          | true =>
            rw [hk] at e
            cases e
            obtain ⟨rfl, h1⟩ := u64of_ok hp
            obtain ⟨rfl, h2⟩ := u64of_ok hx
            obtain ⟨rfl, h3⟩ := u64of_ok hy
            refine ⟨loc_ret _, ?_⟩
            intro h nx v h' nx' R W e r w args' ha hM hN
            cases ha with
            | cons ha1 ha => cases ha with
              | cons ha2 ha => cases ha with
                | cons ha3 ha =>
                  cases ha
                  obtain rfl := ha1.int
                  obtain rfl := ha2.int
                  obtain rfl := ha3.int
                  exact any_val e rfl hM (drew_below (pmul_any p x y h2 h3 h1 (Nat.le_of_ble_eq_true hk) w))
  have key : ∀ f args m, wordSums l f args = some m → (∃ x ∈ l, x.f = f ∧ x.args = args ∧ m = ret x.v) ∨ (∃ g, SumF (wordSig w0 n0) Tryz.prog f g ∧ g args = some m) := by
    intro f args m e
    unfold wordSums at e
    cases hk : look f args l with
    | some v =>
      rw [hk] at e; cases e
      obtain ⟨x, hx, h1, h2, rfl⟩ := look_ok hk
      exact .inl ⟨x, hx, h1, h2, rfl⟩
    | none =>
      rw [hk] at e; simp only at e
      cases h1 : Nat.beq f 168 with
      | true =>
        rw [h1] at e
        obtain rfl := Nat.eq_of_beq_eq_true h1
        exact .inr ⟨_, hR, e⟩
      | false =>
        rw [h1] at e
        cases h2 : Nat.beq f 226 with
        | true =>
          rw [h2] at e
          obtain rfl := Nat.eq_of_beq_eq_true h2
          exact .inr ⟨_, hP, e⟩
        | false => rw [h2] at e; cases e
  refine ⟨fun f args m e => ?_, fun f args m e h nx v h' nx' R W hr r w args' ha hM hN => ?_⟩
  · rcases key f args m e with ⟨x, hx, rfl, rfl, rfl⟩ | ⟨g, hg, e⟩
    · exact loc_ret _
    · exact (hg args m e).1
  · rcases key f args m e with ⟨x, hx, rfl, rfl, rfl⟩ | ⟨g, hg, e⟩
    · obtain ⟨h1, h2, h3⟩ := hl x hx
      obtain rfl : args' = x.args := VsR_eq h1 ha
      exact any_val hr.ok h2 hM (h3 w (mod_globs hM) hM.base)
    · exact (hg args m e).2 _ _ _ _ _ _ _ hr.ok r w args' ha hM hN
noncomputable def gath (ns : List Nat) : M Nat (List (Nat × Blk Nat)) := List.rec (motive := fun _ => M Nat (List (Nat × Blk Nat))) (ret []) (fun n _ ih => bind (rd n) fun b => bind ih fun l => ret ((n, b) :: l)) ns
theorem loc_gath : ∀ ns : List Nat, Loc (gath ns)
  | [] => loc_ret _
  | n :: ns => loc_bind (loc_rd n) fun _ => loc_bind (loc_gath ns) fun _ => loc_ret _
theorem gath_ok : ∀ (ns : List Nat) {h h' : Tr (Blk Nat)} {nx nx' : Nat} {R W : List Nat} {l : List (Nat × Blk Nat)}, gath ns h nx = .ok l h' nx' R W → h' = h ∧ nx' = nx ∧ W = [] ∧ ∀ x ∈ l, h.get x.1 = some x.2
  | [], h, h', nx, nx', R, W, l, e => by
    obtain ⟨rfl, rfl, rfl, rfl⟩ := ret_ok (show (ret [] : M Nat _) h nx = _ from e)
    exact ⟨rfl, rfl, rfl, by simp⟩
  | n :: ns, h, h', nx, nx', R, W, l, e => by
    obtain ⟨b, h1, nx1, R1, W1, R2, W2, e1, e2, rfl, rfl⟩ := bind_ok (show bind (rd n) (fun b => bind (gath ns) fun l => ret ((n, b) :: l)) h nx = _ from e)
    unfold rd at e1
    cases hg : h.get n with
    | none => rw [hg] at e1; cases e1
    | some y =>
      rw [hg] at e1
      cases e1
      obtain ⟨l2, h2, nx2, R3, W3, R4, W4, e3, e4, rfl, rfl⟩ := bind_ok e2
      obtain ⟨rfl, rfl, rfl, rfl⟩ := ret_ok e4
      obtain ⟨rfl, rfl, rfl, hh⟩ := gath_ok ns e3
      refine ⟨rfl, rfl, rfl, fun x hx => ?_⟩
      rcases List.mem_cons.1 hx with rfl | hx
      · exact hg
      · exact hh x hx
noncomputable def ltAll (nx : Nat) (l : List (Nat × Blk Nat)) : Bool := List.rec (motive := fun _ => Bool) true (fun x _ ih => Nat.ble (Nat.succ x.1) nx && ih) l
theorem ltAll_ok {nx : Nat} : ∀ {l : List (Nat × Blk Nat)}, ltAll nx l = true → ∀ x ∈ l, x.1 < nx
  | [], _, x, hx => by simp at hx
  | y :: l, h, x, hx => by
    have h' : (Nat.ble (Nat.succ y.1) nx && ltAll nx l) = true := h
    simp only [Bool.and_eq_true] at h'
    rcases List.mem_cons.1 hx with rfl | hx
    · exact Nat.le_of_ble_eq_true h'.1
    · exact ltAll_ok h'.2 x hx
noncomputable def grow (t : Tr (Blk Nat)) (lo k : Nat) (h : Tr (Blk Nat)) : Tr (Blk Nat) := Nat.rec (motive := fun _ => Tr (Blk Nat)) h (fun i ih => match t.get (lo + i) with
  | some b => ih.set (lo + i) b
  | none => ih) k
theorem grow_get (t : Tr (Blk Nat)) (lo : Nat) (h : Tr (Blk Nat)) (n : Nat) : ∀ k, (grow t lo k h).get n = if lo ≤ n ∧ n < lo + k ∧ (t.get n).isSome then t.get n else h.get n
  | 0 => by rw [if_neg (by omega)]; rfl
  | k + 1 => by
    have ih := grow_get t lo h n k
    have e : grow t lo (k + 1) h = match t.get (lo + k) with
      | some b => (grow t lo k h).set (lo + k) b
      | none => grow t lo k h := rfl
    rw [e]
    by_cases hn : n = lo + k
    · subst hn
      cases ht : t.get (lo + k) with
      | none => simp only [ih, ht]; simp
      | some b => simp only; rw [Tr.get_set, if_pos rfl, if_pos ⟨by omega, by omega, rfl⟩]
    · have hiff : (lo ≤ n ∧ n < lo + (k + 1) ∧ (t.get n).isSome) ↔ (lo ≤ n ∧ n < lo + k ∧ (t.get n).isSome) := by
        constructor
        · rintro ⟨a, b, c⟩; exact ⟨a, by omega, c⟩
        · rintro ⟨a, b, c⟩; exact ⟨a, by omega, c⟩
      cases ht : t.get (lo + k) with
      | none => simp only [ih, hiff]
      | some b => simp only; rw [Tr.get_set, if_neg hn, ih]; simp only [hiff]
noncomputable def argN0 (args : List Value) : List Nat := List.rec (motive := fun _ => List Nat) [] (fun v _ ih => match v with
  | .slice a _ _ => match a with
    | some a => a.block :: ih
    | none => ih
  | _ => ih) args
noncomputable def argN (args : List Value) : List Nat := List.rec (motive := fun _ => List Nat) [] (fun v _ ih => match v with
  | .slice a _ _ => match a with
    | some a => a.block :: ih
    | none => ih
  | .agg cs => argN0 cs.toList ++ ih
  | _ => ih) args
noncomputable def chanN (c : List Value) : List Nat := List.rec (motive := fun _ => List Nat) [] (fun v _ ih => match v with
  | .chan i => match i with
    | some i => i :: ih
    | none => ih
  | _ => ih) c
noncomputable def cellN (l : List (Nat × Blk Nat)) : List Nat := List.rec (motive := fun _ => List Nat) [] (fun x _ ih => match x.2 with
  | .cells c _ => chanN c ++ ih
  | .room c _ => chanN c ++ ih
  | .fact _ => ih
  | .opq => ih
  | .lp _ => ih
  | .ow _ => ih
  | .ad _ _ => ih) l
noncomputable def nest0 (l : List Fact) (fuel : Nat) (f : FuncId) (args : List Value) (ps : List (Nat × Blk Nat)) : M Nat Value := fun h nx =>
  cond (ltAll nx ps) (match call Tryz.prog (wordCfg nx) (wordSums l) fuel f args (mkTab ps) nx with
    | .no => .no
    | .ok v t nx' _ W => cond (geAll nx W) (.ok v (grow t nx (nx' - nx) h) nx' [] []) .no) .no
noncomputable def nest (l : List Fact) (fuel : Nat) (f : FuncId) (args : List Value) : M Nat Value := bind (gath (argN args)) fun ps => bind (gath (cellN ps)) fun qs => nest0 l fuel f args (ps ++ qs)
theorem nest0_of {l : List Fact} {fuel : Nat} {f : FuncId} {args : List Value} {ps : List (Nat × Blk Nat)} {h h' : Tr (Blk Nat)} {nx nx' : Nat} {R W : List Nat} {v : Value} (e : nest0 l fuel f args ps h nx = .ok v h' nx' R W) :
    (∀ x ∈ ps, x.1 < nx) ∧ R = [] ∧ W = [] ∧ ∃ t R1 W1, call Tryz.prog (wordCfg nx) (wordSums l) fuel f args (mkTab ps) nx = .ok v t nx' R1 W1 ∧ (∀ n ∈ W1, nx ≤ n) ∧ h' = grow t nx (nx' - nx) h := by
  unfold nest0 at e
  cases hlt : ltAll nx ps with
  | false => rw [hlt] at e; cases e
  | true =>
    rw [hlt] at e
    simp only [cond_true] at e
    cases hc : call Tryz.prog (wordCfg nx) (wordSums l) fuel f args (mkTab ps) nx with
    | no => rw [hc] at e; cases e
    | ok v2 t nx2 R1 W1 =>
      rw [hc] at e
      simp only at e
      cases hg : geAll nx W1 with
      | false => rw [hg] at e; cases e
      | true =>
        rw [hg] at e
        simp only [cond_true] at e
        cases e
        exact ⟨ltAll_ok hlt, rfl, rfl, t, R1, W1, rfl, geAll_ok hg, rfl⟩
theorem fr_mkTab {ps : List (Nat × Blk Nat)} {nx : Nat} (h : ∀ x ∈ ps, x.1 < nx) : Fr (mkTab ps) nx := fun n hn => by
  cases hg : (mkTab ps).get n with
  | none => rfl
  | some b => have := h _ (mkTab_get hg); simp at this; omega
theorem loc_wordCall {l : List Fact} (hl : ∀ x ∈ l, x.ok) (n0 fuel : Nat) (f : FuncId) (args : List Value) : Loc (call Tryz.prog (wordCfg n0) (wordSums l) fuel f args) := by
  have hsum : ∀ f args m, wordSums l f args = some m → Loc m := (wordSums_ok hl default n0).loc
  exact (call_ok (wordFits default n0) (wordSums_ok hl default n0) fuel).loc f args
theorem loc_nest0 {l : List Fact} (hl : ∀ x ∈ l, x.ok) (fuel : Nat) (f : FuncId) (args : List Value) (ps : List (Nat × Blk Nat)) : Loc (nest0 l fuel f args ps) := by
  refine ⟨fun h nx v h' nx' R W e => ?_, fun h nx v h' nx' R W e hfr => ?_⟩
  · obtain ⟨_, _, _, t, R1, W1, hc, _, _⟩ := nest0_of e
    exact (loc_wordCall hl nx fuel f args).1 _ _ _ _ _ _ _ hc
  · have e0 := e
    obtain ⟨hlt, rfl, rfl, t, R1, W1, hc, hW, rfl⟩ := nest0_of e
    have L := (loc_wordCall hl nx fuel f args).2 _ _ _ _ _ _ _ hc (fr_mkTab hlt)
    have hle := L.le
    refine ⟨hle, fun n hn => ?_, by simp, by simp, fun n hn _ => ?_, fun n hn => ?_, fun h2 _ hN => ⟨grow t nx (nx' - nx) h2, ?_, fun n hn hl => ?_, fun n _ hn => ?_⟩⟩
    · rw [grow_get, if_neg (by omega)]; exact hfr n (by omega)
    · rw [grow_get, if_neg (by omega)]
    · rw [grow_get]
      rcases hn with hn | hn | hn
      · simp at hn
      · have := L.live n (.inr (.inl hn))
        rw [if_pos ⟨hn.1, by omega, this⟩]; exact this
      · split
        · rename_i q; exact q.2.2
        · exact hn
    · unfold nest0 at e0 ⊢
      cases hq : ltAll nx ps with
      | false => rw [hq] at e0; cases e0
      | true =>
        rw [hq] at e0
        simp only [cond_true] at e0 ⊢
        rw [hc] at e0 ⊢
        simp only at e0 ⊢
        cases hg : geAll nx W1 with
        | false => rw [hg] at e0; cases e0
        | true => rfl
    · have hn' : nx ≤ n := by
        rcases hn with q | q
        · simp at q
        · exact q
      have := L.live n (.inr (.inl ⟨hn', hl⟩))
      rw [grow_get, grow_get, if_pos ⟨hn', by omega, this⟩, if_pos ⟨hn', by omega, this⟩]
    · rw [grow_get, if_neg (by omega)]
theorem nest_ok {l : List Fact} (hl : ∀ x ∈ l, x.ok) (fuel : Nat) (f : FuncId) : SumF natSig Tryz.prog f (fun args => some (nest l fuel f args)) := by
  intro args m e
  cases e
  refine ⟨loc_bind (loc_gath _) fun _ => loc_bind (loc_gath _) fun _ => loc_nest0 hl _ _ _ _, ?_⟩
  intro h nx v h' nx' R W e r w args' ha hM hN
  obtain ⟨ps, h1, nx1, R1, W1, R2, W2, e1, e2, rfl, rfl⟩ := bind_ok e
  obtain ⟨rfl, rfl, rfl, hp⟩ := gath_ok _ e1
  obtain ⟨qs, h2, nx2, R3, W3, R4, W4, e3, e4, rfl, rfl⟩ := bind_ok e2
  obtain ⟨rfl, rfl, rfl, hq⟩ := gath_ok _ e3
  obtain ⟨hlt, rfl, rfl, t, R5, W5, hc, hW, rfl⟩ := nest0_of e4
  have hget : ∀ n b, (mkTab (ps ++ qs)).get n = some b → h2.get n = some b ∧ n < nx2 := fun n b hn => by
    have hm := mkTab_get hn
    refine ⟨?_, hlt _ hm⟩
    rcases List.mem_append.1 hm with hm | hm
    · exact hp _ hm
    · exact hq _ hm
  have hfr := fr_mkTab hlt
  have hcl := call_ok (wordFits w nx2) (wordSums_ok hl w nx2) fuel
  have hrun := Run.self (hcl.loc f args) hc hfr
  have L := (hcl.loc f args).2 _ _ _ _ _ _ _ hc hfr
  have hle := L.le
  have hgo : ∀ n, Gone h2.get n → Gone (mkTab (ps ++ qs)).get n := fun n hn =>
    ⟨fun c t k => hn.1 c t (hget _ _ k).1, fun c t k => hn.2.1 c t (hget _ _ k).1, ⟨fun s k => hn.2.2.1 s (hget _ _ k).1, fun f k => hn.2.2.2 f (hget _ _ k).1⟩⟩
  have hM1 : Mod (wordSig w nx2) r (mkTab (ps ++ qs)).get w := by
    refine ⟨fun n m b h1 h2 => (hM.inj n m b h1 h2).imp id (Or.imp (hgo n) (hgo m)), hM.lt, fun n c t hn => ?_, fun n k hn => ?_, hM.base, hM.glob, hM.own, fun n c t hn => ?_, Nat.le_refl _, hM.lp.mono (.refl r) (fun n s q => (hget _ _ q).1) (fun _ _ q => q), (fun n f q => by obtain ⟨_, _, k, _⟩ := hM.ow n f (hget _ _ q).1; exact k.elim), fun n m x q => by obtain ⟨_, _, _, _, k⟩ := hM.ad n m x (hget _ _ q).1; exact k.elim⟩
    · obtain ⟨g1, g2⟩ := hget _ _ hn
      obtain ⟨b, c', k1, k2, k3, k4⟩ := hM.cells n c t g1
      refine ⟨b, c', k1, k2, k3, fun k => ?_⟩
      have k' : (Nat.beq t 176 && Nat.ble (Nat.succ n) nx2) = false := k
      rw [Nat.ble_eq_true_of_le g2, Bool.and_true] at k'
      show (Nat.beq t 176 && _) = false
      rw [k', Bool.false_and]
    · obtain ⟨g1, g2⟩ := hget _ _ hn
      obtain ⟨v, k1, k2, k3⟩ := hM.fact n k g1
      exact ⟨v, k1, ⟨k2, fun _ _ _ hb => hb⟩, k3⟩
    · obtain ⟨g1, g2⟩ := hget _ _ hn
      obtain ⟨b, c', k1, k2, k3, k4, k5⟩ := hM.room n c t g1
      refine ⟨b, c', k1, k2, k3, fun k => ?_, k5⟩
      have k' : (Nat.beq t 176 && Nat.ble (Nat.succ n) nx2) = false := k
      rw [Nat.ble_eq_true_of_le g2, Bool.and_true] at k'
      show (Nat.beq t 176 && _) = false
      rw [k', Bool.false_and]
  refine (hcl.run f args _ _ _ _ _ _ _ hrun r w args' ha hM1 hN).mono ?_
  rintro en w' ⟨v', r', rfl, hv, hX⟩
  refine ⟨v', r', rfl, hv, ?_⟩
  have hno : ∀ k ∈ W5, ∀ b, r.blk k ≠ some b := fun k hk b q => by
    have := (hN k (hW k hk) (L.ltW k hk)).1
    rw [this] at q; cases q
  have hkeep : ∀ (b : Nat) (o : Obj), w.heap[b]? = some o → w'.heap[b]? = some o := fun b o hb => hX.keep b o hb fun k hk => hno k hk b
  have hnew : ∀ n b, r'.blk n = some b → r.blk n = some b ∨ w.heap.size ≤ b := fun n b hn => by
    rcases hX.new n b hn with q | q | ⟨k, hk, q⟩
    · exact .inl q
    · exact .inr q
    · exact absurd q (hno k hk b)
  have hin : ∀ n, nx2 ≤ n → n < nx' → (grow t nx2 (nx' - nx2) h2).get n = t.get n := fun n a b => by
    have := L.live n (.inr (.inl ⟨a, b⟩))
    rw [grow_get, if_pos ⟨a, by omega, this⟩]
  have hout : ∀ n, ¬ (nx2 ≤ n ∧ n < nx') → (grow t nx2 (nx' - nx2) h2).get n = h2.get n := fun n a => by rw [grow_get, if_neg (by omega)]
  have hgone : ∀ n b, r'.blk n = some b → r.blk n = none → Gone t.get n → Gone (grow t nx2 (nx' - nx2) h2).get n := fun n b hn hr hg => by
    by_cases hi : nx2 ≤ n ∧ n < nx'
    · exact ⟨fun c t => by rw [hin n hi.1 hi.2]; exact hg.1 c t, fun c t => by rw [hin n hi.1 hi.2]; exact hg.2.1 c t, ⟨fun s => by rw [hin n hi.1 hi.2]; exact hg.2.2.1 s, fun f => by rw [hin n hi.1 hi.2]; exact hg.2.2.2 f⟩⟩
    · refine ⟨fun c t q => ?_, fun c t q => ?_, fun s q => ?_, fun f q => ?_⟩
      · rw [hout n hi] at q
        obtain ⟨b, _, k, _⟩ := hM.cells n c t q
        rw [hr] at k; cases k
      · rw [hout n hi] at q
        obtain ⟨b, _, k, _⟩ := hM.room n c t q
        rw [hr] at k; cases k
      · rw [hout n hi] at q
        obtain ⟨b, _, k, _⟩ := hM.lp n s q
        rw [hr] at k; cases k
      · rw [hout n hi] at q
        obtain ⟨_, _, k, _⟩ := hM.ow n f q
        exact k.elim
  have hgold : ∀ n b, r.blk n = some b → Gone h2.get n → Gone (grow t nx2 (nx' - nx2) h2).get n := fun n b hn hg => by
    have hi : ¬ (nx2 ≤ n ∧ n < nx') := fun q => by rw [(hN n q.1 q.2).1] at hn; cases hn
    exact ⟨fun c t => by rw [hout n hi]; exact hg.1 c t, fun c t => by rw [hout n hi]; exact hg.2.1 c t, ⟨fun s => by rw [hout n hi]; exact hg.2.2.1 s, fun f => by rw [hout n hi]; exact hg.2.2.2 f⟩⟩
  refine ⟨hX.le, ⟨fun n m b h1 h2' => ?_, hX.mod.lt, fun n c ty hn => ?_, fun n k hn => ?_, hX.mod.base, hX.mod.glob, hX.mod.own, fun n c ty hn => ?_, Nat.zero_le _, fun n s hn => ?_, fun n f hn => ?_, fun n m x hn => ?_⟩, hX.dom, fun n b hn => (hnew n b hn).imp id .inl, fun b o hb _ => hkeep b o hb, hX.size, hX.os, hX.tape, hX.output, hX.loops⟩
  · rcases hnew n b h1 with q1 | q1 <;> rcases hnew m b h2' with q2 | q2
    · exact (hM.inj n m b q1 q2).imp id (Or.imp (hgold n b q1) (hgold m b q2))
    · have := hM.lt n b q1; omega
    · have := hM.lt m b q2; omega
    · have a1 : r.blk n = none := by
        cases hq : r.blk n with
        | none => rfl
        | some c => have := hX.le.blk n c hq; rw [h1] at this; cases this; have := hM.lt n b hq; omega
      have a2 : r.blk m = none := by
        cases hq : r.blk m with
        | none => rfl
        | some c => have := hX.le.blk m c hq; rw [h2'] at this; cases this; have := hM.lt m b hq; omega
      exact (hX.mod.inj n m b h1 h2').imp id (Or.imp (hgone n b h1 a1) (hgone m b h2' a2))
  · by_cases hi : nx2 ≤ n ∧ n < nx'
    · rw [hin n hi.1 hi.2] at hn
      obtain ⟨b, c', k1, k2, k3, _⟩ := hX.mod.cells n c ty hn
      exact ⟨b, c', k1, k2, k3, id⟩
    · rw [hout n hi] at hn
      obtain ⟨b, c', k1, k2, k3, _⟩ := hM.cells n c ty hn
      exact ⟨b, c', hX.le.blk _ _ k1, hkeep _ _ k2, k3.mono hX.le, id⟩
  · by_cases hi : nx2 ≤ n ∧ n < nx'
    · rw [hin n hi.1 hi.2] at hn
      obtain ⟨v, k1, k2, k3⟩ := hX.mod.fact n k hn
      exact ⟨v, k1, nat_kept k2.1 k2.2, k3⟩
    · rw [hout n hi] at hn
      obtain ⟨v, k1, k2, k3⟩ := hM.fact n k hn
      exact ⟨v, hX.le.val _ _ k1, natSig.stable k w w' v k2 fun b c t z hb _ => hkeep b _ hb, k3⟩
  · by_cases hi : nx2 ≤ n ∧ n < nx'
    · rw [hin n hi.1 hi.2] at hn
      obtain ⟨b, c', k1, k2, k3, _, k5⟩ := hX.mod.room n c ty hn
      exact ⟨b, c', k1, k2, k3, id, k5⟩
    · rw [hout n hi] at hn
      obtain ⟨b, c', k1, k2, k3, _, k5⟩ := hM.room n c ty hn
      refine ⟨b, c', hX.le.blk _ _ k1, hkeep _ _ k2, k3.mono hX.le, id, ?_⟩
      rw [hX.le.len _ _ k1]; exact k5
  · by_cases hi : nx2 ≤ n ∧ n < nx'
    · rw [hin n hi.1 hi.2] at hn
      exact hX.mod.lp n s hn
    · rw [hout n hi] at hn
      obtain ⟨b, L, k1, k2, k3, k4⟩ := hM.lp n s hn
      exact ⟨b, L, hX.le.blk _ _ k1, hX.le.val _ _ k2, hkeep _ _ k3, k4⟩
  · by_cases hi : nx2 ≤ n ∧ n < nx'
    · rw [hin n hi.1 hi.2] at hn
      obtain ⟨_, _, k, _⟩ := hX.mod.ow n f hn
      exact k.elim
    · rw [hout n hi] at hn
      obtain ⟨_, _, k, _⟩ := hM.ow n f hn
      exact k.elim
  · by_cases hi : nx2 ≤ n ∧ n < nx'
    · rw [hin n hi.1 hi.2] at hn
      obtain ⟨_, _, _, _, k⟩ := hX.mod.ad n m x hn
      exact k.elim
    · rw [hout n hi] at hn
      obtain ⟨_, _, _, _, k⟩ := hM.ad n m x hn
      exact k.elim
noncomputable def wordy (f : FuncId) : Bool := false
  || Nat.beq f 165
  || Nat.beq f 223
  || Nat.beq f 167
  || Nat.beq f 283
  || Nat.beq f 233
  || Nat.beq f 178
noncomputable def knownR (l : List Fact) : Sums Nat := fun f args => match look f args l with
  | some v => some (ret v)
  | none => cond (wordy f) (some (nest l 1000 f args)) (numSums f args)
theorem knownR_ok {l : List Fact} (hl : ∀ x ∈ l, x.ok) : SumOK natSig Tryz.prog (knownR l) := by
  have hk := knownN_ok hl
  have key : ∀ f args m, knownR l f args = some m → (knownN l f args = some m) ∨ (m = nest l 1000 f args) := by
    intro f args m e
    unfold knownR at e
    unfold knownN
    cases hq : look f args l with
    | some v => rw [hq] at e; exact .inl e
    | none =>
      rw [hq] at e
      simp only at e ⊢
      cases hb : wordy f with
      | true => rw [hb] at e; cases e; exact .inr rfl
      | false => rw [hb] at e; exact .inl e
  refine ⟨fun f args m e => ?_, fun f args m e h nx v h' nx' R W hr r w args' ha hM hN => ?_⟩
  · rcases key f args m e with e | rfl
    · exact hk.loc f args m e
    · exact (nest_ok hl 1000 f args _ rfl).1
  · rcases key f args m e with e | rfl
    · exact hk.run f args m e h nx v h' nx' R W hr r w args' ha hM hN
    · exact (nest_ok hl 1000 f args _ rfl).2 _ _ _ _ _ _ _ hr.ok r w args' ha hM hN
end Ev
end Go.Proofs.YtaefgofheiegeaaGreatDoor
