/- Contracts, in this order: The interpreter with natural numbers that are not looked int · The interpreter: package nat's functions, of what is known. · The interpreter: package nat's texts, and what it answers in · The interpreter: from a run to what the program does. · The interpreter: calls of plain values whose answers are kno · turn: the product of a way's factors; the point where it lea · turn: the point where a way leads. · Which parts of a point are nought: no program but what order -/
import Derived.Test.YthfopepnofjcjaaTr24
import Derived.Test.YthfopepnofjcjaaTr19
import Derived.Test.YthfopepnofjcjaaTr13
import Derived.Test.YthfopepnofjcjaaTr11
import Derived.ChangeKeysEq
namespace Go.Proofs.Ythfopepnofjcjaa
open Go Go.RowKit
namespace Ev
def wordsN (n : Nat) : Nat := if n = 0 then 0 else Nat.log2 n / 64 + 1
theorem words_of {l : List Nat} (ol : Big.Ok Big.M64 l) (nl : Big.Norm l) : l.length = wordsN (Big.val Big.M64 l) := by
  unfold wordsN
  by_cases h0 : Big.val Big.M64 l = 0
  · rw [if_pos h0, Big.norm_zero Big.M64_pos l nl h0]; rfl
  · rw [if_neg h0]
    have hne : l ≠ [] := by intro e; subst e; exact h0 rfl
    have h1 := Big.norm_ge (B := Big.M64) l nl hne
    have h2 := Big.val_lt l ol
    generalize Big.val Big.M64 l = n at *
    have hM : ∀ k, Big.M64 ^ k = 2 ^ (64 * k) := fun k => by rw [Nat.pow_mul]; rfl
    rw [hM] at h1 h2
    have h3 := Nat.log2_self_le h0
    have h4 : n < 2 ^ (Nat.log2 n + 1) := Nat.lt_log2_self
    have hl : 0 < l.length := List.length_pos_iff.2 hne
    have h5 : Nat.log2 n < 64 * l.length := (Nat.pow_lt_pow_iff_right (by omega : 1 < 2)).1 (Nat.lt_of_le_of_lt h3 h2)
    have h6 : 64 * (l.length - 1) < Nat.log2 n + 1 := (Nat.pow_lt_pow_iff_right (by omega : 1 < 2)).1 (Nat.lt_of_le_of_lt h1 h4)
    omega
theorem nat_slice {w : World} {v : Value} {n : Nat} (h : NatIn w v n) : ∃ a c, v = .slice a (wordsN n) c := by
  obtain ⟨l, ⟨A, c, e, -, -, -⟩, ol, nl, rfl⟩ := h
  exact ⟨A, c, by rw [e, words_of ol nl]⟩
theorem nat_one {w : World} {v : Value} {n : Nat} (h : NatIn w v n) : isOne v = true := by
  obtain ⟨a, c, rfl⟩ := nat_slice h; rfl
theorem nat_stable {n : Nat} {w w' : World} {v : Value} (h : NatIn w v n) (hk : ∀ (b : Nat) (c : Array Value) (t : TypeId) (z : Nat × Nat), w.heap[b]? = some (.cells c t z) → Nat.beq t 63 = true → w'.heap[b]? = some (.cells c t z)) : NatIn w' v n := by
  obtain ⟨l, ⟨A, c, e, h1, h2, h3⟩, ol, nl, hv⟩ := h
  refine ⟨l, ⟨A, c, e, h1, h2, fun hp => ?_⟩, ol, nl, hv⟩
  obtain ⟨b, o, ea, hlt, hc, cs, hcs⟩ := h3 hp
  have hcs' := hk b cs _ _ hcs (Nat.beq_refl _)
  refine ⟨b, o, ea, (Array.getElem?_eq_some_iff.1 hcs').1, fun i hi => ?_, cs, hcs'⟩
  rw [← hc i hi]
  exact World.cell?_of_block (hcs'.trans hcs.symm)
noncomputable def natSig : Sig Nat where
  holds n w v := NatIn w v n
  hid t := Nat.beq t 63
  G := Try.prog.globals.size
  base := Tab
  baseS := by
    intro w w' h hk
    exact trivial
  stable := fun _ _ _ _ h hk => nat_stable h hk
noncomputable def natCfg : Cfg Nat where
  hid t := Nat.beq t 63
  G := Try.prog.globals.size
  tab f := Try.prog.funcs[f]?
  len n := some (wordsN n)
  hard _ _ := fail
instance natHard : HardLoc natCfg := ⟨fun _ _ => loc_fail⟩
theorem natFits : Fits natSig Try.prog natCfg where
  hid := rfl
  G := rfl
  len := fun f n w v h e => by
    have e' : wordsN f = n := Option.some.inj e
    obtain ⟨a, c, rfl⟩ := nat_slice h
    exact ⟨a, c, by rw [e']⟩
  tab := fun f fn h => by
    refine ⟨h, ?_⟩
    have hall : (Try.prog.funcs.all fun fn => !(fn.name == "runtime.NumGoroutine")) = true := by kernel_rfl
    have h1 := Array.all_eq_true_iff_forall_mem.1 hall fn (Array.mem_of_getElem? h)
    simpa using h1
  mixed := by kernel_rfl
  hard := fun o vs h nx x h' nx' R W _ e => by cases (show (fail : M Nat Nxt) h nx = _ from e)
section
variable {F : Type} {S : Sig F}
theorem ext_below {r : Ren} {g : Nat → Option (Blk F)} {w w' : World} (hM : Mod S r g w) (hb : Below w.heap.size w w') (nx : Nat) : Ext S r w nx nx [] g r w' := by
  have hk : ∀ (b : Nat) (o : Obj), w.heap[b]? = some o → w'.heap[b]? = some o := fun b o hbo => (hb.block b (Array.getElem?_eq_some_iff.1 hbo).1).trans hbo
  refine ⟨.refl r, ⟨hM.inj, fun n b hn => Nat.lt_of_lt_of_le (hM.lt n b hn) hb.size, fun n c t hn => ?_, fun n f hn => ?_, S.baseS w w' hM.base fun b o _ => hk b o, hM.glob⟩, fun _ h => .inl h, fun _ _ h => .inl h, fun b o hbo _ => hk b o hbo, hb.size, hb.os, hb.tape, hb.output⟩
  · obtain ⟨b, c', h1, h2, h3, h4⟩ := hM.cells n c t hn
    exact ⟨b, c', h1, hk b _ h2, h3, h4⟩
  · obtain ⟨v, h1, h2, h3⟩ := hM.fact n f hn
    exact ⟨v, h1, S.stable f w w' v h2 fun b c t z hbo _ => hk b _ hbo, h3⟩
theorem ext_fact {r : Ren} {g : Nat → Option (Blk F)} {w w' : World} {nx : Nat} {f : F} {v' : Value} (hM : Mod S r g w) (hb : Below w.heap.size w w') (hN : New r nx (nx + 1)) (hh : S.holds f w' v') (ho : isOne v' = true) :
    ∃ r', Ext S r w nx (nx + 1) [] (fun n => if n = nx then some (.fact f) else g n) r' w' ∧ r'.val nx = some v' := by
  have hno := hN nx (Nat.le_refl _) (Nat.lt_succ_self _)
  have hX := ext_below hM hb nx
  have hle : r.le ⟨r.blk, fun n => if n = nx then some v' else r.val n⟩ := by
    refine ⟨fun _ _ e => e, fun n v e => ?_⟩
    have : n ≠ nx := fun h => by rw [h, hno.2] at e; cases e
    simp only [if_neg this, e]
  refine ⟨⟨r.blk, fun n => if n = nx then some v' else r.val n⟩, ⟨hle, ⟨hM.inj, hX.mod.lt, fun n c t hn => ?_, fun n f' hn => ?_, hX.mod.base, hM.glob⟩, fun n hn => ?_, fun _ _ h => .inl h, hX.keep, hX.size, hX.os, hX.tape, hX.output⟩, by simp⟩
  · by_cases h : n = nx
    · simp only [if_pos h, Option.some.injEq] at hn; cases hn
    · simp only [if_neg h] at hn
      obtain ⟨b, c', h1, h2, h3, h4⟩ := hX.mod.cells n c t hn
      exact ⟨b, c', h1, h2, h3.mono hle, h4⟩
  · by_cases h : n = nx
    · simp only [if_pos h, Option.some.injEq, Blk.fact.injEq] at hn
      subst hn
      exact ⟨v', by simp [h], hh, ho⟩
    · simp only [if_neg h] at hn
      obtain ⟨v, h1, h2, h3⟩ := hX.mod.fact n f' hn
      exact ⟨v, by simp only [if_neg h, h1], h2, h3⟩
  · by_cases h : n = nx
    · exact .inr ⟨by omega, by omega⟩
    · simp only [if_neg h] at hn; exact .inl hn
end
noncomputable def isNilV : Value → Bool
  | .slice a n c => match a with
    | none => Nat.beq n 0 && Nat.beq c 0
    | some _ => false
  | _ => false
noncomputable def natV (v : Value) : M Nat Nat := cond (isNilV v) (ret 0) (fact v)
theorem loc_natV (v : Value) : Loc (natV v) := loc_cond (loc_ret _) (loc_fact v)
theorem fact_ok {F : Type} {S : Sig F} {v v' : Value} {f : F} {h h' : Tr (Blk F)} {nx nx' : Nat} {R W : List Nat} {r : Ren} {w : World} (e : (fact v : M F F) h nx = .ok f h' nx' R W) (hv : VR r v v') (hM : Mod S r h.get w) : h' = h ∧ nx' = nx ∧ W = [] ∧ S.holds f w v' := by
  unfold fact at e
  cases v with
  | chan i =>
    cases i with
    | none => simp [fail] at e
    | some i =>
      simp only at e
      obtain ⟨bl, h3, nx3, R3, W3, R4, W4, e3, e4, rfl, rfl⟩ := bind_ok e
      unfold rd at e3
      cases hg : h.get i with
      | none => rw [hg] at e3; cases e3
      | some bl2 =>
        rw [hg] at e3
        cases e3
        cases bl with
        | cells _ _ => simp [fail] at e4
        | fact f2 =>
          simp only at e4
          obtain ⟨rfl, rfl, rfl, rfl⟩ := ret_ok e4
          obtain ⟨v0, hv0, hh, ho⟩ := hM.fact _ _ hg
          refine ⟨rfl, rfl, by simp, ?_⟩
          cases hv with
          | same p => simp [plain] at p
          | opq hp _ => rw [hv0] at hp; injection hp with hp; subst hp; exact hh
  | _ => simp [fail] at e
theorem natV_ok {v v' : Value} {n : Nat} {h h' : Tr (Blk Nat)} {nx nx' : Nat} {R W : List Nat} {r : Ren} {w : World} (e : natV v h nx = .ok n h' nx' R W) (hv : VR r v v') (hM : Mod natSig r h.get w) : h' = h ∧ nx' = nx ∧ W = [] ∧ NatIn w v' n := by
  unfold natV at e
  cases hi : isNilV v with
  | true =>
    rw [hi] at e
    obtain ⟨rfl, rfl, rfl, rfl⟩ := ret_ok e
    refine ⟨rfl, rfl, rfl, ?_⟩
    cases v with
    | slice a m c =>
      cases a with
      | some _ => simp [isNilV] at hi
      | none =>
        simp only [isNilV, Bool.and_eq_true] at hi
        have h1 := Nat.eq_of_beq_eq_true hi.1
        have h2 := Nat.eq_of_beq_eq_true hi.2
        subst h1; subst h2
        rw [hv.nilslc]
        exact NatIn.nil_ w
    | _ => simp [isNilV] at hi
  | false =>
    rw [hi] at e
    exact fact_ok e hv hM
def SumF {F : Type} (S : Sig F) (P : Program) (f : FuncId) (g : List Value → Option (M F Value)) : Prop := ∀ args m, g args = some m → Loc m ∧ ∀ h nx v h' nx' R W, m h nx = .ok v h' nx' R W →
  ∀ (r : Ren) (w : World) (args' : List Value), VsR r args args' → Mod S r h.get w → New r nx nx' → Calls P f ⟨args'⟩ w fun e w' => ∃ v' r', e = .returned v' ∧ VR r' v v' ∧ Ext S r w nx nx' W h'.get r' w'
noncomputable def mkTab {G : Type} : List (Nat × G) → Tr G
  | [] => .nil
  | x :: l => (mkTab l).set x.1 x.2
theorem mkTab_get {G : Type} {f : Nat} {g : G} : ∀ {l : List (Nat × G)}, (mkTab l).get f = some g → (f, g) ∈ l
  | [], h => by simp [mkTab, Tr.get_nil] at h
  | x :: l, h => by
    rw [mkTab, Tr.get_set] at h
    by_cases e : f = x.1
    · rw [if_pos e] at h
      injection h with h
      obtain ⟨a, b⟩ := x
      simp only at e h
      subst e; subst h
      exact List.mem_cons_self
    · rw [if_neg e] at h
      exact List.mem_cons_of_mem _ (mkTab_get h)
noncomputable def sumsOf {F : Type} (t : Tr (List Value → Option (M F Value))) : Sums F := fun f args => match t.get f with
  | some g => g args
  | none => none
theorem sumsOf_ok {F : Type} {S : Sig F} {P : Program} {l : List (Nat × (List Value → Option (M F Value)))} (h : ∀ x ∈ l, SumF S P x.1 x.2) : SumOK S P (sumsOf (mkTab l)) := by
  have key : ∀ f args m, sumsOf (mkTab l) f args = some m → ∃ g, SumF S P f g ∧ g args = some m := by
    intro f args m e
    unfold sumsOf at e
    cases hg : (mkTab l).get f with
    | none => rw [hg] at e; cases e
    | some g => rw [hg] at e; exact ⟨g, h _ (mkTab_get hg), e⟩
  refine ⟨fun f args m e => ?_, fun f args m e h nx v h' nx' R W hr r w args' ha hM hN => ?_⟩
  · obtain ⟨g, hs, hg⟩ := key f args m e
    exact (hs args m hg).1
  · obtain ⟨g, hs, hg⟩ := key f args m e
    exact (hs args m hg).2 _ _ _ _ _ _ _ hr.ok r w args' ha hM hN
end Ev
end Go.Proofs.Ythfopepnofjcjaa
namespace Go.Proofs.Ythfopepnofjcjaa
open Go Go.RowKit
namespace Ev
section
variable {h h' : Tr (Blk Nat)} {nx nx' : Nat} {R W : List Nat} {r : Ren} {w : World} {v : Value}
def Goes (f : FuncId) (args' : List Value) (r : Ren) (w : World) (nx nx' : Nat) (W : List Nat) (g' : Nat → Option (Blk Nat)) (v : Value) : Prop :=
  Calls Try.prog f ⟨args'⟩ w fun e w' => ∃ v' r', e = .returned v' ∧ VR r' v v' ∧ Ext natSig r w nx nx' W g' r' w'
theorem goes_new {N : Nat} {f : FuncId} {args' : List Value} (e : (newFact N : M Nat Value) h nx = .ok v h' nx' R W) (hM : Mod natSig r h.get w) (hN : New r nx nx') (c : Calls Try.prog f ⟨args'⟩ w (Nat1 w N)) : Goes f args' r w nx nx' W h'.get v := by
  obtain ⟨i, h1, nx1, R1, W1, R2, W2, e1, e2, rfl, rfl⟩ := bind_ok e
  obtain ⟨rfl, rfl, rfl, rfl⟩ := ret_ok e2
  unfold fresh at e1
  cases e1
  refine c.mono ?_
  rintro en w' ⟨v', rfl, hv, hb⟩
  obtain ⟨r', hX, hr⟩ := ext_fact (S := natSig) (f := N) hM hb hN hv (nat_one hv)
  exact ⟨v', r', rfl, .opq hr (nat_one hv), by simpa using hX.congr fun n => .inr (Tr.get_set _ _ _ _)⟩
theorem goes_val {u : Value} {f : FuncId} {args' : List Value} (e : (ret u : M Nat Value) h nx = .ok v h' nx' R W) (hp : plain2 u = true) (hM : Mod natSig r h.get w) (c : Calls Try.prog f ⟨args'⟩ w fun e w' => e = .returned u ∧ Below w.heap.size w w') : Goes f args' r w nx nx' W h'.get v := by
  obtain ⟨rfl, rfl, rfl, rfl⟩ := ret_ok e
  refine c.mono ?_
  rintro en w' ⟨rfl, hb⟩
  exact ⟨_, r, rfl, VR.same2 hp, ext_below hM hb _⟩
theorem same_below {f : FuncId} {args' : List Value} {u : Value} (c : Calls Try.prog f ⟨args'⟩ w fun e w' => e = .returned u ∧ w = w') : Calls Try.prog f ⟨args'⟩ w fun e w' => e = .returned u ∧ Below w.heap.size w w' :=
  c.mono fun _ _ ⟨h1, h2⟩ => ⟨h1, h2 ▸ Below.refl _ _⟩
theorem drew_below {f : FuncId} {args' : List Value} {u : Value} (c : Calls Try.prog f ⟨args'⟩ w fun e w' => e = .returned u ∧ Drew w w') : Calls Try.prog f ⟨args'⟩ w fun e w' => e = .returned u ∧ Below w.heap.size w w' :=
  c.mono fun _ _ ⟨h1, h2⟩ => ⟨h1, h2.below _⟩
noncomputable def small (n : Nat) : Bool := Nat.ble (Nat.log2 n) 60000
theorem m64_log {n k : Nat} (h : Nat.log2 n + 1 ≤ 64 * k) : n < Big.M64 ^ k := by
  have hM : ∀ k, Big.M64 ^ k = 2 ^ (64 * k) := fun k => by rw [Nat.pow_mul]; rfl
  rw [hM]
  exact Nat.lt_of_lt_of_le Nat.lt_log2_self (Nat.pow_le_pow_right (by omega) h)
theorem sz_log {n k : Nat} (h : Nat.log2 n + 1 ≤ 64 * k) : Sz k n := ⟨m64_log h⟩
theorem sz_small {n : Nat} (h : small n = true) : Sz 1000 n := by
  have h1 := Nat.le_of_ble_eq_true h
  exact sz_log (by omega)
noncomputable def two (args : List Value) (k : Nat → Nat → M Nat Value) : Option (M Nat Value) := match args with
  | [a, b] => some (bind (natV a) fun n => bind (natV b) fun m => cond (small n && small m) (k n m) fail)
  | _ => none
noncomputable def one (args : List Value) (k : Nat → M Nat Value) : Option (M Nat Value) := match args with
  | [a] => some (bind (natV a) fun n => cond (small n) (k n) fail)
  | _ => none
theorem two_ok {f : FuncId} {k : Nat → Nat → M Nat Value} (hl : ∀ n m, Loc (k n m)) (hk : ∀ n m (h : Tr (Blk Nat)) nx v h' nx' R W, k n m h nx = .ok v h' nx' R W → ∀ r w a b, NatIn w a n → NatIn w b m → Sz 1000 n → Sz 1000 m → Mod natSig r h.get w → New r nx nx' → Goes f [a, b] r w nx nx' W h'.get v) :
    SumF natSig Try.prog f (fun args => two args k) := by
  intro args m e
  unfold two at e
  rcases args with _ | ⟨a, _ | ⟨b, _ | ⟨c, l⟩⟩⟩ <;> simp only [reduceCtorEq, Option.some.injEq] at e
  subst e
  refine ⟨loc_bind (loc_natV a) fun n => loc_bind (loc_natV b) fun m => loc_cond (hl n m) loc_fail, ?_⟩
  intro h nx v h' nx' R W e r w args' ha hM hN
  cases ha with
  | cons ha1 ha2 =>
    cases ha2 with
    | cons hb1 hb2 =>
      cases hb2
      obtain ⟨n, h1, nx1, R1, W1, R2, W2, e1, e2, rfl, rfl⟩ := bind_ok e
      obtain ⟨rfl, rfl, rfl, hn⟩ := natV_ok e1 ha1 hM
      obtain ⟨m, h2, nx2, R3, W3, R4, W4, e3, e4, rfl, rfl⟩ := bind_ok e2
      obtain ⟨rfl, rfl, rfl, hm⟩ := natV_ok e3 hb1 hM
      obtain ⟨hs, e5⟩ := cond_ok e4
      simp only [Bool.and_eq_true] at hs
      simpa [Goes] using hk n m _ _ _ _ _ _ _ e5 r w _ _ hn hm (sz_small hs.1) (sz_small hs.2) hM hN
theorem one_ok {f : FuncId} {k : Nat → M Nat Value} (hl : ∀ n, Loc (k n)) (hk : ∀ n (h : Tr (Blk Nat)) nx v h' nx' R W, k n h nx = .ok v h' nx' R W → ∀ r w a, NatIn w a n → Sz 1000 n → Mod natSig r h.get w → New r nx nx' → Goes f [a] r w nx nx' W h'.get v) :
    SumF natSig Try.prog f (fun args => one args k) := by
  intro args m e
  unfold one at e
  rcases args with _ | ⟨a, _ | ⟨c, l⟩⟩ <;> simp only [reduceCtorEq, Option.some.injEq] at e
  subst e
  refine ⟨loc_bind (loc_natV a) fun n => loc_cond (hl n) loc_fail, ?_⟩
  intro h nx v h' nx' R W e r w args' ha hM hN
  cases ha with
  | cons ha1 ha2 =>
    cases ha2
    obtain ⟨n, h1, nx1, R1, W1, R2, W2, e1, e2, rfl, rfl⟩ := bind_ok e
    obtain ⟨rfl, rfl, rfl, hn⟩ := natV_ok e1 ha1 hM
    obtain ⟨hs, e5⟩ := cond_ok e2
    simpa [Goes] using hk n _ _ _ _ _ _ _ e5 r w _ hn (sz_small hs) hM hN
theorem sum_add : SumF natSig Try.prog 83 (fun args => two args fun n m => newFact (Nat.add n m)) :=
  two_ok (fun _ _ => loc_newFact _) fun n m h nx v h' nx' R W e r w a b hn hm sn sm hM hN => goes_new e hM hN (add_num w a b n m _ _ hn hm sn sm (by omega) (by omega))
theorem sum_sub : SumF natSig Try.prog 84 (fun args => two args fun n m => newFact (Nat.sub n m)) :=
  two_ok (fun _ _ => loc_newFact _) fun n m h nx v h' nx' R W e r w a b hn hm sn sm hM hN => goes_new e hM hN (sub_num w a b n m _ hn hm sn (by omega))
theorem sum_mul : SumF natSig Try.prog 64 (fun args => two args fun n m => newFact (Nat.mul n m)) :=
  two_ok (fun _ _ => loc_newFact _) fun n m h nx v h' nx' R W e r w a b hn hm sn sm hM hN => goes_new e hM hN (mul_num w a b n m _ _ hn hm sn sm (by omega) (by omega))
theorem sum_quo : SumF natSig Try.prog 63 (fun args => two args fun n m => newFact (Nat.div n m)) :=
  two_ok (fun _ _ => loc_newFact _) fun n m h nx v h' nx' R W e r w a b hn hm sn sm hM hN => goes_new e hM hN (quo_num w a b n m _ hn hm sn (by omega))
theorem sum_gcd : SumF natSig Try.prog 55 (fun args => two args fun n m => newFact (Nat.gcd n m)) :=
  two_ok (fun _ _ => loc_newFact _) fun n m h nx v h' nx' R W e r w a b hn hm sn sm hM hN => goes_new e hM hN (gcd_num w a b n m _ _ hn hm sn sm (by omega) (by omega))
theorem sum_cmp : SumF natSig Try.prog 65 (fun args => two args fun n m => ret (.int .i64 (Big.cmpI n m))) :=
  two_ok (fun _ _ => loc_ret _) fun n m h nx v h' nx' R W e r w a b hn hm _ _ hM _ => goes_val e rfl hM (drew_below (cmp_num w a b n m hn hm))
theorem sum_isOne : SumF natSig Try.prog 56 (fun args => one args fun n => ret (.bool (decide (n = 1)))) :=
  one_ok (fun _ => loc_ret _) fun n h nx v h' nx' R W e r w a hn _ hM _ => goes_val e rfl hM ((isOne_num w a n hn).mono fun _ _ hh => by obtain ⟨h1, h2⟩ := hh; exact ⟨h1, by first | exact h2.below _ | exact h2 ▸ Below.refl _ _⟩)
theorem sum_size : SumF natSig Try.prog 80 (fun args => one args fun n => ret (.int .i64 ((szN n : Nat) : Int))) :=
  one_ok (fun _ => loc_ret _) fun n h nx v h' nx' R W e r w a hn sn hM _ => goes_val e rfl hM (same_below (size_num w a n _ hn sn (by omega)))
theorem sum_bytes : SumF natSig Try.prog 62 (fun args => one args fun n => ret (.string (bst n))) :=
  one_ok (fun _ => loc_ret _) fun n h nx v h' nx' R W e r w a hn sn hM _ => goes_val e rfl hM (bytes_num w a n _ hn sn (by omega))
theorem sum_of : SumF natSig Try.prog 58 (fun args => match args with
    | [a] => match a with
      | .int k s => match s with
        | .ofNat n => cond (decide (k = .u64) && Nat.ble (Nat.succ n) 18446744073709551616) (some (newFact n)) none
        | _ => none
      | _ => none
    | _ => none) := by
  intro args m e
  rcases args with _ | ⟨a, _ | ⟨c, l⟩⟩ <;> simp only [reduceCtorEq] at e
  cases a with
  | int k s =>
    cases s with
    | negSucc _ => simp at e
    | ofNat n =>
      simp only at e
      cases hk : (decide (k = .u64) && Nat.ble (Nat.succ n) 18446744073709551616) with
      | false => rw [hk] at e; cases e
      | true =>
        rw [hk] at e
        simp only [cond_true, Option.some.injEq] at e
        subst e
        simp only [Bool.and_eq_true, decide_eq_true_eq] at hk
        have hlt : n < 18446744073709551616 := Nat.le_of_ble_eq_true hk.2
        refine ⟨loc_newFact _, ?_⟩
        intro h nx v h' nx' R W e r w args' ha hM hN
        cases ha with
        | cons ha1 ha2 =>
          cases ha2
          have hb := ha1.int
          subst hb
          rw [hk.1]
          exact goes_new e hM hN (of_num w n hlt)
  | _ => simp at e
theorem sum_fromBytes : SumF natSig Try.prog 54 (fun args => match args with
    | [a] => match a with
      | .string s => cond (Nat.ble s.size 100000) (some (newFact (Big.bnum s.data.toList))) none
      | _ => none
    | _ => none) := by
  intro args m e
  rcases args with _ | ⟨a, _ | ⟨c, l⟩⟩ <;> simp only [reduceCtorEq] at e
  cases a with
  | string s =>
    simp only at e
    cases hk : Nat.ble s.size 100000 with
    | false => rw [hk] at e; cases e
    | true =>
      rw [hk] at e
      simp only [cond_true, Option.some.injEq] at e
      subst e
      have hlt : s.size ≤ 100000 := Nat.le_of_ble_eq_true hk
      refine ⟨loc_newFact _, ?_⟩
      intro h nx v h' nx' R W e r w args' ha hM hN
      cases ha with
      | cons ha1 ha2 =>
        cases ha2
        have hb := ha1.str
        subst hb
        exact goes_new e hM hN (fromBytes_any w s (by omega))
  | _ => simp at e
end
end Ev
end Go.Proofs.Ythfopepnofjcjaa
namespace Go.Proofs.Ythfopepnofjcjaa
open Go Go.RowKit
namespace Ev
section
variable {h h' : Tr (Blk Nat)} {nx nx' : Nat} {R W : List Nat} {r : Ren} {w : World} {v : Value}
theorem goes_new2 {N M' : Nat} {f : FuncId} {args' : List Value} (e : (bind (newFact N) fun x => bind (newFact M') fun y => ret (.tuple ⟨[x, y]⟩) : M Nat Value) h nx = .ok v h' nx' R W) (hM : Mod natSig r h.get w) (hN : New r nx nx')
    (c : Calls Try.prog f ⟨args'⟩ w fun e w' => ∃ a b, e = .returned (.tuple ⟨[a, b]⟩) ∧ NatIn w' a N ∧ NatIn w' b M' ∧ Below w.heap.size w w') : Goes f args' r w nx nx' W h'.get v := by
  obtain ⟨x, h0, nx0, R0, W0, R3, W3, e0, e3, rfl, rfl⟩ := bind_ok e
  obtain ⟨i, h1, nx1, R1, W1, R2, W2, e1, e2, rfl, rfl⟩ := bind_ok e0
  obtain ⟨rfl, rfl, rfl, rfl⟩ := ret_ok e2
  unfold fresh at e1
  cases e1
  obtain ⟨y, h4, nx4, R4, W4, R5, W5, e4, e5, rfl, rfl⟩ := bind_ok e3
  obtain ⟨rfl, rfl, rfl, rfl⟩ := ret_ok e5
  obtain ⟨j, h6, nx6, R6, W6, R7, W7, e6, e7, rfl, rfl⟩ := bind_ok e4
  obtain ⟨rfl, rfl, rfl, rfl⟩ := ret_ok e7
  unfold fresh at e6
  cases e6
  refine c.mono ?_
  rintro en w' ⟨a, b, rfl, ha, hb', hb⟩
  obtain ⟨r1, hX, hr⟩ := ext_fact (S := natSig) (f := N) hM hb (hN.sub (Nat.le_refl _) (by omega)) ha (nat_one ha)
  have hN2 := New.after (hN.sub (lo' := nx) (hi' := nx + 1 + 1) (Nat.le_refl _) (by omega)) hX (by omega)
  obtain ⟨r2, hY, hs⟩ := ext_fact (S := natSig) (f := M') hX.mod (Below.refl _ w') hN2 hb' (nat_one hb')
  refine ⟨.tuple ⟨[a, b]⟩, r2, rfl, .tuple (.cons (.opq (hY.le.val _ _ hr) (nat_one ha)) (.cons (.opq hs (nat_one hb')) .nil)), ?_⟩
  have hZ := hX.trans hY (by omega) (by omega)
  refine Ext.congr (by simpa using hZ) fun n => .inr ?_
  rw [Tr.get_set, Tr.get_set]
end
theorem sum_quoRem : SumF natSig Try.prog 76 (fun args => two args fun n m => bind (newFact (Nat.div n m)) fun x => bind (newFact (Nat.mod n m)) fun y => ret (.tuple ⟨[x, y]⟩)) :=
  two_ok (fun _ _ => loc_bind (loc_newFact _) fun _ => loc_bind (loc_newFact _) fun _ => loc_ret _) fun n m h nx v h' nx' R W e r w a b hn hm sn sm hM hN => goes_new2 e hM hN (quoRem_num w a b n m _ hn hm sn (by omega))
end Ev
end Go.Proofs.Ythfopepnofjcjaa
namespace Go.Proofs.Ythfopepnofjcjaa
open Go Go.RowKit
namespace Ev
section
variable {F : Type} {S : Sig F} {P : Program}
noncomputable def geAll (k : Nat) (l : List Nat) : Bool := List.rec (motive := fun _ => Bool) true (fun n _ ih => Bool.rec (motive := fun _ => Bool) false ih (Nat.ble k n)) l
theorem geAll_ok {k : Nat} : ∀ {l : List Nat}, geAll k l = true → ∀ n ∈ l, k ≤ n
  | [], _, n, hn => by simp at hn
  | m :: l, h, n, hn => by
    have h' : (Bool.rec (motive := fun _ => Bool) false (geAll k l) (Nat.ble k m) : Bool) = true := h
    cases hb : Nat.ble k m with
    | false => rw [hb] at h'; cases h'
    | true =>
      rw [hb] at h'
      rcases List.mem_cons.1 hn with rfl | hn
      · exact Nat.le_of_ble_eq_true hb
      · exact geAll_ok h' n hn
noncomputable def plains (l : List Value) : Bool := plainL plain2 l
theorem plains_ok {r : Ren} : ∀ {l : List Value}, plains l = true → VsR r l l
  | [], _ => .nil
  | v :: l, h => by
    have h' : (plain2 v && plains l) = true := h
    simp only [Bool.and_eq_true] at h'
    exact .cons (VR.same2 h'.1) (plains_ok h'.2)
theorem VsR_eq {r : Ren} : ∀ {l l' : List Value}, plains l = true → VsR r l l' → l' = l
  | [], _, _, h => by cases h; rfl
  | v :: l, _, hp, h => by
    have h' : (plain2 v && plains l) = true := hp
    simp only [Bool.and_eq_true] at h'
    cases h with
    | cons a b => rw [a.eq_of_plain2 h'.1, VsR_eq h'.2 b]
noncomputable def plain3 (v : Value) : Bool := match v with
  | .tuple cs => plains cs.toList
  | v => plain2 v
theorem same3 {r : Ren} {v : Value} (h : plain3 v = true) : VR r v v := by
  cases v with
  | tuple cs => cases cs; exact .tuple (plains_ok (by simpa [plain3] using h))
  | _ => exact VR.same2 h
theorem eq_of_plain3 {r : Ren} {v v' : Value} (h : VR r v v') (hp : plain3 v = true) : v' = v := by
  cases h with
  | tuple a => rw [VsR_eq (by simpa [plain3] using hp) a]
  | same p => rfl
  | ptr p => exact (VR.ptr p).eq_of_plain2 hp
  | slice p => exact (VR.slice p).eq_of_plain2 hp
  | agg a => exact (VR.agg a).eq_of_plain2 hp
  | opq p o => exact (VR.opq p o).eq_of_plain2 hp
  | func a b => exact (VR.func a b).eq_of_plain2 hp
  | iface a => exact (VR.iface a).eq_of_plain2 hp
noncomputable def gives (nx : Nat) (m : M F Value) : Option Value := match m .nil nx with
  | .no => none
  | .ok a _ _ _ W => cond (plain3 a && geAll nx W) (some a) none
theorem gives_ok {nx : Nat} {m : M F Value} {v : Value} (e : gives nx m = some v) : ∃ h' nx' R W, m .nil nx = .ok v h' nx' R W ∧ plain3 v = true ∧ ∀ n ∈ W, nx ≤ n := by
  unfold gives at e
  cases hm : m .nil nx with
  | no => rw [hm] at e; cases e
  | ok a h' nx' R W =>
    rw [hm] at e
    simp only at e
    cases hc : (plain3 a && geAll nx W) with
    | false => rw [hc] at e; cases e
    | true =>
      rw [hc] at e
      simp only [cond_true, Option.some.injEq] at e
      subst e
      simp only [Bool.and_eq_true] at hc
      exact ⟨h', nx', R, W, rfl, hc.1, geAll_ok hc.2⟩
noncomputable def ren0 (G : Nat) : Ren := ⟨fun n => if n < G then some n else none, fun _ => none⟩
theorem mod0 {w : World} (hG : S.G ≤ w.heap.size) (hb : S.base w) : Mod S (ren0 S.G) (fun _ => none) w := by
  refine ⟨fun n m b h1 h2 => ?_, fun n b h => ?_, fun n c t h => (by cases h), fun n f h => (by cases h), hb, fun n hn => if_pos hn⟩
  · unfold ren0 at h1 h2
    simp only at h1 h2
    split at h1 <;> split at h2 <;> first | (cases h1; cases h2; rfl) | (cases h1; done) | (cases h2; done)
  · unfold ren0 at h
    simp only at h
    split at h
    · cases h; omega
    · cases h
theorem gives_calls {C : Cfg F} [HardLoc C] {sum : Sums F} {n nx : Nat} {f : FuncId} {args : List Value} {v : Value} (hF : Fits S P C) (hs : SumOK S P sum) (e : gives nx (call P C sum n f args) = some v) (ha : plains args = true) (hx : S.G ≤ nx) {w : World} (hG : S.G ≤ w.heap.size) (hb : S.base w) :
    Calls P f ⟨args⟩ w fun e w' => e = .returned v ∧ Below w.heap.size w w' := by
  obtain ⟨h', nx', R, W, hm, hp, hW⟩ := gives_ok e
  have hc := call_ok hF hs n
  have hfr : Fr (.nil : Tr (Blk F)) nx := fun k _ => Tr.get_nil k
  have hrun := Run.self (hc.loc f args) hm hfr
  have hN : New (ren0 S.G) nx nx' := fun k h1 h2 => ⟨if_neg (by omega), rfl⟩
  have hg : (Tr.get (.nil : Tr (Blk F))) = fun _ => none := funext fun k => Tr.get_nil k
  refine (hc.run f args _ _ _ _ _ _ _ hrun (ren0 S.G) w args (plains_ok ha) (by rw [hg]; exact mod0 hG hb) hN).mono ?_
  rintro en w' ⟨v', r', rfl, hv, hX⟩
  have hv' := eq_of_plain3 hv hp
  subst hv'
  refine ⟨rfl, hX.os, hX.tape, hX.output, hX.size, fun b hb' => ?_⟩
  have hbo : w.heap[b]? = some w.heap[b] := Array.getElem?_eq_getElem hb'
  rw [hbo]
  exact hX.keep b _ hbo fun k hk => by
    have := hW k hk
    show ¬ (if k < S.G then some k else none) = some b
    rw [if_neg (by omega)]
    simp
end
noncomputable def natList : List (Nat × (List Value → Option (M Nat Value))) := [
  (83, fun args => two args fun n m => newFact (Nat.add n m)),
  (84, fun args => two args fun n m => newFact (Nat.sub n m)),
  (64, fun args => two args fun n m => newFact (Nat.mul n m)),
  (63, fun args => two args fun n m => newFact (Nat.div n m)),
  (55, fun args => two args fun n m => newFact (Nat.gcd n m)),
  (76, fun args => two args fun n m => bind (newFact (Nat.div n m)) fun x => bind (newFact (Nat.mod n m)) fun y => ret (.tuple ⟨[x, y]⟩)),
  (65, fun args => two args fun n m => ret (.int .i64 (Big.cmpI n m))),
  (56, fun args => one args fun n => ret (.bool (decide (n = 1)))),
  (80, fun args => one args fun n => ret (.int .i64 ((szN n : Nat) : Int))),
  (62, fun args => one args fun n => ret (.string (bst n))),
  (58, fun args => match args with
    | [a] => match a with
      | .int k s => match s with
        | .ofNat n => cond (decide (k = .u64) && Nat.ble (Nat.succ n) 18446744073709551616) (some (newFact n)) none
        | _ => none
      | _ => none
    | _ => none),
  (54, fun args => match args with
    | [a] => match a with
      | .string s => cond (Nat.ble s.size 100000) (some (newFact (Big.bnum s.data.toList))) none
      | _ => none
    | _ => none)]
theorem natList_ok : ∀ x ∈ natList, SumF natSig Try.prog x.1 x.2 := by
  unfold natList
  intro x hx
  simp only [List.mem_cons, List.not_mem_nil, or_false] at hx
  rcases hx with rfl | rfl | rfl | rfl | rfl | rfl | rfl | rfl | rfl | hx
  · exact sum_add
  · exact sum_sub
  · exact sum_mul
  · exact sum_quo
  · exact sum_gcd
  · exact sum_quoRem
  · exact sum_cmp
  · exact sum_isOne
  · exact sum_size
  rcases hx with rfl | hx
  · exact sum_bytes
  rcases hx with rfl | rfl
  · exact sum_of
  · exact sum_fromBytes
noncomputable def natSums : Sums Nat := sumsOf (mkTab natList)
theorem natSums_ok : SumOK natSig Try.prog natSums := sumsOf_ok natList_ok
noncomputable def runs (n : Nat) (f : FuncId) (args : List Value) : Option Value := gives 100000 (call Try.prog natCfg natSums n f args)
theorem glob_few : Try.prog.globals.size ≤ 100000 := by
  have h : Nat.ble Try.prog.globals.size 100000 = true := by kernel_rfl
  exact Nat.le_of_ble_eq_true h
theorem runs_calls {n : Nat} {f : FuncId} {args : List Value} {v : Value} (e : runs n f args = some v) (ha : plains args = true) {w : World} (hG : Try.prog.globals.size ≤ w.heap.size) (hb : Tab w) :
    Calls Try.prog f ⟨args⟩ w fun e w' => e = .returned v ∧ Below w.heap.size w w' :=
  gives_calls natFits natSums_ok e ha glob_few hG hb
end Ev
end Go.Proofs.Ythfopepnofjcjaa
namespace Go.Proofs.Ythfopepnofjcjaa
open Go Go.RowKit
namespace Ev
noncomputable def eqL {α : Type} (f : α → α → Bool) (l : List α) : List α → Bool := List.rec (motive := fun _ => List α → Bool)
  (fun m => match m with | [] => true | _ :: _ => false) (fun a _ ih m => match m with | [] => false | b :: m => f a b && ih m) l
theorem eqL_ok {α : Type} {f : α → α → Bool} (hf : ∀ a b, f a b = true → a = b) : ∀ {l m : List α}, eqL f l m = true → l = m
  | [], [], _ => rfl
  | [], _ :: _, h => by exact absurd (show false = true from h) (by simp)
  | _ :: _, [], h => by exact absurd (show false = true from h) (by simp)
  | a :: l, b :: m, h => by
    have h' : (f a b && eqL f l m) = true := h
    simp only [Bool.and_eq_true] at h'
    rw [hf _ _ h'.1, eqL_ok hf h'.2]
noncomputable def eqC (a b : UInt8) : Bool := Nat.beq a.toNat b.toNat
theorem eqC_ok (a b : UInt8) (h : eqC a b = true) : a = b := UInt8.toNat_inj.1 (Nat.eq_of_beq_eq_true h)
noncomputable def eqS (s t : ByteArray) : Bool := eqL eqC s.data.toList t.data.toList
theorem eqS_ok {s t : ByteArray} (h : eqS s t = true) : s = t := by
  obtain ⟨⟨l⟩⟩ := s
  obtain ⟨⟨m⟩⟩ := t
  have : l = m := eqL_ok eqC_ok h
  rw [this]
noncomputable def eq1 (v w : Value) : Bool := match v with
  | .bool a => match w with | .bool b => decide (a = b) | _ => false
  | .int k a => match w with | .int l b => decide (k = l) && decide (a = b) | _ => false
  | .float k a => match w with | .float l b => decide (k = l) && Nat.beq a b | _ => false
  | .complex k a b => match w with | .complex l c d => decide (k = l) && (Nat.beq a c && Nat.beq b d) | _ => false
  | .string s => match w with | .string t => eqS s t | _ => false
  | _ => false
theorem eq1_ok (v w : Value) (h : eq1 v w = true) : v = w := by
  unfold eq1 at h
  cases v <;> simp only [Bool.false_eq_true] at h <;> cases w <;> simp only [Bool.false_eq_true, Bool.and_eq_true, decide_eq_true_eq] at h
  · rw [h]
  · rw [h.1, h.2]
  · rw [h.1, Nat.eq_of_beq_eq_true h.2]
  · rw [h.1, Nat.eq_of_beq_eq_true h.2.1, Nat.eq_of_beq_eq_true h.2.2]
  · rw [eqS_ok h]
noncomputable def eqV (v w : Value) : Bool := match v with
  | .agg a => match w with | .agg b => eqL eq1 a.toList b.toList | _ => false
  | _ => eq1 v w
theorem eqV_ok (v w : Value) (h : eqV v w = true) : v = w := by
  unfold eqV at h
  cases v <;> try exact eq1_ok _ _ h
  cases w <;> simp only [Bool.false_eq_true] at h
  rename_i a b
  obtain ⟨l⟩ := a
  obtain ⟨m⟩ := b
  have : l = m := eqL_ok eq1_ok h
  rw [this]
theorem goes_val3 {h h' : Tr (Blk Nat)} {nx nx' : Nat} {R W : List Nat} {r : Ren} {w : World} {u v : Value} {f : FuncId} {args' : List Value} (e : (ret u : M Nat Value) h nx = .ok v h' nx' R W) (hp : plain3 u = true) (hM : Mod natSig r h.get w) (c : Calls Try.prog f ⟨args'⟩ w fun e w' => e = .returned u ∧ Below w.heap.size w w') : Goes f args' r w nx nx' W h'.get v := by
  obtain ⟨rfl, rfl, rfl, rfl⟩ := ret_ok e
  refine c.mono ?_
  rintro en w' ⟨rfl, hb⟩
  exact ⟨_, r, rfl, same3 hp, ext_below hM hb _⟩
structure Fact where
  f : FuncId
  args : List Value
  v : Value
def Fact.ok (x : Fact) : Prop := plains x.args = true ∧ plain3 x.v = true ∧ ∀ w : World, Try.prog.globals.size ≤ w.heap.size → Tab w → Calls Try.prog x.f ⟨x.args⟩ w fun e w' => e = .returned x.v ∧ Below w.heap.size w w'
theorem Fact.of_run {x : Fact} {n : Nat} (h : runs n x.f x.args = some x.v) (ha : plains x.args = true) : x.ok := by
  refine ⟨ha, ?_, fun w hG hT => runs_calls h ha hG hT⟩
  obtain ⟨_, _, _, _, _, hp, _⟩ := gives_ok h
  exact hp
noncomputable def look (f : FuncId) (args : List Value) (l : List Fact) : Option Value := List.rec (motive := fun _ => Option Value) none
  (fun x _ ih => Bool.rec (motive := fun _ => Option Value) ih (Bool.rec (motive := fun _ => Option Value) ih (some x.v) (eqL eqV x.args args)) (Nat.beq x.f f)) l
theorem look_ok {f : FuncId} {args : List Value} {v : Value} : ∀ {l : List Fact}, look f args l = some v → ∃ x ∈ l, x.f = f ∧ x.args = args ∧ x.v = v
  | [], h => by cases h
  | x :: l, h => by
    have h' : (Bool.rec (motive := fun _ => Option Value) (look f args l) (Bool.rec (motive := fun _ => Option Value) (look f args l) (some x.v) (eqL eqV x.args args)) (Nat.beq x.f f) : Option Value) = some v := h
    cases hb : Nat.beq x.f f with
    | false =>
      rw [hb] at h'
      obtain ⟨y, hy, r⟩ := look_ok h'
      exact ⟨y, List.mem_cons_of_mem _ hy, r⟩
    | true =>
      rw [hb] at h'
      cases hc : eqL eqV x.args args with
      | false =>
        rw [hc] at h'
        obtain ⟨y, hy, r⟩ := look_ok h'
        exact ⟨y, List.mem_cons_of_mem _ hy, r⟩
      | true =>
        rw [hc] at h'
        exact ⟨x, List.mem_cons_self, Nat.eq_of_beq_eq_true hb, eqL_ok eqV_ok hc, Option.some.inj h'⟩
noncomputable def known (l : List Fact) : Sums Nat := fun f args => match look f args l with
  | some v => some (ret v)
  | none => natSums f args
theorem known_ok {l : List Fact} (hl : ∀ x ∈ l, x.ok) : SumOK natSig Try.prog (known l) := by
  refine ⟨fun f args m e => ?_, fun f args m e h nx v h' nx' R W hr r w args' ha hM hN => ?_⟩
  · unfold known at e
    cases hk : look f args l with
    | none => rw [hk] at e; exact natSums_ok.loc f args m e
    | some v => rw [hk] at e; cases e; exact loc_ret _
  · unfold known at e
    cases hk : look f args l with
    | none => rw [hk] at e; exact natSums_ok.run f args m e h nx v h' nx' R W hr r w args' ha hM hN
    | some u =>
      rw [hk] at e
      cases e
      obtain ⟨x, hx, rfl, rfl, rfl⟩ := look_ok hk
      obtain ⟨h1, h2, h3⟩ := hl x hx
      obtain rfl : args' = x.args := VsR_eq h1 ha
      have hG : Try.prog.globals.size ≤ w.heap.size := by
        rcases Nat.eq_zero_or_pos Try.prog.globals.size with h0 | h0
        · omega
        · have := hM.lt _ _ (hM.glob (Try.prog.globals.size - 1) (show _ < Try.prog.globals.size by omega))
          omega
      exact goes_val3 hr.ok h2 hM (h3 w hG hM.base)
noncomputable def runsBy (l : List Fact) (n : Nat) (f : FuncId) (args : List Value) : Option Value := gives 100000 (call Try.prog natCfg (known l) n f args)
theorem runsBy_calls {l : List Fact} (hl : ∀ x ∈ l, x.ok) {n : Nat} {f : FuncId} {args : List Value} {v : Value} (e : runsBy l n f args = some v) (ha : plains args = true) {w : World} (hG : Try.prog.globals.size ≤ w.heap.size) (hb : Tab w) :
    Calls Try.prog f ⟨args⟩ w fun e w' => e = .returned v ∧ Below w.heap.size w w' :=
  gives_calls natFits (known_ok hl) e ha glob_few hG hb
theorem Fact.by_run {l : List Fact} (hl : ∀ x ∈ l, x.ok) {x : Fact} {n : Nat} (h : runsBy l n x.f x.args = some x.v) (ha : plains x.args = true) : x.ok := by
  refine ⟨ha, ?_, fun w hG hT => runsBy_calls hl h ha hG hT⟩
  obtain ⟨_, _, _, _, _, hp, _⟩ := gives_ok h
  exact hp
end Ev
end Go.Proofs.Ythfopepnofjcjaa
namespace Go.Proofs.Ythfopepnofjcjaa
open Go Go.RowKit
namespace Tp
set_option maxRecDepth 100000
noncomputable def partsF : Ev.Fact := ⟨70, [], .agg ⟨pl.map fun p => .complex .f64 p.1 p.2⟩⟩
theorem partsF_ok : partsF.ok := Ev.Fact.of_run (n := 40) (by kernel_rfl) rfl
theorem parts_any (w : World) (hG : Try.prog.globals.size ≤ w.heap.size) : Calls Try.prog 70 #[] w fun e w' => e = .returned (.agg ⟨pl.map fun p => .complex .f64 p.1 p.2⟩) ∧ Below w.heap.size w w' := partsF_ok.2.2 w hG trivial
theorem and_i64_nat (a b : Nat) (ha : a < 4611686018427387904) (hb : b < 4611686018427387904) : bits .and .i64 (a : Int) (b : Int) = ((a &&& b : Nat) : Int) := by
  have hx : a &&& b < 2 ^ 62 := Nat.and_lt_two_pow _ (by omega)
  have h1 : (BitVec.ofInt 64 (a : Int)).toNat = a := by
    rw [BitVec.ofInt_natCast, BitVec.toNat_ofNat]; exact Nat.mod_eq_of_lt (by omega)
  have h2 : (BitVec.ofInt 64 (b : Int)).toNat = b := by
    rw [BitVec.ofInt_natCast, BitVec.toNat_ofNat]; exact Nat.mod_eq_of_lt (by omega)
  show IntKind.i64.wrap ((BitVec.ofInt 64 (a : Int) &&& BitVec.ofInt 64 (b : Int)).toNat : Int) = _
  rw [BitVec.toNat_and, h1, h2, IntKind.wrap_i64]
  omega
theorem and_pow (x k : Nat) : x &&& 2 ^ k = if x.testBit k = true then 2 ^ k else 0 := by
  apply Nat.eq_of_testBit_eq
  intro i
  rw [Nat.testBit_and, Nat.testBit_two_pow]
  by_cases h : k = i
  · subst h
    cases hx : x.testBit k <;> simp [Nat.testBit_two_pow]
  · cases hx : x.testBit k <;> simp [Nat.testBit_two_pow, h]
theorem bit_test {r i : Nat} (hr : r ≤ 8192) (hi : i < 14) : bits .and .i64 (wrap64 ((r : Int) * 2 ^ i)) 8192 = if r.testBit (13 - i) = true then 8192 else 0 := by
  have h1 : 2 ^ i ≤ 2 ^ 13 := Nat.pow_le_pow_right (by omega) (by omega)
  have h2 : r * 2 ^ i ≤ 8192 * 8192 := Nat.mul_le_mul hr h1
  have e1 : ((r : Int) * 2 ^ i) = ((r * 2 ^ i : Nat) : Int) := by
    rw [Int.natCast_mul, Int.natCast_pow]; rfl
  rw [e1]
  have hb : (r * 2 ^ i).testBit 13 = r.testBit (13 - i) := by
    rw [Nat.testBit_mul_two_pow, decide_eq_true (show 13 ≥ i by omega), Bool.true_and]
  rw [← hb]
  generalize r * 2 ^ i = x at *
  have e2 : wrap64 (x : Int) = (x : Int) := by
    unfold wrap64
    omega
  rw [e2, show (8192 : Int) = ((2 ^ 13 : Nat) : Int) from rfl, and_i64_nat _ _ (by omega) (by decide), and_pow]
  cases x.testBit 13 <;> simp
theorem idx_any (i : Nat) (hi : i < 14) (w : World) : (Instr.index 106 (.agg ⟨pl.map fun p => .complex .f64 p.1 p.2⟩) (.int .i64 i)).run Try.prog w = .ok (.complex .f64 (pl.getD i (0, 0)).1 (pl.getD i (0, 0)).2) w := by
  have har : Ev.arrayT Try.prog 106 = some (14, 22) := by kernel_rfl
  have hz : Ev.sizeT Try.prog 22 = some 1 := by kernel_rfl
  have hl : pl.length = 14 := rfl
  have hag : Ev.isAggT Try.prog 22 = some false := by kernel_rfl
  have hpa : Ev.partA Try.prog 22 (pl.map fun p => .complex .f64 p.1 p.2) i = some (.complex .f64 (pl.getD i (0, 0)).1 (pl.getD i (0, 0)).2) := by
    unfold Ev.partA
    rw [hag]
    show (pl.map fun p => Value.complex .f64 p.1 p.2)[i]? = _
    rw [List.getElem?_map, List.getD_eq_getElem?_getD, List.getElem?_eq_getElem (show i < pl.length by omega)]
    rfl
  have hp : (part 22 ⟨pl.map fun p => .complex .f64 p.1 p.2⟩ i).run Try.prog w = .ok (.complex .f64 (pl.getD i (0, 0)).1 (pl.getD i (0, 0)).2) w := by
    obtain ⟨v', h1, h2⟩ := Ev.part_ok hpa (Ev.plains_ok (r := Ev.ren0 0) (by kernel_rfl)) w
    have := h2.eq_of_plain rfl
    rw [this] at h1
    exact h1
  have c1 : (0 : Int) ≤ (i : Int) ∧ (i : Int) < ((14 : Nat) : Int) := by omega
  simp [Instr.index, asIntOf, run_underlying (Ev.arrayT_of har), Ev.size_of hz, hp]
  omega
set_option maxHeartbeats 4000000 in
theorem product_any (w : World) (q r : Nat) (m : Bool) (hr : r ≤ 8192) (hG : Try.prog.globals.size ≤ w.heap.size) : Calls Try.prog 48 #[.agg #[.int .i64 q, .int .i64 r, .bool m]] w fun e w' => (∃ a b, prodC r 14 = some (a, b) ∧ e = .returned (.complex .f64 a b)) ∧ Below w.heap.size w w' := by
  have HGd := Lib.hid (fun j (hj : j ≤ 14) => good_all hr hj)
  have HN := Lib.hid (At3.new w 56 (.int .i64 q) (.int .i64 r) (.bool m))
  have HB := Lib.hid (box1_below w (.cells #[.int .i64 q, .int .i64 r, .bool m] 56))
  have HP := Lib.hid (parts_any (w.alloc (.cells #[.int .i64 q, .int .i64 r, .bool m] 56)) (Nat.le_trans hG HB.out.size))
  obtain ⟨V, hV⟩ : ∃ V : Array Value, V = ⟨pl.map fun p => .complex .f64 p.1 p.2⟩ := ⟨_, rfl⟩
  rw [← hV] at HP
  have HV := Lib.hid hV
  clear hV hG
  go_enter Try.func48, Try.ntmps48
  go_wp2_with fail
  refine HP.out.mono ?_
  generalize w.alloc (.cells #[.int .i64 q, .int .i64 r, .bool m] 56) = wa at *
  rintro e w1 ⟨rfl, hb1⟩
  have HB1 := Lib.hid (HB.out.trans (hb1.mono HB.out.size))
  have HN1 := Lib.hid (HN.out.keep hb1)
  clear hb1 HN HB HP
  go_wp2_with fail
  go_loopw [3, 7] (fun zv iv wr => ∃ (i a b : Nat), i ≤ 14 ∧ iv = .int .i64 i ∧ zv = .complex .f64 a b ∧ Hid (prodC r i = some (a, b)) ∧ Hid (At3 wr w.heap.size 56 (.int .i64 q) (.int .i64 r) (.bool m)) ∧ Hid (Below w.heap.size w wr)) (fun _ iv _ => 14 - (intOf iv).toNat)
  case atStart => exact ⟨0, _, _, by omega, rfl, rfl, Lib.hid rfl, HN1, HB1⟩
  case round =>
    obtain ⟨i, a, b, hi, rfl, rfl, HPr, HNr, HBr⟩ := hrel
    by_cases hlt : i < 14
    · have hlt' : (i : Int) < 14 := by omega
      have x0 := HNr.out.c0; have x1 := HNr.out.c1; have x2 := HNr.out.c2
      have hix := fun w => idx_any i hlt w
      rw [← HV.out] at hix
      obtain ⟨c, d, hcd⟩ : ∃ c d, pl.getD i (0, 0) = (c, d) := ⟨_, _, rfl⟩
      rw [hcd] at hix
      have hbt := bit_test hr hlt
      obtain ⟨z, hz, -⟩ := HGd.out (i + 1) (by omega)
      cases hb : r.testBit (13 - i) with
      | true =>
        have hp := prod_yes HPr.out hb
        rw [hcd, hz] at hp
        obtain ⟨a2, b2⟩ := z
        have HT := Lib.hid (fun w => dtimes_any hp.symm w)
        rw [hb, if_pos rfl] at hbt
        have HZ := Lib.hid hz
        clear hp hz hb HPr hcd hi hlt
        go_wp2_with (first | simp only [hix] | (go_at_call 71; refine (HT.out _).mono ?_; rintro e w' ⟨rfl, rfl⟩))
        go_roundw
        case rel => exact ⟨i + 1, a2, b2, by omega, by go_num, rfl, HZ, HNr, HBr⟩
        case measure => simp [intOf]; omega
      | false =>
        have hp := prod_no HPr.out hb
        rw [hb, if_neg (by simp)] at hbt
        have HZ := Lib.hid hp
        clear hp hz hb HPr hcd hi hlt
        go_wp2_with (simp only [hix])
        go_roundw
        case rel => exact ⟨i + 1, a, b, by omega, by go_num, rfl, HZ, HNr, HBr⟩
        case measure => simp [intOf]; omega
    · have hlt' : ¬ (i : Int) < 14 := by omega
      obtain rfl : i = 14 := by omega
      go_wp2_with fail
      go_ret
      exact ⟨⟨a, b, HPr.out, rfl⟩, HBr.out⟩
end Tp
end Go.Proofs.Ythfopepnofjcjaa
namespace Go.Proofs.Ythfopepnofjcjaa
open Go Go.RowKit
namespace Tp
set_option maxRecDepth 100000
def zOf (r : Nat) : Nat × Nat := (prodC r 14).getD oneC
theorem zOf_is {r a b : Nat} (h : prodC r 14 = some (a, b)) : zOf r = (a, b) := by unfold zOf; rw [h]; rfl
def rot (z : Nat × Nat) : Nat × Nat := (Op.negFloat .f64 z.2, z.1)
def rotI : Nat → Nat × Nat → Nat × Nat
  | 0, z => z
  | n + 1, z => rot (rotI n z)
def swp (m : Bool) (z : Nat × Nat) : Nat × Nat := if m = true then (z.2, z.1) else z
def ptC (q : Nat) (m : Bool) (z : Nat × Nat) : Nat × Nat := (unsN (rotI q (swp m z)).1, unsN (rotI q (swp m z)).2)
@[go_sem] theorem unary_neg7 (k : FloatKind) (b : Nat) : Op.unary .neg (.float k b) = pure (.float k (Op.negFloat k b)) := rfl
set_option maxHeartbeats 4000000 in
theorem point_any (w : World) (q r : Nat) (m : Bool) (hq : q ≤ 3) (hr : r ≤ 8192) (hG : Try.prog.globals.size ≤ w.heap.size) : Calls Try.prog 23 #[.agg #[.int .i64 q, .int .i64 r, .bool m]] w fun e w' => e = .returned (.complex .f64 (ptC q m (zOf r)).1 (ptC q m (zOf r)).2) ∧ Below w.heap.size w w' := by
  have HN := Lib.hid (At3.new w 56 (.int .i64 q) (.int .i64 r) (.bool m))
  have HB := Lib.hid (box1_below w (.cells #[.int .i64 q, .int .i64 r, .bool m] 56))
  have HP := Lib.hid (product_any (w.alloc (.cells #[.int .i64 q, .int .i64 r, .bool m] 56)) q r m hr (Nat.le_trans hG HB.out.size))
  have x0 := HN.out.c0; have x1 := HN.out.c1; have x2 := HN.out.c2
  clear hG
  go_enter Try.func23, Try.ntmps23
  go_wp2_with fail
  refine HP.out.mono ?_
  generalize w.alloc (.cells #[.int .i64 q, .int .i64 r, .bool m] 56) = wa at *
  rintro e w1 ⟨⟨a, b, hab, rfl⟩, hb1⟩
  have HB1 := Lib.hid (HB.out.trans (hb1.mono HB.out.size))
  have HN1 := HN.out.keep hb1
  have HZ := Lib.hid (zOf_is hab)
  have y0 := HN1.c0; have y1 := HN1.c1; have y2 := HN1.c2
  clear hb1 HN HB HP x0 x1 x2 hab HN1
  cases m
  · have HS := Lib.hid (show swp false (zOf r) = (a, b) by unfold swp; rw [HZ.out]; rfl)
    go_wp2_with fail
    go_loopw [3, 15] (fun zv iv wr => ∃ (i : Nat), i ≤ q ∧ iv = .int .i64 i ∧ zv = .complex .f64 (rotI i (a, b)).1 (rotI i (a, b)).2 ∧ Hid (Below w.heap.size w wr)) (fun _ iv _ => q - (intOf iv).toNat)
    case atStart => exact ⟨0, by omega, rfl, rfl, HB1⟩
    case round =>
      obtain ⟨i, hi, rfl, rfl, HBr⟩ := hrel
      by_cases hlt : i < q
      · have hlt' : (i : Int) < (q : Int) := by omega
        go_wp2_with fail
        go_roundw
        case rel => exact ⟨i + 1, by omega, by go_num, rfl, HBr⟩
        case measure => simp [intOf]; omega
      · have hlt' : ¬ (i : Int) < (q : Int) := by omega
        obtain rfl : i = q := by omega
        obtain ⟨c, d, hcd⟩ : ∃ c d, rotI i (a, b) = (c, d) := ⟨_, _, rfl⟩
        have HC := Lib.hid (show ptC i false (zOf r) = (unsN c, unsN d) by unfold ptC; rw [HS.out, hcd])
        rw [hcd]
        have H1 := Lib.hid (fun w => tunsigned_any c w)
        have H2 := Lib.hid (fun w => tunsigned_any d w)
        clear hcd HS HZ
        generalize unsN c = c2 at *
        generalize unsN d = d2 at *
        go_wp2_with (go_at_call 49; (first | with_reducible refine (H1.out _).mono ?_ | with_reducible refine (H2.out _).mono ?_); rintro e w' ⟨rfl, rfl⟩)
        go_ret
        exact ⟨by rw [HC.out]; rfl, HBr.out⟩
  · have HS := Lib.hid (show swp true (zOf r) = (b, a) by unfold swp; rw [HZ.out]; rfl)
    go_wp2_with fail
    go_loopw [3, 15] (fun zv iv wr => ∃ (i : Nat), i ≤ q ∧ iv = .int .i64 i ∧ zv = .complex .f64 (rotI i (b, a)).1 (rotI i (b, a)).2 ∧ Hid (Below w.heap.size w wr)) (fun _ iv _ => q - (intOf iv).toNat)
    case atStart => exact ⟨0, by omega, rfl, rfl, HB1⟩
    case round =>
      obtain ⟨i, hi, rfl, rfl, HBr⟩ := hrel
      by_cases hlt : i < q
      · have hlt' : (i : Int) < (q : Int) := by omega
        go_wp2_with fail
        go_roundw
        case rel => exact ⟨i + 1, by omega, by go_num, rfl, HBr⟩
        case measure => simp [intOf]; omega
      · have hlt' : ¬ (i : Int) < (q : Int) := by omega
        obtain rfl : i = q := by omega
        obtain ⟨c, d, hcd⟩ : ∃ c d, rotI i (b, a) = (c, d) := ⟨_, _, rfl⟩
        have HC := Lib.hid (show ptC i true (zOf r) = (unsN c, unsN d) by unfold ptC; rw [HS.out, hcd])
        rw [hcd]
        have H1 := Lib.hid (fun w => tunsigned_any c w)
        have H2 := Lib.hid (fun w => tunsigned_any d w)
        clear hcd HS HZ
        generalize unsN c = c2 at *
        generalize unsN d = d2 at *
        go_wp2_with (go_at_call 49; (first | with_reducible refine (H1.out _).mono ?_ | with_reducible refine (H2.out _).mono ?_); rintro e w' ⟨rfl, rfl⟩)
        go_ret
        exact ⟨by rw [HC.out]; rfl, HBr.out⟩
end Tp
end Go.Proofs.Ythfopepnofjcjaa
namespace Go.Proofs.Ythfopepnofjcjaa
open Go Go.RowKit Ieee Fl
namespace Tp
set_option maxRecDepth 100000
theorem isZ_no {x : Nat} (h : x % 9223372036854775808 ≠ 0) : isZ x = false := by
  have hr : rg x ≠ 0 := h
  have hs : sv x ≠ 0 := by
    have := V_lt (show 0 < rg x by omega)
    unfold sv sg; split <;> omega
  have h0 : sv 0 = 0 := by decide
  show (double.order x 0 == some .eq) = false
  by_cases hn : IsN x
  · rw [order_eq hn (show IsN 0 by unfold IsN; decide), h0]
    show (some (if sv x < 0 then Ordering.lt else if sv x = 0 then Ordering.eq else Ordering.gt) == some Ordering.eq) = false
    rw [if_neg hs]
    split <;> rfl
  · have e : double.order x 0 = none := by
      unfold Format.order
      rw [read_eq, if_neg (by unfold IsN INF at hn; omega), if_neg (by unfold IsN INF at hn; unfold INF; omega), if_neg (by unfold IsN at hn; omega)]
      rfl
    rw [e]; rfl
theorem neg_mod (x : Nat) : Op.negFloat .f64 x % 9223372036854775808 = x % 9223372036854775808 := by
  show (x ^^^ 2 ^ 63) % 9223372036854775808 = _
  rw [show 9223372036854775808 = 2 ^ 63 from rfl, Nat.xor_mod_two_pow, Nat.mod_self, Nat.xor_zero]
def NZ (z : Nat × Nat) : Prop := z.1 % 9223372036854775808 ≠ 0 ∧ z.2 % 9223372036854775808 ≠ 0
theorem nz_is {z : Nat × Nat} (h : nz z = true) : NZ z := by
  unfold nz at h
  simp only [Bool.and_eq_true, Bool.not_eq_true'] at h
  have key : ∀ a : Nat, Nat.beq a 0 = false → a ≠ 0 := fun a ha h0 => by rw [h0] at ha; cases ha
  exact ⟨key _ h.1, key _ h.2⟩
theorem NZ.rot {z : Nat × Nat} (h : NZ z) : NZ (rot z) := ⟨by show Op.negFloat .f64 z.2 % _ ≠ 0; rw [neg_mod]; exact h.2, h.1⟩
theorem NZ.rotI {z : Nat × Nat} (h : NZ z) : ∀ n, NZ (rotI n z)
  | 0 => h
  | n + 1 => (NZ.rotI h n).rot
theorem NZ.swp {z : Nat × Nat} (h : NZ z) (m : Bool) : NZ (swp m z) := by
  unfold Tp.swp
  split
  · exact ⟨h.2, h.1⟩
  · exact h
theorem pt_yes {q : Nat} {m : Bool} {z : Nat × Nat} (h : NZ z) : isZ (ptC q m z).1 = false ∧ isZ (ptC q m z).2 = false := by
  have h1 := (h.swp m).rotI q
  have e : ∀ x, x % 9223372036854775808 ≠ 0 → isZ (unsN x) = false := fun x hx => by
    have := isZ_no hx
    unfold unsN
    rw [this]
    exact this
  exact ⟨e _ h1.1, e _ h1.2⟩
theorem pt_no {q : Nat} {m : Bool} (hq : q ≤ 3) : (isZ (ptC q m oneC).1 || isZ (ptC q m oneC).2) = true := by
  rcases (show q = 0 ∨ q = 1 ∨ q = 2 ∨ q = 3 by omega) with rfl | rfl | rfl | rfl <;> cases m <;> decide +kernel
theorem pt_zero {q r : Nat} {m : Bool} (hq : q ≤ 3) (hr : r ≤ 8192) : (r = 0 ∧ (isZ (ptC q m (zOf r)).1 || isZ (ptC q m (zOf r)).2) = true) ∨ (r ≠ 0 ∧ isZ (ptC q m (zOf r)).1 = false ∧ isZ (ptC q m (zOf r)).2 = false) := by
  obtain ⟨z, hz, h | h⟩ := good_all hr (Nat.le_refl 14)
  · have h0 := zero_of_noBit hr h.1
    have e : zOf r = oneC := by
      obtain ⟨a, b⟩ := z
      rw [zOf_is hz]
      exact h.2
    rw [e]
    exact .inl ⟨h0, pt_no hq⟩
  · have e : zOf r = z := by
      obtain ⟨a, b⟩ := z
      exact zOf_is hz
    have hr0 : r ≠ 0 := fun h0 => by
      subst h0
      exact h.1 fun t _ => Nat.zero_testBit _
    rw [e]
    exact .inr ⟨hr0, pt_yes (nz_is h.2)⟩
end Tp
end Go.Proofs.Ythfopepnofjcjaa
