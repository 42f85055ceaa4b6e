/- Contracts, in this order: The interpreter with natural numbers that are not looked int · exact: sum. · exact: Add. · exact: Mul. · exact: Neg, Sign, IsWhole, Num, Den. · exact: Cmp. exact: Sub, Quo, Cmp. · exact: Size, Frac. -/
import Derived.Test.YtfmebfkdpfbjbaaGreatDoorEkq09
import Derived.Test.YtfmebfkdpfbjbaaGreatDoorEkq10
import Derived.Test.YtfmebfkdpfbjbaaGreatDoorEkq18
import Derived.Deep.RegionHeld3
namespace Go.Proofs.YtfmebfkdpfbjbaaGreatDoor
open Go Go.RowKit
namespace Ev
def wordsN (n : Nat) : Nat := if n = 0 then 0 else Nat.log2 n / 64 + 1
theorem words_of {l : List Nat} (ol : Big.Ok Big.M64 l) (nl : Big.Norm l) : l.length = wordsN (Big.val Big.M64 l) := by
  unfold wordsN
  by_cases h0 : Big.val Big.M64 l = 0
  · rw [if_pos h0, Big.norm_zero Big.M64_pos l nl h0]; rfl
  · rw [if_neg h0]
    have hne : l ≠ [] := by intro e; subst e; exact h0 rfl
    have h1 := Big.norm_ge (B := Big.M64) l nl hne
    have h2 := Big.val_lt l ol
    generalize Big.val Big.M64 l = n at *
    have hM : ∀ k, Big.M64 ^ k = 2 ^ (64 * k) := fun k => by rw [Nat.pow_mul]; rfl
    rw [hM] at h1 h2
    have h3 := Nat.log2_self_le h0
    have h4 : n < 2 ^ (Nat.log2 n + 1) := Nat.lt_log2_self
    have hl : 0 < l.length := List.length_pos_iff.2 hne
    have h5 : Nat.log2 n < 64 * l.length := (Nat.pow_lt_pow_iff_right (by omega : 1 < 2)).1 (Nat.lt_of_le_of_lt h3 h2)
    have h6 : 64 * (l.length - 1) < Nat.log2 n + 1 := (Nat.pow_lt_pow_iff_right (by omega : 1 < 2)).1 (Nat.lt_of_le_of_lt h1 h4)
    omega
theorem nat_slice {w : World} {v : Value} {n : Nat} (h : NatIn w v n) : ∃ a c, v = .slice a (wordsN n) c := by
  obtain ⟨l, ⟨A, c, e, -, -, -⟩, ol, nl, rfl⟩ := h
  exact ⟨A, c, by rw [e, words_of ol nl]⟩
theorem nat_one {w : World} {v : Value} {n : Nat} (h : NatIn w v n) : isOne v = true := by
  obtain ⟨a, c, rfl⟩ := nat_slice h; rfl
theorem nat_stable {n : Nat} {w w' : World} {v : Value} (h : NatIn w v n) (hk : ∀ (b : Nat) (c : Array Value) (t : TypeId) (z : Nat × Nat), w.heap[b]? = some (.cells c t z) → Nat.beq t 95 = true → w'.heap[b]? = some (.cells c t z)) : NatIn w' v n := by
  obtain ⟨l, ⟨A, c, e, h1, h2, h3⟩, ol, nl, hv⟩ := h
  refine ⟨l, ⟨A, c, e, h1, h2, fun hp => ?_⟩, ol, nl, hv⟩
  obtain ⟨b, o, ea, hlt, hc, cs, hcs⟩ := h3 hp
  have hcs' := hk b cs _ _ hcs (Nat.beq_refl _)
  refine ⟨b, o, ea, (Array.getElem?_eq_some_iff.1 hcs').1, fun i hi => ?_, cs, hcs'⟩
  rw [← hc i hi]
  exact World.cell?_of_block (hcs'.trans hcs.symm)
theorem tab_at : ∃ g, g < Tryz.prog.globals.size ∧ Tryz.prog.globalNamed "internal/strconv.uint64pow10" = some g := by
  have h : (match Tryz.prog.globalNamed "internal/strconv.uint64pow10" with | some g => Nat.ble (g + 1) Tryz.prog.globals.size | none => false) = true := by kernel_rfl
  cases e : Tryz.prog.globalNamed "internal/strconv.uint64pow10" with
  | none => rw [e] at h; cases h
  | some g => rw [e] at h; exact ⟨g, Nat.le_of_ble_eq_true h, rfl⟩
noncomputable def natGlob : Nat → Option (List Value) := fun b =>
  (fun _ => none) b
noncomputable def natSig : Sig Nat where
  holds n w v := NatIn w v n
  hid _ t := Nat.beq t 95
  hn _ t := Nat.beq t 95
  lo := 0
  new := fun _ _ _ _ h => h
  G := Tryz.prog.globals.size
  base := TabB
  baseS := by
    intro w w' h hk
    obtain ⟨g, hg, hn⟩ := tab_at
    unfold TabB Tab Lib.TabIs World.var? at *
    rw [hn] at h ⊢
    simp only [Option.bind_some] at h ⊢
    cases hq : w.heap[g]? with
    | none => rw [hq] at h; cases h
    | some o => rw [hk g o hg hq]; rw [hq] at h; exact h
  stable := fun _ _ _ _ h hk => nat_stable h hk
noncomputable def natCfg0 : Cfg Nat where
  hid _ t := Nat.beq t 95
  G := Tryz.prog.globals.size
  tab f := Tryz.prog.funcs[f]?
  len n := some (wordsN n)
  glob := natGlob
  hard _ _ := fail
noncomputable def natCfg : Cfg Nat where
  hid _ t := Nat.beq t 95
  G := Tryz.prog.globals.size
  tab f := Tryz.prog.funcs[f]?
  len n := some (wordsN n)
  glob := natGlob
  hard := memHard Tryz.prog natCfg0
instance natHard : HardLoc natCfg := ⟨fun o vs => loc_memHard Tryz.prog natCfg0 o vs⟩
theorem natFits : Fits natSig Tryz.prog natCfg where
  hid := rfl
  G := rfl
  len := fun f n w v h e => by
    have e' : wordsN f = n := Option.some.inj e
    obtain ⟨a, c, rfl⟩ := nat_slice h
    exact ⟨a, c, by rw [e']⟩
  glob := fun b cs h => by
    exact absurd (show (none : Option (List Value)) = some cs from h) (by simp)
  tab := fun f fn h => by
    refine ⟨h, ?_⟩
    have hall : (Tryz.prog.funcs.all fun fn => !(fn.name == "runtime.NumGoroutine")) = true := by kernel_rfl
    have h1 := Array.all_eq_true_iff_forall_mem.1 hall fn (Array.mem_of_getElem? h)
    simpa using h1
  mixed := by kernel_rfl
  hard := memHard_ok (C0 := natCfg0) rfl rfl rfl
section
variable {F : Type} {S : Sig F}
theorem ext_below {r : Ren} {g : Nat → Option (Blk F)} {w w' : World} (hM : Mod S r g w) (hb : Below w.heap.size w w') (nx : Nat) : Ext S r w nx nx [] g r w' := by
  have hk : ∀ (b : Nat) (o : Obj), w.heap[b]? = some o → w'.heap[b]? = some o := fun b o hbo => (hb.block b (Array.getElem?_eq_some_iff.1 hbo).1).trans hbo
  refine ⟨.refl r, ⟨hM.inj, fun n b hn => Nat.lt_of_lt_of_le (hM.lt n b hn) hb.size, fun n c t hn => ?_, fun n f hn => ?_, S.baseS w w' hM.base fun b o _ => hk b o, hM.glob, hM.own, fun n c t hn => ?_, Nat.le_trans hM.sz hb.size, hM.lp.mono (.refl r) (fun _ _ q => q) (fun b L => hk b _), hM.ow.all (.refl r) (fun _ _ q => q) hk, hM.ad⟩, fun _ h => .inl h, fun _ _ h => .inl h, fun b o hbo _ => hk b o hbo, hb.size, hb.os, hb.tape, hb.output, .of hk⟩
  · obtain ⟨b, c', h1, h2, h3, h4⟩ := hM.cells n c t hn
    exact ⟨b, c', h1, hk b _ h2, h3, h4⟩
  · obtain ⟨v, h1, h2, h3⟩ := hM.fact n f hn
    exact ⟨v, h1, S.stable f w w' v h2 fun b c t z hbo _ => hk b _ hbo, h3⟩
  · obtain ⟨b, c', h1, h2, h3, h4, h5⟩ := hM.room n c t hn
    exact ⟨b, c', h1, hk b _ h2, h3, h4, h5⟩
theorem ext_fact {r : Ren} {g : Nat → Option (Blk F)} {w w' : World} {nx : Nat} {f : F} {v' : Value} (hM : Mod S r g w) (hb : Below w.heap.size w w') (hN : New r nx (nx + 1)) (hh : S.holds f w' v') (ho : isOne v' = true) :
    ∃ r', Ext S r w nx (nx + 1) [] (fun n => if n = nx then some (.fact f) else g n) r' w' ∧ r'.val nx = some v' := by
  have hno := hN nx (Nat.le_refl _) (Nat.lt_succ_self _)
  have hX := ext_below hM hb nx
  have hle : r.le ⟨r.blk, fun n => if n = nx then some v' else r.val n, r.len⟩ := by
    refine ⟨fun _ _ e => e, fun n v e => ?_, fun _ _ _ => rfl⟩
    have : n ≠ nx := fun h => by rw [h, hno.2] at e; cases e
    simp only [if_neg this, e]
  refine ⟨⟨r.blk, fun n => if n = nx then some v' else r.val n, r.len⟩, ⟨hle, ⟨fun n m b h1 h2 => (hM.inj n m b h1 h2).imp id (Or.imp (Gone.over_fact nx f) (Gone.over_fact nx f)), hX.mod.lt, fun n c t hn => ?_, fun n f' hn => ?_, hX.mod.base, hM.glob, hM.own, fun n c t hn => ?_, hX.mod.sz, hX.mod.lp.mono hle (fun n s hn => by
    by_cases h : n = nx
    · simp only [if_pos h, Option.some.injEq] at hn; cases hn
    · simpa only [if_neg h] using hn) (fun _ _ q => q), hX.mod.ow.all hle (fun n s hn => by
    by_cases h : n = nx
    · simp only [if_pos h, Option.some.injEq] at hn; cases hn
    · simpa only [if_neg h] using hn) (fun _ _ q => q), hX.mod.ad.mono hle fun n k x hn => by
    by_cases h : n = nx
    · simp only [if_pos h, Option.some.injEq] at hn; cases hn
    · simpa only [if_neg h] using hn⟩, fun n hn => ?_, fun _ _ h => .inl h, hX.keep, hX.size, hX.os, hX.tape, hX.output, hX.loops⟩, by simp⟩
  · by_cases h : n = nx
    · simp only [if_pos h, Option.some.injEq] at hn; cases hn
    · simp only [if_neg h] at hn
      obtain ⟨b, c', h1, h2, h3, h4⟩ := hX.mod.cells n c t hn
      exact ⟨b, c', h1, h2, h3.mono hle, h4⟩
  · by_cases h : n = nx
    · simp only [if_pos h, Option.some.injEq, Blk.fact.injEq] at hn
      subst hn
      exact ⟨v', by simp [h], hh, ho⟩
    · simp only [if_neg h] at hn
      obtain ⟨v, h1, h2, h3⟩ := hX.mod.fact n f' hn
      exact ⟨v, by simp only [if_neg h, h1], h2, h3⟩
  · by_cases h : n = nx
    · simp only [if_pos h, Option.some.injEq] at hn; cases hn
    · simp only [if_neg h] at hn
      obtain ⟨b, c', h1, h2, h3, h4, h5⟩ := hX.mod.room n c t hn
      exact ⟨b, c', h1, h2, h3.mono hle, h4, h5⟩
  · by_cases h : n = nx
    · exact .inr ⟨by omega, by omega⟩
    · simp only [if_neg h] at hn; exact .inl hn
end
noncomputable def isNilV : Value → Bool
  | .slice a n c => match a with
    | none => Nat.beq n 0 && Nat.beq c 0
    | some _ => false
  | _ => false
noncomputable def natV (v : Value) : M Nat Nat := cond (isNilV v) (ret 0) (fact v)
theorem loc_natV (v : Value) : Loc (natV v) := loc_cond (loc_ret _) (loc_fact v)
theorem fact_ok {F : Type} {S : Sig F} {v v' : Value} {f : F} {h h' : Tr (Blk F)} {nx nx' : Nat} {R W : List Nat} {r : Ren} {w : World} (e : (fact v : M F F) h nx = .ok f h' nx' R W) (hv : VR r v v') (hM : Mod S r h.get w) : h' = h ∧ nx' = nx ∧ W = [] ∧ S.holds f w v' := by
  unfold fact at e
  cases v with
  | chan i =>
    cases i with
    | none => simp [fail] at e
    | some i =>
      simp only at e
      obtain ⟨bl, h3, nx3, R3, W3, R4, W4, e3, e4, rfl, rfl⟩ := bind_ok e
      unfold rd at e3
      cases hg : h.get i with
      | none => rw [hg] at e3; cases e3
      | some bl2 =>
        rw [hg] at e3
        cases e3
        cases bl with
        | cells _ _ => simp [fail] at e4
        | room _ _ => simp [fail] at e4
        | opq => simp [fail] at e4
        | lp _ => simp [fail] at e4
        | ow _ => simp [fail] at e4
        | ad _ _ => simp [fail] at e4
        | fact f2 =>
          simp only at e4
          obtain ⟨rfl, rfl, rfl, rfl⟩ := ret_ok e4
          obtain ⟨v0, hv0, hh, ho⟩ := hM.fact _ _ hg
          refine ⟨rfl, rfl, by simp, ?_⟩
          cases hv with
          | same p => simp [plain] at p
          | opq hp _ => rw [hv0] at hp; injection hp with hp; subst hp; exact hh
  | _ => simp [fail] at e
theorem natV_ok {v v' : Value} {n : Nat} {h h' : Tr (Blk Nat)} {nx nx' : Nat} {R W : List Nat} {r : Ren} {w : World} (e : natV v h nx = .ok n h' nx' R W) (hv : VR r v v') (hM : Mod natSig r h.get w) : h' = h ∧ nx' = nx ∧ W = [] ∧ NatIn w v' n := by
  unfold natV at e
  cases hi : isNilV v with
  | true =>
    rw [hi] at e
    obtain ⟨rfl, rfl, rfl, rfl⟩ := ret_ok e
    refine ⟨rfl, rfl, rfl, ?_⟩
    cases v with
    | slice a m c =>
      cases a with
      | some _ => simp [isNilV] at hi
      | none =>
        simp only [isNilV, Bool.and_eq_true] at hi
        have h1 := Nat.eq_of_beq_eq_true hi.1
        have h2 := Nat.eq_of_beq_eq_true hi.2
        subst h1; subst h2
        rw [hv.nilslc]
        exact NatIn.nil_ w
    | _ => simp [isNilV] at hi
  | false =>
    rw [hi] at e
    exact fact_ok e hv hM
def SumF {F : Type} (S : Sig F) (P : Program) (f : FuncId) (g : List Value → Option (M F Value)) : Prop := ∀ args m, g args = some m → Loc m ∧ ∀ h nx v h' nx' R W, m h nx = .ok v h' nx' R W →
  ∀ (r : Ren) (w : World) (args' : List Value), VsR r args args' → Mod S r h.get w → New r nx nx' → Calls P f ⟨args'⟩ w fun e w' => ∃ v' r', e = .returned v' ∧ VR r' v v' ∧ Ext S r w nx nx' W h'.get r' w'
noncomputable def mkTab {G : Type} : List (Nat × G) → Tr G
  | [] => .nil
  | x :: l => (mkTab l).set x.1 x.2
theorem mkTab_get {G : Type} {f : Nat} {g : G} : ∀ {l : List (Nat × G)}, (mkTab l).get f = some g → (f, g) ∈ l
  | [], h => by simp [mkTab, Tr.get_nil] at h
  | x :: l, h => by
    rw [mkTab, Tr.get_set] at h
    by_cases e : f = x.1
    · rw [if_pos e] at h
      injection h with h
      obtain ⟨a, b⟩ := x
      simp only at e h
      subst e; subst h
      exact List.mem_cons_self
    · rw [if_neg e] at h
      exact List.mem_cons_of_mem _ (mkTab_get h)
noncomputable def sumsOf {F : Type} (t : Tr (List Value → Option (M F Value))) : Sums F := fun f args => match t.get f with
  | some g => g args
  | none => none
theorem sumsOf_ok {F : Type} {S : Sig F} {P : Program} {l : List (Nat × (List Value → Option (M F Value)))} (h : ∀ x ∈ l, SumF S P x.1 x.2) : SumOK S P (sumsOf (mkTab l)) := by
  have key : ∀ f args m, sumsOf (mkTab l) f args = some m → ∃ g, SumF S P f g ∧ g args = some m := by
    intro f args m e
    unfold sumsOf at e
    cases hg : (mkTab l).get f with
    | none => rw [hg] at e; cases e
    | some g => rw [hg] at e; exact ⟨g, h _ (mkTab_get hg), e⟩
  refine ⟨fun f args m e => ?_, fun f args m e h nx v h' nx' R W hr r w args' ha hM hN => ?_⟩
  · obtain ⟨g, hs, hg⟩ := key f args m e
    exact (hs args m hg).1
  · obtain ⟨g, hs, hg⟩ := key f args m e
    exact (hs args m hg).2 _ _ _ _ _ _ _ hr.ok r w args' ha hM hN
end Ev
end Go.Proofs.YtfmebfkdpfbjbaaGreatDoor
namespace Go.Proofs.YtfmebfkdpfbjbaaGreatDoor
open Go.RowKit
def Sum1 (w : World) (S : Int) (e : Ending) (w' : World) : Prop := ∃ v', e = .returned (.tuple #[.bool (decide (S < 0)), v']) ∧ NatIn w' v' S.natAbs ∧ Below w.heap.size w w'
def Sum2 (b w : World) (S : Int) (e : Ending) (w' : World) : Prop := ∃ v', e = .returned (.tuple #[.bool (decide (S < 0)), v']) ∧ NatIn w' v' S.natAbs ∧ Below b.heap.size b w' ∧ Below w.heap.size w w'
theorem liftS {P : Program} {f : FuncId} {args : Array Value} {b W : World} {S : Int} (h : Below b.heap.size b W) (c : Calls P f args W (Sum1 W S)) : Calls P f args W (Sum2 b W S) :=
  c.mono fun _ _ ⟨v, h1, h2, h3⟩ => ⟨v, h1, h2, h.trans (h3.mono h.size), h3⟩
set_option maxRecDepth 100000 in
set_option maxHeartbeats 2000000 in
theorem exsum_any (w : World) (b c : Bool) (v u : Value) (n m k j : Nat) (h : NatIn w v n) (i : NatIn w u m) (hn : Sz k n) (hm : Sz j m) (hk : k ≤ 100000000) (hj : j ≤ 100000000) (hb : b = true → 1 ≤ n) (hc : c = true → 1 ≤ m) :
    Calls Tryz.prog 111 #[.bool b, v, .bool c, u] w (Sum1 w (Big.sI b n + Big.sI c m)) := by
  have CA := Lib.hid (add_num w v u n m k j h i hn hm hk hj)
  have C1 := Lib.hid (fun W (hW : Drew w W) => sub_num W v u n m k (h.drew hW) (i.drew hW) hn hk)
  have C2 := Lib.hid (fun W (hW : Drew w W) => sub_num W u v m n j (i.drew hW) (h.drew hW) hm hj)
  have CC := Lib.hid (cmp_num w v u n m h i)
  obtain ⟨A, l, c1, rfl, -⟩ := h.is_slice
  obtain ⟨A2, l2, c2, rfl, -⟩ := i.is_slice
  clear h i hn hm hk hj
  cases b
  · cases c
    · clear CC C1 C2 hb hc
      go_enter Tryz.func111, Tryz.ntmps111
      go_wp2_with fail
      refine CA.out.mono ?_
      rintro e w' ⟨v', rfl, hv, hb⟩
      have HV := Lib.hid hv; have HB := Lib.hid hb
      clear hv hb
      go_wp2_with fail
      go_ret2
      refine ⟨v', ?_, ?_, HB.out⟩
      · rw [Big.sI_false, Big.sI_false, decide_eq_false (by omega)]; rfl
      · rw [Big.sI_false, Big.sI_false]
        have e : ((n : Int) + (m : Int)).natAbs = n + m := by omega
        rw [e]; exact HV.out
    · rcases Nat.lt_trichotomy n m with hlt | heq | hgt
      · rw [Big.cmpI_lt hlt] at CC
        have HBC := Lib.hid (And.intro hb (And.intro hc hlt))
        clear hb hc hlt
        go_enter Tryz.func111, Tryz.ntmps111
        go_wp2_with fail
        refine CC.out.mono ?_
        rintro e w1 ⟨rfl, hd⟩
        have HD := Lib.hid hd
        clear hd
        go_wp2_with fail
        refine (C2.out _ HD.out).mono ?_
        rintro e w' ⟨v', rfl, hv, hb⟩
        have HV := Lib.hid hv; have HB := Lib.hid ((HD.out.below _).trans (hb.mono (by rw [HD.out.heap]; exact Nat.le_refl _)))
        clear hv hb
        go_wp2_with fail
        go_ret2
        have HL := HBC.out.2.2
        refine ⟨v', ?_, ?_, HB.out⟩
        · rw [Big.sI_false, Big.sI_true, decide_eq_true (by omega)]; rfl
        · rw [Big.sI_false, Big.sI_true]
          have e : ((n : Int) + -(m : Int)).natAbs = m - n := by omega
          rw [e]; exact HV.out
      · subst heq; rw [Big.cmpI_eq] at CC
        have HBC := Lib.hid (And.intro hb (And.intro hc True.intro))
        clear hb hc
        go_enter Tryz.func111, Tryz.ntmps111
        go_wp2_with fail
        refine CC.out.mono ?_
        rintro e w1 ⟨rfl, hd⟩
        have HD := Lib.hid hd
        clear hd
        go_wp2_with fail
        go_ret2
        refine ⟨.slice none 0 0, ?_, ?_, HD.out.below _⟩
        · rw [Big.sI_false, Big.sI_true, decide_eq_false (by omega)]; rfl
        · rw [Big.sI_false, Big.sI_true]
          have e : ((n : Int) + -(n : Int)).natAbs = 0 := by omega
          rw [e]; exact NatIn.nil_ _
      · rw [Big.cmpI_gt hgt] at CC
        have HBC := Lib.hid (And.intro hb (And.intro hc hgt))
        clear hb hc hgt
        go_enter Tryz.func111, Tryz.ntmps111
        go_wp2_with fail
        refine CC.out.mono ?_
        rintro e w1 ⟨rfl, hd⟩
        have HD := Lib.hid hd
        clear hd
        go_wp2_with fail
        refine (C1.out _ HD.out).mono ?_
        rintro e w' ⟨v', rfl, hv, hb⟩
        have HV := Lib.hid hv; have HB := Lib.hid ((HD.out.below _).trans (hb.mono (by rw [HD.out.heap]; exact Nat.le_refl _)))
        clear hv hb
        go_wp2_with fail
        go_ret2
        have HL := HBC.out.2.2
        refine ⟨v', ?_, ?_, HB.out⟩
        · rw [Big.sI_false, Big.sI_true, decide_eq_false (by omega)]; rfl
        · rw [Big.sI_false, Big.sI_true]
          have e : ((n : Int) + -(m : Int)).natAbs = n - m := by omega
          rw [e]; exact HV.out
  · cases c
    · rcases Nat.lt_trichotomy n m with hlt | heq | hgt
      · rw [Big.cmpI_lt hlt] at CC
        have HBC := Lib.hid (And.intro hb (And.intro hc hlt))
        clear hb hc hlt
        go_enter Tryz.func111, Tryz.ntmps111
        go_wp2_with fail
        refine CC.out.mono ?_
        rintro e w1 ⟨rfl, hd⟩
        have HD := Lib.hid hd
        clear hd
        go_wp2_with fail
        refine (C2.out _ HD.out).mono ?_
        rintro e w' ⟨v', rfl, hv, hb⟩
        have HV := Lib.hid hv; have HB := Lib.hid ((HD.out.below _).trans (hb.mono (by rw [HD.out.heap]; exact Nat.le_refl _)))
        clear hv hb
        go_wp2_with fail
        go_ret2
        have HL := HBC.out.2.2
        refine ⟨v', ?_, ?_, HB.out⟩
        · rw [Big.sI_true, Big.sI_false, decide_eq_false (by omega)]; rfl
        · rw [Big.sI_true, Big.sI_false]
          have e : (-(n : Int) + (m : Int)).natAbs = m - n := by omega
          rw [e]; exact HV.out
      · subst heq; rw [Big.cmpI_eq] at CC
        have HBC := Lib.hid (And.intro hb (And.intro hc True.intro))
        clear hb hc
        go_enter Tryz.func111, Tryz.ntmps111
        go_wp2_with fail
        refine CC.out.mono ?_
        rintro e w1 ⟨rfl, hd⟩
        have HD := Lib.hid hd
        clear hd
        go_wp2_with fail
        go_ret2
        refine ⟨.slice none 0 0, ?_, ?_, HD.out.below _⟩
        · rw [Big.sI_true, Big.sI_false, decide_eq_false (by omega)]; rfl
        · rw [Big.sI_true, Big.sI_false]
          have e : (-(n : Int) + (n : Int)).natAbs = 0 := by omega
          rw [e]; exact NatIn.nil_ _
      · rw [Big.cmpI_gt hgt] at CC
        have HBC := Lib.hid (And.intro hb (And.intro hc hgt))
        clear hb hc hgt
        go_enter Tryz.func111, Tryz.ntmps111
        go_wp2_with fail
        refine CC.out.mono ?_
        rintro e w1 ⟨rfl, hd⟩
        have HD := Lib.hid hd
        clear hd
        go_wp2_with fail
        refine (C1.out _ HD.out).mono ?_
        rintro e w' ⟨v', rfl, hv, hb⟩
        have HV := Lib.hid hv; have HB := Lib.hid ((HD.out.below _).trans (hb.mono (by rw [HD.out.heap]; exact Nat.le_refl _)))
        clear hv hb
        go_wp2_with fail
        go_ret2
        have HL := HBC.out.2.2
        refine ⟨v', ?_, ?_, HB.out⟩
        · rw [Big.sI_true, Big.sI_false, decide_eq_true (by omega)]; rfl
        · rw [Big.sI_true, Big.sI_false]
          have e : (-(n : Int) + (m : Int)).natAbs = n - m := by omega
          rw [e]; exact HV.out
    · have h1 := hb rfl
      clear CC C1 C2 hb hc
      go_enter Tryz.func111, Tryz.ntmps111
      go_wp2_with fail
      refine CA.out.mono ?_
      rintro e w' ⟨v', rfl, hv, hb⟩
      have HV := Lib.hid hv; have HB := Lib.hid hb
      clear hv hb
      go_wp2_with fail
      go_ret2
      refine ⟨v', ?_, ?_, HB.out⟩
      · rw [Big.sI_true, Big.sI_true, decide_eq_true (by omega)]; rfl
      · rw [Big.sI_true, Big.sI_true]
        have e : (-(n : Int) + -(m : Int)).natAbs = n + m := by omega
        rw [e]; exact HV.out
end Go.Proofs.YtfmebfkdpfbjbaaGreatDoor
namespace Go.Proofs.YtfmebfkdpfbjbaaGreatDoor
open Go.RowKit
theorem lift2 {P : Program} {f : FuncId} {args : Array Value} {b W : World} {r : Nat} (h : Below b.heap.size b W) (c : Calls P f args W (Nat1 W r)) : Calls P f args W (Nat2 b W r) :=
  c.mono fun _ _ ⟨v, h1, h2, h3⟩ => ⟨v, h1, h2, h.trans (h3.mono h.size), h3⟩
set_option maxRecDepth 100000 in
set_option maxHeartbeats 4000000 in
theorem exAdd_any (w : World) (vx vy : Value) (q r : Rat) (k : Nat) (hx : NumIn w vx q) (hy : NumIn w vy r) (sx : Sm k q) (sy : Sm k r) (hk : k ≤ 10000000) :
    Calls Tryz.prog 55 #[vx, vy] w (Num1 w (q + r)) := by
  obtain ⟨A, l, c, A2, l2, c2, rfl, hx1, hx2⟩ := hx.is_agg
  obtain ⟨B, m, d, B2, m2, d2, rfl, hy1, hy2⟩ := hy.is_agg
  have HX := Lib.hid (And.intro hx1 hx2); have HY := Lib.hid (And.intro hy1 hy2)
  have SX := Lib.hid sx; have SY := Lib.hid sy
  have PP := Lib.hid (Big.add_parts q r _ _ _ _ rfl rfl rfl rfl)
  have GX := Lib.hid (And.intro (@Big.ng_pos q) (And.intro (@Big.ng_pos r) (And.intro (Big.de_pos q) (Big.de_pos r))))
  clear hx hy hx1 hx2 hy1 hy2 sx sy
  generalize Big.ng q = nq at *
  generalize Big.ng r = nr at *
  go_enter Tryz.func55, Tryz.ntmps55
  go_wp2_with fail
  obtain ⟨X0, Y0, R0, B0⟩ := boxed3 w 71 71 (.bool nq) (.slice A l c) (.slice A2 l2 c2) (.bool nr) (.slice B m d) (.slice B2 m2 d2) (.bool false) (.slice none 0 0) (.slice none 0 0)
  have HX0 := Lib.hid X0; have HY0 := Lib.hid Y0; have HR0 := Lib.hid R0; have HB0 := Lib.hid B0
  clear X0 Y0 R0 B0
  generalize ((w.alloc (.cells #[.bool nq, .slice A l c, .slice A2 l2 c2] 71)).alloc (.cells #[.bool nr, .slice B m d, .slice B2 m2 d2] 71)).alloc (.cells #[.bool false, .slice none 0 0, .slice none 0 0] 71) = w0 at *
  have G0 := Lib.hid (gcd_num w0 _ _ _ _ k k (HX.out.2.keep HB0.out) (HY.out.2.keep HB0.out) SX.out.de SY.out.de (by omega) (by omega))
  obtain ⟨s, hs⟩ : ∃ s, Nat.gcd (Big.de q) (Big.de r) = s := ⟨_, rfl⟩
  rw [hs] at PP G0
  have hs1 : 1 ≤ s := by rw [← hs]; exact Big.gcd_pos_right GX.out.2.2.2
  have hsq : s ∣ Big.de q := by rw [← hs]; exact Nat.gcd_dvd_left _ _
  have hsr : s ∣ Big.de r := by rw [← hs]; exact Nat.gcd_dvd_right _ _
  have hR1 : 1 ≤ Big.de r / s := Nat.div_pos (Nat.le_of_dvd GX.out.2.2.2 hsr) hs1
  have hL1 : 1 ≤ Big.de q / s := Nat.div_pos (Nat.le_of_dvd GX.out.2.2.1 hsq) hs1
  have SS := Lib.hid (SX.out.de.le (Nat.le_of_dvd GX.out.2.2.1 hsq))
  have SL := Lib.hid (SX.out.de.le (Nat.div_le_self (Big.de q) s)); have SR := Lib.hid (SY.out.de.le (Nat.div_le_self (Big.de r) s))
  have CL := Lib.hid (fun W v (h : NatIn W (.slice A2 l2 c2) (Big.de q)) (i : NatIn W v s) => quo_num W _ _ _ _ k h i SX.out.de (by omega))
  have CR := Lib.hid (fun W v (h : NatIn W (.slice B2 m2 d2) (Big.de r)) (i : NatIn W v s) => quo_num W _ _ _ _ k h i SY.out.de (by omega))
  obtain ⟨L, hL⟩ : ∃ L, Big.de q / s = L := ⟨_, rfl⟩
  obtain ⟨R, hR⟩ : ∃ R, Big.de r / s = R := ⟨_, rfl⟩
  rw [hL] at PP CL SL hL1; rw [hR] at PP CR SR hR1
  clear hs hs1 hsq hsr hL hR
  refine G0.out.mono ?_
  rintro e w1 ⟨v1, rfl, hv1, hb1⟩
  have HV1 := Lib.hid hv1; have HB1 := Lib.hid (HB0.out.trans (hb1.mono HB0.out.size))
  have HX1 := Lib.hid (HX0.out.keep hb1); have HY1 := Lib.hid (HY0.out.keep hb1); have HR1 := Lib.hid (HR0.out.keep hb1)
  clear hv1 hb1 HX0 HY0 HR0 HB0
  have KX := Lib.hid (fun W (h : Below w1.heap.size w1 W) => And.intro (HX1.out.keep h).c2 (HY1.out.keep h).c2)
  have CQ1 := Lib.hid (fun W (h : Below w1.heap.size w1 W) => lift2 h (CL.out W v1 ((HX.out.2.keep HB1.out).keep h) (HV1.out.keep h)))
  have CQ2 := Lib.hid (fun W (h : Below w1.heap.size w1 W) => lift2 h (CR.out W v1 ((HY.out.2.keep HB1.out).keep h) (HV1.out.keep h)))
  go_wp2_with fail
  go_region_held3 (fun w' => w'.cell? ⟨w.heap.size, 2, none⟩ = some (.slice A2 l2 c2) ∧ w'.cell? ⟨w.heap.size + 1, 2, none⟩ = some (.slice B2 m2 d2))
    (exact KX.out _ (by first | assumption | exact Below.refl _ _ | exact below_drew (Below.refl _ _) | exact below_drew (by assumption)))
    (first
      | (go_at_call 110; (with_reducible refine (CQ1.out _ (by first | assumption | exact Below.refl _ _ | exact below_drew (Below.refl _ _) | exact below_drew (by assumption))).mono ?_); rintro e w2 ⟨v2, rfl, hv2, hw2, hw2'⟩)
      | (go_at_call 110; (with_reducible refine (CQ2.out _ (by first | assumption | exact Below.refl _ _ | exact below_drew (Below.refl _ _) | exact below_drew (by assumption))).mono ?_); rintro e w3 ⟨v3, rfl, hv3, hw3, hw3'⟩)
      | fail)
  have HB3 := Lib.hid (HB1.out.trans (hw3.mono HB1.out.size))
  have HX3 := Lib.hid (HX1.out.keep hw3); have HY3 := Lib.hid (HY1.out.keep hw3); have HR3 := Lib.hid (HR1.out.keep hw3)
  have HV := Lib.hid (And.intro (HV1.out.keep hw3) (And.intro (hv2.keep hw3') hv3))
  clear hv2 hw2 hw2' hv3 hw3 hw3' HX1 HY1 HR1 HB1 HV1 KX CQ1 CQ2 CL
  have KX := Lib.hid (fun W (h : Below w3.heap.size w3 W) => And.intro (HX3.out.keep h).c0 (And.intro (HX3.out.keep h).c1 (And.intro (HY3.out.keep h).c0 (HY3.out.keep h).c1)))
  have CM1 := Lib.hid (fun W (h : Below w3.heap.size w3 W) => lift2 h (mul_num W _ _ _ _ k k ((HX.out.1.keep HB3.out).keep h) (HV.out.2.2.keep h) SX.out.nu SR.out (by omega) (by omega)))
  have CM2 := Lib.hid (fun W (h : Below w3.heap.size w3 W) => lift2 h (mul_num W _ _ _ _ k k ((HY.out.1.keep HB3.out).keep h) (HV.out.2.1.keep h) SY.out.nu SL.out (by omega) (by omega)))
  have CS := Lib.hid (fun W a b (ha : NatIn W a (Big.nu q * R)) (hb : NatIn W b (Big.nu r * L)) (h : Below w3.heap.size w3 W) => liftS h (exsum_any W nq nr a b _ _ _ _ ha hb (SX.out.nu.mul SR.out) (SY.out.nu.mul SL.out) (by omega) (by omega) (fun e => Nat.mul_pos (GX.out.1 e) hR1) (fun e => Nat.mul_pos (GX.out.2.1 e) hL1)))
  have SSm := Lib.hid (((SX.out.nu.mul SR.out).add (SY.out.nu.mul SL.out)).le (abs_sum_le nq nr _ _))
  generalize Big.sI nq (Big.nu q * R) + Big.sI nr (Big.nu r * L) = S at *
  go_wp2_with fail
  go_region_held3 (fun w' => w'.cell? ⟨w.heap.size, 0, none⟩ = some (.bool nq) ∧ w'.cell? ⟨w.heap.size, 1, none⟩ = some (.slice A l c) ∧ w'.cell? ⟨w.heap.size + 1, 0, none⟩ = some (.bool nr) ∧ w'.cell? ⟨w.heap.size + 1, 1, none⟩ = some (.slice B m d))
    (exact KX.out _ (by first | assumption | exact Below.refl _ _ | exact below_drew (Below.refl _ _) | exact below_drew (by assumption)))
    (first
      | (go_at_call 102; (with_reducible refine (CM1.out _ (by first | assumption | exact Below.refl _ _ | exact below_drew (Below.refl _ _) | exact below_drew (by assumption))).mono ?_); rintro e w4 ⟨v4, rfl, hv4, hw4, hw4'⟩)
      | (go_at_call 102; (with_reducible refine (CM2.out _ (by first | assumption | exact Below.refl _ _ | exact below_drew (Below.refl _ _) | exact below_drew (by assumption))).mono ?_); rintro e w5 ⟨v5, rfl, hv5, hw5, hw5'⟩)
      | (go_at_call 111; (with_reducible refine (CS.out _ _ _ (by first | exact hv4.keep hw5' | exact NatIn.dr (hv4.keep hw5')) (by first | exact hv5 | exact NatIn.dr (hv5)) (by first | assumption | exact Below.refl _ _ | exact below_drew (Below.refl _ _) | exact below_drew (by assumption))).mono ?_); rintro e w6 ⟨v6, rfl, hv6, hw6, hw6'⟩)
      | fail)
  have HB6 := Lib.hid (HB3.out.trans (hw6.mono HB3.out.size))
  have HY6 := Lib.hid (HY3.out.keep hw6); have HR6 := Lib.hid (HR3.out.keep hw6)
  have HV6 := Lib.hid (And.intro (HV.out.1.keep hw6) (And.intro (HV.out.2.1.keep hw6) hv6))
  clear hv4 hw4 hw4' hv5 hw5 hw5' hv6 hw6 hw6' HX3 HY3 HR3 HB3 HV KX CM1 CM2 CS
  clear HX CR hL1 hR1
  have G6 := Lib.hid (gcd_num w6 _ _ _ _ _ k HV6.out.2.2 HV6.out.1 SSm.out SS.out (by omega) (by omega))
  obtain ⟨cm, hc⟩ : ∃ z, Nat.gcd S.natAbs s = z := ⟨_, rfl⟩
  rw [hc] at PP G6
  clear hc
  go_wp2_with fail
  refine G6.out.mono ?_
  rintro e w7 ⟨v7, rfl, hv7, hw7⟩
  have HB7 := Lib.hid (HB6.out.trans (hw7.mono HB6.out.size))
  have HY7 := Lib.hid (HY6.out.keep hw7); have HR7 := Lib.hid (HR6.out.keep hw7)
  have HV7 := Lib.hid (And.intro (HV6.out.2.1.keep hw7) (And.intro (HV6.out.2.2.keep hw7) hv7))
  clear hv7 hw7 HB6 HY6 HR6 HV6 G6
  have KX := Lib.hid (fun W (h : Below w7.heap.size w7 W) => (HY7.out.keep h).c2)
  have CQ1 := Lib.hid (fun W (h : Below w7.heap.size w7 W) => lift2 h (quo_num W _ _ _ _ _ (HV7.out.2.1.keep h) (HV7.out.2.2.keep h) SSm.out (by omega)))
  have CQ2 := Lib.hid (fun W (h : Below w7.heap.size w7 W) => lift2 h (quo_num W _ _ _ _ k ((HY.out.2.keep HB7.out).keep h) (HV7.out.2.2.keep h) SY.out.de (by omega)))
  have CM := Lib.hid (fun W a (ha : NatIn W a (Big.de r / cm)) (h : Below w7.heap.size w7 W) => lift2 h (mul_num W _ _ _ _ k k (HV7.out.1.keep h) ha SL.out (SY.out.de.le (Nat.div_le_self _ _)) (by omega) (by omega)))
  have KP := Lib.hid (fun W x y z (h : Below w7.heap.size w7 W) => put_cell (KX.out W h) (show w.heap.size + 1 ≠ w.heap.size + 1 + 1 by omega) x y z)
  have RES := Lib.hid (fun W (h : Below w7.heap.size w7 W) => HR7.out.keep h)
  go_wp2_with fail
  go_region_held3 (fun w' => w'.cell? ⟨w.heap.size + 1, 2, none⟩ = some (.slice B2 m2 d2))
    (first | exact KX.out _ (by first | assumption | exact Below.refl _ _ | exact below_drew (Below.refl _ _) | exact below_drew (by assumption)) | exact KP.out _ _ _ _ (by assumption))
    (first
      | (go_at_call 110; (with_reducible refine (CQ1.out _ (by first | assumption | exact Below.refl _ _ | exact below_drew (Below.refl _ _) | exact below_drew (by assumption))).mono ?_); rintro e w8 ⟨v8, rfl, hv8, hw8, hw8'⟩)
      | (go_at_call 110; (with_reducible refine (CQ2.out _ (by first | assumption | exact Below.refl _ _ | exact below_drew (Below.refl _ _) | exact below_drew (by assumption))).mono ?_); rintro e w9 ⟨v9, rfl, hv9, hw9, hw9'⟩)
      | (go_at_call 102; (with_reducible refine (CM.out _ _ (by first | exact hv9 | exact NatIn.dr (hv9)) (by first | assumption | exact Below.refl _ _ | exact below_drew (Below.refl _ _) | exact below_drew (by assumption))).mono ?_); rintro e w10 ⟨v10, rfl, hv10, hw10, hw10'⟩; have RR := RES.out _ hw10; have k0 := RR.c0; have k1 := RR.c1; have k2 := RR.c2; have f0 := RR.frozen 0; have f1 := RR.frozen 1; have f2 := RR.frozen 2; obtain ⟨A8, l8, c8, rfl, hl8⟩ := hv8.is_slice; obtain ⟨A10, l10, c10, rfl, hl10⟩ := hv10.is_slice)
      | fail)
  have h8 := (hv8.keep hw9').keep hw10'
  rw [← PP.out.2.1] at h8
  rw [← PP.out.2.2] at hv10
  obtain ⟨D1, D2, D3⟩ := num_done (show NumRes w10 _ _ from RR) (HB7.out.trans (hw10.mono HB7.out.size)) (by omega) h8 hv10 PP.out.1.symm
  have HD1 := Lib.hid D1; have HD2 := Lib.hid D2; have HD3 := Lib.hid D3
  clear D1 D2 D3 k0 k1 k2 f0 f1 f2 RR h8
  generalize (((w10.setCell ⟨w.heap.size + 1 + 1, 0, none⟩ (.bool (decide (S < 0)))).setCell ⟨w.heap.size + 1 + 1, 1, none⟩ (.slice A8 l8 c8)).setCell ⟨w.heap.size + 1 + 1, 2, none⟩ (.slice A10 l10 c10)) = wz at HD1 HD2 HD3 ⊢
  have r0 := HD1.out.c0; have r1 := HD1.out.c1; have r2 := HD1.out.c2
  go_wp2_with fail
  exact bodyPost_ret (v := .agg #[.bool (decide (S < 0)), .slice A8 l8 c8, .slice A10 l10 c10]) (by simp [results, Tryz.results55, go_sem, r0, r1, r2]) rfl ⟨_, rfl, HD2.out, HD3.out⟩
end Go.Proofs.YtfmebfkdpfbjbaaGreatDoor
namespace Go.Proofs.YtfmebfkdpfbjbaaGreatDoor
open Go.RowKit
set_option maxRecDepth 100000 in
set_option maxHeartbeats 4000000 in
theorem exMul_any (w : World) (vx vy : Value) (q r : Rat) (k : Nat) (hx : NumIn w vx q) (hy : NumIn w vy r) (sx : Sm k q) (sy : Sm k r) (hk : k ≤ 10000000) :
    Calls Tryz.prog 91 #[vx, vy] w (Num1 w (q * r)) := by
  obtain ⟨A, l, c, A2, l2, c2, rfl, hx1, hx2⟩ := hx.is_agg
  obtain ⟨B, m, d, B2, m2, d2, rfl, hy1, hy2⟩ := hy.is_agg
  have HX := Lib.hid (And.intro hx1 hx2); have HY := Lib.hid (And.intro hy1 hy2)
  have SX := Lib.hid sx; have SY := Lib.hid sy
  have GX := Lib.hid (And.intro (@Big.ng_pos q) (And.intro (@Big.ng_pos r) (And.intro (Big.de_pos q) (Big.de_pos r))))
  have PP := Lib.hid (Big.mul_parts q r)
  clear hx hy hx1 hx2 hy1 hy2 sx sy
  obtain ⟨g1, hg1⟩ : ∃ z, Nat.gcd (Big.nu q) (Big.de r) = z := ⟨_, rfl⟩
  obtain ⟨g2, hg2⟩ : ∃ z, Nat.gcd (Big.nu r) (Big.de q) = z := ⟨_, rfl⟩
  have HG := Lib.hid (And.intro hg1 hg2)
  rw [hg1, hg2] at PP
  clear hg1 hg2
  generalize Big.ng q = nq at *
  generalize Big.ng r = nr at *
  go_enter Tryz.func91, Tryz.ntmps91
  go_wp2_with fail
  obtain ⟨X0, Y0, R0, B0⟩ := boxed3 w 71 71 (.bool nq) (.slice A l c) (.slice A2 l2 c2) (.bool nr) (.slice B m d) (.slice B2 m2 d2) (.bool false) (.slice none 0 0) (.slice none 0 0)
  have HX0 := Lib.hid X0; have HY0 := Lib.hid Y0; have HR0 := Lib.hid R0; have HB0 := Lib.hid B0
  clear X0 Y0 R0 B0
  generalize ((w.alloc (.cells #[.bool nq, .slice A l c, .slice A2 l2 c2] 71)).alloc (.cells #[.bool nr, .slice B m d, .slice B2 m2 d2] 71)).alloc (.cells #[.bool false, .slice none 0 0, .slice none 0 0] 71) = w0 at *
  have KX := Lib.hid (fun W (h : Below w0.heap.size w0 W) => And.intro (HX0.out.keep h).c1 (And.intro (HX0.out.keep h).c2 (And.intro (HY0.out.keep h).c1 (HY0.out.keep h).c2)))
  have C1 := Lib.hid (fun W (h : Below w0.heap.size w0 W) => lift2 h (HG.out.1 ▸ gcd_num W _ _ _ _ k k ((HX.out.1.keep HB0.out).keep h) ((HY.out.2.keep HB0.out).keep h) SX.out.nu SY.out.de (by omega) (by omega)))
  have C2 := Lib.hid (fun W (h : Below w0.heap.size w0 W) => lift2 h (HG.out.2 ▸ gcd_num W _ _ _ _ k k ((HY.out.1.keep HB0.out).keep h) ((HX.out.2.keep HB0.out).keep h) SY.out.nu SX.out.de (by omega) (by omega)))
  go_wp2_with fail
  go_region_held3 (fun w' => w'.cell? ⟨w.heap.size, 1, none⟩ = some (.slice A l c) ∧ w'.cell? ⟨w.heap.size, 2, none⟩ = some (.slice A2 l2 c2) ∧ w'.cell? ⟨w.heap.size + 1, 1, none⟩ = some (.slice B m d) ∧ w'.cell? ⟨w.heap.size + 1, 2, none⟩ = some (.slice B2 m2 d2))
    (exact KX.out _ (by first | assumption | exact Below.refl _ _ | exact below_drew (Below.refl _ _) | exact below_drew (by assumption)))
    (first
      | (go_at_call 60; (with_reducible refine (C1.out _ (by first | assumption | exact Below.refl _ _ | exact below_drew (Below.refl _ _) | exact below_drew (by assumption))).mono ?_); rintro e w2 ⟨v2, rfl, hv2, hw2, hw2'⟩)
      | (go_at_call 60; (with_reducible refine (C2.out _ (by first | assumption | exact Below.refl _ _ | exact below_drew (Below.refl _ _) | exact below_drew (by assumption))).mono ?_); rintro e w3 ⟨v3, rfl, hv3, hw3, hw3'⟩)
      | fail)
  have HB3 := Lib.hid (HB0.out.trans (hw3.mono HB0.out.size))
  have HX3 := Lib.hid (HX0.out.keep hw3); have HY3 := Lib.hid (HY0.out.keep hw3); have HR3 := Lib.hid (HR0.out.keep hw3)
  have HV := Lib.hid (And.intro (hv2.keep hw3') hv3)
  clear hv2 hw2 hw2' hv3 hw3 hw3' HX0 HY0 HR0 HB0 KX C1 C2
  have KX := Lib.hid (fun W (h : Below w3.heap.size w3 W) => And.intro (HX3.out.keep h).c1 (HY3.out.keep h).c1)
  have C1 := Lib.hid (fun W (h : Below w3.heap.size w3 W) => lift2 h (quo_num W _ _ _ _ k ((HX.out.1.keep HB3.out).keep h) (HV.out.1.keep h) SX.out.nu (by omega)))
  have C2 := Lib.hid (fun W (h : Below w3.heap.size w3 W) => lift2 h (quo_num W _ _ _ _ k ((HY.out.1.keep HB3.out).keep h) (HV.out.2.keep h) SY.out.nu (by omega)))
  have CM := Lib.hid (fun W a b (ha : NatIn W a (Big.nu q / g1)) (hb : NatIn W b (Big.nu r / g2)) (h : Below w3.heap.size w3 W) => lift2 h (mul_num W _ _ _ _ k k ha hb (SX.out.nu.le (Nat.div_le_self _ _)) (SY.out.nu.le (Nat.div_le_self _ _)) (by omega) (by omega)))
  go_wp2_with fail
  go_region_held3 (fun w' => w'.cell? ⟨w.heap.size, 1, none⟩ = some (.slice A l c) ∧ w'.cell? ⟨w.heap.size + 1, 1, none⟩ = some (.slice B m d))
    (exact KX.out _ (by first | assumption | exact Below.refl _ _ | exact below_drew (Below.refl _ _) | exact below_drew (by assumption)))
    (first
      | (go_at_call 110; (with_reducible refine (C1.out _ (by first | assumption | exact Below.refl _ _ | exact below_drew (Below.refl _ _) | exact below_drew (by assumption))).mono ?_); rintro e w4 ⟨v4, rfl, hv4, hw4, hw4'⟩)
      | (go_at_call 110; (with_reducible refine (C2.out _ (by first | assumption | exact Below.refl _ _ | exact below_drew (Below.refl _ _) | exact below_drew (by assumption))).mono ?_); rintro e w5 ⟨v5, rfl, hv5, hw5, hw5'⟩)
      | (go_at_call 102; (with_reducible refine (CM.out _ _ _ (by first | exact hv4.keep hw5' | exact NatIn.dr (hv4.keep hw5')) (by first | exact hv5 | exact NatIn.dr (hv5)) (by first | assumption | exact Below.refl _ _ | exact below_drew (Below.refl _ _) | exact below_drew (by assumption))).mono ?_); rintro e w6 ⟨v6, rfl, hv6, hw6, hw6'⟩)
      | fail)
  have HB6 := Lib.hid (HB3.out.trans (hw6.mono HB3.out.size))
  have HX6 := Lib.hid (HX3.out.keep hw6); have HY6 := Lib.hid (HY3.out.keep hw6); have HR6 := Lib.hid (HR3.out.keep hw6)
  have HV6 := Lib.hid (And.intro (HV.out.1.keep hw6) (And.intro (HV.out.2.keep hw6) hv6))
  clear hv4 hw4 hw4' hv5 hw5 hw5' hv6 hw6 hw6' HX3 HY3 HR3 HB3 HV KX C1 C2 CM
  have KX := Lib.hid (fun W (h : Below w6.heap.size w6 W) => And.intro (HX6.out.keep h).c2 (HY6.out.keep h).c2)
  have C1 := Lib.hid (fun W (h : Below w6.heap.size w6 W) => lift2 h (quo_num W _ _ _ _ k ((HX.out.2.keep HB6.out).keep h) (HV6.out.2.1.keep h) SX.out.de (by omega)))
  have C2 := Lib.hid (fun W (h : Below w6.heap.size w6 W) => lift2 h (quo_num W _ _ _ _ k ((HY.out.2.keep HB6.out).keep h) (HV6.out.1.keep h) SY.out.de (by omega)))
  have CM := Lib.hid (fun W a b (ha : NatIn W a (Big.de q / g2)) (hb : NatIn W b (Big.de r / g1)) (h : Below w6.heap.size w6 W) => lift2 h (mul_num W _ _ _ _ k k ha hb (SX.out.de.le (Nat.div_le_self _ _)) (SY.out.de.le (Nat.div_le_self _ _)) (by omega) (by omega)))
  go_wp2_with fail
  go_region_held3 (fun w' => w'.cell? ⟨w.heap.size, 2, none⟩ = some (.slice A2 l2 c2) ∧ w'.cell? ⟨w.heap.size + 1, 2, none⟩ = some (.slice B2 m2 d2))
    (exact KX.out _ (by first | assumption | exact Below.refl _ _ | exact below_drew (Below.refl _ _) | exact below_drew (by assumption)))
    (first
      | (go_at_call 110; (with_reducible refine (C1.out _ (by first | assumption | exact Below.refl _ _ | exact below_drew (Below.refl _ _) | exact below_drew (by assumption))).mono ?_); rintro e w7 ⟨v7, rfl, hv7, hw7, hw7'⟩)
      | (go_at_call 110; (with_reducible refine (C2.out _ (by first | assumption | exact Below.refl _ _ | exact below_drew (Below.refl _ _) | exact below_drew (by assumption))).mono ?_); rintro e w8 ⟨v8, rfl, hv8, hw8, hw8'⟩)
      | (go_at_call 102; (with_reducible refine (CM.out _ _ _ (by first | exact hv7.keep hw8' | exact NatIn.dr (hv7.keep hw8')) (by first | exact hv8 | exact NatIn.dr (hv8)) (by first | assumption | exact Below.refl _ _ | exact below_drew (Below.refl _ _) | exact below_drew (by assumption))).mono ?_); rintro e w9 ⟨v9, rfl, hv9, hw9, hw9'⟩)
      | fail)
  have HB9 := Lib.hid (HB6.out.trans (hw9.mono HB6.out.size))
  have X9 := HX6.out.keep hw9; have Y9 := HY6.out.keep hw9
  have x0 := X9.c0; have y0 := Y9.c0
  have RR := HR6.out.keep hw9
  have k0 := RR.c0; have k1 := RR.c1; have k2 := RR.c2; have f0 := RR.frozen 0; have f1 := RR.frozen 1; have f2 := RR.frozen 2
  have h6 := HV6.out.2.2.keep hw9
  obtain ⟨A6, l6, c6, rfl, hl6⟩ := h6.is_slice
  obtain ⟨A9, l9, c9, rfl, hl9⟩ := hv9.is_slice
  rw [← PP.out.2.2] at hv9
  rw [← PP.out.2.1] at h6 hl6
  have HH := Lib.hid (And.intro h6 hv9)
  have HNG := Lib.hid (show Big.ng (q * r) = ((nq != nr) && decide (0 < l6)) by
    rw [PP.out.1, ← PP.out.2.1]; congr 1; rw [decide_eq_decide, Nat.pos_iff_ne_zero, Nat.pos_iff_ne_zero, Ne, Ne, hl6])
  have HRR := Lib.hid RR
  clear hv7 hw7 hw7' hv8 hw8 hw8' hv9 hw9 hw9' HX6 HY6 HR6 HB6 HV6 KX C1 C2 CM X9 Y9 h6 hl6 hl9 RR PP HX HY SX SY GX HG
  rcases Nat.eq_zero_or_pos l6 with hl0 | hl0
  · subst hl0
    rw [decide_eq_false (by omega), Bool.and_false] at HNG
    cases nq
    · cases nr
      · go_wp2_with fail
        obtain ⟨D1, D2, D3⟩ := num_done (bb := false) (show NumRes w9 _ _ from HRR.out) HB9.out (by omega) HH.out.1 HH.out.2 HNG.out.symm
        have HD1 := Lib.hid D1; have HD2 := Lib.hid D2; have HD3 := Lib.hid D3
        clear D1 D2 D3 k0 k1 k2 f0 f1 f2
        generalize (((w9.setCell ⟨w.heap.size + 1 + 1, 0, none⟩ (.bool (false))).setCell ⟨w.heap.size + 1 + 1, 1, none⟩ (.slice A6 0 c6)).setCell ⟨w.heap.size + 1 + 1, 2, none⟩ (.slice A9 l9 c9)) = wz at HD1 HD2 HD3 ⊢
        have r0 := HD1.out.c0; have r1 := HD1.out.c1; have r2 := HD1.out.c2
        go_wp2_with fail
        exact bodyPost_ret (v := .agg #[.bool (false), (.slice A6 0 c6), (.slice A9 l9 c9)]) (by simp [results, Tryz.results91, go_sem, r0, r1, r2]) rfl ⟨_, rfl, HD2.out, HD3.out⟩
      · go_wp2_with fail
        obtain ⟨D1, D2, D3⟩ := num_done (bb := false) (show NumRes w9 _ _ from HRR.out) HB9.out (by omega) HH.out.1 HH.out.2 HNG.out.symm
        have HD1 := Lib.hid D1; have HD2 := Lib.hid D2; have HD3 := Lib.hid D3
        clear D1 D2 D3 k0 k1 k2 f0 f1 f2
        generalize (((w9.setCell ⟨w.heap.size + 1 + 1, 0, none⟩ (.bool (false))).setCell ⟨w.heap.size + 1 + 1, 1, none⟩ (.slice A6 0 c6)).setCell ⟨w.heap.size + 1 + 1, 2, none⟩ (.slice A9 l9 c9)) = wz at HD1 HD2 HD3 ⊢
        have r0 := HD1.out.c0; have r1 := HD1.out.c1; have r2 := HD1.out.c2
        go_wp2_with fail
        exact bodyPost_ret (v := .agg #[.bool (false), (.slice A6 0 c6), (.slice A9 l9 c9)]) (by simp [results, Tryz.results91, go_sem, r0, r1, r2]) rfl ⟨_, rfl, HD2.out, HD3.out⟩
    · cases nr
      · go_wp2_with fail
        obtain ⟨D1, D2, D3⟩ := num_done (bb := false) (show NumRes w9 _ _ from HRR.out) HB9.out (by omega) HH.out.1 HH.out.2 HNG.out.symm
        have HD1 := Lib.hid D1; have HD2 := Lib.hid D2; have HD3 := Lib.hid D3
        clear D1 D2 D3 k0 k1 k2 f0 f1 f2
        generalize (((w9.setCell ⟨w.heap.size + 1 + 1, 0, none⟩ (.bool (false))).setCell ⟨w.heap.size + 1 + 1, 1, none⟩ (.slice A6 0 c6)).setCell ⟨w.heap.size + 1 + 1, 2, none⟩ (.slice A9 l9 c9)) = wz at HD1 HD2 HD3 ⊢
        have r0 := HD1.out.c0; have r1 := HD1.out.c1; have r2 := HD1.out.c2
        go_wp2_with fail
        exact bodyPost_ret (v := .agg #[.bool (false), (.slice A6 0 c6), (.slice A9 l9 c9)]) (by simp [results, Tryz.results91, go_sem, r0, r1, r2]) rfl ⟨_, rfl, HD2.out, HD3.out⟩
      · go_wp2_with fail
        obtain ⟨D1, D2, D3⟩ := num_done (bb := false) (show NumRes w9 _ _ from HRR.out) HB9.out (by omega) HH.out.1 HH.out.2 HNG.out.symm
        have HD1 := Lib.hid D1; have HD2 := Lib.hid D2; have HD3 := Lib.hid D3
        clear D1 D2 D3 k0 k1 k2 f0 f1 f2
        generalize (((w9.setCell ⟨w.heap.size + 1 + 1, 0, none⟩ (.bool (false))).setCell ⟨w.heap.size + 1 + 1, 1, none⟩ (.slice A6 0 c6)).setCell ⟨w.heap.size + 1 + 1, 2, none⟩ (.slice A9 l9 c9)) = wz at HD1 HD2 HD3 ⊢
        have r0 := HD1.out.c0; have r1 := HD1.out.c1; have r2 := HD1.out.c2
        go_wp2_with fail
        exact bodyPost_ret (v := .agg #[.bool (false), (.slice A6 0 c6), (.slice A9 l9 c9)]) (by simp [results, Tryz.results91, go_sem, r0, r1, r2]) rfl ⟨_, rfl, HD2.out, HD3.out⟩
  · have t4 : ((l6 : Int) > 0) := by omega
    rw [decide_eq_true (by omega), Bool.and_true] at HNG
    cases nq
    · cases nr
      · go_wp2_with fail
        obtain ⟨D1, D2, D3⟩ := num_done (bb := false) (show NumRes w9 _ _ from HRR.out) HB9.out (by omega) HH.out.1 HH.out.2 HNG.out.symm
        have HD1 := Lib.hid D1; have HD2 := Lib.hid D2; have HD3 := Lib.hid D3
        clear D1 D2 D3 k0 k1 k2 f0 f1 f2
        generalize (((w9.setCell ⟨w.heap.size + 1 + 1, 0, none⟩ (.bool (false))).setCell ⟨w.heap.size + 1 + 1, 1, none⟩ (.slice A6 l6 c6)).setCell ⟨w.heap.size + 1 + 1, 2, none⟩ (.slice A9 l9 c9)) = wz at HD1 HD2 HD3 ⊢
        have r0 := HD1.out.c0; have r1 := HD1.out.c1; have r2 := HD1.out.c2
        go_wp2_with fail
        exact bodyPost_ret (v := .agg #[.bool (false), (.slice A6 l6 c6), (.slice A9 l9 c9)]) (by simp [results, Tryz.results91, go_sem, r0, r1, r2]) rfl ⟨_, rfl, HD2.out, HD3.out⟩
      · go_wp2_with fail
        obtain ⟨D1, D2, D3⟩ := num_done (bb := true) (show NumRes w9 _ _ from HRR.out) HB9.out (by omega) HH.out.1 HH.out.2 HNG.out.symm
        have HD1 := Lib.hid D1; have HD2 := Lib.hid D2; have HD3 := Lib.hid D3
        clear D1 D2 D3 k0 k1 k2 f0 f1 f2
        generalize (((w9.setCell ⟨w.heap.size + 1 + 1, 0, none⟩ (.bool (true))).setCell ⟨w.heap.size + 1 + 1, 1, none⟩ (.slice A6 l6 c6)).setCell ⟨w.heap.size + 1 + 1, 2, none⟩ (.slice A9 l9 c9)) = wz at HD1 HD2 HD3 ⊢
        have r0 := HD1.out.c0; have r1 := HD1.out.c1; have r2 := HD1.out.c2
        go_wp2_with fail
        exact bodyPost_ret (v := .agg #[.bool (true), (.slice A6 l6 c6), (.slice A9 l9 c9)]) (by simp [results, Tryz.results91, go_sem, r0, r1, r2]) rfl ⟨_, rfl, HD2.out, HD3.out⟩
    · cases nr
      · go_wp2_with fail
        obtain ⟨D1, D2, D3⟩ := num_done (bb := true) (show NumRes w9 _ _ from HRR.out) HB9.out (by omega) HH.out.1 HH.out.2 HNG.out.symm
        have HD1 := Lib.hid D1; have HD2 := Lib.hid D2; have HD3 := Lib.hid D3
        clear D1 D2 D3 k0 k1 k2 f0 f1 f2
        generalize (((w9.setCell ⟨w.heap.size + 1 + 1, 0, none⟩ (.bool (true))).setCell ⟨w.heap.size + 1 + 1, 1, none⟩ (.slice A6 l6 c6)).setCell ⟨w.heap.size + 1 + 1, 2, none⟩ (.slice A9 l9 c9)) = wz at HD1 HD2 HD3 ⊢
        have r0 := HD1.out.c0; have r1 := HD1.out.c1; have r2 := HD1.out.c2
        go_wp2_with fail
        exact bodyPost_ret (v := .agg #[.bool (true), (.slice A6 l6 c6), (.slice A9 l9 c9)]) (by simp [results, Tryz.results91, go_sem, r0, r1, r2]) rfl ⟨_, rfl, HD2.out, HD3.out⟩
      · go_wp2_with fail
        obtain ⟨D1, D2, D3⟩ := num_done (bb := false) (show NumRes w9 _ _ from HRR.out) HB9.out (by omega) HH.out.1 HH.out.2 HNG.out.symm
        have HD1 := Lib.hid D1; have HD2 := Lib.hid D2; have HD3 := Lib.hid D3
        clear D1 D2 D3 k0 k1 k2 f0 f1 f2
        generalize (((w9.setCell ⟨w.heap.size + 1 + 1, 0, none⟩ (.bool (false))).setCell ⟨w.heap.size + 1 + 1, 1, none⟩ (.slice A6 l6 c6)).setCell ⟨w.heap.size + 1 + 1, 2, none⟩ (.slice A9 l9 c9)) = wz at HD1 HD2 HD3 ⊢
        have r0 := HD1.out.c0; have r1 := HD1.out.c1; have r2 := HD1.out.c2
        go_wp2_with fail
        exact bodyPost_ret (v := .agg #[.bool (false), (.slice A6 l6 c6), (.slice A9 l9 c9)]) (by simp [results, Tryz.results91, go_sem, r0, r1, r2]) rfl ⟨_, rfl, HD2.out, HD3.out⟩
end Go.Proofs.YtfmebfkdpfbjbaaGreatDoor
namespace Go.Proofs.YtfmebfkdpfbjbaaGreatDoor
open Go.RowKit
def NumT (b w : World) (q : Rat) (e : Ending) (w' : World) : Prop := ∃ v', e = .returned v' ∧ NumIn w' v' q ∧ Below b.heap.size b w' ∧ Below w.heap.size w w'
theorem liftN {P : Program} {f : FuncId} {args : Array Value} {b W : World} {q : Rat} (h : Below b.heap.size b W) (c : Calls P f args W (Num1 W q)) : Calls P f args W (NumT b W q) :=
  c.mono fun _ _ ⟨v, h1, h2, h3⟩ => ⟨v, h1, h2, h.trans (h3.mono h.size), h3⟩
set_option maxRecDepth 100000 in
set_option maxHeartbeats 4000000 in
theorem exNeg_any (w : World) (vx : Value) (q : Rat) (hx : NumIn w vx q) :
    Calls Tryz.prog 106 #[vx] w (Num1 w (-q)) := by
  obtain ⟨A, l, c, A2, l2, c2, rfl, hx1, hx2⟩ := hx.is_agg
  have HX := Lib.hid (And.intro hx1 hx2)
  obtain ⟨p1, p2, p3⟩ := Big.neg_parts q
  have hl := hx1.len_zero
  have HNG := Lib.hid (show Big.ng (-q) = (!Big.ng q && decide (0 < l)) by rw [p1]; congr 1; rw [decide_eq_decide, Nat.pos_iff_ne_zero, Nat.pos_iff_ne_zero, Ne, Ne, hl])
  have H0 := Lib.hid (show NatIn w (.slice A l c) (Big.nu (-q)) ∧ NatIn w (.slice A2 l2 c2) (Big.de (-q)) by rw [p2, p3]; exact ⟨hx1, hx2⟩)
  clear hx hx1 hx2 p1 p2 p3 hl HX
  generalize Big.ng q = nq at *
  rcases Nat.eq_zero_or_pos l with hl0 | hl0
  · subst hl0
    rw [decide_eq_false (by omega), Bool.and_false] at HNG
    cases nq
    · go_enter Tryz.func106, Tryz.ntmps106
      go_wp2_with fail
      obtain ⟨_, R0, B0⟩ := boxed2 w 71 71 (.bool false) (.slice A 0 c) (.slice A2 l2 c2) (.bool false) (.slice A 0 c) (.slice A2 l2 c2)
      have r0 := R0.c0; have r1 := R0.c1; have r2 := R0.c2
      exact bodyPost_ret (v := .agg #[.bool false, .slice A 0 c, .slice A2 l2 c2]) (by simp [results, Tryz.results106, go_sem, r0, r1, r2]) rfl ⟨_, rfl, ⟨_, _, by first | (rw [HNG.out]; done) | (rw [HNG.out]; rfl), H0.out.1.keep B0, H0.out.2.keep B0⟩, B0⟩
    · go_enter Tryz.func106, Tryz.ntmps106
      go_wp2_with fail
      obtain ⟨_, R0, B0⟩ := boxed2 w 71 71 (.bool true) (.slice A 0 c) (.slice A2 l2 c2) (.bool false) (.slice A 0 c) (.slice A2 l2 c2)
      have r0 := R0.c0; have r1 := R0.c1; have r2 := R0.c2
      exact bodyPost_ret (v := .agg #[.bool false, .slice A 0 c, .slice A2 l2 c2]) (by simp [results, Tryz.results106, go_sem, r0, r1, r2]) rfl ⟨_, rfl, ⟨_, _, by first | (rw [HNG.out]; done) | (rw [HNG.out]; rfl), H0.out.1.keep B0, H0.out.2.keep B0⟩, B0⟩
  · have t4 : ((l : Int) > 0) := by omega
    rw [decide_eq_true (by omega), Bool.and_true] at HNG
    cases nq
    · go_enter Tryz.func106, Tryz.ntmps106
      go_wp2_with fail
      obtain ⟨_, R0, B0⟩ := boxed2 w 71 71 (.bool false) (.slice A l c) (.slice A2 l2 c2) (.bool true) (.slice A l c) (.slice A2 l2 c2)
      have r0 := R0.c0; have r1 := R0.c1; have r2 := R0.c2
      exact bodyPost_ret (v := .agg #[.bool true, .slice A l c, .slice A2 l2 c2]) (by simp [results, Tryz.results106, go_sem, r0, r1, r2]) rfl ⟨_, rfl, ⟨_, _, by first | (rw [HNG.out]; done) | (rw [HNG.out]; rfl), H0.out.1.keep B0, H0.out.2.keep B0⟩, B0⟩
    · go_enter Tryz.func106, Tryz.ntmps106
      go_wp2_with fail
      obtain ⟨_, R0, B0⟩ := boxed2 w 71 71 (.bool true) (.slice A l c) (.slice A2 l2 c2) (.bool false) (.slice A l c) (.slice A2 l2 c2)
      have r0 := R0.c0; have r1 := R0.c1; have r2 := R0.c2
      exact bodyPost_ret (v := .agg #[.bool false, .slice A l c, .slice A2 l2 c2]) (by simp [results, Tryz.results106, go_sem, r0, r1, r2]) rfl ⟨_, rfl, ⟨_, _, by first | (rw [HNG.out]; done) | (rw [HNG.out]; rfl), H0.out.1.keep B0, H0.out.2.keep B0⟩, B0⟩
end Go.Proofs.YtfmebfkdpfbjbaaGreatDoor
namespace Go.Proofs.YtfmebfkdpfbjbaaGreatDoor
open Go.RowKit
end Go.Proofs.YtfmebfkdpfbjbaaGreatDoor
namespace Go.Proofs.YtfmebfkdpfbjbaaGreatDoor
open Go.RowKit
theorem sizeT {P : Program} {f : FuncId} {args : Array Value} {b W : World} {v : Value} (h : Below b.heap.size b W) (c : Calls P f args W fun e w' => e = .returned v ∧ W = w') :
    Calls P f args W fun e w' => e = .returned v ∧ Below b.heap.size b w' :=
  c.mono fun _ _ ⟨h1, h2⟩ => ⟨h1, h2 ▸ h⟩
end Go.Proofs.YtfmebfkdpfbjbaaGreatDoor
