/- Contracts. -/
import Derived.Test.YtnlhjcfpfapafaaGreatDoorPOq06
import Derived.Test.YtnlhjcfpfapafaaGreatDoorPOq07
import Derived.Test.YtnlhjcfpfapafaaGreatDoorPOq14
import Derived.Test.YtnlhjcfpfapafaaGreatDoorPOq13
import Derived.Test.YtnlhjcfpfapafaaGreatDoorLwS
import Derived.Test.YtnlhjcfpfapafaaGreatDoorPOq11
namespace Go.Proofs.YtnlhjcfpfapafaaGreatDoor
open Go Go.RowKit
namespace Ev
def WO (n : Nat) : Nat := if n = 0 then 0 else Nat.log2 n / 64 + 1
theorem Zhr {l : List Nat} (ol : Big.Ok Big.M64 l) (nl : Big.Norm l) : l.length = WO (Big.val Big.M64 l) := by
 unfold WO
 by_cases h0 : Big.val Big.M64 l = 0
 ·rw [if_pos h0, Big.norm_zero Big.M64_pos l nl h0]; rfl
 ·rw [if_neg h0]
  have hne : l ≠ [] := by intro e; subst e; exact h0 rfl
  have h1 := Big.norm_ge (B := Big.M64) l nl hne
  have h2 := Big.val_lt l ol
  generalize Big.val Big.M64 l = n at *
  have hM : ∀ k, Big.M64 ^ k = 2 ^ (64 * k) := fun k => by rw [Nat.pow_mul]; rfl
  rw [hM] at h1 h2
  have h3 := Nat.log2_self_le h0
  have h4 : n < 2 ^ (Nat.log2 n + 1) := Nat.lt_log2_self
  have hl : 0 < l.length := List.length_pos_iff.2 hne
  have h5 : Nat.log2 n < 64 * l.length := (Nat.pow_lt_pow_iff_right (by omega : 1 < 2)).1 (Nat.lt_of_le_of_lt h3 h2)
  have h6 : 64 * (l.length - 1) < Nat.log2 n + 1 := (Nat.pow_lt_pow_iff_right (by omega : 1 < 2)).1 (Nat.lt_of_le_of_lt h1 h4)
  omega
theorem UY {w : World} {v : Value} {n : Nat} (h : Zj w v n) : ∃ a c, v = .slice a (WO n) c := by
 obtain ⟨l, ⟨A, c, e, -, -, -⟩, ol, nl, rfl⟩ := h
 exact ⟨A, c, by rw [e, Zhr ol nl]⟩
theorem YS {w : World} {v : Value} {n : Nat} (h : Zj w v n) : ZR v = true := by
 obtain ⟨a, c, rfl⟩ := UY h; rfl
theorem Wu {n : Nat} {w w' : World} {v : Value} (h : Zj w v n) (hk : ∀ (b : Nat) (c : Array Value) (t : TypeId) (z : Nat × Nat), w.heap[b]? = some (.cells c t z) → Nat.beq t 112 = true → w'.heap[b]? = some (.cells c t z)) : Zj w' v n := by
 obtain ⟨l, ⟨A, c, e, h1, h2, h3⟩, ol, nl, hv⟩ := h
 refine ⟨l, ⟨A, c, e, h1, h2, fun hp => ?_⟩, ol, nl, hv⟩
 obtain ⟨b, o, ea, hlt, hc, cs, hcs⟩ := h3 hp
 have hcs' := hk b cs _ _ hcs (Nat.beq_refl _)
 refine ⟨b, o, ea, (Array.getElem?_eq_some_iff.1 hcs').1, fun i hi => ?_, cs, hcs'⟩
 rw [← hc i hi]
 exact World.cell?_of_block (hcs'.trans hcs.symm)
theorem Zmu : ∃ g, g < Tryz.prog.globals.size ∧ Tryz.prog.globalNamed "internal/strconv.uint64pow10" = some g := by
 have h : (match Tryz.prog.globalNamed "internal/strconv.uint64pow10" with | some g => Nat.ble (g + 1) Tryz.prog.globals.size | none => false) = true := by kernel_rfl
 cases e : Tryz.prog.globalNamed "internal/strconv.uint64pow10" with
 | none => rw [e] at h; cases h
 | some g => rw [e] at h; exact ⟨g, Nat.le_of_ble_eq_true h, rfl⟩
noncomputable def Zez : Nat → Option (List Value) := fun b =>
 (fun _ => none) b
noncomputable def Zn : Sig Nat where
 holds n w v := Zj w v n
 hid _ t := Nat.beq t 112
 hn _ t := Nat.beq t 112
 lo := 0
 new := fun _ _ _ _ h => h
 G := Tryz.prog.globals.size
 base := Zdh
 baseS := by
  intro w w' h hk
  obtain ⟨g, hg, hn⟩ := Zmu
  unfold Zdh Tab Lib.TabIs World.var? at *
  rw [hn] at h ⊢
  simp only [Option.bind_some] at h ⊢
  cases hq : w.heap[g]? with
  | none => rw [hq] at h; cases h
  | some o => rw [hk g o hg hq]; rw [hq] at h; exact h
 stable := fun _ _ _ _ h hk => Wu h hk
noncomputable def ZaH : Cfg Nat where
 hid _ t := Nat.beq t 112
 G := Tryz.prog.globals.size
 tab f := Tryz.prog.funcs[f]?
 len n := some (WO n)
 glob := Zez
 hard _ _ := fail
noncomputable def Yy : Cfg Nat where
 hid _ t := Nat.beq t 112
 G := Tryz.prog.globals.size
 tab f := Tryz.prog.funcs[f]?
 len n := some (WO n)
 glob := Zez
 hard := XL Tryz.prog ZaH
instance natHard : HardLoc Yy := ⟨fun o vs => XM Tryz.prog ZaH o vs⟩
theorem Y7 : Fits Zn Tryz.prog Yy where
 hid := rfl
 G := rfl
 len := fun f n w v h e => by
  have e' : WO f = n := Option.some.inj e
  obtain ⟨a, c, rfl⟩ := UY h
  exact ⟨a, c, by rw [e']⟩
 glob := fun b cs h => by
  exact absurd (show (none : Option (List Value)) = some cs from h) (by simp)
 tab := fun f fn h => by
  refine ⟨h, ?_⟩
  have hall : (Tryz.prog.funcs.all fun fn => !(fn.name == "runtime.NumGoroutine")) = true := by kernel_rfl
  have h1 := Array.all_eq_true_iff_forall_mem.1 hall fn (Array.mem_of_getElem? h)
  simpa using h1
 mixed := by kernel_rfl
 hard := VH (C0 := ZaH) rfl rfl rfl
section
variable {F : Type} {S : Sig F}
theorem Xw {r : Ren} {g : Nat → Option (Blk F)} {w w' : World} (hM : Mod S r g w) (hb : Below w.heap.size w w') (nx : Nat) : Ext S r w nx nx [] g r w' := by
 have hk : ∀ (b : Nat) (o : Obj), w.heap[b]? = some o → w'.heap[b]? = some o := fun b o hbo => (hb.block b (Array.getElem?_eq_some_iff.1 hbo).1).trans hbo
 refine ⟨.refl r, ⟨hM.inj, fun n b hn => Nat.lt_of_lt_of_le (hM.lt n b hn) hb.size, fun n c t hn => ?_, fun n f hn => ?_, S.baseS w w' hM.base fun b o _ => hk b o, hM.glob, hM.own, fun n c t hn => ?_, Nat.le_trans hM.sz hb.size, hM.lp.mono (.refl r) (fun _ _ q => q) (fun b L => hk b _), hM.ow.all (.refl r) (fun _ _ q => q) hk, hM.ad⟩, fun _ h => .inl h, fun _ _ h => .inl h, fun b o hbo _ => hk b o hbo, hb.size, hb.os, hb.tape, hb.output, .of hk⟩
 ·obtain ⟨b, c', h1, h2, h3, h4⟩ := hM.cells n c t hn
  exact ⟨b, c', h1, hk b _ h2, h3, h4⟩
 ·obtain ⟨v, h1, h2, h3⟩ := hM.fact n f hn
  exact ⟨v, h1, S.stable f w w' v h2 fun b c t z hbo _ => hk b _ hbo, h3⟩
 ·obtain ⟨b, c', h1, h2, h3, h4, h5⟩ := hM.room n c t hn
  exact ⟨b, c', h1, hk b _ h2, h3, h4, h5⟩
theorem YF {r : Ren} {g : Nat → Option (Blk F)} {w w' : World} {nx : Nat} {f : F} {v' : Value} (hM : Mod S r g w) (hb : Below w.heap.size w w') (hN : New r nx (nx + 1)) (hh : S.holds f w' v') (ho : ZR v' = true) :
  ∃ r', Ext S r w nx (nx + 1) [] (fun n => if n = nx then some (.fact f) else g n) r' w' ∧ r'.val nx = some v' := by
 have hno := hN nx (Nat.le_refl _) (Nat.lt_succ_self _)
 have hX := Xw hM hb nx
 have hle : r.le ⟨r.blk, fun n => if n = nx then some v' else r.val n, r.len⟩ := by
  refine ⟨fun _ _ e => e, fun n v e => ?_, fun _ _ _ => rfl⟩
  have : n ≠ nx := fun h => by rw [h, hno.2] at e; cases e
  simp only [if_neg this, e]
 refine ⟨⟨r.blk, fun n => if n = nx then some v' else r.val n, r.len⟩, ⟨hle, ⟨fun n m b h1 h2 => (hM.inj n m b h1 h2).imp id (Or.imp (Yx.over_fact nx f) (Yx.over_fact nx f)), hX.mod.lt, fun n c t hn => ?_, fun n f' hn => ?_, hX.mod.base, hM.glob, hM.own, fun n c t hn => ?_, hX.mod.sz, hX.mod.lp.mono hle (fun n s hn => by
  by_cases h : n = nx
  ·simp only [if_pos h, Option.some.injEq] at hn; cases hn
  ·simpa only [if_neg h] using hn) (fun _ _ q => q), hX.mod.ow.all hle (fun n s hn => by
  by_cases h : n = nx
  ·simp only [if_pos h, Option.some.injEq] at hn; cases hn
  ·simpa only [if_neg h] using hn) (fun _ _ q => q), hX.mod.ad.mono hle fun n k x hn => by
  by_cases h : n = nx
  ·simp only [if_pos h, Option.some.injEq] at hn; cases hn
  ·simpa only [if_neg h] using hn⟩, fun n hn => ?_, fun _ _ h => .inl h, hX.keep, hX.size, hX.os, hX.tape, hX.output, hX.loops⟩, by simp⟩
 ·by_cases h : n = nx
  ·simp only [if_pos h, Option.some.injEq] at hn; cases hn
  ·simp only [if_neg h] at hn
   obtain ⟨b, c', h1, h2, h3, h4⟩ := hX.mod.cells n c t hn
   exact ⟨b, c', h1, h2, h3.mono hle, h4⟩
 ·by_cases h : n = nx
  ·simp only [if_pos h, Option.some.injEq, Blk.fact.injEq] at hn
   subst hn
   exact ⟨v', by simp [h], hh, ho⟩
  ·simp only [if_neg h] at hn
   obtain ⟨v, h1, h2, h3⟩ := hX.mod.fact n f' hn
   exact ⟨v, by simp only [if_neg h, h1], h2, h3⟩
 ·by_cases h : n = nx
  ·simp only [if_pos h, Option.some.injEq] at hn; cases hn
  ·simp only [if_neg h] at hn
   obtain ⟨b, c', h1, h2, h3, h4, h5⟩ := hX.mod.room n c t hn
   exact ⟨b, c', h1, h2, h3.mono hle, h4, h5⟩
 ·by_cases h : n = nx
  ·exact .inr ⟨by omega, by omega⟩
  ·simp only [if_neg h] at hn; exact .inl hn
end
noncomputable def XU : Value → Bool
 | .slice a n c => match a with
  | none => Nat.beq n 0 && Nat.beq c 0
  | some _ => false
 | _ => false
noncomputable def ZfH (v : Value) : M Nat Nat := cond (XU v) (ret 0) (fact v)
theorem JA (v : Value) : Loc (ZfH v) := Ze (Zg _) (ZA v)
theorem ZB {F : Type} {S : Sig F} {v v' : Value} {f : F} {h h' : Tr (Blk F)} {nx nx' : Nat} {R W : List Nat} {r : Ren} {w : World} (e : (fact v : M F F) h nx = .ok f h' nx' R W) (hv : VR r v v') (hM : Mod S r h.get w) : h' = h ∧ nx' = nx ∧ W = [] ∧ S.holds f w v' := by
 unfold fact at e
 cases v with
 | chan i =>
  cases i with
  | none => simp [fail] at e
  | some i =>
   simp only at e
   obtain ⟨bl, h3, nx3, R3, W3, R4, W4, e3, e4, rfl, rfl⟩ := Zc e
   unfold rd at e3
   cases hg : h.get i with
   | none => rw [hg] at e3; cases e3
   | some bl2 =>
    rw [hg] at e3
    cases e3
    cases bl with
    | cells _ _ => simp [fail] at e4
    | room _ _ => simp [fail] at e4
    | opq => simp [fail] at e4
    | lp _ => simp [fail] at e4
    | ow _ => simp [fail] at e4
    | ad _ _ => simp [fail] at e4
    | fact f2 =>
     simp only at e4
     obtain ⟨rfl, rfl, rfl, rfl⟩ := Zh e4
     obtain ⟨v0, hv0, hh, ho⟩ := hM.fact _ _ hg
     refine ⟨rfl, rfl, by simp, ?_⟩
     cases hv with
     | same p => simp [plain] at p
     | opq hp _ => rw [hv0] at hp; injection hp with hp; subst hp; exact hh
 | _ => simp [fail] at e
theorem ZaI {v v' : Value} {n : Nat} {h h' : Tr (Blk Nat)} {nx nx' : Nat} {R W : List Nat} {r : Ren} {w : World} (e : ZfH v h nx = .ok n h' nx' R W) (hv : VR r v v') (hM : Mod Zn r h.get w) : h' = h ∧ nx' = nx ∧ W = [] ∧ Zj w v' n := by
 unfold ZfH at e
 cases hi : XU v with
 | true =>
  rw [hi] at e
  obtain ⟨rfl, rfl, rfl, rfl⟩ := Zh e
  refine ⟨rfl, rfl, rfl, ?_⟩
  cases v with
  | slice a m c =>
   cases a with
   | some _ => simp [XU] at hi
   | none =>
    simp only [XU, Bool.and_eq_true] at hi
    have h1 := Nat.eq_of_beq_eq_true hi.1
    have h2 := Nat.eq_of_beq_eq_true hi.2
    subst h1; subst h2
    rw [hv.nilslc]
    exact Zj.nil_ w
  | _ => simp [XU] at hi
 | false =>
  rw [hi] at e
  exact ZB e hv hM
def Z3 {F : Type} (S : Sig F) (P : Program) (f : FuncId) (g : List Value → Option (M F Value)) : Prop := ∀ args m, g args = some m → Loc m ∧ ∀ h nx v h' nx' R W, m h nx = .ok v h' nx' R W →
 ∀ (r : Ren) (w : World) (args' : List Value), VsR r args args' → Mod S r h.get w → New r nx nx' → Calls P f ⟨args'⟩ w fun e w' => ∃ v' r', e = .returned v' ∧ VR r' v v' ∧ Ext S r w nx nx' W h'.get r' w'
noncomputable def Xj {G : Type} : List (Nat × G) → Tr G
 | [] => .nil
 | x :: l => (Xj l).set x.1 x.2
theorem KU {G : Type} {f : Nat} {g : G} : ∀ {l : List (Nat × G)}, (Xj l).get f = some g → (f, g) ∈ l
 | [], h => by simp [Xj, Tr.get_nil] at h
 | x :: l, h => by
  rw [Xj, Tr.get_set] at h
  by_cases e : f = x.1
  ·rw [if_pos e] at h
   injection h with h
   obtain ⟨a, b⟩ := x
   simp only at e h
   subst e; subst h
   exact List.mem_cons_self
  ·rw [if_neg e] at h
   exact List.mem_cons_of_mem _ (KU h)
noncomputable def Xi {F : Type} (t : Tr (List Value → Option (M F Value))) : WE F := fun f args => match t.get f with
 | some g => g args
 | none => none
theorem YO {F : Type} {S : Sig F} {P : Program} {l : List (Nat × (List Value → Option (M F Value)))} (h : ∀ x ∈ l, Z3 S P x.1 x.2) : SumOK S P (Xi (Xj l)) := by
 have key : ∀ f args m, Xi (Xj l) f args = some m → ∃ g, Z3 S P f g ∧ g args = some m := by
  intro f args m e
  unfold Xi at e
  cases hg : (Xj l).get f with
  | none => rw [hg] at e; cases e
  | some g => rw [hg] at e; exact ⟨g, h _ (KU hg), e⟩
 refine ⟨fun f args m e => ?_, fun f args m e h nx v h' nx' R W hr r w args' ha hM hN => ?_⟩
 ·obtain ⟨g, hs, hg⟩ := key f args m e
  exact (hs args m hg).1
 ·obtain ⟨g, hs, hg⟩ := key f args m e
  exact (hs args m hg).2 _ _ _ _ _ _ _ hr.ok r w args' ha hM hN
section
variable {h h' : Tr (Blk Nat)} {nx nx' : Nat} {R W : List Nat} {r : Ren} {w : World} {v : Value}
def ZbX (f : FuncId) (args' : List Value) (r : Ren) (w : World) (nx nx' : Nat) (W : List Nat) (g' : Nat → Option (Blk Nat)) (v : Value) : Prop :=
 Calls Tryz.prog f ⟨args'⟩ w fun e w' => ∃ v' r', e = .returned v' ∧ VR r' v v' ∧ Ext Zn r w nx nx' W g' r' w'
theorem XC {N : Nat} {f : FuncId} {args' : List Value} (e : (Zo N : M Nat Value) h nx = .ok v h' nx' R W) (hM : Mod Zn r h.get w) (hN : New r nx nx') (c : Calls Tryz.prog f ⟨args'⟩ w (ZbW w N)) : ZbX f args' r w nx nx' W h'.get v := by
 obtain ⟨i, h1, nx1, R1, W1, R2, W2, e1, e2, rfl, rfl⟩ := Zc e
 obtain ⟨rfl, rfl, rfl, rfl⟩ := Zh e2
 unfold fresh at e1
 cases e1
 refine c.mono ?_
 rintro en w' ⟨v', rfl, hv, hb⟩
 obtain ⟨r', hX, hr⟩ := YF (S := Zn) (f := N) hM hb hN hv (YS hv)
 exact ⟨v', r', rfl, .opq hr (YS hv), by simpa using hX.congr fun n => .inr (Tr.get_set _ _ _ _)⟩
theorem X9 {u : Value} {f : FuncId} {args' : List Value} (e : (ret u : M Nat Value) h nx = .ok v h' nx' R W) (hp : Zx u = true) (hM : Mod Zn r h.get w) (c : Calls Tryz.prog f ⟨args'⟩ w fun e w' => e = .returned u ∧ Below w.heap.size w w') : ZbX f args' r w nx nx' W h'.get v := by
 obtain ⟨rfl, rfl, rfl, rfl⟩ := Zh e
 refine c.mono ?_
 rintro en w' ⟨rfl, hb⟩
 exact ⟨_, r, rfl, VR.same2 hp, Xw hM hb _⟩
theorem Zdl {f : FuncId} {args' : List Value} {u : Value} (c : Calls Tryz.prog f ⟨args'⟩ w fun e w' => e = .returned u ∧ w = w') : Calls Tryz.prog f ⟨args'⟩ w fun e w' => e = .returned u ∧ Below w.heap.size w w' :=
 c.mono fun _ _ ⟨h1, h2⟩ => ⟨h1, h2 ▸ Below.refl _ _⟩
theorem Zdm {f : FuncId} {args' : List Value} {u : Value} (c : Calls Tryz.prog f ⟨args'⟩ w fun e w' => e = .returned u ∧ Zv w w') : Calls Tryz.prog f ⟨args'⟩ w fun e w' => e = .returned u ∧ Below w.heap.size w w' :=
 c.mono fun _ _ ⟨h1, h2⟩ => ⟨h1, h2.below _⟩
noncomputable def small (n : Nat) : Bool := Nat.ble (Nat.log2 n) 60000
theorem Zj5 {n k : Nat} (h : Nat.log2 n + 1 ≤ 64 * k) : n < Big.M64 ^ k := by
 have hM : ∀ k, Big.M64 ^ k = 2 ^ (64 * k) := fun k => by rw [Nat.pow_mul]; rfl
 rw [hM]
 exact Nat.lt_of_lt_of_le Nat.lt_log2_self (Nat.pow_le_pow_right (by omega) h)
theorem Zdn {n k : Nat} (h : Nat.log2 n + 1 ≤ 64 * k) : Sz k n := ⟨Zj5 h⟩
theorem JB {n : Nat} (h : small n = true) : Sz 1000 n := by
 have h1 := Nat.le_of_ble_eq_true h
 exact Zdn (by omega)
noncomputable def two (args : List Value) (k : Nat → Nat → M Nat Value) : Option (M Nat Value) := match args with
 | [a, b] => some (bind (ZfH a) fun n => bind (ZfH b) fun m => cond (small n && small m) (k n m) fail)
 | _ => none
noncomputable def one (args : List Value) (k : Nat → M Nat Value) : Option (M Nat Value) := match args with
 | [a] => some (bind (ZfH a) fun n => cond (small n) (k n) fail)
 | _ => none
theorem VL {f : FuncId} {k : Nat → Nat → M Nat Value} (hl : ∀ n m, Loc (k n m)) (hk : ∀ n m (h : Tr (Blk Nat)) nx v h' nx' R W, k n m h nx = .ok v h' nx' R W → ∀ r w a b, Zj w a n → Zj w b m → Sz 1000 n → Sz 1000 m → Mod Zn r h.get w → New r nx nx' → ZbX f [a, b] r w nx nx' W h'.get v) :
  Z3 Zn Tryz.prog f (fun args => two args k) := by
 intro args m e
 unfold two at e
 rcases args with _ | ⟨a, _ | ⟨b, _ | ⟨c, l⟩⟩⟩ <;> simp only [reduceCtorEq, Option.some.injEq] at e
 subst e
 refine ⟨Zb (JA a) fun n => Zb (JA b) fun m => Ze (hl n m) Za, ?_⟩
 intro h nx v h' nx' R W e r w args' ha hM hN
 cases ha with
 | cons ha1 ha2 =>
  cases ha2 with
  | cons hb1 hb2 =>
   cases hb2
   obtain ⟨n, h1, nx1, R1, W1, R2, W2, e1, e2, rfl, rfl⟩ := Zc e
   obtain ⟨rfl, rfl, rfl, hn⟩ := ZaI e1 ha1 hM
   obtain ⟨m, h2, nx2, R3, W3, R4, W4, e3, e4, rfl, rfl⟩ := Zc e2
   obtain ⟨rfl, rfl, rfl, hm⟩ := ZaI e3 hb1 hM
   obtain ⟨hs, e5⟩ := Zi e4
   simp only [Bool.and_eq_true] at hs
   simpa [ZbX] using hk n m _ _ _ _ _ _ _ e5 r w _ _ hn hm (JB hs.1) (JB hs.2) hM hN
theorem ZaJ {f : FuncId} {k : Nat → M Nat Value} (hl : ∀ n, Loc (k n)) (hk : ∀ n (h : Tr (Blk Nat)) nx v h' nx' R W, k n h nx = .ok v h' nx' R W → ∀ r w a, Zj w a n → Sz 1000 n → Mod Zn r h.get w → New r nx nx' → ZbX f [a] r w nx nx' W h'.get v) :
  Z3 Zn Tryz.prog f (fun args => one args k) := by
 intro args m e
 unfold one at e
 rcases args with _ | ⟨a, _ | ⟨c, l⟩⟩ <;> simp only [reduceCtorEq, Option.some.injEq] at e
 subst e
 refine ⟨Zb (JA a) fun n => Ze (hl n) Za, ?_⟩
 intro h nx v h' nx' R W e r w args' ha hM hN
 cases ha with
 | cons ha1 ha2 =>
  cases ha2
  obtain ⟨n, h1, nx1, R1, W1, R2, W2, e1, e2, rfl, rfl⟩ := Zc e
  obtain ⟨rfl, rfl, rfl, hn⟩ := ZaI e1 ha1 hM
  obtain ⟨hs, e5⟩ := Zi e2
  simpa [ZbX] using hk n _ _ _ _ _ _ _ e5 r w _ hn (JB hs) hM hN
theorem Zj6 : Z3 Zn Tryz.prog 122 (fun args => two args fun n m => Zo (Nat.add n m)) :=
 VL (fun _ _ => Zp _) fun n m h nx v h' nx' R W e r w a b hn hm sn sm hM hN => XC e hM hN (Zj2 w a b n m _ _ hn hm sn sm (by omega) (by omega))
theorem Zj7 : Z3 Zn Tryz.prog 123 (fun args => two args fun n m => Zo (Nat.sub n m)) :=
 VL (fun _ _ => Zp _) fun n m h nx v h' nx' R W e r w a b hn hm sn sm hM hN => XC e hM hN (Zj3 w a b n m _ hn hm sn (by omega))
theorem Zj8 : Z3 Zn Tryz.prog 94 (fun args => two args fun n m => Zo (Nat.mul n m)) :=
 VL (fun _ _ => Zp _) fun n m h nx v h' nx' R W e r w a b hn hm sn sm hM hN => XC e hM hN (Zj4 w a b n m _ _ hn hm sn sm (by omega) (by omega))
theorem Zj9 : Z3 Zn Tryz.prog 81 (fun args => two args fun n m => Zo (Nat.div n m)) :=
 VL (fun _ _ => Zp _) fun n m h nx v h' nx' R W e r w a b hn hm sn sm hM hN => XC e hM hN (ZaG w a b n m _ hn hm sn (by omega))
theorem Zka : Z3 Zn Tryz.prog 65 (fun args => two args fun n m => Zo (Nat.gcd n m)) :=
 VL (fun _ _ => Zp _) fun n m h nx v h' nx' R W e r w a b hn hm sn sm hM hN => XC e hM hN (Zex w a b n m _ _ hn hm sn sm (by omega) (by omega))
theorem Zkb : Z3 Zn Tryz.prog 101 (fun args => two args fun n m => ret (.int .i64 (Big.cmpI n m))) :=
 VL (fun _ _ => Zg _) fun n m h nx v h' nx' R W e r w a b hn hm _ _ hM _ => X9 e rfl hM (Zdm (Zj1 w a b n m hn hm))
theorem ZfI : Z3 Zn Tryz.prog 66 (fun args => one args fun n => ret (.bool (decide (n = 1)))) :=
 ZaJ (fun _ => Zg _) fun n h nx v h' nx' R W e r w a hn _ hM _ => X9 e rfl hM ((ZfG w a n hn).mono fun _ _ hh => by obtain ⟨h1, h2⟩ := hh; exact ⟨h1, by first | exact h2.below _ | exact h2 ▸ Below.refl _ _⟩)
theorem Zhs : Z3 Zn Tryz.prog 146 (fun args => one args fun n => ret (.int .i64 ((szN n : Nat) : Int))) :=
 ZaJ (fun _ => Zg _) fun n h nx v h' nx' R W e r w a hn sn hM _ => X9 e rfl hM (Zdl (Jw w a n _ hn sn (by omega)))
theorem ZfJ : Z3 Zn Tryz.prog 115 (fun args => one args fun n => ret (.string (bst n))) :=
 ZaJ (fun _ => Zg _) fun n h nx v h' nx' R W e r w a hn sn hM _ => X9 e rfl hM (UW w a n _ hn sn (by omega))
theorem Zmv : Z3 Zn Tryz.prog 79 (fun args => match args with
  | [a] => match a with
   | .int k s => match s with
    | .ofNat n => cond (decide (k = .u64) && Nat.ble (Nat.succ n) 18446744073709551616) (some (Zo n)) none
    | _ => none
   | _ => none
  | _ => none) := by
 intro args m e
 rcases args with _ | ⟨a, _ | ⟨c, l⟩⟩ <;> simp only [reduceCtorEq] at e
 cases a with
 | int k s =>
  cases s with
  | negSucc _ => simp at e
  | ofNat n =>
   simp only at e
   cases hk : (decide (k = .u64) && Nat.ble (Nat.succ n) 18446744073709551616) with
   | false => rw [hk] at e; cases e
   | true =>
    rw [hk] at e
    simp only [cond_true, Option.some.injEq] at e
    subst e
    simp only [Bool.and_eq_true, decide_eq_true_eq] at hk
    have hlt : n < 18446744073709551616 := Nat.le_of_ble_eq_true hk.2
    refine ⟨Zp _, ?_⟩
    intro h nx v h' nx' R W e r w args' ha hM hN
    cases ha with
    | cons ha1 ha2 =>
     cases ha2
     have hb := ha1.int
     subst hb
     rw [hk.1]
     exact XC e hM hN (Zhm w n hlt)
 | _ => simp at e
theorem Kw : Z3 Zn Tryz.prog 64 (fun args => match args with
  | [a] => match a with
   | .string s => cond (Nat.ble s.size 100000) (some (Zo (Big.bnum s.data.toList))) none
   | _ => none
  | _ => none) := by
 intro args m e
 rcases args with _ | ⟨a, _ | ⟨c, l⟩⟩ <;> simp only [reduceCtorEq] at e
 cases a with
 | string s =>
  simp only at e
  cases hk : Nat.ble s.size 100000 with
  | false => rw [hk] at e; cases e
  | true =>
   rw [hk] at e
   simp only [cond_true, Option.some.injEq] at e
   subst e
   have hlt : s.size ≤ 100000 := Nat.le_of_ble_eq_true hk
   refine ⟨Zp _, ?_⟩
   intro h nx v h' nx' R W e r w args' ha hM hN
   cases ha with
   | cons ha1 ha2 =>
    cases ha2
    have hb := ha1.str
    subst hb
    exact XC e hM hN (Kt w s (by omega))
 | _ => simp at e
end
noncomputable def Zkc (k : Nat) : Nat → List UInt8 → List UInt8 :=
 Nat.rec (motive := fun _ => Nat → List UInt8 → List UInt8) (fun _ acc => acc) (fun _ ih u acc => cond (Nat.ble 10 u) (ih (Nat.div u 10) (UInt8.ofNat (48 + Nat.mod u 10) :: acc)) (UInt8.ofNat (48 + u) :: acc)) k
theorem ZeA : ∀ (k u : Nat) (acc : List UInt8), u < 10 ^ k → 1 ≤ k → Zkc k u acc = Lib.decDigits u ++ acc
 | 0, _, _, _, h => absurd h (by omega)
 | k + 1, u, acc, h, _ => by
  show cond (Nat.ble 10 u) (Zkc k (Nat.div u 10) (UInt8.ofNat (48 + Nat.mod u 10) :: acc)) (UInt8.ofNat (48 + u) :: acc) = _
  cases hb : Nat.ble 10 u with
  | false =>
   have h10 : u < 10 := by
    rcases Nat.lt_or_ge u 10 with h1 | h1
    ·exact h1
    ·rw [Nat.ble_eq_true_of_le h1] at hb; cases hb
   rw [Lib.decDigits_one h10]; rfl
  | true =>
   have h10 := Nat.le_of_ble_eq_true hb
   rw [cond_true]
   have hk : 1 ≤ k := by
    rcases Nat.eq_zero_or_pos k with h0 | h0
    ·subst h0; simp at h; omega
    ·exact h0
   have hd : u / 10 < 10 ^ k := by
    rw [Nat.pow_succ] at h
    exact Nat.div_lt_of_lt_mul (by rw [Nat.mul_comm]; exact h)
   show Zkc k (u / 10) (UInt8.ofNat (48 + u % 10) :: acc) = _
   rw [ZeA k (u / 10) _ hd hk, Big.dec_big (by omega : ¬ u < 10), List.append_assoc]
   rfl
noncomputable def Zkd (n : Nat) : List UInt8 := Zkc (Nat.succ (Nat.log2 n)) n []
theorem Zke (n : Nat) : Zkd n = Lib.decDigits n := by
 unfold Zkd
 have h : n < 2 ^ (Nat.log2 n + 1) := Nat.lt_log2_self
 rw [ZeA _ _ _ (Nat.lt_of_lt_of_le h (Nat.pow_le_pow_left (by omega) _)) (by omega), List.append_nil]
section
variable {h h' : Tr (Blk Nat)} {nx nx' : Nat} {R W : List Nat} {r : Ren} {w : World} {v : Value}
theorem ZfK {N M' : Nat} {f : FuncId} {args' : List Value} (e : (bind (Zo N) fun x => bind (Zo M') fun y => ret (.tuple ⟨[x, y]⟩) : M Nat Value) h nx = .ok v h' nx' R W) (hM : Mod Zn r h.get w) (hN : New r nx nx')
  (c : Calls Tryz.prog f ⟨args'⟩ w fun e w' => ∃ a b, e = .returned (.tuple ⟨[a, b]⟩) ∧ Zj w' a N ∧ Zj w' b M' ∧ Below w.heap.size w w') : ZbX f args' r w nx nx' W h'.get v := by
 obtain ⟨x, h0, nx0, R0, W0, R3, W3, e0, e3, rfl, rfl⟩ := Zc e
 obtain ⟨i, h1, nx1, R1, W1, R2, W2, e1, e2, rfl, rfl⟩ := Zc e0
 obtain ⟨rfl, rfl, rfl, rfl⟩ := Zh e2
 unfold fresh at e1
 cases e1
 obtain ⟨y, h4, nx4, R4, W4, R5, W5, e4, e5, rfl, rfl⟩ := Zc e3
 obtain ⟨rfl, rfl, rfl, rfl⟩ := Zh e5
 obtain ⟨j, h6, nx6, R6, W6, R7, W7, e6, e7, rfl, rfl⟩ := Zc e4
 obtain ⟨rfl, rfl, rfl, rfl⟩ := Zh e7
 unfold fresh at e6
 cases e6
 refine c.mono ?_
 rintro en w' ⟨a, b, rfl, ha, hb', hb⟩
 obtain ⟨r1, hX, hr⟩ := YF (S := Zn) (f := N) hM hb (hN.sub (Nat.le_refl _) (by omega)) ha (YS ha)
 have hN2 := New.after (hN.sub (lo' := nx) (hi' := nx + 1 + 1) (Nat.le_refl _) (by omega)) hX (by omega)
 obtain ⟨r2, hY, hs⟩ := YF (S := Zn) (f := M') hX.mod (Below.refl _ w') hN2 hb' (YS hb')
 refine ⟨.tuple ⟨[a, b]⟩, r2, rfl, .tuple (.cons (.opq (hY.le.val _ _ hr) (YS ha)) (.cons (.opq hs (YS hb')) .nil)), ?_⟩
 have hZ := hX.trans hY (by omega) (by omega)
 refine Ext.congr (by simpa using hZ) fun n => .inr ?_
 rw [Tr.get_set, Tr.get_set]
end
theorem Zht : Z3 Zn Tryz.prog 85 (fun args => one args fun n => ret (.string ⟨⟨Zkd n⟩⟩)) :=
 ZaJ (fun _ => Zg _) fun n h nx v h' nx' R W e r w a hn sn hM _ => X9 e rfl hM (by
  rw [Zke]
  exact Zhq w a n _ hn sn (by omega) (Zdh.tab hM.base))
theorem Zdo : Z3 Zn Tryz.prog 104 (fun args => two args fun n m => bind (Zo (Nat.div n m)) fun x => bind (Zo (Nat.mod n m)) fun y => ret (.tuple ⟨[x, y]⟩)) :=
 VL (fun _ _ => Zb (Zp _) fun _ => Zb (Zp _) fun _ => Zg _) fun n m h nx v h' nx' R W e r w a b hn hm sn sm hM hN => ZfK e hM hN (Zdg w a b n m _ hn hm sn (by omega))
end Ev
end Go.Proofs.YtnlhjcfpfapafaaGreatDoor
namespace Go.Proofs.YtnlhjcfpfapafaaGreatDoor
open Go.RowKit
set_option maxRecDepth 100000 in
set_option maxHeartbeats 2000000 in
theorem Zhu (w : World) (b : Bool) (v u : Value) (n d k j : Nat) (h : Zj w v n) (i : Zj w u d) (hn : Sz k n) (hm : Sz j d) (hk : k ≤ 100000000) (hj : j ≤ 100000000) (hd : 1 ≤ d) :
  Calls Tryz.prog 42 #[.bool b, v, u] w (Zn1 w (mkRat (Big.sI b n) d)) := by
 obtain ⟨p1, p2, p3⟩ := Big.of_parts b n d hd
 have HP := Lib.hid (And.intro p1 (And.intro p2 p3))
 have HV := Lib.hid h; have HU := Lib.hid i; have HN := Lib.hid hn; have HM := Lib.hid hm
 obtain ⟨A, l, c, rfl, hl⟩ := h.is_slice
 obtain ⟨A2, l2, c2, rfl, hl2⟩ := i.is_slice
 have t1 : ((l2 : Int) == 0) = false := beq_eq_false_iff_ne.2 (by omega)
 clear p1 p2 p3 h i hn hm hl hl2 hd
 generalize mkRat (Big.sI b n) d = q at *
 go_enter Tryz.func42, Tryz.ntmps42
 go_wp2_with fail
 have HB0 := Lib.hid ((Below.refl w.heap.size w).alloc (Nat.le_refl _) (.cells #[.bool false, .slice none 0 0, .slice none 0 0] 60))
 have HR := Lib.hid (At3.new w 60 (.bool false) (.slice none 0 0) (.slice none 0 0))
 generalize w.alloc (.cells #[.bool false, .slice none 0 0, .slice none 0 0] 60) = w0 at *
 refine (Zex w0 _ _ n d k j (HV.out.keep HB0.out) (HU.out.keep HB0.out) HN.out HM.out hk hj).mono ?_
 rintro e w1 ⟨v1, rfl, hv1, hb1⟩
 have HV1 := Lib.hid hv1; have HB1 := Lib.hid (HB0.out.trans (hb1.mono HB0.out.size)); have HR1 := Lib.hid (HR.out.keep hb1)
 clear hv1 hb1 HR
 go_wp2_with fail
 refine (ZaG w1 _ _ n _ k (HV.out.keep HB1.out) HV1.out HN.out hk).mono ?_
 rintro e w2 ⟨v2, rfl, hv2, hb2⟩
 have HV2 := Lib.hid hv2
 obtain ⟨A3, l3, c3, rfl, hl3⟩ := hv2.is_slice
 have HV1' := Lib.hid (HV1.out.keep hb2)
 have HB2 := Lib.hid (HB1.out.trans (hb2.mono HB1.out.size)); have HR2 := Lib.hid (HR1.out.keep hb2)
 have HL3 := Lib.hid hl3
 clear hv2 hb2 HR1 hl3
 have g0 : n / Nat.gcd n d = 0 ↔ l3 = 0 := HL3.out.symm
 have CQ := Lib.hid (ZaG w2 _ _ d _ j (HU.out.keep HB2.out) HV1'.out HM.out hj)
 have HBR := Lib.hid (show UX w2 w.heap.size 60 from HR2.out)
 have f0 := fun W (hW : Below w2.heap.size w2 W) => (HR2.out.keep hW).frozen 0
 have done : ∀ (bb : Bool) (W : World) (v4 : Value), bb = (b && decide (0 < n / Nat.gcd n d)) → Below w2.heap.size w2 W → Zj W v4 (d / Nat.gcd n d) →
   At3 (((W.setCell ⟨w.heap.size, 0, none⟩ (.bool bb)).setCell ⟨w.heap.size, 1, none⟩ (.slice A3 l3 c3)).setCell ⟨w.heap.size, 2, none⟩ v4) w.heap.size 60 (.bool bb) (.slice A3 l3 c3) v4 ∧
   Zn1 w q (.returned (.agg #[.bool bb, .slice A3 l3 c3, v4])) (((W.setCell ⟨w.heap.size, 0, none⟩ (.bool bb)).setCell ⟨w.heap.size, 1, none⟩ (.slice A3 l3 c3)).setCell ⟨w.heap.size, 2, none⟩ v4) := by
  intro bb W v4 e hW hv4
  have h1 := HV2.out.keep hW
  rw [← HP.out.2.1] at h1
  rw [← HP.out.2.2] at hv4
  have D := Zhp (show UX W w.heap.size _ from HR2.out.keep hW) (HB2.out.trans (hW.mono HB2.out.size)) (Nat.le_refl _) h1 hv4 (e.trans HP.out.1.symm)
  exact ⟨D.1, _, rfl, D.2⟩
 have DONE := Lib.hid done
 clear done f0
 have t2 : 0 < n / Nat.gcd n d ↔ 0 < l3 := by rw [Nat.pos_iff_ne_zero, Nat.pos_iff_ne_zero, Ne, Ne, g0]
 have t3 : (b && decide (0 < n / Nat.gcd n d)) = (b && decide (0 < l3)) := by rw [decide_eq_decide.2 t2]
 rw [t3] at DONE
 clear g0 t2 t3 HP HL3 HV HU HN HM HV1' HV2 HV1
 rcases Nat.eq_zero_or_pos l3 with hl0 | hl0
 ·subst hl0
  rw [decide_eq_false (by omega)] at DONE
  cases b
  all_goals
   go_wp2_with fail
   refine CQ.out.mono ?_
   rintro e w3 ⟨v4, rfl, hv4, hb3⟩
   obtain ⟨A4, l4, c4, rfl, hl4⟩ := hv4.is_slice
   obtain ⟨D1, D2⟩ := DONE.out false w3 _ rfl hb3 hv4
   have R3 := HR2.out.keep hb3
   have k0 := R3.c0; have k1 := R3.c1; have k2 := R3.c2; have f0 := R3.frozen 0; have f1 := R3.frozen 1; have f2 := R3.frozen 2
   have HD1 := Lib.hid D1; have HD2 := Lib.hid D2
   clear D1 D2 R3 hv4 hb3 hl4
   go_wp2_with fail
   generalize (((w3.setCell ⟨w.heap.size, 0, none⟩ (.bool false)).setCell ⟨w.heap.size, 1, none⟩ (.slice A3 0 c3)).setCell ⟨w.heap.size, 2, none⟩ (.slice A4 l4 c4)) = wz at HD1 HD2 ⊢
   have r0 := HD1.out.c0; have r1 := HD1.out.c1; have r2 := HD1.out.c2
   exact bodyPost_ret (v := .agg #[.bool false, .slice A3 0 c3, .slice A4 l4 c4]) (by simp [results, Tryz.results42, go_sem, r0, r1, r2]) rfl HD2.out
 ·have t4 : ((l3 : Int) > 0) := by omega
  rw [decide_eq_true (by omega)] at DONE
  cases b
  ·go_wp2_with fail
   refine CQ.out.mono ?_
   rintro e w3 ⟨v4, rfl, hv4, hb3⟩
   obtain ⟨A4, l4, c4, rfl, hl4⟩ := hv4.is_slice
   obtain ⟨D1, D2⟩ := DONE.out false w3 _ rfl hb3 hv4
   have R3 := HR2.out.keep hb3
   have k0 := R3.c0; have k1 := R3.c1; have k2 := R3.c2; have f0 := R3.frozen 0; have f1 := R3.frozen 1; have f2 := R3.frozen 2
   have HD1 := Lib.hid D1; have HD2 := Lib.hid D2
   clear D1 D2 R3 hv4 hb3 hl4
   go_wp2_with fail
   generalize (((w3.setCell ⟨w.heap.size, 0, none⟩ (.bool false)).setCell ⟨w.heap.size, 1, none⟩ (.slice A3 l3 c3)).setCell ⟨w.heap.size, 2, none⟩ (.slice A4 l4 c4)) = wz at HD1 HD2 ⊢
   have r0 := HD1.out.c0; have r1 := HD1.out.c1; have r2 := HD1.out.c2
   exact bodyPost_ret (v := .agg #[.bool false, .slice A3 l3 c3, .slice A4 l4 c4]) (by simp [results, Tryz.results42, go_sem, r0, r1, r2]) rfl HD2.out
  ·go_wp2_with fail
   refine CQ.out.mono ?_
   rintro e w3 ⟨v4, rfl, hv4, hb3⟩
   obtain ⟨A4, l4, c4, rfl, hl4⟩ := hv4.is_slice
   obtain ⟨D1, D2⟩ := DONE.out true w3 _ rfl hb3 hv4
   have R3 := HR2.out.keep hb3
   have k0 := R3.c0; have k1 := R3.c1; have k2 := R3.c2; have f0 := R3.frozen 0; have f1 := R3.frozen 1; have f2 := R3.frozen 2
   have HD1 := Lib.hid D1; have HD2 := Lib.hid D2
   clear D1 D2 R3 hv4 hb3 hl4
   go_wp2_with fail
   generalize (((w3.setCell ⟨w.heap.size, 0, none⟩ (.bool true)).setCell ⟨w.heap.size, 1, none⟩ (.slice A3 l3 c3)).setCell ⟨w.heap.size, 2, none⟩ (.slice A4 l4 c4)) = wz at HD1 HD2 ⊢
   have r0 := HD1.out.c0; have r1 := HD1.out.c1; have r2 := HD1.out.c2
   exact bodyPost_ret (v := .agg #[.bool true, .slice A3 l3 c3, .slice A4 l4 c4]) (by simp [results, Tryz.results42, go_sem, r0, r1, r2]) rfl HD2.out
end Go.Proofs.YtnlhjcfpfapafaaGreatDoor
namespace Go.Proofs.YtnlhjcfpfapafaaGreatDoor
open Go Go.RowKit
namespace Ev
structure T3x where
 s : Bool
 n : Nat
 d : Nat
def T3x.q (t : T3x) : Rat := mkRat (Big.sI t.s t.n) t.d
noncomputable def T3x.good (t : T3x) : Bool := Nat.ble 1 t.d && (Nat.beq (Nat.gcd t.n t.d) 1 && ((!t.s || Nat.ble 1 t.n) && (small t.n && small t.d)))
section
variable {h h' : Tr (Blk Nat)} {nx nx' : Nat} {R W : List Nat} {r : Ren} {w : World} {v v' : Value}
end
noncomputable def JC (l : List Value) : Option (List ByteArray) := List.rec (motive := fun _ => Option (List ByteArray)) (some []) (fun v _ ih => match v with
 | .string s => match ih with
  | some l => some (s :: l)
  | none => none
 | _ => none) l
theorem KV : ∀ {l : List Value} {xs : List ByteArray}, JC l = some xs → l = xs.map .string
 | [], xs, h => by cases (show some [] = some xs from h); rfl
 | v :: l, xs, h => by
  cases v with
  | string s =>
   have h' : (match JC l with | some l => some (s :: l) | none => none) = some xs := h
   cases hl : JC l with
   | none => rw [hl] at h'; cases h'
   | some ys =>
    rw [hl] at h'
    cases h'
    rw [KV hl]; rfl
  | _ => exact absurd (show (none : Option (List ByteArray)) = some xs from h) (by simp)
theorem KW {r : Ren} : ∀ {xs : List ByteArray} {l : List Value}, VsR r (xs.map .string) l → l = xs.map .string
 | [], _, h => by cases h; rfl
 | x :: xs, _, h => by
  cases h with
  | cons a b => rw [a.str, KW b]; rfl
noncomputable def Zhv (c : Nat) : Nat := cond (Nat.ble ZH c) (Nat.mod c ZH) c
theorem Zhw {r : Ren} {b off l c : Nat} {v' : Value} (h : VR r (Z5 b off l c) v') : ∃ b' c', r.blk b = some b' ∧ v' = Z5 b' off l c' ∧ Zhv c ≤ c' := by
 obtain ⟨b', c', hb, hv, hc⟩ := WL h
 refine ⟨b', c', hb, hv, ?_⟩
 unfold Zhv
 rcases hc with ⟨hlt, rfl⟩ | ⟨s, c0, rfl, hc0, hle, _⟩
 ·have hb0 : Nat.ble ZH c' = false := by
   cases hq : Nat.ble ZH c' with
   | false => rfl
   | true => have := Nat.le_of_ble_eq_true hq; omega
  rw [hb0]; exact Nat.le_refl _
 ·have hmod : Nat.mod (ZH * (s + 1) + c0) ZH = c0 := by
   show (ZH * (s + 1) + c0) % ZH = c0
   unfold ZH at hc0 ⊢; omega
  have hb0 : Nat.ble ZH (ZH * (s + 1) + c0) = true := Nat.ble_eq_true_of_le (by unfold ZH; omega)
  rw [hb0, hmod]; exact hle
noncomputable def Zdp (xs : List ByteArray) (sep : ByteArray) : List UInt8 := Lib.join (xs.map (·.data.toList)) sep.data.toList
noncomputable def ZlU (xs : List ByteArray) (n c : Nat) (sep : ByteArray) : M Nat Value := cond (Nat.ble n (Zhv c) && Nat.ble n 100000 && Nat.ble (Zdp xs sep).length 100000) (ret (.string ⟨(Zdp xs sep).toArray⟩)) fail
noncomputable def Zhx (args : List Value) : Option (M Nat Value) := match args with
 | [v, s] => match s with
  | .string sep => match Yt v with
   | some y => match y.1 with
    | some a => some (bind (Zfy a.1 a.2 y.2.1) fun l => match JC l with
     | some xs => ZlU xs y.2.1 y.2.2 sep
     | none => fail)
    | none => none
   | none => none
  | _ => none
 | _ => none
theorem Zhy : Z3 Zn Tryz.prog 49 Zhx := by
 intro args m e
 unfold Zhx at e
 rcases args with _ | ⟨v, _ | ⟨s, _ | ⟨z, l⟩⟩⟩ <;> simp only [reduceCtorEq] at e
 cases s <;> simp only [reduceCtorEq] at e
 rename_i sep
 cases hs : Yt v with
 | none => rw [hs] at e; cases e
 | some y =>
 obtain ⟨base, n, c⟩ := y
 rw [hs] at e
 simp only at e
 cases base with
 | none => cases e
 | some a =>
 obtain ⟨b, off⟩ := a
 cases e
 refine ⟨Zb (ZbJ _ _ _) fun l => by
  split
  ·exact Ze (Zg _) Za
  ·exact Za, ?_⟩
 intro h nx u h' nx' R W e r w args' hargs hM hN
 cases hargs with
 | cons h1 h2 => cases h2 with
  | cons h2 h3 =>
   cases h3
   obtain rfl := h2.str
   have hvs : v = Z5 b off n c := Wo hs
   subst hvs
   obtain ⟨b', c', hb, rfl, hc⟩ := Zhw h1
   obtain ⟨l, g1, nx1, R1, W1, R2, W2, e1, e2, rfl, rfl⟩ := Zc e
   obtain ⟨rfl, rfl, rfl, hl, l', q1, _, q3⟩ := Zer e1 hM hb
   cases hx : JC l with
   | none => rw [hx] at e2; simp [fail] at e2
   | some xs =>
    rw [hx] at e2
    simp only at e2
    obtain rfl := KV hx
    obtain rfl := KW q1
    unfold ZlU at e2
    obtain ⟨hk, e3⟩ := Zi e2
    simp only [Bool.and_eq_true] at hk
    obtain ⟨⟨k1, k2⟩, k3⟩ := hk
    have k1 := Nat.le_of_ble_eq_true k1
    have k2 := Nat.le_of_ble_eq_true k2
    have k3 := Nat.le_of_ble_eq_true k3
    have hn : xs.length = n := by simpa using hl
    subst hn
    have hcall := Tryz.strings_Join b' off c' xs sep w (fun j x hj => q3 j _ (by rw [List.getElem?_map, hj]; rfl)) (hM.lt _ _ hb) (by omega) (by omega) (by unfold Zdp at k3; omega)
    simpa [ZbX, Z5] using X9 e3 rfl hM hcall
section
variable {F : Type} {S : Sig F} {P : Program}
noncomputable def Ue (k : Nat) (l : List Nat) : Bool := List.rec (motive := fun _ => Bool) true (fun n _ ih => Bool.rec (motive := fun _ => Bool) false ih (Nat.ble k n)) l
theorem WP {k : Nat} : ∀ {l : List Nat}, Ue k l = true → ∀ n ∈ l, k ≤ n
 | [], _, n, hn => by simp at hn
 | m :: l, h, n, hn => by
  have h' : (Bool.rec (motive := fun _ => Bool) false (Ue k l) (Nat.ble k m) : Bool) = true := h
  cases hb : Nat.ble k m with
  | false => rw [hb] at h'; cases h'
  | true =>
   rw [hb] at h'
   rcases List.mem_cons.1 hn with rfl | hn
   ·exact Nat.le_of_ble_eq_true hb
   ·exact WP h' n hn
noncomputable def WQ (l : List Value) : Bool := ZV Zx l
theorem UZ {r : Ren} : ∀ {l : List Value}, WQ l = true → VsR r l l
 | [], _ => .nil
 | v :: l, h => by
  have h' : (Zx v && WQ l) = true := h
  simp only [Bool.and_eq_true] at h'
  exact .cons (VR.same2 h'.1) (UZ h'.2)
theorem Zhz {r : Ren} : ∀ {l l' : List Value}, WQ l = true → VsR r l l' → l' = l
 | [], _, _, h => by cases h; rfl
 | v :: l, _, hp, h => by
  have h' : (Zx v && WQ l) = true := hp
  simp only [Bool.and_eq_true] at h'
  cases h with
  | cons a b => rw [a.eq_of_plain2 h'.1, Zhz h'.2 b]
noncomputable def Wv (v : Value) : Bool := match v with
 | .tuple cs => WQ cs.toList
 | v => Zx v
theorem Zn2 {r : Ren} {v : Value} (h : Wv v = true) : VR r v v := by
 cases v with
 | tuple cs => cases cs; exact .tuple (UZ (by simpa [Wv] using h))
 | _ => exact VR.same2 h
theorem ZaK {r : Ren} {v v' : Value} (h : VR r v v') (hp : Wv v = true) : v' = v := by
 cases h with
 | tuple a => rw [Zhz (by simpa [Wv] using hp) a]
 | same p => rfl
 | ptr p => exact (VR.ptr p).eq_of_plain2 hp
 | slice p hc => exact (VR.slice p hc).eq_of_plain2 hp
 | slicex p hc h1 h2 => exact (VR.slicex p hc h1 h2).eq_of_plain2 hp
 | agg a => exact (VR.agg a).eq_of_plain2 hp
 | opq p o => exact (VR.opq p o).eq_of_plain2 hp
 | any p => exact (VR.any p).eq_of_plain2 hp
 | func a b => exact (VR.func a b).eq_of_plain2 hp
 | iface a => exact (VR.iface a).eq_of_plain2 hp
noncomputable def ZeB (nx : Nat) (m : M F Value) : Option Value := match m .nil nx with
 | .no => none
 | .ok a _ _ _ W => cond (Wv a && Ue nx W) (some a) none
theorem ZhA {nx : Nat} {m : M F Value} {v : Value} (e : ZeB nx m = some v) : ∃ h' nx' R W, m .nil nx = .ok v h' nx' R W ∧ Wv v = true ∧ ∀ n ∈ W, nx ≤ n := by
 unfold ZeB at e
 cases hm : m .nil nx with
 | no => rw [hm] at e; cases e
 | ok a h' nx' R W =>
  rw [hm] at e
  simp only at e
  cases hc : (Wv a && Ue nx W) with
  | false => rw [hc] at e; cases e
  | true =>
   rw [hc] at e
   simp only [cond_true, Option.some.injEq] at e
   subst e
   simp only [Bool.and_eq_true] at hc
   exact ⟨h', nx', R, W, rfl, hc.1, WP hc.2⟩
noncomputable def JD (G : Nat) : Ren := ⟨fun n => if n < G then some n else none, fun _ => none, fun _ => 0⟩
theorem Zkf {w : World} (hG : S.G ≤ w.heap.size) (hb : S.base w) (hlo : S.lo ≤ w.heap.size := by exact Nat.zero_le _) : Mod S (JD S.G) (fun _ => none) w := by
 refine ⟨fun n m b h1 h2 => ?_, fun n b h => ?_, fun n c t h => (by cases h), fun n f h => (by cases h), hb, fun n hn => if_pos hn, fun n b h hn => ?_, fun n c t h => (by cases h), hlo, fun n s h => (by cases h), fun n f h => (by cases h), fun n m x h => (by cases h)⟩
 ·unfold JD at h1 h2
  simp only at h1 h2
  split at h1 <;> split at h2 <;> first | (cases h1; cases h2; exact .inl rfl) | (cases h1; done) | (cases h2; done)
 ·unfold JD at h
  simp only at h
  split at h
  ·cases h; omega
  ·cases h
 ·rw [show (JD S.G).blk n = none from if_neg (by omega)] at h; cases h
theorem ZbY {C : Cfg F} [HardLoc C] {sum : WE F} {n nx : Nat} {f : FuncId} {args : List Value} {v : Value} (hF : Fits S P C) (hs : SumOK S P sum) (e : ZeB nx (call P C sum n f args) = some v) (ha : WQ args = true) (hx : S.G ≤ nx) {w : World} (hG : S.G ≤ w.heap.size) (hb : S.base w) (hlo : S.lo ≤ w.heap.size := by exact Nat.zero_le _) (hJ : JmpAll S P C := by exact .none rfl) :
  Calls P f ⟨args⟩ w fun e w' => e = .returned v ∧ Below w.heap.size w w' := by
 obtain ⟨h', nx', R, W, hm, hp, hW⟩ := ZhA e
 have hc := Zay hF hs n hJ
 have hfr : Fr (.nil : Tr (Blk F)) nx := fun k _ => Tr.get_nil k
 have hrun := Run.self (hc.loc f args) hm hfr
 have hN : New (JD S.G) nx nx' := fun k h1 h2 => ⟨if_neg (by omega), rfl⟩
 have hg : (Tr.get (.nil : Tr (Blk F))) = fun _ => none := funext fun k => Tr.get_nil k
 refine (hc.run f args _ _ _ _ _ _ _ hrun (JD S.G) w args (UZ ha) (by rw [hg]; exact Zkf hG hb hlo) hN).mono ?_
 rintro en w' ⟨v', r', rfl, hv, hX⟩
 have hv' := ZaK hv hp
 subst hv'
 refine ⟨rfl, hX.os, hX.tape, hX.output, hX.size, fun b hb' => ?_⟩
 have hbo : w.heap[b]? = some w.heap[b] := Array.getElem?_eq_getElem hb'
 rw [hbo]
 exact hX.keep b _ hbo fun k hk => by
  have := hW k hk
  show ¬ (if k < S.G then some k else none) = some b
  rw [if_neg (by omega)]
  simp
end
noncomputable def ZaL : List (Nat × (List Value → Option (M Nat Value))) := [
 (122, fun args => two args fun n m => Zo (Nat.add n m)),
 (123, fun args => two args fun n m => Zo (Nat.sub n m)),
 (94, fun args => two args fun n m => Zo (Nat.mul n m)),
 (81, fun args => two args fun n m => Zo (Nat.div n m)),
 (65, fun args => two args fun n m => Zo (Nat.gcd n m)),
 (104, fun args => two args fun n m => bind (Zo (Nat.div n m)) fun x => bind (Zo (Nat.mod n m)) fun y => ret (.tuple ⟨[x, y]⟩)),
 (101, fun args => two args fun n m => ret (.int .i64 (Big.cmpI n m))),
 (66, fun args => one args fun n => ret (.bool (decide (n = 1)))),
 (146, fun args => one args fun n => ret (.int .i64 ((szN n : Nat) : Int))),
 (115, fun args => one args fun n => ret (.string (bst n))),
 (85, fun args => one args fun n => ret (.string ⟨⟨Zkd n⟩⟩)),
 (49, Zhx),
 (79, fun args => match args with
  | [a] => match a with
   | .int k s => match s with
    | .ofNat n => cond (decide (k = .u64) && Nat.ble (Nat.succ n) 18446744073709551616) (some (Zo n)) none
    | _ => none
   | _ => none
  | _ => none),
 (64, fun args => match args with
  | [a] => match a with
   | .string s => cond (Nat.ble s.size 100000) (some (Zo (Big.bnum s.data.toList))) none
   | _ => none
  | _ => none)]
theorem Zdq : ∀ x ∈ ZaL, Z3 Zn Tryz.prog x.1 x.2 := by
 unfold ZaL
 intro x hx
 simp only [List.mem_cons, List.not_mem_nil, or_false] at hx
 rcases hx with rfl | rfl | rfl | rfl | rfl | rfl | rfl | rfl | rfl | hx
 ·exact Zj6
 ·exact Zj7
 ·exact Zj8
 ·exact Zj9
 ·exact Zka
 ·exact Zdo
 ·exact Zkb
 ·exact ZfI
 ·exact Zhs
 rcases hx with rfl | hx
 ·exact ZfJ
 rcases hx with rfl | hx
 ·exact Zht
 rcases hx with rfl | hx
 ·exact Zhy
 rcases hx with rfl | rfl
 ·exact Zmv
 ·exact Kw
noncomputable def ZaM : WE Nat := Xi (Xj ZaL)
theorem Zdr : SumOK Zn Tryz.prog ZaM := YO Zdq
noncomputable def Zn3 (n : Nat) (f : FuncId) (args : List Value) : Option Value := ZeB 100000 (call Tryz.prog Yy ZaM n f args)
theorem YT : Tryz.prog.globals.size ≤ 100000 := by
 have h : Nat.ble Tryz.prog.globals.size 100000 = true := by kernel_rfl
 exact Nat.le_of_ble_eq_true h
theorem Zds {n : Nat} {f : FuncId} {args : List Value} {v : Value} (e : Zn3 n f args = some v) (ha : WQ args = true) {w : World} (hG : Tryz.prog.globals.size ≤ w.heap.size) (hb : Zdh w) :
  Calls Tryz.prog f ⟨args⟩ w fun e w' => e = .returned v ∧ Below w.heap.size w w' :=
 ZbY Y7 Zdr e ha YT hG hb
noncomputable def eqL {α : Type} (f : α → α → Bool) (l : List α) : List α → Bool := List.rec (motive := fun _ => List α → Bool)
 (fun m => match m with | [] => true | _ :: _ => false) (fun a _ ih m => match m with | [] => false | b :: m => f a b && ih m) l
theorem U0 {α : Type} {f : α → α → Bool} (hf : ∀ a b, f a b = true → a = b) : ∀ {l m : List α}, eqL f l m = true → l = m
 | [], [], _ => rfl
 | [], _ :: _, h => by exact absurd (show false = true from h) (by simp)
 | _ :: _, [], h => by exact absurd (show false = true from h) (by simp)
 | a :: l, b :: m, h => by
  have h' : (f a b && eqL f l m) = true := h
  simp only [Bool.and_eq_true] at h'
  rw [hf _ _ h'.1, U0 hf h'.2]
noncomputable def eqC (a b : UInt8) : Bool := Nat.beq a.toNat b.toNat
theorem ZhB (a b : UInt8) (h : eqC a b = true) : a = b := UInt8.toNat_inj.1 (Nat.eq_of_beq_eq_true h)
noncomputable def eqS (s t : ByteArray) : Bool := eqL eqC s.data.toList t.data.toList
theorem Zmw {s t : ByteArray} (h : eqS s t = true) : s = t := by
 obtain ⟨⟨l⟩⟩ := s
 obtain ⟨⟨m⟩⟩ := t
 have : l = m := U0 ZhB h
 rw [this]
noncomputable def eq1 (v w : Value) : Bool := match v with
 | .bool a => match w with | .bool b => decide (a = b) | _ => false
 | .int k a => match w with | .int l b => decide (k = l) && decide (a = b) | _ => false
 | .float k a => match w with | .float l b => decide (k = l) && Nat.beq a b | _ => false
 | .complex k a b => match w with | .complex l c d => decide (k = l) && (Nat.beq a c && Nat.beq b d) | _ => false
 | .string s => match w with | .string t => eqS s t | _ => false
 | _ => false
theorem Zdt (v w : Value) (h : eq1 v w = true) : v = w := by
 unfold eq1 at h
 cases v <;> simp only [Bool.false_eq_true] at h <;> cases w <;> simp only [Bool.false_eq_true, Bool.and_eq_true, decide_eq_true_eq] at h
 ·rw [h]
 ·rw [h.1, h.2]
 ·rw [h.1, Nat.eq_of_beq_eq_true h.2]
 ·rw [h.1, Nat.eq_of_beq_eq_true h.2.1, Nat.eq_of_beq_eq_true h.2.2]
 ·rw [Zmw h]
noncomputable def eqV (v w : Value) : Bool := match v with
 | .agg a => match w with | .agg b => eqL eq1 a.toList b.toList | _ => false
 | _ => eq1 v w
theorem Zmx (v w : Value) (h : eqV v w = true) : v = w := by
 unfold eqV at h
 cases v <;> try exact Zdt _ _ h
 cases w <;> simp only [Bool.false_eq_true] at h
 rename_i a b
 obtain ⟨l⟩ := a
 obtain ⟨m⟩ := b
 have : l = m := U0 Zdt h
 rw [this]
structure Fact where
 f : FuncId
 args : List Value
 v : Value
def Fact.ok (x : Fact) : Prop := WQ x.args = true ∧ Wv x.v = true ∧ ∀ w : World, Tryz.prog.globals.size ≤ w.heap.size → Zdh w → Calls Tryz.prog x.f ⟨x.args⟩ w fun e w' => e = .returned x.v ∧ Below w.heap.size w w'
noncomputable def ZoM (f : FuncId) (args : List Value) (l : List Fact) : Option Value := List.rec (motive := fun _ => Option Value) none
 (fun x _ ih => Bool.rec (motive := fun _ => Option Value) ih (Bool.rec (motive := fun _ => Option Value) ih (some x.v) (eqL eqV x.args args)) (Nat.beq x.f f)) l
noncomputable def Zo3 (l : List Fact) : WE Nat := fun f args => match ZoM f args l with
 | some v => some (ret v)
 | none => ZaM f args
end Ev
end Go.Proofs.YtnlhjcfpfapafaaGreatDoor
namespace Go.Proofs.YtnlhjcfpfapafaaGreatDoor
namespace R
structure Tru (A B a b p q r s : Nat) (t : Bool) : Prop where
 an : t = false → p * A = q * B + a
 bn : t = false → s * B = r * A + b
 at_ : t = true → q * B = p * A + a
 bt : t = true → r * A = s * B + b
 ha : A = s * a + q * b
 hb : B = r * a + p * b
 le : b ≤ a
theorem Tru.start {A B : Nat} (h : B ≤ A) : Tru A B A B 1 0 0 1 false :=
 ⟨fun _ => by omega, fun _ => by omega, fun h => (by cases h), fun h => (by cases h), by omega, by omega, h⟩
theorem Tru.step {A B a b p q r s k m : Nat} {t : Bool} (h : Tru A B a b p q r s t) (hd : a = k * b + m) (hm : m < b) : Tru A B b m r s (p + k * r) (q + k * s) (!t) := by
 obtain ⟨an, bn, at_, bt, ha, hb, le⟩ := h
 refine ⟨?_, ?_, ?_, ?_, by subst hd; grind, by subst hd; grind, Nat.le_of_lt hm⟩
 ·intro ht
  have := bt (by cases t <;> first | rfl | cases ht)
  grind
 ·intro ht
  have h1 := at_ (by cases t <;> first | rfl | cases ht)
  have h2 := bt (by cases t <;> first | rfl | cases ht)
  grind
 ·intro ht
  have := bn (by cases t <;> first | rfl | cases ht)
  grind
 ·intro ht
  have h1 := an (by cases t <;> first | rfl | cases ht)
  have h2 := bn (by cases t <;> first | rfl | cases ht)
  grind
theorem Tru.made {A B a b p q r s : Nat} {t : Bool} (h : Tru A B a b p q r s t) (hl : b < a) : Big.Made A B a b p q r s t :=
 ⟨h.an, h.bn, h.at_, h.bt, h.ha, h.hb, hl⟩
structure LI (A B x0 y0 K α β x y p q r s : Nat) (t : Bool) (a b : Nat) : Prop where
 L : Big.Lehm x0 y0 x y p q r s t
 T : Tru A B a b p q r s t
 k1 : t = false → q ≤ x ∧ r ≤ y
 k2 : t = true → p ≤ x ∧ s ≤ y
 xp : 1 ≤ x
 px : p ≤ x0
 qx : q ≤ x0
 rx : r ≤ x0
 sx : s ≤ x0
 hd : q = 0 ∧ p = 1 ∧ t = false ∨ 1 ≤ q ∧ 1 ≤ r ∧ b < a
theorem LI.start {A B x0 y0 K α β : Nat} (h : B ≤ A) (hx : 1 ≤ x0) : LI A B x0 y0 K α β x0 y0 1 0 0 1 false A B :=
 ⟨Big.Lehm.start x0 y0, Tru.start h, fun _ => ⟨by omega, by omega⟩, fun h => (by cases h), hx, hx, by omega, by omega, hx, .inl ⟨rfl, rfl, rfl⟩⟩
section
variable {A B x0 y0 K α β x y p q r s a b k : Nat} {t : Bool}
theorem LI.low (h : LI A B x0 y0 K α β x y p q r s false a b) (hA : A = x0 * K + α) (hB : B = y0 * K + β) : a + q * β = x * K + p * α ∧ b + r * α = y * K + s * β := by
 have f1 : p * x0 = q * y0 + x := by
  have d := h.L.dn rfl
  have hx := h.L.hx
  have hy := h.L.hy
  subst hx; subst hy; grind
 have f2 : s * y0 = r * x0 + y := by
  have d := h.L.dn rfl
  have hx := h.L.hx
  have hy := h.L.hy
  subst hx; subst hy; grind
 have g1 := h.T.an rfl
 have g2 := h.T.bn rfl
 rw [hA, hB] at g1 g2
 constructor <;> grind
theorem LI.high (h : LI A B x0 y0 K α β x y p q r s true a b) (hA : A = x0 * K + α) (hB : B = y0 * K + β) : a + p * α = x * K + q * β ∧ b + s * β = y * K + r * α := by
 have f1 : q * y0 = p * x0 + x := by
  have d := h.L.dt rfl
  have hx := h.L.hx
  have hy := h.L.hy
  subst hx; subst hy; grind
 have f2 : r * x0 = s * y0 + y := by
  have d := h.L.dt rfl
  have hx := h.L.hx
  have hy := h.L.hy
  subst hx; subst hy; grind
 have g1 := h.T.at_ rfl
 have g2 := h.T.bt rfl
 rw [hA, hB] at g1 g2
 constructor <;> grind
theorem Qu {a b x y K P Q R S α β k : Nat} (h1 : a + Q * β = x * K + P * α) (h2 : b + R * α = y * K + S * β) (hα : α < K) (hβ : β < K) (hR : R ≤ y)
  (c1 : k * (y + S) + Q ≤ x) (c2 : x + P < (k + 1) * (y - R)) : k * b ≤ a ∧ a < (k + 1) * b := by
 have e1 : Q * β ≤ Q * K := Nat.mul_le_mul_left _ (Nat.le_of_lt hβ)
 have e2 : P * α ≤ P * K := Nat.mul_le_mul_left _ (Nat.le_of_lt hα)
 have e3 : R * α ≤ R * K := Nat.mul_le_mul_left _ (Nat.le_of_lt hα)
 have e4 : S * β ≤ S * K := Nat.mul_le_mul_left _ (Nat.le_of_lt hβ)
 have b1 : b ≤ (y + S) * K := by rw [Nat.add_mul]; omega
 have b2 : (y - R) * K ≤ b := by rw [Nat.sub_mul]; omega
 have a1 : a ≤ (x + P) * K := by rw [Nat.add_mul]; omega
 have a2 : x * K ≤ a + Q * K := by omega
 constructor
 ·have f1 : k * b ≤ k * ((y + S) * K) := Nat.mul_le_mul_left _ b1
  have f2 : (k * (y + S) + Q) * K ≤ x * K := Nat.mul_le_mul_right _ c1
  rw [Nat.add_mul, Nat.mul_assoc] at f2
  omega
 ·have f1 : (k + 1) * ((y - R) * K) ≤ (k + 1) * b := Nat.mul_le_mul_left _ b2
  have f2 : (x + P + 1) * K ≤ (k + 1) * (y - R) * K := Nat.mul_le_mul_right _ c2
  rw [Nat.mul_assoc, Nat.succ_mul] at f2
  omega
theorem LI.next (h : LI A B x0 y0 K α β x y p q r s t a b) (hA : A = x0 * K + α) (hB : B = y0 * K + β) (hα : α < K) (hβ : β < K)
  (c1 : t = false → r < y ∧ k * (y + s) + q ≤ x ∧ x + p < (k + 1) * (y - r)) (c2 : t = true → s < y ∧ k * (y + r) + p ≤ x ∧ x + q < (k + 1) * (y - s)) :
  k * r ≤ x0 ∧ k * s ≤ x0 ∧ k * y ≤ x ∧ LI A B x0 y0 K α β y (x - k * y) r s (p + k * r) (q + k * s) (!t) b (a - k * b) := by
 have hq : k * b ≤ a ∧ a < (k + 1) * b := by
  cases t with
  | false =>
   obtain ⟨l1, l2⟩ := h.low hA hB
   obtain ⟨d1, d2, d3⟩ := c1 rfl
   exact Qu l1 l2 hα hβ (Nat.le_of_lt d1) d2 d3
  | true =>
   obtain ⟨l1, l2⟩ := h.high hA hB
   obtain ⟨d1, d2, d3⟩ := c2 rfl
   exact Qu l1 l2 hβ hα (Nat.le_of_lt d1) d2 d3
 have hk : 1 ≤ k := by
  rcases Nat.eq_zero_or_pos k with e | e
  ·subst e; have := h.T.le; omega
  ·exact e
 have hy : 1 ≤ y := by
  cases t with
  | false => have := (c1 rfl).1; omega
  | true => have := (c2 rfl).1; omega
 have hkx : k * y ≤ x := by
  cases t with
  | false => have := (c1 rfl).2.1; rw [Nat.mul_add] at this; omega
  | true => have := (c2 rfl).2.1; rw [Nat.mul_add] at this; omega
 have hb : a - k * b < b := by have := hq.2; rw [Nat.succ_mul] at this; omega
 have L := h.L.step (Q := k) (m := x - k * y) (by omega) hk
 have S := L.small hy
 have hL1 := h.L.s1
 have hp : 1 ≤ p ∨ 1 ≤ r := by
  cases t with
  | false =>
   left
   rcases Nat.eq_zero_or_pos p with e | e
   ·have := h.L.dn rfl; subst e; simp at this
   ·exact e
  | true =>
   right
   rcases Nat.eq_zero_or_pos r with e | e
   ·have := h.L.dt rfl; subst e; simp at this
   ·exact e
 refine ⟨by omega, by omega, hkx, L, h.T.step (k := k) (m := a - k * b) (by omega) hb, ?_, ?_, hy, h.rx, h.sx, by omega, by omega, .inr ⟨hL1, ?_, hb⟩⟩
 ·intro ht
  cases t with
  | false => simp at ht
  | true =>
   have d := c2 rfl
   have e := d.2.1
   rw [Nat.mul_add] at e
   exact ⟨Nat.le_of_lt d.1, by omega⟩
 ·intro ht
  cases t with
  | true => simp at ht
  | false =>
   have d := c1 rfl
   have e := d.2.1
   rw [Nat.mul_add] at e
   exact ⟨Nat.le_of_lt d.1, by omega⟩
 ·rcases hp with e | e
  ·omega
  ·have := Nat.mul_le_mul hk e; omega
end
end R
end Go.Proofs.YtnlhjcfpfapafaaGreatDoor
