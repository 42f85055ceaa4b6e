/- Contracts. -/
import Derived.Test.YtnlhjcfpfapafaaGreatDoorPOq30
import Derived.Test.YtnlhjcfpfapafaaGreatDoorPOq31
import Derived.ChangeSlices
import Derived.Test.YtnlhjcfpfapafaaGreatDoorRows
import Derived.Test.YtnlhjcfpfapafaaGreatDoorChecked
import Derived.WalkKit
import Derived.ProofKit
import Derived.OpenShut
import Derived.ChangeSame
import Derived.ChangeVars
import Derived.JoinedOf
import Derived.Stop.Joined
import Derived.HandedShaped
import Derived.Test.YtnlhjcfpfapafaaGreatDoorPOq14
import Derived.LaidMore
import Derived.Lib.LaidTab
namespace Go.Proofs.YtnlhjcfpfapafaaGreatDoor
open Go Go.RowKit
namespace Ev
set_option maxRecDepth 100000
theorem int_fit {q : Rat} (h : q.den = 1) (h0 : -9223372036854775808 ≤ q.num) (h1 : q.num ≤ 9223372036854775807) : Fit q := by
 have hb : By 8 (ofQ q.num 1) := Zit (by omega) (by decide) (by decide)
 have := hb.fit (by omega)
 rwa [Ze0 h] at this
theorem ZnJ {ρ : Env} : Z3 (Zf ρ) Tryz.prog woS.1 woS.2 := by
 intro args k hm
 rcases args with _ | ⟨a, l⟩ <;> first | (cases (show none = some k from hm); done) | skip
 cases hm
 refine ⟨Zg _, fun h nx v h' nx' R W e r w args' hv hM hN => ?_⟩
 cases hv
 exact Xr (f := woF) e rfl hM (Zds Zd9 rfl hM.fits hM.base)
noncomputable def ZnK : List Ix := [.ln 0 1, .bd 6, .lt 0 33 6 0 true, .lt 0 0 6 0 true, .lt 6 (-1) 0 0 false, .lt 6 (-1) 1 0 true, .el 0 6 (-1) (.v 4)]
set_option maxHeartbeats 4000000 in
theorem Zlr : tells [.ls 2 0] [.one] (call Tryz.prog (Yo false (Ky true) ZnK ofJ) (Zbf (Ky true)) 20 ofF) = some (.one (.one (.p (.slice none 0 0)))) := by kernel_rfl
theorem ZcF (w : World) {qs : List Rat} (hq : ∀ q ∈ qs, Fit q) (hn : qs.length ≤ 10000) {m : Nat} (ht : TrimAt qs m) (h33 : 33 < m) {v : Value} (hv : LsIn 2 w v qs) (hG : Tryz.prog.globals.size ≤ w.heap.size) (hT : Zn.base w) :
  Calls Tryz.prog ofF ⟨[v]⟩ w fun e w' => e = .returned (.slice none 0 0) ∧ Below w.heap.size w w' := by
 have hm := ht.le
 have hu : Yz (Zf (Ys qs hq w.heap.size 0 0 m)) w [.ls 2 0] [v] := ⟨v, [], rfl, LsIn.ls hv rfl, by obtain ⟨a, m, rfl, _⟩ := hv; rfl, rfl⟩
 have hA : Yd (Ys qs hq w.heap.size 0 0 m) (Ky true) := fun x hx => by
  simp only [Ky, cond_true, List.mem_cons, List.not_mem_nil, or_false] at hx
  subst hx
  show false = true ↔ qs.getD (m - 1) 0 = 0
  exact ⟨fun h => (by cases h), fun h => absurd h (ht.last (by omega))⟩
 have hB : ZD (Ys qs hq w.heap.size 0 0 m) ZnK := fun x hx => by
  simp only [ZnK, List.mem_cons, List.not_mem_nil, or_false] at hx
  rcases hx with rfl | rfl | rfl | rfl | rfl | rfl | rfl
  ·rfl
  ·show m ≤ 10000
   omega
  ·show true = true ↔ ((0 : Nat) : Int) + 33 < ((m : Nat) : Int) + 0
   exact ⟨fun _ => by omega, fun _ => rfl⟩
  ·show true = true ↔ ((0 : Nat) : Int) + 0 < ((m : Nat) : Int) + 0
   exact ⟨fun _ => by omega, fun _ => rfl⟩
  ·show false = true ↔ ((m : Nat) : Int) + (-1) < ((0 : Nat) : Int) + 0
   exact ⟨fun h => (by cases h), fun h => by omega⟩
  ·show true = true ↔ ((m : Nat) : Int) + (-1) < ((qs.length : Nat) : Int) + 0
   exact ⟨fun _ => by omega, fun _ => rfl⟩
  ·refine ⟨m - 1, ?_, ?_⟩
   ·show ((m - 1 : Nat) : Int) = ((m : Nat) : Int) + (-1)
    omega
   ·show qs[m - 1]? = some (qs.getD (m - 1) 0)
    rw [List.getD_eq_getElem?_getD, List.getElem?_eq_getElem (by omega)]; rfl
 refine (Ya (YW hA hB) (Vq hA) Zlr rfl YT hu hG hT (Nat.le_refl _) (ZdS hq w.heap.size hn ht)).mono ?_
 rintro e w' ⟨v', rfl, h1, hb⟩
 have h1' : v' = .slice none 0 0 := h1
 exact ⟨by rw [h1'], hb⟩
noncomputable def poF : Nat := 3
noncomputable def gvK (g : Bool) (e : Nat) : M Sy Value := cond g (ret (.slice none 0 0)) (Zfb 0 e)
noncomputable def poB : List Ix := [.ln 0 1, .bi 2 1 0 0 60 6 0, .hd 0 6 0 5]
noncomputable def poT : Kz := [(5, 0, 9)]
noncomputable def ZoH : Kz := [(9, 9, 1)]
noncomputable def poL (g : Bool) : List (Nat × (List Value → Option (M Sy Value))) := (ofF, unA poB 2 poT (gvK g)) :: (roF, unA poB 2 poT (gvK g)) :: woS :: cond g [] [(s5F, biA poB 0 ZoH fun _ => ret (.bool true))]
noncomputable def ZoI (g : Bool) : Option (D3 Sy) := tells [.ls 2 0] [.one] (call Tryz.prog (Yo false [] poB noJ) (Xi (Xj (poL g))) 30 poF)
set_option maxHeartbeats 4000000 in
theorem ZnL (g : Bool) : ZoI g = some (.one (.one (.p (.bool true)))) := by cases g <;> kernel_rfl
theorem Zfd (g : Bool) (e : Nat) : Loc (gvK g e) := Ze (Zg _) (Zgx _ _)
def QG (ρ : Env) (g : Bool) (e : Nat) (w : World) (en : Ending) (w' : World) : Prop := e = 9 ∧ ∃ u, en = .returned u ∧ (g = false → NewOl 0 w w' u (ρ.lst 9)) ∧ (g = true → u = .slice none 0 0)
theorem Zjn {ρ : Env} {g : Bool} {f : FuncId} : ∀ e (args' : List Value) (h : Tr (Blk Sy)) nx v h' nx' R W r w, gvK g e h nx = .ok v h' nx' R W → Mod (Zf ρ) r h.get w → New r nx nx' → (Calls Tryz.prog f ⟨args'⟩ w fun en w' => QG ρ g e w en w' ∧ Below w.heap.size w w') →
  Calls Tryz.prog f ⟨args'⟩ w fun e w' => ∃ v' r', e = .returned v' ∧ VR r' v v' ∧ Ext (Zf ρ) r w nx nx' W h'.get r' w' := by
 intro e args' h nx v h' nx' R W r w he hM hN c
 cases g with
 | true =>
  refine Xr (show (ret (.slice none 0 0) : M Sy Value) h nx = _ from he) rfl hM (c.mono ?_)
  rintro en w' ⟨⟨_, u, rfl, _, q⟩, hb⟩
  exact ⟨by rw [q rfl], hb⟩
 | false =>
  by_cases h9 : e = 9
  ·subst h9
   refine Zjf (show Zfb 0 9 h nx = _ from he) hM hN (c.mono ?_)
   rintro en w' ⟨⟨_, u, rfl, q, _⟩, hb⟩
   exact ⟨⟨u, rfl, q rfl⟩, hb⟩
  ·exact c.mono fun en w' q => absurd q.1.1 h9
def ZnM (qs : List Rat) (m : Nat) : Nat → List Rat
 | 0 => qs
 | 5 => qs.take (min qs.length 60)
 | 9 => (qs.take (min qs.length 60)).take m
 | _ => []
def ZnN (n : Nat) : Nat → Nat
 | 1 => n
 | 6 => min n 60
 | _ => 0
def ZnO (qs : List Rat) (m lo : Nat) : Env := ⟨fun _ => 0, fun _ => (false, ⟨#[]⟩, ⟨#[]⟩), fun _ _ => Un, fun _ => Un.sm.up (by decide), fun _ => Wc, lo, ZnM qs m, ZnN qs.length, rfl⟩
theorem KB (w : World) {qs : List Rat} (hq : ∀ q ∈ qs, Fit q) {v : Value} (hv : LsIn 2 w v qs) (hG : Tryz.prog.globals.size ≤ w.heap.size) (hT : Zn.base w) :
  Calls Tryz.prog poF ⟨[v]⟩ w fun e w' => e = .returned (.bool true) ∧ Below w.heap.size w w' := by
 obtain ⟨m, ht⟩ := Zk6 (qs.take (min qs.length 60))
 have hlen : (qs.take (min qs.length 60)).length ≤ 60 := by rw [List.length_take]; omega
 have hq' : ∀ q ∈ qs.take (min qs.length 60), Fit q := fun q h => hq q (List.mem_of_mem_take h)
 have hm := ht.le
 let E := ZnO qs m w.heap.size
 have hu : Yz (Zf E) w [.ls 2 0] [v] := ⟨v, [], rfl, LsIn.ls hv rfl, by obtain ⟨a, m, rfl, _⟩ := hv; rfl, rfl⟩
 obtain ⟨g, hg⟩ : ∃ b : Bool, b = true ↔ 33 < m := ⟨decide (33 < m), by rw [decide_eq_true_iff]⟩
 have hA : Yd E [] := fun x hx => by simp at hx
 have hB : ZD E poB := fun x hx => by
  simp only [poB, List.mem_cons, List.not_mem_nil, or_false] at hx
  rcases hx with rfl | rfl | rfl
  ·rfl
  ·refine ⟨?_, ?_⟩
   ·show (if ((0 : Nat) : Int) + 60 < ((qs.length : Nat) : Int) + 0 then ((0 : Nat) : Int) + 60 else ((qs.length : Nat) : Int) + 0) = ((min qs.length 60 : Nat) : Int) + 0
    split <;> omega
   ·show min qs.length 60 ≤ 10000
    omega
  ·refine ⟨?_, ?_, ?_⟩
   ·show (0 : Int) ≤ ((min qs.length 60 : Nat) : Int) + 0
    omega
   ·show ((min qs.length 60 : Nat) : Int) + 0 ≤ ((qs.length : Nat) : Int)
    omega
   ·show qs.take (min qs.length 60) = qs.take (((min qs.length 60 : Nat) : Int) + 0).toNat
    rfl
 have o1 : ZnB E ofF 2 poT (QG E g) := fun c e hm2 w v hv hG hT => by
  simp only [poT, List.mem_cons, List.not_mem_nil, or_false, Prod.mk.injEq, true_and] at hm2
  obtain ⟨rfl, rfl⟩ := hm2
  cases hgg : g with
  | false =>
   have h33 : m ≤ 33 := Nat.le_of_not_lt fun h => by have := hg.2 h; rw [hgg] at this; cases this
   refine (ZdT w hq' (by omega) ht h33 hv hG hT).mono ?_
   rintro en w' ⟨u, q1, q2, q3⟩
   exact ⟨⟨rfl, u, q1, fun _ => q2, fun h => (by cases h)⟩, q3⟩
  | true =>
   refine (ZcF w hq' (by omega) ht (hg.1 hgg) hv hG hT).mono ?_
   rintro en w' ⟨q1, q3⟩
   exact ⟨⟨rfl, _, q1, fun h => (by cases h), fun _ => rfl⟩, q3⟩
 have o2 : ZnB E roF 2 poT (QG E g) := fun c e hm2 w v hv hG hT => by
  simp only [poT, List.mem_cons, List.not_mem_nil, or_false, Prod.mk.injEq, true_and] at hm2
  obtain ⟨rfl, rfl⟩ := hm2
  refine (KA w hq' (by omega) ht hv hG hT).mono ?_
  rintro en w' ⟨⟨u, q1, q2, q4⟩, q3⟩
  refine ⟨⟨rfl, u, q1, fun h => q2 (Nat.le_of_not_lt fun h3 => by have := hg.2 h3; rw [h] at this; cases this), fun h => q4 (hg.1 h)⟩, q3⟩
 have hS : SumOK (Zf E) Tryz.prog (Xi (Xj (poL g))) := YO fun x hx => by
  rcases List.mem_cons.1 hx with rfl | hx
  ·exact Zjh hB (Zfd g) o1 fun e args' h nx v h' nx' R W r w he hM hN c => Zjn e args' h nx v h' nx' R W r w he hM hN c
  rcases List.mem_cons.1 hx with rfl | hx
  ·exact Zjh hB (Zfd g) o2 fun e args' h nx v h' nx' R W r w he hM hN c => Zjn e args' h nx v h' nx' R W r w he hM hN c
  rcases List.mem_cons.1 hx with rfl | hx
  ·exact ZnJ
  ·cases g with
   | true => simp at hx
   | false =>
    simp only [cond_false, List.mem_cons, List.not_mem_nil, or_false] at hx
    subst hx
    refine ZnC hB (fun _ => Zg _) (Q := fun _ _ en _ => en = .returned (.bool true)) (fun c d e hm2 w v u hv hu hG hT => ?_) (fun e args' h nx v h' nx' R W r w he hM hN c => Xr he rfl hM c)
    simp only [ZoH, List.mem_cons, List.not_mem_nil, or_false, Prod.mk.injEq] at hm2
    obtain ⟨rfl, rfl, rfl⟩ := hm2
    exact Zgu w (qs := (qs.take (min qs.length 60)).take m) (fun q h => hq' q (List.mem_of_mem_take h)) (by rw [List.length_take]; omega) hv hu hG hT
 refine (Ya (YW hA hB) hS (ZnL g) rfl YT hu hG hT (Nat.le_refl _) (.none rfl)).mono ?_
 rintro e w' ⟨v', rfl, h1, hb⟩
 have h1' : v' = .bool true := h1
 exact ⟨by rw [h1'], hb⟩
theorem int_rat (z : Int) : ((z : Int) : Rat).num = z ∧ ((z : Int) : Rat).den = 1 := ⟨by simp, by simp⟩
end Ev
end Go.Proofs.YtnlhjcfpfapafaaGreatDoor
namespace Go.Proofs.YtnlhjcfpfapafaaGreatDoor
open Go.ChangeShapes Go.WideShapes Go.ChangeAt Go.RowKit
theorem own : ownKnob Tryz.prog.godebug = none := by kernel_rfl
section
variable {H : Type} {enc : TypeId × Value → H} {P : Program}
end
theorem ZgC {W : World} (h : W.ShapedOpen Tryz.prog) : Tryz.prog.globals.size ≤ W.heap.size := by
 have hb : Nat.ble (Tryz.prog.globals.size + 1) (begin Tryz.prog (fun _ _ => 0) default).world.heap.size = true := by kernel_rfl
 obtain ⟨o, o0, h1, -⟩ := h.2 Tryz.prog.globals.size (Nat.le_refl _) (Nat.le_of_ble_eq_true hb)
 exact Nat.le_of_lt (Array.getElem?_eq_some_iff.1 h1).1
end Go.Proofs.YtnlhjcfpfapafaaGreatDoor
namespace Go.Proofs.YtnlhjcfpfapafaaGreatDoor
open Go Go.ChangeShapes Go.WideShapes Go.ChangeAt Go.RowKit
theorem Zea {W W' : World} (hb : Below W.heap.size W W') {a : Addr} (h : a.block < W.heap.size) : W'.cell? a = W.cell? a := by
 unfold World.cell?
 rw [hb.block _ h]
theorem Zbm {W W' : World} (hb : Below W.heap.size W W') {a : Addr} (h : a.block < W.heap.size) : W'.frozen? a = W.frozen? a := by
 unfold World.frozen?
 rw [hb.block _ h]
theorem cell_lt {W : World} {a : Addr} {v : Value} (h : W.cell? a = some v) : a.block < W.heap.size := by
 apply Nat.lt_of_not_le
 intro hn
 have hx : W.heap[a.block]? = none := Array.getElem?_eq_none hn
 simp [World.cell?, hx] at h
section
variable {H : Type} {enc : TypeId × Value → H} {P : Program}
theorem ZgD {f : Func} {s : ChangeSpec} {apart fresh handsOn again : Bool} {W W' : World} {args : Array Value} {v : Value} {ds gs : List (DataW H)} {before : List MemPlace}
  (hW : DataW.Whole enc P f.params.toList s.vars apart W args.toList ds gs before)
  (hres : ∀ (b : Nat) (sp : Nat → Bool) (hd : Bool), DataW.TrodAll enc P W' b sp hd f.resultTypes.toList (v.resultList f.resultTypes.size) (s.fn H (ds ++ gs)).results [])
  (hargs : ∀ sp : Nat → Bool, (∀ p ∈ before, sp p.block = true) → DataW.TrodAll enc P W' 0 sp true f.params.toList args.toList (s.fn H (ds ++ gs)).args before)
  (hvars : ∀ sp : Nat → Bool, DataW.TrodVars enc P W' sp s.vars (s.fn H (ds ++ gs)).vars [])
  (hb : Below W.heap.size W W')
  (hok : ∀ (j : Nat) (t : TypeId) (r : Value), f.resultTypes[j]? = some t → (v.resultList f.resultTypes.size)[j]? = some r → Value.okWide P W' .any 0 t r) :
  s.post enc P f apart fresh handsOn again W args v W' := by
 have hk : W.keptBut W' (fun p => p ∈ ([] : List MemPlace)) := hb.frame _
 have hold : ∀ p ∈ before, (fun b => decide (b < W.heap.size)) p.block = true := fun p hp => by simpa using hW.lt p hp
 have hlt : ∀ p ∈ before, p.block < W.heap.size := fun p hp => hW.lt p hp
 refine ⟨ds, gs, before, [], before, [], hW, hres _ _ _, hargs _ hold, hvars _, World.keptBut_mono (fun p hp => by cases hp) hk, fun _ => ?_⟩
 obtain ⟨_, _, _, _, _, hz, hn⟩ := hW
 refine ⟨hok, _, _, before, ⟨[] ++ before, [], trodAll_append (hargs _ (fun _ _ => rfl)) (hres _ _ _), hvars _, by simp, ?_, hn⟩, fun p hp _ => hp⟩
 intro b off hp
 rw [Zbm hb (a := ⟨b, off, none⟩) (hlt _ hp)]
 exact hz b off hp
end
end Go.Proofs.YtnlhjcfpfapafaaGreatDoor
namespace Go.Proofs.YtnlhjcfpfapafaaGreatDoor
open Go Go.ChangeShapes Go.WideShapes Go.ChangeAt Go.RowKit
set_option maxRecDepth 100000
namespace Ev
theorem ints64_ls {w : World} {a : Addr} {len cap : Nat} {zs : List Int} (hs : a.spot = none) (hl : len ≤ cap) (hlen : len ≤ zs.length) (hc : ∀ i, i < zs.length → w.cell? (a.add i) = some (.int .i64 (zs.getD i 0))) (hb : ∀ n ∈ zs, -9223372036854775808 ≤ n ∧ n ≤ 9223372036854775807) :
  LsIn 2 w (.slice (some a) len cap) ((zs.take len).map fun z => ((z : Int) : Rat)) := by
 have hlm : ((zs.take len).map fun z => ((z : Int) : Rat)).length = len := by rw [List.length_map, List.length_take]; omega
 refine ⟨some a, cap, by rw [hlm], by rw [hlm]; exact hl, fun hne => ?_⟩
 have hpos : 0 < len := by
  rcases Nat.eq_zero_or_pos len with q | q
  ·subst q; simp at hne
  ·exact q
 obtain ⟨b, off, spot⟩ := a
 have h0 := hc 0 (by omega)
 have hs' : spot = none := hs
 subst hs'
 cases hh : w.heap[b]? with
 | none => simp [World.cell?, Addr.add, hh] at h0
 | some o =>
    cases o with
    | cells c t z =>
     obtain ⟨cl⟩ := c
     refine ⟨b, off, cl, t, z, rfl, hh, fun i q hi => ?_⟩
     rw [List.getElem?_map] at hi
     obtain ⟨x, hx, rfl⟩ := Option.map_eq_some_iff.1 hi
     have hi2 := (List.getElem?_eq_some_iff.1 hx).1
     rw [List.length_take] at hi2
     have hx2 : zs[i]? = some x := by
      rw [List.getElem?_take, if_pos (by omega)] at hx; exact hx
     have h1 := hc i (by omega)
     rw [List.getD_eq_getElem?_getD, hx2] at h1
     have h2 : cl[off + i]? = some (.int .i64 x) := by
      rw [Yu] at h1
      simpa [World.cell?, hh] using h1
     have hm := hb x (List.mem_of_getElem? hx2)
     refine ⟨.int .i64 x, ?_, ?_⟩
     ·show ((cl.drop (off + i * 1)).take 1) = _
      rw [Nat.mul_one]
      have hlt := (List.getElem?_eq_some_iff.1 h2).1
      rw [List.drop_eq_getElem_cons hlt]
      simp [(List.getElem?_eq_some_iff.1 h2).2]
     ·show _ = Value.int .i64 _ ∧ _
      rw [(int_rat x).1]
      exact ⟨rfl, (int_rat x).2, by omega, by omega⟩
    | _ => simp [World.cell?, Addr.add, hh] at h0
theorem polyOfJ_any (w : World) {qs : List Rat} {v : Value} (hv : LsIn 2 w v qs) (hq : ∀ q ∈ qs, Fit q) (hG : Tryz.prog.globals.size ≤ w.heap.size) (hT : Tab w) :
  Calls Tryz.prog poF ⟨[v]⟩ w fun e w' => e = .returned (.bool true) ∧ Below w.heap.size w w' := KB w hq hv hG hT
end Ev
theorem ZcG {H : Type} {enc : TypeId × Value → H} {W : World} {base : Nat} {v : Value} {d : DataW H} {p : List MemPlace} (hval : Value.okWide Tryz.prog W .any base 22 v)
  (h0 : DataW.Trod enc Tryz.prog W 0 (fun _ => true) true 22 v d p) :
  ∃ qs : List Rat, (∀ q ∈ qs, Fit q) ∧ Ev.LsIn 2 W v qs ∧
   ∀ (W' : World) (sp : Nat → Bool), Below W.heap.size W W' → (∀ q ∈ p, sp q.block = true) → DataW.Trod enc Tryz.prog W' 0 sp true 22 v d p := by
 have hc : Tryz.prog.cellsOf 2 = 1 := by kernel_rfl
 obtain ⟨a0, len0, cap0, rfl⟩ := okWide_slice Tryz.underlying22 hval
 obtain ⟨fuel, hf⟩ := h0
 rcases open_ints Tryz.underlying22 Tryz.underlying2 hc hf with ⟨hcs, hx⟩ | ⟨a, len, cap, zs, hcs, _, hl, hm, hz, hx, hcell, hwz⟩
 ·simp [Value.cells] at hcs
  obtain ⟨rfl, rfl, rfl⟩ := hcs
  simp only [Prod.mk.injEq] at hx
  obtain ⟨rfl, rfl⟩ := hx
  exact ⟨[], fun q h => by simp at h, ⟨none, 0, rfl, Nat.le_refl _, fun h => absurd rfl h⟩, fun W' sp _ _ => shut_slice_nil Tryz.underlying22⟩
 ·simp [Value.cells] at hcs
  obtain ⟨rfl, rfl, rfl⟩ := hcs
  simp only [Prod.mk.injEq] at hx
  obtain ⟨rfl, rfl⟩ := hx
  simp only [if_true] at hz
  have hwb : ∀ n ∈ zs, -9223372036854775808 ≤ n ∧ n ≤ 9223372036854775807 := fun n h => bounds_i64 (hwz n h)
  refine ⟨(zs.take len0).map fun z => ((z : Int) : Rat), ?_, ?_, ?_⟩
  ·intro q hq
   obtain ⟨z, hz1, rfl⟩ := List.mem_map.1 hq
   have h := hwb z (List.mem_of_mem_take hz1)
   exact Ev.int_fit (Ev.int_rat z).2 (by rw [(Ev.int_rat z).1]; exact h.1) (by rw [(Ev.int_rat z).1]; exact h.2)
  ·rcases Nat.eq_zero_or_pos zs.length with h | h
   ·have hl0 : len0 = 0 := by omega
    subst hl0
    exact ⟨some a, cap0, rfl, Nat.zero_le _, fun h => absurd rfl h⟩
   ·obtain ⟨b, off, rfl, _⟩ := ints_at hcell h
    exact Ev.ints64_ls rfl hl (by omega) hcell hwb
  ·intro W' sp hb hsp
   refine ⟨2, ?_⟩
   have t0 := shut_ints (enc := enc) (P := Tryz.prog) (w := W') (base := 0) (spare := sp) (held := true) (a := a) (len := len0) (cap := cap0) (zs := zs) 0 Tryz.underlying22 Tryz.underlying2 hc (Nat.zero_le _) hl hm
    (by
     rcases Nat.eq_zero_or_pos zs.length with h | h
     ·split <;> omega
     ·obtain ⟨b, off, rfl, _⟩ := ints_at hcell h
      have : sp b = true := hsp (MemPlace.cell b (off + 0)) (MemPlace.mem_row.2 ⟨0, h, rfl⟩)
      rw [if_pos this]; exact hz)
    (fun i hi => by
     rw [Zea hb (cell_lt (hcell i hi))]
     exact hcell i hi) hwz
   simpa [Value.cells] using t0
end Go.Proofs.YtnlhjcfpfapafaaGreatDoor
namespace Go.Proofs.YtnlhjcfpfapafaaGreatDoor
open Go.ChangeShapes Go.WideShapes Go.ChangeAt Go.RowKit
theorem ZoZ : Tryz.prog.globalNamed "internal/strconv.uint64pow10" = some 3 := by kernel_rfl
end Go.Proofs.YtnlhjcfpfapafaaGreatDoor
