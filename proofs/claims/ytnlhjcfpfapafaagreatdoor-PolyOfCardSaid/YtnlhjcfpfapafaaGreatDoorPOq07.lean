/- Contracts. -/
import Derived.Test.YtnlhjcfpfapafaaGreatDoorPOq06
import Derived.Laws.Cover3
import Derived.Laws.Pointers
import Derived.WalkKit
import Derived.Laws.OwnMore
import Derived.Deep.Draws
import Derived.Deep.QuietTactic
import Derived.BigQuiet
import Derived.Lib.Hide
import Derived.Test.YtnlhjcfpfapafaaGreatDoorProg
import Derived.Test.YtnlhjcfpfapafaaGreatDoorLwS
import Derived.IntWalk
import Derived.Shelf.Spec.BitsCarry
import Derived.Outline
namespace Go.Proofs.YtnlhjcfpfapafaaGreatDoor
open Go
namespace Ev
section
variable {F : Type} {S : Sig F} {P : Program} {C : Cfg F}
variable {h h' : Tr (Blk F)} {nx nx' : Nat} {R W : List Nat} {r : Ren} {w : World} {x : Nxt}
theorem Zg7 {b : Nat} {y : Blk F} {u : Unit} (e : (wr b y : M F Unit) h nx = .ok u h' nx' R W) : h' = h.set b y ∧ nx' = nx ∧ W = [b] := by
 unfold wr at e
 cases hg : h.get b with
 | none => rw [hg] at e; cases e
 | some z => rw [hg] at e; cases e; exact ⟨rfl, rfl, rfl⟩
theorem ZaA {o o' : Option Value} {m : Option Nat} (hd : ZbI o = some m) (hr : ∀ v, o = some v → ∃ v', o' = some v' ∧ VR r v v') (hn : o = none → o' = none) :
  (m = none ∧ o' = none) ∨ ∃ k n, m = some n ∧ o' = some (.int k (n : Nat)) := by
 cases o with
 | none => cases hd; exact .inl ⟨rfl, hn rfl⟩
 | some v =>
  obtain ⟨v', rfl, hv⟩ := hr v rfl
  unfold ZbI at hd
  simp only at hd
  cases hv2 : Xf v with
  | none => rw [hv2] at hd; cases hd
  | some n =>
   rw [hv2] at hd
   cases hd
   obtain ⟨k, rfl⟩ := XZ hv2
   exact .inr ⟨k, n, rfl, by rw [hv.int]⟩
theorem US (k : IntKind) (n y : Nat) (code : BoundsCode) (hy : n ≤ y) (w : World) : (Instr.sliceBound (.int k (n : Nat)) y code).run P w = .ok n w := by
 rw [run_sliceBound w k (n : Int) y code (by omega) (by omega)]
 simp
theorem Y3 {len cap : Nat} {lo hi mx : Option Nat} {lo' hi' mx' : Option Value} (h1 : (lo = none ∧ lo' = none) ∨ ∃ k n, lo = some n ∧ lo' = some (.int k (n : Nat))) (h2 : (hi = none ∧ hi' = none) ∨ ∃ k n, hi = some n ∧ hi' = some (.int k (n : Nat)))
  (h3 : (mx = none ∧ mx' = none) ∨ ∃ k n, mx = some n ∧ mx' = some (.int k (n : Nat))) (hmh : hi = none → mx = none) (a1 : orN lo 0 ≤ orN hi len) (a2 : orN hi len ≤ orN mx cap) (a3 : orN mx cap ≤ cap) (w : World) :
  (Instr.sliceBounds true len cap lo' hi' mx').run P w = .ok (orN lo 0, orN hi len, orN mx cap) w := by
 rcases h1 with ⟨rfl, rfl⟩ | ⟨k1, l, rfl, rfl⟩ <;> rcases h2 with ⟨rfl, rfl⟩ | ⟨k2, hh, rfl, rfl⟩ <;> rcases h3 with ⟨rfl, rfl⟩ | ⟨k3, m, rfl, rfl⟩ <;> simp only [orN] at a1 a2 a3 ⊢ <;>
  first
   | (cases hmh rfl; done)
   | (simp only [Instr.sliceBounds, Sem.run_bind, Sem.run_pure, Result.andThen_ok, US _ _ _ _ a1, US _ _ _ _ a2, US _ _ _ _ a3]; done)
theorem Vg {t e s : Nat} (ht : P.underlying t = some (.slice e)) (hs : sizeT P e = some s) {a : Option Addr} {len cap l h m : Nat} {lo' hi' mx' : Option Value} {w : World} (hb : (Instr.sliceBounds true len cap lo' hi' mx').run P w = .ok (l, h, m) w) :
  (Instr.sliceAt t (.slice a len cap) lo' hi' mx').run P w = .ok (.slice (if m = l then a else a.map (·.add (l * s))) (h - l) (m - l)) w := by
 simp [Instr.sliceAt, Instr.slice, run_underlying ht, hb, Yc hs]
theorem Zes {s b off l hh m : Nat} {b' : Nat} (e : (ZjH s b off l hh m : M F Nxt) h nx = .ok x h' nx' R W) (hb : r.blk b = some b') (hm : m < ZH) :
  l ≤ hh ∧ hh ≤ m ∧ ∃ v, x = .val v ∧ VR r v (.slice (if m = l then some ⟨b', off, none⟩ else (some (⟨b', off, none⟩ : Addr)).map (·.add (l * s))) (hh - l) (m - l)) ∧ h' = h ∧ nx' = nx ∧ W = [] := by
 obtain ⟨hk, e2⟩ := Zi e
 obtain ⟨rfl, hsame⟩ := Zt e2
 simp only [Bool.and_eq_true] at hk
 refine ⟨Nat.le_of_ble_eq_true hk.1, Nat.le_of_ble_eq_true hk.2, _, rfl, ?_, hsame⟩
 by_cases hml : m = l
 ·rw [if_pos hml, show Nat.beq m l = true from by rw [hml]; exact Nat.beq_refl l]
  exact .slice hb (by omega)
 ·rw [if_neg hml, show Nat.beq m l = false from by cases hq : Nat.beq m l with
   | false => rfl
   | true => exact absurd (Nat.eq_of_beq_eq_true hq) hml]
  simp only [cond_false, Option.map_some, Yu]
  exact .slice hb (by omega)
theorem Vh {t : TypeId} {v v' : Value} {lo hi mx lo' hi' mx' : Option Value} (e : (Ks P t v lo hi mx : M F Nxt) h nx = .ok x h' nx' R W) (hv : VR r v v')
  (hl : ∀ v, lo = some v → ∃ v', lo' = some v' ∧ VR r v v') (hl0 : lo = none → lo' = none) (hh : ∀ v, hi = some v → ∃ v', hi' = some v' ∧ VR r v v') (hh0 : hi = none → hi' = none) (hm : ∀ v, mx = some v → ∃ v', mx' = some v' ∧ VR r v v') (hm0 : mx = none → mx' = none) :
  UL P r w x (Instr.sliceAt t v' lo' hi' mx') (h' = h ∧ nx' = nx ∧ W = []) := by
 unfold Ks at e
 cases ht : Zz P t with
 | none => rw [ht] at e; simp [fail] at e
 | some el =>
  rw [ht] at e; simp only at e
  cases hs : sizeT P el with
  | none => rw [hs] at e; simp [fail] at e
  | some s =>
   rw [hs] at e; simp only at e
   cases hsl : Yt v with
   | none => rw [hsl] at e; simp [fail] at e
   | some y =>
    obtain ⟨base, n, c⟩ := y
    rw [hsl] at e; simp only at e
    cases base with
    | none => simp [fail] at e
    | some a =>
     obtain ⟨b, off⟩ := a
     simp only at e
     have hvs' : v = Z5 b off n c := Wo hsl
     rw [hvs'] at hv
     obtain ⟨b', c', hb, rfl, hcc⟩ := WL hv
     cases d1 : ZbI lo with
     | none => rw [d1] at e; simp [fail] at e
     | some lon =>
      rw [d1] at e; simp only at e
      cases d2 : ZbI hi with
      | none => rw [d2] at e; simp [fail] at e
      | some hin =>
       rw [d2] at e; simp only at e
       cases d3 : ZbI mx with
       | none => rw [d3] at e; simp [fail] at e
       | some mxn =>
        rw [d3] at e; simp only at e
        have k1 := ZaA d1 hl hl0
        have k2 := ZaA d2 hh hh0
        have k3 := ZaA d3 hm hm0
        have hut := Zw ht
        unfold ZjI at e
        cases mxn with
        | some m =>
         simp only at e
         obtain ⟨hk, e2⟩ := Zi e
         cases hin with
         | none => simp [fail] at e2
         | some hn =>
          simp only at e2
          obtain ⟨hk2, e3⟩ := Zi e2
          have hmx : m < ZH := by have := Nat.le_of_ble_eq_true hk2; unfold ZH at this ⊢; omega
          obtain ⟨b1, b2, u, rfl, hu, hsame⟩ := Zes e3 hb hmx
          have hmc : m ≤ c' := by
           rcases hcc with ⟨hlt, rfl⟩ | ⟨sz, c0, rfl, hc0, hle, hln⟩
           ·have hb0 : Nat.ble ZH c' = false := by
             cases hq : Nat.ble ZH c' with
             | false => rfl
             | true => have := Nat.le_of_ble_eq_true hq; omega
            rw [hb0] at hk; exact Nat.le_of_ble_eq_true hk
           ·have hmod : Nat.mod (ZH * (sz + 1) + c0) ZH = c0 := by
             show (ZH * (sz + 1) + c0) % ZH = c0
             unfold ZH at hc0 ⊢; omega
            have hb0 : Nat.ble ZH (ZH * (sz + 1) + c0) = true := Nat.ble_eq_true_of_le (by unfold ZH; omega)
            rw [hb0, hmod] at hk
            have := Nat.le_of_ble_eq_true (show Nat.ble m c0 = true from hk)
            omega
          exact ⟨u, _, rfl, Vg hut hs (Y3 k1 k2 k3 (fun q => by cases q) b1 b2 hmc w), hu, hsame⟩
        | none =>
         simp only at e
         rcases hcc with ⟨hlt, rfl⟩ | ⟨sz, c0, rfl, hc0, hle, hln⟩
         ·have hb0 : Nat.ble ZH c' = false := by
           cases hq : Nat.ble ZH c' with
           | false => rfl
           | true => have := Nat.le_of_ble_eq_true hq; omega
          rw [hb0] at e
          simp only [cond_false] at e
          obtain ⟨b1, b2, u, rfl, hu, hsame⟩ := Zes e hb hlt
          exact ⟨u, _, rfl, Vg hut hs (Y3 k1 k2 k3 (fun _ => rfl) b1 b2 (Nat.le_refl _) w), hu, hsame⟩
         ·have hdiv : Nat.div (ZH * (sz + 1) + c0) ZH = sz + 1 := by
           show (ZH * (sz + 1) + c0) / ZH = sz + 1
           unfold ZH at hc0 ⊢; omega
          have hmod : Nat.mod (ZH * (sz + 1) + c0) ZH = c0 := by
           show (ZH * (sz + 1) + c0) % ZH = c0
           unfold ZH at hc0 ⊢; omega
          have hb0 : Nat.ble ZH (ZH * (sz + 1) + c0) = true := Nat.ble_eq_true_of_le (by unfold ZH; omega)
          rw [hb0, hmod, hdiv] at e
          simp only [cond_true] at e
          obtain ⟨hk, e2⟩ := Zi e
          simp only [Bool.and_eq_true] at hk
          obtain ⟨⟨q1, q2⟩, q3⟩ := hk
          have hsz : sz = s := by have := Nat.eq_of_beq_eq_true q1; omega
          subst hsz
          have q2' := Nat.le_of_ble_eq_true q2
          have q3' := Nat.le_of_ble_eq_true q3
          have hrun : (Instr.sliceAt t (Z5 b' off n c') lo' hi' mx').run P w = .ok (.slice (if c' = orN lon 0 then some ⟨b', off, none⟩ else (some (⟨b', off, none⟩ : Addr)).map (·.add (orN lon 0 * sz))) (orN hin n - orN lon 0) (c' - orN lon 0)) w :=
           Vg (a := some ⟨b', off, none⟩) hut hs (Y3 (P := P) (len := n) (cap := c') k1 k2 k3 (fun _ => rfl) q2' (show orN hin n ≤ c' by omega) (Nat.le_refl _) w)
          generalize orN lon 0 = L at *
          generalize orN hin n = H at *
          cases hz : Nat.beq L 0 with
          | true =>
           rw [hz] at e2
           obtain ⟨rfl, hsame⟩ := Zt e2
           have hz0 := Nat.eq_of_beq_eq_true hz
           subst hz0
           refine ⟨_, _, rfl, hrun, ?_, hsame⟩
           simp only [Nat.zero_mul, Option.map_some, Yu, Nat.add_zero, ite_self, Nat.sub_zero]
           exact .slicex hb hc0 hle hln
          | false =>
           rw [hz] at e2
           simp only [cond_false] at e2
           obtain ⟨hk, e3⟩ := Zi e2
           obtain ⟨rfl, hsame⟩ := Zt e3
           have hk' : L < c0 := Nat.le_of_ble_eq_true hk
           refine ⟨_, _, rfl, hrun, ?_, hsame⟩
           have hne : ¬ c' = L := by omega
           rw [if_neg hne]
           simp only [Option.map_some, Yu]
           have e4 : ZH * (sz + 1) + c0 - L = ZH * (sz + 1) + (c0 - L) := by omega
           unfold Z5
           rw [e4]
           refine .slicex hb (by omega) (by omega) ?_
           have : (c' - L) * sz + L * sz = c' * sz := by rw [← Nat.add_mul]; congr 1; omega
           omega
end
end Ev
end Go.Proofs.YtnlhjcfpfapafaaGreatDoor
namespace Go.Proofs.YtnlhjcfpfapafaaGreatDoor
open Go
namespace Ev
section
variable {F : Type} {S : Sig F} {P : Program}
theorem VH {C C0 : Cfg F} (hC : C.hard = XL P C0) (h0 : C0.hid = S.hn) (hG : C0.G = S.G) : Xg S P C := by
 intro o vs h nx x h' nx' R W hs e r w ρ hM hN hv
 rw [hC] at e
 unfold XL at e
 cases hop : o.op with
 | slice t y lo hi mx =>
  rw [hop] at e
  have e' : (Jl P t vs lo.isSome hi.isSome mx.isSome : M F Nxt) h nx = .ok x h' nx' R W := e
  have hops : o.op.operands.toList.map ρ = ρ y :: (lo.toList.map ρ ++ (hi.toList.map ρ ++ mx.toList.map ρ)) := by rw [hop]; cases lo <;> cases hi <;> cases mx <;> rfl
  rw [hops] at hv
  have key : UL P r w x (Instr.sliceAt t (ρ y) (lo.map ρ) (hi.map ρ) (mx.map ρ)) (h' = h ∧ nx' = nx ∧ W = []) := by
   cases hv with
   | cons hv0 hv =>
    unfold Jl at e'
    cases lo with
    | none =>
     cases hi with
     | none =>
      cases mx with
      | none =>
       cases hv
       exact Vh (lo := none) (hi := none) (mx := none) e' hv0 (fun _ q => by cases q) (fun _ => rfl) (fun _ q => by cases q) (fun _ => rfl) (fun _ q => by cases q) (fun _ => rfl)
      | some c =>
       cases hv with
       | cons hv3 hv => cases hv; exact absurd e' (by simp [fail])
     | some b =>
      cases hv with
      | cons hv2 hv =>
       cases mx with
       | none =>
        cases hv
        exact Vh (lo := none) (hi := some _) (mx := none) e' hv0 (fun _ q => by cases q) (fun _ => rfl) (fun _ q => by cases q; exact ⟨_, rfl, hv2⟩) (fun q => by cases q) (fun _ q => by cases q) (fun _ => rfl)
       | some c =>
        cases hv with
        | cons hv3 hv =>
         cases hv
         exact Vh (lo := none) (hi := some _) (mx := some _) e' hv0 (fun _ q => by cases q) (fun _ => rfl) (fun _ q => by cases q; exact ⟨_, rfl, hv2⟩) (fun q => by cases q) (fun _ q => by cases q; exact ⟨_, rfl, hv3⟩) (fun q => by cases q)
    | some a =>
     cases hv with
     | cons hv1 hv =>
      cases hi with
      | none =>
       cases mx with
       | none =>
        cases hv
        exact Vh (lo := some _) (hi := none) (mx := none) e' hv0 (fun _ q => by cases q; exact ⟨_, rfl, hv1⟩) (fun q => by cases q) (fun _ q => by cases q) (fun _ => rfl) (fun _ q => by cases q) (fun _ => rfl)
       | some c =>
        cases hv with
        | cons hv3 hv => cases hv; exact absurd e' (by simp [fail])
      | some b =>
       cases hv with
       | cons hv2 hv =>
        cases mx with
        | none =>
         cases hv
         exact Vh (lo := some _) (hi := some _) (mx := none) e' hv0 (fun _ q => by cases q; exact ⟨_, rfl, hv1⟩) (fun q => by cases q) (fun _ q => by cases q; exact ⟨_, rfl, hv2⟩) (fun q => by cases q) (fun _ q => by cases q) (fun _ => rfl)
        | some c =>
         cases hv with
         | cons hv3 hv =>
          cases hv
          exact Vh (lo := some _) (hi := some _) (mx := some _) e' hv0 (fun _ q => by cases q; exact ⟨_, rfl, hv1⟩) (fun q => by cases q) (fun _ q => by cases q; exact ⟨_, rfl, hv2⟩) (fun q => by cases q) (fun _ q => by cases q; exact ⟨_, rfl, hv3⟩) (fun q => by cases q)
  refine key.after hM fun v hv => ?_
  simp only [execOp, hop, Sem.run_bind, hv, Result.andThen_ok, Sem.run_pure]
 | _ => rw [hop] at e; exact absurd e (by simp [fail])
end
end Ev
end Go.Proofs.YtnlhjcfpfapafaaGreatDoor
namespace Go.Proofs.YtnlhjcfpfapafaaGreatDoor
namespace Big
def val (B : Nat) : List Nat → Nat
 | [] => 0
 | d :: l => d + B * val B l
def Ok (B : Nat) (l : List Nat) : Prop := ∀ d ∈ l, d < B
def Norm (l : List Nat) : Prop := l.getLast? ≠ some 0
def nth (l : List Nat) (i : Nat) : Nat := l.getD i 0
def M64 : Nat := 18446744073709551616
theorem M64_eq : M64 = 18446744073709551616 := rfl
theorem M64_pos : 0 < M64 := by unfold M64; omega
def KX : Nat := 1000000000
def KL : Nat := 100000000
theorem KX_eq : KX = 1000000000 := rfl
theorem KL_eq : KL = 100000000 := rfl
theorem KL_le : KL ≤ KX := by unfold KL KX; omega
section
variable {B : Nat}
theorem Ok.nil : Ok B [] := by intro d h; simp at h
theorem Ok.tail {d : Nat} {l : List Nat} (h : Ok B (d :: l)) : Ok B l := fun x hx => h x (by simp [hx])
theorem Ok.head {d : Nat} {l : List Nat} (h : Ok B (d :: l)) : d < B := h d (by simp)
theorem Ok.cons {d : Nat} {l : List Nat} (h : d < B) (k : Ok B l) : Ok B (d :: l) := by
 intro x hx; rcases List.mem_cons.1 hx with rfl | hx
 ·exact h
 ·exact k x hx
theorem Ok.append {l m : List Nat} (h : Ok B l) (k : Ok B m) : Ok B (l ++ m) := by
 intro x hx; rcases List.mem_append.1 hx with hx | hx
 ·exact h x hx
 ·exact k x hx
theorem Ok.take {l : List Nat} (h : Ok B l) (n : Nat) : Ok B (l.take n) := fun x hx => h x (List.mem_of_mem_take hx)
theorem Ok.drop {l : List Nat} (h : Ok B l) (n : Nat) : Ok B (l.drop n) := fun x hx => h x (List.mem_of_mem_drop hx)
theorem Ok.nth {l : List Nat} (h : Ok B l) (hB : 0 < B) (i : Nat) : nth l i < B := by
 unfold Big.nth
 rw [List.getD_eq_getElem?_getD]
 cases hi : l[i]? with
 | none => simpa using hB
 | some d => simpa using h d (List.mem_of_getElem? hi)
theorem val_append (l m : List Nat) : val B (l ++ m) = val B l + B ^ l.length * val B m := by
 induction l with
 | nil => simp [val]
 | cons d l ih =>
  simp only [List.cons_append, val, ih, List.length_cons, Nat.pow_succ', Nat.mul_add, Nat.mul_assoc]
  omega
theorem val_lt (l : List Nat) (h : Ok B l) : val B l < B ^ l.length := by
 induction l with
 | nil => simp [val]
 | cons d l ih =>
  have h1 := ih h.tail
  have h2 := h.head
  have h3 : B * (val B l + 1) ≤ B * B ^ l.length := Nat.mul_le_mul_left B h1
  rw [Nat.mul_add] at h3
  simp only [val, List.length_cons, Nat.pow_succ']
  omega
theorem val_replicate (n : Nat) : val B (List.replicate n 0) = 0 := by
 induction n with
 | zero => rfl
 | succ n ih => simp [List.replicate_succ, val, ih]
theorem take_succ (l : List Nat) (k : Nat) (h : k < l.length) : l.take (k + 1) = l.take k ++ [nth l k] := by
 unfold nth
 rw [List.take_succ_eq_append_getElem h, List.getD_eq_getElem?_getD, List.getElem?_eq_getElem h]; rfl
theorem val_take_succ (l : List Nat) (k : Nat) (h : k < l.length) : val B (l.take (k + 1)) = val B (l.take k) + B ^ k * nth l k := by
 rw [take_succ l k h, val_append]
 simp [val, Nat.min_eq_left (Nat.le_of_lt h)]
theorem val_take_all (l : List Nat) (k : Nat) (h : l.length ≤ k) : val B (l.take k) = val B l := by rw [List.take_of_length_le h]
theorem nth_ge (l : List Nat) (k : Nat) (h : l.length ≤ k) : nth l k = 0 := by
 unfold nth
 rw [List.getD_eq_getElem?_getD, List.getElem?_eq_none h]; rfl
theorem val_take_succ' (l : List Nat) (k : Nat) : val B (l.take (k + 1)) = val B (l.take k) + B ^ k * nth l k := by
 rcases Nat.lt_or_ge k l.length with h | h
 ·exact val_take_succ l k h
 ·rw [val_take_all l _ (by omega), val_take_all l _ h, nth_ge l k h]; simp
theorem val_take_drop (l : List Nat) (k : Nat) (h : k ≤ l.length) : val B l = val B (l.take k) + B ^ k * val B (l.drop k) := by
 conv => lhs; rw [← List.take_append_drop k l]
 rw [val_append, List.length_take, Nat.min_eq_left h]
theorem norm_nil : Norm [] := by simp [Norm]
theorem Vi {d : Nat} {l : List Nat} (h : Norm (d :: l)) : Norm l := by
 cases l with
 | nil => exact norm_nil
 | cons e l => simpa [Norm, List.getLast?_cons_cons] using h
theorem norm_ge (l : List Nat) (h : Norm l) (hne : l ≠ []) : B ^ (l.length - 1) ≤ val B l := by
 induction l with
 | nil => exact absurd rfl hne
 | cons d l ih =>
  cases l with
  | nil =>
   have : d ≠ 0 := by intro e; subst e; simp [Norm] at h
   simp [val]; omega
  | cons e l =>
   have h1 := ih (Vi h) (by simp)
   have h2 : B * B ^ (l.length) ≤ B * val B (e :: l) := Nat.mul_le_mul_left B (by simpa using h1)
   simp only [val, List.length_cons] at *
   rw [show l.length + 1 + 1 - 1 = l.length + 1 by omega, Nat.pow_succ']
   omega
theorem norm_pos (hB : 0 < B) (l : List Nat) (h : Norm l) (hne : l ≠ []) : 0 < val B l :=
 Nat.lt_of_lt_of_le (Nat.pow_pos hB) (norm_ge l h hne)
theorem norm_zero (hB : 0 < B) (l : List Nat) (h : Norm l) (h0 : val B l = 0) : l = [] := by
 cases l with
 | nil => rfl
 | cons d l => have := norm_pos hB _ h (by simp); omega
theorem val_inj (hB : 0 < B) : ∀ (l m : List Nat), Ok B l → Ok B m → Norm l → Norm m → val B l = val B m → l = m
 | [], m, _, _, _, nm, h => (norm_zero hB m nm (by simpa [val] using h.symm)).symm
 | d :: l, [], _, _, nl, _, h => by have := norm_pos hB _ nl (by simp); simp only [val] at h this; omega
 | d :: l, e :: m, ol, om, nl, nm, h => by
  have h1 := ol.head; have h2 := om.head
  simp only [val] at h
  have hd : d = e := by
   have a := congrArg (· % B) h
   simpa [Nat.add_mul_mod_self_left, Nat.mod_eq_of_lt h1, Nat.mod_eq_of_lt h2] using a
  subst hd
  have hv : val B l = val B m := Nat.eq_of_mul_eq_mul_left hB (by omega)
  rw [val_inj hB l m ol.tail om.tail (Vi nl) (Vi nm) hv]
theorem lt_of_length (hB : 0 < B) {l m : List Nat} (ol : Ok B l) (nm : Norm m) (h : l.length < m.length) : val B l < val B m := by
 have h1 := val_lt l ol
 have h2 := norm_ge (B := B) m nm (by intro e; subst e; simp at h)
 have h3 : B ^ l.length ≤ B ^ (m.length - 1) := Nat.pow_le_pow_right hB (by omega)
 omega
theorem length_le (hB : 0 < B) {l m : List Nat} (nl : Norm l) (om : Ok B m) (h : val B l ≤ val B m) : l.length ≤ m.length := by
 rcases Nat.lt_or_ge m.length l.length with hlt | hge
 ·have := lt_of_length hB om nl hlt; omega
 ·exact hge
def strip : List Nat → List Nat
 | [] => []
 | d :: l => match strip l with
  | [] => if d = 0 then [] else [d]
  | e :: m => d :: e :: m
theorem strip_val (l : List Nat) : val B (strip l) = val B l := by
 induction l with
 | nil => rfl
 | cons d l ih =>
  simp only [strip]
  split
  ·rename_i h; rw [h] at ih; simp only [val] at ih ⊢
   split <;> simp_all [val, ← ih]
  ·rename_i e m h; rw [h] at ih; simp only [val] at ih ⊢; rw [ih]
theorem strip_norm (l : List Nat) : Norm (strip l) := by
 induction l with
 | nil => exact norm_nil
 | cons d l ih =>
  simp only [strip]
  split
  ·split
   ·exact norm_nil
   ·rename_i h; simpa [Norm] using h
  ·rename_i e m h; rw [h] at ih; simpa [Norm, List.getLast?_cons_cons] using ih
theorem strip_of_norm (l : List Nat) (h : Norm l) : strip l = l := by
 induction l with
 | nil => rfl
 | cons d l ih =>
  simp only [strip, ih (Vi h)]
  cases l with
  | nil => have : d ≠ 0 := by intro e; subst e; simp [Norm] at h
           simp [this]
  | cons e m => rfl
theorem strip_ok {l : List Nat} (h : Ok B l) : Ok B (strip l) := by
 induction l with
 | nil => exact h
 | cons d l ih =>
  have hi := ih h.tail
  simp only [strip]
  split
  ·split
   ·exact Ok.nil
   ·exact Ok.cons h.head Ok.nil
  ·rename_i e m he; rw [he] at hi; exact Ok.cons h.head hi
theorem strip_take_self (l : List Nat) : strip l = l.take (strip l).length := by
 induction l with
 | nil => rfl
 | cons d l ih =>
  simp only [strip]
  split
  ·split
   ·rfl
   ·simp
  ·rename_i e m he; rw [he] at ih; simp only [List.length_cons, List.take_succ_cons] at ih ⊢
   rw [← ih]
theorem strip_len (l : List Nat) : (strip l).length ≤ l.length := by
 have := congrArg List.length (strip_take_self l)
 rw [List.length_take] at this
 omega
theorem QB (l : List Nat) : strip (l ++ [0]) = strip l := by
 induction l with
 | nil => rfl
 | cons d l ih => simp only [List.cons_append, strip, ih]
theorem strip_take (l : List Nat) (n : Nat) (h : n < l.length) (h0 : nth l n = 0) : strip (l.take (n + 1)) = strip (l.take n) := by
 rw [take_succ l n h, h0, QB]
theorem strip_take_ne (l : List Nat) (n : Nat) (h : n < l.length) (h0 : nth l n ≠ 0) : strip (l.take (n + 1)) = l.take (n + 1) := by
 apply strip_of_norm
 rw [take_succ l n h]
 simpa [Norm] using h0
def ordI (b : Bool) : Int := if b then -1 else 1
def cmpI (a b : Nat) : Int := if a < b then -1 else if a = b then 0 else 1
theorem cmpI_lt {a b : Nat} (h : a < b) : cmpI a b = -1 := by simp [cmpI, h]
theorem cmpI_gt {a b : Nat} (h : b < a) : cmpI a b = 1 := by
 unfold cmpI; rw [if_neg (by omega), if_neg (by omega)]
theorem cmpI_eq (a : Nat) : cmpI a a = 0 := by simp [cmpI]
theorem KQ (l : List Nat) (k : Nat) (h : k < l.length) : val B l = val B (l.take k) + B ^ k * nth l k + B ^ (k + 1) * val B (l.drop (k + 1)) := by
 rw [val_take_drop l (k + 1) (by omega), val_take_succ l k h]
theorem lt_at {l m : List Nat} {k : Nat} (hl : k < l.length) (hm : k < m.length) (ol : Ok B l) (hd : l.drop (k + 1) = m.drop (k + 1)) (h : nth l k < nth m k) : val B l < val B m := by
 rw [KQ l k hl, KQ m k hm, hd]
 have h1 := val_lt (l.take k) (ol.take k)
 rw [List.length_take, Nat.min_eq_left (by omega)] at h1
 have h2 : B ^ k * (nth l k + 1) ≤ B ^ k * nth m k := Nat.mul_le_mul_left _ h
 rw [Nat.mul_add] at h2
 omega
theorem drop_cons (l : List Nat) (k : Nat) (h : k < l.length) : l.drop k = nth l k :: l.drop (k + 1) := by
 rw [List.drop_eq_getElem_cons h]; unfold nth
 rw [List.getD_eq_getElem?_getD, List.getElem?_eq_getElem h]; rfl
end
end Big
end Go.Proofs.YtnlhjcfpfapafaaGreatDoor
namespace Go.Proofs.YtnlhjcfpfapafaaGreatDoor
open Go.RowKit
def Ty (w : World) (b : Nat) : Prop := ∃ cs, w.heap[b]? = some (.cells cs 112 (0, 0))
theorem Ty.same {w w' : World} {b : Nat} (h : Ty w b) (e : w'.heap[b]? = w.heap[b]?) : Ty w' b := by
 obtain ⟨cs, hc⟩ := h; exact ⟨cs, e.trans hc⟩
def Wd (w : World) (k : IntKind) (v : Value) (l : List Nat) : Prop :=
 ∃ A c, v = .slice A l.length c ∧ l.length ≤ c ∧ c ≤ 1152921504606846976 ∧
  (0 < l.length → ∃ b o, A = some ⟨b, o, none⟩ ∧ b < w.heap.size ∧ (∀ i, i < l.length → w.cell? ⟨b, o + i, none⟩ = some (.int k ((Big.nth l i : Nat) : Int))) ∧ Ty w b)
theorem Wd.keep {w w' : World} {k : IntKind} {v : Value} {l : List Nat} (h : Wd w k v l) (hb : Below w.heap.size w w') : Wd w' k v l := by
 obtain ⟨A, c, rfl, h1, h2, h3⟩ := h
 refine ⟨A, c, rfl, h1, h2, fun hl => ?_⟩
 obtain ⟨b, o, rfl, hlt, hc, hty⟩ := h3 hl
 exact ⟨b, o, rfl, Nat.lt_of_lt_of_le hlt hb.size, fun i hi => (hb.cell (p := ⟨b, o + i, none⟩) hlt).trans (hc i hi), hty.same (hb.block b hlt)⟩
theorem Wd.nil_ (w : World) (k : IntKind) : Wd w k (.slice none 0 0) [] := ⟨none, 0, rfl, Nat.le_refl _, by omega, fun h => absurd h (by simp)⟩
def Zv (w w' : World) : Prop := ∃ n, w' = w.drewN n
theorem Zv.refl (w : World) : Zv w w := ⟨0, rfl⟩
theorem Zv.drewN {a w : World} (h : Zv a w) (n : Nat) : Zv a (w.drewN n) := by
 obtain ⟨m, rfl⟩ := h; exact ⟨m + n, by rw [World.drewN_drewN]⟩
theorem Zv.trans {a b c : World} (h : Zv a b) (k : Zv b c) : Zv a c := by
 obtain ⟨n, rfl⟩ := k; exact h.drewN n
theorem Zv.cell {w w' : World} (h : Zv w w') (p : Addr) : w'.cell? p = w.cell? p := by obtain ⟨n, rfl⟩ := h; rfl
theorem Zv.frozen {w w' : World} (h : Zv w w') (p : Addr) : w'.frozen? p = w.frozen? p := by obtain ⟨n, rfl⟩ := h; rfl
theorem Zv.heap {w w' : World} (h : Zv w w') : w'.heap = w.heap := by obtain ⟨n, rfl⟩ := h; rfl
theorem Zv.below {w w' : World} (h : Zv w w') (B : Nat) : Below B w w' := by obtain ⟨n, rfl⟩ := h; exact ⟨rfl, rfl, rfl, Nat.le_refl _, fun _ _ => rfl⟩
theorem Zc4 {P : Program} {f : FuncId} {args : Array Value} {w : World} {n : Nat} {v : Value}
  (h : Calls P f args (w.drewN n) fun e w' => e = .returned v ∧ Zv (w.drewN n) w') : Calls P f args (w.drewN n) fun e w'' => e = .returned v ∧ ∃ m, w'' = w.drewN m :=
 h.mono fun _ _ ⟨he, m, hm⟩ => ⟨he, n + m, by rw [hm, World.drewN_drewN]⟩
theorem Ws {P : Program} {f : FuncId} {args : Array Value} {w : World} {n : Nat} {v : Value}
  (h : Calls P f args (w.drewN n) fun e w' => e = .returned v ∧ w.drewN n = w') : Calls P f args (w.drewN n) fun e w'' => e = .returned v ∧ ∃ m, w'' = w.drewN m :=
 h.mono fun _ _ ⟨he, hm⟩ => ⟨he, n, hm.symm⟩
theorem Zc5 {P : Program} {f : FuncId} {args : Array Value} {w : World} {v : Value}
  (h : Calls P f args w fun e w' => e = .returned v ∧ w = w') : Calls P f args w fun e w'' => e = .returned v ∧ w'' = w := h.mono fun _ _ ⟨he, hm⟩ => ⟨he, hm.symm⟩
theorem Zu {B : Nat} {a w : World} (h : Below B a w) (n : Nat) : Below B a (w.drewN n) := ⟨h.os, h.tape, h.output, h.size, h.block⟩
theorem ZbM {a b : Bool} (h : a = b) : Ending.returned (.bool a) = .returned (.bool b) := by rw [h]
theorem XN {k : IntKind} {a b : Int} (h : a = b) : Ending.returned (.int k a) = .returned (.int k b) := by rw [h]
theorem Wd.drew {w w' : World} {k : IntKind} {v : Value} {l : List Nat} (h : Wd w k v l) (hb : Zv w w') : Wd w' k v l := h.keep (hb.below _)
def WdB (B : Nat) (w : World) (k : IntKind) (v : Value) (l : List Nat) : Prop :=
 ∃ A c, v = .slice A l.length c ∧ l.length ≤ c ∧ c ≤ 1152921504606846976 ∧
  (0 < l.length → ∃ b o, A = some ⟨b, o, none⟩ ∧ b < B ∧ (∀ i, i < l.length → w.cell? ⟨b, o + i, none⟩ = some (.int k ((Big.nth l i : Nat) : Int))) ∧ Ty w b)
theorem WdB.wd {B : Nat} {w : World} {k : IntKind} {v : Value} {l : List Nat} (h : WdB B w k v l) (hB : B ≤ w.heap.size) : Wd w k v l := by
 obtain ⟨A, c, rfl, h1, h2, h3⟩ := h
 refine ⟨A, c, rfl, h1, h2, fun hp => ?_⟩
 obtain ⟨b, o, e, hb, hc, hty⟩ := h3 hp
 exact ⟨b, o, e, Nat.lt_of_lt_of_le hb hB, hc, hty⟩
theorem Wd.wdB {w : World} {k : IntKind} {v : Value} {l : List Nat} (h : Wd w k v l) : WdB w.heap.size w k v l := h
theorem WdB.more {B B' : Nat} {w : World} {k : IntKind} {v : Value} {l : List Nat} (h : WdB B w k v l) (hB : B ≤ B') : WdB B' w k v l := by
 obtain ⟨A, c, rfl, h1, h2, h3⟩ := h
 refine ⟨A, c, rfl, h1, h2, fun hp => ?_⟩
 obtain ⟨b, o, e, hb, hc, hty⟩ := h3 hp
 exact ⟨b, o, e, Nat.lt_of_lt_of_le hb hB, hc, hty⟩
theorem WdB.keep {B : Nat} {w w' : World} {k : IntKind} {v : Value} {l : List Nat} (h : WdB B w k v l) (hk : ∀ b, b < B → w'.heap[b]? = w.heap[b]?) : WdB B w' k v l := by
 obtain ⟨A, c, rfl, h1, h2, h3⟩ := h
 refine ⟨A, c, rfl, h1, h2, fun hp => ?_⟩
 obtain ⟨b, o, e, hb, hc, hty⟩ := h3 hp
 exact ⟨b, o, e, hb, fun i hi => (World.cell?_of_block (hk b hb)).trans (hc i hi), hty.same (hk b hb)⟩
theorem WdB.below {B : Nat} {w w' : World} {k : IntKind} {v : Value} {l : List Nat} (h : WdB B w k v l) (hb : Below B w w') : WdB B w' k v l :=
 h.keep fun b hlt => hb.block b hlt
def ZP (g : Nat) (w w' : World) : Prop := w.grownBy w' (some g)
theorem ZP.refl (g : Nat) (w : World) : ZP g w w := ⟨rfl, rfl, rfl, Nat.le_refl _, fun _ _ _ => rfl⟩
theorem ZP.cell {g : Nat} {w w' : World} (h : ZP g w w') {b o : Nat} (hb : b < w.heap.size) (hne : b ≠ g) : w'.cell? ⟨b, o, none⟩ = w.cell? ⟨b, o, none⟩ :=
 World.cell?_of_block (h.block b hb (by intro e; injection e with e; exact hne e))
theorem ZP.drewN {g : Nat} {w w' : World} (h : ZP g w w') (n : Nat) : ZP g w (w'.drewN n) := ⟨h.os, h.tape, h.output, h.size, h.block⟩
theorem ZP.drew {g : Nat} {w w' : World} (h : ZP g w w') : ZP g w w'.drew := ⟨h.os, h.tape, h.output, h.size, h.block⟩
theorem ZP.setCell {g : Nat} {w w' : World} (h : ZP g w w') (i : Nat) (u : Value) : ZP g w (w'.setCell ⟨g, i, none⟩ u) :=
 ⟨h.os, h.tape, h.output, by simpa [World.setCell] using h.size, fun j hj hne => (Below.heap_setCell w' ⟨g, i, none⟩ u j (by intro e; exact hne (by rw [e]))).trans (h.block j hj hne)⟩
theorem ZP.wdB {g B : Nat} {w w' : World} (h : ZP g w w') (hBg : B ≤ g) (hB : B ≤ w.heap.size) {k : IntKind} {v : Value} {l : List Nat} (hw : WdB B w k v l) : WdB B w' k v l :=
 hw.keep fun b hb => h.block b (Nat.lt_of_lt_of_le hb hB) (by intro e; injection e with e; omega)
theorem ZP.below {g B : Nat} {w0 w w' : World} (h : ZP g w w') (hb : Below B w0 w) (hBg : B ≤ g) (hB : B ≤ w.heap.size) : Below B w0 w' :=
 hb.grown h hB (fun k hk => by injection hk with hk; omega)
theorem ZP.trans {g : Nat} {a b c : World} (h : ZP g a b) (k : ZP g b c) : ZP g a c :=
 ⟨k.os.trans h.os, k.tape.trans h.tape, k.output.trans h.output, Nat.le_trans h.size k.size, fun j hj hne => (k.block j (Nat.lt_of_lt_of_le hj h.size) hne).trans (h.block j hj hne)⟩
theorem ZP.of_below {g : Nat} {w w' : World} (h : Below w.heap.size w w') : ZP g w w' := ⟨h.os, h.tape, h.output, h.size, fun j hj _ => h.block j hj⟩
def Zj (w : World) (v : Value) (n : Nat) : Prop := ∃ l, Wd w .u64 v l ∧ Big.Ok Big.M64 l ∧ Big.Norm l ∧ Big.val Big.M64 l = n
theorem Zj.keep {w w' : World} {v : Value} {n : Nat} (h : Zj w v n) (hb : Below w.heap.size w w') : Zj w' v n := by
 obtain ⟨l, h1, h2⟩ := h; exact ⟨l, h1.keep hb, h2⟩
theorem Zj.drew {w w' : World} {v : Value} {n : Nat} (h : Zj w v n) (hb : Zv w w') : Zj w' v n := h.keep (hb.below _)
theorem Zj.nil_ (w : World) : Zj w (.slice none 0 0) 0 := ⟨[], Wd.nil_ _ _, Big.Ok.nil, Big.norm_nil, rfl⟩
theorem Yh {l : List Nat} {K : Nat} (nl : Big.Norm l) (h : Big.val Big.M64 l < Big.M64 ^ K) : l.length ≤ K := by
 rcases Nat.lt_or_ge K l.length with hlt | hge
 ·have h1 := Big.norm_ge (B := Big.M64) l nl (by intro e; subst e; simp at hlt)
  have h2 : Big.M64 ^ K ≤ Big.M64 ^ (l.length - 1) := Nat.pow_le_pow_right Big.M64_pos (by omega)
  omega
 ·exact hge
theorem Wd.new {w : World} {k : IntKind} {g : Nat} {l : List Nat} {cs : Array Value} (n c : Nat) (hn : n = l.length) (hc : l.length ≤ c) (hc2 : c ≤ 1152921504606846976)
  (hb : w.heap[g]? = some (.cells cs 112 (0, 0))) (h : ∀ i, i < l.length → cs[i]? = some (.int k ((Big.nth l i : Nat) : Int))) : Wd w k (.slice (some ⟨g, 0, none⟩) n c) l := by
 subst hn
 refine ⟨_, c, rfl, hc, hc2, fun _ => ⟨g, 0, rfl, ?_, fun i hi => ?_, cs, hb⟩⟩
 ·rcases Nat.lt_or_ge g w.heap.size with h1 | h1
  ·exact h1
  ·rw [Array.getElem?_eq_none h1] at hb; cases hb
 ·rw [Nat.zero_add, cell_of_row w g i cs 112 (0, 0) hb]; exact h i hi
theorem Wd.cut {w : World} {k : IntKind} {A : Option Addr} {l : List Nat} {c n : Nat} (h : Wd w k (.slice A l.length c) l) (hn : n ≤ l.length) : Wd w k (.slice A n c) (l.take n) := by
 obtain ⟨A', c', e, h1, h2, h3⟩ := h
 cases e
 have hl : (l.take n).length = n := by rw [List.length_take, Nat.min_eq_left hn]
 refine ⟨A, c, by rw [hl], by omega, h2, fun hp => ?_⟩
 obtain ⟨b, o, rfl, hlt, hc, hty⟩ := h3 (by omega)
 refine ⟨b, o, rfl, hlt, fun i hi => ?_, hty⟩
 rw [hc i (by omega)]
 unfold Big.nth
 rw [List.getD_eq_getElem?_getD, List.getD_eq_getElem?_getD, List.getElem?_take_of_lt (by omega)]
def Zs (n : Nat) : Nat := n % 18446744073709551616
def ZN (n : Nat) : Nat := n / 18446744073709551616
theorem XO (n : Nat) : Zs n < 18446744073709551616 := by unfold Zs; omega
theorem lo_hi (n : Nat) : n = Zs n + 18446744073709551616 * ZN n := by unfold Zs ZN; omega
theorem Zet {n k : Nat} (h : n < (k + 1) * 18446744073709551616) : ZN n ≤ k := by unfold ZN; omega
theorem Zc6 {x y c : Nat} (hx : x < 18446744073709551616) (hy : y < 18446744073709551616) (hc : c ≤ 1) : ZN (x + y + c) ≤ 1 := by unfold ZN; omega
def X5 (x y b : Nat) : Nat := if x < y + b then 1 else 0
def Z7 (x y b : Nat) : Nat := (x + 18446744073709551616 - y - b) % 18446744073709551616
theorem V8 (x y b : Nat) : X5 x y b ≤ 1 := by unfold X5; split <;> omega
theorem V9 (x y b : Nat) : Z7 x y b < 18446744073709551616 := by unfold Z7; omega
theorem QM {x y b : Nat} (hx : x < 18446744073709551616) (hy : y < 18446744073709551616) (hb : b ≤ 1) : x + 18446744073709551616 * X5 x y b = Z7 x y b + y + b := by
 unfold X5 Z7; split <;> omega
theorem Zmm {x y c : Nat} (hx : x < 18446744073709551616) (hy : y < 18446744073709551616) (hc : c < 18446744073709551616) : x * y + c < 18446744073709551616 * 18446744073709551616 := by
 have : x * y ≤ 18446744073709551615 * 18446744073709551615 := Nat.mul_le_mul (by omega) (by omega)
 omega
theorem Ua {x y c : Nat} (hx : x < 18446744073709551616) (hy : y < 18446744073709551616) (hc : c < 18446744073709551616) : ZN (x * y + c) < 18446744073709551616 := by
 have := Zmm hx hy hc
 unfold ZN; omega
theorem ZjL (p m : Nat) : ZN p + ZN (Zs p + m) = ZN (p + m) := by unfold ZN Zs; omega
theorem ZjM (p m : Nat) : Zs (Zs p + m) = Zs (p + m) := by unfold Zs; omega
def Tryz.lays25_ren : Go.Shelf.Ren := ⟨fun | 25 => 154 | n => n, fun | 22 => 112 | n => n, fun | n => n⟩
theorem Tryz.lays25 : Go.Proofs.Lays7.n25 Tryz.prog Tryz.lays25_ren := {
 mixed := by kernel_rfl
 f25 := Tryz.func154.trans (congrArg some (by kernel_rfl))
 t22 := Tryz.underlying112
 a22 := Tryz.isAgg112
 z22 := Tryz.sizeOf112
 v22 := Tryz.zeroValue112
 i22 := by kernel_rfl }
def Tryz.lays26_ren : Go.Shelf.Ren := ⟨fun | 26 => 155 | n => n, fun | 22 => 112 | n => n, fun | n => n⟩
theorem Tryz.lays26 : Go.Proofs.Lays7.n26 Tryz.prog Tryz.lays26_ren := {
 mixed := by kernel_rfl
 f26 := Tryz.func155.trans (congrArg some (by kernel_rfl))
 t22 := Tryz.underlying112
 a22 := Tryz.isAgg112
 z22 := Tryz.sizeOf112
 v22 := Tryz.zeroValue112
 i22 := by kernel_rfl }
theorem ZbN (x y c : Nat) (hc : c ≤ 1) (w : World) : (callFunc 154 #[.int .u64 x, .int .u64 y, .int .u64 c]).run Tryz.prog w =
  .ok (.value (.tuple #[.int .u64 ((Zs (x + y + c) : Nat) : Int), .int .u64 ((ZN (x + y + c) : Nat) : Int)])) w := Any7.bits_Add64 Tryz.lays25 x y c hc w
theorem Vj (x y : Nat) (w : World) : (callFunc 154 #[.int .u64 x, .int .u64 y, .int .u64 0]).run Tryz.prog w =
  .ok (.value (.tuple #[.int .u64 ((Zs (x + y) : Nat) : Int), .int .u64 ((ZN (x + y) : Nat) : Int)])) w := ZbN x y 0 (by omega) w
theorem ZbO (x y b : Nat) (hb : b ≤ 1) (w : World) : (callFunc 155 #[.int .u64 x, .int .u64 y, .int .u64 b]).run Tryz.prog w =
  .ok (.value (.tuple #[.int .u64 ((Z7 x y b : Nat) : Int), .int .u64 ((X5 x y b : Nat) : Int)])) w := Any7.bits_Sub64 Tryz.lays26 x y b hb w
theorem ZlR (x y : Nat) (hx : x < 18446744073709551616) (hy : y < 18446744073709551616) (w : World) :
  Calls Tryz.prog 169 #[.int .u64 x, .int .u64 y] w fun e w' => e = .returned (.tuple #[.int .u64 ((ZN (x * y) : Nat) : Int), .int .u64 ((Zs (x * y) : Nat) : Int)]) ∧ w = w' :=
 (Tryz.bits_Mul64 x y hx hy w).mono fun _ _ ⟨h1, h2⟩ => ⟨h1, h2.symm⟩
theorem Yi (v u m : Nat) (hv : v < 18446744073709551616) (hu : u < 18446744073709551616) (hm : m < 18446744073709551616) (w : World) :
  Calls Tryz.prog 156 #[.int .u64 v, .int .u64 u, .int .u64 m] w fun e w' =>
   e = .returned (.tuple #[.int .u64 ((Zs (v * u + m) : Nat) : Int), .int .u64 ((ZN (v * u + m) : Nat) : Int)]) ∧ w = w' := by
 have H1 := Lib.hid (ZjL (v * u) m)
 have H2 := Lib.hid (ZjM (v * u) m)
 have b1 : ((ZN (v * u) : Nat) : Int) + ((ZN (Zs (v * u) + m) : Nat) : Int) < 18446744073709551616 := by
  have := Ua hv hu hm
  have := H1.out
  omega
 go_enter Tryz.func156, Tryz.ntmps156
 go_wp2_with (first
  | (go_at_call 169; refine (ZlR _ _ hv hu _).mono ?_; rintro e w' ⟨rfl, rfl⟩)
  | simp only [Vj (Zs (v * u)) m])
 go_ret2
 exact ⟨by rw [← H1.out, ← H2.out]; simp, rfl⟩
theorem X6 (w : World) (v : Value) (l : List Nat) (i : Nat) (h : Wd w .u64 v l) :
  Calls Tryz.prog 130 #[v, .int .i64 (i : Int)] w fun e w' => e = .returned (.int .u64 ((Big.nth l i : Nat) : Int)) ∧ w = w' := by
 obtain ⟨A, c, rfl, h1, h2, h3⟩ := h
 by_cases hi : i < l.length
 ·obtain ⟨b, o, rfl, hlt, hc, -⟩ := h3 (by omega)
  have hcell := hc i hi
  clear hc h3
  go_enter Tryz.func130, Tryz.ntmps130
  go_wp2
  go_ret
  exact ⟨rfl, rfl⟩
 ·have H0 := Lib.hid (Big.nth_ge l i (by omega))
  clear h3
  go_enter Tryz.func130, Tryz.ntmps130
  go_wp2
  go_ret
  exact ⟨by rw [H0.out]; rfl, rfl⟩
theorem Vk (w : World) (b : Bool) :
  Calls Tryz.prog 128 #[.bool b] w fun e w' => e = .returned (.int .i64 (Big.ordI b)) ∧ w = w' := by
 cases b <;>
 ·go_enter Tryz.func128, Tryz.ntmps128
  go_wp2
  go_ret
  exact ⟨rfl, rfl⟩
theorem ZO (w : World) (v : Value) (l : List Nat) (h : Wd w .u64 v l) :
  Calls Tryz.prog 66 #[v] w fun e w' => e = .returned (.bool (decide (l = [1]))) ∧ w = w' := by
 obtain ⟨A, c, rfl, h1, h2, h3⟩ := h
 by_cases hl : l.length = 1
 ·obtain ⟨x, rfl⟩ := List.length_eq_one_iff.1 hl
  obtain ⟨b, o, rfl, hlt, hc, -⟩ := h3 (by omega)
  have hcell : w.cell? ⟨b, o, none⟩ = some (.int .u64 (x : Int)) := hc 0 (by omega)
  clear hc h3 h1
  go_enter Tryz.func66, Tryz.ntmps66
  go_wp2
  go_ret
  exact ⟨ZbM (by rw [Bool.eq_iff_iff]; simp; omega), rfl⟩
 ·have e1 : decide (l = [1]) = false := decide_eq_false (fun e => hl (by rw [e]; rfl))
  rw [e1]
  have e2 : ((l.length : Int) == 1) = false := beq_eq_false_iff_ne.2 (by omega)
  clear h3
  go_enter Tryz.func66, Tryz.ntmps66
  go_wp2
  go_ret
  exact ⟨rfl, rfl⟩
theorem trim_slice (w : World) (A : Option Addr) (c : Nat) (l : List Nat) (h : Wd w .u64 (.slice A l.length c) l) :
  Calls Tryz.prog 100 #[.slice A l.length c] w fun e w' => e = .returned (.slice A (Big.strip l).length c) ∧ w = w' := by
 obtain ⟨A', c', e, h1, h2, h3⟩ := h
 cases e
 go_enter Tryz.func100, Tryz.ntmps100
 go_wp2
 go_loop [3] (fun n => ∃ k : Nat, k ≤ l.length ∧ n = .int .i64 k ∧ Hid (Big.strip (l.take k) = Big.strip l)) (fun n => (intOf n).toNat)
 case atStart => exact ⟨l.length, Nat.le_refl _, rfl, Lib.hid (by rw [List.take_length])⟩
 case round =>
  obtain ⟨k, hk, rfl, HS⟩ := hrel
  by_cases hk0 : k = 0
  ·subst hk0
   have HN := Lib.hid (show (Big.strip l).length = 0 by rw [← HS.out, List.take_zero]; rfl)
   go_wp2
   go_ret
   exact ⟨by rw [HN.out]; rfl, rfl⟩
  ·obtain ⟨b, o, rfl, hlt, hc, -⟩ := h3 (by omega)
   have hcell := hc (k - 1) (by omega)
   clear hc h3
   go_wp2
   ·have hz : ((Big.nth l (k - 1) : Nat) == (0 : Int)) = true := by assumption
    refine ⟨⟨k - 1, by omega, ?_, Lib.hid ?_⟩, by simp [intOf]; omega⟩
    ·congr 1; omega
    ·rw [← HS.out]
     have := Big.strip_take l (k - 1) (by omega) (by simpa using hz)
     rw [show k - 1 + 1 = k by omega] at this
     exact this.symm
   ·have hz : ((Big.nth l (k - 1) : Nat) == (0 : Int)) = false := by assumption
    have h2 := Big.strip_take_ne l (k - 1) (by omega) (by simpa using hz)
    rw [show k - 1 + 1 = k by omega, HS.out] at h2
    have HN := Lib.hid (show (Big.strip l).length = k by rw [h2, List.length_take]; omega)
    clear h2
    go_ret
    exact ⟨by rw [HN.out]; rfl, rfl⟩
theorem trim_any (w : World) (v : Value) (l : List Nat) (h : Wd w .u64 v l) :
  Calls Tryz.prog 100 #[v] w fun e w' => ∃ v', e = .returned v' ∧ Wd w .u64 v' (Big.strip l) ∧ w = w' := by
 obtain ⟨A, c, rfl, h1, h2, h3⟩ := h
 refine (trim_slice w A c l ⟨A, c, rfl, h1, h2, h3⟩).mono fun e w' ⟨he, hw⟩ => ⟨_, he, ?_, hw⟩
 have := Wd.cut (w := w) (k := .u64) (A := A) (l := l) (c := c) (n := (Big.strip l).length) ⟨A, c, rfl, h1, h2, h3⟩ (Big.strip_len l)
 rwa [← Big.strip_take_self] at this
theorem Vl (w : World) (n : Nat) :
  Calls Tryz.prog 79 #[.int .u64 (n : Int)] w fun e w' => ∃ v', e = .returned v' ∧ Wd w' .u64 v' (if n = 0 then [] else [n]) ∧ Below w.heap.size w w' := by
 by_cases hn : n = 0
 ·subst hn
  go_enter Tryz.func79, Tryz.ntmps79
  go_wp2
  go_ret
  exact ⟨_, rfl, Wd.nil_ _ _, Below.refl _ _⟩
 ·have h0 : ((n : Int) == 0) = false := beq_eq_false_iff_ne.2 (by omega)
  go_enter Tryz.func79, Tryz.ntmps79
  go_wp2
  go_ret
  refine ⟨_, rfl, ?_, ?_⟩
  ·refine Wd.new 1 1 rfl (Nat.le_refl _) (by omega) (heap_alloc_new w _) (fun i hi => ?_)
   have : i = 0 := by simp at hi; omega
   subst this; rfl
  ·exact (Below.refl _ _).alloc (Nat.le_refl _) _
theorem cmp_any (w : World) (v u : Value) (l m : List Nat) (h : Wd w .u64 v l) (k : Wd w .u64 u m) (ol : Big.Ok Big.M64 l) (om : Big.Ok Big.M64 m) (nl : Big.Norm l) (nm : Big.Norm m) :
  Calls Tryz.prog 101 #[v, u] w fun e w' => e = .returned (.int .i64 (Big.cmpI (Big.val Big.M64 l) (Big.val Big.M64 m))) ∧ Zv w w' := by
 obtain ⟨A, c, rfl, h1, h2, h3⟩ := h
 obtain ⟨A2, c2, rfl, k1, k2, k3⟩ := k
 rcases Nat.lt_trichotomy l.length m.length with hlt | heq | hgt
 ·have H := Lib.hid (Big.cmpI_lt (Big.lt_of_length Big.M64_pos ol nm hlt))
  have hne : ((l.length : Int) != m.length) = true := by rw [bne_iff_ne]; omega
  clear h3 k3
  go_enter Tryz.func101, Tryz.ntmps101
  go_wp2_with (go_at_call 128; refine (Vk _ _).mono ?_; rintro e w' ⟨rfl, rfl⟩)
  go_ret
  exact ⟨by rw [H.out]; simp [Big.ordI], Zv.refl _⟩
 ·obtain ⟨N, hN⟩ : ∃ N, l.length = N := ⟨_, rfl⟩
  rw [hN] at h3 h1 heq
  rw [← heq] at k3 k1
  have HN := Lib.hid hN; have HM := Lib.hid heq.symm
  rw [hN, ← heq]
  have hne : ((N : Int) != N) = false := by simp
  clear hN heq
  go_enter Tryz.func101, Tryz.ntmps101
  go_wp2_with fail
  go_loopw [5] (fun i wr => ∃ k : Nat, k ≤ N ∧ i = .int .i64 ((k : Int) - 1) ∧ Zv w wr ∧ Hid (l.drop k = m.drop k)) (fun i _ => (intOf i + 1).toNat)
  case atStart => exact ⟨N, Nat.le_refl _, rfl, Zv.refl _, Lib.hid (by rw [List.drop_eq_nil_of_le (by have := HN.out; omega), List.drop_eq_nil_of_le (by have := HM.out; omega)])⟩
  case round =>
   obtain ⟨k, hk, rfl, hd, HS⟩ := hrel
   rcases Nat.eq_zero_or_pos k with rfl | hp
   ·go_wp2
    go_ret
    have e : l = m := by simpa using HS.out
    exact ⟨by rw [e, Big.cmpI_eq]; simp, hd⟩
   ·obtain ⟨j, rfl⟩ : ∃ j, k = j + 1 := ⟨k - 1, by omega⟩
    rw [show (((j + 1 : Nat) : Int) - 1) = (j : Int) by omega]
    obtain ⟨b, o, rfl, hlt, hc, -⟩ := h3 (by omega)
    obtain ⟨b2, o2, rfl, hlt2, hc2, -⟩ := k3 (by omega)
    have hcell := (hd.cell _).trans (hc j (by omega))
    have hcell2 := (hd.cell _).trans (hc2 j (by omega))
    have HD := Lib.hid hd
    have hl := HN.out; have hm := HM.out
    rcases Nat.lt_trichotomy (Big.nth l j) (Big.nth m j) with hj | hj | hj
    ·have H := Lib.hid (Big.cmpI_lt (Big.lt_at (k := j) (by omega) (by omega) ol HS.out hj))
     have t1 : (((Big.nth l j : Nat) : Int) != ((Big.nth m j : Nat) : Int)) = true := by rw [bne_iff_ne]; omega
     clear hc hc2 h3 k3 hd hl hm
     go_wp2_with fail
     go_quiet (fail)
     go_wp2_with fail
     have g1 : (wr.drewN nq).cell? ⟨b, o + j, none⟩ = some (.int .u64 ((Big.nth l j : Nat) : Int)) := hcell
     have g2 : (wr.drewN nq).cell? ⟨b2, o2 + j, none⟩ = some (.int .u64 ((Big.nth m j : Nat) : Int)) := hcell2
     have HE := Lib.hid (HD.out.drewN nq)
     clear HD hcell hcell2
     generalize wr.drewN nq = w1 at g1 g2 HE ⊢
     go_quiet ((go_at_call 128; exact Ws (Vk _ _)))
     go_wp2
     go_ret
     exact ⟨by rw [H.out]; simp [Big.ordI], (HE.out.drewN _)⟩
    ·have HS' := Lib.hid (show l.drop j = m.drop j by rw [Big.drop_cons l j (by omega), Big.drop_cons m j (by omega), HS.out, hj])
     have t1 : (((Big.nth l j : Nat) : Int) != ((Big.nth m j : Nat) : Int)) = false := by rw [bne_eq_false_iff_eq]; omega
     clear hc hc2 h3 k3 hd hl hm hj
     go_wp2_with fail
     go_quiet (fail)
     go_wp2_with fail
     go_roundw
     case rel => exact ⟨j, by omega, rfl, HD.out.drewN _, HS'⟩
     case measure => simp [intOf]
    ·have H := Lib.hid (Big.cmpI_gt (Big.lt_at (k := j) (by omega) (by omega) om HS.out.symm hj))
     have t1 : (((Big.nth l j : Nat) : Int) != ((Big.nth m j : Nat) : Int)) = true := by rw [bne_iff_ne]; omega
     clear hc hc2 h3 k3 hd hl hm
     go_wp2_with fail
     go_quiet (fail)
     go_wp2_with fail
     have g1 : (wr.drewN nq).cell? ⟨b, o + j, none⟩ = some (.int .u64 ((Big.nth l j : Nat) : Int)) := hcell
     have g2 : (wr.drewN nq).cell? ⟨b2, o2 + j, none⟩ = some (.int .u64 ((Big.nth m j : Nat) : Int)) := hcell2
     have HE := Lib.hid (HD.out.drewN nq)
     clear HD hcell hcell2
     generalize wr.drewN nq = w1 at g1 g2 HE ⊢
     go_quiet ((go_at_call 128; exact Ws (Vk _ _)))
     go_wp2
     go_ret
     exact ⟨by rw [H.out]; simp [Big.ordI]; omega, (HE.out.drewN _)⟩
 ·have H := Lib.hid (Big.cmpI_gt (Big.lt_of_length Big.M64_pos om nl hgt))
  have hne : ((l.length : Int) != m.length) = true := by rw [bne_iff_ne]; omega
  clear h3 k3
  go_enter Tryz.func101, Tryz.ntmps101
  go_wp2_with (go_at_call 128; refine (Vk _ _).mono ?_; rintro e w' ⟨rfl, rfl⟩)
  go_ret
  exact ⟨by rw [H.out]; simp [Big.ordI]; omega, Zv.refl _⟩
end Go.Proofs.YtnlhjcfpfapafaaGreatDoor
namespace Go.Proofs.YtnlhjcfpfapafaaGreatDoor
namespace Big
section
variable {B : Nat}
theorem val_snoc (zs : List Nat) (s : Nat) : val B (zs ++ [s]) = val B zs + B ^ zs.length * s := by
 rw [val_append]; simp [val]
theorem add_step {zs : List Nat} {k o o' s x y X Y : Nat} (hl : zs.length = k) (h : val B zs + B ^ k * o = X + Y) (hs : x + y + o = s + B * o') :
  val B (zs ++ [s]) + B ^ (k + 1) * o' = (X + B ^ k * x) + (Y + B ^ k * y) := by
 subst hl
 rw [val_snoc, Nat.pow_succ, Nat.mul_assoc]
 have e : B ^ zs.length * (x + y + o) = B ^ zs.length * (s + B * o') := by rw [hs]
 simp only [Nat.mul_add] at e
 omega
theorem sub_step {zs : List Nat} {k o o' s x y X Y : Nat} (hl : zs.length = k) (h : val B zs + Y = X + B ^ k * o) (hs : x + B * o' = s + y + o) :
  val B (zs ++ [s]) + (Y + B ^ k * y) = (X + B ^ k * x) + B ^ (k + 1) * o' := by
 subst hl
 rw [val_snoc, Nat.pow_succ, Nat.mul_assoc]
 have e : B ^ zs.length * (x + B * o') = B ^ zs.length * (s + y + o) := by rw [hs]
 simp only [Nat.mul_add] at e
 omega
theorem mul_step {zs : List Nat} {k o o' s z v w Z Y : Nat} (hl : zs.length = k) (h : val B zs + B ^ k * o = Z + Y * w) (hs : z + v * w + o = s + B * o') :
  val B (zs ++ [s]) + B ^ (k + 1) * o' = (Z + B ^ k * z) + (Y + B ^ k * v) * w := by
 subst hl
 rw [val_snoc, Nat.pow_succ, Nat.mul_assoc]
 have e : B ^ zs.length * (z + v * w + o) = B ^ zs.length * (s + B * o') := by rw [hs]
 simp only [Nat.mul_add, Nat.add_mul] at e ⊢
 rw [Nat.mul_assoc (B ^ zs.length) v w]
 omega
theorem mulsub_step {zs : List Nat} {k o o' l l' s x v w t X Y : Nat} (hl : zs.length = k)
  (h : val B zs + Y * w = X + B ^ k * o + B ^ k * l) (h1 : v * w + o = t + B * o') (h2 : x + B * l' = s + t + l) :
  val B (zs ++ [s]) + (Y + B ^ k * v) * w = (X + B ^ k * x) + B ^ (k + 1) * o' + B ^ (k + 1) * l' := by
 subst hl
 rw [val_snoc, Nat.pow_succ, Nat.mul_assoc, Nat.mul_assoc]
 have e1 : B ^ zs.length * (v * w + o) = B ^ zs.length * (t + B * o') := by rw [h1]
 have e2 : B ^ zs.length * (x + B * l') = B ^ zs.length * (s + t + l) := by rw [h2]
 simp only [Nat.mul_add, Nat.add_mul] at e1 e2 ⊢
 rw [Nat.mul_assoc (B ^ zs.length) v w]
 omega
end
theorem Zg8 {P X Y q xx xl yy yl : Nat} (hX : X = xx * P + xl) (hxl : xl < P) (hY : Y = yy * P + yl) (h : q * Y ≤ X) : q * yy ≤ xx := by
 have h1 : q * (yy * P) ≤ q * Y := Nat.mul_le_mul_left q (by omega)
 have h2 : q * yy * P < (xx + 1) * P := by rw [Nat.mul_assoc, Nat.add_mul]; omega
 have := Nat.lt_of_mul_lt_mul_right h2
 omega
theorem guess_div {P X Y q xx xl yy yl : Nat} (hX : X = xx * P + xl) (hxl : xl < P) (hY : Y = yy * P + yl) (h : q * Y ≤ X) (hyy : 0 < yy) : q ≤ xx / yy :=
 (Nat.le_div_iff_mul_le hyy).2 (Zg8 hX hxl hY h)
theorem guess_le {P B X Y q g xx xl yy yl : Nat} (hX : X = xx * P + xl) (hY : Y = yy * P + yl) (hyl : yl < P) (hg : g * yy ≤ xx) (hq : X < (q + 1) * Y) (hgB : g ≤ B) (hyy : B ≤ yy) : g ≤ q + 1 := by
 rcases Nat.lt_or_ge (q + 1) g with hlt | hge
 ·exfalso
  have h1 : (q + 1) * Y ≤ (g - 1) * Y := Nat.mul_le_mul_right Y (by omega)
  have h2 : (g - 1) * Y ≤ (g - 1) * (yy * P + P) := Nat.mul_le_mul_left _ (by omega)
  have h3 : (g - 1) * (yy * P + P) = (g - 1) * (yy + 1) * P := by rw [Nat.mul_assoc, Nat.add_mul, Nat.one_mul]
  have h4 : g * yy * P ≤ xx * P := Nat.mul_le_mul_right P hg
  have h5 : g * yy * P < (g - 1) * (yy + 1) * P := by omega
  have h6 := Nat.lt_of_mul_lt_mul_right h5
  have h7 : g * yy = (g - 1) * yy + yy := by
   conv => lhs; rw [show g = g - 1 + 1 by omega]
   rw [Nat.add_mul, Nat.one_mul]
  rw [Nat.mul_add, Nat.mul_one] at h6
  omega
 ·exact hge
end Big
end Go.Proofs.YtnlhjcfpfapafaaGreatDoor
