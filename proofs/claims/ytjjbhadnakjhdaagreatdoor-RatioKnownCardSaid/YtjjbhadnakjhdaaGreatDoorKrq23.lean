/- Contracts, in this order: Calls run, all of them. · Runs over fractions' bytes that are not looked into: calls t -/
import Derived.Test.YtjjbhadnakjhdaaGreatDoorKrq19
import Derived.Test.YtjjbhadnakjhdaaGreatDoorKrq20
import Derived.Test.YtjjbhadnakjhdaaGreatDoorKrq21
import Derived.Test.YtjjbhadnakjhdaaGreatDoorKrq22
import Derived.Test.YtjjbhadnakjhdaaGreatDoorKrq18
namespace Go.Proofs.YtjjbhadnakjhdaaGreatDoor
open Go Go.RowKit
namespace Ev
noncomputable def kxAll : List Fact := [kx0, kx1, kx2, kx3, kx4, kx5, kx6, kx7, kx8, kx9, kx10, kx11, kx12, kx13, kx14, kx15, kx16, kx17, kx18, kx19, kx20, kx21, kx22, kx23, kx24, kx25, kx26]
theorem kxAll_ok : ∀ x ∈ kxAll, x.ok := by
  intro x hx
  simp only [kxAll, List.mem_cons, List.not_mem_nil, or_false] at hx
  rcases hx with rfl | rfl | rfl | rfl | rfl | rfl | rfl | rfl | rfl | rfl | rfl | rfl | rfl | rfl | rfl | rfl | rfl | rfl | rfl | rfl | rfl | rfl | rfl | rfl | rfl | rfl | rfl
  · exact kx0_ok
  · exact kx1_ok
  · exact kx2_ok
  · exact kx3_ok
  · exact kx4_ok
  · exact kx5_ok
  · exact kx6_ok
  · exact kx7_ok
  · exact kx8_ok
  · exact kx9_ok
  · exact kx10_ok
  · exact kx11_ok
  · exact kx12_ok
  · exact kx13_ok
  · exact kx14_ok
  · exact kx15_ok
  · exact kx16_ok
  · exact kx17_ok
  · exact kx18_ok
  · exact kx19_ok
  · exact kx20_ok
  · exact kx21_ok
  · exact kx22_ok
  · exact kx23_ok
  · exact kx24_ok
  · exact kx25_ok
  · exact kx26_ok
end Ev
end Go.Proofs.YtjjbhadnakjhdaaGreatDoor
namespace Go.Proofs.YtjjbhadnakjhdaaGreatDoor
open Go Go.RowKit
namespace Ev
set_option maxRecDepth 100000
noncomputable def numP (v : Value) : Option Nat := match v with
  | .agg cs => match cs.toList with
    | [a, s, d] => match a with
      | .bool b => match s with
        | .string t => match d with
          | .string u => cond (!b && (leadB t.data.toList && eqS u ⟨#[1]⟩)) (some (Big.bnum t.data.toList)) none
          | _ => none
        | _ => none
      | _ => none
    | _ => none
  | _ => none
theorem numP_ok {v : Value} {n : Nat} (e : numP v = some n) : v = .agg #[.bool false, .string (bst n), .string ⟨#[1]⟩] := by
  unfold numP at e
  cases v <;> simp only [reduceCtorEq] at e
  rename_i cs
  obtain ⟨l⟩ := cs
  rcases l with _ | ⟨a, _ | ⟨s, _ | ⟨d, _ | ⟨z, l⟩⟩⟩⟩ <;> simp only [reduceCtorEq] at e
  cases a <;> simp only [reduceCtorEq] at e
  cases s <;> simp only [reduceCtorEq] at e
  cases d <;> simp only [reduceCtorEq] at e
  rename_i b t u
  cases hc : (!b && (leadB t.data.toList && eqS u ⟨#[1]⟩)) with
  | false => rw [hc] at e; cases e
  | true =>
    rw [hc] at e
    cases e
    simp only [Bool.and_eq_true, Bool.not_eq_true'] at hc
    obtain ⟨rfl, h1, h2⟩ := hc
    rw [bst_of h1, eqS_ok h2]
noncomputable def bigS (x : Fact) (args : List Value) : Option (M Nat Value) := match args with
  | [a, b] => match x.args with
    | [c, d] => match numP c with
      | some n => match numP d with
        | some m => some (bind (numA a) fun i => bind (numA b) fun j => cond (Nat.beq i n && Nat.beq j m) (ret x.v) fail)
        | none => none
      | none => none
    | _ => none
  | _ => none
theorem sum_big {x : Fact} (hx : x.ok) : SumF strSig Tryz.prog x.f (bigS x) := by
  intro args M e
  unfold bigS at e
  rcases args with _ | ⟨a, _ | ⟨b, _ | ⟨c, l⟩⟩⟩ <;> simp only [reduceCtorEq] at e
  rcases hxa : x.args with _ | ⟨c, _ | ⟨d, _ | ⟨z, l⟩⟩⟩ <;> rw [hxa] at e <;> simp only [reduceCtorEq] at e
  cases hn : numP c with
  | none => rw [hn] at e; cases e
  | some n =>
    rw [hn] at e
    simp only at e
    cases hm : numP d with
    | none => rw [hm] at e; cases e
    | some m =>
      rw [hm] at e
      simp only [Option.some.injEq] at e
      subst e
      obtain rfl := numP_ok hn
      obtain rfl := numP_ok hm
      refine ⟨loc_bind (loc_numA a) fun i => loc_bind (loc_numA b) fun j => loc_cond (loc_ret _) loc_fail, ?_⟩
      intro h nx v h' nx' R W e r w args' ha hM hN
      cases ha with
      | cons ha1 ha2 =>
        cases ha2 with
        | cons hb1 hb2 =>
          cases hb2
          obtain ⟨i, h1, nx1, R1, W1, R2, W2, e1, e2, rfl, rfl⟩ := bind_ok e
          obtain ⟨rfl, rfl, rfl, rfl⟩ := numA_ok e1 ha1 hM
          obtain ⟨j, h2, nx2, R3, W3, R4, W4, e3, e4, rfl, rfl⟩ := bind_ok e2
          obtain ⟨rfl, rfl, rfl, rfl⟩ := numA_ok e3 hb1 hM
          obtain ⟨hk, e5⟩ := cond_ok e4
          simp only [Bool.and_eq_true] at hk
          obtain rfl := Nat.eq_of_beq_eq_true hk.1
          obtain rfl := Nat.eq_of_beq_eq_true hk.2
          obtain ⟨rfl, rfl, rfl, rfl⟩ := ret_ok e5
          obtain ⟨q1, q2, q3⟩ := hx
          have hG : Tryz.prog.globals.size ≤ w.heap.size := by
            rcases Nat.eq_zero_or_pos Tryz.prog.globals.size with h0 | h0
            · omega
            · have := hM.lt _ _ (hM.glob (Tryz.prog.globals.size - 1) (show _ < Tryz.prog.globals.size by omega))
              omega
          have c := q3 w hG hM.base
          rw [hxa] at c
          refine c.mono ?_
          rintro en w' ⟨rfl, hb⟩
          exact ⟨_, r, rfl, same3 q2, by simpa using ext_below hM hb _⟩
noncomputable def strList : List (Nat × (List Value → Option (M Nat Value))) := [(13, addS), (14, bigS kx3), (15, bigS kx10)]
theorem strList_ok : ∀ x ∈ strList, SumF strSig Tryz.prog x.1 x.2 := by
  intro x hx
  simp only [strList, List.mem_cons, List.not_mem_nil, or_false] at hx
  rcases hx with rfl | rfl | rfl
  · exact sum_kadd
  · exact sum_big kx3_ok
  · exact sum_big kx10_ok
noncomputable def strSums (l : List Fact) : Sums Nat := fun f args => match sumsOf (mkTab strList) f args with
  | some m => some m
  | none => match look f args l with
    | some v => some (ret v)
    | none => none
theorem strSums_ok {l : List Fact} (hl : ∀ x ∈ l, x.ok) : SumOK strSig Tryz.prog (strSums l) := by
  have hk := sumsOf_ok strList_ok
  refine ⟨fun f args m e => ?_, fun f args m e h nx v h' nx' R W hr r w args' ha hM hN => ?_⟩
  · unfold strSums at e
    cases hq : sumsOf (mkTab strList) f args with
    | some m' => rw [hq] at e; cases e; exact hk.loc f args _ hq
    | none =>
      rw [hq] at e
      simp only at e
      cases hv : look f args l with
      | none => rw [hv] at e; cases e
      | some v => rw [hv] at e; cases e; exact loc_ret _
  · unfold strSums at e
    cases hq : sumsOf (mkTab strList) f args with
    | some m' => rw [hq] at e; cases e; exact hk.run f args _ hq h nx v h' nx' R W hr r w args' ha hM hN
    | none =>
      rw [hq] at e
      simp only at e
      cases hv : look f args l with
      | none => rw [hv] at e; cases e
      | some u =>
        rw [hv] at e
        cases e
        obtain ⟨x, hx, rfl, rfl, rfl⟩ := look_ok hv
        obtain ⟨h1, h2, h3⟩ := hl x hx
        obtain rfl : args' = x.args := VsR_eq h1 ha
        have hG : Tryz.prog.globals.size ≤ w.heap.size := by
          rcases Nat.eq_zero_or_pos Tryz.prog.globals.size with h0 | h0
          · omega
          · have := hM.lt _ _ (hM.glob (Tryz.prog.globals.size - 1) (show _ < Tryz.prog.globals.size by omega))
            omega
        obtain ⟨rfl, rfl, rfl, rfl⟩ := ret_ok hr.ok
        refine (h3 w hG hM.base).mono ?_
        rintro en w' ⟨rfl, hb⟩
        exact ⟨_, r, rfl, same3 h2, ext_below hM hb _⟩
theorem glob_64 : Tryz.prog.globals.size ≤ 64 := by
  have h : Nat.ble Tryz.prog.globals.size 64 = true := by kernel_rfl
  exact Nat.le_of_ble_eq_true h
noncomputable def runsT (l : List Fact) (n : Nat) (f : FuncId) (args : List Value) : Option Value := gives 64 (call Tryz.prog strCfg (strSums l) n f args)
theorem runsT_calls {l : List Fact} (hl : ∀ x ∈ l, x.ok) {n : Nat} {f : FuncId} {args : List Value} {v : Value} (e : runsT l n f args = some v) (ha : plains args = true) {w : World} (hG : Tryz.prog.globals.size ≤ w.heap.size) (hb : Tab w) :
    Calls Tryz.prog f ⟨args⟩ w fun e w' => e = .returned v ∧ Below w.heap.size w w' :=
  gives_calls strFits (strSums_ok hl) e ha glob_64 hG hb
end Ev
end Go.Proofs.YtjjbhadnakjhdaaGreatDoor
