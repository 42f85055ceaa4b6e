/- Contracts, in this order: Runs over fractions' bytes that are not looked into: whole n -/
import Derived.Test.YtjjbhadnakjhdaaGreatDoorKrq17
namespace Go.Proofs.YtjjbhadnakjhdaaGreatDoor
open Go Go.RowKit
namespace Ev
set_option maxRecDepth 100000
noncomputable def strSig : Sig Nat where
  holds n _ v := v = .string (bst n)
  hid _ := false
  G := Tryz.prog.globals.size
  base := Tab
  baseS := natSig.baseS
  stable := fun _ _ _ _ h _ => h
noncomputable def strCfg : Cfg Nat where
  hid _ := false
  G := Tryz.prog.globals.size
  tab f := Tryz.prog.funcs[f]?
  len _ := none
  hard _ _ := fail
instance strHard : HardLoc strCfg := ⟨fun _ _ => loc_fail⟩
theorem strFits : Fits strSig Tryz.prog strCfg where
  hid := rfl
  G := rfl
  len := fun _ _ _ _ _ e => by cases e
  tab := natFits.tab
  mixed := natFits.mixed
  hard := fun o vs h nx x h' nx' R W _ e => by cases (show (fail : M Nat Nxt) h nx = _ from e)
noncomputable def numS (v : Value) : M Nat Nat := match v with
  | .string s => cond (leadB s.data.toList) (ret (Big.bnum s.data.toList)) fail
  | .chan i => fact (.chan i)
  | _ => fail
theorem loc_numS (v : Value) : Loc (numS v) := by
  unfold numS
  (repeat' split) <;> first | exact loc_fail | exact loc_cond (loc_ret _) loc_fail | exact loc_fact _
noncomputable def numA (v : Value) : M Nat Nat := match v with
  | .agg cs => match cs.toList with
    | [a, s, d] => match a with
      | .bool b => match d with
        | .string t => cond (!b && eqS t ⟨#[1]⟩) (numS s) fail
        | _ => fail
      | _ => fail
    | _ => fail
  | _ => fail
theorem loc_numA (v : Value) : Loc (numA v) := by
  unfold numA
  (repeat' split) <;> first | exact loc_fail | exact loc_cond (loc_numS _) loc_fail
section
variable {h h' : Tr (Blk Nat)} {nx nx' : Nat} {R W : List Nat} {r : Ren} {w : World} {v v' : Value}
theorem numS_ok {n : Nat} (e : numS v h nx = .ok n h' nx' R W) (hv : VR r v v') (hM : Mod strSig r h.get w) : h' = h ∧ nx' = nx ∧ W = [] ∧ v' = .string (bst n) := by
  unfold numS at e
  cases v <;> first | (exact absurd (show (fail : M Nat Nat) h nx = _ from e) (by simp [fail])) | skip
  · obtain ⟨hk, e1⟩ := cond_ok e
    obtain ⟨rfl, rfl, rfl, rfl⟩ := ret_ok e1
    exact ⟨rfl, rfl, rfl, by rw [hv.str, bst_of hk]⟩
  · obtain ⟨rfl, rfl, rfl, hf⟩ := fact_ok e hv hM
    exact ⟨rfl, rfl, rfl, hf⟩
theorem numA_ok {n : Nat} (e : numA v h nx = .ok n h' nx' R W) (hv : VR r v v') (hM : Mod strSig r h.get w) : h' = h ∧ nx' = nx ∧ W = [] ∧ v' = .agg #[.bool false, .string (bst n), .string ⟨#[1]⟩] := by
  unfold numA at e
  cases v <;> first | (exact absurd (show (fail : M Nat Nat) h nx = _ from e) (by simp [fail])) | skip
  rename_i cs
  obtain ⟨l⟩ := cs
  simp only at e
  rcases l with _ | ⟨a, _ | ⟨x, _ | ⟨y, _ | ⟨z, l⟩⟩⟩⟩ <;> first | (exact absurd (show (fail : M Nat Nat) h nx = _ from e) (by simp [fail])) | skip
  cases a <;> first | (exact absurd (show (fail : M Nat Nat) h nx = _ from e) (by simp [fail])) | skip
  rename_i b
  cases y <;> first | (exact absurd (show (fail : M Nat Nat) h nx = _ from e) (by simp [fail])) | skip
  rename_i t
  obtain ⟨hk, e1⟩ := cond_ok (show (cond (!b && eqS t ⟨#[1]⟩) (numS x) fail : M Nat Nat) h nx = _ from e)
  simp only [Bool.and_eq_true, Bool.not_eq_true'] at hk
  obtain ⟨rfl, hk2⟩ := hk
  have := eqS_ok hk2
  subst this
  cases hv with
  | same p => simp [plain] at p
  | agg ha =>
    cases ha with
    | cons a1 ha => cases ha with
      | cons a2 ha => cases ha with
        | cons a3 ha =>
          cases ha
          obtain rfl := a1.bool
          obtain rfl := a3.str
          obtain ⟨q1, q2, q3, rfl⟩ := numS_ok e1 a2 hM
          exact ⟨q1, q2, q3, rfl⟩
end
noncomputable def limK (K : Nat) : Nat := Nat.pow 2 K
noncomputable def fit512 (n : Nat) : Bool := Nat.ble (Nat.succ n) (limK 4096)
theorem sz_lt {n K : Nat} (h : Nat.ble (Nat.succ n) (limK K) = true) : szN n ≤ (K + 7) / 8 := by
  have h1 : n < 2 ^ K := Nat.le_of_ble_eq_true h
  unfold szN
  split
  · omega
  · rename_i h0
    have h2 := (Nat.log2_lt h0).2 h1
    clear h1 h
    omega
theorem fit512_ok {n : Nat} (h : fit512 n = true) : szN n ≤ 512 := Nat.le_trans (sz_lt (K := 4096) h) (by decide)
theorem nat_parts (n : Nat) : Big.ng (n : Rat) = false ∧ Big.nu (n : Rat) = n ∧ Big.de (n : Rat) = 1 := by
  refine ⟨?_, ?_, ?_⟩
  · show decide ((n : Rat).num < 0) = false
    exact decide_eq_false (by simp)
  · show ((n : Rat).num).natAbs = n
    simp
  · show (n : Rat).den = 1
    simp
theorem bst_one : bst 1 = ⟨#[1]⟩ := by decide +kernel
noncomputable def addS (args : List Value) : Option (M Nat Value) := match args with
  | [x, y] => some (bind (numA x) fun n => bind (numA y) fun m => cond (fit512 n && (fit512 m && fit512 (n + m))) (bind (newFact (n + m)) fun s => ret (.agg ⟨[.bool false, s, .string ⟨#[1]⟩]⟩)) fail)
  | _ => none
theorem sum_kadd : SumF strSig Tryz.prog 13 addS := by
  intro args m e
  unfold addS at e
  rcases args with _ | ⟨a, _ | ⟨b, _ | ⟨c, l⟩⟩⟩ <;> simp only [reduceCtorEq, Option.some.injEq] at e
  subst e
  refine ⟨loc_bind (loc_numA a) fun n => loc_bind (loc_numA b) fun m => loc_cond (loc_bind (loc_newFact _) fun _ => loc_ret _) loc_fail, ?_⟩
  intro h nx v h' nx' R W e r w args' ha hM hN
  cases ha with
  | cons ha1 ha2 =>
    cases ha2 with
    | cons hb1 hb2 =>
      cases hb2
      obtain ⟨n, h1, nx1, R1, W1, R2, W2, e1, e2, rfl, rfl⟩ := bind_ok e
      obtain ⟨rfl, rfl, rfl, rfl⟩ := numA_ok e1 ha1 hM
      obtain ⟨m, h2, nx2, R3, W3, R4, W4, e3, e4, rfl, rfl⟩ := bind_ok e2
      obtain ⟨rfl, rfl, rfl, rfl⟩ := numA_ok e3 hb1 hM
      obtain ⟨hk, e5⟩ := cond_ok e4
      simp only [Bool.and_eq_true] at hk
      obtain ⟨k1, k2, k3⟩ := hk
      obtain ⟨u, h3, nx3, R5, W5, R6, W6, e6, e7, rfl, rfl⟩ := bind_ok e5
      obtain ⟨rfl, rfl, rfl, rfl⟩ := ret_ok e7
      obtain ⟨i, h4, nx4, R7, W7, R8, W8, e8, e9, rfl, rfl⟩ := bind_ok e6
      obtain ⟨rfl, rfl, rfl, rfl⟩ := ret_ok e9
      unfold fresh at e8
      cases e8
      obtain ⟨n1, n2, n3⟩ := nat_parts n
      obtain ⟨m1, m2, m3⟩ := nat_parts m
      obtain ⟨s1, s2, s3⟩ := nat_parts (n + m)
      have hfit : ∀ k : Nat, fit512 k = true → Fit (k : Rat) := fun k hk => by
        obtain ⟨_, q2, q3⟩ := nat_parts k
        exact ⟨by rw [q2]; exact fit512_ok hk, by rw [q3]; decide⟩
      have hc := kadd_any w (n : Rat) (m : Rat) (hfit n k1) (hfit m k2) (by have := hfit (n + m) k3; rwa [Rat.natCast_add] at this)
      rw [n1, n2, n3, m1, m2, m3, bst_one] at hc
      refine hc.mono ?_
      rintro en w' ⟨rfl, hb⟩
      have hv : fracV ((n : Rat) + (m : Rat)) = .agg #[.bool false, .string (bst (n + m)), .string ⟨#[1]⟩] := by
        rw [← Rat.natCast_add]
        unfold fracV
        rw [s1, s2, s3, bst_one]
      rw [hv]
      obtain ⟨r', hX, hr⟩ := ext_fact (S := strSig) (f := n + m) (v' := .string (bst (n + m))) hM hb hN rfl rfl
      exact ⟨_, r', rfl, .agg (.cons (.same rfl) (.cons (.opq hr rfl) (.cons (.same rfl) .nil))), by simpa using hX.congr fun n => .inr (Tr.get_set _ _ _ _)⟩
end Ev
end Go.Proofs.YtjjbhadnakjhdaaGreatDoor
