/- Contracts, in this order: Products of the parts of a turn, by floats. No program. -/
import Derived.Laws.ComplexArith
import Derived.KernelRfl
namespace Go.Proofs.Ythfopepnofjcjaa
open Go
namespace Tp
set_option maxRecDepth 100000
def pl : List (Nat × Nat) := [(4604544271217802189, 4604544271217802189), (4606496786581982534, 4600565431771507043), (4607009347991985328, 4596196889902818827), (4607139046673687846, 4591727299969791020), (4607171569234046334, 4587232218149935124), (4607179706000002317, 4582730748936808062), (4607181740574479067, 4578227681973159813), (4607182249242036882, 4573724215515480178), (4607182376410422530, 4569220649180767419), (4607182408202612454, 4564717057876576046), (4607182416150665780, 4560213460330001249), (4607182418137679477, 4555709861222829735), (4607182418634432923, 4551206261725508989), (4607182418758621287, 4546702662130650930)]
def oneC : Nat × Nat := (4607182418800017408, 0)
def mulC (z p : Nat × Nat) : Option (Nat × Nat) := cMulBits z.1 z.2 p.1 p.2
def prodC (r : Nat) : Nat → Option (Nat × Nat)
  | 0 => some oneC
  | i + 1 => (prodC r i).bind fun z => if r.testBit (13 - i) then mulC z (pl.getD i (0, 0)) else some z
def nz (z : Nat × Nat) : Bool := !(Nat.beq (z.1 % 9223372036854775808) 0) && !(Nat.beq (z.2 % 9223372036854775808) 0)
def noBit (r j : Nat) : Prop := ∀ t, t < j → r.testBit (13 - t) = false
def Good (r j : Nat) : Prop := ∃ z, prodC r j = some z ∧ ((noBit r j ∧ z = oneC) ∨ (¬ noBit r j ∧ nz z = true))
theorem prod_no {r i : Nat} {z : Nat × Nat} (h : prodC r i = some z) (hb : r.testBit (13 - i) = false) : prodC r (i + 1) = some z := by
  show (prodC r i).bind _ = _
  rw [h]
  simp [hb]
theorem prod_yes {r i : Nat} {z : Nat × Nat} (h : prodC r i = some z) (hb : r.testBit (13 - i) = true) : prodC r (i + 1) = mulC z (pl.getD i (0, 0)) := by
  show (prodC r i).bind _ = _
  rw [h]
  simp [hb]
theorem one_mul : (pl.all fun p => decide (mulC oneC p = some p)) = true := by decide +kernel
theorem one_part {i : Nat} (hi : i < 14) : mulC oneC (pl.getD i (0, 0)) = some (pl.getD i (0, 0)) := by
  have h := List.all_eq_true.1 one_mul (pl.getD i (0, 0)) (by
    rw [List.getD_eq_getElem?_getD, List.getElem?_eq_getElem (show i < pl.length from hi)]
    exact List.getElem_mem _)
  exact of_decide_eq_true h
end Tp
end Go.Proofs.Ythfopepnofjcjaa
