/- Contracts, in this order: gauss: the text of two parts. -/
import Derived.Test.YtepnghhgmjobjaaGreatDoorGt24
namespace Go.Proofs.YtepnghhgmjobjaaGreatDoor
open Go Go.RowKit
namespace Ev
set_option maxRecDepth 100000
def secB (b : List UInt8) : List UInt8 := if b == [49] then [105] else if b == [45, 49] then [45, 105] else b ++ [105]
def joinB (a b : List UInt8) : List UInt8 :=
  if b == [48] then a else if a == [48] then secB b else if (b.headD 0).toNat == 45 then a ++ secB b else (a ++ [43]) ++ secB b
set_option maxHeartbeats 4000000 in
theorem join_any (w : World) (a b : List UInt8) (la : a.length ≤ 100000000) (lb : b.length ≤ 100000000) (hb : b ≠ []) :
    Calls Tryz.prog 48 #[.string ⟨a.toArray⟩, .string ⟨b.toArray⟩] w fun e w' => e = .returned (sOf (joinB a b)) ∧ w = w' := by
  have a1 : ∀ W, (Op.stringOp .add ⟨b.toArray⟩ ⟨#[105]⟩).run Tryz.prog W = .ok (.string ⟨(b ++ [105]).toArray⟩) W := fun W => addS b [105] (by omega) (by simp) W
  have a2 : ∀ W, (Op.stringOp .add ⟨a.toArray⟩ ⟨#[43]⟩).run Tryz.prog W = .ok (.string ⟨(a ++ [43]).toArray⟩) W := fun W => addS a [43] (by omega) (by simp) W
  have a3 : ∀ W, (Op.stringOp .add ⟨a.toArray⟩ ⟨#[105]⟩).run Tryz.prog W = .ok (.string ⟨(a ++ [105]).toArray⟩) W := fun W => addS a [105] (by omega) (by simp) W
  have a4 : ∀ W, (Op.stringOp .add ⟨a.toArray⟩ ⟨#[45, 105]⟩).run Tryz.prog W = .ok (.string ⟨(a ++ [45, 105]).toArray⟩) W := fun W => addS a [45, 105] (by omega) (by simp) W
  have a5 : ∀ W, (Op.stringOp .add ⟨a.toArray⟩ ⟨(b ++ [105]).toArray⟩).run Tryz.prog W = .ok (.string ⟨(a ++ (b ++ [105])).toArray⟩) W := fun W => addS a (b ++ [105]) (by omega) (by simp; omega) W
  have a6 : ∀ W, (Op.stringOp .add ⟨(a ++ [43]).toArray⟩ ⟨#[105]⟩).run Tryz.prog W = .ok (.string ⟨((a ++ [43]) ++ [105]).toArray⟩) W := fun W => addS (a ++ [43]) [105] (by simp; omega) (by simp) W
  have a7 : ∀ W, (Op.stringOp .add ⟨(a ++ [43]).toArray⟩ ⟨#[45, 105]⟩).run Tryz.prog W = .ok (.string ⟨((a ++ [43]) ++ [45, 105]).toArray⟩) W := fun W => addS (a ++ [43]) [45, 105] (by simp; omega) (by simp) W
  have a8 : ∀ W, (Op.stringOp .add ⟨(a ++ [43]).toArray⟩ ⟨(b ++ [105]).toArray⟩).run Tryz.prog W = .ok (.string ⟨((a ++ [43]) ++ (b ++ [105])).toArray⟩) W := fun W => addS (a ++ [43]) (b ++ [105]) (by simp; omega) (by simp; omega) W
  have hl : 0 < b.length := List.length_pos_iff.2 hb
  have hx : ((((⟨b.toArray⟩ : ByteArray)[0]'hl).toNat : Int) == 45) = ((b.headD 0).toNat == 45) := by
    cases b with
    | nil => exact absurd rfl hb
    | cons c t =>
      show (((c.toNat : Nat) : Int) == 45) = (c.toNat == 45)
      rw [Bool.eq_iff_iff, beq_iff_eq, beq_iff_eq]
      omega
  have HJ := Lib.hid (show joinB a b = if b == [48] then a else if a == [48] then secB b else if (b.headD 0).toNat == 45 then a ++ secB b else (a ++ [43]) ++ secB b from rfl)
  have HS := Lib.hid (show secB b = if b == [49] then [105] else if b == [45, 49] then [45, 105] else b ++ [105] from rfl)
  have HX := Lib.hid hx
  clear hx
  go_enter Tryz.func48, Tryz.ntmps48
  go_wp2_with fail
  all_goals try contradiction
  all_goals go_ret
  all_goals refine ⟨?_, rfl⟩
  all_goals refine congrArg Ending.returned (congrArg sOf (?_ : _ = joinB a b))
  all_goals (have hx := HX.out; simp only [hx] at *)
  all_goals (rw [HJ.out, HS.out]; simp only [*, if_true, if_false, Bool.false_eq_true])
  all_goals (try simp only [List.append_assoc, List.cons_append, List.nil_append])
end Ev
end Go.Proofs.YtepnghhgmjobjaaGreatDoor
