/- Contracts, in this order: ref07.part: the parts of a turn by roots, each by a run. -/
import Derived.Test.YtepnghhgmjobjaaTq02
import Derived.Test.YtepnghhgmjobjaaTq19
namespace Go.Proofs.Ytepnghhgmjobjaa
open Go Go.RowKit
namespace Tp
set_option maxRecDepth 100000
def sqTail (x : Nat) : Option Nat → Sem Value
  | some r => pure (.float .f64 r)
  | none => do pure (.float .f64 (← choose (.nanBits .f64 x x)))
theorem call_sqrt {x r : Nat} (h : FloatKind.f64.format.sqrt x = some r) (w : World) : (callFunc 96 #[.float .f64 x]).run Try.prog w = .ok (.value (.float .f64 r)) w := by
  rw [run_callFunc_extern (e := Extern.MathSqrt.sqrt) Try.func96 (by kernel_rfl) (by kernel_rfl) (by kernel_rfl) (by kernel_rfl)]
  have e : Extern.MathSqrt.sqrt #[.float .f64 x] = sqTail x (FloatKind.f64.format.sqrt x) := rfl
  rw [e, h]; rfl
theorem msqrt_any {x r : Nat} (h : FloatKind.f64.format.sqrt x = some r) (w : World) : Calls Try.prog 84 #[.float .f64 x] w fun e w' => e = .returned (.float .f64 r) ∧ w = w' := by
  have o1 := fun w => call_sqrt h w
  clear h
  go_enter Try.func84, Try.ntmps84
  go_wp2_with (simp only [o1])
  go_ret
  exact ⟨rfl, rfl⟩
noncomputable def sqF (x r : Nat) : Ev.Fact := ⟨84, [.float .f64 x], .float .f64 r⟩
theorem sqF_ok {x r : Nat} (h : FloatKind.f64.format.sqrt x = some r) : (sqF x r).ok := ⟨rfl, rfl, fun w _ _ => (msqrt_any h w).mono fun _ _ hh => ⟨hh.1, hh.2 ▸ Below.refl _ _⟩⟩
noncomputable def sqL : List Ev.Fact := [sqF 4602678819172646912 4604544271217802189, sqF 4605863345008909798 4606496786581982534, sqF 4606839602690999971 4607009347991985328, sqF 4607095883396001368 4607139046673687846, sqF 4607160732736852627 4607171569234046334, sqF 4607176994017031871 4607179706000002317, sqF 4607181062400009862 4607181740574479067, sqF 4607182079687248238 4607182249242036882, sqF 4607182334021027145 4607182376410422530, sqF 4607182397605219969 4607182408202612454, sqF 4607182413501314931 4607182416150665780, sqF 4607182417475341594 4607182418137679477, sqF 4607182418468848442 4607182418634432923, sqF 4607182418717225166 4607182418758621287]
theorem sqL_ok : ∀ x ∈ sqL, x.ok := by
  intro x hx
  simp only [sqL, List.mem_cons, List.not_mem_nil, or_false] at hx
  rcases hx with rfl | rfl | rfl | rfl | rfl | rfl | rfl | rfl | rfl | rfl | rfl | rfl | rfl | rfl <;> exact sqF_ok (by decide +kernel)
noncomputable def ptF (i a b : Nat) : Ev.Fact := ⟨66, [.int .i64 (i : Nat)], .complex .f64 a b⟩
theorem ptF_0 : (ptF 3 4604544271217802189 4604544271217802189).ok := Ev.Fact.by_run (n := 80) sqL_ok (by kernel_rfl) rfl
theorem ptF_1 : (ptF 4 4606496786581982534 4600565431771507043).ok := Ev.Fact.by_run (n := 80) sqL_ok (by kernel_rfl) rfl
theorem ptF_2 : (ptF 5 4607009347991985328 4596196889902818827).ok := Ev.Fact.by_run (n := 80) sqL_ok (by kernel_rfl) rfl
theorem ptF_3 : (ptF 6 4607139046673687846 4591727299969791020).ok := Ev.Fact.by_run (n := 80) sqL_ok (by kernel_rfl) rfl
theorem ptF_4 : (ptF 7 4607171569234046334 4587232218149935124).ok := Ev.Fact.by_run (n := 80) sqL_ok (by kernel_rfl) rfl
theorem ptF_5 : (ptF 8 4607179706000002317 4582730748936808062).ok := Ev.Fact.by_run (n := 80) sqL_ok (by kernel_rfl) rfl
theorem ptF_6 : (ptF 9 4607181740574479067 4578227681973159813).ok := Ev.Fact.by_run (n := 80) sqL_ok (by kernel_rfl) rfl
theorem ptF_7 : (ptF 10 4607182249242036882 4573724215515480178).ok := Ev.Fact.by_run (n := 80) sqL_ok (by kernel_rfl) rfl
theorem ptF_8 : (ptF 11 4607182376410422530 4569220649180767419).ok := Ev.Fact.by_run (n := 80) sqL_ok (by kernel_rfl) rfl
theorem ptF_9 : (ptF 12 4607182408202612454 4564717057876576046).ok := Ev.Fact.by_run (n := 80) sqL_ok (by kernel_rfl) rfl
theorem ptF_10 : (ptF 13 4607182416150665780 4560213460330001249).ok := Ev.Fact.by_run (n := 80) sqL_ok (by kernel_rfl) rfl
theorem ptF_11 : (ptF 14 4607182418137679477 4555709861222829735).ok := Ev.Fact.by_run (n := 80) sqL_ok (by kernel_rfl) rfl
theorem ptF_12 : (ptF 15 4607182418634432923 4551206261725508989).ok := Ev.Fact.by_run (n := 80) sqL_ok (by kernel_rfl) rfl
theorem ptF_13 : (ptF 16 4607182418758621287 4546702662130650930).ok := Ev.Fact.by_run (n := 80) sqL_ok (by kernel_rfl) rfl
theorem part_any (w : World) (i : Nat) (hi : i < 14) (hG : Try.prog.globals.size ≤ w.heap.size) : Calls Try.prog 66 #[.int .i64 ((i + 3 : Nat) : Int)] w fun e w' => e = .returned (.complex .f64 (pl.getD i (0, 0)).1 (pl.getD i (0, 0)).2) ∧ Below w.heap.size w w' := by
  rcases (show i = 0 ∨ i = 1 ∨ i = 2 ∨ i = 3 ∨ i = 4 ∨ i = 5 ∨ i = 6 ∨ i = 7 ∨ i = 8 ∨ i = 9 ∨ i = 10 ∨ i = 11 ∨ i = 12 ∨ i = 13 by omega) with rfl | rfl | rfl | rfl | rfl | rfl | rfl | rfl | rfl | rfl | rfl | rfl | rfl | rfl
  · exact ptF_0.2.2 w hG trivial
  · exact ptF_1.2.2 w hG trivial
  · exact ptF_2.2.2 w hG trivial
  · exact ptF_3.2.2 w hG trivial
  · exact ptF_4.2.2 w hG trivial
  · exact ptF_5.2.2 w hG trivial
  · exact ptF_6.2.2 w hG trivial
  · exact ptF_7.2.2 w hG trivial
  · exact ptF_8.2.2 w hG trivial
  · exact ptF_9.2.2 w hG trivial
  · exact ptF_10.2.2 w hG trivial
  · exact ptF_11.2.2 w hG trivial
  · exact ptF_12.2.2 w hG trivial
  · exact ptF_13.2.2 w hG trivial
end Tp
end Go.Proofs.Ytepnghhgmjobjaa
