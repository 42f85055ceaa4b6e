/- Contracts, in this order: diapasonlaw02.GaussReckons answers true. -/
import Derived.Test.YthjofdfnppadnaaGreatDoorZg26
namespace Go.Proofs.YthjofdfnppadnaaGreatDoor
open Go Go.RowKit
namespace Ev
set_option maxRecDepth 100000
noncomputable def grList (A : List As) (B : List Ps) : List (Nat × (List Value → Option (M Sy Value))) := [
  (43, gop2 (gans2 B kAdd)), (45, gop2 (gans2 B kSub)), (44, gop2 (gans2 B kMul)), (33, gop2 (quoZ A B)), (47, twoS A B)]
noncomputable def grSums (A : List As) (B : List Ps) : Sums Sy := withF [works2] (sumsOf (mkTab (grList A B)))
theorem grSums_ok {ρ : Env} {A : List As} {B : List Ps} (hA : AllH ρ A) (hB : AllP ρ B) : SumOK (symSig ρ) Tryz.prog (grSums A B) :=
  withF_ok (fun x hx => by
    simp only [List.mem_cons, List.not_mem_nil, or_false] at hx
    subst hx; exact works2_ok) (sumsOf_ok fun x hx => by
    simp only [grList, List.mem_cons, List.not_mem_nil, or_false] at hx
    rcases hx with rfl | rfl | rfl | rfl | rfl
    · exact lsum_add hB
    · exact lsum_sub hB
    · exact lsum_mul hB
    · exact lsum_quoZ hA hB
    · exact s_two hA hB)
noncomputable def grrun (A : List As) (B : List Ps) (fs : List Sy) : Option (D3 Sy) := tells fs [.agg 6, .agg 6] (call Tryz.prog (lawC A) (grSums A B) 20 10)
noncomputable def grA (n2 n3 : Bool) : List As := [⟨1, v2, z0, n2⟩, ⟨1, v3, z0, n3⟩]
noncomputable def grB (p q r s : Bool) : List Ps := [pr (kAdd lx ly) p, pr (kSub lx ly) q, pr (kMul lx ly) r, pr (kQuo lx ly) s]
theorem gr_bad : ∀ a b c d : Bool, (a && b && c && d) = false → grrun [] [] (inp4 a b c d) = some yes := by
  intro a b c d
  cases a <;> cases b <;> cases c <;> cases d <;> intro h <;> first | (cases h; done) | kernel_rfl
theorem gr_good (n2 n3 p q r s : Bool) : grrun (grA n2 n3) (grB p q r s) (inp4 true true true true) = some yes := by
  cases n2 <;> cases n3 <;> cases p <;> cases q <;> cases r <;> cases s <;> kernel_rfl
theorem gaussReckons_any (w : World) (x y z u : Tri) (hG : Tryz.prog.globals.size ≤ w.heap.size) (hT : Tab w) :
    Calls Tryz.prog 10 ⟨[.agg ⟨cel x ++ cel y⟩, .agg ⟨cel z ++ cel u⟩]⟩ w fun e w' => e = .returned (.bool true) ∧ Below w.heap.size w w' := by
  obtain ⟨i, -⟩ := in4 x y z u
  have fin : ∀ (A : List As) (B : List Ps), AllH i.ρ A → AllP i.ρ B → grrun A B (inp4 i.a i.b i.c i.d) = some yes →
      Calls Tryz.prog 10 ⟨[.agg ⟨cel x ++ cel y⟩, .agg ⟨cel z ++ cel u⟩]⟩ w fun e w' => e = .returned (.bool true) ∧ Below w.heap.size w w' := fun A B hA hB hr =>
    (tells_calls (lawFits hA) (grSums_ok hA hB) hr rfl glob_few (i.holds w) hG hT).mono fun e w' hh => by
      obtain ⟨v', rfl, hv, hb⟩ := hh
      exact ⟨by rw [show v' = .bool true from hv], hb⟩
  cases hb : (i.a && i.b && i.c && i.d) with
  | false => exact fin [] [] (fun _ h => (by cases h)) (fun _ h => (by cases h)) (gr_bad _ _ _ _ hb)
  | true =>
    simp only [Bool.and_eq_true] at hb
    obtain ⟨⟨⟨ha, hb'⟩, hc⟩, hd⟩ := hb
    rw [ha, hb', hc, hd] at fin
    obtain ⟨p, hp⟩ := pair_bool ((kAdd lx ly).1.ev i.ρ.q) ((kAdd lx ly).2.ev i.ρ.q)
    obtain ⟨q, hq⟩ := pair_bool ((kSub lx ly).1.ev i.ρ.q) ((kSub lx ly).2.ev i.ρ.q)
    obtain ⟨r, hr⟩ := pair_bool ((kMul lx ly).1.ev i.ρ.q) ((kMul lx ly).2.ev i.ρ.q)
    obtain ⟨s, hs⟩ := pair_bool ((kQuo lx ly).1.ev i.ρ.q) ((kQuo lx ly).2.ev i.ρ.q)
    obtain ⟨n2, h2⟩ := zero_bool (v2.ev i.ρ.q)
    obtain ⟨n3, h3⟩ := zero_bool (v3.ev i.ρ.q)
    refine fin (grA n2 n3) (grB p q r s) (fun x hx => ?_) (fun x hx => ?_) (gr_good _ _ _ _ _ _)
    · simp only [grA, List.mem_cons, List.not_mem_nil, or_false] at hx
      rcases hx with rfl | rfl
      · exact h2
      · exact h3
    · simp only [grB, List.mem_cons, List.not_mem_nil, or_false] at hx
      rcases hx with rfl | rfl | rfl | rfl
      · exact hp
      · exact hq
      · exact hr
      · exact hs
end Ev
end Go.Proofs.YthjofdfnppadnaaGreatDoor
