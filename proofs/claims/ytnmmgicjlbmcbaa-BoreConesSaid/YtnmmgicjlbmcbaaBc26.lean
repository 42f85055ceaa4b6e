/- Contracts, in this order: The law BoreCones, whatever the bytes. -/
import Derived.Test.YtnmmgicjlbmcbaaBc23
import Derived.Test.YtnmmgicjlbmcbaaBc24
import Derived.Test.YtnmmgicjlbmcbaaBc25
namespace Go.Proofs.Ytnmmgicjlbmcbaa
open Go Go.RowKit
namespace Ev
set_option maxRecDepth 100000
theorem crun_at {s j : Nat} {lt eq : Bool} (h : (List.range 10).map (fun j => coneRun s j lt eq) = (List.range 10).map (fun _ => coneYes)) (hj : j < 10) : coneRun s j lt eq = coneYes := by
  have := congrArg (fun l : List (Option (D3 Sy)) => l[j]?) h
  simp only [List.getElem?_map, List.getElem?_range hj, Option.map_some, Option.some.injEq] at this
  exact this
theorem crun_any (s j : Nat) (lt eq : Bool) (h1 : 1 ≤ s) (h6 : s ≤ 6) (hj : j < 10) (hx : (lt && eq) = false) : coneRun s j lt eq = coneYes := by
  have hs : s = 1 ∨ s = 2 ∨ s = 3 ∨ s = 4 ∨ s = 5 ∨ s = 6 := by omega
  rcases hs with rfl | rfl | rfl | rfl | rfl | rfl
  · cases lt
    · cases eq
      · exact crun_at crun1g hj
      · exact crun_at crun1e hj
    · cases eq
      · exact crun_at crun1l hj
      · cases hx
  · cases lt
    · cases eq
      · exact crun_at crun2g hj
      · exact crun_at crun2e hj
    · cases eq
      · exact crun_at crun2l hj
      · cases hx
  · cases lt
    · cases eq
      · exact crun_at crun3g hj
      · exact crun_at crun3e hj
    · cases eq
      · exact crun_at crun3l hj
      · cases hx
  · cases lt
    · cases eq
      · exact crun_at crun4g hj
      · exact crun_at crun4e hj
    · cases eq
      · exact crun_at crun4l hj
      · cases hx
  · cases lt
    · cases eq
      · exact crun_at crun5g hj
      · exact crun_at crun5e hj
    · cases eq
      · exact crun_at crun5l hj
      · cases hx
  · cases lt
    · cases eq
      · exact crun_at crun6g hj
      · exact crun_at crun6e hj
    · cases eq
      · exact crun_at crun6l hj
      · cases hx
def coneQ (a b : Nat) : Nat → Rat
  | 0 => mkRat (a : Int) 4
  | 1 => mkRat (b : Int) 4
  | _ => 0
theorem fit_4 {a : Nat} (h1 : 1 ≤ a) (h2 : a ≤ 20) : Fit (mkRat (a : Int) 4) := by
  obtain ⟨_, p2, p3, _⟩ := nat_parts (n := a) (d := 4) (by omega) h1
  have p2 : Big.nu (mkRat (a : Int) 4) ≤ a := p2
  have p3 : Big.de (mkRat (a : Int) 4) ≤ 4 := p3
  exact ⟨Nat.le_trans (szN_mono (n := 65535) (by omega)) (by decide +kernel), Nat.le_trans (szN_mono (n := 65535) (by omega)) (by decide +kernel)⟩
theorem boreCones_any (w : World) (x y l t : Nat) (hx : x < 256) (hy : y < 256) (hl : l < 256) (ht : t < 256) (hG : Try.prog.globals.size ≤ w.heap.size) (hT : TabB w) :
    Calls Try.prog 3 #[.agg #[.int .u8 (x : Nat), .int .u8 (y : Nat), .int .u8 (l : Nat), .int .u8 (t : Nat)]] w fun e w' => e = .returned (.bool true) ∧ Below w.heap.size w w' := by
  have ha2 : x % 20 + 1 ≤ 20 := by omega
  have hb2 : y % 20 + 1 ≤ 20 := by omega
  let ρ : Env := Env.ofFit (coneQ (x % 20 + 1) (y % 20 + 1)) (fun _ => (false, ⟨#[]⟩, ⟨#[]⟩)) (fun i => by
    match i with
    | 0 => exact fit_4 (by omega) ha2
    | 1 => exact fit_4 (by omega) hb2
    | _ + 2 => exact (show Fit (0 : Rat) from ⟨by decide, by decide⟩)) (fun _ => bad_zero)
  have hA : AllH ρ (coneT (t % 6 + 1) (decide (x % 20 + 1 < y % 20 + 1)) (decide (x % 20 + 1 = y % 20 + 1))) :=
    coneT_ok (a := x % 20 + 1) (b := y % 20 + 1) rfl rfl (by omega) ha2 (by omega) hb2 (by omega) (by omega) rfl rfl
  have hr := crun_any (t % 6 + 1) (l % 10) (decide (x % 20 + 1 < y % 20 + 1)) (decide (x % 20 + 1 = y % 20 + 1)) (by omega) (by omega) (by omega) (by
    by_cases h : x % 20 + 1 = y % 20 + 1
    · rw [decide_eq_false (show ¬ x % 20 + 1 < y % 20 + 1 by omega)]; rfl
    · rw [decide_eq_false h, Bool.and_false])
  unfold coneRun at hr
  rw [Nat.add_sub_cancel] at hr
  refine (tells_calls (coneFits ρ) (coneS_ok hA) hr rfl glob_few (us := [.int .u8 (x : Nat), .int .u8 (y : Nat), .int .u8 (l : Nat), .int .u8 (t : Nat)])
    ⟨_, _, rfl, ⟨x % 20, by omega, rfl, x, hx, rfl, rfl⟩, rfl, _, _, rfl, ⟨y % 20, by omega, rfl, y, hy, rfl, rfl⟩, rfl, _, _, rfl, ⟨l, hl, rfl, rfl⟩, rfl, _, _, rfl, ⟨t, ht, rfl, rfl⟩, rfl, rfl⟩ hG hT).mono ?_
  rintro e w' ⟨v, rfl, hv, hb⟩
  exact ⟨by rw [show v = .bool true from hv], hb⟩
end Ev
end Go.Proofs.Ytnmmgicjlbmcbaa
