/- Contracts, in this order: diapasonlaw02.GaussLaws, run over all that may come. · diapasonlaw01.RatioReckons, run over all that may come. -/
import Derived.Test.YthjofdfnppadnaaGreatDoorZk26
namespace Go.Proofs.YthjofdfnppadnaaGreatDoor
open Go Go.RowKit
namespace Ev
set_option maxRecDepth 100000
noncomputable def lawC (A : List As) : Cfg Sy := symCfg (eqHard A)
instance lawHard (A : List As) : HardLoc (lawC A) := ⟨loc_eqHard A⟩
theorem lawFits {ρ : Env} {A : List As} (hA : AllH ρ A) : Fits (symSig ρ) Tryz.prog (lawC A) where
  hid := rfl
  G := rfl
  len := symLen_ok ρ
  tab := natFits.tab
  mixed := natFits.mixed
  hard := eqHard_ok hA rfl
noncomputable def lawList (B : List Ps) : List (Nat × (List Value → Option (M Sy Value))) := [
  (43, gop2 (gans2 B kAdd)), (45, gop2 (gans2 B kSub)), (44, gop2 (gans2 B kMul)), (42, gop1 (chk B))]
noncomputable def lawSums (B : List Ps) : Sums Sy := withF [works2] (sumsOf (mkTab (lawList B)))
theorem lawSums_ok {ρ : Env} {B : List Ps} (hB : AllP ρ B) : SumOK (symSig ρ) Tryz.prog (lawSums B) :=
  withF_ok (fun x hx => by
    simp only [List.mem_cons, List.not_mem_nil, or_false] at hx
    subst hx; exact works2_ok) (sumsOf_ok fun x hx => by
    simp only [lawList, List.mem_cons, List.not_mem_nil, or_false] at hx
    rcases hx with rfl | rfl | rfl | rfl
    · exact lsum_add hB
    · exact lsum_sub hB
    · exact lsum_mul hB
    · exact lsum_check hB)
noncomputable def inp6 (a b c d e f : Bool) : List Sy := inp a 0 ++ (inp b 1 ++ (inp c 2 ++ (inp d 3 ++ (inp e 4 ++ inp f 5))))
noncomputable def eqs (l : List (Qe × Qe)) : List As := l.map fun p => ⟨2, p.1, p.2, true⟩
theorem eqs_hold {ρ : Env} {l : List (Qe × Qe)} (h : ∀ p ∈ l, p.1.ev ρ.q = p.2.ev ρ.q) : AllH ρ (eqs l) := by
  intro x hx
  obtain ⟨p, hp, rfl⟩ := List.mem_map.1 hx
  exact ⟨fun _ => h p hp, fun _ => rfl⟩
noncomputable def lrun (E : List (Qe × Qe)) (B : List Ps) (fs : List Sy) : Option (D3 Sy) := tells fs [.agg 6, .agg 6, .agg 6] (call Tryz.prog (lawC (eqs E)) (lawSums B) 10 7)
noncomputable def yes : D3 Sy := .one (.one (.p (.bool true)))
noncomputable def lx : Qe × Qe := (.v 0, .v 1)
noncomputable def ly : Qe × Qe := (.v 2, .v 3)
noncomputable def lz : Qe × Qe := (.v 4, .v 5)
noncomputable def pr (p : Qe × Qe) (t : Bool) : Ps := ⟨p.1, p.2, t⟩
noncomputable def la : Qe × Qe := kAdd lx ly
noncomputable def lb : Qe × Qe := kAdd ly lx
noncomputable def lc : Qe × Qe := kMul lx ly
noncomputable def ld : Qe × Qe := kMul ly lx
noncomputable def lp : Qe × Qe := kAdd la lz
noncomputable def lq : Qe × Qe := kAdd ly lz
noncomputable def lr : Qe × Qe := kAdd lx lq
noncomputable def ls : Qe × Qe := kMul la lz
noncomputable def lt : Qe × Qe := kMul lx lz
noncomputable def lu : Qe × Qe := kMul ly lz
noncomputable def lv : Qe × Qe := kAdd lt lu
noncomputable def lk : Qe × Qe := kSub la ly
noncomputable def lE : List (Qe × Qe) := [(la.1, lb.1), (la.2, lb.2), (lc.1, ld.1), (lc.2, ld.2), (lp.1, lr.1), (lp.2, lr.2), (ls.1, lv.1), (ls.2, lv.2), (lk.1, lx.1), (lk.2, lx.2)]
noncomputable def lB (s t : Bool) : List Ps := [pr la s, pr lb s, pr lc t, pr ld t]
noncomputable def lB7 (p q r s t u v : Bool) : List Ps := [pr la true, pr lb true, pr lc true, pr ld true, pr lp p, pr lq q, pr lr r, pr ls s, pr lt t, pr lu u, pr lv v, pr lk true]
theorem laws_bad : ∀ a b c d e f : Bool, (a && b && c && d) = false → lrun [] [] (inp6 a b c d e f) = some yes := by
  intro a b c d e f
  cases a <;> cases b <;> cases c <;> cases d <;> intro h <;> first | (cases h; done) | (cases e <;> cases f <;> kernel_rfl)
theorem laws_long : ∀ s t e f : Bool, (s && t) = false → lrun lE (lB s t) (inp6 true true true true e f) = some yes := by
  intro s t e f
  cases s <;> cases t <;> intro h <;> first | (cases h; done) | (cases e <;> cases f <;> kernel_rfl)
theorem laws_z : ∀ e f : Bool, (e && f) = false → lrun lE (lB true true) (inp6 true true true true e f) = some yes := by
  intro e f
  cases e <;> cases f <;> intro h <;> first | (cases h; done) | kernel_rfl
end Ev
end Go.Proofs.YthjofdfnppadnaaGreatDoor
namespace Go.Proofs.YthjofdfnppadnaaGreatDoor
open Go Go.RowKit
namespace Ev
set_option maxRecDepth 100000
noncomputable def works1 : Fact := ⟨18, [], .bool true⟩
theorem works1_ok : works1.ok := Fact.of_run (n := 40) (by kernel_rfl) rfl
noncomputable def rkT (fa fs fm fq z : Bool) : List As := [⟨0, .add v0 v1, z0, fa⟩, ⟨0, .sub v0 v1, z0, fs⟩, ⟨0, .mul v0 v1, z0, fm⟩, ⟨0, .quo v0 v1, z0, fq⟩, ⟨1, v1, z0, z⟩, ⟨3, v1, z0, false⟩]
noncomputable def rkS (A : List As) : Sums Sy := withF [works1] (refSums A)
theorem rkS_ok {ρ : Env} {A : List As} (hA : AllH ρ A) : SumOK (symSig ρ) Tryz.prog (rkS A) :=
  withF_ok (fun x hx => by
    simp only [List.mem_cons, List.not_mem_nil, or_false] at hx
    subst hx; exact works1_ok) (refSums_ok hA)
noncomputable def rkrun (A : List As) (fs : List Sy) : Option (D3 Sy) := tells fs [.agg 6] (call Tryz.prog (lawC A) (rkS A) 60 4)
theorem rk_one : rkrun (rkT true true true true false) (inp true 0 ++ inp true 1) = some yes := by kernel_rfl
end Ev
end Go.Proofs.YthjofdfnppadnaaGreatDoor
