/- Contracts. -/
import Derived.Test.YtnlhjcfpfapafaaSSq28
import Derived.Test.YtnlhjcfpfapafaaSSq26
namespace Go.Proofs.Ytnlhjcfpfapafaa
open Go Go.RowKit
namespace Ev
set_option maxRecDepth 100000
def LrIn (w : World) (v : Value) (qs : List Rat) (n : Nat) (raw : Bool × ByteArray × ByteArray) : Prop := ∃ ad m, v = .slice ad n m ∧ n ≤ m ∧ qs.length ≤ n ∧
 (0 < n → ∃ b off cl t z, ad = some ⟨b, off, none⟩ ∧ w.heap[b]? = some (.cells ⟨cl⟩ t z) ∧ RowAt 0 w cl off qs ∧ (qs.length < n → (cl.drop (off + qs.length * 3)).take 3 = rawC raw))
theorem LrIn.lr {ρ : Env} {c a : Nat} {w : World} {v : Value} {qs : List Rat} {n : Nat} {raw : Bool × ByteArray × ByteArray} (h : LrIn w v qs n raw) (hlo : ρ.lo = w.heap.size) (hc : ρ.lst c = qs) (ha : ρ.nat a = n) (hr : ρ.raw c = raw) : lrIs ρ c a w v := by
 obtain ⟨ad, m, h1, h2, h3, h4⟩ := h
 subst hc ha hr
 exact ⟨ad, m, h1, h2, h3, fun hp => by
  obtain ⟨b, off, cl, t, z, h5, h6, h7, h8⟩ := h4 hp
  exact ⟨b, off, cl, t, z, h5, by rw [hlo]; exact (Array.getElem?_eq_some_iff.1 h6).1, h6, h7, h8⟩⟩
theorem first_not {P : Rat → Prop} : ∀ {qs : List Rat}, (∃ y ∈ qs, ¬ P y) → ∃ j, j < qs.length ∧ ¬ P (qs.getD j 0) ∧ ∀ i, i < j → P (qs.getD i 0)
 | [], h => by obtain ⟨y, hy, _⟩ := h; simp at hy
 | a :: l, h => by
  by_cases ha : P a
  ·obtain ⟨j, h1, h2, h3⟩ := first_not (P := P) (qs := l) (by
    obtain ⟨y, hy, hn⟩ := h
    rcases List.mem_cons.1 hy with rfl | hy
    ·exact absurd ha hn
    ·exact ⟨y, hy, hn⟩)
   refine ⟨j + 1, by simpa using h1, by simpa using h2, fun i hi => ?_⟩
   cases i with
   | zero => exact ha
   | succ i => exact (by simpa using h3 i (by omega))
  ·exact ⟨0, by simp, ha, fun i hi => by omega⟩
theorem ltR_ok {ρ : Env} : ∀ k, k ≤ ρ.nat 1 → AllX ρ (ltR k)
 | 0, _ => fun x hx => by simp [ltR] at hx
 | k + 1, h => fun x hx => by
  rcases List.mem_cons.1 hx with rfl | hx
  ·show true = true ↔ ((ρ.nat 0 : Nat) : Int) + (k : Int) < ((ρ.nat 1 : Nat) : Int) + 0
   rw [ρ.nat0]
   exact ⟨fun _ => by omega, fun _ => rfl⟩
  ·exact ltR_ok k (by omega) x hx
def NoCh (e : Ending) : Prop := e = .returned (.tuple ⟨[.agg ⟨[.slice none 0 0, .bool false, .slice none 0 0, .slice none 0 0]⟩, .bool false]⟩)
theorem noCh_is {S : Sig Sy} {w : World} {v : Value} (h : noCh.is S w v) : v = .tuple ⟨[.agg ⟨[.slice none 0 0, .bool false, .slice none 0 0, .slice none 0 0]⟩, .bool false]⟩ := by
 obtain ⟨vs, rfl, a, l1, rfl, ⟨us, rfl, u1, l2, rfl, h1, u2, l3, rfl, h2, u3, l4, rfl, h3, u4, l5, rfl, h4, rfl⟩, u5, l6, rfl, h5, rfl⟩ := h
 have h1' : u1 = .slice none 0 0 := h1
 have h2' : u2 = .bool false := h2
 have h3' : u3 = .slice none 0 0 := h3
 have h4' : u4 = .slice none 0 0 := h4
 have h5' : u5 = .bool false := h5
 subst h1' h2' h3' h4' h5'
 rfl
theorem read_bad (w : World) {qs : List Rat} {n : Nat} {raw : Bool × ByteArray × ByteArray} {z : Int} (hf : ∀ y ∈ qs, Fit y) (hb : BadF raw) {v : Value} (hv : LrIn w v qs n raw) (hz1 : -9223372036854775808 ≤ z) (hz2 : z ≤ 9223372036854775807)
  (hbad : 31 < n ∨ ¬ (z = 1 ∨ z = -1) ∨ qs.length < n ∨ ∃ y ∈ qs, ¬ Big.nu y < Big.de y) (hG : Try.prog.globals.size ≤ w.heap.size) (hT : natSig.base w) :
  Calls Try.prog rdF ⟨[.agg ⟨[v, .int .i64 z]⟩]⟩ w fun e w' => NoCh e ∧ Below w.heap.size w w' := by
 have hzf : Fit (mkRat z 1) := fit_i64 hz1 hz2
 have far : Value.int .i64 z = .int .i64 ((chEnv qs z n raw hf hzf hb w.heap.size).q 8).num := by
  show Value.int .i64 z = .int .i64 (mkRat z 1).num
  rw [mk1_num]
 have hwl : HoldsL (symSig (chEnv qs z n raw hf hzf hb w.heap.size)) w [.wl 1 0, .it (.v 8)] [v, .int .i64 z] := by
  obtain ⟨ad, m, rfl, _⟩ := hv
  exact ⟨_, _, rfl, ⟨ad, n, m, rfl, by
   show ((n : Nat) : Int) = ((n : Nat) : Int) + 0
   omega⟩, rfl, _, _, rfl, far, rfl, rfl⟩
 have hlr : HoldsL (symSig (chEnv qs z n raw hf hzf hb w.heap.size)) w [.lr 0 1, .it (.v 8)] [v, .int .i64 z] :=
  ⟨_, _, rfl, hv.lr rfl rfl rfl rfl, by obtain ⟨a, m, rfl, _⟩ := hv; rfl, _, _, rfl, far, rfl, rfl⟩
 have hq : ∀ i, i < qs.length → (chEnv qs z n raw hf hzf hb w.heap.size).q (10 + i) = qs.getD i 0 := fun i _ => chQ_el qs z i
 have fin : ∀ {l : List Sy} {A : List As} {B : List Ix} {t : Bool}, HoldsL (symSig (chEnv qs z n raw hf hzf hb w.heap.size)) w l [v, .int .i64 z] → AllH (chEnv qs z n raw hf hzf hb w.heap.size) A → AllX (chEnv qs z n raw hf hzf hb w.heap.size) B → t = (decide (z = 1) || decide (z = -1)) →
   isNo (tells l [.agg 2] (call Try.prog (lsCfg false A B noJ) (rdSums t A) 60 rdF)) = true → Calls Try.prog rdF ⟨[.agg ⟨[v, .int .i64 z]⟩]⟩ w fun e w' => NoCh e ∧ Below w.heap.size w w' := by
  intro l A B t hl hA hB ht hr
  refine (tells_calls (lsFits hA hB) (rdSums_ok hA (z := z) rfl ht) (isNo_ok hr) rfl glob_few (us := [v, .int .i64 z]) hl hG hT (Nat.le_refl _) (.none rfl)).mono ?_
  rintro e w' ⟨v', rfl, h1, hb⟩
  exact ⟨by unfold NoCh; rw [noCh_is h1], hb⟩
 have hnil : AllH (chEnv qs z n raw hf hzf hb w.heap.size) [] := fun x hx => by simp at hx
 by_cases hz : z = 1 ∨ z = -1
 ·have ht : true = (decide (z = 1) || decide (z = -1)) := by rcases hz with rfl | rfl <;> rfl
  by_cases hn : 31 < n
  ·refine fin hwl hnil (B := [.lt 0 31 1 0 true]) (fun x hx => ?_) ht rx_run.1
   rcases List.mem_cons.1 hx with rfl | hx
   ·show true = true ↔ ((0 : Nat) : Int) + 31 < ((n : Nat) : Int) + 0
    exact ⟨fun _ => by omega, fun _ => rfl⟩
   ·simp at hx
  ·have hrow : ∀ {k : Nat} {B : List Ix}, k ≤ n → AllX (chEnv qs z n raw hf hzf hb w.heap.size) B → AllX (chEnv qs z n raw hf hzf hb w.heap.size) (.bd 1 :: .lt 0 31 1 0 false :: (ltR k ++ B)) := by
    intro k B hk hB x hx
    rcases List.mem_cons.1 hx with rfl | hx
    ·show n ≤ 10000
     omega
    rcases List.mem_cons.1 hx with rfl | hx
    ·show false = true ↔ ((0 : Nat) : Int) + 31 < ((n : Nat) : Int) + 0
     exact ⟨fun h => (by cases h), fun h => by omega⟩
    rcases List.mem_append.1 hx with hx | hx
    ·exact ltR_ok k hk x hx
    ·exact hB x hx
   have hlen : qs.length ≤ n := by obtain ⟨_, _, _, _, h, _⟩ := hv; exact h
   by_cases he : ∃ y ∈ qs, ¬ Big.nu y < Big.de y
   ·obtain ⟨j, j1, j2, j3⟩ := first_not he
    have hA := rf_rows hq j (by omega) j3
    have hB : AllX (chEnv qs z n raw hf hzf hb w.heap.size) (rgB j) := hrow (k := j + 1) (by omega) (elRow_ok (p := qs) (n := j + 1) rfl hq (by omega))
    have hrr := List.all_eq_true.1 rg_runs j (List.mem_range.2 (by omega))
    simp only [Bool.and_eq_true] at hrr
    have hno := mt (refl_iff (qs.getD j 0)).2 j2
    by_cases hs : qs.getD j 0 < 1
    ·refine fin hlr (A := rgA j true) (fun x hx => ?_) hB ht hrr.1
     rcases List.mem_append.1 hx with hx | hx
     ·simp only [cond_true, List.mem_cons, List.not_mem_nil, or_false] at hx
      rcases hx with rfl | rfl
      ·show true = true ↔ chQ qs z (10 + j) < onC.ev _
       rw [on_ev, chQ_el]
       exact ⟨fun _ => hs, fun _ => rfl⟩
      ·show false = true ↔ omC.ev _ < chQ qs z (10 + j)
       rw [om_ev, chQ_el]
       exact ⟨fun h => (by cases h), fun h => absurd ⟨hs, h⟩ hno⟩
     ·exact hA x hx
    ·refine fin hlr (A := rgA j false) (fun x hx => ?_) hB ht hrr.2
     rcases List.mem_append.1 hx with hx | hx
     ·simp only [cond_false, List.mem_cons, List.not_mem_nil, or_false] at hx
      subst hx
      show false = true ↔ chQ qs z (10 + j) < onC.ev _
      rw [on_ev, chQ_el]
      exact ⟨fun h => (by cases h), fun h => absurd h hs⟩
     ·exact hA x hx
   ·have hall : ∀ y ∈ qs, Big.nu y < Big.de y := fun y hy => Classical.byContradiction fun h => he ⟨y, hy, h⟩
    have hlt : qs.length < n := by
     rcases hbad with h | h | h | h
     ·exact absurd h hn
     ·exact absurd hz h
     ·exact h
     ·exact absurd h he
    have hA := rf_rows hq qs.length (Nat.le_refl _) fun i hi => by
     rw [List.getD_eq_getElem?_getD, List.getElem?_eq_getElem hi]
     exact hall _ (List.getElem_mem hi)
    refine fin hlr hA (B := rawB qs.length) (fun x hx => ?_) ht (List.all_eq_true.1 rb_runs qs.length (List.mem_range.2 (by omega)))
    rcases List.mem_cons.1 hx with rfl | hx
    ·rfl
    ·exact hrow (k := qs.length + 1) (by omega) (elRow_ok rfl hq (Nat.le_refl _)) x hx
 ·have ht : false = (decide (z = 1) || decide (z = -1)) := by
   have h1 : z ≠ 1 := fun h => hz (.inl h)
   have h2 : z ≠ -1 := fun h => hz (.inr h)
   simp [h1, h2]
  by_cases hn : 31 < n
  ·refine fin hwl hnil (B := [.lt 0 31 1 0 true]) (fun x hx => ?_) ht rx_run2
   rcases List.mem_cons.1 hx with rfl | hx
   ·show true = true ↔ ((0 : Nat) : Int) + 31 < ((n : Nat) : Int) + 0
    exact ⟨fun _ => by omega, fun _ => rfl⟩
   ·simp at hx
  ·refine fin hwl hnil (B := [.lt 0 31 1 0 false]) (fun x hx => ?_) ht rx_run.2
   rcases List.mem_cons.1 hx with rfl | hx
   ·show false = true ↔ ((0 : Nat) : Int) + 31 < ((n : Nat) : Int) + 0
    exact ⟨fun h => (by cases h), fun h => by omega⟩
   ·simp at hx
def elRowG (c : Nat) : Nat → List Ix
 | 0 => []
 | k + 1 => .el c 0 k (.v (110 + k)) :: elRowG c k
theorem elRowG_ok {ρ : Env} {c : Nat} {p : List Rat} (hc : ρ.lst c = p) (hq : ∀ i, i < p.length → ρ.q (110 + i) = p.getD i 0) : ∀ {n : Nat}, n ≤ p.length → AllX ρ (elRowG c n)
 | 0, _ => fun x hx => by simp [elRowG] at hx
 | n + 1, h => fun x hx => by
  rcases List.mem_cons.1 hx with rfl | hx
  ·refine ⟨n, ?_, ?_⟩
   ·unfold atIx; rw [ρ.nat0]; simp
   ·rw [hc]
    show p[n]? = some (ρ.q (110 + n))
    rw [hq n (by omega), List.getD_eq_getElem?_getD, List.getElem?_eq_getElem (by omega)]; rfl
  ·exact elRowG_ok hc hq (by omega) x hx
noncomputable def sgE (k : Nat) : Qe := .mul (.v (110 + k)) (.v 109)
noncomputable def sgRun (n m : Nat) (s : Bool) : Option (D3 Sy) := tells [.ls 1 0, .ng (.v 109), .nu (.v 109), .de (.v 109)] [.one, .agg 3] (call Try.prog (lsCfg false (trA sgE m s n) (.lc 0 n :: elRowG 0 n) noJ) (lsSumsW (trA sgE m s n)) 60 scF)
noncomputable def sgOK (n m : Nat) (s : Bool) : Bool := isOl 1 (.take (snE sgE n) 0 (m : Int)) (sgRun n m s)
set_option maxHeartbeats 4000000 in
theorem sg_runs0 : (List.range 34).all (fun n => sgOK n 0 false) = true := by kernel_rfl
set_option maxHeartbeats 4000000 in
theorem sg_runsT : (List.range 34).all (fun n => sgOK n n true) = true := by kernel_rfl
set_option maxHeartbeats 4000000 in
theorem sg_runsF : (List.range 34).all (fun n => sgOK n n false) = true := by kernel_rfl
noncomputable def ogE (k : Nat) : Qe := .quo (.v (110 + k)) (.v 109)
noncomputable def ogA (t : Bool) (n : Nat) : List As := ⟨1, .v 109, z0, false⟩ :: cond t [] [⟨0, ogE n, z0, false⟩] ++ Nat.rec (motive := fun _ => List As) [] (fun k ih => ⟨0, ogE k, z0, true⟩ :: ih) n
noncomputable def ogRun (n : Nat) : Option (D3 Sy) := tells [.ls 1 0, .ng (.v 109), .nu (.v 109), .de (.v 109)] [.one, .agg 3] (call Try.prog (lsCfg false (ogA true n) (.lc 0 n :: elRowG 0 n) noJ) (lsSumsW (ogA true n)) 60 ovF)
noncomputable def obB (j : Nat) : List Ix := .ln 0 1 :: .bd 1 :: .lt 0 33 1 0 false :: (ltR (j + 1) ++ elRowG 0 (j + 1))
noncomputable def obRun (j : Nat) : Option (D3 Sy) := tells [.ls 1 0, .ng (.v 109), .nu (.v 109), .de (.v 109)] [.one, .agg 3] (call Try.prog (lsCfg false (ogA false j) (obB j) noJ) (lsSumsW (ogA false j)) 60 ovF)
noncomputable def isNF (d : Option (D3 Sy)) : Bool := match d with
 | some (.tuple [.one (.p a), .one (.p (.bool t))]) => !t && isNil a
 | _ => false
theorem isNF_ok {d : Option (D3 Sy)} (h : isNF d = true) : d = some (.tuple [.one (.p (.slice none 0 0)), .one (.p (.bool false))]) := by
 unfold isNF at h
 split at h
 ·rename_i t
  simp only [Bool.and_eq_true, Bool.not_eq_true'] at h
  obtain ⟨rfl, h1⟩ := h
  rw [isNil_ok h1]
 ·cases h
set_option maxHeartbeats 4000000 in
theorem og_runs : (List.range 34).all (fun n => isOT 0 (snE ogE n) n (ogRun n)) = true := by kernel_rfl
set_option maxHeartbeats 4000000 in
theorem ob_runs : (List.range 33).all (fun j => isNF (obRun j)) = true := by kernel_rfl
def bgQ (p : List Rat) (x : Rat) (i : Nat) : Rat := if i < 100 then 0 else if i = 109 then x else p.getD (i - 110) 0
theorem bgQ_low (p : List Rat) (x : Rat) (i : Nat) (h : i < 100) : Fit (bgQ p x i) := by
 unfold bgQ
 rw [if_pos h]
 exact fit00
theorem bgQ_big {p : List Rat} {x : Rat} (hp : ∀ y ∈ p, Sm 4096 y) (hx : Sm 4096 x) (i : Nat) : Sm 4096 (bgQ p x i) := by
 unfold bgQ
 split
 ·exact fit00.sm.up (by decide)
 ·split
  ·exact hx
  ·exact getD_sm hp _
theorem bgQ_el (p : List Rat) (x : Rat) (i : Nat) : bgQ p x (110 + i) = p.getD i 0 := by
 unfold bgQ
 rw [if_neg (by omega), if_neg (by omega), Nat.add_sub_cancel_left]
def bgEnv (p : List Rat) (x : Rat) (hp : ∀ y ∈ p, Sm 4096 y) (hx : Sm 4096 x) (lo : Nat) : Env := ⟨bgQ p x, fun _ => (false, ⟨#[]⟩, ⟨#[]⟩), bgQ_low p x, bgQ_big hp hx, fun _ => bad_zero, lo, atLst p, atNat p.length, rfl⟩
section
variable {p : List Rat} {x : Rat} (hp : ∀ y ∈ p, Sm 4096 y) (hx : Sm 4096 x) (lo : Nat)
theorem bg_holds {w : World} {u v : Value} (hu : LsIn 1 w u p) (hv : NumIn w v x) (hlo : w.heap.size = lo) : ∃ a b c, v = .agg ⟨[a, b, c]⟩ ∧ HoldsL (symSig (bgEnv p x hp hx lo)) w [.ls 1 0, .ng (.v 109), .nu (.v 109), .de (.v 109)] [u, a, b, c] := by
 obtain ⟨us, rfl, hus⟩ := num_holds (e := .v 109) (ρ := bgEnv p x hp hx lo) hv
 obtain ⟨a, l1, rfl, g1, o1, b, l2, rfl, g2, o2, c, l3, rfl, g3, o3, rfl⟩ := hus
 exact ⟨a, b, c, rfl, u, _, rfl, LsIn.ls hu hlo.symm, by obtain ⟨a, m, rfl, _⟩ := hu; rfl, _, _, rfl, g1, o1, _, _, rfl, g2, o2, _, _, rfl, g3, o3, rfl⟩
theorem bg_B : AllX (bgEnv p x hp hx lo) (.lc 0 p.length :: elRowG 0 p.length) := fun y hy => by
 rcases List.mem_cons.1 hy with rfl | hy
 ·rfl
 ·exact elRowG_ok (ρ := bgEnv p x hp hx lo) (c := 0) (p := p) rfl (fun i _ => bgQ_el p x i) (Nat.le_refl _) y hy
end
theorem scaleG_any (w : World) {p : List Rat} {x : Rat} (hp : ∀ y ∈ p, Sm 4096 y) (hx : Sm 4096 x) (hl : p.length ≤ 33) {m : Nat} (hm : TrimAt (sc p x) m) (hm2 : m = 0 ∨ m = p.length) {u v : Value} (hu : LsIn 1 w u p) (hv : NumIn w v x) (hG : Try.prog.globals.size ≤ w.heap.size) (hT : natSig.base w) :
  Calls Try.prog scF ⟨[u, v]⟩ w fun e w' => ∃ y, e = .returned y ∧ NewOl 1 w w' y ((sc p x).take m) ∧ Below w.heap.size w w' := by
 have hsl : (sc p x).length = p.length := by simp [sc]
 have hB := bg_B hp hx w.heap.size
 obtain ⟨a0, b0, c0, rfl, hh⟩ := bg_holds hp hx w.heap.size hu hv rfl
 have fin : ∀ s : Bool, sgOK p.length m s = true → AllH (bgEnv p x hp hx w.heap.size) (trA sgE m s p.length) → Calls Try.prog scF ⟨[u, .agg ⟨[a0, b0, c0]⟩]⟩ w fun e w' => ∃ y, e = .returned y ∧ NewOl 1 w w' y ((sc p x).take m) ∧ Below w.heap.size w w' := by
  intro s hr hA
  have hr' := isOl_ok (K := 1) (l := .take (snE sgE p.length) 0 (m : Int)) (d := sgRun p.length m s) hr
  refine (tells_calls (lsFits hA hB) (lsSumsW_ok hA) hr' rfl glob_few hh hG hT (Nat.le_refl _) (.none rfl)).mono ?_
  rintro e w' ⟨v', rfl, h1, hb⟩
  refine ⟨v', rfl, newOl_of (ρ := bgEnv p x hp hx w.heap.size) rfl h1 ?_ (fun p hp => by cases hp), hb⟩
  show ((snE sgE p.length).ev _).take (((0 : Nat) : Int) + (m : Int)).toNat = _
  rw [snE_ev, show (((0 : Nat) : Int) + (m : Int)).toNat = m by omega]
  congr 1
  unfold sc
  rw [← range_getD p (· * x)]
  refine List.map_congr_left fun k _ => ?_
  show bgQ p x (110 + k) * bgQ p x 109 = _
  rw [bgQ_el]; rfl
 have hA := trA_ok (ρ := bgEnv p x hp hx w.heap.size) (e := sgE) hm (fun i hi => by
  rw [hsl] at hi
  show bgQ p x (110 + i) * bgQ p x 109 = _
  rw [bgQ_el]
  unfold sc
  rw [map_getD _ _ hi]; rfl) p.length (by omega)
 rcases hm2 with rfl | rfl
 ·have h0 : ∀ (s t : Bool) n, trA sgE 0 s n = trA sgE 0 t n := fun s t n => by
   induction n with
   | zero => rfl
   | succ n ih =>
    have e : ∀ s : Bool, trA sgE 0 s (n + 1) = ⟨1, sgE n, z0, true⟩ :: trA sgE 0 s n := fun _ => rfl
    rw [e, e, ih]
  rw [h0 _ false] at hA
  exact fin false (List.all_eq_true.1 sg_runs0 p.length (List.mem_range.2 (by omega))) hA
 ·cases hs : Big.ng ((sc p x).getD (p.length - 1) 0) with
  | true => rw [hs] at hA; exact fin true (List.all_eq_true.1 sg_runsT p.length (List.mem_range.2 (by omega))) hA
  | false => rw [hs] at hA; exact fin false (List.all_eq_true.1 sg_runsF p.length (List.mem_range.2 (by omega))) hA
theorem og_ev {p : List Rat} {x : Rat} (k : Nat) : (ogE k).ev (bgQ p x) = p.getD k 0 / x := by
 show bgQ p x (110 + k) / bgQ p x 109 = _
 rw [bgQ_el]; rfl
theorem og_row {p : List Rat} {x : Rat} : ∀ n, (∀ i, i < n → Fit (p.getD i 0 / x)) → ∀ y ∈ (Nat.rec (motive := fun _ => List As) [] (fun k ih => ⟨0, ogE k, z0, true⟩ :: ih) n : List As), y.holds (bgQ p x) := by
 intro n
 induction n with
 | zero =>
  intro _ y hy
  have hy' : y ∈ ([] : List As) := hy
  simp at hy'
 | succ n ih =>
  intro hn y hy
  rcases List.mem_cons.1 hy with rfl | hy
  ·show true = true ↔ Fit ((ogE n).ev (bgQ p x))
   rw [og_ev]
   exact ⟨fun _ => hn n (by omega), fun _ => rfl⟩
  ·exact ih (fun i hi => hn i (by omega)) y hy
theorem overG_any (w : World) {p : List Rat} {x : Rat} (hp : ∀ y ∈ p, Sm 4096 y) (hx : Sm 4096 x) (h0 : x ≠ 0) (hf : ∀ y ∈ ov p x, Fit y) (hl : p.length ≤ 33) {u v : Value} (hu : LsIn 1 w u p) (hv : NumIn w v x) (hG : Try.prog.globals.size ≤ w.heap.size) (hT : natSig.base w) :
  Calls Try.prog ovF ⟨[u, v]⟩ w fun e w' => ∃ y, e = .returned (.tuple ⟨[y, .bool true]⟩) ∧ NewOl 0 w w' y (ov p x) ∧ Below w.heap.size w w' := by
 have hr := isOT_ok (List.all_eq_true.1 og_runs p.length (List.mem_range.2 (by omega)))
 have hA : AllH (bgEnv p x hp hx w.heap.size) (ogA true p.length) := fun y hy => by
  rcases List.mem_cons.1 hy with rfl | hy
  ·show false = true ↔ x = 0
   exact ⟨fun h => (by cases h), fun h => absurd h h0⟩
  ·refine og_row _ (fun i hi => hf _ ?_) y hy
   unfold ov
   rw [List.mem_map]
   exact ⟨p.getD i 0, by rw [List.getD_eq_getElem?_getD, List.getElem?_eq_getElem (by omega)]; exact List.getElem_mem _, rfl⟩
 have hB := bg_B hp hx w.heap.size
 obtain ⟨a0, b0, c0, rfl, hh⟩ := bg_holds hp hx w.heap.size hu hv rfl
 refine (tells_calls (lsFits hA hB) (lsSumsW_ok hA) hr rfl glob_few hh hG hT (Nat.le_refl _) (.none rfl)).mono ?_
 rintro e w' ⟨v', rfl, ⟨vs, rfl, a, l1, rfl, h1, u2, l2, rfl, h2, rfl⟩, hb⟩
 have h2' : u2 = .bool true := h2
 subst h2'
 have hlist : (snE ogE p.length).ev (bgEnv p x hp hx w.heap.size) = ov p x := by
  rw [snE_ev]
  unfold ov
  rw [← range_getD p (· / x)]
  exact List.map_congr_left fun k _ => og_ev k
 refine ⟨a, rfl, newOl_of (ρ := bgEnv p x hp hx w.heap.size) rfl h1 hlist (fun q hq => ?_), hb⟩
 cases hq
 show (((ov p x).length : Nat) : Int) = ((0 : Nat) : Int) + (p.length : Int)
 unfold ov
 rw [List.length_map]; omega
theorem overG_bad (w : World) {p : List Rat} {x : Rat} (hp : ∀ y ∈ p, Sm 4096 y) (hx : Sm 4096 x) (h0 : x ≠ 0) (hf : ∃ y ∈ p, ¬ Fit (y / x)) (hl : p.length ≤ 33) {u v : Value} (hu : LsIn 1 w u p) (hv : NumIn w v x) (hG : Try.prog.globals.size ≤ w.heap.size) (hT : natSig.base w) :
  Calls Try.prog ovF ⟨[u, v]⟩ w fun e w' => e = .returned (.tuple ⟨[.slice none 0 0, .bool false]⟩) ∧ Below w.heap.size w w' := by
 obtain ⟨j, j1, j2, j3⟩ := first_not (P := fun y => Fit (y / x)) hf
 have hr := isNF_ok (List.all_eq_true.1 ob_runs j (List.mem_range.2 (by omega)))
 have hA : AllH (bgEnv p x hp hx w.heap.size) (ogA false j) := fun y hy => by
  rcases List.mem_cons.1 hy with rfl | hy
  ·show false = true ↔ x = 0
   exact ⟨fun h => (by cases h), fun h => absurd h h0⟩
  rcases List.mem_cons.1 (show y ∈ (⟨0, ogE j, z0, false⟩ : As) :: _ from hy) with rfl | hy
  ·show false = true ↔ Fit ((ogE j).ev (bgQ p x))
   rw [og_ev]
   exact ⟨fun h => (by cases h), fun h => absurd h j2⟩
  ·exact og_row _ j3 y hy
 have hB : AllX (bgEnv p x hp hx w.heap.size) (obB j) := fun y hy => by
  rcases List.mem_cons.1 hy with rfl | hy
  ·rfl
  rcases List.mem_cons.1 hy with rfl | hy
  ·show p.length ≤ 10000
   omega
  rcases List.mem_cons.1 hy with rfl | hy
  ·show false = true ↔ ((0 : Nat) : Int) + 33 < ((p.length : Nat) : Int) + 0
   exact ⟨fun h => (by cases h), fun h => by omega⟩
  rcases List.mem_append.1 hy with hy | hy
  ·exact ltR_ok (ρ := bgEnv p x hp hx w.heap.size) (j + 1) (show j + 1 ≤ p.length by omega) y hy
  ·exact elRowG_ok (ρ := bgEnv p x hp hx w.heap.size) (c := 0) (p := p) (n := j + 1) rfl (fun i _ => bgQ_el p x i) (by omega) y hy
 obtain ⟨a0, b0, c0, rfl, hh⟩ := bg_holds hp hx w.heap.size hu hv rfl
 refine (tells_calls (lsFits hA hB) (lsSumsW_ok hA) hr rfl glob_few hh hG hT (Nat.le_refl _) (.none rfl)).mono ?_
 rintro e w' ⟨v', rfl, ⟨vs, rfl, a, l1, rfl, h1, u2, l2, rfl, h2, rfl⟩, hb⟩
 have h1' : a = .slice none 0 0 := h1
 have h2' : u2 = .bool false := h2
 subst h1' h2'
 exact ⟨rfl, hb⟩
section
variable {F : Type}
noncomputable def owB2 (b : Option (Blk F)) : Bool := match b with
 | some x => match x with
  | .ow _ => true
  | _ => false
 | none => false
theorem owB2_ok {b : Option (Blk F)} (h : owB2 b = true) : ∃ f, b = some (.ow f) := by
 cases b with
 | none => cases h
 | some x =>
  cases x <;> first | (cases h; done) | exact ⟨_, rfl⟩
noncomputable def apart2 (h : Tr (Blk F)) (v : Value) : Bool := match v with
 | .agg cs => match cs.toList with
  | a :: l => match l with
   | b :: _ => match isChan a with
    | some i => match isChan b with
     | some j => cond (Nat.beq i j) false (owB2 (h.get i) && owB2 (h.get j))
     | none => false
    | none => false
   | [] => false
  | [] => false
 | _ => false
def Apart2 (v : Value) : Prop := ∃ a b l, v = .agg ⟨a :: b :: l⟩ ∧ ∀ x, blkV a = some x → blkV b ≠ some x
theorem apart2_ok {S : Sig F} {r : Ren} {h : Tr (Blk F)} {w : World} {v v' : Value} (e : apart2 h v = true) (hM : Mod S r h.get w) (hv : VR r v v') : Apart2 v' := by
 unfold apart2 at e
 split at e <;> try (cases e; done)
 rename_i cs
 obtain ⟨l⟩ := cs
 simp only at e
 split at e <;> try (cases e; done)
 rename_i a l'
 split at e <;> try (cases e; done)
 rename_i b l''
 obtain ⟨us, rfl, hus⟩ := vr_agg hv
 cases hus with
 | cons ha hus => cases hus with
  | cons hb hus =>
   cases hi : isChan a with
   | none => rw [hi] at e; cases e
   | some i =>
    cases hj : isChan b with
    | none => rw [hi, hj] at e; cases e
    | some j =>
     rw [hi, hj] at e
     simp only at e
     cases hij : Nat.beq i j with
     | true => rw [hij] at e; cases e
     | false =>
      rw [hij] at e
      simp only [cond_false, Bool.and_eq_true] at e
      obtain ⟨f1, g1⟩ := owB2_ok e.1
      obtain ⟨f2, g2⟩ := owB2_ok e.2
      have hai := isChan_of hi
      have hbj := isChan_of hj
      subst hai hbj
      obtain ⟨x1, q1, _, _, k1⟩ := hM.ow _ _ g1
      obtain ⟨x2, q2, _, _, k2⟩ := hM.ow _ _ g2
      have key : ∀ {k : Nat} {u x : Value}, VR r (.chan (some k)) u → r.val k = some x → u = x := by
       intro k u x hu hx
       cases hu with
       | same p => simp [plain] at p
       | opq hp _ => rw [hx] at hp; injection hp with hp; exact hp.symm
      have e1 := key ha q1
      have e2 := key hb q2
      subst e1 e2
      refine ⟨_, _, _, rfl, fun x hx hy => ?_⟩
      rcases hM.inj i j x (k1 x hx).1 (k2 x hy).1 with q | q | q
      ·subst q
       have : Nat.beq i i = true := Nat.beq_refl i
       rw [hij] at this; cases this
      ·exact q.2.2.2 _ g1
      ·exact q.2.2.2 _ g2
noncomputable def tells2 (fs : List F) (ls : List Lay) (m : List Value → M F Value) : Option (D3 F) := match newFacts fs .nil 100000 with
 | .no => none
 | .ok vs h1 nx1 _ _ => match m (split ls vs) h1 nx1 with
  | .no => none
  | .ok a h2 _ _ W => cond (geAll nx1 W && apart2 h2 a) (see3 h2 a) none
variable {S : Sig F}
theorem tells2_calls {P : Program} {C : Cfg F} [HardLoc C] {sum : Sums F} {n : Nat} {f : FuncId} {fs : List F} {ls : List Lay} {d : D3 F} (hF : Fits S P C) (hs : SumOK S P sum) (e : tells2 fs ls (call P C sum n f) = some d) (ha : plainLay ls = true) (hx : S.G ≤ 100000)
  {w : World} {us : List Value} (hu : HoldsL S w fs us) (hG : S.G ≤ w.heap.size) (hb : S.base w) (hlo : S.lo ≤ w.heap.size) (hJ : JmpAll S P C) :
  Calls P f ⟨split ls us⟩ w fun e w' => ∃ v', e = .returned v' ∧ d.is S w' v' ∧ Apart2 v' ∧ Below w.heap.size w w' := by
 unfold tells2 at e
 cases h1 : newFacts fs .nil 100000 with
 | no => rw [h1] at e; cases e
 | ok vs hh nx1 R1 W1 =>
  rw [h1] at e
  simp only at e
  cases h2 : call P C sum n f (split ls vs) hh nx1 with
  | no => rw [h2] at e; cases e
  | ok a h3 nx2 R W =>
   rw [h2] at e
   simp only at e
   cases hc : (geAll nx1 W && apart2 h3 a) with
   | false => rw [hc] at e; cases e
   | true =>
    rw [hc] at e
    simp only [cond_true] at e
    simp only [Bool.and_eq_true] at hc
    have hW := geAll_ok hc.1
    have hW1 := newFacts_W fs h1
    subst hW1
    have hg : (Tr.get (.nil : Tr (Blk F))) = fun _ => none := funext fun k => Tr.get_nil k
    have hN0 : ∀ m, New (ren0 S.G) 100000 m := fun m k h1 _ => ⟨if_neg (by omega), rfl⟩
    obtain ⟨hle, r1, hX, hvs⟩ := newFacts_ok fs h1 (by rw [hg]; exact mod0 hG hb hlo) (hN0 nx1) hu
    have hcl := call_ok hF hs n hJ
    have hfr : Fr hh nx1 := ((loc_newFacts fs).2 _ _ _ _ _ _ _ h1 (fun k _ => Tr.get_nil k)).fr
    have hrun := Run.self (hcl.loc f _) h2 hfr
    have hN : New r1 nx1 nx2 := New.after (hN0 nx2) hX hle
    refine (hcl.run f _ _ _ _ _ _ _ _ hrun r1 w _ (split_ok ha hvs) hX.mod hN).mono ?_
    rintro en w' ⟨v', r', rfl, hv, hY⟩
    refine ⟨v', rfl, see3_ok e hY.mod hv, apart2_ok hc.2 hY.mod hv, hY.os, hY.tape, hY.output, hY.size, fun b hb' => ?_⟩
    have hbo : w.heap[b]? = some w.heap[b] := Array.getElem?_eq_getElem hb'
    rw [hbo]
    refine hY.keep b _ hbo fun k hk he => ?_
    have hge := hW k hk
    rcases hX.new k b he with h5 | h5 | ⟨_, h5, _⟩
    ·rw [show (ren0 S.G).blk k = none from if_neg (by omega)] at h5; cases h5
    ·omega
    ·cases h5
theorem ext_two {r : Ren} {g : Nat → Option (Blk F)} {w w' : World} {nx : Nat} {x1 x2 : F} {v1 v2 : Value} (hM : Mod S r g w) (hN : New r nx (nx + 2)) (hf : Frm [] w w') (h1 : (Sl.ow x1).is S w' v1) (h2 : (Sl.ow x2).is S w' v2)
  (b1 : ∀ b, blkV v1 = some b → w.heap.size ≤ b) (b2 : ∀ b, blkV v2 = some b → w.heap.size ≤ b) (hd : ∀ b, blkV v1 = some b → blkV v2 ≠ some b) :
  ∃ r', Ext S r w nx (nx + 2) [] (fun n => if n = nx + 1 then some (.ow x2) else if n = nx then some (.ow x1) else g n) r' w' ∧ r'.val nx = some v1 ∧ r'.val (nx + 1) = some v2 := by
 have hM1 : Mod S r g w' := (mod_frame (I := []) (O := []) hM (fun _ h => by simp at h) (fun _ h => by simp at h) (fun _ h => by simp at h) hf).congr fun n => .inr (by simp)
 obtain ⟨l1, hM2⟩ := mod_ow (nx := nx) (x := x1) (v := v1) hM1 (fun n p q => hN n p (by omega)) h1 fun b hb k hk => by
  have := hM.lt k b hk
  have := b1 b hb
  omega
 have hN2 : New ⟨fun n => if n = nx then blkV v1 else r.blk n, fun n => if n = nx then some v1 else r.val n, r.len⟩ (nx + 1) (nx + 1 + 1) := fun n p q => by
  have := hN n (by omega) (by omega)
  simp only [if_neg (show n ≠ nx by omega)]
  exact this
 obtain ⟨l2, hM3⟩ := mod_ow (nx := nx + 1) (x := x2) (v := v2) hM2 hN2 h2 fun b hb k hk => by
  have hk' : (if k = nx then blkV v1 else r.blk k) = some b := hk
  split at hk'
  ·exact absurd hb (hd b hk')
  ·have := hM.lt k b hk'
   have := b2 b hb
   omega
 refine ⟨_, ⟨⟨fun n b q => l2.blk n b (l1.blk n b q), fun n u q => l2.val n u (l1.val n u q), fun _ _ _ => rfl⟩, hM3, fun n q => ?_, fun n b q => ?_, fun b o hbo _ => hf.keep b o hbo (by simp), hf.size, hf.os, hf.tape, hf.output, hf.loops⟩, ?_, ?_⟩
 ·by_cases e : n = nx ∨ n = nx + 1
  ·exact .inr ⟨by omega, by omega⟩
  ·simp only [if_neg (show n ≠ nx + 1 by omega), if_neg (show n ≠ nx by omega)] at q
   exact .inl q
 ·have q' : (if n = nx + 1 then blkV v2 else if n = nx then blkV v1 else r.blk n) = some b := q
  split at q'
  ·exact .inr (.inl (b2 b q'))
  ·split at q'
   ·exact .inr (.inl (b1 b q'))
   ·exact .inl q'
 ·show (if nx = nx + 1 then some v2 else if nx = nx then some v1 else r.val nx) = some v1
  rw [if_neg (by omega), if_pos rfl]
 ·show (if nx + 1 = nx + 1 then some v2 else if nx + 1 = nx then some v1 else r.val (nx + 1)) = some v2
  rw [if_pos rfl]
end
theorem newFacts_le {F : Type} : ∀ (l : List F) {h h' : Tr (Blk F)} {nx nx' : Nat} {R W : List Nat} {vs : List Value}, newFacts l h nx = .ok vs h' nx' R W → nx ≤ nx'
 | [], h, h', nx, nx', R, W, vs, e => by
  obtain ⟨rfl, rfl, rfl, rfl⟩ := ret_ok (show (ret [] : M F _) h nx = _ from e)
  exact Nat.le_refl _
 | f :: l, h, h', nx, nx', R, W, vs, e => by
  obtain ⟨x, h3, nx3, R3, W3, R4, W4, e3, e4, rfl, rfl⟩ := bind_ok (show bind (newFact f) (fun x => bind (newFacts l) fun l => ret (x :: l)) h nx = _ from e)
  obtain ⟨i, h5, nx5, R5, W5, R6, W6, e5, e6, rfl, rfl⟩ := bind_ok e3
  obtain ⟨rfl, rfl, rfl, rfl⟩ := ret_ok e6
  unfold fresh at e5
  cases e5
  obtain ⟨xs, h7, nx7, R7, W7, R8, W8, e7, e8, rfl, rfl⟩ := bind_ok e4
  obtain ⟨rfl, rfl, rfl, rfl⟩ := ret_ok e8
  have := newFacts_le l e7
  omega
noncomputable def give2 (K c d : Nat) (x : Qe) : M Sy Value := bind (fresh (.ow (.ol K (.v c) none))) fun i => bind (fresh (.ow (.ol K (.v d) none))) fun j => bind (newFacts [.ng x, .nu x, .de x]) fun vs => ret (.agg ⟨.chan (some i) :: .chan (some j) :: vs⟩)
theorem loc_give2 (K c d : Nat) (x : Qe) : Loc (give2 K c d x) := loc_bind (loc_fresh _) fun _ => loc_bind (loc_fresh _) fun _ => loc_bind (loc_newFacts _) fun _ => loc_ret _
def Q2 (ρ : Env) (K c d : Nat) (x : Qe) (w : World) (en : Ending) (w' : World) : Prop := ∃ u1 u2 l, en = .returned (.agg ⟨u1 :: u2 :: l⟩) ∧ NewOl K w w' u1 (ρ.lst c) ∧ NewOl K w w' u2 (ρ.lst d) ∧ (∀ b, blkV u1 = some b → blkV u2 ≠ some b) ∧ NumIn w' (.agg ⟨l⟩) (x.ev ρ.q) ∧ Below w.heap.size w w'
theorem newOl_is {ρ : Env} {K c : Nat} {w w' : World} {u : Value} (hu : NewOl K w w' u (ρ.lst c)) (hf : (symSig ρ).G ≤ w.heap.size) (hz : (symSig ρ).lo ≤ w.heap.size) : (Sl.ow (.ol K (.v c) none) : Sl Sy).is (symSig ρ) w' u :=
 ⟨OlIn.ol (l := .v c) hu.ol, by obtain ⟨a, m, rfl, _⟩ := hu.ol; rfl, fun b hbu => by
  obtain ⟨g1, c, t, z, g2, g3⟩ := hu.new b hbu
  exact ⟨Nat.le_trans hf g1, c, t, z, g2, (symSig ρ).new 0 _ _ (Nat.le_trans hz g1) g3⟩⟩
theorem goes_two {ρ : Env} {K c d : Nat} {x : Qe} {f : FuncId} {args' : List Value} {h h' : Tr (Blk Sy)} {nx nx' : Nat} {R W : List Nat} {r : Ren} {w : World} {v : Value} (e : give2 K c d x h nx = .ok v h' nx' R W) (hM : Mod (symSig ρ) r h.get w) (hN : New r nx nx')
  (cc : Calls Try.prog f ⟨args'⟩ w (Q2 ρ K c d x w)) :
  Calls Try.prog f ⟨args'⟩ w fun e w' => ∃ v' r', e = .returned v' ∧ VR r' v v' ∧ Ext (symSig ρ) r w nx nx' W h'.get r' w' := by
 obtain ⟨i, h1, nx1, R1, W1, R2, W2, e1, e2, rfl, rfl⟩ := bind_ok e
 unfold fresh at e1
 cases e1
 obtain ⟨j, h3, nx3, R3, W3, R4, W4, e3, e4, rfl, rfl⟩ := bind_ok e2
 unfold fresh at e3
 cases e3
 obtain ⟨vs, h5, nx5, R5, W5, R6, W6, e5, e6, rfl, rfl⟩ := bind_ok e4
 obtain ⟨rfl, rfl, rfl, rfl⟩ := ret_ok e6
 refine cc.mono ?_
 rintro en w' ⟨u1, u2, l, rfl, n1, n2, hd, hn, hb⟩
 have hle5 := newFacts_le _ e5
 obtain ⟨r1, hX, q1, q2⟩ := ext_two (S := symSig ρ) (nx := nx) hM (fun n p q => hN n p (by omega)) (frm_below hb) (newOl_is n1 hM.fits hM.sz) (newOl_is n2 hM.fits hM.sz) (fun b hb => (n1.new b hb).1) (fun b hb => (n2.new b hb).1) hd
 have hX2 := hX.congr (g' := ((h.set nx (.ow (.ol K (.v c) none))).set (nx + 1) (.ow (.ol K (.v d) none))).get) fun n => .inr (by rw [Tr.get_set, Tr.get_set])
 obtain ⟨us, hus, hh⟩ := num_holds hn
 cases hus
 obtain ⟨hle, r2, hY, hv⟩ := newFacts_ok _ e5 hX2.mod (New.after hN hX2 (by omega)) hh
 have o1 : isOne u1 = true := by obtain ⟨a, m, rfl, _⟩ := n1.ol; rfl
 have o2 : isOne u2 = true := by obtain ⟨a, m, rfl, _⟩ := n2.ol; rfl
 refine ⟨_, r2, rfl, .agg (.cons (.opq (hY.le.val _ _ q1) o1) (.cons (.opq (hY.le.val _ _ q2) o2) hv)), ?_⟩
 have := hX2.trans hY (by omega) hle
 simpa using this
noncomputable def plF : Nat := 48
noncomputable def nuC : Qe := .c false 0 1
noncomputable def isIq (k : Int) (v : Value) : Bool := match v with
 | .int t z => match t with
  | .i64 => eqI z k
  | _ => false
 | _ => false
theorem isIq_ok {k : Int} {v : Value} (h : isIq k v = true) : v = .int .i64 k := by
 cases v <;> first | (cases h; done) | skip
 rename_i t z
 cases t <;> first | (cases h; done) | skip
 rw [eqI_ok (show eqI z k = true from h)]
noncomputable def swP : Nat × (List Value → Option (M Sy Value)) := (53, fun args => match args with
 | [a] => cond (isIq 1 a) (some (newNum onC)) (cond (isIq 0 a) (some (newNum nuC)) none)
 | _ => none)
noncomputable def dwS : Nat × (List Value → Option (M Sy Value)) := (77, fun args => match args with
 | [a] => some (bind (fact a) fun f => match f with
  | .de e => match e with
   | .v j => cond (Nat.ble 10 j && Nat.blt j 50) (newNum (.v (j + 40))) fail
   | _ => fail
  | _ => fail)
 | _ => none)
noncomputable def abE (i : Nat) : Qe := .mul (.v (10 + i)) (.v (50 + i))
noncomputable def blE (i : Nat) : Qe := .v (50 + i)
noncomputable def blwE (n : Nat) : Nat → Qe := Nat.rec (motive := fun _ => Qe) onC (fun m ih => .mul ih (.v (50 + (n - 1 - m))))
noncomputable def plScl (n : Nat) : TriS := (2, .v 8, 100) :: ((List.range n).flatMap fun m => [(150 + m, abE (n - 1 - m), 200 + m), (100 + m, blE (n - 1 - m), 250 + m), (150 + m, blE (n - 1 - m), 350 + m), (100 + m, abE (n - 1 - m), 400 + m)])
def plAdd (n : Nat) : Tri3 := (List.range n).flatMap fun m => [(200 + m, 250 + m, 300 + m), (350 + m, 400 + m, 151 + m)]
def plMul (n : Nat) : Tri3 := (List.range n).map fun m => (2, 300 + m, 101 + m)
noncomputable def plN : Nms := ⟨[([nuC, onC], 2), ([onC], 150)], []⟩
noncomputable def plSums (n : Nat) : Sums Sy := sumsOf (mkTab ((qmF, biN [] plN 1 (plMul n) (giveO 1)) :: (qaF, biN [] plN 1 (plAdd n) (giveO 1)) :: (scF, siN [] plN 1 (plScl n) (giveO 1)) :: swP :: dwS :: symList []))
noncomputable def plRun (n : Nat) : Option (D3 Sy) := tells2 [.ls 1 0, .ng (.v 8), .nu (.v 8), .de (.v 8)] [.agg 4] (call Try.prog (lsCfg false [] (schB n) noJ) (plSums n) 60 plF)
noncomputable def isPl (n : Nat) (d : Option (D3 Sy)) : Bool := match d with
 | some (.one (.agg [.ow a, .ow b, .f c, .f e, .f g])) => eqSy a (.ol 1 (.v (100 + n)) none) && (eqSy b (.ol 1 (.v (150 + n)) none) && (eqSy c (.ng (blwE n n)) && (eqSy e (.nu (blwE n n)) && eqSy g (.de (blwE n n)))))
 | _ => false
theorem isPl_ok {n : Nat} {d : Option (D3 Sy)} (h : isPl n d = true) : d = some (.one (.agg [.ow (.ol 1 (.v (100 + n)) none), .ow (.ol 1 (.v (150 + n)) none), .f (.ng (blwE n n)), .f (.nu (blwE n n)), .f (.de (blwE n n))])) := by
 unfold isPl at h
 split at h
 ·simp only [Bool.and_eq_true] at h
  obtain ⟨h1, h2, h3, h4, h5⟩ := h
  rw [eqSy_ok _ _ h1, eqSy_ok _ _ h2, eqSy_ok _ _ h3, eqSy_ok _ _ h4, eqSy_ok _ _ h5]
 ·cases h
set_option maxHeartbeats 4000000 in
theorem pl_runs1 : (List.range 20).all (fun n => isPl (n + 1) (plRun (n + 1))) = true := by kernel_rfl
set_option maxHeartbeats 4000000 in
theorem pl_runs2 : (List.range 6).all (fun n => isPl (n + 21) (plRun (n + 21))) = true := by kernel_rfl
set_option maxHeartbeats 4000000 in
theorem pl_runs3 : (List.range 5).all (fun n => isPl (n + 27) (plRun (n + 27))) = true := by kernel_rfl
theorem pl_runs {n : Nat} (h1 : 1 ≤ n) (h2 : n ≤ 31) : isPl n (plRun n) = true := by
 rcases Nat.lt_or_ge n 21 with h | h
 ·have := List.all_eq_true.1 pl_runs1 (n - 1) (List.mem_range.2 (by omega))
  rwa [show n - 1 + 1 = n by omega] at this
 ·rcases Nat.lt_or_ge n 27 with h | h
  ·have := List.all_eq_true.1 pl_runs2 (n - 21) (List.mem_range.2 (by omega))
   rwa [show n - 21 + 21 = n by omega] at this
  ·have := List.all_eq_true.1 pl_runs3 (n - 27) (List.mem_range.2 (by omega))
   rwa [show n - 27 + 27 = n by omega] at this
section
variable {ρ : Env}
theorem rpU {L : Tri3} (h : ∀ c e, (c, 0, e) ∈ L → ρ.lst e = ρ.lst c ∧ PolyOK (ρ.lst c) ∧ (ρ.lst c).length ≤ 33) : UnOK ρ rpF 0 L (QT ρ 1 (.bool true)) := fun c e hm w v hv hG hT => by
 obtain ⟨h1, h2, h3⟩ := h c e hm
 refine (readPoly_any w h2 h3 hv hG hT).mono ?_
 rintro en w' ⟨u, q1, q2, q3, q4⟩
 refine ⟨⟨u, q1, ?_⟩, q4⟩
 rw [h1]
 exact ⟨q2, q3⟩
end
noncomputable def rpG (B : List Ix) (L : Tri3) : Nat × (List Value → Option (M Sy Value)) := (rpF, unA B 0 L (giveT 1 (.bool true)))
theorem rpG_ok {ρ : Env} {B : List Ix} {L : Tri3} (hB : AllX ρ B) (h : ∀ c e, (c, 0, e) ∈ L → ρ.lst e = ρ.lst c ∧ PolyOK (ρ.lst c) ∧ (ρ.lst c).length ≤ 33) : SumF (symSig ρ) Try.prog (rpG B L).1 (rpG B L).2 :=
 unA_ok hB (loc_giveT _ _) (rpU h) fun _ _ _ _ _ _ _ _ _ _ _ e hM hN c => giveT_ok rfl e hM hN c
def l3Nat (a b : Nat) : Nat → Nat
 | 1 => a
 | 2 => b
 | 5 => a + b
 | _ => 0
def l3Lst (p q r : List Rat) : Nat → List Rat
 | 0 => p
 | 3 => q
 | 5 => r
 | _ => []
def l3Q (x y : Rat) : Nat → Rat
 | 6 => y
 | 9 => x
 | _ => 0
theorem l3Q_fit {x y : Rat} (hx : Fit x) (hy : Fit y) (i : Nat) : Fit (l3Q x y i) := by
 unfold l3Q
 split
 ·exact hy
 ·exact hx
 ·exact fit00
def l3Env (p q r : List Rat) (x y : Rat) (hx : Fit x) (hy : Fit y) (lo : Nat) : Env := ⟨l3Q x y, fun _ => (false, ⟨#[]⟩, ⟨#[]⟩), fun i _ => l3Q_fit hx hy i, fun i => (l3Q_fit hx hy i).sm.up (by decide), fun _ => bad_zero, lo, l3Lst p q r, l3Nat p.length q.length, rfl⟩
def ZI (B : Nat) (x : Rat) : Prop := ∃ z : Int, x = (z : Rat) ∧ z.natAbs ≤ B
theorem ZI.add {A B : Nat} {x y : Rat} (h : ZI A x) (i : ZI B y) : ZI (A + B) (x + y) := by
 obtain ⟨a, rfl, ha⟩ := h
 obtain ⟨b, rfl, hb⟩ := i
 exact ⟨a + b, by rw [Rat.intCast_add], Nat.le_trans (Int.natAbs_add_le a b) (by omega)⟩
theorem ZI.mul {A B : Nat} {x y : Rat} (h : ZI A x) (i : ZI B y) : ZI (A * B) (x * y) := by
 obtain ⟨a, rfl, ha⟩ := h
 obtain ⟨b, rfl, hb⟩ := i
 exact ⟨a * b, by rw [Rat.intCast_mul], by rw [Int.natAbs_mul]; exact Nat.mul_le_mul ha hb⟩
theorem ZI.mono {A B : Nat} {x : Rat} (h : ZI A x) (i : A ≤ B) : ZI B x := by
 obtain ⟨a, e, ha⟩ := h
 exact ⟨a, e, Nat.le_trans ha i⟩
theorem ZI.zero (B : Nat) : ZI B 0 := ⟨0, rfl, Nat.zero_le _⟩
theorem ZI.fit {B : Nat} {x : Rat} (h : ZI B x) (hB : B ≤ 9000000000000000000) : Fit x := by
 obtain ⟨a, rfl, ha⟩ := h
 exact int_fit (Rat.den_intCast _) (by rw [Rat.num_intCast]; omega) (by rw [Rat.num_intCast]; omega)
theorem ZI.getD {B : Nat} {l : List Rat} (h : ∀ x ∈ l, ZI B x) (i : Nat) : ZI B (l.getD i 0) := by
 rw [List.getD_eq_getElem?_getD]
 cases hi : l[i]? with
 | none => exact ZI.zero B
 | some x => exact h x (List.mem_of_getElem? hi)
theorem ps_zi {A B : Nat} {p q : List Rat} (hp : ∀ x ∈ p, ZI A x) (hq : ∀ x ∈ q, ZI B x) (i : Nat) : ∀ n, ZI (min n p.length * (A * B)) (ps p q i n)
 | 0 => ZI.zero _
 | n + 1 => by
  have ih := ps_zi hp hq i n
  rw [ps]
  rcases Nat.lt_or_ge n p.length with h | h
  ·refine (ih.add ((ZI.getD hp n).mul (ZI.getD hq (i - n)))).mono ?_
   rw [show min (n + 1) p.length = min n p.length + 1 by omega, Nat.add_mul, Nat.one_mul]
   exact Nat.le_refl _
  ·rw [cf_beyond h, show min (n + 1) p.length = min n p.length by omega]
   have : ps p q i n + 0 * cf q (i - n) = ps p q i n := by grind
   rw [this]
   exact ih
structure PB (B n : Nat) (l : List Rat) : Prop where
 zi : ∀ x ∈ l, ZI B x
 len : l.length ≤ n
 last : l ≠ [] → l.getLastD 0 ≠ 0
theorem PB.poly {B n : Nat} {l : List Rat} (h : PB B n l) (hB : B ≤ 9000000000000000000) : PolyOK l := ⟨fun x hx => (h.zi x hx).fit hB, h.last⟩
theorem lastD_get (l : List Rat) : l.getLastD 0 = l.getD (l.length - 1) 0 := by
 rw [List.getLastD_eq_getLast?, List.getLast?_eq_getElem?, List.getD_eq_getElem?_getD]
theorem ps_far {p q : List Rat} {i : Nat} (h : p.length + q.length ≤ i + 1) : ∀ n, n ≤ i + 1 → ps p q i n = 0
 | 0, _ => rfl
 | n + 1, hn => by
  rw [ps, ps_far h n (by omega)]
  rcases Nat.lt_or_ge n p.length with g | g
  ·rw [cf_beyond (p := q) (by omega)]; grind
  ·rw [cf_beyond g]; grind
theorem cf_pd (p q : List Rat) (i : Nat) : cf (pd p q) i = mulF p (cf q) i := by
 rw [← ps_mulF]
 rcases Nat.eq_zero_or_pos p.length with h | h
 ·rw [pd_none (.inl h), cf_nil, List.length_eq_zero_iff.1 h, ps_nil]
 ·rcases Nat.eq_zero_or_pos q.length with g | g
  ·rw [pd_none (.inr g), cf_nil, ps_low p q i (i + 1) (by omega)]
  ·rcases Nat.lt_or_ge i (p.length + q.length - 1) with k | k
   ·unfold cf
    rw [List.getD_eq_getElem?_getD, pd_get h g k]; rfl
   ·rw [cf_beyond (by rw [pd_len h g]; exact k), ps_far (by omega) _ (Nat.le_refl _)]
theorem cf_pa (p q : List Rat) (i : Nat) : cf (pa p q) i = cf p i + cf q i := by
 rcases Nat.lt_or_ge i (max p.length q.length) with h | h
 ·have := pa_get h
  unfold cf
  rw [List.getD_eq_getElem?_getD (l := pa p q), this]; rfl
 ·rw [cf_beyond (by rw [pa_len]; exact h), cf_beyond (p := p) (by omega), cf_beyond (p := q) (by omega)]; grind
theorem take_last {l : List Rat} {m : Nat} (h : TrimAt l m) : l.take m ≠ [] → (l.take m).getLastD 0 ≠ 0 := by
 intro hne
 have hle := h.le
 have hm : 0 < m := by
  rcases Nat.eq_zero_or_pos m with q | q
  ·subst q; simp at hne
  ·exact q
 rw [lastD_get, List.length_take, show min m l.length = m by omega]
 have := h.last hm
 rw [List.getD_eq_getElem?_getD, List.getElem?_take, if_pos (by omega)]
 rwa [List.getD_eq_getElem?_getD] at this
theorem PB.take {B n : Nat} {l : List Rat} {m : Nat} (hm : TrimAt l m) (hz : ∀ x ∈ l, ZI B x) (hl : l.length ≤ n) : PB B n (l.take m) :=
 ⟨fun x hx => hz x (List.mem_of_mem_take hx), by rw [List.length_take]; omega, take_last hm⟩
theorem pd_zi {A B n k : Nat} {p q : List Rat} (hp : PB A n p) (hq : PB B k q) : ∀ x ∈ pd p q, ZI (n * (A * B)) x := fun x hx => by
 unfold pd at hx
 obtain ⟨i, _, rfl⟩ := List.mem_map.1 hx
 refine (ps_zi hp.zi hq.zi i (i + 1)).mono (Nat.mul_le_mul_right _ ?_)
 have := hp.len
 omega
theorem PB.pd {A B n k : Nat} {p q : List Rat} (hp : PB A n p) (hq : PB B k q) (hn : 1 ≤ n) (hk : 1 ≤ k) : PB (n * (A * B)) (n + k - 1) (pd p q) := by
 have h1 := hp.len
 have h2 := hq.len
 refine ⟨pd_zi hp hq, ?_, fun hne => ?_⟩
 ·rcases Nat.eq_zero_or_pos p.length with h | h
  ·rw [pd_none (.inl h)]; exact Nat.zero_le _
  ·rcases Nat.eq_zero_or_pos q.length with g | g
   ·rw [pd_none (.inr g)]; exact Nat.zero_le _
   ·rw [pd_len h g]; omega
 ·have h : 0 < p.length := by
   rcases Nat.eq_zero_or_pos p.length with h | h
   ·exact absurd (pd_none (.inl h)) hne
   ·exact h
  have g : 0 < q.length := by
   rcases Nat.eq_zero_or_pos q.length with g | g
   ·exact absurd (pd_none (.inr g)) hne
   ·exact g
  have hpl := hp.last (fun q => by rw [q] at h; simp at h)
  have hql := hq.last (fun q => by rw [q] at g; simp at g)
  rw [lastD_get] at hpl hql
  rw [lastD_get, pd_len h g, List.getD_eq_getElem?_getD, pd_get h g (i := p.length + q.length - 1 - 1) (by omega)]
  show ps p q (p.length + q.length - 1 - 1) (p.length + q.length - 1 - 1 + 1) ≠ 0
  have key : ∀ n, n ≤ p.length - 1 → ps p q (p.length + q.length - 1 - 1) n = 0 := by
   intro n
   induction n with
   | zero => intro _; rfl
   | succ n ih =>
    intro hn
    rw [ps, ih (by omega), cf_beyond (p := q) (by omega)]; grind
  have top := ps_top p q (p.length + q.length - 1 - 1) p.length (q.length - 1) (Nat.le_refl _)
  rw [show p.length + q.length - 1 - 1 + 1 = p.length + (q.length - 1) by omega, top]
  have h3 : ps p q (p.length + q.length - 1 - 1) p.length = cf p (p.length - 1) * cf q (q.length - 1) := by
   have : ps p q (p.length + q.length - 1 - 1) (p.length - 1 + 1) = ps p q (p.length + q.length - 1 - 1) (p.length - 1) + cf p (p.length - 1) * cf q (p.length + q.length - 1 - 1 - (p.length - 1)) := rfl
   rw [show p.length - 1 + 1 = p.length by omega, key _ (Nat.le_refl _), show p.length + q.length - 1 - 1 - (p.length - 1) = q.length - 1 by omega] at this
   rw [this]; grind
  rw [h3]
  intro h0
  rcases Rat.mul_eq_zero.1 h0 with z | z
  ·exact hpl z
  ·exact hql z
theorem pa_zi {A B n k : Nat} {p q : List Rat} (hp : PB A n p) (hq : PB B k q) : ∀ x ∈ pa p q, ZI (A + B) x := fun x hx => by
 unfold pa at hx
 obtain ⟨i, _, rfl⟩ := List.mem_map.1 hx
 exact (ZI.getD hp.zi i).add (ZI.getD hq.zi i)
theorem PB.pa {A B n k : Nat} {p q : List Rat} (hp : PB A n p) (hq : PB B k q) (h3 : A + B ≤ 9000000000000000000) : PaFit p q :=
 ⟨fun x hx => (hp.zi x hx).fit (by omega), fun x hx => (hq.zi x hx).fit (by omega), fun x hx => (pa_zi hp hq x hx).fit h3⟩
theorem dv_zi {A n : Nat} {p : List Rat} (hp : PB A n p) : ∀ x ∈ dv p, ZI (A * n) x := fun x hx => by
 unfold dv at hx
 obtain ⟨i, hi, rfl⟩ := List.mem_map.1 hx
 have hi' := List.mem_range.1 hi
 have := hp.len
 refine ((ZI.getD hp.zi (i + 1)).mul (B := i + 1) ⟨((i + 1 : Nat) : Int), by rw [wq_is], by omega⟩).mono (Nat.mul_le_mul_left _ (by omega))
theorem PB.de {A n : Nat} {p : List Rat} (hp : PB A n p) (h1 : A ≤ 9000000000000000000) (h3 : A * n ≤ 9000000000000000000) : DeFit p :=
 ⟨fun x hx => (hp.zi x hx).fit h1, fun x hx => (dv_zi hp x hx).fit h3⟩
noncomputable def tmm (l : List Rat) : Nat := Classical.choose (trim_ex l)
theorem tmm_ok (l : List Rat) : TrimAt l (tmm l) := Classical.choose_spec (trim_ex l)
noncomputable def trmm (l : List Rat) : List Rat := l.take (tmm l)
theorem cf_trmm (l : List Rat) (i : Nat) : cf (trmm l) i = cf l i := (tmm_ok l).getD i
def bN (p : List Rat) (i : Nat) : Rat := wq (Big.de (p.getD i 0))
def aN (p : List Rat) (i : Nat) : Rat := p.getD i 0 * bN p i
noncomputable def uoL (p : List Rat) (far : Rat) : Nat → List Rat × List Rat
 | 0 => (trmm (sc [0, 1] far), [1])
 | m + 1 =>
  let a := aN p (p.length - 1 - m)
  let b := bN p (p.length - 1 - m)
  (pd [0, 1] (trmm (pa (trmm (sc (uoL p far m).2 a)) (trmm (sc (uoL p far m).1 b)))),
   trmm (pa (trmm (sc (uoL p far m).2 b)) (trmm (sc (uoL p far m).1 a))))
noncomputable def unL (p : List Rat) (far : Rat) (m : Nat) : List Rat := (uoL p far m).1
noncomputable def ovL (p : List Rat) (far : Rat) (m : Nat) : List Rat := (uoL p far m).2
noncomputable def s1L (p : List Rat) (far : Rat) (m : Nat) : List Rat := trmm (pa (trmm (sc (ovL p far m) (aN p (p.length - 1 - m)))) (trmm (sc (unL p far m) (bN p (p.length - 1 - m)))))
theorem unL_succ (p : List Rat) (far : Rat) (m : Nat) : unL p far (m + 1) = pd [0, 1] (s1L p far m) := rfl
theorem ovL_succ (p : List Rat) (far : Rat) (m : Nat) : ovL p far (m + 1) = trmm (pa (trmm (sc (ovL p far m) (bN p (p.length - 1 - m)))) (trmm (sc (unL p far m) (aN p (p.length - 1 - m))))) := rfl
def blwQ (p : List Rat) : Nat → Rat
 | 0 => 1
 | m + 1 => blwQ p m * bN p (p.length - 1 - m)
theorem sc_ziS {A B : Nat} {p : List Rat} {x : Rat} (hp : ∀ y ∈ p, ZI A y) (hx : ZI B x) : ∀ y ∈ sc p x, ZI (A * B) y := fun y hy => by
 unfold sc at hy
 obtain ⟨z, hz, rfl⟩ := List.mem_map.1 hy
 exact (hp z hz).mul hx
theorem sc_lenS (p : List Rat) (x : Rat) : (sc p x).length = p.length := by unfold sc; rw [List.length_map]
theorem PB.upS {B C n m : Nat} {l : List Rat} (h : PB B n l) (hB : B ≤ C) (hn : n ≤ m) : PB C m l := ⟨fun x hx => (h.zi x hx).mono hB, Nat.le_trans h.len hn, h.last⟩
theorem pb_sc {A B n : Nat} {p : List Rat} {x : Rat} (h : PB A n p) (hx : ZI B x) : PB (A * B) n (trmm (sc p x)) :=
 PB.take (tmm_ok _) (sc_ziS h.zi hx) (by rw [sc_lenS]; exact h.len)
theorem pb_add {A B n k : Nat} {p q : List Rat} (hp : PB A n p) (hq : PB B k q) : PB (A + B) (max n k) (trmm (pa p q)) :=
 PB.take (tmm_ok _) (pa_zi hp hq) (by rw [pa_len]; have := hp.len; have := hq.len; omega)
theorem pb_01 : PB 1 2 [0, 1] := ⟨fun x hx => by
 simp only [List.mem_cons, List.not_mem_nil, or_false] at hx
 rcases hx with rfl | rfl
 ·exact ⟨0, rfl, by decide⟩
 ·exact ⟨1, rfl, by decide⟩, Nat.le_refl _, fun _ => by decide⟩
structure PartsOK (D : Nat) (p : List Rat) : Prop where
 a : ∀ i, ZI D (aN p i)
 b : ∀ i, ZI D (bN p i)
theorem uo_pb {D : Nat} {p : List Rat} {far : Rat} (hD : PartsOK D p) (hf : ZI 1 far) : ∀ m, PB ((4 * D) ^ m) (m + 2) (unL p far m) ∧ PB ((4 * D) ^ m) (m + 1) (ovL p far m)
 | 0 => by
  refine ⟨(pb_sc pb_01 hf).upS (by simp) (by omega), ⟨fun x hx => ?_, by simp [ovL, uoL], fun _ => ?_⟩⟩
  ·have : x = 1 := by simpa [ovL, uoL] using hx
   subst this
   exact ⟨1, rfl, by simp⟩
  ·show ([1] : List Rat).getLastD 0 ≠ 0
   decide
 | m + 1 => by
  obtain ⟨hu, ho⟩ := uo_pb hD hf m
  have e : (4 * D) ^ (m + 1) = 4 * ((4 * D) ^ m * D) := by rw [Nat.pow_succ, Nat.mul_left_comm]
  have h1 := pb_add (pb_sc ho (hD.a (p.length - 1 - m))) (pb_sc hu (hD.b (p.length - 1 - m)))
  have h2 := pb_add (pb_sc ho (hD.b (p.length - 1 - m))) (pb_sc hu (hD.a (p.length - 1 - m)))
  refine ⟨?_, h2.upS (by omega) (by omega)⟩
  rw [unL_succ]
  exact (pb_01.pd h1 (by omega) (by omega)).upS (by omega) (by omega)
end Ev
end Go.Proofs.Ytnlhjcfpfapafaa
