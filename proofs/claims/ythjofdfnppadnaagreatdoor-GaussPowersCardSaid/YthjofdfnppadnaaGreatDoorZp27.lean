/- Contracts, in this order: diapasonlaw02.GaussPowers answers true. · A complex number of fractions by value: its reading, both wa · The row's last steps: a call that only makes new memory; the · What the listed variables give; the start that meets them. · The plain wrap with the listed variables and the world's sha · The five listed variables of the statements of diapasonlaw02 -/
import Derived.Test.YthjofdfnppadnaaGreatDoorZp26
import Derived.Test.YthjofdfnppadnaaGreatDoorZp21
import Derived.ChangeArms
import Derived.ChangeSame
import Derived.WideShapes
import Derived.OpenShut
import Derived.Test.YthjofdfnppadnaaGreatDoorRows
import Derived.Test.YthjofdfnppadnaaGreatDoorZp13
import Derived.WalkKit
import Derived.ProofKit
import Derived.ChangeVars
import Derived.JoinedOf
import Derived.LaidMore
import Derived.Lib.LaidTab
import Derived.Stop.Joined
import Derived.SizedLaws
import Derived.HandedShaped
import Derived.Shelf.Vars
import Derived.Lay
namespace Go.Proofs.YthjofdfnppadnaaGreatDoor
open Go Go.RowKit
namespace Ev
set_option maxRecDepth 100000
theorem int_fit {k : Int} (h1 : -9223372036854775808 ≤ k) (h2 : k ≤ 9223372036854775807) : Fit (k : Rat) := by
  have hd : Big.de (k : Rat) = 1 := rfl
  have hn : Big.nu (k : Rat) = k.natAbs := rfl
  have h8 : szN k.natAbs ≤ 8 := by
    have := szN_mono (show k.natAbs ≤ 9223372036854775808 by omega)
    exact Nat.le_trans this (by decide)
  exact ⟨by rw [hn]; omega, by rw [hd]; decide⟩
def powQ (a b : Rat) (r1 r2 r3 : Rat × Rat) (m n k l : Rat) : Nat → Rat
  | 0 => a
  | 1 => b
  | 2 => r1.1
  | 3 => r1.2
  | 4 => r2.1
  | 5 => r2.2
  | 6 => r3.1
  | 7 => r3.2
  | 10 => m
  | 11 => n
  | 12 => k
  | 13 => l
  | _ => 0
theorem powQ_fit {a b : Rat} {r1 r2 r3 : Rat × Rat} {m n k l : Rat} (ha : Fit a) (hb : Fit b) (h1 : FitP r1) (h2 : FitP r2) (h3 : FitP r3) (hm : Fit m) (hn : Fit n) (hk : Fit k) (hl : Fit l) : ∀ i, Fit (powQ a b r1 r2 r3 m n k l i) := by
  intro i
  unfold powQ
  split <;> first | exact ha | exact hb | exact h1.1 | exact h1.2 | exact h2.1 | exact h2.2 | exact h3.1 | exact h3.2 | exact hm | exact hn | exact hk | exact hl | exact fit_zero
theorem code_of {m : Nat} (h : m = 0 ∨ m = 3 ∨ m = 4) : ∃ a b : Bool, m = mOf a b ∧ (a = true ↔ m = 0) := by
  rcases h with rfl | rfl | rfl
  · exact ⟨true, true, rfl, fun _ => rfl, fun _ => rfl⟩
  · exact ⟨false, true, rfl, fun h => (by cases h), fun h => (by cases h)⟩
  · exact ⟨false, false, rfl, fun h => (by cases h), fun h => (by cases h)⟩
theorem bool_is (P : Prop) : ∃ b : Bool, b = true ↔ P := by
  by_cases h : P
  · exact ⟨true, fun _ => h, fun _ => rfl⟩
  · exact ⟨false, fun h => (by cases h), fun h2 => absurd h2 h⟩
theorem tmod_small (m : Int) : -11 ≤ m.tmod 12 ∧ m.tmod 12 ≤ 11 := by
  have h1 := Int.tmod_lt_of_pos m (show (0 : Int) < 12 by omega)
  have h2 := Int.lt_tmod_of_pos m (show (0 : Int) < 12 by omega)
  omega
theorem gaussPowers_any (w : World) (x y : Tri) (m n : Int) (hm1 : -9223372036854775808 ≤ m) (hm2 : m ≤ 9223372036854775807) (hn1 : -9223372036854775808 ≤ n) (hn2 : n ≤ 9223372036854775807) (hG : Tryz.prog.globals.size ≤ w.heap.size) (hT : Tab w) :
    Calls Tryz.prog 9 ⟨[.agg ⟨cel x ++ cel y⟩, .int .i64 m, .int .i64 n]⟩ w fun e w' => e = .returned (.bool true) ∧ Below w.heap.size w w' := by
  obtain ⟨a, q1, s1, f1, b1, x1, x2⟩ := part_of x
  obtain ⟨b, q2, s2, f2, b2, y1, y2⟩ := part_of y
  have km := tmod_small m
  have kn := tmod_small n
  have fm := int_fit hm1 hm2
  have fn := int_fit hn1 hn2
  have fk := int_fit (k := m.tmod 12) (by omega) (by omega)
  have fl := int_fit (k := n.tmod 12) (by omega) (by omega)
  have hz : FitP (q1, q2) := ⟨f1, f2⟩
  obtain ⟨m1, r1, c1, g1, e1, p1⟩ := pow_out hz (m.tmod 12) (by omega) (by omega)
  obtain ⟨m2, r2, c2, g2, e2, p2⟩ := pow_out hz (n.tmod 12) (by omega) (by omega)
  obtain ⟨m3, r3, c3, g3, e3, p3⟩ := pow_out hz (m.tmod 12 + n.tmod 12) (by omega) (by omega)
  obtain ⟨ρ, hq, hr⟩ : ∃ ρ : Env, ρ.q = powQ q1 q2 r1 r2 r3 m n (m.tmod 12 : Int) (n.tmod 12 : Int) ∧ ρ.raw = pick s1 s2 s1 s2 :=
    ⟨Env.ofFit (powQ q1 q2 r1 r2 r3 m n (m.tmod 12 : Int) (n.tmod 12 : Int)) (pick s1 s2 s1 s2) (powQ_fit f1 f2 g1 g2 g3 fm fn fk fl) (pick_all b1 b2 b1 b2), rfl, rfl⟩
  have h0 : ρ.q 0 = q1 := by rw [hq]; rfl
  have h1 : ρ.q 1 = q2 := by rw [hq]; rfl
  have hi : HoldsL (symSig ρ) w (inp a 0 ++ (inp b 1 ++ [.it (.v 10), .it (.v 11)])) (cel x ++ (cel y ++ [.int .i64 m, .int .i64 n])) := by
    refine holdsL_append (inp_holds (fun h => by rw [h0]; exact x1 h) (fun h => by rw [hr]; exact x2 h)) (holdsL_append (inp_holds (fun h => by rw [h1]; exact y1 h) (fun h => by rw [hr]; exact y2 h)) ⟨_, _, rfl, ?_, rfl, _, [], rfl, ?_, rfl, rfl⟩)
    · show Value.int .i64 m = .int .i64 (ρ.q 10).num
      rw [hq]; rfl
    · show Value.int .i64 n = .int .i64 (ρ.q 11).num
      rw [hq]; rfl
  obtain ⟨big, hbig⟩ := bool_is (128 < lenSum ρ (gpL a b))
  have fin : ∀ (A : List As) (B : List Ps) (T : List T3), AllH ρ A → AllP ρ B → (∀ t ∈ T, t.ok ρ) → gprun A B T a b big = some yes →
      Calls Tryz.prog 9 ⟨[.agg ⟨cel x ++ cel y⟩, .int .i64 m, .int .i64 n]⟩ w fun e w' => e = .returned (.bool true) ∧ Below w.heap.size w w' := fun A B T hA hB hT3 hrun =>
    (tells_calls (gpFits hA hbig) (gpSums_ok hB hT3) hrun rfl glob_few hi hG hT).mono fun e w' hh => by
      obtain ⟨v', rfl, hv, hb⟩ := hh
      exact ⟨by rw [show v' = .bool true from hv], hb⟩
  have hA0 : AllH ρ gpA := fun t ht => by
    simp only [gpA, List.mem_cons, List.not_mem_nil, or_false] at ht
    rcases ht with rfl | rfl | rfl
    · intro _
      show (ρ.q 12).num = (ρ.q 10).num.tmod 12
      rw [hq]; rfl
    · intro _
      show (ρ.q 13).num = (ρ.q 11).num.tmod 12
      rw [hq]; rfl
    · intro _
      show IntKind.i64.wrap ((ρ.q 12).num + (ρ.q 13).num) = (ρ.q 12 + ρ.q 13).num
      rw [hq]
      show IntKind.i64.wrap (m.tmod 12 + n.tmod 12) = (((m.tmod 12 : Int) : Rat) + ((n.tmod 12 : Int) : Rat)).num
      rw [← Rat.intCast_add, IntKind.wrap_i64]
      show _ = m.tmod 12 + n.tmod 12
      omega
  cases hab : (a && b) with
  | false => exact fin gpA [] [] hA0 (fun _ h => (by cases h)) (fun _ h => (by cases h)) (gp_bad a b big hab)
  | true =>
    simp only [Bool.and_eq_true] at hab
    obtain ⟨rfl, rfl⟩ := hab
    obtain ⟨a1, d1, hm1', ha1⟩ := code_of c1
    obtain ⟨a2, d2, hm2', ha2⟩ := code_of c2
    obtain ⟨a3, d3, hm3', ha3⟩ := code_of c3
    have hT3 : ∀ t ∈ gpT m1 m2 m3, t.ok ρ := fun t ht => by
      simp only [gpT, List.mem_cons, List.not_mem_nil, or_false] at ht
      rcases ht with rfl | rfl | rfl
      · show PowIs (ρ.q 0, ρ.q 1) (ρ.q 12).num m1 (ρ.q 2, ρ.q 3)
        rw [hq]; exact p1
      · show PowIs (ρ.q 0, ρ.q 1) (ρ.q 13).num m2 (ρ.q 4, ρ.q 5)
        rw [hq]; exact p2
      · show PowIs (ρ.q 0, ρ.q 1) (ρ.q 12 + ρ.q 13).num m3 (ρ.q 6, ρ.q 7)
        rw [hq]
        show PowIs (q1, q2) (((m.tmod 12 : Int) : Rat) + ((n.tmod 12 : Int) : Rat)).num m3 r3
        rw [← Rat.intCast_add]; exact p3
    cases hall : (a1 && (a2 && a3)) with
    | false =>
      refine fin gpA [] (gpT m1 m2 m3) hA0 (fun _ h => (by cases h)) hT3 ?_
      rw [hm1', hm2', hm3']
      exact gp_err a1 d1 a2 d2 a3 d3 big hall
    | true =>
      simp only [Bool.and_eq_true] at hall
      have z1 := ha1.1 hall.1
      have z2 := ha2.1 hall.2.1
      have z3 := ha3.1 hall.2.2
      rw [z1, z2, z3] at hT3
      obtain ⟨s, hs⟩ := bool_is (q1 = 0)
      obtain ⟨t, ht⟩ := bool_is (q2 = 0)
      have hZ : AllH ρ (gpZ s t) := fun u hu => by
        simp only [gpZ, List.mem_cons, List.not_mem_nil, or_false] at hu
        rcases hu with rfl | rfl
        · show s = true ↔ ρ.q 0 = c0.ev ρ.q
          rw [c0_ev, h0]; exact hs
        · show t = true ↔ ρ.q 1 = c0.ev ρ.q
          rw [c0_ev, h1]; exact ht
      cases hst : (s && t) with
      | true =>
        simp only [Bool.and_eq_true] at hst
        obtain ⟨rfl, rfl⟩ := hst
        exact fin _ [] _ (allH_append hA0 hZ) (fun _ h => (by cases h)) hT3 (gp_zero big)
      | false =>
        have hnz : ¬ (q1 = 0 ∧ q2 = 0) := fun hh => by
          rw [hs.2 hh.1, ht.2 hh.2] at hst; cases hst
        have er : r3 = cMul r1 r2 := by
          rw [e1 z1 hnz, e2 z2 hnz, e3 z3 hnz, zp_add hnz]
        have k1 : gpM.1.ev ρ.q = r3.1 := by
          rw [er, hq]; rfl
        have k2 : gpM.2.ev ρ.q = r3.2 := by
          rw [er, hq]; rfl
        have v6 : ρ.q 6 = r3.1 := by rw [hq]; rfl
        have v7 : ρ.q 7 = r3.2 := by rw [hq]; rfl
        have hE : AllH ρ gpE := eqs_hold fun p hp => by
          simp only [List.mem_cons, List.not_mem_nil, or_false] at hp
          rcases hp with rfl | rfl
          · show gpM.1.ev ρ.q = ρ.q 6
            rw [k1, v6]
          · show gpM.2.ev ρ.q = ρ.q 7
            rw [k2, v7]
        refine fin _ [pr gpM true] _ (allH_append hA0 (allH_append hZ hE)) (fun p hp => ?_) hT3 (gp_ok s t big hst)
        simp only [List.mem_cons, List.not_mem_nil, or_false] at hp
        subst hp
        exact ⟨fun _ => by show Fit (gpM.1.ev ρ.q) ∧ Fit (gpM.2.ev ρ.q); rw [k1, k2]; exact g3, fun _ => rfl⟩
end Ev
end Go.Proofs.YthjofdfnppadnaaGreatDoor
namespace Go.Proofs.YthjofdfnppadnaaGreatDoor
open Go Go.ChangeShapes Go.WideShapes Go.RowKit Ev
theorem c_bool : Tryz.prog.cellsOf 4 = 1 := by kernel_rfl
theorem c_str : Tryz.prog.cellsOf 9 = 1 := by kernel_rfl
theorem c_frac : Tryz.prog.cellsOf 23 = 3 := by kernel_rfl
theorem c_gauss : Tryz.prog.cellsOf 47 = 6 := by kernel_rfl
def datT {H : Type} (t : Tri) : DataW H := .agg [.lit (.bool t.1), .lit (.string t.2.1.data.toList), .lit (.string t.2.2.data.toList)]
def wfT (t : Tri) : Prop := t.2.1.size ≤ maxLen ∧ t.2.2.size ≤ maxLen
section
variable {H : Type} {enc : TypeId × Value → H} {w : World} {base : Nat} {spare : Nat → Bool} {held : Bool}
set_option maxRecDepth 100000 in
theorem frac_in {fuel : Nat} {cs : List Value} {x : DataW H × List MemPlace} (h : DataW.trod enc Tryz.prog w base spare held fuel 23 cs = some x) : ∃ t : Tri, cs = cel t ∧ x = (datT t, []) ∧ wfT t := by
  obtain ⟨xs, n, -, hx, hl, hlen, hg⟩ := DataW.trod_struct Tryz.underlying23 h
  rw [c_frac] at hl
  match cs, hl, xs, hlen with
  | [u0, u1, u2], _, [y0, y1, y2], _ =>
    have h0 := hg 0 _ rfl
    simp only [c_bool, List.drop, List.take, List.getElem?_cons_zero] at h0
    obtain ⟨b, e0, z0⟩ := DataW.trod_bool Tryz.underlying4 h0
    obtain rfl := (List.cons.inj e0).1; clear e0
    subst z0
    have h1 := hg 1 _ rfl
    simp only [c_str, List.drop, List.take, List.getElem?_cons_zero, List.getElem?_cons_succ] at h1
    obtain ⟨s, e1, z1, w1⟩ := DataW.trod_string Tryz.underlying9 h1
    obtain rfl := (List.cons.inj e1).1; clear e1
    subst z1
    have h2 := hg 2 _ rfl
    simp only [c_str, List.drop, List.take, List.getElem?_cons_zero, List.getElem?_cons_succ] at h2
    obtain ⟨t, e2, z2, w2⟩ := DataW.trod_string Tryz.underlying9 h2
    obtain rfl := (List.cons.inj e2).1; clear e2
    subst z2
    exact ⟨(b, s, t), rfl, by rw [hx]; rfl, w1, w2⟩
set_option maxRecDepth 100000 in
theorem frac_mk {t : Tri} (h : wfT t) (n : Nat) : DataW.trod enc Tryz.prog w base spare held (n + 2) 23 (cel t) = some (datT t, []) := by
  obtain ⟨b, s, t⟩ := t
  have h1 : s.size ≤ maxLen := h.1
  have h2 : t.size ≤ maxLen := h.2
  have k0 : DataW.trod enc Tryz.prog w base spare held (n + 1) 4 [.bool b] = some (.lit (.bool b), []) := by simp [DataW.trod, Tryz.underlying4]
  have k1 : ∀ s : ByteArray, s.size ≤ maxLen → DataW.trod enc Tryz.prog w base spare held (n + 1) 9 [.string s] = some (.lit (.string s.data.toList), []) := fun s hs => by simp [DataW.trod, Tryz.underlying9, hs]
  have hm := trod_struct_mk (enc := enc) (w := w) (base := base) (spare := spare) (held := held) (n := n + 1) (cs := cel (b, s, t)) (xs := [(.lit (.bool b), []), (.lit (.string s.data.toList), []), (.lit (.string t.data.toList), [])]) Tryz.underlying23 (by rw [c_frac]; rfl) (by
    simp [c_bool, c_str, cel, k0, k1 s h1, k1 t h2])
  exact hm
set_option maxRecDepth 100000 in
theorem gauss_open {r : Reach} {b0 : Nat} {v : Value} {D : DataW H} {ps : List MemPlace} (hv : Value.okWide Tryz.prog w r b0 47 v) (h : DataW.Trod enc Tryz.prog w base spare held 47 v D ps) :
    ∃ x y : Tri, v = .agg ⟨cel x ++ cel y⟩ ∧ D = .agg [datT x, datT y] ∧ ps = [] ∧ wfT x ∧ wfT y := by
  obtain ⟨cs, rfl, hsz⟩ := okWide_struct Tryz.underlying47 hv
  obtain ⟨fuel, hf⟩ := h
  obtain ⟨xs, n, -, hx, hl, hlen, hg⟩ := DataW.trod_struct Tryz.underlying47 hf
  rw [c_gauss] at hsz
  obtain ⟨l⟩ := cs
  match l, hsz, xs, hlen with
  | [u0, u1, u2, u3, u4, u5], _, [y0, y1], _ =>
    have h0 := hg 0 _ rfl
    simp only [Value.cells, c_frac, List.drop, List.take, List.getElem?_cons_zero] at h0
    obtain ⟨t0, e0, z0, w0⟩ := frac_in h0
    subst z0
    have h1 := hg 1 _ rfl
    simp only [Value.cells, c_frac, List.drop, List.take, List.getElem?_cons_zero, List.getElem?_cons_succ] at h1
    obtain ⟨t1, e1, z1, w1⟩ := frac_in h1
    subst z1
    simp only [Prod.mk.injEq] at hx
    refine ⟨t0, t1, ?_, by simpa using hx.1, by simpa using hx.2, w0, w1⟩
    rw [← e0, ← e1]; rfl
set_option maxRecDepth 100000 in
theorem gauss_shut {x y : Tri} (hx : wfT x) (hy : wfT y) : DataW.Trod enc Tryz.prog w base spare held 47 (.agg ⟨cel x ++ cel y⟩) (.agg [datT x, datT y]) [] := by
  refine ⟨3, ?_⟩
  have k0 := frac_mk (enc := enc) (w := w) (base := base) (spare := spare) (held := held) hx 0
  have k1 := frac_mk (enc := enc) (w := w) (base := base) (spare := spare) (held := held) hy 0
  have hm := trod_struct_mk (enc := enc) (w := w) (base := base) (spare := spare) (held := held) (n := 2) (cs := cel x ++ cel y) (xs := [(datT x, []), (datT y, [])]) Tryz.underlying47 (by rw [c_gauss]; rfl) (by
    simp only [List.mapM_cons, List.mapM_nil, c_frac]
    rw [show ((cel x ++ cel y).drop 0).take 3 = cel x from rfl, show ((cel x ++ cel y).drop 3).take 3 = cel y from rfl, k0, k1]
    rfl)
  exact hm
end
def gz : Value := .agg #[.bool false, .string ⟨#[]⟩, .string ⟨#[]⟩, .bool false, .string ⟨#[]⟩, .string ⟨#[]⟩]
end Go.Proofs.YthjofdfnppadnaaGreatDoor
namespace Go.Proofs.YthjofdfnppadnaaGreatDoor
open Go.ChangeShapes Go.WideShapes Go.ChangeAt Go.RowKit
theorem own : ownKnob Tryz.prog.godebug = none := by kernel_rfl
section
variable {H : Type} {enc : TypeId × Value → H} {P : Program}
theorem post_new {f : Func} {s : ChangeSpec} {apart fresh handsOn again : Bool} {W W' : World} {args : Array Value} {v : Value} {ds gs : List (DataW H)}
    (hW : DataW.Whole enc P f.params.toList s.vars apart W args.toList ds gs [])
    (hres : ∀ (b : Nat) (sp : Nat → Bool) (hd : Bool), DataW.TrodAll enc P W' b sp hd f.resultTypes.toList (v.resultList f.resultTypes.size) (s.fn H (ds ++ gs)).results [])
    (hargs : ∀ sp : Nat → Bool, DataW.TrodAll enc P W' 0 sp true f.params.toList args.toList (s.fn H (ds ++ gs)).args [])
    (hvars : ∀ sp : Nat → Bool, DataW.TrodVars enc P W' sp s.vars (s.fn H (ds ++ gs)).vars [])
    (hb : Below W.heap.size W W')
    (hok : ∀ (j : Nat) (t : TypeId) (r : Value), f.resultTypes[j]? = some t → (v.resultList f.resultTypes.size)[j]? = some r → Value.okWide P W' .any 0 t r) :
    s.post enc P f apart fresh handsOn again W args v W' := by
  have hk : W.keptBut W' (fun p => p ∈ ([] : List MemPlace)) := hb.frame _
  refine ⟨ds, gs, [], [], [], [], hW, hres _ _ _, hargs _, hvars _, World.keptBut_mono (fun p hp => by cases hp) hk, fun _ => ?_⟩
  refine ⟨hok, _, _, [], ⟨[], [], trodAll_append (hargs _) (hres _ _ _), hvars _, rfl, ?_, ?_⟩, ?_⟩
  · intro b off hp; cases hp
  · intro _; simp
  · intro p hp; cases hp
end
theorem gTab : Tryz.prog.globalNamed "internal/strconv.uint64pow10" = some 3 := by kernel_rfl
end Go.Proofs.YthjofdfnppadnaaGreatDoor
namespace Go.Proofs.YthjofdfnppadnaaGreatDoor
open Go.ChangeShapes Go.WideShapes Go.ChangeAt Go.RowKit
theorem tTab : (Tryz.prog.globals[3]?).map (·.type) = some 245 := by kernel_rfl
theorem dTab : (Rows.laid_internal_strconv_uint64pow10 : DataW Unit) = Lib.tabData .u64 Lib.pow10Tab := by rfl
theorem cTab : Tryz.prog.cellsOf 245 = 20 := by kernel_rfl
theorem ceTab : Tryz.prog.cellsOf 87 = 1 := by kernel_rfl
end Go.Proofs.YthjofdfnppadnaaGreatDoor
namespace Go.Proofs.YthjofdfnppadnaaGreatDoor
open Go.ChangeShapes Go.WideShapes Go.ChangeAt Go.RowKit
theorem handed_both {H : Type} {enc : TypeId × Value → H} {C : Checked} {os : Os} {f : FuncId} {fn : Func} {s : ChangeSpec} {apart fresh handsOn again : Bool} {X : World → Array Value → Prop}
    (hX : ∀ (w w' : World) (args : Array Value), w.heap = w'.heap → X w args → X w' args)
    (hown : ownKnob C.prog.godebug = none) (started : os.Started) (noInit : C.prog.inits.idxOf? f = none) (hfn : C.prog.funcs[f]? = some fn)
    (witness : ∃ (w : World) (tape : Tape) (i : Input), w.os = os ∧ (w.forCall tape i).Shaped C.prog ∧ i.vars = [] ∧ Input.okWide C.prog (w.forCall tape i) .any w.heap.size f i ∧
      ((s.pre enc C.prog fn [] apart (w.forCall tape i).memory i.args ∧ X (w.forCall tape i).memory i.args) ∧ sizedMet enc C.prog fn (OpenSpec.ofChange s) apart (w.forCall tape i).memory i.args) ∧ Assume.holds {} C.prog (lone (Frame.enter C.prog f i.args .normal) [] (w.forCall tape i)))
    (contract : ∀ (W : World) (base : Nat) (args : Array Value) (ds gs : List (DataW H)) (before : List MemPlace),
      (∀ (j : Nat) t v, fn.params[j]? = some t → args[j]? = some v → Value.okWide C.prog W .any base t v) →
      DataW.Whole enc C.prog fn.params.toList s.vars apart W args.toList ds gs before → X W args → W.ShapedOpen C.prog →
      Calls C.prog f args W fun e W' => ∃ v, e = .returned v ∧ s.post enc C.prog fn apart fresh handsOn again W args v W') :
    ReturnsInHanded {} C os f .any (fun w args => (s.pre enc C.prog fn [] apart w args ∧ X w args) ∧ sizedMet enc C.prog fn (OpenSpec.ofChange s) apart w args) (s.post enc C.prog fn apart fresh handsOn again) := by
  refine returnsInHanded_of_calls hown started noInit witness ?_
  intro w tape i _ hshape _ hin hp _
  obtain ⟨_, _, _, fn2, hfn2, _, _, _, _, hv⟩ := hin
  obtain rfl : fn2 = fn := Option.some.inj (hfn2.symm.trans hfn)
  obtain ⟨⟨⟨ds, gs, before, hwh, _⟩, hx⟩, _⟩ := hp
  refine (contract (w.forCall tape i) w.heap.size i.args ds gs before hv (DataW.Whole.of_heap (w' := w.forCall tape i) (by rfl) hwh) (hX _ _ _ (by rfl) hx) hshape).mono fun e W' ⟨v, he, hpost⟩ => ?_
  subst he
  exact ChangeSpec.post_blind hpost
end Go.Proofs.YthjofdfnppadnaaGreatDoor
namespace Go.Proofs.YthjofdfnppadnaaGreatDoor
open Go.ChangeShapes Go.WideShapes Go.ChangeAt Go.RowKit
def laidG : List (String × DataW Unit) := [("math/bits.deBruijn32tab", Rows.laid_math_bits_deBruijn32tab), ("math/bits.deBruijn64tab", Rows.laid_math_bits_deBruijn64tab), ("internal/strconv.uint64pow10", Rows.laid_internal_strconv_uint64pow10), ("unicode/utf8.acceptRanges", Rows.laid_unicode_utf8_acceptRanges), ("unicode/utf8.first", Rows.laid_unicode_utf8_first)]
theorem tab_of_laidG {W : World} (h : laidMetH Tryz.prog laidG W) : Tab W := by
  rw [MakeChecks.laidMetH_plain _ _ _ (by kernel_rfl)] at h
  obtain ⟨ps, ⟨g0, t0, cs0, f0, p0, q0, hg0, ht0, hv0, hd0, ⟨g1, t1, cs1, f1, p1, q1, hg1, ht1, hv1, hd1, ⟨g2, t2, cs2, f2, p2, q2, hg2, ht2, hv2, hd2, _, _⟩, _⟩, _⟩, _, _⟩ := h
  obtain rfl := Option.some.inj (gTab.symm.trans hg2)
  obtain rfl := Option.some.inj (tTab.symm.trans ht2)
  rw [dTab] at hd2
  show World.var? Tryz.prog W _ = _
  rw [hv2, ← Lib.cells_of_tab Tryz.underlying245 Tryz.underlying87 ceTab cTab hd2]
theorem glob_size {W : World} (h : W.ShapedOpen Tryz.prog) : Tryz.prog.globals.size ≤ W.heap.size := by
  have hb : Nat.ble (Tryz.prog.globals.size + 1) (begin Tryz.prog (fun _ _ => 0) default).world.heap.size = true := by kernel_rfl
  obtain ⟨o, o0, h1, -⟩ := h.2 Tryz.prog.globals.size (Nat.le_refl _) (Nat.le_of_ble_eq_true hb)
  exact Nat.le_of_lt (Array.getElem?_eq_some_iff.1 h1).1
end Go.Proofs.YthjofdfnppadnaaGreatDoor
