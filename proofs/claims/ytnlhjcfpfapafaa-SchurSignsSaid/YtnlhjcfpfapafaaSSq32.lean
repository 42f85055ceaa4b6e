/- Contracts. -/
import Derived.Test.YtnlhjcfpfapafaaSSq31
import Derived.Test.YtnlhjcfpfapafaaRows
import Derived.Test.YtnlhjcfpfapafaaChecked
import Derived.WalkKit
import Derived.ProofKit
import Derived.OpenShut
import Derived.ChangeSame
import Derived.ChangeVars
import Derived.JoinedOf
import Derived.Stop.Joined
import Derived.HandedShaped
import Derived.ChangeSlices
import Derived.ChangeArms
import Derived.WideShapes
namespace Go.Proofs.Ytnlhjcfpfapafaa
open Go Go.RowKit
namespace Ev
set_option maxRecDepth 100000
theorem noX {ρ : Env} : AllX ρ [] := fun _ h => by simp at h
theorem div_one9 (t : Rat) : t / 1 = t := by grind
theorem forward_all (w : World) {p : List Rat} {z : Int} (hp : ∀ y ∈ p, Refl y) (hl : p.length ≤ 31) (hz : z = 1 ∨ z = -1) {v : Value} (hv : LsIn 0 w v p) (hG : Try.prog.globals.size ≤ w.heap.size) (hT : natSig.base w) :
  Calls Try.prog fwF ⟨[.agg ⟨[v, .int .i64 z]⟩]⟩ w fun e w' => ((e = .returned (.tuple ⟨[.slice none 0 0, .slice none 0 0, .int .i64 3]⟩) ∧ ((∃ y ∈ unL p (mkRat z 1) p.length, ¬ Fit (y / blwQ p p.length)) ∨ ∃ y ∈ ovL p (mkRat z 1) p.length, ¬ Fit (y / blwQ p p.length))) ∨
   ∃ u o, e = .returned (.tuple ⟨[u, o, .int .i64 0]⟩) ∧ NewOl 0 w w' u (ov (unL p (mkRat z 1) p.length) (blwQ p p.length)) ∧ NewOl 0 w w' o (ov (ovL p (mkRat z 1) p.length) (blwQ p p.length)) ∧
    (∀ y ∈ unL p (mkRat z 1) p.length, Fit (y / blwQ p p.length)) ∧ (∀ y ∈ ovL p (mkRat z 1) p.length, Fit (y / blwQ p p.length))) ∧ Below w.heap.size w w' := by
 rcases Nat.eq_zero_or_pos p.length with h | h
 ·obtain rfl := List.length_eq_zero_iff.1 h
  have hpb := uo_pb (D := bigD) (p := []) (parts_ok (fun _ h => by simp at h)) (far_zi hz) 0
  have h0 : (4 * bigD) ^ 0 = 1 := Nat.pow_zero _
  refine (forward_nil w hz hv hG hT).mono ?_
  rintro e w' ⟨⟨u, o, q1, q2, q3⟩, hb⟩
  refine ⟨.inr ⟨u, o, q1, q2, q3, fun y hy => ?_, fun y hy => ?_⟩, hb⟩
  ·show Fit (y / 1)
   rw [div_one9]
   exact (hpb.1.zi y hy).fit (by rw [h0]; omega)
  ·show Fit (y / 1)
   rw [div_one9]
   exact (hpb.2.zi y hy).fit (by rw [h0]; omega)
 ·exact forward_any w hp h hl hz hv hG hT
theorem closed_all (w : World) {p : List Rat} {z y : Int} (hp : ∀ y ∈ p, Refl y) (hl : p.length ≤ 31) (hz : z = 1 ∨ z = -1) (hy : y = 1 ∨ y = -1) {v : Value} (hv : LsIn 0 w v p) (hG : Try.prog.globals.size ≤ w.heap.size) (hT : natSig.base w) :
  Calls Try.prog clF ⟨[.agg ⟨[v, .int .i64 z]⟩, .int .i64 y]⟩ w fun e w' => ((e = .returned (.tuple ⟨[.slice none 0 0, .int .i64 3]⟩) ∧ ∃ t ∈ clL p (mkRat z 1) (mkRat y 1), ¬ Fit (t / blwQ p p.length)) ∨
   ∃ u, e = .returned (.tuple ⟨[u, .int .i64 0]⟩) ∧ NewOl 0 w w' u (ov (clL p (mkRat z 1) (mkRat y 1)) (blwQ p p.length)) ∧ ∀ t ∈ clL p (mkRat z 1) (mkRat y 1), Fit (t / blwQ p p.length)) ∧ Below w.heap.size w w' := by
 rcases Nat.eq_zero_or_pos p.length with h | h
 ·obtain rfl := List.length_eq_zero_iff.1 h
  have hpb := uo_pb (D := bigD) (p := []) (parts_ok (fun _ h => by simp at h)) (far_zi hz) 0
  have h0 : (4 * bigD) ^ 0 = 1 := Nat.pow_zero _
  have b2 := pb_psb hpb.2 (pb_sc hpb.1 (far_zi hy))
  refine (closed_nil w hz hy hv hG hT).mono ?_
  rintro e w' ⟨⟨u, q1, q2⟩, hb⟩
  refine ⟨.inr ⟨u, q1, q2, fun t ht => ?_⟩, hb⟩
  show Fit (t / 1)
  rw [div_one9]
  exact (b2.zi t ht).fit (by omega)
 ·exact closed_any w hp h hl hz hy hv hG hT
theorem fr21_any (w : World) (hG : Try.prog.globals.size ≤ w.heap.size) (hT : natSig.base w) : Calls Try.prog frac8F ⟨[.int .i64 2, .int .i64 1]⟩ w fun e w' => e = .returned twP ∧ Below w.heap.size w w' := by
 refine (tells_calls natFits natSums_ok fr21_run rfl glob_few (us := []) rfl hG hT).mono ?_
 rintro e w' ⟨v', rfl, ⟨vs, rfl, a, l1, rfl, g1, c, l2, rfl, g2, d, l3, rfl, g3, rfl⟩, hb⟩
 have g1' : a = .bool false := g1
 have g2' : c = .string ⟨#[2]⟩ := g2
 have g3' : d = .string ⟨#[1]⟩ := g3
 subst g1' g2' g3'
 exact ⟨rfl, hb⟩
theorem fr21S_ok {ρ : Env} : SumF (symSig ρ) Try.prog fr21S.1 fr21S.2 := by
 intro args m e
 rcases args with _ | ⟨a, _ | ⟨b, _ | ⟨c, l⟩⟩⟩ <;> first | (cases (show none = some m from e); done) | skip
 have e' : cond (isIq 2 a && isIq 1 b) (some (ret twP : M Sy Value)) none = some m := e
 cases hab : (isIq 2 a && isIq 1 b) with
 | false => rw [hab] at e'; cases e'
 | true =>
  rw [hab] at e'
  cases e'
  simp only [Bool.and_eq_true] at hab
  obtain rfl := isIq_ok hab.1
  obtain rfl := isIq_ok hab.2
  refine ⟨loc_ret _, fun h nx v h' nx' R W e9 r w args' hv hM hN => ?_⟩
  cases hv with
  | cons h1 hv => cases hv with
   | cons h2 hv =>
    cases hv
    obtain rfl := h1.eq_of_plain rfl
    obtain rfl := h2.eq_of_plain rfl
    exact goes_pl e9 rfl hM (fr21_any w hM.fits hM.base)
theorem goes_wlo {ρ : Env} {K c a : Nat} {f : FuncId} {args' : List Value} {h h' : Tr (Blk Sy)} {nx nx' : Nat} {R W : List Nat} {r : Ren} {w : World} {v : Value} (e : (bind (newOw (.ol K (.v c) none)) fun k => bind (newFacts [.wl a 0]) fun vs => ret (.tuple ⟨vs ++ [k, .int .i64 0]⟩) : M Sy Value) h nx = .ok v h' nx' R W) (hM : Mod (symSig ρ) r h.get w) (hN : New r nx nx')
  (cc : Calls Try.prog f ⟨args'⟩ w fun en w' => ∃ u o, en = .returned (.tuple ⟨[u, o, .int .i64 0]⟩) ∧ (∃ b n m, u = .slice b n m ∧ n = ρ.nat a) ∧ NewOl K w w' o (ρ.lst c) ∧ Below w.heap.size w w') :
  Calls Try.prog f ⟨args'⟩ w fun e w' => ∃ v' r', e = .returned v' ∧ VR r' v v' ∧ Ext (symSig ρ) r w nx nx' W h'.get r' w' := by
 obtain ⟨i, h1, nx1, R1, W1, R2, W2, e1, e2, rfl, rfl⟩ := bind_ok e
 obtain ⟨vs, h5, nx5, R5, W5, R6, W6, e5, e6, rfl, rfl⟩ := bind_ok e2
 obtain ⟨rfl, rfl, rfl, rfl⟩ := ret_ok e6
 refine cc.mono ?_
 rintro en w' ⟨u, o, rfl, ⟨b, n, m, rfl, hn⟩, ho, hb⟩
 have hle5 := newFacts_le _ e5
 obtain ⟨hle1, r1, hv1, hX⟩ := newOw_ok (l := .v c) e1 hM (fun n p q => hN n p (by omega)) hb ho
 have hh : HoldsL (symSig ρ) w' [.wl a 0] [.slice b n m] := ⟨_, [], rfl, ⟨b, n, m, rfl, by rw [hn, Int.add_zero]⟩, rfl, rfl⟩
 obtain ⟨hle, r2, hY, hv⟩ := newFacts_ok _ e5 hX.mod (New.after hN hX hle1) hh
 refine ⟨_, r2, rfl, .tuple (hv.append (.cons (hv1.mono hY.le) (.cons (.same rfl) .nil))), ?_⟩
 have := hX.trans hY hle1 hle
 simpa using this
section
variable {ρ : Env} {s : Bool} {p : List Rat}
theorem sg_or (s : Bool) : sgI s = 1 ∨ sgI s = -1 := by cases s; exact .inr rfl; exact .inl rfl
theorem fwS_ok {a : Bool} (hp : ∀ y ∈ p, Refl y) (hl : p.length ≤ 31) (h0 : ρ.lst 0 = p) (h21 : ρ.lst 21 = ov (ovL p (mkRat (sgI s) 1) p.length) (blwQ p p.length)) (h2 : ρ.nat 2 = (ov (unL p (mkRat (sgI s) 1) p.length) (blwQ p p.length)).length)
  (ha : a = true → (∃ y ∈ unL p (mkRat (sgI s) 1) p.length, ¬ Fit (y / blwQ p p.length)) ∨ ∃ y ∈ ovL p (mkRat (sgI s) 1) p.length, ¬ Fit (y / blwQ p p.length)) (hb : a = false → (∀ y ∈ unL p (mkRat (sgI s) 1) p.length, Fit (y / blwQ p p.length)) ∧ ∀ y ∈ ovL p (mkRat (sgI s) 1) p.length, Fit (y / blwQ p p.length)) :
  SumF (symSig ρ) Try.prog (fwS s a).1 (fwS s a).2 := by
 intro args m e
 rcases args with _ | ⟨x0, _ | ⟨b, l⟩⟩ <;> first | (cases (show none = some m from e); done) | skip
 cases x0 with
 | agg cs =>
  obtain ⟨l⟩ := cs
  rcases l with _ | ⟨x, _ | ⟨y, _ | ⟨y2, l⟩⟩⟩ <;> first | (cases (show none = some m from e); done) | skip
  cases e
  refine ⟨loc_bind (loc_lsArg _ _) fun l => loc_cond ?_ loc_fail, fun h nx v h' nx' R W e r w args' hv hM hN => ?_⟩
  ·exact loc_cond (loc_ret _) (loc_bind (loc_newOw _) fun _ => loc_bind (loc_newFacts _) fun _ => loc_ret _)
  cases hv with
  | cons h1 hv =>
   cases hv
   obtain ⟨us, rfl, hus⟩ := vr_agg h1
   cases hus with
   | cons hx hus => cases hus with
    | cons hy hus =>
     cases hus
     obtain ⟨l, g1, nx1, R1, W1, R2, W2, e1, e2, rfl, rfl⟩ := bind_ok e
     obtain ⟨rfl, rfl, rfl, hls⟩ := lsArg_ok noX e1 hx hM
     obtain ⟨hk, e3⟩ := cond_ok e2
     simp only [Bool.and_eq_true] at hk
     obtain rfl := isLe_ok hk.1
     obtain rfl := isIq_ok hk.2
     obtain rfl := hy.eq_of_plain rfl
     have hls' : LsIn 0 w _ (ρ.lst 0) := hls
     rw [h0] at hls'
     have c := forward_all w hp hl (sg_or s) hls' hM.fits hM.base
     simp only [List.nil_append]
     cases a with
     | true =>
      refine goes_pl e3 rfl hM (c.mono ?_)
      rintro en w' ⟨q | ⟨u, o, _, _, _, f1, f2⟩, hb⟩
      ·exact ⟨q.1, hb⟩
      ·rcases ha rfl with ⟨y, hy, hn⟩ | ⟨y, hy, hn⟩
       ·exact absurd (f1 y hy) hn
       ·exact absurd (f2 y hy) hn
     | false =>
      refine goes_wlo e3 hM hN (c.mono ?_)
      rintro en w' ⟨⟨_, q⟩ | ⟨u, o, q1, q2, q3, _, _⟩, hbb⟩
      ·obtain ⟨f1, f2⟩ := hb rfl
       rcases q with ⟨y, hy, hn⟩ | ⟨y, hy, hn⟩
       ·exact absurd (f1 y hy) hn
       ·exact absurd (f2 y hy) hn
      ·refine ⟨u, o, q1, ?_, by rw [h21]; exact q3, hbb⟩
       obtain ⟨a9, m9, rfl, _⟩ := q2.ol
       exact ⟨_, _, _, rfl, by rw [h2]⟩
 | _ => cases (show none = some m from e)
theorem eK_goes {b : Bool} {e : Nat} {l : List Rat} {x : Prop} (he : ρ.lst e = l) (hx : b = true → x) (hy : b = false → ¬ x) {f : FuncId} {args' : List Value} {h h' : Tr (Blk Sy)} {nx nx' : Nat} {R W : List Nat} {r : Ren} {w : World} {v : Value} (e1 : eK b e h nx = .ok v h' nx' R W) (hM : Mod (symSig ρ) r h.get w) (hN : New r nx nx')
  (c : Calls Try.prog f ⟨args'⟩ w fun en w' => ((en = .returned longV ∧ x) ∨ ∃ u, en = .returned (.tuple ⟨[u, .int .i64 0]⟩) ∧ NewOl 0 w w' u l ∧ ¬ x) ∧ Below w.heap.size w w') :
  Calls Try.prog f ⟨args'⟩ w fun e w' => ∃ v' r', e = .returned v' ∧ VR r' v v' ∧ Ext (symSig ρ) r w nx nx' W h'.get r' w' := by
 cases b with
 | true =>
  refine goes_pl (show (ret longV : M Sy Value) h nx = _ from e1) rfl hM (c.mono ?_)
  rintro en w' ⟨q | ⟨u, _, _, q⟩, hb⟩
  ·exact ⟨q.1, hb⟩
  ·exact absurd (hx rfl) q
 | false =>
  refine giveT_ok rfl (show giveT 0 (.int .i64 0) e h nx = _ from e1) hM hN (c.mono ?_)
  rintro en w' ⟨⟨_, q⟩ | ⟨u, q1, q2, _⟩, hb⟩
  ·exact absurd q (hy rfl)
  ·exact ⟨⟨u, q1, by rw [he]; exact q2⟩, hb⟩
theorem loc_eK (b : Bool) (e : Nat) : Loc (eK b e) := loc_cond (loc_ret _) (loc_giveT _ _ _)
theorem clS_ok {b1 b2 : Bool} (hp : ∀ y ∈ p, Refl y) (hl : p.length ≤ 31) (h0 : ρ.lst 0 = p) (h23 : ρ.lst 23 = ov (clL p (mkRat (sgI s) 1) (mkRat 1 1)) (blwQ p p.length)) (h24 : ρ.lst 24 = ov (clL p (mkRat (sgI s) 1) (mkRat (-1) 1)) (blwQ p p.length))
  (c1 : b1 = true → ∃ y ∈ clL p (mkRat (sgI s) 1) (mkRat 1 1), ¬ Fit (y / blwQ p p.length)) (c2 : b1 = false → ∀ y ∈ clL p (mkRat (sgI s) 1) (mkRat 1 1), Fit (y / blwQ p p.length))
  (d1 : b2 = true → ∃ y ∈ clL p (mkRat (sgI s) 1) (mkRat (-1) 1), ¬ Fit (y / blwQ p p.length)) (d2 : b2 = false → ∀ y ∈ clL p (mkRat (sgI s) 1) (mkRat (-1) 1), Fit (y / blwQ p p.length)) :
  SumF (symSig ρ) Try.prog (clS s b1 b2).1 (clS s b1 b2).2 := by
 have no : ∀ {l : List Rat} {b : Rat}, (∀ y ∈ l, Fit (y / b)) → ¬ ∃ y ∈ l, ¬ Fit (y / b) := fun h ⟨y, hy, hn⟩ => hn (h y hy)
 intro args m e
 rcases args with _ | ⟨x0, _ | ⟨n, _ | ⟨b, l⟩⟩⟩ <;> first | (cases (show none = some m from e); done) | skip
 cases x0 with
 | agg cs =>
  obtain ⟨l⟩ := cs
  rcases l with _ | ⟨x, _ | ⟨y, _ | ⟨y2, l⟩⟩⟩ <;> first | (cases (show none = some m from e); done) | skip
  cases e
  refine ⟨loc_bind (loc_lsArg _ _) fun l => loc_cond (loc_cond (loc_eK _ _) (loc_cond (loc_eK _ _) loc_fail)) loc_fail, fun h nx v h' nx' R W e r w args' hv hM hN => ?_⟩
  cases hv with
  | cons h1 hv => cases hv with
   | cons h3 hv =>
    cases hv
    obtain ⟨us, rfl, hus⟩ := vr_agg h1
    cases hus with
    | cons hx hus => cases hus with
     | cons hy hus =>
      cases hus
      obtain ⟨l, g1, nx1, R1, W1, R2, W2, e1, e2, rfl, rfl⟩ := bind_ok e
      obtain ⟨rfl, rfl, rfl, hls⟩ := lsArg_ok noX e1 hx hM
      obtain ⟨hk, e3⟩ := cond_ok e2
      simp only [Bool.and_eq_true] at hk
      obtain rfl := isLe_ok hk.1
      obtain rfl := isIq_ok hk.2
      obtain rfl := hy.eq_of_plain rfl
      have hls' : LsIn 0 w _ (ρ.lst 0) := hls
      rw [h0] at hls'
      simp only [List.nil_append]
      cases hn : isIq 1 n with
      | true =>
       rw [hn] at e3
       simp only [cond_true] at e3
       obtain rfl := isIq_ok hn
       obtain rfl := h3.eq_of_plain rfl
       refine eK_goes h23 c1 (fun q => no (c2 q)) e3 hM hN ((closed_all w hp hl (sg_or s) (.inl rfl) hls' hM.fits hM.base).mono ?_)
       rintro en w' ⟨q | ⟨u, q1, q2, q3⟩, hb⟩
       ·exact ⟨.inl q, hb⟩
       ·exact ⟨.inr ⟨u, q1, q2, no q3⟩, hb⟩
      | false =>
       rw [hn] at e3
       simp only [cond_false] at e3
       cases hn2 : isIq (-1) n with
       | false =>
        rw [hn2] at e3
        simp only [cond_false] at e3
        cases (show (fail : M Sy Value) _ _ = _ from e3)
       | true =>
        rw [hn2] at e3
        simp only [cond_true] at e3
        obtain rfl := isIq_ok hn2
        obtain rfl := h3.eq_of_plain rfl
        refine eK_goes h24 d1 (fun q => no (d2 q)) e3 hM hN ((closed_all w hp hl (sg_or s) (.inr rfl) hls' hM.fits hM.base).mono ?_)
        rintro en w' ⟨q | ⟨u, q1, q2, q3⟩, hb⟩
        ·exact ⟨.inl q, hb⟩
        ·exact ⟨.inr ⟨u, q1, q2, no q3⟩, hb⟩
 | _ => cases (show none = some m from e)
theorem tw_ev : twC.ev ρ.q = 2 := by show mkRat (Big.sI false 2) 1 = 2; rfl
theorem noF {l : List Rat} : (∀ y ∈ l, Fit y) → ¬ ∃ y ∈ l, ¬ Fit y := fun h ⟨y, hy, hn⟩ => hn (h y hy)
theorem ps9S_ok {b : Bool} (h21 : PolyOK (ρ.lst 21)) (hl : (ρ.lst 21).length ≤ 33) (h30 : ρ.lst 30 = trmm (sc (ρ.lst 21) 2)) (c1 : b = true → ∃ y ∈ trmm (sc (ρ.lst 21) 2), ¬ Fit y) (c2 : b = false → ∀ y ∈ trmm (sc (ρ.lst 21) 2), Fit y) :
  SumF (symSig ρ) Try.prog (ps9S b).1 (ps9S b).2 := by
 intro args m e
 rcases args with _ | ⟨a, _ | ⟨x, _ | ⟨y, l⟩⟩⟩ <;> first | (cases (show none = some m from e); done) | skip
 cases x with
 | agg cs =>
  cases e
  refine ⟨loc_bind (loc_lsArg _ _) fun l => loc_bind (loc_frcV _) fun o => ?_, fun h nx v h' nx' R W e r w args' hv hM hN => ?_⟩
  ·split
   ·exact loc_cond (loc_eK _ _) loc_fail
   ·exact loc_fail
  cases hv with
  | cons h1 hv => cases hv with
   | cons h2 hv =>
    cases hv
    obtain ⟨l, g1, nx1, R1, W1, R2, W2, e1, e2, rfl, rfl⟩ := bind_ok e
    obtain ⟨rfl, rfl, rfl, hls⟩ := lsArg_ok noX e1 h1 hM
    obtain ⟨o, g3, nx3, R3, W3, R4, W4, e3, e4, rfl, rfl⟩ := bind_ok e2
    obtain ⟨cs⟩ := cs
    obtain ⟨us, rfl, hus⟩ := vr_agg h2
    obtain ⟨rfl, rfl, rfl, hf⟩ := frcV_ok e3 hus hM
    cases o with
    | none => cases (show (fail : M Sy Value) _ _ = _ from e4)
    | some q =>
     obtain ⟨hk, e5⟩ := cond_ok e4
     simp only [Bool.and_eq_true] at hk
     obtain rfl := isLe_ok hk.1
     obtain rfl := Qe.beq_ok _ _ hk.2
     have hf' : _ = [Value.bool (Big.ng (twC.ev ρ.q)), .string (bst (Big.nu (twC.ev ρ.q))), .string (bst (Big.de (twC.ev ρ.q)))] := hf
     rw [tw_ev] at hf'
     subst hf'
     simp only [List.nil_append]
     refine eK_goes h30 c1 (fun q => noF (c2 q)) e5 hM hN ((pscale_any w h21 hl (show Fit (2 : Rat) from ⟨by decide +kernel, by decide +kernel⟩) hls hM.fits hM.base).mono ?_)
     rintro en w' ⟨q | ⟨u, q1, q2, q3⟩, hb⟩
     ·exact ⟨.inl q, hb⟩
     ·exact ⟨.inr ⟨u, q1, q2, noF q3⟩, hb⟩
 | _ => cases (show none = some m from e)
theorem pa9S_ok {b : Bool} (h23 : PolyOK (ρ.lst 23)) (h24 : PolyOK (ρ.lst 24)) (l1 : (ρ.lst 23).length ≤ 33) (l2 : (ρ.lst 24).length ≤ 33) (h30 : ρ.lst 30 = trmm (pa (ρ.lst 23) (ρ.lst 24))) (c1 : b = true → ∃ y ∈ trmm (pa (ρ.lst 23) (ρ.lst 24)), ¬ Fit y) (c2 : b = false → ∀ y ∈ trmm (pa (ρ.lst 23) (ρ.lst 24)), Fit y) :
  SumF (symSig ρ) Try.prog (pa9S b).1 (pa9S b).2 := by
 refine biA_ok noX (loc_eK b) (Q := fun e w en w' => e = 30 ∧ ((en = .returned longV ∧ ∃ y ∈ trmm (pa (ρ.lst 23) (ρ.lst 24)), ¬ Fit y) ∨ ∃ u, en = .returned (.tuple ⟨[u, .int .i64 0]⟩) ∧ NewOl 0 w w' u (trmm (pa (ρ.lst 23) (ρ.lst 24))) ∧ ¬ ∃ y ∈ trmm (pa (ρ.lst 23) (ρ.lst 24)), ¬ Fit y)) (fun c d e hm w v u hv hu hG hT => ?_) (fun e args' h nx v h' nx' R W r w he hM hN c => ?_)
 ·simp only [pa9T, List.mem_cons, List.not_mem_nil, or_false, Prod.mk.injEq] at hm
  obtain ⟨rfl, rfl, rfl⟩ := hm
  refine (padd_any w h23 h24 l1 l2 hv hu hG hT).mono ?_
  rintro en w' ⟨q | ⟨u, q1, q2, q3⟩, hb⟩
  ·exact ⟨⟨rfl, .inl q⟩, hb⟩
  ·exact ⟨⟨rfl, .inr ⟨u, q1, q2, noF q3⟩⟩, hb⟩
 ·by_cases h9 : e = 30
  ·subst h9
   exact eK_goes h30 c1 (fun q => noF (c2 q)) he hM hN (c.mono fun en w' q => ⟨q.1.2, q.2⟩)
  ·exact c.mono fun en w' q => absurd q.1.1 h9
theorem s8S_ok {b : Bool} (hl : (ρ.lst 30).length ≤ 10000) (hf : b = false → ∀ y ∈ ρ.lst 30, Fit y) : SumF (symSig ρ) Try.prog (s8S b).1 (s8S b).2 := by
 refine biA_ok noX (fun _ => loc_ret _) (Q := fun _ _ en _ => en = .returned (.bool true)) (fun c d e hm w v u hv hu hG hT => ?_) (fun e args' h nx v h' nx' R W r w he hM hN c => ?_)
 ·cases b with
  | true => simp [s8T] at hm
  | false =>
   simp only [s8T, cond_false, List.mem_cons, List.not_mem_nil, or_false, Prod.mk.injEq] at hm
   obtain ⟨rfl, rfl, rfl⟩ := hm
   exact same8_any w (hf rfl) hl hv hu hG hT
 ·exact goes_pl he rfl hM c
theorem tdS9_ok {n : Nat} (h1 : ρ.nat 1 = n) (hn : n + 1 ≤ 1000) (f3 : ∀ q ∈ ρ.lst 23, Fit q) (f4 : ∀ q ∈ ρ.lst 24, Fit q) (l3 : (ρ.lst 23).length ≤ 1000) (l4 : (ρ.lst 24).length ≤ 1000)
  (t3 : ∀ i, i ≤ n + 1 → cf (ρ.lst 23) i = (sgI (!s) : Int) * cf (ρ.lst 23) (n + 1 - i)) (t4 : ∀ i, i ≤ n + 1 → cf (ρ.lst 24) i = (sgI s : Int) * cf (ρ.lst 24) (n + 1 - i)) :
  SumF (symSig ρ) Try.prog (tdS9 s).1 (tdS9 s).2 := by
 intro args m e
 rcases args with _ | ⟨a, _ | ⟨b, _ | ⟨t, _ | ⟨y, l⟩⟩⟩⟩ <;> first | (cases (show none = some m from e); done) | skip
 cases e
 refine ⟨loc_bind (loc_lsArg _ _) fun l => loc_bind (loc_fact _) fun o => loc_cond (loc_cond (loc_ret _) (loc_cond (loc_ret _) loc_fail)) loc_fail, fun h nx v h' nx' R W e r w args' hv hM hN => ?_⟩
 cases hv with
 | cons k1 hv => cases hv with
  | cons k2 hv => cases hv with
   | cons k3 hv =>
    cases hv
    obtain ⟨l, g1, nx1, R1, W1, R2, W2, e1, e2, rfl, rfl⟩ := bind_ok e
    obtain ⟨rfl, rfl, rfl, hls⟩ := lsArg_ok noX e1 k1 hM
    obtain ⟨f, g3, nx3, R3, W3, R4, W4, e3, e4, rfl, rfl⟩ := bind_ok e2
    obtain ⟨rfl, rfl, rfl, hf⟩ := fact_ok e3 k2 hM
    obtain ⟨hk, e5⟩ := cond_ok e4
    rw [isI11_ok hk] at hf
    have hf' : _ = Value.int .i64 (((ρ.nat 1 : Nat) : Int) + 1) := hf
    rw [h1, show ((n : Nat) : Int) + 1 = ((n + 1 : Nat) : Int) by omega] at hf'
    subst hf'
    simp only [List.nil_append]
    cases hx : (isLe l 0 23 && isIq (sgI (!s)) t) with
    | true =>
     rw [hx] at e5
     simp only [cond_true, cond_false] at e5
     simp only [Bool.and_eq_true] at hx
     obtain rfl := isLe_ok hx.1
     obtain rfl := isIq_ok hx.2
     obtain rfl := k3.eq_of_plain rfl
     exact goes_pl e5 rfl hM (turned8_any w f3 l3 hn t3 hls hM.fits hM.base)
    | false =>
     rw [hx] at e5
     simp only [cond_true, cond_false] at e5
     cases hx2 : (isLe l 0 24 && isIq (sgI s) t) with
     | false =>
      rw [hx2] at e5
      simp only [cond_false] at e5
      cases (show (fail : M Sy Value) _ _ = _ from e5)
     | true =>
      rw [hx2] at e5
      simp only [cond_true] at e5
      simp only [Bool.and_eq_true] at hx2
      obtain rfl := isLe_ok hx2.1
      obtain rfl := isIq_ok hx2.2
      obtain rfl := k3.eq_of_plain rfl
      exact goes_pl e5 rfl hM (turned8_any w f4 l4 hn t4 hls hM.fits hM.base)
end
theorem ov_lenS (l : List Rat) (x : Rat) : (ov l x).length = l.length := by unfold ov; rw [List.length_map]
theorem ov_last {l : List Rat} {x : Rat} (hx : x ≠ 0) (h : l ≠ [] → l.getLastD 0 ≠ 0) : ov l x ≠ [] → (ov l x).getLastD 0 ≠ 0 := by
 intro hn
 have hl : l ≠ [] := fun q => hn (by rw [q]; rfl)
 have h1 := h hl
 rw [lastD_get] at h1 ⊢
 rw [ov_lenS]
 have h2 := cf_ov l x (l.length - 1)
 unfold cf at h2
 rw [h2]
 intro q
 apply h1
 have : l.getD (l.length - 1) 0 / x * x = l.getD (l.length - 1) 0 := Rat.div_mul_cancel hx
 rw [← this, q]; grind
theorem ov_poly {B n : Nat} {l : List Rat} {x : Rat} (hx : x ≠ 0) (h : PB B n l) (hf : ∀ y ∈ l, Fit (y / x)) : PolyOK (ov l x) := ⟨ov_all hf, ov_last hx h.last⟩
def ssLst (p O P Q T : List Rat) : Nat → List Rat
 | 0 => p
 | 21 => O
 | 23 => P
 | 24 => Q
 | 30 => T
 | _ => []
def ssNat (n m : Nat) : Nat → Nat
 | 1 => n
 | 2 => m
 | _ => 0
def ssEnv (p O P Q T : List Rat) (n m lo : Nat) : Env := ⟨fun _ => 0, fun _ => (false, ⟨#[]⟩, ⟨#[]⟩), fun _ _ => fit00, fun _ => fit00.sm.up (by decide), fun _ => bad_zero, lo, ssLst p O P Q T, ssNat n m, rfl⟩
theorem sg_sq (s : Bool) : mkRat (sgI s) 1 * mkRat (sgI s) 1 = 1 := by cases s <;> decide +kernel
theorem sg_p (s : Bool) : ((sgI (!s) : Int) : Rat) = -(1 * mkRat (sgI s) 1) := by cases s <;> decide +kernel
theorem sg_m (s : Bool) : ((sgI s : Int) : Rat) = -(-1 * mkRat (sgI s) 1) := by cases s <;> decide +kernel
theorem cl_ovt {p : List Rat} {F N x : Rat} (hF : F * F = 1) (hN : N * N = 1) (hlu : ∀ m, (unL p F m).length ≤ m + 2) (hlo : ∀ m, (ovL p F m).length ≤ m + 1) {k : Int} (hk : (k : Rat) = -(N * F)) (i : Nat) (hi : i ≤ p.length + 1) : cf (ov (clL p F N) x) i = (k : Int) * cf (ov (clL p F N) x) (p.length + 1 - i) := by
 rw [cf_ov, cf_ov, cl_turned hF hN hlu hlo hi, hk]
 generalize cf (clL p F N) (p.length + 1 - i) = y
 rw [Rat.div_def, Rat.div_def]
 grind
theorem sum_twice (p : List Rat) (F x : Rat) : trmm (pa (ov (clL p F 1) x) (ov (clL p F (-1)) x)) = trmm (sc (ov (ovL p F p.length) x) 2) :=
 cf_inj _ _ (take_last (tmm_ok _)) (take_last (tmm_ok _)) fun i => by
  rw [cf_trmm, cf_trmm, cf_pa, cf_sc, cf_ov, cf_ov, cf_ov]
  have h := cl_sum p F i
  rw [Rat.div_def, Rat.div_def, Rat.div_def]
  grind
theorem ssigns_good (w : World) {p : List Rat} {s : Bool} (hp : ∀ y ∈ p, Refl y) (hl : p.length ≤ 31) {v : Value} (hv : LsIn 0 w v p) (hG : Try.prog.globals.size ≤ w.heap.size) (hT : natSig.base w) :
  Calls Try.prog ssF ⟨[.agg ⟨[v, .int .i64 (sgI s)]⟩]⟩ w fun e w' => e = .returned (.bool true) ∧ Below w.heap.size w w' := by
 have hpf : ∀ y ∈ p, Fit y := fun y hy => (hp y hy).1
 have upb := uo_pb (parts_ok hpf) (far_zi (sg_or s))
 have hbl := blwQ_ne p p.length
 obtain ⟨a1, b1, a2⟩ : ∃ a : Bool, (a = true → (∃ y ∈ unL p (mkRat (sgI s) 1) p.length, ¬ Fit (y / blwQ p p.length)) ∨ ∃ y ∈ ovL p (mkRat (sgI s) 1) p.length, ¬ Fit (y / blwQ p p.length)) ∧ (a = false → (∀ y ∈ unL p (mkRat (sgI s) 1) p.length, Fit (y / blwQ p p.length)) ∧ ∀ y ∈ ovL p (mkRat (sgI s) 1) p.length, Fit (y / blwQ p p.length)) := by
  obtain ⟨a, x1, x2⟩ := fit_or (unL p (mkRat (sgI s) 1) p.length) (blwQ p p.length)
  obtain ⟨b, y1, y2⟩ := fit_or (ovL p (mkRat (sgI s) 1) p.length) (blwQ p p.length)
  refine ⟨a || b, fun h => ?_, fun h => ?_⟩
  ·exact (Bool.or_eq_true_iff.1 h).elim (fun h => .inl (x1 h)) fun h => .inr (y1 h)
  ·have h' := Bool.or_eq_false_iff.1 h
   exact ⟨x2 h'.1, y2 h'.2⟩
 obtain ⟨c, c1, c2⟩ := fit_or (clL p (mkRat (sgI s) 1) (mkRat 1 1)) (blwQ p p.length)
 obtain ⟨d, d1, d2⟩ := fit_or (clL p (mkRat (sgI s) 1) (mkRat (-1) 1)) (blwQ p p.length)
 let O := ov (ovL p (mkRat (sgI s) 1) p.length) (blwQ p p.length)
 let P := ov (clL p (mkRat (sgI s) 1) (mkRat 1 1)) (blwQ p p.length)
 let Q := ov (clL p (mkRat (sgI s) 1) (mkRat (-1) 1)) (blwQ p p.length)
 let E := ssEnv p O P Q (trmm (sc O 2)) p.length (ov (unL p (mkRat (sgI s) 1) p.length) (blwQ p p.length)).length w.heap.size
 have hA : AllH E [] := fun x hx => by simp at hx
 have s1 : SumF (symSig E) Try.prog (fwS s a1).1 (fwS s a1).2 := fwS_ok (ρ := E) hp hl rfl rfl rfl b1 a2
 have s2 : SumF (symSig E) Try.prog (clS s c d).1 (clS s c d).2 := clS_ok (ρ := E) hp hl rfl rfl rfl c1 c2 d1 d2
 have hh : HoldsL (symSig E) w [.ls 0 0] [v] := ⟨_, _, rfl, LsIn.ls hv rfl, by obtain ⟨a, m, rfl, _⟩ := hv; rfl, rfl⟩
 cases hab : (a1 || c || d) with
 | true =>
  have hS : SumOK (symSig E) Try.prog (sumsOf (mkTab [wk8S, fwS s a1, clS s c d])) := sumsOf_ok fun x hx => by
   simp only [List.mem_cons, List.not_mem_nil, or_false] at hx
   rcases hx with rfl | rfl | rfl
   ·exact wk8S_ok
   ·exact s1
   ·exact s2
  refine (tells_calls (lsFits hA noX) hS (ss_long s a1 c d hab) rfl glob_few hh hG hT (Nat.le_refl _) (.none rfl)).mono ?_
  rintro e w' ⟨v', rfl, h1, hb⟩
  have h1' : v' = .bool true := h1
  exact ⟨by rw [h1'], hb⟩
 | false =>
  have h' := Bool.or_eq_false_iff.1 hab
  have h'' := Bool.or_eq_false_iff.1 h'.1
  obtain ⟨rfl, rfl⟩ := h''
  obtain rfl := h'.2
  have q1 := upb p.length
  have q2 := pb_sc q1.1 (far_zi (.inl rfl : (1 : Int) = 1 ∨ (1 : Int) = -1))
  have q3 := pb_sc q1.1 (far_zi (.inr rfl : (-1 : Int) = 1 ∨ (-1 : Int) = -1))
  have pP := pb_psb q1.2 q2
  have pQ := pb_psb q1.2 q3
  have oO : PolyOK O := ov_poly hbl q1.2 (a2 rfl).2
  have oP : PolyOK P := ov_poly hbl pP (c2 rfl)
  have oQ : PolyOK Q := ov_poly hbl pQ (d2 rfl)
  have lO : O.length ≤ 33 := by
   show (ov _ _).length ≤ 33
   rw [ov_lenS]; exact Nat.le_trans q1.2.len (by omega)
  have lP : P.length ≤ 33 := by
   show (ov (clL _ _ _) _).length ≤ 33
   rw [ov_lenS]; exact Nat.le_trans pP.len (by omega)
  have lQ : Q.length ≤ 33 := by
   show (ov (clL _ _ _) _).length ≤ 33
   rw [ov_lenS]; exact Nat.le_trans pQ.len (by omega)
  have hlu : ∀ m, (unL p (mkRat (sgI s) 1) m).length ≤ m + 2 := fun m => (upb m).1.len
  have hlo : ∀ m, (ovL p (mkRat (sgI s) 1) m).length ≤ m + 1 := fun m => (upb m).2.len
  have hsum : trmm (pa P Q) = trmm (sc O 2) := sum_twice p (mkRat (sgI s) 1) (blwQ p p.length)
  obtain ⟨b, e1, e2⟩ := fit_orL (trmm (sc O 2))
  have s8 : SumF (symSig E) Try.prog (pa9S b).1 (pa9S b).2 := pa9S_ok (ρ := E) oP oQ lP lQ hsum.symm (fun h => by
   show ∃ y ∈ trmm (pa P Q), _
   rw [hsum]; exact e1 h) (fun h => by
   show ∀ y ∈ trmm (pa P Q), _
   rw [hsum]; exact e2 h)
  have hlT : (trmm (sc O 2)).length ≤ 10000 := by
   unfold trmm
   rw [List.length_take, sc_lenS]; omega
  have hS : SumOK (symSig E) Try.prog (sumsOf (mkTab [wk8S, fwS s false, clS s false false, fr21S, ps9S b, pa9S b, s8S b, tdS9 s])) := sumsOf_ok fun x hx => by
   simp only [List.mem_cons, List.not_mem_nil, or_false] at hx
   rcases hx with rfl | rfl | rfl | rfl | rfl | rfl | rfl | rfl
   ·exact wk8S_ok
   ·exact s1
   ·exact s2
   ·exact fr21S_ok
   ·exact ps9S_ok (ρ := E) oO lO rfl e1 e2
   ·exact s8
   ·exact s8S_ok (ρ := E) hlT e2
   ·exact tdS9_ok (ρ := E) (n := p.length) rfl (by omega) oP.fit oQ.fit (show P.length ≤ 1000 by omega) (show Q.length ≤ 1000 by omega)
     (fun i hi => cl_ovt (N := mkRat 1 1) (sg_sq s) (by decide +kernel) hlu hlo (sg_p s) i hi) (fun i hi => cl_ovt (N := mkRat (-1) 1) (sg_sq s) (by decide +kernel) hlu hlo (sg_m s) i hi)
  have hB : AllX E [.ln 0 1, .bd 1] := fun x hx => by
   simp only [List.mem_cons, List.not_mem_nil, or_false] at hx
   rcases hx with rfl | rfl
   ·rfl
   ·show p.length ≤ 10000
    omega
  refine (tells_calls (lsFits hA hB) hS (ss_full s b) rfl glob_few hh hG hT (Nat.le_refl _) (.none rfl)).mono ?_
  rintro e w' ⟨v', rfl, h1, hb⟩
  have h1' : v' = .bool true := h1
  exact ⟨by rw [h1'], hb⟩
theorem ssigns_any (w : World) {qs : List Rat} {n : Nat} {raw : Bool × ByteArray × ByteArray} {z : Int} (hf : ∀ y ∈ qs, Fit y) (hb : BadF raw) {v : Value} (hv : LrIn w v qs n raw) (hz1 : -9223372036854775808 ≤ z) (hz2 : z ≤ 9223372036854775807) (hG : Try.prog.globals.size ≤ w.heap.size) (hT : natSig.base w) :
  Calls Try.prog ssF ⟨[.agg ⟨[v, .int .i64 z]⟩]⟩ w fun e w' => e = .returned (.bool true) ∧ Below w.heap.size w w' := by
 by_cases hbad : 31 < n ∨ ¬ (z = 1 ∨ z = -1) ∨ qs.length < n ∨ ∃ y ∈ qs, ¬ Big.nu y < Big.de y
 ·exact ssigns_bad w hf hb hv hz1 hz2 hbad hG hT
 ·have h1 : ¬ 31 < n := fun h => hbad (.inl h)
  have h2 : z = 1 ∨ z = -1 := Classical.byContradiction fun h => hbad (.inr (.inl h))
  have h3 : ¬ qs.length < n := fun h => hbad (.inr (.inr (.inl h)))
  have h4 : ∀ y ∈ qs, Refl y := fun y hy => ⟨hf y hy, Classical.byContradiction fun h => hbad (.inr (.inr (.inr ⟨y, hy, h⟩)))⟩
  obtain ⟨a, m, rfl, hm, hle, hcell⟩ := hv
  have hn : n = qs.length := by omega
  subst hn
  have hls : LsIn 0 w (.slice a qs.length m) qs := ⟨a, m, rfl, hm, fun hp => by
   obtain ⟨b, off, cl, t, z9, k1, k2, k3, _⟩ := hcell (Nat.pos_of_ne_zero fun h9 => hp (List.length_eq_zero_iff.1 h9))
   exact ⟨b, off, cl, t, z9, k1, k2, k3⟩⟩
  rcases h2 with rfl | rfl
  ·exact ssigns_good (s := true) w h4 (by omega) hls hG hT
  ·exact ssigns_good (s := false) w h4 (by omega) hls hG hT
end Ev
end Go.Proofs.Ytnlhjcfpfapafaa
namespace Go.Proofs.Ytnlhjcfpfapafaa
open Go.ChangeShapes Go.WideShapes Go.ChangeAt Go.RowKit
theorem own : ownKnob Try.prog.godebug = none := by kernel_rfl
section
variable {H : Type} {enc : TypeId × Value → H} {P : Program}
end
theorem glob_size {W : World} (h : W.ShapedOpen Try.prog) : Try.prog.globals.size ≤ W.heap.size := by
 have hb : Nat.ble (Try.prog.globals.size + 1) (begin Try.prog (fun _ _ => 0) default).world.heap.size = true := by kernel_rfl
 obtain ⟨o, o0, h1, -⟩ := h.2 Try.prog.globals.size (Nat.le_refl _) (Nat.le_of_ble_eq_true hb)
 exact Nat.le_of_lt (Array.getElem?_eq_some_iff.1 h1).1
end Go.Proofs.Ytnlhjcfpfapafaa
namespace Go.Proofs.Ytnlhjcfpfapafaa
open Go Go.ChangeShapes Go.WideShapes Go.ChangeAt Go.RowKit
theorem cell_below {W W' : World} (hb : Below W.heap.size W W') {a : Addr} (h : a.block < W.heap.size) : W'.cell? a = W.cell? a := by
 unfold World.cell?
 rw [hb.block _ h]
theorem frozen_below {W W' : World} (hb : Below W.heap.size W W') {a : Addr} (h : a.block < W.heap.size) : W'.frozen? a = W.frozen? a := by
 unfold World.frozen?
 rw [hb.block _ h]
theorem cell_lt {W : World} {a : Addr} {v : Value} (h : W.cell? a = some v) : a.block < W.heap.size := by
 apply Nat.lt_of_not_le
 intro hn
 have hx : W.heap[a.block]? = none := Array.getElem?_eq_none hn
 simp [World.cell?, hx] at h
section
variable {H : Type} {enc : TypeId × Value → H} {P : Program}
theorem post_kept {f : Func} {s : ChangeSpec} {apart fresh handsOn again : Bool} {W W' : World} {args : Array Value} {v : Value} {ds gs : List (DataW H)} {before : List MemPlace}
  (hW : DataW.Whole enc P f.params.toList s.vars apart W args.toList ds gs before)
  (hres : ∀ (b : Nat) (sp : Nat → Bool) (hd : Bool), DataW.TrodAll enc P W' b sp hd f.resultTypes.toList (v.resultList f.resultTypes.size) (s.fn H (ds ++ gs)).results [])
  (hargs : ∀ sp : Nat → Bool, (∀ p ∈ before, sp p.block = true) → DataW.TrodAll enc P W' 0 sp true f.params.toList args.toList (s.fn H (ds ++ gs)).args before)
  (hvars : ∀ sp : Nat → Bool, DataW.TrodVars enc P W' sp s.vars (s.fn H (ds ++ gs)).vars [])
  (hb : Below W.heap.size W W')
  (hok : ∀ (j : Nat) (t : TypeId) (r : Value), f.resultTypes[j]? = some t → (v.resultList f.resultTypes.size)[j]? = some r → Value.okWide P W' .any 0 t r) :
  s.post enc P f apart fresh handsOn again W args v W' := by
 have hk : W.keptBut W' (fun p => p ∈ ([] : List MemPlace)) := hb.frame _
 have hold : ∀ p ∈ before, (fun b => decide (b < W.heap.size)) p.block = true := fun p hp => by simpa using hW.lt p hp
 have hlt : ∀ p ∈ before, p.block < W.heap.size := fun p hp => hW.lt p hp
 refine ⟨ds, gs, before, [], before, [], hW, hres _ _ _, hargs _ hold, hvars _, World.keptBut_mono (fun p hp => by cases hp) hk, fun _ => ?_⟩
 obtain ⟨_, _, _, _, _, hz, hn⟩ := hW
 refine ⟨hok, _, _, before, ⟨[] ++ before, [], trodAll_append (hargs _ (fun _ _ => rfl)) (hres _ _ _), hvars _, by simp, ?_, hn⟩, fun p hp _ => hp⟩
 intro b off hp
 rw [frozen_below hb (a := ⟨b, off, none⟩) (hlt _ hp)]
 exact hz b off hp
end
end Go.Proofs.Ytnlhjcfpfapafaa
namespace Go.Proofs.Ytnlhjcfpfapafaa
open Go Go.ChangeShapes Go.WideShapes Go.ChangeAt Go.RowKit Ev
set_option maxRecDepth 100000
theorem c_boolC : Try.prog.cellsOf 4 = 1 := by kernel_rfl
theorem c_strC : Try.prog.cellsOf 9 = 1 := by kernel_rfl
theorem c_intC : Try.prog.cellsOf 3 = 1 := by kernel_rfl
theorem c_slcC : Try.prog.cellsOf 48 = 1 := by kernel_rfl
theorem c_fracC : Try.prog.cellsOf 27 = 3 := by kernel_rfl
theorem c_chainC : Try.prog.cellsOf 50 = 2 := by kernel_rfl
abbrev TriC := Bool × ByteArray × ByteArray
def datC {H : Type} (t : TriC) : DataW H := .agg [.lit (.bool t.1), .lit (.string t.2.1.data.toList), .lit (.string t.2.2.data.toList)]
def triC {H : Type} (y : DataW H × List MemPlace) : TriC := match y.1 with
 | .agg [.lit (.bool b), .lit (.string s), .lit (.string t)] => (b, ⟨⟨s⟩⟩, ⟨⟨t⟩⟩)
 | _ => (false, ⟨#[]⟩, ⟨#[]⟩)
def wfC (t : TriC) : Prop := t.2.1.size ≤ maxLen ∧ t.2.2.size ≤ maxLen
def zeC : TriC := (false, ⟨#[]⟩, ⟨#[]⟩)
section
variable {H : Type} {enc : TypeId × Value → H} {w : World} {base : Nat} {spare : Nat → Bool} {held : Bool}
theorem frac_inC {fuel : Nat} {cs : List Value} {x : DataW H × List MemPlace} (h : DataW.trod enc Try.prog w base spare held fuel 27 cs = some x) : ∃ t : TriC, cs = rawC t ∧ x = (datC t, []) ∧ wfC t := by
 obtain ⟨xs, n, -, hx, hl, hlen, hg⟩ := DataW.trod_struct Try.underlying27 h
 rw [c_fracC] at hl
 match cs, hl, xs, hlen with
 | [u0, u1, u2], _, [y0, y1, y2], _ =>
  have h0 := hg 0 _ rfl
  simp only [c_boolC, List.drop, List.take, List.getElem?_cons_zero] at h0
  obtain ⟨b, e0, z0⟩ := DataW.trod_bool Try.underlying4 h0
  obtain rfl := (List.cons.inj e0).1; clear e0
  subst z0
  have h1 := hg 1 _ rfl
  simp only [c_strC, List.drop, List.take, List.getElem?_cons_zero, List.getElem?_cons_succ] at h1
  obtain ⟨s, e1, z1, w1⟩ := DataW.trod_string Try.underlying9 h1
  obtain rfl := (List.cons.inj e1).1; clear e1
  subst z1
  have h2 := hg 2 _ rfl
  simp only [c_strC, List.drop, List.take, List.getElem?_cons_zero, List.getElem?_cons_succ] at h2
  obtain ⟨t, e2, z2, w2⟩ := DataW.trod_string Try.underlying9 h2
  obtain rfl := (List.cons.inj e2).1; clear e2
  subst z2
  exact ⟨(b, s, t), rfl, by rw [hx]; rfl, w1, w2⟩
theorem frac_mkC {t : TriC} (h : wfC t) (n : Nat) : DataW.trod enc Try.prog w base spare held (n + 2) 27 (rawC t) = some (datC t, []) := by
 obtain ⟨b, s, t⟩ := t
 have h1 : s.size ≤ maxLen := h.1
 have h2 : t.size ≤ maxLen := h.2
 have k0 : DataW.trod enc Try.prog w base spare held (n + 1) 4 [.bool b] = some (.lit (.bool b), []) := by simp [DataW.trod, Try.underlying4]
 have k1 : ∀ s : ByteArray, s.size ≤ maxLen → DataW.trod enc Try.prog w base spare held (n + 1) 9 [.string s] = some (.lit (.string s.data.toList), []) := fun s hs => by simp [DataW.trod, Try.underlying9, hs]
 have hm := trod_struct_mk (enc := enc) (w := w) (base := base) (spare := spare) (held := held) (n := n + 1) (cs := rawC (b, s, t)) (xs := [(.lit (.bool b), []), (.lit (.string s.data.toList), []), (.lit (.string t.data.toList), [])]) Try.underlying27 (by rw [c_fracC]; rfl) (by
  simp [c_boolC, c_strC, rawC, k0, k1 s h1, k1 t h2])
 exact hm
theorem fracs_in {fuel : Nat} {cs : List Value} {x : DataW H × List MemPlace} (h : DataW.trod enc Try.prog w 0 (fun _ => true) held fuel 48 cs = some x) :
  (cs = [.slice none 0 0] ∧ x = (.nil, [])) ∨
  ∃ (a : Addr) (len cap : Nat) (ts : List TriC), cs = [.slice (some a) len cap] ∧ len ≤ cap ∧ cap ≤ maxLen ∧ ts.length = cap ∧ x = (.slice ((ts.take len).map datC) ((ts.drop len).map datC), MemPlace.row a (cap * 3)) ∧
   (∀ i, i < cap → w.cells? 0 (a.add (i * 3)) 3 = some (rawC (ts.getD i zeC))) ∧ ∀ t ∈ ts, wfC t := by
 rcases DataW.trod_slice Try.underlying48 h with h0 | ⟨a, len, cap, elems, rest, n, _, rfl, rfl, hb, hl, hm, hlen, hel, hsp, _⟩
 ·exact Or.inl h0
 right
 obtain ⟨hrl, hr⟩ := hsp rfl
 rw [c_fracC] at hel hr
 have each : ∀ i y, (elems ++ rest)[i]? = some y → y = (datC (triC y), []) ∧ wfC (triC y) ∧ w.cells? 0 (a.add (i * 3)) 3 = some (rawC (triC y)) := by
  intro i y hy
  have hb' : (w.cells? 0 (a.add (i * 3)) 3).bind (DataW.trod enc Try.prog w 0 (fun _ => true) held n 27) = some y := by
   by_cases hi : i < len
   ·rw [hel i hi, ← hy, List.getElem?_append_left (by omega)]
   ·have hi' : i - len < rest.length := by
     have := (List.getElem?_eq_some_iff.1 hy).1
     simp at this
     omega
    have := hr (i - len) (by omega)
    rw [show len + (i - len) = i by omega] at this
    rw [this, ← hy, List.getElem?_append_right (by omega), hlen]
  rw [Option.bind_eq_some_iff] at hb'
  obtain ⟨cs', hcs, hy'⟩ := hb'
  obtain ⟨t, rfl, rfl, hw⟩ := frac_inC hy'
  exact ⟨rfl, hw, hcs⟩
 have mem : ∀ y ∈ elems ++ rest, y = (datC (triC y), []) ∧ wfC (triC y) := by
  intro y hy
  obtain ⟨i, hi⟩ := List.getElem?_of_mem hy
  exact ⟨(each i y hi).1, (each i y hi).2.1⟩
 refine ⟨a, len, cap, (elems ++ rest).map triC, rfl, hl, hm, ?_, ?_, ?_, ?_⟩
 ·simp only [List.length_map, List.length_append, hlen, hrl]; omega
 ·have e1 : ((elems ++ rest).map triC).take len = elems.map triC := by rw [← List.map_take, ← hlen, List.take_left]
  have e2 : ((elems ++ rest).map triC).drop len = rest.map triC := by rw [← List.map_drop, ← hlen, List.drop_left]
  have f1 : ∀ l : List (DataW H × List MemPlace), (∀ y ∈ l, y ∈ elems ++ rest) → l.map (·.1) = (l.map triC).map datC := by
   intro l hl'
   simp only [List.map_map]
   exact List.map_congr_left (fun y hy => by
    have := (mem y (hl' y hy)).1
    exact congrArg Prod.fst this)
  have f2 : (elems ++ rest).flatMap (·.2) = [] := by
   rw [List.flatMap_eq_nil_iff]
   intro y hy
   exact congrArg Prod.snd (mem y hy).1
  have f3 : (elems.length + rest.length) * Try.prog.cellsOf 27 = cap * 3 := by rw [c_fracC, hlen, hrl]; congr 1; omega
  rw [e1, e2, f1 elems (fun y hy => by simp [hy]), f1 rest (fun y hy => by simp [hy]), f2, f3]
  simp
 ·intro i hi
  have hi2 : i < (elems ++ rest).length := by rw [List.length_append]; omega
  have hy : (elems ++ rest)[i]? = some ((elems ++ rest)[i]'hi2) := List.getElem?_eq_getElem hi2
  have := (each i _ hy).2.2
  have e : ((elems ++ rest).map triC).getD i zeC = triC ((elems ++ rest)[i]'hi2) := by rw [List.getD_eq_getElem?_getD, List.getElem?_map, hy]; rfl
  rw [this, e]
 ·intro m hm'
  obtain ⟨y, hy, rfl⟩ := List.mem_map.1 hm'
  exact (mem y hy).2
theorem fracs_mk {a : Addr} {len cap : Nat} {ts : List TriC} (m : Nat) (hl : len ≤ cap) (hm : cap ≤ maxLen) (hz : ts.length = cap) (hsp : 0 < cap → spare a.block = true) (hcell : ∀ i, i < cap → w.cells? 0 (a.add (i * 3)) 3 = some (rawC (ts.getD i zeC))) (hw : ∀ t ∈ ts, wfC t) :
  DataW.trod enc Try.prog w 0 spare held (m + 3) 48 [.slice (some a) len cap] = some (.slice ((ts.take len).map datC) ((ts.drop len).map datC), MemPlace.row a (cap * 3)) := by
 have one : ∀ i, i < cap → (w.cells? 0 (a.add (i * Try.prog.cellsOf 27)) (Try.prog.cellsOf 27)).bind (DataW.trod enc Try.prog w 0 spare held (m + 2) 27) = some ((datC (ts.getD i zeC), []) : DataW H × List MemPlace) := by
  intro i hi
  rw [c_fracC, hcell i hi]
  exact frac_mkC (hw _ (by
   rw [List.getD_eq_getElem?_getD, List.getElem?_eq_getElem (show i < ts.length by omega)]
   exact List.getElem_mem _)) m
 have t1 : (List.range len).map (fun i => ((datC (ts.getD i zeC), []) : DataW H × List MemPlace)) = (ts.take len).map fun n => (datC n, []) := by
  apply List.ext_getElem?
  intro i
  by_cases hi : i < len
  ·simp [hi, List.getD, show i < ts.length by omega]
  ·simp [hi, List.getElem?_take]
 have t2 : (List.range (cap - len)).map (fun j => ((datC (ts.getD (len + j) zeC), []) : DataW H × List MemPlace)) = (ts.drop len).map fun n => (datC n, []) := by
  apply List.ext_getElem?
  intro j
  by_cases hj : j < ts.length - len
  ·simp [show j < cap - len by omega, List.getD, show len + j < ts.length by omega]
  ·simp [show ¬ j < cap - len by omega, hj]
 have z : ∀ l : List TriC, (l.map fun n => ((datC n, []) : DataW H × List MemPlace)).flatMap (·.2) = [] := fun l =>
  List.flatMap_eq_nil_iff.2 fun y hy => by
   obtain ⟨n, _, rfl⟩ := List.mem_map.1 hy
   rfl
 have z1 : ∀ l : List TriC, (l.map fun n => ((datC n, []) : DataW H × List MemPlace)).map (·.1) = l.map datC := fun l => by
  rw [List.map_map]; rfl
 rw [DataW.trod_step]
 unfold DataW.trodStep
 simp only [Try.underlying48]
 rw [if_pos ⟨Nat.zero_le _, hl, hm⟩, mapM_range_of len (fun i hi => one i (by omega)), t1]
 simp only [Option.bind_some]
 rcases Nat.eq_zero_or_pos cap with h0 | h0
 ·have hts : ts = [] := List.length_eq_zero_iff.1 (by omega)
  have hl0 : len = 0 := by omega
  subst hts hl0 h0
  cases spare a.block <;> simp
 ·rw [if_pos (hsp h0), mapM_range_of (cap - len) (fun j hj => one (len + j) (by omega)), t2, Option.map_some, List.flatMap_append, z, z, z1, z1, List.length_map, List.length_map, List.length_take, List.length_drop, c_fracC, show min len ts.length + (ts.length - len) = cap by omega]
  simp
end
theorem prefixC : ∀ ts : List TriC, ∃ (qs : List Rat) (raw : TriC), (∀ y ∈ qs, Fit y) ∧ BadF raw ∧ qs.length ≤ ts.length ∧ (∀ (i : Nat) (q : Rat), qs[i]? = some q → ts[i]? = some (Big.ng q, bst (Big.nu q), bst (Big.de q))) ∧ (qs.length < ts.length → ts[qs.length]? = some raw)
 | [] => ⟨[], zeC, fun _ h => by simp at h, bad_zero, Nat.le_refl _, fun i q h => by simp at h, fun h => by simp at h⟩
 | t :: ts => by
  by_cases h : BadF t
  ·exact ⟨[], t, fun _ h => by simp at h, h, Nat.zero_le _, fun i q h => by simp at h, fun _ => rfl⟩
  ·have h' : ∃ q : Rat, Fit q ∧ (t.1 = Big.ng q ∧ t.2.1 = bst (Big.nu q) ∧ t.2.2 = bst (Big.de q)) := by
    refine Classical.byContradiction fun hn => h fun q hq he => hn ⟨q, hq, he⟩
   obtain ⟨q, hq, h1, h2, h3⟩ := h'
   obtain ⟨qs, raw, i1, i2, i3, i4, i5⟩ := prefixC ts
   refine ⟨q :: qs, raw, fun y hy => ?_, i2, Nat.succ_le_succ i3, fun i x hx => ?_, fun hlt => ?_⟩
   ·rcases List.mem_cons.1 hy with rfl | hy
    ·exact hq
    ·exact i1 y hy
   ·cases i with
    | zero =>
     rw [List.getElem?_cons_zero] at hx ⊢
     cases hx
     obtain ⟨t1, t2, t3⟩ := t
     simp only at h1 h2 h3
     rw [h1, h2, h3]
    | succ i =>
     rw [List.getElem?_cons_succ] at hx ⊢
     exact i4 i x hx
   ·rw [List.length_cons, List.getElem?_cons_succ]
    exact i5 (Nat.lt_of_succ_lt_succ hlt)
theorem cells_row {w : World} {b off : Nat} {cl : List Value} {t : TypeId} {z : Nat × Nat} {l : List Value} (h : w.cells? 0 ⟨b, off, none⟩ l.length = some l) (hh : w.heap[b]? = some (.cells ⟨cl⟩ t z)) : (cl.drop off).take l.length = l := by
 obtain ⟨_, _, hc⟩ := World.cells?_some h
 apply List.ext_getElem?
 intro k
 by_cases hk : k < l.length
 ·have h1 := hc k hk
  rw [add_off] at h1
  rw [List.getElem?_take, if_pos hk, List.getElem?_drop, ← h1]
  simp [World.cell?, hh]
 ·rw [List.getElem?_take, if_neg hk, List.getElem?_eq_none (by omega)]
theorem fracs_lr {w : World} {a : Addr} {len cap : Nat} {ts : List TriC} (hl : len ≤ cap) (hz : ts.length = cap) (hcell : ∀ i, i < cap → w.cells? 0 (a.add (i * 3)) 3 = some (rawC (ts.getD i zeC))) :
  ∃ (qs : List Rat) (raw : TriC), (∀ y ∈ qs, Fit y) ∧ BadF raw ∧ LrIn w (.slice (some a) len cap) qs len raw := by
 obtain ⟨qs, raw, h1, h2, h3, h4, h5⟩ := prefixC (ts.take len)
 have hlt : (ts.take len).length = len := by rw [List.length_take]; omega
 rw [hlt] at h3 h5
 refine ⟨qs, raw, h1, h2, some a, cap, rfl, hl, h3, fun hp => ?_⟩
 have h0 := hcell 0 (by omega)
 obtain ⟨_, hlen0, hc0⟩ := World.cells?_some h0
 have hc00 := hc0 0 (by omega)
 obtain ⟨b, off, spot⟩ := a
 have hsp : spot = none := by
  cases spot with
  | none => rfl
  | some s =>
   exfalso
   simp [World.cell?, Addr.add, rawC] at hc00
   split at hc00 <;> simp_all
 subst hsp
 cases hh : w.heap[b]? with
 | none => simp [World.cell?, Addr.add, hh, rawC] at hc00
 | some o =>
  cases o with
  | cells c t z =>
   obtain ⟨cl⟩ := c
   have row : ∀ i, i < len → ∀ x, (ts.take len)[i]? = some x → (cl.drop (off + i * 3)).take 3 = rawC x := fun i hi x hx => by
    have hx' : ts[i]? = some x := by
     rw [List.getElem?_take, if_pos hi] at hx; exact hx
    have h6 := hcell i (by omega)
    rw [add_off, List.getD_eq_getElem?_getD, hx'] at h6
    exact cells_row (l := rawC x) h6 hh
   refine ⟨b, off, cl, t, z, rfl, hh, fun i q hi => ?_, fun hlt2 => row _ hlt2 _ (h5 hlt2)⟩
   exact row i (Nat.lt_of_lt_of_le (List.getElem?_eq_some_iff.1 hi).1 h3) _ (h4 i q hi)
  | _ => simp [World.cell?, Addr.add, hh, rawC] at hc00
theorem cells_below {W W' : World} (hb : Below W.heap.size W W') {a : Addr} {n : Nat} (h : a.block < W.heap.size) : W'.cells? 0 a n = W.cells? 0 a n := by
 unfold World.cells?
 rw [show (fun i => W'.cell? (a.add i)) = fun i => W.cell? (a.add i) from funext fun i => cell_below hb (by rw [block_add]; exact h)]
theorem chain_open {H : Type} {enc : TypeId × Value → H} {W : World} {b0 : Nat} {v : Value} {d : DataW H} {p : List MemPlace} (hval : Value.okWide Try.prog W .any b0 50 v)
  (h0 : DataW.Trod enc Try.prog W 0 (fun _ => true) true 50 v d p) :
  ∃ (s : Value) (z : Int) (qs : List Rat) (n : Nat) (raw : TriC), v = .agg ⟨[s, .int .i64 z]⟩ ∧ (Lit.int .i64 z).wf = true ∧ (∀ y ∈ qs, Fit y) ∧ BadF raw ∧ LrIn W s qs n raw ∧
   ∀ (W' : World) (sp : Nat → Bool), Below W.heap.size W W' → (∀ q ∈ p, sp q.block = true) → DataW.Trod enc Try.prog W' 0 sp true 50 v d p := by
 obtain ⟨cs, rfl, hsz⟩ := okWide_struct Try.underlying50 hval
 obtain ⟨fuel, hf⟩ := h0
 obtain ⟨y0, y1, n, hx, hl, k0, k1⟩ := trod_struct2 Try.underlying50 hf
 rw [c_chainC] at hsz
 obtain ⟨l⟩ := cs
 match l, hsz with
 | [u0, u1], _ =>
  simp only [Value.cells, c_slcC, c_intC, List.drop, List.take] at k0 k1
  obtain ⟨z, e1, e2, hz⟩ := DataW.trod_int Try.underlying3 k1
  obtain rfl := (List.cons.inj e1).1
  subst e2
  simp only [Prod.mk.injEq, List.append_nil] at hx
  obtain ⟨rfl, rfl⟩ := hx
  have shut : ∀ (W' : World) (sp : Nat → Bool), DataW.trod enc Try.prog W' 0 sp true 3 48 [u0] = some y0 → DataW.Trod enc Try.prog W' 0 sp true 50 (.agg ⟨[u0, .int .i64 z]⟩) (.agg [y0.1, .lit (.int .i64 z)]) y0.2 := fun W' sp hy => by
   refine ⟨4, ?_⟩
   have k2 : DataW.trod enc Try.prog W' 0 sp true 3 3 [.int .i64 z] = some (.lit (.int .i64 z), []) := trod_int_mk 2 Try.underlying3 hz
   have := trod_struct2_mk (enc := enc) (w := W') (base := 0) (spare := sp) (held := true) (n := 3) (cs := [u0, .int .i64 z]) (y0 := y0) (y1 := (.lit (.int .i64 z), [])) Try.underlying50 (by rw [c_chainC]; rfl) (by
    simp only [c_slcC, List.drop, List.take]
    exact hy) (by
    simp only [c_intC, List.drop, List.take]
    exact k2)
   simpa [Value.cells] using this
  rcases fracs_in k0 with ⟨e3, rfl⟩ | ⟨a, len, cap, ts, e3, hl9, hm, hz9, rfl, hcell, hw⟩
  ·obtain rfl := (List.cons.inj e3).1
   refine ⟨_, z, [], 0, zeC, rfl, hz, fun _ h => by simp at h, bad_zero, ⟨none, 0, rfl, Nat.le_refl _, Nat.le_refl _, fun h => absurd h (by omega)⟩, fun W' sp _ _ => shut W' sp ?_⟩
   simp [DataW.trod, Try.underlying48]
  ·obtain rfl := (List.cons.inj e3).1
   obtain ⟨qs, raw, q1, q2, q3⟩ := fracs_lr hl9 hz9 hcell
   refine ⟨_, z, qs, len, raw, rfl, hz, q1, q2, q3, fun W' sp hb hsp => shut W' sp ?_⟩
   refine fracs_mk 0 hl9 hm hz9 (fun hp => ?_) (fun i hi => ?_) hw
   ·exact hsp (MemPlace.cell a.block (a.off + 0)) (MemPlace.mem_row.2 ⟨0, by omega, rfl⟩)
   ·have h6 := hcell i hi
    have hlt : a.block < W.heap.size := by
     obtain ⟨_, _, hc⟩ := World.cells?_some h6
     have h7 := hc 0 (by omega)
     have h8 := cell_lt (show W.cell? ((a.add (i * 3)).add 0) = some _ from h7)
     rw [block_add, block_add] at h8
     exact h8
    rw [cells_below hb (by rw [block_add]; exact hlt)]
    exact h6
end Go.Proofs.Ytnlhjcfpfapafaa
