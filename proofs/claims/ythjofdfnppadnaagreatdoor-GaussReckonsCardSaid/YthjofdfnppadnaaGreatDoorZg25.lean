/- Contracts, in this order: ref00.Rat, Frac; a fraction's sign: what they do. · '==' of fractions and of complex numbers of which something  · gauss, as a law calls it: its functions over numbers told by · gauss: what its functions answer, by runs: those that may no · ref00, as runs over numbers told by expressions call it. -/
import Derived.Test.YthjofdfnppadnaaGreatDoorZg24
import Derived.Laws.StructEq
namespace Go.Proofs.YthjofdfnppadnaaGreatDoor
open Go Go.RowKit
namespace Ev
set_option maxRecDepth 100000
theorem bits_sz {k n : Nat} (h : Sz k n) : Bits (64 * k) n := ⟨by
  have := h.out
  rw [show Big.M64 = 2 ^ 64 from rfl, ← Nat.pow_mul] at this
  exact this⟩
theorem bits_sm {k : Nat} {q : Rat} (h : Sm k q) (hk : k ≤ 4096) : RB q := ⟨(bits_sz h.nu).up (by omega), (bits_sz h.de).up (by omega)⟩
theorem bits_bytes {n : Nat} (h : szN n ≤ 512) : Bits 262144 n := (bits_sz (Sz.bytes h)).up (by decide)
theorem glob_lim : Tryz.prog.globals.size ≤ 100000 := Nat.le_of_ble_eq_true (by kernel_rfl)
def RatYes (w : World) (q : Rat) (e : Ending) (w' : World) : Prop := ∃ v, e = .returned (.tuple ⟨[v, .bool true]⟩) ∧ RatIn w' v q ∧ Below w.heap.size w w'
def RatNo (w : World) (e : Ending) (w' : World) : Prop := ∃ b, e = .returned (.tuple ⟨[.pointer (some ⟨b, 0, none⟩), .bool false]⟩) ∧ Below w.heap.size w w'
theorem noR_is {ρ : XEnv} {lo : Nat} {bs : List Nat} {w : World} {v : Value} (h : noR.is (wSig ρ) lo bs w v) : ∃ b, v = .tuple ⟨[.pointer (some ⟨b, 0, none⟩), .bool false]⟩ := by
  obtain ⟨vs, rfl, v1, l1, rfl, ⟨b, us, rfl, -⟩, v2, l2, rfl, h2, h3⟩ := h
  obtain rfl : l2 = [] := h3
  obtain rfl : v2 = .bool false := h2
  exact ⟨b, rfl⟩
section
variable {w : World}
theorem rat_no {s : Bool} {a b : Wf} {A : List Xs} {ρ : XEnv} {u v : Value} (hA : AllX ρ A) (hr : runF A s a b = some noR) (ha : a.holds ρ w u) (hb : b.holds ρ w v) (hG : Tryz.prog.globals.size ≤ w.heap.size) (hT : Tab w) :
    Calls Tryz.prog 64 ⟨[.agg ⟨[.bool s, u, v]⟩]⟩ w (RatNo w) := by
  refine (tellsB_calls (wFits hA) (wSums2_ok hA) hr (fun r _ _ vs us _ h => mkFrac_ok s r vs us h) rfl glob_lim (bs := []) (us := [u, v]) rfl ⟨u, [v], rfl, ha, Wf.one ha, v, [], rfl, hb, Wf.one hb, rfl⟩ hG hT).mono ?_
  rintro e w' ⟨x, rfl, hx, hb⟩
  obtain ⟨b, rfl⟩ := noR_is hx
  exact ⟨b, rfl, hb⟩
theorem rat_ok {q : Rat} (hq : Fit q) (hG : Tryz.prog.globals.size ≤ w.heap.size) (hT : Tab w) : Calls Tryz.prog 64 ⟨[.agg ⟨cel (tri q)⟩]⟩ w (RatYes w q) := by
  obtain ⟨ρ, e0, e1⟩ : ∃ ρ : XEnv, ρ.q 0 = Big.nu q ∧ ρ.q 1 = Big.de q := ⟨xenv [Big.nu q, Big.de q] (by intro n hn; simp only [List.mem_cons, List.not_mem_nil, or_false] at hn; rcases hn with rfl | rfl; exact bits_bytes hq.nu; exact bits_bytes hq.de), rfl, rfl⟩
  have hd := de_pos q
  have hg : Nat.gcd (Big.nu q) (Big.de q) = 1 := q.reduced
  have hA : AllX ρ (ratT false (decide (ρ.q 0 = 0)) false true) := by
    refine allX_cons (holds1 (not_nought (by show 0 < ρ.q 1; rw [e1]; exact hd))) (allX_cons (holds1 decide_eq_true_iff) (allX_cons (holds3 ?_) (allX_cons (holds2 ?_) (allX_nil ρ))))
    · show _ ↔ Nat.gcd (ρ.q 0) (ρ.q 1) < 1
      rw [e0, e1, hg]; simp
    · show _ ↔ Nat.gcd (ρ.q 0) (ρ.q 1) = 1
      rw [e0, e1, hg]
      exact ⟨fun _ => rfl, fun _ => rfl⟩
  have hs : (Big.ng q && decide (ρ.q 0 = 0)) = false := by
    rw [e0, Bool.and_eq_false_iff, decide_eq_false_iff_not]
    cases hn : Big.ng q with
    | false => exact .inl rfl
    | true => exact .inr fun h0 => by rw [Big.nu_zero.1 h0] at hn; cases hn
  have hr := rat_run (Big.ng q) false (decide (ρ.q 0 = 0)) false true rfl
  rw [hs] at hr
  have ha : (Wf.st xv).holds ρ w (.string (bst (Big.nu q))) := ⟨by show _ = Value.string (bst (ρ.q 0)); rw [e0], by show szN (ρ.q 0) ≤ 512; rw [e0]; exact hq.nu⟩
  have hb : (Wf.st x1).holds ρ w (.string (bst (Big.de q))) := ⟨by show _ = Value.string (bst (ρ.q 1)); rw [e1], by show szN (ρ.q 1) ≤ 512; rw [e1]; exact hq.de⟩
  refine (tellsB_calls (wFits hA) (wSums2_ok hA) hr (fun r _ _ vs us _ h => mkFrac_ok _ r vs us h) rfl glob_lim (bs := []) (us := [.string (bst (Big.nu q)), .string (bst (Big.de q))]) rfl ⟨_, _, rfl, ha, rfl, _, [], rfl, hb, rfl, rfl⟩ hG hT).mono ?_
  rintro e w' ⟨x, rfl, ⟨vs, rfl, v1, l1, rfl, h1, v2, l2, rfl, h2, h3⟩, hb⟩
  obtain rfl : l2 = [] := h3
  obtain rfl : v2 = .bool true := h2
  refine ⟨v1, rfl, ?_, hb⟩
  refine outR_is (ρ := ρ) (s := Big.ng q) (n := xv) (d := x1) (lo := w.heap.size) (bs := []) h1 ⟨by show 0 < ρ.q 1; rw [e1]; exact hd, fun hn => ?_, mk_ev e0 e1⟩ hG
  have h4 := hs
  rw [hn, Bool.true_and, decide_eq_false_iff_not] at h4
  exact Nat.pos_of_ne_zero h4
theorem rat_bad (x : Tri) (hx : BadF x) (hG : Tryz.prog.globals.size ≤ w.heap.size) (hT : Tab w) : Calls Tryz.prog 64 ⟨[.agg ⟨cel x⟩]⟩ w (RatNo w) := by
  obtain ⟨s, a, b⟩ := x
  have h0 : AllX (xenv [] (by simp)) [] := allX_nil _
  cases ha : mayB a with
  | false =>
    have fa : ∀ ρ, Wf.sb.holds ρ w (.string a) := fun ρ => ⟨a, rfl, ha⟩
    cases hb : mayB b with
    | false => exact rat_no h0 (rat_badB s) (fa _) ⟨b, rfl, hb⟩ hG hT
    | true =>
      obtain ⟨e2, z2⟩ := mayB_is hb
      generalize Big.bnum b.data.toList = d at *
      subst e2
      exact rat_no (ρ := xenv [0, d] (by intro n hn; simp only [List.mem_cons, List.not_mem_nil, or_false] at hn; rcases hn with rfl | rfl; exact bits_zero _; exact bits_bytes z2)) (allX_nil _) (rat_badN s) (fa _) ⟨rfl, z2⟩ hG hT
  | true =>
    obtain ⟨e1, z1⟩ := mayB_is ha
    generalize Big.bnum a.data.toList = n at *
    subst e1
    cases hb : mayB b with
    | false => exact rat_no (ρ := xenv [n] (by intro m hn; simp only [List.mem_cons, List.not_mem_nil, or_false] at hn; rcases hn with rfl; exact bits_bytes z1)) (allX_nil _) (rat_badD s) ⟨rfl, z1⟩ ⟨b, rfl, hb⟩ hG hT
    | true =>
      obtain ⟨e2, z2⟩ := mayB_is hb
      generalize Big.bnum b.data.toList = d at *
      subst e2
      obtain ⟨ρ, e0, e1⟩ : ∃ ρ : XEnv, ρ.q 0 = n ∧ ρ.q 1 = d := ⟨xenv [n, d] (by intro m hn; simp only [List.mem_cons, List.not_mem_nil, or_false] at hn; rcases hn with rfl | rfl; exact bits_bytes z1; exact bits_bytes z2), rfl, rfl⟩
      have hA : AllX ρ (ratT (decide (d = 0)) (decide (n = 0)) (decide (Nat.gcd n d < 1)) (decide (Nat.gcd n d = 1))) := by
        refine allX_cons (holds1 ?_) (allX_cons (holds1 ?_) (allX_cons (holds3 ?_) (allX_cons (holds2 ?_) (allX_nil ρ))))
        · rw [decide_eq_true_iff, ← e1]; rfl
        · rw [decide_eq_true_iff, ← e0]; rfl
        · rw [decide_eq_true_iff, ← e0, ← e1]; rfl
        · rw [decide_eq_true_iff, ← e0, ← e1]; rfl
      have hlt : (decide (Nat.gcd n d < 1) && !decide (d = 0)) = false := by
        rw [Bool.and_eq_false_iff, decide_eq_false_iff_not, Bool.not_eq_false', decide_eq_true_iff]
        rcases Nat.eq_zero_or_pos d with h | h
        · exact .inr h
        · have := Nat.gcd_pos_of_pos_right n h
          exact .inl (by omega)
      have hr := rat_run s (decide (d = 0)) (decide (n = 0)) (decide (Nat.gcd n d < 1)) (decide (Nat.gcd n d = 1)) hlt
      have hc : (decide (d = 0) || ((s && decide (n = 0)) || !decide (Nat.gcd n d = 1))) = true := by
        rcases Nat.eq_zero_or_pos d with d0 | d0
        · rw [decide_eq_true d0]; rfl
        · by_cases hg : Nat.gcd n d = 1
          · by_cases hs : s = true → 1 ≤ n
            · obtain ⟨p1, p2, p3⟩ := Big.parts (q := mkRat (Big.sI s n) d) (b := s) (n := n) (d := d) (by omega) hg hs (show d ≠ 0 by omega) rfl rfl
              exact absurd ⟨p1.symm, by rw [p2], by rw [p3]⟩ (hx (mkRat (Big.sI s n) d) ⟨by rw [p2]; exact z1, by rw [p3]; exact z2⟩)
            · have h1 : s = true ∧ n = 0 := by
                cases s with
                | false => exact absurd (fun h => by cases h) hs
                | true => exact ⟨rfl, by
                    rcases Nat.eq_zero_or_pos n with h | h
                    · exact h
                    · exact absurd (fun _ => h) hs⟩
              rw [h1.1, decide_eq_true h1.2]; simp
          · rw [decide_eq_false hg]; simp
      rw [hc] at hr
      exact rat_no hA hr ⟨by show _ = Value.string (bst (ρ.q 0)); rw [e0], by show szN (ρ.q 0) ≤ 512; rw [e0]; exact z1⟩ ⟨by show _ = Value.string (bst (ρ.q 1)); rw [e1], by show szN (ρ.q 1) ≤ 512; rw [e1]; exact z2⟩ hG hT
def FrcRes (w : World) (q : Rat) (e : Ending) (w' : World) : Prop :=
  (Fit q ∧ e = .returned (.tuple ⟨[.agg ⟨cel (tri q)⟩, .int .i64 0]⟩) ∨ ¬ Fit q ∧ e = .returned (.tuple ⟨[.agg ⟨[.bool false, .string ⟨#[]⟩, .string ⟨#[]⟩]⟩, .int .i64 3]⟩)) ∧ Below w.heap.size w w'
theorem frac_any {v : Value} {q : Rat} (hv : RatIn w v q) (hq : RB q) (hG : Tryz.prog.globals.size ≤ w.heap.size) (hT : Tab w) : Calls Tryz.prog 65 ⟨[v]⟩ w (FrcRes w q) := by
  obtain ⟨b, rfl, g, u, d, hb, hu, hd⟩ := hv
  obtain ⟨ρ, e0, e1⟩ : ∃ ρ : XEnv, ρ.q 0 = Big.nu q ∧ ρ.q 1 = Big.de q := ⟨xenv [Big.nu q, Big.de q] (by intro n hn; simp only [List.mem_cons, List.not_mem_nil, or_false] at hn; rcases hn with rfl | rfl; exact hq.1; exact hq.2), rfl, rfl⟩
  rw [← e0] at hu
  rw [← e1] at hd
  have hA : AllX ρ (fracT (decide (Big.nu q = 0)) (decide (512 < szN (Big.nu q))) (decide (512 < szN (Big.de q)))) := by
    refine allX_cons (holds1 ?_) (allX_cons (holds1 (not_nought (by show 0 < ρ.q 1; rw [e1]; exact de_pos q))) (allX_cons (holds4 ?_) (allX_cons (holds4 ?_) (allX_nil ρ))))
    · rw [decide_eq_true_iff, ← e0]; rfl
    · rw [decide_eq_true_iff, ← e0]; rfl
    · rw [decide_eq_true_iff, ← e1]; rfl
  refine (tellsB_calls (wFits hA) (wSums2_ok hA) (frac_run (Big.ng q) _ _ _) (fun _ _ _ _ _ hp _ => sel_ok hp _) (by kernel_rfl) glob_lim (bs := [b]) (us := []) ⟨b, [], rfl, blkR_are (n := xv) (d := x1) hb hu hd, by simp, g, rfl⟩ rfl hG hT).mono ?_
  rintro e w' ⟨x, rfl, hx, hbl⟩
  have hs : (Big.ng q && !decide (Big.nu q = 0)) = Big.ng q := by
    cases hn : Big.ng q with
    | false => rfl
    | true =>
      by_cases h0 : Big.nu q = 0
      · rw [Big.nu_zero.1 h0] at hn; cases hn
      · rw [decide_eq_false h0]; rfl
  unfold fracO at hx
  rw [hs] at hx
  cases hl : (decide (512 < szN (Big.nu q)) || decide (512 < szN (Big.de q))) with
  | true =>
    rw [hl] at hx
    obtain ⟨vs, rfl, v1, l1, rfl, ⟨us, rfl, y1, m1, rfl, k1, y2, m2, rfl, k2, y3, m3, rfl, k3, k4⟩, v2, l2, rfl, h2, h3⟩ := hx
    obtain rfl : m3 = [] := k4
    obtain rfl : l2 = [] := h3
    obtain rfl : y1 = .bool false := k1
    obtain rfl : y2 = .string ⟨#[]⟩ := k2
    obtain rfl : y3 = .string ⟨#[]⟩ := k3
    obtain rfl : v2 = .int .i64 3 := h2
    refine ⟨.inr ⟨fun hf => ?_, rfl⟩, hbl⟩
    rw [Bool.or_eq_true, decide_eq_true_iff, decide_eq_true_iff] at hl
    have h1 := hf.nu
    have h2 := hf.de
    omega
  | false =>
    rw [hl] at hx
    obtain ⟨vs, rfl, v1, l1, rfl, ⟨us, rfl, y1, m1, rfl, k1, y2, m2, rfl, k2, y3, m3, rfl, k3, k4⟩, v2, l2, rfl, h2, h3⟩ := hx
    obtain rfl : m3 = [] := k4
    obtain rfl : l2 = [] := h3
    obtain rfl : y1 = .bool (Big.ng q) := k1
    obtain rfl : y2 = .string (bst (ρ.q 0)) := k2
    obtain rfl : y3 = .string (bst (ρ.q 1)) := k3
    obtain rfl : v2 = .int .i64 0 := h2
    rw [Bool.or_eq_false_iff, decide_eq_false_iff_not, decide_eq_false_iff_not] at hl
    exact ⟨.inl ⟨⟨by omega, by omega⟩, by rw [e0, e1]; rfl⟩, hbl⟩
theorem rsign_any {v : Value} {q : Rat} (hv : RatIn w v q) (hq : RB q) (hG : Tryz.prog.globals.size ≤ w.heap.size) (hT : Tab w) :
    Calls Tryz.prog 69 ⟨[v]⟩ w fun e w' => e = .returned (.int .i64 (cond (decide (Big.nu q = 0)) 0 (cond (Big.ng q) (-1) 1))) ∧ Below w.heap.size w w' := by
  obtain ⟨b, rfl, g, u, d, hb, hu, hd⟩ := hv
  obtain ⟨ρ, e0, e1⟩ : ∃ ρ : XEnv, ρ.q 0 = Big.nu q ∧ ρ.q 1 = Big.de q := ⟨xenv [Big.nu q, Big.de q] (by intro n hn; simp only [List.mem_cons, List.not_mem_nil, or_false] at hn; rcases hn with rfl | rfl; exact hq.1; exact hq.2), rfl, rfl⟩
  rw [← e0] at hu
  rw [← e1] at hd
  have hA : AllX ρ [⟨1, xv, x0, decide (Big.nu q = 0)⟩] := allX_cons (holds1 (by rw [decide_eq_true_iff, ← e0]; rfl)) (allX_nil ρ)
  refine (tellsB_calls (wFits hA) (wSums_ok hA) (rsign_run (Big.ng q) _) (fun _ _ _ _ _ hp _ => sel_ok hp _) (by kernel_rfl) glob_lim (bs := [b]) (us := []) ⟨b, [], rfl, blkR_are (n := xv) (d := x1) hb hu hd, by simp, g, rfl⟩ rfl hG hT).mono ?_
  rintro e w' ⟨x, rfl, hx, hbl⟩
  exact ⟨by rw [show x = _ from hx], hbl⟩
end
end Ev
end Go.Proofs.YthjofdfnppadnaaGreatDoor
namespace Go.Proofs.YthjofdfnppadnaaGreatDoor
open Go Go.RowKit
namespace Ev
def tbeq (x y : Tri) : Bool := x.1 == y.1 && (x.2.1.toList == y.2.1.toList && x.2.2.toList == y.2.2.toList)
theorem tbeq_iff {x y : Tri} : tbeq x y = true ↔ x = y := by
  obtain ⟨a, s, t⟩ := x
  obtain ⟨b, u, v⟩ := y
  have key : ∀ p q : ByteArray, (p.toList == q.toList) = true ↔ p = q := fun p q => by
    rw [beq_iff_eq, ByteArray.toList_eq, ByteArray.toList_eq]
    obtain ⟨⟨p⟩⟩ := p
    obtain ⟨⟨q⟩⟩ := q
    simp
  simp only [tbeq, Bool.and_eq_true, key, beq_iff_eq, Prod.mk.injEq]
theorem eqIn_frac (d : Nat) (x y : Tri) (w : World) : (Op.equalIn (d + 2) 23 (.agg ⟨cel x⟩) (.agg ⟨cel y⟩)).run Tryz.prog w = .ok (tbeq x y) w := by
  have hS : Tryz.prog.underlying 23 = some (.struct (Tryz.prog.fieldsOf 23)) := by kernel_rfl
  have hp : Tryz.prog.stoodInHeld 23 = false := by kernel_rfl
  obtain ⟨a, s, t⟩ := x
  obtain ⟨b, u, v⟩ := y
  rw [show d + 2 = (d + 1) + 1 from rfl, run_equalIn_struct w (d + 1) 23 _ _ hS hp]
  simp only [Program.fieldsOf, Tryz.underlying23, cel, tbeq]
  generalize hx : (s.toList == u.toList) = b1
  generalize hy : (t.toList == v.toList) = b2
  cases a <;> cases b <;> cases b1 <;> cases b2 <;> go_simp <;> simp [hx, hy]
theorem eqIn_gauss (d : Nat) (x y z u : Tri) (w : World) : (Op.equalIn (d + 3) 47 (.agg ⟨cel x ++ cel y⟩) (.agg ⟨cel z ++ cel u⟩)).run Tryz.prog w = .ok (tbeq x z && tbeq y u) w := by
  have hS : Tryz.prog.underlying 47 = some (.struct (Tryz.prog.fieldsOf 47)) := by kernel_rfl
  have hp : Tryz.prog.stoodInHeld 47 = false := by kernel_rfl
  obtain ⟨x1, x2, x3⟩ := x
  obtain ⟨y1, y2, y3⟩ := y
  obtain ⟨z1, z2, z3⟩ := z
  obtain ⟨u1, u2, u3⟩ := u
  have e1 := fun (a b : Bool) (w : World) => run_equalIn_bool' (P := Tryz.prog) w d 4 a b Tryz.underlying4
  have e2 := fun (a b : ByteArray) (w : World) => run_equalIn_string (P := Tryz.prog) w d 9 a b Tryz.underlying9
  rw [show d + 3 = (d + 2) + 1 from rfl, run_equalIn_struct w (d + 2) 47 _ _ hS hp]
  simp only [Program.fieldsOf, Tryz.underlying47]
  go_simp
  simp only [cel, tbeq, e1, e2]
  generalize h1 : (x1 == z1) = b1
  generalize h2 : (x2.toList == z2.toList) = b2
  generalize h3 : (x3.toList == z3.toList) = b3
  generalize h4 : (y1 == u1) = b4
  generalize h5 : (y2.toList == u2.toList) = b5
  generalize h6 : (y3.toList == u3.toList) = b6
  cases b1 <;> cases b2 <;> cases b3 <;> cases b4 <;> cases b5 <;> cases b6 <;> simp only [beq_iff_eq, beq_eq_false_iff_ne, ne_eq] at h1 h2 h3 h4 h5 h6 <;> simp [e1, e2, h1, h2, h3, h4, h5, h6]
noncomputable def three (a b : Option Bool) : Option Bool := match a with
  | some x => cond x b (some false)
  | none => match b with
    | some y => cond y none (some false)
    | none => none
theorem three_ok {a b : Option Bool} {x y z : Bool} (ha : ∀ t, a = some t → t = x) (hb : ∀ t, b = some t → t = y) (h : three a b = some z) : z = (x && y) := by
  cases a with
  | some p =>
    have := ha p rfl
    subst this
    cases p with
    | true => exact hb z h
    | false => cases h; rfl
  | none =>
    cases b with
    | none => cases h
    | some q =>
      have := hb q rfl
      subst this
      cases q with
      | true => cases h
      | false => cases h; simp
noncomputable def sameO (A : List As) (l m : List Value) (o p : Option Qe) : Option Bool := match o with
  | some e => match p with
    | some f => cond (e.beq f) (some true) (ask A 2 e f)
    | none => match fitB A e with
      | some t => cond t (some false) none
      | none => none
  | none => match p with
    | some f => match fitB A f with
      | some t => cond t (some false) none
      | none => none
    | none => cond (eqL eq1 l m && plainL plain l) (some true) none
noncomputable def eq3 (A : List As) (l m : List Value) : M Sy (Option Bool) := bind (frcV l) fun o => bind (frcV m) fun p => ret (sameO A l m o p)
noncomputable def ansEq (op : BinOp) (b : Option Bool) : M Sy Nxt := match b with
  | some b => match op with
    | .eql => val (.bool b)
    | .neq => val (.bool (!b))
    | _ => fail
  | none => fail
noncomputable def eqCells (A : List As) (op : BinOp) (t : TypeId) (l m : List Value) : M Sy Nxt :=
  cond (Nat.beq t 23) (bind (eq3 A l m) (ansEq op))
    (cond (Nat.beq t 47) (bind (eq3 A (l.take 3) (m.take 3)) fun b => bind (eq3 A (l.drop 3) (m.drop 3)) fun c => ansEq op (three b c)) fail)
noncomputable def eqHard (A : List As) (o : Oper) (vs : List Value) : M Sy Nxt := match o.op with
  | .binOp op t _ _ _ => match vs with
    | [u, v] => match u with
      | .agg cs => match v with
        | .agg ds => eqCells A op t cs.toList ds.toList
        | _ => fail
      | _ => fail
    | _ => fail
  | _ => fail
theorem loc_eq3 (A : List As) (l m : List Value) : Loc (eq3 A l m) := loc_bind (loc_frcV _) fun _ => loc_bind (loc_frcV _) fun _ => loc_ret _
theorem loc_ansEq (op : BinOp) (b : Option Bool) : Loc (ansEq op b) := by
  unfold ansEq
  (repeat' split) <;> first | exact loc_val _ | exact loc_fail
theorem loc_eqHard (A : List As) (o : Oper) (vs : List Value) : Loc (eqHard A o vs) := by
  unfold eqHard
  (repeat' split) <;> first
    | exact loc_fail
    | exact loc_cond (loc_bind (loc_eq3 _ _ _) fun _ => loc_ansEq _ _) (loc_cond (loc_bind (loc_eq3 _ _ _) fun _ => loc_bind (loc_eq3 _ _ _) fun _ => loc_ansEq _ _) loc_fail)
theorem frc_tri {ρ : Env} {l : List Value} {o : Option Qe} (h : FrcIs ρ l o) : ∃ x : Tri, l = cel x ∧ (∀ e, o = some e → x = tri (e.ev ρ.q)) ∧ (o = none → BadF x) := by
  cases o with
  | some e =>
    obtain rfl : l = _ := h
    exact ⟨tri (e.ev ρ.q), rfl, fun e' he => by cases he; rfl, fun h => (by cases h)⟩
  | none =>
    obtain ⟨x, hx, rfl⟩ := h
    exact ⟨x, rfl, fun e' he => (by cases he), fun _ => hx⟩
section
variable {ρ : Env} {A : List As} {h h' : Tr (Blk Sy)} {nx nx' : Nat} {R W : List Nat} {r : Ren} {w : World}
theorem cel_inj {x y : Tri} (h : cel x = cel y) : x = y := by
  obtain ⟨a, s, t⟩ := x
  obtain ⟨b, u, v⟩ := y
  simp only [cel, List.cons.injEq, Value.bool.injEq, Value.string.injEq, and_true] at h
  obtain ⟨rfl, rfl, rfl⟩ := h
  rfl
theorem eq3_ok (hA : AllH ρ A) {l m l' m' : List Value} {b : Option Bool} (e : eq3 A l m h nx = .ok b h' nx' R W) (hl : VsR r l l') (hm : VsR r m m') (hM : Mod (symSig ρ) r h.get w) :
    h' = h ∧ nx' = nx ∧ W = [] ∧ ∃ x y : Tri, l' = cel x ∧ m' = cel y ∧ ∀ t, b = some t → t = tbeq x y := by
  obtain ⟨o, h1, nx1, R1, W1, R2, W2, q1, q2, rfl, rfl⟩ := bind_ok e
  obtain ⟨rfl, rfl, rfl, i1⟩ := frcV_ok q1 hl hM
  obtain ⟨p, h2, nx2, R3, W3, R4, W4, q3, q4, rfl, rfl⟩ := bind_ok q2
  obtain ⟨rfl, rfl, rfl, i2⟩ := frcV_ok q3 hm hM
  obtain ⟨rfl, rfl, rfl, rfl⟩ := ret_ok q4
  obtain ⟨x, rfl, x1, x2⟩ := frc_tri i1
  obtain ⟨y, rfl, y1, y2⟩ := frc_tri i2
  refine ⟨rfl, rfl, by simp, x, y, rfl, rfl, fun t ht => ?_⟩
  have neg : x ≠ y → tbeq x y = false := fun hn => by
    cases hb : tbeq x y with
    | false => rfl
    | true => exact absurd (tbeq_iff.1 hb) hn
  unfold sameO at ht
  cases o with
  | some e0 =>
    have hx := x1 e0 rfl
    cases p with
    | some f =>
      have hy := y1 f rfl
      simp only at ht
      cases hb : e0.beq f with
      | true =>
        rw [hb] at ht
        cases ht
        rw [hx, hy, Qe.beq_ok _ _ hb]
        exact (tbeq_iff.2 rfl).symm
      | false =>
        rw [hb] at ht
        have hs := ask_same hA ht
        cases t with
        | true => rw [hx, hy, hs.1 rfl]; exact (tbeq_iff.2 rfl).symm
        | false =>
          refine (neg fun h => ?_).symm
          rw [hx, hy] at h
          have := hs.2 (tri_inj h)
          cases this
    | none =>
      simp only at ht
      cases hf : fitB A e0 with
      | none => rw [hf] at ht; cases ht
      | some u =>
        rw [hf] at ht
        cases u with
        | false => cases ht
        | true =>
          cases ht
          refine (neg fun h => ?_).symm
          have hbad := y2 rfl
          rw [← h, hx] at hbad
          exact not_bad ((fitB_ok hA hf).1 rfl) hbad
  | none =>
    cases p with
    | some f =>
      have hy := y1 f rfl
      simp only at ht
      cases hf : fitB A f with
      | none => rw [hf] at ht; cases ht
      | some u =>
        rw [hf] at ht
        cases u with
        | false => cases ht
        | true =>
          cases ht
          refine (neg fun h => ?_).symm
          have hbad := x2 rfl
          rw [h, hy] at hbad
          exact not_bad ((fitB_ok hA hf).1 rfl) hbad
    | none =>
      simp only at ht
      cases hk : (eqL eq1 l m && plainL plain l) with
      | false => rw [hk] at ht; cases ht
      | true =>
        rw [hk] at ht
        cases ht
        simp only [Bool.and_eq_true] at hk
        have e1 := eqL_ok eq1_ok hk.1
        subst e1
        have e2 := hl.eq_of_plain hk.2
        have e3 := hm.eq_of_plain hk.2
        rw [← e2] at e3
        rw [cel_inj e3]
        exact (tbeq_iff.2 rfl).symm
theorem run_eqs (op : BinOp) (t : TypeId) (x y : Operand) (cs ds : Array Value) (b : Bool) (v : Value) (hm : Tryz.prog.eqGuardType Tryz.prog.depth t = false) (he : (Op.equalIn 10000 t (.agg cs) (.agg ds)).run Tryz.prog w = .ok b w) (hv : (op = .eql ∧ v = .bool b) ∨ (op = .neq ∧ v = .bool (!b))) :
    (do eqGuard op t x y (.agg cs) (.agg ds); binOp op t (.agg cs) (.agg ds) : Sem Value).run Tryz.prog w = .ok v w := by
  have hg := run_eqGuard_agg (P := Tryz.prog) w op t x y cs ds hm
  have he' : (Op.equal t (.agg cs) (.agg ds)).run Tryz.prog w = .ok b w := he
  rcases hv with ⟨rfl, rfl⟩ | ⟨rfl, rfl⟩
  · rw [Sem.run_bind, hg]
    simp [binOp, he']
  · rw [Sem.run_bind, hg]
    simp [binOp, he']
theorem ansEq_ok {op : BinOp} {b : Option Bool} {x : Nxt} (e : ansEq op b h nx = .ok x h' nx' R W) : h' = h ∧ nx' = nx ∧ W = [] ∧ ∃ t v, b = some t ∧ x = .val v ∧ ((op = .eql ∧ v = .bool t) ∨ (op = .neq ∧ v = .bool (!t))) := by
  unfold ansEq at e
  cases b with
  | none => cases (show (fail : M Sy Nxt) h nx = _ from e)
  | some t =>
    cases op with
    | eql =>
      obtain ⟨rfl, rfl, rfl, rfl⟩ := val_ok (show (val (.bool t) : M Sy Nxt) h nx = _ from e)
      exact ⟨rfl, rfl, rfl, t, _, rfl, rfl, .inl ⟨rfl, rfl⟩⟩
    | neq =>
      obtain ⟨rfl, rfl, rfl, rfl⟩ := val_ok (show (val (.bool (!t)) : M Sy Nxt) h nx = _ from e)
      exact ⟨rfl, rfl, rfl, t, _, rfl, rfl, .inr ⟨rfl, rfl⟩⟩
    | _ => cases (show (fail : M Sy Nxt) h nx = _ from e)
theorem eqHard_ok (hA : AllH ρ A) {C : Cfg Sy} (hC : C.hard = eqHard A) : HardOK (symSig ρ) Tryz.prog C := by
  intro o vs h nx x h' nx' R W hs e r w ρo hM hN hv
  rw [hC] at e
  unfold eqHard at e
  cases hop : o.op with
  | binOp op t p q yt =>
    rw [hop] at e
    simp only at e
    have hops : o.op.operands.toList.map ρo = [ρo p, ρo q] := by rw [hop]; rfl
    rw [hops] at hv
    rcases vs with _ | ⟨u, _ | ⟨v, _ | ⟨z, l⟩⟩⟩ <;> first | (cases (show (fail : M Sy Nxt) h nx = _ from e); done) | skip
    cases hv with
    | cons hu hv => cases hv with
      | cons hv hn =>
        cases u <;> first | (cases (show (fail : M Sy Nxt) h nx = _ from e); done) | skip
        rename_i cs
        cases v <;> first | (cases (show (fail : M Sy Nxt) h nx = _ from e); done) | skip
        rename_i ds
        obtain ⟨cl⟩ := cs
        obtain ⟨dl⟩ := ds
        obtain ⟨cl', hc1, hc2⟩ := vr_agg hu
        obtain ⟨dl', hd1, hd2⟩ := vr_agg hv
        simp only at e
        have fin : ∀ {b : Bool} {v : Value}, (Op.equalIn 10000 t (.agg ⟨cl'⟩) (.agg ⟨dl'⟩)).run Tryz.prog w = .ok b w → Tryz.prog.eqGuardType Tryz.prog.depth t = false → ((op = .eql ∧ v = .bool b) ∨ (op = .neq ∧ v = .bool (!b))) →
            (execOp ρo o).run Tryz.prog w = .ok (.value v) w := fun he hm hv => by
          have := run_eqs op t p q ⟨cl'⟩ ⟨dl'⟩ _ _ hm he hv
          simp only [execOp, hop, hc1, hd1]
          rw [Sem.run_bind, this]
          rfl
        unfold eqCells at e
        cases ht : Nat.beq t 23 with
        | true =>
          rw [ht] at e
          simp only [cond_true] at e
          have htt := Nat.eq_of_beq_eq_true ht
          obtain ⟨b, h1, nx1, R1, W1, R2, W2, e1, e2, rfl, rfl⟩ := bind_ok e
          obtain ⟨rfl, rfl, rfl, x1, y1, rfl, rfl, hb⟩ := eq3_ok hA e1 hc2 hd2 hM
          obtain ⟨rfl, rfl, rfl, t1, v1, rfl, rfl, hv1⟩ := ansEq_ok e2
          have := hb t1 rfl
          subst this
          refine ⟨Nat.le_refl _, v1, w, r, fin (by rw [htt]; exact eqIn_frac 9998 x1 y1 w) (by rw [htt]; kernel_rfl) hv1, ?_, by simpa using Ext.refl _ _ hM⟩
          rcases hv1 with ⟨_, rfl⟩ | ⟨_, rfl⟩ <;> exact .same rfl
        | false =>
          rw [ht] at e
          simp only [cond_false] at e
          cases ht2 : Nat.beq t 47 with
          | false => rw [ht2] at e; cases (show (fail : M Sy Nxt) h nx = _ from e)
          | true =>
            rw [ht2] at e
            simp only [cond_true] at e
            have htt := Nat.eq_of_beq_eq_true ht2
            obtain ⟨b, h1, nx1, R1, W1, R2, W2, e1, e2, rfl, rfl⟩ := bind_ok e
            obtain ⟨rfl, rfl, rfl, x1, y1, hx1, hy1, hb⟩ := eq3_ok hA e1 (hc2.take 3) (hd2.take 3) hM
            obtain ⟨c, h2, nx2, R3, W3, R4, W4, e3, e4, rfl, rfl⟩ := bind_ok e2
            obtain ⟨rfl, rfl, rfl, x2, y2, hx2, hy2, hc⟩ := eq3_ok hA e3 (hc2.drop 3) (hd2.drop 3) hM
            obtain ⟨rfl, rfl, rfl, t1, v1, ht1, rfl, hv1⟩ := ansEq_ok e4
            have := three_ok hb hc ht1
            subst this
            have z1 : cl' = cel x1 ++ cel x2 := by rw [← hx1, ← hx2, List.take_append_drop]
            have z2 : dl' = cel y1 ++ cel y2 := by rw [← hy1, ← hy2, List.take_append_drop]
            refine ⟨Nat.le_refl _, v1, w, r, fin (by rw [htt, z1, z2]; exact eqIn_gauss 9997 x1 x2 y1 y2 w) (by rw [htt]; kernel_rfl) hv1, ?_, by simpa using Ext.refl _ _ hM⟩
            rcases hv1 with ⟨_, rfl⟩ | ⟨_, rfl⟩ <;> exact .same rfl
  | _ => rw [hop] at e; cases (show (fail : M Sy Nxt) h nx = _ from e)
end
end Ev
end Go.Proofs.YthjofdfnppadnaaGreatDoor
namespace Go.Proofs.YthjofdfnppadnaaGreatDoor
open Go Go.RowKit
namespace Ev
structure Ps where
  a : Qe
  b : Qe
  t : Bool
def Ps.holds (ρ : Nat → Rat) (x : Ps) : Prop := x.t = true ↔ (Fit (x.a.ev ρ) ∧ Fit (x.b.ev ρ))
def AllP (ρ : Env) (B : List Ps) : Prop := ∀ x ∈ B, x.holds ρ.q
noncomputable def askP (B : List Ps) (a b : Qe) : Option Bool := List.rec (motive := fun _ => Option Bool) none
  (fun x _ ih => Bool.rec (motive := fun _ => Option Bool) ih (some x.t) (a.beq x.a && b.beq x.b)) B
theorem askP_ok {ρ : Env} {a b : Qe} {t : Bool} : ∀ {B : List Ps}, AllP ρ B → askP B a b = some t → (t = true ↔ (Fit (a.ev ρ.q) ∧ Fit (b.ev ρ.q)))
  | [], _, h => by cases h
  | x :: B, hB, h => by
    have h' : (Bool.rec (motive := fun _ => Option Bool) (askP B a b) (some x.t) (a.beq x.a && b.beq x.b) : Option Bool) = some t := h
    cases hb : (a.beq x.a && b.beq x.b) with
    | false => rw [hb] at h'; exact askP_ok (fun y hy => hB y (List.mem_cons_of_mem _ hy)) h'
    | true =>
      rw [hb] at h'
      simp only [Bool.and_eq_true] at hb
      have hx := hB x List.mem_cons_self
      rw [Qe.beq_ok _ _ hb.1, Qe.beq_ok _ _ hb.2, ← Option.some.inj h']
      exact hx
noncomputable def inP (B : List Ps) (a : Qe) : Bool := List.rec (motive := fun _ => Bool) false (fun x _ ih => (x.t && (a.beq x.a || a.beq x.b)) || ih) B
theorem inP_ok {ρ : Env} {a : Qe} : ∀ {B : List Ps}, AllP ρ B → inP B a = true → Fit (a.ev ρ.q)
  | [], _, h => by cases h
  | x :: B, hB, h => by
    have h' : ((x.t && (a.beq x.a || a.beq x.b)) || inP B a) = true := h
    simp only [Bool.or_eq_true, Bool.and_eq_true] at h'
    rcases h' with ⟨h1, h2⟩ | h1
    · have hx := (hB x List.mem_cons_self).1 h1
      rcases h2 with h2 | h2
      · rw [Qe.beq_ok _ _ h2]; exact hx.1
      · rw [Qe.beq_ok _ _ h2]; exact hx.2
    · exact inP_ok (fun y hy => hB y (List.mem_cons_of_mem _ hy)) h1
noncomputable def fitT (B : List Ps) (e : Qe) : Bool := match e with
  | .v i => Nat.ble i 99
  | .c _ n d => fitC n d
  | e => inP B e
theorem fitT_ok {ρ : Env} {B : List Ps} (hB : AllP ρ B) {e : Qe} (h : fitT B e = true) : Fit (e.ev ρ.q) := by
  unfold fitT at h
  cases e with
  | v i => exact ρ.fit i (Nat.lt_succ_of_le (Nat.le_of_ble_eq_true h))
  | c s n d => exact fit_c h
  | _ => exact inP_ok hB h
noncomputable def both (o p : Option Qe) : Option (Qe × Qe) := match o with
  | some e => match p with
    | some f => some (e, f)
    | none => none
  | none => none
noncomputable def gss (l : List Value) : M Sy (Option (Qe × Qe)) := bind (frcV (l.take 3)) fun o => bind (frcV (l.drop 3)) fun p => ret (both o p)
theorem loc_gss (l : List Value) : Loc (gss l) := loc_bind (loc_frcV _) fun _ => loc_bind (loc_frcV _) fun _ => loc_ret _
def GssIs (ρ : Env) (l' : List Value) : Option (Qe × Qe) → Prop
  | some p => l' = cel (tri (p.1.ev ρ.q)) ++ cel (tri (p.2.ev ρ.q))
  | none => ∃ x y : Tri, (BadF x ∨ BadF y) ∧ l' = cel x ++ cel y
section
variable {ρ : Env} {A : List As} {B : List Ps} {h h' : Tr (Blk Sy)} {nx nx' : Nat} {R W : List Nat} {r : Ren} {w : World}
theorem gss_ok {l l' : List Value} {o : Option (Qe × Qe)} (e : gss l h nx = .ok o h' nx' R W) (hv : VsR r l l') (hM : Mod (symSig ρ) r h.get w) : h' = h ∧ nx' = nx ∧ W = [] ∧ GssIs ρ l' o := by
  obtain ⟨o1, h1, nx1, R1, W1, R2, W2, q1, q2, rfl, rfl⟩ := bind_ok e
  obtain ⟨rfl, rfl, rfl, i1⟩ := frcV_ok q1 (hv.take 3) hM
  obtain ⟨p, h2, nx2, R3, W3, R4, W4, q3, q4, rfl, rfl⟩ := bind_ok q2
  obtain ⟨rfl, rfl, rfl, i2⟩ := frcV_ok q3 (hv.drop 3) hM
  obtain ⟨rfl, rfl, rfl, rfl⟩ := ret_ok q4
  obtain ⟨x, hx, x1, x2⟩ := frc_tri i1
  obtain ⟨y, hy, y1, y2⟩ := frc_tri i2
  have hl : l' = cel x ++ cel y := by rw [← hx, ← hy, List.take_append_drop]
  refine ⟨rfl, rfl, by simp, ?_⟩
  cases o1 with
  | none => exact ⟨x, y, .inl (x2 rfl), hl⟩
  | some e1 =>
    cases p with
    | none => exact ⟨x, y, .inr (y2 rfl), hl⟩
    | some f1 =>
      show l' = _
      rw [hl, x1 e1 rfl, y1 f1 rfl]
noncomputable def errG (n : Int) : Value := .tuple ⟨[gZ, .int .i64 n]⟩
noncomputable def ansG (B : List Ps) (p : Qe × Qe) : M Sy Value := match askP B p.1 p.2 with
  | some t => cond t (bind (newFacts (frs p.1 ++ frs p.2)) fun vs => ret (.tuple ⟨[.agg ⟨vs⟩, .int .i64 0]⟩)) (ret (errG 3))
  | none => fail
theorem loc_ansG (B : List Ps) (p : Qe × Qe) : Loc (ansG B p) := by
  unfold ansG
  split
  · exact loc_cond (loc_bind (loc_newFacts _) fun _ => loc_ret _) (loc_ret _)
  · exact loc_fail
theorem frs_holds (w : World) (e : Qe) : HoldsL (symSig ρ) w (frs e) (cel (tri (e.ev ρ.q))) := frac_holds (w := w) e
theorem ansG_ok (hB : AllP ρ B) {p : Qe × Qe} {f : FuncId} {args' : List Value} {v : Value} (e : ansG B p h nx = .ok v h' nx' R W) (hM : Mod (symSig ρ) r h.get w) (hN : New r nx nx') (c : Calls Tryz.prog f ⟨args'⟩ w (GRes w (p.1.ev ρ.q) (p.2.ev ρ.q))) : GoesS ρ f args' r w nx nx' W h'.get v := by
  unfold ansG at e
  cases ha : askP B p.1 p.2 with
  | none => rw [ha] at e; exact absurd e (by simp [fail])
  | some t =>
    rw [ha] at e
    have hf := askP_ok hB ha
    cases t with
    | true =>
      simp only [cond_true] at e
      exact goes_aggT rfl e hM hN (c.mono fun _ w' hh => by
        obtain ⟨h1 | h1, h2⟩ := hh
        · exact ⟨_, h1.2, holdsL_append (frs_holds w' p.1) (frs_holds w' p.2), h2⟩
        · exact absurd (hf.1 rfl) h1.1)
    | false =>
      simp only [cond_false] at e
      exact goes_pl e rfl hM (c.mono fun _ w' hh => by
        obtain ⟨h1 | h1, h2⟩ := hh
        · have := hf.2 h1.1
          cases this
        · exact ⟨h1.2, h2⟩)
noncomputable def gans2 (B : List Ps) (k : Qe × Qe → Qe × Qe → Qe × Qe) (x y : Option (Qe × Qe)) : M Sy Value := match x with
  | some x => match y with
    | some y => cond ((fitT B x.1 && fitT B x.2) && (fitT B y.1 && fitT B y.2)) (ansG B (k x y)) fail
    | none => ret (errG 2)
  | none => ret (errG 2)
noncomputable def gop2 (g : Option (Qe × Qe) → Option (Qe × Qe) → M Sy Value) (args : List Value) : Option (M Sy Value) := match args with
  | [a, b] => match a with
    | .agg cs => match b with
      | .agg ds => some (bind (gss cs.toList) fun x => bind (gss ds.toList) fun y => g x y)
      | _ => none
    | _ => none
  | _ => none
theorem gop2_ok {f : FuncId} {g : Option (Qe × Qe) → Option (Qe × Qe) → M Sy Value} (hl : ∀ x y, Loc (g x y))
    (hk : ∀ x y (h : Tr (Blk Sy)) nx v h' nx' R W, g x y h nx = .ok v h' nx' R W → ∀ r w l m, GssIs ρ l x → GssIs ρ m y → Mod (symSig ρ) r h.get w → New r nx nx' → GoesS ρ f [.agg ⟨l⟩, .agg ⟨m⟩] r w nx nx' W h'.get v) :
    SumF (symSig ρ) Tryz.prog f (gop2 g) := by
  intro args m e
  unfold gop2 at e
  rcases args with _ | ⟨a, _ | ⟨b, _ | ⟨c, l⟩⟩⟩ <;> simp only [reduceCtorEq] at e
  cases a <;> simp only [reduceCtorEq] at e
  rename_i cs
  cases b <;> simp only [reduceCtorEq, Option.some.injEq] at e
  rename_i ds
  subst e
  refine ⟨loc_bind (loc_gss _) fun x => loc_bind (loc_gss _) fun y => hl x y, ?_⟩
  intro h nx v h' nx' R W e r w args' ha hM hN
  cases ha with
  | cons ha1 ha2 =>
    cases ha2 with
    | cons hb1 hb2 =>
      cases hb2
      obtain ⟨cl⟩ := cs
      obtain ⟨dl⟩ := ds
      obtain ⟨cl', rfl, hc⟩ := vr_agg ha1
      obtain ⟨dl', rfl, hd⟩ := vr_agg hb1
      obtain ⟨x, h1, nx1, R1, W1, R2, W2, e1, e2, rfl, rfl⟩ := bind_ok e
      obtain ⟨rfl, rfl, rfl, hx⟩ := gss_ok e1 hc hM
      obtain ⟨y, h2, nx2, R3, W3, R4, W4, e3, e4, rfl, rfl⟩ := bind_ok e2
      obtain ⟨rfl, rfl, rfl, hy⟩ := gss_ok e3 hd hM
      simpa [GoesS] using hk x y _ _ _ _ _ _ _ e4 r w _ _ hx hy hM hN
theorem mod_G {F : Type} {S : Sig F} {g : Nat → Option (Blk F)} (hM : Mod S r g w) (hG : S.G = Tryz.prog.globals.size) : Tryz.prog.globals.size ≤ w.heap.size := by
  rcases Nat.eq_zero_or_pos Tryz.prog.globals.size with h0 | h0
  · omega
  · have := hM.lt _ _ (hM.glob (Tryz.prog.globals.size - 1) (by rw [hG]; omega))
    omega
theorem loc_gans2 (k : Qe × Qe → Qe × Qe → Qe × Qe) (x y : Option (Qe × Qe)) : Loc (gans2 B k x y) := by
  unfold gans2
  (repeat' split) <;> first | exact loc_ret _ | exact loc_cond (loc_ansG _ _) loc_fail
theorem gsum2 (hB : AllP ρ B) {f : FuncId} {k : Qe × Qe → Qe × Qe → Qe × Qe}
    (hok : ∀ (w : World) (x y : Qe × Qe), Fit (x.1.ev ρ.q) → Fit (x.2.ev ρ.q) → Fit (y.1.ev ρ.q) → Fit (y.2.ev ρ.q) → Tryz.prog.globals.size ≤ w.heap.size → Tab w → Calls Tryz.prog f ⟨[gV (x.1.ev ρ.q) (x.2.ev ρ.q), gV (y.1.ev ρ.q) (y.2.ev ρ.q)]⟩ w (GRes w ((k x y).1.ev ρ.q) ((k x y).2.ev ρ.q)))
    (hbad : ∀ (w : World) (x y z u : Tri), (BadF x ∨ BadF y ∨ BadF z ∨ BadF u) → Tryz.prog.globals.size ≤ w.heap.size → Tab w → Calls Tryz.prog f ⟨[.agg ⟨cel x ++ cel y⟩, .agg ⟨cel z ++ cel u⟩]⟩ w (GErr w 2)) :
    SumF (symSig ρ) Tryz.prog f (gop2 (gans2 B k)) :=
  gop2_ok (fun x y => loc_gans2 k x y) fun x y h nx v h' nx' R W e r w l m hx hy hM hN => by
    have hG := mod_G hM rfl
    have hT : Tab w := hM.base
    unfold gans2 at e
    cases x with
    | none =>
      obtain ⟨x1, x2, hb, rfl⟩ := hx
      cases y with
      | none =>
        obtain ⟨y1, y2, hb2, rfl⟩ := hy
        exact goes_pl e rfl hM (hbad w _ _ _ _ (by rcases hb with hb | hb; exact .inl hb; exact .inr (.inl hb)) hG hT)
      | some y =>
        obtain rfl : m = _ := hy
        exact goes_pl e rfl hM (hbad w _ _ _ _ (by rcases hb with hb | hb; exact .inl hb; exact .inr (.inl hb)) hG hT)
    | some x =>
      obtain rfl : l = _ := hx
      cases y with
      | none =>
        obtain ⟨y1, y2, hb, rfl⟩ := hy
        exact goes_pl e rfl hM (hbad w _ _ _ _ (by rcases hb with hb | hb; exact .inr (.inr (.inl hb)); exact .inr (.inr (.inr hb))) hG hT)
      | some y =>
        obtain rfl : m = _ := hy
        simp only at e
        obtain ⟨hf, e⟩ := cond_ok e
        simp only [Bool.and_eq_true] at hf
        exact ansG_ok hB e hM hN (hok w x y (fitT_ok hB hf.1.1) (fitT_ok hB hf.1.2) (fitT_ok hB hf.2.1) (fitT_ok hB hf.2.2) hG hT)
end
end Ev
end Go.Proofs.YthjofdfnppadnaaGreatDoor
namespace Go.Proofs.YthjofdfnppadnaaGreatDoor
open Go Go.RowKit
namespace Ev
set_option maxRecDepth 100000
theorem add_bad : ∀ a b c d : Bool, (a && b && c && d) = false → run2 [] (inp4 a b c d) 43 = some (noD 2) := by
  intro a b c d
  cases a <;> cases b <;> cases c <;> cases d <;> intro h <;> first | (cases h; done) | kernel_rfl
theorem sub_bad : ∀ a b c d : Bool, (a && b && c && d) = false → run2 [] (inp4 a b c d) 45 = some (noD 2) := by
  intro a b c d
  cases a <;> cases b <;> cases c <;> cases d <;> intro h <;> first | (cases h; done) | kernel_rfl
theorem mul_bad : ∀ a b c d : Bool, (a && b && c && d) = false → run2 [] (inp4 a b c d) 44 = some (noD 2) := by
  intro a b c d
  cases a <;> cases b <;> cases c <;> cases d <;> intro h <;> first | (cases h; done) | kernel_rfl
noncomputable def kAdd (x y : Qe × Qe) : Qe × Qe := (.add x.1 y.1, .add x.2 y.2)
noncomputable def kSub (x y : Qe × Qe) : Qe × Qe := (.sub x.1 y.1, .sub x.2 y.2)
noncomputable def kMul (x y : Qe × Qe) : Qe × Qe := (.sub (.mul x.1 y.1) (.mul x.2 y.2), .add (.mul x.1 y.2) (.mul x.2 y.1))
section
variable {ρ : Env} {A : List As} {B : List Ps}
theorem lsum_add (hB : AllP ρ B) : SumF (symSig ρ) Tryz.prog 43 (gop2 (gans2 B kAdd)) :=
  gsum2 hB (fun w x y h1 h2 h3 h4 hG hT => ga2 add_run w h1 h2 h3 h4 hG hT) (fun w x y z u h hG hT => ga2_bad add_bad w x y z u h hG hT)
theorem lsum_sub (hB : AllP ρ B) : SumF (symSig ρ) Tryz.prog 45 (gop2 (gans2 B kSub)) :=
  gsum2 hB (fun w x y h1 h2 h3 h4 hG hT => ga2 sub_run w h1 h2 h3 h4 hG hT) (fun w x y z u h hG hT => ga2_bad sub_bad w x y z u h hG hT)
theorem lsum_mul (hB : AllP ρ B) : SumF (symSig ρ) Tryz.prog 44 (gop2 (gans2 B kMul)) :=
  gsum2 hB (fun w x y h1 h2 h3 h4 hG hT => ga2 mul_run w h1 h2 h3 h4 hG hT) (fun w x y z u h hG hT => ga2_bad mul_bad w x y z u h hG hT)
end
noncomputable def withF (l : List Fact) (s : Sums Sy) : Sums Sy := fun f args => match look f args l with
  | some v => some (ret v)
  | none => s f args
theorem withF_ok {ρ : Env} {l : List Fact} (hl : ∀ x ∈ l, x.ok) {s : Sums Sy} (hs : SumOK (symSig ρ) Tryz.prog s) : SumOK (symSig ρ) Tryz.prog (withF l s) := by
  refine ⟨fun f args m e => ?_, fun f args m e h nx v h' nx' R W hr r w args' ha hM hN => ?_⟩
  · unfold withF at e
    cases hk : look f args l with
    | none => rw [hk] at e; exact hs.loc f args m e
    | some v => rw [hk] at e; cases e; exact loc_ret _
  · unfold withF at e
    cases hk : look f args l with
    | none => rw [hk] at e; exact hs.run f args m e h nx v h' nx' R W hr r w args' ha hM hN
    | some u =>
      rw [hk] at e
      cases e
      obtain ⟨x, hx, rfl, rfl, rfl⟩ := look_ok hk
      obtain ⟨h1, h2, h3⟩ := hl x hx
      obtain rfl : args' = x.args := VsR_eq h1 ha
      exact goes_pl hr.ok h2 hM (h3 w (mod_G hM rfl) hM.base)
noncomputable def works2 : Fact := ⟨41, [], .bool true⟩
theorem works2_ok : works2.ok := Fact.of_run (n := 40) (by kernel_rfl) rfl
end Ev
end Go.Proofs.YthjofdfnppadnaaGreatDoor
namespace Go.Proofs.YthjofdfnppadnaaGreatDoor
open Go Go.RowKit
namespace Ev
set_option maxRecDepth 100000
noncomputable def smallE (e : Qe) : Bool := Nat.ble e.bnd 4096
noncomputable def getRt : Sy → Option Qe | .rt e => some e | _ => none
section
variable {ρ : Env} {A : List As} {h h' : Tr (Blk Sy)} {nx nx' : Nat} {R W : List Nat} {r : Ren} {w : World}
theorem smallE_ok {e : Qe} (h : smallE e = true) : RB (e.ev ρ.q) := bits_sm (Qe.sm ρ.fit ρ.big e) (Nat.le_of_ble_eq_true h)
theorem rt_of {f : Sy} {e : Qe} {v : Value} (hg : getRt f = some e) (h : f.holds ρ w v) : RatIn w v (e.ev ρ.q) := by cases f <;> simp [getRt] at hg; subst hg; exact h
theorem sgoes_fact {f0 : Sy} {f : FuncId} {args' : List Value} {v : Value} (e : (newFact f0 : M Sy Value) h nx = .ok v h' nx' R W) (hM : Mod (symSig ρ) r h.get w) (hN : New r nx nx')
    (c : Calls Tryz.prog f ⟨args'⟩ w fun e w' => ∃ v', e = .returned v' ∧ f0.holds ρ w' v' ∧ Below w.heap.size w w') : GoesS ρ f args' r w nx nx' W h'.get v := by
  obtain ⟨i, h1, nx1, R1, W1, R2, W2, e1, e2, rfl, rfl⟩ := bind_ok e
  obtain ⟨rfl, rfl, rfl, rfl⟩ := ret_ok e2
  unfold fresh at e1
  cases e1
  refine c.mono ?_
  rintro en w' ⟨v', rfl, hv, hb⟩
  obtain ⟨r', hX, hr⟩ := ext_fact (S := symSig ρ) (f := f0) hM hb hN hv (Sy.one hv)
  exact ⟨v', r', rfl, .opq hr (Sy.one hv), by simpa using hX.congr fun n => .inr (Tr.get_set _ _ _ _)⟩
theorem sgoes_factT {f0 : Sy} {f : FuncId} {args' : List Value} {v u : Value} (hp : plain u = true) (e : (bind (newFact f0) fun p => ret (.tuple ⟨[p, u]⟩) : M Sy Value) h nx = .ok v h' nx' R W) (hM : Mod (symSig ρ) r h.get w) (hN : New r nx nx')
    (c : Calls Tryz.prog f ⟨args'⟩ w fun e w' => ∃ v', e = .returned (.tuple ⟨[v', u]⟩) ∧ f0.holds ρ w' v' ∧ Below w.heap.size w w') : GoesS ρ f args' r w nx nx' W h'.get v := by
  obtain ⟨x, h0, nx0, R0, W0, R00, W00, e0, e00, rfl, rfl⟩ := bind_ok e
  obtain ⟨rfl, rfl, rfl, rfl⟩ := ret_ok e00
  obtain ⟨i, h1, nx1, R1, W1, R2, W2, e1, e2, rfl, rfl⟩ := bind_ok e0
  obtain ⟨rfl, rfl, rfl, rfl⟩ := ret_ok e2
  unfold fresh at e1
  cases e1
  refine c.mono ?_
  rintro en w' ⟨v', rfl, hv, hb⟩
  obtain ⟨r', hX, hr⟩ := ext_fact (S := symSig ρ) (f := f0) hM hb hN hv (Sy.one hv)
  exact ⟨_, r', rfl, .tuple (.cons (.opq hr (Sy.one hv)) (.cons (.same hp) .nil)), by simpa using hX.congr fun n => .inr (Tr.get_set _ _ _ _)⟩
noncomputable def ratS (A : List As) (args : List Value) : Option (M Sy Value) := match args with
  | [a] => match a with
    | .agg cs => some (bind (frcV cs.toList) fun o => match o with
      | some e => match fitB A e with
        | some t => cond t (bind (newFact (.rt e)) fun p => ret (.tuple ⟨[p, .bool true]⟩)) fail
        | none => fail
      | none => bind (newFact .jk) fun p => ret (.tuple ⟨[p, .bool false]⟩))
    | _ => none
  | _ => none
noncomputable def fracS (A : List As) (args : List Value) : Option (M Sy Value) := match args with
  | [a] => some (bind (knw getRt a) fun e => cond (smallE e) (match fitB A e with
    | some t => cond t (bind (newFacts (frs e)) fun vs => ret (.tuple ⟨[.agg ⟨vs⟩, .int .i64 0]⟩)) (ret (.tuple ⟨[.agg ⟨[.bool false, .string ⟨#[]⟩, .string ⟨#[]⟩]⟩, .int .i64 3]⟩))
    | none => fail) fail)
  | _ => none
noncomputable def signS (A : List As) (args : List Value) : Option (M Sy Value) := match args with
  | [a] => some (bind (knw getRt a) fun e => cond (smallE e) (match ask A 1 e z0 with
    | some t => cond t (ret (.int .i64 0)) (match ask A 3 e z0 with
      | some g => ret (.int .i64 (cond g (-1) 1))
      | none => fail)
    | none => fail) fail)
  | _ => none
noncomputable def rt2 (k : Qe → Qe → Qe) (ok : Qe → Bool) (args : List Value) : Option (M Sy Value) := match args with
  | [a, b] => some (bind (knw getRt a) fun e => bind (knw getRt b) fun f => cond (ok f && (smallE e && smallE f)) (newFact (.rt (k e f))) fail)
  | _ => none
noncomputable def notZ (A : List As) (e : Qe) : Bool := match ask A 1 e z0 with
  | some t => !t
  | none => false
theorem notZ_ok (hA : AllH ρ A) {e : Qe} (h : notZ A e = true) : e.ev ρ.q ≠ 0 := by
  unfold notZ at h
  cases ha : ask A 1 e z0 with
  | none => rw [ha] at h; cases h
  | some t =>
    rw [ha] at h
    intro h0
    have := (ask_nought hA ha).2 h0
    subst this
    cases h
theorem s_rat (hA : AllH ρ A) : SumF (symSig ρ) Tryz.prog 64 (ratS A) := by
  intro args m e
  unfold ratS at e
  rcases args with _ | ⟨a, _ | ⟨c, l⟩⟩ <;> simp only [reduceCtorEq] at e
  cases a <;> simp only [reduceCtorEq, Option.some.injEq] at e
  rename_i cs
  subst e
  refine ⟨loc_bind (loc_frcV _) fun o => ?_, ?_⟩
  · split
    · split
      · exact loc_cond (loc_bind (loc_newFact _) fun _ => loc_ret _) loc_fail
      · exact loc_fail
    · exact loc_bind (loc_newFact _) fun _ => loc_ret _
  intro h nx v h' nx' R W e r w args' ha hM hN
  cases ha with
  | cons ha hb =>
  cases hb
  obtain ⟨cl⟩ := cs
  obtain ⟨cl', rfl, hc⟩ := vr_agg ha
  obtain ⟨o, h1, nx1, R1, W1, R2, W2, e1, e2, rfl, rfl⟩ := bind_ok e
  obtain ⟨rfl, rfl, rfl, hx⟩ := frcV_ok e1 hc hM
  have hG := mod_G hM rfl
  have hT : Tab w := hM.base
  cases o with
  | none =>
    obtain ⟨x, hbad, rfl⟩ := hx
    have := sgoes_factT (u := .bool false) rfl e2 hM hN (f := 64) (args' := [.agg ⟨cel x⟩]) ((rat_bad x hbad hG hT).mono fun e w' hh => by
      obtain ⟨b, rfl, hb⟩ := hh
      exact ⟨_, rfl, ⟨_, rfl⟩, hb⟩)
    exact this
  | some e0 =>
    obtain rfl : cl' = _ := hx
    simp only at e2
    cases hf : fitB A e0 with
    | none => rw [hf] at e2; cases (show (fail : M Sy Value) h1 nx1 = _ from e2)
    | some t =>
      rw [hf] at e2
      obtain ⟨rfl, e3⟩ := cond_ok e2
      have := sgoes_factT (u := .bool true) rfl e3 hM hN (f := 64) (args' := [.agg ⟨cel (tri (e0.ev ρ.q))⟩]) ((rat_ok ((fitB_ok hA hf).1 rfl) hG hT).mono fun e w' hh => by
        obtain ⟨x, rfl, hx, hb⟩ := hh
        exact ⟨_, rfl, hx, hb⟩)
      exact this
theorem s_frac (hA : AllH ρ A) : SumF (symSig ρ) Tryz.prog 65 (fracS A) := by
  intro args m e
  unfold fracS at e
  rcases args with _ | ⟨a, _ | ⟨c, l⟩⟩ <;> simp only [reduceCtorEq, Option.some.injEq] at e
  subst e
  refine ⟨loc_bind (loc_knw _ _) fun o => loc_cond ?_ loc_fail, ?_⟩
  · split
    · exact loc_cond (loc_bind (loc_newFacts _) fun _ => loc_ret _) (loc_ret _)
    · exact loc_fail
  intro h nx v h' nx' R W e r w args' ha hM hN
  cases ha with
  | cons ha hb =>
  cases hb
  obtain ⟨e0, h1, nx1, R1, W1, R2, W2, e1, e2, rfl, rfl⟩ := bind_ok e
  obtain ⟨rfl, rfl, rfl, f, hf, hx⟩ := knw_ok e1 ha hM
  obtain ⟨hs, e3⟩ := cond_ok e2
  have c := frac_any (rt_of hf hx) (smallE_ok (ρ := ρ) hs) (mod_G hM rfl) hM.base
  cases hfit : fitB A e0 with
  | none => rw [hfit] at e3; cases (show (fail : M Sy Value) h1 nx1 = _ from e3)
  | some t =>
    rw [hfit] at e3
    have ht := fitB_ok hA hfit
    cases t with
    | true =>
      simpa using goes_aggT rfl (show (bind (newFacts (frs e0)) fun vs => ret (.tuple ⟨[.agg ⟨vs⟩, .int .i64 0]⟩) : M Sy Value) h1 nx1 = .ok v h' nx' R2 W2 from e3) hM hN (c.mono fun _ w' hh => by
        obtain ⟨k | k, hb⟩ := hh
        · exact ⟨_, k.2, frac_holds (w := w') e0, hb⟩
        · exact absurd (ht.1 rfl) k.1)
    | false =>
      simpa using goes_pl (show (ret (.tuple ⟨[.agg ⟨[.bool false, .string ⟨#[]⟩, .string ⟨#[]⟩]⟩, .int .i64 3]⟩) : M Sy Value) h1 nx1 = .ok v h' nx' R2 W2 from e3) rfl hM (c.mono fun _ w' hh => by
        obtain ⟨k | k, hb⟩ := hh
        · have := ht.2 k.1
          cases this
        · exact ⟨k.2, hb⟩)
theorem s_sign (hA : AllH ρ A) : SumF (symSig ρ) Tryz.prog 69 (signS A) := by
  intro args m e
  unfold signS at e
  rcases args with _ | ⟨a, _ | ⟨c, l⟩⟩ <;> simp only [reduceCtorEq, Option.some.injEq] at e
  subst e
  refine ⟨loc_bind (loc_knw _ _) fun o => loc_cond ?_ loc_fail, ?_⟩
  · split
    · refine loc_cond (loc_ret _) ?_
      split
      · exact loc_ret _
      · exact loc_fail
    · exact loc_fail
  intro h nx v h' nx' R W e r w args' ha hM hN
  cases ha with
  | cons ha hb =>
  cases hb
  obtain ⟨e0, h1, nx1, R1, W1, R2, W2, e1, e2, rfl, rfl⟩ := bind_ok e
  obtain ⟨rfl, rfl, rfl, f, hf, hx⟩ := knw_ok e1 ha hM
  obtain ⟨hs, e3⟩ := cond_ok e2
  have c := rsign_any (rt_of hf hx) (smallE_ok (ρ := ρ) hs) (mod_G hM rfl) hM.base
  cases hz : ask A 1 e0 z0 with
  | none => rw [hz] at e3; cases (show (fail : M Sy Value) h1 nx1 = _ from e3)
  | some t =>
    rw [hz] at e3
    have ht := ask_nought hA hz
    cases t with
    | true =>
      rw [decide_eq_true (Big.nu_zero.2 (ht.1 rfl))] at c
      simpa using goes_pl (show (ret (.int .i64 0) : M Sy Value) h1 nx1 = .ok v h' nx' R2 W2 from e3) rfl hM c
    | false =>
      rw [decide_eq_false (fun h => by have := ht.2 (Big.nu_zero.1 h); cases this)] at c
      simp only [cond_false] at e3
      cases hg : ask A 3 e0 z0 with
      | none => rw [hg] at e3; cases (show (fail : M Sy Value) h1 nx1 = _ from e3)
      | some g =>
        rw [hg] at e3
        rw [← ask_below hA hg] at c
        simpa using goes_pl (show (ret (.int .i64 (cond g (-1) 1)) : M Sy Value) h1 nx1 = .ok v h' nx' R2 W2 from e3) (by cases g <;> rfl) hM c
theorem rt2_ok {f : FuncId} {k : Qe → Qe → Qe} {ok : Qe → Bool} (hk : ∀ (w : World) (x y : Value) (e g : Qe), ok g = true → RatIn w x (e.ev ρ.q) → RatIn w y (g.ev ρ.q) → RB (e.ev ρ.q) → RB (g.ev ρ.q) → Tryz.prog.globals.size ≤ w.heap.size → Tab w → Calls Tryz.prog f ⟨[x, y]⟩ w (RRes w ((k e g).ev ρ.q))) :
    SumF (symSig ρ) Tryz.prog f (rt2 k ok) := by
  intro args m e
  unfold rt2 at e
  rcases args with _ | ⟨a, _ | ⟨b, _ | ⟨c, l⟩⟩⟩ <;> simp only [reduceCtorEq, Option.some.injEq] at e
  subst e
  refine ⟨loc_bind (loc_knw _ _) fun o => loc_bind (loc_knw _ _) fun o => loc_cond (loc_newFact _) loc_fail, ?_⟩
  intro h nx v h' nx' R W e r w args' ha hM hN
  cases ha with
  | cons ha hb =>
  cases hb with
  | cons hb hc =>
  cases hc
  obtain ⟨e0, h1, nx1, R1, W1, R2, W2, e1, e2, rfl, rfl⟩ := bind_ok e
  obtain ⟨rfl, rfl, rfl, f1, hf1, hx⟩ := knw_ok e1 ha hM
  obtain ⟨g0, h2, nx2, R3, W3, R4, W4, e3, e4, rfl, rfl⟩ := bind_ok e2
  obtain ⟨rfl, rfl, rfl, f2, hf2, hy⟩ := knw_ok e3 hb hM
  obtain ⟨hs, e5⟩ := cond_ok e4
  simp only [Bool.and_eq_true] at hs
  simpa [GoesS] using sgoes_fact e5 hM hN ((hk w _ _ e0 g0 hs.1 (rt_of hf1 hx) (rt_of hf2 hy) (smallE_ok hs.2.1) (smallE_ok hs.2.2) (mod_G hM rfl) hM.base).mono fun e w' hh => by
    obtain ⟨x, rfl, hx, hb⟩ := hh
    exact ⟨_, rfl, hx, hb⟩)
noncomputable def refList (A : List As) : List (Nat × (List Value → Option (M Sy Value))) := [
  (64, ratS A), (65, fracS A), (69, signS A),
  (66, rt2 .add fun _ => true), (67, rt2 .sub fun _ => true), (68, rt2 .mul fun _ => true), (70, rt2 .quo (notZ A))]
theorem refList_ok (hA : AllH ρ A) : ∀ x ∈ refList A, SumF (symSig ρ) Tryz.prog x.1 x.2 := by
  intro x hx
  simp only [refList, List.mem_cons, List.not_mem_nil, or_false] at hx
  rcases hx with rfl | rfl | rfl | rfl | rfl | rfl | rfl
  · exact s_rat hA
  · exact s_frac hA
  · exact s_sign hA
  · exact rt2_ok fun w x y e g _ hx hy bx by_ hG hT => radd_any hx hy bx by_ hG hT
  · exact rt2_ok fun w x y e g _ hx hy bx by_ hG hT => rsub_any hx hy bx by_ hG hT
  · exact rt2_ok fun w x y e g _ hx hy bx by_ hG hT => rmul_any hx hy bx by_ hG hT
  · exact rt2_ok fun w x y e g hg hx hy bx by_ hG hT => rquo_any hx hy bx by_ (notZ_ok hA hg) hG hT
end
end Ev
end Go.Proofs.YthjofdfnppadnaaGreatDoor
