/- Contracts, in this order: ratio's and ref01's Check, Of, Cmp, Sign, Floor, Int64, Text -/
import Derived.Test.YthjofdfnppadnaaGreatDoorZt25
import Derived.Test.YthjofdfnppadnaaGreatDoorZt26
import Derived.Test.YthjofdfnppadnaaGreatDoorZt27
import Derived.Test.YthjofdfnppadnaaGreatDoorZt28
namespace Go.Proofs.YthjofdfnppadnaaGreatDoor
open Go Go.RowKit
namespace Ev
namespace Tl
set_option maxRecDepth 100000
theorem rb_of {q : Rat} (hq : Fit q) : RB q := ⟨bits_bytes hq.nu, bits_bytes hq.de⟩
theorem check_both (x : Tri) : ∃ n, Both 24 25 [.agg ⟨cel x⟩] (.int .i64 n) := by
  obtain ⟨i, -⟩ := tlin x
  cases ha : i.a with
  | true => exact ⟨0, tlb1 i (by rw [ha]; exact tl_check_g) fun w u h => tlI_is h⟩
  | false => exact ⟨2, tlb1 i (by rw [ha]; exact tl_check_b) fun w u h => tlI_is h⟩
set_option maxHeartbeats 4000000 in
theorem refSign_any (w : World) (q : Rat) (hq : Fit q) (hG : Tryz.prog.globals.size ≤ w.heap.size) (hT : Tab w) :
    Calls Tryz.prog 27 #[.agg #[.bool (Big.ng q), .string (bst (Big.nu q)), .string (bst (Big.de q))]] w fun e w' => e = .returned (.int .i64 (sgQ q)) ∧ Below w.heap.size w w' := by
  have HR := Lib.hid (fun W (h : Below w.heap.size w W) => rat_ok (w := W) hq (Nat.le_trans hG h.size) (hT.keep h))
  have HA := Lib.hid (box1_below w (.cells #[.bool (Big.ng q), .string (bst (Big.nu q)), .string (bst (Big.de q))] 23))
  have HQ := Lib.hid (rb_of hq)
  have HG := Lib.hid (And.intro hG hT)
  have HS := Lib.hid (show (cond (decide (Big.nu q = 0)) 0 (cond (Big.ng q) (-1) 1)) = sgQ q by
    unfold sgQ
    cases hn : Big.ng q with
    | true =>
      have h0 : ¬ Big.nu q = 0 := fun h0 => by rw [Big.nu_zero.1 h0] at hn; cases hn
      rw [decide_eq_false h0]; rfl
    | false =>
      by_cases h0 : Big.nu q = 0
      · rw [decide_eq_true h0, if_pos h0]; rfl
      · rw [decide_eq_false h0, if_neg h0]; rfl)
  clear hG hT hq
  go_enter Tryz.func27, Tryz.ntmps27
  go_wp2_with fail
  refine (HR.out _ HA.out).mono ?_
  generalize w.alloc (.cells #[.bool (Big.ng q), .string (bst (Big.nu q)), .string (bst (Big.de q))] 23) = wa at *
  rintro e w1 ⟨v, rfl, hv, hw0⟩
  have hw1 := HA.out.trans (hw0.mono HA.out.size)
  have HB1 := Lib.hid hw1
  have HC := Lib.hid (rsign_any hv HQ.out (Nat.le_trans HG.out.1 hw1.size) (HG.out.2.keep hw1))
  rw [HS.out] at HC
  obtain ⟨b, rfl, -⟩ := hv
  clear hw0 hw1 HR HS
  go_wp2_with fail
  refine HC.out.mono ?_
  rintro e w2 ⟨rfl, hw2⟩
  have HB2 := Lib.hid (HB1.out.trans (hw2.mono HB1.out.size))
  clear hw2 HC
  go_wp2_with fail
  go_ret
  exact ⟨rfl, HB2.out⟩
theorem sign_both (x : Tri) : ∃ n, Both 26 27 [.agg ⟨cel x⟩] (.int .i64 n) := by
  obtain ⟨i, -⟩ := tlin x
  cases ha : i.a with
  | true =>
    obtain ⟨q, hq, rfl⟩ := i.g ha
    exact ⟨sgQ q, fun w hG hT => ⟨raSign_any w q hq, refSign_any w q hq hG hT⟩⟩
  | false => exact ⟨0, tlb1 i (by rw [ha]; exact tl_sign_b) fun w u h => tlI_is h⟩
set_option maxHeartbeats 4000000 in
theorem refText_ok (w : World) (q : Rat) (hq : Fit q) (hG : Tryz.prog.globals.size ≤ w.heap.size) (hT : Tab w) :
    Calls Tryz.prog 31 #[.agg #[.bool (Big.ng q), .string (bst (Big.nu q)), .string (bst (Big.de q))]] w (Ret2 w (sOf (textD q)) 0) := by
  have HR := Lib.hid (fun W (h : Below w.heap.size w W) => rat_ok (w := W) hq (Nat.le_trans hG h.size) (hT.keep h))
  have HA := Lib.hid (box1_below w (.cells #[.bool (Big.ng q), .string (bst (Big.nu q)), .string (bst (Big.de q))] 23))
  have HQ := Lib.hid (rb_of hq)
  have HG := Lib.hid (And.intro hG hT)
  clear hG hT hq
  go_enter Tryz.func31, Tryz.ntmps31
  go_wp2_with fail
  refine (HR.out _ HA.out).mono ?_
  generalize w.alloc (.cells #[.bool (Big.ng q), .string (bst (Big.nu q)), .string (bst (Big.de q))] 23) = wa at *
  rintro e w1 ⟨v, rfl, hv, hw0⟩
  have hw1 := HA.out.trans (hw0.mono HA.out.size)
  have HB1 := Lib.hid hw1
  have HC := Lib.hid (refText_any w1 v q hv HQ.out (Nat.le_trans HG.out.1 hw1.size) (HG.out.2.keep hw1))
  obtain ⟨b, rfl, -⟩ := hv
  clear hw0 hw1 HR
  go_wp2_with fail
  refine HC.out.mono ?_
  rintro e w2 ⟨rfl, hw2⟩
  have HB2 := Lib.hid (HB1.out.trans (hw2.mono HB1.out.size))
  clear hw2 HC
  go_wp2_with fail
  go_ret2
  exact ⟨rfl, HB2.out⟩
theorem txQ_eq (q : Rat) : txQ q = textD q := by
  unfold txQ textD R.strD
  by_cases h0 : Big.nu q = 0
  · have hn : Big.ng q = false := by cases hn : Big.ng q with
      | false => rfl
      | true => rw [Big.nu_zero.1 h0] at hn; cases hn
    rw [if_pos h0, hn, h0, Lib.decDigits_one (by omega)]
    have hd : ¬ Big.de q = 0 := by have := de_pos q; omega
    rw [if_neg hd]
    simp
  · have hd : ¬ Big.de q = 0 := by have := de_pos q; omega
    rw [if_neg h0, if_neg hd]
    simp
theorem text_both (x : Tri) : ∃ s n, Both 12 31 [.agg ⟨cel x⟩] (.tuple ⟨[.string s, .int .i64 n]⟩) := by
  obtain ⟨i, -⟩ := tlin x
  cases ha : i.a with
  | true =>
    obtain ⟨q, hq, rfl⟩ := i.g ha
    refine ⟨⟨(textD q).toArray⟩, 0, fun w hG hT => ⟨?_, refText_ok w q hq hG hT⟩⟩
    have h := raText_any w q hq hT
    rw [txQ_eq] at h
    exact h
  | false => exact ⟨⟨#[]⟩, 2, tlb1 i (by rw [ha]; exact tl_text_b) fun w u h => tlT_is h⟩
theorem fl_fit {q : Rat} (hq : Fit q) : Fit (Big.flQ q) := by
  obtain ⟨-, f2, f3⟩ := Big.flQ_parts q
  have hd := de_pos q
  refine ⟨?_, by rw [f3]; decide⟩
  refine szN_lt ?_ hq.nu
  rw [f2]
  have h1 := Nat.div_add_mod (Big.nu q) (Big.de q)
  have h2 := Nat.le_mul_of_pos_left (Big.nu q / Big.de q) hd
  split <;> omega
theorem floor_both (x : Tri) : ∃ t n, Both 14 29 [.agg ⟨cel x⟩] (.tuple ⟨[.agg ⟨cel t⟩, .int .i64 n]⟩) := by
  obtain ⟨i, -⟩ := tlin x
  cases ha : i.a with
  | true =>
    obtain ⟨q, hq, rfl⟩ := i.g ha
    exact ⟨tri (Big.flQ q), 0, fun w hG hT => ⟨raFloor_fit w q hq (fl_fit hq), refFloor_ok hq hG hT⟩⟩
  | false => exact ⟨(false, ⟨#[]⟩, ⟨#[]⟩), 2, tlb1 i (by rw [ha]; exact tl_floor_b) fun w u h => tlZ_is h⟩
set_option maxRecDepth 100000 in
set_option maxHeartbeats 2000000 in
theorem int64_mid (w : World) (q : Rat) (hq : Fit q) (hde : Big.de q = 1) (hw : Big.nu q < Big.M64) (hm : ¬ (Big.nu q : Int) ≤ 9223372036854775807) (he : ((Big.nu q : Int) == 9223372036854775808) = false) :
    Calls Tryz.prog 17 #[.agg #[.bool (Big.ng q), .string (bst (Big.nu q)), .string (bst (Big.de q))]] w (Int2 w (0, false)) := by
  have HS := Lib.hid hq.sm
  have Hhde := Lib.hid hde
  clear hde
  have Hhw := Lib.hid hw
  clear hw
  have Hhe := Lib.hid he
  clear he
  have HRD := Lib.hid (fun W g (h : AtL W g 23 #[.bool (Big.ng q), .string (bst (Big.nu q)), .string (bst (Big.de q))]) => read1_any W g q h hq)
  have HB1 := Lib.hid (below_alloc (box1_below w (.cells #[.bool (Big.ng q), .string (bst (Big.nu q)), .string (bst (Big.de q))] 23)) (Nat.le_refl _) (.cells #[.bool (Big.ng q), .string (bst (Big.nu q)), .string (bst (Big.de q))] 23))
  have HN1 := AtL.new (w.alloc (.cells #[.bool (Big.ng q), .string (bst (Big.nu q)), .string (bst (Big.de q))] 23)) 23 #[.bool (Big.ng q), .string (bst (Big.nu q)), .string (bst (Big.de q))]
  rw [alloc_size] at HN1
  have HN1 := Lib.hid HN1
  clear hq
  go_enter Tryz.func17, Tryz.ntmps17
  go_wp2_with fail
  refine (HRD.out _ _ HN1.out).mono ?_
  generalize (w.alloc (.cells #[.bool (Big.ng q), .string (bst (Big.nu q)), .string (bst (Big.de q))] 23)).alloc (.cells #[.bool (Big.ng q), .string (bst (Big.nu q)), .string (bst (Big.de q))] 23) = wa at *
  rintro e w1 ⟨v1, rfl, ⟨g, a, b, rfl, hat, hnq⟩, hw1⟩
  have HB2 := Lib.hid (HB1.out.trans (hw1.mono HB1.out.size))
  obtain ⟨A, l, cc, B, m, dd, e1, -, -⟩ := hnq.is_agg
  simp only [Value.agg.injEq] at e1
  have e1a : a = .slice A l cc := by have := congrArg (fun z : Array Value => z[1]?) e1; simpa using this
  have e1b : b = .slice B m dd := by have := congrArg (fun z : Array Value => z[2]?) e1; simpa using this
  subst e1a e1b
  have HAT := Lib.hid hat; have HNQ := Lib.hid hnq
  clear e1 hat hnq hw1 HB1 HN1 HRD
  have c0 := HAT.out.cell 0 rfl; have c1 := HAT.out.cell 1 rfl; have c2 := HAT.out.cell 2 rfl
  have KX := Lib.hid (fun W (h : Below w1.heap.size w1 W) => And.intro ((HAT.out.keep h).cell 0 rfl) (And.intro ((HAT.out.keep h).cell 1 rfl) ((HAT.out.keep h).cell 2 rfl)))
  have CS := Lib.hid (fun W (h : Below w1.heap.size w1 W) => textB h (exSign_any W _ q (HNQ.out.keep h)))
  have CW := Lib.hid (fun W (h : Below w1.heap.size w1 W) => textB h (exIsWhole_any W _ q (HNQ.out.keep h)))
  have CN := Lib.hid (fun W (h : Below w1.heap.size w1 W) => lift2 h (exNum_any W _ q (HNQ.out.keep h)))
  rw [decide_eq_true Hhde.out] at CW
  have CD := Lib.hid (fun W v (h : NatIn W v (Big.nu q)) (hb : Below w1.heap.size w1 W) => textB hb (word_num W v _ h Hhw.out))
  generalize sgQ q = sg at *
  have he := Hhe.out
  have hbr := Below.refl w1.heap.size w1
  go_wp2_with (first
    | (go_at_call 55; refine (CW.out _ (by assumption)).mono ?_; rintro e w2 ⟨rfl, hw2⟩; have c0 := (KX.out _ hw2).1; have c1 := (KX.out _ hw2).2.1; have c2 := (KX.out _ hw2).2.2)
    | (go_at_call 52; refine (CN.out _ (by assumption)).mono ?_; rintro e w3 ⟨v3, rfl, hv3, hw3, -⟩; have c0 := (KX.out _ hw3).1; have c1 := (KX.out _ hw3).2.1; have c2 := (KX.out _ hw3).2.2)
    | (go_at_call 63; refine (CD.out _ _ hv3 (by assumption)).mono ?_; rintro e w4 ⟨rfl, hw4⟩; have c0 := (KX.out _ hw4).1; have c1 := (KX.out _ hw4).2.1; have c2 := (KX.out _ hw4).2.2)
    | (go_at_call 54; refine (CS.out _ (by assumption)).mono ?_; rintro e w5 ⟨rfl, hw5⟩; have c0 := (KX.out _ hw5).1; have c1 := (KX.out _ hw5).2.1; have c2 := (KX.out _ hw5).2.2)
    | fail)
  go_ret2
  refine ⟨by rfl, ?_⟩
  first
    | exact HB2.out.trans (hw5.mono HB2.out.size)
    | exact HB2.out.trans (hw4.mono HB2.out.size)
    | exact HB2.out.trans (hw3.mono HB2.out.size)
    | exact HB2.out.trans (hw2.mono HB2.out.size)
theorem int64_ok (q : Rat) (hq : Fit q) (w : World) : Calls Tryz.prog 17 #[.agg #[.bool (Big.ng q), .string (bst (Big.nu q)), .string (bst (Big.de q))]] w (Int2 w (i64Q q)) := by
  unfold i64Q
  by_cases hde : Big.de q = 1
  · have hM : Big.M64 = 18446744073709551616 := rfl
    by_cases hf : R.fits64 (Big.ng q) (Big.nu q) = true
    · rw [if_pos ⟨hde, hf⟩]
      have hl := R.fits_lt hf
      cases hn : Big.ng q with
      | true =>
        by_cases hm : (Big.nu q : Int) ≤ 9223372036854775807
        · have h := int64_neg w q hq hde (by omega) hm hn
          rw [hn] at h
          exact h
        · have h := int64_least w q hq hde (by omega) hm (by rw [beq_iff_eq]; omega) hn
          rw [hn] at h
          have e : Big.nu q = 9223372036854775808 := by omega
          rw [e]
          rw [e] at h
          exact h
      | false =>
        have := hl.1 hn
        have h := int64_pos w q hq hde (by omega) (by omega) (by rw [hn]; decide)
        rw [hn] at h
        exact h
    · rw [if_neg fun h => hf h.2]
      by_cases hb : Big.nu q < Big.M64
      · have hm : ¬ (Big.nu q : Int) ≤ 9223372036854775807 := fun h => hf (by unfold R.fits64; rw [decide_eq_true (by omega)]; rfl)
        by_cases he : Big.nu q = 9223372036854775808
        · refine int64_over w q hq hde hb hm (by rw [beq_iff_eq]; omega) fun hn => hf ?_
          unfold R.fits64
          rw [hn, decide_eq_true he]; simp
        · exact int64_mid w q hq hde hb hm (by rw [beq_eq_false_iff_ne]; omega)
      · exact int64_great w q hq hde hb
  · rw [if_neg fun h => hde h.1]
    exact int64_frac w q hq hde
theorem int64_both (x : Tri) : ∃ n b, Both 17 30 [.agg ⟨cel x⟩] (.tuple ⟨[.int .i64 n, .bool b]⟩) := by
  obtain ⟨i, -⟩ := tlin x
  cases ha : i.a with
  | true =>
    obtain ⟨q, hq, rfl⟩ := i.g ha
    exact ⟨(i64Q q).1, (i64Q q).2, fun w hG hT => ⟨int64_ok q hq w, refInt64_ok hq hG hT⟩⟩
  | false => exact ⟨0, false, tlb1 i (by rw [ha]; exact tl_int64_b) fun w u h => tlT_is h⟩
set_option maxHeartbeats 4000000 in
theorem refCmp_any (w : World) (q r : Rat) (hq : Fit q) (hr : Fit r) (hG : Tryz.prog.globals.size ≤ w.heap.size) (hT : Tab w) :
    Calls Tryz.prog 28 #[.agg #[.bool (Big.ng q), .string (bst (Big.nu q)), .string (bst (Big.de q))], .agg #[.bool (Big.ng r), .string (bst (Big.nu r)), .string (bst (Big.de r))]] w (Ret2 w (.int .i64 (Big.cmpQ q r)) 0) := by
  have HR := Lib.hid (fun W (h : Below w.heap.size w W) => rat_ok (w := W) hq (Nat.le_trans hG h.size) (hT.keep h))
  have HR2 := Lib.hid (fun W (h : Below w.heap.size w W) => rat_ok (w := W) hr (Nat.le_trans hG h.size) (hT.keep h))
  have HQ := Lib.hid (And.intro (rb_of hq) (rb_of hr))
  have HG := Lib.hid (And.intro hG hT)
  have HA := Lib.hid (below_alloc (box1_below w (.cells #[.bool (Big.ng q), .string (bst (Big.nu q)), .string (bst (Big.de q))] 23)) (Nat.le_refl _) (.cells #[.bool (Big.ng r), .string (bst (Big.nu r)), .string (bst (Big.de r))] 23))
  have HN1 := AtL.new (w.alloc (.cells #[.bool (Big.ng q), .string (bst (Big.nu q)), .string (bst (Big.de q))] 23)) 23 #[.bool (Big.ng r), .string (bst (Big.nu r)), .string (bst (Big.de r))]
  rw [alloc_size] at HN1
  have HN1 := Lib.hid HN1
  clear hG hT hq hr
  go_enter Tryz.func28, Tryz.ntmps28
  go_wp2_with fail
  refine (HR.out _ HA.out).mono ?_
  generalize (w.alloc (.cells #[.bool (Big.ng q), .string (bst (Big.nu q)), .string (bst (Big.de q))] 23)).alloc (.cells #[.bool (Big.ng r), .string (bst (Big.nu r)), .string (bst (Big.de r))] 23) = wa at *
  rintro e w1 ⟨v, rfl, hv, hw0⟩
  have hw1 := HA.out.trans (hw0.mono HA.out.size)
  have HB1 := Lib.hid hw1
  have HV := Lib.hid hv
  have HNk := HN1.out.keep hw0
  have c0 := HNk.cell 0 rfl; have c1 := HNk.cell 1 rfl; have c2 := HNk.cell 2 rfl
  obtain ⟨b, rfl, -⟩ := hv
  clear hw0 hw1 HR HN1 HNk
  go_wp2_with fail
  refine (HR2.out _ HB1.out).mono ?_
  rintro e w2 ⟨v2, rfl, hv2, hw2⟩
  have HB2 := Lib.hid (HB1.out.trans (hw2.mono HB1.out.size))
  have HC := Lib.hid (rcmp_any (HV.out.keep hw2) hv2 HQ.out.1 HQ.out.2 (Nat.le_trans HG.out.1 HB2.out.size) (HG.out.2.keep HB2.out))
  obtain ⟨b2, rfl, -⟩ := hv2
  clear hw2 HR2 HV
  go_wp2_with fail
  refine HC.out.mono ?_
  rintro e w3 ⟨rfl, hw3⟩
  have HB3 := Lib.hid (HB2.out.trans (hw3.mono HB2.out.size))
  clear hw3 HC
  go_wp2_with fail
  go_ret2
  exact ⟨rfl, HB3.out⟩
theorem cmp_both (x y : Tri) : ∃ n e, Both 15 28 [.agg ⟨cel x⟩, .agg ⟨cel y⟩] (.tuple ⟨[.int .i64 n, .int .i64 e]⟩) := by
  obtain ⟨i, -⟩ := in4 x y x y
  cases hab : (i.a && i.b) with
  | true =>
    rw [Bool.and_eq_true] at hab
    obtain ⟨q, hq, hx⟩ : ∃ q, Fit q ∧ x = tri q := ⟨i.ρ.q 0, i.ρ.fit 0 (by decide), i.hx.1 hab.1⟩
    obtain ⟨r, hr, hy⟩ : ∃ r, Fit r ∧ y = tri r := ⟨i.ρ.q 1, i.ρ.fit 1 (by decide), i.hy.1 hab.2⟩
    subst hx hy
    exact ⟨Big.cmpQ q r, 0, fun w hG hT => ⟨raCmp_any w _ _ hq hr, refCmp_any w _ _ hq hr hG hT⟩⟩
  | false => exact ⟨0, 2, tlb2 i (tl_cmp_b _ _ hab) fun w u h => tlT_is h⟩
set_option maxHeartbeats 4000000 in
theorem refOf_ok (w : World) (n d : Int) (h1 : -9223372036854775808 ≤ n) (h2 : n ≤ 9223372036854775807) (h3 : -9223372036854775808 ≤ d) (h4 : d ≤ 9223372036854775807) (hd : d ≠ 0) (hG : Tryz.prog.globals.size ≤ w.heap.size) (hT : Tab w) :
    Calls Tryz.prog 23 #[.int .i64 n, .int .i64 d] w (Ret2 w (.agg ⟨cel (tri ((n : Rat) / (d : Rat)))⟩) 0) := by
  have HO := Lib.hid (fun W (h : Below w.heap.size w W) => refOf_any (w := W) n d h1 h2 h3 h4 hd (Nat.le_trans hG h.size) (hT.keep h))
  obtain ⟨Q, hQ⟩ : ∃ Q, (n : Rat) / (d : Rat) = Q := ⟨_, rfl⟩
  rw [hQ] at HO ⊢
  have R0 := At3.new w 23 (.bool false) (.string ⟨#[]⟩) (.string ⟨#[]⟩)
  have HR0 := Lib.hid R0
  have HB0 := Lib.hid (box1_below w (.cells #[.bool false, .string ⟨#[]⟩, .string ⟨#[]⟩] 23))
  clear hG hT hQ R0
  go_enter Tryz.func23, Tryz.ntmps23
  go_wp2_with fail
  refine (HO.out _ HB0.out).mono ?_
  generalize w.alloc (.cells #[.bool false, .string ⟨#[]⟩, .string ⟨#[]⟩] 23) = w0 at *
  rintro e w1 ⟨rfl, hw1⟩
  unfold cel tri
  have HB1 := Lib.hid (HB0.out.trans (hw1.mono HB0.out.size))
  have R1 := HR0.out.keep hw1
  have HD := Lib.hid (At3.put R1 (.bool (Big.ng Q)) (.string (bst (Big.nu Q))) (.string (bst (Big.de Q))))
  have HE := Lib.hid (put_below HB1.out (Nat.le_refl _) (.bool (Big.ng Q)) (.string (bst (Big.nu Q))) (.string (bst (Big.de Q))))
  have k0 := R1.c0; have k1 := R1.c1; have k2 := R1.c2; have f0 := R1.frozen 0; have f1 := R1.frozen 1; have f2 := R1.frozen 2
  clear R1 hw1 HR0 HB0 HO
  go_wp2_with fail
  generalize (((w1.setCell ⟨w.heap.size, 0, none⟩ (.bool (Big.ng Q))).setCell ⟨w.heap.size, 1, none⟩ (.string (bst (Big.nu Q)))).setCell ⟨w.heap.size, 2, none⟩ (.string (bst (Big.de Q)))) = wz at HD HE ⊢
  clear k0 k1 k2 f0 f1 f2
  have r0 := HD.out.c0; have r1 := HD.out.c1; have r2 := HD.out.c2
  exact bodyPost_ret (v := .tuple #[.agg #[.bool (Big.ng Q), .string (bst (Big.nu Q)), .string (bst (Big.de Q))], .int .i64 0]) (by simp [results, Tryz.results23, go_sem, r0, r1, r2]) rfl ⟨rfl, HE.out⟩
theorem refOf_zero (w : World) (n : Int) : Calls Tryz.prog 23 #[.int .i64 n, .int .i64 0] w (Ret2 w (.agg #[.bool false, .string ⟨#[]⟩, .string ⟨#[]⟩]) 4) := by
  have R0 := At3.new w 23 (.bool false) (.string ⟨#[]⟩) (.string ⟨#[]⟩)
  have r0 := R0.c0; have r1 := R0.c1; have r2 := R0.c2
  have HB0 := Lib.hid (box1_below w (.cells #[.bool false, .string ⟨#[]⟩, .string ⟨#[]⟩] 23))
  clear R0
  go_enter Tryz.func23, Tryz.ntmps23
  go_wp2_with fail
  exact bodyPost_ret (v := .tuple #[.agg #[.bool false, .string ⟨#[]⟩, .string ⟨#[]⟩], .int .i64 4]) (by simp [results, Tryz.results23, go_sem, r0, r1, r2]) rfl ⟨rfl, HB0.out⟩
theorem raOf_zero (w : World) (n : Int) : Calls Tryz.prog 11 #[.int .i64 n, .int .i64 0] w (Ret2 w (.agg #[.bool false, .string ⟨#[]⟩, .string ⟨#[]⟩]) 4) := by
  have R0 := At3.new w 23 (.bool false) (.string ⟨#[]⟩) (.string ⟨#[]⟩)
  have r0 := R0.c0; have r1 := R0.c1; have r2 := R0.c2
  have HB0 := Lib.hid (box1_below w (.cells #[.bool false, .string ⟨#[]⟩, .string ⟨#[]⟩] 23))
  clear R0
  go_enter Tryz.func11, Tryz.ntmps11
  go_wp2_with fail
  exact bodyPost_ret (v := .tuple #[.agg #[.bool false, .string ⟨#[]⟩, .string ⟨#[]⟩], .int .i64 4]) (by simp [results, Tryz.results11, go_sem, r0, r1, r2]) rfl ⟨rfl, HB0.out⟩
theorem of_both (n d : Int) (h1 : -9223372036854775808 ≤ n) (h2 : n ≤ 9223372036854775807) (h3 : -9223372036854775808 ≤ d) (h4 : d ≤ 9223372036854775807) :
    ∃ t e, Both 11 23 [.int .i64 n, .int .i64 d] (.tuple ⟨[.agg ⟨cel t⟩, .int .i64 e]⟩) := by
  by_cases hd : d = 0
  · subst hd
    exact ⟨(false, ⟨#[]⟩, ⟨#[]⟩), 4, fun w hG hT => ⟨raOf_zero w n, refOf_zero w n⟩⟩
  · refine ⟨tri ((n : Rat) / (d : Rat)), 0, fun w hG hT => ⟨?_, refOf_ok w n d h1 h2 h3 h4 hd hG hT⟩⟩
    have h := raOf_any w n d h1 h2 h3 h4 hd
    rw [show ofQ n d = (n : Rat) / (d : Rat) from ?_] at h
    · exact h
    · rw [quo_ints n d hd]
      unfold ofQ
      by_cases h0 : n.natAbs = 0
      · rw [h0]
        have e : ∀ b : Bool, Big.sI b 0 = 0 := fun b => by cases b <;> rfl
        rw [e, e]
      · rw [decide_eq_false h0]
        cases decide (n < 0) <;> cases decide (d < 0) <;> rfl
end Tl
end Ev
end Go.Proofs.YthjofdfnppadnaaGreatDoor
