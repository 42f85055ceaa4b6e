/- Contracts. -/
import Derived.Test.YtfenjkgbedbleaaGreatDoorBKq12
import Derived.Test.YtfenjkgbedbleaaGreatDoorBKq10
namespace Go.Proofs.YtfenjkgbedbleaaGreatDoor
open Go.RowKit
set_option maxRecDepth 100000 in
set_option maxHeartbeats 4000000 in
theorem lawBack_any (w : World) (a0 a1 : Int) (h0 : -9223372036854775808 ≤ a0) (h1 : a0 ≤ 9223372036854775807) (h2 : -9223372036854775808 ≤ a1) (h3 : a1 ≤ 9223372036854775807) (htab : Tab w) (hm : MC w) :
    Calls Tryz.prog 3 #[.int .i64 a0, .int .i64 a1] w fun e w' => e = .returned (.bool true) ∧ Below w.heap.size w w' := by
  have HT := Lib.hid htab; have HM := Lib.hid hm
  have HB0 := Lib.hid (Below.refl w.heap.size w)
  have CW := Lib.hid (fun W h => lworks_any W h)
  clear htab hm
  by_cases hd : a1 = 0
  · subst hd
    obtain ⟨i, b, ci, hb⟩ := back_int64 a0 1 (by omega) (by omega) (by omega) (by omega) (by omega)
    have hby : By 8 (ofQ a0 1) := ofQ_by (by omega) (by omega) (by omega)
    have hfl : By 8 (Big.flQ (ofQ a0 1)) := ⟨Nat.lt_of_le_of_lt (back_small a0 1 (by omega) (by omega) (by omega) (by omega) (by omega)).1 (by decide), by rw [(Big.flQ_parts _).2.2]; decide⟩
    have hon : By 1 (ofQ 1 1) := ofQ_by (by omega) (by omega) (by omega)
    have f1 := hby.fit (by omega); have f2 := hfl.fit (by omega); have f3 := hon.fit (by omega); have f4 := (hfl.add hon).fit (by omega)
    have CO := Lib.hid (fun W => raOf_any W a0 1 (by omega) (by omega) (by omega) (by omega) (by omega))
    have CT := Lib.hid (fun W h => raText_any W _ f1 h)
    have CP := Lib.hid (fun W h => raParse_any W _ f1 h)
    have C1 := Lib.hid (fun W => raOf_any W 1 1 (by omega) (by omega) (by omega) (by omega) (by omega))
    have CF := Lib.hid (fun W => raFloor_fit W _ f1 f2)
    have CC := Lib.hid (fun W => raCmp_any W _ _ f2 f1)
    have CA := Lib.hid (fun W => raAdd_fit W _ _ f2 f3 f4)
    have CD := Lib.hid (fun W => raCmp_any W _ _ f4 f1)
    have CI := Lib.hid ci
    have k1 : decide (Big.cmpQ (Big.flQ (ofQ a0 1)) (ofQ a0 1) ≤ 0) = true := decide_eq_true (cmp_fl _)
    have k2 : decide (0 < Big.cmpQ (Big.flQ (ofQ a0 1) + ofQ 1 1) (ofQ a0 1)) = true := decide_eq_true (cmp_next _)
    clear ci hby hfl hon f1 f2 f3 f4
    generalize Big.cmpQ (Big.flQ (ofQ a0 1)) (ofQ a0 1) = c at *
    generalize Big.cmpQ (Big.flQ (ofQ a0 1) + ofQ 1 1) (ofQ a0 1) = c' at *
    generalize Big.flQ (ofQ a0 1) + ofQ 1 1 = N at *
    generalize Big.flQ (ofQ a0 1) = F at *
    generalize ofQ a0 1 = x at *
    generalize ofQ 1 1 = u at *
    clear h0 h1 h2 h3
    obtain ⟨S, hS⟩ : ∃ z, (⟨(txQ x).toArray⟩ : ByteArray) = z := ⟨_, rfl⟩
    rw [hS] at CT CP
    clear hS
    obtain rfl : b = true := by rcases hb with h | h; exact h; exact absurd h (by decide)
    go_enter Tryz.func3, Tryz.ntmps3
    go_wp2_with fail
    refine (CO.out _).mono ?_
    rintro e w1 ⟨rfl, hw1⟩
    unfold fracV
    have HBw1 := Lib.hid (HB0.out.trans (hw1.mono HB0.out.size))
    clear hw1 HB0 
    have HXxwa := Lib.hid (At3.new w1 23 (.bool (Big.ng x)) (.string (bst (Big.nu x))) (.string (bst (Big.de x))))
    have HBwa := Lib.hid (below_alloc HBw1.out (Nat.le_refl _) (.cells #[.bool (Big.ng x), .string (bst (Big.nu x)), .string (bst (Big.de x))] 23))
    clear HBw1 
    have xc0 := HXxwa.out.c0
    have xc1 := HXxwa.out.c1
    have xc2 := HXxwa.out.c2
    go_wp2_with fail
    refine (CT.out _ (HT.out.keep HBwa.out)).mono ?_
    generalize w1.alloc (.cells #[.bool (Big.ng x), .string (bst (Big.nu x)), .string (bst (Big.de x))] 23) = wa at *
    rintro e w2 ⟨rfl, hw2⟩
    clear xc0 xc1 xc2
    have HBw2 := Lib.hid (HBwa.out.trans (hw2.mono HBwa.out.size))
    have HXxw2 := Lib.hid (HXxwa.out.keep hw2)
    clear hw2 HBwa HXxwa
    go_wp2_with fail
    refine (CP.out _ (HM.out.keep HBw2.out)).mono ?_
    rintro e w3 ⟨rfl, hw3⟩
    unfold fracV
    have HBw3 := Lib.hid (HBw2.out.trans (hw3.mono HBw2.out.size))
    have HXxw3 := Lib.hid (HXxw2.out.keep hw3)
    clear hw3 HBw2 HXxw2
    have HXyy := Lib.hid (At3.new w3 23 (.bool (Big.ng x)) (.string (bst (Big.nu x))) (.string (bst (Big.de x))))
    have HBwb := Lib.hid (below_alloc HBw3.out (Nat.le_refl _) (.cells #[.bool (Big.ng x), .string (bst (Big.nu x)), .string (bst (Big.de x))] 23))
    have HXxwb := Lib.hid (HXxw3.out.alloc' (.cells #[.bool (Big.ng x), .string (bst (Big.nu x)), .string (bst (Big.de x))] 23))
    clear HBw3 HXxw3
    have xc0 := HXxwb.out.c0
    have xc1 := HXxwb.out.c1
    have xc2 := HXxwb.out.c2
    have yc0 := HXyy.out.c0
    have yc1 := HXyy.out.c1
    have yc2 := HXyy.out.c2
    go_wp2_with fail
    refine (C1.out _).mono ?_
    generalize w3.alloc (.cells #[.bool (Big.ng x), .string (bst (Big.nu x)), .string (bst (Big.de x))] 23) = wb at *
    clear xc0 xc1 xc2
    clear yc0 yc1 yc2 HXyy
    rintro e w4 ⟨rfl, hw4⟩
    unfold fracV
    have HBw4 := Lib.hid (HBwb.out.trans (hw4.mono HBwb.out.size))
    have HXxw4 := Lib.hid (HXxwb.out.keep hw4)
    clear hw4 HBwb HXxwb
    have HXuwc := Lib.hid (At3.new w4 23 (.bool (Big.ng u)) (.string (bst (Big.nu u))) (.string (bst (Big.de u))))
    have HBwc := Lib.hid (below_alloc HBw4.out (Nat.le_refl _) (.cells #[.bool (Big.ng u), .string (bst (Big.nu u)), .string (bst (Big.de u))] 23))
    have HXxwc := Lib.hid (HXxw4.out.alloc' (.cells #[.bool (Big.ng u), .string (bst (Big.nu u)), .string (bst (Big.de u))] 23))
    clear HBw4 HXxw4
    have xc0 := HXxwc.out.c0
    have xc1 := HXxwc.out.c1
    have xc2 := HXxwc.out.c2
    go_wp2_with fail
    refine (CF.out _).mono ?_
    generalize w4.alloc (.cells #[.bool (Big.ng u), .string (bst (Big.nu u)), .string (bst (Big.de u))] 23) = wc at *
    clear xc0 xc1 xc2
    rintro e w5 ⟨rfl, hw5⟩
    unfold fracV
    have HBw5 := Lib.hid (HBwc.out.trans (hw5.mono HBwc.out.size))
    have HXxw5 := Lib.hid (HXxwc.out.keep hw5)
    have HXuw5 := Lib.hid (HXuwc.out.keep hw5)
    clear hw5 HBwc HXxwc HXuwc
    have HXFwd := Lib.hid (At3.new w5 23 (.bool (Big.ng F)) (.string (bst (Big.nu F))) (.string (bst (Big.de F))))
    have HBwd := Lib.hid (below_alloc HBw5.out (Nat.le_refl _) (.cells #[.bool (Big.ng F), .string (bst (Big.nu F)), .string (bst (Big.de F))] 23))
    have HXxwd := Lib.hid (HXxw5.out.alloc' (.cells #[.bool (Big.ng F), .string (bst (Big.nu F)), .string (bst (Big.de F))] 23))
    have HXuwd := Lib.hid (HXuw5.out.alloc' (.cells #[.bool (Big.ng F), .string (bst (Big.nu F)), .string (bst (Big.de F))] 23))
    clear HBw5 HXxw5 HXuw5
    have xc0 := HXxwd.out.c0
    have xc1 := HXxwd.out.c1
    have xc2 := HXxwd.out.c2
    have Fc0 := HXFwd.out.c0
    have Fc1 := HXFwd.out.c1
    have Fc2 := HXFwd.out.c2
    go_wp2_with fail
    refine (CC.out _).mono ?_
    generalize w5.alloc (.cells #[.bool (Big.ng F), .string (bst (Big.nu F)), .string (bst (Big.de F))] 23) = wd at *
    clear xc0 xc1 xc2 Fc0 Fc1 Fc2
    rintro e w6 ⟨rfl, hw6⟩
    have HBw6 := Lib.hid (HBwd.out.trans (hw6.mono HBwd.out.size))
    have HXxw6 := Lib.hid (HXxwd.out.keep hw6)
    have HXuw6 := Lib.hid (HXuwd.out.keep hw6)
    have HXFw6 := Lib.hid (HXFwd.out.keep hw6)
    clear hw6 HBwd HXxwd HXuwd HXFwd
    have uc0 := HXuw6.out.c0
    have uc1 := HXuw6.out.c1
    have uc2 := HXuw6.out.c2
    have Fc0 := HXFw6.out.c0
    have Fc1 := HXFw6.out.c1
    have Fc2 := HXFw6.out.c2
    go_wp2_with fail
    refine (CA.out _).mono ?_
    clear uc0 uc1 uc2 Fc0 Fc1 Fc2
    rintro e w7 ⟨rfl, hw7⟩
    unfold fracV
    have HBw7 := Lib.hid (HBw6.out.trans (hw7.mono HBw6.out.size))
    have HXxw7 := Lib.hid (HXxw6.out.keep hw7)
    have HXuw7 := Lib.hid (HXuw6.out.keep hw7)
    have HXFw7 := Lib.hid (HXFw6.out.keep hw7)
    clear hw7 HBw6 HXxw6 HXuw6 HXFw6
    have HXNwe := Lib.hid (At3.new w7 23 (.bool (Big.ng N)) (.string (bst (Big.nu N))) (.string (bst (Big.de N))))
    have HBwe := Lib.hid (below_alloc HBw7.out (Nat.le_refl _) (.cells #[.bool (Big.ng N), .string (bst (Big.nu N)), .string (bst (Big.de N))] 23))
    have HXxwe := Lib.hid (HXxw7.out.alloc' (.cells #[.bool (Big.ng N), .string (bst (Big.nu N)), .string (bst (Big.de N))] 23))
    have HXuwe := Lib.hid (HXuw7.out.alloc' (.cells #[.bool (Big.ng N), .string (bst (Big.nu N)), .string (bst (Big.de N))] 23))
    have HXFwe := Lib.hid (HXFw7.out.alloc' (.cells #[.bool (Big.ng N), .string (bst (Big.nu N)), .string (bst (Big.de N))] 23))
    clear HBw7 HXxw7 HXuw7 HXFw7
    have xc0 := HXxwe.out.c0
    have xc1 := HXxwe.out.c1
    have xc2 := HXxwe.out.c2
    have Nc0 := HXNwe.out.c0
    have Nc1 := HXNwe.out.c1
    have Nc2 := HXNwe.out.c2
    go_wp2_with fail
    refine (CD.out _).mono ?_
    generalize w7.alloc (.cells #[.bool (Big.ng N), .string (bst (Big.nu N)), .string (bst (Big.de N))] 23) = we at *
    clear xc0 xc1 xc2 Nc0 Nc1 Nc2
    rintro e w8 ⟨rfl, hw8⟩
    have HBw8 := Lib.hid (HBwe.out.trans (hw8.mono HBwe.out.size))
    have HXxw8 := Lib.hid (HXxwe.out.keep hw8)
    have HXuw8 := Lib.hid (HXuwe.out.keep hw8)
    have HXFw8 := Lib.hid (HXFwe.out.keep hw8)
    have HXNw8 := Lib.hid (HXNwe.out.keep hw8)
    clear hw8 HBwe HXxwe HXuwe HXFwe HXNwe
    have Fc0 := HXFw8.out.c0
    have Fc1 := HXFw8.out.c1
    have Fc2 := HXFw8.out.c2
    go_wp2_with fail
    refine (CI.out _).mono ?_
    clear Fc0 Fc1 Fc2
    rintro e w9 ⟨rfl, hw9⟩
    have HBw9 := Lib.hid (HBw8.out.trans (hw9.mono HBw8.out.size))
    have HXxw9 := Lib.hid (HXxw8.out.keep hw9)
    have HXuw9 := Lib.hid (HXuw8.out.keep hw9)
    have HXFw9 := Lib.hid (HXFw8.out.keep hw9)
    have HXNw9 := Lib.hid (HXNw8.out.keep hw9)
    clear hw9 HBw8 HXxw8 HXuw8 HXFw8 HXNw8
    have CWk := Lib.hid (CW.out _ (HT.out.keep HBw9.out))
    go_wp2_with (first | (go_at_call 11; refine CWk.out.mono ?_; rintro e w10 ⟨rfl, hw10⟩) | fail)
    go_ret
    exact ⟨rfl, HBw9.out.trans (hw10.mono HBw9.out.size)⟩
  · have hd0 : (a1 == 0) = false := beq_eq_false_iff_ne.2 hd
    obtain ⟨i, b, ci, hb⟩ := back_int64 a0 a1 (by omega) (by omega) (by omega) (by omega) hd
    have hby : By 8 (ofQ a0 a1) := ofQ_by (by omega) (by omega) hd
    have hfl : By 8 (Big.flQ (ofQ a0 a1)) := ⟨Nat.lt_of_le_of_lt (back_small a0 a1 (by omega) (by omega) (by omega) (by omega) hd).1 (by decide), by rw [(Big.flQ_parts _).2.2]; decide⟩
    have hon : By 1 (ofQ 1 1) := ofQ_by (by omega) (by omega) (by omega)
    have f1 := hby.fit (by omega); have f2 := hfl.fit (by omega); have f3 := hon.fit (by omega); have f4 := (hfl.add hon).fit (by omega)
    have CO := Lib.hid (fun W => raOf_any W a0 a1 (by omega) (by omega) (by omega) (by omega) hd)
    have CT := Lib.hid (fun W h => raText_any W _ f1 h)
    have CP := Lib.hid (fun W h => raParse_any W _ f1 h)
    have C1 := Lib.hid (fun W => raOf_any W 1 1 (by omega) (by omega) (by omega) (by omega) (by omega))
    have CF := Lib.hid (fun W => raFloor_fit W _ f1 f2)
    have CC := Lib.hid (fun W => raCmp_any W _ _ f2 f1)
    have CA := Lib.hid (fun W => raAdd_fit W _ _ f2 f3 f4)
    have CD := Lib.hid (fun W => raCmp_any W _ _ f4 f1)
    have CI := Lib.hid ci
    have k1 : decide (Big.cmpQ (Big.flQ (ofQ a0 a1)) (ofQ a0 a1) ≤ 0) = true := decide_eq_true (cmp_fl _)
    have k2 : decide (0 < Big.cmpQ (Big.flQ (ofQ a0 a1) + ofQ 1 1) (ofQ a0 a1)) = true := decide_eq_true (cmp_next _)
    clear ci hby hfl hon f1 f2 f3 f4
    generalize Big.cmpQ (Big.flQ (ofQ a0 a1)) (ofQ a0 a1) = c at *
    generalize Big.cmpQ (Big.flQ (ofQ a0 a1) + ofQ 1 1) (ofQ a0 a1) = c' at *
    generalize Big.flQ (ofQ a0 a1) + ofQ 1 1 = N at *
    generalize Big.flQ (ofQ a0 a1) = F at *
    generalize ofQ a0 a1 = x at *
    generalize ofQ 1 1 = u at *
    clear h0 h1 h2 h3
    obtain ⟨S, hS⟩ : ∃ z, (⟨(txQ x).toArray⟩ : ByteArray) = z := ⟨_, rfl⟩
    rw [hS] at CT CP
    clear hS
    cases b with
    | true =>
      go_enter Tryz.func3, Tryz.ntmps3
      go_wp2_with fail
      refine (CO.out _).mono ?_
      rintro e w1 ⟨rfl, hw1⟩
      unfold fracV
      have HBw1 := Lib.hid (HB0.out.trans (hw1.mono HB0.out.size))
      clear hw1 HB0 
      have HXxwa := Lib.hid (At3.new w1 23 (.bool (Big.ng x)) (.string (bst (Big.nu x))) (.string (bst (Big.de x))))
      have HBwa := Lib.hid (below_alloc HBw1.out (Nat.le_refl _) (.cells #[.bool (Big.ng x), .string (bst (Big.nu x)), .string (bst (Big.de x))] 23))
      clear HBw1 
      have xc0 := HXxwa.out.c0
      have xc1 := HXxwa.out.c1
      have xc2 := HXxwa.out.c2
      go_wp2_with fail
      refine (CT.out _ (HT.out.keep HBwa.out)).mono ?_
      generalize w1.alloc (.cells #[.bool (Big.ng x), .string (bst (Big.nu x)), .string (bst (Big.de x))] 23) = wa at *
      rintro e w2 ⟨rfl, hw2⟩
      clear xc0 xc1 xc2
      have HBw2 := Lib.hid (HBwa.out.trans (hw2.mono HBwa.out.size))
      have HXxw2 := Lib.hid (HXxwa.out.keep hw2)
      clear hw2 HBwa HXxwa
      go_wp2_with fail
      refine (CP.out _ (HM.out.keep HBw2.out)).mono ?_
      rintro e w3 ⟨rfl, hw3⟩
      unfold fracV
      have HBw3 := Lib.hid (HBw2.out.trans (hw3.mono HBw2.out.size))
      have HXxw3 := Lib.hid (HXxw2.out.keep hw3)
      clear hw3 HBw2 HXxw2
      have HXyy := Lib.hid (At3.new w3 23 (.bool (Big.ng x)) (.string (bst (Big.nu x))) (.string (bst (Big.de x))))
      have HBwb := Lib.hid (below_alloc HBw3.out (Nat.le_refl _) (.cells #[.bool (Big.ng x), .string (bst (Big.nu x)), .string (bst (Big.de x))] 23))
      have HXxwb := Lib.hid (HXxw3.out.alloc' (.cells #[.bool (Big.ng x), .string (bst (Big.nu x)), .string (bst (Big.de x))] 23))
      clear HBw3 HXxw3
      have xc0 := HXxwb.out.c0
      have xc1 := HXxwb.out.c1
      have xc2 := HXxwb.out.c2
      have yc0 := HXyy.out.c0
      have yc1 := HXyy.out.c1
      have yc2 := HXyy.out.c2
      go_wp2_with fail
      refine (C1.out _).mono ?_
      generalize w3.alloc (.cells #[.bool (Big.ng x), .string (bst (Big.nu x)), .string (bst (Big.de x))] 23) = wb at *
      clear xc0 xc1 xc2
      clear yc0 yc1 yc2 HXyy
      rintro e w4 ⟨rfl, hw4⟩
      unfold fracV
      have HBw4 := Lib.hid (HBwb.out.trans (hw4.mono HBwb.out.size))
      have HXxw4 := Lib.hid (HXxwb.out.keep hw4)
      clear hw4 HBwb HXxwb
      have HXuwc := Lib.hid (At3.new w4 23 (.bool (Big.ng u)) (.string (bst (Big.nu u))) (.string (bst (Big.de u))))
      have HBwc := Lib.hid (below_alloc HBw4.out (Nat.le_refl _) (.cells #[.bool (Big.ng u), .string (bst (Big.nu u)), .string (bst (Big.de u))] 23))
      have HXxwc := Lib.hid (HXxw4.out.alloc' (.cells #[.bool (Big.ng u), .string (bst (Big.nu u)), .string (bst (Big.de u))] 23))
      clear HBw4 HXxw4
      have xc0 := HXxwc.out.c0
      have xc1 := HXxwc.out.c1
      have xc2 := HXxwc.out.c2
      go_wp2_with fail
      refine (CF.out _).mono ?_
      generalize w4.alloc (.cells #[.bool (Big.ng u), .string (bst (Big.nu u)), .string (bst (Big.de u))] 23) = wc at *
      clear xc0 xc1 xc2
      rintro e w5 ⟨rfl, hw5⟩
      unfold fracV
      have HBw5 := Lib.hid (HBwc.out.trans (hw5.mono HBwc.out.size))
      have HXxw5 := Lib.hid (HXxwc.out.keep hw5)
      have HXuw5 := Lib.hid (HXuwc.out.keep hw5)
      clear hw5 HBwc HXxwc HXuwc
      have HXFwd := Lib.hid (At3.new w5 23 (.bool (Big.ng F)) (.string (bst (Big.nu F))) (.string (bst (Big.de F))))
      have HBwd := Lib.hid (below_alloc HBw5.out (Nat.le_refl _) (.cells #[.bool (Big.ng F), .string (bst (Big.nu F)), .string (bst (Big.de F))] 23))
      have HXxwd := Lib.hid (HXxw5.out.alloc' (.cells #[.bool (Big.ng F), .string (bst (Big.nu F)), .string (bst (Big.de F))] 23))
      have HXuwd := Lib.hid (HXuw5.out.alloc' (.cells #[.bool (Big.ng F), .string (bst (Big.nu F)), .string (bst (Big.de F))] 23))
      clear HBw5 HXxw5 HXuw5
      have xc0 := HXxwd.out.c0
      have xc1 := HXxwd.out.c1
      have xc2 := HXxwd.out.c2
      have Fc0 := HXFwd.out.c0
      have Fc1 := HXFwd.out.c1
      have Fc2 := HXFwd.out.c2
      go_wp2_with fail
      refine (CC.out _).mono ?_
      generalize w5.alloc (.cells #[.bool (Big.ng F), .string (bst (Big.nu F)), .string (bst (Big.de F))] 23) = wd at *
      clear xc0 xc1 xc2 Fc0 Fc1 Fc2
      rintro e w6 ⟨rfl, hw6⟩
      have HBw6 := Lib.hid (HBwd.out.trans (hw6.mono HBwd.out.size))
      have HXxw6 := Lib.hid (HXxwd.out.keep hw6)
      have HXuw6 := Lib.hid (HXuwd.out.keep hw6)
      have HXFw6 := Lib.hid (HXFwd.out.keep hw6)
      clear hw6 HBwd HXxwd HXuwd HXFwd
      have uc0 := HXuw6.out.c0
      have uc1 := HXuw6.out.c1
      have uc2 := HXuw6.out.c2
      have Fc0 := HXFw6.out.c0
      have Fc1 := HXFw6.out.c1
      have Fc2 := HXFw6.out.c2
      go_wp2_with fail
      refine (CA.out _).mono ?_
      clear uc0 uc1 uc2 Fc0 Fc1 Fc2
      rintro e w7 ⟨rfl, hw7⟩
      unfold fracV
      have HBw7 := Lib.hid (HBw6.out.trans (hw7.mono HBw6.out.size))
      have HXxw7 := Lib.hid (HXxw6.out.keep hw7)
      have HXuw7 := Lib.hid (HXuw6.out.keep hw7)
      have HXFw7 := Lib.hid (HXFw6.out.keep hw7)
      clear hw7 HBw6 HXxw6 HXuw6 HXFw6
      have HXNwe := Lib.hid (At3.new w7 23 (.bool (Big.ng N)) (.string (bst (Big.nu N))) (.string (bst (Big.de N))))
      have HBwe := Lib.hid (below_alloc HBw7.out (Nat.le_refl _) (.cells #[.bool (Big.ng N), .string (bst (Big.nu N)), .string (bst (Big.de N))] 23))
      have HXxwe := Lib.hid (HXxw7.out.alloc' (.cells #[.bool (Big.ng N), .string (bst (Big.nu N)), .string (bst (Big.de N))] 23))
      have HXuwe := Lib.hid (HXuw7.out.alloc' (.cells #[.bool (Big.ng N), .string (bst (Big.nu N)), .string (bst (Big.de N))] 23))
      have HXFwe := Lib.hid (HXFw7.out.alloc' (.cells #[.bool (Big.ng N), .string (bst (Big.nu N)), .string (bst (Big.de N))] 23))
      clear HBw7 HXxw7 HXuw7 HXFw7
      have xc0 := HXxwe.out.c0
      have xc1 := HXxwe.out.c1
      have xc2 := HXxwe.out.c2
      have Nc0 := HXNwe.out.c0
      have Nc1 := HXNwe.out.c1
      have Nc2 := HXNwe.out.c2
      go_wp2_with fail
      refine (CD.out _).mono ?_
      generalize w7.alloc (.cells #[.bool (Big.ng N), .string (bst (Big.nu N)), .string (bst (Big.de N))] 23) = we at *
      clear xc0 xc1 xc2 Nc0 Nc1 Nc2
      rintro e w8 ⟨rfl, hw8⟩
      have HBw8 := Lib.hid (HBwe.out.trans (hw8.mono HBwe.out.size))
      have HXxw8 := Lib.hid (HXxwe.out.keep hw8)
      have HXuw8 := Lib.hid (HXuwe.out.keep hw8)
      have HXFw8 := Lib.hid (HXFwe.out.keep hw8)
      have HXNw8 := Lib.hid (HXNwe.out.keep hw8)
      clear hw8 HBwe HXxwe HXuwe HXFwe HXNwe
      have Fc0 := HXFw8.out.c0
      have Fc1 := HXFw8.out.c1
      have Fc2 := HXFw8.out.c2
      go_wp2_with fail
      refine (CI.out _).mono ?_
      clear Fc0 Fc1 Fc2
      rintro e w9 ⟨rfl, hw9⟩
      have HBw9 := Lib.hid (HBw8.out.trans (hw9.mono HBw8.out.size))
      have HXxw9 := Lib.hid (HXxw8.out.keep hw9)
      have HXuw9 := Lib.hid (HXuw8.out.keep hw9)
      have HXFw9 := Lib.hid (HXFw8.out.keep hw9)
      have HXNw9 := Lib.hid (HXNw8.out.keep hw9)
      clear hw9 HBw8 HXxw8 HXuw8 HXFw8 HXNw8
      have CWk := Lib.hid (CW.out _ (HT.out.keep HBw9.out))
      go_wp2_with (first | (go_at_call 11; refine CWk.out.mono ?_; rintro e w10 ⟨rfl, hw10⟩) | fail)
      go_ret
      exact ⟨rfl, HBw9.out.trans (hw10.mono HBw9.out.size)⟩
    | false =>
      have hb1 : (a1 == -1) = true := by rcases hb with h | h; exact absurd h (by decide); exact h
      go_enter Tryz.func3, Tryz.ntmps3
      go_wp2_with fail
      refine (CO.out _).mono ?_
      rintro e w1 ⟨rfl, hw1⟩
      unfold fracV
      have HBw1 := Lib.hid (HB0.out.trans (hw1.mono HB0.out.size))
      clear hw1 HB0 
      have HXxwa := Lib.hid (At3.new w1 23 (.bool (Big.ng x)) (.string (bst (Big.nu x))) (.string (bst (Big.de x))))
      have HBwa := Lib.hid (below_alloc HBw1.out (Nat.le_refl _) (.cells #[.bool (Big.ng x), .string (bst (Big.nu x)), .string (bst (Big.de x))] 23))
      clear HBw1 
      have xc0 := HXxwa.out.c0
      have xc1 := HXxwa.out.c1
      have xc2 := HXxwa.out.c2
      go_wp2_with fail
      refine (CT.out _ (HT.out.keep HBwa.out)).mono ?_
      generalize w1.alloc (.cells #[.bool (Big.ng x), .string (bst (Big.nu x)), .string (bst (Big.de x))] 23) = wa at *
      rintro e w2 ⟨rfl, hw2⟩
      clear xc0 xc1 xc2
      have HBw2 := Lib.hid (HBwa.out.trans (hw2.mono HBwa.out.size))
      have HXxw2 := Lib.hid (HXxwa.out.keep hw2)
      clear hw2 HBwa HXxwa
      go_wp2_with fail
      refine (CP.out _ (HM.out.keep HBw2.out)).mono ?_
      rintro e w3 ⟨rfl, hw3⟩
      unfold fracV
      have HBw3 := Lib.hid (HBw2.out.trans (hw3.mono HBw2.out.size))
      have HXxw3 := Lib.hid (HXxw2.out.keep hw3)
      clear hw3 HBw2 HXxw2
      have HXyy := Lib.hid (At3.new w3 23 (.bool (Big.ng x)) (.string (bst (Big.nu x))) (.string (bst (Big.de x))))
      have HBwb := Lib.hid (below_alloc HBw3.out (Nat.le_refl _) (.cells #[.bool (Big.ng x), .string (bst (Big.nu x)), .string (bst (Big.de x))] 23))
      have HXxwb := Lib.hid (HXxw3.out.alloc' (.cells #[.bool (Big.ng x), .string (bst (Big.nu x)), .string (bst (Big.de x))] 23))
      clear HBw3 HXxw3
      have xc0 := HXxwb.out.c0
      have xc1 := HXxwb.out.c1
      have xc2 := HXxwb.out.c2
      have yc0 := HXyy.out.c0
      have yc1 := HXyy.out.c1
      have yc2 := HXyy.out.c2
      go_wp2_with fail
      refine (C1.out _).mono ?_
      generalize w3.alloc (.cells #[.bool (Big.ng x), .string (bst (Big.nu x)), .string (bst (Big.de x))] 23) = wb at *
      clear xc0 xc1 xc2
      clear yc0 yc1 yc2 HXyy
      rintro e w4 ⟨rfl, hw4⟩
      unfold fracV
      have HBw4 := Lib.hid (HBwb.out.trans (hw4.mono HBwb.out.size))
      have HXxw4 := Lib.hid (HXxwb.out.keep hw4)
      clear hw4 HBwb HXxwb
      have HXuwc := Lib.hid (At3.new w4 23 (.bool (Big.ng u)) (.string (bst (Big.nu u))) (.string (bst (Big.de u))))
      have HBwc := Lib.hid (below_alloc HBw4.out (Nat.le_refl _) (.cells #[.bool (Big.ng u), .string (bst (Big.nu u)), .string (bst (Big.de u))] 23))
      have HXxwc := Lib.hid (HXxw4.out.alloc' (.cells #[.bool (Big.ng u), .string (bst (Big.nu u)), .string (bst (Big.de u))] 23))
      clear HBw4 HXxw4
      have xc0 := HXxwc.out.c0
      have xc1 := HXxwc.out.c1
      have xc2 := HXxwc.out.c2
      go_wp2_with fail
      refine (CF.out _).mono ?_
      generalize w4.alloc (.cells #[.bool (Big.ng u), .string (bst (Big.nu u)), .string (bst (Big.de u))] 23) = wc at *
      clear xc0 xc1 xc2
      rintro e w5 ⟨rfl, hw5⟩
      unfold fracV
      have HBw5 := Lib.hid (HBwc.out.trans (hw5.mono HBwc.out.size))
      have HXxw5 := Lib.hid (HXxwc.out.keep hw5)
      have HXuw5 := Lib.hid (HXuwc.out.keep hw5)
      clear hw5 HBwc HXxwc HXuwc
      have HXFwd := Lib.hid (At3.new w5 23 (.bool (Big.ng F)) (.string (bst (Big.nu F))) (.string (bst (Big.de F))))
      have HBwd := Lib.hid (below_alloc HBw5.out (Nat.le_refl _) (.cells #[.bool (Big.ng F), .string (bst (Big.nu F)), .string (bst (Big.de F))] 23))
      have HXxwd := Lib.hid (HXxw5.out.alloc' (.cells #[.bool (Big.ng F), .string (bst (Big.nu F)), .string (bst (Big.de F))] 23))
      have HXuwd := Lib.hid (HXuw5.out.alloc' (.cells #[.bool (Big.ng F), .string (bst (Big.nu F)), .string (bst (Big.de F))] 23))
      clear HBw5 HXxw5 HXuw5
      have xc0 := HXxwd.out.c0
      have xc1 := HXxwd.out.c1
      have xc2 := HXxwd.out.c2
      have Fc0 := HXFwd.out.c0
      have Fc1 := HXFwd.out.c1
      have Fc2 := HXFwd.out.c2
      go_wp2_with fail
      refine (CC.out _).mono ?_
      generalize w5.alloc (.cells #[.bool (Big.ng F), .string (bst (Big.nu F)), .string (bst (Big.de F))] 23) = wd at *
      clear xc0 xc1 xc2 Fc0 Fc1 Fc2
      rintro e w6 ⟨rfl, hw6⟩
      have HBw6 := Lib.hid (HBwd.out.trans (hw6.mono HBwd.out.size))
      have HXxw6 := Lib.hid (HXxwd.out.keep hw6)
      have HXuw6 := Lib.hid (HXuwd.out.keep hw6)
      have HXFw6 := Lib.hid (HXFwd.out.keep hw6)
      clear hw6 HBwd HXxwd HXuwd HXFwd
      have uc0 := HXuw6.out.c0
      have uc1 := HXuw6.out.c1
      have uc2 := HXuw6.out.c2
      have Fc0 := HXFw6.out.c0
      have Fc1 := HXFw6.out.c1
      have Fc2 := HXFw6.out.c2
      go_wp2_with fail
      refine (CA.out _).mono ?_
      clear uc0 uc1 uc2 Fc0 Fc1 Fc2
      rintro e w7 ⟨rfl, hw7⟩
      unfold fracV
      have HBw7 := Lib.hid (HBw6.out.trans (hw7.mono HBw6.out.size))
      have HXxw7 := Lib.hid (HXxw6.out.keep hw7)
      have HXuw7 := Lib.hid (HXuw6.out.keep hw7)
      have HXFw7 := Lib.hid (HXFw6.out.keep hw7)
      clear hw7 HBw6 HXxw6 HXuw6 HXFw6
      have HXNwe := Lib.hid (At3.new w7 23 (.bool (Big.ng N)) (.string (bst (Big.nu N))) (.string (bst (Big.de N))))
      have HBwe := Lib.hid (below_alloc HBw7.out (Nat.le_refl _) (.cells #[.bool (Big.ng N), .string (bst (Big.nu N)), .string (bst (Big.de N))] 23))
      have HXxwe := Lib.hid (HXxw7.out.alloc' (.cells #[.bool (Big.ng N), .string (bst (Big.nu N)), .string (bst (Big.de N))] 23))
      have HXuwe := Lib.hid (HXuw7.out.alloc' (.cells #[.bool (Big.ng N), .string (bst (Big.nu N)), .string (bst (Big.de N))] 23))
      have HXFwe := Lib.hid (HXFw7.out.alloc' (.cells #[.bool (Big.ng N), .string (bst (Big.nu N)), .string (bst (Big.de N))] 23))
      clear HBw7 HXxw7 HXuw7 HXFw7
      have xc0 := HXxwe.out.c0
      have xc1 := HXxwe.out.c1
      have xc2 := HXxwe.out.c2
      have Nc0 := HXNwe.out.c0
      have Nc1 := HXNwe.out.c1
      have Nc2 := HXNwe.out.c2
      go_wp2_with fail
      refine (CD.out _).mono ?_
      generalize w7.alloc (.cells #[.bool (Big.ng N), .string (bst (Big.nu N)), .string (bst (Big.de N))] 23) = we at *
      clear xc0 xc1 xc2 Nc0 Nc1 Nc2
      rintro e w8 ⟨rfl, hw8⟩
      have HBw8 := Lib.hid (HBwe.out.trans (hw8.mono HBwe.out.size))
      have HXxw8 := Lib.hid (HXxwe.out.keep hw8)
      have HXuw8 := Lib.hid (HXuwe.out.keep hw8)
      have HXFw8 := Lib.hid (HXFwe.out.keep hw8)
      have HXNw8 := Lib.hid (HXNwe.out.keep hw8)
      clear hw8 HBwe HXxwe HXuwe HXFwe HXNwe
      have Fc0 := HXFw8.out.c0
      have Fc1 := HXFw8.out.c1
      have Fc2 := HXFw8.out.c2
      go_wp2_with fail
      refine (CI.out _).mono ?_
      clear Fc0 Fc1 Fc2
      rintro e w9 ⟨rfl, hw9⟩
      have HBw9 := Lib.hid (HBw8.out.trans (hw9.mono HBw8.out.size))
      have HXxw9 := Lib.hid (HXxw8.out.keep hw9)
      have HXuw9 := Lib.hid (HXuw8.out.keep hw9)
      have HXFw9 := Lib.hid (HXFw8.out.keep hw9)
      have HXNw9 := Lib.hid (HXNw8.out.keep hw9)
      clear hw9 HBw8 HXxw8 HXuw8 HXFw8 HXNw8
      have CWk := Lib.hid (CW.out _ (HT.out.keep HBw9.out))
      go_wp2_with (first | (go_at_call 11; refine CWk.out.mono ?_; rintro e w10 ⟨rfl, hw10⟩) | fail)
      go_ret
      exact ⟨rfl, HBw9.out.trans (hw10.mono HBw9.out.size)⟩
end Go.Proofs.YtfenjkgbedbleaaGreatDoor
