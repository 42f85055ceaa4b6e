/- THE LAW RatioBack, PROVED: of any two numbers the text comes back, and Floor is the whole number below. It holds for every input; the listed tables lie as the program's text lays them. -/
import Derived.Test.YtjhoiichkgjdaaaGreatDoorBk18
import Derived.Test.YtjhoiichkgjdaaaGreatDoorBk19
import Derived.Test.YtjhoiichkgjdaaaGreatDoorBk15
import Derived.Test.YtjhoiichkgjdaaaGreatDoorRows
import Derived.Test.YtjhoiichkgjdaaaGreatDoorBk16
import Derived.WalkKit
import Derived.ProofKit
import Derived.OpenShut
import Derived.ChangeSame
import Derived.ChangeVars
import Derived.JoinedOf
import Derived.LaidMore
import Derived.Lib.LaidTab
import Derived.Stop.Joined
import Derived.SizedLaws
import Derived.HandedShaped
import Derived.Shelf.Vars
import Derived.Test.YtjhoiichkgjdaaaGreatDoorCards
import Derived.Test.YtjhoiichkgjdaaaGreatDoorTie
import Derived.SevenTiedAt
/- THE LAW RatioBack, walked. -/
namespace Go.Proofs.YtjhoiichkgjdaaaGreatDoor
open Go.RowKit

set_option maxRecDepth 100000 in
set_option maxHeartbeats 4000000 in
theorem lawBack_any (w : World) (a0 a1 : Int) (h0 : -9223372036854775808 ≤ a0) (h1 : a0 ≤ 9223372036854775807) (h2 : -9223372036854775808 ≤ a1) (h3 : a1 ≤ 9223372036854775807) (htab : Tab w) (hm : MC w) :
    Calls Tryz.prog 7 #[.int .i64 a0, .int .i64 a1] w fun e w' => e = .returned (.bool true) ∧ Below w.heap.size w w' := by
  have HT := Lib.hid htab; have HM := Lib.hid hm
  have HB0 := Lib.hid (Below.refl w.heap.size w)
  have CW := Lib.hid (fun W h => lworks_any W h)
  clear htab hm
  by_cases hd : a1 = 0
  · subst hd
    obtain ⟨i, b, ci, hb⟩ := back_int64 a0 1 (by omega) (by omega) (by omega) (by omega) (by omega)
    have hby : By 8 (ofQ a0 1) := ofQ_by (by omega) (by omega) (by omega)
    have hfl : By 8 (Big.flQ (ofQ a0 1)) := ⟨Nat.lt_of_le_of_lt (back_small a0 1 (by omega) (by omega) (by omega) (by omega) (by omega)).1 (by decide), by rw [(Big.flQ_parts _).2.2]; decide⟩
    have hon : By 1 (ofQ 1 1) := ofQ_by (by omega) (by omega) (by omega)
    have f1 := hby.fit (by omega); have f2 := hfl.fit (by omega); have f3 := hon.fit (by omega); have f4 := (hfl.add hon).fit (by omega)
    have CO := Lib.hid (fun W => raOf_any W a0 1 (by omega) (by omega) (by omega) (by omega) (by omega))
    have CT := Lib.hid (fun W h => raText_any W _ f1 h)
    have CP := Lib.hid (fun W h => raParse_any W _ f1 h)
    have C1 := Lib.hid (fun W => raOf_any W 1 1 (by omega) (by omega) (by omega) (by omega) (by omega))
    have CF := Lib.hid (fun W => raFloor_fit W _ f1 f2)
    have CC := Lib.hid (fun W => raCmp_any W _ _ f2 f1)
    have CA := Lib.hid (fun W => raAdd_fit W _ _ f2 f3 f4)
    have CD := Lib.hid (fun W => raCmp_any W _ _ f4 f1)
    have CI := Lib.hid ci
    have k1 : decide (Big.cmpQ (Big.flQ (ofQ a0 1)) (ofQ a0 1) ≤ 0) = true := decide_eq_true (cmp_fl _)
    have k2 : decide (0 < Big.cmpQ (Big.flQ (ofQ a0 1) + ofQ 1 1) (ofQ a0 1)) = true := decide_eq_true (cmp_next _)
    clear ci hby hfl hon f1 f2 f3 f4
    generalize Big.cmpQ (Big.flQ (ofQ a0 1)) (ofQ a0 1) = c at *
    generalize Big.cmpQ (Big.flQ (ofQ a0 1) + ofQ 1 1) (ofQ a0 1) = c' at *
    generalize Big.flQ (ofQ a0 1) + ofQ 1 1 = N at *
    generalize Big.flQ (ofQ a0 1) = F at *
    generalize ofQ a0 1 = x at *
    generalize ofQ 1 1 = u at *
    clear h0 h1 h2 h3
    obtain ⟨S, hS⟩ : ∃ z, (⟨(txQ x).toArray⟩ : ByteArray) = z := ⟨_, rfl⟩
    rw [hS] at CT CP
    clear hS
    obtain rfl : b = true := by rcases hb with h | h; exact h; exact absurd h (by decide)
    go_enter Tryz.func7, Tryz.ntmps7
    go_wp2_with fail
    refine (CO.out _).mono ?_
    rintro e w1 ⟨rfl, hw1⟩
    unfold fracV
    have HBw1 := Lib.hid (HB0.out.trans (hw1.mono HB0.out.size))
    clear hw1 HB0 
    have HXxwa := Lib.hid (At3.new w1 23 (.bool (Big.ng x)) (.string (bst (Big.nu x))) (.string (bst (Big.de x))))
    have HBwa := Lib.hid (below_alloc HBw1.out (Nat.le_refl _) (.cells #[.bool (Big.ng x), .string (bst (Big.nu x)), .string (bst (Big.de x))] 23))
    clear HBw1 
    have xc0 := HXxwa.out.c0
    have xc1 := HXxwa.out.c1
    have xc2 := HXxwa.out.c2
    go_wp2_with fail
    refine (CT.out _ (HT.out.keep HBwa.out)).mono ?_
    generalize w1.alloc (.cells #[.bool (Big.ng x), .string (bst (Big.nu x)), .string (bst (Big.de x))] 23) = wa at *
    rintro e w2 ⟨rfl, hw2⟩
    clear xc0 xc1 xc2
    have HBw2 := Lib.hid (HBwa.out.trans (hw2.mono HBwa.out.size))
    have HXxw2 := Lib.hid (HXxwa.out.keep hw2)
    clear hw2 HBwa HXxwa
    go_wp2_with fail
    refine (CP.out _ (HM.out.keep HBw2.out)).mono ?_
    rintro e w3 ⟨rfl, hw3⟩
    unfold fracV
    have HBw3 := Lib.hid (HBw2.out.trans (hw3.mono HBw2.out.size))
    have HXxw3 := Lib.hid (HXxw2.out.keep hw3)
    clear hw3 HBw2 HXxw2
    have HXyy := Lib.hid (At3.new w3 23 (.bool (Big.ng x)) (.string (bst (Big.nu x))) (.string (bst (Big.de x))))
    have HBwb := Lib.hid (below_alloc HBw3.out (Nat.le_refl _) (.cells #[.bool (Big.ng x), .string (bst (Big.nu x)), .string (bst (Big.de x))] 23))
    have HXxwb := Lib.hid (HXxw3.out.alloc' (.cells #[.bool (Big.ng x), .string (bst (Big.nu x)), .string (bst (Big.de x))] 23))
    clear HBw3 HXxw3
    have xc0 := HXxwb.out.c0
    have xc1 := HXxwb.out.c1
    have xc2 := HXxwb.out.c2
    have yc0 := HXyy.out.c0
    have yc1 := HXyy.out.c1
    have yc2 := HXyy.out.c2
    go_wp2_with fail
    refine (C1.out _).mono ?_
    generalize w3.alloc (.cells #[.bool (Big.ng x), .string (bst (Big.nu x)), .string (bst (Big.de x))] 23) = wb at *
    clear xc0 xc1 xc2
    clear yc0 yc1 yc2 HXyy
    rintro e w4 ⟨rfl, hw4⟩
    unfold fracV
    have HBw4 := Lib.hid (HBwb.out.trans (hw4.mono HBwb.out.size))
    have HXxw4 := Lib.hid (HXxwb.out.keep hw4)
    clear hw4 HBwb HXxwb
    have HXuwc := Lib.hid (At3.new w4 23 (.bool (Big.ng u)) (.string (bst (Big.nu u))) (.string (bst (Big.de u))))
    have HBwc := Lib.hid (below_alloc HBw4.out (Nat.le_refl _) (.cells #[.bool (Big.ng u), .string (bst (Big.nu u)), .string (bst (Big.de u))] 23))
    have HXxwc := Lib.hid (HXxw4.out.alloc' (.cells #[.bool (Big.ng u), .string (bst (Big.nu u)), .string (bst (Big.de u))] 23))
    clear HBw4 HXxw4
    have xc0 := HXxwc.out.c0
    have xc1 := HXxwc.out.c1
    have xc2 := HXxwc.out.c2
    go_wp2_with fail
    refine (CF.out _).mono ?_
    generalize w4.alloc (.cells #[.bool (Big.ng u), .string (bst (Big.nu u)), .string (bst (Big.de u))] 23) = wc at *
    clear xc0 xc1 xc2
    rintro e w5 ⟨rfl, hw5⟩
    unfold fracV
    have HBw5 := Lib.hid (HBwc.out.trans (hw5.mono HBwc.out.size))
    have HXxw5 := Lib.hid (HXxwc.out.keep hw5)
    have HXuw5 := Lib.hid (HXuwc.out.keep hw5)
    clear hw5 HBwc HXxwc HXuwc
    have HXFwd := Lib.hid (At3.new w5 23 (.bool (Big.ng F)) (.string (bst (Big.nu F))) (.string (bst (Big.de F))))
    have HBwd := Lib.hid (below_alloc HBw5.out (Nat.le_refl _) (.cells #[.bool (Big.ng F), .string (bst (Big.nu F)), .string (bst (Big.de F))] 23))
    have HXxwd := Lib.hid (HXxw5.out.alloc' (.cells #[.bool (Big.ng F), .string (bst (Big.nu F)), .string (bst (Big.de F))] 23))
    have HXuwd := Lib.hid (HXuw5.out.alloc' (.cells #[.bool (Big.ng F), .string (bst (Big.nu F)), .string (bst (Big.de F))] 23))
    clear HBw5 HXxw5 HXuw5
    have xc0 := HXxwd.out.c0
    have xc1 := HXxwd.out.c1
    have xc2 := HXxwd.out.c2
    have Fc0 := HXFwd.out.c0
    have Fc1 := HXFwd.out.c1
    have Fc2 := HXFwd.out.c2
    go_wp2_with fail
    refine (CC.out _).mono ?_
    generalize w5.alloc (.cells #[.bool (Big.ng F), .string (bst (Big.nu F)), .string (bst (Big.de F))] 23) = wd at *
    clear xc0 xc1 xc2 Fc0 Fc1 Fc2
    rintro e w6 ⟨rfl, hw6⟩
    have HBw6 := Lib.hid (HBwd.out.trans (hw6.mono HBwd.out.size))
    have HXxw6 := Lib.hid (HXxwd.out.keep hw6)
    have HXuw6 := Lib.hid (HXuwd.out.keep hw6)
    have HXFw6 := Lib.hid (HXFwd.out.keep hw6)
    clear hw6 HBwd HXxwd HXuwd HXFwd
    have uc0 := HXuw6.out.c0
    have uc1 := HXuw6.out.c1
    have uc2 := HXuw6.out.c2
    have Fc0 := HXFw6.out.c0
    have Fc1 := HXFw6.out.c1
    have Fc2 := HXFw6.out.c2
    go_wp2_with fail
    refine (CA.out _).mono ?_
    clear uc0 uc1 uc2 Fc0 Fc1 Fc2
    rintro e w7 ⟨rfl, hw7⟩
    unfold fracV
    have HBw7 := Lib.hid (HBw6.out.trans (hw7.mono HBw6.out.size))
    have HXxw7 := Lib.hid (HXxw6.out.keep hw7)
    have HXuw7 := Lib.hid (HXuw6.out.keep hw7)
    have HXFw7 := Lib.hid (HXFw6.out.keep hw7)
    clear hw7 HBw6 HXxw6 HXuw6 HXFw6
    have HXNwe := Lib.hid (At3.new w7 23 (.bool (Big.ng N)) (.string (bst (Big.nu N))) (.string (bst (Big.de N))))
    have HBwe := Lib.hid (below_alloc HBw7.out (Nat.le_refl _) (.cells #[.bool (Big.ng N), .string (bst (Big.nu N)), .string (bst (Big.de N))] 23))
    have HXxwe := Lib.hid (HXxw7.out.alloc' (.cells #[.bool (Big.ng N), .string (bst (Big.nu N)), .string (bst (Big.de N))] 23))
    have HXuwe := Lib.hid (HXuw7.out.alloc' (.cells #[.bool (Big.ng N), .string (bst (Big.nu N)), .string (bst (Big.de N))] 23))
    have HXFwe := Lib.hid (HXFw7.out.alloc' (.cells #[.bool (Big.ng N), .string (bst (Big.nu N)), .string (bst (Big.de N))] 23))
    clear HBw7 HXxw7 HXuw7 HXFw7
    have xc0 := HXxwe.out.c0
    have xc1 := HXxwe.out.c1
    have xc2 := HXxwe.out.c2
    have Nc0 := HXNwe.out.c0
    have Nc1 := HXNwe.out.c1
    have Nc2 := HXNwe.out.c2
    go_wp2_with fail
    refine (CD.out _).mono ?_
    generalize w7.alloc (.cells #[.bool (Big.ng N), .string (bst (Big.nu N)), .string (bst (Big.de N))] 23) = we at *
    clear xc0 xc1 xc2 Nc0 Nc1 Nc2
    rintro e w8 ⟨rfl, hw8⟩
    have HBw8 := Lib.hid (HBwe.out.trans (hw8.mono HBwe.out.size))
    have HXxw8 := Lib.hid (HXxwe.out.keep hw8)
    have HXuw8 := Lib.hid (HXuwe.out.keep hw8)
    have HXFw8 := Lib.hid (HXFwe.out.keep hw8)
    have HXNw8 := Lib.hid (HXNwe.out.keep hw8)
    clear hw8 HBwe HXxwe HXuwe HXFwe HXNwe
    have Fc0 := HXFw8.out.c0
    have Fc1 := HXFw8.out.c1
    have Fc2 := HXFw8.out.c2
    go_wp2_with fail
    refine (CI.out _).mono ?_
    clear Fc0 Fc1 Fc2
    rintro e w9 ⟨rfl, hw9⟩
    have HBw9 := Lib.hid (HBw8.out.trans (hw9.mono HBw8.out.size))
    have HXxw9 := Lib.hid (HXxw8.out.keep hw9)
    have HXuw9 := Lib.hid (HXuw8.out.keep hw9)
    have HXFw9 := Lib.hid (HXFw8.out.keep hw9)
    have HXNw9 := Lib.hid (HXNw8.out.keep hw9)
    clear hw9 HBw8 HXxw8 HXuw8 HXFw8 HXNw8
    have CWk := Lib.hid (CW.out _ (HT.out.keep HBw9.out))
    go_wp2_with (first | (go_at_call 18; refine CWk.out.mono ?_; rintro e w10 ⟨rfl, hw10⟩) | fail)
    go_ret
    exact ⟨rfl, HBw9.out.trans (hw10.mono HBw9.out.size)⟩
  · have hd0 : (a1 == 0) = false := beq_eq_false_iff_ne.2 hd
    obtain ⟨i, b, ci, hb⟩ := back_int64 a0 a1 (by omega) (by omega) (by omega) (by omega) hd
    have hby : By 8 (ofQ a0 a1) := ofQ_by (by omega) (by omega) hd
    have hfl : By 8 (Big.flQ (ofQ a0 a1)) := ⟨Nat.lt_of_le_of_lt (back_small a0 a1 (by omega) (by omega) (by omega) (by omega) hd).1 (by decide), by rw [(Big.flQ_parts _).2.2]; decide⟩
    have hon : By 1 (ofQ 1 1) := ofQ_by (by omega) (by omega) (by omega)
    have f1 := hby.fit (by omega); have f2 := hfl.fit (by omega); have f3 := hon.fit (by omega); have f4 := (hfl.add hon).fit (by omega)
    have CO := Lib.hid (fun W => raOf_any W a0 a1 (by omega) (by omega) (by omega) (by omega) hd)
    have CT := Lib.hid (fun W h => raText_any W _ f1 h)
    have CP := Lib.hid (fun W h => raParse_any W _ f1 h)
    have C1 := Lib.hid (fun W => raOf_any W 1 1 (by omega) (by omega) (by omega) (by omega) (by omega))
    have CF := Lib.hid (fun W => raFloor_fit W _ f1 f2)
    have CC := Lib.hid (fun W => raCmp_any W _ _ f2 f1)
    have CA := Lib.hid (fun W => raAdd_fit W _ _ f2 f3 f4)
    have CD := Lib.hid (fun W => raCmp_any W _ _ f4 f1)
    have CI := Lib.hid ci
    have k1 : decide (Big.cmpQ (Big.flQ (ofQ a0 a1)) (ofQ a0 a1) ≤ 0) = true := decide_eq_true (cmp_fl _)
    have k2 : decide (0 < Big.cmpQ (Big.flQ (ofQ a0 a1) + ofQ 1 1) (ofQ a0 a1)) = true := decide_eq_true (cmp_next _)
    clear ci hby hfl hon f1 f2 f3 f4
    generalize Big.cmpQ (Big.flQ (ofQ a0 a1)) (ofQ a0 a1) = c at *
    generalize Big.cmpQ (Big.flQ (ofQ a0 a1) + ofQ 1 1) (ofQ a0 a1) = c' at *
    generalize Big.flQ (ofQ a0 a1) + ofQ 1 1 = N at *
    generalize Big.flQ (ofQ a0 a1) = F at *
    generalize ofQ a0 a1 = x at *
    generalize ofQ 1 1 = u at *
    clear h0 h1 h2 h3
    obtain ⟨S, hS⟩ : ∃ z, (⟨(txQ x).toArray⟩ : ByteArray) = z := ⟨_, rfl⟩
    rw [hS] at CT CP
    clear hS
    cases b with
    | true =>
      go_enter Tryz.func7, Tryz.ntmps7
      go_wp2_with fail
      refine (CO.out _).mono ?_
      rintro e w1 ⟨rfl, hw1⟩
      unfold fracV
      have HBw1 := Lib.hid (HB0.out.trans (hw1.mono HB0.out.size))
      clear hw1 HB0 
      have HXxwa := Lib.hid (At3.new w1 23 (.bool (Big.ng x)) (.string (bst (Big.nu x))) (.string (bst (Big.de x))))
      have HBwa := Lib.hid (below_alloc HBw1.out (Nat.le_refl _) (.cells #[.bool (Big.ng x), .string (bst (Big.nu x)), .string (bst (Big.de x))] 23))
      clear HBw1 
      have xc0 := HXxwa.out.c0
      have xc1 := HXxwa.out.c1
      have xc2 := HXxwa.out.c2
      go_wp2_with fail
      refine (CT.out _ (HT.out.keep HBwa.out)).mono ?_
      generalize w1.alloc (.cells #[.bool (Big.ng x), .string (bst (Big.nu x)), .string (bst (Big.de x))] 23) = wa at *
      rintro e w2 ⟨rfl, hw2⟩
      clear xc0 xc1 xc2
      have HBw2 := Lib.hid (HBwa.out.trans (hw2.mono HBwa.out.size))
      have HXxw2 := Lib.hid (HXxwa.out.keep hw2)
      clear hw2 HBwa HXxwa
      go_wp2_with fail
      refine (CP.out _ (HM.out.keep HBw2.out)).mono ?_
      rintro e w3 ⟨rfl, hw3⟩
      unfold fracV
      have HBw3 := Lib.hid (HBw2.out.trans (hw3.mono HBw2.out.size))
      have HXxw3 := Lib.hid (HXxw2.out.keep hw3)
      clear hw3 HBw2 HXxw2
      have HXyy := Lib.hid (At3.new w3 23 (.bool (Big.ng x)) (.string (bst (Big.nu x))) (.string (bst (Big.de x))))
      have HBwb := Lib.hid (below_alloc HBw3.out (Nat.le_refl _) (.cells #[.bool (Big.ng x), .string (bst (Big.nu x)), .string (bst (Big.de x))] 23))
      have HXxwb := Lib.hid (HXxw3.out.alloc' (.cells #[.bool (Big.ng x), .string (bst (Big.nu x)), .string (bst (Big.de x))] 23))
      clear HBw3 HXxw3
      have xc0 := HXxwb.out.c0
      have xc1 := HXxwb.out.c1
      have xc2 := HXxwb.out.c2
      have yc0 := HXyy.out.c0
      have yc1 := HXyy.out.c1
      have yc2 := HXyy.out.c2
      go_wp2_with fail
      refine (C1.out _).mono ?_
      generalize w3.alloc (.cells #[.bool (Big.ng x), .string (bst (Big.nu x)), .string (bst (Big.de x))] 23) = wb at *
      clear xc0 xc1 xc2
      clear yc0 yc1 yc2 HXyy
      rintro e w4 ⟨rfl, hw4⟩
      unfold fracV
      have HBw4 := Lib.hid (HBwb.out.trans (hw4.mono HBwb.out.size))
      have HXxw4 := Lib.hid (HXxwb.out.keep hw4)
      clear hw4 HBwb HXxwb
      have HXuwc := Lib.hid (At3.new w4 23 (.bool (Big.ng u)) (.string (bst (Big.nu u))) (.string (bst (Big.de u))))
      have HBwc := Lib.hid (below_alloc HBw4.out (Nat.le_refl _) (.cells #[.bool (Big.ng u), .string (bst (Big.nu u)), .string (bst (Big.de u))] 23))
      have HXxwc := Lib.hid (HXxw4.out.alloc' (.cells #[.bool (Big.ng u), .string (bst (Big.nu u)), .string (bst (Big.de u))] 23))
      clear HBw4 HXxw4
      have xc0 := HXxwc.out.c0
      have xc1 := HXxwc.out.c1
      have xc2 := HXxwc.out.c2
      go_wp2_with fail
      refine (CF.out _).mono ?_
      generalize w4.alloc (.cells #[.bool (Big.ng u), .string (bst (Big.nu u)), .string (bst (Big.de u))] 23) = wc at *
      clear xc0 xc1 xc2
      rintro e w5 ⟨rfl, hw5⟩
      unfold fracV
      have HBw5 := Lib.hid (HBwc.out.trans (hw5.mono HBwc.out.size))
      have HXxw5 := Lib.hid (HXxwc.out.keep hw5)
      have HXuw5 := Lib.hid (HXuwc.out.keep hw5)
      clear hw5 HBwc HXxwc HXuwc
      have HXFwd := Lib.hid (At3.new w5 23 (.bool (Big.ng F)) (.string (bst (Big.nu F))) (.string (bst (Big.de F))))
      have HBwd := Lib.hid (below_alloc HBw5.out (Nat.le_refl _) (.cells #[.bool (Big.ng F), .string (bst (Big.nu F)), .string (bst (Big.de F))] 23))
      have HXxwd := Lib.hid (HXxw5.out.alloc' (.cells #[.bool (Big.ng F), .string (bst (Big.nu F)), .string (bst (Big.de F))] 23))
      have HXuwd := Lib.hid (HXuw5.out.alloc' (.cells #[.bool (Big.ng F), .string (bst (Big.nu F)), .string (bst (Big.de F))] 23))
      clear HBw5 HXxw5 HXuw5
      have xc0 := HXxwd.out.c0
      have xc1 := HXxwd.out.c1
      have xc2 := HXxwd.out.c2
      have Fc0 := HXFwd.out.c0
      have Fc1 := HXFwd.out.c1
      have Fc2 := HXFwd.out.c2
      go_wp2_with fail
      refine (CC.out _).mono ?_
      generalize w5.alloc (.cells #[.bool (Big.ng F), .string (bst (Big.nu F)), .string (bst (Big.de F))] 23) = wd at *
      clear xc0 xc1 xc2 Fc0 Fc1 Fc2
      rintro e w6 ⟨rfl, hw6⟩
      have HBw6 := Lib.hid (HBwd.out.trans (hw6.mono HBwd.out.size))
      have HXxw6 := Lib.hid (HXxwd.out.keep hw6)
      have HXuw6 := Lib.hid (HXuwd.out.keep hw6)
      have HXFw6 := Lib.hid (HXFwd.out.keep hw6)
      clear hw6 HBwd HXxwd HXuwd HXFwd
      have uc0 := HXuw6.out.c0
      have uc1 := HXuw6.out.c1
      have uc2 := HXuw6.out.c2
      have Fc0 := HXFw6.out.c0
      have Fc1 := HXFw6.out.c1
      have Fc2 := HXFw6.out.c2
      go_wp2_with fail
      refine (CA.out _).mono ?_
      clear uc0 uc1 uc2 Fc0 Fc1 Fc2
      rintro e w7 ⟨rfl, hw7⟩
      unfold fracV
      have HBw7 := Lib.hid (HBw6.out.trans (hw7.mono HBw6.out.size))
      have HXxw7 := Lib.hid (HXxw6.out.keep hw7)
      have HXuw7 := Lib.hid (HXuw6.out.keep hw7)
      have HXFw7 := Lib.hid (HXFw6.out.keep hw7)
      clear hw7 HBw6 HXxw6 HXuw6 HXFw6
      have HXNwe := Lib.hid (At3.new w7 23 (.bool (Big.ng N)) (.string (bst (Big.nu N))) (.string (bst (Big.de N))))
      have HBwe := Lib.hid (below_alloc HBw7.out (Nat.le_refl _) (.cells #[.bool (Big.ng N), .string (bst (Big.nu N)), .string (bst (Big.de N))] 23))
      have HXxwe := Lib.hid (HXxw7.out.alloc' (.cells #[.bool (Big.ng N), .string (bst (Big.nu N)), .string (bst (Big.de N))] 23))
      have HXuwe := Lib.hid (HXuw7.out.alloc' (.cells #[.bool (Big.ng N), .string (bst (Big.nu N)), .string (bst (Big.de N))] 23))
      have HXFwe := Lib.hid (HXFw7.out.alloc' (.cells #[.bool (Big.ng N), .string (bst (Big.nu N)), .string (bst (Big.de N))] 23))
      clear HBw7 HXxw7 HXuw7 HXFw7
      have xc0 := HXxwe.out.c0
      have xc1 := HXxwe.out.c1
      have xc2 := HXxwe.out.c2
      have Nc0 := HXNwe.out.c0
      have Nc1 := HXNwe.out.c1
      have Nc2 := HXNwe.out.c2
      go_wp2_with fail
      refine (CD.out _).mono ?_
      generalize w7.alloc (.cells #[.bool (Big.ng N), .string (bst (Big.nu N)), .string (bst (Big.de N))] 23) = we at *
      clear xc0 xc1 xc2 Nc0 Nc1 Nc2
      rintro e w8 ⟨rfl, hw8⟩
      have HBw8 := Lib.hid (HBwe.out.trans (hw8.mono HBwe.out.size))
      have HXxw8 := Lib.hid (HXxwe.out.keep hw8)
      have HXuw8 := Lib.hid (HXuwe.out.keep hw8)
      have HXFw8 := Lib.hid (HXFwe.out.keep hw8)
      have HXNw8 := Lib.hid (HXNwe.out.keep hw8)
      clear hw8 HBwe HXxwe HXuwe HXFwe HXNwe
      have Fc0 := HXFw8.out.c0
      have Fc1 := HXFw8.out.c1
      have Fc2 := HXFw8.out.c2
      go_wp2_with fail
      refine (CI.out _).mono ?_
      clear Fc0 Fc1 Fc2
      rintro e w9 ⟨rfl, hw9⟩
      have HBw9 := Lib.hid (HBw8.out.trans (hw9.mono HBw8.out.size))
      have HXxw9 := Lib.hid (HXxw8.out.keep hw9)
      have HXuw9 := Lib.hid (HXuw8.out.keep hw9)
      have HXFw9 := Lib.hid (HXFw8.out.keep hw9)
      have HXNw9 := Lib.hid (HXNw8.out.keep hw9)
      clear hw9 HBw8 HXxw8 HXuw8 HXFw8 HXNw8
      have CWk := Lib.hid (CW.out _ (HT.out.keep HBw9.out))
      go_wp2_with (first | (go_at_call 18; refine CWk.out.mono ?_; rintro e w10 ⟨rfl, hw10⟩) | fail)
      go_ret
      exact ⟨rfl, HBw9.out.trans (hw10.mono HBw9.out.size)⟩
    | false =>
      have hb1 : (a1 == -1) = true := by rcases hb with h | h; exact absurd h (by decide); exact h
      go_enter Tryz.func7, Tryz.ntmps7
      go_wp2_with fail
      refine (CO.out _).mono ?_
      rintro e w1 ⟨rfl, hw1⟩
      unfold fracV
      have HBw1 := Lib.hid (HB0.out.trans (hw1.mono HB0.out.size))
      clear hw1 HB0 
      have HXxwa := Lib.hid (At3.new w1 23 (.bool (Big.ng x)) (.string (bst (Big.nu x))) (.string (bst (Big.de x))))
      have HBwa := Lib.hid (below_alloc HBw1.out (Nat.le_refl _) (.cells #[.bool (Big.ng x), .string (bst (Big.nu x)), .string (bst (Big.de x))] 23))
      clear HBw1 
      have xc0 := HXxwa.out.c0
      have xc1 := HXxwa.out.c1
      have xc2 := HXxwa.out.c2
      go_wp2_with fail
      refine (CT.out _ (HT.out.keep HBwa.out)).mono ?_
      generalize w1.alloc (.cells #[.bool (Big.ng x), .string (bst (Big.nu x)), .string (bst (Big.de x))] 23) = wa at *
      rintro e w2 ⟨rfl, hw2⟩
      clear xc0 xc1 xc2
      have HBw2 := Lib.hid (HBwa.out.trans (hw2.mono HBwa.out.size))
      have HXxw2 := Lib.hid (HXxwa.out.keep hw2)
      clear hw2 HBwa HXxwa
      go_wp2_with fail
      refine (CP.out _ (HM.out.keep HBw2.out)).mono ?_
      rintro e w3 ⟨rfl, hw3⟩
      unfold fracV
      have HBw3 := Lib.hid (HBw2.out.trans (hw3.mono HBw2.out.size))
      have HXxw3 := Lib.hid (HXxw2.out.keep hw3)
      clear hw3 HBw2 HXxw2
      have HXyy := Lib.hid (At3.new w3 23 (.bool (Big.ng x)) (.string (bst (Big.nu x))) (.string (bst (Big.de x))))
      have HBwb := Lib.hid (below_alloc HBw3.out (Nat.le_refl _) (.cells #[.bool (Big.ng x), .string (bst (Big.nu x)), .string (bst (Big.de x))] 23))
      have HXxwb := Lib.hid (HXxw3.out.alloc' (.cells #[.bool (Big.ng x), .string (bst (Big.nu x)), .string (bst (Big.de x))] 23))
      clear HBw3 HXxw3
      have xc0 := HXxwb.out.c0
      have xc1 := HXxwb.out.c1
      have xc2 := HXxwb.out.c2
      have yc0 := HXyy.out.c0
      have yc1 := HXyy.out.c1
      have yc2 := HXyy.out.c2
      go_wp2_with fail
      refine (C1.out _).mono ?_
      generalize w3.alloc (.cells #[.bool (Big.ng x), .string (bst (Big.nu x)), .string (bst (Big.de x))] 23) = wb at *
      clear xc0 xc1 xc2
      clear yc0 yc1 yc2 HXyy
      rintro e w4 ⟨rfl, hw4⟩
      unfold fracV
      have HBw4 := Lib.hid (HBwb.out.trans (hw4.mono HBwb.out.size))
      have HXxw4 := Lib.hid (HXxwb.out.keep hw4)
      clear hw4 HBwb HXxwb
      have HXuwc := Lib.hid (At3.new w4 23 (.bool (Big.ng u)) (.string (bst (Big.nu u))) (.string (bst (Big.de u))))
      have HBwc := Lib.hid (below_alloc HBw4.out (Nat.le_refl _) (.cells #[.bool (Big.ng u), .string (bst (Big.nu u)), .string (bst (Big.de u))] 23))
      have HXxwc := Lib.hid (HXxw4.out.alloc' (.cells #[.bool (Big.ng u), .string (bst (Big.nu u)), .string (bst (Big.de u))] 23))
      clear HBw4 HXxw4
      have xc0 := HXxwc.out.c0
      have xc1 := HXxwc.out.c1
      have xc2 := HXxwc.out.c2
      go_wp2_with fail
      refine (CF.out _).mono ?_
      generalize w4.alloc (.cells #[.bool (Big.ng u), .string (bst (Big.nu u)), .string (bst (Big.de u))] 23) = wc at *
      clear xc0 xc1 xc2
      rintro e w5 ⟨rfl, hw5⟩
      unfold fracV
      have HBw5 := Lib.hid (HBwc.out.trans (hw5.mono HBwc.out.size))
      have HXxw5 := Lib.hid (HXxwc.out.keep hw5)
      have HXuw5 := Lib.hid (HXuwc.out.keep hw5)
      clear hw5 HBwc HXxwc HXuwc
      have HXFwd := Lib.hid (At3.new w5 23 (.bool (Big.ng F)) (.string (bst (Big.nu F))) (.string (bst (Big.de F))))
      have HBwd := Lib.hid (below_alloc HBw5.out (Nat.le_refl _) (.cells #[.bool (Big.ng F), .string (bst (Big.nu F)), .string (bst (Big.de F))] 23))
      have HXxwd := Lib.hid (HXxw5.out.alloc' (.cells #[.bool (Big.ng F), .string (bst (Big.nu F)), .string (bst (Big.de F))] 23))
      have HXuwd := Lib.hid (HXuw5.out.alloc' (.cells #[.bool (Big.ng F), .string (bst (Big.nu F)), .string (bst (Big.de F))] 23))
      clear HBw5 HXxw5 HXuw5
      have xc0 := HXxwd.out.c0
      have xc1 := HXxwd.out.c1
      have xc2 := HXxwd.out.c2
      have Fc0 := HXFwd.out.c0
      have Fc1 := HXFwd.out.c1
      have Fc2 := HXFwd.out.c2
      go_wp2_with fail
      refine (CC.out _).mono ?_
      generalize w5.alloc (.cells #[.bool (Big.ng F), .string (bst (Big.nu F)), .string (bst (Big.de F))] 23) = wd at *
      clear xc0 xc1 xc2 Fc0 Fc1 Fc2
      rintro e w6 ⟨rfl, hw6⟩
      have HBw6 := Lib.hid (HBwd.out.trans (hw6.mono HBwd.out.size))
      have HXxw6 := Lib.hid (HXxwd.out.keep hw6)
      have HXuw6 := Lib.hid (HXuwd.out.keep hw6)
      have HXFw6 := Lib.hid (HXFwd.out.keep hw6)
      clear hw6 HBwd HXxwd HXuwd HXFwd
      have uc0 := HXuw6.out.c0
      have uc1 := HXuw6.out.c1
      have uc2 := HXuw6.out.c2
      have Fc0 := HXFw6.out.c0
      have Fc1 := HXFw6.out.c1
      have Fc2 := HXFw6.out.c2
      go_wp2_with fail
      refine (CA.out _).mono ?_
      clear uc0 uc1 uc2 Fc0 Fc1 Fc2
      rintro e w7 ⟨rfl, hw7⟩
      unfold fracV
      have HBw7 := Lib.hid (HBw6.out.trans (hw7.mono HBw6.out.size))
      have HXxw7 := Lib.hid (HXxw6.out.keep hw7)
      have HXuw7 := Lib.hid (HXuw6.out.keep hw7)
      have HXFw7 := Lib.hid (HXFw6.out.keep hw7)
      clear hw7 HBw6 HXxw6 HXuw6 HXFw6
      have HXNwe := Lib.hid (At3.new w7 23 (.bool (Big.ng N)) (.string (bst (Big.nu N))) (.string (bst (Big.de N))))
      have HBwe := Lib.hid (below_alloc HBw7.out (Nat.le_refl _) (.cells #[.bool (Big.ng N), .string (bst (Big.nu N)), .string (bst (Big.de N))] 23))
      have HXxwe := Lib.hid (HXxw7.out.alloc' (.cells #[.bool (Big.ng N), .string (bst (Big.nu N)), .string (bst (Big.de N))] 23))
      have HXuwe := Lib.hid (HXuw7.out.alloc' (.cells #[.bool (Big.ng N), .string (bst (Big.nu N)), .string (bst (Big.de N))] 23))
      have HXFwe := Lib.hid (HXFw7.out.alloc' (.cells #[.bool (Big.ng N), .string (bst (Big.nu N)), .string (bst (Big.de N))] 23))
      clear HBw7 HXxw7 HXuw7 HXFw7
      have xc0 := HXxwe.out.c0
      have xc1 := HXxwe.out.c1
      have xc2 := HXxwe.out.c2
      have Nc0 := HXNwe.out.c0
      have Nc1 := HXNwe.out.c1
      have Nc2 := HXNwe.out.c2
      go_wp2_with fail
      refine (CD.out _).mono ?_
      generalize w7.alloc (.cells #[.bool (Big.ng N), .string (bst (Big.nu N)), .string (bst (Big.de N))] 23) = we at *
      clear xc0 xc1 xc2 Nc0 Nc1 Nc2
      rintro e w8 ⟨rfl, hw8⟩
      have HBw8 := Lib.hid (HBwe.out.trans (hw8.mono HBwe.out.size))
      have HXxw8 := Lib.hid (HXxwe.out.keep hw8)
      have HXuw8 := Lib.hid (HXuwe.out.keep hw8)
      have HXFw8 := Lib.hid (HXFwe.out.keep hw8)
      have HXNw8 := Lib.hid (HXNwe.out.keep hw8)
      clear hw8 HBwe HXxwe HXuwe HXFwe HXNwe
      have Fc0 := HXFw8.out.c0
      have Fc1 := HXFw8.out.c1
      have Fc2 := HXFw8.out.c2
      go_wp2_with fail
      refine (CI.out _).mono ?_
      clear Fc0 Fc1 Fc2
      rintro e w9 ⟨rfl, hw9⟩
      have HBw9 := Lib.hid (HBw8.out.trans (hw9.mono HBw8.out.size))
      have HXxw9 := Lib.hid (HXxw8.out.keep hw9)
      have HXuw9 := Lib.hid (HXuw8.out.keep hw9)
      have HXFw9 := Lib.hid (HXFw8.out.keep hw9)
      have HXNw9 := Lib.hid (HXNw8.out.keep hw9)
      clear hw9 HBw8 HXxw8 HXuw8 HXFw8 HXNw8
      have CWk := Lib.hid (CW.out _ (HT.out.keep HBw9.out))
      go_wp2_with (first | (go_at_call 18; refine CWk.out.mono ?_; rintro e w10 ⟨rfl, hw10⟩) | fail)
      go_ret
      exact ⟨rfl, HBw9.out.trans (hw10.mono HBw9.out.size)⟩
end Go.Proofs.YtjhoiichkgjdaaaGreatDoor
/- The row's last steps: a call that only makes new memory; the laid table. -/
namespace Go.Proofs.YtjhoiichkgjdaaaGreatDoor
open Go.ChangeShapes Go.WideShapes Go.ChangeAt Go.RowKit

theorem own : ownKnob Tryz.prog.godebug = none := by kernel_rfl
section
variable {H : Type} {enc : TypeId × Value → H} {P : Program}
/-- Plain data came in, and all that the call did is new memory. -/
theorem post_new {f : Func} {s : ChangeSpec} {apart fresh handsOn again : Bool} {W W' : World} {args : Array Value} {v : Value} {ds gs : List (DataW H)}
    (hW : DataW.Whole enc P f.params.toList s.vars apart W args.toList ds gs [])
    (hres : ∀ (b : Nat) (sp : Nat → Bool) (hd : Bool), DataW.TrodAll enc P W' b sp hd f.resultTypes.toList (v.resultList f.resultTypes.size) (s.fn H (ds ++ gs)).results [])
    (hargs : ∀ sp : Nat → Bool, DataW.TrodAll enc P W' 0 sp true f.params.toList args.toList (s.fn H (ds ++ gs)).args [])
    (hvars : ∀ sp : Nat → Bool, DataW.TrodVars enc P W' sp s.vars (s.fn H (ds ++ gs)).vars [])
    (hb : Below W.heap.size W W')
    (hok : ∀ (j : Nat) (t : TypeId) (r : Value), f.resultTypes[j]? = some t → (v.resultList f.resultTypes.size)[j]? = some r → Value.okWide P W' .any 0 t r) :
    s.post enc P f apart fresh handsOn again W args v W' := by
  have hk : W.keptBut W' (fun p => p ∈ ([] : List MemPlace)) := hb.frame _
  refine ⟨ds, gs, [], [], [], [], hW, hres _ _ _, hargs _, hvars _, World.keptBut_mono (fun p hp => by cases hp) hk, fun _ => ?_⟩
  refine ⟨hok, _, _, [], ⟨[], [], trodAll_append (hargs _) (hres _ _ _), hvars _, rfl, ?_, ?_⟩, ?_⟩
  · intro b off hp; cases hp
  · intro _; simp
  · intro p hp; cases hp
end

theorem gTab : Tryz.prog.globalNamed "internal/strconv.uint64pow10" = some 3 := by kernel_rfl
end Go.Proofs.YtjhoiichkgjdaaaGreatDoor
/- What the listed variables give; the start that meets them. -/
namespace Go.Proofs.YtjhoiichkgjdaaaGreatDoor
open Go.ChangeShapes Go.WideShapes Go.ChangeAt Go.RowKit

def laid3 : List (String × DataW Unit) := [("math/bits.deBruijn32tab", Rows.laid_math_bits_deBruijn32tab), ("math/bits.deBruijn64tab", Rows.laid_math_bits_deBruijn64tab), ("internal/strconv.uint64pow10", Rows.laid_internal_strconv_uint64pow10)]
set_option maxRecDepth 100000 in
theorem door_met (os : Os) (args : Array Value) : laidMetH Tryz.prog laid3 ((World.doorLaid Tryz.prog 4000 os).forCall (fun _ _ => 0) ⟨#[], args, []⟩).memory :=
  laidMetH_of_parts3 (fuel := 8) (laidMet_of_run' 8 (by kernel_rfl) (by kernel_rfl)) (by kernel_rfl) (by kernel_rfl)
theorem tTab : (Tryz.prog.globals[3]?).map (·.type) = some 264 := by kernel_rfl
theorem dTab : (Rows.laid_internal_strconv_uint64pow10 : DataW Unit) = Lib.tabData .u64 Lib.pow10Tab := by rfl
theorem cTab : Tryz.prog.cellsOf 264 = 20 := by kernel_rfl
theorem ceTab : Tryz.prog.cellsOf 106 = 1 := by kernel_rfl
theorem tab_of_laid {W : World} (h : laidMetH Tryz.prog laid3 W) : Tab W := by
  rw [MakeChecks.laidMetH_plain _ _ _ (by kernel_rfl)] at h
  obtain ⟨ps, ⟨g0, t0, cs0, f0, p0, q0, hg0, ht0, hv0, hd0, ⟨g1, t1, cs1, f1, p1, q1, hg1, ht1, hv1, hd1, ⟨g2, t2, cs2, f2, p2, q2, hg2, ht2, hv2, hd2, _, _⟩, _⟩, _⟩, _, _⟩ := h
  obtain rfl := Option.some.inj (gTab.symm.trans hg2)
  obtain rfl := Option.some.inj (tTab.symm.trans ht2)
  rw [dTab] at hd2
  show World.var? Tryz.prog W _ = _
  rw [hv2, ← Lib.cells_of_tab Tryz.underlying264 Tryz.underlying106 ceTab cTab hd2]
end Go.Proofs.YtjhoiichkgjdaaaGreatDoor
/- The plain wrap with the listed variables and the world's shape. -/
namespace Go.Proofs.YtjhoiichkgjdaaaGreatDoor
open Go.ChangeShapes Go.WideShapes Go.ChangeAt Go.RowKit

theorem handed_both {H : Type} {enc : TypeId × Value → H} {C : Checked} {os : Os} {f : FuncId} {fn : Func} {s : ChangeSpec} {apart fresh handsOn again : Bool} {X : World → Array Value → Prop}
    (hX : ∀ (w w' : World) (args : Array Value), w.heap = w'.heap → X w args → X w' args)
    (hown : ownKnob C.prog.godebug = none) (started : os.Started) (noInit : C.prog.inits.idxOf? f = none) (hfn : C.prog.funcs[f]? = some fn)
    (witness : ∃ (w : World) (tape : Tape) (i : Input), w.os = os ∧ (w.forCall tape i).Shaped C.prog ∧ i.vars = [] ∧ Input.okWide C.prog (w.forCall tape i) .any w.heap.size f i ∧
      ((s.pre enc C.prog fn [] apart (w.forCall tape i).memory i.args ∧ X (w.forCall tape i).memory i.args) ∧ sizedMet enc C.prog fn (OpenSpec.ofChange s) apart (w.forCall tape i).memory i.args) ∧ Assume.holds {} C.prog (lone (Frame.enter C.prog f i.args .normal) [] (w.forCall tape i)))
    (contract : ∀ (W : World) (base : Nat) (args : Array Value) (ds gs : List (DataW H)) (before : List MemPlace),
      (∀ (j : Nat) t v, fn.params[j]? = some t → args[j]? = some v → Value.okWide C.prog W .any base t v) →
      DataW.Whole enc C.prog fn.params.toList s.vars apart W args.toList ds gs before → X W args → W.ShapedOpen C.prog →
      Calls C.prog f args W fun e W' => ∃ v, e = .returned v ∧ s.post enc C.prog fn apart fresh handsOn again W args v W') :
    ReturnsInHanded {} C os f .any (fun w args => (s.pre enc C.prog fn [] apart w args ∧ X w args) ∧ sizedMet enc C.prog fn (OpenSpec.ofChange s) apart w args) (s.post enc C.prog fn apart fresh handsOn again) := by
  refine returnsInHanded_of_calls hown started noInit witness ?_
  intro w tape i _ hshape _ hin hp _
  obtain ⟨_, _, _, fn2, hfn2, _, _, _, _, hv⟩ := hin
  obtain rfl : fn2 = fn := Option.some.inj (hfn2.symm.trans hfn)
  obtain ⟨⟨⟨ds, gs, before, hwh, _⟩, hx⟩, _⟩ := hp
  refine (contract (w.forCall tape i) w.heap.size i.args ds gs before hv (DataW.Whole.of_heap (w' := w.forCall tape i) (by rfl) hwh) (hX _ _ _ (by rfl) hx) hshape).mono fun e W' ⟨v, he, hpost⟩ => ?_
  subst he
  exact ChangeSpec.post_blind hpost
end Go.Proofs.YtjhoiichkgjdaaaGreatDoor
/- THE LAW RatioBack, PROVED: of any two numbers the text comes back, and Floor is the whole number below. It holds for every input; the listed tables lie as the program's text lays them. -/
namespace Go.Proofs.YtjhoiichkgjdaaaGreatDoor
open Go.ChangeShapes Go.WideShapes Go.ChangeAt Go.RowKit

set_option maxRecDepth 100000 in
theorem back_lifted (os : Os) (started : os.Started) (H : Type) (enc : TypeId × Value → H) :
    ReturnsInHanded {} Tryz.checked os 7 .any (fun w args => (Rows.ratioBackSpec.pre enc Tryz.prog Tryz.f7 [] false w args ∧ laidMetH Tryz.prog laid3 w) ∧ sizedMet enc Tryz.prog Tryz.f7 (OpenSpec.ofChange Rows.ratioBackSpec) false w args)
      (Rows.ratioBackSpec.post enc Tryz.prog Tryz.f7 false true false false) := by
  refine handed_both (C := Tryz.checked) (X := fun w _ => laidMetH Tryz.prog laid3 w) (fun _ _ _ hh h => h.of_heap hh) own started (by kernel_rfl) Tryz.func7
    (ChangeSpec.witness_shaped (enc := enc) (C := Tryz.checked) (os := os) (X := fun w _ => laidMetH Tryz.prog laid3 w) false (World.doorLaid Tryz.prog 4000 os) #[.int .i64 0, .int .i64 0] 8 rfl (World.shaped_of_RefB (by kernel_rfl) (by kernel_rfl)) (by kernel_rfl) (by kernel_rfl) (by kernel_rfl) (door_met os _)) ?_
  intro W base args ds gs before hval0 hW hL hsh
  have hval : ∀ (j : Nat) t v, Tryz.f7.params[j]? = some t → args[j]? = some v → Value.okWide Tryz.prog W .any base t v := hval0
  have hW' := hW
  obtain ⟨p, q, hA0, hV, rfl, hfz, hnd⟩ := hW
  have hA : DataW.TrodAll enc Tryz.prog W 0 (fun _ => true) true Tryz.f7.params.toList args.toList ds p := hA0
  rw [Tryz.params7] at hA hval
  obtain ⟨v0, vs0, d0, ds0, p0, q0, hargs, rfl, rfl, h0, r0⟩ := trodAll_cons hA
  obtain ⟨v1, vs1, d1, ds1, p1, q1, rfl, rfl, rfl, h1, r1⟩ := trodAll_cons r0
  obtain ⟨rfl, rfl, rfl⟩ := trodAll_nil r1
  obtain rfl : args = #[v0, v1] := by cases args; simp_all
  obtain ⟨rfl, rfl⟩ := trodVars_none hV
  obtain ⟨a0, rfl, rfl, rfl, w0⟩ := open_int Tryz.underlying2 (hval 0 2 v0 rfl rfl) h0
  obtain ⟨a1, rfl, rfl, rfl, w1⟩ := open_int Tryz.underlying2 (hval 1 2 v1 rfl rfl) h1
  have htab := tab_of_laid hL
  have hmc : MC W := Go.Proofs.cell_of_shapedOpen_int (zero := #[.int .i64 0]) (t := 3) hsh (of_decide_eq_true (by kernel_rfl)) (by kernel_rfl) rfl (by kernel_rfl) (by kernel_rfl) Tryz.underlying3
  clear hA0 hval0
  simp only [List.append_nil] at hW'
  have emin : IntKind.i64.min = -9223372036854775808 := by decide
  have b0 : -9223372036854775808 ≤ a0 ∧ a0 ≤ 9223372036854775807 := by simpa [Lit.wf, emin] using w0
  have b1 : -9223372036854775808 ≤ a1 ∧ a1 ≤ 9223372036854775807 := by simpa [Lit.wf, emin] using w1
  refine (lawBack_any W a0 a1 b0.1 b0.2 b1.1 b1.2 htab hmc).mono fun e W' ⟨he, hb⟩ => ?_
  subst he
  exact ⟨_, rfl, post_new hW' (fun _ _ _ => (trodAll_cons_mk (shut_bool Tryz.underlying4 _) trodAll_mk0)) (fun sp => (trodAll_cons_mk (shut_int Tryz.underlying2 w0) (trodAll_cons_mk (shut_int Tryz.underlying2 w1) trodAll_mk0))) (fun _ => rfl)
    hb (ok_one (by kernel_rfl) rfl (okWide_bool_mk Tryz.underlying4 _))⟩

theorem back_holds : Rows.RatioBackSaid :=
  OpenClaim.holds_of_wide 7 Tryz.f7 rfl rfl rfl rfl rfl rfl rfl ⟨rfl, rfl, rfl, rfl, rfl⟩ rfl rfl rfl rfl rfl (by kernel_rfl) Tryz.func7 (by kernel_rfl)
    (of_decide_eq_true (by kernel_rfl)) (by unfold Func.isWrapper; first | (rw [if_pos (by decide +kernel)]; kernel_rfl) | (rw [if_neg (by decide +kernel)]; exact ⟨rfl, rfl⟩))
    (fun os started H enc _ => back_lifted os started H enc)

theorem back_card : Rows.RatioBackCardSaid :=
  Claim7.holds_tied_plain_at .later [] [.data, .data, .data] true (true, "a394dca4820d870897a33c0c109594c1a4e65088091220336bf832d586f71373") false
    back_holds (fun _ h => by cases h) (by kernel_rfl) (fun _ h => by cases h) ratioBack_row_tie rfl ⟨rfl, rfl⟩ (by kernel_rfl) rfl
    (fun f fn hf hfn => by
      obtain rfl : f = 7 := Option.some.inj ((show Tryz.prog.funcNamed "diapason/diapasonlaw01.RatioBack" = some 7 by kernel_rfl).symm.trans hf) |>.symm
      obtain rfl : fn = Tryz.f7 := (Option.some.inj (Tryz.func7.symm.trans hfn)).symm
      exact ⟨by kernel_rfl, fun j t ht => by
        rw [Tryz.params7] at ht
        have h3 : t = 2 := by
          rcases j with _ | _ | j
          · simpa using ht.symm
          · simpa using ht.symm
          · simp at ht
        subst h3
        exact (show Tryz.prog.wantsStandIn 2 = false by kernel_rfl)⟩)
    (by kernel_rfl)
end Go.Proofs.YtjhoiichkgjdaaaGreatDoor
