/- Contracts. -/
import Derived.Test.YtdlhpleabfnogaaGreatDoorLw19
import Derived.Laws.IdiomStrings
import Derived.Test.YtdlhpleabfnogaaGreatDoorLw18
import Derived.Test.YtdlhpleabfnogaaGreatDoorLw10
import Derived.Test.YtdlhpleabfnogaaGreatDoorLwS
namespace Go.Proofs.YtdlhpleabfnogaaGreatDoor
open Go.RowKit
set_option maxRecDepth 100000 in
set_option maxHeartbeats 4000000 in
theorem exMul_any (w : World) (vx vy : Value) (q r : Rat) (k : Nat) (hx : NumIn w vx q) (hy : NumIn w vy r) (sx : Sm k q) (sy : Sm k r) (hk : k ≤ 10000000) :
    Calls Tryz.prog 41 #[vx, vy] w (Num1 w (q * r)) := by
  obtain ⟨A, l, c, A2, l2, c2, rfl, hx1, hx2⟩ := hx.is_agg
  obtain ⟨B, m, d, B2, m2, d2, rfl, hy1, hy2⟩ := hy.is_agg
  have HX := Lib.hid (And.intro hx1 hx2); have HY := Lib.hid (And.intro hy1 hy2)
  have SX := Lib.hid sx; have SY := Lib.hid sy
  have GX := Lib.hid (And.intro (@Big.ng_pos q) (And.intro (@Big.ng_pos r) (And.intro (Big.de_pos q) (Big.de_pos r))))
  have PP := Lib.hid (Big.mul_parts q r)
  clear hx hy hx1 hx2 hy1 hy2 sx sy
  obtain ⟨g1, hg1⟩ : ∃ z, Nat.gcd (Big.nu q) (Big.de r) = z := ⟨_, rfl⟩
  obtain ⟨g2, hg2⟩ : ∃ z, Nat.gcd (Big.nu r) (Big.de q) = z := ⟨_, rfl⟩
  have HG := Lib.hid (And.intro hg1 hg2)
  rw [hg1, hg2] at PP
  clear hg1 hg2
  generalize Big.ng q = nq at *
  generalize Big.ng r = nr at *
  go_enter Tryz.func41, Tryz.ntmps41
  go_wp2_with fail
  obtain ⟨X0, Y0, R0, B0⟩ := boxed3 w 71 71 (.bool nq) (.slice A l c) (.slice A2 l2 c2) (.bool nr) (.slice B m d) (.slice B2 m2 d2) (.bool false) (.slice none 0 0) (.slice none 0 0)
  have HX0 := Lib.hid X0; have HY0 := Lib.hid Y0; have HR0 := Lib.hid R0; have HB0 := Lib.hid B0
  clear X0 Y0 R0 B0
  generalize ((w.alloc (.cells #[.bool nq, .slice A l c, .slice A2 l2 c2] 71)).alloc (.cells #[.bool nr, .slice B m d, .slice B2 m2 d2] 71)).alloc (.cells #[.bool false, .slice none 0 0, .slice none 0 0] 71) = w0 at *
  have KX := Lib.hid (fun W (h : Below w0.heap.size w0 W) => And.intro (HX0.out.keep h).c1 (And.intro (HX0.out.keep h).c2 (And.intro (HY0.out.keep h).c1 (HY0.out.keep h).c2)))
  have C1 := Lib.hid (fun W (h : Below w0.heap.size w0 W) => lift2 h (HG.out.1 ▸ gcd_num W _ _ _ _ k k ((HX.out.1.keep HB0.out).keep h) ((HY.out.2.keep HB0.out).keep h) SX.out.nu SY.out.de (by omega) (by omega)))
  have C2 := Lib.hid (fun W (h : Below w0.heap.size w0 W) => lift2 h (HG.out.2 ▸ gcd_num W _ _ _ _ k k ((HY.out.1.keep HB0.out).keep h) ((HX.out.2.keep HB0.out).keep h) SY.out.nu SX.out.de (by omega) (by omega)))
  go_wp2_with fail
  go_region_held3 (fun w' => w'.cell? ⟨w.heap.size, 1, none⟩ = some (.slice A l c) ∧ w'.cell? ⟨w.heap.size, 2, none⟩ = some (.slice A2 l2 c2) ∧ w'.cell? ⟨w.heap.size + 1, 1, none⟩ = some (.slice B m d) ∧ w'.cell? ⟨w.heap.size + 1, 2, none⟩ = some (.slice B2 m2 d2))
    (exact KX.out _ (by first | assumption | exact Below.refl _ _ | exact below_drew (Below.refl _ _) | exact below_drew (by assumption)))
    (first
      | (go_at_call 67; (with_reducible refine (C1.out _ (by first | assumption | exact Below.refl _ _ | exact below_drew (Below.refl _ _) | exact below_drew (by assumption))).mono ?_); rintro e w2 ⟨v2, rfl, hv2, hw2, hw2'⟩)
      | (go_at_call 67; (with_reducible refine (C2.out _ (by first | assumption | exact Below.refl _ _ | exact below_drew (Below.refl _ _) | exact below_drew (by assumption))).mono ?_); rintro e w3 ⟨v3, rfl, hv3, hw3, hw3'⟩)
      | fail)
  have HB3 := Lib.hid (HB0.out.trans (hw3.mono HB0.out.size))
  have HX3 := Lib.hid (HX0.out.keep hw3); have HY3 := Lib.hid (HY0.out.keep hw3); have HR3 := Lib.hid (HR0.out.keep hw3)
  have HV := Lib.hid (And.intro (hv2.keep hw3') hv3)
  clear hv2 hw2 hw2' hv3 hw3 hw3' HX0 HY0 HR0 HB0 KX C1 C2
  have KX := Lib.hid (fun W (h : Below w3.heap.size w3 W) => And.intro (HX3.out.keep h).c1 (HY3.out.keep h).c1)
  have C1 := Lib.hid (fun W (h : Below w3.heap.size w3 W) => lift2 h (quo_num W _ _ _ _ k ((HX.out.1.keep HB3.out).keep h) (HV.out.1.keep h) SX.out.nu (by omega)))
  have C2 := Lib.hid (fun W (h : Below w3.heap.size w3 W) => lift2 h (quo_num W _ _ _ _ k ((HY.out.1.keep HB3.out).keep h) (HV.out.2.keep h) SY.out.nu (by omega)))
  have CM := Lib.hid (fun W a b (ha : NatIn W a (Big.nu q / g1)) (hb : NatIn W b (Big.nu r / g2)) (h : Below w3.heap.size w3 W) => lift2 h (mul_num W _ _ _ _ k k ha hb (SX.out.nu.le (Nat.div_le_self _ _)) (SY.out.nu.le (Nat.div_le_self _ _)) (by omega) (by omega)))
  go_wp2_with fail
  go_region_held3 (fun w' => w'.cell? ⟨w.heap.size, 1, none⟩ = some (.slice A l c) ∧ w'.cell? ⟨w.heap.size + 1, 1, none⟩ = some (.slice B m d))
    (exact KX.out _ (by first | assumption | exact Below.refl _ _ | exact below_drew (Below.refl _ _) | exact below_drew (by assumption)))
    (first
      | (go_at_call 68; (with_reducible refine (C1.out _ (by first | assumption | exact Below.refl _ _ | exact below_drew (Below.refl _ _) | exact below_drew (by assumption))).mono ?_); rintro e w4 ⟨v4, rfl, hv4, hw4, hw4'⟩)
      | (go_at_call 68; (with_reducible refine (C2.out _ (by first | assumption | exact Below.refl _ _ | exact below_drew (Below.refl _ _) | exact below_drew (by assumption))).mono ?_); rintro e w5 ⟨v5, rfl, hv5, hw5, hw5'⟩)
      | (go_at_call 79; (with_reducible refine (CM.out _ _ _ (by first | exact hv4.keep hw5' | exact NatIn.dr (hv4.keep hw5')) (by first | exact hv5 | exact NatIn.dr (hv5)) (by first | assumption | exact Below.refl _ _ | exact below_drew (Below.refl _ _) | exact below_drew (by assumption))).mono ?_); rintro e w6 ⟨v6, rfl, hv6, hw6, hw6'⟩)
      | fail)
  have HB6 := Lib.hid (HB3.out.trans (hw6.mono HB3.out.size))
  have HX6 := Lib.hid (HX3.out.keep hw6); have HY6 := Lib.hid (HY3.out.keep hw6); have HR6 := Lib.hid (HR3.out.keep hw6)
  have HV6 := Lib.hid (And.intro (HV.out.1.keep hw6) (And.intro (HV.out.2.keep hw6) hv6))
  clear hv4 hw4 hw4' hv5 hw5 hw5' hv6 hw6 hw6' HX3 HY3 HR3 HB3 HV KX C1 C2 CM
  have KX := Lib.hid (fun W (h : Below w6.heap.size w6 W) => And.intro (HX6.out.keep h).c2 (HY6.out.keep h).c2)
  have C1 := Lib.hid (fun W (h : Below w6.heap.size w6 W) => lift2 h (quo_num W _ _ _ _ k ((HX.out.2.keep HB6.out).keep h) (HV6.out.2.1.keep h) SX.out.de (by omega)))
  have C2 := Lib.hid (fun W (h : Below w6.heap.size w6 W) => lift2 h (quo_num W _ _ _ _ k ((HY.out.2.keep HB6.out).keep h) (HV6.out.1.keep h) SY.out.de (by omega)))
  have CM := Lib.hid (fun W a b (ha : NatIn W a (Big.de q / g2)) (hb : NatIn W b (Big.de r / g1)) (h : Below w6.heap.size w6 W) => lift2 h (mul_num W _ _ _ _ k k ha hb (SX.out.de.le (Nat.div_le_self _ _)) (SY.out.de.le (Nat.div_le_self _ _)) (by omega) (by omega)))
  go_wp2_with fail
  go_region_held3 (fun w' => w'.cell? ⟨w.heap.size, 2, none⟩ = some (.slice A2 l2 c2) ∧ w'.cell? ⟨w.heap.size + 1, 2, none⟩ = some (.slice B2 m2 d2))
    (exact KX.out _ (by first | assumption | exact Below.refl _ _ | exact below_drew (Below.refl _ _) | exact below_drew (by assumption)))
    (first
      | (go_at_call 68; (with_reducible refine (C1.out _ (by first | assumption | exact Below.refl _ _ | exact below_drew (Below.refl _ _) | exact below_drew (by assumption))).mono ?_); rintro e w7 ⟨v7, rfl, hv7, hw7, hw7'⟩)
      | (go_at_call 68; (with_reducible refine (C2.out _ (by first | assumption | exact Below.refl _ _ | exact below_drew (Below.refl _ _) | exact below_drew (by assumption))).mono ?_); rintro e w8 ⟨v8, rfl, hv8, hw8, hw8'⟩)
      | (go_at_call 79; (with_reducible refine (CM.out _ _ _ (by first | exact hv7.keep hw8' | exact NatIn.dr (hv7.keep hw8')) (by first | exact hv8 | exact NatIn.dr (hv8)) (by first | assumption | exact Below.refl _ _ | exact below_drew (Below.refl _ _) | exact below_drew (by assumption))).mono ?_); rintro e w9 ⟨v9, rfl, hv9, hw9, hw9'⟩)
      | fail)
  have HB9 := Lib.hid (HB6.out.trans (hw9.mono HB6.out.size))
  have X9 := HX6.out.keep hw9; have Y9 := HY6.out.keep hw9
  have x0 := X9.c0; have y0 := Y9.c0
  have RR := HR6.out.keep hw9
  have k0 := RR.c0; have k1 := RR.c1; have k2 := RR.c2; have f0 := RR.frozen 0; have f1 := RR.frozen 1; have f2 := RR.frozen 2
  have h6 := HV6.out.2.2.keep hw9
  obtain ⟨A6, l6, c6, rfl, hl6⟩ := h6.is_slice
  obtain ⟨A9, l9, c9, rfl, hl9⟩ := hv9.is_slice
  rw [← PP.out.2.2] at hv9
  rw [← PP.out.2.1] at h6 hl6
  have HH := Lib.hid (And.intro h6 hv9)
  have HNG := Lib.hid (show Big.ng (q * r) = ((nq != nr) && decide (0 < l6)) by
    rw [PP.out.1, ← PP.out.2.1]; congr 1; rw [decide_eq_decide, Nat.pos_iff_ne_zero, Nat.pos_iff_ne_zero, Ne, Ne, hl6])
  have HRR := Lib.hid RR
  clear hv7 hw7 hw7' hv8 hw8 hw8' hv9 hw9 hw9' HX6 HY6 HR6 HB6 HV6 KX C1 C2 CM X9 Y9 h6 hl6 hl9 RR PP HX HY SX SY GX HG
  rcases Nat.eq_zero_or_pos l6 with hl0 | hl0
  · subst hl0
    rw [decide_eq_false (by omega), Bool.and_false] at HNG
    cases nq
    · cases nr
      · go_wp2_with fail
        obtain ⟨D1, D2, D3⟩ := num_done (bb := false) (show NumRes w9 _ _ from HRR.out) HB9.out (by omega) HH.out.1 HH.out.2 HNG.out.symm
        have HD1 := Lib.hid D1; have HD2 := Lib.hid D2; have HD3 := Lib.hid D3
        clear D1 D2 D3 k0 k1 k2 f0 f1 f2
        generalize (((w9.setCell ⟨w.heap.size + 1 + 1, 0, none⟩ (.bool (false))).setCell ⟨w.heap.size + 1 + 1, 1, none⟩ (.slice A6 0 c6)).setCell ⟨w.heap.size + 1 + 1, 2, none⟩ (.slice A9 l9 c9)) = wz at HD1 HD2 HD3 ⊢
        have r0 := HD1.out.c0; have r1 := HD1.out.c1; have r2 := HD1.out.c2
        go_wp2_with fail
        exact bodyPost_ret (v := .agg #[.bool (false), (.slice A6 0 c6), (.slice A9 l9 c9)]) (by simp [results, Tryz.results41, go_sem, r0, r1, r2]) rfl ⟨_, rfl, HD2.out, HD3.out⟩
      · go_wp2_with fail
        obtain ⟨D1, D2, D3⟩ := num_done (bb := false) (show NumRes w9 _ _ from HRR.out) HB9.out (by omega) HH.out.1 HH.out.2 HNG.out.symm
        have HD1 := Lib.hid D1; have HD2 := Lib.hid D2; have HD3 := Lib.hid D3
        clear D1 D2 D3 k0 k1 k2 f0 f1 f2
        generalize (((w9.setCell ⟨w.heap.size + 1 + 1, 0, none⟩ (.bool (false))).setCell ⟨w.heap.size + 1 + 1, 1, none⟩ (.slice A6 0 c6)).setCell ⟨w.heap.size + 1 + 1, 2, none⟩ (.slice A9 l9 c9)) = wz at HD1 HD2 HD3 ⊢
        have r0 := HD1.out.c0; have r1 := HD1.out.c1; have r2 := HD1.out.c2
        go_wp2_with fail
        exact bodyPost_ret (v := .agg #[.bool (false), (.slice A6 0 c6), (.slice A9 l9 c9)]) (by simp [results, Tryz.results41, go_sem, r0, r1, r2]) rfl ⟨_, rfl, HD2.out, HD3.out⟩
    · cases nr
      · go_wp2_with fail
        obtain ⟨D1, D2, D3⟩ := num_done (bb := false) (show NumRes w9 _ _ from HRR.out) HB9.out (by omega) HH.out.1 HH.out.2 HNG.out.symm
        have HD1 := Lib.hid D1; have HD2 := Lib.hid D2; have HD3 := Lib.hid D3
        clear D1 D2 D3 k0 k1 k2 f0 f1 f2
        generalize (((w9.setCell ⟨w.heap.size + 1 + 1, 0, none⟩ (.bool (false))).setCell ⟨w.heap.size + 1 + 1, 1, none⟩ (.slice A6 0 c6)).setCell ⟨w.heap.size + 1 + 1, 2, none⟩ (.slice A9 l9 c9)) = wz at HD1 HD2 HD3 ⊢
        have r0 := HD1.out.c0; have r1 := HD1.out.c1; have r2 := HD1.out.c2
        go_wp2_with fail
        exact bodyPost_ret (v := .agg #[.bool (false), (.slice A6 0 c6), (.slice A9 l9 c9)]) (by simp [results, Tryz.results41, go_sem, r0, r1, r2]) rfl ⟨_, rfl, HD2.out, HD3.out⟩
      · go_wp2_with fail
        obtain ⟨D1, D2, D3⟩ := num_done (bb := false) (show NumRes w9 _ _ from HRR.out) HB9.out (by omega) HH.out.1 HH.out.2 HNG.out.symm
        have HD1 := Lib.hid D1; have HD2 := Lib.hid D2; have HD3 := Lib.hid D3
        clear D1 D2 D3 k0 k1 k2 f0 f1 f2
        generalize (((w9.setCell ⟨w.heap.size + 1 + 1, 0, none⟩ (.bool (false))).setCell ⟨w.heap.size + 1 + 1, 1, none⟩ (.slice A6 0 c6)).setCell ⟨w.heap.size + 1 + 1, 2, none⟩ (.slice A9 l9 c9)) = wz at HD1 HD2 HD3 ⊢
        have r0 := HD1.out.c0; have r1 := HD1.out.c1; have r2 := HD1.out.c2
        go_wp2_with fail
        exact bodyPost_ret (v := .agg #[.bool (false), (.slice A6 0 c6), (.slice A9 l9 c9)]) (by simp [results, Tryz.results41, go_sem, r0, r1, r2]) rfl ⟨_, rfl, HD2.out, HD3.out⟩
  · have t4 : ((l6 : Int) > 0) := by omega
    rw [decide_eq_true (by omega), Bool.and_true] at HNG
    cases nq
    · cases nr
      · go_wp2_with fail
        obtain ⟨D1, D2, D3⟩ := num_done (bb := false) (show NumRes w9 _ _ from HRR.out) HB9.out (by omega) HH.out.1 HH.out.2 HNG.out.symm
        have HD1 := Lib.hid D1; have HD2 := Lib.hid D2; have HD3 := Lib.hid D3
        clear D1 D2 D3 k0 k1 k2 f0 f1 f2
        generalize (((w9.setCell ⟨w.heap.size + 1 + 1, 0, none⟩ (.bool (false))).setCell ⟨w.heap.size + 1 + 1, 1, none⟩ (.slice A6 l6 c6)).setCell ⟨w.heap.size + 1 + 1, 2, none⟩ (.slice A9 l9 c9)) = wz at HD1 HD2 HD3 ⊢
        have r0 := HD1.out.c0; have r1 := HD1.out.c1; have r2 := HD1.out.c2
        go_wp2_with fail
        exact bodyPost_ret (v := .agg #[.bool (false), (.slice A6 l6 c6), (.slice A9 l9 c9)]) (by simp [results, Tryz.results41, go_sem, r0, r1, r2]) rfl ⟨_, rfl, HD2.out, HD3.out⟩
      · go_wp2_with fail
        obtain ⟨D1, D2, D3⟩ := num_done (bb := true) (show NumRes w9 _ _ from HRR.out) HB9.out (by omega) HH.out.1 HH.out.2 HNG.out.symm
        have HD1 := Lib.hid D1; have HD2 := Lib.hid D2; have HD3 := Lib.hid D3
        clear D1 D2 D3 k0 k1 k2 f0 f1 f2
        generalize (((w9.setCell ⟨w.heap.size + 1 + 1, 0, none⟩ (.bool (true))).setCell ⟨w.heap.size + 1 + 1, 1, none⟩ (.slice A6 l6 c6)).setCell ⟨w.heap.size + 1 + 1, 2, none⟩ (.slice A9 l9 c9)) = wz at HD1 HD2 HD3 ⊢
        have r0 := HD1.out.c0; have r1 := HD1.out.c1; have r2 := HD1.out.c2
        go_wp2_with fail
        exact bodyPost_ret (v := .agg #[.bool (true), (.slice A6 l6 c6), (.slice A9 l9 c9)]) (by simp [results, Tryz.results41, go_sem, r0, r1, r2]) rfl ⟨_, rfl, HD2.out, HD3.out⟩
    · cases nr
      · go_wp2_with fail
        obtain ⟨D1, D2, D3⟩ := num_done (bb := true) (show NumRes w9 _ _ from HRR.out) HB9.out (by omega) HH.out.1 HH.out.2 HNG.out.symm
        have HD1 := Lib.hid D1; have HD2 := Lib.hid D2; have HD3 := Lib.hid D3
        clear D1 D2 D3 k0 k1 k2 f0 f1 f2
        generalize (((w9.setCell ⟨w.heap.size + 1 + 1, 0, none⟩ (.bool (true))).setCell ⟨w.heap.size + 1 + 1, 1, none⟩ (.slice A6 l6 c6)).setCell ⟨w.heap.size + 1 + 1, 2, none⟩ (.slice A9 l9 c9)) = wz at HD1 HD2 HD3 ⊢
        have r0 := HD1.out.c0; have r1 := HD1.out.c1; have r2 := HD1.out.c2
        go_wp2_with fail
        exact bodyPost_ret (v := .agg #[.bool (true), (.slice A6 l6 c6), (.slice A9 l9 c9)]) (by simp [results, Tryz.results41, go_sem, r0, r1, r2]) rfl ⟨_, rfl, HD2.out, HD3.out⟩
      · go_wp2_with fail
        obtain ⟨D1, D2, D3⟩ := num_done (bb := false) (show NumRes w9 _ _ from HRR.out) HB9.out (by omega) HH.out.1 HH.out.2 HNG.out.symm
        have HD1 := Lib.hid D1; have HD2 := Lib.hid D2; have HD3 := Lib.hid D3
        clear D1 D2 D3 k0 k1 k2 f0 f1 f2
        generalize (((w9.setCell ⟨w.heap.size + 1 + 1, 0, none⟩ (.bool (false))).setCell ⟨w.heap.size + 1 + 1, 1, none⟩ (.slice A6 l6 c6)).setCell ⟨w.heap.size + 1 + 1, 2, none⟩ (.slice A9 l9 c9)) = wz at HD1 HD2 HD3 ⊢
        have r0 := HD1.out.c0; have r1 := HD1.out.c1; have r2 := HD1.out.c2
        go_wp2_with fail
        exact bodyPost_ret (v := .agg #[.bool (false), (.slice A6 l6 c6), (.slice A9 l9 c9)]) (by simp [results, Tryz.results41, go_sem, r0, r1, r2]) rfl ⟨_, rfl, HD2.out, HD3.out⟩
end Go.Proofs.YtdlhpleabfnogaaGreatDoor
namespace Go.Proofs.YtdlhpleabfnogaaGreatDoor
open Go.RowKit
def sgQ (q : Rat) : Int := if Big.ng q = true then -1 else if Big.nu q = 0 then 0 else 1
theorem box1_below (w : World) (o : Obj) : Below w.heap.size w (w.alloc o) := below_alloc (Below.refl _ _) (Nat.le_refl _) o
theorem exSign_any (w : World) (vx : Value) (q : Rat) (hx : NumIn w vx q) :
    Calls Tryz.prog 92 #[vx] w fun e w' => e = .returned (.int .i64 (sgQ q)) ∧ Below w.heap.size w w' := by
  obtain ⟨A, l, c, A2, l2, c2, rfl, hx1, hx2⟩ := hx.is_agg
  have HX := Lib.hid (And.intro hx1 hx2)
  have HB := Lib.hid (box1_below w (.cells #[.bool (Big.ng q), .slice A l c, .slice A2 l2 c2] 71))
  have hl := hx1.len_zero
  have HS := Lib.hid (show sgQ q = if Big.ng q = true then -1 else if l = 0 then 0 else 1 by unfold sgQ; simp only [hl])
  clear hx hx1 hx2 hl HX
  generalize sgQ q = z at *
  generalize Big.ng q = nq at *
  cases nq
  · rcases Nat.eq_zero_or_pos l with hl0 | hl0
    · subst hl0
      go_enter Tryz.func92, Tryz.ntmps92
      go_wp2_with fail
      go_ret
      exact ⟨ret_int HS.out.symm, HB.out⟩
    · have t : ((l : Int) == 0) = false := beq_eq_false_iff_ne.2 (by omega)
      rw [if_neg (by simp), if_neg (by omega)] at HS
      go_enter Tryz.func92, Tryz.ntmps92
      go_wp2_with fail
      go_ret
      exact ⟨ret_int HS.out.symm, HB.out⟩
  · go_enter Tryz.func92, Tryz.ntmps92
    go_wp2_with fail
    go_ret
    exact ⟨ret_int HS.out.symm, HB.out⟩
end Go.Proofs.YtdlhpleabfnogaaGreatDoor
namespace Go.Proofs.YtdlhpleabfnogaaGreatDoor
open Go.RowKit
end Go.Proofs.YtdlhpleabfnogaaGreatDoor
namespace Go.Proofs.YtdlhpleabfnogaaGreatDoor
open Go.RowKit
theorem sizeT {P : Program} {f : FuncId} {args : Array Value} {b W : World} {v : Value} (h : Below b.heap.size b W) (c : Calls P f args W fun e w' => e = .returned v ∧ W = w') :
    Calls P f args W fun e w' => e = .returned v ∧ Below b.heap.size b w' :=
  c.mono fun _ _ ⟨h1, h2⟩ => ⟨h1, h2 ▸ h⟩
set_option maxRecDepth 100000 in
set_option maxHeartbeats 4000000 in
theorem exSize_any (w : World) (vx : Value) (q : Rat) (k : Nat) (hx : NumIn w vx q) (sx : Sm k q) (hk : k ≤ 10000000) :
    Calls Tryz.prog 76 #[vx] w fun e w' => e = .returned (.int .i64 ((max (szN (Big.nu q)) (szN (Big.de q)) : Nat) : Int)) ∧ Below w.heap.size w w' := by
  obtain ⟨A, l, c, A2, l2, c2, rfl, hx1, hx2⟩ := hx.is_agg
  have HX := Lib.hid (And.intro hx1 hx2)
  have SX := Lib.hid sx
  have HB0 := Lib.hid (box1_below w (.cells #[.bool (Big.ng q), .slice A l c, .slice A2 l2 c2] 71))
  have HX0 := Lib.hid (At3.new w 71 (.bool (Big.ng q)) (.slice A l c) (.slice A2 l2 c2))
  clear hx hx1 hx2 sx
  generalize Big.ng q = nq at *
  go_enter Tryz.func76, Tryz.ntmps76
  go_wp2_with fail
  generalize w.alloc (.cells #[.bool nq, .slice A l c, .slice A2 l2 c2] 71) = w0 at *
  have KX := Lib.hid (fun W (h : Below w0.heap.size w0 W) => And.intro (HX0.out.keep h).c1 (HX0.out.keep h).c2)
  have C1 := Lib.hid (fun W (h : Below w0.heap.size w0 W) => sizeT h (size_num W _ _ k ((HX.out.1.keep HB0.out).keep h) SX.out.nu (by omega)))
  have C2 := Lib.hid (fun W (h : Below w0.heap.size w0 W) => sizeT h (size_num W _ _ k ((HX.out.2.keep HB0.out).keep h) SX.out.de (by omega)))
  go_region_held3 (fun w' => w'.cell? ⟨w.heap.size, 1, none⟩ = some (.slice A l c) ∧ w'.cell? ⟨w.heap.size, 2, none⟩ = some (.slice A2 l2 c2))
    (exact KX.out _ (by first | assumption | exact Below.refl _ _ | exact below_drew (Below.refl _ _) | exact below_drew (by assumption)))
    (first
      | (go_at_call 129; (with_reducible refine (C1.out _ (by first | assumption | exact Below.refl _ _ | exact below_drew (Below.refl _ _) | exact below_drew (by assumption))).mono ?_); rintro e w2 ⟨rfl, hw2⟩)
      | (go_at_call 129; (with_reducible refine (C2.out _ (by first | assumption | exact Below.refl _ _ | exact below_drew (Below.refl _ _) | exact below_drew (by assumption))).mono ?_); rintro e w3 ⟨rfl, hw3⟩)
      | fail)
  have HB3 := Lib.hid (HB0.out.trans (hw3.mono HB0.out.size))
  go_wp2_with fail
  go_ret
  refine ⟨?_, HB3.out⟩
  apply ret_int
  generalize szN (Big.nu q) = s1; generalize szN (Big.de q) = s2; omega
end Go.Proofs.YtdlhpleabfnogaaGreatDoor
namespace Go.Proofs.YtdlhpleabfnogaaGreatDoor
open Go.RowKit
def Frac1 (w : World) (v : Value) (b : Bool) (e : Ending) (w' : World) : Prop := e = .returned (.tuple #[v, .bool b]) ∧ Below w.heap.size w w'
def fracZ : Value := .agg #[.bool false, .string ⟨#[]⟩, .string ⟨#[]⟩]
theorem bytesT {P : Program} {f : FuncId} {args : Array Value} {b W : World} {v : Value} (h : Below b.heap.size b W) (c : Calls P f args W fun e w' => e = .returned v ∧ Below W.heap.size W w') :
    Calls P f args W fun e w' => e = .returned v ∧ Below b.heap.size b w' :=
  c.mono fun _ _ ⟨h1, h2⟩ => ⟨h1, h.trans (h2.mono h.size)⟩
set_option maxRecDepth 100000 in
set_option maxHeartbeats 4000000 in
theorem exFrac_fit (w : World) (vx : Value) (q : Rat) (k : Nat) (hx : NumIn w vx q) (sx : Sm k q) (hk : k ≤ 10000000) (hf : Fit q) :
    Calls Tryz.prog 38 #[vx] w (Frac1 w (fracV q) true) := by
  have e1 : szN (Big.nu q) ≤ 512 := hf.nu
  have e2 : szN (Big.de q) ≤ 512 := hf.de
  have HF := Lib.hid (show fracV q = .agg #[.bool (Big.ng q), .string (bst (Big.nu q)), .string (bst (Big.de q))] from rfl)
  clear hf
  generalize fracV q = fv at *
  have SX := Lib.hid sx
  obtain ⟨A, l, c, A2, l2, c2, rfl, hx1, hx2⟩ := hx.is_agg
  have HX := Lib.hid (And.intro hx1 hx2)
  have HQ := Lib.hid hx
  obtain ⟨X0, R0, B0⟩ := boxed2 w 71 35 (.bool (Big.ng q)) (.slice A l c) (.slice A2 l2 c2) (.bool false) (.string ⟨#[]⟩) (.string ⟨#[]⟩)
  have HX0 := Lib.hid X0; have HR0 := Lib.hid R0; have HB0 := Lib.hid B0
  clear hx hx1 hx2 sx X0 R0 B0
  generalize Big.ng q = nq at *
  go_enter Tryz.func38, Tryz.ntmps38
  go_wp2_with fail
  generalize (w.alloc (.cells #[.bool nq, .slice A l c, .slice A2 l2 c2] 71)).alloc (.cells #[.bool false, .string ⟨#[]⟩, .string ⟨#[]⟩] 35) = w0 at *
  have CS := Lib.hid (exSize_any w0 _ q k (HQ.out.keep HB0.out) SX.out hk)
  have hm : ¬ (max (szN (Big.nu q)) (szN (Big.de q)) : Nat) > 512 := by omega
  generalize max (szN (Big.nu q)) (szN (Big.de q)) = mx at *
  have hm' : ¬ ((mx : Int) > 512) := by omega
  clear hm e1 e2
  refine CS.out.mono ?_
  rintro e w1 ⟨rfl, hw1⟩
  have HB1 := Lib.hid (HB0.out.trans (hw1.mono HB0.out.size))
  have HX1 := Lib.hid (HX0.out.keep hw1); have HR1 := Lib.hid (HR0.out.keep hw1)
  clear hw1 HX0 HR0 CS
  have KX := Lib.hid (fun W (h : Below w1.heap.size w1 W) => And.intro (HX1.out.keep h).c0 (And.intro (HX1.out.keep h).c1 (HX1.out.keep h).c2))
  have KP := Lib.hid (fun W x y z (h : Below w1.heap.size w1 W) => And.intro (put_cell (KX.out W h).1 (show w.heap.size ≠ w.heap.size + 1 by omega) x y z) (And.intro (put_cell (KX.out W h).2.1 (show w.heap.size ≠ w.heap.size + 1 by omega) x y z) (put_cell (KX.out W h).2.2 (show w.heap.size ≠ w.heap.size + 1 by omega) x y z)))
  have C1 := Lib.hid (fun W (h : Below w1.heap.size w1 W) => bytesT h (bytes_num W _ _ k ((HX.out.1.keep HB1.out).keep h) SX.out.nu (by omega)))
  have C2 := Lib.hid (fun W (h : Below w1.heap.size w1 W) => bytesT h (bytes_num W _ _ k ((HX.out.2.keep HB1.out).keep h) SX.out.de (by omega)))
  have RES := Lib.hid (fun W (h : Below w1.heap.size w1 W) => HR1.out.keep h)
  go_wp2_with fail
  go_region_held3 (fun w' => w'.cell? ⟨w.heap.size, 0, none⟩ = some (.bool nq) ∧ w'.cell? ⟨w.heap.size, 1, none⟩ = some (.slice A l c) ∧ w'.cell? ⟨w.heap.size, 2, none⟩ = some (.slice A2 l2 c2))
    (first | exact KX.out _ (by first | assumption | exact Below.refl _ _ | exact below_drew (Below.refl _ _) | exact below_drew (by assumption)) | exact KP.out _ _ _ _ (by assumption))
    (first
      | (go_at_call 77; (with_reducible refine (C1.out _ (by first | assumption | exact Below.refl _ _ | exact below_drew (Below.refl _ _) | exact below_drew (by assumption))).mono ?_); rintro e w2 ⟨rfl, hw2⟩)
      | (go_at_call 77; (with_reducible refine (C2.out _ (by first | assumption | exact Below.refl _ _ | exact below_drew (Below.refl _ _) | exact below_drew (by assumption))).mono ?_); rintro e w3 ⟨rfl, hw3⟩; have RR := RES.out _ hw3; have k0 := RR.c0; have k1 := RR.c1; have k2 := RR.c2; have f0 := RR.frozen 0; have f1 := RR.frozen 1; have f2 := RR.frozen 2)
      | fail)
  have D1 := At3.put RR (.bool nq) (.string (bst (Big.nu q))) (.string (bst (Big.de q)))
  have D3 := put_below (HB1.out.trans (hw3.mono HB1.out.size)) (show w.heap.size ≤ w.heap.size + 1 by omega) (.bool nq) (.string (bst (Big.nu q))) (.string (bst (Big.de q)))
  have HD1 := Lib.hid D1; have HD3 := Lib.hid D3
  clear D1 D3 k0 k1 k2 f0 f1 f2 RR
  generalize (((w3.setCell ⟨w.heap.size + 1, 0, none⟩ (.bool nq)).setCell ⟨w.heap.size + 1, 1, none⟩ (.string (bst (Big.nu q)))).setCell ⟨w.heap.size + 1, 2, none⟩ (.string (bst (Big.de q)))) = wz at HD1 HD3 ⊢
  have r0 := HD1.out.c0; have r1 := HD1.out.c1; have r2 := HD1.out.c2
  go_wp2_with fail
  exact bodyPost_ret (v := .tuple #[.agg #[.bool nq, .string (bst (Big.nu q)), .string (bst (Big.de q))], .bool true]) (by simp [results, Tryz.results38, go_sem, r0, r1, r2]) rfl ⟨by rw [HF.out], HD3.out⟩
set_option maxRecDepth 100000 in
set_option maxHeartbeats 4000000 in
theorem exFrac_long (w : World) (vx : Value) (q : Rat) (k : Nat) (hx : NumIn w vx q) (sx : Sm k q) (hk : k ≤ 10000000) (hf : ¬ Fit q) :
    Calls Tryz.prog 38 #[vx] w (Frac1 w fracZ false) := by
  have e1 : ¬ (szN (Big.nu q) ≤ 512 ∧ szN (Big.de q) ≤ 512) := fun h => hf ⟨h.1, h.2⟩
  clear hf
  have SX := Lib.hid sx
  obtain ⟨A, l, c, A2, l2, c2, rfl, hx1, hx2⟩ := hx.is_agg
  have HX := Lib.hid (And.intro hx1 hx2)
  have HQ := Lib.hid hx
  obtain ⟨X0, R0, B0⟩ := boxed2 w 71 35 (.bool (Big.ng q)) (.slice A l c) (.slice A2 l2 c2) (.bool false) (.string ⟨#[]⟩) (.string ⟨#[]⟩)
  have HX0 := Lib.hid X0; have HR0 := Lib.hid R0; have HB0 := Lib.hid B0
  clear hx hx1 hx2 sx X0 R0 B0
  generalize Big.ng q = nq at *
  go_enter Tryz.func38, Tryz.ntmps38
  go_wp2_with fail
  generalize (w.alloc (.cells #[.bool nq, .slice A l c, .slice A2 l2 c2] 71)).alloc (.cells #[.bool false, .string ⟨#[]⟩, .string ⟨#[]⟩] 35) = w0 at *
  have CS := Lib.hid (exSize_any w0 _ q k (HQ.out.keep HB0.out) SX.out hk)
  have hm : (max (szN (Big.nu q)) (szN (Big.de q)) : Nat) > 512 := by omega
  generalize max (szN (Big.nu q)) (szN (Big.de q)) = mx at *
  have hm' : ((mx : Int) > 512) := by omega
  clear hm e1
  refine CS.out.mono ?_
  rintro e w1 ⟨rfl, hw1⟩
  have HB1 := Lib.hid (HB0.out.trans (hw1.mono HB0.out.size))
  have RR := HR0.out.keep hw1
  have k0 := RR.c0; have k1 := RR.c1; have k2 := RR.c2; have f0 := RR.frozen 0; have f1 := RR.frozen 1; have f2 := RR.frozen 2
  have HD1 := Lib.hid (At3.put RR (.bool false) (.string ⟨#[]⟩) (.string ⟨#[]⟩))
  have HD3 := Lib.hid (put_below HB1.out (show w.heap.size ≤ w.heap.size + 1 by omega) (.bool false) (.string ⟨#[]⟩) (.string ⟨#[]⟩))
  clear hw1 HX0 HR0 CS RR
  go_wp2_with fail
  generalize (((w1.setCell ⟨w.heap.size + 1, 0, none⟩ (.bool false)).setCell ⟨w.heap.size + 1, 1, none⟩ (.string ⟨#[]⟩)).setCell ⟨w.heap.size + 1, 2, none⟩ (.string ⟨#[]⟩)) = wz at HD1 HD3 ⊢
  clear k0 k1 k2 f0 f1 f2
  have r0 := HD1.out.c0; have r1 := HD1.out.c1; have r2 := HD1.out.c2
  exact bodyPost_ret (v := .tuple #[.agg #[.bool false, .string ⟨#[]⟩, .string ⟨#[]⟩], .bool false]) (by simp [results, Tryz.results38, go_sem, r0, r1, r2]) rfl ⟨rfl, HD3.out⟩
end Go.Proofs.YtdlhpleabfnogaaGreatDoor
namespace Go.Proofs.YtdlhpleabfnogaaGreatDoor
open Go.RowKit
def mayB (s : ByteArray) : Bool := decide (s.size ≤ 512) && !(s.data.toList.head? == some 0)
theorem mayB_bst {n : Nat} (h : szN n ≤ 512) : mayB (bst n) = true := by
  unfold mayB
  have h1 := btx_lead n
  rw [bst_size, bst_list, decide_eq_true h, Bool.true_and, Bool.not_eq_true', beq_eq_false_iff_ne]
  exact h1
theorem empty_of {s : ByteArray} (h : s.size = 0) : s = ⟨#[]⟩ := by
  have h2 : s.data = #[] := Array.eq_empty_of_size_eq_zero h
  cases s; simp at h2; rw [h2]
theorem size_toList (s : ByteArray) : s.data.toList.length = s.size := by
  show s.data.toList.length = s.data.size; simp
theorem head_get {s : ByteArray} (h : 0 < s.size) : s.data.toList.head? = some s[0] := by
  have hl : 0 < s.data.toList.length := by rw [size_toList]; exact h
  rw [List.head?_eq_getElem?, List.getElem?_eq_getElem hl]; rfl
set_option maxRecDepth 100000 in
set_option maxHeartbeats 4000000 in
theorem mayBe_any (w : World) (s : ByteArray) (hs : s.size ≤ 1000000000000) :
    Calls Tryz.prog 71 #[.string s] w fun e w' => e = .returned (.bool (mayB s)) ∧ w = w' := by
  by_cases h5 : s.size ≤ 512
  · by_cases h0 : s.size = 0
    · have e := empty_of h0
      subst e
      have HD := Lib.hid (show mayB ⟨#[]⟩ = true by decide)
      go_enter Tryz.func71, Tryz.ntmps71
      go_wp2_with fail
      go_ret
      exact ⟨ret_bool HD.out.symm, rfl⟩
    · have i1 : (s.size : Int) ≤ 512 := by omega
      have p0 : 0 < s.size := by omega
      have HD := Lib.hid (show mayB s = ((s[0].toNat : Int) != 0) by
        unfold mayB
        rw [decide_eq_true h5, Bool.true_and, head_get p0, Bool.eq_iff_iff, Bool.not_eq_true', beq_eq_false_iff_ne, bne_iff_ne]
        constructor
        · intro h e; exact h (by rw [Option.some.injEq]; apply UInt8.toNat_inj.1; show _ = 0; omega)
        · intro h e; rw [Option.some.injEq] at e; rw [e] at h; exact h rfl)
      generalize mayB s = z at *
      have hne : ¬ s.toList = [] := by rw [ByteArray.toList_eq]; intro e; have := size_toList s; rw [e] at this; simp at this; omega
      have hne2 : s.toList.isEmpty = false := by rw [Bool.eq_false_iff]; intro e; exact hne (List.isEmpty_iff.1 e)
      clear h0
      go_enter Tryz.func71, Tryz.ntmps71
      go_wp2_with fail
      go_ret
      exact ⟨ret_bool (by rw [HD.out]), rfl⟩
  · have i1 : ¬ (s.size : Int) ≤ 512 := by omega
    have HD := Lib.hid (show mayB s = false by unfold mayB; rw [decide_eq_false h5]; rfl)
    generalize mayB s = z at *
    go_enter Tryz.func71, Tryz.ntmps71
    go_wp2_with fail
    go_ret
    exact ⟨ret_bool HD.out.symm, rfl⟩
end Go.Proofs.YtdlhpleabfnogaaGreatDoor
namespace Go.Proofs.YtdlhpleabfnogaaGreatDoor
open Go.RowKit
def Read1 (w : World) (q : Rat) (e : Ending) (w' : World) : Prop := ∃ v', e = .returned (.tuple #[v', .bool true]) ∧ NumIn w' v' q ∧ Below w.heap.size w w'
theorem bst_ne {n : Nat} (h : n ≠ 0) : ¬ (bst n).toList = [] := by
  rw [ByteArray.toList_eq, bst_list]; intro e
  have h1 := btx_length n
  rw [e] at h1
  have h2 := szN_pos h
  rw [← h1] at h2
  exact absurd h2 (by simp)
theorem bst_ne2 {n : Nat} (h : n ≠ 0) : (bst n).toList.isEmpty = false := by
  rw [Bool.eq_false_iff]; intro e; exact bst_ne h (List.isEmpty_iff.1 e)
set_option maxRecDepth 100000 in
set_option maxHeartbeats 4000000 in
theorem exRead_ok (w : World) (q : Rat) (hf : Fit q) :
    Calls Tryz.prog 36 #[.agg #[.bool (Big.ng q), .string (bst (Big.nu q)), .string (bst (Big.de q))]] w (Read1 w q) := by
  have M1 := Lib.hid (fun W => mayBe_any W (bst (Big.nu q)) (by rw [bst_size]; have := hf.nu; omega))
  have M2 := Lib.hid (fun W => mayBe_any W (bst (Big.de q)) (by rw [bst_size]; have := hf.de; omega))
  rw [mayB_bst hf.nu] at M1
  rw [mayB_bst hf.de] at M2
  have S := Lib.hid hf.sm
  have P := Lib.hid (show NumIn w (.agg #[.bool (Big.ng q), .slice none 0 0, .slice none 0 0]) q → True from fun _ => trivial)
  have F1 := Lib.hid (fun W => fromBytes_num W (Big.nu q) (by have := hf.nu; omega))
  have F2 := Lib.hid (fun W => fromBytes_num W (Big.de q) (by have := hf.de; omega))
  have d1 := bst_ne (n := Big.de q) (by have := Big.de_pos q; omega)
  have d2 := bst_ne2 (n := Big.de q) (by have := Big.de_pos q; omega)
  have n0 : Big.ng q = true → ¬ (bst (Big.nu q)).toList = [] ∧ (bst (Big.nu q)).toList.isEmpty = false := fun h => by
    have h1 := Big.ng_pos h
    exact ⟨bst_ne (by omega), bst_ne2 (by omega)⟩
  obtain ⟨X0, R0, B0⟩ := boxed2 w 35 71 (.bool (Big.ng q)) (.string (bst (Big.nu q))) (.string (bst (Big.de q))) (.bool false) (.slice none 0 0) (.slice none 0 0)
  have HX0 := Lib.hid X0; have HR0 := Lib.hid R0; have HB0 := Lib.hid B0
  have HC := Lib.hid (Big.cop q)
  have HNG := Lib.hid (rfl : Big.ng q = Big.ng q)
  clear hf X0 R0 B0 P HNG
  obtain ⟨nq, hnq⟩ : ∃ z, Big.ng q = z := ⟨_, rfl⟩
  rw [hnq] at n0 HX0 HR0 HB0 ⊢
  have HNQ := Lib.hid hnq
  clear hnq
  have HN0 := Lib.hid n0
  clear n0
  cases nq
  · go_enter Tryz.func36, Tryz.ntmps36
    go_wp2_with fail
    generalize (w.alloc (.cells #[.bool false, .string (bst (Big.nu q)), .string (bst (Big.de q))] 35)).alloc (.cells #[.bool false, .slice none 0 0, .slice none 0 0] 71) = w0 at *
    have x0 := HX0.out.c0; have x1 := HX0.out.c1; have x2 := HX0.out.c2
    go_wp2_with (first
      | (go_at_call 71; with_reducible refine (M1.out _).mono ?_; rintro e w' ⟨rfl, rfl⟩)
      | (go_at_call 71; with_reducible refine (M2.out _).mono ?_; rintro e w' ⟨rfl, rfl⟩))
    clear x0 x1 x2 d1 d2
    have KX := Lib.hid (fun W (h : Below w0.heap.size w0 W) => And.intro (HX0.out.keep h).c1 (HX0.out.keep h).c2)
    have C1 := Lib.hid (fun W (h : Below w0.heap.size w0 W) => lift2 h (F1.out W))
    have C2 := Lib.hid (fun W (h : Below w0.heap.size w0 W) => lift2 h (F2.out W))
    go_region_held3 (fun w' => w'.cell? ⟨w.heap.size, 1, none⟩ = some (.string (bst (Big.nu q))) ∧ w'.cell? ⟨w.heap.size, 2, none⟩ = some (.string (bst (Big.de q))))
      (exact KX.out _ (by first | assumption | exact Below.refl _ _ | exact below_drew (Below.refl _ _) | exact below_drew (by assumption)))
      (first
        | (go_at_call 72; (with_reducible refine (C1.out _ (by first | assumption | exact Below.refl _ _ | exact below_drew (Below.refl _ _) | exact below_drew (by assumption))).mono ?_); rintro e w2 ⟨v2, rfl, hv2, hw2, hw2'⟩)
        | (go_at_call 72; (with_reducible refine (C2.out _ (by first | assumption | exact Below.refl _ _ | exact below_drew (Below.refl _ _) | exact below_drew (by assumption))).mono ?_); rintro e w3 ⟨v3, rfl, hv3, hw3, hw3'⟩)
        | fail)
    have HB3 := Lib.hid (HB0.out.trans (hw3.mono HB0.out.size))
    have HX3 := Lib.hid (HX0.out.keep hw3); have HR3 := Lib.hid (HR0.out.keep hw3)
    have HV := Lib.hid (And.intro (hv2.keep hw3') hv3)
    clear hv2 hv3 hw2 hw2' hw3 hw3' HX0 HR0 HB0 KX C1 C2
    have G := Lib.hid (gcd_num w3 _ _ _ _ 64 64 HV.out.1 HV.out.2 S.out.nu S.out.de (by omega) (by omega))
    rw [HC.out] at G
    go_wp2_with fail
    refine G.out.mono ?_
    rintro e w4 ⟨v4, rfl, hv4, hw4⟩
    have I := Lib.hid (isOne_num w4 v4 1 hv4)
    rw [decide_eq_true rfl] at I
    have HB4 := Lib.hid (HB3.out.trans (hw4.mono HB3.out.size))
    have HX4 := Lib.hid (HX3.out.keep hw4); have HR4 := Lib.hid (HR3.out.keep hw4)
    have HV4 := Lib.hid (And.intro (HV.out.1.keep hw4) (HV.out.2.keep hw4))
    clear hv4 hw4 HB3 HX3 HR3 HV G
    go_wp2_with fail
    refine I.out.mono ?_
    rintro e w' ⟨rfl, rfl⟩
    obtain ⟨A8, l8, c8, rfl, -⟩ := HV4.out.1.is_slice
    obtain ⟨A9, l9, c9, rfl, -⟩ := HV4.out.2.is_slice
    have RR := HR4.out
    have x0 := HX4.out.c0
    have k0 := RR.c0; have k1 := RR.c1; have k2 := RR.c2; have f0 := RR.frozen 0; have f1 := RR.frozen 1; have f2 := RR.frozen 2
    go_wp2_with fail
    obtain ⟨D1, D2, D3⟩ := num_done (bb := false) (show NumRes w4 _ _ from RR) HB4.out (by omega) HV4.out.1 HV4.out.2 HNQ.out.symm
    have HD1 := Lib.hid D1; have HD2 := Lib.hid D2; have HD3 := Lib.hid D3
    clear D1 D2 D3 k0 k1 k2 f0 f1 f2 RR
    generalize (((w4.setCell ⟨w.heap.size + 1, 0, none⟩ (.bool (false))).setCell ⟨w.heap.size + 1, 1, none⟩ (.slice A8 l8 c8)).setCell ⟨w.heap.size + 1, 2, none⟩ (.slice A9 l9 c9)) = wz at HD1 HD2 HD3 ⊢
    have r0 := HD1.out.c0; have r1 := HD1.out.c1; have r2 := HD1.out.c2
    exact bodyPost_ret (v := .tuple #[.agg #[.bool (false), .slice A8 l8 c8, .slice A9 l9 c9], .bool true]) (by simp [results, Tryz.results36, go_sem, r0, r1, r2]) rfl ⟨_, rfl, HD2.out, HD3.out⟩
  · obtain ⟨z1, z2⟩ := HN0.out rfl
    go_enter Tryz.func36, Tryz.ntmps36
    go_wp2_with fail
    generalize (w.alloc (.cells #[.bool true, .string (bst (Big.nu q)), .string (bst (Big.de q))] 35)).alloc (.cells #[.bool false, .slice none 0 0, .slice none 0 0] 71) = w0 at *
    have x0 := HX0.out.c0; have x1 := HX0.out.c1; have x2 := HX0.out.c2
    go_wp2_with (first
      | (go_at_call 71; with_reducible refine (M1.out _).mono ?_; rintro e w' ⟨rfl, rfl⟩)
      | (go_at_call 71; with_reducible refine (M2.out _).mono ?_; rintro e w' ⟨rfl, rfl⟩))
    clear x0 x1 x2 d1 d2
    have KX := Lib.hid (fun W (h : Below w0.heap.size w0 W) => And.intro (HX0.out.keep h).c1 (HX0.out.keep h).c2)
    have C1 := Lib.hid (fun W (h : Below w0.heap.size w0 W) => lift2 h (F1.out W))
    have C2 := Lib.hid (fun W (h : Below w0.heap.size w0 W) => lift2 h (F2.out W))
    go_region_held3 (fun w' => w'.cell? ⟨w.heap.size, 1, none⟩ = some (.string (bst (Big.nu q))) ∧ w'.cell? ⟨w.heap.size, 2, none⟩ = some (.string (bst (Big.de q))))
      (exact KX.out _ (by first | assumption | exact Below.refl _ _ | exact below_drew (Below.refl _ _) | exact below_drew (by assumption)))
      (first
        | (go_at_call 72; (with_reducible refine (C1.out _ (by first | assumption | exact Below.refl _ _ | exact below_drew (Below.refl _ _) | exact below_drew (by assumption))).mono ?_); rintro e w2 ⟨v2, rfl, hv2, hw2, hw2'⟩)
        | (go_at_call 72; (with_reducible refine (C2.out _ (by first | assumption | exact Below.refl _ _ | exact below_drew (Below.refl _ _) | exact below_drew (by assumption))).mono ?_); rintro e w3 ⟨v3, rfl, hv3, hw3, hw3'⟩)
        | fail)
    have HB3 := Lib.hid (HB0.out.trans (hw3.mono HB0.out.size))
    have HX3 := Lib.hid (HX0.out.keep hw3); have HR3 := Lib.hid (HR0.out.keep hw3)
    have HV := Lib.hid (And.intro (hv2.keep hw3') hv3)
    clear hv2 hv3 hw2 hw2' hw3 hw3' HX0 HR0 HB0 KX C1 C2
    have G := Lib.hid (gcd_num w3 _ _ _ _ 64 64 HV.out.1 HV.out.2 S.out.nu S.out.de (by omega) (by omega))
    rw [HC.out] at G
    go_wp2_with fail
    refine G.out.mono ?_
    rintro e w4 ⟨v4, rfl, hv4, hw4⟩
    have I := Lib.hid (isOne_num w4 v4 1 hv4)
    rw [decide_eq_true rfl] at I
    have HB4 := Lib.hid (HB3.out.trans (hw4.mono HB3.out.size))
    have HX4 := Lib.hid (HX3.out.keep hw4); have HR4 := Lib.hid (HR3.out.keep hw4)
    have HV4 := Lib.hid (And.intro (HV.out.1.keep hw4) (HV.out.2.keep hw4))
    clear hv4 hw4 HB3 HX3 HR3 HV G
    go_wp2_with fail
    refine I.out.mono ?_
    rintro e w' ⟨rfl, rfl⟩
    obtain ⟨A8, l8, c8, rfl, -⟩ := HV4.out.1.is_slice
    obtain ⟨A9, l9, c9, rfl, -⟩ := HV4.out.2.is_slice
    have RR := HR4.out
    have x0 := HX4.out.c0
    have k0 := RR.c0; have k1 := RR.c1; have k2 := RR.c2; have f0 := RR.frozen 0; have f1 := RR.frozen 1; have f2 := RR.frozen 2
    go_wp2_with fail
    obtain ⟨D1, D2, D3⟩ := num_done (bb := true) (show NumRes w4 _ _ from RR) HB4.out (by omega) HV4.out.1 HV4.out.2 HNQ.out.symm
    have HD1 := Lib.hid D1; have HD2 := Lib.hid D2; have HD3 := Lib.hid D3
    clear D1 D2 D3 k0 k1 k2 f0 f1 f2 RR
    generalize (((w4.setCell ⟨w.heap.size + 1, 0, none⟩ (.bool (true))).setCell ⟨w.heap.size + 1, 1, none⟩ (.slice A8 l8 c8)).setCell ⟨w.heap.size + 1, 2, none⟩ (.slice A9 l9 c9)) = wz at HD1 HD2 HD3 ⊢
    have r0 := HD1.out.c0; have r1 := HD1.out.c1; have r2 := HD1.out.c2
    exact bodyPost_ret (v := .tuple #[.agg #[.bool (true), .slice A8 l8 c8, .slice A9 l9 c9], .bool true]) (by simp [results, Tryz.results36, go_sem, r0, r1, r2]) rfl ⟨_, rfl, HD2.out, HD3.out⟩
end Go.Proofs.YtdlhpleabfnogaaGreatDoor
namespace Go.Proofs.YtdlhpleabfnogaaGreatDoor
open Go.RowKit
set_option maxRecDepth 100000 in
set_option maxHeartbeats 2000000 in
theorem exOf_any (w : World) (b : Bool) (v u : Value) (n d k j : Nat) (h : NatIn w v n) (i : NatIn w u d) (hn : Sz k n) (hm : Sz j d) (hk : k ≤ 100000000) (hj : j ≤ 100000000) (hd : 1 ≤ d) :
    Calls Tryz.prog 33 #[.bool b, v, u] w (Num1 w (mkRat (Big.sI b n) d)) := by
  obtain ⟨p1, p2, p3⟩ := Big.of_parts b n d hd
  have HP := Lib.hid (And.intro p1 (And.intro p2 p3))
  have HV := Lib.hid h; have HU := Lib.hid i; have HN := Lib.hid hn; have HM := Lib.hid hm
  obtain ⟨A, l, c, rfl, hl⟩ := h.is_slice
  obtain ⟨A2, l2, c2, rfl, hl2⟩ := i.is_slice
  have t1 : ((l2 : Int) == 0) = false := beq_eq_false_iff_ne.2 (by omega)
  clear p1 p2 p3 h i hn hm hl hl2 hd
  generalize mkRat (Big.sI b n) d = q at *
  go_enter Tryz.func33, Tryz.ntmps33
  go_wp2_with fail
  have HB0 := Lib.hid ((Below.refl w.heap.size w).alloc (Nat.le_refl _) (.cells #[.bool false, .slice none 0 0, .slice none 0 0] 71))
  have HR := Lib.hid (At3.new w 71 (.bool false) (.slice none 0 0) (.slice none 0 0))
  generalize w.alloc (.cells #[.bool false, .slice none 0 0, .slice none 0 0] 71) = w0 at *
  refine (gcd_num w0 _ _ n d k j (HV.out.keep HB0.out) (HU.out.keep HB0.out) HN.out HM.out hk hj).mono ?_
  rintro e w1 ⟨v1, rfl, hv1, hb1⟩
  have HV1 := Lib.hid hv1; have HB1 := Lib.hid (HB0.out.trans (hb1.mono HB0.out.size)); have HR1 := Lib.hid (HR.out.keep hb1)
  clear hv1 hb1 HR
  go_wp2_with fail
  refine (quo_num w1 _ _ n _ k (HV.out.keep HB1.out) HV1.out HN.out hk).mono ?_
  rintro e w2 ⟨v2, rfl, hv2, hb2⟩
  have HV2 := Lib.hid hv2
  obtain ⟨A3, l3, c3, rfl, hl3⟩ := hv2.is_slice
  have HV1' := Lib.hid (HV1.out.keep hb2)
  have HB2 := Lib.hid (HB1.out.trans (hb2.mono HB1.out.size)); have HR2 := Lib.hid (HR1.out.keep hb2)
  have HL3 := Lib.hid hl3
  clear hv2 hb2 HR1 hl3
  have g0 : n / Nat.gcd n d = 0 ↔ l3 = 0 := HL3.out.symm
  have CQ := Lib.hid (quo_num w2 _ _ d _ j (HU.out.keep HB2.out) HV1'.out HM.out hj)
  have HBR := Lib.hid (show NumRes w2 w.heap.size 71 from HR2.out)
  have f0 := fun W (hW : Below w2.heap.size w2 W) => (HR2.out.keep hW).frozen 0
  have done : ∀ (bb : Bool) (W : World) (v4 : Value), bb = (b && decide (0 < n / Nat.gcd n d)) → Below w2.heap.size w2 W → NatIn W v4 (d / Nat.gcd n d) →
      At3 (((W.setCell ⟨w.heap.size, 0, none⟩ (.bool bb)).setCell ⟨w.heap.size, 1, none⟩ (.slice A3 l3 c3)).setCell ⟨w.heap.size, 2, none⟩ v4) w.heap.size 71 (.bool bb) (.slice A3 l3 c3) v4 ∧
      Num1 w q (.returned (.agg #[.bool bb, .slice A3 l3 c3, v4])) (((W.setCell ⟨w.heap.size, 0, none⟩ (.bool bb)).setCell ⟨w.heap.size, 1, none⟩ (.slice A3 l3 c3)).setCell ⟨w.heap.size, 2, none⟩ v4) := by
    intro bb W v4 e hW hv4
    have h1 := HV2.out.keep hW
    rw [← HP.out.2.1] at h1
    rw [← HP.out.2.2] at hv4
    have D := num_done (show NumRes W w.heap.size _ from HR2.out.keep hW) (HB2.out.trans (hW.mono HB2.out.size)) (Nat.le_refl _) h1 hv4 (e.trans HP.out.1.symm)
    exact ⟨D.1, _, rfl, D.2⟩
  have DONE := Lib.hid done
  clear done f0
  have t2 : 0 < n / Nat.gcd n d ↔ 0 < l3 := by rw [Nat.pos_iff_ne_zero, Nat.pos_iff_ne_zero, Ne, Ne, g0]
  have t3 : (b && decide (0 < n / Nat.gcd n d)) = (b && decide (0 < l3)) := by rw [decide_eq_decide.2 t2]
  rw [t3] at DONE
  clear g0 t2 t3 HP HL3 HV HU HN HM HV1' HV2 HV1
  rcases Nat.eq_zero_or_pos l3 with hl0 | hl0
  · subst hl0
    rw [decide_eq_false (by omega)] at DONE
    cases b
    all_goals
      go_wp2_with fail
      refine CQ.out.mono ?_
      rintro e w3 ⟨v4, rfl, hv4, hb3⟩
      obtain ⟨A4, l4, c4, rfl, hl4⟩ := hv4.is_slice
      obtain ⟨D1, D2⟩ := DONE.out false w3 _ rfl hb3 hv4
      have R3 := HR2.out.keep hb3
      have k0 := R3.c0; have k1 := R3.c1; have k2 := R3.c2; have f0 := R3.frozen 0; have f1 := R3.frozen 1; have f2 := R3.frozen 2
      have HD1 := Lib.hid D1; have HD2 := Lib.hid D2
      clear D1 D2 R3 hv4 hb3 hl4
      go_wp2_with fail
      generalize (((w3.setCell ⟨w.heap.size, 0, none⟩ (.bool false)).setCell ⟨w.heap.size, 1, none⟩ (.slice A3 0 c3)).setCell ⟨w.heap.size, 2, none⟩ (.slice A4 l4 c4)) = wz at HD1 HD2 ⊢
      have r0 := HD1.out.c0; have r1 := HD1.out.c1; have r2 := HD1.out.c2
      exact bodyPost_ret (v := .agg #[.bool false, .slice A3 0 c3, .slice A4 l4 c4]) (by simp [results, Tryz.results33, go_sem, r0, r1, r2]) rfl HD2.out
  · have t4 : ((l3 : Int) > 0) := by omega
    rw [decide_eq_true (by omega)] at DONE
    cases b
    · go_wp2_with fail
      refine CQ.out.mono ?_
      rintro e w3 ⟨v4, rfl, hv4, hb3⟩
      obtain ⟨A4, l4, c4, rfl, hl4⟩ := hv4.is_slice
      obtain ⟨D1, D2⟩ := DONE.out false w3 _ rfl hb3 hv4
      have R3 := HR2.out.keep hb3
      have k0 := R3.c0; have k1 := R3.c1; have k2 := R3.c2; have f0 := R3.frozen 0; have f1 := R3.frozen 1; have f2 := R3.frozen 2
      have HD1 := Lib.hid D1; have HD2 := Lib.hid D2
      clear D1 D2 R3 hv4 hb3 hl4
      go_wp2_with fail
      generalize (((w3.setCell ⟨w.heap.size, 0, none⟩ (.bool false)).setCell ⟨w.heap.size, 1, none⟩ (.slice A3 l3 c3)).setCell ⟨w.heap.size, 2, none⟩ (.slice A4 l4 c4)) = wz at HD1 HD2 ⊢
      have r0 := HD1.out.c0; have r1 := HD1.out.c1; have r2 := HD1.out.c2
      exact bodyPost_ret (v := .agg #[.bool false, .slice A3 l3 c3, .slice A4 l4 c4]) (by simp [results, Tryz.results33, go_sem, r0, r1, r2]) rfl HD2.out
    · go_wp2_with fail
      refine CQ.out.mono ?_
      rintro e w3 ⟨v4, rfl, hv4, hb3⟩
      obtain ⟨A4, l4, c4, rfl, hl4⟩ := hv4.is_slice
      obtain ⟨D1, D2⟩ := DONE.out true w3 _ rfl hb3 hv4
      have R3 := HR2.out.keep hb3
      have k0 := R3.c0; have k1 := R3.c1; have k2 := R3.c2; have f0 := R3.frozen 0; have f1 := R3.frozen 1; have f2 := R3.frozen 2
      have HD1 := Lib.hid D1; have HD2 := Lib.hid D2
      clear D1 D2 R3 hv4 hb3 hl4
      go_wp2_with fail
      generalize (((w3.setCell ⟨w.heap.size, 0, none⟩ (.bool true)).setCell ⟨w.heap.size, 1, none⟩ (.slice A3 l3 c3)).setCell ⟨w.heap.size, 2, none⟩ (.slice A4 l4 c4)) = wz at HD1 HD2 ⊢
      have r0 := HD1.out.c0; have r1 := HD1.out.c1; have r2 := HD1.out.c2
      exact bodyPost_ret (v := .agg #[.bool true, .slice A3 l3 c3, .slice A4 l4 c4]) (by simp [results, Tryz.results33, go_sem, r0, r1, r2]) rfl HD2.out
end Go.Proofs.YtdlhpleabfnogaaGreatDoor
namespace Go.Proofs.YtdlhpleabfnogaaGreatDoor
open Go Go.RowKit
namespace Ev
structure T3x where
  s : Bool
  n : Nat
  d : Nat
def T3x.q (t : T3x) : Rat := mkRat (Big.sI t.s t.n) t.d
noncomputable def T3x.good (t : T3x) : Bool := Nat.ble 1 t.d && (Nat.beq (Nat.gcd t.n t.d) 1 && ((!t.s || Nat.ble 1 t.n) && (small t.n && small t.d)))
theorem T3x.parts {t : T3x} (h : t.good = true) : Big.ng t.q = t.s ∧ Big.nu t.q = t.n ∧ Big.de t.q = t.d := by
  unfold T3x.good at h
  simp only [Bool.and_eq_true, Bool.or_eq_true, Bool.not_eq_true'] at h
  obtain ⟨h1, h2, h3, -⟩ := h
  have h1 := Nat.le_of_ble_eq_true h1
  refine Big.parts (N := Big.sI t.s t.n) (D := t.d) h1 (Nat.eq_of_beq_eq_true h2) (fun hs => ?_) (by omega) rfl rfl
  rcases h3 with h3 | h3
  · rw [hs] at h3; cases h3
  · exact Nat.le_of_ble_eq_true h3
theorem T3x.sm {t : T3x} (h : t.good = true) : Sm 1000 t.q := by
  obtain ⟨_, h2, h3⟩ := T3x.parts h
  unfold T3x.good at h
  simp only [Bool.and_eq_true] at h
  exact ⟨by rw [h2]; exact sz_small h.2.2.2.1, by rw [h3]; exact sz_small h.2.2.2.2⟩
section
variable {h h' : Tr (Blk Nat)} {nx nx' : Nat} {R W : List Nat} {r : Ren} {w : World} {v v' : Value}
end
theorem T3x.pos {t : T3x} (h : t.good = true) : t.d ≠ 0 := by
  unfold T3x.good at h
  simp only [Bool.and_eq_true] at h
  have := Nat.le_of_ble_eq_true h.1
  omega
noncomputable def strsOf (l : List Value) : Option (List ByteArray) := List.rec (motive := fun _ => Option (List ByteArray)) (some []) (fun v _ ih => match v with
  | .string s => match ih with
    | some l => some (s :: l)
    | none => none
  | _ => none) l
theorem strsOf_ok : ∀ {l : List Value} {xs : List ByteArray}, strsOf l = some xs → l = xs.map .string
  | [], xs, h => by cases (show some [] = some xs from h); rfl
  | v :: l, xs, h => by
    cases v with
    | string s =>
      have h' : (match strsOf l with | some l => some (s :: l) | none => none) = some xs := h
      cases hl : strsOf l with
      | none => rw [hl] at h'; cases h'
      | some ys =>
        rw [hl] at h'
        cases h'
        rw [strsOf_ok hl]; rfl
    | _ => exact absurd (show (none : Option (List ByteArray)) = some xs from h) (by simp)
theorem strs_same {r : Ren} : ∀ {xs : List ByteArray} {l : List Value}, VsR r (xs.map .string) l → l = xs.map .string
  | [], _, h => by cases h; rfl
  | x :: xs, _, h => by
    cases h with
    | cons a b => rw [a.str, strs_same b]; rfl
noncomputable def capOf (c : Nat) : Nat := cond (Nat.ble capX c) (Nat.mod c capX) c
theorem capOf_le {r : Ren} {b off l c : Nat} {v' : Value} (h : VR r (vslice b off l c) v') : ∃ b' c', r.blk b = some b' ∧ v' = vslice b' off l c' ∧ capOf c ≤ c' := by
  obtain ⟨b', c', hb, hv, hc⟩ := slice_cases h
  refine ⟨b', c', hb, hv, ?_⟩
  unfold capOf
  rcases hc with ⟨hlt, rfl⟩ | ⟨s, c0, rfl, hc0, hle, _⟩
  · have hb0 : Nat.ble capX c' = false := by
      cases hq : Nat.ble capX c' with
      | false => rfl
      | true => have := Nat.le_of_ble_eq_true hq; omega
    rw [hb0]; exact Nat.le_refl _
  · have hmod : Nat.mod (capX * (s + 1) + c0) capX = c0 := by
      show (capX * (s + 1) + c0) % capX = c0
      unfold capX at hc0 ⊢; omega
    have hb0 : Nat.ble capX (capX * (s + 1) + c0) = true := Nat.ble_eq_true_of_le (by unfold capX; omega)
    rw [hb0, hmod]; exact hle
noncomputable def joined (xs : List ByteArray) (sep : ByteArray) : List UInt8 := Lib.join (xs.map (·.data.toList)) sep.data.toList
noncomputable def joinK (xs : List ByteArray) (n c : Nat) (sep : ByteArray) : M Nat Value := cond (Nat.ble n (capOf c) && Nat.ble n 100000 && Nat.ble (joined xs sep).length 100000) (ret (.string ⟨(joined xs sep).toArray⟩)) fail
noncomputable def joinS (args : List Value) : Option (M Nat Value) := match args with
  | [v, s] => match s with
    | .string sep => match sliceOf v with
      | some y => match y.1 with
        | some a => some (bind (rowO a.1 a.2 y.2.1) fun l => match strsOf l with
          | some xs => joinK xs y.2.1 y.2.2 sep
          | none => fail)
        | none => none
      | none => none
    | _ => none
  | _ => none
theorem sum_join : SumF natSig Tryz.prog 63 joinS := by
  intro args m e
  unfold joinS at e
  rcases args with _ | ⟨v, _ | ⟨s, _ | ⟨z, l⟩⟩⟩ <;> simp only [reduceCtorEq] at e
  cases s <;> simp only [reduceCtorEq] at e
  rename_i sep
  cases hs : sliceOf v with
  | none => rw [hs] at e; cases e
  | some y =>
  obtain ⟨base, n, c⟩ := y
  rw [hs] at e
  simp only at e
  cases base with
  | none => cases e
  | some a =>
  obtain ⟨b, off⟩ := a
  cases e
  refine ⟨loc_bind (loc_rowO _ _ _) fun l => by
    split
    · exact loc_cond (loc_ret _) loc_fail
    · exact loc_fail, ?_⟩
  intro h nx u h' nx' R W e r w args' hargs hM hN
  cases hargs with
  | cons h1 h2 => cases h2 with
    | cons h2 h3 =>
      cases h3
      obtain rfl := h2.str
      have hvs : v = vslice b off n c := sliceOf_of hs
      subst hvs
      obtain ⟨b', c', hb, rfl, hc⟩ := capOf_le h1
      obtain ⟨l, g1, nx1, R1, W1, R2, W2, e1, e2, rfl, rfl⟩ := bind_ok e
      obtain ⟨rfl, rfl, rfl, hl, l', q1, _, q3⟩ := rowO_ok e1 hM hb
      cases hx : strsOf l with
      | none => rw [hx] at e2; simp [fail] at e2
      | some xs =>
        rw [hx] at e2
        simp only at e2
        obtain rfl := strsOf_ok hx
        obtain rfl := strs_same q1
        unfold joinK at e2
        obtain ⟨hk, e3⟩ := cond_ok e2
        simp only [Bool.and_eq_true] at hk
        obtain ⟨⟨k1, k2⟩, k3⟩ := hk
        have k1 := Nat.le_of_ble_eq_true k1
        have k2 := Nat.le_of_ble_eq_true k2
        have k3 := Nat.le_of_ble_eq_true k3
        have hn : xs.length = n := by simpa using hl
        subst hn
        have hcall := Tryz.strings_Join b' off c' xs sep w (fun j x hj => q3 j _ (by rw [List.getElem?_map, hj]; rfl)) (hM.lt _ _ hb) (by omega) (by omega) (by unfold joined at k3; omega)
        simpa [Goes, vslice] using goes_val e3 rfl hM hcall
end Ev
end Go.Proofs.YtdlhpleabfnogaaGreatDoor
