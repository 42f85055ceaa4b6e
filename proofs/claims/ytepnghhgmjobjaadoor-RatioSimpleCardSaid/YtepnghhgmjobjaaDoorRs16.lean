/- Contracts, in this order: diapasonlaw01.RatioSimple, where x is below y. -/
import Derived.Test.YtepnghhgmjobjaaDoorRs15
namespace Go.Proofs.YtepnghhgmjobjaaDoor
open Go.RowKit
def IntX (b w : World) (n : Int) (t : Bool) (e : Ending) (w' : World) : Prop := e = .returned (.tuple #[.int .i64 n, .bool t]) ∧ Below b.heap.size b w' ∧ Below w.heap.size w w'
theorem liftI {P : Program} {f : FuncId} {args : Array Value} {b W : World} {n : Int} {t : Bool} (h : Below b.heap.size b W) (c : Calls P f args W (Int2 W (n, t))) : Calls P f args W (IntX b W n t) :=
  c.mono fun _ _ ⟨h1, h3⟩ => ⟨h1, h.trans (h3.mono h.size), h3⟩
set_option maxRecDepth 100000 in
set_option maxHeartbeats 20000000 in
theorem simple_w (w : World) (a b c d e f : Int) (hlo : -32768 ≤ a ∧ -32768 ≤ b ∧ -32768 ≤ c ∧ -32768 ≤ d) (hhi : a ≤ 32767 ∧ b ≤ 32767 ∧ c ≤ 32767 ∧ d ≤ 32767) (htab : Tab w) (x y : Rat) (hx : lofQ a b = x) (hy : lofQ c d = y) (hlt : x < y) (hd : Big.de (Big.simplest x y) = 1) :
    Calls Tryd.prog 4 #[.agg #[.int .i16 a, .int .i16 b, .int .i16 c, .int .i16 d, .int .i16 e, .int .i16 f]] w fun e w' => e = .returned (.bool true) ∧ Below w.heap.size w w' := by
  have HB0 := Lib.hid (box1_below w (.cells #[.int .i16 a, .int .i16 b, .int .i16 c, .int .i16 d, .int .i16 e, .int .i16 f] 24))
  have KX0 := AtL.new w 24 #[.int .i16 a, .int .i16 b, .int .i16 c, .int .i16 d, .int .i16 e, .int .i16 f]
  have b1 : By 2 x := hx ▸ lofQ_by (by omega) (by omega)
  have b2 : By 2 y := hy ▸ lofQ_by (by omega) (by omega)
  have fx := b1.fit (by omega); have fy := b2.fit (by omega)
  obtain ⟨l1, l2⟩ := Big.simplest_between hlt
  have b3 := simplest_by b1 b2 hlt
  have fz := b3.fit (by omega)
  have ez : Big.simplest (-y) (-x) = -Big.simplest x y := Big.simplest_turned hlt
  have fny := b2.neg.fit (k := 2) (by omega); have fnx := b1.neg.fit (k := 2) (by omega); have fnz := b3.neg.fit (k := 3) (by omega)
  have em : ofQ (-1) 1 = -1 := by decide +kernel
  have bm : By 1 (ofQ (-1) 1) := by rw [em]; exact ⟨by decide +kernel, by decide +kernel⟩
  have fm := bm.fit (by omega)
  have ey : ofQ (-1) 1 * y = -y := by rw [em, Rat.neg_mul, Rat.one_mul]
  have ex : ofQ (-1) 1 * x = -x := by rw [em, Rat.neg_mul, Rat.one_mul]
  have eu : ofQ (-1) 1 * Big.simplest x y = -Big.simplest x y := by rw [em, Rat.neg_mul, Rat.one_mul]
  have CC1 := Lib.hid (show ∀ b W : World, Below b.heap.size b W → Calls Tryd.prog 11 #[.agg #[.bool (Big.ng x), .string (bst (Big.nu x)), .string (bst (Big.de x))], .agg #[.bool (Big.ng y), .string (bst (Big.nu y)), .string (bst (Big.de y))]] W (RetX b W (.int .i64 (-1)) 0) from fun b W hb => liftR hb (by have h := raCmp_any W x y fx fy; rw [show Big.cmpQ x y = -1 from if_pos hlt] at h; exact h))
  have CC2 := Lib.hid (show ∀ b W : World, Below b.heap.size b W → Calls Tryd.prog 11 #[.agg #[.bool (Big.ng x), .string (bst (Big.nu x)), .string (bst (Big.de x))], .agg #[.bool (Big.ng (Big.simplest x y)), .string (bst (Big.nu (Big.simplest x y))), .string (bst (Big.de (Big.simplest x y)))]] W (RetX b W (.int .i64 (-1)) 0) from fun b W hb => liftR hb (by have h := raCmp_any W x _ fx fz; rw [show Big.cmpQ x (Big.simplest x y) = -1 from if_pos l1] at h; exact h))
  have CC3 := Lib.hid (show ∀ b W : World, Below b.heap.size b W → Calls Tryd.prog 11 #[.agg #[.bool (Big.ng (Big.simplest x y)), .string (bst (Big.nu (Big.simplest x y))), .string (bst (Big.de (Big.simplest x y)))], .agg #[.bool (Big.ng y), .string (bst (Big.nu y)), .string (bst (Big.de y))]] W (RetX b W (.int .i64 (-1)) 0) from fun b W hb => liftR hb (by have h := raCmp_any W _ y fz fy; rw [show Big.cmpQ (Big.simplest x y) y = -1 from if_pos l2] at h; exact h))
  have CB1 := Lib.hid (show ∀ b W : World, Below b.heap.size b W → Calls Tryd.prog 13 #[.agg #[.bool (Big.ng x), .string (bst (Big.nu x)), .string (bst (Big.de x))], .agg #[.bool (Big.ng y), .string (bst (Big.nu y)), .string (bst (Big.de y))]] W (RetX b W (.agg #[.bool (Big.ng (Big.simplest x y)), .string (bst (Big.nu (Big.simplest x y))), .string (bst (Big.de (Big.simplest x y)))]) 0) from fun b W hb => liftR hb (by exact raBetween_fit W x y fx fy hlt fz))
  have CB2 := Lib.hid (show ∀ b W : World, Below b.heap.size b W → Calls Tryd.prog 13 #[.agg #[.bool (Big.ng (-y)), .string (bst (Big.nu (-y))), .string (bst (Big.de (-y)))], .agg #[.bool (Big.ng (-x)), .string (bst (Big.nu (-x))), .string (bst (Big.de (-x)))]] W (RetX b W (.agg #[.bool (Big.ng (-Big.simplest x y)), .string (bst (Big.nu (-Big.simplest x y))), .string (bst (Big.de (-Big.simplest x y)))]) 0) from fun b W hb => liftR hb (by have h := raBetween_fit W (-y) (-x) fny fnx (Rat.neg_lt_neg hlt) (by rw [ez]; exact fnz); rw [ez] at h; exact h))
  have CO1 := Lib.hid (show ∀ b W : World, Below b.heap.size b W → Calls Tryd.prog 14 #[.int .i64 (-1), .int .i64 1] W (RetX b W (.agg #[.bool (Big.ng (ofQ (-1) 1)), .string (bst (Big.nu (ofQ (-1) 1))), .string (bst (Big.de (ofQ (-1) 1)))]) 0) from fun b W hb => liftR hb (by exact raOf_any W (-1) 1 (by omega) (by omega) (by omega) (by omega) (by omega)))
  have CMY := Lib.hid (show ∀ b W : World, Below b.heap.size b W → Calls Tryd.prog 7 #[.agg #[.bool (Big.ng (ofQ (-1) 1)), .string (bst (Big.nu (ofQ (-1) 1))), .string (bst (Big.de (ofQ (-1) 1)))], .agg #[.bool (Big.ng y), .string (bst (Big.nu y)), .string (bst (Big.de y))]] W (FrX b W (-y)) from fun b W hb => liftX hb (by have h := lmul_any W (ofQ (-1) 1) y fm fy (by rw [ey]; exact fny); rw [ey] at h; exact h))
  have CMX := Lib.hid (show ∀ b W : World, Below b.heap.size b W → Calls Tryd.prog 7 #[.agg #[.bool (Big.ng (ofQ (-1) 1)), .string (bst (Big.nu (ofQ (-1) 1))), .string (bst (Big.de (ofQ (-1) 1)))], .agg #[.bool (Big.ng x), .string (bst (Big.nu x)), .string (bst (Big.de x))]] W (FrX b W (-x)) from fun b W hb => liftX hb (by have h := lmul_any W (ofQ (-1) 1) x fm fx (by rw [ex]; exact fnx); rw [ex] at h; exact h))
  have CMZ := Lib.hid (show ∀ b W : World, Below b.heap.size b W → Calls Tryd.prog 7 #[.agg #[.bool (Big.ng (ofQ (-1) 1)), .string (bst (Big.nu (ofQ (-1) 1))), .string (bst (Big.de (ofQ (-1) 1)))], .agg #[.bool (Big.ng (Big.simplest x y)), .string (bst (Big.nu (Big.simplest x y))), .string (bst (Big.de (Big.simplest x y)))]] W (FrX b W (-Big.simplest x y)) from fun b W hb => liftX hb (by have h := lmul_any W (ofQ (-1) 1) _ fm fz (by rw [eu]; exact fnz); rw [eu] at h; exact h))
  obtain ⟨n, hn⟩ := int64_small _ b3 hd
  have CI := Lib.hid (show ∀ b W : World, Below b.heap.size b W → Calls Tryd.prog 15 #[.agg #[.bool (Big.ng (Big.simplest x y)), .string (bst (Big.nu (Big.simplest x y))), .string (bst (Big.de (Big.simplest x y)))]] W (IntX b W n true) from fun b W hb => liftI hb (hn W))
  clear hn b3 hd hlt
  clear ez ey ex eu l1 l2 fz fny fnx fnz fm bm em
  generalize Big.simplest x y = z at *
  generalize -z = nz at *
  generalize -y = ny at *
  generalize -x = nx at *
  generalize ofQ (-1) 1 = m at *
  have CW := Lib.hid (fun W h => lworks_any W h)
  have HT := Lib.hid htab
  have C1 := Lib.hid (fun W => hx ▸ lof_any W a b (by omega) (by omega) (by omega) (by omega))
  have C2 := Lib.hid (fun W => hy ▸ lof_any W c d (by omega) (by omega) (by omega) (by omega))
  clear hx hy hlo hhi htab b1 b2 fx fy
  go_enter Tryd.func4, Tryd.ntmps4
  go_upto_region 1 with fail
  generalize w.alloc (.cells #[.int .i16 a, .int .i16 b, .int .i16 c, .int .i16 d, .int .i16 e, .int .i16 f] 24) = w0 at *
  have KX := Lib.hid (show ∀ W, Below w0.heap.size w0 W → W.cell? ⟨w.heap.size, 0, none⟩ = some (.int .i16 a) ∧ W.cell? ⟨w.heap.size, 1, none⟩ = some (.int .i16 b) ∧ W.cell? ⟨w.heap.size, 2, none⟩ = some (.int .i16 c) ∧ W.cell? ⟨w.heap.size, 3, none⟩ = some (.int .i16 d) from fun W h => ⟨(KX0.keep h).cell 0 rfl, (KX0.keep h).cell 1 rfl, (KX0.keep h).cell 2 rfl, (KX0.keep h).cell 3 rfl⟩)
  clear KX0
  refine wp_region_any (by kernel_rfl) ?_
  refine wpAny_held (fun L a' w' => ∃ b0 b1 s0 s1 s2 s3 s4 s5 s6 s7 s8 s9 : Value, a' = { tmps := List.toArray ((Value.agg #[.int .i16 a, .int .i16 b, .int .i16 c, .int .i16 d, .int .i16 e, .int .i16 f]) :: Value.pointer (some ⟨w.heap.size, 0, none⟩) :: Value.bool false :: b0 :: b1 :: undef :: undef :: undef :: undef :: undef :: undef :: undef :: undef :: undef :: undef :: undef :: undef :: undef :: undef :: undef :: undef :: undef :: undef :: s0 :: s1 :: s2 :: s3 :: s4 :: s5 :: s6 :: s7 :: s8 :: s9 :: undef :: undef :: undef :: undef :: undef :: undef :: undef :: undef :: undef :: undef :: undef :: undef :: undef :: undef :: undef :: undef :: undef :: undef :: undef :: undef :: undef :: undef :: undef :: undef :: undef :: undef :: undef :: undef :: undef :: undef :: undef :: undef :: undef :: undef :: undef :: undef :: undef :: undef :: undef :: undef :: undef :: undef :: undef :: undef :: undef :: undef :: undef :: undef :: undef :: undef :: undef :: undef :: undef :: undef :: undef :: undef :: undef :: undef :: undef :: undef :: undef :: undef :: undef :: undef :: undef :: undef :: undef :: undef :: undef :: undef :: undef :: undef :: undef :: undef :: undef :: undef :: undef :: undef :: undef :: undef :: undef :: undef :: undef :: undef :: undef :: undef :: undef :: undef :: undef :: undef :: undef :: undef :: undef :: undef :: undef :: undef :: undef :: undef :: undef :: undef :: undef :: undef :: undef :: undef :: []), defers := [] } ∧ LF w0 w' L w.heap.size a b c d x y b0 b1 s0 s1 s2 s3 s4 s5 s6 s7 s8 s9) [[], [0], [], [2], [1, 3], [], [5], [], [7], [6, 8], [], [], [10, 11, 4], [10, 11, 9]] (by kernel_rfl) (by kernel_rfl) ?step ?done _ _ ?init
  case init =>
    refine ⟨_, _, _, _, _, _, _, _, _, _, _, _, rfl, ?_⟩
    exact { hb := below_drew (Below.refl _ _)
            p0 := fun h => by simp at h
            p1 := fun h => by simp at h
            p2 := fun h => by simp at h
            p3 := fun h => by simp at h
            p4 := fun h => by simp at h
            p5 := fun h => by simp at h
            p6 := fun h => by simp at h
            p7 := fun h => by simp at h
            p8 := fun h => by simp at h
            p9 := fun h => by simp at h
            x0 := fun h => by simp at h
            x1 := fun h => by simp at h
            d01 := fun h => by simp at h
            y0 := fun h => by simp at h
            y1 := fun h => by simp at h }
  case step =>
    intro i hi
    match i, hi with
    | 0, _ =>
      intro L a' w' hz hun hall hI
      obtain ⟨b0, b1, s0, s1, s2, s3, s4, s5, s6, s7, s8, s9, rfl, F⟩ := hI
      have HF := Lib.hid F
      refine wpOp_step rfl (fun K hK => ?_)
      have HK := Lib.hid hK
      clear hK F
      go_simp
      refine HK.out _ _ ⟨_, _, _, _, _, _, _, _, _, _, _, _, rfl, HF.out.set0 rfl⟩
    | 1, _ =>
      intro L a' w' hz hun hall hI
      obtain ⟨b0, b1, s0, s1, s2, s3, s4, s5, s6, s7, s8, s9, rfl, F⟩ := hI
      have HF := Lib.hid F
      obtain rfl := F.p0 (hall 0 (by decide))
      obtain ⟨k0, k1, k2, k3⟩ := KX.out _ F.hb
      refine wpOp_step rfl (fun K hK => ?_)
      have HK := Lib.hid hK
      clear hK F
      go_simp
      refine HK.out _ _ ⟨_, _, _, _, _, _, _, _, _, _, _, _, rfl, HF.out.set1 rfl⟩
    | 2, _ =>
      intro L a' w' hz hun hall hI
      obtain ⟨b0, b1, s0, s1, s2, s3, s4, s5, s6, s7, s8, s9, rfl, F⟩ := hI
      have HF := Lib.hid F
      refine wpOp_step rfl (fun K hK => ?_)
      have HK := Lib.hid hK
      clear hK F
      go_simp
      refine HK.out _ _ ⟨_, _, _, _, _, _, _, _, _, _, _, _, rfl, HF.out.set2 rfl⟩
    | 3, _ =>
      intro L a' w' hz hun hall hI
      obtain ⟨b0, b1, s0, s1, s2, s3, s4, s5, s6, s7, s8, s9, rfl, F⟩ := hI
      have HF := Lib.hid F
      obtain rfl := F.p2 (hall 2 (by decide))
      obtain ⟨k0, k1, k2, k3⟩ := KX.out _ F.hb
      refine wpOp_step rfl (fun K hK => ?_)
      have HK := Lib.hid hK
      clear hK F
      go_simp
      refine HK.out _ _ ⟨_, _, _, _, _, _, _, _, _, _, _, _, rfl, HF.out.set3 rfl⟩
    | 4, _ =>
      intro L a' w' hz hun hall hI
      obtain ⟨b0, b1, s0, s1, s2, s3, s4, s5, s6, s7, s8, s9, rfl, F⟩ := hI
      have HF := Lib.hid F
      obtain rfl := F.p1 (hall 1 (by decide))
      obtain rfl := F.p3 (hall 3 (by decide))
      refine wpOp_step rfl (fun K hK => ?_)
      have HK := Lib.hid hK
      clear hK F
      go_simp
      refine (C1.out _).mono ?_
      rintro e w2 ⟨rfl, hw2⟩
      refine HK.out _ _ ⟨_, _, _, _, _, _, _, _, _, _, _, _, rfl, (HF.out.move hw2).set4 rfl⟩
    | 5, _ =>
      intro L a' w' hz hun hall hI
      obtain ⟨b0, b1, s0, s1, s2, s3, s4, s5, s6, s7, s8, s9, rfl, F⟩ := hI
      have HF := Lib.hid F
      refine wpOp_step rfl (fun K hK => ?_)
      have HK := Lib.hid hK
      clear hK F
      go_simp
      refine HK.out _ _ ⟨_, _, _, _, _, _, _, _, _, _, _, _, rfl, HF.out.set5 rfl⟩
    | 6, _ =>
      intro L a' w' hz hun hall hI
      obtain ⟨b0, b1, s0, s1, s2, s3, s4, s5, s6, s7, s8, s9, rfl, F⟩ := hI
      have HF := Lib.hid F
      obtain rfl := F.p5 (hall 5 (by decide))
      obtain ⟨k0, k1, k2, k3⟩ := KX.out _ F.hb
      refine wpOp_step rfl (fun K hK => ?_)
      have HK := Lib.hid hK
      clear hK F
      go_simp
      refine HK.out _ _ ⟨_, _, _, _, _, _, _, _, _, _, _, _, rfl, HF.out.set6 rfl⟩
    | 7, _ =>
      intro L a' w' hz hun hall hI
      obtain ⟨b0, b1, s0, s1, s2, s3, s4, s5, s6, s7, s8, s9, rfl, F⟩ := hI
      have HF := Lib.hid F
      refine wpOp_step rfl (fun K hK => ?_)
      have HK := Lib.hid hK
      clear hK F
      go_simp
      refine HK.out _ _ ⟨_, _, _, _, _, _, _, _, _, _, _, _, rfl, HF.out.set7 rfl⟩
    | 8, _ =>
      intro L a' w' hz hun hall hI
      obtain ⟨b0, b1, s0, s1, s2, s3, s4, s5, s6, s7, s8, s9, rfl, F⟩ := hI
      have HF := Lib.hid F
      obtain rfl := F.p7 (hall 7 (by decide))
      obtain ⟨k0, k1, k2, k3⟩ := KX.out _ F.hb
      refine wpOp_step rfl (fun K hK => ?_)
      have HK := Lib.hid hK
      clear hK F
      go_simp
      refine HK.out _ _ ⟨_, _, _, _, _, _, _, _, _, _, _, _, rfl, HF.out.set8 rfl⟩
    | 9, _ =>
      intro L a' w' hz hun hall hI
      obtain ⟨b0, b1, s0, s1, s2, s3, s4, s5, s6, s7, s8, s9, rfl, F⟩ := hI
      have HF := Lib.hid F
      obtain rfl := F.p6 (hall 6 (by decide))
      obtain rfl := F.p8 (hall 8 (by decide))
      refine wpOp_step rfl (fun K hK => ?_)
      have HK := Lib.hid hK
      clear hK F
      go_simp
      refine (C2.out _).mono ?_
      rintro e w2 ⟨rfl, hw2⟩
      refine HK.out _ _ ⟨_, _, _, _, _, _, _, _, _, _, _, _, rfl, (HF.out.move hw2).set9 rfl⟩
    | 10, _ =>
      intro L a' w' hz hun hall hI
      obtain ⟨b0, b1, s0, s1, s2, s3, s4, s5, s6, s7, s8, s9, rfl, F⟩ := hI
      have HF := Lib.hid F
      refine wpOp_step rfl (fun K hK => ?_)
      have HK := Lib.hid hK
      clear hK F
      go_simp
      refine HK.out _ _ ⟨_, _, _, _, _, _, _, _, _, _, _, _, rfl, (HF.out.move (box1_below _ _)).box0 ⟨_, rfl, HF.out.hb.size, ⟨_, _, _, At3.new _ _ _ _ _⟩, fun l => (unl hun (HF.out.y0 (lis (by decide) l))).elim⟩ HF.out.new1⟩
    | 11, _ =>
      intro L a' w' hz hun hall hI
      obtain ⟨b0, b1, s0, s1, s2, s3, s4, s5, s6, s7, s8, s9, rfl, F⟩ := hI
      have HF := Lib.hid F
      refine wpOp_step rfl (fun K hK => ?_)
      have HK := Lib.hid hK
      clear hK F
      go_simp
      refine HK.out _ _ ⟨_, _, _, _, _, _, _, _, _, _, _, _, rfl, (HF.out.move (box1_below _ _)).box1 ⟨_, rfl, HF.out.hb.size, ⟨_, _, _, At3.new _ _ _ _ _⟩, fun l => (unl hun (HF.out.y1 (lis (by decide) l))).elim⟩ HF.out.new0⟩
    | 12, _ =>
      intro L a' w' hz hun hall hI
      obtain ⟨b0, b1, s0, s1, s2, s3, s4, s5, s6, s7, s8, s9, rfl, F⟩ := hI
      have HF := Lib.hid F
      obtain ⟨g, rfl, hg, ⟨a1, a2, a3, hs⟩, -⟩ := F.x0 (hall 10 (by decide))
      obtain rfl := F.p4 (hall 4 (by decide))
      have k0 := hs.c0; have k1 := hs.c1; have k2 := hs.c2; have f0 := hs.frozen 0; have f1 := hs.frozen 1; have f2 := hs.frozen 2
      refine wpOp_step rfl (fun K hK => ?_)
      have HK := Lib.hid hK
      clear hK F
      go_simp
      refine HK.out _ _ ⟨_, _, _, _, _, _, _, _, _, _, _, _, rfl, HF.out.put0 (hall 10 (by decide)) (hall 11 (by decide)) rfl⟩
    | 13, _ =>
      intro L a' w' hz hun hall hI
      obtain ⟨b0, b1, s0, s1, s2, s3, s4, s5, s6, s7, s8, s9, rfl, F⟩ := hI
      have HF := Lib.hid F
      obtain ⟨g, rfl, hg, ⟨a1, a2, a3, hs⟩, -⟩ := F.x1 (hall 11 (by decide))
      obtain rfl := F.p9 (hall 9 (by decide))
      have k0 := hs.c0; have k1 := hs.c1; have k2 := hs.c2; have f0 := hs.frozen 0; have f1 := hs.frozen 1; have f2 := hs.frozen 2
      refine wpOp_step rfl (fun K hK => ?_)
      have HK := Lib.hid hK
      clear hK F
      go_simp
      refine HK.out _ _ ⟨_, _, _, _, _, _, _, _, _, _, _, _, rfl, HF.out.put1 (hall 10 (by decide)) (hall 11 (by decide)) rfl⟩
    | m + 14, h => exact absurd h (by show ¬ (m + 14 < 14); omega)
  case done =>
    intro L a' w1 hI hall
    obtain ⟨b0, b1, s0, s1, s2, s3, s4, s5, s6, s7, s8, s9, rfl, F⟩ := hI
    obtain rfl := F.p0 (hall 0 (by show 0 < 14; omega))
    obtain rfl := F.p1 (hall 1 (by show 1 < 14; omega))
    obtain rfl := F.p2 (hall 2 (by show 2 < 14; omega))
    obtain rfl := F.p3 (hall 3 (by show 3 < 14; omega))
    obtain rfl := F.p4 (hall 4 (by show 4 < 14; omega))
    obtain rfl := F.p5 (hall 5 (by show 5 < 14; omega))
    obtain rfl := F.p6 (hall 6 (by show 6 < 14; omega))
    obtain rfl := F.p7 (hall 7 (by show 7 < 14; omega))
    obtain rfl := F.p8 (hall 8 (by show 8 < 14; omega))
    obtain rfl := F.p9 (hall 9 (by show 9 < 14; omega))
    obtain ⟨g0, rfl, hg0, -, hx0⟩ := F.x0 (hall 10 (by show 10 < 14; omega))
    have HX0 := Lib.hid (hx0 (hall 12 (by show 12 < 14; omega)))
    obtain ⟨g1, rfl, hg1, -, hx1⟩ := F.x1 (hall 11 (by show 11 < 14; omega))
    have HX1 := Lib.hid (hx1 (hall 13 (by show 13 < 14; omega)))
    have HBs := Lib.hid F.hb
    clear F hall hx0 hx1
    have BW1 := HB0.out.trans (HBs.out.mono HB0.out.size)
    have K1 := Lib.hid (show ∀ W, Below w1.heap.size w1 W → W.cell? ⟨g0, 0, none⟩ = some (.bool (Big.ng x)) ∧ W.cell? ⟨g0, 1, none⟩ = some (.string (bst (Big.nu x))) ∧ W.cell? ⟨g0, 2, none⟩ = some (.string (bst (Big.de x))) ∧ W.cell? ⟨g1, 0, none⟩ = some (.bool (Big.ng y)) ∧ W.cell? ⟨g1, 1, none⟩ = some (.string (bst (Big.nu y))) ∧ W.cell? ⟨g1, 2, none⟩ = some (.string (bst (Big.de y))) from fun W h => ⟨(HX0.out.keep h).c0, (HX0.out.keep h).c1, (HX0.out.keep h).c2, (HX1.out.keep h).c0, (HX1.out.keep h).c1, (HX1.out.keep h).c2⟩)
    obtain ⟨q00, q01, q02, q10, q11, q12⟩ := K1.out _ (Below.refl _ _)
    go_upto_region 8 with (first | (go_at_call 11; (with_reducible refine (CC1.out w1 _ (by first | assumption | exact Below.refl _ _ | exact below_drew (Below.refl _ _) | exact below_drew (by assumption) | exact below_drew (below_alloc (by assumption) (Nat.le_refl _) _) | exact below_alloc (by assumption) (Nat.le_refl _) _ | exact below_alloc (Below.refl _ _) (Nat.le_refl _) _ | exact below_alloc (below_drew (by assumption)) (Nat.le_refl _) _ | exact put_below (by assumption) (by first | assumption | exact Below.size (by first | assumption | exact below_drew (by assumption))) _ _ _)).mono ?_); rintro e w2 ⟨rfl, hw2, hw2'⟩; obtain ⟨q00, q01, q02, q10, q11, q12⟩ := K1.out _ hw2) | (go_at_call 13; (with_reducible refine (CB1.out w1 _ (by first | assumption | exact Below.refl _ _ | exact below_drew (Below.refl _ _) | exact below_drew (by assumption) | exact below_drew (below_alloc (by assumption) (Nat.le_refl _) _) | exact below_alloc (by assumption) (Nat.le_refl _) _ | exact below_alloc (Below.refl _ _) (Nat.le_refl _) _ | exact below_alloc (below_drew (by assumption)) (Nat.le_refl _) _ | exact put_below (by assumption) (by first | assumption | exact Below.size (by first | assumption | exact below_drew (by assumption))) _ _ _)).mono ?_); rintro e w3 ⟨rfl, hw3, hw3'⟩; obtain ⟨q00, q01, q02, q10, q11, q12⟩ := K1.out _ hw3) | fail)
    have hb7 := below_alloc hw3 (Nat.le_refl _) (.cells #[.bool (Big.ng z), .string (bst (Big.nu z)), .string (bst (Big.de z))] 26)
    have HZ7 := Lib.hid (At3.new w3 26 (.bool (Big.ng z)) (.string (bst (Big.nu z))) (.string (bst (Big.de z))))
    generalize w3.alloc (.cells #[.bool (Big.ng z), .string (bst (Big.nu z)), .string (bst (Big.de z))] 26) = w7 at *
    generalize w3.heap.size = g7 at *
    clear q00 q01 q02 q10 q11 q12
    have HX7 := Lib.hid (HX0.out.keep hb7); have HY7 := Lib.hid (HX1.out.keep hb7)
    have BW7 := BW1.trans (hb7.mono BW1.size)
    clear hw3' hw2' hw2 HX0 HX1 K1
    have K7 := Lib.hid (show ∀ W, Below w7.heap.size w7 W → W.cell? ⟨g0, 0, none⟩ = some (.bool (Big.ng x)) ∧ W.cell? ⟨g0, 1, none⟩ = some (.string (bst (Big.nu x))) ∧ W.cell? ⟨g0, 2, none⟩ = some (.string (bst (Big.de x))) ∧ W.cell? ⟨g1, 0, none⟩ = some (.bool (Big.ng y)) ∧ W.cell? ⟨g1, 1, none⟩ = some (.string (bst (Big.nu y))) ∧ W.cell? ⟨g1, 2, none⟩ = some (.string (bst (Big.de y))) ∧ W.cell? ⟨g7, 0, none⟩ = some (.bool (Big.ng z)) ∧ W.cell? ⟨g7, 1, none⟩ = some (.string (bst (Big.nu z))) ∧ W.cell? ⟨g7, 2, none⟩ = some (.string (bst (Big.de z))) from fun W h => ⟨(HX7.out.keep h).c0, (HX7.out.keep h).c1, (HX7.out.keep h).c2, (HY7.out.keep h).c0, (HY7.out.keep h).c1, (HY7.out.keep h).c2, (HZ7.out.keep h).c0, (HZ7.out.keep h).c1, (HZ7.out.keep h).c2⟩)
    obtain ⟨q00, q01, q02, q10, q11, q12, q20, q21, q22⟩ := K7.out _ (Below.refl _ _)
    go_upto_region 13 with (first | (go_at_call 11; (with_reducible refine (CC2.out w7 _ (by first | assumption | exact Below.refl _ _ | exact below_drew (Below.refl _ _) | exact below_drew (by assumption) | exact below_drew (below_alloc (by assumption) (Nat.le_refl _) _) | exact below_alloc (by assumption) (Nat.le_refl _) _ | exact below_alloc (Below.refl _ _) (Nat.le_refl _) _ | exact below_alloc (below_drew (by assumption)) (Nat.le_refl _) _ | exact put_below (by assumption) (by first | assumption | exact Below.size (by first | assumption | exact below_drew (by assumption))) _ _ _)).mono ?_); rintro e w8 ⟨rfl, hw8, hw8'⟩; obtain ⟨q00, q01, q02, q10, q11, q12, q20, q21, q22⟩ := K7.out _ hw8) | (go_at_call 11; (with_reducible refine (CC3.out w7 _ (by first | assumption | exact Below.refl _ _ | exact below_drew (Below.refl _ _) | exact below_drew (by assumption) | exact below_drew (below_alloc (by assumption) (Nat.le_refl _) _) | exact below_alloc (by assumption) (Nat.le_refl _) _ | exact below_alloc (Below.refl _ _) (Nat.le_refl _) _ | exact below_alloc (below_drew (by assumption)) (Nat.le_refl _) _ | exact put_below (by assumption) (by first | assumption | exact Below.size (by first | assumption | exact below_drew (by assumption))) _ _ _)).mono ?_); rintro e w9 ⟨rfl, hw9, hw9'⟩; obtain ⟨q00, q01, q02, q10, q11, q12, q20, q21, q22⟩ := K7.out _ hw9) | (go_at_call 14; (with_reducible refine (CO1.out w7 _ (by first | assumption | exact Below.refl _ _ | exact below_drew (Below.refl _ _) | exact below_drew (by assumption) | exact below_drew (below_alloc (by assumption) (Nat.le_refl _) _) | exact below_alloc (by assumption) (Nat.le_refl _) _ | exact below_alloc (Below.refl _ _) (Nat.le_refl _) _ | exact below_alloc (below_drew (by assumption)) (Nat.le_refl _) _ | exact put_below (by assumption) (by first | assumption | exact Below.size (by first | assumption | exact below_drew (by assumption))) _ _ _)).mono ?_); rintro e w11 ⟨rfl, hw11, hw11'⟩; obtain ⟨q00, q01, q02, q10, q11, q12, q20, q21, q22⟩ := K7.out _ hw11) | fail)
    have hb12 := below_alloc hw11 (Nat.le_refl _) (.cells #[.bool (Big.ng m), .string (bst (Big.nu m)), .string (bst (Big.de m))] 26)
    have HM12 := Lib.hid (At3.new w11 26 (.bool (Big.ng m)) (.string (bst (Big.nu m))) (.string (bst (Big.de m))))
    generalize w11.alloc (.cells #[.bool (Big.ng m), .string (bst (Big.nu m)), .string (bst (Big.de m))] 26) = w12 at *
    generalize w11.heap.size = g12 at *
    clear q00 q01 q02 q10 q11 q12 q20 q21 q22
    have HX12 := Lib.hid (HX7.out.keep hb12); have HY12 := Lib.hid (HY7.out.keep hb12); have HZ12 := Lib.hid (HZ7.out.keep hb12)
    have HBW12 := Lib.hid (BW7.trans (hb12.mono BW7.size))
    have hr12 := Below.refl w12.heap.size w12
    clear BW1 BW7 hw11' hw9' hw8' hw8 hw9 HX7 HY7 HZ7 K7
    have K12 := Lib.hid (show ∀ W, Below w12.heap.size w12 W → W.cell? ⟨g0, 0, none⟩ = some (.bool (Big.ng x)) ∧ W.cell? ⟨g0, 1, none⟩ = some (.string (bst (Big.nu x))) ∧ W.cell? ⟨g0, 2, none⟩ = some (.string (bst (Big.de x))) ∧ W.cell? ⟨g1, 0, none⟩ = some (.bool (Big.ng y)) ∧ W.cell? ⟨g1, 1, none⟩ = some (.string (bst (Big.nu y))) ∧ W.cell? ⟨g1, 2, none⟩ = some (.string (bst (Big.de y))) ∧ W.cell? ⟨g7, 0, none⟩ = some (.bool (Big.ng z)) ∧ W.cell? ⟨g7, 1, none⟩ = some (.string (bst (Big.nu z))) ∧ W.cell? ⟨g7, 2, none⟩ = some (.string (bst (Big.de z))) ∧ W.cell? ⟨g12, 0, none⟩ = some (.bool (Big.ng m)) ∧ W.cell? ⟨g12, 1, none⟩ = some (.string (bst (Big.nu m))) ∧ W.cell? ⟨g12, 2, none⟩ = some (.string (bst (Big.de m))) from fun W h => ⟨(HX12.out.keep h).c0, (HX12.out.keep h).c1, (HX12.out.keep h).c2, (HY12.out.keep h).c0, (HY12.out.keep h).c1, (HY12.out.keep h).c2, (HZ12.out.keep h).c0, (HZ12.out.keep h).c1, (HZ12.out.keep h).c2, (HM12.out.keep h).c0, (HM12.out.keep h).c1, (HM12.out.keep h).c2⟩)
    go_cut [14, 6] (fun s14 s6 wx => ∃ g14, s14 = .pointer (some ⟨g14, 0, none⟩) ∧ s6 = .int .i64 0 ∧ At3 wx g14 26 (.bool (Big.ng nz)) (.string (bst (Big.nu nz))) (.string (bst (Big.de nz))) ∧ Below w12.heap.size w12 wx)
    case first =>
      go_region_held3 (fun w' => w'.cell? ⟨g0, 0, none⟩ = some (.bool (Big.ng x)) ∧ w'.cell? ⟨g0, 1, none⟩ = some (.string (bst (Big.nu x))) ∧ w'.cell? ⟨g0, 2, none⟩ = some (.string (bst (Big.de x))) ∧ w'.cell? ⟨g1, 0, none⟩ = some (.bool (Big.ng y)) ∧ w'.cell? ⟨g1, 1, none⟩ = some (.string (bst (Big.nu y))) ∧ w'.cell? ⟨g1, 2, none⟩ = some (.string (bst (Big.de y))) ∧ w'.cell? ⟨g7, 0, none⟩ = some (.bool (Big.ng z)) ∧ w'.cell? ⟨g7, 1, none⟩ = some (.string (bst (Big.nu z))) ∧ w'.cell? ⟨g7, 2, none⟩ = some (.string (bst (Big.de z))) ∧ w'.cell? ⟨g12, 0, none⟩ = some (.bool (Big.ng m)) ∧ w'.cell? ⟨g12, 1, none⟩ = some (.string (bst (Big.nu m))) ∧ w'.cell? ⟨g12, 2, none⟩ = some (.string (bst (Big.de m))))
        (exact K12.out _ (by first | assumption | exact Below.refl _ _ | exact below_drew (Below.refl _ _) | exact below_drew (by assumption) | exact below_drew (below_alloc (by assumption) (Nat.le_refl _) _) | exact below_alloc (by assumption) (Nat.le_refl _) _ | exact below_alloc (Below.refl _ _) (Nat.le_refl _) _ | exact below_alloc (below_drew (by assumption)) (Nat.le_refl _) _ | exact put_below (by assumption) (by first | assumption | exact Below.size (by first | assumption | exact below_drew (by assumption))) _ _ _))
        (first
          | (go_at_call 7; (with_reducible refine (CMY.out w12 _ (by first | assumption | exact Below.refl _ _ | exact below_drew (Below.refl _ _) | exact below_drew (by assumption) | exact below_drew (below_alloc (by assumption) (Nat.le_refl _) _) | exact below_alloc (by assumption) (Nat.le_refl _) _ | exact below_alloc (Below.refl _ _) (Nat.le_refl _) _ | exact below_alloc (below_drew (by assumption)) (Nat.le_refl _) _ | exact put_below (by assumption) (by first | assumption | exact Below.size (by first | assumption | exact below_drew (by assumption))) _ _ _)).mono ?_); rintro e w21 ⟨rfl, hw21, hw21'⟩; (try (first | (have RA := newdrew hw21'; have k0 := RA.c0; have k1 := RA.c1; have k2 := RA.c2; have f0 := RA.frozen 0; have f1 := RA.frozen 1; have f2 := RA.frozen 2) | (have RA := (At3.new _ _ _ _ _).keep hw21'; have k0 := RA.c0; have k1 := RA.c1; have k2 := RA.c2; have f0 := RA.frozen 0; have f1 := RA.frozen 1; have f2 := RA.frozen 2))))
          | (go_at_call 7; (with_reducible refine (CMX.out w12 _ (by first | assumption | exact Below.refl _ _ | exact below_drew (Below.refl _ _) | exact below_drew (by assumption) | exact below_drew (below_alloc (by assumption) (Nat.le_refl _) _) | exact below_alloc (by assumption) (Nat.le_refl _) _ | exact below_alloc (Below.refl _ _) (Nat.le_refl _) _ | exact below_alloc (below_drew (by assumption)) (Nat.le_refl _) _ | exact put_below (by assumption) (by first | assumption | exact Below.size (by first | assumption | exact below_drew (by assumption))) _ _ _)).mono ?_); rintro e w22 ⟨rfl, hw22, hw22'⟩; (try (first | (have RB := RA.keep hw22'; have k0 := RB.c0; have k1 := RB.c1; have k2 := RB.c2; have f0 := RB.frozen 0; have f1 := RB.frozen 1; have f2 := RB.frozen 2) | (have RB := newdrew hw22'; have k0 := RB.c0; have k1 := RB.c1; have k2 := RB.c2; have f0 := RB.frozen 0; have f1 := RB.frozen 1; have f2 := RB.frozen 2) | (have RB := (At3.new _ _ _ _ _).keep hw22'; have k0 := RB.c0; have k1 := RB.c1; have k2 := RB.c2; have f0 := RB.frozen 0; have f1 := RB.frozen 1; have f2 := RB.frozen 2))))
          | (go_at_call 13; (with_reducible refine (CB2.out w12 _ (by first | assumption | exact Below.refl _ _ | exact below_drew (Below.refl _ _) | exact below_drew (by assumption) | exact below_drew (below_alloc (by assumption) (Nat.le_refl _) _) | exact below_alloc (by assumption) (Nat.le_refl _) _ | exact below_alloc (Below.refl _ _) (Nat.le_refl _) _ | exact below_alloc (below_drew (by assumption)) (Nat.le_refl _) _ | exact put_below (by assumption) (by first | assumption | exact Below.size (by first | assumption | exact below_drew (by assumption))) _ _ _)).mono ?_); rintro e w23 ⟨rfl, hw23, hw23'⟩; (try (first | (have RC := RB.keep hw23'; have k0 := RC.c0; have k1 := RC.c1; have k2 := RC.c2; have f0 := RC.frozen 0; have f1 := RC.frozen 1; have f2 := RC.frozen 2) | (have RC := newdrew hw23'; have k0 := RC.c0; have k1 := RC.c1; have k2 := RC.c2; have f0 := RC.frozen 0; have f1 := RC.frozen 1; have f2 := RC.frozen 2) | (have RC := (At3.new _ _ _ _ _).keep hw23'; have k0 := RC.c0; have k1 := RC.c1; have k2 := RC.c2; have f0 := RC.frozen 0; have f1 := RC.frozen 1; have f2 := RC.frozen 2))))
          | fail)
      all_goals go_wp2_with fail
      all_goals go_meet
      all_goals exact ⟨_, rfl, rfl, (by first | exact RC.put _ _ _ | exact At3.new _ _ _ _ _ | exact (At3.new _ _ _ _ _).put _ _ _), (by first | assumption | exact Below.refl _ _ | exact below_drew (Below.refl _ _) | exact below_drew (by assumption) | exact below_drew (below_alloc (by assumption) (Nat.le_refl _) _) | exact below_alloc (by assumption) (Nat.le_refl _) _ | exact below_alloc (Below.refl _ _) (Nat.le_refl _) _ | exact below_alloc (below_drew (by assumption)) (Nat.le_refl _) _ | exact put_below (by assumption) (by first | assumption | exact Below.size (by first | assumption | exact below_drew (by assumption))) _ _ _)⟩
    case rest =>
      obtain ⟨g14, rfl, rfl, h14, hb13⟩ := hcut
      have HX13 := Lib.hid (HX12.out.keep hb13); have HY13 := Lib.hid (HY12.out.keep hb13); have HZ13 := Lib.hid (HZ12.out.keep hb13); have HM13 := Lib.hid (HM12.out.keep hb13); have HN13 := Lib.hid h14
      have HBW13 := Lib.hid (HBW12.out.trans (hb13.mono HBW12.out.size))
      have hr13 := Below.refl wc.heap.size wc
      clear hb13 h14 hr12 HX12 HY12 HZ12 HM12 K12 HBW12
      have K13 := Lib.hid (show ∀ W, Below wc.heap.size wc W → W.cell? ⟨g0, 0, none⟩ = some (.bool (Big.ng x)) ∧ W.cell? ⟨g0, 1, none⟩ = some (.string (bst (Big.nu x))) ∧ W.cell? ⟨g0, 2, none⟩ = some (.string (bst (Big.de x))) ∧ W.cell? ⟨g1, 0, none⟩ = some (.bool (Big.ng y)) ∧ W.cell? ⟨g1, 1, none⟩ = some (.string (bst (Big.nu y))) ∧ W.cell? ⟨g1, 2, none⟩ = some (.string (bst (Big.de y))) ∧ W.cell? ⟨g7, 0, none⟩ = some (.bool (Big.ng z)) ∧ W.cell? ⟨g7, 1, none⟩ = some (.string (bst (Big.nu z))) ∧ W.cell? ⟨g7, 2, none⟩ = some (.string (bst (Big.de z))) ∧ W.cell? ⟨g12, 0, none⟩ = some (.bool (Big.ng m)) ∧ W.cell? ⟨g12, 1, none⟩ = some (.string (bst (Big.nu m))) ∧ W.cell? ⟨g12, 2, none⟩ = some (.string (bst (Big.de m))) ∧ W.cell? ⟨g14, 0, none⟩ = some (.bool (Big.ng nz)) ∧ W.cell? ⟨g14, 1, none⟩ = some (.string (bst (Big.nu nz))) ∧ W.cell? ⟨g14, 2, none⟩ = some (.string (bst (Big.de nz))) from fun W h => ⟨(HX13.out.keep h).c0, (HX13.out.keep h).c1, (HX13.out.keep h).c2, (HY13.out.keep h).c0, (HY13.out.keep h).c1, (HY13.out.keep h).c2, (HZ13.out.keep h).c0, (HZ13.out.keep h).c1, (HZ13.out.keep h).c2, (HM13.out.keep h).c0, (HM13.out.keep h).c1, (HM13.out.keep h).c2, (HN13.out.keep h).c0, (HN13.out.keep h).c1, (HN13.out.keep h).c2⟩)
      go_upto_region 14 with fail
      go_region_held3 (fun w' => w'.cell? ⟨g0, 0, none⟩ = some (.bool (Big.ng x)) ∧ w'.cell? ⟨g0, 1, none⟩ = some (.string (bst (Big.nu x))) ∧ w'.cell? ⟨g0, 2, none⟩ = some (.string (bst (Big.de x))) ∧ w'.cell? ⟨g1, 0, none⟩ = some (.bool (Big.ng y)) ∧ w'.cell? ⟨g1, 1, none⟩ = some (.string (bst (Big.nu y))) ∧ w'.cell? ⟨g1, 2, none⟩ = some (.string (bst (Big.de y))) ∧ w'.cell? ⟨g7, 0, none⟩ = some (.bool (Big.ng z)) ∧ w'.cell? ⟨g7, 1, none⟩ = some (.string (bst (Big.nu z))) ∧ w'.cell? ⟨g7, 2, none⟩ = some (.string (bst (Big.de z))) ∧ w'.cell? ⟨g12, 0, none⟩ = some (.bool (Big.ng m)) ∧ w'.cell? ⟨g12, 1, none⟩ = some (.string (bst (Big.nu m))) ∧ w'.cell? ⟨g12, 2, none⟩ = some (.string (bst (Big.de m))) ∧ w'.cell? ⟨g14, 0, none⟩ = some (.bool (Big.ng nz)) ∧ w'.cell? ⟨g14, 1, none⟩ = some (.string (bst (Big.nu nz))) ∧ w'.cell? ⟨g14, 2, none⟩ = some (.string (bst (Big.de nz))))
        (exact K13.out _ (by first | assumption | exact Below.refl _ _ | exact below_drew (Below.refl _ _) | exact below_drew (by assumption) | exact below_drew (below_alloc (by assumption) (Nat.le_refl _) _) | exact below_alloc (by assumption) (Nat.le_refl _) _ | exact below_alloc (Below.refl _ _) (Nat.le_refl _) _ | exact below_alloc (below_drew (by assumption)) (Nat.le_refl _) _ | exact put_below (by assumption) (by first | assumption | exact Below.size (by first | assumption | exact below_drew (by assumption))) _ _ _))
        (first
          | (go_at_call 7; (with_reducible refine (CMZ.out wc _ (by first | assumption | exact Below.refl _ _ | exact below_drew (Below.refl _ _) | exact below_drew (by assumption) | exact below_drew (below_alloc (by assumption) (Nat.le_refl _) _) | exact below_alloc (by assumption) (Nat.le_refl _) _ | exact below_alloc (Below.refl _ _) (Nat.le_refl _) _ | exact below_alloc (below_drew (by assumption)) (Nat.le_refl _) _ | exact put_below (by assumption) (by first | assumption | exact Below.size (by first | assumption | exact below_drew (by assumption))) _ _ _)).mono ?_); rintro e w31 ⟨rfl, hw31, hw31'⟩)
          | fail)
      obtain ⟨q00, q01, q02, q10, q11, q12, q20, q21, q22, q30, q31, q32, q40, q41, q42⟩ := K13.out _ hw31
      go_wp2_with (first | (go_at_call 15; (with_reducible refine (CI.out wc _ (by first | assumption | exact Below.refl _ _ | exact below_drew (Below.refl _ _) | exact below_drew (by assumption) | exact below_drew (below_alloc (by assumption) (Nat.le_refl _) _) | exact below_alloc (by assumption) (Nat.le_refl _) _ | exact below_alloc (Below.refl _ _) (Nat.le_refl _) _ | exact below_alloc (below_drew (by assumption)) (Nat.le_refl _) _ | exact put_below (by assumption) (by first | assumption | exact Below.size (by first | assumption | exact below_drew (by assumption))) _ _ _)).mono ?_); rintro e w33 ⟨rfl, hw33, hw33'⟩; obtain ⟨q00, q01, q02, q10, q11, q12, q20, q21, q22, q30, q31, q32, q40, q41, q42⟩ := K13.out _ hw33) | (go_at_call 12; refine (CW.out _ (HT.out.keep (HBW13.out.trans (hw33.mono HBW13.out.size)))).mono ?_; rintro e w99 ⟨rfl, hw99⟩) | fail)
      go_ret
      exact ⟨rfl, (HBW13.out.trans (hw33.mono HBW13.out.size)).trans (hw99.mono (HBW13.out.trans (hw33.mono HBW13.out.size)).size)⟩
end Go.Proofs.YtepnghhgmjobjaaDoor
