/- Contracts, in this order: diapasonlaw01.RatioSimple, walked. -/
import Derived.Test.YtepnghhgmjobjaaDoorRs12
import Derived.Test.YtepnghhgmjobjaaDoorRs10
import Derived.Test.YtepnghhgmjobjaaDoorRs14
import Derived.RegionTactic
import Derived.Deep.DeepCutAuto
import Derived.Handy
import Derived.Laws.StructEq
namespace Go.Proofs.YtepnghhgmjobjaaDoor
open Go.RowKit
def FrX (b w : World) (q : Rat) (e : Ending) (w' : World) : Prop := e = .returned (.agg #[.bool (Big.ng q), .string (bst (Big.nu q)), .string (bst (Big.de q))]) ∧ Below b.heap.size b w' ∧ Below w.heap.size w w'
theorem liftX {P : Program} {f : FuncId} {args : Array Value} {b W : World} {q : Rat} (h : Below b.heap.size b W) (c : Calls P f args W (Fr1 W q)) : Calls P f args W (FrX b W q) :=
  c.mono fun _ _ ⟨h1, h3⟩ => ⟨h1, h.trans (h3.mono h.size), h3⟩
def RetX (b w : World) (v : Value) (n : Int) (e : Ending) (w' : World) : Prop := e = .returned (.tuple #[v, .int .i64 n]) ∧ Below b.heap.size b w' ∧ Below w.heap.size w w'
theorem liftR {P : Program} {f : FuncId} {args : Array Value} {b W : World} {v : Value} {n : Int} (h : Below b.heap.size b W) (c : Calls P f args W (Ret2 W v n)) : Calls P f args W (RetX b W v n) :=
  c.mono fun _ _ ⟨h1, h3⟩ => ⟨h1, h.trans (h3.mono h.size), h3⟩
theorem newdrew {w w' : World} {T : TypeId} {a b c : Value} (h : Below (w.alloc (.cells #[a, b, c] T)).drew.heap.size (w.alloc (.cells #[a, b, c] T)).drew w') : At3 w' w.heap.size T a b c :=
  At3.keep (w := (w.alloc (.cells #[a, b, c] T)).drew) (show At3 (w.alloc (.cells #[a, b, c] T)) w.heap.size T a b c from At3.new w T a b c) h
theorem simplest_by {x y : Rat} (b1 : By 2 x) (b2 : By 2 y) (h : x < y) : By 3 (Big.simplest x y) := by
  obtain ⟨h1, h2⟩ := Big.simplest_le h
  have := b1.nu; have := b1.de; have := b2.nu; have := b2.de
  exact ⟨by omega, by omega⟩
theorem floor_by {x : Rat} (b : By 2 x) : By 3 (Big.flQ x) := by
  obtain ⟨-, h2, h3⟩ := Big.flQ_parts x
  have h4 : Big.nu x / Big.de x ≤ Big.nu x := Nat.div_le_self _ _
  have := b.nu
  refine ⟨?_, by rw [h3]; decide⟩
  rw [h2]; split <;> omega
theorem int64_small (z : Rat) (b : By 3 z) (hd : Big.de z = 1) : ∃ n : Int, ∀ W, Calls Tryd.prog 15 #[.agg #[.bool (Big.ng z), .string (bst (Big.nu z)), .string (bst (Big.de z))]] W (Int2 W (n, true)) := by
  have h1 := b.nu
  have fz := b.fit (by omega)
  have hw : Big.nu z < Big.M64 := by rw [Big.M64_eq]; omega
  by_cases hn : Big.ng z = true
  · exact ⟨_, fun W => int64_neg W z fz hd hw (by omega) hn⟩
  · exact ⟨_, fun W => int64_pos W z fz hd hw (by omega) hn⟩
set_option maxRecDepth 100000 in
set_option maxHeartbeats 20000000 in
theorem simple_ge (w : World) (a b c d e f : Int) (hlo : -32768 ≤ a ∧ -32768 ≤ b ∧ -32768 ≤ c ∧ -32768 ≤ d) (hhi : a ≤ 32767 ∧ b ≤ 32767 ∧ c ≤ 32767 ∧ d ≤ 32767) (htab : Tab w) (x y : Rat) (hx : lofQ a b = x) (hy : lofQ c d = y) (hge : ¬ x < y) :
    Calls Tryd.prog 4 #[.agg #[.int .i16 a, .int .i16 b, .int .i16 c, .int .i16 d, .int .i16 e, .int .i16 f]] w fun e w' => e = .returned (.bool true) ∧ Below w.heap.size w w' := by
  have HB0 := Lib.hid (box1_below w (.cells #[.int .i16 a, .int .i16 b, .int .i16 c, .int .i16 d, .int .i16 e, .int .i16 f] 24))
  have KX0 := AtL.new w 24 #[.int .i16 a, .int .i16 b, .int .i16 c, .int .i16 d, .int .i16 e, .int .i16 f]
  have b1 : By 2 x := hx ▸ lofQ_by (by omega) (by omega)
  have b2 : By 2 y := hy ▸ lofQ_by (by omega) (by omega)
  have fx := b1.fit (by omega); have fy := b2.fit (by omega)
  obtain ⟨k, hk, hc⟩ : ∃ k, 0 ≤ k ∧ Big.cmpQ x y = k := by
    unfold Big.cmpQ; rw [if_neg hge]; split
    · exact ⟨0, by omega, rfl⟩
    · exact ⟨1, by omega, rfl⟩
  have t1 : decide (0 ≤ k) = true := decide_eq_true hk
  have CC := Lib.hid (show ∀ b W : World, Below b.heap.size b W → Calls Tryd.prog 11 #[.agg #[.bool (Big.ng x), .string (bst (Big.nu x)), .string (bst (Big.de x))], .agg #[.bool (Big.ng y), .string (bst (Big.nu y)), .string (bst (Big.de y))]] W (RetX b W (.int .i64 k) 0) from fun b W hb => liftR hb (by rw [← hc]; exact raCmp_any W x y fx fy))
  have CB := Lib.hid (show ∀ b W : World, Below b.heap.size b W → Calls Tryd.prog 13 #[.agg #[.bool (Big.ng x), .string (bst (Big.nu x)), .string (bst (Big.de x))], .agg #[.bool (Big.ng y), .string (bst (Big.nu y)), .string (bst (Big.de y))]] W (RetX b W (.agg #[.bool false, .string ⟨#[]⟩, .string ⟨#[]⟩]) 2) from fun b W hb => liftR hb (by exact raBetween_err W x y fx fy hge))
  clear hk hc hge
  have CW := Lib.hid (fun W h => lworks_any W h)
  have HT := Lib.hid htab
  have C1 := Lib.hid (fun W => hx ▸ lof_any W a b (by omega) (by omega) (by omega) (by omega))
  have C2 := Lib.hid (fun W => hy ▸ lof_any W c d (by omega) (by omega) (by omega) (by omega))
  clear hx hy hlo hhi htab b1 b2 fx fy
  go_enter Tryd.func4, Tryd.ntmps4
  go_upto_region 1 with fail
  generalize w.alloc (.cells #[.int .i16 a, .int .i16 b, .int .i16 c, .int .i16 d, .int .i16 e, .int .i16 f] 24) = w0 at *
  have KX := Lib.hid (show ∀ W, Below w0.heap.size w0 W → W.cell? ⟨w.heap.size, 0, none⟩ = some (.int .i16 a) ∧ W.cell? ⟨w.heap.size, 1, none⟩ = some (.int .i16 b) ∧ W.cell? ⟨w.heap.size, 2, none⟩ = some (.int .i16 c) ∧ W.cell? ⟨w.heap.size, 3, none⟩ = some (.int .i16 d) from fun W h => ⟨(KX0.keep h).cell 0 rfl, (KX0.keep h).cell 1 rfl, (KX0.keep h).cell 2 rfl, (KX0.keep h).cell 3 rfl⟩)
  clear KX0
  refine wp_region_any (by kernel_rfl) ?_
  refine wpAny_held (fun L a' w' => ∃ b0 b1 s0 s1 s2 s3 s4 s5 s6 s7 s8 s9 : Value, a' = { tmps := List.toArray ((Value.agg #[.int .i16 a, .int .i16 b, .int .i16 c, .int .i16 d, .int .i16 e, .int .i16 f]) :: Value.pointer (some ⟨w.heap.size, 0, none⟩) :: Value.bool false :: b0 :: b1 :: undef :: undef :: undef :: undef :: undef :: undef :: undef :: undef :: undef :: undef :: undef :: undef :: undef :: undef :: undef :: undef :: undef :: undef :: s0 :: s1 :: s2 :: s3 :: s4 :: s5 :: s6 :: s7 :: s8 :: s9 :: undef :: undef :: undef :: undef :: undef :: undef :: undef :: undef :: undef :: undef :: undef :: undef :: undef :: undef :: undef :: undef :: undef :: undef :: undef :: undef :: undef :: undef :: undef :: undef :: undef :: undef :: undef :: undef :: undef :: undef :: undef :: undef :: undef :: undef :: undef :: undef :: undef :: undef :: undef :: undef :: undef :: undef :: undef :: undef :: undef :: undef :: undef :: undef :: undef :: undef :: undef :: undef :: undef :: undef :: undef :: undef :: undef :: undef :: undef :: undef :: undef :: undef :: undef :: undef :: undef :: undef :: undef :: undef :: undef :: undef :: undef :: undef :: undef :: undef :: undef :: undef :: undef :: undef :: undef :: undef :: undef :: undef :: undef :: undef :: undef :: undef :: undef :: undef :: undef :: undef :: undef :: undef :: undef :: undef :: undef :: undef :: undef :: undef :: undef :: undef :: undef :: undef :: undef :: undef :: []), defers := [] } ∧ LF w0 w' L w.heap.size a b c d x y b0 b1 s0 s1 s2 s3 s4 s5 s6 s7 s8 s9) [[], [0], [], [2], [1, 3], [], [5], [], [7], [6, 8], [], [], [10, 11, 4], [10, 11, 9]] (by kernel_rfl) (by kernel_rfl) ?step ?done _ _ ?init
  case init =>
    refine ⟨_, _, _, _, _, _, _, _, _, _, _, _, rfl, ?_⟩
    exact { hb := below_drew (Below.refl _ _)
            p0 := fun h => by simp at h
            p1 := fun h => by simp at h
            p2 := fun h => by simp at h
            p3 := fun h => by simp at h
            p4 := fun h => by simp at h
            p5 := fun h => by simp at h
            p6 := fun h => by simp at h
            p7 := fun h => by simp at h
            p8 := fun h => by simp at h
            p9 := fun h => by simp at h
            x0 := fun h => by simp at h
            x1 := fun h => by simp at h
            d01 := fun h => by simp at h
            y0 := fun h => by simp at h
            y1 := fun h => by simp at h }
  case step =>
    intro i hi
    match i, hi with
    | 0, _ =>
      intro L a' w' hz hun hall hI
      obtain ⟨b0, b1, s0, s1, s2, s3, s4, s5, s6, s7, s8, s9, rfl, F⟩ := hI
      have HF := Lib.hid F
      refine wpOp_step rfl (fun K hK => ?_)
      have HK := Lib.hid hK
      clear hK F
      go_simp
      refine HK.out _ _ ⟨_, _, _, _, _, _, _, _, _, _, _, _, rfl, HF.out.set0 rfl⟩
    | 1, _ =>
      intro L a' w' hz hun hall hI
      obtain ⟨b0, b1, s0, s1, s2, s3, s4, s5, s6, s7, s8, s9, rfl, F⟩ := hI
      have HF := Lib.hid F
      obtain rfl := F.p0 (hall 0 (by decide))
      obtain ⟨k0, k1, k2, k3⟩ := KX.out _ F.hb
      refine wpOp_step rfl (fun K hK => ?_)
      have HK := Lib.hid hK
      clear hK F
      go_simp
      refine HK.out _ _ ⟨_, _, _, _, _, _, _, _, _, _, _, _, rfl, HF.out.set1 rfl⟩
    | 2, _ =>
      intro L a' w' hz hun hall hI
      obtain ⟨b0, b1, s0, s1, s2, s3, s4, s5, s6, s7, s8, s9, rfl, F⟩ := hI
      have HF := Lib.hid F
      refine wpOp_step rfl (fun K hK => ?_)
      have HK := Lib.hid hK
      clear hK F
      go_simp
      refine HK.out _ _ ⟨_, _, _, _, _, _, _, _, _, _, _, _, rfl, HF.out.set2 rfl⟩
    | 3, _ =>
      intro L a' w' hz hun hall hI
      obtain ⟨b0, b1, s0, s1, s2, s3, s4, s5, s6, s7, s8, s9, rfl, F⟩ := hI
      have HF := Lib.hid F
      obtain rfl := F.p2 (hall 2 (by decide))
      obtain ⟨k0, k1, k2, k3⟩ := KX.out _ F.hb
      refine wpOp_step rfl (fun K hK => ?_)
      have HK := Lib.hid hK
      clear hK F
      go_simp
      refine HK.out _ _ ⟨_, _, _, _, _, _, _, _, _, _, _, _, rfl, HF.out.set3 rfl⟩
    | 4, _ =>
      intro L a' w' hz hun hall hI
      obtain ⟨b0, b1, s0, s1, s2, s3, s4, s5, s6, s7, s8, s9, rfl, F⟩ := hI
      have HF := Lib.hid F
      obtain rfl := F.p1 (hall 1 (by decide))
      obtain rfl := F.p3 (hall 3 (by decide))
      refine wpOp_step rfl (fun K hK => ?_)
      have HK := Lib.hid hK
      clear hK F
      go_simp
      refine (C1.out _).mono ?_
      rintro e w2 ⟨rfl, hw2⟩
      refine HK.out _ _ ⟨_, _, _, _, _, _, _, _, _, _, _, _, rfl, (HF.out.move hw2).set4 rfl⟩
    | 5, _ =>
      intro L a' w' hz hun hall hI
      obtain ⟨b0, b1, s0, s1, s2, s3, s4, s5, s6, s7, s8, s9, rfl, F⟩ := hI
      have HF := Lib.hid F
      refine wpOp_step rfl (fun K hK => ?_)
      have HK := Lib.hid hK
      clear hK F
      go_simp
      refine HK.out _ _ ⟨_, _, _, _, _, _, _, _, _, _, _, _, rfl, HF.out.set5 rfl⟩
    | 6, _ =>
      intro L a' w' hz hun hall hI
      obtain ⟨b0, b1, s0, s1, s2, s3, s4, s5, s6, s7, s8, s9, rfl, F⟩ := hI
      have HF := Lib.hid F
      obtain rfl := F.p5 (hall 5 (by decide))
      obtain ⟨k0, k1, k2, k3⟩ := KX.out _ F.hb
      refine wpOp_step rfl (fun K hK => ?_)
      have HK := Lib.hid hK
      clear hK F
      go_simp
      refine HK.out _ _ ⟨_, _, _, _, _, _, _, _, _, _, _, _, rfl, HF.out.set6 rfl⟩
    | 7, _ =>
      intro L a' w' hz hun hall hI
      obtain ⟨b0, b1, s0, s1, s2, s3, s4, s5, s6, s7, s8, s9, rfl, F⟩ := hI
      have HF := Lib.hid F
      refine wpOp_step rfl (fun K hK => ?_)
      have HK := Lib.hid hK
      clear hK F
      go_simp
      refine HK.out _ _ ⟨_, _, _, _, _, _, _, _, _, _, _, _, rfl, HF.out.set7 rfl⟩
    | 8, _ =>
      intro L a' w' hz hun hall hI
      obtain ⟨b0, b1, s0, s1, s2, s3, s4, s5, s6, s7, s8, s9, rfl, F⟩ := hI
      have HF := Lib.hid F
      obtain rfl := F.p7 (hall 7 (by decide))
      obtain ⟨k0, k1, k2, k3⟩ := KX.out _ F.hb
      refine wpOp_step rfl (fun K hK => ?_)
      have HK := Lib.hid hK
      clear hK F
      go_simp
      refine HK.out _ _ ⟨_, _, _, _, _, _, _, _, _, _, _, _, rfl, HF.out.set8 rfl⟩
    | 9, _ =>
      intro L a' w' hz hun hall hI
      obtain ⟨b0, b1, s0, s1, s2, s3, s4, s5, s6, s7, s8, s9, rfl, F⟩ := hI
      have HF := Lib.hid F
      obtain rfl := F.p6 (hall 6 (by decide))
      obtain rfl := F.p8 (hall 8 (by decide))
      refine wpOp_step rfl (fun K hK => ?_)
      have HK := Lib.hid hK
      clear hK F
      go_simp
      refine (C2.out _).mono ?_
      rintro e w2 ⟨rfl, hw2⟩
      refine HK.out _ _ ⟨_, _, _, _, _, _, _, _, _, _, _, _, rfl, (HF.out.move hw2).set9 rfl⟩
    | 10, _ =>
      intro L a' w' hz hun hall hI
      obtain ⟨b0, b1, s0, s1, s2, s3, s4, s5, s6, s7, s8, s9, rfl, F⟩ := hI
      have HF := Lib.hid F
      refine wpOp_step rfl (fun K hK => ?_)
      have HK := Lib.hid hK
      clear hK F
      go_simp
      refine HK.out _ _ ⟨_, _, _, _, _, _, _, _, _, _, _, _, rfl, (HF.out.move (box1_below _ _)).box0 ⟨_, rfl, HF.out.hb.size, ⟨_, _, _, At3.new _ _ _ _ _⟩, fun l => (unl hun (HF.out.y0 (lis (by decide) l))).elim⟩ HF.out.new1⟩
    | 11, _ =>
      intro L a' w' hz hun hall hI
      obtain ⟨b0, b1, s0, s1, s2, s3, s4, s5, s6, s7, s8, s9, rfl, F⟩ := hI
      have HF := Lib.hid F
      refine wpOp_step rfl (fun K hK => ?_)
      have HK := Lib.hid hK
      clear hK F
      go_simp
      refine HK.out _ _ ⟨_, _, _, _, _, _, _, _, _, _, _, _, rfl, (HF.out.move (box1_below _ _)).box1 ⟨_, rfl, HF.out.hb.size, ⟨_, _, _, At3.new _ _ _ _ _⟩, fun l => (unl hun (HF.out.y1 (lis (by decide) l))).elim⟩ HF.out.new0⟩
    | 12, _ =>
      intro L a' w' hz hun hall hI
      obtain ⟨b0, b1, s0, s1, s2, s3, s4, s5, s6, s7, s8, s9, rfl, F⟩ := hI
      have HF := Lib.hid F
      obtain ⟨g, rfl, hg, ⟨a1, a2, a3, hs⟩, -⟩ := F.x0 (hall 10 (by decide))
      obtain rfl := F.p4 (hall 4 (by decide))
      have k0 := hs.c0; have k1 := hs.c1; have k2 := hs.c2; have f0 := hs.frozen 0; have f1 := hs.frozen 1; have f2 := hs.frozen 2
      refine wpOp_step rfl (fun K hK => ?_)
      have HK := Lib.hid hK
      clear hK F
      go_simp
      refine HK.out _ _ ⟨_, _, _, _, _, _, _, _, _, _, _, _, rfl, HF.out.put0 (hall 10 (by decide)) (hall 11 (by decide)) rfl⟩
    | 13, _ =>
      intro L a' w' hz hun hall hI
      obtain ⟨b0, b1, s0, s1, s2, s3, s4, s5, s6, s7, s8, s9, rfl, F⟩ := hI
      have HF := Lib.hid F
      obtain ⟨g, rfl, hg, ⟨a1, a2, a3, hs⟩, -⟩ := F.x1 (hall 11 (by decide))
      obtain rfl := F.p9 (hall 9 (by decide))
      have k0 := hs.c0; have k1 := hs.c1; have k2 := hs.c2; have f0 := hs.frozen 0; have f1 := hs.frozen 1; have f2 := hs.frozen 2
      refine wpOp_step rfl (fun K hK => ?_)
      have HK := Lib.hid hK
      clear hK F
      go_simp
      refine HK.out _ _ ⟨_, _, _, _, _, _, _, _, _, _, _, _, rfl, HF.out.put1 (hall 10 (by decide)) (hall 11 (by decide)) rfl⟩
    | m + 14, h => exact absurd h (by show ¬ (m + 14 < 14); omega)
  case done =>
    intro L a' w1 hI hall
    obtain ⟨b0, b1, s0, s1, s2, s3, s4, s5, s6, s7, s8, s9, rfl, F⟩ := hI
    obtain rfl := F.p0 (hall 0 (by show 0 < 14; omega))
    obtain rfl := F.p1 (hall 1 (by show 1 < 14; omega))
    obtain rfl := F.p2 (hall 2 (by show 2 < 14; omega))
    obtain rfl := F.p3 (hall 3 (by show 3 < 14; omega))
    obtain rfl := F.p4 (hall 4 (by show 4 < 14; omega))
    obtain rfl := F.p5 (hall 5 (by show 5 < 14; omega))
    obtain rfl := F.p6 (hall 6 (by show 6 < 14; omega))
    obtain rfl := F.p7 (hall 7 (by show 7 < 14; omega))
    obtain rfl := F.p8 (hall 8 (by show 8 < 14; omega))
    obtain rfl := F.p9 (hall 9 (by show 9 < 14; omega))
    obtain ⟨g0, rfl, hg0, -, hx0⟩ := F.x0 (hall 10 (by show 10 < 14; omega))
    have HX0 := Lib.hid (hx0 (hall 12 (by show 12 < 14; omega)))
    obtain ⟨g1, rfl, hg1, -, hx1⟩ := F.x1 (hall 11 (by show 11 < 14; omega))
    have HX1 := Lib.hid (hx1 (hall 13 (by show 13 < 14; omega)))
    have HBs := Lib.hid F.hb
    clear F hall hx0 hx1
    have BW1 := HB0.out.trans (HBs.out.mono HB0.out.size)
    have K1 := Lib.hid (show ∀ W, Below w1.heap.size w1 W → W.cell? ⟨g0, 0, none⟩ = some (.bool (Big.ng x)) ∧ W.cell? ⟨g0, 1, none⟩ = some (.string (bst (Big.nu x))) ∧ W.cell? ⟨g0, 2, none⟩ = some (.string (bst (Big.de x))) ∧ W.cell? ⟨g1, 0, none⟩ = some (.bool (Big.ng y)) ∧ W.cell? ⟨g1, 1, none⟩ = some (.string (bst (Big.nu y))) ∧ W.cell? ⟨g1, 2, none⟩ = some (.string (bst (Big.de y))) from fun W h => ⟨(HX0.out.keep h).c0, (HX0.out.keep h).c1, (HX0.out.keep h).c2, (HX1.out.keep h).c0, (HX1.out.keep h).c1, (HX1.out.keep h).c2⟩)
    obtain ⟨q00, q01, q02, q10, q11, q12⟩ := K1.out _ (Below.refl _ _)
    go_wp2_with (first | (go_at_call 11; (with_reducible refine (CC.out w1 _ (by first | assumption | exact Below.refl _ _ | exact below_drew (Below.refl _ _) | exact below_drew (by assumption) | exact below_drew (below_alloc (by assumption) (Nat.le_refl _) _) | exact below_alloc (by assumption) (Nat.le_refl _) _ | exact below_alloc (Below.refl _ _) (Nat.le_refl _) _ | exact below_alloc (below_drew (by assumption)) (Nat.le_refl _) _ | exact put_below (by assumption) (by first | assumption | exact Below.size (by first | assumption | exact below_drew (by assumption))) _ _ _)).mono ?_); rintro e w2 ⟨rfl, hw2, hw2'⟩; obtain ⟨q00, q01, q02, q10, q11, q12⟩ := K1.out _ hw2) | (go_at_call 13; (with_reducible refine (CB.out w1 _ (by first | assumption | exact Below.refl _ _ | exact below_drew (Below.refl _ _) | exact below_drew (by assumption) | exact below_drew (below_alloc (by assumption) (Nat.le_refl _) _) | exact below_alloc (by assumption) (Nat.le_refl _) _ | exact below_alloc (Below.refl _ _) (Nat.le_refl _) _ | exact below_alloc (below_drew (by assumption)) (Nat.le_refl _) _ | exact put_below (by assumption) (by first | assumption | exact Below.size (by first | assumption | exact below_drew (by assumption))) _ _ _)).mono ?_); rintro e w3 ⟨rfl, hw3, hw3'⟩; obtain ⟨q00, q01, q02, q10, q11, q12⟩ := K1.out _ hw3) | (go_at_call 12; refine (CW.out _ (HT.out.keep (BW1.trans ((below_alloc hw3 (Nat.le_refl _) _).mono BW1.size)))).mono ?_; rintro e w99 ⟨rfl, hw99⟩) | fail)
    go_ret
    exact ⟨rfl, (BW1.trans ((below_alloc hw3 (Nat.le_refl _) _).mono BW1.size)).trans (hw99.mono (BW1.trans ((below_alloc hw3 (Nat.le_refl _) _).mono BW1.size)).size)⟩
end Go.Proofs.YtepnghhgmjobjaaDoor
