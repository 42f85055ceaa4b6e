/- THE LAW RatioLaws, PROVED: of any three numbers of two int16 each, Add, Mul, Sub, Quo, Cmp and Sign keep the laws of arithmetic. It holds for every input; the listed tables lie as the program's text lays them. -/
import Derived.Test.YtepnghhgmjobjaaDoorRl13
import Derived.Test.YtepnghhgmjobjaaDoorRl14
import Derived.Test.YtepnghhgmjobjaaDoorRl10
import Derived.RegionTactic
import Derived.Deep.DeepCutAuto
import Derived.Handy
import Derived.Laws.StructEq
import Derived.Test.YtepnghhgmjobjaaDoorProg
import Derived.ChangeArms
import Derived.ChangeSame
import Derived.WideShapes
import Derived.OpenShut
import Derived.Test.YtepnghhgmjobjaaDoorRows
import Derived.Test.YtepnghhgmjobjaaDoorChecked
import Derived.WalkKit
import Derived.ProofKit
import Derived.ChangeVars
import Derived.JoinedOf
import Derived.Stop.Joined
import Derived.HandedShaped
import Derived.LaidMore
import Derived.Lib.LaidTab
import Derived.SizedLaws
import Derived.Shelf.Vars
import Derived.Test.YtepnghhgmjobjaaDoorCards
import Derived.Test.YtepnghhgmjobjaaDoorTie
import Derived.SevenTiedAt
namespace Go.Proofs.YtepnghhgmjobjaaDoor
open Go.RowKit
def FrX (b w : World) (q : Rat) (e : Ending) (w' : World) : Prop := e = .returned (.agg #[.bool (Big.ng q), .string (bst (Big.nu q)), .string (bst (Big.de q))]) ∧ Below b.heap.size b w' ∧ Below w.heap.size w w'
theorem liftX {P : Program} {f : FuncId} {args : Array Value} {b W : World} {q : Rat} (h : Below b.heap.size b W) (c : Calls P f args W (Fr1 W q)) : Calls P f args W (FrX b W q) :=
  c.mono fun _ _ ⟨h1, h3⟩ => ⟨h1, h.trans (h3.mono h.size), h3⟩
def RetX (b w : World) (v : Value) (n : Int) (e : Ending) (w' : World) : Prop := e = .returned (.tuple #[v, .int .i64 n]) ∧ Below b.heap.size b w' ∧ Below w.heap.size w w'
theorem liftR {P : Program} {f : FuncId} {args : Array Value} {b W : World} {v : Value} {n : Int} (h : Below b.heap.size b W) (c : Calls P f args W (Ret2 W v n)) : Calls P f args W (RetX b W v n) :=
  c.mono fun _ _ ⟨h1, h3⟩ => ⟨h1, h.trans (h3.mono h.size), h3⟩
theorem newdrew {w w' : World} {T : TypeId} {a b c : Value} (h : Below (w.alloc (.cells #[a, b, c] T)).drew.heap.size (w.alloc (.cells #[a, b, c] T)).drew w') : At3 w' w.heap.size T a b c :=
  At3.keep (w := (w.alloc (.cells #[a, b, c] T)).drew) (show At3 (w.alloc (.cells #[a, b, c] T)) w.heap.size T a b c from At3.new w T a b c) h
set_option maxRecDepth 100000 in
set_option maxHeartbeats 20000000 in
theorem laws_any (w : World) (a b c d e f : Int) (hlo : -32768 ≤ a ∧ -32768 ≤ b ∧ -32768 ≤ c ∧ -32768 ≤ d ∧ -32768 ≤ e ∧ -32768 ≤ f) (hhi : a ≤ 32767 ∧ b ≤ 32767 ∧ c ≤ 32767 ∧ d ≤ 32767 ∧ e ≤ 32767 ∧ f ≤ 32767) (htab : Tab w) :
    Calls Tryd.prog 3 #[.agg #[.int .i16 a, .int .i16 b, .int .i16 c, .int .i16 d, .int .i16 e, .int .i16 f]] w fun e w' => e = .returned (.bool true) ∧ Below w.heap.size w w' := by
  have HB0 := Lib.hid (box1_below w (.cells #[.int .i16 a, .int .i16 b, .int .i16 c, .int .i16 d, .int .i16 e, .int .i16 f] 24))
  have KX0 := AtL.new w 24 #[.int .i16 a, .int .i16 b, .int .i16 c, .int .i16 d, .int .i16 e, .int .i16 f]
  obtain ⟨x, hx⟩ : ∃ z, lofQ a b = z := ⟨_, rfl⟩
  obtain ⟨y, hy⟩ : ∃ z, lofQ c d = z := ⟨_, rfl⟩
  obtain ⟨z, hz⟩ : ∃ z, lofQ e f = z := ⟨_, rfl⟩
  have b1 : By 2 x := hx ▸ lofQ_by (by omega) (by omega)
  have b2 : By 2 y := hy ▸ lofQ_by (by omega) (by omega)
  have b3 : By 2 z := hz ▸ lofQ_by (by omega) (by omega)
  have fx := b1.fit (by omega); have fy := b2.fit (by omega); have fz := b3.fit (by omega)
  have fxy := (b1.add b2).fit (by omega); have fyz := (b2.add b3).fit (by omega); have fs := ((b1.add b2).add b3).fit (by omega)
  have fm := (b1.mul b2).fit (by omega); have fn := (b2.mul b3).fit (by omega); have fm3 := ((b1.mul b2).mul b3).fit (by omega)
  have fo := (b1.mul b3).fit (by omega); have fd := (b1.mul (b2.add b3)).fit (by omega); have fv := (b1.sub b2).fit (by omega)
  have CA1 := Lib.hid (show ∀ b W : World, Below b.heap.size b W → Calls Tryd.prog 6 #[.agg #[.bool (Big.ng x), .string (bst (Big.nu x)), .string (bst (Big.de x))], .agg #[.bool (Big.ng y), .string (bst (Big.nu y)), .string (bst (Big.de y))]] W (FrX b W (x + y)) from fun b W hb => liftX hb (by exact ladd_any W x y fx fy fxy))
  have CA2 := Lib.hid (show ∀ b W : World, Below b.heap.size b W → Calls Tryd.prog 6 #[.agg #[.bool (Big.ng y), .string (bst (Big.nu y)), .string (bst (Big.de y))], .agg #[.bool (Big.ng x), .string (bst (Big.nu x)), .string (bst (Big.de x))]] W (FrX b W (x + y)) from fun b W hb => liftX hb (by have h := ladd_any W y x fy fx (by rw [Rat.add_comm]; exact fxy); rw [Rat.add_comm y x] at h; exact h))
  have CA3 := Lib.hid (show ∀ b W : World, Below b.heap.size b W → Calls Tryd.prog 6 #[.agg #[.bool (Big.ng (x + y)), .string (bst (Big.nu (x + y))), .string (bst (Big.de (x + y)))], .agg #[.bool (Big.ng z), .string (bst (Big.nu z)), .string (bst (Big.de z))]] W (FrX b W (x + y + z)) from fun b W hb => liftX hb (by exact ladd_any W (x + y) z fxy fz fs))
  have CA4 := Lib.hid (show ∀ b W : World, Below b.heap.size b W → Calls Tryd.prog 6 #[.agg #[.bool (Big.ng y), .string (bst (Big.nu y)), .string (bst (Big.de y))], .agg #[.bool (Big.ng z), .string (bst (Big.nu z)), .string (bst (Big.de z))]] W (FrX b W (y + z)) from fun b W hb => liftX hb (by exact ladd_any W y z fy fz fyz))
  have CA5 := Lib.hid (show ∀ b W : World, Below b.heap.size b W → Calls Tryd.prog 6 #[.agg #[.bool (Big.ng x), .string (bst (Big.nu x)), .string (bst (Big.de x))], .agg #[.bool (Big.ng (y + z)), .string (bst (Big.nu (y + z))), .string (bst (Big.de (y + z)))]] W (FrX b W (x + y + z)) from fun b W hb => liftX hb (by rw [Rat.add_assoc]; exact ladd_any W x (y + z) fx fyz (by rw [← Rat.add_assoc]; exact fs)))
  have CM1 := Lib.hid (show ∀ b W : World, Below b.heap.size b W → Calls Tryd.prog 7 #[.agg #[.bool (Big.ng x), .string (bst (Big.nu x)), .string (bst (Big.de x))], .agg #[.bool (Big.ng y), .string (bst (Big.nu y)), .string (bst (Big.de y))]] W (FrX b W (x * y)) from fun b W hb => liftX hb (by exact lmul_any W x y fx fy fm))
  have CM2 := Lib.hid (show ∀ b W : World, Below b.heap.size b W → Calls Tryd.prog 7 #[.agg #[.bool (Big.ng y), .string (bst (Big.nu y)), .string (bst (Big.de y))], .agg #[.bool (Big.ng x), .string (bst (Big.nu x)), .string (bst (Big.de x))]] W (FrX b W (x * y)) from fun b W hb => liftX hb (by have h := lmul_any W y x fy fx (by rw [Rat.mul_comm]; exact fm); rw [Rat.mul_comm y x] at h; exact h))
  have CM3 := Lib.hid (show ∀ b W : World, Below b.heap.size b W → Calls Tryd.prog 7 #[.agg #[.bool (Big.ng (x * y)), .string (bst (Big.nu (x * y))), .string (bst (Big.de (x * y)))], .agg #[.bool (Big.ng z), .string (bst (Big.nu z)), .string (bst (Big.de z))]] W (FrX b W (x * y * z)) from fun b W hb => liftX hb (by exact lmul_any W (x * y) z fm fz fm3))
  have CM4 := Lib.hid (show ∀ b W : World, Below b.heap.size b W → Calls Tryd.prog 7 #[.agg #[.bool (Big.ng y), .string (bst (Big.nu y)), .string (bst (Big.de y))], .agg #[.bool (Big.ng z), .string (bst (Big.nu z)), .string (bst (Big.de z))]] W (FrX b W (y * z)) from fun b W hb => liftX hb (by exact lmul_any W y z fy fz fn))
  have CM5 := Lib.hid (show ∀ b W : World, Below b.heap.size b W → Calls Tryd.prog 7 #[.agg #[.bool (Big.ng x), .string (bst (Big.nu x)), .string (bst (Big.de x))], .agg #[.bool (Big.ng (y * z)), .string (bst (Big.nu (y * z))), .string (bst (Big.de (y * z)))]] W (FrX b W (x * y * z)) from fun b W hb => liftX hb (by rw [Rat.mul_assoc]; exact lmul_any W x (y * z) fx fn (by rw [← Rat.mul_assoc]; exact fm3)))
  have CM6 := Lib.hid (show ∀ b W : World, Below b.heap.size b W → Calls Tryd.prog 7 #[.agg #[.bool (Big.ng x), .string (bst (Big.nu x)), .string (bst (Big.de x))], .agg #[.bool (Big.ng (y + z)), .string (bst (Big.nu (y + z))), .string (bst (Big.de (y + z)))]] W (FrX b W (x * (y + z))) from fun b W hb => liftX hb (by exact lmul_any W x (y + z) fx fyz fd))
  have CM7 := Lib.hid (show ∀ b W : World, Below b.heap.size b W → Calls Tryd.prog 7 #[.agg #[.bool (Big.ng x), .string (bst (Big.nu x)), .string (bst (Big.de x))], .agg #[.bool (Big.ng z), .string (bst (Big.nu z)), .string (bst (Big.de z))]] W (FrX b W (x * z)) from fun b W hb => liftX hb (by exact lmul_any W x z fx fz fo))
  have CA6 := Lib.hid (show ∀ b W : World, Below b.heap.size b W → Calls Tryd.prog 6 #[.agg #[.bool (Big.ng (x * y)), .string (bst (Big.nu (x * y))), .string (bst (Big.de (x * y)))], .agg #[.bool (Big.ng (x * z)), .string (bst (Big.nu (x * z))), .string (bst (Big.de (x * z)))]] W (FrX b W (x * (y + z))) from fun b W hb => liftX hb (by rw [Rat.mul_add]; exact ladd_any W (x * y) (x * z) fm fo (by rw [← Rat.mul_add]; exact fd)))
  have CS := Lib.hid (show ∀ b W : World, Below b.heap.size b W → Calls Tryd.prog 8 #[.agg #[.bool (Big.ng (x + y)), .string (bst (Big.nu (x + y))), .string (bst (Big.de (x + y)))], .agg #[.bool (Big.ng y), .string (bst (Big.nu y)), .string (bst (Big.de y))]] W (RetX b W (.agg #[.bool (Big.ng x), .string (bst (Big.nu x)), .string (bst (Big.de x))]) 0) from fun b W hb => liftR hb (by have h := raSub_fit W (x + y) y fxy fy (by rw [Rat.add_sub_cancel]; exact fx); rw [Rat.add_sub_cancel] at h; exact h))
  have CQ := Lib.hid (show sgQ y ≠ 0 → ∀ b W : World, Below b.heap.size b W → Calls Tryd.prog 10 #[.agg #[.bool (Big.ng (x * y)), .string (bst (Big.nu (x * y))), .string (bst (Big.de (x * y)))], .agg #[.bool (Big.ng y), .string (bst (Big.nu y)), .string (bst (Big.de y))]] W (RetX b W (.agg #[.bool (Big.ng x), .string (bst (Big.nu x)), .string (bst (Big.de x))]) 0) from fun hs b W hb => liftR hb (by
    have hn := nu_of_sg hs
    have h := raQuo_fit W (x * y) y fm fy hn (by rw [quo_back (ne_zero_of_nu hn)]; exact fx)
    rw [quo_back (ne_zero_of_nu hn)] at h; exact h))
  have CV := Lib.hid (show ∀ b W : World, Below b.heap.size b W → Calls Tryd.prog 8 #[.agg #[.bool (Big.ng x), .string (bst (Big.nu x)), .string (bst (Big.de x))], .agg #[.bool (Big.ng y), .string (bst (Big.nu y)), .string (bst (Big.de y))]] W (RetX b W (.agg #[.bool (Big.ng (x - y)), .string (bst (Big.nu (x - y))), .string (bst (Big.de (x - y)))]) 0) from fun b W hb => liftR hb (by exact raSub_fit W x y fx fy fv))
  have CC := Lib.hid (show ∀ W : World, Calls Tryd.prog 11 #[.agg #[.bool (Big.ng x), .string (bst (Big.nu x)), .string (bst (Big.de x))], .agg #[.bool (Big.ng y), .string (bst (Big.nu y)), .string (bst (Big.de y))]] W (Ret2 W (.int .i64 (sgQ (x - y))) 0) from fun W => cmp_sgn x y ▸ raCmp_any W x y fx fy)
  have CG := Lib.hid (fun W => raSign_any W y fy)
  have CH := Lib.hid (fun W => raSign_any W (x - y) fv)
  have CW := Lib.hid (fun W h => lworks_any W h)
  have HT := Lib.hid htab
  clear b1 b2 b3 fx fy fz fxy fyz fs fm fn fm3 fo fd fv htab
  generalize x + y + z = S at *
  generalize x * y * z = M3 at *
  generalize x * (y + z) = D at *
  generalize x + y = XY at *
  generalize y + z = YZ at *
  generalize x * y = M at *
  generalize y * z = N at *
  generalize x * z = O at *
  generalize x - y = V at *
  have C1 := Lib.hid (fun W => hx ▸ lof_any W a b (by omega) (by omega) (by omega) (by omega))
  have C2 := Lib.hid (fun W => hy ▸ lof_any W c d (by omega) (by omega) (by omega) (by omega))
  have C3 := Lib.hid (fun W => hz ▸ lof_any W e f (by omega) (by omega) (by omega) (by omega))
  clear hx hy hz hlo hhi
  go_enter Tryd.func3, Tryd.ntmps3
  go_upto_region 1 with fail
  generalize w.alloc (.cells #[.int .i16 a, .int .i16 b, .int .i16 c, .int .i16 d, .int .i16 e, .int .i16 f] 24) = w0 at *
  have KX := Lib.hid (show ∀ W, Below w0.heap.size w0 W → W.cell? ⟨w.heap.size, 0, none⟩ = some (.int .i16 a) ∧ W.cell? ⟨w.heap.size, 1, none⟩ = some (.int .i16 b) ∧ W.cell? ⟨w.heap.size, 2, none⟩ = some (.int .i16 c) ∧ W.cell? ⟨w.heap.size, 3, none⟩ = some (.int .i16 d) ∧ W.cell? ⟨w.heap.size, 4, none⟩ = some (.int .i16 e) ∧ W.cell? ⟨w.heap.size, 5, none⟩ = some (.int .i16 f) from fun W h => ⟨(KX0.keep h).cell 0 rfl, (KX0.keep h).cell 1 rfl, (KX0.keep h).cell 2 rfl, (KX0.keep h).cell 3 rfl, (KX0.keep h).cell 4 rfl, (KX0.keep h).cell 5 rfl⟩)
  clear KX0
  refine wp_region_any (by kernel_rfl) ?_
  refine wpAny_held (fun L a' w' => ∃ b0 b1 b2 s0 s1 s2 s3 s4 s5 s6 s7 s8 s9 s10 s11 s12 s13 s14 : Value, a' = { tmps := List.toArray ((Value.agg #[.int .i16 a, .int .i16 b, .int .i16 c, .int .i16 d, .int .i16 e, .int .i16 f]) :: Value.pointer (some ⟨w.heap.size, 0, none⟩) :: Value.bool false :: b0 :: b1 :: b2 :: undef :: undef :: undef :: undef :: undef :: s0 :: s1 :: s2 :: s3 :: s4 :: s5 :: s6 :: s7 :: s8 :: s9 :: s10 :: s11 :: s12 :: s13 :: s14 :: undef :: undef :: undef :: undef :: undef :: undef :: undef :: undef :: undef :: undef :: undef :: undef :: undef :: undef :: undef :: undef :: undef :: undef :: undef :: undef :: undef :: undef :: undef :: undef :: undef :: undef :: undef :: undef :: undef :: undef :: undef :: undef :: undef :: undef :: undef :: undef :: undef :: undef :: undef :: undef :: undef :: undef :: undef :: undef :: undef :: undef :: undef :: undef :: undef :: undef :: undef :: undef :: undef :: undef :: undef :: undef :: undef :: undef :: undef :: undef :: undef :: undef :: undef :: undef :: undef :: undef :: undef :: undef :: undef :: undef :: undef :: undef :: undef :: undef :: undef :: undef :: undef :: undef :: undef :: undef :: undef :: undef :: undef :: undef :: undef :: undef :: undef :: undef :: undef :: undef :: undef :: undef :: undef :: undef :: undef :: undef :: undef :: undef :: undef :: undef :: undef :: undef :: undef :: undef :: undef :: undef :: undef :: undef :: undef :: undef :: undef :: undef :: undef :: undef :: undef :: []), defers := [] } ∧ LF w0 w' L w.heap.size a b c d e f x y z b0 b1 b2 s0 s1 s2 s3 s4 s5 s6 s7 s8 s9 s10 s11 s12 s13 s14) [[], [0], [], [2], [1, 3], [], [5], [], [7], [6, 8], [], [10], [], [12], [11, 13], [], [], [], [15, 16, 17, 4], [15, 16, 17, 9], [15, 16, 17, 14]] (by kernel_rfl) (by kernel_rfl) ?step ?done _ _ ?init
  case init =>
    refine ⟨_, _, _, _, _, _, _, _, _, _, _, _, _, _, _, _, _, _, rfl, ?_⟩
    exact { hb := below_drew (Below.refl _ _)
            p0 := fun h => by simp at h
            p1 := fun h => by simp at h
            p2 := fun h => by simp at h
            p3 := fun h => by simp at h
            p4 := fun h => by simp at h
            p5 := fun h => by simp at h
            p6 := fun h => by simp at h
            p7 := fun h => by simp at h
            p8 := fun h => by simp at h
            p9 := fun h => by simp at h
            p10 := fun h => by simp at h
            p11 := fun h => by simp at h
            p12 := fun h => by simp at h
            p13 := fun h => by simp at h
            p14 := fun h => by simp at h
            x0 := fun h => by simp at h
            x1 := fun h => by simp at h
            x2 := fun h => by simp at h
            d01 := fun h => by simp at h
            d02 := fun h => by simp at h
            d12 := fun h => by simp at h
            y0 := fun h => by simp at h
            y1 := fun h => by simp at h
            y2 := fun h => by simp at h }
  case step =>
    intro i hi
    match i, hi with
    | 0, _ =>
      intro L a' w' hz hun hall hI
      obtain ⟨b0, b1, b2, s0, s1, s2, s3, s4, s5, s6, s7, s8, s9, s10, s11, s12, s13, s14, rfl, F⟩ := hI
      have HF := Lib.hid F
      refine wpOp_step rfl (fun K hK => ?_)
      have HK := Lib.hid hK
      clear hK F
      go_simp
      refine HK.out _ _ ⟨_, _, _, _, _, _, _, _, _, _, _, _, _, _, _, _, _, _, rfl, HF.out.set0 rfl⟩
    | 1, _ =>
      intro L a' w' hz hun hall hI
      obtain ⟨b0, b1, b2, s0, s1, s2, s3, s4, s5, s6, s7, s8, s9, s10, s11, s12, s13, s14, rfl, F⟩ := hI
      have HF := Lib.hid F
      obtain rfl := F.p0 (hall 0 (by decide))
      obtain ⟨k0, k1, k2, k3, k4, k5⟩ := KX.out _ F.hb
      refine wpOp_step rfl (fun K hK => ?_)
      have HK := Lib.hid hK
      clear hK F
      go_simp
      refine HK.out _ _ ⟨_, _, _, _, _, _, _, _, _, _, _, _, _, _, _, _, _, _, rfl, HF.out.set1 rfl⟩
    | 2, _ =>
      intro L a' w' hz hun hall hI
      obtain ⟨b0, b1, b2, s0, s1, s2, s3, s4, s5, s6, s7, s8, s9, s10, s11, s12, s13, s14, rfl, F⟩ := hI
      have HF := Lib.hid F
      refine wpOp_step rfl (fun K hK => ?_)
      have HK := Lib.hid hK
      clear hK F
      go_simp
      refine HK.out _ _ ⟨_, _, _, _, _, _, _, _, _, _, _, _, _, _, _, _, _, _, rfl, HF.out.set2 rfl⟩
    | 3, _ =>
      intro L a' w' hz hun hall hI
      obtain ⟨b0, b1, b2, s0, s1, s2, s3, s4, s5, s6, s7, s8, s9, s10, s11, s12, s13, s14, rfl, F⟩ := hI
      have HF := Lib.hid F
      obtain rfl := F.p2 (hall 2 (by decide))
      obtain ⟨k0, k1, k2, k3, k4, k5⟩ := KX.out _ F.hb
      refine wpOp_step rfl (fun K hK => ?_)
      have HK := Lib.hid hK
      clear hK F
      go_simp
      refine HK.out _ _ ⟨_, _, _, _, _, _, _, _, _, _, _, _, _, _, _, _, _, _, rfl, HF.out.set3 rfl⟩
    | 4, _ =>
      intro L a' w' hz hun hall hI
      obtain ⟨b0, b1, b2, s0, s1, s2, s3, s4, s5, s6, s7, s8, s9, s10, s11, s12, s13, s14, rfl, F⟩ := hI
      have HF := Lib.hid F
      obtain rfl := F.p1 (hall 1 (by decide))
      obtain rfl := F.p3 (hall 3 (by decide))
      refine wpOp_step rfl (fun K hK => ?_)
      have HK := Lib.hid hK
      clear hK F
      go_simp
      refine (C1.out _).mono ?_
      rintro e w2 ⟨rfl, hw2⟩
      refine HK.out _ _ ⟨_, _, _, _, _, _, _, _, _, _, _, _, _, _, _, _, _, _, rfl, (HF.out.move hw2).set4 rfl⟩
    | 5, _ =>
      intro L a' w' hz hun hall hI
      obtain ⟨b0, b1, b2, s0, s1, s2, s3, s4, s5, s6, s7, s8, s9, s10, s11, s12, s13, s14, rfl, F⟩ := hI
      have HF := Lib.hid F
      refine wpOp_step rfl (fun K hK => ?_)
      have HK := Lib.hid hK
      clear hK F
      go_simp
      refine HK.out _ _ ⟨_, _, _, _, _, _, _, _, _, _, _, _, _, _, _, _, _, _, rfl, HF.out.set5 rfl⟩
    | 6, _ =>
      intro L a' w' hz hun hall hI
      obtain ⟨b0, b1, b2, s0, s1, s2, s3, s4, s5, s6, s7, s8, s9, s10, s11, s12, s13, s14, rfl, F⟩ := hI
      have HF := Lib.hid F
      obtain rfl := F.p5 (hall 5 (by decide))
      obtain ⟨k0, k1, k2, k3, k4, k5⟩ := KX.out _ F.hb
      refine wpOp_step rfl (fun K hK => ?_)
      have HK := Lib.hid hK
      clear hK F
      go_simp
      refine HK.out _ _ ⟨_, _, _, _, _, _, _, _, _, _, _, _, _, _, _, _, _, _, rfl, HF.out.set6 rfl⟩
    | 7, _ =>
      intro L a' w' hz hun hall hI
      obtain ⟨b0, b1, b2, s0, s1, s2, s3, s4, s5, s6, s7, s8, s9, s10, s11, s12, s13, s14, rfl, F⟩ := hI
      have HF := Lib.hid F
      refine wpOp_step rfl (fun K hK => ?_)
      have HK := Lib.hid hK
      clear hK F
      go_simp
      refine HK.out _ _ ⟨_, _, _, _, _, _, _, _, _, _, _, _, _, _, _, _, _, _, rfl, HF.out.set7 rfl⟩
    | 8, _ =>
      intro L a' w' hz hun hall hI
      obtain ⟨b0, b1, b2, s0, s1, s2, s3, s4, s5, s6, s7, s8, s9, s10, s11, s12, s13, s14, rfl, F⟩ := hI
      have HF := Lib.hid F
      obtain rfl := F.p7 (hall 7 (by decide))
      obtain ⟨k0, k1, k2, k3, k4, k5⟩ := KX.out _ F.hb
      refine wpOp_step rfl (fun K hK => ?_)
      have HK := Lib.hid hK
      clear hK F
      go_simp
      refine HK.out _ _ ⟨_, _, _, _, _, _, _, _, _, _, _, _, _, _, _, _, _, _, rfl, HF.out.set8 rfl⟩
    | 9, _ =>
      intro L a' w' hz hun hall hI
      obtain ⟨b0, b1, b2, s0, s1, s2, s3, s4, s5, s6, s7, s8, s9, s10, s11, s12, s13, s14, rfl, F⟩ := hI
      have HF := Lib.hid F
      obtain rfl := F.p6 (hall 6 (by decide))
      obtain rfl := F.p8 (hall 8 (by decide))
      refine wpOp_step rfl (fun K hK => ?_)
      have HK := Lib.hid hK
      clear hK F
      go_simp
      refine (C2.out _).mono ?_
      rintro e w2 ⟨rfl, hw2⟩
      refine HK.out _ _ ⟨_, _, _, _, _, _, _, _, _, _, _, _, _, _, _, _, _, _, rfl, (HF.out.move hw2).set9 rfl⟩
    | 10, _ =>
      intro L a' w' hz hun hall hI
      obtain ⟨b0, b1, b2, s0, s1, s2, s3, s4, s5, s6, s7, s8, s9, s10, s11, s12, s13, s14, rfl, F⟩ := hI
      have HF := Lib.hid F
      refine wpOp_step rfl (fun K hK => ?_)
      have HK := Lib.hid hK
      clear hK F
      go_simp
      refine HK.out _ _ ⟨_, _, _, _, _, _, _, _, _, _, _, _, _, _, _, _, _, _, rfl, HF.out.set10 rfl⟩
    | 11, _ =>
      intro L a' w' hz hun hall hI
      obtain ⟨b0, b1, b2, s0, s1, s2, s3, s4, s5, s6, s7, s8, s9, s10, s11, s12, s13, s14, rfl, F⟩ := hI
      have HF := Lib.hid F
      obtain rfl := F.p10 (hall 10 (by decide))
      obtain ⟨k0, k1, k2, k3, k4, k5⟩ := KX.out _ F.hb
      refine wpOp_step rfl (fun K hK => ?_)
      have HK := Lib.hid hK
      clear hK F
      go_simp
      refine HK.out _ _ ⟨_, _, _, _, _, _, _, _, _, _, _, _, _, _, _, _, _, _, rfl, HF.out.set11 rfl⟩
    | 12, _ =>
      intro L a' w' hz hun hall hI
      obtain ⟨b0, b1, b2, s0, s1, s2, s3, s4, s5, s6, s7, s8, s9, s10, s11, s12, s13, s14, rfl, F⟩ := hI
      have HF := Lib.hid F
      refine wpOp_step rfl (fun K hK => ?_)
      have HK := Lib.hid hK
      clear hK F
      go_simp
      refine HK.out _ _ ⟨_, _, _, _, _, _, _, _, _, _, _, _, _, _, _, _, _, _, rfl, HF.out.set12 rfl⟩
    | 13, _ =>
      intro L a' w' hz hun hall hI
      obtain ⟨b0, b1, b2, s0, s1, s2, s3, s4, s5, s6, s7, s8, s9, s10, s11, s12, s13, s14, rfl, F⟩ := hI
      have HF := Lib.hid F
      obtain rfl := F.p12 (hall 12 (by decide))
      obtain ⟨k0, k1, k2, k3, k4, k5⟩ := KX.out _ F.hb
      refine wpOp_step rfl (fun K hK => ?_)
      have HK := Lib.hid hK
      clear hK F
      go_simp
      refine HK.out _ _ ⟨_, _, _, _, _, _, _, _, _, _, _, _, _, _, _, _, _, _, rfl, HF.out.set13 rfl⟩
    | 14, _ =>
      intro L a' w' hz hun hall hI
      obtain ⟨b0, b1, b2, s0, s1, s2, s3, s4, s5, s6, s7, s8, s9, s10, s11, s12, s13, s14, rfl, F⟩ := hI
      have HF := Lib.hid F
      obtain rfl := F.p11 (hall 11 (by decide))
      obtain rfl := F.p13 (hall 13 (by decide))
      refine wpOp_step rfl (fun K hK => ?_)
      have HK := Lib.hid hK
      clear hK F
      go_simp
      refine (C3.out _).mono ?_
      rintro e w2 ⟨rfl, hw2⟩
      refine HK.out _ _ ⟨_, _, _, _, _, _, _, _, _, _, _, _, _, _, _, _, _, _, rfl, (HF.out.move hw2).set14 rfl⟩
    | 15, _ =>
      intro L a' w' hz hun hall hI
      obtain ⟨b0, b1, b2, s0, s1, s2, s3, s4, s5, s6, s7, s8, s9, s10, s11, s12, s13, s14, rfl, F⟩ := hI
      have HF := Lib.hid F
      refine wpOp_step rfl (fun K hK => ?_)
      have HK := Lib.hid hK
      clear hK F
      go_simp
      refine HK.out _ _ ⟨_, _, _, _, _, _, _, _, _, _, _, _, _, _, _, _, _, _, rfl, (HF.out.move (box1_below _ _)).box0 ⟨_, rfl, HF.out.hb.size, ⟨_, _, _, At3.new _ _ _ _ _⟩, fun l => (unl hun (HF.out.y0 (lis (by decide) l))).elim⟩ HF.out.new1 HF.out.new2⟩
    | 16, _ =>
      intro L a' w' hz hun hall hI
      obtain ⟨b0, b1, b2, s0, s1, s2, s3, s4, s5, s6, s7, s8, s9, s10, s11, s12, s13, s14, rfl, F⟩ := hI
      have HF := Lib.hid F
      refine wpOp_step rfl (fun K hK => ?_)
      have HK := Lib.hid hK
      clear hK F
      go_simp
      refine HK.out _ _ ⟨_, _, _, _, _, _, _, _, _, _, _, _, _, _, _, _, _, _, rfl, (HF.out.move (box1_below _ _)).box1 ⟨_, rfl, HF.out.hb.size, ⟨_, _, _, At3.new _ _ _ _ _⟩, fun l => (unl hun (HF.out.y1 (lis (by decide) l))).elim⟩ HF.out.new0 HF.out.new2⟩
    | 17, _ =>
      intro L a' w' hz hun hall hI
      obtain ⟨b0, b1, b2, s0, s1, s2, s3, s4, s5, s6, s7, s8, s9, s10, s11, s12, s13, s14, rfl, F⟩ := hI
      have HF := Lib.hid F
      refine wpOp_step rfl (fun K hK => ?_)
      have HK := Lib.hid hK
      clear hK F
      go_simp
      refine HK.out _ _ ⟨_, _, _, _, _, _, _, _, _, _, _, _, _, _, _, _, _, _, rfl, (HF.out.move (box1_below _ _)).box2 ⟨_, rfl, HF.out.hb.size, ⟨_, _, _, At3.new _ _ _ _ _⟩, fun l => (unl hun (HF.out.y2 (lis (by decide) l))).elim⟩ HF.out.new0 HF.out.new1⟩
    | 18, _ =>
      intro L a' w' hz hun hall hI
      obtain ⟨b0, b1, b2, s0, s1, s2, s3, s4, s5, s6, s7, s8, s9, s10, s11, s12, s13, s14, rfl, F⟩ := hI
      have HF := Lib.hid F
      obtain ⟨g, rfl, hg, ⟨a1, a2, a3, hs⟩, -⟩ := F.x0 (hall 15 (by decide))
      obtain rfl := F.p4 (hall 4 (by decide))
      have k0 := hs.c0; have k1 := hs.c1; have k2 := hs.c2; have f0 := hs.frozen 0; have f1 := hs.frozen 1; have f2 := hs.frozen 2
      refine wpOp_step rfl (fun K hK => ?_)
      have HK := Lib.hid hK
      clear hK F
      go_simp
      refine HK.out _ _ ⟨_, _, _, _, _, _, _, _, _, _, _, _, _, _, _, _, _, _, rfl, HF.out.put0 (hall 15 (by decide)) (hall 16 (by decide)) (hall 17 (by decide)) rfl⟩
    | 19, _ =>
      intro L a' w' hz hun hall hI
      obtain ⟨b0, b1, b2, s0, s1, s2, s3, s4, s5, s6, s7, s8, s9, s10, s11, s12, s13, s14, rfl, F⟩ := hI
      have HF := Lib.hid F
      obtain ⟨g, rfl, hg, ⟨a1, a2, a3, hs⟩, -⟩ := F.x1 (hall 16 (by decide))
      obtain rfl := F.p9 (hall 9 (by decide))
      have k0 := hs.c0; have k1 := hs.c1; have k2 := hs.c2; have f0 := hs.frozen 0; have f1 := hs.frozen 1; have f2 := hs.frozen 2
      refine wpOp_step rfl (fun K hK => ?_)
      have HK := Lib.hid hK
      clear hK F
      go_simp
      refine HK.out _ _ ⟨_, _, _, _, _, _, _, _, _, _, _, _, _, _, _, _, _, _, rfl, HF.out.put1 (hall 15 (by decide)) (hall 16 (by decide)) (hall 17 (by decide)) rfl⟩
    | 20, _ =>
      intro L a' w' hz hun hall hI
      obtain ⟨b0, b1, b2, s0, s1, s2, s3, s4, s5, s6, s7, s8, s9, s10, s11, s12, s13, s14, rfl, F⟩ := hI
      have HF := Lib.hid F
      obtain ⟨g, rfl, hg, ⟨a1, a2, a3, hs⟩, -⟩ := F.x2 (hall 17 (by decide))
      obtain rfl := F.p14 (hall 14 (by decide))
      have k0 := hs.c0; have k1 := hs.c1; have k2 := hs.c2; have f0 := hs.frozen 0; have f1 := hs.frozen 1; have f2 := hs.frozen 2
      refine wpOp_step rfl (fun K hK => ?_)
      have HK := Lib.hid hK
      clear hK F
      go_simp
      refine HK.out _ _ ⟨_, _, _, _, _, _, _, _, _, _, _, _, _, _, _, _, _, _, rfl, HF.out.put2 (hall 15 (by decide)) (hall 16 (by decide)) (hall 17 (by decide)) rfl⟩
    | m + 21, h => exact absurd h (by show ¬ (m + 21 < 21); omega)
  case done =>
    intro L a' w1 hI hall
    obtain ⟨b0, b1, b2, s0, s1, s2, s3, s4, s5, s6, s7, s8, s9, s10, s11, s12, s13, s14, rfl, F⟩ := hI
    obtain rfl := F.p0 (hall 0 (by show 0 < 21; omega))
    obtain rfl := F.p1 (hall 1 (by show 1 < 21; omega))
    obtain rfl := F.p2 (hall 2 (by show 2 < 21; omega))
    obtain rfl := F.p3 (hall 3 (by show 3 < 21; omega))
    obtain rfl := F.p4 (hall 4 (by show 4 < 21; omega))
    obtain rfl := F.p5 (hall 5 (by show 5 < 21; omega))
    obtain rfl := F.p6 (hall 6 (by show 6 < 21; omega))
    obtain rfl := F.p7 (hall 7 (by show 7 < 21; omega))
    obtain rfl := F.p8 (hall 8 (by show 8 < 21; omega))
    obtain rfl := F.p9 (hall 9 (by show 9 < 21; omega))
    obtain rfl := F.p10 (hall 10 (by show 10 < 21; omega))
    obtain rfl := F.p11 (hall 11 (by show 11 < 21; omega))
    obtain rfl := F.p12 (hall 12 (by show 12 < 21; omega))
    obtain rfl := F.p13 (hall 13 (by show 13 < 21; omega))
    obtain rfl := F.p14 (hall 14 (by show 14 < 21; omega))
    obtain ⟨g0, rfl, hg0, -, hx0⟩ := F.x0 (hall 15 (by show 15 < 21; omega))
    have HX0 := Lib.hid (hx0 (hall 18 (by show 18 < 21; omega)))
    obtain ⟨g1, rfl, hg1, -, hx1⟩ := F.x1 (hall 16 (by show 16 < 21; omega))
    have HX1 := Lib.hid (hx1 (hall 19 (by show 19 < 21; omega)))
    obtain ⟨g2, rfl, hg2, -, hx2⟩ := F.x2 (hall 17 (by show 17 < 21; omega))
    have HX2 := Lib.hid (hx2 (hall 20 (by show 20 < 21; omega)))
    have HBs := Lib.hid F.hb
    clear F hall hx0 hx1 hx2
    go_upto_region 2 with fail
    have K9 := Lib.hid (show ∀ W, Below w1.heap.size w1 W → W.cell? ⟨g0, 0, none⟩ = some (.bool (Big.ng x)) ∧ W.cell? ⟨g0, 1, none⟩ = some (.string (bst (Big.nu x))) ∧ W.cell? ⟨g0, 2, none⟩ = some (.string (bst (Big.de x))) ∧ W.cell? ⟨g1, 0, none⟩ = some (.bool (Big.ng y)) ∧ W.cell? ⟨g1, 1, none⟩ = some (.string (bst (Big.nu y))) ∧ W.cell? ⟨g1, 2, none⟩ = some (.string (bst (Big.de y))) ∧ W.cell? ⟨g2, 0, none⟩ = some (.bool (Big.ng z)) ∧ W.cell? ⟨g2, 1, none⟩ = some (.string (bst (Big.nu z))) ∧ W.cell? ⟨g2, 2, none⟩ = some (.string (bst (Big.de z))) from fun W h => ⟨(HX0.out.keep h).c0, (HX0.out.keep h).c1, (HX0.out.keep h).c2, (HX1.out.keep h).c0, (HX1.out.keep h).c1, (HX1.out.keep h).c2, (HX2.out.keep h).c0, (HX2.out.keep h).c1, (HX2.out.keep h).c2⟩)
    go_region_held3 (fun w' => w'.cell? ⟨g0, 0, none⟩ = some (.bool (Big.ng x)) ∧ w'.cell? ⟨g0, 1, none⟩ = some (.string (bst (Big.nu x))) ∧ w'.cell? ⟨g0, 2, none⟩ = some (.string (bst (Big.de x))) ∧ w'.cell? ⟨g1, 0, none⟩ = some (.bool (Big.ng y)) ∧ w'.cell? ⟨g1, 1, none⟩ = some (.string (bst (Big.nu y))) ∧ w'.cell? ⟨g1, 2, none⟩ = some (.string (bst (Big.de y))) ∧ w'.cell? ⟨g2, 0, none⟩ = some (.bool (Big.ng z)) ∧ w'.cell? ⟨g2, 1, none⟩ = some (.string (bst (Big.nu z))) ∧ w'.cell? ⟨g2, 2, none⟩ = some (.string (bst (Big.de z))))
      (exact K9.out _ (by first | assumption | exact Below.refl _ _ | exact below_drew (Below.refl _ _) | exact below_drew (by assumption)))
      (first
        | (go_at_call 6; (with_reducible refine (CA1.out w1 _ (by first | assumption | exact Below.refl _ _ | exact below_drew (Below.refl _ _) | exact below_drew (by assumption))).mono ?_); rintro e w21 ⟨rfl, hw21, hw21'⟩)
        | (go_at_call 6; (with_reducible refine (CA2.out w1 _ (by first | assumption | exact Below.refl _ _ | exact below_drew (Below.refl _ _) | exact below_drew (by assumption))).mono ?_); rintro e w22 ⟨rfl, hw22, hw22'⟩)
        | (go_at_call 6; (with_reducible refine (CA3.out w1 _ (by first | assumption | exact Below.refl _ _ | exact below_drew (Below.refl _ _) | exact below_drew (by assumption))).mono ?_); rintro e w23 ⟨rfl, hw23, hw23'⟩)
        | (go_at_call 6; (with_reducible refine (CA4.out w1 _ (by first | assumption | exact Below.refl _ _ | exact below_drew (Below.refl _ _) | exact below_drew (by assumption))).mono ?_); rintro e w24 ⟨rfl, hw24, hw24'⟩)
        | (go_at_call 6; (with_reducible refine (CA5.out w1 _ (by first | assumption | exact Below.refl _ _ | exact below_drew (Below.refl _ _) | exact below_drew (by assumption))).mono ?_); rintro e w25 ⟨rfl, hw25, hw25'⟩)
        | (go_at_call 7; (with_reducible refine (CM1.out w1 _ (by first | assumption | exact Below.refl _ _ | exact below_drew (Below.refl _ _) | exact below_drew (by assumption))).mono ?_); rintro e w26 ⟨rfl, hw26, hw26'⟩)
        | (go_at_call 7; (with_reducible refine (CM2.out w1 _ (by first | assumption | exact Below.refl _ _ | exact below_drew (Below.refl _ _) | exact below_drew (by assumption))).mono ?_); rintro e w27 ⟨rfl, hw27, hw27'⟩)
        | (go_at_call 7; (with_reducible refine (CM3.out w1 _ (by first | assumption | exact Below.refl _ _ | exact below_drew (Below.refl _ _) | exact below_drew (by assumption))).mono ?_); rintro e w28 ⟨rfl, hw28, hw28'⟩)
        | (go_at_call 7; (with_reducible refine (CM4.out w1 _ (by first | assumption | exact Below.refl _ _ | exact below_drew (Below.refl _ _) | exact below_drew (by assumption))).mono ?_); rintro e w29 ⟨rfl, hw29, hw29'⟩)
        | (go_at_call 7; (with_reducible refine (CM5.out w1 _ (by first | assumption | exact Below.refl _ _ | exact below_drew (Below.refl _ _) | exact below_drew (by assumption))).mono ?_); rintro e w30 ⟨rfl, hw30, hw30'⟩)
        | fail)
    go_upto_region 4 with fail
    go_region_held3 (fun w' => w'.cell? ⟨g0, 0, none⟩ = some (.bool (Big.ng x)) ∧ w'.cell? ⟨g0, 1, none⟩ = some (.string (bst (Big.nu x))) ∧ w'.cell? ⟨g0, 2, none⟩ = some (.string (bst (Big.de x))) ∧ w'.cell? ⟨g1, 0, none⟩ = some (.bool (Big.ng y)) ∧ w'.cell? ⟨g1, 1, none⟩ = some (.string (bst (Big.nu y))) ∧ w'.cell? ⟨g1, 2, none⟩ = some (.string (bst (Big.de y))) ∧ w'.cell? ⟨g2, 0, none⟩ = some (.bool (Big.ng z)) ∧ w'.cell? ⟨g2, 1, none⟩ = some (.string (bst (Big.nu z))) ∧ w'.cell? ⟨g2, 2, none⟩ = some (.string (bst (Big.de z))))
      (exact K9.out _ (by first | assumption | exact Below.refl _ _ | exact below_drew (Below.refl _ _) | exact below_drew (by assumption)))
      (first
        | (go_at_call 6; (with_reducible refine (CA4.out w1 _ (by first | assumption | exact Below.refl _ _ | exact below_drew (Below.refl _ _) | exact below_drew (by assumption))).mono ?_); rintro e w41 ⟨rfl, hw41, hw41'⟩)
        | (go_at_call 6; (with_reducible refine (CA6.out w1 _ (by first | assumption | exact Below.refl _ _ | exact below_drew (Below.refl _ _) | exact below_drew (by assumption))).mono ?_); rintro e w42 ⟨rfl, hw42, hw42'⟩)
        | (go_at_call 7; (with_reducible refine (CM1.out w1 _ (by first | assumption | exact Below.refl _ _ | exact below_drew (Below.refl _ _) | exact below_drew (by assumption))).mono ?_); rintro e w43 ⟨rfl, hw43, hw43'⟩)
        | (go_at_call 7; (with_reducible refine (CM6.out w1 _ (by first | assumption | exact Below.refl _ _ | exact below_drew (Below.refl _ _) | exact below_drew (by assumption))).mono ?_); rintro e w44 ⟨rfl, hw44, hw44'⟩)
        | (go_at_call 7; (with_reducible refine (CM7.out w1 _ (by first | assumption | exact Below.refl _ _ | exact below_drew (Below.refl _ _) | exact below_drew (by assumption))).mono ?_); rintro e w45 ⟨rfl, hw45, hw45'⟩)
        | fail)
    go_upto_region 6 with fail
    go_cut [6, 7] (fun s6 s7 wx => ∃ g6, s6 = .pointer (some ⟨g6, 0, none⟩) ∧ w1.heap.size ≤ g6 ∧ s7 = .int .i64 0 ∧ At3 wx g6 26 (.bool (Big.ng x)) (.string (bst (Big.nu x))) (.string (bst (Big.de x))) ∧ Below w1.heap.size w1 wx)
    case first =>
      go_region_held3 (fun w' => w'.cell? ⟨g0, 0, none⟩ = some (.bool (Big.ng x)) ∧ w'.cell? ⟨g0, 1, none⟩ = some (.string (bst (Big.nu x))) ∧ w'.cell? ⟨g0, 2, none⟩ = some (.string (bst (Big.de x))) ∧ w'.cell? ⟨g1, 0, none⟩ = some (.bool (Big.ng y)) ∧ w'.cell? ⟨g1, 1, none⟩ = some (.string (bst (Big.nu y))) ∧ w'.cell? ⟨g1, 2, none⟩ = some (.string (bst (Big.de y))) ∧ w'.cell? ⟨g2, 0, none⟩ = some (.bool (Big.ng z)) ∧ w'.cell? ⟨g2, 1, none⟩ = some (.string (bst (Big.nu z))) ∧ w'.cell? ⟨g2, 2, none⟩ = some (.string (bst (Big.de z))))
        (exact K9.out _ (by first | assumption | exact Below.refl _ _ | exact below_drew (Below.refl _ _) | exact below_drew (by assumption) | exact below_drew (below_alloc (by assumption) (Nat.le_refl _) _) | exact below_alloc (by assumption) (Nat.le_refl _) _ | exact below_alloc (below_drew (by assumption)) (Nat.le_refl _) _ | exact put_below (by assumption) (by first | assumption | exact Below.size (by first | assumption | exact below_drew (by assumption))) _ _ _))
        (first
          | (go_at_call 6; (with_reducible refine (CA1.out w1 _ (by first | assumption | exact Below.refl _ _ | exact below_drew (Below.refl _ _) | exact below_drew (by assumption) | exact below_drew (below_alloc (by assumption) (Nat.le_refl _) _) | exact below_alloc (by assumption) (Nat.le_refl _) _ | exact below_alloc (below_drew (by assumption)) (Nat.le_refl _) _ | exact put_below (by assumption) (by first | assumption | exact Below.size (by first | assumption | exact below_drew (by assumption))) _ _ _)).mono ?_); rintro e w61 ⟨rfl, hw61, hw61'⟩; (try (first | (have RA := newdrew hw61'; have k0 := RA.c0; have k1 := RA.c1; have k2 := RA.c2; have f0 := RA.frozen 0; have f1 := RA.frozen 1; have f2 := RA.frozen 2) | (have RA := (At3.new _ _ _ _ _).keep hw61'; have k0 := RA.c0; have k1 := RA.c1; have k2 := RA.c2; have f0 := RA.frozen 0; have f1 := RA.frozen 1; have f2 := RA.frozen 2))))
          | (go_at_call 8; (with_reducible refine (CS.out w1 _ (by first | assumption | exact Below.refl _ _ | exact below_drew (Below.refl _ _) | exact below_drew (by assumption) | exact below_drew (below_alloc (by assumption) (Nat.le_refl _) _) | exact below_alloc (by assumption) (Nat.le_refl _) _ | exact below_alloc (below_drew (by assumption)) (Nat.le_refl _) _ | exact put_below (by assumption) (by first | assumption | exact Below.size (by first | assumption | exact below_drew (by assumption))) _ _ _)).mono ?_); rintro e w62 ⟨rfl, hw62, hw62'⟩; (try (first | (have RB := RA.keep hw62'; have k0 := RB.c0; have k1 := RB.c1; have k2 := RB.c2; have f0 := RB.frozen 0; have f1 := RB.frozen 1; have f2 := RB.frozen 2) | (have RB := (At3.new _ _ _ _ _).keep hw62'; have k0 := RB.c0; have k1 := RB.c1; have k2 := RB.c2; have f0 := RB.frozen 0; have f1 := RB.frozen 1; have f2 := RB.frozen 2))))
          | fail)
      all_goals go_wp2_with fail
      all_goals go_meet
      all_goals exact ⟨_, rfl, (by first | assumption | exact Below.size (by first | assumption | exact below_drew (by assumption))), rfl, (by first | exact RB.put _ _ _ | exact At3.new _ _ _ _ _ | exact (At3.new _ _ _ _ _).put _ _ _), (by first | assumption | exact Below.refl _ _ | exact below_drew (Below.refl _ _) | exact below_drew (by assumption) | exact below_drew (below_alloc (by assumption) (Nat.le_refl _) _) | exact below_alloc (by assumption) (Nat.le_refl _) _ | exact below_alloc (below_drew (by assumption)) (Nat.le_refl _) _ | exact put_below (by assumption) (by first | assumption | exact Below.size (by first | assumption | exact below_drew (by assumption))) _ _ _)⟩
    case rest =>
      obtain ⟨g6, rfl, hg6, rfl, hA6, hBc⟩ := hcut
      have BW1 := HB0.out.trans (HBs.out.mono HB0.out.size)
      obtain ⟨q00, q01, q02, q10, q11, q12, q20, q21, q22⟩ := K9.out _ hBc
      have a0 := hA6.c0; have a1 := hA6.c1; have a2 := hA6.c2
      go_wp2_with fail
      refine (CG.out _).mono ?_
      rintro e w9 ⟨rfl, hw9⟩
      have HX6 := Lib.hid (hA6.keep hw9)
      have hb9 := hBc.trans (hw9.mono hBc.size)
      clear a0 a1 a2 q00 q01 q02 q10 q11 q12 q20 q21 q22
      by_cases hs : sgQ y = 0
      · have t9 : (sgQ y == 0) = true := beq_iff_eq.2 hs
        obtain ⟨q00, q01, q02, q10, q11, q12, q20, q21, q22⟩ := K9.out _ hb9
        go_wp2_with fail
        refine (CV.out w1 _ hb9).mono ?_
        rintro e w13 ⟨rfl, hw13, -⟩
        clear q00 q01 q02 q10 q11 q12 q20 q21 q22
        have hb13 := below_alloc hw13 (Nat.le_refl _) (.cells #[.bool (Big.ng V), .string (bst (Big.nu V)), .string (bst (Big.de V))] 26)
        have HD := Lib.hid (At3.new w13 26 (.bool (Big.ng V)) (.string (bst (Big.nu V))) (.string (bst (Big.de V))))
        obtain ⟨q00, q01, q02, q10, q11, q12, q20, q21, q22⟩ := K9.out _ hb13
        go_wp2_with fail
        refine (CC.out _).mono ?_
        generalize w13.alloc (.cells #[.bool (Big.ng V), .string (bst (Big.nu V)), .string (bst (Big.de V))] 26) = wd at *
        rintro e w14 ⟨rfl, hw14⟩
        clear q00 q01 q02 q10 q11 q12 q20 q21 q22
        have hb14 := hb13.trans (hw14.mono hb13.size)
        have v0 := (HD.out.keep hw14).c0; have v1 := (HD.out.keep hw14).c1; have v2 := (HD.out.keep hw14).c2
        go_wp2_with (first
          | (go_at_call 9; refine (CH.out _).mono ?_; rintro e w15 ⟨rfl, hw15⟩)
          | (go_at_call 12; refine (CW.out _ (HT.out.keep (BW1.trans ((hb14.trans (hw15.mono hb14.size)).mono BW1.size)))).mono ?_; rintro e w16 ⟨rfl, hw16⟩)
          | fail)
        go_ret
        exact ⟨rfl, BW1.trans (((hb14.trans (hw15.mono hb14.size)).trans (hw16.mono (hb14.trans (hw15.mono hb14.size)).size)).mono BW1.size)⟩
      · have t9 : (sgQ y == 0) = false := beq_eq_false_iff_ne.2 hs
        have CQ2 := Lib.hid (CQ.out hs)
        go_upto_region 10 with fail
        go_region_held3 (fun w' => w'.cell? ⟨g0, 0, none⟩ = some (.bool (Big.ng x)) ∧ w'.cell? ⟨g0, 1, none⟩ = some (.string (bst (Big.nu x))) ∧ w'.cell? ⟨g0, 2, none⟩ = some (.string (bst (Big.de x))) ∧ w'.cell? ⟨g1, 0, none⟩ = some (.bool (Big.ng y)) ∧ w'.cell? ⟨g1, 1, none⟩ = some (.string (bst (Big.nu y))) ∧ w'.cell? ⟨g1, 2, none⟩ = some (.string (bst (Big.de y))) ∧ w'.cell? ⟨g2, 0, none⟩ = some (.bool (Big.ng z)) ∧ w'.cell? ⟨g2, 1, none⟩ = some (.string (bst (Big.nu z))) ∧ w'.cell? ⟨g2, 2, none⟩ = some (.string (bst (Big.de z))))
          (exact K9.out _ (by first | assumption | exact Below.refl _ _ | exact below_drew (Below.refl _ _) | exact below_drew (by assumption) | exact below_drew (below_alloc (by assumption) (Nat.le_refl _) _) | exact below_alloc (by assumption) (Nat.le_refl _) _ | exact below_alloc (below_drew (by assumption)) (Nat.le_refl _) _ | exact put_below (by assumption) (by first | assumption | exact Below.size (by first | assumption | exact below_drew (by assumption))) _ _ _))
          (first
            | (go_at_call 7; (with_reducible refine (CM1.out w1 _ (by first | assumption | exact Below.refl _ _ | exact below_drew (Below.refl _ _) | exact below_drew (by assumption) | exact below_drew (below_alloc (by assumption) (Nat.le_refl _) _) | exact below_alloc (by assumption) (Nat.le_refl _) _ | exact below_alloc (below_drew (by assumption)) (Nat.le_refl _) _ | exact put_below (by assumption) (by first | assumption | exact Below.size (by first | assumption | exact below_drew (by assumption))) _ _ _)).mono ?_); rintro e w101 ⟨rfl, hw101, hw101'⟩; have RA := At3.keep (w := w9.drew) HX6.out hw101')
            | (go_at_call 10; (with_reducible refine (CQ2.out w1 _ (by first | assumption | exact Below.refl _ _ | exact below_drew (Below.refl _ _) | exact below_drew (by assumption) | exact below_drew (below_alloc (by assumption) (Nat.le_refl _) _) | exact below_alloc (by assumption) (Nat.le_refl _) _ | exact below_alloc (below_drew (by assumption)) (Nat.le_refl _) _ | exact put_below (by assumption) (by first | assumption | exact Below.size (by first | assumption | exact below_drew (by assumption))) _ _ _)).mono ?_); rintro e w102 ⟨rfl, hw102, hw102'⟩; have RB := RA.keep hw102'; have k0 := RB.c0; have k1 := RB.c1; have k2 := RB.c2; have f0 := RB.frozen 0; have f1 := RB.frozen 1; have f2 := RB.frozen 2)
            | fail)
        have HZ := Lib.hid (RB.put (.bool (Big.ng x)) (.string (bst (Big.nu x))) (.string (bst (Big.de x))))
        have hbz := put_below hw102 hg6 (.bool (Big.ng x)) (.string (bst (Big.nu x))) (.string (bst (Big.de x)))
        clear k0 k1 k2 f0 f1 f2
        generalize (((w102.setCell ⟨g6, 0, none⟩ (.bool (Big.ng x))).setCell ⟨g6, 1, none⟩ (.string (bst (Big.nu x)))).setCell ⟨g6, 2, none⟩ (.string (bst (Big.de x)))) = wz at *
        obtain ⟨q00, q01, q02, q10, q11, q12, q20, q21, q22⟩ := K9.out _ hbz
        have a0 := HZ.out.c0; have a1 := HZ.out.c1; have a2 := HZ.out.c2
        go_upto_region 13 with fail
        clear a0 a1 a2 q00 q01 q02 q10 q11 q12 q20 q21 q22
        obtain ⟨q00, q01, q02, q10, q11, q12, q20, q21, q22⟩ := K9.out _ hbz
        go_wp2_with fail
        refine (CV.out w1 _ hbz).mono ?_
        rintro e w13 ⟨rfl, hw13, -⟩
        clear q00 q01 q02 q10 q11 q12 q20 q21 q22
        have hb13 := below_alloc hw13 (Nat.le_refl _) (.cells #[.bool (Big.ng V), .string (bst (Big.nu V)), .string (bst (Big.de V))] 26)
        have HD := Lib.hid (At3.new w13 26 (.bool (Big.ng V)) (.string (bst (Big.nu V))) (.string (bst (Big.de V))))
        obtain ⟨q00, q01, q02, q10, q11, q12, q20, q21, q22⟩ := K9.out _ hb13
        go_wp2_with fail
        refine (CC.out _).mono ?_
        generalize w13.alloc (.cells #[.bool (Big.ng V), .string (bst (Big.nu V)), .string (bst (Big.de V))] 26) = wd at *
        rintro e w14 ⟨rfl, hw14⟩
        clear q00 q01 q02 q10 q11 q12 q20 q21 q22
        have hb14 := hb13.trans (hw14.mono hb13.size)
        have v0 := (HD.out.keep hw14).c0; have v1 := (HD.out.keep hw14).c1; have v2 := (HD.out.keep hw14).c2
        go_wp2_with (first
          | (go_at_call 9; refine (CH.out _).mono ?_; rintro e w15 ⟨rfl, hw15⟩)
          | (go_at_call 12; refine (CW.out _ (HT.out.keep (BW1.trans ((hb14.trans (hw15.mono hb14.size)).mono BW1.size)))).mono ?_; rintro e w16 ⟨rfl, hw16⟩)
          | fail)
        go_ret
        exact ⟨rfl, BW1.trans (((hb14.trans (hw15.mono hb14.size)).trans (hw16.mono (hb14.trans (hw15.mono hb14.size)).size)).mono BW1.size)⟩
end Go.Proofs.YtepnghhgmjobjaaDoor
namespace Go.Proofs.YtepnghhgmjobjaaDoor
open Go.ChangeShapes Go.WideShapes Go.RowKit
theorem c_i16 : Tryd.prog.cellsOf 22 = 1 := by kernel_rfl
theorem c_three : Tryd.prog.cellsOf 24 = 6 := by kernel_rfl
section
variable {H : Type} {enc : TypeId × Value → H} {w : World} {base : Nat} {spare : Nat → Bool} {held : Bool}
set_option maxRecDepth 100000 in
theorem three_open {r : Reach} {b0 : Nat} {v : Value} {D : DataW H} {ps : List MemPlace} (hv : Value.okWide Tryd.prog w r b0 24 v) (h : DataW.Trod enc Tryd.prog w base spare held 24 v D ps) :
    ∃ a b c d e f : Int, v = .agg #[.int .i16 a, .int .i16 b, .int .i16 c, .int .i16 d, .int .i16 e, .int .i16 f] ∧ D = .agg [.lit (.int .i16 a), .lit (.int .i16 b), .lit (.int .i16 c), .lit (.int .i16 d), .lit (.int .i16 e), .lit (.int .i16 f)] ∧ ps = [] ∧ (Lit.int .i16 a).wf = true ∧ (Lit.int .i16 b).wf = true ∧ (Lit.int .i16 c).wf = true ∧ (Lit.int .i16 d).wf = true ∧ (Lit.int .i16 e).wf = true ∧ (Lit.int .i16 f).wf = true := by
  obtain ⟨cs, rfl, hsz⟩ := okWide_struct Tryd.underlying24 hv
  obtain ⟨fuel, hf⟩ := h
  obtain ⟨xs, n, -, hx, -, hlen, hg⟩ := DataW.trod_struct Tryd.underlying24 hf
  rw [c_three] at hsz
  obtain ⟨l⟩ := cs
  match l, hsz, xs, hlen with
  | [ua, ub, uc, ud, ue, uf], _, [ya, yb, yc, yd, ye, yf], _ =>
    have h0 := hg 0 _ rfl
    simp only [Value.cells, c_i16, List.drop, List.take, List.getElem?_cons_zero, List.getElem?_cons_succ] at h0
    obtain ⟨a, e0, z0, w0⟩ := DataW.trod_int Tryd.underlying22 h0
    obtain rfl := (List.cons.inj e0).1; clear e0
    subst z0
    have h1 := hg 1 _ rfl
    simp only [Value.cells, c_i16, List.drop, List.take, List.getElem?_cons_zero, List.getElem?_cons_succ] at h1
    obtain ⟨b, e1, z1, w1⟩ := DataW.trod_int Tryd.underlying22 h1
    obtain rfl := (List.cons.inj e1).1; clear e1
    subst z1
    have h2 := hg 2 _ rfl
    simp only [Value.cells, c_i16, List.drop, List.take, List.getElem?_cons_zero, List.getElem?_cons_succ] at h2
    obtain ⟨c, e2, z2, w2⟩ := DataW.trod_int Tryd.underlying22 h2
    obtain rfl := (List.cons.inj e2).1; clear e2
    subst z2
    have h3 := hg 3 _ rfl
    simp only [Value.cells, c_i16, List.drop, List.take, List.getElem?_cons_zero, List.getElem?_cons_succ] at h3
    obtain ⟨d, e3, z3, w3⟩ := DataW.trod_int Tryd.underlying22 h3
    obtain rfl := (List.cons.inj e3).1; clear e3
    subst z3
    have h4 := hg 4 _ rfl
    simp only [Value.cells, c_i16, List.drop, List.take, List.getElem?_cons_zero, List.getElem?_cons_succ] at h4
    obtain ⟨e, e4, z4, w4⟩ := DataW.trod_int Tryd.underlying22 h4
    obtain rfl := (List.cons.inj e4).1; clear e4
    subst z4
    have h5 := hg 5 _ rfl
    simp only [Value.cells, c_i16, List.drop, List.take, List.getElem?_cons_zero, List.getElem?_cons_succ] at h5
    obtain ⟨f, e5, z5, w5⟩ := DataW.trod_int Tryd.underlying22 h5
    obtain rfl := (List.cons.inj e5).1; clear e5
    subst z5
    simp only [Prod.mk.injEq] at hx
    exact ⟨a, b, c, d, e, f, rfl, by simpa using hx.1, by simpa using hx.2, w0, w1, w2, w3, w4, w5⟩
set_option maxRecDepth 100000 in
theorem three_shut {a b c d e f : Int} (h0 : (Lit.int .i16 a).wf = true) (h1 : (Lit.int .i16 b).wf = true) (h2 : (Lit.int .i16 c).wf = true) (h3 : (Lit.int .i16 d).wf = true) (h4 : (Lit.int .i16 e).wf = true) (h5 : (Lit.int .i16 f).wf = true) :
    DataW.Trod enc Tryd.prog w base spare held 24 (.agg #[.int .i16 a, .int .i16 b, .int .i16 c, .int .i16 d, .int .i16 e, .int .i16 f]) (.agg [.lit (.int .i16 a), .lit (.int .i16 b), .lit (.int .i16 c), .lit (.int .i16 d), .lit (.int .i16 e), .lit (.int .i16 f)]) [] := by
  refine ⟨2, ?_⟩
  have hh : ∀ x : Int, (Lit.int .i16 x).wf = true → DataW.trod enc Tryd.prog w base spare held 1 22 [.int .i16 x] = some (.lit (.int .i16 x), []) := fun x hx => trod_int_mk 0 Tryd.underlying22 hx
  have hm := trod_struct_mk (enc := enc) (w := w) (base := base) (spare := spare) (held := held) (n := 1) (cs := [.int .i16 a, .int .i16 b, .int .i16 c, .int .i16 d, .int .i16 e, .int .i16 f]) (xs := [(.lit (.int .i16 a), []), (.lit (.int .i16 b), []), (.lit (.int .i16 c), []), (.lit (.int .i16 d), []), (.lit (.int .i16 e), []), (.lit (.int .i16 f), [])]) Tryd.underlying24 (by rw [c_three]; rfl) (by
    simp [c_i16, hh a h0, hh b h1, hh c h2, hh d h3, hh e h4, hh f h5])
  simpa [Value.cells] using hm
end
end Go.Proofs.YtepnghhgmjobjaaDoor
namespace Go.Proofs.YtepnghhgmjobjaaDoor
open Go.ChangeShapes Go.WideShapes Go.ChangeAt Go.RowKit
theorem own : ownKnob Tryd.prog.godebug = none := by kernel_rfl
section
variable {H : Type} {enc : TypeId × Value → H} {P : Program}
theorem post_new {f : Func} {s : ChangeSpec} {apart fresh handsOn again : Bool} {W W' : World} {args : Array Value} {v : Value} {ds gs : List (DataW H)}
    (hW : DataW.Whole enc P f.params.toList s.vars apart W args.toList ds gs [])
    (hres : ∀ (b : Nat) (sp : Nat → Bool) (hd : Bool), DataW.TrodAll enc P W' b sp hd f.resultTypes.toList (v.resultList f.resultTypes.size) (s.fn H (ds ++ gs)).results [])
    (hargs : ∀ sp : Nat → Bool, DataW.TrodAll enc P W' 0 sp true f.params.toList args.toList (s.fn H (ds ++ gs)).args [])
    (hvars : ∀ sp : Nat → Bool, DataW.TrodVars enc P W' sp s.vars (s.fn H (ds ++ gs)).vars [])
    (hb : Below W.heap.size W W')
    (hok : ∀ (j : Nat) (t : TypeId) (r : Value), f.resultTypes[j]? = some t → (v.resultList f.resultTypes.size)[j]? = some r → Value.okWide P W' .any 0 t r) :
    s.post enc P f apart fresh handsOn again W args v W' := by
  have hk : W.keptBut W' (fun p => p ∈ ([] : List MemPlace)) := hb.frame _
  refine ⟨ds, gs, [], [], [], [], hW, hres _ _ _, hargs _, hvars _, World.keptBut_mono (fun p hp => by cases hp) hk, fun _ => ?_⟩
  refine ⟨hok, _, _, [], ⟨[], [], trodAll_append (hargs _) (hres _ _ _), hvars _, rfl, ?_, ?_⟩, ?_⟩
  · intro b off hp; cases hp
  · intro _; simp
  · intro p hp; cases hp
end
end Go.Proofs.YtepnghhgmjobjaaDoor
namespace Go.Proofs.YtepnghhgmjobjaaDoor
open Go.ChangeShapes Go.WideShapes Go.ChangeAt Go.RowKit
theorem gTab : Tryd.prog.globalNamed "internal/strconv.uint64pow10" = some 2 := by kernel_rfl
end Go.Proofs.YtepnghhgmjobjaaDoor
namespace Go.Proofs.YtepnghhgmjobjaaDoor
open Go.ChangeShapes Go.WideShapes Go.ChangeAt Go.RowKit
def laid3 : List (String × DataW Unit) := [("math/bits.deBruijn32tab", Rows.laid_math_bits_deBruijn32tab), ("math/bits.deBruijn64tab", Rows.laid_math_bits_deBruijn64tab), ("internal/strconv.uint64pow10", Rows.laid_internal_strconv_uint64pow10)]
set_option maxRecDepth 100000 in
theorem door_met (os : Os) (args : Array Value) : laidMetH Tryd.prog laid3 ((World.doorLaid Tryd.prog 4000 os).forCall (fun _ _ => 0) ⟨#[], args, []⟩).memory :=
  laidMetH_of_parts3 (fuel := 8) (laidMet_of_run' 8 (by kernel_rfl) (by kernel_rfl)) (by kernel_rfl) (by kernel_rfl)
theorem tTab : (Tryd.prog.globals[2]?).map (·.type) = some 112 := by kernel_rfl
theorem dTab : (Rows.laid_internal_strconv_uint64pow10 : DataW Unit) = Lib.tabData .u64 Lib.pow10Tab := by rfl
theorem cTab : Tryd.prog.cellsOf 112 = 20 := by kernel_rfl
theorem ceTab : Tryd.prog.cellsOf 59 = 1 := by kernel_rfl
theorem tab_of_laid {W : World} (h : laidMetH Tryd.prog laid3 W) : Tab W := by
  rw [MakeChecks.laidMetH_plain _ _ _ (by kernel_rfl)] at h
  obtain ⟨ps, ⟨g0, t0, cs0, f0, p0, q0, hg0, ht0, hv0, hd0, ⟨g1, t1, cs1, f1, p1, q1, hg1, ht1, hv1, hd1, ⟨g2, t2, cs2, f2, p2, q2, hg2, ht2, hv2, hd2, _, _⟩, _⟩, _⟩, _, _⟩ := h
  obtain rfl := Option.some.inj (gTab.symm.trans hg2)
  obtain rfl := Option.some.inj (tTab.symm.trans ht2)
  rw [dTab] at hd2
  show World.var? Tryd.prog W _ = _
  rw [hv2, ← Lib.cells_of_tab Tryd.underlying112 Tryd.underlying59 ceTab cTab hd2]
end Go.Proofs.YtepnghhgmjobjaaDoor
namespace Go.Proofs.YtepnghhgmjobjaaDoor
open Go.ChangeShapes Go.WideShapes Go.ChangeAt Go.RowKit
theorem handed_both {H : Type} {enc : TypeId × Value → H} {C : Checked} {os : Os} {f : FuncId} {fn : Func} {s : ChangeSpec} {apart fresh handsOn again : Bool} {X : World → Array Value → Prop}
    (hX : ∀ (w w' : World) (args : Array Value), w.heap = w'.heap → X w args → X w' args)
    (hown : ownKnob C.prog.godebug = none) (started : os.Started) (noInit : C.prog.inits.idxOf? f = none) (hfn : C.prog.funcs[f]? = some fn)
    (witness : ∃ (w : World) (tape : Tape) (i : Input), w.os = os ∧ (w.forCall tape i).Shaped C.prog ∧ i.vars = [] ∧ Input.okWide C.prog (w.forCall tape i) .any w.heap.size f i ∧
      ((s.pre enc C.prog fn [] apart (w.forCall tape i).memory i.args ∧ X (w.forCall tape i).memory i.args) ∧ sizedMet enc C.prog fn (OpenSpec.ofChange s) apart (w.forCall tape i).memory i.args) ∧ Assume.holds {} C.prog (lone (Frame.enter C.prog f i.args .normal) [] (w.forCall tape i)))
    (contract : ∀ (W : World) (base : Nat) (args : Array Value) (ds gs : List (DataW H)) (before : List MemPlace),
      (∀ (j : Nat) t v, fn.params[j]? = some t → args[j]? = some v → Value.okWide C.prog W .any base t v) →
      DataW.Whole enc C.prog fn.params.toList s.vars apart W args.toList ds gs before → X W args → W.ShapedOpen C.prog →
      Calls C.prog f args W fun e W' => ∃ v, e = .returned v ∧ s.post enc C.prog fn apart fresh handsOn again W args v W') :
    ReturnsInHanded {} C os f .any (fun w args => (s.pre enc C.prog fn [] apart w args ∧ X w args) ∧ sizedMet enc C.prog fn (OpenSpec.ofChange s) apart w args) (s.post enc C.prog fn apart fresh handsOn again) := by
  refine returnsInHanded_of_calls hown started noInit witness ?_
  intro w tape i _ hshape _ hin hp _
  obtain ⟨_, _, _, fn2, hfn2, _, _, _, _, hv⟩ := hin
  obtain rfl : fn2 = fn := Option.some.inj (hfn2.symm.trans hfn)
  obtain ⟨⟨⟨ds, gs, before, hwh, _⟩, hx⟩, _⟩ := hp
  refine (contract (w.forCall tape i) w.heap.size i.args ds gs before hv (DataW.Whole.of_heap (w' := w.forCall tape i) (by rfl) hwh) (hX _ _ _ (by rfl) hx) hshape).mono fun e W' ⟨v, he, hpost⟩ => ?_
  subst he
  exact ChangeSpec.post_blind hpost
end Go.Proofs.YtepnghhgmjobjaaDoor
namespace Go.Proofs.YtepnghhgmjobjaaDoor
open Go.ChangeShapes Go.WideShapes Go.ChangeAt Go.RowKit
set_option maxRecDepth 100000 in
theorem laws_lifted (os : Os) (started : os.Started) (H : Type) (enc : TypeId × Value → H) :
    ReturnsInHanded {} Tryd.checked os 3 .any (fun w args => (Rows.ratioLawsSpec.pre enc Tryd.prog Tryd.f3 [] false w args ∧ laidMetH Tryd.prog laid3 w) ∧ sizedMet enc Tryd.prog Tryd.f3 (OpenSpec.ofChange Rows.ratioLawsSpec) false w args)
      (Rows.ratioLawsSpec.post enc Tryd.prog Tryd.f3 false true false false) := by
  refine handed_both (C := Tryd.checked) (X := fun w _ => laidMetH Tryd.prog laid3 w) (fun _ _ _ hh h => h.of_heap hh) own started (by kernel_rfl) Tryd.func3
    (ChangeSpec.witness_shaped (enc := enc) (C := Tryd.checked) (os := os) (X := fun w _ => laidMetH Tryd.prog laid3 w) false (World.doorLaid Tryd.prog 4000 os) #[.agg #[.int .i16 0, .int .i16 0, .int .i16 0, .int .i16 0, .int .i16 0, .int .i16 0]] 8 rfl (World.shaped_of_RefB (by kernel_rfl) (by kernel_rfl)) (by kernel_rfl) (by kernel_rfl) (by kernel_rfl) (door_met os _)) ?_
  intro W base args ds gs before hval0 hW hL hsh
  have hval : ∀ (j : Nat) t v, Tryd.f3.params[j]? = some t → args[j]? = some v → Value.okWide Tryd.prog W .any base t v := hval0
  have hW' := hW
  obtain ⟨p, q, hA0, hV, rfl, hfz, hnd⟩ := hW
  have hA : DataW.TrodAll enc Tryd.prog W 0 (fun _ => true) true Tryd.f3.params.toList args.toList ds p := hA0
  rw [Tryd.params3] at hA hval
  obtain ⟨v0, vs0, d0, ds0, p0, q0, hargs, rfl, rfl, h0, r0⟩ := trodAll_cons hA
  obtain ⟨rfl, rfl, rfl⟩ := trodAll_nil r0
  obtain rfl : args = #[v0] := by cases args; simp_all
  obtain ⟨rfl, rfl⟩ := trodVars_none hV
  obtain ⟨a, b, c, d, e, f, rfl, rfl, rfl, w0, w1, w2, w3, w4, w5⟩ := three_open (hval 0 24 v0 rfl rfl) h0
  have htab := tab_of_laid hL
  clear hA0 hval0
  simp only [List.append_nil] at hW'
  have bd : ∀ x : Int, (Lit.int .i16 x).wf = true → -32768 ≤ x ∧ x ≤ 32767 := fun x hx => by
    have emin : IntKind.i16.min = -32768 := by decide
    have emax : IntKind.i16.max = 32767 := by decide
    simpa [Lit.wf, emin, emax] using hx
  have b0 := bd _ w0; have b1 := bd _ w1; have b2 := bd _ w2; have b3 := bd _ w3; have b4 := bd _ w4; have b5 := bd _ w5
  refine (laws_any W a b c d e f ⟨b0.1, b1.1, b2.1, b3.1, b4.1, b5.1⟩ ⟨b0.2, b1.2, b2.2, b3.2, b4.2, b5.2⟩ htab).mono fun ee W' ⟨he, hb⟩ => ?_
  subst he
  exact ⟨_, rfl, post_new hW' (fun _ _ _ => (trodAll_cons_mk (shut_bool Tryd.underlying4 _) trodAll_mk0)) (fun sp => (trodAll_cons_mk (three_shut w0 w1 w2 w3 w4 w5) trodAll_mk0)) (fun _ => rfl)
    hb (ok_one (by kernel_rfl) rfl (okWide_bool_mk Tryd.underlying4 _))⟩
theorem laws_holds : Rows.RatioLawsSaid :=
  OpenClaim.holds_of_wide 3 Tryd.f3 rfl rfl rfl rfl rfl rfl rfl ⟨rfl, rfl, rfl, rfl, rfl⟩ rfl rfl rfl rfl rfl (by kernel_rfl) Tryd.func3 (by kernel_rfl)
    (of_decide_eq_true (by kernel_rfl)) (by unfold Func.isWrapper; first | (rw [if_pos (by decide +kernel)]; kernel_rfl) | (rw [if_neg (by decide +kernel)]; exact ⟨rfl, rfl⟩))
    (fun os started H enc _ => laws_lifted os started H enc)
theorem laws_card : Rows.RatioLawsCardSaid :=
  Claim7.holds_tied_plain_at .later [] [.data, .data, .data] true (true, "702efcbfd594893a1f5d5e833e2a8bae10af173dc25258346e1231c02bd84204") false
    laws_holds (fun _ h => by cases h) (by kernel_rfl) (fun _ h => by cases h) ratioLaws_row_tie rfl ⟨rfl, rfl⟩ (by kernel_rfl) rfl
    (fun f fn hf hfn => by
      obtain rfl : f = 3 := Option.some.inj ((show Tryd.prog.funcNamed "diapason/diapasonlaw01.RatioLaws" = some 3 by kernel_rfl).symm.trans hf) |>.symm
      obtain rfl : fn = Tryd.f3 := (Option.some.inj (Tryd.func3.symm.trans hfn)).symm
      exact ⟨by kernel_rfl, fun j t ht => by
        rw [Tryd.params3] at ht
        have h3 : t = 24 := by
          rcases j with _ | j
          · simpa using ht.symm
          · simp at ht
        subst h3
        exact (show Tryd.prog.wantsStandIn 24 = false by kernel_rfl)⟩)
    (by kernel_rfl)
end Go.Proofs.YtepnghhgmjobjaaDoor
