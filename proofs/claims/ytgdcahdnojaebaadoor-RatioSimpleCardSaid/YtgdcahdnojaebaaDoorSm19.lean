/- Contracts, in this order: ratio: simplest. · ratio: Between, by reckon. -/
import Derived.Test.YtgdcahdnojaebaaDoorSm18
import Derived.Test.YtgdcahdnojaebaaDoorSm12
import Derived.Test.YtgdcahdnojaebaaDoorSm15
import Derived.Test.YtgdcahdnojaebaaDoorSm13
/- ratio: simplest. -/
namespace Go.Proofs.YtgdcahdnojaebaaDoor
open Go.RowKit

def NumX (b : World) (q : Rat) (e : Ending) (w' : World) : Prop := ∃ v', e = .returned v' ∧ NumIn w' v' q ∧ Below b.heap.size b w'
theorem numX {P : Program} {f : FuncId} {args : Array Value} {b W : World} {q : Rat} (h : Below b.heap.size b W) (c : Calls P f args W (Num1 W q)) : Calls P f args W (NumX b q) :=
  c.mono fun _ _ ⟨v, h1, h2, h3⟩ => ⟨v, h1, h2, h.trans (h3.mono h.size)⟩
def NatX (b : World) (X Y : Nat) (e : Ending) (w' : World) : Prop := ∃ u v, e = .returned (.tuple #[u, v]) ∧ NatIn w' u X ∧ NatIn w' v Y ∧ Below b.heap.size b w'
def NumY (b W : World) (q : Rat) (e : Ending) (w' : World) : Prop := ∃ v', e = .returned v' ∧ NumIn w' v' q ∧ Below b.heap.size b w' ∧ Below W.heap.size W w'
theorem numY {P : Program} {f : FuncId} {args : Array Value} {b W : World} {q : Rat} (h : Below b.heap.size b W) (c : Calls P f args W (Num1 W q)) : Calls P f args W (NumY b W q) :=
  c.mono fun _ _ ⟨v, h1, h2, h3⟩ => ⟨v, h1, h2, h.trans (h3.mono h.size), h3⟩
theorem numdr {w : World} {v : Value} {q : Rat} (h : NumIn w v q) : NumIn w.drew v q := h.keep (below_drew (Below.refl _ _))
def Nat1X (b : World) (X : Nat) (e : Ending) (w' : World) : Prop := ∃ u, e = .returned u ∧ NatIn w' u X ∧ Below b.heap.size b w'
theorem nat1X {P : Program} {f : FuncId} {args : Array Value} {b W : World} {X : Nat} (h : Below b.heap.size b W) (c : Calls P f args W (Nat1 W X)) : Calls P f args W (Nat1X b X) :=
  c.mono fun _ _ ⟨u, h1, h2, h4⟩ => ⟨u, h1, h2, h.trans (h4.mono h.size)⟩
theorem natX {P : Program} {f : FuncId} {args : Array Value} {b W : World} {X Y : Nat} (h : Below b.heap.size b W) (c : Calls P f args W (Nat22 W X Y)) : Calls P f args W (NatX b X Y) :=
  c.mono fun _ _ ⟨u, v, h1, h2, h3, h4⟩ => ⟨u, v, h1, h2, h3, h.trans (h4.mono h.size)⟩
theorem signX {P : Program} {f : FuncId} {args : Array Value} {b W : World} {v : Value} (h : Below b.heap.size b W) (c : Calls P f args W fun e w' => e = .returned v ∧ Below W.heap.size W w') :
    Calls P f args W fun e w' => e = .returned v ∧ Below b.heap.size b w' :=
  c.mono fun _ _ ⟨h1, h2⟩ => ⟨h1, h.trans (h2.mono h.size)⟩
/-- simplestAbove's two numbers, as the fraction. -/
theorem spQ_of {x y : Rat} (hx : Big.ng x = false) (hy : Big.ng y = false) (h : x < y) :
    ∃ X Y : Nat, (Big.sp (Big.spm (Big.nu x) (Big.de x) (Big.nu y) (Big.de y) + 1) (Big.nu x) (Big.de x) (Big.nu y) (Big.de y)).1 = X ∧ (Big.sp (Big.spm (Big.nu x) (Big.de x) (Big.nu y) (Big.de y) + 1) (Big.nu x) (Big.de x) (Big.nu y) (Big.de y)).2 = Y ∧
      X ≤ Big.nu x + Big.nu y ∧ Y ≤ Big.de x + Big.de y ∧ 1 ≤ Y ∧ mkRat (Big.sI false X) Y = Big.spQ x y ∧ mkRat (Big.sI true X) Y = -Big.spQ x y := by
  obtain ⟨-, -, -, i4, i5, i6, -⟩ := Big.sp_all _ _ _ _ _ (Big.ends_of hx hy h) (Nat.lt_succ_self _)
  refine ⟨_, _, rfl, rfl, i5, i6, i4, rfl, ?_⟩
  unfold Big.spQ
  rw [Big.sI_true, Rat.neg_mkRat]
theorem sg_neg {q : Rat} (h : Big.ng q = true) : decide (sgQ q < 0) = true := by
  unfold sgQ; rw [if_pos (by rw [h])]; decide
theorem sg_nn {q : Rat} (h : Big.ng q = false) : decide (sgQ q < 0) = false := by
  unfold sgQ; rw [if_neg (by rw [h]; simp)]; split <;> decide
theorem sg_pos {q : Rat} (h : 0 < q) : decide (0 < sgQ q) = true := by
  have hn : Big.ng q = false := Big.not_neg.2 (Rat.le_of_lt h)
  unfold sgQ; rw [if_neg (by rw [hn]; simp)]
  have : Big.nu q ≠ 0 := by
    intro e
    have hz : q = 0 := Rat.num_eq_zero.1 (by unfold Big.nu at e; omega)
    rw [hz] at h; exact absurd h (by decide)
  rw [if_neg this]; decide
theorem sg_npos {q : Rat} (h : q ≤ 0) : decide (0 < sgQ q) = false := by
  unfold sgQ
  cases hn : Big.ng q
  · have h1 := Big.not_neg.1 hn
    have hz : q = 0 := Rat.le_antisymm h h1
    subst hz; decide
  · rw [if_pos rfl]; decide
set_option maxRecDepth 100000 in
set_option maxHeartbeats 4000000 in
theorem simplest_pos (w : World) (vx vy : Value) (x y : Rat) (hx : NumIn w vx x) (hy : NumIn w vy y) (zx : Sm 64 x) (zy : Sm 64 y) (hlt : x < y) (hgx : Big.ng x = false) :
    Calls Tryd.prog 33 #[vx, vy] w (Num1 w (Big.simplest x y)) := by
  have hgy : Big.ng y = false := Big.not_neg.2 (Rat.le_trans (Big.not_neg.1 hgx) (Rat.le_of_lt hlt))
  obtain ⟨X, Y, e1, e2, e3, e4, e5, e6, -⟩ := spQ_of hgx hgy hlt
  have es : Big.simplest x y = Big.spQ x y := by unfold Big.simplest; rw [hgx]; rfl
  rw [es]
  obtain ⟨Z, hZ⟩ : ∃ z, Big.spQ x y = z := ⟨_, rfl⟩
  rw [hZ] at e6 ⊢
  have hS : Sz 300 (Big.nu x + Big.nu y + (Big.de x + Big.de y)) := ((zx.nu.add zy.nu).add (zx.de.add zy.de)).up (by omega)
  have sX := hS.le (show X ≤ _ by omega); have sY := hS.le (show Y ≤ _ by omega)
  have HAb := Lib.hid (fun W v u (h : NumIn W v x) (i : NumIn W u y) => above_any W v u x y h i hgx hgy hlt _ _ X Y rfl rfl e1 e2 hS)
  have HO := Lib.hid (show ∀ W v u, NatIn W v X → NatIn W u Y → Calls Tryd.prog 37 #[.bool false, v, u] W (Num1 W Z) from fun W v u h i => by
    have c := exOf_any W false v u X Y 300 300 h i sX sY (by omega) (by omega) e5
    rw [e6] at c; exact c)
  have t1 := sg_nn hgx
  clear es hZ e1 e2 e3 e4 e5 e6 hS sX sY zx zy hlt hgx hgy
  obtain ⟨A1, l1, c1, A2, l2, c2, rfl, -, -⟩ := hx.is_agg
  obtain ⟨B1, m1, d1, B2, m2, d2, rfl, -, -⟩ := hy.is_agg
  obtain ⟨nx, hnx⟩ : ∃ z, Big.ng x = z := ⟨_, rfl⟩
  obtain ⟨ny, hny⟩ : ∃ z, Big.ng y = z := ⟨_, rfl⟩
  obtain ⟨sx, hsx⟩ : ∃ z, sgQ x = z := ⟨_, rfl⟩
  obtain ⟨sy, hsy⟩ : ∃ z, sgQ y = z := ⟨_, rfl⟩
  rw [hnx] at hx ⊢
  rw [hny] at hy ⊢
  obtain ⟨X0, Y0, R0, B0⟩ := boxed3 w 61 61 (.bool nx) (.slice A1 l1 c1) (.slice A2 l2 c2) (.bool ny) (.slice B1 m1 d1) (.slice B2 m2 d2) (.bool false) (.slice none 0 0) (.slice none 0 0)
  have HXi := Lib.hid (hx.keep B0); have HYi := Lib.hid (hy.keep B0)
  have HX0 := Lib.hid X0; have HY0 := Lib.hid Y0; have HR0 := Lib.hid R0; have HB0 := Lib.hid B0
  clear X0 Y0 R0 B0 hx hy
  rw [hsx] at t1
  go_enter Tryd.func33, Tryd.ntmps33
  go_upto_region 1 with fail
  generalize ((w.alloc (.cells #[.bool nx, .slice A1 l1 c1, .slice A2 l2 c2] 61)).alloc (.cells #[.bool ny, .slice B1 m1 d1, .slice B2 m2 d2] 61)).alloc (.cells #[.bool false, .slice none 0 0, .slice none 0 0] 61) = w0 at *

  have KX := Lib.hid (show ∀ w', Below w0.heap.size w0 w' → w'.cell? ⟨w.heap.size, 0, none⟩ = some (.bool nx) ∧ w'.cell? ⟨w.heap.size, 1, none⟩ = some (.slice A1 l1 c1) ∧ w'.cell? ⟨w.heap.size, 2, none⟩ = some (.slice A2 l2 c2) ∧ w'.cell? ⟨w.heap.size + 1, 0, none⟩ = some (.bool ny) ∧ w'.cell? ⟨w.heap.size + 1, 1, none⟩ = some (.slice B1 m1 d1) ∧ w'.cell? ⟨w.heap.size + 1, 2, none⟩ = some (.slice B2 m2 d2) from fun W h => ⟨(HX0.out.keep h).c0, (HX0.out.keep h).c1, (HX0.out.keep h).c2, (HY0.out.keep h).c0, (HY0.out.keep h).c1, (HY0.out.keep h).c2⟩)
  have CSX := Lib.hid (show ∀ W, Below w0.heap.size w0 W → Calls Tryd.prog 43 #[.agg #[.bool nx, .slice A1 l1 c1, .slice A2 l2 c2]] W fun e w' => e = .returned (.int .i64 sx) ∧ Below w0.heap.size w0 w' from fun W h => signX h (hsx ▸ exSign_any W _ x (HXi.out.keep h)))
  have CSY := Lib.hid (show ∀ W, Below w0.heap.size w0 W → Calls Tryd.prog 43 #[.agg #[.bool ny, .slice B1 m1 d1, .slice B2 m2 d2]] W fun e w' => e = .returned (.int .i64 sy) ∧ Below w0.heap.size w0 w' from fun W h => signX h (hsy ▸ exSign_any W _ y (HYi.out.keep h)))
  have CAb := Lib.hid (show ∀ W, Below w0.heap.size w0 W → Calls Tryd.prog 65 #[.agg #[.bool nx, .slice A1 l1 c1, .slice A2 l2 c2], .agg #[.bool ny, .slice B1 m1 d1, .slice B2 m2 d2]] W (NatX w0 X Y) from fun W h => natX h (HAb.out W _ _ (HXi.out.keep h) (HYi.out.keep h)))
  have CO := Lib.hid (show ∀ W v u, Below w0.heap.size w0 W → NatIn W v X → NatIn W u Y → Calls Tryd.prog 37 #[.bool false, v, u] W (NumX w0 Z) from fun W v u h a b => numX h (HO.out W v u a b))
  have HSS := Lib.hid (And.intro hsx hsy); have HNN := Lib.hid (And.intro hnx hny)
  clear HAb HO hsx hsy hnx hny
  have hb0 := Below.refl w0.heap.size w0
  obtain ⟨k0, k1, k2, k3, k4, k5⟩ := KX.out _ hb0
  go_wp2_with (first | (go_at_call 43; (first | with_reducible refine (CSX.out _ (by first | assumption | exact Below.refl _ _ | exact below_drew (Below.refl _ _) | exact below_drew (by assumption))).mono ?_ | with_reducible refine (CSY.out _ (by first | assumption | exact Below.refl _ _ | exact below_drew (Below.refl _ _) | exact below_drew (by assumption))).mono ?_); rintro e w2 ⟨rfl, hw2⟩; obtain ⟨k0, k1, k2, k3, k4, k5⟩ := KX.out _ hw2) | (go_at_call 65; (with_reducible refine (CAb.out _ (by first | assumption | exact Below.refl _ _ | exact below_drew (Below.refl _ _) | exact below_drew (by assumption))).mono ?_); rintro e w3 ⟨u, v, rfl, hu, hv, hw3⟩; have HU := Lib.hid (And.intro hu hv); clear hu hv; obtain ⟨k0, k1, k2, k3, k4, k5⟩ := KX.out _ hw3) | fail)
  refine (CO.out _ _ _ (by first | assumption | exact Below.refl _ _ | exact below_drew (Below.refl _ _) | exact below_drew (by assumption)) HU.out.1 HU.out.2).mono ?_
  rintro e w4 ⟨v4, rfl, hv4, hw4⟩
  have RR := HR0.out.keep hw4
  have f0 := RR.frozen 0; have f1 := RR.frozen 1; have f2 := RR.frozen 2
  have q0 := RR.c0; have q1 := RR.c1; have q2 := RR.c2
  obtain ⟨A8, l8, c8, A9, l9, c9, rfl, h8, h9⟩ := hv4.is_agg
  have HH := Lib.hid (And.intro h8 h9)
  have HBF := Lib.hid (HB0.out.trans (hw4.mono HB0.out.size))
  clear hv4 h8 h9
  obtain ⟨nz, hnz⟩ : ∃ z, Big.ng Z = z := ⟨_, rfl⟩
  rw [hnz]
  have HNZ := Lib.hid hnz
  clear hnz
  go_wp2_with fail
  obtain ⟨D1, D2, D3⟩ := num_done (bb := nz) (show NumRes w4 _ _ from RR) HBF.out (by omega) HH.out.1 HH.out.2 HNZ.out.symm
  have HD1 := Lib.hid D1; have HD2 := Lib.hid D2; have HD3 := Lib.hid D3
  clear D1 D2 D3 q0 q1 q2 f0 f1 f2 RR k0 k1 k2 k3 k4 k5
  generalize (((w4.setCell ⟨w.heap.size + 1 + 1, 0, none⟩ (.bool (nz))).setCell ⟨w.heap.size + 1 + 1, 1, none⟩ (.slice A8 l8 c8)).setCell ⟨w.heap.size + 1 + 1, 2, none⟩ (.slice A9 l9 c9)) = wz at HD1 HD2 HD3 ⊢
  have r0 := HD1.out.c0; have r1 := HD1.out.c1; have r2 := HD1.out.c2
  exact bodyPost_ret (v := .agg #[.bool (nz), (.slice A8 l8 c8), (.slice A9 l9 c9)]) (by simp [results, Tryd.results33, go_sem, r0, r1, r2]) rfl ⟨_, rfl, HD2.out, HD3.out⟩
set_option maxRecDepth 100000 in
set_option maxHeartbeats 4000000 in
theorem simplest_mid (w : World) (vx vy : Value) (x y : Rat) (hx : NumIn w vx x) (hy : NumIn w vy y) (hgx : Big.ng x = true) (hy0 : 0 < y) :
    Calls Tryd.prog 33 #[vx, vy] w (Num1 w (Big.simplest x y)) := by
  have hgy : Big.ng y = false := Big.not_neg.2 (Rat.le_of_lt hy0)
  have hny0 : Big.nu y ≠ 0 := by
    intro e; rw [Big.nu_zero.1 e] at hy0; exact absurd hy0 (by decide)
  have es : Big.simplest x y = 0 := by unfold Big.simplest; rw [if_pos hgx, if_pos ⟨hgy, by omega⟩]
  rw [es]
  have HO := Lib.hid (show ∀ W v u, NatIn W v 0 → NatIn W u 1 → Calls Tryd.prog 37 #[.bool false, v, u] W (Num1 W 0) from fun W v u h i => by
    have c := exOf_any W false v u 0 1 1 1 h i ⟨by decide⟩ ⟨by decide⟩ (by omega) (by omega) (by omega)
    rw [show mkRat (Big.sI false 0) 1 = 0 from by decide +kernel] at c; exact c)
  have t1 := sg_neg hgx
  have t2 := sg_pos hy0
  clear es hgx hgy hy0 hny0
  obtain ⟨A1, l1, c1, A2, l2, c2, rfl, -, -⟩ := hx.is_agg
  obtain ⟨B1, m1, d1, B2, m2, d2, rfl, -, -⟩ := hy.is_agg
  obtain ⟨nx, hnx⟩ : ∃ z, Big.ng x = z := ⟨_, rfl⟩
  obtain ⟨ny, hny⟩ : ∃ z, Big.ng y = z := ⟨_, rfl⟩
  obtain ⟨sx, hsx⟩ : ∃ z, sgQ x = z := ⟨_, rfl⟩
  obtain ⟨sy, hsy⟩ : ∃ z, sgQ y = z := ⟨_, rfl⟩
  rw [hnx] at hx ⊢
  rw [hny] at hy ⊢
  obtain ⟨X0, Y0, R0, B0⟩ := boxed3 w 61 61 (.bool nx) (.slice A1 l1 c1) (.slice A2 l2 c2) (.bool ny) (.slice B1 m1 d1) (.slice B2 m2 d2) (.bool false) (.slice none 0 0) (.slice none 0 0)
  have HXi := Lib.hid (hx.keep B0); have HYi := Lib.hid (hy.keep B0)
  have HX0 := Lib.hid X0; have HY0 := Lib.hid Y0; have HR0 := Lib.hid R0; have HB0 := Lib.hid B0
  clear X0 Y0 R0 B0 hx hy
  rw [hsx] at t1
  rw [hsy] at t2
  go_enter Tryd.func33, Tryd.ntmps33
  go_upto_region 1 with fail
  generalize ((w.alloc (.cells #[.bool nx, .slice A1 l1 c1, .slice A2 l2 c2] 61)).alloc (.cells #[.bool ny, .slice B1 m1 d1, .slice B2 m2 d2] 61)).alloc (.cells #[.bool false, .slice none 0 0, .slice none 0 0] 61) = w0 at *

  have KX := Lib.hid (show ∀ w', Below w0.heap.size w0 w' → w'.cell? ⟨w.heap.size, 0, none⟩ = some (.bool nx) ∧ w'.cell? ⟨w.heap.size, 1, none⟩ = some (.slice A1 l1 c1) ∧ w'.cell? ⟨w.heap.size, 2, none⟩ = some (.slice A2 l2 c2) ∧ w'.cell? ⟨w.heap.size + 1, 0, none⟩ = some (.bool ny) ∧ w'.cell? ⟨w.heap.size + 1, 1, none⟩ = some (.slice B1 m1 d1) ∧ w'.cell? ⟨w.heap.size + 1, 2, none⟩ = some (.slice B2 m2 d2) from fun W h => ⟨(HX0.out.keep h).c0, (HX0.out.keep h).c1, (HX0.out.keep h).c2, (HY0.out.keep h).c0, (HY0.out.keep h).c1, (HY0.out.keep h).c2⟩)
  have CSX := Lib.hid (show ∀ W, Below w0.heap.size w0 W → Calls Tryd.prog 43 #[.agg #[.bool nx, .slice A1 l1 c1, .slice A2 l2 c2]] W fun e w' => e = .returned (.int .i64 sx) ∧ Below w0.heap.size w0 w' from fun W h => signX h (hsx ▸ exSign_any W _ x (HXi.out.keep h)))
  have CSY := Lib.hid (show ∀ W, Below w0.heap.size w0 W → Calls Tryd.prog 43 #[.agg #[.bool ny, .slice B1 m1 d1, .slice B2 m2 d2]] W fun e w' => e = .returned (.int .i64 sy) ∧ Below w0.heap.size w0 w' from fun W h => signX h (hsy ▸ exSign_any W _ y (HYi.out.keep h)))
  have CO := Lib.hid (show ∀ W u, Below w0.heap.size w0 W → NatIn W u 1 → Calls Tryd.prog 37 #[.bool false, .slice none 0 0, u] W (NumX w0 0) from fun W u h b => numX h (HO.out W _ u (NatIn.nil_ _) b))
  have CN := Lib.hid (show ∀ W, Below w0.heap.size w0 W → Calls Tryd.prog 64 #[.int .u64 1] W (Nat1X w0 1) from fun W h => nat1X h (of_num W 1 (by decide)))
  have HSS := Lib.hid (And.intro hsx hsy); have HNN := Lib.hid (And.intro hnx hny)
  clear HO hsx hsy hnx hny
  have hb0 := Below.refl w0.heap.size w0
  obtain ⟨k0, k1, k2, k3, k4, k5⟩ := KX.out _ hb0
  go_wp2_with (first | (go_at_call 43; (first | with_reducible refine (CSX.out _ (by first | assumption | exact Below.refl _ _ | exact below_drew (Below.refl _ _) | exact below_drew (by assumption))).mono ?_ | with_reducible refine (CSY.out _ (by first | assumption | exact Below.refl _ _ | exact below_drew (Below.refl _ _) | exact below_drew (by assumption))).mono ?_); rintro e w2 ⟨rfl, hw2⟩; obtain ⟨k0, k1, k2, k3, k4, k5⟩ := KX.out _ hw2) | (go_at_call 64; (with_reducible refine (CN.out _ (by first | assumption | exact Below.refl _ _ | exact below_drew (Below.refl _ _) | exact below_drew (by assumption))).mono ?_); rintro e w3 ⟨u, rfl, hu, hw3⟩; have HU := Lib.hid hu; clear hu; obtain ⟨k0, k1, k2, k3, k4, k5⟩ := KX.out _ hw3) | fail)
  refine (CO.out _ _ (by first | assumption | exact Below.refl _ _ | exact below_drew (Below.refl _ _) | exact below_drew (by assumption)) HU.out).mono ?_
  rintro e w4 ⟨v4, rfl, hv4, hw4⟩
  have RR := HR0.out.keep hw4
  have f0 := RR.frozen 0; have f1 := RR.frozen 1; have f2 := RR.frozen 2
  have q0 := RR.c0; have q1 := RR.c1; have q2 := RR.c2
  obtain ⟨A8, l8, c8, A9, l9, c9, rfl, h8, h9⟩ := hv4.is_agg
  have HH := Lib.hid (And.intro h8 h9)
  have HBF := Lib.hid (HB0.out.trans (hw4.mono HB0.out.size))
  clear hv4 h8 h9
  obtain ⟨nz, hnz⟩ : ∃ z, Big.ng (0 : Rat) = z := ⟨_, rfl⟩
  rw [hnz]
  have HNZ := Lib.hid hnz
  clear hnz
  go_wp2_with fail
  obtain ⟨D1, D2, D3⟩ := num_done (bb := nz) (show NumRes w4 _ _ from RR) HBF.out (by omega) HH.out.1 HH.out.2 HNZ.out.symm
  have HD1 := Lib.hid D1; have HD2 := Lib.hid D2; have HD3 := Lib.hid D3
  clear D1 D2 D3 q0 q1 q2 f0 f1 f2 RR k0 k1 k2 k3 k4 k5
  generalize (((w4.setCell ⟨w.heap.size + 1 + 1, 0, none⟩ (.bool (nz))).setCell ⟨w.heap.size + 1 + 1, 1, none⟩ (.slice A8 l8 c8)).setCell ⟨w.heap.size + 1 + 1, 2, none⟩ (.slice A9 l9 c9)) = wz at HD1 HD2 HD3 ⊢
  have r0 := HD1.out.c0; have r1 := HD1.out.c1; have r2 := HD1.out.c2
  exact bodyPost_ret (v := .agg #[.bool (nz), (.slice A8 l8 c8), (.slice A9 l9 c9)]) (by simp [results, Tryd.results33, go_sem, r0, r1, r2]) rfl ⟨_, rfl, HD2.out, HD3.out⟩
set_option maxRecDepth 100000 in
set_option maxHeartbeats 4000000 in
theorem simplest_neg (w : World) (vx vy : Value) (x y : Rat) (hx : NumIn w vx x) (hy : NumIn w vy y) (zx : Sm 64 x) (zy : Sm 64 y) (hlt : x < y) (hy0 : y ≤ 0) :
    Calls Tryd.prog 33 #[vx, vy] w (Num1 w (Big.simplest x y)) := by
  have hlt' : -y < -x := Rat.neg_lt_neg hlt
  have hgx : Big.ng x = true := by
    cases h : Big.ng x
    · have h1 := Big.not_neg.1 h
      exact absurd hlt (Rat.not_lt.2 (Rat.le_trans hy0 h1))
    · rfl
  have hny : Big.ng (-y) = false := Big.not_neg.2 (by have := Rat.neg_le_neg hy0; simpa using this)
  have hnx : Big.ng (-x) = false := Big.not_neg.2 (Rat.le_trans (Big.not_neg.1 hny) (Rat.le_of_lt hlt'))
  obtain ⟨X, Y, e1, e2, e3, e4, e5, -, e6⟩ := spQ_of hny hnx hlt'
  have es : Big.simplest x y = -Big.spQ (-y) (-x) := by
    unfold Big.simplest
    rw [if_pos hgx, if_neg (by
      rintro ⟨h1, h2⟩
      have h3 : y = 0 := Rat.le_antisymm hy0 (Big.not_neg.1 h1)
      rw [h3] at h2; exact absurd h2 (by decide))]
  rw [es]
  obtain ⟨Z, hZ⟩ : ∃ z, -Big.spQ (-y) (-x) = z := ⟨_, rfl⟩
  rw [hZ] at e6 ⊢
  have hS : Sz 300 (Big.nu (-y) + Big.nu (-x) + (Big.de (-y) + Big.de (-x))) := ((zy.neg.nu.add zx.neg.nu).add (zy.neg.de.add zx.neg.de)).up (by omega)
  have sX := hS.le (show X ≤ _ by omega); have sY := hS.le (show Y ≤ _ by omega)
  have HAb := Lib.hid (fun W v u (h : NumIn W v (-y)) (i : NumIn W u (-x)) => above_any W v u (-y) (-x) h i hny hnx hlt' _ _ X Y rfl rfl e1 e2 hS)
  have HO := Lib.hid (show ∀ W v u, NatIn W v X → NatIn W u Y → Calls Tryd.prog 37 #[.bool true, v, u] W (Num1 W Z) from fun W v u h i => by
    have c := exOf_any W true v u X Y 300 300 h i sX sY (by omega) (by omega) e5
    rw [e6] at c; exact c)
  have t1 := sg_neg hgx
  have t2 := sg_npos hy0
  clear es hZ e1 e2 e3 e4 e5 e6 hS sX sY zx zy hlt hlt' hgx hny hnx hy0
  obtain ⟨A1, l1, c1, A2, l2, c2, rfl, -, -⟩ := hx.is_agg
  obtain ⟨B1, m1, d1, B2, m2, d2, rfl, -, -⟩ := hy.is_agg
  obtain ⟨nx, hnx⟩ : ∃ z, Big.ng x = z := ⟨_, rfl⟩
  obtain ⟨ny, hny⟩ : ∃ z, Big.ng y = z := ⟨_, rfl⟩
  obtain ⟨sx, hsx⟩ : ∃ z, sgQ x = z := ⟨_, rfl⟩
  obtain ⟨sy, hsy⟩ : ∃ z, sgQ y = z := ⟨_, rfl⟩
  rw [hnx] at hx ⊢
  rw [hny] at hy ⊢
  obtain ⟨X0, Y0, R0, B0⟩ := boxed3 w 61 61 (.bool nx) (.slice A1 l1 c1) (.slice A2 l2 c2) (.bool ny) (.slice B1 m1 d1) (.slice B2 m2 d2) (.bool false) (.slice none 0 0) (.slice none 0 0)
  have HXi := Lib.hid (hx.keep B0); have HYi := Lib.hid (hy.keep B0)
  have HX0 := Lib.hid X0; have HY0 := Lib.hid Y0; have HR0 := Lib.hid R0; have HB0 := Lib.hid B0
  clear X0 Y0 R0 B0 hx hy
  rw [hsx] at t1
  rw [hsy] at t2
  go_enter Tryd.func33, Tryd.ntmps33
  go_upto_region 1 with fail
  generalize ((w.alloc (.cells #[.bool nx, .slice A1 l1 c1, .slice A2 l2 c2] 61)).alloc (.cells #[.bool ny, .slice B1 m1 d1, .slice B2 m2 d2] 61)).alloc (.cells #[.bool false, .slice none 0 0, .slice none 0 0] 61) = w0 at *

  have KX := Lib.hid (show ∀ w', Below w0.heap.size w0 w' → w'.cell? ⟨w.heap.size, 0, none⟩ = some (.bool nx) ∧ w'.cell? ⟨w.heap.size, 1, none⟩ = some (.slice A1 l1 c1) ∧ w'.cell? ⟨w.heap.size, 2, none⟩ = some (.slice A2 l2 c2) ∧ w'.cell? ⟨w.heap.size + 1, 0, none⟩ = some (.bool ny) ∧ w'.cell? ⟨w.heap.size + 1, 1, none⟩ = some (.slice B1 m1 d1) ∧ w'.cell? ⟨w.heap.size + 1, 2, none⟩ = some (.slice B2 m2 d2) from fun W h => ⟨(HX0.out.keep h).c0, (HX0.out.keep h).c1, (HX0.out.keep h).c2, (HY0.out.keep h).c0, (HY0.out.keep h).c1, (HY0.out.keep h).c2⟩)
  have CSX := Lib.hid (show ∀ W, Below w0.heap.size w0 W → Calls Tryd.prog 43 #[.agg #[.bool nx, .slice A1 l1 c1, .slice A2 l2 c2]] W fun e w' => e = .returned (.int .i64 sx) ∧ Below w0.heap.size w0 w' from fun W h => signX h (hsx ▸ exSign_any W _ x (HXi.out.keep h)))
  have CSY := Lib.hid (show ∀ W, Below w0.heap.size w0 W → Calls Tryd.prog 43 #[.agg #[.bool ny, .slice B1 m1 d1, .slice B2 m2 d2]] W fun e w' => e = .returned (.int .i64 sy) ∧ Below w0.heap.size w0 w' from fun W h => signX h (hsy ▸ exSign_any W _ y (HYi.out.keep h)))
  have CAb := Lib.hid (show ∀ W v u, Below w0.heap.size w0 W → NumIn W v (-y) → NumIn W u (-x) → Calls Tryd.prog 65 #[v, u] W (NatX w0 X Y) from fun W v u h a b => natX h (HAb.out W _ _ a b))
  have CNX := Lib.hid (show ∀ W, Below w0.heap.size w0 W → Calls Tryd.prog 66 #[.agg #[.bool nx, .slice A1 l1 c1, .slice A2 l2 c2]] W (NumY w0 W (-x)) from fun W h => numY h (exNeg_any W _ x (HXi.out.keep h)))
  have CNY := Lib.hid (show ∀ W, Below w0.heap.size w0 W → Calls Tryd.prog 66 #[.agg #[.bool ny, .slice B1 m1 d1, .slice B2 m2 d2]] W (NumY w0 W (-y)) from fun W h => numY h (exNeg_any W _ y (HYi.out.keep h)))
  have CO := Lib.hid (show ∀ W v u, Below w0.heap.size w0 W → NatIn W v X → NatIn W u Y → Calls Tryd.prog 37 #[.bool true, v, u] W (NumX w0 Z) from fun W v u h a b => numX h (HO.out W v u a b))
  have HSS := Lib.hid (And.intro hsx hsy); have HNN := Lib.hid (And.intro hnx hny)
  clear HAb HO hsx hsy hnx hny
  have hb0 := Below.refl w0.heap.size w0
  obtain ⟨k0, k1, k2, k3, k4, k5⟩ := KX.out _ hb0
  go_upto_region 4 with (first | (go_at_call 43; (first | with_reducible refine (CSX.out _ (by first | assumption | exact Below.refl _ _ | exact below_drew (Below.refl _ _) | exact below_drew (by assumption))).mono ?_ | with_reducible refine (CSY.out _ (by first | assumption | exact Below.refl _ _ | exact below_drew (Below.refl _ _) | exact below_drew (by assumption))).mono ?_); rintro e w2 ⟨rfl, hw2⟩; obtain ⟨k0, k1, k2, k3, k4, k5⟩ := KX.out _ hw2) | fail)
  go_region_held3 (fun w' => w'.cell? ⟨w.heap.size, 0, none⟩ = some (.bool nx) ∧ w'.cell? ⟨w.heap.size, 1, none⟩ = some (.slice A1 l1 c1) ∧ w'.cell? ⟨w.heap.size, 2, none⟩ = some (.slice A2 l2 c2) ∧ w'.cell? ⟨w.heap.size + 1, 0, none⟩ = some (.bool ny) ∧ w'.cell? ⟨w.heap.size + 1, 1, none⟩ = some (.slice B1 m1 d1) ∧ w'.cell? ⟨w.heap.size + 1, 2, none⟩ = some (.slice B2 m2 d2))
    (exact KX.out _ (by first | assumption | exact Below.refl _ _ | exact below_drew (Below.refl _ _) | exact below_drew (by assumption)))
    (first
      | (go_at_call 66; (with_reducible refine (CNY.out _ (by first | assumption | exact Below.refl _ _ | exact below_drew (Below.refl _ _) | exact below_drew (by assumption))).mono ?_); rintro e w6 ⟨vny, rfl, hvny, hw6, hw6'⟩; have HVY := Lib.hid hvny; clear hvny)
      | (go_at_call 66; (with_reducible refine (CNX.out _ (by first | assumption | exact Below.refl _ _ | exact below_drew (Below.refl _ _) | exact below_drew (by assumption))).mono ?_); rintro e w5 ⟨vnx, rfl, hvnx, hw5, hw5'⟩; have HVX := Lib.hid hvnx; clear hvnx; have HV5 := Lib.hid (show NumIn w5 vny (-y) from by first | exact HVY.out.keep hw5' | exact (numdr HVY.out).keep hw5'))
      | (go_at_call 65; (with_reducible refine (CAb.out _ _ _ (by first | assumption | exact Below.refl _ _ | exact below_drew (Below.refl _ _) | exact below_drew (by assumption)) (by first | exact HV5.out | exact numdr HV5.out) (by first | exact HVX.out | exact numdr HVX.out)).mono ?_); rintro e w7 ⟨u, v, rfl, hu, hv, hw7⟩; have HU := Lib.hid (And.intro hu hv); clear hu hv)
      | fail)
  go_wp2_with fail
  refine (CO.out _ _ _ (by first | assumption | exact Below.refl _ _ | exact below_drew (Below.refl _ _) | exact below_drew (by assumption)) (by first | exact HU.out.1 | exact NatIn.dr HU.out.1) (by first | exact HU.out.2 | exact NatIn.dr HU.out.2)).mono ?_
  rintro e w4 ⟨v4, rfl, hv4, hw4⟩
  have RR := HR0.out.keep hw4
  have f0 := RR.frozen 0; have f1 := RR.frozen 1; have f2 := RR.frozen 2
  have q0 := RR.c0; have q1 := RR.c1; have q2 := RR.c2
  obtain ⟨A8, l8, c8, A9, l9, c9, rfl, h8, h9⟩ := hv4.is_agg
  have HH := Lib.hid (And.intro h8 h9)
  have HBF := Lib.hid (HB0.out.trans (hw4.mono HB0.out.size))
  clear hv4 h8 h9
  obtain ⟨nz, hnz⟩ : ∃ z, Big.ng Z = z := ⟨_, rfl⟩
  rw [hnz]
  have HNZ := Lib.hid hnz
  clear hnz
  go_wp2_with fail
  obtain ⟨D1, D2, D3⟩ := num_done (bb := nz) (show NumRes w4 _ _ from RR) HBF.out (by omega) HH.out.1 HH.out.2 HNZ.out.symm
  have HD1 := Lib.hid D1; have HD2 := Lib.hid D2; have HD3 := Lib.hid D3
  clear D1 D2 D3 q0 q1 q2 f0 f1 f2 RR k0 k1 k2 k3 k4 k5
  generalize (((w4.setCell ⟨w.heap.size + 1 + 1, 0, none⟩ (.bool (nz))).setCell ⟨w.heap.size + 1 + 1, 1, none⟩ (.slice A8 l8 c8)).setCell ⟨w.heap.size + 1 + 1, 2, none⟩ (.slice A9 l9 c9)) = wz at HD1 HD2 HD3 ⊢
  have r0 := HD1.out.c0; have r1 := HD1.out.c1; have r2 := HD1.out.c2
  exact bodyPost_ret (v := .agg #[.bool (nz), (.slice A8 l8 c8), (.slice A9 l9 c9)]) (by simp [results, Tryd.results33, go_sem, r0, r1, r2]) rfl ⟨_, rfl, HD2.out, HD3.out⟩
end Go.Proofs.YtgdcahdnojaebaaDoor
/- ratio: Between, by reckon. -/
namespace Go.Proofs.YtgdcahdnojaebaaDoor
open Go.RowKit

theorem simplest_any (w : World) (vx vy : Value) (x y : Rat) (hx : NumIn w vx x) (hy : NumIn w vy y) (zx : Sm 64 x) (zy : Sm 64 y) (hlt : x < y) :
    Calls Tryd.prog 33 #[vx, vy] w (Num1 w (Big.simplest x y)) := by
  cases h : Big.ng x
  · exact simplest_pos w vx vy x y hx hy zx zy hlt h
  · by_cases h0 : 0 < y
    · exact simplest_mid w vx vy x y hx hy h h0
    · exact simplest_neg w vx vy x y hx hy zx zy hlt (Rat.not_lt.1 h0)
theorem simplest_sm {x y : Rat} (zx : Sm 64 x) (zy : Sm 64 y) (hlt : x < y) : Sm 130 (Big.simplest x y) := by
  obtain ⟨h1, h2⟩ := Big.simplest_le hlt
  exact ⟨((zx.nu.add zy.nu).up (by omega)).le h1, ((zx.de.add zy.de).up (by omega)).le h2⟩
set_option maxRecDepth 100000 in
set_option maxHeartbeats 4000000 in
theorem Between1_any (b w : World) (vx vy : Value) (q r : Rat) (hx : NumIn w vx q) (hy : NumIn w vy r) (sx : Sm 64 q) (sy : Sm 64 r) (h0 : q < r) (hbw : Below b.heap.size b w) :
    Calls Tryd.prog 32 #[vx, vy] w (NumE b w (Big.simplest q r)) := by
  have hc : Big.cmpQ q r = -1 := if_pos h0
  have C := Lib.hid (fun W a c (h : NumIn W a q) (i : NumIn W c r) => simplest_any W a c q r h i sx sy h0)
  have CS := Lib.hid (show ∀ W a c, NumIn W a q → NumIn W c r → Calls Tryd.prog 30 #[a, c] W fun e w' => e = .returned (.int .i64 (-1)) ∧ Below W.heap.size W w' from fun W a c h i => hc ▸ exCmp_any W a c q r 64 h i sx sy (by omega))
  clear hc
  have HQ := Lib.hid hx; have HR := Lib.hid hy; have HBW := Lib.hid hbw
  obtain ⟨A, l, c, A2, l2, c2, rfl, -, -⟩ := hx.is_agg
  obtain ⟨B, m, d, B2, m2, d2, rfl, -, -⟩ := hy.is_agg
  clear hx hy sx sy hbw h0
  obtain ⟨X0, Y0, R0, B0⟩ := boxed3 w 61 61 (.bool (Big.ng q)) (.slice A l c) (.slice A2 l2 c2) (.bool (Big.ng r)) (.slice B m d) (.slice B2 m2 d2) (.bool false) (.slice none 0 0) (.slice none 0 0)
  have HR0 := Lib.hid R0; have HB0 := Lib.hid B0
  have HXX := Lib.hid X0; have HYY := Lib.hid Y0
  clear X0 Y0 R0 B0
  go_enter Tryd.func32, Tryd.ntmps32
  go_wp2_with fail
  generalize ((w.alloc (.cells #[.bool (Big.ng q), .slice A l c, .slice A2 l2 c2] 61)).alloc (.cells #[.bool (Big.ng r), .slice B m d, .slice B2 m2 d2] 61)).alloc (.cells #[.bool false, .slice none 0 0, .slice none 0 0] 61) = w0 at *
  refine (CS.out _ _ _ (HQ.out.keep HB0.out) (HR.out.keep HB0.out)).mono ?_
  rintro e ws ⟨rfl, hws⟩
  have HBs := Lib.hid (HB0.out.trans (hws.mono HB0.out.size))
  have HRs := Lib.hid (HR0.out.keep hws)
  have x0 := (HXX.out.keep hws).c0; have x1 := (HXX.out.keep hws).c1; have x2 := (HXX.out.keep hws).c2
  have y0 := (HYY.out.keep hws).c0; have y1 := (HYY.out.keep hws).c1; have y2 := (HYY.out.keep hws).c2
  clear hws HXX HYY HB0 HR0
  have HB0 := HBs; have HR0 := HRs
  clear HBs HRs
  go_wp2_with fail
  clear x0 x1 x2 y0 y1 y2
  refine (C.out _ _ _ (HQ.out.keep HB0.out) (HR.out.keep HB0.out)).mono ?_
  rintro e w1 ⟨v1, rfl, hv1, hw1⟩
  have B1 := HB0.out.trans (hw1.mono HB0.out.size)
  have R1 := HR0.out.keep hw1
  obtain ⟨A8, l8, c8, A9, l9, c9, rfl, h8, h9⟩ := hv1.is_agg
  have HH := Lib.hid (And.intro h8 h9); have HB1 := Lib.hid B1
  have k0 := R1.c0; have k1 := R1.c1; have k2 := R1.c2; have f0 := R1.frozen 0; have f1 := R1.frozen 1; have f2 := R1.frozen 2
  obtain ⟨nz, hnz⟩ : ∃ z, Big.ng (Big.simplest q r) = z := ⟨_, rfl⟩
  rw [hnz]
  have HNZ := Lib.hid hnz
  have RR := R1
  clear hv1 h8 h9 hw1 hnz B1 R1 C HQ HR HR0 HB0
  go_wp2_with fail
  obtain ⟨D1, D2, D3⟩ := num_done (bb := nz) (show NumRes w1 _ _ from RR) HB1.out (by omega) HH.out.1 HH.out.2 HNZ.out.symm
  have HD1 := Lib.hid D1; have HD2 := Lib.hid D2; have HD3 := Lib.hid D3
  clear D1 D2 D3 k0 k1 k2 f0 f1 f2 RR
  generalize (((w1.setCell ⟨w.heap.size + 1 + 1, 0, none⟩ (.bool (nz))).setCell ⟨w.heap.size + 1 + 1, 1, none⟩ (.slice A8 l8 c8)).setCell ⟨w.heap.size + 1 + 1, 2, none⟩ (.slice A9 l9 c9)) = wz at HD1 HD2 HD3 ⊢
  have r0 := HD1.out.c0; have r1 := HD1.out.c1; have r2 := HD1.out.c2
  exact bodyPost_ret (v := .tuple #[.agg #[.bool (nz), .slice A8 l8 c8, .slice A9 l9 c9], .int .i64 0]) (by simp [results, Tryd.results32, go_sem, r0, r1, r2]) rfl ⟨_, rfl, HD2.out, HBW.out.trans (HD3.out.mono HBW.out.size), HD3.out⟩

set_option maxRecDepth 100000 in
set_option maxHeartbeats 600000 in
theorem reckonBetween_fit (w : World) (q r z : Rat) (k : Nat) (hq : Fit q) (hr : Fit r) (hz : Fit z) (sz : Sm k z) (hk : k ≤ 10000000)
    (hF : ∀ b W v u, NumIn W v q → NumIn W u r → Below b.heap.size b W → Calls Tryd.prog 32 #[v, u] W (NumE b W z)) :
    Calls Tryd.prog 31 #[.func (.func 32) #[] #[], .agg #[.bool (Big.ng q), .string (bst (Big.nu q)), .string (bst (Big.de q))], .agg #[.bool (Big.ng r), .string (bst (Big.nu r)), .string (bst (Big.de r))]] w (Ret2 w (fracV z) 0) := by
  have HRD := Lib.hid (fun W g (h : AtL W g 26 #[.bool (Big.ng q), .string (bst (Big.nu q)), .string (bst (Big.de q)), .bool (Big.ng r), .string (bst (Big.nu r)), .string (bst (Big.de r))]) => read2_any W g q r h hq hr)
  have HF := Lib.hid hF
  have CA := Lib.hid (fun W v (h : NumIn W v z) => answer_fit W v z k h sz hk hz)
  obtain ⟨X0, Y0, R0, B0⟩ := boxed3 w 26 26 (.bool (Big.ng q)) (.string (bst (Big.nu q))) (.string (bst (Big.de q))) (.bool (Big.ng r)) (.string (bst (Big.nu r))) (.string (bst (Big.de r))) (.bool false) (.string ⟨#[]⟩) (.string ⟨#[]⟩)
  have HR0 := Lib.hid R0; have HB0 := Lib.hid B0
  have x0 := X0.c0; have x1 := X0.c1; have x2 := X0.c2
  have y0 := Y0.c0; have y1 := Y0.c1; have y2 := Y0.c2
  clear hF hz sz hq hr X0 Y0 R0 B0
  go_enter Tryd.func31, Tryd.ntmps31
  go_wp2_with fail
  have hs : (((w.alloc (.cells #[.bool (Big.ng q), .string (bst (Big.nu q)), .string (bst (Big.de q))] 26)).alloc (.cells #[.bool (Big.ng r), .string (bst (Big.nu r)), .string (bst (Big.de r))] 26)).alloc (.cells #[.bool false, .string ⟨#[]⟩, .string ⟨#[]⟩] 26)).heap.size = w.heap.size + 1 + 1 + 1 := by rw [alloc_size, alloc_size, alloc_size]
  generalize ((w.alloc (.cells #[.bool (Big.ng q), .string (bst (Big.nu q)), .string (bst (Big.de q))] 26)).alloc (.cells #[.bool (Big.ng r), .string (bst (Big.nu r)), .string (bst (Big.de r))] 26)).alloc (.cells #[.bool false, .string ⟨#[]⟩, .string ⟨#[]⟩] 26) = w0 at *
  have HN := AtL.new w0 26 #[.bool (Big.ng q), .string (bst (Big.nu q)), .string (bst (Big.de q)), .bool (Big.ng r), .string (bst (Big.nu r)), .string (bst (Big.de r))]
  rw [hs] at HN
  have HN := Lib.hid HN
  clear hs
  have HB1 := Lib.hid (below_alloc HB0.out (Nat.le_refl _) (.cells #[.bool (Big.ng q), .string (bst (Big.nu q)), .string (bst (Big.de q)), .bool (Big.ng r), .string (bst (Big.nu r)), .string (bst (Big.de r))] 26))
  have HR1 := Lib.hid (HR0.out.alloc' (.cells #[.bool (Big.ng q), .string (bst (Big.nu q)), .string (bst (Big.de q)), .bool (Big.ng r), .string (bst (Big.nu r)), .string (bst (Big.de r))] 26))
  refine (HRD.out _ _ HN.out).mono ?_
  generalize w0.alloc (.cells #[.bool (Big.ng q), .string (bst (Big.nu q)), .string (bst (Big.de q)), .bool (Big.ng r), .string (bst (Big.nu r)), .string (bst (Big.de r))] 26) = wa at *
  rintro e w1 ⟨v1, rfl, ⟨g, a, b, c, d, rfl, hat, hnq, hnr⟩, hw1⟩
  have HB2 := Lib.hid (HB1.out.trans (hw1.mono HB1.out.size))
  have HR2 := Lib.hid (HR1.out.keep hw1)
  obtain ⟨A, l, cc, B, m, dd, e1, -, -⟩ := hnq.is_agg
  obtain ⟨A2, l2, cc2, B2, m2, dd2, e2, -, -⟩ := hnr.is_agg
  simp only [Value.agg.injEq] at e1 e2
  have e1a : a = .slice A l cc := by have := congrArg (fun z : Array Value => z[1]?) e1; simpa using this
  have e1b : b = .slice B m dd := by have := congrArg (fun z : Array Value => z[2]?) e1; simpa using this
  have e2a : c = .slice A2 l2 cc2 := by have := congrArg (fun z : Array Value => z[1]?) e2; simpa using this
  have e2b : d = .slice B2 m2 dd2 := by have := congrArg (fun z : Array Value => z[2]?) e2; simpa using this
  subst e1a e1b e2a e2b
  have KX := Lib.hid (fun W (h : Below w1.heap.size w1 W) => And.intro ((hat.keep h).cell 0 rfl) (And.intro ((hat.keep h).cell 1 rfl) (And.intro ((hat.keep h).cell 2 rfl) (And.intro ((hat.keep h).cell 3 rfl) (And.intro ((hat.keep h).cell 4 rfl) ((hat.keep h).cell 5 rfl))))))
  have hgl := hat.lt
  have KQ := Lib.hid (fun W x y z' (h : Below w1.heap.size w1 W) (_ : g < w1.heap.size) => And.intro (put_cell (g := w1.heap.size) (KX.out W h).1 (by omega) x y z') (And.intro (put_cell (g := w1.heap.size) (KX.out W h).2.1 (by omega) x y z') (And.intro (put_cell (g := w1.heap.size) (KX.out W h).2.2.1 (by omega) x y z') (And.intro (put_cell (g := w1.heap.size) (KX.out W h).2.2.2.1 (by omega) x y z') (And.intro (put_cell (g := w1.heap.size) (KX.out W h).2.2.2.2.1 (by omega) x y z') (put_cell (g := w1.heap.size) (KX.out W h).2.2.2.2.2 (by omega) x y z'))))))
  have CF := Lib.hid (fun W (h : Below w1.heap.size w1 W) => HF.out w1 W _ _ (hnq.keep h) (hnr.keep h) h)
  clear e1 e2 hat hnq hnr hw1 HB1 HR1 HN HRD x0 x1 x2 y0 y1 y2
  go_wp2_with fail
  go_region_held3 (fun w' => w'.cell? ⟨g, 0, none⟩ = some (.bool (Big.ng q)) ∧ w'.cell? ⟨g, 1, none⟩ = some (.slice A l cc) ∧ w'.cell? ⟨g, 2, none⟩ = some (.slice B m dd) ∧ w'.cell? ⟨g, 3, none⟩ = some (.bool (Big.ng r)) ∧ w'.cell? ⟨g, 4, none⟩ = some (.slice A2 l2 cc2) ∧ w'.cell? ⟨g, 5, none⟩ = some (.slice B2 m2 dd2))
    (first | exact KX.out _ (by first | assumption | exact Below.refl _ _ | exact below_drew (Below.refl _ _) | exact below_drew (by assumption) | exact below_drew (below_alloc (Below.refl _ _) (Nat.le_refl _) _) | exact below_alloc (by assumption) (Nat.le_refl _) _ | exact below_alloc (Below.refl _ _) (Nat.le_refl _) _) | exact KX.out _ (below_alloc (by first | assumption | exact Below.refl _ _ | exact below_drew (Below.refl _ _) | exact below_drew (by assumption)) (Nat.le_refl _) _) | exact KQ.out _ _ _ _ (by assumption) hgl)
    (first
      | (go_at_call 32; (with_reducible refine (CF.out _ (by first | assumption | exact Below.refl _ _ | exact below_drew (Below.refl _ _) | exact below_drew (by assumption) | exact below_drew (below_alloc (Below.refl _ _) (Nat.le_refl _) _) | exact below_alloc (by assumption) (Nat.le_refl _) _ | exact below_alloc (Below.refl _ _) (Nat.le_refl _) _)).mono ?_); rintro e w3 ⟨v3, rfl, hv3, hw3, hw3'⟩; obtain ⟨A3, l3, c3, B3, m3, d3, rfl, hq3, hr3⟩ := hv3.is_agg; have hlt3 := hw3.size; try (have R3 := At3.keep (show At3 ((w1.alloc (.cells #[.bool false, .slice none 0 0, .slice none 0 0] 61)).drew) w1.heap.size 61 (.bool false) (.slice none 0 0) (.slice none 0 0) from At3.new w1 _ _ _ _) hw3'; have k0 := R3.c0; have k1 := R3.c1; have k2 := R3.c2; have f0 := R3.frozen 0; have f1 := R3.frozen 1; have f2 := R3.frozen 2))
      | fail)
  all_goals
    have HB3 := HB2.out.trans (hw3.mono HB2.out.size)
    have RW3 := HR2.out.keep hw3
    have hne : w.heap.size + 1 + 1 ≠ w1.heap.size := by have := HR2.out.lt; omega
    have hge : w.heap.size ≤ w1.heap.size := by have := HR2.out.lt; omega
    have HFR := Lib.hid (And.intro HB3 (And.intro RW3 (And.intro hne hge)))
    clear HB3 RW3 hne hge
    go_wp2_with fail
    refine (CA.out _ _ ?_).mono ?_
    · first
        | exact hv3.keep (box1_below _ _)
        | exact hv3.only (NumRes.no_int (show NumRes w3 _ _ from R3)) (put_only _ _ _ _ _)
    rintro e w4 ⟨rfl, hw4⟩
    have R4 : At3 w4 (w.heap.size + 1 + 1) 26 (.bool false) (.string ⟨#[]⟩) (.string ⟨#[]⟩) := by
      first
        | exact (HFR.out.2.1.alloc' _).keep hw4
        | exact (((HFR.out.2.1.far HFR.out.2.2.1 _).far HFR.out.2.2.1 _).far HFR.out.2.2.1 _).keep hw4
    have B4 : Below w.heap.size w w4 := by
      first
        | exact (below_alloc HFR.out.1 (Nat.le_refl _) _).trans (hw4.mono (below_alloc HFR.out.1 (Nat.le_refl _) _).size)
        | exact (put_below HFR.out.1 HFR.out.2.2.2 _ _ _).trans (hw4.mono (put_below HFR.out.1 HFR.out.2.2.2 _ _ _).size)
    unfold fracV
    clear hw4 HFR hv3 hw3 hw3' hq3 hr3 hlt3
    try clear R3 k0 k1 k2 f0 f1 f2
    have HD := Lib.hid (At3.put R4 (.bool (Big.ng z)) (.string (bst (Big.nu z))) (.string (bst (Big.de z))))
    have HE := Lib.hid (put_below B4 (show w.heap.size ≤ w.heap.size + 1 + 1 by omega) (.bool (Big.ng z)) (.string (bst (Big.nu z))) (.string (bst (Big.de z))))
    have k0 := R4.c0; have k1 := R4.c1; have k2 := R4.c2; have f0 := R4.frozen 0; have f1 := R4.frozen 1; have f2 := R4.frozen 2
    clear R4 B4
    go_wp2_with fail
    generalize (((w4.setCell ⟨w.heap.size + 1 + 1, 0, none⟩ (.bool (Big.ng z))).setCell ⟨w.heap.size + 1 + 1, 1, none⟩ (.string (bst (Big.nu z)))).setCell ⟨w.heap.size + 1 + 1, 2, none⟩ (.string (bst (Big.de z)))) = wz at HD HE ⊢
    clear k0 k1 k2 f0 f1 f2
    have r0 := HD.out.c0; have r1 := HD.out.c1; have r2 := HD.out.c2
    exact bodyPost_ret (v := .tuple #[.agg #[.bool (Big.ng z), .string (bst (Big.nu z)), .string (bst (Big.de z))], .int .i64 0]) (by simp [results, Tryd.results31, go_sem, r0, r1, r2]) rfl ⟨rfl, HE.out⟩

set_option maxRecDepth 100000 in
set_option maxHeartbeats 4000000 in
theorem raBetween_fit (w : World) (q r : Rat) (hq : Fit q) (hr : Fit r) (h0 : q < r) (hz : Fit (Big.simplest q r)) :
    Calls Tryd.prog 8 #[.agg #[.bool (Big.ng q), .string (bst (Big.nu q)), .string (bst (Big.de q))], .agg #[.bool (Big.ng r), .string (bst (Big.nu r)), .string (bst (Big.de r))]] w (Ret2 w (fracV (Big.simplest q r)) 0) := by
  have sz : Sm 130 (Big.simplest q r) := simplest_sm hq.sm hr.sm h0
  have C := Lib.hid (fun W => reckonBetween_fit W q r (Big.simplest q r) _ hq hr hz sz (by omega) (fun b W' v u h i hb => Between1_any b W' v u q r h i hq.sm hr.sm h0 hb))
  obtain ⟨X0, Y0, R0, B0⟩ := boxed3 w 26 26 (.bool (Big.ng q)) (.string (bst (Big.nu q))) (.string (bst (Big.de q))) (.bool (Big.ng r)) (.string (bst (Big.nu r))) (.string (bst (Big.de r))) (.bool false) (.string ⟨#[]⟩) (.string ⟨#[]⟩)
  have HR0 := Lib.hid R0; have HB0 := Lib.hid B0
  clear X0 Y0 R0 B0 hq hr hz sz h0
  obtain ⟨Z, hZ⟩ : ∃ Z, Big.simplest q r = Z := ⟨_, rfl⟩
  rw [hZ] at C ⊢
  clear hZ
  go_enter Tryd.func8, Tryd.ntmps8
  go_wp2_with fail
  refine (C.out _).mono ?_
  generalize ((w.alloc (.cells #[.bool (Big.ng q), .string (bst (Big.nu q)), .string (bst (Big.de q))] 26)).alloc (.cells #[.bool (Big.ng r), .string (bst (Big.nu r)), .string (bst (Big.de r))] 26)).alloc (.cells #[.bool false, .string ⟨#[]⟩, .string ⟨#[]⟩] 26) = w0 at *
  rintro e w4 ⟨rfl, hw4⟩
  unfold fracV
  have R4 := HR0.out.keep hw4
  have HD := Lib.hid (At3.put R4 (.bool (Big.ng Z)) (.string (bst (Big.nu Z))) (.string (bst (Big.de Z))))
  have HE := Lib.hid (put_below (HB0.out.trans (hw4.mono HB0.out.size)) (show w.heap.size ≤ w.heap.size + 1 + 1 by omega) (.bool (Big.ng Z)) (.string (bst (Big.nu Z))) (.string (bst (Big.de Z))))
  have k0 := R4.c0; have k1 := R4.c1; have k2 := R4.c2; have f0 := R4.frozen 0; have f1 := R4.frozen 1; have f2 := R4.frozen 2
  clear R4 hw4 HR0 HB0 C
  go_wp2_with fail
  generalize (((w4.setCell ⟨w.heap.size + 1 + 1, 0, none⟩ (.bool (Big.ng Z))).setCell ⟨w.heap.size + 1 + 1, 1, none⟩ (.string (bst (Big.nu Z)))).setCell ⟨w.heap.size + 1 + 1, 2, none⟩ (.string (bst (Big.de Z)))) = wz at HD HE ⊢
  clear k0 k1 k2 f0 f1 f2
  have r0 := HD.out.c0; have r1 := HD.out.c1; have r2 := HD.out.c2
  exact bodyPost_ret (v := .tuple #[.agg #[.bool (Big.ng Z), .string (bst (Big.nu Z)), .string (bst (Big.de Z))], .int .i64 0]) (by simp [results, Tryd.results8, go_sem, r0, r1, r2]) rfl ⟨rfl, HE.out⟩

end Go.Proofs.YtgdcahdnojaebaaDoor
