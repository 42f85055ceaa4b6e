/- Contracts. -/
import Derived.Test.YtnlhjcfpfapafaaGreatDoorPOq15
import Derived.Test.YtnlhjcfpfapafaaGreatDoorPOq21
import Derived.Lib.ItoaMem
import Derived.Test.YtnlhjcfpfapafaaGreatDoorPOq26
import Derived.Test.YtnlhjcfpfapafaaGreatDoorPOq20
import Derived.Test.YtnlhjcfpfapafaaGreatDoorPOq14
import Derived.Laws.MakeOwn
namespace Go.Proofs.YtnlhjcfpfapafaaGreatDoor
open Go.RowKit
set_option maxRecDepth 100000 in
set_option maxHeartbeats 4000000 in
theorem J9 (w : World) (n : Int) (h0 : -9223372036854775808 ≤ n) (h1 : n ≤ 9223372036854775807) :
  Calls Tryz.prog 43 #[.int .i64 n] w (ZbW w n.natAbs) := by
 have hM : n.natAbs < Big.M64 := by unfold Big.M64; omega
 have C := Lib.hid (Zhm w n.natAbs hM)
 clear hM
 by_cases hn : n < 0
 ·obtain ⟨u, rfl⟩ : ∃ u : Nat, n = -(u : Int) := ⟨n.natAbs, by omega⟩
  have e : (-(u : Int)).natAbs = u := by omega
  rw [e] at C ⊢
  have hwr : IntKind.u64.wrap (-IntKind.u64.wrap (-(u : Int))) = (u : Int) := by rw [IntKind.wrap_u64, IntKind.wrap_u64]; omega
  clear e
  go_enter Tryz.func43, Tryz.ntmps43
  go_wp2_with fail
  refine C.out.mono ?_
  rintro e w' ⟨v', rfl, hv, hb⟩
  go_wp2_with fail
  go_ret
  exact ⟨_, rfl, hv, hb⟩
 ·obtain ⟨u, rfl⟩ : ∃ u : Nat, n = (u : Int) := ⟨n.natAbs, by omega⟩
  have e : ((u : Int)).natAbs = u := by omega
  rw [e] at C ⊢
  clear e
  go_enter Tryz.func43, Tryz.ntmps43
  go_wp2_with fail
  refine C.out.mono ?_
  rintro e w' ⟨v', rfl, hv, hb⟩
  go_wp2_with fail
  go_ret
  exact ⟨_, rfl, hv, hb⟩
def Zot (w : World) (v : Value) (n : Int) (e : Ending) (w' : World) : Prop := e = .returned (.tuple #[v, .int .i64 n]) ∧ Below w.heap.size w w'
set_option maxRecDepth 100000 in
set_option maxHeartbeats 4000000 in
theorem ZdR (w : World) (vx : Value) (q : Rat) (k : Nat) (hx : YR w vx q) (sx : Sm k q) (hk : k ≤ 10000000) (hf : Fit q) :
  Calls Tryz.prog 41 #[vx] w (Zot w (Jv q) 0) := by
 have SX := Lib.hid sx; have HF := Lib.hid hf
 obtain ⟨A, l, c, A2, l2, c2, rfl, hx1, hx2⟩ := hx.is_agg
 have HX := Lib.hid (And.intro hx1 hx2)
 have HQ := Lib.hid hx
 obtain ⟨X0, R0, B0⟩ := Zdk w 60 31 (.bool (Big.ng q)) (.slice A l c) (.slice A2 l2 c2) (.bool false) (.string ⟨#[]⟩) (.string ⟨#[]⟩)
 have HR0 := Lib.hid R0; have HB0 := Lib.hid B0
 have x0 := X0.c0; have x1 := X0.c1; have x2 := X0.c2
 have C := Lib.hid (fun W (h : Below w.heap.size w W) => JM W _ q k (HQ.out.keep h) SX.out hk HF.out)
 clear hx hx1 hx2 sx X0 R0 B0 hf
 go_enter Tryz.func41, Tryz.ntmps41
 go_wp2_with fail
 refine (C.out _ HB0.out).mono ?_
 generalize (w.alloc (.cells #[.bool (Big.ng q), .slice A l c, .slice A2 l2 c2] 60)).alloc (.cells #[.bool false, .string ⟨#[]⟩, .string ⟨#[]⟩] 31) = w0 at *
 rintro e w1 ⟨rfl, hw1⟩
 unfold Jv
 have HB1 := Lib.hid (HB0.out.trans (hw1.mono HB0.out.size))
 have R1 := HR0.out.keep hw1
 have hlt := R1.lt
 have HD := Lib.hid ((At3.put R1 (.bool (Big.ng q)) (.string (bst (Big.nu q))) (.string (bst (Big.de q)))).alloc' (.cells #[.bool (Big.ng q), .string (bst (Big.nu q)), .string (bst (Big.de q))] 31))
 have HE := Lib.hid (YN (X8 HB1.out (show w.heap.size ≤ w.heap.size + 1 by omega) (.bool (Big.ng q)) (.string (bst (Big.nu q))) (.string (bst (Big.de q)))) (Nat.le_refl _) (.cells #[.bool (Big.ng q), .string (bst (Big.nu q)), .string (bst (Big.de q))] 31))
 have k0 := R1.c0; have k1 := R1.c1; have k2 := R1.c2; have f0 := R1.frozen 0; have f1 := R1.frozen 1; have f2 := R1.frozen 2
 clear R1 hw1 x0 x1 x2 HR0 C
 go_wp2_with fail
 generalize ((((w1.setCell ⟨w.heap.size + 1, 0, none⟩ (.bool (Big.ng q))).setCell ⟨w.heap.size + 1, 1, none⟩ (.string (bst (Big.nu q)))).setCell ⟨w.heap.size + 1, 2, none⟩ (.string (bst (Big.de q)))).alloc (.cells #[.bool (Big.ng q), .string (bst (Big.nu q)), .string (bst (Big.de q))] 31)) = wz at HD HE ⊢
 clear k0 k1 k2 f0 f1 f2
 have r0 := HD.out.c0; have r1 := HD.out.c1; have r2 := HD.out.c2
 exact bodyPost_ret (v := .tuple #[.agg #[.bool (Big.ng q), .string (bst (Big.nu q)), .string (bst (Big.de q))], .int .i64 0]) (by simp [results, Tryz.results41, go_sem, r0, r1, r2]) rfl ⟨rfl, HE.out⟩
def ofQ (n d : Int) : Rat := mkRat (Big.sI (decide (n < 0) != decide (d < 0)) n.natAbs) d.natAbs
theorem Zit {n d : Int} {k : Nat} (hn : n.natAbs < 256 ^ k) (hd : d.natAbs < 256 ^ k) (h0 : d ≠ 0) : By k (ofQ n d) := by
 obtain ⟨_, p2, p3⟩ := Big.of_parts (decide (n < 0) != decide (d < 0)) n.natAbs d.natAbs (by omega)
 unfold ofQ
 exact ⟨by rw [p2]; exact Nat.lt_of_le_of_lt (Nat.div_le_self _ _) hn, by rw [p3]; exact Nat.lt_of_le_of_lt (Nat.div_le_self _ _) hd⟩
set_option maxRecDepth 100000 in
set_option maxHeartbeats 4000000 in
theorem Ziu (w : World) (n d : Int) (h0 : -9223372036854775808 ≤ n) (h1 : n ≤ 9223372036854775807) (h2 : -9223372036854775808 ≤ d) (h3 : d ≤ 9223372036854775807) (hd : d ≠ 0) :
  Calls Tryz.prog 19 #[.int .i64 n, .int .i64 d] w (Zot w (Jv (ofQ n d)) 0) := by
 have hb : By 8 (ofQ n d) := Zit (by omega) (by omega) hd
 have HF := Lib.hid (hb.fit (by omega))
 have C1 := Lib.hid (fun W => J9 W n h0 h1)
 have C2 := Lib.hid (fun W => J9 W d h2 h3)
 have z1 : Sz 1 n.natAbs := Zew (by unfold Big.M64; omega)
 have z2 : Sz 1 d.natAbs := Zew (by unfold Big.M64; omega)
 have C3 := Lib.hid (fun W b v u (h : Zj W v n.natAbs) (i : Zj W u d.natAbs) => Zhu W b v u n.natAbs d.natAbs 1 1 h i z1 z2 (by omega) (by omega) (by omega))
 have C4 := Lib.hid (fun W v (h : YR W v (ofQ n d)) => ZdR W v _ 64 h HF.out.sm (by omega) HF.out)
 have hd0 : (d == 0) = false := beq_eq_false_iff_ne.2 hd
 have HOF := Lib.hid (show ofQ n d = mkRat (Big.sI (!(decide (n < 0) == decide (d < 0))) n.natAbs) d.natAbs from rfl)
 have HR0 := Lib.hid (At3.new w 31 (.bool false) (.string ⟨#[]⟩) (.string ⟨#[]⟩))
 have HB0 := Lib.hid (VN w (.cells #[.bool false, .string ⟨#[]⟩, .string ⟨#[]⟩] 31))
 clear hb z1 z2 hd h0 h1 h2 h3
 obtain ⟨Q, hQ⟩ : ∃ Q, ofQ n d = Q := ⟨_, rfl⟩
 rw [hQ] at HF C4 HOF ⊢
 clear hQ
 go_enter Tryz.func19, Tryz.ntmps19
 go_wp2_with fail
 generalize w.alloc (.cells #[.bool false, .string ⟨#[]⟩, .string ⟨#[]⟩] 31) = w0 at *
 refine (C1.out _).mono ?_
 rintro e w1 ⟨v1, rfl, hv1, hw1⟩
 go_wp2_with fail
 refine (C2.out _).mono ?_
 rintro e w2 ⟨v2, rfl, hv2, hw2⟩
 go_wp2_with fail
 refine (C3.out _ _ _ _ (hv1.keep hw2) hv2).mono ?_
 rintro e w3 ⟨v3, rfl, hv3, hw3⟩
 rw [← HOF.out] at hv3
 go_wp2_with fail
 refine (C4.out _ _ hv3).mono ?_
 rintro e w4 ⟨rfl, hw4⟩
 unfold Jv
 have b1 := HB0.out.trans (hw1.mono HB0.out.size)
 have b2 := b1.trans (hw2.mono b1.size)
 have b3 := b2.trans (hw3.mono b2.size)
 have b4 := b3.trans (hw4.mono b3.size)
 have R4 := (((HR0.out.keep hw1).keep hw2).keep hw3).keep hw4
 have HD := Lib.hid (At3.put R4 (.bool (Big.ng Q)) (.string (bst (Big.nu Q))) (.string (bst (Big.de Q))))
 have HE := Lib.hid (X8 b4 (Nat.le_refl _) (.bool (Big.ng Q)) (.string (bst (Big.nu Q))) (.string (bst (Big.de Q))))
 have k0 := R4.c0; have k1 := R4.c1; have k2 := R4.c2; have f0 := R4.frozen 0; have f1 := R4.frozen 1; have f2 := R4.frozen 2
 clear R4 b1 b2 b3 b4 hw1 hw2 hw3 hw4 hv1 hv2 hv3 C1 C2 C3 C4 HOF HR0 HB0
 go_wp2_with fail
 generalize (((w4.setCell ⟨w.heap.size, 0, none⟩ (.bool (Big.ng Q))).setCell ⟨w.heap.size, 1, none⟩ (.string (bst (Big.nu Q)))).setCell ⟨w.heap.size, 2, none⟩ (.string (bst (Big.de Q)))) = wz at HD HE ⊢
 clear k0 k1 k2 f0 f1 f2
 have r0 := HD.out.c0; have r1 := HD.out.c1; have r2 := HD.out.c2
 exact bodyPost_ret (v := .tuple #[.agg #[.bool (Big.ng Q), .string (bst (Big.nu Q)), .string (bst (Big.de Q))], .int .i64 0]) (by simp [results, Tryz.results19, go_sem, r0, r1, r2]) rfl ⟨rfl, HE.out⟩
end Go.Proofs.YtnlhjcfpfapafaaGreatDoor
namespace Go.Proofs.YtnlhjcfpfapafaaGreatDoor
open Go Go.RowKit
namespace Ev
set_option maxRecDepth 100000
theorem Ze0 {q : Rat} (h : q.den = 1) : ofQ q.num 1 = q := by
 have hq : q = (q.num : Rat) := by
  apply Rat.ext
  ·simp
  ·simp [h]
 unfold ofQ
 have hd : (decide (q.num < 0) != decide ((1 : Int) < 0)) = decide (q.num < 0) := by
  rw [show decide ((1 : Int) < 0) = false from rfl]
  cases decide (q.num < 0) <;> rfl
 rw [hd, show (1 : Int).natAbs = 1 from rfl]
 have hs : Big.sI (decide (q.num < 0)) q.num.natAbs = q.num := by
  unfold Big.sI
  by_cases h0 : q.num < 0
  ·simp [h0]; omega
  ·simp [h0]; omega
 rw [hs]
 conv => rhs; rw [hq]
 rw [Rat.mkRat_one]
noncomputable def Zni (v : Value) : Bool := match v with
 | .int k z => match k with
  | .i64 => eqI z 1
  | _ => false
 | _ => false
theorem Ze1 {v : Value} (h : Zni v = true) : v = .int .i64 1 := by
 cases v <;> first | (cases h; done) | skip
 rename_i k z
 cases k <;> first | (cases h; done) | skip
 rw [Z2 (show eqI z 1 = true from h)]
noncomputable def ofS : Nat × (List Value → Option (M Sy Value)) := (19, fun args => match args with
 | [a, b] => some (bind (fact a) fun f => match f with
  | .iz k e => cond (Nat.beq k 0 && Zni b) (bind (ZG [.ng e, .fn e, .fd e]) fun vs => ret (.tuple ⟨[.agg ⟨vs⟩, .int .i64 0]⟩)) fail
  | _ => fail)
 | _ => none)
theorem Znj {ρ : Env} : Z3 (Zf ρ) Tryz.prog ofS.1 ofS.2 := by
 intro args m hm
 rcases args with _ | ⟨a, _ | ⟨b, _ | ⟨c, l⟩⟩⟩ <;> first | (cases (show none = some m from hm); done) | skip
 cases hm
 refine ⟨Zb (ZA _) fun f => ?_, fun h nx v h' nx' R W e r w args' hv hM hN => ?_⟩
 ·split
  ·exact Ze (Zb (ZC _) fun _ => Zg _) Za
  ·exact Za
 ·cases hv with
  | cons h1 hv => cases hv with
   | cons h2 h3 =>
    cases h3
    obtain ⟨f, g1, nx1, R1, W1, R2, W2, e1, e2, rfl, rfl⟩ := Zc e
    obtain ⟨rfl, rfl, rfl, hf⟩ := ZB e1 h1 hM
    cases f <;> first | (cases (show (fail : M Sy Value) _ _ = _ from e2); done) | skip
    rename_i k q
    obtain ⟨hk, e3⟩ := Zi e2
    simp only [Bool.and_eq_true] at hk
    obtain rfl := Nat.eq_of_beq_eq_true hk.1
    obtain rfl := Ze1 hk.2
    have hb := h2.int
    subst hb
    obtain ⟨i1, i2, i3, i4⟩ := (show JQ 0 (q.ev ρ.q) _ from hf)
    rw [i1]
    have c0 := Ziu w (q.ev ρ.q).num 1 i3 i4 (by decide) (by decide) (by decide)
    rw [Ze0 i2] at c0
    have := U5 (u := .int .i64 0) (f := 19) (args' := [.int .i64 (q.ev ρ.q).num, .int .i64 1]) rfl e3 hM hN (c0.mono fun en w' hr => by
     obtain ⟨h5, h6⟩ := hr
     exact ⟨_, h5, VP q, h6⟩)
    simp only [List.nil_append]
    exact this
def Zcl : Code → Nat
 | .seq a _ => Zcl a
 | .region _ ops _ => ops.size
 | .scope c => Zcl c
 | .block _ c => Zcl c
 | _ => 0
noncomputable def ofF : Nat := 6
noncomputable def Zf8 : List Nat := [0, 3]
noncomputable def Uq (x : Sy) : List (Sl Sy) := [.f (.ls 2 0), .f x]
noncomputable def o1B : List Ix := [.ln 0 1, .bd 7, .lt 0 0 7 0 true, .lt 7 (-1) 0 0 false, .lt 7 (-1) 1 0 true, .el 0 7 (-1) (.v 3)]
noncomputable def Zbf (A : List As) : WE Sy := Xi (Xj (ofS :: QV A))
theorem Vq {ρ : Env} {A : List As} (hA : Yd ρ A) : SumOK (Zf ρ) Tryz.prog (Zbf A) := YO fun x hx => by
 rcases List.mem_cons.1 hx with rfl | hx
 ·exact Znj
 ·exact JS hA x hx
noncomputable def Zf9 (kp : Bool) (A : List As) (B : List Ix) (n : Nat) : Cl Sy := ⟨Vw Tryz.prog (Yo kp A B noJ) (Zbf A) n, [], fun _ => none⟩
theorem Ze2 {ρ : Env} {kp : Bool} {A : List As} {B : List Ix} {n : Nat} (hA : Yd ρ A) (hB : ZD ρ B) : ClOK (Zf ρ) Tryz.prog (Zf9 kp A B n) :=
 have h := X4 (C := Yo kp A B noJ) (YW hA hB) (.none rfl) (Vq hA) n
 ⟨⟨h.1, by intro x hx; simp [Zf9] at hx, fun x m e => (by cases e)⟩, h.2⟩
set_option maxHeartbeats 4000000 in
theorem Ziv : WU Tryz.prog (Yo false Zk1 o1B noJ) (Zf9 false Zk1 o1B 20) 42 20 Yl Zf8 (Uq (.ix 7 0)) (Uq (.ix 7 (-1))) (ZL ofF 0) = true := by kernel_rfl
noncomputable def Zga : List Nat := [4, 0, 25, 26]
noncomputable def Ur (l : Le) (x : Sl Sy) : List (Sl Sy) := [.ow (.ol 0 l (some (6, 0))), .f (.ls 2 0), .f (.ix 6 0), x]
noncomputable def o2B : List Ix := [.ln 0 1, .ln 1 2, .bd 2, .lt 2 0 6 0 true, .lt 2 0 1 0 true, .el 0 2 0 (.v 2)]
set_option maxHeartbeats 4000000 in
theorem Ziw : WU Tryz.prog (Yo false [] o2B noJ) (Zf9 false [] o2B 20) 42 20 Yl Zga (Ur (.v 1) (.f (.ix 2 0))) (Ur (.snoc (.v 1) (.v 2)) (.f (.ix 2 1))) (ZL ofF 1) = true := by kernel_rfl
noncomputable def ofJ : J6 := fun f x => cond (Nat.beq f ofF) (cond (Nat.beq (Zcl x) 10) (some (Z9 Yl 42 Zf8 (Uq (.ix 1 0)) (Uq (.ix 6 0)))) (some (Z9 Yl 42 Zga (Ur .nil (.p (.int .i64 0))) (Ur (.v 5) (.f (.ix 6 0)))))) none
noncomputable def Ky (p : Bool) : List As := cond p [⟨1, .v 4, z0, false⟩] []
noncomputable def Zix (p : Bool) : List Ix := cond p [.ln 0 1, .bd 6, .lt 0 33 6 0 false, .lt 0 0 6 0 true, .lt 6 (-1) 0 0 false, .lt 6 (-1) 1 0 true, .el 0 6 (-1) (.v 4)] [.ln 0 1, .bd 6, .lt 0 33 6 0 false, .lt 0 0 6 0 false]
set_option maxHeartbeats 4000000 in
theorem Ziy (p : Bool) : tells [.ls 2 0] [.one] (call Tryz.prog (Yo false (Ky p) (Zix p) ofJ) (Zbf (Ky p)) 20 ofF) = some (.one (.one (.ow (.ol 0 (.v 5) (some (6, 0)))))) := by cases p <;> kernel_rfl
theorem Znk : ∃ fn c, (Tryz.prog).funcs[ofF]? = some fn ∧ fn.body = some c ∧ fn.ntmps = 42 ∧ ZS c = [ZL ofF 0, ZL ofF 1] ∧ Nat.beq (Zcl (ZL ofF 0)) 10 = true ∧ Nat.beq (Zcl (ZL ofF 1)) 10 = false := ⟨_, _, rfl, rfl, rfl, rfl, rfl, rfl⟩
def Znl (qs : List Rat) (k m : Nat) : Nat → Rat
 | 2 => qs.getD k 0
 | 4 => qs.getD (m - 1) 0
 | _ => 0
theorem Zcm {qs : List Rat} (hq : ∀ q ∈ qs, Fit q) (k m i : Nat) : Fit (Znl qs k m i) := by
 unfold Znl
 split
 ·exact WY hq _
 ·exact WY hq _
 ·exact Un
def ofNat (c k j m : Nat) : Nat → Nat
 | 1 => c
 | 2 => k
 | 6 => m
 | 7 => c - j
 | _ => 0
def Zou (qs : List Rat) (k m : Nat) : Nat → List Rat
 | 0 => qs
 | 1 => qs.take k
 | 5 => qs.take m
 | _ => []
def Ys (qs : List Rat) (hq : ∀ q ∈ qs, Fit q) (lo k j m : Nat) : Env := ⟨Znl qs k m, fun _ => (false, ⟨#[]⟩, ⟨#[]⟩), fun i _ => Zcm hq k m i, fun i => (Zcm hq k m i).sm.up (by decide), fun _ => Wc, lo, Zou qs k m, ofNat qs.length k j m, rfl⟩
theorem Zbg {b : Bool} {m : Tr Value → M Sy (Tr Value)} {o : Option (Tr Value → M Sy (Tr Value))} (h : cond b o none = some m) : b = true ∧ o = some m := by
 cases b with
 | true => exact ⟨rfl, h⟩
 | false => cases h
section
variable {qs : List Rat} (hq : ∀ q ∈ qs, Fit q) (lo : Nat) {m : Nat}
theorem Znm (hn : qs.length ≤ 10000) (ht : TrimAt qs m) : X3 (Zf (Ys qs hq lo 0 0 m)) Tryz.prog 42 (ZL ofF 0) (Z9 Yl 42 Zf8 (Uq (.ix 1 0)) (Uq (.ix 6 0))) := by
 have hm := ht.le
 refine @Za7 Sy (Zf (Ys qs hq lo 0 0 m)) Tryz.prog Yl YH 42 (ZL ofF 0) Zf8 (Uq (.ix 1 0)) (Uq (.ix 7 0)) (Uq (.ix 7 (-1))) (Uq (.ix 6 0)) (qs.length - m) (fun j => Zf (Ys qs hq lo 0 j m)) (fun k => ⟨rfl, rfl, rfl⟩) rfl rfl rfl rfl ?_ ?_ ?_ ?_
 ·intro w vs h
  obtain ⟨v1, l1, rfl, a1, v2, l2, rfl, a2, rfl⟩ := h
  exact ⟨v1, _, rfl, a1, v2, _, rfl, ⟨a2.1, a2.2⟩, rfl⟩
 ·intro j hj w vs h
  obtain ⟨v1, l1, rfl, a1, v2, l2, rfl, a2, rfl⟩ := h
  refine ⟨v1, _, rfl, a1, v2, _, rfl, ⟨?_, a2.2⟩, rfl⟩
  have h2 : v2 = .int .i64 (((qs.length - j : Nat) : Int) + (-1)) := a2.1
  show v2 = .int .i64 (((qs.length - (j + 1) : Nat) : Int) + 0)
  rw [h2]; congr 1; omega
 ·intro w vs h
  obtain ⟨v1, l1, rfl, a1, v2, l2, rfl, a2, rfl⟩ := h
  refine ⟨v1, _, rfl, a1, v2, _, rfl, ⟨?_, a2.2⟩, rfl⟩
  have h2 : v2 = .int .i64 (((qs.length - (qs.length - m) : Nat) : Int) + 0) := a2.1
  show v2 = .int .i64 (((m : Nat) : Int) + 0)
  rw [h2]; congr 1; omega
 ·intro j hj ro d B0 D0 a w hAt
  have hA : Yd (Ys qs hq lo 0 j m) Zk1 := fun x hx => by
   simp only [Zk1, List.mem_cons, List.not_mem_nil, or_false] at hx
   subst hx
   exact ⟨fun _ => rfl, fun _ => rfl⟩
  have hB : ZD (Ys qs hq lo 0 j m) o1B := fun x hx => by
   simp only [o1B, List.mem_cons, List.not_mem_nil, or_false] at hx
   rcases hx with rfl | rfl | rfl | rfl | rfl | rfl
   ·rfl
   ·show qs.length - j ≤ 10000
    omega
   ·show true = true ↔ ((0 : Nat) : Int) + 0 < ((qs.length - j : Nat) : Int) + 0
    exact ⟨fun _ => by omega, fun _ => rfl⟩
   ·show false = true ↔ ((qs.length - j : Nat) : Int) + (-1) < ((0 : Nat) : Int) + 0
    exact ⟨fun h => (by cases h), fun h => by omega⟩
   ·show true = true ↔ ((qs.length - j : Nat) : Int) + (-1) < ((qs.length : Nat) : Int) + 0
    exact ⟨fun _ => by omega, fun _ => rfl⟩
   ·refine ⟨qs.length - j - 1, ?_, ?_⟩
    ·show ((qs.length - j - 1 : Nat) : Int) = ((qs.length - j : Nat) : Int) + (-1)
     omega
    ·exact ht.zero (qs.length - j - 1) (by omega) (by omega)
  exact Xx (C := Yo false _ _ noJ) (call := Zf9 false _ _ 20) (fuel := 20) (YW hA hB) (Ze2 hA hB) rfl (fun y _ m e => by cases e) YH Ziv Zf4 hAt
theorem Znn (hn : qs.length ≤ 10000) (ht : TrimAt qs m) : X3 (Zf (Ys qs hq lo 0 0 m)) Tryz.prog 42 (ZL ofF 1) (Z9 Yl 42 Zga (Ur .nil (.p (.int .i64 0))) (Ur (.v 5) (.f (.ix 6 0)))) := by
 have hm := ht.le
 refine @Za7 Sy (Zf (Ys qs hq lo 0 0 m)) Tryz.prog Yl YH 42 (ZL ofF 1) Zga (Ur .nil (.p (.int .i64 0))) (Ur (.v 1) (.f (.ix 2 0))) (Ur (.snoc (.v 1) (.v 2)) (.f (.ix 2 1))) (Ur (.v 5) (.f (.ix 6 0))) m (fun k => Zf (Ys qs hq lo k 0 m)) (fun k => ⟨rfl, rfl, rfl⟩) rfl rfl rfl rfl ?_ ?_ ?_ ?_
 ·intro w vs h
  obtain ⟨v1, l1, rfl, a1, v2, l2, rfl, a2, v3, l3, rfl, a3, v4, l4, rfl, a4, rfl⟩ := h
  refine ⟨v1, _, rfl, ⟨?_, a1.2⟩, v2, _, rfl, a2, v3, _, rfl, a3, v4, _, rfl, ⟨?_, ?_⟩, rfl⟩
  ·exact Yq.env (l' := .v 1) (z' := some (6, 0)) (show Yq _ 0 .nil (some (6, 0)) w v1 from a1.1) rfl rfl
  ·rw [show v4 = .int .i64 0 from a4]; rfl
  ·rw [show v4 = .int .i64 0 from a4]; rfl
 ·intro k hk w vs h
  obtain ⟨v1, l1, rfl, a1, v2, l2, rfl, a2, v3, l3, rfl, a3, v4, l4, rfl, a4, rfl⟩ := h
  refine ⟨v1, _, rfl, ⟨?_, a1.2⟩, v2, _, rfl, a2, v3, _, rfl, a3, v4, _, rfl, ⟨?_, a4.2⟩, rfl⟩
  ·refine Yq.env (ρ := Ys qs hq lo k 0 m) (l' := .v 1) (z' := some (6, 0)) (show Yq _ 0 (.snoc (.v 1) (.v 2)) (some (6, 0)) w v1 from a1.1) ?_ rfl
   show qs.take (k + 1) = qs.take k ++ [qs.getD k 0]
   rw [List.take_add_one, List.getD_eq_getElem?_getD, List.getElem?_eq_getElem (by omega)]; rfl
  ·have h4 : v4 = .int .i64 (((k : Nat) : Int) + 1) := a4.1
   show v4 = .int .i64 (((k + 1 : Nat) : Int) + 0)
   rw [h4]; congr 1
 ·intro w vs h
  obtain ⟨v1, l1, rfl, a1, v2, l2, rfl, a2, v3, l3, rfl, a3, v4, l4, rfl, a4, rfl⟩ := h
  refine ⟨v1, _, rfl, ⟨?_, a1.2⟩, v2, _, rfl, a2, v3, _, rfl, a3, v4, _, rfl, ⟨a4.1, a4.2⟩, rfl⟩
  exact Yq.env (ρ := Ys qs hq lo m 0 m) (l' := .v 5) (z' := some (6, 0)) (show Yq _ 0 (.v 1) (some (6, 0)) w v1 from a1.1) rfl rfl
 ·intro k hk ro d B0 D0 a w hAt
  have hA : Yd (Ys qs hq lo k 0 m) [] := fun x hx => by simp at hx
  have hB : ZD (Ys qs hq lo k 0 m) o2B := fun x hx => by
   simp only [o2B, List.mem_cons, List.not_mem_nil, or_false] at hx
   rcases hx with rfl | rfl | rfl | rfl | rfl | rfl
   ·rfl
   ·show (qs.take k).length = k
    rw [List.length_take]; omega
   ·show k ≤ 10000
    omega
   ·show true = true ↔ ((k : Nat) : Int) + 0 < ((m : Nat) : Int) + 0
    exact ⟨fun _ => by omega, fun _ => rfl⟩
   ·show true = true ↔ ((k : Nat) : Int) + 0 < ((qs.length : Nat) : Int) + 0
    exact ⟨fun _ => by omega, fun _ => rfl⟩
   ·refine ⟨k, ?_, ?_⟩
    ·show ((k : Nat) : Int) = ((k : Nat) : Int) + 0
     omega
    ·show qs[k]? = some (qs.getD k 0)
     rw [List.getD_eq_getElem?_getD, List.getElem?_eq_getElem (by omega)]; rfl
  exact Xx (C := Yo false _ _ noJ) (call := Zf9 false _ _ 20) (fuel := 20) (YW hA hB) (Ze2 hA hB) rfl (fun y _ m e => by cases e) YH Ziw Zf4 hAt
theorem ZdS {kp : Bool} {A : List As} {B : List Ix} (hn : qs.length ≤ 10000) (ht : TrimAt qs m) : JmpAll (Zf (Ys qs hq lo 0 0 m)) Tryz.prog (Yo kp A B ofJ) := by
 refine ⟨fun f x m e ts => ?_, fun f fn c x m hf hb hx e => ?_⟩
 ·rcases Zbg (show cond (Nat.beq f ofF) (cond (Nat.beq (Zcl x) 10) (some (Z9 Yl 42 Zf8 (Uq (.ix 1 0)) (Uq (.ix 6 0)))) (some (Z9 Yl 42 Zga (Ur .nil (.p (.int .i64 0))) (Ur (.v 5) (.f (.ix 6 0)))))) none = some m from e) with ⟨_, e2⟩
  rcases J8 e2 with ⟨_, rfl⟩ | ⟨_, e3⟩
  ·exact Xy _ _ _ _ _
  ·cases e3; exact Xy _ _ _ _ _
 ·rcases Zbg (show cond (Nat.beq f ofF) (cond (Nat.beq (Zcl x) 10) (some (Z9 Yl 42 Zf8 (Uq (.ix 1 0)) (Uq (.ix 6 0)))) (some (Z9 Yl 42 Zga (Ur .nil (.p (.int .i64 0))) (Ur (.v 5) (.f (.ix 6 0)))))) none = some m from e) with ⟨h1, e2⟩
  obtain rfl := Nat.eq_of_beq_eq_true h1
  obtain ⟨fn0, c0, q1, q2, q3, q4, q5, q6⟩ := Znk
  have hf' : (Tryz.prog).funcs[ofF]? = some fn := hf
  rw [q1] at hf'
  cases hf'
  rw [q2] at hb
  cases hb
  rw [q4] at hx
  rw [q3]
  simp only [List.mem_cons, List.not_mem_nil, or_false] at hx
  rcases hx with rfl | rfl
  ·rw [q5] at e2
   cases e2
   exact @Znm qs hq lo _ hn ht
  ·rw [q6] at e2
   cases e2
   exact @Znn qs hq lo _ hn ht
end
theorem ZdT (w : World) {qs : List Rat} (hq : ∀ q ∈ qs, Fit q) (hn : qs.length ≤ 10000) {m : Nat} (ht : TrimAt qs m) (h33 : m ≤ 33) {v : Value} (hv : LsIn 2 w v qs) (hG : Tryz.prog.globals.size ≤ w.heap.size) (hT : Zn.base w) :
  Calls Tryz.prog ofF ⟨[v]⟩ w fun e w' => ∃ u, e = .returned u ∧ NewOl 0 w w' u (qs.take m) ∧ Below w.heap.size w w' := by
 have hm := ht.le
 have hu : Yz (Zf (Ys qs hq w.heap.size 0 0 m)) w [.ls 2 0] [v] := ⟨v, [], rfl, LsIn.ls hv rfl, by obtain ⟨a, m, rfl, _⟩ := hv; rfl, rfl⟩
 have post : ∀ {e : Ending} {w' : World}, (∃ v', e = .returned v' ∧ (D3.one (.one (.ow (.ol 0 (.v 5) (some (6, 0))))) : D3 Sy).is (Zf (Ys qs hq w.heap.size 0 0 m)) w' v' ∧ Below w.heap.size w w') →
   ∃ u, e = .returned u ∧ NewOl 0 w w' u (qs.take m) ∧ Below w.heap.size w w' := by
  rintro e w' ⟨v', rfl, h1, hb⟩
  exact ⟨v', rfl, J7 (ρ := Ys qs hq w.heap.size 0 0 m) rfl h1 rfl (fun p hp => by
   cases hp
   show (((qs.take m).length : Nat) : Int) = ((m : Nat) : Int) + 0
   rw [List.length_take]; omega), hb⟩
 have c1 : m ≤ 10000 := by omega
 have c2 : false = true ↔ ((0 : Nat) : Int) + 33 < ((m : Nat) : Int) + 0 := ⟨fun h => (by cases h), fun h => by omega⟩
 rcases Nat.eq_zero_or_pos m with h0 | h0
 ·have hA : Yd (Ys qs hq w.heap.size 0 0 m) (Ky false) := fun x hx => by simp [Ky] at hx
  have hB : ZD (Ys qs hq w.heap.size 0 0 m) (Zix false) := fun x hx => by
   simp only [Zix, cond_false, List.mem_cons, List.not_mem_nil, or_false] at hx
   rcases hx with rfl | rfl | rfl | rfl
   ·rfl
   ·exact c1
   ·exact c2
   ·show false = true ↔ ((0 : Nat) : Int) + 0 < ((m : Nat) : Int) + 0
    exact ⟨fun h => (by cases h), fun h => by omega⟩
  exact (Ya (YW hA hB) (Vq hA) (Ziy false) rfl YT hu hG hT (Nat.le_refl _) (ZdS hq w.heap.size hn ht)).mono fun e w' h => post h
 ·have hA : Yd (Ys qs hq w.heap.size 0 0 m) (Ky true) := fun x hx => by
   simp only [Ky, cond_true, List.mem_cons, List.not_mem_nil, or_false] at hx
   subst hx
   show false = true ↔ qs.getD (m - 1) 0 = 0
   exact ⟨fun h => (by cases h), fun h => absurd h (ht.last h0)⟩
  have hB : ZD (Ys qs hq w.heap.size 0 0 m) (Zix true) := fun x hx => by
   simp only [Zix, cond_true, List.mem_cons, List.not_mem_nil, or_false] at hx
   rcases hx with rfl | rfl | rfl | rfl | rfl | rfl | rfl
   ·rfl
   ·exact c1
   ·exact c2
   ·show true = true ↔ ((0 : Nat) : Int) + 0 < ((m : Nat) : Int) + 0
    exact ⟨fun _ => by omega, fun _ => rfl⟩
   ·show false = true ↔ ((m : Nat) : Int) + (-1) < ((0 : Nat) : Int) + 0
    exact ⟨fun h => (by cases h), fun h => by omega⟩
   ·show true = true ↔ ((m : Nat) : Int) + (-1) < ((qs.length : Nat) : Int) + 0
    exact ⟨fun _ => by omega, fun _ => rfl⟩
   ·refine ⟨m - 1, ?_, ?_⟩
    ·show ((m - 1 : Nat) : Int) = ((m : Nat) : Int) + (-1)
     omega
    ·show qs[m - 1]? = some (qs.getD (m - 1) 0)
     rw [List.getD_eq_getElem?_getD, List.getElem?_eq_getElem (by omega)]; rfl
  exact (Ya (YW hA hB) (Vq hA) (Ziy true) rfl YT hu hG hT (Nat.le_refl _) (ZdS hq w.heap.size hn ht)).mono fun e w' h => post h
def lfQ (qs : List Rat) (k : Nat) : Nat → Rat
 | 2 => qs.getD k 0
 | _ => 0
theorem Ze3 {qs : List Rat} (hq : ∀ q ∈ qs, Fit q) (k i : Nat) : Fit (lfQ qs k i) := by
 unfold lfQ
 split
 ·exact WY hq _
 ·exact Un
section
variable {qs : List Rat} (hq : ∀ q ∈ qs, Fit q) (lo : Nat) {m : Nat}
end
end Ev
end Go.Proofs.YtnlhjcfpfapafaaGreatDoor
namespace Go.Proofs.YtnlhjcfpfapafaaGreatDoor
namespace R
open Go.RowKit
theorem infoU8 : (Tryz.prog.info? 5).map (fun i => (i.zero, i.size, i.bytes)) = some (some (.int .u8 0), 1, 1) := by kernel_rfl
theorem Ze4 : M32 = 256 ^ 4 := by unfold M32; decide
theorem byte_div (n q r : Nat) (hr : r < 4) : n / M32 ^ q % M32 / 2 ^ (8 * r) % 256 = n / 256 ^ (4 * q + r) % 256 := by
 rw [Nat.mul_comm 8 r, ← Big.pow256, Ze4, ← Nat.pow_mul, Nat.pow_add, ← Nat.div_div_eq_div_mul]
 generalize n / 256 ^ (4 * q) = m
 have e : 256 ^ 4 = 256 ^ r * 256 ^ (4 - r) := by rw [← Nat.pow_add]; congr 1; omega
 rw [e, Nat.mod_mul_right_div_self]
 have e2 : 256 ^ (4 - r) = 256 * 256 ^ (4 - r - 1) := by rw [← Nat.pow_succ']; congr 1; omega
 rw [e2, Nat.mod_mul_right_mod]
theorem Zcn {n s : Nat} (h : JF n s) : Big.IsSize n ((s + 7) / 8) := by
 obtain ⟨h1, h2⟩ := h
 refine ⟨?_, fun hp => ?_⟩
 ·rw [Big.pow256]
  exact Nat.lt_of_lt_of_le h1 (Nat.pow_le_pow_right (by omega) (by omega))
 ·rw [Big.pow256]
  exact Nat.le_trans (Nat.pow_le_pow_right (by omega) (by omega)) (h2 (by omega))
theorem Ziz {T : List Nat} {I s d : Nat} (hT : T.length = s) (hI : I < s) (hd : Big.nth T I = d) : (T.take I ++ List.replicate (s - I) 0).set I d = T.take (I + 1) ++ List.replicate (s - (I + 1)) 0 := by
 have hl : (T.take I).length = I := by simp; omega
 rw [List.set_append_right _ _ (by omega), hl, Nat.sub_self, show s - I = (s - (I + 1)) + 1 by omega, List.replicate_succ, List.set_cons_zero, Big.take_succ T I (by omega), hd]
 simp
theorem Zno (n s I : Nat) (h : I < s) : Big.nth (Big.bd n s).reverse I = n / 256 ^ (s - 1 - I) % 256 := by
 unfold Big.nth
 rw [List.getD_eq_getElem?_getD, List.getElem?_reverse (by rw [Big.bd_length]; exact h), Big.bd_length]
 unfold Big.bd
 rw [List.getElem?_map, List.getElem?_range (by omega)]
 rfl
set_option maxRecDepth 100000 in
set_option maxHeartbeats 400000 in
theorem bytes_any (w : World) (bx ox n : Nat) (s : Bool) (h : IntAt w bx ox s n) (hn : Sml n) :
  Calls Tryz.prog 148 #[.pointer (some ⟨bx, ox, none⟩)] w fun e w' => ∃ v', e = .returned v' ∧ Bt w' v' (btx n) ∧ Below w.heap.size w w' := by
 obtain ⟨-, u, hc, hu⟩ := h
 obtain ⟨l, hw, ol, nl, hv, hl⟩ := YU hu hn
 have HCB := Lib.hid (VM w u l hw ol nl (by omega))
 rw [hv] at HCB
 have HW := Lib.hid hw; have OL := Lib.hid ol; have HVAL := Lib.hid hv
 obtain ⟨A, c, rfl, -, -, -⟩ := hw
 obtain ⟨i0, hi, hz0, hz1, hz2⟩ := info_parts infoU8
 have hlt := cell_lt hc
 clear ol nl hv hu hn
 go_enter Tryz.func148, Tryz.ntmps148
 go_wp2_with fail
 with_reducible refine HCB.out.mono ?_
 rintro e w1 ⟨sb, rfl, hsb, hsb1, -, rfl⟩
 obtain ⟨sz, hsz⟩ : ∃ z, (sb + 7) / 8 = z := ⟨_, rfl⟩
 have es : ((sb : Int) + 7) / 8 = (sz : Int) := by omega
 have HSZ := Lib.hid (show Big.IsSize n sz by rw [← hsz]; exact Zcn hsb)
 have hsb2 : sz ≤ 800000000 := by omega
 have hmk := fun W => ZZ (P := Tryz.prog) Tryz.underlying121 hi hz0 hz1 (by rw [hz2]; omega) .i64 .i64 sz sz (Nat.le_refl _) (by omega) W
 have HB1 := Lib.hid (Blk.new w 5 .u8 (List.replicate sz 0))
 have HBel1 := Lib.hid ((Below.refl w.heap.size w).alloc (Nat.le_refl _) (.cells (cellsOf .u8 (List.replicate sz 0)) 5))
 clear hsb hsb1 hsz
 go_wp2_with fail
 clear hmk hi hz0 hz1 hz2
 simp only [es]
 go_loopw [5] (fun i wr => ∃ (I : Nat), I ≤ sz ∧ i = .int .i64 I ∧
   Hid (Blk wr w.heap.size 5 .u8 ((Big.bd n sz).reverse.take I ++ List.replicate (sz - I) 0)) ∧ Hid (Below w.heap.size w wr))
  (fun i _ => sz - (intOf i).toNat)
 case atStart => exact ⟨0, by omega, rfl, Lib.hid (by simpa using HB1.out), HBel1⟩
 case round =>
  obtain ⟨I, hI, rfl, HB, HBel⟩ := hrel
  by_cases hkn : I < sz
  ·obtain ⟨k, hk⟩ : ∃ k, sz - 1 - I = k := ⟨_, rfl⟩
   have ek : (sz : Int) - 1 - (I : Int) = (k : Int) := by omega
   obtain ⟨q, r, hqr, hr⟩ : ∃ q r, k = 4 * q + r ∧ r < 4 := ⟨k / 4, k % 4, by omega, by omega⟩
   have hq : q < l.length := by
    rcases Nat.lt_or_ge q l.length with h1 | h1
    ·exact h1
    ·exfalso
     have h2 := HSZ.out.2 (by omega)
     have h3 := Big.val_lt l OL.out
     rw [HVAL.out, Ze4, ← Nat.pow_mul] at h3
     have h4 : 256 ^ (4 * l.length) ≤ 256 ^ (sz - 1) := Nat.pow_le_pow_right (by omega) (by omega)
     omega
   obtain ⟨A', c', e, x1, x2, x3⟩ := HW.out
   cases e
   obtain ⟨b, o, rfl, hblt, hcc, -⟩ := x3 (by omega)
   have hcell := (HBel.out.cell (p := ⟨b, o + q, none⟩) hblt).trans (hcc q hq)
   have hcu := (HBel.out.cell (p := ⟨bx, ox + 1, none⟩) hlt).trans hc
   have hst := HB.out.cell I (by simp [Big.bd_length]; omega)
   have hfr := HB.out.frozen I
   have d1 : (k : Int) / 4 = (q : Int) := by omega
   have d2 : (k : Int) % 4 = (r : Int) := by omega
   have hql : (q : Int) < (l.length : Int) := by omega
   have ev := Big.nth_div M32_pos l OL.out q
   rw [HVAL.out] at ev
   have hxm := ZI OL.out q
   have hbyte := Zno n sz I hkn
   rw [hk] at hbyte
   generalize Big.nth l q = xq at hcell ev hxm
   have hv : ((xq : Nat) : Int) / 2 ^ (8 * r) % 256 = ((n / 256 ^ k % 256 : Nat) : Int) := by
    rw [hqr, ← byte_div n q r hr, ← ev]
    rw [show ((2 : Int) ^ (8 * r)) = ((2 ^ (8 * r) : Nat) : Int) by rw [Int.natCast_pow]; rfl]
    omega
   have HBY := Lib.hid hbyte
   obtain ⟨y, hy⟩ : ∃ y, n / 256 ^ k % 256 = y := ⟨_, rfl⟩
   rw [hy] at hv HBY
   have HV := Lib.hid hv
   have e8 : (8 * (r : Int)).toNat = 8 * r := by omega
   have hr8 : (8 * (r : Int)) < 32 := by omega
   clear hk hqr hcc x3 ev hbyte hy hv
   go_wp2_with fail
   rw [HV.out]
   refine ⟨⟨I + 1, by omega, by go_num, Lib.hid ?_, Lib.hid (HBel.out.setCell (Nat.le_refl _) _)⟩, by simp [intOf]; omega⟩
   have := HB.out.set I y
   rw [Ziz (by simp [Big.bd_length]) hkn HBY.out] at this
   exact this
  ·have hkl : I = sz := by omega
   subst hkl
   have hB := HB.out
   rw [Nat.sub_self, List.replicate_zero, List.append_nil, List.take_of_length_le (by simp [Big.bd_length])] at hB
   have HBB := Lib.hid hB
   clear hB
   go_wp2
   go_ret
   refine ⟨_, rfl, ?_, HBel.out⟩
   rw [← Zhk HSZ.out]
   have hbl := Big.btext_length n I
   refine ⟨some ⟨w.heap.size, 0, none⟩, I, by rw [hbl]; rfl, by rw [hbl]; exact Nat.le_refl _, fun _ => ⟨w.heap.size, 0, rfl, HBB.out.lt, fun i hi => ?_, _, _, HBB.out⟩⟩
   rw [Nat.zero_add, ← Big.btext_get n I i hi]
   exact HBB.out.cell i (by rw [List.length_reverse, Big.bd_length, ← hbl]; exact hi)
end R
end Go.Proofs.YtnlhjcfpfapafaaGreatDoor
namespace Go.Proofs.YtnlhjcfpfapafaaGreatDoor
open Go Go.RowKit
namespace Ev
inductive Xe where
 | v (i : Nat)
 | c (n : Nat)
 | add (a b : Xe)
 | sub (a b : Xe)
 | mul (a b : Xe)
 | quo (a b : Xe)
 | gcd (a b : Xe)
def Xe.ev (ρ : Nat → Nat) : Xe → Nat
 | .v i => ρ i
 | .c n => n
 | .add a b => a.ev ρ + b.ev ρ
 | .sub a b => a.ev ρ - b.ev ρ
 | .mul a b => a.ev ρ * b.ev ρ
 | .quo a b => a.ev ρ / b.ev ρ
 | .gcd a b => Nat.gcd (a.ev ρ) (b.ev ρ)
noncomputable def Xe.beq : Xe → Xe → Bool := Xe.rec (motive := fun _ => Xe → Bool)
 (fun i y => match y with | .v j => Nat.beq i j | _ => false)
 (fun n y => match y with | .c m => Nat.beq n m | _ => false)
 (fun _ _ iha ihb y => match y with | .add a b => iha a && ihb b | _ => false)
 (fun _ _ iha ihb y => match y with | .sub a b => iha a && ihb b | _ => false)
 (fun _ _ iha ihb y => match y with | .mul a b => iha a && ihb b | _ => false)
 (fun _ _ iha ihb y => match y with | .quo a b => iha a && ihb b | _ => false)
 (fun _ _ iha ihb y => match y with | .gcd a b => iha a && ihb b | _ => false)
theorem Xe.beq_ok : ∀ (a b : Xe), a.beq b = true → a = b := by
 intro a
 induction a with
 | v i =>
  intro b h
  cases b with
  | v j => rw [Nat.eq_of_beq_eq_true (show Nat.beq i j = true from h)]
  | _ => exact absurd (show false = true from h) (by simp)
 | c n =>
  intro b h
  cases b with
  | c m => rw [Nat.eq_of_beq_eq_true (show Nat.beq n m = true from h)]
  | _ => exact absurd (show false = true from h) (by simp)
 | add a b iha ihb =>
  intro y h
  cases y with
  | add a' b' =>
   have h' : (a.beq a' && b.beq b') = true := h
   simp only [Bool.and_eq_true] at h'
   rw [iha _ h'.1, ihb _ h'.2]
  | _ => exact absurd (show false = true from h) (by simp)
 | sub a b iha ihb =>
  intro y h
  cases y with
  | sub a' b' =>
   have h' : (a.beq a' && b.beq b') = true := h
   simp only [Bool.and_eq_true] at h'
   rw [iha _ h'.1, ihb _ h'.2]
  | _ => exact absurd (show false = true from h) (by simp)
 | mul a b iha ihb =>
  intro y h
  cases y with
  | mul a' b' =>
   have h' : (a.beq a' && b.beq b') = true := h
   simp only [Bool.and_eq_true] at h'
   rw [iha _ h'.1, ihb _ h'.2]
  | _ => exact absurd (show false = true from h) (by simp)
 | quo a b iha ihb =>
  intro y h
  cases y with
  | quo a' b' =>
   have h' : (a.beq a' && b.beq b') = true := h
   simp only [Bool.and_eq_true] at h'
   rw [iha _ h'.1, ihb _ h'.2]
  | _ => exact absurd (show false = true from h) (by simp)
 | gcd a b iha ihb =>
  intro y h
  cases y with
  | gcd a' b' =>
   have h' : (a.beq a' && b.beq b') = true := h
   simp only [Bool.and_eq_true] at h'
   rw [iha _ h'.1, ihb _ h'.2]
  | _ => exact absurd (show false = true from h) (by simp)
noncomputable def Xe.bnd : Xe → Nat := Xe.rec (motive := fun _ => Nat)
 (fun _ => 262144)
 (fun n => Nat.succ (Nat.log2 n))
 (fun _ _ a b => Nat.succ (Nat.add a b))
 (fun _ _ a _ => a)
 (fun _ _ a b => Nat.add a b)
 (fun _ _ a _ => a)
 (fun _ _ a b => Nat.succ (Nat.add a b))
structure Bits (k n : Nat) : Prop where
 out : n < 2 ^ k
theorem Bits.up {k j n : Nat} (h : Bits k n) (hk : k ≤ j) : Bits j n := ⟨Nat.lt_of_lt_of_le h.out (Nat.pow_le_pow_right (by omega) hk)⟩
theorem Bits.le {k n m : Nat} (h : Bits k n) (hm : m ≤ n) : Bits k m := ⟨Nat.lt_of_le_of_lt hm h.out⟩
theorem Bits.add {k j n m : Nat} (h : Bits k n) (i : Bits j m) : Bits (k + j + 1) (n + m) := by
 have h1 := (h.up (show k ≤ k + j by omega)).out
 have h2 := (i.up (show j ≤ k + j by omega)).out
 refine ⟨?_⟩
 rw [Nat.pow_succ]
 generalize 2 ^ (k + j) = p at *
 omega
theorem Bits.mul {k j n m : Nat} (h : Bits k n) (i : Bits j m) : Bits (k + j) (n * m) := by
 refine ⟨?_⟩
 rw [Nat.pow_add]
 exact Nat.mul_lt_mul'' h.out i.out
theorem Bits.log (n : Nat) : Bits (Nat.succ (Nat.log2 n)) n := ⟨Nat.lt_log2_self⟩
theorem Bits.gcd {k j n m : Nat} (h : Bits k n) (i : Bits j m) : Bits (k + j + 1) (Nat.gcd n m) := by
 refine (h.add i).le ?_
 rcases Nat.eq_zero_or_pos n with h0 | h0
 ·subst h0; rw [Nat.gcd_zero_left]; omega
 ·have := Nat.gcd_le_left m h0; omega
theorem Zk7 (k : Nat) : R.M32 ^ k = 2 ^ (32 * k) := by rw [Nat.pow_mul]; rfl
theorem Bits.sml {k n : Nat} (h : Bits k n) (hk : k ≤ 100000000) : R.Sml n := by
 refine ⟨?_⟩
 rw [Zk7]
 exact (h.up (show k ≤ 32 * Big.KL by have := Big.KL_eq; omega)).out
structure XEnv where
 q : Nat → Nat
 bit : ∀ i, Bits 262144 (q i)
theorem Xe.bits (ρ : XEnv) : ∀ e : Xe, Bits e.bnd (e.ev ρ.q) := by
 intro e
 induction e with
 | v i => exact ρ.bit i
 | c n => exact Bits.log n
 | add a b iha ihb => exact iha.add ihb
 | sub a b iha _ => exact iha.le (Nat.sub_le _ _)
 | mul a b iha ihb => exact iha.mul ihb
 | quo a b iha _ => exact iha.le (Nat.div_le_self _ _)
 | gcd a b iha ihb => exact iha.gcd ihb
noncomputable def Zgb (e : Xe) : Bool := Nat.ble e.bnd 100000000
theorem WZ {ρ : XEnv} {e : Xe} (h : Zgb e = true) : R.Sml (e.ev ρ.q) := (e.bits ρ).sml (Nat.le_of_ble_eq_true h)
inductive Wf where
 | wd (e : Xe)
 | lp (e : Xe)
 | st (e : Xe)
 | sb
 | by_ (e : Xe)
 | sx (e : Xe)
 | ln (e : Xe)
 | iv (s : Bool) (e : Xe)
def ZoS (s : ByteArray) : Prop := ZmJ s = false
def Wf.holds (ρ : XEnv) : Wf → World → Value → Prop
 | .wd e, w, v => R.Nin w v (e.ev ρ.q)
 | .lp e, _, v => ∃ k : Nat, v = .int .i64 (k : Int) ∧ (k = 0 ↔ e.ev ρ.q = 0)
 | .st e, _, v => v = .string (bst (e.ev ρ.q)) ∧ szN (e.ev ρ.q) ≤ 512
 | .sb, _, v => ∃ s, v = .string s ∧ ZoS s
 | .by_ e, w, v => R.Bt w v (btx (e.ev ρ.q))
 | .sx e, _, v => v = .string (bst (e.ev ρ.q))
 | .ln e, _, v => v = .int .i64 (szN (e.ev ρ.q) : Nat)
 | .iv s e, _, v => v = .int .i64 (Big.sI s (e.ev ρ.q)) ∧ (s = true → 0 < e.ev ρ.q) ∧ e.ev ρ.q ≤ 9223372036854775808 ∧ (s = false → e.ev ρ.q < 9223372036854775808)
theorem Wf.one {ρ : XEnv} {f : Wf} {w : World} {v : Value} (h : f.holds ρ w v) : ZR v = true := by
 cases f with
 | wd e => exact Xq h
 | lp e => obtain ⟨k, rfl, _⟩ := h; rfl
 | st e => rw [h.1]; rfl
 | sb => obtain ⟨s, rfl, _⟩ := h; rfl
 | by_ e => obtain ⟨A, c, rfl, _⟩ := h; rfl
 | sx e => rw [show v = _ from h]; rfl
 | ln e => rw [show v = _ from h]; rfl
 | iv s e => rw [h.1]; rfl
theorem Zgc {l : List UInt8} {w w' : World} {v : Value} (h : R.Bt w v l) (hk : ∀ (b : Nat) (c : Array Value) (t : TypeId) (z : Nat × Nat), w.heap[b]? = some (.cells c t z) → Nat.beq t 5 = true → w'.heap[b]? = some (.cells c t z)) : R.Bt w' v l := by
 obtain ⟨A, c, e, h1, h3⟩ := h
 refine ⟨A, c, e, h1, fun hp => ?_⟩
 obtain ⟨b, o, ea, hlt, hc, cs, z, hcs⟩ := h3 hp
 have hcs' := hk b cs _ _ hcs (Nat.beq_refl _)
 refine ⟨b, o, ea, (Array.getElem?_eq_some_iff.1 hcs').1, fun i hi => ?_, cs, z, hcs'⟩
 rw [← hc i hi]
 exact World.cell?_of_block (hcs'.trans hcs.symm)
theorem Zgd {w : World} {v : Value} {n : Nat} (h : R.Nin w v n) : ∃ a k c, v = .slice a k c ∧ (k = 0 ↔ n = 0) := by
 obtain ⟨l, ⟨A, c, e, -, -, -⟩, ol, nl, rfl⟩ := h
 refine ⟨A, l.length, c, e, fun h => ?_, fun h => ?_⟩
 ·rw [List.length_eq_zero_iff.1 h]; rfl
 ·rw [Big.norm_zero R.M32_pos l nl h]; rfl
noncomputable def ZdU (t : TypeId) : Bool := Nat.beq t 148 || Nat.beq t 5
noncomputable def YA (ρ : XEnv) : Sig Wf where
 holds := Wf.holds ρ
 hid _ := ZdU
 hn _ := ZdU
 lo := 0
 new := fun _ _ _ _ h => h
 G := Zn.G
 base := Zn.base
 baseS := Zn.baseS
 stable := fun f _ _ _ h hk => by
  have hw := fun (b : Nat) (c : Array Value) (t : TypeId) (z : Nat × Nat) h1 (h2 : Nat.beq t 148 = true) => hk b c t z h1 (by unfold ZdU; rw [h2]; rfl)
  have hb := fun (b : Nat) (c : Array Value) (t : TypeId) (z : Nat × Nat) h1 (h2 : Nat.beq t 5 = true) => hk b c t z h1 (by unfold ZdU; rw [h2, Bool.or_true])
  cases f with
  | wd e => exact R.nin_stable h hw
  | by_ e => exact Zgc h hb
  | sx e => exact h
  | ln e => exact h
  | iv s e => exact h
  | lp e => exact h
  | st e => exact h
  | sb => exact h
structure Xs where
 k : Nat
 a : Xe
 b : Xe
 t : Bool
def Xs.holds (ρ : Nat → Nat) (x : Xs) : Prop := match x.k with
 | 1 => x.t = true ↔ x.a.ev ρ = 0
 | 2 => x.t = true ↔ x.a.ev ρ = x.b.ev ρ
 | 4 => x.t = true ↔ 512 < szN (x.a.ev ρ)
 | 7 => x.t = true ↔ x.a.ev ρ < 9223372036854775808
 | 8 => x.t = true ↔ x.a.ev ρ ≤ 9223372036854775808
 | _ => x.t = true ↔ x.a.ev ρ < x.b.ev ρ
def x0 : Xe := .c 0
noncomputable def XK (A : List Xs) (k : Nat) (a b : Xe) : Option Bool := List.rec (motive := fun _ => Option Bool) none
 (fun x _ ih => Bool.rec (motive := fun _ => Option Bool) ih (some x.t) (Nat.beq k x.k && (a.beq x.a && b.beq x.b))) A
theorem Us {k : Nat} {a b : Xe} {t : Bool} : ∀ {A : List Xs}, XK A k a b = some t → ∃ x ∈ A, x.k = k ∧ x.a = a ∧ x.b = b ∧ x.t = t
 | [], h => by cases h
 | x :: A, h => by
  have h' : (Bool.rec (motive := fun _ => Option Bool) (XK A k a b) (some x.t) (Nat.beq k x.k && (a.beq x.a && b.beq x.b)) : Option Bool) = some t := h
  cases hb : (Nat.beq k x.k && (a.beq x.a && b.beq x.b)) with
  | false =>
   rw [hb] at h'
   obtain ⟨y, hy, r⟩ := Us h'
   exact ⟨y, List.mem_cons_of_mem _ hy, r⟩
  | true =>
   rw [hb] at h'
   simp only [Bool.and_eq_true] at hb
   exact ⟨x, List.mem_cons_self, (Nat.eq_of_beq_eq_true hb.1).symm, (Xe.beq_ok _ _ hb.2.1).symm, (Xe.beq_ok _ _ hb.2.2).symm, Option.some.inj h'⟩
def YX (ρ : XEnv) (A : List Xs) : Prop := ∀ x ∈ A, x.holds ρ.q
section
variable {ρ : XEnv} {A : List Xs} {a b : Xe} {t : Bool}
theorem Va (hA : YX ρ A) (h : XK A 1 a x0 = some t) : t = true ↔ a.ev ρ.q = 0 := by
 obtain ⟨x, hx, h1, rfl, _, rfl⟩ := Us h
 have := hA x hx
 unfold Xs.holds at this
 rw [h1] at this
 exact this
theorem Zge (hA : YX ρ A) (h : XK A 2 a b = some t) : t = true ↔ a.ev ρ.q = b.ev ρ.q := by
 obtain ⟨x, hx, h1, rfl, rfl, rfl⟩ := Us h
 have := hA x hx
 unfold Xs.holds at this
 rw [h1] at this
 exact this
theorem Zgf (hA : YX ρ A) (h : XK A 4 a x0 = some t) : t = true ↔ 512 < szN (a.ev ρ.q) := by
 obtain ⟨x, hx, h1, rfl, _, rfl⟩ := Us h
 have := hA x hx
 unfold Xs.holds at this
 rw [h1] at this
 exact this
theorem Qh (hA : YX ρ A) (h : XK A 3 a b = some t) : t = true ↔ a.ev ρ.q < b.ev ρ.q := by
 obtain ⟨x, hx, h1, rfl, rfl, rfl⟩ := Us h
 have := hA x hx
 unfold Xs.holds at this
 rw [h1] at this
 exact this
end
end Ev
end Go.Proofs.YtnlhjcfpfapafaaGreatDoor
