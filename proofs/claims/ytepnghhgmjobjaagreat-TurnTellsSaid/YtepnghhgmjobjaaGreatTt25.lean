/- Contracts, in this order: Runs over ref90's numbers: numbers of bytes, of 64 bits; byt · ref00's Add, Sub, Mul, Quo; a fraction's sign: every path ru · ref00's Add, Sub, Mul, Quo; a fraction's sign: what they do. · ref00.Rat: bytes to a fraction: every path run. · ref00.Rat, Frac; a fraction's sign: what they do. · ref00, as runs over numbers told by expressions call it. -/
import Derived.Test.YtepnghhgmjobjaaGreatTt24
import Derived.Test.YtepnghhgmjobjaaGreatTt22
namespace Go.Proofs.YtepnghhgmjobjaaGreat
open Go Go.RowKit
namespace Ev
set_option maxRecDepth 100000
noncomputable def freshI (s : Bool) (e : Xe) : M Wf Value := bind (newFact (.wd e)) fun u => bind (fresh (.cells [.bool s, u] 85)) fun n => ret (vptr n 0)
theorem loc_freshI (s : Bool) (e : Xe) : Loc (freshI s e) := loc_bind (loc_newFact _) fun _ => loc_bind (loc_fresh _) fun _ => loc_ret _
noncomputable def numberM (args : List Value) : Option (M Wf Value) := match args with
  | [a] => some (bind (fact a) fun f => match f with
    | .st e => bind (freshI false e) fun p => ret (.tuple ⟨[p, .bool true]⟩)
    | .sb => ret (.tuple ⟨[.pointer none, .bool false]⟩)
    | _ => fail)
  | _ => none
noncomputable def newIntF (a : Value) : M Wf Value := bind (fact a) fun f => match f with
  | .iv s e => freshI s e
  | _ => fail
noncomputable def newIntA (a : Value) : M Wf Value := match a with
  | .int k m => match k with
    | .i64 => match m with
      | .ofNat j => cond (Nat.ble j 1000000) (freshI false (.c j)) fail
      | .negSucc j => cond (Nat.ble j 1000000) (freshI true (.c (Nat.succ j))) fail
    | _ => fail
  | _ => newIntF a
noncomputable def newIntM (args : List Value) : Option (M Wf Value) := match args with
  | [a] => some (newIntA a)
  | _ => none
theorem loc_newIntF (a : Value) : Loc (newIntF a) := by
  unfold newIntF
  refine loc_bind (loc_fact a) fun f => ?_
  split
  · exact loc_freshI _ _
  · exact loc_fail
theorem loc_newIntA (a : Value) : Loc (newIntA a) := by
  unfold newIntA
  (repeat' split) <;> first | exact loc_cond (loc_freshI _ _) loc_fail | exact loc_fail | exact loc_newIntF _
noncomputable def bytesM (args : List Value) : Option (M Wf Value) := match args with
  | [a] => some (bind (rdInt a) fun x => cond (xokB x.2) (newFact (.by_ x.2)) fail)
  | _ => none
section
variable {ρ : XEnv} {A : List Xs} {h h' : Tr (Blk Wf)} {nx nx' : Nat} {Q W : List Nat} {r : Ren} {w w' : World}
theorem mod_none {F : Type} {S : Sig F} {r : Ren} {g : Nat → Option (Blk F)} {w : World} (hM : Mod S r g w) : Mod S r (fun _ => none) w := hM.congr fun _ => .inl rfl
theorem freshI_ok {s : Bool} {e0 : Xe} {v : Value} {b : Nat} (e : freshI s e0 h nx = .ok v h' nx' Q W) (hM : Mod (wSig ρ) r h.get w) (hN : New r nx nx') (hI : R.NewI w b s (e0.ev ρ.q) w') :
    ∃ r', VR r' v (.pointer (some ⟨b, 0, none⟩)) ∧ Ext (wSig ρ) r w nx nx' W h'.get r' w' := by
  obtain ⟨hge, ⟨u, hc, hu⟩, hb⟩ := hI
  unfold freshI at e
  obtain ⟨u0, h1, nx1, R1, W1, R2, W2, e1, e2, rfl, rfl⟩ := bind_ok e
  obtain ⟨i, h2, nx2, R3, W3, R4, W4, e3, e4, rfl, rfl⟩ := bind_ok e1
  obtain ⟨rfl, rfl, rfl, rfl⟩ := ret_ok e4
  unfold fresh at e3
  cases e3
  obtain ⟨n, h3, nx3, R5, W5, R6, W6, e5, e6, rfl, rfl⟩ := bind_ok e2
  obtain ⟨rfl, rfl, rfl, rfl⟩ := ret_ok e6
  unfold fresh at e5
  cases e5
  obtain ⟨r1, hX, hr, hbl⟩ := ext_fact2 (S := wSig ρ) (f := .wd e0) hM hb (hN.sub (Nat.le_refl _) (by omega)) hu (nin_one hu)
  obtain ⟨r2, hY, hr2⟩ := ext_adopt (c := [.bool s, .chan (some nx)]) (mod_none hM) hX hbl (New.after hN hX (by omega)) (by omega) hge hc (.cons (.same rfl) (.cons (.opq hr (nin_one hu)) .nil)) (by kernel_rfl)
  refine ⟨r2, .ptr hr2, ?_⟩
  have := hY.congr (g' := ((h.set nx (.fact (.wd e0))).set (nx + 1) (.cells [.bool s, .chan (some nx)] 85)).get) fun n => .inr (by
    rw [Tr.get_set]
    by_cases hn : n = nx + 1
    · rw [if_pos hn, if_pos hn]
    · rw [if_neg hn, if_neg hn]; exact Tr.get_set _ _ _ _)
  simpa using this
theorem goes_fact {f0 : Wf} {f : FuncId} {args' : List Value} {v : Value} (e : (newFact f0 : M Wf Value) h nx = .ok v h' nx' Q W) (hM : Mod (wSig ρ) r h.get w) (hN : New r nx nx')
    (c : Calls Tryz.prog f ⟨args'⟩ w fun e w' => ∃ v', e = .returned v' ∧ f0.holds ρ w' v' ∧ Below w.heap.size w w') : GoesW ρ f args' r w nx nx' W h'.get v := by
  obtain ⟨i, h1, nx1, R1, W1, R2, W2, e1, e2, rfl, rfl⟩ := bind_ok e
  obtain ⟨rfl, rfl, rfl, rfl⟩ := ret_ok e2
  unfold fresh at e1
  cases e1
  refine c.mono ?_
  rintro en w' ⟨v', rfl, hv, hb⟩
  obtain ⟨r', hX, hr⟩ := ext_fact (S := wSig ρ) (f := f0) hM hb hN hv (Wf.one hv)
  exact ⟨v', r', rfl, .opq hr (Wf.one hv), by simpa using hX.congr fun n => .inr (Tr.get_set _ _ _ _)⟩
theorem w_number : SumF (wSig ρ) Tryz.prog 47 numberM := by
  intro args m e
  unfold numberM at e
  rcases args with _ | ⟨a, _ | ⟨c, l⟩⟩ <;> simp only [reduceCtorEq, Option.some.injEq] at e
  subst e
  refine ⟨loc_bind (loc_fact a) fun f => ?_, ?_⟩
  · split
    · exact loc_bind (loc_freshI _ _) fun _ => loc_ret _
    · exact loc_ret _
    · exact loc_fail
  intro h nx v h' nx' Q W e r w args' ha hM hN
  cases ha with
  | cons ha hb =>
  cases hb
  obtain ⟨f, h1, nx1, R1, W1, R2, W2, e1, e2, rfl, rfl⟩ := bind_ok e
  obtain ⟨rfl, rfl, rfl, hh⟩ := fact_ok e1 ha hM
  cases f with
  | st e0 =>
    obtain ⟨rfl, hsz⟩ : _ ∧ _ := hh
    obtain ⟨p, h3, nx3, R5, W5, R6, W6, e5, e6, rfl, rfl⟩ := bind_ok (show (bind (freshI false e0) (fun p => ret (Value.tuple ⟨[p, .bool true]⟩)) : M Wf Value) h1 nx1 = .ok v h' nx' R2 W2 from e2)
    obtain ⟨rfl, rfl, rfl, rfl⟩ := ret_ok e6
    refine (R.number_ok w (e0.ev ρ.q) hsz).mono ?_
    rintro en w' ⟨b, rfl, hI⟩
    obtain ⟨r', hp, hX⟩ := freshI_ok e5 hM hN hI
    exact ⟨_, r', rfl, .tuple (.cons hp (.cons (.same rfl) .nil)), by simpa using hX⟩
  | sb =>
    obtain ⟨s, rfl, hs⟩ := hh
    have e3 : (ret (.tuple ⟨[.pointer none, .bool false]⟩) : M Wf Value) h1 nx1 = .ok v h' nx' R2 W2 := e2
    simpa using goes_pl e3 rfl hM ((R.number_bad w s hs).mono fun e w' hh => ⟨hh.1, hh.2 ▸ Below.refl _ w⟩)
  | _ => cases (show (fail : M Wf Value) h1 nx1 = _ from e2)
theorem w_newInt : SumF (wSig ρ) Tryz.prog 51 newIntM := by
  intro args m e
  unfold newIntM at e
  rcases args with _ | ⟨a, _ | ⟨c, l⟩⟩ <;> simp only [reduceCtorEq, Option.some.injEq] at e
  subst e
  refine ⟨loc_newIntA a, ?_⟩
  intro h nx v h' nx' Q W e r w args' ha hM hN
  cases ha with
  | cons ha hb =>
  cases hb
  have key : ∀ (s : Bool) (e0 : Xe) (a' : Value), a' = .int .i64 (Big.sI s (e0.ev ρ.q)) → (s = true → 0 < e0.ev ρ.q) → e0.ev ρ.q ≤ 9223372036854775808 → (s = false → e0.ev ρ.q < 9223372036854775808) → freshI s e0 h nx = .ok v h' nx' Q W → GoesW ρ 51 [a'] r w nx nx' W h'.get v := by
    rintro s e0 _ rfl h1 h2 h3 e1
    refine (R.newInt_any w s (e0.ev ρ.q) h1 h2 h3).mono ?_
    rintro en w' ⟨b, rfl, hI⟩
    obtain ⟨r', hp, hX⟩ := freshI_ok (e0 := e0) e1 hM hN hI
    exact ⟨_, r', rfl, hp, hX⟩
  have fin : ∀ a', VR r a a' → newIntF a h nx = .ok v h' nx' Q W → GoesW ρ 51 [a'] r w nx nx' W h'.get v := by
    intro a' ha' e1
    unfold newIntF at e1
    obtain ⟨f, h1, nx1, R1, W1, R2, W2, e2, e3, rfl, rfl⟩ := bind_ok e1
    obtain ⟨rfl, rfl, rfl, hh⟩ := fact_ok e2 ha' hM
    cases f with
    | iv s e0 =>
      obtain ⟨rfl, k1, k2, k3⟩ : _ ∧ _ := hh
      have e4 : freshI s e0 h1 nx1 = .ok v h' nx' R2 W2 := e3
      refine (R.newInt_any w s (e0.ev ρ.q) k1 k2 k3).mono ?_
      rintro en w' ⟨b, rfl, hI⟩
      obtain ⟨r', hp, hX⟩ := freshI_ok (e0 := e0) e4 hM hN hI
      exact ⟨_, r', rfl, hp, hX⟩
    | _ => cases (show (fail : M Wf Value) h1 nx1 = _ from e3)
  unfold newIntA at e
  split at e
  · rename_i k z
    split at e
    · rename_i z2
      split at e
      · rename_i z3 j
        obtain ⟨hk, e1⟩ := cond_ok e
        have hk2 := Nat.le_of_ble_eq_true hk
        exact key false (.c j) _ (by rw [ha.eq_of_plain rfl]; rfl) (fun h => by cases h) (by show j ≤ _; omega) (fun _ => by show j < _; omega) e1
      · rename_i z3 j
        obtain ⟨hk, e1⟩ := cond_ok e
        have hk2 := Nat.le_of_ble_eq_true hk
        exact key true (.c (Nat.succ j)) _ (by rw [ha.eq_of_plain rfl]; rfl) (fun _ => Nat.succ_pos j) (by show j + 1 ≤ _; omega) (fun h => by cases h) e1
    · cases (show (fail : M Wf Value) h nx = _ from e)
  · exact fin _ ha e
theorem w_bytes : SumF (wSig ρ) Tryz.prog 94 bytesM := by
  intro args m e
  unfold bytesM at e
  rcases args with _ | ⟨a, _ | ⟨c, l⟩⟩ <;> simp only [reduceCtorEq, Option.some.injEq] at e
  subst e
  refine ⟨loc_bind (loc_rdInt a) fun f => loc_cond (loc_newFact _) loc_fail, ?_⟩
  intro h nx v h' nx' Q W e r w args' ha hM hN
  cases ha with
  | cons ha hb =>
  cases hb
  obtain ⟨x, h1, nx1, R1, W1, R2, W2, e1, e2, rfl, rfl⟩ := bind_ok e
  obtain ⟨rfl, rfl, rfl, b, o, rfl, hI⟩ := rdInt_ok e1 ha hM
  obtain ⟨hk, e3⟩ := cond_ok e2
  simpa [GoesW] using goes_fact e3 hM hN (R.bytes_any w b o _ _ hI (xokB_sml hk))
end
noncomputable def wList2 (A : List Xs) : List (Nat × (List Value → Option (M Wf Value))) := (47, numberM) :: (51, newIntM) :: (94, bytesM) :: wList A
theorem wList2_ok {ρ : XEnv} {A : List Xs} (hA : AllX ρ A) : ∀ x ∈ wList2 A, SumF (wSig ρ) Tryz.prog x.1 x.2 := by
  intro x hx
  rcases List.mem_cons.1 hx with rfl | hx
  · exact w_number
  rcases List.mem_cons.1 hx with rfl | hx
  · exact w_newInt
  rcases List.mem_cons.1 hx with rfl | hx
  · exact w_bytes
  · exact wList_ok hA x hx
noncomputable def wSums2 (A : List Xs) : Sums Wf := sumsOf (mkTab (wList2 A))
theorem wSums2_ok {ρ : XEnv} {A : List Xs} (hA : AllX ρ A) : SumOK (wSig ρ) Tryz.prog (wSums2 A) := sumsOf_ok (wList2_ok hA)
end Ev
end Go.Proofs.YtepnghhgmjobjaaGreat
namespace Go.Proofs.YtepnghhgmjobjaaGreat
open Go Go.RowKit
namespace Ev
set_option maxRecDepth 100000
noncomputable def blkR (s : Bool) (n d : Xe) : BL Wf := ⟨87, [.wd n, .wd d], [.p (.bool s), .one, .p (.bool false), .one]⟩
noncomputable def runV (A : List Xs) (bl : List (BL Wf)) (is : List Nat) (f : FuncId) : Option (E3 Wf) := tellsB bl [] (fun ps _ => sel is ps) (call Tryz.prog (wCfg A) (wSums A) 60 f)
noncomputable def outR (s : Bool) (n d : Xe) : E3 Wf := .one (.b 87 [.p (.bool s), .f (.wd (.quo n (.gcd n d))), .p (.bool false), .f (.wd (.quo d (.gcd n d)))])
noncomputable def intD (n : Int) : E3 Wf := .one (.d (.one (.p (.int .i64 n))))
noncomputable def x1 : Xe := .v 1
noncomputable def x2 : Xe := .v 2
noncomputable def x3 : Xe := .v 3
noncomputable def xv : Xe := .v 0
section
variable (a b c d : Xe)
noncomputable def dens : List Xs := [⟨1, b, x0, false⟩, ⟨1, d, x0, false⟩, ⟨1, .mul b d, x0, false⟩]
noncomputable def sumT (na nb lt eq : Bool) : List Xs := dens b d ++ [⟨1, .mul a d, x0, na⟩, ⟨1, .mul c b, x0, nb⟩, ⟨1, .add (.mul a d) (.mul c b), x0, na && nb⟩, ⟨3, .mul a d, .mul c b, lt⟩, ⟨2, .mul a d, .mul c b, eq⟩,
  ⟨1, .sub (.mul c b) (.mul a d), x0, !lt⟩, ⟨1, .sub (.mul a d) (.mul c b), x0, lt || eq⟩]
noncomputable def sumO (s t na nb lt eq : Bool) : E3 Wf := cond (beqB (s && !na) (t && !nb)) (outR ((s && !na) && !(na && nb)) (.add (.mul a d) (.mul c b)) (.mul b d))
  (cond lt (outR (t && !nb) (.sub (.mul c b) (.mul a d)) (.mul b d)) (outR ((s && !na) && !eq) (.sub (.mul a d) (.mul c b)) (.mul b d)))
end
theorem radd_run (s t na nb lt eq : Bool) (hx : (lt && eq) = false) : runV (sumT xv x1 x2 x3 na nb lt eq) [blkR s xv x1, blkR t x2 x3] [0, 1] 25 = some (sumO xv x1 x2 x3 s t na nb lt eq) := by
  cases lt <;> cases eq <;> first | (cases hx; done) | (cases s <;> cases t <;> cases na <;> cases nb <;> kernel_rfl)
theorem radd_self (s na : Bool) : runV (sumT xv x1 xv x1 na na false true) [blkR s xv x1] [0, 0] 25 = some (sumO xv x1 xv x1 s s na na false true) := by
  cases s <;> cases na <;> kernel_rfl
theorem rsub_run (s t na nb lt eq : Bool) (hx : (lt && eq) = false) : runV (sumT xv x1 x2 x3 na nb lt eq) [blkR s xv x1, blkR t x2 x3] [0, 1] 33 = some (sumO xv x1 x2 x3 s (!t) na nb lt eq) := by
  cases lt <;> cases eq <;> first | (cases hx; done) | (cases s <;> cases t <;> cases na <;> cases nb <;> kernel_rfl)
theorem rsub_self (s na : Bool) : runV (sumT xv x1 xv x1 na na false true) [blkR s xv x1] [0, 0] 33 = some (sumO xv x1 xv x1 s (!s) na na false true) := by
  cases s <;> cases na <;> kernel_rfl
theorem rmul_run (s t nn : Bool) : runV (dens x1 x3 ++ [⟨1, .mul xv x2, x0, nn⟩]) [blkR s xv x1, blkR t x2 x3] [0, 1] 26 = some (outR (xor s t && !nn) (.mul xv x2) (.mul x1 x3)) := by
  cases s <;> cases t <;> cases nn <;> kernel_rfl
theorem rmul_self (s nn : Bool) : runV (dens x1 x1 ++ [⟨1, .mul xv xv, x0, nn⟩]) [blkR s xv x1] [0, 0] 26 = some (outR false (.mul xv xv) (.mul x1 x1)) := by
  cases s <;> cases nn <;> kernel_rfl
theorem rquo_run (s t nn : Bool) : runV (dens x1 x3 ++ [⟨1, .mul xv x3, x0, nn⟩, ⟨1, .mul x1 x2, x0, false⟩]) [blkR s xv x1, blkR t x2 x3] [0, 1] 30 = some (outR (xor (s && !nn) t && !nn) (.mul xv x3) (.mul x1 x2)) := by
  cases s <;> cases t <;> cases nn <;> kernel_rfl
theorem rquo_self (s : Bool) : runV (dens x1 x1 ++ [⟨1, .mul xv x1, x0, false⟩, ⟨1, .mul x1 xv, x0, false⟩]) [blkR s xv x1] [0, 0] 30 = some (outR false (.mul xv x1) (.mul x1 xv)) := by
  cases s <;> kernel_rfl
theorem rsign_run (s n : Bool) : runV [⟨1, xv, x0, n⟩] [blkR s xv x1] [0] 28 = some (intD (cond n 0 (cond s (-1) 1))) := by
  cases s <;> cases n <;> kernel_rfl
end Ev
end Go.Proofs.YtepnghhgmjobjaaGreat
namespace Go.Proofs.YtepnghhgmjobjaaGreat
open Go Go.RowKit
namespace Ev
set_option maxRecDepth 100000
theorem nin_inj {w : World} {v : Value} {m n : Nat} (h : R.Nin w v m) (k : R.Nin w v n) : m = n := by
  obtain ⟨l, ⟨A, c, e, -, -, h3⟩, ol, nl, rfl⟩ := h
  obtain ⟨l', ⟨A', c', e', -, -, k3⟩, ol', nl', rfl⟩ := k
  rw [e] at e'
  injection e' with e1 e2 e3
  subst e1
  have hl : l = l' := by
    refine List.ext_getElem e2 fun i h1 h2 => ?_
    obtain ⟨b, o, rfl, -, hc, -⟩ := h3 (by omega)
    obtain ⟨b', o', eb, -, hc', -⟩ := k3 (by omega)
    injection eb with eb
    injection eb with e4 e5
    subst e4; subst e5
    have := (hc i h1).symm.trans (hc' i h2)
    have he : ((Big.nth l i : Nat) : Int) = ((Big.nth l' i : Nat) : Int) := by simpa using this
    unfold Big.nth at he
    simp only [List.getD, List.getElem?_eq_getElem h1, List.getElem?_eq_getElem h2, Option.getD_some] at he
    omega
  rw [hl]
def RB (q : Rat) : Prop := Bits 262144 (Big.nu q) ∧ Bits 262144 (Big.de q)
theorem ratIn_inj {w : World} {v : Value} {p q : Rat} (h : RatIn w v p) (k : RatIn w v q) : p = q := by
  obtain ⟨b, rfl, -, u, d, hb, hu, hd⟩ := h
  obtain ⟨b', e, -, u', d', hb', hu', hd'⟩ := k
  injection e with e
  injection e with e
  injection e with e
  subst e
  rw [hb] at hb'
  simp only [Option.some.injEq, Obj.cells.injEq, Array.mk.injEq, List.cons.injEq, Value.bool.injEq, and_true, true_and] at hb'
  obtain ⟨e1, rfl, rfl⟩ := hb'
  rw [Big.is_mk p, Big.is_mk q, e1, nin_inj hu hu', nin_inj hd hd']
theorem bits_zero (k : Nat) : Bits k 0 := ⟨Nat.two_pow_pos k⟩
def xenv (l : List Nat) (h : ∀ n ∈ l, Bits 262144 n) : XEnv := ⟨fun i => l.getD i 0, fun i => by
  rcases Nat.lt_or_ge i l.length with h1 | h1
  · simp only [List.getD, List.getElem?_eq_getElem h1, Option.getD_some]; exact h _ (List.getElem_mem h1)
  · simp only [List.getD, List.getElem?_eq_none h1, Option.getD_none]; exact bits_zero _⟩
theorem blkR_are {ρ : XEnv} {w : World} {b : Nat} {s : Bool} {n d : Xe} {u v : Value} (hb : w.heap[b]? = some (.cells ⟨[.bool s, u, .bool false, v]⟩ 87 (0, 0))) (hu : R.Nin w u (n.ev ρ.q)) (hv : R.Nin w v (d.ev ρ.q)) :
    ∃ us, HoldsL (wSig ρ) w (blkR s n d).fs us ∧ w.heap[b]? = some (.cells ⟨split (blkR s n d).ls us⟩ (blkR s n d).t (0, 0)) :=
  ⟨[u, v], ⟨u, [v], rfl, hu, nin_one hu, v, [], rfl, hv, nin_one hv, rfl⟩, hb⟩
structure OutOK (ρ : XEnv) (s : Bool) (n d : Xe) (z : Rat) : Prop where
  d0 : 0 < d.ev ρ.q
  n0 : s = true → 0 < n.ev ρ.q
  eq : z = mkRat (Big.sI s (n.ev ρ.q)) (d.ev ρ.q)
theorem outR_parts {ρ : XEnv} {s : Bool} {n d : Xe} {z : Rat} (h : OutOK ρ s n d z) : Big.ng z = s ∧ Big.nu z = n.ev ρ.q / Nat.gcd (n.ev ρ.q) (d.ev ρ.q) ∧ Big.de z = d.ev ρ.q / Nat.gcd (n.ev ρ.q) (d.ev ρ.q) := by
  obtain ⟨h1, h2, h3⟩ := Big.of_parts s (n.ev ρ.q) (d.ev ρ.q) h.d0
  rw [h.eq]
  refine ⟨?_, h2, h3⟩
  rw [h1]
  cases s with
  | false => rfl
  | true =>
    have := h.n0 rfl
    rw [decide_eq_true (Nat.div_pos (Nat.le_of_dvd this (Nat.gcd_dvd_left _ _)) (Nat.gcd_pos_of_pos_right _ h.d0))]; rfl
theorem outR_is {ρ : XEnv} {lo : Nat} {bs : List Nat} {w : World} {v : Value} {s : Bool} {n d : Xe} {z : Rat} (h : (outR s n d).is (wSig ρ) lo bs w v) (hz : OutOK ρ s n d z) (hlo : Tryz.prog.globals.size ≤ lo) : RatIn w v z := by
  obtain ⟨b, vs, rfl, hb, hh, v1, l1, rfl, h1, v2, l2, rfl, h2, v3, l3, rfl, h3, v4, l4, rfl, h4, h5⟩ := h
  obtain rfl : l4 = [] := h5
  obtain rfl : v1 = .bool s := h1
  obtain rfl : v3 = .bool false := h3
  obtain ⟨p1, p2, p3⟩ := outR_parts hz
  refine ⟨b, rfl, Nat.le_trans hlo hb, v2, v4, by rw [p1]; exact hh, ?_, ?_⟩
  · rw [p2]; exact h2
  · rw [p3]; exact h4
def RRes (w : World) (z : Rat) (e : Ending) (w' : World) : Prop := ∃ v, e = .returned v ∧ RatIn w' v z ∧ Below w.heap.size w w'
theorem ref2_any {f : FuncId} {w : World} {x y : Value} {p q z : Rat} (hx : RatIn w x p) (hy : RatIn w y q) (bp : RB p) (bq : RB q) (hG : Tryz.prog.globals.size ≤ w.heap.size) (hT : Tab w)
    (h1 : ∀ ρ : XEnv, ρ.q 0 = Big.nu p → ρ.q 1 = Big.de p → ρ.q 2 = Big.nu q → ρ.q 3 = Big.de q → ∃ A s n d, AllX ρ A ∧ runV A [blkR (Big.ng p) xv x1, blkR (Big.ng q) x2 x3] [0, 1] f = some (outR s n d) ∧ OutOK ρ s n d z)
    (h2 : p = q → ∀ ρ : XEnv, ρ.q 0 = Big.nu p → ρ.q 1 = Big.de p → ∃ A s n d, AllX ρ A ∧ runV A [blkR (Big.ng p) xv x1] [0, 0] f = some (outR s n d) ∧ OutOK ρ s n d z) :
    Calls Tryz.prog f ⟨[x, y]⟩ w (RRes w z) := by
  have hx0 := hx
  obtain ⟨b1, rfl, g1, u1, d1, hb1, hu1, hd1⟩ := hx
  have hy0 := hy
  obtain ⟨b2, rfl, g2, u2, d2, hb2, hu2, hd2⟩ := hy
  have hlim : (wSig (xenv [] (by simp))).G ≤ 100000 := by show Tryz.prog.globals.size ≤ 100000; exact Nat.le_of_ble_eq_true (by kernel_rfl)
  by_cases hbb : b1 = b2
  · subst hbb
    have hpq := ratIn_inj hx0 hy0
    obtain ⟨A, s, n, d, hA, hr, ho⟩ := h2 hpq (xenv [Big.nu p, Big.de p] (by intro n hn; simp only [List.mem_cons, List.not_mem_nil, or_false] at hn; rcases hn with rfl | rfl; exact bp.1; exact bp.2)) rfl rfl
    refine (tellsB_calls (wFits hA) (wSums_ok hA) hr (fun _ _ _ _ _ hp _ => sel_ok hp _) (by kernel_rfl) hlim (bs := [b1]) (us := []) ⟨b1, [], rfl, blkR_are hb1 hu1 hd1, by simp, g1, rfl⟩ rfl hG hT).mono ?_
    rintro e w' ⟨v, rfl, hv, hb⟩
    exact ⟨v, rfl, outR_is hv ho hG, hb⟩
  · obtain ⟨A, s, n, d, hA, hr, ho⟩ := h1 (xenv [Big.nu p, Big.de p, Big.nu q, Big.de q] (by intro n hn; simp only [List.mem_cons, List.not_mem_nil, or_false] at hn; rcases hn with rfl | rfl | rfl | rfl; exact bp.1; exact bp.2; exact bq.1; exact bq.2)) rfl rfl rfl rfl
    refine (tellsB_calls (wFits hA) (wSums_ok hA) hr (fun _ _ _ _ _ hp _ => sel_ok hp _) (by kernel_rfl) hlim (bs := [b1, b2]) (us := []) ⟨b1, [b2], rfl, blkR_are hb1 hu1 hd1, by simp [hbb], g1, b2, [], rfl, blkR_are hb2 hu2 hd2, by simp, g2, rfl⟩ rfl hG hT).mono ?_
    rintro e w' ⟨v, rfl, hv, hb⟩
    exact ⟨v, rfl, outR_is hv ho hG, hb⟩
theorem de_pos (q : Rat) : 0 < Big.de q := Nat.pos_of_ne_zero q.den_nz
theorem allX_nil (ρ : XEnv) : AllX ρ [] := fun x hx => by cases hx
theorem allX_cons {ρ : XEnv} {x : Xs} {A : List Xs} (h : x.holds ρ.q) (i : AllX ρ A) : AllX ρ (x :: A) := fun y hy => by
  rcases List.mem_cons.1 hy with rfl | hy
  · exact h
  · exact i y hy
theorem sI_mul (s : Bool) (a d : Nat) : Big.sI s a * (d : Int) = Big.sI s (a * d) := by
  cases s <;> simp [Big.sI, Int.neg_mul]
theorem sI_add (s t : Bool) (A B : Nat) : ∃ S N, (cond (beqB (s && !decide (A = 0)) (t && !decide (B = 0))) ((s && !decide (A = 0)) && !(decide (A = 0) && decide (B = 0)), A + B) (cond (decide (A < B)) (t && !decide (B = 0), B - A) ((s && !decide (A = 0)) && !decide (A = B), A - B)) : Bool × Nat) = (S, N) ∧
    Big.sI s A + Big.sI t B = Big.sI S N ∧ (S = true → 0 < N) := by
  refine ⟨_, _, rfl, ?_⟩
  rcases Nat.eq_zero_or_pos A with hA | hA <;> rcases Nat.eq_zero_or_pos B with hB | hB <;> cases s <;> cases t <;> rcases Nat.lt_trichotomy A B with h | h | h <;>
    first
      | (exfalso; omega)
      | (have e1 : ¬ A = 0 := by omega
         have e2 : ¬ B = 0 := by omega
         have e3 : ¬ A < B := by omega
         have e4 : ¬ A = B := by omega
         simp [e1, e2, e3, e4, Big.sI, beqB]; try omega)
      | (have e1 : ¬ A = 0 := by omega
         have e2 : ¬ B = 0 := by omega
         have e3 : ¬ A < B := by omega
         subst h
         simp [e1, Big.sI, beqB]; try omega)
      | (have e1 : ¬ A = 0 := by omega
         have e2 : ¬ B = 0 := by omega
         simp [e1, e2, h, Big.sI, beqB]; try omega)
      | (have e1 : ¬ A = 0 := by omega
         subst hB
         simp [e1, hA, Big.sI, beqB]; try omega)
      | (have e1 : ¬ B = 0 := by omega
         subst hA
         simp [e1, hB, Big.sI, beqB]; try omega)
      | (subst hA; subst hB; simp [Big.sI, beqB])
theorem holds1 {ρ : Nat → Nat} {a : Xe} {t : Bool} (h : t = true ↔ a.ev ρ = 0) : (⟨1, a, x0, t⟩ : Xs).holds ρ := h
theorem holds2 {ρ : Nat → Nat} {a b : Xe} {t : Bool} (h : t = true ↔ a.ev ρ = b.ev ρ) : (⟨2, a, b, t⟩ : Xs).holds ρ := h
theorem holds3 {ρ : Nat → Nat} {a b : Xe} {t : Bool} (h : t = true ↔ a.ev ρ < b.ev ρ) : (⟨3, a, b, t⟩ : Xs).holds ρ := h
theorem holds4 {ρ : Nat → Nat} {a : Xe} {t : Bool} (h : t = true ↔ 512 < szN (a.ev ρ)) : (⟨4, a, x0, t⟩ : Xs).holds ρ := h
section
variable {ρ : XEnv} {a b c d : Xe}
theorem not_nought {n : Nat} (h : 0 < n) : (false = true ↔ n = 0) := ⟨fun h => (by cases h), fun h => (by omega)⟩
theorem dens_ok (hb : 0 < b.ev ρ.q) (hd : 0 < d.ev ρ.q) {A : List Xs} (hA : AllX ρ A) : AllX ρ (dens b d ++ A) :=
  allX_cons (holds1 (not_nought hb)) (allX_cons (holds1 (not_nought hd)) (allX_cons (holds1 (not_nought (Nat.mul_pos hb hd))) hA))
theorem sum_ok (s t : Bool) (hb : 0 < b.ev ρ.q) (hd : 0 < d.ev ρ.q) {A B : Nat} (eA : A = a.ev ρ.q * d.ev ρ.q) (eB : B = c.ev ρ.q * b.ev ρ.q) :
    AllX ρ (sumT a b c d (decide (A = 0)) (decide (B = 0)) (decide (A < B)) (decide (A = B))) ∧ (decide (A < B) && decide (A = B)) = false ∧
    ∃ S N D, sumO a b c d s t (decide (A = 0)) (decide (B = 0)) (decide (A < B)) (decide (A = B)) = outR S N D ∧ OutOK ρ S N D (mkRat (Big.sI s (a.ev ρ.q)) (b.ev ρ.q) + mkRat (Big.sI t (c.ev ρ.q)) (d.ev ρ.q)) := by
  have hq : mkRat (Big.sI s (a.ev ρ.q)) (b.ev ρ.q) + mkRat (Big.sI t (c.ev ρ.q)) (d.ev ρ.q) = mkRat (Big.sI s A + Big.sI t B) (b.ev ρ.q * d.ev ρ.q) := by
    rw [Rat.mkRat_add_mkRat _ _ (by omega) (by omega), sI_mul, sI_mul, eA, eB]
  refine ⟨dens_ok hb hd (allX_cons (holds1 ?_) (allX_cons (holds1 ?_) (allX_cons (holds1 ?_) (allX_cons (holds3 ?_) (allX_cons (holds2 ?_) (allX_cons (holds1 ?_) (allX_cons (holds1 ?_) (allX_nil ρ)))))))), ?_, ?_⟩
  · rw [decide_eq_true_iff, eA]; rfl
  · rw [decide_eq_true_iff, eB]; rfl
  · rw [Bool.and_eq_true, decide_eq_true_iff, decide_eq_true_iff]
    show _ ↔ a.ev ρ.q * d.ev ρ.q + c.ev ρ.q * b.ev ρ.q = 0
    rw [← eA, ← eB]; omega
  · rw [decide_eq_true_iff, eA, eB]; rfl
  · rw [decide_eq_true_iff, eA, eB]; rfl
  · rw [Bool.not_eq_true', decide_eq_false_iff_not]
    show _ ↔ c.ev ρ.q * b.ev ρ.q - a.ev ρ.q * d.ev ρ.q = 0
    rw [← eA, ← eB]; omega
  · rw [Bool.or_eq_true, decide_eq_true_iff, decide_eq_true_iff]
    show _ ↔ a.ev ρ.q * d.ev ρ.q - c.ev ρ.q * b.ev ρ.q = 0
    rw [← eA, ← eB]; omega
  · rw [Bool.and_eq_false_iff, decide_eq_false_iff_not, decide_eq_false_iff_not]; omega
  · obtain ⟨S, N, hSN, heq, hpos⟩ := sI_add s t A B
    rw [hq, heq]
    have fin : ∀ {S' : Bool} {N' : Xe} {n : Nat}, (S', n) = (S, N) → N'.ev ρ.q = n → OutOK ρ S' N' (.mul b d) (mkRat (Big.sI S N) (b.ev ρ.q * d.ev ρ.q)) := by
      rintro S' N' n h1 h2
      simp only [Prod.mk.injEq] at h1
      obtain ⟨rfl, rfl⟩ := h1
      exact ⟨Nat.mul_pos hb hd, fun h => by rw [h2]; exact hpos h, by rw [h2]; rfl⟩
    unfold sumO
    cases h1 : beqB (s && !decide (A = 0)) (t && !decide (B = 0)) with
    | true =>
      rw [h1] at hSN
      exact ⟨_, _, _, rfl, fin hSN (by rw [eA, eB]; rfl)⟩
    | false =>
      rw [h1] at hSN
      cases h2 : decide (A < B) with
      | true =>
        rw [h2] at hSN
        exact ⟨_, _, _, rfl, fin hSN (by rw [eA, eB]; rfl)⟩
      | false =>
        rw [h2] at hSN
        exact ⟨_, _, _, rfl, fin hSN (by rw [eA, eB]; rfl)⟩
end
section
variable {w : World} {x y : Value} {p q : Rat}
theorem mk_ev {ρ : XEnv} {p : Rat} {i j : Nat} (h0 : ρ.q i = Big.nu p) (h1 : ρ.q j = Big.de p) : p = mkRat (Big.sI (Big.ng p) ((Xe.v i).ev ρ.q)) ((Xe.v j).ev ρ.q) := by
  show p = mkRat (Big.sI (Big.ng p) (ρ.q i)) (ρ.q j)
  rw [h0, h1]; exact Big.is_mk p
theorem radd_any (hx : RatIn w x p) (hy : RatIn w y q) (bp : RB p) (bq : RB q) (hG : Tryz.prog.globals.size ≤ w.heap.size) (hT : Tab w) : Calls Tryz.prog 25 ⟨[x, y]⟩ w (RRes w (p + q)) := by
  refine ref2_any hx hy bp bq hG hT (fun ρ e0 e1 e2 e3 => ?_) fun e ρ e0 e1 => ?_
  · obtain ⟨hA, hlt, S, N, D, hS, hO⟩ := sum_ok (ρ := ρ) (a := xv) (b := x1) (c := x2) (d := x3) (Big.ng p) (Big.ng q) (by show 0 < ρ.q 1; rw [e1]; exact de_pos p) (by show 0 < ρ.q 3; rw [e3]; exact de_pos q) rfl rfl
    refine ⟨_, S, N, D, hA, by rw [radd_run _ _ _ _ _ _ hlt, hS], ?_⟩
    have := hO
    unfold xv x1 x2 x3 at this
    rwa [← mk_ev e0 e1, ← mk_ev e2 e3] at this
  · subst e
    obtain ⟨hA, -, S, N, D, hS, hO⟩ := sum_ok (ρ := ρ) (a := xv) (b := x1) (c := xv) (d := x1) (Big.ng p) (Big.ng p) (by show 0 < ρ.q 1; rw [e1]; exact de_pos p) (by show 0 < ρ.q 1; rw [e1]; exact de_pos p) rfl rfl
    rw [decide_eq_false (Nat.lt_irrefl _), decide_eq_true (rfl : xv.ev ρ.q * x1.ev ρ.q = xv.ev ρ.q * x1.ev ρ.q)] at hA hS
    refine ⟨_, S, N, D, hA, by rw [radd_self, hS], ?_⟩
    have := hO
    unfold xv x1 at this
    rwa [← mk_ev e0 e1] at this
theorem neg_mk (q : Rat) : mkRat (Big.sI (!Big.ng q) (Big.nu q)) (Big.de q) = -q := by
  have h := Big.is_mk q
  have e : Big.sI (!Big.ng q) (Big.nu q) = -Big.sI (Big.ng q) (Big.nu q) := by cases Big.ng q <;> simp [Big.sI]
  rw [e, ← Rat.neg_mkRat, ← h]
theorem rsub_any (hx : RatIn w x p) (hy : RatIn w y q) (bp : RB p) (bq : RB q) (hG : Tryz.prog.globals.size ≤ w.heap.size) (hT : Tab w) : Calls Tryz.prog 33 ⟨[x, y]⟩ w (RRes w (p - q)) := by
  refine ref2_any hx hy bp bq hG hT (fun ρ e0 e1 e2 e3 => ?_) fun e ρ e0 e1 => ?_
  · obtain ⟨hA, hlt, S, N, D, hS, hO⟩ := sum_ok (ρ := ρ) (a := xv) (b := x1) (c := x2) (d := x3) (Big.ng p) (!Big.ng q) (by show 0 < ρ.q 1; rw [e1]; exact de_pos p) (by show 0 < ρ.q 3; rw [e3]; exact de_pos q) rfl rfl
    refine ⟨_, S, N, D, hA, by rw [rsub_run _ _ _ _ _ _ hlt, hS], ?_⟩
    have := hO
    unfold xv x1 x2 x3 at this
    rw [← mk_ev e0 e1] at this
    rw [Rat.sub_eq_add_neg, ← neg_mk q, ← e2, ← e3]
    exact this
  · subst e
    obtain ⟨hA, -, S, N, D, hS, hO⟩ := sum_ok (ρ := ρ) (a := xv) (b := x1) (c := xv) (d := x1) (Big.ng p) (!Big.ng p) (by show 0 < ρ.q 1; rw [e1]; exact de_pos p) (by show 0 < ρ.q 1; rw [e1]; exact de_pos p) rfl rfl
    rw [decide_eq_false (Nat.lt_irrefl _), decide_eq_true (rfl : xv.ev ρ.q * x1.ev ρ.q = xv.ev ρ.q * x1.ev ρ.q)] at hA hS
    refine ⟨_, S, N, D, hA, by rw [rsub_self, hS], ?_⟩
    have := hO
    unfold xv x1 at this
    rw [← mk_ev e0 e1] at this
    rw [Rat.sub_eq_add_neg]
    have hn := neg_mk p
    rw [← e0, ← e1] at hn
    rw [← hn]
    exact this
theorem sI_prod (s t : Bool) (a c : Nat) : Big.sI s a * Big.sI t c = Big.sI (xor s t) (a * c) := by
  cases s <;> cases t <;> simp [Big.sI, Int.neg_mul, Int.mul_neg]
theorem sI_zero (s t : Bool) (n : Nat) (h : n ≠ 0 → s = t) : Big.sI s n = Big.sI t n := by
  rcases Nat.eq_zero_or_pos n with h0 | h0
  · subst h0; cases s <;> cases t <;> rfl
  · rw [h (by omega)]
theorem rmul_any (hx : RatIn w x p) (hy : RatIn w y q) (bp : RB p) (bq : RB q) (hG : Tryz.prog.globals.size ≤ w.heap.size) (hT : Tab w) : Calls Tryz.prog 26 ⟨[x, y]⟩ w (RRes w (p * q)) := by
  have key : ∀ (s : Bool), s = (xor (Big.ng p) (Big.ng q) && !decide (Big.nu p * Big.nu q = 0)) → (s = true → 0 < Big.nu p * Big.nu q) ∧ p * q = mkRat (Big.sI s (Big.nu p * Big.nu q)) (Big.de p * Big.de q) := by
    intro s hs
    refine ⟨fun h => ?_, ?_⟩
    · rw [hs, Bool.and_eq_true, Bool.not_eq_true', decide_eq_false_iff_not] at h
      omega
    · rw [sI_zero s (xor (Big.ng p) (Big.ng q)) _ fun h => by rw [hs, decide_eq_false h]; simp]
      rw [← sI_prod]
      conv => lhs; rw [Big.is_mk p, Big.is_mk q]
      rw [Rat.mkRat_mul_mkRat]
  refine ref2_any hx hy bp bq hG hT (fun ρ e0 e1 e2 e3 => ?_) fun e ρ e0 e1 => ?_
  · have d1 : 0 < x1.ev ρ.q := by show 0 < ρ.q 1; rw [e1]; exact de_pos p
    have d3 : 0 < x3.ev ρ.q := by show 0 < ρ.q 3; rw [e3]; exact de_pos q
    obtain ⟨k1, k2⟩ := key _ rfl
    rw [← e0, ← e1, ← e2, ← e3] at k2
    rw [← e0, ← e2] at k1
    exact ⟨_, _, _, _, dens_ok d1 d3 (allX_cons (holds1 (t := decide (ρ.q 0 * ρ.q 2 = 0)) decide_eq_true_iff) (allX_nil ρ)), rmul_run _ _ _, ⟨Nat.mul_pos d1 d3, k1, k2⟩⟩
  · subst e
    have d1 : 0 < x1.ev ρ.q := by show 0 < ρ.q 1; rw [e1]; exact de_pos p
    obtain ⟨k1, k2⟩ := key false (by simp)
    rw [← e0, ← e1] at k2
    exact ⟨_, _, _, _, dens_ok d1 d1 (allX_cons (holds1 (t := decide (ρ.q 0 * ρ.q 0 = 0)) decide_eq_true_iff) (allX_nil ρ)), rmul_self _ _, ⟨Nat.mul_pos d1 d1, fun h => (by cases h), k2⟩⟩
theorem quo_mk (p q : Rat) (hq : q ≠ 0) : p / q = mkRat (Big.sI (xor (Big.ng p) (Big.ng q)) (Big.nu p * Big.de q)) (Big.de p * Big.nu q) := by
  have h0 : Big.nu q ≠ 0 := fun h => hq (Big.nu_zero.1 h)
  obtain ⟨i1, i2, i3⟩ := Big.inv_parts q h0
  rw [Rat.div_def]
  conv => lhs; rw [Big.is_mk p, Big.is_mk q⁻¹, i1, i2, i3]
  rw [Rat.mkRat_mul_mkRat, sI_prod]
theorem rquo_any (hx : RatIn w x p) (hy : RatIn w y q) (bp : RB p) (bq : RB q) (hq : q ≠ 0) (hG : Tryz.prog.globals.size ≤ w.heap.size) (hT : Tab w) : Calls Tryz.prog 30 ⟨[x, y]⟩ w (RRes w (p / q)) := by
  have hq0 : 0 < Big.nu q := Nat.pos_of_ne_zero fun h => hq (Big.nu_zero.1 h)
  have key : ∀ (s : Bool), s = (xor (Big.ng p && !decide (Big.nu p * Big.de q = 0)) (Big.ng q) && !decide (Big.nu p * Big.de q = 0)) → (s = true → 0 < Big.nu p * Big.de q) ∧ p / q = mkRat (Big.sI s (Big.nu p * Big.de q)) (Big.de p * Big.nu q) := by
    intro s hs
    refine ⟨fun h => ?_, ?_⟩
    · rw [hs, Bool.and_eq_true, Bool.not_eq_true', decide_eq_false_iff_not] at h
      omega
    · rw [sI_zero s (xor (Big.ng p) (Big.ng q)) _ fun h => by rw [hs, decide_eq_false h]; simp]
      exact quo_mk p q hq
  refine ref2_any hx hy bp bq hG hT (fun ρ e0 e1 e2 e3 => ?_) fun e ρ e0 e1 => ?_
  · have d1 : 0 < x1.ev ρ.q := by show 0 < ρ.q 1; rw [e1]; exact de_pos p
    have d3 : 0 < x3.ev ρ.q := by show 0 < ρ.q 3; rw [e3]; exact de_pos q
    have d2 : 0 < x2.ev ρ.q := by show 0 < ρ.q 2; rw [e2]; exact hq0
    obtain ⟨k1, k2⟩ := key _ rfl
    rw [← e0, ← e1, ← e2, ← e3] at k2
    rw [← e0, ← e3] at k1
    exact ⟨_, _, _, _, dens_ok d1 d3 (allX_cons (holds1 (t := decide (ρ.q 0 * ρ.q 3 = 0)) decide_eq_true_iff) (allX_cons (holds1 (a := .mul x1 x2) (not_nought (Nat.mul_pos d1 d2))) (allX_nil ρ))), rquo_run _ _ _, ⟨Nat.mul_pos d1 d2, k1, k2⟩⟩
  · subst e
    have d1 : 0 < x1.ev ρ.q := by show 0 < ρ.q 1; rw [e1]; exact de_pos p
    have d0 : 0 < xv.ev ρ.q := by show 0 < ρ.q 0; rw [e0]; exact hq0
    have hne : ¬ Big.nu p * Big.de p = 0 := by have := Nat.mul_pos hq0 (de_pos p); omega
    obtain ⟨k1, k2⟩ := key false (by rw [decide_eq_false hne]; cases Big.ng p <;> rfl)
    rw [← e0, ← e1] at k2
    exact ⟨_, _, _, _, dens_ok d1 d1 (allX_cons (holds1 (a := .mul xv x1) (not_nought (Nat.mul_pos d0 d1))) (allX_cons (holds1 (a := .mul x1 xv) (not_nought (Nat.mul_pos d1 d0))) (allX_nil ρ))), rquo_self _, ⟨Nat.mul_pos d1 d0, fun h => (by cases h), k2⟩⟩
end
end Ev
end Go.Proofs.YtepnghhgmjobjaaGreat
namespace Go.Proofs.YtepnghhgmjobjaaGreat
open Go Go.RowKit
namespace Ev
set_option maxRecDepth 100000
noncomputable def mkFrac (s : Bool) (vs : List Value) : List Value := match vs with
  | [a, b] => [.agg ⟨[.bool s, a, b]⟩]
  | _ => []
theorem mkFrac_ok (s : Bool) (r : Ren) (vs us : List Value) (h : VsR r vs us) : VsR r (mkFrac s vs) (mkFrac s us) := by
  match vs, us, h with
  | [], _, .nil => exact .nil
  | [a], _, .cons _ .nil => exact .nil
  | [a, b], _, .cons h1 (.cons h2 .nil) => exact .cons (.agg (.cons (.same rfl) (.cons h1 (.cons h2 .nil)))) .nil
  | a :: b :: c :: l, _, .cons h1 (.cons h2 (.cons h3 h4)) => exact .nil
noncomputable def runF (A : List Xs) (s : Bool) (a b : Wf) : Option (E3 Wf) := tellsB [] [a, b] (fun _ vs => mkFrac s vs) (call Tryz.prog (wCfg A) (wSums2 A) 60 16)
noncomputable def ratT (dz nz lt one : Bool) : List Xs := [⟨1, x1, x0, dz⟩, ⟨1, xv, x0, nz⟩, ⟨3, .gcd xv x1, .c 1, lt⟩, ⟨2, .gcd xv x1, .c 1, one⟩]
noncomputable def noR : E3 Wf := .tuple [.b 87 [.p (.bool false), .p (.slice none 0 0), .p (.bool false), .p (.slice none 0 0)], .d (.one (.p (.bool false)))]
noncomputable def yesR (s : Bool) : E3 Wf := .tuple [.b 87 [.p (.bool s), .f (.wd (.quo xv (.gcd xv x1))), .p (.bool false), .f (.wd (.quo x1 (.gcd xv x1)))], .d (.one (.p (.bool true)))]
theorem rat_run (s dz nz lt one : Bool) (h : (lt && !dz) = false) : runF (ratT dz nz lt one) s (.st xv) (.st x1) = some (cond (dz || ((s && nz) || !one)) noR (yesR s)) := by
  cases dz <;> cases lt <;> first | (cases h; done) | (cases s <;> cases nz <;> cases one <;> kernel_rfl)
theorem rat_badN (s : Bool) : runF [] s .sb (.st x1) = some noR := by cases s <;> kernel_rfl
theorem rat_badD (s : Bool) : runF [] s (.st xv) .sb = some noR := by cases s <;> kernel_rfl
theorem rat_badB (s : Bool) : runF [] s .sb .sb = some noR := by cases s <;> kernel_rfl
noncomputable def fracT (n l m : Bool) : List Xs := [⟨1, xv, x0, n⟩, ⟨1, x1, x0, false⟩, ⟨4, xv, x0, l⟩, ⟨4, x1, x0, m⟩]
noncomputable def fracO (s n l m : Bool) : E3 Wf := cond (l || m) (.tuple [.d (.agg [.p (.bool false), .p (.string ⟨#[]⟩), .p (.string ⟨#[]⟩)]), .d (.one (.p (.int .i64 3)))])
  (.tuple [.d (.agg [.p (.bool (s && !n)), .f (.sx xv), .f (.sx x1)]), .d (.one (.p (.int .i64 0)))])
theorem frac_run (s n l m : Bool) : tellsB [blkR s xv x1] [] (fun ps _ => sel [0] ps) (call Tryz.prog (wCfg (fracT n l m)) (wSums2 (fracT n l m)) 60 29) = some (fracO s n l m) := by
  cases s <;> cases n <;> cases l <;> cases m <;> kernel_rfl
end Ev
end Go.Proofs.YtepnghhgmjobjaaGreat
namespace Go.Proofs.YtepnghhgmjobjaaGreat
open Go Go.RowKit
namespace Ev
set_option maxRecDepth 100000
theorem bits_sz {k n : Nat} (h : Sz k n) : Bits (64 * k) n := ⟨by
  have := h.out
  rw [show Big.M64 = 2 ^ 64 from rfl, ← Nat.pow_mul] at this
  exact this⟩
theorem bits_sm {k : Nat} {q : Rat} (h : Sm k q) (hk : k ≤ 4096) : RB q := ⟨(bits_sz h.nu).up (by omega), (bits_sz h.de).up (by omega)⟩
theorem bits_bytes {n : Nat} (h : szN n ≤ 512) : Bits 262144 n := (bits_sz (Sz.bytes h)).up (by decide)
theorem glob_lim : Tryz.prog.globals.size ≤ 100000 := Nat.le_of_ble_eq_true (by kernel_rfl)
def RatYes (w : World) (q : Rat) (e : Ending) (w' : World) : Prop := ∃ v, e = .returned (.tuple ⟨[v, .bool true]⟩) ∧ RatIn w' v q ∧ Below w.heap.size w w'
def RatNo (w : World) (e : Ending) (w' : World) : Prop := ∃ b, e = .returned (.tuple ⟨[.pointer (some ⟨b, 0, none⟩), .bool false]⟩) ∧ Below w.heap.size w w'
theorem noR_is {ρ : XEnv} {lo : Nat} {bs : List Nat} {w : World} {v : Value} (h : noR.is (wSig ρ) lo bs w v) : ∃ b, v = .tuple ⟨[.pointer (some ⟨b, 0, none⟩), .bool false]⟩ := by
  obtain ⟨vs, rfl, v1, l1, rfl, ⟨b, us, rfl, -⟩, v2, l2, rfl, h2, h3⟩ := h
  obtain rfl : l2 = [] := h3
  obtain rfl : v2 = .bool false := h2
  exact ⟨b, rfl⟩
section
variable {w : World}
theorem rat_no {s : Bool} {a b : Wf} {A : List Xs} {ρ : XEnv} {u v : Value} (hA : AllX ρ A) (hr : runF A s a b = some noR) (ha : a.holds ρ w u) (hb : b.holds ρ w v) (hG : Tryz.prog.globals.size ≤ w.heap.size) (hT : Tab w) :
    Calls Tryz.prog 16 ⟨[.agg ⟨[.bool s, u, v]⟩]⟩ w (RatNo w) := by
  refine (tellsB_calls (wFits hA) (wSums2_ok hA) hr (fun r _ _ vs us _ h => mkFrac_ok s r vs us h) rfl glob_lim (bs := []) (us := [u, v]) rfl ⟨u, [v], rfl, ha, Wf.one ha, v, [], rfl, hb, Wf.one hb, rfl⟩ hG hT).mono ?_
  rintro e w' ⟨x, rfl, hx, hb⟩
  obtain ⟨b, rfl⟩ := noR_is hx
  exact ⟨b, rfl, hb⟩
theorem rat_ok {q : Rat} (hq : Fit q) (hG : Tryz.prog.globals.size ≤ w.heap.size) (hT : Tab w) : Calls Tryz.prog 16 ⟨[.agg ⟨cel (tri q)⟩]⟩ w (RatYes w q) := by
  obtain ⟨ρ, e0, e1⟩ : ∃ ρ : XEnv, ρ.q 0 = Big.nu q ∧ ρ.q 1 = Big.de q := ⟨xenv [Big.nu q, Big.de q] (by intro n hn; simp only [List.mem_cons, List.not_mem_nil, or_false] at hn; rcases hn with rfl | rfl; exact bits_bytes hq.nu; exact bits_bytes hq.de), rfl, rfl⟩
  have hd := de_pos q
  have hg : Nat.gcd (Big.nu q) (Big.de q) = 1 := q.reduced
  have hA : AllX ρ (ratT false (decide (ρ.q 0 = 0)) false true) := by
    refine allX_cons (holds1 (not_nought (by show 0 < ρ.q 1; rw [e1]; exact hd))) (allX_cons (holds1 decide_eq_true_iff) (allX_cons (holds3 ?_) (allX_cons (holds2 ?_) (allX_nil ρ))))
    · show _ ↔ Nat.gcd (ρ.q 0) (ρ.q 1) < 1
      rw [e0, e1, hg]; simp
    · show _ ↔ Nat.gcd (ρ.q 0) (ρ.q 1) = 1
      rw [e0, e1, hg]
      exact ⟨fun _ => rfl, fun _ => rfl⟩
  have hs : (Big.ng q && decide (ρ.q 0 = 0)) = false := by
    rw [e0, Bool.and_eq_false_iff, decide_eq_false_iff_not]
    cases hn : Big.ng q with
    | false => exact .inl rfl
    | true => exact .inr fun h0 => by rw [Big.nu_zero.1 h0] at hn; cases hn
  have hr := rat_run (Big.ng q) false (decide (ρ.q 0 = 0)) false true rfl
  rw [hs] at hr
  have ha : (Wf.st xv).holds ρ w (.string (bst (Big.nu q))) := ⟨by show _ = Value.string (bst (ρ.q 0)); rw [e0], by show szN (ρ.q 0) ≤ 512; rw [e0]; exact hq.nu⟩
  have hb : (Wf.st x1).holds ρ w (.string (bst (Big.de q))) := ⟨by show _ = Value.string (bst (ρ.q 1)); rw [e1], by show szN (ρ.q 1) ≤ 512; rw [e1]; exact hq.de⟩
  refine (tellsB_calls (wFits hA) (wSums2_ok hA) hr (fun r _ _ vs us _ h => mkFrac_ok _ r vs us h) rfl glob_lim (bs := []) (us := [.string (bst (Big.nu q)), .string (bst (Big.de q))]) rfl ⟨_, _, rfl, ha, rfl, _, [], rfl, hb, rfl, rfl⟩ hG hT).mono ?_
  rintro e w' ⟨x, rfl, ⟨vs, rfl, v1, l1, rfl, h1, v2, l2, rfl, h2, h3⟩, hb⟩
  obtain rfl : l2 = [] := h3
  obtain rfl : v2 = .bool true := h2
  refine ⟨v1, rfl, ?_, hb⟩
  refine outR_is (ρ := ρ) (s := Big.ng q) (n := xv) (d := x1) (lo := w.heap.size) (bs := []) h1 ⟨by show 0 < ρ.q 1; rw [e1]; exact hd, fun hn => ?_, mk_ev e0 e1⟩ hG
  have h4 := hs
  rw [hn, Bool.true_and, decide_eq_false_iff_not] at h4
  exact Nat.pos_of_ne_zero h4
theorem rat_bad (x : Tri) (hx : BadF x) (hG : Tryz.prog.globals.size ≤ w.heap.size) (hT : Tab w) : Calls Tryz.prog 16 ⟨[.agg ⟨cel x⟩]⟩ w (RatNo w) := by
  obtain ⟨s, a, b⟩ := x
  have h0 : AllX (xenv [] (by simp)) [] := allX_nil _
  cases ha : mayB a with
  | false =>
    have fa : ∀ ρ, Wf.sb.holds ρ w (.string a) := fun ρ => ⟨a, rfl, ha⟩
    cases hb : mayB b with
    | false => exact rat_no h0 (rat_badB s) (fa _) ⟨b, rfl, hb⟩ hG hT
    | true =>
      obtain ⟨e2, z2⟩ := mayB_is hb
      generalize Big.bnum b.data.toList = d at *
      subst e2
      exact rat_no (ρ := xenv [0, d] (by intro n hn; simp only [List.mem_cons, List.not_mem_nil, or_false] at hn; rcases hn with rfl | rfl; exact bits_zero _; exact bits_bytes z2)) (allX_nil _) (rat_badN s) (fa _) ⟨rfl, z2⟩ hG hT
  | true =>
    obtain ⟨e1, z1⟩ := mayB_is ha
    generalize Big.bnum a.data.toList = n at *
    subst e1
    cases hb : mayB b with
    | false => exact rat_no (ρ := xenv [n] (by intro m hn; simp only [List.mem_cons, List.not_mem_nil, or_false] at hn; rcases hn with rfl; exact bits_bytes z1)) (allX_nil _) (rat_badD s) ⟨rfl, z1⟩ ⟨b, rfl, hb⟩ hG hT
    | true =>
      obtain ⟨e2, z2⟩ := mayB_is hb
      generalize Big.bnum b.data.toList = d at *
      subst e2
      obtain ⟨ρ, e0, e1⟩ : ∃ ρ : XEnv, ρ.q 0 = n ∧ ρ.q 1 = d := ⟨xenv [n, d] (by intro m hn; simp only [List.mem_cons, List.not_mem_nil, or_false] at hn; rcases hn with rfl | rfl; exact bits_bytes z1; exact bits_bytes z2), rfl, rfl⟩
      have hA : AllX ρ (ratT (decide (d = 0)) (decide (n = 0)) (decide (Nat.gcd n d < 1)) (decide (Nat.gcd n d = 1))) := by
        refine allX_cons (holds1 ?_) (allX_cons (holds1 ?_) (allX_cons (holds3 ?_) (allX_cons (holds2 ?_) (allX_nil ρ))))
        · rw [decide_eq_true_iff, ← e1]; rfl
        · rw [decide_eq_true_iff, ← e0]; rfl
        · rw [decide_eq_true_iff, ← e0, ← e1]; rfl
        · rw [decide_eq_true_iff, ← e0, ← e1]; rfl
      have hlt : (decide (Nat.gcd n d < 1) && !decide (d = 0)) = false := by
        rw [Bool.and_eq_false_iff, decide_eq_false_iff_not, Bool.not_eq_false', decide_eq_true_iff]
        rcases Nat.eq_zero_or_pos d with h | h
        · exact .inr h
        · have := Nat.gcd_pos_of_pos_right n h
          exact .inl (by omega)
      have hr := rat_run s (decide (d = 0)) (decide (n = 0)) (decide (Nat.gcd n d < 1)) (decide (Nat.gcd n d = 1)) hlt
      have hc : (decide (d = 0) || ((s && decide (n = 0)) || !decide (Nat.gcd n d = 1))) = true := by
        rcases Nat.eq_zero_or_pos d with d0 | d0
        · rw [decide_eq_true d0]; rfl
        · by_cases hg : Nat.gcd n d = 1
          · by_cases hs : s = true → 1 ≤ n
            · obtain ⟨p1, p2, p3⟩ := Big.parts (q := mkRat (Big.sI s n) d) (b := s) (n := n) (d := d) (by omega) hg hs (show d ≠ 0 by omega) rfl rfl
              exact absurd ⟨p1.symm, by rw [p2], by rw [p3]⟩ (hx (mkRat (Big.sI s n) d) ⟨by rw [p2]; exact z1, by rw [p3]; exact z2⟩)
            · have h1 : s = true ∧ n = 0 := by
                cases s with
                | false => exact absurd (fun h => by cases h) hs
                | true => exact ⟨rfl, by
                    rcases Nat.eq_zero_or_pos n with h | h
                    · exact h
                    · exact absurd (fun _ => h) hs⟩
              rw [h1.1, decide_eq_true h1.2]; simp
          · rw [decide_eq_false hg]; simp
      rw [hc] at hr
      exact rat_no hA hr ⟨by show _ = Value.string (bst (ρ.q 0)); rw [e0], by show szN (ρ.q 0) ≤ 512; rw [e0]; exact z1⟩ ⟨by show _ = Value.string (bst (ρ.q 1)); rw [e1], by show szN (ρ.q 1) ≤ 512; rw [e1]; exact z2⟩ hG hT
def FrcRes (w : World) (q : Rat) (e : Ending) (w' : World) : Prop :=
  (Fit q ∧ e = .returned (.tuple ⟨[.agg ⟨cel (tri q)⟩, .int .i64 0]⟩) ∨ ¬ Fit q ∧ e = .returned (.tuple ⟨[.agg ⟨[.bool false, .string ⟨#[]⟩, .string ⟨#[]⟩]⟩, .int .i64 3]⟩)) ∧ Below w.heap.size w w'
theorem frac_any {v : Value} {q : Rat} (hv : RatIn w v q) (hq : RB q) (hG : Tryz.prog.globals.size ≤ w.heap.size) (hT : Tab w) : Calls Tryz.prog 29 ⟨[v]⟩ w (FrcRes w q) := by
  obtain ⟨b, rfl, g, u, d, hb, hu, hd⟩ := hv
  obtain ⟨ρ, e0, e1⟩ : ∃ ρ : XEnv, ρ.q 0 = Big.nu q ∧ ρ.q 1 = Big.de q := ⟨xenv [Big.nu q, Big.de q] (by intro n hn; simp only [List.mem_cons, List.not_mem_nil, or_false] at hn; rcases hn with rfl | rfl; exact hq.1; exact hq.2), rfl, rfl⟩
  rw [← e0] at hu
  rw [← e1] at hd
  have hA : AllX ρ (fracT (decide (Big.nu q = 0)) (decide (512 < szN (Big.nu q))) (decide (512 < szN (Big.de q)))) := by
    refine allX_cons (holds1 ?_) (allX_cons (holds1 (not_nought (by show 0 < ρ.q 1; rw [e1]; exact de_pos q))) (allX_cons (holds4 ?_) (allX_cons (holds4 ?_) (allX_nil ρ))))
    · rw [decide_eq_true_iff, ← e0]; rfl
    · rw [decide_eq_true_iff, ← e0]; rfl
    · rw [decide_eq_true_iff, ← e1]; rfl
  refine (tellsB_calls (wFits hA) (wSums2_ok hA) (frac_run (Big.ng q) _ _ _) (fun _ _ _ _ _ hp _ => sel_ok hp _) (by kernel_rfl) glob_lim (bs := [b]) (us := []) ⟨b, [], rfl, blkR_are (n := xv) (d := x1) hb hu hd, by simp, g, rfl⟩ rfl hG hT).mono ?_
  rintro e w' ⟨x, rfl, hx, hbl⟩
  have hs : (Big.ng q && !decide (Big.nu q = 0)) = Big.ng q := by
    cases hn : Big.ng q with
    | false => rfl
    | true =>
      by_cases h0 : Big.nu q = 0
      · rw [Big.nu_zero.1 h0] at hn; cases hn
      · rw [decide_eq_false h0]; rfl
  unfold fracO at hx
  rw [hs] at hx
  cases hl : (decide (512 < szN (Big.nu q)) || decide (512 < szN (Big.de q))) with
  | true =>
    rw [hl] at hx
    obtain ⟨vs, rfl, v1, l1, rfl, ⟨us, rfl, y1, m1, rfl, k1, y2, m2, rfl, k2, y3, m3, rfl, k3, k4⟩, v2, l2, rfl, h2, h3⟩ := hx
    obtain rfl : m3 = [] := k4
    obtain rfl : l2 = [] := h3
    obtain rfl : y1 = .bool false := k1
    obtain rfl : y2 = .string ⟨#[]⟩ := k2
    obtain rfl : y3 = .string ⟨#[]⟩ := k3
    obtain rfl : v2 = .int .i64 3 := h2
    refine ⟨.inr ⟨fun hf => ?_, rfl⟩, hbl⟩
    rw [Bool.or_eq_true, decide_eq_true_iff, decide_eq_true_iff] at hl
    have h1 := hf.nu
    have h2 := hf.de
    omega
  | false =>
    rw [hl] at hx
    obtain ⟨vs, rfl, v1, l1, rfl, ⟨us, rfl, y1, m1, rfl, k1, y2, m2, rfl, k2, y3, m3, rfl, k3, k4⟩, v2, l2, rfl, h2, h3⟩ := hx
    obtain rfl : m3 = [] := k4
    obtain rfl : l2 = [] := h3
    obtain rfl : y1 = .bool (Big.ng q) := k1
    obtain rfl : y2 = .string (bst (ρ.q 0)) := k2
    obtain rfl : y3 = .string (bst (ρ.q 1)) := k3
    obtain rfl : v2 = .int .i64 0 := h2
    rw [Bool.or_eq_false_iff, decide_eq_false_iff_not, decide_eq_false_iff_not] at hl
    exact ⟨.inl ⟨⟨by omega, by omega⟩, by rw [e0, e1]; rfl⟩, hbl⟩
theorem rsign_any {v : Value} {q : Rat} (hv : RatIn w v q) (hq : RB q) (hG : Tryz.prog.globals.size ≤ w.heap.size) (hT : Tab w) :
    Calls Tryz.prog 28 ⟨[v]⟩ w fun e w' => e = .returned (.int .i64 (cond (decide (Big.nu q = 0)) 0 (cond (Big.ng q) (-1) 1))) ∧ Below w.heap.size w w' := by
  obtain ⟨b, rfl, g, u, d, hb, hu, hd⟩ := hv
  obtain ⟨ρ, e0, e1⟩ : ∃ ρ : XEnv, ρ.q 0 = Big.nu q ∧ ρ.q 1 = Big.de q := ⟨xenv [Big.nu q, Big.de q] (by intro n hn; simp only [List.mem_cons, List.not_mem_nil, or_false] at hn; rcases hn with rfl | rfl; exact hq.1; exact hq.2), rfl, rfl⟩
  rw [← e0] at hu
  rw [← e1] at hd
  have hA : AllX ρ [⟨1, xv, x0, decide (Big.nu q = 0)⟩] := allX_cons (holds1 (by rw [decide_eq_true_iff, ← e0]; rfl)) (allX_nil ρ)
  refine (tellsB_calls (wFits hA) (wSums_ok hA) (rsign_run (Big.ng q) _) (fun _ _ _ _ _ hp _ => sel_ok hp _) (by kernel_rfl) glob_lim (bs := [b]) (us := []) ⟨b, [], rfl, blkR_are (n := xv) (d := x1) hb hu hd, by simp, g, rfl⟩ rfl hG hT).mono ?_
  rintro e w' ⟨x, rfl, hx, hbl⟩
  exact ⟨by rw [show x = _ from hx], hbl⟩
end
end Ev
end Go.Proofs.YtepnghhgmjobjaaGreat
namespace Go.Proofs.YtepnghhgmjobjaaGreat
open Go Go.RowKit
namespace Ev
set_option maxRecDepth 100000
noncomputable def smallE (e : Qe) : Bool := Nat.ble e.bnd 4096
noncomputable def getRt : Sy → Option Qe | .rt e => some e | _ => none
section
variable {ρ : Env} {A : List As} {h h' : Tr (Blk Sy)} {nx nx' : Nat} {R W : List Nat} {r : Ren} {w : World}
theorem smallE_ok {e : Qe} (h : smallE e = true) : RB (e.ev ρ.q) := bits_sm (Qe.sm ρ.fit ρ.big e) (Nat.le_of_ble_eq_true h)
theorem rt_of {f : Sy} {e : Qe} {v : Value} (hg : getRt f = some e) (h : f.holds ρ w v) : RatIn w v (e.ev ρ.q) := by cases f <;> simp [getRt] at hg; subst hg; exact h
theorem sgoes_fact {f0 : Sy} {f : FuncId} {args' : List Value} {v : Value} (e : (newFact f0 : M Sy Value) h nx = .ok v h' nx' R W) (hM : Mod (symSig ρ) r h.get w) (hN : New r nx nx')
    (c : Calls Tryz.prog f ⟨args'⟩ w fun e w' => ∃ v', e = .returned v' ∧ f0.holds ρ w' v' ∧ Below w.heap.size w w') : GoesS ρ f args' r w nx nx' W h'.get v := by
  obtain ⟨i, h1, nx1, R1, W1, R2, W2, e1, e2, rfl, rfl⟩ := bind_ok e
  obtain ⟨rfl, rfl, rfl, rfl⟩ := ret_ok e2
  unfold fresh at e1
  cases e1
  refine c.mono ?_
  rintro en w' ⟨v', rfl, hv, hb⟩
  obtain ⟨r', hX, hr⟩ := ext_fact (S := symSig ρ) (f := f0) hM hb hN hv (Sy.one hv)
  exact ⟨v', r', rfl, .opq hr (Sy.one hv), by simpa using hX.congr fun n => .inr (Tr.get_set _ _ _ _)⟩
theorem sgoes_factT {f0 : Sy} {f : FuncId} {args' : List Value} {v u : Value} (hp : plain u = true) (e : (bind (newFact f0) fun p => ret (.tuple ⟨[p, u]⟩) : M Sy Value) h nx = .ok v h' nx' R W) (hM : Mod (symSig ρ) r h.get w) (hN : New r nx nx')
    (c : Calls Tryz.prog f ⟨args'⟩ w fun e w' => ∃ v', e = .returned (.tuple ⟨[v', u]⟩) ∧ f0.holds ρ w' v' ∧ Below w.heap.size w w') : GoesS ρ f args' r w nx nx' W h'.get v := by
  obtain ⟨x, h0, nx0, R0, W0, R00, W00, e0, e00, rfl, rfl⟩ := bind_ok e
  obtain ⟨rfl, rfl, rfl, rfl⟩ := ret_ok e00
  obtain ⟨i, h1, nx1, R1, W1, R2, W2, e1, e2, rfl, rfl⟩ := bind_ok e0
  obtain ⟨rfl, rfl, rfl, rfl⟩ := ret_ok e2
  unfold fresh at e1
  cases e1
  refine c.mono ?_
  rintro en w' ⟨v', rfl, hv, hb⟩
  obtain ⟨r', hX, hr⟩ := ext_fact (S := symSig ρ) (f := f0) hM hb hN hv (Sy.one hv)
  exact ⟨_, r', rfl, .tuple (.cons (.opq hr (Sy.one hv)) (.cons (.same hp) .nil)), by simpa using hX.congr fun n => .inr (Tr.get_set _ _ _ _)⟩
noncomputable def ratS (A : List As) (args : List Value) : Option (M Sy Value) := match args with
  | [a] => match a with
    | .agg cs => some (bind (frcV cs.toList) fun o => match o with
      | some e => match fitB A e with
        | some t => cond t (bind (newFact (.rt e)) fun p => ret (.tuple ⟨[p, .bool true]⟩)) fail
        | none => fail
      | none => bind (newFact .jk) fun p => ret (.tuple ⟨[p, .bool false]⟩))
    | _ => none
  | _ => none
noncomputable def fracS (A : List As) (args : List Value) : Option (M Sy Value) := match args with
  | [a] => some (bind (knw getRt a) fun e => cond (smallE e) (match fitB A e with
    | some t => cond t (bind (newFacts (frs e)) fun vs => ret (.tuple ⟨[.agg ⟨vs⟩, .int .i64 0]⟩)) (ret (.tuple ⟨[.agg ⟨[.bool false, .string ⟨#[]⟩, .string ⟨#[]⟩]⟩, .int .i64 3]⟩))
    | none => fail) fail)
  | _ => none
noncomputable def signS (A : List As) (args : List Value) : Option (M Sy Value) := match args with
  | [a] => some (bind (knw getRt a) fun e => cond (smallE e) (match ask A 1 e z0 with
    | some t => cond t (ret (.int .i64 0)) (match ask A 3 e z0 with
      | some g => ret (.int .i64 (cond g (-1) 1))
      | none => fail)
    | none => fail) fail)
  | _ => none
noncomputable def rt2 (k : Qe → Qe → Qe) (ok : Qe → Bool) (args : List Value) : Option (M Sy Value) := match args with
  | [a, b] => some (bind (knw getRt a) fun e => bind (knw getRt b) fun f => cond (ok f && (smallE e && smallE f)) (newFact (.rt (k e f))) fail)
  | _ => none
noncomputable def notZ (A : List As) (e : Qe) : Bool := match ask A 1 e z0 with
  | some t => !t
  | none => false
theorem notZ_ok (hA : AllH ρ A) {e : Qe} (h : notZ A e = true) : e.ev ρ.q ≠ 0 := by
  unfold notZ at h
  cases ha : ask A 1 e z0 with
  | none => rw [ha] at h; cases h
  | some t =>
    rw [ha] at h
    intro h0
    have := (ask_nought hA ha).2 h0
    subst this
    cases h
theorem s_rat (hA : AllH ρ A) : SumF (symSig ρ) Tryz.prog 16 (ratS A) := by
  intro args m e
  unfold ratS at e
  rcases args with _ | ⟨a, _ | ⟨c, l⟩⟩ <;> simp only [reduceCtorEq] at e
  cases a <;> simp only [reduceCtorEq, Option.some.injEq] at e
  rename_i cs
  subst e
  refine ⟨loc_bind (loc_frcV _) fun o => ?_, ?_⟩
  · split
    · split
      · exact loc_cond (loc_bind (loc_newFact _) fun _ => loc_ret _) loc_fail
      · exact loc_fail
    · exact loc_bind (loc_newFact _) fun _ => loc_ret _
  intro h nx v h' nx' R W e r w args' ha hM hN
  cases ha with
  | cons ha hb =>
  cases hb
  obtain ⟨cl⟩ := cs
  obtain ⟨cl', rfl, hc⟩ := vr_agg ha
  obtain ⟨o, h1, nx1, R1, W1, R2, W2, e1, e2, rfl, rfl⟩ := bind_ok e
  obtain ⟨rfl, rfl, rfl, hx⟩ := frcV_ok e1 hc hM
  have hG := mod_G hM rfl
  have hT : Tab w := hM.base
  cases o with
  | none =>
    obtain ⟨x, hbad, rfl⟩ := hx
    have := sgoes_factT (u := .bool false) rfl e2 hM hN (f := 16) (args' := [.agg ⟨cel x⟩]) ((rat_bad x hbad hG hT).mono fun e w' hh => by
      obtain ⟨b, rfl, hb⟩ := hh
      exact ⟨_, rfl, ⟨_, rfl⟩, hb⟩)
    exact this
  | some e0 =>
    obtain rfl : cl' = _ := hx
    simp only at e2
    cases hf : fitB A e0 with
    | none => rw [hf] at e2; cases (show (fail : M Sy Value) h1 nx1 = _ from e2)
    | some t =>
      rw [hf] at e2
      obtain ⟨rfl, e3⟩ := cond_ok e2
      have := sgoes_factT (u := .bool true) rfl e3 hM hN (f := 16) (args' := [.agg ⟨cel (tri (e0.ev ρ.q))⟩]) ((rat_ok ((fitB_ok hA hf).1 rfl) hG hT).mono fun e w' hh => by
        obtain ⟨x, rfl, hx, hb⟩ := hh
        exact ⟨_, rfl, hx, hb⟩)
      exact this
theorem s_frac (hA : AllH ρ A) : SumF (symSig ρ) Tryz.prog 29 (fracS A) := by
  intro args m e
  unfold fracS at e
  rcases args with _ | ⟨a, _ | ⟨c, l⟩⟩ <;> simp only [reduceCtorEq, Option.some.injEq] at e
  subst e
  refine ⟨loc_bind (loc_knw _ _) fun o => loc_cond ?_ loc_fail, ?_⟩
  · split
    · exact loc_cond (loc_bind (loc_newFacts _) fun _ => loc_ret _) (loc_ret _)
    · exact loc_fail
  intro h nx v h' nx' R W e r w args' ha hM hN
  cases ha with
  | cons ha hb =>
  cases hb
  obtain ⟨e0, h1, nx1, R1, W1, R2, W2, e1, e2, rfl, rfl⟩ := bind_ok e
  obtain ⟨rfl, rfl, rfl, f, hf, hx⟩ := knw_ok e1 ha hM
  obtain ⟨hs, e3⟩ := cond_ok e2
  have c := frac_any (rt_of hf hx) (smallE_ok (ρ := ρ) hs) (mod_G hM rfl) hM.base
  cases hfit : fitB A e0 with
  | none => rw [hfit] at e3; cases (show (fail : M Sy Value) h1 nx1 = _ from e3)
  | some t =>
    rw [hfit] at e3
    have ht := fitB_ok hA hfit
    cases t with
    | true =>
      simpa using goes_aggT rfl (show (bind (newFacts (frs e0)) fun vs => ret (.tuple ⟨[.agg ⟨vs⟩, .int .i64 0]⟩) : M Sy Value) h1 nx1 = .ok v h' nx' R2 W2 from e3) hM hN (c.mono fun _ w' hh => by
        obtain ⟨k | k, hb⟩ := hh
        · exact ⟨_, k.2, frac_holds (w := w') e0, hb⟩
        · exact absurd (ht.1 rfl) k.1)
    | false =>
      simpa using goes_pl (show (ret (.tuple ⟨[.agg ⟨[.bool false, .string ⟨#[]⟩, .string ⟨#[]⟩]⟩, .int .i64 3]⟩) : M Sy Value) h1 nx1 = .ok v h' nx' R2 W2 from e3) rfl hM (c.mono fun _ w' hh => by
        obtain ⟨k | k, hb⟩ := hh
        · have := ht.2 k.1
          cases this
        · exact ⟨k.2, hb⟩)
theorem s_sign (hA : AllH ρ A) : SumF (symSig ρ) Tryz.prog 28 (signS A) := by
  intro args m e
  unfold signS at e
  rcases args with _ | ⟨a, _ | ⟨c, l⟩⟩ <;> simp only [reduceCtorEq, Option.some.injEq] at e
  subst e
  refine ⟨loc_bind (loc_knw _ _) fun o => loc_cond ?_ loc_fail, ?_⟩
  · split
    · refine loc_cond (loc_ret _) ?_
      split
      · exact loc_ret _
      · exact loc_fail
    · exact loc_fail
  intro h nx v h' nx' R W e r w args' ha hM hN
  cases ha with
  | cons ha hb =>
  cases hb
  obtain ⟨e0, h1, nx1, R1, W1, R2, W2, e1, e2, rfl, rfl⟩ := bind_ok e
  obtain ⟨rfl, rfl, rfl, f, hf, hx⟩ := knw_ok e1 ha hM
  obtain ⟨hs, e3⟩ := cond_ok e2
  have c := rsign_any (rt_of hf hx) (smallE_ok (ρ := ρ) hs) (mod_G hM rfl) hM.base
  cases hz : ask A 1 e0 z0 with
  | none => rw [hz] at e3; cases (show (fail : M Sy Value) h1 nx1 = _ from e3)
  | some t =>
    rw [hz] at e3
    have ht := ask_nought hA hz
    cases t with
    | true =>
      rw [decide_eq_true (Big.nu_zero.2 (ht.1 rfl))] at c
      simpa using goes_pl (show (ret (.int .i64 0) : M Sy Value) h1 nx1 = .ok v h' nx' R2 W2 from e3) rfl hM c
    | false =>
      rw [decide_eq_false (fun h => by have := ht.2 (Big.nu_zero.1 h); cases this)] at c
      simp only [cond_false] at e3
      cases hg : ask A 3 e0 z0 with
      | none => rw [hg] at e3; cases (show (fail : M Sy Value) h1 nx1 = _ from e3)
      | some g =>
        rw [hg] at e3
        rw [← ask_below hA hg] at c
        simpa using goes_pl (show (ret (.int .i64 (cond g (-1) 1)) : M Sy Value) h1 nx1 = .ok v h' nx' R2 W2 from e3) (by cases g <;> rfl) hM c
theorem rt2_ok {f : FuncId} {k : Qe → Qe → Qe} {ok : Qe → Bool} (hk : ∀ (w : World) (x y : Value) (e g : Qe), ok g = true → RatIn w x (e.ev ρ.q) → RatIn w y (g.ev ρ.q) → RB (e.ev ρ.q) → RB (g.ev ρ.q) → Tryz.prog.globals.size ≤ w.heap.size → Tab w → Calls Tryz.prog f ⟨[x, y]⟩ w (RRes w ((k e g).ev ρ.q))) :
    SumF (symSig ρ) Tryz.prog f (rt2 k ok) := by
  intro args m e
  unfold rt2 at e
  rcases args with _ | ⟨a, _ | ⟨b, _ | ⟨c, l⟩⟩⟩ <;> simp only [reduceCtorEq, Option.some.injEq] at e
  subst e
  refine ⟨loc_bind (loc_knw _ _) fun o => loc_bind (loc_knw _ _) fun o => loc_cond (loc_newFact _) loc_fail, ?_⟩
  intro h nx v h' nx' R W e r w args' ha hM hN
  cases ha with
  | cons ha hb =>
  cases hb with
  | cons hb hc =>
  cases hc
  obtain ⟨e0, h1, nx1, R1, W1, R2, W2, e1, e2, rfl, rfl⟩ := bind_ok e
  obtain ⟨rfl, rfl, rfl, f1, hf1, hx⟩ := knw_ok e1 ha hM
  obtain ⟨g0, h2, nx2, R3, W3, R4, W4, e3, e4, rfl, rfl⟩ := bind_ok e2
  obtain ⟨rfl, rfl, rfl, f2, hf2, hy⟩ := knw_ok e3 hb hM
  obtain ⟨hs, e5⟩ := cond_ok e4
  simp only [Bool.and_eq_true] at hs
  simpa [GoesS] using sgoes_fact e5 hM hN ((hk w _ _ e0 g0 hs.1 (rt_of hf1 hx) (rt_of hf2 hy) (smallE_ok hs.2.1) (smallE_ok hs.2.2) (mod_G hM rfl) hM.base).mono fun e w' hh => by
    obtain ⟨x, rfl, hx, hb⟩ := hh
    exact ⟨_, rfl, hx, hb⟩)
noncomputable def refList (A : List As) : List (Nat × (List Value → Option (M Sy Value))) := [
  (16, ratS A), (29, fracS A), (28, signS A),
  (25, rt2 .add fun _ => true), (33, rt2 .sub fun _ => true), (26, rt2 .mul fun _ => true), (30, rt2 .quo (notZ A))]
theorem refList_ok (hA : AllH ρ A) : ∀ x ∈ refList A, SumF (symSig ρ) Tryz.prog x.1 x.2 := by
  intro x hx
  simp only [refList, List.mem_cons, List.not_mem_nil, or_false] at hx
  rcases hx with rfl | rfl | rfl | rfl | rfl | rfl | rfl
  · exact s_rat hA
  · exact s_frac hA
  · exact s_sign hA
  · exact rt2_ok fun w x y e g _ hx hy bx by_ hG hT => radd_any hx hy bx by_ hG hT
  · exact rt2_ok fun w x y e g _ hx hy bx by_ hG hT => rsub_any hx hy bx by_ hG hT
  · exact rt2_ok fun w x y e g _ hx hy bx by_ hG hT => rmul_any hx hy bx by_ hG hT
  · exact rt2_ok fun w x y e g hg hx hy bx by_ hG hT => rquo_any hx hy bx by_ (notZ_ok hA hg) hG hT
end
end Ev
end Go.Proofs.YtepnghhgmjobjaaGreat
