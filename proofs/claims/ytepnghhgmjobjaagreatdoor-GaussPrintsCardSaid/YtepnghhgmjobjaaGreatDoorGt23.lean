/- Contracts, in this order: Runs over ref90's numbers: numbers of bytes, of 64 bits; byt · ref00's Add, Sub, Mul, Quo; a fraction's sign: every path ru · ref00's Add, Sub, Mul, Quo; a fraction's sign: what they do. · ref00.Rat: bytes to a fraction: every path run. · gauss: what its functions answer, by runs over numbers told  · gauss: sums, differences, products of any two numbers, whate · ref00.Rat, Frac; a fraction's sign: what they do. · ref90's NewRat, Cmp; ref00.Of: every path run; what they do. · ref90: IsInt64, Int64. -/
import Derived.Test.YtepnghhgmjobjaaGreatDoorGt22
import Derived.Test.YtepnghhgmjobjaaGreatDoorGt20
import Derived.Test.YtepnghhgmjobjaaGreatDoorGt16
namespace Go.Proofs.YtepnghhgmjobjaaGreatDoor
open Go Go.RowKit
namespace Ev
set_option maxRecDepth 100000
noncomputable def freshI (s : Bool) (e : Xe) : M Wf Value := bind (newFact (.wd e)) fun u => bind (fresh (.cells [.bool s, u] 119)) fun n => ret (vptr n 0)
theorem loc_freshI (s : Bool) (e : Xe) : Loc (freshI s e) := loc_bind (loc_newFact _) fun _ => loc_bind (loc_fresh _) fun _ => loc_ret _
noncomputable def numberM (args : List Value) : Option (M Wf Value) := match args with
  | [a] => some (bind (fact a) fun f => match f with
    | .st e => bind (freshI false e) fun p => ret (.tuple ⟨[p, .bool true]⟩)
    | .sb => ret (.tuple ⟨[.pointer none, .bool false]⟩)
    | _ => fail)
  | _ => none
noncomputable def newIntF (a : Value) : M Wf Value := bind (fact a) fun f => match f with
  | .iv s e => freshI s e
  | _ => fail
noncomputable def newIntA (a : Value) : M Wf Value := match a with
  | .int k m => match k with
    | .i64 => match m with
      | .ofNat j => cond (Nat.ble j 1000000) (freshI false (.c j)) fail
      | .negSucc j => cond (Nat.ble j 1000000) (freshI true (.c (Nat.succ j))) fail
    | _ => fail
  | _ => newIntF a
noncomputable def newIntM (args : List Value) : Option (M Wf Value) := match args with
  | [a] => some (newIntA a)
  | _ => none
theorem loc_newIntF (a : Value) : Loc (newIntF a) := by
  unfold newIntF
  refine loc_bind (loc_fact a) fun f => ?_
  split
  · exact loc_freshI _ _
  · exact loc_fail
theorem loc_newIntA (a : Value) : Loc (newIntA a) := by
  unfold newIntA
  (repeat' split) <;> first | exact loc_cond (loc_freshI _ _) loc_fail | exact loc_fail | exact loc_newIntF _
noncomputable def bytesM (args : List Value) : Option (M Wf Value) := match args with
  | [a] => some (bind (rdInt a) fun x => cond (xokB x.2) (newFact (.by_ x.2)) fail)
  | _ => none
section
variable {ρ : XEnv} {A : List Xs} {h h' : Tr (Blk Wf)} {nx nx' : Nat} {Q W : List Nat} {r : Ren} {w w' : World}
theorem mod_none {F : Type} {S : Sig F} {r : Ren} {g : Nat → Option (Blk F)} {w : World} (hM : Mod S r g w) : Mod S r (fun _ => none) w := hM.congr fun _ => .inl rfl
theorem freshI_ok {s : Bool} {e0 : Xe} {v : Value} {b : Nat} (e : freshI s e0 h nx = .ok v h' nx' Q W) (hM : Mod (wSig ρ) r h.get w) (hN : New r nx nx') (hI : R.NewI w b s (e0.ev ρ.q) w') :
    ∃ r', VR r' v (.pointer (some ⟨b, 0, none⟩)) ∧ Ext (wSig ρ) r w nx nx' W h'.get r' w' := by
  obtain ⟨hge, ⟨u, hc, hu⟩, hb⟩ := hI
  unfold freshI at e
  obtain ⟨u0, h1, nx1, R1, W1, R2, W2, e1, e2, rfl, rfl⟩ := bind_ok e
  obtain ⟨i, h2, nx2, R3, W3, R4, W4, e3, e4, rfl, rfl⟩ := bind_ok e1
  obtain ⟨rfl, rfl, rfl, rfl⟩ := ret_ok e4
  unfold fresh at e3
  cases e3
  obtain ⟨n, h3, nx3, R5, W5, R6, W6, e5, e6, rfl, rfl⟩ := bind_ok e2
  obtain ⟨rfl, rfl, rfl, rfl⟩ := ret_ok e6
  unfold fresh at e5
  cases e5
  obtain ⟨r1, hX, hr, hbl⟩ := ext_fact2 (S := wSig ρ) (f := .wd e0) hM hb (hN.sub (Nat.le_refl _) (by omega)) hu (nin_one hu)
  obtain ⟨r2, hY, hr2⟩ := ext_adopt (c := [.bool s, .chan (some nx)]) (mod_none hM) hX hbl (New.after hN hX (by omega)) (by omega) hge hc (.cons (.same rfl) (.cons (.opq hr (nin_one hu)) .nil)) (by kernel_rfl)
  refine ⟨r2, .ptr hr2, ?_⟩
  have := hY.congr (g' := ((h.set nx (.fact (.wd e0))).set (nx + 1) (.cells [.bool s, .chan (some nx)] 119)).get) fun n => .inr (by
    rw [Tr.get_set]
    by_cases hn : n = nx + 1
    · rw [if_pos hn, if_pos hn]
    · rw [if_neg hn, if_neg hn]; exact Tr.get_set _ _ _ _)
  simpa using this
theorem goes_fact {f0 : Wf} {f : FuncId} {args' : List Value} {v : Value} (e : (newFact f0 : M Wf Value) h nx = .ok v h' nx' Q W) (hM : Mod (wSig ρ) r h.get w) (hN : New r nx nx')
    (c : Calls Tryz.prog f ⟨args'⟩ w fun e w' => ∃ v', e = .returned v' ∧ f0.holds ρ w' v' ∧ Below w.heap.size w w') : GoesW ρ f args' r w nx nx' W h'.get v := by
  obtain ⟨i, h1, nx1, R1, W1, R2, W2, e1, e2, rfl, rfl⟩ := bind_ok e
  obtain ⟨rfl, rfl, rfl, rfl⟩ := ret_ok e2
  unfold fresh at e1
  cases e1
  refine c.mono ?_
  rintro en w' ⟨v', rfl, hv, hb⟩
  obtain ⟨r', hX, hr⟩ := ext_fact (S := wSig ρ) (f := f0) hM hb hN hv (Wf.one hv)
  exact ⟨v', r', rfl, .opq hr (Wf.one hv), by simpa using hX.congr fun n => .inr (Tr.get_set _ _ _ _)⟩
theorem w_number : SumF (wSig ρ) Tryz.prog 121 numberM := by
  intro args m e
  unfold numberM at e
  rcases args with _ | ⟨a, _ | ⟨c, l⟩⟩ <;> simp only [reduceCtorEq, Option.some.injEq] at e
  subst e
  refine ⟨loc_bind (loc_fact a) fun f => ?_, ?_⟩
  · split
    · exact loc_bind (loc_freshI _ _) fun _ => loc_ret _
    · exact loc_ret _
    · exact loc_fail
  intro h nx v h' nx' Q W e r w args' ha hM hN
  cases ha with
  | cons ha hb =>
  cases hb
  obtain ⟨f, h1, nx1, R1, W1, R2, W2, e1, e2, rfl, rfl⟩ := bind_ok e
  obtain ⟨rfl, rfl, rfl, hh⟩ := fact_ok e1 ha hM
  cases f with
  | st e0 =>
    obtain ⟨rfl, hsz⟩ : _ ∧ _ := hh
    obtain ⟨p, h3, nx3, R5, W5, R6, W6, e5, e6, rfl, rfl⟩ := bind_ok (show (bind (freshI false e0) (fun p => ret (Value.tuple ⟨[p, .bool true]⟩)) : M Wf Value) h1 nx1 = .ok v h' nx' R2 W2 from e2)
    obtain ⟨rfl, rfl, rfl, rfl⟩ := ret_ok e6
    refine (R.number_ok w (e0.ev ρ.q) hsz).mono ?_
    rintro en w' ⟨b, rfl, hI⟩
    obtain ⟨r', hp, hX⟩ := freshI_ok e5 hM hN hI
    exact ⟨_, r', rfl, .tuple (.cons hp (.cons (.same rfl) .nil)), by simpa using hX⟩
  | sb =>
    obtain ⟨s, rfl, hs⟩ := hh
    have e3 : (ret (.tuple ⟨[.pointer none, .bool false]⟩) : M Wf Value) h1 nx1 = .ok v h' nx' R2 W2 := e2
    simpa using goes_pl e3 rfl hM ((R.number_bad w s hs).mono fun e w' hh => ⟨hh.1, hh.2 ▸ Below.refl _ w⟩)
  | _ => cases (show (fail : M Wf Value) h1 nx1 = _ from e2)
theorem w_newInt : SumF (wSig ρ) Tryz.prog 116 newIntM := by
  intro args m e
  unfold newIntM at e
  rcases args with _ | ⟨a, _ | ⟨c, l⟩⟩ <;> simp only [reduceCtorEq, Option.some.injEq] at e
  subst e
  refine ⟨loc_newIntA a, ?_⟩
  intro h nx v h' nx' Q W e r w args' ha hM hN
  cases ha with
  | cons ha hb =>
  cases hb
  have key : ∀ (s : Bool) (e0 : Xe) (a' : Value), a' = .int .i64 (Big.sI s (e0.ev ρ.q)) → (s = true → 0 < e0.ev ρ.q) → e0.ev ρ.q ≤ 9223372036854775808 → (s = false → e0.ev ρ.q < 9223372036854775808) → freshI s e0 h nx = .ok v h' nx' Q W → GoesW ρ 116 [a'] r w nx nx' W h'.get v := by
    rintro s e0 _ rfl h1 h2 h3 e1
    refine (R.newInt_any w s (e0.ev ρ.q) h1 h2 h3).mono ?_
    rintro en w' ⟨b, rfl, hI⟩
    obtain ⟨r', hp, hX⟩ := freshI_ok (e0 := e0) e1 hM hN hI
    exact ⟨_, r', rfl, hp, hX⟩
  have fin : ∀ a', VR r a a' → newIntF a h nx = .ok v h' nx' Q W → GoesW ρ 116 [a'] r w nx nx' W h'.get v := by
    intro a' ha' e1
    unfold newIntF at e1
    obtain ⟨f, h1, nx1, R1, W1, R2, W2, e2, e3, rfl, rfl⟩ := bind_ok e1
    obtain ⟨rfl, rfl, rfl, hh⟩ := fact_ok e2 ha' hM
    cases f with
    | iv s e0 =>
      obtain ⟨rfl, k1, k2, k3⟩ : _ ∧ _ := hh
      have e4 : freshI s e0 h1 nx1 = .ok v h' nx' R2 W2 := e3
      refine (R.newInt_any w s (e0.ev ρ.q) k1 k2 k3).mono ?_
      rintro en w' ⟨b, rfl, hI⟩
      obtain ⟨r', hp, hX⟩ := freshI_ok (e0 := e0) e4 hM hN hI
      exact ⟨_, r', rfl, hp, hX⟩
    | _ => cases (show (fail : M Wf Value) h1 nx1 = _ from e3)
  unfold newIntA at e
  split at e
  · rename_i k z
    split at e
    · rename_i z2
      split at e
      · rename_i z3 j
        obtain ⟨hk, e1⟩ := cond_ok e
        have hk2 := Nat.le_of_ble_eq_true hk
        exact key false (.c j) _ (by rw [ha.eq_of_plain rfl]; rfl) (fun h => by cases h) (by show j ≤ _; omega) (fun _ => by show j < _; omega) e1
      · rename_i z3 j
        obtain ⟨hk, e1⟩ := cond_ok e
        have hk2 := Nat.le_of_ble_eq_true hk
        exact key true (.c (Nat.succ j)) _ (by rw [ha.eq_of_plain rfl]; rfl) (fun _ => Nat.succ_pos j) (by show j + 1 ≤ _; omega) (fun h => by cases h) e1
    · cases (show (fail : M Wf Value) h nx = _ from e)
  · exact fin _ ha e
theorem w_bytes : SumF (wSig ρ) Tryz.prog 113 bytesM := by
  intro args m e
  unfold bytesM at e
  rcases args with _ | ⟨a, _ | ⟨c, l⟩⟩ <;> simp only [reduceCtorEq, Option.some.injEq] at e
  subst e
  refine ⟨loc_bind (loc_rdInt a) fun f => loc_cond (loc_newFact _) loc_fail, ?_⟩
  intro h nx v h' nx' Q W e r w args' ha hM hN
  cases ha with
  | cons ha hb =>
  cases hb
  obtain ⟨x, h1, nx1, R1, W1, R2, W2, e1, e2, rfl, rfl⟩ := bind_ok e
  obtain ⟨rfl, rfl, rfl, b, o, rfl, hI⟩ := rdInt_ok e1 ha hM
  obtain ⟨hk, e3⟩ := cond_ok e2
  simpa [GoesW] using goes_fact e3 hM hN (R.bytes_any w b o _ _ hI (xokB_sml hk))
end
noncomputable def wList2 (A : List Xs) : List (Nat × (List Value → Option (M Wf Value))) := (121, numberM) :: (116, newIntM) :: (113, bytesM) :: wList A
theorem wList2_ok {ρ : XEnv} {A : List Xs} (hA : AllX ρ A) : ∀ x ∈ wList2 A, SumF (wSig ρ) Tryz.prog x.1 x.2 := by
  intro x hx
  rcases List.mem_cons.1 hx with rfl | hx
  · exact w_number
  rcases List.mem_cons.1 hx with rfl | hx
  · exact w_newInt
  rcases List.mem_cons.1 hx with rfl | hx
  · exact w_bytes
  · exact wList_ok hA x hx
noncomputable def wSums2 (A : List Xs) : Sums Wf := sumsOf (mkTab (wList2 A))
theorem wSums2_ok {ρ : XEnv} {A : List Xs} (hA : AllX ρ A) : SumOK (wSig ρ) Tryz.prog (wSums2 A) := sumsOf_ok (wList2_ok hA)
end Ev
end Go.Proofs.YtepnghhgmjobjaaGreatDoor
namespace Go.Proofs.YtepnghhgmjobjaaGreatDoor
open Go Go.RowKit
namespace Ev
set_option maxRecDepth 100000
noncomputable def blkR (s : Bool) (n d : Xe) : BL Wf := ⟨121, [.wd n, .wd d], [.p (.bool s), .one, .p (.bool false), .one]⟩
noncomputable def runV (A : List Xs) (bl : List (BL Wf)) (is : List Nat) (f : FuncId) : Option (E3 Wf) := tellsB bl [] (fun ps _ => sel is ps) (call Tryz.prog (wCfg A) (wSums A) 60 f)
noncomputable def outR (s : Bool) (n d : Xe) : E3 Wf := .one (.b 121 [.p (.bool s), .f (.wd (.quo n (.gcd n d))), .p (.bool false), .f (.wd (.quo d (.gcd n d)))])
noncomputable def intD (n : Int) : E3 Wf := .one (.d (.one (.p (.int .i64 n))))
noncomputable def x1 : Xe := .v 1
noncomputable def x2 : Xe := .v 2
noncomputable def x3 : Xe := .v 3
noncomputable def xv : Xe := .v 0
section
variable (a b c d : Xe)
end
theorem rsign_run (s n : Bool) : runV [⟨1, xv, x0, n⟩] [blkR s xv x1] [0] 60 = some (intD (cond n 0 (cond s (-1) 1))) := by
  cases s <;> cases n <;> kernel_rfl
end Ev
end Go.Proofs.YtepnghhgmjobjaaGreatDoor
namespace Go.Proofs.YtepnghhgmjobjaaGreatDoor
open Go Go.RowKit
namespace Ev
set_option maxRecDepth 100000
def RB (q : Rat) : Prop := Bits 262144 (Big.nu q) ∧ Bits 262144 (Big.de q)
theorem bits_zero (k : Nat) : Bits k 0 := ⟨Nat.two_pow_pos k⟩
def xenv (l : List Nat) (h : ∀ n ∈ l, Bits 262144 n) : XEnv := ⟨fun i => l.getD i 0, fun i => by
  rcases Nat.lt_or_ge i l.length with h1 | h1
  · simp only [List.getD, List.getElem?_eq_getElem h1, Option.getD_some]; exact h _ (List.getElem_mem h1)
  · simp only [List.getD, List.getElem?_eq_none h1, Option.getD_none]; exact bits_zero _⟩
theorem blkR_are {ρ : XEnv} {w : World} {b : Nat} {s : Bool} {n d : Xe} {u v : Value} (hb : w.heap[b]? = some (.cells ⟨[.bool s, u, .bool false, v]⟩ 121 (0, 0))) (hu : R.Nin w u (n.ev ρ.q)) (hv : R.Nin w v (d.ev ρ.q)) :
    ∃ us, HoldsL (wSig ρ) w (blkR s n d).fs us ∧ w.heap[b]? = some (.cells ⟨split (blkR s n d).ls us⟩ (blkR s n d).t (0, 0)) :=
  ⟨[u, v], ⟨u, [v], rfl, hu, nin_one hu, v, [], rfl, hv, nin_one hv, rfl⟩, hb⟩
structure OutOK (ρ : XEnv) (s : Bool) (n d : Xe) (z : Rat) : Prop where
  d0 : 0 < d.ev ρ.q
  n0 : s = true → 0 < n.ev ρ.q
  eq : z = mkRat (Big.sI s (n.ev ρ.q)) (d.ev ρ.q)
theorem outR_parts {ρ : XEnv} {s : Bool} {n d : Xe} {z : Rat} (h : OutOK ρ s n d z) : Big.ng z = s ∧ Big.nu z = n.ev ρ.q / Nat.gcd (n.ev ρ.q) (d.ev ρ.q) ∧ Big.de z = d.ev ρ.q / Nat.gcd (n.ev ρ.q) (d.ev ρ.q) := by
  obtain ⟨h1, h2, h3⟩ := Big.of_parts s (n.ev ρ.q) (d.ev ρ.q) h.d0
  rw [h.eq]
  refine ⟨?_, h2, h3⟩
  rw [h1]
  cases s with
  | false => rfl
  | true =>
    have := h.n0 rfl
    rw [decide_eq_true (Nat.div_pos (Nat.le_of_dvd this (Nat.gcd_dvd_left _ _)) (Nat.gcd_pos_of_pos_right _ h.d0))]; rfl
theorem outR_is {ρ : XEnv} {lo : Nat} {bs : List Nat} {w : World} {v : Value} {s : Bool} {n d : Xe} {z : Rat} (h : (outR s n d).is (wSig ρ) lo bs w v) (hz : OutOK ρ s n d z) (hlo : Tryz.prog.globals.size ≤ lo) : RatIn w v z := by
  obtain ⟨b, vs, rfl, hb, hh, v1, l1, rfl, h1, v2, l2, rfl, h2, v3, l3, rfl, h3, v4, l4, rfl, h4, h5⟩ := h
  obtain rfl : l4 = [] := h5
  obtain rfl : v1 = .bool s := h1
  obtain rfl : v3 = .bool false := h3
  obtain ⟨p1, p2, p3⟩ := outR_parts hz
  refine ⟨b, rfl, Nat.le_trans hlo hb, v2, v4, by rw [p1]; exact hh, ?_, ?_⟩
  · rw [p2]; exact h2
  · rw [p3]; exact h4
theorem de_pos (q : Rat) : 0 < Big.de q := Nat.pos_of_ne_zero q.den_nz
theorem allX_nil (ρ : XEnv) : AllX ρ [] := fun x hx => by cases hx
theorem allX_cons {ρ : XEnv} {x : Xs} {A : List Xs} (h : x.holds ρ.q) (i : AllX ρ A) : AllX ρ (x :: A) := fun y hy => by
  rcases List.mem_cons.1 hy with rfl | hy
  · exact h
  · exact i y hy
theorem sI_mul (s : Bool) (a d : Nat) : Big.sI s a * (d : Int) = Big.sI s (a * d) := by
  cases s <;> simp [Big.sI, Int.neg_mul]
theorem holds1 {ρ : Nat → Nat} {a : Xe} {t : Bool} (h : t = true ↔ a.ev ρ = 0) : (⟨1, a, x0, t⟩ : Xs).holds ρ := h
theorem holds2 {ρ : Nat → Nat} {a b : Xe} {t : Bool} (h : t = true ↔ a.ev ρ = b.ev ρ) : (⟨2, a, b, t⟩ : Xs).holds ρ := h
theorem holds3 {ρ : Nat → Nat} {a b : Xe} {t : Bool} (h : t = true ↔ a.ev ρ < b.ev ρ) : (⟨3, a, b, t⟩ : Xs).holds ρ := h
section
variable {ρ : XEnv} {a b c d : Xe}
theorem not_nought {n : Nat} (h : 0 < n) : (false = true ↔ n = 0) := ⟨fun h => (by cases h), fun h => (by omega)⟩
end
section
variable {w : World} {x y : Value} {p q : Rat}
theorem mk_ev {ρ : XEnv} {p : Rat} {i j : Nat} (h0 : ρ.q i = Big.nu p) (h1 : ρ.q j = Big.de p) : p = mkRat (Big.sI (Big.ng p) ((Xe.v i).ev ρ.q)) ((Xe.v j).ev ρ.q) := by
  show p = mkRat (Big.sI (Big.ng p) (ρ.q i)) (ρ.q j)
  rw [h0, h1]; exact Big.is_mk p
end
end Ev
end Go.Proofs.YtepnghhgmjobjaaGreatDoor
namespace Go.Proofs.YtepnghhgmjobjaaGreatDoor
open Go Go.RowKit
namespace Ev
set_option maxRecDepth 100000
noncomputable def mkFrac (s : Bool) (vs : List Value) : List Value := match vs with
  | [a, b] => [.agg ⟨[.bool s, a, b]⟩]
  | _ => []
theorem mkFrac_ok (s : Bool) (r : Ren) (vs us : List Value) (h : VsR r vs us) : VsR r (mkFrac s vs) (mkFrac s us) := by
  match vs, us, h with
  | [], _, .nil => exact .nil
  | [a], _, .cons _ .nil => exact .nil
  | [a, b], _, .cons h1 (.cons h2 .nil) => exact .cons (.agg (.cons (.same rfl) (.cons h1 (.cons h2 .nil)))) .nil
  | a :: b :: c :: l, _, .cons h1 (.cons h2 (.cons h3 h4)) => exact .nil
noncomputable def runF (A : List Xs) (s : Bool) (a b : Wf) : Option (E3 Wf) := tellsB [] [a, b] (fun _ vs => mkFrac s vs) (call Tryz.prog (wCfg A) (wSums2 A) 60 59)
noncomputable def ratT (dz nz lt one : Bool) : List Xs := [⟨1, x1, x0, dz⟩, ⟨1, xv, x0, nz⟩, ⟨3, .gcd xv x1, .c 1, lt⟩, ⟨2, .gcd xv x1, .c 1, one⟩]
noncomputable def noR : E3 Wf := .tuple [.b 121 [.p (.bool false), .p (.slice none 0 0), .p (.bool false), .p (.slice none 0 0)], .d (.one (.p (.bool false)))]
noncomputable def yesR (s : Bool) : E3 Wf := .tuple [.b 121 [.p (.bool s), .f (.wd (.quo xv (.gcd xv x1))), .p (.bool false), .f (.wd (.quo x1 (.gcd xv x1)))], .d (.one (.p (.bool true)))]
theorem rat_run (s dz nz lt one : Bool) (h : (lt && !dz) = false) : runF (ratT dz nz lt one) s (.st xv) (.st x1) = some (cond (dz || ((s && nz) || !one)) noR (yesR s)) := by
  cases dz <;> cases lt <;> first | (cases h; done) | (cases s <;> cases nz <;> cases one <;> kernel_rfl)
theorem rat_badN (s : Bool) : runF [] s .sb (.st x1) = some noR := by cases s <;> kernel_rfl
theorem rat_badD (s : Bool) : runF [] s (.st xv) .sb = some noR := by cases s <;> kernel_rfl
theorem rat_badB (s : Bool) : runF [] s .sb .sb = some noR := by cases s <;> kernel_rfl
end Ev
end Go.Proofs.YtepnghhgmjobjaaGreatDoor
namespace Go.Proofs.YtepnghhgmjobjaaGreatDoor
open Go Go.RowKit
namespace Ev
noncomputable def symC : Cfg Sy := symCfg (fun _ _ => fail)
instance symCHard : HardLoc symC := ⟨fun _ _ => loc_fail⟩
theorem symLen_ok (ρ : Env) : ∀ f n w v, (symSig ρ).holds f w v → symLen f = some n → ∃ a c, v = .slice a n c := fun f n w v h e => by
  cases f with
  | n k =>
    have e' : wordsN k = n := Option.some.inj e
    obtain ⟨a, c, rfl⟩ := nat_slice (show NatIn w v k from h)
    exact ⟨a, c, by rw [e']⟩
  | _ => cases e
theorem symFits (ρ : Env) : Fits (symSig ρ) Tryz.prog symC where
  hid := rfl
  G := rfl
  len := symLen_ok ρ
  tab := natFits.tab
  mixed := natFits.mixed
  hard := fun o vs h nx x h' nx' R W _ e => by cases (show (fail : M Sy Nxt) h nx = _ from e)
noncomputable def frs (e : Qe) : List Sy := [.ng e, .fn e, .fd e]
noncomputable def rws (i : Nat) : List Sy := [.rg i, .rn i, .rd i]
noncomputable def inp (b : Bool) (i : Nat) : List Sy := cond b (frs (.v i)) (rws i)
noncomputable def inp4 (a b c d : Bool) : List Sy := inp a 0 ++ (inp b 1 ++ (inp c 2 ++ inp d 3))
noncomputable def v0 : Qe := .v 0
noncomputable def v1 : Qe := .v 1
noncomputable def v2 : Qe := .v 2
noncomputable def v3 : Qe := .v 3
noncomputable def fits (e f : Qe) (s t : Bool) : List As := [⟨0, e, z0, s⟩, ⟨0, f, z0, t⟩]
set_option maxRecDepth 100000
end Ev
end Go.Proofs.YtepnghhgmjobjaaGreatDoor
namespace Go.Proofs.YtepnghhgmjobjaaGreatDoor
open Go Go.RowKit
namespace Ev
abbrev Tri := Bool × ByteArray × ByteArray
def tri (q : Rat) : Tri := (Big.ng q, bst (Big.nu q), bst (Big.de q))
def cel (x : Tri) : List Value := [.bool x.1, .string x.2.1, .string x.2.2]
section
variable {ρ : Env} {w : World} {v : Value}
end
theorem holdsL_append {F : Type} {S : Sig F} {w : World} : ∀ {l l' : List F} {us us' : List Value}, HoldsL S w l us → HoldsL S w l' us' → HoldsL S w (l ++ l') (us ++ us')
  | [], l', us, us', h, h' => by
    obtain rfl : us = [] := h
    exact h'
  | f :: l, l', us, us', h, h' => by
    obtain ⟨u, vs, rfl, h1, h2, h3⟩ := h
    exact ⟨u, vs ++ us', rfl, h1, h2, holdsL_append h3 h'⟩
theorem part_of (x : Tri) : ∃ (b : Bool) (q : Rat) (r : Tri), Fit q ∧ BadF r ∧ (b = true → x = tri q) ∧ (b = false → x = r) := by
  by_cases h : BadF x
  · exact ⟨false, 0, x, ⟨by decide, by decide⟩, h, fun h => (by cases h), fun _ => rfl⟩
  · unfold BadF at h
    have h' : ∃ q : Rat, Fit q ∧ (x.1 = Big.ng q ∧ x.2.1 = bst (Big.nu q) ∧ x.2.2 = bst (Big.de q)) := by
      refine Classical.byContradiction fun hn => h fun q hq he => hn ⟨q, hq, he⟩
    obtain ⟨q, hq, h1, h2, h3⟩ := h'
    refine ⟨true, q, (false, ⟨#[]⟩, ⟨#[]⟩), hq, bad_zero, fun _ => ?_, fun h => (by cases h)⟩
    obtain ⟨x1, x2, x3⟩ := x
    simp only at h1 h2 h3
    rw [h1, h2, h3]; rfl
def pick {α : Type} (a b c d : α) : Nat → α
  | 0 => a
  | 1 => b
  | 2 => c
  | _ => d
theorem pick_all {α : Type} {p : α → Prop} {a b c d : α} (ha : p a) (hb : p b) (hc : p c) (hd : p d) : ∀ i, p (pick a b c d i)
  | 0 => ha
  | 1 => hb
  | 2 => hc
  | _ + 3 => hd
theorem inp_holds {ρ : Env} {w : World} {b : Bool} {i : Nat} {x : Tri} (h1 : b = true → x = tri (ρ.q i)) (h2 : b = false → x = ρ.raw i) : HoldsL (symSig ρ) w (inp b i) (cel x) := by
  cases b with
  | true =>
    rw [h1 rfl]
    exact frac_holds (w := w) (.v i)
  | false =>
    rw [h2 rfl]
    exact ⟨_, _, rfl, rfl, rfl, _, _, rfl, rfl, rfl, _, _, rfl, rfl, rfl, rfl⟩
structure In4 (x y z u : Tri) where
  ρ : Env
  a : Bool
  b : Bool
  c : Bool
  d : Bool
  hx : (a = true → x = tri (ρ.q 0)) ∧ (a = false → x = ρ.raw 0)
  hy : (b = true → y = tri (ρ.q 1)) ∧ (b = false → y = ρ.raw 1)
  hz : (c = true → z = tri (ρ.q 2)) ∧ (c = false → z = ρ.raw 2)
  hu : (d = true → u = tri (ρ.q 3)) ∧ (d = false → u = ρ.raw 3)
theorem In4.holds {x y z u : Tri} (i : In4 x y z u) (w : World) : HoldsL (symSig i.ρ) w (inp4 i.a i.b i.c i.d) (cel x ++ (cel y ++ (cel z ++ cel u))) :=
  holdsL_append (inp_holds i.hx.1 i.hx.2) (holdsL_append (inp_holds i.hy.1 i.hy.2) (holdsL_append (inp_holds i.hz.1 i.hz.2) (inp_holds i.hu.1 i.hu.2)))
end Ev
end Go.Proofs.YtepnghhgmjobjaaGreatDoor
namespace Go.Proofs.YtepnghhgmjobjaaGreatDoor
open Go Go.RowKit
namespace Ev
set_option maxRecDepth 100000
theorem bits_sz {k n : Nat} (h : Sz k n) : Bits (64 * k) n := ⟨by
  have := h.out
  rw [show Big.M64 = 2 ^ 64 from rfl, ← Nat.pow_mul] at this
  exact this⟩
theorem bits_sm {k : Nat} {q : Rat} (h : Sm k q) (hk : k ≤ 4096) : RB q := ⟨(bits_sz h.nu).up (by omega), (bits_sz h.de).up (by omega)⟩
theorem bits_bytes {n : Nat} (h : szN n ≤ 512) : Bits 262144 n := (bits_sz (Sz.bytes h)).up (by decide)
theorem glob_lim : Tryz.prog.globals.size ≤ 100000 := Nat.le_of_ble_eq_true (by kernel_rfl)
def RatYes (w : World) (q : Rat) (e : Ending) (w' : World) : Prop := ∃ v, e = .returned (.tuple ⟨[v, .bool true]⟩) ∧ RatIn w' v q ∧ Below w.heap.size w w'
def RatNo (w : World) (e : Ending) (w' : World) : Prop := ∃ b, e = .returned (.tuple ⟨[.pointer (some ⟨b, 0, none⟩), .bool false]⟩) ∧ Below w.heap.size w w'
theorem noR_is {ρ : XEnv} {lo : Nat} {bs : List Nat} {w : World} {v : Value} (h : noR.is (wSig ρ) lo bs w v) : ∃ b, v = .tuple ⟨[.pointer (some ⟨b, 0, none⟩), .bool false]⟩ := by
  obtain ⟨vs, rfl, v1, l1, rfl, ⟨b, us, rfl, -⟩, v2, l2, rfl, h2, h3⟩ := h
  obtain rfl : l2 = [] := h3
  obtain rfl : v2 = .bool false := h2
  exact ⟨b, rfl⟩
section
variable {w : World}
theorem rat_no {s : Bool} {a b : Wf} {A : List Xs} {ρ : XEnv} {u v : Value} (hA : AllX ρ A) (hr : runF A s a b = some noR) (ha : a.holds ρ w u) (hb : b.holds ρ w v) (hG : Tryz.prog.globals.size ≤ w.heap.size) (hT : Tab w) :
    Calls Tryz.prog 59 ⟨[.agg ⟨[.bool s, u, v]⟩]⟩ w (RatNo w) := by
  refine (tellsB_calls (wFits hA) (wSums2_ok hA) hr (fun r _ _ vs us _ h => mkFrac_ok s r vs us h) rfl glob_lim (bs := []) (us := [u, v]) rfl ⟨u, [v], rfl, ha, Wf.one ha, v, [], rfl, hb, Wf.one hb, rfl⟩ hG hT).mono ?_
  rintro e w' ⟨x, rfl, hx, hb⟩
  obtain ⟨b, rfl⟩ := noR_is hx
  exact ⟨b, rfl, hb⟩
theorem rat_ok {q : Rat} (hq : Fit q) (hG : Tryz.prog.globals.size ≤ w.heap.size) (hT : Tab w) : Calls Tryz.prog 59 ⟨[.agg ⟨cel (tri q)⟩]⟩ w (RatYes w q) := by
  obtain ⟨ρ, e0, e1⟩ : ∃ ρ : XEnv, ρ.q 0 = Big.nu q ∧ ρ.q 1 = Big.de q := ⟨xenv [Big.nu q, Big.de q] (by intro n hn; simp only [List.mem_cons, List.not_mem_nil, or_false] at hn; rcases hn with rfl | rfl; exact bits_bytes hq.nu; exact bits_bytes hq.de), rfl, rfl⟩
  have hd := de_pos q
  have hg : Nat.gcd (Big.nu q) (Big.de q) = 1 := q.reduced
  have hA : AllX ρ (ratT false (decide (ρ.q 0 = 0)) false true) := by
    refine allX_cons (holds1 (not_nought (by show 0 < ρ.q 1; rw [e1]; exact hd))) (allX_cons (holds1 decide_eq_true_iff) (allX_cons (holds3 ?_) (allX_cons (holds2 ?_) (allX_nil ρ))))
    · show _ ↔ Nat.gcd (ρ.q 0) (ρ.q 1) < 1
      rw [e0, e1, hg]; simp
    · show _ ↔ Nat.gcd (ρ.q 0) (ρ.q 1) = 1
      rw [e0, e1, hg]
      exact ⟨fun _ => rfl, fun _ => rfl⟩
  have hs : (Big.ng q && decide (ρ.q 0 = 0)) = false := by
    rw [e0, Bool.and_eq_false_iff, decide_eq_false_iff_not]
    cases hn : Big.ng q with
    | false => exact .inl rfl
    | true => exact .inr fun h0 => by rw [Big.nu_zero.1 h0] at hn; cases hn
  have hr := rat_run (Big.ng q) false (decide (ρ.q 0 = 0)) false true rfl
  rw [hs] at hr
  have ha : (Wf.st xv).holds ρ w (.string (bst (Big.nu q))) := ⟨by show _ = Value.string (bst (ρ.q 0)); rw [e0], by show szN (ρ.q 0) ≤ 512; rw [e0]; exact hq.nu⟩
  have hb : (Wf.st x1).holds ρ w (.string (bst (Big.de q))) := ⟨by show _ = Value.string (bst (ρ.q 1)); rw [e1], by show szN (ρ.q 1) ≤ 512; rw [e1]; exact hq.de⟩
  refine (tellsB_calls (wFits hA) (wSums2_ok hA) hr (fun r _ _ vs us _ h => mkFrac_ok _ r vs us h) rfl glob_lim (bs := []) (us := [.string (bst (Big.nu q)), .string (bst (Big.de q))]) rfl ⟨_, _, rfl, ha, rfl, _, [], rfl, hb, rfl, rfl⟩ hG hT).mono ?_
  rintro e w' ⟨x, rfl, ⟨vs, rfl, v1, l1, rfl, h1, v2, l2, rfl, h2, h3⟩, hb⟩
  obtain rfl : l2 = [] := h3
  obtain rfl : v2 = .bool true := h2
  refine ⟨v1, rfl, ?_, hb⟩
  refine outR_is (ρ := ρ) (s := Big.ng q) (n := xv) (d := x1) (lo := w.heap.size) (bs := []) h1 ⟨by show 0 < ρ.q 1; rw [e1]; exact hd, fun hn => ?_, mk_ev e0 e1⟩ hG
  have h4 := hs
  rw [hn, Bool.true_and, decide_eq_false_iff_not] at h4
  exact Nat.pos_of_ne_zero h4
theorem rat_bad (x : Tri) (hx : BadF x) (hG : Tryz.prog.globals.size ≤ w.heap.size) (hT : Tab w) : Calls Tryz.prog 59 ⟨[.agg ⟨cel x⟩]⟩ w (RatNo w) := by
  obtain ⟨s, a, b⟩ := x
  have h0 : AllX (xenv [] (by simp)) [] := allX_nil _
  cases ha : mayB a with
  | false =>
    have fa : ∀ ρ, Wf.sb.holds ρ w (.string a) := fun ρ => ⟨a, rfl, ha⟩
    cases hb : mayB b with
    | false => exact rat_no h0 (rat_badB s) (fa _) ⟨b, rfl, hb⟩ hG hT
    | true =>
      obtain ⟨e2, z2⟩ := mayB_is hb
      generalize Big.bnum b.data.toList = d at *
      subst e2
      exact rat_no (ρ := xenv [0, d] (by intro n hn; simp only [List.mem_cons, List.not_mem_nil, or_false] at hn; rcases hn with rfl | rfl; exact bits_zero _; exact bits_bytes z2)) (allX_nil _) (rat_badN s) (fa _) ⟨rfl, z2⟩ hG hT
  | true =>
    obtain ⟨e1, z1⟩ := mayB_is ha
    generalize Big.bnum a.data.toList = n at *
    subst e1
    cases hb : mayB b with
    | false => exact rat_no (ρ := xenv [n] (by intro m hn; simp only [List.mem_cons, List.not_mem_nil, or_false] at hn; rcases hn with rfl; exact bits_bytes z1)) (allX_nil _) (rat_badD s) ⟨rfl, z1⟩ ⟨b, rfl, hb⟩ hG hT
    | true =>
      obtain ⟨e2, z2⟩ := mayB_is hb
      generalize Big.bnum b.data.toList = d at *
      subst e2
      obtain ⟨ρ, e0, e1⟩ : ∃ ρ : XEnv, ρ.q 0 = n ∧ ρ.q 1 = d := ⟨xenv [n, d] (by intro m hn; simp only [List.mem_cons, List.not_mem_nil, or_false] at hn; rcases hn with rfl | rfl; exact bits_bytes z1; exact bits_bytes z2), rfl, rfl⟩
      have hA : AllX ρ (ratT (decide (d = 0)) (decide (n = 0)) (decide (Nat.gcd n d < 1)) (decide (Nat.gcd n d = 1))) := by
        refine allX_cons (holds1 ?_) (allX_cons (holds1 ?_) (allX_cons (holds3 ?_) (allX_cons (holds2 ?_) (allX_nil ρ))))
        · rw [decide_eq_true_iff, ← e1]; rfl
        · rw [decide_eq_true_iff, ← e0]; rfl
        · rw [decide_eq_true_iff, ← e0, ← e1]; rfl
        · rw [decide_eq_true_iff, ← e0, ← e1]; rfl
      have hlt : (decide (Nat.gcd n d < 1) && !decide (d = 0)) = false := by
        rw [Bool.and_eq_false_iff, decide_eq_false_iff_not, Bool.not_eq_false', decide_eq_true_iff]
        rcases Nat.eq_zero_or_pos d with h | h
        · exact .inr h
        · have := Nat.gcd_pos_of_pos_right n h
          exact .inl (by omega)
      have hr := rat_run s (decide (d = 0)) (decide (n = 0)) (decide (Nat.gcd n d < 1)) (decide (Nat.gcd n d = 1)) hlt
      have hc : (decide (d = 0) || ((s && decide (n = 0)) || !decide (Nat.gcd n d = 1))) = true := by
        rcases Nat.eq_zero_or_pos d with d0 | d0
        · rw [decide_eq_true d0]; rfl
        · by_cases hg : Nat.gcd n d = 1
          · by_cases hs : s = true → 1 ≤ n
            · obtain ⟨p1, p2, p3⟩ := Big.parts (q := mkRat (Big.sI s n) d) (b := s) (n := n) (d := d) (by omega) hg hs (show d ≠ 0 by omega) rfl rfl
              exact absurd ⟨p1.symm, by rw [p2], by rw [p3]⟩ (hx (mkRat (Big.sI s n) d) ⟨by rw [p2]; exact z1, by rw [p3]; exact z2⟩)
            · have h1 : s = true ∧ n = 0 := by
                cases s with
                | false => exact absurd (fun h => by cases h) hs
                | true => exact ⟨rfl, by
                    rcases Nat.eq_zero_or_pos n with h | h
                    · exact h
                    · exact absurd (fun _ => h) hs⟩
              rw [h1.1, decide_eq_true h1.2]; simp
          · rw [decide_eq_false hg]; simp
      rw [hc] at hr
      exact rat_no hA hr ⟨by show _ = Value.string (bst (ρ.q 0)); rw [e0], by show szN (ρ.q 0) ≤ 512; rw [e0]; exact z1⟩ ⟨by show _ = Value.string (bst (ρ.q 1)); rw [e1], by show szN (ρ.q 1) ≤ 512; rw [e1]; exact z2⟩ hG hT
theorem rsign_any {v : Value} {q : Rat} (hv : RatIn w v q) (hq : RB q) (hG : Tryz.prog.globals.size ≤ w.heap.size) (hT : Tab w) :
    Calls Tryz.prog 60 ⟨[v]⟩ w fun e w' => e = .returned (.int .i64 (cond (decide (Big.nu q = 0)) 0 (cond (Big.ng q) (-1) 1))) ∧ Below w.heap.size w w' := by
  obtain ⟨b, rfl, g, u, d, hb, hu, hd⟩ := hv
  obtain ⟨ρ, e0, e1⟩ : ∃ ρ : XEnv, ρ.q 0 = Big.nu q ∧ ρ.q 1 = Big.de q := ⟨xenv [Big.nu q, Big.de q] (by intro n hn; simp only [List.mem_cons, List.not_mem_nil, or_false] at hn; rcases hn with rfl | rfl; exact hq.1; exact hq.2), rfl, rfl⟩
  rw [← e0] at hu
  rw [← e1] at hd
  have hA : AllX ρ [⟨1, xv, x0, decide (Big.nu q = 0)⟩] := allX_cons (holds1 (by rw [decide_eq_true_iff, ← e0]; rfl)) (allX_nil ρ)
  refine (tellsB_calls (wFits hA) (wSums_ok hA) (rsign_run (Big.ng q) _) (fun _ _ _ _ _ hp _ => sel_ok hp _) (by kernel_rfl) glob_lim (bs := [b]) (us := []) ⟨b, [], rfl, blkR_are (n := xv) (d := x1) hb hu hd, by simp, g, rfl⟩ rfl hG hT).mono ?_
  rintro e w' ⟨x, rfl, hx, hbl⟩
  exact ⟨by rw [show x = _ from hx], hbl⟩
end
end Ev
end Go.Proofs.YtepnghhgmjobjaaGreatDoor
namespace Go.Proofs.YtepnghhgmjobjaaGreatDoor
open Go Go.RowKit
namespace Ev
set_option maxRecDepth 100000
noncomputable def nrT (z : Bool) : List Xs := [⟨1, xv, x0, z⟩, ⟨1, x1, x0, false⟩]
noncomputable def runI (A : List Xs) (s t : Bool) (f : FuncId) : Option (E3 Wf) := tellsB [] [.iv s xv, .iv t x1] (fun _ vs => vs) (call Tryz.prog (wCfg A) (wSums2 A) 60 f)
noncomputable def qn : Xe := .quo xv (.gcd xv x1)
noncomputable def qd : Xe := .quo x1 (.gcd xv x1)
noncomputable def ofT (z : Bool) : List Xs := nrT z ++ [⟨1, qn, x0, z⟩, ⟨1, qd, x0, false⟩]
theorem of_run (s t z : Bool) : runI (ofT z) s t 20 = some (.agg [.d (.one (.p (.bool (xor s t && !z)))), .d (.one (.f (.sx qn))), .d (.one (.f (.sx qd)))]) := by
  cases s <;> cases t <;> cases z <;> kernel_rfl
section
variable {w : World} {x y : Value} {p q : Rat}
end
end Ev
end Go.Proofs.YtepnghhgmjobjaaGreatDoor
namespace Go.Proofs.YtepnghhgmjobjaaGreatDoor
namespace R
open Go.RowKit
end R
end Go.Proofs.YtepnghhgmjobjaaGreatDoor
