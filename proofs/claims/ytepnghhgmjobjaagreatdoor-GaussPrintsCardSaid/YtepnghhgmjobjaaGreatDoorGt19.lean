/- Contracts, in this order: ref90: the greatest common divisor. · ref90: numbers with a sign, in memory: put, and what lies th · ref90: fractions in memory: SetFrac. · ref90: bytes to sizes. Plain arithmetic, then SetBytes. · exact: Frac. · exact: mayBeBytes, Read. -/
import Derived.Test.YtepnghhgmjobjaaGreatDoorGt18
import Derived.StillTailTactics
import Derived.Test.YtepnghhgmjobjaaGreatDoorGt07
import Derived.Test.YtepnghhgmjobjaaGreatDoorGt14
import Derived.Laws.IdiomStrings
namespace Go.Proofs.YtepnghhgmjobjaaGreatDoor
namespace R
open Go.RowKit
structure Pr (w : World) (va vb : Value) (la lb : List Nat) : Prop where
  a : Wd w .u32 va la
  b : Wd w .u32 vb lb
  oa : Big.Ok M32 la
  ob : Big.Ok M32 lb
  na : Big.Norm la
  nb : Big.Norm lb
  sa : la.length ≤ 100000000
  sb : lb.length ≤ 100000000
  le : Big.val M32 lb ≤ Big.val M32 la
theorem Pr.len {w : World} {va vb : Value} {la lb : List Nat} (h : Pr w va vb la lb) : lb.length ≤ la.length := Big.length_le M32_pos h.nb h.oa h.le
set_option maxRecDepth 100000 in
set_option maxHeartbeats 400000 in
theorem gcd_from (w : World) (v u : Value) (swap : Bool) (l m : List Nat) (P : Pr w v u l m) (hs : swap = true → Big.val M32 m < Big.val M32 l) :
    Calls Tryz.prog 187 (if swap then #[u, v] else #[v, u]) w fun e w' => ∃ v', e = .returned v' ∧ Nin w' v' (Nat.gcd (Big.val M32 l) (Big.val M32 m)) ∧ Below w.heap.size w w' := by
  have HP := Lib.hid P
  obtain ⟨G, hG⟩ : ∃ G, Nat.gcd (Big.val M32 l) (Big.val M32 m) = G := ⟨_, rfl⟩
  rw [hG]
  have HG := Lib.hid hG
  clear hG
  have main : ∀ (cv : Int) (x y : Value), True := fun _ _ _ => trivial
  cases swap with
  | false =>
    have CC := Lib.hid (cmp_any w v u l m P.a P.b P.oa P.ob P.na P.nb)
    have hcv : 0 ≤ Big.cmpI (Big.val M32 l) (Big.val M32 m) := by
      have := P.le
      unfold Big.cmpI; rw [if_neg (by omega)]; split <;> omega
    generalize Big.cmpI (Big.val M32 l) (Big.val M32 m) = cv at *
    have t0 : ¬ (cv < 0) := by omega
    have t1 : decide (cv < 0) = false := decide_eq_false t0
    clear P hcv hs main
    simp only [Bool.false_eq_true, if_false]
    go_enter Tryz.func187, Tryz.ntmps187
    go_wp2_with fail
    refine CC.out.mono ?_
    rintro e w1 ⟨rfl, hd⟩
    have HB1 := Lib.hid (hd.below w.heap.size)
    clear hd CC
    go_wp2_with fail
    go_loopw [0, 1] (fun va vb wr => ∃ la lb : List Nat, Hid (Pr wr va vb la lb) ∧ Hid (Nat.gcd (Big.val M32 la) (Big.val M32 lb) = G) ∧ Hid (Below w.heap.size w wr)) (fun _ vb wr => numAt wr vb)
    case atStart => exact ⟨l, m, Lib.hid ⟨HP.out.a.keep HB1.out, HP.out.b.keep HB1.out, HP.out.oa, HP.out.ob, HP.out.na, HP.out.nb, HP.out.sa, HP.out.sb, HP.out.le⟩, HG, HB1⟩
    case round =>
      obtain ⟨la, lb, HPr, HGr, HBr⟩ := hrel
      have hnb := numAt_wd HPr.out.b
      have CS := fun h2 => steps_any wr _ _ la lb HPr.out.a HPr.out.b HPr.out.oa HPr.out.ob HPr.out.na h2 HPr.out.sa HPr.out.sb HPr.out.le
      obtain ⟨a1, c1, rfl, ka1, ka2, -⟩ := HPr.out.a
      obtain ⟨a2, c2, rfl, kb1, kb2, kb3⟩ := HPr.out.b
      by_cases hk : (lb.length : Int) > 1
      · have HCS := Lib.hid (CS (by have := HPr.out.len; omega))
        clear CS kb3
        go_wp2_with fail
        with_reducible refine HCS.out.mono ?_
        rintro e w2 ⟨p, q, r, s, t, rfl, hb2, hp, hq, hr, hs, hM⟩
        have HB2 := Lib.hid hb2
        have HM := Lib.hid hM
        obtain ⟨p', hp'⟩ : ∃ z, sg t p = z := ⟨_, rfl⟩
        obtain ⟨q', hq'⟩ : ∃ z, sg (!t) q = z := ⟨_, rfl⟩
        obtain ⟨r', hr'⟩ : ∃ z, sg (!t) r = z := ⟨_, rfl⟩
        obtain ⟨s', hs'⟩ : ∃ z, sg t s = z := ⟨_, rfl⟩
        rw [hp', hq', hr', hs']
        have HSG := Lib.hid (And.intro hp' (And.intro hq' (And.intro hr' hs')))
        clear hb2 hM hp' hr' hs'
        by_cases hq0 : q = 0
        · have tq : (q' == 0) = true := by rw [beq_iff_eq, ← hq', hq0]; cases t <;> rfl
          have HCQ := Lib.hid (divWords_any w2 _ _ la lb (HPr.out.a.keep HB2.out) (HPr.out.b.keep HB2.out) HPr.out.oa HPr.out.ob HPr.out.na HPr.out.nb (by intro e; rw [e] at hk; simp at hk) HPr.out.sa)
          have hb0 : 0 < Big.val M32 lb := Big.norm_pos M32_pos lb HPr.out.nb (by intro e; rw [e] at hk; simp at hk)
          have HLT := Lib.hid (Nat.mod_lt (Big.val M32 la) hb0)
          have HVL := Lib.hid (Big.val_lt lb HPr.out.ob)
          have HG' := Lib.hid (show Nat.gcd (Big.val M32 lb) (Big.val M32 la % Big.val M32 lb) = G by rw [← HGr.out, Nat.gcd_comm (Big.val M32 la), Nat.gcd_rec (Big.val M32 lb) (Big.val M32 la), Nat.gcd_comm])
          clear hq0 hq' hb0
          go_wp2_with fail
          with_reducible refine HCQ.out.mono ?_
          rintro e w3 ⟨qq, rest, rfl, -, hrest, hb3⟩
          obtain ⟨lr, z1, z2, z3, z4, z5⟩ := nin_len hrest (Nat.lt_trans HLT.out HVL.out)
          have HZ := Lib.hid (And.intro z1 (And.intro z2 (And.intro z3 (And.intro z4 z5))))
          have HB3 := Lib.hid (HB2.out.trans (hb3.mono HB2.out.size))
          clear hrest z1 z2 z3 z4 z5 hb3
          go_wp2_with fail
          go_roundw
          case rel =>
            exact ⟨lb, lr, Lib.hid ⟨HPr.out.b.keep HB3.out, HZ.out.1, HPr.out.ob, HZ.out.2.1, HPr.out.nb, HZ.out.2.2.1, HPr.out.sb, by have := HZ.out.2.2.2.2; have := HPr.out.sb; omega, by rw [HZ.out.2.2.2.1]; exact Nat.le_of_lt HLT.out⟩,
              Lib.hid (by rw [HZ.out.2.2.2.1]; exact HG'.out), Lib.hid (HBr.out.trans (HB3.out.mono HBr.out.size))⟩
          case measure => rw [numAt_wd HZ.out.1, hnb, HZ.out.2.2.2.1]; exact HLT.out
        · have tq : (q' == 0) = false := by
            rw [beq_eq_false_iff_ne, ← hq']
            cases t <;> simp only [sg, Bool.not_true, Bool.not_false, if_true, Bool.false_eq_true, if_false] <;> omega
          obtain ⟨hr1, hs1, a', b', M⟩ := HM.out hq0
          have HC1 := Lib.hid (mixed_any w2 _ _ la lb p q a' t p' q' (HPr.out.a.keep HB2.out) (HPr.out.b.keep HB2.out) HPr.out.oa HPr.out.ob HPr.out.sa HPr.out.sb HSG.out.1.symm HSG.out.2.1.symm hp hq (by omega) M.an M.at_)
          have HC2 := Lib.hid (fun W (hW : Below w2.heap.size w2 W) => mixed_any W _ _ la lb r s b' (!t) r' s' ((HPr.out.a.keep HB2.out).keep hW) ((HPr.out.b.keep HB2.out).keep hW) HPr.out.oa HPr.out.ob HPr.out.sa HPr.out.sb HSG.out.2.2.1.symm (by rw [Bool.not_not]; exact HSG.out.2.2.2.symm) hr hs hs1
            (fun h => M.bt (by cases t <;> first | rfl | cases h)) (fun h => M.bn (by cases t <;> first | rfl | cases h)))
          have HVA := Lib.hid (show a' < M32 ^ la.length from Nat.lt_of_le_of_lt (M.lea hs1) (Big.val_lt la HPr.out.oa))
          have hbl := M.less hr1
          have HVB := Lib.hid (show b' < M32 ^ lb.length from Nat.lt_trans hbl (Big.val_lt lb HPr.out.ob))
          have HLT := Lib.hid (And.intro hbl M.lt)
          have HG' := Lib.hid (show Nat.gcd a' b' = G by rw [← M.gcd]; exact HGr.out)
          clear hq0 hq' M hbl hr1 hs1
          go_wp2_with fail
          with_reducible refine HC1.out.mono ?_
          rintro e w3 ⟨v3, rfl, hv3, hb3⟩
          obtain ⟨l3, z1, z2, z3, z4, z5⟩ := nin_len hv3 HVA.out
          have HZ := Lib.hid (And.intro z1 (And.intro z2 (And.intro z3 (And.intro z4 z5))))
          have HB3 := Lib.hid hb3
          clear hv3 z1 z2 z3 z4 z5 hb3
          go_wp2_with fail
          with_reducible refine (HC2.out w3 HB3.out).mono ?_
          rintro e w4 ⟨v4, rfl, hv4, hb4⟩
          obtain ⟨l4, z1, z2, z3, z4, z5⟩ := nin_len hv4 HVB.out
          have HZ4 := Lib.hid (And.intro z1 (And.intro z2 (And.intro z3 (And.intro z4 z5))))
          have HB4 := Lib.hid hb4
          clear hv4 z1 z2 z3 z4 z5 hb4
          go_wp2_with fail
          go_roundw
          case rel =>
            refine ⟨l3, l4, Lib.hid ⟨HZ.out.1.keep HB4.out, HZ4.out.1, HZ.out.2.1, HZ4.out.2.1, HZ.out.2.2.1, HZ4.out.2.2.1, by have := HZ.out.2.2.2.2; have := HPr.out.sa; omega, by have := HZ4.out.2.2.2.2; have := HPr.out.sb; omega, by rw [HZ.out.2.2.2.1, HZ4.out.2.2.2.1]; exact Nat.le_of_lt HLT.out.2⟩,
              Lib.hid (by rw [HZ.out.2.2.2.1, HZ4.out.2.2.2.1]; exact HG'.out), Lib.hid ?_⟩
            have b3 := HB2.out.trans (HB3.out.mono HB2.out.size)
            exact HBr.out.trans ((b3.trans (HB4.out.mono b3.size)).mono HBr.out.size)
          case measure => rw [numAt_wd HZ4.out.1, hnb, HZ4.out.2.2.2.1]; exact HLT.out.1
      · by_cases hk0 : lb.length = 0
        · have ez : ((lb.length : Int) == 0) = true := by rw [beq_iff_eq]; omega
          have HZ := Lib.hid (show Nin wr (.slice a1 la.length c1) G by
            have e := List.eq_nil_of_length_eq_zero hk0
            have hg := HGr.out
            rw [e, show Big.val M32 [] = 0 from rfl, Nat.gcd_zero_right] at hg
            exact ⟨la, HPr.out.a, HPr.out.oa, HPr.out.na, hg⟩)
          clear CS kb3 hk0
          go_wp2
          go_ret
          exact ⟨_, rfl, HZ.out, HBr.out⟩
        · have hl1 : lb.length = 1 := by omega
          obtain ⟨y, rfl⟩ := List.length_eq_one_iff.1 hl1
          obtain ⟨b, o, rfl, hblt, hcc, -⟩ := kb3 (by simp)
          have hcell : wr.cell? ⟨b, o, none⟩ = some (.int .u32 (y : Int)) := hcc 0 (by simp)
          have hy0 : 0 < y := by
            have := HPr.out.nb
            rcases Nat.eq_zero_or_pos y with e | e
            · subst e; simp [Big.Norm] at this
            · exact e
          have hyM : y < M32 := HPr.out.ob y (by simp)
          have HCD := Lib.hid (divWord_any wr _ la y HPr.out.a HPr.out.oa hyM hy0 (by have := HPr.out.sa; omega))
          have HG' := Lib.hid (show Nat.gcd y (Big.val M32 la % y) = G by
            have hg := HGr.out
            rw [show Big.val M32 [y] = y by simp [Big.val]] at hg
            rw [← hg, Nat.gcd_comm (Big.val M32 la), Nat.gcd_rec y (Big.val M32 la), Nat.gcd_comm])
          have HYM := Lib.hid hyM
          have HC := Lib.hid hcell
          have hym : y < 4294967296 := by rw [← M32_eq]; exact hyM
          have hmd : Big.val M32 la % y < 4294967296 := Nat.lt_of_lt_of_le (Nat.mod_lt _ hy0) (Nat.le_of_lt hym)
          generalize Big.val M32 la % y = m0 at *
          clear CS kb3 hcc hyM hnb hk0 hl1 hcell
          have hcell := HC.out
          go_wp2_with fail
          with_reducible refine HCD.out.mono ?_
          rintro e w5 ⟨q5, rfl, -, hb5⟩
          have HB5 := Lib.hid (HBr.out.trans (hb5.mono HBr.out.size))
          have hc5 : w5.cell? ⟨b, o, none⟩ = some (.int .u32 (y : Int)) := (hb5.cell (p := ⟨b, o, none⟩) hblt).trans HC.out
          clear hb5 hcell
          go_wp2_with fail
          go_loopw [12, 13] (fun c x wz => ∃ m n : Nat, c = .int .u32 (n : Int) ∧ x = .int .u32 (m : Int) ∧ 0 < m ∧ m < 4294967296 ∧ n < 4294967296 ∧ Hid (Nat.gcd m n = G) ∧ Hid (Below w.heap.size w wz)) (fun c _ _ => (intOf c).toNat)
          case atStart => exact ⟨y, m0, rfl, rfl, hy0, hym, hmd, HG', HB5⟩
          case round =>
            obtain ⟨m, n, rfl, rfl, hm0, hmM, hnM, HGG, HBz⟩ := hrel
            rcases Nat.eq_zero_or_pos n with h0 | h0
            · subst h0
              have HN := Lib.hid (Nin.strip (l := [m]) (by
                have hblk : Blk (wr.alloc (.cells #[.int .u32 (m : Int)] 227)) wr.heap.size 227 .u32 [m] := heap_alloc_new wr _
                have := blk_wd0 hblk 1 (by simp) (by omega)
                rw [Big.strip_of_norm [m] (by simp [Big.Norm]; omega)]
                exact this) (Big.Ok.cons (by rw [M32_eq]; exact hmM) Big.Ok.nil))
              go_wp2
              go_ret
              refine ⟨_, rfl, ?_, HBz.out.alloc HBz.out.size _⟩
              have := HN.out
              have hg := HGG.out
              rw [Nat.gcd_zero_right] at hg
              rw [show Big.val M32 [m] = m by simp [Big.val]] at this
              exact Eq.mp (congrArg (Nin _ _) hg) this
            · have tn : ((n : Int) != 0) = true := by rw [bne_iff_ne]; omega
              have tn0 : ((n : Int) == 0) = false := beq_eq_false_iff_ne.2 (by omega)
              have em : ((m : Int) % (n : Int)) = ((m % n : Nat) : Int) := by rw [Int.natCast_emod]
              have hlt := Nat.mod_lt m h0
              have HG2 := Lib.hid (show Nat.gcd n (m % n) = G by rw [← HGG.out, Nat.gcd_comm m n, Nat.gcd_rec n m, Nat.gcd_comm])
              generalize m % n = z at *
              have HLT := Lib.hid hlt
              go_wp2_with fail
              go_quiet (fail)
              go_wp2_with fail
              refine ⟨⟨n, z, by rw [em], rfl, h0, hnM, by have := HLT.out; omega, HG2, Lib.hid (below_drewN HBz.out nq)⟩, by simp only [intOf, em]; have := HLT.out; omega⟩
  | true =>
    have CC := Lib.hid (cmp_any w u v m l P.b P.a P.ob P.oa P.nb P.na)
    rw [Big.cmpI_lt (hs rfl)] at CC
    clear P hs main
    simp only [if_true]
    go_enter Tryz.func187, Tryz.ntmps187
    go_wp2_with fail
    refine CC.out.mono ?_
    rintro e w1 ⟨rfl, hd⟩
    have HB1 := Lib.hid (hd.below w.heap.size)
    clear hd CC
    go_wp2_with fail
    go_loopw [0, 1] (fun va vb wr => ∃ la lb : List Nat, Hid (Pr wr va vb la lb) ∧ Hid (Nat.gcd (Big.val M32 la) (Big.val M32 lb) = G) ∧ Hid (Below w.heap.size w wr)) (fun _ vb wr => numAt wr vb)
    case atStart => exact ⟨l, m, Lib.hid ⟨HP.out.a.keep HB1.out, HP.out.b.keep HB1.out, HP.out.oa, HP.out.ob, HP.out.na, HP.out.nb, HP.out.sa, HP.out.sb, HP.out.le⟩, HG, HB1⟩
    case round =>
      obtain ⟨la, lb, HPr, HGr, HBr⟩ := hrel
      have hnb := numAt_wd HPr.out.b
      have CS := fun h2 => steps_any wr _ _ la lb HPr.out.a HPr.out.b HPr.out.oa HPr.out.ob HPr.out.na h2 HPr.out.sa HPr.out.sb HPr.out.le
      obtain ⟨a1, c1, rfl, ka1, ka2, -⟩ := HPr.out.a
      obtain ⟨a2, c2, rfl, kb1, kb2, kb3⟩ := HPr.out.b
      by_cases hk : (lb.length : Int) > 1
      · have HCS := Lib.hid (CS (by have := HPr.out.len; omega))
        clear CS kb3
        go_wp2_with fail
        with_reducible refine HCS.out.mono ?_
        rintro e w2 ⟨p, q, r, s, t, rfl, hb2, hp, hq, hr, hs, hM⟩
        have HB2 := Lib.hid hb2
        have HM := Lib.hid hM
        obtain ⟨p', hp'⟩ : ∃ z, sg t p = z := ⟨_, rfl⟩
        obtain ⟨q', hq'⟩ : ∃ z, sg (!t) q = z := ⟨_, rfl⟩
        obtain ⟨r', hr'⟩ : ∃ z, sg (!t) r = z := ⟨_, rfl⟩
        obtain ⟨s', hs'⟩ : ∃ z, sg t s = z := ⟨_, rfl⟩
        rw [hp', hq', hr', hs']
        have HSG := Lib.hid (And.intro hp' (And.intro hq' (And.intro hr' hs')))
        clear hb2 hM hp' hr' hs'
        by_cases hq0 : q = 0
        · have tq : (q' == 0) = true := by rw [beq_iff_eq, ← hq', hq0]; cases t <;> rfl
          have HCQ := Lib.hid (divWords_any w2 _ _ la lb (HPr.out.a.keep HB2.out) (HPr.out.b.keep HB2.out) HPr.out.oa HPr.out.ob HPr.out.na HPr.out.nb (by intro e; rw [e] at hk; simp at hk) HPr.out.sa)
          have hb0 : 0 < Big.val M32 lb := Big.norm_pos M32_pos lb HPr.out.nb (by intro e; rw [e] at hk; simp at hk)
          have HLT := Lib.hid (Nat.mod_lt (Big.val M32 la) hb0)
          have HVL := Lib.hid (Big.val_lt lb HPr.out.ob)
          have HG' := Lib.hid (show Nat.gcd (Big.val M32 lb) (Big.val M32 la % Big.val M32 lb) = G by rw [← HGr.out, Nat.gcd_comm (Big.val M32 la), Nat.gcd_rec (Big.val M32 lb) (Big.val M32 la), Nat.gcd_comm])
          clear hq0 hq' hb0
          go_wp2_with fail
          with_reducible refine HCQ.out.mono ?_
          rintro e w3 ⟨qq, rest, rfl, -, hrest, hb3⟩
          obtain ⟨lr, z1, z2, z3, z4, z5⟩ := nin_len hrest (Nat.lt_trans HLT.out HVL.out)
          have HZ := Lib.hid (And.intro z1 (And.intro z2 (And.intro z3 (And.intro z4 z5))))
          have HB3 := Lib.hid (HB2.out.trans (hb3.mono HB2.out.size))
          clear hrest z1 z2 z3 z4 z5 hb3
          go_wp2_with fail
          go_roundw
          case rel =>
            exact ⟨lb, lr, Lib.hid ⟨HPr.out.b.keep HB3.out, HZ.out.1, HPr.out.ob, HZ.out.2.1, HPr.out.nb, HZ.out.2.2.1, HPr.out.sb, by have := HZ.out.2.2.2.2; have := HPr.out.sb; omega, by rw [HZ.out.2.2.2.1]; exact Nat.le_of_lt HLT.out⟩,
              Lib.hid (by rw [HZ.out.2.2.2.1]; exact HG'.out), Lib.hid (HBr.out.trans (HB3.out.mono HBr.out.size))⟩
          case measure => rw [numAt_wd HZ.out.1, hnb, HZ.out.2.2.2.1]; exact HLT.out
        · have tq : (q' == 0) = false := by
            rw [beq_eq_false_iff_ne, ← hq']
            cases t <;> simp only [sg, Bool.not_true, Bool.not_false, if_true, Bool.false_eq_true, if_false] <;> omega
          obtain ⟨hr1, hs1, a', b', M⟩ := HM.out hq0
          have HC1 := Lib.hid (mixed_any w2 _ _ la lb p q a' t p' q' (HPr.out.a.keep HB2.out) (HPr.out.b.keep HB2.out) HPr.out.oa HPr.out.ob HPr.out.sa HPr.out.sb HSG.out.1.symm HSG.out.2.1.symm hp hq (by omega) M.an M.at_)
          have HC2 := Lib.hid (fun W (hW : Below w2.heap.size w2 W) => mixed_any W _ _ la lb r s b' (!t) r' s' ((HPr.out.a.keep HB2.out).keep hW) ((HPr.out.b.keep HB2.out).keep hW) HPr.out.oa HPr.out.ob HPr.out.sa HPr.out.sb HSG.out.2.2.1.symm (by rw [Bool.not_not]; exact HSG.out.2.2.2.symm) hr hs hs1
            (fun h => M.bt (by cases t <;> first | rfl | cases h)) (fun h => M.bn (by cases t <;> first | rfl | cases h)))
          have HVA := Lib.hid (show a' < M32 ^ la.length from Nat.lt_of_le_of_lt (M.lea hs1) (Big.val_lt la HPr.out.oa))
          have hbl := M.less hr1
          have HVB := Lib.hid (show b' < M32 ^ lb.length from Nat.lt_trans hbl (Big.val_lt lb HPr.out.ob))
          have HLT := Lib.hid (And.intro hbl M.lt)
          have HG' := Lib.hid (show Nat.gcd a' b' = G by rw [← M.gcd]; exact HGr.out)
          clear hq0 hq' M hbl hr1 hs1
          go_wp2_with fail
          with_reducible refine HC1.out.mono ?_
          rintro e w3 ⟨v3, rfl, hv3, hb3⟩
          obtain ⟨l3, z1, z2, z3, z4, z5⟩ := nin_len hv3 HVA.out
          have HZ := Lib.hid (And.intro z1 (And.intro z2 (And.intro z3 (And.intro z4 z5))))
          have HB3 := Lib.hid hb3
          clear hv3 z1 z2 z3 z4 z5 hb3
          go_wp2_with fail
          with_reducible refine (HC2.out w3 HB3.out).mono ?_
          rintro e w4 ⟨v4, rfl, hv4, hb4⟩
          obtain ⟨l4, z1, z2, z3, z4, z5⟩ := nin_len hv4 HVB.out
          have HZ4 := Lib.hid (And.intro z1 (And.intro z2 (And.intro z3 (And.intro z4 z5))))
          have HB4 := Lib.hid hb4
          clear hv4 z1 z2 z3 z4 z5 hb4
          go_wp2_with fail
          go_roundw
          case rel =>
            refine ⟨l3, l4, Lib.hid ⟨HZ.out.1.keep HB4.out, HZ4.out.1, HZ.out.2.1, HZ4.out.2.1, HZ.out.2.2.1, HZ4.out.2.2.1, by have := HZ.out.2.2.2.2; have := HPr.out.sa; omega, by have := HZ4.out.2.2.2.2; have := HPr.out.sb; omega, by rw [HZ.out.2.2.2.1, HZ4.out.2.2.2.1]; exact Nat.le_of_lt HLT.out.2⟩,
              Lib.hid (by rw [HZ.out.2.2.2.1, HZ4.out.2.2.2.1]; exact HG'.out), Lib.hid ?_⟩
            have b3 := HB2.out.trans (HB3.out.mono HB2.out.size)
            exact HBr.out.trans ((b3.trans (HB4.out.mono b3.size)).mono HBr.out.size)
          case measure => rw [numAt_wd HZ4.out.1, hnb, HZ4.out.2.2.2.1]; exact HLT.out.1
      · by_cases hk0 : lb.length = 0
        · have ez : ((lb.length : Int) == 0) = true := by rw [beq_iff_eq]; omega
          have HZ := Lib.hid (show Nin wr (.slice a1 la.length c1) G by
            have e := List.eq_nil_of_length_eq_zero hk0
            have hg := HGr.out
            rw [e, show Big.val M32 [] = 0 from rfl, Nat.gcd_zero_right] at hg
            exact ⟨la, HPr.out.a, HPr.out.oa, HPr.out.na, hg⟩)
          clear CS kb3 hk0
          go_wp2
          go_ret
          exact ⟨_, rfl, HZ.out, HBr.out⟩
        · have hl1 : lb.length = 1 := by omega
          obtain ⟨y, rfl⟩ := List.length_eq_one_iff.1 hl1
          obtain ⟨b, o, rfl, hblt, hcc, -⟩ := kb3 (by simp)
          have hcell : wr.cell? ⟨b, o, none⟩ = some (.int .u32 (y : Int)) := hcc 0 (by simp)
          have hy0 : 0 < y := by
            have := HPr.out.nb
            rcases Nat.eq_zero_or_pos y with e | e
            · subst e; simp [Big.Norm] at this
            · exact e
          have hyM : y < M32 := HPr.out.ob y (by simp)
          have HCD := Lib.hid (divWord_any wr _ la y HPr.out.a HPr.out.oa hyM hy0 (by have := HPr.out.sa; omega))
          have HG' := Lib.hid (show Nat.gcd y (Big.val M32 la % y) = G by
            have hg := HGr.out
            rw [show Big.val M32 [y] = y by simp [Big.val]] at hg
            rw [← hg, Nat.gcd_comm (Big.val M32 la), Nat.gcd_rec y (Big.val M32 la), Nat.gcd_comm])
          have HYM := Lib.hid hyM
          have HC := Lib.hid hcell
          have hym : y < 4294967296 := by rw [← M32_eq]; exact hyM
          have hmd : Big.val M32 la % y < 4294967296 := Nat.lt_of_lt_of_le (Nat.mod_lt _ hy0) (Nat.le_of_lt hym)
          generalize Big.val M32 la % y = m0 at *
          clear CS kb3 hcc hyM hnb hk0 hl1 hcell
          have hcell := HC.out
          go_wp2_with fail
          with_reducible refine HCD.out.mono ?_
          rintro e w5 ⟨q5, rfl, -, hb5⟩
          have HB5 := Lib.hid (HBr.out.trans (hb5.mono HBr.out.size))
          have hc5 : w5.cell? ⟨b, o, none⟩ = some (.int .u32 (y : Int)) := (hb5.cell (p := ⟨b, o, none⟩) hblt).trans HC.out
          clear hb5 hcell
          go_wp2_with fail
          go_loopw [12, 13] (fun c x wz => ∃ m n : Nat, c = .int .u32 (n : Int) ∧ x = .int .u32 (m : Int) ∧ 0 < m ∧ m < 4294967296 ∧ n < 4294967296 ∧ Hid (Nat.gcd m n = G) ∧ Hid (Below w.heap.size w wz)) (fun c _ _ => (intOf c).toNat)
          case atStart => exact ⟨y, m0, rfl, rfl, hy0, hym, hmd, HG', HB5⟩
          case round =>
            obtain ⟨m, n, rfl, rfl, hm0, hmM, hnM, HGG, HBz⟩ := hrel
            rcases Nat.eq_zero_or_pos n with h0 | h0
            · subst h0
              have HN := Lib.hid (Nin.strip (l := [m]) (by
                have hblk : Blk (wr.alloc (.cells #[.int .u32 (m : Int)] 227)) wr.heap.size 227 .u32 [m] := heap_alloc_new wr _
                have := blk_wd0 hblk 1 (by simp) (by omega)
                rw [Big.strip_of_norm [m] (by simp [Big.Norm]; omega)]
                exact this) (Big.Ok.cons (by rw [M32_eq]; exact hmM) Big.Ok.nil))
              go_wp2
              go_ret
              refine ⟨_, rfl, ?_, HBz.out.alloc HBz.out.size _⟩
              have := HN.out
              have hg := HGG.out
              rw [Nat.gcd_zero_right] at hg
              rw [show Big.val M32 [m] = m by simp [Big.val]] at this
              exact Eq.mp (congrArg (Nin _ _) hg) this
            · have tn : ((n : Int) != 0) = true := by rw [bne_iff_ne]; omega
              have tn0 : ((n : Int) == 0) = false := beq_eq_false_iff_ne.2 (by omega)
              have em : ((m : Int) % (n : Int)) = ((m % n : Nat) : Int) := by rw [Int.natCast_emod]
              have hlt := Nat.mod_lt m h0
              have HG2 := Lib.hid (show Nat.gcd n (m % n) = G by rw [← HGG.out, Nat.gcd_comm m n, Nat.gcd_rec n m, Nat.gcd_comm])
              generalize m % n = z at *
              have HLT := Lib.hid hlt
              go_wp2_with fail
              go_quiet (fail)
              go_wp2_with fail
              refine ⟨⟨n, z, by rw [em], rfl, h0, hnM, by have := HLT.out; omega, HG2, Lib.hid (below_drewN HBz.out nq)⟩, by simp only [intOf, em]; have := HLT.out; omega⟩
theorem gcdWords_any (w : World) (v u : Value) (l m : List Nat) (h : Wd w .u32 v l) (hu : Wd w .u32 u m) (ol : Big.Ok M32 l) (om : Big.Ok M32 m) (nl : Big.Norm l) (nm : Big.Norm m) (hl : l.length ≤ 100000000) (hm : m.length ≤ 100000000) :
    Calls Tryz.prog 187 #[v, u] w fun e w' => ∃ v', e = .returned v' ∧ Nin w' v' (Nat.gcd (Big.val M32 l) (Big.val M32 m)) ∧ Below w.heap.size w w' := by
  rcases Nat.lt_or_ge (Big.val M32 l) (Big.val M32 m) with h1 | h1
  · rw [Nat.gcd_comm]
    exact gcd_from w u v true m l ⟨hu, h, om, ol, nm, nl, hm, hl, Nat.le_of_lt h1⟩ fun _ => h1
  · exact gcd_from w v u false l m ⟨h, hu, ol, om, nl, nm, hl, hm, h1⟩ fun h => by cases h
end R
end Go.Proofs.YtepnghhgmjobjaaGreatDoor
namespace Go.Proofs.YtepnghhgmjobjaaGreatDoor
namespace R
open Go.RowKit
structure IntAt (w : World) (b o : Nat) (s : Bool) (n : Nat) : Prop where
  neg : w.cell? ⟨b, o, none⟩ = some (.bool s)
  size : ∃ u, w.cell? ⟨b, o + 1, none⟩ = some u ∧ Nin w u n
structure Room (w : World) (b o : Nat) : Prop where
  c0 : ∃ x, w.cell? ⟨b, o, none⟩ = some x
  c1 : ∃ x, w.cell? ⟨b, o + 1, none⟩ = some x
  f0 : w.frozen? ⟨b, o, none⟩ = false
  f1 : w.frozen? ⟨b, o + 1, none⟩ = false
theorem cell_lt {w : World} {b o : Nat} {x : Value} (h : w.cell? ⟨b, o, none⟩ = some x) : b < w.heap.size := by
  rcases Nat.lt_or_ge b w.heap.size with h1 | h1
  · exact h1
  · unfold World.cell? at h
    rw [Array.getElem?_eq_none h1] at h
    cases h
theorem IntAt.lt {w : World} {b o : Nat} {s : Bool} {n : Nat} (h : IntAt w b o s n) : b < w.heap.size := cell_lt h.neg
theorem Room.lt {w : World} {b o : Nat} (h : Room w b o) : b < w.heap.size := by obtain ⟨x, hx⟩ := h.c0; exact cell_lt hx
theorem IntAt.keep {w w' : World} {b o : Nat} {s : Bool} {n : Nat} (h : IntAt w b o s n) (hb : Below w.heap.size w w') : IntAt w' b o s n := by
  obtain ⟨u, hu, hn⟩ := h.size
  exact ⟨(hb.cell (p := ⟨b, o, none⟩) h.lt).trans h.neg, u, (hb.cell (p := ⟨b, o + 1, none⟩) h.lt).trans hu, hn.keep hb⟩
theorem Room.keep {w w' : World} {b o : Nat} (h : Room w b o) (hb : Below w.heap.size w w') : Room w' b o := by
  obtain ⟨x, hx⟩ := h.c0
  obtain ⟨y, hy⟩ := h.c1
  exact ⟨⟨x, (hb.cell (p := ⟨b, o, none⟩) h.lt).trans hx⟩, ⟨y, (hb.cell (p := ⟨b, o + 1, none⟩) h.lt).trans hy⟩, (hb.frozen (p := ⟨b, o, none⟩) h.lt).trans h.f0, (hb.frozen (p := ⟨b, o + 1, none⟩) h.lt).trans h.f1⟩
def Put (w : World) (b o : Nat) (s : Bool) (n : Nat) (e : Ending) (w' : World) : Prop :=
  e = .returned (.pointer (some ⟨b, o, none⟩)) ∧ ∃ w1 u, Below w.heap.size w w1 ∧ Nin w1 u n ∧ w' = (w1.setCell ⟨b, o, none⟩ (.bool s)).setCell ⟨b, o + 1, none⟩ u
set_option maxRecDepth 100000 in
theorem put_any (w : World) (b o n : Nat) (s : Bool) (v : Value) (hv : Nin w v n) (hr : Room w b o) :
    Calls Tryz.prog 189 #[.pointer (some ⟨b, o, none⟩), .bool s, v] w fun e w' =>
      e = .returned (.pointer (some ⟨b, o, none⟩)) ∧ (w.setCell ⟨b, o, none⟩ (.bool (s && decide (0 < n)))).setCell ⟨b, o + 1, none⟩ v = w' := by
  obtain ⟨l, hl, ol, nl, hn⟩ := hv
  obtain ⟨⟨x, hx⟩, ⟨y, hy⟩, f0, f1⟩ := hr
  obtain ⟨A, c, rfl, -, -, -⟩ := hl
  have hpos : decide (0 < n) = decide (((l.length : Nat) : Int) > 0) := by
    rw [decide_eq_decide]
    rcases Nat.eq_zero_or_pos l.length with h0 | h0
    · obtain rfl := List.eq_nil_of_length_eq_zero h0
      simp [← hn, Big.val]
    · have := Big.norm_pos M32_pos l nl (by intro e; subst e; simp at h0)
      omega
  have H := Lib.hid hpos
  have hy2 : ∀ z, (w.setCell ⟨b, o, none⟩ z).cell? ⟨b, o + 1, none⟩ = some y := fun z => (World.cell?_setCell_other _ _ _ _ (by intro e; injection e; omega)).trans hy
  clear hn ol nl hpos
  cases s with
  | false =>
    go_enter Tryz.func189, Tryz.ntmps189
    go_wp2
    go_ret
    exact ⟨rfl, by simp⟩
  | true =>
    go_enter Tryz.func189, Tryz.ntmps189
    go_wp2
    go_ret
    exact ⟨rfl, by rw [H.out]; simp⟩
end R
end Go.Proofs.YtepnghhgmjobjaaGreatDoor
namespace Go.Proofs.YtepnghhgmjobjaaGreatDoor
namespace R
open Go.RowKit
structure Sml (n : Nat) : Prop where
  lt : n < M32 ^ Big.KL
theorem nin_list {w : World} {v : Value} {n : Nat} (h : Nin w v n) (hn : Sml n) : ∃ l, Wd w .u32 v l ∧ Big.Ok M32 l ∧ Big.Norm l ∧ Big.val M32 l = n ∧ l.length ≤ 100000000 := by
  obtain ⟨l, h1, h2, h3, h4, h5⟩ := nin_len h hn.lt
  exact ⟨l, h1, h2, h3, h4, by rwa [Big.KL_eq] at h5⟩
theorem mul_nat (w : World) (v u : Value) (a b : Nat) (h : Nin w v a) (k : Nin w u b) (ha : Sml a) (hb : Sml b) :
    Calls Tryz.prog 202 #[v, u] w fun e w' => ∃ v', e = .returned v' ∧ Nin w' v' (a * b) ∧ Below w.heap.size w w' := by
  obtain ⟨l, h1, h2, h3, rfl, h5⟩ := nin_list h ha
  obtain ⟨m, k1, k2, k3, rfl, k5⟩ := nin_list k hb
  exact mulWords_any w v u l m h1 k1 h2 k2 (by omega) (by omega)
theorem add_nat (w : World) (v u : Value) (a b : Nat) (h : Nin w v a) (k : Nin w u b) (ha : Sml a) (hb : Sml b) :
    Calls Tryz.prog 203 #[v, u] w fun e w' => ∃ v', e = .returned v' ∧ Nin w' v' (a + b) ∧ Below w.heap.size w w' := by
  obtain ⟨l, h1, h2, h3, rfl, h5⟩ := nin_list h ha
  obtain ⟨m, k1, k2, k3, rfl, k5⟩ := nin_list k hb
  exact addWords_any w v u l m h1 k1 h2 k2 (by omega) (by omega)
theorem less_nat (w : World) (v u : Value) (a b : Nat) (h : Nin w v a) (k : Nin w u b) (ha : Sml a) (hb : b ≤ a) :
    Calls Tryz.prog 204 #[v, u] w fun e w' => ∃ v', e = .returned v' ∧ Nin w' v' (a - b) ∧ Below w.heap.size w w' := by
  obtain ⟨l, h1, h2, h3, rfl, h5⟩ := nin_list h ha
  obtain ⟨m, k1, k2, k3, rfl⟩ := k
  exact subWords_any w v u l m h1 k1 h2 k2 (by omega) hb (Big.length_le M32_pos k3 h2 hb)
theorem cmp_nat (w : World) (v u : Value) (a b : Nat) (h : Nin w v a) (k : Nin w u b) :
    Calls Tryz.prog 196 #[v, u] w fun e w' => e = .returned (.int .i64 (Big.cmpI a b)) ∧ Drew w w' := by
  obtain ⟨l, h1, h2, h3, rfl⟩ := h
  obtain ⟨m, k1, k2, k3, rfl⟩ := k
  exact cmp_any w v u l m h1 k1 h2 k2 h3 k3
theorem gcd_nat (w : World) (v u : Value) (a b : Nat) (h : Nin w v a) (k : Nin w u b) (ha : Sml a) (hb : Sml b) :
    Calls Tryz.prog 187 #[v, u] w fun e w' => ∃ v', e = .returned v' ∧ Nin w' v' (Nat.gcd a b) ∧ Below w.heap.size w w' := by
  obtain ⟨l, h1, h2, h3, rfl, h5⟩ := nin_list h ha
  obtain ⟨m, k1, k2, k3, rfl, k5⟩ := nin_list k hb
  exact gcdWords_any w v u l m h1 k1 h2 k2 h3 k3 (by omega) (by omega)
theorem div_nat (w : World) (v u : Value) (a b : Nat) (h : Nin w v a) (k : Nin w u b) (ha : Sml a) (hb : 0 < b) :
    Calls Tryz.prog 188 #[v, u] w (QR w a b) := by
  obtain ⟨l, h1, h2, h3, rfl, h5⟩ := nin_list h ha
  obtain ⟨m, k1, k2, k3, rfl⟩ := k
  exact divWords_any w v u l m h1 k1 h2 k2 h3 k3 (by intro e; subst e; simp [Big.val] at hb) (by omega)
def PutR (w : World) (b : Nat) (s : Bool) (m n : Nat) (e : Ending) (w' : World) : Prop :=
  e = .returned (.pointer (some ⟨b, 0, none⟩)) ∧ ∃ w1 u v, Below w.heap.size w w1 ∧ Nin w1 u m ∧ Nin w1 v n ∧
    w' = (((w1.setCell ⟨b, 0, none⟩ (.bool s)).setCell ⟨b, 1, none⟩ u).setCell ⟨b, 2, none⟩ (.bool false)).setCell ⟨b, 3, none⟩ v
theorem room_set {w : World} {b o : Nat} {p : Addr} {u : Value} (h : Room w b o) (h0 : p ≠ ⟨b, o, none⟩) (h1 : p ≠ ⟨b, o + 1, none⟩) : Room (w.setCell p u) b o := by
  obtain ⟨⟨x, hx⟩, ⟨y, hy⟩, f0, f1⟩ := h
  exact ⟨⟨x, (World.cell?_setCell_other _ _ _ _ h0).trans hx⟩, ⟨y, (World.cell?_setCell_other _ _ _ _ h1).trans hy⟩, by simpa using f0, by simpa using f1⟩
set_option maxRecDepth 100000 in
theorem nin_slice {w : World} {v : Value} {n : Nat} (h : Nin w v n) : ∃ (A : Option Addr) (k c : Nat), v = .slice A k c := by
  obtain ⟨l, ⟨A, c, e, -, -, -⟩, -⟩ := h
  exact ⟨A, _, c, e⟩
set_option maxRecDepth 100000 in
theorem put_false (w : World) (b o : Nat) (v : Value) (hv : ∃ (A : Option Addr) (k c : Nat), v = .slice A k c) (hr : Room w b o) :
    Calls Tryz.prog 189 #[.pointer (some ⟨b, o, none⟩), .bool false, v] w fun e w' =>
      e = .returned (.pointer (some ⟨b, o, none⟩)) ∧ (w.setCell ⟨b, o, none⟩ (.bool false)).setCell ⟨b, o + 1, none⟩ v = w' := by
  obtain ⟨A, k, c, rfl⟩ := hv
  obtain ⟨⟨x, hx⟩, ⟨y, hy⟩, f0, f1⟩ := hr
  have hy2 : ∀ z, (w.setCell ⟨b, o, none⟩ z).cell? ⟨b, o + 1, none⟩ = some y := fun z => (World.cell?_setCell_other _ _ _ _ (by intro e; injection e; omega)).trans hy
  go_enter Tryz.func189, Tryz.ntmps189
  go_wp2
  go_ret
  exact ⟨rfl, rfl⟩
theorem room_two {w : World} {b : Nat} {x u : Value} (h : Room w b 2) : Room ((w.setCell ⟨b, 0, none⟩ x).setCell ⟨b, 1, none⟩ u) b 2 :=
  room_set (room_set h (by intro e; injection e; omega) (by intro e; injection e; omega)) (by intro e; injection e; omega) (by intro e; injection e; omega)
theorem putR_of {w0 w1 w2 w3 : World} {b m n m' n' : Nat} {s s' : Bool} {u v : Value} (hb : Below w0.heap.size w0 w1) (hu : Nin w1 u m) (hv : Nin w1 v n) (e1 : m = m') (e2 : n = n') (e3 : s = s')
    (h1 : (w1.setCell ⟨b, 0, none⟩ (.bool s)).setCell ⟨b, 0 + 1, none⟩ u = w2) (h2 : (w2.setCell ⟨b, 2, none⟩ (.bool false)).setCell ⟨b, 2 + 1, none⟩ v = w3) : PutR w0 b s' m' n' (.returned (.pointer (some ⟨b, 0, none⟩))) w3 := by
  subst e1; subst e2; subst e3
  exact ⟨rfl, w1, u, v, hb, hu, hv, by rw [← h2, ← h1]⟩
structure SFr (w : World) (bz bx ox by_ oy m n : Nat) (s t : Bool) (u v : Value) : Prop where
  x0 : w.cell? ⟨bx, ox, none⟩ = some (.bool s)
  x1 : w.cell? ⟨bx, ox + 1, none⟩ = some u
  y0 : w.cell? ⟨by_, oy, none⟩ = some (.bool t)
  y1 : w.cell? ⟨by_, oy + 1, none⟩ = some v
  hu : Nin w u m
  hv : Nin w v n
  z0 : Room w bz 0
  z2 : Room w bz 2
theorem SFr.keep {w w' : World} {bz bx ox by_ oy m n : Nat} {s t : Bool} {u v : Value} (h : SFr w bz bx ox by_ oy m n s t u v) (hb : Below w.heap.size w w') : SFr w' bz bx ox by_ oy m n s t u v :=
  ⟨(hb.cell (p := ⟨bx, ox, none⟩) (cell_lt h.x0)).trans h.x0, (hb.cell (p := ⟨bx, ox + 1, none⟩) (cell_lt h.x1)).trans h.x1, (hb.cell (p := ⟨by_, oy, none⟩) (cell_lt h.y0)).trans h.y0, (hb.cell (p := ⟨by_, oy + 1, none⟩) (cell_lt h.y1)).trans h.y1,
    h.hu.keep hb, h.hv.keep hb, h.z0.keep hb, h.z2.keep hb⟩
theorem nin_drew (w : World) : Below w.heap.size w w.drew := below_drewN (Below.refl _ w) 1
set_option maxRecDepth 100000 in
set_option maxHeartbeats 400000 in
theorem setFrac_any (w : World) (bz bx ox by_ oy m n : Nat) (s t : Bool) (hz : Room w bz 0) (hz2 : Room w bz 2) (hx : IntAt w bx ox s m) (hy : IntAt w by_ oy t n) (hm : Sml m) (hn : Sml n) (hn0 : 0 < n) :
    Calls Tryz.prog 115 #[.pointer (some ⟨bz, 0, none⟩), .pointer (some ⟨bx, ox, none⟩), .pointer (some ⟨by_, oy, none⟩)] w
      (PutR w bz ((s != t) && decide (0 < m)) (m / Nat.gcd m n) (n / Nat.gcd m n)) := by
  obtain ⟨x0, u, x1, hu⟩ := hx
  obtain ⟨y0, v, y1, hv⟩ := hy
  have HF0 := Lib.hid (SFr.keep ⟨x0, x1, y0, y1, hu, hv, hz, hz2⟩ (nin_drew w))
  have HM := Lib.hid (gcd_nat w.drew u v m n (hu.keep (nin_drew w)) (hv.keep (nin_drew w)) hm hn)
  have HG0 := Lib.hid (Nat.gcd_pos_of_pos_right m hn0)
  have HGn := Lib.hid (And.intro (Nat.gcd_dvd_left m n) (And.intro (Nat.gcd_dvd_right m n) hn0))
  have HS := Lib.hid (And.intro hm hn)
  have HW := Lib.hid (nin_drew w)
  clear hu hv hm hn hz hz2 hn0 x0 y0
  generalize Nat.gcd m n = G at *
  go_enter Tryz.func115, Tryz.ntmps115
  go_wp2_with fail
  go_still_tail 8, (by kernel_rfl)
  change wpList _ _ _ _ _ w.drew
  generalize w.drew = wa at *
  clear x1 y1
  go_wp2_with fail
  refine HM.out.mono ?_
  rintro e w3 ⟨v3, rfl, ⟨lg, hg, og, ng, hgv⟩, hb3⟩
  have HF3 := Lib.hid (HF0.out.keep hb3)
  have HB3 := Lib.hid (HW.out.trans (hb3.mono HW.out.size))
  have HG3 := Lib.hid (And.intro hg (And.intro og (And.intro ng hgv)))
  obtain ⟨A, c, rfl, -, -, g3⟩ := hg
  clear hb3 og ng hgv HM HF0
  have q0 := HF3.out.x0
  have q1 := HF3.out.y0
  go_wp2_with fail
  go_quiet (fail)
  clear q0 q1
  have HF4 := Lib.hid (HF3.out.keep (below_drewN (Below.refl _ w3) nq))
  have HB4 := Lib.hid (below_drewN HB3.out nq)
  have HG4 := Lib.hid (HG3.out.1.keep (below_drewN (Below.refl _ w3) nq))
  have HG5 := Lib.hid HG3.out.2
  clear HF3 HB3 HG3 g3
  generalize w3.drewN nq = w4 at *
  have q0 := HF4.out.x1
  have q1 := HF4.out.y1
  go_wp2_with fail
  go_quiet (fail)
  clear q0 q1
  have HF5 := Lib.hid (HF4.out.keep (below_drewN (Below.refl _ w4) nq))
  have HB5 := Lib.hid (below_drewN HB4.out nq)
  have HG6 := Lib.hid (HG4.out.keep (below_drewN (Below.refl _ w4) nq))
  clear HF4 HB4 HG4
  generalize w4.drewN nq = w5 at *
  by_cases h1 : lg = [1]
  · subst h1
    obtain ⟨A', c', e, -, -, g3⟩ := HG6.out
    cases e
    obtain ⟨b, o, rfl, hlt, hc, -⟩ := g3 (by simp)
    have hcell : w5.cell? ⟨b, o, none⟩ = some (.int .u32 1) := hc 0 (by simp)
    have HP := Lib.hid (put_any w5 bz 0 m (!(s == t)) u HF5.out.hu HF5.out.z0)
    have hG1 : G = 1 := by have := HG5.out.2.2; simp [Big.val] at this; omega
    have HE := Lib.hid hG1
    clear hc g3 hG1
    go_wp2_with fail
    refine HP.out.mono ?_
    rintro e w6 ⟨rfl, h6⟩
    have H6 := Lib.hid h6
    have HP2 := Lib.hid (put_false w6 bz 2 v (nin_slice HF5.out.hv) (by rw [← h6]; exact room_two HF5.out.z2))
    clear h6
    go_wp2_with fail
    refine HP2.out.mono ?_
    rintro e w7 ⟨rfl, h7⟩
    have H7 := Lib.hid h7
    clear h7
    go_wp2
    go_ret
    exact putR_of HB5.out HF5.out.hu HF5.out.hv (by rw [HE.out, Nat.div_one]) (by rw [HE.out, Nat.div_one]) (by cases s <;> cases t <;> rfl) H6.out H7.out
  · have hl : lg.length ≠ 0 := by
      intro e
      have := HG5.out.2.2
      rw [List.eq_nil_of_length_eq_zero e] at this
      have := HG0.out
      simp [Big.val] at *
      omega
    have HD1 := Lib.hid (div_nat w5 u (.slice A lg.length c) m G HF5.out.hu ⟨lg, HG6.out, HG5.out⟩ HS.out.1 HG0.out)
    have HD2 := Lib.hid (fun W (hW : Below w5.heap.size w5 W) => div_nat W v (.slice A lg.length c) n G (HF5.out.hv.keep hW) ⟨lg, HG6.out.keep hW, HG5.out⟩ HS.out.2 HG0.out)
    have HLg := Lib.hid hl
    obtain ⟨A', c', e, -, -, g3⟩ := HG6.out
    injection e with e1 e2 e3
    subst e1; subst e3; clear e2
    obtain ⟨b, o, rfl, hlt, hc, -⟩ := g3 (by omega)
    have hcell : w5.cell? ⟨b, o, none⟩ = some (.int .u32 ((Big.nth lg 0 : Nat) : Int)) := hc 0 (by omega)
    have hone : ((lg.length : Int) > 1) ∨ (¬ ((lg.length : Int) > 1) ∧ (((Big.nth lg 0 : Nat) : Int) != 1) = true) := by
      by_cases h : (lg.length : Int) > 1
      · exact .inl h
      · refine .inr ⟨h, ?_⟩
        obtain ⟨y, rfl⟩ := List.length_eq_one_iff.1 (show lg.length = 1 by omega)
        rw [bne_iff_ne]
        intro e
        have e' : (y : Int) = 1 := e
        exact h1 (by rw [show y = 1 by omega])
    have HE := Lib.hid (And.intro HGn.out HG0.out)
    have hl0 : 0 < lg.length := by omega
    have hl1 : (0 : Int) < (lg.length : Int) := by omega
    clear hc g3 h1 hl HLg
    generalize Big.nth lg 0 = g0 at *
    rcases hone with t1 | ⟨t1, t2⟩
    all_goals
      go_wp2_with fail
      with_reducible refine HD1.out.mono ?_
      rintro e w6 ⟨q6, r6, rfl, hq6, -, hb6⟩
      have HQ6 := Lib.hid hq6
      have HB6 := Lib.hid hb6
      clear hq6 hb6
      go_wp2_with fail
      with_reducible refine (HD2.out w6 HB6.out).mono ?_
      rintro e w7 ⟨q7, r7, rfl, hq7, -, hb7⟩
      have HQ7 := Lib.hid hq7
      have HB7 := Lib.hid (HB6.out.trans (hb7.mono HB6.out.size))
      have HQ67 := Lib.hid (HQ6.out.keep hb7)
      have HF7 := Lib.hid (HF5.out.keep HB7.out)
      have HP := Lib.hid (put_any w7 bz 0 (m / G) (!(s == t)) q6 HQ67.out HF7.out.z0)
      clear hq7 hb7
      go_wp2_with fail
      with_reducible refine HP.out.mono ?_
      rintro e w8 ⟨rfl, h8⟩
      have H8 := Lib.hid h8
      have HP2 := Lib.hid (put_false w8 bz 2 q7 (nin_slice HQ7.out) (by rw [← h8]; exact room_two HF7.out.z2))
      clear h8
      go_wp2_with fail
      with_reducible refine HP2.out.mono ?_
      rintro e w9 ⟨rfl, h9⟩
      have H9 := Lib.hid h9
      clear h9
      go_wp2
      go_ret
      refine putR_of (HB5.out.trans (HB7.out.mono HB5.out.size)) HQ67.out HQ7.out rfl rfl ?_ H8.out H9.out
      have hd : decide (0 < m / G) = decide (0 < m) := by
        rw [decide_eq_decide]
        obtain ⟨⟨⟨k, hk⟩, -, -⟩, hG⟩ := HE.out
        rw [hk, Nat.mul_div_cancel_left _ hG]
        exact ⟨fun h => Nat.mul_pos hG h, fun h => Nat.pos_of_mul_pos_left h⟩
      rw [hd]
      cases s <;> cases t <;> rfl
end R
end Go.Proofs.YtepnghhgmjobjaaGreatDoor
namespace Go.Proofs.YtepnghhgmjobjaaGreatDoor
namespace R
open Go.RowKit
def w4 (T : List Nat) (j : Nat) : Nat := Big.nth T (4 * j) + 256 * Big.nth T (4 * j + 1) + 65536 * Big.nth T (4 * j + 2) + 16777216 * Big.nth T (4 * j + 3)
theorem val_take4 (T : List Nat) : Big.val 256 (T.take 4) = Big.nth T 0 + 256 * Big.nth T 1 + 65536 * Big.nth T 2 + 16777216 * Big.nth T 3 := by
  rcases T with _ | ⟨a, _ | ⟨b, _ | ⟨c, _ | ⟨d, l⟩⟩⟩⟩ <;> simp [Big.val, Big.nth] <;> omega
theorem w4_val (T : List Nat) (j : Nat) : Big.val 256 ((T.drop (4 * j)).take 4) = w4 T j := by
  have e : ∀ i, Big.nth (T.drop (4 * j)) i = Big.nth T (4 * j + i) := fun i => by
    unfold Big.nth
    rw [List.getD_eq_getElem?_getD, List.getD_eq_getElem?_getD, List.getElem?_drop]
  rw [val_take4, e, e, e, e]
  rfl
theorem w4_lt {T : List Nat} (h : Big.Ok 256 T) (j : Nat) : w4 T j < 4294967296 := by
  have a := h.nth (by omega) (4 * j)
  have b := h.nth (by omega) (4 * j + 1)
  have c := h.nth (by omega) (4 * j + 2)
  have d := h.nth (by omega) (4 * j + 3)
  unfold w4; omega
def hiB (R : List Nat) (k : Nat) : List Nat := List.replicate k 0 ++ R.drop k
theorem hiB_nth (R : List Nat) (k i : Nat) (hk : k ≤ R.length) : Big.nth (hiB R k) i = if i < k then 0 else Big.nth R i := by
  unfold hiB Big.nth
  rw [List.getD_eq_getElem?_getD, List.getD_eq_getElem?_getD, List.getElem?_append, List.length_replicate]
  split
  · rw [List.getElem?_replicate]; split <;> rfl
  · rw [List.getElem?_drop]; congr 2; omega
theorem hiB_ok {R : List Nat} (h : Big.Ok 256 R) (k : Nat) : Big.Ok 256 (hiB R k) := Big.Ok.append (fun d hd => by rw [List.eq_of_mem_replicate hd]; omega) (h.drop k)
theorem byte_more (R : List Nat) (q r : Nat) (hr : r < 4) (hk : 4 * q + r < R.length) :
    (∀ j, j ≠ q → w4 (hiB R (4 * q + r)) j = w4 (hiB R (4 * q + r + 1)) j) ∧ w4 (hiB R (4 * q + r)) q = w4 (hiB R (4 * q + r + 1)) q + 256 ^ r * Big.nth R (4 * q + r) ∧
      w4 (hiB R (4 * q + r + 1)) q % 2 ^ (8 * (r + 1)) = 0 := by
  have e1 := fun i => hiB_nth R (4 * q + r) i (by omega)
  have e2 := fun i => hiB_nth R (4 * q + r + 1) i (by omega)
  refine ⟨fun j hj => ?_, ?_, ?_⟩
  · unfold w4
    simp only [e1, e2]
    have : ∀ i, i ≠ 4 * q + r → (if i < 4 * q + r then 0 else Big.nth R i) = (if i < 4 * q + r + 1 then 0 else Big.nth R i) := fun i hi => by
      by_cases h : i < 4 * q + r
      · rw [if_pos h, if_pos (by omega)]
      · rw [if_neg h, if_neg (by omega)]
    rw [this _ (by omega), this _ (by omega), this _ (by omega), this _ (by omega)]
  · unfold w4
    simp only [e1, e2]
    match r, hr with
    | 0, _ => rw [if_neg (by omega), if_neg (by omega), if_neg (by omega), if_neg (by omega), if_pos (by omega), if_neg (by omega), if_neg (by omega), if_neg (by omega)]; simp <;> omega
    | 1, _ => rw [if_pos (by omega), if_neg (by omega), if_neg (by omega), if_neg (by omega), if_pos (by omega), if_pos (by omega), if_neg (by omega), if_neg (by omega)]; simp <;> omega
    | 2, _ => rw [if_pos (by omega), if_pos (by omega), if_neg (by omega), if_neg (by omega), if_pos (by omega), if_pos (by omega), if_pos (by omega), if_neg (by omega)]; simp <;> omega
    | 3, _ => rw [if_pos (by omega), if_pos (by omega), if_pos (by omega), if_neg (by omega), if_pos (by omega), if_pos (by omega), if_pos (by omega), if_pos (by omega)]
  · unfold w4
    simp only [e2]
    match r, hr with
    | 0, _ => rw [if_pos (by omega), if_neg (by omega), if_neg (by omega), if_neg (by omega)]; omega
    | 1, _ => rw [if_pos (by omega), if_pos (by omega), if_neg (by omega), if_neg (by omega)]; omega
    | 2, _ => rw [if_pos (by omega), if_pos (by omega), if_pos (by omega), if_neg (by omega)]; omega
    | 3, _ => rw [if_pos (by omega), if_pos (by omega), if_pos (by omega), if_pos (by omega)]
def Bt (w : World) (v : Value) (l : List UInt8) : Prop :=
  ∃ A c, v = .slice A l.length c ∧ l.length ≤ c ∧
    (0 < l.length → ∃ b o, A = some ⟨b, o, none⟩ ∧ b < w.heap.size ∧ (∀ i, (h : i < l.length) → w.cell? ⟨b, o + i, none⟩ = some (.int .u8 ((l[i].toNat : Nat) : Int))) ∧ ∃ cs z, w.heap[b]? = some (.cells cs 5 z))
theorem Bt.keep {w w' : World} {v : Value} {l : List UInt8} (h : Bt w v l) (hb : Below w.heap.size w w') : Bt w' v l := by
  obtain ⟨A, c, rfl, h1, h3⟩ := h
  refine ⟨A, c, rfl, h1, fun hl => ?_⟩
  obtain ⟨b, o, rfl, hlt, hc, cs, z, hz⟩ := h3 hl
  exact ⟨b, o, rfl, Nat.lt_of_lt_of_le hlt hb.size, fun i hi => (hb.cell (p := ⟨b, o + i, none⟩) hlt).trans (hc i hi), cs, z, (hb.block b hlt).trans hz⟩
theorem or_more (x b r : Nat) (hr : r < 4) (hx : x < 4294967296) (h0 : x % 2 ^ (8 * (r + 1)) = 0) (hb : b < 256) : bits .or .u32 ((x : Nat) : Int) ((b * 256 ^ r : Nat) : Int) = ((x + 256 ^ r * b : Nat) : Int) ∧ b * 256 ^ r < 4294967296 := by
  have h12 : b * 256 ^ r < 2 ^ (8 * (r + 1)) ∧ b * 256 ^ r < 4294967296 := by
    have c : r = 0 ∨ r = 1 ∨ r = 2 ∨ r = 3 := by omega
    rcases c with rfl | rfl | rfl | rfl
    · rw [show (256 : Nat) ^ 0 = 1 from rfl, show (2 : Nat) ^ (8 * (0 + 1)) = 256 from rfl]; omega
    · rw [show (256 : Nat) ^ 1 = 256 from rfl, show (2 : Nat) ^ (8 * (1 + 1)) = 65536 from rfl]; omega
    · rw [show (256 : Nat) ^ 2 = 65536 from rfl, show (2 : Nat) ^ (8 * (2 + 1)) = 16777216 from rfl]; omega
    · rw [show (256 : Nat) ^ 3 = 16777216 from rfl, show (2 : Nat) ^ (8 * (3 + 1)) = 4294967296 from rfl]; omega
  obtain ⟨h1, h2⟩ := h12
  refine ⟨?_, h2⟩
  rw [u32_or_nat _ _ hx h2, nat_join (8 * (r + 1)) _ _ h0 h1, Nat.mul_comm]
set_option maxRecDepth 100000 in
set_option maxHeartbeats 400000 in
theorem setBytes_any (w : World) (bz oz : Nat) (v : Value) (l : List UInt8) (h : Bt w v l) (hz : Room w bz oz) (hl : l.length ≤ 1000000000) :
    Calls Tryz.prog 195 #[.pointer (some ⟨bz, oz, none⟩), v] w (Put w bz oz false (Big.bnum l)) := by
  have HT := Lib.hid h
  have HZ := Lib.hid hz
  have HR := Lib.hid (And.intro (Big.rev_length l) (Big.rev_ok l))
  obtain ⟨A, c, rfl, -, -⟩ := h
  obtain ⟨K, hK⟩ : ∃ K, (l.length + 3) / 4 = K := ⟨_, rfl⟩
  have eK : ((l.length : Int) + 3) / 4 = (K : Int) := by omega
  have hK1 : K ≤ 1000000000 := by omega
  have HK := Lib.hid hK
  have hmk := fun W => make32 K (by omega) W
  have HB0 := Lib.hid (Blk.new w 227 .u32 (List.replicate K 0))
  have HBel0 := Lib.hid ((Below.refl w.heap.size w).alloc (Nat.le_refl _) (.cells (cellsOf .u32 (List.replicate K 0)) 227))
  clear hz hK
  go_enter Tryz.func195, Tryz.ntmps195
  go_wp2_with fail
  clear hmk
  simp only [eK]
  go_loopw [6] (fun i wr => ∃ (k I : Nat) (X : List Nat), I + k = l.length ∧ i = .int .i64 (I : Int) ∧
      Hid (X.length = K ∧ ∀ j, j < K → Big.nth X j = w4 (hiB (Big.rev l) k) j) ∧ Hid (Blk wr w.heap.size 227 .u32 X) ∧ Hid (Below w.heap.size w wr))
    (fun i _ => l.length - (intOf i).toNat)
  case atStart =>
    refine ⟨l.length, 0, _, by omega, rfl, Lib.hid ⟨by simp, fun j hj => ?_⟩, HB0, HBel0⟩
    have e : ∀ i, Big.nth (hiB (Big.rev l) l.length) i = 0 := fun i => by
      rw [hiB_nth _ _ _ (by rw [HR.out.1]; exact Nat.le_refl _)]
      split
      · rfl
      · exact Big.nth_ge _ _ (by rw [HR.out.1]; omega)
    unfold w4
    rw [e, e, e, e]
    exact Big.nth_replicate _ _
  case round =>
    obtain ⟨k, I, X, hIk, rfl, HX, HB, HBel⟩ := hrel
    rcases Nat.eq_zero_or_pos k with h0 | h0
    · subst h0
      have hB := HB.out
      have h2 := blk_wd0 hB K (by rw [HX.out.1]; exact Nat.le_refl _) (by omega)
      rw [HX.out.1] at h2
      have hI : I = l.length := by omega
      subst hI
      have HTR := Lib.hid (trim_any _ _ _ h2)
      have hreg : Big.val M32 X = Big.bnum l := by
        refine Big.regroup (b := 256) (k := 4) (by unfold M32; decide) X (Big.rev l) (by rw [HR.out.1, HX.out.1]; have := HK.out; omega) fun j hj => ?_
        rw [HX.out.2 j (by rw [← HX.out.1]; exact hj), w4_val]
        rfl
      have hoX : Big.Ok M32 X := by
        intro d hd
        obtain ⟨j, hj, rfl⟩ := List.getElem_of_mem hd
        have e := HX.out.2 j (by rw [← HX.out.1]; exact hj)
        unfold Big.nth at e
        rw [List.getD_eq_getElem?_getD, List.getElem?_eq_getElem hj] at e
        have := w4_lt (hiB_ok HR.out.2 0) j
        rw [M32_eq]
        simp at e
        omega
      have HE := Lib.hid (And.intro hreg hoX)
      clear hB h2 hIk hreg hoX
      go_wp2_with fail
      with_reducible refine HTR.out.mono ?_
      rintro e w' ⟨v', rfl, hv', rfl⟩
      have HN := Lib.hid (Nin.strip hv' HE.out.2)
      have HP := Lib.hid (put_any wr bz oz _ false v' HN.out (HZ.out.keep HBel.out))
      clear hv'
      go_wp2_with fail
      with_reducible refine HP.out.mono ?_
      rintro e w2 ⟨rfl, h2⟩
      have H2 := Lib.hid h2
      clear h2
      go_wp2
      go_ret
      exact ⟨rfl, wr, v', HBel.out, by rw [← HE.out.1]; exact HN.out, H2.out.symm⟩
    · obtain ⟨k', rfl⟩ : ∃ k', k = k' + 1 := ⟨k - 1, by omega⟩
      obtain ⟨q, r, hqr, hr⟩ : ∃ q r, k' = 4 * q + r ∧ r < 4 := ⟨k' / 4, k' % 4, by omega, by omega⟩
      have hkl : k' < l.length := by omega
      obtain ⟨M1, M2, M3⟩ := byte_more (Big.rev l) q r hr (by rw [HR.out.1]; omega)
      have hqK : q < K := by have := HK.out; omega
      obtain ⟨A', c', e, t1, t3⟩ := HT.out
      cases e
      obtain ⟨b, o, rfl, hblt, hcc, -⟩ := t3 (by omega)
      have hIl : I < l.length := by omega
      have hcell := (HBel.out.cell (p := ⟨b, o + I, none⟩) hblt).trans (hcc I hIl)
      have hbyte : Big.nth (Big.rev l) (4 * q + r) = l[I].toNat := by
        rw [Big.rev_nth l (4 * q + r) (by omega)]
        congr 2
        omega
      rw [hbyte] at M2
      have hb256 := (l[I]).toNat_lt
      have hst := HB.out.cell q (by rw [HX.out.1]; exact hqK)
      rw [HX.out.2 q hqK] at hst
      rw [← hqr] at M1 M2 M3
      have hxM := w4_lt (hiB_ok HR.out.2 (k' + 1)) q
      have hfr := HB.out.frozen q
      obtain ⟨ho, hsm⟩ := or_more _ (l[I].toNat) r hr hxM M3 hb256
      rw [← M2] at ho
      have e7 : (l.length : Int) - 1 - (I : Int) = (k' : Int) := by omega
      have e8 : (k' : Int) / 4 = (q : Int) := by omega
      have e9 : (k' : Int) % 4 = (r : Int) := by omega
      have e8t : Int.tdiv (k' : Int) 4 = (q : Int) := by rw [Int.tdiv_eq_ediv_of_nonneg (by omega)]; exact e8
      have e9t : Int.tmod (k' : Int) 4 = (r : Int) := by rw [Int.tmod_eq_emod_of_nonneg (by omega)]; exact e9
      have u8 : IntKind.i64.wrap (q : Int) = (q : Int) := IntWalk.i64_in _ (by omega)
      have u9 : IntKind.i64.wrap (r : Int) = (r : Int) := IntWalk.i64_in _ (by omega)
      have u10 : IntKind.u64.wrap (r : Int) = (r : Int) := w64 r (by omega)
      have u11 : IntKind.u64.wrap (8 * (r : Int)) = 8 * (r : Int) := by rw [IntKind.wrap_u64]; omega
      have HXX := Lib.hid (show (X.set q (w4 (hiB (Big.rev l) k') q)).length = K ∧ ∀ j, j < K → Big.nth (X.set q (w4 (hiB (Big.rev l) k') q)) j = w4 (hiB (Big.rev l) k') j from ⟨by simp [HX.out.1], fun j hj => by
        rw [Big.nth_set]
        by_cases h : q = j
        · subst h; rw [if_pos ⟨rfl, by rw [HX.out.1]; exact hj⟩]
        · rw [if_neg (fun h2 => h h2.1), HX.out.2 j hj, M1 j (fun e => h e.symm)]⟩)
      generalize l[I].toNat = B at *
      generalize w4 (hiB (Big.rev l) (k' + 1)) q = x at *
      generalize w4 (hiB (Big.rev l) k') q = x' at *
      have HMK := Lib.hid hqr
      have wsh : IntKind.u32.wrap ((B : Int) * 2 ^ (8 * (r : Int)).toNat) = ((B * 256 ^ r : Nat) : Int) := by
        rw [show (8 * (r : Int)).toNat = 8 * r by omega, show ((2 : Int) ^ (8 * r)) = ((2 ^ (8 * r) : Nat) : Int) by rw [Int.natCast_pow]; rfl, ← Int.natCast_mul, show (2 : Nat) ^ (8 * r) = 256 ^ r by rw [Nat.pow_mul], IntKind.wrap_u32]
        omega
      obtain ⟨y, hy⟩ : ∃ y, B * 256 ^ r = y := ⟨_, rfl⟩
      rw [hy] at wsh ho
      have u12 : IntKind.u32.wrap (B : Int) = (B : Int) := by rw [IntKind.wrap_u32]; omega
      have qK0 : (q : Int) < (K : Int) := by omega
      have Il0 : (I : Int) < (l.length : Int) := by omega
      clear hcc t3 M1 M2 M3 hqr hbyte hy hsm
      go_wp2_with fail
      go_still_tail 20, (by kernel_rfl)
      change wpList _ _ _ _ _ wr.drew
      clear e8t e9t u8 u9 u10 u11 u12 wsh ho e8 e9
      go_wp2_with fail
      go_roundw
      case rel =>
        refine ⟨k', I + 1, _, by omega, by go_num, HXX, Lib.hid ((HB.out.drewN 1).set q x'), Lib.hid ((below_drewN HBel.out 1).setCell (p := ⟨w.heap.size, q, none⟩) (Nat.le_refl _) _)⟩
      case measure => simp [intOf]; omega
end R
end Go.Proofs.YtepnghhgmjobjaaGreatDoor
namespace Go.Proofs.YtepnghhgmjobjaaGreatDoor
open Go.RowKit
end Go.Proofs.YtepnghhgmjobjaaGreatDoor
namespace Go.Proofs.YtepnghhgmjobjaaGreatDoor
open Go.RowKit
def mayB (s : ByteArray) : Bool := decide (s.size ≤ 512) && !(s.data.toList.head? == some 0)
theorem mayB_bst {n : Nat} (h : szN n ≤ 512) : mayB (bst n) = true := by
  unfold mayB
  have h1 := btx_lead n
  rw [bst_size, bst_list, decide_eq_true h, Bool.true_and, Bool.not_eq_true', beq_eq_false_iff_ne]
  exact h1
theorem mayB_is {s : ByteArray} (h : mayB s = true) : s = bst (Big.bnum s.data.toList) ∧ szN (Big.bnum s.data.toList) ≤ 512 := by
  unfold mayB at h
  rw [Bool.and_eq_true, Bool.not_eq_true', beq_eq_false_iff_ne] at h
  have hl : Lead s.data.toList := h.2
  have e := btx_bnum hl
  have e2 : s = bst (Big.bnum s.data.toList) := by
    unfold bst; rw [e]
  refine ⟨e2, ?_⟩
  have h3 := of_decide_eq_true h.1
  rw [e2, bst_size] at h3
  exact h3
theorem empty_of {s : ByteArray} (h : s.size = 0) : s = ⟨#[]⟩ := by
  have h2 : s.data = #[] := Array.eq_empty_of_size_eq_zero h
  cases s; simp at h2; rw [h2]
theorem size_toList (s : ByteArray) : s.data.toList.length = s.size := by
  show s.data.toList.length = s.data.size; simp
theorem head_get {s : ByteArray} (h : 0 < s.size) : s.data.toList.head? = some s[0] := by
  have hl : 0 < s.data.toList.length := by rw [size_toList]; exact h
  rw [List.head?_eq_getElem?, List.getElem?_eq_getElem hl]; rfl
set_option maxRecDepth 100000 in
set_option maxHeartbeats 4000000 in
theorem mayBe_any (w : World) (s : ByteArray) (hs : s.size ≤ 1000000000000) :
    Calls Tryz.prog 163 #[.string s] w fun e w' => e = .returned (.bool (mayB s)) ∧ w = w' := by
  by_cases h5 : s.size ≤ 512
  · by_cases h0 : s.size = 0
    · have e := empty_of h0
      subst e
      have HD := Lib.hid (show mayB ⟨#[]⟩ = true by decide)
      go_enter Tryz.func163, Tryz.ntmps163
      go_wp2_with fail
      go_ret
      exact ⟨ret_bool HD.out.symm, rfl⟩
    · have i1 : (s.size : Int) ≤ 512 := by omega
      have p0 : 0 < s.size := by omega
      have HD := Lib.hid (show mayB s = ((s[0].toNat : Int) != 0) by
        unfold mayB
        rw [decide_eq_true h5, Bool.true_and, head_get p0, Bool.eq_iff_iff, Bool.not_eq_true', beq_eq_false_iff_ne, bne_iff_ne]
        constructor
        · intro h e; exact h (by rw [Option.some.injEq]; apply UInt8.toNat_inj.1; show _ = 0; omega)
        · intro h e; rw [Option.some.injEq] at e; rw [e] at h; exact h rfl)
      generalize mayB s = z at *
      have hne : ¬ s.toList = [] := by rw [ByteArray.toList_eq]; intro e; have := size_toList s; rw [e] at this; simp at this; omega
      have hne2 : s.toList.isEmpty = false := by rw [Bool.eq_false_iff]; intro e; exact hne (List.isEmpty_iff.1 e)
      clear h0
      go_enter Tryz.func163, Tryz.ntmps163
      go_wp2_with fail
      go_ret
      exact ⟨ret_bool (by rw [HD.out]), rfl⟩
  · have i1 : ¬ (s.size : Int) ≤ 512 := by omega
    have HD := Lib.hid (show mayB s = false by unfold mayB; rw [decide_eq_false h5]; rfl)
    generalize mayB s = z at *
    go_enter Tryz.func163, Tryz.ntmps163
    go_wp2_with fail
    go_ret
    exact ⟨ret_bool HD.out.symm, rfl⟩
end Go.Proofs.YtepnghhgmjobjaaGreatDoor
