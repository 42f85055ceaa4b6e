/- Contracts, in this order: nat: Gcd. · nat: Gcd, at all numbers. · Fractions in lowest terms, by their three parts. No program. -/
import Derived.Test.YtfmebfkdpfbjbaaGreatDoorEkq16
import Derived.Test.YtfmebfkdpfbjbaaGreatDoorEkq10
namespace Go.Proofs.YtfmebfkdpfbjbaaGreatDoor
open Go.RowKit
def Pair (w : World) (B : Nat) (va vb : Value) (a b : Nat) : Prop :=
  ∃ ga gb ca cb, OwnNat w va ga ca a ∧ OwnNat w vb gb cb b ∧ ga ≠ gb ∧ B ≤ ga ∧ B ≤ gb ∧ ga < w.heap.size ∧ gb < w.heap.size ∧ (a < Big.M64 ^ cb ∨ b * Big.M64 < Big.M64 ^ cb)
structure Fits (n : Nat) : Prop where
  out : n < Big.M64 ^ Big.KL
theorem Fits.len {l : List Nat} (h : Fits (Big.val Big.M64 l)) (nl : Big.Norm l) : l.length ≤ 100000000 := by
  have := len_of_lt nl h.out
  rwa [Big.KL_eq] at this
theorem Fits.le {n m : Nat} (h : Fits n) (hm : m ≤ n) : Fits m := ⟨Nat.lt_of_le_of_lt hm h.out⟩
theorem own_clone {w : World} {g : Nat} {l : List Nat} (hb : Blk w g 95 .u64 (l ++ [0])) (ol : Big.Ok Big.M64 l) (nl : Big.Norm l) (hl : l.length ≤ 100000000) :
    OwnNat w (.slice (some ⟨g, 0, none⟩) l.length (l.length + 1)) g (l.length + 1) (Big.val Big.M64 l) :=
  ⟨l ++ [0], l.length, rfl, hb, by simp, ol.append (Big.Ok.cons Big.M64_pos Big.Ok.nil), by omega, by omega, by rw [List.take_left]; exact nl, by rw [List.take_left]⟩
theorem OwnNat.below {w w' : World} {v : Value} {g c n : Nat} (h : OwnNat w v g c n) (hb : Below w.heap.size w w') : OwnNat w' v g c n := by
  obtain ⟨R, k, e, h1, h2⟩ := h
  exact ⟨R, k, e, h1.below hb, h2⟩
theorem OwnNat.len {w : World} {v : Value} {g c n : Nat} (h : OwnNat w v g c n) : ∃ k R, v = .slice (some ⟨g, 0, none⟩) k c ∧ Blk w g 95 .u64 R ∧ k ≤ c ∧ c ≤ R.length ∧ c ≤ 1152921504606846976 ∧ Big.Ok Big.M64 R ∧ Big.Norm (R.take k) ∧ (R.take k).length = k ∧ Big.val Big.M64 (R.take k) = n := by
  obtain ⟨R, k, e, h1, h2, h3, h4, h5, h6, h7⟩ := h
  exact ⟨k, R, e, h1, h4, h2, h5, h3, h6, by rw [List.length_take]; omega, h7⟩
def wordAt (w : World) (p : Addr) (i : Nat) : Nat := match w.cell? ⟨p.block, p.off + i, none⟩ with | some v => (intOf v).toNat | none => 0
def numAt (w : World) : Value → Nat
  | .slice (some p) k _ => Big.val Big.M64 ((List.range k).map (wordAt w p))
  | _ => 0
theorem numAt_own {w : World} {v : Value} {g c n : Nat} (h : OwnNat w v g c n) : numAt w v = n := by
  obtain ⟨k, R, rfl, hb, hk, hc, -, -, -, hl, hv⟩ := h.len
  have e : (List.range k).map (wordAt w ⟨g, 0, none⟩) = R.take k := by
    apply List.ext_getElem
    · simp [hl]
    · intro i h1 h2
      have hi : i < k := by simpa using h1
      have hc2 := hb.cell i (by omega)
      simp only [List.getElem_map, List.getElem_range, wordAt, Nat.zero_add, hc2, intOf, List.getElem_take]
      unfold Big.nth
      rw [List.getD_eq_getElem?_getD, List.getElem?_eq_getElem (by omega)]
      rfl
  show Big.val Big.M64 ((List.range k).map (wordAt w ⟨g, 0, none⟩)) = n
  rw [e, hv]
theorem of_below (w wr W : World) (G : Nat) (hG0 : G ≠ 0) (hGM : G < Big.M64) (hB : Below w.heap.size w wr) (hW : Drew wr W) (p : Addr) (x : Value) (hp : wr.cell? p = some x) :
    Calls Tryz.prog 100 #[.int .u64 (G : Int)] W fun e w' => ∃ v', e = .returned v' ∧ Hid (NatIn w' v' G ∧ Below w.heap.size w w') ∧ w'.cell? p = some x := by
  refine (natOf_any W G).mono ?_
  rintro e w' ⟨v', rfl, hv', hb⟩
  rw [if_neg hG0] at hv'
  exact ⟨v', rfl, Lib.hid ⟨⟨[G], hv', Big.Ok.cons hGM Big.Ok.nil, by simp [Big.Norm, hG0], by simp [Big.val]⟩, hB.trans ((hW.below _).trans (hb.mono (by rw [hW.heap]; exact hB.size)))⟩, by
    have h1 := (hW.cell p).trans hp
    rw [hb.cell (block_lt_of_cell h1)]; exact h1⟩
set_option maxRecDepth 100000 in
set_option maxHeartbeats 8000000 in
theorem gcd_tail (w : World) (v u : Value) (n m : Nat) (h : NatIn w v n) (k : NatIn w u m) (hn : Fits n) (hmn : m ≤ n) (h1 : n ≠ 1) (h2 : m ≠ 1) :
    Calls Tryz.prog 60 #[v, u] w fun e w' => ∃ v', e = .returned v' ∧ NatIn w' v' (Nat.gcd n m) ∧ Below w.heap.size w w' := by
  obtain ⟨G, hG⟩ : ∃ G, Nat.gcd n m = G := ⟨_, rfl⟩
  rw [hG]
  have HG2 := Lib.hid hG
  clear hG
  have HV := Lib.hid h; have HU := Lib.hid k; have HN := Lib.hid hn; have HMN := Lib.hid hmn
  obtain ⟨l, hx, ol, nl, rfl⟩ := h
  obtain ⟨r, hy, or, nr, rfl⟩ := k
  have e1 : decide (l = [1]) = false := decide_eq_false (by intro e; subst e; simp [Big.val] at h1)
  have e2 : decide (r = [1]) = false := decide_eq_false (by intro e; subst e; simp [Big.val] at h2)
  have I1 := Lib.hid (isOne_any w v l hx)
  have I2 := Lib.hid (isOne_any w u r hy)
  rw [e1] at I1
  rw [e2] at I2
  have CC := Lib.hid (cmp_any w v u l r hx hy ol or nl nr)
  have hcv : ¬ (Big.cmpI (Big.val Big.M64 l) (Big.val Big.M64 r) < 0) := by
    unfold Big.cmpI; rw [if_neg (by omega)]; split <;> omega
  generalize Big.cmpI (Big.val Big.M64 l) (Big.val Big.M64 r) = cv at *
  have HX := Lib.hid (And.intro hx (And.intro ol (And.intro nl (And.intro hy (And.intro or nr)))))
  obtain ⟨A, c, rfl, -, -, -⟩ := hx
  obtain ⟨A2, c2, rfl, -, -, -⟩ := hy
  have hb1 := hn.len nl
  have hb2 := (hn.le hmn).len nr
  clear ol nl or nr hn hmn h1 h2 e1 e2
  by_cases hl1 : (r.length : Int) > 1
  · go_enter Tryz.func60, Tryz.ntmps60
    go_wp2_with (first
      | (go_at_call 61; with_reducible refine I1.out.mono ?_; rintro e w' ⟨rfl, rfl⟩)
      | (go_at_call 61; with_reducible refine I2.out.mono ?_; rintro e w' ⟨rfl, rfl⟩))
    refine CC.out.mono ?_
    rintro e w1 ⟨rfl, hd⟩
    have HD := Lib.hid hd
    clear hd
    go_wp2_with fail
    refine (clone_any w1 _ l (HX.out.1.drew HD.out) (by omega)).mono ?_
    rintro e w2 ⟨rfl, hk1, hk2⟩
    have HK1 := Lib.hid hk1; have HK2 := Lib.hid hk2
    clear hk1 hk2
    go_wp2_with fail
    have hy2 := (HX.out.2.2.2.1.drew HD.out).keep HK2.out
    refine (clone_any w2 _ r hy2 (by omega)).mono ?_
    rintro e w3 ⟨rfl, hk1, hk2⟩
    have HB3 := Lib.hid (show Below w.heap.size w w3 from by
      have a1 : Below w.heap.size w w1 := HD.out.below _
      have e1 : w1.heap.size = w.heap.size := by rw [HD.out.heap]
      have a2 : Below w.heap.size w w2 := a1.trans (by rw [← e1]; exact HK2.out)
      exact a2.trans (hk2.mono a2.size))
    have HP := Lib.hid (show Pair w3 w.heap.size (.slice (some ⟨w1.heap.size, 0, none⟩) l.length (l.length + 1)) (.slice (some ⟨w2.heap.size, 0, none⟩) r.length (r.length + 1)) (Big.val Big.M64 l) (Big.val Big.M64 r) from by
      have e1 : w1.heap.size = w.heap.size := by rw [HD.out.heap]
      have e2 : w1.heap.size < w2.heap.size := HK1.out.lt
      refine ⟨_, _, _, _, (own_clone HK1.out HX.out.2.1 HX.out.2.2.1 hb1).below hk2, own_clone hk1 HX.out.2.2.2.2.1 HX.out.2.2.2.2.2 hb2, by omega, by omega, by omega, by have := HK1.out.lt; have := hk2.size; omega, hk1.lt, Or.inr ?_⟩
      rw [Nat.pow_succ]
      exact Nat.mul_lt_mul_of_pos_right (Big.val_lt r HX.out.2.2.2.2.1) Big.M64_pos)
    clear hk1 hk2 hy2
    go_wp2_with fail
    go_loopw [5, 6] (fun va vb wr => ∃ a b : Nat, Hid (Nat.gcd a b = G) ∧ Hid (b ≤ a) ∧ Hid (Fits a) ∧ Hid (Pair wr w.heap.size va vb a b) ∧ Hid (Below w.heap.size w wr)) (fun _ vb wr => numAt wr vb)
    case atStart => exact ⟨_, _, HG2, HMN, HN, HP, HB3⟩
    case round =>
      obtain ⟨a, b, HGr, HLE, HFA, HPr, HBr⟩ := hrel
      obtain ⟨ga, gb, ca, cb, oa, ob, P⟩ := HPr.out
      have HP' := Lib.hid P
      have HOA := Lib.hid oa; have HOB := Lib.hid ob
      have hnb := numAt_own ob
      obtain ⟨ka, X, rfl, xa⟩ := oa.len
      obtain ⟨kb, Y, rfl, xb⟩ := ob.len
      have HXA := Lib.hid xa; have HXB := Lib.hid xb
      clear P oa ob xa xb
      by_cases hk1 : (kb : Int) > 1
      · have hxa := HXA.out
        have hxb := HXB.out
        have hlen : kb ≤ ka := by
          have h1 := Big.length_le Big.M64_pos (l := Y.take kb) (m := X.take ka) hxb.2.2.2.2.2.1 (hxa.2.2.2.2.1.take ka) (by rw [hxa.2.2.2.2.2.2.2, hxb.2.2.2.2.2.2.2]; exact HLE.out)
          rwa [hxb.2.2.2.2.2.2.1, hxa.2.2.2.2.2.2.1] at h1
        obtain ⟨k, rfl⟩ : ∃ k, ka = k + 2 := ⟨ka - 2, by omega⟩
        have hka : k + 2 ≤ 100000000 := by
          have hF := HFA.out
          rw [← hxa.2.2.2.2.2.2.2] at hF
          have := hF.len hxa.2.2.2.2.2.1
          rwa [hxa.2.2.2.2.2.2.1] at this
        have hWA := hxa.1.wd 0 (k + 2) ca (by omega) hxa.2.1 hxa.2.2.2.1
        have hWB := hxb.1.wd 0 kb cb (by omega) hxb.2.1 hxb.2.2.2.1
        rw [List.drop_zero] at hWA hWB
        have CF := Lib.hid (firstSteps_any wr _ _ (X.take (k + 2)) (Y.take kb) k hWA hWB (hxa.2.2.2.2.1.take _) (hxb.2.2.2.2.1.take _) hxa.2.2.2.2.2.1 hxa.2.2.2.2.2.2.1 (by rw [hxb.2.2.2.2.2.2.1]; exact hlen) (by rw [hxa.2.2.2.2.2.2.2, hxb.2.2.2.2.2.2.2]; exact HLE.out) (by omega))
        rw [hxa.2.2.2.2.2.2.2, hxb.2.2.2.2.2.2.2] at CF
        have HKA := Lib.hid (And.intro hka (And.intro hlen hk1))
        clear hxa hxb hWA hWB hlen hka
        go_wp2_with fail
        refine CF.out.mono ?_
        rintro e w4 ⟨p, q, rr, s, t, rfl, hb4, hp, hq, hr, hs, hM⟩
        have HM := Lib.hid (And.intro hp (And.intro hq (And.intro hr (And.intro hs hM))))
        have HB4 := Lib.hid hb4
        clear hp hq hr hs hM hb4
        by_cases hq0 : q = 0
        · subst hq0
          have hb5 := HB4.out.alloc HB4.out.size (.cells #[.int .u64 (p : Int), .int .u64 ((0 : Nat) : Int), .int .u64 (rr : Int), .int .u64 (s : Int), .bool t] 190)
          have oa5 := HOA.out.below hb5
          have ob5 := HOB.out.below hb5
          have xa5 := HXA.out.1.below hb5
          have xb5 := HXB.out.1.below hb5
          have HBr5 := Lib.hid (HBr.out.trans (hb5.mono HBr.out.size))
          have HSZ := Lib.hid hb5.size
          have hWA5 := xa5.wd 0 (k + 2) ca (by have := HXA.out.2.1; have := HXA.out.2.2.1; omega) HXA.out.2.1 HXA.out.2.2.2.1
          have hWB5 := xb5.wd 0 kb cb (by have := HXB.out.2.1; have := HXB.out.2.2.1; omega) HXB.out.2.1 HXB.out.2.2.2.1
          rw [List.drop_zero] at hWA5 hWB5
          have CQ := Lib.hid (quoRem_long _ _ _ (X.take (k + 2)) (Y.take kb) kb (kb - 1) (kb - 2) hWA5 hWB5 (HXA.out.2.2.2.2.1.take _) HXA.out.2.2.2.2.2.1 (HXB.out.2.2.2.2.1.take _) HXB.out.2.2.2.2.2.1 HXB.out.2.2.2.2.2.2.1 (by omega) (by omega) (by rw [HXA.out.2.2.2.2.2.2.1]; exact HKA.out.1) (by rw [HXA.out.2.2.2.2.2.2.2, HXB.out.2.2.2.2.2.2.2]; exact HLE.out))
          rw [HXA.out.2.2.2.2.2.2.2, HXB.out.2.2.2.2.2.2.2] at CQ
          have HOB5 := Lib.hid ob5
          have HGB5 := Lib.hid (Nat.lt_of_lt_of_le HP'.out.2.2.2.2.1 HSZ.out)
          clear hb5 oa5 ob5 xa5 xb5 hWA5 hWB5
          go_wp2_with fail
          refine CQ.out.mono ?_
          rintro e w6 ⟨qq, rest, rfl, -, -, hb6, g, cc, hg1, hg2, hown⟩
          have hb0 : 0 < b := by
            rcases Nat.eq_zero_or_pos b with e | e
            · exfalso
              have h1 := Big.norm_zero Big.M64_pos (Y.take kb) HXB.out.2.2.2.2.2.1 (by rw [HXB.out.2.2.2.2.2.2.2]; exact e)
              have h2 := HXB.out.2.2.2.2.2.2.1
              rw [h1] at h2; simp at h2; omega
            · exact e
          have HOW := Lib.hid hown
          have HG' := Lib.hid (show Nat.gcd b (a % b) = G by rw [← HGr.out, Nat.gcd_comm a b, Nat.gcd_rec b a, Nat.gcd_comm])
          have HLT := Lib.hid (Nat.mod_lt a hb0)
          have HB6 := Lib.hid hb6
          have HGG := Lib.hid (And.intro hg1 hg2)
          clear hb6 hown hb0 hg1 hg2
          go_wp2_with fail
          go_roundw
          case rel =>
            obtain ⟨k6, R6, -, hb6, -⟩ := HOW.out.len
            have h1 := HGG.out.1
            have h2 := HGB5.out
            have h3 := HBr5.out.size
            have h4 := HB6.out.size
            refine ⟨b, a % b, HG', Lib.hid (Nat.le_of_lt HLT.out), Lib.hid (HFA.out.le HLE.out), Lib.hid ⟨gb, g, cb, cc, HOB5.out.below HB6.out, HOW.out, by omega, HP'.out.2.2.1, by omega, by omega, hb6.lt, Or.inl ?_⟩, Lib.hid (HBr5.out.trans (HB6.out.mono h3))⟩
            have h5 := Big.val_lt (Y.take kb) (HXB.out.2.2.2.2.1.take kb)
            rw [HXB.out.2.2.2.2.2.2.2, HXB.out.2.2.2.2.2.2.1] at h5
            exact Nat.lt_of_lt_of_le h5 (Nat.pow_le_pow_right Big.M64_pos (by have := HGG.out.2; omega))
          case measure => rw [numAt_own HOW.out, hnb]; exact HLT.out
        · have hq1 : ((q : Int) == 0) = false := beq_eq_false_iff_ne.2 (by omega)
          have hb5 := HB4.out.alloc HB4.out.size (.cells #[.int .u64 (p : Int), .int .u64 (q : Int), .int .u64 (rr : Int), .int .u64 (s : Int), .bool t] 190)
          have oa5 := HOA.out.below hb5
          have ob5 := HOB.out.below hb5
          have xa5 := HXA.out.1.below hb5
          have xb5 := HXB.out.1.below hb5
          have HBr5 := Lib.hid (HBr.out.trans (hb5.mono HBr.out.size))
          have HSZ := Lib.hid hb5.size
          obtain ⟨hr1, hs1, hMk, a', b', hmade⟩ := HM.out.2.2.2.2 hq0
          have hbk := Big.val_lt (Y.take kb) (HXB.out.2.2.2.2.1.take kb)
          rw [HXB.out.2.2.2.2.2.2.2, HXB.out.2.2.2.2.2.2.1] at hbk
          have hM1 : 1 < Big.M64 := by unfold Big.M64; omega
          have hkkb : k < kb := (Nat.pow_lt_pow_iff_right hM1).1 (Nat.lt_of_le_of_lt hMk hbk)
          have hak : Big.M64 ^ (k + 1) ≤ a := by
            have h1 := Big.norm_ge (B := Big.M64) (X.take (k + 2)) HXA.out.2.2.2.2.2.1 (by intro e; have h2 := HXA.out.2.2.2.2.2.2.1; rw [e] at h2; simp at h2)
            rwa [HXA.out.2.2.2.2.2.2.2, HXA.out.2.2.2.2.2.2.1] at h1
          have hak2 := Big.val_lt (X.take (k + 2)) (HXA.out.2.2.2.2.1.take (k + 2))
          rw [HXA.out.2.2.2.2.2.2.2, HXA.out.2.2.2.2.2.2.1] at hak2
          have hroom : k + 2 ≤ cb := by
            rcases HP'.out.2.2.2.2.2 with h | h
            · exact (Nat.pow_lt_pow_iff_right hM1).1 (Nat.lt_of_le_of_lt hak h)
            · have h1 := Nat.mul_le_mul_right Big.M64 hMk
              rw [← Nat.pow_succ] at h1
              exact (Nat.pow_lt_pow_iff_right hM1).1 (Nat.lt_of_le_of_lt h1 h)
          have hlea := hmade.lea hs1
          have HA1 := Lib.hid (show a' < Big.M64 ^ ca from Nat.lt_of_le_of_lt hlea (Nat.lt_of_lt_of_le hak2 (Nat.pow_le_pow_right Big.M64_pos HXA.out.2.1)))
          have HA2 := Lib.hid (show a' < Big.M64 ^ cb from Nat.lt_of_le_of_lt hlea (Nat.lt_of_lt_of_le hak2 (Nat.pow_le_pow_right Big.M64_pos hroom)))
          have HG' := Lib.hid (show Nat.gcd a' b' = G by rw [← HGr.out]; exact hmade.gcd.symm)
          have HLE' := Lib.hid (Nat.le_of_lt hmade.lt)
          have HF' := Lib.hid (HFA.out.le hlea)
          have HLT := Lib.hid (hmade.less hr1)
          have hma := hmade
          rw [← HXA.out.2.2.2.2.2.2.2, ← HXB.out.2.2.2.2.2.2.2] at hma
          have CA := Lib.hid (show Calls Tryz.prog 117 #[.agg #[.int .u64 (p : Int), .int .u64 (q : Int), .int .u64 (rr : Int), .int .u64 (s : Int), .bool t], .slice (some ⟨ga, 0, none⟩) (k + 2) ca, .slice (some ⟨gb, 0, none⟩) kb cb] (w4.alloc (.cells #[.int .u64 (p : Int), .int .u64 (q : Int), .int .u64 (rr : Int), .int .u64 (s : Int), .bool t] 190)) fun e w' =>
              ∃ va vb, e = .returned (.tuple #[va, vb]) ∧ Below w.heap.size (w4.alloc (.cells #[.int .u64 (p : Int), .int .u64 (q : Int), .int .u64 (rr : Int), .int .u64 (s : Int), .bool t] 190)) w' ∧
                (OwnNat w' va ga ca a' ∧ OwnNat w' vb gb cb b' ∨ OwnNat w' va gb cb a' ∧ OwnNat w' vb ga ca b') from by
            have hl2 := HKA.out.2.1
            rcases Nat.lt_or_ge kb (k + 2) with hlt | hge
            · exact apply_less _ w.heap.size ga gb kb (k + 2) ca cb p q rr s a' b' t X Y xa5 xb5 HP'.out.1 HP'.out.2.1 HP'.out.2.2.1 HXA.out.2.2.1 HXB.out.2.2.1 HXA.out.2.1 hroom HXA.out.2.2.2.1 HXB.out.2.2.2.1 HXA.out.2.2.2.2.1 HXB.out.2.2.2.2.1 HM.out.1 HM.out.2.1 HM.out.2.2.1 HM.out.2.2.2.1 hs1 (by have := HKA.out.1; omega) (by omega) hma
            · obtain rfl : kb = k + 2 := by omega
              exact apply_eq _ w.heap.size ga gb (k + 2) ca cb p q rr s a' b' t X Y xa5 xb5 HP'.out.1 HP'.out.2.1 HP'.out.2.2.1 HXA.out.2.2.1 HXB.out.2.2.1 HXA.out.2.1 hroom HXA.out.2.2.2.1 HXB.out.2.2.2.1 HXA.out.2.2.2.2.1 HXB.out.2.2.2.2.1 HM.out.1 HM.out.2.1 HM.out.2.2.1 HM.out.2.2.2.1 hs1 (by have := HKA.out.1; omega) hma)
          clear hma hmade hlea hroom hak hak2 hkkb hM1 hbk hr1 hs1 hMk hb5 oa5 ob5 xa5 xb5
          go_wp2_with fail
          refine CA.out.mono ?_
          rintro e w6 ⟨va, vb, rfl, hb6, hor⟩
          have HB6 := Lib.hid hb6
          have HOR := Lib.hid hor
          clear hb6 hor
          go_wp2_with fail
          go_roundw
          case rel =>
            have hP := HP'.out
            refine ⟨a', b', HG', HLE', HF', Lib.hid ?_, Lib.hid (HBr5.out.trans HB6.out)⟩
            rcases HOR.out with ⟨h1, h2⟩ | ⟨h1, h2⟩
            · obtain ⟨-, R1, -, l1, -⟩ := h1.len
              obtain ⟨-, R2, -, l2, -⟩ := h2.len
              exact ⟨ga, gb, ca, cb, h1, h2, hP.1, hP.2.1, hP.2.2.1, l1.lt, l2.lt, Or.inl HA2.out⟩
            · obtain ⟨-, R1, -, l1, -⟩ := h1.len
              obtain ⟨-, R2, -, l2, -⟩ := h2.len
              exact ⟨gb, ga, cb, ca, h1, h2, Ne.symm hP.1, hP.2.2.1, hP.2.1, l1.lt, l2.lt, Or.inl HA1.out⟩
          case measure =>
            rcases HOR.out with ⟨h1, h2⟩ | ⟨h1, h2⟩
            · rw [numAt_own h2, hnb]; exact HLT.out
            · rw [numAt_own h2, hnb]; exact HLT.out
      · have hv := HXB.out
        by_cases hk0 : kb = 0
        · subst hk0
          have hb0 : b = 0 := by rw [← hv.2.2.2.2.2.2.2]; simp [Big.val]
          subst hb0
          clear hv
          go_wp2_with fail
          go_ret
          have hg := HGr.out
          rw [Nat.gcd_zero_right] at hg
          subst hg
          exact ⟨_, rfl, HOA.out.nat, HBr.out⟩
        · have hk1' : kb = 1 := by omega
          subst hk1'
          have hlY : 0 < Y.length := by have := hv.2.1; have := hv.2.2.1; omega
          have hbv : b = Big.nth Y 0 := by
            rw [← hv.2.2.2.2.2.2.2, Big.val_take_succ' Y 0]; simp [Big.val]
          have hbM : b < Big.M64 := by rw [hbv]; exact hv.2.2.2.2.1.nth Big.M64_pos 0
          have hb0 : 0 < b := by
            rcases Nat.eq_zero_or_pos b with e | e
            · have hn := hv.2.2.2.2.2.1
              rw [hbv] at e
              exfalso; apply hn
              rw [List.getLast?_eq_getElem?, hv.2.2.2.2.2.2.1, List.getElem?_take_of_lt (by omega)]
              unfold Big.nth at e
              rw [List.getD_eq_getElem?_getD, List.getElem?_eq_getElem hlY] at e
              rw [List.getElem?_eq_getElem hlY]
              simpa using e
            · exact e
          have hc0 := hv.1.cell 0 hlY
          rw [← hbv] at hc0
          have hWA := HXA.out.1.wd 0 ka ca (by have := HXA.out.2.1; have := HXA.out.2.2.1; omega) HXA.out.2.1 HXA.out.2.2.2.1
          rw [List.drop_zero] at hWA
          have hka : ka ≤ 100000000 := by
            have hF := HFA.out
            rw [← HXA.out.2.2.2.2.2.2.2] at hF
            have := hF.len HXA.out.2.2.2.2.2.1
            rwa [HXA.out.2.2.2.2.2.2.1] at this
          have hka' : (X.take ka).length = ka := HXA.out.2.2.2.2.2.2.1
          have CR := Lib.hid (fun W (hW : Drew wr W) => restWord_any W _ (X.take ka) b (hWA.drew hW) (HXA.out.2.2.2.2.1.take ka) hb0 hbM (by omega))
          rw [HXA.out.2.2.2.2.2.2.2] at CR
          clear hka hka'
          have CG := Lib.hid (fun W => gcdWords_any W b (a % b) hbM (Nat.lt_trans (Nat.mod_lt a hb0) hbM))
          rw [show Nat.gcd b (a % b) = G by rw [← HGr.out, Nat.gcd_comm a b, Nat.gcd_rec b a, Nat.gcd_comm]] at CG
          clear hv hbv hlY hWA
          obtain ⟨z, hz⟩ : ∃ z, a % b = z := ⟨_, rfl⟩
          rw [hz] at CR CG
          have HGM := Lib.hid (show G < Big.M64 by rw [← HGr.out]; exact Nat.lt_of_le_of_lt (Nat.gcd_le_right a hb0) hbM)
          have hG0 : G ≠ 0 := by
            intro e
            have h1 := HGr.out
            rw [e, Nat.gcd_eq_zero_iff] at h1
            omega
          have CO := Lib.hid (fun W (hW : Drew wr W) => of_below w wr W G hG0 HGM.out HBr.out hW _ _ hc0)
          clear hz hbM hb0 hG0
          go_wp2_with fail
          go_region_held3 (fun w' => w'.cell? ⟨gb, 0, none⟩ = some (.int .u64 ((b : Nat) : Int)))
            (first | exact hc0 | assumption)
            (first
              | (go_at_call 119; refine (CR.out _ ⟨_, rfl⟩).mono ?_; rintro e w' ⟨rfl, ⟨n1, rfl⟩⟩)
              | (go_at_call 118; refine (CG.out _).mono ?_; rintro e w' ⟨rfl, ⟨n2, rfl⟩⟩)
              | (go_at_call 100; refine (CO.out _ ⟨_, rfl⟩).mono ?_; rintro e w' ⟨v', rfl, HO, hcw⟩)
              | fail)
          go_wp2_with fail
          go_ret
          exact ⟨_, rfl, HO.out.1, HO.out.2⟩
  · go_enter Tryz.func60, Tryz.ntmps60
    go_wp2_with (first
      | (go_at_call 61; with_reducible refine I1.out.mono ?_; rintro e w' ⟨rfl, rfl⟩)
      | (go_at_call 61; with_reducible refine I2.out.mono ?_; rintro e w' ⟨rfl, rfl⟩))
    refine CC.out.mono ?_
    rintro e w1 ⟨rfl, hd⟩
    have HD := Lib.hid hd
    clear hd
    go_wp2_with fail
    go_loopw [5, 6] (fun va vb wr => va = .slice A l.length c ∧ vb = .slice A2 r.length c2 ∧ Hid (Drew w wr)) (fun _ _ _ => 0)
    case atStart => exact ⟨rfl, rfl, HD⟩
    case round =>
      obtain ⟨rfl, rfl, HDr⟩ := hrel
      rcases Nat.eq_zero_or_pos r.length with hr0 | hr0
      · have hr : r = [] := List.eq_nil_of_length_eq_zero hr0
        subst hr
        clear hr0
        go_wp2_with fail
        go_ret
        have hg := HG2.out
        rw [show Big.val Big.M64 [] = 0 from rfl, Nat.gcd_zero_right] at hg
        subst hg
        exact ⟨_, rfl, HV.out.drew HDr.out, HDr.out.below _⟩
      · have hr1 : r.length = 1 := by omega
        obtain ⟨y, rfl⟩ := List.length_eq_one_iff.1 hr1
        have hyv : Big.val Big.M64 [y] = y := by simp [Big.val]
        have hyM : y < Big.M64 := HX.out.2.2.2.2.1.head
        have hy0 : 0 < y := by
          rcases Nat.eq_zero_or_pos y with e | e
          · exfalso; have := HX.out.2.2.2.2.2; subst e; simp [Big.Norm] at this
          · exact e
        have hg := HG2.out
        rw [hyv] at hg
        obtain ⟨A', c', e', x1, x2, x3⟩ := HX.out.2.2.2.1
        cases e'
        obtain ⟨gb, ob, rfl, hblt, hcc, -⟩ := x3 (by omega)
        have hc0 : wr.cell? ⟨gb, ob, none⟩ = some (.int .u64 ((y : Nat) : Int)) := by
          rw [HDr.out.cell]; exact hcc 0 (by omega)
        have CR := Lib.hid (fun W (hW : Drew wr W) => restWord_any W _ l y ((HX.out.1.drew HDr.out).drew hW) HX.out.2.1 hy0 hyM (by omega))
        have CG := Lib.hid (fun W => gcdWords_any W y (Big.val Big.M64 l % y) hyM (Nat.lt_trans (Nat.mod_lt _ hy0) hyM))
        rw [show Nat.gcd y (Big.val Big.M64 l % y) = G by rw [← hg, Nat.gcd_comm (Big.val Big.M64 l) y, Nat.gcd_rec y (Big.val Big.M64 l), Nat.gcd_comm]] at CG
        have HGM := Lib.hid (show G < Big.M64 by rw [← hg]; exact Nat.lt_of_le_of_lt (Nat.gcd_le_right _ hy0) hyM)
        have hG0 : G ≠ 0 := by
          intro e
          rw [e, Nat.gcd_eq_zero_iff] at hg
          omega
        have CO := Lib.hid (fun W (hW : Drew wr W) => of_below w wr W G hG0 HGM.out (HDr.out.below _) hW _ _ hc0)
        obtain ⟨z, hz⟩ : ∃ z, Big.val Big.M64 l % y = z := ⟨_, rfl⟩
        rw [hz] at CR CG
        clear hz hyM hy0 hG0 hg hyv x1 x2 x3 hcc hr0 hr1
        go_wp2_with fail
        go_region_held3 (fun w' => w'.cell? ⟨gb, ob, none⟩ = some (.int .u64 ((y : Nat) : Int)))
          (first | exact hc0 | assumption)
          (first
            | (go_at_call 119; refine (CR.out _ ⟨_, rfl⟩).mono ?_; rintro e w' ⟨rfl, ⟨n1, rfl⟩⟩)
            | (go_at_call 118; refine (CG.out _).mono ?_; rintro e w' ⟨rfl, ⟨n2, rfl⟩⟩)
            | (go_at_call 100; refine (CO.out _ ⟨_, rfl⟩).mono ?_; rintro e w' ⟨v', rfl, HO, hcw⟩)
            | fail)
        go_wp2_with fail
        go_ret
        exact ⟨_, rfl, HO.out.1, HO.out.2⟩
end Go.Proofs.YtfmebfkdpfbjbaaGreatDoor
namespace Go.Proofs.YtfmebfkdpfbjbaaGreatDoor
open Go.RowKit
set_option maxRecDepth 100000 in
set_option maxHeartbeats 8000000 in
theorem gcd_swap (w : World) (v u : Value) (n m : Nat) (h : NatIn w v n) (k : NatIn w u m) (hn : Fits n) (hlt : m < n) (h1 : n ≠ 1) (h2 : m ≠ 1) :
    Calls Tryz.prog 60 #[u, v] w fun e w' => ∃ v', e = .returned v' ∧ NatIn w' v' (Nat.gcd n m) ∧ Below w.heap.size w w' := by
  have hmn : m ≤ n := Nat.le_of_lt hlt
  obtain ⟨G, hG⟩ : ∃ G, Nat.gcd n m = G := ⟨_, rfl⟩
  rw [hG]
  have HG2 := Lib.hid hG
  clear hG
  have HV := Lib.hid h; have HU := Lib.hid k; have HN := Lib.hid hn; have HMN := Lib.hid hmn
  obtain ⟨l, hx, ol, nl, rfl⟩ := h
  obtain ⟨r, hy, or, nr, rfl⟩ := k
  have e1 : decide (l = [1]) = false := decide_eq_false (by intro e; subst e; simp [Big.val] at h1)
  have e2 : decide (r = [1]) = false := decide_eq_false (by intro e; subst e; simp [Big.val] at h2)
  have I1 := Lib.hid (isOne_any w v l hx)
  have I2 := Lib.hid (isOne_any w u r hy)
  rw [e1] at I1
  rw [e2] at I2
  have CC := Lib.hid (cmp_any w u v r l hy hx or ol nr nl)
  have hcv : Big.cmpI (Big.val Big.M64 r) (Big.val Big.M64 l) < 0 := by
    unfold Big.cmpI; rw [if_pos hlt]; omega
  generalize Big.cmpI (Big.val Big.M64 r) (Big.val Big.M64 l) = cv at *
  have HX := Lib.hid (And.intro hx (And.intro ol (And.intro nl (And.intro hy (And.intro or nr)))))
  obtain ⟨A, c, rfl, -, -, -⟩ := hx
  obtain ⟨A2, c2, rfl, -, -, -⟩ := hy
  have hb1 := hn.len nl
  have hb2 := (hn.le hmn).len nr
  clear ol nl or nr hn hmn hlt h1 h2 e1 e2
  by_cases hl1 : (r.length : Int) > 1
  · go_enter Tryz.func60, Tryz.ntmps60
    go_wp2_with (first
      | (go_at_call 61; with_reducible refine I1.out.mono ?_; rintro e w' ⟨rfl, rfl⟩)
      | (go_at_call 61; with_reducible refine I2.out.mono ?_; rintro e w' ⟨rfl, rfl⟩))
    refine CC.out.mono ?_
    rintro e w1 ⟨rfl, hd⟩
    have HD := Lib.hid hd
    clear hd
    go_wp2_with fail
    refine (clone_any w1 _ l (HX.out.1.drew HD.out) (by omega)).mono ?_
    rintro e w2 ⟨rfl, hk1, hk2⟩
    have HK1 := Lib.hid hk1; have HK2 := Lib.hid hk2
    clear hk1 hk2
    go_wp2_with fail
    have hy2 := (HX.out.2.2.2.1.drew HD.out).keep HK2.out
    refine (clone_any w2 _ r hy2 (by omega)).mono ?_
    rintro e w3 ⟨rfl, hk1, hk2⟩
    have HB3 := Lib.hid (show Below w.heap.size w w3 from by
      have a1 : Below w.heap.size w w1 := HD.out.below _
      have e1 : w1.heap.size = w.heap.size := by rw [HD.out.heap]
      have a2 : Below w.heap.size w w2 := a1.trans (by rw [← e1]; exact HK2.out)
      exact a2.trans (hk2.mono a2.size))
    have HP := Lib.hid (show Pair w3 w.heap.size (.slice (some ⟨w1.heap.size, 0, none⟩) l.length (l.length + 1)) (.slice (some ⟨w2.heap.size, 0, none⟩) r.length (r.length + 1)) (Big.val Big.M64 l) (Big.val Big.M64 r) from by
      have e1 : w1.heap.size = w.heap.size := by rw [HD.out.heap]
      have e2 : w1.heap.size < w2.heap.size := HK1.out.lt
      refine ⟨_, _, _, _, (own_clone HK1.out HX.out.2.1 HX.out.2.2.1 hb1).below hk2, own_clone hk1 HX.out.2.2.2.2.1 HX.out.2.2.2.2.2 hb2, by omega, by omega, by omega, by have := HK1.out.lt; have := hk2.size; omega, hk1.lt, Or.inr ?_⟩
      rw [Nat.pow_succ]
      exact Nat.mul_lt_mul_of_pos_right (Big.val_lt r HX.out.2.2.2.2.1) Big.M64_pos)
    clear hk1 hk2 hy2
    go_wp2_with fail
    go_loopw [5, 6] (fun va vb wr => ∃ a b : Nat, Hid (Nat.gcd a b = G) ∧ Hid (b ≤ a) ∧ Hid (Fits a) ∧ Hid (Pair wr w.heap.size va vb a b) ∧ Hid (Below w.heap.size w wr)) (fun _ vb wr => numAt wr vb)
    case atStart => exact ⟨_, _, HG2, HMN, HN, HP, HB3⟩
    case round =>
      obtain ⟨a, b, HGr, HLE, HFA, HPr, HBr⟩ := hrel
      obtain ⟨ga, gb, ca, cb, oa, ob, P⟩ := HPr.out
      have HP' := Lib.hid P
      have HOA := Lib.hid oa; have HOB := Lib.hid ob
      have hnb := numAt_own ob
      obtain ⟨ka, X, rfl, xa⟩ := oa.len
      obtain ⟨kb, Y, rfl, xb⟩ := ob.len
      have HXA := Lib.hid xa; have HXB := Lib.hid xb
      clear P oa ob xa xb
      by_cases hk1 : (kb : Int) > 1
      · have hxa := HXA.out
        have hxb := HXB.out
        have hlen : kb ≤ ka := by
          have h1 := Big.length_le Big.M64_pos (l := Y.take kb) (m := X.take ka) hxb.2.2.2.2.2.1 (hxa.2.2.2.2.1.take ka) (by rw [hxa.2.2.2.2.2.2.2, hxb.2.2.2.2.2.2.2]; exact HLE.out)
          rwa [hxb.2.2.2.2.2.2.1, hxa.2.2.2.2.2.2.1] at h1
        obtain ⟨k, rfl⟩ : ∃ k, ka = k + 2 := ⟨ka - 2, by omega⟩
        have hka : k + 2 ≤ 100000000 := by
          have hF := HFA.out
          rw [← hxa.2.2.2.2.2.2.2] at hF
          have := hF.len hxa.2.2.2.2.2.1
          rwa [hxa.2.2.2.2.2.2.1] at this
        have hWA := hxa.1.wd 0 (k + 2) ca (by omega) hxa.2.1 hxa.2.2.2.1
        have hWB := hxb.1.wd 0 kb cb (by omega) hxb.2.1 hxb.2.2.2.1
        rw [List.drop_zero] at hWA hWB
        have CF := Lib.hid (firstSteps_any wr _ _ (X.take (k + 2)) (Y.take kb) k hWA hWB (hxa.2.2.2.2.1.take _) (hxb.2.2.2.2.1.take _) hxa.2.2.2.2.2.1 hxa.2.2.2.2.2.2.1 (by rw [hxb.2.2.2.2.2.2.1]; exact hlen) (by rw [hxa.2.2.2.2.2.2.2, hxb.2.2.2.2.2.2.2]; exact HLE.out) (by omega))
        rw [hxa.2.2.2.2.2.2.2, hxb.2.2.2.2.2.2.2] at CF
        have HKA := Lib.hid (And.intro hka (And.intro hlen hk1))
        clear hxa hxb hWA hWB hlen hka
        go_wp2_with fail
        refine CF.out.mono ?_
        rintro e w4 ⟨p, q, rr, s, t, rfl, hb4, hp, hq, hr, hs, hM⟩
        have HM := Lib.hid (And.intro hp (And.intro hq (And.intro hr (And.intro hs hM))))
        have HB4 := Lib.hid hb4
        clear hp hq hr hs hM hb4
        by_cases hq0 : q = 0
        · subst hq0
          have hb5 := HB4.out.alloc HB4.out.size (.cells #[.int .u64 (p : Int), .int .u64 ((0 : Nat) : Int), .int .u64 (rr : Int), .int .u64 (s : Int), .bool t] 190)
          have oa5 := HOA.out.below hb5
          have ob5 := HOB.out.below hb5
          have xa5 := HXA.out.1.below hb5
          have xb5 := HXB.out.1.below hb5
          have HBr5 := Lib.hid (HBr.out.trans (hb5.mono HBr.out.size))
          have HSZ := Lib.hid hb5.size
          have hWA5 := xa5.wd 0 (k + 2) ca (by have := HXA.out.2.1; have := HXA.out.2.2.1; omega) HXA.out.2.1 HXA.out.2.2.2.1
          have hWB5 := xb5.wd 0 kb cb (by have := HXB.out.2.1; have := HXB.out.2.2.1; omega) HXB.out.2.1 HXB.out.2.2.2.1
          rw [List.drop_zero] at hWA5 hWB5
          have CQ := Lib.hid (quoRem_long _ _ _ (X.take (k + 2)) (Y.take kb) kb (kb - 1) (kb - 2) hWA5 hWB5 (HXA.out.2.2.2.2.1.take _) HXA.out.2.2.2.2.2.1 (HXB.out.2.2.2.2.1.take _) HXB.out.2.2.2.2.2.1 HXB.out.2.2.2.2.2.2.1 (by omega) (by omega) (by rw [HXA.out.2.2.2.2.2.2.1]; exact HKA.out.1) (by rw [HXA.out.2.2.2.2.2.2.2, HXB.out.2.2.2.2.2.2.2]; exact HLE.out))
          rw [HXA.out.2.2.2.2.2.2.2, HXB.out.2.2.2.2.2.2.2] at CQ
          have HOB5 := Lib.hid ob5
          have HGB5 := Lib.hid (Nat.lt_of_lt_of_le HP'.out.2.2.2.2.1 HSZ.out)
          clear hb5 oa5 ob5 xa5 xb5 hWA5 hWB5
          go_wp2_with fail
          refine CQ.out.mono ?_
          rintro e w6 ⟨qq, rest, rfl, -, -, hb6, g, cc, hg1, hg2, hown⟩
          have hb0 : 0 < b := by
            rcases Nat.eq_zero_or_pos b with e | e
            · exfalso
              have h1 := Big.norm_zero Big.M64_pos (Y.take kb) HXB.out.2.2.2.2.2.1 (by rw [HXB.out.2.2.2.2.2.2.2]; exact e)
              have h2 := HXB.out.2.2.2.2.2.2.1
              rw [h1] at h2; simp at h2; omega
            · exact e
          have HOW := Lib.hid hown
          have HG' := Lib.hid (show Nat.gcd b (a % b) = G by rw [← HGr.out, Nat.gcd_comm a b, Nat.gcd_rec b a, Nat.gcd_comm])
          have HLT := Lib.hid (Nat.mod_lt a hb0)
          have HB6 := Lib.hid hb6
          have HGG := Lib.hid (And.intro hg1 hg2)
          clear hb6 hown hb0 hg1 hg2
          go_wp2_with fail
          go_roundw
          case rel =>
            obtain ⟨k6, R6, -, hb6, -⟩ := HOW.out.len
            have h1 := HGG.out.1
            have h2 := HGB5.out
            have h3 := HBr5.out.size
            have h4 := HB6.out.size
            refine ⟨b, a % b, HG', Lib.hid (Nat.le_of_lt HLT.out), Lib.hid (HFA.out.le HLE.out), Lib.hid ⟨gb, g, cb, cc, HOB5.out.below HB6.out, HOW.out, by omega, HP'.out.2.2.1, by omega, by omega, hb6.lt, Or.inl ?_⟩, Lib.hid (HBr5.out.trans (HB6.out.mono h3))⟩
            have h5 := Big.val_lt (Y.take kb) (HXB.out.2.2.2.2.1.take kb)
            rw [HXB.out.2.2.2.2.2.2.2, HXB.out.2.2.2.2.2.2.1] at h5
            exact Nat.lt_of_lt_of_le h5 (Nat.pow_le_pow_right Big.M64_pos (by have := HGG.out.2; omega))
          case measure => rw [numAt_own HOW.out, hnb]; exact HLT.out
        · have hq1 : ((q : Int) == 0) = false := beq_eq_false_iff_ne.2 (by omega)
          have hb5 := HB4.out.alloc HB4.out.size (.cells #[.int .u64 (p : Int), .int .u64 (q : Int), .int .u64 (rr : Int), .int .u64 (s : Int), .bool t] 190)
          have oa5 := HOA.out.below hb5
          have ob5 := HOB.out.below hb5
          have xa5 := HXA.out.1.below hb5
          have xb5 := HXB.out.1.below hb5
          have HBr5 := Lib.hid (HBr.out.trans (hb5.mono HBr.out.size))
          have HSZ := Lib.hid hb5.size
          obtain ⟨hr1, hs1, hMk, a', b', hmade⟩ := HM.out.2.2.2.2 hq0
          have hbk := Big.val_lt (Y.take kb) (HXB.out.2.2.2.2.1.take kb)
          rw [HXB.out.2.2.2.2.2.2.2, HXB.out.2.2.2.2.2.2.1] at hbk
          have hM1 : 1 < Big.M64 := by unfold Big.M64; omega
          have hkkb : k < kb := (Nat.pow_lt_pow_iff_right hM1).1 (Nat.lt_of_le_of_lt hMk hbk)
          have hak : Big.M64 ^ (k + 1) ≤ a := by
            have h1 := Big.norm_ge (B := Big.M64) (X.take (k + 2)) HXA.out.2.2.2.2.2.1 (by intro e; have h2 := HXA.out.2.2.2.2.2.2.1; rw [e] at h2; simp at h2)
            rwa [HXA.out.2.2.2.2.2.2.2, HXA.out.2.2.2.2.2.2.1] at h1
          have hak2 := Big.val_lt (X.take (k + 2)) (HXA.out.2.2.2.2.1.take (k + 2))
          rw [HXA.out.2.2.2.2.2.2.2, HXA.out.2.2.2.2.2.2.1] at hak2
          have hroom : k + 2 ≤ cb := by
            rcases HP'.out.2.2.2.2.2 with h | h
            · exact (Nat.pow_lt_pow_iff_right hM1).1 (Nat.lt_of_le_of_lt hak h)
            · have h1 := Nat.mul_le_mul_right Big.M64 hMk
              rw [← Nat.pow_succ] at h1
              exact (Nat.pow_lt_pow_iff_right hM1).1 (Nat.lt_of_le_of_lt h1 h)
          have hlea := hmade.lea hs1
          have HA1 := Lib.hid (show a' < Big.M64 ^ ca from Nat.lt_of_le_of_lt hlea (Nat.lt_of_lt_of_le hak2 (Nat.pow_le_pow_right Big.M64_pos HXA.out.2.1)))
          have HA2 := Lib.hid (show a' < Big.M64 ^ cb from Nat.lt_of_le_of_lt hlea (Nat.lt_of_lt_of_le hak2 (Nat.pow_le_pow_right Big.M64_pos hroom)))
          have HG' := Lib.hid (show Nat.gcd a' b' = G by rw [← HGr.out]; exact hmade.gcd.symm)
          have HLE' := Lib.hid (Nat.le_of_lt hmade.lt)
          have HF' := Lib.hid (HFA.out.le hlea)
          have HLT := Lib.hid (hmade.less hr1)
          have hma := hmade
          rw [← HXA.out.2.2.2.2.2.2.2, ← HXB.out.2.2.2.2.2.2.2] at hma
          have CA := Lib.hid (show Calls Tryz.prog 117 #[.agg #[.int .u64 (p : Int), .int .u64 (q : Int), .int .u64 (rr : Int), .int .u64 (s : Int), .bool t], .slice (some ⟨ga, 0, none⟩) (k + 2) ca, .slice (some ⟨gb, 0, none⟩) kb cb] (w4.alloc (.cells #[.int .u64 (p : Int), .int .u64 (q : Int), .int .u64 (rr : Int), .int .u64 (s : Int), .bool t] 190)) fun e w' =>
              ∃ va vb, e = .returned (.tuple #[va, vb]) ∧ Below w.heap.size (w4.alloc (.cells #[.int .u64 (p : Int), .int .u64 (q : Int), .int .u64 (rr : Int), .int .u64 (s : Int), .bool t] 190)) w' ∧
                (OwnNat w' va ga ca a' ∧ OwnNat w' vb gb cb b' ∨ OwnNat w' va gb cb a' ∧ OwnNat w' vb ga ca b') from by
            have hl2 := HKA.out.2.1
            rcases Nat.lt_or_ge kb (k + 2) with hlt | hge
            · exact apply_less _ w.heap.size ga gb kb (k + 2) ca cb p q rr s a' b' t X Y xa5 xb5 HP'.out.1 HP'.out.2.1 HP'.out.2.2.1 HXA.out.2.2.1 HXB.out.2.2.1 HXA.out.2.1 hroom HXA.out.2.2.2.1 HXB.out.2.2.2.1 HXA.out.2.2.2.2.1 HXB.out.2.2.2.2.1 HM.out.1 HM.out.2.1 HM.out.2.2.1 HM.out.2.2.2.1 hs1 (by have := HKA.out.1; omega) (by omega) hma
            · obtain rfl : kb = k + 2 := by omega
              exact apply_eq _ w.heap.size ga gb (k + 2) ca cb p q rr s a' b' t X Y xa5 xb5 HP'.out.1 HP'.out.2.1 HP'.out.2.2.1 HXA.out.2.2.1 HXB.out.2.2.1 HXA.out.2.1 hroom HXA.out.2.2.2.1 HXB.out.2.2.2.1 HXA.out.2.2.2.2.1 HXB.out.2.2.2.2.1 HM.out.1 HM.out.2.1 HM.out.2.2.1 HM.out.2.2.2.1 hs1 (by have := HKA.out.1; omega) hma)
          clear hma hmade hlea hroom hak hak2 hkkb hM1 hbk hr1 hs1 hMk hb5 oa5 ob5 xa5 xb5
          go_wp2_with fail
          refine CA.out.mono ?_
          rintro e w6 ⟨va, vb, rfl, hb6, hor⟩
          have HB6 := Lib.hid hb6
          have HOR := Lib.hid hor
          clear hb6 hor
          go_wp2_with fail
          go_roundw
          case rel =>
            have hP := HP'.out
            refine ⟨a', b', HG', HLE', HF', Lib.hid ?_, Lib.hid (HBr5.out.trans HB6.out)⟩
            rcases HOR.out with ⟨h1, h2⟩ | ⟨h1, h2⟩
            · obtain ⟨-, R1, -, l1, -⟩ := h1.len
              obtain ⟨-, R2, -, l2, -⟩ := h2.len
              exact ⟨ga, gb, ca, cb, h1, h2, hP.1, hP.2.1, hP.2.2.1, l1.lt, l2.lt, Or.inl HA2.out⟩
            · obtain ⟨-, R1, -, l1, -⟩ := h1.len
              obtain ⟨-, R2, -, l2, -⟩ := h2.len
              exact ⟨gb, ga, cb, ca, h1, h2, Ne.symm hP.1, hP.2.2.1, hP.2.1, l1.lt, l2.lt, Or.inl HA1.out⟩
          case measure =>
            rcases HOR.out with ⟨h1, h2⟩ | ⟨h1, h2⟩
            · rw [numAt_own h2, hnb]; exact HLT.out
            · rw [numAt_own h2, hnb]; exact HLT.out
      · have hv := HXB.out
        by_cases hk0 : kb = 0
        · subst hk0
          have hb0 : b = 0 := by rw [← hv.2.2.2.2.2.2.2]; simp [Big.val]
          subst hb0
          clear hv
          go_wp2_with fail
          go_ret
          have hg := HGr.out
          rw [Nat.gcd_zero_right] at hg
          subst hg
          exact ⟨_, rfl, HOA.out.nat, HBr.out⟩
        · have hk1' : kb = 1 := by omega
          subst hk1'
          have hlY : 0 < Y.length := by have := hv.2.1; have := hv.2.2.1; omega
          have hbv : b = Big.nth Y 0 := by
            rw [← hv.2.2.2.2.2.2.2, Big.val_take_succ' Y 0]; simp [Big.val]
          have hbM : b < Big.M64 := by rw [hbv]; exact hv.2.2.2.2.1.nth Big.M64_pos 0
          have hb0 : 0 < b := by
            rcases Nat.eq_zero_or_pos b with e | e
            · have hn := hv.2.2.2.2.2.1
              rw [hbv] at e
              exfalso; apply hn
              rw [List.getLast?_eq_getElem?, hv.2.2.2.2.2.2.1, List.getElem?_take_of_lt (by omega)]
              unfold Big.nth at e
              rw [List.getD_eq_getElem?_getD, List.getElem?_eq_getElem hlY] at e
              rw [List.getElem?_eq_getElem hlY]
              simpa using e
            · exact e
          have hc0 := hv.1.cell 0 hlY
          rw [← hbv] at hc0
          have hWA := HXA.out.1.wd 0 ka ca (by have := HXA.out.2.1; have := HXA.out.2.2.1; omega) HXA.out.2.1 HXA.out.2.2.2.1
          rw [List.drop_zero] at hWA
          have hka : ka ≤ 100000000 := by
            have hF := HFA.out
            rw [← HXA.out.2.2.2.2.2.2.2] at hF
            have := hF.len HXA.out.2.2.2.2.2.1
            rwa [HXA.out.2.2.2.2.2.2.1] at this
          have hka' : (X.take ka).length = ka := HXA.out.2.2.2.2.2.2.1
          have CR := Lib.hid (fun W (hW : Drew wr W) => restWord_any W _ (X.take ka) b (hWA.drew hW) (HXA.out.2.2.2.2.1.take ka) hb0 hbM (by omega))
          rw [HXA.out.2.2.2.2.2.2.2] at CR
          clear hka hka'
          have CG := Lib.hid (fun W => gcdWords_any W b (a % b) hbM (Nat.lt_trans (Nat.mod_lt a hb0) hbM))
          rw [show Nat.gcd b (a % b) = G by rw [← HGr.out, Nat.gcd_comm a b, Nat.gcd_rec b a, Nat.gcd_comm]] at CG
          clear hv hbv hlY hWA
          obtain ⟨z, hz⟩ : ∃ z, a % b = z := ⟨_, rfl⟩
          rw [hz] at CR CG
          have HGM := Lib.hid (show G < Big.M64 by rw [← HGr.out]; exact Nat.lt_of_le_of_lt (Nat.gcd_le_right a hb0) hbM)
          have hG0 : G ≠ 0 := by
            intro e
            have h1 := HGr.out
            rw [e, Nat.gcd_eq_zero_iff] at h1
            omega
          have CO := Lib.hid (fun W (hW : Drew wr W) => of_below w wr W G hG0 HGM.out HBr.out hW _ _ hc0)
          clear hz hbM hb0 hG0
          go_wp2_with fail
          go_region_held3 (fun w' => w'.cell? ⟨gb, 0, none⟩ = some (.int .u64 ((b : Nat) : Int)))
            (first | exact hc0 | assumption)
            (first
              | (go_at_call 119; refine (CR.out _ ⟨_, rfl⟩).mono ?_; rintro e w' ⟨rfl, ⟨n1, rfl⟩⟩)
              | (go_at_call 118; refine (CG.out _).mono ?_; rintro e w' ⟨rfl, ⟨n2, rfl⟩⟩)
              | (go_at_call 100; refine (CO.out _ ⟨_, rfl⟩).mono ?_; rintro e w' ⟨v', rfl, HO, hcw⟩)
              | fail)
          go_wp2_with fail
          go_ret
          exact ⟨_, rfl, HO.out.1, HO.out.2⟩
  · go_enter Tryz.func60, Tryz.ntmps60
    go_wp2_with (first
      | (go_at_call 61; with_reducible refine I1.out.mono ?_; rintro e w' ⟨rfl, rfl⟩)
      | (go_at_call 61; with_reducible refine I2.out.mono ?_; rintro e w' ⟨rfl, rfl⟩))
    refine CC.out.mono ?_
    rintro e w1 ⟨rfl, hd⟩
    have HD := Lib.hid hd
    clear hd
    go_wp2_with fail
    go_loopw [5, 6] (fun va vb wr => va = .slice A l.length c ∧ vb = .slice A2 r.length c2 ∧ Hid (Drew w wr)) (fun _ _ _ => 0)
    case atStart => exact ⟨rfl, rfl, HD⟩
    case round =>
      obtain ⟨rfl, rfl, HDr⟩ := hrel
      rcases Nat.eq_zero_or_pos r.length with hr0 | hr0
      · have hr : r = [] := List.eq_nil_of_length_eq_zero hr0
        subst hr
        clear hr0
        go_wp2_with fail
        go_ret
        have hg := HG2.out
        rw [show Big.val Big.M64 [] = 0 from rfl, Nat.gcd_zero_right] at hg
        subst hg
        exact ⟨_, rfl, HV.out.drew HDr.out, HDr.out.below _⟩
      · have hr1 : r.length = 1 := by omega
        obtain ⟨y, rfl⟩ := List.length_eq_one_iff.1 hr1
        have hyv : Big.val Big.M64 [y] = y := by simp [Big.val]
        have hyM : y < Big.M64 := HX.out.2.2.2.2.1.head
        have hy0 : 0 < y := by
          rcases Nat.eq_zero_or_pos y with e | e
          · exfalso; have := HX.out.2.2.2.2.2; subst e; simp [Big.Norm] at this
          · exact e
        have hg := HG2.out
        rw [hyv] at hg
        obtain ⟨A', c', e', x1, x2, x3⟩ := HX.out.2.2.2.1
        cases e'
        obtain ⟨gb, ob, rfl, hblt, hcc, -⟩ := x3 (by omega)
        have hc0 : wr.cell? ⟨gb, ob, none⟩ = some (.int .u64 ((y : Nat) : Int)) := by
          rw [HDr.out.cell]; exact hcc 0 (by omega)
        have CR := Lib.hid (fun W (hW : Drew wr W) => restWord_any W _ l y ((HX.out.1.drew HDr.out).drew hW) HX.out.2.1 hy0 hyM (by omega))
        have CG := Lib.hid (fun W => gcdWords_any W y (Big.val Big.M64 l % y) hyM (Nat.lt_trans (Nat.mod_lt _ hy0) hyM))
        rw [show Nat.gcd y (Big.val Big.M64 l % y) = G by rw [← hg, Nat.gcd_comm (Big.val Big.M64 l) y, Nat.gcd_rec y (Big.val Big.M64 l), Nat.gcd_comm]] at CG
        have HGM := Lib.hid (show G < Big.M64 by rw [← hg]; exact Nat.lt_of_le_of_lt (Nat.gcd_le_right _ hy0) hyM)
        have hG0 : G ≠ 0 := by
          intro e
          rw [e, Nat.gcd_eq_zero_iff] at hg
          omega
        have CO := Lib.hid (fun W (hW : Drew wr W) => of_below w wr W G hG0 HGM.out (HDr.out.below _) hW _ _ hc0)
        obtain ⟨z, hz⟩ : ∃ z, Big.val Big.M64 l % y = z := ⟨_, rfl⟩
        rw [hz] at CR CG
        clear hz hyM hy0 hG0 hg hyv x1 x2 x3 hcc hr0 hr1
        go_wp2_with fail
        go_region_held3 (fun w' => w'.cell? ⟨gb, ob, none⟩ = some (.int .u64 ((y : Nat) : Int)))
          (first | exact hc0 | assumption)
          (first
            | (go_at_call 119; refine (CR.out _ ⟨_, rfl⟩).mono ?_; rintro e w' ⟨rfl, ⟨n1, rfl⟩⟩)
            | (go_at_call 118; refine (CG.out _).mono ?_; rintro e w' ⟨rfl, ⟨n2, rfl⟩⟩)
            | (go_at_call 100; refine (CO.out _ ⟨_, rfl⟩).mono ?_; rintro e w' ⟨v', rfl, HO, hcw⟩)
            | fail)
        go_wp2_with fail
        go_ret
        exact ⟨_, rfl, HO.out.1, HO.out.2⟩
set_option maxRecDepth 100000 in
set_option maxHeartbeats 8000000 in
theorem gcd_one (w : World) (v u : Value) (n m : Nat) (h : NatIn w v n) (k : NatIn w u m) (h1 : n = 1 ∨ m = 1) :
    Calls Tryz.prog 60 #[v, u] w fun e w' => ∃ v', e = .returned v' ∧ NatIn w' v' (Nat.gcd n m) ∧ Below w.heap.size w w' := by
  have hg : Nat.gcd n m = 1 := by rcases h1 with rfl | rfl <;> simp
  rw [hg]
  obtain ⟨l, hx, ol, nl, rfl⟩ := h
  obtain ⟨r, hy, or, nr, rfl⟩ := k
  have o1 : Big.Ok Big.M64 [1] := Big.Ok.cons (by unfold Big.M64; omega) Big.Ok.nil
  have n1 : Big.Norm [1] := by simp [Big.Norm]
  have v1 : Big.val Big.M64 [1] = 1 := by simp [Big.val]
  have I1 := Lib.hid (isOne_any w v l hx)
  have I2 := Lib.hid (isOne_any w u r hy)
  have CO := Lib.hid (natOf_any w 1)
  have hor : l = [1] ∨ r = [1] := by
    rcases h1 with e | e
    · exact Or.inl (Big.val_inj Big.M64_pos _ _ ol o1 nl n1 (by rw [v1]; exact e))
    · exact Or.inr (Big.val_inj Big.M64_pos _ _ or o1 nr n1 (by rw [v1]; exact e))
  obtain ⟨A, c, rfl, -, -, -⟩ := hx
  obtain ⟨A2, c2, rfl, -, -, -⟩ := hy
  have HO := Lib.hid (And.intro o1 (And.intro n1 v1))
  clear ol nl or nr h1 hg o1 n1 v1
  by_cases hl : l = [1]
  · rw [decide_eq_true hl] at I1
    clear hor hl I2
    go_enter Tryz.func60, Tryz.ntmps60
    go_wp2_with (go_at_call 61; refine I1.out.mono ?_; rintro e w' ⟨rfl, rfl⟩)
    refine CO.out.mono ?_
    rintro e w' ⟨v', rfl, hv', hb⟩
    have HV := Lib.hid hv'; have HB := Lib.hid hb
    clear hv' hb
    go_wp2
    go_ret
    exact ⟨v', rfl, ⟨[1], HV.out, HO.out.1, HO.out.2.1, HO.out.2.2⟩, HB.out⟩
  · have hr : r = [1] := hor.resolve_left hl
    rw [decide_eq_false hl] at I1
    rw [decide_eq_true hr] at I2
    clear hor hl hr
    go_enter Tryz.func60, Tryz.ntmps60
    go_wp2_with (first
      | (go_at_call 61; with_reducible refine I1.out.mono ?_; rintro e w' ⟨rfl, rfl⟩)
      | (go_at_call 61; with_reducible refine I2.out.mono ?_; rintro e w' ⟨rfl, rfl⟩))
    refine CO.out.mono ?_
    rintro e w' ⟨v', rfl, hv', hb⟩
    have HV := Lib.hid hv'; have HB := Lib.hid hb
    clear hv' hb
    go_wp2
    go_ret
    exact ⟨v', rfl, ⟨[1], HV.out, HO.out.1, HO.out.2.1, HO.out.2.2⟩, HB.out⟩
theorem gcd_any (w : World) (v u : Value) (n m : Nat) (h : NatIn w v n) (k : NatIn w u m) (hn : Fits n) (hm : Fits m) :
    Calls Tryz.prog 60 #[v, u] w fun e w' => ∃ v', e = .returned v' ∧ NatIn w' v' (Nat.gcd n m) ∧ Below w.heap.size w w' := by
  by_cases h1 : n = 1 ∨ m = 1
  · exact gcd_one w v u n m h k h1
  · rcases Nat.lt_or_ge n m with hlt | hge
    · rw [Nat.gcd_comm]
      exact gcd_swap w u v m n k h hm hlt (fun e => h1 (Or.inr e)) (fun e => h1 (Or.inl e))
    · exact gcd_tail w v u n m h k hn hge (fun e => h1 (Or.inl e)) (fun e => h1 (Or.inr e))
end Go.Proofs.YtfmebfkdpfbjbaaGreatDoor
namespace Go.Proofs.YtfmebfkdpfbjbaaGreatDoor.Big
def ng (q : Rat) : Bool := decide (q.num < 0)
def nu (q : Rat) : Nat := q.num.natAbs
def de (q : Rat) : Nat := q.den
def sI (b : Bool) (n : Nat) : Int := if b then -(n : Int) else (n : Int)
theorem sI_true (n : Nat) : sI true n = -(n : Int) := rfl
theorem sI_false (n : Nat) : sI false n = (n : Int) := rfl
theorem sI_abs (b : Bool) (n : Nat) : (sI b n).natAbs = n := by cases b <;> simp [sI]
theorem sI_mul (b : Bool) (n m : Nat) : sI b (n * m) = sI b n * (m : Int) := by cases b <;> simp [sI, Int.neg_mul]
theorem num_eq (q : Rat) : q.num = sI (ng q) (nu q) := by
  unfold ng nu sI
  by_cases h : q.num < 0
  · rw [if_pos (decide_eq_true h)]; omega
  · rw [if_neg (by simpa using h)]; omega
theorem ng_pos {q : Rat} (h : ng q = true) : 1 ≤ nu q := by
  unfold ng at h; unfold nu
  have := of_decide_eq_true h
  omega
theorem de_pos (q : Rat) : 1 ≤ de q := Nat.pos_of_ne_zero q.den_nz
theorem cop (q : Rat) : Nat.gcd (nu q) (de q) = 1 := q.reduced
theorem sI_neg {b : Bool} {n : Nat} (h : b = true → 1 ≤ n) : decide (sI b n < 0) = b := by
  cases b with
  | true => have := h rfl; rw [sI_true]; exact decide_eq_true (by omega)
  | false => rw [sI_false]; exact decide_eq_false (by omega)
theorem parts {b : Bool} {n d : Nat} (hd : 1 ≤ d) (hc : Nat.gcd n d = 1) (hs : b = true → 1 ≤ n) {N : Int} {D : Nat} (hD : D ≠ 0) (h : sI b n * (D : Int) = N * (d : Int)) {q : Rat} (hq : q = mkRat N D) :
    ng q = b ∧ nu q = n ∧ de q = d := by
  have hd0 : d ≠ 0 := by omega
  have e : q = (⟨sI b n, d, hd0, by rw [sI_abs]; exact hc⟩ : Rat) := by
    rw [Rat.mk_eq_mkRat, hq, Rat.mkRat_eq_iff hD hd0, h]
  rw [e]
  exact ⟨sI_neg hs, sI_abs b n, rfl⟩
theorem parts_of (q : Rat) (b : Bool) (n d : Nat) (h : ng q = b ∧ nu q = n ∧ de q = d) : q = mkRat (sI b n) d := by
  obtain ⟨rfl, rfl, rfl⟩ := h
  rw [← num_eq]; exact (Rat.mkRat_self q).symm
theorem is_mk (q : Rat) : q = mkRat (sI (ng q) (nu q)) (de q) := parts_of q _ _ _ ⟨rfl, rfl, rfl⟩
theorem gcd_pos_right {n d : Nat} (h : 1 ≤ d) : 1 ≤ Nat.gcd n d := Nat.gcd_pos_of_pos_right _ h
theorem cop_div {a b c d : Nat} (h : Nat.gcd a b = 1) (hc : c ∣ a) (hd : d ∣ b) : Nat.gcd c d = 1 := by
  refine Nat.dvd_one.1 ?_
  rw [← h]
  exact Nat.dvd_gcd (Nat.dvd_trans (Nat.gcd_dvd_left _ _) hc) (Nat.dvd_trans (Nat.gcd_dvd_right _ _) hd)
theorem mul_parts (q r : Rat) :
    ng (q * r) = ((ng q != ng r) && decide (0 < nu q / Nat.gcd (nu q) (de r) * (nu r / Nat.gcd (nu r) (de q)))) ∧
    nu (q * r) = nu q / Nat.gcd (nu q) (de r) * (nu r / Nat.gcd (nu r) (de q)) ∧
    de (q * r) = de q / Nat.gcd (nu r) (de q) * (de r / Nat.gcd (nu q) (de r)) := by
  have hq := de_pos q
  have hr := de_pos r
  have cq := cop q
  have cr := cop r
  have eq : q * r = mkRat (sI (ng q) (nu q) * sI (ng r) (nu r)) (de q * de r) := by
    rw [Rat.mul_def', num_eq q, num_eq r]; rfl
  generalize nu q = n at *
  generalize de q = d at *
  generalize nu r = m at *
  generalize de r = e at *
  generalize ng q = b at *
  generalize ng r = c at *
  have g1 := gcd_pos_right (n := n) hr
  have g2 := gcd_pos_right (n := m) hq
  have a1 := Nat.div_mul_cancel (Nat.gcd_dvd_left n e)
  have a2 := Nat.div_mul_cancel (Nat.gcd_dvd_right n e)
  have a3 := Nat.div_mul_cancel (Nat.gcd_dvd_left m d)
  have a4 := Nat.div_mul_cancel (Nat.gcd_dvd_right m d)
  have c1 : Nat.gcd (n / Nat.gcd n e) (e / Nat.gcd n e) = 1 := Nat.gcd_div_gcd_div_gcd_of_pos_right hr
  have c2 : Nat.gcd (m / Nat.gcd m d) (d / Nat.gcd m d) = 1 := Nat.gcd_div_gcd_div_gcd_of_pos_right hq
  have p1 : 1 ≤ d / Nat.gcd m d := Nat.div_pos (Nat.le_of_dvd hq (Nat.gcd_dvd_right _ _)) g2
  have p2 : 1 ≤ e / Nat.gcd n e := Nat.div_pos (Nat.le_of_dvd hr (Nat.gcd_dvd_right _ _)) g1
  generalize Nat.gcd n e = g at *
  generalize Nat.gcd m d = k at *
  generalize n / g = n' at *
  generalize e / g = e' at *
  generalize m / k = m' at *
  generalize d / k = d' at *
  refine parts (Nat.mul_pos p1 p2) ?_ ?_ (Nat.ne_of_gt (Nat.mul_pos hq hr)) ?_ eq
  · have x1 : Nat.Coprime n' d' := cop_div cq ⟨g, a1.symm⟩ ⟨k, a4.symm⟩
    have x2 : Nat.Coprime n' e' := c1
    have x3 : Nat.Coprime m' d' := c2
    have x4 : Nat.Coprime m' e' := cop_div cr ⟨k, a3.symm⟩ ⟨g, a2.symm⟩
    exact (Nat.Coprime.mul_right x1 x2).mul_left (Nat.Coprime.mul_right x3 x4)
  · intro h
    rw [Bool.and_eq_true] at h
    exact of_decide_eq_true h.2
  · clear c1 c2 cq cr eq p1 p2
    subst a1 a2 a3 a4
    by_cases h0 : 0 < n' * m'
    · rw [decide_eq_true h0, Bool.and_true]
      cases b <;> cases c <;> simp [sI] <;> grind
    · have h1 : n' * m' = 0 := by omega
      have h2 : n' = 0 ∨ m' = 0 := Nat.mul_eq_zero.1 h1
      rw [h1]
      rcases h2 with h2 | h2 <;> subst h2 <;> simp [sI]
theorem add_parts (q r : Rat) (s L R : Nat) (S : Int) (hs : s = Nat.gcd (de q) (de r)) (hL : L = de q / s) (hR : R = de r / s) (hS : S = sI (ng q) (nu q * R) + sI (ng r) (nu r * L)) :
    ng (q + r) = decide (S < 0) ∧ nu (q + r) = S.natAbs / Nat.gcd S.natAbs s ∧ de (q + r) = L * (de r / Nat.gcd S.natAbs s) := by
  have hq := de_pos q
  have hr := de_pos r
  have cq := cop q
  have cr := cop r
  have eq : q + r = mkRat (sI (ng q) (nu q) * de r + sI (ng r) (nu r) * de q) (de q * de r) := by
    rw [Rat.add_def', num_eq q, num_eq r]; rfl
  rw [sI_mul, sI_mul] at hS
  have kq : (sI (ng q) (nu q)).natAbs = nu q := sI_abs _ _
  have kr : (sI (ng r) (nu r)).natAbs = nu r := sI_abs _ _
  generalize nu q = n at *
  generalize de q = d at *
  generalize nu r = m at *
  generalize de r = e at *
  generalize sI (ng q) n = x at *
  generalize sI (ng r) m = y at *
  have hs1 : 1 ≤ s := by rw [hs]; exact gcd_pos_right hr
  have e1 : L * s = d := by rw [hL, hs]; exact Nat.div_mul_cancel (Nat.gcd_dvd_left _ _)
  have e2 : R * s = e := by rw [hR, hs]; exact Nat.div_mul_cancel (Nat.gcd_dvd_right _ _)
  have cLR : Nat.gcd L R = 1 := by rw [hL, hR, hs]; exact Nat.gcd_div_gcd_div_gcd_of_pos_right hr
  have hL1 : 1 ≤ L := by rcases Nat.eq_zero_or_pos L with h | h
                         · rw [h] at e1; omega
                         · exact h
  have hR1 : 1 ≤ R := by rcases Nat.eq_zero_or_pos R with h | h
                         · rw [h] at e2; omega
                         · exact h
  clear hL hR hs
  -- what goes into the sum and into L, or into R, is 1
  have oL : Nat.gcd S.natAbs L = 1 := by
    have hg1 : (Nat.gcd S.natAbs L) ∣ S.natAbs := Nat.gcd_dvd_left _ _
    have hg2 : (Nat.gcd S.natAbs L) ∣ L := Nat.gcd_dvd_right _ _
    generalize Nat.gcd S.natAbs L = g at *
    have h1 : (g : Int) ∣ S := Int.ofNat_dvd_left.2 hg1
    have h2 : (g : Int) ∣ y * (L : Int) := Int.dvd_trans (Int.natCast_dvd_natCast.2 hg2) (Int.dvd_mul_left _ _)
    have h3 : (g : Int) ∣ x * (R : Int) := by
      have : x * (R : Int) = S - y * (L : Int) := by rw [hS]; omega
      rw [this]; exact Int.dvd_sub h1 h2
    have h4 : g ∣ n * R := by
      have := Int.ofNat_dvd_left.1 h3
      rwa [Int.natAbs_mul, kq, Int.natAbs_natCast] at this
    have c1 : Nat.Coprime g n := Nat.Coprime.symm (cop_div cq (Nat.dvd_refl _) (Nat.dvd_trans hg2 ⟨s, e1.symm⟩))
    have c2 : Nat.Coprime g R := cop_div cLR hg2 (Nat.dvd_refl _)
    exact Nat.Coprime.eq_one_of_dvd (Nat.Coprime.mul_right c1 c2) h4
  have oR : Nat.gcd S.natAbs R = 1 := by
    have hg1 : (Nat.gcd S.natAbs R) ∣ S.natAbs := Nat.gcd_dvd_left _ _
    have hg2 : (Nat.gcd S.natAbs R) ∣ R := Nat.gcd_dvd_right _ _
    generalize Nat.gcd S.natAbs R = g at *
    have h1 : (g : Int) ∣ S := Int.ofNat_dvd_left.2 hg1
    have h2 : (g : Int) ∣ x * (R : Int) := Int.dvd_trans (Int.natCast_dvd_natCast.2 hg2) (Int.dvd_mul_left _ _)
    have h3 : (g : Int) ∣ y * (L : Int) := by
      have : y * (L : Int) = S - x * (R : Int) := by rw [hS]; omega
      rw [this]; exact Int.dvd_sub h1 h2
    have h4 : g ∣ m * L := by
      have := Int.ofNat_dvd_left.1 h3
      rwa [Int.natAbs_mul, kr, Int.natAbs_natCast] at this
    have c1 : Nat.Coprime g m := Nat.Coprime.symm (cop_div cr (Nat.dvd_refl _) (Nat.dvd_trans hg2 ⟨s, e2.symm⟩))
    have c2 : Nat.Coprime g L := Nat.Coprime.symm (cop_div cLR (Nat.dvd_refl _) hg2)
    exact Nat.Coprime.eq_one_of_dvd (Nat.Coprime.mul_right c1 c2) h4
  have hcs : Nat.gcd S.natAbs s ∣ s := Nat.gcd_dvd_right _ _
  have hcS : Nat.gcd S.natAbs s ∣ S.natAbs := Nat.gcd_dvd_left _ _
  have c3 : Nat.gcd (S.natAbs / Nat.gcd S.natAbs s) (s / Nat.gcd S.natAbs s) = 1 := Nat.gcd_div_gcd_div_gcd_of_pos_right hs1
  have hc1 : 1 ≤ Nat.gcd S.natAbs s := gcd_pos_right hs1
  have e3 := Nat.div_mul_cancel hcs
  have e4 := Nat.div_mul_cancel hcS
  have e5 : e / Nat.gcd S.natAbs s = R * (s / Nat.gcd S.natAbs s) := by rw [← e2, Nat.mul_div_assoc _ hcs]
  have hsc : 1 ≤ s / Nat.gcd S.natAbs s := Nat.div_pos (Nat.le_of_dvd hs1 hcs) hc1
  rw [e5]
  generalize Nat.gcd S.natAbs s = c at *
  have eS : S = sI (decide (S < 0)) S.natAbs := by
    unfold sI
    by_cases h : S < 0
    · rw [if_pos (decide_eq_true h)]; omega
    · rw [if_neg (by simpa using h)]; omega
  refine parts (Nat.mul_pos hL1 (Nat.mul_pos hR1 hsc)) ?_ ?_ (Nat.ne_of_gt (Nat.mul_pos hq hr)) ?_ eq
  · have d1 : S.natAbs / c ∣ S.natAbs := ⟨c, e4.symm⟩
    have x1 : Nat.Coprime (S.natAbs / c) L := cop_div oL d1 (Nat.dvd_refl _)
    have x2 : Nat.Coprime (S.natAbs / c) R := cop_div oR d1 (Nat.dvd_refl _)
    exact Nat.Coprime.mul_right x1 (Nat.Coprime.mul_right x2 c3)
  · intro h
    have h0 := of_decide_eq_true h
    rcases Nat.eq_zero_or_pos (S.natAbs / c) with h1 | h1
    · rw [h1] at e4; omega
    · exact h1
  · have e6 : sI (decide (S < 0)) (S.natAbs / c) * (c : Int) = x * (R : Int) + y * (L : Int) := by
      rw [← sI_mul, e4, ← eS, hS]
    generalize sI (decide (S < 0)) (S.natAbs / c) = z at *
    generalize s / c = t at *
    rw [← e1, ← e2, ← e3]
    simp only [Int.natCast_mul]
    grind
theorem neg_parts (q : Rat) : ng (-q) = (!ng q && decide (0 < nu q)) ∧ nu (-q) = nu q ∧ de (-q) = de q := by
  unfold ng nu de
  rw [Rat.neg_num, Rat.neg_den]
  refine ⟨?_, by omega, rfl⟩
  by_cases h : q.num < 0
  · rw [decide_eq_true h, decide_eq_false (by omega)]; rfl
  · rw [decide_eq_false h]
    by_cases h0 : q.num = 0
    · rw [h0]; rfl
    · rw [decide_eq_true (by omega), decide_eq_true (by omega)]; rfl
theorem inv_parts (q : Rat) (h : nu q ≠ 0) : ng q⁻¹ = ng q ∧ nu q⁻¹ = de q ∧ de q⁻¹ = nu q := by
  have e := is_mk q
  rw [← Rat.divInt_ofNat] at e
  have e2 : q⁻¹ = Rat.divInt (sI (ng q) (de q)) ((nu q : Nat) : Int) := by
    conv => lhs; rw [e, Rat.inv_divInt]
    cases ng q
    · rfl
    · rw [sI_true, sI_true, Rat.divInt_neg']
  rw [Rat.divInt_ofNat] at e2
  refine parts (by omega) (by rw [Nat.gcd_comm]; exact cop q) (fun _ => de_pos q) h rfl e2
end Go.Proofs.YtfmebfkdpfbjbaaGreatDoor.Big
