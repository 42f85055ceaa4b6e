/- Contracts, in this order: nat: QuoRem, Quo. · nat: QuoRem, Quo. · nat: QuoRem, Quo, at all numbers. · YtfmebfkdpfbjbaaGreatDoorLehm -/
import Derived.Test.YtfmebfkdpfbjbaaGreatDoorEkq14
import Derived.Test.YtfmebfkdpfbjbaaGreatDoorEkq10
namespace Go.Proofs.YtfmebfkdpfbjbaaGreatDoor
open Go.RowKit
theorem Blk.only {w w' : World} {g g' : Nat} {t : TypeId} {k : IntKind} {l : List Nat} (h : Blk w g t k l) (ho : Only g' w w') (hne : g ≠ g') : Blk w' g t k l :=
  (ho.block g h.lt (by intro e; injection e with e; exact hne e)).trans h
theorem shift_fits {r : List Nat} {t s : Nat} (or : Big.Ok Big.M64 r) (hs : s ≤ 63) (ht : t * 2 ^ s < Big.M64) : Big.val Big.M64 (r ++ [t]) * 2 ^ s < Big.M64 ^ (r.length + 1) := by
  have h1 := Big.val_lt r or
  have h2 : (t + 1) * 2 ^ s ≤ Big.M64 := by
    rw [e64 hs] at ht ⊢
    have h3 : t < 2 ^ (64 - s) := by
      rw [Nat.mul_comm (2 ^ s)] at ht
      exact Nat.lt_of_mul_lt_mul_right ht
    rw [Nat.mul_comm (2 ^ s)]
    exact Nat.mul_le_mul_right _ h3
  rw [Big.val_snoc]
  have h4 : Big.val Big.M64 r + Big.M64 ^ r.length * t < Big.M64 ^ r.length * (t + 1) := by
    generalize Big.M64 ^ r.length = P at *
    rw [Nat.mul_add]; omega
  have h5 : (Big.val Big.M64 r + Big.M64 ^ r.length * t) * 2 ^ s < Big.M64 ^ r.length * (t + 1) * 2 ^ s := Nat.mul_lt_mul_of_pos_right h4 (Nat.pow_pos (by omega))
  have h6 : Big.M64 ^ r.length * (t + 1) * 2 ^ s ≤ Big.M64 ^ r.length * Big.M64 := by
    rw [Nat.mul_assoc]; exact Nat.mul_le_mul_left _ h2
  rw [Nat.pow_succ]
  exact Nat.lt_of_lt_of_le h5 h6
theorem val_low {B : Nat} {Z : List Nat} {n : Nat} (hB : 0 < B) (hl : n ≤ Z.length) (h : Big.val B Z < B ^ n) : Big.val B Z = Big.val B (Z.take n) ∧ Big.val B (Z.drop n) = 0 := by
  have e := Big.val_take_drop (B := B) Z n hl
  have h0 : Big.val B (Z.drop n) = 0 := by
    rcases Nat.eq_zero_or_pos (Big.val B (Z.drop n)) with h0 | h0
    · exact h0
    · exfalso
      have : B ^ n * 1 ≤ B ^ n * Big.val B (Z.drop n) := Nat.mul_le_mul_left _ h0
      rw [Nat.mul_one] at this
      generalize B ^ n = P at *
      omega
  rw [h0, Nat.mul_zero, Nat.add_zero] at e
  exact ⟨e, h0⟩
theorem top_pos {Z : List Nat} {k : Nat} (oZ : Big.Ok Big.M64 Z) (hl : Z.length = k + 1) (h : Big.M64 ^ k ≤ Big.val Big.M64 Z) : 0 < Big.nth Z k := by
  rcases Nat.eq_zero_or_pos (Big.nth Z k) with h0 | h0
  · exfalso
    have e := Big.val_take_succ' (B := Big.M64) Z k
    rw [Big.val_take_all Z _ (by omega), h0, Nat.mul_zero, Nat.add_zero] at e
    have := Big.val_lt (Z.take k) (oZ.take k)
    rw [List.length_take, Nat.min_eq_left (by omega)] at this
    rw [e] at h
    exact Nat.lt_irrefl _ (Nat.lt_of_lt_of_le this h)
  · exact h0
theorem long_step {R Z zs zs' : List Nat} {i N D d : Nat} (oZ : Big.Ok Big.M64 Z) (hlen : Z.length = R.length) (hi : i + N + 1 ≤ Z.length) (hD : D < Big.M64 ^ N) (hsame : Z.take (i + 1) = R.take (i + 1))
    (hv : Big.val Big.M64 (R.drop (i + 1)) = Big.val Big.M64 zs * D + Big.val Big.M64 (Z.drop (i + 1))) (hlt : Big.val Big.M64 (Z.drop (i + 1)) < D) :
    Big.val Big.M64 ((Z.drop i).take (N + 1)) < Big.M64 * D ∧ Big.val Big.M64 (Z.drop (i + (N + 1))) = 0 ∧
      Big.val Big.M64 (R.drop i) = (Big.val Big.M64 zs * Big.M64) * D + Big.val Big.M64 ((Z.drop i).take (N + 1)) := by
  have eZ : Big.nth Z i = Big.nth R i := by
    have h1 := congrArg (fun l => Big.nth l i) hsame
    unfold Big.nth at h1 ⊢
    simp only [List.getD_eq_getElem?_getD] at h1 ⊢
    rw [List.getElem?_take_of_lt (by omega), List.getElem?_take_of_lt (by omega)] at h1
    exact h1
  have hX : Big.val Big.M64 (Z.drop i) = Big.nth Z i + Big.M64 * Big.val Big.M64 (Z.drop (i + 1)) := by
    rw [Big.drop_cons Z i (by omega)]; rfl
  have hx := oZ.nth Big.M64_pos i
  have hb : Big.val Big.M64 (Z.drop i) < Big.M64 * D := by
    have h1 : Big.M64 * (Big.val Big.M64 (Z.drop (i + 1)) + 1) ≤ Big.M64 * D := Nat.mul_le_mul_left _ hlt
    rw [Nat.mul_add] at h1
    rw [hX]
    generalize Big.M64 * Big.val Big.M64 (Z.drop (i + 1)) = A at *
    generalize Big.M64 * D = E at *
    omega
  have hb2 : Big.val Big.M64 (Z.drop i) < Big.M64 ^ (N + 1) := by
    refine Nat.lt_of_lt_of_le hb ?_
    rw [Nat.pow_succ, Nat.mul_comm]
    exact Nat.mul_le_mul_right _ (Nat.le_of_lt hD)
  obtain ⟨l1, l2⟩ := val_low (Z := Z.drop i) (n := N + 1) Big.M64_pos (by rw [List.length_drop]; omega) hb2
  rw [List.drop_drop] at l2
  refine ⟨by rw [← l1]; exact hb, l2, ?_⟩
  rw [Big.drop_cons R i (by omega), ← eZ, ← l1, hX]
  simp only [Big.val]
  rw [hv, Nat.mul_add, Nat.mul_right_comm, Nat.mul_comm Big.M64 (Big.val Big.M64 zs * D)]
  generalize Big.val Big.M64 zs * D * Big.M64 = A
  generalize Big.M64 * Big.val Big.M64 (Z.drop (i + 1)) = E
  omega
theorem long_next {Z zs zs' : List Nat} {i N D d X V : Nat} (hi : i + N + 1 ≤ Z.length) (hzl : zs'.length = N + 1) (h0 : Big.val Big.M64 (Z.drop (i + (N + 1))) = 0) (hD : 0 < D)
    (hd : d = X / D) (hz : Big.val Big.M64 zs' = X % D) (hR : V = (Big.val Big.M64 zs * Big.M64) * D + X) :
    V = Big.val Big.M64 (d :: zs) * D + Big.val Big.M64 ((Z.take i ++ (zs' ++ Z.drop (i + (N + 1)))).drop i) ∧ Big.val Big.M64 ((Z.take i ++ (zs' ++ Z.drop (i + (N + 1)))).drop i) < D := by
  have e1 : (Z.take i ++ (zs' ++ Z.drop (i + (N + 1)))).drop i = zs' ++ Z.drop (i + (N + 1)) := List.drop_left' (by rw [List.length_take]; omega)
  rw [e1, Big.val_append, h0, Nat.mul_zero, Nat.add_zero, hz]
  refine ⟨?_, Nat.mod_lt _ hD⟩
  have h := Nat.div_add_mod X D
  rw [← hd] at h
  rw [hR]
  simp only [Big.val]
  rw [Nat.add_mul, Nat.mul_comm Big.M64 (Big.val Big.M64 zs)]
  rw [Nat.mul_comm D d] at h
  generalize Big.val Big.M64 zs * Big.M64 * D = A
  generalize X % D = r at *
  generalize d * D = E at *
  omega
theorem long_start {R : List Nat} {X s K n1 lx D m : Nat} (hR : Big.val Big.M64 R = X * 2 ^ s) (hX : X < Big.M64 ^ lx) (hK : lx = K + n1) (hm : Big.M64 ^ n1 ≤ m) (hD : m * 2 ^ s = D) (hl : K ≤ R.length) : Big.val Big.M64 (R.drop K) < D := by
  have e := Big.val_take_drop (B := Big.M64) R K hl
  have h1 : X * 2 ^ s < Big.M64 ^ lx * 2 ^ s := Nat.mul_lt_mul_of_pos_right hX (Nat.pow_pos (by omega))
  have h2 : Big.M64 ^ lx * 2 ^ s ≤ Big.M64 ^ K * D := by
    rw [hK, Nat.pow_add, Nat.mul_assoc, ← hD]
    exact Nat.mul_le_mul_left _ (Nat.mul_le_mul_right _ hm)
  have h3 : Big.M64 ^ K * Big.val Big.M64 (R.drop K) < Big.M64 ^ K * D := by
    rw [hR] at e
    generalize Big.M64 ^ K = P at *
    generalize Big.M64 ^ lx = Q at *
    generalize P * Big.val Big.M64 (R.drop K) = A at *
    omega
  exact Nat.lt_of_mul_lt_mul_left h3
theorem long_end {R Z zs : List Nat} {X m s D : Nat} (hR : Big.val Big.M64 R = X * 2 ^ s) (hD : m * 2 ^ s = D) (hm : 0 < m) (hv : Big.val Big.M64 R = Big.val Big.M64 zs * D + Big.val Big.M64 Z) (hlt : Big.val Big.M64 Z < D) :
    Big.val Big.M64 zs = X / m ∧ Big.val Big.M64 Z / 2 ^ s = X % m := by
  have hp : 0 < 2 ^ s := Nat.pow_pos (by omega)
  have hD0 : 0 < D := by rw [← hD]; exact Nat.mul_pos hm hp
  have sd := Big.shift_div (X := X) (y := m) (s := s)
  rw [hD, ← hR, hv] at sd
  refine ⟨?_, ?_⟩
  · rw [← sd.1, Nat.mul_comm, Nat.mul_add_div hD0, Nat.div_eq_of_lt hlt, Nat.add_zero]
  · have h2 := sd.2
    rw [Nat.mul_comm, Nat.mul_add_mod, Nat.mod_eq_of_lt hlt] at h2
    rw [h2, Nat.mul_div_cancel _ hp]
end Go.Proofs.YtfmebfkdpfbjbaaGreatDoor
namespace Go.Proofs.YtfmebfkdpfbjbaaGreatDoor
open Go.RowKit
set_option maxRecDepth 100000 in
set_option maxHeartbeats 4000000 in
theorem quoRem_word (w : World) (v u : Value) (l : List Nat) (y : Nat) (hx : Wd w .u64 v l) (hy : Wd w .u64 u [y]) (ol : Big.Ok Big.M64 l) (nl : Big.Norm l) (hyM : y < Big.M64) (hy1 : 1 < y) (hl : l.length ≤ 1000000000) (hge : y ≤ Big.val Big.M64 l) :
    Calls Tryz.prog 116 #[v, u] w fun e w' => ∃ q r, e = .returned (.tuple #[q, r]) ∧ NatIn w' q (Big.val Big.M64 l / y) ∧ NatIn w' r (Big.val Big.M64 l % y) ∧ Below w.heap.size w w' := by
  have HX := Lib.hid hx; have HY := Lib.hid hy; have OL := Lib.hid ol; have NL := Lib.hid nl; have HYM := Lib.hid hyM
  have CC := Lib.hid (cmp_any w v u l [y] hx hy ol (Big.Ok.cons hyM Big.Ok.nil) nl (by simp [Big.Norm]; omega))
  have hcv : 0 ≤ Big.cmpI (Big.val Big.M64 l) (Big.val Big.M64 [y]) := by
    have e : Big.val Big.M64 [y] = y := by simp [Big.val]
    rw [e]; unfold Big.cmpI; rw [if_neg (by omega)]; split <;> omega
  have CI := Lib.hid (fun W (h : Drew w W) => isOne_any W u [y] (hy.drew h))
  have e1 : decide ([y] = [1]) = false := decide_eq_false (by intro e; injection e with e; omega)
  rw [e1] at CI
  have CK := Lib.hid (fun W (h : Drew w W) => clone_any W v l (hx.drew h) (by omega))
  obtain ⟨A, c, rfl, -, -, -⟩ := hx
  obtain ⟨A2, c2, rfl, -, hc2, h3⟩ := hy
  obtain ⟨b, o, rfl, hblt, hcc, -⟩ := h3 (by simp)
  have hcell : w.cell? ⟨b, o, none⟩ = some (.int .u64 (y : Int)) := hcc 0 (by simp)
  have HC := Lib.hid hcell
  generalize Big.cmpI (Big.val Big.M64 l) (Big.val Big.M64 [y]) = cv at *
  have t0 : ¬ (cv < 0) := by omega
  have H1 := Lib.hid hy1
  clear hcc h3 e1 hcell hge hyM hcv ol nl hy1
  go_enter Tryz.func116, Tryz.ntmps116
  go_wp2_with fail
  refine CC.out.mono ?_
  rintro e w1 ⟨rfl, hd⟩
  have HD := Lib.hid hd
  clear hd
  go_wp2_with fail
  refine (CI.out _ HD.out).mono ?_
  rintro e w1' ⟨rfl, rfl⟩
  go_wp2_with fail
  refine (CK.out _ HD.out).mono ?_
  rintro e w2 ⟨rfl, hB, hbel⟩
  have hc2' : w2.cell? ⟨b, o, none⟩ = some (.int .u64 (y : Int)) := (hbel.cell (p := ⟨b, o, none⟩) (by rw [HD.out.heap]; exact hblt)).trans ((HD.out.cell _).trans HC.out)
  have HB := Lib.hid hB; have HBel := Lib.hid hbel
  clear hB hbel
  go_wp2_with fail
  refine (quoWord_any w2 w1.heap.size l.length (l.length + 1) y (l ++ [0]) HB.out (by simp) (by omega) (OL.out.append (Big.Ok.cons Big.M64_pos Big.Ok.nil)) (by have := H1.out; omega) HYM.out (by omega)).mono ?_
  rintro e w3 ⟨q, zs, rfl, hq, hzl, hzo, hzv, hzb, hzw⟩
  rw [List.take_left' rfl] at hzv
  have HZ := Lib.hid (And.intro hq (And.intro hzl (And.intro hzo (And.intro hzv (And.intro hzb hzw)))))
  clear hq hzl hzo hzv hzb hzw
  go_wp2_with fail
  refine (trim_any w3 _ zs ?_).mono ?_
  · have h1 := HZ.out.2.2.2.2.1.wd 0 l.length (l.length + 1) (by have := HZ.out.2.1; simp; omega) (by omega) (by omega)
    rw [List.drop_zero, List.take_left' HZ.out.2.1] at h1
    exact h1
  rintro e w3' ⟨v', rfl, hv', rfl⟩
  have HV := Lib.hid hv'
  clear hv'
  go_wp2_with fail
  refine (natOf_any w3 q).mono ?_
  rintro e w4 ⟨u', rfl, hu', hb4⟩
  have HU := Lib.hid hu'; have HB4 := Lib.hid hb4
  clear hu' hb4
  go_wp2
  go_ret2
  have Z := HZ.out
  have hy0 : 0 < y := by have := H1.out; omega
  refine ⟨v', u', rfl, ⟨Big.strip zs, HV.out.keep HB4.out, Big.strip_ok Z.2.2.1, Big.strip_norm _, ?_⟩, ⟨_, HU.out, ?_, ?_, ?_⟩, ?_⟩
  · rw [Big.strip_val, Z.2.2.2.1, Nat.mul_comm, Nat.mul_add_div hy0, Nat.div_eq_of_lt Z.1, Nat.add_zero]
  · split
    · exact Big.Ok.nil
    · exact Big.Ok.cons (Nat.lt_trans Z.1 HYM.out) Big.Ok.nil
  · split
    · exact Big.norm_nil
    · simpa [Big.Norm]
  · rw [Z.2.2.2.1, Nat.mul_comm, Nat.mul_add_mod, Nat.mod_eq_of_lt Z.1]
    split
    · rename_i h; rw [h]; rfl
    · simp [Big.val]
  · have hs : w1.heap.size = w.heap.size := by rw [HD.out.heap]
    have b2 : Below w.heap.size w w2 := (HD.out.below _).trans (HBel.out.mono (by omega))
    have b3 : Below w.heap.size w w3 := Z.2.2.2.2.2.below b2 (by omega) b2.size
    exact b3.trans (HB4.out.mono b3.size)
set_option maxRecDepth 100000 in
set_option maxHeartbeats 8000000 in
theorem quoRem_long (w : World) (v u : Value) (l m : List Nat) (N n1 n2 : Nat) (hx : Wd w .u64 v l) (hy : Wd w .u64 u m) (ol : Big.Ok Big.M64 l) (nl : Big.Norm l) (om : Big.Ok Big.M64 m) (nm : Big.Norm m)
    (hm : m.length = N) (h1 : n1 + 1 = N) (h2 : n2 + 2 = N) (hl : l.length ≤ 100000000) (hge : Big.val Big.M64 m ≤ Big.val Big.M64 l) :
    Calls Tryz.prog 116 #[v, u] w fun e w' => ∃ q r, e = .returned (.tuple #[q, r]) ∧ NatIn w' q (Big.val Big.M64 l / Big.val Big.M64 m) ∧ NatIn w' r (Big.val Big.M64 l % Big.val Big.M64 m) ∧ Below w.heap.size w w' ∧ ∃ g c, w.heap.size ≤ g ∧ N + 1 ≤ c ∧ OwnNat w' r g c (Big.val Big.M64 l % Big.val Big.M64 m) := by
  have hml : m.length ≤ l.length := Big.length_le Big.M64_pos nm ol hge
  obtain ⟨rt, t, ert, ht0⟩ := norm_last nm (by intro e; rw [e] at hm; simp at hm; omega)
  have htM : t < Big.M64 := om t (by rw [ert]; simp)
  have hrt : rt.length = n1 := by have := congrArg List.length ert; simp at this; omega
  have hnt : Big.nth m n1 = t := by rw [ert]; unfold Big.nth; rw [List.getD_eq_getElem?_getD, List.getElem?_append_right (by omega), hrt, Nat.sub_self]; rfl
  obtain ⟨s1, s2, s3⟩ := lzn_bd t (by rw [← Big.M64_eq]; exact htM) ht0
  have hfit : Big.val Big.M64 m * 2 ^ lzn t < Big.M64 ^ N := by
    have := shift_fits (r := rt) (t := t) (s := lzn t) (fun d hd => om d (by rw [ert]; simp [hd])) s1 (by rw [Big.M64_eq]; exact s3)
    rw [← ert, hrt, h1] at this
    exact this
  have CC := Lib.hid (cmp_any w v u l m hx hy ol om nl nm)
  have hcv : 0 ≤ Big.cmpI (Big.val Big.M64 l) (Big.val Big.M64 m) := by
    unfold Big.cmpI; rw [if_neg (by omega)]; split <;> omega
  have CI := Lib.hid (fun W (h : Drew w W) => isOne_any W u m (hy.drew h))
  have e1 : decide (m = [1]) = false := decide_eq_false (by intro e; rw [e] at hm; simp at hm; omega)
  rw [e1] at CI
  have CZ := Lib.hid (lzn_any t (by rw [← Big.M64_eq]; exact htM) ht0)
  generalize lzn t = s at *
  have HX := Lib.hid hx; have HY := Lib.hid hy; have OL := Lib.hid ol; have NL := Lib.hid nl; have OM := Lib.hid om; have NM := Lib.hid nm
  obtain ⟨A, c, rfl, -, -, -⟩ := hx
  obtain ⟨A2, c2, rfl, -, hc2, h3⟩ := hy
  obtain ⟨b, o, rfl, hblt, hcc, -⟩ := h3 (by omega)
  have hcell := hcc n1 (by omega)
  rw [hnt] at hcell
  generalize Big.cmpI (Big.val Big.M64 l) (Big.val Big.M64 m) = cv at *
  have t0 : ¬ (cv < 0) := by omega
  have HH := Lib.hid (And.intro hfit (And.intro hm (And.intro hml (And.intro h1 (And.intro h2 (And.intro s1 hge))))))
  have HM0 := Lib.hid (show Big.M64 ^ n1 ≤ Big.val Big.M64 m by have := Big.norm_ge (B := Big.M64) m nm (by intro e; rw [e] at hm; simp at hm; omega); rwa [hm, ← h1, Nat.add_sub_cancel] at this)
  rw [hm] at CC CI HY ⊢
  have g1 : ((N : Int) == 0) = false := beq_eq_false_iff_ne.2 (by omega)
  have g2 : ((N : Int) == 1) = false := beq_eq_false_iff_ne.2 (by omega)
  have i1 : (N : Int) - 1 = (n1 : Int) := by omega
  have j1 : (n1 : Int) < (N : Int) := by omega
  have j2 : (N : Int) ≤ (l.length : Int) := by omega
  have j3 : N ≤ l.length := by omega
  have HC := Lib.hid hcell
  clear hcc h3 e1 hcell hge hcv ol nl om nm s2 s3 hfit hml hm h1 h2 ert hnt hrt htM ht0
  obtain ⟨i0, hi, hz0, hz1, hz2⟩ := info_parts Tryz.infoU64
  go_enter Tryz.func116, Tryz.ntmps116
  go_wp2_with fail
  refine CC.out.mono ?_
  rintro e w1 ⟨rfl, hd⟩
  have HD := Lib.hid hd
  have hcl1 := (hd.cell ⟨b, o + n1, none⟩).trans HC.out
  clear hd
  go_wp2_with fail
  refine (CI.out _ HD.out).mono ?_
  rintro e w1' ⟨rfl, rfl⟩
  go_wp2_with fail
  refine (CZ.out _).mono ?_
  rintro e w1' ⟨rfl, rfl⟩
  go_wp2_with fail
  refine (shifted_any w1 _ m s ?_ OM.out HH.out.2.2.2.2.2.1 (by have := HH.out.2.1; omega)).mono ?_
  · exact HY.out.drew HD.out
  rintro e w2 ⟨rfl, Zd, hzb, hzl, hzo, hzv, hbel⟩
  have HZD := Lib.hid (And.intro hzb (And.intro hzl (And.intro hzo (And.intro hzv hbel))))
  rw [HH.out.2.1]
  clear hzb hzl hzo hzv hbel
  go_wp2_with fail
  have hws : w1.heap.size = w.heap.size := by rw [HD.out.heap]
  have HWS := Lib.hid hws
  refine (shifted_any w2 _ l s ((HX.out.drew HD.out).keep HZD.out.2.2.2.2) OL.out HH.out.2.2.2.2.2.1 (by omega)).mono ?_
  rintro e w3 ⟨rfl, Zr, hzb, hzl, hzo, hzv, hbel⟩
  have hs12 : w1.heap.size < w2.heap.size := HZD.out.1.lt
  have hs23 : w2.heap.size < w3.heap.size := hzb.lt
  have HS12 := Lib.hid hs12; have HS23 := Lib.hid hs23
  have HZR := Lib.hid (And.intro hzb (And.intro hzl (And.intro hzo (And.intro hzv hbel))))
  have hmk := fun W => make_words (P := Tryz.prog) Tryz.underlying69 hi hz0 hz1 (by rw [hz2]; omega) .i64 .i64 (l.length - N + 1) (l.length - N + 1) (Nat.le_refl _) (by omega) W
  rw [show ((l.length - N + 1 : Nat) : Int) = (l.length : Int) - (N : Int) + 1 by omega] at hmk
  have HBQ := Lib.hid (Blk.new w3 95 .u64 (List.replicate (l.length - N + 1) 0))
  have HBel3 := Lib.hid ((Below.refl w3.heap.size w3).alloc (Nat.le_refl _) (.cells (cellsOf .u64 (List.replicate (l.length - N + 1) 0)) 95))
  clear hzb hzl hzo hzv hbel hws hs12 hs23 hcl1
  go_wp2_with fail
  clear hmk
  obtain ⟨K, hK⟩ : ∃ K, l.length - N + 1 = K := ⟨_, rfl⟩
  obtain ⟨D, hDD⟩ : ∃ D, Big.val Big.M64 m * 2 ^ s = D := ⟨_, rfl⟩
  have HKK := Lib.hid hK
  have HDD := Lib.hid hDD
  have hn1K : l.length = K + n1 := by have := HH.out.2.2.2.1; omega
  have hlD := val_low (Z := Zd) (n := N) Big.M64_pos (by have := HZD.out.2.1; have := HH.out.2.1; omega) (by rw [HZD.out.2.2.2.1]; exact HH.out.1)
  rw [HZD.out.2.2.2.1, hDD] at hlD
  have hDl : (Zd.take N).length = N := by rw [List.length_take]; have := HZD.out.2.1; have := HH.out.2.1; omega
  have hDo : Big.Ok Big.M64 (Zd.take N) := HZD.out.2.2.1.take N
  have hDp : 0 < Big.nth (Zd.take N) n1 := top_pos hDo (by rw [hDl]; exact HH.out.2.2.2.1.symm) (by
    rw [← hlD.1, ← hDD]
    exact Nat.le_trans HM0.out (Nat.le_mul_of_pos_right _ (Nat.pow_pos (by omega))))
  have hm0 : 0 < Big.val Big.M64 m := Nat.lt_of_lt_of_le (Nat.pow_pos Big.M64_pos) HM0.out
  have hD0 : 0 < D := by rw [← hDD]; exact Nat.mul_pos hm0 (Nat.pow_pos (by omega))
  have hst0 := long_start HZR.out.2.2.2.1 (Big.val_lt l OL.out) hn1K HM0.out hDD (by have := HZR.out.2.1; omega)
  have HK2 := Lib.hid (And.intro hn1K (And.intro hlD.1 (And.intro hDl (And.intro hDo (And.intro hDp (And.intro hm0 hD0))))))
  have HST0 := Lib.hid hst0
  have hDN : D < Big.M64 ^ N := by rw [← hDD]; exact HH.out.1
  have HDN := Lib.hid hDN
  have HWD0 := Lib.hid (show WdB w2.heap.size w3 .u64 (.slice (some ⟨w1.heap.size, 0, none⟩) N (N + 1)) (Zd.take N) by
    have h1 := HZD.out.1.wd 0 N (N + 1) (by have := HZD.out.2.1; have := HH.out.2.1; omega) (by omega) (by omega)
    rw [List.drop_zero] at h1
    exact h1.wdB.below HZR.out.2.2.2.2)
  clear hDD hn1K hlD hDl hDo hDp hm0 hD0 hst0 hDN
  rw [hK] at HBQ HBel3 ⊢
  clear hK
  go_loopw [10] (fun i wr => ∃ (k : Nat) (Z zs : List Nat), k ≤ K ∧ i = .int .i64 ((k : Int) - 1) ∧
      Hid (Big.Ok Big.M64 Z ∧ Z.length = l.length + 1 ∧ Z.take k = Zr.take k ∧ Big.val Big.M64 (Zr.drop k) = Big.val Big.M64 zs * D + Big.val Big.M64 (Z.drop k) ∧ Big.val Big.M64 (Z.drop k) < D ∧ zs.length = K - k ∧ Big.Ok Big.M64 zs) ∧
      Hid (Blk wr w2.heap.size 95 .u64 Z) ∧ Hid (Blk wr w3.heap.size 95 .u64 (List.replicate k 0 ++ zs)) ∧
      Hid (WdB w2.heap.size wr .u64 (.slice (some ⟨w1.heap.size, 0, none⟩) N (N + 1)) (Zd.take N)) ∧ Hid (Below w.heap.size w wr))
    (fun i _ => (intOf i + 1).toNat)
  case atStart =>
    refine ⟨K, Zr, [], Nat.le_refl _, ?_, Lib.hid ⟨HZR.out.2.2.1, HZR.out.2.1, rfl, by simp [Big.val], HST0.out, by simp, Big.Ok.nil⟩, Lib.hid ?_, Lib.hid ?_, Lib.hid ?_, Lib.hid ?_⟩
    · congr 1; have := HKK.out; omega
    · exact HZR.out.1.alloc' _
    · simpa using HBQ.out
    · exact HWD0.out.below (HBel3.out.mono (Nat.le_of_lt HS23.out))
    · have b2 : Below w.heap.size w w2 := (HD.out.below _).trans (HZD.out.2.2.2.2.mono (by have := HWS.out; omega))
      have b3 : Below w.heap.size w w3 := b2.trans (HZR.out.2.2.2.2.mono b2.size)
      exact b3.trans (HBel3.out.mono b3.size)
  case round =>
    obtain ⟨k, Z, zs, hk, rfl, HZ, HBZ, HBz, HWD, HBel⟩ := hrel
    rcases Nat.eq_zero_or_pos k with rfl | hp
    · have Z' := HZ.out
      have hv := Z'.2.2.2.1
      rw [List.drop_zero, List.drop_zero] at hv
      have hlt := Z'.2.2.2.2.1
      rw [List.drop_zero] at hlt
      have E := long_end HZR.out.2.2.2.1 HDD.out HK2.out.2.2.2.2.2.1 hv hlt
      have HE := Lib.hid E
      clear Z' hv hlt E
      go_wp2_with fail
      have hzK : zs.length = K := by have := HZ.out.2.2.2.2.2.1; omega
      have hB3 := HBz.out
      rw [List.replicate_zero, List.nil_append] at hB3
      have HTR := Lib.hid (trim_slice wr (some ⟨w3.heap.size, 0, none⟩) K zs (hB3.wd0 K (by omega) (by have := HKK.out; omega)))
      rw [hzK] at HTR
      have HB3 := Lib.hid (And.intro hB3 hzK)
      clear hzK hB3
      refine HTR.out.mono ?_
      · rintro e w4 ⟨rfl, rfl⟩
        go_wp2_with fail
        refine (shiftedBack_any _ w2.heap.size (l.length + 1) (l.length + 1) s Z [] (by rw [List.append_nil]; exact HBZ.out) HZ.out.2.1 (Nat.le_refl _) (by omega) HZ.out.1 HH.out.2.2.2.2.2.1).mono ?_
        rintro e w5 ⟨u', rfl, hu', hO, hOwn⟩
        have HOwn := Lib.hid (hOwn rfl (Nat.le_refl _))
        have HU := Lib.hid hu'; have HO := Lib.hid hO
        clear hu' hO hOwn
        go_wp2
        go_ret2
        have hw2 : w.heap.size ≤ w2.heap.size := by have := HWS.out; have := HS12.out; omega
        have hB5 : Blk w5 w3.heap.size 95 .u64 zs := HB3.out.1.only HO.out (by have := HS23.out; omega)
        have hW5 := hB5.wd 0 (Big.strip zs).length K (by have := Big.strip_len zs; omega) (by have := Big.strip_len zs; have := HB3.out.2; omega) (by have := HKK.out; omega)
        rw [List.drop_zero, ← Big.strip_take_self] at hW5
        exact ⟨_, u', rfl, ⟨Big.strip zs, hW5, Big.strip_ok HZ.out.2.2.2.2.2.2, Big.strip_norm _, by rw [Big.strip_val]; exact HE.out.1⟩, by rw [← HE.out.2]; exact HU.out, HO.out.below HBel.out hw2 HBel.out.size, w2.heap.size, l.length + 1, hw2, by have := HH.out.2.2.1; have := HH.out.2.1; omega, by rw [← HE.out.2]; exact HOwn.out⟩
    · obtain ⟨j, rfl⟩ : ∃ j, k = j + 1 := ⟨k - 1, by omega⟩
      rw [show (((j + 1 : Nat) : Int) - 1) = (j : Int) by omega]
      have hkk := HKK.out
      have q1 : (0 : Int) ≤ (j : Int) + N + 1 := by omega
      have q2 : (j : Int) + N + 1 ≤ (l.length : Int) + 1 := by omega
      have q3 : (j : Int) ≤ (j : Int) + N + 1 := by omega
      have q4 : ((j : Int) + N + 1).toNat = j + N + 1 := by omega
      have q5 : ¬ (l.length + 1 = j) := by omega
      have q6 : (j : Int) < (K : Int) := by omega
      have q7 : j + N + 1 - j = N + 1 := by omega
      have Z' := HZ.out
      have hj1 : j + N + 1 ≤ Z.length := by rw [Z'.2.1]; omega
      have S1 := long_step (R := Zr) (Z := Z) (zs := zs) (zs' := zs) (d := 0) (i := j) (N := N) (D := D) Z'.1 (by rw [Z'.2.1, HZR.out.2.1]) hj1 HDN.out Z'.2.2.1 Z'.2.2.2.1 Z'.2.2.2.2.1
      have S2 := S1.1
      rw [HK2.out.2.1] at S2
      have HT := Lib.hid (takeDigit_any wr w2.heap.size j N n1 n2 (l.length + 1 - j) Z (Zd.take N) _ HBZ.out hj1 (by omega) HH.out.2.2.2.1 HH.out.2.2.2.2.1 Z'.1 HWD.out HK2.out.2.2.1 HK2.out.2.2.2.1 HK2.out.2.2.2.2.1 S2 (by omega))
      rw [← HK2.out.2.1] at HT
      have HS1 := Lib.hid S1
      clear hkk Z' hj1 S1 S2
      go_wp2_with fail
      refine HT.out.mono ?_
      rintro e w4 ⟨d, zn, rfl, hdM, hzl, hzo, hdq, hzr, hzb, hzw⟩
      have hjk : j + N + 1 ≤ Z.length := by rw [HZ.out.2.1]; have := HKK.out; omega
      have LN := long_next (Z := Z) (zs := zs) (zs' := zn) (i := j) (N := N) (D := D) (d := d) hjk hzl HS1.out.2.1 HK2.out.2.2.2.2.2.2 hdq hzr HS1.out.2.2
      have hB3 : Blk w4 w3.heap.size 95 .u64 (List.replicate (j + 1) 0 ++ zs) := HBz.out.only hzw (by have := HS23.out; omega)
      have hst := hB3.cell j (by simp; omega)
      have hfr := hB3.frozen j
      have HB3' := Lib.hid (hB3.set j d)
      have HZ2 := Lib.hid (show Big.Ok Big.M64 (Z.take j ++ (zn ++ Z.drop (j + (N + 1)))) ∧ (Z.take j ++ (zn ++ Z.drop (j + (N + 1)))).length = l.length + 1 ∧ (Z.take j ++ (zn ++ Z.drop (j + (N + 1)))).take j = Zr.take j ∧
          Big.val Big.M64 (Zr.drop j) = Big.val Big.M64 (d :: zs) * D + Big.val Big.M64 ((Z.take j ++ (zn ++ Z.drop (j + (N + 1)))).drop j) ∧ Big.val Big.M64 ((Z.take j ++ (zn ++ Z.drop (j + (N + 1)))).drop j) < D ∧ (d :: zs).length = K - j ∧ Big.Ok Big.M64 (d :: zs) from
        ⟨(HZ.out.1.take _).append (hzo.append (HZ.out.1.drop _)), by rw [← HZ.out.2.1]; simp [hzl]; omega, by
          rw [mid_take (by omega)]
          have := congrArg (List.take j) HZ.out.2.2.1
          rwa [List.take_take, List.take_take, Nat.min_eq_left (by omega)] at this, LN.1, LN.2, by simp [HZ.out.2.2.2.2.2.1]; omega, Big.Ok.cons hdM HZ.out.2.2.2.2.2.2⟩)
      have HBZ2 := Lib.hid hzb
      have HWD2 := Lib.hid (hzw.wdB (Nat.le_refl _) (Nat.le_of_lt HBZ.out.lt) HWD.out)
      have hw2 : w.heap.size ≤ w2.heap.size := by have := HWS.out; have := HS12.out; omega
      have HBel2 := Lib.hid (hzw.below HBel.out hw2 HBel.out.size)
      have HW2 := Lib.hid hw2
      clear hdM hzl hzo hdq hzr hzb hzw LN hB3 hjk hw2 HT
      go_wp2
      go_roundw
      case rel =>
        refine ⟨j, _, d :: zs, by omega, by go_num, HZ2, Lib.hid (HBZ2.out.far (p := ⟨w3.heap.size, j, none⟩) (by have := HS23.out; show w2.heap.size ≠ w3.heap.size; omega) _), Lib.hid ?_, Lib.hid (HWD2.out.keep fun b hb => ?_), Lib.hid (HBel2.out.setCell (by have := HS23.out; have := HW2.out; show w.heap.size ≤ w3.heap.size; omega) _)⟩
        · have h1 := HB3'.out
          have h2 : (List.replicate (j + 1) 0 ++ zs).set j d = List.replicate j 0 ++ d :: zs := by
            rw [List.replicate_succ', List.append_assoc, set_at (List.replicate j 0) _ j d (by simp)]; simp
          rw [h2] at h1
          exact h1
        · exact heap_setCell_other _ _ b _ (by show b ≠ w3.heap.size; have := HS23.out; omega)
      case measure => simp [intOf]
end Go.Proofs.YtfmebfkdpfbjbaaGreatDoor
namespace Go.Proofs.YtfmebfkdpfbjbaaGreatDoor
open Go.RowKit
set_option maxRecDepth 100000 in
set_option maxHeartbeats 2000000 in
theorem quoRem_any (w : World) (v u : Value) (n m : Nat) (h : NatIn w v n) (k : NatIn w u m) (hn : n < Big.M64 ^ Big.KL) :
    Calls Tryz.prog 116 #[v, u] w fun e w' => ∃ q r, e = .returned (.tuple #[q, r]) ∧ NatIn w' q (n / m) ∧ NatIn w' r (n % m) ∧ Below w.heap.size w w' := by
  have HN := Lib.hid h
  obtain ⟨l, hx, ol, nl, rfl⟩ := h
  obtain ⟨r, hy, or, nr, rfl⟩ := k
  have hl := len_of_lt nl hn
  rw [Big.KL_eq] at hl
  by_cases r0 : r = []
  · subst r0
    have e : Big.val Big.M64 [] = 0 := rfl
    rw [e, Nat.div_zero, Nat.mod_zero]
    obtain ⟨A, c, rfl, -, -, -⟩ := hx
    obtain ⟨A2, c2, rfl, -, -, -⟩ := hy
    clear ol nl or nr hn
    go_enter Tryz.func116, Tryz.ntmps116
    go_wp2_with fail
    go_ret2
    exact ⟨_, _, rfl, NatIn.nil_ _, HN.out, Below.refl _ _⟩
  have rl : 0 < r.length := List.length_pos_iff.2 r0
  rcases Nat.lt_or_ge (Big.val Big.M64 l) (Big.val Big.M64 r) with hlt | hge
  · have CC := Lib.hid (cmp_any w v u l r hx hy ol or nl nr)
    rw [Big.cmpI_lt hlt] at CC
    rw [Nat.div_eq_of_lt hlt, Nat.mod_eq_of_lt hlt]
    obtain ⟨A, c, rfl, -, -, -⟩ := hx
    obtain ⟨A2, c2, rfl, -, -, -⟩ := hy
    have g1 : ((r.length : Int) == 0) = false := beq_eq_false_iff_ne.2 (by omega)
    clear ol nl or nr hn hlt r0
    go_enter Tryz.func116, Tryz.ntmps116
    go_wp2_with fail
    refine CC.out.mono ?_
    rintro e w1 ⟨rfl, hd⟩
    have HD := Lib.hid hd
    clear hd
    go_wp2_with fail
    go_ret2
    exact ⟨_, _, rfl, NatIn.nil_ _, HN.out.drew HD.out, HD.out.below _⟩
  by_cases r1 : r = [1]
  · subst r1
    have e : Big.val Big.M64 [1] = 1 := by simp [Big.val]
    have CC := Lib.hid (cmp_any w v u l [1] hx hy ol or nl nr)
    have hcv : 0 ≤ Big.cmpI (Big.val Big.M64 l) (Big.val Big.M64 [1]) := by
      unfold Big.cmpI; rw [if_neg (by omega)]; split <;> omega
    have CI := Lib.hid (fun W (h : Drew w W) => isOne_any W u [1] (hy.drew h))
    rw [e, Nat.div_one, Nat.mod_one]
    obtain ⟨A, c, rfl, -, -, -⟩ := hx
    obtain ⟨A2, c2, rfl, -, -, -⟩ := hy
    generalize Big.cmpI (Big.val Big.M64 l) (Big.val Big.M64 [1]) = cv at *
    have t0 : ¬ (cv < 0) := by omega
    clear ol nl or nr hn hge r0 e hcv
    go_enter Tryz.func116, Tryz.ntmps116
    go_wp2_with fail
    refine CC.out.mono ?_
    rintro e w1 ⟨rfl, hd⟩
    have HD := Lib.hid hd
    clear hd
    go_wp2_with fail
    refine (CI.out _ HD.out).mono ?_
    rintro e w1' ⟨rfl, rfl⟩
    go_wp2_with fail
    go_ret2
    exact ⟨_, _, rfl, HN.out.drew HD.out, NatIn.nil_ _, HD.out.below _⟩
  rcases Nat.lt_or_ge r.length 2 with h2 | h2
  · obtain ⟨y, rfl⟩ := List.length_eq_one_iff.1 (show r.length = 1 by omega)
    have e : Big.val Big.M64 [y] = y := by simp [Big.val]
    rw [e] at hge ⊢
    have y0 : y ≠ 0 := by intro e; subst e; simp [Big.Norm] at nr
    have y1 : y ≠ 1 := by intro e; subst e; exact r1 rfl
    exact quoRem_word w v u l y hx hy ol nl or.head (by omega) (by omega) hge
  · exact (quoRem_long w v u l r r.length (r.length - 1) (r.length - 2) hx hy ol nl or nr rfl (by omega) (by omega) hl hge).mono fun _ _ ⟨q, r, h1, h2, h3, h4, _⟩ => ⟨q, r, h1, h2, h3, h4⟩
theorem quo_any (w : World) (v u : Value) (n m : Nat) (h : NatIn w v n) (k : NatIn w u m) (hn : n < Big.M64 ^ Big.KL) :
    Calls Tryz.prog 110 #[v, u] w fun e w' => ∃ q, e = .returned q ∧ NatIn w' q (n / m) ∧ Below w.heap.size w w' := by
  have C := Lib.hid (quoRem_any w v u n m h k hn)
  clear h k hn
  go_enter Tryz.func110, Tryz.ntmps110
  go_wp2_with fail
  refine C.out.mono ?_
  rintro e w1 ⟨q, r, rfl, hq, -, hb⟩
  have HQ := Lib.hid hq; have HB := Lib.hid hb
  clear hq hb
  go_wp2
  go_ret
  exact ⟨q, rfl, HQ.out, HB.out⟩
end Go.Proofs.YtfmebfkdpfbjbaaGreatDoor
namespace Go.Proofs.YtfmebfkdpfbjbaaGreatDoor
namespace Big
structure Lehm (x0 y0 x y p q r s : Nat) (t : Bool) : Prop where
  hx : x0 = s * x + q * y
  hy : y0 = r * x + p * y
  dn : t = false → p * s = q * r + 1
  dt : t = true → q * r = p * s + 1
  rs : r ≤ s
  pq : p + r ≤ q + s
  s1 : 1 ≤ s
theorem Lehm.start (x0 y0 : Nat) : Lehm x0 y0 x0 y0 1 0 0 1 false :=
  ⟨by omega, by omega, fun _ => by omega, fun h => by simp at h, by omega, by omega, by omega⟩
theorem Lehm.step {x0 y0 x y p q r s Q m : Nat} {t : Bool} (h : Lehm x0 y0 x y p q r s t) (hd : x = Q * y + m) (hQ : 1 ≤ Q) :
    Lehm x0 y0 y m r s (p + Q * r) (q + Q * s) (!t) := by
  obtain ⟨hx, hy, dn, dt, rs, pq, s1⟩ := h
  obtain ⟨Q, rfl⟩ : ∃ P, Q = P + 1 := ⟨Q - 1, by omega⟩
  have e1 : Q * r ≤ Q * s := Nat.mul_le_mul_left Q rs
  have e2 : (Q + 1) * r = Q * r + r := Nat.succ_mul Q r
  have e3 : (Q + 1) * s = Q * s + s := Nat.succ_mul Q s
  refine ⟨by subst hd; subst hx; grind, by subst hd; subst hy; grind, ?_, ?_, ?_, ?_, ?_⟩
  · intro ht
    have := dt (by cases t <;> simp_all)
    grind
  · intro ht
    have := dn (by cases t <;> simp_all)
    grind
  · rw [e2, e3]; omega
  · rw [e2, e3]; omega
  · rw [e3]; omega
theorem Lehm.small {x0 y0 x y p q r s : Nat} {t : Bool} (h : Lehm x0 y0 x y p q r s t) (hx : 1 ≤ x) : s ≤ x0 ∧ r ≤ x0 := by
  have := h.hx
  have h1 : s * 1 ≤ s * x := Nat.mul_le_mul_left s hx
  have := h.rs
  constructor <;> omega
theorem Lehm.small2 {x0 y0 x y p q r s : Nat} {t : Bool} (h : Lehm x0 y0 x y p q r s t) (hx : 1 ≤ x) (hy : 1 ≤ y) : q + s ≤ x0 := by
  have := h.hx
  have h1 : s * 1 ≤ s * x := Nat.mul_le_mul_left s hx
  have h2 : q * 1 ≤ q * y := Nat.mul_le_mul_left q hy
  omega
structure Made (a b a' b' p q r s : Nat) (t : Bool) : Prop where
  an : t = false → p * a = q * b + a'
  bn : t = false → s * b = r * a + b'
  at_ : t = true → q * b = p * a + a'
  bt : t = true → r * a = s * b + b'
  ha : a = s * a' + q * b'
  hb : b = r * a' + p * b'
  lt : b' < a'
theorem Lehm.made {x0 y0 x y p q r s K α β : Nat} {t : Bool} (h : Lehm x0 y0 x y p q r s t) (hα : α < K) (hβ : β < K)
    (c1 : s ≤ y) (c2 : q + s + y ≤ x) : ∃ a' b', Made (x0 * K + α) (y0 * K + β) a' b' p q r s t := by
  obtain ⟨hx, hy, dn, dt, rs, pq, s1⟩ := h
  have k1 : s * α ≤ s * K := Nat.mul_le_mul_left s (by omega)
  have k2 : s * β ≤ s * K := Nat.mul_le_mul_left s (by omega)
  have k3 : r * α ≤ s * α := Nat.mul_le_mul_right α rs
  have k4 : s * K ≤ y * K := Nat.mul_le_mul_right K c1
  have k5 : (q + s + y) * K ≤ x * K := Nat.mul_le_mul_right K c2
  have k6 : (q + s) * (β + 1) ≤ (q + s) * K := Nat.mul_le_mul_left (q + s) hβ
  have k7 : (q + s) * (α + 1) ≤ (q + s) * K := Nat.mul_le_mul_left (q + s) hα
  have k8 : (p + r) * α ≤ (q + s) * α := Nat.mul_le_mul_right α pq
  simp only [Nat.add_mul, Nat.mul_add, Nat.mul_one] at k5 k6 k7 k8
  cases t with
  | false =>
    have d := dn rfl
    have f1 : p * x0 = q * y0 + x := by subst hx; subst hy; grind
    have f2 : s * y0 = r * x0 + y := by subst hx; subst hy; grind
    refine ⟨x * K + p * α - q * β, y * K + s * β - r * α, ?_⟩
    obtain ⟨a', ha'⟩ : ∃ a', a' + q * β = x * K + p * α := ⟨x * K + p * α - q * β, by omega⟩
    obtain ⟨b', hb'⟩ : ∃ b', b' + r * α = y * K + s * β := ⟨y * K + s * β - r * α, by omega⟩
    have e1 : x * K + p * α - q * β = a' := by omega
    have e2 : y * K + s * β - r * α = b' := by omega
    rw [e1, e2]
    have g1 : p * (x0 * K + α) = q * (y0 * K + β) + a' := by grind
    have g2 : s * (y0 * K + β) = r * (x0 * K + α) + b' := by grind
    have g3 : b' < a' := by omega
    clear ha' hb' e1 e2 k1 k2 k3 k4
    refine ⟨fun _ => g1, fun _ => g2, fun h => by simp at h, fun h => by simp at h, ?_, ?_, g3⟩
    · generalize x0 * K + α = a at *; generalize y0 * K + β = b at *; grind
    · generalize x0 * K + α = a at *; generalize y0 * K + β = b at *; grind
  | true =>
    have d := dt rfl
    have f1 : q * y0 = p * x0 + x := by subst hx; subst hy; grind
    have f2 : r * x0 = s * y0 + y := by subst hx; subst hy; grind
    refine ⟨x * K + q * β - p * α, y * K + r * α - s * β, ?_⟩
    obtain ⟨a', ha'⟩ : ∃ a', a' + p * α = x * K + q * β := ⟨x * K + q * β - p * α, by omega⟩
    obtain ⟨b', hb'⟩ : ∃ b', b' + s * β = y * K + r * α := ⟨y * K + r * α - s * β, by omega⟩
    have e1 : x * K + q * β - p * α = a' := by omega
    have e2 : y * K + r * α - s * β = b' := by omega
    rw [e1, e2]
    have g1 : q * (y0 * K + β) = p * (x0 * K + α) + a' := by grind
    have g2 : r * (x0 * K + α) = s * (y0 * K + β) + b' := by grind
    have g3 : b' < a' := by omega
    clear ha' hb' e1 e2 k1 k2 k3 k4
    refine ⟨fun h => by simp at h, fun h => by simp at h, fun _ => g1, fun _ => g2, ?_, ?_, g3⟩
    · generalize x0 * K + α = a at *; generalize y0 * K + β = b at *; grind
    · generalize x0 * K + α = a at *; generalize y0 * K + β = b at *; grind
theorem Made.gcd {a b a' b' p q r s : Nat} {t : Bool} (h : Made a b a' b' p q r s t) : Nat.gcd a b = Nat.gcd a' b' := by
  obtain ⟨an, bn, at_, bt, ha, hb, lt⟩ := h
  apply Nat.dvd_antisymm
  · have da := Nat.gcd_dvd_left a b
    have db := Nat.gcd_dvd_right a b
    cases t with
    | false =>
      have h1 := an rfl
      have h2 := bn rfl
      apply Nat.dvd_gcd
      · exact (Nat.dvd_add_right (Nat.dvd_trans db (Nat.dvd_mul_left b q))).1 (h1 ▸ Nat.dvd_trans da (Nat.dvd_mul_left a p))
      · exact (Nat.dvd_add_right (Nat.dvd_trans da (Nat.dvd_mul_left a r))).1 (h2 ▸ Nat.dvd_trans db (Nat.dvd_mul_left b s))
    | true =>
      have h1 := at_ rfl
      have h2 := bt rfl
      apply Nat.dvd_gcd
      · exact (Nat.dvd_add_right (Nat.dvd_trans da (Nat.dvd_mul_left a p))).1 (h1 ▸ Nat.dvd_trans db (Nat.dvd_mul_left b q))
      · exact (Nat.dvd_add_right (Nat.dvd_trans db (Nat.dvd_mul_left b s))).1 (h2 ▸ Nat.dvd_trans da (Nat.dvd_mul_left a r))
  · have da := Nat.gcd_dvd_left a' b'
    have db := Nat.gcd_dvd_right a' b'
    apply Nat.dvd_gcd
    · rw [ha]; exact Nat.dvd_add (Nat.dvd_trans da (Nat.dvd_mul_left a' s)) (Nat.dvd_trans db (Nat.dvd_mul_left b' q))
    · rw [hb]; exact Nat.dvd_add (Nat.dvd_trans da (Nat.dvd_mul_left a' r)) (Nat.dvd_trans db (Nat.dvd_mul_left b' p))
theorem Made.less {a b a' b' p q r s : Nat} {t : Bool} (h : Made a b a' b' p q r s t) (hr : 1 ≤ r) : b' < b := by
  have h1 := h.hb
  have h2 := h.lt
  have h3 : 1 * a' ≤ r * a' := Nat.mul_le_mul_right a' hr
  omega
theorem Made.lea {a b a' b' p q r s : Nat} {t : Bool} (h : Made a b a' b' p q r s t) (hs : 1 ≤ s) : a' ≤ a := by
  have h1 := h.ha
  have h3 : 1 * a' ≤ s * a' := Nat.mul_le_mul_right a' hs
  omega
theorem mix_step {M P z zx q Y w p X v oP oP' oQ oQ' l l' plus minus : Nat}
    (h : zx + q * Y + P * oP = p * X + P * oQ + P * l) (h1 : plus + M * oP' = v * p + oP) (h2 : minus + M * oQ' = w * q + oQ)
    (h3 : z + minus + l = plus + M * l') :
    (zx + P * z) + q * (Y + P * w) + P * M * oP' = p * (X + P * v) + P * M * oQ' + P * M * l' := by
  grind
theorem mix_end {N zx d q b p a oP oQ l : Nat} (h : zx + q * b + N * oP = p * a + N * oQ + N * l) (hd : p * a = q * b + d) (hz : zx < N) (hn : d < N) : zx = d := by
  have h1 : zx + N * oP = d + N * (oQ + l) := by rw [Nat.mul_add]; omega
  have h2 : (zx + N * oP) % N = (d + N * (oQ + l)) % N := by rw [h1]
  rw [Nat.add_mul_mod_self_left, Nat.add_mul_mod_self_left, Nat.mod_eq_of_lt hz, Nat.mod_eq_of_lt hn] at h2
  exact h2
end Big
end Go.Proofs.YtfmebfkdpfbjbaaGreatDoor
