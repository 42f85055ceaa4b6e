/- Contracts, in this order: ref90: a size put back. · ref90: long division, plain arithmetic of half words. · ref90: quotient and rest. · ref90: quotient and rest, where the divisor has two words at · ref90: the greatest common divisor: a mix of two sizes. -/
import Derived.Test.YtepnghhgmjobjaaGreatDoorGt17
import Derived.Test.YtepnghhgmjobjaaGreatDoorGt08
import Derived.Test.YtepnghhgmjobjaaGreatDoorGt16
namespace Go.Proofs.YtepnghhgmjobjaaGreatDoor
namespace R
open Go.RowKit
set_option maxRecDepth 100000 in
set_option maxHeartbeats 2000000 in
theorem more_any (w : World) (g off C : Nat) (L m : List Nat) (u : Value) (hb : Blk w g 227 .u32 L) (hL : off + m.length + 1 ≤ L.length) (hLl : L.length ≤ 1000000001)
    (hoL : Big.Ok M32 L) (hu : WdB g w .u32 u m) (om : Big.Ok M32 m) :
    Calls Tryz.prog 244 #[.slice (some ⟨g, 0, none⟩) L.length C, u, .int .i64 (off : Int)] w fun e w' =>
      ∃ (l : Nat) (zs : List Nat), e = .returned (.tuple #[]) ∧ l ≤ 1 ∧ zs.length = m.length + 1 ∧ Big.Ok M32 zs ∧
        Big.val M32 zs + M32 ^ (m.length + 1) * l = Big.val M32 ((L.drop off).take (m.length + 1)) + Big.val M32 m ∧ Blk w' g 227 .u32 (L.take off ++ (zs ++ L.drop (off + (m.length + 1)))) ∧ Only g w w' := by
  have hlt := hb.lt
  have HB0 := Lib.hid hb
  have HU := Lib.hid hu
  have OL := Lib.hid hoL; have OM := Lib.hid om
  obtain ⟨A, c2, rfl, k1, k2, k3⟩ := hu
  clear hb hoL om k3
  go_enter Tryz.func244, Tryz.ntmps244
  go_wp2_with fail
  go_loopw [6, 7] (fun o i wr => ∃ (k q : Nat) (zs : List Nat), k ≤ m.length ∧ i = .int .i64 k ∧ o = .int .u64 (q : Int) ∧ q ≤ 1 ∧
      Hid (zs.length = k ∧ Big.Ok M32 zs ∧ Big.val M32 zs + M32 ^ k * q = Big.val M32 (((L.drop off).take (m.length + 1)).take k) + Big.val M32 (m.take k)) ∧
      Hid (Blk wr g 227 .u32 (L.take off ++ (zs ++ L.drop (off + k)))) ∧ Hid (Only g w wr))
    (fun _ i _ => m.length - (intOf i).toNat)
  case atStart => exact ⟨0, 0, [], by omega, rfl, rfl, by omega, Lib.hid ⟨rfl, Big.Ok.nil, by simp [Big.val]⟩, Lib.hid (by simpa using HB0.out), Lib.hid (Only.refl _ _)⟩
  case round =>
    obtain ⟨k, q, zs, hk, rfl, rfl, hq1, HZ, HB, HO⟩ := hrel
    have hzl := HZ.out.1
    have hst := HB.out.cell (off + k) (by rw [len_mid (by omega) hzl]; omega)
    rw [nth_mid (by omega) hzl, ← nth_drop_take L off (m.length + 1) k (by omega)] at hst
    have hfr := HB.out.frozen (off + k)
    have oX : Big.Ok M32 ((L.drop off).take (m.length + 1)) := (OL.out.drop _).take _
    have hz := nth_lt oX k
    by_cases hkn : k < m.length
    · obtain ⟨A', c', e, x1, x2, x3⟩ := HU.out
      cases e
      obtain ⟨b, o, rfl, hblt, hcc, -⟩ := x3 (by omega)
      have hcell := (HO.out.cell (o := o + k) (by omega : b < w.heap.size) (by omega)).trans (hcc k (by omega))
      have R := add_round oX OM.out hq1 HZ.out
      have hy := nth_lt OM.out k
      have hlo := w32 (q + Big.nth ((L.drop off).take (m.length + 1)) k + Big.nth m k)
      have hhi := sh32 (q + Big.nth ((L.drop off).take (m.length + 1)) k + Big.nth m k)
      have ez := set_mid (L := L) (off := off) (k := k) (x := lo32 (q + Big.nth ((L.drop off).take (m.length + 1)) k + Big.nth m k)) (by omega) hzl
      generalize Big.nth ((L.drop off).take (m.length + 1)) k = z at *
      generalize Big.nth m k = y at *
      have e1 : ((q + z + y : Nat) : Int) = (q : Int) + (z : Int) + (y : Int) := by omega
      rw [e1] at hlo hhi
      generalize lo32 (q + z + y) = sv at *
      generalize hi32 (q + z + y) = hi at *
      have R1 := R.1
      have R2 := Lib.hid R.2
      have HE := Lib.hid ez
      have hai : (off : Int) + k < (L.length : Int) := by omega
      have wak : IntKind.i64.wrap ((off : Int) + (k : Int)) = (off : Int) + k := IntWalk.i64_in _ (by omega)
      have wak2 : ((off : Int) + (k : Int)).toNat = off + k := by omega
      have wak0 : 0 ≤ (off : Int) + (k : Int) := by omega
      have wz : IntKind.u64.wrap (z : Int) = z := w64 z (by omega)
      have wy : IntKind.u64.wrap (y : Int) = y := w64 y (by omega)
      have u1 : IntKind.u64.wrap ((q : Int) + z) = (q : Int) + z := by rw [IntKind.wrap_u64]; omega
      have u3 : IntKind.u64.wrap ((q : Int) + z + y) = (q : Int) + z + y := by rw [IntKind.wrap_u64]; omega
      clear hcc x3 R oX hzl ez e1
      go_wp2_with fail
      go_quiet (fail)
      go_wp2_with fail
      refine ⟨⟨k + 1, hi, zs ++ [sv], by omega, by go_num, rfl, R1, R2, Lib.hid ?_, Lib.hid ((HO.out.drewN nq).setCell (off + k) _)⟩, by simp [intOf]; omega⟩
      have h1 := (HB.out.drewN nq).set (off + k) sv
      rw [HE.out] at h1
      exact h1
    · have hkl : k = m.length := by omega
      subst hkl
      have hlo := w32 (Big.nth ((L.drop off).take (m.length + 1)) m.length + q)
      have hh := lo_hi (Big.nth ((L.drop off).take (m.length + 1)) m.length + q)
      have hll := lo32_lt (Big.nth ((L.drop off).take (m.length + 1)) m.length + q)
      have hhl : hi32 (Big.nth ((L.drop off).take (m.length + 1)) m.length + q) ≤ 1 := by unfold hi32; omega
      have ez := set_mid (L := L) (off := off) (k := m.length) (x := lo32 (Big.nth ((L.drop off).take (m.length + 1)) m.length + q)) (by omega) hzl
      have e2 := Big.val_take_succ' (B := M32) ((L.drop off).take (m.length + 1)) m.length
      rw [List.take_take, Nat.min_self] at e2
      have e1 := HZ.out.2.2
      rw [List.take_length] at e1
      generalize Big.nth ((L.drop off).take (m.length + 1)) m.length = z at *
      have hfin : Big.val M32 (zs ++ [lo32 (z + q)]) + M32 ^ (m.length + 1) * hi32 (z + q) = Big.val M32 ((L.drop off).take (m.length + 1)) + Big.val M32 m := by
        rw [Big.val_snoc, hzl, e2, Nat.pow_succ, Nat.mul_assoc]
        rw [← M32_eq] at hh
        generalize lo32 (z + q) = d at *
        generalize hi32 (z + q) = b at *
        have e3 : M32 ^ m.length * (z + q) = M32 ^ m.length * (d + M32 * b) := by rw [hh]
        simp only [Nat.mul_add] at e3
        omega
      rw [show ((z + q : Nat) : Int) = (z : Int) + q by omega] at hlo
      generalize lo32 (z + q) = sv at *
      generalize hi32 (z + q) = l' at *
      have HF := Lib.hid hfin
      have HD := Lib.hid hll
      have HE := Lib.hid ez
      clear hh hll ez e2 e1 hfin oX
      go_wp2_with fail
      refine bodyPost_end (results_none rfl _ _ _) rfl ?_
      refine ⟨l', zs ++ [sv], rfl, hhl, by simp [hzl], HZ.out.2.1.append (Big.Ok.cons (by rw [M32_eq]; exact HD.out) Big.Ok.nil), HF.out, ?_, HO.out.setCell _ _⟩
      have h1 := HB.out.set (off + m.length) sv
      rw [HE.out] at h1
      exact h1
end R
end Go.Proofs.YtepnghhgmjobjaaGreatDoor
namespace Go.Proofs.YtepnghhgmjobjaaGreatDoor
namespace R
open Go.RowKit
theorem val_low {B : Nat} {Z : List Nat} {n : Nat} (hB : 0 < B) (hl : n ≤ Z.length) (h : Big.val B Z < B ^ n) : Big.val B Z = Big.val B (Z.take n) ∧ Big.val B (Z.drop n) = 0 := by
  have e := Big.val_take_drop (B := B) Z n hl
  have h0 : Big.val B (Z.drop n) = 0 := by
    rcases Nat.eq_zero_or_pos (Big.val B (Z.drop n)) with h0 | h0
    · exact h0
    · exfalso
      have : B ^ n * 1 ≤ B ^ n * Big.val B (Z.drop n) := Nat.mul_le_mul_left _ h0
      rw [Nat.mul_one] at this
      generalize B ^ n = P at *
      omega
  rw [h0, Nat.mul_zero, Nat.add_zero] at e
  exact ⟨e, h0⟩
theorem top_pos {Z : List Nat} {k : Nat} (oZ : Big.Ok M32 Z) (hl : Z.length = k + 1) (h : M32 ^ k ≤ Big.val M32 Z) : 0 < Big.nth Z k := by
  rcases Nat.eq_zero_or_pos (Big.nth Z k) with h0 | h0
  · exfalso
    have e := Big.val_take_succ' (B := M32) Z k
    rw [Big.val_take_all Z _ (by omega), h0, Nat.mul_zero, Nat.add_zero] at e
    have := Big.val_lt (Z.take k) (oZ.take k)
    rw [List.length_take, Nat.min_eq_left (by omega)] at this
    rw [e] at h
    exact Nat.lt_irrefl _ (Nat.lt_of_lt_of_le this h)
  · exact h0
theorem long_step {R Z zs zs' : List Nat} {i N D d : Nat} (oZ : Big.Ok M32 Z) (hlen : Z.length = R.length) (hi : i + N + 1 ≤ Z.length) (hD : D < M32 ^ N) (hsame : Z.take (i + 1) = R.take (i + 1))
    (hv : Big.val M32 (R.drop (i + 1)) = Big.val M32 zs * D + Big.val M32 (Z.drop (i + 1))) (hlt : Big.val M32 (Z.drop (i + 1)) < D) :
    Big.val M32 ((Z.drop i).take (N + 1)) < M32 * D ∧ Big.val M32 (Z.drop (i + (N + 1))) = 0 ∧
      Big.val M32 (R.drop i) = (Big.val M32 zs * M32) * D + Big.val M32 ((Z.drop i).take (N + 1)) := by
  have eZ : Big.nth Z i = Big.nth R i := by
    have h1 := congrArg (fun l => Big.nth l i) hsame
    unfold Big.nth at h1 ⊢
    simp only [List.getD_eq_getElem?_getD] at h1 ⊢
    rw [List.getElem?_take_of_lt (by omega), List.getElem?_take_of_lt (by omega)] at h1
    exact h1
  have hX : Big.val M32 (Z.drop i) = Big.nth Z i + M32 * Big.val M32 (Z.drop (i + 1)) := by
    rw [Big.drop_cons Z i (by omega)]; rfl
  have hx := oZ.nth M32_pos i
  have hb : Big.val M32 (Z.drop i) < M32 * D := by
    have h1 : M32 * (Big.val M32 (Z.drop (i + 1)) + 1) ≤ M32 * D := Nat.mul_le_mul_left _ hlt
    rw [Nat.mul_add] at h1
    rw [hX]
    generalize M32 * Big.val M32 (Z.drop (i + 1)) = A at *
    generalize M32 * D = E at *
    omega
  have hb2 : Big.val M32 (Z.drop i) < M32 ^ (N + 1) := by
    refine Nat.lt_of_lt_of_le hb ?_
    rw [Nat.pow_succ, Nat.mul_comm]
    exact Nat.mul_le_mul_right _ (Nat.le_of_lt hD)
  obtain ⟨l1, l2⟩ := val_low (Z := Z.drop i) (n := N + 1) M32_pos (by rw [List.length_drop]; omega) hb2
  rw [List.drop_drop] at l2
  refine ⟨by rw [← l1]; exact hb, l2, ?_⟩
  rw [Big.drop_cons R i (by omega), ← eZ, ← l1, hX]
  simp only [Big.val]
  rw [hv, Nat.mul_add, Nat.mul_right_comm, Nat.mul_comm M32 (Big.val M32 zs * D)]
  generalize Big.val M32 zs * D * M32 = A
  generalize M32 * Big.val M32 (Z.drop (i + 1)) = E
  omega
theorem long_next {Z zs zs' : List Nat} {i N D d X V : Nat} (hi : i + N + 1 ≤ Z.length) (hzl : zs'.length = N + 1) (h0 : Big.val M32 (Z.drop (i + (N + 1))) = 0) (hD : 0 < D)
    (hd : d = X / D) (hz : Big.val M32 zs' = X % D) (hR : V = (Big.val M32 zs * M32) * D + X) :
    V = Big.val M32 (d :: zs) * D + Big.val M32 ((Z.take i ++ (zs' ++ Z.drop (i + (N + 1)))).drop i) ∧ Big.val M32 ((Z.take i ++ (zs' ++ Z.drop (i + (N + 1)))).drop i) < D := by
  have e1 : (Z.take i ++ (zs' ++ Z.drop (i + (N + 1)))).drop i = zs' ++ Z.drop (i + (N + 1)) := List.drop_left' (by rw [List.length_take]; omega)
  rw [e1, Big.val_append, h0, Nat.mul_zero, Nat.add_zero, hz]
  refine ⟨?_, Nat.mod_lt _ hD⟩
  have h := Nat.div_add_mod X D
  rw [← hd] at h
  rw [hR]
  simp only [Big.val]
  rw [Nat.add_mul, Nat.mul_comm M32 (Big.val M32 zs)]
  rw [Nat.mul_comm D d] at h
  generalize Big.val M32 zs * M32 * D = A
  generalize X % D = r at *
  generalize d * D = E at *
  omega
theorem long_start {R : List Nat} {X s K n1 lx D m : Nat} (hR : Big.val M32 R = X * 2 ^ s) (hX : X < M32 ^ lx) (hK : lx = K + n1) (hm : M32 ^ n1 ≤ m) (hD : m * 2 ^ s = D) (hl : K ≤ R.length) : Big.val M32 (R.drop K) < D := by
  have e := Big.val_take_drop (B := M32) R K hl
  have h1 : X * 2 ^ s < M32 ^ lx * 2 ^ s := Nat.mul_lt_mul_of_pos_right hX (Nat.pow_pos (by omega))
  have h2 : M32 ^ lx * 2 ^ s ≤ M32 ^ K * D := by
    rw [hK, Nat.pow_add, Nat.mul_assoc, ← hD]
    exact Nat.mul_le_mul_left _ (Nat.mul_le_mul_right _ hm)
  have h3 : M32 ^ K * Big.val M32 (R.drop K) < M32 ^ K * D := by
    rw [hR] at e
    generalize M32 ^ K = P at *
    generalize M32 ^ lx = Q at *
    generalize P * Big.val M32 (R.drop K) = A at *
    omega
  exact Nat.lt_of_mul_lt_mul_left h3
theorem long_end {R Z zs : List Nat} {X m s D : Nat} (hR : Big.val M32 R = X * 2 ^ s) (hD : m * 2 ^ s = D) (hm : 0 < m) (hv : Big.val M32 R = Big.val M32 zs * D + Big.val M32 Z) (hlt : Big.val M32 Z < D) :
    Big.val M32 zs = X / m ∧ Big.val M32 Z / 2 ^ s = X % m := by
  have hp : 0 < 2 ^ s := Nat.pow_pos (by omega)
  have hD0 : 0 < D := by rw [← hD]; exact Nat.mul_pos hm hp
  have sd := Big.shift_div (X := X) (y := m) (s := s)
  rw [hD, ← hR, hv] at sd
  refine ⟨?_, ?_⟩
  · rw [← sd.1, Nat.mul_comm, Nat.mul_add_div hD0, Nat.div_eq_of_lt hlt, Nat.add_zero]
  · have h2 := sd.2
    rw [Nat.mul_comm, Nat.mul_add_mod, Nat.mod_eq_of_lt hlt] at h2
    rw [h2, Nat.mul_div_cancel _ hp]
theorem top3 {xs : List Nat} {k : Nat} (ox : Big.Ok M32 xs) (hl : xs.length = k + 3) :
    Big.val M32 xs = ((Big.nth xs (k + 2) * M32 + Big.nth xs (k + 1)) * M32 + Big.nth xs k) * M32 ^ k + Big.val M32 (xs.take k) ∧ Big.val M32 (xs.take k) < M32 ^ k := by
  have h := Big.val_lt (xs.take k) (ox.take k)
  rw [List.length_take, Nat.min_eq_left (by omega)] at h
  refine ⟨?_, h⟩
  rw [Big.val_take_drop xs k (by omega), Big.drop_cons xs k (by omega), Big.drop_cons xs (k + 1) (by omega), Big.drop_cons xs (k + 2) (by omega), List.drop_eq_nil_of_le (by omega)]
  simp only [Big.val, Nat.mul_zero, Nat.add_zero]
  rw [Nat.add_comm, Nat.mul_comm (M32 ^ k)]
  congr 2
  rw [Nat.add_comm (Big.nth xs k), Nat.mul_comm M32]
  congr 2
  rw [Nat.add_comm, Nat.mul_comm]
theorem top2 {ys : List Nat} {k : Nat} (hl : ys.length = k + 2) :
    Big.val M32 ys = (Big.nth ys (k + 1) * M32 + Big.nth ys k) * M32 ^ k + Big.val M32 (ys.take k) := by
  rw [Big.val_take_drop ys k (by omega), Big.drop_cons ys k (by omega), Big.drop_cons ys (k + 1) (by omega), List.drop_eq_nil_of_le (by omega)]
  simp only [Big.val, Nat.mul_zero, Nat.add_zero]
  rw [Nat.add_comm, Nat.mul_comm (M32 ^ k)]
  congr 2
  rw [Nat.add_comm, Nat.mul_comm]
theorem quo_top {xs ys : List Nat} {k : Nat} (ox : Big.Ok M32 xs) (hx : xs.length = k + 3) (hy : ys.length = k + 2) (hp : 0 < Big.nth ys (k + 1)) :
    Big.val M32 xs / Big.val M32 ys ≤ ((Big.nth xs (k + 2) * M32 + Big.nth xs (k + 1)) * M32 + Big.nth xs k) / (Big.nth ys (k + 1) * M32 + Big.nth ys k) := by
  obtain ⟨h1, h2⟩ := top3 ox hx
  have h3 := top2 hy
  exact Big.guess_div h1 h2 h3 (Nat.div_mul_le_self _ _) (by have := Nat.mul_pos hp M32_pos; omega)
theorem digit_fin {X Y d z : Nat} (hz : z + Y * d = X) (hq : X / Y ≤ d) (hY : 0 < Y) : d = X / Y ∧ z = X % Y := by
  have h1 : d ≤ X / Y := (Nat.le_div_iff_mul_le hY).2 (by rw [Nat.mul_comm]; omega)
  have e : d = X / Y := Nat.le_antisymm h1 hq
  refine ⟨e, ?_⟩
  have := Nat.div_add_mod X Y
  rw [← e] at this
  omega
theorem digit_less {X Y d z P : Nat} (hz : z + Y * d = X + P) (hzP : z < P) (hY : 0 < Y) : 0 < d ∧ X / Y ≤ d - 1 := by
  have h1 : X < Y * d := by omega
  have h2 : X / Y < d := by rw [Nat.div_lt_iff_lt_mul hY, Nat.mul_comm]; exact h1
  generalize X / Y = q at *
  omega
theorem digit_back {X Y d z z' P l : Nat} (hz : z + Y * d = X + P) (hd : 0 < d) (h : z' + P * l = z + Y) (hl : l ≤ 1) : z' + Y * (d - 1) = X + P * (1 - l) := by
  have e : Y * d = Y * (d - 1) + Y := by
    conv => lhs; rw [show d = d - 1 + 1 by omega]
    rw [Nat.mul_add, Nat.mul_one]
  rcases Nat.eq_zero_or_pos l with h0 | h0
  · subst h0; rw [Nat.sub_zero, Nat.mul_one]; rw [Nat.mul_zero] at h; omega
  · have : l = 1 := by omega
    subst this; rw [Nat.sub_self, Nat.mul_zero]; rw [Nat.mul_one] at h; omega
theorem mid_take {L zs r : List Nat} {off : Nat} (h : off ≤ L.length) : (L.take off ++ (zs ++ r)).take off = L.take off := by
  rw [List.take_append_of_le_length (by rw [List.length_take]; omega), List.take_take, Nat.min_self]
theorem mid_drop {L zs r : List Nat} {off n : Nat} (h : off ≤ L.length) (hz : zs.length = n) : (L.take off ++ (zs ++ r)).drop (off + n) = r := by
  rw [← List.append_assoc]
  exact List.drop_left' (by rw [List.length_append, List.length_take, hz]; omega)
theorem mid_mid {L zs r : List Nat} {off n : Nat} (h : off ≤ L.length) (hz : zs.length = n) : ((L.take off ++ (zs ++ r)).drop off).take n = zs := by
  rw [List.drop_left' (by rw [List.length_take]; omega), List.take_left' hz]
def gq (a b c top next : Nat) : Nat := min (M32 - 1) (((a * M32 + b) * M32 + c) / (top * M32 + next))
theorem gq_lt (a b c top next : Nat) : gq a b c top next < M32 := Nat.lt_of_le_of_lt (Nat.min_le_left _ _) (by unfold M32; omega)
theorem guessed_is (w : World) (a b c top next : Nat) (ha : a ≤ top) (hb : b < M32) (hc : c < M32) (ht : top < M32) (ht0 : 0 < top) (hn : next < M32) :
    Calls Tryz.prog 242 #[.int .u32 (a : Int), .int .u32 (b : Int), .int .u32 (c : Int), .int .u32 (top : Int), .int .u32 (next : Int)] w fun e w' =>
      e = .returned (.int .u64 ((gq a b c top next : Nat) : Int)) ∧ Drew w w' := by
  refine (guessed_any w a b c top next (gq a b c top next) ha hb hc ht ht0 hn (gq_lt _ _ _ _ _) (Nat.min_le_right _ _)).mono ?_
  rintro e w' ⟨g, rfl, h1, h2, h3, h4⟩
  have hY : 0 < top * M32 + next := by have := Nat.mul_pos ht0 M32_pos; omega
  have h5 : g ≤ ((a * M32 + b) * M32 + c) / (top * M32 + next) := (Nat.le_div_iff_mul_le hY).2 h3
  have h6 : g ≤ gq a b c top next := Nat.le_min.2 ⟨by omega, h5⟩
  rw [Nat.le_antisymm h6 h2]
  exact ⟨rfl, h4⟩
theorem gq_bound {xs ys : List Nat} {n1 n2 N : Nat} (ox : Big.Ok M32 xs) (oy : Big.Ok M32 ys) (hx : xs.length = N + 1) (hy : ys.length = N) (h1 : n1 + 1 = N) (h2 : n2 + 2 = N) (hp : 0 < Big.nth ys n1)
    (hlt : Big.val M32 xs < M32 * Big.val M32 ys) :
    Big.nth xs N ≤ Big.nth ys n1 ∧ Big.val M32 xs / Big.val M32 ys ≤ gq (Big.nth xs N) (Big.nth xs n1) (Big.nth xs n2) (Big.nth ys n1) (Big.nth ys n2) ∧
      gq (Big.nth xs N) (Big.nth xs n1) (Big.nth xs n2) (Big.nth ys n1) (Big.nth ys n2) ≤ Big.val M32 xs / Big.val M32 ys + 1 := by
  obtain rfl : n1 = n2 + 1 := by omega
  obtain rfl : N = n2 + 2 := by omega
  have q1 := quo_top ox hx hy hp
  obtain ⟨t1, t2⟩ := top3 ox hx
  have t3 := top2 hy
  have t4 := Big.val_lt (ys.take n2) (oy.take n2)
  rw [List.length_take, Nat.min_eq_left (by omega)] at t4
  have hyM := oy.nth M32_pos n2
  have hYp : 0 < Big.val M32 ys := Nat.pos_of_mul_pos_left (Nat.lt_of_le_of_lt (Nat.zero_le _) hlt)
  have hdl := Nat.lt_div_mul_add (a := Big.val M32 xs) hYp
  have hdM : Big.val M32 xs / Big.val M32 ys < M32 := (Nat.div_lt_iff_lt_mul hYp).2 hlt
  have hP : 0 < M32 ^ n2 := Nat.pow_pos M32_pos
  generalize Big.val M32 xs = X at *
  generalize Big.val M32 ys = Y at *
  generalize Big.nth xs (n2 + 2) = x0 at *
  generalize Big.nth xs (n2 + 1) = x1 at *
  generalize Big.nth xs n2 = x2 at *
  generalize Big.nth ys (n2 + 1) = y1 at *
  generalize Big.nth ys n2 = y2 at *
  generalize Big.val M32 (xs.take n2) = xl at *
  generalize Big.val M32 (ys.take n2) = yl at *
  generalize M32 ^ n2 = P at *
  refine ⟨?_, ?_, ?_⟩
  · rcases Nat.lt_or_ge y1 x0 with h | h
    · exfalso
      have e1 : Y < (y1 + 1) * M32 * P := by
        rw [t3]
        have : (y1 * M32 + y2 + 1) * P ≤ (y1 + 1) * M32 * P := Nat.mul_le_mul_right P (by rw [Nat.add_mul, Nat.one_mul]; omega)
        rw [Nat.add_mul, Nat.one_mul] at this
        omega
      have e2 : M32 * Y < M32 * ((y1 + 1) * M32 * P) := Nat.mul_lt_mul_of_pos_left e1 M32_pos
      have e3 : (y1 + 1) * M32 * M32 * P ≤ X := by
        rw [t1]
        have : (y1 + 1) * M32 * M32 * P ≤ ((x0 * M32 + x1) * M32 + x2) * P := Nat.mul_le_mul_right P (by
          have a1 : (y1 + 1) * M32 ≤ x0 * M32 := Nat.mul_le_mul_right _ h
          have a2 : (y1 + 1) * M32 * M32 ≤ (x0 * M32 + x1) * M32 := Nat.mul_le_mul_right _ (by omega)
          omega)
        omega
      have e4 : M32 * ((y1 + 1) * M32 * P) = (y1 + 1) * M32 * M32 * P := by
        ac_rfl
      omega
    · exact h
  · unfold gq
    exact Nat.le_min.2 ⟨by omega, q1⟩
  · refine Big.guess_le (P := P) (B := M32) (X := X) (Y := Y) (xx := (x0 * M32 + x1) * M32 + x2) (xl := xl) (yy := y1 * M32 + y2) (yl := yl) t1 t3 t4 ?_ ?_ (Nat.le_of_lt (gq_lt _ _ _ _ _)) ?_
    · unfold gq
      exact Nat.le_trans (Nat.mul_le_mul_right _ (Nat.min_le_right _ _)) (Nat.div_mul_le_self _ _)
    · rw [Nat.add_mul, Nat.one_mul]; exact hdl
    · have := Nat.mul_le_mul_right M32 hp
      rw [Nat.succ_mul] at this
      omega
theorem took {X D g z P : Nat} (hz : z + D * g = X) (hq : X / D ≤ g) (hD : 0 < D) : g = X / D ∧ z = X % D := digit_fin hz hq hD
theorem took_back {X D g z z' P l' : Nat} (hz : z + D * g = X + P) (hzP : z < P) (hg : g ≤ X / D + 1) (hD : 0 < D) (hDP : D ≤ P) (h : z' + P * l' = z + D) (hz' : z' < P) (hl : l' ≤ 1) : 0 < g ∧ g - 1 = X / D ∧ z' = X % D := by
  have hX : X < D * g := by omega
  have h1 : X / D < g := by rw [Nat.div_lt_iff_lt_mul hD, Nat.mul_comm]; exact hX
  have h3 := Nat.div_add_mod X D
  have h4 := Nat.mod_lt X hD
  generalize X / D = d at *
  generalize X % D = r at *
  obtain rfl : g = d + 1 := by omega
  rw [Nat.mul_add, Nat.mul_one] at hz
  refine ⟨by omega, by omega, ?_⟩
  rcases Nat.eq_zero_or_pos l' with h0 | h0
  · subst h0; rw [Nat.mul_zero] at h; omega
  · have : l' = 1 := by omega
    subst this; rw [Nat.mul_one] at h; omega
end R
end Go.Proofs.YtepnghhgmjobjaaGreatDoor
namespace Go.Proofs.YtepnghhgmjobjaaGreatDoor
namespace R
open Go.RowKit
def QR (w : World) (X D : Nat) (e : Ending) (w' : World) : Prop := ∃ q r, e = .returned (.tuple #[q, r]) ∧ Nin w' q (X / D) ∧ Nin w' r (X % D) ∧ Below w.heap.size w w'
set_option maxRecDepth 100000 in
set_option maxHeartbeats 1000000 in
theorem div_less (w : World) (v u : Value) (l m : List Nat) (h : Wd w .u32 v l) (hu : Wd w .u32 u m) (ol : Big.Ok M32 l) (om : Big.Ok M32 m) (nl : Big.Norm l) (nm : Big.Norm m) (hlt : Big.val M32 l < Big.val M32 m) :
    Calls Tryz.prog 188 #[v, u] w (QR w (Big.val M32 l) (Big.val M32 m)) := by
  have CC := Lib.hid (cmp_any w v u l m h hu ol om nl nm)
  rw [Big.cmpI_lt hlt] at CC
  have HV := Lib.hid (show Nin w v (Big.val M32 l % Big.val M32 m) by rw [Nat.mod_eq_of_lt hlt]; exact ⟨l, h, ol, nl, rfl⟩)
  have HD := Lib.hid (Nat.div_eq_of_lt hlt)
  generalize Big.val M32 l = X at *
  generalize Big.val M32 m = Y at *
  obtain ⟨A, c, rfl, -, -, -⟩ := h
  obtain ⟨A2, c2, rfl, -, -, -⟩ := hu
  clear ol om nl nm hlt
  go_enter Tryz.func188, Tryz.ntmps188
  go_wp2_with fail
  refine CC.out.mono ?_
  rintro e w1 ⟨rfl, hd⟩
  have HD1 := Lib.hid hd
  clear hd
  go_wp2
  go_ret2
  exact ⟨_, _, rfl, by rw [HD.out]; exact Nin.nil_ _, HV.out.drew HD1.out, HD1.out.below _⟩
set_option maxRecDepth 100000 in
set_option maxHeartbeats 1000000 in
theorem div_word (w : World) (v u : Value) (l : List Nat) (y : Nat) (h : Wd w .u32 v l) (hu : Wd w .u32 u [y]) (ol : Big.Ok M32 l) (hyM : y < M32) (hy0 : 0 < y) (nl : Big.Norm l) (hl : l.length ≤ 100000000000) (hge : y ≤ Big.val M32 l) :
    Calls Tryz.prog 188 #[v, u] w (QR w (Big.val M32 l) y) := by
  have CC := Lib.hid (cmp_any w v u l [y] h hu ol (Big.Ok.cons hyM Big.Ok.nil) nl (by simp [Big.Norm]; omega))
  have hcv : 0 ≤ Big.cmpI (Big.val M32 l) (Big.val M32 [y]) := by
    have e : Big.val M32 [y] = y := by simp [Big.val]
    rw [e]; unfold Big.cmpI; rw [if_neg (by omega)]; split <;> omega
  generalize Big.cmpI (Big.val M32 l) (Big.val M32 [y]) = cv at *
  have t0 : ¬ (cv < 0) := by omega
  have CD := Lib.hid (fun W (hW : Drew w W) => divWord_any W v l y (h.drew hW) ol hyM hy0 hl)
  have hm : Big.val M32 l % y < 4294967296 := by rw [← M32_eq]; exact Nat.lt_trans (Nat.mod_lt _ hy0) hyM
  have HQ := Lib.hid (And.intro hy0 hyM)
  obtain ⟨A, c, rfl, -, -, -⟩ := h
  obtain ⟨A2, c2, rfl, -, -, h3⟩ := hu
  obtain ⟨b, o, rfl, hblt, hcc, -⟩ := h3 (by simp)
  have hcell : w.cell? ⟨b, o, none⟩ = some (.int .u32 (y : Int)) := hcc 0 (by simp)
  have HC := Lib.hid hcell
  generalize hX : Big.val M32 l = X at *
  clear hcc h3 hcell hge hcv ol nl hy0 hyM hX
  go_enter Tryz.func188, Tryz.ntmps188
  go_wp2_with fail
  refine CC.out.mono ?_
  rintro e w1 ⟨rfl, hd⟩
  have hc1 : w1.cell? ⟨b, o, none⟩ = some (.int .u32 (y : Int)) := (hd.cell _).trans HC.out
  have HD := Lib.hid hd
  clear hd
  go_wp2_with fail
  refine (CD.out w1 HD.out).mono ?_
  rintro e w2 ⟨q, rfl, hq, hb⟩
  have HQ2 := Lib.hid hq; have HB2 := Lib.hid hb
  clear hq hb hc1
  generalize hr : X % y = r at *
  have HR := Lib.hid hr
  clear hr
  go_wp2_with fail
  have hblk : Blk (w2.alloc (.cells #[.int .u32 (r : Int)] 227)) w2.heap.size 227 .u32 [r] := heap_alloc_new w2 _
  have hw := blk_wd0 hblk 1 (by simp) (by omega)
  have CT := Lib.hid (trim_any _ _ _ hw)
  have HBA := Lib.hid ((HB2.out).trans ((Below.refl w1.heap.size w2).alloc HB2.out.size (.cells #[.int .u32 (r : Int)] 227)))
  have HQA := Lib.hid (HQ2.out.keep ((Below.refl w2.heap.size w2).alloc (Nat.le_refl _) (.cells #[.int .u32 (r : Int)] 227)))
  clear hblk hw
  refine CT.out.mono ?_
  rintro e w3 ⟨v', rfl, hv', rfl⟩
  have HV := Lib.hid hv'
  clear hv' CT
  go_wp2
  go_ret2
  refine ⟨q, v', rfl, HQA.out, ?_, ?_⟩
  · have := Nin.strip HV.out (Big.Ok.cons (by rw [M32_eq]; exact hm) Big.Ok.nil)
    rw [HR.out]
    simpa [Big.val] using this
  · exact (HD.out.below _).trans (HBA.out.mono (by rw [HD.out.heap]; exact Nat.le_refl _))
end R
end Go.Proofs.YtepnghhgmjobjaaGreatDoor
namespace Go.Proofs.YtepnghhgmjobjaaGreatDoor
namespace R
open Go.RowKit
theorem only_blk {w w' : World} {g g' : Nat} {t : TypeId} {k : IntKind} {l : List Nat} (h : Blk w g t k l) (ho : Only g' w w') (hne : g ≠ g') : Blk w' g t k l :=
  (ho.block g h.lt (by intro e; injection e with e; exact hne e)).trans h
theorem len_is {V : List Nat} {N D : Nat} (oV : Big.Ok M32 V) (nV : Big.Norm V) (hv : Big.val M32 V = D) (h1 : M32 ^ (N - 1) ≤ D) (h2 : D < M32 ^ N) (hN : 1 ≤ N) : V.length = N := by
  have a := Big.val_lt V oV
  rcases Nat.lt_trichotomy V.length N with h | h | h
  · exfalso
    have : M32 ^ V.length ≤ M32 ^ (N - 1) := Nat.pow_le_pow_right M32_pos (by omega)
    omega
  · exact h
  · exfalso
    have h3 := Big.norm_ge (B := M32) V nV (by intro e; subst e; simp at h)
    have : M32 ^ N ≤ M32 ^ (V.length - 1) := Nat.pow_le_pow_right M32_pos (by omega)
    omega
theorem len_le {V : List Nat} {N : Nat} (nV : Big.Norm V) (h2 : Big.val M32 V < M32 ^ N) : V.length ≤ N := by
  rcases Nat.lt_or_ge N V.length with h | h
  · exfalso
    have h3 := Big.norm_ge (B := M32) V nV (by intro e; subst e; simp at h)
    have : M32 ^ N ≤ M32 ^ (V.length - 1) := Nat.pow_le_pow_right M32_pos (by omega)
    omega
  · exact h
theorem shifted_bits {m : List Nat} {s sb N : Nat} (hb : IsBits (Big.val M32 m) sb) (h1 : sb ≤ 32 * N) (hs : 32 * N - sb = s) (hp : 0 < sb) (hN : 1 ≤ N) :
    M32 ^ (N - 1) ≤ Big.val M32 m * 2 ^ s ∧ Big.val M32 m * 2 ^ s < M32 ^ N := by
  obtain ⟨b1, b2⟩ := hb
  have b3 := b2 hp
  have e1 : M32 ^ N = 2 ^ sb * 2 ^ s := by rw [← Nat.pow_add, show sb + s = 32 * N by omega, Nat.pow_mul]; rfl
  have e2 : M32 ^ (N - 1) ≤ 2 ^ (sb - 1) * 2 ^ s := by
    rw [← Nat.pow_add, show M32 ^ (N - 1) = 2 ^ (32 * (N - 1)) by rw [Nat.pow_mul]; rfl]
    exact Nat.pow_le_pow_right (by omega) (by omega)
  rw [e1]
  exact ⟨Nat.le_trans e2 (Nat.mul_le_mul_right _ b3), Nat.mul_lt_mul_of_pos_right b1 (Nat.pow_pos (by omega))⟩
theorem shifted_len {l : List Nat} {s : Nat} (ol : Big.Ok M32 l) (hs : s ≤ 31) : Big.val M32 l * 2 ^ s < M32 ^ (l.length + 1) := by
  have h1 := Big.val_lt l ol
  have h2 : 2 ^ s ≤ M32 := by rw [e32 hs]; exact Nat.le_mul_of_pos_right _ (Nat.pow_pos (by omega))
  rw [Nat.pow_succ]
  exact Nat.lt_of_lt_of_le (Nat.mul_lt_mul_of_pos_right h1 (Nat.pow_pos (by omega))) (Nat.mul_le_mul_left _ h2)
theorem up0 (w : World) (v : Value) (l : List Nat) (n : Nat) (h : Wd w .u32 v l) (ol : Big.Ok M32 l) (hn : n ≤ 31) (hl : l.length ≤ 1000000000) :
    Calls Tryz.prog 241 #[v, .int .i64 (n : Int)] w fun e w' => ∃ v', e = .returned v' ∧ Nin w' v' (Big.val M32 l * 2 ^ n) ∧ Below w.heap.size w w' := by
  have := up_any w v l 0 n h ol hn (by omega) hl
  rwa [Nat.mul_zero, Nat.zero_add] at this
theorem down0 (w : World) (v : Value) (l : List Nat) (n : Nat) (h : Wd w .u32 v l) (ol : Big.Ok M32 l) (hn : n ≤ 31) (hl : l.length ≤ 1000000000) :
    Calls Tryz.prog 245 #[v, .int .i64 (n : Int)] w fun e w' => ∃ v', e = .returned v' ∧ Nin w' v' (Big.val M32 l / 2 ^ n) ∧ Below w.heap.size w w' := by
  have := down_any w v l 0 n h ol hn (by omega) hl
  rwa [Nat.mul_zero, Nat.zero_add] at this
set_option maxRecDepth 100000 in
set_option maxHeartbeats 4000000 in
theorem div_long (w : World) (v u : Value) (l m : List Nat) (N n1 n2 : Nat) (h : Wd w .u32 v l) (hu : Wd w .u32 u m) (ol : Big.Ok M32 l) (om : Big.Ok M32 m) (nl : Big.Norm l) (nm : Big.Norm m)
    (hm : m.length = N) (h1 : n1 + 1 = N) (h2 : n2 + 2 = N) (hl : l.length ≤ 100000000) (hge : Big.val M32 m ≤ Big.val M32 l) :
    Calls Tryz.prog 188 #[v, u] w (QR w (Big.val M32 l) (Big.val M32 m)) := by
  have hml : m.length ≤ l.length := Big.length_le M32_pos nm ol hge
  have CC := Lib.hid (cmp_any w v u l m h hu ol om nl nm)
  have hcv : 0 ≤ Big.cmpI (Big.val M32 l) (Big.val M32 m) := by
    unfold Big.cmpI; rw [if_neg (by omega)]; split <;> omega
  generalize Big.cmpI (Big.val M32 l) (Big.val M32 m) = cv at *
  have t0 : ¬ (cv < 0) := by omega
  have t0' : decide (cv < 0) = false := decide_eq_false t0
  have t1 : ((N : Int) == 1) = false := beq_eq_false_iff_ne.2 (by omega)
  have CB := Lib.hid (fun W (hW : Drew w W) => bitsOf_any W u m (hu.drew hW) om nm (by omega))
  have CUb := Lib.hid (fun W s (hW : Drew w W) (hs : s ≤ 31) => up0 W u m s (hu.drew hW) om hs (by omega))
  have CUa := Lib.hid (fun W s (hW : Below w.heap.size w W) (hs : s ≤ 31) => up0 W v l s (h.keep hW) ol hs (by omega))
  have HM := Lib.hid (And.intro om (And.intro nm (show m ≠ [] by intro e; subst e; simp at hm; omega)))
  have HNG := Lib.hid (Big.norm_ge (B := M32) m nm (by intro e; subst e; simp at hm; omega))
  have OL := Lib.hid ol
  have HML := Lib.hid hml
  obtain ⟨A, c, rfl, -, -, -⟩ := h
  obtain ⟨A2, c2, rfl, -, -, -⟩ := hu
  rw [hm] at *
  have Hm := Lib.hid hm
  have hmk := fun W => make32 (l.length + 1) (by omega) W
  rw [show ((l.length + 1 : Nat) : Int) = (l.length : Int) + 1 by omega] at hmk
  clear hge hcv ol nl om nm hm
  go_enter Tryz.func188, Tryz.ntmps188
  go_wp2_with fail
  refine CC.out.mono ?_
  rintro e w1 ⟨rfl, hd⟩
  have HD1 := Lib.hid hd
  clear hd
  go_wp2_with fail
  refine (CB.out w1 HD1.out).mono ?_
  rintro e w1' ⟨sb, rfl, hsb, hsb1, hsb2, rfl⟩
  have hsb3 := hsb2 HM.out.2.2
  obtain ⟨s, hs⟩ : ∃ s, 32 * N - sb = s := ⟨_, rfl⟩
  have es : 32 * (N : Int) - (sb : Int) = (s : Int) := by omega
  have hs31 : s ≤ 31 := by omega
  have SB := shifted_bits hsb hsb1 hs (by omega) (by omega)
  have HSB := Lib.hid SB
  clear hsb hsb1 hsb2 hsb3 SB hs
  go_wp2_with fail
  refine (CUb.out w1 s HD1.out hs31).mono ?_
  rintro e w2 ⟨v2, rfl, ⟨V, hV, oV, nV, hVv⟩, hb2⟩
  obtain ⟨D, hD⟩ : ∃ D, Big.val M32 m * 2 ^ s = D := ⟨_, rfl⟩
  rw [hD] at HSB hVv
  have hVl := len_is oV nV hVv HSB.out.1 HSB.out.2 (by omega)
  have HV := Lib.hid hV
  have HVV := Lib.hid (And.intro oV (And.intro nV (And.intro hVv hVl)))
  have HDD := Lib.hid hD
  have HB2 := Lib.hid ((HD1.out.below w.heap.size).trans (hb2.mono (by rw [HD1.out.heap]; exact Nat.le_refl _)))
  obtain ⟨A3, c3, rfl, -, -, -⟩ := hV
  rw [hVl] at HV ⊢
  clear oV nV hVv hVl hD hb2
  go_wp2_with fail
  have HA3 := Lib.hid ((Below.refl w2.heap.size w2).alloc (Nat.le_refl _) (.cells (cellsOf .u32 (List.replicate (l.length + 1) 0)) 227))
  have HBu := Lib.hid (Blk.new w2 227 .u32 (List.replicate (l.length + 1) 0))
  generalize w2.alloc (.cells (cellsOf .u32 (List.replicate (l.length + 1) 0)) 227) = w3 at *
  refine (CUa.out w3 s (HB2.out.trans (HA3.out.mono HB2.out.size)) hs31).mono ?_
  rintro e w4 ⟨v4, rfl, ⟨W, hW, oW, nW, hWv⟩, hb4⟩
  have hWl : W.length ≤ l.length + 1 := len_le nW (by rw [hWv]; exact shifted_len OL.out hs31)
  have HW := Lib.hid (And.intro hW (And.intro oW hWv))
  have HB4 := Lib.hid (HA3.out.trans (hb4.mono HA3.out.size))
  have HBu4 := Lib.hid (HBu.out.below hb4)
  obtain ⟨i0, hi, hz0, hz1, hz2⟩ := info_parts infoU32
  have hus : (Tryz.prog.info? 227).map (·.size) = some 1 := by rw [hi]; simp [hz1]
  clear hi hz0 hz1 hz2
  obtain ⟨A4, c4, rfl, -, -, -⟩ := hW
  clear oW nW hWv hb4 hmk
  go_wp2_with (first
    | (with_reducible refine wpList_copy_words rfl (.tmp 50) (.tmp 53) 117 117 rfl 227 Tryz.underlying117 hus w2.heap.size 227 .u32 (List.replicate (l.length + 1) 0) W (l.length + 1) (l.length + 1) A4 c4 rfl rfl HW.out.1 HBu4.out (by omega) (by simp) w2.heap.size w2 HB4.out (Nat.le_refl _) ?_))
  intro w5 hB5 hBel5
  have eR : Big.val M32 (W ++ List.replicate (l.length + 1 - W.length) 0) = Big.val M32 l * 2 ^ s := by
    rw [Big.val_append, Big.val_replicate, Nat.mul_zero, Nat.add_zero, HW.out.2.2]
  have lR : (W ++ List.replicate (l.length + 1 - W.length) 0).length = l.length + 1 := by simp; omega
  have oR : Big.Ok M32 (W ++ List.replicate (l.length + 1 - W.length) 0) := HW.out.2.1.append (fun d hd => by rw [List.eq_of_mem_replicate hd]; exact M32_pos)
  generalize W ++ List.replicate (l.length + 1 - W.length) 0 = R at *
  have HR := Lib.hid (And.intro oR (And.intro lR eR))
  have HB5 := Lib.hid hB5; have HBel5 := Lib.hid hBel5
  have HWV5 := Lib.hid ((HV.out.wdB).below hBel5)
  clear eR lR oR hB5 hBel5 HBu4 HBu HW hWl
  obtain ⟨K, hK⟩ : ∃ K, l.length + 1 - N = K := ⟨_, rfl⟩
  have eK : (l.length : Int) + 1 - (N : Int) = (K : Int) := by omega
  have hK1 : l.length + 1 ≤ K + N := by omega
  have hK2 : K + N ≤ l.length + 1 := by omega
  have hmk := fun W => make32 K (by omega) W
  clear hK
  go_wp2_with fail
  have HQ6 := Lib.hid (Blk.new w5 227 .u32 (List.replicate K 0))
  have HB6 := Lib.hid (HB5.out.alloc' (.cells (cellsOf .u32 (List.replicate K 0)) 227))
  have HBel6 := Lib.hid (HBel5.out.alloc HBel5.out.size (.cells (cellsOf .u32 (List.replicate K 0)) 227))
  have HWV6 := Lib.hid (HWV5.out.below ((Below.refl w2.heap.size w5).alloc HBel5.out.size (.cells (cellsOf .u32 (List.replicate K 0)) 227)))
  have H25 := Lib.hid (HB5.out.lt)
  generalize w5.alloc (.cells (cellsOf .u32 (List.replicate K 0)) 227) = w6 at *
  have HS0 := Lib.hid (long_start (R := R) (X := Big.val M32 l) (s := s) (K := K) (n1 := n1) (lx := l.length) (D := D) (m := Big.val M32 m) HR.out.2.2 (Big.val_lt l OL.out) (by omega) (by have := HNG.out; rwa [show N - 1 = n1 by omega] at this) HDD.out (by rw [HR.out.2.1]; omega))
  clear hmk
  clear CUa CB CUb CC HA3 HB4 t0 t1 es hus
  go_loopw [13] (fun i wr => ∃ (k : Nat) (Z zs : List Nat), k ≤ K ∧ i = .int .i64 ((k : Int) - 1) ∧
      Hid (Big.Ok M32 Z ∧ Z.length = l.length + 1 ∧ Z.take k = R.take k ∧ Big.val M32 (R.drop k) = Big.val M32 zs * D + Big.val M32 (Z.drop k) ∧ Big.val M32 (Z.drop k) < D ∧ zs.length = K - k ∧ Big.Ok M32 zs) ∧
      Hid (Blk wr w2.heap.size 227 .u32 Z) ∧ Hid (Blk wr w5.heap.size 227 .u32 (List.replicate k 0 ++ zs)) ∧ Hid (WdB w2.heap.size wr .u32 (.slice A3 N c3) V) ∧ Hid (Below w2.heap.size w2 wr))
    (fun i _ => (intOf i + 1).toNat)
  case atStart => exact ⟨K, R, [], by omega, by congr 1, Lib.hid ⟨HR.out.1, HR.out.2.1, rfl, by simp [Big.val], HS0.out, by simp, Big.Ok.nil⟩, HB6, Lib.hid (by simpa using HQ6.out), HWV6, HBel6⟩
  case round =>
    obtain ⟨k, Z, zs, hk, rfl, HZ, HBZ, HBz, HWD, HBel⟩ := hrel
    rcases Nat.eq_zero_or_pos k with rfl | hp
    · have Z' := HZ.out
      have hv := Z'.2.2.2.1
      rw [List.drop_zero, List.drop_zero] at hv
      have hlt := Z'.2.2.2.2.1
      rw [List.drop_zero] at hlt
      have hmp : 0 < Big.val M32 m := Nat.lt_of_lt_of_le (Nat.pow_pos M32_pos) HNG.out
      have E := long_end HR.out.2.2 HDD.out hmp hv hlt
      have HE := Lib.hid E
      have hzK : zs.length = K := by have := Z'.2.2.2.2.2.1; omega
      have hB3 := HBz.out
      rw [List.replicate_zero, List.nil_append] at hB3
      have w1 := blk_wd0 hB3 K (by omega) (by omega)
      rw [hzK] at w1
      have w2' := blk_wd0 HBZ.out (l.length + 1) (by rw [Z'.2.1]; exact Nat.le_refl _) (by omega)
      rw [Z'.2.1] at w2'
      have HT1 := Lib.hid (trim_any _ _ _ w1)
      have HT2 := Lib.hid (trim_any _ _ _ w2')
      have HST := Lib.hid (show (Big.strip Z).length ≤ 1000000000 by have := Big.strip_len Z; have := Z'.2.1; omega)
      clear Z' hv hlt E hzK hB3 w1 w2' hmp
      go_wp2_with fail
      refine HT1.out.mono ?_
      rintro e w7 ⟨q', rfl, hq', rfl⟩
      have HQ' := Lib.hid hq'
      clear hq'
      go_wp2_with fail
      with_reducible refine HT2.out.mono ?_
      rintro e w7 ⟨u', rfl, hu', rfl⟩
      have HU' := Lib.hid (down0 wr u' (Big.strip Z) s hu' (Big.strip_ok HZ.out.1) hs31 HST.out)
      clear hu'
      go_wp2_with fail
      refine HU'.out.mono ?_
      rintro e w8 ⟨r', rfl, hr', hb8⟩
      have HR' := Lib.hid hr'; have HB8 := Lib.hid hb8
      clear hr' hb8
      go_wp2
      go_ret2
      refine ⟨q', r', rfl, ?_, ?_, ?_⟩
      · have := Nin.strip HQ'.out HZ.out.2.2.2.2.2.2
        rw [HE.out.1] at this
        exact this.keep HB8.out
      · have := HR'.out
        rw [Big.strip_val, HE.out.2] at this
        exact this
      · exact HB2.out.trans ((HBel.out.mono HB2.out.size).trans (HB8.out.mono (Nat.le_trans HB2.out.size HBel.out.size)))
    · obtain ⟨j, rfl⟩ : ∃ j, k = j + 1 := ⟨k - 1, by omega⟩
      rw [show (((j + 1 : Nat) : Int) - 1) = (j : Int) by omega]
      have Z' := HZ.out
      have hj1 : j + N + 1 ≤ Z.length := by rw [Z'.2.1]; omega
      have S1 := long_step (R := R) (Z := Z) (zs := zs) (zs' := zs) (d := 0) (i := j) (N := N) (D := D) Z'.1 (by rw [Z'.2.1, HR.out.2.1]) hj1 HSB.out.2 Z'.2.2.1 Z'.2.2.2.1 Z'.2.2.2.2.1
      have S2 := S1.1
      rw [← HVV.out.2.2.1] at S2
      have oX : Big.Ok M32 ((Z.drop j).take (N + 1)) := (Z'.1.drop _).take _
      have lX : ((Z.drop j).take (N + 1)).length = N + 1 := by rw [List.length_take, List.length_drop]; omega
      have htop : 0 < Big.nth V n1 := top_pos HVV.out.1 (by rw [HVV.out.2.2.2]; omega) (by have := HSB.out.1; rw [← HVV.out.2.2.1] at this; rwa [show N - 1 = n1 by omega] at this)
      have GB := gq_bound oX HVV.out.1 lX HVV.out.2.2.2 h1 h2 htop S2
      have c0 := HBZ.out.cell (j + N) (by omega)
      have c1 := HBZ.out.cell (j + n1) (by omega)
      have c2' := HBZ.out.cell (j + n2) (by omega)
      rw [← nth_drop_take Z j (N + 1) N (by omega)] at c0
      rw [← nth_drop_take Z j (N + 1) n1 (by omega)] at c1
      rw [← nth_drop_take Z j (N + 1) n2 (by omega)] at c2'
      obtain ⟨A', c', e, y1, y2, y3⟩ := HWD.out
      injection e with e1 e2 e3
      subst e1; subst e3; clear e2
      obtain ⟨b, o, rfl, hblt, hcc, -⟩ := y3 (by rw [HVV.out.2.2.2]; omega)
      have d1 := hcc n1 (by rw [HVV.out.2.2.2]; omega)
      have d2 := hcc n2 (by rw [HVV.out.2.2.2]; omega)
      have x1M := oX.nth M32_pos n1
      have x2M := oX.nth M32_pos n2
      have y1M := HVV.out.1.nth M32_pos n1
      have y2M := HVV.out.1.nth M32_pos n2
      generalize Big.nth ((Z.drop j).take (N + 1)) N = X0 at *
      generalize Big.nth ((Z.drop j).take (N + 1)) n1 = X1 at *
      generalize Big.nth ((Z.drop j).take (N + 1)) n2 = X2 at *
      generalize Big.nth V n1 = Y1 at *
      generalize Big.nth V n2 = Y2 at *
      have CG := Lib.hid (fun W => guessed_is W X0 X1 X2 Y1 Y2 GB.1 x1M x2M y1M htop y2M)
      have hgM := gq_lt X0 X1 X2 Y1 Y2
      generalize gq X0 X1 X2 Y1 Y2 = g at *
      have HGB := Lib.hid GB
      have HS1 := Lib.hid S1
      have HOX := Lib.hid (And.intro oX lX)
      have hS1 := S1
      have q1 : (j : Int) + N < (l.length : Int) + 1 := by omega
      have i1 : (j : Int) + N - 1 = ((j + n1 : Nat) : Int) := by omega
      have i2 : (j : Int) + N - 2 = ((j + n2 : Nat) : Int) := by omega
      have i3 : (N : Int) - 1 = (n1 : Int) := by omega
      have i4 : (N : Int) - 2 = (n2 : Int) := by omega
      have wa : IntKind.i64.wrap ((j : Int) + (N : Int)) = (j : Int) + N := IntWalk.i64_in _ (by omega)
      have wa1 : IntKind.i64.wrap ((j : Int) + (N : Int) - 1) = ((j + n1 : Nat) : Int) := by rw [i1]; exact IntWalk.i64_in _ (by omega)
      have wa2 : IntKind.i64.wrap ((j : Int) + (N : Int) - 2) = ((j + n2 : Nat) : Int) := by rw [i2]; exact IntWalk.i64_in _ (by omega)
      have wa3 : IntKind.i64.wrap ((N : Int) - 1) = (n1 : Int) := by rw [i3]; exact IntWalk.i64_in _ (by omega)
      have wa4 : IntKind.i64.wrap ((N : Int) - 2) = (n2 : Int) := by rw [i4]; exact IntWalk.i64_in _ (by omega)
      have p0 : 0 ≤ (j : Int) + (N : Int) := by omega
      have p1 : ((j : Int) + (N : Int)).toNat = j + N := by omega
      have r1 : ((j + n1 : Nat) : Int) < (l.length : Int) + 1 := by omega
      have r2 : ((j + n2 : Nat) : Int) < (l.length : Int) + 1 := by omega
      have r3 : (n1 : Int) < (N : Int) := by omega
      have r4 : (n2 : Int) < (N : Int) := by omega
      clear hS1 S1 S2 oX lX GB hcc y3 Z' i1 i2 i3 i4 htop
      go_wp2_with fail
      go_quiet ((go_at_call 242; exact quiet_drew (CG.out _)))
      have HBd := Lib.hid (HBZ.out.drewN nq)
      have HBzd := Lib.hid (HBz.out.drewN nq)
      have HWDd := Lib.hid (HWD.out.keep (w' := wr.drewN nq) fun _ _ => rfl)
      have HBeld := Lib.hid (below_drewN HBel.out nq)
      generalize wr.drewN nq = wd at *
      have hgn : g < 4294967296 := by rw [← M32_eq]; exact hgM
      have HG := Lib.hid hgM
      have HWZ := Lib.hid (And.intro hj1 hk)
      have HNE := Lib.hid (show w2.heap.size ≠ w5.heap.size from Nat.ne_of_lt H25.out)
      clear CG wa wa1 wa2 wa3 wa4 p0 p1 r1 r2 r3 r4 x1M x2M y1M y2M c0 c1 c2' d1 d2 q1 HBZ HBz HWD HBel hgM
      have hkj : j < K := by omega
      rcases Nat.eq_zero_or_pos g with hg0 | hgp
      · subst hg0
        have hdz : 0 = Big.val M32 ((Z.drop j).take (N + 1)) / D := by have := HGB.out.2.1; rw [HVV.out.2.2.1] at this; exact (Nat.le_zero.1 this).symm
        have hmz : Big.val M32 ((Z.drop j).take (N + 1)) = Big.val M32 ((Z.drop j).take (N + 1)) % D := by
          have := Nat.div_add_mod (Big.val M32 ((Z.drop j).take (N + 1))) D
          rw [← hdz, Nat.mul_zero, Nat.zero_add] at this
          exact this.symm
        have hD0 : 0 < D := Nat.lt_of_lt_of_le (Nat.pow_pos M32_pos) HSB.out.1
        have LN := long_next (Z := Z) (zs := zs) (zs' := (Z.drop j).take (N + 1)) (i := j) (N := N) (D := D) (d := 0) hj1 HOX.out.2 HS1.out.2.1 hD0 hdz hmz HS1.out.2.2
        have eZ : Z.take j ++ ((Z.drop j).take (N + 1) ++ Z.drop (j + (N + 1))) = Z := by
          rw [← List.drop_drop, List.take_append_drop, List.take_append_drop]
        rw [eZ] at LN
        have HZ2 := Lib.hid (show Big.Ok M32 Z ∧ Z.length = l.length + 1 ∧ Z.take j = R.take j ∧ Big.val M32 (R.drop j) = Big.val M32 (0 :: zs) * D + Big.val M32 (Z.drop j) ∧ Big.val M32 (Z.drop j) < D ∧ (0 :: zs).length = K - j ∧ Big.Ok M32 (0 :: zs) from
          ⟨HZ.out.1, HZ.out.2.1, by
            have := congrArg (List.take j) HZ.out.2.2.1
            rwa [List.take_take, List.take_take, Nat.min_eq_left (by omega)] at this, LN.1, LN.2, by have := HZ.out.2.2.2.2.2.1; simp; omega, Big.Ok.cons M32_pos HZ.out.2.2.2.2.2.2⟩)
        have HBq := Lib.hid (show Blk wd w5.heap.size 227 .u32 (List.replicate j 0 ++ 0 :: zs) by
          have := HBzd.out
          rw [List.replicate_succ', List.append_assoc] at this
          exact this)
        clear hdz hmz LN eZ hD0
        go_wp2_with fail
        go_roundw
        case rel => exact ⟨j, Z, 0 :: zs, by omega, by go_num, HZ2, HBd, HBq, HWDd, HBeld⟩
        case measure => simp [intOf]
      · have tg : ((g : Int) == 0) = false := beq_eq_false_iff_ne.2 (by omega)
        have CL := less_any wd w2.heap.size j g (l.length + 1) Z V (.slice (some ⟨b, o, none⟩) N c3) HBd.out (by rw [HVV.out.2.2.2]; omega) (by have := HZ.out.2.1; omega) HZ.out.1 HWDd.out HVV.out.1 HG.out
        rw [HZ.out.2.1, HVV.out.2.2.2, HVV.out.2.2.1] at CL
        have HCL := Lib.hid CL
        clear CL
        go_wp2_with fail
        refine HCL.out.mono ?_
        rintro e w7 ⟨lq, zn, rfl, hlq, hzl, hzo, hzv, hzb, hzw⟩
        have hD0 : 0 < D := Nat.lt_of_lt_of_le (Nat.pow_pos M32_pos) HSB.out.1
        rcases Nat.eq_zero_or_pos lq with h0 | h0
        · subst h0
          rw [Nat.mul_zero, Nat.add_zero] at hzv
          have T := took (P := 0) hzv (by have := HGB.out.2.1; rwa [HVV.out.2.2.1] at this) hD0
          have LN := long_next (Z := Z) (zs := zs) (zs' := zn) (i := j) (N := N) (D := D) (d := g) hj1 hzl HS1.out.2.1 hD0 T.1 T.2 HS1.out.2.2
          have hB3 := only_blk HBzd.out hzw (fun e => HNE.out e.symm)
          have hst := hB3.cell j (by simp; omega)
          have hfr := hB3.frozen j
          have HB3 := Lib.hid (hB3.set j g)
          have HZ2 := Lib.hid (show Big.Ok M32 (Z.take j ++ (zn ++ Z.drop (j + (N + 1)))) ∧ (Z.take j ++ (zn ++ Z.drop (j + (N + 1)))).length = l.length + 1 ∧ (Z.take j ++ (zn ++ Z.drop (j + (N + 1)))).take j = R.take j ∧
              Big.val M32 (R.drop j) = Big.val M32 (g :: zs) * D + Big.val M32 ((Z.take j ++ (zn ++ Z.drop (j + (N + 1)))).drop j) ∧ Big.val M32 ((Z.take j ++ (zn ++ Z.drop (j + (N + 1)))).drop j) < D ∧ (g :: zs).length = K - j ∧ Big.Ok M32 (g :: zs) from
            ⟨(HZ.out.1.take _).append (hzo.append (HZ.out.1.drop _)), by rw [← HZ.out.2.1]; simp [hzl]; omega, by
              rw [mid_take (by omega)]
              have := congrArg (List.take j) HZ.out.2.2.1
              rwa [List.take_take, List.take_take, Nat.min_eq_left (by omega)] at this, LN.1, LN.2, by have := HZ.out.2.2.2.2.2.1; simp; omega, Big.Ok.cons HG.out HZ.out.2.2.2.2.2.2⟩)
          have HB7 := Lib.hid hzb
          have HWD7 := Lib.hid (only_wdB hzw (Nat.le_refl _) (Nat.le_of_lt HBd.out.lt) HWDd.out)
          have HBel7 := Lib.hid (hzw.below HBeld.out (Nat.le_refl _) HBeld.out.size)
          clear hzl hzo hzv hzb hzw T LN hB3 hlq hD0
          go_wp2_with fail
          go_roundw
          case rel =>
            refine ⟨j, _, g :: zs, by omega, by go_num, HZ2, Lib.hid (HB7.out.far (p := ⟨w5.heap.size, j, none⟩) HNE.out _), Lib.hid ?_, Lib.hid (HWD7.out.keep fun b hb => ?_), Lib.hid (HBel7.out.setCell (Nat.le_of_lt H25.out) _)⟩
            · have h1 := HB3.out
              have h2 : (List.replicate (j + 1) 0 ++ zs).set j g = List.replicate j 0 ++ g :: zs := by
                rw [List.replicate_succ', List.append_assoc, set_at (List.replicate j 0) _ j g (by simp)]; simp
              rw [h2] at h1
              exact h1
            · exact heap_setCell_other _ _ b _ (by show b ≠ w5.heap.size; have := H25.out; omega)
          case measure => simp [intOf]
        · obtain rfl : lq = 1 := by omega
          rw [Nat.mul_one] at hzv
          have hzP := Big.val_lt zn hzo
          rw [hzl] at hzP
          have hlen : (Z.take j ++ (zn ++ Z.drop (j + (N + 1)))).length = l.length + 1 := by rw [← HZ.out.2.1]; simp [hzl]; omega
          have hok : Big.Ok M32 (Z.take j ++ (zn ++ Z.drop (j + (N + 1)))) := (HZ.out.1.take _).append (hzo.append (HZ.out.1.drop _))
          have hmid : ((Z.take j ++ (zn ++ Z.drop (j + (N + 1)))).drop j).take (N + 1) = zn := mid_mid (by omega) hzl
          have hWD7 := only_wdB hzw (Nat.le_refl _) (Nat.le_of_lt HBd.out.lt) HWDd.out
          have CM := more_any w7 w2.heap.size j (l.length + 1) _ V (.slice (some ⟨b, o, none⟩) N c3) hzb (by rw [HVV.out.2.2.2, hlen]; omega) (by rw [hlen]; omega) hok hWD7 HVV.out.1
          rw [hlen, HVV.out.2.2.2, HVV.out.2.2.1, hmid] at CM
          have HCM := Lib.hid CM
          have HP7 := Lib.hid (And.intro hzv (And.intro hzP (And.intro hzl hzw)))
          have hB7 := only_blk HBzd.out hzw (fun e => HNE.out e.symm)
          have HQ7 := Lib.hid hB7
          have HWD7 := Lib.hid hWD7
          have HB7 := Lib.hid hzb
          have g1 : (1 : Int) ≤ (g : Int) := by omega
          have g2 : (g : Int) - 1 = ((g - 1 : Nat) : Int) := by omega
          have g3 : g - 1 < 4294967296 := by omega
          obtain ⟨g', hg'⟩ : ∃ g', g - 1 = g' := ⟨_, rfl⟩
          rw [hg'] at g2 g3
          have HG' := Lib.hid hg'
          clear CM hzv hzP hlen hok hmid hWD7 hzl hzo hzb hzw hB7 hg' hlq
          go_wp2_with fail
          refine HCM.out.mono ?_
          rintro e w8 ⟨lm, zm, rfl, hlm, hml, hmo, hmv, hmb, hmw⟩
          have hmP := Big.val_lt zm hmo
          rw [hml] at hmP
          have hDP : D ≤ M32 ^ (N + 1) := Nat.le_trans (Nat.le_of_lt HSB.out.2) (Nat.pow_le_pow_right M32_pos (by omega))
          have T := took_back HP7.out.1 HP7.out.2.1 (by have := HGB.out.2.2; rwa [HVV.out.2.2.1] at this) hD0 hDP hmv hmP hlm
          rw [HG'.out] at T
          have eb : (Z.take j ++ (zn ++ Z.drop (j + (N + 1)))).take j ++ (zm ++ (Z.take j ++ (zn ++ Z.drop (j + (N + 1)))).drop (j + (N + 1))) = Z.take j ++ (zm ++ Z.drop (j + (N + 1))) := by
            rw [mid_take (by omega), mid_drop (by omega) HP7.out.2.2.1]
          rw [eb] at hmb
          have LN := long_next (Z := Z) (zs := zs) (zs' := zm) (i := j) (N := N) (D := D) (d := g') hj1 hml HS1.out.2.1 hD0 T.2.1 T.2.2 HS1.out.2.2
          have hB3 := only_blk HQ7.out hmw (fun e => HNE.out e.symm)
          have hst := hB3.cell j (by simp; omega)
          have hfr := hB3.frozen j
          have HB3 := Lib.hid (hB3.set j g')
          have HZ2 := Lib.hid (show Big.Ok M32 (Z.take j ++ (zm ++ Z.drop (j + (N + 1)))) ∧ (Z.take j ++ (zm ++ Z.drop (j + (N + 1)))).length = l.length + 1 ∧ (Z.take j ++ (zm ++ Z.drop (j + (N + 1)))).take j = R.take j ∧
              Big.val M32 (R.drop j) = Big.val M32 (g' :: zs) * D + Big.val M32 ((Z.take j ++ (zm ++ Z.drop (j + (N + 1)))).drop j) ∧ Big.val M32 ((Z.take j ++ (zm ++ Z.drop (j + (N + 1)))).drop j) < D ∧ (g' :: zs).length = K - j ∧ Big.Ok M32 (g' :: zs) from
            ⟨(HZ.out.1.take _).append (hmo.append (HZ.out.1.drop _)), by rw [← HZ.out.2.1]; simp [hml]; omega, by
              rw [mid_take (by omega)]
              have := congrArg (List.take j) HZ.out.2.2.1
              rwa [List.take_take, List.take_take, Nat.min_eq_left (by omega)] at this, LN.1, LN.2, by have := HZ.out.2.2.2.2.2.1; simp; omega, Big.Ok.cons (by rw [M32_eq]; exact g3) HZ.out.2.2.2.2.2.2⟩)
          have HB8 := Lib.hid hmb
          have HWD8 := Lib.hid (only_wdB hmw (Nat.le_refl _) (Nat.le_trans (Nat.le_of_lt HBd.out.lt) HP7.out.2.2.2.size) HWD7.out)
          have HBel8 := Lib.hid (hmw.below (HP7.out.2.2.2.below HBeld.out (Nat.le_refl _) HBeld.out.size) (Nat.le_refl _) (Nat.le_trans HBeld.out.size HP7.out.2.2.2.size))
          clear hml hmo hmv hmb hmw hmP hDP T eb LN hB3 hlm hD0 HCM HP7
          go_wp2_with fail
          go_roundw
          case rel =>
            refine ⟨j, _, g' :: zs, by omega, by go_num, HZ2, Lib.hid (HB8.out.far (p := ⟨w5.heap.size, j, none⟩) HNE.out _), Lib.hid ?_, Lib.hid (HWD8.out.keep fun b hb => ?_), Lib.hid (HBel8.out.setCell (Nat.le_of_lt H25.out) _)⟩
            · have h1 := HB3.out
              have h2 : (List.replicate (j + 1) 0 ++ zs).set j g' = List.replicate j 0 ++ g' :: zs := by
                rw [List.replicate_succ', List.append_assoc, set_at (List.replicate j 0) _ j g' (by simp)]; simp
              rw [h2] at h1
              exact h1
            · exact heap_setCell_other _ _ b _ (by show b ≠ w5.heap.size; have := H25.out; omega)
          case measure => simp [intOf]
theorem divWords_any (w : World) (v u : Value) (l m : List Nat) (h : Wd w .u32 v l) (hu : Wd w .u32 u m) (ol : Big.Ok M32 l) (om : Big.Ok M32 m) (nl : Big.Norm l) (nm : Big.Norm m) (hm : m ≠ []) (hl : l.length ≤ 100000000) :
    Calls Tryz.prog 188 #[v, u] w (QR w (Big.val M32 l) (Big.val M32 m)) := by
  rcases Nat.lt_or_ge (Big.val M32 l) (Big.val M32 m) with h1 | h1
  · exact div_less w v u l m h hu ol om nl nm h1
  · match m, hm, hu, om, nm, h1 with
    | [y], _, hu, om, nm, h1 =>
      have hy : 0 < y := by
        rcases Nat.eq_zero_or_pos y with e | e
        · subst e; simp [Big.Norm] at nm
        · exact e
      have e : Big.val M32 [y] = y := by simp [Big.val]
      rw [e] at h1 ⊢
      exact div_word w v u l y h hu ol (om y (by simp)) hy nl (by omega) h1
    | a :: b :: m, _, hu, om, nm, h1 => exact div_long w v u l (a :: b :: m) (m.length + 2) (m.length + 1) m.length h hu ol om nl nm (by simp) rfl rfl hl h1
end R
end Go.Proofs.YtepnghhgmjobjaaGreatDoor
namespace Go.Proofs.YtepnghhgmjobjaaGreatDoor
namespace R
open Go.RowKit
theorem nin_len {w : World} {v : Value} {n N : Nat} (h : Nin w v n) (hn : n < M32 ^ N) : ∃ l, Wd w .u32 v l ∧ Big.Ok M32 l ∧ Big.Norm l ∧ Big.val M32 l = n ∧ l.length ≤ N := by
  obtain ⟨l, h1, h2, h3, rfl⟩ := h
  exact ⟨l, h1, h2, h3, rfl, len_le h3 hn⟩
theorem sub_nat (w : World) (v u : Value) (a b N : Nat) (h : Nin w v a) (k : Nin w u b) (hab : b ≤ a) (ha : a < M32 ^ N) (hN : N ≤ 1000000000) :
    Calls Tryz.prog 204 #[v, u] w fun e w' => ∃ v', e = .returned v' ∧ Nin w' v' (a - b) ∧ Below w.heap.size w w' := by
  obtain ⟨l, h1, h2, h3, rfl, h5⟩ := nin_len h ha
  obtain ⟨m, k1, k2, k3, rfl⟩ := k
  exact subWords_any w v u l m h1 k1 h2 k2 (by omega) hab (Big.length_le M32_pos k3 h2 hab)
set_option maxRecDepth 100000 in
set_option maxHeartbeats 1000000 in
theorem mixed_any (w : World) (v u : Value) (l m : List Nat) (P Q d : Nat) (t : Bool) (p q : Int) (h : Wd w .u32 v l) (hu : Wd w .u32 u m) (ol : Big.Ok M32 l) (om : Big.Ok M32 m) (hl : l.length ≤ 100000000) (hm : m.length ≤ 100000000)
    (hp : p = sg t P) (hq : q = sg (!t) Q) (hP : P < 2147483648) (hQ : Q < 2147483648) (hQ1 : 1 ≤ Q)
    (h0 : t = false → P * Big.val M32 l = Q * Big.val M32 m + d) (h1 : t = true → Q * Big.val M32 m = P * Big.val M32 l + d) :
    Calls Tryz.prog 239 #[v, u, .int .i64 p, .int .i64 q] w fun e w' => ∃ v', e = .returned v' ∧ Nin w' v' d ∧ Below w.heap.size w w' := by
  have HBL := Lib.hid (show ∀ x, x < 4294967296 → Big.val M32 l * x + 0 < M32 ^ (l.length + 1) from fun x hx => by
    rw [Nat.add_zero, Nat.pow_succ]
    exact Nat.lt_of_lt_of_le (Nat.mul_lt_mul_of_lt_of_le (Big.val_lt l ol) (Nat.le_of_lt (show x < M32 by rw [M32_eq]; exact hx)) (by unfold M32; omega)) (Nat.le_refl _))
  have HBM := Lib.hid (show ∀ x, x < 4294967296 → Big.val M32 m * x + 0 < M32 ^ (m.length + 1) from fun x hx => by
    rw [Nat.add_zero, Nat.pow_succ]
    exact Nat.lt_of_lt_of_le (Nat.mul_lt_mul_of_lt_of_le (Big.val_lt m om) (Nat.le_of_lt (show x < M32 by rw [M32_eq]; exact hx)) (by unfold M32; omega)) (Nat.le_refl _))
  have CL := Lib.hid (fun W x (hW : Below w.heap.size w W) (hx : x < 4294967296) => mulWord_any W v l x 0 (h.keep hW) ol (by rw [M32_eq]; exact hx) (by rw [M32_eq]; omega) (by omega))
  have CM := Lib.hid (fun W x (hW : Below w.heap.size w W) (hx : x < 4294967296) => mulWord_any W u m x 0 (hu.keep hW) om (by rw [M32_eq]; exact hx) (by rw [M32_eq]; omega) (by omega))
  generalize Big.val M32 l = A at *
  generalize Big.val M32 m = B at *
  obtain ⟨a1, c1, rfl, -, -, -⟩ := h
  obtain ⟨a2, c2, rfl, -, -, -⟩ := hu
  have wP : IntKind.u32.wrap (P : Int) = (P : Int) := by rw [IntKind.wrap_u32]; omega
  have wQ : IntKind.u32.wrap (Q : Int) = (Q : Int) := by rw [IntKind.wrap_u32]; omega
  cases t with
  | false =>
    have hd := h0 rfl
    have ep : p = (P : Int) := hp
    have eq : q = -(Q : Int) := hq
    have tq : q ≤ 0 := by omega
    have en : -q = (Q : Int) := by omega
    have H0 := Lib.hid hd
    subst ep
    clear h0 h1 hp hq hd eq ol om
    go_enter Tryz.func239, Tryz.ntmps239
    go_wp2_with fail
    refine (CL.out w P (Below.refl _ _) (by omega)).mono ?_
    rintro e w1 ⟨v1, rfl, hv1, hb1⟩
    have HV1 := Lib.hid hv1; have HB1 := Lib.hid hb1
    clear hv1 hb1
    go_wp2_with fail
    refine (CM.out w1 Q HB1.out (by omega)).mono ?_
    rintro e w2 ⟨v2, rfl, hv2, hb2⟩
    have HS := Lib.hid (sub_nat w2 v1 v2 (A * P + 0) (B * Q + 0) (l.length + 1) (HV1.out.keep hb2) hv2 (by have := H0.out; rw [Nat.mul_comm P A, Nat.mul_comm Q B] at this; omega) (HBL.out P (by omega)) (by omega))
    have HB2 := Lib.hid (HB1.out.trans (hb2.mono HB1.out.size))
    clear hv2 hb2
    go_wp2_with fail
    refine HS.out.mono ?_
    rintro e w3 ⟨v3, rfl, hv3, hb3⟩
    have HV3 := Lib.hid hv3; have HB3 := Lib.hid (HB2.out.trans (hb3.mono HB2.out.size))
    clear hv3 hb3
    go_wp2
    go_ret
    refine ⟨v3, rfl, ?_, HB3.out⟩
    have := HV3.out
    have h := H0.out
    rw [Nat.mul_comm P A, Nat.mul_comm Q B] at h
    rwa [show A * P + 0 - (B * Q + 0) = d by omega] at this
  | true =>
    have hd := h1 rfl
    have ep : p = -(P : Int) := hp
    have eq : q = (Q : Int) := hq
    have tq : ¬ (q ≤ 0) := by omega
    have en : -p = (P : Int) := by omega
    have H0 := Lib.hid hd
    subst eq
    clear h0 h1 hp hq hd ep ol om
    go_enter Tryz.func239, Tryz.ntmps239
    go_wp2_with fail
    refine (CM.out w Q (Below.refl _ _) (by omega)).mono ?_
    rintro e w1 ⟨v1, rfl, hv1, hb1⟩
    have HV1 := Lib.hid hv1; have HB1 := Lib.hid hb1
    clear hv1 hb1
    go_wp2_with fail
    refine (CL.out w1 P HB1.out (by omega)).mono ?_
    rintro e w2 ⟨v2, rfl, hv2, hb2⟩
    have HS := Lib.hid (sub_nat w2 v1 v2 (B * Q + 0) (A * P + 0) (m.length + 1) (HV1.out.keep hb2) hv2 (by have := H0.out; rw [Nat.mul_comm P A, Nat.mul_comm Q B] at this; omega) (HBM.out Q (by omega)) (by omega))
    have HB2 := Lib.hid (HB1.out.trans (hb2.mono HB1.out.size))
    clear hv2 hb2
    go_wp2_with fail
    refine HS.out.mono ?_
    rintro e w3 ⟨v3, rfl, hv3, hb3⟩
    have HV3 := Lib.hid hv3; have HB3 := Lib.hid (HB2.out.trans (hb3.mono HB2.out.size))
    clear hv3 hb3
    go_wp2
    go_ret
    refine ⟨v3, rfl, ?_, HB3.out⟩
    have := HV3.out
    have h := H0.out
    rw [Nat.mul_comm P A, Nat.mul_comm Q B] at h
    rwa [show B * Q + 0 - (A * P + 0) = d by omega] at this
def wordAt (w : World) (p : Addr) (i : Nat) : Nat := match w.cell? ⟨p.block, p.off + i, none⟩ with | some v => (intOf v).toNat | none => 0
def numAt (w : World) : Value → Nat
  | .slice (some p) k _ => Big.val M32 ((List.range k).map (wordAt w p))
  | _ => 0
theorem numAt_wd {w : World} {v : Value} {l : List Nat} (h : Wd w .u32 v l) : numAt w v = Big.val M32 l := by
  obtain ⟨A, c, rfl, h1, h2, h3⟩ := h
  rcases Nat.eq_zero_or_pos l.length with h0 | h0
  · obtain rfl := List.eq_nil_of_length_eq_zero h0
    cases A <;> rfl
  · obtain ⟨b, o, rfl, hlt, hc, -⟩ := h3 h0
    have e : (List.range l.length).map (wordAt w ⟨b, o, none⟩) = l := by
      apply List.ext_getElem
      · simp
      · intro i hi1 hi2
        have hc2 := hc i hi2
        simp only [List.getElem_map, List.getElem_range, wordAt, hc2, intOf]
        unfold Big.nth
        rw [List.getD_eq_getElem?_getD, List.getElem?_eq_getElem hi2]
        rfl
    show Big.val M32 ((List.range l.length).map (wordAt w ⟨b, o, none⟩)) = _
    rw [e]
end R
end Go.Proofs.YtepnghhgmjobjaaGreatDoor
