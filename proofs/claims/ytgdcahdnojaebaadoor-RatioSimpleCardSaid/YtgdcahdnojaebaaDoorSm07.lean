/- Contracts, in this order: nat: guessDigit, takeDigit. · nat: takeDigit. · nat: QuoRem, Quo. -/
import Derived.Test.YtgdcahdnojaebaaDoorSm06
/- nat: guessDigit, takeDigit. -/
namespace Go.Proofs.YtgdcahdnojaebaaDoor
open Go.RowKit

theorem top3 {xs : List Nat} {k : Nat} (ox : Big.Ok Big.M64 xs) (hl : xs.length = k + 3) :
    Big.val Big.M64 xs = ((Big.nth xs (k + 2) * Big.M64 + Big.nth xs (k + 1)) * Big.M64 + Big.nth xs k) * Big.M64 ^ k + Big.val Big.M64 (xs.take k) ∧ Big.val Big.M64 (xs.take k) < Big.M64 ^ k := by
  have h := Big.val_lt (xs.take k) (ox.take k)
  rw [List.length_take, Nat.min_eq_left (by omega)] at h
  refine ⟨?_, h⟩
  rw [Big.val_take_drop xs k (by omega), Big.drop_cons xs k (by omega), Big.drop_cons xs (k + 1) (by omega), Big.drop_cons xs (k + 2) (by omega), List.drop_eq_nil_of_le (by omega)]
  simp only [Big.val, Nat.mul_zero, Nat.add_zero]
  rw [Nat.add_comm, Nat.mul_comm (Big.M64 ^ k)]
  congr 2
  rw [Nat.add_comm (Big.nth xs k), Nat.mul_comm Big.M64]
  congr 2
  rw [Nat.add_comm, Nat.mul_comm]
theorem top2 {ys : List Nat} {k : Nat} (hl : ys.length = k + 2) :
    Big.val Big.M64 ys = (Big.nth ys (k + 1) * Big.M64 + Big.nth ys k) * Big.M64 ^ k + Big.val Big.M64 (ys.take k) := by
  rw [Big.val_take_drop ys k (by omega), Big.drop_cons ys k (by omega), Big.drop_cons ys (k + 1) (by omega), List.drop_eq_nil_of_le (by omega)]
  simp only [Big.val, Nat.mul_zero, Nat.add_zero]
  rw [Nat.add_comm, Nat.mul_comm (Big.M64 ^ k)]
  congr 2
  rw [Nat.add_comm, Nat.mul_comm]
/-- The quotient is not above that of the highest three words over the highest two. -/
theorem quo_top {xs ys : List Nat} {k : Nat} (ox : Big.Ok Big.M64 xs) (hx : xs.length = k + 3) (hy : ys.length = k + 2) (hp : 0 < Big.nth ys (k + 1)) :
    Big.val Big.M64 xs / Big.val Big.M64 ys ≤ ((Big.nth xs (k + 2) * Big.M64 + Big.nth xs (k + 1)) * Big.M64 + Big.nth xs k) / (Big.nth ys (k + 1) * Big.M64 + Big.nth ys k) := by
  obtain ⟨h1, h2⟩ := top3 ox hx
  have h3 := top2 hy
  exact Big.guess_div h1 h2 h3 (Nat.div_mul_le_self _ _) (by have := Nat.mul_pos hp Big.M64_pos; omega)

/-- high, low against rest, x: by the numbers that they make. -/
theorem two_words {p r v : Nat} (hv : v < Big.M64) : (hi64 p < r ∨ hi64 p = r ∧ lo64 p ≤ v) ↔ p ≤ Big.M64 * r + v := by
  have h := lo_hi p
  have h2 := lo64_lt p
  rw [Big.M64_eq] at *
  omega

set_option maxRecDepth 100000 in
set_option maxHeartbeats 4000000 in
/-- nat.guessDigit: not too small. -/
theorem guessDigit_any (w : World) (g off N n1 n2 c : Nat) (L m : List Nat) (u : Value) (hb : Blk w g 71 .u64 L) (hL : off + N + 1 ≤ L.length) (h1 : n1 + 1 = N) (h2 : n2 + 2 = N)
    (hoL : Big.Ok Big.M64 L) (hu : WdB g w .u64 u m) (hm : m.length = N) (om : Big.Ok Big.M64 m) (hp : 0 < Big.nth m n1)
    (hlt : Big.val Big.M64 ((L.drop off).take (N + 1)) < Big.M64 * Big.val Big.M64 m) (hN : N ≤ 1000000000) :
    Calls Tryd.prog 140 #[.slice (some ⟨g, off, none⟩) (N + 1) c, u] w fun e w' =>
      ∃ d : Nat, e = .returned (.int .u64 (d : Int)) ∧ d < Big.M64 ∧ Big.val Big.M64 ((L.drop off).take (N + 1)) / Big.val Big.M64 m ≤ d ∧ Drew w w' := by
  have oX : Big.Ok Big.M64 ((L.drop off).take (N + 1)) := (hoL.drop _).take _
  have lX : ((L.drop off).take (N + 1)).length = N + 1 := by rw [List.length_take, List.length_drop]; omega
  have cX : ∀ i, i < N + 1 → w.cell? ⟨g, off + i, none⟩ = some (.int .u64 ((Big.nth ((L.drop off).take (N + 1)) i : Nat) : Int)) := fun i hi => by
    rw [nth_drop_take L off (N + 1) i hi]; exact hb.cell _ (by omega)
  generalize (L.drop off).take (N + 1) = X at *
  obtain ⟨A, c2, rfl, k1, k2, k3⟩ := hu
  obtain ⟨b, o, rfl, hblt, hcc⟩ := k3 (by omega)
  rw [hm] at k1 ⊢
  have a0 := cX N (by omega)
  have a1 := cX n1 (by omega)
  have a2 := cX n2 (by omega)
  have b1 := hcc n1 (by omega)
  have b2 := hcc n2 (by omega)
  have xb0 := oX.nth Big.M64_pos N
  have xb1 := oX.nth Big.M64_pos n1
  have xb2 := oX.nth Big.M64_pos n2
  have yb1 := om.nth Big.M64_pos n1
  have yb2 := om.nth Big.M64_pos n2
  have hYp : 0 < Big.val Big.M64 m := Nat.pos_of_mul_pos_left (Nat.lt_of_le_of_lt (Nat.zero_le _) hlt)
  have hqM : Big.val Big.M64 X / Big.val Big.M64 m < Big.M64 := (Nat.div_lt_iff_lt_mul hYp).2 hlt
  have hq : Big.val Big.M64 X / Big.val Big.M64 m ≤ ((Big.nth X N * Big.M64 + Big.nth X n1) * Big.M64 + Big.nth X n2) / (Big.nth m n1 * Big.M64 + Big.nth m n2) := by
    obtain rfl : n1 = n2 + 1 := by omega
    obtain rfl : N = n2 + 2 := by omega
    exact quo_top oX lX hm hp
  generalize Big.val Big.M64 X / Big.val Big.M64 m = q at *
  generalize Big.nth X N = x0 at *
  generalize Big.nth X n1 = x1 at *
  generalize Big.nth X n2 = x2 at *
  generalize Big.nth m n1 = y1 at *
  generalize Big.nth m n2 = y2 at *
  have i1 : (N : Int) - 1 = (n1 : Int) := by omega
  have i2 : (N : Int) - 2 = (n2 : Int) := by omega
  have w1 : IntKind.i64.wrap ((N : Int) - 1) = (n1 : Int) := by rw [i1]; exact IntWalk.i64_in _ (by omega)
  have w2 : IntKind.i64.wrap ((N : Int) - 2) = (n2 : Int) := by rw [i2]; exact IntWalk.i64_in _ (by omega)
  have j0 : (N : Int) < (N : Int) + 1 := by omega
  have j1 : (n1 : Int) < (N : Int) + 1 := by omega
  have j2 : (n2 : Int) < (N : Int) + 1 := by omega
  have j3 : (n1 : Int) < (N : Int) := by omega
  have j4 : (n2 : Int) < (N : Int) := by omega
  have HH := Lib.hid (And.intro xb0 (And.intro xb1 (And.intro xb2 (And.intro yb1 (And.intro yb2 (And.intro hp (And.intro hqM hq)))))))
  clear xb0 xb1 xb2 yb1 yb2 hp hqM hq hYp hlt hb hL h1 h2 hoL hm om oX lX cX k3 hcc
  by_cases hge : y1 ≤ x0
  · have t : (y1 : Int) ≤ (x0 : Int) := by omega
    clear hge
    go_enter Tryd.func140, Tryd.ntmps140
    go_wp2_with fail
    go_quiet (fail)
    go_wp2
    go_ret
    exact ⟨18446744073709551615, rfl, by unfold Big.M64; omega, by have := HH.out.2.2.2.2.2.2.1; unfold Big.M64 at this; omega, (Drew.refl _).drewN _⟩
  · have t : ¬ ((y1 : Int) ≤ (x0 : Int)) := by omega
    have hd := Big.Dig.start (B := Big.M64) (U := x0 * Big.M64 + x1) (Y := y1 * Big.M64 + y2) (y1 := y1) (y0 := y2) (v := x2) rfl HH.out.2.2.1 HH.out.2.2.2.2.2.1 Big.M64_pos
    have hdM : (x0 * Big.M64 + x1) / y1 < Big.M64 := Big.digit_lt HH.out.2.1 (by omega)
    have hrM : (x0 * Big.M64 + x1) % y1 < Big.M64 := Nat.lt_trans (Nat.mod_lt _ HH.out.2.2.2.2.2.1) HH.out.2.2.2.1
    have HC := Lib.hid (fun W => div64_call x0 x1 y1 (by omega) HH.out.2.1 HH.out.2.2.2.1 W)
    obtain ⟨d0, hd0⟩ : ∃ d, (x0 * Big.M64 + x1) / y1 = d := ⟨_, rfl⟩
    obtain ⟨r0, hr0⟩ : ∃ d, (x0 * Big.M64 + x1) % y1 = d := ⟨_, rfl⟩
    rw [hd0, hr0] at HC hd
    rw [hd0] at hdM
    rw [hr0] at hrM
    have HD0 := Lib.hid (And.intro hd (And.intro hdM hrM))
    clear hd hdM hrM hd0 hr0 hge
    go_enter Tryd.func140, Tryd.ntmps140
    go_wp2_with fail
    go_quiet (fail)
    go_wp2_with fail
    have e0 : (w.drewN nq).cell? ⟨g, off + N, none⟩ = _ := a0
    have e1 : (w.drewN nq).cell? ⟨g, off + n1, none⟩ = _ := a1
    have e2 : (w.drewN nq).cell? ⟨g, off + n2, none⟩ = _ := a2
    have e3 : (w.drewN nq).cell? ⟨b, o + n1, none⟩ = _ := b1
    have e4 : (w.drewN nq).cell? ⟨b, o + n2, none⟩ = _ := b2
    have HW := Lib.hid ((Drew.refl w).drewN nq)
    clear a0 a1 a2 b1 b2
    generalize w.drewN nq = wa at e0 e1 e2 e3 e4 HW ⊢
    go_quiet ((go_at_call 134; exact Calls.quiet_of (HC.out _)))
    go_wp2_with fail
    have e0' : (wa.drewN nq).cell? ⟨g, off + n2, none⟩ = _ := e2
    have e1' : (wa.drewN nq).cell? ⟨b, o + n1, none⟩ = _ := e3
    have e2' : (wa.drewN nq).cell? ⟨b, o + n2, none⟩ = _ := e4
    have HW' := Lib.hid (HW.out.drewN nq)
    clear e0 e1 e2 e3 e4 HW
    generalize wa.drewN nq = wb at e0' e1' e2' HW' ⊢
    have hx2 := HH.out.2.2.1
    have I1 := Lib.hid i1
    clear i1 w1 j0 j1 HC t
    go_loopw [6, 7] (fun s t wr => ∃ d r : Nat, s = .int .u64 (d : Int) ∧ t = .int .u64 (r : Int) ∧ Hid (Big.Dig Big.M64 (x0 * Big.M64 + x1) (y1 * Big.M64 + y2) y1 x2 d r ∧ d < Big.M64 ∧ r < Big.M64) ∧ Hid (Drew wb wr)) (fun s _ _ => (intOf s).toNat)
    case atStart => exact ⟨d0, r0, rfl, rfl, HD0, Lib.hid (Drew.refl _)⟩
    case round =>
      obtain ⟨d, r, rfl, rfl, HD, HDr⟩ := hrel
      have c0 := (HDr.out.cell _).trans e0'
      have c1 := (HDr.out.cell _).trans e1'
      have c2' := (HDr.out.cell _).trans e2'
      have i1 := I1.out
      have CM := Lib.hid (fun W => mul64 d y2 (by rw [← Big.M64_eq]; exact HD.out.2.1) (by rw [← Big.M64_eq]; exact HH.out.2.2.2.2.1) W)
      by_cases hC : d * y2 ≤ Big.M64 * r + x2
      · have hc := (two_words hx2).2 hC
        have hfin : q ≤ d := Nat.le_trans HH.out.2.2.2.2.2.2.2 HD.out.1.ge
        have HF := Lib.hid hfin
        clear hfin hC
        rcases hc with h1 | ⟨h1, h2⟩
        · have t1 : ((hi64 (d * y2) : Nat) : Int) < (r : Int) := by omega
          generalize d * y2 = p at *
          clear h1 hx2
          go_wp2_with (go_at_call 128; refine (CM.out _).mono ?_; rintro e w' ⟨rfl, rfl⟩)
          go_ret
          exact ⟨d, rfl, HD.out.2.1, HF.out, HW'.out.trans HDr.out⟩
        · have t1 : ¬ (((hi64 (d * y2) : Nat) : Int) < (r : Int)) := by omega
          have t2 : (((hi64 (d * y2) : Nat) : Int) == (r : Int)) = true := by rw [beq_iff_eq]; omega
          have t3 : ((lo64 (d * y2) : Nat) : Int) ≤ (x2 : Int) := by omega
          generalize d * y2 = p at *
          clear h1 h2 hx2
          go_wp2_with (go_at_call 128; refine (CM.out _).mono ?_; rintro e w' ⟨rfl, rfl⟩)
          go_ret
          exact ⟨d, rfl, HD.out.2.1, HF.out, HW'.out.trans HDr.out⟩
      · have hd0 : 0 < d := by
          rcases Nat.eq_zero_or_pos d with h0 | h0
          · subst h0; simp at hC
          · exact h0
        have hle := HD.out.1.too_great rfl Big.M64_pos HH.out.2.2.2.2.2.1 (by omega : Big.M64 * r + x2 < d * y2)
        have HL := Lib.hid (HD.out.1.less hd0 hle)
        have hc : ¬ (hi64 (d * y2) < r ∨ hi64 (d * y2) = r ∧ lo64 (d * y2) ≤ x2) := fun h => hC ((two_words hx2).1 h)
        have HF := Lib.hid (show q ≤ d - 1 from Nat.le_trans HH.out.2.2.2.2.2.2.2 hle)
        have HDM := Lib.hid (show d - 1 < Big.M64 by have := HD.out.2.1; omega)
        have i9 : (d : Int) - 1 = ((d - 1 : Nat) : Int) := by omega
        have HPD := Lib.hid (show d - 1 < d by omega)
        have t1 : ¬ (((hi64 (d * y2) : Nat) : Int) < (r : Int)) := by omega
        have hr64 := HD.out.2.2
        have hy64 := HH.out.2.2.2.1
        have ws : IntKind.u64.wrap ((d : Int) - 1) = ((d - 1 : Nat) : Int) := by
          rw [i9]; exact wrapN _ (by have := HD.out.2.1; rw [Big.M64_eq] at this; omega)
        have WD := Lib.hid (wrapN (d - 1) (by have := HD.out.2.1; rw [Big.M64_eq] at this; omega))
        have hsum := lo_hi (r + y1)
        have hcar : hi64 (r + y1) ≤ 1 := hi64_le (by rw [Big.M64_eq] at hr64 hy64; omega)
        have hlo := lo64_lt (r + y1)
        have hd1 : (1 : Int) ≤ (d : Int) := by omega
        generalize d - 1 = d' at *
        have fin : (((hi64 (d * y2) : Nat) : Int) == (r : Int)) = false ∨ ((((hi64 (d * y2) : Nat) : Int) == (r : Int)) = true ∧ ¬ (((lo64 (d * y2) : Nat) : Int) ≤ (x2 : Int))) := by
          by_cases h : hi64 (d * y2) = r
          · right
            refine ⟨by rw [beq_iff_eq]; omega, ?_⟩
            intro h2
            exact hc (Or.inr ⟨h, by omega⟩)
          · left
            rw [beq_eq_false_iff_ne]; omega
        generalize d * y2 = p at *
        clear hC hle hc hx2 hr64 hy64
        rcases Nat.eq_zero_or_pos (hi64 (r + y1)) with hz | hz
        · have HS := Lib.hid (show lo64 (r + y1) = r + y1 by omega)
          have HSM := Lib.hid (show lo64 (r + y1) < Big.M64 by rw [Big.M64_eq]; exact hlo)
          have t4 : (((hi64 (r + y1) : Nat) : Int) != 0) = false := by rw [hz]; rfl
          clear hsum hcar hlo hz
          rcases fin with t2 | ⟨t2, t3⟩
          · go_wp2_with (first
              | (go_at_call 128; refine (CM.out _).mono ?_; rintro e w' ⟨rfl, rfl⟩)
              | simp only [add64_0 r y1])
            go_roundw
            case rel =>
              (repeat apply Exists.intro)
              refine ⟨⟨d', ?_, lo64 (r + y1), ?_, ?_⟩, rfl, rfl, rfl⟩
              · exact congrArg (Value.int .u64) WD.out
              · rfl
              · exact Lib.hid ⟨by rw [HS.out]; exact HL.out, HDM.out, HSM.out⟩
            case measure => simp only [intOf, WD.out]; have := HPD.out; omega
          · go_wp2_with (first
              | (go_at_call 128; refine (CM.out _).mono ?_; rintro e w' ⟨rfl, rfl⟩)
              | simp only [add64_0 r y1])
            go_roundw
            case rel =>
              (repeat apply Exists.intro)
              refine ⟨⟨d', ?_, lo64 (r + y1), ?_, ?_⟩, rfl, rfl, rfl⟩
              · exact congrArg (Value.int .u64) WD.out
              · rfl
              · exact Lib.hid ⟨by rw [HS.out]; exact HL.out, HDM.out, HSM.out⟩
            case measure => simp only [intOf, WD.out]; have := HPD.out; omega
        · have t4 : (((hi64 (r + y1) : Nat) : Int) != 0) = true := by rw [bne_iff_ne]; omega
          clear hsum hcar hlo hz
          rcases fin with t2 | ⟨t2, t3⟩
          · go_wp2_with (first
              | (go_at_call 128; refine (CM.out _).mono ?_; rintro e w' ⟨rfl, rfl⟩)
              | simp only [add64_0 r y1])
            go_ret
            exact ⟨d', ret_int WD.out, HDM.out, HF.out, HW'.out.trans HDr.out⟩
          · go_wp2_with (first
              | (go_at_call 128; refine (CM.out _).mono ?_; rintro e w' ⟨rfl, rfl⟩)
              | simp only [add64_0 r y1])
            go_ret
            exact ⟨d', ret_int WD.out, HDM.out, HF.out, HW'.out.trans HDr.out⟩
end Go.Proofs.YtgdcahdnojaebaaDoor
/- nat: takeDigit. -/
namespace Go.Proofs.YtgdcahdnojaebaaDoor
open Go.RowKit

/-- The digit and what is left. -/
theorem digit_fin {X Y d z : Nat} (hz : z + Y * d = X) (hq : X / Y ≤ d) (hY : 0 < Y) : d = X / Y ∧ z = X % Y := by
  have h1 : d ≤ X / Y := (Nat.le_div_iff_mul_le hY).2 (by rw [Nat.mul_comm]; omega)
  have e : d = X / Y := Nat.le_antisymm h1 hq
  refine ⟨e, ?_⟩
  have := Nat.div_add_mod X Y
  rw [← e] at this
  omega
theorem digit_less {X Y d z P : Nat} (hz : z + Y * d = X + P) (hzP : z < P) (hY : 0 < Y) : 0 < d ∧ X / Y ≤ d - 1 := by
  have h1 : X < Y * d := by omega
  have h2 : X / Y < d := by rw [Nat.div_lt_iff_lt_mul hY, Nat.mul_comm]; exact h1
  generalize X / Y = q at *
  omega
theorem digit_back {X Y d z z' P l : Nat} (hz : z + Y * d = X + P) (hd : 0 < d) (h : z' + P * l = z + Y) (hl : l ≤ 1) : z' + Y * (d - 1) = X + P * (1 - l) := by
  have e : Y * d = Y * (d - 1) + Y := by
    conv => lhs; rw [show d = d - 1 + 1 by omega]
    rw [Nat.mul_add, Nat.mul_one]
  rcases Nat.eq_zero_or_pos l with h0 | h0
  · subst h0; rw [Nat.sub_zero, Nat.mul_one]; rw [Nat.mul_zero] at h; omega
  · have : l = 1 := by omega
    subst this; rw [Nat.sub_self, Nat.mul_zero]; rw [Nat.mul_one] at h; omega

theorem mid_take {L zs r : List Nat} {off : Nat} (h : off ≤ L.length) : (L.take off ++ (zs ++ r)).take off = L.take off := by
  rw [List.take_append_of_le_length (by rw [List.length_take]; omega), List.take_take, Nat.min_self]
theorem mid_drop {L zs r : List Nat} {off n : Nat} (h : off ≤ L.length) (hz : zs.length = n) : (L.take off ++ (zs ++ r)).drop (off + n) = r := by
  rw [← List.append_assoc]
  exact List.drop_left' (by rw [List.length_append, List.length_take, hz]; omega)
theorem mid_mid {L zs r : List Nat} {off n : Nat} (h : off ≤ L.length) (hz : zs.length = n) : ((L.take off ++ (zs ++ r)).drop off).take n = zs := by
  rw [List.drop_left' (by rw [List.length_take]; omega), List.take_left' hz]

set_option maxRecDepth 100000 in
set_option maxHeartbeats 4000000 in
/-- nat.takeDigit: how often y goes out of x; x is what is left. -/
theorem takeDigit_any (w : World) (g off N n1 n2 c : Nat) (L m : List Nat) (u : Value) (hb : Blk w g 71 .u64 L) (hL : off + N + 1 ≤ L.length) (hc : N + 1 ≤ c) (h1 : n1 + 1 = N) (h2 : n2 + 2 = N)
    (hoL : Big.Ok Big.M64 L) (hu : WdB g w .u64 u m) (hm : m.length = N) (om : Big.Ok Big.M64 m) (hp : 0 < Big.nth m n1)
    (hlt : Big.val Big.M64 ((L.drop off).take (N + 1)) < Big.M64 * Big.val Big.M64 m) (hN : N ≤ 1000000000) :
    Calls Tryd.prog 112 #[.slice (some ⟨g, off, none⟩) (N + 1) c, u] w fun e w' =>
      ∃ (d : Nat) (zs : List Nat), e = .returned (.int .u64 (d : Int)) ∧ d < Big.M64 ∧ zs.length = N + 1 ∧ Big.Ok Big.M64 zs ∧ d = Big.val Big.M64 ((L.drop off).take (N + 1)) / Big.val Big.M64 m ∧
        Big.val Big.M64 zs = Big.val Big.M64 ((L.drop off).take (N + 1)) % Big.val Big.M64 m ∧ Blk w' g 71 .u64 (L.take off ++ (zs ++ L.drop (off + (N + 1)))) ∧ Only g w w' := by
  have CG := Lib.hid (guessDigit_any w g off N n1 n2 c L m u hb hL h1 h2 hoL hu hm om hp hlt hN)
  have hY : 0 < Big.val Big.M64 m := Nat.pos_of_mul_pos_left (Nat.lt_of_le_of_lt (Nat.zero_le _) hlt)
  have hg := hb.lt
  have HB0 := Lib.hid hb; have HU := Lib.hid hu; have OL := Lib.hid hoL; have OM := Lib.hid om; have HM := Lib.hid hm; have HLL := Lib.hid hL; have HYY := Lib.hid hY
  have HC := Lib.hid hc
  obtain ⟨A, c2, rfl, -, -, -⟩ := hu
  rw [hm] at CG HU ⊢
  clear hb hL hc h1 h2 hoL hm om hp hlt hY
  obtain ⟨P, hP⟩ : ∃ P, Big.M64 ^ (N + 1) = P := ⟨_, rfl⟩
  have HP := Lib.hid hP
  clear hP
  go_enter Tryd.func112, Tryd.ntmps112
  go_wp2_with fail
  refine CG.out.mono ?_
  rintro e w1 ⟨d0, rfl, hdM, hdq, hdr⟩
  have HDM := Lib.hid hdM; have HDQ := Lib.hid hdq; have HDr := Lib.hid hdr
  clear hdM hdq hdr
  go_wp2_with fail
  refine (subProduct_any w1 g off N c d0 L m _ (HB0.out.drew HDr.out) (by have := HLL.out; omega) HC.out OL.out (HU.out.keep fun b o _ => HDr.out.cell _) HM.out OM.out HDM.out).mono ?_
  rintro e w2 ⟨l, zs, rfl, hl1, hzl, hzo, hzv, hzb, hzw⟩
  rw [HP.out] at hzv
  have HS := Lib.hid (And.intro hzl (And.intro hzo (And.intro hzv (And.intro hzb hzw))))
  have HHS := Lib.hid (show w1.heap.size = w.heap.size by rw [HDr.out.heap])
  clear hzl hzo hzv hzb hzw
  go_wp2_with fail
  go_loopw [5, 6] (fun s t wr => ∃ (d l : Nat) (zs : List Nat), s = .int .u64 (d : Int) ∧ t = .bool ((l : Int) != 0) ∧ l ≤ 1 ∧ Hid (d < Big.M64 ∧ Big.val Big.M64 ((L.drop off).take (N + 1)) / Big.val Big.M64 m ≤ d) ∧
      Hid (zs.length = N + 1 ∧ Big.Ok Big.M64 zs ∧ Big.val Big.M64 zs + Big.val Big.M64 m * d = Big.val Big.M64 ((L.drop off).take (N + 1)) + P * l) ∧
      Hid (Blk wr g 71 .u64 (L.take off ++ (zs ++ L.drop (off + (N + 1))))) ∧ Hid (Only g w1 wr)) (fun s _ _ => (intOf s).toNat)
  case atStart => exact ⟨d0, l, zs, rfl, rfl, hl1, Lib.hid ⟨HDM.out, HDQ.out⟩, Lib.hid ⟨HS.out.1, HS.out.2.1, HS.out.2.2.1⟩, Lib.hid HS.out.2.2.2.1, Lib.hid HS.out.2.2.2.2⟩
  case round =>
    obtain ⟨d, l, zs, rfl, rfl, hl1, HD, HZ, HB, HO⟩ := hrel
    rcases Nat.eq_zero_or_pos l with h0 | h0
    · subst h0
      have F := digit_fin (z := Big.val Big.M64 zs) (Y := Big.val Big.M64 m) (d := d) (X := Big.val Big.M64 ((L.drop off).take (N + 1))) (by have := HZ.out.2.2; omega) HD.out.2 HYY.out
      have HF := Lib.hid F
      clear F
      go_wp2
      go_ret
      refine ⟨d, zs, rfl, HD.out.1, HZ.out.1, HZ.out.2.1, HF.out.1, HF.out.2, HB.out, ?_⟩
      exact (Only.of_below (HDr.out.below _)).trans HO.out
    · obtain rfl : l = 1 := by omega
      have hz := Big.val_lt zs HZ.out.2.1
      rw [HZ.out.1, HP.out] at hz
      have hzv := HZ.out.2.2
      rw [Nat.mul_one] at hzv
      have D := digit_less hzv hz HYY.out
      have hd1 : (1 : Int) ≤ (d : Int) := by omega
      have i9 : (d : Int) - 1 = ((d - 1 : Nat) : Int) := by omega
      have WD := Lib.hid (wrapN (d - 1) (by have := HD.out.1; rw [Big.M64_eq] at this; omega))
      have HD' := Lib.hid (show d - 1 < Big.M64 ∧ Big.val Big.M64 ((L.drop off).take (N + 1)) / Big.val Big.M64 m ≤ d - 1 from ⟨by have := HD.out.1; omega, D.2⟩)
      have HPD := Lib.hid (show d - 1 < d by omega)
      have HZV := Lib.hid (And.intro hzv D.1)
      have hlen : (L.take off ++ (zs ++ L.drop (off + (N + 1)))).length = L.length := len_mid (by have := HLL.out; omega) HZ.out.1
      have hox : Big.Ok Big.M64 (L.take off ++ (zs ++ L.drop (off + (N + 1)))) := (OL.out.take _).append (HZ.out.2.1.append (OL.out.drop _))
      have hmid : ((L.take off ++ (zs ++ L.drop (off + (N + 1)))).drop off).take (N + 1) = zs := by
        exact mid_mid (by have := HLL.out; omega) HZ.out.1
      have CA := Lib.hid (addBack_any wr g off N c (L.take off ++ (zs ++ L.drop (off + (N + 1)))) m _ HB.out (by rw [hlen]; have := HLL.out; omega) HC.out hox
        (HO.out.wdB (Nat.le_refl _) (by have := HHS.out; omega) (HU.out.keep fun b o _ => HDr.out.cell _)) HM.out OM.out)
      rw [hmid] at CA
      clear hz hzv D hlen hox hmid
      obtain ⟨d', hd'⟩ : ∃ d', d - 1 = d' := ⟨_, rfl⟩
      rw [hd'] at i9 WD HD' HPD
      have HE := Lib.hid hd'
      clear hd'
      go_wp2_with fail
      refine CA.out.mono ?_
      rintro e w3 ⟨l', zs', rfl, hl', hzl, hzo, hzv, hzb, hzw⟩
      rw [HP.out] at hzv
      have B := digit_back HZV.out.1 HZV.out.2 hzv hl'
      rw [HE.out] at B
      have hzb' : L.take off ++ (zs' ++ L.drop (off + (N + 1))) = (L.take off ++ (zs ++ L.drop (off + (N + 1)))).take off ++ (zs' ++ (L.take off ++ (zs ++ L.drop (off + (N + 1)))).drop (off + (N + 1))) := by
        rw [mid_take (by have := HLL.out; omega), mid_drop (by have := HLL.out; omega) HZ.out.1]
      rw [← hzb'] at hzb
      have HZ' := Lib.hid (And.intro hzl (And.intro hzo B))
      have HB' := Lib.hid hzb
      have HO' := Lib.hid (HO.out.trans hzw)
      have hnot : (!((l' : Int) != 0)) = (((1 - l' : Nat) : Int) != 0) := by
        rcases Nat.eq_zero_or_pos l' with h0 | h0
        · subst h0; rfl
        · obtain rfl : l' = 1 := by omega
          rfl
      have HNOT := Lib.hid hnot
      have hl1' : 1 - l' ≤ 1 := by omega
      clear hzl hzo hzv hzb hzw B hzb' hnot CA
      go_wp2
      go_roundw
      case rel => exact ⟨d', 1 - l', zs', by rw [WD.out], by rw [← HNOT.out], hl1', HD', HZ', HB', HO'⟩
      case measure => simp only [intOf, WD.out]; have := HPD.out; omega
end Go.Proofs.YtgdcahdnojaebaaDoor
/- nat: QuoRem, Quo. -/
namespace Go.Proofs.YtgdcahdnojaebaaDoor
open Go.RowKit

theorem Blk.only {w w' : World} {g g' : Nat} {t : TypeId} {k : IntKind} {l : List Nat} (h : Blk w g t k l) (ho : Only g' w w') (hne : g ≠ g') : Blk w' g t k l :=
  (ho.block g h.lt (by intro e; injection e with e; exact hne e)).trans h

/-- The divisor, shifted so that its top bit is set, has as many words. -/
theorem shift_fits {r : List Nat} {t s : Nat} (or : Big.Ok Big.M64 r) (hs : s ≤ 63) (ht : t * 2 ^ s < Big.M64) : Big.val Big.M64 (r ++ [t]) * 2 ^ s < Big.M64 ^ (r.length + 1) := by
  have h1 := Big.val_lt r or
  have h2 : (t + 1) * 2 ^ s ≤ Big.M64 := by
    rw [e64 hs] at ht ⊢
    have h3 : t < 2 ^ (64 - s) := by
      rw [Nat.mul_comm (2 ^ s)] at ht
      exact Nat.lt_of_mul_lt_mul_right ht
    rw [Nat.mul_comm (2 ^ s)]
    exact Nat.mul_le_mul_right _ h3
  rw [Big.val_snoc]
  have h4 : Big.val Big.M64 r + Big.M64 ^ r.length * t < Big.M64 ^ r.length * (t + 1) := by
    generalize Big.M64 ^ r.length = P at *
    rw [Nat.mul_add]; omega
  have h5 : (Big.val Big.M64 r + Big.M64 ^ r.length * t) * 2 ^ s < Big.M64 ^ r.length * (t + 1) * 2 ^ s := Nat.mul_lt_mul_of_pos_right h4 (Nat.pow_pos (by omega))
  have h6 : Big.M64 ^ r.length * (t + 1) * 2 ^ s ≤ Big.M64 ^ r.length * Big.M64 := by
    rw [Nat.mul_assoc]; exact Nat.mul_le_mul_left _ h2
  rw [Nat.pow_succ]
  exact Nat.lt_of_lt_of_le h5 h6
/-- Noughts above: what lies below is all. -/
theorem val_low {B : Nat} {Z : List Nat} {n : Nat} (hB : 0 < B) (hl : n ≤ Z.length) (h : Big.val B Z < B ^ n) : Big.val B Z = Big.val B (Z.take n) ∧ Big.val B (Z.drop n) = 0 := by
  have e := Big.val_take_drop (B := B) Z n hl
  have h0 : Big.val B (Z.drop n) = 0 := by
    rcases Nat.eq_zero_or_pos (Big.val B (Z.drop n)) with h0 | h0
    · exact h0
    · exfalso
      have : B ^ n * 1 ≤ B ^ n * Big.val B (Z.drop n) := Nat.mul_le_mul_left _ h0
      rw [Nat.mul_one] at this
      generalize B ^ n = P at *
      omega
  rw [h0, Nat.mul_zero, Nat.add_zero] at e
  exact ⟨e, h0⟩
theorem top_pos {Z : List Nat} {k : Nat} (oZ : Big.Ok Big.M64 Z) (hl : Z.length = k + 1) (h : Big.M64 ^ k ≤ Big.val Big.M64 Z) : 0 < Big.nth Z k := by
  rcases Nat.eq_zero_or_pos (Big.nth Z k) with h0 | h0
  · exfalso
    have e := Big.val_take_succ' (B := Big.M64) Z k
    rw [Big.val_take_all Z _ (by omega), h0, Nat.mul_zero, Nat.add_zero] at e
    have := Big.val_lt (Z.take k) (oZ.take k)
    rw [List.length_take, Nat.min_eq_left (by omega)] at this
    rw [e] at h
    exact Nat.lt_irrefl _ (Nat.lt_of_lt_of_le this h)
  · exact h0

/-- One digit of the quotient more: R the whole, Z what is left of it above, zs the digits so far. -/
theorem long_step {R Z zs zs' : List Nat} {i N D d : Nat} (oZ : Big.Ok Big.M64 Z) (hlen : Z.length = R.length) (hi : i + N + 1 ≤ Z.length) (hD : D < Big.M64 ^ N) (hsame : Z.take (i + 1) = R.take (i + 1))
    (hv : Big.val Big.M64 (R.drop (i + 1)) = Big.val Big.M64 zs * D + Big.val Big.M64 (Z.drop (i + 1))) (hlt : Big.val Big.M64 (Z.drop (i + 1)) < D) :
    Big.val Big.M64 ((Z.drop i).take (N + 1)) < Big.M64 * D ∧ Big.val Big.M64 (Z.drop (i + (N + 1))) = 0 ∧
      Big.val Big.M64 (R.drop i) = (Big.val Big.M64 zs * Big.M64) * D + Big.val Big.M64 ((Z.drop i).take (N + 1)) := by
  have eZ : Big.nth Z i = Big.nth R i := by
    have h1 := congrArg (fun l => Big.nth l i) hsame
    unfold Big.nth at h1 ⊢
    simp only [List.getD_eq_getElem?_getD] at h1 ⊢
    rw [List.getElem?_take_of_lt (by omega), List.getElem?_take_of_lt (by omega)] at h1
    exact h1
  have hX : Big.val Big.M64 (Z.drop i) = Big.nth Z i + Big.M64 * Big.val Big.M64 (Z.drop (i + 1)) := by
    rw [Big.drop_cons Z i (by omega)]; rfl
  have hx := oZ.nth Big.M64_pos i
  have hb : Big.val Big.M64 (Z.drop i) < Big.M64 * D := by
    have h1 : Big.M64 * (Big.val Big.M64 (Z.drop (i + 1)) + 1) ≤ Big.M64 * D := Nat.mul_le_mul_left _ hlt
    rw [Nat.mul_add] at h1
    rw [hX]
    generalize Big.M64 * Big.val Big.M64 (Z.drop (i + 1)) = A at *
    generalize Big.M64 * D = E at *
    omega
  have hb2 : Big.val Big.M64 (Z.drop i) < Big.M64 ^ (N + 1) := by
    refine Nat.lt_of_lt_of_le hb ?_
    rw [Nat.pow_succ, Nat.mul_comm]
    exact Nat.mul_le_mul_right _ (Nat.le_of_lt hD)
  obtain ⟨l1, l2⟩ := val_low (Z := Z.drop i) (n := N + 1) Big.M64_pos (by rw [List.length_drop]; omega) hb2
  rw [List.drop_drop] at l2
  refine ⟨by rw [← l1]; exact hb, l2, ?_⟩
  rw [Big.drop_cons R i (by omega), ← eZ, ← l1, hX]
  simp only [Big.val]
  rw [hv, Nat.mul_add, Nat.mul_right_comm, Nat.mul_comm Big.M64 (Big.val Big.M64 zs * D)]
  generalize Big.val Big.M64 zs * D * Big.M64 = A
  generalize Big.M64 * Big.val Big.M64 (Z.drop (i + 1)) = E
  omega
theorem long_next {Z zs zs' : List Nat} {i N D d X V : Nat} (hi : i + N + 1 ≤ Z.length) (hzl : zs'.length = N + 1) (h0 : Big.val Big.M64 (Z.drop (i + (N + 1))) = 0) (hD : 0 < D)
    (hd : d = X / D) (hz : Big.val Big.M64 zs' = X % D) (hR : V = (Big.val Big.M64 zs * Big.M64) * D + X) :
    V = Big.val Big.M64 (d :: zs) * D + Big.val Big.M64 ((Z.take i ++ (zs' ++ Z.drop (i + (N + 1)))).drop i) ∧ Big.val Big.M64 ((Z.take i ++ (zs' ++ Z.drop (i + (N + 1)))).drop i) < D := by
  have e1 : (Z.take i ++ (zs' ++ Z.drop (i + (N + 1)))).drop i = zs' ++ Z.drop (i + (N + 1)) := List.drop_left' (by rw [List.length_take]; omega)
  rw [e1, Big.val_append, h0, Nat.mul_zero, Nat.add_zero, hz]
  refine ⟨?_, Nat.mod_lt _ hD⟩
  have h := Nat.div_add_mod X D
  rw [← hd] at h
  rw [hR]
  simp only [Big.val]
  rw [Nat.add_mul, Nat.mul_comm Big.M64 (Big.val Big.M64 zs)]
  rw [Nat.mul_comm D d] at h
  generalize Big.val Big.M64 zs * Big.M64 * D = A
  generalize X % D = r at *
  generalize d * D = E at *
  omega

/-- What lies above at the beginning is below the divisor. -/
theorem long_start {R : List Nat} {X s K n1 lx D m : Nat} (hR : Big.val Big.M64 R = X * 2 ^ s) (hX : X < Big.M64 ^ lx) (hK : lx = K + n1) (hm : Big.M64 ^ n1 ≤ m) (hD : m * 2 ^ s = D) (hl : K ≤ R.length) : Big.val Big.M64 (R.drop K) < D := by
  have e := Big.val_take_drop (B := Big.M64) R K hl
  have h1 : X * 2 ^ s < Big.M64 ^ lx * 2 ^ s := Nat.mul_lt_mul_of_pos_right hX (Nat.pow_pos (by omega))
  have h2 : Big.M64 ^ lx * 2 ^ s ≤ Big.M64 ^ K * D := by
    rw [hK, Nat.pow_add, Nat.mul_assoc, ← hD]
    exact Nat.mul_le_mul_left _ (Nat.mul_le_mul_right _ hm)
  have h3 : Big.M64 ^ K * Big.val Big.M64 (R.drop K) < Big.M64 ^ K * D := by
    rw [hR] at e
    generalize Big.M64 ^ K = P at *
    generalize Big.M64 ^ lx = Q at *
    generalize P * Big.val Big.M64 (R.drop K) = A at *
    omega
  exact Nat.lt_of_mul_lt_mul_left h3
theorem long_end {R Z zs : List Nat} {X m s D : Nat} (hR : Big.val Big.M64 R = X * 2 ^ s) (hD : m * 2 ^ s = D) (hm : 0 < m) (hv : Big.val Big.M64 R = Big.val Big.M64 zs * D + Big.val Big.M64 Z) (hlt : Big.val Big.M64 Z < D) :
    Big.val Big.M64 zs = X / m ∧ Big.val Big.M64 Z / 2 ^ s = X % m := by
  have hp : 0 < 2 ^ s := Nat.pow_pos (by omega)
  have hD0 : 0 < D := by rw [← hD]; exact Nat.mul_pos hm hp
  have sd := Big.shift_div (X := X) (y := m) (s := s)
  rw [hD, ← hR, hv] at sd
  refine ⟨?_, ?_⟩
  · rw [← sd.1, Nat.mul_comm, Nat.mul_add_div hD0, Nat.div_eq_of_lt hlt, Nat.add_zero]
  · have h2 := sd.2
    rw [Nat.mul_comm, Nat.mul_add_mod, Nat.mod_eq_of_lt hlt] at h2
    rw [h2, Nat.mul_div_cancel _ hp]
end Go.Proofs.YtgdcahdnojaebaaDoor
