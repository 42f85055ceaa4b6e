/- Contracts, in this order: package grain: Level; Sample of a sample's level. -/
import Derived.Test.YtgcgmplepcfbaaaGreatDoorBh01
import Derived.Test.YtgcgmplepcfbaaaGreatDoorBh12
import Derived.Test.YtgcgmplepcfbaaaGreatDoorBh02
/- package grain: Level; Sample of a sample's level. -/
namespace Go.Proofs.YtgcgmplepcfbaaaGreatDoor
open Go.RowKit Ieee Fl

theorem rp_whole {c : Nat} (h : c < 9007199254740992) : Rp (c * P74) := by
  rcases Nat.eq_zero_or_pos c with h0 | h0
  · subst h0
    exact ⟨0, Nat.zero_le _, by rw [Nat.zero_mul]; exact V_zero⟩
  · obtain ⟨h1, h2, _⟩ := fw_is h0 h
    exact ⟨fw c, rung_le _ _, h1⟩
theorem whole_fin {c : Nat} (h : c < 9007199254740992) : c * P74 < V INF := by
  rcases Nat.eq_zero_or_pos c with h0 | h0
  · subst h0
    rw [Nat.zero_mul]; exact V_inf_pos
  · obtain ⟨h1, h2, _⟩ := fw_is h0 h
    rw [← h1]
    refine V_lt ?_
    have e7 : E74 = 1074 := E74_eq
    unfold INF
    rw [e7] at h2
    omega
theorem Rd_rep {T : Int} (h : Rp T.natAbs) : Rd T = T := by
  unfold Rd
  rw [rung_rep h]
  unfold sg
  by_cases h0 : T < 0
  · rw [if_pos (decide_eq_true h0)]; omega
  · rw [if_neg (by simpa using h0)]; omega
theorem abs_mul_P (t : Int) : (t * (P74 : Int)).natAbs = t.natAbs * P74 := by rw [Int.natAbs_mul, Int.natAbs_natCast]
theorem not_inf {y c : Nat} (hc : c < 9007199254740992) (h : (sv y).natAbs = c * P74) : rg y ≠ INF := by
  intro hi
  have h1 := sv_inf hi
  have h2 := whole_fin hc
  rw [h1] at h
  have h3 : (sg (ngb y) (V INF)).natAbs = V INF := by unfold sg; split <;> omega
  omega
theorem sv_KW : sv KW = 6755399441055744 * (P74 : Int) := by
  have h : V (rg KW) = 6755399441055744 * P74 := by
    have e : rg KW = E74 * 4503599627370496 + 6755399441055744 := by rw [E74_eq]; unfold rg KW; decide
    have hP : P74 = 2 ^ E74 := by unfold P74; exact Eq.refl _
    rw [e, V_norm (by omega) (fun _ => by omega), hP]
  have hb : ngb KW = false := by decide
  unfold sv sg
  rw [h, hb, if_neg (by simp)]
  simp
theorem smp_exact {x : Nat} {s : Int} (hv : 32768 * sv x = s * (P74 : Int)) (h0 : -32768 ≤ s) (h1 : s ≤ 32767) : smp x = s ∧ smpB x = true := by
  have hP := P74_pos
  have a1 : sv (s1 x) = s * (P74 : Int) := by
    unfold s1
    rw [sv_wd _ (rung_le _ _), ← hv]
    have hV : V (rg x) * 2 ^ 15 = s.natAbs * P74 := by
      have := congrArg Int.natAbs hv
      rw [abs_mul_P, Int.natAbs_mul] at this
      have e : (sv x).natAbs = V (rg x) := by unfold sv sg; split <;> omega
      rw [e] at this
      rw [← this, Nat.mul_comm]
      rfl
    have hr : rung (V (rg x)) (-1059) = rung (V (rg x) * 2 ^ 15) (-1074) := by rw [rung_shift]; rfl
    rw [hr, hV, rung_rep (rp_whole (by omega)), ← hV]
    unfold sv sg
    split <;> omega
  have b1 : rg (s1 x) ≠ INF := not_inf (c := s.natAbs) (by omega) (by rw [a1, abs_mul_P])
  have a2 : sv (s2 (s1 x)) = (s + 6755399441055744) * (P74 : Int) := by
    unfold s2
    rw [if_neg b1, sumS_sv, a1, sv_KW, ← Int.add_mul]
    exact Rd_rep (by rw [abs_mul_P]; exact rp_whole (by omega))
  have b2 : rg (s2 (s1 x)) ≠ INF := not_inf (c := (s + 6755399441055744).natAbs) (by omega) (by rw [a2, abs_mul_P])
  have a3 : sv (near x) = s * (P74 : Int) := by
    show sv (s3 (s2 (s1 x))) = _
    unfold s3
    rw [if_neg b2, sumS_sv, a2, sv_KW, ← Int.sub_mul, Int.add_sub_cancel]
    exact Rd_rep (by rw [abs_mul_P]; exact rp_whole (by omega))
  have hPi : (0 : Int) < (P74 : Int) := by omega
  have c1 : ¬ sv KL ≤ sv (near x) := by
    rw [a3, sv_KL]
    intro h
    have := Int.le_of_mul_le_mul_right h hPi
    omega
  have c2 : ¬ sv (near x) < sv KM := by
    rw [a3, sv_KM, ← Int.neg_mul]
    intro h
    have := Int.lt_of_mul_lt_mul_right h (Int.le_of_lt hPi)
    omega
  unfold smp smpB
  rw [if_neg c1, if_neg c2, if_neg c1, if_neg c2, a3]
  refine ⟨?_, rfl⟩
  unfold tr
  rw [abs_mul_P, Nat.mul_div_cancel _ hP]
  unfold sg
  by_cases hs : s < 0
  · have : s * (P74 : Int) < 0 := Int.mul_neg_of_neg_of_pos hs hPi
    rw [if_pos (decide_eq_true this)]; omega
  · have : ¬ s * (P74 : Int) < 0 := by
      have := Int.mul_nonneg (Int.not_lt.1 hs) (Int.le_of_lt hPi)
      omega
    rw [if_neg (by simpa using this)]; omega

/-- The rung of n over 32768. -/
def r0 (n : Nat) : Nat := if n = 0 then 0 else (1007 + n.log2) * 4503599627370496 + n * 2 ^ (52 - n.log2)
theorem two_split {a b c : Nat} (h : a + b = c) : 2 ^ a * 2 ^ b = 2 ^ c := by rw [← Nat.pow_add, h]
def E59 : Nat := 1059
theorem E59_eq : E59 = 1059 := rfl
theorem r0_is {n : Nat} (h : n ≤ 32768) : 32768 * V (r0 n) = n * P74 ∧ r0 n ≤ INF := by
  unfold r0
  by_cases h0 : n = 0
  · subst h0
    rw [if_pos rfl, V_zero]; exact ⟨by omega, Nat.zero_le _⟩
  · rw [if_neg h0]
    have l1 := Nat.log2_self_le h0
    have l2 : n < 2 ^ (n.log2 + 1) := Nat.lt_log2_self
    have l3 : n.log2 < 16 := (Nat.log2_lt h0).2 (by omega)
    generalize n.log2 = k at *
    have k1 : 4503599627370496 ≤ n * 2 ^ (52 - k) := by
      have : 2 ^ k * 2 ^ (52 - k) = 4503599627370496 := two_split (c := 52) (by omega)
      rw [← this]; exact Nat.mul_le_mul_right _ l1
    have k2 : n * 2 ^ (52 - k) ≤ 9007199254740992 := by
      have : 2 ^ (k + 1) * 2 ^ (52 - k) = 9007199254740992 := two_split (c := 53) (by omega)
      rw [← this]; exact Nat.mul_le_mul_right _ (Nat.le_of_lt l2)
    refine ⟨?_, by unfold INF; omega⟩
    have hP : P74 = 2 ^ E74 := by unfold P74; exact Eq.refl _
    have x1 : 2 ^ (52 - k) * 2 ^ (1007 + k) = 2 ^ E59 := two_split (by rw [E59_eq]; omega)
    have x2 : 2 ^ 15 * 2 ^ E59 = 2 ^ E74 := two_split (by rw [E59_eq, E74_eq])
    rw [V_norm k2 (fun _ => k1), Nat.mul_assoc n, x1, Nat.mul_left_comm, show (32768 : Nat) = 2 ^ 15 by decide, x2, hP]
/-- A sample's level, as a float's bits. -/
def lev (s : Int) : Nat := wd (decide (s < 0)) (r0 s.natAbs)
/-- The level of n is n over 32768. -/
noncomputable def lvb (n : Nat) : Bool := match double.div (fw n) KL with
  | some L => Nat.beq L (r0 n)
  | none => false
/-- All of n numbers from k on. -/
noncomputable def lvs (n : Nat) : Nat → Bool := Nat.rec (motive := fun _ => Nat → Bool) (fun _ => true) (fun _ ih k => Bool.rec (motive := fun _ => Bool) false (ih (Nat.succ k)) (lvb k)) n
theorem lvs_of (n : Nat) : ∀ k, lvs n k = true → ∀ i, k ≤ i → i < k + n → lvb i = true := by
  induction n with
  | zero => intro k _ i h1 h2; omega
  | succ n ih =>
    intro k h i h1 h2
    have e : lvs (n + 1) k = Bool.rec (motive := fun _ => Bool) false (lvs n (Nat.succ k)) (lvb k) := rfl
    rw [e] at h
    cases hb : lvb k with
    | false => rw [hb] at h; cases h
    | true =>
      rw [hb] at h
      by_cases hi : i = k
      · subst hi; exact hb
      · exact ih _ h i (by show k + 1 ≤ i; omega) (by show i < k + 1 + n; omega)
theorem lv_grow {a b k : Nat} (h1 : ∀ i, i < a → lvb i = true) (h2 : lvs b k = true) (hk : k = a) : ∀ i, i < a + b → lvb i = true := by
  subst hk
  intro i hi
  by_cases h : i < k
  · exact h1 i h
  · exact lvs_of b k h2 i (by omega) (by omega)
set_option maxRecDepth 100000
theorem lvk_0 : ∀ i, i < 0 → lvb i = true := fun i h => by omega
theorem lvk_1 : ∀ i, i < 256 → lvb i = true := lv_grow lvk_0 (b := 256) (k := 0) (by kernel_rfl) rfl
theorem lvk_2 : ∀ i, i < 512 → lvb i = true := lv_grow lvk_1 (b := 256) (k := 256) (by kernel_rfl) rfl
theorem lvk_3 : ∀ i, i < 768 → lvb i = true := lv_grow lvk_2 (b := 256) (k := 512) (by kernel_rfl) rfl
theorem lvk_4 : ∀ i, i < 1024 → lvb i = true := lv_grow lvk_3 (b := 256) (k := 768) (by kernel_rfl) rfl
theorem lvk_5 : ∀ i, i < 1280 → lvb i = true := lv_grow lvk_4 (b := 256) (k := 1024) (by kernel_rfl) rfl
theorem lvk_6 : ∀ i, i < 1536 → lvb i = true := lv_grow lvk_5 (b := 256) (k := 1280) (by kernel_rfl) rfl
theorem lvk_7 : ∀ i, i < 1792 → lvb i = true := lv_grow lvk_6 (b := 256) (k := 1536) (by kernel_rfl) rfl
theorem lvk_8 : ∀ i, i < 2048 → lvb i = true := lv_grow lvk_7 (b := 256) (k := 1792) (by kernel_rfl) rfl
theorem lvk_9 : ∀ i, i < 2304 → lvb i = true := lv_grow lvk_8 (b := 256) (k := 2048) (by kernel_rfl) rfl
theorem lvk_10 : ∀ i, i < 2560 → lvb i = true := lv_grow lvk_9 (b := 256) (k := 2304) (by kernel_rfl) rfl
theorem lvk_11 : ∀ i, i < 2816 → lvb i = true := lv_grow lvk_10 (b := 256) (k := 2560) (by kernel_rfl) rfl
theorem lvk_12 : ∀ i, i < 3072 → lvb i = true := lv_grow lvk_11 (b := 256) (k := 2816) (by kernel_rfl) rfl
theorem lvk_13 : ∀ i, i < 3328 → lvb i = true := lv_grow lvk_12 (b := 256) (k := 3072) (by kernel_rfl) rfl
theorem lvk_14 : ∀ i, i < 3584 → lvb i = true := lv_grow lvk_13 (b := 256) (k := 3328) (by kernel_rfl) rfl
theorem lvk_15 : ∀ i, i < 3840 → lvb i = true := lv_grow lvk_14 (b := 256) (k := 3584) (by kernel_rfl) rfl
theorem lvk_16 : ∀ i, i < 4096 → lvb i = true := lv_grow lvk_15 (b := 256) (k := 3840) (by kernel_rfl) rfl
theorem lvk_17 : ∀ i, i < 4352 → lvb i = true := lv_grow lvk_16 (b := 256) (k := 4096) (by kernel_rfl) rfl
theorem lvk_18 : ∀ i, i < 4608 → lvb i = true := lv_grow lvk_17 (b := 256) (k := 4352) (by kernel_rfl) rfl
theorem lvk_19 : ∀ i, i < 4864 → lvb i = true := lv_grow lvk_18 (b := 256) (k := 4608) (by kernel_rfl) rfl
theorem lvk_20 : ∀ i, i < 5120 → lvb i = true := lv_grow lvk_19 (b := 256) (k := 4864) (by kernel_rfl) rfl
theorem lvk_21 : ∀ i, i < 5376 → lvb i = true := lv_grow lvk_20 (b := 256) (k := 5120) (by kernel_rfl) rfl
theorem lvk_22 : ∀ i, i < 5632 → lvb i = true := lv_grow lvk_21 (b := 256) (k := 5376) (by kernel_rfl) rfl
theorem lvk_23 : ∀ i, i < 5888 → lvb i = true := lv_grow lvk_22 (b := 256) (k := 5632) (by kernel_rfl) rfl
theorem lvk_24 : ∀ i, i < 6144 → lvb i = true := lv_grow lvk_23 (b := 256) (k := 5888) (by kernel_rfl) rfl
theorem lvk_25 : ∀ i, i < 6400 → lvb i = true := lv_grow lvk_24 (b := 256) (k := 6144) (by kernel_rfl) rfl
theorem lvk_26 : ∀ i, i < 6656 → lvb i = true := lv_grow lvk_25 (b := 256) (k := 6400) (by kernel_rfl) rfl
theorem lvk_27 : ∀ i, i < 6912 → lvb i = true := lv_grow lvk_26 (b := 256) (k := 6656) (by kernel_rfl) rfl
theorem lvk_28 : ∀ i, i < 7168 → lvb i = true := lv_grow lvk_27 (b := 256) (k := 6912) (by kernel_rfl) rfl
theorem lvk_29 : ∀ i, i < 7424 → lvb i = true := lv_grow lvk_28 (b := 256) (k := 7168) (by kernel_rfl) rfl
theorem lvk_30 : ∀ i, i < 7680 → lvb i = true := lv_grow lvk_29 (b := 256) (k := 7424) (by kernel_rfl) rfl
theorem lvk_31 : ∀ i, i < 7936 → lvb i = true := lv_grow lvk_30 (b := 256) (k := 7680) (by kernel_rfl) rfl
theorem lvk_32 : ∀ i, i < 8192 → lvb i = true := lv_grow lvk_31 (b := 256) (k := 7936) (by kernel_rfl) rfl
theorem lvk_33 : ∀ i, i < 8448 → lvb i = true := lv_grow lvk_32 (b := 256) (k := 8192) (by kernel_rfl) rfl
theorem lvk_34 : ∀ i, i < 8704 → lvb i = true := lv_grow lvk_33 (b := 256) (k := 8448) (by kernel_rfl) rfl
theorem lvk_35 : ∀ i, i < 8960 → lvb i = true := lv_grow lvk_34 (b := 256) (k := 8704) (by kernel_rfl) rfl
theorem lvk_36 : ∀ i, i < 9216 → lvb i = true := lv_grow lvk_35 (b := 256) (k := 8960) (by kernel_rfl) rfl
theorem lvk_37 : ∀ i, i < 9472 → lvb i = true := lv_grow lvk_36 (b := 256) (k := 9216) (by kernel_rfl) rfl
theorem lvk_38 : ∀ i, i < 9728 → lvb i = true := lv_grow lvk_37 (b := 256) (k := 9472) (by kernel_rfl) rfl
theorem lvk_39 : ∀ i, i < 9984 → lvb i = true := lv_grow lvk_38 (b := 256) (k := 9728) (by kernel_rfl) rfl
theorem lvk_40 : ∀ i, i < 10240 → lvb i = true := lv_grow lvk_39 (b := 256) (k := 9984) (by kernel_rfl) rfl
theorem lvk_41 : ∀ i, i < 10496 → lvb i = true := lv_grow lvk_40 (b := 256) (k := 10240) (by kernel_rfl) rfl
theorem lvk_42 : ∀ i, i < 10752 → lvb i = true := lv_grow lvk_41 (b := 256) (k := 10496) (by kernel_rfl) rfl
theorem lvk_43 : ∀ i, i < 11008 → lvb i = true := lv_grow lvk_42 (b := 256) (k := 10752) (by kernel_rfl) rfl
theorem lvk_44 : ∀ i, i < 11264 → lvb i = true := lv_grow lvk_43 (b := 256) (k := 11008) (by kernel_rfl) rfl
theorem lvk_45 : ∀ i, i < 11520 → lvb i = true := lv_grow lvk_44 (b := 256) (k := 11264) (by kernel_rfl) rfl
theorem lvk_46 : ∀ i, i < 11776 → lvb i = true := lv_grow lvk_45 (b := 256) (k := 11520) (by kernel_rfl) rfl
theorem lvk_47 : ∀ i, i < 12032 → lvb i = true := lv_grow lvk_46 (b := 256) (k := 11776) (by kernel_rfl) rfl
theorem lvk_48 : ∀ i, i < 12288 → lvb i = true := lv_grow lvk_47 (b := 256) (k := 12032) (by kernel_rfl) rfl
theorem lvk_49 : ∀ i, i < 12544 → lvb i = true := lv_grow lvk_48 (b := 256) (k := 12288) (by kernel_rfl) rfl
theorem lvk_50 : ∀ i, i < 12800 → lvb i = true := lv_grow lvk_49 (b := 256) (k := 12544) (by kernel_rfl) rfl
theorem lvk_51 : ∀ i, i < 13056 → lvb i = true := lv_grow lvk_50 (b := 256) (k := 12800) (by kernel_rfl) rfl
theorem lvk_52 : ∀ i, i < 13312 → lvb i = true := lv_grow lvk_51 (b := 256) (k := 13056) (by kernel_rfl) rfl
theorem lvk_53 : ∀ i, i < 13568 → lvb i = true := lv_grow lvk_52 (b := 256) (k := 13312) (by kernel_rfl) rfl
theorem lvk_54 : ∀ i, i < 13824 → lvb i = true := lv_grow lvk_53 (b := 256) (k := 13568) (by kernel_rfl) rfl
theorem lvk_55 : ∀ i, i < 14080 → lvb i = true := lv_grow lvk_54 (b := 256) (k := 13824) (by kernel_rfl) rfl
theorem lvk_56 : ∀ i, i < 14336 → lvb i = true := lv_grow lvk_55 (b := 256) (k := 14080) (by kernel_rfl) rfl
theorem lvk_57 : ∀ i, i < 14592 → lvb i = true := lv_grow lvk_56 (b := 256) (k := 14336) (by kernel_rfl) rfl
theorem lvk_58 : ∀ i, i < 14848 → lvb i = true := lv_grow lvk_57 (b := 256) (k := 14592) (by kernel_rfl) rfl
theorem lvk_59 : ∀ i, i < 15104 → lvb i = true := lv_grow lvk_58 (b := 256) (k := 14848) (by kernel_rfl) rfl
theorem lvk_60 : ∀ i, i < 15360 → lvb i = true := lv_grow lvk_59 (b := 256) (k := 15104) (by kernel_rfl) rfl
theorem lvk_61 : ∀ i, i < 15616 → lvb i = true := lv_grow lvk_60 (b := 256) (k := 15360) (by kernel_rfl) rfl
theorem lvk_62 : ∀ i, i < 15872 → lvb i = true := lv_grow lvk_61 (b := 256) (k := 15616) (by kernel_rfl) rfl
theorem lvk_63 : ∀ i, i < 16128 → lvb i = true := lv_grow lvk_62 (b := 256) (k := 15872) (by kernel_rfl) rfl
theorem lvk_64 : ∀ i, i < 16384 → lvb i = true := lv_grow lvk_63 (b := 256) (k := 16128) (by kernel_rfl) rfl
theorem lvk_65 : ∀ i, i < 16640 → lvb i = true := lv_grow lvk_64 (b := 256) (k := 16384) (by kernel_rfl) rfl
theorem lvk_66 : ∀ i, i < 16896 → lvb i = true := lv_grow lvk_65 (b := 256) (k := 16640) (by kernel_rfl) rfl
theorem lvk_67 : ∀ i, i < 17152 → lvb i = true := lv_grow lvk_66 (b := 256) (k := 16896) (by kernel_rfl) rfl
theorem lvk_68 : ∀ i, i < 17408 → lvb i = true := lv_grow lvk_67 (b := 256) (k := 17152) (by kernel_rfl) rfl
theorem lvk_69 : ∀ i, i < 17664 → lvb i = true := lv_grow lvk_68 (b := 256) (k := 17408) (by kernel_rfl) rfl
theorem lvk_70 : ∀ i, i < 17920 → lvb i = true := lv_grow lvk_69 (b := 256) (k := 17664) (by kernel_rfl) rfl
theorem lvk_71 : ∀ i, i < 18176 → lvb i = true := lv_grow lvk_70 (b := 256) (k := 17920) (by kernel_rfl) rfl
theorem lvk_72 : ∀ i, i < 18432 → lvb i = true := lv_grow lvk_71 (b := 256) (k := 18176) (by kernel_rfl) rfl
theorem lvk_73 : ∀ i, i < 18688 → lvb i = true := lv_grow lvk_72 (b := 256) (k := 18432) (by kernel_rfl) rfl
theorem lvk_74 : ∀ i, i < 18944 → lvb i = true := lv_grow lvk_73 (b := 256) (k := 18688) (by kernel_rfl) rfl
theorem lvk_75 : ∀ i, i < 19200 → lvb i = true := lv_grow lvk_74 (b := 256) (k := 18944) (by kernel_rfl) rfl
theorem lvk_76 : ∀ i, i < 19456 → lvb i = true := lv_grow lvk_75 (b := 256) (k := 19200) (by kernel_rfl) rfl
theorem lvk_77 : ∀ i, i < 19712 → lvb i = true := lv_grow lvk_76 (b := 256) (k := 19456) (by kernel_rfl) rfl
theorem lvk_78 : ∀ i, i < 19968 → lvb i = true := lv_grow lvk_77 (b := 256) (k := 19712) (by kernel_rfl) rfl
theorem lvk_79 : ∀ i, i < 20224 → lvb i = true := lv_grow lvk_78 (b := 256) (k := 19968) (by kernel_rfl) rfl
theorem lvk_80 : ∀ i, i < 20480 → lvb i = true := lv_grow lvk_79 (b := 256) (k := 20224) (by kernel_rfl) rfl
theorem lvk_81 : ∀ i, i < 20736 → lvb i = true := lv_grow lvk_80 (b := 256) (k := 20480) (by kernel_rfl) rfl
theorem lvk_82 : ∀ i, i < 20992 → lvb i = true := lv_grow lvk_81 (b := 256) (k := 20736) (by kernel_rfl) rfl
theorem lvk_83 : ∀ i, i < 21248 → lvb i = true := lv_grow lvk_82 (b := 256) (k := 20992) (by kernel_rfl) rfl
theorem lvk_84 : ∀ i, i < 21504 → lvb i = true := lv_grow lvk_83 (b := 256) (k := 21248) (by kernel_rfl) rfl
theorem lvk_85 : ∀ i, i < 21760 → lvb i = true := lv_grow lvk_84 (b := 256) (k := 21504) (by kernel_rfl) rfl
theorem lvk_86 : ∀ i, i < 22016 → lvb i = true := lv_grow lvk_85 (b := 256) (k := 21760) (by kernel_rfl) rfl
theorem lvk_87 : ∀ i, i < 22272 → lvb i = true := lv_grow lvk_86 (b := 256) (k := 22016) (by kernel_rfl) rfl
theorem lvk_88 : ∀ i, i < 22528 → lvb i = true := lv_grow lvk_87 (b := 256) (k := 22272) (by kernel_rfl) rfl
theorem lvk_89 : ∀ i, i < 22784 → lvb i = true := lv_grow lvk_88 (b := 256) (k := 22528) (by kernel_rfl) rfl
theorem lvk_90 : ∀ i, i < 23040 → lvb i = true := lv_grow lvk_89 (b := 256) (k := 22784) (by kernel_rfl) rfl
theorem lvk_91 : ∀ i, i < 23296 → lvb i = true := lv_grow lvk_90 (b := 256) (k := 23040) (by kernel_rfl) rfl
theorem lvk_92 : ∀ i, i < 23552 → lvb i = true := lv_grow lvk_91 (b := 256) (k := 23296) (by kernel_rfl) rfl
theorem lvk_93 : ∀ i, i < 23808 → lvb i = true := lv_grow lvk_92 (b := 256) (k := 23552) (by kernel_rfl) rfl
theorem lvk_94 : ∀ i, i < 24064 → lvb i = true := lv_grow lvk_93 (b := 256) (k := 23808) (by kernel_rfl) rfl
theorem lvk_95 : ∀ i, i < 24320 → lvb i = true := lv_grow lvk_94 (b := 256) (k := 24064) (by kernel_rfl) rfl
theorem lvk_96 : ∀ i, i < 24576 → lvb i = true := lv_grow lvk_95 (b := 256) (k := 24320) (by kernel_rfl) rfl
theorem lvk_97 : ∀ i, i < 24832 → lvb i = true := lv_grow lvk_96 (b := 256) (k := 24576) (by kernel_rfl) rfl
theorem lvk_98 : ∀ i, i < 25088 → lvb i = true := lv_grow lvk_97 (b := 256) (k := 24832) (by kernel_rfl) rfl
theorem lvk_99 : ∀ i, i < 25344 → lvb i = true := lv_grow lvk_98 (b := 256) (k := 25088) (by kernel_rfl) rfl
theorem lvk_100 : ∀ i, i < 25600 → lvb i = true := lv_grow lvk_99 (b := 256) (k := 25344) (by kernel_rfl) rfl
theorem lvk_101 : ∀ i, i < 25856 → lvb i = true := lv_grow lvk_100 (b := 256) (k := 25600) (by kernel_rfl) rfl
theorem lvk_102 : ∀ i, i < 26112 → lvb i = true := lv_grow lvk_101 (b := 256) (k := 25856) (by kernel_rfl) rfl
theorem lvk_103 : ∀ i, i < 26368 → lvb i = true := lv_grow lvk_102 (b := 256) (k := 26112) (by kernel_rfl) rfl
theorem lvk_104 : ∀ i, i < 26624 → lvb i = true := lv_grow lvk_103 (b := 256) (k := 26368) (by kernel_rfl) rfl
theorem lvk_105 : ∀ i, i < 26880 → lvb i = true := lv_grow lvk_104 (b := 256) (k := 26624) (by kernel_rfl) rfl
theorem lvk_106 : ∀ i, i < 27136 → lvb i = true := lv_grow lvk_105 (b := 256) (k := 26880) (by kernel_rfl) rfl
theorem lvk_107 : ∀ i, i < 27392 → lvb i = true := lv_grow lvk_106 (b := 256) (k := 27136) (by kernel_rfl) rfl
theorem lvk_108 : ∀ i, i < 27648 → lvb i = true := lv_grow lvk_107 (b := 256) (k := 27392) (by kernel_rfl) rfl
theorem lvk_109 : ∀ i, i < 27904 → lvb i = true := lv_grow lvk_108 (b := 256) (k := 27648) (by kernel_rfl) rfl
theorem lvk_110 : ∀ i, i < 28160 → lvb i = true := lv_grow lvk_109 (b := 256) (k := 27904) (by kernel_rfl) rfl
theorem lvk_111 : ∀ i, i < 28416 → lvb i = true := lv_grow lvk_110 (b := 256) (k := 28160) (by kernel_rfl) rfl
theorem lvk_112 : ∀ i, i < 28672 → lvb i = true := lv_grow lvk_111 (b := 256) (k := 28416) (by kernel_rfl) rfl
theorem lvk_113 : ∀ i, i < 28928 → lvb i = true := lv_grow lvk_112 (b := 256) (k := 28672) (by kernel_rfl) rfl
theorem lvk_114 : ∀ i, i < 29184 → lvb i = true := lv_grow lvk_113 (b := 256) (k := 28928) (by kernel_rfl) rfl
theorem lvk_115 : ∀ i, i < 29440 → lvb i = true := lv_grow lvk_114 (b := 256) (k := 29184) (by kernel_rfl) rfl
theorem lvk_116 : ∀ i, i < 29696 → lvb i = true := lv_grow lvk_115 (b := 256) (k := 29440) (by kernel_rfl) rfl
theorem lvk_117 : ∀ i, i < 29952 → lvb i = true := lv_grow lvk_116 (b := 256) (k := 29696) (by kernel_rfl) rfl
theorem lvk_118 : ∀ i, i < 30208 → lvb i = true := lv_grow lvk_117 (b := 256) (k := 29952) (by kernel_rfl) rfl
theorem lvk_119 : ∀ i, i < 30464 → lvb i = true := lv_grow lvk_118 (b := 256) (k := 30208) (by kernel_rfl) rfl
theorem lvk_120 : ∀ i, i < 30720 → lvb i = true := lv_grow lvk_119 (b := 256) (k := 30464) (by kernel_rfl) rfl
theorem lvk_121 : ∀ i, i < 30976 → lvb i = true := lv_grow lvk_120 (b := 256) (k := 30720) (by kernel_rfl) rfl
theorem lvk_122 : ∀ i, i < 31232 → lvb i = true := lv_grow lvk_121 (b := 256) (k := 30976) (by kernel_rfl) rfl
theorem lvk_123 : ∀ i, i < 31488 → lvb i = true := lv_grow lvk_122 (b := 256) (k := 31232) (by kernel_rfl) rfl
theorem lvk_124 : ∀ i, i < 31744 → lvb i = true := lv_grow lvk_123 (b := 256) (k := 31488) (by kernel_rfl) rfl
theorem lvk_125 : ∀ i, i < 32000 → lvb i = true := lv_grow lvk_124 (b := 256) (k := 31744) (by kernel_rfl) rfl
theorem lvk_126 : ∀ i, i < 32256 → lvb i = true := lv_grow lvk_125 (b := 256) (k := 32000) (by kernel_rfl) rfl
theorem lvk_127 : ∀ i, i < 32512 → lvb i = true := lv_grow lvk_126 (b := 256) (k := 32256) (by kernel_rfl) rfl
theorem lvk_128 : ∀ i, i < 32768 → lvb i = true := lv_grow lvk_127 (b := 256) (k := 32512) (by kernel_rfl) rfl
theorem lvk_129 : ∀ i, i < 32769 → lvb i = true := lv_grow lvk_128 (b := 1) (k := 32768) (by kernel_rfl) rfl
/-- Division's sign is the sign of what is divided. -/
theorem div_sign {b : Bool} {r q : Nat} (hlt : r < INF) (h : double.div r KL = some q) : double.div (wd b r) KL = some (wd b q) := by
  have hr : r ≤ INF := Nat.le_of_lt hlt
  have e0 : rg (wd false r) = r := rg_wd false hr
  have e1 : rg (wd b r) = r := rg_wd b hr
  have n1 : ngb (wd b r) = b := ngb_wd b hr
  have n0 : ngb (wd false r) = false := ngb_wd false hr
  have w0 : wd false r = r := rfl
  rw [w0] at e0 n0
  have hk : double.read KL = .number false 4503599627370496 (-37) := by decide
  unfold Format.div at h ⊢
  rw [read_eq, e0, n0, hk] at h
  rw [read_eq, e1, n1, hk]
  have key : ∀ (m : Nat) (p : Int), ((Datum.number false m p).quotient 54 (.number false 4503599627370496 (-37))).map double.write = some q → ((Datum.number b m p).quotient 54 (.number false 4503599627370496 (-37))).map double.write = some (wd b q) := by
    intro m p hm
    have q1 : ∀ c : Bool, ((Datum.number c m p).quotient 54 (.number false 4503599627370496 (-37))).map double.write = some (wd c (rung (2 * ((m <<< (54 + Nat.log2 4503599627370496 - m.log2)) / 4503599627370496) + ((m <<< (54 + Nat.log2 4503599627370496 - m.log2)) % 4503599627370496 != 0).toNat) (p - (-37) - ((54 + Nat.log2 4503599627370496 - m.log2 : Nat) : Int) - 1))) := by
      intro c
      show some (double.nearest (c ^^ false) _ _) = _
      rw [nearest_eq, wd_eq, Bool.xor_false]
    rw [q1] at hm ⊢
    have hw : ∀ z : Nat, wd false z = z := fun _ => rfl
    rw [hw] at hm
    rw [Option.some.inj hm]
  by_cases h1 : r < 4503599627370496
  · rw [if_pos h1] at h ⊢
    exact key _ _ h
  · rw [if_neg h1, if_pos hlt] at h ⊢
    exact key _ _ h
theorem float_int (s : Int) : floatOfInt .f64 s = wd (decide (s < 0)) (fw s.natAbs) := by
  have h : floatOfInt .f64 s = double.write (.number (decide (s < 0)) s.natAbs 0) := rfl
  rw [h, write_nearest, nearest_eq, wd_eq]
  rfl
theorem fw_fin {n : Nat} (h : n ≤ 32768) : fw n < INF := by
  rcases Nat.eq_zero_or_pos n with h0 | h0
  · subst h0
    have e : fw 0 = 0 := rfl
    rw [e]; unfold INF; omega
  · obtain ⟨_, h2, _⟩ := fw_is h0 (by omega)
    have e7 : E74 = 1074 := E74_eq
    unfold INF
    rw [e7] at h2
    omega
/-- What is known of a sample's level. -/
structure Lv (s : Int) : Prop where
  div : double.div (floatOfInt .f64 s) KL = some (lev s)
  num : IsN (lev s)
  w64 : lev s < 18446744073709551616
  smp : smp (lev s) = s
  ok : smpB (lev s) = true
theorem lv_all {s : Int} (h0 : -32768 ≤ s) (h1 : s ≤ 32767) : Lv s := by
  obtain ⟨r1, r2⟩ := r0_is (n := s.natAbs) (by omega)
  have hd : double.div (floatOfInt .f64 s) KL = some (lev s) := by
    have h := lvk_129 s.natAbs (by omega)
    rw [float_int]
    refine div_sign (fw_fin (by omega)) ?_
    unfold lvb at h
    cases hz : double.div (fw s.natAbs) KL with
    | none => rw [hz] at h; cases h
    | some L => rw [hz] at h; rw [Nat.eq_of_beq_eq_true h]
  have hsv : 32768 * sv (lev s) = s * (P74 : Int) := by
    unfold lev
    rw [sv_wd _ r2]
    generalize V (r0 s.natAbs) = v at *
    have e1 : ((32768 * v : Nat) : Int) = ((s.natAbs * P74 : Nat) : Int) := by rw [r1]
    rw [Int.natCast_mul, Int.natCast_mul] at e1
    have e3 : ((32768 : Nat) : Int) = 32768 := rfl
    rw [e3] at e1
    unfold sg
    by_cases hs : s < 0
    · rw [if_pos (decide_eq_true hs), Int.mul_neg, e1, ← Int.neg_mul]
      congr 1
      omega
    · rw [if_neg (by simpa using hs), e1]
      congr 1
      omega
  obtain ⟨k1, k2⟩ := smp_exact hsv h0 h1
  refine ⟨hd, isN_wd _ r2, ?_, k1, k2⟩
  unfold lev wd
  unfold INF at r2
  split <;> omega
theorem level_any {s : Int} (h0 : -32768 ≤ s) (h1 : s ≤ 32767) (w : World) : Calls Tryz.prog 62 #[.int .i16 s] w fun e w' => e = .returned (.float .f64 (lev s)) ∧ w = w' := by
  have hd := (lv_all h0 h1).div
  have hcv : ∀ w, (convert 68 58 (.int .i16 s)).run Tryz.prog w = .ok (.float .f64 (floatOfInt .f64 s)) w := fun w => run_convert_int_float w _ _ .i16 .f64 _ (by kernel_rfl) Tryz.underlying58
  have o1 : ∀ t w, (binOp .quo t (.float .f64 (floatOfInt .f64 s)) (.float .f64 4674736413210574848)).run Tryz.prog w = .ok (.float .f64 (lev s)) w := fun t w => run_float_arith w .quo t .f64 _ _ _ hd
  clear hd
  generalize lev s = L at *
  generalize floatOfInt .f64 s = F at *
  go_enter Tryz.func62, Tryz.ntmps62
  go_wp2_with (simp only [hcv, o1])
  go_ret
  exact ⟨rfl, rfl⟩
theorem sample_level {s : Int} (h0 : -32768 ≤ s) (h1 : s ≤ 32767) (w : World) : Calls Tryz.prog 61 #[.float .f64 (lev s)] w fun e w' => e = .returned (.tuple #[.int .i16 s, .bool true]) ∧ w = w' := by
  have c := sample_any (lev s) (lv_all h0 h1).num w
  rw [(lv_all h0 h1).smp, (lv_all h0 h1).ok] at c
  exact c
end Go.Proofs.YtgcgmplepcfbaaaGreatDoor
