/- Contracts, in this order: ref90: a number's digits. -/
import Derived.Test.YthjofdfnppadnaaGreatDoorZt23
import Derived.Test.YthjofdfnppadnaaGreatDoorZt13
import Derived.Laws.OwnMore
import Derived.IntWalk
namespace Go.Proofs.YthjofdfnppadnaaGreatDoor
namespace R
open Go.RowKit
def rdg (n : Nat) : List UInt8 := if n = 0 then [] else (Lib.decDigits n).reverse
theorem rdg_zero : rdg 0 = [] := rfl
theorem rdg_step {n : Nat} (h : 0 < n) : rdg n = UInt8.ofNat (48 + n % 10) :: rdg (n / 10) := by
  unfold rdg
  rw [if_neg (by omega)]
  by_cases h1 : n < 10
  · rw [if_pos (by omega), Lib.decDigits_one h1, Nat.mod_eq_of_lt h1]; rfl
  · rw [if_neg (by omega), Big.dec_big h1, List.reverse_append]; rfl
theorem rdg_len : ∀ (k n : Nat), n < 10 ^ k → (rdg n).length ≤ k
  | 0, n, h => by
    have : n = 0 := by simpa using h
    subst this; simp [rdg_zero]
  | k + 1, n, h => by
    rcases Nat.eq_zero_or_pos n with h0 | h0
    · subst h0; simp [rdg_zero]
    · rw [rdg_step h0, List.length_cons]
      have := rdg_len k (n / 10) (by rw [Nat.pow_succ] at h; omega)
      omega
def strD (s : Bool) (n : Nat) : List UInt8 := if n = 0 then [48] else (if s then [45] else []) ++ Lib.decDigits n
def lenV : Value → Nat
  | .slice _ n _ => n
  | _ => 0
theorem row_len {w : World} {B n : Nat} {v : Value} {l : List UInt8} (h : Row w B v n l) : lenV v = n := by
  rcases h.2 with ⟨rfl, rfl⟩ | ⟨g, cap, cur, rfl, -⟩ <;> rfl
theorem row_ty {w : World} {B n : Nat} {v : Value} {l : List UInt8} (h : Row w B v n l) : ∀ k, v.ownBlock = some k → ∃ cs z, w.heap[k]? = some (.cells cs 5 z) := by
  intro k hk
  rcases h.2 with ⟨rfl, rfl⟩ | ⟨g, cap, cur, rfl, -, hg, -⟩
  · cases hk
  · obtain rfl : g = k := by simpa [Value.ownBlock] using hk
    exact ⟨_, _, hg⟩
theorem nin_grown {w w' : World} {row : Option Nat} {v : Value} {m : Nat} (h : Nin w v m) (hg : w.grownBy w' row) (hr : ∀ k, row = some k → ∃ cs z, w.heap[k]? = some (.cells cs 5 z)) : Nin w' v m :=
  nin_stable h fun b c t z hb ht => by
    have hlt := (Array.getElem?_eq_some_iff.1 hb).1
    refine (hg.block b hlt fun e => ?_).trans hb
    obtain ⟨cs, z2, h2⟩ := hr b e.symm
    rw [hb] at h2
    simp only [Option.some.injEq, Obj.cells.injEq] at h2
    rw [h2.2.1] at ht
    exact absurd ht (by decide)
theorem nin_alloc {w : World} {v : Value} {m : Nat} (h : Nin w v m) (o : Obj) : Nin (w.alloc o) v m :=
  nin_stable h fun b _ _ _ hb _ => ((below_alloc (Below.refl w.heap.size w) (Nat.le_refl _) o).block b (Array.getElem?_eq_some_iff.1 hb).1).trans hb
theorem dig_byte (r : Nat) : (Value.int .u8 ((48 : Int) + ((r : Nat) : Int) % 10)) = .int .u8 (((UInt8.ofNat (48 + r % 10)).toNat : Nat) : Int) := by
  rw [Big.toNat_digit (Nat.mod_lt _ (by omega))]
  congr 1
theorem ten_step {q r i : Nat} (hi : i < 9) : (q * 10 ^ (9 - i) + r) % 10 = r % 10 ∧ (q * 10 ^ (9 - i) + r) / 10 = q * 10 ^ (9 - (i + 1)) + r / 10 := by
  have e : 10 ^ (9 - i) = 10 * 10 ^ (9 - (i + 1)) := by rw [show 9 - i = (9 - (i + 1)) + 1 by omega, Nat.pow_succ, Nat.mul_comm]
  rw [e]
  generalize 10 ^ (9 - (i + 1)) = P
  have : q * (10 * P) = 10 * (q * P) := by rw [Nat.mul_left_comm]
  rw [this]
  generalize q * P = Z
  omega
def Swp (L X : List UInt8) (j : Nat) : Prop := X.length = L.length ∧ ∀ t, t < L.length → X[t]? = if t < j ∨ L.length - 1 - t < j then L[L.length - 1 - t]? else L[t]?
theorem swp_zero (L : List UInt8) : Swp L L 0 := ⟨rfl, fun t _ => by rw [if_neg (by omega)]⟩
theorem swp_at {L X : List UInt8} {j : Nat} (h : Swp L X j) (hj : j < L.length / 2) : X[j]? = L[j]? ∧ X[L.length - 1 - j]? = L[L.length - 1 - j]? := by
  refine ⟨?_, ?_⟩
  · rw [h.2 j (by omega), if_neg (by omega)]
  · rw [h.2 _ (by omega), if_neg (by omega)]
theorem swp_step {L X : List UInt8} {j : Nat} {a b : UInt8} (h : Swp L X j) (hj : j < L.length / 2) (ha : L[j]? = some a) (hb : L[L.length - 1 - j]? = some b) :
    Swp L ((X.set j b).set (L.length - 1 - j) a) (j + 1) := by
  refine ⟨by rw [List.length_set, List.length_set, h.1], fun t ht => ?_⟩
  by_cases h1 : L.length - 1 - j = t
  · subst h1
    rw [List.getElem?_set_self (by rw [List.length_set, h.1]; omega), if_pos (by omega), show L.length - 1 - (L.length - 1 - j) = j by omega, ha]
  · rw [List.getElem?_set_ne h1]
    by_cases h2 : j = t
    · subst h2
      rw [List.getElem?_set_self (by rw [h.1]; omega), if_pos (by omega), hb]
    · rw [List.getElem?_set_ne h2, h.2 t ht]
      by_cases h3 : t < j ∨ L.length - 1 - t < j
      · rw [if_pos h3, if_pos (by omega)]
      · rw [if_neg h3, if_neg (by omega)]
theorem swp_end {L X : List UInt8} {j : Nat} (h : Swp L X j) (hj : ¬ j < L.length / 2) : X = L.reverse := by
  apply List.ext_getElem?
  intro t
  by_cases ht : t < L.length
  · rw [h.2 t ht, List.getElem?_reverse ht]
    by_cases h3 : t < j ∨ L.length - 1 - t < j
    · rw [if_pos h3]
    · rw [if_neg h3, show L.length - 1 - t = t by omega]
  · rw [List.getElem?_eq_none (by rw [h.1]; omega), List.getElem?_eq_none (by simp; omega)]
theorem cells_set (X : List UInt8) (j : Nat) (b : UInt8) : (Lib.byteCells X).set j (.int .u8 b.toNat) = Lib.byteCells (X.set j b) := by unfold Lib.byteCells; rw [List.map_set]
theorem row_form {w : World} {B n : Nat} {v : Value} {l : List UInt8} (h : Row w B v n l) (hn : 0 < n) : ∃ g cap, v = .slice (some ⟨g, 0, none⟩) n cap ∧ B ≤ g ∧ n ≤ cap ∧ cap ≤ maxLen := by
  rcases h.2 with ⟨-, h0⟩ | ⟨g, cap, cur, rfl, hb, -, hc, hm, -⟩
  · omega
  · exact ⟨g, cap, rfl, hb, hc, hm⟩
theorem strD_rev (s : Bool) {n : Nat} (hn : n ≠ 0) : (rdg n ++ if s then [45] else []).reverse = strD s n := by
  unfold strD rdg
  rw [if_neg hn, if_neg hn]
  cases s <;> simp
set_option maxHeartbeats 4000000 in
set_option maxRecDepth 100000 in
theorem string_any (w : World) (b o n : Nat) (s : Bool) (h : IntAt w b o s n) (hn : Sml n) :
    Calls Tryz.prog 156 #[.pointer (some ⟨b, o, none⟩)] w fun e w' => e = .returned (.string ⟨(strD s n).toArray⟩) ∧ Below w.heap.size w w' := by
  obtain ⟨hs, u, hu, hw⟩ := h
  have hbl := cell_lt hs
  obtain ⟨l, hl, ol, nl, hv, hll⟩ := nin_list hw hn
  have hT := rdg_len (32 * Big.KL) n (Nat.lt_of_lt_of_le hn.lt (by rw [M32_eq, show (4294967296 : Nat) = 2 ^ 32 from rfl, ← Nat.pow_mul]; exact Nat.pow_le_pow_left (by omega) _))
  have hK : 32 * Big.KL ≤ 100000000000 := by rw [Big.KL_eq]; omega
  by_cases h0 : l = []
  · subst h0
    obtain ⟨A, c, rfl, -, -, -⟩ := hl
    obtain rfl : n = 0 := by rw [← hv]; rfl
    have HD := Lib.hid (show (⟨(strD s 0).toArray⟩ : ByteArray) = ⟨#[48]⟩ by unfold strD; rw [if_pos rfl])
    go_enter Tryz.func156, Tryz.ntmps156
    go_wp2_with fail
    go_ret
    exact ⟨by rw [HD.out]; rfl, Below.refl _ _⟩
  have hn0 : n ≠ 0 := fun e => h0 (Big.norm_zero M32_pos l nl (by rw [hv]; exact e))
  have t0 : ((l.length : Int) == 0) = false := beq_eq_false_iff_ne.2 (by have := List.length_pos_iff.2 h0; omega)
  obtain ⟨A, c, rfl, -, -, -⟩ := hl
  obtain ⟨i0, hi, hz0, hz1, hz2⟩ := info_parts Tryz.infoByte
  have HW := Lib.hid hw
  have HS := Lib.hid hs
  have HU := Lib.hid hu
  clear hw ol nl hv hll h0 hs
  go_enter Tryz.func156, Tryz.ntmps156
  go_wp2_with fail
  go_loopw [3, 4] (fun ov wv wr => ∃ (D : List UInt8) (m : Nat), Hid (Nin wr wv m) ∧ Hid (Row wr w.heap.size ov D.length D) ∧ Hid (rdg n = D ++ rdg m) ∧ Hid (Below w.heap.size w wr) ∧ Sml m) (fun ov _ _ => (rdg n).length - lenV ov)
  case atStart => exact ⟨[], n, HW, Lib.hid (World.ownsRow_nil _ _ _ _), Lib.hid rfl, Lib.hid (Below.refl _ _), hn⟩
  case round =>
    obtain ⟨D, m, HM, HR, HE, HB, hm⟩ := hrel
    obtain ⟨lw, hlw, olw, nlw, hvw, hllw⟩ := nin_list HM.out hm
    have HC := Lib.hid (divWord_any wr _ lw 1000000000 hlw olw (by rw [M32_eq]; omega) (by omega) (by omega))
    rw [hvw] at HC
    have hmk : lw.length = 0 ↔ m = 0 := by
      rw [← hvw]
      exact ⟨fun e => by rw [List.eq_nil_of_length_eq_zero e]; rfl, fun e => by rw [Big.norm_zero M32_pos lw nlw e]; rfl⟩
    obtain ⟨A', c', rfl, -, -, -⟩ := hlw
    clear olw nlw hvw hllw
    rcases Nat.eq_zero_or_pos m with hm0 | hm0
    · have hk0 := hmk.2 hm0
      rw [hk0]
      subst hm0
      clear HC hmk
      have hcell := (HB.out.cell (p := ⟨b, o, none⟩) hbl).trans HS.out
      obtain rfl : D = rdg n := by have := HE.out; rw [rdg_zero, List.append_nil] at this; exact this.symm
      cases s
      · go_wp2_with fail
        obtain ⟨L, hLe⟩ : ∃ L, rdg n = L := ⟨_, rfl⟩
        rw [hLe] at HR hT
        have HLR := Lib.hid (show L.reverse = strD false n by rw [← hLe, ← strD_rev false hn0]; simp)
        have hL : 0 < L.length := by
          have := List.length_pos_iff.2 (show rdg n ≠ [] by rw [rdg_step (by omega)]; simp)
          have := congrArg List.length hLe
          try rw [List.length_append] at this
          omega
        have hLm : L.length ≤ 32 * Big.KL + 1 := by
          have := congrArg List.length hLe
          try rw [List.length_append, List.length_singleton] at this
          omega
        clear hLe
        obtain ⟨g, cap, rfl, hgb, hgc, hgm⟩ := row_form HR.out hL
        obtain ⟨N, hN⟩ : ∃ N, L.length = N := ⟨_, rfl⟩
        rw [hN] at HR hLm hL hgc ⊢
        have HN := Lib.hid hN
        have hx : IntKind.i64.wrap ((N : Int) - 1) = ((N - 1 : Nat) : Int) := by rw [IntWalk.i64_in _ (by omega)]; omega
        clear hN
        go_loopw [8] (fun iv wr => ∃ (j : Nat) (X : List UInt8), iv = .int .i64 j ∧ j ≤ N / 2 ∧ Hid (Swp L X j) ∧ Hid (Row wr w.heap.size (.slice (some ⟨g, 0, none⟩) N cap) N X) ∧ Hid (Below w.heap.size w wr)) (fun iv _ => N / 2 - (intOf iv).toNat)
        case atStart => exact ⟨0, L, rfl, by omega, Lib.hid (swp_zero L), HR, HB⟩
        case round =>
          obtain ⟨j, X, rfl, hj, HS2, HRj, HBj⟩ := hrel
          by_cases hlt : j < N / 2
          · have hN2 := HN.out
            obtain ⟨k, hk⟩ : ∃ k, N - 1 - j = k := ⟨_, rfl⟩
            have hXl : X.length = N := by rw [HS2.out.1, hN2]
            obtain ⟨x1, hx1⟩ : ∃ a, L[j]? = some a := ⟨_, List.getElem?_eq_getElem (by omega)⟩
            obtain ⟨x2, hx2⟩ : ∃ a, L[k]? = some a := ⟨_, List.getElem?_eq_getElem (by omega)⟩
            have hsw := swp_at HS2.out (by omega)
            rw [hN2, hk] at hsw
            have hc1 : wr.cell? ⟨g, j, none⟩ = some (.int .u8 x1.toNat) := by rw [HRj.out.cellAt j (by omega), Lib.byteCells, List.getElem?_map, hsw.1, hx1]; rfl
            have hc2 : wr.cell? ⟨g, k, none⟩ = some (.int .u8 x2.toNat) := by rw [HRj.out.cellAt k (by omega), Lib.byteCells, List.getElem?_map, hsw.2, hx2]; rfl
            have hf1 := HRj.out.frozenAt j
            have s1 := HRj.out.stored j (.int .u8 x2.toNat)
            rw [cells_set] at s1
            have hf2 := s1.1.frozenAt k
            have hjk : j ≠ k := by omega
            have hc3 : (wr.setCell ⟨g, j, none⟩ (.int .u8 x2.toNat)).cell? ⟨g, k, none⟩ = some (.int .u8 x2.toNat) := by
              rw [s1.1.cellAt k (by omega), Lib.byteCells, List.getElem?_map, List.getElem?_set_ne hjk, hsw.2, hx2]; rfl
            have s2 := s1.1.stored k (.int .u8 x1.toNat)
            rw [cells_set] at s2
            have HX := Lib.hid (And.intro hx1 (And.intro hx2 (And.intro hk (And.intro s2.1 (And.intro s1.2 s2.2)))))
            have hjI : (j : Int) < (N : Int) / 2 := by omega
            have hjN : (j : Int) < (N : Int) := by omega
            have hkN : (k : Int) < (N : Int) := by omega
            have hy : IntKind.i64.wrap (((N - 1 : Nat) : Int) - (j : Int)) = (k : Int) := by rw [IntWalk.i64_in _ (by omega)]; omega
            clear s1 s2 hsw hN2 hXl
            go_wp2_with fail
            go_region_with fail
            all_goals (
              go_wp2_with fail
              go_roundw
              case rel =>
                obtain ⟨e1, e2, e3, r2, g1, g2⟩ := HX.out
                refine ⟨j + 1, (X.set j x2).set k x1, by go_num, by omega, Lib.hid ?_, Lib.hid r2.drew, Lib.hid ?_⟩
                · have hh := swp_step HS2.out (by rw [HN.out]; exact hlt) e1 (by rw [HN.out, e3]; exact e2)
                  rw [HN.out, e3] at hh
                  exact hh
                · exact below_drew ((HBj.out.grown g1 (Nat.le_trans (Nat.le_refl _) HBj.out.size) (fun k' hk' => by cases hk'; exact hgb)).grown g2 (by have := g1.size; have := HBj.out.size; omega) (fun k' hk' => by cases hk'; exact hgb))
              case measure => simp [intOf]; omega)
          · have hXe : X = strD false n := by rw [swp_end HS2.out (by rw [HN.out]; exact hlt)]; exact HLR.out
            have hXl : X.length = N := by rw [HS2.out.1, HN.out]
            have hcv := run_convert_bytes_back (P := Tryz.prog) wr 140 9 5 ⟨g, 0, none⟩ cap X Tryz.underlying140 Tryz.underlying5 Tryz.underlying9 (fun i hi => by
              rw [Lib.add_plain, Nat.zero_add, World.ownsRow.cellAt HRj.out i (by omega)]
              simp [Lib.byteCells, hi])
            rw [hXl] at hcv
            have HXE := Lib.hid hXe
            have hnl : ¬ (j : Int) < (N : Int) / 2 := by omega
            go_wp2_with fail
            go_ret
            exact ⟨rfl, HBj.out⟩
      · have HO := Lib.hid (HR.out.alloc (.cells #[.int .u8 45] 5))
        have HRl := HR.out.lt
        have hDl : (rdg n).length ≤ 32 * Big.KL := hT
        have hBz : w.heap.size ≤ wr.heap.size := HB.out.size
        go_wp2_with (at_builtin; refine wpList_append_own _ rfl _ _ 140 rfl w.heap.size 5 i0 (.int .u8 0) 1 1 Tryz.underlying140 hi hz0 hz1 hz2 rfl (by decide) _ _ _ rfl HO.out ⟨_, 0, none⟩ 1 1 [Value.int .u8 45] rfl rfl (by intro j u' hj; match j, hj with | 0, hj => simp at hj; subst hj; simp [Addr.add]) (by intro u' hu'; simp at hu'; subst hu'; rfl) (by unfold maxLen; omega) (by omega) (by simp; omega) ?_)
        intro v1 w2 hown1 hgrow _
        replace HR := Lib.hid (show Row w2 w.heap.size v1 (rdg n ++ [45]).length (rdg n ++ [45]) by
          unfold Row
          rw [List.length_append, Lib.byteCells_append]
          exact hown1)
        replace HB := Lib.hid ((below_alloc HB.out (Nat.le_refl _) (.cells #[.int .u8 45] 5)).grown hgrow (by simp; omega) (fun k hk => (HRl k hk).1))
        clear hown1 hgrow HO HRl
        go_wp2_with fail
        obtain ⟨L, hLe⟩ : ∃ L, rdg n ++ [45] = L := ⟨_, rfl⟩
        rw [hLe] at HR
        have HLR := Lib.hid (show L.reverse = strD true n by rw [← hLe, ← strD_rev true hn0]; simp)
        have hL : 0 < L.length := by
          have := List.length_pos_iff.2 (show rdg n ≠ [] by rw [rdg_step (by omega)]; simp)
          have := congrArg List.length hLe
          try rw [List.length_append] at this
          omega
        have hLm : L.length ≤ 32 * Big.KL + 1 := by
          have := congrArg List.length hLe
          try rw [List.length_append, List.length_singleton] at this
          omega
        clear hLe
        obtain ⟨g, cap, rfl, hgb, hgc, hgm⟩ := row_form HR.out hL
        obtain ⟨N, hN⟩ : ∃ N, L.length = N := ⟨_, rfl⟩
        rw [hN] at HR hLm hL hgc ⊢
        have HN := Lib.hid hN
        have hx : IntKind.i64.wrap ((N : Int) - 1) = ((N - 1 : Nat) : Int) := by rw [IntWalk.i64_in _ (by omega)]; omega
        clear hN
        go_loopw [8] (fun iv wr => ∃ (j : Nat) (X : List UInt8), iv = .int .i64 j ∧ j ≤ N / 2 ∧ Hid (Swp L X j) ∧ Hid (Row wr w.heap.size (.slice (some ⟨g, 0, none⟩) N cap) N X) ∧ Hid (Below w.heap.size w wr)) (fun iv _ => N / 2 - (intOf iv).toNat)
        case atStart => exact ⟨0, L, rfl, by omega, Lib.hid (swp_zero L), HR, HB⟩
        case round =>
          obtain ⟨j, X, rfl, hj, HS2, HRj, HBj⟩ := hrel
          by_cases hlt : j < N / 2
          · have hN2 := HN.out
            obtain ⟨k, hk⟩ : ∃ k, N - 1 - j = k := ⟨_, rfl⟩
            have hXl : X.length = N := by rw [HS2.out.1, hN2]
            obtain ⟨x1, hx1⟩ : ∃ a, L[j]? = some a := ⟨_, List.getElem?_eq_getElem (by omega)⟩
            obtain ⟨x2, hx2⟩ : ∃ a, L[k]? = some a := ⟨_, List.getElem?_eq_getElem (by omega)⟩
            have hsw := swp_at HS2.out (by omega)
            rw [hN2, hk] at hsw
            have hc1 : wr.cell? ⟨g, j, none⟩ = some (.int .u8 x1.toNat) := by rw [HRj.out.cellAt j (by omega), Lib.byteCells, List.getElem?_map, hsw.1, hx1]; rfl
            have hc2 : wr.cell? ⟨g, k, none⟩ = some (.int .u8 x2.toNat) := by rw [HRj.out.cellAt k (by omega), Lib.byteCells, List.getElem?_map, hsw.2, hx2]; rfl
            have hf1 := HRj.out.frozenAt j
            have s1 := HRj.out.stored j (.int .u8 x2.toNat)
            rw [cells_set] at s1
            have hf2 := s1.1.frozenAt k
            have hjk : j ≠ k := by omega
            have hc3 : (wr.setCell ⟨g, j, none⟩ (.int .u8 x2.toNat)).cell? ⟨g, k, none⟩ = some (.int .u8 x2.toNat) := by
              rw [s1.1.cellAt k (by omega), Lib.byteCells, List.getElem?_map, List.getElem?_set_ne hjk, hsw.2, hx2]; rfl
            have s2 := s1.1.stored k (.int .u8 x1.toNat)
            rw [cells_set] at s2
            have HX := Lib.hid (And.intro hx1 (And.intro hx2 (And.intro hk (And.intro s2.1 (And.intro s1.2 s2.2)))))
            have hjI : (j : Int) < (N : Int) / 2 := by omega
            have hjN : (j : Int) < (N : Int) := by omega
            have hkN : (k : Int) < (N : Int) := by omega
            have hy : IntKind.i64.wrap (((N - 1 : Nat) : Int) - (j : Int)) = (k : Int) := by rw [IntWalk.i64_in _ (by omega)]; omega
            clear s1 s2 hsw hN2 hXl
            go_wp2_with fail
            go_region_with fail
            all_goals (
              go_wp2_with fail
              go_roundw
              case rel =>
                obtain ⟨e1, e2, e3, r2, g1, g2⟩ := HX.out
                refine ⟨j + 1, (X.set j x2).set k x1, by go_num, by omega, Lib.hid ?_, Lib.hid r2.drew, Lib.hid ?_⟩
                · have hh := swp_step HS2.out (by rw [HN.out]; exact hlt) e1 (by rw [HN.out, e3]; exact e2)
                  rw [HN.out, e3] at hh
                  exact hh
                · exact below_drew ((HBj.out.grown g1 (Nat.le_trans (Nat.le_refl _) HBj.out.size) (fun k' hk' => by cases hk'; exact hgb)).grown g2 (by have := g1.size; have := HBj.out.size; omega) (fun k' hk' => by cases hk'; exact hgb))
              case measure => simp [intOf]; omega)
          · have hXe : X = strD true n := by rw [swp_end HS2.out (by rw [HN.out]; exact hlt)]; exact HLR.out
            have hXl : X.length = N := by rw [HS2.out.1, HN.out]
            have hcv := run_convert_bytes_back (P := Tryz.prog) wr 140 9 5 ⟨g, 0, none⟩ cap X Tryz.underlying140 Tryz.underlying5 Tryz.underlying9 (fun i hi => by
              rw [Lib.add_plain, Nat.zero_add, World.ownsRow.cellAt HRj.out i (by omega)]
              simp [Lib.byteCells, hi])
            rw [hXl] at hcv
            have HXE := Lib.hid hXe
            have hnl : ¬ (j : Int) < (N : Int) / 2 := by omega
            go_wp2_with fail
            go_ret
            exact ⟨rfl, HBj.out⟩
    · have hk1 : (lw.length : Int) > 0 := by
        have := mt hmk.1 (show ¬ m = 0 by omega)
        omega
      clear hmk
      go_wp2_with fail
      refine HC.out.mono ?_
      rintro e w2 ⟨v2, rfl, hq, hb2⟩
      obtain ⟨q, hqe⟩ : ∃ q, m / 1000000000 = q := ⟨_, rfl⟩
      obtain ⟨r0, hre⟩ : ∃ r, m % 1000000000 = r := ⟨_, rfl⟩
      rw [hqe] at hq
      rw [hre]
      have hdm : m = q * 10 ^ 9 + r0 := by rw [← hqe, ← hre]; have := Nat.div_add_mod m 1000000000; omega
      have hqm : Sml q := ⟨Nat.lt_of_le_of_lt (by rw [← hqe]; exact Nat.div_le_self _ _) hm.lt⟩
      have hr9 : r0 < 10 ^ 9 := by rw [← hre]; exact Nat.mod_lt _ (by omega)
      obtain ⟨lq, ⟨A2, c2, rfl, k1, k2, k3⟩, olq, nlq, hvq⟩ := hq
      have HQ := Lib.hid (show Nin w2 (.slice A2 lq.length c2) q from ⟨lq, ⟨A2, c2, rfl, k1, k2, k3⟩, olq, nlq, hvq⟩)
      have hqk : lq.length = 0 ↔ q = 0 := by
        rw [← hvq]
        exact ⟨fun e => by rw [List.eq_nil_of_length_eq_zero e]; rfl, fun e => by rw [Big.norm_zero M32_pos lq nlq e]; rfl⟩
      have HR2 := Lib.hid (World.ownsRow.kept (w' := w2) HR.out (row := none) ⟨hb2.os, hb2.tape, hb2.output, hb2.size, fun k hk _ => hb2.block k hk⟩ (Classical.em _))
      have HB2 := Lib.hid (HB.out.trans (hb2.mono HB.out.size))
      have HE2 := Lib.hid (show rdg n = D ++ rdg (q * 10 ^ (9 - 0) + r0) by rw [← hdm]; exact HE.out)
      have hov := row_len HR.out
      have HH := Lib.hid (And.intro hdm (And.intro hqm (And.intro hov hm0)))
      clear k1 k2 k3 olq nlq hvq hb2 hqe hre hdm HC hqm hov
      go_wp2_with fail
      go_loopw [3, 6, 7] (fun ow rv iv wi => ∃ (D' : List UInt8) (i r : Nat), i ≤ 9 ∧ iv = .int .i64 i ∧ rv = .int .u32 r ∧ Hid (r < 10 ^ (9 - i)) ∧ Hid (Row wi w.heap.size ow D'.length D') ∧ Hid (rdg n = D' ++ rdg (q * 10 ^ (9 - i) + r)) ∧ Hid (Below w.heap.size w wi) ∧ Hid (Nin wi (.slice A2 lq.length c2) q) ∧ Hid (D.length ≤ D'.length ∧ (i ≠ 0 → D.length < D'.length)))
        (fun _ _ iv _ => 9 - (intOf iv).toNat)
      case atStart => exact ⟨D, 0, r0, by omega, rfl, rfl, Lib.hid hr9, HR2, HE2, HB2, HQ, Lib.hid ⟨Nat.le_refl _, fun h => absurd rfl h⟩⟩
      case round =>
        obtain ⟨D', i, r, hi9, rfl, rfl, Hr, HRi, HEi, HBi, HQi, HDi⟩ := hrel
        by_cases hc : i < 9 ∧ (q ≠ 0 ∨ r ≠ 0)
        · obtain ⟨hI9, hc⟩ := hc
          have hI : (i : Int) < 9 := by omega
          have w1 : IntKind.u32.wrap (48 + (r : Int) % 10) = 48 + (r : Int) % 10 := by rw [IntKind.wrap_u32]; omega
          have w2' : IntKind.u8.wrap (48 + (r : Int) % 10) = 48 + (r : Int) % 10 := by rw [IntKind.wrap_u8]; omega
          have HO := Lib.hid (HRi.out.alloc (.cells #[.int .u8 (48 + (r : Int) % 10)] 5))
          have hDl : D'.length ≤ 32 * Big.KL := by
            have := congrArg List.length HEi.out
            rw [List.length_append] at this
            omega
          have hBz : w.heap.size ≤ wr.heap.size := HBi.out.size
          have hpos : 0 < q * 10 ^ (9 - i) + r := by
            rcases hc with h | h
            · have := Nat.mul_le_mul (Nat.one_le_iff_ne_zero.2 h) (Nat.one_le_pow (9 - i) 10 (by omega)); omega
            · omega
          by_cases hq0 : q = 0
          · have k1 : ¬ 0 < lq.length := by have := hqk.2 hq0; omega
            have k2 : 0 < r := by omega
            have HP := Lib.hid (And.intro hpos (And.intro hc (And.intro hDl hqk)))
            clear hpos hqk hc
            go_wp2_with (at_builtin; refine wpList_append_own _ rfl _ _ 140 rfl w.heap.size 5 i0 (.int .u8 0) 1 1 Tryz.underlying140 hi hz0 hz1 hz2 rfl (by decide) _ _ _ rfl HO.out ⟨_, 0, none⟩ 1 1 [Value.int .u8 (48 + (r : Int) % 10)] rfl rfl (by intro j u' hj; match j, hj with | 0, hj => simp at hj; subst hj; simp [Addr.add]) (by intro u' hu'; simp at hu'; subst hu'; rfl) (by unfold maxLen; omega) (by omega) (by simp; omega) ?_)
            intro v1 w2 hown1 hgrow _
            have HO2 := Lib.hid hown1
            have HB2 := Lib.hid ((below_alloc HBi.out (Nat.le_refl _) (.cells #[.int .u8 (48 + (r : Int) % 10)] 5)).grown hgrow (by simp; omega) (fun k hk => (HRi.out.lt k hk).1))
            have HQ2 := Lib.hid (nin_grown (nin_alloc HQi.out (.cells #[.int .u8 (48 + (r : Int) % 10)] 5)) hgrow (row_ty (HRi.out.alloc _)))
            clear hown1 hgrow
            go_wp2_with fail
            go_roundw
            case rel =>
              obtain ⟨hpos, -, hDl, -⟩ := HP.out
              have hr1 : r < 1000000000 := Nat.lt_of_lt_of_le Hr.out (by have := Nat.pow_le_pow_right (show 0 < 10 by omega) (show 9 - i ≤ 9 by omega); simpa using this)
              have hst := ten_step (q := q) (r := r) hI9
              refine ⟨D' ++ [UInt8.ofNat (48 + r % 10)], i + 1, r / 10, by omega, by go_num, by go_num, Lib.hid ?_, Lib.hid ?_, Lib.hid ?_, HB2, HQ2, Lib.hid ?_⟩
              · have := Hr.out
                rw [show 9 - i = (9 - (i + 1)) + 1 by omega, Nat.pow_succ] at this
                omega
              · have h1 := HO2.out
                unfold Row
                rw [List.length_append, Lib.byteCells_append]
                rw [dig_byte] at h1
                exact h1
              · rw [HEi.out, rdg_step hpos, hst.1, hst.2, List.append_assoc]; rfl
              · have := HDi.out.1
                rw [List.length_append]
                refine ⟨?_, fun _ => ?_⟩ <;> simp <;> omega
            case measure => simp [intOf]; omega
          · have k1 : 0 < lq.length := by have := mt hqk.1 hq0; omega
            have HP := Lib.hid (And.intro hpos (And.intro hc (And.intro hDl hqk)))
            clear hpos hqk hc
            go_wp2_with (at_builtin; refine wpList_append_own _ rfl _ _ 140 rfl w.heap.size 5 i0 (.int .u8 0) 1 1 Tryz.underlying140 hi hz0 hz1 hz2 rfl (by decide) _ _ _ rfl HO.out ⟨_, 0, none⟩ 1 1 [Value.int .u8 (48 + (r : Int) % 10)] rfl rfl (by intro j u' hj; match j, hj with | 0, hj => simp at hj; subst hj; simp [Addr.add]) (by intro u' hu'; simp at hu'; subst hu'; rfl) (by unfold maxLen; omega) (by omega) (by simp; omega) ?_)
            intro v1 w2 hown1 hgrow _
            have HO2 := Lib.hid hown1
            have HB2 := Lib.hid ((below_alloc HBi.out (Nat.le_refl _) (.cells #[.int .u8 (48 + (r : Int) % 10)] 5)).grown hgrow (by simp; omega) (fun k hk => (HRi.out.lt k hk).1))
            have HQ2 := Lib.hid (nin_grown (nin_alloc HQi.out (.cells #[.int .u8 (48 + (r : Int) % 10)] 5)) hgrow (row_ty (HRi.out.alloc _)))
            clear hown1 hgrow
            go_wp2_with fail
            go_roundw
            case rel =>
              obtain ⟨hpos, -, hDl, -⟩ := HP.out
              have hr1 : r < 1000000000 := Nat.lt_of_lt_of_le Hr.out (by have := Nat.pow_le_pow_right (show 0 < 10 by omega) (show 9 - i ≤ 9 by omega); simpa using this)
              have hst := ten_step (q := q) (r := r) hI9
              refine ⟨D' ++ [UInt8.ofNat (48 + r % 10)], i + 1, r / 10, by omega, by go_num, by go_num, Lib.hid ?_, Lib.hid ?_, Lib.hid ?_, HB2, HQ2, Lib.hid ?_⟩
              · have := Hr.out
                rw [show 9 - i = (9 - (i + 1)) + 1 by omega, Nat.pow_succ] at this
                omega
              · have h1 := HO2.out
                unfold Row
                rw [List.length_append, Lib.byteCells_append]
                rw [dig_byte] at h1
                exact h1
              · rw [HEi.out, rdg_step hpos, hst.1, hst.2, List.append_assoc]; rfl
              · have := HDi.out.1
                rw [List.length_append]
                refine ⟨?_, fun _ => ?_⟩ <;> simp <;> omega
            case measure => simp [intOf]; omega
        · by_cases hI9 : i < 9
          · have hI : (i : Int) < 9 := by omega
            have hq0 : q = 0 := by refine Classical.byContradiction fun e => hc ⟨hI9, .inl e⟩
            have hr0 : r = 0 := by refine Classical.byContradiction fun e => hc ⟨hI9, .inr e⟩
            have k1 : ¬ 0 < lq.length := by have := hqk.2 hq0; omega
            have k2 : ¬ 0 < r := by omega
            have HP := Lib.hid (And.intro hq0 (And.intro hr0 hqk))
            clear hqk hc
            go_wp2_with fail
            go_roundw
            case rel =>
              refine ⟨D', q, HQi, HRi, Lib.hid ?_, HBi, HH.out.2.1⟩
              rw [HEi.out]; obtain ⟨h1, h2, -⟩ := HP.out; subst h1 h2; simp
            case measure =>
              obtain ⟨-, -, hov, hm0⟩ := HH.out
              have hov2 := row_len HRi.out
              have h1 := HDi.out
              have h2 := congrArg List.length HE.out
              have h3 := congrArg List.length HEi.out
              rw [List.length_append] at h2 h3
              have h4 : 0 < (rdg m).length := by rw [rdg_step hm0]; simp
              rw [hov, hov2]
              have h5 : D'.length = (rdg n).length := by obtain ⟨e1, e2, -⟩ := HP.out; subst e1 e2; simp [rdg_zero] at h3; omega
              omega
          · have hI : ¬ (i : Int) < 9 := by omega
            have h9 : i = 9 := by omega
            have HP := Lib.hid (And.intro h9 hqk)
            clear hqk hc
            go_wp2_with fail
            go_roundw
            case rel =>
              refine ⟨D', q, HQi, HRi, Lib.hid ?_, HBi, HH.out.2.1⟩
              rw [HEi.out]; have h1 := HP.out.1; have h2 := Hr.out; subst h1; simp at h2 ⊢; rw [h2]; simp
            case measure =>
              obtain ⟨-, -, hov, hm0⟩ := HH.out
              have hov2 := row_len HRi.out
              have h1 := HDi.out
              have h2 := congrArg List.length HE.out
              have h3 := congrArg List.length HEi.out
              rw [List.length_append] at h2 h3
              have h4 : 0 < (rdg m).length := by rw [rdg_step hm0]; simp
              rw [hov, hov2]
              have h5 := h1.2 (by omega)
              omega
end R
end Go.Proofs.YthjofdfnppadnaaGreatDoor
