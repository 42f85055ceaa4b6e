/- Contracts, in this order: ref90: a number's digits. · ref90's Num, Denom, IsInt; ref00.Text, ref01.Text: what they · exact: sum, Of. · ratio: size, answer, Of. · ratio: Of. · A block of known cells. · ratio: read, of one and of two. · ratio: reckon. · ratio: Sign, Cmp. · ratio: Text. -/
import Derived.Test.YtepnghhgmjobjaaGreatDoorGt23
import Derived.Test.YtepnghhgmjobjaaGreatDoorGt13
import Derived.Laws.OwnMore
import Derived.IntWalk
import Derived.Laws.Concat
import Derived.Test.YtepnghhgmjobjaaGreatDoorGt21
import Derived.Lib.ItoaMem
import Derived.LoopN
import Derived.Test.YtepnghhgmjobjaaGreatDoorGt14
namespace Go.Proofs.YtepnghhgmjobjaaGreatDoor
namespace R
open Go.RowKit
def rdg (n : Nat) : List UInt8 := if n = 0 then [] else (Lib.decDigits n).reverse
theorem rdg_zero : rdg 0 = [] := rfl
theorem rdg_step {n : Nat} (h : 0 < n) : rdg n = UInt8.ofNat (48 + n % 10) :: rdg (n / 10) := by
  unfold rdg
  rw [if_neg (by omega)]
  by_cases h1 : n < 10
  · rw [if_pos (by omega), Lib.decDigits_one h1, Nat.mod_eq_of_lt h1]; rfl
  · rw [if_neg (by omega), Big.dec_big h1, List.reverse_append]; rfl
theorem rdg_len : ∀ (k n : Nat), n < 10 ^ k → (rdg n).length ≤ k
  | 0, n, h => by
    have : n = 0 := by simpa using h
    subst this; simp [rdg_zero]
  | k + 1, n, h => by
    rcases Nat.eq_zero_or_pos n with h0 | h0
    · subst h0; simp [rdg_zero]
    · rw [rdg_step h0, List.length_cons]
      have := rdg_len k (n / 10) (by rw [Nat.pow_succ] at h; omega)
      omega
def strD (s : Bool) (n : Nat) : List UInt8 := if n = 0 then [48] else (if s then [45] else []) ++ Lib.decDigits n
def lenV : Value → Nat
  | .slice _ n _ => n
  | _ => 0
theorem row_len {w : World} {B n : Nat} {v : Value} {l : List UInt8} (h : Row w B v n l) : lenV v = n := by
  rcases h.2 with ⟨rfl, rfl⟩ | ⟨g, cap, cur, rfl, -⟩ <;> rfl
theorem row_ty {w : World} {B n : Nat} {v : Value} {l : List UInt8} (h : Row w B v n l) : ∀ k, v.ownBlock = some k → ∃ cs z, w.heap[k]? = some (.cells cs 5 z) := by
  intro k hk
  rcases h.2 with ⟨rfl, rfl⟩ | ⟨g, cap, cur, rfl, -, hg, -⟩
  · cases hk
  · obtain rfl : g = k := by simpa [Value.ownBlock] using hk
    exact ⟨_, _, hg⟩
theorem nin_grown {w w' : World} {row : Option Nat} {v : Value} {m : Nat} (h : Nin w v m) (hg : w.grownBy w' row) (hr : ∀ k, row = some k → ∃ cs z, w.heap[k]? = some (.cells cs 5 z)) : Nin w' v m :=
  nin_stable h fun b c t z hb ht => by
    have hlt := (Array.getElem?_eq_some_iff.1 hb).1
    refine (hg.block b hlt fun e => ?_).trans hb
    obtain ⟨cs, z2, h2⟩ := hr b e.symm
    rw [hb] at h2
    simp only [Option.some.injEq, Obj.cells.injEq] at h2
    rw [h2.2.1] at ht
    exact absurd ht (by decide)
theorem nin_alloc {w : World} {v : Value} {m : Nat} (h : Nin w v m) (o : Obj) : Nin (w.alloc o) v m :=
  nin_stable h fun b _ _ _ hb _ => ((below_alloc (Below.refl w.heap.size w) (Nat.le_refl _) o).block b (Array.getElem?_eq_some_iff.1 hb).1).trans hb
theorem dig_byte (r : Nat) : (Value.int .u8 ((48 : Int) + ((r : Nat) : Int) % 10)) = .int .u8 (((UInt8.ofNat (48 + r % 10)).toNat : Nat) : Int) := by
  rw [Big.toNat_digit (Nat.mod_lt _ (by omega))]
  congr 1
theorem ten_step {q r i : Nat} (hi : i < 9) : (q * 10 ^ (9 - i) + r) % 10 = r % 10 ∧ (q * 10 ^ (9 - i) + r) / 10 = q * 10 ^ (9 - (i + 1)) + r / 10 := by
  have e : 10 ^ (9 - i) = 10 * 10 ^ (9 - (i + 1)) := by rw [show 9 - i = (9 - (i + 1)) + 1 by omega, Nat.pow_succ, Nat.mul_comm]
  rw [e]
  generalize 10 ^ (9 - (i + 1)) = P
  have : q * (10 * P) = 10 * (q * P) := by rw [Nat.mul_left_comm]
  rw [this]
  generalize q * P = Z
  omega
def Swp (L X : List UInt8) (j : Nat) : Prop := X.length = L.length ∧ ∀ t, t < L.length → X[t]? = if t < j ∨ L.length - 1 - t < j then L[L.length - 1 - t]? else L[t]?
theorem swp_zero (L : List UInt8) : Swp L L 0 := ⟨rfl, fun t _ => by rw [if_neg (by omega)]⟩
theorem swp_at {L X : List UInt8} {j : Nat} (h : Swp L X j) (hj : j < L.length / 2) : X[j]? = L[j]? ∧ X[L.length - 1 - j]? = L[L.length - 1 - j]? := by
  refine ⟨?_, ?_⟩
  · rw [h.2 j (by omega), if_neg (by omega)]
  · rw [h.2 _ (by omega), if_neg (by omega)]
theorem swp_step {L X : List UInt8} {j : Nat} {a b : UInt8} (h : Swp L X j) (hj : j < L.length / 2) (ha : L[j]? = some a) (hb : L[L.length - 1 - j]? = some b) :
    Swp L ((X.set j b).set (L.length - 1 - j) a) (j + 1) := by
  refine ⟨by rw [List.length_set, List.length_set, h.1], fun t ht => ?_⟩
  by_cases h1 : L.length - 1 - j = t
  · subst h1
    rw [List.getElem?_set_self (by rw [List.length_set, h.1]; omega), if_pos (by omega), show L.length - 1 - (L.length - 1 - j) = j by omega, ha]
  · rw [List.getElem?_set_ne h1]
    by_cases h2 : j = t
    · subst h2
      rw [List.getElem?_set_self (by rw [h.1]; omega), if_pos (by omega), hb]
    · rw [List.getElem?_set_ne h2, h.2 t ht]
      by_cases h3 : t < j ∨ L.length - 1 - t < j
      · rw [if_pos h3, if_pos (by omega)]
      · rw [if_neg h3, if_neg (by omega)]
theorem swp_end {L X : List UInt8} {j : Nat} (h : Swp L X j) (hj : ¬ j < L.length / 2) : X = L.reverse := by
  apply List.ext_getElem?
  intro t
  by_cases ht : t < L.length
  · rw [h.2 t ht, List.getElem?_reverse ht]
    by_cases h3 : t < j ∨ L.length - 1 - t < j
    · rw [if_pos h3]
    · rw [if_neg h3, show L.length - 1 - t = t by omega]
  · rw [List.getElem?_eq_none (by rw [h.1]; omega), List.getElem?_eq_none (by simp; omega)]
theorem cells_set (X : List UInt8) (j : Nat) (b : UInt8) : (Lib.byteCells X).set j (.int .u8 b.toNat) = Lib.byteCells (X.set j b) := by unfold Lib.byteCells; rw [List.map_set]
theorem row_form {w : World} {B n : Nat} {v : Value} {l : List UInt8} (h : Row w B v n l) (hn : 0 < n) : ∃ g cap, v = .slice (some ⟨g, 0, none⟩) n cap ∧ B ≤ g ∧ n ≤ cap ∧ cap ≤ maxLen := by
  rcases h.2 with ⟨-, h0⟩ | ⟨g, cap, cur, rfl, hb, -, hc, hm, -⟩
  · omega
  · exact ⟨g, cap, rfl, hb, hc, hm⟩
theorem strD_rev (s : Bool) {n : Nat} (hn : n ≠ 0) : (rdg n ++ if s then [45] else []).reverse = strD s n := by
  unfold strD rdg
  rw [if_neg hn, if_neg hn]
  cases s <;> simp
set_option maxHeartbeats 4000000 in
set_option maxRecDepth 100000 in
theorem string_any (w : World) (b o n : Nat) (s : Bool) (h : IntAt w b o s n) (hn : Sml n) :
    Calls Tryz.prog 127 #[.pointer (some ⟨b, o, none⟩)] w fun e w' => e = .returned (.string ⟨(strD s n).toArray⟩) ∧ Below w.heap.size w w' := by
  obtain ⟨hs, u, hu, hw⟩ := h
  have hbl := cell_lt hs
  obtain ⟨l, hl, ol, nl, hv, hll⟩ := nin_list hw hn
  have hT := rdg_len (32 * Big.KL) n (Nat.lt_of_lt_of_le hn.lt (by rw [M32_eq, show (4294967296 : Nat) = 2 ^ 32 from rfl, ← Nat.pow_mul]; exact Nat.pow_le_pow_left (by omega) _))
  have hK : 32 * Big.KL ≤ 100000000000 := by rw [Big.KL_eq]; omega
  by_cases h0 : l = []
  · subst h0
    obtain ⟨A, c, rfl, -, -, -⟩ := hl
    obtain rfl : n = 0 := by rw [← hv]; rfl
    have HD := Lib.hid (show (⟨(strD s 0).toArray⟩ : ByteArray) = ⟨#[48]⟩ by unfold strD; rw [if_pos rfl])
    go_enter Tryz.func127, Tryz.ntmps127
    go_wp2_with fail
    go_ret
    exact ⟨by rw [HD.out]; rfl, Below.refl _ _⟩
  have hn0 : n ≠ 0 := fun e => h0 (Big.norm_zero M32_pos l nl (by rw [hv]; exact e))
  have t0 : ((l.length : Int) == 0) = false := beq_eq_false_iff_ne.2 (by have := List.length_pos_iff.2 h0; omega)
  obtain ⟨A, c, rfl, -, -, -⟩ := hl
  obtain ⟨i0, hi, hz0, hz1, hz2⟩ := info_parts Tryz.infoByte
  have HW := Lib.hid hw
  have HS := Lib.hid hs
  have HU := Lib.hid hu
  clear hw ol nl hv hll h0 hs
  go_enter Tryz.func127, Tryz.ntmps127
  go_wp2_with fail
  go_loopw [3, 4] (fun ov wv wr => ∃ (D : List UInt8) (m : Nat), Hid (Nin wr wv m) ∧ Hid (Row wr w.heap.size ov D.length D) ∧ Hid (rdg n = D ++ rdg m) ∧ Hid (Below w.heap.size w wr) ∧ Sml m) (fun ov _ _ => (rdg n).length - lenV ov)
  case atStart => exact ⟨[], n, HW, Lib.hid (World.ownsRow_nil _ _ _ _), Lib.hid rfl, Lib.hid (Below.refl _ _), hn⟩
  case round =>
    obtain ⟨D, m, HM, HR, HE, HB, hm⟩ := hrel
    obtain ⟨lw, hlw, olw, nlw, hvw, hllw⟩ := nin_list HM.out hm
    have HC := Lib.hid (divWord_any wr _ lw 1000000000 hlw olw (by rw [M32_eq]; omega) (by omega) (by omega))
    rw [hvw] at HC
    have hmk : lw.length = 0 ↔ m = 0 := by
      rw [← hvw]
      exact ⟨fun e => by rw [List.eq_nil_of_length_eq_zero e]; rfl, fun e => by rw [Big.norm_zero M32_pos lw nlw e]; rfl⟩
    obtain ⟨A', c', rfl, -, -, -⟩ := hlw
    clear olw nlw hvw hllw
    rcases Nat.eq_zero_or_pos m with hm0 | hm0
    · have hk0 := hmk.2 hm0
      rw [hk0]
      subst hm0
      clear HC hmk
      have hcell := (HB.out.cell (p := ⟨b, o, none⟩) hbl).trans HS.out
      obtain rfl : D = rdg n := by have := HE.out; rw [rdg_zero, List.append_nil] at this; exact this.symm
      cases s
      · go_wp2_with fail
        obtain ⟨L, hLe⟩ : ∃ L, rdg n = L := ⟨_, rfl⟩
        rw [hLe] at HR hT
        have HLR := Lib.hid (show L.reverse = strD false n by rw [← hLe, ← strD_rev false hn0]; simp)
        have hL : 0 < L.length := by
          have := List.length_pos_iff.2 (show rdg n ≠ [] by rw [rdg_step (by omega)]; simp)
          have := congrArg List.length hLe
          try rw [List.length_append] at this
          omega
        have hLm : L.length ≤ 32 * Big.KL + 1 := by
          have := congrArg List.length hLe
          try rw [List.length_append, List.length_singleton] at this
          omega
        clear hLe
        obtain ⟨g, cap, rfl, hgb, hgc, hgm⟩ := row_form HR.out hL
        obtain ⟨N, hN⟩ : ∃ N, L.length = N := ⟨_, rfl⟩
        rw [hN] at HR hLm hL hgc ⊢
        have HN := Lib.hid hN
        have hx : IntKind.i64.wrap ((N : Int) - 1) = ((N - 1 : Nat) : Int) := by rw [IntWalk.i64_in _ (by omega)]; omega
        clear hN
        go_loopw [8] (fun iv wr => ∃ (j : Nat) (X : List UInt8), iv = .int .i64 j ∧ j ≤ N / 2 ∧ Hid (Swp L X j) ∧ Hid (Row wr w.heap.size (.slice (some ⟨g, 0, none⟩) N cap) N X) ∧ Hid (Below w.heap.size w wr)) (fun iv _ => N / 2 - (intOf iv).toNat)
        case atStart => exact ⟨0, L, rfl, by omega, Lib.hid (swp_zero L), HR, HB⟩
        case round =>
          obtain ⟨j, X, rfl, hj, HS2, HRj, HBj⟩ := hrel
          by_cases hlt : j < N / 2
          · have hN2 := HN.out
            obtain ⟨k, hk⟩ : ∃ k, N - 1 - j = k := ⟨_, rfl⟩
            have hXl : X.length = N := by rw [HS2.out.1, hN2]
            obtain ⟨x1, hx1⟩ : ∃ a, L[j]? = some a := ⟨_, List.getElem?_eq_getElem (by omega)⟩
            obtain ⟨x2, hx2⟩ : ∃ a, L[k]? = some a := ⟨_, List.getElem?_eq_getElem (by omega)⟩
            have hsw := swp_at HS2.out (by omega)
            rw [hN2, hk] at hsw
            have hc1 : wr.cell? ⟨g, j, none⟩ = some (.int .u8 x1.toNat) := by rw [HRj.out.cellAt j (by omega), Lib.byteCells, List.getElem?_map, hsw.1, hx1]; rfl
            have hc2 : wr.cell? ⟨g, k, none⟩ = some (.int .u8 x2.toNat) := by rw [HRj.out.cellAt k (by omega), Lib.byteCells, List.getElem?_map, hsw.2, hx2]; rfl
            have hf1 := HRj.out.frozenAt j
            have s1 := HRj.out.stored j (.int .u8 x2.toNat)
            rw [cells_set] at s1
            have hf2 := s1.1.frozenAt k
            have hjk : j ≠ k := by omega
            have hc3 : (wr.setCell ⟨g, j, none⟩ (.int .u8 x2.toNat)).cell? ⟨g, k, none⟩ = some (.int .u8 x2.toNat) := by
              rw [s1.1.cellAt k (by omega), Lib.byteCells, List.getElem?_map, List.getElem?_set_ne hjk, hsw.2, hx2]; rfl
            have s2 := s1.1.stored k (.int .u8 x1.toNat)
            rw [cells_set] at s2
            have HX := Lib.hid (And.intro hx1 (And.intro hx2 (And.intro hk (And.intro s2.1 (And.intro s1.2 s2.2)))))
            have hjI : (j : Int) < (N : Int) / 2 := by omega
            have hjN : (j : Int) < (N : Int) := by omega
            have hkN : (k : Int) < (N : Int) := by omega
            have hy : IntKind.i64.wrap (((N - 1 : Nat) : Int) - (j : Int)) = (k : Int) := by rw [IntWalk.i64_in _ (by omega)]; omega
            clear s1 s2 hsw hN2 hXl
            go_wp2_with fail
            go_region_with fail
            all_goals (
              go_wp2_with fail
              go_roundw
              case rel =>
                obtain ⟨e1, e2, e3, r2, g1, g2⟩ := HX.out
                refine ⟨j + 1, (X.set j x2).set k x1, by go_num, by omega, Lib.hid ?_, Lib.hid r2.drew, Lib.hid ?_⟩
                · have hh := swp_step HS2.out (by rw [HN.out]; exact hlt) e1 (by rw [HN.out, e3]; exact e2)
                  rw [HN.out, e3] at hh
                  exact hh
                · exact below_drew ((HBj.out.grown g1 (Nat.le_trans (Nat.le_refl _) HBj.out.size) (fun k' hk' => by cases hk'; exact hgb)).grown g2 (by have := g1.size; have := HBj.out.size; omega) (fun k' hk' => by cases hk'; exact hgb))
              case measure => simp [intOf]; omega)
          · have hXe : X = strD false n := by rw [swp_end HS2.out (by rw [HN.out]; exact hlt)]; exact HLR.out
            have hXl : X.length = N := by rw [HS2.out.1, HN.out]
            have hcv := run_convert_bytes_back (P := Tryz.prog) wr 166 9 5 ⟨g, 0, none⟩ cap X Tryz.underlying166 Tryz.underlying5 Tryz.underlying9 (fun i hi => by
              rw [Lib.add_plain, Nat.zero_add, World.ownsRow.cellAt HRj.out i (by omega)]
              simp [Lib.byteCells, hi])
            rw [hXl] at hcv
            have HXE := Lib.hid hXe
            have hnl : ¬ (j : Int) < (N : Int) / 2 := by omega
            go_wp2_with fail
            go_ret
            exact ⟨rfl, HBj.out⟩
      · have HO := Lib.hid (HR.out.alloc (.cells #[.int .u8 45] 5))
        have HRl := HR.out.lt
        have hDl : (rdg n).length ≤ 32 * Big.KL := hT
        have hBz : w.heap.size ≤ wr.heap.size := HB.out.size
        go_wp2_with (at_builtin; refine wpList_append_own _ rfl _ _ 166 rfl w.heap.size 5 i0 (.int .u8 0) 1 1 Tryz.underlying166 hi hz0 hz1 hz2 rfl (by decide) _ _ _ rfl HO.out ⟨_, 0, none⟩ 1 1 [Value.int .u8 45] rfl rfl (by intro j u' hj; match j, hj with | 0, hj => simp at hj; subst hj; simp [Addr.add]) (by intro u' hu'; simp at hu'; subst hu'; rfl) (by unfold maxLen; omega) (by omega) (by simp; omega) ?_)
        intro v1 w2 hown1 hgrow _
        replace HR := Lib.hid (show Row w2 w.heap.size v1 (rdg n ++ [45]).length (rdg n ++ [45]) by
          unfold Row
          rw [List.length_append, Lib.byteCells_append]
          exact hown1)
        replace HB := Lib.hid ((below_alloc HB.out (Nat.le_refl _) (.cells #[.int .u8 45] 5)).grown hgrow (by simp; omega) (fun k hk => (HRl k hk).1))
        clear hown1 hgrow HO HRl
        go_wp2_with fail
        obtain ⟨L, hLe⟩ : ∃ L, rdg n ++ [45] = L := ⟨_, rfl⟩
        rw [hLe] at HR
        have HLR := Lib.hid (show L.reverse = strD true n by rw [← hLe, ← strD_rev true hn0]; simp)
        have hL : 0 < L.length := by
          have := List.length_pos_iff.2 (show rdg n ≠ [] by rw [rdg_step (by omega)]; simp)
          have := congrArg List.length hLe
          try rw [List.length_append] at this
          omega
        have hLm : L.length ≤ 32 * Big.KL + 1 := by
          have := congrArg List.length hLe
          try rw [List.length_append, List.length_singleton] at this
          omega
        clear hLe
        obtain ⟨g, cap, rfl, hgb, hgc, hgm⟩ := row_form HR.out hL
        obtain ⟨N, hN⟩ : ∃ N, L.length = N := ⟨_, rfl⟩
        rw [hN] at HR hLm hL hgc ⊢
        have HN := Lib.hid hN
        have hx : IntKind.i64.wrap ((N : Int) - 1) = ((N - 1 : Nat) : Int) := by rw [IntWalk.i64_in _ (by omega)]; omega
        clear hN
        go_loopw [8] (fun iv wr => ∃ (j : Nat) (X : List UInt8), iv = .int .i64 j ∧ j ≤ N / 2 ∧ Hid (Swp L X j) ∧ Hid (Row wr w.heap.size (.slice (some ⟨g, 0, none⟩) N cap) N X) ∧ Hid (Below w.heap.size w wr)) (fun iv _ => N / 2 - (intOf iv).toNat)
        case atStart => exact ⟨0, L, rfl, by omega, Lib.hid (swp_zero L), HR, HB⟩
        case round =>
          obtain ⟨j, X, rfl, hj, HS2, HRj, HBj⟩ := hrel
          by_cases hlt : j < N / 2
          · have hN2 := HN.out
            obtain ⟨k, hk⟩ : ∃ k, N - 1 - j = k := ⟨_, rfl⟩
            have hXl : X.length = N := by rw [HS2.out.1, hN2]
            obtain ⟨x1, hx1⟩ : ∃ a, L[j]? = some a := ⟨_, List.getElem?_eq_getElem (by omega)⟩
            obtain ⟨x2, hx2⟩ : ∃ a, L[k]? = some a := ⟨_, List.getElem?_eq_getElem (by omega)⟩
            have hsw := swp_at HS2.out (by omega)
            rw [hN2, hk] at hsw
            have hc1 : wr.cell? ⟨g, j, none⟩ = some (.int .u8 x1.toNat) := by rw [HRj.out.cellAt j (by omega), Lib.byteCells, List.getElem?_map, hsw.1, hx1]; rfl
            have hc2 : wr.cell? ⟨g, k, none⟩ = some (.int .u8 x2.toNat) := by rw [HRj.out.cellAt k (by omega), Lib.byteCells, List.getElem?_map, hsw.2, hx2]; rfl
            have hf1 := HRj.out.frozenAt j
            have s1 := HRj.out.stored j (.int .u8 x2.toNat)
            rw [cells_set] at s1
            have hf2 := s1.1.frozenAt k
            have hjk : j ≠ k := by omega
            have hc3 : (wr.setCell ⟨g, j, none⟩ (.int .u8 x2.toNat)).cell? ⟨g, k, none⟩ = some (.int .u8 x2.toNat) := by
              rw [s1.1.cellAt k (by omega), Lib.byteCells, List.getElem?_map, List.getElem?_set_ne hjk, hsw.2, hx2]; rfl
            have s2 := s1.1.stored k (.int .u8 x1.toNat)
            rw [cells_set] at s2
            have HX := Lib.hid (And.intro hx1 (And.intro hx2 (And.intro hk (And.intro s2.1 (And.intro s1.2 s2.2)))))
            have hjI : (j : Int) < (N : Int) / 2 := by omega
            have hjN : (j : Int) < (N : Int) := by omega
            have hkN : (k : Int) < (N : Int) := by omega
            have hy : IntKind.i64.wrap (((N - 1 : Nat) : Int) - (j : Int)) = (k : Int) := by rw [IntWalk.i64_in _ (by omega)]; omega
            clear s1 s2 hsw hN2 hXl
            go_wp2_with fail
            go_region_with fail
            all_goals (
              go_wp2_with fail
              go_roundw
              case rel =>
                obtain ⟨e1, e2, e3, r2, g1, g2⟩ := HX.out
                refine ⟨j + 1, (X.set j x2).set k x1, by go_num, by omega, Lib.hid ?_, Lib.hid r2.drew, Lib.hid ?_⟩
                · have hh := swp_step HS2.out (by rw [HN.out]; exact hlt) e1 (by rw [HN.out, e3]; exact e2)
                  rw [HN.out, e3] at hh
                  exact hh
                · exact below_drew ((HBj.out.grown g1 (Nat.le_trans (Nat.le_refl _) HBj.out.size) (fun k' hk' => by cases hk'; exact hgb)).grown g2 (by have := g1.size; have := HBj.out.size; omega) (fun k' hk' => by cases hk'; exact hgb))
              case measure => simp [intOf]; omega)
          · have hXe : X = strD true n := by rw [swp_end HS2.out (by rw [HN.out]; exact hlt)]; exact HLR.out
            have hXl : X.length = N := by rw [HS2.out.1, HN.out]
            have hcv := run_convert_bytes_back (P := Tryz.prog) wr 166 9 5 ⟨g, 0, none⟩ cap X Tryz.underlying166 Tryz.underlying5 Tryz.underlying9 (fun i hi => by
              rw [Lib.add_plain, Nat.zero_add, World.ownsRow.cellAt HRj.out i (by omega)]
              simp [Lib.byteCells, hi])
            rw [hXl] at hcv
            have HXE := Lib.hid hXe
            have hnl : ¬ (j : Int) < (N : Int) / 2 := by omega
            go_wp2_with fail
            go_ret
            exact ⟨rfl, HBj.out⟩
    · have hk1 : (lw.length : Int) > 0 := by
        have := mt hmk.1 (show ¬ m = 0 by omega)
        omega
      clear hmk
      go_wp2_with fail
      refine HC.out.mono ?_
      rintro e w2 ⟨v2, rfl, hq, hb2⟩
      obtain ⟨q, hqe⟩ : ∃ q, m / 1000000000 = q := ⟨_, rfl⟩
      obtain ⟨r0, hre⟩ : ∃ r, m % 1000000000 = r := ⟨_, rfl⟩
      rw [hqe] at hq
      rw [hre]
      have hdm : m = q * 10 ^ 9 + r0 := by rw [← hqe, ← hre]; have := Nat.div_add_mod m 1000000000; omega
      have hqm : Sml q := ⟨Nat.lt_of_le_of_lt (by rw [← hqe]; exact Nat.div_le_self _ _) hm.lt⟩
      have hr9 : r0 < 10 ^ 9 := by rw [← hre]; exact Nat.mod_lt _ (by omega)
      obtain ⟨lq, ⟨A2, c2, rfl, k1, k2, k3⟩, olq, nlq, hvq⟩ := hq
      have HQ := Lib.hid (show Nin w2 (.slice A2 lq.length c2) q from ⟨lq, ⟨A2, c2, rfl, k1, k2, k3⟩, olq, nlq, hvq⟩)
      have hqk : lq.length = 0 ↔ q = 0 := by
        rw [← hvq]
        exact ⟨fun e => by rw [List.eq_nil_of_length_eq_zero e]; rfl, fun e => by rw [Big.norm_zero M32_pos lq nlq e]; rfl⟩
      have HR2 := Lib.hid (World.ownsRow.kept (w' := w2) HR.out (row := none) ⟨hb2.os, hb2.tape, hb2.output, hb2.size, fun k hk _ => hb2.block k hk⟩ (Classical.em _))
      have HB2 := Lib.hid (HB.out.trans (hb2.mono HB.out.size))
      have HE2 := Lib.hid (show rdg n = D ++ rdg (q * 10 ^ (9 - 0) + r0) by rw [← hdm]; exact HE.out)
      have hov := row_len HR.out
      have HH := Lib.hid (And.intro hdm (And.intro hqm (And.intro hov hm0)))
      clear k1 k2 k3 olq nlq hvq hb2 hqe hre hdm HC hqm hov
      go_wp2_with fail
      go_loopw [3, 6, 7] (fun ow rv iv wi => ∃ (D' : List UInt8) (i r : Nat), i ≤ 9 ∧ iv = .int .i64 i ∧ rv = .int .u32 r ∧ Hid (r < 10 ^ (9 - i)) ∧ Hid (Row wi w.heap.size ow D'.length D') ∧ Hid (rdg n = D' ++ rdg (q * 10 ^ (9 - i) + r)) ∧ Hid (Below w.heap.size w wi) ∧ Hid (Nin wi (.slice A2 lq.length c2) q) ∧ Hid (D.length ≤ D'.length ∧ (i ≠ 0 → D.length < D'.length)))
        (fun _ _ iv _ => 9 - (intOf iv).toNat)
      case atStart => exact ⟨D, 0, r0, by omega, rfl, rfl, Lib.hid hr9, HR2, HE2, HB2, HQ, Lib.hid ⟨Nat.le_refl _, fun h => absurd rfl h⟩⟩
      case round =>
        obtain ⟨D', i, r, hi9, rfl, rfl, Hr, HRi, HEi, HBi, HQi, HDi⟩ := hrel
        by_cases hc : i < 9 ∧ (q ≠ 0 ∨ r ≠ 0)
        · obtain ⟨hI9, hc⟩ := hc
          have hI : (i : Int) < 9 := by omega
          have w1 : IntKind.u32.wrap (48 + (r : Int) % 10) = 48 + (r : Int) % 10 := by rw [IntKind.wrap_u32]; omega
          have w2' : IntKind.u8.wrap (48 + (r : Int) % 10) = 48 + (r : Int) % 10 := by rw [IntKind.wrap_u8]; omega
          have HO := Lib.hid (HRi.out.alloc (.cells #[.int .u8 (48 + (r : Int) % 10)] 5))
          have hDl : D'.length ≤ 32 * Big.KL := by
            have := congrArg List.length HEi.out
            rw [List.length_append] at this
            omega
          have hBz : w.heap.size ≤ wr.heap.size := HBi.out.size
          have hpos : 0 < q * 10 ^ (9 - i) + r := by
            rcases hc with h | h
            · have := Nat.mul_le_mul (Nat.one_le_iff_ne_zero.2 h) (Nat.one_le_pow (9 - i) 10 (by omega)); omega
            · omega
          by_cases hq0 : q = 0
          · have k1 : ¬ 0 < lq.length := by have := hqk.2 hq0; omega
            have k2 : 0 < r := by omega
            have HP := Lib.hid (And.intro hpos (And.intro hc (And.intro hDl hqk)))
            clear hpos hqk hc
            go_wp2_with (at_builtin; refine wpList_append_own _ rfl _ _ 166 rfl w.heap.size 5 i0 (.int .u8 0) 1 1 Tryz.underlying166 hi hz0 hz1 hz2 rfl (by decide) _ _ _ rfl HO.out ⟨_, 0, none⟩ 1 1 [Value.int .u8 (48 + (r : Int) % 10)] rfl rfl (by intro j u' hj; match j, hj with | 0, hj => simp at hj; subst hj; simp [Addr.add]) (by intro u' hu'; simp at hu'; subst hu'; rfl) (by unfold maxLen; omega) (by omega) (by simp; omega) ?_)
            intro v1 w2 hown1 hgrow _
            have HO2 := Lib.hid hown1
            have HB2 := Lib.hid ((below_alloc HBi.out (Nat.le_refl _) (.cells #[.int .u8 (48 + (r : Int) % 10)] 5)).grown hgrow (by simp; omega) (fun k hk => (HRi.out.lt k hk).1))
            have HQ2 := Lib.hid (nin_grown (nin_alloc HQi.out (.cells #[.int .u8 (48 + (r : Int) % 10)] 5)) hgrow (row_ty (HRi.out.alloc _)))
            clear hown1 hgrow
            go_wp2_with fail
            go_roundw
            case rel =>
              obtain ⟨hpos, -, hDl, -⟩ := HP.out
              have hr1 : r < 1000000000 := Nat.lt_of_lt_of_le Hr.out (by have := Nat.pow_le_pow_right (show 0 < 10 by omega) (show 9 - i ≤ 9 by omega); simpa using this)
              have hst := ten_step (q := q) (r := r) hI9
              refine ⟨D' ++ [UInt8.ofNat (48 + r % 10)], i + 1, r / 10, by omega, by go_num, by go_num, Lib.hid ?_, Lib.hid ?_, Lib.hid ?_, HB2, HQ2, Lib.hid ?_⟩
              · have := Hr.out
                rw [show 9 - i = (9 - (i + 1)) + 1 by omega, Nat.pow_succ] at this
                omega
              · have h1 := HO2.out
                unfold Row
                rw [List.length_append, Lib.byteCells_append]
                rw [dig_byte] at h1
                exact h1
              · rw [HEi.out, rdg_step hpos, hst.1, hst.2, List.append_assoc]; rfl
              · have := HDi.out.1
                rw [List.length_append]
                refine ⟨?_, fun _ => ?_⟩ <;> simp <;> omega
            case measure => simp [intOf]; omega
          · have k1 : 0 < lq.length := by have := mt hqk.1 hq0; omega
            have HP := Lib.hid (And.intro hpos (And.intro hc (And.intro hDl hqk)))
            clear hpos hqk hc
            go_wp2_with (at_builtin; refine wpList_append_own _ rfl _ _ 166 rfl w.heap.size 5 i0 (.int .u8 0) 1 1 Tryz.underlying166 hi hz0 hz1 hz2 rfl (by decide) _ _ _ rfl HO.out ⟨_, 0, none⟩ 1 1 [Value.int .u8 (48 + (r : Int) % 10)] rfl rfl (by intro j u' hj; match j, hj with | 0, hj => simp at hj; subst hj; simp [Addr.add]) (by intro u' hu'; simp at hu'; subst hu'; rfl) (by unfold maxLen; omega) (by omega) (by simp; omega) ?_)
            intro v1 w2 hown1 hgrow _
            have HO2 := Lib.hid hown1
            have HB2 := Lib.hid ((below_alloc HBi.out (Nat.le_refl _) (.cells #[.int .u8 (48 + (r : Int) % 10)] 5)).grown hgrow (by simp; omega) (fun k hk => (HRi.out.lt k hk).1))
            have HQ2 := Lib.hid (nin_grown (nin_alloc HQi.out (.cells #[.int .u8 (48 + (r : Int) % 10)] 5)) hgrow (row_ty (HRi.out.alloc _)))
            clear hown1 hgrow
            go_wp2_with fail
            go_roundw
            case rel =>
              obtain ⟨hpos, -, hDl, -⟩ := HP.out
              have hr1 : r < 1000000000 := Nat.lt_of_lt_of_le Hr.out (by have := Nat.pow_le_pow_right (show 0 < 10 by omega) (show 9 - i ≤ 9 by omega); simpa using this)
              have hst := ten_step (q := q) (r := r) hI9
              refine ⟨D' ++ [UInt8.ofNat (48 + r % 10)], i + 1, r / 10, by omega, by go_num, by go_num, Lib.hid ?_, Lib.hid ?_, Lib.hid ?_, HB2, HQ2, Lib.hid ?_⟩
              · have := Hr.out
                rw [show 9 - i = (9 - (i + 1)) + 1 by omega, Nat.pow_succ] at this
                omega
              · have h1 := HO2.out
                unfold Row
                rw [List.length_append, Lib.byteCells_append]
                rw [dig_byte] at h1
                exact h1
              · rw [HEi.out, rdg_step hpos, hst.1, hst.2, List.append_assoc]; rfl
              · have := HDi.out.1
                rw [List.length_append]
                refine ⟨?_, fun _ => ?_⟩ <;> simp <;> omega
            case measure => simp [intOf]; omega
        · by_cases hI9 : i < 9
          · have hI : (i : Int) < 9 := by omega
            have hq0 : q = 0 := by refine Classical.byContradiction fun e => hc ⟨hI9, .inl e⟩
            have hr0 : r = 0 := by refine Classical.byContradiction fun e => hc ⟨hI9, .inr e⟩
            have k1 : ¬ 0 < lq.length := by have := hqk.2 hq0; omega
            have k2 : ¬ 0 < r := by omega
            have HP := Lib.hid (And.intro hq0 (And.intro hr0 hqk))
            clear hqk hc
            go_wp2_with fail
            go_roundw
            case rel =>
              refine ⟨D', q, HQi, HRi, Lib.hid ?_, HBi, HH.out.2.1⟩
              rw [HEi.out]; obtain ⟨h1, h2, -⟩ := HP.out; subst h1 h2; simp
            case measure =>
              obtain ⟨-, -, hov, hm0⟩ := HH.out
              have hov2 := row_len HRi.out
              have h1 := HDi.out
              have h2 := congrArg List.length HE.out
              have h3 := congrArg List.length HEi.out
              rw [List.length_append] at h2 h3
              have h4 : 0 < (rdg m).length := by rw [rdg_step hm0]; simp
              rw [hov, hov2]
              have h5 : D'.length = (rdg n).length := by obtain ⟨e1, e2, -⟩ := HP.out; subst e1 e2; simp [rdg_zero] at h3; omega
              omega
          · have hI : ¬ (i : Int) < 9 := by omega
            have h9 : i = 9 := by omega
            have HP := Lib.hid (And.intro h9 hqk)
            clear hqk hc
            go_wp2_with fail
            go_roundw
            case rel =>
              refine ⟨D', q, HQi, HRi, Lib.hid ?_, HBi, HH.out.2.1⟩
              rw [HEi.out]; have h1 := HP.out.1; have h2 := Hr.out; subst h1; simp at h2 ⊢; rw [h2]; simp
            case measure =>
              obtain ⟨-, -, hov, hm0⟩ := HH.out
              have hov2 := row_len HRi.out
              have h1 := HDi.out
              have h2 := congrArg List.length HE.out
              have h3 := congrArg List.length HEi.out
              rw [List.length_append] at h2 h3
              have h4 : 0 < (rdg m).length := by rw [rdg_step hm0]; simp
              rw [hov, hov2]
              have h5 := h1.2 (by omega)
              omega
end R
end Go.Proofs.YtepnghhgmjobjaaGreatDoor
namespace Go.Proofs.YtepnghhgmjobjaaGreatDoor
open Go Go.RowKit
namespace Ev
set_option maxRecDepth 100000
noncomputable def outI (s : Bool) (n : Xe) : E3 Wf := .one (.b 119 [.p (.bool s), .f (.wd n)])
theorem num_run (s z : Bool) : runV [⟨1, xv, x0, z⟩, ⟨1, x1, x0, false⟩] [blkR s xv x1] [0] 112 = some (outI (s && !z) xv) := by
  cases s <;> cases z <;> kernel_rfl
theorem denom_run (s z : Bool) : runV [⟨1, xv, x0, z⟩, ⟨1, x1, x0, false⟩] [blkR s xv x1] [0] 114 = some (outI false x1) := by
  cases s <;> cases z <;> kernel_rfl
noncomputable def runV2 (A : List Xs) (bl : List (BL Wf)) (is : List Nat) (f : FuncId) : Option (E3 Wf) := tellsB bl [] (fun ps _ => sel is ps) (call Tryz.prog (wCfg A) (wSums2 A) 60 f)
theorem isInt_run (s wh : Bool) : runV2 [⟨1, x1, x0, false⟩, ⟨3, x1, .c 1, false⟩, ⟨2, x1, .c 1, wh⟩] [blkR s xv x1] [0] 126 = some (.one (.d (.one (.p (.bool wh))))) := by
  cases s <;> cases wh <;> kernel_rfl
section
variable {w : World} {v : Value} {q : Rat}
theorem outI_is {ρ : XEnv} {lo : Nat} {bs : List Nat} {s : Bool} {n : Xe} (h : (outI s n).is (wSig ρ) lo bs w v) (hlo : Tryz.prog.globals.size ≤ lo) : IntIn w v s (n.ev ρ.q) := by
  obtain ⟨b, vs, rfl, hb, hh, v1, l1, rfl, h1, v2, l2, rfl, h2, h3⟩ := h
  obtain rfl : l2 = [] := h3
  obtain rfl : v1 = .bool s := h1
  exact ⟨b, rfl, Nat.le_trans hlo hb, v2, hh, h2⟩
def IRes (w : World) (s : Bool) (n : Nat) (e : Ending) (w' : World) : Prop := ∃ v, e = .returned v ∧ IntIn w' v s n ∧ Below w.heap.size w w'
theorem num_any (hv : RatIn w v q) (hq : RB q) (hG : Tryz.prog.globals.size ≤ w.heap.size) (hT : Tab w) : Calls Tryz.prog 112 ⟨[v]⟩ w (IRes w (Big.ng q) (Big.nu q)) := by
  obtain ⟨b, rfl, g, u, d, hb, hu, hd⟩ := hv
  obtain ⟨ρ, e0, e1⟩ : ∃ ρ : XEnv, ρ.q 0 = Big.nu q ∧ ρ.q 1 = Big.de q := ⟨xenv [Big.nu q, Big.de q] (by intro n hn; simp only [List.mem_cons, List.not_mem_nil, or_false] at hn; rcases hn with rfl | rfl; exact hq.1; exact hq.2), rfl, rfl⟩
  rw [← e0] at hu
  rw [← e1] at hd
  have hA : AllX ρ [⟨1, xv, x0, decide (Big.nu q = 0)⟩, ⟨1, x1, x0, false⟩] := allX_cons (holds1 (by rw [decide_eq_true_iff, ← e0]; rfl)) (allX_cons (holds1 (not_nought (by show 0 < ρ.q 1; rw [e1]; exact de_pos q))) (allX_nil ρ))
  refine (tellsB_calls (wFits hA) (wSums_ok hA) (num_run (Big.ng q) _) (fun _ _ _ _ _ hp _ => sel_ok hp _) (by kernel_rfl) glob_lim (bs := [b]) (us := []) ⟨b, [], rfl, blkR_are (n := xv) (d := x1) hb hu hd, by simp, g, rfl⟩ rfl hG hT).mono ?_
  rintro e w' ⟨x, rfl, hx, hbl⟩
  have hs : (Big.ng q && !decide (Big.nu q = 0)) = Big.ng q := by
    cases hn : Big.ng q with
    | false => rfl
    | true =>
      by_cases h0 : Big.nu q = 0
      · rw [Big.nu_zero.1 h0] at hn; cases hn
      · rw [decide_eq_false h0]; rfl
  rw [hs] at hx
  have hh := outI_is hx hG
  rw [show xv.ev ρ.q = Big.nu q from e0] at hh
  exact ⟨x, rfl, hh, hbl⟩
theorem denom_any (hv : RatIn w v q) (hq : RB q) (hG : Tryz.prog.globals.size ≤ w.heap.size) (hT : Tab w) : Calls Tryz.prog 114 ⟨[v]⟩ w (IRes w false (Big.de q)) := by
  obtain ⟨b, rfl, g, u, d, hb, hu, hd⟩ := hv
  obtain ⟨ρ, e0, e1⟩ : ∃ ρ : XEnv, ρ.q 0 = Big.nu q ∧ ρ.q 1 = Big.de q := ⟨xenv [Big.nu q, Big.de q] (by intro n hn; simp only [List.mem_cons, List.not_mem_nil, or_false] at hn; rcases hn with rfl | rfl; exact hq.1; exact hq.2), rfl, rfl⟩
  rw [← e0] at hu
  rw [← e1] at hd
  have hA : AllX ρ [⟨1, xv, x0, decide (Big.nu q = 0)⟩, ⟨1, x1, x0, false⟩] := allX_cons (holds1 (by rw [decide_eq_true_iff, ← e0]; rfl)) (allX_cons (holds1 (not_nought (by show 0 < ρ.q 1; rw [e1]; exact de_pos q))) (allX_nil ρ))
  refine (tellsB_calls (wFits hA) (wSums_ok hA) (denom_run (Big.ng q) _) (fun _ _ _ _ _ hp _ => sel_ok hp _) (by kernel_rfl) glob_lim (bs := [b]) (us := []) ⟨b, [], rfl, blkR_are (n := xv) (d := x1) hb hu hd, by simp, g, rfl⟩ rfl hG hT).mono ?_
  rintro e w' ⟨x, rfl, hx, hbl⟩
  have hh := outI_is hx hG
  rw [show x1.ev ρ.q = Big.de q from e1] at hh
  exact ⟨x, rfl, hh, hbl⟩
theorem isInt_any (hv : RatIn w v q) (hq : RB q) (hG : Tryz.prog.globals.size ≤ w.heap.size) (hT : Tab w) :
    Calls Tryz.prog 126 ⟨[v]⟩ w fun e w' => e = .returned (.bool (decide (Big.de q = 1))) ∧ Below w.heap.size w w' := by
  obtain ⟨b, rfl, g, u, d, hb, hu, hd⟩ := hv
  obtain ⟨ρ, e0, e1⟩ : ∃ ρ : XEnv, ρ.q 0 = Big.nu q ∧ ρ.q 1 = Big.de q := ⟨xenv [Big.nu q, Big.de q] (by intro n hn; simp only [List.mem_cons, List.not_mem_nil, or_false] at hn; rcases hn with rfl | rfl; exact hq.1; exact hq.2), rfl, rfl⟩
  rw [← e0] at hu
  rw [← e1] at hd
  have hd1 := de_pos q
  have hA : AllX ρ [⟨1, x1, x0, false⟩, ⟨3, x1, .c 1, false⟩, ⟨2, x1, .c 1, decide (Big.de q = 1)⟩] := by
    refine allX_cons (holds1 (not_nought (by show 0 < ρ.q 1; rw [e1]; exact hd1))) (allX_cons (holds3 ?_) (allX_cons (holds2 ?_) (allX_nil ρ)))
    · show _ ↔ ρ.q 1 < 1
      rw [e1]
      exact ⟨fun h => (by cases h), fun h => (by omega)⟩
    · rw [decide_eq_true_iff, ← e1]; rfl
  refine (tellsB_calls (wFits hA) (wSums2_ok hA) (isInt_run (Big.ng q) _) (fun _ _ _ _ _ hp _ => sel_ok hp _) (by kernel_rfl) glob_lim (bs := [b]) (us := []) ⟨b, [], rfl, blkR_are (n := xv) (d := x1) hb hu hd, by simp, g, rfl⟩ rfl hG hT).mono ?_
  rintro e w' ⟨x, rfl, hx, hbl⟩
  exact ⟨by rw [show x = _ from hx], hbl⟩
theorem intIn_at {b n : Nat} {s : Bool} (h : IntIn w (.pointer (some ⟨b, 0, none⟩)) s n) : R.IntAt w b 0 s n := by
  obtain ⟨b', e, -, u, hb, hu⟩ := h
  injection e with e
  injection e with e
  injection e with e
  subst e
  exact ⟨R.cell_at hb rfl, u, R.cell_at hb rfl, hu⟩
def sOf (l : List UInt8) : Value := .string ⟨l.toArray⟩
theorem str_any {s : Bool} {n : Nat} (hv : IntIn w v s n) (hn : R.Sml n) : Calls Tryz.prog 127 ⟨[v]⟩ w fun e w' => e = .returned (sOf (R.strD s n)) ∧ Below w.heap.size w w' := by
  obtain ⟨b, rfl, hv2⟩ := id hv
  exact R.string_any w b 0 n s (intIn_at hv) hn
theorem strD_len {s : Bool} {n : Nat} (hn : R.Sml n) : (R.strD s n).length ≤ 32 * Big.KL + 1 := by
  by_cases h0 : n = 0
  · subst h0; unfold R.strD; rw [if_pos rfl, List.length_singleton]; omega
  · rw [← R.strD_rev s h0, List.length_reverse, List.length_append]
    have := R.rdg_len (32 * Big.KL) n (Nat.lt_of_lt_of_le hn.lt (by rw [R.M32_eq, show (4294967296 : Nat) = 2 ^ 32 from rfl, ← Nat.pow_mul]; exact Nat.pow_le_pow_left (by omega) _))
    cases s <;> simp <;> omega
def textD (q : Rat) : List UInt8 := R.strD (Big.ng q) (Big.nu q) ++ (if Big.de q = 1 then [] else 47 :: R.strD false (Big.de q))
theorem addS {P : Program} (a b : List UInt8) (ha : a.length ≤ 300000000000) (hb : b.length ≤ 300000000000) (W : World) : (Op.stringOp .add ⟨a.toArray⟩ ⟨b.toArray⟩).run P W = .ok (.string ⟨(a ++ b).toArray⟩) W := by
  rw [run_string_add_sum W _ _ (by simp [ByteArray.size]; omega)]
  have e : (⟨a.toArray⟩ : ByteArray) ++ ⟨b.toArray⟩ = ⟨(a ++ b).toArray⟩ := by
    apply ByteArray.ext
    simp
  rw [e]
set_option maxHeartbeats 4000000 in
theorem refText_any (w : World) (v : Value) (q : Rat) (hv : RatIn w v q) (hq : RB q) (hG : Tryz.prog.globals.size ≤ w.heap.size) (hT : Tab w) :
    Calls Tryz.prog 61 #[v] w fun e w' => e = .returned (sOf (textD q)) ∧ Below w.heap.size w w' := by
  have HI := Lib.hid (isInt_any hv hq hG hT)
  have HV := Lib.hid hv
  have HQ := Lib.hid hq
  have HG := Lib.hid (And.intro hG hT)
  have HT := Lib.hid (show textD q = R.strD (Big.ng q) (Big.nu q) ++ (if Big.de q = 1 then [] else 47 :: R.strD false (Big.de q)) from rfl)
  have HSN := Lib.hid (hq.1.sml (by decide))
  have HSD := Lib.hid (hq.2.sml (by decide))
  obtain ⟨b, rfl, -⟩ := hv
  clear hG hT hq
  go_enter Tryz.func61, Tryz.ntmps61
  go_wp2_with fail
  refine HI.out.mono ?_
  rintro e w1 ⟨rfl, hw1⟩
  have HB1 := Lib.hid hw1
  have HN := Lib.hid (num_any (HV.out.keep hw1) HQ.out (Nat.le_trans HG.out.1 hw1.size) (HG.out.2.keep hw1))
  clear hw1 HI
  by_cases hde : Big.de q = 1
  · have hde2 : decide (Big.de q = 1) = true := decide_eq_true hde
    rw [hde2]
    go_wp2_with fail
    refine HN.out.mono ?_
    rintro e w2 ⟨v2, rfl, hv2, hw2⟩
    have HB2 := Lib.hid (HB1.out.trans (hw2.mono HB1.out.size))
    have HS := Lib.hid (str_any hv2 HSN.out)
    obtain ⟨b2, rfl, -⟩ := hv2
    clear hw2 HN
    go_wp2_with fail
    refine HS.out.mono ?_
    rintro e w3 ⟨rfl, hw3⟩
    have HB3 := Lib.hid (HB2.out.trans (hw3.mono HB2.out.size))
    clear hw3 HS
    go_wp2_with fail
    go_ret
    refine ⟨?_, HB3.out⟩
    rw [HT.out, if_pos hde, List.append_nil]
    rfl
  · have hde2 : decide (Big.de q = 1) = false := decide_eq_false hde
    rw [hde2]
    go_wp2_with fail
    refine HN.out.mono ?_
    rintro e w2 ⟨v2, rfl, hv2, hw2⟩
    have HB2 := Lib.hid (HB1.out.trans (hw2.mono HB1.out.size))
    have HS := Lib.hid (str_any hv2 HSN.out)
    obtain ⟨b2, rfl, -⟩ := hv2
    clear hw2 HN
    go_wp2_with fail
    refine HS.out.mono ?_
    rintro e w3 ⟨rfl, hw3⟩
    have HB3 := Lib.hid (HB2.out.trans (hw3.mono HB2.out.size))
    have HD := Lib.hid (denom_any (HV.out.keep HB3.out) HQ.out (Nat.le_trans HG.out.1 HB3.out.size) (HG.out.2.keep HB3.out))
    have l1 := strD_len (s := Big.ng q) HSN.out
    have l2 := strD_len (s := false) HSD.out
    have hK : 32 * Big.KL ≤ 100000000000 := by rw [Big.KL_eq]; omega
    have add1 := fun W => addS (P := Tryz.prog) (R.strD (Big.ng q) (Big.nu q)) [47] (by omega) (by simp) W
    have add2 := fun W => addS (P := Tryz.prog) (R.strD (Big.ng q) (Big.nu q) ++ [47]) (R.strD false (Big.de q)) (by simp; omega) (by omega) W
    clear hw3 HS l1 l2 hK
    unfold sOf
    go_wp2_with fail
    refine HD.out.mono ?_
    rintro e w4 ⟨v4, rfl, hv4, hw4⟩
    have HB4 := Lib.hid (HB3.out.trans (hw4.mono HB3.out.size))
    have HS := Lib.hid (str_any hv4 HSD.out)
    obtain ⟨b4, rfl, -⟩ := hv4
    clear hw4 HD
    go_wp2_with fail
    refine HS.out.mono ?_
    rintro e w5 ⟨rfl, hw5⟩
    have HB5 := Lib.hid (HB4.out.trans (hw5.mono HB4.out.size))
    clear hw5 HS
    unfold sOf
    go_wp2_with fail
    go_ret
    refine ⟨?_, HB5.out⟩
    rw [HT.out, if_neg hde]
    unfold sOf
    simp
end
end Ev
end Go.Proofs.YtepnghhgmjobjaaGreatDoor
namespace Go.Proofs.YtepnghhgmjobjaaGreatDoor
open Go.RowKit
end Go.Proofs.YtepnghhgmjobjaaGreatDoor
namespace Go.Proofs.YtepnghhgmjobjaaGreatDoor
open Go.RowKit
def Ret2 (w : World) (v : Value) (n : Int) (e : Ending) (w' : World) : Prop := e = .returned (.tuple #[v, .int .i64 n]) ∧ Below w.heap.size w w'
theorem At3.both {w w' : World} {g : Nat} {T : TypeId} {a b c : Value} (h : At3 w g T a b c) (hb : Below w.heap.size w w') (B : Nat) (w0 : World) (hB : Below B w0 w) : At3 w' g T a b c ∧ Below B w0 w' → At3 w' g T a b c := fun _ => h.keep hb
end Go.Proofs.YtepnghhgmjobjaaGreatDoor
namespace Go.Proofs.YtepnghhgmjobjaaGreatDoor
open Go.RowKit
end Go.Proofs.YtepnghhgmjobjaaGreatDoor
namespace Go.Proofs.YtepnghhgmjobjaaGreatDoor
open Go.RowKit
def AtL (w : World) (g : Nat) (T : TypeId) (cs : Array Value) : Prop := w.heap[g]? = some (.cells cs T (0, 0))
section
variable {w w' : World} {g : Nat} {T : TypeId} {cs : Array Value}
theorem AtL.lt (h : AtL w g T cs) : g < w.heap.size := by
  rcases Nat.lt_or_ge g w.heap.size with h1 | h1
  · exact h1
  · unfold AtL at h; rw [Array.getElem?_eq_none h1] at h; cases h
theorem AtL.cell (h : AtL w g T cs) (i : Nat) {x : Value} (hx : cs[i]? = some x) : w.cell? ⟨g, i, none⟩ = some x := by rw [cell_of_row w g i _ _ (0, 0) h]; exact hx
theorem AtL.frozen (h : AtL w g T cs) (i : Nat) : w.frozen? ⟨g, i, none⟩ = false := frozen_of_row w g i _ _ h
theorem AtL.new (w : World) (T : TypeId) (cs : Array Value) : AtL (w.alloc (.cells cs T)) w.heap.size T cs := heap_alloc_new w _
theorem AtL.alloc' (h : AtL w g T cs) (o : Obj) : AtL (w.alloc o) g T cs := (Below.heap_alloc w o g h.lt).trans h
theorem AtL.below (h : AtL w g T cs) {B : Nat} (hb : Below B w w') (hg : g < B) : AtL w' g T cs := (hb.block g hg).trans h
theorem AtL.keep (h : AtL w g T cs) (hb : Below w.heap.size w w') : AtL w' g T cs := h.below hb h.lt
theorem AtL.set (h : AtL w g T cs) (i : Nat) (x : Value) : AtL (w.setCell ⟨g, i, none⟩ x) g T (cs.setIfInBounds i x) := heap_setCell_same w g i _ _ x h
end
end Go.Proofs.YtepnghhgmjobjaaGreatDoor
namespace Go.Proofs.YtepnghhgmjobjaaGreatDoor
open Go.RowKit
def One (w : World) (v : Value) (q : Rat) : Prop := ∃ g a b, v = .slice (some ⟨g, 0, none⟩) 1 1 ∧ AtL w g 82 #[.bool (Big.ng q), a, b] ∧ NumIn w (.agg #[.bool (Big.ng q), a, b]) q
def Two (w : World) (v : Value) (q r : Rat) : Prop := ∃ g a b c d, v = .slice (some ⟨g, 0, none⟩) 2 2 ∧ AtL w g 82 #[.bool (Big.ng q), a, b, .bool (Big.ng r), c, d] ∧ NumIn w (.agg #[.bool (Big.ng q), a, b]) q ∧ NumIn w (.agg #[.bool (Big.ng r), c, d]) r
def OneR (w : World) (q : Rat) (e : Ending) (w' : World) : Prop := ∃ v, e = .returned (.tuple #[v, .bool true]) ∧ One w' v q ∧ Below w.heap.size w w'
theorem Tryz.infoNum : (Tryz.prog.info? 82).map (fun i => (i.zero, i.size, i.bytes)) = some (some (.agg #[.bool false, .slice none 0 0, .slice none 0 0]), 3, 56) := by kernel_rfl
theorem make_nums (n : Nat) (hn : n ≤ 1000) (cs : Array Value) (hcs : madeCells (Value.agg #[.bool false, .slice none 0 0, .slice none 0 0]).cells (n * 3) = cs) (w : World) :
    (Instr.makeSlice 130 (.int .i64 ((n : Nat) : Int)) (.int .i64 ((n : Nat) : Int))).run Tryz.prog w = .ok (.slice (some ⟨w.heap.size, 0, none⟩) n n) (w.alloc (.cells cs 82)) := by
  obtain ⟨i0, hi, hz0, hz1, hz2⟩ := info_parts Tryz.infoNum
  have hr := run_make (P := Tryz.prog) w 130 82 i0 _ Tryz.underlying130 hi hz0 .i64 .i64 (n : Int) (n : Int) (by omega) (by omega) (by rw [hz2]; omega) (by omega)
  rw [hz1] at hr
  simp only [Int.toNat_natCast] at hr
  rw [hr, hcs]
theorem AtL.no_int {w : World} {g : Nat} {T : TypeId} {cs : Array Value} (h : AtL w g T cs) (hc : ∀ v ∈ cs.toList, ∀ x, v ≠ .int .u64 x) (i : Nat) (x : Int) : w.cell? ⟨g, i, none⟩ ≠ some (.int .u64 x) := by
  rw [cell_of_row w g i _ _ (0, 0) h]
  intro e
  exact hc _ (by rw [Array.mem_toList_iff]; exact Array.mem_of_getElem? e) x rfl
theorem NumIn.only {w w' : World} {v : Value} {q : Rat} {g : Nat} (h : NumIn w v q) (hg : ∀ i x, w.cell? ⟨g, i, none⟩ ≠ some (.int .u64 x)) (ho : Only g w w') : NumIn w' v q := by
  obtain ⟨a, b, e, h1, h2⟩ := h; exact ⟨a, b, e, h1.only hg ho, h2.only hg ho⟩
theorem Only.alloc {g : Nat} {w w' : World} (h : Only g w w') (o : Obj) : Only g w (w'.alloc o) := h.trans (Only.of_below (box1_below w' o))
set_option maxRecDepth 100000 in
set_option maxHeartbeats 4000000 in
theorem read1_any (w : World) (g : Nat) (q : Rat) (h : AtL w g 24 #[.bool (Big.ng q), .string (bst (Big.nu q)), .string (bst (Big.de q))]) (hfq : Fit q) :
    Calls Tryz.prog 111 #[.slice (some ⟨g, 0, none⟩) 1 1] w (OneR w q) := by
  have hmk : ∀ W, (Instr.makeSlice 130 (.int .i64 1) (.int .i64 1)).run Tryz.prog W = .ok (.slice (some ⟨W.heap.size, 0, none⟩) 1 1) (W.alloc (.cells #[.bool false, .slice none 0 0, .slice none 0 0] 82)) := fun W => make_nums 1 (by omega) #[.bool false, .slice none 0 0, .slice none 0 0] (by first | kernel_rfl | (simp [madeCells]; rfl)) W
  have HA := Lib.hid h
  have HRq := Lib.hid (fun W => exRead_ok W q hfq)
  have HN := Lib.hid (AtL.new w 82 #[.bool false, .slice none 0 0, .slice none 0 0])
  have HB := Lib.hid (box1_below w (.cells #[.bool false, .slice none 0 0, .slice none 0 0] 82))
  have hg := h.lt
  have h' := h.alloc' (.cells #[.bool false, .slice none 0 0, .slice none 0 0] 82)
  have c0 := h'.cell 0 rfl
  have c1 := h'.cell 1 rfl
  have c2 := h'.cell 2 rfl
  clear h h' hfq
  go_enter Tryz.func111, Tryz.ntmps111
  go_wp2_with fail
  refine wp_loop_rounds 2 ?_
  rw [rounds_succ]
  go_wp2_with fail
  clear hmk c0 c1 c2
  have HN0 := Lib.hid (HN.out.alloc' (.cells #[.bool (Big.ng q), .string (bst (Big.nu q)), .string (bst (Big.de q))] 24))
  have HB0 := Lib.hid (below_alloc HB.out (Nat.le_refl _) (.cells #[.bool (Big.ng q), .string (bst (Big.nu q)), .string (bst (Big.de q))] 24))
  generalize (w.alloc (.cells #[.bool false, .slice none 0 0, .slice none 0 0] 82)).alloc (.cells #[.bool (Big.ng q), .string (bst (Big.nu q)), .string (bst (Big.de q))] 24) = wa0 at *
  refine (HRq.out _).mono ?_
  rintro e w0 ⟨v0, rfl, hv0, hw0⟩
  obtain ⟨A0, l0, c0, B0, m0, d0, rfl, ha0, hb0⟩ := hv0.is_agg
  have n0 := HN0.out.keep hw0
  have hlt0 := n0.lt
  have k0 := n0.cell 0 rfl; have k1 := n0.cell 1 rfl; have k2 := n0.cell 2 rfl
  have f0 := n0.frozen 0; have f1 := n0.frozen 1; have f2 := n0.frozen 2
  have s0 : AtL (((w0.setCell ⟨w.heap.size, 0, none⟩ (.bool (Big.ng q))).setCell ⟨w.heap.size, 1, none⟩ (.slice A0 l0 c0)).setCell ⟨w.heap.size, 2, none⟩ (.slice B0 m0 d0)) w.heap.size 82 #[.bool (Big.ng q), .slice A0 l0 c0, .slice B0 m0 d0] := ((n0.set 0 (.bool (Big.ng q))).set 1 (.slice A0 l0 c0)).set 2 (.slice B0 m0 d0)
  have o0 := (((Only.refl w.heap.size w0).setCell 0 (.bool (Big.ng q))).setCell 1 (.slice A0 l0 c0)).setCell 2 (.slice B0 m0 d0)
  have ni0 := n0.no_int (by simp)
  have b0 := HB0.out.trans (hw0.mono HB0.out.size)
  have bb0 : Below w.heap.size w (((w0.setCell ⟨w.heap.size, 0, none⟩ (.bool (Big.ng q))).setCell ⟨w.heap.size, 1, none⟩ (.slice A0 l0 c0)).setCell ⟨w.heap.size, 2, none⟩ (.slice B0 m0 d0)) := ((b0.setCell (p := ⟨w.heap.size, 0, none⟩) (Nat.le_refl _) _).setCell (p := ⟨w.heap.size, 1, none⟩) (Nat.le_refl _) _).setCell (p := ⟨w.heap.size, 2, none⟩) (Nat.le_refl _) _
  have HS0 := Lib.hid (s0.alloc' (.cells #[.bool (Big.ng q), .slice A0 l0 c0, .slice B0 m0 d0] 82))
  have HO0 := Lib.hid (And.intro (hv0.only ni0 (o0.alloc (.cells #[.bool (Big.ng q), .slice A0 l0 c0, .slice B0 m0 d0] 82))) (below_alloc bb0 (Nat.le_refl _) (.cells #[.bool (Big.ng q), .slice A0 l0 c0, .slice B0 m0 d0] 82)))
  clear hv0 hw0 ha0 hb0 n0 s0 o0 ni0 b0 bb0
  go_wp2_with fail
  generalize ((((w0.setCell ⟨w.heap.size, 0, none⟩ (.bool (Big.ng q))).setCell ⟨w.heap.size, 1, none⟩ (.slice A0 l0 c0)).setCell ⟨w.heap.size, 2, none⟩ (.slice B0 m0 d0)).alloc (.cells #[.bool (Big.ng q), .slice A0 l0 c0, .slice B0 m0 d0] 82)) = wz0 at HS0 HO0  ⊢
  clear k0 k1 k2 f0 f1 f2
  rw [rounds_succ]
  go_wp2_with fail
  go_ret2
  exact ⟨_, rfl, ⟨_, _, _, rfl, HS0.out, HO0.out.1⟩, HO0.out.2⟩
end Go.Proofs.YtepnghhgmjobjaaGreatDoor
namespace Go.Proofs.YtepnghhgmjobjaaGreatDoor
open Go.RowKit
end Go.Proofs.YtepnghhgmjobjaaGreatDoor
namespace Go.Proofs.YtepnghhgmjobjaaGreatDoor
open Go.RowKit
end Go.Proofs.YtepnghhgmjobjaaGreatDoor
namespace Go.Proofs.YtepnghhgmjobjaaGreatDoor
open Go.RowKit
def txQ (q : Rat) : List UInt8 := (if Big.ng q = true then [45] else []) ++ Lib.decDigits (Big.nu q) ++ (if Big.de q = 1 then [] else 47 :: Lib.decDigits (Big.de q))
theorem textB {P : Program} {f : FuncId} {args : Array Value} {b W : World} {v : Value} (h : Below b.heap.size b W) (c : Calls P f args W fun e w' => e = .returned v ∧ Below W.heap.size W w') :
    Calls P f args W fun e w' => e = .returned v ∧ Below b.heap.size b w' :=
  c.mono fun _ _ ⟨h1, h2⟩ => ⟨h1, h.trans (h2.mono h.size)⟩
theorem add_bytes {P : Program} (a b : List UInt8) (ha : a.length ≤ 1000000) (hb : b.length ≤ 1000000) (W : World) : (Op.stringOp .add ⟨a.toArray⟩ ⟨b.toArray⟩).run P W = .ok (.string ⟨(a ++ b).toArray⟩) W := by
  rw [run_string_add_sum W _ _ (by simp [ByteArray.size]; omega)]
  have e : (⟨a.toArray⟩ : ByteArray) ++ ⟨b.toArray⟩ = ⟨(a ++ b).toArray⟩ := by
    apply ByteArray.ext
    simp
  rw [e]
set_option maxRecDepth 100000 in
set_option maxHeartbeats 4000000 in
theorem raText_any (w : World) (q : Rat) (hq : Fit q) (htab : Tab w) :
    Calls Tryz.prog 58 #[.agg #[.bool (Big.ng q), .string (bst (Big.nu q)), .string (bst (Big.de q))]] w (Ret2 w (.string ⟨(txQ q).toArray⟩) 0) := by
  have HS := Lib.hid hq.sm; have HT := Lib.hid htab
  have CT1 := Lib.hid (fun b W v (h : NatIn W v (Big.nu q)) (ht : Tab W) (hb : Below b.heap.size b W) => textB hb (text_any W v (Big.nu q) 64 h HS.out.nu (by omega) ht))
  have CT2 := Lib.hid (fun b W v (h : NatIn W v (Big.de q)) (ht : Tab W) (hb : Below b.heap.size b W) => textB hb (text_any W v (Big.de q) 64 h HS.out.de (by omega) ht))
  have HTX := Lib.hid (show txQ q = (if Big.ng q = true then [45] else []) ++ Lib.decDigits (Big.nu q) ++ (if Big.de q = 1 then [] else 47 :: Lib.decDigits (Big.de q)) from rfl)
  have HSG := Lib.hid (show (sgQ q < 0) ↔ Big.ng q = true by
    unfold sgQ; split
    · rename_i h; simp [h]
    · rename_i h; simp [h]; split <;> omega)
  clear htab
  have HRD := Lib.hid (fun W g (h : AtL W g 24 #[.bool (Big.ng q), .string (bst (Big.nu q)), .string (bst (Big.de q))]) => read1_any W g q h hq)
  have HB1 := Lib.hid (below_alloc (box1_below w (.cells #[.bool (Big.ng q), .string (bst (Big.nu q)), .string (bst (Big.de q))] 24)) (Nat.le_refl _) (.cells #[.bool (Big.ng q), .string (bst (Big.nu q)), .string (bst (Big.de q))] 24))
  have HN1 := AtL.new (w.alloc (.cells #[.bool (Big.ng q), .string (bst (Big.nu q)), .string (bst (Big.de q))] 24)) 24 #[.bool (Big.ng q), .string (bst (Big.nu q)), .string (bst (Big.de q))]
  rw [alloc_size] at HN1
  have HN1 := Lib.hid HN1
  clear hq
  go_enter Tryz.func58, Tryz.ntmps58
  go_wp2_with fail
  refine (HRD.out _ _ HN1.out).mono ?_
  generalize (w.alloc (.cells #[.bool (Big.ng q), .string (bst (Big.nu q)), .string (bst (Big.de q))] 24)).alloc (.cells #[.bool (Big.ng q), .string (bst (Big.nu q)), .string (bst (Big.de q))] 24) = wa at *
  rintro e w1 ⟨v1, rfl, ⟨g, a, b, rfl, hat, hnq⟩, hw1⟩
  have HB2 := Lib.hid (HB1.out.trans (hw1.mono HB1.out.size))
  obtain ⟨A, l, cc, B, m, dd, e1, -, -⟩ := hnq.is_agg
  simp only [Value.agg.injEq] at e1
  have e1a : a = .slice A l cc := by have := congrArg (fun z : Array Value => z[1]?) e1; simpa using this
  have e1b : b = .slice B m dd := by have := congrArg (fun z : Array Value => z[2]?) e1; simpa using this
  subst e1a e1b
  have HAT := Lib.hid hat; have HNQ := Lib.hid hnq
  clear e1 hat hnq hw1 HB1 HN1 HRD
  have c0 := HAT.out.cell 0 rfl; have c1 := HAT.out.cell 1 rfl; have c2 := HAT.out.cell 2 rfl
  have KX := Lib.hid (fun W (h : Below w1.heap.size w1 W) => And.intro ((HAT.out.keep h).cell 0 rfl) (And.intro ((HAT.out.keep h).cell 1 rfl) ((HAT.out.keep h).cell 2 rfl)))
  have CS := Lib.hid (fun W (h : Below w1.heap.size w1 W) => textB h (exSign_any W _ q (HNQ.out.keep h)))
  have CW := Lib.hid (fun W (h : Below w1.heap.size w1 W) => textB h (exIsWhole_any W _ q (HNQ.out.keep h)))
  have CN := Lib.hid (fun W (h : Below w1.heap.size w1 W) => lift2 h (exNum_any W _ q (HNQ.out.keep h)))
  have CD := Lib.hid (fun W (h : Below w1.heap.size w1 W) => lift2 h (exDen_any W _ q (HNQ.out.keep h)))
  have T1 := Lib.hid (fun W (h : Below w1.heap.size w1 W) => HT.out.keep (HB2.out.trans (h.mono HB2.out.size)))
  go_wp2_with fail
  refine (CN.out _ (Below.refl _ _)).mono ?_
  rintro e w2 ⟨v2, rfl, hv2, hw2, -⟩
  go_wp2_with fail
  refine (CT1.out w1 _ _ hv2 (T1.out _ hw2) hw2).mono ?_
  rintro e w3 ⟨rfl, hw3⟩
  obtain ⟨S1, hS1⟩ : ∃ z, Lib.decDigits (Big.nu q) = z := ⟨_, rfl⟩
  obtain ⟨S2, hS2⟩ : ∃ z, Lib.decDigits (Big.de q) = z := ⟨_, rfl⟩
  have L1 : S1.length ≤ 20 * 64 := by rw [← hS1]; exact Big.dec_len_words (by omega) HS.out.nu.out
  have L2 : S2.length ≤ 20 * 64 := by rw [← hS2]; exact Big.dec_len_words (by omega) HS.out.de.out
  rw [hS1, hS2] at HTX
  rw [hS1]
  rw [hS2] at CT2
  have H1 := Lib.hid hS1; have H2 := Lib.hid hS2
  clear c0 c1 c2 hv2 hw2 hS1 hS2 CT1 CN
  have c0 := (KX.out _ hw3).1; have c1 := (KX.out _ hw3).2.1; have c2 := (KX.out _ hw3).2.2
  go_wp2_with fail
  refine (CS.out _ hw3).mono ?_
  rintro e w4 ⟨rfl, hw4⟩
  clear c0 c1 c2 hw3 CS
  have c0 := (KX.out _ hw4).1; have c1 := (KX.out _ hw4).2.1; have c2 := (KX.out _ hw4).2.2
  obtain ⟨sg, hsg⟩ : ∃ z, sgQ q = z := ⟨_, rfl⟩
  rw [hsg] at HSG ⊢
  clear hsg
  obtain ⟨TX, hTX⟩ : ∃ z, txQ q = z := ⟨_, rfl⟩
  rw [hTX] at HTX
  obtain ⟨dq, hdq⟩ : ∃ z, decide (Big.de q = 1) = z := ⟨_, rfl⟩
  rw [hdq] at CW
  have HDQ := Lib.hid hdq; have HTX2 := Lib.hid hTX
  clear hdq hTX
  by_cases hneg : sg < 0
  · have hnn : Big.ng q = true := HSG.out.1 hneg
    have HNN := Lib.hid hnn
    clear hnn
    have a1 : ∀ W, (Op.stringOp .add ⟨#[45]⟩ ⟨S1.toArray⟩).run Tryz.prog W = .ok (.string ⟨(45 :: S1).toArray⟩) W := fun W => add_bytes [45] S1 (by simp) (by omega) W
    have a2 : ∀ W, (Op.stringOp .add ⟨#[47]⟩ ⟨S2.toArray⟩).run Tryz.prog W = .ok (.string ⟨(47 :: S2).toArray⟩) W := fun W => add_bytes [47] S2 (by simp) (by omega) W
    have a3 : ∀ W, (Op.stringOp .add ⟨(45 :: S1).toArray⟩ ⟨(47 :: S2).toArray⟩).run Tryz.prog W = .ok (.string ⟨(45 :: S1 ++ 47 :: S2).toArray⟩) W := fun W => add_bytes (45 :: S1) (47 :: S2) (by simp; omega) (by simp; omega) W
    have a4 : ∀ W, (Op.stringOp .add ⟨S1.toArray⟩ ⟨(47 :: S2).toArray⟩).run Tryz.prog W = .ok (.string ⟨(S1 ++ 47 :: S2).toArray⟩) W := fun W => add_bytes S1 (47 :: S2) (by omega) (by simp; omega) W
    have t1 : (sg < 0) := hneg
    go_wp2_with fail
    refine (CW.out _ hw4).mono ?_
    rintro e w5 ⟨rfl, hw5⟩
    clear c0 c1 c2 hw4 CW
    have c0 := (KX.out _ hw5).1; have c1 := (KX.out _ hw5).2.1; have c2 := (KX.out _ hw5).2.2
    cases dq
    · go_wp2_with fail
      refine (CD.out _ hw5).mono ?_
      rintro e w6 ⟨v6, rfl, hv6, hw6, -⟩
      go_wp2_with fail
      refine (CT2.out w1 _ _ hv6 (T1.out _ hw6) hw6).mono ?_
      rintro e w7 ⟨rfl, hw7⟩
      have HB7 := Lib.hid (HB2.out.trans (hw7.mono HB2.out.size))
      clear c0 c1 c2 hw5 hw6 hw7 hv6
      go_wp2_with fail
      go_ret2
      refine ⟨?_, HB7.out⟩
      have hd := of_decide_eq_false HDQ.out
      rw [HTX2.out, HTX.out, if_pos HNN.out, if_neg hd]
      first
        | rfl
        | (rw [List.append_nil]; rfl)
    · have HB7 := Lib.hid (HB2.out.trans (hw5.mono HB2.out.size))
      clear hw5
      go_wp2_with fail
      go_ret2
      refine ⟨?_, HB7.out⟩
      have hd := of_decide_eq_true HDQ.out
      rw [HTX2.out, HTX.out, if_pos HNN.out, if_pos hd]
      first
        | rfl
        | (rw [List.append_nil]; rfl)
  · have hnn : ¬ Big.ng q = true := fun e => hneg (HSG.out.2 e)
    have HNN := Lib.hid hnn
    clear hnn
    have a1 : ∀ W, (Op.stringOp .add ⟨#[45]⟩ ⟨S1.toArray⟩).run Tryz.prog W = .ok (.string ⟨(45 :: S1).toArray⟩) W := fun W => add_bytes [45] S1 (by simp) (by omega) W
    have a2 : ∀ W, (Op.stringOp .add ⟨#[47]⟩ ⟨S2.toArray⟩).run Tryz.prog W = .ok (.string ⟨(47 :: S2).toArray⟩) W := fun W => add_bytes [47] S2 (by simp) (by omega) W
    have a3 : ∀ W, (Op.stringOp .add ⟨(45 :: S1).toArray⟩ ⟨(47 :: S2).toArray⟩).run Tryz.prog W = .ok (.string ⟨(45 :: S1 ++ 47 :: S2).toArray⟩) W := fun W => add_bytes (45 :: S1) (47 :: S2) (by simp; omega) (by simp; omega) W
    have a4 : ∀ W, (Op.stringOp .add ⟨S1.toArray⟩ ⟨(47 :: S2).toArray⟩).run Tryz.prog W = .ok (.string ⟨(S1 ++ 47 :: S2).toArray⟩) W := fun W => add_bytes S1 (47 :: S2) (by omega) (by simp; omega) W
    have t1 : ¬ (sg < 0) := hneg
    go_wp2_with fail
    refine (CW.out _ hw4).mono ?_
    rintro e w5 ⟨rfl, hw5⟩
    clear c0 c1 c2 hw4 CW
    have c0 := (KX.out _ hw5).1; have c1 := (KX.out _ hw5).2.1; have c2 := (KX.out _ hw5).2.2
    cases dq
    · go_wp2_with fail
      refine (CD.out _ hw5).mono ?_
      rintro e w6 ⟨v6, rfl, hv6, hw6, -⟩
      go_wp2_with fail
      refine (CT2.out w1 _ _ hv6 (T1.out _ hw6) hw6).mono ?_
      rintro e w7 ⟨rfl, hw7⟩
      have HB7 := Lib.hid (HB2.out.trans (hw7.mono HB2.out.size))
      clear c0 c1 c2 hw5 hw6 hw7 hv6
      go_wp2_with fail
      go_ret2
      refine ⟨?_, HB7.out⟩
      have hd := of_decide_eq_false HDQ.out
      rw [HTX2.out, HTX.out, if_neg HNN.out, if_neg hd]
      first
        | rfl
        | (rw [List.append_nil]; rfl)
    · have HB7 := Lib.hid (HB2.out.trans (hw5.mono HB2.out.size))
      clear hw5
      go_wp2_with fail
      go_ret2
      refine ⟨?_, HB7.out⟩
      have hd := of_decide_eq_true HDQ.out
      rw [HTX2.out, HTX.out, if_neg HNN.out, if_pos hd]
      first
        | rfl
        | (rw [List.append_nil]; rfl)
end Go.Proofs.YtepnghhgmjobjaaGreatDoor
