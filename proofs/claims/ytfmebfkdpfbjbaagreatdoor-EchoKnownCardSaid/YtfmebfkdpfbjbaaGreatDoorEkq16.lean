/- Contracts, in this order: nat: firstSteps. · nat: mix. · nat: steps.apply. · nat: steps.apply, the second number a word shorter. -/
import Derived.Test.YtfmebfkdpfbjbaaGreatDoorEkq15
namespace Go.Proofs.YtfmebfkdpfbjbaaGreatDoor
open Go.RowKit
theorem head_val {l : List Nat} {k sh : Nat} (ol : Big.Ok Big.M64 l) (hl : l.length ≤ k + 2) (hs : sh ≤ 63) :
    ∃ α, Big.val Big.M64 l = (Big.nth l (k + 1) * 2 ^ sh + Big.nth l k / 2 ^ (64 - sh)) * (Big.M64 ^ k * 2 ^ (64 - sh)) + α ∧ α < Big.M64 ^ k * 2 ^ (64 - sh) := by
  have h0 : Big.val Big.M64 (l.take k) < Big.M64 ^ k := by
    refine Nat.lt_of_lt_of_le (Big.val_lt _ (ol.take k)) (Nat.pow_le_pow_right Big.M64_pos ?_)
    rw [List.length_take]; omega
  have h1 := Big.val_take_succ' (B := Big.M64) l k
  have h2 := Big.val_take_succ' (B := Big.M64) l (k + 1)
  rw [Big.val_take_all l _ hl] at h2
  have h3 := Nat.div_add_mod (Big.nth l k) (2 ^ (64 - sh))
  have h4 := Nat.mod_lt (Big.nth l k) (show 0 < 2 ^ (64 - sh) from Nat.pow_pos (by omega))
  have h5 := e64 hs
  refine ⟨Big.nth l k % 2 ^ (64 - sh) * Big.M64 ^ k + Big.val Big.M64 (l.take k), ?_, ?_⟩
  · rw [h2, h1, Nat.pow_succ]
    generalize Big.val Big.M64 (l.take k) = V at *
    generalize Big.M64 ^ k = W at *
    generalize 2 ^ (64 - sh) = P at *
    generalize 2 ^ sh = S at *
    generalize Big.nth l k / P = d at *
    generalize Big.nth l k % P = r at *
    generalize Big.nth l (k + 1) = t at *
    rw [← h3, h5]
    grind
  · generalize Big.M64 ^ k = W at *
    generalize 2 ^ (64 - sh) = P at *
    generalize Big.nth l k % P = r at *
    have := Nat.mul_le_mul_right W h4
    rw [Nat.succ_mul, Nat.mul_comm P W] at this
    omega
theorem head_or {t d sh : Nat} (ht : t * 2 ^ sh + d < Big.M64) (hd : d < 2 ^ sh) : bits .or .u64 ((t * 2 ^ sh : Nat) : Int) ((d : Nat) : Int) = ((t * 2 ^ sh + d : Nat) : Int) := by
  rw [u64_or_nat _ _ (by rw [← Big.M64_eq]; omega) (by rw [← Big.M64_eq]; omega), Nat.or_comm, Nat.mul_comm, or_low hd, Nat.add_comm]
theorem low_lt {u sh : Nat} (hs : sh ≤ 63) (hu : u < Big.M64) : u / 2 ^ (64 - sh) < 2 ^ sh := by
  rw [Nat.div_lt_iff_lt_mul (Nat.pow_pos (by omega)), ← e64 hs]; exact hu
def NowAt (w : World) (g p q r s : Nat) (t : Bool) : Prop :=
  w.heap[g]? = some (.cells #[.int .u64 (p : Int), .int .u64 (q : Int), .int .u64 (r : Int), .int .u64 (s : Int), .bool t] 190 (0, 0))
section
variable {w w' : World} {g p q r s : Nat} {t : Bool}
theorem NowAt.lt (h : NowAt w g p q r s t) : g < w.heap.size := by
  rcases Nat.lt_or_ge g w.heap.size with h1 | h1
  · exact h1
  · unfold NowAt at h; rw [Array.getElem?_eq_none h1] at h; cases h
theorem NowAt.c0 (h : NowAt w g p q r s t) : w.cell? ⟨g, 0, none⟩ = some (.int .u64 (p : Int)) := by rw [cell_of_row w g 0 _ _ (0, 0) h]; rfl
theorem NowAt.c1 (h : NowAt w g p q r s t) : w.cell? ⟨g, 1, none⟩ = some (.int .u64 (q : Int)) := by rw [cell_of_row w g 1 _ _ (0, 0) h]; rfl
theorem NowAt.c2 (h : NowAt w g p q r s t) : w.cell? ⟨g, 2, none⟩ = some (.int .u64 (r : Int)) := by rw [cell_of_row w g 2 _ _ (0, 0) h]; rfl
theorem NowAt.c3 (h : NowAt w g p q r s t) : w.cell? ⟨g, 3, none⟩ = some (.int .u64 (s : Int)) := by rw [cell_of_row w g 3 _ _ (0, 0) h]; rfl
theorem NowAt.c4 (h : NowAt w g p q r s t) : w.cell? ⟨g, 4, none⟩ = some (.bool t) := by rw [cell_of_row w g 4 _ _ (0, 0) h]; rfl
theorem NowAt.frozen (h : NowAt w g p q r s t) (i : Nat) : w.frozen? ⟨g, i, none⟩ = false := frozen_of_row w g i _ _ h
theorem NowAt.alloc' (h : NowAt w g p q r s t) (o : Obj) : NowAt (w.alloc o) g p q r s t := (Below.heap_alloc w o g h.lt).trans h
theorem NowAt.drewN (h : NowAt w g p q r s t) (n : Nat) : NowAt (w.drewN n) g p q r s t := h
theorem NowAt.far (h : NowAt w g p q r s t) {a : Addr} (hp : g ≠ a.block) (u : Value) : NowAt (w.setCell a u) g p q r s t := (heap_setCell_other w a g u hp).trans h
theorem NowAt.put (h : NowAt w g p q r s t) (p' q' r' s' : Nat) (t' : Bool) :
    NowAt (((((w.setCell ⟨g, 0, none⟩ (.int .u64 (p' : Int))).setCell ⟨g, 1, none⟩ (.int .u64 (q' : Int))).setCell ⟨g, 2, none⟩ (.int .u64 (r' : Int))).setCell ⟨g, 3, none⟩ (.int .u64 (s' : Int))).setCell ⟨g, 4, none⟩ (.bool t')) g p' q' r' s' t' := by
  have h1 := heap_setCell_same w g 0 _ _ (.int .u64 (p' : Int)) h
  have h2 := heap_setCell_same _ g 1 _ _ (.int .u64 (q' : Int)) h1
  have h3 := heap_setCell_same _ g 2 _ _ (.int .u64 (r' : Int)) h2
  have h4 := heap_setCell_same _ g 3 _ _ (.int .u64 (s' : Int)) h3
  have h5 := heap_setCell_same _ g 4 _ _ (.bool t') h4
  exact h5
end
structure FI (x0 y0 x y p q r s : Nat) (t : Bool) : Prop where
  L : Big.Lehm x0 y0 x y p q r s t
  le : y ≤ x
  pw : p < Big.M64
  qw : q < Big.M64
  rw : r < Big.M64
  sw : s < Big.M64
  hd : q = 0 ∨ (1 ≤ q ∧ 1 ≤ r ∧ s ≤ y ∧ q + s + y ≤ x ∧ 1 ≤ y0)
theorem FI.start {x0 y0 : Nat} (h : y0 ≤ x0) : FI x0 y0 x0 y0 1 0 0 1 false :=
  ⟨Big.Lehm.start x0 y0, h, by unfold Big.M64; omega, by unfold Big.M64; omega, by unfold Big.M64; omega, by unfold Big.M64; omega, Or.inl rfl⟩
theorem Big.Lehm.pr {x0 y0 x y p q r s : Nat} {t : Bool} (h : Big.Lehm x0 y0 x y p q r s t) : 1 ≤ p ∨ 1 ≤ r := by
  cases t with
  | false =>
    left
    rcases Nat.eq_zero_or_pos p with e | e
    · have := h.dn rfl; subst e; simp at this
    · exact e
  | true =>
    right
    rcases Nat.eq_zero_or_pos r with e | e
    · have := h.dt rfl; subst e; simp at this
    · exact e
theorem FI.step {x0 y0 x y p q r s Q m : Nat} {t : Bool} (h : FI x0 y0 x y p q r s t) (hx0 : x0 < Big.M64) (hd : x = Q * y + m) (hm : m < y) :
    1 ≤ Q ∧ p + Q * r < Big.M64 ∧ q + Q * s < Big.M64 ∧ Q * r < Big.M64 ∧ Q * s < Big.M64 ∧ (q + Q * s ≤ m → s + (q + Q * s) < Big.M64) ∧
      (q + Q * s ≤ m → s + (q + Q * s) ≤ y - m → FI x0 y0 y m r s (p + Q * r) (q + Q * s) (!t)) := by
  have hQ : 1 ≤ Q := by
    rcases Nat.eq_zero_or_pos Q with e | e
    · subst e; have := h.le; omega
    · exact e
  have L := h.L.step hd hQ
  have h1 := L.small (by omega)
  have hs1 := L.s1
  have hpr := h.L.pr
  refine ⟨hQ, by omega, by omega, by omega, by omega, fun hc => ?_, fun hc hc2 => ?_⟩
  · have := L.small2 (by omega) (by omega); omega
  · refine ⟨L, by omega, h.rw, h.sw, by omega, by omega, Or.inr ⟨h.L.s1, ?_, hc, by omega, ?_⟩⟩
    · rcases hpr with e | e
      · omega
      · have := Nat.mul_le_mul hQ e; omega
    · have := h.L.hy
      have hx1 : 1 ≤ x := by have := h.le; omega
      rcases hpr with e | e
      · have := Nat.mul_le_mul e (show 1 ≤ y by omega); omega
      · have := Nat.mul_le_mul e hx1; omega
theorem FI.made {x0 y0 x y p q r s a b W K α β : Nat} {t : Bool} (h : FI x0 y0 x y p q r s t) (hq : q ≠ 0) (ha : a = x0 * K + α) (hb : b = y0 * K + β) (hα : α < K) (hβ : β < K) (hW : W ≤ K) :
    1 ≤ r ∧ 1 ≤ s ∧ W ≤ b ∧ ∃ a' b', Big.Made a b a' b' p q r s t := by
  subst ha; subst hb
  rcases h.hd with e | ⟨h1, h2, h3, h4, h5⟩
  · exact absurd e hq
  · refine ⟨h2, h.L.s1, ?_, h.L.made hα hβ h3 h4⟩
    have := Nat.mul_le_mul_right K h5
    omega
def FSPost (L M W : Nat) (w : World) (e : Ending) (w' : World) : Prop :=
  ∃ (p q r s : Nat) (t : Bool), e = .returned (.agg #[.int .u64 (p : Int), .int .u64 (q : Int), .int .u64 (r : Int), .int .u64 (s : Int), .bool t]) ∧
    Below w.heap.size w w' ∧ p < Big.M64 ∧ q < Big.M64 ∧ r < Big.M64 ∧ s < Big.M64 ∧
    (q ≠ 0 → 1 ≤ r ∧ 1 ≤ s ∧ W ≤ M ∧ ∃ a' b', Big.Made L M a' b' p q r s t)
set_option maxRecDepth 100000 in
set_option maxHeartbeats 8000000 in
theorem firstSteps_any (w : World) (v u : Value) (l m : List Nat) (k : Nat) (h : Wd w .u64 v l) (hu : Wd w .u64 u m) (ol : Big.Ok Big.M64 l) (om : Big.Ok Big.M64 m) (nl : Big.Norm l)
    (hl : l.length = k + 2) (hml : m.length ≤ k + 2) (hle : Big.val Big.M64 m ≤ Big.val Big.M64 l) (hk : k ≤ 1000000000) :
    Calls Tryz.prog 115 #[v, u] w (FSPost (Big.val Big.M64 l) (Big.val Big.M64 m) (Big.M64 ^ k) w) := by
  have ht0 : Big.nth l (k + 1) ≠ 0 := by
    intro e
    apply nl
    rw [List.getLast?_eq_getElem?, show l.length - 1 = k + 1 by omega]
    unfold Big.nth at e
    rw [List.getD_eq_getElem?_getD, List.getElem?_eq_getElem (show k + 1 < l.length by omega)] at e
    rw [List.getElem?_eq_getElem (show k + 1 < l.length by omega)]
    simpa using e
  have htM := ol.nth Big.M64_pos (k + 1)
  have huM := ol.nth Big.M64_pos k
  have hvM := om.nth Big.M64_pos k
  obtain ⟨z1, z2, z3⟩ := lzn_bd _ (by rw [← Big.M64_eq]; exact htM) ht0
  have CZ := Lib.hid (fun W => lzn_any _ (by rw [← Big.M64_eq]; exact htM) ht0 W)
  have C1 := Lib.hid (fun W (hW : Below w.heap.size w W) => word_any W u m (k + 1) (hu.keep hW))
  have C2 := Lib.hid (fun W (hW : Below w.heap.size w W) => word_any W u m k (hu.keep hW))
  generalize lzn (Big.nth l (k + 1)) = sh at *
  obtain ⟨α, hα, hαK⟩ := head_val (k := k) (sh := sh) ol (by omega) z1
  obtain ⟨β, hβ, hβK⟩ := head_val (k := k) (sh := sh) om hml z1
  have hP : 0 < Big.M64 ^ k * 2 ^ (64 - sh) := by omega
  have hK : Big.M64 ^ k ≤ Big.M64 ^ k * 2 ^ (64 - sh) := Nat.le_mul_of_pos_right _ (Nat.pow_pos (by omega))
  have hxd := low_lt z1 huM
  have hyd := low_lt z1 hvM
  have hx0M : Big.nth l (k + 1) * 2 ^ sh + Big.nth l k / 2 ^ (64 - sh) < Big.M64 := by
    have h1 : Big.nth l (k + 1) < 2 ^ (64 - sh) := by
      rw [← Big.M64_eq, e64 z1, Nat.mul_comm] at z3
      exact Nat.lt_of_mul_lt_mul_left z3
    have h2 := Nat.mul_le_mul_right (2 ^ sh) h1
    rw [Nat.succ_mul, Nat.mul_comm (2 ^ (64 - sh)), ← e64 z1] at h2
    omega
  have hyx : Big.nth m (k + 1) * 2 ^ sh + Big.nth m k / 2 ^ (64 - sh) ≤ Big.nth l (k + 1) * 2 ^ sh + Big.nth l k / 2 ^ (64 - sh) := by
    rw [hα, hβ] at hle
    generalize Big.M64 ^ k * 2 ^ (64 - sh) = K at *
    generalize Big.nth m (k + 1) * 2 ^ sh + Big.nth m k / 2 ^ (64 - sh) = Y at *
    generalize Big.nth l (k + 1) * 2 ^ sh + Big.nth l k / 2 ^ (64 - sh) = X at *
    have : Y * K < (X + 1) * K := by rw [Nat.succ_mul]; omega
    exact Nat.le_of_lt_succ (Nat.lt_of_mul_lt_mul_right this)
  have ox := head_or hx0M hxd
  have oy := head_or (Nat.lt_of_le_of_lt hyx hx0M) hyd
  have sx : IntKind.u64.wrap (((Big.nth l (k + 1) : Nat) : Int) * 2 ^ sh) = ((Big.nth l (k + 1) * 2 ^ sh : Nat) : Int) := by
    rw [wrapS, Nat.mod_eq_of_lt z3]
  have sy : IntKind.u64.wrap (((Big.nth m (k + 1) : Nat) : Int) * 2 ^ sh) = ((Big.nth m (k + 1) * 2 ^ sh : Nat) : Int) := by
    rw [wrapS, Nat.mod_eq_of_lt (by rw [← Big.M64_eq]; exact Nat.lt_of_le_of_lt (Nat.le_trans (Nat.le_add_right _ _) hyx) hx0M)]
  have dx := divS (Big.nth l k) (64 - sh)
  have dy := divS (Big.nth m k) (64 - sh)
  have HE := Lib.hid (And.intro hα (And.intro hβ (And.intro hαK (And.intro hβK hK))))
  obtain ⟨xs, hxs⟩ : ∃ z, Big.nth l (k + 1) * 2 ^ sh = z := ⟨_, rfl⟩
  obtain ⟨ys, hys⟩ : ∃ z, Big.nth m (k + 1) * 2 ^ sh = z := ⟨_, rfl⟩
  obtain ⟨xl, hxl⟩ : ∃ z, Big.nth l k / 2 ^ (64 - sh) = z := ⟨_, rfl⟩
  obtain ⟨yl, hyl⟩ : ∃ z, Big.nth m k / 2 ^ (64 - sh) = z := ⟨_, rfl⟩
  rw [hxs, hxl] at ox hx0M hyx
  rw [hys, hyl] at oy hyx
  rw [hxs] at sx
  rw [hys] at sy
  rw [hxl] at dx
  rw [hyl] at dy
  rw [hxs, hxl, hys, hyl] at HE
  obtain ⟨x0, hx0⟩ : ∃ z, xs + xl = z := ⟨_, rfl⟩
  obtain ⟨y0, hy0⟩ : ∃ z, ys + yl = z := ⟨_, rfl⟩
  rw [hx0] at ox hx0M hyx HE
  rw [hy0] at oy hyx HE
  have HM := Lib.hid hx0M
  have HS := Lib.hid (FI.start hyx)
  obtain ⟨A, c, rfl, g1, g2, g3⟩ := h
  obtain ⟨b, o, rfl, hlt, hc, -⟩ := g3 (by omega)
  have c1 := hc (k + 1) (by omega)
  have c2 := hc k (by omega)
  obtain ⟨A2, cc2, rfl, -, -, -⟩ := hu
  generalize Big.nth l (k + 1) = lt at *
  generalize Big.nth l k = lu at *
  generalize Big.nth m (k + 1) = mt at *
  generalize Big.nth m k = mu at *
  rw [hl] at g1 ⊢
  have i1 : ((k + 2 : Nat) : Int) - 1 = ((k + 1 : Nat) : Int) := by omega
  have i2 : ((k + 2 : Nat) : Int) - 2 = ((k : Nat) : Int) := by omega
  obtain ⟨N1, hN1⟩ : ∃ z, k + 1 = z := ⟨_, rfl⟩
  obtain ⟨N2, hN2⟩ : ∃ z, k + 2 = z := ⟨_, rfl⟩
  rw [hN1] at i1 c1 C1
  rw [hN2] at i1 i2 g1 ⊢
  have w1 : IntKind.i64.wrap ((N2 : Int) - 1) = (N1 : Int) := by rw [i1]; exact IntWalk.i64_in _ (by omega)
  have w2 : IntKind.i64.wrap ((N2 : Int) - 2) = (k : Int) := by rw [i2]; exact IntWalk.i64_in _ (by omega)
  have j1 : (N1 : Int) < (N2 : Int) := by omega
  have j2 : (k : Int) < (N2 : Int) := by omega
  have hs63 : (sh : Int) ≤ 63 := by omega
  have b1 : N1 ≤ 1000000001 := by omega
  have b2 : N2 ≤ 1000000002 := by omega
  clear hN1 hN2 hx0 hy0 hxs hys hxl hyl hα hβ hαK hβK hK hP hxd hyd hx0M hyx hle z1 z2 z3 ht0 htM huM hvM hl hml g3 hc nl ol om g1 g2
  go_enter Tryz.func115, Tryz.ntmps115
  go_wp2_with fail
  refine (CZ.out _).mono ?_
  rintro e w' ⟨rfl, rfl⟩
  go_wp2_with fail
  have HB1 := Lib.hid ((Below.refl w.heap.size w).alloc (Nat.le_refl _) (.cells #[.int .u64 0, .int .u64 0, .int .u64 0, .int .u64 0, .bool false] 190))
  have HC1 := Lib.hid (heap_alloc_new w (.cells #[.int .u64 0, .int .u64 0, .int .u64 0, .int .u64 0, .bool false] 190))
  generalize w.alloc (.cells #[.int .u64 0, .int .u64 0, .int .u64 0, .int .u64 0, .bool false] 190) = wa at *
  have e1 := (HB1.out.cell (p := ⟨b, o + N1, none⟩) hlt).trans c1
  have e2 := (HB1.out.cell (p := ⟨b, o + k, none⟩) hlt).trans c2
  have i3 : (64 : Int) - (sh : Int) = ((64 - sh : Nat) : Int) := by omega
  have w3 : IntKind.i64.wrap ((64 : Int) - (sh : Int)) = ((64 - sh : Nat) : Int) := by rw [i3]; exact IntWalk.i64_in _ (by omega)
  go_quiet (fail)
  go_wp2_with fail
  have HB2 := Lib.hid (below_drewN HB1.out nq)
  have HC2 := Lib.hid (show (wa.drewN nq).heap[w.heap.size]? = _ from HC1.out)
  generalize wa.drewN nq = wb at *
  clear e1 e2 HB1 HC1 c1 c2
  go_quiet (first
    | (go_at_call 181; with_reducible exact quiet_same (C1.out _ (below_drewN HB2.out _)))
    | (go_at_call 181; with_reducible exact quiet_same (C2.out _ (below_drewN HB2.out _))))
  have HB3 := Lib.hid (below_drewN HB2.out nq)
  have HC3 := Lib.hid (show (wb.drewN nq).heap[w.heap.size]? = _ from HC2.out)
  generalize wb.drewN nq = wc at *
  clear HB2 HC2
  go_wp2_with fail
  have HN0 := Lib.hid (show NowAt (wc.alloc (.cells #[.int .u64 1, .int .u64 0, .int .u64 0, .int .u64 1, .bool false] 190)) wc.heap.size 1 0 0 1 false from heap_alloc_new wc _)
  have HR0 := Lib.hid (NowAt.alloc' (show NowAt wc w.heap.size 0 0 0 0 false from HC3.out) (.cells #[.int .u64 1, .int .u64 0, .int .u64 0, .int .u64 1, .bool false] 190))
  have HB4 := Lib.hid (HB3.out.alloc HB3.out.size (.cells #[.int .u64 1, .int .u64 0, .int .u64 0, .int .u64 1, .bool false] 190))
  have HG := Lib.hid HB3.out.size
  have HNE := Lib.hid (show w.heap.size < wc.heap.size from NowAt.lt (show NowAt wc w.heap.size 0 0 0 0 false from HC3.out))
  generalize wc.alloc (.cells #[.int .u64 1, .int .u64 0, .int .u64 0, .int .u64 1, .bool false] 190) = wd at *
  obtain ⟨g, hg⟩ : ∃ g, wc.heap.size = g := ⟨_, rfl⟩
  rw [hg] at HN0 HG HNE ⊢
  clear HB3 HC3 hg C1 C2 CZ
  go_loopw [7, 8] (fun a b wr => ∃ (x y p q r s : Nat) (t : Bool), a = .int .u64 (x : Int) ∧ b = .int .u64 (y : Int) ∧ Hid (FI x0 y0 x y p q r s t) ∧ Hid (NowAt wr g p q r s t) ∧
      Hid (NowAt wr w.heap.size 0 0 0 0 false) ∧ Hid (Below w.heap.size w wr)) (fun _ b _ => (intOf b).toNat)
  case atStart => exact ⟨x0, y0, 1, 0, 0, 1, false, rfl, rfl, HS, HN0, HR0, HB4⟩
  case round =>
    obtain ⟨x, y, p, q, r, s, t, rfl, rfl, HF, HN, HR, HB⟩ := hrel
    have n0 := HN.out.c0; have n1 := HN.out.c1; have n2 := HN.out.c2; have n3 := HN.out.c3; have n4 := HN.out.c4
    rcases Nat.eq_zero_or_pos y with h0 | h0
    · subst h0
      have d0 := HR.out.c0; have d1 := HR.out.c1; have d2 := HR.out.c2; have d3 := HR.out.c3; have d4 := HR.out.c4
      have f0 := HR.out.frozen 0; have f1 := HR.out.frozen 1; have f2 := HR.out.frozen 2; have f3 := HR.out.frozen 3; have f4 := HR.out.frozen 4
      have HP := Lib.hid (HR.out.put p q r s t)
      go_wp2_with fail
      have HW := Lib.hid (Below.trans HB.out (show Below w.heap.size wr _ from (((((Below.refl w.heap.size wr).setCell (p := ⟨w.heap.size, 0, none⟩) (Nat.le_refl _) (.int .u64 (p : Int))).setCell (p := ⟨w.heap.size, 1, none⟩) (Nat.le_refl _) (.int .u64 (q : Int))).setCell (p := ⟨w.heap.size, 2, none⟩) (Nat.le_refl _) (.int .u64 (r : Int))).setCell (p := ⟨w.heap.size, 3, none⟩) (Nat.le_refl _) (.int .u64 (s : Int))).setCell (p := ⟨w.heap.size, 4, none⟩) (Nat.le_refl _) (.bool t)))
      generalize (((((wr.setCell ⟨w.heap.size, 0, none⟩ (.int .u64 (p : Int))).setCell ⟨w.heap.size, 1, none⟩ (.int .u64 (q : Int))).setCell ⟨w.heap.size, 2, none⟩ (.int .u64 (r : Int))).setCell ⟨w.heap.size, 3, none⟩ (.int .u64 (s : Int))).setCell ⟨w.heap.size, 4, none⟩ (.bool t)) = wz at HP HW ⊢
      have r0 := HP.out.c0; have r1 := HP.out.c1; have r2 := HP.out.c2; have r3 := HP.out.c3; have r4 := HP.out.c4
      refine bodyPost_ret (v := .agg #[.int .u64 (p : Int), .int .u64 (q : Int), .int .u64 (r : Int), .int .u64 (s : Int), .bool t]) (by simp [results, Tryz.results115, go_sem, r0, r1, r2, r3, r4]) rfl ?_
      exact ⟨p, q, r, s, t, rfl, HW.out, HF.out.pw, HF.out.qw, HF.out.rw, HF.out.sw, fun hq => HF.out.made hq HE.out.1 HE.out.2.1 HE.out.2.2.1 HE.out.2.2.2.1 HE.out.2.2.2.2⟩
    · obtain ⟨Q, hQ⟩ : ∃ Q, x / y = Q := ⟨_, rfl⟩
      obtain ⟨m', hm'⟩ : ∃ z, x % y = z := ⟨_, rfl⟩
      have hd : x = Q * y + m' := by rw [← hQ, ← hm', Nat.mul_comm]; exact (Nat.div_add_mod x y).symm
      have hlt' : m' < y := by rw [← hm']; exact Nat.mod_lt x h0
      obtain ⟨q1, q2, q3, q4, q5, q6, q7⟩ := HF.out.step HM.out hd hlt'
      have hxy := HF.out.le
      have t1 : ((y : Int) != 0) = true := by rw [bne_iff_ne]; omega
      have t2 : ((y : Int) == 0) = false := beq_eq_false_iff_ne.2 (by omega)
      have e1 : ((x : Int) % (y : Int)) = (m' : Int) := by rw [← hm']; rfl
      have e2 : ((x : Int) / (y : Int)) = (Q : Int) := by rw [← hQ]; rfl
      have a1 : IntKind.u64.wrap ((Q : Int) * (r : Int)) = ((Q * r : Nat) : Int) := by rw [← Int.natCast_mul]; exact wrapN _ (by rw [← Big.M64_eq]; exact q4)
      have a2 : IntKind.u64.wrap ((Q : Int) * (s : Int)) = ((Q * s : Nat) : Int) := by rw [← Int.natCast_mul]; exact wrapN _ (by rw [← Big.M64_eq]; exact q5)
      have a3 : IntKind.u64.wrap ((p : Int) + ((Q * r : Nat) : Int)) = ((p + Q * r : Nat) : Int) := by rw [← Int.natCast_add]; exact wrapN _ (by rw [← Big.M64_eq]; exact q2)
      have a4 : IntKind.u64.wrap ((q : Int) + ((Q * s : Nat) : Int)) = ((q + Q * s : Nat) : Int) := by rw [← Int.natCast_add]; exact wrapN _ (by rw [← Big.M64_eq]; exact q3)
      have a6 : IntKind.u64.wrap (Q : Int) = (Q : Int) := wrapN _ (by
        rw [← Big.M64_eq]
        have h1 := Nat.mul_le_mul_left Q HF.out.L.s1
        omega)
      have HQ := Lib.hid (And.intro hlt' (And.intro q6 q7))
      have a5 : IntKind.u64.wrap ((y : Int) - (m' : Int)) = ((y - m' : Nat) : Int) := by
        rw [show (y : Int) - (m' : Int) = ((y - m' : Nat) : Int) by omega]
        refine wrapN _ ?_
        have h1 : x ≤ x0 := by
          have := HF.out.L.hx
          have := Nat.mul_le_mul_right x HF.out.L.s1
          omega
        have := HM.out
        rw [← Big.M64_eq]; omega
      obtain ⟨A1, hA1⟩ : ∃ z, Q * r = z := ⟨_, rfl⟩
      obtain ⟨A2', hA2⟩ : ∃ z, Q * s = z := ⟨_, rfl⟩
      rw [hA1] at a1 a3 HQ
      rw [hA2] at a2 a4 HQ
      obtain ⟨r', hr'⟩ : ∃ z, p + A1 = z := ⟨_, rfl⟩
      obtain ⟨s', hs'⟩ : ∃ z, q + A2' = z := ⟨_, rfl⟩
      rw [hr'] at a3 HQ
      rw [hs'] at a4 HQ
      obtain ⟨ym, hym⟩ : ∃ z, y - m' = z := ⟨_, rfl⟩
      rw [hym] at a5 HQ
      clear q1 q2 q3 q4 q5 q6 q7 hd hlt' hxy hQ hm' hA1 hA2 hr' hs' hym
      go_wp2_with fail
      go_quiet (fail)
      have HNb := Lib.hid (HN.out.drewN nq)
      have HRb := Lib.hid (HR.out.drewN nq)
      have HBb := Lib.hid (below_drewN HB.out nq)
      generalize wr.drewN nq = ws at *
      clear HN HR HB n0 n1 n2 n3 n4
      have n0 := HNb.out.c0; have n1 := HNb.out.c1; have n2 := HNb.out.c2; have n3 := HNb.out.c3; have n4 := HNb.out.c4
      have HZ := Lib.hid (show NowAt (ws.alloc (.cells #[.int .u64 (r : Int), .int .u64 (s : Int), .int .u64 (r' : Int), .int .u64 (s' : Int), .bool (!t)] 190)) ws.heap.size r s r' s' (!t) from heap_alloc_new ws _)
      have HZN := Lib.hid (HNb.out.alloc' (.cells #[.int .u64 (r : Int), .int .u64 (s : Int), .int .u64 (r' : Int), .int .u64 (s' : Int), .bool (!t)] 190))
      have HZR := Lib.hid (HRb.out.alloc' (.cells #[.int .u64 (r : Int), .int .u64 (s : Int), .int .u64 (r' : Int), .int .u64 (s' : Int), .bool (!t)] 190))
      have HZB := Lib.hid (HBb.out.alloc HBb.out.size (.cells #[.int .u64 (r : Int), .int .u64 (s : Int), .int .u64 (r' : Int), .int .u64 (s' : Int), .bool (!t)] 190))
      have z0 := HZN.out.c0; have z1 := HZN.out.c1; have z2 := HZN.out.c2; have z3 := HZN.out.c3; have z4 := HZN.out.c4
      by_cases c1 : m' < s'
      · have t3 : ((m' : Int) < (s' : Int)) := by omega
        have d0 := HZR.out.c0; have d1 := HZR.out.c1; have d2 := HZR.out.c2; have d3 := HZR.out.c3; have d4 := HZR.out.c4
        have f0 := HZR.out.frozen 0; have f1 := HZR.out.frozen 1; have f2 := HZR.out.frozen 2; have f3 := HZR.out.frozen 3; have f4 := HZR.out.frozen 4
        have HP := Lib.hid (HZR.out.put p q r s t)
        go_wp2_with fail
        generalize ws.alloc (.cells #[.int .u64 (r : Int), .int .u64 (s : Int), .int .u64 (r' : Int), .int .u64 (s' : Int), .bool (!t)] 190) = wr at *
        have HW := Lib.hid (Below.trans HZB.out (show Below w.heap.size wr _ from (((((Below.refl w.heap.size wr).setCell (p := ⟨w.heap.size, 0, none⟩) (Nat.le_refl _) (.int .u64 (p : Int))).setCell (p := ⟨w.heap.size, 1, none⟩) (Nat.le_refl _) (.int .u64 (q : Int))).setCell (p := ⟨w.heap.size, 2, none⟩) (Nat.le_refl _) (.int .u64 (r : Int))).setCell (p := ⟨w.heap.size, 3, none⟩) (Nat.le_refl _) (.int .u64 (s : Int))).setCell (p := ⟨w.heap.size, 4, none⟩) (Nat.le_refl _) (.bool t)))
        generalize (((((wr.setCell ⟨w.heap.size, 0, none⟩ (.int .u64 (p : Int))).setCell ⟨w.heap.size, 1, none⟩ (.int .u64 (q : Int))).setCell ⟨w.heap.size, 2, none⟩ (.int .u64 (r : Int))).setCell ⟨w.heap.size, 3, none⟩ (.int .u64 (s : Int))).setCell ⟨w.heap.size, 4, none⟩ (.bool t)) = wz at HP HW ⊢
        have r0 := HP.out.c0; have r1 := HP.out.c1; have r2 := HP.out.c2; have r3 := HP.out.c3; have r4 := HP.out.c4
        refine bodyPost_ret (v := .agg #[.int .u64 (p : Int), .int .u64 (q : Int), .int .u64 (r : Int), .int .u64 (s : Int), .bool t]) (by simp [results, Tryz.results115, go_sem, r0, r1, r2, r3, r4]) rfl ?_
        exact ⟨p, q, r, s, t, rfl, HW.out, HF.out.pw, HF.out.qw, HF.out.rw, HF.out.sw, fun hq => HF.out.made hq HE.out.1 HE.out.2.1 HE.out.2.2.1 HE.out.2.2.2.1 HE.out.2.2.2.2⟩
      · have t3 : ¬ ((m' : Int) < (s' : Int)) := by omega
        have a7 : IntKind.u64.wrap ((s : Int) + (s' : Int)) = ((s + s' : Nat) : Int) := by
          rw [← Int.natCast_add]; exact wrapN _ (by rw [← Big.M64_eq]; exact HQ.out.2.1 (by omega))
        by_cases c2 : ym < s + s'
        · have t4 : ((ym : Int) < ((s + s' : Nat) : Int)) := by omega
          have d0 := HZR.out.c0; have d1 := HZR.out.c1; have d2 := HZR.out.c2; have d3 := HZR.out.c3; have d4 := HZR.out.c4
          have f0 := HZR.out.frozen 0; have f1 := HZR.out.frozen 1; have f2 := HZR.out.frozen 2; have f3 := HZR.out.frozen 3; have f4 := HZR.out.frozen 4
          have HP := Lib.hid (HZR.out.put p q r s t)
          go_wp2_with fail
          generalize ws.alloc (.cells #[.int .u64 (r : Int), .int .u64 (s : Int), .int .u64 (r' : Int), .int .u64 (s' : Int), .bool (!t)] 190) = wr at *
          have HW := Lib.hid (Below.trans HZB.out (show Below w.heap.size wr _ from (((((Below.refl w.heap.size wr).setCell (p := ⟨w.heap.size, 0, none⟩) (Nat.le_refl _) (.int .u64 (p : Int))).setCell (p := ⟨w.heap.size, 1, none⟩) (Nat.le_refl _) (.int .u64 (q : Int))).setCell (p := ⟨w.heap.size, 2, none⟩) (Nat.le_refl _) (.int .u64 (r : Int))).setCell (p := ⟨w.heap.size, 3, none⟩) (Nat.le_refl _) (.int .u64 (s : Int))).setCell (p := ⟨w.heap.size, 4, none⟩) (Nat.le_refl _) (.bool t)))
          generalize (((((wr.setCell ⟨w.heap.size, 0, none⟩ (.int .u64 (p : Int))).setCell ⟨w.heap.size, 1, none⟩ (.int .u64 (q : Int))).setCell ⟨w.heap.size, 2, none⟩ (.int .u64 (r : Int))).setCell ⟨w.heap.size, 3, none⟩ (.int .u64 (s : Int))).setCell ⟨w.heap.size, 4, none⟩ (.bool t)) = wz at HP HW ⊢
          have r0 := HP.out.c0; have r1 := HP.out.c1; have r2 := HP.out.c2; have r3 := HP.out.c3; have r4 := HP.out.c4
          refine bodyPost_ret (v := .agg #[.int .u64 (p : Int), .int .u64 (q : Int), .int .u64 (r : Int), .int .u64 (s : Int), .bool t]) (by simp [results, Tryz.results115, go_sem, r0, r1, r2, r3, r4]) rfl ?_
          exact ⟨p, q, r, s, t, rfl, HW.out, HF.out.pw, HF.out.qw, HF.out.rw, HF.out.sw, fun hq => HF.out.made hq HE.out.1 HE.out.2.1 HE.out.2.2.1 HE.out.2.2.2.1 HE.out.2.2.2.2⟩
        · have t4 : ¬ ((ym : Int) < ((s + s' : Nat) : Int)) := by omega
          have f0 := HZN.out.frozen 0; have f1 := HZN.out.frozen 1; have f2 := HZN.out.frozen 2; have f3 := HZN.out.frozen 3; have f4 := HZN.out.frozen 4
          have HP := Lib.hid (HZN.out.put r s r' s' (!t))
          have HF' := Lib.hid (HQ.out.2.2 (by omega) (by omega))
          have HLT := Lib.hid HQ.out.1
          go_wp2_with fail
          go_roundw
          case rel =>
            exact ⟨y, m', r, s, r', s', !t, rfl, by rw [e1], HF', HP, Lib.hid (((((HZR.out.far (a := ⟨g, 0, none⟩) (Nat.ne_of_lt HNE.out) _).far (a := ⟨g, 1, none⟩) (Nat.ne_of_lt HNE.out) _).far (a := ⟨g, 2, none⟩) (Nat.ne_of_lt HNE.out) _).far (a := ⟨g, 3, none⟩) (Nat.ne_of_lt HNE.out) _).far (a := ⟨g, 4, none⟩) (Nat.ne_of_lt HNE.out) _),
              Lib.hid (((((HZB.out.setCell (p := ⟨g, 0, none⟩) HG.out _).setCell (p := ⟨g, 1, none⟩) HG.out _).setCell (p := ⟨g, 2, none⟩) HG.out _).setCell (p := ⟨g, 3, none⟩) HG.out _).setCell (p := ⟨g, 4, none⟩) HG.out _)⟩
          case measure => simp only [intOf, e1]; have := HLT.out; omega
end Go.Proofs.YtfmebfkdpfbjbaaGreatDoor
namespace Go.Proofs.YtfmebfkdpfbjbaaGreatDoor
open Go.RowKit
structure MixR (X Y zs : List Nat) (k p q oP oQ l : Nat) : Prop where
  wP : oP < 18446744073709551616
  wQ : oQ < 18446744073709551616
  hl : l ≤ 1
  len : zs.length = k
  ok : Big.Ok Big.M64 zs
  eq : Big.val Big.M64 zs + q * Big.val Big.M64 (Y.take k) + Big.M64 ^ k * oP = p * Big.val Big.M64 (X.take k) + Big.M64 ^ k * oQ + Big.M64 ^ k * l
theorem MixR.start (X Y : List Nat) (p q : Nat) : MixR X Y [] 0 p q 0 0 0 := ⟨by omega, by omega, by omega, rfl, Big.Ok.nil, by simp [Big.val]⟩
theorem MixR.round {X Y zs : List Nat} {k p q oP oQ l : Nat} (h : MixR X Y zs k p q oP oQ l) (oX : Big.Ok Big.M64 X) (oY : Big.Ok Big.M64 Y) (hp : p < Big.M64) (hq : q < Big.M64) :
    MixR X Y (zs ++ [dif64 (lo64 (Big.nth X k * p + oP)) (lo64 (Big.nth Y k * q + oQ)) l]) (k + 1) p q (hi64 (Big.nth X k * p + oP)) (hi64 (Big.nth Y k * q + oQ)) (bor64 (lo64 (Big.nth X k * p + oP)) (lo64 (Big.nth Y k * q + oQ)) l) := by
  have a := oX.nth Big.M64_pos k
  have b := oY.nth Big.M64_pos k
  have h1 := hi64_mul a hp (show oP < Big.M64 by rw [Big.M64_eq]; exact h.wP)
  have h2 := hi64_mul b hq (show oQ < Big.M64 by rw [Big.M64_eq]; exact h.wQ)
  refine ⟨h1, h2, bor64_le _ _ _, by simp [h.len], h.ok.append (Big.Ok.cons (by rw [Big.M64_eq]; exact dif64_lt _ _ _) Big.Ok.nil), ?_⟩
  rw [Big.val_snoc, h.len, Big.val_take_succ', Big.val_take_succ', Nat.pow_succ]
  refine Big.mix_step (plus := lo64 (Big.nth X k * p + oP)) (minus := lo64 (Big.nth Y k * q + oQ)) h.eq ?_ ?_ ?_
  · have := lo_hi (Big.nth X k * p + oP); rw [Big.M64_eq]; omega
  · have := lo_hi (Big.nth Y k * q + oQ); rw [Big.M64_eq]; omega
  · have := dif_bor (x := lo64 (Big.nth X k * p + oP)) (y := lo64 (Big.nth Y k * q + oQ)) (b := l) (lo64_lt _) (lo64_lt _) h.hl
    rw [Big.M64_eq]; omega
theorem nth_at {L zs : List Nat} {k : Nat} (h : zs.length = k) : Big.nth (zs ++ L.drop k) k = Big.nth L k := by
  unfold Big.nth
  rw [List.getD_eq_getElem?_getD, List.getD_eq_getElem?_getD, List.getElem?_append_right (by omega), List.getElem?_drop, h, Nat.sub_self, Nat.add_zero]
set_option maxRecDepth 100000 in
set_option maxHeartbeats 8000000 in
theorem mix_any (w : World) (B gx gy n cx cy p q r s : Nat) (X Y : List Nat) (hx : Blk w gx 95 .u64 X) (hy : Blk w gy 95 .u64 Y) (hxy : gx ≠ gy) (hBx : B ≤ gx) (hBy : B ≤ gy)
    (hnx : n ≤ X.length) (hny : n ≤ Y.length) (hcx : n ≤ cx) (hcy : n ≤ cy) (oX : Big.Ok Big.M64 X) (oY : Big.Ok Big.M64 Y) (hp : p < Big.M64) (hq : q < Big.M64) (hr : r < Big.M64) (hs : s < Big.M64) (hn : n ≤ 1000000002) :
    Calls Tryz.prog 186 #[.slice (some ⟨gx, 0, none⟩) n cx, .slice (some ⟨gy, 0, none⟩) n cy, .int .u64 (p : Int), .int .u64 (q : Int), .int .u64 (r : Int), .int .u64 (s : Int)] w fun e w' =>
      ∃ (zs ys : List Nat) (oP oQ lX oS oR lY : Nat), e = .returned (.tuple #[]) ∧ MixR X Y zs n p q oP oQ lX ∧ MixR Y X ys n s r oS oR lY ∧
        Blk w' gx 95 .u64 (zs ++ X.drop n) ∧ Blk w' gy 95 .u64 (ys ++ Y.drop n) ∧ Below B w w' := by
  have HX := Lib.hid hx; have HY := Lib.hid hy; have HXY := Lib.hid hxy
  have HBX := Lib.hid hBx; have HBY := Lib.hid hBy
  have HNX := Lib.hid hnx; have HNY := Lib.hid hny
  have OX := Lib.hid oX; have OY := Lib.hid oY
  have HP := Lib.hid hp; have HQ := Lib.hid hq; have HR := Lib.hid hr; have HS := Lib.hid hs
  clear hx hy hxy hBx hBy hnx hny oX oY hp hq hr hs
  go_enter Tryz.func186, Tryz.ntmps186
  go_wp2_with fail
  go_loopw [12, 13, 14, 15, 16, 17, 25] (fun a6 a7 a8 a9 a10 a11 i wr => ∃ (k oP oQ oR oS lX lY : Nat) (zs ys : List Nat), k ≤ n ∧ i = .int .i64 k ∧ a6 = .int .u64 (oP : Int) ∧ a7 = .int .u64 (oQ : Int) ∧ a8 = .int .u64 (oR : Int) ∧ a9 = .int .u64 (oS : Int) ∧
      a10 = .int .u64 (lX : Int) ∧ a11 = .int .u64 (lY : Int) ∧ Hid (MixR X Y zs k p q oP oQ lX) ∧ Hid (MixR Y X ys k s r oS oR lY) ∧
      Hid (Blk wr gx 95 .u64 (zs ++ X.drop k)) ∧ Hid (Blk wr gy 95 .u64 (ys ++ Y.drop k)) ∧ Hid (Below B w wr)) (fun _ _ _ _ _ _ i _ => n - (intOf i).toNat)
  case atStart => exact ⟨0, 0, 0, 0, 0, 0, 0, [], [], by omega, rfl, rfl, rfl, rfl, rfl, rfl, rfl, Lib.hid (MixR.start _ _ _ _), Lib.hid (MixR.start _ _ _ _), HX, HY, Lib.hid (Below.refl _ _)⟩
  case round =>
    obtain ⟨k, oP, oQ, oR, oS, lX, lY, zs, ys, hk, rfl, rfl, rfl, rfl, rfl, rfl, rfl, HZ, HW, HA, HC, HD⟩ := hrel
    by_cases hkn : k < n
    · have hX := HA.out.cell k (by have := HZ.out.len; have := HNX.out; simp; omega)
      have hY := HC.out.cell k (by have := HW.out.len; have := HNY.out; simp; omega)
      rw [nth_at HZ.out.len] at hX
      rw [nth_at HW.out.len] at hY
      have fX := HA.out.frozen k
      have fY := HC.out.frozen k
      have RX := HZ.out.round OX.out OY.out HP.out HQ.out
      have RY := HW.out.round OY.out OX.out HS.out HR.out
      have vM := OX.out.nth Big.M64_pos k
      have wM := OY.out.nth Big.M64_pos k
      obtain ⟨v, hv⟩ : ∃ z, Big.nth X k = z := ⟨_, rfl⟩
      obtain ⟨u, hu⟩ : ∃ z, Big.nth Y k = z := ⟨_, rfl⟩
      rw [hv] at RX RY hX vM
      rw [hu] at RX RY hY wM
      rw [Big.M64_eq] at vM wM
      have HVM := Lib.hid vM; have HUM := Lib.hid wM
      have C1 := Lib.hid (fun W => timesPlus_any v p oP HVM.out (by rw [← Big.M64_eq]; exact HP.out) HZ.out.wP W)
      have C2 := Lib.hid (fun W => timesPlus_any u q oQ HUM.out (by rw [← Big.M64_eq]; exact HQ.out) HZ.out.wQ W)
      have C3 := Lib.hid (fun W => timesPlus_any u s oS HUM.out (by rw [← Big.M64_eq]; exact HS.out) HW.out.wP W)
      have C4 := Lib.hid (fun W => timesPlus_any v r oR HVM.out (by rw [← Big.M64_eq]; exact HR.out) HW.out.wQ W)
      have s1 := fun W => sub64 (lo64 (v * p + oP)) (lo64 (u * q + oQ)) lX HZ.out.hl W
      have s2 := fun W => sub64 (lo64 (u * s + oS)) (lo64 (v * r + oR)) lY HW.out.hl W
      clear vM wM hv
      go_wp2_with fail
      go_quiet (fail)
      have HAb := Lib.hid (HA.out.drewN nq)
      have HCb := Lib.hid (HC.out.drewN nq)
      have HDb := Lib.hid (below_drewN HD.out nq)
      have gX : (wr.drewN nq).cell? ⟨gx, k, none⟩ = _ := hX
      have gY : (wr.drewN nq).cell? ⟨gy, k, none⟩ = _ := hY
      have kX : (wr.drewN nq).frozen? ⟨gx, k, none⟩ = _ := fX
      have kY : (wr.drewN nq).frozen? ⟨gy, k, none⟩ = _ := fY
      generalize wr.drewN nq = ws at *
      clear HA HC HD hX hY fX fY
      have hkI : (k : Int) < (n : Int) := by omega
      have HCf := HCb.out.far (p := ⟨gx, k, none⟩) (Ne.symm HXY.out) (.int .u64 ((dif64 (lo64 (v * p + oP)) (lo64 (u * q + oQ)) lX : Nat) : Int))
      have gY2 := HCf.cell k (by have := HW.out.len; have := HNY.out; simp; omega)
      rw [nth_at HW.out.len, hu] at gY2
      have kY2 := HCf.frozen k
      have HC2 := Lib.hid (HCf.set k (dif64 (lo64 (u * s + oS)) (lo64 (v * r + oR)) lY))
      have HA2 := Lib.hid ((HAb.out.set k (dif64 (lo64 (v * p + oP)) (lo64 (u * q + oQ)) lX)).far (p := ⟨gy, k, none⟩) HXY.out (.int .u64 ((dif64 (lo64 (u * s + oS)) (lo64 (v * r + oR)) lY : Nat) : Int)))
      have HD2 := Lib.hid ((HDb.out.setCell (p := ⟨gx, k, none⟩) HBX.out (.int .u64 ((dif64 (lo64 (v * p + oP)) (lo64 (u * q + oQ)) lX : Nat) : Int))).setCell (p := ⟨gy, k, none⟩) HBY.out (.int .u64 ((dif64 (lo64 (u * s + oS)) (lo64 (v * r + oR)) lY : Nat) : Int)))
      have RX := Lib.hid RX
      have RY := Lib.hid RY
      clear HCf hu
      go_wp2_with (first
        | (go_at_call 239; with_reducible refine (C1.out _).mono ?_; rintro e w' ⟨rfl, rfl⟩)
        | (go_at_call 239; with_reducible refine (C2.out _).mono ?_; rintro e w' ⟨rfl, rfl⟩)
        | (go_at_call 239; with_reducible refine (C3.out _).mono ?_; rintro e w' ⟨rfl, rfl⟩)
        | (go_at_call 239; with_reducible refine (C4.out _).mono ?_; rintro e w' ⟨rfl, rfl⟩))
      go_roundw
      case rel =>
        refine ⟨k + 1, _, _, _, _, _, _, _, _, by omega, by go_num, rfl, rfl, rfl, rfl, rfl, rfl, RX, RY, Lib.hid ?_, Lib.hid ?_, HD2⟩
        · have h1 := HA2.out
          rw [set_drop zs X k _ HZ.out.len (by have := HNX.out; omega)] at h1
          exact h1
        · have h1 := HC2.out
          rw [set_drop ys Y k _ HW.out.len (by have := HNY.out; omega)] at h1
          exact h1
      case measure => simp [intOf]; omega
    · have hkl : k = n := by omega
      subst hkl
      go_wp2_with fail
      refine bodyPost_end (results_none rfl _ _ _) rfl ?_
      exact ⟨zs, ys, oP, oQ, lX, oS, oR, lY, rfl, HZ.out, HW.out, HA.out, HC.out, HD.out⟩
end Go.Proofs.YtfmebfkdpfbjbaaGreatDoor
namespace Go.Proofs.YtfmebfkdpfbjbaaGreatDoor
open Go.RowKit
theorem MixR.done {X Y zs : List Nat} {n p q oP oQ l d : Nat} (h : MixR X Y zs n p q oP oQ l) (hd : p * Big.val Big.M64 (X.take n) = q * Big.val Big.M64 (Y.take n) + d) (hn : d < Big.M64 ^ n) : Big.val Big.M64 zs = d := by
  have hz := Big.val_lt zs h.ok
  rw [h.len] at hz
  refine Big.mix_end (oP := oP) (oQ := oQ) (l := l) h.eq hd hz hn
theorem trimmed {w : World} {g n c : Nat} {zs X : List Nat} (hb : Blk w g 95 .u64 (zs ++ X.drop n)) (hz : zs.length = n) (hc : c ≤ X.length) (hnc : n ≤ c) (hcl : c ≤ 1152921504606846976) (oz : Big.Ok Big.M64 zs) (oX : Big.Ok Big.M64 X) :
    Wd w .u64 (.slice (some ⟨g, 0, none⟩) n c) zs ∧ OwnNat w (.slice (some ⟨g, 0, none⟩) (Big.strip zs).length c) g c (Big.val Big.M64 zs) := by
  have h1 := hb.wd 0 n c (by simp; omega) hnc hcl
  rw [List.drop_zero, List.take_append_of_le_length (by omega), List.take_of_length_le (by omega)] at h1
  have hl := Big.strip_len zs
  have e : (zs ++ X.drop n).take (Big.strip zs).length = Big.strip zs := by
    rw [List.take_append_of_le_length hl, ← Big.strip_take_self]
  exact ⟨h1, zs ++ X.drop n, _, rfl, hb, by simp; omega, oz.append (oX.drop _), by omega, hcl, by rw [e]; exact Big.strip_norm _, by rw [e, Big.strip_val]⟩
theorem trim_call {w : World} {g n c : Nat} {zs : List Nat} (h : Wd w .u64 (.slice (some ⟨g, 0, none⟩) n c) zs) (hz : zs.length = n) :
    Calls Tryz.prog 113 #[.slice (some ⟨g, 0, none⟩) n c] w fun e w' => e = .returned (.slice (some ⟨g, 0, none⟩) (Big.strip zs).length c) ∧ w = w' := by
  subst hz; exact trim_slice w _ c zs h
set_option maxRecDepth 100000 in
set_option maxHeartbeats 8000000 in
theorem apply_eq (w : World) (B ga gb n ca cb p q r s a' b' : Nat) (t : Bool) (X Y : List Nat) (hx : Blk w ga 95 .u64 X) (hy : Blk w gb 95 .u64 Y) (hxy : ga ≠ gb) (hBx : B ≤ ga) (hBy : B ≤ gb)
    (hnx : ca ≤ X.length) (hny : cb ≤ Y.length) (hca : n ≤ ca) (hcb : n ≤ cb) (hla : ca ≤ 1152921504606846976) (hlb : cb ≤ 1152921504606846976) (oX : Big.Ok Big.M64 X) (oY : Big.Ok Big.M64 Y)
    (hp : p < Big.M64) (hq : q < Big.M64) (hr : r < Big.M64) (hs : s < Big.M64) (hs1 : 1 ≤ s) (hn : n ≤ 1000000002)
    (hm : Big.Made (Big.val Big.M64 (X.take n)) (Big.val Big.M64 (Y.take n)) a' b' p q r s t) :
    Calls Tryz.prog 117 #[.agg #[.int .u64 (p : Int), .int .u64 (q : Int), .int .u64 (r : Int), .int .u64 (s : Int), .bool t], .slice (some ⟨ga, 0, none⟩) n ca, .slice (some ⟨gb, 0, none⟩) n cb] w fun e w' =>
      ∃ va vb, e = .returned (.tuple #[va, vb]) ∧ Below B w w' ∧
        (OwnNat w' va ga ca a' ∧ OwnNat w' vb gb cb b' ∨ OwnNat w' va gb cb a' ∧ OwnNat w' vb ga ca b') := by
  have HX := Lib.hid hx; have HY := Lib.hid hy; have HXY := Lib.hid hxy
  have HL := Lib.hid (And.intro hx.lt hy.lt)
  have HBX := Lib.hid hBx; have HBY := Lib.hid hBy
  have HNX := Lib.hid hnx; have HNY := Lib.hid hny
  have OX := Lib.hid oX; have OY := Lib.hid oY
  have HP := Lib.hid hp; have HQ := Lib.hid hq; have HR := Lib.hid hr; have HS := Lib.hid hs; have HS1 := Lib.hid hs1
  have HM := Lib.hid hm
  have HCA := Lib.hid (And.intro hca (And.intro hcb (And.intro hla hlb)))
  have HN := Lib.hid hn
  clear hx hy hxy hBx hBy hnx hny oX oY hp hq hr hs hm hs1 hca hcb hla hlb hn
  cases t with
  | false =>
    go_enter Tryz.func117, Tryz.ntmps117
    go_wp2_with fail
    have b0 := (Below.refl w.heap.size w).alloc (Nat.le_refl _) (.cells #[.int .u64 (p : Int), .int .u64 (q : Int), .int .u64 (r : Int), .int .u64 (s : Int), .bool false] 190)
    have b1 := (Below.refl B w).alloc (show B ≤ w.heap.size by have := HBX.out; have := HL.out.1; omega) (.cells #[.int .u64 (p : Int), .int .u64 (q : Int), .int .u64 (r : Int), .int .u64 (s : Int), .bool false] 190)
    have hBA := HX.out.below b0
    have hBB := HY.out.below b0
    have HB1 := Lib.hid b1
    refine (mix_any _ B ga gb n ca cb p q r s X Y hBA hBB HXY.out HBX.out HBY.out (by have := HNX.out; have := HCA.out; omega) (by have := HNY.out; have := HCA.out; omega) HCA.out.1 HCA.out.2.1 OX.out OY.out HP.out HQ.out HR.out HS.out HN.out).mono ?_
    clear b0 b1 hBA hBB
    rintro e w1 ⟨zs, ys, oP, oQ, lX, oS, oR, lY, rfl, RX, RY, hbx, hby, hbel⟩
    have h1 : Big.val Big.M64 (X.take n) < Big.M64 ^ n := by
      have := Big.val_lt (X.take n) (OX.out.take n)
      rwa [List.length_take, Nat.min_eq_left (by have := HNX.out; have := HCA.out; omega)] at this
    have h2 := HM.out.lea HS1.out
    have h3 := HM.out.lt
    have e1 := RX.done (HM.out.an rfl) (by omega)
    have e2 := RY.done (HM.out.bn rfl) (by omega)
    have T1 := trimmed hbx RX.len HNX.out HCA.out.1 HCA.out.2.2.1 RX.ok OX.out
    have T2 := trimmed hby RY.len HNY.out HCA.out.2.1 HCA.out.2.2.2 RY.ok OY.out
    rw [e1] at T1
    rw [e2] at T2
    have HT1 := Lib.hid T1; have HT2 := Lib.hid T2
    have C1 := Lib.hid (trim_call T1.1 RX.len)
    have C2 := Lib.hid (trim_call T2.1 RY.len)
    have HBe := Lib.hid (HB1.out.trans hbel)
    clear RX RY hbx hby hbel h1 h2 h3 e1 e2 T1 T2
    go_wp2_with (first
      | (go_at_call 113; with_reducible refine C1.out.mono ?_; rintro e w' ⟨rfl, rfl⟩)
      | (go_at_call 113; with_reducible refine C2.out.mono ?_; rintro e w' ⟨rfl, rfl⟩))
    go_ret2
    exact ⟨_, _, rfl, HBe.out, Or.inl ⟨HT1.out.2, HT2.out.2⟩⟩
  | true =>
    go_enter Tryz.func117, Tryz.ntmps117
    go_wp2_with fail
    have b0 := (Below.refl w.heap.size w).alloc (Nat.le_refl _) (.cells #[.int .u64 (p : Int), .int .u64 (q : Int), .int .u64 (r : Int), .int .u64 (s : Int), .bool true] 190)
    have b1 := (Below.refl B w).alloc (show B ≤ w.heap.size by have := HBX.out; have := HL.out.1; omega) (.cells #[.int .u64 (p : Int), .int .u64 (q : Int), .int .u64 (r : Int), .int .u64 (s : Int), .bool true] 190)
    have hBA := HX.out.below b0
    have hBB := HY.out.below b0
    have HB1 := Lib.hid b1
    refine (mix_any _ B gb ga n cb ca q p s r Y X hBB hBA (Ne.symm HXY.out) HBY.out HBX.out (by have := HNY.out; have := HCA.out; omega) (by have := HNX.out; have := HCA.out; omega) HCA.out.2.1 HCA.out.1 OY.out OX.out HQ.out HP.out HS.out HR.out HN.out).mono ?_
    clear b0 b1 hBA hBB
    rintro e w1 ⟨zs, ys, oP, oQ, lX, oS, oR, lY, rfl, RX, RY, hbx, hby, hbel⟩
    have h1 : Big.val Big.M64 (X.take n) < Big.M64 ^ n := by
      have := Big.val_lt (X.take n) (OX.out.take n)
      rwa [List.length_take, Nat.min_eq_left (by have := HNX.out; have := HCA.out; omega)] at this
    have h2 := HM.out.lea HS1.out
    have h3 := HM.out.lt
    have e1 := RX.done (HM.out.at_ rfl) (by omega)
    have e2 := RY.done (HM.out.bt rfl) (by omega)
    have T1 := trimmed hbx RX.len HNY.out HCA.out.2.1 HCA.out.2.2.2 RX.ok OY.out
    have T2 := trimmed hby RY.len HNX.out HCA.out.1 HCA.out.2.2.1 RY.ok OX.out
    rw [e1] at T1
    rw [e2] at T2
    have HT1 := Lib.hid T1; have HT2 := Lib.hid T2
    have C1 := Lib.hid (trim_call T1.1 RX.len)
    have C2 := Lib.hid (trim_call T2.1 RY.len)
    have HBe := Lib.hid (HB1.out.trans hbel)
    clear RX RY hbx hby hbel h1 h2 h3 e1 e2 T1 T2
    go_wp2_with (first
      | (go_at_call 113; with_reducible refine C1.out.mono ?_; rintro e w' ⟨rfl, rfl⟩)
      | (go_at_call 113; with_reducible refine C2.out.mono ?_; rintro e w' ⟨rfl, rfl⟩))
    go_ret2
    exact ⟨_, _, rfl, HBe.out, Or.inr ⟨HT1.out.2, HT2.out.2⟩⟩
end Go.Proofs.YtfmebfkdpfbjbaaGreatDoor
namespace Go.Proofs.YtfmebfkdpfbjbaaGreatDoor
open Go.RowKit
set_option maxRecDepth 100000 in
set_option maxHeartbeats 8000000 in
theorem apply_less (w : World) (B ga gb nb n ca cb p q r s a' b' : Nat) (t : Bool) (X Y : List Nat) (hx : Blk w ga 95 .u64 X) (hy : Blk w gb 95 .u64 Y) (hxy : ga ≠ gb) (hBx : B ≤ ga) (hBy : B ≤ gb)
    (hnx : ca ≤ X.length) (hny : cb ≤ Y.length) (hca : n ≤ ca) (hcb : n ≤ cb) (hla : ca ≤ 1152921504606846976) (hlb : cb ≤ 1152921504606846976) (oX : Big.Ok Big.M64 X) (oY : Big.Ok Big.M64 Y)
    (hp : p < Big.M64) (hq : q < Big.M64) (hr : r < Big.M64) (hs : s < Big.M64) (hs1 : 1 ≤ s) (hn : n ≤ 1000000002) (hnb : n = nb + 1)
    (hm : Big.Made (Big.val Big.M64 (X.take n)) (Big.val Big.M64 (Y.take nb)) a' b' p q r s t) :
    Calls Tryz.prog 117 #[.agg #[.int .u64 (p : Int), .int .u64 (q : Int), .int .u64 (r : Int), .int .u64 (s : Int), .bool t], .slice (some ⟨ga, 0, none⟩) n ca,   .slice (some ⟨gb, 0, none⟩) nb cb] w fun e w' =>
      ∃ va vb, e = .returned (.tuple #[va, vb]) ∧ Below B w w' ∧
        (OwnNat w' va ga ca a' ∧ OwnNat w' vb gb cb b' ∨ OwnNat w' va gb cb a' ∧ OwnNat w' vb ga ca b') := by
  have HX := Lib.hid hx; have HY := Lib.hid hy; have HXY := Lib.hid hxy
  have HL := Lib.hid (And.intro hx.lt hy.lt)
  have HBX := Lib.hid hBx; have HBY := Lib.hid hBy
  have HNX := Lib.hid hnx; have HNY := Lib.hid hny
  have OX := Lib.hid oX; have OY := Lib.hid oY
  have HP := Lib.hid hp; have HQ := Lib.hid hq; have HR := Lib.hid hr; have HS := Lib.hid hs; have HS1 := Lib.hid hs1
  have HM := Lib.hid hm
  have HCA := Lib.hid (And.intro hca (And.intro hcb (And.intro hla hlb)))
  have HN := Lib.hid hn
  clear hx hy hxy hBx hBy hnx hny oX oY hp hq hr hs hm hs1 hca hcb hla hlb hn
  subst hnb
  have HOY' := Lib.hid (show Big.Ok Big.M64 (Y.set nb 0) from fun d hd => by
    rcases List.mem_or_eq_of_mem_set hd with h | h
    · exact OY.out d h
    · rw [h]; exact Big.M64_pos)
  have HM' := Lib.hid (show Big.Made (Big.val Big.M64 (X.take (nb + 1))) (Big.val Big.M64 ((Y.set nb 0).take (nb + 1))) a' b' p q r s t by
    have e : Big.val Big.M64 ((Y.set nb 0).take (nb + 1)) = Big.val Big.M64 (Y.take nb) := by
      have hnY : nb < Y.length := by have := HNY.out; have := HCA.out.2.1; omega
      rw [Big.val_take_succ']
      have e1 : (Y.set nb 0).take nb = Y.take nb := by rw [List.take_set_of_le (Nat.le_refl _)]
      have e2 : Big.nth (Y.set nb 0) nb = 0 := by
        unfold Big.nth
        rw [List.getD_eq_getElem?_getD, List.getElem?_set_self hnY]; rfl
      rw [e1, e2]; simp
    rw [e]; exact HM.out)
  have HLY := Lib.hid (show (Y.set nb 0).length = Y.length by simp)
  have hroom : (nb : Int) + 1 ≤ (cb : Int) := by have := HCA.out.2.1; omega
  have HIN := Lib.hid (show nb < Y.length by have := HNY.out; have := HCA.out.2.1; omega)
  clear HM
  cases t with
  | false =>
    have b0 := ((Below.refl w.heap.size w).alloc (Nat.le_refl _) (.cells #[.int .u64 (p : Int), .int .u64 (q : Int), .int .u64 (r : Int), .int .u64 (s : Int), .bool false] 190))
    have b0 := b0.alloc b0.size (.cells #[.int .u64 0] 95)
    have b1 := ((Below.refl B w).alloc (show B ≤ w.heap.size by have := HBX.out; have := HL.out.1; omega) (.cells #[.int .u64 (p : Int), .int .u64 (q : Int), .int .u64 (r : Int), .int .u64 (s : Int), .bool false] 190))
    have b1 := b1.alloc (Nat.le_trans (show B ≤ w.heap.size by have := HBX.out; have := HL.out.1; omega) b1.size) (.cells #[.int .u64 0] 95)
    have HYa : Blk ((w.alloc (.cells #[.int .u64 (p : Int), .int .u64 (q : Int), .int .u64 (r : Int), .int .u64 (s : Int), .bool false] 190)).alloc (.cells #[.int .u64 0] 95)) gb 95 .u64 Y := HY.out.below b0
    have HXa : Blk ((w.alloc (.cells #[.int .u64 (p : Int), .int .u64 (q : Int), .int .u64 (r : Int), .int .u64 (s : Int), .bool false] 190)).alloc (.cells #[.int .u64 0] 95)) ga 95 .u64 X := HX.out.below b0
    have hst := HYa.cell nb HIN.out
    have hfr := HYa.frozen nb
    have hBB := Lib.hid (show Blk (((w.alloc (.cells #[.int .u64 (p : Int), .int .u64 (q : Int), .int .u64 (r : Int), .int .u64 (s : Int), .bool false] 190)).alloc (.cells #[.int .u64 0] 95)).setCell ⟨gb, nb, none⟩ (.int .u64 0)) gb 95 .u64 (Y.set nb 0) from HYa.set nb 0)
    have hBA := Lib.hid (HXa.far (p := ⟨gb, nb, none⟩) HXY.out (.int .u64 0))
    have HB1 := Lib.hid (b1.setCell (p := ⟨gb, nb, none⟩) HBY.out (.int .u64 0))
    have HNw := (((show NowAt (w.alloc (.cells #[.int .u64 (p : Int), .int .u64 (q : Int), .int .u64 (r : Int), .int .u64 (s : Int), .bool false] 190)) w.heap.size p q r s false from heap_alloc_new w _).alloc' (.cells #[.int .u64 0] 95)).far (a := ⟨gb, nb, none⟩) (Ne.symm (Nat.ne_of_lt HL.out.2)) (.int .u64 0))
    have q0 := HNw.c0; have q1 := HNw.c1; have q2 := HNw.c2; have q3 := HNw.c3; have q4 := HNw.c4
    clear b0 b1 HYa HXa HNw
    go_enter Tryz.func117, Tryz.ntmps117
    go_wp2_with fail
    refine (mix_any _ B ga gb (nb + 1) ca cb p q r s X (Y.set nb 0) hBA.out hBB.out HXY.out HBX.out HBY.out (by have := HNX.out; have := HCA.out; omega) (by have := And.intro HNY.out HLY.out; have := HCA.out; omega) HCA.out.1 HCA.out.2.1 OX.out HOY'.out HP.out HQ.out HR.out HS.out HN.out).mono ?_
    clear hBA hBB
    rintro e w1 ⟨zs, ys, oP, oQ, lX, oS, oR, lY, rfl, RX, RY, hbx, hby, hbel⟩
    have h1 : Big.val Big.M64 (X.take (nb + 1)) < Big.M64 ^ (nb + 1) := by
      have := Big.val_lt (X.take (nb + 1)) (OX.out.take (nb + 1))
      rwa [List.length_take, Nat.min_eq_left (by have := HNX.out; have := HCA.out; omega)] at this
    have h2 := HM'.out.lea HS1.out
    have h3 := HM'.out.lt
    have e1 := RX.done (HM'.out.an rfl) (Nat.lt_of_le_of_lt h2 h1)
    have e2 := RY.done (HM'.out.bn rfl) (Nat.lt_trans h3 (Nat.lt_of_le_of_lt h2 h1))
    have T1 := trimmed hbx RX.len (by have := HNX.out; omega) HCA.out.1 HCA.out.2.2.1 RX.ok OX.out
    have T2 := trimmed hby RY.len (by have := And.intro HNY.out HLY.out; omega) HCA.out.2.1 HCA.out.2.2.2 RY.ok HOY'.out
    rw [e1] at T1
    rw [e2] at T2
    have HT1 := Lib.hid T1; have HT2 := Lib.hid T2
    have C1 := Lib.hid (trim_call T1.1 RX.len)
    have C2 := Lib.hid (trim_call T2.1 RY.len)
    have HBe := Lib.hid (HB1.out.trans hbel)
    clear RX RY hbx hby hbel h1 h2 h3 e1 e2 T1 T2
    go_wp2_with (first
      | (go_at_call 113; with_reducible refine C1.out.mono ?_; rintro e w' ⟨rfl, rfl⟩)
      | (go_at_call 113; with_reducible refine C2.out.mono ?_; rintro e w' ⟨rfl, rfl⟩))
    go_ret2
    exact ⟨_, _, rfl, HBe.out, Or.inl ⟨HT1.out.2, HT2.out.2⟩⟩
  | true =>
    have b0 := ((Below.refl w.heap.size w).alloc (Nat.le_refl _) (.cells #[.int .u64 (p : Int), .int .u64 (q : Int), .int .u64 (r : Int), .int .u64 (s : Int), .bool true] 190))
    have b0 := b0.alloc b0.size (.cells #[.int .u64 0] 95)
    have b1 := ((Below.refl B w).alloc (show B ≤ w.heap.size by have := HBX.out; have := HL.out.1; omega) (.cells #[.int .u64 (p : Int), .int .u64 (q : Int), .int .u64 (r : Int), .int .u64 (s : Int), .bool true] 190))
    have b1 := b1.alloc (Nat.le_trans (show B ≤ w.heap.size by have := HBX.out; have := HL.out.1; omega) b1.size) (.cells #[.int .u64 0] 95)
    have HYa : Blk ((w.alloc (.cells #[.int .u64 (p : Int), .int .u64 (q : Int), .int .u64 (r : Int), .int .u64 (s : Int), .bool true] 190)).alloc (.cells #[.int .u64 0] 95)) gb 95 .u64 Y := HY.out.below b0
    have HXa : Blk ((w.alloc (.cells #[.int .u64 (p : Int), .int .u64 (q : Int), .int .u64 (r : Int), .int .u64 (s : Int), .bool true] 190)).alloc (.cells #[.int .u64 0] 95)) ga 95 .u64 X := HX.out.below b0
    have hst := HYa.cell nb HIN.out
    have hfr := HYa.frozen nb
    have hBB := Lib.hid (show Blk (((w.alloc (.cells #[.int .u64 (p : Int), .int .u64 (q : Int), .int .u64 (r : Int), .int .u64 (s : Int), .bool true] 190)).alloc (.cells #[.int .u64 0] 95)).setCell ⟨gb, nb, none⟩ (.int .u64 0)) gb 95 .u64 (Y.set nb 0) from HYa.set nb 0)
    have hBA := Lib.hid (HXa.far (p := ⟨gb, nb, none⟩) HXY.out (.int .u64 0))
    have HB1 := Lib.hid (b1.setCell (p := ⟨gb, nb, none⟩) HBY.out (.int .u64 0))
    have HNw := (((show NowAt (w.alloc (.cells #[.int .u64 (p : Int), .int .u64 (q : Int), .int .u64 (r : Int), .int .u64 (s : Int), .bool true] 190)) w.heap.size p q r s true from heap_alloc_new w _).alloc' (.cells #[.int .u64 0] 95)).far (a := ⟨gb, nb, none⟩) (Ne.symm (Nat.ne_of_lt HL.out.2)) (.int .u64 0))
    have q0 := HNw.c0; have q1 := HNw.c1; have q2 := HNw.c2; have q3 := HNw.c3; have q4 := HNw.c4
    clear b0 b1 HYa HXa HNw
    go_enter Tryz.func117, Tryz.ntmps117
    go_wp2_with fail
    refine (mix_any _ B gb ga (nb + 1) cb ca q p s r (Y.set nb 0) X hBB.out hBA.out (Ne.symm HXY.out) HBY.out HBX.out (by have := And.intro HNY.out HLY.out; have := HCA.out; omega) (by have := HNX.out; have := HCA.out; omega) HCA.out.2.1 HCA.out.1 HOY'.out OX.out HQ.out HP.out HS.out HR.out HN.out).mono ?_
    clear hBA hBB
    rintro e w1 ⟨zs, ys, oP, oQ, lX, oS, oR, lY, rfl, RX, RY, hbx, hby, hbel⟩
    have h1 : Big.val Big.M64 (X.take (nb + 1)) < Big.M64 ^ (nb + 1) := by
      have := Big.val_lt (X.take (nb + 1)) (OX.out.take (nb + 1))
      rwa [List.length_take, Nat.min_eq_left (by have := HNX.out; have := HCA.out; omega)] at this
    have h2 := HM'.out.lea HS1.out
    have h3 := HM'.out.lt
    have e1 := RX.done (HM'.out.at_ rfl) (Nat.lt_of_le_of_lt h2 h1)
    have e2 := RY.done (HM'.out.bt rfl) (Nat.lt_trans h3 (Nat.lt_of_le_of_lt h2 h1))
    have T1 := trimmed hbx RX.len (by have := And.intro HNY.out HLY.out; omega) HCA.out.2.1 HCA.out.2.2.2 RX.ok HOY'.out
    have T2 := trimmed hby RY.len (by have := HNX.out; omega) HCA.out.1 HCA.out.2.2.1 RY.ok OX.out
    rw [e1] at T1
    rw [e2] at T2
    have HT1 := Lib.hid T1; have HT2 := Lib.hid T2
    have C1 := Lib.hid (trim_call T1.1 RX.len)
    have C2 := Lib.hid (trim_call T2.1 RY.len)
    have HBe := Lib.hid (HB1.out.trans hbel)
    clear RX RY hbx hby hbel h1 h2 h3 e1 e2 T1 T2
    go_wp2_with (first
      | (go_at_call 113; with_reducible refine C1.out.mono ?_; rintro e w' ⟨rfl, rfl⟩)
      | (go_at_call 113; with_reducible refine C2.out.mono ?_; rintro e w' ⟨rfl, rfl⟩))
    go_ret2
    exact ⟨_, _, rfl, HBe.out, Or.inr ⟨HT1.out.2, HT2.out.2⟩⟩
end Go.Proofs.YtfmebfkdpfbjbaaGreatDoor
