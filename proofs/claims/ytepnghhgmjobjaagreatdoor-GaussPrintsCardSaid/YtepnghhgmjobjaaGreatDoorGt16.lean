/- Contracts, in this order: ref90: sums and differences of sizes. · ref90: how many binary digits; the number of 64 bits. · ref90: times a power of two; over it. · ref90: over a power of two, rounded down; the number of 64 b · ref90: the number of 64 bits. · ref90: differences of sizes. -/
import Derived.Test.YtepnghhgmjobjaaGreatDoorGt15
import Derived.Test.YtepnghhgmjobjaaGreatDoorGt06
import Derived.Deep.RegionHeld3
import Derived.Test.YtepnghhgmjobjaaGreatDoorGt07
namespace Go.Proofs.YtepnghhgmjobjaaGreatDoor
namespace R
open Go.RowKit
theorem infoU32 : (Tryz.prog.info? 227).map (fun i => (i.zero, i.size, i.bytes)) = some (some (.int .u32 0), 1, 4) := by kernel_rfl
theorem nth_lt {l : List Nat} (ol : Big.Ok M32 l) (k : Nat) : Big.nth l k < 4294967296 := by rw [← M32_eq]; exact ol.nth M32_pos k
theorem make32 (n : Nat) (hn : n ≤ 1000000000000) (W : World) : (Instr.makeSlice 117 (.int .i64 ((n : Nat) : Int)) (.int .i64 ((n : Nat) : Int))).run Tryz.prog W =
    .ok (.slice (some ⟨W.heap.size, 0, none⟩) n n) (W.alloc (.cells (cellsOf .u32 (List.replicate n 0)) 227)) := by
  obtain ⟨i0, hi, hz0, hz1, hz2⟩ := info_parts infoU32
  exact make_words (P := Tryz.prog) Tryz.underlying117 hi hz0 hz1 (by rw [hz2]; omega) .i64 .i64 n n (Nat.le_refl _) (by omega) W
theorem add_round {l m zs : List Nat} {k n : Nat} (ol : Big.Ok M32 l) (om : Big.Ok M32 m) (hn : n ≤ 1)
    (h : zs.length = k ∧ Big.Ok M32 zs ∧ Big.val M32 zs + M32 ^ k * n = Big.val M32 (l.take k) + Big.val M32 (m.take k)) :
    hi32 (n + Big.nth l k + Big.nth m k) ≤ 1 ∧ (zs ++ [lo32 (n + Big.nth l k + Big.nth m k)]).length = k + 1 ∧ Big.Ok M32 (zs ++ [lo32 (n + Big.nth l k + Big.nth m k)]) ∧
      Big.val M32 (zs ++ [lo32 (n + Big.nth l k + Big.nth m k)]) + M32 ^ (k + 1) * hi32 (n + Big.nth l k + Big.nth m k) = Big.val M32 (l.take (k + 1)) + Big.val M32 (m.take (k + 1)) := by
  obtain ⟨h1, h2, h3⟩ := h
  have a := nth_lt ol k
  have b := nth_lt om k
  refine ⟨by unfold hi32; omega, by simp [h1], h2.append (Big.Ok.cons (by rw [M32_eq]; exact lo32_lt _) Big.Ok.nil), ?_⟩
  rw [Big.val_take_succ', Big.val_take_succ']
  exact Big.add_step h1 h3 (by have := lo_hi (n + Big.nth l k + Big.nth m k); rw [M32_eq]; omega)
theorem w32 (n : Nat) : IntKind.u32.wrap ((n : Nat) : Int) = ((lo32 n : Nat) : Int) := by rw [IntKind.wrap_u32]; unfold lo32; omega
theorem w64 (n : Nat) (h : n < 18446744073709551616) : IntKind.u64.wrap ((n : Nat) : Int) = ((n : Nat) : Int) := by rw [IntKind.wrap_u64]; omega
theorem sh32 (n : Nat) : ((n : Nat) : Int) / 4294967296 = ((hi32 n : Nat) : Int) := by unfold hi32; omega
set_option maxRecDepth 100000 in
set_option maxHeartbeats 1000000 in
theorem addWords_ge (w : World) (v u : Value) (l m : List Nat) (h : Wd w .u32 v l) (k : Wd w .u32 u m) (ol : Big.Ok M32 l) (om : Big.Ok M32 m)
    (hl : l.length ≤ 100000000000) (hlm : m.length ≤ l.length) :
    Calls Tryz.prog 203 #[v, u] w fun e w' => ∃ v', e = .returned v' ∧ Nin w' v' (Big.val M32 l + Big.val M32 m) ∧ Below w.heap.size w w' := by
  obtain ⟨A, c, rfl, h1, h2, h3⟩ := h
  obtain ⟨A2, c2, rfl, k1, k2, k3⟩ := k
  have OL := Lib.hid ol; have OM := Lib.hid om
  clear ol om
  have hmk := fun W => make32 (l.length + 1) (by omega) W
  rw [show ((l.length + 1 : Nat) : Int) = (l.length : Int) + 1 by omega] at hmk
  have hnlt : ¬ ((l.length : Int) < m.length) := by omega
  have HB0 := Lib.hid (Blk.new w 227 .u32 (List.replicate (l.length + 1) 0))
  have HBel0 := Lib.hid ((Below.refl w.heap.size w).alloc (Nat.le_refl _) (.cells (cellsOf .u32 (List.replicate (l.length + 1) 0)) 227))
  have HW1 := Lib.hid (show Wd w .u32 (.slice A l.length c) l from ⟨A, c, rfl, h1, h2, h3⟩)
  have HW2 := Lib.hid (show Wd w .u32 (.slice A2 m.length c2) m from ⟨A2, c2, rfl, k1, k2, k3⟩)
  clear h3 k3
  go_enter Tryz.func203, Tryz.ntmps203
  go_wp2_with fail
  go_loopw [6, 7] (fun o i wr => ∃ (k n : Nat) (zs : List Nat), k ≤ l.length ∧ i = .int .i64 k ∧ o = .int .u64 n ∧ n ≤ 1 ∧
      Hid (zs.length = k ∧ Big.Ok M32 zs ∧ Big.val M32 zs + M32 ^ k * n = Big.val M32 (l.take k) + Big.val M32 (m.take k)) ∧
      Hid (Blk wr w.heap.size 227 .u32 (zs ++ (List.replicate (l.length + 1) 0).drop k)) ∧ Hid (Below w.heap.size w wr))
    (fun _ i _ => l.length - (intOf i).toNat)
  case atStart => exact ⟨0, 0, [], by omega, rfl, rfl, by omega, Lib.hid ⟨rfl, Big.Ok.nil, by simp [Big.val]⟩, Lib.hid (by simpa using HB0.out), HBel0⟩
  case round =>
    obtain ⟨k, n, zs, hk, rfl, rfl, hn1, HZ, HB, HBel⟩ := hrel
    by_cases hlt : k < l.length
    · obtain ⟨A', c', e, x1, x2, x3⟩ := HW1.out
      cases e
      obtain ⟨b, o, rfl, hblt, hc, -⟩ := x3 (by omega)
      have hcell := (HBel.out.cell (p := ⟨b, o + k, none⟩) hblt).trans (hc k hlt)
      have hst := HB.out.cell k (by have := HZ.out.1; simp; omega)
      have hfr := HB.out.frozen k
      have R := add_round OL.out OM.out hn1 HZ.out
      have hx := nth_lt OL.out k
      have hy := nth_lt OM.out k
      have HB' := Lib.hid (HB.out.set k (lo32 (n + Big.nth l k + Big.nth m k)))
      have ez := set_drop zs (List.replicate (l.length + 1) 0) k (lo32 (n + Big.nth l k + Big.nth m k)) HZ.out.1 (by simp; omega)
      have hw := w32 (n + Big.nth l k + Big.nth m k)
      have hs := sh32 (n + Big.nth l k + Big.nth m k)
      clear hc x3
      by_cases hlm2 : k < m.length
      · obtain ⟨A'', c'', e, y1, y2, y3⟩ := HW2.out
        cases e
        obtain ⟨b2, o2, rfl, hblt2, hc2, -⟩ := y3 (by omega)
        have hcell2 := (HBel.out.cell (p := ⟨b2, o2 + k, none⟩) hblt2).trans (hc2 k hlm2)
        clear hc2 y3
        generalize Big.nth l k = x at *
        generalize Big.nth m k = y at *
        have e1 : ((n + x + y : Nat) : Int) = (n : Int) + x + y := by omega
        rw [e1] at hw hs
        generalize lo32 (n + x + y) = sv at *
        generalize hi32 (n + x + y) = tv at *
        have R0 := R.1
        have R1 := Lib.hid R.2
        have HE := Lib.hid ez
        clear R ez e1
        go_wp2_with fail
        refine ⟨⟨k + 1, tv, zs ++ [sv], by omega, by go_num, rfl, R0, R1, Lib.hid ?_, Lib.hid ((HBel.out).setCell (Nat.le_refl _) _)⟩, by simp [intOf]; omega⟩
        have := HB'.out
        rw [HE.out] at this
        exact this
      · have hy0 : Big.nth m k = 0 := Big.nth_ge m k (by omega)
        rw [hy0] at R HB' ez hw hs
        clear hy hy0
        generalize Big.nth l k = x at *
        have e1 : ((n + x + 0 : Nat) : Int) = (n : Int) + x := by omega
        rw [e1] at hw hs
        generalize lo32 (n + x + 0) = sv at *
        generalize hi32 (n + x + 0) = tv at *
        have R0 := R.1
        have R1 := Lib.hid R.2
        have HE := Lib.hid ez
        clear R ez e1
        go_wp2_with fail
        refine ⟨⟨k + 1, tv, zs ++ [sv], by omega, by go_num, rfl, R0, R1, Lib.hid ?_, Lib.hid ((HBel.out).setCell (Nat.le_refl _) _)⟩, by simp [intOf]; omega⟩
        have := HB'.out
        rw [HE.out] at this
        exact this
    · have hkl : k = l.length := by omega
      subst hkl
      have hst := HB.out.cell l.length (by have := HZ.out.1; simp; omega)
      have hfr := HB.out.frozen l.length
      have HB' := Lib.hid (HB.out.set l.length n)
      have HBel' := Lib.hid (HBel.out.setCell (p := ⟨w.heap.size, l.length, none⟩) (Nat.le_refl _) (.int .u32 (n : Int)))
      go_wp2_with fail
      refine (trim_any _ _ (zs ++ [n]) ?_).mono ?_
      · have h1 := HB'.out
        rw [set_drop zs (List.replicate (l.length + 1) 0) l.length _ HZ.out.1 (by simp)] at h1
        rw [show List.drop (l.length + 1) (List.replicate (l.length + 1) 0) = [] from List.drop_eq_nil_of_le (by simp), List.append_nil] at h1
        have h2 := blk_wd0 h1 (l.length + 1) (by have := HZ.out.1; simp; omega) (by omega)
        rw [show (zs ++ [n]).length = l.length + 1 by have := HZ.out.1; simp; omega] at h2
        exact h2
      · rintro e w' ⟨v', rfl, hv', rfl⟩
        have HV := Lib.hid hv'
        clear hv'
        go_wp2
        go_ret
        have Z := HZ.out
        have oz : Big.Ok M32 (zs ++ [n]) := Z.2.1.append (Big.Ok.cons (by unfold M32; omega) Big.Ok.nil)
        have e1 := Z.2.2
        rw [Big.val_take_all l _ (Nat.le_refl _), Big.val_take_all m _ (by omega)] at e1
        refine ⟨v', rfl, ?_, HBel'.out⟩
        have := Nin.strip HV.out oz
        rw [Big.val_snoc, Z.1, e1] at this
        exact this
set_option maxRecDepth 100000 in
set_option maxHeartbeats 1000000 in
theorem addWords_lt (w : World) (v u : Value) (l m : List Nat) (h : Wd w .u32 v l) (k : Wd w .u32 u m) (ol : Big.Ok M32 l) (om : Big.Ok M32 m)
    (hl : l.length ≤ 100000000000) (hlm : m.length < l.length) :
    Calls Tryz.prog 203 #[u, v] w fun e w' => ∃ v', e = .returned v' ∧ Nin w' v' (Big.val M32 l + Big.val M32 m) ∧ Below w.heap.size w w' := by
  obtain ⟨A, c, rfl, h1, h2, h3⟩ := h
  obtain ⟨A2, c2, rfl, k1, k2, k3⟩ := k
  have OL := Lib.hid ol; have OM := Lib.hid om
  clear ol om
  have hmk := fun W => make32 (l.length + 1) (by omega) W
  rw [show ((l.length + 1 : Nat) : Int) = (l.length : Int) + 1 by omega] at hmk
  have hnlt : ((m.length : Int) < l.length) := by omega
  have HB0 := Lib.hid (Blk.new w 227 .u32 (List.replicate (l.length + 1) 0))
  have HBel0 := Lib.hid ((Below.refl w.heap.size w).alloc (Nat.le_refl _) (.cells (cellsOf .u32 (List.replicate (l.length + 1) 0)) 227))
  have HW1 := Lib.hid (show Wd w .u32 (.slice A l.length c) l from ⟨A, c, rfl, h1, h2, h3⟩)
  have HW2 := Lib.hid (show Wd w .u32 (.slice A2 m.length c2) m from ⟨A2, c2, rfl, k1, k2, k3⟩)
  clear h3 k3
  go_enter Tryz.func203, Tryz.ntmps203
  go_wp2_with fail
  go_loopw [6, 7] (fun o i wr => ∃ (k n : Nat) (zs : List Nat), k ≤ l.length ∧ i = .int .i64 k ∧ o = .int .u64 n ∧ n ≤ 1 ∧
      Hid (zs.length = k ∧ Big.Ok M32 zs ∧ Big.val M32 zs + M32 ^ k * n = Big.val M32 (l.take k) + Big.val M32 (m.take k)) ∧
      Hid (Blk wr w.heap.size 227 .u32 (zs ++ (List.replicate (l.length + 1) 0).drop k)) ∧ Hid (Below w.heap.size w wr))
    (fun _ i _ => l.length - (intOf i).toNat)
  case atStart => exact ⟨0, 0, [], by omega, rfl, rfl, by omega, Lib.hid ⟨rfl, Big.Ok.nil, by simp [Big.val]⟩, Lib.hid (by simpa using HB0.out), HBel0⟩
  case round =>
    obtain ⟨k, n, zs, hk, rfl, rfl, hn1, HZ, HB, HBel⟩ := hrel
    by_cases hlt : k < l.length
    · obtain ⟨A', c', e, x1, x2, x3⟩ := HW1.out
      cases e
      obtain ⟨b, o, rfl, hblt, hc, -⟩ := x3 (by omega)
      have hcell := (HBel.out.cell (p := ⟨b, o + k, none⟩) hblt).trans (hc k hlt)
      have hst := HB.out.cell k (by have := HZ.out.1; simp; omega)
      have hfr := HB.out.frozen k
      have R := add_round OL.out OM.out hn1 HZ.out
      have hx := nth_lt OL.out k
      have hy := nth_lt OM.out k
      have HB' := Lib.hid (HB.out.set k (lo32 (n + Big.nth l k + Big.nth m k)))
      have ez := set_drop zs (List.replicate (l.length + 1) 0) k (lo32 (n + Big.nth l k + Big.nth m k)) HZ.out.1 (by simp; omega)
      have hw := w32 (n + Big.nth l k + Big.nth m k)
      have hs := sh32 (n + Big.nth l k + Big.nth m k)
      clear hc x3
      by_cases hlm2 : k < m.length
      · obtain ⟨A'', c'', e, y1, y2, y3⟩ := HW2.out
        cases e
        obtain ⟨b2, o2, rfl, hblt2, hc2, -⟩ := y3 (by omega)
        have hcell2 := (HBel.out.cell (p := ⟨b2, o2 + k, none⟩) hblt2).trans (hc2 k hlm2)
        clear hc2 y3
        generalize Big.nth l k = x at *
        generalize Big.nth m k = y at *
        have e1 : ((n + x + y : Nat) : Int) = (n : Int) + x + y := by omega
        rw [e1] at hw hs
        generalize lo32 (n + x + y) = sv at *
        generalize hi32 (n + x + y) = tv at *
        have R0 := R.1
        have R1 := Lib.hid R.2
        have HE := Lib.hid ez
        clear R ez e1
        go_wp2_with fail
        refine ⟨⟨k + 1, tv, zs ++ [sv], by omega, by go_num, rfl, R0, R1, Lib.hid ?_, Lib.hid ((HBel.out).setCell (Nat.le_refl _) _)⟩, by simp [intOf]; omega⟩
        have := HB'.out
        rw [HE.out] at this
        exact this
      · have hy0 : Big.nth m k = 0 := Big.nth_ge m k (by omega)
        rw [hy0] at R HB' ez hw hs
        clear hy hy0
        generalize Big.nth l k = x at *
        have e1 : ((n + x + 0 : Nat) : Int) = (n : Int) + x := by omega
        rw [e1] at hw hs
        generalize lo32 (n + x + 0) = sv at *
        generalize hi32 (n + x + 0) = tv at *
        have R0 := R.1
        have R1 := Lib.hid R.2
        have HE := Lib.hid ez
        clear R ez e1
        go_wp2_with fail
        refine ⟨⟨k + 1, tv, zs ++ [sv], by omega, by go_num, rfl, R0, R1, Lib.hid ?_, Lib.hid ((HBel.out).setCell (Nat.le_refl _) _)⟩, by simp [intOf]; omega⟩
        have := HB'.out
        rw [HE.out] at this
        exact this
    · have hkl : k = l.length := by omega
      subst hkl
      have hst := HB.out.cell l.length (by have := HZ.out.1; simp; omega)
      have hfr := HB.out.frozen l.length
      have HB' := Lib.hid (HB.out.set l.length n)
      have HBel' := Lib.hid (HBel.out.setCell (p := ⟨w.heap.size, l.length, none⟩) (Nat.le_refl _) (.int .u32 (n : Int)))
      go_wp2_with fail
      refine (trim_any _ _ (zs ++ [n]) ?_).mono ?_
      · have h1 := HB'.out
        rw [set_drop zs (List.replicate (l.length + 1) 0) l.length _ HZ.out.1 (by simp)] at h1
        rw [show List.drop (l.length + 1) (List.replicate (l.length + 1) 0) = [] from List.drop_eq_nil_of_le (by simp), List.append_nil] at h1
        have h2 := blk_wd0 h1 (l.length + 1) (by have := HZ.out.1; simp; omega) (by omega)
        rw [show (zs ++ [n]).length = l.length + 1 by have := HZ.out.1; simp; omega] at h2
        exact h2
      · rintro e w' ⟨v', rfl, hv', rfl⟩
        have HV := Lib.hid hv'
        clear hv'
        go_wp2
        go_ret
        have Z := HZ.out
        have oz : Big.Ok M32 (zs ++ [n]) := Z.2.1.append (Big.Ok.cons (by unfold M32; omega) Big.Ok.nil)
        have e1 := Z.2.2
        rw [Big.val_take_all l _ (Nat.le_refl _), Big.val_take_all m _ (by omega)] at e1
        refine ⟨v', rfl, ?_, HBel'.out⟩
        have := Nin.strip HV.out oz
        rw [Big.val_snoc, Z.1, e1] at this
        exact this
theorem addWords_any (w : World) (v u : Value) (l m : List Nat) (h : Wd w .u32 v l) (k : Wd w .u32 u m) (ol : Big.Ok M32 l) (om : Big.Ok M32 m)
    (hl : l.length ≤ 100000000000) (hm : m.length ≤ 100000000000) :
    Calls Tryz.prog 203 #[v, u] w fun e w' => ∃ v', e = .returned v' ∧ Nin w' v' (Big.val M32 l + Big.val M32 m) ∧ Below w.heap.size w w' := by
  rcases Nat.lt_or_ge l.length m.length with h1 | h1
  · rw [Nat.add_comm]; exact addWords_lt w u v m l k h om ol hm h1
  · exact addWords_ge w v u l m h k ol om hl h1
end R
end Go.Proofs.YtepnghhgmjobjaaGreatDoor
namespace Go.Proofs.YtepnghhgmjobjaaGreatDoor
namespace R
open Go.RowKit
def IsBits (n s : Nat) : Prop := n < 2 ^ s ∧ (0 < s → 2 ^ (s - 1) ≤ n)
theorem bits_top {l : List Nat} {t j : Nat} (ol : Big.Ok M32 l) (h1 : t < 2 ^ j) (h2 : 0 < j → 2 ^ (j - 1) ≤ t) (h0 : 0 < t) : IsBits (Big.val M32 (l ++ [t])) (32 * l.length + j) := by
  have hj : 0 < j := by
    rcases Nat.eq_zero_or_pos j with e | e
    · subst e; simp at h1; omega
    · exact e
  have hl := Big.val_lt l ol
  have eM : M32 ^ l.length = 2 ^ (32 * l.length) := by rw [Nat.pow_mul]; rfl
  rw [Big.val_snoc]
  rw [eM] at hl ⊢
  clear eM
  unfold IsBits
  rw [Nat.pow_add, show 32 * l.length + j - 1 = 32 * l.length + (j - 1) by omega, Nat.pow_add]
  have h3 := h2 hj
  generalize 2 ^ (32 * l.length) = P at *
  generalize 2 ^ j = Q at *
  generalize 2 ^ (j - 1) = Q2 at *
  refine ⟨?_, fun _ => ?_⟩
  · have := Nat.mul_le_mul_left P h1
    rw [Nat.mul_succ] at this
    omega
  · have := Nat.mul_le_mul_left P h3
    omega
set_option maxRecDepth 100000 in
set_option maxHeartbeats 1000000 in
theorem bitsOf_any (w : World) (v : Value) (l : List Nat) (h : Wd w .u32 v l) (ol : Big.Ok M32 l) (nl : Big.Norm l) (hl : l.length ≤ 100000000000) :
    Calls Tryz.prog 186 #[v] w fun e w' => ∃ s : Nat, e = .returned (.int .i64 (s : Int)) ∧ IsBits (Big.val M32 l) s ∧ s ≤ 32 * l.length ∧ (l ≠ [] → 32 * l.length ≤ s + 31) ∧ w = w' := by
  obtain ⟨A, c, rfl, h1, h2, h3⟩ := h
  rcases List.eq_nil_or_concat l with rfl | ⟨r, t, rfl⟩
  · clear h3
    go_enter Tryz.func186, Tryz.ntmps186
    go_wp2
    go_ret
    exact ⟨0, rfl, ⟨by simp [Big.val], fun h => absurd h (by omega)⟩, by simp, fun h => absurd rfl h, rfl⟩
  · rw [List.concat_eq_append] at *
    obtain ⟨b, o, rfl, hlt, hc, -⟩ := h3 (by simp)
    have hcell := hc r.length (by simp)
    have ent : Big.nth (r ++ [t]) r.length = t := by unfold Big.nth; rw [List.getD_eq_getElem?_getD, List.getElem?_append_right (by omega), Nat.sub_self]; rfl
    rw [ent] at hcell
    have ht0 : 0 < t := by
      rcases Nat.eq_zero_or_pos t with e | e
      · subst e; simp [Big.Norm] at nl
      · exact e
    have htM : t < 4294967296 := by rw [← M32_eq]; exact ol t (by simp)
    have hrl : (r ++ [t]).length = r.length + 1 := by simp
    rw [hrl] at h1 hl ⊢
    have OR := Lib.hid (show Big.Ok M32 r from fun d hd => ol d (by simp [hd]))
    have e1 : ((r.length + 1 : Nat) : Int) - 1 = (r.length : Int) := by omega
    have ene : (((r.length + 1 : Nat) : Int) == 0) = false := beq_eq_false_iff_ne.2 (by omega)
    clear hc h3 ent ol nl hrl
    generalize r.length + 1 = N at *
    have hN : N = r.length + 1 := by omega
    have HN := Lib.hid hN
    have j1 : (r.length : Int) < (N : Int) := by omega
    clear hN
    go_enter Tryz.func186, Tryz.ntmps186
    go_wp2_with fail
    have hl2 : r.length ≤ 100000000000 := by omega
    go_loopw [3, 4] (fun n x wr => ∃ (j y : Nat), j ≤ 32 ∧ n = .int .i64 (32 * (r.length : Int) + j) ∧ x = .int .u32 (y : Int) ∧ y < 4294967296 ∧ Hid (y = t / 2 ^ j ∧ (0 < j → 2 ^ (j - 1) ≤ t)) ∧ w = wr)
      (fun _ x _ => (intOf x).toNat)
    case atStart => exact ⟨0, t, by omega, by simp, rfl, htM, Lib.hid ⟨by simp, fun h => absurd h (by omega)⟩, rfl⟩
    case round =>
      obtain ⟨j, y, hj, rfl, rfl, hy, HT, rfl⟩ := hrel
      rcases Nat.eq_zero_or_pos y with rfl | hp
      · go_wp2
        go_ret
        have T := HT.out
        have hlt2 : t < 2 ^ j := by
          have := T.1
          rcases Nat.lt_or_ge t (2 ^ j) with h | h
          · exact h
          · have := Nat.div_pos h (Nat.pow_pos (by omega)); omega
        have := bits_top OR.out hlt2 T.2 ht0
        have hj1 : 0 < j := by
          rcases Nat.eq_zero_or_pos j with e | e
          · subst e; simp at hlt2; omega
          · exact e
        exact ⟨32 * r.length + j, by simp, this, by have := HN.out; omega, fun _ => by have := HN.out; omega, rfl⟩
      · have T := HT.out
        have h32 : j < 32 := by
          rcases Nat.lt_or_ge j 32 with h | h
          · exact h
          · exfalso
            have : j = 32 := by omega
            subst this
            have := T.1
            rw [Nat.div_eq_of_lt (by omega)] at this
            omega
        have hge : 2 ^ j ≤ t := by
          rcases Nat.lt_or_ge t (2 ^ j) with h | h
          · have := T.1; rw [Nat.div_eq_of_lt h] at this; omega
          · exact h
        have HT' := Lib.hid (show y / 2 = t / 2 ^ (j + 1) ∧ (0 < j + 1 → 2 ^ (j + 1 - 1) ≤ t) from ⟨by rw [T.1, Nat.pow_succ, Nat.div_div_eq_div_mul], fun _ => hge⟩)
        have hyp : (y : Int) > 0 := by omega
        clear T hge
        go_wp2_with fail
        refine ⟨⟨j + 1, y / 2, by omega, by congr 1, rfl, by omega, HT', trivial⟩, by simp only [intOf]; omega⟩
end R
end Go.Proofs.YtepnghhgmjobjaaGreatDoor
namespace Go.Proofs.YtepnghhgmjobjaaGreatDoor
namespace R
open Go.RowKit
theorem e32 {n : Nat} (hn : n ≤ 31) : M32 = 2 ^ n * 2 ^ (32 - n) := by
  rw [M32_eq, ← Nat.pow_add, show n + (32 - n) = 32 by omega]
theorem wshl (x n : Nat) (hn : n ≤ 31) (hx : x < 4294967296) : IntKind.u64.wrap ((x : Int) * 2 ^ n) = ((x * 2 ^ n : Nat) : Int) := by
  have h1 : 2 ^ n ≤ 2 ^ 31 := Nat.pow_le_pow_right (by omega) hn
  have h2 : x * 2 ^ n ≤ 4294967295 * 2 ^ 31 := Nat.mul_le_mul (by omega) h1
  rw [show ((2 : Int) ^ n) = ((2 ^ n : Nat) : Int) by rw [Int.natCast_pow]; rfl, ← Int.natCast_mul, IntKind.wrap_u64]; omega
theorem shl_lo {n x : Nat} (hn : n ≤ 31) : lo32 (x * 2 ^ n) = 2 ^ n * (x % 2 ^ (32 - n)) := by
  show x * 2 ^ n % 4294967296 = _
  rw [← M32_eq, e32 hn, Nat.mul_comm x, Nat.mul_mod_mul_left]
theorem shl_hi {n x : Nat} (hn : n ≤ 31) : hi32 (x * 2 ^ n) = x / 2 ^ (32 - n) := by
  show x * 2 ^ n / 4294967296 = _
  rw [← M32_eq, e32 hn, Nat.mul_comm x, Nat.mul_div_mul_left _ _ (Nat.pow_pos (by omega))]
theorem shl_low {n x top : Nat} (hn : n ≤ 31) (ht : top < 2 ^ n) : top + 2 ^ n * (x % 2 ^ (32 - n)) < M32 := by
  have h1 : x % 2 ^ (32 - n) + 1 ≤ 2 ^ (32 - n) := Nat.mod_lt _ (Nat.pow_pos (by omega))
  have h2 := Nat.mul_le_mul_left (2 ^ n) h1
  rw [← e32 hn, Nat.mul_add] at h2
  omega
theorem or_low {n x top : Nat} (ht : top < 2 ^ n) : top ||| 2 ^ n * x = top + 2 ^ n * x := by
  rw [Nat.or_comm, nat_join n _ _ (Nat.mul_mod_right _ _) ht, Nat.add_comm]
theorem up_round {l zs : List Nat} {k n top : Nat} (hn : n ≤ 31) (ht : top < 2 ^ n)
    (h : zs.length = k ∧ Big.Ok M32 zs ∧ Big.val M32 zs + M32 ^ k * top = Big.val M32 (l.take k) * 2 ^ n) (ol : Big.Ok M32 l) :
    hi32 (Big.nth l k * 2 ^ n) < 2 ^ n ∧ (zs ++ [top + lo32 (Big.nth l k * 2 ^ n)]).length = k + 1 ∧ Big.Ok M32 (zs ++ [top + lo32 (Big.nth l k * 2 ^ n)]) ∧
      Big.val M32 (zs ++ [top + lo32 (Big.nth l k * 2 ^ n)]) + M32 ^ (k + 1) * hi32 (Big.nth l k * 2 ^ n) = Big.val M32 (l.take (k + 1)) * 2 ^ n := by
  obtain ⟨h1, h2, h3⟩ := h
  have hx := ol.nth M32_pos k
  have hs := lo_hi (Big.nth l k * 2 ^ n)
  refine ⟨?_, by simp [h1], h2.append (Big.Ok.cons (by rw [shl_lo hn]; exact shl_low hn ht) Big.Ok.nil), ?_⟩
  · rw [shl_hi hn, Nat.div_lt_iff_lt_mul (Nat.pow_pos (by omega)), ← e32 hn]; exact hx
  · rw [Big.val_snoc, h1, Big.val_take_succ', Nat.add_mul, Nat.mul_assoc (M32 ^ k), ← h3, Nat.pow_succ]
    generalize lo32 (Big.nth l k * 2 ^ n) = a at *
    generalize hi32 (Big.nth l k * 2 ^ n) = b at *
    rw [hs, ← M32_eq, Nat.mul_assoc]
    simp only [Nat.mul_add]
    omega
theorem up_set {q k len top sv hi : Nat} {p zs : List Nat} (hp : p.length = q) (hz : zs.length = k) (hk : k < len) :
    ((p ++ (zs ++ top :: List.replicate (len - k) 0)).set (k + q) sv).set (k + q + 1) hi = p ++ ((zs ++ [sv]) ++ hi :: List.replicate (len - (k + 1)) 0) := by
  have e1 : (p ++ (zs ++ top :: List.replicate (len - k) 0)).set (k + q) sv = p ++ (zs ++ sv :: List.replicate (len - k) 0) := by
    rw [List.set_append_right _ _ (by omega), hp, Nat.add_sub_cancel, List.set_append_right _ _ (by omega), hz, Nat.sub_self, List.set_cons_zero]
  rw [e1, List.set_append_right _ _ (by omega), hp, show k + q + 1 - q = k + 1 by omega, List.set_append_right _ _ (by omega), hz, show k + 1 - k = 1 by omega,
    show len - k = (len - (k + 1)) + 1 by omega, List.replicate_succ]
  simp
set_option maxRecDepth 100000 in
set_option maxHeartbeats 2000000 in
theorem up_any (w : World) (v : Value) (l : List Nat) (q n : Nat) (h : Wd w .u32 v l) (ol : Big.Ok M32 l) (hn : n ≤ 31) (hq : q ≤ 1000000000) (hl : l.length ≤ 1000000000) :
    Calls Tryz.prog 241 #[v, .int .i64 ((32 * q + n : Nat) : Int)] w fun e w' => ∃ v', e = .returned v' ∧ Nin w' v' (Big.val M32 l * 2 ^ (32 * q + n)) ∧ Below w.heap.size w w' := by
  have HW := Lib.hid h
  have OL := Lib.hid ol
  have HN := Lib.hid hn
  obtain ⟨A, c, rfl, -, -, -⟩ := h
  have e1 : ((32 * q + n : Nat) : Int) / 32 = (q : Int) := by omega
  have e2 : ((32 * q + n : Nat) : Int) % 32 = (n : Int) := by omega
  have e0 : (0 : Int) ≤ ((32 * q + n : Nat) : Int) := by omega
  generalize hX : 32 * q + n = X at *
  have HX := Lib.hid hX
  clear hX
  rcases Nat.eq_zero_or_pos l.length with h0 | h0
  · have ez : ((l.length : Int) == 0) = true := by rw [beq_iff_eq]; omega
    have HL := Lib.hid (List.eq_nil_of_length_eq_zero h0)
    clear h0 e1 e2
    go_enter Tryz.func241, Tryz.ntmps241
    go_wp2
    go_ret
    refine ⟨_, rfl, ?_, Below.refl _ _⟩
    rw [HL.out]
    simpa [Big.val] using Nin.nil_ w
  · have ez : ((l.length : Int) == 0) = false := beq_eq_false_iff_ne.2 (by omega)
    have hmk := fun W => make32 (l.length + q + 1) (by omega) W
    rw [show ((l.length + q + 1 : Nat) : Int) = (l.length : Int) + q + 1 by omega] at hmk
    have HB1 := Lib.hid (Blk.new w 227 .u32 (List.replicate (l.length + q + 1) 0))
    have HBel1 := Lib.hid ((Below.refl w.heap.size w).alloc (Nat.le_refl _) (.cells (cellsOf .u32 (List.replicate (l.length + q + 1) 0)) 227))
    have HL0 := Lib.hid h0
    clear ol h0
    go_enter Tryz.func241, Tryz.ntmps241
    go_wp2_with fail
    clear hmk
    go_loopw [7] (fun i wr => ∃ (k top : Nat) (zs : List Nat), k ≤ l.length ∧ i = .int .i64 k ∧ Hid (top < 2 ^ n) ∧
        Hid (zs.length = k ∧ Big.Ok M32 zs ∧ Big.val M32 zs + M32 ^ k * top = Big.val M32 (l.take k) * 2 ^ n) ∧
        Hid (Blk wr w.heap.size 227 .u32 (List.replicate q 0 ++ (zs ++ top :: List.replicate (l.length - k) 0))) ∧ Hid (Below w.heap.size w wr))
      (fun i _ => l.length - (intOf i).toNat)
    case atStart => exact ⟨0, 0, [], by omega, rfl, Lib.hid (Nat.pow_pos (by omega)), Lib.hid ⟨rfl, Big.Ok.nil, by simp [Big.val]⟩, Lib.hid (by
      have h1 := HB1.out
      have e : List.replicate (l.length + q + 1) (0 : Nat) = List.replicate q 0 ++ ([] ++ 0 :: List.replicate (l.length - 0) 0) := by
        rw [List.nil_append, Nat.sub_zero, ← List.replicate_succ, List.replicate_append_replicate]; congr 1; omega
      rw [← e]
      exact h1), HBel1⟩
    case round =>
      obtain ⟨k, top, zs, hk, rfl, HT, HZ, HB, HBel⟩ := hrel
      by_cases hkn : k < l.length
      · obtain ⟨A', c', e, x1, x2, x3⟩ := HW.out
        cases e
        obtain ⟨b, o, rfl, hblt, hcc, -⟩ := x3 (by omega)
        have hcell := (HBel.out.cell (p := ⟨b, o + k, none⟩) hblt).trans (hcc k hkn)
        have hzl := HZ.out.1
        have hst := HB.out.cell (k + q) (by simp; omega)
        have et : Big.nth (List.replicate q 0 ++ (zs ++ top :: List.replicate (l.length - k) 0)) (k + q) = top := by
          unfold Big.nth
          rw [List.getD_eq_getElem?_getD, List.getElem?_append_right (by simp), List.length_replicate, Nat.add_sub_cancel, List.getElem?_append_right (by omega), hzl, Nat.sub_self]; rfl
        rw [et] at hst
        have hfr := HB.out.frozen (k + q)
        have R := up_round HN.out HT.out HZ.out OL.out
        have hyM := nth_lt OL.out k
        have ew := wshl (Big.nth l k) n HN.out hyM
        have hlow := shl_low (x := Big.nth l k) HN.out HT.out
        rw [← shl_lo HN.out, M32_eq] at hlow
        have eo := u32_or_nat top (lo32 (Big.nth l k * 2 ^ n)) (by omega) (by omega)
        rw [shl_lo HN.out, or_low HT.out, ← shl_lo HN.out] at eo
        have hP : Big.nth l k * 2 ^ n < 18446744073709551616 := by
          have h1 : 2 ^ n ≤ 2 ^ 31 := Nat.pow_le_pow_right (by omega) HN.out
          have h2 : Big.nth l k * 2 ^ n ≤ 4294967295 * 2 ^ 31 := Nat.mul_le_mul (by omega) h1
          omega
        have hlo := w32 (Big.nth l k * 2 ^ n)
        have hhi := sh32 (Big.nth l k * 2 ^ n)
        have hhl : hi32 (Big.nth l k * 2 ^ n) < 4294967296 := by unfold hi32; omega
        generalize Big.nth l k = y at *
        obtain ⟨P, hPe⟩ : ∃ P, y * 2 ^ n = P := ⟨_, rfl⟩
        rw [hPe] at R ew eo hP hlo hhi hhl
        generalize lo32 P = lo at *
        generalize hi32 P = hi at *
        obtain ⟨sv, hsv⟩ : ∃ s, top + lo = s := ⟨_, rfl⟩
        rw [hsv] at eo R
        have HT' := Lib.hid R.1
        have HZ' := Lib.hid R.2
        have HB1' := HB.out.set (k + q) sv
        have hst2 := HB1'.cell (k + q + 1) (by simp; omega)
        have hfr2 := HB1'.frozen (k + q + 1)
        have HB' := Lib.hid (HB1'.set (k + q + 1) hi)
        have HN63 : (n : Int) ≤ 31 := by have := HN.out; omega
        clear R hPe hsv hlow hcc x3 HB1' et hzl
        go_wp2_with fail
        refine ⟨⟨k + 1, hi, zs ++ [sv], by omega, by go_num, HT', HZ', Lib.hid ?_, Lib.hid (((HBel.out.setCell (Nat.le_refl _) _).setCell (Nat.le_refl _) _))⟩, by simp [intOf]; omega⟩
        have h1 := HB'.out
        rw [up_set (by simp) HZ.out.1 hkn] at h1
        exact h1
      · have hkl : k = l.length := by omega
        subst hkl
        have Z := HZ.out
        have hB := HB.out
        rw [Nat.sub_self, List.replicate_zero] at hB
        have h2 := blk_wd0 hB (l.length + q + 1) (by simp [Z.1]; omega) (by omega)
        rw [show (List.replicate q (0 : Nat) ++ (zs ++ [top])).length = l.length + q + 1 by simp [Z.1]; omega] at h2
        have HTR := Lib.hid (trim_any _ _ _ h2)
        clear hB h2 Z
        go_wp2_with fail
        refine HTR.out.mono ?_
        rintro e w' ⟨v', rfl, hv', rfl⟩
        have HV := Lib.hid hv'
        clear hv'
        go_wp2
        go_ret
        have Z := HZ.out
        refine ⟨v', rfl, ?_, HBel.out⟩
        have ot : top < M32 := by
          refine Nat.lt_of_lt_of_le HT.out ?_
          rw [e32 HN.out]
          exact Nat.le_mul_of_pos_right _ (Nat.pow_pos (by omega))
        have oz : Big.Ok M32 (List.replicate q 0 ++ (zs ++ [top])) := Big.Ok.append (fun d hd => by rw [List.eq_of_mem_replicate hd]; exact M32_pos) (Z.2.1.append (Big.Ok.cons ot Big.Ok.nil))
        have := Nin.strip HV.out oz
        rw [Big.val_append, Big.val_replicate, List.length_replicate, Nat.zero_add, Big.val_snoc, Z.1, Z.2.2, Big.val_take_all l _ (Nat.le_refl _)] at this
        have e : Big.val M32 l * 2 ^ X = M32 ^ q * (Big.val M32 l * 2 ^ n) := by
          rw [← HX.out, Nat.pow_add, show 2 ^ (32 * q) = M32 ^ q by rw [Nat.pow_mul]; rfl]
          generalize M32 ^ q = P
          generalize 2 ^ n = S
          rw [Nat.mul_left_comm]
        rw [e]
        exact this
end R
end Go.Proofs.YtepnghhgmjobjaaGreatDoor
namespace Go.Proofs.YtepnghhgmjobjaaGreatDoor
namespace R
open Go.RowKit
theorem down_round {x H' n : Nat} (hn : n ≤ 31) : (x + M32 * H') / 2 ^ n = x / 2 ^ n + 2 ^ (32 - n) * (H' % 2 ^ n) + M32 * (H' / 2 ^ n) := by
  have h := Nat.div_add_mod H' (2 ^ n)
  rw [e32 hn, Nat.mul_assoc, Nat.add_mul_div_left _ _ (Nat.pow_pos (by omega))]
  generalize H' / 2 ^ n = d at *
  generalize H' % 2 ^ n = r at *
  subst h
  rw [Nat.mul_add, ← Nat.mul_assoc, Nat.mul_comm (2 ^ (32 - n)) (2 ^ n)]
  omega
theorem down_low {x r n : Nat} (hn : n ≤ 31) (hx : x < M32) (hr : r < 2 ^ n) : x / 2 ^ n + 2 ^ (32 - n) * r < M32 := by
  have h1 : x / 2 ^ n < 2 ^ (32 - n) := by
    rw [Nat.div_lt_iff_lt_mul (Nat.pow_pos (by omega)), Nat.mul_comm, ← e32 hn]; exact hx
  have h2 := Nat.mul_le_mul_left (2 ^ (32 - n)) (show r + 1 ≤ 2 ^ n from hr)
  rw [Nat.mul_comm _ (2 ^ n), ← e32 hn, Nat.mul_add] at h2
  omega
theorem low_bits {X : List Nat} {k n : Nat} (hn : n ≤ 31) : Big.val M32 (X.drop k) % 2 ^ n = Big.nth X k % 2 ^ n := by
  rcases Nat.lt_or_ge k X.length with h | h
  · rw [Big.drop_cons X k h]
    simp only [Big.val]
    rw [e32 hn, Nat.mul_assoc, Nat.add_mul_mod_self_left]
  · rw [List.drop_eq_nil_of_le h, Big.nth_ge X k h]; rfl
theorem or_next (x y : Nat) (hx : x < 4294967296) (hy : y < 4294967296) : bits .or .u64 ((x : Nat) : Int) ((y : Int) * 4294967296) = ((x + 4294967296 * y : Nat) : Int) := by
  rw [show ((y : Int) * 4294967296) = ((y * 4294967296 : Nat) : Int) by omega, u64_or_nat _ _ (by omega) (by omega), Nat.or_comm, nat_join 32 _ _ (by omega) (by omega)]
  omega
theorem two_down {x y n : Nat} (hn : n ≤ 31) (hx : x < M32) : lo32 ((x + 4294967296 * y) / 2 ^ n) = x / 2 ^ n + 2 ^ (32 - n) * (y % 2 ^ n) := by
  have h := down_round (x := x) (H' := y) hn
  have h2 := down_low (r := y % 2 ^ n) hn hx (Nat.mod_lt _ (Nat.pow_pos (by omega)))
  rw [M32_eq] at h h2
  rw [h]
  show (_ + 4294967296 * _) % 4294967296 = _
  rw [Nat.add_mul_mod_self_left, Nat.mod_eq_of_lt h2]
theorem divS (n s : Nat) : ((n : Nat) : Int) / 2 ^ s = ((n / 2 ^ s : Nat) : Int) := by
  rw [show ((2 : Int) ^ s) = ((2 ^ s : Nat) : Int) by rw [Int.natCast_pow]; rfl, Int.natCast_ediv]
set_option maxRecDepth 100000 in
set_option maxHeartbeats 2000000 in
theorem down_any (w : World) (v : Value) (l : List Nat) (q n : Nat) (h : Wd w .u32 v l) (ol : Big.Ok M32 l) (hn : n ≤ 31) (hq : q ≤ 1000000000) (hl : l.length ≤ 1000000000) :
    Calls Tryz.prog 245 #[v, .int .i64 ((32 * q + n : Nat) : Int)] w fun e w' => ∃ v', e = .returned v' ∧ Nin w' v' (Big.val M32 l / 2 ^ (32 * q + n)) ∧ Below w.heap.size w w' := by
  obtain ⟨A, c, rfl, h1, h2, h3⟩ := h
  have OL := Lib.hid ol
  have HN := Lib.hid hn
  have e1 : ((32 * q + n : Nat) : Int) / 32 = (q : Int) := by omega
  have e2 : ((32 * q + n : Nat) : Int) % 32 = (n : Int) := by omega
  have e0 : (0 : Int) ≤ ((32 * q + n : Nat) : Int) := by omega
  have HV := Lib.hid (show Big.val M32 l / 2 ^ (32 * q + n) = Big.val M32 (l.drop q) / 2 ^ n by
    rw [Nat.pow_add, show 2 ^ (32 * q) = M32 ^ q by rw [Nat.pow_mul]; rfl, ← Nat.div_div_eq_div_mul]
    congr 1
    rcases Nat.lt_or_ge l.length q with h | h
    · rw [List.drop_eq_nil_of_le (by omega)]
      refine Nat.div_eq_of_lt (Nat.lt_of_lt_of_le (Big.val_lt l ol) (Nat.pow_le_pow_right M32_pos (by omega)))
    · have hv := Big.val_lt (l.take q) (ol.take q)
      rw [List.length_take, Nat.min_eq_left h] at hv
      rw [Big.val_take_drop l q h, Nat.add_mul_div_left _ _ (Nat.pow_pos M32_pos), Nat.div_eq_of_lt hv, Nat.zero_add])
  generalize hX : 32 * q + n = X at *
  rw [HV.out]
  clear hX HV
  rcases Nat.lt_or_ge q l.length with hql | hql
  · have t1 : ¬ ((q : Int) ≥ (l.length : Int)) := by omega
    obtain ⟨b, o, rfl, hlt, hc, hty⟩ := h3 (by omega)
    have HW := Lib.hid (show Wd w .u32 (.slice (some ⟨b, o + q, none⟩) (l.length - q) (c - q)) (l.drop q) from ⟨some ⟨b, o + q, none⟩, c - q, by simp, by simp; omega, by omega, fun _ => ⟨b, o + q, rfl, hlt, fun i hi => by
      rw [show o + q + i = o + (q + i) by omega, hc (q + i) (by simp at hi; omega)]
      unfold Big.nth
      rw [List.getD_eq_getElem?_getD, List.getD_eq_getElem?_getD, List.getElem?_drop], hty⟩⟩)
    obtain ⟨C, hC⟩ : ∃ C, c - q = C := ⟨_, rfl⟩
    have hN : l.length - q = (l.drop q).length := by simp
    have OD := Lib.hid (show Big.Ok M32 (l.drop q) from ol.drop q)
    rw [hN, hC] at HW
    generalize l.drop q = L at *
    have hNl : L.length ≤ 1000000000 := by omega
    have hmk := fun W => make32 L.length (by omega) W
    have HB1 := Lib.hid (Blk.new w 227 .u32 (List.replicate L.length 0))
    have HBel1 := Lib.hid ((Below.refl w.heap.size w).alloc (Nat.le_refl _) (.cells (cellsOf .u32 (List.replicate L.length 0)) 227))
    clear hc h3 hty ol
    go_enter Tryz.func245, Tryz.ntmps245
    go_wp2_with fail
    clear hmk
    go_loopw [7] (fun i wr => ∃ (k : Nat) (zs : List Nat), k ≤ L.length ∧ i = .int .i64 k ∧
        Hid (zs.length = k ∧ Big.Ok M32 zs ∧ Big.val M32 L / 2 ^ n = Big.val M32 zs + M32 ^ k * (Big.val M32 (L.drop k) / 2 ^ n)) ∧
        Hid (Blk wr w.heap.size 227 .u32 (zs ++ (List.replicate L.length 0).drop k)) ∧ Hid (Below w.heap.size w wr))
      (fun i _ => L.length - (intOf i).toNat)
    case atStart => exact ⟨0, [], by omega, rfl, Lib.hid ⟨rfl, Big.Ok.nil, by simp [Big.val]⟩, Lib.hid (by simpa using HB1.out), HBel1⟩
    case round =>
      obtain ⟨k, zs, hk, rfl, HZ, HB, HBel⟩ := hrel
      by_cases hkn : k < L.length
      · obtain ⟨A', c', e, x1, x2, x3⟩ := HW.out
        cases e
        obtain ⟨b', o', e, hblt, hcc, -⟩ := x3 (by omega)
        cases e
        have hcell := (HBel.out.cell (p := ⟨b, o + q + k, none⟩) hblt).trans (hcc k (by omega))
        have hzl := HZ.out.1
        have hst := HB.out.cell k (by simp; omega)
        have hfr := HB.out.frozen k
        have hxM := nth_lt OD.out k
        have hyM := nth_lt OD.out (k + 1)
        have hsr := down_round (x := Big.nth L k) (H' := Big.val M32 (L.drop (k + 1))) HN.out
        rw [low_bits HN.out] at hsr
        have hsv := two_down (x := Big.nth L k) (y := Big.nth L (k + 1)) HN.out (by rw [M32_eq]; exact hxM)
        have hlow := down_low (x := Big.nth L k) (r := Big.nth L (k + 1) % 2 ^ n) HN.out (by rw [M32_eq]; exact hxM) (Nat.mod_lt _ (Nat.pow_pos (by omega)))
        have hor := or_next (Big.nth L k) (Big.nth L (k + 1)) hxM hyM
        have hdc := Big.drop_cons L k (by omega)
        have hT : Big.nth L k + 4294967296 * Big.nth L (k + 1) < 18446744073709551616 := by omega
        have HZ' : ∀ sv, lo32 ((Big.nth L k + 4294967296 * Big.nth L (k + 1)) / 2 ^ n) = sv → (zs ++ [sv]).length = k + 1 ∧ Big.Ok M32 (zs ++ [sv]) ∧ Big.val M32 L / 2 ^ n = Big.val M32 (zs ++ [sv]) + M32 ^ (k + 1) * (Big.val M32 (L.drop (k + 1)) / 2 ^ n) := by
          rintro sv rfl
          rw [hsv]
          refine ⟨by simp [hzl], HZ.out.2.1.append (Big.Ok.cons hlow Big.Ok.nil), ?_⟩
          rw [HZ.out.2.2, hdc]
          simp only [Big.val]
          rw [hsr, Big.val_snoc, hzl, Nat.pow_succ, Nat.mul_add, Nat.mul_assoc]
          omega
        have HR := HZ' _ rfl
        have hw := w32 ((Big.nth L k + 4294967296 * Big.nth L (k + 1)) / 2 ^ n)
        have hdv := divS (Big.nth L k + 4294967296 * Big.nth L (k + 1)) n
        have HB' := Lib.hid (HB.out.set k (lo32 ((Big.nth L k + 4294967296 * Big.nth L (k + 1)) / 2 ^ n)))
        have ez := set_drop zs (List.replicate L.length 0) k (lo32 ((Big.nth L k + 4294967296 * Big.nth L (k + 1)) / 2 ^ n)) hzl (by simp; omega)
        have HN63 : (n : Int) ≤ 31 := by have := HN.out; omega
        by_cases hk2 : k + 1 < L.length
        · have hcell2 := (HBel.out.cell (p := ⟨b, o + q + (k + 1), none⟩) hblt).trans (hcc (k + 1) (by omega))
          generalize Big.nth L k = x at *
          generalize Big.nth L (k + 1) = y at *
          generalize x + 4294967296 * y = t at *
          generalize t / 2 ^ n = d at *
          generalize lo32 d = sv at *
          have HE := Lib.hid ez
          have HR' := Lib.hid HR
          clear hcc x3 hsr hsv hlow hdc HZ' HR ez hzl
          go_wp2_with fail
          refine ⟨⟨k + 1, zs ++ [sv], by omega, by go_num, HR', Lib.hid ?_, Lib.hid (HBel.out.setCell (Nat.le_refl _) _)⟩, by simp [intOf]; omega⟩
          have h1 := HB'.out
          rw [HE.out] at h1
          exact h1
        · have hy0 : Big.nth L (k + 1) = 0 := Big.nth_ge L (k + 1) (by omega)
          rw [hy0, Nat.mul_zero, Nat.add_zero] at HR hw hdv HB' ez
          clear hy0 hor hT hyM
          generalize Big.nth L k = x at *
          generalize x / 2 ^ n = d at *
          generalize lo32 d = sv at *
          have HE := Lib.hid ez
          have HR' := Lib.hid HR
          clear hcc x3 hsr hsv hlow hdc HZ' HR ez hzl
          go_wp2_with fail
          refine ⟨⟨k + 1, zs ++ [sv], by omega, by go_num, HR', Lib.hid ?_, Lib.hid (HBel.out.setCell (Nat.le_refl _) _)⟩, by simp [intOf]; omega⟩
          have h1 := HB'.out
          rw [HE.out] at h1
          exact h1
      · have hkl : k = L.length := by omega
        subst hkl
        have Z := HZ.out
        have hB := HB.out
        rw [show List.drop L.length (List.replicate L.length 0) = [] from List.drop_eq_nil_of_le (by simp), List.append_nil] at hB
        have h2 := blk_wd0 hB L.length (by omega) (by omega)
        rw [Z.1] at h2
        have HTR := Lib.hid (trim_any _ _ _ h2)
        clear hB h2 Z
        go_wp2_with fail
        refine HTR.out.mono ?_
        rintro e w' ⟨v', rfl, hv', rfl⟩
        have HV := Lib.hid hv'
        clear hv'
        go_wp2
        go_ret
        have Z := HZ.out
        refine ⟨v', rfl, ?_, HBel.out⟩
        have := Nin.strip HV.out Z.2.1
        rw [Z.2.2, List.drop_eq_nil_of_le (Nat.le_refl _)]
        simpa [Big.val] using this
  · have t1 : ((q : Int) ≥ (l.length : Int)) := by omega
    have HL := Lib.hid hql
    clear h3
    go_enter Tryz.func245, Tryz.ntmps245
    go_wp2
    go_ret
    refine ⟨_, rfl, ?_, Below.refl _ _⟩
    rw [List.drop_eq_nil_of_le HL.out]
    simpa [Big.val] using Nin.nil_ w
end R
end Go.Proofs.YtepnghhgmjobjaaGreatDoor
namespace Go.Proofs.YtepnghhgmjobjaaGreatDoor
namespace R
open Go.RowKit
theorem or_i64 (r y : Nat) (hr : r < 2147483648) (hy : y < 4294967296) : bits .or .i64 ((r : Int) * 4294967296) ((y : Nat) : Int) = ((y + 4294967296 * r : Nat) : Int) := by
  rw [show ((r : Int) * 4294967296) = ((r * 4294967296 : Nat) : Int) by omega]
  have hx : (r * 4294967296) ||| y = r * 4294967296 + y := nat_join 32 _ _ (by omega) (by omega)
  show IntKind.i64.wrap ((BitVec.ofInt 64 ((r * 4294967296 : Nat) : Int) ||| BitVec.ofInt 64 (y : Int)).toNat : Int) = _
  rw [BitVec.toNat_or, ofInt_u64 _ (by omega), ofInt_u64 _ (by omega), hx, IntWalk.i64_in _ (by omega)]
  omega
set_option maxRecDepth 100000 in
set_option maxHeartbeats 1000000 in
theorem low64_any (w : World) (v : Value) (l : List Nat) (h : Wd w .u32 v l) (ol : Big.Ok M32 l) (hv : Big.val M32 l < 9223372036854775808) (hl : l.length ≤ 1000000000) :
    Calls Tryz.prog 264 #[v] w fun e w' => e = .returned (.int .i64 ((Big.val M32 l : Nat) : Int)) ∧ w = w' := by
  obtain ⟨A, c, rfl, h1, h2, h3⟩ := h
  have OL := Lib.hid ol
  have HV : ∀ k, Big.val M32 (l.drop k) < 9223372036854775808 := by
    intro k
    refine Nat.lt_of_le_of_lt ?_ hv
    rw [Big.val_take_drop' l k]
    exact Nat.le_trans (Nat.le_mul_of_pos_left _ (Nat.pow_pos M32_pos)) (Nat.le_add_left _ _)
  have HVV := Lib.hid HV
  clear hv HV ol
  go_enter Tryz.func264, Tryz.ntmps264
  go_wp2_with fail
  go_loopw [3, 4] (fun s i wr => ∃ (k n : Nat), k ≤ l.length ∧ i = .int .i64 ((k : Int) - 1) ∧ s = .int .i64 n ∧ Hid (n = Big.val M32 (l.drop k)) ∧ w = wr)
    (fun _ i _ => (intOf i + 1).toNat)
  case atStart => exact ⟨l.length, 0, by omega, rfl, rfl, Lib.hid (by simp [Big.val]), rfl⟩
  case round =>
    obtain ⟨k, n, hk, rfl, rfl, HN, rfl⟩ := hrel
    rcases Nat.eq_zero_or_pos k with rfl | hp
    · go_wp2
      go_ret
      have := HN.out
      rw [List.drop_zero] at this
      exact ⟨by rw [← this]; simp, rfl⟩
    · obtain ⟨j, rfl⟩ : ∃ j, k = j + 1 := ⟨k - 1, by omega⟩
      rw [show (((j + 1 : Nat) : Int) - 1) = (j : Int) by omega]
      obtain ⟨b, o, rfl, hlt, hc, -⟩ := h3 (by omega)
      have hcell := hc j (by omega)
      have hy := nth_lt OL.out j
      have e1 : Big.val M32 (l.drop j) = Big.nth l j + 4294967296 * n := by rw [Big.drop_cons l j (by omega), HN.out]; rfl
      have hb := HVV.out j
      rw [e1] at hb
      have hn : n < 2147483648 := by omega
      have ho := or_i64 n (Big.nth l j) hn hy
      generalize Big.nth l j = y at *
      obtain ⟨t, ht⟩ : ∃ t, y + 4294967296 * n = t := ⟨_, rfl⟩
      rw [ht] at ho e1 hb
      have HE := Lib.hid e1.symm
      clear hc h3 ht e1
      go_wp2_with fail
      refine ⟨⟨j, t, by omega, rfl, rfl, HE, trivial⟩, by simp [intOf]⟩
end R
end Go.Proofs.YtepnghhgmjobjaaGreatDoor
namespace Go.Proofs.YtepnghhgmjobjaaGreatDoor
namespace R
open Go.RowKit
def bor32 (x y b : Nat) : Nat := if x < y + b then 1 else 0
def dif32 (x y b : Nat) : Nat := (x + 4294967296 - y - b) % 4294967296
theorem bor32_le (x y b : Nat) : bor32 x y b ≤ 1 := by unfold bor32; split <;> omega
theorem dif32_lt (x y b : Nat) : dif32 x y b < 4294967296 := by unfold dif32; omega
theorem dif_bor32 {x y b : Nat} (hx : x < 4294967296) (hy : y < 4294967296) (hb : b ≤ 1) : x + 4294967296 * bor32 x y b = dif32 x y b + y + b := by
  unfold bor32 dif32; split <;> omega
theorem wdif {x y b : Nat} (hx : x < 4294967296) (hy : y < 4294967296) (hb : b ≤ 1) : IntKind.u32.wrap (-(b : Int) + x - y) = ((dif32 x y b : Nat) : Int) := by
  rw [IntKind.wrap_u32]; unfold dif32; omega
theorem sdif {x y b : Nat} (hx : x < 4294967296) (hy : y < 4294967296) (hb : b ≤ 1) : (-(b : Int) + x - y) / 4294967296 = -((bor32 x y b : Nat) : Int) := by
  unfold bor32; split <;> omega
theorem sub_round {l m zs : List Nat} {k n : Nat} (ol : Big.Ok M32 l) (om : Big.Ok M32 m) (hn : n ≤ 1)
    (h : zs.length = k ∧ Big.Ok M32 zs ∧ Big.val M32 zs + Big.val M32 (m.take k) = Big.val M32 (l.take k) + M32 ^ k * n) :
    (zs ++ [dif32 (Big.nth l k) (Big.nth m k) n]).length = k + 1 ∧ Big.Ok M32 (zs ++ [dif32 (Big.nth l k) (Big.nth m k) n]) ∧
      Big.val M32 (zs ++ [dif32 (Big.nth l k) (Big.nth m k) n]) + Big.val M32 (m.take (k + 1)) = Big.val M32 (l.take (k + 1)) + M32 ^ (k + 1) * bor32 (Big.nth l k) (Big.nth m k) n := by
  obtain ⟨h1, h2, h3⟩ := h
  have a := nth_lt ol k
  have b := nth_lt om k
  refine ⟨by simp [h1], h2.append (Big.Ok.cons (by rw [M32_eq]; exact dif32_lt _ _ _) Big.Ok.nil), ?_⟩
  rw [Big.val_take_succ', Big.val_take_succ']
  exact Big.sub_step h1 h3 (by have := dif_bor32 a b hn; rw [M32_eq]; omega)
set_option maxRecDepth 100000 in
set_option maxHeartbeats 1000000 in
theorem subWords_any (w : World) (v u : Value) (l m : List Nat) (h : Wd w .u32 v l) (k : Wd w .u32 u m) (ol : Big.Ok M32 l) (om : Big.Ok M32 m)
    (hl : l.length ≤ 100000000000) (hle : Big.val M32 m ≤ Big.val M32 l) (hlm : m.length ≤ l.length) :
    Calls Tryz.prog 204 #[v, u] w fun e w' => ∃ v', e = .returned v' ∧ Nin w' v' (Big.val M32 l - Big.val M32 m) ∧ Below w.heap.size w w' := by
  obtain ⟨A, c, rfl, h1, h2, h3⟩ := h
  obtain ⟨A2, c2, rfl, k1, k2, k3⟩ := k
  have OL := Lib.hid ol; have OM := Lib.hid om; have HLE := Lib.hid hle
  clear ol om hle
  have hmk := fun W => make32 l.length (by omega) W
  have HB0 := Lib.hid (Blk.new w 227 .u32 (List.replicate l.length 0))
  have HBel0 := Lib.hid ((Below.refl w.heap.size w).alloc (Nat.le_refl _) (.cells (cellsOf .u32 (List.replicate l.length 0)) 227))
  have HW1 := Lib.hid (show Wd w .u32 (.slice A l.length c) l from ⟨A, c, rfl, h1, h2, h3⟩)
  have HW2 := Lib.hid (show Wd w .u32 (.slice A2 m.length c2) m from ⟨A2, c2, rfl, k1, k2, k3⟩)
  clear h3 k3
  go_enter Tryz.func204, Tryz.ntmps204
  go_wp2_with fail
  go_loopw [6, 7] (fun o i wr => ∃ (k n : Nat) (q : Int) (zs : List Nat), k ≤ l.length ∧ i = .int .i64 k ∧ o = .int .i64 q ∧ -1 ≤ q ∧ q ≤ 0 ∧ n ≤ 1 ∧ Hid (q = -(n : Int)) ∧
      Hid (zs.length = k ∧ Big.Ok M32 zs ∧ Big.val M32 zs + Big.val M32 (m.take k) = Big.val M32 (l.take k) + M32 ^ k * n) ∧
      Hid (Blk wr w.heap.size 227 .u32 (zs ++ (List.replicate l.length 0).drop k)) ∧ Hid (Below w.heap.size w wr))
    (fun _ i _ => l.length - (intOf i).toNat)
  case atStart => exact ⟨0, 0, 0, [], by omega, rfl, rfl, by omega, by omega, by omega, Lib.hid rfl, Lib.hid ⟨rfl, Big.Ok.nil, by simp [Big.val]⟩, Lib.hid (by simpa using HB0.out), HBel0⟩
  case round =>
    obtain ⟨k, n, q, zs, hk, rfl, rfl, hq1, hq2, hn1, HQ, HZ, HB, HBel⟩ := hrel
    by_cases hlt : k < l.length
    · obtain ⟨A', c', e, x1, x2, x3⟩ := HW1.out
      cases e
      obtain ⟨b, o, rfl, hblt, hc, -⟩ := x3 (by omega)
      have hcell := (HBel.out.cell (p := ⟨b, o + k, none⟩) hblt).trans (hc k hlt)
      have hst := HB.out.cell k (by have := HZ.out.1; simp; omega)
      have hfr := HB.out.frozen k
      have R := sub_round OL.out OM.out hn1 HZ.out
      have hx := nth_lt OL.out k
      have hy := nth_lt OM.out k
      have hw := wdif hx hy hn1
      have hs := sdif hx hy hn1
      have hbb := bor32_le (Big.nth l k) (Big.nth m k) n
      rw [← HQ.out] at hw hs
      have HB' := Lib.hid (HB.out.set k (dif32 (Big.nth l k) (Big.nth m k) n))
      have ez := set_drop zs (List.replicate l.length 0) k (dif32 (Big.nth l k) (Big.nth m k) n) HZ.out.1 (by simp; omega)
      clear hc x3
      by_cases hlm2 : k < m.length
      · obtain ⟨A'', c'', e, y1, y2, y3⟩ := HW2.out
        cases e
        obtain ⟨b2, o2, rfl, hblt2, hc2, -⟩ := y3 (by omega)
        have hcell2 := (HBel.out.cell (p := ⟨b2, o2 + k, none⟩) hblt2).trans (hc2 k hlm2)
        clear hc2 y3
        generalize Big.nth l k = x at *
        generalize Big.nth m k = y at *
        generalize dif32 x y n = sv at *
        generalize bor32 x y n = tv at *
        have R1 := Lib.hid R
        have HE := Lib.hid ez
        have HS := Lib.hid hs
        have hq3 : -1 ≤ (q + x - y) / 4294967296 := by omega
        have hq4 : (q + x - y) / 4294967296 ≤ 0 := by omega
        obtain ⟨q', hq'⟩ : ∃ q', (q + (x : Int) - y) / 4294967296 = q' := ⟨_, rfl⟩
        rw [hq'] at HS hq3 hq4
        clear R ez hs
        go_wp2_with fail
        refine ⟨⟨k + 1, tv, q', zs ++ [sv], by omega, by go_num, rfl, hq3, hq4, hbb, HS, R1, Lib.hid ?_, Lib.hid ((HBel.out).setCell (Nat.le_refl _) _)⟩, by simp [intOf]; omega⟩
        have := HB'.out
        rw [HE.out] at this
        exact this
      · have hy0 : Big.nth m k = 0 := Big.nth_ge m k (by omega)
        rw [hy0] at R HB' ez hw hs hbb
        rw [show ((0 : Nat) : Int) = 0 from rfl, Int.sub_zero] at hw hs
        clear hy hy0
        generalize Big.nth l k = x at *
        generalize dif32 x 0 n = sv at *
        generalize bor32 x 0 n = tv at *
        have R1 := Lib.hid R
        have HE := Lib.hid ez
        have HS := Lib.hid hs
        have hq3 : -1 ≤ (q + x) / 4294967296 := by omega
        have hq4 : (q + x) / 4294967296 ≤ 0 := by omega
        obtain ⟨q', hq'⟩ : ∃ q', (q + (x : Int)) / 4294967296 = q' := ⟨_, rfl⟩
        rw [hq'] at HS hq3 hq4
        clear R ez hs
        go_wp2_with fail
        refine ⟨⟨k + 1, tv, q', zs ++ [sv], by omega, by go_num, rfl, hq3, hq4, hbb, HS, R1, Lib.hid ?_, Lib.hid ((HBel.out).setCell (Nat.le_refl _) _)⟩, by simp [intOf]; omega⟩
        have := HB'.out
        rw [HE.out] at this
        exact this
    · have hkl : k = l.length := by omega
      subst hkl
      have Z := HZ.out
      have hB1 := HB.out
      rw [show List.drop l.length (List.replicate l.length 0) = [] from List.drop_eq_nil_of_le (by simp), List.append_nil] at hB1
      have h2 := blk_wd0 hB1 l.length (by omega) (by omega)
      rw [Z.1] at h2
      have HT := Lib.hid (trim_any _ _ zs h2)
      clear h2 hB1 Z
      go_wp2_with fail
      refine HT.out.mono ?_
      rintro e w' ⟨v', rfl, hv', rfl⟩
      have HV := Lib.hid hv'
      clear hv'
      go_wp2
      go_ret
      have Z := HZ.out
      have e1 := Z.2.2
      rw [Big.val_take_all l _ (Nat.le_refl _), Big.val_take_all m _ (by omega)] at e1
      refine ⟨v', rfl, ?_, HBel.out⟩
      have := Nin.strip HV.out Z.2.1
      have hz := Big.val_lt zs Z.2.1
      have hlv := HLE.out
      have hn0 : n = 0 := by
        rcases Nat.eq_zero_or_pos n with h | h
        · exact h
        · exfalso
          have : n = 1 := by omega
          subst this
          rw [Z.1] at hz
          omega
      subst hn0
      rw [show Big.val M32 l - Big.val M32 m = Big.val M32 zs by omega]
      exact this
end R
end Go.Proofs.YtepnghhgmjobjaaGreatDoor
