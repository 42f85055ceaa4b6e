/- Contracts, in this order: ref90, ref00: numbers of 64 bits; bytes to a number. · ref90: numbers and fractions in memory, as what is known of  · exact: Sub, Quo, Cmp. · exact: Read, of what may not be. · The interpreter over numbers told by expressions of those ha · The interpreter over numbers told by expressions: reading wh · The interpreter over numbers told by expressions: package ex -/
import Derived.Test.YtepnghhgmjobjaaGreatDoorGw19
import Derived.Test.YtepnghhgmjobjaaGreatDoorGw08
import Derived.Lib.ConvBytes
import Derived.Laws.AppendOwn
import Derived.Lib.AtoiErrMem
import Derived.Test.YtepnghhgmjobjaaGreatDoorGw15
namespace Go.Proofs.YtepnghhgmjobjaaGreatDoor
namespace R
open Go.RowKit
theorem nin_stable {n : Nat} {w w' : World} {v : Value} (h : Nin w v n) (hk : ∀ (b : Nat) (c : Array Value) (t : TypeId) (z : Nat × Nat), w.heap[b]? = some (.cells c t z) → Nat.beq t 227 = true → w'.heap[b]? = some (.cells c t z)) : Nin w' v n := by
  obtain ⟨l, ⟨A, c, e, h1, h2, h3⟩, ol, nl, hv⟩ := h
  refine ⟨l, ⟨A, c, e, h1, h2, fun hp => ?_⟩, ol, nl, hv⟩
  obtain ⟨b, o, ea, hlt, hc, cs, hcs⟩ := h3 hp
  have hcs' := hk b cs _ _ hcs (Nat.beq_refl _)
  refine ⟨b, o, ea, (Array.getElem?_eq_some_iff.1 hcs').1, fun i hi => ?_, cs, hcs'⟩
  rw [← hc i hi]
  exact World.cell?_of_block (hcs'.trans hcs.symm)
theorem nin_set {w : World} {v x : Value} {n g o : Nat} {c : Array Value} {t : TypeId} {z : Nat × Nat} (h : Nin w v n) (hg : w.heap[g]? = some (.cells c t z)) (ht : Nat.beq t 227 = false) : Nin (w.setCell ⟨g, o, none⟩ x) v n :=
  nin_stable h fun b c' t' z' hb ht' => by
    have hne : g ≠ b := fun e => by
      subst e
      rw [hg] at hb
      simp only [Option.some.injEq, Obj.cells.injEq] at hb
      rw [← hb.2.1, ht] at ht'; cases ht'
    unfold World.setCell
    simp only [Array.getElem?_modify]
    rw [if_neg hne]; exact hb
theorem set_heap {w : World} {b o : Nat} {c : List Value} {t : TypeId} {v : Value} (h : w.heap[b]? = some (.cells ⟨c⟩ t (0, 0))) : (w.setCell ⟨b, o, none⟩ v).heap = w.heap.setIfInBounds b (.cells ⟨c.set o v⟩ t (0, 0)) := by
  apply Array.ext_getElem?
  intro i
  unfold World.setCell
  simp only [Array.getElem?_modify]
  by_cases hi : b = i
  · subst hi
    have hlt := (Array.getElem?_eq_some_iff.1 h).1
    rw [Array.getElem?_setIfInBounds_self_of_lt hlt]
    simp [h]
  · rw [if_neg hi, Array.getElem?_setIfInBounds_ne hi]
theorem cell_at {w : World} {b o : Nat} {c : List Value} {t : TypeId} {v : Value} {z : Nat × Nat} (h : w.heap[b]? = some (.cells ⟨c⟩ t z)) (hv : c[o]? = some v) : w.cell? ⟨b, o, none⟩ = some v := by
  unfold World.cell?
  simp only [h]
  simpa using hv
theorem frozen_at {w : World} {b o : Nat} {c : List Value} {t : TypeId} (h : w.heap[b]? = some (.cells ⟨c⟩ t (0, 0))) : w.frozen? ⟨b, o, none⟩ = false := by
  unfold World.frozen?
  simp [h]
theorem room_at {w : World} {b o : Nat} {c : List Value} {t : TypeId} (h : w.heap[b]? = some (.cells ⟨c⟩ t (0, 0))) (hl : o + 1 < c.length) : Room w b o :=
  ⟨⟨_, cell_at h (List.getElem?_eq_getElem (by omega))⟩, ⟨_, cell_at h (List.getElem?_eq_getElem hl)⟩, frozen_at h, frozen_at h⟩
def NewI (w : World) (b : Nat) (s : Bool) (n : Nat) (w' : World) : Prop :=
  w.heap.size ≤ b ∧ (∃ u, w'.heap[b]? = some (.cells ⟨[.bool s, u]⟩ 119 (0, 0)) ∧ Nin w' u n) ∧ Below w.heap.size w w'
theorem newI_of {w w0 w1 w' : World} {g n : Nat} {s : Bool} {u a b : Value} (h0 : Below w.heap.size w w0) (hg : w.heap.size ≤ g) (hb : w0.heap[g]? = some (.cells ⟨[a, b]⟩ 119 (0, 0)))
    (h1 : Below w0.heap.size w0 w1) (hu : Nin w1 u n) (e : w' = (w1.setCell ⟨g, 0, none⟩ (.bool s)).setCell ⟨g, 1, none⟩ u) : NewI w g s n w' := by
  subst e
  have hlt := (Array.getElem?_eq_some_iff.1 hb).1
  have hb1 : w1.heap[g]? = some (.cells ⟨[a, b]⟩ 119 (0, 0)) := (h1.block g hlt).trans hb
  have hB : Below w.heap.size w w1 := h0.trans (h1.mono h0.size)
  have hB2 : Below w.heap.size w ((w1.setCell ⟨g, 0, none⟩ (.bool s)).setCell ⟨g, 1, none⟩ u) := (hB.setCell hg _).setCell hg _
  have c1 : (w1.setCell ⟨g, 0, none⟩ (.bool s)).heap[g]? = some (.cells ⟨[.bool s, b]⟩ 119 (0, 0)) := by
    rw [set_heap (o := 0) (v := .bool s) hb1, Array.getElem?_setIfInBounds_self_of_lt (Array.getElem?_eq_some_iff.1 hb1).1]; rfl
  have c2 : ((w1.setCell ⟨g, 0, none⟩ (.bool s)).setCell ⟨g, 1, none⟩ u).heap[g]? = some (.cells ⟨[.bool s, u]⟩ 119 (0, 0)) := by
    rw [set_heap (o := 1) (v := u) c1, Array.getElem?_setIfInBounds_self_of_lt (Array.getElem?_eq_some_iff.1 c1).1]; rfl
  refine ⟨hg, ⟨u, c2, ?_⟩, hB2⟩
  exact nin_set (nin_set hu hb1 (by kernel_rfl)) c1 (by kernel_rfl)
set_option maxRecDepth 100000 in
theorem number_bad (w : World) (s : ByteArray) (h : mayB s = false) :
    Calls Tryz.prog 121 #[.string s] w fun e w' => e = .returned (.tuple #[.pointer none, .bool false]) ∧ w = w' := by
  by_cases h5 : s.size ≤ 512
  · by_cases h0 : s.size = 0
    · rw [empty_of h0] at h; cases h
    · have i1 : ¬ (s.size : Int) > 512 := by omega
      have p0 : 0 < s.size := by omega
      have i2 : (s.size : Int) > 0 := by omega
      have HD := (show ((s[0].toNat : Int) == 0) = true by
        unfold mayB at h
        rw [decide_eq_true h5, Bool.true_and, head_get p0, Bool.not_eq_false', beq_iff_eq, Option.some.injEq] at h
        rw [h]; rfl)
      have hne : ¬ s.toList = [] := by rw [ByteArray.toList_eq]; intro e; have := size_toList s; rw [e] at this; simp at this; omega
      have hne2 : s.toList.isEmpty = false := by rw [Bool.eq_false_iff]; intro e; exact hne (List.isEmpty_iff.1 e)
      clear h0 h
      go_enter Tryz.func121, Tryz.ntmps121
      go_wp2_with fail
      exact bodyPost_ret (v := .tuple #[.pointer none, .bool false]) (by simp [results, Tryz.results121, go_sem]) rfl ⟨rfl, rfl⟩
  · have i1 : (s.size : Int) > 512 := by omega
    clear h
    go_enter Tryz.func121, Tryz.ntmps121
    go_wp2_with fail
    exact bodyPost_ret (v := .tuple #[.pointer none, .bool false]) (by simp [results, Tryz.results121, go_sem]) rfl ⟨rfl, rfl⟩
theorem bytesWorld_bt (w : World) (s : ByteArray) (hs : s.size ≤ 512) :
    Bt (Lib.bytesWorld w 5 s) (.slice (some ⟨w.heap.size, 0, none⟩) s.size (grownCap w s.size 0 5)) s.data.toList := by
  have hl := size_toList s
  refine ⟨_, _, by rw [hl], by rw [hl]; exact grownCap_ge _ _ _ _, fun _ => ⟨w.heap.size, 0, rfl, by rw [Lib.bytesWorld_size]; omega, fun i hi => ?_, _, _, Lib.bytesWorld_at_new w 5 s⟩⟩
  rw [Nat.zero_add, Lib.bytesWorld_cell w 5 s i (by omega)]
  simp [List.getD, List.getElem?_eq_getElem hi]
theorem alloc_new (w : World) (c : List Value) (t : TypeId) : (w.alloc (.cells ⟨c⟩ t)).heap[w.heap.size]? = some (.cells ⟨c⟩ t (0, 0)) := by
  show (w.heap.push _)[w.heap.size]? = _
  simp
theorem alloc_below (w : World) (o : Obj) : Below w.heap.size w (w.alloc o) := (Below.refl w.heap.size w).alloc (Nat.le_refl _) o
theorem setNew (w : World) (s : ByteArray) (hs : s.size ≤ 512) :
    Calls Tryz.prog 195 #[.pointer (some ⟨w.heap.size, 0, none⟩), .slice (some ⟨w.heap.size + 1, 0, none⟩) s.size (grownCap (w.alloc (.cells #[.bool false, .slice none 0 0] 119)) s.size 0 5)]
      (Lib.bytesWorld (w.alloc (.cells #[.bool false, .slice none 0 0] 119)) 5 s) fun e w' => e = .returned (.pointer (some ⟨w.heap.size, 0, none⟩)) ∧ NewI w w.heap.size false (Big.bnum s.data.toList) w' := by
  have hnew := alloc_new w [.bool false, .slice none 0 0] 119
  have hb0 := alloc_below w (.cells #[.bool false, .slice none 0 0] 119)
  have hsz : (w.alloc (.cells #[.bool false, .slice none 0 0] 119)).heap.size = w.heap.size + 1 := by show (w.heap.push _).size = _; simp
  have hB := bytesWorld_bt (w.alloc (.cells #[.bool false, .slice none 0 0] 119)) s hs
  have hW := Lib.bytesWorld_below (w.alloc (.cells #[.bool false, .slice none 0 0] 119)) 5 s
  rw [hsz] at hB
  have hnew2 : (Lib.bytesWorld (w.alloc (.cells #[.bool false, .slice none 0 0] 119)) 5 s).heap[w.heap.size]? = some (.cells ⟨[.bool false, .slice none 0 0]⟩ 119 (0, 0)) :=
    (hW.block w.heap.size (by rw [hsz]; omega)).trans hnew
  refine (setBytes_any _ w.heap.size 0 _ _ hB (room_at hnew2 (by simp)) (by rw [size_toList]; omega)).mono ?_
  rintro e w' ⟨rfl, w1, u, h1, h2, h3⟩
  exact ⟨rfl, newI_of (hb0.trans (hW.mono hb0.size)) (Nat.le_refl _) hnew2 h1 h2 h3⟩
set_option maxRecDepth 100000 in
theorem number_ok (w : World) (n : Nat) (h : szN n ≤ 512) :
    Calls Tryz.prog 121 #[.string (bst n)] w fun e w' => ∃ b, e = .returned (.tuple #[.pointer (some ⟨b, 0, none⟩), .bool true]) ∧ NewI w b false n w' := by
  obtain ⟨s, hs⟩ : ∃ s, s = bst n := ⟨_, rfl⟩
  have hsz : s.size ≤ 512 := by rw [hs, bst_size]; exact h
  have HN := Lib.hid (show Big.bnum s.data.toList = n by rw [hs, bst_list, btx_num])
  have HL := Lib.hid (show s.data.toList.head? ≠ some 0 by rw [hs, bst_list]; exact btx_lead n)
  have HC := Lib.hid (setNew w s hsz)
  rw [HN.out] at HC
  rw [← hs]
  clear hs h
  have i1 : ¬ (s.size : Int) > 512 := by omega
  have hcv := fun W => Lib.run_convert_string_bytes (P := Tryz.prog) W 9 166 5 s (u := .string) Tryz.underlying9 Tryz.underlying166 Tryz.underlying5
  by_cases h0 : s.size = 0
  · have i2 : ¬ (s.size : Int) > 0 := by omega
    rw [h0] at HC
    go_enter Tryz.func121, Tryz.ntmps121
    go_wp2_with fail
    refine HC.out.mono ?_
    rintro e w2 ⟨rfl, h2⟩
    have H2 := Lib.hid h2
    clear h2
    go_wp2
    exact bodyPost_ret (v := .tuple #[.pointer (some ⟨w.heap.size, 0, none⟩), .bool true]) (by simp [results, Tryz.results121, go_sem]) rfl ⟨_, rfl, H2.out⟩
  · have p0 : 0 < s.size := by omega
    have i2 : (s.size : Int) > 0 := by omega
    have HD := (show ((s[0].toNat : Int) == 0) = false by
      have := HL.out
      rw [head_get p0] at this
      rw [beq_eq_false_iff_ne]
      intro e; exact this (by rw [Option.some.injEq]; apply UInt8.toNat_inj.1; show _ = 0; omega))
    have hne : ¬ s.toList = [] := by rw [ByteArray.toList_eq]; intro e; have := size_toList s; rw [e] at this; simp at this; omega
    have hne2 : s.toList.isEmpty = false := by rw [Bool.eq_false_iff]; intro e; exact hne (List.isEmpty_iff.1 e)
    go_enter Tryz.func121, Tryz.ntmps121
    go_wp2_with fail
    refine HC.out.mono ?_
    rintro e w2 ⟨rfl, h2⟩
    have H2 := Lib.hid h2
    clear h2
    go_wp2
    exact bodyPost_ret (v := .tuple #[.pointer (some ⟨w.heap.size, 0, none⟩), .bool true]) (by simp [results, Tryz.results121, go_sem]) rfl ⟨_, rfl, H2.out⟩
set_option maxRecDepth 100000 in
theorem setInt64_nat (w : World) (bz oz k : Nat) (hk : k < 9223372036854775808) (hz : Room w bz oz) : Calls Tryz.prog 190 #[.pointer (some ⟨bz, oz, none⟩), .int .i64 (k : Nat)] w (Put w bz oz false k) := by
  have i1 : ¬ (k : Int) < 0 := by omega
  have e1 : IntKind.u64.wrap (k : Int) = (k : Int) := by rw [IntKind.wrap_u64]; omega
  have e2 : IntKind.u32.wrap (k : Int) = ((k % 4294967296 : Nat) : Int) := by rw [IntKind.wrap_u32]; omega
  have e3 : IntKind.u32.wrap ((k : Int) / 4294967296) = ((k / 4294967296 : Nat) : Int) := by rw [IntKind.wrap_u32]; omega
  go_enter Tryz.func190, Tryz.ntmps190
  go_wp2_with fail
  have hW : Wd (w.alloc (.cells #[.int .u32 ((k : Int) % 4294967296), .int .u32 ((k : Int) / 4294967296)] 227)) .u32 (.slice (some ⟨w.heap.size, 0, none⟩) 2 2) [k % 4294967296, k / 4294967296] :=
    Wd.new 2 2 rfl (by simp) (by omega) (alloc_new w [.int .u32 ((k : Int) % 4294967296), .int .u32 ((k : Int) / 4294967296)] 227) (fun i hi => by
      have : i = 0 ∨ i = 1 := by simp at hi; omega
      rcases this with rfl | rfl
      · show some (Value.int .u32 ((k : Int) % 4294967296)) = some (.int .u32 ((k % 4294967296 : Nat) : Int))
        congr 2
      · show some (Value.int .u32 ((k : Int) / 4294967296)) = some (.int .u32 ((k / 4294967296 : Nat) : Int))
        congr 2)
  have hA := alloc_below w (.cells #[.int .u32 ((k : Int) % 4294967296), .int .u32 ((k : Int) / 4294967296)] 227)
  have hok : Big.Ok M32 [k % 4294967296, k / 4294967296] := by
    intro d hd
    simp only [List.mem_cons, List.not_mem_nil, or_false] at hd
    rw [M32_eq]
    omega
  have hval : Big.val M32 [k % 4294967296, k / 4294967296] = k := by
    simp only [Big.val, M32_eq]; omega
  have HZ := Lib.hid (hz.keep hA)
  have HA := Lib.hid hA
  have HT := Lib.hid (trim_any _ _ _ hW)
  clear hW hA hz
  generalize w.alloc (.cells #[.int .u32 ((k : Int) % 4294967296), .int .u32 ((k : Int) / 4294967296)] 227) = wa at *
  refine HT.out.mono ?_
  rintro e w1 ⟨v1, rfl, hv1, rfl⟩
  have HN := Lib.hid (hval ▸ Nin.strip hv1 hok)
  have HP := Lib.hid (put_any wa bz oz k false v1 HN.out HZ.out)
  clear hv1
  go_wp2_with fail
  refine HP.out.mono ?_
  rintro e w2 ⟨rfl, h2⟩
  have H2 := Lib.hid h2
  clear h2
  go_wp2
  go_ret
  exact ⟨rfl, wa, v1, HA.out, HN.out, H2.out.symm⟩
set_option maxRecDepth 100000 in
theorem newInt_nat (w : World) (k : Nat) (hk : k < 9223372036854775808) : Calls Tryz.prog 116 #[.int .i64 (k : Nat)] w fun e w' => ∃ b, e = .returned (.pointer (some ⟨b, 0, none⟩)) ∧ NewI w b false k w' := by
  have hnew := alloc_new w [.bool false, .slice none 0 0] 119
  have hb0 := alloc_below w (.cells #[.bool false, .slice none 0 0] 119)
  have HC := Lib.hid (setInt64_nat (w.alloc (.cells #[.bool false, .slice none 0 0] 119)) w.heap.size 0 k hk (room_at hnew (by simp)))
  have HN := Lib.hid hnew
  have HB := Lib.hid hb0
  clear hnew hb0
  go_enter Tryz.func116, Tryz.ntmps116
  go_wp2_with fail
  refine HC.out.mono ?_
  rintro e w2 ⟨rfl, w1, u, h1, h2, h3⟩
  have H := Lib.hid (newI_of HB.out (Nat.le_refl _) HN.out h1 h2 h3)
  clear h1 h2 h3
  go_wp2
  go_ret
  exact ⟨_, rfl, H.out⟩
set_option maxRecDepth 100000 in
theorem setInt64_neg (w : World) (bz oz k : Nat) (hk0 : 0 < k) (hk : k ≤ 9223372036854775808) (hz : Room w bz oz) : Calls Tryz.prog 190 #[.pointer (some ⟨bz, oz, none⟩), .int .i64 (-(k : Int))] w (Put w bz oz true k) := by
  have i1 : (-(k : Int)) < 0 := by omega
  have e0 : IntKind.u64.wrap (-(k : Int)) = 18446744073709551616 - (k : Int) := by rw [IntKind.wrap_u64]; omega
  have e1 : IntKind.u64.wrap (-(18446744073709551616 - (k : Int))) = (k : Int) := by rw [IntKind.wrap_u64]; omega
  have e2 : IntKind.u32.wrap (k : Int) = ((k % 4294967296 : Nat) : Int) := by rw [IntKind.wrap_u32]; omega
  have e3 : IntKind.u32.wrap ((k : Int) / 4294967296) = ((k / 4294967296 : Nat) : Int) := by rw [IntKind.wrap_u32]; omega
  go_enter Tryz.func190, Tryz.ntmps190
  go_wp2_with fail
  have hW : Wd (w.alloc (.cells #[.int .u32 ((k : Int) % 4294967296), .int .u32 ((k : Int) / 4294967296)] 227)) .u32 (.slice (some ⟨w.heap.size, 0, none⟩) 2 2) [k % 4294967296, k / 4294967296] :=
    Wd.new 2 2 rfl (by simp) (by omega) (alloc_new w [.int .u32 ((k : Int) % 4294967296), .int .u32 ((k : Int) / 4294967296)] 227) (fun i hi => by
      have : i = 0 ∨ i = 1 := by simp at hi; omega
      rcases this with rfl | rfl
      · show some (Value.int .u32 ((k : Int) % 4294967296)) = some (.int .u32 ((k % 4294967296 : Nat) : Int))
        congr 2
      · show some (Value.int .u32 ((k : Int) / 4294967296)) = some (.int .u32 ((k / 4294967296 : Nat) : Int))
        congr 2)
  have hA := alloc_below w (.cells #[.int .u32 ((k : Int) % 4294967296), .int .u32 ((k : Int) / 4294967296)] 227)
  have hok : Big.Ok M32 [k % 4294967296, k / 4294967296] := by
    intro d hd
    simp only [List.mem_cons, List.not_mem_nil, or_false] at hd
    rw [M32_eq]
    omega
  have hval : Big.val M32 [k % 4294967296, k / 4294967296] = k := by
    simp only [Big.val, M32_eq]; omega
  have HZ := Lib.hid (hz.keep hA)
  have HA := Lib.hid hA
  have HT := Lib.hid (trim_any _ _ _ hW)
  have HK := Lib.hid hk0
  clear hW hA hz hk0
  generalize w.alloc (.cells #[.int .u32 ((k : Int) % 4294967296), .int .u32 ((k : Int) / 4294967296)] 227) = wa at *
  refine HT.out.mono ?_
  rintro e w1 ⟨v1, rfl, hv1, rfl⟩
  have HN := Lib.hid (hval ▸ Nin.strip hv1 hok)
  have HP := Lib.hid (put_any wa bz oz k true v1 HN.out HZ.out)
  clear hv1
  go_wp2_with fail
  refine HP.out.mono ?_
  rintro e w2 ⟨rfl, h2⟩
  have H2 := Lib.hid h2
  clear h2
  go_wp2
  go_ret
  exact ⟨rfl, wa, v1, HA.out, HN.out, by have := H2.out; rw [decide_eq_true HK.out] at this; exact this.symm⟩
set_option maxRecDepth 100000 in
theorem newInt_any (w : World) (s : Bool) (k : Nat) (hs : s = true → 0 < k) (hk : k ≤ 9223372036854775808) (hk2 : s = false → k < 9223372036854775808) : Calls Tryz.prog 116 #[.int .i64 (Big.sI s k)] w fun e w' => ∃ b, e = .returned (.pointer (some ⟨b, 0, none⟩)) ∧ NewI w b s k w' := by
  cases s with
  | false => exact newInt_nat w k (hk2 rfl)
  | true =>
    show Calls Tryz.prog 116 #[.int .i64 (-(k : Int))] w _
    have hnew := alloc_new w [.bool false, .slice none 0 0] 119
    have hb0 := alloc_below w (.cells #[.bool false, .slice none 0 0] 119)
    have HC := Lib.hid (setInt64_neg (w.alloc (.cells #[.bool false, .slice none 0 0] 119)) w.heap.size 0 k (hs rfl) hk (room_at hnew (by simp)))
    have HN := Lib.hid hnew
    have HB := Lib.hid hb0
    clear hnew hb0
    go_enter Tryz.func116, Tryz.ntmps116
    go_wp2_with fail
    refine HC.out.mono ?_
    rintro e w2 ⟨rfl, w1, u, h1, h2, h3⟩
    have H := Lib.hid (newI_of HB.out (Nat.le_refl _) HN.out h1 h2 h3)
    clear h1 h2 h3
    go_wp2
    go_ret
    exact ⟨_, rfl, H.out⟩
end R
end Go.Proofs.YtepnghhgmjobjaaGreatDoor
namespace Go.Proofs.YtepnghhgmjobjaaGreatDoor
open Go Go.RowKit
namespace Ev
theorem nin_one {w : World} {v : Value} {n : Nat} (h : R.Nin w v n) : isOne v = true := by
  obtain ⟨a, k, c, rfl⟩ := R.nin_slice h; rfl
def RatIn (w : World) (v : Value) (q : Rat) : Prop := ∃ b, v = .pointer (some ⟨b, 0, none⟩) ∧ Tryz.prog.globals.size ≤ b ∧ ∃ u d, w.heap[b]? = some (.cells ⟨[.bool (Big.ng q), u, .bool false, d]⟩ 121 (0, 0)) ∧ R.Nin w u (Big.nu q) ∧ R.Nin w d (Big.de q)
def IntIn (w : World) (v : Value) (s : Bool) (n : Nat) : Prop := ∃ b, v = .pointer (some ⟨b, 0, none⟩) ∧ Tryz.prog.globals.size ≤ b ∧ ∃ u, w.heap[b]? = some (.cells ⟨[.bool s, u]⟩ 119 (0, 0)) ∧ R.Nin w u n
noncomputable def refHid (t : TypeId) : Bool := Nat.beq t 227 || (Nat.beq t 121 || Nat.beq t 119)
def KeepR (w w' : World) : Prop := ∀ (b : Nat) (c : Array Value) (t : TypeId) (z : Nat × Nat), w.heap[b]? = some (.cells c t z) → refHid t = true → w'.heap[b]? = some (.cells c t z)
theorem KeepR.words {w w' : World} (h : KeepR w w') : ∀ (b : Nat) (c : Array Value) (t : TypeId) (z : Nat × Nat), w.heap[b]? = some (.cells c t z) → Nat.beq t 227 = true → w'.heap[b]? = some (.cells c t z) :=
  fun b c t z h1 h2 => h b c t z h1 (by unfold refHid; rw [h2]; rfl)
theorem ratIn_stable {w w' : World} {v : Value} {q : Rat} (h : RatIn w v q) (hk : KeepR w w') : RatIn w' v q := by
  obtain ⟨b, rfl, hg, u, d, hb, hu, hd⟩ := h
  exact ⟨b, rfl, hg, u, d, hk _ _ _ _ hb (by kernel_rfl), R.nin_stable hu hk.words, R.nin_stable hd hk.words⟩
theorem intIn_stable {w w' : World} {v : Value} {s : Bool} {n : Nat} (h : IntIn w v s n) (hk : KeepR w w') : IntIn w' v s n := by
  obtain ⟨b, rfl, hg, u, hb, hu⟩ := h
  exact ⟨b, rfl, hg, u, hk _ _ _ _ hb (by kernel_rfl), R.nin_stable hu hk.words⟩
theorem Below.keepR {w w' : World} (h : Below w.heap.size w w') : KeepR w w' := fun b c t z h1 _ => (h.block b (Array.getElem?_eq_some_iff.1 h1).1).trans h1
theorem RatIn.keep {w w' : World} {v : Value} {q : Rat} (h : RatIn w v q) (hb : Below w.heap.size w w') : RatIn w' v q := ratIn_stable h (Below.keepR hb)
theorem IntIn.keep {w w' : World} {v : Value} {s : Bool} {n : Nat} (h : IntIn w v s n) (hb : Below w.heap.size w w') : IntIn w' v s n := intIn_stable h (Below.keepR hb)
theorem ratIn_one {w : World} {v : Value} {q : Rat} (h : RatIn w v q) : isOne v = true := by
  obtain ⟨b, rfl, _⟩ := h; rfl
theorem intIn_one {w : World} {v : Value} {s : Bool} {n : Nat} (h : IntIn w v s n) : isOne v = true := by
  obtain ⟨b, rfl, _⟩ := h; rfl
end Ev
end Go.Proofs.YtepnghhgmjobjaaGreatDoor
namespace Go.Proofs.YtepnghhgmjobjaaGreatDoor
open Go.RowKit
end Go.Proofs.YtepnghhgmjobjaaGreatDoor
namespace Go.Proofs.YtepnghhgmjobjaaGreatDoor
open Go.RowKit
def BadF (x : Bool × ByteArray × ByteArray) : Prop := ∀ q : Rat, Fit q → ¬ (x.1 = Big.ng q ∧ x.2.1 = bst (Big.nu q) ∧ x.2.2 = bst (Big.de q))
end Go.Proofs.YtepnghhgmjobjaaGreatDoor
namespace Go.Proofs.YtepnghhgmjobjaaGreatDoor
open Go Go.RowKit
namespace Ev
inductive Qe where
  | v (i : Nat)
  | c (s : Bool) (n d : Nat)
  | neg (a : Qe)
  | add (a b : Qe)
  | sub (a b : Qe)
  | mul (a b : Qe)
  | quo (a b : Qe)
def Qe.ev (ρ : Nat → Rat) : Qe → Rat
  | .v i => ρ i
  | .c s n d => mkRat (Big.sI s n) d
  | .neg a => -(a.ev ρ)
  | .add a b => a.ev ρ + b.ev ρ
  | .sub a b => a.ev ρ - b.ev ρ
  | .mul a b => a.ev ρ * b.ev ρ
  | .quo a b => a.ev ρ / b.ev ρ
noncomputable def beqB (a b : Bool) : Bool := Bool.rec (motive := fun _ => Bool) (Bool.rec (motive := fun _ => Bool) true false b) b a
theorem beqB_ok {a b : Bool} (h : beqB a b = true) : a = b := by cases a <;> cases b <;> first | rfl | (exact absurd h (by simp [beqB]))
noncomputable def Qe.beq : Qe → Qe → Bool := Qe.rec (motive := fun _ => Qe → Bool)
  (fun i y => match y with | .v j => Nat.beq i j | _ => false)
  (fun s n d y => match y with | .c s' n' d' => beqB s s' && (Nat.beq n n' && Nat.beq d d') | _ => false)
  (fun _ ih y => match y with | .neg b => ih b | _ => false)
  (fun _ _ iha ihb y => match y with | .add a b => iha a && ihb b | _ => false)
  (fun _ _ iha ihb y => match y with | .sub a b => iha a && ihb b | _ => false)
  (fun _ _ iha ihb y => match y with | .mul a b => iha a && ihb b | _ => false)
  (fun _ _ iha ihb y => match y with | .quo a b => iha a && ihb b | _ => false)
theorem Qe.beq_ok : ∀ (a b : Qe), a.beq b = true → a = b := by
  intro a
  induction a with
  | v i =>
    intro b h
    cases b with
    | v j => rw [Nat.eq_of_beq_eq_true (show Nat.beq i j = true from h)]
    | _ => exact absurd (show false = true from h) (by simp)
  | c s n d =>
    intro b h
    cases b with
    | c s' n' d' =>
      have h' : (beqB s s' && (Nat.beq n n' && Nat.beq d d')) = true := h
      simp only [Bool.and_eq_true] at h'
      rw [beqB_ok h'.1, Nat.eq_of_beq_eq_true h'.2.1, Nat.eq_of_beq_eq_true h'.2.2]
    | _ => exact absurd (show false = true from h) (by simp)
  | neg a ih =>
    intro b h
    cases b with
    | neg b => rw [ih b h]
    | _ => exact absurd (show false = true from h) (by simp)
  | add a b iha ihb =>
    intro y h
    cases y with
    | add a' b' =>
      have h' : (a.beq a' && b.beq b') = true := h
      simp only [Bool.and_eq_true] at h'
      rw [iha _ h'.1, ihb _ h'.2]
    | _ => exact absurd (show false = true from h) (by simp)
  | sub a b iha ihb =>
    intro y h
    cases y with
    | sub a' b' =>
      have h' : (a.beq a' && b.beq b') = true := h
      simp only [Bool.and_eq_true] at h'
      rw [iha _ h'.1, ihb _ h'.2]
    | _ => exact absurd (show false = true from h) (by simp)
  | mul a b iha ihb =>
    intro y h
    cases y with
    | mul a' b' =>
      have h' : (a.beq a' && b.beq b') = true := h
      simp only [Bool.and_eq_true] at h'
      rw [iha _ h'.1, ihb _ h'.2]
    | _ => exact absurd (show false = true from h) (by simp)
  | quo a b iha ihb =>
    intro y h
    cases y with
    | quo a' b' =>
      have h' : (a.beq a' && b.beq b') = true := h
      simp only [Bool.and_eq_true] at h'
      rw [iha _ h'.1, ihb _ h'.2]
    | _ => exact absurd (show false = true from h) (by simp)
noncomputable def Qe.bnd : Qe → Nat := Qe.rec (motive := fun _ => Nat)
  (fun i => cond (Nat.ble 100 i) 4096 64)
  (fun _ n d => Nat.add (Nat.add (Nat.div (Nat.log2 n) 64) (Nat.div (Nat.log2 d) 64)) 1)
  (fun _ a => a)
  (fun _ _ a b => Nat.succ (Nat.mul 2 (Nat.add a b)))
  (fun _ _ a b => Nat.succ (Nat.mul 2 (Nat.add a b)))
  (fun _ _ a b => Nat.add a b)
  (fun _ _ a b => Nat.add a b)
theorem Qe.bnd_pos : ∀ e : Qe, 1 ≤ e.bnd := by
  intro e
  induction e with
  | v i => show 1 ≤ cond (Nat.ble 100 i) 4096 64; cases Nat.ble 100 i <;> decide
  | c s n d => exact Nat.succ_le_succ (Nat.zero_le _)
  | neg a ih => exact ih
  | add a b _ _ => exact Nat.succ_le_succ (Nat.zero_le _)
  | sub a b _ _ => exact Nat.succ_le_succ (Nat.zero_le _)
  | mul a b iha _ => exact Nat.le_trans iha (Nat.le_add_right _ _)
  | quo a b iha _ => exact Nat.le_trans iha (Nat.le_add_right _ _)
theorem sm_zero {k : Nat} (hk : 1 ≤ k) : Sm k 0 := ⟨sz_zero.up (Nat.zero_le _), sz_one.up hk⟩
theorem sm_sub {k j : Nat} {q r : Rat} (h : Sm k q) (i : Sm j r) : Sm (2 * k + 2 * j + 1) (q - r) := by
  rw [Rat.sub_eq_add_neg]
  exact h.add i.neg
theorem Qe.sm {ρ : Nat → Rat} (hρ : ∀ i, i < 100 → Fit (ρ i)) (hβ : ∀ i, Sm 4096 (ρ i)) : ∀ e : Qe, Sm e.bnd (e.ev ρ) := by
  intro e
  induction e with
  | v i =>
    show Sm (cond (Nat.ble 100 i) 4096 64) (ρ i)
    cases hi : Nat.ble 100 i with
    | true => exact hβ i
    | false => exact (hρ i (by
        rcases Nat.lt_or_ge i 100 with h | h
        · exact h
        · rw [Nat.ble_eq_true_of_le h] at hi; cases hi)).sm
  | c s n d =>
    show Sm (Nat.div (Nat.log2 n) 64 + Nat.div (Nat.log2 d) 64 + 1) (mkRat (Big.sI s n) d)
    have e1 : Nat.div (Nat.log2 n) 64 = Nat.log2 n / 64 := rfl
    have e2 : Nat.div (Nat.log2 d) 64 = Nat.log2 d / 64 := rfl
    rw [e1, e2]
    rcases Nat.eq_zero_or_pos d with h0 | h0
    · subst h0
      rw [Rat.mkRat_zero]
      exact sm_zero (by omega)
    · obtain ⟨_, p2, p3⟩ := Big.of_parts s n d h0
      refine ⟨?_, ?_⟩
      · rw [p2]; exact (sz_log (k := Nat.log2 n / 64 + Nat.log2 d / 64 + 1) (by omega)).le (Nat.div_le_self _ _)
      · rw [p3]; exact (sz_log (k := Nat.log2 n / 64 + Nat.log2 d / 64 + 1) (by omega)).le (Nat.div_le_self _ _)
  | neg a ih => exact ih.neg
  | add a b iha ihb => exact (iha.add ihb).up (by show _ ≤ 2 * (a.bnd + b.bnd) + 1; omega)
  | sub a b iha ihb => exact (sm_sub iha ihb).up (by show _ ≤ 2 * (a.bnd + b.bnd) + 1; omega)
  | mul a b iha ihb => exact iha.mul ihb
  | quo a b iha ihb =>
    show Sm (a.bnd + b.bnd) (a.ev ρ / b.ev ρ)
    by_cases h0 : Big.nu (b.ev ρ) = 0
    · rw [Big.nu_zero.1 h0, Rat.div_def, Rat.inv_zero, Rat.mul_zero]
      exact sm_zero (Nat.le_trans a.bnd_pos (Nat.le_add_right _ _))
    · rw [Rat.div_def]
      exact iha.mul (ihb.inv h0)
structure Env where
  q : Nat → Rat
  raw : Nat → Bool × ByteArray × ByteArray
  fit : ∀ i, i < 100 → Fit (q i)
  big : ∀ i, Sm 4096 (q i)
  bad : ∀ i, BadF (raw i)
def Env.ofFit (q : Nat → Rat) (raw : Nat → Bool × ByteArray × ByteArray) (fit : ∀ i, Fit (q i)) (bad : ∀ i, BadF (raw i)) : Env := ⟨q, raw, fun i _ => fit i, fun i => (fit i).sm.up (by decide), bad⟩
inductive Sy where
  | n (n : Nat)
  | ng (e : Qe)
  | nu (e : Qe)
  | de (e : Qe)
  | fn (e : Qe)
  | fd (e : Qe)
  | rg (i : Nat)
  | rn (i : Nat)
  | rd (i : Nat)
  | it (e : Qe)
  | is (e : Qe)
  | lg (l : List Nat)
  | rt (e : Qe)
  | zt (e : Qe)
  | jk
def lenC (ρ : Env) (c : Nat) : Int := match c % 4 with
  | 0 => ((szN (Big.nu (ρ.q (c / 4))) : Nat) : Int)
  | 1 => ((szN (Big.de (ρ.q (c / 4))) : Nat) : Int)
  | 2 => (((ρ.raw (c / 4)).2.1.size : Nat) : Int)
  | _ => (((ρ.raw (c / 4)).2.2.size : Nat) : Int)
def lenSum (ρ : Env) : List Nat → Int
  | [] => 0
  | c :: l => match l with
    | [] => lenC ρ c
    | _ => IntKind.i64.wrap (lenSum ρ l + lenC ρ c)
structure I16 (q : Rat) : Prop where
  lo : -32768 ≤ q.num
  hi : q.num ≤ 32767
  den : q.den = 1
def Sy.holds (ρ : Env) : Sy → World → Value → Prop
  | .n k, w, v => NatIn w v k
  | .ng e, _, v => v = .bool (Big.ng (e.ev ρ.q))
  | .nu e, w, v => NatIn w v (Big.nu (e.ev ρ.q))
  | .de e, w, v => NatIn w v (Big.de (e.ev ρ.q))
  | .fn e, _, v => v = .string (bst (Big.nu (e.ev ρ.q)))
  | .fd e, _, v => v = .string (bst (Big.de (e.ev ρ.q)))
  | .rg i, _, v => v = .bool (ρ.raw i).1
  | .rn i, _, v => v = .string (ρ.raw i).2.1
  | .rd i, _, v => v = .string (ρ.raw i).2.2
  | .it e, _, v => v = .int .i64 (e.ev ρ.q).num
  | .is e, _, v => v = .int .i16 (e.ev ρ.q).num ∧ I16 (e.ev ρ.q)
  | .lg l, _, v => v = .int .i64 (lenSum ρ l)
  | .rt e, w, v => RatIn w v (e.ev ρ.q)
  | .zt e, w, v => IntIn w v (Big.ng (e.ev ρ.q)) (Big.nu (e.ev ρ.q)) ∧ Big.de (e.ev ρ.q) = 1
  | .jk, _, v => ∃ a, v = .pointer a
theorem Sy.one {ρ : Env} {f : Sy} {w : World} {v : Value} (h : f.holds ρ w v) : isOne v = true := by
  cases f <;> first | exact nat_one h | (rw [show v = _ from h]; rfl) | (rw [h.1]; rfl) | skip
  · exact ratIn_one h
  · exact intIn_one h.1
  · obtain ⟨a, rfl⟩ := h; rfl
noncomputable def symHid (t : TypeId) : Bool := natSig.hid t || refHid t
theorem symHid_nat {t : TypeId} (h : natSig.hid t = true) : symHid t = true := by unfold symHid; rw [h]; rfl
theorem symHid_ref {t : TypeId} (h : refHid t = true) : symHid t = true := by unfold symHid; rw [h, Bool.or_true]
noncomputable def symSig (ρ : Env) : Sig Sy where
  holds := Sy.holds ρ
  hid := symHid
  G := natSig.G
  base := natSig.base
  baseS := natSig.baseS
  stable := fun f _ _ _ h hk => by
    have hn := fun (b : Nat) (c : Array Value) (t : TypeId) (z : Nat × Nat) h1 h2 => hk b c t z h1 (symHid_nat h2)
    have hr : KeepR _ _ := fun b c t z h1 h2 => hk b c t z h1 (symHid_ref h2)
    cases f <;> first | exact nat_stable h hn | exact h | skip
    · exact ratIn_stable h hr
    · exact ⟨intIn_stable h.1 hr, h.2⟩
noncomputable def symLen : Sy → Option Nat
  | .n k => some (wordsN k)
  | _ => none
structure As where
  k : Nat
  a : Qe
  b : Qe
  t : Bool
def As.holds (ρ : Nat → Rat) (x : As) : Prop := match x.k with
  | 0 => x.t = true ↔ Fit (x.a.ev ρ)
  | 1 => x.t = true ↔ x.a.ev ρ = 0
  | 2 => x.t = true ↔ x.a.ev ρ = x.b.ev ρ
  | 5 => x.t = true → (x.b.ev ρ).num = (x.a.ev ρ).num.tmod 12
  | 6 => x.t = true → IntKind.i64.wrap ((x.a.ev ρ).num + (x.b.ev ρ).num) = ((Qe.add x.a x.b).ev ρ).num
  | _ => x.t = Big.ng (x.a.ev ρ)
def z0 : Qe := .v 0
noncomputable def ask (A : List As) (k : Nat) (a b : Qe) : Option Bool := List.rec (motive := fun _ => Option Bool) none
  (fun x _ ih => Bool.rec (motive := fun _ => Option Bool) ih (some x.t) (Nat.beq k x.k && (a.beq x.a && b.beq x.b))) A
theorem ask_ok {k : Nat} {a b : Qe} {t : Bool} : ∀ {A : List As}, ask A k a b = some t → ∃ x ∈ A, x.k = k ∧ x.a = a ∧ x.b = b ∧ x.t = t
  | [], h => by cases h
  | x :: A, h => by
    have h' : (Bool.rec (motive := fun _ => Option Bool) (ask A k a b) (some x.t) (Nat.beq k x.k && (a.beq x.a && b.beq x.b)) : Option Bool) = some t := h
    cases hb : (Nat.beq k x.k && (a.beq x.a && b.beq x.b)) with
    | false =>
      rw [hb] at h'
      obtain ⟨y, hy, r⟩ := ask_ok h'
      exact ⟨y, List.mem_cons_of_mem _ hy, r⟩
    | true =>
      rw [hb] at h'
      simp only [Bool.and_eq_true] at hb
      exact ⟨x, List.mem_cons_self, (Nat.eq_of_beq_eq_true hb.1).symm, (Qe.beq_ok _ _ hb.2.1).symm, (Qe.beq_ok _ _ hb.2.2).symm, Option.some.inj h'⟩
def AllH (ρ : Env) (A : List As) : Prop := ∀ x ∈ A, x.holds ρ.q
section
variable {ρ : Env} {A : List As} {a b : Qe} {t : Bool}
theorem ask_fit (hA : AllH ρ A) (h : ask A 0 a z0 = some t) : t = true ↔ Fit (a.ev ρ.q) := by
  obtain ⟨x, hx, h1, rfl, _, rfl⟩ := ask_ok h
  have := hA x hx
  unfold As.holds at this
  rw [h1] at this
  exact this
theorem ask_same (hA : AllH ρ A) (h : ask A 2 a b = some t) : t = true ↔ a.ev ρ.q = b.ev ρ.q := by
  obtain ⟨x, hx, h1, rfl, rfl, rfl⟩ := ask_ok h
  have := hA x hx
  unfold As.holds at this
  rw [h1] at this
  exact this
end
noncomputable def fitC (n d : Nat) : Bool := Nat.ble (szN n) 512 && Nat.ble (szN d) 512
theorem fit_c {s : Bool} {n d : Nat} (h : fitC n d = true) : Fit (mkRat (Big.sI s n) d) := by
  simp only [fitC, Bool.and_eq_true] at h
  have h1 := Nat.le_of_ble_eq_true h.1
  have h2 := Nat.le_of_ble_eq_true h.2
  rcases Nat.eq_zero_or_pos d with h0 | h0
  · subst h0
    rw [Rat.mkRat_zero]
    exact ⟨by decide, by decide⟩
  · obtain ⟨_, p2, p3⟩ := Big.of_parts s n d h0
    exact ⟨by rw [p2]; exact Nat.le_trans (szN_mono (Nat.div_le_self _ _)) h1, by rw [p3]; exact Nat.le_trans (szN_mono (Nat.div_le_self _ _)) h2⟩
noncomputable def fitB (A : List As) (e : Qe) : Option Bool := match ask A 0 e z0 with
  | some t => some t
  | none => match e with
    | .v i => cond (Nat.ble 100 i) none (some true)
    | .c _ n d => cond (fitC n d) (some true) none
    | _ => none
theorem fitB_ok {ρ : Env} {A : List As} (hA : AllH ρ A) {e : Qe} {t : Bool} (h : fitB A e = some t) : t = true ↔ Fit (e.ev ρ.q) := by
  unfold fitB at h
  cases ha : ask A 0 e z0 with
  | some u => rw [ha] at h; cases h; exact ask_fit hA ha
  | none =>
    rw [ha] at h
    cases e with
    | v i =>
      simp only at h
      cases hi : Nat.ble 100 i with
      | true => rw [hi] at h; cases h
      | false =>
        rw [hi] at h; cases h
        exact ⟨fun _ => ρ.fit i (by
          rcases Nat.lt_or_ge i 100 with h | h
          · exact h
          · rw [Nat.ble_eq_true_of_le h] at hi; cases hi), fun _ => rfl⟩
    | c s n d =>
      simp only at h
      cases hc : fitC n d with
      | false => rw [hc] at h; cases h
      | true => rw [hc] at h; cases h; exact ⟨fun _ => fit_c hc, fun _ => rfl⟩
    | _ => cases h
end Ev
end Go.Proofs.YtepnghhgmjobjaaGreatDoor
namespace Go.Proofs.YtepnghhgmjobjaaGreatDoor
open Go Go.RowKit
namespace Ev
section
variable {F : Type}
noncomputable def newFacts : List F → M F (List Value) := List.rec (motive := fun _ => M F (List Value)) (ret []) (fun f _ ih => bind (newFact f) fun x => bind ih fun l => ret (x :: l))
def HoldsL (S : Sig F) (w : World) : List F → List Value → Prop
  | [], us => us = []
  | f :: l, us => ∃ u us', us = u :: us' ∧ S.holds f w u ∧ isOne u = true ∧ HoldsL S w l us'
theorem loc_newFacts : ∀ l : List F, Loc (newFacts l)
  | [] => loc_ret _
  | f :: l => loc_bind (loc_newFact f) fun _ => loc_bind (loc_newFacts l) fun _ => loc_ret _
theorem newFacts_ok {S : Sig F} : ∀ (l : List F) {h h' : Tr (Blk F)} {nx nx' : Nat} {R W : List Nat} {vs : List Value} {r : Ren} {w : World} {us : List Value}, newFacts l h nx = .ok vs h' nx' R W → Mod S r h.get w → New r nx nx' → HoldsL S w l us →
    nx ≤ nx' ∧ ∃ r', Ext S r w nx nx' W h'.get r' w ∧ VsR r' vs us
  | [], h, h', nx, nx', R, W, vs, r, w, us, e, hM, hN, hu => by
    obtain ⟨rfl, rfl, rfl, rfl⟩ := ret_ok (show (ret [] : M F _) h nx = _ from e)
    obtain rfl : us = [] := hu
    exact ⟨Nat.le_refl _, r, Ext.refl _ _ hM, .nil⟩
  | f :: l, h, h', nx, nx', R, W, vs, r, w, us, e, hM, hN, hu => by
    obtain ⟨u, us', rfl, h1, ho, h2⟩ := hu
    obtain ⟨x, h3, nx3, R3, W3, R4, W4, e3, e4, rfl, rfl⟩ := bind_ok (show bind (newFact f) (fun x => bind (newFacts l) fun l => ret (x :: l)) h nx = _ from e)
    obtain ⟨i, h5, nx5, R5, W5, R6, W6, e5, e6, rfl, rfl⟩ := bind_ok e3
    obtain ⟨rfl, rfl, rfl, rfl⟩ := ret_ok e6
    unfold fresh at e5
    cases e5
    obtain ⟨xs, h7, nx7, R7, W7, R8, W8, e7, e8, rfl, rfl⟩ := bind_ok e4
    obtain ⟨rfl, rfl, rfl, rfl⟩ := ret_ok e8
    have hle : nx + 1 ≤ nx' := (loc_newFacts l).1 _ _ _ _ _ _ _ e7
    obtain ⟨r1, hX, hr⟩ := ext_fact (S := S) (f := f) hM (Below.refl _ w) (hN.sub (Nat.le_refl _) hle) h1 ho
    have hX' : Ext S r w nx (nx + 1) [] (h.set nx (.fact f)).get r1 w := hX.congr fun n => .inr (Tr.get_set _ _ _ _)
    obtain ⟨_, r2, hY, hs⟩ := newFacts_ok l e7 hX'.mod (New.after hN hX' (by omega)) h2
    refine ⟨by omega, r2, by simpa using hX'.trans hY (by omega) hle, .cons (.opq (hY.le.val _ _ hr) ho) hs⟩
theorem goes_agg {S : Sig F} {P : Program} {l : List F} {f : FuncId} {args' : List Value} {h h' : Tr (Blk F)} {nx nx' : Nat} {R W : List Nat} {r : Ren} {w : World} {v : Value}
    (e : (bind (newFacts l) fun vs => ret (.agg ⟨vs⟩) : M F Value) h nx = .ok v h' nx' R W) (hM : Mod S r h.get w) (hN : New r nx nx') (c : Calls P f ⟨args'⟩ w fun e w' => ∃ us, e = .returned (.agg ⟨us⟩) ∧ HoldsL S w' l us ∧ Below w.heap.size w w') :
    Calls P f ⟨args'⟩ w fun e w' => ∃ v' r', e = .returned v' ∧ VR r' v v' ∧ Ext S r w nx nx' W h'.get r' w' := by
  obtain ⟨vs, h1, nx1, R1, W1, R2, W2, e1, e2, rfl, rfl⟩ := bind_ok e
  obtain ⟨rfl, rfl, rfl, rfl⟩ := ret_ok e2
  refine c.mono ?_
  rintro en w' ⟨us, rfl, hu, hb⟩
  have hX := ext_below hM hb nx
  obtain ⟨hle, r', hY, hv⟩ := newFacts_ok l e1 hX.mod hN hu
  exact ⟨_, r', rfl, .agg hv, by simpa using hX.trans hY (Nat.le_refl _) hle⟩
theorem goes_pl {S : Sig F} {P : Program} {f : FuncId} {args' : List Value} {h h' : Tr (Blk F)} {nx nx' : Nat} {R W : List Nat} {r : Ren} {w : World} {u v : Value} (e : (ret u : M F Value) h nx = .ok v h' nx' R W) (hp : plain3 u = true) (hM : Mod S r h.get w)
    (c : Calls P f ⟨args'⟩ w fun e w' => e = .returned u ∧ Below w.heap.size w w') : Calls P f ⟨args'⟩ w fun e w' => ∃ v' r', e = .returned v' ∧ VR r' v v' ∧ Ext S r w nx nx' W h'.get r' w' := by
  obtain ⟨rfl, rfl, rfl, rfl⟩ := ret_ok e
  refine c.mono ?_
  rintro en w' ⟨rfl, hb⟩
  exact ⟨_, r, rfl, same3 hp, ext_below hM hb _⟩
end
noncomputable def getFn : Sy → Option Qe | .fn e => some e | _ => none
noncomputable def getFd : Sy → Option Qe | .fd e => some e | _ => none
noncomputable def getRn : Sy → Option Nat | .rn e => some e | _ => none
noncomputable def getRd : Sy → Option Nat | .rd e => some e | _ => none
noncomputable def knw {α : Type} (g : Sy → Option α) (v : Value) : M Sy α := bind (fact v) fun f => ofOpt (g f)
theorem loc_knw {α : Type} (g : Sy → Option α) (v : Value) : Loc (knw g v) := loc_bind (loc_fact v) fun _ => loc_opt _
section
variable {ρ : Env} {h h' : Tr (Blk Sy)} {nx nx' : Nat} {R W : List Nat} {r : Ren} {w : World}
theorem knw_ok {α : Type} {g : Sy → Option α} {v v' : Value} {x : α} (e : knw g v h nx = .ok x h' nx' R W) (hv : VR r v v') (hM : Mod (symSig ρ) r h.get w) : h' = h ∧ nx' = nx ∧ W = [] ∧ ∃ f, g f = some x ∧ f.holds ρ w v' := by
  obtain ⟨f, h1, nx1, R1, W1, R2, W2, e1, e2, rfl, rfl⟩ := bind_ok e
  obtain ⟨rfl, rfl, rfl, hh⟩ : h1 = h ∧ nx1 = nx ∧ W1 = [] ∧ (symSig ρ).holds f w v' := by
    have e1' : (fact v : M Sy Sy) h nx = .ok f h1 nx1 R1 W1 := e1
    exact fact_ok e1' hv hM
  cases hg : g f with
  | none => rw [hg] at e2; exact absurd e2 (by simp [ofOpt, fail])
  | some y =>
    rw [hg] at e2
    obtain ⟨rfl, rfl, rfl, rfl⟩ := ret_ok e2
    exact ⟨rfl, rfl, rfl, f, hg, hh⟩
theorem fn_of {f : Sy} {e : Qe} {v : Value} (hg : getFn f = some e) (h : f.holds ρ w v) : v = .string (bst (Big.nu (e.ev ρ.q))) := by cases f <;> simp [getFn] at hg; subst hg; exact h
theorem fd_of {f : Sy} {e : Qe} {v : Value} (hg : getFd f = some e) (h : f.holds ρ w v) : v = .string (bst (Big.de (e.ev ρ.q))) := by cases f <;> simp [getFd] at hg; subst hg; exact h
theorem rn_of {f : Sy} {e : Nat} {v : Value} (hg : getRn f = some e) (h : f.holds ρ w v) : v = .string (ρ.raw e).2.1 := by cases f <;> simp [getRn] at hg; subst hg; exact h
theorem rd_of {f : Sy} {e : Nat} {v : Value} (hg : getRd f = some e) (h : f.holds ρ w v) : v = .string (ρ.raw e).2.2 := by cases f <;> simp [getRd] at hg; subst hg; exact h
theorem vr_agg {l : List Value} {v' : Value} (h : VR r (.agg ⟨l⟩) v') : ∃ l', v' = .agg ⟨l'⟩ ∧ VsR r l l' := by
  cases h with
  | same p => simp [plain] at p
  | agg a => exact ⟨_, rfl, a⟩
end
section
variable {ρ : Env} {h h' : Tr (Blk Sy)} {nx nx' : Nat} {R W : List Nat} {r : Ren} {w : World}
theorem frac_holds (e : Qe) : HoldsL (symSig ρ) w [.ng e, .fn e, .fd e] [.bool (Big.ng (e.ev ρ.q)), .string (bst (Big.nu (e.ev ρ.q))), .string (bst (Big.de (e.ev ρ.q)))] :=
  ⟨_, _, rfl, rfl, rfl, _, _, rfl, rfl, rfl, _, _, rfl, rfl, rfl, rfl⟩
end
noncomputable def frc (a b : Value) (e : Qe) : M Sy (Option Qe) := bind (knw getFn a) fun e2 => bind (knw getFd b) fun e3 => cond (e.beq e2 && e.beq e3) (ret (some e)) fail
noncomputable def raw (a b : Value) (i : Nat) : M Sy (Option Qe) := bind (knw getRn a) fun j => bind (knw getRd b) fun k => cond (Nat.beq i j && Nat.beq i k) (ret none) fail
noncomputable def isB (n : Nat) (s : ByteArray) : Bool := eqL eqC (btx n) s.data.toList
noncomputable def cst (s : Bool) (a b : Value) : Option (Option Qe) := match a with
  | .string x => match b with
    | .string y => cond (Nat.ble y.size 0 && (Nat.ble x.size 0 && !s)) (some none)
        (cond (Nat.beq (Nat.gcd (Big.bnum x.data.toList) (Big.bnum y.data.toList)) 1 && (Nat.ble 1 (Big.bnum y.data.toList) && ((!s || Nat.ble 1 (Big.bnum x.data.toList)) && (isB (Big.bnum x.data.toList) x && isB (Big.bnum y.data.toList) y))))
          (some (some (.c s (Big.bnum x.data.toList) (Big.bnum y.data.toList)))) none)
    | _ => none
  | _ => none
noncomputable def frg (b c : Value) (f : Sy) : M Sy (Option Qe) := match f with
  | .ng e => frc b c e
  | .rg i => raw b c i
  | _ => fail
noncomputable def frcV (l : List Value) : M Sy (Option Qe) := match l with
  | [a, b, c] => match a with
    | .bool s => ofOpt (cst s b c)
    | a => bind (fact a) (frg b c)
  | _ => fail
theorem loc_frg (b c : Value) (f : Sy) : Loc (frg b c f) := by
  unfold frg frc raw
  split
  · exact loc_bind (loc_knw _ _) fun _ => loc_bind (loc_knw _ _) fun _ => loc_cond (loc_ret _) loc_fail
  · exact loc_bind (loc_knw _ _) fun _ => loc_bind (loc_knw _ _) fun _ => loc_cond (loc_ret _) loc_fail
  · exact loc_fail
theorem loc_frcV (l : List Value) : Loc (frcV l) := by
  unfold frcV
  split
  · split
    · exact loc_opt _
    · exact loc_bind (loc_fact _) fun _ => loc_frg _ _ _
  · exact loc_fail
theorem bad_zero : BadF (false, ⟨#[]⟩, ⟨#[]⟩) := by
  intro q _ ⟨_, _, h⟩
  have h1 : (⟨#[]⟩ : ByteArray).size = (bst (Big.de q)).size := congrArg ByteArray.size h
  have h2 := szN_pos (n := Big.de q) (by have := Big.de_pos q; omega)
  rw [bst_size] at h1
  have : (⟨#[]⟩ : ByteArray).size = 0 := rfl
  omega
def FrcIs (ρ : Env) (l' : List Value) : Option Qe → Prop
  | some e => l' = [.bool (Big.ng (e.ev ρ.q)), .string (bst (Big.nu (e.ev ρ.q))), .string (bst (Big.de (e.ev ρ.q)))]
  | none => ∃ x, BadF x ∧ l' = [.bool x.1, .string x.2.1, .string x.2.2]
theorem isB_ok {n : Nat} {s : ByteArray} (h : isB n s = true) : s = bst n := by
  have h1 := eqL_ok eqC_ok h
  obtain ⟨⟨l⟩⟩ := s
  unfold bst
  rw [h1]
theorem parts_c {s : Bool} {n d : Nat} (h1 : Nat.gcd n d = 1) (h2 : 1 ≤ d) (h3 : s = true → 1 ≤ n) : Big.ng (mkRat (Big.sI s n) d) = s ∧ Big.nu (mkRat (Big.sI s n) d) = n ∧ Big.de (mkRat (Big.sI s n) d) = d :=
  Big.parts h2 h1 h3 (show d ≠ 0 by omega) rfl rfl
theorem cst_ok {ρ : Env} {s : Bool} {a b : Value} {o : Option Qe} (h : cst s a b = some o) : FrcIs ρ [.bool s, a, b] o := by
  unfold cst at h
  cases a with
  | string x =>
    cases b with
    | string y =>
      simp only at h
      cases hz : (Nat.ble y.size 0 && (Nat.ble x.size 0 && !s)) with
      | true =>
        rw [hz] at h
        simp only [cond_true, Option.some.injEq] at h
        subst h
        simp only [Bool.and_eq_true, Bool.not_eq_true'] at hz
        have y0 := empty_of (Nat.le_zero.1 (Nat.le_of_ble_eq_true hz.1))
        have x0 := empty_of (Nat.le_zero.1 (Nat.le_of_ble_eq_true hz.2.1))
        have s0 := hz.2.2
        subst y0; subst x0; subst s0
        exact ⟨(false, ⟨#[]⟩, ⟨#[]⟩), bad_zero, rfl⟩
      | false =>
        rw [hz] at h
        simp only [cond_false] at h
        cases hk : (Nat.beq (Nat.gcd (Big.bnum x.data.toList) (Big.bnum y.data.toList)) 1 && (Nat.ble 1 (Big.bnum y.data.toList) && ((!s || Nat.ble 1 (Big.bnum x.data.toList)) && (isB (Big.bnum x.data.toList) x && isB (Big.bnum y.data.toList) y)))) with
        | false => rw [hk] at h; cases h
        | true =>
          rw [hk] at h
          simp only [cond_true, Option.some.injEq] at h
          subst h
          simp only [Bool.and_eq_true, Bool.or_eq_true, Bool.not_eq_true'] at hk
          obtain ⟨k1, k2, k3, k4, k5⟩ := hk
          obtain ⟨p1, p2, p3⟩ := parts_c (s := s) (Nat.eq_of_beq_eq_true k1) (Nat.le_of_ble_eq_true k2) (fun hs => by
            rcases k3 with k3 | k3
            · rw [hs] at k3; cases k3
            · exact Nat.le_of_ble_eq_true k3)
          show [Value.bool s, .string x, .string y] = [.bool (Big.ng (mkRat (Big.sI s (Big.bnum x.data.toList)) (Big.bnum y.data.toList))), .string (bst (Big.nu (mkRat (Big.sI s (Big.bnum x.data.toList)) (Big.bnum y.data.toList)))), .string (bst (Big.de (mkRat (Big.sI s (Big.bnum x.data.toList)) (Big.bnum y.data.toList))))]
          rw [p1, p2, p3, ← isB_ok k4, ← isB_ok k5]
    | _ => simp at h
  | _ => simp at h
section
variable {ρ : Env} {h h' : Tr (Blk Sy)} {nx nx' : Nat} {R W : List Nat} {r : Ren} {w : World}
theorem frg_ok {b c b' c' v : Value} {f : Sy} {o : Option Qe} (e : frg b c f h nx = .ok o h' nx' R W) (hb : VR r b b') (hc : VR r c c') (hf : f.holds ρ w v) (hM : Mod (symSig ρ) r h.get w) : h' = h ∧ nx' = nx ∧ W = [] ∧ FrcIs ρ [v, b', c'] o := by
  unfold frg at e
  cases f with
  | ng q =>
    obtain ⟨e2, h2, nx2, R3, W3, R4, W4, q3, q4, rfl, rfl⟩ := bind_ok (show frc b c q h nx = _ from e)
    obtain ⟨rfl, rfl, rfl, f2, g2, k2⟩ := knw_ok q3 hb hM
    obtain ⟨e3, h3, nx3, R5, W5, R6, W6, q5, q6, rfl, rfl⟩ := bind_ok q4
    obtain ⟨rfl, rfl, rfl, f3, g3, k3⟩ := knw_ok q5 hc hM
    obtain ⟨hbq, q7⟩ := cond_ok q6
    obtain ⟨rfl, rfl, rfl, rfl⟩ := ret_ok q7
    simp only [Bool.and_eq_true] at hbq
    have x2 := Qe.beq_ok _ _ hbq.1
    have x3 := Qe.beq_ok _ _ hbq.2
    subst x2; subst x3
    refine ⟨rfl, rfl, by simp, ?_⟩
    show [v, b', c'] = _
    rw [show v = .bool (Big.ng (q.ev ρ.q)) from hf, fn_of g2 k2, fd_of g3 k3]
  | rg i =>
    obtain ⟨e2, h2, nx2, R3, W3, R4, W4, q3, q4, rfl, rfl⟩ := bind_ok (show raw b c i h nx = _ from e)
    obtain ⟨rfl, rfl, rfl, f2, g2, k2⟩ := knw_ok q3 hb hM
    obtain ⟨e3, h3, nx3, R5, W5, R6, W6, q5, q6, rfl, rfl⟩ := bind_ok q4
    obtain ⟨rfl, rfl, rfl, f3, g3, k3⟩ := knw_ok q5 hc hM
    obtain ⟨hbq, q7⟩ := cond_ok q6
    obtain ⟨rfl, rfl, rfl, rfl⟩ := ret_ok q7
    simp only [Bool.and_eq_true] at hbq
    have x2 := Nat.eq_of_beq_eq_true hbq.1
    have x3 := Nat.eq_of_beq_eq_true hbq.2
    subst x2; subst x3
    refine ⟨rfl, rfl, by simp, ρ.raw i, ρ.bad i, ?_⟩
    rw [show v = .bool (ρ.raw i).1 from hf, rn_of g2 k2, rd_of g3 k3]
  | _ => exact absurd e (by simp [fail])
theorem frcV_ok {l l' : List Value} {o : Option Qe} (e : frcV l h nx = .ok o h' nx' R W) (hv : VsR r l l') (hM : Mod (symSig ρ) r h.get w) : h' = h ∧ nx' = nx ∧ W = [] ∧ FrcIs ρ l' o := by
  unfold frcV at e
  rcases l with _ | ⟨a, _ | ⟨b, _ | ⟨c, _ | ⟨d, l⟩⟩⟩⟩ <;> first | (cases (show (fail : M Sy (Option Qe)) h nx = _ from e); done) | skip
  cases hv with
  | cons ha hv => cases hv with
    | cons hb hv => cases hv with
      | cons hc hv =>
        cases hv
        simp only at e
        split at e
        · rename_i s
          cases hcs : cst s b c with
          | none => rw [hcs] at e; exact absurd e (by simp [ofOpt, fail])
          | some o2 =>
            rw [hcs] at e
            obtain ⟨rfl, rfl, rfl, rfl⟩ := ret_ok e
            refine ⟨rfl, rfl, rfl, ?_⟩
            rw [ha.bool]
            have hb2 : plain b = true ∧ plain c = true := by
              unfold cst at hcs
              cases b <;> simp at hcs <;> cases c <;> simp at hcs <;> exact ⟨rfl, rfl⟩
            rw [hb.eq_of_plain hb2.1, hc.eq_of_plain hb2.2]
            exact cst_ok hcs
        · obtain ⟨f, h1, nx1, R1, W1, R2, W2, q1, q2, rfl, rfl⟩ := bind_ok e
          obtain ⟨rfl, rfl, rfl, hf⟩ := fact_ok q1 ha hM
          obtain ⟨rfl, rfl, rfl, k⟩ := frg_ok q2 hb hc hf hM
          exact ⟨rfl, rfl, by simp, k⟩
end
end Ev
end Go.Proofs.YtepnghhgmjobjaaGreatDoor
namespace Go.Proofs.YtepnghhgmjobjaaGreatDoor
open Go Go.RowKit
namespace Ev
section
variable {ρ : Env} {A : List As}
def GoesS (ρ : Env) (f : FuncId) (args' : List Value) (r : Ren) (w : World) (nx nx' : Nat) (W : List Nat) (g' : Nat → Option (Blk Sy)) (v : Value) : Prop :=
  Calls Tryz.prog f ⟨args'⟩ w fun e w' => ∃ v' r', e = .returned v' ∧ VR r' v v' ∧ Ext (symSig ρ) r w nx nx' W g' r' w'
end
end Ev
end Go.Proofs.YtepnghhgmjobjaaGreatDoor
