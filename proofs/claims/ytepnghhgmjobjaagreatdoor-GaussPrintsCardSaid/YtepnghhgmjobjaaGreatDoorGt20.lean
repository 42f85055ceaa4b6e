/- Contracts, in this order: ref90, ref00: numbers of 64 bits; bytes to a number. · ref90: numbers and fractions in memory, as what is known of  · ref90: the bytes of a size. · Runs over ref90's numbers: expressions, what is known, and w · Runs over ref90's numbers: how many words, and whether that  · exact: Sub, Quo, Cmp. -/
import Derived.Test.YtepnghhgmjobjaaGreatDoorGt19
import Derived.Lib.ConvBytes
import Derived.Laws.AppendOwn
import Derived.Lib.AtoiErrMem
import Derived.Test.YtepnghhgmjobjaaGreatDoorGt15
import Derived.Test.YtepnghhgmjobjaaGreatDoorGt13
import Derived.Laws.MakeOwn
import Derived.Laws.BytesString
import Derived.Test.YtepnghhgmjobjaaGreatDoorGt14
namespace Go.Proofs.YtepnghhgmjobjaaGreatDoor
namespace R
open Go.RowKit
theorem nin_stable {n : Nat} {w w' : World} {v : Value} (h : Nin w v n) (hk : ∀ (b : Nat) (c : Array Value) (t : TypeId) (z : Nat × Nat), w.heap[b]? = some (.cells c t z) → Nat.beq t 227 = true → w'.heap[b]? = some (.cells c t z)) : Nin w' v n := by
  obtain ⟨l, ⟨A, c, e, h1, h2, h3⟩, ol, nl, hv⟩ := h
  refine ⟨l, ⟨A, c, e, h1, h2, fun hp => ?_⟩, ol, nl, hv⟩
  obtain ⟨b, o, ea, hlt, hc, cs, hcs⟩ := h3 hp
  have hcs' := hk b cs _ _ hcs (Nat.beq_refl _)
  refine ⟨b, o, ea, (Array.getElem?_eq_some_iff.1 hcs').1, fun i hi => ?_, cs, hcs'⟩
  rw [← hc i hi]
  exact World.cell?_of_block (hcs'.trans hcs.symm)
theorem nin_set {w : World} {v x : Value} {n g o : Nat} {c : Array Value} {t : TypeId} {z : Nat × Nat} (h : Nin w v n) (hg : w.heap[g]? = some (.cells c t z)) (ht : Nat.beq t 227 = false) : Nin (w.setCell ⟨g, o, none⟩ x) v n :=
  nin_stable h fun b c' t' z' hb ht' => by
    have hne : g ≠ b := fun e => by
      subst e
      rw [hg] at hb
      simp only [Option.some.injEq, Obj.cells.injEq] at hb
      rw [← hb.2.1, ht] at ht'; cases ht'
    unfold World.setCell
    simp only [Array.getElem?_modify]
    rw [if_neg hne]; exact hb
theorem set_heap {w : World} {b o : Nat} {c : List Value} {t : TypeId} {v : Value} (h : w.heap[b]? = some (.cells ⟨c⟩ t (0, 0))) : (w.setCell ⟨b, o, none⟩ v).heap = w.heap.setIfInBounds b (.cells ⟨c.set o v⟩ t (0, 0)) := by
  apply Array.ext_getElem?
  intro i
  unfold World.setCell
  simp only [Array.getElem?_modify]
  by_cases hi : b = i
  · subst hi
    have hlt := (Array.getElem?_eq_some_iff.1 h).1
    rw [Array.getElem?_setIfInBounds_self_of_lt hlt]
    simp [h]
  · rw [if_neg hi, Array.getElem?_setIfInBounds_ne hi]
theorem cell_at {w : World} {b o : Nat} {c : List Value} {t : TypeId} {v : Value} {z : Nat × Nat} (h : w.heap[b]? = some (.cells ⟨c⟩ t z)) (hv : c[o]? = some v) : w.cell? ⟨b, o, none⟩ = some v := by
  unfold World.cell?
  simp only [h]
  simpa using hv
theorem frozen_at {w : World} {b o : Nat} {c : List Value} {t : TypeId} (h : w.heap[b]? = some (.cells ⟨c⟩ t (0, 0))) : w.frozen? ⟨b, o, none⟩ = false := by
  unfold World.frozen?
  simp [h]
theorem room_at {w : World} {b o : Nat} {c : List Value} {t : TypeId} (h : w.heap[b]? = some (.cells ⟨c⟩ t (0, 0))) (hl : o + 1 < c.length) : Room w b o :=
  ⟨⟨_, cell_at h (List.getElem?_eq_getElem (by omega))⟩, ⟨_, cell_at h (List.getElem?_eq_getElem hl)⟩, frozen_at h, frozen_at h⟩
def NewI (w : World) (b : Nat) (s : Bool) (n : Nat) (w' : World) : Prop :=
  w.heap.size ≤ b ∧ (∃ u, w'.heap[b]? = some (.cells ⟨[.bool s, u]⟩ 119 (0, 0)) ∧ Nin w' u n) ∧ Below w.heap.size w w'
theorem newI_of {w w0 w1 w' : World} {g n : Nat} {s : Bool} {u a b : Value} (h0 : Below w.heap.size w w0) (hg : w.heap.size ≤ g) (hb : w0.heap[g]? = some (.cells ⟨[a, b]⟩ 119 (0, 0)))
    (h1 : Below w0.heap.size w0 w1) (hu : Nin w1 u n) (e : w' = (w1.setCell ⟨g, 0, none⟩ (.bool s)).setCell ⟨g, 1, none⟩ u) : NewI w g s n w' := by
  subst e
  have hlt := (Array.getElem?_eq_some_iff.1 hb).1
  have hb1 : w1.heap[g]? = some (.cells ⟨[a, b]⟩ 119 (0, 0)) := (h1.block g hlt).trans hb
  have hB : Below w.heap.size w w1 := h0.trans (h1.mono h0.size)
  have hB2 : Below w.heap.size w ((w1.setCell ⟨g, 0, none⟩ (.bool s)).setCell ⟨g, 1, none⟩ u) := (hB.setCell hg _).setCell hg _
  have c1 : (w1.setCell ⟨g, 0, none⟩ (.bool s)).heap[g]? = some (.cells ⟨[.bool s, b]⟩ 119 (0, 0)) := by
    rw [set_heap (o := 0) (v := .bool s) hb1, Array.getElem?_setIfInBounds_self_of_lt (Array.getElem?_eq_some_iff.1 hb1).1]; rfl
  have c2 : ((w1.setCell ⟨g, 0, none⟩ (.bool s)).setCell ⟨g, 1, none⟩ u).heap[g]? = some (.cells ⟨[.bool s, u]⟩ 119 (0, 0)) := by
    rw [set_heap (o := 1) (v := u) c1, Array.getElem?_setIfInBounds_self_of_lt (Array.getElem?_eq_some_iff.1 c1).1]; rfl
  refine ⟨hg, ⟨u, c2, ?_⟩, hB2⟩
  exact nin_set (nin_set hu hb1 (by kernel_rfl)) c1 (by kernel_rfl)
set_option maxRecDepth 100000 in
theorem number_bad (w : World) (s : ByteArray) (h : mayB s = false) :
    Calls Tryz.prog 121 #[.string s] w fun e w' => e = .returned (.tuple #[.pointer none, .bool false]) ∧ w = w' := by
  by_cases h5 : s.size ≤ 512
  · by_cases h0 : s.size = 0
    · rw [empty_of h0] at h; cases h
    · have i1 : ¬ (s.size : Int) > 512 := by omega
      have p0 : 0 < s.size := by omega
      have i2 : (s.size : Int) > 0 := by omega
      have HD := (show ((s[0].toNat : Int) == 0) = true by
        unfold mayB at h
        rw [decide_eq_true h5, Bool.true_and, head_get p0, Bool.not_eq_false', beq_iff_eq, Option.some.injEq] at h
        rw [h]; rfl)
      have hne : ¬ s.toList = [] := by rw [ByteArray.toList_eq]; intro e; have := size_toList s; rw [e] at this; simp at this; omega
      have hne2 : s.toList.isEmpty = false := by rw [Bool.eq_false_iff]; intro e; exact hne (List.isEmpty_iff.1 e)
      clear h0 h
      go_enter Tryz.func121, Tryz.ntmps121
      go_wp2_with fail
      exact bodyPost_ret (v := .tuple #[.pointer none, .bool false]) (by simp [results, Tryz.results121, go_sem]) rfl ⟨rfl, rfl⟩
  · have i1 : (s.size : Int) > 512 := by omega
    clear h
    go_enter Tryz.func121, Tryz.ntmps121
    go_wp2_with fail
    exact bodyPost_ret (v := .tuple #[.pointer none, .bool false]) (by simp [results, Tryz.results121, go_sem]) rfl ⟨rfl, rfl⟩
theorem bytesWorld_bt (w : World) (s : ByteArray) (hs : s.size ≤ 512) :
    Bt (Lib.bytesWorld w 5 s) (.slice (some ⟨w.heap.size, 0, none⟩) s.size (grownCap w s.size 0 5)) s.data.toList := by
  have hl := size_toList s
  refine ⟨_, _, by rw [hl], by rw [hl]; exact grownCap_ge _ _ _ _, fun _ => ⟨w.heap.size, 0, rfl, by rw [Lib.bytesWorld_size]; omega, fun i hi => ?_, _, _, Lib.bytesWorld_at_new w 5 s⟩⟩
  rw [Nat.zero_add, Lib.bytesWorld_cell w 5 s i (by omega)]
  simp [List.getD, List.getElem?_eq_getElem hi]
theorem alloc_new (w : World) (c : List Value) (t : TypeId) : (w.alloc (.cells ⟨c⟩ t)).heap[w.heap.size]? = some (.cells ⟨c⟩ t (0, 0)) := by
  show (w.heap.push _)[w.heap.size]? = _
  simp
theorem alloc_below (w : World) (o : Obj) : Below w.heap.size w (w.alloc o) := (Below.refl w.heap.size w).alloc (Nat.le_refl _) o
theorem setNew (w : World) (s : ByteArray) (hs : s.size ≤ 512) :
    Calls Tryz.prog 195 #[.pointer (some ⟨w.heap.size, 0, none⟩), .slice (some ⟨w.heap.size + 1, 0, none⟩) s.size (grownCap (w.alloc (.cells #[.bool false, .slice none 0 0] 119)) s.size 0 5)]
      (Lib.bytesWorld (w.alloc (.cells #[.bool false, .slice none 0 0] 119)) 5 s) fun e w' => e = .returned (.pointer (some ⟨w.heap.size, 0, none⟩)) ∧ NewI w w.heap.size false (Big.bnum s.data.toList) w' := by
  have hnew := alloc_new w [.bool false, .slice none 0 0] 119
  have hb0 := alloc_below w (.cells #[.bool false, .slice none 0 0] 119)
  have hsz : (w.alloc (.cells #[.bool false, .slice none 0 0] 119)).heap.size = w.heap.size + 1 := by show (w.heap.push _).size = _; simp
  have hB := bytesWorld_bt (w.alloc (.cells #[.bool false, .slice none 0 0] 119)) s hs
  have hW := Lib.bytesWorld_below (w.alloc (.cells #[.bool false, .slice none 0 0] 119)) 5 s
  rw [hsz] at hB
  have hnew2 : (Lib.bytesWorld (w.alloc (.cells #[.bool false, .slice none 0 0] 119)) 5 s).heap[w.heap.size]? = some (.cells ⟨[.bool false, .slice none 0 0]⟩ 119 (0, 0)) :=
    (hW.block w.heap.size (by rw [hsz]; omega)).trans hnew
  refine (setBytes_any _ w.heap.size 0 _ _ hB (room_at hnew2 (by simp)) (by rw [size_toList]; omega)).mono ?_
  rintro e w' ⟨rfl, w1, u, h1, h2, h3⟩
  exact ⟨rfl, newI_of (hb0.trans (hW.mono hb0.size)) (Nat.le_refl _) hnew2 h1 h2 h3⟩
set_option maxRecDepth 100000 in
theorem number_ok (w : World) (n : Nat) (h : szN n ≤ 512) :
    Calls Tryz.prog 121 #[.string (bst n)] w fun e w' => ∃ b, e = .returned (.tuple #[.pointer (some ⟨b, 0, none⟩), .bool true]) ∧ NewI w b false n w' := by
  obtain ⟨s, hs⟩ : ∃ s, s = bst n := ⟨_, rfl⟩
  have hsz : s.size ≤ 512 := by rw [hs, bst_size]; exact h
  have HN := Lib.hid (show Big.bnum s.data.toList = n by rw [hs, bst_list, btx_num])
  have HL := Lib.hid (show s.data.toList.head? ≠ some 0 by rw [hs, bst_list]; exact btx_lead n)
  have HC := Lib.hid (setNew w s hsz)
  rw [HN.out] at HC
  rw [← hs]
  clear hs h
  have i1 : ¬ (s.size : Int) > 512 := by omega
  have hcv := fun W => Lib.run_convert_string_bytes (P := Tryz.prog) W 9 166 5 s (u := .string) Tryz.underlying9 Tryz.underlying166 Tryz.underlying5
  by_cases h0 : s.size = 0
  · have i2 : ¬ (s.size : Int) > 0 := by omega
    rw [h0] at HC
    go_enter Tryz.func121, Tryz.ntmps121
    go_wp2_with fail
    refine HC.out.mono ?_
    rintro e w2 ⟨rfl, h2⟩
    have H2 := Lib.hid h2
    clear h2
    go_wp2
    exact bodyPost_ret (v := .tuple #[.pointer (some ⟨w.heap.size, 0, none⟩), .bool true]) (by simp [results, Tryz.results121, go_sem]) rfl ⟨_, rfl, H2.out⟩
  · have p0 : 0 < s.size := by omega
    have i2 : (s.size : Int) > 0 := by omega
    have HD := (show ((s[0].toNat : Int) == 0) = false by
      have := HL.out
      rw [head_get p0] at this
      rw [beq_eq_false_iff_ne]
      intro e; exact this (by rw [Option.some.injEq]; apply UInt8.toNat_inj.1; show _ = 0; omega))
    have hne : ¬ s.toList = [] := by rw [ByteArray.toList_eq]; intro e; have := size_toList s; rw [e] at this; simp at this; omega
    have hne2 : s.toList.isEmpty = false := by rw [Bool.eq_false_iff]; intro e; exact hne (List.isEmpty_iff.1 e)
    go_enter Tryz.func121, Tryz.ntmps121
    go_wp2_with fail
    refine HC.out.mono ?_
    rintro e w2 ⟨rfl, h2⟩
    have H2 := Lib.hid h2
    clear h2
    go_wp2
    exact bodyPost_ret (v := .tuple #[.pointer (some ⟨w.heap.size, 0, none⟩), .bool true]) (by simp [results, Tryz.results121, go_sem]) rfl ⟨_, rfl, H2.out⟩
set_option maxRecDepth 100000 in
theorem setInt64_nat (w : World) (bz oz k : Nat) (hk : k < 9223372036854775808) (hz : Room w bz oz) : Calls Tryz.prog 190 #[.pointer (some ⟨bz, oz, none⟩), .int .i64 (k : Nat)] w (Put w bz oz false k) := by
  have i1 : ¬ (k : Int) < 0 := by omega
  have e1 : IntKind.u64.wrap (k : Int) = (k : Int) := by rw [IntKind.wrap_u64]; omega
  have e2 : IntKind.u32.wrap (k : Int) = ((k % 4294967296 : Nat) : Int) := by rw [IntKind.wrap_u32]; omega
  have e3 : IntKind.u32.wrap ((k : Int) / 4294967296) = ((k / 4294967296 : Nat) : Int) := by rw [IntKind.wrap_u32]; omega
  go_enter Tryz.func190, Tryz.ntmps190
  go_wp2_with fail
  have hW : Wd (w.alloc (.cells #[.int .u32 ((k : Int) % 4294967296), .int .u32 ((k : Int) / 4294967296)] 227)) .u32 (.slice (some ⟨w.heap.size, 0, none⟩) 2 2) [k % 4294967296, k / 4294967296] :=
    Wd.new 2 2 rfl (by simp) (by omega) (alloc_new w [.int .u32 ((k : Int) % 4294967296), .int .u32 ((k : Int) / 4294967296)] 227) (fun i hi => by
      have : i = 0 ∨ i = 1 := by simp at hi; omega
      rcases this with rfl | rfl
      · show some (Value.int .u32 ((k : Int) % 4294967296)) = some (.int .u32 ((k % 4294967296 : Nat) : Int))
        congr 2
      · show some (Value.int .u32 ((k : Int) / 4294967296)) = some (.int .u32 ((k / 4294967296 : Nat) : Int))
        congr 2)
  have hA := alloc_below w (.cells #[.int .u32 ((k : Int) % 4294967296), .int .u32 ((k : Int) / 4294967296)] 227)
  have hok : Big.Ok M32 [k % 4294967296, k / 4294967296] := by
    intro d hd
    simp only [List.mem_cons, List.not_mem_nil, or_false] at hd
    rw [M32_eq]
    omega
  have hval : Big.val M32 [k % 4294967296, k / 4294967296] = k := by
    simp only [Big.val, M32_eq]; omega
  have HZ := Lib.hid (hz.keep hA)
  have HA := Lib.hid hA
  have HT := Lib.hid (trim_any _ _ _ hW)
  clear hW hA hz
  generalize w.alloc (.cells #[.int .u32 ((k : Int) % 4294967296), .int .u32 ((k : Int) / 4294967296)] 227) = wa at *
  refine HT.out.mono ?_
  rintro e w1 ⟨v1, rfl, hv1, rfl⟩
  have HN := Lib.hid (hval ▸ Nin.strip hv1 hok)
  have HP := Lib.hid (put_any wa bz oz k false v1 HN.out HZ.out)
  clear hv1
  go_wp2_with fail
  refine HP.out.mono ?_
  rintro e w2 ⟨rfl, h2⟩
  have H2 := Lib.hid h2
  clear h2
  go_wp2
  go_ret
  exact ⟨rfl, wa, v1, HA.out, HN.out, H2.out.symm⟩
set_option maxRecDepth 100000 in
theorem newInt_nat (w : World) (k : Nat) (hk : k < 9223372036854775808) : Calls Tryz.prog 116 #[.int .i64 (k : Nat)] w fun e w' => ∃ b, e = .returned (.pointer (some ⟨b, 0, none⟩)) ∧ NewI w b false k w' := by
  have hnew := alloc_new w [.bool false, .slice none 0 0] 119
  have hb0 := alloc_below w (.cells #[.bool false, .slice none 0 0] 119)
  have HC := Lib.hid (setInt64_nat (w.alloc (.cells #[.bool false, .slice none 0 0] 119)) w.heap.size 0 k hk (room_at hnew (by simp)))
  have HN := Lib.hid hnew
  have HB := Lib.hid hb0
  clear hnew hb0
  go_enter Tryz.func116, Tryz.ntmps116
  go_wp2_with fail
  refine HC.out.mono ?_
  rintro e w2 ⟨rfl, w1, u, h1, h2, h3⟩
  have H := Lib.hid (newI_of HB.out (Nat.le_refl _) HN.out h1 h2 h3)
  clear h1 h2 h3
  go_wp2
  go_ret
  exact ⟨_, rfl, H.out⟩
set_option maxRecDepth 100000 in
theorem setInt64_neg (w : World) (bz oz k : Nat) (hk0 : 0 < k) (hk : k ≤ 9223372036854775808) (hz : Room w bz oz) : Calls Tryz.prog 190 #[.pointer (some ⟨bz, oz, none⟩), .int .i64 (-(k : Int))] w (Put w bz oz true k) := by
  have i1 : (-(k : Int)) < 0 := by omega
  have e0 : IntKind.u64.wrap (-(k : Int)) = 18446744073709551616 - (k : Int) := by rw [IntKind.wrap_u64]; omega
  have e1 : IntKind.u64.wrap (-(18446744073709551616 - (k : Int))) = (k : Int) := by rw [IntKind.wrap_u64]; omega
  have e2 : IntKind.u32.wrap (k : Int) = ((k % 4294967296 : Nat) : Int) := by rw [IntKind.wrap_u32]; omega
  have e3 : IntKind.u32.wrap ((k : Int) / 4294967296) = ((k / 4294967296 : Nat) : Int) := by rw [IntKind.wrap_u32]; omega
  go_enter Tryz.func190, Tryz.ntmps190
  go_wp2_with fail
  have hW : Wd (w.alloc (.cells #[.int .u32 ((k : Int) % 4294967296), .int .u32 ((k : Int) / 4294967296)] 227)) .u32 (.slice (some ⟨w.heap.size, 0, none⟩) 2 2) [k % 4294967296, k / 4294967296] :=
    Wd.new 2 2 rfl (by simp) (by omega) (alloc_new w [.int .u32 ((k : Int) % 4294967296), .int .u32 ((k : Int) / 4294967296)] 227) (fun i hi => by
      have : i = 0 ∨ i = 1 := by simp at hi; omega
      rcases this with rfl | rfl
      · show some (Value.int .u32 ((k : Int) % 4294967296)) = some (.int .u32 ((k % 4294967296 : Nat) : Int))
        congr 2
      · show some (Value.int .u32 ((k : Int) / 4294967296)) = some (.int .u32 ((k / 4294967296 : Nat) : Int))
        congr 2)
  have hA := alloc_below w (.cells #[.int .u32 ((k : Int) % 4294967296), .int .u32 ((k : Int) / 4294967296)] 227)
  have hok : Big.Ok M32 [k % 4294967296, k / 4294967296] := by
    intro d hd
    simp only [List.mem_cons, List.not_mem_nil, or_false] at hd
    rw [M32_eq]
    omega
  have hval : Big.val M32 [k % 4294967296, k / 4294967296] = k := by
    simp only [Big.val, M32_eq]; omega
  have HZ := Lib.hid (hz.keep hA)
  have HA := Lib.hid hA
  have HT := Lib.hid (trim_any _ _ _ hW)
  have HK := Lib.hid hk0
  clear hW hA hz hk0
  generalize w.alloc (.cells #[.int .u32 ((k : Int) % 4294967296), .int .u32 ((k : Int) / 4294967296)] 227) = wa at *
  refine HT.out.mono ?_
  rintro e w1 ⟨v1, rfl, hv1, rfl⟩
  have HN := Lib.hid (hval ▸ Nin.strip hv1 hok)
  have HP := Lib.hid (put_any wa bz oz k true v1 HN.out HZ.out)
  clear hv1
  go_wp2_with fail
  refine HP.out.mono ?_
  rintro e w2 ⟨rfl, h2⟩
  have H2 := Lib.hid h2
  clear h2
  go_wp2
  go_ret
  exact ⟨rfl, wa, v1, HA.out, HN.out, by have := H2.out; rw [decide_eq_true HK.out] at this; exact this.symm⟩
set_option maxRecDepth 100000 in
theorem newInt_any (w : World) (s : Bool) (k : Nat) (hs : s = true → 0 < k) (hk : k ≤ 9223372036854775808) (hk2 : s = false → k < 9223372036854775808) : Calls Tryz.prog 116 #[.int .i64 (Big.sI s k)] w fun e w' => ∃ b, e = .returned (.pointer (some ⟨b, 0, none⟩)) ∧ NewI w b s k w' := by
  cases s with
  | false => exact newInt_nat w k (hk2 rfl)
  | true =>
    show Calls Tryz.prog 116 #[.int .i64 (-(k : Int))] w _
    have hnew := alloc_new w [.bool false, .slice none 0 0] 119
    have hb0 := alloc_below w (.cells #[.bool false, .slice none 0 0] 119)
    have HC := Lib.hid (setInt64_neg (w.alloc (.cells #[.bool false, .slice none 0 0] 119)) w.heap.size 0 k (hs rfl) hk (room_at hnew (by simp)))
    have HN := Lib.hid hnew
    have HB := Lib.hid hb0
    clear hnew hb0
    go_enter Tryz.func116, Tryz.ntmps116
    go_wp2_with fail
    refine HC.out.mono ?_
    rintro e w2 ⟨rfl, w1, u, h1, h2, h3⟩
    have H := Lib.hid (newI_of HB.out (Nat.le_refl _) HN.out h1 h2 h3)
    clear h1 h2 h3
    go_wp2
    go_ret
    exact ⟨_, rfl, H.out⟩
end R
end Go.Proofs.YtepnghhgmjobjaaGreatDoor
namespace Go.Proofs.YtepnghhgmjobjaaGreatDoor
open Go Go.RowKit
namespace Ev
theorem nin_one {w : World} {v : Value} {n : Nat} (h : R.Nin w v n) : isOne v = true := by
  obtain ⟨a, k, c, rfl⟩ := R.nin_slice h; rfl
def RatIn (w : World) (v : Value) (q : Rat) : Prop := ∃ b, v = .pointer (some ⟨b, 0, none⟩) ∧ Tryz.prog.globals.size ≤ b ∧ ∃ u d, w.heap[b]? = some (.cells ⟨[.bool (Big.ng q), u, .bool false, d]⟩ 121 (0, 0)) ∧ R.Nin w u (Big.nu q) ∧ R.Nin w d (Big.de q)
def IntIn (w : World) (v : Value) (s : Bool) (n : Nat) : Prop := ∃ b, v = .pointer (some ⟨b, 0, none⟩) ∧ Tryz.prog.globals.size ≤ b ∧ ∃ u, w.heap[b]? = some (.cells ⟨[.bool s, u]⟩ 119 (0, 0)) ∧ R.Nin w u n
noncomputable def refHid (t : TypeId) : Bool := Nat.beq t 227 || (Nat.beq t 121 || Nat.beq t 119)
def KeepR (w w' : World) : Prop := ∀ (b : Nat) (c : Array Value) (t : TypeId) (z : Nat × Nat), w.heap[b]? = some (.cells c t z) → refHid t = true → w'.heap[b]? = some (.cells c t z)
theorem KeepR.words {w w' : World} (h : KeepR w w') : ∀ (b : Nat) (c : Array Value) (t : TypeId) (z : Nat × Nat), w.heap[b]? = some (.cells c t z) → Nat.beq t 227 = true → w'.heap[b]? = some (.cells c t z) :=
  fun b c t z h1 h2 => h b c t z h1 (by unfold refHid; rw [h2]; rfl)
theorem ratIn_stable {w w' : World} {v : Value} {q : Rat} (h : RatIn w v q) (hk : KeepR w w') : RatIn w' v q := by
  obtain ⟨b, rfl, hg, u, d, hb, hu, hd⟩ := h
  exact ⟨b, rfl, hg, u, d, hk _ _ _ _ hb (by kernel_rfl), R.nin_stable hu hk.words, R.nin_stable hd hk.words⟩
theorem intIn_stable {w w' : World} {v : Value} {s : Bool} {n : Nat} (h : IntIn w v s n) (hk : KeepR w w') : IntIn w' v s n := by
  obtain ⟨b, rfl, hg, u, hb, hu⟩ := h
  exact ⟨b, rfl, hg, u, hk _ _ _ _ hb (by kernel_rfl), R.nin_stable hu hk.words⟩
theorem Below.keepR {w w' : World} (h : Below w.heap.size w w') : KeepR w w' := fun b c t z h1 _ => (h.block b (Array.getElem?_eq_some_iff.1 h1).1).trans h1
theorem RatIn.keep {w w' : World} {v : Value} {q : Rat} (h : RatIn w v q) (hb : Below w.heap.size w w') : RatIn w' v q := ratIn_stable h (Below.keepR hb)
theorem IntIn.keep {w w' : World} {v : Value} {s : Bool} {n : Nat} (h : IntIn w v s n) (hb : Below w.heap.size w w') : IntIn w' v s n := intIn_stable h (Below.keepR hb)
theorem ratIn_one {w : World} {v : Value} {q : Rat} (h : RatIn w v q) : isOne v = true := by
  obtain ⟨b, rfl, _⟩ := h; rfl
theorem intIn_one {w : World} {v : Value} {s : Bool} {n : Nat} (h : IntIn w v s n) : isOne v = true := by
  obtain ⟨b, rfl, _⟩ := h; rfl
end Ev
end Go.Proofs.YtepnghhgmjobjaaGreatDoor
namespace Go.Proofs.YtepnghhgmjobjaaGreatDoor
namespace R
open Go.RowKit
theorem infoU8 : (Tryz.prog.info? 5).map (fun i => (i.zero, i.size, i.bytes)) = some (some (.int .u8 0), 1, 1) := by kernel_rfl
theorem M32_pow : M32 = 256 ^ 4 := by unfold M32; decide
theorem byte_div (n q r : Nat) (hr : r < 4) : n / M32 ^ q % M32 / 2 ^ (8 * r) % 256 = n / 256 ^ (4 * q + r) % 256 := by
  rw [Nat.mul_comm 8 r, ← Big.pow256, M32_pow, ← Nat.pow_mul, Nat.pow_add, ← Nat.div_div_eq_div_mul]
  generalize n / 256 ^ (4 * q) = m
  have e : 256 ^ 4 = 256 ^ r * 256 ^ (4 - r) := by rw [← Nat.pow_add]; congr 1; omega
  rw [e, Nat.mod_mul_right_div_self]
  have e2 : 256 ^ (4 - r) = 256 * 256 ^ (4 - r - 1) := by rw [← Nat.pow_succ']; congr 1; omega
  rw [e2, Nat.mod_mul_right_mod]
theorem isSize_bits {n s : Nat} (h : IsBits n s) : Big.IsSize n ((s + 7) / 8) := by
  obtain ⟨h1, h2⟩ := h
  refine ⟨?_, fun hp => ?_⟩
  · rw [Big.pow256]
    exact Nat.lt_of_lt_of_le h1 (Nat.pow_le_pow_right (by omega) (by omega))
  · rw [Big.pow256]
    exact Nat.le_trans (Nat.pow_le_pow_right (by omega) (by omega)) (h2 (by omega))
theorem take_set {T : List Nat} {I s d : Nat} (hT : T.length = s) (hI : I < s) (hd : Big.nth T I = d) : (T.take I ++ List.replicate (s - I) 0).set I d = T.take (I + 1) ++ List.replicate (s - (I + 1)) 0 := by
  have hl : (T.take I).length = I := by simp; omega
  rw [List.set_append_right _ _ (by omega), hl, Nat.sub_self, show s - I = (s - (I + 1)) + 1 by omega, List.replicate_succ, List.set_cons_zero, Big.take_succ T I (by omega), hd]
  simp
theorem rev_bd (n s I : Nat) (h : I < s) : Big.nth (Big.bd n s).reverse I = n / 256 ^ (s - 1 - I) % 256 := by
  unfold Big.nth
  rw [List.getD_eq_getElem?_getD, List.getElem?_reverse (by rw [Big.bd_length]; exact h), Big.bd_length]
  unfold Big.bd
  rw [List.getElem?_map, List.getElem?_range (by omega)]
  rfl
set_option maxRecDepth 100000 in
set_option maxHeartbeats 400000 in
theorem bytes_any (w : World) (bx ox n : Nat) (s : Bool) (h : IntAt w bx ox s n) (hn : Sml n) :
    Calls Tryz.prog 113 #[.pointer (some ⟨bx, ox, none⟩)] w fun e w' => ∃ v', e = .returned v' ∧ Bt w' v' (btx n) ∧ Below w.heap.size w w' := by
  obtain ⟨-, u, hc, hu⟩ := h
  obtain ⟨l, hw, ol, nl, hv, hl⟩ := nin_list hu hn
  have HCB := Lib.hid (bitsOf_any w u l hw ol nl (by omega))
  rw [hv] at HCB
  have HW := Lib.hid hw; have OL := Lib.hid ol; have HVAL := Lib.hid hv
  obtain ⟨A, c, rfl, -, -, -⟩ := hw
  obtain ⟨i0, hi, hz0, hz1, hz2⟩ := info_parts infoU8
  have hlt := cell_lt hc
  clear ol nl hv hu hn
  go_enter Tryz.func113, Tryz.ntmps113
  go_wp2_with fail
  with_reducible refine HCB.out.mono ?_
  rintro e w1 ⟨sb, rfl, hsb, hsb1, -, rfl⟩
  obtain ⟨sz, hsz⟩ : ∃ z, (sb + 7) / 8 = z := ⟨_, rfl⟩
  have es : ((sb : Int) + 7) / 8 = (sz : Int) := by omega
  have HSZ := Lib.hid (show Big.IsSize n sz by rw [← hsz]; exact isSize_bits hsb)
  have hsb2 : sz ≤ 800000000 := by omega
  have hmk := fun W => make_words (P := Tryz.prog) Tryz.underlying166 hi hz0 hz1 (by rw [hz2]; omega) .i64 .i64 sz sz (Nat.le_refl _) (by omega) W
  have HB1 := Lib.hid (Blk.new w 5 .u8 (List.replicate sz 0))
  have HBel1 := Lib.hid ((Below.refl w.heap.size w).alloc (Nat.le_refl _) (.cells (cellsOf .u8 (List.replicate sz 0)) 5))
  clear hsb hsb1 hsz
  go_wp2_with fail
  clear hmk hi hz0 hz1 hz2
  simp only [es]
  go_loopw [5] (fun i wr => ∃ (I : Nat), I ≤ sz ∧ i = .int .i64 I ∧
      Hid (Blk wr w.heap.size 5 .u8 ((Big.bd n sz).reverse.take I ++ List.replicate (sz - I) 0)) ∧ Hid (Below w.heap.size w wr))
    (fun i _ => sz - (intOf i).toNat)
  case atStart => exact ⟨0, by omega, rfl, Lib.hid (by simpa using HB1.out), HBel1⟩
  case round =>
    obtain ⟨I, hI, rfl, HB, HBel⟩ := hrel
    by_cases hkn : I < sz
    · obtain ⟨k, hk⟩ : ∃ k, sz - 1 - I = k := ⟨_, rfl⟩
      have ek : (sz : Int) - 1 - (I : Int) = (k : Int) := by omega
      obtain ⟨q, r, hqr, hr⟩ : ∃ q r, k = 4 * q + r ∧ r < 4 := ⟨k / 4, k % 4, by omega, by omega⟩
      have hq : q < l.length := by
        rcases Nat.lt_or_ge q l.length with h1 | h1
        · exact h1
        · exfalso
          have h2 := HSZ.out.2 (by omega)
          have h3 := Big.val_lt l OL.out
          rw [HVAL.out, M32_pow, ← Nat.pow_mul] at h3
          have h4 : 256 ^ (4 * l.length) ≤ 256 ^ (sz - 1) := Nat.pow_le_pow_right (by omega) (by omega)
          omega
      obtain ⟨A', c', e, x1, x2, x3⟩ := HW.out
      cases e
      obtain ⟨b, o, rfl, hblt, hcc, -⟩ := x3 (by omega)
      have hcell := (HBel.out.cell (p := ⟨b, o + q, none⟩) hblt).trans (hcc q hq)
      have hcu := (HBel.out.cell (p := ⟨bx, ox + 1, none⟩) hlt).trans hc
      have hst := HB.out.cell I (by simp [Big.bd_length]; omega)
      have hfr := HB.out.frozen I
      have d1 : (k : Int) / 4 = (q : Int) := by omega
      have d2 : (k : Int) % 4 = (r : Int) := by omega
      have hql : (q : Int) < (l.length : Int) := by omega
      have ev := Big.nth_div M32_pos l OL.out q
      rw [HVAL.out] at ev
      have hxm := nth_lt OL.out q
      have hbyte := rev_bd n sz I hkn
      rw [hk] at hbyte
      generalize Big.nth l q = xq at hcell ev hxm
      have hv : ((xq : Nat) : Int) / 2 ^ (8 * r) % 256 = ((n / 256 ^ k % 256 : Nat) : Int) := by
        rw [hqr, ← byte_div n q r hr, ← ev]
        rw [show ((2 : Int) ^ (8 * r)) = ((2 ^ (8 * r) : Nat) : Int) by rw [Int.natCast_pow]; rfl]
        omega
      have HBY := Lib.hid hbyte
      obtain ⟨y, hy⟩ : ∃ y, n / 256 ^ k % 256 = y := ⟨_, rfl⟩
      rw [hy] at hv HBY
      have HV := Lib.hid hv
      have e8 : (8 * (r : Int)).toNat = 8 * r := by omega
      have hr8 : (8 * (r : Int)) < 32 := by omega
      clear hk hqr hcc x3 ev hbyte hy hv
      go_wp2_with fail
      rw [HV.out]
      refine ⟨⟨I + 1, by omega, by go_num, Lib.hid ?_, Lib.hid (HBel.out.setCell (Nat.le_refl _) _)⟩, by simp [intOf]; omega⟩
      have := HB.out.set I y
      rw [take_set (by simp [Big.bd_length]) hkn HBY.out] at this
      exact this
    · have hkl : I = sz := by omega
      subst hkl
      have hB := HB.out
      rw [Nat.sub_self, List.replicate_zero, List.append_nil, List.take_of_length_le (by simp [Big.bd_length])] at hB
      have HBB := Lib.hid hB
      clear hB
      go_wp2
      go_ret
      refine ⟨_, rfl, ?_, HBel.out⟩
      rw [← btx_of HSZ.out]
      have hbl := Big.btext_length n I
      refine ⟨some ⟨w.heap.size, 0, none⟩, I, by rw [hbl]; rfl, by rw [hbl]; exact Nat.le_refl _, fun _ => ⟨w.heap.size, 0, rfl, HBB.out.lt, fun i hi => ?_, _, _, HBB.out⟩⟩
      rw [Nat.zero_add, ← Big.btext_get n I i hi]
      exact HBB.out.cell i (by rw [List.length_reverse, Big.bd_length, ← hbl]; exact hi)
end R
end Go.Proofs.YtepnghhgmjobjaaGreatDoor
namespace Go.Proofs.YtepnghhgmjobjaaGreatDoor
open Go Go.RowKit
namespace Ev
inductive Xe where
  | v (i : Nat)
  | c (n : Nat)
  | add (a b : Xe)
  | sub (a b : Xe)
  | mul (a b : Xe)
  | quo (a b : Xe)
  | gcd (a b : Xe)
def Xe.ev (ρ : Nat → Nat) : Xe → Nat
  | .v i => ρ i
  | .c n => n
  | .add a b => a.ev ρ + b.ev ρ
  | .sub a b => a.ev ρ - b.ev ρ
  | .mul a b => a.ev ρ * b.ev ρ
  | .quo a b => a.ev ρ / b.ev ρ
  | .gcd a b => Nat.gcd (a.ev ρ) (b.ev ρ)
noncomputable def Xe.beq : Xe → Xe → Bool := Xe.rec (motive := fun _ => Xe → Bool)
  (fun i y => match y with | .v j => Nat.beq i j | _ => false)
  (fun n y => match y with | .c m => Nat.beq n m | _ => false)
  (fun _ _ iha ihb y => match y with | .add a b => iha a && ihb b | _ => false)
  (fun _ _ iha ihb y => match y with | .sub a b => iha a && ihb b | _ => false)
  (fun _ _ iha ihb y => match y with | .mul a b => iha a && ihb b | _ => false)
  (fun _ _ iha ihb y => match y with | .quo a b => iha a && ihb b | _ => false)
  (fun _ _ iha ihb y => match y with | .gcd a b => iha a && ihb b | _ => false)
theorem Xe.beq_ok : ∀ (a b : Xe), a.beq b = true → a = b := by
  intro a
  induction a with
  | v i =>
    intro b h
    cases b with
    | v j => rw [Nat.eq_of_beq_eq_true (show Nat.beq i j = true from h)]
    | _ => exact absurd (show false = true from h) (by simp)
  | c n =>
    intro b h
    cases b with
    | c m => rw [Nat.eq_of_beq_eq_true (show Nat.beq n m = true from h)]
    | _ => exact absurd (show false = true from h) (by simp)
  | add a b iha ihb =>
    intro y h
    cases y with
    | add a' b' =>
      have h' : (a.beq a' && b.beq b') = true := h
      simp only [Bool.and_eq_true] at h'
      rw [iha _ h'.1, ihb _ h'.2]
    | _ => exact absurd (show false = true from h) (by simp)
  | sub a b iha ihb =>
    intro y h
    cases y with
    | sub a' b' =>
      have h' : (a.beq a' && b.beq b') = true := h
      simp only [Bool.and_eq_true] at h'
      rw [iha _ h'.1, ihb _ h'.2]
    | _ => exact absurd (show false = true from h) (by simp)
  | mul a b iha ihb =>
    intro y h
    cases y with
    | mul a' b' =>
      have h' : (a.beq a' && b.beq b') = true := h
      simp only [Bool.and_eq_true] at h'
      rw [iha _ h'.1, ihb _ h'.2]
    | _ => exact absurd (show false = true from h) (by simp)
  | quo a b iha ihb =>
    intro y h
    cases y with
    | quo a' b' =>
      have h' : (a.beq a' && b.beq b') = true := h
      simp only [Bool.and_eq_true] at h'
      rw [iha _ h'.1, ihb _ h'.2]
    | _ => exact absurd (show false = true from h) (by simp)
  | gcd a b iha ihb =>
    intro y h
    cases y with
    | gcd a' b' =>
      have h' : (a.beq a' && b.beq b') = true := h
      simp only [Bool.and_eq_true] at h'
      rw [iha _ h'.1, ihb _ h'.2]
    | _ => exact absurd (show false = true from h) (by simp)
noncomputable def Xe.bnd : Xe → Nat := Xe.rec (motive := fun _ => Nat)
  (fun _ => 262144)
  (fun n => Nat.succ (Nat.log2 n))
  (fun _ _ a b => Nat.succ (Nat.add a b))
  (fun _ _ a _ => a)
  (fun _ _ a b => Nat.add a b)
  (fun _ _ a _ => a)
  (fun _ _ a b => Nat.succ (Nat.add a b))
structure Bits (k n : Nat) : Prop where
  out : n < 2 ^ k
theorem Bits.up {k j n : Nat} (h : Bits k n) (hk : k ≤ j) : Bits j n := ⟨Nat.lt_of_lt_of_le h.out (Nat.pow_le_pow_right (by omega) hk)⟩
theorem Bits.le {k n m : Nat} (h : Bits k n) (hm : m ≤ n) : Bits k m := ⟨Nat.lt_of_le_of_lt hm h.out⟩
theorem Bits.add {k j n m : Nat} (h : Bits k n) (i : Bits j m) : Bits (k + j + 1) (n + m) := by
  have h1 := (h.up (show k ≤ k + j by omega)).out
  have h2 := (i.up (show j ≤ k + j by omega)).out
  refine ⟨?_⟩
  rw [Nat.pow_succ]
  generalize 2 ^ (k + j) = p at *
  omega
theorem Bits.mul {k j n m : Nat} (h : Bits k n) (i : Bits j m) : Bits (k + j) (n * m) := by
  refine ⟨?_⟩
  rw [Nat.pow_add]
  exact Nat.mul_lt_mul'' h.out i.out
theorem Bits.log (n : Nat) : Bits (Nat.succ (Nat.log2 n)) n := ⟨Nat.lt_log2_self⟩
theorem Bits.gcd {k j n m : Nat} (h : Bits k n) (i : Bits j m) : Bits (k + j + 1) (Nat.gcd n m) := by
  refine (h.add i).le ?_
  rcases Nat.eq_zero_or_pos n with h0 | h0
  · subst h0; rw [Nat.gcd_zero_left]; omega
  · have := Nat.gcd_le_left m h0; omega
theorem m32_pow (k : Nat) : R.M32 ^ k = 2 ^ (32 * k) := by rw [Nat.pow_mul]; rfl
theorem Bits.sml {k n : Nat} (h : Bits k n) (hk : k ≤ 100000000) : R.Sml n := by
  refine ⟨?_⟩
  rw [m32_pow]
  exact (h.up (show k ≤ 32 * Big.KL by have := Big.KL_eq; omega)).out
structure XEnv where
  q : Nat → Nat
  bit : ∀ i, Bits 262144 (q i)
theorem Xe.bits (ρ : XEnv) : ∀ e : Xe, Bits e.bnd (e.ev ρ.q) := by
  intro e
  induction e with
  | v i => exact ρ.bit i
  | c n => exact Bits.log n
  | add a b iha ihb => exact iha.add ihb
  | sub a b iha _ => exact iha.le (Nat.sub_le _ _)
  | mul a b iha ihb => exact iha.mul ihb
  | quo a b iha _ => exact iha.le (Nat.div_le_self _ _)
  | gcd a b iha ihb => exact iha.gcd ihb
noncomputable def xokB (e : Xe) : Bool := Nat.ble e.bnd 100000000
theorem xokB_sml {ρ : XEnv} {e : Xe} (h : xokB e = true) : R.Sml (e.ev ρ.q) := (e.bits ρ).sml (Nat.le_of_ble_eq_true h)
inductive Wf where
  | wd (e : Xe)
  | lp (e : Xe)
  | st (e : Xe)
  | sb
  | by_ (e : Xe)
  | sx (e : Xe)
  | ln (e : Xe)
  | iv (s : Bool) (e : Xe)
def BadS (s : ByteArray) : Prop := mayB s = false
def Wf.holds (ρ : XEnv) : Wf → World → Value → Prop
  | .wd e, w, v => R.Nin w v (e.ev ρ.q)
  | .lp e, _, v => ∃ k : Nat, v = .int .i64 (k : Int) ∧ (k = 0 ↔ e.ev ρ.q = 0)
  | .st e, _, v => v = .string (bst (e.ev ρ.q)) ∧ szN (e.ev ρ.q) ≤ 512
  | .sb, _, v => ∃ s, v = .string s ∧ BadS s
  | .by_ e, w, v => R.Bt w v (btx (e.ev ρ.q))
  | .sx e, _, v => v = .string (bst (e.ev ρ.q))
  | .ln e, _, v => v = .int .i64 (szN (e.ev ρ.q) : Nat)
  | .iv s e, _, v => v = .int .i64 (Big.sI s (e.ev ρ.q)) ∧ (s = true → 0 < e.ev ρ.q) ∧ e.ev ρ.q ≤ 9223372036854775808 ∧ (s = false → e.ev ρ.q < 9223372036854775808)
theorem Wf.one {ρ : XEnv} {f : Wf} {w : World} {v : Value} (h : f.holds ρ w v) : isOne v = true := by
  cases f with
  | wd e => exact nin_one h
  | lp e => obtain ⟨k, rfl, _⟩ := h; rfl
  | st e => rw [h.1]; rfl
  | sb => obtain ⟨s, rfl, _⟩ := h; rfl
  | by_ e => obtain ⟨A, c, rfl, _⟩ := h; rfl
  | sx e => rw [show v = _ from h]; rfl
  | ln e => rw [show v = _ from h]; rfl
  | iv s e => rw [h.1]; rfl
theorem bt_stable {l : List UInt8} {w w' : World} {v : Value} (h : R.Bt w v l) (hk : ∀ (b : Nat) (c : Array Value) (t : TypeId) (z : Nat × Nat), w.heap[b]? = some (.cells c t z) → Nat.beq t 5 = true → w'.heap[b]? = some (.cells c t z)) : R.Bt w' v l := by
  obtain ⟨A, c, e, h1, h3⟩ := h
  refine ⟨A, c, e, h1, fun hp => ?_⟩
  obtain ⟨b, o, ea, hlt, hc, cs, z, hcs⟩ := h3 hp
  have hcs' := hk b cs _ _ hcs (Nat.beq_refl _)
  refine ⟨b, o, ea, (Array.getElem?_eq_some_iff.1 hcs').1, fun i hi => ?_, cs, z, hcs'⟩
  rw [← hc i hi]
  exact World.cell?_of_block (hcs'.trans hcs.symm)
theorem nin_words {w : World} {v : Value} {n : Nat} (h : R.Nin w v n) : ∃ a k c, v = .slice a k c ∧ (k = 0 ↔ n = 0) := by
  obtain ⟨l, ⟨A, c, e, -, -, -⟩, ol, nl, rfl⟩ := h
  refine ⟨A, l.length, c, e, fun h => ?_, fun h => ?_⟩
  · rw [List.length_eq_zero_iff.1 h]; rfl
  · rw [Big.norm_zero R.M32_pos l nl h]; rfl
noncomputable def wHid (t : TypeId) : Bool := Nat.beq t 227 || Nat.beq t 5
noncomputable def wSig (ρ : XEnv) : Sig Wf where
  holds := Wf.holds ρ
  hid := wHid
  G := natSig.G
  base := natSig.base
  baseS := natSig.baseS
  stable := fun f _ _ _ h hk => by
    have hw := fun (b : Nat) (c : Array Value) (t : TypeId) (z : Nat × Nat) h1 (h2 : Nat.beq t 227 = true) => hk b c t z h1 (by unfold wHid; rw [h2]; rfl)
    have hb := fun (b : Nat) (c : Array Value) (t : TypeId) (z : Nat × Nat) h1 (h2 : Nat.beq t 5 = true) => hk b c t z h1 (by unfold wHid; rw [h2, Bool.or_true])
    cases f with
    | wd e => exact R.nin_stable h hw
    | by_ e => exact bt_stable h hb
    | sx e => exact h
    | ln e => exact h
    | iv s e => exact h
    | lp e => exact h
    | st e => exact h
    | sb => exact h
structure Xs where
  k : Nat
  a : Xe
  b : Xe
  t : Bool
def Xs.holds (ρ : Nat → Nat) (x : Xs) : Prop := match x.k with
  | 1 => x.t = true ↔ x.a.ev ρ = 0
  | 2 => x.t = true ↔ x.a.ev ρ = x.b.ev ρ
  | 4 => x.t = true ↔ 512 < szN (x.a.ev ρ)
  | 7 => x.t = true ↔ x.a.ev ρ < 9223372036854775808
  | 8 => x.t = true ↔ x.a.ev ρ ≤ 9223372036854775808
  | _ => x.t = true ↔ x.a.ev ρ < x.b.ev ρ
def x0 : Xe := .c 0
noncomputable def askX (A : List Xs) (k : Nat) (a b : Xe) : Option Bool := List.rec (motive := fun _ => Option Bool) none
  (fun x _ ih => Bool.rec (motive := fun _ => Option Bool) ih (some x.t) (Nat.beq k x.k && (a.beq x.a && b.beq x.b))) A
theorem askX_ok {k : Nat} {a b : Xe} {t : Bool} : ∀ {A : List Xs}, askX A k a b = some t → ∃ x ∈ A, x.k = k ∧ x.a = a ∧ x.b = b ∧ x.t = t
  | [], h => by cases h
  | x :: A, h => by
    have h' : (Bool.rec (motive := fun _ => Option Bool) (askX A k a b) (some x.t) (Nat.beq k x.k && (a.beq x.a && b.beq x.b)) : Option Bool) = some t := h
    cases hb : (Nat.beq k x.k && (a.beq x.a && b.beq x.b)) with
    | false =>
      rw [hb] at h'
      obtain ⟨y, hy, r⟩ := askX_ok h'
      exact ⟨y, List.mem_cons_of_mem _ hy, r⟩
    | true =>
      rw [hb] at h'
      simp only [Bool.and_eq_true] at hb
      exact ⟨x, List.mem_cons_self, (Nat.eq_of_beq_eq_true hb.1).symm, (Xe.beq_ok _ _ hb.2.1).symm, (Xe.beq_ok _ _ hb.2.2).symm, Option.some.inj h'⟩
def AllX (ρ : XEnv) (A : List Xs) : Prop := ∀ x ∈ A, x.holds ρ.q
section
variable {ρ : XEnv} {A : List Xs} {a b : Xe} {t : Bool}
theorem askX_nought (hA : AllX ρ A) (h : askX A 1 a x0 = some t) : t = true ↔ a.ev ρ.q = 0 := by
  obtain ⟨x, hx, h1, rfl, _, rfl⟩ := askX_ok h
  have := hA x hx
  unfold Xs.holds at this
  rw [h1] at this
  exact this
theorem askX_same (hA : AllX ρ A) (h : askX A 2 a b = some t) : t = true ↔ a.ev ρ.q = b.ev ρ.q := by
  obtain ⟨x, hx, h1, rfl, rfl, rfl⟩ := askX_ok h
  have := hA x hx
  unfold Xs.holds at this
  rw [h1] at this
  exact this
theorem askX_long (hA : AllX ρ A) (h : askX A 4 a x0 = some t) : t = true ↔ 512 < szN (a.ev ρ.q) := by
  obtain ⟨x, hx, h1, rfl, _, rfl⟩ := askX_ok h
  have := hA x hx
  unfold Xs.holds at this
  rw [h1] at this
  exact this
theorem askX_less (hA : AllX ρ A) (h : askX A 3 a b = some t) : t = true ↔ a.ev ρ.q < b.ev ρ.q := by
  obtain ⟨x, hx, h1, rfl, rfl, rfl⟩ := askX_ok h
  have := hA x hx
  unfold Xs.holds at this
  rw [h1] at this
  exact this
end
end Ev
end Go.Proofs.YtepnghhgmjobjaaGreatDoor
namespace Go.Proofs.YtepnghhgmjobjaaGreatDoor
open Go Go.RowKit
namespace Ev
set_option maxRecDepth 100000
noncomputable def isZ (v : Value) : Bool := match v with
  | .int k m => match k with
    | .i64 => match m with
      | .ofNat j => Nat.beq j 0
      | _ => false
    | _ => false
  | _ => false
theorem isZ_ok {v : Value} (h : isZ v = true) : v = .int .i64 ((0 : Nat) : Int) := by
  unfold isZ at h
  split at h
  · split at h
    · split at h
      · rw [Nat.eq_of_beq_eq_true h]; rfl
      · cases h
    · cases h
  · cases h
noncomputable def wLen (a : Value) : M Wf Nxt := bind (fact a) fun x => match x with
  | .wd e => bind (newFact (.lp e)) fun v => val v
  | _ => fail
noncomputable def noughtA (op : BinOp) (t : Bool) : M Wf Nxt := match op with
  | .eql => val (.bool t)
  | .neq => val (.bool (!t))
  | .gtr => val (.bool (!t))
  | _ => fail
noncomputable def is512 (v : Value) : Bool := match v with
  | .int k m => match k with
    | .i64 => match m with
      | .ofNat j => Nat.beq j 512
      | _ => false
    | _ => false
  | _ => false
theorem is512_ok {v : Value} (h : is512 v = true) : v = .int .i64 ((512 : Nat) : Int) := by
  unfold is512 at h
  split at h
  · split at h
    · split at h
      · rw [Nat.eq_of_beq_eq_true h]; rfl
      · cases h
    · cases h
  · cases h
noncomputable def gtrA (op : BinOp) (t : Bool) : M Wf Nxt := match op with
  | .gtr => val (.bool t)
  | _ => fail
noncomputable def wLong (A : List Xs) (op : BinOp) (a : Value) : M Wf Nxt := bind (fact a) fun x => match x with
  | .ln e => match askX A 4 e x0 with
    | some t => gtrA op t
    | none => fail
  | _ => fail
noncomputable def wNought (A : List Xs) (op : BinOp) (a : Value) : M Wf Nxt := bind (fact a) fun x => match x with
  | .lp e => match askX A 1 e x0 with
    | some t => noughtA op t
    | none => fail
  | _ => fail
noncomputable def wCmp (A : List Xs) (op : BinOp) (a b : Value) : M Wf Nxt := cond (isZ b) (wNought A op a) (cond (is512 b) (wLong A op a) fail)
noncomputable def wLenS (a : Value) : M Wf Nxt := bind (fact a) fun x => match x with
  | .sx e => bind (newFact (.ln e)) fun v => val v
  | _ => fail
noncomputable def wStr (a : Value) : M Wf Nxt := bind (fact a) fun x => match x with
  | .by_ e => bind (newFact (.sx e)) fun v => val v
  | _ => fail
noncomputable def isStrT (c : Call) : Bool := match c.argTypes[0]? with
  | some t => Nat.beq t 9
  | none => false
noncomputable def isSl (c : Call) : Bool := match (c.argTypes[0]?).bind (sliceT Tryz.prog) with
  | some _ => true
  | none => false
noncomputable def wHard (A : List Xs) (o : Oper) (vs : List Value) : M Wf Nxt := match o.op with
  | .binOp op _ _ _ _ => match vs with
    | [a, b] => wCmp A op a b
    | _ => fail
  | .call c => match c.callee with
    | .builtin b => match b with
      | .len => match vs with
        | [a] => cond (isSl c) (wLen a) (cond (isStrT c) (wLenS a) fail)
        | _ => fail
      | _ => fail
    | _ => fail
  | .convert src dst _ => match vs with
    | [a] => cond (Nat.beq src 166 && Nat.beq dst 9) (wStr a) fail
    | _ => fail
  | _ => fail
theorem loc_wLen (a : Value) : Loc (wLen a) := by
  unfold wLen
  refine loc_bind (loc_fact _) fun x => ?_
  split
  · exact loc_bind (loc_newFact _) fun _ => loc_val _
  · exact loc_fail
theorem loc_noughtA (op : BinOp) (t : Bool) : Loc (noughtA op t) := by
  unfold noughtA
  split <;> first | exact loc_val _ | exact loc_fail
theorem loc_gtrA (op : BinOp) (t : Bool) : Loc (gtrA op t) := by
  unfold gtrA
  split <;> first | exact loc_val _ | exact loc_fail
theorem loc_wNought (A : List Xs) (op : BinOp) (a : Value) : Loc (wNought A op a) := by
  unfold wNought
  refine loc_bind (loc_fact _) fun x => ?_
  split
  · split
    · exact loc_noughtA _ _
    · exact loc_fail
  · exact loc_fail
theorem loc_wLong (A : List Xs) (op : BinOp) (a : Value) : Loc (wLong A op a) := by
  unfold wLong
  refine loc_bind (loc_fact _) fun x => ?_
  split
  · split
    · exact loc_gtrA _ _
    · exact loc_fail
  · exact loc_fail
theorem loc_wCmp (A : List Xs) (op : BinOp) (a b : Value) : Loc (wCmp A op a b) := loc_cond (loc_wNought _ _ _) (loc_cond (loc_wLong _ _ _) loc_fail)
theorem loc_wLenS (a : Value) : Loc (wLenS a) := by
  unfold wLenS
  refine loc_bind (loc_fact _) fun x => ?_
  split
  · exact loc_bind (loc_newFact _) fun _ => loc_val _
  · exact loc_fail
theorem loc_wStr (a : Value) : Loc (wStr a) := by
  unfold wStr
  refine loc_bind (loc_fact _) fun x => ?_
  split
  · exact loc_bind (loc_newFact _) fun _ => loc_val _
  · exact loc_fail
theorem loc_wHard (A : List Xs) (o : Oper) (vs : List Value) : Loc (wHard A o vs) := by
  unfold wHard
  (repeat' split) <;> first | exact loc_fail | exact loc_wCmp _ _ _ _ | exact loc_cond (loc_wLen _) (loc_cond (loc_wLenS _) loc_fail) | exact loc_cond (loc_wStr _) loc_fail
theorem push_all (l : List UInt8) : ∀ s : ByteArray, (l.map fun b => ((b.toNat : Nat) : Int)).foldl (fun r n => r.push (UInt8.ofNat n.toNat)) s = ⟨s.data ++ l.toArray⟩ := by
  induction l with
  | nil => intro s; simp
  | cons b l ih =>
    intro s
    rw [List.map_cons, List.foldl_cons, ih]
    have : UInt8.ofNat ((b.toNat : Nat) : Int).toNat = b := by simp
    rw [this]
    simp [ByteArray.push]
theorem bt_convert {w : World} {v : Value} {n : Nat} (h : R.Bt w v (btx n)) : (convert 166 9 v).run Tryz.prog w = .ok (.string (bst n)) w := by
  obtain ⟨A, c, rfl, -, h3⟩ := h
  rw [run_convert_bytes_string w 166 9 5 A _ c Tryz.underlying166 Tryz.underlying5 Tryz.underlying9]
  rcases Nat.eq_zero_or_pos (btx n).length with h0 | h0
  · have hnil := List.eq_nil_of_length_eq_zero h0
    have hb : bst n = ⟨#[]⟩ := by unfold bst; rw [hnil]
    rw [hb, hnil]
    cases A with
    | none => simp [Conv.bytesToString, Sem.run_pure]; rfl
    | some a =>
      rw [run_bytesToString w a _ c [] (by simpa using run_loadCells_list (P := Tryz.prog) (w := w) a [] (fun j v h => by simp at h))]
      rfl
  · obtain ⟨b, o, rfl, hlt, hc, -⟩ := h3 h0
    have := run_loadCells_list (P := Tryz.prog) (w := w) ⟨b, o, none⟩ ((btx n).map fun x => Value.int .u8 ((x.toNat : Nat) : Int)) (fun j v hv => by
      rw [List.getElem?_map] at hv
      obtain ⟨x, hx, rfl⟩ := Option.map_eq_some_iff.1 hv
      obtain ⟨hj, rfl⟩ := List.getElem?_eq_some_iff.1 hx
      have hcj := hc j hj
      unfold Addr.add
      split
      · rename_i hj0; subst hj0; exact hcj
      · exact hcj)
    rw [run_bytesToString w ⟨b, o, none⟩ _ c ((btx n).map fun x => ((x.toNat : Nat) : Int)) (by
      simpa [List.map_map, Function.comp_def] using this), push_all]
    unfold bst
    simp [ByteArray.empty, ByteArray.emptyWithCapacity]
    try rfl
section
variable {ρ : XEnv} {A : List Xs} {h h' : Tr (Blk Wf)} {nx nx' : Nat} {R W : List Nat} {r : Ren} {w : World}
theorem wval_fact {f : Wf} {x : Nxt} {v' : Value} (e : (bind (newFact f) fun v => val v : M Wf Nxt) h nx = .ok x h' nx' R W) (hM : Mod (wSig ρ) r h.get w) (hN : New r nx nx') (hv : f.holds ρ w v') (ho : isOne v' = true) :
    nx ≤ nx' ∧ ∃ v r', x = .val v ∧ VR r' v v' ∧ Ext (wSig ρ) r w nx nx' W h'.get r' w := by
  obtain ⟨v, h0, nx0, R0, W0, R1, W1, e0, e1, rfl, rfl⟩ := bind_ok e
  obtain ⟨rfl, rfl, rfl, rfl⟩ := val_ok e1
  obtain ⟨i, h2, nx2, R2, W2, R3, W3, e2, e3, rfl, rfl⟩ := bind_ok e0
  obtain ⟨rfl, rfl, rfl, rfl⟩ := ret_ok e3
  unfold fresh at e2
  cases e2
  obtain ⟨r', hX, hr⟩ := ext_fact (S := wSig ρ) (f := f) hM (Below.refl _ w) hN hv ho
  exact ⟨Nat.le_succ _, _, r', rfl, .opq hr ho, by simpa using hX.congr fun n => .inr (Tr.get_set _ _ _ _)⟩
theorem quick_nought {op : BinOp} {k : Nat} {t : Bool} {x : Nxt} (ht : t = decide (k = 0)) (e : noughtA op t h nx = .ok x h' nx' R W) :
    h' = h ∧ nx' = nx ∧ W = [] ∧ ∃ v, x = .val v ∧ plain v = true ∧ quickB Tryz.prog op (.int .i64 (k : Int)) (.int .i64 ((0 : Nat) : Int)) = some v := by
  subst ht
  unfold noughtA at e
  cases op <;> first | (cases (show (fail : M Wf Nxt) h nx = _ from e); done) | skip
  all_goals
    obtain ⟨rfl, rfl, rfl, rfl⟩ := val_ok e
    refine ⟨rfl, rfl, rfl, _, rfl, rfl, ?_⟩
    rcases Nat.eq_zero_or_pos k with h0 | h0
    · subst h0; rfl
    · obtain ⟨m, rfl⟩ : ∃ m, k = m + 1 := ⟨k - 1, by omega⟩
      simp [quickB, intO]
      try omega
theorem wHard_ok (hA : AllX ρ A) {C : Cfg Wf} (hC : C.hard = wHard A) : HardOK (wSig ρ) Tryz.prog C := by
  intro o vs h nx x h' nx' R W hs e r w ρo hM hN hv
  rw [hC] at e
  unfold wHard at e
  cases hop : o.op with
  | binOp op t p q yt =>
    rw [hop] at e
    simp only at e
    have hops : o.op.operands.toList.map ρo = [ρo p, ρo q] := by rw [hop]; rfl
    rw [hops] at hv
    rcases vs with _ | ⟨u, _ | ⟨v, _ | ⟨z, l⟩⟩⟩ <;> first | (cases (show (fail : M Wf Nxt) h nx = _ from e); done) | skip
    cases hv with
    | cons hu hv => cases hv with
      | cons hv hn =>
        have e0 : wCmp A op u v h nx = .ok x h' nx' R W := e
        clear e
        unfold wCmp at e0
        cases hk : isZ v with
        | true =>
          rw [hk] at e0
          have hb := isZ_ok hk
          subst hb
          have hb' : ρo q = .int .i64 (0 : Nat) := hv.eq_of_plain rfl
          have e0 : wNought A op u h nx = .ok x h' nx' R W := e0
          unfold wNought at e0
          obtain ⟨f, h1, nx1, R1, W1, R2, W2, e2, e3, rfl, rfl⟩ := bind_ok e0
          obtain ⟨rfl, rfl, rfl, hh⟩ := fact_ok e2 hu hM
          cases f with
          | lp e0 =>
            simp only at e3
            cases ha : askX A 1 e0 x0 with
            | none => rw [ha] at e3; cases (show (fail : M Wf Nxt) _ _ = _ from e3)
            | some t0 =>
              rw [ha] at e3
              simp only at e3
              obtain ⟨k, hkv, hk0⟩ := hh
              have ht : t0 = decide (k = 0) := by
                have := askX_nought hA ha
                rw [← hk0] at this
                cases t0 with
                | true => rw [decide_eq_true (this.1 rfl)]
                | false => rw [decide_eq_false (fun h => by cases this.2 h)]
              obtain ⟨rfl, rfl, rfl, v, rfl, hp, hq⟩ := quick_nought ht e3
              refine ⟨Nat.le_refl _, v, w, r, ?_, .same hp, Ext.refl _ _ hM⟩
              simp only [execOp, hop, hkv, hb']
              rw [Sem.run_bind, quickB_ok hq]
              rfl
          | _ => cases (show (fail : M Wf Nxt) _ _ = _ from e3)
        | false =>
          rw [hk] at e0
          obtain ⟨hk2, e1⟩ := cond_ok (show cond (is512 v) (wLong A op u) fail h nx = _ from e0)
          have hb := is512_ok hk2
          subst hb
          have hb' : ρo q = .int .i64 (512 : Nat) := hv.eq_of_plain rfl
          unfold wLong at e1
          obtain ⟨f, h1, nx1, R1, W1, R2, W2, e2, e3, rfl, rfl⟩ := bind_ok e1
          obtain ⟨rfl, rfl, rfl, hh⟩ := fact_ok e2 hu hM
          cases f with
          | ln e0 =>
            simp only at e3
            cases ha : askX A 4 e0 x0 with
            | none => rw [ha] at e3; cases (show (fail : M Wf Nxt) _ _ = _ from e3)
            | some t0 =>
              rw [ha] at e3
              have hkv : ρo p = .int .i64 (szN (e0.ev ρ.q) : Nat) := hh
              have ht := askX_long hA ha
              generalize szN (e0.ev ρ.q) = k at hkv ht
              have e4 : gtrA op t0 h1 nx1 = .ok x h' nx' R2 W2 := e3
              unfold gtrA at e4
              cases op <;> first | (cases (show (fail : M Wf Nxt) _ _ = _ from e4); done) | skip
              obtain ⟨rfl, rfl, rfl, rfl⟩ := val_ok e4
              refine ⟨Nat.le_refl _, _, w, r, ?_, .same rfl, Ext.refl _ _ hM⟩
              have hd : decide (512 < k) = t0 := by
                cases t0 with
                | true => exact decide_eq_true (ht.1 rfl)
                | false => exact decide_eq_false (fun h => by cases ht.2 h)
              simp only [execOp, hop, hkv, hb']
              rw [Sem.run_bind, quickB_ok (z := .bool t0) (by
                rw [← hd]
                simp [quickB, intO]
                try omega)]
              rfl
          | _ => cases (show (fail : M Wf Nxt) _ _ = _ from e3)
  | call c =>
    rw [hop] at e
    obtain ⟨callee, args, ats⟩ := c
    cases callee with
    | builtin b =>
      simp only at e
      cases b <;> first | (cases (show (fail : M Wf Nxt) h nx = _ from e); done) | skip
      simp only at e
      have hops : o.op.operands.toList.map ρo = args.toList.map ρo := by rw [hop]; simp [Op.operands, Call.operands]
      rw [hops] at hv
      rcases vs with _ | ⟨u, _ | ⟨z, l⟩⟩ <;> first | (cases (show (fail : M Wf Nxt) h nx = _ from e); done) | skip
      generalize hl : args.toList.map ρo = al at hv
      cases hv with
      | cons hu hv =>
        cases hv
        rename_i u'
        have hargs : args.map ρo = #[u'] := by rw [map_list, hl]
        cases hsl : isSl ⟨.builtin .len, args, ats⟩ with
        | true =>
          rw [hsl] at e
          have e1 : wLen u h nx = .ok x h' nx' R W := e
          unfold wLen at e1
          obtain ⟨f, h1, nx1, R1, W1, R2, W2, e2, e3, rfl, rfl⟩ := bind_ok e1
          obtain ⟨rfl, rfl, rfl, hh⟩ := fact_ok e2 hu hM
          cases f with
          | wd e0 =>
            simp only at e3
            obtain ⟨a, k, c, rfl, hk0⟩ := nin_words hh
            obtain ⟨hle, v1, r', rfl, hvr, hX⟩ := wval_fact e3 hM hN (v' := .int .i64 (k : Nat)) ⟨k, rfl, hk0⟩ rfl
            refine ⟨hle, _, w, r', ?_, hvr, by simpa using hX⟩
            unfold isSl at hsl
            cases hq : (ats[0]?).bind (sliceT Tryz.prog) with
            | none => rw [hq] at hsl; cases hsl
            | some e2 =>
              obtain ⟨t, ht, hsl2⟩ := Option.bind_eq_some_iff.1 hq
              have hu := run_underlying (sliceT_of hsl2) w
              simp [execOp, hop, resolve, hargs, invoke, builtin, Builtin.len_, ht, hu, goInt]
          | _ => cases (show (fail : M Wf Nxt) _ _ = _ from e3)
        | false =>
          rw [hsl] at e
          obtain ⟨hst, e1⟩ := cond_ok (show cond (isStrT ⟨.builtin .len, args, ats⟩) (wLenS u) fail h nx = _ from e)
          unfold wLenS at e1
          obtain ⟨f, h1, nx1, R1, W1, R2, W2, e2, e3, rfl, rfl⟩ := bind_ok e1
          obtain ⟨rfl, rfl, rfl, hh⟩ := fact_ok e2 hu hM
          cases f with
          | sx e0 =>
            simp only at e3
            obtain rfl : u' = .string (bst (e0.ev ρ.q)) := hh
            obtain ⟨hle, v1, r', rfl, hvr, hX⟩ := wval_fact (f := .ln e0) e3 hM hN (v' := .int .i64 (szN (e0.ev ρ.q) : Nat)) rfl rfl
            refine ⟨hle, _, w, r', ?_, hvr, by simpa using hX⟩
            unfold isStrT at hst
            cases ht : ats[0]? with
            | none => simp only [ht] at hst; cases hst
            | some t =>
              simp only [ht] at hst
              obtain rfl := Nat.eq_of_beq_eq_true hst
              have hu := run_underlying (P := Tryz.prog) Tryz.underlying9 w
              simp [execOp, hop, resolve, hargs, invoke, builtin, Builtin.len_, ht, hu, goInt, bst_size]
          | _ => cases (show (fail : M Wf Nxt) _ _ = _ from e3)
    | _ => cases (show (fail : M Wf Nxt) h nx = _ from e)
  | convert src dst p =>
    rw [hop] at e
    simp only at e
    have hops : o.op.operands.toList.map ρo = [ρo p] := by rw [hop]; rfl
    rw [hops] at hv
    rcases vs with _ | ⟨u, _ | ⟨z, l⟩⟩ <;> first | (cases (show (fail : M Wf Nxt) h nx = _ from e); done) | skip
    cases hv with
    | cons hu hv =>
      obtain ⟨hk, e1⟩ := cond_ok e
      simp only [Bool.and_eq_true] at hk
      obtain rfl := Nat.eq_of_beq_eq_true hk.1
      obtain rfl := Nat.eq_of_beq_eq_true hk.2
      unfold wStr at e1
      obtain ⟨f, h1, nx1, R1, W1, R2, W2, e2, e3, rfl, rfl⟩ := bind_ok e1
      obtain ⟨rfl, rfl, rfl, hh⟩ := fact_ok e2 hu hM
      cases f with
      | by_ e0 =>
        simp only at e3
        obtain ⟨hle, v1, r', rfl, hvr, hX⟩ := wval_fact (f := .sx e0) e3 hM hN (v' := .string (bst (e0.ev ρ.q))) rfl rfl
        refine ⟨hle, _, w, r', ?_, hvr, by simpa using hX⟩
        simp only [execOp, hop]
        rw [Sem.run_bind, bt_convert (w := w) (v := ρo p) (n := e0.ev ρ.q) hh]
        rfl
      | _ => cases (show (fail : M Wf Nxt) _ _ = _ from e3)
  | _ => rw [hop] at e; cases (show (fail : M Wf Nxt) h nx = _ from e)
end
end Ev
end Go.Proofs.YtepnghhgmjobjaaGreatDoor
namespace Go.Proofs.YtepnghhgmjobjaaGreatDoor
open Go.RowKit
end Go.Proofs.YtepnghhgmjobjaaGreatDoor
