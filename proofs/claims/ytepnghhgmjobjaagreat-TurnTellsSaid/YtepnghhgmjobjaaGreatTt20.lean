/- Contracts, in this order: exact: mayBeBytes, Read. · ref90, ref00: numbers of 64 bits; bytes to a number. · ref90: numbers and fractions in memory, as what is known of  · exact: Sub, Quo, Cmp. · exact: Read, of what may be. -/
import Derived.Test.YtepnghhgmjobjaaGreatTt19
import Derived.Laws.IdiomStrings
import Derived.Test.YtepnghhgmjobjaaGreatTt18
import Derived.Lib.ConvBytes
import Derived.Laws.AppendOwn
import Derived.Lib.AtoiErrMem
import Derived.Test.YtepnghhgmjobjaaGreatTt14
namespace Go.Proofs.YtepnghhgmjobjaaGreat
open Go.RowKit
def mayB (s : ByteArray) : Bool := decide (s.size ≤ 512) && !(s.data.toList.head? == some 0)
theorem mayB_bst {n : Nat} (h : szN n ≤ 512) : mayB (bst n) = true := by
  unfold mayB
  have h1 := btx_lead n
  rw [bst_size, bst_list, decide_eq_true h, Bool.true_and, Bool.not_eq_true', beq_eq_false_iff_ne]
  exact h1
theorem mayB_is {s : ByteArray} (h : mayB s = true) : s = bst (Big.bnum s.data.toList) ∧ szN (Big.bnum s.data.toList) ≤ 512 := by
  unfold mayB at h
  rw [Bool.and_eq_true, Bool.not_eq_true', beq_eq_false_iff_ne] at h
  have hl : Lead s.data.toList := h.2
  have e := btx_bnum hl
  have e2 : s = bst (Big.bnum s.data.toList) := by
    unfold bst; rw [e]
  refine ⟨e2, ?_⟩
  have h3 := of_decide_eq_true h.1
  rw [e2, bst_size] at h3
  exact h3
theorem empty_of {s : ByteArray} (h : s.size = 0) : s = ⟨#[]⟩ := by
  have h2 : s.data = #[] := Array.eq_empty_of_size_eq_zero h
  cases s; simp at h2; rw [h2]
theorem size_toList (s : ByteArray) : s.data.toList.length = s.size := by
  show s.data.toList.length = s.data.size; simp
theorem head_get {s : ByteArray} (h : 0 < s.size) : s.data.toList.head? = some s[0] := by
  have hl : 0 < s.data.toList.length := by rw [size_toList]; exact h
  rw [List.head?_eq_getElem?, List.getElem?_eq_getElem hl]; rfl
set_option maxRecDepth 100000 in
set_option maxHeartbeats 4000000 in
theorem mayBe_any (w : World) (s : ByteArray) (hs : s.size ≤ 1000000000000) :
    Calls Tryz.prog 37 #[.string s] w fun e w' => e = .returned (.bool (mayB s)) ∧ w = w' := by
  by_cases h5 : s.size ≤ 512
  · by_cases h0 : s.size = 0
    · have e := empty_of h0
      subst e
      have HD := Lib.hid (show mayB ⟨#[]⟩ = true by decide)
      go_enter Tryz.func37, Tryz.ntmps37
      go_wp2_with fail
      go_ret
      exact ⟨ret_bool HD.out.symm, rfl⟩
    · have i1 : (s.size : Int) ≤ 512 := by omega
      have p0 : 0 < s.size := by omega
      have HD := Lib.hid (show mayB s = ((s[0].toNat : Int) != 0) by
        unfold mayB
        rw [decide_eq_true h5, Bool.true_and, head_get p0, Bool.eq_iff_iff, Bool.not_eq_true', beq_eq_false_iff_ne, bne_iff_ne]
        constructor
        · intro h e; exact h (by rw [Option.some.injEq]; apply UInt8.toNat_inj.1; show _ = 0; omega)
        · intro h e; rw [Option.some.injEq] at e; rw [e] at h; exact h rfl)
      generalize mayB s = z at *
      have hne : ¬ s.toList = [] := by rw [ByteArray.toList_eq]; intro e; have := size_toList s; rw [e] at this; simp at this; omega
      have hne2 : s.toList.isEmpty = false := by rw [Bool.eq_false_iff]; intro e; exact hne (List.isEmpty_iff.1 e)
      clear h0
      go_enter Tryz.func37, Tryz.ntmps37
      go_wp2_with fail
      go_ret
      exact ⟨ret_bool (by rw [HD.out]), rfl⟩
  · have i1 : ¬ (s.size : Int) ≤ 512 := by omega
    have HD := Lib.hid (show mayB s = false by unfold mayB; rw [decide_eq_false h5]; rfl)
    generalize mayB s = z at *
    go_enter Tryz.func37, Tryz.ntmps37
    go_wp2_with fail
    go_ret
    exact ⟨ret_bool HD.out.symm, rfl⟩
end Go.Proofs.YtepnghhgmjobjaaGreat
namespace Go.Proofs.YtepnghhgmjobjaaGreat
namespace R
open Go.RowKit
theorem nin_stable {n : Nat} {w w' : World} {v : Value} (h : Nin w v n) (hk : ∀ (b : Nat) (c : Array Value) (t : TypeId) (z : Nat × Nat), w.heap[b]? = some (.cells c t z) → Nat.beq t 123 = true → w'.heap[b]? = some (.cells c t z)) : Nin w' v n := by
  obtain ⟨l, ⟨A, c, e, h1, h2, h3⟩, ol, nl, hv⟩ := h
  refine ⟨l, ⟨A, c, e, h1, h2, fun hp => ?_⟩, ol, nl, hv⟩
  obtain ⟨b, o, ea, hlt, hc, cs, hcs⟩ := h3 hp
  have hcs' := hk b cs _ _ hcs (Nat.beq_refl _)
  refine ⟨b, o, ea, (Array.getElem?_eq_some_iff.1 hcs').1, fun i hi => ?_, cs, hcs'⟩
  rw [← hc i hi]
  exact World.cell?_of_block (hcs'.trans hcs.symm)
theorem nin_set {w : World} {v x : Value} {n g o : Nat} {c : Array Value} {t : TypeId} {z : Nat × Nat} (h : Nin w v n) (hg : w.heap[g]? = some (.cells c t z)) (ht : Nat.beq t 123 = false) : Nin (w.setCell ⟨g, o, none⟩ x) v n :=
  nin_stable h fun b c' t' z' hb ht' => by
    have hne : g ≠ b := fun e => by
      subst e
      rw [hg] at hb
      simp only [Option.some.injEq, Obj.cells.injEq] at hb
      rw [← hb.2.1, ht] at ht'; cases ht'
    unfold World.setCell
    simp only [Array.getElem?_modify]
    rw [if_neg hne]; exact hb
theorem set_heap {w : World} {b o : Nat} {c : List Value} {t : TypeId} {v : Value} (h : w.heap[b]? = some (.cells ⟨c⟩ t (0, 0))) : (w.setCell ⟨b, o, none⟩ v).heap = w.heap.setIfInBounds b (.cells ⟨c.set o v⟩ t (0, 0)) := by
  apply Array.ext_getElem?
  intro i
  unfold World.setCell
  simp only [Array.getElem?_modify]
  by_cases hi : b = i
  · subst hi
    have hlt := (Array.getElem?_eq_some_iff.1 h).1
    rw [Array.getElem?_setIfInBounds_self_of_lt hlt]
    simp [h]
  · rw [if_neg hi, Array.getElem?_setIfInBounds_ne hi]
theorem cell_at {w : World} {b o : Nat} {c : List Value} {t : TypeId} {v : Value} {z : Nat × Nat} (h : w.heap[b]? = some (.cells ⟨c⟩ t z)) (hv : c[o]? = some v) : w.cell? ⟨b, o, none⟩ = some v := by
  unfold World.cell?
  simp only [h]
  simpa using hv
theorem frozen_at {w : World} {b o : Nat} {c : List Value} {t : TypeId} (h : w.heap[b]? = some (.cells ⟨c⟩ t (0, 0))) : w.frozen? ⟨b, o, none⟩ = false := by
  unfold World.frozen?
  simp [h]
theorem room_at {w : World} {b o : Nat} {c : List Value} {t : TypeId} (h : w.heap[b]? = some (.cells ⟨c⟩ t (0, 0))) (hl : o + 1 < c.length) : Room w b o :=
  ⟨⟨_, cell_at h (List.getElem?_eq_getElem (by omega))⟩, ⟨_, cell_at h (List.getElem?_eq_getElem hl)⟩, frozen_at h, frozen_at h⟩
def NewI (w : World) (b : Nat) (s : Bool) (n : Nat) (w' : World) : Prop :=
  w.heap.size ≤ b ∧ (∃ u, w'.heap[b]? = some (.cells ⟨[.bool s, u]⟩ 85 (0, 0)) ∧ Nin w' u n) ∧ Below w.heap.size w w'
theorem newI_of {w w0 w1 w' : World} {g n : Nat} {s : Bool} {u a b : Value} (h0 : Below w.heap.size w w0) (hg : w.heap.size ≤ g) (hb : w0.heap[g]? = some (.cells ⟨[a, b]⟩ 85 (0, 0)))
    (h1 : Below w0.heap.size w0 w1) (hu : Nin w1 u n) (e : w' = (w1.setCell ⟨g, 0, none⟩ (.bool s)).setCell ⟨g, 1, none⟩ u) : NewI w g s n w' := by
  subst e
  have hlt := (Array.getElem?_eq_some_iff.1 hb).1
  have hb1 : w1.heap[g]? = some (.cells ⟨[a, b]⟩ 85 (0, 0)) := (h1.block g hlt).trans hb
  have hB : Below w.heap.size w w1 := h0.trans (h1.mono h0.size)
  have hB2 : Below w.heap.size w ((w1.setCell ⟨g, 0, none⟩ (.bool s)).setCell ⟨g, 1, none⟩ u) := (hB.setCell hg _).setCell hg _
  have c1 : (w1.setCell ⟨g, 0, none⟩ (.bool s)).heap[g]? = some (.cells ⟨[.bool s, b]⟩ 85 (0, 0)) := by
    rw [set_heap (o := 0) (v := .bool s) hb1, Array.getElem?_setIfInBounds_self_of_lt (Array.getElem?_eq_some_iff.1 hb1).1]; rfl
  have c2 : ((w1.setCell ⟨g, 0, none⟩ (.bool s)).setCell ⟨g, 1, none⟩ u).heap[g]? = some (.cells ⟨[.bool s, u]⟩ 85 (0, 0)) := by
    rw [set_heap (o := 1) (v := u) c1, Array.getElem?_setIfInBounds_self_of_lt (Array.getElem?_eq_some_iff.1 c1).1]; rfl
  refine ⟨hg, ⟨u, c2, ?_⟩, hB2⟩
  exact nin_set (nin_set hu hb1 (by kernel_rfl)) c1 (by kernel_rfl)
set_option maxRecDepth 100000 in
theorem number_bad (w : World) (s : ByteArray) (h : mayB s = false) :
    Calls Tryz.prog 47 #[.string s] w fun e w' => e = .returned (.tuple #[.pointer none, .bool false]) ∧ w = w' := by
  by_cases h5 : s.size ≤ 512
  · by_cases h0 : s.size = 0
    · rw [empty_of h0] at h; cases h
    · have i1 : ¬ (s.size : Int) > 512 := by omega
      have p0 : 0 < s.size := by omega
      have i2 : (s.size : Int) > 0 := by omega
      have HD := (show ((s[0].toNat : Int) == 0) = true by
        unfold mayB at h
        rw [decide_eq_true h5, Bool.true_and, head_get p0, Bool.not_eq_false', beq_iff_eq, Option.some.injEq] at h
        rw [h]; rfl)
      have hne : ¬ s.toList = [] := by rw [ByteArray.toList_eq]; intro e; have := size_toList s; rw [e] at this; simp at this; omega
      have hne2 : s.toList.isEmpty = false := by rw [Bool.eq_false_iff]; intro e; exact hne (List.isEmpty_iff.1 e)
      clear h0 h
      go_enter Tryz.func47, Tryz.ntmps47
      go_wp2_with fail
      exact bodyPost_ret (v := .tuple #[.pointer none, .bool false]) (by simp [results, Tryz.results47, go_sem]) rfl ⟨rfl, rfl⟩
  · have i1 : (s.size : Int) > 512 := by omega
    clear h
    go_enter Tryz.func47, Tryz.ntmps47
    go_wp2_with fail
    exact bodyPost_ret (v := .tuple #[.pointer none, .bool false]) (by simp [results, Tryz.results47, go_sem]) rfl ⟨rfl, rfl⟩
theorem bytesWorld_bt (w : World) (s : ByteArray) (hs : s.size ≤ 512) :
    Bt (Lib.bytesWorld w 5 s) (.slice (some ⟨w.heap.size, 0, none⟩) s.size (grownCap w s.size 0 5)) s.data.toList := by
  have hl := size_toList s
  refine ⟨_, _, by rw [hl], by rw [hl]; exact grownCap_ge _ _ _ _, fun _ => ⟨w.heap.size, 0, rfl, by rw [Lib.bytesWorld_size]; omega, fun i hi => ?_, _, _, Lib.bytesWorld_at_new w 5 s⟩⟩
  rw [Nat.zero_add, Lib.bytesWorld_cell w 5 s i (by omega)]
  simp [List.getD, List.getElem?_eq_getElem hi]
theorem alloc_new (w : World) (c : List Value) (t : TypeId) : (w.alloc (.cells ⟨c⟩ t)).heap[w.heap.size]? = some (.cells ⟨c⟩ t (0, 0)) := by
  show (w.heap.push _)[w.heap.size]? = _
  simp
theorem alloc_below (w : World) (o : Obj) : Below w.heap.size w (w.alloc o) := (Below.refl w.heap.size w).alloc (Nat.le_refl _) o
theorem setNew (w : World) (s : ByteArray) (hs : s.size ≤ 512) :
    Calls Tryz.prog 81 #[.pointer (some ⟨w.heap.size, 0, none⟩), .slice (some ⟨w.heap.size + 1, 0, none⟩) s.size (grownCap (w.alloc (.cells #[.bool false, .slice none 0 0] 85)) s.size 0 5)]
      (Lib.bytesWorld (w.alloc (.cells #[.bool false, .slice none 0 0] 85)) 5 s) fun e w' => e = .returned (.pointer (some ⟨w.heap.size, 0, none⟩)) ∧ NewI w w.heap.size false (Big.bnum s.data.toList) w' := by
  have hnew := alloc_new w [.bool false, .slice none 0 0] 85
  have hb0 := alloc_below w (.cells #[.bool false, .slice none 0 0] 85)
  have hsz : (w.alloc (.cells #[.bool false, .slice none 0 0] 85)).heap.size = w.heap.size + 1 := by show (w.heap.push _).size = _; simp
  have hB := bytesWorld_bt (w.alloc (.cells #[.bool false, .slice none 0 0] 85)) s hs
  have hW := Lib.bytesWorld_below (w.alloc (.cells #[.bool false, .slice none 0 0] 85)) 5 s
  rw [hsz] at hB
  have hnew2 : (Lib.bytesWorld (w.alloc (.cells #[.bool false, .slice none 0 0] 85)) 5 s).heap[w.heap.size]? = some (.cells ⟨[.bool false, .slice none 0 0]⟩ 85 (0, 0)) :=
    (hW.block w.heap.size (by rw [hsz]; omega)).trans hnew
  refine (setBytes_any _ w.heap.size 0 _ _ hB (room_at hnew2 (by simp)) (by rw [size_toList]; omega)).mono ?_
  rintro e w' ⟨rfl, w1, u, h1, h2, h3⟩
  exact ⟨rfl, newI_of (hb0.trans (hW.mono hb0.size)) (Nat.le_refl _) hnew2 h1 h2 h3⟩
set_option maxRecDepth 100000 in
theorem number_ok (w : World) (n : Nat) (h : szN n ≤ 512) :
    Calls Tryz.prog 47 #[.string (bst n)] w fun e w' => ∃ b, e = .returned (.tuple #[.pointer (some ⟨b, 0, none⟩), .bool true]) ∧ NewI w b false n w' := by
  obtain ⟨s, hs⟩ : ∃ s, s = bst n := ⟨_, rfl⟩
  have hsz : s.size ≤ 512 := by rw [hs, bst_size]; exact h
  have HN := Lib.hid (show Big.bnum s.data.toList = n by rw [hs, bst_list, btx_num])
  have HL := Lib.hid (show s.data.toList.head? ≠ some 0 by rw [hs, bst_list]; exact btx_lead n)
  have HC := Lib.hid (setNew w s hsz)
  rw [HN.out] at HC
  rw [← hs]
  clear hs h
  have i1 : ¬ (s.size : Int) > 512 := by omega
  have hcv := fun W => Lib.run_convert_string_bytes (P := Tryz.prog) W 9 119 5 s (u := .string) Tryz.underlying9 Tryz.underlying119 Tryz.underlying5
  by_cases h0 : s.size = 0
  · have i2 : ¬ (s.size : Int) > 0 := by omega
    rw [h0] at HC
    go_enter Tryz.func47, Tryz.ntmps47
    go_wp2_with fail
    refine HC.out.mono ?_
    rintro e w2 ⟨rfl, h2⟩
    have H2 := Lib.hid h2
    clear h2
    go_wp2
    exact bodyPost_ret (v := .tuple #[.pointer (some ⟨w.heap.size, 0, none⟩), .bool true]) (by simp [results, Tryz.results47, go_sem]) rfl ⟨_, rfl, H2.out⟩
  · have p0 : 0 < s.size := by omega
    have i2 : (s.size : Int) > 0 := by omega
    have HD := (show ((s[0].toNat : Int) == 0) = false by
      have := HL.out
      rw [head_get p0] at this
      rw [beq_eq_false_iff_ne]
      intro e; exact this (by rw [Option.some.injEq]; apply UInt8.toNat_inj.1; show _ = 0; omega))
    have hne : ¬ s.toList = [] := by rw [ByteArray.toList_eq]; intro e; have := size_toList s; rw [e] at this; simp at this; omega
    have hne2 : s.toList.isEmpty = false := by rw [Bool.eq_false_iff]; intro e; exact hne (List.isEmpty_iff.1 e)
    go_enter Tryz.func47, Tryz.ntmps47
    go_wp2_with fail
    refine HC.out.mono ?_
    rintro e w2 ⟨rfl, h2⟩
    have H2 := Lib.hid h2
    clear h2
    go_wp2
    exact bodyPost_ret (v := .tuple #[.pointer (some ⟨w.heap.size, 0, none⟩), .bool true]) (by simp [results, Tryz.results47, go_sem]) rfl ⟨_, rfl, H2.out⟩
set_option maxRecDepth 100000 in
theorem setInt64_nat (w : World) (bz oz k : Nat) (hk : k < 9223372036854775808) (hz : Room w bz oz) : Calls Tryz.prog 85 #[.pointer (some ⟨bz, oz, none⟩), .int .i64 (k : Nat)] w (Put w bz oz false k) := by
  have i1 : ¬ (k : Int) < 0 := by omega
  have e1 : IntKind.u64.wrap (k : Int) = (k : Int) := by rw [IntKind.wrap_u64]; omega
  have e2 : IntKind.u32.wrap (k : Int) = ((k % 4294967296 : Nat) : Int) := by rw [IntKind.wrap_u32]; omega
  have e3 : IntKind.u32.wrap ((k : Int) / 4294967296) = ((k / 4294967296 : Nat) : Int) := by rw [IntKind.wrap_u32]; omega
  go_enter Tryz.func85, Tryz.ntmps85
  go_wp2_with fail
  have hW : Wd (w.alloc (.cells #[.int .u32 ((k : Int) % 4294967296), .int .u32 ((k : Int) / 4294967296)] 123)) .u32 (.slice (some ⟨w.heap.size, 0, none⟩) 2 2) [k % 4294967296, k / 4294967296] :=
    Wd.new 2 2 rfl (by simp) (by omega) (alloc_new w [.int .u32 ((k : Int) % 4294967296), .int .u32 ((k : Int) / 4294967296)] 123) (fun i hi => by
      have : i = 0 ∨ i = 1 := by simp at hi; omega
      rcases this with rfl | rfl
      · show some (Value.int .u32 ((k : Int) % 4294967296)) = some (.int .u32 ((k % 4294967296 : Nat) : Int))
        congr 2
      · show some (Value.int .u32 ((k : Int) / 4294967296)) = some (.int .u32 ((k / 4294967296 : Nat) : Int))
        congr 2)
  have hA := alloc_below w (.cells #[.int .u32 ((k : Int) % 4294967296), .int .u32 ((k : Int) / 4294967296)] 123)
  have hok : Big.Ok M32 [k % 4294967296, k / 4294967296] := by
    intro d hd
    simp only [List.mem_cons, List.not_mem_nil, or_false] at hd
    rw [M32_eq]
    omega
  have hval : Big.val M32 [k % 4294967296, k / 4294967296] = k := by
    simp only [Big.val, M32_eq]; omega
  have HZ := Lib.hid (hz.keep hA)
  have HA := Lib.hid hA
  have HT := Lib.hid (trim_any _ _ _ hW)
  clear hW hA hz
  generalize w.alloc (.cells #[.int .u32 ((k : Int) % 4294967296), .int .u32 ((k : Int) / 4294967296)] 123) = wa at *
  refine HT.out.mono ?_
  rintro e w1 ⟨v1, rfl, hv1, rfl⟩
  have HN := Lib.hid (hval ▸ Nin.strip hv1 hok)
  have HP := Lib.hid (put_any wa bz oz k false v1 HN.out HZ.out)
  clear hv1
  go_wp2_with fail
  refine HP.out.mono ?_
  rintro e w2 ⟨rfl, h2⟩
  have H2 := Lib.hid h2
  clear h2
  go_wp2
  go_ret
  exact ⟨rfl, wa, v1, HA.out, HN.out, H2.out.symm⟩
set_option maxRecDepth 100000 in
theorem newInt_nat (w : World) (k : Nat) (hk : k < 9223372036854775808) : Calls Tryz.prog 51 #[.int .i64 (k : Nat)] w fun e w' => ∃ b, e = .returned (.pointer (some ⟨b, 0, none⟩)) ∧ NewI w b false k w' := by
  have hnew := alloc_new w [.bool false, .slice none 0 0] 85
  have hb0 := alloc_below w (.cells #[.bool false, .slice none 0 0] 85)
  have HC := Lib.hid (setInt64_nat (w.alloc (.cells #[.bool false, .slice none 0 0] 85)) w.heap.size 0 k hk (room_at hnew (by simp)))
  have HN := Lib.hid hnew
  have HB := Lib.hid hb0
  clear hnew hb0
  go_enter Tryz.func51, Tryz.ntmps51
  go_wp2_with fail
  refine HC.out.mono ?_
  rintro e w2 ⟨rfl, w1, u, h1, h2, h3⟩
  have H := Lib.hid (newI_of HB.out (Nat.le_refl _) HN.out h1 h2 h3)
  clear h1 h2 h3
  go_wp2
  go_ret
  exact ⟨_, rfl, H.out⟩
set_option maxRecDepth 100000 in
theorem setInt64_neg (w : World) (bz oz k : Nat) (hk0 : 0 < k) (hk : k ≤ 9223372036854775808) (hz : Room w bz oz) : Calls Tryz.prog 85 #[.pointer (some ⟨bz, oz, none⟩), .int .i64 (-(k : Int))] w (Put w bz oz true k) := by
  have i1 : (-(k : Int)) < 0 := by omega
  have e0 : IntKind.u64.wrap (-(k : Int)) = 18446744073709551616 - (k : Int) := by rw [IntKind.wrap_u64]; omega
  have e1 : IntKind.u64.wrap (-(18446744073709551616 - (k : Int))) = (k : Int) := by rw [IntKind.wrap_u64]; omega
  have e2 : IntKind.u32.wrap (k : Int) = ((k % 4294967296 : Nat) : Int) := by rw [IntKind.wrap_u32]; omega
  have e3 : IntKind.u32.wrap ((k : Int) / 4294967296) = ((k / 4294967296 : Nat) : Int) := by rw [IntKind.wrap_u32]; omega
  go_enter Tryz.func85, Tryz.ntmps85
  go_wp2_with fail
  have hW : Wd (w.alloc (.cells #[.int .u32 ((k : Int) % 4294967296), .int .u32 ((k : Int) / 4294967296)] 123)) .u32 (.slice (some ⟨w.heap.size, 0, none⟩) 2 2) [k % 4294967296, k / 4294967296] :=
    Wd.new 2 2 rfl (by simp) (by omega) (alloc_new w [.int .u32 ((k : Int) % 4294967296), .int .u32 ((k : Int) / 4294967296)] 123) (fun i hi => by
      have : i = 0 ∨ i = 1 := by simp at hi; omega
      rcases this with rfl | rfl
      · show some (Value.int .u32 ((k : Int) % 4294967296)) = some (.int .u32 ((k % 4294967296 : Nat) : Int))
        congr 2
      · show some (Value.int .u32 ((k : Int) / 4294967296)) = some (.int .u32 ((k / 4294967296 : Nat) : Int))
        congr 2)
  have hA := alloc_below w (.cells #[.int .u32 ((k : Int) % 4294967296), .int .u32 ((k : Int) / 4294967296)] 123)
  have hok : Big.Ok M32 [k % 4294967296, k / 4294967296] := by
    intro d hd
    simp only [List.mem_cons, List.not_mem_nil, or_false] at hd
    rw [M32_eq]
    omega
  have hval : Big.val M32 [k % 4294967296, k / 4294967296] = k := by
    simp only [Big.val, M32_eq]; omega
  have HZ := Lib.hid (hz.keep hA)
  have HA := Lib.hid hA
  have HT := Lib.hid (trim_any _ _ _ hW)
  have HK := Lib.hid hk0
  clear hW hA hz hk0
  generalize w.alloc (.cells #[.int .u32 ((k : Int) % 4294967296), .int .u32 ((k : Int) / 4294967296)] 123) = wa at *
  refine HT.out.mono ?_
  rintro e w1 ⟨v1, rfl, hv1, rfl⟩
  have HN := Lib.hid (hval ▸ Nin.strip hv1 hok)
  have HP := Lib.hid (put_any wa bz oz k true v1 HN.out HZ.out)
  clear hv1
  go_wp2_with fail
  refine HP.out.mono ?_
  rintro e w2 ⟨rfl, h2⟩
  have H2 := Lib.hid h2
  clear h2
  go_wp2
  go_ret
  exact ⟨rfl, wa, v1, HA.out, HN.out, by have := H2.out; rw [decide_eq_true HK.out] at this; exact this.symm⟩
set_option maxRecDepth 100000 in
theorem newInt_any (w : World) (s : Bool) (k : Nat) (hs : s = true → 0 < k) (hk : k ≤ 9223372036854775808) (hk2 : s = false → k < 9223372036854775808) : Calls Tryz.prog 51 #[.int .i64 (Big.sI s k)] w fun e w' => ∃ b, e = .returned (.pointer (some ⟨b, 0, none⟩)) ∧ NewI w b s k w' := by
  cases s with
  | false => exact newInt_nat w k (hk2 rfl)
  | true =>
    show Calls Tryz.prog 51 #[.int .i64 (-(k : Int))] w _
    have hnew := alloc_new w [.bool false, .slice none 0 0] 85
    have hb0 := alloc_below w (.cells #[.bool false, .slice none 0 0] 85)
    have HC := Lib.hid (setInt64_neg (w.alloc (.cells #[.bool false, .slice none 0 0] 85)) w.heap.size 0 k (hs rfl) hk (room_at hnew (by simp)))
    have HN := Lib.hid hnew
    have HB := Lib.hid hb0
    clear hnew hb0
    go_enter Tryz.func51, Tryz.ntmps51
    go_wp2_with fail
    refine HC.out.mono ?_
    rintro e w2 ⟨rfl, w1, u, h1, h2, h3⟩
    have H := Lib.hid (newI_of HB.out (Nat.le_refl _) HN.out h1 h2 h3)
    clear h1 h2 h3
    go_wp2
    go_ret
    exact ⟨_, rfl, H.out⟩
end R
end Go.Proofs.YtepnghhgmjobjaaGreat
namespace Go.Proofs.YtepnghhgmjobjaaGreat
open Go Go.RowKit
namespace Ev
theorem nin_one {w : World} {v : Value} {n : Nat} (h : R.Nin w v n) : isOne v = true := by
  obtain ⟨a, k, c, rfl⟩ := R.nin_slice h; rfl
def RatIn (w : World) (v : Value) (q : Rat) : Prop := ∃ b, v = .pointer (some ⟨b, 0, none⟩) ∧ Tryz.prog.globals.size ≤ b ∧ ∃ u d, w.heap[b]? = some (.cells ⟨[.bool (Big.ng q), u, .bool false, d]⟩ 87 (0, 0)) ∧ R.Nin w u (Big.nu q) ∧ R.Nin w d (Big.de q)
def IntIn (w : World) (v : Value) (s : Bool) (n : Nat) : Prop := ∃ b, v = .pointer (some ⟨b, 0, none⟩) ∧ Tryz.prog.globals.size ≤ b ∧ ∃ u, w.heap[b]? = some (.cells ⟨[.bool s, u]⟩ 85 (0, 0)) ∧ R.Nin w u n
noncomputable def refHid (t : TypeId) : Bool := Nat.beq t 123 || (Nat.beq t 87 || Nat.beq t 85)
def KeepR (w w' : World) : Prop := ∀ (b : Nat) (c : Array Value) (t : TypeId) (z : Nat × Nat), w.heap[b]? = some (.cells c t z) → refHid t = true → w'.heap[b]? = some (.cells c t z)
theorem KeepR.words {w w' : World} (h : KeepR w w') : ∀ (b : Nat) (c : Array Value) (t : TypeId) (z : Nat × Nat), w.heap[b]? = some (.cells c t z) → Nat.beq t 123 = true → w'.heap[b]? = some (.cells c t z) :=
  fun b c t z h1 h2 => h b c t z h1 (by unfold refHid; rw [h2]; rfl)
theorem ratIn_stable {w w' : World} {v : Value} {q : Rat} (h : RatIn w v q) (hk : KeepR w w') : RatIn w' v q := by
  obtain ⟨b, rfl, hg, u, d, hb, hu, hd⟩ := h
  exact ⟨b, rfl, hg, u, d, hk _ _ _ _ hb (by kernel_rfl), R.nin_stable hu hk.words, R.nin_stable hd hk.words⟩
theorem intIn_stable {w w' : World} {v : Value} {s : Bool} {n : Nat} (h : IntIn w v s n) (hk : KeepR w w') : IntIn w' v s n := by
  obtain ⟨b, rfl, hg, u, hb, hu⟩ := h
  exact ⟨b, rfl, hg, u, hk _ _ _ _ hb (by kernel_rfl), R.nin_stable hu hk.words⟩
theorem Below.keepR {w w' : World} (h : Below w.heap.size w w') : KeepR w w' := fun b c t z h1 _ => (h.block b (Array.getElem?_eq_some_iff.1 h1).1).trans h1
theorem RatIn.keep {w w' : World} {v : Value} {q : Rat} (h : RatIn w v q) (hb : Below w.heap.size w w') : RatIn w' v q := ratIn_stable h (Below.keepR hb)
theorem IntIn.keep {w w' : World} {v : Value} {s : Bool} {n : Nat} (h : IntIn w v s n) (hb : Below w.heap.size w w') : IntIn w' v s n := intIn_stable h (Below.keepR hb)
theorem ratIn_one {w : World} {v : Value} {q : Rat} (h : RatIn w v q) : isOne v = true := by
  obtain ⟨b, rfl, _⟩ := h; rfl
theorem intIn_one {w : World} {v : Value} {s : Bool} {n : Nat} (h : IntIn w v s n) : isOne v = true := by
  obtain ⟨b, rfl, _⟩ := h; rfl
end Ev
end Go.Proofs.YtepnghhgmjobjaaGreat
namespace Go.Proofs.YtepnghhgmjobjaaGreat
open Go.RowKit
set_option maxRecDepth 100000 in
set_option maxHeartbeats 4000000 in
theorem exSub_any (w : World) (vx vy : Value) (q r : Rat) (k : Nat) (hx : NumIn w vx q) (hy : NumIn w vy r) (sx : Sm k q) (sy : Sm k r) (hk : k ≤ 10000000) :
    Calls Tryz.prog 31 #[vx, vy] w (Num1 w (q - r)) := by
  have HQ := Lib.hid hx; have HR := Lib.hid hy; have SN := Lib.hid sy.neg
  obtain ⟨A, l, c, A2, l2, c2, rfl, hx1, hx2⟩ := hx.is_agg
  obtain ⟨B, m, d, B2, m2, d2, rfl, hy1, hy2⟩ := hy.is_agg
  have HX := Lib.hid (And.intro hx1 hx2); have HY := Lib.hid (And.intro hy1 hy2)
  have SX := Lib.hid sx; have SY := Lib.hid sy
  have GX := Lib.hid (And.intro (@Big.ng_pos q) (And.intro (@Big.ng_pos r) (And.intro (Big.de_pos q) (Big.de_pos r))))
  rw [Rat.sub_eq_add_neg]
  clear hx hy hx1 hx2 hy1 hy2 sx sy GX HX HY
  generalize Big.ng q = nq at *
  generalize Big.ng r = nr at *
  go_enter Tryz.func31, Tryz.ntmps31
  go_wp2_with fail
  obtain ⟨X0, Y0, R0, B0⟩ := boxed3 w 37 37 (.bool nq) (.slice A l c) (.slice A2 l2 c2) (.bool nr) (.slice B m d) (.slice B2 m2 d2) (.bool false) (.slice none 0 0) (.slice none 0 0)
  have HX0 := Lib.hid X0; have HY0 := Lib.hid Y0; have HR0 := Lib.hid R0; have HB0 := Lib.hid B0
  clear X0 Y0 R0 B0
  generalize ((w.alloc (.cells #[.bool nq, .slice A l c, .slice A2 l2 c2] 37)).alloc (.cells #[.bool nr, .slice B m d, .slice B2 m2 d2] 37)).alloc (.cells #[.bool false, .slice none 0 0, .slice none 0 0] 37) = w0 at *
  have KX := Lib.hid (fun W (h : Below w0.heap.size w0 W) => And.intro (HX0.out.keep h).c0 (And.intro (HX0.out.keep h).c1 (And.intro (HX0.out.keep h).c2 (And.intro (HY0.out.keep h).c0 (And.intro (HY0.out.keep h).c1 (HY0.out.keep h).c2)))))
  have RES := Lib.hid (fun W (h : Below w0.heap.size w0 W) => HR0.out.keep h)
  have C1 := Lib.hid (fun W (h : Below w0.heap.size w0 W) => liftN h (exNeg_any W _ _ ((HR.out.keep HB0.out).keep h)))
  have C2 := Lib.hid (fun W v (hv : NumIn W v (-r)) (h : Below w0.heap.size w0 W) => liftN h (exAdd_any W _ v _ _ k ((HQ.out.keep HB0.out).keep h) hv SX.out SN.out hk))
  have KP := Lib.hid (fun W x y z (h : Below w0.heap.size w0 W) => show ((((W.setCell ⟨w.heap.size + 1 + 1, 0, none⟩ x).setCell ⟨w.heap.size + 1 + 1, 1, none⟩ y).setCell ⟨w.heap.size + 1 + 1, 2, none⟩ z).cell? ⟨w.heap.size, 0, none⟩ = some (.bool nq)) ∧ ((((W.setCell ⟨w.heap.size + 1 + 1, 0, none⟩ x).setCell ⟨w.heap.size + 1 + 1, 1, none⟩ y).setCell ⟨w.heap.size + 1 + 1, 2, none⟩ z).cell? ⟨w.heap.size, 1, none⟩ = some (.slice A l c)) ∧ ((((W.setCell ⟨w.heap.size + 1 + 1, 0, none⟩ x).setCell ⟨w.heap.size + 1 + 1, 1, none⟩ y).setCell ⟨w.heap.size + 1 + 1, 2, none⟩ z).cell? ⟨w.heap.size, 2, none⟩ = some (.slice A2 l2 c2)) ∧ ((((W.setCell ⟨w.heap.size + 1 + 1, 0, none⟩ x).setCell ⟨w.heap.size + 1 + 1, 1, none⟩ y).setCell ⟨w.heap.size + 1 + 1, 2, none⟩ z).cell? ⟨w.heap.size + 1, 0, none⟩ = some (.bool nr)) ∧ ((((W.setCell ⟨w.heap.size + 1 + 1, 0, none⟩ x).setCell ⟨w.heap.size + 1 + 1, 1, none⟩ y).setCell ⟨w.heap.size + 1 + 1, 2, none⟩ z).cell? ⟨w.heap.size + 1, 1, none⟩ = some (.slice B m d)) ∧ ((((W.setCell ⟨w.heap.size + 1 + 1, 0, none⟩ x).setCell ⟨w.heap.size + 1 + 1, 1, none⟩ y).setCell ⟨w.heap.size + 1 + 1, 2, none⟩ z).cell? ⟨w.heap.size + 1, 2, none⟩ = some (.slice B2 m2 d2)) from by exact ⟨put_cell (KX.out W h).1 (by omega) x y z, put_cell (KX.out W h).2.1 (by omega) x y z, put_cell (KX.out W h).2.2.1 (by omega) x y z, put_cell (KX.out W h).2.2.2.1 (by omega) x y z, put_cell (KX.out W h).2.2.2.2.1 (by omega) x y z, put_cell (KX.out W h).2.2.2.2.2 (by omega) x y z⟩)
  go_region_held3 (fun w' => w'.cell? ⟨w.heap.size, 0, none⟩ = some (.bool nq) ∧ w'.cell? ⟨w.heap.size, 1, none⟩ = some (.slice A l c) ∧ w'.cell? ⟨w.heap.size, 2, none⟩ = some (.slice A2 l2 c2) ∧ w'.cell? ⟨w.heap.size + 1, 0, none⟩ = some (.bool nr) ∧ w'.cell? ⟨w.heap.size + 1, 1, none⟩ = some (.slice B m d) ∧ w'.cell? ⟨w.heap.size + 1, 2, none⟩ = some (.slice B2 m2 d2))
    (first | exact KX.out _ (by first | assumption | exact Below.refl _ _ | exact below_drew (Below.refl _ _) | exact below_drew (by assumption)) | exact KP.out _ _ _ _ (by assumption))
    (first
      | (go_at_call 45; (with_reducible refine (C1.out _ (by first | assumption | exact Below.refl _ _ | exact below_drew (Below.refl _ _) | exact below_drew (by assumption))).mono ?_); rintro e w2 ⟨v2, rfl, hv2, hw2, hw2'⟩)
      | (go_at_call 23; (with_reducible refine (C2.out _ _ (by first | exact hv2 | exact hv2.keep (below_drew (Below.refl _ _))) (by first | assumption | exact Below.refl _ _ | exact below_drew (Below.refl _ _) | exact below_drew (by assumption))).mono ?_); rintro e w3 ⟨v3, rfl, hv3, hw3, hw3'⟩; have RR := RES.out _ hw3; have k0 := RR.c0; have k1 := RR.c1; have k2 := RR.c2; have f0 := RR.frozen 0; have f1 := RR.frozen 1; have f2 := RR.frozen 2; obtain ⟨A8, l8, c8, A9, l9, c9, rfl, h8, h9⟩ := hv3.is_agg; have HH := Lib.hid (And.intro h8 h9); clear hv3 h8 h9; obtain ⟨nz, hnz⟩ : ∃ z, Big.ng (q + -r) = z := ⟨_, rfl⟩; rw [hnz]; have HNZ := Lib.hid hnz; clear hnz)
      | fail)
  obtain ⟨D1, D2, D3⟩ := num_done (bb := nz) (show NumRes w3 _ _ from RR) (HB0.out.trans (hw3.mono HB0.out.size)) (by omega) HH.out.1 HH.out.2 HNZ.out.symm
  have HD1 := Lib.hid D1; have HD2 := Lib.hid D2; have HD3 := Lib.hid D3
  clear D1 D2 D3 k0 k1 k2 f0 f1 f2 RR
  generalize (((w3.setCell ⟨w.heap.size + 1 + 1, 0, none⟩ (.bool (nz))).setCell ⟨w.heap.size + 1 + 1, 1, none⟩ (.slice A8 l8 c8)).setCell ⟨w.heap.size + 1 + 1, 2, none⟩ (.slice A9 l9 c9)) = wz at HD1 HD2 HD3 ⊢
  have r0 := HD1.out.c0; have r1 := HD1.out.c1; have r2 := HD1.out.c2
  go_wp2_with fail
  exact bodyPost_ret (v := .agg #[.bool (nz), (.slice A8 l8 c8), (.slice A9 l9 c9)]) (by simp [results, Tryz.results31, go_sem, r0, r1, r2]) rfl ⟨_, rfl, HD2.out, HD3.out⟩
set_option maxRecDepth 100000 in
set_option maxHeartbeats 4000000 in
theorem exQuo_any (w : World) (vx vy : Value) (q r : Rat) (k : Nat) (hx : NumIn w vx q) (hy : NumIn w vy r) (sx : Sm k q) (sy : Sm k r) (hk : k ≤ 10000000) (h0 : Big.nu r ≠ 0) :
    Calls Tryz.prog 44 #[vx, vy] w (Num1 w (q / r)) := by
  have HQ := Lib.hid hx; have SN := Lib.hid (sy.inv h0)
  obtain ⟨A, l, c, A2, l2, c2, rfl, hx1, hx2⟩ := hx.is_agg
  obtain ⟨B, m, d, B2, m2, d2, rfl, hy1, hy2⟩ := hy.is_agg
  have HX := Lib.hid (And.intro hx1 hx2); have HY := Lib.hid (And.intro hy1 hy2)
  have SX := Lib.hid sx; have SY := Lib.hid sy
  have GX := Lib.hid (And.intro (@Big.ng_pos q) (And.intro (@Big.ng_pos r) (And.intro (Big.de_pos q) (Big.de_pos r))))
  rw [Rat.div_def]
  obtain ⟨i1, i2, i3⟩ := Big.inv_parts r h0
  have HI := Lib.hid (show NumIn w (.agg #[.bool (Big.ng r), .slice B2 m2 d2, .slice B m d]) r⁻¹ from ⟨_, _, by rw [i1], by rw [i2]; exact hy2, by rw [i3]; exact hy1⟩)
  have hm0 := hy1.len_zero
  have t0 : ((m : Int) == 0) = false := beq_eq_false_iff_ne.2 (by omega)
  clear hx hy hx1 hx2 hy1 hy2 sx sy GX HX HY i1 i2 i3 hm0 h0
  generalize Big.ng q = nq at *
  generalize Big.ng r = nr at *
  go_enter Tryz.func44, Tryz.ntmps44
  go_wp2_with fail
  obtain ⟨X0, Y0, R0, B0⟩ := boxed3 w 37 37 (.bool nq) (.slice A l c) (.slice A2 l2 c2) (.bool nr) (.slice B m d) (.slice B2 m2 d2) (.bool false) (.slice none 0 0) (.slice none 0 0)
  have HX0 := Lib.hid X0; have HY0 := Lib.hid Y0; have HR0 := Lib.hid R0; have HB0 := Lib.hid B0
  clear X0 Y0 R0 B0
  generalize ((w.alloc (.cells #[.bool nq, .slice A l c, .slice A2 l2 c2] 37)).alloc (.cells #[.bool nr, .slice B m d, .slice B2 m2 d2] 37)).alloc (.cells #[.bool false, .slice none 0 0, .slice none 0 0] 37) = w0 at *
  refine (exMul_any w0 _ _ _ _ k (HQ.out.keep HB0.out) (HI.out.keep HB0.out) SX.out SN.out hk).mono ?_
  rintro e w3 ⟨v3, rfl, hv3, hw3⟩
  have RR := HR0.out.keep hw3
  have k0 := RR.c0; have k1 := RR.c1; have k2 := RR.c2; have f0 := RR.frozen 0; have f1 := RR.frozen 1; have f2 := RR.frozen 2
  obtain ⟨A8, l8, c8, A9, l9, c9, rfl, h8, h9⟩ := hv3.is_agg
  have HH := Lib.hid (And.intro h8 h9)
  have HBF := Lib.hid (HB0.out.trans (hw3.mono HB0.out.size))
  clear hv3 h8 h9 hw3
  obtain ⟨nz, hnz⟩ : ∃ z, Big.ng (q * r⁻¹) = z := ⟨_, rfl⟩
  rw [hnz]
  have HNZ := Lib.hid hnz
  clear hnz
  go_wp2_with fail
  obtain ⟨D1, D2, D3⟩ := num_done (bb := nz) (show NumRes w3 _ _ from RR) HBF.out (by omega) HH.out.1 HH.out.2 HNZ.out.symm
  have HD1 := Lib.hid D1; have HD2 := Lib.hid D2; have HD3 := Lib.hid D3
  clear D1 D2 D3 k0 k1 k2 f0 f1 f2 RR
  generalize (((w3.setCell ⟨w.heap.size + 1 + 1, 0, none⟩ (.bool (nz))).setCell ⟨w.heap.size + 1 + 1, 1, none⟩ (.slice A8 l8 c8)).setCell ⟨w.heap.size + 1 + 1, 2, none⟩ (.slice A9 l9 c9)) = wz at HD1 HD2 HD3 ⊢
  have r0 := HD1.out.c0; have r1 := HD1.out.c1; have r2 := HD1.out.c2
  exact bodyPost_ret (v := .agg #[.bool (nz), (.slice A8 l8 c8), (.slice A9 l9 c9)]) (by simp [results, Tryz.results44, go_sem, r0, r1, r2]) rfl ⟨_, rfl, HD2.out, HD3.out⟩
end Go.Proofs.YtepnghhgmjobjaaGreat
namespace Go.Proofs.YtepnghhgmjobjaaGreat
open Go.RowKit
def Read1 (w : World) (q : Rat) (e : Ending) (w' : World) : Prop := ∃ v', e = .returned (.tuple #[v', .bool true]) ∧ NumIn w' v' q ∧ Below w.heap.size w w'
theorem bst_ne {n : Nat} (h : n ≠ 0) : ¬ (bst n).toList = [] := by
  rw [ByteArray.toList_eq, bst_list]; intro e
  have h1 := btx_length n
  rw [e] at h1
  have h2 := szN_pos h
  rw [← h1] at h2
  exact absurd h2 (by simp)
theorem bst_ne2 {n : Nat} (h : n ≠ 0) : (bst n).toList.isEmpty = false := by
  rw [Bool.eq_false_iff]; intro e; exact bst_ne h (List.isEmpty_iff.1 e)
set_option maxRecDepth 100000 in
set_option maxHeartbeats 4000000 in
theorem exRead_ok (w : World) (q : Rat) (hf : Fit q) :
    Calls Tryz.prog 11 #[.agg #[.bool (Big.ng q), .string (bst (Big.nu q)), .string (bst (Big.de q))]] w (Read1 w q) := by
  have M1 := Lib.hid (fun W => mayBe_any W (bst (Big.nu q)) (by rw [bst_size]; have := hf.nu; omega))
  have M2 := Lib.hid (fun W => mayBe_any W (bst (Big.de q)) (by rw [bst_size]; have := hf.de; omega))
  rw [mayB_bst hf.nu] at M1
  rw [mayB_bst hf.de] at M2
  have S := Lib.hid hf.sm
  have P := Lib.hid (show NumIn w (.agg #[.bool (Big.ng q), .slice none 0 0, .slice none 0 0]) q → True from fun _ => trivial)
  have F1 := Lib.hid (fun W => fromBytes_num W (Big.nu q) (by have := hf.nu; omega))
  have F2 := Lib.hid (fun W => fromBytes_num W (Big.de q) (by have := hf.de; omega))
  have d1 := bst_ne (n := Big.de q) (by have := Big.de_pos q; omega)
  have d2 := bst_ne2 (n := Big.de q) (by have := Big.de_pos q; omega)
  have n0 : Big.ng q = true → ¬ (bst (Big.nu q)).toList = [] ∧ (bst (Big.nu q)).toList.isEmpty = false := fun h => by
    have h1 := Big.ng_pos h
    exact ⟨bst_ne (by omega), bst_ne2 (by omega)⟩
  obtain ⟨X0, R0, B0⟩ := boxed2 w 23 37 (.bool (Big.ng q)) (.string (bst (Big.nu q))) (.string (bst (Big.de q))) (.bool false) (.slice none 0 0) (.slice none 0 0)
  have HX0 := Lib.hid X0; have HR0 := Lib.hid R0; have HB0 := Lib.hid B0
  have HC := Lib.hid (Big.cop q)
  have HNG := Lib.hid (rfl : Big.ng q = Big.ng q)
  clear hf X0 R0 B0 P HNG
  obtain ⟨nq, hnq⟩ : ∃ z, Big.ng q = z := ⟨_, rfl⟩
  rw [hnq] at n0 HX0 HR0 HB0 ⊢
  have HNQ := Lib.hid hnq
  clear hnq
  have HN0 := Lib.hid n0
  clear n0
  cases nq
  · go_enter Tryz.func11, Tryz.ntmps11
    go_wp2_with fail
    generalize (w.alloc (.cells #[.bool false, .string (bst (Big.nu q)), .string (bst (Big.de q))] 23)).alloc (.cells #[.bool false, .slice none 0 0, .slice none 0 0] 37) = w0 at *
    have x0 := HX0.out.c0; have x1 := HX0.out.c1; have x2 := HX0.out.c2
    go_wp2_with (first
      | (go_at_call 37; with_reducible refine (M1.out _).mono ?_; rintro e w' ⟨rfl, rfl⟩)
      | (go_at_call 37; with_reducible refine (M2.out _).mono ?_; rintro e w' ⟨rfl, rfl⟩))
    clear x0 x1 x2 d1 d2
    have KX := Lib.hid (fun W (h : Below w0.heap.size w0 W) => And.intro (HX0.out.keep h).c1 (HX0.out.keep h).c2)
    have C1 := Lib.hid (fun W (h : Below w0.heap.size w0 W) => lift2 h (F1.out W))
    have C2 := Lib.hid (fun W (h : Below w0.heap.size w0 W) => lift2 h (F2.out W))
    go_region_held3 (fun w' => w'.cell? ⟨w.heap.size, 1, none⟩ = some (.string (bst (Big.nu q))) ∧ w'.cell? ⟨w.heap.size, 2, none⟩ = some (.string (bst (Big.de q))))
      (exact KX.out _ (by first | assumption | exact Below.refl _ _ | exact below_drew (Below.refl _ _) | exact below_drew (by assumption)))
      (first
        | (go_at_call 38; (with_reducible refine (C1.out _ (by first | assumption | exact Below.refl _ _ | exact below_drew (Below.refl _ _) | exact below_drew (by assumption))).mono ?_); rintro e w2 ⟨v2, rfl, hv2, hw2, hw2'⟩)
        | (go_at_call 38; (with_reducible refine (C2.out _ (by first | assumption | exact Below.refl _ _ | exact below_drew (Below.refl _ _) | exact below_drew (by assumption))).mono ?_); rintro e w3 ⟨v3, rfl, hv3, hw3, hw3'⟩)
        | fail)
    have HB3 := Lib.hid (HB0.out.trans (hw3.mono HB0.out.size))
    have HX3 := Lib.hid (HX0.out.keep hw3); have HR3 := Lib.hid (HR0.out.keep hw3)
    have HV := Lib.hid (And.intro (hv2.keep hw3') hv3)
    clear hv2 hv3 hw2 hw2' hw3 hw3' HX0 HR0 HB0 KX C1 C2
    have G := Lib.hid (gcd_num w3 _ _ _ _ 64 64 HV.out.1 HV.out.2 S.out.nu S.out.de (by omega) (by omega))
    rw [HC.out] at G
    go_wp2_with fail
    refine G.out.mono ?_
    rintro e w4 ⟨v4, rfl, hv4, hw4⟩
    have I := Lib.hid (isOne_num w4 v4 1 hv4)
    rw [decide_eq_true rfl] at I
    have HB4 := Lib.hid (HB3.out.trans (hw4.mono HB3.out.size))
    have HX4 := Lib.hid (HX3.out.keep hw4); have HR4 := Lib.hid (HR3.out.keep hw4)
    have HV4 := Lib.hid (And.intro (HV.out.1.keep hw4) (HV.out.2.keep hw4))
    clear hv4 hw4 HB3 HX3 HR3 HV G
    go_wp2_with fail
    refine I.out.mono ?_
    rintro e w' ⟨rfl, rfl⟩
    obtain ⟨A8, l8, c8, rfl, -⟩ := HV4.out.1.is_slice
    obtain ⟨A9, l9, c9, rfl, -⟩ := HV4.out.2.is_slice
    have RR := HR4.out
    have x0 := HX4.out.c0
    have k0 := RR.c0; have k1 := RR.c1; have k2 := RR.c2; have f0 := RR.frozen 0; have f1 := RR.frozen 1; have f2 := RR.frozen 2
    go_wp2_with fail
    obtain ⟨D1, D2, D3⟩ := num_done (bb := false) (show NumRes w4 _ _ from RR) HB4.out (by omega) HV4.out.1 HV4.out.2 HNQ.out.symm
    have HD1 := Lib.hid D1; have HD2 := Lib.hid D2; have HD3 := Lib.hid D3
    clear D1 D2 D3 k0 k1 k2 f0 f1 f2 RR
    generalize (((w4.setCell ⟨w.heap.size + 1, 0, none⟩ (.bool (false))).setCell ⟨w.heap.size + 1, 1, none⟩ (.slice A8 l8 c8)).setCell ⟨w.heap.size + 1, 2, none⟩ (.slice A9 l9 c9)) = wz at HD1 HD2 HD3 ⊢
    have r0 := HD1.out.c0; have r1 := HD1.out.c1; have r2 := HD1.out.c2
    exact bodyPost_ret (v := .tuple #[.agg #[.bool (false), .slice A8 l8 c8, .slice A9 l9 c9], .bool true]) (by simp [results, Tryz.results11, go_sem, r0, r1, r2]) rfl ⟨_, rfl, HD2.out, HD3.out⟩
  · obtain ⟨z1, z2⟩ := HN0.out rfl
    go_enter Tryz.func11, Tryz.ntmps11
    go_wp2_with fail
    generalize (w.alloc (.cells #[.bool true, .string (bst (Big.nu q)), .string (bst (Big.de q))] 23)).alloc (.cells #[.bool false, .slice none 0 0, .slice none 0 0] 37) = w0 at *
    have x0 := HX0.out.c0; have x1 := HX0.out.c1; have x2 := HX0.out.c2
    go_wp2_with (first
      | (go_at_call 37; with_reducible refine (M1.out _).mono ?_; rintro e w' ⟨rfl, rfl⟩)
      | (go_at_call 37; with_reducible refine (M2.out _).mono ?_; rintro e w' ⟨rfl, rfl⟩))
    clear x0 x1 x2 d1 d2
    have KX := Lib.hid (fun W (h : Below w0.heap.size w0 W) => And.intro (HX0.out.keep h).c1 (HX0.out.keep h).c2)
    have C1 := Lib.hid (fun W (h : Below w0.heap.size w0 W) => lift2 h (F1.out W))
    have C2 := Lib.hid (fun W (h : Below w0.heap.size w0 W) => lift2 h (F2.out W))
    go_region_held3 (fun w' => w'.cell? ⟨w.heap.size, 1, none⟩ = some (.string (bst (Big.nu q))) ∧ w'.cell? ⟨w.heap.size, 2, none⟩ = some (.string (bst (Big.de q))))
      (exact KX.out _ (by first | assumption | exact Below.refl _ _ | exact below_drew (Below.refl _ _) | exact below_drew (by assumption)))
      (first
        | (go_at_call 38; (with_reducible refine (C1.out _ (by first | assumption | exact Below.refl _ _ | exact below_drew (Below.refl _ _) | exact below_drew (by assumption))).mono ?_); rintro e w2 ⟨v2, rfl, hv2, hw2, hw2'⟩)
        | (go_at_call 38; (with_reducible refine (C2.out _ (by first | assumption | exact Below.refl _ _ | exact below_drew (Below.refl _ _) | exact below_drew (by assumption))).mono ?_); rintro e w3 ⟨v3, rfl, hv3, hw3, hw3'⟩)
        | fail)
    have HB3 := Lib.hid (HB0.out.trans (hw3.mono HB0.out.size))
    have HX3 := Lib.hid (HX0.out.keep hw3); have HR3 := Lib.hid (HR0.out.keep hw3)
    have HV := Lib.hid (And.intro (hv2.keep hw3') hv3)
    clear hv2 hv3 hw2 hw2' hw3 hw3' HX0 HR0 HB0 KX C1 C2
    have G := Lib.hid (gcd_num w3 _ _ _ _ 64 64 HV.out.1 HV.out.2 S.out.nu S.out.de (by omega) (by omega))
    rw [HC.out] at G
    go_wp2_with fail
    refine G.out.mono ?_
    rintro e w4 ⟨v4, rfl, hv4, hw4⟩
    have I := Lib.hid (isOne_num w4 v4 1 hv4)
    rw [decide_eq_true rfl] at I
    have HB4 := Lib.hid (HB3.out.trans (hw4.mono HB3.out.size))
    have HX4 := Lib.hid (HX3.out.keep hw4); have HR4 := Lib.hid (HR3.out.keep hw4)
    have HV4 := Lib.hid (And.intro (HV.out.1.keep hw4) (HV.out.2.keep hw4))
    clear hv4 hw4 HB3 HX3 HR3 HV G
    go_wp2_with fail
    refine I.out.mono ?_
    rintro e w' ⟨rfl, rfl⟩
    obtain ⟨A8, l8, c8, rfl, -⟩ := HV4.out.1.is_slice
    obtain ⟨A9, l9, c9, rfl, -⟩ := HV4.out.2.is_slice
    have RR := HR4.out
    have x0 := HX4.out.c0
    have k0 := RR.c0; have k1 := RR.c1; have k2 := RR.c2; have f0 := RR.frozen 0; have f1 := RR.frozen 1; have f2 := RR.frozen 2
    go_wp2_with fail
    obtain ⟨D1, D2, D3⟩ := num_done (bb := true) (show NumRes w4 _ _ from RR) HB4.out (by omega) HV4.out.1 HV4.out.2 HNQ.out.symm
    have HD1 := Lib.hid D1; have HD2 := Lib.hid D2; have HD3 := Lib.hid D3
    clear D1 D2 D3 k0 k1 k2 f0 f1 f2 RR
    generalize (((w4.setCell ⟨w.heap.size + 1, 0, none⟩ (.bool (true))).setCell ⟨w.heap.size + 1, 1, none⟩ (.slice A8 l8 c8)).setCell ⟨w.heap.size + 1, 2, none⟩ (.slice A9 l9 c9)) = wz at HD1 HD2 HD3 ⊢
    have r0 := HD1.out.c0; have r1 := HD1.out.c1; have r2 := HD1.out.c2
    exact bodyPost_ret (v := .tuple #[.agg #[.bool (true), .slice A8 l8 c8, .slice A9 l9 c9], .bool true]) (by simp [results, Tryz.results11, go_sem, r0, r1, r2]) rfl ⟨_, rfl, HD2.out, HD3.out⟩
end Go.Proofs.YtepnghhgmjobjaaGreat
