/- Contracts. -/
import Derived.Test.YtnlhjcfpfapafaaESq31
import Derived.Laws.StructEq
import Derived.Deep.RegionHeld3
import Derived.RegionTactic
import Derived.Deep.DeepCutAuto
import Derived.Handy
namespace Go.Proofs.Ytnlhjcfpfapafaa
open Go Go.RowKit
namespace Ev
set_option maxRecDepth 100000
structure RbIn (w : World) (b : Nat) (qs rs : List Rat) : Prop where
 blk : ∃ cl z, w.heap[b]? = some (.cells ⟨cl⟩ 30 z) ∧ RowsAt cl 0 qs rs
theorem RbIn.lt {w : World} {b : Nat} {qs rs : List Rat} (h : RbIn w b qs rs) : b < w.heap.size := by
 obtain ⟨cl, z, h1, _⟩ := h.blk
 exact (Array.getElem?_eq_some_iff.1 h1).1
theorem RbIn.at {w w' : World} {b : Nat} {qs rs : List Rat} (h : RbIn w b qs rs) (hk : w'.heap[b]? = w.heap[b]?) : RbIn w' b qs rs := by
 obtain ⟨cl, z, h1, h2⟩ := h.blk
 exact ⟨cl, z, hk.trans h1, h2⟩
theorem RbIn.keep {w w' : World} {b : Nat} {qs rs : List Rat} (h : RbIn w b qs rs) (hb : Below w.heap.size w w') : RbIn w' b qs rs := h.at (hb.block b h.lt)
theorem RbIn.cells {w : World} {b : Nat} {qs rs : List Rat} (h : RbIn w b qs rs) {i : Nat} (hi : i < qs.length) : ∀ j u, (frC (qs.getD i 0) ++ frC (rs.getD i 0))[j]? = some u → w.cell? ⟨b, i * 6 + j, none⟩ = some u := fun j u hu => by
 obtain ⟨cl, z, h1, h2⟩ := h.blk
 have e1 : qs[i]? = some (qs.getD i 0) := by rw [List.getD_eq_getElem?_getD, List.getElem?_eq_getElem hi]; rfl
 have hir : i < rs.length := by rw [h2.1]; exact hi
 have e2 : rs[i]? = some (rs.getD i 0) := by rw [List.getD_eq_getElem?_getD, List.getElem?_eq_getElem hir]; rfl
 have h6 := h2.2 i _ _ e1 e2
 rw [← h6, List.getElem?_take] at hu
 split at hu
 ·rw [List.getElem?_drop] at hu
  simp only [World.cell?, h1]
  simpa using hu
 ·cases hu
theorem RbIn.six {w : World} {b : Nat} {qs rs : List Rat} (h : RbIn w b qs rs) {i : Nat} (hi : i < qs.length) :
  w.cell? ⟨b, i * 6, none⟩ = some (.bool (Big.ng (qs.getD i 0))) ∧ w.cell? ⟨b, i * 6 + 1, none⟩ = some (.string (bst (Big.nu (qs.getD i 0)))) ∧ w.cell? ⟨b, i * 6 + 2, none⟩ = some (.string (bst (Big.de (qs.getD i 0)))) ∧
  w.cell? ⟨b, i * 6 + 3, none⟩ = some (.bool (Big.ng (rs.getD i 0))) ∧ w.cell? ⟨b, i * 6 + 4, none⟩ = some (.string (bst (Big.nu (rs.getD i 0)))) ∧ w.cell? ⟨b, i * 6 + 5, none⟩ = some (.string (bst (Big.de (rs.getD i 0)))) :=
 ⟨h.cells hi 0 _ rfl, h.cells hi 1 _ rfl, h.cells hi 2 _ rfl, h.cells hi 3 _ rfl, h.cells hi 4 _ rfl, h.cells hi 5 _ rfl⟩
theorem fit_half {q r : Rat} (h1 : Sm 1 q) (h2 : Sm 1 r) : Fit (q + r) ∧ Sm 4 ((q + r) * (1 / 2)) := by
 have h : Sm 1 (1 / 2 : Rat) := by
  have := ofQ_sm (n := 1) (d := 2) (by omega) (by omega) (by omega) (by omega)
  have e : ofQ 1 ((2 : Nat) : Int) = 1 / 2 := by rw [ofQ_val (by omega)]; norm_cast
  rwa [e] at this
 exact ⟨sm_fit (sm_add1 h1 h2) (by omega), (sm_add1 h1 h2).mul h⟩
def rwsC (qs rs : List Rat) : Nat → Nat → List Value
 | _, 0 => []
 | lo, n + 1 => (frC (qs.getD lo 0) ++ frC (rs.getD lo 0)) ++ rwsC qs rs (lo + 1) n
theorem rwsC_len (qs rs : List Rat) : ∀ n lo, (rwsC qs rs lo n).length = n * 6
 | 0, _ => rfl
 | n + 1, lo => by
  show ((frC _ ++ frC _) ++ rwsC qs rs (lo + 1) n).length = _
  rw [List.length_append, rwsC_len qs rs n]
  show 6 + n * 6 = _
  omega
theorem rwsC_at (qs rs : List Rat) : ∀ n lo i, i < n → ((rwsC qs rs lo n).drop (i * 6)).take 6 = frC (qs.getD (lo + i) 0) ++ frC (rs.getD (lo + i) 0)
 | 0, _, _, h => absurd h (Nat.not_lt_zero _)
 | n + 1, lo, 0, _ => rfl
 | n + 1, lo, i + 1, h => by
  show (((frC _ ++ frC _) ++ rwsC qs rs (lo + 1) n).drop ((i + 1) * 6)).take 6 = _
  have e : (i + 1) * 6 = (frC (qs.getD lo 0) ++ frC (rs.getD lo 0)).length + i * 6 := by
   show _ = 6 + i * 6
   omega
  rw [e, List.drop_append, List.drop_eq_nil_of_le (by omega), List.nil_append, Nat.add_sub_cancel_left, rwsC_at qs rs n (lo + 1) i (by omega)]
  rw [show lo + 1 + i = lo + (i + 1) by omega]
theorem rwsC_add (qs rs : List Rat) : ∀ n m lo, rwsC qs rs lo (n + m) = rwsC qs rs lo n ++ rwsC qs rs (lo + n) m
 | 0, m, lo => by rw [Nat.zero_add]; rfl
 | n + 1, m, lo => by
  rw [show n + 1 + m = (n + m) + 1 by omega]
  show (frC _ ++ frC _) ++ rwsC qs rs (lo + 1) (n + m) = ((frC _ ++ frC _) ++ rwsC qs rs (lo + 1) n) ++ _
  rw [rwsC_add qs rs n m (lo + 1), show lo + 1 + n = lo + (n + 1) by omega]
  simp only [List.append_assoc]
theorem rwsC_congr {qs rs ps ts : List Rat} : ∀ n lo lo', (∀ t, t < n → qs.getD (lo + t) 0 = ps.getD (lo' + t) 0 ∧ rs.getD (lo + t) 0 = ts.getD (lo' + t) 0) → rwsC qs rs lo n = rwsC ps ts lo' n
 | 0, _, _, _ => rfl
 | n + 1, lo, lo', h => by
  have h0 := h 0 (by omega)
  show (frC (qs.getD lo 0) ++ frC (rs.getD lo 0)) ++ rwsC qs rs (lo + 1) n = (frC (ps.getD lo' 0) ++ frC (ts.getD lo' 0)) ++ rwsC ps ts (lo' + 1) n
  rw [Nat.add_zero, Nat.add_zero] at h0
  rw [h0.1, h0.2, rwsC_congr n (lo + 1) (lo' + 1) fun t ht => by
   have := h (t + 1) (by omega)
   rwa [show lo + (t + 1) = lo + 1 + t by omega, show lo' + (t + 1) = lo' + 1 + t by omega] at this]
theorem rwsC_one (qs rs : List Rat) : ∀ n lo, ∀ u ∈ rwsC qs rs lo n, u.oneCell' = true
 | 0, _, u, h => by cases h
 | n + 1, lo, u, h => by
  have h' : u ∈ (frC (qs.getD lo 0) ++ frC (rs.getD lo 0)) ++ rwsC qs rs (lo + 1) n := h
  rcases List.mem_append.1 h' with h | h
  ·simp only [frC, List.cons_append, List.nil_append, List.mem_cons, List.not_mem_nil, or_false] at h
   rcases h with h | h | h | h | h | h <;> rw [h] <;> rfl
  ·exact rwsC_one qs rs n (lo + 1) u h
theorem rwsC_mid (qs rs : List Rat) {i : Nat} (h0 : i ≤ qs.length) (h1 : rs.length = qs.length) : rwsC (midL qs i) (midL rs i) 0 (qs.length + 1) = rwsC qs rs 0 i ++ (frC ((qs.getD (i - 1) 0 + qs.getD i 0) * (1 / 2)) ++ frC ((rs.getD (i - 1) 0 + rs.getD i 0) * (1 / 2))) ++ rwsC qs rs i (qs.length - i) := by
 rw [show qs.length + 1 = i + (1 + (qs.length - i)) by omega, rwsC_add, rwsC_add, Nat.zero_add, ← List.append_assoc]
 have hr : i ≤ rs.length := by omega
 have e1 : rwsC (midL qs i) (midL rs i) 0 i = rwsC qs rs 0 i := rwsC_congr i 0 0 fun t ht => by rw [Nat.zero_add, midL_low qs h0 ht, midL_low rs hr ht]; exact ⟨rfl, rfl⟩
 have e2 : rwsC (midL qs i) (midL rs i) i 1 = frC ((qs.getD (i - 1) 0 + qs.getD i 0) * (1 / 2)) ++ frC ((rs.getD (i - 1) 0 + rs.getD i 0) * (1 / 2)) := by
  show (frC ((midL qs i).getD i 0) ++ frC ((midL rs i).getD i 0)) ++ [] = _
  rw [midL_at qs h0, midL_at rs hr, List.append_nil]
 have e3 : rwsC (midL qs i) (midL rs i) (i + 1) (qs.length - i) = rwsC qs rs i (qs.length - i) := rwsC_congr _ _ _ fun t _ => by
  rw [midL_up qs h0 (by omega), midL_up rs hr (by omega), show i + 1 + t - 1 = i + t by omega]
  exact ⟨rfl, rfl⟩
 rw [e1, e2, e3]
theorem RbIn.news {w : World} {b : Nat} {qs rs : List Rat} (h : RbIn w b qs rs) : ∀ n lo, lo + n ≤ qs.length → ∀ j u, (rwsC qs rs lo n)[j]? = some u → w.cell? (Addr.add ⟨b, lo * 6, none⟩ j) = some u
 | 0, _, _, _, _, hu => by cases hu
 | n + 1, lo, hl, j, u, hu => by
  have hu' : ((frC (qs.getD lo 0) ++ frC (rs.getD lo 0)) ++ rwsC qs rs (lo + 1) n)[j]? = some u := hu
  by_cases hj : j < 6
  ·rw [List.getElem?_append_left (by show j < 6; exact hj)] at hu'
   rw [add_off]
   exact h.cells (i := lo) (by omega) j u hu'
  ·rw [List.getElem?_append_right (by show 6 ≤ j; omega)] at hu'
   have := RbIn.news h n (lo + 1) (by omega) (j - 6) u hu'
   rw [add_off] at this ⊢
   rwa [show (lo + 1) * 6 + (j - 6) = lo * 6 + j by omega] at this
theorem own_rows {w : World} {base n : Nat} {v : Value} {qs rs : List Rat} (hlr : rs.length = qs.length) (hn : n = qs.length) (hne : qs ≠ []) (h : w.ownsRow base 30 6 v n (rwsC qs rs 0 qs.length)) : ∃ g cap, v = .slice (some ⟨g, 0, none⟩) qs.length cap ∧ RlIn w v qs rs := by
 subst hn
 have hp : 0 < qs.length := List.length_pos_iff.2 hne
 rcases h.2 with ⟨_, h⟩ | ⟨g, cap, cur, rfl, hb, hg, hn, _, hs, ht⟩
 ·omega
 ·refine ⟨g, cap, rfl, _, _, rfl, hn, fun _ => ⟨g, 0, cur.toList, _, _, rfl, hg, hlr, fun i q p h1 h2 => ?_⟩⟩
  have hil := (List.getElem?_eq_some_iff.1 h1).1
  have e1 : q = qs.getD i 0 := by rw [List.getD_eq_getElem?_getD, h1]; rfl
  have e2 : p = rs.getD i 0 := by rw [List.getD_eq_getElem?_getD, h2]; rfl
  have h3 := rwsC_at qs rs qs.length 0 i hil
  rw [Nat.zero_add, ← ht, List.drop_take, List.take_take, Nat.min_eq_left (by omega)] at h3
  rw [Nat.zero_add, e1, e2]
  exact h3
theorem mid_fits {qs : List Rat} {i : Nat} (hq : ∀ y ∈ qs, Fit y) (hm : Fit ((qs.getD (i - 1) 0 + qs.getD i 0) * (1 / 2))) : ∀ y ∈ midL qs i, Fit y := fun y hy => by
 rcases List.mem_append.1 hy with h | h
 ·exact hq y (List.mem_of_mem_take h)
 ·rcases List.mem_cons.1 h with rfl | h
  ·exact hm
  ·exact hq y (List.mem_of_mem_drop h)
theorem tores_ex (o : Option Rat) : ∃ (x0 : Bool) (x1 x2 : ByteArray) (c : Int), ∀ e, ToRes o e → e = .returned (.tuple #[.agg #[.bool x0, .string x1, .string x2], .int .i64 c]) := by
 cases o with
 | none => exact ⟨false, ⟨#[]⟩, ⟨#[]⟩, 130, fun e h => h⟩
 | some y =>
  by_cases hf : Fit y
  ·refine ⟨Big.ng y, bst (Big.nu y), bst (Big.de y), 0, fun e h => ?_⟩
   rcases h with ⟨_, h⟩ | ⟨h, _⟩
   ·exact h
   ·exact absurd hf h
  ·refine ⟨false, ⟨#[]⟩, ⟨#[]⟩, 3, fun e h => ?_⟩
   rcases h with ⟨h, _⟩ | ⟨_, h⟩
   ·exact absurd h hf
   ·exact h
@[go_sem] theorem eq_sameS (a : Bool) (s t : ByteArray) (w : World) : (Op.equalIn 10000 27 (.agg #[.bool a, .string s, .string t]) (.agg #[.bool a, .string s, .string t])).run Try.prog w = .ok true w := by
 have hS : Try.prog.underlying 27 = some (.struct (Try.prog.fieldsOf 27)) := by kernel_rfl
 have hp : Try.prog.stoodInHeld 27 = false := by kernel_rfl
 rw [show (10000 : Nat) = 9999 + 1 from rfl, run_equalIn_struct w 9999 27 _ _ hS hp]
 simp only [Program.fieldsOf, Try.underlying27]
 go_simp
def RetX (b w : World) (v : Value) (n : Int) (e : Ending) (w' : World) : Prop := e = .returned (.tuple #[v, .int .i64 n]) ∧ Below b.heap.size b w' ∧ Below w.heap.size w w'
theorem liftR {P : Program} {f : FuncId} {args : Array Value} {b W : World} {v : Value} {n : Int} (h : Below b.heap.size b W) (c : Calls P f args W (Ret2 W v n)) : Calls P f args W (RetX b W v n) :=
 c.mono fun _ _ ⟨h1, h3⟩ => ⟨h1, h.trans (h3.mono h.size), h3⟩
theorem newdrew {w w' : World} {T : TypeId} {a b c : Value} (h : Below (w.alloc (.cells #[a, b, c] T)).drew.heap.size (w.alloc (.cells #[a, b, c] T)).drew w') : At3 w' w.heap.size T a b c :=
 At3.keep (w := (w.alloc (.cells #[a, b, c] T)).drew) (show At3 (w.alloc (.cells #[a, b, c] T)) w.heap.size T a b c from At3.new w T a b c) h
set_option maxHeartbeats 4000000 in
theorem endsSpare_any (w : World) {ss : List (Nat × Nat)} {v : Value} {at0 : Nat} {n : Int} (ha : at0 < 256) (hn : -32768 ≤ n ∧ n ≤ 32767) (hv : StIn w.heap.size w v ss) (hG : Try.prog.globals.size ≤ w.heap.size) (hT : natSig.base w) :
  Calls Try.prog 5 #[v, .int .u8 at0, .int .i16 n] w fun e w' => e = .returned (.bool true) ∧ Below w.heap.size w w' := by
 have hs : ∀ p ∈ ss, p.1 < 256 ∧ p.2 < 256 := by obtain ⟨_, _, _, h, _⟩ := hv; exact h
 obtain ⟨N, hN⟩ : ∃ N, N = min ss.length 29 + 1 := ⟨_, rfl⟩
 have hN30 : N ≤ 30 := by omega
 have hN1 : 1 ≤ N := by omega
 obtain ⟨qs, hqs⟩ : ∃ l, l = rwQ ss N := ⟨_, rfl⟩
 obtain ⟨rs, hrs⟩ : ∃ l, l = rwR ss N := ⟨_, rfl⟩
 have hq1 : ∀ q ∈ qs, Sm 1 q := by rw [hqs]; exact rwQ_sm hs hN30
 have hr1 : ∀ q ∈ rs, Sm 1 q := by rw [hrs]; exact rwR_sm hs hN30
 have hRq : Rises qs := by rw [hqs]; exact rwQ_rises _
 have hRr : Rises rs := by rw [hrs]; exact rwR_rises _
 have hl1 : qs.length = N := by rw [hqs]; simp [rwQ]
 have hl2 : rs.length = N := by rw [hrs]; simp [rwR]
 have hlr : rs.length = qs.length := hl2.trans hl1.symm
 have hne : qs ≠ [] := fun h => by rw [h] at hl1; simp at hl1; omega
 have hqf : ∀ q ∈ qs, Fit q := fun q h => sm_fit (hq1 q h) (by omega)
 have hrf : ∀ q ∈ rs, Fit q := fun q h => sm_fit (hr1 q h) (by omega)
 have CR := Lib.hid (rows_any w hv)
 rw [← hN, ← hqs, ← hrs] at CR
 have CN := Lib.hid (fun (W : World) (u : Value) (hb : Below w.heap.size w W) (h : RlIn W u qs rs) => new_any W hqf hrf hlr hne (by omega) hRq hRr h (Nat.le_trans hG hb.size) (baseUp hG hT hb))
 have CW := Lib.hid (fun (W : World) (hb : Below w.heap.size w W) => show Calls Try.prog 13 #[] W fun e w' => e = .returned (.bool true) ∧ Below W.heap.size W w' from runsN_calls (l := []) (fun _ h => by cases h) works13_run (by kernel_rfl) (Nat.le_trans hG hb.size) (baseUp hG hT hb))
 have HG := Lib.hid hG; have HT := Lib.hid hT
 clear hG hT hv hne hN hqs hrs hl2 hs
 go_enter Try.func5, Try.ntmps5
 go_wp2_with fail
 refine CR.out.mono ?_
 rintro e w1 ⟨u, rfl, ⟨b, m, cl, z, rfl, hm, hbw, hblk, hrow⟩, hb1⟩
 have RB1 := Lib.hid (RbIn.mk ⟨cl, z, hblk, hrow⟩)
 have RL1 := Lib.hid (show RlIn w1 (.slice (some ⟨b, 0, none⟩) qs.length m) qs rs from ⟨_, _, rfl, hm, fun _ => ⟨b, 0, cl, _, z, rfl, hblk, hrow⟩⟩)
 have HB1 := Lib.hid hb1
 clear hblk hrow hb1 cl z
 rw [hl1] at RL1 ⊢
 by_cases h2 : N < 2
 ·have h2' : (N : Int) < 2 := by omega
  go_wp2_with (go_at_call 7; with_reducible refine (CN.out _ _ HB1.out RL1.out).mono ?_; rintro e w2 ⟨t, rfl, ht, hb2⟩)
  have HT2 := Lib.hid ht
  obtain ⟨tb, _, _, _, rfl, _⟩ := ht
  have HB2 := Lib.hid (HB1.out.trans (hb2.mono HB1.out.size))
  have RB2 := Lib.hid (RB1.out.keep hb2)
  clear hb2 RB1
  go_wp2_with (go_at_call 13; with_reducible refine (CW.out _ HB2.out).mono ?_; rintro e w3 ⟨rfl, hb3⟩)
  go_ret
  exact ⟨rfl, HB2.out.trans (hb3.mono HB2.out.size)⟩
 have h2' : ¬ (N : Int) < 2 := by omega
 go_wp2_with (go_at_call 7; with_reducible refine (CN.out _ _ HB1.out RL1.out).mono ?_; rintro e w2 ⟨t, rfl, ht, hb2⟩)
 have HT2 := Lib.hid ht
 obtain ⟨tb, _, _, _, rfl, _⟩ := ht
 have HB2 := Lib.hid (HB1.out.trans (hb2.mono HB1.out.size))
 have RB2 := Lib.hid (RB1.out.keep hb2)
 clear hb2 RB1
 obtain ⟨k, hk, hkN⟩ : ∃ k : Nat, wrap64 (1 + (at0 : Int) % ((N : Int) - 1)) = (k : Int) + 1 ∧ k + 1 < N := by
  refine ⟨at0 % (N - 1), ?_, ?_⟩
  ·have h : (at0 : Int) % ((N : Int) - 1) = ((at0 % (N - 1) : Nat) : Int) := by
    rw [show ((N : Int) - 1) = ((N - 1 : Nat) : Int) by omega]; rfl
   have h3 : at0 % (N - 1) ≤ at0 := Nat.mod_le _ _
   rw [h]; unfold wrap64; omega
  ·have := Nat.mod_lt at0 (show 0 < N - 1 by omega)
   omega
 have CO := Lib.hid (fun (W : World) => show Calls Try.prog 8 #[.int .i64 1, .int .i64 2] W fun e w' => e = .returned (.agg #[.bool (Big.ng (ofQ 1 2)), .string (bst (Big.nu (ofQ 1 2))), .string (bst (Big.de (ofQ 1 2)))]) ∧ Below W.heap.size W w' from of13_any W 1 2 (by omega) (by omega) (by omega) (by omega) (by omega))
 have e12 : ofQ 1 2 = 1 / 2 := by
  have e : ofQ 1 ((2 : Nat) : Int) = 1 / 2 := by rw [ofQ_val (by omega)]; norm_cast
  exact e
 rw [e12] at CO
 clear e12
 go_wp2_with fail
 rw [hk]
 refine (CO.out _).mono ?_
 rintro e w3 ⟨rfl, hb3⟩
 have RB3 := Lib.hid (RB2.out.keep hb3)
 have HB3 := Lib.hid (HB2.out.trans (hb3.mono HB2.out.size))
 have HT3 := Lib.hid (HT2.out.stay (below_keptT hb3))
 clear hb3 RB2 HT2
 obtain ⟨H, hH⟩ : ∃ H : Rat, H = 1 / 2 := ⟨_, rfl⟩
 rw [← hH]
 have HH := Lib.hid hH
 clear hH hk
 have A0 := At3.new w3 27 (.bool (Big.ng H)) (.string (bst (Big.nu H))) (.string (bst (Big.de H)))
 have B0 := below_alloc (Below.refl w3.heap.size w3) (Nat.le_refl _) (.cells #[.bool (Big.ng H), .string (bst (Big.nu H)), .string (bst (Big.de H))] 27)
 have HA0 := Lib.hid A0; have HB0 := Lib.hid B0
 clear A0 B0
 go_upto_region 7 with fail
 generalize w3.alloc (.cells #[.bool (Big.ng H), .string (bst (Big.nu H)), .string (bst (Big.de H))] 27) = w4 at HA0 HB0 ⊢
 have RB4 := Lib.hid (RB3.out.keep HB0.out)
 have HB4 := Lib.hid (HB3.out.trans (HB0.out.mono HB3.out.size))
 have HT4 := Lib.hid (HT3.out.stay (below_keptT HB0.out))
 obtain ⟨g, hg⟩ : ∃ g, g = w3.heap.size := ⟨_, rfl⟩
 rw [← hg] at HA0 ⊢
 clear HB0 HB3 HT3 RB3 hg
 clear w3
 have hk0 : k < qs.length := by omega
 have hk1 : k + 1 < qs.length := by omega
 have HQ := Lib.hid (show ∀ (l : List Rat) (i : Nat), (∀ q ∈ l, Sm 1 q) → Sm 1 (l.getD i 0) from fun l i hl => by
  rw [List.getD_eq_getElem?_getD]
  cases hi : l[i]? with
  | none => exact sm_zero (Nat.le_refl _)
  | some q => exact hl q (List.mem_of_getElem? hi))
 obtain ⟨q0, hq0⟩ : ∃ q, q = qs.getD k 0 := ⟨_, rfl⟩
 obtain ⟨q1, hq1'⟩ : ∃ q, q = qs.getD (k + 1) 0 := ⟨_, rfl⟩
 obtain ⟨r0, hr0⟩ : ∃ q, q = rs.getD k 0 := ⟨_, rfl⟩
 obtain ⟨r1, hr1'⟩ : ∃ q, q = rs.getD (k + 1) 0 := ⟨_, rfl⟩
 have s0 : Sm 1 q0 := by rw [hq0]; exact HQ.out _ _ hq1
 have s1 : Sm 1 q1 := by rw [hq1']; exact HQ.out _ _ hq1
 have t0 : Sm 1 r0 := by rw [hr0]; exact HQ.out _ _ hr1
 have t1 : Sm 1 r1 := by rw [hr1']; exact HQ.out _ _ hr1
 have K6 := Lib.hid (fun W (h : RbIn W b qs rs) => And.intro (h.six hk0) (h.six hk1))
 rw [← hq0, ← hq1', ← hr0, ← hr1'] at K6
 have KQ := Lib.hid (fun W (h : Below w4.heap.size w4 W) => show W.cell? ⟨b, k * 6, none⟩ = some (.bool (Big.ng q0)) ∧ W.cell? ⟨b, k * 6 + 1, none⟩ = some (.string (bst (Big.nu q0))) ∧ W.cell? ⟨b, k * 6 + 2, none⟩ = some (.string (bst (Big.de q0))) ∧ W.cell? ⟨b, (k + 1) * 6, none⟩ = some (.bool (Big.ng q1)) ∧ W.cell? ⟨b, (k + 1) * 6 + 1, none⟩ = some (.string (bst (Big.nu q1))) ∧ W.cell? ⟨b, (k + 1) * 6 + 2, none⟩ = some (.string (bst (Big.de q1))) from by
  obtain ⟨⟨a, b, c, _⟩, d, e, f, _⟩ := K6.out W (RB4.out.keep h)
  exact ⟨a, b, c, d, e, f⟩)
 have KR := Lib.hid (fun W (h : Below w4.heap.size w4 W) => show W.cell? ⟨b, k * 6 + 3, none⟩ = some (.bool (Big.ng r0)) ∧ W.cell? ⟨b, k * 6 + 4, none⟩ = some (.string (bst (Big.nu r0))) ∧ W.cell? ⟨b, k * 6 + 5, none⟩ = some (.string (bst (Big.de r0))) ∧ W.cell? ⟨b, (k + 1) * 6 + 3, none⟩ = some (.bool (Big.ng r1)) ∧ W.cell? ⟨b, (k + 1) * 6 + 4, none⟩ = some (.string (bst (Big.nu r1))) ∧ W.cell? ⟨b, (k + 1) * 6 + 5, none⟩ = some (.string (bst (Big.de r1))) from by
  obtain ⟨⟨_, _, _, a, b, c⟩, _, _, _, d, e, f⟩ := K6.out W (RB4.out.keep h)
  exact ⟨a, b, c, d, e, f⟩)
 have CA := Lib.hid (fun (b : World) W (h : Below b.heap.size b W) => show Calls Try.prog 16 #[.agg #[.bool (Big.ng (q0)), .string (bst (Big.nu (q0))), .string (bst (Big.de (q0)))], .agg #[.bool (Big.ng (q1)), .string (bst (Big.nu (q1))), .string (bst (Big.de (q1)))]] W (RetX b W (.agg #[.bool (Big.ng (q0 + q1)), .string (bst (Big.nu (q0 + q1))), .string (bst (Big.de (q0 + q1)))]) 0) from liftR h (raAdd_fit W q0 q1 (sm_fit s0 (by omega)) (sm_fit s1 (by omega)) (fit_half s0 s1).1))
 have CB := Lib.hid (fun (b : World) W (h : Below b.heap.size b W) => show Calls Try.prog 16 #[.agg #[.bool (Big.ng (r0)), .string (bst (Big.nu (r0))), .string (bst (Big.de (r0)))], .agg #[.bool (Big.ng (r1)), .string (bst (Big.nu (r1))), .string (bst (Big.de (r1)))]] W (RetX b W (.agg #[.bool (Big.ng (r0 + r1)), .string (bst (Big.nu (r0 + r1))), .string (bst (Big.de (r0 + r1)))]) 0) from liftR h (raAdd_fit W r0 r1 (sm_fit t0 (by omega)) (sm_fit t1 (by omega)) (fit_half t0 t1).1))
 obtain ⟨F, hF⟩ : ∃ F, F = (q0 + q1) * H := ⟨_, rfl⟩
 obtain ⟨G, hGG⟩ : ∃ G, G = (r0 + r1) * H := ⟨_, rfl⟩
 have sF : Sm 4 F := by rw [hF, HH.out]; exact (fit_half s0 s1).2
 have sG : Sm 4 G := by rw [hGG, HH.out]; exact (fit_half t0 t1).2
 have fH : Fit H := by
  rw [HH.out, ← show ofQ 1 ((2 : Nat) : Int) = 1 / 2 by rw [ofQ_val (by omega)]; norm_cast]
  exact sm_fit (k := 1) (ofQ_sm (by omega) (by omega) (by omega) (by omega)) (by omega)
 have CMF := Lib.hid (fun W => show Calls Try.prog 18 #[.agg #[.bool (Big.ng (q0 + q1)), .string (bst (Big.nu (q0 + q1))), .string (bst (Big.de (q0 + q1)))], .agg #[.bool (Big.ng (H)), .string (bst (Big.nu (H))), .string (bst (Big.de (H)))]] W fun e w' => e = .returned (.tuple #[.agg #[.bool (Big.ng (F)), .string (bst (Big.nu (F))), .string (bst (Big.de (F)))], .int .i64 0]) ∧ Below W.heap.size W w' from by
  have c := raMul_fit W (q0 + q1) H (fit_half s0 s1).1 fH (by rw [← hF]; exact sm_fit sF (by omega))
  rw [← hF] at c
  exact c)
 have CMG := Lib.hid (fun W => show Calls Try.prog 18 #[.agg #[.bool (Big.ng (r0 + r1)), .string (bst (Big.nu (r0 + r1))), .string (bst (Big.de (r0 + r1)))], .agg #[.bool (Big.ng (H)), .string (bst (Big.nu (H))), .string (bst (Big.de (H)))]] W fun e w' => e = .returned (.tuple #[.agg #[.bool (Big.ng (G)), .string (bst (Big.nu (G))), .string (bst (Big.de (G)))], .int .i64 0]) ∧ Below W.heap.size W w' from by
  have c := raMul_fit W (r0 + r1) H (fit_half t0 t1).1 fH (by rw [← hGG]; exact sm_fit sG (by omega))
  rw [← hGG] at c
  exact c)
 have HFG := Lib.hid (And.intro (And.intro hF hGG) (And.intro sF sG))
 clear hF hGG sF sG fH
 have HQQ := Lib.hid (And.intro (And.intro hq0 hq1') (And.intro hr0 hr1'))
 have HSS := Lib.hid (And.intro (And.intro s0 s1) (And.intro t0 t1))
 have HKK := Lib.hid (And.intro hk0 hk1)
 clear hq0 hq1' hr0 hr1' s0 s1 t0 t1 hk0 hk1
 have e1 : IntKind.i64.wrap ((k : Int) + 1 - 1) = (k : Int) := by rw [IntKind.wrap_i64]; omega
 have e1' : IntKind.i64.wrap (k : Int) = (k : Int) := by rw [IntKind.wrap_i64]; omega
 have e0 : (0 : Int) ≤ (k : Int) := by omega
 have e2 : ((k : Int) + 1).toNat = k + 1 := by omega
 have e3 : (0 : Int) ≤ (k : Int) + 1 := by omega
 have e4 : (k : Int) + 1 < (N : Int) := by omega
 have e5 : (k : Int) < (N : Int) := by omega
 go_cut [12, 13] (fun s12 s13 wx => ∃ g12, s12 = .pointer (some ⟨g12, 0, none⟩) ∧ s13 = .int .i64 0 ∧ w4.heap.size ≤ g12 ∧ At3 wx g12 27 (.bool (Big.ng (q0 + q1))) (.string (bst (Big.nu (q0 + q1)))) (.string (bst (Big.de (q0 + q1)))) ∧ Below w4.heap.size w4 wx)
 case first =>
  obtain ⟨a0, a1, a2, b0, b1, b2⟩ := KQ.out _ (Below.refl _ _)
  go_region_held3 (fun w' => w'.cell? ⟨b, k * 6, none⟩ = some (.bool (Big.ng q0)) ∧ w'.cell? ⟨b, k * 6 + 1, none⟩ = some (.string (bst (Big.nu q0))) ∧ w'.cell? ⟨b, k * 6 + 2, none⟩ = some (.string (bst (Big.de q0))) ∧ w'.cell? ⟨b, (k + 1) * 6, none⟩ = some (.bool (Big.ng q1)) ∧ w'.cell? ⟨b, (k + 1) * 6 + 1, none⟩ = some (.string (bst (Big.nu q1))) ∧ w'.cell? ⟨b, (k + 1) * 6 + 2, none⟩ = some (.string (bst (Big.de q1))))
   (exact KQ.out _ (by with_reducible (repeat' (first | assumption | exact Below.refl _ _ | refine below_drew ?_ | refine below_alloc ?_ (Nat.le_refl _) _ | refine put_below ?_ (Nat.le_refl _) _ _ _ | refine put_below ?_ (Below.size hw61) _ _ _))))
   (first
    | (go_at_call 16; (with_reducible refine (CA.out w4 _ (by with_reducible (repeat' (first | assumption | exact Below.refl _ _ | refine below_drew ?_ | refine below_alloc ?_ (Nat.le_refl _) _ | refine put_below ?_ (Nat.le_refl _) _ _ _ | refine put_below ?_ (Below.size hw61) _ _ _)))).mono ?_); rintro e w61 ⟨rfl, hw61, hw61'⟩; (try (first | (have RA := newdrew hw61'; have k0 := RA.c0; have k1 := RA.c1; have k2 := RA.c2; have f0 := RA.frozen 0; have f1 := RA.frozen 1; have f2 := RA.frozen 2) | (have RA := (At3.new _ _ _ _ _).keep hw61'; have k0 := RA.c0; have k1 := RA.c1; have k2 := RA.c2; have f0 := RA.frozen 0; have f1 := RA.frozen 1; have f2 := RA.frozen 2))))
    | fail)
  all_goals go_wp2_with fail
  all_goals go_meet
  all_goals exact ⟨_, rfl, rfl, (by first | exact Nat.le_refl _ | exact hw61.size), (by first | exact RA.put _ _ _ | exact At3.new _ _ _ _ _ | exact (At3.new _ _ _ _ _).put _ _ _), (by first | exact put_below hw61 (Nat.le_refl _) _ _ _ | exact below_alloc hw61 (Nat.le_refl _) _)⟩
 case rest =>
  obtain ⟨g12, rfl, rfl, hg12, hA12, hBc⟩ := hcut
  rename World => wA
  have HA12 := Lib.hid hA12; have HBc := Lib.hid hBc; have HG12 := Lib.hid hg12
  clear hA12 hBc hg12
  go_upto_region 8 with fail
  go_cut [14, 15] (fun s12 s13 wx => ∃ g12, s12 = .pointer (some ⟨g12, 0, none⟩) ∧ s13 = .int .i64 0 ∧ wA.heap.size ≤ g12 ∧ At3 wx g12 27 (.bool (Big.ng (r0 + r1))) (.string (bst (Big.nu (r0 + r1)))) (.string (bst (Big.de (r0 + r1)))) ∧ Below wA.heap.size wA wx)
  case first =>
   obtain ⟨a0, a1, a2, b0, b1, b2⟩ := KR.out _ HBc.out
   go_region_held3 (fun w' => w'.cell? ⟨b, k * 6 + 3, none⟩ = some (.bool (Big.ng r0)) ∧ w'.cell? ⟨b, k * 6 + 4, none⟩ = some (.string (bst (Big.nu r0))) ∧ w'.cell? ⟨b, k * 6 + 5, none⟩ = some (.string (bst (Big.de r0))) ∧ w'.cell? ⟨b, (k + 1) * 6 + 3, none⟩ = some (.bool (Big.ng r1)) ∧ w'.cell? ⟨b, (k + 1) * 6 + 4, none⟩ = some (.string (bst (Big.nu r1))) ∧ w'.cell? ⟨b, (k + 1) * 6 + 5, none⟩ = some (.string (bst (Big.de r1))))
    (exact KR.out _ (HBc.out.trans (Below.mono (by with_reducible (repeat' (first | assumption | exact Below.refl _ _ | refine below_drew ?_ | refine below_alloc ?_ (Nat.le_refl _) _ | refine put_below ?_ (Nat.le_refl _) _ _ _ | refine put_below ?_ (Below.size hw61) _ _ _))) HBc.out.size)))
    (first
     | (go_at_call 16; (with_reducible refine (CB.out wA _ (by with_reducible (repeat' (first | assumption | exact Below.refl _ _ | refine below_drew ?_ | refine below_alloc ?_ (Nat.le_refl _) _ | refine put_below ?_ (Nat.le_refl _) _ _ _ | refine put_below ?_ (Below.size hw61) _ _ _)))).mono ?_); rintro e w61 ⟨rfl, hw61, hw61'⟩; (try (first | (have RA := newdrew hw61'; have k0 := RA.c0; have k1 := RA.c1; have k2 := RA.c2; have f0 := RA.frozen 0; have f1 := RA.frozen 1; have f2 := RA.frozen 2) | (have RA := (At3.new _ _ _ _ _).keep hw61'; have k0 := RA.c0; have k1 := RA.c1; have k2 := RA.c2; have f0 := RA.frozen 0; have f1 := RA.frozen 1; have f2 := RA.frozen 2))))
     | fail)
   all_goals go_wp2_with fail
   all_goals go_meet
   all_goals exact ⟨_, rfl, rfl, (by first | exact Nat.le_refl _ | exact hw61.size), (by first | exact RA.put _ _ _ | exact At3.new _ _ _ _ _ | exact (At3.new _ _ _ _ _).put _ _ _), (by first | exact put_below hw61 (Nat.le_refl _) _ _ _ | exact below_alloc hw61 (Nat.le_refl _) _)⟩
  case rest =>
   obtain ⟨g14, rfl, rfl, hg14, hA14, hBd⟩ := hcut
   have HX := Lib.hid (And.intro (And.intro (HA12.out.keep hBd) hA14) ((HA0.out.keep HBc.out).keep hBd))
   have HY := Lib.hid (HBc.out.trans (hBd.mono HBc.out.size))
   have HNE := Lib.hid (show g12 ≠ g14 ∧ g ≠ g12 ∧ g ≠ g14 ∧ w4.heap.size ≤ g14 ∧ w4.heap.size ≤ g12 from by
    have h1 := HA12.out.lt
    have h2 := HA0.out.lt
    have h3 := HG12.out
    have h4 := HBc.out.size
    refine ⟨?_, ?_, ?_, ?_, ?_⟩ <;> omega)
   clear hA14 hBd hg14 HA12 HG12 HA0 HBc
   have a0 := HX.out.1.1.c0; have a1 := HX.out.1.1.c1; have a2 := HX.out.1.1.c2
   have d0 := HX.out.2.c0; have d1 := HX.out.2.c1; have d2 := HX.out.2.c2
   go_wp2_with fail
   refine (CMF.out _).mono ?_
   rintro e w5 ⟨rfl, hb5⟩
   clear a0 a1 a2 d0 d1 d2
   have X5 := Lib.hid (And.intro (And.intro (HX.out.1.1.keep hb5) (HX.out.1.2.keep hb5)) (HX.out.2.keep hb5))
   have Y5 := Lib.hid (HY.out.trans (hb5.mono HY.out.size))
   clear hb5 HX HY
   have a0 := X5.out.1.1.c0; have a1 := X5.out.1.1.c1; have a2 := X5.out.1.1.c2
   have f0 := X5.out.1.1.frozen 0; have f1 := X5.out.1.1.frozen 1; have f2 := X5.out.1.1.frozen 2
   go_upto_region 10 with fail
   clear a0 a1 a2 f0 f1 f2
   have X6 := Lib.hid (show (At3 (((w5.setCell ⟨g12, 0, none⟩ (.bool (Big.ng F))).setCell ⟨g12, 1, none⟩ (.string (bst (Big.nu F)))).setCell ⟨g12, 2, none⟩ (.string (bst (Big.de F)))) g12 27 (.bool (Big.ng (F))) (.string (bst (Big.nu (F)))) (.string (bst (Big.de (F)))) ∧ At3 (((w5.setCell ⟨g12, 0, none⟩ (.bool (Big.ng F))).setCell ⟨g12, 1, none⟩ (.string (bst (Big.nu F)))).setCell ⟨g12, 2, none⟩ (.string (bst (Big.de F)))) g14 27 (.bool (Big.ng (r0 + r1))) (.string (bst (Big.nu (r0 + r1)))) (.string (bst (Big.de (r0 + r1))))) ∧ At3 (((w5.setCell ⟨g12, 0, none⟩ (.bool (Big.ng F))).setCell ⟨g12, 1, none⟩ (.string (bst (Big.nu F)))).setCell ⟨g12, 2, none⟩ (.string (bst (Big.de F)))) g 27 (.bool (Big.ng (H))) (.string (bst (Big.nu (H)))) (.string (bst (Big.de (H)))) from
    ⟨⟨X5.out.1.1.put _ _ _, ((X5.out.1.2.far (p := ⟨g12, 0, none⟩) HNE.out.1.symm _).far (p := ⟨g12, 1, none⟩) HNE.out.1.symm _).far (p := ⟨g12, 2, none⟩) HNE.out.1.symm _⟩, ((X5.out.2.far (p := ⟨g12, 0, none⟩) HNE.out.2.1 _).far (p := ⟨g12, 1, none⟩) HNE.out.2.1 _).far (p := ⟨g12, 2, none⟩) HNE.out.2.1 _⟩)
   have Y6 := Lib.hid (put_below Y5.out HNE.out.2.2.2.2 (.bool (Big.ng (F))) (.string (bst (Big.nu (F)))) (.string (bst (Big.de (F)))))
   generalize (((w5.setCell ⟨g12, 0, none⟩ (.bool (Big.ng F))).setCell ⟨g12, 1, none⟩ (.string (bst (Big.nu F)))).setCell ⟨g12, 2, none⟩ (.string (bst (Big.de F)))) = w6 at X6 Y6 ⊢
   clear X5 Y5
   have a0 := X6.out.1.2.c0; have a1 := X6.out.1.2.c1; have a2 := X6.out.1.2.c2
   have d0 := X6.out.2.c0; have d1 := X6.out.2.c1; have d2 := X6.out.2.c2
   go_wp2_with fail
   refine (CMG.out _).mono ?_
   rintro e w7 ⟨rfl, hb7⟩
   clear a0 a1 a2 d0 d1 d2
   have X7 := Lib.hid (And.intro (X6.out.1.1.keep hb7) (X6.out.1.2.keep hb7))
   have Y7 := Lib.hid (Y6.out.trans (hb7.mono Y6.out.size))
   clear hb7 X6 Y6
   have a0 := X7.out.2.c0; have a1 := X7.out.2.c1; have a2 := X7.out.2.c2
   have f0 := X7.out.2.frozen 0; have f1 := X7.out.2.frozen 1; have f2 := X7.out.2.frozen 2
   go_upto_region 12 with fail
   clear a0 a1 a2 f0 f1 f2
   have X8 := Lib.hid (show At3 (((w7.setCell ⟨g14, 0, none⟩ (.bool (Big.ng G))).setCell ⟨g14, 1, none⟩ (.string (bst (Big.nu G)))).setCell ⟨g14, 2, none⟩ (.string (bst (Big.de G)))) g12 27 (.bool (Big.ng (F))) (.string (bst (Big.nu (F)))) (.string (bst (Big.de (F)))) ∧ At3 (((w7.setCell ⟨g14, 0, none⟩ (.bool (Big.ng G))).setCell ⟨g14, 1, none⟩ (.string (bst (Big.nu G)))).setCell ⟨g14, 2, none⟩ (.string (bst (Big.de G)))) g14 27 (.bool (Big.ng (G))) (.string (bst (Big.nu (G)))) (.string (bst (Big.de (G)))) from
    ⟨((X7.out.1.far (p := ⟨g14, 0, none⟩) HNE.out.1 _).far (p := ⟨g14, 1, none⟩) HNE.out.1 _).far (p := ⟨g14, 2, none⟩) HNE.out.1 _, X7.out.2.put _ _ _⟩)
   have Y8 := Lib.hid (put_below Y7.out HNE.out.2.2.2.1 (.bool (Big.ng (G))) (.string (bst (Big.nu (G)))) (.string (bst (Big.de (G)))))
   generalize (((w7.setCell ⟨g14, 0, none⟩ (.bool (Big.ng G))).setCell ⟨g14, 1, none⟩ (.string (bst (Big.nu G)))).setCell ⟨g14, 2, none⟩ (.string (bst (Big.de G)))) = w8 at X8 Y8 ⊢
   clear X7 Y7
   have RB8 := Lib.hid (RB4.out.keep Y8.out)
   have hm1 : (k : Int) + 1 ≤ (m : Int) := by omega
   have hm2 : (N : Int) ≤ (m : Int) := by omega
   have NW8 := Lib.hid (show ∀ j u, (rwsC qs rs 0 (k + 1))[j]? = some u → w8.cell? (Addr.add ⟨b, 0, none⟩ j) = some u from RB8.out.news (k + 1) 0 (by have := HKK.out.2; omega))
   have hi0 : (Try.prog.info? 30).map (fun i => (i.zero.map Value.cells, i.size, i.bytes)) = some (some #[.bool false, .string ⟨#[]⟩, .string ⟨#[]⟩, .bool false, .string ⟨#[]⟩, .string ⟨#[]⟩], 6, 80) := by kernel_rfl
   obtain ⟨i0, hi, hi1⟩ := Option.map_eq_some_iff.1 hi0
   simp only [Prod.mk.injEq] at hi1
   obtain ⟨hz4, hz1, hz2⟩ := hi1
   obtain ⟨z0, hz0, hz3⟩ := Option.map_eq_some_iff.1 hz4
   have hz5 : z0.cells.size = 6 := by rw [hz3]; rfl
   clear hz3 hz4 hi0
   go_wp2_with (at_builtin; refine wpList_append_own _ rfl _ _ 34 rfl w8.heap.size 30 i0 z0 6 80 Try.underlying34 hi hz0 hz1 hz2 hz5 (by decide) _ _ _ rfl (World.ownsRow_nil _ _ _ _) ⟨b, 0, none⟩ (k + 1) m (rwsC qs rs 0 (k + 1)) rfl (rwsC_len _ _ _ _) NW8.out (rwsC_one _ _ _ _) (by unfold maxLen; omega) (by omega) (Nat.le_refl _) ?_)
   intro v12 w9 hown9 hgrow9 _
   have HO9 := Lib.hid hown9
   have B9 := Lib.hid ((Below.refl w8.heap.size w8).grown hgrow9 (Nat.le_refl _) (fun j hj => by cases hj))
   clear hown9 hgrow9 NW8
   have X9 := Lib.hid (And.intro (X8.out.1.keep B9.out) (X8.out.2.keep B9.out))
   have a0 := X9.out.1.c0; have a1 := X9.out.1.c1; have a2 := X9.out.1.c2
   have d0 := X9.out.2.c0; have d1 := X9.out.2.c1; have d2 := X9.out.2.c2
   have HO9' := Lib.hid (HO9.out.alloc (.cells (frC F ++ frC G).toArray 30))
   have NW9 := Lib.hid (fun j u h => news_at w9 (frC F ++ frC G) 30 j u h)
   go_wp2_with (at_builtin; refine wpList_append_own _ rfl _ _ 34 rfl w8.heap.size 30 i0 z0 6 80 Try.underlying34 hi hz0 hz1 hz2 hz5 (by decide) _ _ _ rfl HO9'.out ⟨w9.heap.size, 0, none⟩ 1 1 (frC F ++ frC G) rfl rfl NW9.out (by intro u' hu'; simp [frC] at hu'; rcases hu' with h | h | h | h | h | h <;> rw [h] <;> rfl) (by unfold maxLen; omega) (by omega) (by have := B9.out.size; simp; omega) ?_)
   intro v13 w10 hown10 hgrow10 _
   have HO10 := Lib.hid hown10
   have B10 := Lib.hid ((B9.out.alloc B9.out.size (.cells (frC F ++ frC G).toArray 30)).grown hgrow10 (by have := B9.out.size; simp; omega) (fun j hj => (HO9.out.lt j hj).1))
   clear hown10 hgrow10 NW9 HO9' HO9 X9 X8 a0 a1 a2 d0 d1 d2 B9
   have RB10 := Lib.hid (RB8.out.keep B10.out)
   have NW10 := Lib.hid (show ∀ j u, (rwsC qs rs (k + 1) (N - (k + 1)))[j]? = some u → w10.cell? (Addr.add ⟨b, (k + 1) * 6, none⟩ j) = some u from RB10.out.news (N - (k + 1)) (k + 1) (by have := HKK.out.2; omega))
   go_wp2_with (at_builtin; refine wpList_append_own _ rfl _ _ 34 rfl w8.heap.size 30 i0 z0 6 80 Try.underlying34 hi hz0 hz1 hz2 hz5 (by decide) _ _ _ rfl HO10.out ⟨b, (k + 1) * 6, none⟩ (N - (k + 1)) (m - (k + 1)) (rwsC qs rs (k + 1) (N - (k + 1))) rfl (rwsC_len _ _ _ _) NW10.out (rwsC_one _ _ _ _) (by unfold maxLen; omega) (by omega) (by have := B10.out.size; omega) ?_)
   intro v14 w11 hown11 hgrow11 _
   have B11 := Lib.hid (B10.out.grown hgrow11 B10.out.size (fun j hj => (HO10.out.lt j hj).1))
   have hq2 : F = (qs.getD (k + 1 - 1) 0 + qs.getD (k + 1) 0) * (1 / 2) := by rw [HFG.out.1.1, HQQ.out.1.1, HQQ.out.1.2, HH.out, Nat.add_sub_cancel]
   have hr2 : G = (rs.getD (k + 1 - 1) 0 + rs.getD (k + 1) 0) * (1 / 2) := by rw [HFG.out.1.2, HQQ.out.2.1, HQQ.out.2.2, HH.out, Nat.add_sub_cancel]
   have hil : k + 1 ≤ qs.length := by have := HKK.out.2; omega
   have hirl : k + 1 ≤ rs.length := by omega
   have hml : (midL qs (k + 1)).length = N + 1 := by rw [midL_len qs hil, hl1]
   have hmr : (midL rs (k + 1)).length = (midL qs (k + 1)).length := by rw [midL_len qs hil, midL_len rs hirl, hlr]
   have hmn : midL qs (k + 1) ≠ [] := fun h => by rw [h] at hml; simp at hml
   have hmf : ∀ y ∈ midL qs (k + 1), Fit y := mid_fits hqf (by rw [← hq2]; exact sm_fit HFG.out.2.1 (by omega))
   have hmg : ∀ y ∈ midL rs (k + 1), Fit y := mid_fits hrf (by rw [← hr2]; exact sm_fit HFG.out.2.2 (by omega))
   have hR2 : Rises (midL qs (k + 1)) := midL_rises hRq (by omega) HKK.out.2
   have hR3 : Rises (midL rs (k + 1)) := midL_rises hRr (by omega) (by rw [hlr]; exact HKK.out.2)
   have hown12 : w11.ownsRow w8.heap.size 30 6 v14 (0 + (k + 1) + 1 + (N - (k + 1))) (rwsC (midL qs (k + 1)) (midL rs (k + 1)) 0 (midL qs (k + 1)).length) := by
    rw [midL_len qs hil, rwsC_mid qs rs hil hlr, ← hq2, ← hr2, hl1]
    simpa using hown11
   obtain ⟨g15, cap15, hv14, hrl⟩ := own_rows hmr (by rw [hml]; omega) hmn hown12
   have RL11 := Lib.hid hrl
   obtain ⟨X, hX⟩ : ∃ X, X = ofQ n 8 := ⟨_, rfl⟩
   have hXf : Fit X := by
    rw [hX]
    exact sm_fit (k := 1) (ofQ_sm (d := 8) (by omega) (by omega) (by omega) (by omega)) (by omega)
   have CX := Lib.hid (fun (W : World) => show Calls Try.prog 8 #[.int .i64 n, .int .i64 8] W fun e w' => e = .returned (.agg #[.bool (Big.ng (ofQ n 8)), .string (bst (Big.nu (ofQ n 8))), .string (bst (Big.de (ofQ n 8)))]) ∧ Below W.heap.size W w' from of13_any W n 8 (by omega) (by omega) (by omega) (by omega) (by omega))
   rw [← hX] at CX
   obtain ⟨c, hc⟩ := place hRq X
   obtain ⟨d, hd, hlin⟩ := lin_mid hRq (show 0 < k + 1 by omega) HKK.out.2 hlr hc
   obtain ⟨x0, x1, x2, cc, hres⟩ := tores_ex (linAt qs rs X c)
   have CN2 := Lib.hid (fun (W : World) (hb : Below w.heap.size w W) (h : RlIn W v14 (midL qs (k + 1)) (midL rs (k + 1))) => new_any W hmf hmg hmr hmn (by omega) hR2 hR3 h (Nat.le_trans HG.out hb.size) (baseUp HG.out HT.out hb))
   have hne : qs ≠ [] := fun h => by rw [h] at hl1; simp at hl1; omega
   have CT1 := Lib.hid (fun (W : World) (hb : Below w.heap.size w W) (h : TabIn W (vpt0 tb) qs rs) => show Calls Try.prog 9 #[vpt0 tb, .agg #[.bool (Big.ng (X)), .string (bst (Big.nu (X))), .string (bst (Big.de (X)))]] W fun e w' => e = .returned (.tuple #[.agg #[.bool x0, .string x1, .string x2], .int .i64 cc]) ∧ Below W.heap.size W w' from (tab_any false W hqf hrf hXf (by omega) hlr hne hc.1 hc.2.1 hc.2.2 h (Nat.le_trans HG.out hb.size) (baseUp HG.out HT.out hb)).mono fun e w' hh => ⟨hres e hh.1, hh.2⟩)
   have CT2 := Lib.hid (fun (W : World) (tb2 : Nat) (hb : Below w.heap.size w W) (h : TabIn W (vpt0 tb2) (midL qs (k + 1)) (midL rs (k + 1))) => show Calls Try.prog 9 #[vpt0 tb2, .agg #[.bool (Big.ng (X)), .string (bst (Big.nu (X))), .string (bst (Big.de (X)))]] W fun e w' => e = .returned (.tuple #[.agg #[.bool x0, .string x1, .string x2], .int .i64 cc]) ∧ Below W.heap.size W w' from (tab_any false W hmf hmg hXf (by omega) hmr hmn hd.1 hd.2.1 hd.2.2 h (Nat.le_trans HG.out hb.size) (baseUp HG.out HT.out hb)).mono fun e w' hh => ⟨hres e (by rw [← hlin]; exact hh.1), hh.2⟩)
   have Z11 := Lib.hid (HB4.out.trans ((Y8.out.trans (B11.out.mono Y8.out.size)).mono HB4.out.size))
   have HT11 := Lib.hid ((HT4.out.stay (below_keptT Y8.out)).stay (below_keptT B11.out))
   clear hrl hown12 hown11 hgrow11 hres hlin hd hc hX hXf hne hR2 hR3 hmf hmg hmn hmr hml hil hirl hq2 hr2 RB10 NW10 HO10 B10 B11 Y8 RB8 HT4 HB4 RB4 CA CB CMF CMG K6 KQ KR HQ HQQ HSS HFG HKK CO CR CN HH HNE
   clear hRq hRr hq1 hr1 hqf hrf i0 z0 hi hz0 hz1 hz2 hz5 e0 e1 e1' e2 e3 e4 e5
   subst hv14
   obtain ⟨hn1, hn2⟩ := hn
   go_wp2_with (go_at_call 7; with_reducible refine (CN2.out _ Z11.out RL11.out).mono ?_; rintro e w12 ⟨t2, rfl, ht2, hb12⟩)
   have Z12 := Lib.hid (Z11.out.trans (hb12.mono Z11.out.size))
   have HT12 := Lib.hid (HT11.out.stay (below_keptT hb12))
   have HU12 := Lib.hid ht2
   obtain ⟨tb2, _, _, _, rfl, _⟩ := ht2
   clear hb12 Z11 HT11 RL11 CN2
   refine (CX.out _).mono ?_
   rintro e w13 ⟨rfl, hb13⟩
   have Z13 := Lib.hid (Z12.out.trans (hb13.mono Z12.out.size))
   have HT13 := Lib.hid (HT12.out.stay (below_keptT hb13))
   have HU13 := Lib.hid (HU12.out.stay (below_keptT hb13))
   clear hb13 Z12 HT12 HU12 CX
   have BA := below_alloc (Below.refl w13.heap.size w13) (Nat.le_refl _) (.cells #[.bool (Big.ng X), .string (bst (Big.nu X)), .string (bst (Big.de X))] 27)
   have XA := Lib.hid (At3.new w13 27 (.bool (Big.ng (X))) (.string (bst (Big.nu (X)))) (.string (bst (Big.de (X)))))
   have Z14 := Lib.hid (Z13.out.trans (BA.mono Z13.out.size))
   have HT14 := Lib.hid (HT13.out.stay (below_keptT BA))
   have HU14 := Lib.hid (HU13.out.stay (below_keptT BA))
   clear BA Z13 HT13 HU13
   go_upto_region 19 with fail
   generalize w13.alloc (.cells #[.bool (Big.ng X), .string (bst (Big.nu X)), .string (bst (Big.de X))] 27) = w14 at XA Z14 HT14 HU14 ⊢
   generalize w13.heap.size = g18 at XA ⊢
   have a0 := XA.out.c0; have a1 := XA.out.c1; have a2 := XA.out.c2
   go_wp2_with fail
   refine (CT1.out _ Z14.out HT14.out).mono ?_
   rintro e w15 ⟨rfl, hb15⟩
   clear a0 a1 a2
   have BB := hb15.trans (below_alloc (Below.refl w15.heap.size w15) (Nat.le_refl _) (.cells #[.bool x0, .string x1, .string x2] 27) |>.mono hb15.size)
   have XB := Lib.hid (And.intro (XA.out.keep BB) (At3.new w15 27 (.bool x0) (.string x1) (.string x2)))
   have Z16 := Lib.hid (Z14.out.trans (BB.mono Z14.out.size))
   have HU16 := Lib.hid (HU14.out.stay (below_keptT BB))
   clear hb15 BB XA Z14 HT14 HU14
   go_upto_region 20 with fail
   generalize w15.alloc (.cells #[.bool x0, .string x1, .string x2] 27) = w16 at XB Z16 HU16 ⊢
   generalize w15.heap.size = g19 at XB ⊢
   have a0 := XB.out.1.c0; have a1 := XB.out.1.c1; have a2 := XB.out.1.c2
   go_wp2_with fail
   refine (CT2.out _ _ Z16.out HU16.out).mono ?_
   rintro e w17 ⟨rfl, hb17⟩
   clear a0 a1 a2
   have BC := hb17.trans (below_alloc (Below.refl w17.heap.size w17) (Nat.le_refl _) (.cells #[.bool x0, .string x1, .string x2] 27) |>.mono hb17.size)
   have XC := Lib.hid (And.intro (XB.out.2.keep BC) (At3.new w17 27 (.bool x0) (.string x1) (.string x2)))
   have Z18 := Lib.hid (Z16.out.trans (BC.mono Z16.out.size))
   clear hb17 BC XB Z16 HU16
   go_upto_region 21 with fail
   generalize w17.alloc (.cells #[.bool x0, .string x1, .string x2] 27) = w18 at XC Z18 ⊢
   generalize w17.heap.size = g20 at XC ⊢
   have a0 := XC.out.1.c0; have a1 := XC.out.1.c1; have a2 := XC.out.1.c2
   have d0 := XC.out.2.c0; have d1 := XC.out.2.c1; have d2 := XC.out.2.c2
   go_wp2_with (go_at_call 13; with_reducible refine (CW.out _ Z18.out).mono ?_; rintro e w19 ⟨rfl, hb19⟩)
   go_ret
   exact ⟨rfl, Z18.out.trans (hb19.mono Z18.out.size)⟩
end Ev
end Go.Proofs.Ytnlhjcfpfapafaa
