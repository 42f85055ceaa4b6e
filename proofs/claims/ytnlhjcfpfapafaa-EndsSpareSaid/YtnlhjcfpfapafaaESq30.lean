/- Contracts. -/
import Derived.Test.YtnlhjcfpfapafaaESq29
import Derived.Laws.CopyOwn
import Derived.Test.YtnlhjcfpfapafaaESq20
import Derived.Lib.ItoaMem
import Derived.Laws.AppendOwn
import Derived.OwnWalk
import Derived.Test.YtnlhjcfpfapafaaRows
import Derived.Test.YtnlhjcfpfapafaaChecked
import Derived.WalkKit
import Derived.ProofKit
import Derived.OpenShut
import Derived.ChangeSame
import Derived.ChangeVars
import Derived.JoinedOf
import Derived.Stop.Joined
import Derived.HandedShaped
import Derived.ChangeSlices
namespace Go.Proofs.Ytnlhjcfpfapafaa
open Go Go.RowKit
namespace Ev
set_option maxRecDepth 100000
theorem run_copy_sz {P : Program} (w : World) (dT sT ty elem : TypeId) (z : Nat) (g dLen dCap : Nat) (a : Addr) (sLen sCap : Nat) (cur : Array Value) (t : TypeId) (cs : List Value)
  (hu : P.underlying dT = some (.slice elem)) (hs : (P.info? elem).map (·.size) = some z)
  (hg : w.heap[g]? = some (.cells cur t (0, 0))) (hn : cs.length = Nat.min sLen dLen * z)
  (hsrc : ∀ j v, cs[j]? = some v → w.cell? (a.add j) = some v) (hfit : cs.length ≤ cur.size) (h1 : ∀ v ∈ cs, v.oneCell' = true) :
  (Builtin.copy_ #[dT, sT] ty #[.slice (some ⟨g, 0, none⟩) dLen dCap, .slice (some a) sLen sCap]).run P w =
   .ok (goInt (Nat.min sLen dLen : Nat)) (w.setRow g (cs ++ cur.toList.drop cs.length).toArray) := by
 have hl := run_loadCells_list (P := P) w a cs hsrc
 have hst := run_storeCells_at P g 0 t cs 0 cur w hg (by simpa using hfit) h1
 cases hq : P.info? elem with
 | none => simp [hq] at hs
 | some i =>
  have hi : i.size = z := by simpa [hq] using hs
  simp [Builtin.copy_, run_underlying hu, Builtin.lenOf, Builtin.firstCells, sizeOf, typeInfo, hq, hi, ← hn, hl, hst]
theorem wpList_copy_sz {P : Program} {w : World} {ops : Array Oper} {rest : List Oper} {o : Oper} {a : Act} {Q : Exit → Act → World → Prop} (hgd : o.guard = none) (d s : Operand) (dT sT : TypeId)
  (ho : o.op = .call { callee := .builtin .copy, args := #[d, s], argTypes := #[dT, sT] }) (elem : TypeId) (z : Nat) (hu : P.underlying dT = some (.slice elem)) (hsz : (P.info? elem).map (·.size) = some z)
  (g dLen dCap : Nat) (ad : Addr) (sLen sCap : Nat) (hd : a.eval d = .slice (some ⟨g, 0, none⟩) dLen dCap) (hs : a.eval s = .slice (some ad) sLen sCap)
  (cur : Array Value) (t : TypeId) (hg : w.heap[g]? = some (.cells cur t (0, 0))) (cs : List Value) (hn : cs.length = Nat.min sLen dLen * z)
  (hsrc : ∀ j v, cs[j]? = some v → w.cell? (ad.add j) = some v) (hfit : cs.length ≤ cur.size) (h1 : ∀ v ∈ cs, v.oneCell' = true)
  (h : ∀ w', w' = w.setRow g (cs ++ cur.toList.drop cs.length).toArray → wpList P ops Q rest (a.put o.dst (goInt (Nat.min sLen dLen : Nat))) w') : wpList P ops Q (o :: rest) a w := by
 refine wpList_plain hgd fun K hK => ?_
 have hrun := run_copy_sz (P := P) w dT sT o.type elem z g dLen dCap ad sLen sCap cur t cs hu hsz hg hn hsrc hfit h1
 unfold Oper.wp
 simp [execOp, ho, resolve, invoke, builtin, hd, hs, hrun, Result.andThen]
 exact hK _ _ (by simpa using h _ rfl)
theorem rows_len {cl : List Value} {off : Nat} {qs rs : List Rat} (h : RowsAt cl off qs rs) (hne : qs ≠ []) : off + qs.length * 6 ≤ cl.length := by
 have hp : 0 < qs.length := List.length_pos_iff.2 hne
 have h6 := h.2 (qs.length - 1) _ _ (List.getElem?_eq_getElem (by omega)) (List.getElem?_eq_getElem (by rw [h.1]; omega))
 have hl := congrArg List.length h6
 rw [List.length_take, List.length_drop] at hl
 have : (frC qs[qs.length - 1] ++ frC (rs[qs.length - 1]'(by rw [h.1]; omega))).length = 6 := rfl
 rw [this] at hl
 omega
theorem rows_one {cl : List Value} {off : Nat} {qs rs : List Rat} (h : RowsAt cl off qs rs) : ∀ v ∈ (cl.drop off).take (qs.length * 6), v.oneCell' = true := by
 intro v hv
 obtain ⟨j, hj, rfl⟩ := List.getElem_of_mem hv
 rw [List.length_take] at hj
 have hi : j / 6 < qs.length := by omega
 have h6 := h.2 (j / 6) _ _ (List.getElem?_eq_getElem hi) (List.getElem?_eq_getElem (by rw [h.1]; exact hi))
 have he : (frC qs[j / 6] ++ frC (rs[j / 6]'(by rw [h.1]; exact hi)))[j % 6]? = some ((cl.drop off).take (qs.length * 6))[j] := by
  rw [← h6, List.getElem?_take, if_pos (by omega), List.getElem?_drop, ← List.getElem?_eq_getElem (by rw [List.length_take]; omega), List.getElem?_take, if_pos (by omega), List.getElem?_drop]
  congr 1; omega
 have hm := List.mem_of_getElem? he
 simp only [frC, List.cons_append, List.nil_append, List.mem_cons, List.not_mem_nil, or_false] at hm
 rcases hm with h | h | h | h | h | h <;> rw [h] <;> rfl
def RlT (w : World) (v : Value) (qs rs : List Rat) : Prop := ∃ a m, v = .slice a qs.length m ∧ qs.length ≤ m ∧ (qs ≠ [] → ∃ b off cl z, a = some ⟨b, off, none⟩ ∧ w.heap[b]? = some (.cells ⟨cl⟩ 30 z) ∧ RowsAt cl off qs rs)
def LsT (lo : Nat) (w : World) (v : Value) (qs : List Rat) : Prop := ∃ a m, v = .slice a qs.length m ∧ qs.length ≤ m ∧ (qs ≠ [] → ∃ b off cl z, a = some ⟨b, off, none⟩ ∧ b < lo ∧ w.heap[b]? = some (.cells ⟨cl⟩ 70 z) ∧ RowAt 1 w cl off qs)
theorem RlT.un {w : World} {v : Value} {qs rs : List Rat} (h : RlT w v qs rs) : RlIn w v qs rs := by
 obtain ⟨a, m, h1, h2, h3⟩ := h
 exact ⟨a, m, h1, h2, fun hp => by
  obtain ⟨b, off, cl, z, k1, k2, k3⟩ := h3 hp
  exact ⟨b, off, cl, _, z, k1, k2, k3⟩⟩
theorem LsT.un {lo : Nat} {w : World} {v : Value} {qs : List Rat} (h : LsT lo w v qs) : LsLo lo 1 w v qs := by
 obtain ⟨a, m, h1, h2, h3⟩ := h
 exact ⟨a, m, h1, h2, fun hp => by
  obtain ⟨b, off, cl, z, k1, k2, k3, k4⟩ := h3 hp
  exact ⟨b, off, cl, _, z, k1, k2, k3, k4⟩⟩
abbrev KeptT (w w' : World) : Prop := ∀ (b : Nat) (c : Array Value) (t : TypeId) (z : Nat × Nat), w.heap[b]? = some (.cells c t z) → (t = 37 ∨ t = 30 ∨ t = 70 ∨ symHid t = true) → w'.heap[b]? = some (.cells c t z)
theorem below_keptT {w w' : World} (hb : Below w.heap.size w w') : KeptT w w' := fun b _ _ _ h _ => (hb.block b (Array.getElem?_eq_some_iff.1 h).1).trans h
theorem RlT.stay {w w' : World} {v : Value} {qs rs : List Rat} (h : RlT w v qs rs) (hk : KeptT w w') : RlT w' v qs rs := by
 obtain ⟨a, m, h1, h2, h3⟩ := h
 exact ⟨a, m, h1, h2, fun hp => by
  obtain ⟨b, off, cl, z, k1, k2, k3⟩ := h3 hp
  exact ⟨b, off, cl, z, k1, hk _ _ _ _ k2 (.inr (.inl rfl)), k3⟩⟩
theorem LsT.stay {lo : Nat} {w w' : World} {v : Value} {qs : List Rat} (h : LsT lo w v qs) (hk : KeptT w w') : LsT lo w' v qs := by
 obtain ⟨a, m, h1, h2, h3⟩ := h
 exact ⟨a, m, h1, h2, fun hp => by
  obtain ⟨b, off, cl, z, k1, k2, k3, k4⟩ := h3 hp
  exact ⟨b, off, cl, z, k1, k2, hk _ _ _ _ k3 (.inr (.inr (.inl rfl))), k4.stable fun b c t z g1 g2 => hk b c t z g1 (.inr (.inr (.inr g2)))⟩⟩
theorem OlIn.lsT {w : World} {v : Value} {qs : List Rat} (h : OlIn 1 w v qs) {lo : Nat} (hlo : w.heap.size ≤ lo) : LsT lo w v qs := by
 obtain ⟨a, m, h1, h2, h3, h4⟩ := h
 refine ⟨a, m, h1, h2, fun hp => ?_⟩
 cases a with
 | none => have := h3 rfl; cases qs with
  | nil => exact absurd rfl hp
  | cons q l => simp only [List.length_cons] at h2; omega
 | some ad =>
  obtain ⟨cl, k1, k2, k3, k4⟩ := h4 ad rfl
  exact ⟨ad.block, 0, cl, _, by rw [← k1], Nat.lt_of_lt_of_le (Array.getElem?_eq_some_iff.1 k2).1 hlo, k2, k4⟩
theorem copied_any (w : World) {qs rs : List Rat} (hne : qs ≠ []) (hl : qs.length ≤ 10000) {v : Value} (hv : RlIn w v qs rs) :
  Calls Try.prog 30 #[v] w fun e w' => ∃ b, e = .returned (.slice (some ⟨b, 0, none⟩) qs.length qs.length) ∧ RlT w' (.slice (some ⟨b, 0, none⟩) qs.length qs.length) qs rs ∧ Below w.heap.size w w' := by
 obtain ⟨a, m, rfl, hm, hh⟩ := hv
 obtain ⟨b, off, cl, t, z, rfl, hb, hr⟩ := hh hne
 have HR := Lib.hid hr
 have HL := Lib.hid (rows_len hr hne)
 have hi : (Try.prog.info? 30).map (fun i => (i.zero.map Value.cells, i.size, i.bytes)) = some (some #[.bool false, .string ⟨#[]⟩, .string ⟨#[]⟩, .bool false, .string ⟨#[]⟩, .string ⟨#[]⟩], 6, 80) := by kernel_rfl
 obtain ⟨i0, hi0, hi1⟩ := Option.map_eq_some_iff.1 hi
 simp only [Prod.mk.injEq] at hi1
 obtain ⟨hz0, hz1, hz2⟩ := hi1
 obtain ⟨z0, hz3, hz4⟩ := Option.map_eq_some_iff.1 hz0
 have hmk := fun W : World => run_make (P := Try.prog) W 34 30 i0 z0 Try.underlying34 hi0 hz3 .i64 .i64 qs.length qs.length (by omega) (by omega) (by rw [hz2]; omega) (by omega)
 simp only [Int.toNat_natCast, hz1] at hmk
 have hsz : (Try.prog.info? 30).map (·.size) = some 6 := by rw [hi0]; simp [hz1]
 have hlen : ((cl.drop off).take (qs.length * 6)).length = qs.length * 6 := by
  rw [List.length_take, List.length_drop]; have := HL.out; omega
 obtain ⟨cs, hcs⟩ : ∃ cs, cs = (cl.drop off).take (qs.length * 6) := ⟨_, rfl⟩
 have HO := Lib.hid (rows_one hr)
 rw [← hcs] at hlen HO
 obtain ⟨M, hM⟩ : ∃ M, M = madeCells z0.cells (qs.length * 6) := ⟨_, rfl⟩
 have hMs : M.size = qs.length * 6 := by rw [hM]; exact size_madeCells _ _
 rw [← hM] at hmk
 have hlt := (Array.getElem?_eq_some_iff.1 hb).1
 have HS := Lib.hid (fun (j : Nat) (v : Value) (h : cs[j]? = some v) => show (w.alloc (.cells M 30)).cell? (Addr.add ⟨b, off, none⟩ j) = some v by
  rw [hcs, List.getElem?_take] at h
  split at h
  ·rw [List.getElem?_drop] at h
   have hb2 : (w.alloc (.cells M 30)).heap[b]? = some (.cells ⟨cl⟩ t z) := by
    show (w.heap.push _)[b]? = _
    rw [Array.getElem?_push_lt (by omega)]
    rw [Array.getElem?_eq_getElem (by omega)] at hb
    exact hb
   rw [add_off]
   simp only [World.cell?, hb2]
   simpa using h
  ·cases h)
 have HN : (w.alloc (.cells M 30)).heap[w.heap.size]? = some (.cells M 30 (0, 0)) := by
  show (w.heap.push _)[w.heap.size]? = _
  simp
 have HB0 : Below w.heap.size w (w.alloc (.cells M 30)) := (Below.refl _ _).alloc (Nat.le_refl _) _
 replace HN := Lib.hid HN
 replace HB0 := Lib.hid HB0
 have hb0 := Lib.hid hb
 replace hM := Lib.hid hM
 replace hcs := Lib.hid hcs
 clear hb hr hh hi hi0 hz0 hz1 hz2 hz3 hz4
 go_enter Try.func30, Try.ntmps30
 go_wp2_with (first
  | (with_reducible refine wpList_copy_sz rfl (.tmp 7) (.tmp 8) 34 34 rfl 30 6 Try.underlying34 hsz w.heap.size qs.length qs.length ⟨b, off, none⟩ qs.length m rfl rfl M 30 HN.out cs (by rw [hlen, show Nat.min qs.length qs.length = qs.length from Nat.min_self _]) HS.out (by rw [hMs, hlen]; exact Nat.le_refl _) HO.out ?_))
 go_ret
 have hd : cs ++ List.drop (qs.length * 6) M.toList = cs := by rw [List.drop_eq_nil_of_le (by simp; omega), List.append_nil]
 have hset : ((w.alloc (.cells M 30)).setRow w.heap.size (cs ++ List.drop (qs.length * 6) M.toList).toArray).heap[w.heap.size]? = some (.cells ⟨cs⟩ 30 (0, 0)) := by
  rw [hd]
  rw [setRow_heap HN.out]
  simp [(Array.getElem?_eq_some_iff.1 HN.out).1]
 refine ⟨w.heap.size, rfl, ⟨_, _, rfl, Nat.le_refl _, fun _ => ⟨w.heap.size, 0, cs, _, rfl, hset, HR.out.1, fun i q p h1 h2 => ?_⟩⟩, below_setRow HB0.out (Nat.le_refl _) _⟩
 have hil := (List.getElem?_eq_some_iff.1 h1).1
 rw [hcs.out, Nat.zero_add, List.drop_take, List.drop_drop, List.take_take, Nat.min_eq_left (by omega)]
 exact HR.out.2 i q p h1 h2
theorem LsIn.lo {K : Nat} {w : World} {v : Value} {qs : List Rat} (h : LsIn K w v qs) {lo : Nat} (hlo : w.heap.size ≤ lo) : LsLo lo K w v qs := by
 obtain ⟨a, m, h1, h2, h3⟩ := h
 exact ⟨a, m, h1, h2, fun hp => by
  obtain ⟨b, off, cl, t, z, k1, k3, k4⟩ := h3 hp
  exact ⟨b, off, cl, t, z, k1, Nat.lt_of_lt_of_le (Array.getElem?_eq_some_iff.1 k3).1 hlo, k3, k4⟩⟩
def TabIn (w : World) (v : Value) (qs rs : List Rat) : Prop := ∃ b s u1 u2, v = vpt0 b ∧ Try.prog.globals.size ≤ b ∧ w.heap[b]? = some (.cells ⟨[s, u1, u2]⟩ 37 (0, 0)) ∧ RlT w s qs rs ∧ LsT b w u1 qs ∧ LsT b w u2 rs
theorem LsIn.keep {K : Nat} {w w' : World} {v : Value} {qs : List Rat} (h : LsIn K w v qs) (hb : Below w.heap.size w w') : LsIn K w' v qs := by
 obtain ⟨a, m, h1, h2, h3⟩ := h
 exact ⟨a, m, h1, h2, fun hp => by
  obtain ⟨b, off, cl, t, z, k1, k3, k4⟩ := h3 hp
  exact ⟨b, off, cl, t, z, k1, (hb.block b (Array.getElem?_eq_some_iff.1 k3).1).trans k3, Below.rowAt hb k4⟩⟩
theorem RlIn.keep {w w' : World} {v : Value} {qs rs : List Rat} (h : RlIn w v qs rs) (hb : Below w.heap.size w w') : RlIn w' v qs rs := by
 obtain ⟨a, m, h1, h2, h3⟩ := h
 exact ⟨a, m, h1, h2, fun hp => by
  obtain ⟨b, off, cl, t, z, k1, k3, k4⟩ := h3 hp
  exact ⟨b, off, cl, t, z, k1, (hb.block b (Array.getElem?_eq_some_iff.1 k3).1).trans k3, k4⟩⟩
theorem TabIn.stay {w w' : World} {v : Value} {qs rs : List Rat} (h : TabIn w v qs rs) (hk : KeptT w w') : TabIn w' v qs rs := by
 obtain ⟨b, s, u1, u2, h1, h6, h2, h3, h4, h5⟩ := h
 exact ⟨b, s, u1, u2, h1, h6, hk _ _ _ _ h2 (.inl rfl), h3.stay hk, h4.stay hk, h5.stay hk⟩
theorem TabIn.un {w : World} {v : Value} {qs rs : List Rat} (h : TabIn w v qs rs) : ∃ b s u1 u2, v = vpt0 b ∧ Try.prog.globals.size ≤ b ∧ w.heap[b]? = some (.cells ⟨[s, u1, u2]⟩ 37 (0, 0)) ∧ RlIn w s qs rs ∧ LsLo b 1 w u1 qs ∧ LsLo b 1 w u2 rs := by
 obtain ⟨b, s, u1, u2, h1, h6, h2, h3, h4, h5⟩ := h
 exact ⟨b, s, u1, u2, h1, h6, h2, h3.un, h4.un, h5.un⟩
theorem baseUp {w W : World} (hG : Try.prog.globals.size ≤ w.heap.size) (hT : natSig.base w) (hb : Below w.heap.size w W) : natSig.base W := by
 refine natSig.baseS w W hT fun b o hbG ho => ?_
 have h1 : b < Try.prog.globals.size := hbG
 exact (hb.block b (Nat.lt_of_lt_of_le h1 hG)).trans ho
set_option maxHeartbeats 400000 in
theorem new_any (w : World) {qs rs : List Rat} (hq : ∀ y ∈ qs, Fit y) (hr : ∀ y ∈ rs, Fit y) (hlr : rs.length = qs.length) (hne : qs ≠ []) (hl : qs.length ≤ 64) (h1 : Rises qs) (h2 : Rises rs) {v : Value} (hv : RlIn w v qs rs) (hG : Try.prog.globals.size ≤ w.heap.size) (hT : natSig.base w) :
  Calls Try.prog 7 #[v] w fun e w' => ∃ u, e = .returned (.tuple ⟨[u, .int .i64 0]⟩) ∧ TabIn w' u qs rs ∧ Below w.heap.size w w' := by
 have G1 : ∀ W, Below w.heap.size w W → Try.prog.globals.size ≤ W.heap.size := fun W hb => Nat.le_trans hG hb.size
 have T1 : ∀ W, Below w.heap.size w W → natSig.base W := fun W hb => baseUp hG hT hb
 have V1 : ∀ W, Below w.heap.size w W → RlIn W v qs rs := fun W hb => hv.keep hb
 have K1 : ∀ W, Below w.heap.size w W → Calls Try.prog 27 #[v, .func (.func 28) #[] #[]] W fun e w' => ∃ u, e = .returned (.tuple ⟨[u, .bool true]⟩) ∧ NewOl 1 W w' u qs ∧ Below W.heap.size W w' := fun W hb => column_any false W hq hr hlr (by omega) h1 (V1 W hb) (G1 W hb) (T1 W hb)
 have K2 : ∀ W, Below w.heap.size w W → Calls Try.prog 27 #[v, .func (.func 29) #[] #[]] W fun e w' => ∃ u, e = .returned (.tuple ⟨[u, .bool true]⟩) ∧ NewOl 1 W w' u rs ∧ Below W.heap.size W w' := fun W hb => column_any true W hq hr hlr (by omega) h2 (V1 W hb) (G1 W hb) (T1 W hb)
 have K3 : ∀ W, Below w.heap.size w W → Calls Try.prog 30 #[v] W fun e w' => ∃ b, e = .returned (.slice (some ⟨b, 0, none⟩) qs.length qs.length) ∧ RlT w' (.slice (some ⟨b, 0, none⟩) qs.length qs.length) qs rs ∧ Below W.heap.size W w' := fun W hb => copied_any W hne (by omega) (V1 W hb)
 replace K1 := Lib.hid K1; replace K2 := Lib.hid K2; replace K3 := Lib.hid K3
 clear G1 T1 V1
 have hG0 := Lib.hid hG
 have hp : 0 < qs.length := List.length_pos_iff.2 hne
 obtain ⟨a, m, rfl, _⟩ := hv
 have c1 : ¬ ((qs.length : Int) = 0) := by omega
 have c2 : ¬ (64 < (qs.length : Int)) := by omega
 clear hq hr hlr hne h1 h2 hG hT
 go_enter Try.func7, Try.ntmps7
 go_wp2_with (go_at_call 27; with_reducible refine (K1.out _ (Below.refl _ _)).mono ?_; rintro e w1 ⟨u1, rfl, hu1, hb1⟩)
 have HB1 := Lib.hid hb1
 have HU1 := Lib.hid hu1
 obtain ⟨a1, m1, he1, _⟩ := hu1.ol
 clear hb1 hu1
 subst he1
 go_wp2_with (go_at_call 27; with_reducible refine (K2.out _ HB1.out).mono ?_; rintro e w2 ⟨u2, rfl, hu2, hb2⟩)
 have HB2 := Lib.hid (HB1.out.trans (hb2.mono HB1.out.size))
 have HB2' := Lib.hid hb2
 have HU2 := Lib.hid hu2
 obtain ⟨a2, m2, he2, _⟩ := hu2.ol
 clear hb2 hu2
 subst he2
 go_wp2_with (go_at_call 30; with_reducible refine (K3.out _ HB2.out).mono ?_; rintro e w3 ⟨b3, rfl, hu3, hb3⟩)
 have HB3 := Lib.hid hb3
 have HU3 := Lib.hid hu3
 clear hb3 hu3
 go_ret2
 have HBA := (Below.refl w3.heap.size w3).alloc (Nat.le_refl _) (.cells #[.slice (some ⟨b3, 0, none⟩) qs.length qs.length, .slice a1 qs.length m1, .slice a2 rs.length m2] 37)
 have HB23 : w1.heap.size ≤ w3.heap.size := Nat.le_trans HB2'.out.size HB3.out.size
 refine ⟨_, rfl, ⟨w3.heap.size, _, _, _, rfl, Nat.le_trans hG0.out (HB2.out.trans (HB3.out.mono HB2.out.size)).size, ?_, HU3.out.stay (below_keptT HBA), (((HU1.out.ol.lsT HB23).stay (below_keptT HB2'.out)).stay (below_keptT HB3.out)).stay (below_keptT HBA), ((HU2.out.ol.lsT HB3.out.size).stay (below_keptT HB3.out)).stay (below_keptT HBA)⟩, (HB2.out.trans (HB3.out.mono HB2.out.size)).trans (HBA.mono (HB2.out.trans (HB3.out.mono HB2.out.size)).size)⟩
 show (w3.heap.push _)[w3.heap.size]? = _
 simp
noncomputable def zFrV (n : Int) : Value := .tuple ⟨[.agg ⟨[.bool false, .string ⟨#[]⟩, .string ⟨#[]⟩]⟩, .int .i64 n]⟩
noncomputable def toS (g f : Bool) : Nat × (List Value → Option (M Sy Value)) := (toF, fun args => match args with
 | [a, b, z] => match z with
  | .agg cs => some (bind (lsArg [] a) fun l => bind (lsArg [] b) fun k => bind (frcV cs.toList) fun q => match q with
   | some e => cond (isLe l 1 0 && (isLe k 1 3 && e.beq (.v 8))) (cond g (ret (zFrV 130)) (cond f (bind (newFacts [.ng (.v 105), .fn (.v 105), .fd (.v 105)]) fun vs => ret (.tuple ⟨[.agg ⟨vs⟩, .int .i64 0]⟩)) (ret (zFrV 3)))) fail
   | none => fail)
  | _ => none
 | _ => none)
theorem goes_aggE {ρ : Env} {fs : List Sy} {f : FuncId} {args' : List Value} {h h' : Tr (Blk Sy)} {nx nx' : Nat} {R W : List Nat} {r : Ren} {w : World} {v u2 : Value} (hp : plain u2 = true) (e : (bind (newFacts fs) fun vs => ret (.tuple ⟨[.agg ⟨vs⟩, u2]⟩) : M Sy Value) h nx = .ok v h' nx' R W) (hM : Mod (symSig ρ) r h.get w) (hN : New r nx nx')
  (c : Calls Try.prog f ⟨args'⟩ w fun en w' => ∃ us, en = .returned (.tuple ⟨[.agg ⟨us⟩, u2]⟩) ∧ HoldsL (symSig ρ) w' fs us ∧ Below w.heap.size w w') :
  GoesS ρ f args' r w nx nx' W h'.get v := goes_aggT hp e hM hN c
theorem toS_ok {ρ : Env} {g f : Bool} {c : Nat} (hq : ∀ y ∈ ρ.lst 0, Fit y) (hr : ∀ y ∈ ρ.lst 3, Fit y) (hx : Fit (ρ.q 8)) (hl : (ρ.lst 0).length ≤ 10000) (hlr : (ρ.lst 3).length = (ρ.lst 0).length) (h6 : c ≤ (ρ.lst 0).length) (hb : ∀ t, t < c → (ρ.lst 0).getD t 0 < ρ.q 8) (ha : ∀ t, c ≤ t → t < (ρ.lst 0).length → ¬ (ρ.lst 0).getD t 0 < ρ.q 8)
  (hg : linAt (ρ.lst 0) (ρ.lst 3) (ρ.q 8) c = cond g none (some (ρ.q 105))) (hf : f = true ↔ Fit (ρ.q 105)) : SumF (symSig ρ) Try.prog (toS g f).1 (toS g f).2 := by
 intro args m e
 rcases args with _ | ⟨a, _ | ⟨b, _ | ⟨z, _ | ⟨z2, l⟩⟩⟩⟩ <;> first | (cases (show none = some m from e); done) | skip
 cases z <;> first | (cases (show none = some m from e); done) | skip
 rename_i cs
 cases e
 refine ⟨loc_bind (loc_lsArg _ _) fun _ => loc_bind (loc_lsArg _ _) fun _ => loc_bind (loc_frcV _) fun q => ?_, fun h nx v h' nx' R W e r w args' hv hM hN => ?_⟩
 ·split
  ·exact loc_cond (loc_cond (loc_ret _) (loc_cond (loc_bind (loc_newFacts _) fun _ => loc_ret _) (loc_ret _))) loc_fail
  ·exact loc_fail
 have hn : AllX ρ [] := fun _ h => by simp at h
 cases hv with
 | cons v1 hv => cases hv with
  | cons v2 hv => cases hv with
   | cons v3 hv =>
    cases hv
    obtain ⟨l, g1, nx1, R1, W1, R2, W2, e1, e2, rfl, rfl⟩ := bind_ok e
    obtain ⟨rfl, rfl, rfl, q1⟩ := lsArg_ok hn e1 v1 hM
    obtain ⟨k, g3, nx3, R3, W3, R4, W4, e3, e4, rfl, rfl⟩ := bind_ok e2
    obtain ⟨rfl, rfl, rfl, q2⟩ := lsArg_ok hn e3 v2 hM
    obtain ⟨q, g5, nx5, R5, W5, R6, W6, e5, e6, rfl, rfl⟩ := bind_ok e4
    obtain ⟨cl⟩ := cs
    obtain ⟨cl', rfl, hcl⟩ := vr_agg v3
    obtain ⟨rfl, rfl, rfl, q3⟩ := frcV_ok e5 hcl hM
    cases q with
    | none => cases (show (fail : M Sy Value) _ _ = _ from e6)
    | some qe =>
    simp only at e6
    obtain ⟨hk, e7⟩ := cond_ok e6
    simp only [Bool.and_eq_true] at hk
    obtain rfl := isLe_ok hk.1
    obtain rfl := isLe_ok hk.2.1
    obtain rfl := Qe.beq_ok _ _ hk.2.2
    have q3' : cl' = [.bool (Big.ng (ρ.q 8)), .string (bst (Big.nu (ρ.q 8))), .string (bst (Big.de (ρ.q 8)))] := q3
    subst q3'
    have c0 := told_any w hq hr hx hl hlr h6 hb ha q1 q2 hM.fits hM.base
    rw [hg] at c0
    simp only [List.nil_append]
    cases g with
    | true => exact goes_pl (show (ret (zFrV 130) : M Sy Value) _ _ = _ from e7) rfl hM (c0.mono fun en w' hh => ⟨hh.1, hh.2⟩)
    | false =>
     cases f with
     | true =>
      have hfit := hf.1 rfl
      refine goes_aggE (u2 := .int .i64 0) rfl (show (bind (newFacts [.ng (.v 105), .fn (.v 105), .fd (.v 105)]) fun vs => ret (.tuple ⟨[.agg ⟨vs⟩, .int .i64 0]⟩) : M Sy Value) _ _ = _ from e7) hM hN (c0.mono ?_)
      rintro en w' ⟨h1, hb⟩
      rcases h1 with ⟨_, h1⟩ | ⟨h1, _⟩
      ·exact ⟨_, h1, frC_holds (ρ := ρ) (.v 105), hb⟩
      ·exact absurd hfit h1
     | false =>
      have hfit : ¬ Fit (ρ.q 105) := fun q => by have := hf.2 q; cases this
      refine goes_pl (show (ret (zFrV 3) : M Sy Value) _ _ = _ from e7) rfl hM (c0.mono ?_)
      rintro en w' ⟨h1, hb⟩
      rcases h1 with ⟨h1, _⟩ | ⟨_, h1⟩
      ·exact absurd h1 hfit
      ·exact ⟨h1, hb⟩
noncomputable def taF (k : Bool) : Nat := cond k 11 9
noncomputable def taBl (k : Bool) : List (BL Sy) := [⟨37, [.wl 1 0, .ls 1 (cond k 3 0), .ls 1 (cond k 0 3)], [.one, .one, .one]⟩]
noncomputable def taMk (ps vs : List Value) : List Value := ps ++ [.agg ⟨vs⟩]
noncomputable def taB : List Ix := [.bd 1, .lt 1 0 0 0 false, .lt 0 0 1 0 true]
noncomputable def taRun (k g f : Bool) : Option (E3 Sy) := tellsB (taBl k) [.ng (.v 8), .fn (.v 8), .fd (.v 8)] taMk (call Try.prog (lsCfg false [] taB noJ) (sumsOf (mkTab [toS g f])) 30 (taF k))
noncomputable def taD (g f : Bool) : E3 Sy := cond g (.tuple [.d (.agg [.p (.bool false), .p (.string ⟨#[]⟩), .p (.string ⟨#[]⟩)]), .d (.one (.p (.int .i64 130)))])
 (cond f (.tuple [.d (.agg [.f (.ng (.v 105)), .f (.fn (.v 105)), .f (.fd (.v 105))]), .d (.one (.p (.int .i64 0)))]) (.tuple [.d (.agg [.p (.bool false), .p (.string ⟨#[]⟩), .p (.string ⟨#[]⟩)]), .d (.one (.p (.int .i64 3)))]))
set_option maxHeartbeats 4000000 in
theorem ta_runs (k g f : Bool) : taRun k g f = some (taD g f) := by cases k <;> cases g <;> cases f <;> kernel_rfl
noncomputable def frV (x : Rat) : Value := .agg ⟨frC x⟩
theorem tab_bl {E : Env} {w : World} {b : Nat} {s u1 u2 : Value} {qs rs : List Rat} (k : Bool) (hb : w.heap[b]? = some (.cells ⟨[s, u1, u2]⟩ 37 (0, 0))) (hg : Try.prog.globals.size ≤ b) (hs : RlIn w s qs rs) (h1 : LsLo b 1 w u1 qs) (h2 : LsLo b 1 w u2 rs)
  (hlo : E.lo = b) (hn : E.nat 1 = qs.length) (h0 : E.lst (cond k 3 0) = qs) (h3 : E.lst (cond k 0 3) = rs) : BlksAre (symSig E) w (taBl k) [b] := by
 refine ⟨b, [], rfl, ⟨[s, u1, u2], ⟨_, _, rfl, ?_, hs.one, _, _, rfl, ?_, ?_, _, _, rfl, ?_, ?_, rfl⟩, hb⟩, by simp, hg, rfl⟩
 ·obtain ⟨a, m, rfl, _⟩ := hs
  exact ⟨a, _, m, rfl, by rw [hn, Int.add_zero]⟩
 ·show lsIs E 1 (cond k 3 0) w u1
  unfold lsIs
  rw [h0, hlo]; exact h1
 ·obtain ⟨a, m, rfl, _⟩ := h1; rfl
 ·show lsIs E 1 (cond k 0 3) w u2
  unfold lsIs
  rw [h3, hlo]; exact h2
 ·obtain ⟨a, m, rfl, _⟩ := h2; rfl
def tjQ (x z y : Rat) (i : Nat) : Rat := if i = 8 then x else if i = 9 then z else if i = 105 then y else 0
def tjNat (n : Nat) : Nat → Nat
 | 1 => n
 | _ => 0
def tjLst (qs rs : List Rat) : Nat → List Rat
 | 0 => qs
 | 3 => rs
 | _ => []
theorem tjQ_fit {x z y : Rat} (hx : Fit x) (hz : Fit z) (i : Nat) (h : i < 100) : Fit (tjQ x z y i) := by
 unfold tjQ
 split
 ·exact hx
 split
 ·exact hz
 rw [if_neg (by omega)]
 exact fit00
theorem tjQ_big {x z y : Rat} (hx : Fit x) (hz : Fit z) (hy : Sm 4096 y) (i : Nat) : Sm 4096 (tjQ x z y i) := by
 unfold tjQ
 split
 ·exact hx.sm.up (by decide)
 split
 ·exact hz.sm.up (by decide)
 split
 ·exact hy
 ·exact fit00.sm.up (by decide)
def tjEnv (qs rs : List Rat) (x z y : Rat) (hx : Fit x) (hz : Fit z) (hy : Sm 4096 y) (lo : Nat) : Env := ⟨tjQ x z y, fun _ => (false, ⟨#[]⟩, ⟨#[]⟩), fun i h => tjQ_fit hx hz i h, fun i => tjQ_big hx hz hy i, fun _ => bad_zero, lo, tjLst qs rs, tjNat qs.length, rfl⟩
theorem tj_B {qs rs : List Rat} {x z y : Rat} {hx : Fit x} {hz : Fit z} {hy : Sm 4096 y} {lo : Nat} (hne : qs ≠ []) (hl : qs.length ≤ 10000) : AllX (tjEnv qs rs x z y hx hz hy lo) taB := fun u hu => by
 have hp : 0 < qs.length := List.length_pos_iff.2 hne
 simp only [taB, List.mem_cons, List.not_mem_nil, or_false] at hu
 rcases hu with rfl | rfl | rfl
 ·exact hl
 ·show false = true ↔ ((qs.length : Nat) : Int) + 0 < ((0 : Nat) : Int) + 0
  exact ⟨fun h => (by cases h), fun h => by omega⟩
 ·show true = true ↔ ((0 : Nat) : Int) + 0 < ((qs.length : Nat) : Int) + 0
  exact ⟨fun _ => by omega, fun _ => rfl⟩
theorem tj_hid {E : Env} {b : Nat} (hlo : E.lo = b) (hf : Pl E) : ∀ b' ∈ [b], ∀ t, (symSig E).hn 0 t = false → (symSig E).hid b' t = false := fun b' hb t h => by
 obtain rfl := List.mem_singleton.1 hb
 exact (symSig E).new 0 _ _ (by show E.lo ≤ b'; rw [hlo]; exact Nat.le_refl _) h
theorem tab_any (k : Bool) (w : World) {qs rs : List Rat} {x : Rat} (hq : ∀ y ∈ qs, Fit y) (hr : ∀ y ∈ rs, Fit y) (hx : Fit x) (hl : qs.length ≤ 10000) (hlr : rs.length = qs.length) (hne : qs ≠ []) {c : Nat} (h6 : c ≤ qs.length) (hb : ∀ t, t < c → qs.getD t 0 < x) (ha : ∀ t, c ≤ t → t < qs.length → ¬ qs.getD t 0 < x)
  {v : Value} (hv : TabIn w v (cond k rs qs) (cond k qs rs)) (hG : Try.prog.globals.size ≤ w.heap.size) (hT : natSig.base w) :
  Calls Try.prog (taF k) ⟨[v, frV x]⟩ w fun e w' => ToRes (linAt qs rs x c) e ∧ Below w.heap.size w w' := by
 obtain ⟨b, s, u1, u2, rfl, hgb, hbb, hs, h1, h2⟩ := hv.un
 obtain ⟨g, y, hy, hg⟩ : ∃ (g : Bool) (y : Rat), Sm 4096 y ∧ linAt qs rs x c = cond g none (some y) := by
  cases h : linAt qs rs x c with
  | none => exact ⟨true, 0, fit00.sm.up (by decide), rfl⟩
  | some y => exact ⟨false, y, lin_sm hq hr hx h, rfl⟩
 obtain ⟨f, hf⟩ : ∃ b : Bool, b = true ↔ Fit y := by
  by_cases h : Fit y
  ·exact ⟨true, ⟨fun _ => h, fun _ => rfl⟩⟩
  ·exact ⟨false, ⟨fun q => (by cases q), fun q => absurd q h⟩⟩
 let E := tjEnv qs rs x 0 y hx fit00 hy b
 have hA : AllH E [] := fun z hz => by simp at hz
 have hB : AllX E taB := tj_B hne hl
 have hS : SumOK (symSig E) Try.prog (sumsOf (mkTab [toS g f])) := sumsOf_ok fun z hz => by
  obtain rfl := List.mem_singleton.1 hz
  exact toS_ok (ρ := E) hq hr hx hl hlr h6 hb ha hg hf
 have hbl : BlksAre (symSig E) w (taBl k) [b] := tab_bl k hbb hgb hs h1 h2 rfl (by cases k <;> simp [E, tjEnv, tjNat, hlr]) (by cases k <;> rfl) (by cases k <;> rfl)
 have hlt := (Array.getElem?_eq_some_iff.1 hbb).1
 refine (tellsB_calls (lsFits hA hB) hS (ta_runs k g f) (fun r ps qs vs us h1 h2 => h1.append (.cons (.agg h2) .nil)) (by cases k <;> kernel_rfl) glob_few hbl (frC_holds (ρ := E) (.v 8)) hG hT (tj_hid rfl rfl) (Nat.le_of_lt hlt) (.none rfl)).mono ?_
 rintro e w' ⟨v', rfl, h1, hbe⟩
 refine ⟨?_, hbe⟩
 rw [hg]
 cases g with
 | true =>
  obtain ⟨vs, rfl, a, l1, rfl, ⟨us, rfl, a1, m1, rfl, k1, a2, m2, rfl, k2, a3, m3, rfl, k3, rfl⟩, u2, l2, rfl, h2, rfl⟩ := h1
  have k1' : a1 = .bool false := k1
  have k2' : a2 = .string ⟨#[]⟩ := k2
  have k3' : a3 = .string ⟨#[]⟩ := k3
  have h2' : u2 = .int .i64 130 := h2
  subst k1' k2' k3' h2'
  rfl
 | false =>
  cases f with
  | true =>
   obtain ⟨vs, rfl, a, l1, rfl, ⟨us, rfl, a1, m1, rfl, k1, a2, m2, rfl, k2, a3, m3, rfl, k3, rfl⟩, u2, l2, rfl, h2, rfl⟩ := h1
   have k1' : a1 = .bool (Big.ng y) := k1
   have k2' : a2 = .string (bst (Big.nu y)) := k2
   have k3' : a3 = .string (bst (Big.de y)) := k3
   have h2' : u2 = .int .i64 0 := h2
   subst k1' k2' k3' h2'
   exact .inl ⟨hf.1 rfl, rfl⟩
  | false =>
   obtain ⟨vs, rfl, a, l1, rfl, ⟨us, rfl, a1, m1, rfl, k1, a2, m2, rfl, k2, a3, m3, rfl, k3, rfl⟩, u2, l2, rfl, h2, rfl⟩ := h1
   have k1' : a1 = .bool false := k1
   have k2' : a2 = .string ⟨#[]⟩ := k2
   have k3' : a3 = .string ⟨#[]⟩ := k3
   have h2' : u2 = .int .i64 3 := h2
   subst k1' k2' k3' h2'
   exact .inr ⟨fun h => (by have := hf.2 h; cases this), rfl⟩
end Ev
end Go.Proofs.Ytnlhjcfpfapafaa
namespace Go.Proofs.Ytnlhjcfpfapafaa
open Go.RowKit
set_option maxRecDepth 100000 in
set_option maxHeartbeats 4000000 in
theorem rasize_any (w : World) (n : Int) (h0 : -9223372036854775808 ≤ n) (h1 : n ≤ 9223372036854775807) :
  Calls Try.prog 62 #[.int .i64 n] w (Nat1 w n.natAbs) := by
 have hM : n.natAbs < Big.M64 := by unfold Big.M64; omega
 have C := Lib.hid (of_num w n.natAbs hM)
 clear hM
 by_cases hn : n < 0
 ·obtain ⟨u, rfl⟩ : ∃ u : Nat, n = -(u : Int) := ⟨n.natAbs, by omega⟩
  have e : (-(u : Int)).natAbs = u := by omega
  rw [e] at C ⊢
  have hwr : IntKind.u64.wrap (-IntKind.u64.wrap (-(u : Int))) = (u : Int) := by rw [IntKind.wrap_u64, IntKind.wrap_u64]; omega
  clear e
  go_enter Try.func62, Try.ntmps62
  go_wp2_with fail
  refine C.out.mono ?_
  rintro e w' ⟨v', rfl, hv, hb⟩
  go_wp2_with fail
  go_ret
  exact ⟨_, rfl, hv, hb⟩
 ·obtain ⟨u, rfl⟩ : ∃ u : Nat, n = (u : Int) := ⟨n.natAbs, by omega⟩
  have e : ((u : Int)).natAbs = u := by omega
  rw [e] at C ⊢
  clear e
  go_enter Try.func62, Try.ntmps62
  go_wp2_with fail
  refine C.out.mono ?_
  rintro e w' ⟨v', rfl, hv, hb⟩
  go_wp2_with fail
  go_ret
  exact ⟨_, rfl, hv, hb⟩
def Ret2 (w : World) (v : Value) (n : Int) (e : Ending) (w' : World) : Prop := e = .returned (.tuple #[v, .int .i64 n]) ∧ Below w.heap.size w w'
theorem At3.both {w w' : World} {g : Nat} {T : TypeId} {a b c : Value} (h : At3 w g T a b c) (hb : Below w.heap.size w w') (B : Nat) (w0 : World) (hB : Below B w0 w) : At3 w' g T a b c ∧ Below B w0 w' → At3 w' g T a b c := fun _ => h.keep hb
set_option maxRecDepth 100000 in
set_option maxHeartbeats 4000000 in
theorem answer_fit (w : World) (vx : Value) (q : Rat) (k : Nat) (hx : NumIn w vx q) (sx : Sm k q) (hk : k ≤ 10000000) (hf : Fit q) :
  Calls Try.prog 60 #[vx] w (Ret2 w (fracV q) 0) := by
 have SX := Lib.hid sx; have HF := Lib.hid hf
 obtain ⟨A, l, c, A2, l2, c2, rfl, hx1, hx2⟩ := hx.is_agg
 have HX := Lib.hid (And.intro hx1 hx2)
 have HQ := Lib.hid hx
 obtain ⟨X0, R0, B0⟩ := boxed2 w 70 27 (.bool (Big.ng q)) (.slice A l c) (.slice A2 l2 c2) (.bool false) (.string ⟨#[]⟩) (.string ⟨#[]⟩)
 have HR0 := Lib.hid R0; have HB0 := Lib.hid B0
 have x0 := X0.c0; have x1 := X0.c1; have x2 := X0.c2
 have C := Lib.hid (fun W (h : Below w.heap.size w W) => exFrac_fit W _ q k (HQ.out.keep h) SX.out hk HF.out)
 clear hx hx1 hx2 sx X0 R0 B0 hf
 go_enter Try.func60, Try.ntmps60
 go_wp2_with fail
 refine (C.out _ HB0.out).mono ?_
 generalize (w.alloc (.cells #[.bool (Big.ng q), .slice A l c, .slice A2 l2 c2] 70)).alloc (.cells #[.bool false, .string ⟨#[]⟩, .string ⟨#[]⟩] 27) = w0 at *
 rintro e w1 ⟨rfl, hw1⟩
 unfold fracV
 have HB1 := Lib.hid (HB0.out.trans (hw1.mono HB0.out.size))
 have R1 := HR0.out.keep hw1
 have hlt := R1.lt
 have HD := Lib.hid ((At3.put R1 (.bool (Big.ng q)) (.string (bst (Big.nu q))) (.string (bst (Big.de q)))).alloc' (.cells #[.bool (Big.ng q), .string (bst (Big.nu q)), .string (bst (Big.de q))] 27))
 have HE := Lib.hid (below_alloc (put_below HB1.out (show w.heap.size ≤ w.heap.size + 1 by omega) (.bool (Big.ng q)) (.string (bst (Big.nu q))) (.string (bst (Big.de q)))) (Nat.le_refl _) (.cells #[.bool (Big.ng q), .string (bst (Big.nu q)), .string (bst (Big.de q))] 27))
 have k0 := R1.c0; have k1 := R1.c1; have k2 := R1.c2; have f0 := R1.frozen 0; have f1 := R1.frozen 1; have f2 := R1.frozen 2
 clear R1 hw1 x0 x1 x2 HR0 C
 go_wp2_with fail
 generalize ((((w1.setCell ⟨w.heap.size + 1, 0, none⟩ (.bool (Big.ng q))).setCell ⟨w.heap.size + 1, 1, none⟩ (.string (bst (Big.nu q)))).setCell ⟨w.heap.size + 1, 2, none⟩ (.string (bst (Big.de q)))).alloc (.cells #[.bool (Big.ng q), .string (bst (Big.nu q)), .string (bst (Big.de q))] 27)) = wz at HD HE ⊢
 clear k0 k1 k2 f0 f1 f2
 have r0 := HD.out.c0; have r1 := HD.out.c1; have r2 := HD.out.c2
 exact bodyPost_ret (v := .tuple #[.agg #[.bool (Big.ng q), .string (bst (Big.nu q)), .string (bst (Big.de q))], .int .i64 0]) (by simp [results, Try.results60, go_sem, r0, r1, r2]) rfl ⟨rfl, HE.out⟩
def ofQ (n d : Int) : Rat := mkRat (Big.sI (decide (n < 0) != decide (d < 0)) n.natAbs) d.natAbs
theorem ofQ_by {n d : Int} {k : Nat} (hn : n.natAbs < 256 ^ k) (hd : d.natAbs < 256 ^ k) (h0 : d ≠ 0) : By k (ofQ n d) := by
 obtain ⟨_, p2, p3⟩ := Big.of_parts (decide (n < 0) != decide (d < 0)) n.natAbs d.natAbs (by omega)
 unfold ofQ
 exact ⟨by rw [p2]; exact Nat.lt_of_le_of_lt (Nat.div_le_self _ _) hn, by rw [p3]; exact Nat.lt_of_le_of_lt (Nat.div_le_self _ _) hd⟩
set_option maxRecDepth 100000 in
set_option maxHeartbeats 4000000 in
theorem raOf_any (w : World) (n d : Int) (h0 : -9223372036854775808 ≤ n) (h1 : n ≤ 9223372036854775807) (h2 : -9223372036854775808 ≤ d) (h3 : d ≤ 9223372036854775807) (hd : d ≠ 0) :
  Calls Try.prog 31 #[.int .i64 n, .int .i64 d] w (Ret2 w (fracV (ofQ n d)) 0) := by
 have hb : By 8 (ofQ n d) := ofQ_by (by omega) (by omega) hd
 have HF := Lib.hid (hb.fit (by omega))
 have C1 := Lib.hid (fun W => rasize_any W n h0 h1)
 have C2 := Lib.hid (fun W => rasize_any W d h2 h3)
 have z1 : Sz 1 n.natAbs := sz_word (by unfold Big.M64; omega)
 have z2 : Sz 1 d.natAbs := sz_word (by unfold Big.M64; omega)
 have C3 := Lib.hid (fun W b v u (h : NatIn W v n.natAbs) (i : NatIn W u d.natAbs) => exOf_any W b v u n.natAbs d.natAbs 1 1 h i z1 z2 (by omega) (by omega) (by omega))
 have C4 := Lib.hid (fun W v (h : NumIn W v (ofQ n d)) => answer_fit W v _ 64 h HF.out.sm (by omega) HF.out)
 have hd0 : (d == 0) = false := beq_eq_false_iff_ne.2 hd
 have HOF := Lib.hid (show ofQ n d = mkRat (Big.sI (!(decide (n < 0) == decide (d < 0))) n.natAbs) d.natAbs from rfl)
 have HR0 := Lib.hid (At3.new w 27 (.bool false) (.string ⟨#[]⟩) (.string ⟨#[]⟩))
 have HB0 := Lib.hid (box1_below w (.cells #[.bool false, .string ⟨#[]⟩, .string ⟨#[]⟩] 27))
 clear hb z1 z2 hd h0 h1 h2 h3
 obtain ⟨Q, hQ⟩ : ∃ Q, ofQ n d = Q := ⟨_, rfl⟩
 rw [hQ] at HF C4 HOF ⊢
 clear hQ
 go_enter Try.func31, Try.ntmps31
 go_wp2_with fail
 generalize w.alloc (.cells #[.bool false, .string ⟨#[]⟩, .string ⟨#[]⟩] 27) = w0 at *
 refine (C1.out _).mono ?_
 rintro e w1 ⟨v1, rfl, hv1, hw1⟩
 go_wp2_with fail
 refine (C2.out _).mono ?_
 rintro e w2 ⟨v2, rfl, hv2, hw2⟩
 go_wp2_with fail
 refine (C3.out _ _ _ _ (hv1.keep hw2) hv2).mono ?_
 rintro e w3 ⟨v3, rfl, hv3, hw3⟩
 rw [← HOF.out] at hv3
 go_wp2_with fail
 refine (C4.out _ _ hv3).mono ?_
 rintro e w4 ⟨rfl, hw4⟩
 unfold fracV
 have b1 := HB0.out.trans (hw1.mono HB0.out.size)
 have b2 := b1.trans (hw2.mono b1.size)
 have b3 := b2.trans (hw3.mono b2.size)
 have b4 := b3.trans (hw4.mono b3.size)
 have R4 := (((HR0.out.keep hw1).keep hw2).keep hw3).keep hw4
 have HD := Lib.hid (At3.put R4 (.bool (Big.ng Q)) (.string (bst (Big.nu Q))) (.string (bst (Big.de Q))))
 have HE := Lib.hid (put_below b4 (Nat.le_refl _) (.bool (Big.ng Q)) (.string (bst (Big.nu Q))) (.string (bst (Big.de Q))))
 have k0 := R4.c0; have k1 := R4.c1; have k2 := R4.c2; have f0 := R4.frozen 0; have f1 := R4.frozen 1; have f2 := R4.frozen 2
 clear R4 b1 b2 b3 b4 hw1 hw2 hw3 hw4 hv1 hv2 hv3 C1 C2 C3 C4 HOF HR0 HB0
 go_wp2_with fail
 generalize (((w4.setCell ⟨w.heap.size, 0, none⟩ (.bool (Big.ng Q))).setCell ⟨w.heap.size, 1, none⟩ (.string (bst (Big.nu Q)))).setCell ⟨w.heap.size, 2, none⟩ (.string (bst (Big.de Q)))) = wz at HD HE ⊢
 clear k0 k1 k2 f0 f1 f2
 have r0 := HD.out.c0; have r1 := HD.out.c1; have r2 := HD.out.c2
 exact bodyPost_ret (v := .tuple #[.agg #[.bool (Big.ng Q), .string (bst (Big.nu Q)), .string (bst (Big.de Q))], .int .i64 0]) (by simp [results, Try.results31, go_sem, r0, r1, r2]) rfl ⟨rfl, HE.out⟩
end Go.Proofs.Ytnlhjcfpfapafaa
namespace Go.Proofs.Ytnlhjcfpfapafaa
open Go Go.RowKit
namespace Ev
set_option maxRecDepth 100000
set_option maxHeartbeats 2000000 in
theorem of13_any (w : World) (n d : Int) (h0 : -9223372036854775808 ≤ n) (h1 : n ≤ 9223372036854775807) (h2 : -9223372036854775808 ≤ d) (h3 : d ≤ 9223372036854775807) (hd : d ≠ 0) :
  Calls Try.prog 8 #[.int .i64 n, .int .i64 d] w fun e w' => e = .returned (fracV (ofQ n d)) ∧ Below w.heap.size w w' := by
 have HB0 := Lib.hid (box1_below w (.cells #[.bool false, .string ⟨#[]⟩, .string ⟨#[]⟩] 27))
 have HR0 := Lib.hid (At3.new w 27 (.bool false) (.string ⟨#[]⟩) (.string ⟨#[]⟩))
 have C := Lib.hid (fun W => raOf_any W n d h0 h1 h2 h3 hd)
 obtain ⟨Z, hZ⟩ : ∃ Z, ofQ n d = Z := ⟨_, rfl⟩
 rw [hZ] at C ⊢
 clear hZ hd h0 h1 h2 h3
 go_enter Try.func8, Try.ntmps8
 go_wp2_with fail
 refine (C.out _).mono ?_
 generalize w.alloc (.cells #[.bool false, .string ⟨#[]⟩, .string ⟨#[]⟩] 27) = w0 at *
 rintro e w1 ⟨rfl, hw1⟩
 unfold fracV
 have R1 := HR0.out.keep hw1
 have hlt := R1.lt
 have HB1 := Lib.hid (HB0.out.trans (hw1.mono HB0.out.size))
 have HD := Lib.hid ((At3.put R1 (.bool (Big.ng Z)) (.string (bst (Big.nu Z))) (.string (bst (Big.de Z)))).alloc' (.cells #[.bool (Big.ng Z), .string (bst (Big.nu Z)), .string (bst (Big.de Z))] 27))
 have HE := Lib.hid (below_alloc (put_below HB1.out (Nat.le_refl _) (.bool (Big.ng Z)) (.string (bst (Big.nu Z))) (.string (bst (Big.de Z)))) (Nat.le_refl _) (.cells #[.bool (Big.ng Z), .string (bst (Big.nu Z)), .string (bst (Big.de Z))] 27))
 have k0 := R1.c0; have k1 := R1.c1; have k2 := R1.c2; have f0 := R1.frozen 0; have f1 := R1.frozen 1; have f2 := R1.frozen 2
 clear R1 hw1 HR0 HB0 C
 go_wp2_with fail
 generalize ((((w1.setCell ⟨w.heap.size, 0, none⟩ (.bool (Big.ng Z))).setCell ⟨w.heap.size, 1, none⟩ (.string (bst (Big.nu Z)))).setCell ⟨w.heap.size, 2, none⟩ (.string (bst (Big.de Z)))).alloc (.cells #[.bool (Big.ng Z), .string (bst (Big.nu Z)), .string (bst (Big.de Z))] 27)) = wz at HD HE ⊢
 clear k0 k1 k2 f0 f1 f2
 have r0 := HD.out.c0; have r1 := HD.out.c1; have r2 := HD.out.c2
 exact bodyPost_ret (v := .agg #[.bool (Big.ng Z), .string (bst (Big.nu Z)), .string (bst (Big.de Z))]) (by simp [results, Try.results8, go_sem, r0, r1, r2]) rfl ⟨rfl, HE.out⟩
theorem works13_run : runsN [] 400 13 [] = some (.bool true) := by kernel_rfl
end Ev
end Go.Proofs.Ytnlhjcfpfapafaa
namespace Go.Proofs.Ytnlhjcfpfapafaa
open Go.ChangeShapes Go.WideShapes Go.ChangeAt Go.RowKit
theorem own : ownKnob Try.prog.godebug = none := by kernel_rfl
section
variable {H : Type} {enc : TypeId × Value → H} {P : Program}
end
theorem glob_size {W : World} (h : W.ShapedOpen Try.prog) : Try.prog.globals.size ≤ W.heap.size := by
 have hb : Nat.ble (Try.prog.globals.size + 1) (begin Try.prog (fun _ _ => 0) default).world.heap.size = true := by kernel_rfl
 obtain ⟨o, o0, h1, -⟩ := h.2 Try.prog.globals.size (Nat.le_refl _) (Nat.le_of_ble_eq_true hb)
 exact Nat.le_of_lt (Array.getElem?_eq_some_iff.1 h1).1
end Go.Proofs.Ytnlhjcfpfapafaa
namespace Go.Proofs.Ytnlhjcfpfapafaa
open Go Go.ChangeShapes Go.WideShapes Go.ChangeAt Go.RowKit
theorem cell_below {W W' : World} (hb : Below W.heap.size W W') {a : Addr} (h : a.block < W.heap.size) : W'.cell? a = W.cell? a := by
 unfold World.cell?
 rw [hb.block _ h]
theorem frozen_below {W W' : World} (hb : Below W.heap.size W W') {a : Addr} (h : a.block < W.heap.size) : W'.frozen? a = W.frozen? a := by
 unfold World.frozen?
 rw [hb.block _ h]
theorem cell_lt {W : World} {a : Addr} {v : Value} (h : W.cell? a = some v) : a.block < W.heap.size := by
 apply Nat.lt_of_not_le
 intro hn
 have hx : W.heap[a.block]? = none := Array.getElem?_eq_none hn
 simp [World.cell?, hx] at h
section
variable {H : Type} {enc : TypeId × Value → H} {P : Program}
theorem post_kept {f : Func} {s : ChangeSpec} {apart fresh handsOn again : Bool} {W W' : World} {args : Array Value} {v : Value} {ds gs : List (DataW H)} {before : List MemPlace}
  (hW : DataW.Whole enc P f.params.toList s.vars apart W args.toList ds gs before)
  (hres : ∀ (b : Nat) (sp : Nat → Bool) (hd : Bool), DataW.TrodAll enc P W' b sp hd f.resultTypes.toList (v.resultList f.resultTypes.size) (s.fn H (ds ++ gs)).results [])
  (hargs : ∀ sp : Nat → Bool, (∀ p ∈ before, sp p.block = true) → DataW.TrodAll enc P W' 0 sp true f.params.toList args.toList (s.fn H (ds ++ gs)).args before)
  (hvars : ∀ sp : Nat → Bool, DataW.TrodVars enc P W' sp s.vars (s.fn H (ds ++ gs)).vars [])
  (hb : Below W.heap.size W W')
  (hok : ∀ (j : Nat) (t : TypeId) (r : Value), f.resultTypes[j]? = some t → (v.resultList f.resultTypes.size)[j]? = some r → Value.okWide P W' .any 0 t r) :
  s.post enc P f apart fresh handsOn again W args v W' := by
 have hk : W.keptBut W' (fun p => p ∈ ([] : List MemPlace)) := hb.frame _
 have hold : ∀ p ∈ before, (fun b => decide (b < W.heap.size)) p.block = true := fun p hp => by simpa using hW.lt p hp
 have hlt : ∀ p ∈ before, p.block < W.heap.size := fun p hp => hW.lt p hp
 refine ⟨ds, gs, before, [], before, [], hW, hres _ _ _, hargs _ hold, hvars _, World.keptBut_mono (fun p hp => by cases hp) hk, fun _ => ?_⟩
 obtain ⟨_, _, _, _, _, hz, hn⟩ := hW
 refine ⟨hok, _, _, before, ⟨[] ++ before, [], trodAll_append (hargs _ (fun _ _ => rfl)) (hres _ _ _), hvars _, by simp, ?_, hn⟩, fun p hp _ => hp⟩
 intro b off hp
 rw [frozen_below hb (a := ⟨b, off, none⟩) (hlt _ hp)]
 exact hz b off hp
end
end Go.Proofs.Ytnlhjcfpfapafaa
namespace Go.Proofs.Ytnlhjcfpfapafaa
open Go Go.RowKit
namespace Ev
set_option maxRecDepth 100000
def StIn (lo : Nat) (w : World) (v : Value) (ss : List (Nat × Nat)) : Prop := ∃ a m, v = .slice a ss.length m ∧ (∀ p ∈ ss, p.1 < 256 ∧ p.2 < 256) ∧ (ss ≠ [] → ∃ b off cl t z, a = some ⟨b, off, none⟩ ∧ b < lo ∧ w.heap[b]? = some (.cells ⟨cl⟩ t z) ∧ ∀ i p, ss[i]? = some p → cl[off + i * 2]? = some (.int .u8 (p.1 : Int)) ∧ cl[off + i * 2 + 1]? = some (.int .u8 (p.2 : Int)))
def stpA (ss : List (Nat × Nat)) : Nat → Int
 | 0 => -3
 | k + 1 => stpA ss k + 1 + ((ss.getD k (0, 0)).1 : Int)
def stpB (ss : List (Nat × Nat)) : Nat → Int
 | 0 => 1
 | k + 1 => stpB ss k + 1 + ((ss.getD k (0, 0)).2 : Int)
def rwQ (ss : List (Nat × Nat)) (n : Nat) : List Rat := (List.range n).map fun i => ofQ (stpA ss i) 4
def rwR (ss : List (Nat × Nat)) (n : Nat) : List Rat := (List.range n).map fun i => ofQ (stpB ss i) 6
def rwC (ss : List (Nat × Nat)) (n : Nat) : List Value := (List.range n).flatMap fun i => frC (ofQ (stpA ss i) 4) ++ frC (ofQ (stpB ss i) 6)
theorem rwC_succ (ss : List (Nat × Nat)) (n : Nat) : rwC ss (n + 1) = rwC ss n ++ (frC (ofQ (stpA ss n) 4) ++ frC (ofQ (stpB ss n) 6)) := by
 unfold rwC
 rw [List.range_succ, List.flatMap_append]
 simp
theorem rwC_len (ss : List (Nat × Nat)) : ∀ n, (rwC ss n).length = n * 6
 | 0 => rfl
 | n + 1 => by
  rw [rwC_succ, List.length_append, rwC_len ss n]
  show n * 6 + 6 = (n + 1) * 6
  omega
theorem rwC_at (ss : List (Nat × Nat)) : ∀ n i, i < n → ((rwC ss n).drop (i * 6)).take 6 = frC (ofQ (stpA ss i) 4) ++ frC (ofQ (stpB ss i) 6)
 | 0, i, h => absurd h (Nat.not_lt_zero _)
 | n + 1, i, h => by
  rw [rwC_succ]
  have hl := rwC_len ss n
  by_cases e : i = n
  ·subst e
   rw [← hl, List.drop_left]
   exact List.take_of_length_le (Nat.le_refl _)
  ·rw [List.drop_append_of_le_length (by omega), List.take_append_of_le_length (by rw [List.length_drop]; omega)]
   exact rwC_at ss n i (by omega)
theorem stpA_bd {ss : List (Nat × Nat)} (h : ∀ p ∈ ss, p.1 < 256 ∧ p.2 < 256) : ∀ k, -3 ≤ stpA ss k ∧ stpA ss k ≤ -3 + 256 * k
 | 0 => by show -3 ≤ (-3 : Int) ∧ (-3 : Int) ≤ _; omega
 | k + 1 => by
  have ih := stpA_bd h k
  have hg : ((ss.getD k (0, 0)).1) < 256 := by
   rw [List.getD_eq_getElem?_getD]
   cases hk : ss[k]? with
   | none => decide
   | some p => exact (h p (List.mem_of_getElem? hk)).1
  show -3 ≤ stpA ss k + 1 + _ ∧ stpA ss k + 1 + _ ≤ _
  omega
theorem stpB_bd {ss : List (Nat × Nat)} (h : ∀ p ∈ ss, p.1 < 256 ∧ p.2 < 256) : ∀ k, 1 ≤ stpB ss k ∧ stpB ss k ≤ 1 + 256 * k
 | 0 => by show 1 ≤ (1 : Int) ∧ (1 : Int) ≤ _; omega
 | k + 1 => by
  have ih := stpB_bd h k
  have hg : ((ss.getD k (0, 0)).2) < 256 := by
   rw [List.getD_eq_getElem?_getD]
   cases hk : ss[k]? with
   | none => decide
   | some p => exact (h p (List.mem_of_getElem? hk)).2
  show 1 ≤ stpB ss k + 1 + _ ∧ stpB ss k + 1 + _ ≤ _
  omega
def RlNew (w w' : World) (v : Value) (qs rs : List Rat) : Prop := ∃ b m cl z, v = .slice (some ⟨b, 0, none⟩) qs.length m ∧ qs.length ≤ m ∧ w.heap.size ≤ b ∧ w'.heap[b]? = some (.cells ⟨cl⟩ 30 z) ∧ RowsAt cl 0 qs rs
theorem ownB (v : Value) : v.ownBlock = none ∨ v.ownBlock ≠ none := by cases v.ownBlock <;> simp
theorem news_at (w : World) (l : List Value) (t : TypeId) (j : Nat) (u : Value) (h : l[j]? = some u) : (w.alloc (.cells l.toArray t)).cell? (Addr.add ⟨w.heap.size, 0, none⟩ j) = some u := by
 have hb : (w.alloc (.cells l.toArray t)).heap[w.heap.size]? = some (.cells l.toArray t (0, 0)) := by
  show (w.heap.push _)[w.heap.size]? = _
  simp
 rw [add_off]
 simp only [World.cell?, hb]
 simpa using h
set_option maxHeartbeats 4000000 in
theorem rows_any (w : World) {ss : List (Nat × Nat)} {v : Value} {lo : Nat} (hv : StIn lo w v ss) :
  Calls Try.prog 14 #[v] w fun e w' => ∃ u, e = .returned u ∧ RlNew w w' u (rwQ ss (min ss.length 29 + 1)) (rwR ss (min ss.length 29 + 1)) ∧ Below w.heap.size w w' := by
 obtain ⟨sa, sm, rfl, hbd, hcell⟩ := hv
 have hi0 : (Try.prog.info? 30).map (fun i => (i.zero.map Value.cells, i.size, i.bytes)) = some (some #[.bool false, .string ⟨#[]⟩, .string ⟨#[]⟩, .bool false, .string ⟨#[]⟩, .string ⟨#[]⟩], 6, 80) := by kernel_rfl
 obtain ⟨i0, hi, hi1⟩ := Option.map_eq_some_iff.1 hi0
 simp only [Prod.mk.injEq] at hi1
 obtain ⟨hz4, hz1, hz2⟩ := hi1
 obtain ⟨z0, hz0, hz3⟩ := Option.map_eq_some_iff.1 hz4
 have hz5 : z0.cells.size = 6 := by rw [hz3]; rfl
 have CA : ∀ (W : World) (n : Int), -10000 ≤ n ∧ n ≤ 10000 → Calls Try.prog 8 #[.int .i64 n, .int .i64 4] W fun e w' => e = .returned (.agg #[.bool (Big.ng (ofQ n 4)), .string (bst (Big.nu (ofQ n 4))), .string (bst (Big.de (ofQ n 4)))]) ∧ Below W.heap.size W w' := fun W n h => of13_any W n 4 (by omega) (by omega) (by omega) (by omega) (by omega)
 have CB : ∀ (W : World) (n : Int), -10000 ≤ n ∧ n ≤ 10000 → Calls Try.prog 8 #[.int .i64 n, .int .i64 6] W fun e w' => e = .returned (.agg #[.bool (Big.ng (ofQ n 6)), .string (bst (Big.nu (ofQ n 6))), .string (bst (Big.de (ofQ n 6)))]) ∧ Below W.heap.size W w' := fun W n h => of13_any W n 6 (by omega) (by omega) (by omega) (by omega) (by omega)
 replace CA := Lib.hid CA; replace CB := Lib.hid CB
 have HBD := Lib.hid hbd
 have HCE := Lib.hid hcell
 obtain ⟨N, hN⟩ : ∃ N, N = ss.length := ⟨_, rfl⟩
 rw [← hN]
 have HNN := Lib.hid hN
 clear hbd hcell hz3 hz4 hi0 hN
 go_enter Try.func14, Try.ntmps14
 go_wp2_with (go_at_call 8; with_reducible refine (CA.out _ _ ⟨by omega, by omega⟩).mono ?_; rintro e w1 ⟨rfl, hw1⟩)
 have HB1 := Lib.hid hw1
 clear hw1
 go_wp2_with (go_at_call 8; with_reducible refine (CB.out _ _ ⟨by omega, by omega⟩).mono ?_; rintro e w2 ⟨rfl, hw2⟩)
 have HB2 := Lib.hid (HB1.out.trans (hw2.mono HB1.out.size))
 clear hw2
 go_loopw [3, 4, 5, 6] (fun a b o i wr => ∃ (k : Nat) (A B : Int), k ≤ 29 ∧ k ≤ N ∧ i = .int .i64 k ∧ a = .int .i64 A ∧ b = .int .i64 B ∧ Hid (A = stpA ss k ∧ B = stpB ss k) ∧ -3 ≤ A ∧ A ≤ 8000 ∧ 1 ≤ B ∧ B ≤ 8000 ∧ Hid (wr.ownsRow w.heap.size 30 6 o (k + 1) (rwC ss (k + 1))) ∧ Hid (Below w.heap.size w wr)) (fun _ _ _ i _ => 29 - (intOf i).toNat)
 case atStart =>
  refine ⟨0, -3, 1, by omega, by omega, rfl, rfl, rfl, Lib.hid ⟨rfl, rfl⟩, by omega, by omega, by omega, by omega, Lib.hid ⟨rfl, .inr ⟨w2.heap.size, 1, _, rfl, HB2.out.size, heap_alloc_new _ _, Nat.le_refl _, by unfold maxLen; omega, rfl, rfl⟩⟩, Lib.hid (HB2.out.alloc HB2.out.size _)⟩
 case round =>
  obtain ⟨k, A, B, hk, hkN, rfl, rfl, rfl, HAB, hA1, hA2, hB1, hB2, HO, HB⟩ := hrel
  by_cases hkl : k < 29 ∧ k < N
  ·have hne : ss ≠ [] := fun q => by
    have := HNN.out
    rw [q] at this
    have : N = 0 := this
    omega
   obtain ⟨b, off, cl, ct, cz, rfl, _, hheap, hcs0⟩ := HCE.out hne
   have hlt := (Array.getElem?_eq_some_iff.1 hheap).1
   have hcs : ∀ i p, ss[i]? = some p → w.cell? ⟨b, off + i * 2, none⟩ = some (.int .u8 (p.1 : Int)) ∧ w.cell? ⟨b, off + i * 2 + 1, none⟩ = some (.int .u8 (p.2 : Int)) := fun i p hp => by
    obtain ⟨g1, g2⟩ := hcs0 i p hp
    constructor
    ·simp only [World.cell?, hheap]
     simpa using g1
    ·simp only [World.cell?, hheap]
     simpa using g2
   clear hcs0 hheap
   have hks : k < ss.length := by have := HNN.out; omega
   obtain ⟨p, hp⟩ : ∃ p, ss[k]? = some p := ⟨_, List.getElem?_eq_getElem hks⟩
   obtain ⟨hc1, hc2⟩ := hcs k p hp
   have hpb := HBD.out p (List.mem_of_getElem? hp)
   rw [← cell_below HB.out (a := ⟨b, off + k * 2, none⟩) hlt] at hc1
   rw [← cell_below HB.out (a := ⟨b, off + k * 2 + 1, none⟩) hlt] at hc2
   have hgd : ss.getD k (0, 0) = p := by rw [List.getD_eq_getElem?_getD, hp]; rfl
   have HP := Lib.hid (And.intro hp hgd)
   obtain ⟨p1, p2⟩ := p
   simp only at hc1 hc2 hpb
   obtain ⟨hp1, hp2⟩ := hpb
   have hk1 : (k : Int) < (N : Int) := by omega
   have hk2 : (k : Int) < 29 := by omega
   clear hp hgd hcs
   go_wp2_with (go_at_call 8; with_reducible refine (CA.out _ _ ⟨by omega, by omega⟩).mono ?_; rintro e w3 ⟨rfl, hw3⟩)
   have HW3 := Lib.hid hw3
   clear hw3
   refine (CB.out _ _ ⟨by omega, by omega⟩).mono ?_
   rintro e w4 ⟨rfl, hw4⟩
   have HW4 := Lib.hid (HW3.out.trans (hw4.mono HW3.out.size))
   clear hw4
   have HB4 := Lib.hid (HB.out.trans (HW4.out.mono HB.out.size))
   have HO4 := Lib.hid (World.ownsRow.kept HO.out (row := none) ⟨HW4.out.os, HW4.out.tape, HW4.out.output, HW4.out.size, fun k hk _ => HW4.out.block k hk⟩ (ownB _))
   have hzA := HB4.out.size
   obtain ⟨QA, hQA⟩ : ∃ q, ofQ (A + 1 + p1) 4 = q := ⟨_, rfl⟩
   obtain ⟨QB, hQB⟩ : ∃ q, ofQ (B + 1 + p2) 6 = q := ⟨_, rfl⟩
   rw [hQA, hQB]
   have HQ := Lib.hid (And.intro hQA hQB)
   clear hQA hQB hc1 hc2
   have HO5 := Lib.hid (HO4.out.alloc (.cells (frC QA ++ frC QB).toArray 30))
   have HN5 := Lib.hid (fun j u h => news_at w4 (frC QA ++ frC QB) 30 j u h)
   go_wp2_with (at_builtin; refine wpList_append_own _ rfl _ _ 34 rfl w.heap.size 30 i0 z0 6 80 Try.underlying34 hi hz0 hz1 hz2 hz5 (by decide) _ _ _ rfl HO5.out ⟨w4.heap.size, 0, none⟩ 1 1 (frC QA ++ frC QB) rfl rfl HN5.out (by intro u' hu'; simp [frC] at hu'; rcases hu' with h | h | h | h | h | h <;> rw [h] <;> rfl) (by unfold maxLen; omega) (by omega) (by simp; omega) ?_)
   intro v1 w5 hown hgrow _
   have HO6 := Lib.hid hown
   have HB6 := Lib.hid ((HB4.out.alloc HB4.out.size (.cells (frC QA ++ frC QB).toArray 30)).grown hgrow (by simp; omega) (fun k hk => (HO.out.lt k hk).1))
   clear hown hgrow
   go_wp2_with fail
   go_roundw
   case rel =>
    have hgd := HP.out.2
    refine ⟨k + 1, A + 1 + p1, B + 1 + p2, by omega, by omega, by go_num, rfl, rfl, Lib.hid ⟨?_, ?_⟩, by omega, ?_, by omega, ?_, Lib.hid ?_, HB6⟩
    ·show _ = stpA ss k + 1 + ((ss.getD k (0, 0)).1 : Int)
     rw [hgd, ← HAB.out.1]
    ·show _ = stpB ss k + 1 + ((ss.getD k (0, 0)).2 : Int)
     rw [hgd, ← HAB.out.2]
    ·have h1 := stpA_bd HBD.out (k + 1)
     have h2 : stpA ss (k + 1) = A + 1 + p1 := by
      show stpA ss k + 1 + ((ss.getD k (0, 0)).1 : Int) = _
      rw [hgd, ← HAB.out.1]
     omega
    ·have h1 := stpB_bd HBD.out (k + 1)
     have h2 : stpB ss (k + 1) = B + 1 + p2 := by
      show stpB ss k + 1 + ((ss.getD k (0, 0)).2 : Int) = _
      rw [hgd, ← HAB.out.2]
     omega
    ·have h1 := HO6.out
     have h2 : stpA ss (k + 1) = A + 1 + p1 := by
      show stpA ss k + 1 + ((ss.getD k (0, 0)).1 : Int) = _
      rw [hgd, ← HAB.out.1]
     have h3 : stpB ss (k + 1) = B + 1 + p2 := by
      show stpB ss k + 1 + ((ss.getD k (0, 0)).2 : Int) = _
      rw [hgd, ← HAB.out.2]
     rw [rwC_succ, h2, h3, HQ.out.1, HQ.out.2]
     exact h1
   case measure => simp [intOf]; omega
  ·have hkm : k = min N 29 := by omega
   have HKM := Lib.hid hkm
   clear hkm
   have fin : ∀ u, wr.ownsRow w.heap.size 30 6 u (k + 1) (rwC ss (k + 1)) → RlNew w wr u (rwQ ss (k + 1)) (rwR ss (k + 1)) := fun u hu => by
    rcases hu.2 with ⟨_, h⟩ | ⟨g, cap, cur, rfl, hb, hg, hn, _, hs, ht⟩
    ·omega
    ·refine ⟨g, cap, cur.toList, _, by simp [rwQ], by simp [rwQ]; exact hn, hb, hg, by simp [rwQ, rwR], fun i q p h1 h2 => ?_⟩
     have hil : i < k + 1 := by
      have := (List.getElem?_eq_some_iff.1 h1).1
      simpa [rwQ] using this
     have e1 : q = ofQ (stpA ss i) 4 := by
      simp only [rwQ, List.getElem?_map, List.getElem?_range hil, Option.map_some, Option.some.injEq] at h1
      exact h1.symm
     have e2 : p = ofQ (stpB ss i) 6 := by
      simp only [rwR, List.getElem?_map, List.getElem?_range hil, Option.map_some, Option.some.injEq] at h2
      exact h2.symm
     rw [e1, e2, ← rwC_at ss (k + 1) i hil, ← ht, Nat.zero_add, List.drop_take, List.take_take, Nat.min_eq_left (by omega)]
   have FIN := Lib.hid fin
   clear fin
   by_cases hkN2 : k < N
   ·have hk1 : (k : Int) < (N : Int) := by omega
    have hk2 : ¬ (k : Int) < 29 := by omega
    go_wp2_with fail
    go_ret
    rw [← HKM.out]
    exact ⟨_, rfl, FIN.out _ HO.out, HB.out⟩
   ·have hk1 : ¬ (k : Int) < (N : Int) := by omega
    go_wp2_with fail
    go_ret
    rw [← HKM.out]
    exact ⟨_, rfl, FIN.out _ HO.out, HB.out⟩
end Ev
end Go.Proofs.Ytnlhjcfpfapafaa
