/- Contracts. -/
import Derived.Test.YtnlhjcfpfapafaaESq25
namespace Go.Proofs.Ytnlhjcfpfapafaa
open Go Go.RowKit
namespace Ev
set_option maxRecDepth 100000
noncomputable def elC (K : Nat) (l : List Value) : M Sy Qe := cond (isAggK K) (elV K (.agg ⟨l⟩)) (match l with
 | [v] => elV K v
 | _ => fail)
theorem loc_elC (K : Nat) (l : List Value) : Loc (elC K l) := by
 refine loc_cond (loc_elV _ _) ?_
 split
 ·exact loc_elV _ _
 ·exact loc_fail
noncomputable def oAp (B : List Ix) (t tx : TypeId) (m : Nat) (y : Value) : M Sy Nxt := bind (ownAt m) fun o => match o.2.2 with
 | none => match sliceT Try.prog t with
  | some e => match Try.prog.info? e with
   | some i => match i.zero with
    | some z => match leN B o.2.1 with
     | some p => cond (Nat.beq e (tyK o.1) && (bdB B p.1 && (decide (p.2 ≤ 1000) && (Nat.beq i.size (elSz o.1) && (Nat.beq z.cells.size i.size && (Nat.ble i.bytes 64 && !symHid e))))))
      (bind (srcO Try.prog i.size tx y) fun s => cond (Nat.beq s.1 1) (bind (elC o.1 s.2) fun q => bind (wr m .opq) fun _ => bind (fresh (.ow (.ol o.1 (.snoc o.2.1 q) none))) fun j => val (.chan (some j))) fail) fail
     | none => fail
    | none => fail
   | none => fail
  | none => fail
 | some _ => fail
theorem loc_oAp (B : List Ix) (t tx : TypeId) (m : Nat) (y : Value) : Loc (oAp B t tx m y) := by
 refine loc_bind (loc_ownAt _) fun o => ?_
 (repeat' split) <;> first
  | exact loc_fail
  | exact loc_cond (loc_bind (loc_srcO _ _ _ _) fun s => loc_cond (loc_bind (loc_elC _ _) fun q => loc_bind (loc_wr _ _) fun _ => loc_bind (loc_fresh _) fun _ => loc_val _) loc_fail) loc_fail
noncomputable def oSl (B : List Ix) (kp : Bool) (t : TypeId) (m : Nat) (p : Nat × Int) : M Sy Nxt := bind (ownAt m) fun o => match sliceT Try.prog t with
 | some e => match sizeT Try.prog e with
  | some _ => match leN B o.2.1 with
   | some q => cond (geZ B p.1 p.2 && notB (ltB B q.1 q.2 p.1 p.2)) (cond kp (lVal (.wl p.1 p.2)) (bind (wr m .opq) fun _ => bind (fresh (.ow (.ol o.1 (.take o.2.1 p.1 p.2) none))) fun j => val (.chan (some j)))) fail
   | none => fail
  | none => fail
 | none => fail
theorem loc_oSl (B : List Ix) (kp : Bool) (t : TypeId) (m : Nat) (p : Nat × Int) : Loc (oSl B kp t m p) := by
 refine loc_bind (loc_ownAt _) fun o => ?_
 (repeat' split) <;> first
  | exact loc_fail
  | exact loc_cond (loc_cond (loc_lVal _) (loc_bind (loc_wr _ _) fun _ => loc_bind (loc_fresh _) fun _ => loc_val _)) loc_fail
section
variable {ρ : Env} {B : List Ix} {h h' : Tr (Blk Sy)} {nx nx' : Nat} {R W : List Nat} {r : Ren} {w : World}
theorem elV_int {K : Nat} {v v' : Value} {q : Qe} (hk : isAggK K = false) (e : elV K v h nx = .ok q h' nx' R W) (hv : VR r v v') (hM : Mod (symSig ρ) r h.get w) : h' = h ∧ nx' = nx ∧ W = [] ∧ elIs K w (q.ev ρ.q) [v'] := by
 rcases K with _ | _ | _ | _ | K
 ·cases hk
 ·cases hk
 ·obtain ⟨f, h1, nx1, R1, W1, R2, W2, e1, e2, rfl, rfl⟩ := bind_ok (show bind (fact v) _ h nx = _ from e)
  obtain ⟨rfl, rfl, rfl, hf⟩ := fact_ok e1 hv hM
  cases f <;> first | (cases (show (fail : M Sy Qe) _ _ = _ from e2); done) | skip
  obtain ⟨hk, e3⟩ := cond_ok e2
  obtain ⟨rfl, rfl, rfl, rfl⟩ := ret_ok e3
  obtain rfl := Nat.eq_of_beq_eq_true hk
  exact ⟨rfl, rfl, rfl, v', rfl, hf⟩
 ·obtain ⟨f, h1, nx1, R1, W1, R2, W2, e1, e2, rfl, rfl⟩ := bind_ok (show bind (fact v) _ h nx = _ from e)
  obtain ⟨rfl, rfl, rfl, hf⟩ := fact_ok e1 hv hM
  cases f <;> first | (cases (show (fail : M Sy Qe) _ _ = _ from e2); done) | skip
  obtain ⟨hk, e3⟩ := cond_ok e2
  obtain ⟨rfl, rfl, rfl, rfl⟩ := ret_ok e3
  obtain rfl := Nat.eq_of_beq_eq_true hk
  exact ⟨rfl, rfl, rfl, v', rfl, hf⟩
 ·cases (show (fail : M Sy Qe) h nx = _ from e)
theorem elC_ok {K : Nat} {l l' : List Value} {q : Qe} (e : elC K l h nx = .ok q h' nx' R W) (hv : VsR r l l') (hM : Mod (symSig ρ) r h.get w) : h' = h ∧ nx' = nx ∧ W = [] ∧ elIs K w (q.ev ρ.q) l' := by
 unfold elC at e
 cases hk : isAggK K with
 | true =>
  rw [hk] at e
  have := elV_ok (v' := .agg ⟨l'⟩) (show elV K (.agg ⟨l⟩) h nx = _ from e) (.agg hv) hM
  exact this
 | false =>
  rw [hk] at e
  rcases l with _ | ⟨v, _ | ⟨v2, l⟩⟩ <;> first | (cases (show (fail : M Sy Qe) h nx = _ from e); done) | skip
  cases hv with
  | cons h1 h2 =>
   cases h2
   exact elV_int hk (show elV K v h nx = _ from e) h1 hM
theorem opq_set {g : Nat → Option (Blk Sy)} {m j : Nat} {f : Sy} (h : Tr (Blk Sy)) (n : Nat) : ((h.set m .opq).set j (.ow f)).get n = (if n = j then some (.ow f) else if n ∈ [m] then some .opq else h.get n) := by
 rw [Tr.get_set, Tr.get_set]
 simp
set_option maxHeartbeats 1000000 in
theorem oAp_ok (hB : AllX ρ B) {t tx ty : TypeId} {m : Nat} {v' y y' : Value} {x : Nxt} (e : oAp B t tx m y h nx = .ok x h' nx' R W) (hv : r.val m = some v') (hy : VR r y y') (hM : Mod (symSig ρ) r h.get w) (hN : New r nx nx') (hf : Pl ρ) :
  nx ≤ nx' ∧ ∃ v u r' w', x = .val v ∧ (Builtin.append_ #[t, tx] ty #[v', y']).run Try.prog w = .ok u w' ∧ VR r' v u ∧ Ext (symSig ρ) r w nx nx' W h'.get r' w' := by
 obtain ⟨⟨K, l, z0⟩, h1, nx1, R1, W1, R2, W2, e1, e2, rfl, rfl⟩ := bind_ok e
 obtain ⟨hg, rfl, rfl, rfl⟩ := ownAt_ok e1
 simp only at e2 hg
 cases z0 with
 | some _ => cases (show (fail : M Sy Nxt) _ _ = _ from e2)
 | none =>
  simp only at e2
  cases hs : sliceT Try.prog t with
  | none => rw [hs] at e2; cases (show (fail : M Sy Nxt) _ _ = _ from e2)
  | some el =>
   rw [hs] at e2; simp only at e2
   cases hi : (Try.prog).info? el with
   | none => rw [hi] at e2; cases (show (fail : M Sy Nxt) _ _ = _ from e2)
   | some i =>
    rw [hi] at e2; simp only at e2
    cases hz : i.zero with
    | none => rw [hz] at e2; cases (show (fail : M Sy Nxt) _ _ = _ from e2)
    | some z =>
     rw [hz] at e2; simp only at e2
     cases hn : leN B l with
     | none => rw [hn] at e2; cases (show (fail : M Sy Nxt) _ _ = _ from e2)
     | some p =>
      rw [hn] at e2; simp only at e2
      obtain ⟨hk, e3⟩ := cond_ok e2
      simp only [Bool.and_eq_true, Bool.not_eq_true', decide_eq_true_eq] at hk
      obtain ⟨k1, k2, k3, k4, k5, k6, k7⟩ := hk
      have htk : el = tyK K := Nat.eq_of_beq_eq_true k1
      have hsz := Nat.eq_of_beq_eq_true k4
      have hzs := Nat.eq_of_beq_eq_true k5
      have hby := Nat.le_of_ble_eq_true k6
      obtain ⟨s, h3, nx3, R3, W3, R4, W4, e4, e5, rfl, rfl⟩ := bind_ok e3
      obtain ⟨rfl, rfl, rfl, news, hsrc, hnv⟩ := srcO_ok e4 hM hy
      obtain ⟨hk1, e6⟩ := cond_ok e5
      have hs1 := Nat.eq_of_beq_eq_true hk1
      rw [hs1] at hsrc
      obtain ⟨q, h5, nx5, R5, W5, R6, W6, e7, e8, rfl, rfl⟩ := bind_ok e6
      obtain ⟨rfl, rfl, rfl, hel⟩ := elC_ok e7 hnv hM
      obtain ⟨_, h6, nx6, R7, W7, R8, W8, e9, e10, rfl, rfl⟩ := bind_ok e8
      obtain ⟨rfl, rfl, rfl⟩ := wr_ok e9
      obtain ⟨j, h7, nx7, R9, W9, R10, W10, e11, e12, rfl, rfl⟩ := bind_ok e10
      obtain ⟨rfl, rfl, rfl, rfl⟩ := val_ok e12
      unfold fresh at e11
      cases e11
      obtain ⟨v0, q1, q2, q3, q4⟩ := hM.ow m _ hg
      rw [hv] at q1
      cases q1
      obtain ⟨a0, n, c, rfl, g1, g2, g3, g4, g5⟩ := (show olIs ρ K l none w _ from q2)
      have g3' : n = (l.ev ρ).length := g3
      have hln := leN_ok hB hn
      have hn1 : n ≤ 11000 := by
       have h1 := bdB_ok hB k2
       unfold atIx at hln
       omega
      have hus : news.length = elSz K := by rw [hsrc.newsLen, hsz, Nat.one_mul]
      have hlo : (symSig ρ).lo ≤ w.heap.size := hM.sz
      by_cases hroom : n + 1 ≤ c
      ·cases a0 with
       | none => have := g4 rfl; omega
       | some ad =>
        obtain ⟨cl, had, g6, g7, g8, g9⟩ := g5 ad rfl
        obtain ⟨b1, b2, b3⟩ := q4 _ rfl
        have hjz : (n + 1) * elSz K ≤ cl.length := by rw [g7]; exact Nat.mul_le_mul_right _ hroom
        have hjz' : n * elSz K + elSz K ≤ cl.length := by rw [Nat.add_mul, Nat.one_mul] at hjz; exact hjz
        have hrun := run_storeCells_at Try.prog ad.block (n * elSz K) (tyK K) news 0 ⟨cl⟩ w g6 (by simp only [List.size_toArray]; rw [hus]; omega) hsrc.one
        rw [Nat.add_zero, hus] at hrun
        have hF := frm_set (w' := w.setRow ad.block (cl.take (n * elSz K) ++ news ++ cl.drop (n * elSz K + elSz K)).toArray) g6 (d' := cl.take (n * elSz K) ++ news ++ cl.drop (n * elSz K + elSz K)) (by simp only [List.length_append, List.length_take, List.length_drop, hus]; omega) (setRow_heap g6) rfl rfl rfl
        have hself : (w.setRow ad.block (cl.take (n * elSz K) ++ news ++ cl.drop (n * elSz K + elSz K)).toArray).heap[ad.block]? = some (.cells ⟨cl.take (n * elSz K) ++ news ++ cl.drop (n * elSz K + elSz K)⟩ (tyK K) (0, 0)) := by
         rw [setRow_heap g6]
         simp [(Array.getElem?_eq_some_iff.1 g6).1]
        have hh0 : (symSig ρ).hid ad.block (tyK K) = false := by
         obtain ⟨c3, t3, z3, h3, h4⟩ := b3
         rw [g6] at h3
         simp only [Option.some.injEq, Obj.cells.injEq] at h3
         rw [h3.2.1]; exact h4
        have hkeep : Kept (fun _ => symHid) w (w.setRow ad.block (cl.take (n * elSz K) ++ news ++ cl.drop (n * elSz K + elSz K)).toArray) := fun b2 c2 t2 z2 hb2 hh2 => hF.keep b2 _ hb2 fun eq => by
         have eq' : b2 = ad.block := by simpa using eq
         subst eq'
         rw [g6] at hb2
         simp only [Option.some.injEq, Obj.cells.injEq] at hb2
         rw [hb2.2.1] at hh0
         have h4' : (Nat.blt ad.block ρ.lo || (ρ.fz.t t2 || symHid t2)) = false := hh0
         rw [show symHid t2 = true from hh2, Bool.or_true, Bool.or_true] at h4'
         cases h4'
        obtain ⟨r', hX, hr⟩ := ext_ownew (S := symSig ρ) (I := [m]) (O := [ad.block]) (x := .ol K (.snoc l q) none) (v := .slice (some ad) (n + 1) c) hM hN (fun i hi => ⟨.ol K l none, by rw [List.mem_singleton.1 hi]; exact hg⟩) (fun b hb => ⟨m, by simp, by rw [List.mem_singleton.1 hb]; exact b1⟩) (fun b hb => by rw [List.mem_singleton.1 hb]; exact ⟨b2, _, _, _, g6, hh0⟩) hF
         ⟨⟨_, n + 1, c, rfl, hroom, by show (l.ev ρ ++ [q.ev ρ.q]).length ≤ n + 1; rw [List.length_append, List.length_singleton]; omega, by show n + 1 = (l.ev ρ ++ [q.ev ρ.q]).length; rw [List.length_append, List.length_singleton]; omega, fun q => (by cases q), fun ad2 h2 => by
           cases h2
           refine ⟨_, had, hself, by simp only [List.length_append, List.length_take, List.length_drop, hus]; omega, fun i2 q2 hi => ?_, fun i2 hi hi2 => ?_⟩
           ·rw [Nat.zero_add, splice_at hus hjz]
            have hi' : (l.ev ρ ++ [q.ev ρ.q])[i2]? = some q2 := hi
            by_cases e0 : i2 = n
            ·rw [if_pos e0]
             rw [e0, g3'] at hi'
             simp at hi'
             rw [← hi']
             exact hel.stable hkeep
            ·rw [if_neg e0]
             have hlt2 : i2 < (l.ev ρ).length := by
              have := (List.getElem?_eq_some_iff.1 hi').1
              rw [List.length_append, List.length_singleton] at this
              omega
             rw [List.getElem?_append_left hlt2] at hi'
             have := g8 i2 q2 hi'
             rw [Nat.zero_add] at this
             exact this.stable hkeep
           ·have hi' : (l.ev ρ ++ [q.ev ρ.q]).length ≤ i2 := hi
            rw [List.length_append, List.length_singleton] at hi'
            omega⟩, rfl, fun b hb => by
           cases hb
           exact ⟨b2, _, _, _, hself, hh0⟩⟩ fun b hb => by
           cases hb
           exact .inl (by simp)
        refine ⟨Nat.le_succ _, _, _, r', w.setRow ad.block (cl.take (n * elSz K) ++ news ++ cl.drop (n * elSz K + elSz K)).toArray, rfl, ?_, .opq hr rfl, ?_⟩
        ·rw [had]
         exact run_room (sliceT_of hs) hi hsrc hroom (by rw [Nat.zero_add, hsz]; exact hrun)
        ·have hX2 := hX.congr (g' := ((h5.set m .opq).set _ (.ow (.ol K (.snoc l q) none))).get) fun n => .inr (opq_set (g := h5.get) h5 n)
         simpa using hX2
      ·have hcn : c = n := by omega
       subst hcn
       have hfit : roomB i.bytes (c + 1) = true := by
        unfold roomB
        have h1 : (c + 1) * i.bytes ≤ 11001 * 64 := Nat.mul_le_mul (by omega) hby
        rw [Nat.ble_eq_true_of_le (by omega), Nat.ble_eq_true_of_le (by omega)]; rfl
       obtain ⟨f1, f2, _⟩ := fits_of (old := c) hfit (by omega)
       have hge := grownCap_ge w (c + 1) c el
       have hcase : ∃ olds : List Value, (Builtin.firstCells i.size c (.slice a0 c c)).run Try.prog w.drew = .ok olds.toArray w.drew ∧ olds.length = c * elSz K ∧ ∀ i2 q2, (l.ev ρ)[i2]? = some q2 → elIs K w q2 ((olds.drop (i2 * elSz K)).take (elSz K)) := by
        cases a0 with
        | none =>
         have hc0 := g4 rfl
         subst hc0
         exact ⟨[], run_firstCells_none w.drew i.size 0 0 0, by simp, fun i2 q2 hi2 => by
          have := (List.getElem?_eq_some_iff.1 hi2).1; omega⟩
        | some ad =>
         obtain ⟨cl, had, g6, g7, g8, g9⟩ := g5 ad rfl
         refine ⟨cl, run_firstCells_some w.drew i.size c ad c c cl (by rw [g7, hsz]) (fun k u hk => ?_), g7, fun i2 q2 hi2 => ?_⟩
         ·rw [had, add_off, Nat.zero_add]
          show w.cell? _ = _
          simp only [World.cell?, g6]
          simpa using hk
         ·have := g8 i2 q2 hi2
          rw [Nat.zero_add] at this
          exact this
       obtain ⟨olds, hold, holen, hrow⟩ := hcase
       have hrun := run_append_grow_src (P := Try.prog) w t tx ty el i z (sliceT_of hs) hi hz a0 c c olds hold y' 1 news hsrc (by omega) f1 f2
       have hlen : ((olds ++ news).toArray ++ Builtin.zeroCells z.cells (grownCap w (c + 1) c el - (c + 1))).size = grownCap w (c + 1) c el * elSz K := by
        rw [Array.size_append, zero_len, hzs, hsz]
        simp only [List.size_toArray, List.length_append, holen, hus]
        have : c * elSz K + elSz K = (c + 1) * elSz K := by rw [Nat.add_mul, Nat.one_mul]
        rw [this, ← Nat.add_mul]
        congr 1
        omega
       have hFr : Frm [] w (w.drew.alloc (.cells ((olds ++ news).toArray ++ Builtin.zeroCells z.cells (grownCap w (c + 1) c el - (c + 1))) el)) := by
        have hk : ∀ (b : Nat) (o2 : Obj), w.heap[b]? = some o2 → (w.drew.alloc (.cells ((olds ++ news).toArray ++ Builtin.zeroCells z.cells (grownCap w (c + 1) c el - (c + 1))) el)).heap[b]? = some o2 := keep_alloc (w := w) (w0 := w.drew) rfl _
        exact ⟨fun b o2 h _ => hk b o2 h, by show w.heap.size ≤ (w.heap.push _).size; simp, rfl, rfl, rfl, .of hk⟩
       have hnew : (w.drew.alloc (.cells ((olds ++ news).toArray ++ Builtin.zeroCells z.cells (grownCap w (c + 1) c el - (c + 1))) el)).heap[w.heap.size]? = some (.cells ⟨((olds ++ news).toArray ++ Builtin.zeroCells z.cells (grownCap w (c + 1) c el - (c + 1))).toList⟩ (tyK K) (0, 0)) := by
        show (w.heap.push _)[w.heap.size]? = _
        rw [← htk]
        simp
       have hhid : (symSig ρ).hid w.heap.size (tyK K) = false := new_pl hf hlo (by rw [← htk]; exact k7)
       have hkeep : Kept (fun _ => symHid) w (w.drew.alloc (.cells ((olds ++ news).toArray ++ Builtin.zeroCells z.cells (grownCap w (c + 1) c el - (c + 1))) el)) := fun b2 c2 t2 z2 hb2 _ => hFr.keep b2 _ hb2 (by simp)
       obtain ⟨r', hX, hr⟩ := ext_ownew (S := symSig ρ) (I := [m]) (O := []) (x := .ol K (.snoc l q) none) (v := .slice (some ⟨w.heap.size, 0, none⟩) (c + 1) (grownCap w (c + 1) c el)) hM hN (fun i hi => ⟨.ol K l none, by rw [List.mem_singleton.1 hi]; exact hg⟩) (fun _ hb => by simp at hb) (fun _ hb => by simp at hb) hFr
        ⟨⟨_, c + 1, _, rfl, hge, by show (l.ev ρ ++ [q.ev ρ.q]).length ≤ c + 1; rw [List.length_append, List.length_singleton]; omega, by show c + 1 = (l.ev ρ ++ [q.ev ρ.q]).length; rw [List.length_append, List.length_singleton]; omega, fun q => (by cases q), fun ad2 h2 => by
          cases h2
          refine ⟨_, rfl, hnew, by rw [Array.length_toList, hlen], fun i2 q2 hi => ?_, fun i2 hi hi2 => ?_⟩
          ·have hi' : (l.ev ρ ++ [q.ev ρ.q])[i2]? = some q2 := hi
           have hcl : ((olds ++ news).toArray ++ Builtin.zeroCells z.cells (grownCap w (c + 1) c el - (c + 1))).toList = olds ++ (news ++ (Builtin.zeroCells z.cells (grownCap w (c + 1) c el - (c + 1))).toList) := by simp
           rw [Nat.zero_add, hcl]
           by_cases e0 : i2 = c
           ·rw [e0, g3'] at hi'
            simp at hi'
            rw [← hi', e0, List.drop_left' holen, List.take_left' hus]
            exact hel.stable hkeep
           ·have hlt2 : i2 < (l.ev ρ).length := by
             have := (List.getElem?_eq_some_iff.1 hi').1
             rw [List.length_append, List.length_singleton] at this
             omega
            rw [List.getElem?_append_left hlt2] at hi'
            have h2 := Nat.mul_le_mul_right (elSz K) (show i2 + 1 ≤ c by omega)
            rw [Nat.add_mul, Nat.one_mul] at h2
            rw [List.drop_append_of_le_length (by rw [holen]; omega), List.take_append_of_le_length (by rw [List.length_drop, holen]; omega)]
            exact (hrow i2 q2 hi').stable hkeep
          ·have hi' : (l.ev ρ ++ [q.ev ρ.q]).length ≤ i2 := hi
           rw [List.length_append, List.length_singleton] at hi'
           omega⟩, rfl, fun b hb => by
          cases hb
          exact ⟨hM.fits, _, _, _, hnew, hhid⟩⟩ fun b hb => by
          cases hb
          exact .inr (Nat.le_refl _)
       refine ⟨Nat.le_succ _, _, _, r', _, rfl, hrun, .opq hr rfl, ?_⟩
       have hX2 := hX.congr (g' := ((h5.set m .opq).set _ (.ow (.ol K (.snoc l q) none))).get) fun n => .inr (opq_set (g := h5.get) h5 n)
       simpa using hX2
end
noncomputable def oIxA (B : List Ix) (t : TypeId) (p : Nat × Int) (m : Nat) : M Sy Nxt := bind (rd m) fun x => match x with
 | .fact f => lIx B t p f
 | .ow _ => oIx B t p m
 | _ => fail
theorem loc_oIxA (B : List Ix) (t : TypeId) (p : Nat × Int) (m : Nat) : Loc (oIxA B t p m) := by
 refine loc_bind (loc_rd _) fun x => ?_
 split <;> first | exact loc_lIx _ _ _ _ | exact loc_oIx _ _ _ _ | exact loc_fail
noncomputable def intK (t : TypeId) : Option IntKind := match (Try.prog).underlying t with
 | some d => match d with
  | .int k => some k
  | _ => none
 | none => none
noncomputable def hasT (t : TypeId) : Bool := match (Try.prog).underlying t with
 | some _ => true
 | none => false
noncomputable def isI64 (k : Option IntKind) : Bool := match k with
 | some k => match k with
  | .i64 => true
  | _ => false
 | none => false
noncomputable def cvH (s t : TypeId) (v : Value) : M Sy Nxt := bind (fact v) fun f => match f with
 | .iz _ e => cond (hasT s && isI64 (intK t)) (lVal (.iz 0 e)) fail
 | _ => fail
theorem loc_cvH (s t : TypeId) (v : Value) : Loc (cvH s t v) := by
 refine loc_bind (loc_fact _) fun f => ?_
 split
 ·exact loc_cond (loc_lVal _) loc_fail
 ·exact loc_fail
noncomputable def isKd (k : Nat) (t : IntKind) : Bool := match t with
 | .i64 => Nat.beq k 0
 | .i8 => !Nat.beq k 0
 | _ => false
noncomputable def isZ (k : Nat) (v : Value) : Bool := match v with
 | .int t z => eqI z 0 && isKd k t
 | _ => false
theorem isZ_ok {k : Nat} {v : Value} (h : isZ k v = true) : v = .int (ikOf k) 0 := by
 cases v <;> first | (cases h; done) | skip
 rename_i t z
 simp only [isZ, Bool.and_eq_true] at h
 obtain rfl := eqI_ok h.1
 cases t <;> first | (cases h.2; done) | skip
 ·have h2 : (!Nat.beq k 0) = true := h.2
  cases k with
  | zero => cases h2
  | succ k => rfl
 ·have h2 : Nat.beq k 0 = true := h.2
  obtain rfl := Nat.eq_of_beq_eq_true h2
  rfl
noncomputable def zH (A : List As) (op : BinOp) (k : Nat) (e : Qe) (v : Value) : M Sy Nxt := cond (isZ k v) (match ask A 1 e z0 with
 | some t => match op with
  | .eql => val (.bool t)
  | .neq => val (.bool (!t))
  | _ => fail
 | none => fail) fail
theorem loc_zH (A : List As) (op : BinOp) (k : Nat) (e : Qe) (v : Value) : Loc (zH A op k e v) := by
 refine loc_cond ?_ loc_fail
 (repeat' split) <;> first | exact loc_val _ | exact loc_fail
noncomputable def is20 (v : Value) : Bool := match v with
 | .int k z => match k with
  | .i64 => eqI z 20
  | _ => false
 | _ => false
theorem is20_ok {v : Value} (h : is20 v = true) : v = .int .i64 20 := by
 cases v <;> first | (cases h; done) | skip
 rename_i k z
 cases k <;> first | (cases h; done) | skip
 rw [eqI_ok (show eqI z 20 = true from h)]
noncomputable def rmH (B : List Ix) (k : Nat) (e : Qe) (v : Value) : M Sy Nxt := cond (Nat.beq k 0 && is20 v) (match rmB B e with
 | some z => val (.int .i64 z)
 | none => fail) fail
theorem loc_rmH (B : List Ix) (k : Nat) (e : Qe) (v : Value) : Loc (rmH B k e v) := by
 refine loc_cond ?_ loc_fail
 split
 ·exact loc_val _
 ·exact loc_fail
noncomputable def izH (A : List As) (B : List Ix) (op : BinOp) (k : Nat) (e : Qe) (v : Value) : M Sy Nxt := match op with
 | .rem => rmH B k e v
 | op => zH A op k e v
theorem loc_izH (A : List As) (B : List Ix) (op : BinOp) (k : Nat) (e : Qe) (v : Value) : Loc (izH A B op k e v) := by
 unfold izH
 split
 ·exact loc_rmH _ _ _ _
 ·exact loc_zH _ _ _ _ _
noncomputable def binH (A : List As) (B : List Ix) (op : BinOp) (u v : Value) : M Sy Nxt := bind (fact (cond (isOpq u) u v)) fun f => match f with
 | .ix _ _ => bind (ixV u) fun p => bind (ixV v) fun q => iBin B op p q
 | .iz k e => cond (isOpq u) (izH A B op k e v) fail
 | _ => fail
theorem loc_binH (A : List As) (B : List Ix) (op : BinOp) (u v : Value) : Loc (binH A B op u v) := by
 refine loc_bind (loc_fact _) fun f => ?_
 split
 ·exact loc_bind (loc_ixV _) fun _ => loc_bind (loc_ixV _) fun _ => loc_iBin _ _ _ _
 ·exact loc_cond (loc_izH _ _ _ _ _ _) loc_fail
 ·exact loc_fail
noncomputable def slH (B : List Ix) (kp : Bool) (t : TypeId) (x b : Value) : M Sy Nxt := match chanOf x with
 | some m => bind (ixV b) fun p => oSl B kp t m p
 | none => fail
theorem loc_slH (B : List Ix) (kp : Bool) (t : TypeId) (x b : Value) : Loc (slH B kp t x b) := by
 unfold slH
 split
 ·exact loc_bind (loc_ixV _) fun _ => loc_oSl _ _ _ _ _
 ·exact loc_fail
noncomputable def tlH (B : List Ix) (t : TypeId) (x b : Value) : M Sy Nxt := bind (fact x) fun f => bind (ixV b) fun p => match f with
 | .ls K c => match tlB B c with
  | some d => match sliceT Try.prog t with
   | some e => match sizeT Try.prog e with
    | some s => cond (Nat.beq s (elSz K) && (Nat.beq p.1 0 && eqI p.2 1)) (lVal (.ls K d)) fail
    | none => fail
   | none => fail
  | none => fail
 | _ => fail
theorem loc_tlH (B : List Ix) (t : TypeId) (x b : Value) : Loc (tlH B t x b) := by
 refine loc_bind (loc_fact _) fun f => loc_bind (loc_ixV _) fun p => ?_
 (repeat' split) <;> first | exact loc_fail | exact loc_cond (loc_lVal _) loc_fail
noncomputable def hdH (B : List Ix) (t : TypeId) (x b : Value) : M Sy Nxt := bind (fact x) fun f => bind (ixV b) fun p => match f with
 | .ls K c => match hdB B c p.1 p.2 with
  | some d => match sliceT Try.prog t with
   | some e => match sizeT Try.prog e with
    | some s => cond (Nat.beq s (elSz K)) (lVal (.ls K d)) fail
    | none => fail
   | none => fail
  | none => fail
 | _ => fail
theorem loc_hdH (B : List Ix) (t : TypeId) (x b : Value) : Loc (hdH B t x b) := by
 refine loc_bind (loc_fact _) fun f => loc_bind (loc_ixV _) fun p => ?_
 (repeat' split) <;> first | exact loc_fail | exact loc_cond (loc_lVal _) loc_fail
noncomputable def isFc (x : Value) : M Sy Bool := match chanOf x with
 | some m => bind (rd m) fun y => match y with
  | .fact _ => ret true
  | _ => ret false
 | none => fail
theorem loc_isFc (x : Value) : Loc (isFc x) := by
 unfold isFc
 split
 ·refine loc_bind (loc_rd _) fun y => ?_
  split <;> exact loc_ret _
 ·exact loc_fail
noncomputable def shH (B : List Ix) (kp : Bool) (t : TypeId) (x b : Value) : M Sy Nxt := bind (isFc x) fun k => cond k (hdH B t x b) (slH B kp t x b)
theorem loc_shH (B : List Ix) (kp : Bool) (t : TypeId) (x b : Value) : Loc (shH B kp t x b) := loc_bind (loc_isFc _) fun _ => loc_cond (loc_hdH _ _ _ _) (loc_slH _ _ _ _ _)
section
variable {ρ : Env} {A : List As} {B : List Ix} {h h' : Tr (Blk Sy)} {nx nx' : Nat} {R W : List Nat} {r : Ren} {w : World}
theorem isFc_ok {x : Value} {k : Bool} (e : isFc x h nx = .ok k h' nx' R W) : h' = h ∧ nx' = nx ∧ W = [] := by
 unfold isFc at e
 cases hc : chanOf x with
 | none => rw [hc] at e; cases (show (fail : M Sy Bool) h nx = _ from e)
 | some m =>
  rw [hc] at e
  obtain ⟨y, h1, nx1, R1, W1, R2, W2, e1, e2, rfl, rfl⟩ := bind_ok e
  obtain ⟨_, rfl, rfl, rfl⟩ := rdb_ok e1
  cases y <;> (obtain ⟨rfl, rfl, rfl, rfl⟩ := ret_ok e2; exact ⟨rfl, rfl, rfl⟩)
theorem hdH_ok (hB : AllX ρ B) {t : TypeId} {x b v' b' : Value} {z : Nxt} (e : hdH B t x b h nx = .ok z h' nx' R W) (hv : VR r x v') (hb : VR r b b') (hM : Mod (symSig ρ) r h.get w) (hN : New r nx nx') :
  nx ≤ nx' ∧ ∃ v u r', z = .val v ∧ (Instr.sliceAt t v' none (some b') none).run Try.prog w = .ok u w ∧ VR r' v u ∧ Ext (symSig ρ) r w nx nx' W h'.get r' w := by
 obtain ⟨f, h1, nx1, R1, W1, R2, W2, e1, e2, rfl, rfl⟩ := bind_ok e
 obtain ⟨rfl, rfl, rfl, hf⟩ := fact_ok e1 hv hM
 obtain ⟨p, h3, nx3, R3, W3, R4, W4, e3, e4, rfl, rfl⟩ := bind_ok e2
 obtain ⟨rfl, rfl, rfl, hp⟩ := ixV_ok e3 hb hM
 cases f <;> first | (cases (show (fail : M Sy Nxt) _ _ = _ from e4); done) | skip
 rename_i K c
 simp only at e4
 cases hd : hdB B c p.1 p.2 with
 | none => rw [hd] at e4; cases (show (fail : M Sy Nxt) _ _ = _ from e4)
 | some d =>
  rw [hd] at e4; simp only at e4
  cases hs : sliceT Try.prog t with
  | none => rw [hs] at e4; cases (show (fail : M Sy Nxt) _ _ = _ from e4)
  | some el =>
   rw [hs] at e4; simp only at e4
   cases hz : sizeT Try.prog el with
   | none => rw [hz] at e4; cases (show (fail : M Sy Nxt) _ _ = _ from e4)
   | some s =>
    rw [hz] at e4
    obtain ⟨hk, e5⟩ := cond_ok (show cond (Nat.beq s (elSz K)) (lVal (.ls K d)) fail _ _ = _ from e4)
    obtain ⟨h0, hle0, hdl⟩ := hdB_ok hB hd
    obtain ⟨k, hk2⟩ := Int.eq_ofNat_of_zero_le h0
    obtain ⟨a, m, rfl, hm, hrow⟩ := (show lsIs ρ K c w v' from hf)
    have hkl : k ≤ (ρ.lst c).length := by omega
    rw [hk2] at hdl hp
    subst hp
    have hbd := run_bounds (P := Try.prog) (len := (ρ.lst c).length) (cap := m) (lo := none) (hi := some k) (mx := none) (lo' := none) (hi' := some (.int .i64 (k : Nat))) (mx' := none) (.inl ⟨rfl, rfl⟩) (.inr ⟨.i64, k, rfl, rfl⟩) (.inl ⟨rfl, rfl⟩) (fun q => by cases q) (Nat.zero_le _) (by show k ≤ m; omega) (Nat.le_refl _) w
    have hcut := run_cut (a := a) (sliceT_of hs) hz hbd
    have ha : (if m = 0 then a else a.map (·.add (0 * s))) = a := by
     split
     ·rfl
     ·cases a with
      | none => rfl
      | some ad => simp [Addr.add]
    have hcut' : (Instr.sliceAt t (.slice a (ρ.lst c).length m) none (some (.int .i64 (k : Nat))) none).run Try.prog w = .ok (.slice a k m) w := by
     rw [hcut]
     show Result.ok (Value.slice (if m = 0 then a else a.map (·.add (0 * s))) (k - 0) (m - 0)) w = _
     rw [ha]; rfl
    have hls : lsIs ρ K d w (.slice a k m) := by
     have hlen : (ρ.lst d).length = k := by
      rw [hdl, List.length_take]
      show min k _ = k
      omega
     refine ⟨a, m, by rw [hlen], by rw [hlen]; omega, fun hne => ?_⟩
     have hne2 : ρ.lst c ≠ [] := fun q => hne (by rw [hdl, q, List.take_nil])
     obtain ⟨b, off, cl, t2, z2, h4, g1, g2, g3⟩ := hrow hne2
     refine ⟨b, off, cl, t2, z2, h4, g1, g2, fun i q hi => g3 i q ?_⟩
     rw [hdl, List.getElem?_take] at hi
     split at hi
     ·exact hi
     ·cases hi
    obtain ⟨hle, v, r', rfl, hv2, hX⟩ := lVal_ok e5 hM hN hls
    exact ⟨hle, v, _, r', rfl, hcut', hv2, by simpa using hX⟩
theorem tlH_ok (hB : AllX ρ B) {t : TypeId} {x b v' b' : Value} {z : Nxt} (e : tlH B t x b h nx = .ok z h' nx' R W) (hv : VR r x v') (hb : VR r b b') (hM : Mod (symSig ρ) r h.get w) (hN : New r nx nx') :
  nx ≤ nx' ∧ ∃ v u r', z = .val v ∧ (Instr.sliceAt t v' (some b') none none).run Try.prog w = .ok u w ∧ VR r' v u ∧ Ext (symSig ρ) r w nx nx' W h'.get r' w := by
 obtain ⟨f, h1, nx1, R1, W1, R2, W2, e1, e2, rfl, rfl⟩ := bind_ok e
 obtain ⟨rfl, rfl, rfl, hf⟩ := fact_ok e1 hv hM
 obtain ⟨p, h3, nx3, R3, W3, R4, W4, e3, e4, rfl, rfl⟩ := bind_ok e2
 obtain ⟨rfl, rfl, rfl, hp⟩ := ixV_ok e3 hb hM
 cases f <;> first | (cases (show (fail : M Sy Nxt) _ _ = _ from e4); done) | skip
 rename_i K c
 simp only at e4
 cases hd : tlB B c with
 | none => rw [hd] at e4; cases (show (fail : M Sy Nxt) _ _ = _ from e4)
 | some d =>
  rw [hd] at e4; simp only at e4
  cases hs : sliceT Try.prog t with
  | none => rw [hs] at e4; cases (show (fail : M Sy Nxt) _ _ = _ from e4)
  | some el =>
   rw [hs] at e4; simp only at e4
   cases hz : sizeT Try.prog el with
   | none => rw [hz] at e4; cases (show (fail : M Sy Nxt) _ _ = _ from e4)
   | some s =>
    rw [hz] at e4
    obtain ⟨hk, e5⟩ := cond_ok (show cond (Nat.beq s (elSz K) && (Nat.beq p.1 0 && eqI p.2 1)) (lVal (.ls K d)) fail _ _ = _ from e4)
    simp only [Bool.and_eq_true] at hk
    have hsz := Nat.eq_of_beq_eq_true hk.1
    have hp1 : atIx ρ p.1 p.2 = ((1 : Nat) : Int) := by
     rw [Nat.eq_of_beq_eq_true hk.2.1, eqI_ok hk.2.2]
     unfold atIx; rw [ρ.nat0]; rfl
    rw [hp1] at hp
    subst hp
    obtain ⟨hne, hdl⟩ := tlB_ok hB hd
    obtain ⟨a, m, rfl, hm, hrow⟩ := (show lsIs ρ K c w v' from hf)
    have hpos : 1 ≤ (ρ.lst c).length := by
     rcases Nat.eq_zero_or_pos (ρ.lst c).length with q | q
     ·exact absurd (List.length_eq_zero_iff.1 q) hne
     ·exact q
    have hbd := run_bounds (P := Try.prog) (len := (ρ.lst c).length) (cap := m) (lo := some 1) (hi := none) (mx := none) (lo' := some (.int .i64 ((1 : Nat) : Int))) (hi' := none) (mx' := none) (.inr ⟨.i64, 1, rfl, rfl⟩) (.inl ⟨rfl, rfl⟩) (.inl ⟨rfl, rfl⟩) (fun _ => rfl) hpos hm (Nat.le_refl _) w
    have hcut := run_cut (a := a) (sliceT_of hs) hz hbd
    have hcut' : (Instr.sliceAt t (.slice a (ρ.lst c).length m) (some (.int .i64 ((1 : Nat) : Int))) none none).run Try.prog w = .ok (.slice (if m = 1 then a else a.map (·.add (1 * s))) ((ρ.lst c).length - 1) (m - 1)) w := hcut
    have hls : lsIs ρ K d w (.slice (if m = 1 then a else a.map (·.add (1 * s))) ((ρ.lst c).length - 1) (m - 1)) := by
     have hlen : (ρ.lst d).length = (ρ.lst c).length - 1 := by rw [hdl, List.length_tail]
     refine ⟨_, m - 1, by rw [hlen], by rw [hlen]; omega, fun hne2 => ?_⟩
     obtain ⟨b, off, cl, t2, z2, rfl, g1, g2, g3⟩ := hrow hne
     have h2 : 2 ≤ (ρ.lst c).length := by
      have : (ρ.lst d).length ≠ 0 := fun q => hne2 (List.length_eq_zero_iff.1 q)
      omega
     rw [if_neg (by omega)]
     refine ⟨b, off + 1 * s, cl, t2, z2, by simp [Addr.add], g1, g2, fun i q hi => ?_⟩
     rw [hdl, List.getElem?_tail] at hi
     have := g3 (i + 1) q hi
     rw [hsz, show off + 1 * elSz K + i * elSz K = off + (i + 1) * elSz K by rw [Nat.add_mul]; omega]
     exact this
    obtain ⟨hle, v, r', rfl, hv2, hX⟩ := lVal_ok e5 hM hN hls
    exact ⟨hle, v, _, r', rfl, hcut', hv2, by simpa using hX⟩
theorem vr_chanV {i : Nat} {v v' : Value} (hc : chanOf v = some i) (hv : VR r v v') : r.val i = some v' := by
 obtain rfl := chanOf_of hc
 cases hv with
 | same p => simp [plain] at p
 | opq p _ => exact p
theorem oSl_ok (hB : AllX ρ B) {kp : Bool} {t : TypeId} {m : Nat} {p : Nat × Int} {v' : Value} {x : Nxt} (e : oSl B kp t m p h nx = .ok x h' nx' R W) (hv : r.val m = some v') (hM : Mod (symSig ρ) r h.get w) (hN : New r nx nx') :
  nx ≤ nx' ∧ ∃ v u r', x = .val v ∧ (Instr.sliceAt t v' none (some (.int .i64 (atIx ρ p.1 p.2))) none).run Try.prog w = .ok u w ∧ VR r' v u ∧ Ext (symSig ρ) r w nx nx' W h'.get r' w := by
 obtain ⟨⟨K, l, z0⟩, h1, nx1, R1, W1, R2, W2, e1, e2, rfl, rfl⟩ := bind_ok e
 obtain ⟨hg, rfl, rfl, rfl⟩ := ownAt_ok e1
 simp only at e2 hg
 cases hs : sliceT Try.prog t with
 | none => rw [hs] at e2; cases (show (fail : M Sy Nxt) _ _ = _ from e2)
 | some el =>
  rw [hs] at e2; simp only at e2
  cases hz : sizeT Try.prog el with
  | none => rw [hz] at e2; cases (show (fail : M Sy Nxt) _ _ = _ from e2)
  | some s =>
   rw [hz] at e2; simp only at e2
   cases hn : leN B l with
   | none => rw [hn] at e2; cases (show (fail : M Sy Nxt) _ _ = _ from e2)
   | some q =>
    rw [hn] at e2; simp only at e2
    obtain ⟨hk, e3⟩ := cond_ok e2
    simp only [Bool.and_eq_true] at hk
    have h0 := geZ_ok hB hk.1
    have hnl : ¬ atIx ρ q.1 q.2 < atIx ρ p.1 p.2 := fun h => by
     have := (ltB_ok hB (notB_ok hk.2)).2 h
     cases this
    have hln := leN_ok hB hn
    obtain ⟨v0, q1, q2, q3, q4⟩ := hM.ow m _ hg
    rw [hv] at q1
    cases q1
    obtain ⟨a0, n, c, rfl, g1, g2, g3, g4, g5⟩ := (show olIs ρ K l z0 w _ from q2)
    obtain ⟨k, hk2⟩ := Int.eq_ofNat_of_zero_le h0
    have hkl : k ≤ (l.ev ρ).length := by omega
    have hcutr : (Instr.sliceAt t (.slice a0 n c) none (some (.int .i64 (atIx ρ p.1 p.2))) none).run Try.prog w = .ok (.slice a0 k c) w := by
     rw [hk2]
     have hbd := run_bounds (P := Try.prog) (len := n) (cap := c) (lo := none) (hi := some k) (mx := none) (lo' := none) (hi' := some (.int .i64 (k : Nat))) (mx' := none) (.inl ⟨rfl, rfl⟩) (.inr ⟨.i64, k, rfl, rfl⟩) (.inl ⟨rfl, rfl⟩) (fun q => by cases q) (Nat.zero_le _) (by show k ≤ c; omega) (Nat.le_refl _) w
     have hcut := run_cut (a := a0) (sliceT_of hs) hz hbd
     have ha : (if c = 0 then a0 else a0.map (·.add (0 * s))) = a0 := by
      split
      ·rfl
      ·cases a0 with
       | none => rfl
       | some ad => simp [Addr.add]
     show (Instr.sliceAt t (.slice a0 n c) none (some (.int .i64 (k : Nat))) none).run Try.prog w = _
     rw [hcut]
     show Result.ok (Value.slice (if c = 0 then a0 else a0.map (·.add (0 * s))) (k - 0) (c - 0)) w = _
     rw [ha]; rfl
    cases kp with
    | true =>
     simp only [cond_true] at e3
     obtain ⟨hle, v, r', rfl, hv2, hX⟩ := lVal_ok (v' := .slice a0 k c) e3 hM hN ⟨a0, k, c, rfl, hk2.symm⟩
     exact ⟨hle, v, _, r', rfl, hcutr, hv2, by simpa using hX⟩
    | false =>
     simp only [cond_false] at e3
     obtain ⟨_, h6, nx6, R7, W7, R8, W8, e9, e10, rfl, rfl⟩ := bind_ok e3
     obtain ⟨rfl, rfl, rfl⟩ := wr_ok e9
     obtain ⟨j, h7, nx7, R9, W9, R10, W10, e11, e12, rfl, rfl⟩ := bind_ok e10
     obtain ⟨rfl, rfl, rfl, rfl⟩ := val_ok e12
     unfold fresh at e11
     cases e11
     have htk : (Le.ev ρ (.take l p.1 p.2)) = (l.ev ρ).take k := by
      show (l.ev ρ).take ((ρ.nat p.1 : Int) + p.2).toNat = _
      have : ((ρ.nat p.1 : Int) + p.2) = (k : Int) := hk2
      rw [this]; rfl
     have htl : ((l.ev ρ).take k).length = k := by rw [List.length_take]; omega
     have hbk : blkV (.slice a0 k c) = blkV (.slice a0 n c) := by cases a0 <;> rfl
     obtain ⟨r', hX, hr⟩ := ext_ownew (S := symSig ρ) (w' := w) (I := [m]) (O := (blkV (.slice a0 n c)).toList) (x := .ol K (.take l p.1 p.2) none) (v := .slice a0 k c) hM hN (fun i hi => ⟨.ol K l z0, by rw [List.mem_singleton.1 hi]; exact hg⟩) (fun b hb => ⟨m, by simp, (q4 b (by simpa using hb)).1⟩) (fun b hb => (q4 b (by simpa using hb)).2) (Frm.refl _ w)
      ⟨⟨a0, k, c, rfl, by omega, by rw [htk, htl]; omega, by rw [htk, htl], g4, fun ad had => by
        obtain ⟨cl, k1, k2, k3, k4, k5⟩ := g5 ad had
        refine ⟨cl, k1, k2, k3, fun i2 qq hi => ?_, fun i2 hi hi2 => ?_⟩
        ·rw [htk, List.getElem?_take] at hi
         split at hi
         ·exact k4 i2 qq hi
         ·cases hi
        ·rw [htk, htl] at hi; omega⟩, rfl, fun b hb => (q4 b (hbk ▸ hb)).2⟩ (fun b hb => .inl (by rw [hbk] at hb; simpa using hb))
     refine ⟨Nat.le_succ _, _, .slice a0 k c, r', rfl, hcutr, .opq hr rfl, ?_⟩
     have hX2 := hX.congr (g' := ((h1.set m .opq).set _ (.ow (.ol K (.take l p.1 p.2) none))).get) fun n => .inr (opq_set (g := h1.get) h1 n)
     simpa using hX2
theorem oIxA_ok (hB : AllX ρ B) {t : TypeId} {p : Nat × Int} {m : Nat} {v' : Value} {x : Nxt} (e : oIxA B t p m h nx = .ok x h' nx' R W) (hv : r.val m = some v') (hM : Mod (symSig ρ) r h.get w) (hN : New r nx nx') :
  nx ≤ nx' ∧ ∃ v u r', x = .val v ∧ (Instr.indexAt t v' (.int .i64 (atIx ρ p.1 p.2))).run Try.prog w = .ok u w ∧ VR r' v u ∧ Ext (symSig ρ) r w nx nx' W h'.get r' w := by
 obtain ⟨y, h1, nx1, R1, W1, R2, W2, e1, e2, rfl, rfl⟩ := bind_ok e
 obtain ⟨hg, rfl, rfl, rfl⟩ := rdb_ok e1
 cases y <;> first | (cases (show (fail : M Sy Nxt) _ _ = _ from e2); done) | skip
 ·rename_i f
  obtain ⟨v0, q1, q2, _⟩ := hM.fact m f hg
  rw [hv] at q1
  cases q1
  simpa using lIx_ok hB e2 q2 hM hN
 ·simpa using oIx_ok hB e2 hv hM hN
theorem cvH_ok {s t : TypeId} {v v' : Value} {x : Nxt} (e : cvH s t v h nx = .ok x h' nx' R W) (hv : VR r v v') (hM : Mod (symSig ρ) r h.get w) (hN : New r nx nx') :
  nx ≤ nx' ∧ ∃ v u r', x = .val v ∧ (convert s t v').run Try.prog w = .ok u w ∧ VR r' v u ∧ Ext (symSig ρ) r w nx nx' W h'.get r' w := by
 obtain ⟨f, h1, nx1, R1, W1, R2, W2, e1, e2, rfl, rfl⟩ := bind_ok e
 obtain ⟨rfl, rfl, rfl, hf⟩ := fact_ok e1 hv hM
 cases f <;> first | (cases (show (fail : M Sy Nxt) _ _ = _ from e2); done) | skip
 rename_i k q
 obtain ⟨hk, e3⟩ := cond_ok e2
 simp only [Bool.and_eq_true] at hk
 obtain ⟨hf1, hf2, hf3, hf4⟩ := (show izIs k (q.ev ρ.q) v' from hf)
 obtain ⟨hle, v1, r', rfl, hv2, hX⟩ := lVal_ok (v' := .int .i64 (q.ev ρ.q).num) e3 hM hN ⟨rfl, hf2, hf3, hf4⟩
 refine ⟨hle, v1, _, r', rfl, ?_, hv2, by simpa using hX⟩
 have hs : ∃ d, (Try.prog).underlying s = some d := by
  have := hk.1
  unfold hasT at this
  split at this
  ·exact ⟨_, by assumption⟩
  ·cases this
 have ht : (Try.prog).underlying t = some (.int .i64) := by
  have := hk.2
  unfold intK at this
  cases hu : (Try.prog).underlying t with
  | none => rw [hu] at this; cases this
  | some d =>
   rw [hu] at this
   cases d <;> first | (cases this; done) | skip
   rename_i k2
   cases k2 <;> first | rfl | (cases this; done)
 obtain ⟨d, hs⟩ := hs
 rw [hf1]
 have hw : IntKind.i64.wrap (q.ev ρ.q).num = (q.ev ρ.q).num := by rw [IntKind.wrap_i64]; omega
 simp [convert, run_underlying hs, run_underlying ht, Conv.intToInt, hw]
theorem num_zero {q : Rat} : q.num = 0 ↔ q = 0 := Rat.num_eq_zero
theorem zH_ok (hA : AllH ρ A) {op : BinOp} {k : Nat} {q : Qe} {v u' v' : Value} {x : Nxt} (e : zH A op k q v h nx = .ok x h' nx' R W) (hu : izIs k (q.ev ρ.q) u') (hv : VR r v v') (ty : TypeId) (p1 p2 : Operand) :
  h' = h ∧ nx' = nx ∧ W = [] ∧ ∃ b, x = .val (.bool b) ∧ (do eqGuard op ty p1 p2 u' v'; binOp op ty u' v' : Sem Value).run Try.prog w = .ok (.bool b) w := by
 obtain ⟨hk, e2⟩ := cond_ok (show cond (isZ k v) _ fail h nx = _ from e)
 have hz := isZ_ok hk
 subst hz
 have hv' := hv.int
 subst hv'
 cases ha : ask A 1 q z0 with
 | none => rw [ha] at e2; cases (show (fail : M Sy Nxt) _ _ = _ from e2)
 | some t =>
  rw [ha] at e2; simp only at e2
  have ht := ask_nought hA ha
  have hb : ((q.ev ρ.q).num == 0) = t := by
   rw [Bool.eq_iff_iff, beq_iff_eq, num_zero]
   exact ht.symm
  have hb2 : ((q.ev ρ.q).num != 0) = !t := by rw [bne, hb]
  have hu1 := hu.1
  clear hu
  generalize (q.ev ρ.q).num = N at *
  rw [hu1]
  cases op <;> first | (cases (show (fail : M Sy Nxt) _ _ = _ from e2); done) | skip
  ·obtain ⟨rfl, rfl, rfl, rfl⟩ := val_ok e2
   refine ⟨rfl, rfl, rfl, t, rfl, ?_⟩
   rcases k with _ | k <;> simp [eqGuard, binOp, Op.intCmp, ikOf, hb]
  ·obtain ⟨rfl, rfl, rfl, rfl⟩ := val_ok e2
   refine ⟨rfl, rfl, rfl, !t, rfl, ?_⟩
   rcases k with _ | k <;> simp [eqGuard, binOp, Op.intCmp, ikOf, hb2]
theorem izH_ok (hA : AllH ρ A) (hB : AllX ρ B) {op : BinOp} {k : Nat} {q : Qe} {v u' v' : Value} {x : Nxt} (e : izH A B op k q v h nx = .ok x h' nx' R W) (hu : izIs k (q.ev ρ.q) u') (hv : VR r v v') (ty : TypeId) (p1 p2 : Operand) :
  h' = h ∧ nx' = nx ∧ W = [] ∧ ∃ u, x = .val u ∧ plain u = true ∧ (do eqGuard op ty p1 p2 u' v'; binOp op ty u' v' : Sem Value).run Try.prog w = .ok u w := by
 have back : zH A op k q v h nx = .ok x h' nx' R W → h' = h ∧ nx' = nx ∧ W = [] ∧ ∃ u, x = .val u ∧ plain u = true ∧ (do eqGuard op ty p1 p2 u' v'; binOp op ty u' v' : Sem Value).run Try.prog w = .ok u w := fun e => by
  obtain ⟨h1, h2, h3, b, h4, h5⟩ := zH_ok (w := w) hA e hu hv ty p1 p2
  exact ⟨h1, h2, h3, .bool b, h4, rfl, h5⟩
 cases op <;> first | exact back e | skip
 obtain ⟨hk, e2⟩ := cond_ok (show rmH B k q v h nx = _ from e)
 simp only [Bool.and_eq_true] at hk
 obtain rfl := Nat.eq_of_beq_eq_true hk.1
 obtain rfl := is20_ok hk.2
 have hv' := hv.int
 subst hv'
 cases hr : rmB B q with
 | none => rw [hr] at e2; cases (show (fail : M Sy Nxt) _ _ = _ from e2)
 | some z =>
  rw [hr] at e2
  obtain ⟨rfl, rfl, rfl, rfl⟩ := val_ok e2
  have hz := rmB_ok hB hr
  refine ⟨rfl, rfl, rfl, .int .i64 z, rfl, rfl, ?_⟩
  rw [hu.1, ← hz]
  simp [eqGuard, binOp, Op.intDiv, ikOf]
end
end Ev
end Go.Proofs.Ytnlhjcfpfapafaa
