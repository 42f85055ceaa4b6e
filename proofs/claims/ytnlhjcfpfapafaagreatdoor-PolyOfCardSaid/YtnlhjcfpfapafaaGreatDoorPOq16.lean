/- Contracts. -/
import Derived.Test.YtnlhjcfpfapafaaGreatDoorPOq08
import Derived.Test.YtnlhjcfpfapafaaGreatDoorProg
import Derived.Test.YtnlhjcfpfapafaaGreatDoorLwS
import Derived.IntWalk
import Derived.Outline
import Derived.Test.YtnlhjcfpfapafaaGreatDoorPOq07
import Derived.Deep.RegionHeld3
namespace Go.Proofs.YtnlhjcfpfapafaaGreatDoor
namespace R
open Go.RowKit
def M32 : Nat := 4294967296
theorem Zk : M32 = 4294967296 := rfl
theorem M32_pos : 0 < M32 := by unfold M32; omega
def Ty (w : World) (b : Nat) : Prop := ∃ cs, w.heap[b]? = some (.cells cs 148 (0, 0))
theorem Ty.same {w w' : World} {b : Nat} (h : Ty w b) (e : w'.heap[b]? = w.heap[b]?) : Ty w' b := by
 obtain ⟨cs, hc⟩ := h; exact ⟨cs, e.trans hc⟩
def Wd (w : World) (k : IntKind) (v : Value) (l : List Nat) : Prop :=
 ∃ A c, v = .slice A l.length c ∧ l.length ≤ c ∧ c ≤ 1152921504606846976 ∧
  (0 < l.length → ∃ b o, A = some ⟨b, o, none⟩ ∧ b < w.heap.size ∧ (∀ i, i < l.length → w.cell? ⟨b, o + i, none⟩ = some (.int k ((Big.nth l i : Nat) : Int))) ∧ Ty w b)
theorem Wd.keep {w w' : World} {k : IntKind} {v : Value} {l : List Nat} (h : Wd w k v l) (hb : Below w.heap.size w w') : Wd w' k v l := by
 obtain ⟨A, c, rfl, h1, h2, h3⟩ := h
 refine ⟨A, c, rfl, h1, h2, fun hl => ?_⟩
 obtain ⟨b, o, rfl, hlt, hc, hty⟩ := h3 hl
 exact ⟨b, o, rfl, Nat.lt_of_lt_of_le hlt hb.size, fun i hi => (hb.cell (p := ⟨b, o + i, none⟩) hlt).trans (hc i hi), hty.same (hb.block b hlt)⟩
theorem Wd.nil_ (w : World) (k : IntKind) : Wd w k (.slice none 0 0) [] := ⟨none, 0, rfl, Nat.le_refl _, by omega, fun h => absurd h (by simp)⟩
theorem Wd.drew {w w' : World} {k : IntKind} {v : Value} {l : List Nat} (h : Wd w k v l) (hb : Zv w w') : Wd w' k v l := h.keep (hb.below _)
def WdB (B : Nat) (w : World) (k : IntKind) (v : Value) (l : List Nat) : Prop :=
 ∃ A c, v = .slice A l.length c ∧ l.length ≤ c ∧ c ≤ 1152921504606846976 ∧
  (0 < l.length → ∃ b o, A = some ⟨b, o, none⟩ ∧ b < B ∧ (∀ i, i < l.length → w.cell? ⟨b, o + i, none⟩ = some (.int k ((Big.nth l i : Nat) : Int))) ∧ Ty w b)
theorem WdB.wd {B : Nat} {w : World} {k : IntKind} {v : Value} {l : List Nat} (h : WdB B w k v l) (hB : B ≤ w.heap.size) : Wd w k v l := by
 obtain ⟨A, c, rfl, h1, h2, h3⟩ := h
 refine ⟨A, c, rfl, h1, h2, fun hp => ?_⟩
 obtain ⟨b, o, e, hb, hc, hty⟩ := h3 hp
 exact ⟨b, o, e, Nat.lt_of_lt_of_le hb hB, hc, hty⟩
theorem Wd.wdB {w : World} {k : IntKind} {v : Value} {l : List Nat} (h : Wd w k v l) : WdB w.heap.size w k v l := h
theorem WdB.more {B B' : Nat} {w : World} {k : IntKind} {v : Value} {l : List Nat} (h : WdB B w k v l) (hB : B ≤ B') : WdB B' w k v l := by
 obtain ⟨A, c, rfl, h1, h2, h3⟩ := h
 refine ⟨A, c, rfl, h1, h2, fun hp => ?_⟩
 obtain ⟨b, o, e, hb, hc, hty⟩ := h3 hp
 exact ⟨b, o, e, Nat.lt_of_lt_of_le hb hB, hc, hty⟩
theorem WdB.keep {B : Nat} {w w' : World} {k : IntKind} {v : Value} {l : List Nat} (h : WdB B w k v l) (hk : ∀ b, b < B → w'.heap[b]? = w.heap[b]?) : WdB B w' k v l := by
 obtain ⟨A, c, rfl, h1, h2, h3⟩ := h
 refine ⟨A, c, rfl, h1, h2, fun hp => ?_⟩
 obtain ⟨b, o, e, hb, hc, hty⟩ := h3 hp
 exact ⟨b, o, e, hb, fun i hi => (World.cell?_of_block (hk b hb)).trans (hc i hi), hty.same (hk b hb)⟩
theorem WdB.below {B : Nat} {w w' : World} {k : IntKind} {v : Value} {l : List Nat} (h : WdB B w k v l) (hb : Below B w w') : WdB B w' k v l :=
 h.keep fun b hlt => hb.block b hlt
theorem JE {g B : Nat} {w w' : World} (h : ZP g w w') (hBg : B ≤ g) (hB : B ≤ w.heap.size) {k : IntKind} {v : Value} {l : List Nat} (hw : WdB B w k v l) : WdB B w' k v l :=
 hw.keep fun b hb => h.block b (Nat.lt_of_lt_of_le hb hB) (by intro e; injection e with e; omega)
theorem Wd.new {w : World} {k : IntKind} {g : Nat} {l : List Nat} {cs : Array Value} (n c : Nat) (hn : n = l.length) (hc : l.length ≤ c) (hc2 : c ≤ 1152921504606846976)
  (hb : w.heap[g]? = some (.cells cs 148 (0, 0))) (h : ∀ i, i < l.length → cs[i]? = some (.int k ((Big.nth l i : Nat) : Int))) : Wd w k (.slice (some ⟨g, 0, none⟩) n c) l := by
 subst hn
 refine ⟨_, c, rfl, hc, hc2, fun _ => ⟨g, 0, rfl, ?_, fun i hi => ?_, cs, hb⟩⟩
 ·rcases Nat.lt_or_ge g w.heap.size with h1 | h1
  ·exact h1
  ·rw [Array.getElem?_eq_none h1] at hb; cases hb
 ·rw [Nat.zero_add, cell_of_row w g i cs 148 (0, 0) hb]; exact h i hi
theorem Wd.cut {w : World} {k : IntKind} {A : Option Addr} {l : List Nat} {c n : Nat} (h : Wd w k (.slice A l.length c) l) (hn : n ≤ l.length) : Wd w k (.slice A n c) (l.take n) := by
 obtain ⟨A', c', e, h1, h2, h3⟩ := h
 cases e
 have hl : (l.take n).length = n := by rw [List.length_take, Nat.min_eq_left hn]
 refine ⟨A, c, by rw [hl], by omega, h2, fun hp => ?_⟩
 obtain ⟨b, o, rfl, hlt, hc, hty⟩ := h3 (by omega)
 refine ⟨b, o, rfl, hlt, fun i hi => ?_, hty⟩
 rw [hc i (by omega)]
 unfold Big.nth
 rw [List.getD_eq_getElem?_getD, List.getD_eq_getElem?_getD, List.getElem?_take_of_lt (by omega)]
theorem Zmy {w : World} {g : Nat} {k : IntKind} {l : List Nat} (h : Blk w g 148 k l) (o n c : Nat) (hn : o + n ≤ l.length) (hc : n ≤ c) (hc2 : c ≤ 1152921504606846976) : Wd w k (.slice (some ⟨g, o, none⟩) n c) ((l.drop o).take n) := by
 have hl : ((l.drop o).take n).length = n := by rw [List.length_take, List.length_drop]; omega
 refine ⟨_, c, by rw [hl], by omega, hc2, fun _ => ⟨g, o, rfl, h.lt, fun i hi => ?_, _, h⟩⟩
 rw [h.cell (o + i) (by omega)]
 unfold Big.nth
 rw [List.getD_eq_getElem?_getD, List.getD_eq_getElem?_getD, List.getElem?_take_of_lt (by omega), List.getElem?_drop]
theorem Ym {w : World} {g : Nat} {k : IntKind} {l : List Nat} (h : Blk w g 148 k l) (c : Nat) (hc : l.length ≤ c) (hc2 : c ≤ 1152921504606846976) : Wd w k (.slice (some ⟨g, 0, none⟩) l.length c) l := by
 have := Zmy h 0 l.length c (by omega) hc hc2
 simpa using this
theorem wpList_copy_words {P : Program} {w : World} {ops : Array Oper} {rest : List Oper} {o : Oper} {a : Act} {Q : Exit → Act → World → Prop} (hgd : o.guard = none) (d s : Operand) (dT sT : TypeId)
  (ho : o.op = .call { callee := .builtin .copy, args := #[d, s], argTypes := #[dT, sT] }) (elem : TypeId) (hu : P.underlying dT = some (.slice elem)) (hsz : (P.info? elem).map (·.size) = some 1)
  (g t : Nat) (k : IntKind) (cur xs : List Nat) (dLen dCap : Nat) (A : Option Addr) (c : Nat) (hd : a.eval d = .slice (some ⟨g, 0, none⟩) dLen dCap) (hs : a.eval s = .slice A xs.length c)
  (hr : Wd w k (.slice A xs.length c) xs) (hb : Blk w g t k cur) (hn : xs.length ≤ dLen) (hfit : dLen ≤ cur.length) (B : Nat) (w0 : World) (hB : Below B w0 w) (hBg : B ≤ g)
  (h : ∀ w', Blk w' g t k (xs ++ cur.drop xs.length) → Below B w0 w' → wpList P ops Q rest (a.put o.dst (goInt xs.length)) w') :
  wpList P ops Q (o :: rest) a w := by
 have hlen : (xs.map fun d => Value.int k ((d : Nat) : Int)).length = xs.length := by simp
 refine wpList_copy_splice hgd d s dT sT ho elem hu hsz _ _ dLen dCap xs.length c hd hs g 0 (cellsOf k cur).toList t (by rw [Array.toArray_toList]; exact hb) (xs.map fun d => Value.int k ((d : Nat) : Int))
  (by rw [hlen]; exact (Nat.min_eq_left hn).symm) (fun hp => ⟨rfl, ?_⟩) (by rw [hlen, Z8]; simp; omega) (by intro v hv; simp at hv; obtain ⟨_, _, rfl⟩ := hv; rfl) B w0 hB hBg ?_
 ·obtain ⟨A', c', e, h1, h2, h3⟩ := hr
  cases e
  obtain ⟨b, o', rfl, hlt, hc, -⟩ := h3 (by simpa using hp)
  refine ⟨_, rfl, fun j v hv => ?_⟩
  have hj : j < xs.length := by
   rcases Nat.lt_or_ge j xs.length with h | h
   ·exact h
   ·rw [List.getElem?_eq_none (by simpa using h)] at hv; cases hv
  rw [List.getElem?_map, List.getElem?_eq_getElem hj] at hv
  have := hc j hj
  unfold Big.nth at this
  rw [List.getD_eq_getElem?_getD, List.getElem?_eq_getElem hj] at this
  simp at hv
  rw [← hv]
  unfold Addr.add
  split
  ·rename_i h0; subst h0; simpa using this
  ·simpa using this
 ·intro w' hh hbel
  have hh' := hh.out
  rw [Ub] at hh'
  rw [hlen]
  exact h w' (by unfold Blk; rw [Array.toArray_toList] at hh'; exact hh') hbel
def Nin (w : World) (v : Value) (n : Nat) : Prop := ∃ l, Wd w .u32 v l ∧ Big.Ok M32 l ∧ Big.Norm l ∧ Big.val M32 l = n
theorem Nin.keep {w w' : World} {v : Value} {n : Nat} (h : Nin w v n) (hb : Below w.heap.size w w') : Nin w' v n := by
 obtain ⟨l, h1, h2⟩ := h; exact ⟨l, h1.keep hb, h2⟩
theorem Nin.drew {w w' : World} {v : Value} {n : Nat} (h : Nin w v n) (hb : Zv w w') : Nin w' v n := h.keep (hb.below _)
theorem Nin.nil_ (w : World) : Nin w (.slice none 0 0) 0 := ⟨[], Wd.nil_ _ _, Big.Ok.nil, Big.norm_nil, rfl⟩
theorem Nin.strip {w : World} {v : Value} {l : List Nat} (h : Wd w .u32 v (Big.strip l)) (ol : Big.Ok M32 l) : Nin w v (Big.val M32 l) :=
 ⟨_, h, Big.strip_ok ol, Big.strip_norm _, Big.strip_val _⟩
def ZJ (n : Nat) : Nat := n % 4294967296
def Yg (n : Nat) : Nat := n / 4294967296
theorem Vm (n : Nat) : ZJ n < 4294967296 := by unfold ZJ; omega
theorem lo_hi (n : Nat) : n = ZJ n + 4294967296 * Yg n := by unfold ZJ Yg; omega
end R
end Go.Proofs.YtnlhjcfpfapafaaGreatDoor
namespace Go.Proofs.YtnlhjcfpfapafaaGreatDoor
namespace R
open Go.RowKit
set_option maxRecDepth 100000
theorem trim_slice (w : World) (A : Option Addr) (c : Nat) (l : List Nat) (h : Wd w .u32 (.slice A l.length c) l) :
  Calls Tryz.prog 136 #[.slice A l.length c] w fun e w' => e = .returned (.slice A (Big.strip l).length c) ∧ w = w' := by
 obtain ⟨A', c', e, h1, h2, h3⟩ := h
 cases e
 go_enter Tryz.func136, Tryz.ntmps136
 go_wp2
 go_loop [3] (fun n => ∃ k : Nat, k ≤ l.length ∧ n = .int .i64 k ∧ Hid (Big.strip (l.take k) = Big.strip l)) (fun n => (intOf n).toNat)
 case atStart => exact ⟨l.length, Nat.le_refl _, rfl, Lib.hid (by rw [List.take_length])⟩
 case round =>
  obtain ⟨k, hk, rfl, HS⟩ := hrel
  by_cases hk0 : k = 0
  ·subst hk0
   have HN := Lib.hid (show (Big.strip l).length = 0 by rw [← HS.out, List.take_zero]; rfl)
   go_wp2
   go_ret
   exact ⟨by rw [HN.out]; rfl, rfl⟩
  ·obtain ⟨b, o, rfl, hlt, hc, -⟩ := h3 (by omega)
   have hcell := hc (k - 1) (by omega)
   clear hc h3
   go_wp2
   ·have hz : ((Big.nth l (k - 1) : Nat) == (0 : Int)) = true := by assumption
    refine ⟨⟨k - 1, by omega, ?_, Lib.hid ?_⟩, by simp [intOf]; omega⟩
    ·congr 1; omega
    ·rw [← HS.out]
     have := Big.strip_take l (k - 1) (by omega) (by simpa using hz)
     rw [show k - 1 + 1 = k by omega] at this
     exact this.symm
   ·have hz : ((Big.nth l (k - 1) : Nat) == (0 : Int)) = false := by assumption
    have h2 := Big.strip_take_ne l (k - 1) (by omega) (by simpa using hz)
    rw [show k - 1 + 1 = k by omega, HS.out] at h2
    have HN := Lib.hid (show (Big.strip l).length = k by rw [h2, List.length_take]; omega)
    clear h2
    go_ret
    exact ⟨by rw [HN.out]; rfl, rfl⟩
theorem trim_any (w : World) (v : Value) (l : List Nat) (h : Wd w .u32 v l) :
  Calls Tryz.prog 136 #[v] w fun e w' => ∃ v', e = .returned v' ∧ Wd w .u32 v' (Big.strip l) ∧ w = w' := by
 obtain ⟨A, c, rfl, h1, h2, h3⟩ := h
 refine (trim_slice w A c l ⟨A, c, rfl, h1, h2, h3⟩).mono fun e w' ⟨he, hw⟩ => ⟨_, he, ?_, hw⟩
 have := Wd.cut (w := w) (k := .u32) (A := A) (l := l) (c := c) (n := (Big.strip l).length) ⟨A, c, rfl, h1, h2, h3⟩ (Big.strip_len l)
 rwa [← Big.strip_take_self] at this
theorem cmp_any (w : World) (v u : Value) (l m : List Nat) (h : Wd w .u32 v l) (k : Wd w .u32 u m) (ol : Big.Ok M32 l) (om : Big.Ok M32 m) (nl : Big.Norm l) (nm : Big.Norm m) :
  Calls Tryz.prog 111 #[v, u] w fun e w' => e = .returned (.int .i64 (Big.cmpI (Big.val M32 l) (Big.val M32 m))) ∧ Zv w w' := by
 obtain ⟨A, c, rfl, h1, h2, h3⟩ := h
 obtain ⟨A2, c2, rfl, k1, k2, k3⟩ := k
 rcases Nat.lt_trichotomy l.length m.length with hlt | heq | hgt
 ·have H := Lib.hid (Big.cmpI_lt (Big.lt_of_length M32_pos ol nm hlt))
  have hne : ((l.length : Int) != m.length) = true := by rw [bne_iff_ne]; omega
  have hl : ((l.length : Int) < m.length) := by omega
  clear h3 k3
  go_enter Tryz.func111, Tryz.ntmps111
  go_wp2
  go_ret
  exact ⟨by rw [H.out]; simp, Zv.refl _⟩
 ·obtain ⟨N, hN⟩ : ∃ N, l.length = N := ⟨_, rfl⟩
  rw [hN] at h3 h1 heq
  rw [← heq] at k3 k1
  have HN := Lib.hid hN; have HM := Lib.hid heq.symm
  rw [hN, ← heq]
  have hne : ((N : Int) != N) = false := by simp
  clear hN heq
  go_enter Tryz.func111, Tryz.ntmps111
  go_wp2_with fail
  go_loopw [5] (fun i wr => ∃ k : Nat, k ≤ N ∧ i = .int .i64 ((k : Int) - 1) ∧ Zv w wr ∧ Hid (l.drop k = m.drop k)) (fun i _ => (intOf i + 1).toNat)
  case atStart => exact ⟨N, Nat.le_refl _, rfl, Zv.refl _, Lib.hid (by rw [List.drop_eq_nil_of_le (by have := HN.out; omega), List.drop_eq_nil_of_le (by have := HM.out; omega)])⟩
  case round =>
   obtain ⟨k, hk, rfl, hd, HS⟩ := hrel
   rcases Nat.eq_zero_or_pos k with rfl | hp
   ·go_wp2
    go_ret
    have e : l = m := by simpa using HS.out
    exact ⟨by rw [e, Big.cmpI_eq]; simp, hd⟩
   ·obtain ⟨j, rfl⟩ : ∃ j, k = j + 1 := ⟨k - 1, by omega⟩
    rw [show (((j + 1 : Nat) : Int) - 1) = (j : Int) by omega]
    obtain ⟨b, o, rfl, hlt, hc, -⟩ := h3 (by omega)
    obtain ⟨b2, o2, rfl, hlt2, hc2, -⟩ := k3 (by omega)
    have hcell := (hd.cell _).trans (hc j (by omega))
    have hcell2 := (hd.cell _).trans (hc2 j (by omega))
    have HD := Lib.hid hd
    have hl := HN.out; have hm := HM.out
    rcases Nat.lt_trichotomy (Big.nth l j) (Big.nth m j) with hj | hj | hj
    ·have H := Lib.hid (Big.cmpI_lt (Big.lt_at (k := j) (by omega) (by omega) ol HS.out hj))
     have t1 : (((Big.nth l j : Nat) : Int) < ((Big.nth m j : Nat) : Int)) := by omega
     clear hc hc2 h3 k3 hd hl hm
     go_wp2_with fail
     go_quiet (fail)
     go_wp2
     go_ret
     exact ⟨by rw [H.out]; simp, (HD.out.drewN _)⟩
    ·have HS' := Lib.hid (show l.drop j = m.drop j by rw [Big.drop_cons l j (by omega), Big.drop_cons m j (by omega), HS.out, hj])
     have t1 : ¬ (((Big.nth l j : Nat) : Int) < ((Big.nth m j : Nat) : Int)) := by omega
     have t2 : ¬ (((Big.nth m j : Nat) : Int) < ((Big.nth l j : Nat) : Int)) := by omega
     clear hc hc2 h3 k3 hd hl hm hj
     go_wp2_with fail
     go_quiet (fail)
     go_wp2_with fail
     have g1 : (wr.drewN nq).cell? ⟨b, o + j, none⟩ = some (.int .u32 ((Big.nth l j : Nat) : Int)) := hcell
     have g2 : (wr.drewN nq).cell? ⟨b2, o2 + j, none⟩ = some (.int .u32 ((Big.nth m j : Nat) : Int)) := hcell2
     have HE := Lib.hid (HD.out.drewN nq)
     clear HD hcell hcell2
     generalize wr.drewN nq = w1 at g1 g2 HE ⊢
     go_quiet (fail)
     go_wp2_with fail
     go_roundw
     case rel => exact ⟨j, by omega, rfl, HE.out.drewN _, HS'⟩
     case measure => simp [intOf]
    ·have H := Lib.hid (Big.cmpI_gt (Big.lt_at (k := j) (by omega) (by omega) om HS.out.symm hj))
     have t1 : ¬ (((Big.nth l j : Nat) : Int) < ((Big.nth m j : Nat) : Int)) := by omega
     have t2 : (((Big.nth m j : Nat) : Int) < ((Big.nth l j : Nat) : Int)) := by omega
     clear hc hc2 h3 k3 hd hl hm
     go_wp2_with fail
     go_quiet (fail)
     go_wp2_with fail
     have g1 : (wr.drewN nq).cell? ⟨b, o + j, none⟩ = some (.int .u32 ((Big.nth l j : Nat) : Int)) := hcell
     have g2 : (wr.drewN nq).cell? ⟨b2, o2 + j, none⟩ = some (.int .u32 ((Big.nth m j : Nat) : Int)) := hcell2
     have HE := Lib.hid (HD.out.drewN nq)
     clear HD hcell hcell2
     generalize wr.drewN nq = w1 at g1 g2 HE ⊢
     go_quiet (fail)
     go_wp2
     go_ret
     exact ⟨by rw [H.out]; simp, (HE.out.drewN _)⟩
 ·have H := Lib.hid (Big.cmpI_gt (Big.lt_of_length M32_pos om nl hgt))
  have hne : ((l.length : Int) != m.length) = true := by rw [bne_iff_ne]; omega
  have hl : ¬ ((l.length : Int) < m.length) := by omega
  clear h3 k3
  go_enter Tryz.func111, Tryz.ntmps111
  go_wp2
  go_ret
  exact ⟨by rw [H.out]; simp, Zv.refl _⟩
end R
end Go.Proofs.YtnlhjcfpfapafaaGreatDoor
namespace Go.Proofs.YtnlhjcfpfapafaaGreatDoor
namespace R
open Go.RowKit
theorem ZeC : (Tryz.prog.info? 148).map (fun i => (i.zero, i.size, i.bytes)) = some (some (.int .u32 0), 1, 4) := by kernel_rfl
theorem ZI {l : List Nat} (ol : Big.Ok M32 l) (k : Nat) : Big.nth l k < 4294967296 := by rw [← Zk]; exact ol.nth M32_pos k
theorem XD (n : Nat) (hn : n ≤ 1000000000000) (W : World) : (Instr.makeSlice 90 (.int .i64 ((n : Nat) : Int)) (.int .i64 ((n : Nat) : Int))).run Tryz.prog W =
  .ok (.slice (some ⟨W.heap.size, 0, none⟩) n n) (W.alloc (.cells (cellsOf .u32 (List.replicate n 0)) 148)) := by
 obtain ⟨i0, hi, hz0, hz1, hz2⟩ := info_parts ZeC
 exact ZZ (P := Tryz.prog) Tryz.underlying90 hi hz0 hz1 (by rw [hz2]; omega) .i64 .i64 n n (Nat.le_refl _) (by omega) W
theorem add_round {l m zs : List Nat} {k n : Nat} (ol : Big.Ok M32 l) (om : Big.Ok M32 m) (hn : n ≤ 1)
  (h : zs.length = k ∧ Big.Ok M32 zs ∧ Big.val M32 zs + M32 ^ k * n = Big.val M32 (l.take k) + Big.val M32 (m.take k)) :
  Yg (n + Big.nth l k + Big.nth m k) ≤ 1 ∧ (zs ++ [ZJ (n + Big.nth l k + Big.nth m k)]).length = k + 1 ∧ Big.Ok M32 (zs ++ [ZJ (n + Big.nth l k + Big.nth m k)]) ∧
   Big.val M32 (zs ++ [ZJ (n + Big.nth l k + Big.nth m k)]) + M32 ^ (k + 1) * Yg (n + Big.nth l k + Big.nth m k) = Big.val M32 (l.take (k + 1)) + Big.val M32 (m.take (k + 1)) := by
 obtain ⟨h1, h2, h3⟩ := h
 have a := ZI ol k
 have b := ZI om k
 refine ⟨by unfold Yg; omega, by simp [h1], h2.append (Big.Ok.cons (by rw [Zk]; exact Vm _) Big.Ok.nil), ?_⟩
 rw [Big.val_take_succ', Big.val_take_succ']
 exact Big.add_step h1 h3 (by have := lo_hi (n + Big.nth l k + Big.nth m k); rw [Zk]; omega)
theorem w32 (n : Nat) : IntKind.u32.wrap ((n : Nat) : Int) = ((ZJ n : Nat) : Int) := by rw [IntKind.wrap_u32]; unfold ZJ; omega
theorem w64 (n : Nat) (h : n < 18446744073709551616) : IntKind.u64.wrap ((n : Nat) : Int) = ((n : Nat) : Int) := by rw [IntKind.wrap_u64]; omega
theorem Zdu (n : Nat) : ((n : Nat) : Int) / 4294967296 = ((Yg n : Nat) : Int) := by unfold Yg; omega
set_option maxRecDepth 100000 in
set_option maxHeartbeats 1000000 in
theorem ZbZ (w : World) (v u : Value) (l m : List Nat) (h : Wd w .u32 v l) (k : Wd w .u32 u m) (ol : Big.Ok M32 l) (om : Big.Ok M32 m)
  (hl : l.length ≤ 100000000000) (hlm : m.length ≤ l.length) :
  Calls Tryz.prog 126 #[v, u] w fun e w' => ∃ v', e = .returned v' ∧ Nin w' v' (Big.val M32 l + Big.val M32 m) ∧ Below w.heap.size w w' := by
 obtain ⟨A, c, rfl, h1, h2, h3⟩ := h
 obtain ⟨A2, c2, rfl, k1, k2, k3⟩ := k
 have OL := Lib.hid ol; have OM := Lib.hid om
 clear ol om
 have hmk := fun W => XD (l.length + 1) (by omega) W
 rw [show ((l.length + 1 : Nat) : Int) = (l.length : Int) + 1 by omega] at hmk
 have hnlt : ¬ ((l.length : Int) < m.length) := by omega
 have HB0 := Lib.hid (Blk.new w 148 .u32 (List.replicate (l.length + 1) 0))
 have HBel0 := Lib.hid ((Below.refl w.heap.size w).alloc (Nat.le_refl _) (.cells (cellsOf .u32 (List.replicate (l.length + 1) 0)) 148))
 have HW1 := Lib.hid (show Wd w .u32 (.slice A l.length c) l from ⟨A, c, rfl, h1, h2, h3⟩)
 have HW2 := Lib.hid (show Wd w .u32 (.slice A2 m.length c2) m from ⟨A2, c2, rfl, k1, k2, k3⟩)
 clear h3 k3
 go_enter Tryz.func126, Tryz.ntmps126
 go_wp2_with fail
 go_loopw [6, 7] (fun o i wr => ∃ (k n : Nat) (zs : List Nat), k ≤ l.length ∧ i = .int .i64 k ∧ o = .int .u64 n ∧ n ≤ 1 ∧
   Hid (zs.length = k ∧ Big.Ok M32 zs ∧ Big.val M32 zs + M32 ^ k * n = Big.val M32 (l.take k) + Big.val M32 (m.take k)) ∧
   Hid (Blk wr w.heap.size 148 .u32 (zs ++ (List.replicate (l.length + 1) 0).drop k)) ∧ Hid (Below w.heap.size w wr))
  (fun _ i _ => l.length - (intOf i).toNat)
 case atStart => exact ⟨0, 0, [], by omega, rfl, rfl, by omega, Lib.hid ⟨rfl, Big.Ok.nil, by simp [Big.val]⟩, Lib.hid (by simpa using HB0.out), HBel0⟩
 case round =>
  obtain ⟨k, n, zs, hk, rfl, rfl, hn1, HZ, HB, HBel⟩ := hrel
  by_cases hlt : k < l.length
  ·obtain ⟨A', c', e, x1, x2, x3⟩ := HW1.out
   cases e
   obtain ⟨b, o, rfl, hblt, hc, -⟩ := x3 (by omega)
   have hcell := (HBel.out.cell (p := ⟨b, o + k, none⟩) hblt).trans (hc k hlt)
   have hst := HB.out.cell k (by have := HZ.out.1; simp; omega)
   have hfr := HB.out.frozen k
   have R := add_round OL.out OM.out hn1 HZ.out
   have hx := ZI OL.out k
   have hy := ZI OM.out k
   have HB' := Lib.hid (HB.out.set k (ZJ (n + Big.nth l k + Big.nth m k)))
   have ez := ZY zs (List.replicate (l.length + 1) 0) k (ZJ (n + Big.nth l k + Big.nth m k)) HZ.out.1 (by simp; omega)
   have hw := w32 (n + Big.nth l k + Big.nth m k)
   have hs := Zdu (n + Big.nth l k + Big.nth m k)
   clear hc x3
   by_cases hlm2 : k < m.length
   ·obtain ⟨A'', c'', e, y1, y2, y3⟩ := HW2.out
    cases e
    obtain ⟨b2, o2, rfl, hblt2, hc2, -⟩ := y3 (by omega)
    have hcell2 := (HBel.out.cell (p := ⟨b2, o2 + k, none⟩) hblt2).trans (hc2 k hlm2)
    clear hc2 y3
    generalize Big.nth l k = x at *
    generalize Big.nth m k = y at *
    have e1 : ((n + x + y : Nat) : Int) = (n : Int) + x + y := by omega
    rw [e1] at hw hs
    generalize ZJ (n + x + y) = sv at *
    generalize Yg (n + x + y) = tv at *
    have R0 := R.1
    have R1 := Lib.hid R.2
    have HE := Lib.hid ez
    clear R ez e1
    go_wp2_with fail
    refine ⟨⟨k + 1, tv, zs ++ [sv], by omega, by go_num, rfl, R0, R1, Lib.hid ?_, Lib.hid ((HBel.out).setCell (Nat.le_refl _) _)⟩, by simp [intOf]; omega⟩
    have := HB'.out
    rw [HE.out] at this
    exact this
   ·have hy0 : Big.nth m k = 0 := Big.nth_ge m k (by omega)
    rw [hy0] at R HB' ez hw hs
    clear hy hy0
    generalize Big.nth l k = x at *
    have e1 : ((n + x + 0 : Nat) : Int) = (n : Int) + x := by omega
    rw [e1] at hw hs
    generalize ZJ (n + x + 0) = sv at *
    generalize Yg (n + x + 0) = tv at *
    have R0 := R.1
    have R1 := Lib.hid R.2
    have HE := Lib.hid ez
    clear R ez e1
    go_wp2_with fail
    refine ⟨⟨k + 1, tv, zs ++ [sv], by omega, by go_num, rfl, R0, R1, Lib.hid ?_, Lib.hid ((HBel.out).setCell (Nat.le_refl _) _)⟩, by simp [intOf]; omega⟩
    have := HB'.out
    rw [HE.out] at this
    exact this
  ·have hkl : k = l.length := by omega
   subst hkl
   have hst := HB.out.cell l.length (by have := HZ.out.1; simp; omega)
   have hfr := HB.out.frozen l.length
   have HB' := Lib.hid (HB.out.set l.length n)
   have HBel' := Lib.hid (HBel.out.setCell (p := ⟨w.heap.size, l.length, none⟩) (Nat.le_refl _) (.int .u32 (n : Int)))
   go_wp2_with fail
   refine (trim_any _ _ (zs ++ [n]) ?_).mono ?_
   ·have h1 := HB'.out
    rw [ZY zs (List.replicate (l.length + 1) 0) l.length _ HZ.out.1 (by simp)] at h1
    rw [show List.drop (l.length + 1) (List.replicate (l.length + 1) 0) = [] from List.drop_eq_nil_of_le (by simp), List.append_nil] at h1
    have h2 := Ym h1 (l.length + 1) (by have := HZ.out.1; simp; omega) (by omega)
    rw [show (zs ++ [n]).length = l.length + 1 by have := HZ.out.1; simp; omega] at h2
    exact h2
   ·rintro e w' ⟨v', rfl, hv', rfl⟩
    have HV := Lib.hid hv'
    clear hv'
    go_wp2
    go_ret
    have Z := HZ.out
    have oz : Big.Ok M32 (zs ++ [n]) := Z.2.1.append (Big.Ok.cons (by unfold M32; omega) Big.Ok.nil)
    have e1 := Z.2.2
    rw [Big.val_take_all l _ (Nat.le_refl _), Big.val_take_all m _ (by omega)] at e1
    refine ⟨v', rfl, ?_, HBel'.out⟩
    have := Nin.strip HV.out oz
    rw [Big.val_snoc, Z.1, e1] at this
    exact this
set_option maxRecDepth 100000 in
set_option maxHeartbeats 1000000 in
theorem Zb0 (w : World) (v u : Value) (l m : List Nat) (h : Wd w .u32 v l) (k : Wd w .u32 u m) (ol : Big.Ok M32 l) (om : Big.Ok M32 m)
  (hl : l.length ≤ 100000000000) (hlm : m.length < l.length) :
  Calls Tryz.prog 126 #[u, v] w fun e w' => ∃ v', e = .returned v' ∧ Nin w' v' (Big.val M32 l + Big.val M32 m) ∧ Below w.heap.size w w' := by
 obtain ⟨A, c, rfl, h1, h2, h3⟩ := h
 obtain ⟨A2, c2, rfl, k1, k2, k3⟩ := k
 have OL := Lib.hid ol; have OM := Lib.hid om
 clear ol om
 have hmk := fun W => XD (l.length + 1) (by omega) W
 rw [show ((l.length + 1 : Nat) : Int) = (l.length : Int) + 1 by omega] at hmk
 have hnlt : ((m.length : Int) < l.length) := by omega
 have HB0 := Lib.hid (Blk.new w 148 .u32 (List.replicate (l.length + 1) 0))
 have HBel0 := Lib.hid ((Below.refl w.heap.size w).alloc (Nat.le_refl _) (.cells (cellsOf .u32 (List.replicate (l.length + 1) 0)) 148))
 have HW1 := Lib.hid (show Wd w .u32 (.slice A l.length c) l from ⟨A, c, rfl, h1, h2, h3⟩)
 have HW2 := Lib.hid (show Wd w .u32 (.slice A2 m.length c2) m from ⟨A2, c2, rfl, k1, k2, k3⟩)
 clear h3 k3
 go_enter Tryz.func126, Tryz.ntmps126
 go_wp2_with fail
 go_loopw [6, 7] (fun o i wr => ∃ (k n : Nat) (zs : List Nat), k ≤ l.length ∧ i = .int .i64 k ∧ o = .int .u64 n ∧ n ≤ 1 ∧
   Hid (zs.length = k ∧ Big.Ok M32 zs ∧ Big.val M32 zs + M32 ^ k * n = Big.val M32 (l.take k) + Big.val M32 (m.take k)) ∧
   Hid (Blk wr w.heap.size 148 .u32 (zs ++ (List.replicate (l.length + 1) 0).drop k)) ∧ Hid (Below w.heap.size w wr))
  (fun _ i _ => l.length - (intOf i).toNat)
 case atStart => exact ⟨0, 0, [], by omega, rfl, rfl, by omega, Lib.hid ⟨rfl, Big.Ok.nil, by simp [Big.val]⟩, Lib.hid (by simpa using HB0.out), HBel0⟩
 case round =>
  obtain ⟨k, n, zs, hk, rfl, rfl, hn1, HZ, HB, HBel⟩ := hrel
  by_cases hlt : k < l.length
  ·obtain ⟨A', c', e, x1, x2, x3⟩ := HW1.out
   cases e
   obtain ⟨b, o, rfl, hblt, hc, -⟩ := x3 (by omega)
   have hcell := (HBel.out.cell (p := ⟨b, o + k, none⟩) hblt).trans (hc k hlt)
   have hst := HB.out.cell k (by have := HZ.out.1; simp; omega)
   have hfr := HB.out.frozen k
   have R := add_round OL.out OM.out hn1 HZ.out
   have hx := ZI OL.out k
   have hy := ZI OM.out k
   have HB' := Lib.hid (HB.out.set k (ZJ (n + Big.nth l k + Big.nth m k)))
   have ez := ZY zs (List.replicate (l.length + 1) 0) k (ZJ (n + Big.nth l k + Big.nth m k)) HZ.out.1 (by simp; omega)
   have hw := w32 (n + Big.nth l k + Big.nth m k)
   have hs := Zdu (n + Big.nth l k + Big.nth m k)
   clear hc x3
   by_cases hlm2 : k < m.length
   ·obtain ⟨A'', c'', e, y1, y2, y3⟩ := HW2.out
    cases e
    obtain ⟨b2, o2, rfl, hblt2, hc2, -⟩ := y3 (by omega)
    have hcell2 := (HBel.out.cell (p := ⟨b2, o2 + k, none⟩) hblt2).trans (hc2 k hlm2)
    clear hc2 y3
    generalize Big.nth l k = x at *
    generalize Big.nth m k = y at *
    have e1 : ((n + x + y : Nat) : Int) = (n : Int) + x + y := by omega
    rw [e1] at hw hs
    generalize ZJ (n + x + y) = sv at *
    generalize Yg (n + x + y) = tv at *
    have R0 := R.1
    have R1 := Lib.hid R.2
    have HE := Lib.hid ez
    clear R ez e1
    go_wp2_with fail
    refine ⟨⟨k + 1, tv, zs ++ [sv], by omega, by go_num, rfl, R0, R1, Lib.hid ?_, Lib.hid ((HBel.out).setCell (Nat.le_refl _) _)⟩, by simp [intOf]; omega⟩
    have := HB'.out
    rw [HE.out] at this
    exact this
   ·have hy0 : Big.nth m k = 0 := Big.nth_ge m k (by omega)
    rw [hy0] at R HB' ez hw hs
    clear hy hy0
    generalize Big.nth l k = x at *
    have e1 : ((n + x + 0 : Nat) : Int) = (n : Int) + x := by omega
    rw [e1] at hw hs
    generalize ZJ (n + x + 0) = sv at *
    generalize Yg (n + x + 0) = tv at *
    have R0 := R.1
    have R1 := Lib.hid R.2
    have HE := Lib.hid ez
    clear R ez e1
    go_wp2_with fail
    refine ⟨⟨k + 1, tv, zs ++ [sv], by omega, by go_num, rfl, R0, R1, Lib.hid ?_, Lib.hid ((HBel.out).setCell (Nat.le_refl _) _)⟩, by simp [intOf]; omega⟩
    have := HB'.out
    rw [HE.out] at this
    exact this
  ·have hkl : k = l.length := by omega
   subst hkl
   have hst := HB.out.cell l.length (by have := HZ.out.1; simp; omega)
   have hfr := HB.out.frozen l.length
   have HB' := Lib.hid (HB.out.set l.length n)
   have HBel' := Lib.hid (HBel.out.setCell (p := ⟨w.heap.size, l.length, none⟩) (Nat.le_refl _) (.int .u32 (n : Int)))
   go_wp2_with fail
   refine (trim_any _ _ (zs ++ [n]) ?_).mono ?_
   ·have h1 := HB'.out
    rw [ZY zs (List.replicate (l.length + 1) 0) l.length _ HZ.out.1 (by simp)] at h1
    rw [show List.drop (l.length + 1) (List.replicate (l.length + 1) 0) = [] from List.drop_eq_nil_of_le (by simp), List.append_nil] at h1
    have h2 := Ym h1 (l.length + 1) (by have := HZ.out.1; simp; omega) (by omega)
    rw [show (zs ++ [n]).length = l.length + 1 by have := HZ.out.1; simp; omega] at h2
    exact h2
   ·rintro e w' ⟨v', rfl, hv', rfl⟩
    have HV := Lib.hid hv'
    clear hv'
    go_wp2
    go_ret
    have Z := HZ.out
    have oz : Big.Ok M32 (zs ++ [n]) := Z.2.1.append (Big.Ok.cons (by unfold M32; omega) Big.Ok.nil)
    have e1 := Z.2.2
    rw [Big.val_take_all l _ (Nat.le_refl _), Big.val_take_all m _ (by omega)] at e1
    refine ⟨v', rfl, ?_, HBel'.out⟩
    have := Nin.strip HV.out oz
    rw [Big.val_snoc, Z.1, e1] at this
    exact this
theorem ZaN (w : World) (v u : Value) (l m : List Nat) (h : Wd w .u32 v l) (k : Wd w .u32 u m) (ol : Big.Ok M32 l) (om : Big.Ok M32 m)
  (hl : l.length ≤ 100000000000) (hm : m.length ≤ 100000000000) :
  Calls Tryz.prog 126 #[v, u] w fun e w' => ∃ v', e = .returned v' ∧ Nin w' v' (Big.val M32 l + Big.val M32 m) ∧ Below w.heap.size w w' := by
 rcases Nat.lt_or_ge l.length m.length with h1 | h1
 ·rw [Nat.add_comm]; exact Zb0 w u v m l k h om ol hm h1
 ·exact ZbZ w v u l m h k ol om hl h1
end R
end Go.Proofs.YtnlhjcfpfapafaaGreatDoor
namespace Go.Proofs.YtnlhjcfpfapafaaGreatDoor
namespace R
open Go.RowKit
def JF (n s : Nat) : Prop := n < 2 ^ s ∧ (0 < s → 2 ^ (s - 1) ≤ n)
theorem ZhC {l : List Nat} {t j : Nat} (ol : Big.Ok M32 l) (h1 : t < 2 ^ j) (h2 : 0 < j → 2 ^ (j - 1) ≤ t) (h0 : 0 < t) : JF (Big.val M32 (l ++ [t])) (32 * l.length + j) := by
 have hj : 0 < j := by
  rcases Nat.eq_zero_or_pos j with e | e
  ·subst e; simp at h1; omega
  ·exact e
 have hl := Big.val_lt l ol
 have eM : M32 ^ l.length = 2 ^ (32 * l.length) := by rw [Nat.pow_mul]; rfl
 rw [Big.val_snoc]
 rw [eM] at hl ⊢
 clear eM
 unfold JF
 rw [Nat.pow_add, show 32 * l.length + j - 1 = 32 * l.length + (j - 1) by omega, Nat.pow_add]
 have h3 := h2 hj
 generalize 2 ^ (32 * l.length) = P at *
 generalize 2 ^ j = Q at *
 generalize 2 ^ (j - 1) = Q2 at *
 refine ⟨?_, fun _ => ?_⟩
 ·have := Nat.mul_le_mul_left P h1
  rw [Nat.mul_succ] at this
  omega
 ·have := Nat.mul_le_mul_left P h3
  omega
set_option maxRecDepth 100000 in
set_option maxHeartbeats 1000000 in
theorem VM (w : World) (v : Value) (l : List Nat) (h : Wd w .u32 v l) (ol : Big.Ok M32 l) (nl : Big.Norm l) (hl : l.length ≤ 100000000000) :
  Calls Tryz.prog 140 #[v] w fun e w' => ∃ s : Nat, e = .returned (.int .i64 (s : Int)) ∧ JF (Big.val M32 l) s ∧ s ≤ 32 * l.length ∧ (l ≠ [] → 32 * l.length ≤ s + 31) ∧ w = w' := by
 obtain ⟨A, c, rfl, h1, h2, h3⟩ := h
 rcases List.eq_nil_or_concat l with rfl | ⟨r, t, rfl⟩
 ·clear h3
  go_enter Tryz.func140, Tryz.ntmps140
  go_wp2
  go_ret
  exact ⟨0, rfl, ⟨by simp [Big.val], fun h => absurd h (by omega)⟩, by simp, fun h => absurd rfl h, rfl⟩
 ·rw [List.concat_eq_append] at *
  obtain ⟨b, o, rfl, hlt, hc, -⟩ := h3 (by simp)
  have hcell := hc r.length (by simp)
  have ent : Big.nth (r ++ [t]) r.length = t := by unfold Big.nth; rw [List.getD_eq_getElem?_getD, List.getElem?_append_right (by omega), Nat.sub_self]; rfl
  rw [ent] at hcell
  have ht0 : 0 < t := by
   rcases Nat.eq_zero_or_pos t with e | e
   ·subst e; simp [Big.Norm] at nl
   ·exact e
  have htM : t < 4294967296 := by rw [← Zk]; exact ol t (by simp)
  have hrl : (r ++ [t]).length = r.length + 1 := by simp
  rw [hrl] at h1 hl ⊢
  have OR := Lib.hid (show Big.Ok M32 r from fun d hd => ol d (by simp [hd]))
  have e1 : ((r.length + 1 : Nat) : Int) - 1 = (r.length : Int) := by omega
  have ene : (((r.length + 1 : Nat) : Int) == 0) = false := beq_eq_false_iff_ne.2 (by omega)
  clear hc h3 ent ol nl hrl
  generalize r.length + 1 = N at *
  have hN : N = r.length + 1 := by omega
  have HN := Lib.hid hN
  have j1 : (r.length : Int) < (N : Int) := by omega
  clear hN
  go_enter Tryz.func140, Tryz.ntmps140
  go_wp2_with fail
  have hl2 : r.length ≤ 100000000000 := by omega
  go_loopw [3, 4] (fun n x wr => ∃ (j y : Nat), j ≤ 32 ∧ n = .int .i64 (32 * (r.length : Int) + j) ∧ x = .int .u32 (y : Int) ∧ y < 4294967296 ∧ Hid (y = t / 2 ^ j ∧ (0 < j → 2 ^ (j - 1) ≤ t)) ∧ w = wr)
   (fun _ x _ => (intOf x).toNat)
  case atStart => exact ⟨0, t, by omega, by simp, rfl, htM, Lib.hid ⟨by simp, fun h => absurd h (by omega)⟩, rfl⟩
  case round =>
   obtain ⟨j, y, hj, rfl, rfl, hy, HT, rfl⟩ := hrel
   rcases Nat.eq_zero_or_pos y with rfl | hp
   ·go_wp2
    go_ret
    have T := HT.out
    have hlt2 : t < 2 ^ j := by
     have := T.1
     rcases Nat.lt_or_ge t (2 ^ j) with h | h
     ·exact h
     ·have := Nat.div_pos h (Nat.pow_pos (by omega)); omega
    have := ZhC OR.out hlt2 T.2 ht0
    have hj1 : 0 < j := by
     rcases Nat.eq_zero_or_pos j with e | e
     ·subst e; simp at hlt2; omega
     ·exact e
    exact ⟨32 * r.length + j, by simp, this, by have := HN.out; omega, fun _ => by have := HN.out; omega, rfl⟩
   ·have T := HT.out
    have h32 : j < 32 := by
     rcases Nat.lt_or_ge j 32 with h | h
     ·exact h
     ·exfalso
      have : j = 32 := by omega
      subst this
      have := T.1
      rw [Nat.div_eq_of_lt (by omega)] at this
      omega
    have hge : 2 ^ j ≤ t := by
     rcases Nat.lt_or_ge t (2 ^ j) with h | h
     ·have := T.1; rw [Nat.div_eq_of_lt h] at this; omega
     ·exact h
    have HT' := Lib.hid (show y / 2 = t / 2 ^ (j + 1) ∧ (0 < j + 1 → 2 ^ (j + 1 - 1) ≤ t) from ⟨by rw [T.1, Nat.pow_succ, Nat.div_div_eq_div_mul], fun _ => hge⟩)
    have hyp : (y : Int) > 0 := by omega
    clear T hge
    go_wp2_with fail
    refine ⟨⟨j + 1, y / 2, by omega, by congr 1, rfl, by omega, HT', trivial⟩, by simp only [intOf]; omega⟩
end R
end Go.Proofs.YtnlhjcfpfapafaaGreatDoor
namespace Go.Proofs.YtnlhjcfpfapafaaGreatDoor
namespace R
open Go.RowKit
theorem e32 {n : Nat} (hn : n ≤ 31) : M32 = 2 ^ n * 2 ^ (32 - n) := by
 rw [Zk, ← Nat.pow_add, show n + (32 - n) = 32 by omega]
theorem ZoN (x n : Nat) (hn : n ≤ 31) (hx : x < 4294967296) : IntKind.u64.wrap ((x : Int) * 2 ^ n) = ((x * 2 ^ n : Nat) : Int) := by
 have h1 : 2 ^ n ≤ 2 ^ 31 := Nat.pow_le_pow_right (by omega) hn
 have h2 : x * 2 ^ n ≤ 4294967295 * 2 ^ 31 := Nat.mul_le_mul (by omega) h1
 rw [show ((2 : Int) ^ n) = ((2 ^ n : Nat) : Int) by rw [Int.natCast_pow]; rfl, ← Int.natCast_mul, IntKind.wrap_u64]; omega
theorem ZaO {n x : Nat} (hn : n ≤ 31) : ZJ (x * 2 ^ n) = 2 ^ n * (x % 2 ^ (32 - n)) := by
 show x * 2 ^ n % 4294967296 = _
 rw [← Zk, e32 hn, Nat.mul_comm x, Nat.mul_mod_mul_left]
theorem Zmz {n x : Nat} (hn : n ≤ 31) : Yg (x * 2 ^ n) = x / 2 ^ (32 - n) := by
 show x * 2 ^ n / 4294967296 = _
 rw [← Zk, e32 hn, Nat.mul_comm x, Nat.mul_div_mul_left _ _ (Nat.pow_pos (by omega))]
theorem shl_low {n x top : Nat} (hn : n ≤ 31) (ht : top < 2 ^ n) : top + 2 ^ n * (x % 2 ^ (32 - n)) < M32 := by
 have h1 : x % 2 ^ (32 - n) + 1 ≤ 2 ^ (32 - n) := Nat.mod_lt _ (Nat.pow_pos (by omega))
 have h2 := Nat.mul_le_mul_left (2 ^ n) h1
 rw [← e32 hn, Nat.mul_add] at h2
 omega
theorem or_low {n x top : Nat} (ht : top < 2 ^ n) : top ||| 2 ^ n * x = top + 2 ^ n * x := by
 rw [Nat.or_comm, nat_join n _ _ (Nat.mul_mod_right _ _) ht, Nat.add_comm]
theorem ZhD {l zs : List Nat} {k n top : Nat} (hn : n ≤ 31) (ht : top < 2 ^ n)
  (h : zs.length = k ∧ Big.Ok M32 zs ∧ Big.val M32 zs + M32 ^ k * top = Big.val M32 (l.take k) * 2 ^ n) (ol : Big.Ok M32 l) :
  Yg (Big.nth l k * 2 ^ n) < 2 ^ n ∧ (zs ++ [top + ZJ (Big.nth l k * 2 ^ n)]).length = k + 1 ∧ Big.Ok M32 (zs ++ [top + ZJ (Big.nth l k * 2 ^ n)]) ∧
   Big.val M32 (zs ++ [top + ZJ (Big.nth l k * 2 ^ n)]) + M32 ^ (k + 1) * Yg (Big.nth l k * 2 ^ n) = Big.val M32 (l.take (k + 1)) * 2 ^ n := by
 obtain ⟨h1, h2, h3⟩ := h
 have hx := ol.nth M32_pos k
 have hs := lo_hi (Big.nth l k * 2 ^ n)
 refine ⟨?_, by simp [h1], h2.append (Big.Ok.cons (by rw [ZaO hn]; exact shl_low hn ht) Big.Ok.nil), ?_⟩
 ·rw [Zmz hn, Nat.div_lt_iff_lt_mul (Nat.pow_pos (by omega)), ← e32 hn]; exact hx
 ·rw [Big.val_snoc, h1, Big.val_take_succ', Nat.add_mul, Nat.mul_assoc (M32 ^ k), ← h3, Nat.pow_succ]
  generalize ZJ (Big.nth l k * 2 ^ n) = a at *
  generalize Yg (Big.nth l k * 2 ^ n) = b at *
  rw [hs, ← Zk, Nat.mul_assoc]
  simp only [Nat.mul_add]
  omega
theorem ZmA {q k len top sv hi : Nat} {p zs : List Nat} (hp : p.length = q) (hz : zs.length = k) (hk : k < len) :
  ((p ++ (zs ++ top :: List.replicate (len - k) 0)).set (k + q) sv).set (k + q + 1) hi = p ++ ((zs ++ [sv]) ++ hi :: List.replicate (len - (k + 1)) 0) := by
 have e1 : (p ++ (zs ++ top :: List.replicate (len - k) 0)).set (k + q) sv = p ++ (zs ++ sv :: List.replicate (len - k) 0) := by
  rw [List.set_append_right _ _ (by omega), hp, Nat.add_sub_cancel, List.set_append_right _ _ (by omega), hz, Nat.sub_self, List.set_cons_zero]
 rw [e1, List.set_append_right _ _ (by omega), hp, show k + q + 1 - q = k + 1 by omega, List.set_append_right _ _ (by omega), hz, show k + 1 - k = 1 by omega,
  show len - k = (len - (k + 1)) + 1 by omega, List.replicate_succ]
 simp
set_option maxRecDepth 100000 in
set_option maxHeartbeats 2000000 in
theorem ZmB (w : World) (v : Value) (l : List Nat) (q n : Nat) (h : Wd w .u32 v l) (ol : Big.Ok M32 l) (hn : n ≤ 31) (hq : q ≤ 1000000000) (hl : l.length ≤ 1000000000) :
  Calls Tryz.prog 141 #[v, .int .i64 ((32 * q + n : Nat) : Int)] w fun e w' => ∃ v', e = .returned v' ∧ Nin w' v' (Big.val M32 l * 2 ^ (32 * q + n)) ∧ Below w.heap.size w w' := by
 have HW := Lib.hid h
 have OL := Lib.hid ol
 have HN := Lib.hid hn
 obtain ⟨A, c, rfl, -, -, -⟩ := h
 have e1 : ((32 * q + n : Nat) : Int) / 32 = (q : Int) := by omega
 have e2 : ((32 * q + n : Nat) : Int) % 32 = (n : Int) := by omega
 have e0 : (0 : Int) ≤ ((32 * q + n : Nat) : Int) := by omega
 generalize hX : 32 * q + n = X at *
 have HX := Lib.hid hX
 clear hX
 rcases Nat.eq_zero_or_pos l.length with h0 | h0
 ·have ez : ((l.length : Int) == 0) = true := by rw [beq_iff_eq]; omega
  have HL := Lib.hid (List.eq_nil_of_length_eq_zero h0)
  clear h0 e1 e2
  go_enter Tryz.func141, Tryz.ntmps141
  go_wp2
  go_ret
  refine ⟨_, rfl, ?_, Below.refl _ _⟩
  rw [HL.out]
  simpa [Big.val] using Nin.nil_ w
 ·have ez : ((l.length : Int) == 0) = false := beq_eq_false_iff_ne.2 (by omega)
  have hmk := fun W => XD (l.length + q + 1) (by omega) W
  rw [show ((l.length + q + 1 : Nat) : Int) = (l.length : Int) + q + 1 by omega] at hmk
  have HB1 := Lib.hid (Blk.new w 148 .u32 (List.replicate (l.length + q + 1) 0))
  have HBel1 := Lib.hid ((Below.refl w.heap.size w).alloc (Nat.le_refl _) (.cells (cellsOf .u32 (List.replicate (l.length + q + 1) 0)) 148))
  have HL0 := Lib.hid h0
  clear ol h0
  go_enter Tryz.func141, Tryz.ntmps141
  go_wp2_with fail
  clear hmk
  go_loopw [7] (fun i wr => ∃ (k top : Nat) (zs : List Nat), k ≤ l.length ∧ i = .int .i64 k ∧ Hid (top < 2 ^ n) ∧
    Hid (zs.length = k ∧ Big.Ok M32 zs ∧ Big.val M32 zs + M32 ^ k * top = Big.val M32 (l.take k) * 2 ^ n) ∧
    Hid (Blk wr w.heap.size 148 .u32 (List.replicate q 0 ++ (zs ++ top :: List.replicate (l.length - k) 0))) ∧ Hid (Below w.heap.size w wr))
   (fun i _ => l.length - (intOf i).toNat)
  case atStart => exact ⟨0, 0, [], by omega, rfl, Lib.hid (Nat.pow_pos (by omega)), Lib.hid ⟨rfl, Big.Ok.nil, by simp [Big.val]⟩, Lib.hid (by
   have h1 := HB1.out
   have e : List.replicate (l.length + q + 1) (0 : Nat) = List.replicate q 0 ++ ([] ++ 0 :: List.replicate (l.length - 0) 0) := by
    rw [List.nil_append, Nat.sub_zero, ← List.replicate_succ, List.replicate_append_replicate]; congr 1; omega
   rw [← e]
   exact h1), HBel1⟩
  case round =>
   obtain ⟨k, top, zs, hk, rfl, HT, HZ, HB, HBel⟩ := hrel
   by_cases hkn : k < l.length
   ·obtain ⟨A', c', e, x1, x2, x3⟩ := HW.out
    cases e
    obtain ⟨b, o, rfl, hblt, hcc, -⟩ := x3 (by omega)
    have hcell := (HBel.out.cell (p := ⟨b, o + k, none⟩) hblt).trans (hcc k hkn)
    have hzl := HZ.out.1
    have hst := HB.out.cell (k + q) (by simp; omega)
    have et : Big.nth (List.replicate q 0 ++ (zs ++ top :: List.replicate (l.length - k) 0)) (k + q) = top := by
     unfold Big.nth
     rw [List.getD_eq_getElem?_getD, List.getElem?_append_right (by simp), List.length_replicate, Nat.add_sub_cancel, List.getElem?_append_right (by omega), hzl, Nat.sub_self]; rfl
    rw [et] at hst
    have hfr := HB.out.frozen (k + q)
    have R := ZhD HN.out HT.out HZ.out OL.out
    have hyM := ZI OL.out k
    have ew := ZoN (Big.nth l k) n HN.out hyM
    have hlow := shl_low (x := Big.nth l k) HN.out HT.out
    rw [← ZaO HN.out, Zk] at hlow
    have eo := u32_or_nat top (ZJ (Big.nth l k * 2 ^ n)) (by omega) (by omega)
    rw [ZaO HN.out, or_low HT.out, ← ZaO HN.out] at eo
    have hP : Big.nth l k * 2 ^ n < 18446744073709551616 := by
     have h1 : 2 ^ n ≤ 2 ^ 31 := Nat.pow_le_pow_right (by omega) HN.out
     have h2 : Big.nth l k * 2 ^ n ≤ 4294967295 * 2 ^ 31 := Nat.mul_le_mul (by omega) h1
     omega
    have hlo := w32 (Big.nth l k * 2 ^ n)
    have hhi := Zdu (Big.nth l k * 2 ^ n)
    have hhl : Yg (Big.nth l k * 2 ^ n) < 4294967296 := by unfold Yg; omega
    generalize Big.nth l k = y at *
    obtain ⟨P, hPe⟩ : ∃ P, y * 2 ^ n = P := ⟨_, rfl⟩
    rw [hPe] at R ew eo hP hlo hhi hhl
    generalize ZJ P = lo at *
    generalize Yg P = hi at *
    obtain ⟨sv, hsv⟩ : ∃ s, top + lo = s := ⟨_, rfl⟩
    rw [hsv] at eo R
    have HT' := Lib.hid R.1
    have HZ' := Lib.hid R.2
    have HB1' := HB.out.set (k + q) sv
    have hst2 := HB1'.cell (k + q + 1) (by simp; omega)
    have hfr2 := HB1'.frozen (k + q + 1)
    have HB' := Lib.hid (HB1'.set (k + q + 1) hi)
    have HN63 : (n : Int) ≤ 31 := by have := HN.out; omega
    clear R hPe hsv hlow hcc x3 HB1' et hzl
    go_wp2_with fail
    refine ⟨⟨k + 1, hi, zs ++ [sv], by omega, by go_num, HT', HZ', Lib.hid ?_, Lib.hid (((HBel.out.setCell (Nat.le_refl _) _).setCell (Nat.le_refl _) _))⟩, by simp [intOf]; omega⟩
    have h1 := HB'.out
    rw [ZmA (by simp) HZ.out.1 hkn] at h1
    exact h1
   ·have hkl : k = l.length := by omega
    subst hkl
    have Z := HZ.out
    have hB := HB.out
    rw [Nat.sub_self, List.replicate_zero] at hB
    have h2 := Ym hB (l.length + q + 1) (by simp [Z.1]; omega) (by omega)
    rw [show (List.replicate q (0 : Nat) ++ (zs ++ [top])).length = l.length + q + 1 by simp [Z.1]; omega] at h2
    have HTR := Lib.hid (trim_any _ _ _ h2)
    clear hB h2 Z
    go_wp2_with fail
    refine HTR.out.mono ?_
    rintro e w' ⟨v', rfl, hv', rfl⟩
    have HV := Lib.hid hv'
    clear hv'
    go_wp2
    go_ret
    have Z := HZ.out
    refine ⟨v', rfl, ?_, HBel.out⟩
    have ot : top < M32 := by
     refine Nat.lt_of_lt_of_le HT.out ?_
     rw [e32 HN.out]
     exact Nat.le_mul_of_pos_right _ (Nat.pow_pos (by omega))
    have oz : Big.Ok M32 (List.replicate q 0 ++ (zs ++ [top])) := Big.Ok.append (fun d hd => by rw [List.eq_of_mem_replicate hd]; exact M32_pos) (Z.2.1.append (Big.Ok.cons ot Big.Ok.nil))
    have := Nin.strip HV.out oz
    rw [Big.val_append, Big.val_replicate, List.length_replicate, Nat.zero_add, Big.val_snoc, Z.1, Z.2.2, Big.val_take_all l _ (Nat.le_refl _)] at this
    have e : Big.val M32 l * 2 ^ X = M32 ^ q * (Big.val M32 l * 2 ^ n) := by
     rw [← HX.out, Nat.pow_add, show 2 ^ (32 * q) = M32 ^ q by rw [Nat.pow_mul]; rfl]
     generalize M32 ^ q = P
     generalize 2 ^ n = S
     rw [Nat.mul_left_comm]
    rw [e]
    exact this
end R
end Go.Proofs.YtnlhjcfpfapafaaGreatDoor
namespace Go.Proofs.YtnlhjcfpfapafaaGreatDoor
namespace R
open Go.RowKit
theorem JG {x H' n : Nat} (hn : n ≤ 31) : (x + M32 * H') / 2 ^ n = x / 2 ^ n + 2 ^ (32 - n) * (H' % 2 ^ n) + M32 * (H' / 2 ^ n) := by
 have h := Nat.div_add_mod H' (2 ^ n)
 rw [e32 hn, Nat.mul_assoc, Nat.add_mul_div_left _ _ (Nat.pow_pos (by omega))]
 generalize H' / 2 ^ n = d at *
 generalize H' % 2 ^ n = r at *
 subst h
 rw [Nat.mul_add, ← Nat.mul_assoc, Nat.mul_comm (2 ^ (32 - n)) (2 ^ n)]
 omega
theorem Zb1 {x r n : Nat} (hn : n ≤ 31) (hx : x < M32) (hr : r < 2 ^ n) : x / 2 ^ n + 2 ^ (32 - n) * r < M32 := by
 have h1 : x / 2 ^ n < 2 ^ (32 - n) := by
  rw [Nat.div_lt_iff_lt_mul (Nat.pow_pos (by omega)), Nat.mul_comm, ← e32 hn]; exact hx
 have h2 := Nat.mul_le_mul_left (2 ^ (32 - n)) (show r + 1 ≤ 2 ^ n from hr)
 rw [Nat.mul_comm _ (2 ^ n), ← e32 hn, Nat.mul_add] at h2
 omega
theorem low_bits {X : List Nat} {k n : Nat} (hn : n ≤ 31) : Big.val M32 (X.drop k) % 2 ^ n = Big.nth X k % 2 ^ n := by
 rcases Nat.lt_or_ge k X.length with h | h
 ·rw [Big.drop_cons X k h]
  simp only [Big.val]
  rw [e32 hn, Nat.mul_assoc, Nat.add_mul_mod_self_left]
 ·rw [List.drop_eq_nil_of_le h, Big.nth_ge X k h]; rfl
theorem Zkg (x y : Nat) (hx : x < 4294967296) (hy : y < 4294967296) : bits .or .u64 ((x : Nat) : Int) ((y : Int) * 4294967296) = ((x + 4294967296 * y : Nat) : Int) := by
 rw [show ((y : Int) * 4294967296) = ((y * 4294967296 : Nat) : Int) by omega, u64_or_nat _ _ (by omega) (by omega), Nat.or_comm, nat_join 32 _ _ (by omega) (by omega)]
 omega
theorem ZhE {x y n : Nat} (hn : n ≤ 31) (hx : x < M32) : ZJ ((x + 4294967296 * y) / 2 ^ n) = x / 2 ^ n + 2 ^ (32 - n) * (y % 2 ^ n) := by
 have h := JG (x := x) (H' := y) hn
 have h2 := Zb1 (r := y % 2 ^ n) hn hx (Nat.mod_lt _ (Nat.pow_pos (by omega)))
 rw [Zk] at h h2
 rw [h]
 show (_ + 4294967296 * _) % 4294967296 = _
 rw [Nat.add_mul_mod_self_left, Nat.mod_eq_of_lt h2]
theorem divS (n s : Nat) : ((n : Nat) : Int) / 2 ^ s = ((n / 2 ^ s : Nat) : Int) := by
 rw [show ((2 : Int) ^ s) = ((2 ^ s : Nat) : Int) by rw [Int.natCast_pow]; rfl, Int.natCast_ediv]
set_option maxRecDepth 100000 in
set_option maxHeartbeats 2000000 in
theorem Zb2 (w : World) (v : Value) (l : List Nat) (q n : Nat) (h : Wd w .u32 v l) (ol : Big.Ok M32 l) (hn : n ≤ 31) (hq : q ≤ 1000000000) (hl : l.length ≤ 1000000000) :
  Calls Tryz.prog 145 #[v, .int .i64 ((32 * q + n : Nat) : Int)] w fun e w' => ∃ v', e = .returned v' ∧ Nin w' v' (Big.val M32 l / 2 ^ (32 * q + n)) ∧ Below w.heap.size w w' := by
 obtain ⟨A, c, rfl, h1, h2, h3⟩ := h
 have OL := Lib.hid ol
 have HN := Lib.hid hn
 have e1 : ((32 * q + n : Nat) : Int) / 32 = (q : Int) := by omega
 have e2 : ((32 * q + n : Nat) : Int) % 32 = (n : Int) := by omega
 have e0 : (0 : Int) ≤ ((32 * q + n : Nat) : Int) := by omega
 have HV := Lib.hid (show Big.val M32 l / 2 ^ (32 * q + n) = Big.val M32 (l.drop q) / 2 ^ n by
  rw [Nat.pow_add, show 2 ^ (32 * q) = M32 ^ q by rw [Nat.pow_mul]; rfl, ← Nat.div_div_eq_div_mul]
  congr 1
  rcases Nat.lt_or_ge l.length q with h | h
  ·rw [List.drop_eq_nil_of_le (by omega)]
   refine Nat.div_eq_of_lt (Nat.lt_of_lt_of_le (Big.val_lt l ol) (Nat.pow_le_pow_right M32_pos (by omega)))
  ·have hv := Big.val_lt (l.take q) (ol.take q)
   rw [List.length_take, Nat.min_eq_left h] at hv
   rw [Big.val_take_drop l q h, Nat.add_mul_div_left _ _ (Nat.pow_pos M32_pos), Nat.div_eq_of_lt hv, Nat.zero_add])
 generalize hX : 32 * q + n = X at *
 rw [HV.out]
 clear hX HV
 rcases Nat.lt_or_ge q l.length with hql | hql
 ·have t1 : ¬ ((q : Int) ≥ (l.length : Int)) := by omega
  obtain ⟨b, o, rfl, hlt, hc, hty⟩ := h3 (by omega)
  have HW := Lib.hid (show Wd w .u32 (.slice (some ⟨b, o + q, none⟩) (l.length - q) (c - q)) (l.drop q) from ⟨some ⟨b, o + q, none⟩, c - q, by simp, by simp; omega, by omega, fun _ => ⟨b, o + q, rfl, hlt, fun i hi => by
   rw [show o + q + i = o + (q + i) by omega, hc (q + i) (by simp at hi; omega)]
   unfold Big.nth
   rw [List.getD_eq_getElem?_getD, List.getD_eq_getElem?_getD, List.getElem?_drop], hty⟩⟩)
  obtain ⟨C, hC⟩ : ∃ C, c - q = C := ⟨_, rfl⟩
  have hN : l.length - q = (l.drop q).length := by simp
  have OD := Lib.hid (show Big.Ok M32 (l.drop q) from ol.drop q)
  rw [hN, hC] at HW
  generalize l.drop q = L at *
  have hNl : L.length ≤ 1000000000 := by omega
  have hmk := fun W => XD L.length (by omega) W
  have HB1 := Lib.hid (Blk.new w 148 .u32 (List.replicate L.length 0))
  have HBel1 := Lib.hid ((Below.refl w.heap.size w).alloc (Nat.le_refl _) (.cells (cellsOf .u32 (List.replicate L.length 0)) 148))
  clear hc h3 hty ol
  go_enter Tryz.func145, Tryz.ntmps145
  go_wp2_with fail
  clear hmk
  go_loopw [7] (fun i wr => ∃ (k : Nat) (zs : List Nat), k ≤ L.length ∧ i = .int .i64 k ∧
    Hid (zs.length = k ∧ Big.Ok M32 zs ∧ Big.val M32 L / 2 ^ n = Big.val M32 zs + M32 ^ k * (Big.val M32 (L.drop k) / 2 ^ n)) ∧
    Hid (Blk wr w.heap.size 148 .u32 (zs ++ (List.replicate L.length 0).drop k)) ∧ Hid (Below w.heap.size w wr))
   (fun i _ => L.length - (intOf i).toNat)
  case atStart => exact ⟨0, [], by omega, rfl, Lib.hid ⟨rfl, Big.Ok.nil, by simp [Big.val]⟩, Lib.hid (by simpa using HB1.out), HBel1⟩
  case round =>
   obtain ⟨k, zs, hk, rfl, HZ, HB, HBel⟩ := hrel
   by_cases hkn : k < L.length
   ·obtain ⟨A', c', e, x1, x2, x3⟩ := HW.out
    cases e
    obtain ⟨b', o', e, hblt, hcc, -⟩ := x3 (by omega)
    cases e
    have hcell := (HBel.out.cell (p := ⟨b, o + q + k, none⟩) hblt).trans (hcc k (by omega))
    have hzl := HZ.out.1
    have hst := HB.out.cell k (by simp; omega)
    have hfr := HB.out.frozen k
    have hxM := ZI OD.out k
    have hyM := ZI OD.out (k + 1)
    have hsr := JG (x := Big.nth L k) (H' := Big.val M32 (L.drop (k + 1))) HN.out
    rw [low_bits HN.out] at hsr
    have hsv := ZhE (x := Big.nth L k) (y := Big.nth L (k + 1)) HN.out (by rw [Zk]; exact hxM)
    have hlow := Zb1 (x := Big.nth L k) (r := Big.nth L (k + 1) % 2 ^ n) HN.out (by rw [Zk]; exact hxM) (Nat.mod_lt _ (Nat.pow_pos (by omega)))
    have hor := Zkg (Big.nth L k) (Big.nth L (k + 1)) hxM hyM
    have hdc := Big.drop_cons L k (by omega)
    have hT : Big.nth L k + 4294967296 * Big.nth L (k + 1) < 18446744073709551616 := by omega
    have HZ' : ∀ sv, ZJ ((Big.nth L k + 4294967296 * Big.nth L (k + 1)) / 2 ^ n) = sv → (zs ++ [sv]).length = k + 1 ∧ Big.Ok M32 (zs ++ [sv]) ∧ Big.val M32 L / 2 ^ n = Big.val M32 (zs ++ [sv]) + M32 ^ (k + 1) * (Big.val M32 (L.drop (k + 1)) / 2 ^ n) := by
     rintro sv rfl
     rw [hsv]
     refine ⟨by simp [hzl], HZ.out.2.1.append (Big.Ok.cons hlow Big.Ok.nil), ?_⟩
     rw [HZ.out.2.2, hdc]
     simp only [Big.val]
     rw [hsr, Big.val_snoc, hzl, Nat.pow_succ, Nat.mul_add, Nat.mul_assoc]
     omega
    have HR := HZ' _ rfl
    have hw := w32 ((Big.nth L k + 4294967296 * Big.nth L (k + 1)) / 2 ^ n)
    have hdv := divS (Big.nth L k + 4294967296 * Big.nth L (k + 1)) n
    have HB' := Lib.hid (HB.out.set k (ZJ ((Big.nth L k + 4294967296 * Big.nth L (k + 1)) / 2 ^ n)))
    have ez := ZY zs (List.replicate L.length 0) k (ZJ ((Big.nth L k + 4294967296 * Big.nth L (k + 1)) / 2 ^ n)) hzl (by simp; omega)
    have HN63 : (n : Int) ≤ 31 := by have := HN.out; omega
    by_cases hk2 : k + 1 < L.length
    ·have hcell2 := (HBel.out.cell (p := ⟨b, o + q + (k + 1), none⟩) hblt).trans (hcc (k + 1) (by omega))
     generalize Big.nth L k = x at *
     generalize Big.nth L (k + 1) = y at *
     generalize x + 4294967296 * y = t at *
     generalize t / 2 ^ n = d at *
     generalize ZJ d = sv at *
     have HE := Lib.hid ez
     have HR' := Lib.hid HR
     clear hcc x3 hsr hsv hlow hdc HZ' HR ez hzl
     go_wp2_with fail
     refine ⟨⟨k + 1, zs ++ [sv], by omega, by go_num, HR', Lib.hid ?_, Lib.hid (HBel.out.setCell (Nat.le_refl _) _)⟩, by simp [intOf]; omega⟩
     have h1 := HB'.out
     rw [HE.out] at h1
     exact h1
    ·have hy0 : Big.nth L (k + 1) = 0 := Big.nth_ge L (k + 1) (by omega)
     rw [hy0, Nat.mul_zero, Nat.add_zero] at HR hw hdv HB' ez
     clear hy0 hor hT hyM
     generalize Big.nth L k = x at *
     generalize x / 2 ^ n = d at *
     generalize ZJ d = sv at *
     have HE := Lib.hid ez
     have HR' := Lib.hid HR
     clear hcc x3 hsr hsv hlow hdc HZ' HR ez hzl
     go_wp2_with fail
     refine ⟨⟨k + 1, zs ++ [sv], by omega, by go_num, HR', Lib.hid ?_, Lib.hid (HBel.out.setCell (Nat.le_refl _) _)⟩, by simp [intOf]; omega⟩
     have h1 := HB'.out
     rw [HE.out] at h1
     exact h1
   ·have hkl : k = L.length := by omega
    subst hkl
    have Z := HZ.out
    have hB := HB.out
    rw [show List.drop L.length (List.replicate L.length 0) = [] from List.drop_eq_nil_of_le (by simp), List.append_nil] at hB
    have h2 := Ym hB L.length (by omega) (by omega)
    rw [Z.1] at h2
    have HTR := Lib.hid (trim_any _ _ _ h2)
    clear hB h2 Z
    go_wp2_with fail
    refine HTR.out.mono ?_
    rintro e w' ⟨v', rfl, hv', rfl⟩
    have HV := Lib.hid hv'
    clear hv'
    go_wp2
    go_ret
    have Z := HZ.out
    refine ⟨v', rfl, ?_, HBel.out⟩
    have := Nin.strip HV.out Z.2.1
    rw [Z.2.2, List.drop_eq_nil_of_le (Nat.le_refl _)]
    simpa [Big.val] using this
 ·have t1 : ((q : Int) ≥ (l.length : Int)) := by omega
  have HL := Lib.hid hql
  clear h3
  go_enter Tryz.func145, Tryz.ntmps145
  go_wp2
  go_ret
  refine ⟨_, rfl, ?_, Below.refl _ _⟩
  rw [List.drop_eq_nil_of_le HL.out]
  simpa [Big.val] using Nin.nil_ w
end R
end Go.Proofs.YtnlhjcfpfapafaaGreatDoor
