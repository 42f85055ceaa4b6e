/- Contracts. -/
import Derived.Test.YtnlhjcfpfapafaaGreatDoorPOq19
import Derived.StillTailTactics
import Derived.Test.YtnlhjcfpfapafaaGreatDoorPOq08
import Derived.Test.YtnlhjcfpfapafaaGreatDoorPOq14
import Derived.Deep.RegionHeld3
import Derived.Laws.IdiomStrings
import Derived.Lib.ConvBytes
import Derived.Laws.AppendOwn
import Derived.Lib.AtoiErrMem
namespace Go.Proofs.YtnlhjcfpfapafaaGreatDoor
namespace R
open Go.RowKit
structure IntAt (w : World) (b o : Nat) (s : Bool) (n : Nat) : Prop where
 neg : w.cell? ⟨b, o, none⟩ = some (.bool s)
 size : ∃ u, w.cell? ⟨b, o + 1, none⟩ = some u ∧ Nin w u n
structure Room (w : World) (b o : Nat) : Prop where
 c0 : ∃ x, w.cell? ⟨b, o, none⟩ = some x
 c1 : ∃ x, w.cell? ⟨b, o + 1, none⟩ = some x
 f0 : w.frozen? ⟨b, o, none⟩ = false
 f1 : w.frozen? ⟨b, o + 1, none⟩ = false
theorem cell_lt {w : World} {b o : Nat} {x : Value} (h : w.cell? ⟨b, o, none⟩ = some x) : b < w.heap.size := by
 rcases Nat.lt_or_ge b w.heap.size with h1 | h1
 ·exact h1
 ·unfold World.cell? at h
  rw [Array.getElem?_eq_none h1] at h
  cases h
theorem IntAt.lt {w : World} {b o : Nat} {s : Bool} {n : Nat} (h : IntAt w b o s n) : b < w.heap.size := cell_lt h.neg
theorem Room.lt {w : World} {b o : Nat} (h : Room w b o) : b < w.heap.size := by obtain ⟨x, hx⟩ := h.c0; exact cell_lt hx
theorem Room.keep {w w' : World} {b o : Nat} (h : Room w b o) (hb : Below w.heap.size w w') : Room w' b o := by
 obtain ⟨x, hx⟩ := h.c0
 obtain ⟨y, hy⟩ := h.c1
 exact ⟨⟨x, (hb.cell (p := ⟨b, o, none⟩) h.lt).trans hx⟩, ⟨y, (hb.cell (p := ⟨b, o + 1, none⟩) h.lt).trans hy⟩, (hb.frozen (p := ⟨b, o, none⟩) h.lt).trans h.f0, (hb.frozen (p := ⟨b, o + 1, none⟩) h.lt).trans h.f1⟩
def Put (w : World) (b o : Nat) (s : Bool) (n : Nat) (e : Ending) (w' : World) : Prop :=
 e = .returned (.pointer (some ⟨b, o, none⟩)) ∧ ∃ w1 u, Below w.heap.size w w1 ∧ Nin w1 u n ∧ w' = (w1.setCell ⟨b, o, none⟩ (.bool s)).setCell ⟨b, o + 1, none⟩ u
set_option maxRecDepth 100000 in
theorem Ug (w : World) (b o n : Nat) (s : Bool) (v : Value) (hv : Nin w v n) (hr : Room w b o) :
  Calls Tryz.prog 109 #[.pointer (some ⟨b, o, none⟩), .bool s, v] w fun e w' =>
   e = .returned (.pointer (some ⟨b, o, none⟩)) ∧ (w.setCell ⟨b, o, none⟩ (.bool (s && decide (0 < n)))).setCell ⟨b, o + 1, none⟩ v = w' := by
 obtain ⟨l, hl, ol, nl, hn⟩ := hv
 obtain ⟨⟨x, hx⟩, ⟨y, hy⟩, f0, f1⟩ := hr
 obtain ⟨A, c, rfl, -, -, -⟩ := hl
 have hpos : decide (0 < n) = decide (((l.length : Nat) : Int) > 0) := by
  rw [decide_eq_decide]
  rcases Nat.eq_zero_or_pos l.length with h0 | h0
  ·obtain rfl := List.eq_nil_of_length_eq_zero h0
   simp [← hn, Big.val]
  ·have := Big.norm_pos M32_pos l nl (by intro e; subst e; simp at h0)
   omega
 have H := Lib.hid hpos
 have hy2 : ∀ z, (w.setCell ⟨b, o, none⟩ z).cell? ⟨b, o + 1, none⟩ = some y := fun z => (World.cell?_setCell_other _ _ _ _ (by intro e; injection e; omega)).trans hy
 clear hn ol nl hpos
 cases s with
 | false =>
  go_enter Tryz.func109, Tryz.ntmps109
  go_wp2
  go_ret
  exact ⟨rfl, by simp⟩
 | true =>
  go_enter Tryz.func109, Tryz.ntmps109
  go_wp2
  go_ret
  exact ⟨rfl, by rw [H.out]; simp⟩
end R
end Go.Proofs.YtnlhjcfpfapafaaGreatDoor
namespace Go.Proofs.YtnlhjcfpfapafaaGreatDoor
namespace R
open Go.RowKit
structure Sml (n : Nat) : Prop where
 lt : n < M32 ^ Big.KL
theorem YU {w : World} {v : Value} {n : Nat} (h : Nin w v n) (hn : Sml n) : ∃ l, Wd w .u32 v l ∧ Big.Ok M32 l ∧ Big.Norm l ∧ Big.val M32 l = n ∧ l.length ≤ 100000000 := by
 obtain ⟨l, h1, h2, h3, h4, h5⟩ := XQ h hn.lt
 exact ⟨l, h1, h2, h3, h4, by rwa [Big.KL_eq] at h5⟩
theorem mul_nat (w : World) (v u : Value) (a b : Nat) (h : Nin w v a) (k : Nin w u b) (ha : Sml a) (hb : Sml b) :
  Calls Tryz.prog 125 #[v, u] w fun e w' => ∃ v', e = .returned v' ∧ Nin w' v' (a * b) ∧ Below w.heap.size w w' := by
 obtain ⟨l, h1, h2, h3, rfl, h5⟩ := YU h ha
 obtain ⟨m, k1, k2, k3, rfl, k5⟩ := YU k hb
 exact ZaP w v u l m h1 k1 h2 k2 (by omega) (by omega)
theorem add_nat (w : World) (v u : Value) (a b : Nat) (h : Nin w v a) (k : Nin w u b) (ha : Sml a) (hb : Sml b) :
  Calls Tryz.prog 126 #[v, u] w fun e w' => ∃ v', e = .returned v' ∧ Nin w' v' (a + b) ∧ Below w.heap.size w w' := by
 obtain ⟨l, h1, h2, h3, rfl, h5⟩ := YU h ha
 obtain ⟨m, k1, k2, k3, rfl, k5⟩ := YU k hb
 exact ZaN w v u l m h1 k1 h2 k2 (by omega) (by omega)
theorem less_nat (w : World) (v u : Value) (a b : Nat) (h : Nin w v a) (k : Nin w u b) (ha : Sml a) (hb : b ≤ a) :
  Calls Tryz.prog 127 #[v, u] w fun e w' => ∃ v', e = .returned v' ∧ Nin w' v' (a - b) ∧ Below w.heap.size w w' := by
 obtain ⟨l, h1, h2, h3, rfl, h5⟩ := YU h ha
 obtain ⟨m, k1, k2, k3, rfl⟩ := k
 exact Uf w v u l m h1 k1 h2 k2 (by omega) hb (Big.length_le M32_pos k3 h2 hb)
theorem cmp_nat (w : World) (v u : Value) (a b : Nat) (h : Nin w v a) (k : Nin w u b) :
  Calls Tryz.prog 111 #[v, u] w fun e w' => e = .returned (.int .i64 (Big.cmpI a b)) ∧ Zv w w' := by
 obtain ⟨l, h1, h2, h3, rfl⟩ := h
 obtain ⟨m, k1, k2, k3, rfl⟩ := k
 exact cmp_any w v u l m h1 k1 h2 k2 h3 k3
theorem gcd_nat (w : World) (v u : Value) (a b : Nat) (h : Nin w v a) (k : Nin w u b) (ha : Sml a) (hb : Sml b) :
  Calls Tryz.prog 110 #[v, u] w fun e w' => ∃ v', e = .returned v' ∧ Nin w' v' (Nat.gcd a b) ∧ Below w.heap.size w w' := by
 obtain ⟨l, h1, h2, h3, rfl, h5⟩ := YU h ha
 obtain ⟨m, k1, k2, k3, rfl, k5⟩ := YU k hb
 exact gcdWords_any w v u l m h1 k1 h2 k2 h3 k3 (by omega) (by omega)
theorem ZeH (w : World) (v u : Value) (a b : Nat) (h : Nin w v a) (k : Nin w u b) (ha : Sml a) (hb : 0 < b) :
  Calls Tryz.prog 113 #[v, u] w (QR w a b) := by
 obtain ⟨l, h1, h2, h3, rfl, h5⟩ := YU h ha
 obtain ⟨m, k1, k2, k3, rfl⟩ := k
 exact Ww w v u l m h1 k1 h2 k2 h3 k3 (by intro e; subst e; simp [Big.val] at hb) (by omega)
def Zn6 (w : World) (b : Nat) (s : Bool) (m n : Nat) (e : Ending) (w' : World) : Prop :=
 e = .returned (.pointer (some ⟨b, 0, none⟩)) ∧ ∃ w1 u v, Below w.heap.size w w1 ∧ Nin w1 u m ∧ Nin w1 v n ∧
  w' = (((w1.setCell ⟨b, 0, none⟩ (.bool s)).setCell ⟨b, 1, none⟩ u).setCell ⟨b, 2, none⟩ (.bool false)).setCell ⟨b, 3, none⟩ v
theorem Zb6 {w : World} {b o : Nat} {p : Addr} {u : Value} (h : Room w b o) (h0 : p ≠ ⟨b, o, none⟩) (h1 : p ≠ ⟨b, o + 1, none⟩) : Room (w.setCell p u) b o := by
 obtain ⟨⟨x, hx⟩, ⟨y, hy⟩, f0, f1⟩ := h
 exact ⟨⟨x, (World.cell?_setCell_other _ _ _ _ h0).trans hx⟩, ⟨y, (World.cell?_setCell_other _ _ _ _ h1).trans hy⟩, by simpa using f0, by simpa using f1⟩
set_option maxRecDepth 100000 in
theorem nin_slice {w : World} {v : Value} {n : Nat} (h : Nin w v n) : ∃ (A : Option Addr) (k c : Nat), v = .slice A k c := by
 obtain ⟨l, ⟨A, c, e, -, -, -⟩, -⟩ := h
 exact ⟨A, _, c, e⟩
set_option maxRecDepth 100000 in
theorem KZ (w : World) (b o : Nat) (v : Value) (hv : ∃ (A : Option Addr) (k c : Nat), v = .slice A k c) (hr : Room w b o) :
  Calls Tryz.prog 109 #[.pointer (some ⟨b, o, none⟩), .bool false, v] w fun e w' =>
   e = .returned (.pointer (some ⟨b, o, none⟩)) ∧ (w.setCell ⟨b, o, none⟩ (.bool false)).setCell ⟨b, o + 1, none⟩ v = w' := by
 obtain ⟨A, k, c, rfl⟩ := hv
 obtain ⟨⟨x, hx⟩, ⟨y, hy⟩, f0, f1⟩ := hr
 have hy2 : ∀ z, (w.setCell ⟨b, o, none⟩ z).cell? ⟨b, o + 1, none⟩ = some y := fun z => (World.cell?_setCell_other _ _ _ _ (by intro e; injection e; omega)).trans hy
 go_enter Tryz.func109, Tryz.ntmps109
 go_wp2
 go_ret
 exact ⟨rfl, rfl⟩
theorem Zb7 {w : World} {b : Nat} {x u : Value} (h : Room w b 2) : Room ((w.setCell ⟨b, 0, none⟩ x).setCell ⟨b, 1, none⟩ u) b 2 :=
 Zb6 (Zb6 h (by intro e; injection e; omega) (by intro e; injection e; omega)) (by intro e; injection e; omega) (by intro e; injection e; omega)
theorem ZeI {w0 w1 w2 w3 : World} {b m n m' n' : Nat} {s s' : Bool} {u v : Value} (hb : Below w0.heap.size w0 w1) (hu : Nin w1 u m) (hv : Nin w1 v n) (e1 : m = m') (e2 : n = n') (e3 : s = s')
  (h1 : (w1.setCell ⟨b, 0, none⟩ (.bool s)).setCell ⟨b, 0 + 1, none⟩ u = w2) (h2 : (w2.setCell ⟨b, 2, none⟩ (.bool false)).setCell ⟨b, 2 + 1, none⟩ v = w3) : Zn6 w0 b s' m' n' (.returned (.pointer (some ⟨b, 0, none⟩))) w3 := by
 subst e1; subst e2; subst e3
 exact ⟨rfl, w1, u, v, hb, hu, hv, by rw [← h2, ← h1]⟩
structure SFr (w : World) (bz bx ox by_ oy m n : Nat) (s t : Bool) (u v : Value) : Prop where
 x0 : w.cell? ⟨bx, ox, none⟩ = some (.bool s)
 x1 : w.cell? ⟨bx, ox + 1, none⟩ = some u
 y0 : w.cell? ⟨by_, oy, none⟩ = some (.bool t)
 y1 : w.cell? ⟨by_, oy + 1, none⟩ = some v
 hu : Nin w u m
 hv : Nin w v n
 z0 : Room w bz 0
 z2 : Room w bz 2
theorem SFr.keep {w w' : World} {bz bx ox by_ oy m n : Nat} {s t : Bool} {u v : Value} (h : SFr w bz bx ox by_ oy m n s t u v) (hb : Below w.heap.size w w') : SFr w' bz bx ox by_ oy m n s t u v :=
 ⟨(hb.cell (p := ⟨bx, ox, none⟩) (cell_lt h.x0)).trans h.x0, (hb.cell (p := ⟨bx, ox + 1, none⟩) (cell_lt h.x1)).trans h.x1, (hb.cell (p := ⟨by_, oy, none⟩) (cell_lt h.y0)).trans h.y0, (hb.cell (p := ⟨by_, oy + 1, none⟩) (cell_lt h.y1)).trans h.y1,
   h.hu.keep hb, h.hv.keep hb, h.z0.keep hb, h.z2.keep hb⟩
theorem Uh (w : World) : Below w.heap.size w w.drew := Zu (Below.refl _ w) 1
set_option maxRecDepth 100000 in
set_option maxHeartbeats 400000 in
theorem setFrac_any (w : World) (bz bx ox by_ oy m n : Nat) (s t : Bool) (hz : Room w bz 0) (hz2 : Room w bz 2) (hx : IntAt w bx ox s m) (hy : IntAt w by_ oy t n) (hm : Sml m) (hn : Sml n) (hn0 : 0 < n) :
  Calls Tryz.prog 77 #[.pointer (some ⟨bz, 0, none⟩), .pointer (some ⟨bx, ox, none⟩), .pointer (some ⟨by_, oy, none⟩)] w
   (Zn6 w bz ((s != t) && decide (0 < m)) (m / Nat.gcd m n) (n / Nat.gcd m n)) := by
 obtain ⟨x0, u, x1, hu⟩ := hx
 obtain ⟨y0, v, y1, hv⟩ := hy
 have HF0 := Lib.hid (SFr.keep ⟨x0, x1, y0, y1, hu, hv, hz, hz2⟩ (Uh w))
 have HM := Lib.hid (gcd_nat w.drew u v m n (hu.keep (Uh w)) (hv.keep (Uh w)) hm hn)
 have HG0 := Lib.hid (Nat.gcd_pos_of_pos_right m hn0)
 have HGn := Lib.hid (And.intro (Nat.gcd_dvd_left m n) (And.intro (Nat.gcd_dvd_right m n) hn0))
 have HS := Lib.hid (And.intro hm hn)
 have HW := Lib.hid (Uh w)
 clear hu hv hm hn hz hz2 hn0 x0 y0
 generalize Nat.gcd m n = G at *
 go_enter Tryz.func77, Tryz.ntmps77
 go_wp2_with fail
 go_still_tail 8, (by kernel_rfl)
 change wpList _ _ _ _ _ w.drew
 generalize w.drew = wa at *
 clear x1 y1
 go_wp2_with fail
 refine HM.out.mono ?_
 rintro e w3 ⟨v3, rfl, ⟨lg, hg, og, ng, hgv⟩, hb3⟩
 have HF3 := Lib.hid (HF0.out.keep hb3)
 have HB3 := Lib.hid (HW.out.trans (hb3.mono HW.out.size))
 have HG3 := Lib.hid (And.intro hg (And.intro og (And.intro ng hgv)))
 obtain ⟨A, c, rfl, -, -, g3⟩ := hg
 clear hb3 og ng hgv HM HF0
 have q0 := HF3.out.x0
 have q1 := HF3.out.y0
 go_wp2_with fail
 go_quiet (fail)
 clear q0 q1
 have HF4 := Lib.hid (HF3.out.keep (Zu (Below.refl _ w3) nq))
 have HB4 := Lib.hid (Zu HB3.out nq)
 have HG4 := Lib.hid (HG3.out.1.keep (Zu (Below.refl _ w3) nq))
 have HG5 := Lib.hid HG3.out.2
 clear HF3 HB3 HG3 g3
 generalize w3.drewN nq = w4 at *
 have q0 := HF4.out.x1
 have q1 := HF4.out.y1
 go_wp2_with fail
 go_quiet (fail)
 clear q0 q1
 have HF5 := Lib.hid (HF4.out.keep (Zu (Below.refl _ w4) nq))
 have HB5 := Lib.hid (Zu HB4.out nq)
 have HG6 := Lib.hid (HG4.out.keep (Zu (Below.refl _ w4) nq))
 clear HF4 HB4 HG4
 generalize w4.drewN nq = w5 at *
 by_cases h1 : lg = [1]
 ·subst h1
  obtain ⟨A', c', e, -, -, g3⟩ := HG6.out
  cases e
  obtain ⟨b, o, rfl, hlt, hc, -⟩ := g3 (by simp)
  have hcell : w5.cell? ⟨b, o, none⟩ = some (.int .u32 1) := hc 0 (by simp)
  have HP := Lib.hid (Ug w5 bz 0 m (!(s == t)) u HF5.out.hu HF5.out.z0)
  have hG1 : G = 1 := by have := HG5.out.2.2; simp [Big.val] at this; omega
  have HE := Lib.hid hG1
  clear hc g3 hG1
  go_wp2_with fail
  refine HP.out.mono ?_
  rintro e w6 ⟨rfl, h6⟩
  have H6 := Lib.hid h6
  have HP2 := Lib.hid (KZ w6 bz 2 v (nin_slice HF5.out.hv) (by rw [← h6]; exact Zb7 HF5.out.z2))
  clear h6
  go_wp2_with fail
  refine HP2.out.mono ?_
  rintro e w7 ⟨rfl, h7⟩
  have H7 := Lib.hid h7
  clear h7
  go_wp2
  go_ret
  exact ZeI HB5.out HF5.out.hu HF5.out.hv (by rw [HE.out, Nat.div_one]) (by rw [HE.out, Nat.div_one]) (by cases s <;> cases t <;> rfl) H6.out H7.out
 ·have hl : lg.length ≠ 0 := by
   intro e
   have := HG5.out.2.2
   rw [List.eq_nil_of_length_eq_zero e] at this
   have := HG0.out
   simp [Big.val] at *
   omega
  have HD1 := Lib.hid (ZeH w5 u (.slice A lg.length c) m G HF5.out.hu ⟨lg, HG6.out, HG5.out⟩ HS.out.1 HG0.out)
  have HD2 := Lib.hid (fun W (hW : Below w5.heap.size w5 W) => ZeH W v (.slice A lg.length c) n G (HF5.out.hv.keep hW) ⟨lg, HG6.out.keep hW, HG5.out⟩ HS.out.2 HG0.out)
  have HLg := Lib.hid hl
  obtain ⟨A', c', e, -, -, g3⟩ := HG6.out
  injection e with e1 e2 e3
  subst e1; subst e3; clear e2
  obtain ⟨b, o, rfl, hlt, hc, -⟩ := g3 (by omega)
  have hcell : w5.cell? ⟨b, o, none⟩ = some (.int .u32 ((Big.nth lg 0 : Nat) : Int)) := hc 0 (by omega)
  have hone : ((lg.length : Int) > 1) ∨ (¬ ((lg.length : Int) > 1) ∧ (((Big.nth lg 0 : Nat) : Int) != 1) = true) := by
   by_cases h : (lg.length : Int) > 1
   ·exact .inl h
   ·refine .inr ⟨h, ?_⟩
    obtain ⟨y, rfl⟩ := List.length_eq_one_iff.1 (show lg.length = 1 by omega)
    rw [bne_iff_ne]
    intro e
    have e' : (y : Int) = 1 := e
    exact h1 (by rw [show y = 1 by omega])
  have HE := Lib.hid (And.intro HGn.out HG0.out)
  have hl0 : 0 < lg.length := by omega
  have hl1 : (0 : Int) < (lg.length : Int) := by omega
  clear hc g3 h1 hl HLg
  generalize Big.nth lg 0 = g0 at *
  rcases hone with t1 | ⟨t1, t2⟩
  all_goals
   go_wp2_with fail
   with_reducible refine HD1.out.mono ?_
   rintro e w6 ⟨q6, r6, rfl, hq6, -, hb6⟩
   have HQ6 := Lib.hid hq6
   have HB6 := Lib.hid hb6
   clear hq6 hb6
   go_wp2_with fail
   with_reducible refine (HD2.out w6 HB6.out).mono ?_
   rintro e w7 ⟨q7, r7, rfl, hq7, -, hb7⟩
   have HQ7 := Lib.hid hq7
   have HB7 := Lib.hid (HB6.out.trans (hb7.mono HB6.out.size))
   have HQ67 := Lib.hid (HQ6.out.keep hb7)
   have HF7 := Lib.hid (HF5.out.keep HB7.out)
   have HP := Lib.hid (Ug w7 bz 0 (m / G) (!(s == t)) q6 HQ67.out HF7.out.z0)
   clear hq7 hb7
   go_wp2_with fail
   with_reducible refine HP.out.mono ?_
   rintro e w8 ⟨rfl, h8⟩
   have H8 := Lib.hid h8
   have HP2 := Lib.hid (KZ w8 bz 2 q7 (nin_slice HQ7.out) (by rw [← h8]; exact Zb7 HF7.out.z2))
   clear h8
   go_wp2_with fail
   with_reducible refine HP2.out.mono ?_
   rintro e w9 ⟨rfl, h9⟩
   have H9 := Lib.hid h9
   clear h9
   go_wp2
   go_ret
   refine ZeI (HB5.out.trans (HB7.out.mono HB5.out.size)) HQ67.out HQ7.out rfl rfl ?_ H8.out H9.out
   have hd : decide (0 < m / G) = decide (0 < m) := by
    rw [decide_eq_decide]
    obtain ⟨⟨⟨k, hk⟩, -, -⟩, hG⟩ := HE.out
    rw [hk, Nat.mul_div_cancel_left _ hG]
    exact ⟨fun h => Nat.mul_pos hG h, fun h => Nat.pos_of_mul_pos_left h⟩
   rw [hd]
   cases s <;> cases t <;> rfl
end R
end Go.Proofs.YtnlhjcfpfapafaaGreatDoor
namespace Go.Proofs.YtnlhjcfpfapafaaGreatDoor
namespace R
open Go.RowKit
def w4 (T : List Nat) (j : Nat) : Nat := Big.nth T (4 * j) + 256 * Big.nth T (4 * j + 1) + 65536 * Big.nth T (4 * j + 2) + 16777216 * Big.nth T (4 * j + 3)
theorem ZfN (T : List Nat) : Big.val 256 (T.take 4) = Big.nth T 0 + 256 * Big.nth T 1 + 65536 * Big.nth T 2 + 16777216 * Big.nth T 3 := by
 rcases T with _ | ⟨a, _ | ⟨b, _ | ⟨c, _ | ⟨d, l⟩⟩⟩⟩ <;> simp [Big.val, Big.nth] <;> omega
theorem ZmI (T : List Nat) (j : Nat) : Big.val 256 ((T.drop (4 * j)).take 4) = w4 T j := by
 have e : ∀ i, Big.nth (T.drop (4 * j)) i = Big.nth T (4 * j + i) := fun i => by
  unfold Big.nth
  rw [List.getD_eq_getElem?_getD, List.getD_eq_getElem?_getD, List.getElem?_drop]
 rw [ZfN, e, e, e, e]
 rfl
theorem ZlW {T : List Nat} (h : Big.Ok 256 T) (j : Nat) : w4 T j < 4294967296 := by
 have a := h.nth (by omega) (4 * j)
 have b := h.nth (by omega) (4 * j + 1)
 have c := h.nth (by omega) (4 * j + 2)
 have d := h.nth (by omega) (4 * j + 3)
 unfold w4; omega
def hiB (R : List Nat) (k : Nat) : List Nat := List.replicate k 0 ++ R.drop k
theorem ZaR (R : List Nat) (k i : Nat) (hk : k ≤ R.length) : Big.nth (hiB R k) i = if i < k then 0 else Big.nth R i := by
 unfold hiB Big.nth
 rw [List.getD_eq_getElem?_getD, List.getD_eq_getElem?_getD, List.getElem?_append, List.length_replicate]
 split
 ·rw [List.getElem?_replicate]; split <;> rfl
 ·rw [List.getElem?_drop]; congr 2; omega
theorem ZhS {R : List Nat} (h : Big.Ok 256 R) (k : Nat) : Big.Ok 256 (hiB R k) := Big.Ok.append (fun d hd => by rw [List.eq_of_mem_replicate hd]; omega) (h.drop k)
theorem ZfO (R : List Nat) (q r : Nat) (hr : r < 4) (hk : 4 * q + r < R.length) :
  (∀ j, j ≠ q → w4 (hiB R (4 * q + r)) j = w4 (hiB R (4 * q + r + 1)) j) ∧ w4 (hiB R (4 * q + r)) q = w4 (hiB R (4 * q + r + 1)) q + 256 ^ r * Big.nth R (4 * q + r) ∧
   w4 (hiB R (4 * q + r + 1)) q % 2 ^ (8 * (r + 1)) = 0 := by
 have e1 := fun i => ZaR R (4 * q + r) i (by omega)
 have e2 := fun i => ZaR R (4 * q + r + 1) i (by omega)
 refine ⟨fun j hj => ?_, ?_, ?_⟩
 ·unfold w4
  simp only [e1, e2]
  have : ∀ i, i ≠ 4 * q + r → (if i < 4 * q + r then 0 else Big.nth R i) = (if i < 4 * q + r + 1 then 0 else Big.nth R i) := fun i hi => by
   by_cases h : i < 4 * q + r
   ·rw [if_pos h, if_pos (by omega)]
   ·rw [if_neg h, if_neg (by omega)]
  rw [this _ (by omega), this _ (by omega), this _ (by omega), this _ (by omega)]
 ·unfold w4
  simp only [e1, e2]
  match r, hr with
  | 0, _ => rw [if_neg (by omega), if_neg (by omega), if_neg (by omega), if_neg (by omega), if_pos (by omega), if_neg (by omega), if_neg (by omega), if_neg (by omega)]; simp <;> omega
  | 1, _ => rw [if_pos (by omega), if_neg (by omega), if_neg (by omega), if_neg (by omega), if_pos (by omega), if_pos (by omega), if_neg (by omega), if_neg (by omega)]; simp <;> omega
  | 2, _ => rw [if_pos (by omega), if_pos (by omega), if_neg (by omega), if_neg (by omega), if_pos (by omega), if_pos (by omega), if_pos (by omega), if_neg (by omega)]; simp <;> omega
  | 3, _ => rw [if_pos (by omega), if_pos (by omega), if_pos (by omega), if_neg (by omega), if_pos (by omega), if_pos (by omega), if_pos (by omega), if_pos (by omega)]
 ·unfold w4
  simp only [e2]
  match r, hr with
  | 0, _ => rw [if_pos (by omega), if_neg (by omega), if_neg (by omega), if_neg (by omega)]; omega
  | 1, _ => rw [if_pos (by omega), if_pos (by omega), if_neg (by omega), if_neg (by omega)]; omega
  | 2, _ => rw [if_pos (by omega), if_pos (by omega), if_pos (by omega), if_neg (by omega)]; omega
  | 3, _ => rw [if_pos (by omega), if_pos (by omega), if_pos (by omega), if_pos (by omega)]
def Bt (w : World) (v : Value) (l : List UInt8) : Prop :=
 ∃ A c, v = .slice A l.length c ∧ l.length ≤ c ∧
  (0 < l.length → ∃ b o, A = some ⟨b, o, none⟩ ∧ b < w.heap.size ∧ (∀ i, (h : i < l.length) → w.cell? ⟨b, o + i, none⟩ = some (.int .u8 ((l[i].toNat : Nat) : Int))) ∧ ∃ cs z, w.heap[b]? = some (.cells cs 5 z))
theorem Zkk (x b r : Nat) (hr : r < 4) (hx : x < 4294967296) (h0 : x % 2 ^ (8 * (r + 1)) = 0) (hb : b < 256) : bits .or .u32 ((x : Nat) : Int) ((b * 256 ^ r : Nat) : Int) = ((x + 256 ^ r * b : Nat) : Int) ∧ b * 256 ^ r < 4294967296 := by
 have h12 : b * 256 ^ r < 2 ^ (8 * (r + 1)) ∧ b * 256 ^ r < 4294967296 := by
  have c : r = 0 ∨ r = 1 ∨ r = 2 ∨ r = 3 := by omega
  rcases c with rfl | rfl | rfl | rfl
  ·rw [show (256 : Nat) ^ 0 = 1 from rfl, show (2 : Nat) ^ (8 * (0 + 1)) = 256 from rfl]; omega
  ·rw [show (256 : Nat) ^ 1 = 256 from rfl, show (2 : Nat) ^ (8 * (1 + 1)) = 65536 from rfl]; omega
  ·rw [show (256 : Nat) ^ 2 = 65536 from rfl, show (2 : Nat) ^ (8 * (2 + 1)) = 16777216 from rfl]; omega
  ·rw [show (256 : Nat) ^ 3 = 16777216 from rfl, show (2 : Nat) ^ (8 * (3 + 1)) = 4294967296 from rfl]; omega
 obtain ⟨h1, h2⟩ := h12
 refine ⟨?_, h2⟩
 rw [u32_or_nat _ _ hx h2, nat_join (8 * (r + 1)) _ _ h0 h1, Nat.mul_comm]
set_option maxRecDepth 100000 in
set_option maxHeartbeats 400000 in
theorem ZaS (w : World) (bz oz : Nat) (v : Value) (l : List UInt8) (h : Bt w v l) (hz : Room w bz oz) (hl : l.length ≤ 1000000000) :
  Calls Tryz.prog 108 #[.pointer (some ⟨bz, oz, none⟩), v] w (Put w bz oz false (Big.bnum l)) := by
 have HT := Lib.hid h
 have HZ := Lib.hid hz
 have HR := Lib.hid (And.intro (Big.rev_length l) (Big.rev_ok l))
 obtain ⟨A, c, rfl, -, -⟩ := h
 obtain ⟨K, hK⟩ : ∃ K, (l.length + 3) / 4 = K := ⟨_, rfl⟩
 have eK : ((l.length : Int) + 3) / 4 = (K : Int) := by omega
 have hK1 : K ≤ 1000000000 := by omega
 have HK := Lib.hid hK
 have hmk := fun W => XD K (by omega) W
 have HB0 := Lib.hid (Blk.new w 148 .u32 (List.replicate K 0))
 have HBel0 := Lib.hid ((Below.refl w.heap.size w).alloc (Nat.le_refl _) (.cells (cellsOf .u32 (List.replicate K 0)) 148))
 clear hz hK
 go_enter Tryz.func108, Tryz.ntmps108
 go_wp2_with fail
 clear hmk
 simp only [eK]
 go_loopw [6] (fun i wr => ∃ (k I : Nat) (X : List Nat), I + k = l.length ∧ i = .int .i64 (I : Int) ∧
   Hid (X.length = K ∧ ∀ j, j < K → Big.nth X j = w4 (hiB (Big.rev l) k) j) ∧ Hid (Blk wr w.heap.size 148 .u32 X) ∧ Hid (Below w.heap.size w wr))
  (fun i _ => l.length - (intOf i).toNat)
 case atStart =>
  refine ⟨l.length, 0, _, by omega, rfl, Lib.hid ⟨by simp, fun j hj => ?_⟩, HB0, HBel0⟩
  have e : ∀ i, Big.nth (hiB (Big.rev l) l.length) i = 0 := fun i => by
   rw [ZaR _ _ _ (by rw [HR.out.1]; exact Nat.le_refl _)]
   split
   ·rfl
   ·exact Big.nth_ge _ _ (by rw [HR.out.1]; omega)
  unfold w4
  rw [e, e, e, e]
  exact Big.nth_replicate _ _
 case round =>
  obtain ⟨k, I, X, hIk, rfl, HX, HB, HBel⟩ := hrel
  rcases Nat.eq_zero_or_pos k with h0 | h0
  ·subst h0
   have hB := HB.out
   have h2 := Ym hB K (by rw [HX.out.1]; exact Nat.le_refl _) (by omega)
   rw [HX.out.1] at h2
   have hI : I = l.length := by omega
   subst hI
   have HTR := Lib.hid (trim_any _ _ _ h2)
   have hreg : Big.val M32 X = Big.bnum l := by
    refine Big.regroup (b := 256) (k := 4) (by unfold M32; decide) X (Big.rev l) (by rw [HR.out.1, HX.out.1]; have := HK.out; omega) fun j hj => ?_
    rw [HX.out.2 j (by rw [← HX.out.1]; exact hj), ZmI]
    rfl
   have hoX : Big.Ok M32 X := by
    intro d hd
    obtain ⟨j, hj, rfl⟩ := List.getElem_of_mem hd
    have e := HX.out.2 j (by rw [← HX.out.1]; exact hj)
    unfold Big.nth at e
    rw [List.getD_eq_getElem?_getD, List.getElem?_eq_getElem hj] at e
    have := ZlW (ZhS HR.out.2 0) j
    rw [Zk]
    simp at e
    omega
   have HE := Lib.hid (And.intro hreg hoX)
   clear hB h2 hIk hreg hoX
   go_wp2_with fail
   with_reducible refine HTR.out.mono ?_
   rintro e w' ⟨v', rfl, hv', rfl⟩
   have HN := Lib.hid (Nin.strip hv' HE.out.2)
   have HP := Lib.hid (Ug wr bz oz _ false v' HN.out (HZ.out.keep HBel.out))
   clear hv'
   go_wp2_with fail
   with_reducible refine HP.out.mono ?_
   rintro e w2 ⟨rfl, h2⟩
   have H2 := Lib.hid h2
   clear h2
   go_wp2
   go_ret
   exact ⟨rfl, wr, v', HBel.out, by rw [← HE.out.1]; exact HN.out, H2.out.symm⟩
  ·obtain ⟨k', rfl⟩ : ∃ k', k = k' + 1 := ⟨k - 1, by omega⟩
   obtain ⟨q, r, hqr, hr⟩ : ∃ q r, k' = 4 * q + r ∧ r < 4 := ⟨k' / 4, k' % 4, by omega, by omega⟩
   have hkl : k' < l.length := by omega
   obtain ⟨M1, M2, M3⟩ := ZfO (Big.rev l) q r hr (by rw [HR.out.1]; omega)
   have hqK : q < K := by have := HK.out; omega
   obtain ⟨A', c', e, t1, t3⟩ := HT.out
   cases e
   obtain ⟨b, o, rfl, hblt, hcc, -⟩ := t3 (by omega)
   have hIl : I < l.length := by omega
   have hcell := (HBel.out.cell (p := ⟨b, o + I, none⟩) hblt).trans (hcc I hIl)
   have hbyte : Big.nth (Big.rev l) (4 * q + r) = l[I].toNat := by
    rw [Big.rev_nth l (4 * q + r) (by omega)]
    congr 2
    omega
   rw [hbyte] at M2
   have hb256 := (l[I]).toNat_lt
   have hst := HB.out.cell q (by rw [HX.out.1]; exact hqK)
   rw [HX.out.2 q hqK] at hst
   rw [← hqr] at M1 M2 M3
   have hxM := ZlW (ZhS HR.out.2 (k' + 1)) q
   have hfr := HB.out.frozen q
   obtain ⟨ho, hsm⟩ := Zkk _ (l[I].toNat) r hr hxM M3 hb256
   rw [← M2] at ho
   have e7 : (l.length : Int) - 1 - (I : Int) = (k' : Int) := by omega
   have e8 : (k' : Int) / 4 = (q : Int) := by omega
   have e9 : (k' : Int) % 4 = (r : Int) := by omega
   have e8t : Int.tdiv (k' : Int) 4 = (q : Int) := by rw [Int.tdiv_eq_ediv_of_nonneg (by omega)]; exact e8
   have e9t : Int.tmod (k' : Int) 4 = (r : Int) := by rw [Int.tmod_eq_emod_of_nonneg (by omega)]; exact e9
   have u8 : IntKind.i64.wrap (q : Int) = (q : Int) := IntWalk.i64_in _ (by omega)
   have u9 : IntKind.i64.wrap (r : Int) = (r : Int) := IntWalk.i64_in _ (by omega)
   have u10 : IntKind.u64.wrap (r : Int) = (r : Int) := w64 r (by omega)
   have u11 : IntKind.u64.wrap (8 * (r : Int)) = 8 * (r : Int) := by rw [IntKind.wrap_u64]; omega
   have HXX := Lib.hid (show (X.set q (w4 (hiB (Big.rev l) k') q)).length = K ∧ ∀ j, j < K → Big.nth (X.set q (w4 (hiB (Big.rev l) k') q)) j = w4 (hiB (Big.rev l) k') j from ⟨by simp [HX.out.1], fun j hj => by
    rw [Big.nth_set]
    by_cases h : q = j
    ·subst h; rw [if_pos ⟨rfl, by rw [HX.out.1]; exact hj⟩]
    ·rw [if_neg (fun h2 => h h2.1), HX.out.2 j hj, M1 j (fun e => h e.symm)]⟩)
   generalize l[I].toNat = B at *
   generalize w4 (hiB (Big.rev l) (k' + 1)) q = x at *
   generalize w4 (hiB (Big.rev l) k') q = x' at *
   have HMK := Lib.hid hqr
   have wsh : IntKind.u32.wrap ((B : Int) * 2 ^ (8 * (r : Int)).toNat) = ((B * 256 ^ r : Nat) : Int) := by
    rw [show (8 * (r : Int)).toNat = 8 * r by omega, show ((2 : Int) ^ (8 * r)) = ((2 ^ (8 * r) : Nat) : Int) by rw [Int.natCast_pow]; rfl, ← Int.natCast_mul, show (2 : Nat) ^ (8 * r) = 256 ^ r by rw [Nat.pow_mul], IntKind.wrap_u32]
    omega
   obtain ⟨y, hy⟩ : ∃ y, B * 256 ^ r = y := ⟨_, rfl⟩
   rw [hy] at wsh ho
   have u12 : IntKind.u32.wrap (B : Int) = (B : Int) := by rw [IntKind.wrap_u32]; omega
   have qK0 : (q : Int) < (K : Int) := by omega
   have Il0 : (I : Int) < (l.length : Int) := by omega
   clear hcc t3 M1 M2 M3 hqr hbyte hy hsm
   go_wp2_with fail
   go_still_tail 20, (by kernel_rfl)
   change wpList _ _ _ _ _ wr.drew
   clear e8t e9t u8 u9 u10 u11 u12 wsh ho e8 e9
   go_wp2_with fail
   go_roundw
   case rel =>
    refine ⟨k', I + 1, _, by omega, by go_num, HXX, Lib.hid ((HB.out.drewN 1).set q x'), Lib.hid ((Zu HBel.out 1).setCell (p := ⟨w.heap.size, q, none⟩) (Nat.le_refl _) _)⟩
   case measure => simp [intOf]; omega
end R
end Go.Proofs.YtnlhjcfpfapafaaGreatDoor
namespace Go.Proofs.YtnlhjcfpfapafaaGreatDoor
open Go.RowKit
def sgQ (q : Rat) : Int := if Big.ng q = true then -1 else if Big.nu q = 0 then 0 else 1
theorem VN (w : World) (o : Obj) : Below w.heap.size w (w.alloc o) := YN (Below.refl _ _) (Nat.le_refl _) o
theorem Zdw (w : World) (vx : Value) (q : Rat) (hx : YR w vx q) :
  Calls Tryz.prog 86 #[vx] w fun e w' => e = .returned (.int .i64 (sgQ q)) ∧ Below w.heap.size w w' := by
 obtain ⟨A, l, c, A2, l2, c2, rfl, hx1, hx2⟩ := hx.is_agg
 have HX := Lib.hid (And.intro hx1 hx2)
 have HB := Lib.hid (VN w (.cells #[.bool (Big.ng q), .slice A l c, .slice A2 l2 c2] 60))
 have hl := hx1.len_zero
 have HS := Lib.hid (show sgQ q = if Big.ng q = true then -1 else if l = 0 then 0 else 1 by unfold sgQ; simp only [hl])
 clear hx hx1 hx2 hl HX
 generalize sgQ q = z at *
 generalize Big.ng q = nq at *
 cases nq
 ·rcases Nat.eq_zero_or_pos l with hl0 | hl0
  ·subst hl0
   go_enter Tryz.func86, Tryz.ntmps86
   go_wp2_with fail
   go_ret
   exact ⟨XN HS.out.symm, HB.out⟩
  ·have t : ((l : Int) == 0) = false := beq_eq_false_iff_ne.2 (by omega)
   rw [if_neg (by simp), if_neg (by omega)] at HS
   go_enter Tryz.func86, Tryz.ntmps86
   go_wp2_with fail
   go_ret
   exact ⟨XN HS.out.symm, HB.out⟩
 ·go_enter Tryz.func86, Tryz.ntmps86
  go_wp2_with fail
  go_ret
  exact ⟨XN HS.out.symm, HB.out⟩
theorem sizeT {P : Program} {f : FuncId} {args : Array Value} {b W : World} {v : Value} (h : Below b.heap.size b W) (c : Calls P f args W fun e w' => e = .returned v ∧ W = w') :
  Calls P f args W fun e w' => e = .returned v ∧ Below b.heap.size b w' :=
 c.mono fun _ _ ⟨h1, h2⟩ => ⟨h1, h2 ▸ h⟩
set_option maxRecDepth 100000 in
set_option maxHeartbeats 4000000 in
theorem JL (w : World) (vx : Value) (q : Rat) (k : Nat) (hx : YR w vx q) (sx : Sm k q) (hk : k ≤ 10000000) :
  Calls Tryz.prog 114 #[vx] w fun e w' => e = .returned (.int .i64 ((max (szN (Big.nu q)) (szN (Big.de q)) : Nat) : Int)) ∧ Below w.heap.size w w' := by
 obtain ⟨A, l, c, A2, l2, c2, rfl, hx1, hx2⟩ := hx.is_agg
 have HX := Lib.hid (And.intro hx1 hx2)
 have SX := Lib.hid sx
 have HB0 := Lib.hid (VN w (.cells #[.bool (Big.ng q), .slice A l c, .slice A2 l2 c2] 60))
 have HX0 := Lib.hid (At3.new w 60 (.bool (Big.ng q)) (.slice A l c) (.slice A2 l2 c2))
 clear hx hx1 hx2 sx
 generalize Big.ng q = nq at *
 go_enter Tryz.func114, Tryz.ntmps114
 go_wp2_with fail
 generalize w.alloc (.cells #[.bool nq, .slice A l c, .slice A2 l2 c2] 60) = w0 at *
 have KX := Lib.hid (fun W (h : Below w0.heap.size w0 W) => And.intro (HX0.out.keep h).c1 (HX0.out.keep h).c2)
 have C1 := Lib.hid (fun W (h : Below w0.heap.size w0 W) => sizeT h (Jw W _ _ k ((HX.out.1.keep HB0.out).keep h) SX.out.nu (by omega)))
 have C2 := Lib.hid (fun W (h : Below w0.heap.size w0 W) => sizeT h (Jw W _ _ k ((HX.out.2.keep HB0.out).keep h) SX.out.de (by omega)))
 go_region_held3 (fun w' => w'.cell? ⟨w.heap.size, 1, none⟩ = some (.slice A l c) ∧ w'.cell? ⟨w.heap.size, 2, none⟩ = some (.slice A2 l2 c2))
  (exact KX.out _ (by first | assumption | exact Below.refl _ _ | exact ZT (Below.refl _ _) | exact ZT (by assumption)))
  (first
   | (go_at_call 146; (with_reducible refine (C1.out _ (by first | assumption | exact Below.refl _ _ | exact ZT (Below.refl _ _) | exact ZT (by assumption))).mono ?_); rintro e w2 ⟨rfl, hw2⟩)
   | (go_at_call 146; (with_reducible refine (C2.out _ (by first | assumption | exact Below.refl _ _ | exact ZT (Below.refl _ _) | exact ZT (by assumption))).mono ?_); rintro e w3 ⟨rfl, hw3⟩)
   | fail)
 have HB3 := Lib.hid (HB0.out.trans (hw3.mono HB0.out.size))
 go_wp2_with fail
 go_ret
 refine ⟨?_, HB3.out⟩
 apply XN
 generalize szN (Big.nu q) = s1; generalize szN (Big.de q) = s2; omega
def ZlX (w : World) (v : Value) (b : Bool) (e : Ending) (w' : World) : Prop := e = .returned (.tuple #[v, .bool b]) ∧ Below w.heap.size w w'
def Zn7 : Value := .agg #[.bool false, .string ⟨#[]⟩, .string ⟨#[]⟩]
theorem ZhT {P : Program} {f : FuncId} {args : Array Value} {b W : World} {v : Value} (h : Below b.heap.size b W) (c : Calls P f args W fun e w' => e = .returned v ∧ Below W.heap.size W w') :
  Calls P f args W fun e w' => e = .returned v ∧ Below b.heap.size b w' :=
 c.mono fun _ _ ⟨h1, h2⟩ => ⟨h1, h.trans (h2.mono h.size)⟩
set_option maxRecDepth 100000 in
set_option maxHeartbeats 4000000 in
theorem JM (w : World) (vx : Value) (q : Rat) (k : Nat) (hx : YR w vx q) (sx : Sm k q) (hk : k ≤ 10000000) (hf : Fit q) :
  Calls Tryz.prog 80 #[vx] w (ZlX w (Jv q) true) := by
 have e1 : szN (Big.nu q) ≤ 512 := hf.nu
 have e2 : szN (Big.de q) ≤ 512 := hf.de
 have HF := Lib.hid (show Jv q = .agg #[.bool (Big.ng q), .string (bst (Big.nu q)), .string (bst (Big.de q))] from rfl)
 clear hf
 generalize Jv q = fv at *
 have SX := Lib.hid sx
 obtain ⟨A, l, c, A2, l2, c2, rfl, hx1, hx2⟩ := hx.is_agg
 have HX := Lib.hid (And.intro hx1 hx2)
 have HQ := Lib.hid hx
 obtain ⟨X0, R0, B0⟩ := Zdk w 60 31 (.bool (Big.ng q)) (.slice A l c) (.slice A2 l2 c2) (.bool false) (.string ⟨#[]⟩) (.string ⟨#[]⟩)
 have HX0 := Lib.hid X0; have HR0 := Lib.hid R0; have HB0 := Lib.hid B0
 clear hx hx1 hx2 sx X0 R0 B0
 generalize Big.ng q = nq at *
 go_enter Tryz.func80, Tryz.ntmps80
 go_wp2_with fail
 generalize (w.alloc (.cells #[.bool nq, .slice A l c, .slice A2 l2 c2] 60)).alloc (.cells #[.bool false, .string ⟨#[]⟩, .string ⟨#[]⟩] 31) = w0 at *
 have CS := Lib.hid (JL w0 _ q k (HQ.out.keep HB0.out) SX.out hk)
 have hm : ¬ (max (szN (Big.nu q)) (szN (Big.de q)) : Nat) > 512 := by omega
 generalize max (szN (Big.nu q)) (szN (Big.de q)) = mx at *
 have hm' : ¬ ((mx : Int) > 512) := by omega
 clear hm e1 e2
 refine CS.out.mono ?_
 rintro e w1 ⟨rfl, hw1⟩
 have HB1 := Lib.hid (HB0.out.trans (hw1.mono HB0.out.size))
 have HX1 := Lib.hid (HX0.out.keep hw1); have HR1 := Lib.hid (HR0.out.keep hw1)
 clear hw1 HX0 HR0 CS
 have KX := Lib.hid (fun W (h : Below w1.heap.size w1 W) => And.intro (HX1.out.keep h).c0 (And.intro (HX1.out.keep h).c1 (HX1.out.keep h).c2))
 have KP := Lib.hid (fun W x y z (h : Below w1.heap.size w1 W) => And.intro (Jz (KX.out W h).1 (show w.heap.size ≠ w.heap.size + 1 by omega) x y z) (And.intro (Jz (KX.out W h).2.1 (show w.heap.size ≠ w.heap.size + 1 by omega) x y z) (Jz (KX.out W h).2.2 (show w.heap.size ≠ w.heap.size + 1 by omega) x y z)))
 have C1 := Lib.hid (fun W (h : Below w1.heap.size w1 W) => ZhT h (UW W _ _ k ((HX.out.1.keep HB1.out).keep h) SX.out.nu (by omega)))
 have C2 := Lib.hid (fun W (h : Below w1.heap.size w1 W) => ZhT h (UW W _ _ k ((HX.out.2.keep HB1.out).keep h) SX.out.de (by omega)))
 have RES := Lib.hid (fun W (h : Below w1.heap.size w1 W) => HR1.out.keep h)
 go_wp2_with fail
 go_region_held3 (fun w' => w'.cell? ⟨w.heap.size, 0, none⟩ = some (.bool nq) ∧ w'.cell? ⟨w.heap.size, 1, none⟩ = some (.slice A l c) ∧ w'.cell? ⟨w.heap.size, 2, none⟩ = some (.slice A2 l2 c2))
  (first | exact KX.out _ (by first | assumption | exact Below.refl _ _ | exact ZT (Below.refl _ _) | exact ZT (by assumption)) | exact KP.out _ _ _ _ (by assumption))
  (first
   | (go_at_call 115; (with_reducible refine (C1.out _ (by first | assumption | exact Below.refl _ _ | exact ZT (Below.refl _ _) | exact ZT (by assumption))).mono ?_); rintro e w2 ⟨rfl, hw2⟩)
   | (go_at_call 115; (with_reducible refine (C2.out _ (by first | assumption | exact Below.refl _ _ | exact ZT (Below.refl _ _) | exact ZT (by assumption))).mono ?_); rintro e w3 ⟨rfl, hw3⟩; have RR := RES.out _ hw3; have k0 := RR.c0; have k1 := RR.c1; have k2 := RR.c2; have f0 := RR.frozen 0; have f1 := RR.frozen 1; have f2 := RR.frozen 2)
   | fail)
 have D1 := At3.put RR (.bool nq) (.string (bst (Big.nu q))) (.string (bst (Big.de q)))
 have D3 := X8 (HB1.out.trans (hw3.mono HB1.out.size)) (show w.heap.size ≤ w.heap.size + 1 by omega) (.bool nq) (.string (bst (Big.nu q))) (.string (bst (Big.de q)))
 have HD1 := Lib.hid D1; have HD3 := Lib.hid D3
 clear D1 D3 k0 k1 k2 f0 f1 f2 RR
 generalize (((w3.setCell ⟨w.heap.size + 1, 0, none⟩ (.bool nq)).setCell ⟨w.heap.size + 1, 1, none⟩ (.string (bst (Big.nu q)))).setCell ⟨w.heap.size + 1, 2, none⟩ (.string (bst (Big.de q)))) = wz at HD1 HD3 ⊢
 have r0 := HD1.out.c0; have r1 := HD1.out.c1; have r2 := HD1.out.c2
 go_wp2_with fail
 exact bodyPost_ret (v := .tuple #[.agg #[.bool nq, .string (bst (Big.nu q)), .string (bst (Big.de q))], .bool true]) (by simp [results, Tryz.results80, go_sem, r0, r1, r2]) rfl ⟨by rw [HF.out], HD3.out⟩
set_option maxRecDepth 100000 in
set_option maxHeartbeats 4000000 in
theorem Zb8 (w : World) (vx : Value) (q : Rat) (k : Nat) (hx : YR w vx q) (sx : Sm k q) (hk : k ≤ 10000000) (hf : ¬ Fit q) :
  Calls Tryz.prog 80 #[vx] w (ZlX w Zn7 false) := by
 have e1 : ¬ (szN (Big.nu q) ≤ 512 ∧ szN (Big.de q) ≤ 512) := fun h => hf ⟨h.1, h.2⟩
 clear hf
 have SX := Lib.hid sx
 obtain ⟨A, l, c, A2, l2, c2, rfl, hx1, hx2⟩ := hx.is_agg
 have HX := Lib.hid (And.intro hx1 hx2)
 have HQ := Lib.hid hx
 obtain ⟨X0, R0, B0⟩ := Zdk w 60 31 (.bool (Big.ng q)) (.slice A l c) (.slice A2 l2 c2) (.bool false) (.string ⟨#[]⟩) (.string ⟨#[]⟩)
 have HX0 := Lib.hid X0; have HR0 := Lib.hid R0; have HB0 := Lib.hid B0
 clear hx hx1 hx2 sx X0 R0 B0
 generalize Big.ng q = nq at *
 go_enter Tryz.func80, Tryz.ntmps80
 go_wp2_with fail
 generalize (w.alloc (.cells #[.bool nq, .slice A l c, .slice A2 l2 c2] 60)).alloc (.cells #[.bool false, .string ⟨#[]⟩, .string ⟨#[]⟩] 31) = w0 at *
 have CS := Lib.hid (JL w0 _ q k (HQ.out.keep HB0.out) SX.out hk)
 have hm : (max (szN (Big.nu q)) (szN (Big.de q)) : Nat) > 512 := by omega
 generalize max (szN (Big.nu q)) (szN (Big.de q)) = mx at *
 have hm' : ((mx : Int) > 512) := by omega
 clear hm e1
 refine CS.out.mono ?_
 rintro e w1 ⟨rfl, hw1⟩
 have HB1 := Lib.hid (HB0.out.trans (hw1.mono HB0.out.size))
 have RR := HR0.out.keep hw1
 have k0 := RR.c0; have k1 := RR.c1; have k2 := RR.c2; have f0 := RR.frozen 0; have f1 := RR.frozen 1; have f2 := RR.frozen 2
 have HD1 := Lib.hid (At3.put RR (.bool false) (.string ⟨#[]⟩) (.string ⟨#[]⟩))
 have HD3 := Lib.hid (X8 HB1.out (show w.heap.size ≤ w.heap.size + 1 by omega) (.bool false) (.string ⟨#[]⟩) (.string ⟨#[]⟩))
 clear hw1 HX0 HR0 CS RR
 go_wp2_with fail
 generalize (((w1.setCell ⟨w.heap.size + 1, 0, none⟩ (.bool false)).setCell ⟨w.heap.size + 1, 1, none⟩ (.string ⟨#[]⟩)).setCell ⟨w.heap.size + 1, 2, none⟩ (.string ⟨#[]⟩)) = wz at HD1 HD3 ⊢
 clear k0 k1 k2 f0 f1 f2
 have r0 := HD1.out.c0; have r1 := HD1.out.c1; have r2 := HD1.out.c2
 exact bodyPost_ret (v := .tuple #[.agg #[.bool false, .string ⟨#[]⟩, .string ⟨#[]⟩], .bool false]) (by simp [results, Tryz.results80, go_sem, r0, r1, r2]) rfl ⟨rfl, HD3.out⟩
def ZmJ (s : ByteArray) : Bool := decide (s.size ≤ 512) && !(s.data.toList.head? == some 0)
theorem JN {s : ByteArray} (h : s.size = 0) : s = ⟨#[]⟩ := by
 have h2 : s.data = #[] := Array.eq_empty_of_size_eq_zero h
 cases s; simp at h2; rw [h2]
theorem Xb (s : ByteArray) : s.data.toList.length = s.size := by
 show s.data.toList.length = s.data.size; simp
theorem Zb9 {s : ByteArray} (h : 0 < s.size) : s.data.toList.head? = some s[0] := by
 have hl : 0 < s.data.toList.length := by rw [Xb]; exact h
 rw [List.head?_eq_getElem?, List.getElem?_eq_getElem hl]; rfl
end Go.Proofs.YtnlhjcfpfapafaaGreatDoor
namespace Go.Proofs.YtnlhjcfpfapafaaGreatDoor
namespace R
open Go.RowKit
theorem nin_stable {n : Nat} {w w' : World} {v : Value} (h : Nin w v n) (hk : ∀ (b : Nat) (c : Array Value) (t : TypeId) (z : Nat × Nat), w.heap[b]? = some (.cells c t z) → Nat.beq t 148 = true → w'.heap[b]? = some (.cells c t z)) : Nin w' v n := by
 obtain ⟨l, ⟨A, c, e, h1, h2, h3⟩, ol, nl, hv⟩ := h
 refine ⟨l, ⟨A, c, e, h1, h2, fun hp => ?_⟩, ol, nl, hv⟩
 obtain ⟨b, o, ea, hlt, hc, cs, hcs⟩ := h3 hp
 have hcs' := hk b cs _ _ hcs (Nat.beq_refl _)
 refine ⟨b, o, ea, (Array.getElem?_eq_some_iff.1 hcs').1, fun i hi => ?_, cs, hcs'⟩
 rw [← hc i hi]
 exact World.cell?_of_block (hcs'.trans hcs.symm)
theorem ZeJ {w : World} {v x : Value} {n g o : Nat} {c : Array Value} {t : TypeId} {z : Nat × Nat} (h : Nin w v n) (hg : w.heap[g]? = some (.cells c t z)) (ht : Nat.beq t 148 = false) : Nin (w.setCell ⟨g, o, none⟩ x) v n :=
 nin_stable h fun b c' t' z' hb ht' => by
  have hne : g ≠ b := fun e => by
   subst e
   rw [hg] at hb
   simp only [Option.some.injEq, Obj.cells.injEq] at hb
   rw [← hb.2.1, ht] at ht'; cases ht'
  unfold World.setCell
  simp only [Array.getElem?_modify]
  rw [if_neg hne]; exact hb
theorem set_heap {w : World} {b o : Nat} {c : List Value} {t : TypeId} {v : Value} (h : w.heap[b]? = some (.cells ⟨c⟩ t (0, 0))) : (w.setCell ⟨b, o, none⟩ v).heap = w.heap.setIfInBounds b (.cells ⟨c.set o v⟩ t (0, 0)) := by
 apply Array.ext_getElem?
 intro i
 unfold World.setCell
 simp only [Array.getElem?_modify]
 by_cases hi : b = i
 ·subst hi
  have hlt := (Array.getElem?_eq_some_iff.1 h).1
  rw [Array.getElem?_setIfInBounds_self_of_lt hlt]
  simp [h]
 ·rw [if_neg hi, Array.getElem?_setIfInBounds_ne hi]
theorem cell_at {w : World} {b o : Nat} {c : List Value} {t : TypeId} {v : Value} {z : Nat × Nat} (h : w.heap[b]? = some (.cells ⟨c⟩ t z)) (hv : c[o]? = some v) : w.cell? ⟨b, o, none⟩ = some v := by
 unfold World.cell?
 simp only [h]
 simpa using hv
theorem K0 {w : World} {b o : Nat} {c : List Value} {t : TypeId} (h : w.heap[b]? = some (.cells ⟨c⟩ t (0, 0))) : w.frozen? ⟨b, o, none⟩ = false := by
 unfold World.frozen?
 simp [h]
theorem room_at {w : World} {b o : Nat} {c : List Value} {t : TypeId} (h : w.heap[b]? = some (.cells ⟨c⟩ t (0, 0))) (hl : o + 1 < c.length) : Room w b o :=
 ⟨⟨_, cell_at h (List.getElem?_eq_getElem (by omega))⟩, ⟨_, cell_at h (List.getElem?_eq_getElem hl)⟩, K0 h, K0 h⟩
def NewI (w : World) (b : Nat) (s : Bool) (n : Nat) (w' : World) : Prop :=
 w.heap.size ≤ b ∧ (∃ u, w'.heap[b]? = some (.cells ⟨[.bool s, u]⟩ 92 (0, 0)) ∧ Nin w' u n) ∧ Below w.heap.size w w'
theorem ZaT {w w0 w1 w' : World} {g n : Nat} {s : Bool} {u a b : Value} (h0 : Below w.heap.size w w0) (hg : w.heap.size ≤ g) (hb : w0.heap[g]? = some (.cells ⟨[a, b]⟩ 92 (0, 0)))
  (h1 : Below w0.heap.size w0 w1) (hu : Nin w1 u n) (e : w' = (w1.setCell ⟨g, 0, none⟩ (.bool s)).setCell ⟨g, 1, none⟩ u) : NewI w g s n w' := by
 subst e
 have hlt := (Array.getElem?_eq_some_iff.1 hb).1
 have hb1 : w1.heap[g]? = some (.cells ⟨[a, b]⟩ 92 (0, 0)) := (h1.block g hlt).trans hb
 have hB : Below w.heap.size w w1 := h0.trans (h1.mono h0.size)
 have hB2 : Below w.heap.size w ((w1.setCell ⟨g, 0, none⟩ (.bool s)).setCell ⟨g, 1, none⟩ u) := (hB.setCell hg _).setCell hg _
 have c1 : (w1.setCell ⟨g, 0, none⟩ (.bool s)).heap[g]? = some (.cells ⟨[.bool s, b]⟩ 92 (0, 0)) := by
  rw [set_heap (o := 0) (v := .bool s) hb1, Array.getElem?_setIfInBounds_self_of_lt (Array.getElem?_eq_some_iff.1 hb1).1]; rfl
 have c2 : ((w1.setCell ⟨g, 0, none⟩ (.bool s)).setCell ⟨g, 1, none⟩ u).heap[g]? = some (.cells ⟨[.bool s, u]⟩ 92 (0, 0)) := by
  rw [set_heap (o := 1) (v := u) c1, Array.getElem?_setIfInBounds_self_of_lt (Array.getElem?_eq_some_iff.1 c1).1]; rfl
 refine ⟨hg, ⟨u, c2, ?_⟩, hB2⟩
 exact ZeJ (ZeJ hu hb1 (by kernel_rfl)) c1 (by kernel_rfl)
set_option maxRecDepth 100000 in
theorem number_bad (w : World) (s : ByteArray) (h : ZmJ s = false) :
  Calls Tryz.prog 71 #[.string s] w fun e w' => e = .returned (.tuple #[.pointer none, .bool false]) ∧ w = w' := by
 by_cases h5 : s.size ≤ 512
 ·by_cases h0 : s.size = 0
  ·rw [JN h0] at h; cases h
  ·have i1 : ¬ (s.size : Int) > 512 := by omega
   have p0 : 0 < s.size := by omega
   have i2 : (s.size : Int) > 0 := by omega
   have HD := (show ((s[0].toNat : Int) == 0) = true by
    unfold ZmJ at h
    rw [decide_eq_true h5, Bool.true_and, Zb9 p0, Bool.not_eq_false', beq_iff_eq, Option.some.injEq] at h
    rw [h]; rfl)
   have hne : ¬ s.toList = [] := by rw [ByteArray.toList_eq]; intro e; have := Xb s; rw [e] at this; simp at this; omega
   have hne2 : s.toList.isEmpty = false := by rw [Bool.eq_false_iff]; intro e; exact hne (List.isEmpty_iff.1 e)
   clear h0 h
   go_enter Tryz.func71, Tryz.ntmps71
   go_wp2_with fail
   exact bodyPost_ret (v := .tuple #[.pointer none, .bool false]) (by simp [results, Tryz.results71, go_sem]) rfl ⟨rfl, rfl⟩
 ·have i1 : (s.size : Int) > 512 := by omega
  clear h
  go_enter Tryz.func71, Tryz.ntmps71
  go_wp2_with fail
  exact bodyPost_ret (v := .tuple #[.pointer none, .bool false]) (by simp [results, Tryz.results71, go_sem]) rfl ⟨rfl, rfl⟩
theorem Kx (w : World) (s : ByteArray) (hs : s.size ≤ 512) :
  Bt (Lib.bytesWorld w 5 s) (.slice (some ⟨w.heap.size, 0, none⟩) s.size (grownCap w s.size 0 5)) s.data.toList := by
 have hl := Xb s
 refine ⟨_, _, by rw [hl], by rw [hl]; exact grownCap_ge _ _ _ _, fun _ => ⟨w.heap.size, 0, rfl, by rw [Lib.bytesWorld_size]; omega, fun i hi => ?_, _, _, Lib.bytesWorld_at_new w 5 s⟩⟩
 rw [Nat.zero_add, Lib.bytesWorld_cell w 5 s i (by omega)]
 simp [List.getD, List.getElem?_eq_getElem hi]
theorem Wb (w : World) (c : List Value) (t : TypeId) : (w.alloc (.cells ⟨c⟩ t)).heap[w.heap.size]? = some (.cells ⟨c⟩ t (0, 0)) := by
 show (w.heap.push _)[w.heap.size]? = _
 simp
theorem Xc (w : World) (o : Obj) : Below w.heap.size w (w.alloc o) := (Below.refl w.heap.size w).alloc (Nat.le_refl _) o
theorem ZmK (w : World) (s : ByteArray) (hs : s.size ≤ 512) :
  Calls Tryz.prog 108 #[.pointer (some ⟨w.heap.size, 0, none⟩), .slice (some ⟨w.heap.size + 1, 0, none⟩) s.size (grownCap (w.alloc (.cells #[.bool false, .slice none 0 0] 92)) s.size 0 5)]
   (Lib.bytesWorld (w.alloc (.cells #[.bool false, .slice none 0 0] 92)) 5 s) fun e w' => e = .returned (.pointer (some ⟨w.heap.size, 0, none⟩)) ∧ NewI w w.heap.size false (Big.bnum s.data.toList) w' := by
 have hnew := Wb w [.bool false, .slice none 0 0] 92
 have hb0 := Xc w (.cells #[.bool false, .slice none 0 0] 92)
 have hsz : (w.alloc (.cells #[.bool false, .slice none 0 0] 92)).heap.size = w.heap.size + 1 := by show (w.heap.push _).size = _; simp
 have hB := Kx (w.alloc (.cells #[.bool false, .slice none 0 0] 92)) s hs
 have hW := Lib.bytesWorld_below (w.alloc (.cells #[.bool false, .slice none 0 0] 92)) 5 s
 rw [hsz] at hB
 have hnew2 : (Lib.bytesWorld (w.alloc (.cells #[.bool false, .slice none 0 0] 92)) 5 s).heap[w.heap.size]? = some (.cells ⟨[.bool false, .slice none 0 0]⟩ 92 (0, 0)) :=
  (hW.block w.heap.size (by rw [hsz]; omega)).trans hnew
 refine (ZaS _ w.heap.size 0 _ _ hB (room_at hnew2 (by simp)) (by rw [Xb]; omega)).mono ?_
 rintro e w' ⟨rfl, w1, u, h1, h2, h3⟩
 exact ⟨rfl, ZaT (hb0.trans (hW.mono hb0.size)) (Nat.le_refl _) hnew2 h1 h2 h3⟩
set_option maxRecDepth 100000 in
theorem number_ok (w : World) (n : Nat) (h : szN n ≤ 512) :
  Calls Tryz.prog 71 #[.string (bst n)] w fun e w' => ∃ b, e = .returned (.tuple #[.pointer (some ⟨b, 0, none⟩), .bool true]) ∧ NewI w b false n w' := by
 obtain ⟨s, hs⟩ : ∃ s, s = bst n := ⟨_, rfl⟩
 have hsz : s.size ≤ 512 := by rw [hs, Ju]; exact h
 have HN := Lib.hid (show Big.bnum s.data.toList = n by rw [hs, Ud, QP])
 have HL := Lib.hid (show s.data.toList.head? ≠ some 0 by rw [hs, Ud]; exact Zhl n)
 have HC := Lib.hid (ZmK w s hsz)
 rw [HN.out] at HC
 rw [← hs]
 clear hs h
 have i1 : ¬ (s.size : Int) > 512 := by omega
 have hcv := fun W => Lib.run_convert_string_bytes (P := Tryz.prog) W 9 121 5 s (u := .string) Tryz.underlying9 Tryz.underlying121 Tryz.underlying5
 by_cases h0 : s.size = 0
 ·have i2 : ¬ (s.size : Int) > 0 := by omega
  rw [h0] at HC
  go_enter Tryz.func71, Tryz.ntmps71
  go_wp2_with fail
  refine HC.out.mono ?_
  rintro e w2 ⟨rfl, h2⟩
  have H2 := Lib.hid h2
  clear h2
  go_wp2
  exact bodyPost_ret (v := .tuple #[.pointer (some ⟨w.heap.size, 0, none⟩), .bool true]) (by simp [results, Tryz.results71, go_sem]) rfl ⟨_, rfl, H2.out⟩
 ·have p0 : 0 < s.size := by omega
  have i2 : (s.size : Int) > 0 := by omega
  have HD := (show ((s[0].toNat : Int) == 0) = false by
   have := HL.out
   rw [Zb9 p0] at this
   rw [beq_eq_false_iff_ne]
   intro e; exact this (by rw [Option.some.injEq]; apply UInt8.toNat_inj.1; show _ = 0; omega))
  have hne : ¬ s.toList = [] := by rw [ByteArray.toList_eq]; intro e; have := Xb s; rw [e] at this; simp at this; omega
  have hne2 : s.toList.isEmpty = false := by rw [Bool.eq_false_iff]; intro e; exact hne (List.isEmpty_iff.1 e)
  go_enter Tryz.func71, Tryz.ntmps71
  go_wp2_with fail
  refine HC.out.mono ?_
  rintro e w2 ⟨rfl, h2⟩
  have H2 := Lib.hid h2
  clear h2
  go_wp2
  exact bodyPost_ret (v := .tuple #[.pointer (some ⟨w.heap.size, 0, none⟩), .bool true]) (by simp [results, Tryz.results71, go_sem]) rfl ⟨_, rfl, H2.out⟩
set_option maxRecDepth 100000 in
theorem ZaU (w : World) (bz oz k : Nat) (hk : k < 9223372036854775808) (hz : Room w bz oz) : Calls Tryz.prog 112 #[.pointer (some ⟨bz, oz, none⟩), .int .i64 (k : Nat)] w (Put w bz oz false k) := by
 have i1 : ¬ (k : Int) < 0 := by omega
 have e1 : IntKind.u64.wrap (k : Int) = (k : Int) := by rw [IntKind.wrap_u64]; omega
 have e2 : IntKind.u32.wrap (k : Int) = ((k % 4294967296 : Nat) : Int) := by rw [IntKind.wrap_u32]; omega
 have e3 : IntKind.u32.wrap ((k : Int) / 4294967296) = ((k / 4294967296 : Nat) : Int) := by rw [IntKind.wrap_u32]; omega
 go_enter Tryz.func112, Tryz.ntmps112
 go_wp2_with fail
 have hW : Wd (w.alloc (.cells #[.int .u32 ((k : Int) % 4294967296), .int .u32 ((k : Int) / 4294967296)] 148)) .u32 (.slice (some ⟨w.heap.size, 0, none⟩) 2 2) [k % 4294967296, k / 4294967296] :=
  Wd.new 2 2 rfl (by simp) (by omega) (Wb w [.int .u32 ((k : Int) % 4294967296), .int .u32 ((k : Int) / 4294967296)] 148) (fun i hi => by
   have : i = 0 ∨ i = 1 := by simp at hi; omega
   rcases this with rfl | rfl
   ·show some (Value.int .u32 ((k : Int) % 4294967296)) = some (.int .u32 ((k % 4294967296 : Nat) : Int))
    congr 2
   ·show some (Value.int .u32 ((k : Int) / 4294967296)) = some (.int .u32 ((k / 4294967296 : Nat) : Int))
    congr 2)
 have hA := Xc w (.cells #[.int .u32 ((k : Int) % 4294967296), .int .u32 ((k : Int) / 4294967296)] 148)
 have hok : Big.Ok M32 [k % 4294967296, k / 4294967296] := by
  intro d hd
  simp only [List.mem_cons, List.not_mem_nil, or_false] at hd
  rw [Zk]
  omega
 have hval : Big.val M32 [k % 4294967296, k / 4294967296] = k := by
  simp only [Big.val, Zk]; omega
 have HZ := Lib.hid (hz.keep hA)
 have HA := Lib.hid hA
 have HT := Lib.hid (trim_any _ _ _ hW)
 clear hW hA hz
 generalize w.alloc (.cells #[.int .u32 ((k : Int) % 4294967296), .int .u32 ((k : Int) / 4294967296)] 148) = wa at *
 refine HT.out.mono ?_
 rintro e w1 ⟨v1, rfl, hv1, rfl⟩
 have HN := Lib.hid (hval ▸ Nin.strip hv1 hok)
 have HP := Lib.hid (Ug wa bz oz k false v1 HN.out HZ.out)
 clear hv1
 go_wp2_with fail
 refine HP.out.mono ?_
 rintro e w2 ⟨rfl, h2⟩
 have H2 := Lib.hid h2
 clear h2
 go_wp2
 go_ret
 exact ⟨rfl, wa, v1, HA.out, HN.out, H2.out.symm⟩
set_option maxRecDepth 100000 in
theorem Zdx (w : World) (k : Nat) (hk : k < 9223372036854775808) : Calls Tryz.prog 75 #[.int .i64 (k : Nat)] w fun e w' => ∃ b, e = .returned (.pointer (some ⟨b, 0, none⟩)) ∧ NewI w b false k w' := by
 have hnew := Wb w [.bool false, .slice none 0 0] 92
 have hb0 := Xc w (.cells #[.bool false, .slice none 0 0] 92)
 have HC := Lib.hid (ZaU (w.alloc (.cells #[.bool false, .slice none 0 0] 92)) w.heap.size 0 k hk (room_at hnew (by simp)))
 have HN := Lib.hid hnew
 have HB := Lib.hid hb0
 clear hnew hb0
 go_enter Tryz.func75, Tryz.ntmps75
 go_wp2_with fail
 refine HC.out.mono ?_
 rintro e w2 ⟨rfl, w1, u, h1, h2, h3⟩
 have H := Lib.hid (ZaT HB.out (Nat.le_refl _) HN.out h1 h2 h3)
 clear h1 h2 h3
 go_wp2
 go_ret
 exact ⟨_, rfl, H.out⟩
set_option maxRecDepth 100000 in
theorem ZaV (w : World) (bz oz k : Nat) (hk0 : 0 < k) (hk : k ≤ 9223372036854775808) (hz : Room w bz oz) : Calls Tryz.prog 112 #[.pointer (some ⟨bz, oz, none⟩), .int .i64 (-(k : Int))] w (Put w bz oz true k) := by
 have i1 : (-(k : Int)) < 0 := by omega
 have e0 : IntKind.u64.wrap (-(k : Int)) = 18446744073709551616 - (k : Int) := by rw [IntKind.wrap_u64]; omega
 have e1 : IntKind.u64.wrap (-(18446744073709551616 - (k : Int))) = (k : Int) := by rw [IntKind.wrap_u64]; omega
 have e2 : IntKind.u32.wrap (k : Int) = ((k % 4294967296 : Nat) : Int) := by rw [IntKind.wrap_u32]; omega
 have e3 : IntKind.u32.wrap ((k : Int) / 4294967296) = ((k / 4294967296 : Nat) : Int) := by rw [IntKind.wrap_u32]; omega
 go_enter Tryz.func112, Tryz.ntmps112
 go_wp2_with fail
 have hW : Wd (w.alloc (.cells #[.int .u32 ((k : Int) % 4294967296), .int .u32 ((k : Int) / 4294967296)] 148)) .u32 (.slice (some ⟨w.heap.size, 0, none⟩) 2 2) [k % 4294967296, k / 4294967296] :=
  Wd.new 2 2 rfl (by simp) (by omega) (Wb w [.int .u32 ((k : Int) % 4294967296), .int .u32 ((k : Int) / 4294967296)] 148) (fun i hi => by
   have : i = 0 ∨ i = 1 := by simp at hi; omega
   rcases this with rfl | rfl
   ·show some (Value.int .u32 ((k : Int) % 4294967296)) = some (.int .u32 ((k % 4294967296 : Nat) : Int))
    congr 2
   ·show some (Value.int .u32 ((k : Int) / 4294967296)) = some (.int .u32 ((k / 4294967296 : Nat) : Int))
    congr 2)
 have hA := Xc w (.cells #[.int .u32 ((k : Int) % 4294967296), .int .u32 ((k : Int) / 4294967296)] 148)
 have hok : Big.Ok M32 [k % 4294967296, k / 4294967296] := by
  intro d hd
  simp only [List.mem_cons, List.not_mem_nil, or_false] at hd
  rw [Zk]
  omega
 have hval : Big.val M32 [k % 4294967296, k / 4294967296] = k := by
  simp only [Big.val, Zk]; omega
 have HZ := Lib.hid (hz.keep hA)
 have HA := Lib.hid hA
 have HT := Lib.hid (trim_any _ _ _ hW)
 have HK := Lib.hid hk0
 clear hW hA hz hk0
 generalize w.alloc (.cells #[.int .u32 ((k : Int) % 4294967296), .int .u32 ((k : Int) / 4294967296)] 148) = wa at *
 refine HT.out.mono ?_
 rintro e w1 ⟨v1, rfl, hv1, rfl⟩
 have HN := Lib.hid (hval ▸ Nin.strip hv1 hok)
 have HP := Lib.hid (Ug wa bz oz k true v1 HN.out HZ.out)
 clear hv1
 go_wp2_with fail
 refine HP.out.mono ?_
 rintro e w2 ⟨rfl, h2⟩
 have H2 := Lib.hid h2
 clear h2
 go_wp2
 go_ret
 exact ⟨rfl, wa, v1, HA.out, HN.out, by have := H2.out; rw [decide_eq_true HK.out] at this; exact this.symm⟩
set_option maxRecDepth 100000 in
theorem newInt_any (w : World) (s : Bool) (k : Nat) (hs : s = true → 0 < k) (hk : k ≤ 9223372036854775808) (hk2 : s = false → k < 9223372036854775808) : Calls Tryz.prog 75 #[.int .i64 (Big.sI s k)] w fun e w' => ∃ b, e = .returned (.pointer (some ⟨b, 0, none⟩)) ∧ NewI w b s k w' := by
 cases s with
 | false => exact Zdx w k (hk2 rfl)
 | true =>
  show Calls Tryz.prog 75 #[.int .i64 (-(k : Int))] w _
  have hnew := Wb w [.bool false, .slice none 0 0] 92
  have hb0 := Xc w (.cells #[.bool false, .slice none 0 0] 92)
  have HC := Lib.hid (ZaV (w.alloc (.cells #[.bool false, .slice none 0 0] 92)) w.heap.size 0 k (hs rfl) hk (room_at hnew (by simp)))
  have HN := Lib.hid hnew
  have HB := Lib.hid hb0
  clear hnew hb0
  go_enter Tryz.func75, Tryz.ntmps75
  go_wp2_with fail
  refine HC.out.mono ?_
  rintro e w2 ⟨rfl, w1, u, h1, h2, h3⟩
  have H := Lib.hid (ZaT HB.out (Nat.le_refl _) HN.out h1 h2 h3)
  clear h1 h2 h3
  go_wp2
  go_ret
  exact ⟨_, rfl, H.out⟩
end R
end Go.Proofs.YtnlhjcfpfapafaaGreatDoor
