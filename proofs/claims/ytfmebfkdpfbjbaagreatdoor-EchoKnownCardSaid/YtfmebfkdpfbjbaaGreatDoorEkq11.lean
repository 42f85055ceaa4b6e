/- Contracts, in this order: Slices that read as lists of words, in a world: what is kept · Sums, differences and products of words of 64 bits: the libr · nat: the small functions over slices of words: word, order,  · Plain arithmetic: one word of a sum, of a difference, of a p · A block of the call's own that holds words: made, filled, st · nat: sums and differences. -/
import Derived.WalkKit
import Derived.Laws.OwnMore
import Derived.Deep.Draws
import Derived.Deep.QuietTactic
import Derived.BigQuiet
import Derived.Lib.Hide
import Derived.Test.YtfmebfkdpfbjbaaGreatDoorEkq10
import Derived.Test.YtfmebfkdpfbjbaaGreatDoorProg
import Derived.Test.YtfmebfkdpfbjbaaGreatDoorShelf
import Derived.IntWalk
import Derived.Shelf.Spec.BitsCarry
import Derived.Outline
import Derived.Laws.CopyOwn
import Derived.Laws.MakeOwn
import Derived.OwnWalk
import Derived.Deep.RegionHeld3
namespace Go.Proofs.YtfmebfkdpfbjbaaGreatDoor
open Go.RowKit
def Ty (w : World) (b : Nat) : Prop := ∃ cs, w.heap[b]? = some (.cells cs 95 (0, 0))
theorem Ty.same {w w' : World} {b : Nat} (h : Ty w b) (e : w'.heap[b]? = w.heap[b]?) : Ty w' b := by
  obtain ⟨cs, hc⟩ := h; exact ⟨cs, e.trans hc⟩
def Wd (w : World) (k : IntKind) (v : Value) (l : List Nat) : Prop :=
  ∃ A c, v = .slice A l.length c ∧ l.length ≤ c ∧ c ≤ 1152921504606846976 ∧
    (0 < l.length → ∃ b o, A = some ⟨b, o, none⟩ ∧ b < w.heap.size ∧ (∀ i, i < l.length → w.cell? ⟨b, o + i, none⟩ = some (.int k ((Big.nth l i : Nat) : Int))) ∧ Ty w b)
theorem Wd.keep {w w' : World} {k : IntKind} {v : Value} {l : List Nat} (h : Wd w k v l) (hb : Below w.heap.size w w') : Wd w' k v l := by
  obtain ⟨A, c, rfl, h1, h2, h3⟩ := h
  refine ⟨A, c, rfl, h1, h2, fun hl => ?_⟩
  obtain ⟨b, o, rfl, hlt, hc, hty⟩ := h3 hl
  exact ⟨b, o, rfl, Nat.lt_of_lt_of_le hlt hb.size, fun i hi => (hb.cell (p := ⟨b, o + i, none⟩) hlt).trans (hc i hi), hty.same (hb.block b hlt)⟩
theorem Wd.nil_ (w : World) (k : IntKind) : Wd w k (.slice none 0 0) [] := ⟨none, 0, rfl, Nat.le_refl _, by omega, fun h => absurd h (by simp)⟩
def Drew (w w' : World) : Prop := ∃ n, w' = w.drewN n
theorem Drew.refl (w : World) : Drew w w := ⟨0, rfl⟩
theorem Drew.drewN {a w : World} (h : Drew a w) (n : Nat) : Drew a (w.drewN n) := by
  obtain ⟨m, rfl⟩ := h; exact ⟨m + n, by rw [World.drewN_drewN]⟩
theorem Drew.trans {a b c : World} (h : Drew a b) (k : Drew b c) : Drew a c := by
  obtain ⟨n, rfl⟩ := k; exact h.drewN n
theorem Drew.cell {w w' : World} (h : Drew w w') (p : Addr) : w'.cell? p = w.cell? p := by obtain ⟨n, rfl⟩ := h; rfl
theorem Drew.frozen {w w' : World} (h : Drew w w') (p : Addr) : w'.frozen? p = w.frozen? p := by obtain ⟨n, rfl⟩ := h; rfl
theorem Drew.heap {w w' : World} (h : Drew w w') : w'.heap = w.heap := by obtain ⟨n, rfl⟩ := h; rfl
theorem Drew.below {w w' : World} (h : Drew w w') (B : Nat) : Below B w w' := by obtain ⟨n, rfl⟩ := h; exact ⟨rfl, rfl, rfl, Nat.le_refl _, fun _ _ => rfl⟩
theorem quiet_same {P : Program} {f : FuncId} {args : Array Value} {w : World} {n : Nat} {v : Value}
    (h : Calls P f args (w.drewN n) fun e w' => e = .returned v ∧ w.drewN n = w') : Calls P f args (w.drewN n) fun e w'' => e = .returned v ∧ ∃ m, w'' = w.drewN m :=
  h.mono fun _ _ ⟨he, hm⟩ => ⟨he, n, hm.symm⟩
theorem still_same {P : Program} {f : FuncId} {args : Array Value} {w : World} {v : Value}
    (h : Calls P f args w fun e w' => e = .returned v ∧ w = w') : Calls P f args w fun e w'' => e = .returned v ∧ w'' = w := h.mono fun _ _ ⟨he, hm⟩ => ⟨he, hm.symm⟩
theorem below_drewN {B : Nat} {a w : World} (h : Below B a w) (n : Nat) : Below B a (w.drewN n) := ⟨h.os, h.tape, h.output, h.size, h.block⟩
theorem ret_bool {a b : Bool} (h : a = b) : Ending.returned (.bool a) = .returned (.bool b) := by rw [h]
theorem ret_int {k : IntKind} {a b : Int} (h : a = b) : Ending.returned (.int k a) = .returned (.int k b) := by rw [h]
theorem Wd.drew {w w' : World} {k : IntKind} {v : Value} {l : List Nat} (h : Wd w k v l) (hb : Drew w w') : Wd w' k v l := h.keep (hb.below _)
def WdB (B : Nat) (w : World) (k : IntKind) (v : Value) (l : List Nat) : Prop :=
  ∃ A c, v = .slice A l.length c ∧ l.length ≤ c ∧ c ≤ 1152921504606846976 ∧
    (0 < l.length → ∃ b o, A = some ⟨b, o, none⟩ ∧ b < B ∧ (∀ i, i < l.length → w.cell? ⟨b, o + i, none⟩ = some (.int k ((Big.nth l i : Nat) : Int))) ∧ Ty w b)
theorem WdB.wd {B : Nat} {w : World} {k : IntKind} {v : Value} {l : List Nat} (h : WdB B w k v l) (hB : B ≤ w.heap.size) : Wd w k v l := by
  obtain ⟨A, c, rfl, h1, h2, h3⟩ := h
  refine ⟨A, c, rfl, h1, h2, fun hp => ?_⟩
  obtain ⟨b, o, e, hb, hc, hty⟩ := h3 hp
  exact ⟨b, o, e, Nat.lt_of_lt_of_le hb hB, hc, hty⟩
theorem Wd.wdB {w : World} {k : IntKind} {v : Value} {l : List Nat} (h : Wd w k v l) : WdB w.heap.size w k v l := h
theorem WdB.more {B B' : Nat} {w : World} {k : IntKind} {v : Value} {l : List Nat} (h : WdB B w k v l) (hB : B ≤ B') : WdB B' w k v l := by
  obtain ⟨A, c, rfl, h1, h2, h3⟩ := h
  refine ⟨A, c, rfl, h1, h2, fun hp => ?_⟩
  obtain ⟨b, o, e, hb, hc, hty⟩ := h3 hp
  exact ⟨b, o, e, Nat.lt_of_lt_of_le hb hB, hc, hty⟩
theorem WdB.keep {B : Nat} {w w' : World} {k : IntKind} {v : Value} {l : List Nat} (h : WdB B w k v l) (hk : ∀ b, b < B → w'.heap[b]? = w.heap[b]?) : WdB B w' k v l := by
  obtain ⟨A, c, rfl, h1, h2, h3⟩ := h
  refine ⟨A, c, rfl, h1, h2, fun hp => ?_⟩
  obtain ⟨b, o, e, hb, hc, hty⟩ := h3 hp
  exact ⟨b, o, e, hb, fun i hi => (World.cell?_of_block (hk b hb)).trans (hc i hi), hty.same (hk b hb)⟩
theorem WdB.below {B : Nat} {w w' : World} {k : IntKind} {v : Value} {l : List Nat} (h : WdB B w k v l) (hb : Below B w w') : WdB B w' k v l :=
  h.keep fun b hlt => hb.block b hlt
def Only (g : Nat) (w w' : World) : Prop := w.grownBy w' (some g)
theorem Only.refl (g : Nat) (w : World) : Only g w w := ⟨rfl, rfl, rfl, Nat.le_refl _, fun _ _ _ => rfl⟩
theorem Only.cell {g : Nat} {w w' : World} (h : Only g w w') {b o : Nat} (hb : b < w.heap.size) (hne : b ≠ g) : w'.cell? ⟨b, o, none⟩ = w.cell? ⟨b, o, none⟩ :=
  World.cell?_of_block (h.block b hb (by intro e; injection e with e; exact hne e))
theorem Only.drewN {g : Nat} {w w' : World} (h : Only g w w') (n : Nat) : Only g w (w'.drewN n) := ⟨h.os, h.tape, h.output, h.size, h.block⟩
theorem Only.drew {g : Nat} {w w' : World} (h : Only g w w') : Only g w w'.drew := ⟨h.os, h.tape, h.output, h.size, h.block⟩
theorem Only.setCell {g : Nat} {w w' : World} (h : Only g w w') (i : Nat) (u : Value) : Only g w (w'.setCell ⟨g, i, none⟩ u) :=
  ⟨h.os, h.tape, h.output, by simpa [World.setCell] using h.size, fun j hj hne => (Below.heap_setCell w' ⟨g, i, none⟩ u j (by intro e; exact hne (by rw [e]))).trans (h.block j hj hne)⟩
theorem Only.wdB {g B : Nat} {w w' : World} (h : Only g w w') (hBg : B ≤ g) (hB : B ≤ w.heap.size) {k : IntKind} {v : Value} {l : List Nat} (hw : WdB B w k v l) : WdB B w' k v l :=
  hw.keep fun b hb => h.block b (Nat.lt_of_lt_of_le hb hB) (by intro e; injection e with e; omega)
theorem Only.below {g B : Nat} {w0 w w' : World} (h : Only g w w') (hb : Below B w0 w) (hBg : B ≤ g) (hB : B ≤ w.heap.size) : Below B w0 w' :=
  hb.grown h hB (fun k hk => by injection hk with hk; omega)
theorem Only.trans {g : Nat} {a b c : World} (h : Only g a b) (k : Only g b c) : Only g a c :=
  ⟨k.os.trans h.os, k.tape.trans h.tape, k.output.trans h.output, Nat.le_trans h.size k.size, fun j hj hne => (k.block j (Nat.lt_of_lt_of_le hj h.size) hne).trans (h.block j hj hne)⟩
theorem Only.of_below {g : Nat} {w w' : World} (h : Below w.heap.size w w') : Only g w w' := ⟨h.os, h.tape, h.output, h.size, fun j hj _ => h.block j hj⟩
def NatIn (w : World) (v : Value) (n : Nat) : Prop := ∃ l, Wd w .u64 v l ∧ Big.Ok Big.M64 l ∧ Big.Norm l ∧ Big.val Big.M64 l = n
theorem NatIn.keep {w w' : World} {v : Value} {n : Nat} (h : NatIn w v n) (hb : Below w.heap.size w w') : NatIn w' v n := by
  obtain ⟨l, h1, h2⟩ := h; exact ⟨l, h1.keep hb, h2⟩
theorem NatIn.drew {w w' : World} {v : Value} {n : Nat} (h : NatIn w v n) (hb : Drew w w') : NatIn w' v n := h.keep (hb.below _)
theorem NatIn.nil_ (w : World) : NatIn w (.slice none 0 0) 0 := ⟨[], Wd.nil_ _ _, Big.Ok.nil, Big.norm_nil, rfl⟩
theorem len_of_lt {l : List Nat} {K : Nat} (nl : Big.Norm l) (h : Big.val Big.M64 l < Big.M64 ^ K) : l.length ≤ K := by
  rcases Nat.lt_or_ge K l.length with hlt | hge
  · have h1 := Big.norm_ge (B := Big.M64) l nl (by intro e; subst e; simp at hlt)
    have h2 : Big.M64 ^ K ≤ Big.M64 ^ (l.length - 1) := Nat.pow_le_pow_right Big.M64_pos (by omega)
    omega
  · exact hge
theorem Wd.new {w : World} {k : IntKind} {g : Nat} {l : List Nat} {cs : Array Value} (n c : Nat) (hn : n = l.length) (hc : l.length ≤ c) (hc2 : c ≤ 1152921504606846976)
    (hb : w.heap[g]? = some (.cells cs 95 (0, 0))) (h : ∀ i, i < l.length → cs[i]? = some (.int k ((Big.nth l i : Nat) : Int))) : Wd w k (.slice (some ⟨g, 0, none⟩) n c) l := by
  subst hn
  refine ⟨_, c, rfl, hc, hc2, fun _ => ⟨g, 0, rfl, ?_, fun i hi => ?_, cs, hb⟩⟩
  · rcases Nat.lt_or_ge g w.heap.size with h1 | h1
    · exact h1
    · rw [Array.getElem?_eq_none h1] at hb; cases hb
  · rw [Nat.zero_add, cell_of_row w g i cs 95 (0, 0) hb]; exact h i hi
theorem Wd.cut {w : World} {k : IntKind} {A : Option Addr} {l : List Nat} {c n : Nat} (h : Wd w k (.slice A l.length c) l) (hn : n ≤ l.length) : Wd w k (.slice A n c) (l.take n) := by
  obtain ⟨A', c', e, h1, h2, h3⟩ := h
  cases e
  have hl : (l.take n).length = n := by rw [List.length_take, Nat.min_eq_left hn]
  refine ⟨A, c, by rw [hl], by omega, h2, fun hp => ?_⟩
  obtain ⟨b, o, rfl, hlt, hc, hty⟩ := h3 (by omega)
  refine ⟨b, o, rfl, hlt, fun i hi => ?_, hty⟩
  rw [hc i (by omega)]
  unfold Big.nth
  rw [List.getD_eq_getElem?_getD, List.getD_eq_getElem?_getD, List.getElem?_take_of_lt (by omega)]
end Go.Proofs.YtfmebfkdpfbjbaaGreatDoor
namespace Go.Proofs.YtfmebfkdpfbjbaaGreatDoor
open Go.RowKit
def lo64 (n : Nat) : Nat := n % 18446744073709551616
def hi64 (n : Nat) : Nat := n / 18446744073709551616
theorem lo64_lt (n : Nat) : lo64 n < 18446744073709551616 := by unfold lo64; omega
theorem lo_hi (n : Nat) : n = lo64 n + 18446744073709551616 * hi64 n := by unfold lo64 hi64; omega
theorem hi64_le {n k : Nat} (h : n < (k + 1) * 18446744073709551616) : hi64 n ≤ k := by unfold hi64; omega
theorem hi64_carry {x y c : Nat} (hx : x < 18446744073709551616) (hy : y < 18446744073709551616) (hc : c ≤ 1) : hi64 (x + y + c) ≤ 1 := by unfold hi64; omega
def bor64 (x y b : Nat) : Nat := if x < y + b then 1 else 0
def dif64 (x y b : Nat) : Nat := (x + 18446744073709551616 - y - b) % 18446744073709551616
theorem bor64_le (x y b : Nat) : bor64 x y b ≤ 1 := by unfold bor64; split <;> omega
theorem dif64_lt (x y b : Nat) : dif64 x y b < 18446744073709551616 := by unfold dif64; omega
theorem dif_bor {x y b : Nat} (hx : x < 18446744073709551616) (hy : y < 18446744073709551616) (hb : b ≤ 1) : x + 18446744073709551616 * bor64 x y b = dif64 x y b + y + b := by
  unfold bor64 dif64; split <;> omega
theorem mul_lt {x y c : Nat} (hx : x < 18446744073709551616) (hy : y < 18446744073709551616) (hc : c < 18446744073709551616) : x * y + c < 18446744073709551616 * 18446744073709551616 := by
  have : x * y ≤ 18446744073709551615 * 18446744073709551615 := Nat.mul_le_mul (by omega) (by omega)
  omega
theorem hi64_mul {x y c : Nat} (hx : x < 18446744073709551616) (hy : y < 18446744073709551616) (hc : c < 18446744073709551616) : hi64 (x * y + c) < 18446744073709551616 := by
  have := mul_lt hx hy hc
  unfold hi64; omega
theorem hi_plus (p m : Nat) : hi64 p + hi64 (lo64 p + m) = hi64 (p + m) := by unfold hi64 lo64; omega
theorem lo_plus (p m : Nat) : lo64 (lo64 p + m) = lo64 (p + m) := by unfold lo64; omega
def Tryz.lays25_ren : Go.Shelf.Ren := ⟨fun | 25 => 240 | n => n, fun | 22 => 95 | n => n, fun | n => n⟩
theorem Tryz.lays25 : Go.Proofs.Lays7.n25 Tryz.prog Tryz.lays25_ren := {
  mixed := by kernel_rfl
  f25 := Tryz.func240.trans (congrArg some (by kernel_rfl))
  t22 := Tryz.underlying95
  a22 := Tryz.isAgg95
  z22 := Tryz.sizeOf95
  v22 := Tryz.zeroValue95
  i22 := by kernel_rfl }
def Tryz.lays26_ren : Go.Shelf.Ren := ⟨fun | 26 => 242 | n => n, fun | 22 => 95 | n => n, fun | n => n⟩
theorem Tryz.lays26 : Go.Proofs.Lays7.n26 Tryz.prog Tryz.lays26_ren := {
  mixed := by kernel_rfl
  f26 := Tryz.func242.trans (congrArg some (by kernel_rfl))
  t22 := Tryz.underlying95
  a22 := Tryz.isAgg95
  z22 := Tryz.sizeOf95
  v22 := Tryz.zeroValue95
  i22 := by kernel_rfl }
theorem add64 (x y c : Nat) (hc : c ≤ 1) (w : World) : (callFunc 240 #[.int .u64 x, .int .u64 y, .int .u64 c]).run Tryz.prog w =
    .ok (.value (.tuple #[.int .u64 ((lo64 (x + y + c) : Nat) : Int), .int .u64 ((hi64 (x + y + c) : Nat) : Int)])) w := Any7.bits_Add64 Tryz.lays25 x y c hc w
theorem add64_0 (x y : Nat) (w : World) : (callFunc 240 #[.int .u64 x, .int .u64 y, .int .u64 0]).run Tryz.prog w =
    .ok (.value (.tuple #[.int .u64 ((lo64 (x + y) : Nat) : Int), .int .u64 ((hi64 (x + y) : Nat) : Int)])) w := add64 x y 0 (by omega) w
theorem sub64 (x y b : Nat) (hb : b ≤ 1) (w : World) : (callFunc 242 #[.int .u64 x, .int .u64 y, .int .u64 b]).run Tryz.prog w =
    .ok (.value (.tuple #[.int .u64 ((dif64 x y b : Nat) : Int), .int .u64 ((bor64 x y b : Nat) : Int)])) w := Any7.bits_Sub64 Tryz.lays26 x y b hb w
theorem mul64 (x y : Nat) (hx : x < 18446744073709551616) (hy : y < 18446744073709551616) (w : World) :
    Calls Tryz.prog 249 #[.int .u64 x, .int .u64 y] w fun e w' => e = .returned (.tuple #[.int .u64 ((hi64 (x * y) : Nat) : Int), .int .u64 ((lo64 (x * y) : Nat) : Int)]) ∧ w = w' :=
  (Tryz.bits_Mul64 x y hx hy w).mono fun _ _ ⟨h1, h2⟩ => ⟨h1, h2.symm⟩
theorem timesPlus_any (v u m : Nat) (hv : v < 18446744073709551616) (hu : u < 18446744073709551616) (hm : m < 18446744073709551616) (w : World) :
    Calls Tryz.prog 239 #[.int .u64 v, .int .u64 u, .int .u64 m] w fun e w' =>
      e = .returned (.tuple #[.int .u64 ((lo64 (v * u + m) : Nat) : Int), .int .u64 ((hi64 (v * u + m) : Nat) : Int)]) ∧ w = w' := by
  have H1 := Lib.hid (hi_plus (v * u) m)
  have H2 := Lib.hid (lo_plus (v * u) m)
  have b1 : ((hi64 (v * u) : Nat) : Int) + ((hi64 (lo64 (v * u) + m) : Nat) : Int) < 18446744073709551616 := by
    have := hi64_mul hv hu hm
    have := H1.out
    omega
  go_enter Tryz.func239, Tryz.ntmps239
  go_wp2_with (first
    | (go_at_call 249; refine (mul64 _ _ hv hu _).mono ?_; rintro e w' ⟨rfl, rfl⟩)
    | simp only [add64_0 (lo64 (v * u)) m])
  go_ret2
  exact ⟨by rw [← H1.out, ← H2.out]; simp, rfl⟩
end Go.Proofs.YtfmebfkdpfbjbaaGreatDoor
namespace Go.Proofs.YtfmebfkdpfbjbaaGreatDoor
open Go.RowKit
theorem word_any (w : World) (v : Value) (l : List Nat) (i : Nat) (h : Wd w .u64 v l) :
    Calls Tryz.prog 181 #[v, .int .i64 (i : Int)] w fun e w' => e = .returned (.int .u64 ((Big.nth l i : Nat) : Int)) ∧ w = w' := by
  obtain ⟨A, c, rfl, h1, h2, h3⟩ := h
  by_cases hi : i < l.length
  · obtain ⟨b, o, rfl, hlt, hc, -⟩ := h3 (by omega)
    have hcell := hc i hi
    clear hc h3
    go_enter Tryz.func181, Tryz.ntmps181
    go_wp2
    go_ret
    exact ⟨rfl, rfl⟩
  · have H0 := Lib.hid (Big.nth_ge l i (by omega))
    clear h3
    go_enter Tryz.func181, Tryz.ntmps181
    go_wp2
    go_ret
    exact ⟨by rw [H0.out]; rfl, rfl⟩
theorem order_any (w : World) (b : Bool) :
    Calls Tryz.prog 175 #[.bool b] w fun e w' => e = .returned (.int .i64 (Big.ordI b)) ∧ w = w' := by
  cases b <;>
  · go_enter Tryz.func175, Tryz.ntmps175
    go_wp2
    go_ret
    exact ⟨rfl, rfl⟩
theorem isOne_any (w : World) (v : Value) (l : List Nat) (h : Wd w .u64 v l) :
    Calls Tryz.prog 61 #[v] w fun e w' => e = .returned (.bool (decide (l = [1]))) ∧ w = w' := by
  obtain ⟨A, c, rfl, h1, h2, h3⟩ := h
  by_cases hl : l.length = 1
  · obtain ⟨x, rfl⟩ := List.length_eq_one_iff.1 hl
    obtain ⟨b, o, rfl, hlt, hc, -⟩ := h3 (by omega)
    have hcell : w.cell? ⟨b, o, none⟩ = some (.int .u64 (x : Int)) := hc 0 (by omega)
    clear hc h3 h1
    go_enter Tryz.func61, Tryz.ntmps61
    go_wp2
    go_ret
    exact ⟨ret_bool (by rw [Bool.eq_iff_iff]; simp; omega), rfl⟩
  · have e1 : decide (l = [1]) = false := decide_eq_false (fun e => hl (by rw [e]; rfl))
    rw [e1]
    have e2 : ((l.length : Int) == 1) = false := beq_eq_false_iff_ne.2 (by omega)
    clear h3
    go_enter Tryz.func61, Tryz.ntmps61
    go_wp2
    go_ret
    exact ⟨rfl, rfl⟩
theorem trim_slice (w : World) (A : Option Addr) (c : Nat) (l : List Nat) (h : Wd w .u64 (.slice A l.length c) l) :
    Calls Tryz.prog 113 #[.slice A l.length c] w fun e w' => e = .returned (.slice A (Big.strip l).length c) ∧ w = w' := by
  obtain ⟨A', c', e, h1, h2, h3⟩ := h
  cases e
  go_enter Tryz.func113, Tryz.ntmps113
  go_wp2
  go_loop [3] (fun n => ∃ k : Nat, k ≤ l.length ∧ n = .int .i64 k ∧ Hid (Big.strip (l.take k) = Big.strip l)) (fun n => (intOf n).toNat)
  case atStart => exact ⟨l.length, Nat.le_refl _, rfl, Lib.hid (by rw [List.take_length])⟩
  case round =>
    obtain ⟨k, hk, rfl, HS⟩ := hrel
    by_cases hk0 : k = 0
    · subst hk0
      have HN := Lib.hid (show (Big.strip l).length = 0 by rw [← HS.out, List.take_zero]; rfl)
      go_wp2
      go_ret
      exact ⟨by rw [HN.out]; rfl, rfl⟩
    · obtain ⟨b, o, rfl, hlt, hc, -⟩ := h3 (by omega)
      have hcell := hc (k - 1) (by omega)
      clear hc h3
      go_wp2
      · have hz : ((Big.nth l (k - 1) : Nat) == (0 : Int)) = true := by assumption
        refine ⟨⟨k - 1, by omega, ?_, Lib.hid ?_⟩, by simp [intOf]; omega⟩
        · congr 1; omega
        · rw [← HS.out]
          have := Big.strip_take l (k - 1) (by omega) (by simpa using hz)
          rw [show k - 1 + 1 = k by omega] at this
          exact this.symm
      · have hz : ((Big.nth l (k - 1) : Nat) == (0 : Int)) = false := by assumption
        have h2 := Big.strip_take_ne l (k - 1) (by omega) (by simpa using hz)
        rw [show k - 1 + 1 = k by omega, HS.out] at h2
        have HN := Lib.hid (show (Big.strip l).length = k by rw [h2, List.length_take]; omega)
        clear h2
        go_ret
        exact ⟨by rw [HN.out]; rfl, rfl⟩
theorem trim_any (w : World) (v : Value) (l : List Nat) (h : Wd w .u64 v l) :
    Calls Tryz.prog 113 #[v] w fun e w' => ∃ v', e = .returned v' ∧ Wd w .u64 v' (Big.strip l) ∧ w = w' := by
  obtain ⟨A, c, rfl, h1, h2, h3⟩ := h
  refine (trim_slice w A c l ⟨A, c, rfl, h1, h2, h3⟩).mono fun e w' ⟨he, hw⟩ => ⟨_, he, ?_, hw⟩
  have := Wd.cut (w := w) (k := .u64) (A := A) (l := l) (c := c) (n := (Big.strip l).length) ⟨A, c, rfl, h1, h2, h3⟩ (Big.strip_len l)
  rwa [← Big.strip_take_self] at this
theorem natOf_any (w : World) (n : Nat) :
    Calls Tryz.prog 100 #[.int .u64 (n : Int)] w fun e w' => ∃ v', e = .returned v' ∧ Wd w' .u64 v' (if n = 0 then [] else [n]) ∧ Below w.heap.size w w' := by
  by_cases hn : n = 0
  · subst hn
    go_enter Tryz.func100, Tryz.ntmps100
    go_wp2
    go_ret
    exact ⟨_, rfl, Wd.nil_ _ _, Below.refl _ _⟩
  · have h0 : ((n : Int) == 0) = false := beq_eq_false_iff_ne.2 (by omega)
    go_enter Tryz.func100, Tryz.ntmps100
    go_wp2
    go_ret
    refine ⟨_, rfl, ?_, ?_⟩
    · refine Wd.new 1 1 rfl (Nat.le_refl _) (by omega) (heap_alloc_new w _) (fun i hi => ?_)
      have : i = 0 := by simp at hi; omega
      subst this; rfl
    · exact (Below.refl _ _).alloc (Nat.le_refl _) _
theorem cmp_any (w : World) (v u : Value) (l m : List Nat) (h : Wd w .u64 v l) (k : Wd w .u64 u m) (ol : Big.Ok Big.M64 l) (om : Big.Ok Big.M64 m) (nl : Big.Norm l) (nm : Big.Norm m) :
    Calls Tryz.prog 103 #[v, u] w fun e w' => e = .returned (.int .i64 (Big.cmpI (Big.val Big.M64 l) (Big.val Big.M64 m))) ∧ Drew w w' := by
  obtain ⟨A, c, rfl, h1, h2, h3⟩ := h
  obtain ⟨A2, c2, rfl, k1, k2, k3⟩ := k
  rcases Nat.lt_trichotomy l.length m.length with hlt | heq | hgt
  · have H := Lib.hid (Big.cmpI_lt (Big.lt_of_length Big.M64_pos ol nm hlt))
    have hne : ((l.length : Int) != m.length) = true := by rw [bne_iff_ne]; omega
    clear h3 k3
    go_enter Tryz.func103, Tryz.ntmps103
    go_wp2_with (go_at_call 175; refine (order_any _ _).mono ?_; rintro e w' ⟨rfl, rfl⟩)
    go_ret
    exact ⟨by rw [H.out]; simp [Big.ordI], Drew.refl _⟩
  · obtain ⟨N, hN⟩ : ∃ N, l.length = N := ⟨_, rfl⟩
    rw [hN] at h3 h1 heq
    rw [← heq] at k3 k1
    have HN := Lib.hid hN; have HM := Lib.hid heq.symm
    rw [hN, ← heq]
    have hne : ((N : Int) != N) = false := by simp
    clear hN heq
    go_enter Tryz.func103, Tryz.ntmps103
    go_wp2_with fail
    go_loopw [5] (fun i wr => ∃ k : Nat, k ≤ N ∧ i = .int .i64 ((k : Int) - 1) ∧ Drew w wr ∧ Hid (l.drop k = m.drop k)) (fun i _ => (intOf i + 1).toNat)
    case atStart => exact ⟨N, Nat.le_refl _, rfl, Drew.refl _, Lib.hid (by rw [List.drop_eq_nil_of_le (by have := HN.out; omega), List.drop_eq_nil_of_le (by have := HM.out; omega)])⟩
    case round =>
      obtain ⟨k, hk, rfl, hd, HS⟩ := hrel
      rcases Nat.eq_zero_or_pos k with rfl | hp
      · go_wp2
        go_ret
        have e : l = m := by simpa using HS.out
        exact ⟨by rw [e, Big.cmpI_eq]; simp, hd⟩
      · obtain ⟨j, rfl⟩ : ∃ j, k = j + 1 := ⟨k - 1, by omega⟩
        rw [show (((j + 1 : Nat) : Int) - 1) = (j : Int) by omega]
        obtain ⟨b, o, rfl, hlt, hc, -⟩ := h3 (by omega)
        obtain ⟨b2, o2, rfl, hlt2, hc2, -⟩ := k3 (by omega)
        have hcell := (hd.cell _).trans (hc j (by omega))
        have hcell2 := (hd.cell _).trans (hc2 j (by omega))
        have HD := Lib.hid hd
        have hl := HN.out; have hm := HM.out
        rcases Nat.lt_trichotomy (Big.nth l j) (Big.nth m j) with hj | hj | hj
        · have H := Lib.hid (Big.cmpI_lt (Big.lt_at (k := j) (by omega) (by omega) ol HS.out hj))
          have t1 : (((Big.nth l j : Nat) : Int) != ((Big.nth m j : Nat) : Int)) = true := by rw [bne_iff_ne]; omega
          clear hc hc2 h3 k3 hd hl hm
          go_wp2_with fail
          go_quiet (fail)
          go_wp2_with fail
          have g1 : (wr.drewN nq).cell? ⟨b, o + j, none⟩ = some (.int .u64 ((Big.nth l j : Nat) : Int)) := hcell
          have g2 : (wr.drewN nq).cell? ⟨b2, o2 + j, none⟩ = some (.int .u64 ((Big.nth m j : Nat) : Int)) := hcell2
          have HE := Lib.hid (HD.out.drewN nq)
          clear HD hcell hcell2
          generalize wr.drewN nq = w1 at g1 g2 HE ⊢
          go_quiet ((go_at_call 175; exact quiet_same (order_any _ _)))
          go_wp2
          go_ret
          exact ⟨by rw [H.out]; simp [Big.ordI], (HE.out.drewN _)⟩
        · have HS' := Lib.hid (show l.drop j = m.drop j by rw [Big.drop_cons l j (by omega), Big.drop_cons m j (by omega), HS.out, hj])
          have t1 : (((Big.nth l j : Nat) : Int) != ((Big.nth m j : Nat) : Int)) = false := by rw [bne_eq_false_iff_eq]; omega
          clear hc hc2 h3 k3 hd hl hm hj
          go_wp2_with fail
          go_quiet (fail)
          go_wp2_with fail
          go_roundw
          case rel => exact ⟨j, by omega, rfl, HD.out.drewN _, HS'⟩
          case measure => simp [intOf]
        · have H := Lib.hid (Big.cmpI_gt (Big.lt_at (k := j) (by omega) (by omega) om HS.out.symm hj))
          have t1 : (((Big.nth l j : Nat) : Int) != ((Big.nth m j : Nat) : Int)) = true := by rw [bne_iff_ne]; omega
          clear hc hc2 h3 k3 hd hl hm
          go_wp2_with fail
          go_quiet (fail)
          go_wp2_with fail
          have g1 : (wr.drewN nq).cell? ⟨b, o + j, none⟩ = some (.int .u64 ((Big.nth l j : Nat) : Int)) := hcell
          have g2 : (wr.drewN nq).cell? ⟨b2, o2 + j, none⟩ = some (.int .u64 ((Big.nth m j : Nat) : Int)) := hcell2
          have HE := Lib.hid (HD.out.drewN nq)
          clear HD hcell hcell2
          generalize wr.drewN nq = w1 at g1 g2 HE ⊢
          go_quiet ((go_at_call 175; exact quiet_same (order_any _ _)))
          go_wp2
          go_ret
          exact ⟨by rw [H.out]; simp [Big.ordI]; omega, (HE.out.drewN _)⟩
  · have H := Lib.hid (Big.cmpI_gt (Big.lt_of_length Big.M64_pos om nl hgt))
    have hne : ((l.length : Int) != m.length) = true := by rw [bne_iff_ne]; omega
    clear h3 k3
    go_enter Tryz.func103, Tryz.ntmps103
    go_wp2_with (go_at_call 175; refine (order_any _ _).mono ?_; rintro e w' ⟨rfl, rfl⟩)
    go_ret
    exact ⟨by rw [H.out]; simp [Big.ordI]; omega, Drew.refl _⟩
end Go.Proofs.YtfmebfkdpfbjbaaGreatDoor
namespace Go.Proofs.YtfmebfkdpfbjbaaGreatDoor
namespace Big
section
variable {B : Nat}
theorem val_snoc (zs : List Nat) (s : Nat) : val B (zs ++ [s]) = val B zs + B ^ zs.length * s := by
  rw [val_append]; simp [val]
theorem add_step {zs : List Nat} {k o o' s x y X Y : Nat} (hl : zs.length = k) (h : val B zs + B ^ k * o = X + Y) (hs : x + y + o = s + B * o') :
    val B (zs ++ [s]) + B ^ (k + 1) * o' = (X + B ^ k * x) + (Y + B ^ k * y) := by
  subst hl
  rw [val_snoc, Nat.pow_succ, Nat.mul_assoc]
  have e : B ^ zs.length * (x + y + o) = B ^ zs.length * (s + B * o') := by rw [hs]
  simp only [Nat.mul_add] at e
  omega
theorem sub_step {zs : List Nat} {k o o' s x y X Y : Nat} (hl : zs.length = k) (h : val B zs + Y = X + B ^ k * o) (hs : x + B * o' = s + y + o) :
    val B (zs ++ [s]) + (Y + B ^ k * y) = (X + B ^ k * x) + B ^ (k + 1) * o' := by
  subst hl
  rw [val_snoc, Nat.pow_succ, Nat.mul_assoc]
  have e : B ^ zs.length * (x + B * o') = B ^ zs.length * (s + y + o) := by rw [hs]
  simp only [Nat.mul_add] at e
  omega
theorem mul_step {zs : List Nat} {k o o' s z v w Z Y : Nat} (hl : zs.length = k) (h : val B zs + B ^ k * o = Z + Y * w) (hs : z + v * w + o = s + B * o') :
    val B (zs ++ [s]) + B ^ (k + 1) * o' = (Z + B ^ k * z) + (Y + B ^ k * v) * w := by
  subst hl
  rw [val_snoc, Nat.pow_succ, Nat.mul_assoc]
  have e : B ^ zs.length * (z + v * w + o) = B ^ zs.length * (s + B * o') := by rw [hs]
  simp only [Nat.mul_add, Nat.add_mul] at e ⊢
  rw [Nat.mul_assoc (B ^ zs.length) v w]
  omega
theorem mulsub_step {zs : List Nat} {k o o' l l' s x v w t X Y : Nat} (hl : zs.length = k)
    (h : val B zs + Y * w = X + B ^ k * o + B ^ k * l) (h1 : v * w + o = t + B * o') (h2 : x + B * l' = s + t + l) :
    val B (zs ++ [s]) + (Y + B ^ k * v) * w = (X + B ^ k * x) + B ^ (k + 1) * o' + B ^ (k + 1) * l' := by
  subst hl
  rw [val_snoc, Nat.pow_succ, Nat.mul_assoc, Nat.mul_assoc]
  have e1 : B ^ zs.length * (v * w + o) = B ^ zs.length * (t + B * o') := by rw [h1]
  have e2 : B ^ zs.length * (x + B * l') = B ^ zs.length * (s + t + l) := by rw [h2]
  simp only [Nat.mul_add, Nat.add_mul] at e1 e2 ⊢
  rw [Nat.mul_assoc (B ^ zs.length) v w]
  omega
end
theorem guess_ge {P X Y q xx xl yy yl : Nat} (hX : X = xx * P + xl) (hxl : xl < P) (hY : Y = yy * P + yl) (h : q * Y ≤ X) : q * yy ≤ xx := by
  have h1 : q * (yy * P) ≤ q * Y := Nat.mul_le_mul_left q (by omega)
  have h2 : q * yy * P < (xx + 1) * P := by rw [Nat.mul_assoc, Nat.add_mul]; omega
  have := Nat.lt_of_mul_lt_mul_right h2
  omega
theorem guess_div {P X Y q xx xl yy yl : Nat} (hX : X = xx * P + xl) (hxl : xl < P) (hY : Y = yy * P + yl) (h : q * Y ≤ X) (hyy : 0 < yy) : q ≤ xx / yy :=
  (Nat.le_div_iff_mul_le hyy).2 (guess_ge hX hxl hY h)
end Big
end Go.Proofs.YtfmebfkdpfbjbaaGreatDoor
namespace Go.Proofs.YtfmebfkdpfbjbaaGreatDoor
open Go.RowKit
def cellsOf (k : IntKind) (l : List Nat) : Array Value := (l.map fun d => Value.int k ((d : Nat) : Int)).toArray
theorem cellsOf_get (k : IntKind) (l : List Nat) (i : Nat) (h : i < l.length) : (cellsOf k l)[i]? = some (.int k ((Big.nth l i : Nat) : Int)) := by
  simp [cellsOf, h, Big.nth]
theorem cellsOf_set (k : IntKind) (l : List Nat) (i x : Nat) : (cellsOf k l).setIfInBounds i (.int k ((x : Nat) : Int)) = cellsOf k (l.set i x) := by
  simp [cellsOf, List.map_set]
theorem cellsOf_toList (k : IntKind) (l : List Nat) : (cellsOf k l).toList = l.map fun d => Value.int k ((d : Nat) : Int) := by simp [cellsOf]
theorem cellsOf_zero (k : IntKind) (n : Nat) : madeCells #[.int k 0] n = cellsOf k (List.replicate n 0) := by
  apply Array.ext'
  rw [toList_madeCells_one, cellsOf_toList]; simp
def Blk (w : World) (g : Nat) (t : TypeId) (k : IntKind) (l : List Nat) : Prop := w.heap[g]? = some (.cells (cellsOf k l) t (0, 0))
section
variable {w w' : World} {g : Nat} {t : TypeId} {k : IntKind} {l : List Nat}
theorem Blk.lt (h : Blk w g t k l) : g < w.heap.size := by
  rcases Nat.lt_or_ge g w.heap.size with h1 | h1
  · exact h1
  · unfold Blk at h; rw [Array.getElem?_eq_none h1] at h; cases h
theorem Blk.cell (h : Blk w g t k l) (i : Nat) (hi : i < l.length) : w.cell? ⟨g, i, none⟩ = some (.int k ((Big.nth l i : Nat) : Int)) := by
  rw [cell_of_row w g i _ t (0, 0) h]; exact cellsOf_get k l i hi
theorem Blk.frozen (h : Blk w g t k l) (i : Nat) : w.frozen? ⟨g, i, none⟩ = false := frozen_of_row w g i _ t h
theorem Blk.new (w : World) (t : TypeId) (k : IntKind) (l : List Nat) : Blk (w.alloc (.cells (cellsOf k l) t)) w.heap.size t k l := heap_alloc_new w _
theorem Blk.set (h : Blk w g t k l) (i x : Nat) : Blk (w.setCell ⟨g, i, none⟩ (.int k ((x : Nat) : Int))) g t k (l.set i x) := by
  unfold Blk
  rw [heap_setCell_same w g i _ t _ h, cellsOf_set]
theorem Blk.alloc' (h : Blk w g t k l) (o : Obj) : Blk (w.alloc o) g t k l := (Below.heap_alloc w o g h.lt).trans h
theorem Blk.drewN (h : Blk w g t k l) (n : Nat) : Blk (w.drewN n) g t k l := h
theorem Blk.drew (h : Blk w g t k l) (hd : Drew w w') : Blk w' g t k l := by unfold Blk; rw [hd.heap]; exact h
theorem Blk.below (h : Blk w g t k l) (hb : Below w.heap.size w w') : Blk w' g t k l := (hb.block g h.lt).trans h
theorem Blk.below' {B : Nat} (h : Blk w g t k l) (hb : Below B w w') (hg : g < B) : Blk w' g t k l := (hb.block g hg).trans h
theorem Blk.far (h : Blk w g t k l) {p : Addr} (hp : g ≠ p.block) (u : Value) : Blk (w.setCell p u) g t k l := (heap_setCell_other w p g u hp).trans h
theorem Blk.wd (h : Blk w g 95 k l) (o n c : Nat) (hn : o + n ≤ l.length) (hc : n ≤ c) (hc2 : c ≤ 1152921504606846976) : Wd w k (.slice (some ⟨g, o, none⟩) n c) ((l.drop o).take n) := by
  have hl : ((l.drop o).take n).length = n := by rw [List.length_take, List.length_drop]; omega
  refine ⟨_, c, by rw [hl], by omega, hc2, fun _ => ⟨g, o, rfl, h.lt, fun i hi => ?_, _, h⟩⟩
  rw [h.cell (o + i) (by omega)]
  unfold Big.nth
  rw [List.getD_eq_getElem?_getD, List.getD_eq_getElem?_getD, List.getElem?_take_of_lt (by omega), List.getElem?_drop]
theorem Blk.wd0 (h : Blk w g 95 k l) (c : Nat) (hc : l.length ≤ c) (hc2 : c ≤ 1152921504606846976) : Wd w k (.slice (some ⟨g, 0, none⟩) l.length c) l := by
  have := h.wd 0 l.length c (by omega) hc hc2
  simpa using this
end
theorem set_at (zs r : List Nat) (k x : Nat) (h : zs.length = k) : (zs ++ r).set k x = zs ++ r.set 0 x := by
  rw [List.set_append_right k x (by omega), h, Nat.sub_self]
theorem set_drop (zs l : List Nat) (k x : Nat) (h : zs.length = k) (hk : k < l.length) : (zs ++ l.drop k).set k x = (zs ++ [x]) ++ l.drop (k + 1) := by
  rw [set_at zs _ k x h, Big.drop_cons l k hk]; simp
theorem make_words {P : Program} {t e : TypeId} {i : TypeInfo} {k : IntKind} (ht : P.underlying t = some (.slice e)) (hi : P.info? e = some i) (hz : i.zero = some (.int k 0)) (hs : i.size = 1) (hb : i.bytes ≤ 8)
    (kl kc : IntKind) (n c : Nat) (hnc : n ≤ c) (hn : c ≤ 2000000000000) (w : World) :
    (Instr.makeSlice t (.int kl ((n : Nat) : Int)) (.int kc ((c : Nat) : Int))).run P w = .ok (.slice (some ⟨w.heap.size, 0, none⟩) n c) (w.alloc (.cells (cellsOf k (List.replicate c 0)) e)) := by
  have hbb : (i.bytes : Int) * (c : Int) ≤ 281474976710656 := by
    have h : i.bytes * c ≤ 8 * c := Nat.mul_le_mul_right c hb
    have h2 : ((i.bytes * c : Nat) : Int) ≤ 281474976710656 := by omega
    rwa [Int.natCast_mul] at h2
  have hr := run_make (P := P) w t e i _ ht hi hz kl kc n c (by omega) (by omega) hbb (by omega)
  simp only [Int.toNat_natCast, hs, Nat.mul_one] at hr
  rw [hr]
  show Result.ok _ (w.alloc (.cells (madeCells #[.int k 0] c) e)) = _
  rw [cellsOf_zero]
theorem splice_words (k : IntKind) (cur xs : List Nat) : splice (cellsOf k cur).toList 0 (xs.map fun d => Value.int k ((d : Nat) : Int)) = (cellsOf k (xs ++ cur.drop xs.length)).toList := by
  simp [splice, cellsOf_toList, List.map_drop]
theorem wpList_copy_words {P : Program} {w : World} {ops : Array Oper} {rest : List Oper} {o : Oper} {a : Act} {Q : Exit → Act → World → Prop} (hgd : o.guard = none) (d s : Operand) (dT sT : TypeId)
    (ho : o.op = .call { callee := .builtin .copy, args := #[d, s], argTypes := #[dT, sT] }) (elem : TypeId) (hu : P.underlying dT = some (.slice elem)) (hsz : (P.info? elem).map (·.size) = some 1)
    (g t : Nat) (k : IntKind) (cur xs : List Nat) (dLen dCap : Nat) (A : Option Addr) (c : Nat) (hd : a.eval d = .slice (some ⟨g, 0, none⟩) dLen dCap) (hs : a.eval s = .slice A xs.length c)
    (hr : Wd w k (.slice A xs.length c) xs) (hb : Blk w g t k cur) (hn : xs.length ≤ dLen) (hfit : dLen ≤ cur.length) (B : Nat) (w0 : World) (hB : Below B w0 w) (hBg : B ≤ g)
    (h : ∀ w', Blk w' g t k (xs ++ cur.drop xs.length) → Below B w0 w' → wpList P ops Q rest (a.put o.dst (goInt xs.length)) w') :
    wpList P ops Q (o :: rest) a w := by
  have hlen : (xs.map fun d => Value.int k ((d : Nat) : Int)).length = xs.length := by simp
  refine wpList_copy_splice hgd d s dT sT ho elem hu hsz _ _ dLen dCap xs.length c hd hs g 0 (cellsOf k cur).toList t (by rw [Array.toArray_toList]; exact hb) (xs.map fun d => Value.int k ((d : Nat) : Int))
    (by rw [hlen]; exact (Nat.min_eq_left hn).symm) (fun hp => ⟨rfl, ?_⟩) (by rw [hlen, cellsOf_toList]; simp; omega) (by intro v hv; simp at hv; obtain ⟨_, _, rfl⟩ := hv; rfl) B w0 hB hBg ?_
  · obtain ⟨A', c', e, h1, h2, h3⟩ := hr
    cases e
    obtain ⟨b, o', rfl, hlt, hc, -⟩ := h3 (by simpa using hp)
    refine ⟨_, rfl, fun j v hv => ?_⟩
    have hj : j < xs.length := by
      rcases Nat.lt_or_ge j xs.length with h | h
      · exact h
      · rw [List.getElem?_eq_none (by simpa using h)] at hv; cases hv
    rw [List.getElem?_map, List.getElem?_eq_getElem hj] at hv
    have := hc j hj
    unfold Big.nth at this
    rw [List.getD_eq_getElem?_getD, List.getElem?_eq_getElem hj] at this
    simp at hv
    rw [← hv]
    unfold Addr.add
    split
    · rename_i h0; subst h0; simpa using this
    · simpa using this
  · intro w' hh hbel
    have hh' := hh.out
    rw [splice_words] at hh'
    rw [hlen]
    exact h w' (by unfold Blk; rw [Array.toArray_toList] at hh'; exact hh') hbel
end Go.Proofs.YtfmebfkdpfbjbaaGreatDoor
namespace Go.Proofs.YtfmebfkdpfbjbaaGreatDoor
open Go.RowKit
theorem Tryz.infoU64 : (Tryz.prog.info? 95).map (fun i => (i.zero, i.size, i.bytes)) = some (some (.int .u64 0), 1, 8) := by kernel_rfl
theorem add_round {l m zs : List Nat} {k n : Nat} (ol : Big.Ok Big.M64 l) (om : Big.Ok Big.M64 m) (hn : n ≤ 1)
    (h : zs.length = k ∧ Big.Ok Big.M64 zs ∧ Big.val Big.M64 zs + Big.M64 ^ k * n = Big.val Big.M64 (l.take k) + Big.val Big.M64 (m.take k)) :
    hi64 (Big.nth l k + Big.nth m k + n) ≤ 1 ∧ (zs ++ [lo64 (Big.nth l k + Big.nth m k + n)]).length = k + 1 ∧ Big.Ok Big.M64 (zs ++ [lo64 (Big.nth l k + Big.nth m k + n)]) ∧
      Big.val Big.M64 (zs ++ [lo64 (Big.nth l k + Big.nth m k + n)]) + Big.M64 ^ (k + 1) * hi64 (Big.nth l k + Big.nth m k + n) = Big.val Big.M64 (l.take (k + 1)) + Big.val Big.M64 (m.take (k + 1)) := by
  obtain ⟨h1, h2, h3⟩ := h
  have a := ol.nth Big.M64_pos k
  have b := om.nth Big.M64_pos k
  refine ⟨hi64_carry (by rw [← Big.M64_eq]; exact a) (by rw [← Big.M64_eq]; exact b) hn, by simp [h1], h2.append (Big.Ok.cons (by rw [Big.M64_eq]; exact lo64_lt _) Big.Ok.nil), ?_⟩
  rw [Big.val_take_succ', Big.val_take_succ']
  exact Big.add_step h1 h3 (by rw [Big.M64_eq]; exact lo_hi _)
set_option maxRecDepth 100000 in
set_option maxHeartbeats 1000000 in
theorem add_ge (w : World) (v u : Value) (l m : List Nat) (h : Wd w .u64 v l) (k : Wd w .u64 u m) (ol : Big.Ok Big.M64 l) (om : Big.Ok Big.M64 m)
    (hl : l.length ≤ 1000000000000) (hlm : m.length ≤ l.length) :
    Calls Tryz.prog 179 #[v, u] w fun e w' => ∃ v', e = .returned v' ∧ NatIn w' v' (Big.val Big.M64 l + Big.val Big.M64 m) ∧ Below w.heap.size w w' := by
  obtain ⟨A, c, rfl, h1, h2, h3⟩ := h
  obtain ⟨A2, c2, rfl, k1, k2, k3⟩ := k
  obtain ⟨i0, hi, hz0, hz1, hz2⟩ := info_parts Tryz.infoU64
  have OL := Lib.hid ol; have OM := Lib.hid om
  clear ol om
  have hmk := fun W => make_words (P := Tryz.prog) Tryz.underlying69 hi hz0 hz1 (by rw [hz2]; omega) .i64 .i64 (l.length + 1) (l.length + 1) (Nat.le_refl _) (by omega) W
  rw [show ((l.length + 1 : Nat) : Int) = (l.length : Int) + 1 by omega] at hmk
  have hnlt : ¬ ((l.length : Int) < m.length) := by omega
  have hb0 : Blk (w.alloc (.cells (cellsOf .u64 (List.replicate (l.length + 1) 0)) 95)) w.heap.size 95 .u64 (List.replicate (l.length + 1) 0) := Blk.new _ _ _ _
  have hbel0 : Below w.heap.size w (w.alloc (.cells (cellsOf .u64 (List.replicate (l.length + 1) 0)) 95)) := (Below.refl _ _).alloc (Nat.le_refl _) _
  have hw0 : Wd (w.alloc (.cells (cellsOf .u64 (List.replicate (l.length + 1) 0)) 95)) .u64 (.slice A l.length c) l := Wd.keep ⟨A, c, rfl, h1, h2, h3⟩ hbel0
  have H0 := Lib.hid (And.intro hb0 (And.intro hbel0 hw0))
  clear hb0 hbel0 hw0
  have hu : (Tryz.prog.info? 95).map (·.size) = some 1 := by rw [hi]; simp [hz1]
  go_enter Tryz.func179, Tryz.ntmps179
  go_wp2_with (first
    | (with_reducible refine wpList_copy_words rfl (.tmp 19) (.tmp 20) 69 69 rfl 95 Tryz.underlying69 hu w.heap.size 95 .u64 (List.replicate (l.length + 1) 0) l (l.length + 1) (l.length + 1) A c rfl rfl H0.out.2.2 H0.out.1 (by omega) (by simp) w.heap.size w H0.out.2.1 (Nat.le_refl _) ?_))
  intro w1 hB1 hBel1
  have HW1 := Lib.hid (show Wd w .u64 (.slice A l.length c) l from ⟨A, c, rfl, h1, h2, h3⟩)
  have HW2 := Lib.hid (show Wd w .u64 (.slice A2 m.length c2) m from ⟨A2, c2, rfl, k1, k2, k3⟩)
  have HB1 := Lib.hid hB1; have HBel1 := Lib.hid hBel1
  clear hB1 hBel1 H0 hmk h3 k3
  go_wp2_with fail
  go_loopw [6, 24] (fun o i wr => ∃ (k n : Nat) (zs : List Nat), k ≤ l.length ∧ i = .int .i64 k ∧ o = .int .u64 n ∧ n ≤ 1 ∧
      Hid (zs.length = k ∧ Big.Ok Big.M64 zs ∧ Big.val Big.M64 zs + Big.M64 ^ k * n = Big.val Big.M64 (l.take k) + Big.val Big.M64 (m.take k)) ∧
      Hid (Blk wr w.heap.size 95 .u64 (zs ++ (l ++ [0]).drop k)) ∧ Hid (Below w.heap.size w wr))
    (fun _ i _ => l.length - (intOf i).toNat)
  case atStart => exact ⟨0, 0, [], by omega, rfl, rfl, by omega, Lib.hid ⟨rfl, Big.Ok.nil, by simp [Big.val]⟩, Lib.hid (by simpa using HB1.out), HBel1⟩
  case round =>
    obtain ⟨k, n, zs, hk, rfl, rfl, hn1, HZ, HB, HBel⟩ := hrel
    by_cases hlt : k < l.length
    · have hX := HW1.out
      obtain ⟨A', c', e, x1, x2, x3⟩ := hX
      cases e
      obtain ⟨b, o, rfl, hblt, hc, -⟩ := x3 (by omega)
      have hcell := (HBel.out.cell (p := ⟨b, o + k, none⟩) hblt).trans (hc k hlt)
      have hadd := fun W => add64 (Big.nth l k) (Big.nth m k) n hn1 W
      have hst := HB.out.cell k (by have := HZ.out.1; simp; omega)
      have hfr := HB.out.frozen k
      have HY := Lib.hid (HW2.out.keep HBel.out)
      have HYd := Lib.hid (HY.out.drew ⟨1, rfl⟩ : Wd wr.drew .u64 _ m)
      have hz1 : (k : Int) < (l.length : Int) + 1 := by omega
      have hz0 : (0 : Int) ≤ (k : Int) := by omega
      clear hc x3
      go_wp2_with fail
      go_region_held3 (fun w' => w'.cell? ⟨b, o + k, none⟩ = some (.int .u64 ((Big.nth l k : Nat) : Int)))
        (first | exact hcell | exact (World.cell?_setCell_other _ _ _ _ (by intro e; injection e; omega)).trans hcell)
        (first | (go_at_call 181; refine (word_any _ _ m k HYd.out).mono ?_; rintro e w' ⟨rfl, rfl⟩) | fail)
      have R := add_round OL.out OM.out hn1 HZ.out
      have R1 := Lib.hid R.2
      have R0 := R.1
      have HB' := Lib.hid (HB.out.set k (lo64 (Big.nth l k + Big.nth m k + n)))
      clear R
      go_wp2
      go_roundw
      case rel =>
        refine ⟨k + 1, _, _, by omega, by go_num, rfl, R0, R1, Lib.hid ?_, Lib.hid (((HBel.out).drew).setCell (Nat.le_refl _) _)⟩
        have := HB'.out
        rw [set_drop zs (l ++ [0]) k _ HZ.out.1 (by simp; omega)] at this
        exact this
      case measure => simp [intOf]; omega
    · have hkl : k = l.length := by omega
      subst hkl
      have hst := HB.out.cell l.length (by have := HZ.out.1; simp; omega)
      have hfr := HB.out.frozen l.length
      have HB' := Lib.hid (HB.out.set l.length n)
      have HBel' := Lib.hid (HBel.out.setCell (p := ⟨w.heap.size, l.length, none⟩) (Nat.le_refl _) (.int .u64 (n : Int)))
      have hz1 : (l.length : Int) < (l.length : Int) + 1 := by omega
      go_wp2_with fail
      refine (trim_any _ _ (zs ++ [n]) ?_).mono ?_
      · have h1 := HB'.out
        rw [set_drop zs (l ++ [0]) l.length _ HZ.out.1 (by simp)] at h1
        rw [show List.drop (l.length + 1) (l ++ [0]) = [] from List.drop_eq_nil_of_le (by simp), List.append_nil] at h1
        have h2 := h1.wd0 (l.length + 1) (by have := HZ.out.1; simp; omega) (by omega)
        rw [show (zs ++ [n]).length = l.length + 1 by have := HZ.out.1; simp; omega] at h2
        exact h2
      · rintro e w' ⟨v', rfl, hv', rfl⟩
        have HV := Lib.hid hv'
        clear hv'
        go_wp2
        go_ret
        have Z := HZ.out
        have oz : Big.Ok Big.M64 (zs ++ [n]) := Z.2.1.append (Big.Ok.cons (by unfold Big.M64; omega) Big.Ok.nil)
        refine ⟨v', rfl, ⟨Big.strip (zs ++ [n]), HV.out, Big.strip_ok oz, Big.strip_norm _, ?_⟩, HBel'.out⟩
        have e1 := Z.2.2
        rw [Big.val_take_all l _ (Nat.le_refl _), Big.val_take_all m _ (by omega)] at e1
        rw [Big.strip_val, Big.val_snoc, Z.1]
        exact e1
set_option maxRecDepth 100000 in
set_option maxHeartbeats 1000000 in
theorem add_lt (w : World) (v u : Value) (l m : List Nat) (h : Wd w .u64 v l) (k : Wd w .u64 u m) (ol : Big.Ok Big.M64 l) (om : Big.Ok Big.M64 m)
    (hl : l.length ≤ 1000000000000) (hlm : m.length < l.length) :
    Calls Tryz.prog 179 #[u, v] w fun e w' => ∃ v', e = .returned v' ∧ NatIn w' v' (Big.val Big.M64 l + Big.val Big.M64 m) ∧ Below w.heap.size w w' := by
  obtain ⟨A, c, rfl, h1, h2, h3⟩ := h
  obtain ⟨A2, c2, rfl, k1, k2, k3⟩ := k
  obtain ⟨i0, hi, hz0, hz1, hz2⟩ := info_parts Tryz.infoU64
  have OL := Lib.hid ol; have OM := Lib.hid om
  clear ol om
  have hmk := fun W => make_words (P := Tryz.prog) Tryz.underlying69 hi hz0 hz1 (by rw [hz2]; omega) .i64 .i64 (l.length + 1) (l.length + 1) (Nat.le_refl _) (by omega) W
  rw [show ((l.length + 1 : Nat) : Int) = (l.length : Int) + 1 by omega] at hmk
  have hnlt : ((m.length : Int) < l.length) := by omega
  have hb0 : Blk (w.alloc (.cells (cellsOf .u64 (List.replicate (l.length + 1) 0)) 95)) w.heap.size 95 .u64 (List.replicate (l.length + 1) 0) := Blk.new _ _ _ _
  have hbel0 : Below w.heap.size w (w.alloc (.cells (cellsOf .u64 (List.replicate (l.length + 1) 0)) 95)) := (Below.refl _ _).alloc (Nat.le_refl _) _
  have hw0 : Wd (w.alloc (.cells (cellsOf .u64 (List.replicate (l.length + 1) 0)) 95)) .u64 (.slice A l.length c) l := Wd.keep ⟨A, c, rfl, h1, h2, h3⟩ hbel0
  have H0 := Lib.hid (And.intro hb0 (And.intro hbel0 hw0))
  clear hb0 hbel0 hw0
  have hu : (Tryz.prog.info? 95).map (·.size) = some 1 := by rw [hi]; simp [hz1]
  go_enter Tryz.func179, Tryz.ntmps179
  go_wp2_with (first
    | (with_reducible refine wpList_copy_words rfl (.tmp 19) (.tmp 20) 69 69 rfl 95 Tryz.underlying69 hu w.heap.size 95 .u64 (List.replicate (l.length + 1) 0) l (l.length + 1) (l.length + 1) A c rfl rfl H0.out.2.2 H0.out.1 (by omega) (by simp) w.heap.size w H0.out.2.1 (Nat.le_refl _) ?_))
  intro w1 hB1 hBel1
  have HW1 := Lib.hid (show Wd w .u64 (.slice A l.length c) l from ⟨A, c, rfl, h1, h2, h3⟩)
  have HW2 := Lib.hid (show Wd w .u64 (.slice A2 m.length c2) m from ⟨A2, c2, rfl, k1, k2, k3⟩)
  have HB1 := Lib.hid hB1; have HBel1 := Lib.hid hBel1
  clear hB1 hBel1 H0 hmk h3 k3
  go_wp2_with fail
  go_loopw [6, 24] (fun o i wr => ∃ (k n : Nat) (zs : List Nat), k ≤ l.length ∧ i = .int .i64 k ∧ o = .int .u64 n ∧ n ≤ 1 ∧
      Hid (zs.length = k ∧ Big.Ok Big.M64 zs ∧ Big.val Big.M64 zs + Big.M64 ^ k * n = Big.val Big.M64 (l.take k) + Big.val Big.M64 (m.take k)) ∧
      Hid (Blk wr w.heap.size 95 .u64 (zs ++ (l ++ [0]).drop k)) ∧ Hid (Below w.heap.size w wr))
    (fun _ i _ => l.length - (intOf i).toNat)
  case atStart => exact ⟨0, 0, [], by omega, rfl, rfl, by omega, Lib.hid ⟨rfl, Big.Ok.nil, by simp [Big.val]⟩, Lib.hid (by simpa using HB1.out), HBel1⟩
  case round =>
    obtain ⟨k, n, zs, hk, rfl, rfl, hn1, HZ, HB, HBel⟩ := hrel
    by_cases hlt : k < l.length
    · have hX := HW1.out
      obtain ⟨A', c', e, x1, x2, x3⟩ := hX
      cases e
      obtain ⟨b, o, rfl, hblt, hc, -⟩ := x3 (by omega)
      have hcell := (HBel.out.cell (p := ⟨b, o + k, none⟩) hblt).trans (hc k hlt)
      have hadd := fun W => add64 (Big.nth l k) (Big.nth m k) n hn1 W
      have hst := HB.out.cell k (by have := HZ.out.1; simp; omega)
      have hfr := HB.out.frozen k
      have HY := Lib.hid (HW2.out.keep HBel.out)
      have HYd := Lib.hid (HY.out.drew ⟨1, rfl⟩ : Wd wr.drew .u64 _ m)
      have hz1 : (k : Int) < (l.length : Int) + 1 := by omega
      have hz0 : (0 : Int) ≤ (k : Int) := by omega
      clear hc x3
      go_wp2_with fail
      go_region_held3 (fun w' => w'.cell? ⟨b, o + k, none⟩ = some (.int .u64 ((Big.nth l k : Nat) : Int)))
        (first | exact hcell | exact (World.cell?_setCell_other _ _ _ _ (by intro e; injection e; omega)).trans hcell)
        (first | (go_at_call 181; refine (word_any _ _ m k HYd.out).mono ?_; rintro e w' ⟨rfl, rfl⟩) | fail)
      have R := add_round OL.out OM.out hn1 HZ.out
      have R1 := Lib.hid R.2
      have R0 := R.1
      have HB' := Lib.hid (HB.out.set k (lo64 (Big.nth l k + Big.nth m k + n)))
      clear R
      go_wp2
      go_roundw
      case rel =>
        refine ⟨k + 1, _, _, by omega, by go_num, rfl, R0, R1, Lib.hid ?_, Lib.hid (((HBel.out).drew).setCell (Nat.le_refl _) _)⟩
        have := HB'.out
        rw [set_drop zs (l ++ [0]) k _ HZ.out.1 (by simp; omega)] at this
        exact this
      case measure => simp [intOf]; omega
    · have hkl : k = l.length := by omega
      subst hkl
      have hst := HB.out.cell l.length (by have := HZ.out.1; simp; omega)
      have hfr := HB.out.frozen l.length
      have HB' := Lib.hid (HB.out.set l.length n)
      have HBel' := Lib.hid (HBel.out.setCell (p := ⟨w.heap.size, l.length, none⟩) (Nat.le_refl _) (.int .u64 (n : Int)))
      have hz1 : (l.length : Int) < (l.length : Int) + 1 := by omega
      go_wp2_with fail
      refine (trim_any _ _ (zs ++ [n]) ?_).mono ?_
      · have h1 := HB'.out
        rw [set_drop zs (l ++ [0]) l.length _ HZ.out.1 (by simp)] at h1
        rw [show List.drop (l.length + 1) (l ++ [0]) = [] from List.drop_eq_nil_of_le (by simp), List.append_nil] at h1
        have h2 := h1.wd0 (l.length + 1) (by have := HZ.out.1; simp; omega) (by omega)
        rw [show (zs ++ [n]).length = l.length + 1 by have := HZ.out.1; simp; omega] at h2
        exact h2
      · rintro e w' ⟨v', rfl, hv', rfl⟩
        have HV := Lib.hid hv'
        clear hv'
        go_wp2
        go_ret
        have Z := HZ.out
        have oz : Big.Ok Big.M64 (zs ++ [n]) := Z.2.1.append (Big.Ok.cons (by unfold Big.M64; omega) Big.Ok.nil)
        refine ⟨v', rfl, ⟨Big.strip (zs ++ [n]), HV.out, Big.strip_ok oz, Big.strip_norm _, ?_⟩, HBel'.out⟩
        have e1 := Z.2.2
        rw [Big.val_take_all l _ (Nat.le_refl _), Big.val_take_all m _ (by omega)] at e1
        rw [Big.strip_val, Big.val_snoc, Z.1]
        exact e1
theorem add_any (w : World) (v u : Value) (n m : Nat) (h : NatIn w v n) (k : NatIn w u m) (hn : n < Big.M64 ^ Big.KX) (hm : m < Big.M64 ^ Big.KX) :
    Calls Tryz.prog 179 #[v, u] w fun e w' => ∃ v', e = .returned v' ∧ NatIn w' v' (n + m) ∧ Below w.heap.size w w' := by
  obtain ⟨l, h1, h2, h3, rfl⟩ := h
  obtain ⟨r, k1, k2, k3, rfl⟩ := k
  have hl := len_of_lt h3 hn
  rw [Big.KX_eq] at hl
  have hr := len_of_lt k3 hm
  rw [Big.KX_eq] at hr
  rcases Nat.lt_or_ge l.length r.length with hlt | hge
  · rw [Nat.add_comm]
    exact add_lt w u v r l k1 h1 k2 h2 (by omega) hlt
  · exact add_ge w v u l r h1 k1 h2 k2 (by omega) hge
theorem sub_round {l m zs : List Nat} {k n : Nat} (ol : Big.Ok Big.M64 l) (om : Big.Ok Big.M64 m) (hn : n ≤ 1)
    (h : zs.length = k ∧ Big.Ok Big.M64 zs ∧ Big.val Big.M64 zs + Big.val Big.M64 (m.take k) = Big.val Big.M64 (l.take k) + Big.M64 ^ k * n) :
    bor64 (Big.nth l k) (Big.nth m k) n ≤ 1 ∧ (zs ++ [dif64 (Big.nth l k) (Big.nth m k) n]).length = k + 1 ∧ Big.Ok Big.M64 (zs ++ [dif64 (Big.nth l k) (Big.nth m k) n]) ∧
      Big.val Big.M64 (zs ++ [dif64 (Big.nth l k) (Big.nth m k) n]) + Big.val Big.M64 (m.take (k + 1)) = Big.val Big.M64 (l.take (k + 1)) + Big.M64 ^ (k + 1) * bor64 (Big.nth l k) (Big.nth m k) n := by
  obtain ⟨h1, h2, h3⟩ := h
  have a := ol.nth Big.M64_pos k
  have b := om.nth Big.M64_pos k
  refine ⟨bor64_le _ _ _, by simp [h1], h2.append (Big.Ok.cons (by rw [Big.M64_eq]; exact dif64_lt _ _ _) Big.Ok.nil), ?_⟩
  rw [Big.val_take_succ', Big.val_take_succ']
  exact Big.sub_step h1 h3 (by rw [Big.M64_eq]; exact dif_bor (by rw [← Big.M64_eq]; exact a) (by rw [← Big.M64_eq]; exact b) hn)
set_option maxRecDepth 100000 in
set_option maxHeartbeats 1000000 in
theorem sub_any (w : World) (v u : Value) (n' m' : Nat) (h : NatIn w v n') (k : NatIn w u m') (hn : n' < Big.M64 ^ Big.KX) :
    Calls Tryz.prog 180 #[v, u] w fun e w' => ∃ v', e = .returned v' ∧ NatIn w' v' (n' - m') ∧ Below w.heap.size w w' := by
  obtain ⟨l, hx, ol, nl, rfl⟩ := h
  obtain ⟨m, hy, om, nm, rfl⟩ := k
  have hl := len_of_lt nl hn
  rw [Big.KX_eq] at hl
  clear hn
  have CMP := Lib.hid (cmp_any w v u l m hx hy ol om nl nm)
  have HW1 := Lib.hid hx; have HW2 := Lib.hid hy
  have OL := Lib.hid ol; have OM := Lib.hid om
  have NL := Lib.hid nl; have NM := Lib.hid nm
  clear hx hy ol om nl nm
  obtain ⟨A, c, rfl, -, -, -⟩ := HW1.out
  obtain ⟨i0, hi, hz0, hz1, hz2⟩ := info_parts Tryz.infoU64
  have hmk := fun W => make_words (P := Tryz.prog) Tryz.underlying69 hi hz0 hz1 (by rw [hz2]; omega) .i64 .i64 l.length l.length (Nat.le_refl _) (by omega) W
  rcases Nat.lt_or_ge (Big.val Big.M64 l) (Big.val Big.M64 m) with hlt | hge
  · have hc := Big.cmpI_lt hlt
    rw [hc] at CMP
    rw [Nat.sub_eq_zero_of_le (Nat.le_of_lt hlt)]
    clear hmk hlt hc
    go_enter Tryz.func180, Tryz.ntmps180
    go_wp2_with (go_at_call 103; refine CMP.out.mono ?_; rintro e w1 ⟨rfl, hd⟩)
    go_ret
    exact ⟨_, rfl, NatIn.nil_ _, (by assumption : Drew w w1).below _⟩
  · have hc : 0 ≤ Big.cmpI (Big.val Big.M64 l) (Big.val Big.M64 m) := by unfold Big.cmpI; split <;> (try split) <;> omega
    generalize Big.cmpI (Big.val Big.M64 l) (Big.val Big.M64 m) = cc at CMP hc
    have hnlt : ¬ (cc < 0) := by omega
    have HGE := Lib.hid hge
    clear hge
    go_enter Tryz.func180, Tryz.ntmps180
    go_wp2_with (go_at_call 103; refine CMP.out.mono ?_; rintro e w1 ⟨rfl, hd⟩; have HD := Lib.hid hd; clear hd)
    have hs : w1.heap.size = w.heap.size := by rw [HD.out.heap]
    have HS := Lib.hid hs
    have hbel1 := HD.out.below w.heap.size
    have HB1 := Lib.hid (Blk.new w1 95 .u64 (List.replicate l.length 0))
    have HBel1 := Lib.hid (hbel1.alloc (by omega) (.cells (cellsOf .u64 (List.replicate l.length 0)) 95))
    clear hmk hs hbel1
    go_loopw [6, 17] (fun o i wr => ∃ (k n : Nat) (zs : List Nat), k ≤ l.length ∧ i = .int .i64 k ∧ o = .int .u64 n ∧ n ≤ 1 ∧
        Hid (zs.length = k ∧ Big.Ok Big.M64 zs ∧ Big.val Big.M64 zs + Big.val Big.M64 (m.take k) = Big.val Big.M64 (l.take k) + Big.M64 ^ k * n) ∧
        Hid (Blk wr w1.heap.size 95 .u64 (zs ++ (List.replicate l.length 0).drop k)) ∧ Hid (Below w.heap.size w wr))
      (fun _ i _ => l.length - (intOf i).toNat)
    case atStart => exact ⟨0, 0, [], by omega, rfl, rfl, by omega, Lib.hid ⟨rfl, Big.Ok.nil, by simp [Big.val]⟩, Lib.hid (by simpa using HB1.out), HBel1⟩
    case round =>
      obtain ⟨k, n, zs, hk, rfl, rfl, hn1, HZ, HB, HBel⟩ := hrel
      by_cases hlt : k < l.length
      · have hX := HW1.out
        obtain ⟨A', c', e, x1, x2, x3⟩ := hX
        cases e
        obtain ⟨b, o, rfl, hblt, hc, -⟩ := x3 (by omega)
        have hcell := (HBel.out.cell (p := ⟨b, o + k, none⟩) hblt).trans (hc k hlt)
        have hsub := fun W => sub64 (Big.nth l k) (Big.nth m k) n hn1 W
        have hst := HB.out.cell k (by have := HZ.out.1; simp; omega)
        have hfr := HB.out.frozen k
        have HY := Lib.hid (HW2.out.keep HBel.out)
        have HYd := Lib.hid (HY.out.drew ⟨1, rfl⟩ : Wd wr.drew .u64 _ m)
        have hz1 : (k : Int) < (l.length : Int) := by omega
        have hz0 : (0 : Int) ≤ (k : Int) := by omega
        have hbne : b ≠ w1.heap.size := by have := HS.out; omega
        clear hc x3
        go_wp2_with fail
        go_region_held3 (fun w' => w'.cell? ⟨b, o + k, none⟩ = some (.int .u64 ((Big.nth l k : Nat) : Int)))
          (first | exact hcell | exact (World.cell?_setCell_other _ _ _ _ (by intro e; injection e; omega)).trans hcell)
          (first | (go_at_call 181; refine (word_any _ _ m k HYd.out).mono ?_; rintro e w' ⟨rfl, rfl⟩) | fail)
        have R := sub_round OL.out OM.out hn1 HZ.out
        have R1 := Lib.hid R.2
        have R0 := R.1
        have HB' := Lib.hid (HB.out.set k (dif64 (Big.nth l k) (Big.nth m k) n))
        have hle : w.heap.size ≤ w1.heap.size := by have := HS.out; omega
        clear R
        go_wp2
        go_roundw
        case rel =>
          refine ⟨k + 1, _, _, by omega, by go_num, rfl, R0, R1, Lib.hid ?_, Lib.hid (((HBel.out).drew).setCell hle _)⟩
          have := HB'.out
          rw [set_drop zs (List.replicate l.length 0) k _ HZ.out.1 (by simp; omega)] at this
          exact this
        case measure => simp [intOf]; omega
      · have hkl : k = l.length := by omega
        subst hkl
        go_wp2_with fail
        refine (trim_any _ _ zs ?_).mono ?_
        · have h1 := HB.out
          rw [List.drop_eq_nil_of_le (by simp), List.append_nil] at h1
          have h2 := h1.wd0 l.length (by have := HZ.out.1; omega) (by omega)
          rw [HZ.out.1] at h2
          exact h2
        · rintro e w' ⟨v', rfl, hv', rfl⟩
          have HV := Lib.hid hv'
          clear hv'
          go_wp2
          go_ret
          have Z := HZ.out
          refine ⟨v', rfl, ⟨Big.strip zs, HV.out, Big.strip_ok Z.2.1, Big.strip_norm _, ?_⟩, HBel.out⟩
          have hml : m.length ≤ l.length := Big.length_le Big.M64_pos NM.out OL.out HGE.out
          have e1 := Z.2.2
          rw [Big.val_take_all l _ (Nat.le_refl _), Big.val_take_all m _ hml] at e1
          rw [Big.strip_val]
          have hz := Big.val_lt zs Z.2.1
          rw [Z.1] at hz
          have hge := HGE.out
          rcases Nat.eq_zero_or_pos n with h0 | h0
          · subst h0; omega
          · have : n = 1 := by omega
            subst this; omega
end Go.Proofs.YtfmebfkdpfbjbaaGreatDoor
