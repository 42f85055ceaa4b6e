/- Contracts, in this order: RatioLaws' first statement: what holds between its operation · exact: Sub, Quo, Cmp. -/
import Derived.Test.YtepnghhgmjobjaaDoorRl01
import Derived.Test.YtepnghhgmjobjaaDoorRl12
import Derived.Test.YtepnghhgmjobjaaDoorRl08
import Derived.Test.YtepnghhgmjobjaaDoorRl09
namespace Go.Proofs.YtepnghhgmjobjaaDoor
open Go.RowKit
structure LF (w0 w : World) (L : Array Bool) (g0 : Nat) (a b c d e f : Int) (x y z : Rat) (b0 b1 b2 s0 s1 s2 s3 s4 s5 s6 s7 s8 s9 s10 s11 s12 s13 s14 : Value) : Prop where
  hb : Below w0.heap.size w0 w
  p0 : L.getD 0 false = true → s0 = .pointer (some ⟨g0, 0, none⟩)
  p1 : L.getD 1 false = true → s1 = .int .i16 a
  p2 : L.getD 2 false = true → s2 = .pointer (some ⟨g0, 1, none⟩)
  p3 : L.getD 3 false = true → s3 = .int .i16 b
  p4 : L.getD 4 false = true → s4 = .agg #[.bool (Big.ng x), .string (bst (Big.nu x)), .string (bst (Big.de x))]
  p5 : L.getD 5 false = true → s5 = .pointer (some ⟨g0, 2, none⟩)
  p6 : L.getD 6 false = true → s6 = .int .i16 c
  p7 : L.getD 7 false = true → s7 = .pointer (some ⟨g0, 3, none⟩)
  p8 : L.getD 8 false = true → s8 = .int .i16 d
  p9 : L.getD 9 false = true → s9 = .agg #[.bool (Big.ng y), .string (bst (Big.nu y)), .string (bst (Big.de y))]
  p10 : L.getD 10 false = true → s10 = .pointer (some ⟨g0, 4, none⟩)
  p11 : L.getD 11 false = true → s11 = .int .i16 e
  p12 : L.getD 12 false = true → s12 = .pointer (some ⟨g0, 5, none⟩)
  p13 : L.getD 13 false = true → s13 = .int .i16 f
  p14 : L.getD 14 false = true → s14 = .agg #[.bool (Big.ng z), .string (bst (Big.nu z)), .string (bst (Big.de z))]
  x0 : L.getD 15 false = true → ∃ g, b0 = .pointer (some ⟨g, 0, none⟩) ∧ w0.heap.size ≤ g ∧ (∃ a b c, At3 w g 26 a b c) ∧ (L.getD 18 false = true → At3 w g 26 (.bool (Big.ng x)) (.string (bst (Big.nu x))) (.string (bst (Big.de x))))
  x1 : L.getD 16 false = true → ∃ g, b1 = .pointer (some ⟨g, 0, none⟩) ∧ w0.heap.size ≤ g ∧ (∃ a b c, At3 w g 26 a b c) ∧ (L.getD 19 false = true → At3 w g 26 (.bool (Big.ng y)) (.string (bst (Big.nu y))) (.string (bst (Big.de y))))
  x2 : L.getD 17 false = true → ∃ g, b2 = .pointer (some ⟨g, 0, none⟩) ∧ w0.heap.size ≤ g ∧ (∃ a b c, At3 w g 26 a b c) ∧ (L.getD 20 false = true → At3 w g 26 (.bool (Big.ng z)) (.string (bst (Big.nu z))) (.string (bst (Big.de z))))
  d01 : L.getD 15 false = true → L.getD 16 false = true → b0 ≠ b1
  d02 : L.getD 15 false = true → L.getD 17 false = true → b0 ≠ b2
  d12 : L.getD 16 false = true → L.getD 17 false = true → b1 ≠ b2
  y0 : L.getD 18 false = true → L.getD 15 false = true
  y1 : L.getD 19 false = true → L.getD 16 false = true
  y2 : L.getD 20 false = true → L.getD 17 false = true
section
variable {w0 w : World} {L : Array Bool} {g0 : Nat} {a b c d e f : Int} {x y z : Rat} {b0 b1 b2 s0 s1 s2 s3 s4 s5 s6 s7 s8 s9 s10 s11 s12 s13 s14 : Value}
theorem LF.move {w' : World} (F : LF w0 w L g0 a b c d e f x y z b0 b1 b2 s0 s1 s2 s3 s4 s5 s6 s7 s8 s9 s10 s11 s12 s13 s14) (h : Below w.heap.size w w') : LF w0 w' L g0 a b c d e f x y z b0 b1 b2 s0 s1 s2 s3 s4 s5 s6 s7 s8 s9 s10 s11 s12 s13 s14 :=
  { hb := F.hb.trans (h.mono F.hb.size)
    p0 := F.p0
    p1 := F.p1
    p2 := F.p2
    p3 := F.p3
    p4 := F.p4
    p5 := F.p5
    p6 := F.p6
    p7 := F.p7
    p8 := F.p8
    p9 := F.p9
    p10 := F.p10
    p11 := F.p11
    p12 := F.p12
    p13 := F.p13
    p14 := F.p14
    x0 := fun l => by
      obtain ⟨g, e, hg, ⟨a, b, c, hs⟩, hx⟩ := F.x0 l
      exact ⟨g, e, hg, ⟨a, b, c, hs.keep h⟩, fun l' => (hx l').keep h⟩
    x1 := fun l => by
      obtain ⟨g, e, hg, ⟨a, b, c, hs⟩, hx⟩ := F.x1 l
      exact ⟨g, e, hg, ⟨a, b, c, hs.keep h⟩, fun l' => (hx l').keep h⟩
    x2 := fun l => by
      obtain ⟨g, e, hg, ⟨a, b, c, hs⟩, hx⟩ := F.x2 l
      exact ⟨g, e, hg, ⟨a, b, c, hs.keep h⟩, fun l' => (hx l').keep h⟩
    d01 := F.d01
    d02 := F.d02
    d12 := F.d12
    y0 := F.y0
    y1 := F.y1
    y2 := F.y2 }
theorem LF.set0 (F : LF w0 w L g0 a b c d e f x y z b0 b1 b2 s0 s1 s2 s3 s4 s5 s6 s7 s8 s9 s10 s11 s12 s13 s14) {v : Value} (n : v = .pointer (some ⟨g0, 0, none⟩)) : LF w0 w (L.setIfInBounds 0 true) g0 a b c d e f x y z b0 b1 b2 v s1 s2 s3 s4 s5 s6 s7 s8 s9 s10 s11 s12 s13 s14 :=
  { hb := F.hb
    p0 := fun _ => n
    p1 := fun l => F.p1 (lis (by decide) l)
    p2 := fun l => F.p2 (lis (by decide) l)
    p3 := fun l => F.p3 (lis (by decide) l)
    p4 := fun l => F.p4 (lis (by decide) l)
    p5 := fun l => F.p5 (lis (by decide) l)
    p6 := fun l => F.p6 (lis (by decide) l)
    p7 := fun l => F.p7 (lis (by decide) l)
    p8 := fun l => F.p8 (lis (by decide) l)
    p9 := fun l => F.p9 (lis (by decide) l)
    p10 := fun l => F.p10 (lis (by decide) l)
    p11 := fun l => F.p11 (lis (by decide) l)
    p12 := fun l => F.p12 (lis (by decide) l)
    p13 := fun l => F.p13 (lis (by decide) l)
    p14 := fun l => F.p14 (lis (by decide) l)
    x0 := fun l => by
      obtain ⟨g, e, hg, hs, hx⟩ := F.x0 (lis (by decide) l)
      exact ⟨g, e, hg, hs, fun l' => hx (lis (by decide) l')⟩
    x1 := fun l => by
      obtain ⟨g, e, hg, hs, hx⟩ := F.x1 (lis (by decide) l)
      exact ⟨g, e, hg, hs, fun l' => hx (lis (by decide) l')⟩
    x2 := fun l => by
      obtain ⟨g, e, hg, hs, hx⟩ := F.x2 (lis (by decide) l)
      exact ⟨g, e, hg, hs, fun l' => hx (lis (by decide) l')⟩
    d01 := fun l l' => F.d01 (lis (by decide) l) (lis (by decide) l')
    d02 := fun l l' => F.d02 (lis (by decide) l) (lis (by decide) l')
    d12 := fun l l' => F.d12 (lis (by decide) l) (lis (by decide) l')
    y0 := fun l => getD_set_true (F.y0 (lis (by decide) l))
    y1 := fun l => getD_set_true (F.y1 (lis (by decide) l))
    y2 := fun l => getD_set_true (F.y2 (lis (by decide) l)) }
theorem LF.set1 (F : LF w0 w L g0 a b c d e f x y z b0 b1 b2 s0 s1 s2 s3 s4 s5 s6 s7 s8 s9 s10 s11 s12 s13 s14) {v : Value} (n : v = .int .i16 a) : LF w0 w (L.setIfInBounds 1 true) g0 a b c d e f x y z b0 b1 b2 s0 v s2 s3 s4 s5 s6 s7 s8 s9 s10 s11 s12 s13 s14 :=
  { hb := F.hb
    p0 := fun l => F.p0 (lis (by decide) l)
    p1 := fun _ => n
    p2 := fun l => F.p2 (lis (by decide) l)
    p3 := fun l => F.p3 (lis (by decide) l)
    p4 := fun l => F.p4 (lis (by decide) l)
    p5 := fun l => F.p5 (lis (by decide) l)
    p6 := fun l => F.p6 (lis (by decide) l)
    p7 := fun l => F.p7 (lis (by decide) l)
    p8 := fun l => F.p8 (lis (by decide) l)
    p9 := fun l => F.p9 (lis (by decide) l)
    p10 := fun l => F.p10 (lis (by decide) l)
    p11 := fun l => F.p11 (lis (by decide) l)
    p12 := fun l => F.p12 (lis (by decide) l)
    p13 := fun l => F.p13 (lis (by decide) l)
    p14 := fun l => F.p14 (lis (by decide) l)
    x0 := fun l => by
      obtain ⟨g, e, hg, hs, hx⟩ := F.x0 (lis (by decide) l)
      exact ⟨g, e, hg, hs, fun l' => hx (lis (by decide) l')⟩
    x1 := fun l => by
      obtain ⟨g, e, hg, hs, hx⟩ := F.x1 (lis (by decide) l)
      exact ⟨g, e, hg, hs, fun l' => hx (lis (by decide) l')⟩
    x2 := fun l => by
      obtain ⟨g, e, hg, hs, hx⟩ := F.x2 (lis (by decide) l)
      exact ⟨g, e, hg, hs, fun l' => hx (lis (by decide) l')⟩
    d01 := fun l l' => F.d01 (lis (by decide) l) (lis (by decide) l')
    d02 := fun l l' => F.d02 (lis (by decide) l) (lis (by decide) l')
    d12 := fun l l' => F.d12 (lis (by decide) l) (lis (by decide) l')
    y0 := fun l => getD_set_true (F.y0 (lis (by decide) l))
    y1 := fun l => getD_set_true (F.y1 (lis (by decide) l))
    y2 := fun l => getD_set_true (F.y2 (lis (by decide) l)) }
theorem LF.set2 (F : LF w0 w L g0 a b c d e f x y z b0 b1 b2 s0 s1 s2 s3 s4 s5 s6 s7 s8 s9 s10 s11 s12 s13 s14) {v : Value} (n : v = .pointer (some ⟨g0, 1, none⟩)) : LF w0 w (L.setIfInBounds 2 true) g0 a b c d e f x y z b0 b1 b2 s0 s1 v s3 s4 s5 s6 s7 s8 s9 s10 s11 s12 s13 s14 :=
  { hb := F.hb
    p0 := fun l => F.p0 (lis (by decide) l)
    p1 := fun l => F.p1 (lis (by decide) l)
    p2 := fun _ => n
    p3 := fun l => F.p3 (lis (by decide) l)
    p4 := fun l => F.p4 (lis (by decide) l)
    p5 := fun l => F.p5 (lis (by decide) l)
    p6 := fun l => F.p6 (lis (by decide) l)
    p7 := fun l => F.p7 (lis (by decide) l)
    p8 := fun l => F.p8 (lis (by decide) l)
    p9 := fun l => F.p9 (lis (by decide) l)
    p10 := fun l => F.p10 (lis (by decide) l)
    p11 := fun l => F.p11 (lis (by decide) l)
    p12 := fun l => F.p12 (lis (by decide) l)
    p13 := fun l => F.p13 (lis (by decide) l)
    p14 := fun l => F.p14 (lis (by decide) l)
    x0 := fun l => by
      obtain ⟨g, e, hg, hs, hx⟩ := F.x0 (lis (by decide) l)
      exact ⟨g, e, hg, hs, fun l' => hx (lis (by decide) l')⟩
    x1 := fun l => by
      obtain ⟨g, e, hg, hs, hx⟩ := F.x1 (lis (by decide) l)
      exact ⟨g, e, hg, hs, fun l' => hx (lis (by decide) l')⟩
    x2 := fun l => by
      obtain ⟨g, e, hg, hs, hx⟩ := F.x2 (lis (by decide) l)
      exact ⟨g, e, hg, hs, fun l' => hx (lis (by decide) l')⟩
    d01 := fun l l' => F.d01 (lis (by decide) l) (lis (by decide) l')
    d02 := fun l l' => F.d02 (lis (by decide) l) (lis (by decide) l')
    d12 := fun l l' => F.d12 (lis (by decide) l) (lis (by decide) l')
    y0 := fun l => getD_set_true (F.y0 (lis (by decide) l))
    y1 := fun l => getD_set_true (F.y1 (lis (by decide) l))
    y2 := fun l => getD_set_true (F.y2 (lis (by decide) l)) }
theorem LF.set3 (F : LF w0 w L g0 a b c d e f x y z b0 b1 b2 s0 s1 s2 s3 s4 s5 s6 s7 s8 s9 s10 s11 s12 s13 s14) {v : Value} (n : v = .int .i16 b) : LF w0 w (L.setIfInBounds 3 true) g0 a b c d e f x y z b0 b1 b2 s0 s1 s2 v s4 s5 s6 s7 s8 s9 s10 s11 s12 s13 s14 :=
  { hb := F.hb
    p0 := fun l => F.p0 (lis (by decide) l)
    p1 := fun l => F.p1 (lis (by decide) l)
    p2 := fun l => F.p2 (lis (by decide) l)
    p3 := fun _ => n
    p4 := fun l => F.p4 (lis (by decide) l)
    p5 := fun l => F.p5 (lis (by decide) l)
    p6 := fun l => F.p6 (lis (by decide) l)
    p7 := fun l => F.p7 (lis (by decide) l)
    p8 := fun l => F.p8 (lis (by decide) l)
    p9 := fun l => F.p9 (lis (by decide) l)
    p10 := fun l => F.p10 (lis (by decide) l)
    p11 := fun l => F.p11 (lis (by decide) l)
    p12 := fun l => F.p12 (lis (by decide) l)
    p13 := fun l => F.p13 (lis (by decide) l)
    p14 := fun l => F.p14 (lis (by decide) l)
    x0 := fun l => by
      obtain ⟨g, e, hg, hs, hx⟩ := F.x0 (lis (by decide) l)
      exact ⟨g, e, hg, hs, fun l' => hx (lis (by decide) l')⟩
    x1 := fun l => by
      obtain ⟨g, e, hg, hs, hx⟩ := F.x1 (lis (by decide) l)
      exact ⟨g, e, hg, hs, fun l' => hx (lis (by decide) l')⟩
    x2 := fun l => by
      obtain ⟨g, e, hg, hs, hx⟩ := F.x2 (lis (by decide) l)
      exact ⟨g, e, hg, hs, fun l' => hx (lis (by decide) l')⟩
    d01 := fun l l' => F.d01 (lis (by decide) l) (lis (by decide) l')
    d02 := fun l l' => F.d02 (lis (by decide) l) (lis (by decide) l')
    d12 := fun l l' => F.d12 (lis (by decide) l) (lis (by decide) l')
    y0 := fun l => getD_set_true (F.y0 (lis (by decide) l))
    y1 := fun l => getD_set_true (F.y1 (lis (by decide) l))
    y2 := fun l => getD_set_true (F.y2 (lis (by decide) l)) }
theorem LF.set4 (F : LF w0 w L g0 a b c d e f x y z b0 b1 b2 s0 s1 s2 s3 s4 s5 s6 s7 s8 s9 s10 s11 s12 s13 s14) {v : Value} (n : v = .agg #[.bool (Big.ng x), .string (bst (Big.nu x)), .string (bst (Big.de x))]) : LF w0 w (L.setIfInBounds 4 true) g0 a b c d e f x y z b0 b1 b2 s0 s1 s2 s3 v s5 s6 s7 s8 s9 s10 s11 s12 s13 s14 :=
  { hb := F.hb
    p0 := fun l => F.p0 (lis (by decide) l)
    p1 := fun l => F.p1 (lis (by decide) l)
    p2 := fun l => F.p2 (lis (by decide) l)
    p3 := fun l => F.p3 (lis (by decide) l)
    p4 := fun _ => n
    p5 := fun l => F.p5 (lis (by decide) l)
    p6 := fun l => F.p6 (lis (by decide) l)
    p7 := fun l => F.p7 (lis (by decide) l)
    p8 := fun l => F.p8 (lis (by decide) l)
    p9 := fun l => F.p9 (lis (by decide) l)
    p10 := fun l => F.p10 (lis (by decide) l)
    p11 := fun l => F.p11 (lis (by decide) l)
    p12 := fun l => F.p12 (lis (by decide) l)
    p13 := fun l => F.p13 (lis (by decide) l)
    p14 := fun l => F.p14 (lis (by decide) l)
    x0 := fun l => by
      obtain ⟨g, e, hg, hs, hx⟩ := F.x0 (lis (by decide) l)
      exact ⟨g, e, hg, hs, fun l' => hx (lis (by decide) l')⟩
    x1 := fun l => by
      obtain ⟨g, e, hg, hs, hx⟩ := F.x1 (lis (by decide) l)
      exact ⟨g, e, hg, hs, fun l' => hx (lis (by decide) l')⟩
    x2 := fun l => by
      obtain ⟨g, e, hg, hs, hx⟩ := F.x2 (lis (by decide) l)
      exact ⟨g, e, hg, hs, fun l' => hx (lis (by decide) l')⟩
    d01 := fun l l' => F.d01 (lis (by decide) l) (lis (by decide) l')
    d02 := fun l l' => F.d02 (lis (by decide) l) (lis (by decide) l')
    d12 := fun l l' => F.d12 (lis (by decide) l) (lis (by decide) l')
    y0 := fun l => getD_set_true (F.y0 (lis (by decide) l))
    y1 := fun l => getD_set_true (F.y1 (lis (by decide) l))
    y2 := fun l => getD_set_true (F.y2 (lis (by decide) l)) }
theorem LF.set5 (F : LF w0 w L g0 a b c d e f x y z b0 b1 b2 s0 s1 s2 s3 s4 s5 s6 s7 s8 s9 s10 s11 s12 s13 s14) {v : Value} (n : v = .pointer (some ⟨g0, 2, none⟩)) : LF w0 w (L.setIfInBounds 5 true) g0 a b c d e f x y z b0 b1 b2 s0 s1 s2 s3 s4 v s6 s7 s8 s9 s10 s11 s12 s13 s14 :=
  { hb := F.hb
    p0 := fun l => F.p0 (lis (by decide) l)
    p1 := fun l => F.p1 (lis (by decide) l)
    p2 := fun l => F.p2 (lis (by decide) l)
    p3 := fun l => F.p3 (lis (by decide) l)
    p4 := fun l => F.p4 (lis (by decide) l)
    p5 := fun _ => n
    p6 := fun l => F.p6 (lis (by decide) l)
    p7 := fun l => F.p7 (lis (by decide) l)
    p8 := fun l => F.p8 (lis (by decide) l)
    p9 := fun l => F.p9 (lis (by decide) l)
    p10 := fun l => F.p10 (lis (by decide) l)
    p11 := fun l => F.p11 (lis (by decide) l)
    p12 := fun l => F.p12 (lis (by decide) l)
    p13 := fun l => F.p13 (lis (by decide) l)
    p14 := fun l => F.p14 (lis (by decide) l)
    x0 := fun l => by
      obtain ⟨g, e, hg, hs, hx⟩ := F.x0 (lis (by decide) l)
      exact ⟨g, e, hg, hs, fun l' => hx (lis (by decide) l')⟩
    x1 := fun l => by
      obtain ⟨g, e, hg, hs, hx⟩ := F.x1 (lis (by decide) l)
      exact ⟨g, e, hg, hs, fun l' => hx (lis (by decide) l')⟩
    x2 := fun l => by
      obtain ⟨g, e, hg, hs, hx⟩ := F.x2 (lis (by decide) l)
      exact ⟨g, e, hg, hs, fun l' => hx (lis (by decide) l')⟩
    d01 := fun l l' => F.d01 (lis (by decide) l) (lis (by decide) l')
    d02 := fun l l' => F.d02 (lis (by decide) l) (lis (by decide) l')
    d12 := fun l l' => F.d12 (lis (by decide) l) (lis (by decide) l')
    y0 := fun l => getD_set_true (F.y0 (lis (by decide) l))
    y1 := fun l => getD_set_true (F.y1 (lis (by decide) l))
    y2 := fun l => getD_set_true (F.y2 (lis (by decide) l)) }
theorem LF.set6 (F : LF w0 w L g0 a b c d e f x y z b0 b1 b2 s0 s1 s2 s3 s4 s5 s6 s7 s8 s9 s10 s11 s12 s13 s14) {v : Value} (n : v = .int .i16 c) : LF w0 w (L.setIfInBounds 6 true) g0 a b c d e f x y z b0 b1 b2 s0 s1 s2 s3 s4 s5 v s7 s8 s9 s10 s11 s12 s13 s14 :=
  { hb := F.hb
    p0 := fun l => F.p0 (lis (by decide) l)
    p1 := fun l => F.p1 (lis (by decide) l)
    p2 := fun l => F.p2 (lis (by decide) l)
    p3 := fun l => F.p3 (lis (by decide) l)
    p4 := fun l => F.p4 (lis (by decide) l)
    p5 := fun l => F.p5 (lis (by decide) l)
    p6 := fun _ => n
    p7 := fun l => F.p7 (lis (by decide) l)
    p8 := fun l => F.p8 (lis (by decide) l)
    p9 := fun l => F.p9 (lis (by decide) l)
    p10 := fun l => F.p10 (lis (by decide) l)
    p11 := fun l => F.p11 (lis (by decide) l)
    p12 := fun l => F.p12 (lis (by decide) l)
    p13 := fun l => F.p13 (lis (by decide) l)
    p14 := fun l => F.p14 (lis (by decide) l)
    x0 := fun l => by
      obtain ⟨g, e, hg, hs, hx⟩ := F.x0 (lis (by decide) l)
      exact ⟨g, e, hg, hs, fun l' => hx (lis (by decide) l')⟩
    x1 := fun l => by
      obtain ⟨g, e, hg, hs, hx⟩ := F.x1 (lis (by decide) l)
      exact ⟨g, e, hg, hs, fun l' => hx (lis (by decide) l')⟩
    x2 := fun l => by
      obtain ⟨g, e, hg, hs, hx⟩ := F.x2 (lis (by decide) l)
      exact ⟨g, e, hg, hs, fun l' => hx (lis (by decide) l')⟩
    d01 := fun l l' => F.d01 (lis (by decide) l) (lis (by decide) l')
    d02 := fun l l' => F.d02 (lis (by decide) l) (lis (by decide) l')
    d12 := fun l l' => F.d12 (lis (by decide) l) (lis (by decide) l')
    y0 := fun l => getD_set_true (F.y0 (lis (by decide) l))
    y1 := fun l => getD_set_true (F.y1 (lis (by decide) l))
    y2 := fun l => getD_set_true (F.y2 (lis (by decide) l)) }
theorem LF.set7 (F : LF w0 w L g0 a b c d e f x y z b0 b1 b2 s0 s1 s2 s3 s4 s5 s6 s7 s8 s9 s10 s11 s12 s13 s14) {v : Value} (n : v = .pointer (some ⟨g0, 3, none⟩)) : LF w0 w (L.setIfInBounds 7 true) g0 a b c d e f x y z b0 b1 b2 s0 s1 s2 s3 s4 s5 s6 v s8 s9 s10 s11 s12 s13 s14 :=
  { hb := F.hb
    p0 := fun l => F.p0 (lis (by decide) l)
    p1 := fun l => F.p1 (lis (by decide) l)
    p2 := fun l => F.p2 (lis (by decide) l)
    p3 := fun l => F.p3 (lis (by decide) l)
    p4 := fun l => F.p4 (lis (by decide) l)
    p5 := fun l => F.p5 (lis (by decide) l)
    p6 := fun l => F.p6 (lis (by decide) l)
    p7 := fun _ => n
    p8 := fun l => F.p8 (lis (by decide) l)
    p9 := fun l => F.p9 (lis (by decide) l)
    p10 := fun l => F.p10 (lis (by decide) l)
    p11 := fun l => F.p11 (lis (by decide) l)
    p12 := fun l => F.p12 (lis (by decide) l)
    p13 := fun l => F.p13 (lis (by decide) l)
    p14 := fun l => F.p14 (lis (by decide) l)
    x0 := fun l => by
      obtain ⟨g, e, hg, hs, hx⟩ := F.x0 (lis (by decide) l)
      exact ⟨g, e, hg, hs, fun l' => hx (lis (by decide) l')⟩
    x1 := fun l => by
      obtain ⟨g, e, hg, hs, hx⟩ := F.x1 (lis (by decide) l)
      exact ⟨g, e, hg, hs, fun l' => hx (lis (by decide) l')⟩
    x2 := fun l => by
      obtain ⟨g, e, hg, hs, hx⟩ := F.x2 (lis (by decide) l)
      exact ⟨g, e, hg, hs, fun l' => hx (lis (by decide) l')⟩
    d01 := fun l l' => F.d01 (lis (by decide) l) (lis (by decide) l')
    d02 := fun l l' => F.d02 (lis (by decide) l) (lis (by decide) l')
    d12 := fun l l' => F.d12 (lis (by decide) l) (lis (by decide) l')
    y0 := fun l => getD_set_true (F.y0 (lis (by decide) l))
    y1 := fun l => getD_set_true (F.y1 (lis (by decide) l))
    y2 := fun l => getD_set_true (F.y2 (lis (by decide) l)) }
theorem LF.set8 (F : LF w0 w L g0 a b c d e f x y z b0 b1 b2 s0 s1 s2 s3 s4 s5 s6 s7 s8 s9 s10 s11 s12 s13 s14) {v : Value} (n : v = .int .i16 d) : LF w0 w (L.setIfInBounds 8 true) g0 a b c d e f x y z b0 b1 b2 s0 s1 s2 s3 s4 s5 s6 s7 v s9 s10 s11 s12 s13 s14 :=
  { hb := F.hb
    p0 := fun l => F.p0 (lis (by decide) l)
    p1 := fun l => F.p1 (lis (by decide) l)
    p2 := fun l => F.p2 (lis (by decide) l)
    p3 := fun l => F.p3 (lis (by decide) l)
    p4 := fun l => F.p4 (lis (by decide) l)
    p5 := fun l => F.p5 (lis (by decide) l)
    p6 := fun l => F.p6 (lis (by decide) l)
    p7 := fun l => F.p7 (lis (by decide) l)
    p8 := fun _ => n
    p9 := fun l => F.p9 (lis (by decide) l)
    p10 := fun l => F.p10 (lis (by decide) l)
    p11 := fun l => F.p11 (lis (by decide) l)
    p12 := fun l => F.p12 (lis (by decide) l)
    p13 := fun l => F.p13 (lis (by decide) l)
    p14 := fun l => F.p14 (lis (by decide) l)
    x0 := fun l => by
      obtain ⟨g, e, hg, hs, hx⟩ := F.x0 (lis (by decide) l)
      exact ⟨g, e, hg, hs, fun l' => hx (lis (by decide) l')⟩
    x1 := fun l => by
      obtain ⟨g, e, hg, hs, hx⟩ := F.x1 (lis (by decide) l)
      exact ⟨g, e, hg, hs, fun l' => hx (lis (by decide) l')⟩
    x2 := fun l => by
      obtain ⟨g, e, hg, hs, hx⟩ := F.x2 (lis (by decide) l)
      exact ⟨g, e, hg, hs, fun l' => hx (lis (by decide) l')⟩
    d01 := fun l l' => F.d01 (lis (by decide) l) (lis (by decide) l')
    d02 := fun l l' => F.d02 (lis (by decide) l) (lis (by decide) l')
    d12 := fun l l' => F.d12 (lis (by decide) l) (lis (by decide) l')
    y0 := fun l => getD_set_true (F.y0 (lis (by decide) l))
    y1 := fun l => getD_set_true (F.y1 (lis (by decide) l))
    y2 := fun l => getD_set_true (F.y2 (lis (by decide) l)) }
theorem LF.set9 (F : LF w0 w L g0 a b c d e f x y z b0 b1 b2 s0 s1 s2 s3 s4 s5 s6 s7 s8 s9 s10 s11 s12 s13 s14) {v : Value} (n : v = .agg #[.bool (Big.ng y), .string (bst (Big.nu y)), .string (bst (Big.de y))]) : LF w0 w (L.setIfInBounds 9 true) g0 a b c d e f x y z b0 b1 b2 s0 s1 s2 s3 s4 s5 s6 s7 s8 v s10 s11 s12 s13 s14 :=
  { hb := F.hb
    p0 := fun l => F.p0 (lis (by decide) l)
    p1 := fun l => F.p1 (lis (by decide) l)
    p2 := fun l => F.p2 (lis (by decide) l)
    p3 := fun l => F.p3 (lis (by decide) l)
    p4 := fun l => F.p4 (lis (by decide) l)
    p5 := fun l => F.p5 (lis (by decide) l)
    p6 := fun l => F.p6 (lis (by decide) l)
    p7 := fun l => F.p7 (lis (by decide) l)
    p8 := fun l => F.p8 (lis (by decide) l)
    p9 := fun _ => n
    p10 := fun l => F.p10 (lis (by decide) l)
    p11 := fun l => F.p11 (lis (by decide) l)
    p12 := fun l => F.p12 (lis (by decide) l)
    p13 := fun l => F.p13 (lis (by decide) l)
    p14 := fun l => F.p14 (lis (by decide) l)
    x0 := fun l => by
      obtain ⟨g, e, hg, hs, hx⟩ := F.x0 (lis (by decide) l)
      exact ⟨g, e, hg, hs, fun l' => hx (lis (by decide) l')⟩
    x1 := fun l => by
      obtain ⟨g, e, hg, hs, hx⟩ := F.x1 (lis (by decide) l)
      exact ⟨g, e, hg, hs, fun l' => hx (lis (by decide) l')⟩
    x2 := fun l => by
      obtain ⟨g, e, hg, hs, hx⟩ := F.x2 (lis (by decide) l)
      exact ⟨g, e, hg, hs, fun l' => hx (lis (by decide) l')⟩
    d01 := fun l l' => F.d01 (lis (by decide) l) (lis (by decide) l')
    d02 := fun l l' => F.d02 (lis (by decide) l) (lis (by decide) l')
    d12 := fun l l' => F.d12 (lis (by decide) l) (lis (by decide) l')
    y0 := fun l => getD_set_true (F.y0 (lis (by decide) l))
    y1 := fun l => getD_set_true (F.y1 (lis (by decide) l))
    y2 := fun l => getD_set_true (F.y2 (lis (by decide) l)) }
theorem LF.set10 (F : LF w0 w L g0 a b c d e f x y z b0 b1 b2 s0 s1 s2 s3 s4 s5 s6 s7 s8 s9 s10 s11 s12 s13 s14) {v : Value} (n : v = .pointer (some ⟨g0, 4, none⟩)) : LF w0 w (L.setIfInBounds 10 true) g0 a b c d e f x y z b0 b1 b2 s0 s1 s2 s3 s4 s5 s6 s7 s8 s9 v s11 s12 s13 s14 :=
  { hb := F.hb
    p0 := fun l => F.p0 (lis (by decide) l)
    p1 := fun l => F.p1 (lis (by decide) l)
    p2 := fun l => F.p2 (lis (by decide) l)
    p3 := fun l => F.p3 (lis (by decide) l)
    p4 := fun l => F.p4 (lis (by decide) l)
    p5 := fun l => F.p5 (lis (by decide) l)
    p6 := fun l => F.p6 (lis (by decide) l)
    p7 := fun l => F.p7 (lis (by decide) l)
    p8 := fun l => F.p8 (lis (by decide) l)
    p9 := fun l => F.p9 (lis (by decide) l)
    p10 := fun _ => n
    p11 := fun l => F.p11 (lis (by decide) l)
    p12 := fun l => F.p12 (lis (by decide) l)
    p13 := fun l => F.p13 (lis (by decide) l)
    p14 := fun l => F.p14 (lis (by decide) l)
    x0 := fun l => by
      obtain ⟨g, e, hg, hs, hx⟩ := F.x0 (lis (by decide) l)
      exact ⟨g, e, hg, hs, fun l' => hx (lis (by decide) l')⟩
    x1 := fun l => by
      obtain ⟨g, e, hg, hs, hx⟩ := F.x1 (lis (by decide) l)
      exact ⟨g, e, hg, hs, fun l' => hx (lis (by decide) l')⟩
    x2 := fun l => by
      obtain ⟨g, e, hg, hs, hx⟩ := F.x2 (lis (by decide) l)
      exact ⟨g, e, hg, hs, fun l' => hx (lis (by decide) l')⟩
    d01 := fun l l' => F.d01 (lis (by decide) l) (lis (by decide) l')
    d02 := fun l l' => F.d02 (lis (by decide) l) (lis (by decide) l')
    d12 := fun l l' => F.d12 (lis (by decide) l) (lis (by decide) l')
    y0 := fun l => getD_set_true (F.y0 (lis (by decide) l))
    y1 := fun l => getD_set_true (F.y1 (lis (by decide) l))
    y2 := fun l => getD_set_true (F.y2 (lis (by decide) l)) }
theorem LF.set11 (F : LF w0 w L g0 a b c d e f x y z b0 b1 b2 s0 s1 s2 s3 s4 s5 s6 s7 s8 s9 s10 s11 s12 s13 s14) {v : Value} (n : v = .int .i16 e) : LF w0 w (L.setIfInBounds 11 true) g0 a b c d e f x y z b0 b1 b2 s0 s1 s2 s3 s4 s5 s6 s7 s8 s9 s10 v s12 s13 s14 :=
  { hb := F.hb
    p0 := fun l => F.p0 (lis (by decide) l)
    p1 := fun l => F.p1 (lis (by decide) l)
    p2 := fun l => F.p2 (lis (by decide) l)
    p3 := fun l => F.p3 (lis (by decide) l)
    p4 := fun l => F.p4 (lis (by decide) l)
    p5 := fun l => F.p5 (lis (by decide) l)
    p6 := fun l => F.p6 (lis (by decide) l)
    p7 := fun l => F.p7 (lis (by decide) l)
    p8 := fun l => F.p8 (lis (by decide) l)
    p9 := fun l => F.p9 (lis (by decide) l)
    p10 := fun l => F.p10 (lis (by decide) l)
    p11 := fun _ => n
    p12 := fun l => F.p12 (lis (by decide) l)
    p13 := fun l => F.p13 (lis (by decide) l)
    p14 := fun l => F.p14 (lis (by decide) l)
    x0 := fun l => by
      obtain ⟨g, e, hg, hs, hx⟩ := F.x0 (lis (by decide) l)
      exact ⟨g, e, hg, hs, fun l' => hx (lis (by decide) l')⟩
    x1 := fun l => by
      obtain ⟨g, e, hg, hs, hx⟩ := F.x1 (lis (by decide) l)
      exact ⟨g, e, hg, hs, fun l' => hx (lis (by decide) l')⟩
    x2 := fun l => by
      obtain ⟨g, e, hg, hs, hx⟩ := F.x2 (lis (by decide) l)
      exact ⟨g, e, hg, hs, fun l' => hx (lis (by decide) l')⟩
    d01 := fun l l' => F.d01 (lis (by decide) l) (lis (by decide) l')
    d02 := fun l l' => F.d02 (lis (by decide) l) (lis (by decide) l')
    d12 := fun l l' => F.d12 (lis (by decide) l) (lis (by decide) l')
    y0 := fun l => getD_set_true (F.y0 (lis (by decide) l))
    y1 := fun l => getD_set_true (F.y1 (lis (by decide) l))
    y2 := fun l => getD_set_true (F.y2 (lis (by decide) l)) }
theorem LF.set12 (F : LF w0 w L g0 a b c d e f x y z b0 b1 b2 s0 s1 s2 s3 s4 s5 s6 s7 s8 s9 s10 s11 s12 s13 s14) {v : Value} (n : v = .pointer (some ⟨g0, 5, none⟩)) : LF w0 w (L.setIfInBounds 12 true) g0 a b c d e f x y z b0 b1 b2 s0 s1 s2 s3 s4 s5 s6 s7 s8 s9 s10 s11 v s13 s14 :=
  { hb := F.hb
    p0 := fun l => F.p0 (lis (by decide) l)
    p1 := fun l => F.p1 (lis (by decide) l)
    p2 := fun l => F.p2 (lis (by decide) l)
    p3 := fun l => F.p3 (lis (by decide) l)
    p4 := fun l => F.p4 (lis (by decide) l)
    p5 := fun l => F.p5 (lis (by decide) l)
    p6 := fun l => F.p6 (lis (by decide) l)
    p7 := fun l => F.p7 (lis (by decide) l)
    p8 := fun l => F.p8 (lis (by decide) l)
    p9 := fun l => F.p9 (lis (by decide) l)
    p10 := fun l => F.p10 (lis (by decide) l)
    p11 := fun l => F.p11 (lis (by decide) l)
    p12 := fun _ => n
    p13 := fun l => F.p13 (lis (by decide) l)
    p14 := fun l => F.p14 (lis (by decide) l)
    x0 := fun l => by
      obtain ⟨g, e, hg, hs, hx⟩ := F.x0 (lis (by decide) l)
      exact ⟨g, e, hg, hs, fun l' => hx (lis (by decide) l')⟩
    x1 := fun l => by
      obtain ⟨g, e, hg, hs, hx⟩ := F.x1 (lis (by decide) l)
      exact ⟨g, e, hg, hs, fun l' => hx (lis (by decide) l')⟩
    x2 := fun l => by
      obtain ⟨g, e, hg, hs, hx⟩ := F.x2 (lis (by decide) l)
      exact ⟨g, e, hg, hs, fun l' => hx (lis (by decide) l')⟩
    d01 := fun l l' => F.d01 (lis (by decide) l) (lis (by decide) l')
    d02 := fun l l' => F.d02 (lis (by decide) l) (lis (by decide) l')
    d12 := fun l l' => F.d12 (lis (by decide) l) (lis (by decide) l')
    y0 := fun l => getD_set_true (F.y0 (lis (by decide) l))
    y1 := fun l => getD_set_true (F.y1 (lis (by decide) l))
    y2 := fun l => getD_set_true (F.y2 (lis (by decide) l)) }
theorem LF.set13 (F : LF w0 w L g0 a b c d e f x y z b0 b1 b2 s0 s1 s2 s3 s4 s5 s6 s7 s8 s9 s10 s11 s12 s13 s14) {v : Value} (n : v = .int .i16 f) : LF w0 w (L.setIfInBounds 13 true) g0 a b c d e f x y z b0 b1 b2 s0 s1 s2 s3 s4 s5 s6 s7 s8 s9 s10 s11 s12 v s14 :=
  { hb := F.hb
    p0 := fun l => F.p0 (lis (by decide) l)
    p1 := fun l => F.p1 (lis (by decide) l)
    p2 := fun l => F.p2 (lis (by decide) l)
    p3 := fun l => F.p3 (lis (by decide) l)
    p4 := fun l => F.p4 (lis (by decide) l)
    p5 := fun l => F.p5 (lis (by decide) l)
    p6 := fun l => F.p6 (lis (by decide) l)
    p7 := fun l => F.p7 (lis (by decide) l)
    p8 := fun l => F.p8 (lis (by decide) l)
    p9 := fun l => F.p9 (lis (by decide) l)
    p10 := fun l => F.p10 (lis (by decide) l)
    p11 := fun l => F.p11 (lis (by decide) l)
    p12 := fun l => F.p12 (lis (by decide) l)
    p13 := fun _ => n
    p14 := fun l => F.p14 (lis (by decide) l)
    x0 := fun l => by
      obtain ⟨g, e, hg, hs, hx⟩ := F.x0 (lis (by decide) l)
      exact ⟨g, e, hg, hs, fun l' => hx (lis (by decide) l')⟩
    x1 := fun l => by
      obtain ⟨g, e, hg, hs, hx⟩ := F.x1 (lis (by decide) l)
      exact ⟨g, e, hg, hs, fun l' => hx (lis (by decide) l')⟩
    x2 := fun l => by
      obtain ⟨g, e, hg, hs, hx⟩ := F.x2 (lis (by decide) l)
      exact ⟨g, e, hg, hs, fun l' => hx (lis (by decide) l')⟩
    d01 := fun l l' => F.d01 (lis (by decide) l) (lis (by decide) l')
    d02 := fun l l' => F.d02 (lis (by decide) l) (lis (by decide) l')
    d12 := fun l l' => F.d12 (lis (by decide) l) (lis (by decide) l')
    y0 := fun l => getD_set_true (F.y0 (lis (by decide) l))
    y1 := fun l => getD_set_true (F.y1 (lis (by decide) l))
    y2 := fun l => getD_set_true (F.y2 (lis (by decide) l)) }
theorem LF.set14 (F : LF w0 w L g0 a b c d e f x y z b0 b1 b2 s0 s1 s2 s3 s4 s5 s6 s7 s8 s9 s10 s11 s12 s13 s14) {v : Value} (n : v = .agg #[.bool (Big.ng z), .string (bst (Big.nu z)), .string (bst (Big.de z))]) : LF w0 w (L.setIfInBounds 14 true) g0 a b c d e f x y z b0 b1 b2 s0 s1 s2 s3 s4 s5 s6 s7 s8 s9 s10 s11 s12 s13 v :=
  { hb := F.hb
    p0 := fun l => F.p0 (lis (by decide) l)
    p1 := fun l => F.p1 (lis (by decide) l)
    p2 := fun l => F.p2 (lis (by decide) l)
    p3 := fun l => F.p3 (lis (by decide) l)
    p4 := fun l => F.p4 (lis (by decide) l)
    p5 := fun l => F.p5 (lis (by decide) l)
    p6 := fun l => F.p6 (lis (by decide) l)
    p7 := fun l => F.p7 (lis (by decide) l)
    p8 := fun l => F.p8 (lis (by decide) l)
    p9 := fun l => F.p9 (lis (by decide) l)
    p10 := fun l => F.p10 (lis (by decide) l)
    p11 := fun l => F.p11 (lis (by decide) l)
    p12 := fun l => F.p12 (lis (by decide) l)
    p13 := fun l => F.p13 (lis (by decide) l)
    p14 := fun _ => n
    x0 := fun l => by
      obtain ⟨g, e, hg, hs, hx⟩ := F.x0 (lis (by decide) l)
      exact ⟨g, e, hg, hs, fun l' => hx (lis (by decide) l')⟩
    x1 := fun l => by
      obtain ⟨g, e, hg, hs, hx⟩ := F.x1 (lis (by decide) l)
      exact ⟨g, e, hg, hs, fun l' => hx (lis (by decide) l')⟩
    x2 := fun l => by
      obtain ⟨g, e, hg, hs, hx⟩ := F.x2 (lis (by decide) l)
      exact ⟨g, e, hg, hs, fun l' => hx (lis (by decide) l')⟩
    d01 := fun l l' => F.d01 (lis (by decide) l) (lis (by decide) l')
    d02 := fun l l' => F.d02 (lis (by decide) l) (lis (by decide) l')
    d12 := fun l l' => F.d12 (lis (by decide) l) (lis (by decide) l')
    y0 := fun l => getD_set_true (F.y0 (lis (by decide) l))
    y1 := fun l => getD_set_true (F.y1 (lis (by decide) l))
    y2 := fun l => getD_set_true (F.y2 (lis (by decide) l)) }
theorem LF.box0 (F : LF w0 w L g0 a b c d e f x y z b0 b1 b2 s0 s1 s2 s3 s4 s5 s6 s7 s8 s9 s10 s11 s12 s13 s14) {v : Value} (n : ∃ g, v = .pointer (some ⟨g, 0, none⟩) ∧ w0.heap.size ≤ g ∧ (∃ a b c, At3 w g 26 a b c) ∧ ((L.setIfInBounds 15 true).getD 18 false = true → At3 w g 26 (.bool (Big.ng x)) (.string (bst (Big.nu x))) (.string (bst (Big.de x))))) (n1 : L.getD 16 false = true → v ≠ b1) (n2 : L.getD 17 false = true → v ≠ b2) : LF w0 w (L.setIfInBounds 15 true) g0 a b c d e f x y z v b1 b2 s0 s1 s2 s3 s4 s5 s6 s7 s8 s9 s10 s11 s12 s13 s14 :=
  { hb := F.hb
    p0 := fun l => F.p0 (lis (by decide) l)
    p1 := fun l => F.p1 (lis (by decide) l)
    p2 := fun l => F.p2 (lis (by decide) l)
    p3 := fun l => F.p3 (lis (by decide) l)
    p4 := fun l => F.p4 (lis (by decide) l)
    p5 := fun l => F.p5 (lis (by decide) l)
    p6 := fun l => F.p6 (lis (by decide) l)
    p7 := fun l => F.p7 (lis (by decide) l)
    p8 := fun l => F.p8 (lis (by decide) l)
    p9 := fun l => F.p9 (lis (by decide) l)
    p10 := fun l => F.p10 (lis (by decide) l)
    p11 := fun l => F.p11 (lis (by decide) l)
    p12 := fun l => F.p12 (lis (by decide) l)
    p13 := fun l => F.p13 (lis (by decide) l)
    p14 := fun l => F.p14 (lis (by decide) l)
    x0 := fun _ => n
    x1 := fun l => by
      obtain ⟨g, e, hg, hs, hx⟩ := F.x1 (lis (by decide) l)
      exact ⟨g, e, hg, hs, fun l' => hx (lis (by decide) l')⟩
    x2 := fun l => by
      obtain ⟨g, e, hg, hs, hx⟩ := F.x2 (lis (by decide) l)
      exact ⟨g, e, hg, hs, fun l' => hx (lis (by decide) l')⟩
    d01 := fun _ l => n1 (lis (by decide) l)
    d02 := fun _ l => n2 (lis (by decide) l)
    d12 := fun l l' => F.d12 (lis (by decide) l) (lis (by decide) l')
    y0 := fun l => getD_set_true (F.y0 (lis (by decide) l))
    y1 := fun l => getD_set_true (F.y1 (lis (by decide) l))
    y2 := fun l => getD_set_true (F.y2 (lis (by decide) l)) }
theorem LF.box1 (F : LF w0 w L g0 a b c d e f x y z b0 b1 b2 s0 s1 s2 s3 s4 s5 s6 s7 s8 s9 s10 s11 s12 s13 s14) {v : Value} (n : ∃ g, v = .pointer (some ⟨g, 0, none⟩) ∧ w0.heap.size ≤ g ∧ (∃ a b c, At3 w g 26 a b c) ∧ ((L.setIfInBounds 16 true).getD 19 false = true → At3 w g 26 (.bool (Big.ng y)) (.string (bst (Big.nu y))) (.string (bst (Big.de y))))) (n0 : L.getD 15 false = true → v ≠ b0) (n2 : L.getD 17 false = true → v ≠ b2) : LF w0 w (L.setIfInBounds 16 true) g0 a b c d e f x y z b0 v b2 s0 s1 s2 s3 s4 s5 s6 s7 s8 s9 s10 s11 s12 s13 s14 :=
  { hb := F.hb
    p0 := fun l => F.p0 (lis (by decide) l)
    p1 := fun l => F.p1 (lis (by decide) l)
    p2 := fun l => F.p2 (lis (by decide) l)
    p3 := fun l => F.p3 (lis (by decide) l)
    p4 := fun l => F.p4 (lis (by decide) l)
    p5 := fun l => F.p5 (lis (by decide) l)
    p6 := fun l => F.p6 (lis (by decide) l)
    p7 := fun l => F.p7 (lis (by decide) l)
    p8 := fun l => F.p8 (lis (by decide) l)
    p9 := fun l => F.p9 (lis (by decide) l)
    p10 := fun l => F.p10 (lis (by decide) l)
    p11 := fun l => F.p11 (lis (by decide) l)
    p12 := fun l => F.p12 (lis (by decide) l)
    p13 := fun l => F.p13 (lis (by decide) l)
    p14 := fun l => F.p14 (lis (by decide) l)
    x0 := fun l => by
      obtain ⟨g, e, hg, hs, hx⟩ := F.x0 (lis (by decide) l)
      exact ⟨g, e, hg, hs, fun l' => hx (lis (by decide) l')⟩
    x1 := fun _ => n
    x2 := fun l => by
      obtain ⟨g, e, hg, hs, hx⟩ := F.x2 (lis (by decide) l)
      exact ⟨g, e, hg, hs, fun l' => hx (lis (by decide) l')⟩
    d01 := fun l _ => (n0 (lis (by decide) l)).symm
    d02 := fun l l' => F.d02 (lis (by decide) l) (lis (by decide) l')
    d12 := fun _ l => n2 (lis (by decide) l)
    y0 := fun l => getD_set_true (F.y0 (lis (by decide) l))
    y1 := fun l => getD_set_true (F.y1 (lis (by decide) l))
    y2 := fun l => getD_set_true (F.y2 (lis (by decide) l)) }
theorem LF.box2 (F : LF w0 w L g0 a b c d e f x y z b0 b1 b2 s0 s1 s2 s3 s4 s5 s6 s7 s8 s9 s10 s11 s12 s13 s14) {v : Value} (n : ∃ g, v = .pointer (some ⟨g, 0, none⟩) ∧ w0.heap.size ≤ g ∧ (∃ a b c, At3 w g 26 a b c) ∧ ((L.setIfInBounds 17 true).getD 20 false = true → At3 w g 26 (.bool (Big.ng z)) (.string (bst (Big.nu z))) (.string (bst (Big.de z))))) (n0 : L.getD 15 false = true → v ≠ b0) (n1 : L.getD 16 false = true → v ≠ b1) : LF w0 w (L.setIfInBounds 17 true) g0 a b c d e f x y z b0 b1 v s0 s1 s2 s3 s4 s5 s6 s7 s8 s9 s10 s11 s12 s13 s14 :=
  { hb := F.hb
    p0 := fun l => F.p0 (lis (by decide) l)
    p1 := fun l => F.p1 (lis (by decide) l)
    p2 := fun l => F.p2 (lis (by decide) l)
    p3 := fun l => F.p3 (lis (by decide) l)
    p4 := fun l => F.p4 (lis (by decide) l)
    p5 := fun l => F.p5 (lis (by decide) l)
    p6 := fun l => F.p6 (lis (by decide) l)
    p7 := fun l => F.p7 (lis (by decide) l)
    p8 := fun l => F.p8 (lis (by decide) l)
    p9 := fun l => F.p9 (lis (by decide) l)
    p10 := fun l => F.p10 (lis (by decide) l)
    p11 := fun l => F.p11 (lis (by decide) l)
    p12 := fun l => F.p12 (lis (by decide) l)
    p13 := fun l => F.p13 (lis (by decide) l)
    p14 := fun l => F.p14 (lis (by decide) l)
    x0 := fun l => by
      obtain ⟨g, e, hg, hs, hx⟩ := F.x0 (lis (by decide) l)
      exact ⟨g, e, hg, hs, fun l' => hx (lis (by decide) l')⟩
    x1 := fun l => by
      obtain ⟨g, e, hg, hs, hx⟩ := F.x1 (lis (by decide) l)
      exact ⟨g, e, hg, hs, fun l' => hx (lis (by decide) l')⟩
    x2 := fun _ => n
    d01 := fun l l' => F.d01 (lis (by decide) l) (lis (by decide) l')
    d02 := fun l _ => (n0 (lis (by decide) l)).symm
    d12 := fun l _ => (n1 (lis (by decide) l)).symm
    y0 := fun l => getD_set_true (F.y0 (lis (by decide) l))
    y1 := fun l => getD_set_true (F.y1 (lis (by decide) l))
    y2 := fun l => getD_set_true (F.y2 (lis (by decide) l)) }
theorem LF.put0 (F : LF w0 w L g0 a b c d e f x y z b0 b1 b2 s0 s1 s2 s3 s4 s5 s6 s7 s8 s9 s10 s11 s12 s13 s14) (l0 : L.getD 15 false = true) (l1 : L.getD 16 false = true) (l2 : L.getD 17 false = true) {g : Nat} (eg : b0 = .pointer (some ⟨g, 0, none⟩)) : LF w0 (((w.setCell ⟨g, 0, none⟩ (.bool (Big.ng x))).setCell ⟨g, 1, none⟩ (.string (bst (Big.nu x)))).setCell ⟨g, 2, none⟩ (.string (bst (Big.de x)))) (L.setIfInBounds 18 true) g0 a b c d e f x y z b0 b1 b2 s0 s1 s2 s3 s4 s5 s6 s7 s8 s9 s10 s11 s12 s13 s14 := by
  obtain ⟨g', e', hg, ⟨a, b, c, hs⟩, -⟩ := F.x0 l0
  obtain rfl : g' = g := by rw [e'] at eg; simpa using eg
  exact {
    hb := put_below F.hb hg _ _ _
    p0 := fun l => F.p0 (lis (by decide) l)
    p1 := fun l => F.p1 (lis (by decide) l)
    p2 := fun l => F.p2 (lis (by decide) l)
    p3 := fun l => F.p3 (lis (by decide) l)
    p4 := fun l => F.p4 (lis (by decide) l)
    p5 := fun l => F.p5 (lis (by decide) l)
    p6 := fun l => F.p6 (lis (by decide) l)
    p7 := fun l => F.p7 (lis (by decide) l)
    p8 := fun l => F.p8 (lis (by decide) l)
    p9 := fun l => F.p9 (lis (by decide) l)
    p10 := fun l => F.p10 (lis (by decide) l)
    p11 := fun l => F.p11 (lis (by decide) l)
    p12 := fun l => F.p12 (lis (by decide) l)
    p13 := fun l => F.p13 (lis (by decide) l)
    p14 := fun l => F.p14 (lis (by decide) l)
    x0 := fun _ => ⟨g', e', hg, ⟨_, _, _, hs.put _ _ _⟩, fun _ => hs.put _ _ _⟩
    x1 := fun l => by
      obtain ⟨h, e, hh, ⟨a2, b2, c2, hs2⟩, hx⟩ := F.x1 (lis (by decide) l)
      have hne : h ≠ g' := by
        intro q; subst q; exact F.d01 l0 l1 (e'.trans e.symm)
      exact ⟨h, e, hh, ⟨_, _, _, ((hs2.far (p := ⟨g', 0, none⟩) hne _).far (p := ⟨g', 1, none⟩) hne _).far (p := ⟨g', 2, none⟩) hne _⟩, fun l' => (((hx (lis (by decide) l')).far (p := ⟨g', 0, none⟩) hne _).far (p := ⟨g', 1, none⟩) hne _).far (p := ⟨g', 2, none⟩) hne _⟩
    x2 := fun l => by
      obtain ⟨h, e, hh, ⟨a2, b2, c2, hs2⟩, hx⟩ := F.x2 (lis (by decide) l)
      have hne : h ≠ g' := by
        intro q; subst q; exact F.d02 l0 l2 (e'.trans e.symm)
      exact ⟨h, e, hh, ⟨_, _, _, ((hs2.far (p := ⟨g', 0, none⟩) hne _).far (p := ⟨g', 1, none⟩) hne _).far (p := ⟨g', 2, none⟩) hne _⟩, fun l' => (((hx (lis (by decide) l')).far (p := ⟨g', 0, none⟩) hne _).far (p := ⟨g', 1, none⟩) hne _).far (p := ⟨g', 2, none⟩) hne _⟩
    d01 := fun l l' => F.d01 (lis (by decide) l) (lis (by decide) l')
    d02 := fun l l' => F.d02 (lis (by decide) l) (lis (by decide) l')
    d12 := fun l l' => F.d12 (lis (by decide) l) (lis (by decide) l')
    y0 := fun _ => getD_set_true l0
    y1 := fun l => getD_set_true (F.y1 (lis (by decide) l))
    y2 := fun l => getD_set_true (F.y2 (lis (by decide) l)) }
theorem LF.put1 (F : LF w0 w L g0 a b c d e f x y z b0 b1 b2 s0 s1 s2 s3 s4 s5 s6 s7 s8 s9 s10 s11 s12 s13 s14) (l0 : L.getD 15 false = true) (l1 : L.getD 16 false = true) (l2 : L.getD 17 false = true) {g : Nat} (eg : b1 = .pointer (some ⟨g, 0, none⟩)) : LF w0 (((w.setCell ⟨g, 0, none⟩ (.bool (Big.ng y))).setCell ⟨g, 1, none⟩ (.string (bst (Big.nu y)))).setCell ⟨g, 2, none⟩ (.string (bst (Big.de y)))) (L.setIfInBounds 19 true) g0 a b c d e f x y z b0 b1 b2 s0 s1 s2 s3 s4 s5 s6 s7 s8 s9 s10 s11 s12 s13 s14 := by
  obtain ⟨g', e', hg, ⟨a, b, c, hs⟩, -⟩ := F.x1 l1
  obtain rfl : g' = g := by rw [e'] at eg; simpa using eg
  exact {
    hb := put_below F.hb hg _ _ _
    p0 := fun l => F.p0 (lis (by decide) l)
    p1 := fun l => F.p1 (lis (by decide) l)
    p2 := fun l => F.p2 (lis (by decide) l)
    p3 := fun l => F.p3 (lis (by decide) l)
    p4 := fun l => F.p4 (lis (by decide) l)
    p5 := fun l => F.p5 (lis (by decide) l)
    p6 := fun l => F.p6 (lis (by decide) l)
    p7 := fun l => F.p7 (lis (by decide) l)
    p8 := fun l => F.p8 (lis (by decide) l)
    p9 := fun l => F.p9 (lis (by decide) l)
    p10 := fun l => F.p10 (lis (by decide) l)
    p11 := fun l => F.p11 (lis (by decide) l)
    p12 := fun l => F.p12 (lis (by decide) l)
    p13 := fun l => F.p13 (lis (by decide) l)
    p14 := fun l => F.p14 (lis (by decide) l)
    x0 := fun l => by
      obtain ⟨h, e, hh, ⟨a2, b2, c2, hs2⟩, hx⟩ := F.x0 (lis (by decide) l)
      have hne : h ≠ g' := by
        intro q; subst q; exact F.d01 l0 l1 (e.trans e'.symm)
      exact ⟨h, e, hh, ⟨_, _, _, ((hs2.far (p := ⟨g', 0, none⟩) hne _).far (p := ⟨g', 1, none⟩) hne _).far (p := ⟨g', 2, none⟩) hne _⟩, fun l' => (((hx (lis (by decide) l')).far (p := ⟨g', 0, none⟩) hne _).far (p := ⟨g', 1, none⟩) hne _).far (p := ⟨g', 2, none⟩) hne _⟩
    x1 := fun _ => ⟨g', e', hg, ⟨_, _, _, hs.put _ _ _⟩, fun _ => hs.put _ _ _⟩
    x2 := fun l => by
      obtain ⟨h, e, hh, ⟨a2, b2, c2, hs2⟩, hx⟩ := F.x2 (lis (by decide) l)
      have hne : h ≠ g' := by
        intro q; subst q; exact F.d12 l1 l2 (e'.trans e.symm)
      exact ⟨h, e, hh, ⟨_, _, _, ((hs2.far (p := ⟨g', 0, none⟩) hne _).far (p := ⟨g', 1, none⟩) hne _).far (p := ⟨g', 2, none⟩) hne _⟩, fun l' => (((hx (lis (by decide) l')).far (p := ⟨g', 0, none⟩) hne _).far (p := ⟨g', 1, none⟩) hne _).far (p := ⟨g', 2, none⟩) hne _⟩
    d01 := fun l l' => F.d01 (lis (by decide) l) (lis (by decide) l')
    d02 := fun l l' => F.d02 (lis (by decide) l) (lis (by decide) l')
    d12 := fun l l' => F.d12 (lis (by decide) l) (lis (by decide) l')
    y0 := fun l => getD_set_true (F.y0 (lis (by decide) l))
    y1 := fun _ => getD_set_true l1
    y2 := fun l => getD_set_true (F.y2 (lis (by decide) l)) }
theorem LF.put2 (F : LF w0 w L g0 a b c d e f x y z b0 b1 b2 s0 s1 s2 s3 s4 s5 s6 s7 s8 s9 s10 s11 s12 s13 s14) (l0 : L.getD 15 false = true) (l1 : L.getD 16 false = true) (l2 : L.getD 17 false = true) {g : Nat} (eg : b2 = .pointer (some ⟨g, 0, none⟩)) : LF w0 (((w.setCell ⟨g, 0, none⟩ (.bool (Big.ng z))).setCell ⟨g, 1, none⟩ (.string (bst (Big.nu z)))).setCell ⟨g, 2, none⟩ (.string (bst (Big.de z)))) (L.setIfInBounds 20 true) g0 a b c d e f x y z b0 b1 b2 s0 s1 s2 s3 s4 s5 s6 s7 s8 s9 s10 s11 s12 s13 s14 := by
  obtain ⟨g', e', hg, ⟨a, b, c, hs⟩, -⟩ := F.x2 l2
  obtain rfl : g' = g := by rw [e'] at eg; simpa using eg
  exact {
    hb := put_below F.hb hg _ _ _
    p0 := fun l => F.p0 (lis (by decide) l)
    p1 := fun l => F.p1 (lis (by decide) l)
    p2 := fun l => F.p2 (lis (by decide) l)
    p3 := fun l => F.p3 (lis (by decide) l)
    p4 := fun l => F.p4 (lis (by decide) l)
    p5 := fun l => F.p5 (lis (by decide) l)
    p6 := fun l => F.p6 (lis (by decide) l)
    p7 := fun l => F.p7 (lis (by decide) l)
    p8 := fun l => F.p8 (lis (by decide) l)
    p9 := fun l => F.p9 (lis (by decide) l)
    p10 := fun l => F.p10 (lis (by decide) l)
    p11 := fun l => F.p11 (lis (by decide) l)
    p12 := fun l => F.p12 (lis (by decide) l)
    p13 := fun l => F.p13 (lis (by decide) l)
    p14 := fun l => F.p14 (lis (by decide) l)
    x0 := fun l => by
      obtain ⟨h, e, hh, ⟨a2, b2, c2, hs2⟩, hx⟩ := F.x0 (lis (by decide) l)
      have hne : h ≠ g' := by
        intro q; subst q; exact F.d02 l0 l2 (e.trans e'.symm)
      exact ⟨h, e, hh, ⟨_, _, _, ((hs2.far (p := ⟨g', 0, none⟩) hne _).far (p := ⟨g', 1, none⟩) hne _).far (p := ⟨g', 2, none⟩) hne _⟩, fun l' => (((hx (lis (by decide) l')).far (p := ⟨g', 0, none⟩) hne _).far (p := ⟨g', 1, none⟩) hne _).far (p := ⟨g', 2, none⟩) hne _⟩
    x1 := fun l => by
      obtain ⟨h, e, hh, ⟨a2, b2, c2, hs2⟩, hx⟩ := F.x1 (lis (by decide) l)
      have hne : h ≠ g' := by
        intro q; subst q; exact F.d12 l1 l2 (e.trans e'.symm)
      exact ⟨h, e, hh, ⟨_, _, _, ((hs2.far (p := ⟨g', 0, none⟩) hne _).far (p := ⟨g', 1, none⟩) hne _).far (p := ⟨g', 2, none⟩) hne _⟩, fun l' => (((hx (lis (by decide) l')).far (p := ⟨g', 0, none⟩) hne _).far (p := ⟨g', 1, none⟩) hne _).far (p := ⟨g', 2, none⟩) hne _⟩
    x2 := fun _ => ⟨g', e', hg, ⟨_, _, _, hs.put _ _ _⟩, fun _ => hs.put _ _ _⟩
    d01 := fun l l' => F.d01 (lis (by decide) l) (lis (by decide) l')
    d02 := fun l l' => F.d02 (lis (by decide) l) (lis (by decide) l')
    d12 := fun l l' => F.d12 (lis (by decide) l) (lis (by decide) l')
    y0 := fun l => getD_set_true (F.y0 (lis (by decide) l))
    y1 := fun l => getD_set_true (F.y1 (lis (by decide) l))
    y2 := fun _ => getD_set_true l2 }
theorem LF.new0 (F : LF w0 w L g0 a b c d e f x y z b0 b1 b2 s0 s1 s2 s3 s4 s5 s6 s7 s8 s9 s10 s11 s12 s13 s14) (l : L.getD 15 false = true) : Value.pointer (some ⟨w.heap.size, 0, none⟩) ≠ b0 := by
  obtain ⟨g, e, _, ⟨_, _, _, hs⟩, _⟩ := F.x0 l
  intro q
  rw [e] at q
  have := hs.lt
  simp at q <;> omega
theorem LF.new1 (F : LF w0 w L g0 a b c d e f x y z b0 b1 b2 s0 s1 s2 s3 s4 s5 s6 s7 s8 s9 s10 s11 s12 s13 s14) (l : L.getD 16 false = true) : Value.pointer (some ⟨w.heap.size, 0, none⟩) ≠ b1 := by
  obtain ⟨g, e, _, ⟨_, _, _, hs⟩, _⟩ := F.x1 l
  intro q
  rw [e] at q
  have := hs.lt
  simp at q <;> omega
theorem LF.new2 (F : LF w0 w L g0 a b c d e f x y z b0 b1 b2 s0 s1 s2 s3 s4 s5 s6 s7 s8 s9 s10 s11 s12 s13 s14) (l : L.getD 17 false = true) : Value.pointer (some ⟨w.heap.size, 0, none⟩) ≠ b2 := by
  obtain ⟨g, e, _, ⟨_, _, _, hs⟩, _⟩ := F.x2 l
  intro q
  rw [e] at q
  have := hs.lt
  simp at q <;> omega
end
end Go.Proofs.YtepnghhgmjobjaaDoor
namespace Go.Proofs.YtepnghhgmjobjaaDoor
open Go.RowKit
set_option maxRecDepth 100000 in
set_option maxHeartbeats 4000000 in
theorem exSub_any (w : World) (vx vy : Value) (q r : Rat) (k : Nat) (hx : NumIn w vx q) (hy : NumIn w vy r) (sx : Sm k q) (sy : Sm k r) (hk : k ≤ 10000000) :
    Calls Tryd.prog 21 #[vx, vy] w (Num1 w (q - r)) := by
  have HQ := Lib.hid hx; have HR := Lib.hid hy; have SN := Lib.hid sy.neg
  obtain ⟨A, l, c, A2, l2, c2, rfl, hx1, hx2⟩ := hx.is_agg
  obtain ⟨B, m, d, B2, m2, d2, rfl, hy1, hy2⟩ := hy.is_agg
  have HX := Lib.hid (And.intro hx1 hx2); have HY := Lib.hid (And.intro hy1 hy2)
  have SX := Lib.hid sx; have SY := Lib.hid sy
  have GX := Lib.hid (And.intro (@Big.ng_pos q) (And.intro (@Big.ng_pos r) (And.intro (Big.de_pos q) (Big.de_pos r))))
  rw [Rat.sub_eq_add_neg]
  clear hx hy hx1 hx2 hy1 hy2 sx sy GX HX HY
  generalize Big.ng q = nq at *
  generalize Big.ng r = nr at *
  go_enter Tryd.func21, Tryd.ntmps21
  go_wp2_with fail
  obtain ⟨X0, Y0, R0, B0⟩ := boxed3 w 45 45 (.bool nq) (.slice A l c) (.slice A2 l2 c2) (.bool nr) (.slice B m d) (.slice B2 m2 d2) (.bool false) (.slice none 0 0) (.slice none 0 0)
  have HX0 := Lib.hid X0; have HY0 := Lib.hid Y0; have HR0 := Lib.hid R0; have HB0 := Lib.hid B0
  clear X0 Y0 R0 B0
  generalize ((w.alloc (.cells #[.bool nq, .slice A l c, .slice A2 l2 c2] 45)).alloc (.cells #[.bool nr, .slice B m d, .slice B2 m2 d2] 45)).alloc (.cells #[.bool false, .slice none 0 0, .slice none 0 0] 45) = w0 at *
  have KX := Lib.hid (fun W (h : Below w0.heap.size w0 W) => And.intro (HX0.out.keep h).c0 (And.intro (HX0.out.keep h).c1 (And.intro (HX0.out.keep h).c2 (And.intro (HY0.out.keep h).c0 (And.intro (HY0.out.keep h).c1 (HY0.out.keep h).c2)))))
  have RES := Lib.hid (fun W (h : Below w0.heap.size w0 W) => HR0.out.keep h)
  have C1 := Lib.hid (fun W (h : Below w0.heap.size w0 W) => liftN h (exNeg_any W _ _ ((HR.out.keep HB0.out).keep h)))
  have C2 := Lib.hid (fun W v (hv : NumIn W v (-r)) (h : Below w0.heap.size w0 W) => liftN h (exAdd_any W _ v _ _ k ((HQ.out.keep HB0.out).keep h) hv SX.out SN.out hk))
  have KP := Lib.hid (fun W x y z (h : Below w0.heap.size w0 W) => show ((((W.setCell ⟨w.heap.size + 1 + 1, 0, none⟩ x).setCell ⟨w.heap.size + 1 + 1, 1, none⟩ y).setCell ⟨w.heap.size + 1 + 1, 2, none⟩ z).cell? ⟨w.heap.size, 0, none⟩ = some (.bool nq)) ∧ ((((W.setCell ⟨w.heap.size + 1 + 1, 0, none⟩ x).setCell ⟨w.heap.size + 1 + 1, 1, none⟩ y).setCell ⟨w.heap.size + 1 + 1, 2, none⟩ z).cell? ⟨w.heap.size, 1, none⟩ = some (.slice A l c)) ∧ ((((W.setCell ⟨w.heap.size + 1 + 1, 0, none⟩ x).setCell ⟨w.heap.size + 1 + 1, 1, none⟩ y).setCell ⟨w.heap.size + 1 + 1, 2, none⟩ z).cell? ⟨w.heap.size, 2, none⟩ = some (.slice A2 l2 c2)) ∧ ((((W.setCell ⟨w.heap.size + 1 + 1, 0, none⟩ x).setCell ⟨w.heap.size + 1 + 1, 1, none⟩ y).setCell ⟨w.heap.size + 1 + 1, 2, none⟩ z).cell? ⟨w.heap.size + 1, 0, none⟩ = some (.bool nr)) ∧ ((((W.setCell ⟨w.heap.size + 1 + 1, 0, none⟩ x).setCell ⟨w.heap.size + 1 + 1, 1, none⟩ y).setCell ⟨w.heap.size + 1 + 1, 2, none⟩ z).cell? ⟨w.heap.size + 1, 1, none⟩ = some (.slice B m d)) ∧ ((((W.setCell ⟨w.heap.size + 1 + 1, 0, none⟩ x).setCell ⟨w.heap.size + 1 + 1, 1, none⟩ y).setCell ⟨w.heap.size + 1 + 1, 2, none⟩ z).cell? ⟨w.heap.size + 1, 2, none⟩ = some (.slice B2 m2 d2)) from by exact ⟨put_cell (KX.out W h).1 (by omega) x y z, put_cell (KX.out W h).2.1 (by omega) x y z, put_cell (KX.out W h).2.2.1 (by omega) x y z, put_cell (KX.out W h).2.2.2.1 (by omega) x y z, put_cell (KX.out W h).2.2.2.2.1 (by omega) x y z, put_cell (KX.out W h).2.2.2.2.2 (by omega) x y z⟩)
  go_region_held3 (fun w' => w'.cell? ⟨w.heap.size, 0, none⟩ = some (.bool nq) ∧ w'.cell? ⟨w.heap.size, 1, none⟩ = some (.slice A l c) ∧ w'.cell? ⟨w.heap.size, 2, none⟩ = some (.slice A2 l2 c2) ∧ w'.cell? ⟨w.heap.size + 1, 0, none⟩ = some (.bool nr) ∧ w'.cell? ⟨w.heap.size + 1, 1, none⟩ = some (.slice B m d) ∧ w'.cell? ⟨w.heap.size + 1, 2, none⟩ = some (.slice B2 m2 d2))
    (first | exact KX.out _ (by first | assumption | exact Below.refl _ _ | exact below_drew (Below.refl _ _) | exact below_drew (by assumption)) | exact KP.out _ _ _ _ (by assumption))
    (first
      | (go_at_call 41; (with_reducible refine (C1.out _ (by first | assumption | exact Below.refl _ _ | exact below_drew (Below.refl _ _) | exact below_drew (by assumption))).mono ?_); rintro e w2 ⟨v2, rfl, hv2, hw2, hw2'⟩)
      | (go_at_call 38; (with_reducible refine (C2.out _ _ (by first | exact hv2 | exact hv2.keep (below_drew (Below.refl _ _))) (by first | assumption | exact Below.refl _ _ | exact below_drew (Below.refl _ _) | exact below_drew (by assumption))).mono ?_); rintro e w3 ⟨v3, rfl, hv3, hw3, hw3'⟩; have RR := RES.out _ hw3; have k0 := RR.c0; have k1 := RR.c1; have k2 := RR.c2; have f0 := RR.frozen 0; have f1 := RR.frozen 1; have f2 := RR.frozen 2; obtain ⟨A8, l8, c8, A9, l9, c9, rfl, h8, h9⟩ := hv3.is_agg; have HH := Lib.hid (And.intro h8 h9); clear hv3 h8 h9; obtain ⟨nz, hnz⟩ : ∃ z, Big.ng (q + -r) = z := ⟨_, rfl⟩; rw [hnz]; have HNZ := Lib.hid hnz; clear hnz)
      | fail)
  obtain ⟨D1, D2, D3⟩ := num_done (bb := nz) (show NumRes w3 _ _ from RR) (HB0.out.trans (hw3.mono HB0.out.size)) (by omega) HH.out.1 HH.out.2 HNZ.out.symm
  have HD1 := Lib.hid D1; have HD2 := Lib.hid D2; have HD3 := Lib.hid D3
  clear D1 D2 D3 k0 k1 k2 f0 f1 f2 RR
  generalize (((w3.setCell ⟨w.heap.size + 1 + 1, 0, none⟩ (.bool (nz))).setCell ⟨w.heap.size + 1 + 1, 1, none⟩ (.slice A8 l8 c8)).setCell ⟨w.heap.size + 1 + 1, 2, none⟩ (.slice A9 l9 c9)) = wz at HD1 HD2 HD3 ⊢
  have r0 := HD1.out.c0; have r1 := HD1.out.c1; have r2 := HD1.out.c2
  go_wp2_with fail
  exact bodyPost_ret (v := .agg #[.bool (nz), (.slice A8 l8 c8), (.slice A9 l9 c9)]) (by simp [results, Tryd.results21, go_sem, r0, r1, r2]) rfl ⟨_, rfl, HD2.out, HD3.out⟩
set_option maxRecDepth 100000 in
set_option maxHeartbeats 4000000 in
theorem exQuo_any (w : World) (vx vy : Value) (q r : Rat) (k : Nat) (hx : NumIn w vx q) (hy : NumIn w vy r) (sx : Sm k q) (sy : Sm k r) (hk : k ≤ 10000000) (h0 : Big.nu r ≠ 0) :
    Calls Tryd.prog 25 #[vx, vy] w (Num1 w (q / r)) := by
  have HQ := Lib.hid hx; have SN := Lib.hid (sy.inv h0)
  obtain ⟨A, l, c, A2, l2, c2, rfl, hx1, hx2⟩ := hx.is_agg
  obtain ⟨B, m, d, B2, m2, d2, rfl, hy1, hy2⟩ := hy.is_agg
  have HX := Lib.hid (And.intro hx1 hx2); have HY := Lib.hid (And.intro hy1 hy2)
  have SX := Lib.hid sx; have SY := Lib.hid sy
  have GX := Lib.hid (And.intro (@Big.ng_pos q) (And.intro (@Big.ng_pos r) (And.intro (Big.de_pos q) (Big.de_pos r))))
  rw [Rat.div_def]
  obtain ⟨i1, i2, i3⟩ := Big.inv_parts r h0
  have HI := Lib.hid (show NumIn w (.agg #[.bool (Big.ng r), .slice B2 m2 d2, .slice B m d]) r⁻¹ from ⟨_, _, by rw [i1], by rw [i2]; exact hy2, by rw [i3]; exact hy1⟩)
  have hm0 := hy1.len_zero
  have t0 : ((m : Int) == 0) = false := beq_eq_false_iff_ne.2 (by omega)
  clear hx hy hx1 hx2 hy1 hy2 sx sy GX HX HY i1 i2 i3 hm0 h0
  generalize Big.ng q = nq at *
  generalize Big.ng r = nr at *
  go_enter Tryd.func25, Tryd.ntmps25
  go_wp2_with fail
  obtain ⟨X0, Y0, R0, B0⟩ := boxed3 w 45 45 (.bool nq) (.slice A l c) (.slice A2 l2 c2) (.bool nr) (.slice B m d) (.slice B2 m2 d2) (.bool false) (.slice none 0 0) (.slice none 0 0)
  have HX0 := Lib.hid X0; have HY0 := Lib.hid Y0; have HR0 := Lib.hid R0; have HB0 := Lib.hid B0
  clear X0 Y0 R0 B0
  generalize ((w.alloc (.cells #[.bool nq, .slice A l c, .slice A2 l2 c2] 45)).alloc (.cells #[.bool nr, .slice B m d, .slice B2 m2 d2] 45)).alloc (.cells #[.bool false, .slice none 0 0, .slice none 0 0] 45) = w0 at *
  refine (exMul_any w0 _ _ _ _ k (HQ.out.keep HB0.out) (HI.out.keep HB0.out) SX.out SN.out hk).mono ?_
  rintro e w3 ⟨v3, rfl, hv3, hw3⟩
  have RR := HR0.out.keep hw3
  have k0 := RR.c0; have k1 := RR.c1; have k2 := RR.c2; have f0 := RR.frozen 0; have f1 := RR.frozen 1; have f2 := RR.frozen 2
  obtain ⟨A8, l8, c8, A9, l9, c9, rfl, h8, h9⟩ := hv3.is_agg
  have HH := Lib.hid (And.intro h8 h9)
  have HBF := Lib.hid (HB0.out.trans (hw3.mono HB0.out.size))
  clear hv3 h8 h9 hw3
  obtain ⟨nz, hnz⟩ : ∃ z, Big.ng (q * r⁻¹) = z := ⟨_, rfl⟩
  rw [hnz]
  have HNZ := Lib.hid hnz
  clear hnz
  go_wp2_with fail
  obtain ⟨D1, D2, D3⟩ := num_done (bb := nz) (show NumRes w3 _ _ from RR) HBF.out (by omega) HH.out.1 HH.out.2 HNZ.out.symm
  have HD1 := Lib.hid D1; have HD2 := Lib.hid D2; have HD3 := Lib.hid D3
  clear D1 D2 D3 k0 k1 k2 f0 f1 f2 RR
  generalize (((w3.setCell ⟨w.heap.size + 1 + 1, 0, none⟩ (.bool (nz))).setCell ⟨w.heap.size + 1 + 1, 1, none⟩ (.slice A8 l8 c8)).setCell ⟨w.heap.size + 1 + 1, 2, none⟩ (.slice A9 l9 c9)) = wz at HD1 HD2 HD3 ⊢
  have r0 := HD1.out.c0; have r1 := HD1.out.c1; have r2 := HD1.out.c2
  exact bodyPost_ret (v := .agg #[.bool (nz), (.slice A8 l8 c8), (.slice A9 l9 c9)]) (by simp [results, Tryd.results25, go_sem, r0, r1, r2]) rfl ⟨_, rfl, HD2.out, HD3.out⟩
end Go.Proofs.YtepnghhgmjobjaaDoor
