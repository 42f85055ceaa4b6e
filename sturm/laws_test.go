package sturm_test

import (
	"math/big"
	"math/rand"
	"slices"
	"testing"

	"diapason/api"
	"diapason/poly"
	"diapason/ratio"
	"diapason/sturm"
)

// samples are polynomials of many kinds.
func samples(seed int64) []terms {
	r := rand.New(rand.NewSource(seed))
	list := polys()
	for i := range 120 {
		list = append(list, anyTerms(r, 2+i%11, 1+i%6))
	}
	return list
}

// count asks for the roots in a gap.
func count(t *testing.T, p api.Poly, lo, hi api.Frac) int {
	t.Helper()
	n, e := sturm.Count(p, api.Gap{Lo: lo, Hi: hi})
	if e != api.OK {
		t.Fatalf("Count: %d", e)
	}
	return n
}

// P6.7: counts of two gaps, the one ending where the other begins.
func TestCountsAddUp(t *testing.T) {
	r := rand.New(rand.NewSource(9))
	for _, s := range samples(10) {
		p := s.poly()
		for range 8 {
			ends := []*big.Rat{anyRat(r, 1), big.NewRat(r.Int63n(9)-4, 1+r.Int63n(3)), big.NewRat(r.Int63n(9)-4, 1+r.Int63n(3))}
			slices.SortFunc(ends, (*big.Rat).Cmp)
			lo, middle, hi := frac(ends[0]), frac(ends[1]), frac(ends[2])
			both := count(t, p, lo, hi)
			at, e := poly.At(p, middle)
			if e != api.OK {
				continue
			}
			if ratio.Sign(at) == 0 {
				both++
			}
			if n := count(t, p, lo, middle) + count(t, p, middle, hi); n != both {
				t.Errorf("%s, parted at %s: %d, not %d", s.name(), ends[1].RatString(), n, both)
			}
		}
	}
}

// P6.7: from -Bound to Bound all roots are counted, and Roots are as many; each gap has just one, or has others at an end that is none of its cell, and they rise.
func TestRootsAreAll(t *testing.T) {
	for _, s := range samples(11) {
		p := s.poly()
		all, e := sturm.All(p)
		if e != api.OK {
			t.Fatalf("All of %s: %d", s.name(), e)
		}
		if x, e := sturm.Bound(p); e == api.OK {
			below, _ := ratio.Sub(frac(rat("0")), x)
			if n := count(t, p, below, x); n != all {
				t.Errorf("%s: %d roots up to its bound, not %d", s.name(), n, all)
			}
		}
		l, e := sturm.Roots(p)
		if e == api.ErrLong {
			continue
		}
		if e != api.OK || len(l) != all {
			t.Errorf("Roots of %s: %d, %d; not %d", s.name(), len(l), e, all)
		}
		for i, g := range l {
			n := count(t, p, g.Lo, g.Hi)
			if g.Lo != g.Hi {
				n -= count(t, p, g.Lo, g.Lo) + count(t, p, g.Hi, g.Hi)
			}
			if n != 1 {
				t.Errorf("%s: %d roots in %s", s.name(), n, shown(g))
			}
			if i > 0 {
				if order, _ := ratio.Cmp(l[i-1].Hi, g.Lo); order > 0 {
					t.Errorf("%s: %s ahead of %s", s.name(), shown(g), shown(l[i-1]))
				}
			}
		}
	}
}

// P6.7: what is told at more bits lies within what is told at fewer ones, and is the root's place.
func TestNarrowGoesInwards(t *testing.T) {
	for _, s := range samples(12) {
		p := s.poly()
		l, e := sturm.Roots(p)
		if e != api.OK {
			continue
		}
		for _, g := range l {
			if count(t, p, g.Lo, g.Hi) != 1 {
				continue
			}
			last := api.Gap{Lo: frac(negated(greatest())), Hi: frac(greatest())}
			for _, bits := range []int{0, 1, 2, 5, 40, 200, 256} {
				now, e := sturm.Narrow(p, g, bits)
				if e == api.ErrLong {
					break
				}
				low, _ := ratio.Cmp(last.Lo, now.Lo)
				high, _ := ratio.Cmp(now.Hi, last.Hi)
				wide, _ := ratio.Sub(now.Hi, now.Lo)
				if e != api.OK || low > 0 || high > 0 || count(t, p, now.Lo, now.Hi) < 1 || now.Lo != now.Hi && wide != frac(power2(-bits, 0)) {
					t.Errorf("%s from %s at %d: %s, %d", s.name(), shown(g), bits, shown(now), e)
				}
				last = now
			}
		}
	}
}

// P6.8: Simple of a product is that of the product of both Simples.
func TestSimpleOfProducts(t *testing.T) {
	r := rand.New(rand.NewSource(13))
	for i := range 200 {
		p, q := anyTerms(r, 9, 1+i%4), anyTerms(r, 9, 1+i%4)
		common := anyTerms(r, 4, 1)
		p, q = p.mul(common), q.mul(common)
		left, leftE := sturm.Simple(p.poly())
		right, rightE := sturm.Simple(q.poly())
		product, productE := poly.Mul(left, right)
		want, wantE := sturm.Simple(product)
		got, gotE := sturm.Simple(p.mul(q).poly())
		if leftE != api.OK || rightE != api.OK || productE != api.OK || wantE != api.OK || gotE != api.OK || !slices.Equal(got, want) {
			t.Errorf("%s and %s: %v, not %v", p.name(), q.name(), got, want)
		}
	}
}

// P6.8: a polynomial and its Simple have the same counts, and are told alike; and Simple is Apart from its derivative.
func TestSimpleHasTheSameRoots(t *testing.T) {
	r := rand.New(rand.NewSource(14))
	for _, s := range samples(15) {
		p := s.poly()
		q, e := sturm.Simple(p)
		if e == api.ErrLong {
			continue
		}
		for range 6 {
			lo, hi := anyRat(r, 1), big.NewRat(r.Int63n(9)-4, 1+r.Int63n(3))
			if lo.Cmp(hi) > 0 {
				lo, hi = hi, lo
			}
			if count(t, p, frac(lo), frac(hi)) != count(t, q, frac(lo), frac(hi)) {
				t.Errorf("%s and its Simple from %s to %s", s.name(), lo.RatString(), hi.RatString())
			}
		}
		l, lE := sturm.Roots(p)
		k, kE := sturm.Roots(q)
		if lE != kE || !slices.Equal(l, k) {
			t.Errorf("Roots of %s: %v, %d, of its Simple: %v, %d", s.name(), l, lE, k, kE)
		}
		slope, slopeE := poly.Derive(q)
		apart, apartE := sturm.Apart(q, slope)
		if slopeE == api.OK && (!apart || apartE != api.OK) {
			t.Errorf("Simple of %s is not apart from its derivative", s.name())
		}
	}
}

// R5, R6: what is handed in stays as it is, with what stands behind its end, and answers are new and the same again.
func TestNothingIsKept(t *testing.T) {
	for _, s := range polys() {
		p := append(s.poly(), api.Frac{Num: "behind"})[:len(s)]
		was := slices.Clone(p[:len(s)+1])
		g := gapText("-2 3/2")
		ask := func() ([]api.Gap, api.Poly, int) {
			l, _ := sturm.Roots(p)
			simple, _ := sturm.Simple(p)
			n, _ := sturm.Count(p, g)
			sturm.All(p)
			sturm.Bound(p)
			sturm.Narrow(p, g, 9)
			sturm.Apart(p, p)
			return l, simple, n
		}
		l, simple, n := ask()
		wantGaps, want := slices.Clone(l), slices.Clone(simple)
		for i := range l {
			l[i] = api.Gap{}
		}
		for i := range simple {
			simple[i] = api.Frac{}
		}
		again, simpleAgain, nAgain := ask()
		if !slices.Equal(again, wantGaps) || !slices.Equal(simpleAgain, want) || n != nAgain || !slices.Equal(p[:len(s)+1], was) {
			t.Errorf("%s: not the same again", s.name())
		}
	}
}
