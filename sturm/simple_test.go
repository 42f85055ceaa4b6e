package sturm_test

import (
	"math/big"
	"math/rand"
	"testing"

	"diapason/api"
	"diapason/sturm"
)

// P6.1 to P6.6: ErrArg first, then ErrZero, with nothing beside them.
func TestWrongPolys(t *testing.T) {
	g := gapText("-1 1")
	for _, c := range []struct {
		polys []api.Poly
		want  api.Errno
	}{{noPolys(), api.ErrArg}, {[]api.Poly{nil, {}}, api.ErrZero}} {
		for _, p := range c.polys {
			if q, e := sturm.Simple(p); e != c.want || len(q) > 0 {
				t.Errorf("Simple(%v) = %v, %d", p, q, e)
			}
			if l, e := sturm.Roots(p); e != c.want || len(l) > 0 {
				t.Errorf("Roots(%v) = %v, %d", p, l, e)
			}
			n, e := sturm.Count(p, g)
			isError(t, "Count", n, e, c.want)
			n, e = sturm.All(p)
			isError(t, "All", n, e, c.want)
			x, e := sturm.Bound(p)
			isError(t, "Bound", x, e, c.want)
			narrow, e := sturm.Narrow(p, g, 3)
			isError(t, "Narrow", narrow, e, c.want)
			if c.want == api.ErrArg {
				narrow, e = sturm.Narrow(p, g, 257)
				isError(t, "Narrow", narrow, e, api.ErrArg)
				for _, q := range []api.Poly{nil, of("1 1").poly(), p} {
					a, e := sturm.Apart(p, q)
					isError(t, "Apart", a, e, api.ErrArg)
					a, e = sturm.Apart(q, p)
					isError(t, "Apart", a, e, api.ErrArg)
				}
			}
		}
	}
	for _, p := range append(noPolys(), nil, of("-2 0 1").poly()) {
		for _, g := range noGaps() {
			n, e := sturm.Count(p, g)
			isError(t, "Count of no gap", n, e, api.ErrArg)
			for _, bits := range []int{-1, 0, 256, 257} {
				narrow, e := sturm.Narrow(p, g, bits)
				isError(t, "Narrow of no gap", narrow, e, api.ErrArg)
			}
		}
	}
}

// P6.1: the roots of whatever was multiplied, each once.
func TestSimple(t *testing.T) {
	r := rand.New(rand.NewSource(1))
	list := polys()
	for i := range 300 {
		list = append(list, anyTerms(r, 12, 1+i%9))
	}
	for _, p := range list {
		q, e := sturm.Simple(p.poly())
		isPoly(t, "Simple"+p.name(), q, e, p.simple())
	}
	for range 20 {
		p := make(terms, 17)
		for i := range p {
			p[i] = plus(anyWhole(r, 240), rat("1/2"))
		}
		q, e := sturm.Simple(p.mul(p).poly())
		isPoly(t, "Simple of the square of "+p.name(), q, e, p.monic())
	}
}

// P6.1, R7: coefficients of just MaxBytes bytes, and of one more.
func TestSimpleAtTheBound(t *testing.T) {
	top := greatest()
	small := new(big.Rat).Inv(top)
	for i, c := range []struct {
		p    terms
		long bool
	}{
		{terms{power2(4095, 0), rat("1/2")}, true},
		{terms{power2(4094, 0), rat("1/2")}, false},
		{terms{top, small}, true},
		{terms{small, top}, true},
		{terms{top, rat("1"), top}, false},
		{terms{top, negated(top), rat("1/3"), rat("1")}, false},
		{of("0 0 1").mul(terms{power2(4095, 0), rat("1/2")}), true},
		{of("0 0 1").mul(terms{power2(4094, 0), rat("1/2")}), false},
	} {
		if isLong(c.p.simple()[0]) != c.long && isLong(c.p.simple()[1]) != c.long {
			t.Fatalf("case %d is not what it says", i)
		}
		q, e := sturm.Simple(c.p.poly())
		isPoly(t, "Simple"+c.p.name(), q, e, c.p.simple())
	}
}

// bound is 1 and the greatest size of a coefficient, but for the last one, over that one.
func bound(p terms) *big.Rat {
	greatest := new(big.Rat)
	for _, c := range p[:len(p)-1] {
		if size := new(big.Rat).Abs(over(c, p[len(p)-1])); size.Cmp(greatest) > 0 {
			greatest = size
		}
	}
	if len(p) == 1 {
		return greatest
	}
	return plus(greatest, rat("1"))
}

// P6.3, R7: bounds, with those beyond an answer.
func TestBound(t *testing.T) {
	r := rand.New(rand.NewSource(2))
	list := append(polys(), terms{power2(4096, -2), rat("1")}, terms{rat("1"), power2(4096, -2), rat("-1")}, terms{negated(power2(4096, -2)), rat("-1")}, of("0 0 0 7"), of("1 2 -3 4/5"))
	for i := range 200 {
		list = append(list, anyTerms(r, 12, 1+i%300))
	}
	long := 0
	for _, p := range list {
		x, e := sturm.Bound(p.poly())
		want := bound(p)
		if isLong(want) {
			long++
			isError(t, "Bound"+p.name(), x, e, api.ErrLong)
			continue
		}
		isNumber(t, "Bound"+p.name(), x, e, frac(want))
	}
	if long < 3 || long > 100 {
		t.Errorf("%d bounds are too long", long)
	}
}

// P6.6: of each pair whether it has a common root, by Euclid's way.
func TestApart(t *testing.T) {
	list := append([]terms{nil}, polys()...)
	for _, p := range list {
		for _, q := range list {
			// Euclid's way is too long for the others.
			if len(p)+len(q) < 34 || len(p) < 3 || len(q) < 3 {
				isApart(t, p, q)
			}
		}
	}
	r := rand.New(rand.NewSource(3))
	for i := range 300 {
		p, q, common := anyTerms(r, 8, 1+i%5), anyTerms(r, 8, 1+i%5), anyTerms(r, 4, 1+i%5)
		isApart(t, p, q)
		isApart(t, p.mul(common), q.mul(common))
		isApart(t, p.mul(p), p.mul(q))
	}
}

// isApart asks for one pair.
func isApart(t *testing.T, p, q terms) {
	t.Helper()
	a, b := p, q
	for len(b) > 0 {
		_, rest := a.quoRem(b)
		a, b = b, rest
		if len(b) > 0 {
			b = b.monic()
		}
	}
	got, e := sturm.Apart(p.poly(), q.poly())
	isNumber(t, "Apart of "+p.name()+" and "+q.name(), got, e, len(a) == 1)
}

// P6.6: numbers that are the same to the greatest primes below 2^63 are none the less apart.
func TestApartByOne(t *testing.T) {
	prime := power2(63, -25)
	p := terms{rat("-5"), rat("1")}
	for _, c := range []struct {
		q    terms
		want bool
	}{{terms{minus(negated(prime), rat("5")), rat("1")}, true}, {terms{rat("-5"), rat("1")}.mul(terms{prime, rat("1")}), false}, {terms{rat("-5"), prime}, true}} {
		got, e := sturm.Apart(p.poly(), c.q.poly())
		isNumber(t, "Apart of "+c.q.name(), got, e, c.want)
	}
}
