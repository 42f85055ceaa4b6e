package poly_test

import (
	"math"
	"math/big"
	"math/rand"
	"slices"
	"testing"

	"diapason/api"
	"diapason/poly"
)

// P5.1: which polynomials may be.
func TestCheck(t *testing.T) {
	for _, p := range noPolys() {
		if e := poly.Check(p); e != api.ErrArg {
			t.Errorf("Check of %d coefficients, %.5v = %d", len(p), p, e)
		}
	}
	for _, p := range polys() {
		if e := poly.Check(p.poly()); e != api.OK {
			t.Errorf("Check of %s = %d", p.name(), e)
		}
	}
	if poly.Check(api.Poly{}) != api.OK || poly.Check(nil) != api.OK {
		t.Error("Check of 0")
	}
}

// P5.1: whole coefficients, at both ends of int64 too; noughts at the end are none of the polynomial.
func TestOf(t *testing.T) {
	list := [][]int64{
		nil, {0}, {0, 0, 0}, {1}, {-1}, {0, 1}, {1, 0, 0}, {0, 0, -7, 0, 0, 0}, {3, 0, 5},
		{math.MaxInt64, math.MinInt64}, {math.MinInt64, math.MaxInt64, 0}, {255, 256, -65536},
		make([]int64, 33), make([]int64, 34), make([]int64, 1<<20),
	}
	for _, l := range list {
		var want terms
		for _, n := range l {
			want = append(want, new(big.Rat).SetInt64(n))
		}
		was := slices.Clone(l)
		isPoly(t, "Of", poly.Of(l...), api.OK, want.trim())
		if !slices.Equal(l, was) {
			t.Errorf("Of(%v) has changed it", was)
		}
	}
}

// P5.1: 33 coefficients, and one more, with noughts behind them and without.
func TestOfMany(t *testing.T) {
	for _, behind := range []int{0, 1, 2, 1000} {
		for _, last := range []int{30, 31, 32, 33, 34, 100} {
			l := make([]int64, last+1+behind)
			l[last], l[0] = -4, 9
			want := power(last).scale(rat("-4")).add(of("9"))
			if last > 32 {
				want = nil
			}
			isPoly(t, "Of many", poly.Of(l...), api.OK, want)
		}
	}
}

// operation is one of those of two polynomials, and what there should be.
type operation struct {
	name string
	ours func(p, q api.Poly) (api.Poly, api.Errno)
	want func(p, q terms) terms
}

func operations() []operation {
	return []operation{
		{"Add", poly.Add, terms.add},
		{"Sub", poly.Sub, terms.sub},
		{"Mul", poly.Mul, terms.mul},
	}
}

// isRight asks for an operation of two polynomials.
func isRight(t *testing.T, o operation, p, q terms) {
	t.Helper()
	s, e := o.ours(p.poly(), q.poly())
	isPoly(t, o.name+" of "+p.name()+" and "+q.name(), s, e, o.want(p, q))
}

// P5.2: sums, differences, products of each pair, ErrLong among them.
func TestReckoning(t *testing.T) {
	for _, p := range polys() {
		for _, q := range polys() {
			for _, o := range operations() {
				isRight(t, o, p, q)
			}
		}
	}
	r := rand.New(rand.NewSource(1))
	for i := range 600 {
		count, bytes := []int{2, 5, 17, 20, 33}[i%5], []int{1, 2, 9, 60}[i%4]
		p, q := anyTerms(r, count, bytes), anyTerms(r, count, bytes)
		for _, o := range operations() {
			isRight(t, o, p, q)
			isRight(t, o, p, p)
		}
	}
}

// P5.2: what is taken from itself, in part, has a lower degree.
func TestNoughtsAtTheEnd(t *testing.T) {
	r := rand.New(rand.NewSource(2))
	for range 300 {
		p, q := anyTerms(r, 10, 3), anyTerms(r, 33, 3)
		isRight(t, operations()[1], p.add(q), q)
		isRight(t, operations()[0], p.sub(q), q)
	}
}

// P5.2: 33 coefficients of a product, and one more; of the polynomial 0 there are none.
func TestManyTerms(t *testing.T) {
	mul := operations()[2]
	for n := range 33 {
		for _, m := range []int{0, 1, 31 - n, 32 - n, 33 - n, 32} {
			if m < 0 || m > 32 {
				continue
			}
			p, q := power(n).scale(rat("-2/3")), power(m).add(of("1"))
			isRight(t, mul, p, q)
			if _, e := poly.Mul(p.poly(), q.poly()); (e == api.ErrLong) != (n+m > 32) {
				t.Errorf("a product of the degree %d + %d: %d", n, m, e)
			}
		}
		isRight(t, mul, power(n), nil)
		isRight(t, mul, nil, power(n))
	}
}

// P5.2, R7: answers of just MaxBytes bytes, and of one more, in any coefficient; what lies between has no limit.
func TestAnswersAtTheBound(t *testing.T) {
	top, one := greatest(), rat("1")
	small := new(big.Rat).Inv(top)
	binomial, other := of("1"), of("1")
	for range 16 {
		binomial, other = binomial.mul(of("1 1")), other.mul(of("1 -1"))
	}
	cases := []struct {
		o    int
		p, q terms
		long bool
	}{
		{0, terms{power2(4096, -2), one}, of("1"), false},
		{0, terms{top, one}, of("1"), true},
		{0, terms{one, top}, of("0 1"), true},
		{0, terms{one, top, one}, of("0 1"), true},
		{0, terms{one, top}, of("1"), false},
		{0, terms{new(big.Rat).Inv(power2(4096, -2))}, of("1"), false},
		{0, terms{small}, of("1"), true},
		{0, terms{top}, terms{times(top, rat("-1")), top}, false},
		{1, terms{top, top}, terms{top, top}, false},
		{1, terms{top}, of("-1"), true},
		{1, nil, terms{one, top}, false},
		{2, terms{power2(4095, 0), one}, of("1 1"), false},
		{2, terms{power2(4095, 0), one}, of("2"), true},
		{2, terms{one, power2(4095, 0)}, of("2"), true},
		{2, terms{top, top}, terms{small, small}, false},
		// In the middle alone.
		{2, terms{one, top}, terms{one, small}, true},
		// Each product is longer than the sum of them.
		{2, binomial.scale(power2(4081, 0)), other, false},
		{2, binomial.scale(power2(4082, 0)), other, false},
		{2, binomial.scale(power2(4082, 0)), other.scale(rat("2")), true},
	}
	for i, c := range cases {
		o := operations()[c.o]
		if o.want(c.p, c.q).isLong() != c.long {
			t.Fatalf("case %d is not what it says", i)
		}
		isRight(t, o, c.p, c.q)
	}
}

// P5.2: each coefficient times a number.
func TestScale(t *testing.T) {
	r := rand.New(rand.NewSource(3))
	factors := []*big.Rat{rat("0"), rat("1"), rat("-1"), rat("1/3"), rat("-256"), greatest(), new(big.Rat).Inv(greatest())}
	for i := range 60 {
		factors = append(factors, anyRat(r, 1+i))
	}
	for i, x := range factors {
		for _, p := range append(polys(), anyTerms(r, 33, 1+i), anyTerms(r, 33, 9)) {
			q, e := poly.Scale(p.poly(), frac(x))
			isPoly(t, "Scale of "+p.name()+" by "+x.RatString(), q, e, p.scale(x))
		}
	}
}

// P5.2: derivatives, with a coefficient that is just too long, or is not.
func TestDerive(t *testing.T) {
	r := rand.New(rand.NewSource(4))
	list := append(polys(), terms{rat("0"), rat("0"), power2(4095, -1)}, terms{rat("0"), rat("0"), power2(4095, 0)}, terms{greatest(), greatest()})
	for i := range 300 {
		list = append(list, anyTerms(r, 33, 1+i%20))
	}
	for _, p := range list {
		q, e := poly.Derive(p.poly())
		isPoly(t, "Derive of "+p.name(), q, e, p.derive())
	}
}

// P5.4: the coefficient at k is that at n - k.
func TestTurned(t *testing.T) {
	r := rand.New(rand.NewSource(5))
	list := polys()
	for range 100 {
		list = append(list, anyTerms(r, 33, 3), power(r.Intn(20)).mul(anyTerms(r, 12, 3)))
	}
	for _, p := range list {
		for _, n := range []int{math.MinInt, -33, -1, 0, 1, 2, 5, 16, 31, 32, 33, 34, math.MaxInt} {
			q, e := poly.Turned(p.poly(), n)
			if n < 0 || n > 32 || len(p) > n+1 {
				isError(t, "Turned of "+p.name(), q, e, api.ErrArg)
				continue
			}
			want := make(terms, n+1)
			for k := range want {
				want[k] = p.at(n - k)
			}
			isPoly(t, "Turned of "+p.name(), q, e, want.trim())
		}
	}
}

// R2: ErrArg ahead of ErrZero and of ErrLong, whichever is the wrong one.
func TestWrongArguments(t *testing.T) {
	top := terms{greatest()}
	high := power(32).scale(greatest())
	two := append(operations(), operation{"Gcd", poly.Gcd, nil}, operation{"Divide", func(p, q api.Poly) (api.Poly, api.Errno) {
		quo, rest, e := poly.Divide(p, q)
		return append(quo, rest...), e
	}, nil})
	for _, wrong := range noPolys() {
		for _, o := range two {
			for _, p := range []api.Poly{nil, poly.Of(1), top.poly(), high.poly(), wrong} {
				q, e := o.ours(wrong, p)
				isError(t, o.name+" of a wrong first one", q, e, api.ErrArg)
				q, e = o.ours(p, wrong)
				isError(t, o.name+" of a wrong second one", q, e, api.ErrArg)
			}
		}
		q, e := poly.Scale(wrong, frac(greatest()))
		isError(t, "Scale of a wrong one", q, e, api.ErrArg)
		q, e = poly.Derive(wrong)
		isError(t, "Derive of a wrong one", q, e, api.ErrArg)
		for _, n := range []int{-1, 0, 32, 33} {
			q, e = poly.Turned(wrong, n)
			isError(t, "Turned of a wrong one", q, e, api.ErrArg)
		}
	}
	for _, x := range noFractions() {
		for _, p := range polys() {
			q, e := poly.Scale(p.poly(), x)
			isError(t, "Scale by a wrong one", q, e, api.ErrArg)
		}
	}
}
