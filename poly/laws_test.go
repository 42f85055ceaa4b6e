package poly_test

import (
	"math/rand"
	"slices"
	"testing"

	"diapason/api"
	"diapason/gauss"
	"diapason/poly"
	"diapason/ratio"
)

// sure is an operation whose answer is none of an error, and may be.
func sure(t *testing.T, what func(p, q api.Poly) (api.Poly, api.Errno)) func(p, q api.Poly) api.Poly {
	return func(p, q api.Poly) api.Poly {
		t.Helper()
		s, e := what(p, q)
		if e != api.OK || poly.Check(s) != api.OK {
			t.Fatalf("of %s and %s: %s, %d", shown(p), shown(q), shown(s), e)
		}
		return s
	}
}

// P5.6: sums and products go by the laws of a ring; the product rule.
func TestLawsOfReckoning(t *testing.T) {
	add, sub, mul := sure(t, poly.Add), sure(t, poly.Sub), sure(t, poly.Mul)
	derive := func(p api.Poly) api.Poly {
		return sure(t, func(p, _ api.Poly) (api.Poly, api.Errno) { return poly.Derive(p) })(p, nil)
	}
	one := poly.Of(1)
	same := func(p, q api.Poly) bool { return slices.Equal(p, q) }
	r := rand.New(rand.NewSource(13))
	for i := range 400 {
		bytes := []int{1, 2, 8}[i%3]
		p, q, s := anyTerms(r, 11, bytes).poly(), anyTerms(r, 11, bytes).poly(), anyTerms(r, 11, bytes).poly()
		for what, ok := range map[string]bool{
			"p + q = q + p":             same(add(p, q), add(q, p)),
			"(p + q) + s = p + (q + s)": same(add(add(p, q), s), add(p, add(q, s))),
			"p q = q p":                 same(mul(p, q), mul(q, p)),
			"(p q) s = p (q s)":         same(mul(mul(p, q), s), mul(p, mul(q, s))),
			"p (q + s) = p q + p s":     same(mul(p, add(q, s)), add(mul(p, q), mul(p, s))),
			"(p + q) - q = p":           same(sub(add(p, q), q), p),
			"p + 0 = p":                 same(add(p, nil), p),
			"1 p = p":                   same(mul(one, p), p),
			"0 p = 0":                   len(mul(nil, p)) == 0,
			"p - p = 0":                 len(sub(p, p)) == 0,
			"(p q)' = p' q + p q'":      same(derive(mul(p, q)), add(mul(derive(p), q), mul(p, derive(q)))),
			"(p + q)' = p' + q'":        same(derive(add(p, q)), add(derive(p), derive(q))),
		} {
			if !ok {
				t.Errorf("not so of %s, %s, %s: %s", shown(p), shown(q), shown(s), what)
			}
		}
	}
}

// P5.6: values of sums and products are sums and products of values.
func TestLawsOfValues(t *testing.T) {
	add, mul := sure(t, poly.Add), sure(t, poly.Mul)
	r := rand.New(rand.NewSource(14))
	for i := range 200 {
		bytes := []int{1, 2, 4}[i%3]
		p, q := anyTerms(r, 9, bytes).poly(), anyTerms(r, 9, bytes).poly()
		z := number(anyRat(r, bytes), anyRat(r, bytes))
		at := func(p api.Poly) api.Gauss {
			v, e := poly.AtGauss(p, z)
			if e != api.OK || gauss.Check(v) != api.OK {
				t.Fatalf("AtGauss of %s: %v, %d", shown(p), v, e)
			}
			return v
		}
		atReal := func(p api.Poly) api.Frac {
			v, e := poly.At(p, z.Re)
			if e != api.OK || ratio.Check(v) != api.OK {
				t.Fatalf("At of %s: %v, %d", shown(p), v, e)
			}
			return v
		}
		sum, sumE := gauss.Add(at(p), at(q))
		product, productE := gauss.Mul(at(p), at(q))
		if at(add(p, q)) != sum || at(mul(p, q)) != product || sumE != api.OK || productE != api.OK {
			t.Errorf("AtGauss of %s and %s", shown(p), shown(q))
		}
		real, sumE := ratio.Add(atReal(p), atReal(q))
		times, productE := ratio.Mul(atReal(p), atReal(q))
		if atReal(add(p, q)) != real || atReal(mul(p, q)) != times || sumE != api.OK || productE != api.OK {
			t.Errorf("At of %s and %s", shown(p), shown(q))
		}
		line, e := poly.AtGauss(p, api.Gauss{Re: z.Re, Im: frac(rat("0"))})
		if e != api.OK || line != (api.Gauss{Re: atReal(p), Im: frac(rat("0"))}) {
			t.Errorf("At and AtGauss of %s", shown(p))
		}
	}
}

// P5.6: Gcd goes into both; what goes into both goes into it.
func TestLawsOfFactors(t *testing.T) {
	mul, gcd := sure(t, poly.Mul), sure(t, poly.Gcd)
	goesInto := func(p, q api.Poly) bool {
		_, rest, e := poly.Divide(q, p)
		return e == api.OK && len(rest) == 0
	}
	r := rand.New(rand.NewSource(15))
	for i := range 200 {
		bytes := []int{1, 2, 4}[i%3]
		p, q, s := anyTerms(r, 9, bytes).poly(), anyTerms(r, 9, bytes).poly(), anyTerms(r, 9, bytes).poly()
		p, q = mul(p, s), mul(q, s)
		g := gcd(p, q)
		if len(g) == 0 {
			if len(p) > 0 || len(q) > 0 {
				t.Errorf("Gcd of %s and %s is 0", shown(p), shown(q))
			}
			continue
		}
		if !goesInto(g, p) || !goesInto(g, q) || !goesInto(s, g) || g[len(g)-1] != frac(rat("1")) {
			t.Errorf("Gcd of %s and %s: %s", shown(p), shown(q), shown(g))
		}
	}
}

// P5.6: what is turned twice is as it was.
func TestLawsOfTurning(t *testing.T) {
	r := rand.New(rand.NewSource(16))
	list := polys()
	for range 100 {
		list = append(list, anyTerms(r, 33, 3), power(r.Intn(20)).mul(anyTerms(r, 12, 3)))
	}
	for _, p := range list {
		for n := max(0, len(p)-1); n <= 32; n++ {
			once, e := poly.Turned(p.poly(), n)
			twice, f := poly.Turned(once, n)
			if e != api.OK {
				t.Errorf("Turned of %s: %d", p.name(), e)
			}
			isPoly(t, "Turned twice", twice, f, p)
		}
	}
}

// calls are all that answer polynomials, of two and of one.
func calls() []func(p, q api.Poly) []api.Poly {
	third := frac(rat("1/3"))
	of := func(p api.Poly, _ api.Errno) []api.Poly { return []api.Poly{p} }
	return []func(p, q api.Poly) []api.Poly{
		func(p, q api.Poly) []api.Poly { return of(poly.Add(p, q)) },
		func(p, q api.Poly) []api.Poly { return of(poly.Sub(p, q)) },
		func(p, q api.Poly) []api.Poly { return of(poly.Mul(p, q)) },
		func(p, q api.Poly) []api.Poly { return of(poly.Gcd(p, q)) },
		func(p, q api.Poly) []api.Poly {
			quo, rest, _ := poly.Divide(p, q)
			return []api.Poly{quo, rest}
		},
		func(p, _ api.Poly) []api.Poly { return of(poly.Scale(p, third)) },
		func(p, _ api.Poly) []api.Poly { return of(poly.Scale(p, frac(rat("1")))) },
		func(p, _ api.Poly) []api.Poly { return of(poly.Derive(p)) },
		func(p, _ api.Poly) []api.Poly { return of(poly.Turned(p, 32)) },
		func(p, _ api.Poly) []api.Poly { return of(poly.Turned(p, len(p)-1)) },
	}
}

// withRoom is the polynomial in memory that goes on behind its end.
func withRoom(p terms) (l, whole api.Poly) {
	whole = append(p.poly(), frac(rat("7")), frac(rat("8")), api.Frac{})
	return whole[:len(p)], whole
}

// R5, R6: what is handed in, and the room behind its end, is not changed and not kept; answers share nothing; and asked again, they are the same.
func TestNothingIsShared(t *testing.T) {
	for i, call := range calls() {
		for _, c := range [][2]terms{{of("1 2 1"), of("-1 0 1")}, {of("0 1/2 0 3"), nil}, {nil, of("1 1")}, {of("5 1"), of("1")}, {of("1 1 1"), of("0 0 1")}} {
			p, pWhole := withRoom(c[0])
			q, qWhole := withRoom(c[1])
			pWas, qWas := slices.Clone(pWhole), slices.Clone(qWhole)
			first := call(p, q)
			kept := make([]api.Poly, len(first))
			for k, l := range first {
				kept[k] = slices.Clone(l)
			}
			for _, l := range first {
				clear(l[:cap(l)])
			}
			if !slices.Equal(pWhole, pWas) || !slices.Equal(qWhole, qWas) {
				t.Errorf("call %d of %s and %s: what was handed in has changed", i, c[0].name(), c[1].name())
			}
			again := call(p, q)
			clear(pWhole)
			clear(qWhole)
			for k, l := range again {
				if !slices.Equal(l, kept[k]) {
					t.Errorf("call %d of %s and %s: %s, first %s", i, c[0].name(), c[1].name(), shown(l), shown(kept[k]))
				}
			}
		}
	}
}

// R5: both answers of Divide have memory of their own.
func TestDivideSharesNothing(t *testing.T) {
	quo, rest, _ := poly.Divide(poly.Of(1, 2, 3, 4, 5), poly.Of(1, 1, 1))
	wasRest := slices.Clone(rest)
	clear(quo[:cap(quo)])
	if !slices.Equal(rest, wasRest) {
		t.Errorf("the rest has changed: %s", shown(rest))
	}
}

// R1: polynomials with the most coefficients, which have the most bytes: every call ends, and soon.
func TestGreatestOnes(t *testing.T) {
	r := rand.New(rand.NewSource(17))
	for _, whole := range []bool{true, false} {
		var list [4]terms
		for i := range list {
			for range []int{33, 33, 17, 17}[i] {
				c := power2(4095, r.Int63())
				if !whole {
					c.Quo(c, power2(4094, 2*r.Int63()+1))
				}
				list[i] = append(list[i], c)
			}
		}
		p, q, s, u := list[0].poly(), list[1].poly(), list[2].poly(), list[3].poly()
		z := number(list[0][0], list[1][1])
		for i, call := range calls() {
			for _, c := range [][2]api.Poly{{p, q}, {p, s}, {s, u}, {p, p}} {
				for _, l := range call(c[0], c[1]) {
					if poly.Check(l) != api.OK {
						t.Errorf("call %d: %s", i, shown(l))
					}
				}
			}
		}
		g, e := poly.Gcd(p, q)
		isPoly(t, "Gcd of two great ones", g, e, of("1"))
		if _, e := poly.AtGauss(p, z); e != api.ErrLong {
			t.Errorf("AtGauss = %d", e)
		}
		if _, e := poly.At(p, z.Re); e != api.ErrLong {
			t.Errorf("At = %d", e)
		}
		if _, e := poly.Text(p); (e == api.ErrLong) != !whole {
			t.Errorf("Text = %d", e)
		}
	}
}
