package poly_test

import (
	"math/big"
	"math/rand"
	"strings"
	"testing"

	"diapason/api"
	"diapason/poly"
)

// isValue asks for the values at x and at x + y i.
func isValue(t *testing.T, p terms, x, y *big.Rat) {
	t.Helper()
	re, im := p.value(x, y)
	z, e := poly.AtGauss(p.poly(), number(x, y))
	want, wantE := number(re, im), api.OK
	if isLong(re) || isLong(im) {
		want, wantE = api.Gauss{}, api.ErrLong
	}
	if z != want || e != wantE {
		t.Errorf("AtGauss of %s at %s and %s = %v, %d; not %v, %d", p.name(), x.RatString(), y.RatString(), z, e, want, wantE)
	}
	re, _ = p.value(x, new(big.Rat))
	v, e := poly.At(p.poly(), frac(x))
	wantV, wantE := frac(re), api.OK
	if isLong(re) {
		wantV, wantE = api.Frac{}, api.ErrLong
	}
	if v != wantV || e != wantE {
		t.Errorf("At of %s at %s = %v, %d; not %v, %d", p.name(), x.RatString(), v, e, wantV, wantE)
	}
}

// P5.5: values of polynomials of all kinds, ErrLong among them.
func TestValues(t *testing.T) {
	at := []*big.Rat{rat("0"), rat("1"), rat("-1"), rat("1/2"), rat("-7/3"), rat("65536"), greatest(), new(big.Rat).Inv(greatest())}
	for _, p := range polys() {
		for i, x := range at {
			for k, y := range at {
				if (i < 6 || len(p) < 4) && (k < 6 || len(p) < 4) || i == k {
					isValue(t, p, x, y)
				}
			}
		}
	}
	r := rand.New(rand.NewSource(10))
	for i := range 600 {
		bytes := []int{1, 2, 7, 16}[i%4]
		p := anyTerms(r, []int{3, 10, 33}[i%3], 1+i%12)
		isValue(t, p, anyRat(r, bytes), anyRat(r, bytes))
	}
}

// P5.5: at a root, however great the numbers on the way, there is nought; and beside it there is what is left.
func TestValuesAtRoots(t *testing.T) {
	r := rand.New(rand.NewSource(11))
	for i := range 120 {
		x, y := anyRat(r, 1+i%60), anyRat(r, 1+i%60)
		square := plus(times(x, x), times(y, y))
		p := anyTerms(r, 6, 9).mul(terms{square, times(x, rat("-2")), rat("1")})
		isValue(t, p, x, y)
		isValue(t, p.add(of("1/3")), x, y)
		isValue(t, p.add(of("1/3")), x, times(y, rat("-1")))
		isValue(t, anyTerms(r, 6, 9).mul(terms{times(x, rat("-1")), rat("1")}).add(of("0 1")), x, y)
	}
}

// P5.5, R7: values of just MaxBytes bytes, and of one more, in either part.
func TestValuesAtTheBound(t *testing.T) {
	nought, one, top := rat("0"), rat("1"), greatest()
	small := new(big.Rat).Inv(top)
	for i, c := range []struct {
		p    terms
		x, y *big.Rat
		long bool
	}{
		{power(2), power2(2048, -1), nought, false},
		{power(2), power2(2048, 0), nought, true},
		{power(2), nought, power2(2048, 0), true},
		{power(2), power2(2047, 0), power2(2048, -1), false},
		{power(2), power2(2047, 0), power2(2048, 0), true},
		{terms{one, one}, top, nought, true},
		{terms{one, one}, nought, top, false},
		{terms{one, one}, one, top, false},
		{terms{rat("-1"), one}, top, top, false},
		{terms{one, small}, top, nought, false},
		{power(32), power2(128, -1), nought, false},
		{power(32), power2(128, 0), nought, true},
		{power(32), nought, new(big.Rat).Inv(power2(128, 0)), true},
		{power(32), nought, new(big.Rat).Inv(power2(127, 0)), false},
		// The powers on the way are long, the value is not.
		{terms{nought, times(top, top), times(top, rat("-1"))}.scale(small), top, nought, false},
		{terms{top}, top, small, false},
		{nil, top, small, false},
	} {
		re, im := c.p.value(c.x, c.y)
		if (isLong(re) || isLong(im)) != c.long {
			t.Fatalf("case %d is not what it says", i)
		}
		isValue(t, c.p, c.x, c.y)
	}
}

// P5.5: ErrArg, if one of the two may not be.
func TestWrongValues(t *testing.T) {
	good, long := number(rat("1/2"), rat("-3")), number(greatest(), greatest())
	for _, wrong := range noPolys() {
		for _, z := range append(noNumbers(), good, long) {
			isNoValue(t, wrong, z)
		}
	}
	for _, p := range polys() {
		for _, z := range noNumbers() {
			isNoValue(t, p.poly(), z)
		}
	}
}

// isNoValue asks for ErrArg; at z's first part alone, only if p may not be or that may not.
func isNoValue(t *testing.T, p api.Poly, z api.Gauss) {
	t.Helper()
	if w, e := poly.AtGauss(p, z); e != api.ErrArg || w != (api.Gauss{}) {
		t.Errorf("AtGauss(%.3v, %v) = %v, %d", p, z, w, e)
	}
	if poly.Check(p) == api.OK && poly.Check(api.Poly{z.Re, frac(rat("1"))}) == api.OK {
		return
	}
	if v, e := poly.At(p, z.Re); e != api.ErrArg || v != (api.Frac{}) {
		t.Errorf("At(%.3v, %v) = %v, %d", p, z.Re, v, e)
	}
}

// isText asks for a text.
func isText(t *testing.T, p terms) {
	t.Helper()
	want, wantE := p.text(), api.OK
	if len(want) > 65536 {
		want, wantE = "", api.ErrLong
	}
	if s, e := poly.Text(p.poly()); s != want || e != wantE {
		t.Errorf("Text of %s: %d bytes, %d; not %d, %d", p.name(), len(s), e, len(want), wantE)
	}
}

// P5.5: texts, noughts and signs among them.
func TestTexts(t *testing.T) {
	r := rand.New(rand.NewSource(12))
	for _, p := range polys() {
		isText(t, p)
	}
	for i := range 400 {
		isText(t, anyTerms(r, 33, 1+i%200))
	}
	for _, wrong := range noPolys() {
		if s, e := poly.Text(wrong); s != "" || e != api.ErrArg {
			t.Errorf("Text of what may not be = %q, %d", s, e)
		}
	}
}

// P5.5: texts of just MaxText bytes, and of one more.
func TestTextsAtTheBound(t *testing.T) {
	digits := func(n int) *big.Int {
		d, _ := new(big.Int).SetString("1"+strings.Repeat("0", n-1), 10)
		return d
	}
	for _, more := range []int{-1, 0, 1, 2, 700} {
		p := make(terms, 33)
		left := 65536 + more - 32
		for i := range p {
			// Two numbers of 10^n and 10^m + 1 have no common factor; there is a slash between them.
			n := left / (33 - i)
			left -= n
			p[i] = new(big.Rat).SetFrac(digits(n/2), new(big.Int).Add(digits(n-n/2-1), big.NewInt(1)))
		}
		if p.isLong() || len(p.text()) != 65536+more {
			t.Fatalf("a text of %d bytes, not of %d", len(p.text()), 65536+more)
		}
		isText(t, p)
	}
}
