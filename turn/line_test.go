package turn_test

import (
	"math"
	"math/big"
	"math/rand"
	"slices"
	"strings"
	"testing"

	"diapason/api"
	"diapason/poly"
	"diapason/turn"
)

// terms is a polynomial as the library has its coefficients: the lowest first, the last one not nought.
type terms []*big.Rat

// of is the polynomial of a text: coefficients with blanks between them.
func of(s string) terms {
	var p terms
	for _, c := range strings.Fields(s) {
		p = append(p, rat(c))
	}
	return p.trim()
}

// trim leaves the noughts at the end away.
func (p terms) trim() terms {
	for len(p) > 0 && p[len(p)-1].Sign() == 0 {
		p = p[:len(p)-1]
	}
	return p
}

// poly is the polynomial as the program has it.
func (p terms) poly() api.Poly {
	l := make(api.Poly, len(p))
	for i, c := range p {
		l[i] = frac(c)
	}
	return l
}

// name tells the coefficients, or how they begin.
func (p terms) name() string {
	texts := make([]string, len(p))
	for i, c := range p {
		texts[i] = c.RatString()
	}
	return "(" + short(strings.Join(texts, " ")) + ")"
}

// given tells an answer's coefficients.
func given(p api.Poly) string {
	texts := make([]string, len(p))
	for i, c := range p {
		texts[i] = shown(c)
	}
	return "(" + short(strings.Join(texts, " ")) + ")"
}

// isLong tells whether a coefficient is beyond what a fraction may be.
func (p terms) isLong() bool { return slices.ContainsFunc(p, isLong) }

// at is the value at z, power by power.
func (p terms) at(z point) point {
	value, power := at("0", "0"), at("1", "0")
	for _, c := range p {
		value, power = value.add(power.mul(point{c, rat("0")})), power.mul(z)
	}
	return value
}

// share is what (1 + s)^k (1 - s)^m has at s^j, by the binomials.
func share(k, m, j int) *big.Rat {
	sum := new(big.Int)
	for a := 0; a <= j; a++ {
		part := new(big.Int).Mul(new(big.Int).Binomial(int64(k), int64(a)), new(big.Int).Binomial(int64(m), int64(j-a)))
		if (j-a)%2 == 1 {
			part.Neg(part)
		}
		sum.Add(sum, part)
	}
	return new(big.Rat).SetInt(sum)
}

// line has both parts of (1 - i t)^n p(x), coefficient by coefficient.
func (p terms) line(n int) (re, im terms) {
	for j := range n + 1 {
		sum := new(big.Rat)
		for k, c := range p {
			sum = plus(sum, times(c, share(k, n-k, j)))
		}
		if j%4 > 1 {
			sum = negated(sum)
		}
		re, im = append(re, rat("0")), append(im, rat("0"))
		if j%2 == 0 {
			re[j] = sum
		} else {
			im[j] = sum
		}
	}
	return re.trim(), im.trim()
}

// isPart holds one part of an answer against a polynomial.
func isPart(t *testing.T, what string, p api.Poly, want terms) {
	t.Helper()
	if !slices.Equal(p, want.poly()) {
		t.Errorf("%s: %s, not %s", what, given(p), want.name())
	}
}

// isNoLine asks for an error.
func isNoLine(t *testing.T, what string, p api.Poly, n int, want api.Errno) {
	t.Helper()
	if re, im, e := turn.Line(p, n); len(re) > 0 || len(im) > 0 || e != want {
		t.Errorf("%s, %d: %s, %s, %d; not the error %d", what, n, given(re), given(im), e, want)
	}
}

// isLine asks for both parts: ErrLong, if one of them is beyond what an answer may be.
func isLine(t *testing.T, p terms, n int) {
	t.Helper()
	wantRe, wantIm := p.line(n)
	what := "Line of " + p.name()
	if wantRe.isLong() || wantIm.isLong() {
		isNoLine(t, what, p.poly(), n, api.ErrLong)
		return
	}
	re, im, e := turn.Line(p.poly(), n)
	if e != api.OK {
		t.Errorf("%s, %d: the error %d", what, n, e)
	}
	isPart(t, what+", the real part", re, wantRe)
	isPart(t, what+", the imaginary part", im, wantIm)
}

// polys are polynomials of all degrees, with noughts in them, whole ones and fractions.
func polys() []terms {
	list := []terms{nil, of("1"), of("-3/2"), of("0 1"), of("1 -1"), of("1 0 -1"), of("1 0 1"), of("0 0 7/3"), of("1/2 1/3 1/5 -1/7"), of("0 1/6 -1/10 0 1/15")}
	for _, degree := range []int{5, 16, 31, 32} {
		single, all, signs, binomials := make(terms, degree+1), make(terms, degree+1), make(terms, degree+1), make(terms, degree+1)
		for i := range all {
			single[i] = rat("0")
			all[i] = big.NewRat(int64(i*i%7-3), int64(i+1))
			signs[i] = big.NewRat(int64(1-i%2*2), 1)
			binomials[i] = new(big.Rat).SetInt(new(big.Int).Binomial(int64(degree), int64(i)))
		}
		single[degree], all[degree] = rat("-1"), rat("5/3")
		list = append(list, single, all, signs, binomials)
	}
	return list
}

// P7.3: both parts, of each n from the degree on.
func TestLine(t *testing.T) {
	for _, p := range polys() {
		for n := max(0, len(p)-1); n <= api.MaxDegree; n++ {
			isLine(t, p, n)
		}
	}
	r := rand.New(rand.NewSource(3))
	for i := range 150 {
		bytes := []int{1, 2, 9, 20, 80, 500}[i%6]
		p := make(terms, r.Intn(max(2, 34-bytes)))
		for i := range p {
			p[i] = anyRat(r, bytes)
		}
		p = p.trim()
		isLine(t, p, max(0, len(p)-1))
		isLine(t, p, min(api.MaxDegree, len(p)+r.Intn(8)))
	}
}

// P7.3: n below 0, above the limit, or below the degree; the polynomial 0 has none.
func TestLineOfWrongDegrees(t *testing.T) {
	for _, p := range polys() {
		for _, n := range []int{-1, -2, math.MinInt, api.MaxDegree + 1, math.MaxInt, len(p) - 2, -len(p)} {
			if n >= 0 && n <= api.MaxDegree && n >= len(p)-1 || p == nil && n == 0 {
				continue
			}
			isNoLine(t, "Line of "+p.name(), p.poly(), n, api.ErrArg)
		}
		isLine(t, p, max(0, len(p)-1))
		isLine(t, p, api.MaxDegree)
	}
	isLine(t, nil, 0)
}

// P7.3: polynomials that may not be.
func TestLineOfNoPolys(t *testing.T) {
	one, nought := frac(rat("1")), frac(rat("0"))
	long := append(make(api.Poly, 0, 34), one)
	for len(long) < api.MaxDegree+2 {
		long = append(long, one)
	}
	list := []api.Poly{{nought}, {one, nought}, {nought, nought}, make(api.Poly, 1), make(api.Poly, 34), long}
	for _, x := range noFractions() {
		list = append(list, api.Poly{x}, api.Poly{x, one}, api.Poly{one, x}, api.Poly{nought, x, one})
	}
	for _, p := range list {
		for _, n := range []int{0, 1, 5, api.MaxDegree, api.MaxDegree + 1, -1} {
			isNoLine(t, "Line of a wrong one", p, n, api.ErrArg)
		}
	}
}

// P7.3, R7: one part alone has a number of one byte more than MaxBytes, or of just as many; small ones come of great numbers.
func TestLineAtTheBound(t *testing.T) {
	top, half := greatest(), power2(4095, 0)
	small := new(big.Rat).Inv(top)
	for i, c := range []struct {
		p            terms
		n            int
		longRe, long bool
	}{
		{terms{top}, 0, false, false},
		{terms{top}, 1, false, false},
		{terms{top}, 2, false, true},
		{terms{half, half}, 1, true, true},
		{terms{half, negated(half)}, 1, false, true},
		{terms{half, minus(half, rat("1"))}, 1, false, false},
		{terms{top, negated(top)}, 1, false, true},
		{terms{small}, 32, false, false},
		{terms{small, over(rat("1"), half)}, 1, true, true},
		{terms{over(rat("1/3"), power2(4094, 0))}, 4, false, false},
		{terms{over(rat("1"), half), over(rat("1"), half)}, 1, false, false},
		{terms{top, rat("1/2"), negated(top)}, 2, false, true},
		{terms{top, rat("0"), top}, 2, true, true},
		{terms{power2(4094, 0), rat("0"), negated(power2(4094, 0))}, 2, false, true},
		{terms{power2(4093, 0), rat("0"), negated(power2(4093, 0))}, 2, false, false},
	} {
		re, im := c.p.line(c.n)
		if re.isLong() != c.longRe || (re.isLong() || im.isLong()) != c.long {
			t.Fatalf("case %d is not what it says", i)
		}
		isLine(t, c.p, c.n)
	}
}

// P7.5: put together, both parts are (1 - i t)^n p(x) at each t.
func TestLineAtEachPoint(t *testing.T) {
	for _, p := range polys() {
		for _, n := range []int{max(0, len(p)-1), max(3, len(p)), api.MaxDegree} {
			n = min(n, api.MaxDegree)
			re, im, e := turn.Line(p.poly(), n)
			for _, x := range []*big.Rat{rat("0"), rat("1"), rat("-2"), rat("1/3"), rat("-7/24")} {
				want := p.at(unit(x))
				for range n {
					want = want.mul(point{rat("1"), negated(x)})
				}
				u, f := poly.At(re, frac(x))
				v, g := poly.At(im, frac(x))
				if e != api.OK || f != api.OK || g != api.OK || !want.same(point{value(u), value(v)}) {
					t.Errorf("Line of %s, %d, at %s: %s, %s", p.name(), n, name(x), shown(u), shown(v))
				}
			}
		}
	}
}

// R5: what is handed in stays as it is, and shares nothing with the answer.
func TestLineLeavesWhatItIsHanded(t *testing.T) {
	room := of("1 2 3 4").poly()
	p := room[:3]
	re, im, _ := turn.Line(p, 4)
	first, second := slices.Clone(re), slices.Clone(im)
	clear(re[:cap(re)])
	clear(im[:cap(im)])
	isPart(t, "the room that was handed in", room, of("1 2 3 4"))
	re, im, e := turn.Line(p, 4)
	if !slices.Equal(re, first) || !slices.Equal(im, second) || e != api.OK {
		t.Errorf("the second answer: %s, %s, %d", given(re), given(im), e)
	}
	one := of("5").poly()
	same, _, _ := turn.Line(one, 0)
	clear(same)
	isPart(t, "a number", one, of("5"))
}
