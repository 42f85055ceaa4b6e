package exact

import (
	"math/big"
	"math/rand"
	"strings"
	"testing"

	"diapason/api"
	"diapason/nat"
	"diapason/residue"
)

// polyOf is the polynomial of the library's numbers.
func polyOf(l []*big.Rat) Poly {
	p := make(Poly, len(l))
	for i, c := range l {
		p[i] = ours(c)
	}
	return p.trim()
}

// polyText is the polynomial of a text: coefficients with blanks between them.
func polyText(s string) Poly {
	var l []*big.Rat
	for _, c := range strings.Fields(s) {
		r, _ := new(big.Rat).SetString(c)
		l = append(l, r)
	}
	return polyOf(l)
}

// anyPoly makes polynomials of at most so many coefficients with so many bytes.
func anyPoly(r *rand.Rand, count, bytes int) Poly {
	l := make([]*big.Rat, r.Intn(count+1))
	for i := range l {
		l[i] = anyRat(r, bytes)
	}
	return polyOf(l)
}

// samePoly tells whether two are the same, their form too.
func samePoly(p, q Poly) bool {
	if len(p) != len(q) {
		return false
	}
	for i := range p {
		if p[i].neg != q[i].neg || p[i].num.Cmp(q[i].num) != 0 || p[i].den.Cmp(q[i].den) != 0 {
			return false
		}
	}
	return true
}

// isPoly holds a polynomial against another one.
func isPoly(t *testing.T, what string, p, want Poly) {
	t.Helper()
	if !samePoly(p, want) {
		t.Errorf("%s: %v, not %v", what, p, want)
	}
}

// Values at points settle what was reckoned: of all values the same ones come together.
func TestPolyReckoning(t *testing.T) {
	r := rand.New(rand.NewSource(6))
	for i := range 300 {
		bytes := 1 + i%12
		p, q := anyPoly(r, 9, bytes), anyPoly(r, 9, bytes)
		x, factor := ours(anyRat(r, bytes)), ours(anyRat(r, bytes))
		at := func(p Poly) Number { return p.At(x) }
		for what, pair := range map[string][2]Number{
			"Add":   {at(p.Add(q)), at(p).Add(at(q))},
			"Sub":   {at(p.Sub(q)), at(p).Sub(at(q))},
			"Mul":   {at(p.Mul(q)), at(p).Mul(at(q))},
			"Scale": {at(p.Scale(factor)), at(p).Mul(factor)},
		} {
			if pair[0].Cmp(pair[1]) != 0 {
				t.Errorf("%s of %v and %v", what, p, q)
			}
		}
		if len(p.Sub(p)) != 0 || len(p.Scale(Whole(nil))) != 0 {
			t.Errorf("nothing of %v", p)
		}
	}
	isPoly(t, "Derive", polyText("5 1/2 0 -1 2").Derive(), polyText("1/2 0 -3 8"))
	isPoly(t, "Derive of a number", polyText("5").Derive(), nil)
	isPoly(t, "Turned", polyText("0 1/2 3").Turned(3), polyText("0 3 1/2"))
}

// Forty coefficients are none of the document's, but these have no limit.
func TestPolysBeyondTheLimits(t *testing.T) {
	one := polyText("1 1")
	p := one
	for range 39 {
		p = p.Mul(one)
	}
	if given, ok := p.Poly(); ok || given != nil {
		t.Errorf("forty-one coefficients: %v", given)
	}
	isPoly(t, "Gcd", p.Gcd(p.Derive()), p.quotient(t, one))
	long := Whole(nat.Of(1).Shl(8 * api.MaxBytes))
	if given, ok := polyText("1 1").Scale(long).Poly(); ok || given != nil {
		t.Errorf("a long one: %v", given)
	}
}

// The answer alone is held against the limits, not what it is made of.
func TestPolyOver(t *testing.T) {
	r := rand.New(rand.NewSource(12))
	for i := range 200 {
		p, x := anyPoly(r, 9, 1+i%12), ours(anyRat(r, 1+i%12))
		if x.Sign() == 0 {
			continue
		}
		given, ok := p.PolyOver(x)
		back, backOk := ReadPoly(given)
		if !ok || !backOk {
			t.Errorf("%v over %v: %v", p, x, given)
		}
		isPoly(t, "PolyOver, times that", back.Scale(x), p)
	}
	long := Whole(nat.Of(1).Shl(9 * api.MaxBytes))
	given, ok := polyText("3 0 -1/2").Scale(long).PolyOver(long)
	back, backOk := ReadPoly(given)
	if !ok || !backOk {
		t.Errorf("long ones over a long one: %v", given)
	}
	isPoly(t, "long ones over a long one", back, polyText("3 0 -1/2"))
	if given, ok := polyText("").PolyOver(long); !ok || len(given) > 0 {
		t.Errorf("0 over a long one: %v", given)
	}
	top, many := Whole(nat.Of(1).Shl(8*api.MaxBytes-1)), make(Poly, api.MaxDegree+2)
	for i := range many {
		many[i] = top
	}
	for i, c := range []struct {
		p    Poly
		x    Number
		want bool
	}{
		{Poly{top}, polyText("1")[0], true}, {Poly{top}, polyText("1/2")[0], false}, {Poly{polyText("1")[0], top}, polyText("-1/2")[0], false}, {polyText("1 1"), top, true}, {polyText("0 0 1"), top.Add(top), false},
		{many[1:], top, true}, {many, top, false},
	} {
		if given, ok := c.p.PolyOver(c.x); ok != c.want || !ok && given != nil {
			t.Errorf("case %d: %v, %v", i, given, ok)
		}
	}
}

// quotient is p over what goes into it.
func (p Poly) quotient(t *testing.T, q Poly) Poly {
	t.Helper()
	quo, rest, ok := p.QuoRem(q, func(Number) bool { return true })
	if !ok || len(rest) > 0 {
		t.Errorf("%v over %v: %v, %v", p, q, rest, ok)
	}
	return quo
}

func TestReadPoly(t *testing.T) {
	for _, s := range []string{"", "1", "-1/2 0 3", "0 0 1"} {
		p := polyText(s)
		given, ok := p.Poly()
		back, backOk := ReadPoly(given)
		if !ok || !backOk || len(given) != len(p) {
			t.Errorf("%s: %v", s, given)
		}
		isPoly(t, s, back, p)
	}
	nought := api.Frac{Den: "\x01"}
	one := api.Frac{Num: "\x01", Den: "\x01"}
	many := make(api.Poly, api.MaxDegree+2)
	for i := range many {
		many[i] = one
	}
	for _, wrong := range []api.Poly{{nought}, {one, nought}, {{}, one}, {one, {}}, many} {
		if p, ok := ReadPoly(wrong); ok || p != nil {
			t.Errorf("ReadPoly(%v) = %v", wrong, p)
		}
	}
	if p, ok := ReadPoly(many[1:]); !ok || len(p) != api.MaxDegree+1 {
		t.Errorf("the most coefficients: %v", p)
	}
}

// A division leaves off where it is told to.
func TestQuoRem(t *testing.T) {
	all := func(Number) bool { return true }
	r := rand.New(rand.NewSource(7))
	for i := range 300 {
		p, q := anyPoly(r, 9, 1+i%9), anyPoly(r, 5, 1+i%9)
		if len(q) == 0 {
			continue
		}
		quo, rest, ok := p.QuoRem(q, all)
		if !ok || len(rest) >= len(q) || len(quo) != max(0, len(p)-len(q)+1) {
			t.Errorf("%v over %v: %v, %v, %v", p, q, quo, rest, ok)
		}
		isPoly(t, "the whole", quo.Mul(q).Add(rest), p)
	}
	quo, rest, ok := polyText("1 2 3").QuoRem(polyText("1 2"), Number.IsWhole)
	if quo != nil || rest != nil || ok {
		t.Errorf("QuoRem: %v, %v, %v", quo, rest, ok)
	}
}

func TestAtComplex(t *testing.T) {
	r := rand.New(rand.NewSource(8))
	for i := range 200 {
		p := anyPoly(r, 9, 1+i%12)
		z := Complex{ours(anyRat(r, 1+i%20)), ours(anyRat(r, 1+i%20))}
		want := Complex{Whole(nil), Whole(nil)}
		for i := len(p) - 1; i >= 0; i-- {
			want = want.Mul(z)
			want.Re = want.Re.Add(p[i])
		}
		got := p.AtComplex(z)
		if got.Re.Cmp(want.Re) != 0 || got.Im.Cmp(want.Im) != 0 {
			t.Errorf("%v at %v: %v, not %v", p, z, got, want)
		}
	}
}

func TestAtI(t *testing.T) {
	for _, c := range []struct{ p, re, im string }{
		{"", "", ""}, {"3", "3", ""}, {"0 2", "", "0 2"}, {"1 0 1", "1 0 -1", ""}, {"1 2 3 4 5 6 7 8 9", "1 0 -3 0 5 0 -7 0 9", "0 2 0 -4 0 6 0 -8"}, {"1/2 0 0 -5/3", "1/2", "0 0 0 5/3"},
	} {
		re, im := polyText(c.p).AtI()
		isPoly(t, "the real part at i t", re, polyText(c.re))
		isPoly(t, "the imaginary part at i t", im, polyText(c.im))
	}
	r := rand.New(rand.NewSource(9))
	for i := range 100 {
		p, x := anyPoly(r, 12, 1+i%12), ours(anyRat(r, 1+i%20))
		re, im := p.AtI()
		value := p.AtComplex(Complex{Whole(nil), x})
		if re.At(x).Cmp(value.Re) != 0 || im.At(x).Cmp(value.Im) != 0 {
			t.Errorf("%v at i times %v: %v and %v", p, x, re, im)
		}
	}
}

func TestDenominator(t *testing.T) {
	for _, c := range []struct {
		p    string
		want uint64
	}{{"", 1}, {"5 -7", 1}, {"1/2 1/3", 6}, {"1/4 -5/6 0 1/9", 36}, {"0 3/8", 8}} {
		if n, ok := polyText(c.p).Denominator().Word(); n != c.want || !ok {
			t.Errorf("the denominator of %s is %d, not %d", c.p, n, c.want)
		}
	}
}

// first are the first primes whose images are looked at.
func first(n int) []Number {
	var l []Number
	for p := residue.Greatest; len(l) < n; p = p.Next() {
		l = append(l, Whole(nat.Of(uint64(p))))
	}
	return l
}

// minus is x - n.
func minus(n Number) Poly { return Poly{n.Neg(), Whole(nat.Of(1))} }

// Primes whose images have a greater factor, or none, are seen through: the first one, several, some behind it, ones whose images agree.
func TestGcdByUnluckyPrimes(t *testing.T) {
	primes := first(6)
	all := primes[0].Mul(primes[1]).Mul(primes[2])
	one, two, seven := polyText("1"), polyText("-2 1"), polyText("-7 1")
	base := Whole(nat.Of(12345))
	for i, c := range []struct{ p, q, want Poly }{
		{minus(base), minus(base.Add(primes[0])), one},
		{minus(base), minus(base.Sub(primes[1])), one},
		{minus(base), minus(base.Add(all)), one},
		{minus(base).Mul(two), minus(base.Add(primes[0])).Mul(two), two},
		{minus(base).Mul(two), minus(base.Add(all)).Mul(two), two},
		{minus(base).Mul(two), minus(base.Add(primes[1])).Mul(two), two},
		{minus(base).Mul(minus(all)), minus(base.Add(primes[2])).Mul(minus(all)), minus(all)},
		{minus(base).Mul(minus(all)), minus(base.Add(primes[0].Mul(primes[1]))).Mul(minus(all)), minus(all)},
		{two.Mul(seven), two.Mul(minus(Whole(nat.Of(7)).Add(all))), two},
		// They go into the highest coefficient, into a denominator, into all but one coefficient.
		{Poly{base, primes[0]}.Mul(two), two.Mul(seven), two},
		{Poly{base, all}.Mul(two), Poly{base, all}.Mul(seven), Poly{base.Quo(all), Whole(nat.Of(1))}},
		{minus(base.Quo(primes[0])).Mul(two), minus(base.Quo(all)).Mul(two), two},
		{minus(base.Quo(all)).Mul(two), minus(base.Quo(all)).Mul(seven), minus(base.Quo(all))},
		{two.Scale(all), two.Mul(two).Scale(primes[1]), two},
		{two.Scale(Whole(nat.Of(1)).Quo(all)), two.Mul(two), two},
		{minus(all), minus(all.Neg()), one},
	} {
		got := c.p.Gcd(c.q)
		if !samePoly(got, c.want) || !samePoly(c.q.Gcd(c.p), c.want) {
			t.Errorf("case %d: %v, not %v", i, got, c.want)
		}
	}
}

// Factors with numbers of one, two and many words, with either sign, come out as they went in.
func TestGcdOfProducts(t *testing.T) {
	r := rand.New(rand.NewSource(9))
	for i := range 300 {
		bytes := []int{1, 7, 8, 9, 16, 60}[i%6]
		common, p := anyPoly(r, 6, bytes), anyPoly(r, 6, bytes)
		// What goes into p and into this one goes into 1.
		q := p.Mul(anyPoly(r, 6, bytes)).Add(polyText("1"))
		isPoly(t, "Gcd", p.Mul(common).Gcd(q.Mul(common)), common.Monic())
	}
}

func TestPrimitive(t *testing.T) {
	for _, c := range [][2]string{{"1/2 1/3", "3 2"}, {"4 -6", "2 -3"}, {"0 -5/7", "0 -1"}, {"2/3 4/9 -8/15", "15 10 -12"}, {"7", "1"}, {"", ""}} {
		isPoly(t, c[0], polyText(c[0]).Primitive(), polyText(c[1]))
	}
}

// The primitive polynomial has no common factor, and the signs of the one it was made of.
func TestPrimitiveOfMany(t *testing.T) {
	r := rand.New(rand.NewSource(10))
	for i := range 200 {
		p := anyPoly(r, 9, 1+i%12)
		got := p.Primitive()
		var common nat.Nat
		for _, c := range got {
			common = common.Gcd(c.Num())
			if !c.IsWhole() {
				t.Fatalf("Primitive of %v = %v", p, got)
			}
		}
		if len(p) > 0 && (!common.IsOne() || got[len(p)-1].Sign() != p[len(p)-1].Sign()) {
			t.Fatalf("Primitive of %v = %v", p, got)
		}
		isPoly(t, "Monic of Primitive", got.Monic(), p.Monic())
	}
}

// Each root once, of whatever was multiplied how often; also where the first prime's image has a root more often.
func TestSimple(t *testing.T) {
	r := rand.New(rand.NewSource(11))
	for i := range 200 {
		p, q := anyPoly(r, 5, 1+i%9), anyPoly(r, 4, 1+i%9)
		if len(p) == 0 || len(q) == 0 || len(p.Gcd(q)) > 1 || len(p.Gcd(p.Derive())) > 1 || len(q.Gcd(q.Derive())) > 1 {
			continue
		}
		want := p.Mul(q).Monic()
		isPoly(t, "simple", p.Mul(q).Simple().Monic(), want)
		isPoly(t, "one twice", p.Mul(q).Mul(q).Simple().Monic(), want)
		isPoly(t, "one thrice", p.Mul(p).Mul(q).Mul(p).Simple().Monic(), want)
	}
	prime, base := first(1)[0], Whole(nat.Of(12345))
	p := minus(base).Mul(minus(base.Add(prime)))
	isPoly(t, "two that are one to a prime", p.Simple().Monic(), p)
	isPoly(t, "one of these twice", p.Mul(minus(base)).Simple().Monic(), p)
	isPoly(t, "a number", polyText("-5/3").Simple().Monic(), polyText("1"))
}

func TestHasFactor(t *testing.T) {
	for _, c := range []struct {
		p, q string
		want bool
	}{
		{"-1 0 1", "1 1", true}, {"-1 0 1", "-1 -1", true}, {"-2 0 2", "1 1", true}, {"1 0 1", "1 1", false}, {"1 1", "1 2", false}, {"1 3 2", "1 2", true},
		{"5", "1", true}, {"1 1", "1 0 1", false}, {"1 1", "1", true}, {"-3 1 1", "2 1", false}, {"0 0 4", "0 1", true}, {"0 0 4", "0 3", false},
	} {
		if polyText(c.p).hasFactor(polyText(c.q)) != c.want {
			t.Errorf("%s over %s", c.p, c.q)
		}
	}
}
