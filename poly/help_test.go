package poly_test

import (
	"math/big"
	"math/rand"
	"strings"
	"testing"

	"diapason/api"
)

// terms is a polynomial as the library has its coefficients: the lowest first, the last one not nought.
type terms []*big.Rat

// frac is the fraction of a number of the library's, whatever its size.
func frac(r *big.Rat) api.Frac {
	num := new(big.Int).Abs(r.Num())
	return api.Frac{Neg: r.Sign() < 0, Num: string(num.Bytes()), Den: string(r.Denom().Bytes())}
}

// number is the complex number with these parts.
func number(re, im *big.Rat) api.Gauss { return api.Gauss{Re: frac(re), Im: frac(im)} }

// poly is the polynomial as the program has it.
func (p terms) poly() api.Poly {
	l := make(api.Poly, len(p))
	for i, c := range p {
		l[i] = frac(c)
	}
	return l
}

// name tells the coefficients, or how they begin.
func (p terms) name() string {
	s := p.text()
	if len(s) > 200 {
		s = s[:200] + ".."
	}
	return "(" + s + ")"
}

// shown tells an answer's coefficients, whether it may be or not.
func shown(p api.Poly) string {
	var l terms
	for _, c := range p {
		num, den := new(big.Int).SetBytes([]byte(c.Num)), new(big.Int).SetBytes([]byte(c.Den))
		if den.Sign() == 0 || c.Neg && num.Sign() == 0 {
			return "what may not be"
		}
		if c.Neg {
			num.Neg(num)
		}
		l = append(l, new(big.Rat).SetFrac(num, den))
	}
	return l.name()
}

// text is the text that the chapter asks for.
func (p terms) text() string {
	if len(p) == 0 {
		return "0"
	}
	texts := make([]string, len(p))
	for i, c := range p {
		texts[i] = c.RatString()
	}
	return strings.Join(texts, " ")
}

// trim leaves the noughts at the end away.
func (p terms) trim() terms {
	for len(p) > 0 && p[len(p)-1].Sign() == 0 {
		p = p[:len(p)-1]
	}
	return p
}

func (p terms) at(i int) *big.Rat {
	if i < len(p) {
		return p[i]
	}
	return new(big.Rat)
}

func (p terms) add(q terms) terms {
	sum := make(terms, max(len(p), len(q)))
	for i := range sum {
		sum[i] = plus(p.at(i), q.at(i))
	}
	return sum.trim()
}

func (p terms) sub(q terms) terms { return p.add(q.scale(rat("-1"))) }

func (p terms) mul(q terms) terms {
	if len(p) == 0 || len(q) == 0 {
		return nil
	}
	product := make(terms, len(p)+len(q)-1)
	for i := range product {
		product[i] = new(big.Rat)
	}
	for i, x := range p {
		for j, y := range q {
			product[i+j].Add(product[i+j], times(x, y))
		}
	}
	return product
}

func (p terms) scale(x *big.Rat) terms {
	l := make(terms, len(p))
	for i, c := range p {
		l[i] = times(c, x)
	}
	return l.trim()
}

func (p terms) derive() terms {
	var l terms
	for i, c := range p {
		if i > 0 {
			l = append(l, times(c, big.NewRat(int64(i), 1)))
		}
	}
	return l
}

// monic is the polynomial with the highest coefficient 1.
func (p terms) monic() terms {
	if len(p) == 0 {
		return p
	}
	return p.scale(new(big.Rat).Inv(p[len(p)-1]))
}

// quoRem goes by the school's way; q is not 0.
func (p terms) quoRem(q terms) (quo, rest terms) {
	quo, rest = make(terms, max(0, len(p)-len(q)+1)), p
	for len(rest) >= len(q) {
		k := len(rest) - len(q)
		quo[k] = new(big.Rat).Quo(rest[len(rest)-1], q[len(q)-1])
		rest = rest.sub(power(k).mul(q).scale(quo[k]))
	}
	for i, c := range quo {
		if c == nil {
			quo[i] = new(big.Rat)
		}
	}
	return quo, rest
}

// gcd goes by Euclid's way.
func (p terms) gcd(q terms) terms {
	for len(q) > 0 {
		_, rest := p.quoRem(q)
		p, q = q, rest.monic()
	}
	return p.monic()
}

// value is the value at x + y i, power by power.
func (p terms) value(x, y *big.Rat) (re, im *big.Rat) {
	re, im = new(big.Rat), new(big.Rat)
	powerRe, powerIm := rat("1"), new(big.Rat)
	for _, c := range p {
		re, im = plus(re, times(c, powerRe)), plus(im, times(c, powerIm))
		powerRe, powerIm = minus(times(powerRe, x), times(powerIm, y)), plus(times(powerRe, y), times(powerIm, x))
	}
	return re, im
}

func plus(x, y *big.Rat) *big.Rat { return new(big.Rat).Add(x, y) }

func minus(x, y *big.Rat) *big.Rat { return new(big.Rat).Sub(x, y) }

func times(x, y *big.Rat) *big.Rat { return new(big.Rat).Mul(x, y) }

// rat is the number of a text.
func rat(s string) *big.Rat {
	r, ok := new(big.Rat).SetString(s)
	if !ok {
		panic("no number: " + s)
	}
	return r
}

// of is the polynomial of a text: coefficients with blanks between them.
func of(s string) terms {
	var p terms
	for _, c := range strings.Fields(s) {
		p = append(p, rat(c))
	}
	return p.trim()
}

// power is x^n.
func power(n int) terms {
	p := make(terms, n+1)
	for i := range n {
		p[i] = new(big.Rat)
	}
	p[n] = rat("1")
	return p
}

// power2 is 2^n + more.
func power2(n uint, more int64) *big.Rat {
	p := new(big.Int).Lsh(big.NewInt(1), n)
	return new(big.Rat).SetInt(p.Add(p, big.NewInt(more)))
}

// greatest is the greatest number that a fraction may be.
func greatest() *big.Rat { return power2(8*api.MaxBytes, -1) }

// isLong tells whether a number has more bytes than a fraction's may have.
func isLong(r *big.Rat) bool {
	return len(r.Num().Bytes()) > api.MaxBytes || len(r.Denom().Bytes()) > api.MaxBytes
}

// isLong tells whether the polynomial is beyond what an answer may be.
func (p terms) isLong() bool {
	for _, c := range p {
		if isLong(c) {
			return true
		}
	}
	return len(p) > api.MaxDegree+1
}

// isSame tells whether an answer is that polynomial.
func isSame(p api.Poly, want terms) bool {
	if len(p) != len(want) {
		return false
	}
	for i, c := range p {
		if c != frac(want[i]) {
			return false
		}
	}
	return true
}

// isPoly holds an answer against a polynomial: ErrLong, if that is beyond what an answer may be.
func isPoly(t *testing.T, what string, p api.Poly, e api.Errno, want terms) {
	t.Helper()
	if want.isLong() {
		isError(t, what, p, e, api.ErrLong)
		return
	}
	if e != api.OK || !isSame(p, want) {
		t.Errorf("%s = %s, %d; not %s", what, shown(p), e, want.name())
	}
}

// isError holds an answer against an error, beside which there is nothing.
func isError(t *testing.T, what string, p api.Poly, e, want api.Errno) {
	t.Helper()
	if e != want || len(p) != 0 {
		t.Errorf("%s = %s, %d; not the error %d", what, shown(p), e, want)
	}
}

// noFractions are fractions that may not be.
func noFractions() []api.Frac {
	long := "\x01" + strings.Repeat("\x00", api.MaxBytes)
	return []api.Frac{
		{},
		{Den: "\x02"},
		{Neg: true, Den: "\x01"},
		{Num: "\x01"},
		{Num: "\x02", Den: "\x04"},
		{Num: "\x00\x02", Den: "\x03"},
		{Num: "\x02", Den: "\x00\x03"},
		{Num: "\x01", Den: "\x00"},
		{Num: long, Den: "\x01"},
		{Neg: true, Num: "\x01", Den: long},
	}
}

// noNumbers are complex numbers that may not be.
func noNumbers() []api.Gauss {
	good := frac(rat("-3/2"))
	list := []api.Gauss{{}}
	for _, x := range noFractions() {
		list = append(list, api.Gauss{Re: x, Im: good}, api.Gauss{Re: good, Im: x}, api.Gauss{Re: x, Im: x})
	}
	return list
}

// noPolys are polynomials that may not be: a coefficient may not, wherever it stands, the last one is nought, or there are too many.
func noPolys() []api.Poly {
	one, nought := frac(rat("1")), frac(rat("0"))
	list := []api.Poly{
		{nought}, {one, nought}, {nought, nought, nought}, {one, one, nought},
		make(api.Poly, 1), make(api.Poly, 33), make(api.Poly, 34), make(api.Poly, 1<<16),
		power(33).poly(), power(34).poly(), append(power(32).poly(), nought),
	}
	for _, x := range noFractions() {
		list = append(list, api.Poly{x}, api.Poly{x, one}, api.Poly{one, x}, api.Poly{nought, x, one})
		last := power(32).poly()
		first := power(32).poly()
		last[32], first[0] = x, x
		list = append(list, last, first)
	}
	return list
}

// polys are polynomials that may be, with the edges of the document among them.
func polys() []terms {
	top := greatest()
	list := []terms{
		nil, of("1"), of("-1"), of("5"), of("-3/2"), of("0 1"), of("1 1"), of("1 -1"), of("1 2 1"), of("-1 0 1"), of("0 0 -7/3"),
		of("1/2 1/3 1/5"), of("1 0 0 0 1"), of("-255 256 65536/255"), of("18446744073709551616 0 1/18446744073709551615"),
		power(16), power(17), power(31), power(32), power(32).add(of("1")), power(32).sub(power(31)),
		{top}, {times(top, rat("-1"))}, {new(big.Rat).Inv(top)}, {rat("0"), top}, {top, top}, {top, times(top, rat("-1")), new(big.Rat).Inv(top)},
		{power2(8*api.MaxBytes-1, 0), rat("1")},
	}
	full := make(terms, 33)
	for i := range full {
		full[i] = big.NewRat(int64(i-40), int64(i+1))
	}
	return append(list, full)
}

// anyRat makes numbers with at most so many bytes above and below, some of them nought or whole.
func anyRat(r *rand.Rand, bytes int) *big.Rat {
	top := new(big.Int).Lsh(big.NewInt(1), uint(8*bytes))
	num, den := new(big.Int).Rand(r, top), big.NewInt(1)
	if r.Intn(6) == 0 {
		num.SetInt64(0)
	}
	if r.Intn(3) > 0 {
		den.Rand(r, top)
	}
	if den.Sign() == 0 {
		den.SetInt64(1)
	}
	if r.Intn(2) == 0 {
		num.Neg(num)
	}
	return new(big.Rat).SetFrac(num, den)
}

// anyTerms makes polynomials of at most so many coefficients, which are such numbers.
func anyTerms(r *rand.Rand, count, bytes int) terms {
	p := make(terms, r.Intn(count+1))
	for i := range p {
		p[i] = anyRat(r, bytes)
	}
	return p.trim()
}

// anyWhole makes polynomials of at most so many coefficients, which are whole numbers of at most so many bytes.
func anyWhole(r *rand.Rand, count, bytes int) terms {
	p := anyTerms(r, count, bytes)
	for i, c := range p {
		p[i] = new(big.Rat).SetInt(c.Num())
	}
	return p
}
