package sturm_test

import (
	"math/big"
	"math/rand"
	"strings"
	"testing"

	"diapason/api"
)

// terms is a polynomial as the library has its coefficients: the lowest first, the last one not nought.
type terms []*big.Rat

// rat is the number of a text.
func rat(s string) *big.Rat {
	r, ok := new(big.Rat).SetString(s)
	if !ok {
		panic("no number: " + s)
	}
	return r
}

// whole is a whole number.
func whole(n int64) *big.Rat { return big.NewRat(n, 1) }

// power2 is 2^n + more.
func power2(n int, more int64) *big.Rat {
	p := new(big.Rat).SetInt(new(big.Int).Lsh(big.NewInt(1), uint(max(n, -n))))
	if n < 0 {
		p.Inv(p)
	}
	return p.Add(p, whole(more))
}

// greatest is the greatest number that a fraction may be.
func greatest() *big.Rat { return power2(8*api.MaxBytes, -1) }

func plus(x, y *big.Rat) *big.Rat { return new(big.Rat).Add(x, y) }

func minus(x, y *big.Rat) *big.Rat { return new(big.Rat).Sub(x, y) }

func times(x, y *big.Rat) *big.Rat { return new(big.Rat).Mul(x, y) }

func over(x, y *big.Rat) *big.Rat { return new(big.Rat).Quo(x, y) }

func negated(x *big.Rat) *big.Rat { return new(big.Rat).Neg(x) }

// floor is the greatest whole number that is not above x.
func floor(x *big.Rat) *big.Rat { return new(big.Rat).SetInt(new(big.Int).Div(x.Num(), x.Denom())) }

// frac is the fraction of a number of the library's, whatever its size.
func frac(r *big.Rat) api.Frac {
	num := new(big.Int).Abs(r.Num())
	return api.Frac{Neg: r.Sign() < 0, Num: string(num.Bytes()), Den: string(r.Denom().Bytes())}
}

// isLong tells whether a number has more bytes than a fraction's may have.
func isLong(r *big.Rat) bool {
	return len(r.Num().Bytes()) > api.MaxBytes || len(r.Denom().Bytes()) > api.MaxBytes
}

// gap is the gap of both ends.
func gap(lo, hi *big.Rat) api.Gap { return api.Gap{Lo: frac(lo), Hi: frac(hi)} }

// gapText is the gap of a text: both ends, or, if they are the same, one.
func gapText(s string) api.Gap {
	ends := strings.Fields(s)
	return gap(rat(ends[0]), rat(ends[len(ends)-1]))
}

// shown tells a gap.
func shown(g api.Gap) string {
	end := func(x api.Frac) string {
		num, den := new(big.Int).SetBytes([]byte(x.Num)), new(big.Int).SetBytes([]byte(x.Den))
		if den.Sign() == 0 {
			return "none"
		}
		if x.Neg {
			num.Neg(num)
		}
		return new(big.Rat).SetFrac(num, den).RatString()
	}
	return end(g.Lo) + " to " + end(g.Hi)
}

// of is the polynomial of a text: coefficients with blanks between them.
func of(s string) terms {
	var p terms
	for _, c := range strings.Fields(s) {
		p = append(p, rat(c))
	}
	return p.trim()
}

// roots is the polynomial with these roots, each as often as it is handed, and the last coefficient 1.
func roots(l ...*big.Rat) terms {
	p := of("1")
	for _, x := range l {
		p = p.mul(terms{negated(x), rat("1")})
	}
	return p
}

// sparse is the polynomial of the coefficients c, each at the place before it.
func sparse(l map[int]*big.Rat) terms {
	p := make(terms, api.MaxDegree+1)
	for i := range p {
		p[i] = new(big.Rat)
		if c := l[i]; c != nil {
			p[i] = c
		}
	}
	return p.trim()
}

// poly is the polynomial as the program has it.
func (p terms) poly() api.Poly {
	l := make(api.Poly, len(p))
	for i, c := range p {
		l[i] = frac(c)
	}
	return l
}

// name tells the coefficients, or how they begin.
func (p terms) name() string {
	texts := make([]string, len(p))
	for i, c := range p {
		texts[i] = c.RatString()
	}
	s := strings.Join(texts, " ")
	if len(s) > 200 {
		s = s[:200] + ".."
	}
	return "(" + s + ")"
}

// trim leaves the noughts at the end away.
func (p terms) trim() terms {
	for len(p) > 0 && p[len(p)-1].Sign() == 0 {
		p = p[:len(p)-1]
	}
	return p
}

func (p terms) mul(q terms) terms {
	if len(p) == 0 || len(q) == 0 {
		return nil
	}
	product := make(terms, len(p)+len(q)-1)
	for i := range product {
		product[i] = new(big.Rat)
	}
	for i, x := range p {
		for j, y := range q {
			product[i+j].Add(product[i+j], times(x, y))
		}
	}
	return product
}

func (p terms) scale(x *big.Rat) terms {
	l := make(terms, len(p))
	for i, c := range p {
		l[i] = times(c, x)
	}
	return l.trim()
}

// mirrored has the roots with their signs changed.
func (p terms) mirrored() terms {
	l := make(terms, len(p))
	for i, c := range p {
		l[i] = times(c, whole(int64(1-i%2*2)))
	}
	return l
}

func (p terms) derive() terms {
	var l terms
	for i, c := range p {
		if i > 0 {
			l = append(l, times(c, whole(int64(i))))
		}
	}
	return l
}

// quoRem goes by the school's way; q is not 0.
func (p terms) quoRem(q terms) (quo, rest terms) {
	quo, rest = make(terms, max(0, len(p)-len(q)+1)), append(terms{}, p...)
	for i := len(quo) - 1; i >= 0; i-- {
		quo[i] = over(rest[i+len(q)-1], q[len(q)-1])
		for k, c := range q {
			rest[i+k] = minus(rest[i+k], times(quo[i], c))
		}
	}
	return quo, rest.trim()
}

// monic is the polynomial with the highest coefficient 1; that is not 0.
func (p terms) monic() terms { return p.scale(new(big.Rat).Inv(p[len(p)-1])) }

// simple is the polynomial over what it has in common with its derivative, by Euclid's way.
func (p terms) simple() terms {
	a, b := p, p.derive()
	for len(b) > 0 {
		_, rest := a.quoRem(b)
		if len(rest) > 0 {
			rest = rest.monic()
		}
		a, b = b, rest
	}
	quo, _ := p.quoRem(a)
	return quo.monic()
}

// at is the value at x, power by power.
func (p terms) at(x *big.Rat) *big.Rat {
	value, power := new(big.Rat), rat("1")
	for _, c := range p {
		value.Add(value, times(c, power))
		power = times(power, x)
	}
	return value
}

// chain is Sturm's: the polynomial, its derivative, and the rests with their signs changed. It counts the roots of polynomials that have none twice.
type chain []terms

func (p terms) chain() chain {
	l := chain{p}
	for next := p.derive(); len(next) > 0; {
		l = append(l, next)
		_, rest := l[len(l)-2].quoRem(next)
		next = rest
		if len(rest) > 0 {
			// A factor above 0 keeps the signs, and the numbers small.
			next = rest.scale(new(big.Rat).Neg(new(big.Rat).Inv(new(big.Rat).Abs(rest[len(rest)-1]))))
		}
	}
	return l
}

// changes is how often the signs change.
func changes(signs []int) int {
	n, last := 0, 0
	for _, s := range signs {
		if s*last < 0 {
			n++
		}
		if s != 0 {
			last = s
		}
	}
	return n
}

// at is how often the sign changes at x.
func (l chain) at(x *big.Rat) int {
	var signs []int
	for _, p := range l {
		signs = append(signs, p.at(x).Sign())
	}
	return changes(signs)
}

// all is how many real roots there are.
func (l chain) all() int {
	var below, above []int
	for _, p := range l {
		sign := p[len(p)-1].Sign()
		above = append(above, sign)
		if len(p)%2 == 0 {
			sign = -sign
		}
		below = append(below, sign)
	}
	return changes(below) - changes(above)
}

// count is how many roots there are from lo to hi, both of them too.
func (l chain) count(lo, hi *big.Rat) int {
	n := l.at(lo) - l.at(hi)
	if l[0].at(lo).Sign() == 0 {
		n++
	}
	return n
}

// between is how many roots there are above lo and below hi.
func (l chain) between(lo, hi *big.Rat) int {
	n := l.at(lo) - l.at(hi)
	if l[0].at(hi).Sign() == 0 {
		n--
	}
	return n
}

// found is a root: a point, if both are the same; else it is between them, perhaps with others.
type found struct {
	lo, hi *big.Rat
	count  int
}

// cut has the parts of f, both halves and the point between them, that have roots.
func (l chain) cut(f found) []found {
	if f.lo.Cmp(f.hi) == 0 {
		return []found{f}
	}
	middle := times(plus(f.lo, f.hi), rat("1/2"))
	var list []found
	if n := l.between(f.lo, middle); n > 0 {
		list = append(list, found{f.lo, middle, n})
	}
	if l[0].at(middle).Sign() == 0 {
		list = append(list, found{middle, middle, 1})
	}
	if n := l.between(middle, f.hi); n > 0 {
		list = append(list, found{middle, f.hi, n})
	}
	return list
}

// roots are the roots as the chapter tells them, all cells of a number being looked at before those of the next one; and that number. All roots are nearer to 0 than 2^reach.
func (l chain) roots(reach int) ([]api.Gap, int) {
	far := power2(reach, 0)
	list := l.cut(found{negated(far), far, 0})
	for bits := -reach; bits <= api.MaxSplit; bits++ {
		most := 0
		for _, f := range list {
			most = max(most, f.count)
		}
		if bits >= 0 && most < 2 {
			var gaps []api.Gap
			for _, f := range list {
				gaps = append(gaps, gap(f.lo, f.hi))
			}
			return gaps, bits
		}
		var next []found
		for _, f := range list {
			next = append(next, l.cut(f)...)
		}
		list = next
	}
	return nil, api.MaxSplit + 1
}

// told is x, told at so many bits.
func told(x *big.Rat, bits int) (lo, hi *big.Rat) {
	unit := power2(bits, 0)
	return over(floor(times(x, unit)), unit), over(negated(floor(negated(times(x, unit)))), unit)
}

// noFractions are fractions that may not be.
func noFractions() []api.Frac {
	long := "\x01" + strings.Repeat("\x00", api.MaxBytes)
	return []api.Frac{
		{}, {Den: "\x02"}, {Neg: true, Den: "\x01"}, {Num: "\x01"}, {Num: "\x02", Den: "\x04"}, {Num: "\x00\x02", Den: "\x03"},
		{Num: "\x02", Den: "\x00\x03"}, {Num: "\x01", Den: "\x00"}, {Num: long, Den: "\x01"}, {Neg: true, Num: "\x01", Den: long},
	}
}

// noPolys are polynomials that may not be: a coefficient may not, the last one is nought, or there are too many.
func noPolys() []api.Poly {
	one, nought := frac(rat("1")), frac(rat("0"))
	long := append(sparse(map[int]*big.Rat{32: rat("1")}).poly(), one)
	list := []api.Poly{{nought}, {one, nought}, {nought, nought}, make(api.Poly, 1), make(api.Poly, 34), long}
	for _, x := range noFractions() {
		list = append(list, api.Poly{x}, api.Poly{x, one}, api.Poly{one, x}, api.Poly{nought, x, one})
	}
	return list
}

// noGaps are gaps that may not be: an end may not, or they are turned about.
func noGaps() []api.Gap {
	good := frac(rat("-1/2"))
	list := []api.Gap{{}, gap(rat("1"), rat("0")), gap(rat("1/2"), rat("1/3")), gap(rat("-1/3"), rat("-1/2")), gap(rat("1"), rat("-1")), gap(greatest(), plus(greatest(), rat("-1")))}
	for _, x := range noFractions() {
		list = append(list, api.Gap{Lo: x, Hi: good}, api.Gap{Lo: good, Hi: x}, api.Gap{Lo: x, Hi: x})
	}
	return list
}

// polys are polynomials that may be, but not 0, with the edges of the document among them.
func polys() []terms {
	top, small := greatest(), new(big.Rat).Inv(greatest())
	list := []terms{
		of("1"), of("-1"), of("-3/2"), of("0 1"), of("0 -2"), of("1 1"), of("1 -1"), of("0 0 2"), of("1 -2 1"), of("-2 0 1"), of("1 0 1"), of("0 -1 1"), of("2 -3 1"), of("3/16 -1 1"),
		of("0 0 -7/3"), of("1/2 1/3 1/5"), of("1 0 0 0 1"), of("-1 0 0 0 1"), of("1 0 -10 0 1"), of("0 -1 0 1"), of("4 0 -5 0 1"), of("0 4 0 -5 0 1"), of("-6 11 -6 1"), of("-1 1 1 -1"),
		roots(rat("1/3"), rat("1/3"), rat("1/3"), rat("-2/7"), rat("-2/7"), rat("5")), of("1 0 2 0 1"), of("-2 0 1").mul(of("-2 0 1")).mul(of("1 1 1")),
		sparse(map[int]*big.Rat{32: rat("1")}), sparse(map[int]*big.Rat{0: rat("-2"), 32: rat("1")}), sparse(map[int]*big.Rat{0: rat("1"), 31: rat("5/2")}), sparse(map[int]*big.Rat{1: rat("-1"), 31: rat("1")}),
		{top}, {rat("1"), top}, {top, rat("1")}, {negated(small), rat("1")}, {rat("-1"), small}, {top, negated(top), top}, {negated(top), rat("0"), small}, {small, top, negated(small), negated(top)},
	}
	full, ladder := make(terms, 33), of("1")
	for i := range full {
		full[i] = big.NewRat(int64(i*i%7-3), int64(i+1))
	}
	full[32] = rat("1")
	for i := int64(1); i <= 12; i++ {
		ladder = ladder.mul(terms{big.NewRat(-i, 1+i%3), rat("1")})
	}
	return append(list, full, ladder)
}

// anyWhole is a whole number of at most so many bytes, or one below 0.
func anyWhole(r *rand.Rand, bytes int) *big.Rat {
	n := new(big.Int).Rand(r, new(big.Int).Lsh(big.NewInt(1), uint(8*bytes)))
	if r.Intn(2) == 0 {
		n.Neg(n)
	}
	return new(big.Rat).SetInt(n)
}

// anyRat is a number with at most so many bytes above and below.
func anyRat(r *rand.Rand, bytes int) *big.Rat {
	below := anyWhole(r, bytes)
	if r.Intn(3) == 0 || below.Sign() == 0 {
		below = rat("1")
	}
	return over(anyWhole(r, bytes), below)
}

// anyTerms makes polynomials, which are not 0, of at most so many coefficients, some of them products in which a root is several times.
func anyTerms(r *rand.Rand, count, bytes int) terms {
	p := make(terms, 1+r.Intn(count))
	for i := range p {
		p[i] = anyRat(r, bytes)
	}
	p[len(p)-1] = plus(new(big.Rat).Abs(p[len(p)-1]), rat("1"))
	if r.Intn(3) == 0 && bytes < 10 {
		for len(p) < count {
			x := big.NewRat(r.Int63n(17)-8, 1+r.Int63n(4))
			for range 1 + r.Intn(3) {
				p = p.mul(terms{negated(x), rat("1")})
			}
		}
	}
	return p[:min(len(p), count)].orOne()
}

// orOne is the polynomial, or 1, if it is 0.
func (p terms) orOne() terms {
	if p = p.trim(); len(p) == 0 {
		return of("1")
	}
	return p
}

// isPoly holds an answer against a polynomial: ErrLong, if that is beyond what an answer may be.
func isPoly(t *testing.T, what string, p api.Poly, e api.Errno, want terms) {
	t.Helper()
	long := len(want) > api.MaxDegree+1
	for _, c := range want {
		long = long || isLong(c)
	}
	if long {
		if e != api.ErrLong || len(p) > 0 {
			t.Errorf("%s: %v, %d; not ErrLong", what, p, e)
		}
		return
	}
	same := e == api.OK && len(p) == len(want)
	for i := range want {
		same = same && p[i] == frac(want[i])
	}
	if !same {
		t.Errorf("%s: %v, %d; not %s", what, p, e, want.name())
	}
}

// isNumber holds an answer that is a number against the one that is asked for.
func isNumber[T comparable](t *testing.T, what string, got T, e api.Errno, want T) {
	t.Helper()
	if got != want || e != api.OK {
		t.Errorf("%s: %v, %d; not %v", what, got, e, want)
	}
}

// isError holds an answer against an error, beside which there is the zero value.
func isError[T comparable](t *testing.T, what string, got T, e, want api.Errno) {
	t.Helper()
	var none T
	if e != want || got != none {
		t.Errorf("%s: %v, %d; not the error %d", what, got, e, want)
	}
}

// isGap holds an answer against a gap: ErrLong, if that is beyond what an answer may be.
func isGap(t *testing.T, what string, g api.Gap, e api.Errno, lo, hi *big.Rat) {
	t.Helper()
	if isLong(lo) || isLong(hi) {
		isError(t, what, g, e, api.ErrLong)
		return
	}
	if e != api.OK || g != gap(lo, hi) {
		t.Errorf("%s: %s, %d; not %s", what, shown(g), e, shown(gap(lo, hi)))
	}
}

// areGaps holds a list of gaps against another one.
func areGaps(t *testing.T, what string, l []api.Gap, e api.Errno, want []api.Gap) {
	t.Helper()
	same := e == api.OK && len(l) == len(want)
	for i := range want {
		same = same && l[i] == want[i]
	}
	if same {
		return
	}
	tell := func(l []api.Gap) string {
		var texts []string
		for _, g := range l {
			texts = append(texts, shown(g))
		}
		return strings.Join(texts, ", ")
	}
	t.Errorf("%s: %s, %d; not %s", what, tell(l), e, tell(want))
}
