package schur_test

import (
	"math/big"
	"math/rand"
	"strings"
	"testing"

	"diapason/api"
)

// terms is a polynomial as the library has its coefficients: the lowest first, the last one not nought.
type terms []*big.Rat

// rat is the number of a text.
func rat(s string) *big.Rat {
	r, ok := new(big.Rat).SetString(s)
	if !ok {
		panic("no number: " + s)
	}
	return r
}

// rats are the numbers of a text with blanks between them.
func rats(s string) []*big.Rat {
	var l []*big.Rat
	for _, c := range strings.Fields(s) {
		l = append(l, rat(c))
	}
	return l
}

// whole is a whole number.
func whole(n int64) *big.Rat { return big.NewRat(n, 1) }

// power2 is 2^n + more.
func power2(n uint, more int64) *big.Rat {
	p := new(big.Int).Lsh(big.NewInt(1), n)
	return new(big.Rat).SetInt(p.Add(p, big.NewInt(more)))
}

// greatest is the greatest number that a fraction may be.
func greatest() *big.Rat { return power2(8*api.MaxBytes, -1) }

func plus(x, y *big.Rat) *big.Rat { return new(big.Rat).Add(x, y) }

func minus(x, y *big.Rat) *big.Rat { return new(big.Rat).Sub(x, y) }

func times(x, y *big.Rat) *big.Rat { return new(big.Rat).Mul(x, y) }

func over(x, y *big.Rat) *big.Rat { return new(big.Rat).Quo(x, y) }

func negated(x *big.Rat) *big.Rat { return new(big.Rat).Neg(x) }

// isReflection tells whether a number is above -1 and below 1.
func isReflection(x *big.Rat) bool { return x.Num().CmpAbs(x.Denom()) < 0 }

// frac is the fraction of a number of the library's, whatever its size.
func frac(r *big.Rat) api.Frac {
	num := new(big.Int).Abs(r.Num())
	return api.Frac{Neg: r.Sign() < 0, Num: string(num.Bytes()), Den: string(r.Denom().Bytes())}
}

// value is the number of a fraction that may be.
func value(x api.Frac) *big.Rat {
	num := new(big.Int).SetBytes([]byte(x.Num))
	if x.Neg {
		num.Neg(num)
	}
	return new(big.Rat).SetFrac(num, new(big.Int).SetBytes([]byte(x.Den)))
}

// fracs are the fractions of numbers.
func fracs(l []*big.Rat) []api.Frac {
	list := make([]api.Frac, len(l))
	for i, x := range l {
		list[i] = frac(x)
	}
	return list
}

// isLong tells whether a number has more bytes than a fraction's may have.
func isLong(l ...*big.Rat) bool {
	for _, r := range l {
		if len(r.Num().Bytes()) > api.MaxBytes || len(r.Denom().Bytes()) > api.MaxBytes {
			return true
		}
	}
	return false
}

// of is the polynomial of a text: coefficients with blanks between them.
func of(s string) terms { return terms(rats(s)).trim() }

// sparse has the coefficients 0 but for those of the places that are handed in.
func sparse(l map[int]*big.Rat) terms {
	p := make(terms, api.MaxDegree+1)
	for i := range p {
		p[i] = new(big.Rat)
		if c := l[i]; c != nil {
			p[i] = c
		}
	}
	return p.trim()
}

// poly is the polynomial as the program has it.
func (p terms) poly() api.Poly { return fracs(p) }

// at is the coefficient at i, nought behind the ends.
func (p terms) at(i int) *big.Rat {
	if i >= 0 && i < len(p) {
		return p[i]
	}
	return new(big.Rat)
}

// trim leaves the noughts at the end away.
func (p terms) trim() terms {
	for len(p) > 0 && p[len(p)-1].Sign() == 0 {
		p = p[:len(p)-1]
	}
	return p
}

func (p terms) add(q terms) terms {
	sum := make(terms, max(len(p), len(q)))
	for i := range sum {
		sum[i] = plus(p.at(i), q.at(i))
	}
	return sum.trim()
}

func (p terms) scale(x *big.Rat) terms {
	l := make(terms, len(p))
	for i, c := range p {
		l[i] = times(c, x)
	}
	return l.trim()
}

func (p terms) sub(q terms) terms { return p.add(q.scale(whole(-1))) }

func (p terms) mul(q terms) terms {
	if len(p) == 0 || len(q) == 0 {
		return nil
	}
	product := make(terms, len(p)+len(q)-1)
	for i := range product {
		product[i] = new(big.Rat)
	}
	for i, x := range p {
		for j, y := range q {
			product[i+j].Add(product[i+j], times(x, y))
		}
	}
	return product
}

// turned has the coefficients turned round, as one of the degree n.
func (p terms) turned(n int) terms {
	l := make(terms, n+1)
	for i := range l {
		l[i] = p.at(n - i)
	}
	return l.trim()
}

// value is the value at x.
func (p terms) value(x *big.Rat) *big.Rat {
	v := new(big.Rat)
	for i := len(p) - 1; i >= 0; i-- {
		v = plus(times(v, x), p[i])
	}
	return v
}

// cut is the beginning of a text.
func cut(s string) string {
	if len(s) > 160 {
		return s[:160] + ".."
	}
	return s
}

// name tells numbers, or how they begin.
func name(l []*big.Rat) string {
	texts := make([]string, len(l))
	for i, c := range l {
		texts[i] = cut(c.RatString())
	}
	return "(" + cut(strings.Join(texts, " ")) + ")"
}

// shown tells an answer's fractions, whether they may be or not.
func shown(l []api.Frac) string {
	var numbers []*big.Rat
	for _, x := range l {
		if strings.Trim(x.Den, "\x00") == "" {
			return "what may not be"
		}
		numbers = append(numbers, value(x))
	}
	return name(numbers)
}

// row is a chain as the library has its numbers.
type row struct {
	k   []*big.Rat
	far int
}

// rowOf is the chain of a text.
func rowOf(s string, far int) row { return row{rats(s), far} }

// chain is the chain as the program has it.
func (c row) chain() api.Chain { return api.Chain{K: fracs(c.k), Far: c.far} }

// name tells the chain.
func (c row) name() string {
	if c.far < 0 {
		return name(c.k) + " open"
	}
	return name(c.k) + " stopped"
}

// polys are both polynomials, by the chapter's own words.
func (c row) polys() (u, o terms) {
	u, o = terms{new(big.Rat), whole(int64(c.far))}, of("1")
	x := of("0 1")
	for i := len(c.k) - 1; i >= 0; i-- {
		k := c.k[i]
		u, o = x.mul(o.scale(k).add(u)), o.add(u.scale(k))
	}
	return u, o
}

// noFractions are fractions that may not be.
func noFractions() []api.Frac {
	long := "\x01" + strings.Repeat("\x00", api.MaxBytes)
	return []api.Frac{
		{}, {Den: "\x02"}, {Neg: true, Den: "\x01"}, {Num: "\x01"}, {Num: "\x02", Den: "\x04"}, {Num: "\x00\x01", Den: "\x03"},
		{Num: "\x01", Den: "\x00\x03"}, {Num: "\x01", Den: "\x00"}, {Num: long, Den: "\x01"}, {Neg: true, Num: "\x01", Den: long},
	}
}

// noChains are chains that may not be: a number may not, wherever it stands, or is no reflection, there are too many, or the far end is none.
func noChains() []api.Chain {
	half := frac(rat("1/2"))
	many := make([]api.Frac, api.MaxDegree)
	for i := range many {
		many[i] = half
	}
	list := []api.Chain{{}, {K: many, Far: 1}, {K: append(many, half), Far: -1}, {K: make([]api.Frac, 1<<16), Far: 1}, {K: make([]api.Frac, 31), Far: 1}}
	for _, far := range []int{0, 2, -2, 3, 1 << 30, -1 << 31, 1<<31 - 1} {
		list = append(list, api.Chain{Far: far}, api.Chain{K: []api.Frac{half}, Far: far})
	}
	wrong := noFractions()
	for _, x := range []*big.Rat{whole(1), whole(-1), rat("3/2"), rat("-4/3"), whole(5), greatest(), negated(greatest()), over(greatest(), power2(4095, 0)), over(power2(4000, 1), power2(4000, -1))} {
		wrong = append(wrong, frac(x))
	}
	for _, x := range wrong {
		last := make([]api.Frac, api.MaxDegree-1)
		for i := range last {
			last[i] = half
		}
		last[len(last)-1] = x
		for _, k := range [][]api.Frac{{x}, {x, half}, {half, x}, {half, x, half}, last} {
			list = append(list, api.Chain{K: k, Far: 1}, api.Chain{K: k, Far: -1})
		}
	}
	return list
}

// noPolys are polynomials that may not be: a coefficient may not, the last one is nought, or there are too many.
func noPolys() []api.Poly {
	one, nought := frac(rat("1")), frac(rat("0"))
	long := append(sparse(map[int]*big.Rat{32: whole(1)}).poly(), one)
	list := []api.Poly{{nought}, {one, nought}, {nought, one, nought}, make(api.Poly, 1), make(api.Poly, 33), make(api.Poly, 1<<16), long}
	for _, x := range noFractions() {
		list = append(list, api.Poly{x}, api.Poly{x, one}, api.Poly{one, x}, api.Poly{nought, x, one}, api.Poly{nought, one, x})
	}
	return list
}

// anyReflection makes reflections of at most so many bytes, some of them nought or near an end.
func anyReflection(r *rand.Rand, bytes int) *big.Rat {
	top := new(big.Int).Lsh(big.NewInt(1), uint(8*bytes))
	den := new(big.Int).Rand(r, top)
	den.Add(den, big.NewInt(1))
	num := new(big.Int).Rand(r, den)
	switch r.Intn(6) {
	case 0:
		num.SetInt64(0)
	case 1:
		num.Sub(den, big.NewInt(1))
	}
	if r.Intn(2) == 0 {
		num.Neg(num)
	}
	k := new(big.Rat).SetFrac(num, den)
	if isLong(k) {
		return rat("-1/3")
	}
	return k
}

// anyRow makes chains of at most so many reflections.
func anyRow(r *rand.Rand, count, bytes int) row {
	k := make([]*big.Rat, r.Intn(count+1))
	for i := range k {
		k[i] = anyReflection(r, bytes)
	}
	return row{k, 1 - 2*r.Intn(2)}
}

// rows are chains that may be, with the edges of the document among them.
func rows() []row {
	full, noughts, near := make([]*big.Rat, 31), make([]*big.Rat, 31), make([]*big.Rat, 31)
	for i := range full {
		full[i], noughts[i], near[i] = big.NewRat(int64(i%7-3), int64(i%5+4)), new(big.Rat), big.NewRat(int64(98+i%2), int64(1-i%2*2)*100)
	}
	// The areas 1 and 65535 change.
	area := big.NewRat(32767, 32768)
	top, small := over(power2(4095, 0), greatest()), over(whole(1), greatest())
	var list []row
	for _, k := range [][]*big.Rat{
		nil, rats("0"), rats("1/2"), rats("-1/2"), rats("1/2 1/3"), rats("-1/2 1/2 0"), rats("0 0 1/3"), rats("1/3 0 0"), rats("0 -2/3 0 5/7 0"), rats("99/100 -99/100 99/100"), rats("254/255 255/256 65534/65535 65535/65536"),
		full, noughts, near, {area, negated(area), area, negated(area)}, {top}, {negated(top)}, {small}, {top, small}, {small, negated(top), small}, {top, new(big.Rat), negated(top)}, {minus(whole(1), small)},
	} {
		list = append(list, row{k, 1}, row{k, -1})
	}
	return list
}

// isPoly holds an answer against a polynomial.
func isPoly(t *testing.T, what string, p api.Poly, want terms) {
	t.Helper()
	same := len(p) == len(want)
	for i := range want {
		same = same && p[i] == frac(want[i])
	}
	if !same {
		t.Errorf("%s: %s, not %s", what, shown(p), name(want))
	}
}

// isChain holds an answer against a chain.
func isChain(t *testing.T, what string, c api.Chain, e api.Errno, want row) {
	t.Helper()
	same := e == api.OK && c.Far == want.far && len(c.K) == len(want.k)
	for i := range want.k {
		same = same && c.K[i] == frac(want.k[i])
	}
	if !same {
		t.Errorf("%s: %s, %d, %d; not %s", what, shown(c.K), c.Far, e, want.name())
	}
}

// isNoChain asks for an error, beside which there is nothing.
func isNoChain(t *testing.T, what string, c api.Chain, e, want api.Errno) {
	t.Helper()
	if e != want || len(c.K) > 0 || c.Far != 0 {
		t.Errorf("%s: %s, %d, %d; not the error %d", what, shown(c.K), c.Far, e, want)
	}
}
