package sturm_test

import (
	"math/big"
	"math/rand"
	"testing"

	"diapason/sturm"
)

// isCounted asks for the roots in a gap.
func isCounted(t *testing.T, p terms, l chain, lo, hi *big.Rat) {
	t.Helper()
	n, e := sturm.Count(p.poly(), gap(lo, hi))
	isNumber(t, "Count of "+p.name()+" from "+lo.RatString()+" to "+hi.RatString(), n, e, l.count(lo, hi))
}

// P6.2: gaps with roots in them, at their ends, beside them, of no width, and as wide as may be.
func TestCount(t *testing.T) {
	top := greatest()
	small := new(big.Rat).Inv(top)
	ends := []*big.Rat{negated(top), negated(power2(4095, 0))}
	for _, s := range []string{"-5", "-2", "-3/2", "-1", "-2/7", "-1/4"} {
		ends = append(ends, rat(s))
	}
	ends = append(ends, negated(small), rat("0"), small)
	for _, s := range []string{"1/4", "1/3", "1/2", "3/4", "1", "4/3", "3/2", "2", "3", "5"} {
		ends = append(ends, rat(s))
	}
	ends = append(ends, power2(200, 1), top)
	for _, p := range polys() {
		l := p.simple().chain()
		n, e := sturm.All(p.poly())
		isNumber(t, "All of "+p.name(), n, e, l.all())
		changes := make([]int, len(ends))
		for i, x := range ends {
			changes[i] = l.at(x)
		}
		for i, lo := range ends {
			more := 0
			if l[0].at(lo).Sign() == 0 {
				more = 1
			}
			for k := i; k < len(ends); k++ {
				n, e := sturm.Count(p.poly(), gap(lo, ends[k]))
				isNumber(t, "Count of "+p.name()+" from "+lo.RatString()+" to "+ends[k].RatString(), n, e, changes[i]-changes[k]+more)
			}
		}
	}
}

// P6.2: polynomials of many kinds, and gaps of which many begin or end at roots.
func TestCountOfMany(t *testing.T) {
	r := rand.New(rand.NewSource(4))
	for i := range 400 {
		p := anyTerms(r, 2+i%12, 1+i%7)
		l := p.simple().chain()
		n, e := sturm.All(p.poly())
		isNumber(t, "All of "+p.name(), n, e, l.all())
		for range 6 {
			lo, hi := big.NewRat(r.Int63n(33)-16, 1+r.Int63n(4)), anyRat(r, 1+i%3)
			if lo.Cmp(hi) > 0 {
				lo, hi = hi, lo
			}
			isCounted(t, p, l, lo, hi)
		}
	}
}

// P6.2: as many roots as there may be, all in one unit, and far from one another.
func TestCountOfAsManyAsMayBe(t *testing.T) {
	var near, far, plain []*big.Rat
	for i := int64(1); i <= 32; i++ {
		near = append(near, big.NewRat(i, 100))
		far = append(far, power2(int(8*i-130), 0))
		plain = append(plain, whole(i-16))
	}
	for _, list := range [][]*big.Rat{near, far, plain} {
		p := roots(list...)
		n, e := sturm.All(p.poly())
		isNumber(t, "All of "+p.name(), n, e, 32)
		for i := 0; i < len(list); i += 3 {
			for k := i; k < len(list); k += 7 {
				n, e := sturm.Count(p.poly(), gap(list[i], list[k]))
				isNumber(t, "from root to root", n, e, k-i+1)
			}
			if i+2 < len(list) {
				half := times(plus(list[i], list[i+1]), rat("1/2"))
				n, e := sturm.Count(p.poly(), gap(half, greatest()))
				isNumber(t, "from between two on", n, e, 31-i)
			}
		}
	}
}

// twoClose is x^n - 2 (a x - 1)^2: it has two roots at about 1 / a, which are the nearer to one another, the greater n is, and none there with the other sign.
func twoClose(n int, a *big.Rat, sign int64) terms {
	p := terms{rat("-1"), a}
	p = p.mul(p).scale(whole(-2 * sign))
	for len(p) < n {
		p = append(p, new(big.Rat))
	}
	return append(p, rat("1"))
}

// P6.2: roots that are much nearer to one another than any gap can tell them apart, and such that are not real.
func TestCountOfCloseOnes(t *testing.T) {
	for _, c := range []struct {
		n int
		a *big.Rat
	}{{4, rat("1000")}, {8, rat("100000/7")}, {16, power2(60, 1)}, {24, power2(100, 0)}, {32, power2(300, 5)}, {6, power2(1500, 1)}, {3, power2(2040, 0)}} {
		at := new(big.Rat).Inv(c.a)
		step := over(at, rat("1000"))
		for sign, want := range map[int64]int{1: 2, -1: 0} {
			p := twoClose(c.n, c.a, sign).poly()
			for _, g := range [][2]*big.Rat{{rat("0"), rat("1/2")}, {minus(at, step), plus(at, step)}, {rat("-1/3"), rat("1/3")}} {
				n, e := sturm.Count(p, gap(g[0], g[1]))
				isNumber(t, "of both", n, e, want)
			}
			n, e := sturm.Count(p, gap(rat("0"), at))
			isNumber(t, "up to between them", n, e, want/2)
			n, e = sturm.Count(p, gap(at, rat("1/2")))
			isNumber(t, "from between them on", n, e, want/2)
			n, e = sturm.Count(p, gap(rat("0"), minus(at, step)))
			isNumber(t, "below them", n, e, 0)
			n, e = sturm.Count(p, gap(at, at))
			isNumber(t, "between them", n, e, 0)
		}
	}
}

// P6.2: several bunches of close roots, at the end of a gap too.
func TestCountOfBunches(t *testing.T) {
	var list []*big.Rat
	for i := int64(0); i < 4; i++ {
		for k := range 5 {
			list = append(list, plus(whole(i), times(whole(int64(k*k)), power2(-90, 0))))
		}
	}
	p := roots(list...).poly()
	for i := int64(0); i < 4; i++ {
		for _, c := range []struct {
			lo, hi *big.Rat
			want   int
		}{
			{whole(i), plus(whole(i), rat("1/2")), 5}, {minus(whole(i), rat("1/2")), whole(i), 1},
			{minus(whole(i), rat("1/3")), plus(whole(i), power2(-88, 0)), 3}, {plus(whole(i), power2(-91, 0)), whole(i + 1), 5 - int(i/3)},
		} {
			n, e := sturm.Count(p, gap(c.lo, c.hi))
			isNumber(t, "from "+c.lo.RatString()+" to "+c.hi.RatString(), n, e, c.want)
		}
	}
}

// P6.2, R7: coefficients with as many bytes as may be, of which each has a denominator of its own.
func TestCountOfGreatOnes(t *testing.T) {
	r := rand.New(rand.NewSource(5))
	for _, count := range []int{3, 5, 6} {
		p := make(terms, count)
		for i := range p {
			p[i] = over(plus(anyWhole(r, 511), rat("1")), plus(anyWhole(r, 511), rat("1")))
		}
		l := p.simple().chain()
		n, e := sturm.All(p.poly())
		isNumber(t, "All", n, e, l.all())
		for _, hi := range []string{"-1", "1/3", "1", "7"} {
			isCounted(t, p, l, rat("-5/2"), rat(hi))
		}
	}
	p := make(terms, 33)
	for i := range p {
		p[i] = over(plus(anyWhole(r, 511), rat("1")), plus(anyWhole(r, 511), rat("1")))
	}
	n, e := sturm.All(p.poly())
	below, belowE := sturm.Count(p.poly(), gap(negated(power2(4000, 0)), rat("1/3")))
	above, aboveE := sturm.Count(p.poly(), gap(rat("1/3"), power2(4000, 0)))
	if n != below+above || n%2 != 0 || e != 0 || belowE != 0 || aboveE != 0 {
		t.Errorf("%d, not %d and %d", n, below, above)
	}
}
