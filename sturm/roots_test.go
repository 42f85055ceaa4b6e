package sturm_test

import (
	"math/big"
	"math/rand"
	"slices"
	"testing"

	"diapason/api"
	"diapason/sturm"
)

// reach is a number for which all roots are nearer to 0 than 2^reach.
func reach(p terms) int {
	x := bound(p)
	n := 1
	for power2(n, 0).Cmp(x) < 0 {
		n++
	}
	return n
}

// P6.4: roots of all kinds, told at the least number, as Sturm's chain finds them cell by cell.
func TestRoots(t *testing.T) {
	r := rand.New(rand.NewSource(6))
	var list []terms
	for _, p := range polys() {
		if reach(p) < 100 {
			list = append(list, p)
		}
	}
	for i := range 300 {
		list = append(list, anyTerms(r, 2+i%10, 1+i%2))
	}
	for _, p := range list {
		simple := p.simple()
		want, bits := simple.chain().roots(reach(simple))
		if bits > api.MaxSplit {
			t.Fatalf("of %s there are none", p.name())
		}
		l, e := sturm.Roots(p.poly())
		areGaps(t, "Roots of "+p.name(), l, e, want)
	}
}

// P6.4: a root that is nearly as far from 0 as it can be, by the sizes of the coefficients: each one below the last is just below a power of the root of 2^21, but for the first one of them.
func TestRootsThatAreFar(t *testing.T) {
	for _, n := range []int{4, 8, 16} {
		p := make(terms, n+1)
		p[n], p[n-1] = rat("1"), rat("-1023")
		for i := range n - 1 {
			square := new(big.Int).Lsh(big.NewInt(1), uint(21*(n-i)))
			p[i] = plus(rat("1"), negated(new(big.Rat).SetInt(square.Sqrt(square))))
		}
		for _, q := range []terms{p, p.mirrored()} {
			want, _ := q.simple().chain().roots(30)
			l, e := sturm.Roots(q.poly())
			areGaps(t, "Roots of "+q.name(), l, e, want)
		}
	}
}

// areToldTogether asks for roots that are these numbers: their places at the least number at which there is a point from each one to the next.
func areToldTogether(t *testing.T, p terms, list []*big.Rat) {
	t.Helper()
	list = slices.Clone(list)
	slices.SortFunc(list, (*big.Rat).Cmp)
	list = slices.CompactFunc(list, func(x, y *big.Rat) bool { return x.Cmp(y) == 0 })
	bits := 0
	for i := 1; i < len(list); i++ {
		for b := bits; b <= api.MaxSplit+1; b++ {
			_, ceiling := told(list[i-1], b)
			bits = b
			if ceiling.Cmp(list[i]) <= 0 {
				break
			}
		}
	}
	l, e := sturm.Roots(p.poly())
	what := "Roots of " + p.name()
	if bits > api.MaxSplit {
		if e != api.ErrRoot || len(l) > 0 {
			t.Errorf("%s: %v, %d; not ErrRoot", what, l, e)
		}
		return
	}
	var want []api.Gap
	for _, x := range list {
		lo, hi := told(x, bits)
		if isLong(lo) || isLong(hi) {
			if e != api.ErrLong || len(l) > 0 {
				t.Errorf("%s: %v, %d; not ErrLong", what, l, e)
			}
			return
		}
		want = append(want, gap(lo, hi))
	}
	areGaps(t, what, l, e, want)
}

// P6.4: fractions, several times and near to one another too, by where they lie.
func TestRootsThatAreFractions(t *testing.T) {
	r := rand.New(rand.NewSource(7))
	for i := range 300 {
		var list []*big.Rat
		for range 1 + i%7 {
			x := big.NewRat(r.Int63n(41)-20, 1+r.Int63n(6))
			list = append(list, x)
			if r.Intn(3) == 0 {
				list = append(list, plus(x, times(big.NewRat(r.Int63n(9)-4, 1+r.Int63n(3)), power2(-r.Intn(40), 0))))
			}
		}
		p := roots(list...)
		if r.Intn(2) == 0 && len(p) < 30 {
			// Some that are not real, but near to the first root.
			p = p.mul(terms{plus(times(list[0], list[0]), power2(-r.Intn(60), 0)), times(list[0], rat("-2")), rat("1")})
		}
		areToldTogether(t, p.scale(big.NewRat(1+r.Int63n(5), -7)), list)
	}
}

// P6.4: neighbours in the cells of MaxSplit and about them: in one cell, in two, at points.
func TestRootsAtTheFinest(t *testing.T) {
	unit := power2(-api.MaxSplit, 0)
	for _, c := range [][]string{
		{"1/3", "2/3"}, {"1/3", "1"}, {"0", "1/3"}, {"0", "1"}, {"1", "2"}, {"1", "3/2"}, {"2/3", "4/3"}, {"1/3", "5/3"}, {"5/4", "7/4"}, {"3/2", "2"}, {"3/2", "5/2"},
		{"-1/3", "1/3"}, {"-1/3", "-2/3"}, {"-4/3", "-2/3"}, {"-1", "1/2"}, {"-2", "-3"}, {"-1/2", "-2/3", "1/2"}, {"1/3", "2/3", "4/3", "5/3"}, {"1/3", "1", "4/3", "2", "9/4"},
		{"1/1000", "999/1000"}, {"999/1000", "1001/1000"}, {"1/3", "1/3", "1/3"}, {"1/1000", "1/1001"}, {"7", "15/2", "8"}, {"7", "15/2", "47/6"},
	} {
		for _, from := range []*big.Rat{rat("0"), rat("1"), rat("-1"), rat("5/8"), power2(30, 0), power2(-256, 0), power2(-255, 0)} {
			var list []*big.Rat
			for _, s := range c {
				list = append(list, plus(from, times(rat(s), unit)))
			}
			areToldTogether(t, roots(list...), list)
			areToldTogether(t, roots(append(list, rat("3/7"))...), append(list, rat("3/7")))
		}
	}
}

// P6.4: two that are much nearer than any cell, in one cell and parted by a point; and such that are not real in a cell of MaxSplit, alone and with one that is.
func TestRootsInOneCell(t *testing.T) {
	p := twoClose(16, power2(100, 1), 1)
	if l, e := sturm.Roots(p.poly()); e != api.ErrRoot || len(l) > 0 {
		t.Errorf("two in a cell: %v, %d", l, e)
	}
	p = twoClose(16, power2(100, 0), 1)
	l, e := sturm.Roots(p.poly())
	if at := frac(power2(-100, 0)); e != api.OK || len(l) != 4 || l[1].Hi != at || l[2].Lo != at {
		t.Errorf("two about a point: %v, %d", l, e)
	}
	// (2^300 x - 1)^2 + 1
	pair := terms{rat("2"), negated(power2(301, 0)), power2(600, 0)}
	areToldTogether(t, pair, nil)
	areToldTogether(t, pair.mul(roots(rat("5"), rat("-1/3"))), []*big.Rat{rat("5"), rat("-1/3")})
	for _, x := range []*big.Rat{power2(-300, 0), power2(-301, 0), times(power2(-300, 0), rat("4/3")), power2(-257, 0), power2(-256, 0), rat("0"), negated(power2(-300, 0))} {
		areToldTogether(t, pair.mul(roots(x)), []*big.Rat{x})
		areToldTogether(t, pair.mul(roots(x, x, rat("-7"))), []*big.Rat{x, rat("-7")})
		areToldTogether(t, pair.mul(roots(x, times(x, rat("9/8")))), []*big.Rat{x, times(x, rat("9/8"))})
	}
}

// small is p times a number for which all coefficients may be.
func small(p terms) terms {
	for n := range 4096 {
		for _, factor := range []*big.Rat{power2(-n, 0), times(rat("3"), power2(-n, 0)), times(rat("15"), power2(-n, 0))} {
			if q := p.scale(factor); !slices.ContainsFunc(q, isLong) {
				return q
			}
		}
	}
	panic("no polynomial: " + p.name())
}

// P6.4, R7: roots that are just within the bound of an answer, and beyond it; ErrRoot is told ahead of ErrLong.
func TestRootsThatAreLong(t *testing.T) {
	top, one := greatest(), rat("1")
	unit := power2(-api.MaxSplit, 0)
	for _, list := range [][]*big.Rat{
		{top}, {negated(top)}, {minus(power2(4095, 0), rat("1/2"))}, {power2(4095, 0), one}, {power2(4080, 0), rat("3/2"), rat("7/4")}, {over(power2(4095, 1), rat("3"))}, {over(power2(4000, 1), rat("-3")), rat("1/5")},
		{over(power2(3500, 5), rat("3")), unit, times(unit, rat("3/2"))}, {power2(3500, 0), unit, times(unit, rat("5/2"))},
	} {
		areToldTogether(t, small(roots(list...)), list)
	}
	// 2^17 - 1 goes into 2^4097 - 1: so a root may lie between 2^4096 - 1, which may be told, and 2^4096.
	x := minus(power2(4096, 0), rat("1/2"))
	p := roots(x).scale(over(rat("2"), power2(17, -1)))
	areToldTogether(t, p, []*big.Rat{x})
	areToldTogether(t, terms{negated(p[0]), p[1]}, []*big.Rat{negated(x)})
	for _, c := range []struct {
		p    terms
		want api.Errno
	}{
		{terms{negated(power2(2048, 0)), power2(-2048, 0)}, api.ErrLong},
		{terms{negated(power2(2047, 0)), power2(-2048, 0)}, api.OK},
		{terms{negated(top), rat("0"), new(big.Rat).Inv(top)}, api.OK},
		// (2^300 x - 1)^2 less x^3 over 2^3700 has two roots in a cell of MaxSplit, and one that is too long; with 2^256 the two are about a point.
		{terms{rat("1"), negated(power2(301, 0)), power2(600, 0), negated(power2(-3700, 0))}, api.ErrRoot},
		{terms{rat("1"), negated(power2(257, 0)), power2(512, 0), negated(power2(-3700, 0))}, api.ErrLong},
		{terms{rat("1"), negated(power2(257, 0)), power2(512, 0), negated(power2(-2700, 0))}, api.OK},
	} {
		l, e := sturm.Roots(c.p.poly())
		if e != c.want || e != api.OK && len(l) > 0 {
			t.Errorf("Roots of %s = %v, %d", c.p.name(), l, e)
		}
	}
}

// P6.4: as many roots as there may be.
func TestRootsAsManyAsMayBe(t *testing.T) {
	var plain, near, bunches []*big.Rat
	for i := int64(0); i < 32; i++ {
		plain = append(plain, big.NewRat(i-11, 3))
		near = append(near, plus(rat("1/3"), times(whole(i), power2(-70, 0))))
		bunches = append(bunches, plus(whole(i/4), times(whole(i%4), power2(-50, 0))))
	}
	for _, list := range [][]*big.Rat{plain, near, bunches} {
		areToldTogether(t, roots(list...), list)
	}
}
