package sturm_test

import (
	"math/big"
	"math/rand"
	"testing"

	"diapason/api"
	"diapason/sturm"
)

// isNarrowed asks for a root that is x, in a gap in which there is no other one.
func isNarrowed(t *testing.T, p terms, lo, hi, x *big.Rat, bits int) {
	t.Helper()
	g, e := sturm.Narrow(p.poly(), gap(lo, hi), bits)
	from, to := told(x, bits)
	isGap(t, "Narrow of "+p.name()+" from "+lo.RatString()+" to "+hi.RatString(), g, e, from, to)
}

// allBits are numbers of bits, with those at which answers change.
func allBits() []int { return []int{0, 1, 2, 3, 4, 5, 31, 32, 63, 64, 65, 255, 256} }

// P6.5: fractions, within the gap and at its ends, others being at its ends' other sides.
func TestNarrow(t *testing.T) {
	list := []*big.Rat{rat("-7/2"), rat("-2/3"), rat("-1/3"), rat("0"), rat("1/1000"), rat("3/8"), rat("1"), rat("9/7"), rat("5")}
	p := roots(append(list, list[1], list[4], list[4])...).mul(of("1 0 1"))
	ends := append(append([]*big.Rat{rat("-9")}, list...), greatest())
	for i, x := range list {
		before, after := ends[i], ends[i+2]
		half := func(y *big.Rat) *big.Rat { return times(plus(x, y), rat("1/2")) }
		close := func(y *big.Rat) *big.Rat { return plus(x, times(minus(y, x), power2(-300, 0))) }
		for _, bits := range allBits() {
			for _, lo := range []*big.Rat{x, half(before), close(before), plus(before, power2(-400, 0))} {
				for _, hi := range []*big.Rat{x, half(after), close(after), minus(after, power2(-400, 0))} {
					if !isLong(hi) {
						isNarrowed(t, p, lo, hi, x, bits)
					}
				}
			}
		}
	}
}

// root is the square root of n, or 0 less it, told at so many bits.
func root(n *big.Rat, neg bool, bits int) (lo, hi *big.Rat) {
	unit := power2(bits, 0)
	square := times(n, times(unit, unit))
	lo = new(big.Rat).SetInt(new(big.Int).Sqrt(new(big.Int).Div(square.Num(), square.Denom())))
	hi = lo
	if times(lo, lo).Cmp(square) != 0 {
		hi = plus(lo, rat("1"))
	}
	lo, hi = over(lo, unit), over(hi, unit)
	if neg {
		return negated(hi), negated(lo)
	}
	return lo, hi
}

// P6.5: square roots, of all sizes.
func TestNarrowOfSquareRoots(t *testing.T) {
	r := rand.New(rand.NewSource(8))
	list := []*big.Rat{rat("2"), rat("3"), rat("4"), rat("9/4"), rat("1/3"), power2(-600, 0), power2(-601, 0), power2(601, 1), power2(8*500, 3), greatest(), new(big.Rat).Inv(greatest())}
	for i := range 40 {
		list = append(list, new(big.Rat).Abs(anyRat(r, 1+i)))
	}
	for _, n := range list {
		if n.Sign() == 0 {
			continue
		}
		p := terms{negated(n), rat("0"), rat("1")}
		for _, bits := range allBits() {
			g, e := sturm.Narrow(p.poly(), gap(rat("0"), greatest()), bits)
			lo, hi := root(n, false, bits)
			isGap(t, "above 0 of "+p.name(), g, e, lo, hi)
			g, e = sturm.Narrow(p.poly(), gap(negated(greatest()), rat("0")), bits)
			lo, hi = root(n, true, bits)
			isGap(t, "below 0 of "+p.name(), g, e, lo, hi)
		}
	}
}

// P6.5, R7: ends of just MaxBytes bytes, and of one more.
func TestNarrowAtTheBound(t *testing.T) {
	top := greatest()
	for _, c := range []struct {
		times, x *big.Rat
		bits     []int
	}{
		{rat("1"), top, []int{0, 1, 256}},
		{rat("1"), negated(top), []int{0, 1, 256}},
		{rat("2"), minus(power2(4095, 0), rat("1/2")), []int{0, 1, 2, 256}},
		{rat("1"), power2(4095, 0), []int{0, 256}},
		{rat("3"), over(power2(4095, 1), rat("3")), []int{0, 1, 2, 3, 4, 256}},
		{rat("-3"), over(power2(4095, 1), rat("-3")), []int{0, 1, 2, 3, 4, 256}},
		{rat("3"), over(power2(3840, 5), rat("3")), []int{254, 255, 256}},
		{rat("3"), over(power2(3842, 5), rat("3")), []int{254, 255, 256}},
	} {
		for _, bits := range c.bits {
			isNarrowed(t, roots(c.x).scale(c.times), negated(top), top, c.x, bits)
		}
	}
}

// P6.5: bits that may not be, gaps without a root, and with more; of several errors the first.
func TestNarrowErrors(t *testing.T) {
	p, q := of("-2 0 1").poly(), roots(rat("1"), rat("1"), rat("2"), rat("3/2")).poly()
	for _, c := range []struct {
		p    api.Poly
		g    string
		bits int
		want api.Errno
	}{
		{p, "1 2", -1, api.ErrArg}, {p, "1 2", -1 << 31, api.ErrArg}, {p, "1 2", 257, api.ErrLong}, {p, "1 2", 1<<31 - 1, api.ErrLong}, {p, "2 1", 257, api.ErrArg}, {p, "2 1", -1, api.ErrArg},
		{nil, "1 2", -1, api.ErrArg}, {nil, "1 2", 257, api.ErrLong}, {nil, "1 2", 0, api.ErrZero}, {nil, "2 1", 0, api.ErrArg},
		{p, "0 1", 3, api.ErrRoot}, {p, "-2 2", 3, api.ErrRoot}, {p, "0 0", 256, api.ErrRoot}, {p, "3/2 3/2", 3, api.ErrRoot}, {p, "-2 2", 257, api.ErrLong},
		{q, "1 3/2", 3, api.ErrRoot}, {q, "1 2", 3, api.ErrRoot}, {q, "3/2 2", 3, api.ErrRoot}, {q, "0 1/2", 3, api.ErrRoot}, {q, "5/4 7/5", 0, api.ErrRoot}, {q, "1 5/4", 0, api.OK}, {q, "3/2 3/2", 0, api.OK},
		{of("5").poly(), "-9 9", 0, api.ErrRoot}, {of("1 0 1").poly(), "-9 9", 0, api.ErrRoot}, {of("0 0 0 -1").poly(), "-9 9", 0, api.OK},
	} {
		g, e := sturm.Narrow(c.p, gapText(c.g), c.bits)
		if c.want == api.OK {
			if e != api.OK {
				t.Errorf("Narrow of %v from %s: %d", c.p, c.g, e)
			}
			continue
		}
		isError(t, "Narrow from "+c.g, g, e, c.want)
	}
}

// P6.5: roots with others so near that no number of bits tells them apart.
func TestNarrowOfCloseOnes(t *testing.T) {
	for _, c := range []struct {
		n int
		a *big.Rat
	}{{8, power2(90, 1)}, {16, power2(100, 1)}, {24, power2(150, 3)}, {5, power2(1200, 1)}} {
		p, at := twoClose(c.n, c.a, 1).poly(), new(big.Rat).Inv(c.a)
		for _, bits := range []int{0, 65, 256} {
			lo, hi := told(at, bits)
			g, e := sturm.Narrow(p, gap(at, rat("1/2")), bits)
			isGap(t, "the upper one", g, e, lo, hi)
			g, e = sturm.Narrow(p, gap(rat("0"), at), bits)
			isGap(t, "the lower one", g, e, lo, hi)
			g, e = sturm.Narrow(p, gap(rat("0"), rat("1/2")), bits)
			isError(t, "both", g, e, api.ErrRoot)
		}
	}
}
