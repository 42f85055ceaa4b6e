package mode_test

import (
	"math/big"
	"math/rand"
	"testing"

	"diapason/api"
	"diapason/mode"
)

// someEnds are numbers at which gaps may begin and end: places of modes, wholes, and any ones.
func someEnds(r *rand.Rand) []*big.Rat {
	l := []*big.Rat{whole(0), whole(1), whole(-1), rat("1/2"), rat("-1/3"), whole(2), rat("1/65536"), power2(30, 1), negated(power2(70, 0)), greatest(), negated(greatest()), over(whole(1), greatest())}
	for range 6 {
		l = append(l, big.NewRat(r.Int63n(4000)-2000, 1+r.Int63n(999)))
	}
	return l
}

// P12.2: how many half tangents a gap has, mirror images too, both ends being in it.
func TestCount(t *testing.T) {
	t.Parallel()
	r := rand.New(rand.NewSource(1))
	some, ends := 0, 0
	for i, b := range bores(2, 40) {
		line := wholes(boresLine(b))
		l := someEnds(r)
		for range 12 {
			lo, hi := l[r.Intn(len(l))], l[r.Intn(len(l))]
			if isGreat(lo) && isGreat(hi) && i%8 > 0 {
				continue
			}
			n, e := mode.Count(b, gap(lo, hi))
			if lo.Cmp(hi) > 0 {
				isNumber(t, "Count of "+name(b)+" from "+told(frac(lo))+" to "+told(frac(hi)), n, e, 0, api.ErrArg)
				continue
			}
			want := countIn(line, lo, hi)
			isNumber(t, "Count of "+name(b)+" from "+told(frac(lo))+" to "+told(frac(hi)), n, e, want, api.OK)
			some += want
			if signAt(line, lo) == 0 || signAt(line, hi) == 0 {
				ends++
			}
		}
	}
	if some < 1000 || ends < 20 {
		t.Errorf("%d were counted, %d gaps end at a mode", some, ends)
	}
}

// isGreat tells whether the number is one of those of which much is to be reckoned.
func isGreat(x *big.Rat) bool { return x.Num().BitLen()+x.Denom().BitLen() > 1000 }

// P12.2: each end is in the gap, and nothing beside it; the mode -1 lies in none.
func TestCountAtEnds(t *testing.T) {
	b := pipe(api.Stopped, api.Stopped, "1x4")
	near := over(whole(1), power2(500, 0))
	for _, c := range []struct {
		lo, hi *big.Rat
		want   int
	}{
		{whole(0), whole(0), 1}, {whole(1), whole(1), 1}, {whole(-1), whole(-1), 1}, {whole(-1), whole(1), 3}, {whole(0), whole(1), 2}, {whole(-1), whole(0), 2},
		{near, minus(whole(1), near), 0}, {near, whole(1), 1}, {negated(near), near, 1}, {plus(whole(1), near), greatest(), 0}, {minus(whole(1), near), plus(whole(1), near), 1},
		{negated(greatest()), greatest(), 3}, {negated(greatest()), plus(whole(-1), near), 1}, {greatest(), greatest(), 0}, {rat("1/2"), rat("1/2"), 0},
	} {
		n, e := mode.Count(b, gap(c.lo, c.hi))
		isNumber(t, told(frac(c.lo))+" to "+told(frac(c.hi)), n, e, c.want, api.OK)
	}
}

// P12.2: of a bore whose one mode is -1 nothing is counted; of one whose modes huddle all are.
func TestCountOfTheFew(t *testing.T) {
	for _, b := range []api.Bore{pipe(api.Open, api.Stopped, "3/7x1"), pipe(api.Stopped, api.Open, "65535x1")} {
		n, e := mode.Count(b, gap(negated(greatest()), greatest()))
		isNumber(t, name(b), n, e, 0, api.OK)
	}
	for _, b := range pairs() {
		n, e := mode.Count(b, gap(negated(power2(999, 0)), power2(999, 0)))
		isNumber(t, name(b), n, e, len(cellsOf(b)), api.OK)
	}
}

// P12.2: a gap that may not be.
func TestCountOfNoGap(t *testing.T) {
	for _, b := range fourEnds("1x2 3x1") {
		for i, g := range noGaps() {
			n, e := mode.Count(b, g)
			if n != 0 || e != api.ErrArg {
				t.Errorf("case %d: %s to %s: %d, %d", i, told(g.Lo), told(g.Hi), n, e)
			}
		}
	}
}
