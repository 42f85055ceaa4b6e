package bore_test

import (
	"math/big"
	"math/rand"
	"slices"
	"strings"
	"testing"

	"diapason/api"
	"diapason/bore"
)

// signs are those of the ends.
var signs = map[int]int{api.Stopped: 1, api.Open: -1}

// reflections are those between the cells, by the document's own words.
func reflections(b api.Bore) []*big.Rat {
	var k []*big.Rat
	l := cells(b)
	for i := range l[1:] {
		k = append(k, reflection(l[i], l[i+1]))
	}
	return k
}

// P9.1: the reflections between all cells, and the sign of the far end, whatever the near one is.
func TestChain(t *testing.T) {
	for _, b := range bores(3) {
		c, e := bore.Chain(b)
		isChain(t, "Chain of "+name(b.Pieces), c, e, reflections(b), signs[b.Far])
	}
	for _, c := range []struct{ b, k string }{
		{"1x1", ""}, {"1x4", "0 0 0"}, {"1x1 2x1", "-1/3"}, {"2x1 1x1", "1/3"}, {"1x1 65535x1", "-32767/32768"}, {"65535x1 1/65535x1", "2147418112/2147418113"}, {"3/2x2 1/2x2", "0 1/2 0"},
	} {
		got, e := bore.Chain(pipe(api.Open, api.Stopped, c.b))
		isChain(t, "Chain of "+c.b, got, e, rats(c.k), 1)
	}
}

// areas are those that the chapter's words tell, and whether all of them are short.
func areas(k []*big.Rat, first *big.Rat) ([]*big.Rat, bool) {
	l := []*big.Rat{first}
	for i, x := range k {
		area := over(times(l[i], minus(whole(1), x)), plus(whole(1), x))
		if isLong(area) {
			return nil, false
		}
		l = append(l, area)
	}
	return l, true
}

// isAreas holds Areas against the chapter's words.
func isAreas(t *testing.T, k []*big.Rat, first *big.Rat) (short bool) {
	t.Helper()
	want, short := areas(k, first)
	for _, far := range []int{1, -1} {
		l, e := bore.Areas(api.Chain{K: fracs(k), Far: far}, frac(first))
		if short {
			isList(t, "Areas of "+shown(fracs(k)), l, e, want)
		} else if e != api.ErrLong || len(l) > 0 {
			t.Errorf("Areas of %s: %s, %d; not ErrLong", shown(fracs(k)), shown(l), e)
		}
	}
	return short
}

// anyReflection makes reflections of at most so many bytes, some of them nought or near an end.
func anyReflection(r *rand.Rand, bytes int) *big.Rat {
	top := new(big.Int).Lsh(big.NewInt(1), uint(8*bytes-1))
	den := new(big.Int).Rand(r, top)
	den.Add(den, big.NewInt(1))
	num := new(big.Int).Rand(r, den)
	switch r.Intn(6) {
	case 0:
		num.SetInt64(0)
	case 1:
		num.Sub(den, big.NewInt(1))
	}
	if r.Intn(2) == 0 {
		num.Neg(num)
	}
	return new(big.Rat).SetFrac(num, den)
}

// P9.2: areas of any reflections, against the library's numbers; those between two areas that are far from any bore's too.
func TestAreasOfAny(t *testing.T) {
	r := rand.New(rand.NewSource(4))
	var count [2]int
	for i := range 600 {
		k := make([]*big.Rat, r.Intn(api.MaxDegree))
		for j := range k {
			k[j] = anyReflection(r, []int{1, 4, 40, 512}[i%4])
		}
		first := new(big.Rat).Abs(anyReflection(r, []int{1, 4, 512}[i%3]))
		if first.Sign() == 0 {
			first = rat("7/3")
		}
		if isAreas(t, k, first) {
			count[0]++
		} else {
			count[1]++
		}
	}
	if count[0] < 200 || count[1] < 100 {
		t.Errorf("%v are short and long", count)
	}
}

// between is the reflection behind which the area is so many times as great.
func between(factor *big.Rat) *big.Rat { return reflection(whole(1), factor) }

// P9.2: an area may have MaxBytes bytes above and below, and not one more, wherever it stands; what is between is not held to that.
func TestAreasAtTheBound(t *testing.T) {
	g := greatest()
	up, down := between(g), between(over(whole(1), g))
	half := between(power2(4095, 0))
	// 1 + k has 513 bytes above: it is 5 m over the reflection's denominator, and the area 5 over that is short.
	five := power2(4096, 1)
	for new(big.Int).Mod(five.Num(), big.NewInt(10)).Int64() != 5 {
		five = plus(five, whole(2))
	}
	wide := over(minus(five, whole(1)), plus(five, whole(1)))
	for i, c := range []struct {
		first *big.Rat
		k     []*big.Rat
		ok    bool
	}{
		{g, nil, true},
		{over(whole(1), g), nil, true},
		{over(minus(g, whole(1)), g), nil, true},
		{whole(1), []*big.Rat{up}, true},
		{rat("1/2"), []*big.Rat{up}, true},
		{whole(2), []*big.Rat{up}, false},
		{whole(1), []*big.Rat{down}, true},
		{whole(2), []*big.Rat{down}, true},
		{rat("1/2"), []*big.Rat{down}, false},
		{g, []*big.Rat{down, up}, true},
		{whole(1), []*big.Rat{up, down, down, up}, true},
		{whole(1), []*big.Rat{up, rat("0"), rat("-1/3")}, false},
		{whole(1), []*big.Rat{half}, true},
		{whole(1), []*big.Rat{half, rat("-1/3")}, false},
		{whole(1), []*big.Rat{half, rat("-1/3"), rat("1/3"), rat("1/3")}, false},
		{whole(1), []*big.Rat{negated(half), rat("1/3")}, false},
		{whole(5), []*big.Rat{wide}, true},
		{whole(1), []*big.Rat{wide}, false},
		{power2(4095, 0), []*big.Rat{rat("-1/3")}, false},
		{power2(4095, 0), []*big.Rat{rat("1/3"), rat("-1/3")}, true},
	} {
		for _, x := range c.k {
			if isLong(x) || x.Num().CmpAbs(x.Denom()) >= 0 {
				t.Fatalf("case %d has no chain", i)
			}
		}
		if isAreas(t, c.k, c.first) != c.ok {
			t.Errorf("case %d is not what it says", i)
		}
	}
	if x := plus(whole(1), wide); len(x.Num().Bytes()) <= api.MaxBytes {
		t.Errorf("what is between is short: %s", cut(x.RatString()))
	}
}

// P9.2: as many reflections as a chain may have, and areas that grow from one to the next.
func TestAreasOfLongChains(t *testing.T) {
	k := rats(strings.Repeat("-1/3 ", 31))
	isAreas(t, k, rat("1/7"))
	l, e := bore.Areas(api.Chain{K: fracs(k), Far: 1}, frac(rat("1/7")))
	if len(l) != 32 || e != api.OK || l[31] != frac(over(power2(31, 0), whole(7))) {
		t.Errorf("Areas: %s, %d", shown(l), e)
	}
}

// P9.2: a chain that may not be, and a first area that may not be or is not above 0, ahead of all else.
func TestAreasOfWrongArguments(t *testing.T) {
	one := frac(whole(1))
	isNone := func(what string, c api.Chain, first api.Frac) {
		t.Helper()
		if l, e := bore.Areas(c, first); len(l) > 0 || e != api.ErrArg {
			t.Errorf("%s: Areas(%s, %d; %s) = %s, %d", what, shown(c.K), c.Far, told(first), shown(l), e)
		}
	}
	for _, first := range notAbove() {
		isNone("a wrong area", row("", 1), first)
		isNone("a wrong area", row("1/2 1/3", -1), first)
		isNone("two wrong ones", row("1", -1), first)
	}
	for _, far := range []int{0, 2, -2, 3, 1 << 30, -1 << 31, 1<<31 - 1} {
		isNone("a wrong sign", row("", far), one)
		isNone("a wrong sign", row("1/2", far), one)
	}
	for _, s := range []string{"1", "-1", "3/2", "-4/3", "0 1", "1/2 1/3 -1", "-1 0", strings.Repeat("0 ", 32), strings.Repeat("1/2 ", 33)} {
		isNone("a wrong chain", row(s, 1), one)
	}
	isNone("no reflections", api.Chain{K: make([]api.Frac, 1<<16), Far: 1}, one)
	// Ahead of the area that would be too long.
	up := frac(between(greatest()))
	for _, x := range append(noFractions(), frac(whole(1)), frac(greatest()), frac(negated(greatest()))) {
		isNone("a wrong reflection", api.Chain{K: []api.Frac{x}, Far: 1}, one)
		isNone("a wrong reflection at last", api.Chain{K: []api.Frac{up, up, x}, Far: 1}, one)
	}
}

// R5: the chain stays as it is, the room behind it too, and what is answered shares nothing with it.
func TestChainsAreLeft(t *testing.T) {
	room := fracs(rats("-1/2 1/2 0 1/3 1/4"))
	was := slices.Clone(room)
	for range 2 {
		l, e := bore.Areas(api.Chain{K: room[:3], Far: 1}, frac(whole(1)))
		isList(t, "Areas", l, e, rats("1 3 1 1"))
		clear(l[:cap(l)])
		if !slices.Equal(room, was) {
			t.Fatalf("the room: %s", shown(room))
		}
	}
}
