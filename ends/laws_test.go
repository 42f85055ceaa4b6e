package ends_test

import (
	"math/big"
	"math/rand"
	"slices"
	"testing"

	"diapason/api"
	"diapason/ends"
)

// P13.4: Back leads back from At, and At from Back, wherever both have an answer.
func TestThereAndBack(t *testing.T) {
	r := rand.New(rand.NewSource(1))
	asked := 0
	for _, l := range tables(9) {
		x := made(t, l)
		flares, lengths := columns(l)
		for _, flare := range places(r, flares) {
			asked += leadsBack(t, "At of "+name(l), x.At, x.Back, frac(flare))
		}
		for _, length := range places(r, lengths) {
			asked += leadsBack(t, "Back of "+name(l), x.Back, x.At, frac(length))
		}
	}
	if asked < 5000 {
		t.Errorf("%d answers lead back", asked)
	}
}

// leadsBack asks one call for what led the other one to its answer, and tells how many answers that are: one or none.
func leadsBack(t *testing.T, what string, there, back func(api.Frac) (api.Frac, api.Errno), x api.Frac) int {
	t.Helper()
	y, e := there(x)
	if e != api.OK {
		return 0
	}
	z, e := back(y)
	if z != x || e != api.OK {
		t.Errorf("%s at %s is %s, from which %s, %d is led back", what, told(x), told(y), told(z), e)
	}
	return 1
}

// P13.4: of two flares the greater one has the greater length.
func TestAtRises(t *testing.T) {
	r := rand.New(rand.NewSource(2))
	for _, l := range tables(10) {
		x := made(t, l)
		flares, _ := columns(l)
		list := places(r, flares)
		slices.SortFunc(list, (*big.Rat).Cmp)
		list = slices.CompactFunc(list, func(x, y *big.Rat) bool { return x.Cmp(y) == 0 })
		var ahead *big.Rat
		for _, flare := range list {
			y, e := x.At(frac(flare))
			if e != api.OK {
				continue
			}
			length := value(y)
			if ahead != nil && length.Cmp(ahead) <= 0 {
				t.Errorf("At of %s: %s, and %s ahead of it", name(l), told(y), cut(ahead.RatString()))
			}
			ahead = length
		}
	}
}

// P13.4: rows between on the line of their neighbours change no answer.
func TestRowsOnTheLine(t *testing.T) {
	r := rand.New(rand.NewSource(3))
	for _, l := range tables(11) {
		if more := withRowsBetween(r, l); len(more) > len(l) {
			one, two := made(t, l), made(t, more)
			isLike(t, name(more), one, two, l)
			isLike(t, name(more), one, two, more)
			sameCuts(t, one, two, more)
		}
	}
}

// withRowsBetween are the rows, with some more on the lines between them, as many as may be.
func withRowsBetween(r *rand.Rand, l []api.Row) []api.Row {
	var more []api.Row
	for i, last := range l {
		if i > 0 {
			a, b := value(l[i-1].Flare), value(last.Flare)
			flare := plus(a, times(minus(b, a), big.NewRat(1+r.Int63n(8), 9)))
			length := lengthAt(l, flare)
			if !isLong(flare) && !isLong(length) && len(more)+len(l)-i < api.MaxTable {
				more = append(more, row(flare, length))
			}
		}
		more = append(more, last)
	}
	return more
}

// sameCuts asks two tables for the same answers of Cut.
func sameCuts(t *testing.T, x, y *ends.Table, l []api.Row) {
	t.Helper()
	for i, r := range l {
		wanted := l[(i+1)%len(l)].Length
		one, oneE := x.Cut(wanted, r.Flare)
		two, twoE := y.Cut(wanted, r.Flare)
		if one != two || oneE != twoE {
			t.Errorf("%s, Cut: %s, %d and %s, %d", name(l), told(one), oneE, told(two), twoE)
		}
	}
}

// P13.2, P13.3: what is cut and the length at the flare are together what was wanted.
func TestCutAndLengthAreWhatWasWanted(t *testing.T) {
	r := rand.New(rand.NewSource(4))
	asked := 0
	for range 300 {
		l := anyTable(r, 1+r.Intn(9), 4)
		x := made(t, l)
		flares, _ := columns(l)
		for _, flare := range places(r, flares) {
			wanted := anyNumber(r, 4)
			left, leftE := x.Cut(frac(wanted), frac(flare))
			length, lengthE := x.At(frac(flare))
			if leftE != api.OK || lengthE != api.OK {
				continue
			}
			asked++
			if plus(value(left), value(length)).Cmp(wanted) != 0 || value(left).Sign() <= 0 {
				t.Errorf("Cut of %s: %s, and At %s; wanted %s", name(l), told(left), told(length), wanted.RatString())
			}
		}
	}
	if asked < 300 {
		t.Errorf("%d pipes are cut", asked)
	}
}

// R6: calls on one table change nothing that a later call could tell.
func TestCallsChangeNothing(t *testing.T) {
	r := rand.New(rand.NewSource(5))
	for _, l := range tables(12) {
		x := made(t, l)
		flares, lengths := columns(l)
		for i, flare := range places(r, flares) {
			x.At(frac(flare))
			x.Back(frac(lengths[i%len(lengths)]))
			x.Cut(frac(lengths[i%len(lengths)]), frac(flare))
			x.At(api.Frac{})
			x.Cut(api.Frac{}, api.Frac{})
		}
		areRows(t, x, l)
		isLike(t, name(l), x, made(t, l), l)
	}
}
