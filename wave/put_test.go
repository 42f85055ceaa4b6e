package wave_test

import (
	"math/big"
	"math/rand"
	"testing"

	"diapason/api"
)

// P10.2: what is put is added to forth in cell 1, and to nothing else.
func TestPut(t *testing.T) {
	r := rand.New(rand.NewSource(3))
	for _, b := range bores(3, 60) {
		w, m := begin(t, b)
		for range 6 {
			x := anyPush(r, 1+r.Intn(4))
			puts(t, name(b), w, m, x)
			isAs(t, name(b), w, m)
			if r.Intn(2) == 0 {
				puts(t, name(b), w, m, negated(m.forth[0]))
			}
			ticks(t, name(b), w, m)
		}
	}
}

// P10.2: a fraction that may not be changes nothing.
func TestPutOfNoFractions(t *testing.T) {
	w, m := begin(t, pipe(api.Stopped, api.Open, "1x1 3x1"))
	puts(t, "1/2", w, m, rat("1/2"))
	ticks(t, "1/2", w, m)
	puts(t, "1/2 again", w, m, rat("1/2"))
	for i, x := range noFractions() {
		if e := w.Put(x); e != api.ErrArg {
			t.Errorf("case %d: Put(%s): %d", i, told(x), e)
		}
		isAs(t, "behind a wrong one", w, m)
	}
	// It is told ahead of a sum that would be too long.
	w, m = begin(t, pipe(api.Stopped, api.Open, "1x1 3x1"))
	puts(t, "the greatest", w, m, greatest())
	for i, x := range noFractions() {
		if e := w.Put(x); e != api.ErrArg {
			t.Errorf("case %d, behind the greatest: Put(%s): %d", i, told(x), e)
		}
	}
	isAs(t, "behind the greatest", w, m)
}

// P10.2: forth in cell 1 may have MaxBytes bytes above and below, and not one more; else it is left.
func TestPutAtTheBound(t *testing.T) {
	g, one := greatest(), whole(1)
	small, half := over(one, g), over(one, power2(4095, 0))
	for i, c := range []struct {
		first, then *big.Rat
		ok          bool
	}{
		{whole(0), g, true},
		{whole(0), small, true},
		{g, whole(0), true},
		{g, one, false},
		{negated(g), one, true},
		{negated(g), whole(-1), false},
		{g, g, false},
		{g, negated(g), true},
		{g, rat("1/2"), false},
		{rat("-1/2"), g, false},
		{small, small, true},
		{small, one, false},
		{small, whole(-1), true},
		{half, half, true},
		{half, one, true},
		{half, rat("1/2"), true},
		{half, rat("1/3"), false},
		{half, small, false},
	} {
		w, m := begin(t, pipe(api.Stopped, api.Stopped, "2x1 1x3"))
		puts(t, "the first one", w, m, c.first)
		isAs(t, "the first one", w, m)
		puts(t, "the second one", w, m, c.then)
		isAs(t, "the second one", w, m)
		want := c.first
		if c.ok {
			want = plus(c.first, c.then)
		}
		if m.forth[0].Cmp(want) != 0 {
			t.Errorf("case %d is not what it says", i)
		}
	}
}
