package wave_test

import (
	"math/big"
	"math/rand"
	"testing"

	"diapason/api"
)

// P10.4: energies against the model's, of numbers that share much, and of such as share nothing.
func TestEnergy(t *testing.T) {
	r := rand.New(rand.NewSource(5))
	var count [2]int
	for _, b := range bores(5, 60) {
		w, m := begin(t, b)
		bytes := []int{1, 1, 2, 9, 300}[r.Intn(5)]
		for range 1 + r.Intn(12) {
			puts(t, name(b), w, m, anyPush(r, bytes))
			ticks(t, name(b), w, m)
		}
		isEnergy(t, name(b), w, m)
		if isLong(m.energy()) {
			count[0]++
		} else {
			count[1]++
		}
	}
	if count[0] < 10 || count[1] < 30 {
		t.Errorf("%v are long, and short", count)
	}
}

// P10.4: an energy may have MaxBytes bytes above and below, and not one more, whatever its summands have.
func TestEnergyAtTheBound(t *testing.T) {
	for i, c := range []struct {
		s    string
		x, y *big.Rat
		ok   bool
	}{
		// The energy is area (x x + y y).
		{"1x2", power2(2047, 0), whole(0), true},
		{"1x2", power2(2048, 0), whole(0), false},
		{"1x2", power2(2048, -1), whole(0), true},
		{"1x2", power2(2047, 0), power2(2047, 0), true},
		{"1x2", power2(2047, 0), power2(2048, -1), false},
		{"2x2", power2(2047, 0), whole(0), true},
		{"2x2", power2(2047, 0), power2(2047, 0), false},
		{"4x2", power2(2047, 0), whole(0), false},
		{"1/4x2", power2(2048, 0), whole(0), true},
		{"1x2", over(whole(1), power2(2047, 0)), whole(0), true},
		{"1x2", over(whole(1), power2(2048, 0)), whole(0), false},
		{"4x2", over(whole(1), power2(2048, 0)), whole(0), true},
		{"1x2", minus(whole(1), over(whole(1), power2(2047, 0))), whole(0), true},
		{"1x2", minus(whole(1), over(whole(1), greatest())), whole(0), false},
	} {
		w, m := begin(t, pipe(api.Stopped, api.Stopped, c.s))
		puts(t, "x", w, m, c.x)
		ticks(t, "x", w, m)
		puts(t, "y", w, m, c.y)
		if isLong(m.energy()) == c.ok {
			t.Errorf("case %d is not what it says", i)
		}
		isAs(t, "both", w, m)
		isEnergy(t, "both", w, m)
	}
}

// P10.4: summands far longer than MaxBytes bytes may have a short sum: of the sides of right angles with one long side.
func TestEnergyOfLongSummands(t *testing.T) {
	// (u u - 1) over (u u + 1) and 2 u over (u u + 1).
	u := power2(2000, 3)
	below := plus(times(u, u), whole(1))
	x, y := over(minus(times(u, u), whole(1)), below), over(times(u, whole(2)), below)
	w, m := begin(t, pipe(api.Open, api.Stopped, "5/7x3"))
	puts(t, "x", w, m, x)
	energy, e := w.Energy()
	if energy != (api.Frac{}) || e != api.ErrLong {
		t.Errorf("of one alone: %s, %d", told(energy), e)
	}
	for range 5 {
		ticks(t, "x", w, m)
	}
	puts(t, "y", w, m, y)
	isEnergy(t, "both", w, m)
	energy, e = w.Energy()
	isFrac(t, "both", energy, e, rat("5/7"))
}

// P10.4, R5: what Shape tells is new, each time, and both its lists are.
func TestShapeIsNew(t *testing.T) {
	w, m := begin(t, pipe(api.Stopped, api.Open, "1x1 3x2 1/2x1"))
	for i := range 5 {
		puts(t, "a push", w, m, big.NewRat(int64(i+1), 3))
		ticks(t, "a push", w, m)
		forth, back, e := w.Shape()
		clear(forth[:cap(forth)])
		isList(t, "back, when forth is cleared", back, e, m.back)
		clear(back[:cap(back)])
		isAs(t, "both cleared", w, m)
	}
}
