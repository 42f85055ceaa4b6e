package bore_test

import (
	"math/big"
	"math/rand"
	"testing"

	"diapason/api"
	"diapason/bore"
)

// cone is one of two texts and two numbers.
func cone(from, to string, long, steps int) api.Cone {
	return api.Cone{From: frac(rat(from)), To: frac(rat(to)), Long: long, Steps: steps}
}

// isNoCone asks for an error, beside which there is nothing.
func isNoCone(t *testing.T, what string, l []api.Piece, e, want api.Errno) {
	t.Helper()
	if e != want || len(l) > 0 {
		t.Errorf("%s: %s, %d; not the error %d", what, name(l), e, want)
	}
}

// laid are the cone's pieces by the chapter's own words, and whether all of them may be.
func laid(from, to *big.Rat, long, steps int) ([]api.Piece, bool) {
	var l []api.Piece
	for i := range steps {
		part := big.NewRat(int64(2*i+1), int64(2*steps))
		root := plus(from, times(minus(to, from), part))
		area := times(root, root)
		if !isArea(area) {
			return nil, false
		}
		l = append(l, api.Piece{Area: frac(area), Long: (i+1)*long/steps - i*long/steps})
	}
	return l, true
}

// isStep holds Step against the chapter's words.
func isStep(t *testing.T, from, to *big.Rat, long, steps int) (short bool) {
	t.Helper()
	want, short := laid(from, to, long, steps)
	l, e := bore.Step(api.Cone{From: frac(from), To: frac(to), Long: long, Steps: steps})
	if short {
		isPieces(t, "Step", l, e, want)
	} else {
		isNoCone(t, "Step from "+cut(from.RatString())+" to "+cut(to.RatString()), l, e, api.ErrLong)
	}
	return short
}

// P9.4: cones of all lengths and steps.
func TestStepOfAllLengths(t *testing.T) {
	for steps := 1; steps <= api.MaxSteps; steps++ {
		for long := steps; long <= api.MaxDegree; long++ {
			if !isStep(t, whole(2), whole(3), long, steps) {
				t.Errorf("%d long, %d steps: an area is too long", long, steps)
			}
			isStep(t, rat("7/3"), rat("1/2"), long, steps)
		}
	}
}

// P9.4: lengths are rounded down, so that the longer pieces stand behind.
func TestStepLengths(t *testing.T) {
	l, e := bore.Step(cone("1", "1", 7, 3))
	isPieces(t, "7 in 3", l, e, pieces("1x2 1x2 1x3"))
	l, e = bore.Step(cone("1/2", "5/2", 32, 5))
	isPieces(t, "32 in 5", l, e, pieces("49/100x6 121/100x6 9/4x7 361/100x6 529/100x7"))
	l, e = bore.Step(cone("3", "1", 2, 2))
	isPieces(t, "narrower and narrower", l, e, pieces("25/4x1 9/4x1"))
}

// P9.4: an area's numbers may be 65535, so that roots with numbers up to 255 may be, and no others.
func TestStepAtTheBound(t *testing.T) {
	g := greatest()
	small, tiny := over(whole(1), g), over(whole(1), power2(4095, 0))
	for i, c := range []struct {
		from, to    *big.Rat
		long, steps int
		ok          bool
	}{
		{whole(255), whole(255), 1, 1, true},
		{whole(256), whole(256), 1, 1, false},
		{rat("1/255"), rat("1/255"), 32, 32, true},
		{rat("1/256"), rat("1/256"), 32, 32, false},
		{rat("254/255"), rat("254/255"), 3, 2, true},
		{rat("255/256"), rat("255/256"), 3, 2, false},
		{rat("256/255"), rat("256/255"), 3, 2, false},
		{whole(1), whole(509), 1, 1, true},
		{whole(1), whole(511), 1, 1, false},
		// Only the last one, only the first one, only the middle one is too long.
		{whole(3), whole(259), 32, 32, true},
		{whole(4), whole(260), 32, 32, false},
		{whole(260), whole(4), 32, 32, false},
		{rat("801/159200"), rat("159/31840"), 3, 3, false},
		// Ends that are farther than any area.
		{rat("1/300"), rat("299/300"), 1, 1, true},
		{rat("1/300"), rat("299/300"), 2, 2, false},
		{plus(whole(1), tiny), minus(whole(1), tiny), 7, 1, true},
		{plus(whole(1), tiny), minus(whole(1), tiny), 7, 2, false},
		{g, g, 1, 1, false},
		{g, small, 4, 4, false},
		{small, small, 1, 1, false},
		{over(minus(g, whole(1)), g), small, 1, 1, true},
		{tiny, minus(whole(1), tiny), 2, 1, true},
	} {
		if isLong(c.from) || isLong(c.to) {
			t.Fatalf("case %d has no cone", i)
		}
		if isStep(t, c.from, c.to, c.long, c.steps) != c.ok {
			t.Errorf("case %d is not what it says", i)
		}
	}
}

// P9.4: cones of any ends against the library's numbers.
func TestStepOfAny(t *testing.T) {
	r := rand.New(rand.NewSource(6))
	var count [2]int
	for i := range 2000 {
		most := []int64{3, 12, 300, 1 << 40}[i%4]
		from, to := big.NewRat(1+r.Int63n(most), 1+r.Int63n(most)), big.NewRat(1+r.Int63n(most), 1+r.Int63n(most))
		steps := 1 + r.Intn([]int{api.MaxSteps, 3}[i/4%2])
		if isStep(t, from, to, steps+r.Intn(api.MaxDegree-steps+1), steps) {
			count[0]++
		} else {
			count[1]++
		}
	}
	if count[0] < 200 || count[1] < 200 {
		t.Errorf("%v are short and long", count)
	}
}

// P9.4: cones that may not be, ahead of areas that are too long.
func TestConesThatMayNotBe(t *testing.T) {
	isNone := func(what string, c api.Cone) {
		t.Helper()
		l, e := bore.Step(c)
		isNoCone(t, what, l, e, api.ErrArg)
	}
	ends := []api.Frac{frac(whole(1)), frac(whole(300)), frac(rat("1/300"))}
	for _, x := range notAbove() {
		for _, y := range ends {
			isNone("no From", api.Cone{From: x, To: y, Long: 2, Steps: 2})
			isNone("no To", api.Cone{From: y, To: x, Long: 2, Steps: 1})
		}
		isNone("neither", api.Cone{From: x, To: x, Long: 1, Steps: 1})
	}
	huge := []int{33, 64, 1 << 30, 1<<31 - 1}
	for _, x := range ends {
		for _, n := range append(huge, 0, -1, -32, -1<<31) {
			isNone("steps", api.Cone{From: x, To: x, Long: 32, Steps: n})
			isNone("both", api.Cone{From: x, To: x, Long: n, Steps: n})
			isNone("long", api.Cone{From: x, To: x, Long: n, Steps: 1})
		}
		for steps := 2; steps <= api.MaxSteps; steps++ {
			isNone("shorter than its steps", api.Cone{From: x, To: x, Long: steps - 1, Steps: steps})
		}
	}
	isNone("nothing at all", api.Cone{})
}

// R5: two answers share nothing.
func TestConesShareNothing(t *testing.T) {
	for range 2 {
		l, e := bore.Step(cone("1", "3", 3, 2))
		isPieces(t, "Step", l, e, pieces("9/4x1 25/4x2"))
		clear(l[:cap(l)])
	}
}
