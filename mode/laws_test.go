package mode_test

import (
	"math/big"
	"math/rand"
	"slices"
	"strconv"
	"testing"

	"diapason/api"
	"diapason/bore"
	"diapason/gauss"
	"diapason/mode"
	"diapason/poly"
	"diapason/turn"
	"diapason/wave"
)

// countOf is how many half tangents a gap has.
func countOf(t *testing.T, b api.Bore, g api.Gap) int {
	t.Helper()
	n, e := mode.Count(b, g)
	if e != api.OK {
		t.Errorf("Count of %s, %s to %s: %d", name(b), told(g.Lo), told(g.Hi), e)
	}
	return n
}

// P12.6 (W1): told modes and mirror images are as many as there are cells; each gap has just one, but for such as are at an end of it; each mode is ahead of the next one, and neither of itself nor of the one before.
func TestAllAreTold(t *testing.T) {
	t.Parallel()
	r := rand.New(rand.NewSource(1))
	half := api.Mode{Half: true}
	for _, b := range bores(7, 40)[64:] {
		bits := r.Intn(20)
		l, e := mode.All(b, bits)
		if e != api.OK {
			t.Fatalf("%s: %d", name(b), e)
		}
		cells, _ := bore.Long(b)
		sum := 0
		for i, m := range l {
			for j, other := range l[max(0, i-1):min(len(l), i+2)] {
				is, e := mode.Ahead(m, other)
				isNumber(t, name(b)+": "+modeName(m)+", "+modeName(other), is, e, i < j+max(0, i-1), api.OK)
			}
			sum++
			if m == half {
				continue
			}
			if value(m.Gap.Hi).Sign() > 0 {
				sum++
			}
			n := countOf(t, b, m.Gap)
			if m.Gap.Lo != m.Gap.Hi {
				n -= countOf(t, b, api.Gap{Lo: m.Gap.Lo, Hi: m.Gap.Lo}) + countOf(t, b, api.Gap{Lo: m.Gap.Hi, Hi: m.Gap.Hi})
			}
			if n != 1 {
				t.Errorf("%s: %s has %d", name(b), modeName(m), n)
			}
		}
		if sum != cells {
			t.Errorf("%s: %s are %d", name(b), modeNames(l), sum)
		}
	}
}

// P12.6: the polynomial is nought at the modes that are told exactly, and at no other places of the circle.
func TestModesAreOfThePolynomial(t *testing.T) {
	points := 0
	for _, b := range bores(8, 60) {
		p, _ := mode.Poly(b)
		l, _ := mode.All(b, 4)
		for _, m := range l {
			if m.Gap.Lo != m.Gap.Hi {
				continue
			}
			x := gauss.Of(-1, 0)
			if !m.Half {
				x, _ = turn.Unit(m.Gap.Lo)
				points++
			}
			if y, e := poly.AtGauss(p, x); y != gauss.Of(0, 0) || e != api.OK {
				t.Errorf("%s: it is not nought at %s", name(b), modeName(m))
			}
		}
		if y, _ := poly.AtGauss(p, gauss.Of(-1, 0)); (y == gauss.Of(0, 0)) != slices.Contains(l, api.Mode{Half: true}) {
			t.Errorf("%s: half a turn: %s", name(b), modeNames(l))
		}
	}
	if points < 40 {
		t.Errorf("%d points", points)
	}
}

// A bore's polynomial is that of its waves: what comes back to the mouth, each second tick times the next coefficient, comes to nought.
func TestWavesAreModes(t *testing.T) {
	stepped := 0
	for _, b := range bores(9, 60) {
		if cells, _ := bore.Long(b); cells > 8 {
			continue
		}
		if len(b.Pieces) > 2 {
			stepped++
		}
		p, _ := mode.Poly(b)
		w, _ := wave.New(b)
		w.Put(frac(whole(1)))
		var came []*big.Rat
		for range 4 * len(p) {
			x, e := w.Tick()
			if e != api.OK {
				t.Fatalf("%s: %d", name(b), e)
			}
			came = append(came, value(x))
		}
		for from := range len(came) - 2*len(p) {
			sum := whole(0)
			for k, c := range p {
				sum = plus(sum, times(value(c), came[from+2*k]))
			}
			if sum.Sign() != 0 {
				t.Errorf("%s: %s at %d", name(b), told(frac(sum)), from)
			}
		}
	}
	if stepped < 20 {
		t.Errorf("%d bores of several pieces", stepped)
	}
}

// P12.7: of a bore of one area the polynomial is 1 less s x^N.
func TestPolyOfOneArea(t *testing.T) {
	for long := 1; long <= api.MaxDegree; long++ {
		for _, area := range []string{"1", "65535", "7/9"} {
			for _, b := range fourEnds(area + "x" + strconv.Itoa(long)) {
				want := make(api.Poly, long+1)
				for i := range want {
					want[i] = frac(whole(0))
				}
				want[0], want[long] = frac(whole(1)), frac(whole(-signOf(b.Near)*signOf(b.Far)))
				p, e := mode.Poly(b)
				isPoly(t, name(b), p, e, want)
			}
		}
	}
}

// P12.7: a factor of all areas changes nothing.
func TestFactorOfAreas(t *testing.T) {
	t.Parallel()
	r := rand.New(rand.NewSource(2))
	done := 0
	for _, b := range bores(10, 60) {
		factor := big.NewRat(1+r.Int63n(9), 1+r.Int63n(9))
		other := api.Bore{Near: b.Near, Far: b.Far}
		for _, p := range b.Pieces {
			other.Pieces = append(other.Pieces, api.Piece{Area: frac(times(value(p.Area), factor)), Long: p.Long})
		}
		if bore.Check(other) != api.OK {
			continue
		}
		done++
		want, _ := mode.Poly(b)
		p, e := mode.Poly(other)
		isPoly(t, name(b), p, e, want)
		want, _ = mode.Line(b)
		p, e = mode.Line(other)
		isPoly(t, name(b), p, e, want)
		modes, _ := mode.All(b, 6)
		l, e := mode.All(other, 6)
		areModes(t, name(b), l, e, modes)
	}
	if done < 50 {
		t.Errorf("%d bores", done)
	}
}

// P12.7: turned about, with its ends changed too, a bore has the same modes.
func TestTurnedAbout(t *testing.T) {
	t.Parallel()
	for _, b := range bores(11, 40)[44:] {
		other := api.Bore{Pieces: slices.Clone(b.Pieces), Near: b.Far, Far: b.Near}
		slices.Reverse(other.Pieces)
		want, _ := mode.All(b, 6)
		l, e := mode.All(other, 6)
		areModes(t, name(b), l, e, want)
		g := gap(rat("-1/3"), whole(1))
		isNumber(t, name(b), countOf(t, other, g), api.OK, countOf(t, b, g), api.OK)
	}
}

// P12.7: what is told at more bits lies within what is told at fewer ones.
func TestMoreBitsLieWithin(t *testing.T) {
	t.Parallel()
	for _, b := range bores(12, 30)[60:] {
		last, e := mode.All(b, 0)
		for _, bits := range []int{1, 2, 5, 40} {
			var l []api.Mode
			if l, e = mode.All(b, bits); e != api.OK {
				break
			}
			if len(l) != len(last) {
				t.Fatalf("%s: %s at %d bits", name(b), modeNames(l), bits)
			}
			for i, m := range l {
				if m.Half != last[i].Half || !m.Half && (value(m.Gap.Lo).Cmp(value(last[i].Gap.Lo)) < 0 || value(m.Gap.Hi).Cmp(value(last[i].Gap.Hi)) > 0) {
					t.Errorf("%s: %s, but %s at %d bits", name(b), modeName(last[i]), modeName(m), bits)
				}
			}
			last = l
		}
		if e != api.OK {
			t.Errorf("%s: %d", name(b), e)
		}
	}
}
