package disc_test

import (
	"math/rand"
	"testing"

	"diapason/disc"
)

// isByParts holds Times and Over against operations that are rounded one by one.
func isByParts(t *testing.T, a, b complex128) {
	t.Helper()
	if z, want := disc.Times(a, b), timesOf(a, b); !sameComplex(z, want) {
		t.Errorf("Times(%x, %x) = %x, not %x", a, b, z, want)
	}
	if z, want := disc.Over(a, b), overOf(a, b); !sameComplex(z, want) {
		t.Errorf("Over(%x, %x) = %x, not %x", a, b, z, want)
	}
}

// P4.5: floats of middling sizes, at the edges, infinities, what is no number, and noughts with a sign.
func TestByParts(t *testing.T) {
	r := rand.New(rand.NewSource(11))
	odd := []float64{0, minusNought, 1, -1, above, below, none, greatest, least, 1 + unit}
	anyOdd := func(r *rand.Rand) float64 { return odd[r.Intn(len(odd))] }
	pair := func(float func(*rand.Rand) float64) complex128 { return complex(float(r), float(r)) }
	for range 4000 {
		isByParts(t, pair(anyFloat), pair(anyFloat))
		isByParts(t, pair(anyEdge), pair(anyEdge))
		isByParts(t, pair(anyOdd), pair(anyOdd))
		isByParts(t, pair(anyOdd), pair(anyFloat))
	}
}

// P4.5: by floats: each product is rounded by itself, and nothing is scaled.
func TestByPartsByFloats(t *testing.T) {
	e := complex(unit, 0)
	for _, c := range []struct{ z, want complex128 }{
		// (1 + e)^2 - 1 (1 + 2 e) exactly is e e.
		{disc.Times(complex(1+unit, 1), complex(1+unit, 1+2*unit)), complex(0, 2+4*unit)},
		{disc.Times(complex(greatest, 0), complex(2, 0)), complex(above, 0)},
		{disc.Times(complex(greatest, greatest), complex(2, 2)), complex(none, above)},
		{disc.Times(complex(above, 0), complex(1, 0)), complex(above, none)},
		{disc.Times(1+e, 1-e), 1 - e*e},
		{disc.Over(complex(1, 0), complex(0, 0)), complex(none, none)},
		{disc.Over(complex(1, 1), complex(0x1p-600, 0)), complex(above, above)},
		{disc.Over(complex(1, 1), complex(0x1p600, 0x1p600)), complex(0, 0)},
		{disc.Over(complex(0x1p600, 0), complex(0x1p600, 0)), complex(none, 0)},
		{disc.Over(complex(1, 0), complex(above, 0)), complex(none, none)},
		{disc.Over(complex(1, 2), complex(3, 4)), complex(11.0/25, 2.0/25)},
	} {
		if !sameComplex(c.z, c.want) {
			t.Errorf("%x, not %x", c.z, c.want)
		}
	}
}
