package grain_test

import (
	"math"
	"math/big"
	"math/rand"
	"slices"
	"testing"

	"diapason/grain"
)

// nearestWhole is the whole number that is nearest to r, of two the even one.
func nearestWhole(r *big.Rat) *big.Int {
	beyond := plus(r, rat("1/2"))
	n := new(big.Int).Div(beyond.Num(), beyond.Denom())
	if beyond.IsInt() && n.Bit(0) == 1 {
		n.Sub(n, big.NewInt(1))
	}
	return n
}

// isSample asks for the sample of a finite float.
func isSample(t *testing.T, v float64) {
	t.Helper()
	n := nearestWhole(times(worth(v), rat("32768")))
	want, wantOk := int16(0), n.IsInt64() && n.Int64() >= -32768 && n.Int64() <= 32767
	switch {
	case wantOk:
		want = int16(n.Int64())
	case n.Sign() > 0:
		want = 32767
	default:
		want = -32768
	}
	if s, ok := grain.Sample(v); s != want || ok != wantOk {
		t.Errorf("Sample(%x) = %d, %v; not %d, %v", v, s, ok, want, wantOk)
	}
}

// P3.5, P3.7: each sample's level, what lies halfway to the next one, and the floats beside both.
func TestSamples(t *testing.T) {
	for s := -32770; s <= 32769; s++ {
		level, half := float64(s)/32768, (float64(s)+0.5)/32768
		for _, v := range []float64{level, half} {
			isSample(t, v)
			isSample(t, math.Nextafter(v, above))
			isSample(t, math.Nextafter(v, below))
		}
		if s < -32768 || s > 32767 {
			continue
		}
		if v := grain.Level(int16(s)); !same(v, level) {
			t.Errorf("Level(%d) = %x", s, v)
		}
		if back, ok := grain.Sample(grain.Level(int16(s))); int(back) != s || !ok {
			t.Errorf("Sample of Level(%d) = %d, %v", s, back, ok)
		}
	}
}

// P3.5: floats of all sizes; what is not finite.
func TestSamplesOfAnyFloats(t *testing.T) {
	for _, v := range edges() {
		isSample(t, v)
	}
	r := rand.New(rand.NewSource(6))
	for range 20000 {
		isSample(t, anyFloat(r))
		isSample(t, 2.2*r.Float64()-1.1)
	}
	for _, c := range []struct {
		v float64
		s int16
	}{{above, 32767}, {below, -32768}, {none, 0}, {-none, 0}, {math.Float64frombits(0x7ff0000000000001), 0}} {
		if s, ok := grain.Sample(c.v); s != c.s || ok {
			t.Errorf("Sample(%v) = %d, %v", c.v, s, ok)
		}
	}
}

// P3.5: the ends, by their numbers.
func TestSamplesAtTheEnds(t *testing.T) {
	for _, c := range []struct {
		v  float64
		s  int16
		ok bool
	}{
		{32767.0 / 32768, 32767, true}, {32767.25 / 32768, 32767, true}, {32767.5 / 32768, 32767, false}, {1, 32767, false}, {greatest, 32767, false},
		{-1, -32768, true}, {-32768.5 / 32768, -32768, true}, {-32768.5000001 / 32768, -32768, false}, {-greatest, -32768, false},
		{0.5 / 32768, 0, true}, {-0.5 / 32768, 0, true}, {-1.5 / 32768, -2, true}, {-2.5 / 32768, -2, true}, {minusNought, 0, true}, {least, 0, true}, {-least, 0, true},
	} {
		if s, ok := grain.Sample(c.v); s != c.s || ok != c.ok {
			t.Errorf("Sample(%x) = %d, %v", c.v, s, ok)
		}
	}
}

// P3.7: a sample rises with its level.
func TestSamplesRise(t *testing.T) {
	r := rand.New(rand.NewSource(7))
	list := append(edges(), above, below)
	for range 20000 {
		list = append(list, 2.2*r.Float64()-1.1, 1e-4*r.NormFloat64())
	}
	slices.Sort(list)
	last := int16(math.MinInt16)
	for _, v := range list {
		s, _ := grain.Sample(v)
		if s < last {
			t.Fatalf("Sample(%x) = %d, after %d", v, s, last)
		}
		last = s
	}
}
