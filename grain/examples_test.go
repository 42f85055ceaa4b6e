package grain_test

import (
	"math"
	"testing"

	"diapason/api"
	"diapason/grain"
)

// The chapter's examples, row by row.

func TestExampleFloat(t *testing.T) {
	third := math.Float64frombits(0x3fd5555555555555)
	a, b, c, e := grain.Float(frac(rat("1/3")))
	if !same(a, third) || !same(b, third) || math.Float64bits(c) != 0x3fd5555555555556 || e != api.OK {
		t.Errorf("Float(1/3) = %x, %x, %x, %d", a, b, c, e)
	}
	a, b, c, e = grain.Float(frac(power2(1024)))
	isFloatError(t, "Float(2^1024)", a, b, c, e, api.ErrInf)
	a, b, c, e = grain.Float(frac(minus(power2(1024), rat("1"))))
	isFloatError(t, "Float(2^1024 - 1)", a, b, c, e, api.ErrInf)
	if a, b, c, e = grain.Float(frac(power2(-1075))); !same(a, 0) || !same(b, 0) || c != least || e != api.OK {
		t.Errorf("Float(1 / 2^1075) = %x, %x, %x, %d", a, b, c, e)
	}
	if a, b, c, e = grain.Float(frac(rat("0"))); !same(a, 0) || !same(b, 0) || !same(c, 0) || e != api.OK {
		t.Errorf("Float(0) = %x, %x, %x, %d", a, b, c, e)
	}
}

func TestExampleFrac(t *testing.T) {
	if x, e := grain.Frac(-0.75); x != frac(rat("-3/4")) || e != api.OK {
		t.Errorf("Frac(-0.75) = %v, %d", x, e)
	}
	isFracError(t, above)
}

func TestExampleNext(t *testing.T) {
	for _, c := range []struct {
		v    float64
		up   bool
		want float64
	}{{0, true, least}, {-least, true, minusNought}, {greatest, true, above}, {1, false, 1 - unit/2}} {
		if w := grain.Next(c.v, c.up); !same(w, c.want) {
			t.Errorf("Next(%x, %v) = %x", c.v, c.up, w)
		}
	}
}

func TestExampleSides(t *testing.T) {
	third := math.Float64frombits(0x3fd5555555555555)
	for _, c := range []struct {
		name          string
		of            func(a, b float64) (float64, float64)
		a, b          float64
		first, second float64
	}{
		{"Add", grain.Add, 1, unit / 4, 1, 1 + unit},
		{"Add", grain.Add, greatest, greatest, greatest, above},
		{"Add", grain.Add, 1, -1, 0, 0},
		{"Add", grain.Add, 1, below, below, below},
		{"Mul", grain.Mul, least, 0.5, 0, least},
		{"Mul", grain.Mul, -least, 0.5, -least, 0},
		{"Quo", grain.Quo, 1, 3, third, math.Float64frombits(0x3fd5555555555556)},
		{"Quo", grain.Quo, 1, 0, above, above},
		{"Two", grain.Two, 1, unit / 4, 1, unit / 4},
		{"Two", grain.Two, greatest, greatest, above, 0},
	} {
		down, up := c.of(c.a, c.b)
		areSides(t, c.name, c.a, c.b, down, up, c.first, c.second)
	}
}

func TestExampleSample(t *testing.T) {
	for _, c := range []struct {
		v  float64
		s  int16
		ok bool
	}{{0.5, 16384, true}, {1, 32767, false}, {-1, -32768, true}, {1.5 / 32768, 2, true}, {2.5 / 32768, 2, true}} {
		if s, ok := grain.Sample(c.v); s != c.s || ok != c.ok {
			t.Errorf("Sample(%v) = %d, %v", c.v, s, ok)
		}
	}
}

func TestExampleTexts(t *testing.T) {
	if s := grain.Text(1); s != "3ff0000000000000" {
		t.Errorf("Text(1) = %q", s)
	}
	if v, e := grain.Parse("3ff0000000000000"); !same(v, 1) || e != api.OK {
		t.Errorf("Parse = %x, %d", v, e)
	}
	isNoText(t, "7ff8000000000000")
	isNoText(t, "3FF0000000000000")
}
