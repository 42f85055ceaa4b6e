package turn_test

import (
	"math"
	"testing"

	"diapason/api"
	"diapason/gauss"
	"diapason/poly"
	"diapason/turn"
)

// The chapter's examples, row by row.

func TestExampleUnit(t *testing.T) {
	for _, c := range []struct{ x, want string }{{"0", "1"}, {"1", "i"}, {"1/2", "3/5+4/5i"}, {"-3", "-4/5-3/5i"}} {
		z, e := turn.Unit(frac(rat(c.x)))
		if s, f := gauss.Text(z); s != c.want || e != api.OK || f != api.OK {
			t.Errorf("Unit(%s) = %q, %d; not %q", c.x, s, e, c.want)
		}
	}
}

func TestExampleHalf(t *testing.T) {
	h, ok, e := turn.Half(gauss.Of(0, 1))
	isTangent(t, "Half(i)", h, ok, e, rat("1"))
	h, ok, e = turn.Half(at("3/5", "4/5").number())
	isTangent(t, "Half(3/5 + 4/5 i)", h, ok, e, rat("1/2"))
	h, ok, e = turn.Half(gauss.Of(-1, 0))
	isNoTangent(t, "Half(-1)", h, ok, e, api.OK)
	h, ok, e = turn.Half(gauss.Of(1, 1))
	isNoTangent(t, "Half(1 + i)", h, ok, e, api.ErrArg)
}

func TestExampleSum(t *testing.T) {
	h, ok, e := turn.Sum(frac(rat("1")), frac(rat("1/2")))
	isTangent(t, "Sum(1, 1/2)", h, ok, e, rat("3"))
	h, ok, e = turn.Sum(frac(rat("1")), frac(rat("1")))
	isNoTangent(t, "Sum(1, 1)", h, ok, e, api.OK)
	h, ok, e = turn.Sum(frac(rat("2")), frac(rat("1/2")))
	isNoTangent(t, "Sum(2, 1/2)", h, ok, e, api.OK)
}

func TestExampleLine(t *testing.T) {
	for _, c := range []struct {
		p      api.Poly
		n      int
		re, im string
	}{{poly.Of(0, 1), 1, "1", "0 1"}, {poly.Of(1), 2, "1 0 -1", "0 -2"}, {poly.Of(1, -1), 1, "", "0 -2"}} {
		re, im, e := turn.Line(c.p, c.n)
		if e != api.OK {
			t.Errorf("Line of %s, %d: the error %d", given(c.p), c.n, e)
		}
		isPart(t, "the real part", re, of(c.re))
		isPart(t, "the imaginary part", im, of(c.im))
	}
}

func TestExampleParts(t *testing.T) {
	h := math.Float64frombits(0x3fe6a09e667f3bcd)
	for _, c := range []struct {
		k, n int
		want complex128
	}{{0, 0, 1}, {1, 2, 1i}, {-1, 2, -1i}, {1, 3, complex(h, h)}, {3, 3, complex(-h, h)}} {
		isAtParts(t, c.k, c.n, c.want)
	}
	if d, e := turn.Disc(1, 2); d.R != 0 || e != api.OK {
		t.Errorf("Disc(1, 2) = %v, %d", d, e)
	}
	if d, e := turn.Disc(1, 3); d.R != 0x1p-44 || e != api.OK {
		t.Errorf("Disc(1, 3) = %v, %d", d, e)
	}
	if z, e := turn.Parts(1, -1); z != 0 || e != api.ErrArg {
		t.Errorf("Parts(1, -1) = %v, %d", z, e)
	}
	if z, e := turn.Parts(1, 17); z != 0 || e != api.ErrLong {
		t.Errorf("Parts(1, 17) = %v, %d", z, e)
	}
}
