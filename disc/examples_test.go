package disc_test

import (
	"math"
	"testing"

	"diapason/api"
	"diapason/disc"
	"diapason/gauss"
)

// The chapter's examples, row by row.

func TestExampleCheck(t *testing.T) {
	for _, d := range []api.Disc{at(0, -least), at(0, none), at(complex(above, 0), 0)} {
		if e := disc.Check(d); e != api.ErrArg {
			t.Errorf("Check(%v) = %d", d, e)
		}
	}
}

func TestExampleOf(t *testing.T) {
	if d, e := disc.Of(point("1/2-3i")); !sameDisc(d, at(0.5-3i, 0)) || e != api.OK {
		t.Errorf("Of(1/2 - 3 i) = %v, %d", d, e)
	}
	d, e := disc.Of(point("1/3"))
	if math.Float64bits(real(d.C)) != 0x3fd5555555555555 || !same(imag(d.C), 0) || d.R < 0x1p-56 || d.R > 0x1p-55 || e != api.OK {
		t.Errorf("Of(1/3) = %x, %d", d, e)
	}
	if d, e := disc.Of(number(power2(1024), rat("0"))); !sameDisc(d, api.Disc{}) || e != api.ErrInf {
		t.Errorf("Of(2^1024) = %v, %d", d, e)
	}
}

func TestExampleReckoned(t *testing.T) {
	m, e := complex(greatest, 0), complex(unit, 0)
	for _, c := range []struct {
		name string
		of   func(a, b api.Disc) (api.Disc, api.Errno)
		a, b api.Disc
		want api.Disc
		err  api.Errno
	}{
		{"Add", disc.Add, at(1, 0), at(2, 0), at(3, 0), api.OK},
		{"Add", disc.Add, at(1, 0.5), at(1i, 0.25), at(1+1i, 0.75), api.OK},
		{"Add", disc.Add, at(1, 0), at(e/4, 0), at(1, unit/4), api.OK},
		{"Mul", disc.Mul, at(2, 0), at(3i, 0), at(6i, 0), api.OK},
		{"Mul", disc.Mul, at(1, 1), at(2, 1), at(2, 4), api.OK},
		{"Mul", disc.Mul, at(m, 0), at(2, 0), api.Disc{}, api.ErrInf},
		{"Quo", disc.Quo, at(1, 0), at(2i, 0), at(-0.5i, 0), api.OK},
		{"Quo", disc.Quo, at(1, 0), at(1, 1), api.Disc{}, api.ErrZero},
		{"Quo", disc.Quo, at(1, 0), at(2, 1), at(0.5, 0.5), api.OK},
	} {
		d, err := c.of(c.a, c.b)
		isDisc(t, c.name, c.a, c.b, d, err, c.want, c.err)
	}
}

func TestExampleTells(t *testing.T) {
	isSpan(t, at(3-4i, 1), api.Span{Lo: 4, Hi: 6}, api.OK)
	isSpan(t, at(1, 2), api.Span{Lo: 0, Hi: 3}, api.OK)
	isSpan(t, at(complex(greatest, 0), greatest), api.Span{}, api.ErrInf)
	isHas(t, at(0, 5), gauss.Of(3, 4), true)
	isHas(t, at(0, 5), point("5+1/1000i"), false)
	isHas(t, at(0, 0), gauss.Of(0, 0), true)
	isIn(t, at(1, 1), at(0, 2), true)
	isIn(t, at(1, 1.5), at(0, 2), false)
	isIn(t, at(1, 0), at(1, 0), true)
}

func TestExampleParts(t *testing.T) {
	if z := disc.Times(3-4i, 1+2i); z != 11+2i {
		t.Errorf("Times: %v", z)
	}
	if z := disc.Over(1+1i, 1i); z != 1-1i {
		t.Errorf("Over: %v", z)
	}
}
