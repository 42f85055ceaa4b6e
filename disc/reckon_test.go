package disc_test

import (
	"math"
	"math/rand"
	"testing"

	"diapason/api"
	"diapason/disc"
)

// operation is one of Add, Sub, Mul, Quo: the package's, and the table's.
type operation struct {
	name  string
	ours  func(a, b api.Disc) (api.Disc, api.Errno)
	table func(a, b api.Disc) (api.Disc, api.Errno)
}

func operations() []operation {
	return []operation{
		{"Add", disc.Add, addOf}, {"Sub", disc.Sub, subOf}, {"Mul", disc.Mul, mulOf}, {"Quo", disc.Quo, quoOf},
	}
}

// isReckoned holds all that is done with two discs against the table.
func isReckoned(t *testing.T, a, b api.Disc) {
	t.Helper()
	for _, o := range operations() {
		d, e := o.ours(a, b)
		want, wantE := o.table(a, b)
		isDisc(t, o.name, a, b, d, e, want, wantE)
	}
}

// P4.2: discs of middling sizes.
func TestReckoned(t *testing.T) {
	r := rand.New(rand.NewSource(1))
	for range 4000 {
		isReckoned(t, anyDisc(r, anyFloat), anyDisc(r, anyFloat))
	}
}

// P4.2: discs at the ends of the floats.
func TestReckonedEdges(t *testing.T) {
	r := rand.New(rand.NewSource(2))
	mixed := func(r *rand.Rand) float64 {
		if r.Intn(2) == 0 {
			return anyFloat(r)
		}
		return anyEdge(r)
	}
	for range 2500 {
		isReckoned(t, anyDisc(r, mixed), anyDisc(r, anyEdge))
		isReckoned(t, anyDisc(r, mixed), anyDisc(r, mixed))
	}
}

// P4.2: products and quotients whose results lie at the ends of the floats, and quotients by discs that all but reach nought.
func TestReckonedFar(t *testing.T) {
	r := rand.New(rand.NewSource(3))
	for i := range 1600 {
		a, b := anyDisc(r, anyFloat), anyDisc(r, anyFloat)
		power := []int{-1074, -1060, -1022, -530, 500, 1000, 1020, 1023}[i%8]
		a = at(complex(math.Ldexp(real(a.C), power), math.Ldexp(imag(a.C), power)), math.Ldexp(a.R, power))
		if disc.Check(a) != api.OK {
			continue
		}
		isReckoned(t, a, b)
		isReckoned(t, b, a)
		b.R = math.Nextafter(near(b.C), []float64{below, above, 0}[i%3])
		if disc.Check(b) == api.OK {
			isReckoned(t, a, b)
		}
	}
}

// P4.2: the edges that the chapter names, by their floats.
func TestReckonedByFloats(t *testing.T) {
	m, e, l := complex(greatest, 0), unit, least
	big := complex(greatest, greatest)
	for _, c := range []struct {
		name string
		of   func(a, b api.Disc) (api.Disc, api.Errno)
		a, b api.Disc
		want api.Disc
		err  api.Errno
	}{
		{"Add", disc.Add, at(m, 0), at(m, 0), api.Disc{}, api.ErrInf},
		{"Add", disc.Add, at(0, greatest), at(0, greatest), api.Disc{}, api.ErrInf},
		{"Add", disc.Add, at(0, greatest), at(0, least), api.Disc{}, api.ErrInf},
		{"Add", disc.Add, at(0, greatest), at(0, 0), at(0, greatest), api.OK},
		{"Add", disc.Add, at(complex(greatest, 1), 0), at(complex(0x1p969, 0), 0), at(complex(greatest, 1), 0x1p969), api.OK},
		{"Add", disc.Add, at(complex(1, 1), 0), at(complex(e/4, e/4), 0), at(complex(1, 1), 0x1.6a09e667f3bcdp-54), api.OK},
		{"Add", disc.Add, at(complex(3*e/8, 4*e/8), 0), at(complex(1, 1), 0), at(complex(1, 1), 5*e/8), api.OK},
		{"Add", disc.Add, at(complex(minusNought, minusNought), minusNought), at(complex(minusNought, 0), 0), at(0, 0), api.OK},
		{"Add", disc.Add, at(1, 1), at(1, e/4), at(2, 1+e), api.OK},
		{"Sub", disc.Sub, at(m, 0), at(-m, 0), api.Disc{}, api.ErrInf},
		{"Sub", disc.Sub, at(complex(1, -2), 0.5), at(complex(1, 3), 0.25), at(complex(0, -5), 0.75), api.OK},
		{"Sub", disc.Sub, at(complex(minusNought, minusNought), 0), at(complex(0, minusNought), minusNought), at(0, 0), api.OK},
		{"Mul", disc.Mul, at(complex(-1, 0), 0), at(complex(0, minusNought), 0), at(0, 0), api.OK},
		{"Mul", disc.Mul, at(complex(l, 0), 0), at(0.5, 0), at(0, l), api.OK},
		{"Mul", disc.Mul, at(big, 0), at(0.25, 0), api.Disc{}, api.ErrInf},
		{"Mul", disc.Mul, at(big, 1), at(0, 0), api.Disc{}, api.ErrInf},
		{"Mul", disc.Mul, at(m, 0), at(complex(1+e, 0), 0), api.Disc{}, api.ErrInf},
		{"Mul", disc.Mul, at(m, 0), at(1, 0), at(m, 0), api.OK},
		{"Mul", disc.Mul, at(0, 0x1p600), at(0, 0x1p600), api.Disc{}, api.ErrInf},
		{"Mul", disc.Mul, at(complex(0x1p600, 0x1p600), 0), at(complex(0x1p600, 0x1p600), 0), api.Disc{}, api.ErrInf},
		{"Quo", disc.Quo, at(0, 0), at(0, 0), api.Disc{}, api.ErrZero},
		{"Quo", disc.Quo, at(big, greatest), at(3+4i, 5), api.Disc{}, api.ErrZero},
		{"Quo", disc.Quo, at(1, 0), at(1+1i, 0x1.6a09e667f3bccp+0), api.Disc{}, api.ErrZero},
		{"Quo", disc.Quo, at(1, 0), at(big, greatest), api.Disc{}, api.ErrZero},
		{"Quo", disc.Quo, at(1, 0), at(0x1p-600, 0), api.Disc{}, api.ErrInf},
		{"Quo", disc.Quo, at(1, 0), at(0x1p600, 0), at(0, 0x1p-600), api.OK},
		{"Quo", disc.Quo, at(m, 0), at(0.5, 0), api.Disc{}, api.ErrInf},
		{"Quo", disc.Quo, at(0, greatest), at(0.5, 0), api.Disc{}, api.ErrInf},
		{"Quo", disc.Quo, at(complex(minusNought, 0), 0), at(-2, minusNought), at(0, 0), api.OK},
	} {
		d, err := c.of(c.a, c.b)
		isDisc(t, c.name, c.a, c.b, d, err, c.want, c.err)
	}
}

// P4.1, P4.2: discs that may not be, on either side; that comes ahead of a division by nought.
func TestNoDiscs(t *testing.T) {
	for _, wrong := range noDiscs() {
		if e := disc.Check(wrong); e != api.ErrArg {
			t.Errorf("Check(%x) = %d", wrong, e)
		}
		for _, o := range operations() {
			for _, d := range []api.Disc{at(1, 0.5), at(0, 0), wrong} {
				got, e := o.ours(d, wrong)
				isDisc(t, o.name, d, wrong, got, e, api.Disc{}, api.ErrArg)
				got, e = o.ours(wrong, d)
				isDisc(t, o.name, wrong, d, got, e, api.Disc{}, api.ErrArg)
			}
		}
	}
}

// P4.1: discs that may be.
func TestCheck(t *testing.T) {
	for _, d := range []api.Disc{
		{}, at(1, 0), at(complex(greatest, -greatest), greatest), at(complex(least, -least), least), at(complex(minusNought, minusNought), minusNought),
	} {
		if e := disc.Check(d); e != api.OK {
			t.Errorf("Check(%x) = %d", d, e)
		}
	}
}

// P4.6: either way round.
func TestEitherWayRound(t *testing.T) {
	r := rand.New(rand.NewSource(4))
	for i := range 4000 {
		a, b := anyDisc(r, anyFloat), anyDisc(r, anyFloat)
		if i%4 == 0 {
			a, b = anyDisc(r, anyEdge), anyDisc(r, anyEdge)
		}
		for _, o := range []operation{operations()[0], operations()[2]} {
			d, e := o.ours(a, b)
			back, backE := o.ours(b, a)
			isDisc(t, o.name+", the other way round,", b, a, back, backE, d, e)
		}
	}
}
