package echo_test

import (
	"math"
	"slices"
	"testing"

	"diapason/api"
	"diapason/echo"
)

// The chapter's examples, row by row.

func TestExamplesOfAt(t *testing.T) {
	one := frac(whole(1))
	for _, c := range []struct {
		b    api.Bore
		want string
	}{{pipe(api.Stopped, "1x2"), "-1"}, {pipe(api.Open, "1x2"), "1"}, {pipe(api.Stopped, "1x1 3x1"), "-3/5-4/5i"}} {
		z, e := echo.At(c.b, one)
		isGauss(t, "At("+name(c.b)+", 1)", z, e, number(c.want))
	}
	for _, s := range []string{"1x1", "1x2", "1x1 3x1", "65535x1 1/65535x31"} {
		for far, want := range map[int]string{api.Stopped: "1", api.Open: "-1"} {
			z, e := echo.At(pipe(far, s), frac(whole(0)))
			isGauss(t, "At("+s+", 0)", z, e, number(want))
		}
	}
}

func TestExamplesOfWave(t *testing.T) {
	for _, c := range []struct {
		b    api.Bore
		k    int
		want complex128
	}{{pipe(api.Stopped, "1x2"), 1, -1}, {pipe(api.Open, "1x1"), 1, -1i}, {pipe(api.Stopped, "1x1"), 2, -1}} {
		z, e := echo.Wave(c.b, c.k, 2)
		isNumber(t, "Wave("+name(c.b)+")", z, e, c.want, api.OK)
	}
	b := pipe(api.Stopped, "1x1 3x1")
	z, e := echo.Wave(b, 0, -1)
	isNumber(t, "Wave(b, 0, -1)", z, e, 0, api.ErrArg)
	z, e = echo.Wave(b, 0, 17)
	isNumber(t, "Wave(b, 0, 17)", z, e, 0, api.ErrLong)
}

func TestExampleOfRow(t *testing.T) {
	l, e := echo.Row(pipe(api.Stopped, "1x1"), 2)
	if want := []complex128{1, 1i, -1, -1i}; !slices.Equal(l, want) || e != api.OK {
		t.Errorf("Row(1x1, 2): %v, %d; not %v", l, e, want)
	}
}

func TestExampleOfDisc(t *testing.T) {
	d, e := echo.Disc(pipe(api.Stopped, "1x1"), 1, 2)
	isDisc(t, "Disc(1x1, 1, 2)", d, e, api.Disc{C: 1i}, api.OK)
}

func TestExamplesOfLeaky(t *testing.T) {
	b := pipe(api.Stopped, "1x2")
	z, e := echo.Leaky(b, 0.5, 1, 2)
	isNumber(t, "Leaky(1x2, 0.5, 1, 2)", z, e, -0.25, api.OK)
	for _, keeps := range []float64{0, 1.5, math.NaN()} {
		z, e := echo.Leaky(b, keeps, 1, 2)
		isNumber(t, "Leaky of too much, or nothing", z, e, 0, api.ErrArg)
	}
}

// DOC.md, the second and the fourth example of the whole.
func TestExamplesOfTheWhole(t *testing.T) {
	z, e := echo.At(pipe(api.Stopped, "1x1 3x1"), frac(whole(1)))
	isGauss(t, "the second example", z, e, number("-3/5-4/5i"))
	// These areas have the reflections 1/2 and 1/3. At i their under is -1/2-1/2i, their over 1/2+1/2i.
	z, e = echo.At(pipe(api.Stopped, "1x1 1/3x1 1/6x1"), frac(whole(1)))
	isGauss(t, "the fourth example", z, e, number("-1"))
}
