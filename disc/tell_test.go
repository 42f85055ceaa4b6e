package disc_test

import (
	"math"
	"math/big"
	"math/rand"
	"testing"

	"diapason/api"
	"diapason/disc"
)

// isAbs holds the span of a disc against the library's numbers.
func isAbs(t *testing.T, d api.Disc) {
	t.Helper()
	low, high := roots(real(d.C), imag(d.C))
	want := api.Span{Lo: max(addDown(low, -d.R), 0), Hi: addUp(high, d.R)}
	wantE := api.OK
	if !isFinite(want.Hi) {
		want, wantE = api.Span{}, api.ErrInf
	}
	isSpan(t, d, want, wantE)
}

// isSpan holds what Abs answers against a span, or an error, beside which there is the zero value.
func isSpan(t *testing.T, d api.Disc, want api.Span, wantE api.Errno) {
	t.Helper()
	if s, e := disc.Abs(d); !same(s.Lo, want.Lo) || !same(s.Hi, want.Hi) || e != wantE {
		t.Errorf("Abs(%x) = %x, %d; not %x, %d", d, s, e, want, wantE)
	}
}

// P4.3: all pairs of floats at the edges: there the roots' squares are beyond the floats, or below them.
func TestAbsEdges(t *testing.T) {
	for _, x := range edges() {
		for _, y := range edges() {
			isAbs(t, at(complex(x, y), 0))
		}
	}
}

// P4.3: discs of all sizes, and parts that are so far from each other that the lesser one is just seen.
func TestAbs(t *testing.T) {
	r := rand.New(rand.NewSource(6))
	for i := range 4000 {
		d := anyDisc(r, anyFloat)
		isAbs(t, d)
		isAbs(t, anyDisc(r, anyEdge))
		x := math.Ldexp(real(d.C), []int{0, 600, 1000, -700, -1060}[i%5])
		isAbs(t, at(complex(x, math.Ldexp(x, -1-i%60)), 0))
		isAbs(t, at(complex(math.Ldexp(imag(d.C), -1070), math.Ldexp(real(d.C), -1060)), 0))
	}
}

// P4.3: roots that are whole numbers, in any unit, of as many bits as a float has, and of one more; a last bit beside them.
func TestAbsWhole(t *testing.T) {
	r := rand.New(rand.NewSource(12))
	for i := range 4000 {
		most := []int64{1 << 20, 1 << 26, 105000000}[i%3]
		m, n := most-r.Int63n(most/2), r.Int63n(most)
		first, second := m*m-n*n, 2*m*n
		if max(first, second) > 1<<53 {
			continue
		}
		power := []int{0, 900, 971, r.Intn(2000) - 1074}[r.Intn(4)]
		x, y := math.Ldexp(float64(first), power), math.Ldexp(float64(second), power)
		if isFinite(x) && isFinite(y) {
			isAbs(t, at(complex(x, y), 0))
			isAbs(t, at(complex(-y, x), math.Ldexp(float64(m), power)))
			isAbs(t, at(complex(x, math.Nextafter(y, 0)), 0))
			isAbs(t, at(complex(math.Nextafter(x, greatest), y), 0))
		}
	}
}

// P4.3: by floats.
func TestAbsByFloats(t *testing.T) {
	m, l := greatest, least
	for _, c := range []struct {
		d    api.Disc
		want api.Span
		e    api.Errno
	}{
		{at(complex(minusNought, 0), minusNought), api.Span{}, api.OK},
		{at(complex(l, l), 0), api.Span{Lo: l, Hi: 2 * l}, api.OK},
		{at(complex(3*l, -4*l), 0), api.Span{Lo: 5 * l, Hi: 5 * l}, api.OK},
		{at(complex(1, l), 0), api.Span{Lo: 1, Hi: 1 + unit}, api.OK},
		{at(complex(m, 0), 0), api.Span{Lo: m, Hi: m}, api.OK},
		{at(complex(m, l), 0), api.Span{}, api.ErrInf},
		{at(complex(m, m), 0), api.Span{}, api.ErrInf},
		{at(complex(0, m), l), api.Span{}, api.ErrInf},
		{at(complex(0x1.8p1022, 0x1p1023), 0), api.Span{Lo: 0x1.4p1023, Hi: 0x1.4p1023}, api.OK},
		{at(complex(1, 1), 1), api.Span{Lo: 0x1.a827999fcef3p-2, Hi: 0x1.3504f333f9de7p+1}, api.OK},
		{at(complex(3, 4), 5), api.Span{Lo: 0, Hi: 10}, api.OK},
	} {
		isSpan(t, c.d, c.want, c.e)
	}
	for _, wrong := range noDiscs() {
		isSpan(t, wrong, api.Span{}, api.ErrArg)
	}
}

// isHas asks whether the disc has the number.
func isHas(t *testing.T, d api.Disc, z api.Gauss, want bool) {
	t.Helper()
	if has, e := disc.Has(d, z); has != want || e != api.OK {
		t.Errorf("Has(%x, %s) = %v, %d", d, name(z), has, e)
	}
}

// P4.4: exactly, at the rim, and as little beside it as a fraction may be.
func TestHas(t *testing.T) {
	little := power2(-4060)
	r := rand.New(rand.NewSource(7))
	for range 400 {
		m, n := int64(r.Intn(1000)), int64(r.Intn(1000))
		x, y, root := m*m-n*n, 2*m*n, m*m+n*n
		d := at(complex(float64(3*m), float64(-n)), float64(root))
		re, im := big.NewRat(3*m+x, 1), big.NewRat(y-n, 1)
		isHas(t, d, number(re, im), true)
		isHas(t, d, number(plus(re, little), im), x < 0)
		isHas(t, d, number(minus(re, little), im), x > 0)
		isHas(t, d, number(re, plus(im, little)), false)
		isHas(t, d, number(re, minus(im, little)), y > 0)
	}
	for _, v := range edges() {
		d := at(complex(v, -v), 0)
		isHas(t, d, number(worth(v), worth(-v)), true)
		isHas(t, d, number(worth(v), plus(worth(-v), power2(-2000))), false)
		d.R = least
		isHas(t, d, number(plus(worth(v), power2(-1074)), worth(-v)), true)
		isHas(t, d, number(plus(worth(v), power2(-1074)), plus(worth(-v), power2(-2000))), false)
	}
	isHas(t, at(complex(greatest, greatest), greatest), number(rat("0"), worth(greatest)), true)
	isHas(t, at(complex(greatest, greatest), greatest), number(turned(power2(-1074)), worth(greatest)), false)
	isHas(t, at(0, greatest), number(power2(4095), rat("0")), false)
	isHas(t, at(complex(minusNought, minusNought), minusNought), point("0"), true)
}

// P4.4: what may not be.
func TestHasOfWhatMayNotBe(t *testing.T) {
	for _, wrong := range noDiscs() {
		for _, z := range append(noNumbers()[:2], point("0")) {
			if has, e := disc.Has(wrong, z); has || e != api.ErrArg {
				t.Errorf("Has(%x, %s) = %v, %d", wrong, name(z), has, e)
			}
		}
		for _, d := range []api.Disc{wrong, at(0, 1)} {
			if in, e := disc.In(wrong, d); in || e != api.ErrArg {
				t.Errorf("In(%x, %x) = %v, %d", wrong, d, in, e)
			}
			if in, e := disc.In(d, wrong); in || e != api.ErrArg {
				t.Errorf("In(%x, %x) = %v, %d", d, wrong, in, e)
			}
		}
	}
	for _, wrong := range noNumbers() {
		if has, e := disc.Has(at(0, greatest), wrong); has || e != api.ErrArg {
			t.Errorf("Has of what may not be = %v, %d", has, e)
		}
	}
}

// isIn asks whether b has all that a has.
func isIn(t *testing.T, a, b api.Disc, want bool) {
	t.Helper()
	if in, e := disc.In(a, b); in != want || e != api.OK {
		t.Errorf("In(%x, %x) = %v, %d", a, b, in, e)
	}
}

// P4.4: discs that touch from within, and as little beside it as floats may be.
func TestIn(t *testing.T) {
	r := rand.New(rand.NewSource(8))
	for range 1000 {
		m, n := float64(1+r.Intn(1000)), float64(1+r.Intn(1000))
		x, y, root := m*m-n*n, 2*m*n, m*m+n*n
		power, radius := r.Intn(1900)-1000, float64(r.Intn(5))
		unit := func(v float64) float64 { return math.Ldexp(v, power) }
		a := at(complex(unit(x), unit(y)), unit(radius))
		b := at(0, unit(root+radius))
		isIn(t, a, b, true)
		isIn(t, a, at(0, math.Nextafter(b.R, 0)), false)
		isIn(t, at(a.C, math.Nextafter(a.R, above)), b, false)
		isIn(t, at(complex(unit(x), math.Nextafter(unit(y), above)), a.R), b, false)
		isIn(t, b, a, false)
		isIn(t, b, b, true)
	}
	for _, v := range edges() {
		d := at(complex(v, -v), math.Abs(v))
		isIn(t, d, d, true)
		isIn(t, d, at(d.C, math.Nextafter(d.R, 0)), v == 0)
		isIn(t, at(d.C, 0), at(complex(v, math.Nextafter(-v, 0)), 0), v == 0)
		isIn(t, d, at(0, greatest), math.Abs(v) <= 0x1p1022)
	}
	isIn(t, at(complex(minusNought, 0), minusNought), at(complex(0, minusNought), 0), true)
}

// P4.4, P4.6: on a grid, where each pair of discs is held against whole numbers, each three go on from disc to disc, and what one has the other one has.
func TestInGoesOn(t *testing.T) {
	var list []api.Disc
	for x := range 4 {
		for y := range 3 {
			for r := range 5 {
				list = append(list, at(complex(float64(x), float64(y)), float64(r)))
			}
		}
	}
	in := func(a, b api.Disc) bool {
		is, e := disc.In(a, b)
		c := a.C - b.C
		wide := b.R - a.R
		if e != api.OK || is != (wide >= 0 && real(c)*real(c)+imag(c)*imag(c) <= wide*wide) {
			t.Errorf("In(%v, %v) = %v, %d", a, b, is, e)
		}
		return is
	}
	for _, a := range list {
		for _, b := range list {
			if !in(a, b) {
				continue
			}
			for _, z := range pointsOf(a) {
				isHas(t, b, z, true)
			}
			for _, c := range list {
				if is, _ := disc.In(b, c); is && !in(a, c) {
					t.Errorf("%v, %v, %v", a, b, c)
				}
			}
		}
	}
}
