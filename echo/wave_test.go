package echo_test

import (
	"math"
	"math/rand"
	"strconv"
	"testing"

	"diapason/api"
	"diapason/echo"
	"diapason/turn"
)

// call tells a call.
func call(what string, b api.Bore, k, n int) string {
	return what + "(" + name(b) + ", " + strconv.Itoa(k) + ", " + strconv.Itoa(n) + ")"
}

// P14.2: the echo by floats, to the bit.
func TestWave(t *testing.T) {
	r := rand.New(rand.NewSource(1))
	for _, b := range bores(6, 60) {
		for n := range api.MaxTurn + 1 {
			for _, k := range places(r, n) {
				x, _ := turn.Parts(k, n)
				z, e := echo.Wave(b, k, n)
				isNumber(t, call("Wave", b, k, n), z, e, floatEcho(b, x), api.OK)
			}
		}
	}
}

// P14.2: the echo by discs, to the bit, or the first error of a step.
func TestDisc(t *testing.T) {
	r := rand.New(rand.NewSource(2))
	answered, failed := 0, 0
	for _, b := range bores(7, 60) {
		for _, n := range []int{0, 1, 2, 3, 5, 11, 16} {
			for _, k := range places(r, n) {
				x, _ := turn.Disc(k, n)
				want, wantE := discEcho(b, x)
				d, e := echo.Disc(b, k, n)
				isDisc(t, call("Disc", b, k, n), d, e, want, wantE)
				if e == api.OK {
					answered++
				} else {
					failed++
				}
			}
		}
	}
	if answered < 5000 || failed < 500 {
		t.Errorf("%d are answered, %d are errors", answered, failed)
	}
}

// P14.2: where areas are so far from one another that a quotient's divisor may be nought, it is ErrZero, though there is an echo.
func TestDiscThatMayNotBeDivided(t *testing.T) {
	for far, s := range map[int]string{api.Stopped: "1/65535x1 65535x1 1/65535x1 65535x1", api.Open: "65535x1 1/65535x1 65535x1 1/65535x1"} {
		b := pipe(far, s)
		for n := range api.MaxTurn + 1 {
			d, e := echo.Disc(b, 0, n)
			isDisc(t, call("Disc", b, 0, n), d, e, api.Disc{}, api.ErrZero)
			z, e := echo.Wave(b, 0, n)
			isNumber(t, call("Wave", b, 0, n), z, e, complex(float64(signOf(far)), 0), api.OK)
		}
	}
}

// P14.2: parts of a turn that there are not, and bores that may not be, which go ahead of these.
func TestWrongWave(t *testing.T) {
	for _, k := range []int{0, 1, -1, math.MinInt, math.MaxInt} {
		for n, want := range wrongTurns() {
			for _, b := range bores(8, 4) {
				z, e := echo.Wave(b, k, n)
				isNumber(t, call("Wave", b, k, n), z, e, 0, want)
				d, e := echo.Disc(b, k, n)
				isDisc(t, call("Disc", b, k, n), d, e, api.Disc{}, want)
			}
		}
		for _, b := range noBores() {
			for _, n := range []int{0, 2, 16, 17, -1, math.MaxInt, math.MinInt} {
				z, e := echo.Wave(b, k, n)
				isNumber(t, call("Wave", b, k, n), z, e, 0, api.ErrArg)
				d, e := echo.Disc(b, k, n)
				isDisc(t, call("Disc", b, k, n), d, e, api.Disc{}, api.ErrArg)
			}
		}
	}
}
