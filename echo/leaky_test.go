package echo_test

import (
	"math"
	"math/rand"
	"testing"

	"diapason/api"
	"diapason/echo"
	"diapason/turn"
)

const least = 0x1p-1074 // the least float above nought

// losses are what may be kept, from the least float to 1.
func losses() []float64 {
	return []float64{least, 3 * least, 0x1p-1022, 0x1p-600, 0x1p-538, 0x1p-60, 1.0 / 3, 0.5, 31.0 / 32, 1 - 0x1p-53, 1}
}

// noLosses are what may not be kept.
func noLosses() []float64 {
	return []float64{0, math.Copysign(0, -1), -least, -0.5, -1, 1 + 0x1p-52, 1.5, 2, math.MaxFloat64, -math.MaxFloat64, math.Inf(1), math.Inf(-1), math.NaN(), math.Float64frombits(0xfff0000000000001)}
}

// P14.3: the echo by floats at parts times what is kept, to the bit.
func TestLeaky(t *testing.T) {
	r := rand.New(rand.NewSource(1))
	for _, b := range bores(9, 100) {
		for _, keeps := range append(losses(), r.Float64(), 1-r.Float64()) {
			if keeps == 0 {
				continue
			}
			n := r.Intn(api.MaxTurn + 1)
			for _, k := range places(r, n) {
				x, _ := turn.Parts(k, n)
				want := floatEcho(b, complex(float64(real(x)*keeps), float64(imag(x)*keeps)))
				z, e := echo.Leaky(b, keeps, k, n)
				isNumber(t, call("Leaky", b, k, n), z, e, want, api.OK)
			}
		}
	}
}

// P14.3: what may not be kept; it goes ahead of too many parts of a turn.
func TestLeakyOfWrongLosses(t *testing.T) {
	b := pipe(api.Open, "1x1 3x1")
	for _, keeps := range noLosses() {
		for _, n := range []int{0, 2, 16, 17, 64, -1, math.MaxInt, math.MinInt} {
			z, e := echo.Leaky(b, keeps, 1, n)
			isNumber(t, call("Leaky", b, 1, n), z, e, 0, api.ErrArg)
		}
	}
}

// P14.3: parts of a turn that there are not, and bores that may not be.
func TestWrongLeaky(t *testing.T) {
	for _, keeps := range losses() {
		for n, want := range wrongTurns() {
			for _, b := range bores(10, 2) {
				z, e := echo.Leaky(b, keeps, 1, n)
				isNumber(t, call("Leaky", b, 1, n), z, e, 0, want)
			}
		}
	}
	for _, b := range noBores() {
		for _, keeps := range append(noLosses(), losses()...) {
			for _, n := range []int{2, 17, -1} {
				z, e := echo.Leaky(b, keeps, 1, n)
				isNumber(t, call("Leaky", b, 1, n), z, e, 0, api.ErrArg)
			}
		}
	}
}
