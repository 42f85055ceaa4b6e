package gauss_test

import (
	"math"
	"math/big"
	"math/rand"
	"testing"

	"diapason/api"
	"diapason/gauss"
)

// sameBits tells whether two have the same bits in both parts.
func sameBits(v, w complex128) bool {
	return math.Float64bits(real(v)) == math.Float64bits(real(w)) && math.Float64bits(imag(v)) == math.Float64bits(imag(w))
}

// nearest is what the library has for it, without a sign of nought.
func nearest(r *big.Rat) float64 {
	v, _ := r.Float64()
	return v + 0
}

// isComplex asks for the floats of a number.
func isComplex(t *testing.T, z pair) {
	t.Helper()
	want, wantE := complex(nearest(z.re), nearest(z.im)), api.OK
	if math.IsInf(real(want), 0) || math.IsInf(imag(want), 0) {
		want, wantE = 0, api.ErrInf
	}
	if v, e := gauss.Complex(z.number()); !sameBits(v, want) || e != wantE {
		t.Errorf("Complex of %s = %x, %d; not %x, %d", z.name(), v, e, want, wantE)
	}
}

// P2.4: the nearest floats of numbers of all sizes.
func TestComplex(t *testing.T) {
	for _, z := range numbers() {
		isComplex(t, z)
	}
	r := rand.New(rand.NewSource(4))
	for i := range 4000 {
		z := anyPair(r, []int{1, 8, 9, 40, 130, 250}[i%6])
		isComplex(t, z)
		isComplex(t, pair{new(big.Rat).Quo(z.re, power2(uint(r.Intn(1100)), 0)), times(z.im, power2(uint(r.Intn(1100)), 0))})
	}
	for _, wrong := range noNumbers() {
		if v, e := gauss.Complex(wrong); !sameBits(v, 0) || e != api.ErrArg {
			t.Errorf("Complex(%v) = %v, %d", wrong, v, e)
		}
	}
}

// P2.4: halfway between two floats the one whose last bit is 0; a little beside it the nearer one.
func TestComplexHalfway(t *testing.T) {
	one, little := rat("1"), new(big.Rat).Inv(power2(1200, 0))
	half := func(v float64) *big.Rat {
		low, high := new(big.Rat).SetFloat64(v), new(big.Rat).SetFloat64(math.Nextafter(v, 2*v+1))
		return times(plus(low, high), rat("1/2"))
	}
	t1 := new(big.Rat).Inv(power2(1074, 0))
	tie := minus(power2(1024, 0), power2(970, 0))
	list := []*big.Rat{
		half(1), half(math.Nextafter(1, 2)), half(0.1), half(math.Nextafter(2, 1)), half(3e-310), half(2.5e-308),
		half(math.SmallestNonzeroFloat64), half(0x1p-1022), half(math.Nextafter(0x1p-1022, 0)), half(1e300),
		times(t1, rat("1/2")), times(t1, rat("3/2")), times(t1, rat("5/2")), t1,
		tie, minus(tie, one), plus(tie, one), minus(tie, power2(970, 0)), power2(1024, 0), power2(1024, -1), power2(2000, 0),
	}
	for _, x := range list {
		for _, y := range []*big.Rat{x, plus(x, little), minus(x, little)} {
			isComplex(t, pair{y, one})
			isComplex(t, pair{one, new(big.Rat).Neg(y)})
			isComplex(t, pair{new(big.Rat).Neg(y), y})
		}
	}
}

// P2.4: the edges that the chapter names, by their floats.
func TestComplexEdges(t *testing.T) {
	tie := minus(power2(1024, 0), power2(970, 0))
	below := minus(tie, rat("1"))
	tiny := new(big.Rat).Inv(power2(1075, 0))
	for _, c := range []struct {
		z    pair
		want complex128
		e    api.Errno
	}{
		{pair{below, new(big.Rat).Neg(below)}, complex(math.MaxFloat64, -math.MaxFloat64), api.OK},
		{pair{tie, rat("0")}, 0, api.ErrInf},
		{pair{rat("0"), new(big.Rat).Neg(tie)}, 0, api.ErrInf},
		{pair{power2(1024, 0), power2(1024, 0)}, 0, api.ErrInf},
		{pair{new(big.Rat).Neg(tiny), tiny}, 0, api.OK},
		{pair{rat("0"), times(tiny, rat("-3"))}, complex(0, -0x1p-1073), api.OK},
		{at("-1/3", "1/10"), complex(-1.0/3, 0.1), api.OK},
	} {
		if v, e := gauss.Complex(c.z.number()); !sameBits(v, c.want) || e != c.e {
			t.Errorf("Complex of %s = %x, %d", c.z.name(), v, e)
		}
	}
}

// isFromComplex asks for what floats are worth.
func isFromComplex(t *testing.T, v complex128) {
	t.Helper()
	z, e := gauss.FromComplex(v)
	want := pair{new(big.Rat), new(big.Rat)}
	if want.re.SetFloat64(real(v)) == nil || want.im.SetFloat64(imag(v)) == nil {
		isError(t, "FromComplex", z, e, api.ErrInf)
		return
	}
	isNumber(t, "FromComplex", z, e, want)
	// P2.6: there and back; a nought has lost its sign.
	w, e := gauss.Complex(z)
	if e != api.OK || !sameBits(w, complex(real(v)+0, imag(v)+0)) {
		t.Errorf("Complex of FromComplex(%x) = %x, %d", v, w, e)
	}
}

// P2.4: what floats are worth, the greatest and the least ones, noughts with a sign, and what is not finite.
func TestFromComplex(t *testing.T) {
	minusNought := math.Copysign(0, -1)
	list := []float64{
		0, minusNought, 1, -1, 0.1, -1e300, math.MaxFloat64, -math.MaxFloat64,
		math.SmallestNonzeroFloat64, -math.SmallestNonzeroFloat64, 0x1p-1022, math.Nextafter(0x1p-1022, 0), 0x1p53, 0x1p1023,
		math.Inf(1), math.Inf(-1), math.NaN(),
	}
	for _, x := range list {
		for _, y := range list {
			isFromComplex(t, complex(x, y))
		}
	}
	r := rand.New(rand.NewSource(5))
	for range 4000 {
		isFromComplex(t, complex(math.Float64frombits(r.Uint64()), math.Float64frombits(r.Uint64()>>12)))
	}
}
