package grain_test

import (
	"math"
	"math/big"
	"math/rand"
	"strings"
	"testing"

	"diapason/api"
	"diapason/grain"
)

const (
	greatest = math.MaxFloat64
	least    = math.SmallestNonzeroFloat64
	unit     = 0x1p-52 // what 1 and the next float above it are apart
)

var (
	above       = math.Inf(1)
	below       = math.Inf(-1)
	none        = math.NaN()
	minusNought = math.Copysign(0, -1)
)

// frac is the fraction of a number of the library's, whatever its size.
func frac(r *big.Rat) api.Frac {
	num := new(big.Int).Abs(r.Num())
	return api.Frac{Neg: r.Sign() < 0, Num: string(num.Bytes()), Den: string(r.Denom().Bytes())}
}

// rat is the number of a text.
func rat(s string) *big.Rat {
	r, ok := new(big.Rat).SetString(s)
	if !ok {
		panic("no number: " + s)
	}
	return r
}

// power2 is 2^n; n may be below 0.
func power2(n int) *big.Rat {
	p := new(big.Rat).SetInt(new(big.Int).Lsh(big.NewInt(1), uint(max(n, -n))))
	if n < 0 {
		p.Inv(p)
	}
	return p
}

// worth is what a finite float is worth.
func worth(v float64) *big.Rat { return new(big.Rat).SetFloat64(v) }

func plus(x, y *big.Rat) *big.Rat { return new(big.Rat).Add(x, y) }

func minus(x, y *big.Rat) *big.Rat { return new(big.Rat).Sub(x, y) }

func times(x, y *big.Rat) *big.Rat { return new(big.Rat).Mul(x, y) }

func turned(x *big.Rat) *big.Rat { return new(big.Rat).Neg(x) }

func isFinite(v float64) bool { return v-v == 0 }

// same tells, by the bits alone, what Same is to tell.
func same(a, b float64) bool {
	return a != a && b != b || math.Float64bits(a) == math.Float64bits(b)
}

// order is -1, 0 or 1, as a float, infinite ones too, is below r, the same, above it.
func order(v float64, r *big.Rat) int {
	switch {
	case v == above:
		return 1
	case v == below:
		return -1
	}
	return worth(v).Cmp(r)
}

// around are the two floats between which r lies, without signs of noughts: the library's nearest one is one of them.
func around(r *big.Rat) (down, up float64) {
	near, _ := r.Float64()
	down, up = near, near
	switch order(near, r) {
	case 1:
		down = math.Nextafter(near, below)
	case -1:
		up = math.Nextafter(near, above)
	}
	return down + 0, up + 0
}

// areSides holds an answer of two floats against what it is to be, to the bit.
func areSides(t *testing.T, what string, a, b, down, up, wantDown, wantUp float64) {
	t.Helper()
	if !same(down, wantDown) || !same(up, wantUp) {
		t.Errorf("%s(%x, %x) = %x, %x; not %x, %x", what, a, b, down, up, wantDown, wantUp)
	}
}

// noFractions are fractions that may not be.
func noFractions() []api.Frac {
	long := "\x01" + strings.Repeat("\x00", api.MaxBytes)
	return []api.Frac{
		{}, {Den: "\x02"}, {Neg: true, Den: "\x01"}, {Num: "\x01"}, {Num: "\x02", Den: "\x04"},
		{Num: "\x00\x02", Den: "\x03"}, {Num: "\x02", Den: "\x00\x03"}, {Num: "\x01", Den: "\x00"},
		{Num: long, Den: "\x01"}, {Neg: true, Num: "\x01", Den: long}, {Neg: true},
	}
}

// edges are finite floats at the edges of what the operations do: the ends of the range, of the floats of fewer bits, of what a product or a quotient may be, and floats all of whose bits count; each with both signs.
func edges() []float64 {
	list := []float64{
		0, least, 2 * least, 3 * least, 0x1p-1072, 0x1.8p-1050, 0x1p-1023, 0x0.fffffffffffffp-1022, 0x1p-1022, 0x1.0000000000001p-1022, 0x1p-1021,
		0x1p-970, 0x1.0000000000001p-969, 0x1p-538, 0x1p-537, 0x1.8p-537, 0x1.0000000000001p-537, 0x1.fffffffffffffp-538, 0x1.0000000000001p-500,
		unit / 4, unit / 2, unit, 0x1p-30, 0.1, 1.0 / 3, 0.5 - unit/4, 0.5, 1 - unit/2, 1, 1 + unit, 1.5, 2 - unit, 2, 3, 10, 0x1.0000001p+26,
		0x1p52, 0x1p53 - 1, 0x1p53, 0x1p53 + 2, 0x1.0000000000001p+511, 0x1.fffffffffffffp+511, 0x1p512, 1e300,
		0x1p969, 0x1p970, 0x1.0000000000001p+970, 0x1p971, 0x1p1022, 0x1.fffffffffffffp+1022, 0x1p1023, 0x1.ffffffffffffep+1023, greatest,
	}
	for _, v := range list {
		list = append(list, -v)
	}
	return list
}

// notFinite are the infinities, and several of what is no number.
func notFinite() []float64 {
	return []float64{above, below, none, -none, math.Float64frombits(0x7ff0000000000001), math.Float64frombits(0xffffffffffffffff)}
}

// anyFloat makes finite floats of all sizes, some of them with few bits.
func anyFloat(r *rand.Rand) float64 {
	v := math.Float64frombits(r.Uint64())
	switch r.Intn(4) {
	case 0:
		v = math.Float64frombits(r.Uint64() >> (10 + r.Intn(50)))
	case 1:
		v = math.Ldexp(r.Float64()-0.5, r.Intn(120)-60)
	case 2:
		v = math.Float64frombits(math.Float64bits(v) &^ (1<<r.Intn(52) - 1))
	}
	if !isFinite(v) {
		return r.NormFloat64()
	}
	return v
}

// isFloatError holds an answer of Float against an error, beside which there are zero values.
func isFloatError(t *testing.T, what string, down, near, up float64, e, want api.Errno) {
	t.Helper()
	if !same(down, 0) || !same(near, 0) || !same(up, 0) || e != want {
		t.Errorf("%s = %x, %x, %x, %d; not the error %d", what, down, near, up, e, want)
	}
}

// isFracError holds an answer of Frac against ErrInf.
func isFracError(t *testing.T, v float64) {
	t.Helper()
	if x, e := grain.Frac(v); x != (api.Frac{}) || e != api.ErrInf {
		t.Errorf("Frac(%x) = %v, %d", v, x, e)
	}
}
