package exact

import (
	"math"
	"math/big"
	"math/rand"
	"strings"
	"testing"

	"diapason/api"
	"diapason/nat"
)

// isComplex holds a number against its two parts.
func isComplex(t *testing.T, what string, z Complex, re, im *big.Rat) {
	t.Helper()
	isNumber(t, what+", first part", z.Re, re)
	isNumber(t, what+", second part", z.Im, im)
}

func TestComplexAgainstTheLibrary(t *testing.T) {
	mul := func(x, y *big.Rat) *big.Rat { return new(big.Rat).Mul(x, y) }
	r := rand.New(rand.NewSource(5))
	for i := range 4000 {
		bytes := []int{1, 8, 20, 600}[i%4]
		if bytes == 600 && i%80 != 3 {
			continue
		}
		a, b, c, d := anyRat(r, bytes), anyRat(r, bytes), anyRat(r, bytes), anyRat(r, bytes)
		z, w := Complex{ours(a), ours(b)}, Complex{ours(c), ours(d)}
		isComplex(t, "Add", z.Add(w), new(big.Rat).Add(a, c), new(big.Rat).Add(b, d))
		isComplex(t, "Sub", z.Sub(w), new(big.Rat).Sub(a, c), new(big.Rat).Sub(b, d))
		re := new(big.Rat).Sub(mul(a, c), mul(b, d))
		im := new(big.Rat).Add(mul(a, d), mul(b, c))
		product := z.Mul(w)
		isComplex(t, "Mul", product, re, im)
		isComplex(t, "Conj", z.Conj(), a, new(big.Rat).Neg(b))
		isNumber(t, "Norm", z.Norm(), new(big.Rat).Add(mul(a, a), mul(b, b)))
		if w.IsNought() != (c.Sign() == 0 && d.Sign() == 0) {
			t.Fatalf("IsNought of %v", w)
		}
		if !w.IsNought() {
			isComplex(t, "Quo", product.Quo(w), a, b)
		}
	}
}

func TestComplexOverNought(t *testing.T) {
	one, nought := Of(false, nat.Of(1), nat.Of(1)), Of(false, nil, nat.Of(1))
	z := Complex{one, one}.Quo(Complex{nought, nought})
	if !isNone(z.Re) || !isNone(z.Im) {
		t.Errorf("over nought: %v", z)
	}
}

// What two floats are worth, if both are finite.
func TestFromComplex(t *testing.T) {
	z, ok := FromComplex(complex(-0.75, math.SmallestNonzeroFloat64))
	if !ok {
		t.Error("FromComplex")
	}
	isComplex(t, "FromComplex", z, big.NewRat(-3, 4), new(big.Rat).SetFloat64(math.SmallestNonzeroFloat64))
	for _, v := range []float64{math.Inf(1), math.Inf(-1), math.NaN()} {
		for _, c := range []complex128{complex(v, 1), complex(1, v), complex(v, v)} {
			if z, ok := FromComplex(c); ok || !isNone(z.Re) || !isNone(z.Im) {
				t.Errorf("FromComplex(%v) = %v, %v", c, z, ok)
			}
		}
	}
}

// A part may not have more than MaxBytes bytes, whichever of the two it is.
func TestComplexParts(t *testing.T) {
	most := api.Frac{Num: strings.Repeat("\xff", api.MaxBytes), Den: "\x01"}
	half := api.Frac{Neg: true, Num: "\x01", Den: "\x02"}
	for _, g := range []api.Gauss{{Re: most, Im: half}, {Re: half, Im: most}} {
		z, ok := ReadComplex(g)
		if back, fits := z.Gauss(); !ok || !fits || back != g || z.Size() != api.MaxBytes {
			t.Errorf("ReadComplex(%v): %v, %v, %v, %d", g, back, ok, fits, z.Size())
		}
		sum := z.Add(z)
		if back, fits := sum.Gauss(); fits || back != (api.Gauss{}) || sum.Size() != api.MaxBytes+1 {
			t.Errorf("twice a long one: %v, %v, %d", back, fits, sum.Size())
		}
	}
	for _, g := range []api.Gauss{{}, {Re: half}, {Im: half}} {
		if z, ok := ReadComplex(g); ok || !isNone(z.Re) || !isNone(z.Im) {
			t.Errorf("ReadComplex(%v) = %v, %v", g, z, ok)
		}
	}
}
