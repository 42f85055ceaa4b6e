package gauss_test

import (
	"math"
	"math/big"
	"math/rand"
	"testing"

	"diapason/api"
	"diapason/gauss"
)

// isPower asks for one power.
func isPower(t *testing.T, z pair, n int) {
	t.Helper()
	w, e := gauss.Power(z.number(), n)
	if n < 0 && z.isNought() {
		isError(t, "over nought", w, e, api.ErrZero)
		return
	}
	isNumber(t, "Power of "+z.name()+", "+big.NewInt(int64(n)).String(), w, e, z.power(n))
}

// P2.3: all powers of small numbers, of nought and of those on the axes too.
func TestPowers(t *testing.T) {
	parts := []string{"0", "1", "-1", "2", "-1/2", "3/5", "4/5", "-7/3"}
	for _, re := range parts {
		for _, im := range parts {
			for n := -24; n <= 24; n++ {
				isPower(t, at(re, im), n)
			}
		}
	}
	r := rand.New(rand.NewSource(3))
	for i := range 400 {
		z := anyPair(r, []int{2, 4, 11, 24}[i%4])
		isPower(t, z, r.Intn(49)-24)
	}
}

// P2.3, R7: at the bound of the answer, on the axes, between them, and where powers before the last one have longer numbers.
func TestPowersAtTheBound(t *testing.T) {
	var list []pair
	for bits := uint(165); bits <= 180; bits++ {
		for _, unit := range []pair{at("1", "0"), at("0", "-1"), at("1", "1"), at("3/5", "4/5"), at("3", "-4"), at("1/3", "0"), at("2/3", "-1/3")} {
			scale := pair{power2(bits, 0), rat("0")}
			list = append(list, unit.mul(scale), unit.quo(scale))
			scale.re = power2(bits, -1)
			list = append(list, unit.mul(scale), unit.quo(scale))
		}
	}
	long, short := 0, 0
	for _, z := range list {
		for _, n := range []int{-24, -23, 22, 23, 24} {
			if w := z.power(n); isLong(w.re, w.im) {
				long++
			} else {
				short++
			}
			isPower(t, z, n)
		}
	}
	if long < 100 || short < 100 {
		t.Errorf("the cases lie on one side: %d long, %d short", long, short)
	}
	for n := 2; n <= 24; n++ {
		for bits := 4090/n - 2; bits <= 4098/n+1; bits++ {
			unit := pair{power2(uint(bits), 0), power2(uint(bits), 0)}
			isPower(t, unit, n)
			isPower(t, unit, -n)
		}
	}
}

// P2.3: of long numbers the powers 0 and 1, 1 over it, and those that are too long.
func TestPowersOfLongOnes(t *testing.T) {
	greatest, other := power2(4096, -1), power2(4096, -2)
	for _, z := range []pair{
		{greatest, rat("0")}, {rat("0"), greatest}, {greatest, greatest}, {greatest, other},
		{new(big.Rat).Quo(greatest, other), rat("0")}, {new(big.Rat).Quo(greatest, other), new(big.Rat).Quo(power2(4095, 1), power2(4095, -1))},
		{new(big.Rat).Inv(greatest), new(big.Rat).Inv(other)},
	} {
		for _, n := range []int{-2, -1, 0, 1, 2} {
			isPower(t, z, n)
		}
		for _, n := range []int{-24, 24} {
			w, e := gauss.Power(z.number(), n)
			isError(t, "a far power", w, e, api.ErrLong)
		}
	}
}

// P2.3, R2: ErrArg, then ErrLong of the power, then ErrZero.
func TestPowersThatAreNone(t *testing.T) {
	far := []int{-25, 25, 26, -1000, math.MaxInt64, math.MinInt64}
	for _, n := range far {
		for _, z := range []api.Gauss{gauss.Of(1, 0), gauss.Of(0, 0), gauss.Of(0, -1)} {
			w, e := gauss.Power(z, n)
			isError(t, "beyond 24", w, e, api.ErrLong)
		}
	}
	for n := -24; n < 0; n++ {
		w, e := gauss.Power(gauss.Of(0, 0), n)
		isError(t, "over nought", w, e, api.ErrZero)
	}
	for _, wrong := range noNumbers() {
		for _, n := range append(far, -1, 0, 1, 24) {
			w, e := gauss.Power(wrong, n)
			isError(t, "of a wrong one", w, e, api.ErrArg)
		}
	}
}
