package turn_test

import (
	"math/big"
	"math/rand"
	"testing"

	"diapason/api"
	"diapason/turn"
)

// isUnit asks for the point of a half tangent, and, where that is answered, for the way back.
func isUnit(t *testing.T, x *big.Rat) {
	t.Helper()
	want := unit(x)
	z, e := turn.Unit(frac(x))
	isPoint(t, "Unit of "+name(x), z, e, want)
	if !want.isLong() {
		h, ok, e := turn.Half(want.number())
		isTangent(t, "Half of "+text(want.number()), h, ok, e, x)
	}
}

// P7.1: points of half tangents of all sizes, and back.
func TestUnit(t *testing.T) {
	for _, x := range tangents() {
		isUnit(t, x)
	}
	r := rand.New(rand.NewSource(1))
	for i := range 600 {
		isUnit(t, anyRat(r, []int{1, 2, 9, 60, 250, 256, 257}[i%7]))
	}
	for _, x := range noFractions() {
		if z, e := turn.Unit(x); z != (api.Gauss{}) || e != api.ErrArg {
			t.Errorf("Unit(%s) = %s, %d", shown(x), text(z), e)
		}
	}
}

// P7.1, R7: the point has numbers of just MaxBytes bytes, and of one more.
func TestUnitAtTheBound(t *testing.T) {
	odd := new(big.Int).Sqrt(power2(4097, -2).Num())
	if odd.Bit(0) == 0 {
		odd.Sub(odd, big.NewInt(1))
	}
	most := new(big.Rat).SetInt(odd)
	for _, c := range []struct {
		x    *big.Rat
		long bool
	}{
		{power2(2047, 0), false}, {power2(-2047, 0), false}, {power2(2048, -2), false}, {power2(2048, 0), true}, {power2(-2048, 0), true},
		{most, false}, {plus(most, rat("1")), true}, {plus(most, rat("2")), true}, {plus(most, rat("-1")), true}, {greatest(), true},
	} {
		if unit(c.x).isLong() != c.long {
			t.Fatalf("the point of %s is not what the case says", name(c.x))
		}
		isUnit(t, c.x)
	}
}

// P7.1: of -1 there is none; the points about it have one.
func TestHalfAtMinusOne(t *testing.T) {
	h, ok, e := turn.Half(at("-1", "0").number())
	isNoTangent(t, "Half(-1)", h, ok, e, api.OK)
	for _, x := range []*big.Rat{power2(2047, 0), power2(2047, -1), negated(power2(2046, 0)), rat("1000000"), rat("-1000000")} {
		h, ok, e := turn.Half(unit(x).number())
		isTangent(t, "Half beside -1", h, ok, e, x)
	}
}

// P7.1: what is no point of the circle, and what may not be.
func TestHalfOfNoPoints(t *testing.T) {
	little := power2(-4000, 0)
	wrong := []point{
		at("0", "0"), at("1", "1"), at("-1", "1"), at("-1", "-1/2"), at("2", "0"), at("-2", "0"), at("0", "-2"), at("1/2", "0"), at("1/2", "1/2"), at("3/5", "3/5"), at("3/5", "4/3"), at("4/3", "5/3"),
		{plus(rat("1"), little), rat("0")}, {rat("1"), little}, {rat("-1"), little}, {minus(little, rat("1")), rat("0")}, {rat("3/5"), plus(rat("4/5"), little)}, {rat("3/5"), minus(rat("4/5"), little)},
		{greatest(), rat("0")}, {rat("0"), greatest()}, {greatest(), negated(greatest())}, {new(big.Rat).Inv(greatest()), rat("1")},
	}
	var list []api.Gauss
	for _, z := range wrong {
		list = append(list, z.number())
	}
	for _, z := range append(list, noNumbers()...) {
		h, ok, e := turn.Half(z)
		isNoTangent(t, "Half of "+text(z), h, ok, e, api.ErrArg)
	}
}

// isSum asks for the half tangent of both points' product: false, if that is -1.
func isSum(t *testing.T, x, y *big.Rat) {
	t.Helper()
	what := "Sum of " + name(x) + " and " + name(y)
	h, ok, e := turn.Sum(frac(x), frac(y))
	below := minus(rat("1"), times(x, y))
	if below.Sign() == 0 {
		isNoTangent(t, what, h, ok, e, api.OK)
		return
	}
	isTangent(t, what, h, ok, e, over(plus(x, y), below))
}

// P7.2: sums of half tangents of all sizes, those that make -1 among them.
func TestSum(t *testing.T) {
	list := tangents()
	r := rand.New(rand.NewSource(2))
	for _, x := range list {
		for _, y := range []*big.Rat{x, negated(x), rat("0"), rat("1"), rat("-1"), rat("1/2"), greatest(), list[r.Intn(len(list))], list[r.Intn(len(list))]} {
			isSum(t, x, y)
			isSum(t, y, x)
		}
	}
	for i := range 600 {
		bytes := []int{1, 2, 9, 60, 250, 256, 257, 512}[i%8]
		x, y := anyRat(r, bytes), anyRat(r, bytes)
		isSum(t, x, y)
		isSum(t, x, negated(x))
		if x.Sign() != 0 {
			isSum(t, x, new(big.Rat).Inv(x))
			isSum(t, new(big.Rat).Inv(x), y)
		}
	}
}

// P7.2, R7: sums with numbers of just MaxBytes bytes, and of one more, above and below; small ones of great numbers.
func TestSumAtTheBound(t *testing.T) {
	top, nought, one := greatest(), rat("0"), rat("1")
	for _, c := range []struct {
		x, y *big.Rat
		long bool
	}{
		{top, nought, false}, {new(big.Rat).Inv(top), nought, false}, {top, one, false}, {top, rat("2"), true}, {power2(4096, -2), one, false}, {power2(4096, -3), one, false},
		{power2(4096, -2), rat("-1"), false}, {top, rat("-1"), false}, {top, negated(top), false}, {top, top, true}, {power2(2047, 0), power2(2047, 0), false},
		{power2(2048, 0), power2(2048, 0), false}, {power2(2048, 0), power2(2048, 1), true}, {power2(4095, 0), rat("1/2"), true}, {power2(4094, 0), rat("1/2"), false}, {top, over(rat("-1"), top), true},
	} {
		if isLong(over(plus(c.x, c.y), minus(one, times(c.x, c.y)))) != c.long {
			t.Fatalf("the sum of %s and %s is not what the case says", name(c.x), name(c.y))
		}
		isSum(t, c.x, c.y)
		isSum(t, negated(c.x), negated(c.y))
	}
	// With 1 over it a fraction of two numbers that are as long as may be makes -1.
	isSum(t, over(top, power2(4095, 0)), over(power2(4095, 0), top))
}

// P7.2: a fraction that may not be, on either side, or on both.
func TestSumOfWrongOnes(t *testing.T) {
	for _, x := range noFractions() {
		for _, good := range []api.Frac{frac(rat("0")), frac(rat("-3/2")), frac(greatest()), x} {
			h, ok, e := turn.Sum(x, good)
			isNoTangent(t, "Sum of a wrong one", h, ok, e, api.ErrArg)
			h, ok, e = turn.Sum(good, x)
			isNoTangent(t, "Sum with a wrong one", h, ok, e, api.ErrArg)
		}
	}
}
