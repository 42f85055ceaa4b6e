package exact

import (
	"math/big"
	"math/rand"
	"strings"
	"testing"

	"diapason/api"
	"diapason/nat"
)

// ours is the number of one of the library's.
func ours(r *big.Rat) Number {
	num := nat.FromBytes(string(r.Num().Bytes()))
	return Of(r.Sign() < 0, num, nat.FromBytes(string(r.Denom().Bytes())))
}

// isNumber holds a number against the library's, its form too.
func isNumber(t *testing.T, what string, x Number, want *big.Rat) {
	t.Helper()
	num := new(big.Int).Abs(want.Num())
	if x.neg != (want.Sign() < 0) || x.Num().Bytes() != string(num.Bytes()) || x.Den().Bytes() != string(want.Denom().Bytes()) {
		t.Fatalf("%s: %v, not %s", what, x, want.RatString())
	}
}

// anyRat makes numbers with at most so many bytes above and below.
func anyRat(r *rand.Rand, bytes int) *big.Rat {
	top := new(big.Int).Lsh(big.NewInt(1), uint(8*(1+r.Intn(bytes))))
	num, den := new(big.Int).Rand(r, top), new(big.Int).Rand(r, top)
	if r.Intn(2) == 0 {
		num.Neg(num)
	}
	return new(big.Rat).SetFrac(num, den.Add(den, big.NewInt(1)))
}

func TestAgainstTheLibrary(t *testing.T) {
	r := rand.New(rand.NewSource(1))
	for i := range 20000 {
		bytes := 1 + i%20
		if i%200 == 0 {
			bytes = 2000
		}
		a, b := anyRat(r, bytes), anyRat(r, bytes)
		if i%10 == 0 {
			b = new(big.Rat).Neg(a)
		}
		x, y := ours(a), ours(b)
		isNumber(t, "Of", x, a)
		isNumber(t, "Add", x.Add(y), new(big.Rat).Add(a, b))
		isNumber(t, "Sub", x.Sub(y), new(big.Rat).Sub(a, b))
		isNumber(t, "Mul", x.Mul(y), new(big.Rat).Mul(a, b))
		isNumber(t, "Neg", x.Neg(), new(big.Rat).Neg(a))
		isNumber(t, "Abs", x.Abs(), new(big.Rat).Abs(a))
		if b.Sign() != 0 {
			isNumber(t, "Quo", x.Quo(y), new(big.Rat).Quo(a, b))
		}
		floor := new(big.Int).Div(a.Num(), a.Denom())
		isNumber(t, "Floor", x.Floor(), new(big.Rat).SetInt(floor))
		if x.Cmp(y) != a.Cmp(b) || x.Cmp(x) != 0 || x.Sign() != a.Sign() || x.IsWhole() != a.IsInt() {
			t.Fatalf("Cmp, Sign or IsWhole of %s and %s", a, b)
		}
	}
}

// isNone tells whether this is the zero value.
func isNone(x Number) bool { return !x.neg && x.num == nil && x.den == nil }

func TestNoNumbers(t *testing.T) {
	one := nat.Of(1)
	if !isNone(Of(true, one, nil)) || !isNone(Of(false, one, one).Quo(Of(false, nil, one))) {
		t.Error("over 0")
	}
	isNumber(t, "nought with a sign", Of(true, nil, nat.Of(7)), new(big.Rat))
	for _, x := range []api.Frac{{}, {Num: "\x01"}, {Den: "\x02"}, {Neg: true, Den: "\x01"}, {Num: "\x00\x01", Den: "\x01"}, {Num: "\x01", Den: "\x00\x01"}, {Num: "\x04", Den: "\x06"}, {Num: strings.Repeat("\x01", 513), Den: "\x01"}} {
		if n, ok := Read(x); ok || !isNone(n) {
			t.Errorf("Read(%v) = %v, %v", x, n, ok)
		}
	}
}

// A fraction's numbers may have MaxBytes bytes, not more; numbers here may.
func TestFractions(t *testing.T) {
	most := strings.Repeat("\xff", api.MaxBytes)
	for _, x := range []api.Frac{{Den: "\x01"}, {Num: "\x03", Den: "\x04"}, {Neg: true, Num: most, Den: "\x01"}, {Num: "\x01", Den: most}} {
		n, ok := Read(x)
		if y, fits := n.Frac(); !ok || !fits || y != x {
			t.Errorf("Read(%v): %v, %v, %v", x, y, ok, fits)
		}
	}
	one := nat.Of(1)
	long := nat.FromBytes(most).Add(one)
	for _, n := range []Number{Of(false, long, one), Of(true, one, long)} {
		if y, fits := n.Frac(); fits || y != (api.Frac{}) {
			t.Errorf("Frac of a long one: %v", y)
		}
	}
}
