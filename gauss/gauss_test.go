package gauss_test

import (
	"math"
	"math/big"
	"math/rand"
	"testing"

	"diapason/api"
	"diapason/gauss"
)

// P2.1: which numbers may be.
func TestCheck(t *testing.T) {
	for _, z := range noNumbers() {
		if e := gauss.Check(z); e != api.ErrArg {
			t.Errorf("Check(%v) = %d", z, e)
		}
	}
	for _, z := range numbers() {
		if e := gauss.Check(z.number()); e != api.OK {
			t.Errorf("Check of %s = %d", z.name(), e)
		}
	}
}

// P2.1: numbers of whole parts, at both ends of int64 too.
func TestOf(t *testing.T) {
	ends := []int64{0, 1, -1, 2, -7, 255, 256, -65536, math.MaxInt64, -math.MaxInt64, math.MinInt64, math.MinInt64 + 2}
	for _, re := range ends {
		for _, im := range ends {
			want := pair{new(big.Rat).SetInt64(re), new(big.Rat).SetInt64(im)}
			isNumber(t, "Of", gauss.Of(re, im), api.OK, want)
		}
	}
}

// operation is one of those of two numbers, and what there should be.
type operation struct {
	name string
	ours func(x, y api.Gauss) (api.Gauss, api.Errno)
	want func(x, y pair) pair
}

func operations() []operation {
	return []operation{
		{"Add", gauss.Add, pair.add},
		{"Sub", gauss.Sub, pair.sub},
		{"Mul", gauss.Mul, pair.mul},
		{"Quo", gauss.Quo, pair.quo},
	}
}

// isRight asks for an operation of two numbers.
func isRight(t *testing.T, o operation, x, y pair) {
	t.Helper()
	z, e := o.ours(x.number(), y.number())
	what := o.name + " of " + x.name() + " and " + y.name()
	if o.name == "Quo" && y.isNought() {
		isError(t, what, z, e, api.ErrZero)
		return
	}
	isNumber(t, what, z, e, o.want(x, y))
}

// P2.2: what comes of each pair, ErrZero and ErrLong among it.
func TestReckoning(t *testing.T) {
	list := numbers()
	for i, x := range list {
		for j, y := range list {
			if (i+j)%7 > 0 {
				continue
			}
			for _, o := range operations() {
				isRight(t, o, x, y)
			}
		}
	}
	r := rand.New(rand.NewSource(1))
	for i := range 1500 {
		bytes := []int{1, 2, 9, 20, 120, 250}[i%6]
		x, y := anyPair(r, bytes), anyPair(r, bytes)
		for _, o := range operations() {
			isRight(t, o, x, y)
		}
	}
}

// P2.2, R7: answers of just MaxBytes bytes, and of one more, in either part; what lies between has no limit.
func TestAnswersAtTheBound(t *testing.T) {
	greatest, high := power2(4096, -1), power2(4095, 0)
	nought, half := rat("0"), rat("1/2")
	small := new(big.Rat).Inv(greatest)
	cases := []struct {
		o    int
		x, y pair
		long bool
	}{
		{0, pair{power2(4096, -2), nought}, at("1", "0"), false},
		{0, pair{greatest, nought}, at("1", "0"), true},
		{0, pair{nought, greatest}, at("0", "1"), true},
		{0, pair{nought, greatest}, at("1", "0"), false},
		{1, pair{nought, greatest}, at("0", "-1"), true},
		{1, pair{greatest, greatest}, pair{greatest, greatest}, false},
		{2, pair{power2(4094, 0), nought}, at("1", "1"), false},
		{2, pair{high, high}, at("1", "1"), true},
		{2, pair{high, nought}, at("1", "1"), false},
		{2, pair{greatest, high}, pair{small, nought}, false},
		{2, pair{greatest, greatest}, pair{small, new(big.Rat).Neg(small)}, false},
		{2, pair{greatest, nought}, pair{nought, greatest}, true},
		{3, pair{greatest, greatest}, pair{greatest, greatest}, false},
		{3, pair{greatest, greatest}, pair{greatest, new(big.Rat).Neg(greatest)}, false},
		{3, one(), pair{nought, greatest}, false},
		{3, one(), pair{greatest, greatest}, true},
		{3, one(), pair{high, high}, true},
		{3, one(), pair{power2(4094, 0), power2(4094, 0)}, false},
		{3, pair{nought, high}, pair{half, nought}, true},
		{3, pair{small, small}, pair{small, small}, false},
	}
	for i, c := range cases {
		o := operations()[c.o]
		want := o.want(c.x, c.y)
		if isLong(want.re, want.im) != c.long {
			t.Fatalf("case %d is not what it says", i)
		}
		isRight(t, o, c.x, c.y)
	}
}

// P2.2, R2: ErrArg ahead of ErrZero and of ErrLong, whichever is the wrong one.
func TestWrongArguments(t *testing.T) {
	good := []api.Gauss{gauss.Of(0, 0), gauss.Of(2, -1), pair{power2(4096, -1), power2(4096, -1)}.number()}
	for _, o := range operations() {
		for _, wrong := range noNumbers() {
			for _, x := range append(good, wrong) {
				z, e := o.ours(wrong, x)
				isError(t, o.name+" of a wrong first one", z, e, api.ErrArg)
				z, e = o.ours(x, wrong)
				isError(t, o.name+" of a wrong second one", z, e, api.ErrArg)
			}
		}
	}
}

// P2.3: mirror images, and norms with their bound.
func TestConjAndNorm(t *testing.T) {
	list := numbers()
	r := rand.New(rand.NewSource(2))
	for i := range 600 {
		list = append(list, anyPair(r, []int{1, 9, 60, 130, 256}[i%5]))
	}
	for _, z := range list {
		w, e := gauss.Conj(z.number())
		isNumber(t, "Conj of "+z.name(), w, e, z.conj())
		isNorm(t, z)
	}
	half := power2(2047, 0)
	isNorm(t, pair{half, half})
	isNorm(t, pair{power2(2048, -1), rat("0")})
	isNorm(t, pair{power2(2048, 0), rat("0")})
	isNorm(t, pair{rat("0"), new(big.Rat).Inv(power2(2048, 0))})
	for _, wrong := range noNumbers() {
		z, e := gauss.Conj(wrong)
		isError(t, "Conj", z, e, api.ErrArg)
		if n, e := gauss.Norm(wrong); e != api.ErrArg || n != (api.Frac{}) {
			t.Errorf("Norm(%v) = %v, %d", wrong, n, e)
		}
	}
}

// isNorm asks for a norm.
func isNorm(t *testing.T, z pair) {
	t.Helper()
	n, e := gauss.Norm(z.number())
	want, wantE := frac(z.norm()), api.OK
	if isLong(z.norm()) {
		want, wantE = api.Frac{}, api.ErrLong
	}
	if n != want || e != wantE {
		t.Errorf("Norm of %s = %v, %d", z.name(), n, e)
	}
}
