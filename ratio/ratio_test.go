package ratio_test

import (
	"math"
	"math/big"
	"math/rand"
	"testing"

	"diapason/api"
	"diapason/ratio"
)

// P1.1: which fractions may be.
func TestCheck(t *testing.T) {
	for _, x := range noFractions() {
		if e := ratio.Check(x); e != api.ErrArg {
			t.Errorf("Check(%v) = %d", x, e)
		}
	}
	for _, r := range fractions() {
		if e := ratio.Check(frac(r)); e != api.OK {
			t.Errorf("Check(%s) = %d", r.RatString(), e)
		}
	}
	r := rand.New(rand.NewSource(1))
	for range 500 {
		x := anyRat(r, api.MaxBytes)
		if e := ratio.Check(frac(x)); e != api.OK {
			t.Errorf("Check(%s) = %d", x.RatString(), e)
		}
	}
}

// P1.1: any fraction that has a common factor may not be.
func TestCheckOfCommonFactors(t *testing.T) {
	r := rand.New(rand.NewSource(2))
	for range 2000 {
		num, den, factor := anyInt(r, 40), anyInt(r, 40), anyInt(r, 20)
		den.Abs(den)
		if num.Sign() == 0 || den.Sign() == 0 || factor.CmpAbs(big.NewInt(1)) <= 0 {
			continue
		}
		num.Mul(num, factor)
		den.Mul(den, factor.Abs(factor))
		x := api.Frac{Neg: num.Sign() < 0, Num: string(num.Bytes()), Den: string(den.Bytes())}
		if e := ratio.Check(x); e != api.ErrArg {
			t.Errorf("Check(%s over %s) = %d", num, den, e)
		}
	}
}

// P1.1: fractions of whole numbers, at both ends of int64 too.
func TestOf(t *testing.T) {
	ends := []int64{0, 1, -1, 2, -2, 3, 4, 6, -7, 12, 255, 256, -256, 65536, math.MaxInt32, math.MinInt32, math.MaxInt64, math.MaxInt64 - 1, -math.MaxInt64, math.MinInt64, math.MinInt64 + 2}
	for _, num := range ends {
		for _, den := range ends {
			x, e := ratio.Of(num, den)
			if den == 0 {
				isError(t, "over 0", x, e, api.ErrZero)
				continue
			}
			isNumber(t, "Of", x, e, over(big.NewInt(num), big.NewInt(den)))
		}
	}
}

// operation is one of those of two fractions, and what the library has for it.
type operation struct {
	name string
	ours func(x, y api.Frac) (api.Frac, api.Errno)
	want func(z, x, y *big.Rat) *big.Rat
}

func operations() []operation {
	return []operation{
		{"Add", ratio.Add, (*big.Rat).Add},
		{"Sub", ratio.Sub, (*big.Rat).Sub},
		{"Mul", ratio.Mul, (*big.Rat).Mul},
		{"Quo", ratio.Quo, (*big.Rat).Quo},
	}
}

// isRight asks for an operation of two numbers.
func isRight(t *testing.T, o operation, x, y *big.Rat) {
	t.Helper()
	z, e := o.ours(frac(x), frac(y))
	what := o.name + "(" + x.RatString() + ", " + y.RatString() + ")"
	if o.name == "Quo" && y.Sign() == 0 {
		isError(t, what, z, e, api.ErrZero)
		return
	}
	isNumber(t, what, z, e, o.want(new(big.Rat), x, y))
}

// P1.2: what comes of each pair, ErrLong among it.
func TestReckoning(t *testing.T) {
	list := fractions()
	for _, o := range operations() {
		for _, x := range list {
			for _, y := range list {
				isRight(t, o, x, y)
			}
		}
	}
	r := rand.New(rand.NewSource(3))
	for i := range 4000 {
		bytes := []int{1, 2, 9, 20, 256, 300}[i%6]
		x, y := anyRat(r, bytes), anyRat(r, bytes)
		for _, o := range operations() {
			isRight(t, o, x, y)
		}
	}
}

// P1.2, R7: answers of just MaxBytes bytes, and of one more; what lies between has no limit.
func TestAnswersAtTheBound(t *testing.T) {
	greatest := power2(4096, -1)
	one, two := big.NewInt(1), big.NewInt(2)
	minus := func(n *big.Int) *big.Rat { return whole(new(big.Int).Neg(n)) }
	cases := []struct {
		o    int
		x, y *big.Rat
		long bool
	}{
		{0, whole(power2(4096, -2)), whole(one), false},
		{0, whole(greatest), whole(one), true},
		{0, whole(greatest), rat("0"), false},
		{0, whole(power2(4095, 0)), whole(power2(4095, 0)), true},
		{0, whole(power2(4095, 0)), whole(power2(4095, -1)), false},
		{0, minus(greatest), rat("-1"), true},
		{0, over(one, power2(2048, -1)), over(one, power2(2048, 0)), false},
		{0, over(one, power2(2048, 1)), over(one, power2(2048, 0)), true},
		{0, over(one, power2(4096, -1)), over(one, power2(4096, -2)), true},
		{1, minus(power2(4096, -2)), whole(one), false},
		{1, minus(greatest), whole(one), true},
		{1, over(greatest, power2(4095, 0)), over(greatest, power2(4095, 0)), false},
		{1, whole(greatest), over(one, two), true},
		{2, whole(power2(4094, 0)), whole(two), false},
		{2, whole(power2(4095, 0)), whole(two), true},
		{2, over(one, power2(4095, 0)), over(one, two), true},
		{2, over(one, power2(4094, 0)), over(one, two), false},
		{2, over(greatest, power2(4095, 0)), over(power2(4095, 0), greatest), false},
		{2, whole(power2(2048, -1)), whole(power2(2048, 1)), false},
		{2, whole(power2(2048, 0)), whole(power2(2048, 0)), true},
		{3, whole(power2(4095, 0)), over(one, two), true},
		{3, whole(power2(4094, 0)), over(one, two), false},
		{3, whole(one), over(one, greatest), false},
		{3, whole(greatest), minus(greatest), false},
		{3, rat("1/2"), whole(power2(4095, 0)), true},
	}
	for i, c := range cases {
		o := operations()[c.o]
		if isLong(o.want(new(big.Rat), c.x, c.y)) != c.long {
			t.Fatalf("case %d is not what it says", i)
		}
		isRight(t, o, c.x, c.y)
	}
}

// P1.2, R2: ErrArg ahead of ErrZero and of ErrLong, wherever the wrong one stands.
func TestWrongArguments(t *testing.T) {
	good := []api.Frac{of("0"), of("2/3"), of("-5"), frac(whole(power2(4096, -1)))}
	all := operations()
	all = append(all, operation{"Between", ratio.Between, nil})
	for _, o := range all {
		for _, wrong := range noFractions() {
			for _, x := range append(good, wrong) {
				z, e := o.ours(wrong, x)
				isError(t, o.name+" of a wrong first one", z, e, api.ErrArg)
				z, e = o.ours(x, wrong)
				isError(t, o.name+" of a wrong second one", z, e, api.ErrArg)
			}
		}
	}
}

// P1.3: order, and signs.
func TestOrder(t *testing.T) {
	list := fractions()
	r := rand.New(rand.NewSource(4))
	for range 60 {
		list = append(list, anyRat(r, 1), anyRat(r, 200))
	}
	for _, x := range list {
		if s := ratio.Sign(frac(x)); s != x.Sign() {
			t.Errorf("Sign(%s) = %d", x.RatString(), s)
		}
		for _, y := range list {
			if c, e := ratio.Cmp(frac(x), frac(y)); c != x.Cmp(y) || e != api.OK {
				t.Errorf("Cmp(%s, %s) = %d, %d", x.RatString(), y.RatString(), c, e)
			}
		}
	}
	for _, x := range noFractions() {
		if s := ratio.Sign(x); s != 0 {
			t.Errorf("Sign(%v) = %d", x, s)
		}
		for _, y := range []api.Frac{of("0"), of("-2/3"), x} {
			if c, e := ratio.Cmp(x, y); c != 0 || e != api.ErrArg {
				t.Errorf("Cmp(%v, %v) = %d, %d", x, y, c, e)
			}
			if c, e := ratio.Cmp(y, x); c != 0 || e != api.ErrArg {
				t.Errorf("Cmp(%v, %v) = %d, %d", y, x, c, e)
			}
		}
	}
}

// floor is what the library has for it: its Div goes down where what it divides by is above 0.
func floor(x *big.Rat) *big.Rat { return whole(new(big.Int).Div(x.Num(), x.Denom())) }

// P1.4: the whole number below.
func TestFloor(t *testing.T) {
	list := fractions()
	for num := range int64(41) {
		for den := range int64(7) {
			list = append(list, big.NewRat(num-20, den+1))
		}
	}
	r := rand.New(rand.NewSource(5))
	for range 500 {
		list = append(list, anyRat(r, 30), over(anyInt(r, 500), new(big.Int).Add(big.NewInt(300), anyInt(r, 1))))
	}
	for _, x := range list {
		n, e := ratio.Floor(frac(x))
		isNumber(t, "Floor("+x.RatString()+")", n, e, floor(x))
	}
	for _, x := range noFractions() {
		n, e := ratio.Floor(x)
		isError(t, "Floor", n, e, api.ErrArg)
	}
}

// P1.4: numbers of an int64.
func TestInt64(t *testing.T) {
	list := fractions()
	for _, more := range []int64{-2, -1, 0, 1, 2} {
		for _, bits := range []uint{8, 31, 32, 62, 63, 64, 65, 127, 128} {
			n := power2(bits, more)
			list = append(list, whole(n), whole(new(big.Int).Neg(n)))
		}
	}
	for _, x := range list {
		n, ok := ratio.Int64(frac(x))
		if !x.IsInt() || !x.Num().IsInt64() {
			if n != 0 || ok {
				t.Errorf("Int64(%s) = %d, %v", x.RatString(), n, ok)
			}
		} else if n != x.Num().Int64() || !ok {
			t.Errorf("Int64(%s) = %d, %v", x.RatString(), n, ok)
		}
	}
	for _, x := range noFractions() {
		if n, ok := ratio.Int64(x); n != 0 || ok {
			t.Errorf("Int64(%v) = %d, %v", x, n, ok)
		}
	}
}
