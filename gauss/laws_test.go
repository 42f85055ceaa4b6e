package gauss_test

import (
	"math/rand"
	"testing"

	"diapason/api"
	"diapason/gauss"
	"diapason/ratio"
)

// law is an operation whose answer is none too long.
func law(t *testing.T, what func(x, y api.Gauss) (api.Gauss, api.Errno)) func(x, y api.Gauss) api.Gauss {
	return func(x, y api.Gauss) api.Gauss {
		t.Helper()
		z, e := what(x, y)
		return sure(t, z, e)
	}
}

// P2.6: sums and products.
func TestLawsOfReckoning(t *testing.T) {
	add, sub, mul, quo := law(t, gauss.Add), law(t, gauss.Sub), law(t, gauss.Mul), law(t, gauss.Quo)
	nought := gauss.Of(0, 0)
	r := rand.New(rand.NewSource(7))
	for i := range 1000 {
		bytes := []int{1, 8, 12, 30}[i%4]
		x, y, z := anyPair(r, bytes).number(), anyPair(r, bytes).number(), anyPair(r, bytes).number()
		for what, ok := range map[string]bool{
			"x + y = y + x":             add(x, y) == add(y, x),
			"(x + y) + z = x + (y + z)": add(add(x, y), z) == add(x, add(y, z)),
			"x y = y x":                 mul(x, y) == mul(y, x),
			"(x y) z = x (y z)":         mul(mul(x, y), z) == mul(x, mul(y, z)),
			"x (y + z) = x y + x z":     mul(x, add(y, z)) == add(mul(x, y), mul(x, z)),
			"(x + y) - y = x":           sub(add(x, y), y) == x,
			"x + 0 = x":                 add(x, nought) == x,
			"1 x = x":                   mul(gauss.Of(1, 0), x) == x,
			"x - x = 0":                 sub(x, x) == nought,
			"x y / y = x":               y == nought || quo(mul(x, y), y) == x,
		} {
			if !ok {
				t.Errorf("not so of %v, %v, %v: %s", x, y, z, what)
			}
		}
	}
}

// P2.6: norms go through products; a number times its mirror image is its norm.
func TestLawsOfNorms(t *testing.T) {
	mul := law(t, gauss.Mul)
	norm := func(z api.Gauss) api.Frac {
		n, e := gauss.Norm(z)
		if e != api.OK || ratio.Check(n) != api.OK || ratio.Sign(n) < 0 {
			t.Fatalf("Norm(%v) = %v, %d", z, n, e)
		}
		return n
	}
	r := rand.New(rand.NewSource(8))
	for i := range 1000 {
		bytes := []int{1, 8, 12, 30}[i%4]
		x, y := anyPair(r, bytes).number(), anyPair(r, bytes).number()
		product, e := ratio.Mul(norm(x), norm(y))
		if e != api.OK || norm(mul(x, y)) != product {
			t.Errorf("Norm of %v times %v", x, y)
		}
		image, e := gauss.Conj(x)
		image = sure(t, image, e)
		back, e := gauss.Conj(image)
		if sure(t, back, e) != x || mul(x, image) != (api.Gauss{Re: norm(x), Im: gauss.Of(0, 0).Re}) {
			t.Errorf("the mirror image of %v", x)
		}
	}
}

// P2.6: a power of m + n is the product of both.
func TestLawsOfPowers(t *testing.T) {
	r := rand.New(rand.NewSource(9))
	power := func(z api.Gauss, n int) api.Gauss {
		w, e := gauss.Power(z, n)
		return sure(t, w, e)
	}
	for range 400 {
		z := anyPair(r, 3).number()
		if z == gauss.Of(0, 0) {
			continue
		}
		m, n := r.Intn(25)-12, r.Intn(25)-12
		product, e := gauss.Mul(power(z, m), power(z, n))
		if sure(t, product, e) != power(z, m+n) {
			t.Errorf("Power(%v, %d and %d)", z, m, n)
		}
	}
}

// R6: an answer hangs on what is handed in alone, not on what was asked before.
func TestAnswersStay(t *testing.T) {
	x, y := at("355/113", "-2").number(), at("-22/7", "1/3").number()
	first := map[int]api.Gauss{}
	for i, o := range operations() {
		first[i], _ = o.ours(x, y)
	}
	gauss.Power(x, -7)
	gauss.Parse("1/2-3i")
	for i, o := range operations() {
		o.ours(api.Gauss{}, x)
		o.ours(first[i], y)
		if again, e := o.ours(x, y); e != api.OK || again != first[i] {
			t.Errorf("%s: %v, %d; first %v", o.name, again, e, first[i])
		}
	}
	if x != at("355/113", "-2").number() || y != at("-22/7", "1/3").number() {
		t.Error("what is handed in has changed")
	}
}
