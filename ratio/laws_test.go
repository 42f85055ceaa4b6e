package ratio_test

import (
	"math/rand"
	"testing"

	"diapason/api"
	"diapason/ratio"
)

// sure is an operation whose answer is none too long.
func sure(t *testing.T, what func(x, y api.Frac) (api.Frac, api.Errno)) func(x, y api.Frac) api.Frac {
	return func(x, y api.Frac) api.Frac {
		t.Helper()
		z, e := what(x, y)
		if e != api.OK || ratio.Check(z) != api.OK {
			t.Fatalf("of %v and %v: %v, %d", x, y, z, e)
		}
		return z
	}
}

// P1.7: sums and products.
func TestLawsOfReckoning(t *testing.T) {
	add, sub, mul, quo := sure(t, ratio.Add), sure(t, ratio.Sub), sure(t, ratio.Mul), sure(t, ratio.Quo)
	r := rand.New(rand.NewSource(10))
	for i := range 1500 {
		bytes := []int{1, 8, 12, 60}[i%4]
		x, y, z := frac(anyRat(r, bytes)), frac(anyRat(r, bytes)), frac(anyRat(r, bytes))
		for what, ok := range map[string]bool{
			"x + y = y + x":             add(x, y) == add(y, x),
			"(x + y) + z = x + (y + z)": add(add(x, y), z) == add(x, add(y, z)),
			"x y = y x":                 mul(x, y) == mul(y, x),
			"(x y) z = x (y z)":         mul(mul(x, y), z) == mul(x, mul(y, z)),
			"x (y + z) = x y + x z":     mul(x, add(y, z)) == add(mul(x, y), mul(x, z)),
			"(x + y) - y = x":           sub(add(x, y), y) == x,
			"x + 0 = x":                 add(x, of("0")) == x,
			"1 x = x":                   mul(of("1"), x) == x,
			"x - x = 0":                 sub(x, x) == of("0"),
			"0 x = 0":                   mul(of("0"), x) == of("0"),
			"x y / y = x":               ratio.Sign(y) == 0 || quo(mul(x, y), y) == x,
		} {
			if !ok {
				t.Errorf("not so of %v, %v, %v: %s", x, y, z, what)
			}
		}
	}
}

// P1.7: order goes by differences; the floor is near; texts come back.
func TestLawsOfOrder(t *testing.T) {
	sub := sure(t, ratio.Sub)
	cmp := func(x, y api.Frac) int {
		c, e := ratio.Cmp(x, y)
		if e != api.OK {
			t.Fatalf("Cmp: %d", e)
		}
		return c
	}
	r := rand.New(rand.NewSource(11))
	for i := range 1500 {
		bytes := []int{1, 8, 12, 200}[i%4]
		x, y := frac(anyRat(r, bytes)), frac(anyRat(r, bytes))
		if cmp(x, y) != ratio.Sign(sub(x, y)) || cmp(y, x) != -cmp(x, y) || cmp(x, x) != 0 {
			t.Errorf("order of %v and %v", x, y)
		}
		n, e := ratio.Floor(x)
		if e != api.OK || n.Den != "\x01" || cmp(n, x) > 0 || cmp(n, sub(x, of("1"))) <= 0 {
			t.Errorf("Floor(%v) = %v, %d", x, n, e)
		}
		s, e := ratio.Text(x)
		z, f := ratio.Parse(s)
		if e != api.OK || f != api.OK || z != x {
			t.Errorf("Parse of Text(%v) = %v, %d, %d", x, z, e, f)
		}
	}
}

// R6: an answer hangs on what is handed in alone, not on what was asked before.
func TestAnswersStay(t *testing.T) {
	x, y := of("355/113"), of("-22/7")
	first, _ := ratio.Add(x, y)
	for _, o := range operations() {
		o.ours(x, y)
		o.ours(first, x)
		o.ours(api.Frac{}, x)
	}
	if again, e := ratio.Add(x, y); e != api.OK || again != first || x != of("355/113") || y != of("-22/7") {
		t.Errorf("%v, %d; first %v", again, e, first)
	}
}
