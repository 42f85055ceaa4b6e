package near

import (
	"math/big"
	"math/rand"
	"testing"

	"diapason/nat"
)

// scaled is n 2^exp.
func scaled(n *big.Int, exp int) *big.Rat {
	x := new(big.Rat).SetInt(n)
	two := new(big.Rat).SetInt(new(big.Int).Lsh(big.NewInt(1), uint(max(exp, -exp))))
	if exp < 0 {
		return x.Quo(x, two)
	}
	return x.Mul(x, two)
}

// ends are the least and the greatest number that x stands for.
func ends(x Number) (lo, hi *big.Rat) {
	middle := new(big.Int).SetBytes([]byte(x.abs.Bytes()))
	if x.neg {
		middle.Neg(middle)
	}
	off := new(big.Int).SetUint64(x.off)
	return scaled(new(big.Int).Sub(middle, off), x.exp), scaled(new(big.Int).Add(middle, off), x.exp)
}

// has holds a number against one that it must stand for, and keeps it to its digits.
func has(t *testing.T, what string, d Digits, x Number, want *big.Rat) {
	t.Helper()
	lo, hi := ends(x)
	if lo.Cmp(want) > 0 || hi.Cmp(want) < 0 {
		t.Fatalf("%s with %d digits: from %s to %s, without %s", what, d, lo.RatString(), hi.RatString(), want.RatString())
	}
	if x.abs.Bits() > int(d) || x.off>>offBits > 1 {
		t.Fatalf("%s with %d digits: %d, off %d", what, d, x.abs.Bits(), x.off)
	}
}

// anyOf makes a number, and one of those that it stands for: whole ones at first, and what was reckoned of them.
func anyOf(r *rand.Rand, d Digits, deep int) (Number, *big.Rat) {
	if deep == 0 {
		n := new(big.Int).Rand(r, new(big.Int).Lsh(big.NewInt(1), uint(1+r.Intn(200))))
		n.Lsh(n, uint(r.Intn(3)*r.Intn(80)))
		neg := n.Sign() > 0 && r.Intn(2) == 0
		want := new(big.Rat).SetInt(n)
		if neg {
			want.Neg(want)
		}
		return d.Of(neg, nat.FromBytes(string(n.Bytes()))), want
	}
	x, a := anyOf(r, d, deep-1)
	y, b := anyOf(r, d, deep-1)
	switch _, sure := y.Sign(); r.Intn(5) {
	case 0:
		return d.Add(x, y), a.Add(a, b)
	case 1:
		return d.Sub(x, y), a.Sub(a, b)
	case 2:
		return x.Half().Half(), a.Mul(a, big.NewRat(1, 4))
	case 3:
		if sure && b.Sign() != 0 {
			return d.Quo(x, y), a.Quo(a, b)
		}
	}
	return d.Mul(x, y), a.Mul(a, b)
}

// Whatever is reckoned stands for the exact result, has its sign, where it is sure of one, and is not beyond its size.
func TestAgainstTheLibrary(t *testing.T) {
	r := rand.New(rand.NewSource(1))
	sure := 0
	for i := range 40000 {
		d := Digits([]int{8, 33, 64, 100, 128, 1000}[i%6])
		x, want := anyOf(r, d, i%5)
		has(t, "number", d, x, want)
		sign, ok := x.Sign()
		if ok {
			sure++
			if sign != want.Sign() {
				t.Fatalf("Sign of %s = %d", want.RatString(), sign)
			}
		} else if sign != 0 {
			t.Fatalf("Sign of %s = %d, and not sure", want.RatString(), sign)
		}
		top := scaled(big.NewInt(1), max(x.Size(), -1<<16))
		if lo, hi := ends(x); lo.Abs(lo).Cmp(top) >= 0 && !x.isNought() || hi.Abs(hi).Cmp(top) >= 0 && !x.isNought() {
			t.Fatalf("Size of %s = %d", want.RatString(), x.Size())
		}
	}
	if sure < 30000 {
		t.Errorf("%d signs are sure", sure)
	}
}

// anyNumber makes a number with an error of any size that may be.
func anyNumber(r *rand.Rand, d Digits) Number {
	n := new(big.Int).Rand(r, new(big.Int).Lsh(big.NewInt(1), uint(1+r.Intn(int(d)))))
	return Number{r.Intn(2) == 0, nat.FromBytes(string(n.Bytes())), r.Uint64() >> (64 - offBits + r.Intn(offBits+1)), r.Intn(80) - 40}
}

// What is reckoned stands for all that may come of what two numbers stand for: it is held against what comes of their ends.
func TestEnds(t *testing.T) {
	r := rand.New(rand.NewSource(3))
	for i := range 60000 {
		d := Digits([]int{2, 8, 33, 64, 100}[i%5])
		x, y := anyNumber(r, d), anyNumber(r, d)
		if i%7 == 0 && d > offBits+1 {
			y.abs = nat.Of(y.off + 1)
		}
		sign, _ := y.Sign()
		xLo, xHi := ends(x)
		yLo, yHi := ends(y)
		for _, a := range []*big.Rat{xLo, xHi} {
			for _, b := range []*big.Rat{yLo, yHi} {
				has(t, "sum", d, d.Add(x, y), new(big.Rat).Add(a, b))
				has(t, "difference", d, d.Sub(x, y), new(big.Rat).Sub(a, b))
				has(t, "product", d, d.Mul(x, y), new(big.Rat).Mul(a, b))
				if sign != 0 {
					has(t, "quotient", d, d.Quo(x, y), new(big.Rat).Quo(a, b))
				}
			}
		}
	}
}

// A number that may be nought has no sure sign, even if it may be nought at one end alone.
func TestSign(t *testing.T) {
	for _, c := range []struct {
		x    Number
		sign int
		sure bool
	}{
		{Number{}, 0, true}, {Number{exp: 7}, 0, true}, {Number{neg: true}, 0, true}, {Number{off: 1}, 0, false},
		{Number{abs: nat.Of(5), off: 5}, 0, false}, {Number{neg: true, abs: nat.Of(5), off: 5}, 0, false}, {Number{abs: nat.Of(5), off: 6}, 0, false},
		{Number{abs: nat.Of(5), off: 4, exp: -9}, 1, true}, {Number{neg: true, abs: nat.Of(5), off: 4}, -1, true}, {Number{abs: nat.Of(1)}, 1, true}, {Number{neg: true, abs: nat.Of(1).Shl(99), off: 1 << 32}, -1, true},
	} {
		if sign, sure := c.x.Sign(); sign != c.sign || sure != c.sure {
			t.Errorf("Sign of %v = %d, %v", c.x, sign, sure)
		}
	}
}

// With digits enough sums and products are exact, nought too; with fewer a difference may be anything.
func TestDigits(t *testing.T) {
	r := rand.New(rand.NewSource(2))
	for range 3000 {
		a := nat.Of(r.Uint64()).Mul(nat.Of(r.Uint64() | 1))
		b := nat.Of(r.Uint64() | 1)
		enough, few := Digits(200), Digits(64)
		zero := func(d Digits) Number {
			x, y := d.Of(false, a), d.Of(true, b)
			left := d.Mul(d.Add(x, y), d.Add(x, y))
			right := d.Add(d.Add(d.Mul(x, x), d.Mul(y, y)), d.Mul(d.Mul(x, y), d.Of(false, nat.Of(2))))
			return d.Sub(left, right)
		}
		if sign, sure := zero(2 * enough).Sign(); sign != 0 || !sure || !zero(2*enough).isNought() {
			t.Fatalf("of %v and %v: %d, %v", a, b, sign, sure)
		}
		if sign, sure := zero(few).Sign(); sign != 0 || sure && a.Bits() > 64 {
			t.Fatalf("of %v and %v with few digits: %d, %v", a, b, sign, sure)
		}
	}
	two := nat.Of(1).Shl(5000)
	if x := Digits(8).Of(true, two); x.off != 0 || x.Size() < 5001 || x.Size() > 5003 {
		t.Errorf("2^5000 with 8 digits: %v", x)
	}
	if x := (Number{}); x.Size() > -1<<29 || !x.isNought() {
		t.Errorf("nought: %d", x.Size())
	}
}

func TestFloor(t *testing.T) {
	d := Digits(64)
	for _, c := range []struct {
		neg  bool
		n    uint64
		half int
		at   int
		want uint64
	}{{false, 5, 1, 0, 2}, {false, 5, 1, 1, 5}, {false, 5, 0, 3, 40}, {false, 5, 3, 0, 0}, {false, 40, 0, -3, 5}, {false, 47, 0, -3, 5}, {true, 5, 1, 0, 0}, {false, 0, 0, 9, 0}} {
		x := d.Of(c.neg, nat.Of(c.n))
		for range c.half {
			x = x.Half()
		}
		if got, _ := x.Floor(c.at).Word(); got != c.want {
			t.Errorf("%v: %d", c, got)
		}
	}
}
