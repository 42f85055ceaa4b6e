package ratio

import (
	"diapason/exact"
	"diapason/nat"
)

// simplest is the simplest number between x and y; x is below y.
func simplest(x, y exact.Number) exact.Number {
	switch {
	case x.Sign() < 0 && y.Sign() > 0:
		return exact.Of(false, nil, nat.Of(1))
	case x.Sign() < 0:
		num, den := simplestAbove(y.Neg(), x.Neg())
		return exact.Of(true, num, den)
	}
	num, den := simplestAbove(x, y)
	return exact.Of(false, num, den)
}

// simplestAbove is simplest where x is not below 0. It goes through the continued fraction that both ends share.
func simplestAbove(x, y exact.Number) (num, den nat.Nat) {
	one := nat.Of(1)
	a, b := x.Num(), x.Den()
	c, d := y.Num(), y.Den()
	// The convergents so far: num / den, and ahead of it beforeNum / beforeDen.
	num, den = one, nil
	var beforeNum, beforeDen nat.Nat = nil, one
	for {
		whole, rest := a.QuoRem(b)
		above := whole.Add(one)
		found := above.Mul(d).Cmp(c) < 0
		if found {
			whole = above
		}
		num, beforeNum = whole.Mul(num).Add(beforeNum), num
		den, beforeDen = whole.Mul(den).Add(beforeDen), den
		if found {
			return num, den
		}
		// No whole number lies between: what is left of both, turned over, changes places. A rest of 0 makes the upper end infinite: d becomes 0.
		a, b, c, d = d, c.Sub(whole.Mul(d)), b, rest
	}
}
