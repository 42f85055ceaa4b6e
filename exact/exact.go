// Package exact reckons with fractions of any size: what lies between a question and its answer is done here, and the answer alone is held against its bound.
package exact

import (
	"diapason/api"
	"diapason/nat"
)

// Number is a fraction in lowest terms; nought is 0 over 1, without a sign. The zero value is no number.
type Number struct {
	neg      bool
	num, den nat.Nat
}

// Of is num over den, with that sign; the zero value, if den is 0.
func Of(neg bool, num, den nat.Nat) Number {
	if len(den) == 0 {
		return Number{}
	}
	common := num.Gcd(den)
	num = num.Quo(common)
	return Number{neg && len(num) > 0, num, den.Quo(common)}
}

// Whole is the whole number n.
func Whole(n nat.Nat) Number { return Number{num: n, den: nat.Of(1)} }

// Read is the number of a fraction, and whether that may be.
func Read(x api.Frac) (Number, bool) {
	if !mayBeBytes(x.Num) || !mayBeBytes(x.Den) || x.Den == "" || x.Neg && x.Num == "" {
		return Number{}, false
	}
	num, den := nat.FromBytes(x.Num), nat.FromBytes(x.Den)
	if !num.Gcd(den).IsOne() {
		return Number{}, false
	}
	return Number{x.Neg, num, den}, true
}

// mayBeBytes tells whether a fraction's number may have these bytes.
func mayBeBytes(s string) bool {
	return len(s) <= api.MaxBytes && (s == "" || s[0] != 0)
}

// Frac is the number as a fraction, and true, if that has not too many bytes.
func (x Number) Frac() (api.Frac, bool) {
	if x.Size() > api.MaxBytes {
		return api.Frac{}, false
	}
	return api.Frac{Neg: x.neg, Num: x.num.Bytes(), Den: x.den.Bytes()}, true
}

// Size is how many bytes the longer one of the two numbers has.
func (x Number) Size() int { return max(x.num.Size(), x.den.Size()) }

// Num is the numerator without its sign.
func (x Number) Num() nat.Nat { return x.num }

// Den is the denominator.
func (x Number) Den() nat.Nat { return x.den }

// Sign is -1, 0 or 1, as the number is below 0, nought, above.
func (x Number) Sign() int {
	switch {
	case x.neg:
		return -1
	case len(x.num) == 0:
		return 0
	}
	return 1
}

// IsWhole tells whether the number is a whole one.
func (x Number) IsWhole() bool { return x.den.IsOne() }

// Neg is 0 less the number.
func (x Number) Neg() Number {
	return Number{!x.neg && len(x.num) > 0, x.num, x.den}
}

// Abs is the number without its sign.
func (x Number) Abs() Number { return Number{false, x.num, x.den} }

// Add is the sum.
func (x Number) Add(y Number) Number {
	// What both denominators share is taken out first, so that the common factors that are left are small.
	shared := x.den.Gcd(y.den)
	left, right := x.den.Quo(shared), y.den.Quo(shared)
	neg, num := nat.Sum(x.neg, x.num.Mul(right), y.neg, y.num.Mul(left))
	common := num.Gcd(shared)
	return Number{neg, num.Quo(common), left.Mul(y.den.Quo(common))}
}

// Sub is the difference.
func (x Number) Sub(y Number) Number { return x.Add(y.Neg()) }

// Mul is the product.
func (x Number) Mul(y Number) Number {
	left, right := x.num.Gcd(y.den), y.num.Gcd(x.den)
	num := x.num.Quo(left).Mul(y.num.Quo(right))
	den := x.den.Quo(right).Mul(y.den.Quo(left))
	return Number{x.neg != y.neg && len(num) > 0, num, den}
}

// Quo is the quotient; the zero value, if y is nought.
func (x Number) Quo(y Number) Number {
	if len(y.num) == 0 {
		return Number{}
	}
	return x.Mul(Number{y.neg, y.den, y.num})
}

// Cmp is -1, 0 or 1, as x is below y, the same, above it.
func (x Number) Cmp(y Number) int {
	if x.neg != y.neg {
		if x.neg {
			return -1
		}
		return 1
	}
	far := x.num.Mul(y.den).Cmp(y.num.Mul(x.den))
	if x.neg {
		return -far
	}
	return far
}

// Floor is the greatest whole number that is not above x.
func (x Number) Floor() Number {
	one := nat.Of(1)
	whole, rest := x.num.QuoRem(x.den)
	if x.neg && len(rest) > 0 {
		whole = whole.Add(one)
	}
	return Number{x.neg, whole, one}
}
