package sturm

import (
	"slices"

	"diapason/exact"
	"diapason/nat"
	"diapason/near"
)

// firstDigits is how many digits are tried first. Where they are too few, twice as many are; once there are enough, all is exact.
const firstDigits near.Digits = 64

// coefs are a polynomial's coefficients, the lowest first, with so many digits as are asked for.
type coefs []near.Number

// round gives those of a polynomial of whole numbers.
func round(p exact.Poly, d near.Digits) coefs {
	l := make(coefs, len(p))
	for i, c := range p {
		l[i] = whole(c, d)
	}
	return l
}

// whole is a whole number with so many digits.
func whole(x exact.Number, d near.Digits) near.Number { return d.Of(x.Sign() < 0, x.Num()) }

// small is a small number.
func small(n uint64, d near.Digits) near.Number { return d.Of(false, nat.Of(n)) }

// reversed is the last one first.
func (l coefs) reversed() coefs {
	r := slices.Clone(l)
	slices.Reverse(r)
	return r
}

// scale puts y x in x's place.
func (l coefs) scale(y near.Number, d near.Digits) {
	power := small(1, d)
	for i := range l {
		l[i] = d.Mul(l[i], power)
		power = d.Mul(power, y)
	}
}

// spread has at below x the value at x, times a power of below: so values at fractions are told by whole numbers.
func (l coefs) spread(below exact.Number, d near.Digits) coefs {
	r := l.reversed()
	r.scale(whole(below, d), d)
	return r.reversed()
}

// shift puts x + y in x's place.
func (l coefs) shift(y near.Number, d near.Digits) {
	for i := range l {
		for k := len(l) - 2; k >= i; k-- {
			l[k] = d.Add(l[k], d.Mul(y, l[k+1]))
		}
	}
}

// at is the value at x.
func (l coefs) at(x near.Number, d near.Digits) near.Number {
	value := l[len(l)-1]
	for i := len(l) - 2; i >= 0; i-- {
		value = d.Add(d.Mul(value, x), l[i])
	}
	return value
}

// signs tells the sign of the value of a polynomial of whole numbers at above / below; it goes on with as many digits as it needed last.
func signs(p exact.Poly, below exact.Number) func(above exact.Number) int {
	d := firstDigits
	l := round(p, d).spread(below, d)
	return func(above exact.Number) int {
		for {
			if sign, sure := l.at(whole(above, d), d).Sign(); sure {
				return sign
			}
			d *= 2
			l = round(p, d).spread(below, d)
		}
	}
}

// isRoot tells whether the value at x of a polynomial of whole numbers is 0.
func isRoot(p exact.Poly, x exact.Number) bool { return signAt(p, x) == 0 }

// signAt is the sign of the value at x of a polynomial of whole numbers.
func signAt(p exact.Poly, x exact.Number) int {
	below := exact.Whole(x.Den())
	return signs(p, below)(x.Mul(below))
}
