package schur

import (
	"diapason/api"
	"diapason/exact"
	"diapason/near"
)

// firstDigits is how many digits are tried first. Where they are too few, twice as many are.
const firstDigits near.Digits = 64

// Inside tells whether all complex numbers at which p is 0 are farther than 1 from 0.
func Inside(p api.Poly) (bool, api.Errno) {
	read, ok := exact.ReadPoly(p)
	switch {
	case !ok:
		return false, api.ErrArg
	case len(read) == 0:
		return false, api.ErrZero
	case read[0].Sign() == 0:
		return false, api.OK
	}
	return isInside(read.Scale(exact.Whole(read.Denominator()))), api.OK
}

// isInside tells it of a polynomial of whole numbers, the first of which is not nought.
//
// Where p and p turned round share a root, so do they its inverse, and one of the two is no farther than 1. If they share none, digits enough settle it (see row.crossed); if they do, perhaps no number of digits does.
func isInside(p exact.Poly) bool {
	for d := firstDigits; ; d *= 2 {
		if inside, sure := look(p, d); sure {
			return inside
		}
		if d == firstDigits && len(p.Gcd(p.Turned(len(p)-1))) > 1 {
			return false
		}
	}
}

// row is a polynomial's coefficients, the lowest first, with so many digits as are asked for; the last one may be nought.
type row []near.Number

// look tells whether all roots are farther than 1, and whether so many digits are enough to say so.
//
// With k, the last coefficient over the first one, within -1 and 1, on the circle k times the polynomial turned round is nowhere as great as the polynomial: so taken from it, it leaves as many roots within the circle as there were, and a lower degree. With another k the product of the roots is no farther than 1.
func look(p exact.Poly, d near.Digits) (inside, sure bool) {
	left := make(row, len(p))
	for i, c := range p {
		// The first one is above nought.
		left[i] = d.Of((c.Sign() < 0) != (p[0].Sign() < 0), c.Num())
	}
peel:
	for len(left) > 1 {
		first, last := left[0], left[len(left)-1]
		above, aboveSure := d.Sub(first, last).Sign()
		below, belowSure := d.Add(first, last).Sign()
		sign, signSure := last.Sign()
		switch {
		case aboveSure && above <= 0 || belowSure && below <= 0:
			return false, true
		case !aboveSure || !belowSure:
			break peel
		case signSure && sign == 0:
			left = left[:len(left)-1]
			continue peel
		}
		k := d.Quo(last, first)
		next := make(row, len(left)-1)
		for i := range next {
			next[i] = d.Sub(left[i], d.Mul(k, left[len(left)-1-i]))
		}
		left = next
	}
	if len(left) > 1 {
		return false, left.crossed(d)
	}
	return true, true
}

// crossed tells whether a root is surely not farther than 1, of a row whose first coefficient is too near to the last one, or to that with its sign changed, to tell which is the farther one from 0.
//
// If all roots are farther than 1, the matrix of Schur and Cohn is positive definite, so that the square of its entry at 0 and i is below the product of the entries at 0 and 0, and at i and i. Where first and last are as far from 0 as one another, that at 0 and 0 is nought. So are all at 0 and i only if the row is itself turned round, or this with its signs changed: else digits enough show one that is not.
func (l row) crossed(d near.Digits) bool {
	last := len(l) - 1
	at := func(i, k int) near.Number {
		return d.Sub(d.Mul(l[i], l[k]), d.Mul(l[last-i], l[last-k]))
	}
	corner := at(0, 0)
	sum := corner
	for i := 1; i < last; i++ {
		sum = d.Add(sum, at(i, i))
		side := at(0, i)
		if sign, sure := d.Sub(d.Mul(side, side), d.Mul(corner, sum)).Sign(); sure && sign > 0 {
			return true
		}
	}
	return false
}
