package sturm

import (
	"diapason/api"
	"diapason/exact"
	"diapason/nat"
)

// place is where just one root is of a polynomial of whole numbers that has none twice: between lo and hi, neither of which it is; or, if they are the same, there.
type place struct {
	p      exact.Poly
	lo, hi exact.Number
	rises  int // the sign right of lo
}

// mirrored is the place of the root with its sign changed.
func (at place) mirrored() place {
	return place{mirrored(at.p), at.hi.Neg(), at.lo.Neg(), -at.rises}
}

// cmp is -1, 0 or 1, as the root is below x, is x, is above it.
func (at place) cmp(x exact.Number) int {
	switch {
	case at.lo.Cmp(at.hi) == 0:
		return at.lo.Cmp(x)
	case at.lo.Cmp(x) >= 0:
		return 1
	case at.hi.Cmp(x) <= 0:
		return -1
	}
	return signAt(at.p, x) * at.rises
}

// told is the root, told at so many bits.
func (at place) told(bits int) (api.Gap, api.Errno) {
	one, unit := exact.Whole(nat.Of(1)), exact.Whole(nat.Of(1).Shl(bits))
	half := one.Quo(exact.Whole(nat.Of(2)))
	lo, hi := at.lo.Mul(unit).Floor(), at.hi.Mul(unit).Neg().Floor().Neg()
	sign := signs(at.p, unit)
	for hi.Sub(lo).Cmp(one) > 0 {
		middle := lo.Add(hi).Mul(half).Floor()
		switch sign(middle) {
		case 0:
			lo, hi = middle, middle
		case at.rises:
			lo = middle
		default:
			hi = middle
		}
	}
	from, fromOk := lo.Quo(unit).Frac()
	to, toOk := hi.Quo(unit).Frac()
	if !fromOk || !toOk {
		return api.Gap{}, api.ErrLong
	}
	return api.Gap{Lo: from, Hi: to}, api.OK
}
