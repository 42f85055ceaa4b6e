package disc

import (
	"diapason/api"
	"diapason/exact"
)

// Abs is how far from nought the disc's numbers are.
func Abs(a api.Disc) (api.Span, api.Errno) {
	if !mayBe(a) {
		return api.Span{}, api.ErrArg
	}
	near, far := length(real(a.C), imag(a.C))
	high := sumUp(far, a.R)
	if !isFinite(high) {
		return api.Span{}, api.ErrInf
	}
	return api.Span{Lo: max(sumDown(near, -a.R), 0), Hi: high}, api.OK
}

// Has tells whether the disc has the number.
func Has(d api.Disc, z api.Gauss) (bool, api.Errno) {
	number, ok := exact.ReadComplex(z)
	if !ok || !mayBe(d) {
		return false, api.ErrArg
	}
	middle, r := worth(d)
	return isWithin(middle, number, r), api.OK
}

// In tells whether b has all numbers that a has: those are Ra farther from B than A is.
func In(a, b api.Disc) (bool, api.Errno) {
	if !mayBe(a, b) {
		return false, api.ErrArg
	}
	middleA, ra := worth(a)
	middleB, rb := worth(b)
	return isWithin(middleA, middleB, rb.Sub(ra)), api.OK
}

// worth is what middle and radius of a disc that may be are worth.
func worth(d api.Disc) (exact.Complex, exact.Number) {
	middle, _ := exact.FromComplex(d.C)
	r, _ := exact.FromFloat(d.R)
	return middle, r
}

// isWithin tells whether v and w are no farther from each other than r, which may be below 0.
func isWithin(v, w exact.Complex, r exact.Number) bool {
	return r.Sign() >= 0 && v.Sub(w).Norm().Cmp(r.Mul(r)) <= 0
}
