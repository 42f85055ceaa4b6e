package schur

import (
	"diapason/api"
	"diapason/exact"
)

// Backward is the chain that has this under, and that sign at the far end.
func Backward(under api.Poly, far int) (api.Chain, api.Errno) {
	read, ok := exact.ReadPoly(under)
	if !ok || !isSign(far) {
		return api.Chain{}, api.ErrArg
	}
	n := len(read) - 1
	if n < 1 || read[0].Sign() != 0 || read[n].Cmp(whole(far)) != 0 {
		return api.Chain{}, api.ErrSchur
	}
	// It goes by whole numbers, times whatever number: two coefficients over one another tell a reflection.
	k, ok := peel(read.Scale(exact.Whole(read.Denominator()))[1:], whole(far))
	if !ok {
		return api.Chain{}, api.ErrSchur
	}
	return api.Chain{K: k, Far: far}, api.OK
}

// peel tells the reflections, and whether all of them may be. It is handed under over x, times a number: its last coefficient is far's, its first one that of the first reflection, and turned round it is over, times far.
//
// As under over x is k over + u, and over is over without k, and k u, the former less k times the latter is (1 - k k) u: what is left is the row behind the reflection. Since none of more than MaxBytes bytes is taken off, the numbers grow by no more than that at each.
func peel(left exact.Poly, far exact.Number) (k []api.Frac, ok bool) {
peel:
	for len(left) > 1 {
		last := len(left) - 1
		part := left[0].Quo(left[last])
		reflection, fits := part.Mul(far).Frac()
		switch {
		case !fits || !isReflection(part):
			break peel
		case part.Sign() == 0:
			k, left = append(k, reflection), left[1:]
			continue peel
		}
		k = append(k, reflection)
		left = behind(left, part)
	}
	if len(left) > 1 {
		return nil, false
	}
	return k, true
}

// behind is the polynomial less part times itself turned round, over x, times part's denominator.
func behind(left exact.Poly, part exact.Number) exact.Poly {
	below := exact.Whole(part.Den())
	above := part.Mul(below)
	last := len(left) - 1
	made := make(exact.Poly, last)
	for i := range made {
		made[i] = left[i+1].Mul(below).Sub(left[last-1-i].Mul(above))
	}
	return made
}
