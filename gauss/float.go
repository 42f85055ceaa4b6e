package gauss

import (
	"math"

	"diapason/api"
	"diapason/exact"
)

// Complex is the floats that are nearest to the parts.
func Complex(z api.Gauss) (complex128, api.Errno) {
	n, ok := exact.ReadComplex(z)
	if !ok {
		return 0, api.ErrArg
	}
	re, im := n.Re.Float(), n.Im.Float()
	if math.IsInf(re, 0) || math.IsInf(im, 0) {
		return 0, api.ErrInf
	}
	return complex(re, im), api.OK
}

// FromComplex is the number whose parts are worth what these floats are.
func FromComplex(z complex128) (api.Gauss, api.Errno) {
	n, ok := exact.FromComplex(z)
	if !ok {
		return api.Gauss{}, api.ErrInf
	}
	return answer(n)
}
