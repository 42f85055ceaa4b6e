package gauss

import (
	"diapason/api"
	"diapason/exact"
)

// maxPower is the greatest power that is asked for.
const maxPower = 24

// farBytes is more than a number of any power on the way to an answer has, so that what goes beyond it need not be gone on with. The common denominator of a power goes into that of each higher one, and that of an answer has 2 MaxBytes bytes at most; no power on the way is above both 1 and the last one, so that no numerator has much more than 3 MaxBytes.
const farBytes = 4 * api.MaxBytes

// Power is the product of n times z, or 1 over that of -n.
func Power(z api.Gauss, n int) (api.Gauss, api.Errno) {
	base, ok := exact.ReadComplex(z)
	switch {
	case !ok:
		return api.Gauss{}, api.ErrArg
	case n < -maxPower || n > maxPower:
		return api.Gauss{}, api.ErrLong
	case n < 0 && base.IsNought():
		return api.Gauss{}, api.ErrZero
	}
	one, _ := exact.ReadComplex(Of(1, 0))
	if n < 0 {
		base, n = one.Quo(base), -n
	}
	product := one
	for range n {
		product = product.Mul(base)
		if product.Size() > farBytes {
			return api.Gauss{}, api.ErrLong
		}
	}
	return answer(product)
}
