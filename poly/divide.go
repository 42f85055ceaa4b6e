package poly

import (
	"diapason/api"
	"diapason/exact"
)

// Divide is the quotient, and the rest, of a lower degree than q: p is quo q + rest.
func Divide(p, q api.Poly) (quo, rest api.Poly, e api.Errno) {
	above, aboveOk := exact.ReadPoly(p)
	below, belowOk := exact.ReadPoly(q)
	switch {
	case !aboveOk || !belowOk:
		return nil, nil, api.ErrArg
	case len(below) == 0:
		return nil, nil, api.ErrZero
	}
	// A coefficient of the quotient is one of the answer.
	n, left, ok := above.QuoRem(below, func(c exact.Number) bool { return c.Size() <= api.MaxBytes })
	if !ok {
		return nil, nil, api.ErrLong
	}
	if quo, e = answer(n); e != api.OK {
		return nil, nil, e
	}
	if rest, e = answer(left); e != api.OK {
		return nil, nil, e
	}
	return quo, rest, api.OK
}
