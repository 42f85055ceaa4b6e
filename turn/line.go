package turn

import (
	"diapason/api"
	"diapason/exact"
)

// Line is the real and the imaginary part of (1 - i t)^n p(x), x being the point of t, as polynomials in t.
func Line(p api.Poly, n int) (re, im api.Poly, e api.Errno) {
	read, ok := exact.ReadPoly(p)
	if !ok || n < 0 || n > api.MaxDegree || len(read) > n+1 {
		return nil, nil, api.ErrArg
	}
	// It goes by whole numbers: sums of fractions would have to find out anew each time what the denominators share.
	below := exact.Whole(read.Denominator())
	first, second := along(read.Scale(below), n).AtI()
	re, reOk := first.PolyOver(below)
	im, imOk := second.PolyOver(below)
	if !reOk || !imOk {
		return nil, nil, api.ErrLong
	}
	return re, im, api.OK
}

// along is (1 - s)^n p((1 + s) / (1 - s)), as a polynomial in s; at s = i t that is what is asked for. The degree of p is not above n.
func along(p exact.Poly, n int) exact.Poly {
	ahead, back := exact.Poly{one(), one()}, exact.Poly{one(), one().Neg()}
	power := exact.Poly{one()}
	var sum exact.Poly
	for k := n; k >= 0; k-- {
		sum = sum.Mul(ahead)
		if k < len(p) {
			sum = sum.Add(power.Scale(p[k]))
		}
		power = power.Mul(back)
	}
	return sum
}
