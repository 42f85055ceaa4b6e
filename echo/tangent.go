package echo

import (
	"slices"

	"diapason/api"
	"diapason/exact"
	"diapason/gauss"
	"diapason/nat"
	"diapason/turn"
)

// tangent is the half tangent above over below, or, if below is nought, the point -1. Both are whole numbers, with whatever factors in common: to take those out at each step would be hundreds of times the work.
type tangent struct{ above, below exact.Number }

// tangentBack is the half tangent of what the chain throws back at the point of the half tangent t. As each step leads from the circle to the circle, all of them can be done with half tangents, which have one part alone.
func tangentBack(c api.Chain, t exact.Number) tangent {
	x := apart(t)
	s := tangentOf(c.Far).turned(x)
	for _, k := range slices.Backward(c.K) {
		reflection, _ := exact.Read(k)
		s = s.reflected(reflection).turned(x)
	}
	return s
}

// tangentOf is the half tangent of 1 or -1.
func tangentOf(sign int) tangent {
	nought, one := exact.Whole(nil), exact.Whole(nat.Of(1))
	if sign < 0 {
		return tangent{one, nought}
	}
	return tangent{nought, one}
}

// apart has both numbers of t.
func apart(t exact.Number) tangent {
	below := exact.Whole(t.Den())
	return tangent{t.Mul(below), below}
}

// turned is the half tangent of the product of both points.
func (s tangent) turned(t tangent) tangent {
	return tangent{
		s.above.Mul(t.below).Add(s.below.Mul(t.above)),
		s.below.Mul(t.below).Sub(s.above.Mul(t.above)),
	}
}

// reflected is the half tangent of (k + r) / (1 + k r), r being the point of s: s (1 - k) / (1 + k).
func (s tangent) reflected(k exact.Number) tangent {
	of := apart(k)
	return tangent{s.above.Mul(of.below.Sub(of.above)), s.below.Mul(of.below.Add(of.above))}
}

// point is the point of the circle, or ErrLong.
func (s tangent) point() (api.Gauss, api.Errno) {
	if s.below.Sign() == 0 {
		return gauss.Of(-1, 0), api.OK
	}
	t, ok := s.above.Quo(s.below).Frac()
	if !ok {
		// The point's numbers have the squares of these in them, and are longer.
		return api.Gauss{}, api.ErrLong
	}
	return turn.Unit(t)
}
