package schur

import "diapason/exact"

// polys are both polynomials of a chain, each times the same number, so that they have whole numbers alone: sums of fractions would have to find out anew each time what the denominators share.
type polys struct {
	under, over exact.Poly
	below       exact.Number
}

// polys goes from the far end on.
func (c chain) polys() polys {
	one := whole(1)
	step := exact.Poly{whole(0), one}
	p := polys{step.Scale(c.far), exact.Poly{one}, one}
	for i := len(c.k) - 1; i >= 0; i-- {
		below := exact.Whole(c.k[i].Den())
		above := c.k[i].Mul(below)
		p = polys{
			step.Mul(p.over.Scale(above).Add(p.under.Scale(below))),
			p.over.Scale(below).Add(p.under.Scale(above)),
			p.below.Mul(below),
		}
	}
	return p
}
