package exact

import (
	"diapason/nat"
	"diapason/residue"
)

// Gcd is the polynomial of the greatest degree that goes into both, with the highest coefficient 1; 0, if both are 0.
//
// The rests of Euclid's way may have numbers of a million bytes, whatever the answer has. So the factor is learnt from its images, one prime after the other. A prime that leaves the degrees of both as they are has an image of the factor's degree, but for some primes, whose image has a greater one: what has an image's degree and goes into both is the factor.
func (p Poly) Gcd(q Poly) Poly {
	switch {
	case len(p) == 0:
		return q.Monic()
	case len(q) == 0:
		return p.Monic()
	case p.seemsApart(q):
		return Poly{Whole(nat.Of(1))}
	}
	a, b := p.Primitive(), q.Primitive()
	// The primitive factor's highest coefficient goes into those of both, so that the factor that is looked for, so many times, has whole numbers alone.
	top := a[len(a)-1].num.Gcd(b[len(b)-1].num)
	var known guess
	for prime := residue.Greatest; ; prime = prime.Next() {
		image, ok := commonImage(prime, p, q)
		if !ok || !known.foresees(prime, prime.Scale(image, top.RestWord(uint64(prime)))) {
			continue
		}
		if g := known.poly.Primitive(); a.hasFactor(g) && b.hasFactor(g) {
			return g.Monic()
		}
	}
}

// seemsApart tells whether two polynomials that are not 0 have images without a common factor, those of the first prime that leaves both degrees as they are. If so, they have none, as the factor's degree is not above its image's; this is much sooner told than what the factor is.
func (p Poly) seemsApart(q Poly) bool {
	for prime := residue.Greatest; ; prime = prime.Next() {
		if image, ok := commonImage(prime, p, q); ok {
			return len(image) == 1
		}
	}
}

// Simple has p's complex roots, each just once; p is not 0.
func (p Poly) Simple() Poly {
	common := p.Gcd(p.Derive())
	if len(common) == 1 {
		return p
	}
	// A primitive factor of whole numbers leaves whole numbers.
	quo, _, _ := p.Primitive().QuoRem(common.Primitive(), Number.IsWhole)
	return quo
}

// Monic is the polynomial over its highest coefficient.
func (p Poly) Monic() Poly {
	if len(p) == 0 {
		return nil
	}
	top := p[len(p)-1]
	return p.each(func(_ int, c Number) Number { return c.Quo(top) })
}

// Primitive is the polynomial times that number above 0 which makes its coefficients whole ones without a common factor.
func (p Poly) Primitive() Poly {
	if len(p) == 0 {
		return nil
	}
	var common nat.Nat
	for _, c := range p {
		common = common.Gcd(c.num)
	}
	// What goes into all numerators goes into no denominator.
	return p.Scale(Number{false, p.Denominator(), common})
}

// hasFactor tells whether a primitive polynomial goes into one of whole numbers. The quotient would have whole numbers too, so that what is none of these settles it.
func (p Poly) hasFactor(factor Poly) bool {
	_, rest, ok := p.QuoRem(factor, Number.IsWhole)
	return ok && len(rest) == 0
}

// commonImage is the common factor of both images, and whether these have the degrees of p and q.
func commonImage(prime residue.Prime, p, q Poly) ([]uint64, bool) {
	f, fOk := p.image(prime)
	g, gOk := q.image(prime)
	if !fOk || !gOk {
		return nil, false
	}
	return prime.Gcd(f, g), true
}

// image has the residues of the coefficients, and tells whether it has the degree of p, which is not 0; there is none, if the prime goes into a denominator.
func (p Poly) image(prime residue.Prime) ([]uint64, bool) {
	image := make([]uint64, len(p))
	for i, c := range p {
		below := c.den.RestWord(uint64(prime))
		if below == 0 {
			return nil, false
		}
		above := c.num.RestWord(uint64(prime))
		if c.neg {
			above = prime.Sub(0, above)
		}
		image[i] = prime.Mul(above, prime.Inverse(below))
	}
	return image, image[len(image)-1] != 0
}

// guess is a polynomial of whole numbers, as far as the images of some primes tell it: of those with these images the one with the least numbers. Modulus is the product of the primes.
type guess struct {
	poly    Poly
	modulus nat.Nat
}

// foresees tells whether the guess has this prime's image already; if not, it learns from it.
func (g *guess) foresees(prime residue.Prime, image []uint64) bool {
	if len(g.poly) == 0 || len(image) < len(g.poly) {
		// What was learnt from images of a greater degree was nothing.
		*g = guess{make(Poly, len(image)), nat.Of(1)}
		for i := range g.poly {
			g.poly[i] = Whole(nil)
		}
	}
	if len(image) > len(g.poly) {
		return false
	}
	has := true
	had, _ := g.poly.image(prime)
	inverse := prime.Inverse(g.modulus.RestWord(uint64(prime)))
	for i, c := range image {
		if c == had[i] {
			continue
		}
		has = false
		times := prime.Mul(prime.Sub(c, had[i]), inverse)
		neg := times > uint64(prime)/2
		if neg {
			times = uint64(prime) - times
		}
		g.poly[i] = g.poly[i].Add(Number{neg, g.modulus.Mul(nat.Of(times)), nat.Of(1)})
	}
	g.modulus = g.modulus.Mul(nat.Of(uint64(prime)))
	return has
}
