package exact

import (
	"slices"

	"diapason/api"
	"diapason/nat"
)

// Poly is a polynomial whose coefficients are fractions of any size: the lowest first, the last one not nought; the polynomial 0 has none.
type Poly []Number

// ReadPoly is the polynomial of one whose coefficients are fractions, and whether that may be.
func ReadPoly(p api.Poly) (Poly, bool) {
	if len(p) > api.MaxDegree+1 {
		return nil, false
	}
	read := make(Poly, len(p))
	for i, x := range p {
		n, ok := Read(x)
		if !ok {
			return nil, false
		}
		read[i] = n
	}
	if len(read.trim()) < len(read) {
		return nil, false
	}
	return read, true
}

// Poly is the polynomial with fractions as its coefficients, and true, if these are not too many and have not too many bytes.
func (p Poly) Poly() (api.Poly, bool) {
	if len(p) > api.MaxDegree+1 {
		return nil, false
	}
	given := make(api.Poly, len(p))
	for i, x := range p {
		c, ok := x.Frac()
		if !ok {
			return nil, false
		}
		given[i] = c
	}
	return given, true
}

// PolyOver is the polynomial over x, which is not nought, with fractions as its coefficients, and true, if these are not too many and have not too many bytes. It leaves off at the first one that has, as great fractions take long to find.
func (p Poly) PolyOver(x Number) (api.Poly, bool) {
	if len(p) > api.MaxDegree+1 {
		return nil, false
	}
	given := make(api.Poly, len(p))
	for i, n := range p {
		c, ok := n.Quo(x).Frac()
		if !ok {
			return nil, false
		}
		given[i] = c
	}
	return given, true
}

// trim leaves the noughts at the end away.
func (p Poly) trim() Poly {
	n := len(p)
	for n > 0 && p[n-1].Sign() == 0 {
		n--
	}
	return p[:n]
}

// at is the coefficient at i, nought behind the end.
func (p Poly) at(i int) Number {
	if i < len(p) {
		return p[i]
	}
	return Whole(nil)
}

// Add is the sum.
func (p Poly) Add(q Poly) Poly {
	return pairs(func(x, y Number) Number { return x.Add(y) }, p, q)
}

// Sub is the difference.
func (p Poly) Sub(q Poly) Poly {
	return pairs(func(x, y Number) Number { return x.Sub(y) }, p, q)
}

// pairs does with both coefficients of each place what it is handed.
func pairs(what func(x, y Number) Number, p, q Poly) Poly {
	made := make(Poly, max(len(p), len(q)))
	for i := range made {
		made[i] = what(p.at(i), q.at(i))
	}
	return made.trim()
}

// Mul is the product.
func (p Poly) Mul(q Poly) Poly {
	if len(p) == 0 || len(q) == 0 {
		return nil
	}
	product := make(Poly, len(p)+len(q)-1)
	for i := range product {
		product[i] = Whole(nil)
		for k := max(0, i-len(q)+1); k <= min(i, len(p)-1); k++ {
			product[i] = product[i].Add(p[k].Mul(q[i-k]))
		}
	}
	return product
}

// Scale is each coefficient times x.
func (p Poly) Scale(x Number) Poly {
	return p.each(func(_ int, c Number) Number { return c.Mul(x) })
}

// Derive is the derivative.
func (p Poly) Derive() Poly {
	if len(p) == 0 {
		return nil
	}
	return p[1:].each(func(i int, c Number) Number { return c.Mul(Whole(nat.Of(uint64(i) + 1))) })
}

// each does with each coefficient what it is handed.
func (p Poly) each(what func(i int, c Number) Number) Poly {
	made := make(Poly, len(p))
	for i, c := range p {
		made[i] = what(i, c)
	}
	return made.trim()
}

// Turned is the polynomial whose coefficient at k is p's at n - k; n is not below the degree.
func (p Poly) Turned(n int) Poly {
	made := make(Poly, n+1)
	for k := range made {
		made[k] = p.at(n - k)
	}
	return made.trim()
}

// QuoRem is the quotient over q, which is not 0, and the rest, of a lower degree than q. It leaves off, with false, at a coefficient of the quotient that does not fit: those behind it may be far greater.
func (p Poly) QuoRem(q Poly, fits func(c Number) bool) (quo, rest Poly, ok bool) {
	quo = make(Poly, max(0, len(p)-len(q)+1))
	rest = slices.Clone(p)
	for i := len(quo) - 1; i >= 0; i-- {
		quo[i] = rest[i+len(q)-1].Quo(q[len(q)-1])
		if !fits(quo[i]) {
			return nil, nil, false
		}
		for k, c := range q {
			rest[i+k] = rest[i+k].Sub(quo[i].Mul(c))
		}
	}
	return quo, rest.trim(), true
}
