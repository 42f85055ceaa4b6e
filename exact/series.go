package exact

import (
	"iter"

	"diapason/nat"
)

// Series tells the coefficients of p over q as a series, each with its power, from 0 on and without an end; q's lowest coefficient is not nought.
func (p Poly) Series(q Poly) iter.Seq2[int, Number] {
	common := Whole(p.Denominator().Lcm(q.Denominator()))
	above, below := p.Scale(common), q.Scale(common)
	return func(yield func(int, Number) bool) {
		known := tail{below: Whole(nat.Of(1))}
		for i := 0; ; i++ {
			rest := above.at(i).Mul(known.below).Sub(known.times(below[1:]))
			c := rest.Quo(below[0]).Quo(known.below)
			if !yield(i, c) {
				return
			}
			known = known.with(c, len(below)-1)
		}
	}
}

// tail is the last coefficients of a series, the newest one first, all of them times one number, so that they are whole ones: sums of fractions would have to find out anew each time what the denominators share.
type tail struct {
	whole []Number
	below Number
}

// times is the sum of the tail's numbers, each times the factor at its place.
func (t tail) times(factors []Number) Number {
	sum := Whole(nil)
	for i, x := range t.whole {
		sum = sum.Add(x.Mul(factors[i]))
	}
	return sum
}

// with is the tail with one coefficient more, and at most so many.
func (t tail) with(c Number, most int) tail {
	rise := Whole(c.den.Quo(c.den.Gcd(t.below.num)))
	below := t.below.Mul(rise)
	whole := []Number{c.Mul(below)}
	for _, x := range t.whole {
		whole = append(whole, x.Mul(rise))
	}
	return tail{whole[:min(len(whole), most)], below}
}
