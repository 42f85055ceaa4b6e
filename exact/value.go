package exact

import "diapason/nat"

// At is the value at x.
func (p Poly) At(x Number) Number {
	value := Whole(nil)
	for i := len(p) - 1; i >= 0; i-- {
		value = value.Mul(x).Add(p[i])
	}
	return value
}

// AtComplex is the value at z. It goes by whole numbers: the denominators of both parts would be great ones that share much, and each sum of fractions would have to find that out anew.
func (p Poly) AtComplex(z Complex) Complex {
	common, below := Whole(p.Denominator()), Whole(z.Re.den.Lcm(z.Im.den))
	z = Complex{z.Re.Mul(below), z.Im.Mul(below)}
	value := Complex{Whole(nil), Whole(nil)}
	power := common
	for i := len(p) - 1; i >= 0; i-- {
		value = value.Mul(z)
		value.Re = value.Re.Add(p[i].Mul(power))
		power = power.Mul(below)
	}
	n := len(p) - 1
	return Complex{value.Re.Quo(common).overPower(below, n), value.Im.Quo(common).overPower(below, n)}
}

// AtI has the real and the imaginary part of p at i t, as polynomials in t.
func (p Poly) AtI() (re, im Poly) {
	// The powers of i are 1, i, -1, -i, over and over.
	part := func(plus, minus int) Poly {
		return p.each(func(i int, c Number) Number {
			switch i % 4 {
			case plus:
				return c
			case minus:
				return c.Neg()
			}
			return Whole(nil)
		})
	}
	return part(0, 2), part(1, 3)
}

// overPower is x over y, n times over: one by one, as what y shares with a great number is found out sooner than what y's power does.
func (x Number) overPower(y Number, n int) Number {
	for range n {
		x = x.Quo(y)
	}
	return x
}

// Denominator is the least number into which all denominators go.
func (p Poly) Denominator() nat.Nat {
	common := nat.Of(1)
	for _, c := range p {
		common = common.Lcm(c.den)
	}
	return common
}
