package exact

import "diapason/api"

// Complex is a complex number whose parts are fractions of any size.
type Complex struct{ Re, Im Number }

// ReadComplex is the number of one whose parts are fractions, and whether that may be.
func ReadComplex(z api.Gauss) (Complex, bool) {
	re, reOk := Read(z.Re)
	im, imOk := Read(z.Im)
	if !reOk || !imOk {
		return Complex{}, false
	}
	return Complex{re, im}, true
}

// FromComplex is the number whose parts are worth what these floats are, and whether both are finite.
func FromComplex(z complex128) (Complex, bool) {
	re, reOk := FromFloat(real(z))
	im, imOk := FromFloat(imag(z))
	if !reOk || !imOk {
		return Complex{}, false
	}
	return Complex{re, im}, true
}

// Gauss is the number with fractions as its parts, and true, if these have not too many bytes.
func (z Complex) Gauss() (api.Gauss, bool) {
	re, reOk := z.Re.Frac()
	im, imOk := z.Im.Frac()
	if !reOk || !imOk {
		return api.Gauss{}, false
	}
	return api.Gauss{Re: re, Im: im}, true
}

// IsNought tells whether both parts are nought.
func (z Complex) IsNought() bool { return z.Re.Sign() == 0 && z.Im.Sign() == 0 }

// Size is how many bytes the longest one of the parts' numbers has.
func (z Complex) Size() int { return max(z.Re.Size(), z.Im.Size()) }

// Add is the sum.
func (z Complex) Add(w Complex) Complex { return Complex{z.Re.Add(w.Re), z.Im.Add(w.Im)} }

// Sub is the difference.
func (z Complex) Sub(w Complex) Complex { return Complex{z.Re.Sub(w.Re), z.Im.Sub(w.Im)} }

// Mul is the product.
func (z Complex) Mul(w Complex) Complex {
	return Complex{
		z.Re.Mul(w.Re).Sub(z.Im.Mul(w.Im)),
		z.Re.Mul(w.Im).Add(z.Im.Mul(w.Re)),
	}
}

// Quo is the quotient; the zero value, if w is nought.
func (z Complex) Quo(w Complex) Complex {
	product, norm := z.Mul(w.Conj()), w.Norm()
	return Complex{product.Re.Quo(norm), product.Im.Quo(norm)}
}

// Conj is the mirror image.
func (z Complex) Conj() Complex { return Complex{z.Re, z.Im.Neg()} }

// Norm is the sum of both parts' squares.
func (z Complex) Norm() Number { return z.Re.Mul(z.Re).Add(z.Im.Mul(z.Im)) }
