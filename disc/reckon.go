package disc

import (
	"diapason/api"
	"diapason/grain"
)

// Add has all sums.
func Add(a, b api.Disc) (api.Disc, api.Errno) {
	if !mayBe(a, b) {
		return api.Disc{}, api.ErrArg
	}
	re, lostRe := grain.Two(real(a.C), real(b.C))
	im, lostIm := grain.Two(imag(a.C), imag(b.C))
	_, lost := length(lostRe, lostIm)
	return answer(complex(re, im), sumUp(sumUp(a.R, b.R), lost))
}

// Sub has all differences.
func Sub(a, b api.Disc) (api.Disc, api.Errno) {
	return Add(a, api.Disc{C: -b.C, R: b.R})
}

// Mul has all products.
func Mul(a, b api.Disc) (api.Disc, api.Errno) {
	if !mayBe(a, b) {
		return api.Disc{}, api.ErrArg
	}
	c := Times(a.C, b.C)
	x, y := missed(c, a.C, b.C)
	if !isFinite(x) || !isFinite(y) {
		return api.Disc{}, api.ErrInf
	}
	_, farA := length(real(a.C), imag(a.C))
	_, farB := length(real(b.C), imag(b.C))
	_, far := length(x, y)
	r := sumUp(productUp(farA, b.R), productUp(farB, a.R))
	return answer(c, sumUp(sumUp(r, productUp(a.R, b.R)), far))
}

// missed tells how far the exact product of a and b may be from c, which is that product by floats: in the first part, and in the second one.
func missed(c, a, b complex128) (re, im float64) {
	rrDown, rrUp := grain.Mul(real(a), real(b))
	iiDown, iiUp := grain.Mul(imag(a), imag(b))
	riDown, riUp := grain.Mul(real(a), imag(b))
	irDown, irUp := grain.Mul(imag(a), real(b))
	re = farthest(real(c), sumDown(rrDown, -iiUp), sumUp(rrUp, -iiDown))
	im = farthest(imag(c), sumDown(riDown, irDown), sumUp(riUp, irUp))
	return re, im
}

// farthest is how far v may be from what lies between low and high.
func farthest(v, low, high float64) float64 {
	return max(sumUp(v, -low), sumUp(high, -v))
}

// Quo has all quotients.
func Quo(a, b api.Disc) (api.Disc, api.Errno) {
	if !mayBe(a, b) {
		return api.Disc{}, api.ErrArg
	}
	nearB, _ := length(real(b.C), imag(b.C))
	if nearB <= b.R {
		return api.Disc{}, api.ErrZero
	}
	c := Over(a.C, b.C)
	left, e := rest(a.C, b.C, c)
	if e != api.OK {
		return api.Disc{}, e
	}
	_, farC := length(real(c), imag(c))
	_, farLeft := length(real(left.C), imag(left.C))
	above := sumUp(sumUp(sumUp(farLeft, left.R), a.R), productUp(farC, b.R))
	_, r := grain.Quo(above, sumDown(nearB, -b.R))
	return answer(c, r)
}

// rest is what is left of a, if c times b is taken off; ErrInf, if c is no middle of a disc, or the rest is beyond the floats.
func rest(a, b, c complex128) (api.Disc, api.Errno) {
	product, e := Mul(api.Disc{C: c}, api.Disc{C: b})
	if e != api.OK {
		return api.Disc{}, api.ErrInf
	}
	return Sub(api.Disc{C: a}, product)
}

// sumDown is x +_ y.
func sumDown(x, y float64) float64 {
	down, _ := grain.Add(x, y)
	return down
}

// sumUp is x +^ y.
func sumUp(x, y float64) float64 {
	_, up := grain.Add(x, y)
	return up
}

// productUp is x *^ y.
func productUp(x, y float64) float64 {
	_, up := grain.Mul(x, y)
	return up
}
