package poly

import (
	"strings"

	"diapason/api"
	"diapason/exact"
	"diapason/ratio"
)

// At is the value at x.
func At(p api.Poly, x api.Frac) (api.Frac, api.Errno) {
	read, readOk := exact.ReadPoly(p)
	n, ok := exact.Read(x)
	if !readOk || !ok {
		return api.Frac{}, api.ErrArg
	}
	value, ok := read.At(n).Frac()
	if !ok {
		return api.Frac{}, api.ErrLong
	}
	return value, api.OK
}

// AtGauss is the value at z.
func AtGauss(p api.Poly, z api.Gauss) (api.Gauss, api.Errno) {
	read, readOk := exact.ReadPoly(p)
	n, ok := exact.ReadComplex(z)
	if !readOk || !ok {
		return api.Gauss{}, api.ErrArg
	}
	value, ok := read.AtComplex(n).Gauss()
	if !ok {
		return api.Gauss{}, api.ErrLong
	}
	return value, api.OK
}

// Text is the coefficients' texts, the lowest first, with a blank between two.
func Text(p api.Poly) (string, api.Errno) {
	if Check(p) != api.OK {
		return "", api.ErrArg
	}
	if len(p) == 0 {
		return "0", api.OK
	}
	texts := make([]string, len(p))
	for i, x := range p {
		texts[i], _ = ratio.Text(x)
	}
	text := strings.Join(texts, " ")
	if len(text) > api.MaxText {
		return "", api.ErrLong
	}
	return text, api.OK
}
