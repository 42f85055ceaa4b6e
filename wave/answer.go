package wave

import (
	"iter"

	"diapason/api"
	"diapason/bore"
	"diapason/exact"
	"diapason/schur"
)

// Answer has the first n answers of the bore to a push.
func Answer(b api.Bore, n int) ([]api.Frac, api.Errno) {
	c, e := bore.Chain(b)
	switch {
	case e != api.OK:
		return nil, e
	case n < 0:
		return nil, api.ErrArg
	case n > api.MaxTicks:
		return nil, api.ErrLong
	}
	var l []api.Frac
	for i, answer := range answers(c) {
		if i > 0 {
			x, ok := answer.Frac()
			if !ok {
				return nil, api.ErrLong
			}
			l = append(l, x)
		}
		if len(l) == n {
			break
		}
	}
	return l, api.OK
}

// answers tells them without an end, each with its number, ahead of them nought with the number 0. They are the series of under over over: to find it is less work than two ticks for each of them, with numbers of any length in all cells, would be.
func answers(c api.Chain) iter.Seq2[int, exact.Number] {
	// 31 reflections, with at most five bytes above and below each, make polynomials that are short.
	under, over, _ := schur.Forward(c)
	above, _ := exact.ReadPoly(under)
	below, _ := exact.ReadPoly(over)
	return above.Series(below)
}
