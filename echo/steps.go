package echo

import (
	"slices"

	"diapason/api"
	"diapason/disc"
	"diapason/grain"
	"diapason/ratio"
)

// kind is a kind of numbers: which of them stands for a fraction, and what is done with two of them.
type kind[T any] struct {
	of                func(x api.Frac) T
	plus, times, over func(a, b T) T
}

// thrownBack tells what the chain throws back of a wave at a point, by numbers of that kind. The chain's own numbers are found once, for however many points.
func thrownBack[T any](c api.Chain, in kind[T]) func(x T) T {
	far, one := in.of(whole(c.Far)), in.of(whole(1))
	reflections := make([]T, len(c.K))
	for i, k := range c.K {
		reflections[i] = in.of(k)
	}
	return func(x T) T {
		r := in.times(x, far)
		for _, k := range slices.Backward(reflections) {
			r = in.times(x, in.over(in.plus(k, r), in.plus(one, in.times(k, r))))
		}
		return r
	}
}

// whole is the whole number n.
func whole(n int) api.Frac {
	x, _ := ratio.Of(int64(n), 1)
	return x
}

// floatsBack tells what the chain throws back by floats, noughts without a sign.
func floatsBack(c api.Chain) func(x complex128) complex128 {
	back := thrownBack(c, floats())
	return func(x complex128) complex128 {
		r := back(x)
		return complex(unsigned(real(r)), unsigned(imag(r)))
	}
}

// unsigned is v, a nought without a sign.
func unsigned(v float64) float64 {
	if v == 0 {
		return 0
	}
	return v
}

// floats are complex numbers by floats.
func floats() kind[complex128] {
	return kind[complex128]{
		of: func(x api.Frac) complex128 {
			// A reflection is never beyond the floats.
			_, near, _, _ := grain.Float(x)
			return complex(near, 0)
		},
		plus:  func(a, b complex128) complex128 { return a + b },
		times: disc.Times,
		over:  disc.Over,
	}
}

// outcome is a disc, or the first error of the steps to it.
type outcome struct {
	disc api.Disc
	e    api.Errno
}

// discs are discs of complex numbers.
func discs() kind[outcome] {
	return kind[outcome]{
		of: func(x api.Frac) outcome {
			d, e := disc.Of(api.Gauss{Re: x, Im: whole(0)})
			return outcome{d, e}
		},
		plus:  unlessFailed(disc.Add),
		times: unlessFailed(disc.Mul),
		over:  unlessFailed(disc.Quo),
	}
}

// unlessFailed does with two discs what it is handed; if one of them is an error, that is handed on.
func unlessFailed(what func(a, b api.Disc) (api.Disc, api.Errno)) func(a, b outcome) outcome {
	return func(a, b outcome) outcome {
		switch {
		case a.e != api.OK:
			return a
		case b.e != api.OK:
			return b
		}
		d, e := what(a.disc, b.disc)
		return outcome{d, e}
	}
}
