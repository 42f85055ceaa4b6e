package mode

import (
	"iter"

	"diapason/api"
	"diapason/bore"
	"diapason/exact"
	"diapason/nat"
	"diapason/poly"
	"diapason/ratio"
	"diapason/sturm"
)

// found is where a bore's modes are.
type found struct {
	gaps []api.Gap // of all half tangents, below 0 too, each in a cell of its own
	rest api.Poly  // the line, without the roots that gaps tell exactly
	half bool      // whether -1 is a mode
}

// find looks for the modes of a bore that are to be told at so many bits.
func find(b api.Bore, bits int) (found, api.Errno) {
	line, e := Line(b)
	switch {
	case e != api.OK:
		return found{}, e
	case bits < 0:
		return found{}, api.ErrArg
	case bits > api.MaxSplit:
		return found{}, api.ErrLong
	}
	gaps, e := sturm.Roots(line)
	if e != api.OK {
		return found{}, e
	}
	long, _ := bore.Long(b)
	// There are as many modes as cells. The mode -1 has no half tangent: with it the line has a root less.
	return found{gaps, without(line, gaps), len(line) <= long}, api.OK
}

// told tells the modes, each with its place.
func (f found) told(bits int) iter.Seq2[int, api.Mode] {
	return func(yield func(int, api.Mode) bool) {
		place := 0
		for _, g := range f.gaps {
			// What is below 0 is the mirror image of a mode.
			if g.Lo.Neg {
				continue
			}
			if !yield(place, api.Mode{Gap: f.narrow(g, bits)}) {
				return
			}
			place++
		}
		if f.half {
			yield(place, api.Mode{Half: true})
		}
	}
}

// narrow is the gap, or, if it is wider than a cell of so many bits, the root in it told at that many.
func (f found) narrow(g api.Gap, bits int) api.Gap {
	lo, _ := exact.Read(g.Lo)
	hi, _ := exact.Read(g.Hi)
	cell := exact.Whole(nat.Of(1)).Quo(exact.Whole(nat.Of(1).Shl(bits)))
	if hi.Sub(lo).Cmp(cell) <= 0 {
		return g
	}
	// An end of the gap may be a root of the line, but none of the rest.
	g, _ = sturm.Narrow(f.rest, g, bits)
	return g
}

// without is the line, without the roots that the gaps tell exactly.
func without(line api.Poly, gaps []api.Gap) api.Poly {
	nought, _ := ratio.Of(0, 1)
	one, _ := ratio.Of(1, 1)
	for _, g := range gaps {
		if g.Lo == g.Hi {
			// The factor of a short root of a short line, and what it leaves of it, are short.
			less, _ := ratio.Sub(nought, g.Lo)
			line, _, _ = poly.Divide(line, api.Poly{less, one})
		}
	}
	return line
}
