package bore

import (
	"iter"

	"diapason/api"
	"diapason/exact"
	"diapason/nat"
	"diapason/schur"
)

// Chain has the reflections between the bore's cells, and the sign of its far end.
func Chain(b api.Bore) (api.Chain, api.Errno) {
	if Check(b) != api.OK {
		return api.Chain{}, api.ErrArg
	}
	var k []api.Frac
	for near, far := range borders(b) {
		// Two areas, of two bytes above and below each, leave a short number.
		x, _ := near.Sub(far).Quo(near.Add(far)).Frac()
		k = append(k, x)
	}
	return api.Chain{K: k, Far: sign(b.Far)}, api.OK
}

// Areas are those of the cells that have these reflections between them.
func Areas(c api.Chain, first api.Frac) ([]api.Frac, api.Errno) {
	area, ok := exact.Read(first)
	if schur.Check(c) != api.OK || !ok || area.Sign() <= 0 {
		return nil, api.ErrArg
	}
	one := exact.Whole(nat.Of(1))
	l := []api.Frac{first}
	for _, x := range c.K {
		k, _ := exact.Read(x)
		area = area.Mul(one.Sub(k)).Quo(one.Add(k))
		next, ok := area.Frac()
		if !ok {
			return nil, api.ErrLong
		}
		l = append(l, next)
	}
	return l, api.OK
}

// cells tells the area of each cell of a bore that may be, with its place, from 0 on.
func cells(b api.Bore) iter.Seq2[int, exact.Number] {
	return func(yield func(int, exact.Number) bool) {
		place := 0
		for _, p := range b.Pieces {
			area, _ := exact.Read(p.Area)
			for range p.Long {
				if !yield(place, area) {
					return
				}
				place++
			}
		}
	}
}

// borders tells the areas of each cell and of the next one.
func borders(b api.Bore) iter.Seq2[exact.Number, exact.Number] {
	return func(yield func(near, far exact.Number) bool) {
		var last exact.Number
		for place, area := range cells(b) {
			if place > 0 && !yield(last, area) {
				return
			}
			last = area
		}
	}
}

// sign is the sign of an end.
func sign(end int) int {
	if end == api.Open {
		return -1
	}
	return 1
}
