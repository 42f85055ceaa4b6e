package sturm

import (
	"slices"

	"diapason/exact"
	"diapason/nat"
)

// roots are the places of all real roots, rising, of a polynomial of whole numbers that has none twice; and the least number from 0 on no cell of which has two of them. If that had to be above finest, it is false.
func roots(p exact.Poly, finest int) (places []place, bits int, ok bool) {
	far := exact.Whole(nat.Of(1).Shl(reach(p)))
	return within(p, far.Neg(), far, finest)
}

// within are those that are neither below lo nor above hi.
func within(p exact.Poly, lo, hi exact.Number, finest int) (places []place, bits int, ok bool) {
	var nought []place
	if p[0].Sign() == 0 {
		if lo.Sign() <= 0 && hi.Sign() >= 0 {
			nought = []place{{p, p[0], p[0], 0}}
		}
		p = p[1:]
	}
	size := reach(p)
	up := search{p: p, lo: lo, hi: hi, size: size, most: size + finest}
	up.run(part{})
	down := search{p: mirrored(p), lo: hi.Neg(), hi: lo.Neg(), size: size, most: size + finest}
	down.run(part{})
	for _, at := range slices.Backward(down.places) {
		places = append(places, at.mirrored())
	}
	// Parts of which a part of 2^size comes by size halvings are as wide as the cells of 0.
	bits = max(0, up.halved-size, down.halved-size)
	return slices.Concat(places, nought, up.places), bits, !up.crowded && !down.crowded
}

// mirrored has the roots of p with their signs changed.
func mirrored(p exact.Poly) exact.Poly {
	l := slices.Clone(p)
	for i := 1; i < len(l); i += 2 {
		l[i] = l[i].Neg()
	}
	return l
}

// reach is a number above 0; all complex roots are nearer to 0 than 2^reach. (They are not farther than twice the greatest one of these: the ith root of the ith coefficient below the last one, over that one.)
func reach(p exact.Poly) int {
	n := len(p) - 1
	far := 0
	for i, c := range p[:n] {
		if size := c.Num().Bits() - p[n].Num().Bits() + 1; size > 0 {
			far = max(far, (size-1)/(n-i)+1)
		}
	}
	return far + 1
}
