package heard_test

import (
	"math/big"

	"diapason/api"
)

// What the chapter's words say, with the library's numbers.

// signs are those of the ends.
var signs = map[int]int64{api.Stopped: 1, api.Open: -1}

// isReflection tells whether a number is above -1 and below 1.
func isReflection(x *big.Rat) bool { return x.Num().CmpAbs(x.Denom()) < 0 }

// quotient is the first coefficients of a series over one that begins with no nought.
func quotient(above, below []*big.Rat) []*big.Rat {
	var l []*big.Rat
	for i := range above {
		rest := above[i]
		for k := 1; k <= i; k++ {
			rest = minus(rest, times(below[k], l[i-k]))
		}
		l = append(l, over(rest, below[0]))
	}
	return l
}

// behind is what is left of an answer behind its first reflection: (f - a1) / (1 - a1 f), one number less.
func behind(l []*big.Rat) []*big.Rat {
	var above, below []*big.Rat
	for i, x := range l {
		if i == 0 {
			above = append(above, whole(0))
			below = append(below, minus(whole(1), times(x, x)))
			continue
		}
		above = append(above, x)
		below = append(below, negated(times(l[0], x)))
	}
	return quotient(above, below)[1:]
}

// answerOf is the answer of a chain: R(n + 1) is x times far, and Rj is x times (kj + R(j + 1)) / (1 + kj R(j + 1)).
func answerOf(k []*big.Rat, far int, n int) []*big.Rat {
	// r has the coefficients of R from that of the power 0 on.
	r := noughts(n + 1)
	if n > 0 {
		r[1] = whole(int64(far))
	}
	for j := len(k) - 1; j >= 0; j-- {
		above, below := noughts(n+1), noughts(n+1)
		for i, x := range r {
			above[i], below[i] = x, times(k[j], x)
		}
		above[0], below[0] = plus(above[0], k[j]), plus(below[0], whole(1))
		r = append(noughts(1), quotient(above, below)[:n]...)
	}
	return r[1:]
}

// noughts are so many numbers 0.
func noughts(n int) []*big.Rat {
	l := make([]*big.Rat, n)
	for i := range l {
		l[i] = new(big.Rat)
	}
	return l
}

// areasOf are those of a bore's cells.
func areasOf(b api.Bore) []*big.Rat {
	var l []*big.Rat
	for _, p := range b.Pieces {
		for range p.Long {
			l = append(l, value(p.Area))
		}
	}
	return l
}

// chainOf are the reflections between cells of these areas.
func chainOf(areas []*big.Rat) []*big.Rat {
	var k []*big.Rat
	for i := 1; i < len(areas); i++ {
		k = append(k, over(minus(areas[i-1], areas[i]), plus(areas[i-1], areas[i])))
	}
	return k
}

// own is the answer of a bore: its first n numbers.
func own(b api.Bore, n int) []*big.Rat {
	return answerOf(chainOf(areasOf(b)), int(signs[b.Far]), n)
}

// short are the numbers up to the first one that is too long for a fraction.
func short(l []*big.Rat) []*big.Rat {
	for i, x := range l {
		if isLong(x) {
			return l[:i]
		}
	}
	return l
}

// boreOf is the bore of these cells, open at the near end, neighbours of one area being one piece.
func boreOf(areas []*big.Rat, far int) api.Bore {
	b := api.Bore{Near: api.Open, Far: far}
	for i, x := range areas {
		if i > 0 && x.Cmp(areas[i-1]) == 0 {
			b.Pieces[len(b.Pieces)-1].Long++
			continue
		}
		b.Pieces = append(b.Pieces, api.Piece{Area: frac(x), Long: 1})
	}
	return b
}

// reflectionsOf are the first n of an answer, or the error that it has.
func reflectionsOf(l []*big.Rat, n int) ([]*big.Rat, api.Errno) {
	var k []*big.Rat
	e := api.OK
	for l = l[:n]; len(l) > 0; l = behind(l) {
		if !isReflection(l[0]) {
			return nil, api.ErrHeard
		}
		if isLong(l[0]) {
			e = api.ErrLong
		}
		k = append(k, l[0])
	}
	if e != api.OK {
		return nil, e
	}
	return k, e
}

// heardIn is the bore that answers so, or the error that there is.
func heardIn(l []*big.Rat, long int, first *big.Rat, far int) (api.Bore, api.Errno) {
	areas := []*big.Rat{first}
	for range long - 1 {
		if !isReflection(l[0]) {
			return api.Bore{}, api.ErrHeard
		}
		last := areas[len(areas)-1]
		areas = append(areas, over(times(last, minus(whole(1), l[0])), plus(whole(1), l[0])))
		l = behind(l)
	}
	for i, x := range l {
		if i == 0 && x.Cmp(whole(signs[far])) != 0 || i > 0 && x.Sign() != 0 {
			return api.Bore{}, api.ErrHeard
		}
	}
	most := big.NewInt(api.MaxArea)
	for _, x := range areas {
		if x.Num().Cmp(most) > 0 || x.Denom().Cmp(most) > 0 {
			return api.Bore{}, api.ErrLong
		}
	}
	return boreOf(areas, far), api.OK
}

// fitting is how many numbers are those of the bore's answer.
func fitting(l []*big.Rat, b api.Bore) int {
	for i, x := range own(b, len(l)) {
		if x.Cmp(l[i]) != 0 {
			return i
		}
	}
	return len(l)
}
