package sturm

import (
	"diapason/exact"
	"diapason/nat"
	"diapason/near"
)

// endless is more halvings than any search comes to.
const endless = 1 << 29

// search is one for roots above 0 of a polynomial of whole numbers that has none twice. It goes through parts of the stretch from 0 to 2^size, beyond which there are none.
type search struct {
	p      exact.Poly
	lo, hi exact.Number // only roots that are neither below lo nor above hi are looked for
	size   int
	most   int // parts that come of so many halvings are not halved any more

	places  []place // of the roots, rising
	halved  int     // the greatest number of halvings of which a part comes that is half of one with two roots; 0, if there is none
	crowded bool    // a part that is not halved any more has two roots
}

// part is one of the 2^depth parts of a stretch that are as wide as one another: the one behind so many others.
type part struct {
	at    nat.Nat
	depth int
}

// inner is the part of a part that stands there in it.
func (c part) inner(at part) part {
	return part{c.at.Shl(at.depth).Add(at.at), c.depth + at.depth}
}

// halves are both halves of a part.
func (c part) halves() (left, right part) {
	return c.inner(part{nil, 1}), c.inner(part{nat.Of(1), 1})
}

// ends are both ends of a part.
func (f *search) ends(c part) (lo, hi exact.Number) {
	return f.end(c.at, c.depth), f.end(c.at.Add(nat.Of(1)), c.depth)
}

// end is the lower end of the part behind so many others.
func (f *search) end(at nat.Nat, depth int) exact.Number {
	return exact.Of(false, at.Shl(f.size-depth), nat.Of(1).Shl(depth-f.size))
}

// over is the polynomial in a part.
func (f *search) over(c part, d near.Digits) stretch {
	lo, hi := f.ends(c)
	return over(f.p, lo, hi, d)
}

// run goes through a part, down to parts that have no root, or one. It ends, since no root is one twice: in a part that is narrow enough the sign changes once at most (Obreshkoff's two circles), and with digits enough all signs are sure.
func (f *search) run(c part) {
	var cut func(c part, s stretch, d near.Digits) int
	cut = func(c part, s stretch, d near.Digits) int {
		lo, hi := f.ends(c)
		if hi.Cmp(f.lo) <= 0 || lo.Cmp(f.hi) >= 0 {
			return 0
		}
		s, d, turns := f.surely(c, s, d)
		if turns > 1 && c.depth == f.most {
			turns = f.closely(c)
		}
		switch {
		case turns == 0 || f.crowded:
			return turns
		case turns == 1:
			return f.keep(place{f.p, lo, hi, s.rises()})
		}
		if in, s, d, ok := f.huddled(c, s, d, turns); ok {
			return cut(in, s, d)
		}
		lower, upper := c.halves()
		left, right := s.halves(d)
		middle, _ := f.ends(upper)
		met := f.meet(left, right, middle)
		found := cut(lower, left, d)
		if met {
			found += f.keep(place{f.p, middle, middle, 0})
		}
		found += cut(upper, right, d)
		if found > 1 {
			f.halved = max(f.halved, upper.depth)
		}
		return found
	}
	cut(c, f.over(c, firstDigits), firstDigits)
}

// meet tells whether the point at which two stretches meet is a root; if so, their coefficients there are nought.
func (f *search) meet(left, right stretch, at exact.Number) bool {
	if sign, sure := right[0].Sign(); sure {
		return sign == 0
	}
	if !isRoot(f.p, at) {
		return false
	}
	left[len(left)-1], right[0] = near.Number{}, near.Number{}
	return true
}

// keep keeps the place of a root that is looked for, and tells how many those are.
func (f *search) keep(at place) int {
	if at.cmp(f.lo) < 0 || at.cmp(f.hi) > 0 {
		return 0
	}
	f.places = append(f.places, at)
	return 1
}

// surely is how many times the sign changes in a part; if digits are too few, it is reckoned anew with more. That a value is nought, no digits tell but all of them: so ends that are roots are found out by themselves.
func (f *search) surely(c part, s stretch, d near.Digits) (stretch, near.Digits, int) {
	turns, sure := s.turns()
	if sure {
		return s, d, turns
	}
	lo, hi := f.ends(c)
	atLo, atHi := isRoot(f.p, lo), isRoot(f.p, hi)
	for !sure {
		d *= 2
		s = over(f.p, lo, hi, d)
		if atLo {
			s[0] = near.Number{}
		}
		if atHi {
			s[len(s)-1] = near.Number{}
		}
		turns, sure = s.turns()
	}
	return s, d, turns
}

// closely is how many roots a part has that is not halved any more.
func (f *search) closely(c part) int {
	deeper := search{p: f.p, lo: f.lo, hi: f.hi, size: f.size, most: endless}
	deeper.run(c)
	n := len(deeper.places)
	f.crowded = f.crowded || n > 1
	return n
}

// huddled is a much narrower part in which the sign changes as often, so that it has all roots of the part; false, if none is found.
func (f *search) huddled(c part, s stretch, d near.Digits, turns int) (part, stretch, near.Digits, bool) {
	for _, at := range s.huddles(turns, d) {
		in := c.inner(at)
		if in.depth > f.most {
			continue
		}
		s, d, all := f.surely(in, f.over(in, firstDigits), firstDigits)
		if all == turns {
			return in, s, d, true
		}
	}
	return part{}, nil, 0, false
}
