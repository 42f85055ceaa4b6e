package ends

import (
	"sort"

	"diapason/api"
	"diapason/exact"
)

// column has one number of each row, and whether all of them may be and rise.
func column(l []api.Row, of func(r api.Row) api.Frac) ([]exact.Number, bool) {
	numbers := make([]exact.Number, len(l))
	for i, r := range l {
		n, ok := exact.Read(of(r))
		if !ok || i > 0 && numbers[i-1].Cmp(n) >= 0 {
			return nil, false
		}
		numbers[i] = n
	}
	return numbers, true
}

// told is what the table has in the one column where it has x in the other.
func told(from, to []exact.Number, x api.Frac) (api.Frac, api.Errno) {
	n, ok := exact.Read(x)
	if !ok {
		return api.Frac{}, api.ErrArg
	}
	y, there := straight(from, to, n)
	if !there {
		return api.Frac{}, api.ErrTable
	}
	return answer(y)
}

// straight is where the line through the points of both columns is at x; false, if that is beyond them.
func straight(from, to []exact.Number, x exact.Number) (exact.Number, bool) {
	place := sort.Search(len(from), func(i int) bool { return from[i].Cmp(x) >= 0 })
	switch {
	case place == len(from):
		return exact.Number{}, false
	case from[place].Cmp(x) == 0:
		return to[place], true
	case place == 0:
		return exact.Number{}, false
	}
	a, p := from[place-1], to[place-1]
	b, q := from[place], to[place]
	return p.Add(q.Sub(p).Mul(x.Sub(a)).Quo(b.Sub(a))), true
}

// answer is the number as a fraction, or ErrLong.
func answer(n exact.Number) (api.Frac, api.Errno) {
	x, ok := n.Frac()
	if !ok {
		return api.Frac{}, api.ErrLong
	}
	return x, api.OK
}
