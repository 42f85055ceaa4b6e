package heard

import (
	"diapason/api"
	"diapason/exact"
	"diapason/nat"
)

// left is what is left of an answer: the series of above over below, as far as it is known. All their numbers are whole ones, as sums of fractions would have to find out anew each time what the denominators share; below's first one is above nought.
type left struct{ above, below []exact.Number }

// peeled are the first n reflections of an answer: ErrHeard, if one of them may not be, or what is left behind them is not the answer of that far end alone; ErrLong, if one has too many bytes.
func peeled(answer []exact.Number, n, far int) ([]api.Frac, api.Errno) {
	rest := laid(answer)
	heard, sure := rest.foreseen(n, far)
	if sure && !heard {
		return nil, api.ErrHeard
	}
	peel := func() (exact.Number, api.Errno) {
		k := rest.above[0].Quo(rest.below[0])
		switch {
		case !isReflection(k):
			return k, api.ErrHeard
		case sure && !isShort(k):
			// Whatever the next ones are, it was foreseen that they may be.
			return k, api.ErrLong
		}
		rest = rest.behind(k)
		return k, api.OK
	}
	list, areShort := make([]api.Frac, n), true
	for i := range list {
		k, e := peel()
		if e != api.OK {
			return nil, e
		}
		list[i], _ = k.Frac()
		areShort = areShort && isShort(k)
	}
	switch {
	case !rest.isEnd(far):
		return nil, api.ErrHeard
	case !areShort:
		return nil, api.ErrLong
	}
	return list, api.OK
}

// laid is an answer of which nothing has been taken.
func laid(answer []exact.Number) left {
	below := nat.Of(1)
	for _, x := range answer {
		below = below.Lcm(x.Den())
	}
	l := left{make([]exact.Number, len(answer)), make([]exact.Number, len(answer))}
	for i, x := range answer {
		l.above[i] = x.Mul(exact.Whole(below))
		l.below[i] = whole(0)
	}
	if len(answer) > 0 {
		l.below[0] = exact.Whole(below)
	}
	return l
}

// behind is what is left behind the reflection k, which l begins with. With k as a over b, it is b above less a below, over b below less a above; the former begins with nought, and one power of x is taken off it. Of a short k the numbers grow by no more than its bytes.
func (l left) behind(k exact.Number) left {
	b := exact.Whole(k.Den())
	a := k.Mul(b)
	n := len(l.above) - 1
	made := left{make([]exact.Number, n), make([]exact.Number, n)}
	for i := range n {
		made.above[i] = l.above[i+1].Mul(b).Sub(l.below[i+1].Mul(a))
		made.below[i] = l.below[i].Mul(b).Sub(l.above[i].Mul(a))
	}
	return made
}

// isEnd tells whether what is left is the answer of one cell with that far end: its sign, and then noughts.
func (l left) isEnd(far int) bool {
	for i, x := range l.above {
		if x.Cmp(l.below[i].Mul(whole(far))) != 0 {
			return false
		}
	}
	return true
}

// isReflection tells whether the number is above -1 and below 1.
func isReflection(k exact.Number) bool { return k.Num().Cmp(k.Den()) < 0 }

// isShort tells whether the number may be told.
func isShort(k exact.Number) bool { return k.Size() <= api.MaxBytes }
