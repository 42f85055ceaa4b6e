package mode_test

import (
	"math/big"
	"slices"

	"diapason/api"
)

// The chapter's words, reckoned with the library's numbers: polynomials are lists of them, the lowest coefficient first.

// signOf is the sign of an end.
func signOf(end int) int64 {
	if end == api.Open {
		return -1
	}
	return 1
}

// cellsOf are the areas of the bore's cells.
func cellsOf(b api.Bore) []*big.Rat {
	var l []*big.Rat
	for _, p := range b.Pieces {
		for range p.Long {
			l = append(l, value(p.Area))
		}
	}
	return l
}

// boresPoly is the bore's polynomial: over less the near end's sign times under, both made from the far end on.
func boresPoly(b api.Bore) []*big.Rat {
	cells := cellsOf(b)
	under, above := []*big.Rat{whole(0), whole(signOf(b.Far))}, []*big.Rat{whole(1), whole(0)}
	for i := len(cells) - 2; i >= 0; i-- {
		k := over(minus(cells[i], cells[i+1]), plus(cells[i], cells[i+1]))
		u, o := []*big.Rat{whole(0)}, []*big.Rat{}
		for j := range under {
			u = append(u, plus(times(k, above[j]), under[j]))
			o = append(o, plus(above[j], times(k, under[j])))
		}
		under, above = u, append(o, whole(0))
	}
	p := make([]*big.Rat, len(under))
	for i := range p {
		p[i] = minus(above[i], times(whole(signOf(b.Near)), under[i]))
	}
	return p
}

// circle is (1 + i t) to the power up, times (1 - i t) to the power down, as coefficients of t: each a number times i to the power of its place.
func circle(up, down int) []int64 {
	p := []int64{1}
	times := func(c int64) {
		q := make([]int64, len(p)+1)
		for i, x := range p {
			q[i] += x
			q[i+1] += c * x
		}
		p = q
	}
	for range up {
		times(1)
	}
	for range down {
		times(-1)
	}
	return p
}

// along is (1 - i t)^N p((1 + i t) / (1 - i t)), as its real and its imaginary part.
func along(p []*big.Rat) (re, im []*big.Rat) {
	n := len(p) - 1
	for range p {
		re, im = append(re, whole(0)), append(im, whole(0))
	}
	for k, c := range p {
		for j, x := range circle(k, n-k) {
			part := times(c, whole(x))
			if j%4 > 1 {
				part = negated(part)
			}
			if j%2 == 0 {
				re[j] = plus(re[j], part)
			} else {
				im[j] = plus(im[j], part)
			}
		}
	}
	return trimmed(re), trimmed(im)
}

// trimmed has no noughts at the end.
func trimmed(p []*big.Rat) []*big.Rat {
	for len(p) > 0 && p[len(p)-1].Sign() == 0 {
		p = p[:len(p)-1]
	}
	return p
}

// boresLine is the bore's line.
func boresLine(b api.Bore) []*big.Rat {
	re, im := along(boresPoly(b))
	switch {
	case len(re) > 0 && len(im) > 0 || len(re)+len(im) == 0:
		panic("no line: " + name(b))
	case len(re) > 0:
		return re
	}
	return im
}

// fracsOf is the polynomial of numbers.
func fracsOf(l []*big.Rat) api.Poly {
	p := make(api.Poly, len(l))
	for i, x := range l {
		p[i] = frac(x)
	}
	return p
}

// wholes are whole numbers in the ratio of the polynomial's.
func wholes(p []*big.Rat) []*big.Int {
	below := big.NewInt(1)
	for _, x := range p {
		gcd := new(big.Int).GCD(nil, nil, below, x.Denom())
		below.Mul(below, new(big.Int).Quo(x.Denom(), gcd))
	}
	l := make([]*big.Int, len(p))
	for i, x := range p {
		l[i] = new(big.Int).Mul(x.Num(), new(big.Int).Quo(below, x.Denom()))
	}
	return l
}

// shifted are the signs of the coefficients of p(x + y) as one in y.
func shifted(p []*big.Int, x *big.Rat) []int {
	n := len(p) - 1
	l, power := make([]*big.Int, n+1), big.NewInt(1)
	for i := n; i >= 0; i-- {
		l[i] = new(big.Int).Mul(p[i], power)
		power = new(big.Int).Mul(power, x.Denom())
	}
	for from := range n {
		for i := n - 1; i >= from; i-- {
			l[i].Add(l[i], new(big.Int).Mul(l[i+1], x.Num()))
		}
	}
	signs := make([]int, n+1)
	for i, c := range l {
		signs[i] = c.Sign()
	}
	return signs
}

// above is how many roots are above x: as often as the signs of p(x + y) change (Descartes' rule, which is exact where all roots are real; all modes are on the circle).
func above(p []*big.Int, x *big.Rat) int {
	changes, last := 0, 0
	for _, s := range shifted(p, x) {
		if s != 0 && s == -last {
			changes++
		}
		if s != 0 {
			last = s
		}
	}
	return changes
}

// signAt is the sign of p at x.
func signAt(p []*big.Int, x *big.Rat) int {
	sum, power := new(big.Int), big.NewInt(1)
	for _, c := range slices.Backward(p) {
		sum.Add(sum.Mul(sum, x.Num()), new(big.Int).Mul(c, power))
		power = new(big.Int).Mul(power, x.Denom())
	}
	return sum.Sign()
}

// countIn is how many roots are in the gap, both ends being in it.
func countIn(p []*big.Int, lo, hi *big.Rat) int {
	n := above(p, lo) - above(p, hi)
	if signAt(p, lo) == 0 {
		n++
	}
	return n
}

// inside is how many roots are between the two, neither end being in it.
func inside(p []*big.Int, lo, hi *big.Rat) int {
	n := above(p, lo) - above(p, hi)
	if signAt(p, hi) == 0 {
		n--
	}
	return n
}

// cell has one root between lo and hi; or, if they are the same, it is that.
type cell struct{ lo, hi *big.Rat }

// halved are the cells of the roots from 0 on, rising, and the least number from 0 on no cell of which has two.
func halved(p []*big.Int) ([]cell, int) {
	var l []cell
	if signAt(p, whole(0)) == 0 {
		l = append(l, cell{whole(0), whole(0)})
	}
	level, top := 0, whole(1)
	for above(p, top) > 0 || signAt(p, top) == 0 {
		level, top = level-1, times(top, whole(2))
	}
	least := 0
	var run func(lo, hi *big.Rat, level int)
	run = func(lo, hi *big.Rat, level int) {
		switch inside(p, lo, hi) {
		case 0:
			return
		case 1:
			l = append(l, cell{lo, hi})
			return
		}
		least = max(least, level+1)
		middle := times(plus(lo, hi), rat("1/2"))
		run(lo, middle, level+1)
		if signAt(p, middle) == 0 {
			l = append(l, cell{middle, middle})
		}
		run(middle, hi, level+1)
	}
	run(whole(0), top, level)
	return l, least
}

// toldAt is the root of a cell, told at so many bits, no cell of which has another one.
func toldAt(p []*big.Int, c cell, bits int) api.Gap {
	if c.lo.Cmp(c.hi) == 0 {
		return gap(c.lo, c.hi)
	}
	lo, hi, rises := c.lo, c.hi, 0
	for _, s := range shifted(p, lo) {
		if rises = s; s != 0 {
			break
		}
	}
	for width := over(whole(1), power2(uint(bits), 0)); minus(hi, lo).Cmp(width) > 0; {
		middle := times(plus(lo, hi), rat("1/2"))
		switch signAt(p, middle) {
		case 0:
			return gap(middle, middle)
		case rises:
			lo = middle
		default:
			hi = middle
		}
	}
	return gap(lo, hi)
}

// allOf are the bore's modes, told at the least number from bits on no cell of which has two; or ErrRoot, where that had to be above 256.
func allOf(b api.Bore, bits int) ([]api.Mode, api.Errno) {
	line := wholes(boresLine(b))
	cells, least := halved(line)
	if least > api.MaxSplit {
		return nil, api.ErrRoot
	}
	var l []api.Mode
	for _, c := range cells {
		l = append(l, api.Mode{Gap: toldAt(line, c, max(bits, least))})
	}
	at := whole(0)
	for _, c := range slices.Backward(boresPoly(b)) {
		at = minus(c, at)
	}
	if at.Sign() == 0 {
		l = append(l, api.Mode{Half: true})
	}
	return l, api.OK
}
