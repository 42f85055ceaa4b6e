package wave

import (
	"slices"

	"diapason/api"
	"diapason/exact"
	"diapason/nat"
)

// cells are the numbers of all cells, from the mouth on.
type cells struct{ forth, back []exact.Number }

// still are so many cells in which nothing goes.
func still(n int) cells { return cells{noughts(n), noughts(n)} }

// copied are cells with the same numbers, in memory of their own.
func (c cells) copied() cells {
	made := still(len(c.forth))
	copy(made.forth, c.forth)
	copy(made.back, c.back)
	return made
}

// areShort tells whether all the numbers may stand in cells.
func (c cells) areShort() bool {
	isLong := func(x exact.Number) bool { return !isShort(x) }
	return !slices.ContainsFunc(c.forth, isLong) && !slices.ContainsFunc(c.back, isLong)
}

// denominator is the least number that makes all of them whole: sums of fractions would have to find out anew each time what these share.
func (c cells) denominator() exact.Number {
	below := nat.Of(1)
	for _, x := range slices.Concat(c.forth, c.back) {
		below = below.Lcm(x.Den())
	}
	return exact.Whole(below)
}

// step is what a tick does at one place of a bore: by the numbers that were it sets some of those that will be. It keeps nothing of a wave, so that copies may have the same ones.
type step func(was, will cells)

// laid are the steps of all places of a bore.
func laid(near int, c api.Chain) []step {
	steps := []step{end{near == api.Open}.throwForth}
	for i, k := range numbers(c.K) {
		steps = append(steps, border{i, k}.scatter)
	}
	return append(steps, end{c.Far < 0}.throwBack)
}

// end is one of a bore's ends.
type end struct{ turns bool }

// throwForth is what the near end does.
func (e end) throwForth(was, will cells) { will.forth[0] = e.thrown(was.back[0]) }

// throwBack is what the far end does.
func (e end) throwBack(was, will cells) {
	last := len(was.forth) - 1
	will.back[last] = e.thrown(was.forth[last])
}

// thrown is the number times the end's sign.
func (e end) thrown(x exact.Number) exact.Number {
	if e.turns {
		return x.Neg()
	}
	return x
}

// border is between a cell and the next one, and throws so much of a wave back.
type border struct {
	cell int
	k    exact.Number
}

// scatter is what the border does.
func (b border) scatter(was, will cells) {
	forth, back := was.forth[b.cell], was.back[b.cell+1]
	// (1 + k) forth - k back and k forth + (1 - k) back both have this one product.
	thrown := forth.Sub(back).Mul(b.k)
	will.forth[b.cell+1] = forth.Add(thrown)
	will.back[b.cell] = back.Add(thrown)
}
