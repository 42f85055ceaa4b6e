package heard

import (
	"diapason/exact"
	"diapason/near"
	"diapason/residue"
)

// firstDigits is how many digits are tried first. Where they are too few, twice as many are.
const firstDigits near.Digits = 64

// prime is the one whose residues are looked at.
const prime = residue.Greatest

// foreseen tells, if it is sure, whether the first n reflections of what is left may be, and behind them is that far end alone. Exactly told, they may have a million bytes each, so that this goes by few digits, and by residues.
//
// Residues that do not end so are those of numbers that do not. If none of the reflections is 1 or -1 by residues, none is, and digits enough settle of each whether it is between. That numbers are noughts is left open.
func (l left) foreseen(n, far int) (heard, sure bool) {
	mayEnd, apart := l.images().peeled(n, far)
	if !mayEnd {
		return false, true
	}
	for d := firstDigits; ; d *= 2 {
		if between, told := l.digits(n, d).areBetween(d); told {
			return between, !between || n == len(l.above)
		}
		if !apart {
			return false, false
		}
	}
}

// images are residues of the numbers above and below, times whatever residue.
type images struct{ above, below []uint64 }

// images are those of what is left.
func (l left) images() images { return images{residues(l.above), residues(l.below)} }

// residues are those of whole numbers.
func residues(l []exact.Number) []uint64 {
	made := make([]uint64, len(l))
	for i, x := range l {
		made[i] = x.Num().RestWord(uint64(prime))
		if x.Sign() < 0 {
			made[i] = prime.Sub(0, made[i])
		}
	}
	return made
}

// peeled tells whether the residues behind the first n reflections may be those of that far end; and whether surely none of the reflections is 1 or -1.
func (l images) peeled(n, far int) (mayEnd, apart bool) {
	for range n {
		if a, b := l.above[0], l.below[0]; a == b || a == prime.Sub(0, b) {
			return true, false
		}
		l = l.behind()
	}
	for i, x := range l.above {
		end := l.below[i]
		if far < 0 {
			end = prime.Sub(0, end)
		}
		if x != end {
			return false, true
		}
	}
	return true, true
}

// behind is what is left behind the first reflection.
func (l images) behind() images {
	a, b := l.above[0], l.below[0]
	n := len(l.above) - 1
	made := images{make([]uint64, n), make([]uint64, n)}
	for i := range n {
		made.above[i] = prime.Sub(prime.Mul(l.above[i+1], b), prime.Mul(l.below[i+1], a))
		made.below[i] = prime.Sub(prime.Mul(l.below[i], b), prime.Mul(l.above[i], a))
	}
	return made
}

// row is the numbers above and below, with so many digits as are asked for.
type row struct{ above, below []near.Number }

// digits are those of the first n numbers of what is left.
func (l left) digits(n int, d near.Digits) row {
	made := row{make([]near.Number, n), make([]near.Number, n)}
	for i := range n {
		made.above[i] = d.Of(l.above[i].Sign() < 0, l.above[i].Num())
		made.below[i] = d.Of(l.below[i].Sign() < 0, l.below[i].Num())
	}
	return made
}

// areBetween tells whether all reflections of the row are above -1 and below 1, and whether so many digits are enough to say so.
func (l row) areBetween(d near.Digits) (between, sure bool) {
	for len(l.above) > 0 {
		first, one := l.above[0], l.below[0]
		top, topSure := d.Sub(one, first).Sign()
		foot, footSure := d.Add(one, first).Sign()
		switch {
		case topSure && top <= 0 || footSure && foot <= 0:
			return false, true
		case !topSure || !footSure:
			return false, false
		}
		l = l.behind(d.Quo(first, one), d)
	}
	return true, true
}

// behind is what is left behind the reflection k.
func (l row) behind(k near.Number, d near.Digits) row {
	n := len(l.above) - 1
	made := row{make([]near.Number, n), make([]near.Number, n)}
	for i := range n {
		made.above[i] = d.Sub(l.above[i+1], d.Mul(k, l.below[i+1]))
		made.below[i] = d.Sub(l.below[i], d.Mul(k, l.above[i]))
	}
	return made
}
