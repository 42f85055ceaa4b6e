package bore

import (
	"diapason/api"
	"diapason/exact"
	"diapason/nat"
)

// Step has the pieces in which the cone is laid.
func Step(c api.Cone) ([]api.Piece, api.Errno) {
	from, fromOk := exact.Read(c.From)
	to, toOk := exact.Read(c.To)
	if !fromOk || !toOk || from.Sign() <= 0 || to.Sign() <= 0 || !mayBeLaid(c.Long, c.Steps) {
		return nil, api.ErrArg
	}
	l := make([]api.Piece, c.Steps)
	for i := range l {
		root := mean(from, to, i, c.Steps)
		area := root.Mul(root)
		x, ok := area.Frac()
		if !ok || !isArea(area) {
			return nil, api.ErrLong
		}
		l[i] = api.Piece{Area: x, Long: (i+1)*c.Long/c.Steps - i*c.Long/c.Steps}
	}
	return l, api.OK
}

// mayBeLaid tells whether a cone so long may be laid in so many steps.
func mayBeLaid(long, steps int) bool {
	return steps >= 1 && steps <= api.MaxSteps && long >= steps && long <= api.MaxDegree
}

// mean is the root in the middle of the step i: of 2 steps parts 2 i + 1 from the one towards the other.
func mean(from, to exact.Number, i, steps int) exact.Number {
	gone, left := whole(2*i+1), whole(2*(steps-i)-1)
	return from.Mul(left).Add(to.Mul(gone)).Quo(whole(2 * steps))
}

// whole is the whole number n, which is above 0.
func whole(n int) exact.Number { return exact.Whole(nat.Of(uint64(n))) }
