package sturm

import (
	"diapason/nat"
	"diapason/near"
)

// leastJump is how many halvings it must spare to look for a narrower part.
const leastJump = 6

// huddles are parts of a stretch, much narrower than it, in one of which so many roots may be, if these huddle together. Where, is guessed from both ends; how near, by how far the guesses are apart: that goes by the square of how near the roots are, so that half of its digits are left to them. If others huddle with them beyond an end, that end is near, and the other one's guess is wrong.
func (s stretch) huddles(turns int, d near.Digits) []part {
	var list []part
	add := func(x near.Number, depth int) {
		if depth >= leastJump {
			last := nat.Of(1).Shl(depth).Sub(nat.Of(1))
			list = append(list, part{lesser(x.Floor(depth), last), depth})
		}
	}
	one := small(1, d)
	lower, lowerOk := s.guess(turns, d)
	upper, upperOk := stretch(coefs(s).reversed()).guess(turns, d)
	if apart := d.Sub(d.Sub(one, upper), lower); lowerOk && upperOk && !isNought(apart) {
		add(lower, -apart.Size()/2-3)
	}
	if lowerOk {
		add(near.Number{}, -lower.Size()/2)
	}
	if upperOk {
		add(one, -upper.Size()/2)
	}
	return list
}

// lesser is the lesser one of two.
func lesser(x, y nat.Nat) nat.Nat {
	if x.Cmp(y) < 0 {
		return x
	}
	return y
}

// guess is how far from the lower end, in parts of the stretch, so many roots are, if they are at one place and there are no others, by Newton's way. There is none, if the value there is nought, or its slope may be.
func (s stretch) guess(turns int, d near.Digits) (near.Number, bool) {
	if len(s) < 2 || isNought(s[0]) {
		return near.Number{}, false
	}
	slope := d.Mul(small(uint64(len(s)-1), d), d.Sub(s[0], s[1]))
	if sign, _ := slope.Sign(); sign == 0 {
		return near.Number{}, false
	}
	return d.Quo(d.Mul(small(uint64(turns), d), s[0]), slope), true
}
