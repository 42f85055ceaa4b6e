package schur_test

import (
	"math/big"
	"math/rand"
	"slices"
	"testing"

	"diapason/api"
	"diapason/schur"
)

// isInside asks whether all roots are farther than 1: of the polynomial, of one with all signs changed, of its mirror image, and of a part of it.
func isInside(t *testing.T, p terms, want bool) {
	t.Helper()
	for _, q := range []terms{p, p.scale(whole(-1)), p.mirrored(), p.scale(rat("3/7"))} {
		if isLong(q...) {
			continue
		}
		if in, e := schur.Inside(q.poly()); in != want || e != api.OK {
			t.Errorf("Inside of %s = %v, %d", name(q), in, e)
		}
	}
}

// mirrored has the roots with their signs changed.
func (p terms) mirrored() terms {
	l := make(terms, len(p))
	for i, c := range p {
		l[i] = times(c, whole(int64(1-i%2*2)))
	}
	return l
}

// inside tells it by Schur and Cohn's way, with the library's numbers; p is not 0.
func (p terms) inside() bool {
	for n := len(p) - 1; n > 0; n-- {
		if p.at(n).Num().Sign() != 0 && new(big.Rat).Abs(p.at(0)).Cmp(new(big.Rat).Abs(p.at(n))) <= 0 || p.at(0).Sign() == 0 {
			return false
		}
		k := over(p.at(n), p.at(0))
		next := make(terms, n)
		for i := range next {
			next[i] = minus(p.at(i), times(k, p.at(n-i)))
		}
		p = next
	}
	return true
}

// behind has a reflection k ahead of it, so that Schur and Cohn's first step takes it off again; the polynomial is one of the degree n.
func (p terms) behind(k *big.Rat, n int) terms {
	l := make(terms, n+2)
	for i := range l {
		l[i] = plus(p.at(i), times(k, p.at(n+1-i)))
	}
	return l.trim()
}

// root is the factor with this root.
func root(x *big.Rat) terms { return terms{negated(x), whole(1)} }

// pair is the factor with the roots x + y i and x - y i.
func pair(x, y *big.Rat) terms {
	return terms{plus(times(x, x), times(y, y)), times(x, whole(-2)), whole(1)}
}

// factor is a polynomial, and whether its roots are farther than 1.
type factor struct {
	p    terms
	want bool
}

// factors have known roots: farther than 1, nearer, on the circle, and next to it.
func factors() []factor {
	var list []factor
	for _, s := range []string{"2", "-3", "11/10", "-1001/1000", "65536/65535"} {
		list = append(list, factor{root(rat(s)), true}, factor{root(over(whole(1), rat(s))), false})
	}
	for _, s := range []string{"0", "1", "-1"} {
		list = append(list, factor{root(rat(s)), false})
	}
	for _, z := range [][2]string{{"3/5", "4/5"}, {"-7/25", "24/25"}, {"0", "1"}, {"20/29", "-21/29"}, {"-140/149", "51/149"}} {
		x, y := rat(z[0]), rat(z[1])
		far, less := rat("1000001/1000000"), rat("999999/1000000")
		list = append(list, factor{pair(x, y), false}, factor{pair(times(x, far), times(y, far)), true}, factor{pair(times(x, less), times(y, less)), false})
	}
	list = append(list, factor{pair(whole(1), whole(1)), true}, factor{pair(rat("4/5"), rat("3/5")), false}, factor{pair(rat("4/5"), rat("-61/100")), true}, factor{pair(rat("1/2"), rat("1/2")), false}, factor{pair(rat("-1/3"), whole(1)), true})
	return list
}

// P8.3: what the roots are is known.
func TestInsideByRoots(t *testing.T) {
	list := factors()
	for _, f := range list {
		isInside(t, f.p, f.want)
		isInside(t, f.p.mul(f.p), f.want)
		for _, g := range list {
			isInside(t, f.p.mul(g.p), f.want && g.want)
		}
	}
	r := rand.New(rand.NewSource(8))
	for i := range 400 {
		p, want := of("5/3"), true
		for len(p) < 2+r.Intn(32) {
			f := list[r.Intn(len(list))]
			// Else there were hardly any whose roots are all far.
			if (f.want || i%2 == 0) && len(p)+len(f.p)-1 <= 33 {
				p, want = p.mul(f.p), want && f.want
			}
		}
		isInside(t, p, want)
	}
}

// P8.3: numbers, and all that the first coefficient and the last one settle alone.
func TestInsideAtTheEnds(t *testing.T) {
	for _, s := range []string{"5", "-1/3", "1", "-7"} {
		isInside(t, of(s), true)
	}
	isInside(t, terms{greatest()}, true)
	isInside(t, terms{over(whole(1), greatest())}, true)
	for _, s := range []string{"0 1", "0 0 -3", "0 5 1", "0 0 0 7 1", "1 1", "1 -1", "-2 2", "1 0 1", "1 0 -1", "1 5 1", "1 5 -1", "3 -8 -3", "1 0 0 0 2", "1 1 1", "1 1 1 1", "1 2 1", "2 3 -3 -2", "1/3 1 1/3"} {
		isInside(t, of(s), false)
	}
	for n := 1; n <= 32; n++ {
		for _, c := range []struct {
			first, last string
			want        bool
		}{{"2", "1", true}, {"1", "2", false}, {"1", "1", false}, {"-1", "1", false}, {"65536/65535", "1", true}, {"-65536/65535", "1", true}, {"65534/65535", "-1", false}} {
			p := make(terms, n+1)
			for i := range p {
				p[i] = new(big.Rat)
			}
			p[0], p[n] = rat(c.first), rat(c.last)
			isInside(t, p, c.want)
			// The sum of the powers is nought on the circle alone; with a last coefficient that is lesser, beyond it.
			for i := range p {
				p[i] = whole(1)
			}
			isInside(t, p, false)
			p[n] = rat("99/100")
			isInside(t, p, n < 2 || p.inside())
		}
	}
}

// P8.3: any polynomials, by Schur and Cohn's way.
func TestInsideAgainstTheLibrary(t *testing.T) {
	r := rand.New(rand.NewSource(9))
	var count [2]int
	for i := range 600 {
		bytes := []int{1, 1, 2, 20}[i%4]
		p := make(terms, 1+r.Intn([]int{33, 6, 12, 9}[i%4]))
		for k := range p {
			p[k] = anyReflection(r, bytes)
		}
		p[0] = plus(p[0], big.NewRat(r.Int63n(int64(3*len(p))), 2))
		if p = p.trim(); len(p) == 0 {
			continue
		}
		want := p.inside()
		if want {
			count[1]++
		} else {
			count[0]++
		}
		isInside(t, p, want)
	}
	if count[0] < 50 || count[1] < 50 {
		t.Errorf("%v are not inside, and are", count)
	}
}

// P8.3: behind some reflections the first coefficient and the last one are as far from 0 as one another, exactly, or but for little. (Whichever way the roots go, some are not farther than 1.)
func TestInsideWithEqualEndsWithin(t *testing.T) {
	r := rand.New(rand.NewSource(10))
	tiny := over(whole(1), power2(900, 7))
	for i := range 400 {
		bytes := []int{1, 2, 8}[i%3]
		n := 2 + r.Intn(8)
		p := make(terms, n+1)
		for k := range p {
			p[k] = times(anyReflection(r, bytes), whole(int64(1+r.Intn(5))))
		}
		p[0] = plus(new(big.Rat).Abs(p[0]), rat("1/9"))
		p[n] = times(p[0], whole(int64(1-2*r.Intn(2))))
		want := false
		switch i % 5 {
		case 0:
			// Itself turned round, or with its signs changed, it has roots in common with that.
			for k := range p[:(n+1)/2] {
				p[n-k] = times(p[k], over(p[n], p[0]))
			}
		case 1:
			p[0] = plus(p[0], tiny)
			want = p.inside()
		case 2:
			p[0] = minus(p[0], tiny)
		}
		for range r.Intn(8) {
			p = p.behind(anyReflection(r, 1), n)
			n++
		}
		if !isLong(p...) && p.inside() != want {
			t.Fatalf("%s is not what it says", name(p))
		}
		if !isLong(p...) {
			isInside(t, p, want)
		}
	}
}

// P8.3: roots that are so near to the circle that few digits don't tell them from it; numbers at the bound.
func TestInsideNextToTheCircle(t *testing.T) {
	top := greatest()
	less, half := minus(top, whole(1)), power2(4095, 0)
	for n := 1; n <= 32; n += 1 + n/4 {
		isInside(t, sparse(map[int]*big.Rat{0: top, n: less}), true)
		isInside(t, sparse(map[int]*big.Rat{0: negated(top), n: less}), true)
		isInside(t, sparse(map[int]*big.Rat{0: less, n: top}), false)
		isInside(t, sparse(map[int]*big.Rat{0: top, n: top}), false)
		isInside(t, sparse(map[int]*big.Rat{0: top, n: over(whole(1), top)}), true)
		isInside(t, sparse(map[int]*big.Rat{0: over(whole(1), top), n: top}), false)
		isInside(t, sparse(map[int]*big.Rat{0: over(whole(1), less), n: over(whole(1), top)}), true)
		// Coefficients that fall have all roots beyond the circle, those that rise within.
		fall, rise, flat := make(terms, n+1), make(terms, n+1), make(terms, n+1)
		for i := range fall {
			step := big.NewRat(int64(i), 1)
			fall[i], rise[i], flat[i] = minus(half, step), plus(half, step), half
		}
		isInside(t, fall, true)
		isInside(t, rise, false)
		isInside(t, flat, false)
	}
	// One root, many times over: just beyond the circle, or all but one.
	for _, bits := range []uint{1, 20, 60, 120} {
		beyond, within := terms{power2(bits, 0), power2(bits, -1)}, terms{power2(bits, -1), power2(bits, 0)}
		p := of("1")
		for range 31 {
			p = p.mul(beyond)
		}
		isInside(t, p, true)
		isInside(t, p.mul(beyond), true)
		isInside(t, p.mul(within), false)
		isInside(t, p.mul(beyond.mirrored()), true)
		isInside(t, p.mul(of("1 1")), false)
		isInside(t, p.mul(of("1 -1")), false)
	}
	// All roots are -1, but for little: that turns them to all sides.
	p := of("1")
	for range 32 {
		p = p.mul(of("1 1"))
	}
	p = p.scale(power2(4000, 0))
	isInside(t, p, false)
	p[0] = plus(p[0], whole(1))
	isInside(t, p, false)
}

// P8.3: polynomials with roots on both sides that are nearly, or exactly, one another's mirror images.
func TestInsideWithMirrorImages(t *testing.T) {
	r := rand.New(rand.NewSource(11))
	for i := range 45 {
		n := 1 + r.Intn(8)
		f := make(terms, n+1)
		for k := range f {
			f[k] = plus(anyReflection(r, []int{1, 9, 20}[i%3]), whole(2))
		}
		p := f.mul(f.turned(n))
		isInside(t, p, false)
		q := p.mul(of("7 1"))
		isInside(t, q, false)
		for _, at := range []int{0, 1, n, len(q) - 1} {
			turned := slices.Clone(q)
			turned[at] = plus(turned[at], over(whole(1), power2(800, 0)))
			isInside(t, turned, turned.inside())
		}
	}
}

// P8.3, R7: 33 coefficients with long numbers above and below.
func TestInsideOfLongOnes(t *testing.T) {
	r := rand.New(rand.NewSource(12))
	for i := range 6 {
		p := make(terms, 33)
		for k := range p {
			p[k] = anyReflection(r, 500)
		}
		p[0], p[32] = plus(p[0], whole(40)), plus(new(big.Rat).Abs(p[32]), rat("1/999"))
		want := i%2 == 0
		if !want {
			slices.Reverse(p)
		}
		isInside(t, p, want)
	}
}

// P8.3: what may not be, and the polynomial 0.
func TestInsideOfWrongOnes(t *testing.T) {
	for i, p := range noPolys() {
		if in, e := schur.Inside(p); in || e != api.ErrArg {
			t.Errorf("Inside of a wrong one, %d: %v, %d", i, in, e)
		}
	}
	for _, p := range []api.Poly{nil, {}} {
		if in, e := schur.Inside(p); in || e != api.ErrZero {
			t.Errorf("Inside of 0: %v, %d", in, e)
		}
	}
}

// R5, R6: what is handed in stays as it is.
func TestInsideLeavesWhatItIsHanded(t *testing.T) {
	room := of("3 1/2 -1 1/5 9").poly()
	was := slices.Clone(room)
	for range 2 {
		if in, e := schur.Inside(room[:4]); !in || e != api.OK || !slices.Equal(room, was) {
			t.Errorf("Inside = %v, %d; the room %s", in, e, shown(room))
		}
	}
}
