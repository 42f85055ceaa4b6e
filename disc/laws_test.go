package disc_test

import (
	"math/big"
	"math/rand"
	"testing"

	"diapason/api"
	"diapason/disc"
	"diapason/gauss"
	"diapason/ratio"
)

// pointsOf are numbers that a disc has: its middle, some at its rim and some within.
func pointsOf(d api.Disc) []api.Gauss {
	var list []api.Gauss
	for _, way := range []string{"0", "1", "-1", "i", "-i", "3/5+4/5i", "-5/13+12/13i", "-8/17-15/17i", "20/29-21/29i", "1/2-1/3i"} {
		step := point(way)
		radius := api.Gauss{Re: frac(worth(d.R)), Im: frac(new(big.Rat))}
		far, e := gauss.Mul(radius, step)
		middle, f := gauss.FromComplex(d.C)
		z, g := gauss.Add(middle, far)
		if e != api.OK || f != api.OK || g != api.OK {
			panic("a point of a disc")
		}
		list = append(list, z)
	}
	return list
}

// P4.6: what is in the two discs has its result in the result.
func TestResultsAreHad(t *testing.T) {
	exact := []func(x, y api.Gauss) (api.Gauss, api.Errno){gauss.Add, gauss.Sub, gauss.Mul, gauss.Quo}
	answered := map[string]int{}
	r := rand.New(rand.NewSource(9))
	for range 300 {
		a, b := anyDisc(r, anyFloat), anyDisc(r, anyFloat)
		for i, o := range operations() {
			d, e := o.ours(a, b)
			if e != api.OK {
				continue
			}
			answered[o.name]++
			for _, u := range pointsOf(a)[:1+r.Intn(10)] {
				for _, v := range pointsOf(b) {
					z, e := exact[i](u, v)
					if has, f := disc.Has(d, z); e != api.OK || f != api.OK || !has {
						t.Fatalf("%s of %x and %x: %x has not %s", o.name, a, b, d, name(z))
					}
				}
			}
		}
	}
	for _, o := range operations() {
		if answered[o.name] < 100 {
			t.Errorf("%s was answered %d times", o.name, answered[o.name])
		}
	}
}

// P4.6: Abs has how far from nought each number of the disc is.
func TestAbsHasThem(t *testing.T) {
	r := rand.New(rand.NewSource(10))
	square := func(v float64) api.Frac { return frac(times(worth(v), worth(v))) }
	for range 1000 {
		d := anyDisc(r, anyFloat)
		s, e := disc.Abs(d)
		if e != api.OK {
			t.Fatalf("Abs(%x): %d", d, e)
		}
		for _, z := range pointsOf(d) {
			norm, _ := gauss.Norm(z)
			low, e := ratio.Cmp(square(s.Lo), norm)
			high, f := ratio.Cmp(norm, square(s.Hi))
			if low > 0 || high > 0 || e != api.OK || f != api.OK {
				t.Errorf("Abs(%x) = %x has not %s", d, s, name(z))
			}
		}
	}
}

// R6: an answer hangs on what is handed in alone.
func TestAnswersStay(t *testing.T) {
	a, b := at(0.1+0.7i, 0x1p-30), at(-3+1.0/3i, 0x1p-40)
	var first []api.Disc
	for _, o := range operations() {
		d, _ := o.ours(a, b)
		first = append(first, d)
	}
	for i, o := range operations() {
		o.ours(b, first[i])
		o.ours(at(0, -1), a)
		d, e := o.ours(a, b)
		isDisc(t, o.name, a, b, d, e, first[i], api.OK)
	}
}
