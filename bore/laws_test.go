package bore_test

import (
	"math/rand"
	"slices"
	"testing"

	"diapason/api"
	"diapason/bore"
	"diapason/ratio"
	"diapason/schur"
)

// P9.5: Areas of a bore's chain, with its first cell's area, are those of its cells; another first area makes all of them so many times as great.
func TestAreasOfABoresChain(t *testing.T) {
	for _, b := range bores(9) {
		c, e := bore.Chain(b)
		if e != api.OK || schur.Check(c) != api.OK {
			t.Fatalf("Chain of %s: %s, %d, %d", name(b.Pieces), shown(c.K), c.Far, e)
		}
		want := cells(b)
		l, e := bore.Areas(c, b.Pieces[0].Area)
		isList(t, "Areas of the chain of "+name(b.Pieces), l, e, want)
		first, factor := rat("22/7"), over(rat("22/7"), want[0])
		for i, x := range want {
			want[i] = times(x, factor)
		}
		l, e = bore.Areas(c, frac(first))
		isList(t, "Areas from another first one", l, e, want)
	}
}

// P9.5: Chain, Long and Volume of Simple(b) are those of b; and it is its own Simple.
func TestSimpleIsTheSameBore(t *testing.T) {
	for _, b := range bores(10) {
		s, e := bore.Simple(b)
		if e != api.OK {
			t.Fatalf("Simple of %s: %d", name(b.Pieces), e)
		}
		c, e := bore.Chain(b)
		d, f := bore.Chain(s)
		if !slices.Equal(c.K, d.K) || c.Far != d.Far || e != api.OK || f != api.OK {
			t.Errorf("Chain of %s: %s, of Simple %s", name(b.Pieces), shown(c.K), shown(d.K))
		}
		m, e := bore.Long(b)
		n, f := bore.Long(s)
		if m != n || m != len(c.K)+1 || e != api.OK || f != api.OK {
			t.Errorf("Long of %s: %d, of Simple %d", name(b.Pieces), m, n)
		}
		v, e := bore.Volume(b)
		w, f := bore.Volume(s)
		if v != w || e != api.OK || f != api.OK {
			t.Errorf("Volume of %s: %s, of Simple %s", name(b.Pieces), told(v), told(w))
		}
		again, e := bore.Simple(s)
		isBore(t, "Simple of Simple", again, e, s)
	}
}

// P9.5: each reflection is above -1 and below 1; a factor of all areas changes none of them.
func TestReflectionsOfAFactor(t *testing.T) {
	r := rand.New(rand.NewSource(11))
	scaled := 0
	for _, b := range bores(12) {
		c, _ := bore.Chain(b)
		for _, k := range c.K {
			low, e := ratio.Cmp(k, frac(whole(-1)))
			high, f := ratio.Cmp(k, frac(whole(1)))
			if low <= 0 || high >= 0 || e != api.OK || f != api.OK {
				t.Errorf("Chain of %s: %s", name(b.Pieces), told(k))
			}
		}
		factor := anyArea(r)
		if r.Intn(2) == 0 {
			factor = rat("2/3")
		}
		greater := api.Bore{Pieces: slices.Clone(b.Pieces), Near: b.Near, Far: b.Far}
		for i, p := range b.Pieces {
			greater.Pieces[i].Area = frac(times(value(p.Area), factor))
		}
		if bore.Check(greater) != api.OK {
			// Areas with numbers above 65535 are none.
			continue
		}
		scaled++
		d, e := bore.Chain(greater)
		if !slices.Equal(c.K, d.K) || c.Far != d.Far || e != api.OK {
			t.Errorf("Chain of %s: %s, of %s times that: %s", name(b.Pieces), shown(c.K), factor.RatString(), shown(d.K))
		}
	}
	if scaled < 30 {
		t.Errorf("%d were scaled", scaled)
	}
}

// P9.5: the pieces of a cone are Long units long together, and make a bore; with lengths that are all 1 it is the same the other way round.
func TestLawsOfCones(t *testing.T) {
	for steps := 1; steps <= api.MaxSteps; steps++ {
		for _, ends := range [][2]string{{"1", "2"}, {"3", "1/3"}, {"5/2", "5/2"}, {"1/2", "4"}} {
			for long := steps; long <= api.MaxDegree; long++ {
				l, e := bore.Step(cone(ends[0], ends[1], long, steps))
				if e == api.ErrLong {
					continue
				}
				b, f := bore.Join(api.Open, api.Open, l)
				n, g := bore.Long(b)
				if len(l) != steps || n != long || e != api.OK || f != api.OK || g != api.OK {
					t.Errorf("Step from %s to %s, %d long, %d steps: %s, %d", ends[0], ends[1], long, steps, name(l), e)
				}
			}
			there, e := bore.Step(cone(ends[0], ends[1], steps, steps))
			back, f := bore.Step(cone(ends[1], ends[0], steps, steps))
			slices.Reverse(back)
			if !slices.Equal(there, back) || e != f {
				t.Errorf("Step from %s to %s: %s, %d; the other way round %s, %d", ends[0], ends[1], name(there), e, name(back), f)
			}
		}
	}
}
