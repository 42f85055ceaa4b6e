package bore_test

import (
	"math/big"
	"slices"
	"testing"

	"diapason/api"
	"diapason/bore"
)

// P9.1: bores that may be, and how long and how great they are, against the library's numbers.
func TestBoresThatMayBe(t *testing.T) {
	for _, b := range bores(1) {
		if e := bore.Check(b); e != api.OK {
			t.Errorf("Check of %s: %d", name(b.Pieces), e)
		}
		l, sum := cells(b), new(big.Rat)
		for _, area := range l {
			sum.Add(sum, area)
		}
		if n, e := bore.Long(b); n != len(l) || e != api.OK {
			t.Errorf("Long of %s: %d, %d", name(b.Pieces), n, e)
		}
		v, e := bore.Volume(b)
		isFrac(t, "Volume of "+name(b.Pieces), v, e, sum)
	}
}

// P9.1 to P9.3: of a bore that may not be each call answers ErrArg, and nothing beside it.
func TestBoresThatMayNotBe(t *testing.T) {
	for i, b := range noBores() {
		if e := bore.Check(b); e != api.ErrArg {
			t.Errorf("case %d: Check of %s, %d, %d: %d", i, name(b.Pieces), b.Near, b.Far, e)
		}
		if n, e := bore.Long(b); n != 0 || e != api.ErrArg {
			t.Errorf("case %d: Long = %d, %d", i, n, e)
		}
		if v, e := bore.Volume(b); v != (api.Frac{}) || e != api.ErrArg {
			t.Errorf("case %d: Volume = %v, %d", i, v, e)
		}
		if c, e := bore.Chain(b); len(c.K) > 0 || c.Far != 0 || e != api.ErrArg {
			t.Errorf("case %d: Chain = %v, %d", i, c, e)
		}
		s, e := bore.Simple(b)
		isNoBore(t, "Simple", s, e, api.ErrArg)
	}
}

// P9.3: neighbours of one area are one piece, those that only have it in common with a piece farther on are not.
func TestSimple(t *testing.T) {
	for _, c := range []struct{ b, want string }{
		{"1x1", "1x1"}, {"3/2x32", "3/2x32"}, {"2x16 2x16", "2x32"}, {"1x1 2x1 1x1", "1x1 2x1 1x1"}, {"1x1 1x1 2x1 2x2 1x3", "1x2 2x3 1x3"},
		{"2x1 1/2x1 2x1", "2x1 1/2x1 2x1"}, {"1x1 1x2 1x3 1x4 5x5", "1x10 5x5"}, {"256x1 1x1", "256x1 1x1"},
	} {
		for _, near := range []int{api.Stopped, api.Open} {
			for _, far := range []int{api.Stopped, api.Open} {
				b, e := bore.Simple(pipe(near, far, c.b))
				isBore(t, "Simple of "+c.b, b, e, pipe(near, far, c.want))
			}
		}
	}
}

// P9.3: Simple has the cells of the bore, and no neighbours of one area.
func TestSimpleOfAny(t *testing.T) {
	joined := 0
	for _, b := range bores(2) {
		s, e := bore.Simple(b)
		if e != api.OK || s.Near != b.Near || s.Far != b.Far || bore.Check(s) != api.OK {
			t.Fatalf("Simple of %s: %s, %d, %d, %d", name(b.Pieces), name(s.Pieces), s.Near, s.Far, e)
		}
		isSame := func(x, y *big.Rat) bool { return x.Cmp(y) == 0 }
		if !slices.EqualFunc(cells(s), cells(b), isSame) {
			t.Errorf("Simple of %s: %s", name(b.Pieces), name(s.Pieces))
		}
		for i := range s.Pieces[1:] {
			if s.Pieces[i].Area == s.Pieces[i+1].Area {
				t.Errorf("Simple of %s: %s", name(b.Pieces), name(s.Pieces))
			}
		}
		joined += len(b.Pieces) - len(s.Pieces)
	}
	if joined < 200 {
		t.Errorf("%d were joined", joined)
	}
}

// R5: what is handed in stays as it is, the room behind it too, and what is answered shares nothing with it.
func TestBoresAreLeft(t *testing.T) {
	room := pieces("1x1 1x2 2x1 5x1 6x1")
	was := slices.Clone(room)
	b := api.Bore{Pieces: room[:3], Near: api.Open, Far: api.Open}
	for range 2 {
		bore.Check(b)
		bore.Long(b)
		bore.Volume(b)
		c, e := bore.Chain(b)
		isChain(t, "Chain", c, e, rats("0 0 -1/3"), -1)
		s, e := bore.Simple(b)
		isPieces(t, "Simple", s.Pieces, e, pieces("1x3 2x1"))
		same, e := bore.Simple(api.Bore{Pieces: room[1:3], Near: api.Open, Far: api.Open})
		isPieces(t, "Simple of a simple one", same.Pieces, e, pieces("1x2 2x1"))
		clear(c.K[:cap(c.K)])
		clear(s.Pieces[:cap(s.Pieces)])
		clear(same.Pieces[:cap(same.Pieces)])
		if !slices.Equal(room, was) {
			t.Fatalf("the room: %s", name(room))
		}
	}
}
