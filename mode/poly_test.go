package mode_test

import (
	"math/rand"
	"slices"
	"testing"

	"diapason/api"
	"diapason/mode"
)

// longBores are those of the longest numbers: 32 cells of areas that have most of their bits.
func longBores(seed int64, count int) []api.Bore {
	r := rand.New(rand.NewSource(seed))
	var list []api.Bore
	for range count {
		b := api.Bore{Near: 1 + r.Intn(2), Far: 1 + r.Intn(2)}
		for range api.MaxDegree {
			area := over(whole(65535-r.Int63n(99)), whole(65535-r.Int63n(99)))
			b.Pieces = append(b.Pieces, api.Piece{Area: frac(area), Long: 1})
		}
		list = append(list, b)
	}
	return list
}

// P12.1: the polynomial and the line, by the chapter's words.
func TestPolyAndLine(t *testing.T) {
	t.Parallel()
	for _, b := range slices.Concat(bores(1, 120), longBores(1, 10), pairs()) {
		p, e := mode.Poly(b)
		isPoly(t, "Poly of "+name(b), p, e, fracsOf(boresPoly(b)))
		p, e = mode.Line(b)
		isPoly(t, "Line of "+name(b), p, e, fracsOf(boresLine(b)))
	}
}

// P12.1: a line is a number where -1 is the one mode, and its last coefficient is no nought.
func TestShortLines(t *testing.T) {
	for _, c := range []struct {
		b    api.Bore
		line string
	}{
		{pipe(api.Stopped, api.Stopped, "1x1"), "0 -2"}, {pipe(api.Open, api.Open, "7/9x1"), "0 -2"}, {pipe(api.Open, api.Stopped, "1x1"), "2"}, {pipe(api.Stopped, api.Open, "5x1"), "2"},
		{pipe(api.Stopped, api.Stopped, "1x3"), "0 -6 0 2"}, {pipe(api.Open, api.Stopped, "1x3"), "2 0 -6"}, {pipe(api.Open, api.Stopped, "1x1 3x1"), "1 0 -3"}, {pipe(api.Stopped, api.Open, "1x1 3x1"), "3 0 -1"},
	} {
		p, e := mode.Line(c.b)
		isPoly(t, name(c.b), p, e, polyOf(c.line))
	}
}

// P12.1 to P12.4: of a bore that may not be each call answers ErrArg, ahead of what else is wrong, and nothing beside it.
func TestBoresThatMayNotBe(t *testing.T) {
	for i, b := range noBores() {
		p, e := mode.Poly(b)
		if len(p) > 0 || e != api.ErrArg {
			t.Errorf("case %d: Poly of %s: %s, %d", i, name(b), polyName(p), e)
		}
		p, e = mode.Line(b)
		if len(p) > 0 || e != api.ErrArg {
			t.Errorf("case %d: Line of %s: %s, %d", i, name(b), polyName(p), e)
		}
		for _, g := range []api.Gap{gap(whole(0), whole(1)), gap(whole(1), whole(0)), {}} {
			n, e := mode.Count(b, g)
			isNumber(t, "Count of "+name(b), n, e, 0, api.ErrArg)
		}
		for _, bits := range []int{0, 256, -1, 257, 1<<31 - 1} {
			l, e := mode.All(b, bits)
			areNone(t, "All of "+name(b), l, e, api.ErrArg)
			for k, m := range mode.Each(b, bits) {
				t.Errorf("case %d: Each of %s: %d, %s", i, name(b), k, modeName(m))
			}
		}
	}
}

// R5: what is handed in stays as it is, the room behind it too, and what is answered shares nothing with it, nor with what is answered later.
func TestNothingIsKept(t *testing.T) {
	room := pipe(api.Stopped, api.Stopped, "1x2 3x1 1x1 2x1 5x1").Pieces
	was := slices.Clone(room)
	b := api.Bore{Pieces: room[:3], Near: api.Open, Far: api.Stopped}
	want, _ := allOf(b, 5)
	for range 2 {
		p, e := mode.Poly(b)
		isPoly(t, "Poly", p, e, fracsOf(boresPoly(b)))
		clear(p[:cap(p)])
		p, e = mode.Line(b)
		isPoly(t, "Line", p, e, fracsOf(boresLine(b)))
		clear(p[:cap(p)])
		l, e := mode.All(b, 5)
		areModes(t, "All", l, e, want)
		clear(l[:cap(l)])
		mode.Count(b, gap(whole(0), whole(9)))
		for range mode.Each(b, 5) {
		}
		if !slices.Equal(room, was) {
			t.Fatalf("the room: %s", name(api.Bore{Pieces: room}))
		}
	}
}
