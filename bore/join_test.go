package bore_test

import (
	"math/rand"
	"slices"
	"strings"
	"testing"

	"diapason/api"
	"diapason/bore"
)

// P9.4: list behind list; lists without a piece, and neighbours of one area, are left as they are.
func TestJoin(t *testing.T) {
	for _, near := range []int{api.Stopped, api.Open} {
		for _, far := range []int{api.Stopped, api.Open} {
			for _, c := range []struct {
				l    []string
				want string
			}{
				{[]string{"1x1"}, "1x1"},
				{[]string{"1x1", "", "2x2 3x1"}, "1x1 2x2 3x1"},
				{[]string{"", "3x1", "", "", "1/2x4", ""}, "3x1 1/2x4"},
				{[]string{"1x1", "1x1", "1x1 1x2"}, "1x1 1x1 1x1 1x2"},
				{[]string{"1x31", "65535/65534x1"}, "1x31 65535/65534x1"},
				{[]string{strings.Repeat("1x1 ", 20), strings.Repeat("2x1 ", 12)}, strings.Repeat("1x1 ", 20) + strings.Repeat("2x1 ", 12)},
			} {
				var l [][]api.Piece
				for _, s := range c.l {
					l = append(l, pieces(s))
				}
				b, e := bore.Join(near, far, l...)
				isBore(t, "Join of "+strings.Join(c.l, " and "), b, e, pipe(near, far, c.want))
			}
		}
	}
}

// P9.4: any bore, cut into any lists.
func TestJoinOfAny(t *testing.T) {
	r := rand.New(rand.NewSource(7))
	for _, b := range bores(8) {
		var l [][]api.Piece
		for left := b.Pieces; len(left) > 0; {
			n := r.Intn(len(left) + 1)
			l = append(l, left[:n])
			left = left[n:]
		}
		got, e := bore.Join(b.Near, b.Far, l...)
		isBore(t, "Join of "+name(b.Pieces), got, e, b)
	}
}

// P9.4: more than 32 pieces, or longer than 32 units.
func TestJoinOfTooMuch(t *testing.T) {
	isLong := func(l ...[]api.Piece) {
		t.Helper()
		b, e := bore.Join(api.Open, api.Stopped, l...)
		isNoBore(t, "Join", b, e, api.ErrLong)
	}
	isLong(pieces("1x32"), pieces("1x1"))
	isLong(pieces("1x32 1x1"))
	isLong(nil, pieces("1x1"), nil, pieces("2x31 2x1"))
	isLong(pieces(strings.Repeat("1x1 ", 33)))
	isLong(pieces(strings.Repeat("1x1 ", 17)), pieces(strings.Repeat("2x1 ", 16)))
	isLong(pieces(strings.Repeat("1x32 ", 32)))
	many := pieces(strings.Repeat("3/2x32 ", 1<<12))
	isLong(many)
	isLong(many, many, many, many, many, many, many, many)
}

// P9.4: an end that is none, a piece that may not be, wherever it stands, and no piece at all go ahead of too many.
func TestJoinOfWrongArguments(t *testing.T) {
	isNone := func(near, far int, l ...[]api.Piece) {
		t.Helper()
		b, e := bore.Join(near, far, l...)
		isNoBore(t, "Join", b, e, api.ErrArg)
	}
	one, many := pieces("1x1"), pieces(strings.Repeat("1x32 ", 40))
	for _, end := range []int{0, 3, -1, -2, 4, 1 << 30, -1 << 31, 1<<31 - 1} {
		for _, l := range [][]api.Piece{nil, one, many} {
			isNone(end, api.Open, l)
			isNone(api.Stopped, end, l)
			isNone(end, end, one, l)
		}
	}
	isNone(api.Open, api.Open)
	isNone(api.Open, api.Open, nil)
	isNone(api.Open, api.Open, nil, []api.Piece{}, one[:0])
	isNone(api.Stopped, api.Open, make([][]api.Piece, 1<<16)...)
	for _, p := range noPieces() {
		wrong := []api.Piece{p}
		isNone(api.Open, api.Open, wrong)
		isNone(api.Open, api.Open, one, wrong)
		isNone(api.Open, api.Open, wrong, one)
		isNone(api.Open, api.Open, wrong, many)
		isNone(api.Open, api.Open, many, one, wrong)
		isNone(api.Open, api.Open, append(slices.Clone(many), p))
	}
}

// R5: the lists stay as they are, the room behind them too, and the bore shares nothing with them.
func TestJoinLeavesWhatItIsHanded(t *testing.T) {
	first, second := pieces("1x1 2x1 5x1"), pieces("3x1 6x1 7x1")
	lists := [][]api.Piece{first[:2], second[:1], first[1:2], nil, second[2:]}
	for _, n := range []int{1, 2, 3} {
		var want []api.Piece
		for _, l := range lists[:n] {
			want = append(want, l...)
		}
		b, e := bore.Join(api.Open, api.Open, lists[:n]...)
		isPieces(t, "Join", b.Pieces, e, want)
		clear(b.Pieces[:cap(b.Pieces)])
		if !slices.Equal(first, pieces("1x1 2x1 5x1")) || !slices.Equal(second, pieces("3x1 6x1 7x1")) {
			t.Fatalf("of %d lists: %s and %s", n, name(first), name(second))
		}
	}
	if len(lists[0]) != 2 || len(lists[1]) != 1 || len(lists[2]) != 1 || lists[3] != nil || len(lists[4]) != 1 {
		t.Errorf("the lists: %v", lists)
	}
}
