package ends_test

import (
	"math/big"
	"math/rand"
	"slices"
	"strconv"
	"testing"

	"diapason/api"
	"diapason/ends"
)

// P13.1: the table has its rows, in order, be they one or as many as there may be.
func TestNew(t *testing.T) {
	for _, l := range tables(1) {
		areRows(t, made(t, l), l)
	}
}

// P13.1: no rows are no table.
func TestNewOfNoRows(t *testing.T) {
	isNoTable(t, nil, api.ErrArg)
	isNoTable(t, []api.Row{}, api.ErrArg)
	isNoTable(t, rows("0:1")[:0], api.ErrArg)
}

// P13.1: too many rows are told ahead of rows that may not be.
func TestNewOfTooManyRows(t *testing.T) {
	var l []api.Row
	for i := range int64(1000) {
		l = append(l, row(whole(i-3), big.NewRat(i, 7)))
	}
	areRows(t, made(t, l[:64]), l[:64])
	for _, count := range []int{65, 66, 128, 1000} {
		isNoTable(t, l[:count], api.ErrLong)
		isNoTable(t, make([]api.Row, count), api.ErrLong)
		isNoTable(t, slices.Repeat(l[:1], count), api.ErrLong)
		wrong := slices.Clone(l[:count])
		wrong[0].Flare, wrong[count-1].Length = api.Frac{}, api.Frac{}
		isNoTable(t, wrong, api.ErrLong)
	}
	isNoTable(t, make([]api.Row, 1<<16), api.ErrLong)
}

// P13.1: a fraction that may not be, wherever it stands.
func TestNewOfWrongFractions(t *testing.T) {
	r := rand.New(rand.NewSource(2))
	for _, count := range []int{1, 2, 3, 64} {
		l := anyTable(r, count, 2)
		for _, wrong := range noFractions() {
			for _, at := range []int{0, count / 2, count - 1} {
				other := slices.Clone(l)
				other[at].Flare = wrong
				isNoTable(t, other, api.ErrArg)
				other = slices.Clone(l)
				other[at].Length = wrong
				isNoTable(t, other, api.ErrArg)
			}
		}
	}
}

// P13.1: flares, and lengths, that do not rise: at each place one that is the same as the one ahead, and one that is below it.
func TestNewOfRowsThatDoNotRise(t *testing.T) {
	r := rand.New(rand.NewSource(3))
	for _, count := range []int{2, 3, 9, 64} {
		l := anyTable(r, count, 3)
		for i := 1; i < count; i++ {
			for _, less := range []*big.Rat{whole(0), inverse(power2(900, 0)), whole(1), power2(900, 0)} {
				other := slices.Clone(l)
				other[i].Flare = frac(minus(value(l[i-1].Flare), less))
				isNoTable(t, other, api.ErrArg)
				isNoTable(t, turned(other), api.ErrArg)
			}
			other := slices.Clone(l)
			other[i-1], other[i] = l[i], l[i-1]
			isNoTable(t, other, api.ErrArg)
		}
		slices.Reverse(l)
		isNoTable(t, l, api.ErrArg)
	}
	for _, s := range []string{"0:0 1:-1", "0:0 -1:1", "-1:0 -2:1", "0:-1 1:-2", "1/3:0 1/4:1", "0:2/3 1:3/5", "0:0 1:1 1:1", "0:0 0:0", "-1:0 -1:1", "0:-1/2 1:-1/2"} {
		isNoTable(t, rows(s), api.ErrArg)
	}
}

// P13.1: numbers with as many bytes as may be, of which each is above the one ahead by as little as may be.
func TestNewOfRowsThatHardlyRise(t *testing.T) {
	top, below := greatest(), minus(greatest(), whole(1))
	for _, pair := range [][2]*big.Rat{
		{below, top}, {negated(top), negated(below)}, {inverse(top), inverse(below)}, {negated(inverse(below)), negated(inverse(top))},
		{over(minus(below, whole(1)), below), over(below, top)}, {whole(0), inverse(top)}, {negated(inverse(top)), whole(0)}, {negated(top), top},
	} {
		l := []api.Row{row(pair[0], whole(0)), row(pair[1], whole(1))}
		areRows(t, made(t, l), l)
		areRows(t, made(t, turned(l)), turned(l))
		slices.Reverse(l)
		isNoTable(t, l, api.ErrArg)
		isNoTable(t, []api.Row{row(pair[0], whole(0)), row(pair[0], whole(1))}, api.ErrArg)
		isNoTable(t, []api.Row{row(whole(0), pair[1]), row(whole(1), pair[1])}, api.ErrArg)
	}
}

// P13.1, R3: what is no table has no rows.
func TestRowsOfNone(t *testing.T) {
	for i, x := range noTables() {
		if l := x.Rows(); len(l) > 0 {
			t.Errorf("Rows of none, %d: %s", i, name(l))
		}
	}
}

// R5: what is handed in, and the room behind it, is neither changed nor kept.
func TestHandedInRowsStay(t *testing.T) {
	for _, l := range tables(4) {
		behind := rows("77:78")[0]
		room := append(slices.Clone(l), behind, behind)
		x := made(t, room[:len(l)])
		ask(x)
		if !slices.Equal(room[:len(l)], l) || room[len(l)] != behind || room[len(l)+1] != behind {
			t.Errorf("New of %s changed its rows", name(l))
		}
		clear(room)
		areRows(t, x, l)
		isLike(t, name(l), x, made(t, l), l)
	}
}

// R5: the rows that are answered are new memory each time.
func TestAnsweredRowsAreNew(t *testing.T) {
	for _, l := range tables(5) {
		x := made(t, l)
		one, two := x.Rows(), x.Rows()
		clear(one)
		if !slices.Equal(two, l) {
			t.Errorf("Rows of %s share their memory", name(l))
		}
		if room := two[:cap(two)]; len(room) > len(l) {
			clear(room[len(l):])
		}
		clear(two)
		areRows(t, x, l)
		isLike(t, name(l), x, made(t, l), l)
	}
}

// R6: a copy of a table is one too; and tables go their own ways.
func TestCopiesOfTables(t *testing.T) {
	x := made(t, rows("0:1/2 1:1 3:2"))
	y := *x
	other := made(t, rows("0:7 9:8"))
	areRows(t, &y, rows("0:1/2 1:1 3:2"))
	length, e := y.At(frac(whole(2)))
	isFrac(t, "At of a copy", length, e, rat("3/2"))
	areRows(t, x, rows("0:1/2 1:1 3:2"))
	areRows(t, other, rows("0:7 9:8"))
}

// ask calls all that may be asked of a table.
func ask(x *ends.Table) {
	one := frac(whole(1))
	x.Rows()
	x.At(one)
	x.Back(one)
	x.Cut(one, one)
}

// isLike asks two tables of the same rows for the same answers.
func isLike(t *testing.T, what string, x, y *ends.Table, l []api.Row) {
	t.Helper()
	r := rand.New(rand.NewSource(6))
	flares, lengths := columns(l)
	for i, flare := range places(r, flares) {
		one, oneE := x.At(frac(flare))
		two, twoE := y.At(frac(flare))
		if one != two || oneE != twoE {
			t.Errorf("%s, At at the place %s: %s, %d and %s, %d", what, strconv.Itoa(i), told(one), oneE, told(two), twoE)
		}
	}
	for i, length := range places(r, lengths) {
		one, oneE := x.Back(frac(length))
		two, twoE := y.Back(frac(length))
		if one != two || oneE != twoE {
			t.Errorf("%s, Back at the place %s: %s, %d and %s, %d", what, strconv.Itoa(i), told(one), oneE, told(two), twoE)
		}
	}
}
