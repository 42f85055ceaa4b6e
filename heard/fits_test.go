package heard_test

import (
	"math/big"
	"math/rand"
	"slices"
	"strconv"
	"strings"
	"testing"

	"diapason/api"
	"diapason/heard"
)

// isFit holds how much of an answer fits against a number.
func isFit(t *testing.T, what string, l []*big.Rat, b api.Bore, want int) {
	t.Helper()
	n, all, e := heard.Fits(fracs(l), b)
	if n != want || all != (want == len(l)) || e != api.OK {
		t.Errorf("%s: %d, %t, %d; not %d of %d", what, n, all, e, want, len(l))
	}
}

// P11.3: of bores' own answers all numbers fit, up to 128; with one turned, those ahead of it.
func TestFits(t *testing.T) {
	r := rand.New(rand.NewSource(1))
	turned := 0
	for _, b := range bores(4, 60) {
		l := ownShort(b, []int{20, 128}[r.Intn(2)])
		for _, n := range []int{0, 1, len(l) / 2, len(l)} {
			if n > len(l) {
				continue
			}
			isFit(t, name(b), l[:n], b, n)
			if n == 0 {
				continue
			}
			place := r.Intn(n)
			other := slices.Clone(l[:n])
			other[place] = plus(l[place], over(whole(1), whole(1+r.Int63n(1<<40))))
			if !isLong(other[place]) {
				isFit(t, name(b)+", another one at "+strconv.Itoa(place), other, b, place)
				turned++
			}
			if other[place] = negated(l[place]); l[place].Sign() != 0 {
				isFit(t, name(b)+", turned at "+strconv.Itoa(place), other, b, place)
			}
		}
	}
	if turned < 150 {
		t.Errorf("%d numbers are other ones", turned)
	}
}

// P11.3: answers of other bores, and any numbers.
func TestFitsOfOthers(t *testing.T) {
	r := rand.New(rand.NewSource(2))
	few := rats("0 0 0 1 -1 1/2 -1/2 3/4 -3/4 3/8")
	var count [4]int
	for range 800 {
		b := pipe(1+r.Intn(2), 1+r.Intn(2), []string{"1x1", "1x2", "1x1 3x1", "3x1 1x1", "1x1 3x1 1x1", "1x2 3x1"}[r.Intn(6)])
		l := own(b, r.Intn(6))
		for i := range l {
			if r.Intn(3) == 0 {
				l[i] = few[r.Intn(len(few))]
			}
		}
		want := fitting(l, b)
		isFit(t, shown(fracs(l))+" of "+name(b), l, b, want)
		count[min(want, 3)]++
	}
	for range 60 {
		b, other := anyBore(r), anyBore(r)
		l := short(own(other, 9))
		isFit(t, name(other)+" in "+name(b), l, b, fitting(l, b))
		// Where the first cells are the same, so are the numbers.
		other.Pieces = append(b.Pieces[:1:1], other.Pieces...)
		if other.Pieces[len(other.Pieces)-1].Long--; len(other.Pieces) > 32 || len(areasOf(other)) > 32 {
			continue
		}
		if other.Pieces[len(other.Pieces)-1].Long > 0 {
			l = ownShort(other, 24)
			isFit(t, name(other)+" in "+name(b), l, b, fitting(l, b))
		}
	}
	for i, n := range count {
		if n < 10 {
			t.Errorf("%d answers have %d that fit", n, i)
		}
	}
}

// P11.3: where the bore's own answer is too long for a fraction nothing fits any more; the ones of MaxBytes bytes do.
func TestFitsAtTheBound(t *testing.T) {
	r := rand.New(rand.NewSource(3))
	done := 0
	for range 40 {
		b := anyBore(r)
		l := ownShort(b, 100)
		if len(l) == 100 {
			continue
		}
		isFit(t, name(b), l, b, len(l))
		isFit(t, name(b)+" and a 0", append(slices.Clone(l), whole(0)), b, len(l))
		isFit(t, name(b)+" and the greatest number", append(slices.Clone(l), greatest(), whole(1)), b, len(l))
		done++
	}
	if done < 8 {
		t.Errorf("%d bores", done)
	}
}

// P11.3: the near end, and how the bore is laid in pieces, have no part in it.
func TestFitsOfOneBore(t *testing.T) {
	r := rand.New(rand.NewSource(4))
	for range 60 {
		b := anyBore(r)
		l := short(own(b, 12))
		if len(l) > 0 {
			i := r.Intn(len(l))
			l[i] = plus(l[i], rat("1/7"))
		}
		cells := api.Bore{Near: api.Stopped + api.Open - b.Near, Far: b.Far}
		for _, area := range areasOf(b) {
			cells.Pieces = append(cells.Pieces, api.Piece{Area: frac(area), Long: 1})
		}
		n, all, e := heard.Fits(fracs(l), b)
		m, same, f := heard.Fits(fracs(l), cells)
		if n != m || all != same || e != f {
			t.Errorf("%s: %d, %t, %d, and %d, %t, %d", name(b), n, all, e, m, same, f)
		}
	}
}

// P11.3: wrong bores, wrong answers; ErrLong of too many numbers ahead of all else.
func TestFitsOfWrongArguments(t *testing.T) {
	isWrong := func(what string, l []api.Frac, b api.Bore, want api.Errno) {
		if n, all, e := heard.Fits(l, b); n != 0 || all || e != want {
			t.Errorf("%s: %d, %t, %d; not the error %d", what, n, all, e, want)
		}
	}
	for _, b := range noBores() {
		for _, s := range []string{"", "1", "-1/2 -3/4 3/8"} {
			isWrong(name(b), fracs(rats(s)), b, api.ErrArg)
		}
	}
	for _, b := range []api.Bore{pipe(api.Stopped, api.Open, "1x1 3x1"), pipe(api.Stopped, 0, "1x1"), {}} {
		for _, l := range [][]api.Frac{make([]api.Frac, 129), fracs(noughts(129)), make([]api.Frac, 1<<16)} {
			isWrong("too many, of "+name(b), l, b, api.ErrLong)
		}
		for _, x := range noFractions() {
			for _, place := range []int{0, 1, 127} {
				l := fracs(noughts(128))
				l[place] = x
				isWrong(told(x)+" at "+strconv.Itoa(place)+", of "+name(b), l, b, api.ErrArg)
			}
		}
	}
	l := noughts(128)
	l[31] = whole(1)
	isFit(t, "128", l, pipe(api.Open, api.Stopped, "1x32"), 128)
}

// R5: what is handed in, and the room behind its end, is not changed.
func TestFitsKeepsNothing(t *testing.T) {
	room := fracs(rats("-1/2 -3/4 3/8 5"))
	was := slices.Clone(room)
	b := pipe(api.Stopped, api.Open, "1x1 3x1")
	if n, all, e := heard.Fits(room[:3], b); n != 3 || !all || e != api.OK {
		t.Errorf("%d, %t, %d", n, all, e)
	}
	if !slices.Equal(room, was) || strings.Contains(name(b), "none") {
		t.Errorf("the numbers have become %s", shown(room))
	}
}
