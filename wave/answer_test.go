package wave_test

import (
	"math/big"
	"math/rand"
	"slices"
	"strconv"
	"strings"
	"testing"

	"diapason/api"
	"diapason/schur"
	"diapason/wave"
)

// answers are the first ones by the chapter's own words, at most so many, and up to the first one that is too long.
func answers(b api.Bore, most int) (l []*big.Rat, isShort bool) {
	m := silent(b)
	for range most {
		m.tick()
		came := m.tick()
		if isLong(came) {
			return l, false
		}
		l = append(l, came)
	}
	return l, true
}

// P10.5: answers of bores of all kinds, against ticks with a mouth that throws nothing back.
func TestAnswer(t *testing.T) {
	var count [2]int
	for _, b := range bores(6, 100) {
		want, isShort := answers(b, 60)
		for _, n := range []int{0, 1, 2, len(want) / 2, len(want)} {
			if n <= len(want) {
				l, e := wave.Answer(b, n)
				isList(t, "Answer of "+name(b), l, e, want[:n])
			}
		}
		if isShort {
			count[1]++
			continue
		}
		count[0]++
		for _, n := range []int{len(want) + 1, len(want) + 2, 100, api.MaxTicks} {
			l, e := wave.Answer(b, n)
			isNone(t, "Answer of "+name(b), l, e, api.ErrLong)
		}
	}
	if count[0] < 15 || count[1] < 30 {
		t.Errorf("%v have a long answer, and have none", count)
	}
}

// P10.5: up to MaxTicks answers; one that is MaxBytes bytes long, and one that has a byte more.
func TestAnswerAtTheBound(t *testing.T) {
	// Of 1x1 3x1, stopped at the far end, the answers but the first one are 3 over 4, 8, 16 and so on: the one of the number 4095 is 3 over 2^4095.
	b := pipe(api.Stopped, api.Stopped, "1x1 3x1")
	want := []*big.Rat{rat("-1/2")}
	for i := uint(2); i <= 4095; i++ {
		want = append(want, over(whole(3), power2(i, 0)))
	}
	l, e := wave.Answer(b, 4095)
	isList(t, "4095", l, e, want)
	l, e = wave.Answer(b, 4096)
	isNone(t, "4096", l, e, api.ErrLong)
	for _, s := range []string{"1x1", "3/2x32", "1x16 3x16"} {
		b := pipe(api.Open, api.Open, s)
		want, _ := answers(b, api.MaxTicks)
		l, e := wave.Answer(b, api.MaxTicks)
		isList(t, "as many as there may be of "+s, l, e, want)
	}
}

// P10.5: what is between has no limit: there are short answers when long ago numbers farther on have been too long for any tick.
func TestAnswerByLongNumbers(t *testing.T) {
	r := rand.New(rand.NewSource(7))
	for range 5 {
		b := pipe(api.Open, api.Stopped, "1x15")
		for range 17 {
			b.Pieces = append(b.Pieces, api.Piece{Area: frac(big.NewRat(40000+r.Int63n(25000), 40000+r.Int63n(25000))), Long: 1})
		}
		want, isShort := answers(b, 100)
		if isShort {
			t.Fatalf("%s has no long answer", name(b))
		}
		m := silent(b)
		for !m.isLong() {
			m.tick()
		}
		if m.ticks+10 > 2*len(want) {
			t.Errorf("%s: %d answers are short, a number is long at the tick %d", name(b), len(want), m.ticks)
		}
		l, e := wave.Answer(b, len(want))
		isList(t, "Answer of "+name(b), l, e, want)
	}
}

// P10.5: wrong arguments, ErrArg ahead of ErrLong.
func TestAnswerOfWrongArguments(t *testing.T) {
	b := pipe(api.Stopped, api.Open, "1x1 3x1")
	for _, n := range []int{-1, -2, -4097, -1 << 31} {
		l, e := wave.Answer(b, n)
		isNone(t, "Answer of "+strconv.Itoa(n), l, e, api.ErrArg)
	}
	for _, n := range []int{4097, 4098, 1 << 20, 1<<31 - 1} {
		l, e := wave.Answer(b, n)
		isNone(t, "Answer of "+strconv.Itoa(n), l, e, api.ErrLong)
	}
	for _, b := range noBores() {
		for _, n := range []int{-1, 0, 1, 4096, 4097} {
			l, e := wave.Answer(b, n)
			isNone(t, "Answer of "+name(b), l, e, api.ErrArg)
		}
	}
}

// P10.5: the near end has no part in the answers.
func TestAnswerOfBothNearEnds(t *testing.T) {
	for _, b := range bores(8, 40) {
		l, e := wave.Answer(b, 12)
		b.Near = api.Stopped + api.Open - b.Near
		other, f := wave.Answer(b, 12)
		if !slices.Equal(l, other) || e != f {
			t.Errorf("of %s: %s, %d, and %s, %d", name(b), shown(l), e, shown(other), f)
		}
	}
}

// P10.7: over times the series of the answers is under.
func TestAnswersAreASeries(t *testing.T) {
	for _, b := range bores(9, 60) {
		m := newModel(b)
		far := int(signs[b.Far])
		up, down, e := schur.Forward(api.Chain{K: fracs(m.k), Far: far})
		if e != api.OK {
			t.Fatalf("Forward of %s: %d", name(b), e)
		}
		l, e := wave.Answer(b, 14)
		if e == api.ErrLong {
			continue
		}
		for i := range 15 {
			sum := whole(0)
			for k, c := range down {
				if at := i - k; at > 0 {
					sum = plus(sum, times(value(c), value(l[at-1])))
				}
			}
			want := whole(0)
			if i < len(up) {
				want = value(up[i])
			}
			if sum.Cmp(want) != 0 {
				t.Errorf("%s at %d: %s, not %s", name(b), i, sum, want)
			}
		}
	}
}

// P10.7: an answer hangs on no cell that is farther than it: those up to the number i are the same, if the first i + 1 cells are.
func TestAnswersOfTheFirstCells(t *testing.T) {
	r := rand.New(rand.NewSource(10))
	for range 100 {
		b, other := anyBore(r), anyBore(r)
		areas := newModel(b).areas
		i := r.Intn(len(areas))
		left := api.MaxDegree - (i + 1)
		same := api.Bore{Near: 1 + r.Intn(2), Far: other.Far}
		for _, area := range areas[:i+1] {
			same.Pieces = append(same.Pieces, api.Piece{Area: frac(area), Long: 1})
		}
		for _, area := range newModel(other).areas {
			if left--; left >= 0 {
				same.Pieces = append(same.Pieces, api.Piece{Area: frac(area), Long: 1})
			}
		}
		l, e := wave.Answer(b, i)
		again, f := wave.Answer(same, i)
		if !slices.Equal(l, again) || e != f {
			t.Errorf("%s: %s, %d; %s: %s, %d", name(b), shown(l), e, name(same), shown(again), f)
		}
	}
	// The next answer tells of the far end, and of one cell more.
	for _, s := range []string{"1x3", "1x3 2x1"} {
		l, e := wave.Answer(pipe(api.Open, api.Stopped, s), 3)
		other, f := wave.Answer(pipe(api.Open, api.Open, s), 3)
		if isSame := slices.Equal(l, other); e != api.OK || f != api.OK || isSame != strings.Contains(s, "2") {
			t.Errorf("%s: %s and %s", s, shown(l), shown(other))
		}
	}
}

// R5: what is answered is new.
func TestAnswersAreNew(t *testing.T) {
	b := pipe(api.Stopped, api.Open, "1x1 3x1")
	for range 2 {
		l, e := wave.Answer(b, 3)
		isList(t, "Answer", l, e, rats("-1/2 -3/4 3/8"))
		clear(l[:cap(l)])
	}
}
