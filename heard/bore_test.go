package heard_test

import (
	"math/big"
	"math/rand"
	"slices"
	"strconv"
	"strings"
	"testing"

	"diapason/api"
	"diapason/heard"
	"diapason/residue"
)

// isHeard holds what is heard in an answer against the chapter's words.
func isHeard(t *testing.T, l []*big.Rat, long int, first *big.Rat, far int) api.Errno {
	t.Helper()
	want, wrong := heardIn(l, long, first, far)
	b, e := heard.Bore(fracs(l), long, frac(first), far)
	what := "Bore of " + shown(fracs(l)) + ", " + strconv.Itoa(long) + ", " + cut(first.RatString()) + ", " + strconv.Itoa(far)
	if wrong != api.OK {
		isNoBore(t, what, b, e, wrong)
	} else {
		isBore(t, what, b, e, want)
	}
	return e
}

// P11.2: answers of bores, with other lengths, first areas and ends too, against peels by the chapter's words.
func TestBore(t *testing.T) {
	r := rand.New(rand.NewSource(1))
	count := map[api.Errno]int{}
	for range 250 {
		b := anyBore(r)
		cells := areasOf(b)[:1+r.Intn(min(9, len(areasOf(b))))]
		b = boreOf(cells, b.Far)
		l := short(own(b, len(cells)+r.Intn(7)))
		for _, long := range []int{len(cells) - 1, len(cells), len(cells) + 1} {
			if long < 1 || long > len(l) {
				continue
			}
			for _, far := range []int{api.Stopped, api.Open} {
				count[isHeard(t, l, long, cells[0], far)]++
				count[isHeard(t, l, long, anyArea(r, 9), far)]++
			}
		}
	}
	if count[api.OK] < 200 || count[api.ErrHeard] < 600 || count[api.ErrLong] < 40 {
		t.Errorf("there are %v", count)
	}
}

// P11.2: numbers of any kind.
func TestBoreOfAnyNumbers(t *testing.T) {
	r := rand.New(rand.NewSource(2))
	few := rats("0 0 0 1 -1 1/2 -1/2 3/4 -3/4 3/8 2")
	count := map[api.Errno]int{}
	for range 3000 {
		var l []*big.Rat
		for range 1 + r.Intn(5) {
			l = append(l, few[r.Intn(len(few))])
		}
		count[isHeard(t, l, 1+r.Intn(len(l)), anyArea(r, 5), 1+r.Intn(2))]++
	}
	if count[api.OK] < 50 || count[api.ErrHeard] < 1000 {
		t.Errorf("there are %v", count)
	}
}

// P11.2: bores of up to 32 cells, by just as many numbers as they have cells, and by 128.
func TestBoreOfManyCells(t *testing.T) {
	done := 0
	for _, b := range bores(3, 40) {
		cells := areasOf(b)
		all := ownShort(b, 128)
		want := boreOf(cells, b.Far)
		for _, n := range []int{len(cells), len(cells) + 1, 100, 128} {
			if n > len(all) {
				continue
			}
			got, e := heard.Bore(fracs(all[:n]), len(cells), b.Pieces[0].Area, b.Far)
			isBore(t, name(b)+" of "+strconv.Itoa(n), got, e, want)
			done++
		}
	}
	if done < 60 {
		t.Errorf("%d answers", done)
	}
}

// P11.2: long is from 1 to 32, and no more than there are numbers.
func TestHowLongABore(t *testing.T) {
	one := frac(whole(1))
	for _, n := range []int{0, 1, 2, 31, 32, 33, 127, 128} {
		for _, long := range []int{-1 << 31, -1, 0, 1, 2, 3, 30, 31, 32, 33, 34, 127, 128, 129, 1<<31 - 1} {
			l := noughts(n)
			if long >= 1 && long <= n {
				l[long-1] = whole(1)
			}
			what := strconv.Itoa(long) + " of " + strconv.Itoa(n)
			b, e := heard.Bore(fracs(l), long, one, api.Stopped)
			if long < 1 || long > 32 || long > n {
				isNoBore(t, what, b, e, api.ErrArg)
			} else {
				isBore(t, what, b, e, pipe(api.Open, api.Stopped, "1x"+strconv.Itoa(long)))
			}
			// What is no bore's answer comes behind it.
			want := api.ErrHeard
			if long < 1 || long > 32 || long > n {
				want = api.ErrArg
			}
			for i := range l {
				l[i] = whole(5)
			}
			b, e = heard.Bore(fracs(l), long, one, api.Stopped)
			isNoBore(t, what+", no bore's", b, e, want)
		}
	}
}

// P11.2: wrong first areas and ends, wrong answers; ErrLong of too many numbers ahead of all else.
func TestBoreOfWrongArguments(t *testing.T) {
	l, one := fracs(rats("-1/2 -3/4 3/8")), frac(whole(1))
	wrong := append(noFractions(), fracs(rats("0 -1 65536 1/65536 65537/65536 -65535"))...)
	for _, first := range append(wrong, frac(greatest())) {
		// What is no bore's answer comes behind it.
		for _, answer := range [][]api.Frac{l, fracs(rats("5 5"))} {
			b, e := heard.Bore(answer, 2, first, api.Open)
			isNoBore(t, "first "+told(first), b, e, api.ErrArg)
		}
	}
	for _, far := range []int{0, 3, -1, 1 << 30, -1 << 31} {
		b, e := heard.Bore(l, 2, one, far)
		isNoBore(t, "far "+strconv.Itoa(far), b, e, api.ErrArg)
	}
	for _, long := range []int{-1, 0, 1, 32, 33, 129} {
		for _, far := range []int{api.Open, 0} {
			for _, first := range []api.Frac{one, {}} {
				for _, l := range [][]api.Frac{make([]api.Frac, 129), fracs(noughts(129)), make([]api.Frac, 1<<16)} {
					b, e := heard.Bore(l, long, first, far)
					isNoBore(t, "too many", b, e, api.ErrLong)
				}
			}
		}
	}
	for _, x := range noFractions() {
		for _, place := range []int{0, 1, 2, 127} {
			l := fracs(noughts(128))
			l[1] = one
			l[place] = x
			b, e := heard.Bore(l, 2, one, api.Stopped)
			isNoBore(t, told(x)+" at "+strconv.Itoa(place), b, e, api.ErrArg)
		}
	}
}

// P11.2: areas up to MaxArea are told, above it there is ErrLong; but what no bore of whatever areas answers is ErrHeard.
func TestBoreOfGreatAreas(t *testing.T) {
	for _, c := range []struct {
		areas string
		e     api.Errno
	}{
		{"1 65535", api.OK}, {"1 65536", api.ErrLong}, {"1 1/65535", api.OK}, {"1 1/65536", api.ErrLong},
		{"65535 1", api.OK}, {"65535 1/65535 65535", api.OK}, {"1 65536 1", api.ErrLong}, {"1 2 3 65537/65536 1", api.ErrLong},
		{"2 65535/65534", api.OK}, {"1 2 3 4 5 65536", api.ErrLong}, {"1 65536 65536 1 1", api.ErrLong},
	} {
		cells := rats(c.areas)
		for _, far := range []int{api.Stopped, api.Open} {
			l := own(boreOf(cells, far), len(cells)+3)
			if e := isHeard(t, l, len(cells), cells[0], far); e != c.e {
				t.Errorf("%s: %d, not %d", c.areas, e, c.e)
			}
			for i := range l {
				turned := slices.Clone(l)
				turned[i] = plus(l[i], rat("1/1000"))
				isHeard(t, turned, len(cells), cells[0], far)
				turned[i] = over(l[i], whole(3))
				isHeard(t, turned, len(cells), cells[0], far)
			}
		}
	}
	// By the first area alone, and by a first area that is just within.
	l := rats("-1/2 -3/4 3/8")
	for _, first := range []string{"21845", "21846", "65535", "1/65535", "3/65535", "1/21845", "2/65535"} {
		isHeard(t, l, 2, rat(first), api.Open)
	}
}

// P11.2: cells of whatever areas: with reflections of hundreds of bytes it is ErrLong, or ErrHeard, as it fits or not.
func TestBoreOfLongReflections(t *testing.T) {
	r := rand.New(rand.NewSource(4))
	for _, bytes := range []int{5, 9, 40, 80} {
		for range 6 {
			k := anyNumbers(r, 1+r.Intn(4), bytes)
			far := 1 + r.Intn(2)
			l := short(answerOf(k, int(signs[far]), 12))
			if len(l) <= len(k) {
				continue
			}
			if e := isHeard(t, l, len(k)+1, whole(1), far); e != api.ErrLong {
				t.Errorf("%s: %d", shown(fracs(k)), e)
			}
			for _, i := range []int{0, len(k), len(l) - 1} {
				turned := slices.Clone(l)
				turned[i] = over(l[i], whole(2))
				isHeard(t, turned, len(k)+1, whole(1), far)
			}
		}
	}
	// A reflection of more than MaxBytes bytes.
	long := over(whole(1), power2(2100, 0))
	for _, s := range []string{"1/3", "1/3 1/5", "1/3 1/5 7", "1/3 7 7", "1/3 -1"} {
		l := append([]*big.Rat{long}, rats(s)...)
		for n := range len(l) {
			isHeard(t, l, n+1, whole(1), api.Stopped)
		}
	}
	// The longest reflection of two cells: 1 - k k is a number of 512 bytes.
	k := over(whole(1), power2(2047, 0))
	for _, end := range []*big.Rat{minus(whole(1), times(k, k)), over(minus(power2(4094, 0), whole(2)), power2(4094, 0)), whole(1)} {
		want := api.ErrHeard
		if end.Cmp(minus(whole(1), times(k, k))) == 0 {
			want = api.ErrLong
		}
		if e := isHeard(t, []*big.Rat{k, end}, 2, whole(1), api.Stopped); e != want {
			t.Errorf("1 over 2^2047, and then %s: %d, not %d", cut(end.RatString()), e, want)
		}
	}
}

// P11.2: 128 numbers of 512 bytes each are no bore's, and are soon told to be none; nor is a bore's answer with such numbers behind it.
func TestBoreOfLongNumbers(t *testing.T) {
	r := rand.New(rand.NewSource(5))
	l := anyNumbers(r, 128, api.MaxBytes)
	for _, long := range []int{1, 2, 31, 32} {
		b, e := heard.Bore(fracs(l), long, frac(whole(1)), api.Open)
		isNoBore(t, "any numbers", b, e, api.ErrHeard)
	}
	b := pipe(api.Open, api.Open, strings.Repeat("1x1 3x1 ", 16))
	l = append(own(b, 33), anyNumbers(r, 95, api.MaxBytes)...)
	got, e := heard.Bore(fracs(l), 32, frac(whole(1)), api.Open)
	isNoBore(t, "any numbers behind", got, e, api.ErrHeard)
	got, e = heard.Bore(fracs(l[:33]), 32, frac(whole(1)), api.Open)
	isBore(t, "33 of them", got, e, b)
}

// P11.2: numbers that are off by a great prime are off.
func TestBoreByAPrime(t *testing.T) {
	p := new(big.Rat).SetInt(new(big.Int).SetUint64(uint64(residue.Greatest)))
	for _, s := range []string{"1", "1 3", "1 3 3 2", "5/3 2 7 7 1"} {
		cells := rats(s)
		for _, far := range []int{api.Stopped, api.Open} {
			l := own(boreOf(cells, far), len(cells)+4)
			isHeard(t, l, len(cells), cells[0], far)
			for i := range l {
				for _, off := range []*big.Rat{p, negated(p), over(p, power2(64, 0)), over(p, power2(90, 0)), over(whole(1), p), over(p, greatest())} {
					turned := slices.Clone(l)
					turned[i] = plus(l[i], off)
					if len(short(turned)) == len(turned) {
						isHeard(t, turned, len(cells), cells[0], far)
					}
				}
			}
		}
	}
}

// P11.2: neighbours of one area are one piece, whatever stands between others of that area.
func TestBoreIsSimple(t *testing.T) {
	for _, s := range []string{"1x3", "1x1 2x2", "1x2 2x1", "2x2 3x3 2x2", "1x1 2x1 1x1", "7/5x32", "1x5 3x1 1x5", "1x16 3x16"} {
		for _, far := range []int{api.Stopped, api.Open} {
			want := pipe(api.Open, far, s)
			cells := areasOf(want)
			b, e := heard.Bore(fracs(own(want, len(cells)+1)), len(cells), want.Pieces[0].Area, far)
			isBore(t, s, b, e, want)
		}
	}
}

// R5: what is handed in, and the room behind its end, is not changed; what is answered is new.
func TestBoreKeepsNothing(t *testing.T) {
	room := fracs(rats("-1/2 0 -3/4 5 6"))
	was := slices.Clone(room)
	for range 2 {
		b, e := heard.Bore(room[:3], 3, frac(whole(1)), api.Open)
		isBore(t, "three of them", b, e, pipe(api.Open, api.Open, "1x1 3x2"))
		clear(b.Pieces[:cap(b.Pieces)])
		if !slices.Equal(room, was) {
			t.Fatalf("the numbers have become %s", shown(room))
		}
	}
}
