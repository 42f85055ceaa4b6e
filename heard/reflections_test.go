package heard_test

import (
	"math/big"
	"math/rand"
	"slices"
	"strconv"
	"strings"
	"testing"

	"diapason/api"
	"diapason/heard"
	"diapason/residue"
)

// areReflections holds the answer for the first n of a list against the chapter's words.
func areReflections(t *testing.T, l []*big.Rat, n int) api.Errno {
	t.Helper()
	want, wrong := reflectionsOf(l, n)
	k, e := heard.Reflections(fracs(l), n)
	what := "Reflections of " + shown(fracs(l)) + ", " + strconv.Itoa(n)
	if wrong != api.OK {
		isNone(t, what, k, e, wrong)
	} else {
		isList(t, what, k, e, want)
	}
	return e
}

// P11.1: reflections of answers of chains, and of any numbers, against peels by the chapter's words.
func TestReflections(t *testing.T) {
	r := rand.New(rand.NewSource(1))
	count := map[api.Errno]int{}
	for range 400 {
		var l []*big.Rat
		switch n := 1 + r.Intn(8); r.Intn(3) {
		case 0:
			l = short(answerOf(anyNumbers(r, n, 1+r.Intn(2)), 1-2*r.Intn(2), n+r.Intn(4)))
		case 1:
			l = anyNumbers(r, n, 1+r.Intn(3))
		default:
			// They are so near to nought that there are many reflections.
			for _, x := range anyNumbers(r, 1+r.Intn(5), 1+r.Intn(90)) {
				l = append(l, over(x, whole(4)))
			}
		}
		for n := range min(len(l), api.MaxDegree-1) + 1 {
			count[areReflections(t, l, n)]++
		}
	}
	if count[api.OK] < 1000 || count[api.ErrHeard] < 300 || count[api.ErrLong] < 40 {
		t.Errorf("there are %v", count)
	}
}

// P11.1: all 31 reflections of long bores' answers, and of nothing but noughts.
func TestManyReflections(t *testing.T) {
	for _, b := range bores(2, 60) {
		k := chainOf(areasOf(b))
		if l := ownShort(b, len(k)); len(l) == len(k) {
			got, e := heard.Reflections(fracs(l), len(k))
			isList(t, "Reflections of "+name(b), got, e, k)
		}
	}
	got, e := heard.Reflections(fracs(noughts(128)), 31)
	isList(t, "noughts", got, e, noughts(31))
}

// P11.1: n from 0 to 31, and no more than there are numbers.
func TestHowManyReflections(t *testing.T) {
	for _, long := range []int{0, 1, 2, 30, 31, 32, 33, 127, 128} {
		l := noughts(long)
		for _, n := range []int{-1 << 31, -2, -1, 0, 1, 2, 3, 29, 30, 31, 32, 33, 34, 127, 128, 129, 1<<31 - 1} {
			what := strconv.Itoa(n) + " of " + strconv.Itoa(long)
			k, e := heard.Reflections(fracs(l), n)
			if n < 0 || n > 31 || n > long {
				isNone(t, what, k, e, api.ErrArg)
			} else {
				isList(t, what, k, e, noughts(n))
			}
		}
	}
}

// P11.1, and the rule for all calls: ErrLong of more than 128 numbers ahead of all else, then ErrArg, of numbers that are not needed too.
func TestReflectionsOfWrongAnswers(t *testing.T) {
	for _, n := range []int{-1, 0, 1, 31, 32, 129} {
		for _, l := range [][]api.Frac{make([]api.Frac, 129), fracs(noughts(129)), make([]api.Frac, 1<<16)} {
			k, e := heard.Reflections(l, n)
			isNone(t, "too many, "+strconv.Itoa(n), k, e, api.ErrLong)
		}
		for _, x := range noFractions() {
			for _, place := range []int{0, 1, 2, 127} {
				l := fracs(noughts(128))
				l[place] = x
				k, e := heard.Reflections(l, n)
				isNone(t, told(x)+" at "+strconv.Itoa(place), k, e, api.ErrArg)
			}
		}
		// What may not be goes ahead of what is no reflection.
		k, e := heard.Reflections([]api.Frac{frac(whole(2)), {}}, n)
		isNone(t, "2 and none", k, e, api.ErrArg)
	}
}

// P11.1: a reflection is above -1 and below 1, be it ever so near to these.
func TestReflectionsAtOne(t *testing.T) {
	most, near := greatest(), over(minus(greatest(), whole(1)), greatest())
	for _, x := range []*big.Rat{whole(1), rat("3/2"), over(most, minus(most, whole(1))), most} {
		for _, l := range [][]*big.Rat{{x}, {negated(x)}, {whole(0), x}, {whole(0), whole(0), negated(x), whole(0)}, {rat("1/2"), times(rat("3/4"), over(x, whole(3)))}} {
			for n := range len(l) + 1 {
				if len(short(l)) == len(l) {
					areReflections(t, l, n)
				}
			}
		}
	}
	for _, x := range []*big.Rat{near, negated(near)} {
		for _, l := range [][]*big.Rat{{x}, {whole(0), x}, {whole(0), x, whole(0)}} {
			k, e := heard.Reflections(fracs(l), len(l))
			isList(t, shown(fracs(l)), k, e, l)
		}
		// Behind it all but the nearest numbers are too great: those of nought alone are nought.
		l := []*big.Rat{x, over(whole(1), most), whole(0)}
		areReflections(t, l, 2)
		areReflections(t, l, 3)
		areReflections(t, []*big.Rat{x, rat("1/1000000")}, 2)
	}
	// 1/2 3/8 is 1/2 1/2; of 1/2 3/4 the second one is 1 just so.
	areReflections(t, rats("1/2 3/4 7"), 2)
	areReflections(t, rats("1/2 -3/4 7"), 3)
	areReflections(t, rats("1/2 3/8 9/32 7"), 3)
	areReflections(t, rats("1/2 3/8 9/32 7"), 4)
	areReflections(t, rats("1/2 3/8 -15/32 7"), 3)
}

// P11.1 (R7): reflections of MaxBytes bytes are told, those of one bit more are ErrLong.
func TestReflectionsAtTheBound(t *testing.T) {
	count := map[api.Errno]int{}
	for _, c := range []struct {
		l []*big.Rat
		e api.Errno
	}{
		{[]*big.Rat{over(whole(1), greatest())}, api.OK},
		{[]*big.Rat{rat("1/2"), over(whole(3), greatest())}, api.OK},
		// 4/3 over 2^n - 1, into which 3 goes or does not.
		{[]*big.Rat{rat("1/2"), over(whole(1), power2(4094, -1))}, api.OK},
		{[]*big.Rat{rat("1/2"), over(whole(1), power2(4095, 0))}, api.OK},
		{[]*big.Rat{rat("1/2"), over(whole(1), power2(4096, -1))}, api.ErrLong},
		{[]*big.Rat{rat("1/2"), over(whole(1), power2(4095, -1))}, api.ErrLong},
		{[]*big.Rat{over(whole(1), power2(2047, 0)), rat("1/3")}, api.OK},
		{[]*big.Rat{over(whole(1), power2(2047, 0)), rat("1/7")}, api.ErrLong},
		{[]*big.Rat{over(whole(1), power2(2048, 0)), rat("1/3")}, api.ErrLong},
	} {
		if e := areReflections(t, c.l, len(c.l)); e != c.e {
			t.Errorf("%s: %d, not %d", shown(fracs(c.l)), e, c.e)
		}
		count[c.e]++
	}
}

// P11.1: what is no reflection goes ahead of one that is too long, wherever it stands; and one that is too long, ahead of all others.
func TestReflectionsBehindLongOnes(t *testing.T) {
	r := rand.New(rand.NewSource(3))
	long := over(whole(1), power2(2100, 0))
	for _, end := range []string{"1/9", "-1/9", "2", "-2", "0", "1/9 1/9 1/9 2", "1/9 1/9 1/9 1/9", "9/10 1/9", "-9/10 0 0 0"} {
		l := append([]*big.Rat{long, rat("1/3")}, rats(end)...)
		for n := range len(l) + 1 {
			areReflections(t, l, n)
		}
	}
	// Numbers of 512 bytes each, 31 of them: reflections would have hundreds of thousands.
	for range 10 {
		var l []*big.Rat
		for _, x := range anyNumbers(r, 31, api.MaxBytes-1) {
			l = append(l, over(x, whole(40)))
		}
		k, e := heard.Reflections(fracs(l), 31)
		isNone(t, "31 numbers", k, e, api.ErrLong)
		l[30] = minus(whole(1), l[30])
		k, e = heard.Reflections(fracs(l), 30)
		isNone(t, "30 numbers", k, e, api.ErrLong)
		l[29] = minus(rat("11/10"), l[29])
		k, e = heard.Reflections(fracs(l), 31)
		isNone(t, "31 numbers, the last but one of which is too great", k, e, api.ErrHeard)
		k, e = heard.Reflections(fracs(l), 29)
		isNone(t, "the ones ahead of it", k, e, api.ErrLong)
	}
}

// P11.1 (R7): between there is no limit. Of x, (1 - x)/2, (1 - x)/4 and so on the reflection j, from 2 on, is 1 over j + 2 x; with x of 500 bytes all these are short, while numbers of peels have thousands of bytes.
func TestReflectionsByLongNumbers(t *testing.T) {
	r := rand.New(rand.NewSource(4))
	for range 6 {
		x := anyNumber(r, 500)
		x.Abs(x)
		l, want := []*big.Rat{x}, []*big.Rat{x}
		for n := int64(2); n < 32; n++ {
			l = append(l, over(minus(whole(1), x), power2(uint(n-1), 0)))
			want = append(want, over(whole(1), plus(whole(n), plus(x, x))))
		}
		k, e := heard.Reflections(fracs(l), 31)
		isList(t, "Reflections of "+shown(fracs(l)), k, e, want)
		if e := areReflections(t, l, 5); e != api.OK {
			t.Errorf("the first five: %d", e)
		}
		// Another number at one place leaves those ahead of it as they are, and makes its own one longer.
		l[4] = over(l[4], whole(3))
		areReflections(t, l, 4)
		if e := areReflections(t, l, 6); e != api.ErrLong {
			t.Errorf("one number is another one: %d", e)
		}
		l[20] = whole(1)
		k, e = heard.Reflections(fracs(l), 31)
		isNone(t, "1 at 20", k, e, api.ErrHeard)
	}
}

// P11.1: numbers, and reflections, that a great prime goes into, or leaves 1 or -1 of.
func TestReflectionsByAPrime(t *testing.T) {
	p := new(big.Rat).SetInt(new(big.Int).SetUint64(uint64(residue.Greatest)))
	one := over(whole(1), plus(p, whole(1)))
	tail := rats("1/9 1/10 -1/7")
	for _, l := range [][]*big.Rat{
		{one}, {negated(one)}, {rat("1/3"), times(rat("8/9"), one)}, {rat("1/3"), times(rat("-8/9"), one)},
		{over(whole(1), p)}, {over(p, greatest())}, {rat("1/3"), over(rat("1/2"), p)}, {over(minus(p, whole(1)), plus(p, p))},
		{over(whole(1), power2(2100, 0)), one}, {over(whole(1), power2(2100, 0)), negated(one), one},
		// By as little as p parts of 2^200 below 1, above it.
		{minus(whole(1), over(p, power2(200, 0)))}, {minus(over(p, power2(200, 0)), whole(1))}, {plus(whole(1), over(p, power2(200, 0)))},
		{rat("1/2"), times(rat("3/4"), minus(whole(1), over(p, power2(200, 0))))},
		{over(plus(p, whole(1)), p)}, {rat("1/3"), over(plus(p, whole(1)), whole(7))},
	} {
		areReflections(t, l, len(l))
		l = append(l, tail...)
		for n := range len(l) + 1 {
			areReflections(t, l, n)
		}
		areReflections(t, append(l, whole(3)), len(l)+1)
	}
}

// R5: what is handed in, and the room behind its end, is not changed; what is answered is new.
func TestReflectionsKeepNothing(t *testing.T) {
	room := fracs(rats("1/2 3/8 1/7 1/9"))
	was := slices.Clone(room)
	for range 2 {
		k, e := heard.Reflections(room[:2], 2)
		isList(t, "1/2 3/8", k, e, rats("1/2 1/2"))
		clear(k[:cap(k)])
		if !slices.Equal(room, was) {
			t.Fatalf("the numbers have become %s", shown(room))
		}
	}
	if k, e := heard.Reflections(room, 0); len(k) != 0 || e != api.OK {
		t.Errorf("none of %s: %s, %d", shown(room), shown(k), e)
	}
	if strings.Contains(shown(room), "none") {
		t.Error("numbers are gone")
	}
}
