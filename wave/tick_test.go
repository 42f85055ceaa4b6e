package wave_test

import (
	"math/big"
	"math/rand"
	"strconv"
	"testing"

	"diapason/api"
)

// P10.3, P10.4: ticks in bores of all kinds, with pushes between them, until a number is too long; then all stays as it was.
func TestTick(t *testing.T) {
	r := rand.New(rand.NewSource(4))
	var count [2]int
	for _, b := range bores(4, 150) {
		w, m := begin(t, b)
		bytes := []int{1, 1, 4, 60, 511, 512}[r.Intn(6)]
		for range 60 {
			if r.Intn(3) == 0 {
				puts(t, name(b), w, m, anyPush(r, bytes))
			}
			if !ticks(t, name(b), w, m) {
				count[1]++
				isAs(t, "no tick in "+name(b), w, m)
				break
			}
			count[0]++
			isAs(t, "a tick in "+name(b), w, m)
		}
	}
	if count[0] < 2000 || count[1] < 50 {
		t.Errorf("%v were done, and were not", count)
	}
}

// P10.3: a wave without a tick that is too long goes on for MaxTicks ticks, and not for one more; all else goes on.
func TestMaxTicks(t *testing.T) {
	for _, s := range []string{"1x1", "2/3x32", "1x16 3x16", "1x1 3x1"} {
		w, m := begin(t, pipe(api.Stopped, api.Open, s))
		puts(t, s, w, m, whole(1))
		for range api.MaxTicks - 1 {
			ticks(t, s, w, m)
		}
		other, otherModel := w.Copy(), m.copied()
		if !ticks(t, s, w, m) || w.Now() != api.MaxTicks {
			t.Errorf("%s: Now = %d", s, w.Now())
		}
		for range 3 {
			if ticks(t, s, w, m) {
				t.Errorf("%s: a tick behind the last one", s)
			}
			isAs(t, s, w, m)
			puts(t, s, w, m, whole(1))
			isAs(t, s, w, m)
			ticks(t, s, w.Copy(), m.copied())
		}
		puts(t, s, other, otherModel, rat("2/7"))
		if !ticks(t, s, other, otherModel) || ticks(t, s, other, otherModel) {
			t.Errorf("%s: Now of the copy = %d", s, other.Now())
		}
		isAs(t, s, other, otherModel)
	}
}

// P10.3: the new numbers may have MaxBytes bytes above and below, and not one more, wherever the border stands.
func TestTickAtTheBound(t *testing.T) {
	g, top := greatest(), power2(4095, 0)
	sixth := over(minus(g, whole(3)), whole(6))
	for i, c := range []struct {
		s, t string
		x    *big.Rat
		ok   bool
	}{
		{"1", "1", g, true},
		{"1", "1", over(whole(1), g), true},
		// What goes on and what is thrown back, of 1: 1/2 and -1/2.
		{"1", "3", over(whole(1), top), false},
		{"1", "3", over(whole(1), power2(4094, 0)), true},
		{"1", "3", over(whole(3), top), false},
		{"1", "3", g, true},
		// 3/2 and 1/2: what goes on alone is too long above, both are below.
		{"3", "1", g, false},
		{"3", "1", top, true},
		{"3", "1", minus(top, whole(1)), false},
		{"3", "1", times(rat("3/2"), top), false},
		{"3", "1", over(whole(1), top), false},
		// 2/3 and -1/3.
		{"1", "2", over(whole(1), g), false},
		{"1", "2", over(whole(3), g), true},
		{"1", "2", over(whole(1), over(plus(g, whole(-3)), whole(3))), true},
		// 2/5 and -3/5; 6/5 and 1/5.
		{"1", "4", over(whole(5), g), true},
		{"3", "2", times(whole(5), sixth), true},
		{"3", "2", times(whole(5), plus(sixth, whole(1))), false},
	} {
		for ahead := 1; ahead <= 4; ahead++ {
			b := pipe(api.Stopped, api.Open, c.s+"x"+strconv.Itoa(ahead)+" "+c.t+"x2")
			w, m := begin(t, b)
			puts(t, name(b), w, m, c.x)
			for range ahead - 1 {
				ticks(t, name(b), w, m)
			}
			if w.Now() != ahead-1 || ticks(t, name(b), w, m) != c.ok {
				t.Errorf("case %d, %d ahead, is not what it says", i, ahead)
			}
			isAs(t, name(b), w, m)
		}
	}
}

// P10.3, R7: what is between a tick's numbers has no limit: here forth less back has more than MaxBytes bytes, what becomes of them has not.
func TestTickByLongNumbers(t *testing.T) {
	// 1x1 4x1 has the reflection -3/5: of forth 5/x and back 5/6 come 2/x + 1/2 and 4/3 - 3/x. Their denominators are 2 x and 3 x, as 2, 3 and 5 don't go into x; their difference's is 6 x.
	x := minus(over(greatest(), whole(5)), whole(4))
	for new(big.Int).GCD(nil, nil, x.Num(), big.NewInt(30)).Int64() != 1 {
		x = minus(x, whole(1))
	}
	w, m := begin(t, pipe(api.Stopped, api.Stopped, "1x1 4x1"))
	puts(t, "ahead", w, m, rat("25/12"))
	ticks(t, "ahead", w, m)
	ticks(t, "ahead", w, m)
	puts(t, "behind", w, m, minus(over(whole(5), x), m.forth[0]))
	if m.back[1].Cmp(rat("5/6")) != 0 || m.forth[0].Cmp(over(whole(5), x)) != 0 || !isLong(minus(m.forth[0], m.back[1])) {
		t.Fatalf("forth %s, back %s", told(frac(m.forth[0])), told(frac(m.back[1])))
	}
	if !ticks(t, "by a long one", w, m) {
		t.Error("there was no tick")
	}
	isAs(t, "by a long one", w, m)
}
