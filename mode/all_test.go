package mode_test

import (
	"math"
	"slices"
	"strconv"
	"strings"
	"testing"

	"diapason/api"
	"diapason/mode"
)

// pair is a bore of two wide ends, far apart behind narrow necks: of its modes two each are ever nearer to one another, the narrower the necks are.
func pair(end, necks, below int) api.Bore {
	neck := "1/" + strconv.Itoa(below) + "x1 "
	return pipe(end, end, "65535x3 "+strings.Repeat(neck+"65535x1 ", necks)+neck+"65535x3")
}

// pairs are some, the modes of which are told apart by less than 256 bits or by more.
func pairs() []api.Bore {
	return []api.Bore{pair(api.Stopped, 3, 9), pair(api.Open, 7, 65535), pair(api.Stopped, 9, 1000), pair(api.Stopped, 8, 8040), pair(api.Stopped, 8, 8400), pair(api.Open, 12, 65535)}
}

// isAll holds All and Each against the chapter's words.
func isAll(t *testing.T, b api.Bore, bits int) {
	t.Helper()
	want, wantE := allOf(b, bits)
	what := name(b) + " at " + strconv.Itoa(bits)
	l, e := mode.All(b, bits)
	if wantE != api.OK {
		areNone(t, what, l, e, wantE)
	} else {
		areModes(t, what, l, e, want)
	}
	isEach(t, what, b, bits, want)
}

// P12.3, P12.4: all modes at few bits, where often more of them are needed.
func TestAll(t *testing.T) {
	t.Parallel()
	for i, b := range bores(3, 120) {
		isAll(t, b, i%4)
	}
}

// P12.3, P12.4: all modes at more bits.
func TestAllAtManyBits(t *testing.T) {
	t.Parallel()
	bits := []int{4, 5, 7, 8, 15, 16, 31, 32, 53, 63, 64, 65, 100, 127, 128, 129}
	for i, b := range bores(4, 30)[48:] {
		isAll(t, b, bits[i%len(bits)])
	}
}

// P12.3: all modes at as many bits as may be.
func TestAllAtMostBits(t *testing.T) {
	t.Parallel()
	list := []api.Bore{pipe(api.Stopped, api.Stopped, "1x1"), pipe(api.Open, api.Stopped, "1x1"), pipe(api.Stopped, api.Stopped, "1x12"), pipe(api.Open, api.Open, strings.Repeat("65535x1 1/65535x1 ", 16))}
	for _, b := range slices.Concat(list, longBores(2, 2), bores(5, 4)[80:]) {
		isAll(t, b, 255)
		isAll(t, b, 256)
	}
}

// P12.3: a gap one end of which is a mode, as a point, has one of its own beside it, as finely as is asked.
func TestAllBesidePoints(t *testing.T) {
	for _, c := range []struct {
		s    string
		bits int
		want string
	}{
		{"1x12", 0, "0 0to1/2 1/2to1 1 3/2to2 7/2to4 half"},
		{"1x12", 1, "0 0to1/2 1/2to1 1 3/2to2 7/2to4 half"},
		{"1x12", 2, "0 1/4to1/2 1/2to3/4 1 3/2to7/4 7/2to15/4 half"},
		{"1x12", 6, "0 17/64to9/32 9/16to37/64 1 55/32to111/64 119/32to239/64 half"},
		{"1x8", 0, "0 0to1 1 2to3 half"},
		{"1x8", 5, "0 13/32to7/16 1 77/32to39/16 half"},
		{"1x4", 256, "0 1 half"},
	} {
		for _, b := range []api.Bore{pipe(api.Stopped, api.Stopped, c.s), pipe(api.Open, api.Open, c.s)} {
			l, e := mode.All(b, c.bits)
			areModes(t, name(b)+" at "+strconv.Itoa(c.bits), l, e, modesOf(c.want))
			isAll(t, b, c.bits)
		}
	}
}

// P12.3: modes that are points: where they are asked for at fewer bits they lie in a cell, unless they are points of those too; and one may end the cell of another one.
func TestAllOfPoints(t *testing.T) {
	for _, c := range []struct {
		far                  int
		s                    string
		coarse, finer, exact string // told at 0, at 1, from 3 on
	}{
		{api.Open, "1x1 7/18x1 427/36x1 549/128x1", "1/2 1/2to1", "1/2 1/2to1", "1/2 3/4"},
		{api.Stopped, "1x1 28/97x1 17080/6693x1 4880/21137x1 2560/2757x1", "0 1/2 1/2to1", "0 1/2 1/2to1", "0 1/2 3/4"},
		{api.Open, "1x1 11/74x1 4279/1332x1 389/1152x1", "0to1/2 1/2", "0to1/2 1/2", "1/4 1/2"},
		{api.Open, "1x1 7/58x1 1295/1044x1 185/4608x1", "0to1/2 1/2", "0to1/2 1/2", "1/8 1/2"},
		{api.Open, "1/3x1 47/54x1 19787/108x1 61887/128x1", "3/2 3/2to2", "3/2 3/2to2", "3/2 7/4"},
		{api.Open, "1x1 29/36x1 5713/2304x1 1773/1024x1", "0to1 1to2", "1/2 3/2", "1/2 3/2"},
		{api.Open, "1x1 49/36x1 9065/9216x1 14985/4096x1", "0to1 4to5", "1/2 9/2", "1/2 9/2"},
		{api.Open, "1x1 171/154x1 24719/2772x1 1301/128x1", "0to1 1to2", "1/2to1 3/2", "3/4 3/2"},
		{api.Open, "1/3x1 111/392x1 64417/9408x1 47007/8192x1", "0to1 1to2", "1/2to1 1to3/2", "3/4 9/8"},
		{api.Open, "1x1 19/6x1 1615/174x1 11815/232x1 6255/8x1", "1 3 half", "1 3 half", "1 3 half"},
		{api.Stopped, "1x1 13/12x1 2665/1284x1 14760/28997x1 90/271x1", "0 1 2", "0 1 2", "0 1 2"},
		{api.Stopped, "1x1 19/11x1 1938/1177x1 4726/3959x1 3336/8399x1 8/227x1", "0 1 3 half", "0 1 3 half", "0 1 3 half"},
	} {
		b := pipe(api.Stopped, c.far, c.s)
		for bits, want := range map[int]string{0: c.coarse, 1: c.finer, 3: c.exact, 4: c.exact, 256: c.exact} {
			l, e := mode.All(b, bits)
			areModes(t, name(b)+" at "+strconv.Itoa(bits), l, e, modesOf(want))
			isAll(t, b, bits)
		}
	}
}

// P12.3: ErrRoot is told just where a cell of 256 has two modes, whatever the bits are; errors of the bits go ahead of it.
func TestAllOfPairs(t *testing.T) {
	t.Parallel()
	for _, c := range []struct{ end, necks, below, least, bits int }{
		{api.Stopped, 8, 7800, 255, 256}, {api.Stopped, 8, 8040, 256, 0}, {api.Stopped, 8, 8120, 256, 256}, {api.Stopped, 8, 8400, 257, 0}, {api.Stopped, 8, 8400, 257, 256}, {api.Stopped, 8, 9800, 258, 255}, {api.Stopped, 12, 65535, 409, 1}, {api.Open, 12, 65535, 391, 256},
	} {
		b := pair(c.end, c.necks, c.below)
		if _, least := halved(wholes(boresLine(b))); least != c.least {
			t.Fatalf("%s: the cells of %d bits are apart", name(b), least)
		}
		isAll(t, b, c.bits)
		for _, bits := range []int{-1, math.MinInt} {
			l, e := mode.All(b, bits)
			areNone(t, name(b), l, e, api.ErrArg)
		}
		for _, bits := range []int{257, math.MaxInt} {
			l, e := mode.All(b, bits)
			areNone(t, name(b), l, e, api.ErrLong)
		}
	}
}

// P12.3: bits that may not be.
func TestAllErrors(t *testing.T) {
	t.Parallel()
	for _, b := range bores(6, 10) {
		for _, bits := range []int{-1, -2, -256, -257, math.MinInt32, math.MinInt} {
			l, e := mode.All(b, bits)
			areNone(t, strconv.Itoa(bits), l, e, api.ErrArg)
			isEach(t, strconv.Itoa(bits), b, bits, nil)
		}
		for _, bits := range []int{257, 258, 512, 1 << 20, math.MaxInt32, math.MaxInt} {
			l, e := mode.All(b, bits)
			areNone(t, strconv.Itoa(bits), l, e, api.ErrLong)
			isEach(t, strconv.Itoa(bits), b, bits, nil)
		}
	}
}

// P12.3: modes that are as far from 0 as bores have them, and the longest numbers that are told.
func TestAllOfFarOnes(t *testing.T) {
	t.Parallel()
	longest := 0
	for _, c := range []struct {
		b    api.Bore
		bits int
	}{
		{pipe(api.Open, api.Stopped, strings.Repeat("65535x1 1/65535x1 ", 16)), 40}, {pipe(api.Stopped, api.Open, "65535x2 "+strings.Repeat("1/65535x1 65535x1 ", 14)+"1/65535x2"), 0},
		{pipe(api.Open, api.Open, strings.Repeat("65535x1 1/65535x1 ", 8)+strings.Repeat("1/65535x1 65535x1 ", 8)), 256},
	} {
		isAll(t, c.b, c.bits)
		l, _ := mode.All(c.b, c.bits)
		for _, m := range l {
			longest = max(longest, len(m.Gap.Hi.Num))
		}
	}
	if longest < 62 {
		t.Errorf("%d bytes are the most", longest)
	}
}
