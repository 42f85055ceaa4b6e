package mode_test

import (
	"testing"

	"diapason/api"
	"diapason/mode"
)

// The chapter's examples, row by row; of DOC.md's the first one is among them.

func TestExamplesOfPoly(t *testing.T) {
	for _, c := range []struct {
		b    api.Bore
		poly string
	}{
		{pipe(api.Stopped, api.Stopped, "1x2"), "1 0 -1"},
		{pipe(api.Open, api.Stopped, "1x2"), "1 0 1"},
		{pipe(api.Stopped, api.Stopped, "1x1 3x1"), "1 0 -1"},
	} {
		p, e := mode.Poly(c.b)
		isPoly(t, name(c.b), p, e, polyOf(c.poly))
	}
}

func TestExamplesOfLine(t *testing.T) {
	for _, c := range []struct {
		b    api.Bore
		line string
	}{
		{pipe(api.Stopped, api.Stopped, "1x2"), "0 -4"},
		{pipe(api.Open, api.Stopped, "1x2"), "2 0 -2"},
		{pipe(api.Open, api.Open, "1x1 3x1"), "0 -4"},
	} {
		p, e := mode.Line(c.b)
		isPoly(t, name(c.b), p, e, polyOf(c.line))
	}
}

func TestExamplesOfAll(t *testing.T) {
	for _, c := range []struct {
		b    api.Bore
		bits int
		want string
	}{
		{pipe(api.Stopped, api.Stopped, "1x2"), 0, "0 half"},
		{pipe(api.Open, api.Stopped, "1x2"), 0, "1"},
		{pipe(api.Open, api.Stopped, "1x2"), 3, "1"},
		{pipe(api.Stopped, api.Stopped, "1x3"), 0, "0 1to2"},
		{pipe(api.Stopped, api.Stopped, "1x3"), 3, "0 13/8to7/4"},
		{pipe(api.Stopped, api.Open, "1x1 3x1"), 2, "3/2to7/4"},
	} {
		l, e := mode.All(c.b, c.bits)
		areModes(t, name(c.b), l, e, modesOf(c.want))
	}
	for _, b := range fourEnds("1x2") {
		l, e := mode.All(b, -1)
		areNone(t, "-1", l, e, api.ErrArg)
		l, e = mode.All(b, 257)
		areNone(t, "257", l, e, api.ErrLong)
	}
}

func TestExamplesOfCount(t *testing.T) {
	b := pipe(api.Stopped, api.Stopped, "1x3")
	n, e := mode.Count(b, gap(whole(-2), whole(2)))
	isNumber(t, "-2 to 2", n, e, 3, api.OK)
	n, e = mode.Count(b, gap(whole(0), whole(1)))
	isNumber(t, "0 to 1", n, e, 1, api.OK)
	n, e = mode.Count(b, gap(whole(2), whole(1)))
	isNumber(t, "2 to 1", n, e, 0, api.ErrArg)
}

func TestExamplesOfAhead(t *testing.T) {
	for _, c := range []struct {
		a, b string
		want bool
	}{
		{"0", "1to2", true}, {"1to2", "half", true}, {"half", "half", false}, {"1to2", "1to2", false}, {"1", "1to2", true}, {"1", "1", false},
	} {
		is, e := mode.Ahead(modeOf(c.a), modeOf(c.b))
		isNumber(t, c.a+", "+c.b, is, e, c.want, api.OK)
	}
}
