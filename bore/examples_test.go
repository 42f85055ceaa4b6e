package bore_test

import (
	"testing"

	"diapason/api"
	"diapason/bore"
)

// The chapter's examples, row by row; of DOC.md's the bore of the second one is among them.

func TestExamplesOfLongAndVolume(t *testing.T) {
	b := pipe(api.Stopped, api.Open, "1x2 3/2x1")
	if n, e := bore.Long(b); n != 3 || e != api.OK {
		t.Errorf("Long = %d, %d", n, e)
	}
	v, e := bore.Volume(b)
	isFrac(t, "Volume", v, e, rat("7/2"))
}

func TestExamplesOfChainAndAreas(t *testing.T) {
	c, e := bore.Chain(pipe(api.Stopped, api.Open, "1x1 3x1 1x2"))
	isChain(t, "Chain", c, e, rats("-1/2 1/2 0"), -1)
	c, e = bore.Chain(pipe(api.Open, api.Stopped, "1x1 3x1"))
	isChain(t, "Chain of 1x1 3x1", c, e, rats("-1/2"), 1)
	l, e := bore.Areas(row("-1/2 1/2 0", -1), frac(rat("1")))
	isList(t, "Areas", l, e, rats("1 3 1 1"))
	l, e = bore.Areas(row("", 1), frac(rat("5/7")))
	isList(t, "Areas without a reflection", l, e, rats("5/7"))
}

func TestExampleOfSimple(t *testing.T) {
	b, e := bore.Simple(pipe(api.Open, api.Stopped, "1x1 1x2 2x1"))
	isBore(t, "Simple", b, e, pipe(api.Open, api.Stopped, "1x3 2x1"))
}

func TestExamplesOfStep(t *testing.T) {
	l, e := bore.Step(cone("1", "3", 3, 2))
	isPieces(t, "Step", l, e, pieces("9/4x1 25/4x2"))
	l, e = bore.Step(cone("1", "1", 2, 3))
	isNoCone(t, "more steps than it is long", l, e, api.ErrArg)
	l, e = bore.Step(cone("1/300", "1", 1, 1))
	isNoCone(t, "the root 301 / 600", l, e, api.ErrLong)
}

func TestExamplesOfJoin(t *testing.T) {
	b, e := bore.Join(api.Open, api.Stopped, pieces("1x1"), pieces("2x2 3x1"))
	isBore(t, "Join", b, e, pipe(api.Open, api.Stopped, "1x1 2x2 3x1"))
	b, e = bore.Join(api.Open, 3, pieces("1x1"))
	isNoBore(t, "Join with no end", b, e, api.ErrArg)
	b, e = bore.Join(api.Open, api.Open)
	isNoBore(t, "Join of nothing", b, e, api.ErrArg)
}

func TestExamplesOfCheck(t *testing.T) {
	for _, s := range []string{"0x1", "65536x1", "1x33"} {
		if e := bore.Check(pipe(api.Open, api.Open, s)); e != api.ErrArg {
			t.Errorf("Check of %s: %d", s, e)
		}
	}
}
