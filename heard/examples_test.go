package heard_test

import (
	"testing"

	"diapason/api"
	"diapason/heard"
)

// The chapter's examples, row by row; of DOC.md's the third one is among them.

func TestExamplesOfReflections(t *testing.T) {
	k, e := heard.Reflections(fracs(rats("1/2 3/4")), 1)
	isList(t, "1/2 3/4", k, e, rats("1/2"))
	k, e = heard.Reflections(fracs(rats("1")), 1)
	isNone(t, "1", k, e, api.ErrHeard)
	k, e = heard.Reflections(fracs(rats("1/2 1")), 2)
	isNone(t, "1/2 1", k, e, api.ErrHeard)
}

func TestExamplesOfBore(t *testing.T) {
	for _, c := range []struct {
		answer string
		long   int
		first  string
		far    int
		want   string
		e      api.Errno
	}{
		{"1", 1, "5", api.Stopped, "5x1", api.OK},
		{"1", 1, "5", api.Open, "", api.ErrHeard},
		{"-1/2 -3/4 3/8", 2, "1", api.Open, "1x1 3x1", api.OK},
		{"-1/2 -3/4 3/8", 2, "2", api.Open, "2x1 6x1", api.OK},
		{"-1/2 -3/4 0", 2, "1", api.Open, "", api.ErrHeard},
		{"-1/2", 2, "1", api.Open, "", api.ErrArg},
		{"-1/2 3/4", 2, "1", api.Stopped, "1x1 3x1", api.OK},
		{"-1/2 3/4 0", 2, "1", api.Stopped, "", api.ErrHeard},
	} {
		b, e := heard.Bore(fracs(rats(c.answer)), c.long, frac(rat(c.first)), c.far)
		if c.e != api.OK {
			isNoBore(t, c.answer, b, e, c.e)
			continue
		}
		isBore(t, c.answer, b, e, pipe(api.Open, c.far, c.want))
	}
}

func TestExamplesOfFits(t *testing.T) {
	n, all, e := heard.Fits(fracs(rats("-1/2 -3/4 0")), pipe(api.Stopped, api.Open, "1x1 3x1"))
	if n != 2 || all || e != api.OK {
		t.Errorf("-1/2 -3/4 0: %d, %t, %d", n, all, e)
	}
	for _, b := range bores(1, 10) {
		if n, all, e := heard.Fits(nil, b); n != 0 || !all || e != api.OK {
			t.Errorf("nothing, of %s: %d, %t, %d", name(b), n, all, e)
		}
	}
}
