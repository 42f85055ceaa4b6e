package sturm_test

import (
	"testing"

	"diapason/api"
	"diapason/poly"
	"diapason/sturm"
)

func TestExamplesOfSimple(t *testing.T) {
	for _, c := range [][2]string{{"0 0 2", "0 1"}, {"1 -2 1", "-1 1"}, {"3", "1"}} {
		p, e := sturm.Simple(of(c[0]).poly())
		isPoly(t, "Simple("+c[0]+")", p, e, of(c[1]))
	}
	if p, e := sturm.Simple(nil); e != api.ErrZero || len(p) > 0 {
		t.Errorf("Simple(none) = %v, %d", p, e)
	}
}

func TestExamplesOfCount(t *testing.T) {
	for _, c := range []struct {
		p, g string
		want int
	}{{"-2 0 1", "1 2", 1}, {"-2 0 1", "-2 2", 2}, {"0 0 1", "0 0", 1}, {"1 0 1", "-9 9", 0}} {
		n, e := sturm.Count(of(c.p).poly(), gapText(c.g))
		isNumber(t, "Count("+c.p+", "+c.g+")", n, e, c.want)
	}
	n, e := sturm.Count(of("1 0 1").poly(), gapText("2 1"))
	isError(t, "Count of a gap that is turned about", n, e, api.ErrArg)
	n, e = sturm.All(of("-2 0 1").poly())
	isNumber(t, "All(-2 0 1)", n, e, 2)
	n, e = sturm.All(of("5").poly())
	isNumber(t, "All(5)", n, e, 0)
	for _, c := range [][2]string{{"-2 0 1", "3"}, {"5", "0"}, {"6 -3", "3"}} {
		x, e := sturm.Bound(of(c[0]).poly())
		isNumber(t, "Bound("+c[0]+")", x, e, frac(rat(c[1])))
	}
}

func TestExamplesOfRoots(t *testing.T) {
	for _, c := range [][]string{
		{"-2 0 1", "-2 -1", "1 2"},
		{"0 -1 1", "0", "1"},
		{"2 -3 1", "1", "2"},
		{"3/16 -1 1", "0 1/2", "1/2 1"},
	} {
		var want []api.Gap
		for _, s := range c[1:] {
			want = append(want, gapText(s))
		}
		l, e := sturm.Roots(of(c[0]).poly())
		areGaps(t, "Roots("+c[0]+")", l, e, want)
	}
}

func TestExamplesOfNarrow(t *testing.T) {
	p := poly.Of(-2, 0, 1)
	g, e := sturm.Narrow(p, gapText("1 2"), 0)
	isNumber(t, "at 0", g, e, gapText("1 2"))
	g, e = sturm.Narrow(p, gapText("1 2"), 3)
	isNumber(t, "at 3", g, e, gapText("11/8 3/2"))
	g, e = sturm.Narrow(p, gapText("1 2"), 257)
	isError(t, "at 257", g, e, api.ErrLong)
	g, e = sturm.Narrow(p, gapText("-2 2"), 1)
	isError(t, "of two", g, e, api.ErrRoot)
}

func TestExamplesOfApart(t *testing.T) {
	for _, c := range []struct {
		p, q string
		want bool
	}{{"-1 1", "1 1", true}, {"-1 1", "-1 0 1", false}, {"", "5", true}, {"", "0 1", false}} {
		a, e := sturm.Apart(of(c.p).poly(), of(c.q).poly())
		isNumber(t, "Apart("+c.p+"; "+c.q+")", a, e, c.want)
	}
}
