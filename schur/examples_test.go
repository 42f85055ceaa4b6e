package schur_test

import (
	"testing"

	"diapason/api"
	"diapason/schur"
)

// The chapter's examples, row by row; DOC.md's fourth one is among them.

func TestExamplesOfForward(t *testing.T) {
	for _, c := range []struct {
		k           string
		far         int
		under, over string
	}{
		{"", 1, "0 1", "1"}, {"", -1, "0 -1", "1"}, {"1/2", 1, "0 1/2 1", "1 1/2"}, {"1/2", -1, "0 1/2 -1", "1 -1/2"},
		{"1/3", 1, "0 1/3 1", "1 1/3"}, {"1/2 1/3", 1, "0 1/2 1/2 1", "1 1/2 1/2"},
	} {
		under, over, e := schur.Forward(rowOf(c.k, c.far).chain())
		if e != api.OK {
			t.Errorf("Forward(%s, %d): the error %d", c.k, c.far, e)
		}
		isPoly(t, "under of "+c.k, under, of(c.under))
		isPoly(t, "over of "+c.k, over, of(c.over))
	}
}

func TestExamplesOfBackward(t *testing.T) {
	c, e := schur.Backward(of("0 1/2 1").poly(), 1)
	isChain(t, "Backward(0 1/2 1, 1)", c, e, rowOf("1/2", 1))
	c, e = schur.Backward(of("0 1/2 1/2 1").poly(), 1)
	isChain(t, "Backward(0 1/2 1/2 1, 1)", c, e, rowOf("1/2 1/3", 1))
	for _, x := range []struct {
		under string
		far   int
		want  api.Errno
	}{{"0 1/2 1", -1, api.ErrSchur}, {"0 2 1", 1, api.ErrSchur}, {"1 1", 1, api.ErrSchur}, {"0 1", 2, api.ErrArg}} {
		c, e := schur.Backward(of(x.under).poly(), x.far)
		isNoChain(t, "Backward("+x.under+")", c, e, x.want)
	}
}

func TestExamplesOfInside(t *testing.T) {
	for _, c := range []struct {
		p    string
		want bool
	}{{"1 1/2", true}, {"1 1", false}, {"1 2", false}, {"5", true}, {"4 0 1", true}} {
		if in, e := schur.Inside(of(c.p).poly()); in != c.want || e != api.OK {
			t.Errorf("Inside(%s) = %v, %d", c.p, in, e)
		}
	}
	if in, e := schur.Inside(nil); in || e != api.ErrZero {
		t.Errorf("Inside(0) = %v, %d", in, e)
	}
}

func TestExamplesOfClosed(t *testing.T) {
	for _, c := range []struct {
		near int
		want string
	}{{1, "1 0 -1"}, {-1, "1 1 1"}} {
		p, e := schur.Closed(rowOf("1/2", 1).chain(), c.near)
		if e != api.OK {
			t.Errorf("Closed of near %d: the error %d", c.near, e)
		}
		isPoly(t, "Closed", p, of(c.want))
	}
}

func TestExampleOfJoin(t *testing.T) {
	c, e := schur.Join(rowOf("1/2", 1).chain(), rowOf("1/3", -1).chain())
	isChain(t, "Join", c, e, rowOf("1/2 0 1/3", -1))
}

func TestExamplesOfCheck(t *testing.T) {
	many := make([]api.Frac, 32)
	for i := range many {
		many[i] = frac(rat("1/2"))
	}
	for i, c := range []api.Chain{rowOf("1", 1).chain(), rowOf("1/2", 0).chain(), {K: many, Far: 1}} {
		if e := schur.Check(c); e != api.ErrArg {
			t.Errorf("Check, case %d: %d", i, e)
		}
	}
}
