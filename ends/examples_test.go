package ends_test

import (
	"testing"

	"diapason/api"
	"diapason/ends"
)

// The chapter's examples, row by row; all but the last two of them ask this table.

func example(t *testing.T) *ends.Table {
	t.Helper()
	return made(t, rows("0:1/2 1:1 3:2"))
}

func TestExamplesOfAt(t *testing.T) {
	x := example(t)
	for flare, want := range map[string]string{"0": "1/2", "1/2": "3/4", "2": "3/2", "3": "2"} {
		y, e := x.At(frac(rat(flare)))
		isFrac(t, "At("+flare+")", y, e, rat(want))
	}
	for _, flare := range []string{"4", "-1"} {
		y, e := x.At(frac(rat(flare)))
		isError(t, "At("+flare+")", y, e, api.ErrTable)
	}
}

func TestExamplesOfBack(t *testing.T) {
	x := example(t)
	y, e := x.Back(frac(rat("3/4")))
	isFrac(t, "Back(3/4)", y, e, rat("1/2"))
	y, e = x.Back(frac(rat("2")))
	isFrac(t, "Back(2)", y, e, rat("3"))
	y, e = x.Back(frac(rat("0")))
	isError(t, "Back(0)", y, e, api.ErrTable)
}

func TestExamplesOfCut(t *testing.T) {
	x := example(t)
	two := frac(whole(2))
	y, e := x.Cut(frac(whole(10)), two)
	isFrac(t, "Cut(10, 2)", y, e, rat("17/2"))
	y, e = x.Cut(frac(rat("3/2")), two)
	isError(t, "Cut(3/2, 2)", y, e, api.ErrNone)
	y, e = x.Cut(frac(whole(0)), two)
	isError(t, "Cut(0, 2)", y, e, api.ErrArg)
}

func TestExamplesOfNew(t *testing.T) {
	for _, s := range []string{"", "1:1 1:2", "0:1 1:1"} {
		isNoTable(t, rows(s), api.ErrArg)
	}
	areRows(t, made(t, rows("0:1")), rows("0:1"))
}

func TestExamplesOfNoTable(t *testing.T) {
	var none *ends.Table
	if l := none.Rows(); len(l) != 0 {
		t.Errorf("Rows of none: %s", name(l))
	}
	y, e := none.At(frac(whole(0)))
	isError(t, "At of none", y, e, api.ErrNil)
}
