package ends_test

import (
	"math/big"
	"math/rand"
	"slices"
	"testing"

	"diapason/api"
	"diapason/ends"
)

// isCut holds an answer of Cut against the chapter's words.
func isCut(t *testing.T, l []api.Row, x *ends.Table, wanted, flare *big.Rat) {
	t.Helper()
	what := "Cut(" + cut(wanted.RatString()) + ", " + cut(flare.RatString()) + ") of " + name(l)
	y, e := x.Cut(frac(wanted), frac(flare))
	length := lengthAt(l, flare)
	switch {
	case wanted.Sign() <= 0:
		isError(t, what, y, e, api.ErrArg)
	case length == nil:
		isError(t, what, y, e, api.ErrTable)
	case wanted.Cmp(length) <= 0:
		isError(t, what, y, e, api.ErrNone)
	default:
		isFrac(t, what, y, e, minus(wanted, length))
	}
}

// P13.3: what is wanted above the length at the flare, just that, below it, and at flares beyond the rows.
func TestCut(t *testing.T) {
	r := rand.New(rand.NewSource(1))
	least := inverse(greatest())
	for _, l := range tables(8) {
		x := made(t, l)
		flares, lengths := columns(l)
		list := []*big.Rat{whole(0), whole(1), whole(-1), least, negated(least), greatest(), rat("1/2"), lengths[0], lengths[len(lengths)-1], anyNumber(r, 3), anyNumber(r, 100)}
		for i, flare := range places(r, flares) {
			isCut(t, l, x, list[i%len(list)], flare)
			length := lengthAt(l, flare)
			if length == nil {
				continue
			}
			for _, wanted := range []*big.Rat{length, plus(length, least), minus(length, least), plus(length, whole(3)), minus(length, whole(3)), plus(length, rat("1/7")), times(length, whole(2))} {
				if !isLong(wanted) {
					isCut(t, l, x, wanted, flare)
				}
			}
		}
	}
}

// P13.3: a length below 0 makes the pipe longer.
func TestCutOfLengthsBelowNought(t *testing.T) {
	x := made(t, rows("-1:-5 0:0 1:5"))
	for _, c := range []struct{ wanted, flare, want string }{{"1/2", "-1", "11/2"}, {"1/2", "-1/2", "3"}, {"1/2", "0", "1/2"}, {"6", "1", "1"}, {"6", "1/5", "5"}} {
		y, e := x.Cut(frac(rat(c.wanted)), frac(rat(c.flare)))
		isFrac(t, "Cut("+c.wanted+", "+c.flare+")", y, e, rat(c.want))
	}
}

// P13.3, R7: the answer alone has a bound; where the length at the flare is too long, what is left of what is wanted may be short, or none.
func TestCutAtTheBound(t *testing.T) {
	half := rat("1/2")
	grain := inverse(power2(4095, 0))
	// Half way between these rows the length is 1/3 + grain, below which stands 3 times 2^4095.
	third := pair(whole(0), plus(grain, grain), whole(1), rat("2/3"))
	if !isLong(lengthAt(third, half)) {
		t.Fatal("the length is short")
	}
	y, e := made(t, third).At(frac(half))
	isError(t, "At", y, e, api.ErrLong)
	y, e = made(t, third).Cut(frac(plus(whole(1), grain)), frac(half))
	isFrac(t, "Cut of 1 and a grain", y, e, rat("2/3"))
	y, e = made(t, third).Cut(frac(whole(1)), frac(half))
	isError(t, "Cut of 1", y, e, api.ErrLong)
	for _, wanted := range []*big.Rat{grain, rat("1/3"), rat("1/4")} {
		y, e = made(t, third).Cut(frac(wanted), frac(half))
		isError(t, "Cut of less", y, e, api.ErrNone)
	}
	for _, c := range []struct {
		length, wanted string
		more           *big.Rat
		long           bool
	}{{"0", "0", greatest(), false}, {"-1", "0", greatest(), true}, {"-1", "-1", greatest(), false}, {"1", "0", greatest(), false}, {"1/2", "0", greatest(), true}, {"1/2", "1/2", grain, false}, {"1/3", "1", grain, true}} {
		l := []api.Row{row(whole(0), rat(c.length))}
		wanted := plus(rat(c.wanted), c.more)
		if isLong(wanted) || isLong(minus(wanted, rat(c.length))) != c.long {
			t.Fatalf("%s and %s are not what they say", c.length, c.wanted)
		}
		isCut(t, l, made(t, l), wanted, whole(0))
	}
}

// P13.3: a thing that may not be goes ahead of a flare beyond the rows, that ahead of a length that is too long for what is wanted, and that ahead of ErrLong.
func TestOrderOfErrorsOfCut(t *testing.T) {
	x := made(t, rows("0:1/2 1:1 3:2"))
	in, beyond, much := frac(whole(1)), frac(whole(9)), frac(whole(10))
	notAbove := append(noFractions(), frac(whole(0)), frac(whole(-1)), frac(negated(greatest())), frac(negated(inverse(greatest()))))
	for _, wrong := range notAbove {
		for _, flare := range append(noFractions(), in, beyond) {
			y, e := x.Cut(wrong, flare)
			isError(t, "Cut of a wrong length", y, e, api.ErrArg)
		}
	}
	for _, wrong := range noFractions() {
		for _, wanted := range slices.Concat(notAbove, []api.Frac{in, much}) {
			y, e := x.Cut(wanted, wrong)
			isError(t, "Cut at a wrong flare", y, e, api.ErrArg)
		}
	}
	for _, flare := range []string{"-1", "-1/1000", "3001/1000", "9"} {
		for _, wanted := range []*big.Rat{rat("1/1000"), whole(1), whole(10), greatest()} {
			y, e := x.Cut(frac(wanted), frac(rat(flare)))
			isError(t, "Cut beyond the rows", y, e, api.ErrTable)
		}
	}
}

// P13.3, R3: what is no table answers so, ahead of all else.
func TestCutOfNoTable(t *testing.T) {
	args := append(noFractions(), frac(whole(0)), frac(whole(1)), frac(whole(-1)))
	for _, x := range noTables() {
		for _, wanted := range args {
			for _, flare := range args {
				y, e := x.Cut(wanted, flare)
				isError(t, "Cut of none", y, e, api.ErrNil)
			}
		}
	}
}
