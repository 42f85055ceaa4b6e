package ends_test

import (
	"math/big"
	"math/rand"
	"testing"

	"diapason/api"
	"diapason/ends"
)

// P13.2: lengths at flares that are rows', between rows, at the very ends, and beyond them.
func TestAt(t *testing.T) {
	r := rand.New(rand.NewSource(1))
	for _, l := range tables(6) {
		x := made(t, l)
		flares, _ := columns(l)
		for _, flare := range places(r, flares) {
			length, e := x.At(frac(flare))
			isFrac(t, "At("+cut(flare.RatString())+") of "+name(l), length, e, lengthAt(l, flare))
		}
	}
}

// P13.2: flares at lengths likewise.
func TestBack(t *testing.T) {
	r := rand.New(rand.NewSource(2))
	for _, l := range tables(7) {
		x := made(t, l)
		_, lengths := columns(l)
		for _, length := range places(r, lengths) {
			flare, e := x.Back(frac(length))
			isFrac(t, "Back("+cut(length.RatString())+") of "+name(l), flare, e, flareAt(l, length))
		}
	}
}

// P13.2: a table of one row says something there alone.
func TestTableOfOneRow(t *testing.T) {
	x := made(t, rows("1/2:3"))
	for s, want := range map[string]*big.Rat{"1/2": rat("3"), "3": nil, "0": nil, "1": nil, "-1/2": nil, "499/1000": nil, "501/1000": nil} {
		length, e := x.At(frac(rat(s)))
		isFrac(t, "At("+s+")", length, e, want)
	}
	for s, want := range map[string]*big.Rat{"3": rat("1/2"), "1/2": nil, "2": nil, "4": nil, "-3": nil, "0": nil} {
		flare, e := x.Back(frac(rat(s)))
		isFrac(t, "Back("+s+")", flare, e, want)
	}
}

// pair is a table of two rows.
func pair(a, p, b, q *big.Rat) []api.Row { return []api.Row{row(a, p), row(b, q)} }

// P13.2, R7: answers of just as many bytes as may be, and of one more; what lies between has no limit.
func TestAnswersAtTheBound(t *testing.T) {
	nought, one, half := whole(0), whole(1), rat("1/2")
	odd, even := power2(4094, 1), power2(4094, 0)
	for i, c := range []struct {
		rows []api.Row
		at   *big.Rat
		long bool
	}{
		{pair(nought, nought, one, power2(2048, 1)), over(power2(2047, -1), power2(2047, 0)), false},
		{pair(nought, nought, one, power2(2048, 1)), over(power2(2048, -1), power2(2048, 0)), false},
		{pair(nought, nought, one, power2(2048, 1)), over(power2(2049, -1), power2(2049, 0)), true},
		{pair(nought, nought, one, greatest()), half, false},
		{pair(nought, nought, one, greatest()), rat("2/7"), true},
		{pair(nought, nought, one, greatest()), rat("2/3"), false},
		{pair(nought, negated(greatest()), one, nought), half, false},
		{pair(nought, negated(greatest()), one, nought), rat("2/7"), true},
		{pair(nought, negated(greatest()), one, greatest()), half, false},
		{pair(nought, nought, one, inverse(power2(4094, 0))), half, false},
		{pair(nought, nought, one, inverse(power2(4095, 0))), half, true},
		// The difference of these rows has twice as many bytes as may be.
		{pair(nought, inverse(odd), one, inverse(even)), over(even, plus(odd, even)), false},
		{pair(inverse(odd), nought, inverse(even), one), over(whole(2), plus(odd, even)), false},
		{pair(inverse(odd), inverse(odd), inverse(even), inverse(even)), over(whole(2), plus(odd, even)), false},
		{pair(nought, inverse(odd), one, inverse(even)), half, true},
		{pair(inverse(odd), nought, inverse(even), one), over(whole(4), plus(plus(odd, odd), plus(even, even))), false},
		{pair(nought, even, one, odd), inverse(greatest()), true},
		{pair(even, nought, odd, one), plus(even, half), false},
	} {
		want := lengthAt(c.rows, c.at)
		if want == nil || isLong(c.at) || isLong(want) != c.long {
			t.Fatalf("case %d is not what it says", i)
		}
		length, e := made(t, c.rows).At(frac(c.at))
		isFrac(t, "At of "+name(c.rows), length, e, want)
		flare, e := made(t, turned(c.rows)).Back(frac(c.at))
		isFrac(t, "Back of "+name(turned(c.rows)), flare, e, want)
	}
}

// P13.2: what may not be is told, be there one row or many.
func TestWrongArguments(t *testing.T) {
	for _, l := range [][]api.Row{rows("0:0"), rows("0:1/2 1:1 3:2"), anyTable(rand.New(rand.NewSource(3)), 64, 2)} {
		x := made(t, l)
		for _, wrong := range noFractions() {
			y, e := x.At(wrong)
			isError(t, "At of what may not be", y, e, api.ErrArg)
			y, e = x.Back(wrong)
			isError(t, "Back of what may not be", y, e, api.ErrArg)
		}
	}
}

// P13.2, R3: what is no table answers so, ahead of all else.
func TestNoTable(t *testing.T) {
	args := append(noFractions(), frac(whole(0)), frac(whole(1)), frac(greatest()))
	for _, x := range noTables() {
		for _, arg := range args {
			for what, call := range map[string]func(api.Frac) (api.Frac, api.Errno){"At": x.At, "Back": x.Back} {
				y, e := call(arg)
				isError(t, what+" of none", y, e, api.ErrNil)
			}
		}
	}
	var none ends.Table
	y, e := none.At(frac(whole(0)))
	isError(t, "At of a zero table", y, e, api.ErrNil)
}
