package echo_test

import (
	"math"
	"testing"

	"diapason/api"
	"diapason/echo"
	"diapason/turn"
)

// isRow holds Row against Wave, and against the model.
func isRow(t *testing.T, b api.Bore, n int) {
	t.Helper()
	l, e := echo.Row(b, n)
	if len(l) != 1<<n || e != api.OK {
		t.Fatalf("%s: %d numbers, %d", call("Row", b, 0, n), len(l), e)
	}
	for k, z := range l {
		wave, e := echo.Wave(b, k, n)
		isNumber(t, call("Row", b, k, n), z, e, wave, api.OK)
		x, _ := turn.Parts(k, n)
		isNumber(t, call("Row", b, k, n), z, e, floatEcho(b, x), api.OK)
	}
}

// P14.4: each number is Wave's.
func TestRow(t *testing.T) {
	for i, b := range bores(11, 60) {
		isRow(t, b, i%6)
		isRow(t, b, 6)
	}
	for n := range api.MaxTurn + 1 {
		isRow(t, pipe(api.Open, "1x1 3x1"), n)
	}
}

// P14.4: turns of too many parts, or of fewer than one, and bores that may not be.
func TestWrongRow(t *testing.T) {
	isNone := func(b api.Bore, n int, want api.Errno) {
		t.Helper()
		if l, e := echo.Row(b, n); len(l) > 0 || e != want {
			t.Errorf("%s: %d numbers, %d; not %d", call("Row", b, 0, n), len(l), e, want)
		}
	}
	for n, want := range wrongTurns() {
		for _, b := range bores(12, 4) {
			isNone(b, n, want)
		}
	}
	for _, b := range noBores() {
		for _, n := range []int{0, 2, 16, 17, -1, math.MaxInt, math.MinInt} {
			isNone(b, n, api.ErrArg)
		}
	}
}
