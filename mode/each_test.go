package mode_test

import (
	"slices"
	"testing"

	"diapason/api"
	"diapason/mode"
)

// isEach holds what Each tells against modes, from 0 on.
func isEach(t *testing.T, what string, b api.Bore, bits int, want []api.Mode) {
	t.Helper()
	var l []api.Mode
	for i, m := range mode.Each(b, bits) {
		if i != len(l) {
			t.Errorf("%s: the place %d of mode %d", what, i, len(l))
		}
		l = append(l, m)
	}
	if !slices.Equal(l, want) {
		t.Errorf("%s: Each: %s; not %s", what, modeNames(l), modeNames(want))
	}
}

// P12.4, R8: it may be left at each place, the last one and the mode -1 too, and gone through again.
func TestEachIsLeft(t *testing.T) {
	for _, b := range fourEnds("1x2 3x3 2x1") {
		want, _ := allOf(b, 3)
		each := mode.Each(b, 3)
		for leave := range len(want) {
			var l []api.Mode
			for i, m := range each {
				l = append(l, m)
				if i == leave {
					break
				}
			}
			if !slices.Equal(l, want[:leave+1]) {
				t.Errorf("%s: left at %d: %s", name(b), leave, modeNames(l))
			}
		}
		var l []api.Mode
		for _, m := range each {
			l = append(l, m)
		}
		if !slices.Equal(l, want) {
			t.Errorf("%s: again: %s", name(b), modeNames(l))
		}
	}
}

// P12.4, R8: one going through is not that of another one.
func TestEachWithin(t *testing.T) {
	b := pipe(api.Stopped, api.Stopped, "1x2 3x3 2x1")
	want, _ := allOf(b, 2)
	each, pairs := mode.Each(b, 2), 0
	for i, m := range each {
		for j, n := range each {
			if m != want[i] || n != want[j] {
				t.Errorf("%d, %d: %s, %s", i, j, modeName(m), modeName(n))
			}
			pairs++
		}
	}
	if pairs != len(want)*len(want) {
		t.Errorf("%d pairs", pairs)
	}
}

// R5: the bore is not kept: what is done to it later changes nothing of what is told.
func TestEachKeepsNoBore(t *testing.T) {
	b := pipe(api.Stopped, api.Open, "1x2 3x3 2x1")
	want, _ := allOf(b, 2)
	each := mode.Each(b, 2)
	b.Pieces[1] = api.Piece{}
	b.Near = 0
	for range 2 {
		var l []api.Mode
		for _, m := range each {
			clear(b.Pieces)
			l = append(l, m)
		}
		if !slices.Equal(l, want) {
			t.Errorf("%s; not %s", modeNames(l), modeNames(want))
		}
	}
}
