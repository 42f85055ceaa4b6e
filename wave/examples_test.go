package wave_test

import (
	"strconv"
	"testing"

	"diapason/api"
	"diapason/wave"
)

// The chapter's examples, row by row; of DOC.md's the fifth one is among them.

func TestExamplesOfTick(t *testing.T) {
	for _, c := range []struct {
		b    api.Bore
		want string
	}{
		{pipe(api.Open, api.Stopped, "1x1"), "0 1 0 -1"},
		{pipe(api.Stopped, api.Stopped, "1x1"), "0 1 0 1"},
		{pipe(api.Stopped, api.Open, "1x1 3x1"), "0 -1/2 0 -1/2"},
	} {
		w, e := wave.New(c.b)
		if e != api.OK || w.Put(frac(whole(1))) != api.OK {
			t.Fatalf("New and Put of %s: %d", name(c.b), e)
		}
		for i, want := range rats(c.want) {
			energy, e := w.Energy()
			isFrac(t, "Energy in "+name(c.b)+" at "+strconv.Itoa(i), energy, e, whole(1))
			came, e := w.Tick()
			isFrac(t, "Tick in "+name(c.b)+" at "+strconv.Itoa(i), came, e, want)
		}
		energy, e := w.Energy()
		isFrac(t, "Energy in "+name(c.b)+" at last", energy, e, whole(1))
	}
}

func TestExampleOfEnergy(t *testing.T) {
	w, _ := wave.New(pipe(api.Open, api.Stopped, "1x1"))
	w.Put(frac(whole(1)))
	w.Put(frac(whole(1)))
	energy, e := w.Energy()
	isFrac(t, "Energy", energy, e, whole(4))
}

func TestExamplesOfAnswer(t *testing.T) {
	l, e := wave.Answer(pipe(api.Stopped, api.Open, "1x1 3x1"), 3)
	isList(t, "far open", l, e, rats("-1/2 -3/4 3/8"))
	l, e = wave.Answer(pipe(api.Stopped, api.Stopped, "1x1 3x1"), 3)
	isList(t, "far stopped", l, e, rats("-1/2 3/4 3/8"))
	b := pipe(api.Open, api.Open, "1x3")
	l, e = wave.Answer(b, 4)
	isList(t, "1x3", l, e, rats("0 0 -1 0"))
	l, e = wave.Answer(b, 0)
	isList(t, "none", l, e, nil)
	l, e = wave.Answer(b, -1)
	isNone(t, "-1", l, e, api.ErrArg)
	l, e = wave.Answer(b, 4097)
	isNone(t, "4097", l, e, api.ErrLong)
}

func TestExampleOfNoWave(t *testing.T) {
	var w *wave.Wave
	if e := w.Put(frac(whole(1))); e != api.ErrNil {
		t.Errorf("Put: %d", e)
	}
	if x, e := w.Tick(); x != (api.Frac{}) || e != api.ErrNil {
		t.Errorf("Tick: %s, %d", told(x), e)
	}
	if x, e := w.Energy(); x != (api.Frac{}) || e != api.ErrNil || w.Now() != 0 || w.Copy() != nil {
		t.Errorf("Energy: %s, %d; Now %d; Copy %v", told(x), e, w.Now(), w.Copy())
	}
}
