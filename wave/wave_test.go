package wave_test

import (
	"math/rand"
	"slices"
	"testing"

	"diapason/api"
	"diapason/wave"
)

// P10.1: in a new wave all numbers are 0, at the tick 0.
func TestNew(t *testing.T) {
	for _, b := range bores(1, 200) {
		w, m := begin(t, b)
		isAs(t, "New of "+name(b), w, m)
		isEnergy(t, "New of "+name(b), w, m)
	}
}

// P10.1: of a bore that may not be there is no wave.
func TestNewOfNoBores(t *testing.T) {
	for i, b := range noBores() {
		if w, e := wave.New(b); w != nil || e != api.ErrArg {
			t.Errorf("case %d: New of %s: %v, %d", i, name(b), w, e)
		}
	}
}

// P10.1: Now counts the ticks that were done, and nothing else.
func TestNow(t *testing.T) {
	w, _ := begin(t, pipe(api.Stopped, api.Open, "1x1 3x1"))
	for i := range 100 {
		w.Put(frac(whole(int64(i % 2))))
		w.Put(api.Frac{})
		w.Energy()
		w.Shape()
		w.Copy().Tick()
		if w.Now() != i {
			t.Fatalf("Now = %d, not %d", w.Now(), i)
		}
		if _, e := w.Tick(); e != api.OK {
			t.Fatalf("Tick %d: %d", i, e)
		}
	}
	// 1/2 of this is too long: no tick is done.
	w.Put(frac(over(whole(1), greatest())))
	if _, e := w.Tick(); e != api.ErrLong || w.Now() != 100 {
		t.Errorf("Tick: %d, Now = %d", e, w.Now())
	}
}

// P10.1: a copy is as the wave was, and each goes its own way, whichever is used first.
func TestCopy(t *testing.T) {
	r := rand.New(rand.NewSource(2))
	for _, b := range bores(2, 100) {
		w, m := begin(t, b)
		for range r.Intn(6) {
			puts(t, name(b), w, m, anyPush(r, 2))
			ticks(t, name(b), w, m)
		}
		waves, models := []*wave.Wave{w}, []*model{m}
		for range 3 {
			from := r.Intn(len(waves))
			waves, models = append(waves, waves[from].Copy()), append(models, models[from].copied())
			for range 8 {
				i := r.Intn(len(waves))
				if r.Intn(2) == 0 {
					puts(t, name(b), waves[i], models[i], anyPush(r, 1))
				} else {
					ticks(t, name(b), waves[i], models[i])
				}
			}
		}
		for i, v := range waves {
			isAs(t, name(b), v, models[i])
			isEnergy(t, name(b), v, models[i])
			if slices.Index(waves, v) != i {
				t.Errorf("%s: Copy is the wave itself", name(b))
			}
		}
	}
}

// P10.1 to P10.4, R3: a wave that is none, be it nil or not made by New, ahead of all else.
func TestNoWave(t *testing.T) {
	for what, w := range map[string]*wave.Wave{"nil": nil, "a zero value": {}} {
		for _, x := range append(noFractions(), frac(whole(0)), frac(whole(1)), frac(greatest())) {
			if e := w.Put(x); e != api.ErrNil {
				t.Errorf("%s: Put: %d", what, e)
			}
		}
		if x, e := w.Tick(); x != (api.Frac{}) || e != api.ErrNil {
			t.Errorf("%s: Tick: %s, %d", what, told(x), e)
		}
		if x, e := w.Energy(); x != (api.Frac{}) || e != api.ErrNil {
			t.Errorf("%s: Energy: %s, %d", what, told(x), e)
		}
		forth, back, e := w.Shape()
		isNone(t, what+": forth", forth, e, api.ErrNil)
		isNone(t, what+": back", back, e, api.ErrNil)
		if w.Now() != 0 || w.Copy() != nil {
			t.Errorf("%s: Now = %d, Copy = %v", what, w.Now(), w.Copy())
		}
	}
}

// R5: the bore is not kept, and stays as it is, the room behind it too.
func TestBoresAreLeft(t *testing.T) {
	room := pipe(api.Stopped, api.Open, "1x1 3x1 2x2 5x1").Pieces
	was := slices.Clone(room)
	b := api.Bore{Pieces: room[:3], Near: api.Stopped, Far: api.Open}
	w, m := begin(t, b)
	wave.Answer(b, 9)
	if !slices.Equal(room, was) {
		t.Errorf("the room: %s", name(api.Bore{Pieces: room}))
	}
	clear(room)
	puts(t, "a cleared bore", w, m, whole(1))
	for range 9 {
		ticks(t, "a cleared bore", w, m)
	}
	isAs(t, "a cleared bore", w, m)
}
