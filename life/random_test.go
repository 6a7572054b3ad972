package life

import (
	"math/rand"
	"slices"
	"testing"

	"detent/api"
)

// allowed tells by P9.5's words, and those of the table that they leave open, whether a component's callback may be behind others.
func allowed(past []int, which int) bool {
	switch {
	case which == api.LifeCreate || len(past) == 0:
		return which == api.LifeCreate && len(past) == 0
	case slices.Contains(past, api.LifeDestroy):
		return false
	}
	starts, stops := 0, 0
	for _, x := range past {
		switch x {
		case api.LifeStart:
			starts++
		case api.LifeStop:
			stops++
		}
	}
	runs := starts > stops
	return runs == (which == api.LifeStop)
}

// P9.5: of each eight callbacks in turn just those are allowed that the words let be.
func TestWhatFollows(t *testing.T) {
	const length = 8
	for number := range 1 << (2 * length) {
		l := New(1)
		var past []int
		for i := range length {
			which := number >> (2 * i) & 3
			if may := l.May(0, which); may != allowed(past, which) {
				t.Fatalf("May: %d behind %v: %v", which, past, may)
			}
			if l.Go(0, which) == api.OK {
				past = append(past, which)
			}
		}
		wantPast(t, past)
	}
}

// wantPast holds the callbacks that were against P9.5's words, told of them as a whole.
func wantPast(t *testing.T, past []int) {
	t.Helper()
	var turns []int
	for i, which := range past {
		switch which {
		case api.LifeCreate:
			if i > 0 {
				t.Fatalf("%v: created behind something", past)
			}
		case api.LifeDestroy:
			if i < len(past)-1 {
				t.Fatalf("%v: something behind destroy", past)
			}
		default:
			turns = append(turns, which)
		}
	}
	if len(past) > 0 && past[0] != api.LifeCreate {
		t.Fatalf("%v: not created first", past)
	}
	for i, which := range turns {
		if want := []int{api.LifeStart, api.LifeStop}[i%2]; which != want {
			t.Fatalf("%v: start and stop do not take turns", past)
		}
	}
}

// told are lives by the chapter's words alone: the callbacks of each component that were, and the events.
type told struct {
	past [][]int
	on   []bool
}

func (w told) copied() told {
	c := told{on: slices.Clone(w.on)}
	for _, past := range w.past {
		c.past = append(c.past, slices.Clone(past))
	}
	return c
}

func (w told) states() []int {
	l := nones(len(w.past))
	for c, past := range w.past {
		if len(past) > 0 {
			l[c] = past[len(past)-1]
		}
	}
	return l
}

func (w told) follow(c, which int) api.Errno {
	switch {
	case c < 0 || c >= len(w.past) || which < api.LifeCreate || which > api.LifeDestroy:
		return api.ErrArg
	case !allowed(w.past[c], which):
		return api.ErrSkip
	}
	w.past[c] = append(w.past[c], which)
	return api.OK
}

func (w told) set(e int, on bool) bool {
	if e < 0 || e >= len(w.on) {
		return false
	}
	turned := on && !w.on[e]
	w.on[e] = on
	return turned
}

// twin is lives with what they must be like.
type twin struct {
	l *Lives
	w told
}

func twins(r *rand.Rand) *twin {
	w := told{past: make([][]int, r.Intn(4)), on: make([]bool, r.Intn(3))}
	for e := range w.on {
		w.on[e] = r.Intn(2) > 0
	}
	return &twin{New(len(w.past), w.on...), w}
}

// change does something to both of a twin.
func (x *twin) change(t *testing.T, r *rand.Rand) {
	t.Helper()
	if r.Intn(3) == 0 {
		e, on := r.Intn(len(x.w.on)+2)-1, r.Intn(2) > 0
		want := x.w.set(e, on)
		if got := x.l.Set(e, on); got != want {
			t.Fatalf("Set(%d, %v): %v", e, on, got)
		}
		return
	}
	c, which := r.Intn(len(x.w.past)+2)-1, r.Intn(api.Lives+2)-1
	want := x.w.follow(c, which)
	if got := x.l.Go(c, which); got != want {
		t.Fatalf("Go(%d, %d): %v, want %v", c, which, got, want)
	}
}

// P9.1, P9.2, P9.3, P9.4, P9.5: random lives, and copies of them, are as the chapter's words tell, after each change.
func TestRandomLives(t *testing.T) {
	t.Parallel()
	r := rand.New(rand.NewSource(9))
	for range 200 {
		all := []*twin{twins(r), twins(r), {l: &Lives{}}}
		for range 60 {
			x := all[r.Intn(len(all))]
			x.change(t, r)
			if r.Intn(12) == 0 {
				all[r.Intn(len(all))] = &twin{x.l.Copy(), x.w.copied()}
			}
			for _, a := range all {
				want(t, a.l, a.w.states(), a.w.on)
				for _, b := range all {
					same := slices.Equal(a.w.states(), b.w.states()) && slices.Equal(a.w.on, b.w.on)
					if got := a.l.Same(b.l); got != same {
						t.Fatalf("Same: %v, of %+v and %+v", got, a.w, b.w)
					}
				}
			}
			if t.Failed() {
				t.FailNow()
			}
		}
	}
}
