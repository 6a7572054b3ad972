package life

import (
	"math"
	"slices"
	"testing"

	"detent/api"
)

// behind tells which callbacks may be behind a state, by the chapter's table.
func behind(state int) []int {
	switch state {
	case api.LifeNone:
		return []int{api.LifeCreate}
	case api.LifeCreate, api.LifeStop:
		return []int{api.LifeStart, api.LifeDestroy}
	case api.LifeStart:
		return []int{api.LifeStop}
	}
	return nil
}

// ways are, of each state, callbacks that lead to it.
func ways() map[int][]int {
	return map[int][]int{
		api.LifeNone:    {},
		api.LifeCreate:  {api.LifeCreate},
		api.LifeStart:   {api.LifeCreate, api.LifeStart},
		api.LifeStop:    {api.LifeCreate, api.LifeStart, api.LifeStop},
		api.LifeDestroy: {api.LifeCreate, api.LifeDestroy},
	}
}

// noCallbacks are numbers that no callback has.
func noCallbacks() []int {
	return []int{api.LifeCreate - 1, -2, api.LifeDestroy + 1, api.Lives + 1, 1 << 32, -1 << 32, 1<<32 + api.LifeStart, math.MaxInt, math.MinInt}
}

// beyond are numbers that none of so many has.
func beyond(count int) []int {
	return []int{-1, -2, -count, -count - 1, count, count + 1, 1 << 40, 1<<32 + count, -1 << 32, math.MaxInt, math.MinInt}
}

// lived makes lives in which each component is in a state.
func lived(t *testing.T, states []int, on ...bool) *Lives {
	t.Helper()
	l := New(len(states), on...)
	for c, state := range states {
		goes(t, l, c, ways()[state]...)
	}
	return l
}

// goes has callbacks of a component that must all be allowed.
func goes(t *testing.T, l *Lives, c int, callbacks ...int) {
	t.Helper()
	for _, which := range callbacks {
		if !l.May(c, which) {
			t.Errorf("May(%d, %d) in the state %d: no", c, which, l.State(c))
		}
		if err := l.Go(c, which); err != api.OK || l.State(c) != which {
			t.Errorf("Go(%d, %d): %v, state %d", c, which, err, l.State(c))
		}
	}
}

// want holds all that can be seen of lives against their states and events.
func want(t *testing.T, l *Lives, states []int, on []bool) {
	t.Helper()
	if l.Comps() != len(states) || l.Events() != len(on) {
		t.Errorf("%d components, %d events, want %d, %d", l.Comps(), l.Events(), len(states), len(on))
	}
	for c, state := range states {
		wantState(t, l, c, state)
	}
	for e, is := range on {
		if l.On(e) != is {
			t.Errorf("On(%d): %v", e, l.On(e))
		}
	}
	wantNoComps(t, l, api.ErrArg, beyond(len(states))...)
	wantNoEvents(t, l, beyond(len(on))...)
}

// wantState holds a component against its state, by each look.
func wantState(t *testing.T, l *Lives, c, state int) {
	t.Helper()
	if got := l.State(c); got != state {
		t.Errorf("State(%d): %d, want %d", c, got, state)
	}
	for which := range api.Lives {
		if got := l.May(c, which); got != slices.Contains(behind(state), which) {
			t.Errorf("May(%d, %d) in the state %d: %v", c, which, state, got)
		}
	}
	for _, which := range noCallbacks() {
		if l.May(c, which) {
			t.Errorf("May(%d, %d)", c, which)
		}
		if err := l.Go(c, which); err != api.ErrArg {
			t.Errorf("Go(%d, %d): %v", c, which, err)
		}
	}
}

// wantNoComps holds that there are no components of some numbers.
func wantNoComps(t *testing.T, l *Lives, err api.Errno, numbers ...int) {
	t.Helper()
	for _, c := range numbers {
		if got := l.State(c); got != api.LifeNone {
			t.Errorf("State(%d): %d", c, got)
		}
		for which := range api.Lives {
			if l.May(c, which) {
				t.Errorf("May(%d, %d)", c, which)
			}
			if got := l.Go(c, which); got != err {
				t.Errorf("Go(%d, %d): %v, want %v", c, which, got, err)
			}
		}
		for _, which := range noCallbacks() {
			if got := l.Go(c, which); got != err || l.May(c, which) {
				t.Errorf("Go(%d, %d): %v, want %v", c, which, got, err)
			}
		}
	}
}

// wantNoEvents holds that there are no events of some numbers.
func wantNoEvents(t *testing.T, l *Lives, numbers ...int) {
	t.Helper()
	for _, e := range numbers {
		if l.On(e) || l.Set(e, false) || l.Set(e, true) || l.On(e) {
			t.Errorf("there is an event %d", e)
		}
	}
}

// nones are the states of so many components of which none began.
func nones(count int) []int { return slices.Repeat([]int{api.LifeNone}, count) }

// P9.2: the chapter's examples.
func TestExamples(t *testing.T) {
	l := New(2)
	goes(t, l, 0, api.LifeCreate, api.LifeStart, api.LifeStop, api.LifeStart, api.LifeStop, api.LifeDestroy)
	goes(t, l, 1, api.LifeCreate)
	if l.May(1, api.LifeStop) {
		t.Error("May: stop behind create")
	}
	if err := l.Go(1, api.LifeStop); err != api.ErrSkip {
		t.Errorf("Go: %v", err)
	}
	want(t, l, []int{api.LifeDestroy, api.LifeCreate}, nil)
}

// P9.1: so many components, none of which began, and events as they were handed in.
func TestNew(t *testing.T) {
	for _, on := range [][]bool{nil, {}, {true}, {false}, {true, false}, {false, true, true, false, true, false, false, true, true}} {
		for _, comps := range []int{0, 1, 2, api.MaxComps, api.MaxComps + 1, 300} {
			want(t, New(comps, on...), nones(comps), on)
		}
		for _, comps := range []int{-1, -2, -300, math.MinInt, -1 << 32, 1<<32 - 1<<33 + 7} {
			want(t, New(comps, on...), nil, on)
		}
	}
}

// P9.1: so many components as an int can tell are as few ones are.
func TestNewOfMany(t *testing.T) {
	for _, comps := range []int{1 << 31, 1<<32 + 3, math.MaxInt} {
		l := New(comps, true)
		if l.Comps() != comps || l.Events() != 1 {
			t.Errorf("%d components, %d events, want %d, 1", l.Comps(), l.Events(), comps)
		}
		goes(t, l, comps-1, api.LifeCreate, api.LifeStart)
		goes(t, l, 0, api.LifeCreate)
		wantState(t, l, comps-1, api.LifeStart)
		wantState(t, l, comps-2, api.LifeNone)
		wantState(t, l, 1, api.LifeNone)
		wantNoComps(t, l, api.ErrArg, -1, math.MinInt)
		if c := l.Copy(); !c.Same(l) || c.Comps() != comps || c.State(comps-1) != api.LifeStart {
			t.Error("a copy is not the same")
		}
		if o := New(comps-1, true); o.Same(l) || New(comps, true).Same(l) {
			t.Error("others are the same")
		}
	}
}

// P9.2, P9.5: each callback behind each state, of the first, a middle and the last component: what may be is done, what may not be changes nothing.
func TestEachCallback(t *testing.T) {
	for state := api.LifeNone; state < api.Lives; state++ {
		for c := range 3 {
			for which := -2; which < api.Lives+2; which++ {
				states, on := []int{api.LifeStop, api.LifeStop, api.LifeStop}, []bool{true, false}
				states[c] = state
				l, none := lived(t, states, on...), api.ErrSkip
				switch {
				case which < api.LifeCreate || which > api.LifeDestroy:
					none = api.ErrArg
				case slices.Contains(behind(state), which):
					none = api.OK
				}
				if got := l.May(c, which); got != (none == api.OK) {
					t.Errorf("May(%d, %d) in the state %d: %v", c, which, state, got)
				}
				want(t, l, states, on)
				if err := l.Go(c, which); err != none {
					t.Errorf("Go(%d, %d) in the state %d: %v, want %v", c, which, state, err, none)
				}
				if none == api.OK {
					states[c] = which
				}
				want(t, l, states, on)
			}
		}
	}
}

// P9.2, P9.3: callbacks of several components in turn, and events turned on and off and on again.
func TestOrdinary(t *testing.T) {
	l := New(3, true, false)
	for _, m := range []struct {
		c, which int
		err      api.Errno
		e        int
		on, set  bool
		states   []int
		events   []bool
	}{
		{0, api.LifeStart, api.ErrSkip, 0, true, false, []int{-1, -1, -1}, []bool{true, false}},
		{0, api.LifeCreate, api.OK, 1, false, false, []int{0, -1, -1}, []bool{true, false}},
		{2, api.LifeCreate, api.OK, 0, false, false, []int{0, -1, 0}, []bool{false, false}},
		{0, api.LifeCreate, api.ErrSkip, 1, true, true, []int{0, -1, 0}, []bool{false, true}},
		{2, api.LifeStart, api.OK, 0, true, true, []int{0, -1, 1}, []bool{true, true}},
		{1, api.LifeCreate, api.OK, 0, false, false, []int{0, 0, 1}, []bool{false, true}},
		{2, api.LifeDestroy, api.ErrSkip, 0, false, false, []int{0, 0, 1}, []bool{false, true}},
		{2, api.LifeStop, api.OK, 1, true, false, []int{0, 0, 2}, []bool{false, true}},
		{0, api.LifeStart, api.OK, 1, false, false, []int{1, 0, 2}, []bool{false, false}},
		{1, api.LifeDestroy, api.OK, 1, true, true, []int{1, 3, 2}, []bool{false, true}},
		{2, api.LifeStart, api.OK, 2, true, false, []int{1, 3, 1}, []bool{false, true}},
		{1, api.LifeCreate, api.ErrSkip, -1, true, false, []int{1, 3, 1}, []bool{false, true}},
		{0, api.LifeStart, api.ErrSkip, 0, true, true, []int{1, 3, 1}, []bool{true, true}},
		{0, api.LifeStop, api.OK, 0, true, false, []int{2, 3, 1}, []bool{true, true}},
		{0, api.LifeDestroy, api.OK, 0, false, false, []int{3, 3, 1}, []bool{false, true}},
		{2, api.LifeStop, api.OK, 1, false, false, []int{3, 3, 2}, []bool{false, false}},
		{2, api.LifeDestroy, api.OK, 1, false, false, []int{3, 3, 3}, []bool{false, false}},
		{2, api.LifeDestroy, api.ErrSkip, 0, true, true, []int{3, 3, 3}, []bool{true, false}},
	} {
		if err := l.Go(m.c, m.which); err != m.err {
			t.Errorf("Go(%d, %d): %v, want %v", m.c, m.which, err, m.err)
		}
		if got := l.Set(m.e, m.on); got != m.set {
			t.Errorf("Set(%d, %v): %v", m.e, m.on, got)
		}
		want(t, l, m.states, m.events)
	}
}

// P9.3: each event turned each way, from each way: the others stay.
func TestSet(t *testing.T) {
	for was := range 8 {
		for e := range 3 {
			for _, on := range []bool{false, true} {
				events := []bool{was&1 > 0, was&2 > 0, was&4 > 0}
				l := lived(t, []int{api.LifeStart}, events...)
				if got := l.Set(e, on); got != (on && !events[e]) {
					t.Errorf("Set(%d, %v) of %v: %v", e, on, events, got)
				}
				events[e] = on
				want(t, l, []int{api.LifeStart}, events)
				if l.Set(e, on) {
					t.Errorf("Set(%d, %v) a second time: yes", e, on)
				}
				want(t, l, []int{api.LifeStart}, events)
			}
		}
	}
}

// P9.1, P9.2, P9.3, P9.4: lives that are not there have nothing, and get nothing.
func TestNoLives(t *testing.T) {
	var l *Lives
	if l.Comps() != 0 || l.Events() != 0 || l.Copy() != nil {
		t.Error("nothing is something")
	}
	wantNoComps(t, l, api.ErrNil, append(beyond(0), 0, 1)...)
	wantNoEvents(t, l, append(beyond(0), 0, 1)...)
}

// P9.1, P9.2, P9.3, P9.4: zero lives are as those without components and events.
func TestEmpty(t *testing.T) {
	for name, l := range map[string]*Lives{
		"zero": {}, "new": New(0), "below 0": New(-1), "least": New(math.MinInt),
		"no events": New(0, []bool{}...), "copied": New(0).Copy(), "copied zero": new(Lives).Copy(),
	} {
		t.Run(name, func(t *testing.T) {
			if l == nil {
				t.Fatal("it is not there")
			}
			for range 2 {
				want(t, l, nil, nil)
				wantNoComps(t, l, api.ErrArg, 0)
				wantNoEvents(t, l, 0)
			}
			for _, o := range []*Lives{{}, New(0), New(-5), l, l.Copy()} {
				if !l.Same(o) || !o.Same(l) {
					t.Error("it is not as another one without components and events")
				}
			}
			for _, o := range []*Lives{nil, New(1), New(0, false), New(0, true)} {
				if l.Same(o) || o.Same(l) {
					t.Error("it is as another one")
				}
			}
		})
	}
}

// P9.2: where several errors apply, the first one is answered; nothing is changed then.
func TestErrorsInOrder(t *testing.T) {
	states := []int{api.LifeNone, api.LifeDestroy, api.LifeStart}
	l := lived(t, states, true)
	var no *Lives
	for _, c := range []int{-1, 0, 1, 2, 3, math.MaxInt} {
		for which := -3; which < api.Lives+3; which++ {
			if err := no.Go(c, which); err != api.ErrNil {
				t.Errorf("Go(%d, %d) of none: %v", c, which, err)
			}
			arg := c < 0 || c > 2 || which < 0 || which >= api.Lives
			if err := l.Copy().Go(c, which); arg != (err == api.ErrArg) || err == api.ErrNil {
				t.Errorf("Go(%d, %d): %v", c, which, err)
			}
		}
	}
	for _, m := range []struct {
		c, which int
		err      api.Errno
	}{
		{1, api.LifeDestroy + 1, api.ErrArg},
		{1, api.LifeCreate - 1, api.ErrArg},
		{3, api.LifeStop, api.ErrArg},
		{-1, api.LifeCreate, api.ErrArg},
		{3, api.LifeDestroy + 1, api.ErrArg},
		{0, api.LifeStop, api.ErrSkip},
		{1, api.LifeCreate, api.ErrSkip},
		{2, api.LifeDestroy, api.ErrSkip},
	} {
		if err := l.Go(m.c, m.which); err != m.err {
			t.Errorf("Go(%d, %d): %v, want %v", m.c, m.which, err, m.err)
		}
		want(t, l, states, []bool{true})
	}
}

// P9.1: what is handed in is not changed, and what becomes of it changes no lives.
func TestNothingShared(t *testing.T) {
	on := []bool{true, false, true, false}
	l, o := New(1, on[:3]...), New(1, on[:3]...)
	on[0], on[1], on[2], on[3] = false, true, false, true
	want(t, l, nones(1), []bool{true, false, true})
	l.Set(0, false)
	l.Set(1, false)
	l.Set(2, false)
	want(t, o, nones(1), []bool{true, false, true})
	if !slices.Equal(on, []bool{false, true, false, true}) {
		t.Errorf("what was handed in: %v", on)
	}
	goes(t, l, 0, api.LifeCreate)
	want(t, o, nones(1), []bool{true, false, true})
}

// P9.4: a copy goes on apart, and so does what it is of.
func TestCopy(t *testing.T) {
	states, on := []int{api.LifeNone, api.LifeCreate, api.LifeStart, api.LifeStop, api.LifeDestroy}, []bool{true, false, true}
	l := lived(t, states, on...)
	c := l.Copy()
	want(t, c, states, on)
	if !c.Same(l) || !l.Same(c) {
		t.Error("a copy is not the same")
	}
	goes(t, l, 0, api.LifeCreate, api.LifeDestroy)
	goes(t, l, 2, api.LifeStop)
	l.Set(0, false)
	l.Set(1, true)
	want(t, c, states, on)
	if c.Same(l) || l.Same(c) {
		t.Error("they are the same still")
	}

	goes(t, c, 0, api.LifeCreate)
	goes(t, c, 1, api.LifeDestroy)
	goes(t, c, 3, api.LifeStart)
	c.Set(2, false)
	want(t, l, []int{api.LifeDestroy, api.LifeCreate, api.LifeStop, api.LifeStop, api.LifeDestroy}, []bool{false, true, true})
	want(t, c, []int{api.LifeCreate, api.LifeDestroy, api.LifeStart, api.LifeStart, api.LifeDestroy}, []bool{true, false, false})

	// A copy of a copy is apart from both.
	d := c.Copy()
	goes(t, d, 2, api.LifeStop)
	d.Set(1, true)
	want(t, c, []int{api.LifeCreate, api.LifeDestroy, api.LifeStart, api.LifeStart, api.LifeDestroy}, []bool{true, false, false})
	want(t, d, []int{api.LifeCreate, api.LifeDestroy, api.LifeStop, api.LifeStart, api.LifeDestroy}, []bool{true, true, false})

	// So is one of lives of which nothing was yet.
	a := New(1, false)
	b := a.Copy()
	goes(t, b, 0, api.LifeCreate)
	b.Set(0, true)
	want(t, a, nones(1), []bool{false})
	want(t, b, []int{api.LifeCreate}, []bool{true})
}

// P9.4: what is the same, both ways.
func TestSame(t *testing.T) {
	l := lived(t, []int{api.LifeStop, api.LifeNone}, true, false)
	detour := New(2, false, true)
	goes(t, detour, 0, api.LifeCreate, api.LifeStart, api.LifeStop, api.LifeStart, api.LifeStop)
	detour.Go(1, api.LifeDestroy)
	detour.Set(0, true)
	detour.Set(1, false)
	for _, c := range []struct {
		name string
		a, b *Lives
		want bool
	}{
		{"itself", l, l, true},
		{"by a detour", l, detour, true},
		{"destroyed behind create, and behind stop", lived(t, []int{api.LifeDestroy}), destroyedLate(t), true},
		{"states turned", l, lived(t, []int{api.LifeNone, api.LifeStop}, true, false), false},
		{"events turned", l, lived(t, []int{api.LifeStop, api.LifeNone}, false, true), false},
		{"a component more, that never began", l, lived(t, []int{api.LifeStop, api.LifeNone, api.LifeNone}, true, false), false},
		{"a component less, that never began", l, lived(t, []int{api.LifeStop}, true, false), false},
		{"an event more, that is off", l, lived(t, []int{api.LifeStop, api.LifeNone}, true, false, false), false},
		{"an event less, that is off", l, lived(t, []int{api.LifeStop, api.LifeNone}, true), false},
		{"no events", l, lived(t, []int{api.LifeStop, api.LifeNone}), false},
		{"as many in all", New(2, false), New(1, false, false), false},
		{"none and some", New(0), l, false},
		{"two nil ones", nil, nil, true},
		{"two new ones", New(3, true), New(3, true), true},
		{"two zero ones", &Lives{}, &Lives{}, true},
		{"zero and new", &Lives{}, New(0), true},
		{"nil and zero", nil, &Lives{}, false},
		{"nil and new", nil, New(0), false},
		{"nil and some", nil, l, false},
	} {
		if got, back := c.a.Same(c.b), c.b.Same(c.a); got != c.want || back != c.want {
			t.Errorf("%s: %v, %v, want %v", c.name, got, back, c.want)
		}
	}
}

// destroyedLate makes lives of a component that was started ahead of its end.
func destroyedLate(t *testing.T) *Lives {
	t.Helper()
	l := New(1)
	goes(t, l, 0, api.LifeCreate, api.LifeStart, api.LifeStop, api.LifeDestroy)
	return l
}

// P9.4: two lives differ, if one state or one event does alone.
func TestSameInEverything(t *testing.T) {
	for c := range 3 {
		for state := api.LifeNone; state < api.Lives; state++ {
			for other := api.LifeNone; other < api.Lives; other++ {
				states := []int{api.LifeCreate, api.LifeNone, api.LifeStop}
				states[c] = state
				a := lived(t, states, true, false)
				states[c] = other
				b := lived(t, states, true, false)
				if a.Same(b) != (state == other) || b.Same(a) != (state == other) {
					t.Errorf("component %d: states %d and %d", c, state, other)
				}
			}
		}
	}
	for e := range 3 {
		a, b := New(1, true, false, true), New(1, true, false, true)
		b.Set(e, !b.On(e))
		if a.Same(b) || b.Same(a) {
			t.Errorf("the same, but for the event %d", e)
		}
		b.Set(e, a.On(e))
		if !a.Same(b) || !b.Same(a) {
			t.Errorf("not the same, though the event %d is", e)
		}
	}
}
