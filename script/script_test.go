package script_test

import (
	"math"
	"slices"
	"testing"

	"detent/api"
	"detent/machine"
	"detent/script"
)

// P12.1: an entry may be, if it is of a kind, its At is not below 0, and what its text does not have is 0.
func TestMay(t *testing.T) {
	hasAt := map[api.EntryKind]bool{api.EntryRun: true, api.EntryWork: true, api.EntryInject: true, api.EntryLife: true}
	hasN := map[api.EntryKind]bool{api.EntryTick: true, api.EntryInject: true, api.EntryLife: true}
	for _, kind := range kinds {
		for _, at := range places {
			for _, n := range numbers {
				want := (hasAt[kind] || hasN[kind]) && at >= 0 && (hasAt[kind] || at == 0) && (hasN[kind] || n == 0)
				if e := (api.Entry{Kind: kind, At: at, N: n}); script.May(e) != want {
					t.Errorf("May(%+v): %v, want %v", e, !want, want)
				}
			}
		}
	}
}

// P12.1: the same, by hand.
func TestMayByHand(t *testing.T) {
	for _, e := range []api.Entry{
		runs(0), runs(5), runs(math.MaxInt), works(0), works(7), ticks(0), ticks(1), ticks(-1), ticks(math.MaxInt64), ticks(math.MinInt64),
		injects(0, 0), injects(1, -7), injects(math.MaxInt, math.MinInt64), lives(0, 0), lives(3, 3), lives(0, -1), lives(9, 99),
	} {
		if !script.May(e) {
			t.Errorf("%+v may be", e)
		}
	}
	for _, e := range []api.Entry{
		{}, {Kind: -1}, {Kind: 6}, {Kind: 7, At: 1, N: 1}, {At: 1, N: 1}, runs(-1), works(-1), injects(-1, 0), lives(-1, 0), {Kind: api.EntryRun, N: 1}, {Kind: api.EntryRun, At: 1, N: -1},
		{Kind: api.EntryWork, At: 1, N: 1}, {Kind: api.EntryTick, At: 1}, {Kind: api.EntryTick, At: -1, N: 1}, {Kind: api.EntryTick, At: 1, N: 1},
	} {
		if script.May(e) {
			t.Errorf("%+v may not be", e)
		}
	}
}

// P12.1: each kind of entry does what it must, of a program of which it can be told by hand; what the machine says is told.
func TestDo(t *testing.T) {
	p := parsed(t, whole)
	for _, c := range []struct {
		what  string
		ahead []api.Entry
		e     api.Entry
		err   api.Errno
		seen  func(m *machine.Machine) bool // what is to be seen behind it, if it is done
	}{
		{"a step of a looper", nil, runs(0), api.OK, func(m *machine.Machine) bool { return m.Tasks()[0].State == api.TaskRuns && len(m.Marks(0)) == 1 }},
		{"a step of a looper that has nothing to do", nil, runs(1), api.ErrSkip, nil},
		{"a step of no looper", nil, runs(2), api.ErrSkip, nil},
		{"a step of a looper below the first one", nil, runs(-1), api.ErrSkip, nil},
		{"a step of a looper with an N, which is no matter", nil, api.Entry{Kind: api.EntryRun, N: 4}, api.OK, func(m *machine.Machine) bool { return m.Tasks()[0].State == api.TaskRuns }},
		{"a step of a worker", times(3, runs(0)), works(2), api.OK, func(m *machine.Machine) bool { return m.Tasks()[1].State == api.TaskRuns }},
		{"a step of a worker that there is not yet", times(2, runs(0)), works(2), api.ErrSkip, nil},
		{"a worker's step of what is none", times(3, runs(0)), works(1), api.ErrSkip, nil},
		{"a worker's step of nobody", times(3, runs(0)), works(0), api.ErrSkip, nil},
		{"a looper's step with a worker's number", times(3, runs(0)), runs(2), api.ErrSkip, nil},
		{"time", nil, ticks(5), api.OK, func(m *machine.Machine) bool { return m.Now() == 5 }},
		{"time behind time", []api.Entry{ticks(5)}, ticks(3), api.OK, func(m *machine.Machine) bool { return m.Now() == 8 }},
		{"all of the time", nil, ticks(api.MaxNow), api.OK, func(m *machine.Machine) bool { return m.Now() == api.MaxNow }},
		{"time with an At, which is no matter", nil, api.Entry{Kind: api.EntryTick, At: 9, N: 2}, api.OK, func(m *machine.Machine) bool { return m.Now() == 2 }},
		{"no time", nil, ticks(0), api.ErrSkip, nil},
		{"time back", []api.Entry{ticks(5)}, ticks(-1), api.ErrSkip, nil},
		{"more than all of the time", []api.Entry{ticks(1)}, ticks(api.MaxNow), api.ErrSkip, nil},
		{"an event", nil, injects(0, -7), api.OK, func(m *machine.Machine) bool {
			x := m.Tasks()[1]
			return x.Kind == api.TaskEvent && x.Of == 0 && x.Payload == -7 && x.Looper == 1
		}},
		{"an event that is off", nil, injects(1, 5), api.ErrSkip, nil},
		{"no event", nil, injects(2, 5), api.ErrSkip, nil},
		{"an event below the first one", nil, injects(-1, 5), api.ErrSkip, nil},
		{"a callback", nil, lives(2, api.LifeCreate), api.OK, func(m *machine.Machine) bool {
			x := m.Tasks()[1]
			return x.Kind == api.TaskLife && x.Of == 2 && x.Which == api.LifeCreate && x.Looper == 1
		}},
		{"a later callback", []api.Entry{lives(2, 0)}, lives(2, api.LifeStart), api.OK, func(m *machine.Machine) bool { return m.Tasks()[2].Which == api.LifeStart }},
		{"a callback that the component has not", nil, lives(1, 0), api.OK, func(m *machine.Machine) bool { return len(m.Tasks()) == 1 }},
		{"a callback too early", nil, lives(2, api.LifeStart), api.ErrSkip, nil},
		{"a callback of no component", nil, lives(3, 0), api.ErrSkip, nil},
		{"a callback of a component below the first one", nil, lives(-1, 0), api.ErrSkip, nil},
		{"no callback", nil, lives(0, api.Lives), api.ErrSkip, nil},
		{"a callback below the first one", nil, lives(0, -1), api.ErrSkip, nil},
		{"a callback that is one in 32 bits", nil, lives(0, 1<<32), api.ErrSkip, nil},
		{"a callback that is one in 32 bits, below 0", nil, lives(0, math.MinInt64), api.ErrSkip, nil},
		{"a kind below the first one", nil, api.Entry{}, api.ErrArg, nil},
		{"a kind below 0", nil, api.Entry{Kind: -1, N: 1}, api.ErrArg, nil},
		{"a kind above the last one", nil, api.Entry{Kind: api.EntryLife + 1}, api.ErrArg, nil},
	} {
		m, _ := ran(t, p, c.ahead...)
		was := m.Copy()
		if err := script.Do(m, c.e); err != c.err {
			t.Errorf("%s: %v, want %v", c.what, err, c.err)
		}
		if c.err != api.OK {
			wantSame(t, m, was, c.what)
		} else if !c.seen(m) {
			t.Errorf("%s: %s", c.what, tell(m))
		}
	}
}

// P12.1: of no machine each entry is ErrNil, of no such kind, too.
func TestDoToNoMachine(t *testing.T) {
	for _, kind := range kinds {
		for _, e := range []api.Entry{{Kind: kind}, {Kind: kind, N: 1}, {Kind: kind, At: 1, N: 1}, {Kind: kind, At: -1, N: -1}} {
			if err := script.Do(nil, e); err != api.ErrNil {
				t.Errorf("%+v: %v, want ErrNil", e, err)
			}
			zero := &machine.Machine{}
			if err := script.Do(zero, e); err != api.ErrNil || !zero.Same(nil) {
				t.Errorf("%+v: %v, want ErrNil", e, err)
			}
		}
	}
}

// full is a machine that is full, of the program whole.
func full(t *testing.T) *machine.Machine {
	t.Helper()
	m, said := ran(t, parsed(t, whole), times(api.MaxTasks, injects(0, 1))...)
	if want := append(slices.Repeat([]api.Errno{api.OK}, api.MaxTasks-1), api.ErrFull); !slices.Equal(said, want) || !m.Full() {
		t.Fatalf("said %v", said)
	}
	return m
}

// P12.1: a full machine says ErrFull to all, but for what is of no such kind, which is ErrArg ahead of that.
func TestDoToAFullMachine(t *testing.T) {
	m := full(t)
	was := m.Copy()
	for _, kind := range kinds {
		want := api.ErrArg
		if kind >= api.EntryRun && kind <= api.EntryLife {
			want = api.ErrFull
		}
		for _, e := range []api.Entry{{Kind: kind}, {Kind: kind, N: 1}, {Kind: kind, At: 99, N: math.MinInt64}, {Kind: kind, At: -1, N: -1}} {
			if err := script.Do(m, e); err != want {
				t.Errorf("%+v: %v, want %v", e, err, want)
			}
		}
	}
	wantSame(t, m, was, "a full machine")
}

// P12.1: Do comes to what the chapter's table says, whatever the entry is, wherever the machine stands.
func TestDoAsTheTableSays(t *testing.T) {
	t.Parallel()
	for _, text := range texts {
		p := parsed(t, text)
		for _, ahead := range []string{"", "run 0", "run 0 * 3", "tick 4, inject 0 5, life 0 0, run 0 * 4, work 2", "run 0 * 40, work 2 * 9, run 1 * 9, tick 9, run 0 * 20, run 1 * 9"} {
			start, _ := ran(t, p, listed(t, ahead)...)
			for _, kind := range kinds {
				for _, at := range places {
					for _, n := range numbers {
						e := api.Entry{Kind: kind, At: at, N: n}
						a, b := start.Copy(), start.Copy()
						got, want := script.Do(a, e), directly(b, e)
						if got != want || !a.Same(b) {
							t.Fatalf("%q behind %q, %+v: %v, want %v", text, ahead, e, got, want)
						}
						if (want == api.ErrSkip || want == api.ErrArg) && !a.Same(start) {
							t.Fatalf("%q behind %q, %+v is refused, but changes the machine", text, ahead, e)
						}
					}
				}
			}
		}
	}
}

// P12.1: Run tells the machine behind a whole script, and what it said to each entry.
func TestRun(t *testing.T) {
	const ok, skip, arg = api.OK, api.ErrSkip, api.ErrArg
	for _, c := range []struct {
		what, text string
		l          []api.Entry
		said       []api.Errno
		log        []int64
	}{
		{"no entries", whole, nil, nil, nil},
		{"a main that does nothing", "looper ui; main { }", listed(t, "run 0 * 3"), []api.Errno{ok, ok, skip}, nil},
		{"an event with a payload", "looper ui; event e on ui on { log it; } main { }", listed(t, "inject 0 -7, run 0 * 6, run 0"), []api.Errno{ok, ok, ok, ok, ok, ok, ok, skip}, []int64{-7}},
		{"an event that is off, then on", "looper ui; event e on ui off { log it; } main { enable e; }", listed(t, "inject 0 1, run 0 * 3, inject 0 2, run 0 * 4"), []api.Errno{skip, ok, ok, ok, ok, ok, ok, ok, ok}, []int64{2}},
		{"a component's life", "looper ui; comp c on ui { create { log 1; } stop { log 3; } } main { }", listed(t, "life 0 1, life 0 0, life 0 0, life 0 1, life 0 2, run 0 * 10, life 0 3, run 0"), []api.Errno{skip, ok, skip, ok, ok, ok, ok, ok, ok, ok, ok, ok, ok, ok, ok, ok, skip}, []int64{1, 3}},
		{"a worker", "looper ui; main { spawn fn { log 4; }; }", listed(t, "work 2, run 0 * 3, work 1, work 2 * 4, work 2"), []api.Errno{skip, ok, ok, ok, skip, ok, ok, ok, ok, skip}, []int64{4}},
		{"time", "looper ui; main { post ui fn { log 5; } after 5; }", listed(t, "run 0 * 4, run 0, tick 4, run 0, tick 1, run 0 * 4"), []api.Errno{ok, ok, ok, ok, skip, ok, skip, ok, ok, ok, ok, ok}, []int64{5}},
		{"a join that is blocked", "looper ui; var h hand; main { spawn fn { } to h; join h; log 1; }", listed(t, "run 0 * 5, run 0, work 2 * 2, run 0 * 4"), []api.Errno{ok, ok, ok, ok, ok, skip, ok, ok, ok, ok, ok, ok}, []int64{1}},
		{"one that is of no kind, others that may not be", "looper ui; main { log 1; }", []api.Entry{runs(0), {}, runs(0), {Kind: 6}, {Kind: api.EntryRun, N: 3}, runs(-1), {Kind: api.EntryTick, At: 1, N: 1}, runs(0)}, []api.Errno{ok, arg, ok, arg, ok, skip, ok, ok}, []int64{1}},
	} {
		m, said := ran(t, parsed(t, c.text), c.l...)
		if !slices.Equal(said, c.said) || !slices.Equal(m.Log(), c.log) {
			t.Errorf("%s: said\n%v, want\n%v; log %v, want %v", c.what, said, c.said, m.Log(), c.log)
		}
	}
}

// P12.1: a script without entries leaves a new machine.
func TestRunOfNoEntries(t *testing.T) {
	for _, text := range texts {
		p := parsed(t, text)
		m, said := ran(t, p)
		wantSame(t, m, made(t, p), text)
		if len(said) > 0 {
			t.Errorf("said %v", said)
		}
	}
}

// P12.1: a whole program with each kind of entry comes to its end.
func TestRunOfAWholeProgram(t *testing.T) {
	l := listed(t, "inject 1 3, run 0 * 3, work 2 * 6, run 0 * 4, inject 1 4, run 0 * 12, inject 1 4, life 0 0, life 0 1, life 0 2, run 0 * 8, "+
		"life 2 0, run 1 * 4, tick 5, life 1 0, run 1 * 4, inject 0 9, run 1 * 6, life 2 1, run 1 * 4, life 0 3, run 0 * 4")
	m, said := ran(t, parsed(t, whole), l...)
	var refused []api.Entry
	for i, err := range said {
		if err != api.OK {
			refused = append(refused, l[i])
		}
		if err != api.OK && err != api.ErrSkip {
			t.Errorf("%d, %+v: %v", i, l[i], err)
		}
	}
	if want := listed(t, "inject 1 3, inject 1 4"); !slices.Equal(refused, want) {
		t.Errorf("refused %+v, want %+v; %v", refused, want, m.Log())
	}
	if want := []int64{7, 8, 100, 102, 110, 5, 9, 111, 103}; !slices.Equal(m.Log(), want) || !m.Ended() || m.Now() != 5 {
		t.Errorf("log %v, want %v; ended %v, now %d; %+v", m.Log(), want, m.Ended(), m.Now(), m.Tasks())
	}
}

// P12.1: of a program that may not be there is neither machine nor what it said, whatever the entries are.
func TestRunOfNoProgram(t *testing.T) {
	for what, change := range map[string]func(p *api.Prog){
		"nothing":          func(p *api.Prog) { *p = api.Prog{} },
		"no looper":        func(p *api.Prog) { p.Loopers = nil },
		"no main":          func(p *api.Prog) { p.Main = len(p.Funcs) },
		"a looper no more": func(p *api.Prog) { p.Events[0].Looper = 2 },
		"no end":           func(p *api.Prog) { p.Funcs[p.Main].Code = nil },
		"sites are gone":   func(p *api.Prog) { p.Sites = nil },
	} {
		p := parsed(t, whole)
		change(&p)
		for _, l := range [][]api.Entry{nil, {runs(0)}, {{}}, {runs(0), ticks(-1), injects(0, 1)}} {
			if m, said, err := script.Run(p, l...); m != nil || said != nil || err != api.ErrArg {
				t.Errorf("%s, %+v: %v, %v, %v", what, l, m, said, err)
			}
		}
	}
}

// P12.1: what is handed in is neither changed nor kept; two answers are apart.
func TestRunKeepsNothing(t *testing.T) {
	p, l := parsed(t, whole), listed(t, "run 0 * 3, inject 0 4, work 2 * 2, tick 0, run 1 * 2")
	was := slices.Clone(l)
	m, said := ran(t, p, l...)
	o, other := ran(t, p, l...)
	if !slices.Equal(l, was) {
		t.Errorf("%+v became %+v", was, l)
	}
	clear(said)
	clear(l)
	if m.Tick(1) != api.OK || o.Now() != 0 || m.Same(o) {
		t.Error("two machines go on together")
	}
	for f := range p.Funcs {
		clear(p.Funcs[f].Code)
	}
	clear(p.Events)
	fresh := parsed(t, whole)
	n, last := ran(t, fresh, was...)
	wantSame(t, o, n, "of a program that was changed")
	if !slices.Equal(other, last) {
		t.Errorf("said %v, want %v", other, last)
	}
	e := listed(t, "run 0 * 4, work 2 * 6, run 0 * 9")
	for _, x := range e {
		if a, b := script.Do(o, x), script.Do(n, x); a != b {
			t.Errorf("%+v: %v, want %v", x, a, b)
		}
	}
	wantSame(t, o, n, "of a program that was changed, further on")
}

// P12.1: a script that makes a machine full says so to each entry from there on.
func TestRunTillFull(t *testing.T) {
	p := parsed(t, "looper ui; event e on ui on { } main { while 1 { } }")
	l := append(times(api.MaxSteps, runs(0)), ticks(0), runs(1), runs(0), ticks(0), injects(0, 5), api.Entry{}, runs(1))
	m, said := ran(t, p, l...)
	want := slices.Repeat([]api.Errno{api.OK}, api.MaxSteps)
	want = append(want, api.ErrSkip, api.ErrSkip, api.ErrFull, api.ErrFull, api.ErrFull, api.ErrArg, api.ErrFull)
	if !slices.Equal(said, want) || !m.Full() {
		t.Errorf("full %v, said %v", m.Full(), said[api.MaxSteps:])
	}
}
