package script_test

import (
	"math"
	"math/rand"
	"slices"
	"testing"

	"detent/api"
	"detent/script"
)

// P12.2: what is given stands component by component, then event by event, each in the order of the script, without what was refused, and without steps and time.
func TestGiven(t *testing.T) {
	const ok, skip = api.OK, api.ErrSkip
	for _, c := range []struct {
		what string
		l    string
		said []api.Errno
		want string
	}{
		{"nothing", "", nil, ""},
		{"steps and time alone", "run 0, work 1, tick 3, run 1", []api.Errno{ok, ok, ok, ok}, ""},
		{"an event", "run 0, inject 0 5, run 0", []api.Errno{ok, ok, ok}, "inject 0 5"},
		{"a callback", "run 0, life 0 0, run 0", []api.Errno{ok, ok, ok}, "life 0 0"},
		{"components ahead of events", "inject 0 5, life 1 0, inject 0 6, life 1 1", []api.Errno{ok, ok, ok, ok}, "life 1 0, life 1 1, inject 0 5, inject 0 6"},
		{"component by component", "life 2 0, life 0 0, life 2 1, life 1 0, life 0 3", []api.Errno{ok, ok, ok, ok, ok}, "life 0 0, life 0 3, life 1 0, life 2 0, life 2 1"},
		{"event by event", "inject 2 1, inject 0 9, inject 2 0, inject 1 -7, inject 0 8", []api.Errno{ok, ok, ok, ok, ok}, "inject 0 9, inject 0 8, inject 1 -7, inject 2 1, inject 2 0"},
		{"the same often", "inject 1 4, inject 1 4, inject 0 4, inject 1 4", []api.Errno{ok, ok, ok, ok}, "inject 0 4, inject 1 4, inject 1 4, inject 1 4"},
		{"what was refused", "inject 0 1, life 0 0, inject 0 2, life 0 1, inject 0 3, life 0 2", []api.Errno{skip, ok, ok, skip, api.ErrFull, ok}, "life 0 0, life 0 2, inject 0 2"},
		{"all was refused", "inject 0 1, life 0 0", []api.Errno{skip, skip}, ""},
		{"each error is one", "inject 0 1, inject 0 2, inject 0 3, inject 0 4, inject 0 5, inject 0 6", []api.Errno{api.ErrNil, api.ErrArg, api.ErrNone, -1, 99, ok}, "inject 0 6"},
		{"a step was refused", "run 5, inject 0 1, tick 0", []api.Errno{skip, ok, skip}, "inject 0 1"},
		{"fewer errors", "inject 0 1, inject 0 2, inject 0 3", []api.Errno{ok, skip}, "inject 0 1"},
		{"no errors", "inject 0 1, life 0 0", nil, ""},
		{"more errors", "inject 0 1, inject 0 2", []api.Errno{skip, ok, ok, skip, ok}, "inject 0 2"},
		{"errors alone", "", []api.Errno{ok, skip}, ""},
		{"what may not be", "inject -1 3, life -9 7, life 0 99, inject 7 0, life 0 -1", []api.Errno{ok, ok, ok, ok, ok}, "life -9 7, life 0 99, life 0 -1, inject -1 3, inject 7 0"},
	} {
		l, want := listed(t, c.l), listed(t, c.want)
		if got := script.Given(l, c.said); !slices.Equal(got, want) {
			t.Errorf("%s: %+v, want %+v", c.what, got, want)
		}
		if !slices.Equal(l, listed(t, c.l)) {
			t.Errorf("%s: the script is changed", c.what)
		}
	}
}

// P12.2: entries of no kind are none that come from outside.
func TestGivenOfNoKind(t *testing.T) {
	var l []api.Entry
	for _, kind := range kinds {
		l = append(l, api.Entry{Kind: kind, At: 1, N: 2})
	}
	if got, want := script.Given(l, make([]api.Errno, len(l))), []api.Entry{lives(1, 2), injects(1, 2)}; !slices.Equal(got, want) {
		t.Errorf("%+v, want %+v", got, want)
	}
}

// P12.2: what is given is apart from what was handed in.
func TestGivenIsApart(t *testing.T) {
	l, said := listed(t, "inject 0 1, inject 0 2, inject 1 3"), make([]api.Errno, 3)
	got := script.Given(l, said)
	clear(got)
	if !slices.Equal(l, listed(t, "inject 0 1, inject 0 2, inject 1 3")) || !slices.Equal(said, make([]api.Errno, 3)) {
		t.Errorf("%+v, %v", l, said)
	}
	got = script.Given(l, said)
	clear(l)
	clear(said)
	if !slices.Equal(got, listed(t, "inject 0 1, inject 0 2, inject 1 3")) {
		t.Errorf("%+v", got)
	}
}

// given tells what is given, source by source, by the chapter's words.
func given(l []api.Entry, said []api.Errno) []api.Entry {
	var out []api.Entry
	for _, kind := range []api.EntryKind{api.EntryLife, api.EntryInject} {
		for _, at := range places {
			for i, x := range l {
				if x.Kind == kind && x.At == at && i < len(said) && said[i] == api.OK {
					out = append(out, x)
				}
			}
		}
	}
	return out
}

// P12.2: random scripts and errors, against the chapter's words, source by source.
func TestRandomGiven(t *testing.T) {
	r := rand.New(rand.NewSource(12))
	for range 5000 {
		l, said := make([]api.Entry, r.Intn(40)), make([]api.Errno, r.Intn(40))
		for i := range l {
			l[i] = api.Entry{Kind: kinds[r.Intn(len(kinds))], At: places[r.Intn(len(places))], N: numbers[r.Intn(len(numbers))]}
		}
		for i := range said {
			said[i] = api.Errno(max(0, r.Intn(20)-10))
		}
		if got, want := script.Given(l, said), given(l, said); !slices.Equal(got, want) {
			t.Fatalf("%+v, %v: %+v, want %+v", l, said, got, want)
		}
	}
}

// P12.2: a long script, whose sources take turns.
func TestGivenOfALongScript(t *testing.T) {
	const n = 300000
	var l []api.Entry
	for i := range n {
		l = append(l, api.Entry{Kind: api.EntryInject - api.EntryKind(i%2) + 2*api.EntryKind(i%2), At: math.MaxInt - i%7, N: int64(i)})
	}
	got := script.Given(l, make([]api.Errno, n))
	if len(got) != n {
		t.Fatalf("%d, want %d", len(got), n)
	}
	for i := 1; i < n; i++ {
		a, b := got[i-1], got[i]
		if a.Kind < b.Kind || a.Kind == b.Kind && (a.At > b.At || a.At == b.At && a.N >= b.N) {
			t.Fatalf("%+v stands ahead of %+v", a, b)
		}
	}
}

// P12.2: what a run was given is what its events' tasks tell by their payloads, and its components' ones by their callbacks.
func TestGivenAsTasksTell(t *testing.T) {
	t.Parallel()
	r := rand.New(rand.NewSource(122))
	seen := map[api.EntryKind]int{}
	for range 300 {
		p := parsed(t, grown(r))
		l := anyScript(r, 120)
		m, said := ran(t, p, l...)
		var told []api.Entry
		for comp, c := range p.Comps {
			for i, x := range l {
				// A callback that a component has not makes no task.
				if x.Kind == api.EntryLife && x.At == comp && said[i] == api.OK && c.Funcs[x.N] < 0 {
					t.Fatalf("%+v has not all callbacks", c)
				}
			}
			for _, x := range m.Tasks() {
				if x.Kind == api.TaskLife && x.Of == comp {
					told = append(told, lives(comp, int64(x.Which)))
				}
			}
		}
		for event := range p.Events {
			for _, x := range m.Tasks() {
				if x.Kind == api.TaskEvent && x.Of == event {
					told = append(told, injects(event, x.Payload))
				}
			}
		}
		got := script.Given(l, said)
		if !slices.Equal(got, told) {
			t.Fatalf("%+v, want %+v", got, told)
		}
		for _, x := range got {
			seen[x.Kind]++
		}
	}
	if seen[api.EntryInject] == 0 || seen[api.EntryLife] == 0 {
		t.Errorf("seen %v", seen)
	}
}
