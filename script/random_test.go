package script_test

import (
	"fmt"
	"math"
	"math/rand"
	"slices"
	"strings"
	"testing"

	"detent/api"
	"detent/machine"
	"detent/script"
)

// pick tells one of some.
func pick[T any](r *rand.Rand, l ...T) T { return l[r.Intn(len(l))] }

// grown is a random program's text, whose components have all callbacks.
func grown(r *rand.Rand) string {
	block := func() string { return grownBlock(r, 0) }
	looper := func() string { return pick(r, "ui", "bg") }
	var text strings.Builder
	text.WriteString("looper ui; looper bg; class C { i int; next C; } var g int; var c C; var h hand; var k tok;\n")
	for _, name := range []string{"a", "b"} {
		fmt.Fprintf(&text, "fn %s %s\n", name, block())
	}
	for _, name := range []string{"x", "y"} {
		fmt.Fprintf(&text, "comp %s on %s { create %s start %s stop %s destroy %s }\n", name, looper(), block(), block(), block(), block())
	}
	for _, name := range []string{"e", "f", "d"} {
		fmt.Fprintf(&text, "event %s on %s %s %s\n", name, looper(), pick(r, "on", "off"), block())
	}
	fmt.Fprintf(&text, "main %s\n", block())
	return text.String()
}

// grownBlock is a random block's text.
func grownBlock(r *rand.Rand, nest int) string {
	l := []string{"{"}
	for range r.Intn(6) {
		if nest < 2 && r.Intn(6) == 0 {
			around := pick(r, [2]string{"if g < 3 "}, [2]string{"spawn fn ", ";"}, [2]string{"post ui fn ", ";"}, [2]string{"call fn ", ";"})
			l = append(l, around[0]+grownBlock(r, nest+1)+around[1])
			continue
		}
		l = append(l, pick(r, "log g;", "log it;", "g = g + 1;", "g = it;", "call a;", "post ui a;", "post bg b to k;", "post bg a after 2;", "post ui b after 1 to k;", "post ui a front;", "spawn b;", "spawn a to h;", "join h;",
			"cancel k;", "enable e;", "enable f;", "disable e;", "disable d;", "c = new C;", "c.i = g;", "log c.i;", "c.next = c;"))
	}
	return strings.Join(append(l, "}"), " ")
}

// anyEntry is a random entry, now and then one that may not be.
func anyEntry(r *rand.Rand) api.Entry {
	switch r.Intn(24) {
	case 0, 1:
		return injects(r.Intn(5)-1, pick(r, numbers...))
	case 2, 3:
		return lives(r.Intn(4)-1, int64(r.Intn(6)-1))
	case 4:
		return ticks(pick[int64](r, 1, 1, 2, 3, 0, -1, api.MaxNow))
	case 5:
		return api.Entry{Kind: pick(r, kinds...), At: pick(r, places...), N: pick(r, numbers...)}
	case 6, 7, 8, 9, 10, 11, 12:
		return works(r.Intn(12))
	}
	return runs(r.Intn(3))
}

func anyScript(r *rand.Rand, most int) []api.Entry {
	var l []api.Entry
	for range r.Intn(most + 1) {
		l = append(l, anyEntry(r))
	}
	return l
}

// stepwise does a script entry by entry, each as the chapter's table says, or by Do.
func stepwise(t *testing.T, p api.Prog, l []api.Entry, do func(m *machine.Machine, e api.Entry) api.Errno) (*machine.Machine, []api.Errno) {
	t.Helper()
	m := made(t, p)
	var said []api.Errno
	for _, e := range l {
		said = append(said, do(m, e))
	}
	return m, said
}

// wantOneEnd holds that a script comes to the same all at once, once more, entry by entry, and without what was refused as ErrSkip, or as of no kind. It tells what was said.
func wantOneEnd(t *testing.T, p api.Prog, l []api.Entry) []api.Errno {
	t.Helper()
	m, said := ran(t, p, l...)
	again, saidAgain := ran(t, p, l...)
	each, saidEach := stepwise(t, p, l, script.Do)
	direct, saidDirect := stepwise(t, p, l, directly)
	if !slices.Equal(said, saidAgain) || !slices.Equal(said, saidEach) || !slices.Equal(said, saidDirect) {
		t.Errorf("said %v, %v, %v, %v", said, saidAgain, saidEach, saidDirect)
	}
	wantSame(t, again, m, "once more")
	wantSame(t, each, m, "entry by entry")
	wantSame(t, direct, m, "as the table says")
	var few []api.Entry
	var want []api.Errno
	for i, e := range l {
		if said[i] != api.ErrSkip && said[i] != api.ErrArg {
			few, want = append(few, e), append(want, said[i])
		}
	}
	rest, got := ran(t, p, few...)
	wantSame(t, rest, m, "without what is skipped")
	if !slices.Equal(got, want) || !slices.Equal(script.Given(few, got), script.Given(l, said)) {
		t.Errorf("without what is skipped: said %v, want %v", got, want)
	}
	return said
}

// P12.4, P0.6: the same program and script come to the same, and what is skipped changes nothing, of random programs and scripts.
func TestRandomScripts(t *testing.T) {
	t.Parallel()
	r := rand.New(rand.NewSource(124))
	seen := map[api.Errno]int{}
	for range 700 {
		text := grown(r)
		for _, err := range wantOneEnd(t, parsed(t, text), anyScript(r, 250)) {
			seen[err]++
		}
		if t.Failed() {
			t.Fatalf("of %s", text)
		}
	}
	for _, err := range []api.Errno{api.OK, api.ErrSkip, api.ErrArg} {
		if seen[err] == 0 {
			t.Errorf("never said: %v", err)
		}
	}
}

// P12.4, P0.6: the same where the machine becomes full on the way.
func TestRandomScriptsOfFullMachines(t *testing.T) {
	t.Parallel()
	r := rand.New(rand.NewSource(1244))
	full := 0
	for range 60 {
		text := "looper ui; looper bg; var g int; event e on bg on { g = it; log g; } main { while 1 { spawn fn { g = 1; }; post bg fn { log g; } after 1; } }"
		var l []api.Entry
		for range 3 {
			l = append(l, anyScript(r, 80)...)
			l = append(l, times(r.Intn(200), pick(r, injects(0, 3), runs(0)))...)
		}
		l = append(l, injects(7, 1), runs(0), ticks(-1), runs(0), api.Entry{})
		if said := wantOneEnd(t, parsed(t, text), l); slices.Contains(said, api.ErrFull) {
			full++
		}
		if t.Failed() {
			t.Fatalf("%+v", l)
		}
	}
	if full == 0 || full == 60 {
		t.Errorf("%d of 60 are full", full)
	}
}

// P12.4: a script's text is read as it, and comes to the same.
func TestRandomScriptsByTheirTexts(t *testing.T) {
	t.Parallel()
	r := rand.New(rand.NewSource(12444))
	for range 200 {
		p := parsed(t, grown(r))
		l := slices.DeleteFunc(anyScript(r, 200), func(e api.Entry) bool { return !script.May(e) })
		again, err := script.Of(script.Text(l...))
		if err != api.OK || !slices.Equal(again, l) {
			t.Fatalf("%+v, %v, want %+v", again, err, l)
		}
		a, saidA := ran(t, p, l...)
		b, saidB := ran(t, p, again...)
		wantSame(t, b, a, "by its text")
		if !slices.Equal(saidA, saidB) {
			t.Errorf("said %v, want %v", saidB, saidA)
		}
	}
}

// P12.4: each kind of entry that is skipped changes nothing, behind each entry of a script.
func TestSkippedEntriesChangeNothing(t *testing.T) {
	t.Parallel()
	r := rand.New(rand.NewSource(1240))
	skipped := map[api.EntryKind]int{}
	for range 60 {
		m := made(t, parsed(t, grown(r)))
		for _, e := range anyScript(r, 120) {
			script.Do(m, e)
			for _, x := range []api.Entry{runs(-1), runs(0), runs(1), runs(2), runs(math.MaxInt), works(-1), works(0), works(1), works(2), works(3), ticks(0), ticks(-3), ticks(math.MinInt64), ticks(api.MaxNow + 1), injects(-1, 0), injects(0, 1), injects(1, 1), injects(2, 1), injects(3, 1),
				lives(-1, 0), lives(0, -1), lives(0, 0), lives(0, 1), lives(0, 2), lives(1, 3), lives(0, 4), lives(2, 0), lives(0, 1<<32), lives(0, math.MinInt64)} {
				c := m.Copy()
				if script.Do(c, x) != api.ErrSkip {
					continue
				}
				skipped[x.Kind]++
				if !c.Same(m) {
					t.Fatalf("%+v is skipped, but changes the machine", x)
				}
			}
		}
	}
	for kind := api.EntryRun; kind <= api.EntryLife; kind++ {
		if skipped[kind] == 0 {
			t.Errorf("none of kind %d is skipped", kind)
		}
	}
}
