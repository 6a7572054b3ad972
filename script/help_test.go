package script_test

import (
	"fmt"
	"math"
	"slices"
	"strings"
	"testing"

	"detent/api"
	"detent/lower"
	"detent/machine"
	"detent/script"
)

// whole is a program with some of each thing: two loopers, components (one of them without some callbacks, one without any), events (one of them off), a post, a worker, a join.
const whole = `
looper ui; looper bg;
var g int; var h hand;
comp c on ui { create { log 100; } stop { log 102; } destroy { log 103; } }
comp d on bg { }
comp e on bg { create { log 110; } start { log 111; } stop { log 112; } destroy { log 113; } }
event on0 on bg on { log it; g = it; }
event off1 on ui off { log it * 2; disable off1; }
main {
  spawn fn { g = g + 5; } to h;
  post bg fn { log g; } after 5;
  enable off1;
  join h;
  log 7;
}
`

// texts are programs with their own ways to go on, to be done, to be stuck, and to be full.
var texts = []string{
	whole,
	"looper ui; main { }",
	"looper ui; looper bg; event e on bg on { log it; } event f on ui on { log it * 10; disable e; } main { disable f; enable e; enable f; }",
	"looper ui; var a hand; var b hand; main { spawn fn { while b == null { } join b; } to a; spawn fn { while a == null { } join a; } to b; }",
	"looper ui; var k tok; main { post ui fn { cancel k; } after 3; post ui fn { log 1; } after 4 to k; post ui fn { log 2; } after 3; post ui fn { log 3; } front; }",
	"looper ui; class C { i int; } var c C; comp x on ui { create { c = new C; } start { c.i = c.i + 1; } stop { log c.i; } destroy { c = null; } } main { log c.i; }",
	"looper ui; fn f { post ui f; post ui f; } event e on ui on { log it; } main { call f; }",
	"looper ui; comp x on ui { create { while 1 { } } } main { while 1 { } }",
}

// numbers are such as may be an entry's N, or may not.
var numbers = []int64{math.MinInt64, math.MinInt64 + 1, -1000001, -7, -1, 0, 1, 2, 3, 4, 7, 10, 256, 1<<32 + 1, api.MaxNow, math.MaxInt64 - 1, math.MaxInt64}

// places are such as may be an entry's At, or may not.
var places = []int{math.MinInt, -8, -1, 0, 1, 2, 3, 9, 10, 300, math.MaxInt - 1, math.MaxInt}

// kinds are all kinds, and such as there are not.
var kinds = []api.EntryKind{math.MinInt, -1, 0, api.EntryRun, api.EntryWork, api.EntryTick, api.EntryInject, api.EntryLife, api.EntryLife + 1, 100, math.MaxInt}

func runs(at int) api.Entry                { return api.Entry{Kind: api.EntryRun, At: at} }
func works(at int) api.Entry               { return api.Entry{Kind: api.EntryWork, At: at} }
func ticks(n int64) api.Entry              { return api.Entry{Kind: api.EntryTick, N: n} }
func injects(at int, n int64) api.Entry    { return api.Entry{Kind: api.EntryInject, At: at, N: n} }
func lives(at int, n int64) api.Entry      { return api.Entry{Kind: api.EntryLife, At: at, N: n} }
func times(n int, e api.Entry) []api.Entry { return slices.Repeat([]api.Entry{e}, n) }

// parsed is the program of a text.
func parsed(t *testing.T, text string) api.Prog {
	t.Helper()
	p, wrong, err := lower.Text([]byte(text))
	if err != api.OK || len(wrong) > 0 {
		t.Fatalf("%q: %v, %v", text, wrong, err)
	}
	return p
}

// made is a program's machine.
func made(t *testing.T, p api.Prog) *machine.Machine {
	t.Helper()
	m, err := machine.New(p)
	if err != api.OK {
		t.Fatalf("New: %v", err)
	}
	return m
}

// listed is a list that was written as words, entry by entry: "run 0 * 3, tick 5" is a script of four.
func listed(t *testing.T, words string) []api.Entry {
	t.Helper()
	var l []api.Entry
	for _, word := range strings.Split(words, ", ") {
		if word == "" {
			continue
		}
		n := 1
		if left, right, many := strings.Cut(word, " * "); many {
			word = left
			fmt.Sscan(right, &n)
		}
		var e api.Entry
		var kind string
		switch fmt.Sscan(word, &kind); kind {
		case "run":
			e.Kind = api.EntryRun
			fmt.Sscan(word, &kind, &e.At)
		case "work":
			e.Kind = api.EntryWork
			fmt.Sscan(word, &kind, &e.At)
		case "tick":
			e.Kind = api.EntryTick
			fmt.Sscan(word, &kind, &e.N)
		case "inject":
			e.Kind = api.EntryInject
			fmt.Sscan(word, &kind, &e.At, &e.N)
		case "life":
			e.Kind = api.EntryLife
			fmt.Sscan(word, &kind, &e.At, &e.N)
		default:
			t.Fatalf("%q is no entry", word)
		}
		l = append(l, times(n, e)...)
	}
	return l
}

// ran is the machine of a program behind a script, and what it said to each entry.
func ran(t *testing.T, p api.Prog, l ...api.Entry) (*machine.Machine, []api.Errno) {
	t.Helper()
	m, said, err := script.Run(p, l...)
	if err != api.OK || m.Same(nil) || len(said) != len(l) {
		t.Fatalf("Run: %d said to %d entries, %v", len(said), len(l), err)
	}
	return m, said
}

// directly does what the chapter's table says that an entry does.
func directly(m *machine.Machine, e api.Entry) api.Errno {
	switch e.Kind {
	case api.EntryRun:
		return m.Run(e.At)
	case api.EntryWork:
		return m.Work(e.At)
	case api.EntryTick:
		return m.Tick(e.N)
	case api.EntryInject:
		return m.Inject(e.At, e.N)
	case api.EntryLife:
		return m.Life(e.At, int(e.N))
	}
	return api.ErrArg
}

// tell is all that can be seen of a machine.
func tell(m *machine.Machine) string {
	var l []string
	for id, x := range m.Heap().All() {
		l = append(l, fmt.Sprint(id, x))
	}
	for task := -1; task < len(m.Tasks())+2; task++ {
		l = append(l, fmt.Sprint(m.Waits(task), m.Site(task)))
	}
	return fmt.Sprintf("%v %v %v %v %d %+v %v %v %v %+v", m.Full(), m.Can(), m.Ended(), m.Blocked(), m.Now(), m.Tasks(), m.Globals(), m.Log(), l, m.Marks(0))
}

// wantSame holds that two machines are the same in everything.
func wantSame(t *testing.T, a, b *machine.Machine, what string) {
	t.Helper()
	if !a.Same(b) || tell(a) != tell(b) {
		t.Errorf("%s: %s, want\n%s", what, tell(a), tell(b))
	}
}
