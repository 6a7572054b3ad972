package trace_test

import (
	"fmt"
	"slices"
	"strings"
	"testing"

	"detent/api"
	"detent/lower"
	"detent/machine"
	"detent/script"
	"detent/step"
)

// parsed is the program of a text.
func parsed(t *testing.T, text string) api.Prog {
	t.Helper()
	p, wrong, err := lower.Text([]byte(text))
	if err != api.OK || len(wrong) > 0 {
		t.Fatalf("%q: %v, %v", text, wrong, err)
	}
	return p
}

// made is a program's machine.
func made(t *testing.T, p api.Prog) *machine.Machine {
	t.Helper()
	m, err := machine.New(p)
	if err != api.OK {
		t.Fatalf("New: %v", err)
	}
	return m
}

// listed is a script that was written as words, entry by entry: "run 0 * 3, tick 5" is one of four.
func listed(t *testing.T, words string) []api.Entry {
	t.Helper()
	var l []api.Entry
	for _, word := range strings.Split(words, ", ") {
		if word == "" {
			continue
		}
		n := 1
		if left, right, many := strings.Cut(word, " * "); many {
			word = left
			fmt.Sscan(right, &n)
		}
		one, err := script.Of(word + "\n")
		if err != api.OK {
			t.Fatalf("%q is no entry", word)
		}
		l = append(l, slices.Repeat(one, n)...)
	}
	return l
}

// behind is a program's machine behind a script, none of whose entries is refused.
func behind(t *testing.T, p api.Prog, words string) *machine.Machine {
	t.Helper()
	m := made(t, p)
	for i, e := range listed(t, words) {
		if err := script.Do(m, e); err != api.OK {
			t.Fatalf("%s: entry %d, %+v: %v", words, i, e, err)
		}
	}
	return m
}

// possible are entries that are steps, or let time go on where there are none.
func possible(m *machine.Machine) []api.Entry {
	var l []api.Entry
	for looper := range api.MaxLoopers {
		l = append(l, api.Entry{Kind: api.EntryRun, At: looper})
	}
	for i := range m.Tasks() {
		l = append(l, api.Entry{Kind: api.EntryWork, At: i + 1})
	}
	return l
}

// settled lets all loopers, then all workers, do a step each, as often as one can, and time go on where none can, till nothing comes of it. Behind each step it looks.
func settled(m *machine.Machine, look func()) {
	for {
		stepped := false
		for _, e := range possible(m) {
			if script.Do(m, e) == api.OK {
				stepped = true
				look()
			}
		}
		waits := slices.ContainsFunc(m.Tasks(), func(x api.Task) bool { return x.State == api.TaskWaits })
		if !stepped && (!waits || m.Tick(1) != api.OK) {
			return
		}
	}
}

// ended is a program's machine at its end, behind a script.
func ended(t *testing.T, p api.Prog, words string) *machine.Machine {
	t.Helper()
	m := behind(t, p, words)
	settled(m, func() {})
	return m
}

// marked are marks that were written as words: "1 begins, 1 posts 2, 1 spawns 3, 1 joins 3, 1 enables 0, 1 writes 5, 1 reads 5, 1 ends". What is accessed is a global.
func marked(t *testing.T, words string) []api.Mark {
	t.Helper()
	kinds := map[string]api.MarkKind{
		"begins": api.MarkBegin, "ends": api.MarkEnd, "writes": api.MarkAccess, "reads": api.MarkAccess,
		"posts": api.MarkPost, "spawns": api.MarkSpawn, "joins": api.MarkJoin, "enables": api.MarkEnable,
	}
	var l []api.Mark
	for _, word := range strings.Split(words, ", ") {
		if word == "" {
			continue
		}
		var x api.Mark
		var deed string
		fmt.Sscan(word, &x.Task, &deed, &x.Other)
		x.Kind = kinds[deed]
		if x.Kind == 0 {
			t.Fatalf("%q is no mark", word)
		}
		if x.Kind == api.MarkAccess {
			x.Access = api.Access{Loc: api.Loc{Kind: api.LocGlobal, A: x.Other}, Write: deed == "writes"}
			x.Other = 0
		}
		l = append(l, x)
	}
	return l
}

// The tasks of runs by hand.

func mains() api.Task { return api.Task{Kind: api.TaskMain, Mark: -1} }

func lives(of, looper, nth, prev int) api.Task {
	return api.Task{Kind: api.TaskLife, Of: of, Looper: looper, Nth: nth, Prev: prev, Mark: -1}
}

func events(of, looper, nth, prev, mark int) api.Task {
	return api.Task{Kind: api.TaskEvent, Of: of, Looper: looper, Nth: nth, Prev: prev, Mark: mark}
}

func posts(by, looper, nth, mark int) api.Task {
	return api.Task{Kind: api.TaskPost, By: by, Looper: looper, Nth: nth, Mark: mark}
}

func spawns(by, nth, mark int) api.Task {
	return api.Task{Kind: api.TaskSpawn, By: by, Looper: -1, Nth: nth, Mark: mark}
}

// apart is a run that shares nothing with another one, but is the same.
func apart(r api.Run) api.Run {
	return api.Run{Tasks: slices.Clone(r.Tasks), Marks: slices.Clone(r.Marks)}
}

// sameRun tells whether two runs are the same.
func sameRun(a, b api.Run) bool {
	return slices.Equal(a.Tasks, b.Tasks) && slices.Equal(a.Marks, b.Marks)
}

// numbered gives a program's sites their numbers.
func numbered(p api.Prog) api.Prog {
	p.Sites = nil
	for f := range p.Funcs {
		for at := range p.Funcs[f].Code {
			x := &p.Funcs[f].Code[at]
			x.Site = -1
			if step.IsSite(x.Op) {
				x.Site = len(p.Sites)
				p.Sites = append(p.Sites, api.Site{Func: f, At: at})
			}
		}
	}
	return p
}

// whole is a program with some of each thing: tasks of each kind, made by each kind; faults of each; objects of each kind; accesses of each kind of location.
const whole = `
looper ui; looper bg;
class C { i int; next C; f fn; k tok; h hand; a arr; }
class D { }
var g int; var c C; var f fn; var k tok; var h hand; var a arr; var d D; var no tok;
fn deep { call deep; }
comp x on ui {
  create { c = new C; c.next = c; }
  start { spawn fn { g = g + 1; log g; } to h; }
  stop { log c.i; c.i = 7; }
  destroy { post bg fn { log a[9]; }; }
}
comp y on bg { start { log 1; } }
event on0 on bg on { log it; g = it; post ui fn { log g; } to k; disable off1; enable off1; }
event off1 on ui off { cancel k; a = arr it; }
event off2 on bg off { disable off2; }
main {
  var n int = 3;
  var i int = 0;
  a = arr n;
  a[1] = 5;
  d = new D;
  f = fn { n = n + 1; };
  enable off1;
  spawn fn { n = n + 2; post bg fn { log n; spawn deep; } front; } to h;
  while i < 3 { var j int = i; post bg fn { log j; c.i = j; call f; } after 2 to k; i = i + 1; }
  join h;
  cancel k;
  enable off2;
  post ui fn { c.h = h; c.k = k; c.f = f; c.a = a; } after 4;
  call f;
  cancel no;
}
`

// texts are programs with their own ways to go on, and what comes from outside of each of them.
var texts = []struct{ text, outer string }{
	{whole, "inject 0 5, life 0 0, life 0 1, life 1 0, life 1 1, inject 0 -3, life 0 2, life 0 1, life 0 2, life 0 3"},
	{"looper ui; main { }", ""},
	{"looper ui; looper bg; event e on bg on { log it; } event f on ui on { log it * 10; disable e; } main { disable f; enable e; enable f; }", "inject 0 1, inject 1 2, inject 0 3, inject 1 4"},
	{"looper ui; var a hand; var b hand; main { spawn fn { while b == null { } join b; } to a; spawn fn { while a == null { } join a; } to b; }", ""},
	{"looper ui; var k tok; main { post ui fn { cancel k; } after 3; post ui fn { log 1; } after 4 to k; post ui fn { log 2; } after 3; post ui fn { log 3; } front; }", ""},
	{"looper ui; class C { i int; } var c C; comp x on ui { create { c = new C; } start { c.i = c.i + 1; } stop { log c.i; } destroy { c = null; } } main { log c.i; }", "life 0 0, life 0 1, life 0 2, life 0 1, life 0 2, life 0 3"},
	{"looper ui; fn f { post ui f; } event e on ui on { log it; } main { call f; }", "inject 0 1"},
	{"looper ui; looper bg; fn f { spawn fn { post bg f; }; } main { call f; }", ""},
	{"looper ui; var g int; main { while 1 { g = g + 1; log g; } }", ""},
	{"looper ui; class C { next C; } var c C; main { while 1 { var n C = new C; n.next = c; c = n; } }", ""},
}
