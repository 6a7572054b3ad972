package trace_test

import (
	"fmt"
	"math"
	"math/rand"
	"slices"
	"strings"
	"testing"

	"detent/api"
	"detent/machine"
	"detent/script"
	"detent/trace"
)

// pick tells one of some.
func pick[T any](r *rand.Rand, l ...T) T { return l[r.Intn(len(l))] }

// grown is a random program's text.
func grown(r *rand.Rand) string {
	block := func() string { return grownBlock(r, 0) }
	looper := func() string { return pick(r, "ui", "bg") }
	var text strings.Builder
	text.WriteString("looper ui; looper bg; class C { i int; next C; k tok; h hand; f fn; } var g int; var c C; var h hand; var k tok; var a arr; var f fn;\n")
	for _, name := range []string{"p", "q"} {
		fmt.Fprintf(&text, "fn %s %s\n", name, block())
	}
	for _, name := range []string{"x", "y"} {
		fmt.Fprintf(&text, "comp %s on %s { create %s start %s stop %s destroy %s }\n", name, looper(), block(), block(), block(), block())
	}
	for _, name := range []string{"e", "d", "o"} {
		fmt.Fprintf(&text, "event %s on %s %s %s\n", name, looper(), pick(r, "on", "off"), block())
	}
	fmt.Fprintf(&text, "main %s\n", block())
	return text.String()
}

// grownBlock is a random block's text.
func grownBlock(r *rand.Rand, nest int) string {
	l := []string{"{ var n int = g;"}
	for range r.Intn(6) {
		if nest < 2 && r.Intn(5) == 0 {
			around := pick(r, [2]string{"if g < 3 "}, [2]string{"spawn fn ", " to h;"}, [2]string{"post ui fn ", " to k;"}, [2]string{"post bg fn ", " after 1;"}, [2]string{"f = fn ", ";"})
			l = append(l, around[0]+grownBlock(r, nest+1)+around[1])
			continue
		}
		l = append(l, pick(r, "log g;", "log n;", "g = g + 1;", "g = it;", "n = n + 1;", "call p;", "call f;", "f = fn { n = n + 1; };", "post ui p;", "post bg q to k;", "post bg p after 2;", "post ui q front;", "spawn q;", "spawn p to h;", "join h;",
			"cancel k;", "enable e;", "enable o;", "disable e;", "disable d;", "c = new C;", "c.i = n;", "log c.i;", "c.next = c;", "c.k = k;", "c.h = h;", "c.f = f;", "a = arr 3;", "a[1] = g;", "log a[n];"))
	}
	return strings.Join(append(l, "}"), " ")
}

// anyEntry is a random entry that may well be refused.
func anyEntry(r *rand.Rand) api.Entry {
	switch r.Intn(20) {
	case 0, 1:
		return api.Entry{Kind: api.EntryInject, At: r.Intn(4), N: int64(r.Intn(9) - 3)}
	case 2, 3:
		return api.Entry{Kind: api.EntryLife, At: r.Intn(2), N: int64(r.Intn(api.Lives))}
	case 4:
		return api.Entry{Kind: api.EntryTick, N: int64(r.Intn(3))}
	case 5, 6, 7, 8, 9:
		return api.Entry{Kind: api.EntryWork, At: r.Intn(14)}
	}
	return api.Entry{Kind: api.EntryRun, At: r.Intn(2)}
}

// looked is how far a machine was looked at.
type looked struct {
	marks int
	tasks int
	seen  map[string]int
}

// look holds what a machine tells against the chapter's words, if there is something new.
func (l *looked) look(t *testing.T, m *machine.Machine) {
	t.Helper()
	r := trace.Take(m)
	if len(r.Marks) == l.marks && len(r.Tasks) == l.tasks && l.tasks > 0 {
		return
	}
	l.marks, l.tasks = len(r.Marks), len(r.Tasks)
	if !trace.May(r) || !sameRun(r, api.Run{Tasks: m.Tasks(), Marks: m.Marks(0)}) {
		t.Fatalf("May is no of %+v (%q)", r, broken(r))
	}
	wantNames(t, r, m)
	for i, x := range r.Tasks {
		got := [2]int{trace.Begin(r, i+1), trace.End(r, i+1)}
		begun, over := x.State == api.TaskRuns || x.State == api.TaskOver, x.State == api.TaskOver
		if got[0] != begins(r, i+1) || (got[0] >= 0) != begun || (got[1] > got[0]) != over || (got[1] >= 0) != over {
			t.Errorf("task %d: %v of %+v", i+1, got, x)
		}
		l.seen[fmt.Sprint("task ", x.Kind)]++
		l.seen[fmt.Sprint("state ", x.State)]++
		l.seen[fmt.Sprint("trap ", x.Trap)]++
	}
}

// wantNames holds that tasks, and objects, have names of their own, as the chapter's words tell them.
func wantNames(t *testing.T, r api.Run, m *machine.Machine) {
	t.Helper()
	seen := map[string]int{}
	for i := range r.Tasks {
		name := trace.Name(r, i+1)
		if name != named(r.Tasks, i+1) || seen[name] > 0 {
			t.Errorf("task %d: %q, as %d", i+1, name, seen[name])
		}
		seen[name] = i + 1
	}
	for id, x := range m.Heap().All() {
		name := fmt.Sprintf("%s#%d", trace.Name(r, x.By), x.Nth)
		if seen[name] > 0 {
			t.Errorf("object %d: %q, as %d", id, name, seen[name])
		}
		seen[name] = id
	}
}

// lookAtLast holds the rest of what a machine tells against the chapter's words, too.
func (l *looked) lookAtLast(t *testing.T, p api.Prog, m *machine.Machine) {
	t.Helper()
	r := trace.Take(m)
	if why := broken(r); len(why) > 0 {
		t.Errorf("it breaks %q", why)
	}
	wantPairs(t, "conflicts", r, pairs(r)...)
	f := final(p, m)
	wantFinal(t, "its end", p, m, f)
	var names []string
	for _, s := range f.Objects {
		name, _, _ := strings.Cut(s, "=")
		names = append(names, name)
	}
	if !slices.IsSorted(names) || len(slices.Compact(names)) != m.Heap().Count() {
		t.Errorf("objects %q", f.Objects)
	}
	for _, x := range r.Marks {
		l.seen[fmt.Sprint("mark ", x.Kind)]++
		l.seen[fmt.Sprint("location ", x.Access.Loc.Kind)]++
	}
	for _, x := range m.Heap().All() {
		l.seen[fmt.Sprint("object ", x.Kind)]++
	}
	l.seen[fmt.Sprint("full ", m.Full())]++
	l.seen[fmt.Sprint("blocked ", len(m.Blocked()) > 0)]++
	l.seen[fmt.Sprint("ended ", m.Ended())]++
}

// wantSeen holds that all was seen of so many of a kind, and some more.
func (l *looked) wantSeen(t *testing.T, more ...string) {
	t.Helper()
	for what, n := range map[string]int{"task": 5, "mark": 7, "state": 4, "location": 7, "object": 4} {
		for i := range n {
			more = append(more, fmt.Sprint(what, " ", i+1))
		}
	}
	for _, what := range more {
		if l.seen[what] == 0 {
			t.Errorf("never seen: %s", what)
		}
	}
}

// P13.5, P13.2, P13.3, P13.4: what a machine tells may be, at each step of whole programs, with names that are their own.
func TestPrograms(t *testing.T) {
	t.Parallel()
	l := &looked{seen: map[string]int{}}
	for _, c := range texts {
		p := parsed(t, c.text)
		m := made(t, p)
		l.marks, l.tasks = 0, 0
		l.look(t, m)
		outer := listed(t, c.outer)
		for i, e := range outer {
			script.Do(m, e)
			l.look(t, m)
			for range 5 * i {
				script.Do(m, api.Entry{Kind: api.EntryRun, At: i % 2})
				l.look(t, m)
			}
		}
		steps := 0
		settled(m, func() {
			// Of a long run not each step, but the first ones, and some.
			if steps++; steps < 400 || steps%257 == 0 {
				l.look(t, m)
			}
		})
		l.look(t, m)
		l.lookAtLast(t, p, m)
		if t.Failed() {
			t.Fatalf("of %s", c.text)
		}
	}
	l.wantSeen(t, "trap 1", "trap 2", "full true", "full false", "blocked true", "blocked false", "ended true")
}

// P13.5, P13.2, P13.3, P13.4: the same of random programs and scripts.
func TestRandomPrograms(t *testing.T) {
	t.Parallel()
	r := rand.New(rand.NewSource(135))
	l := &looked{seen: map[string]int{}}
	for range 400 {
		text := grown(r)
		p := parsed(t, text)
		m := made(t, p)
		l.marks, l.tasks = 0, 0
		for range r.Intn(250) {
			script.Do(m, anyEntry(r))
			l.look(t, m)
		}
		l.lookAtLast(t, p, m)
		if t.Failed() {
			t.Fatalf("of %s", text)
		}
	}
	l.wantSeen(t, "trap 1", "blocked true", "blocked false", "ended true")
}

// somewhere is a random run of a machine.
func somewhere(t *testing.T, r *rand.Rand) api.Run {
	m := made(t, parsed(t, grown(r)))
	for range 20 + r.Intn(200) {
		script.Do(m, anyEntry(r))
	}
	return trace.Take(m)
}

// changed changes a run somewhere, a little.
func changed(r *rand.Rand, x *api.Run) {
	task := func() int {
		return pick(r, 1+r.Intn(len(x.Tasks)), 1+r.Intn(len(x.Tasks)), r.Intn(len(x.Tasks)+3)-1, pick(r, math.MaxInt, math.MinInt))
	}
	mark := func() int {
		return pick(r, r.Intn(len(x.Marks)+1), r.Intn(len(x.Marks)+3)-2, -1, pick(r, math.MaxInt, math.MinInt))
	}
	y := &x.Tasks[r.Intn(len(x.Tasks))]
	at := r.Intn(len(x.Marks) + 1)
	switch n := r.Intn(20); {
	case n == 0:
		y.Kind = api.TaskKind(r.Intn(8) - 1)
	case n == 1:
		y.Looper = r.Intn(4) - 1
	case n == 2:
		y.By = task()
	case n == 3:
		y.Mark = mark()
	case n == 4 || n == 5:
		y.Prev = task()
	case n == 6:
		y.Of = r.Intn(4) - 1
	case n == 7:
		x.Tasks = append(x.Tasks, api.Task{Kind: api.TaskKind(1 + r.Intn(5)), Looper: r.Intn(3) - 1, By: task(), Mark: mark(), Prev: pick(r, 0, task())})
	case n == 8:
		x.Tasks = slices.Delete(x.Tasks, len(x.Tasks)-1, len(x.Tasks))
	case n < 12 && at < len(x.Marks):
		z := &x.Marks[at]
		pick(r, func() { z.Kind = api.MarkKind(r.Intn(10) - 1) }, func() { z.Task = task() }, func() { z.Other = task() })()
	case n < 14:
		insert(x, at, api.Mark{Kind: api.MarkKind(1 + r.Intn(7)), Task: task(), Other: task()})
	case n < 16 && at < len(x.Marks):
		remove(x, at)
	case at < len(x.Marks):
		// A mark stands elsewhere.
		z, by := x.Marks[at], -1
		for i, y := range x.Tasks {
			if y.Mark == at {
				by = i
			}
		}
		remove(x, at)
		at = r.Intn(len(x.Marks) + 1)
		insert(x, at, z)
		if by >= 0 {
			x.Tasks[by].Mark = at
		}
	}
}

// insert lays a mark ahead of another one; tasks know their marks still.
func insert(x *api.Run, at int, mark api.Mark) {
	x.Marks = slices.Insert(x.Marks, at, mark)
	for i := range x.Tasks {
		if x.Tasks[i].Mark >= at && x.Tasks[i].Mark < math.MaxInt {
			x.Tasks[i].Mark++
		}
	}
}

// remove takes a mark out; tasks know their marks still.
func remove(x *api.Run, at int) {
	x.Marks = slices.Delete(x.Marks, at, at+1)
	for i := range x.Tasks {
		if x.Tasks[i].Mark > at {
			x.Tasks[i].Mark--
		}
	}
}

// P13.1: runs of machines, changed here and there, may be, or not, as the chapter's words tell.
func TestRandomChanges(t *testing.T) {
	t.Parallel()
	r := rand.New(rand.NewSource(131))
	alone, may := map[string]int{}, map[bool]int{}
	for range 500 {
		from := somewhere(t, r)
		for range 60 {
			x := apart(from)
			for range 1 + r.Intn(2) {
				if len(x.Tasks) > 0 {
					changed(r, &x)
				}
			}
			was := apart(x)
			got, why := trace.May(x), broken(x)
			if got != (len(why) == 0) || !sameRun(x, was) {
				t.Fatalf("%v, though it breaks %q: %+v", got, why, x)
			}
			may[got]++
			if len(why) == 1 {
				alone[why[0]]++
			}
			wantPairs(t, "of any run", x, pairs(x)...)
			for i := range x.Tasks {
				if name := trace.Name(x, i+1); got && name != named(x.Tasks, i+1) {
					t.Errorf("task %d: %q", i+1, name)
				}
			}
		}
	}
	// Some can't be broken alone so, or at all.
	others := []string{"tasks at most", "marks at most", "greater than its maker", "made ahead of its beginning", "Mark is ahead"}
	for _, clause := range clauses {
		if alone[clause] == 0 && !slices.Contains(others, clause) {
			t.Errorf("never broken alone: %s", clause)
		}
	}
	if may[true] < 1000 || may[false] < 1000 {
		t.Errorf("%v", may)
	}
}

// few is a run of a few tasks and marks, all at random, but that some of them fit each other.
func few(r *rand.Rand) api.Run {
	var x api.Run
	tasks, marks := 1+r.Intn(4), r.Intn(8)
	for range tasks {
		y := api.Task{Kind: api.TaskKind(1 + r.Intn(5)), Looper: r.Intn(3), Mark: -1, Of: r.Intn(2)}
		switch y.Kind {
		case api.TaskSpawn:
			y.Looper = -1
		case api.TaskLife, api.TaskEvent:
			y.Prev = r.Intn(tasks+1) * r.Intn(2)
			y.Mark = pick(r, -1, -1, r.Intn(marks+1))
		}
		x.Tasks = append(x.Tasks, y)
	}
	for i := range marks {
		y := api.Mark{Kind: pick(r, api.MarkBegin, api.MarkBegin, api.MarkEnd, api.MarkKind(1+r.Intn(7))), Task: 1 + r.Intn(tasks), Other: r.Intn(tasks + 1)}
		if y.Other > 0 && r.Intn(4) > 0 {
			switch other := &x.Tasks[y.Other-1]; other.Kind {
			case api.TaskPost:
				y.Kind, other.By, other.Mark = api.MarkPost, y.Task, i
			case api.TaskSpawn:
				if other.Mark >= 0 {
					y.Kind = api.MarkJoin
					break
				}
				y.Kind, other.By, other.Mark = api.MarkSpawn, y.Task, i
			case api.TaskEvent:
				y.Kind, y.Other, other.Mark = api.MarkEnable, other.Of, i
			}
		}
		x.Marks = append(x.Marks, y)
	}
	return x
}

// P13.1: runs of a few tasks and marks, all at random.
func TestRandomRuns(t *testing.T) {
	t.Parallel()
	r := rand.New(rand.NewSource(1311))
	may, alone := map[string]int{}, map[string]int{}
	for range 400000 {
		x := few(r)
		got, why := trace.May(x), broken(x)
		if got != (len(why) == 0) {
			t.Fatalf("%v, though it breaks %q: %+v", got, why, x)
		}
		for _, y := range x.Marks {
			if got {
				may[fmt.Sprint("mark ", y.Kind)]++
			}
		}
		for _, y := range x.Tasks {
			if got {
				may[fmt.Sprint("task ", y.Kind)]++
			}
		}
		if len(why) == 1 {
			alone[why[0]]++
		}
	}
	for _, what := range []string{"mark 1", "mark 2", "mark 3", "mark 4", "mark 5", "mark 7", "task 1", "task 2", "task 3", "task 4", "task 5"} {
		if may[what] < 20 {
			t.Errorf("%d times in a run that may be: %s", may[what], what)
		}
	}
	for _, clause := range []string{"greater than its maker", "Mark is ahead"} {
		if alone[clause] == 0 {
			t.Errorf("never broken alone: %s", clause)
		}
	}
}
