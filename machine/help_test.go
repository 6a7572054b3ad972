package machine_test

import (
	"fmt"
	"reflect"
	"slices"
	"strconv"
	"strings"
	"testing"

	"detent/api"
	"detent/lower"
	"detent/machine"
	"detent/step"
)

// The functions of around, by their numbers.
const (
	tried    = iota // main, that has the code told
	handler         // sets the global 1 to the payload
	callback        // ends at once
	pair            // captures two cells, puts what the first one holds into the second one
	spin            // never ends
	fail            // reads a cell that there is not
	idle            // ends at once, of no registers
)

// around is a program with some of each thing, whose main function has the code told, and OpRet behind it. Its sites are the first ones.
func around(code ...api.Instr) api.Prog {
	return numbered(api.Prog{
		Loopers: []string{"ui", "bg"},
		Classes: []api.Class{{Name: "C", Names: []string{"i", "j"}, Fields: []api.Type{api.TypeInt, -1}}},
		Globals: []api.Global{{Name: "g", Type: api.TypeInt}, {Name: "h", Type: api.TypeInt}},
		Funcs: []api.Func{
			{Name: "main", Regs: 8, Code: append(slices.Clone(code), ret())},
			{Name: "handler", Regs: 1, Code: []api.Instr{{Op: api.OpIt}, store(0, 1), ret()}},
			{Name: "callback", Regs: 3, Code: []api.Instr{ret()}},
			{Name: "pair", Captures: 2, Regs: 3, Code: []api.Instr{{Op: api.OpGet, A: 2, B: 0}, {Op: api.OpPut, A: 1, B: 2}, ret()}},
			{Name: "spin", Code: []api.Instr{jump(0)}},
			{Name: "fail", Regs: 1, Code: []api.Instr{{Op: api.OpGet}, ret()}},
			{Name: "idle", Code: []api.Instr{ret()}},
		},
		Comps: []api.Comp{
			{Name: "c", Looper: 1, Funcs: [api.Lives]int{callback, -1, callback, handler}},
			{Name: "d", Looper: 0, Funcs: [api.Lives]int{-1, -1, -1, -1}},
		},
		Events: []api.Event{{Name: "e", Looper: 1, On: true, Func: handler}, {Name: "f", Looper: 0, Func: idle}},
		Main:   tried,
	})
}

func ret() api.Instr                 { return api.Instr{Op: api.OpRet} }
func jump(to int64) api.Instr        { return api.Instr{Op: api.OpJump, N: to} }
func konst(a int, n int64) api.Instr { return api.Instr{Op: api.OpConst, A: a, N: n} }
func load(a int, n int64) api.Instr  { return api.Instr{Op: api.OpLoad, A: a, N: n} }
func store(a int, n int64) api.Instr { return api.Instr{Op: api.OpStore, A: a, N: n} }
func logs(a int) api.Instr           { return api.Instr{Op: api.OpLog, A: a} }
func cancel(a int) api.Instr         { return api.Instr{Op: api.OpCancel, A: a} }
func join(a int) api.Instr           { return api.Instr{Op: api.OpJoin, A: a} }
func spawn(a, b int) api.Instr       { return api.Instr{Op: api.OpSpawn, A: a, B: b} }
func enable(e int64) api.Instr       { return api.Instr{Op: api.OpEnable, N: e} }
func disable(e int64) api.Instr      { return api.Instr{Op: api.OpDisable, N: e} }

func post(a, b, looper int, later int64) api.Instr {
	return api.Instr{Op: api.OpPost, A: a, B: b, C: looper, N: later}
}

func front(a, b, looper int, n int64) api.Instr {
	return api.Instr{Op: api.OpFront, A: a, B: b, C: looper, N: n}
}

func closure(a, f int, cells ...int) api.Instr {
	return api.Instr{Op: api.OpClosure, A: a, N: int64(f), L: cells}
}

// numbered gives a program's sites their numbers.
func numbered(p api.Prog) api.Prog {
	p.Sites = nil
	for f := range p.Funcs {
		for at := range p.Funcs[f].Code {
			x := &p.Funcs[f].Code[at]
			x.Site = -1
			if step.IsSite(x.Op) {
				x.Site = len(p.Sites)
				p.Sites = append(p.Sites, api.Site{Func: f, At: at})
			}
		}
	}
	return p
}

// parsed is the program of a text.
func parsed(t *testing.T, text string) api.Prog {
	t.Helper()
	p, wrong, err := lower.Text([]byte(text))
	if err != api.OK || len(wrong) > 0 {
		t.Fatalf("%q: %v, %v", text, wrong, err)
	}
	return p
}

// made is a program's machine.
func made(t *testing.T, p api.Prog) *machine.Machine {
	t.Helper()
	m, err := machine.New(p)
	if err != api.OK || m == nil {
		t.Fatalf("New: %v, %v", m, err)
	}
	return m
}

// entry does what a word tells: r0 runs the looper 0; w2 works 2; t5 ticks 5; i0:7 injects the event 0 with 7; l0:1 is the component 0's callback 1.
func entry(t *testing.T, m *machine.Machine, word string) api.Errno {
	t.Helper()
	left, right, _ := strings.Cut(word[1:], ":")
	at, err := strconv.ParseInt(left, 10, 64)
	if err != nil {
		t.Fatalf("%q: %v", word, err)
	}
	n, _ := strconv.ParseInt(right, 10, 64)
	switch word[0] {
	case 'r':
		return m.Run(int(at))
	case 'w':
		return m.Work(int(at))
	case 't':
		return m.Tick(at)
	case 'i':
		return m.Inject(int(at), n)
	case 'l':
		return m.Life(int(at), int(n))
	}
	t.Fatalf("%q: no entry", word)
	return api.OK
}

// words are a script's words; r0*3 is r0 three times.
func words(script string) []string {
	var l []string
	for _, word := range strings.Fields(script) {
		word, times, many := strings.Cut(word, "*")
		n := 1
		if many {
			n, _ = strconv.Atoi(times)
		}
		l = append(l, slices.Repeat([]string{word}, n)...)
	}
	return l
}

// does does all entries of a script, none of which is refused.
func does(t *testing.T, m *machine.Machine, script string) {
	t.Helper()
	for i, word := range words(script) {
		if err := entry(t, m, word); err != api.OK {
			t.Fatalf("%s, entry %d, %s: %v", script, i, word, err)
		}
	}
}

// behind is a program's machine behind a script, none of whose entries is refused.
func behind(t *testing.T, p api.Prog, script string) *machine.Machine {
	t.Helper()
	m := made(t, p)
	does(t, m, script)
	return m
}

// skips holds that each entry of a script is refused as ErrSkip, and changes nothing.
func skips(t *testing.T, m *machine.Machine, script string) {
	t.Helper()
	was := m.Copy()
	for _, word := range words(script) {
		if err := entry(t, m, word); err != api.ErrSkip {
			t.Errorf("%s: %v, want ErrSkip", word, err)
		}
		if !m.Same(was) || tell(m) != tell(was) {
			t.Errorf("%s is refused, but changes the machine", word)
		}
	}
}

// told is a mark, as words.
func told(x api.Mark) string {
	switch x.Kind {
	case api.MarkBegin:
		return fmt.Sprint(x.Task, " begins")
	case api.MarkEnd:
		return fmt.Sprint(x.Task, " ends")
	case api.MarkPost:
		return fmt.Sprint(x.Task, " posts ", x.Other)
	case api.MarkSpawn:
		return fmt.Sprint(x.Task, " spawns ", x.Other)
	case api.MarkJoin:
		return fmt.Sprint(x.Task, " joins ", x.Other)
	case api.MarkEnable:
		return fmt.Sprint(x.Task, " enables ", x.Other)
	}
	deed := "reads"
	if x.Access.Write {
		deed = "writes"
	}
	l := x.Access.Loc
	place := [...]string{
		api.LocGlobal: fmt.Sprint("global ", l.A), api.LocField: fmt.Sprint("field ", l.A, ".", l.B), api.LocElem: fmt.Sprint("element ", l.A, ".", l.B),
		api.LocCell: fmt.Sprint("cell ", l.A), api.LocToken: fmt.Sprint("token ", l.A), api.LocFlag: fmt.Sprint("flag ", l.A), api.LocLog: "log",
	}[l.Kind]
	return fmt.Sprint(x.Task, " ", deed, " ", place, " at ", x.Access.Site)
}

// marks are a machine's marks from one on, as words.
func marks(m *machine.Machine, from int) string {
	var l []string
	for _, x := range m.Marks(from) {
		l = append(l, told(x))
	}
	return strings.Join(l, ", ")
}

// wantMarks holds the marks from one on against what they must be.
func wantMarks(t *testing.T, m *machine.Machine, from int, want string) {
	t.Helper()
	if got := marks(m, from); got != want {
		t.Errorf("marks\n%s, want\n%s", got, want)
	}
}

// wantNothingMore holds that a mark has nothing that its kind does not have.
func wantNothingMore(t *testing.T, m *machine.Machine) {
	t.Helper()
	for i, x := range m.Marks(0) {
		switch x.Kind {
		case api.MarkBegin, api.MarkEnd:
			x.Access, x.Other = api.Access{}, x.Other+x.Access.Site
		case api.MarkAccess:
			l := x.Access.Loc
			if l.Kind != api.LocField && l.Kind != api.LocElem && l.B != 0 || l.Kind == api.LocLog && l.A != 0 {
				t.Errorf("mark %d: %+v", i, x)
			}
		default:
			if x.Access != (api.Access{}) {
				t.Errorf("mark %d: %+v", i, x)
			}
			continue
		}
		if x.Other != 0 {
			t.Errorf("mark %d: %+v", i, x)
		}
	}
}

// wantTasks holds a machine's tasks against what they must be.
func wantTasks(t *testing.T, m *machine.Machine, want ...api.Task) {
	t.Helper()
	if got := m.Tasks(); !slices.Equal(got, want) {
		t.Errorf("tasks\n%+v, want\n%+v", got, want)
	}
}

// states are the tasks' states, and faults.
func states(m *machine.Machine) string {
	var l []string
	for _, x := range m.Tasks() {
		s := [...]string{api.TaskWaits: "waits", api.TaskRuns: "runs", api.TaskOver: "over", api.TaskCancelled: "cancelled"}[x.State]
		if x.Trap != api.TrapNone {
			s = fmt.Sprint(s, ":", int(x.Trap))
		}
		l = append(l, s)
	}
	return strings.Join(l, " ")
}

// tell is all that can be seen of a machine.
func tell(m *machine.Machine) string {
	var l []string
	for id, x := range m.Heap().All() {
		l = append(l, fmt.Sprint(id, x))
	}
	for task := -1; task < len(m.Tasks())+2; task++ {
		l = append(l, fmt.Sprint(m.Waits(task), m.Site(task)))
	}
	return fmt.Sprintf("%v %v %v %v %d %+v %v %v %v %+v", m.Full(), m.Can(), m.Ended(), m.Blocked(), m.Now(), m.Tasks(), m.Globals(), m.Log(), l, m.Marks(0))
}

// looks are what a machine tells of how it stands.
type looks struct {
	full, can, ended bool
	blocked          []int
}

func wantLooks(t *testing.T, m *machine.Machine, want looks) {
	t.Helper()
	got := looks{m.Full(), m.Can(), m.Ended(), m.Blocked()}
	if !slices.Equal(got.blocked, want.blocked) {
		t.Errorf("blocked %v, want %v", got.blocked, want.blocked)
	}
	if got.blocked, want.blocked = nil, nil; !reflect.DeepEqual(got, want) {
		t.Errorf("full, can, ended: %v, want %v", got, want)
	}
}
