package machine_test

import (
	"slices"
	"testing"

	"detent/api"
	"detent/machine"
)

// wantUnlike holds that two machines are not the same, both ways, but each of them is as its copy.
func wantUnlike(t *testing.T, what string, a, b *machine.Machine) {
	t.Helper()
	if a.Same(b) || b.Same(a) {
		t.Errorf("%s: they are the same", what)
	}
	if !a.Same(a.Copy()) || !b.Copy().Same(b) || !a.Same(a) {
		t.Errorf("%s: a copy is not the same", what)
	}
}

// P11.4: two machines that differ in one thing alone are not the same.
func TestSameButOneThing(t *testing.T) {
	for _, c := range []struct {
		what, a, b string
		code       []api.Instr
	}{
		{"the time", "r0*2", "r0*2 t1", nil},
		{"how late it is", "t1", "t2", nil},
		{"a step that leaves all as it was", "r0", "r0*2", []api.Instr{jump(0)}},
		{"which task did a step", "r0 i0:0 r1 r0", "r0 i0:0 r1*2", []api.Instr{konst(0, 0)}},
		{"a payload", "i0:1", "i0:2", nil},
		{"an event's task", "", "i0:0", nil},
		{"which event", "i0:0 r0*3", "r0*3 i1:0", []api.Instr{enable(1)}},
		{"a component's state, without a task", "", "l1:0", nil},
		{"a later state, without a task", "l1:0 l1:1", "l1:0 l1:3", nil},
		{"the order of what came", "i0:0 l0:0", "l0:0 i0:0", nil},
		{"the order of what was done", "i0:0 r1 r0", "i0:0 r0 r1", nil},
		{"what waits", "i0:0", "i0:0 r1", nil},
		{"that one logs more", "r0*2", "r0*3", []api.Instr{logs(0), logs(0)}},
	} {
		p := around(c.code...)
		wantUnlike(t, c.what, behind(t, p, c.a), behind(t, p, c.b))
		if a, b := behind(t, p, c.a), behind(t, p, c.a); !a.Same(b) || tell(a) != tell(b) {
			t.Errorf("%s: the same script comes to two machines", c.what)
		}
	}
	// Full, or just before it.
	m := behind(t, around(), "")
	filled(t, m, api.MaxTasks)
	full := m.Copy()
	if err := full.Inject(0, 0); err != api.ErrFull {
		t.Fatal(err)
	}
	wantUnlike(t, "full", m, full)
}

// P11.4: machines of two programs are not the same, whatever it is in which the programs differ; those of two like ones are.
func TestSameProgram(t *testing.T) {
	code := []api.Instr{konst(0, 1), closure(1, pair, 2, 3), post(4, 1, 1, 1)}
	for what, change := range map[string]func(p *api.Prog){
		"a looper's name":          func(p *api.Prog) { p.Loopers[1] = "x" },
		"a looper":                 func(p *api.Prog) { p.Loopers = append(p.Loopers, "x") },
		"a class's name":           func(p *api.Prog) { p.Classes[0].Name = "x" },
		"a field's type":           func(p *api.Prog) { p.Classes[0].Fields[1] = api.TypeFn },
		"a field's name":           func(p *api.Prog) { p.Classes[0].Names[1] = "x" },
		"a global's name":          func(p *api.Prog) { p.Globals[1].Name = "x" },
		"a global's type":          func(p *api.Prog) { p.Globals[1].Type = api.TypeFn },
		"a function's name":        func(p *api.Prog) { p.Funcs[idle].Name = "x" },
		"a register more":          func(p *api.Prog) { p.Funcs[idle].Regs++ },
		"an instruction's number":  func(p *api.Prog) { p.Funcs[tried].Code[0].N = 2 },
		"a line":                   func(p *api.Prog) { p.Funcs[spin].Code[0].Line = 2 },
		"which cells are captured": func(p *api.Prog) { p.Funcs[tried].Code[1].L = []int{3, 2} },
		"a component's name":       func(p *api.Prog) { p.Comps[1].Name = "x" },
		"a component's callback":   func(p *api.Prog) { p.Comps[1].Funcs[2] = idle },
		"a component's looper":     func(p *api.Prog) { p.Comps[1].Looper = 1 },
		"an event's name":          func(p *api.Prog) { p.Events[1].Name = "x" },
		"an event's handler":       func(p *api.Prog) { p.Events[1].Func = callback },
		"an event's looper":        func(p *api.Prog) { p.Events[1].Looper = 1 },
		"an event that is on":      func(p *api.Prog) { p.Events[1].On = true },
		"main":                     func(p *api.Prog) { p.Main = idle },
	} {
		p, q := around(code...), around(code...)
		if a, b := made(t, p), made(t, q); !a.Same(b) || tell(a) != tell(b) {
			t.Fatal("machines of like programs are not the same")
		}
		change(&q)
		wantUnlike(t, what, made(t, p), made(t, q))
		if what == "a line" || what == "a function's name" || what == "a field's type" {
			// Though all tasks are over.
			script := "r0*5 t1 r1*2"
			wantUnlike(t, what, behind(t, p, script), behind(t, q, script))
		}
	}
}

// P11.4: a copy goes on apart, both ways: whichever goes on, the other one stays as it is, and goes on as it would.
func TestCopyGoesOnApart(t *testing.T) {
	p := around(
		closure(0, handler), post(1, 0, 1, 3), spawn(2, 0), api.Instr{Op: api.OpArray, A: 3, B: 1}, post(7, 0, 1, 0), cancel(7), store(1, 0), logs(1), enable(1),
		api.Instr{Op: api.OpSetElem, A: 3, B: 6, C: 1}, disable(0), store(2, 0), api.Instr{Op: api.OpCell, A: 5, N: 1}, spawn(4, 0), join(4), logs(2),
	)
	script := words("i0:4 r0*4 l0:0 r1*2 w4 t2 r0*5 l1:0 r0 i1:9 w4*2 r0*3 r1*2 l0:1 t5 r0*2 w8*4 r1*2 r0*2 r1*4 w4 l0:2 r1*2 r0*3")
	for at := range len(script) + 1 {
		m, want := made(t, p), made(t, p)
		ahead, rest := script[:at], script[at:]
		goOn := func(m *machine.Machine, words []string) {
			for _, word := range words {
				does(t, m, word)
			}
		}
		goOn(m, ahead)
		goOn(want, ahead)
		c := m.Copy()
		before := tell(m)
		if !c.Same(m) || !m.Same(c) || tell(c) != before {
			t.Fatalf("behind %d entries a copy is not the same", at)
		}
		// The copy goes on, then the machine itself; what the one did is not seen by the other one.
		goOn(c, rest)
		if tell(m) != before || !m.Same(want) {
			t.Fatalf("behind %d entries: the copy goes on, and the machine changes: %s, was\n%s", at, tell(m), before)
		}
		after := tell(c)
		goOn(m, rest)
		if tell(c) != after || tell(m) != after || !m.Same(c) {
			t.Fatalf("behind %d entries: %s, want\n%s", at, tell(m), after)
		}
		// Unlike ways from one point on.
		x, y := want.Copy(), want
		x.Inject(0, 1)
		x.Tick(3)
		x.Run(1)
		y.Life(1, 1)
		y.Run(0)
		x.Life(0, 2)
		z := made(t, p)
		goOn(z, ahead)
		z.Life(1, 1)
		z.Run(0)
		if !z.Same(y) || tell(z) != tell(y) {
			t.Fatalf("behind %d entries: a copy goes on, and the machine goes on unlike", at)
		}
	}
	last := made(t, p)
	for _, word := range script {
		does(t, last, word)
	}
	wantLooks(t, last, looks{ended: true})
}

// P11.4: copies of copies lay what they mark, and log, apart, though they stand on the same beginning.
func TestCopiesMarkApart(t *testing.T) {
	m := behind(t, around(logs(0), jump(0)), "r0*9")
	var copies []*machine.Machine
	for range 4 {
		copies = append(copies, m.Copy())
		does(t, m, "r0*6 i0:1 r1*2")
	}
	for i, c := range copies {
		copies = append(copies, c.Copy())
		does(t, c, "i0:7 l0:0")
		for range i + 1 {
			does(t, c, "r1*2 r0*2")
		}
		copies[len(copies)-1].Tick(int64(i + 1))
	}
	for i, c := range copies {
		n := i % 4
		want := behind(t, around(logs(0), jump(0)), "r0*9")
		for range n {
			does(t, want, "r0*6 i0:1 r1*2")
		}
		if i < 4 {
			does(t, want, "i0:7 l0:0")
			for range n + 1 {
				does(t, want, "r1*2 r0*2")
			}
		} else {
			want.Tick(int64(n + 1))
		}
		if !c.Same(want) || tell(c) != tell(want) || !slices.Equal(c.Log(), want.Log()) {
			t.Errorf("the copy %d: %s, want\n%s", i, tell(c), tell(want))
		}
	}
}

// P11.4: copies go on beside one another, each as if it were alone.
func TestCopiesBeside(t *testing.T) {
	m := behind(t, around(closure(0, spin), spawn(1, 0), logs(0), jump(2)), "r0*9")
	want := m.Copy()
	done := make(chan *machine.Machine)
	for range 8 {
		c := m.Copy()
		go func() {
			for range 300 {
				c.Run(0)
				c.Work(2)
			}
			done <- c
		}()
	}
	for range 300 {
		want.Run(0)
		want.Work(2)
		m.Run(0)
	}
	for range 8 {
		if c := <-done; !c.Same(want) {
			t.Errorf("%s, want\n%s", tell(c), tell(want))
		}
	}
}
