package lower

import (
	"detent/api"
	"detent/names"
)

// maker makes a program. Over is whether there is more of something than a limit.
type maker struct {
	t        api.Tree
	n        api.Names
	types    []api.Type
	captured map[int]struct{} // the locals that some function captures
	numbers  map[int]int      // functions, by their twigs
	prog     api.Prog
	over     bool
}

func newMaker(t api.Tree, n api.Names, l []api.Type) *maker {
	m := &maker{t: t, n: n, types: l, captured: map[int]struct{}{}, numbers: map[int]int{}}
	for _, local := range names.Captured(n) {
		m.captured[local] = struct{}{}
	}
	for number, f := range n.Funcs {
		m.numbers[f.Twig] = number
	}
	return m
}

func (m *maker) limit(n, most int) {
	if n > most {
		m.over = true
	}
}

// declare makes all but the functions' code.
func (m *maker) declare() {
	for _, i := range m.n.Loopers {
		m.prog.Loopers = append(m.prog.Loopers, m.t.Twigs[i].Text)
	}
	for _, i := range m.n.Classes {
		m.prog.Classes = append(m.prog.Classes, m.class(m.t.Twigs[i]))
	}
	for _, i := range m.n.Globals {
		m.prog.Globals = append(m.prog.Globals, api.Global{Name: m.t.Twigs[i].Text, Type: m.types[i]})
	}
	for _, i := range m.n.Comps {
		m.prog.Comps = append(m.prog.Comps, m.component(m.t.Twigs[i]))
	}
	for _, i := range m.n.Events {
		w := m.t.Twigs[i]
		m.prog.Events = append(m.prog.Events, api.Event{Name: w.Text, Looper: m.looper(w), On: w.N == 1, Func: m.numbers[i]})
	}
	for _, f := range m.n.Funcs {
		m.prog.Funcs = append(m.prog.Funcs, api.Func{Name: f.Name, Captures: len(f.Captures)})
	}
	m.prog.Main = m.n.Main
	m.limit(len(m.prog.Loopers), api.MaxLoopers)
	m.limit(len(m.prog.Classes), api.MaxClasses)
	m.limit(len(m.prog.Globals), api.MaxGlobals)
	m.limit(len(m.prog.Comps), api.MaxComps)
	m.limit(len(m.prog.Events), api.MaxEvents)
	m.limit(len(m.prog.Funcs), api.MaxFuncs)
}

func (m *maker) class(w api.Twig) api.Class {
	c := api.Class{Name: w.Text}
	for _, i := range w.Kids {
		c.Names = append(c.Names, m.t.Twigs[i].Text)
		c.Fields = append(c.Fields, m.types[i])
	}
	m.limit(len(c.Fields), api.MaxFields)
	return c
}

func (m *maker) component(w api.Twig) api.Comp {
	c := api.Comp{Name: w.Text, Looper: m.looper(w), Funcs: [api.Lives]int{-1, -1, -1, -1}}
	for _, i := range w.Kids[1:] {
		c.Funcs[m.t.Twigs[i].N] = m.numbers[i]
	}
	return c
}

// looper tells the one behind a component's, an event's 'on'.
func (m *maker) looper(w api.Twig) int {
	return m.n.Means[w.Kids[0]].N
}

// code makes the functions' code. One by one, as they are numbered: so are the sites.
func (m *maker) code() {
	for f := range m.prog.Funcs {
		if m.over {
			return
		}
		newCoder(m, f).function(m.n.Funcs[f])
	}
}
