package trace

import (
	"slices"
	"strconv"
	"strings"

	"detent/api"
	"detent/machine"
)

// nothing is the word of a number that names nothing.
const nothing = "-"

// ending is what words are told by: a program, and the names of a machine's tasks and objects, the first one's first.
type ending struct {
	prog    api.Prog
	tasks   []string
	objects []string
}

// line is a line of a run's end that has a name.
type line struct{ name, text string }

// Final tells how a machine's run ended, by the types of its program.
func Final(p api.Prog, m *machine.Machine) api.Final {
	tasks, heap := m.Tasks(), m.Heap()
	e := &ending{prog: p}
	for i := range tasks {
		e.tasks = append(e.tasks, Name(api.Run{Tasks: tasks}, i+1))
	}
	for _, x := range heap.All() {
		e.objects = append(e.objects, named(e.tasks, int64(x.By))+"#"+strconv.Itoa(x.Nth))
	}
	var f api.Final
	for i, n := range m.Globals() {
		f.Globals = append(f.Globals, e.word(at(p.Globals, i).Type, n))
	}
	var objects, traps []line
	for id, x := range heap.All() {
		objects = append(objects, e.object(e.objects[id-1], x))
	}
	for _, n := range m.Log() {
		f.Log = append(f.Log, e.word(api.TypeInt, n))
	}
	for i, x := range tasks {
		if x.Trap != api.TrapNone {
			traps = append(traps, line{e.tasks[i], e.tasks[i] + ":" + strconv.Itoa(int(x.Trap))})
		}
	}
	f.Objects, f.Traps = risen(objects), risen(traps)
	return f
}

// SameFinal tells whether two ends are the same.
func SameFinal(a, b api.Final) bool {
	return slices.Equal(a.Globals, b.Globals) && slices.Equal(a.Objects, b.Objects) &&
		slices.Equal(a.Log, b.Log) && slices.Equal(a.Traps, b.Traps)
}

// object tells an object's line.
func (e *ending) object(name string, x api.Object) line {
	var text strings.Builder
	text.WriteString(name + "=")
	word := func(s string) { text.WriteString(" " + s) }
	var types []api.Type
	// What all values are of, but those of a plain one.
	of := api.TypeInt
	switch x.Kind {
	case api.ObjPlain:
		types = at(e.prog.Classes, x.Of).Fields
	case api.ObjClosure:
		// 'f' and the function are no value's word: no blank stands ahead of them.
		text.WriteString("f" + strconv.Itoa(x.Of))
		// Its cells are told as objects, and so is what is of a function's type.
		x.Of = int(api.TypeFn)
		fallthrough
	case api.ObjCell:
		of = api.Type(x.Of)
		fallthrough
	case api.ObjArray:
		types = slices.Repeat([]api.Type{of}, len(x.Vals))
	}
	for i, n := range x.Vals {
		word(e.word(at(types, i), n))
	}
	return line{name, text.String()}
}

// word tells a value's word.
func (e *ending) word(t api.Type, n int64) string {
	switch {
	case t == api.TypeInt:
		return strconv.FormatInt(n, 10)
	case t == api.TypeToken || t == api.TypeHand:
		return named(e.tasks, n)
	case t == api.TypeFn || t == api.TypeArray || t < 0:
		return named(e.objects, n)
	}
	return nothing
}

// at tells one of a list, counted from 0 on, or, behind its end, a zero one.
func at[T any](l []T, i int) T {
	if i >= len(l) {
		var zero T
		return zero
	}
	return l[i]
}

// named tells which name a number names: the first one's is 1.
func named(names []string, n int64) string {
	if n < 1 || n > int64(len(names)) {
		return nothing
	}
	return names[n-1]
}

// risen tells lines by their rising names.
func risen(l []line) []string {
	slices.SortStableFunc(l, func(x, y line) int { return strings.Compare(x.name, y.name) })
	var texts []string
	for _, x := range l {
		texts = append(texts, x.text)
	}
	return texts
}
