package names

import (
	"strconv"

	"detent/api"
)

// declaring gathers what is declared, and the functions.
func declaring() map[api.TwigKind]visit {
	return map[api.TwigKind]visit{
		api.TwigLooper: {enter: (*resolver).looper},
		api.TwigClass:  {enter: (*resolver).class},
		api.TwigGlobal: {enter: (*resolver).global},
		api.TwigFunc:   {enter: (*resolver).function},
		api.TwigComp:   {enter: (*resolver).component},
		api.TwigLife:   {enter: (*resolver).life},
		api.TwigEvent:  {enter: (*resolver).event},
		api.TwigMain:   {enter: (*resolver).main},
		api.TwigFn:     {enter: (*resolver).closure},
	}
}

func (r *resolver) looper(i int) {
	r.declare(i, api.Mean{Kind: api.MeanLooper, N: len(r.names.Loopers)})
	r.names.Loopers = append(r.names.Loopers, i)
}

func (r *resolver) class(i int) {
	r.declare(i, api.Mean{Kind: api.MeanClass, N: len(r.names.Classes)})
	r.names.Classes = append(r.names.Classes, i)
}

func (r *resolver) global(i int) {
	r.declare(i, api.Mean{Kind: api.MeanGlobal, N: len(r.names.Globals)})
	r.names.Globals = append(r.names.Globals, i)
}

func (r *resolver) function(i int) {
	r.declare(i, api.Mean{Kind: api.MeanFunc, N: len(r.names.Funcs)})
	r.addFunction(i, r.t.Twigs[i].Text)
}

func (r *resolver) component(i int) {
	r.declare(i, api.Mean{})
	r.names.Comps = append(r.names.Comps, i)
}

func (r *resolver) life(i int) {
	lives := [api.Lives]string{"create", "start", "stop", "destroy"}
	r.addFunction(i, r.t.Twigs[r.ups[i]].Text+"."+lives[r.t.Twigs[i].N])
}

func (r *resolver) event(i int) {
	r.declare(i, api.Mean{Kind: api.MeanEvent, N: len(r.names.Events)})
	r.names.Events = append(r.names.Events, i)
	r.addFunction(i, r.t.Twigs[i].Text)
}

func (r *resolver) main(i int) {
	r.names.Main = len(r.names.Funcs)
	r.addFunction(i, "main")
}

// closure counts by numbers: functions are numbered in the tree's order, so all behind the outermost one, up to this one, stand in that one.
func (r *resolver) closure(i int) {
	outermost := r.names.Owners[i]
	for r.names.Funcs[outermost].Up >= 0 {
		outermost = r.names.Funcs[outermost].Up
	}
	nth := len(r.names.Funcs) - outermost
	r.addFunction(i, r.names.Funcs[outermost].Name+"."+strconv.Itoa(nth))
}

func (r *resolver) addFunction(i int, name string) {
	r.names.Funcs = append(r.names.Funcs, api.NamedFunc{Twig: i, Up: r.names.Owners[i], Name: name})
}

func (r *resolver) declare(i int, m api.Mean) {
	name := r.t.Twigs[i].Text
	if _, is := r.declared[name]; !is {
		r.declared[name] = m
	}
}

// owners tells of each twig its function's number.
func owners(t api.Tree, ups []int) []int {
	l := make([]int, len(t.Twigs))
	numbers := map[int]int{}
	for i, w := range t.Twigs {
		l[i] = -1
		if i > 0 {
			l[i] = l[ups[i]]
		}
		// A function begins with its block: its own twig, and an event's looper, stand ahead of that.
		if f, is := numbers[ups[i]]; is && w.Kind == api.TwigBlock {
			l[i] = f
		}
		if isFunction(w.Kind) {
			numbers[i] = len(numbers)
		}
	}
	return l
}

func isFunction(k api.TwigKind) bool {
	switch k {
	case api.TwigFunc, api.TwigLife, api.TwigEvent, api.TwigMain, api.TwigFn:
		return true
	}
	return false
}
