package names

import (
	"slices"

	"detent/api"
)

// meaning tells what each name means, and what is wrong.
func meaning() map[api.TwigKind]visit {
	once := visit{enter: (*resolver).once}
	return map[api.TwigKind]visit{
		api.TwigProg:    {enter: (*resolver).prog},
		api.TwigLooper:  once,
		api.TwigClass:   once,
		api.TwigMember:  once,
		api.TwigType:    {enter: (*resolver).typ},
		api.TwigGlobal:  once,
		api.TwigFunc:    once,
		api.TwigComp:    once,
		api.TwigLife:    once,
		api.TwigEvent:   once,
		api.TwigMain:    once,
		api.TwigBlock:   {enter: (*resolver).open, leave: (*resolver).shut},
		api.TwigVar:     {enter: (*resolver).once, leave: (*resolver).know},
		api.TwigPost:    {enter: (*resolver).toLooper},
		api.TwigEnable:  {enter: (*resolver).ofEvent},
		api.TwigDisable: {enter: (*resolver).ofEvent},
		api.TwigUse:     {enter: (*resolver).use},
		api.TwigNew:     {enter: (*resolver).ofClass},
	}
}

func (r *resolver) prog(i int) {
	if r.names.Main < 0 {
		r.tell(i, api.ErrNone)
	}
	if len(r.names.Loopers) == 0 {
		r.tell(i, api.ErrNone)
	}
}

// once is of a twig whose name (or life) no other one may have that stands ahead of it under the same twig.
func (r *resolver) once(i int) {
	w := r.t.Twigs[i]
	x := spot{up: r.ups[i], text: w.Text}
	if w.Kind == api.TwigLife {
		x.life = w.N
	}
	if _, is := r.taken[x]; is {
		r.tell(i, api.ErrTwice)
	}
	r.taken[x] = struct{}{}
}

func (r *resolver) open(int) {
	r.blocks = append(r.blocks, map[string]int{})
}

func (r *resolver) shut(int) {
	r.blocks = r.blocks[:len(r.blocks)-1]
}

// know makes a local known, behind its statement.
func (r *resolver) know(i int) {
	block, name := r.blocks[len(r.blocks)-1], r.t.Twigs[i].Text
	if _, is := block[name]; !is {
		block[name] = i
	}
}

func (r *resolver) typ(i int) {
	switch r.t.Twigs[i].Text {
	case "int", "fn", "tok", "hand", "arr":
	default:
		r.ofClass(i)
	}
}

func (r *resolver) toLooper(i int) {
	r.mean(i, api.MeanLooper)
}

func (r *resolver) ofEvent(i int) {
	r.mean(i, api.MeanEvent)
}

func (r *resolver) ofClass(i int) {
	r.mean(i, api.MeanClass)
}

func (r *resolver) use(i int) {
	switch r.t.Twigs[r.ups[i]].Kind {
	case api.TwigComp, api.TwigEvent:
		r.toLooper(i)
	default:
		r.mean(i, api.MeanLocal, api.MeanGlobal, api.MeanFunc)
	}
}

// mean tells what a twig's name means, which must be of one of some kinds.
func (r *resolver) mean(i int, kinds ...api.MeanKind) {
	m := r.nearest(r.t.Twigs[i].Text)
	if !slices.Contains(kinds, m.Kind) {
		r.tell(i, api.ErrName)
		return
	}
	r.names.Means[i] = m
	if m.Kind == api.MeanLocal {
		r.capture(i, m.N)
	}
}

func (r *resolver) nearest(name string) api.Mean {
	for _, block := range slices.Backward(r.blocks) {
		if local, is := block[name]; is {
			return api.Mean{Kind: api.MeanLocal, N: local}
		}
	}
	return r.declared[name]
}

// capture has a local captured by each function that is around a use of it, up to the local's own.
func (r *resolver) capture(use, local int) {
	for f := r.names.Owners[use]; f != r.names.Owners[local]; f = r.names.Funcs[f].Up {
		x := capture{function: f, local: local}
		if _, is := r.captured[x]; is {
			return
		}
		r.captured[x] = struct{}{}
		r.names.Funcs[f].Captures = append(r.names.Funcs[f].Captures, local)
	}
}
