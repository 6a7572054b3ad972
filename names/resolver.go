package names

import (
	"detent/api"
	"detent/tree"
)

// resolver goes over a tree that may be. Names and wrong are what it has found so far.
type resolver struct {
	t        api.Tree
	ups      []int
	names    api.Names
	wrong    []api.Diag
	declared map[string]api.Mean // of a component's name nothing: no twig may mean it
	blocks   []map[string]int    // those around, the innermost one last: the locals that are known
	taken    map[spot]struct{}
	captured map[capture]struct{}
}

// spot is what no two kids of one twig may have: a name (of a main one none), and which life it is of.
type spot struct {
	up   int
	text string
	life int64
}

// capture is a function, and a local that it captures.
type capture struct{ function, local int }

// visit is what is done with a twig: ahead of all that is below it, and behind that.
type visit struct{ enter, leave func(r *resolver, i int) }

func newResolver(t api.Tree) *resolver {
	ups := tree.Ups(t)
	return &resolver{
		t:        t,
		ups:      ups,
		names:    api.Names{Means: make([]api.Mean, len(t.Twigs)), Owners: owners(t, ups), Main: -1},
		declared: map[string]api.Mean{},
		taken:    map[spot]struct{}{},
		captured: map[capture]struct{}{},
	}
}

// goOver visits all twigs, in the tree's order.
// The twigs that are around are on a stack of its own: a tree may have more levels than calls may be deep.
func (r *resolver) goOver(visits map[api.TwigKind]visit) {
	var around []int
	leaveUpTo := func(up int) {
		for len(around) > 0 && around[len(around)-1] != up {
			i := around[len(around)-1]
			around = around[:len(around)-1]
			if leave := visits[r.t.Twigs[i].Kind].leave; leave != nil {
				leave(r, i)
			}
		}
	}
	for i, w := range r.t.Twigs {
		leaveUpTo(r.ups[i])
		if enter := visits[w.Kind].enter; enter != nil {
			enter(r, i)
		}
		around = append(around, i)
	}
	leaveUpTo(-1)
}

func (r *resolver) tell(i int, err api.Errno) {
	w := r.t.Twigs[i]
	r.wrong = append(r.wrong, api.Diag{Line: w.Line, Col: w.Col, Err: err})
}
