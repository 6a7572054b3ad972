package lower

import (
	"math/rand"
	"reflect"
	"slices"
	"strings"
	"testing"

	"detent/api"
	"detent/names"
	"detent/parse"
	"detent/tree"
)

// reckoning tells of each function how many registers and instructions it must have, and how many sites there are: twig by twig, in no order.
type reckoning struct {
	t     api.Tree
	n     api.Names
	ups   []int
	regs  []int
	code  []int
	sites int
}

func reckon(x api.Tree, n api.Names) *reckoning {
	r := &reckoning{t: x, n: n, ups: tree.Ups(x), regs: make([]int, len(n.Funcs)), code: make([]int, len(n.Funcs))}
	for f := range n.Funcs {
		r.regs[f], r.code[f] = len(n.Funcs[f].Captures), 1
	}
	for i := range x.Twigs {
		if f := n.Owners[i]; f >= 0 {
			regs, code, sites := r.twig(i)
			r.regs[f], r.code[f], r.sites = r.regs[f]+regs, r.code[f]+code, r.sites+sites
		}
	}
	return r
}

func (r *reckoning) isPlain(i int) bool {
	return r.n.Means[i].Kind == api.MeanLocal && !slices.Contains(names.Captured(r.n), r.n.Means[i].N)
}

// isSet tells whether a twig is the variable to which something is set, or goes.
func (r *reckoning) isSet(i int) bool {
	up := r.t.Twigs[r.ups[i]]
	switch up.Kind {
	case api.TwigSet:
		return up.Kids[0] == i
	case api.TwigPost, api.TwigSpawn:
		return up.Kids[0] != i
	}
	return false
}

// twig tells how many registers, instructions, sites one makes of itself.
func (r *reckoning) twig(i int) (regs, code, sites int) {
	w := r.t.Twigs[i]
	switch w.Kind {
	case api.TwigVar:
		switch {
		case slices.Contains(names.Captured(r.n), i):
			return 1, 2, 2
		case r.isPlain(w.Kids[1]):
			return 1, 1, 0
		}
		return 0, 0, 0
	case api.TwigCall, api.TwigCancel, api.TwigJoin, api.TwigLog, api.TwigEnable, api.TwigDisable:
		return 0, 1, 1
	case api.TwigPost, api.TwigSpawn:
		return 1, 1, 1
	case api.TwigIf, api.TwigWhile:
		return 0, 2, 0
	case api.TwigReturn:
		return 0, 1, 0
	}
	switch {
	case !tree.Term(w.Kind):
		return 0, 0, 0
	case r.isSet(i) && r.isPlain(i):
		return 0, 1, 0
	case r.isSet(i):
		return 0, 1, 1
	case r.isPlain(i):
		return 0, 0, 0
	}
	switch w.Kind {
	case api.TwigUse, api.TwigDot, api.TwigIndex, api.TwigNew, api.TwigArr, api.TwigFn:
		return 1, 1, 1
	}
	return 1, 1, 0
}

// isOver tells whether a program of the garden is beyond a limit: it has not too much of anything else.
func (r *reckoning) isOver() bool {
	return slices.Max(r.regs) > api.MaxRegs || slices.Max(r.code) > api.MaxCode || r.sites > api.MaxSites || len(r.n.Funcs) > api.MaxFuncs
}

// P6.1, P6.2, P6.4: random programs have as many of all as reckoned, are sound, and do what their trees tell.
func TestRandomPrograms(t *testing.T) {
	t.Parallel()
	g := &garden{r: rand.New(rand.NewSource(6))}
	over, right, seen := 0, 0, map[api.Op]int{}
	var events, cut int
	for nth := range 900 {
		text := g.prog([]int{3, 4, 5, 5, 9}[nth%5])
		x, n, l := resolved(t, text)
		r := reckon(x, n)
		p, err := Lower(x, n, l)
		q, wrong, also := Text([]byte(text))
		if !reflect.DeepEqual(p, q) || also != err || len(wrong) > 0 {
			t.Fatalf("Text and Lower differ, of\n%s", text)
		}
		if r.isOver() {
			if over++; err != api.ErrLimit || !reflect.DeepEqual(p, api.Prog{}) {
				t.Fatalf("%v, want ErrLimit, of\n%s", err, text)
			}
			continue
		}
		if right++; err != api.OK {
			t.Fatalf("%v of\n%s", err, text)
		}
		for f, made := range p.Funcs {
			if made.Regs != r.regs[f] || len(made.Code) != r.code[f] {
				t.Fatalf("%s: %d registers, %d instructions, want %d, %d, of\n%s", made.Name, made.Regs, len(made.Code), r.regs[f], r.code[f], text)
			}
			for _, x := range made.Code {
				seen[x.Op]++
			}
		}
		if len(p.Sites) != r.sites {
			t.Fatalf("%d sites, want %d, of\n%s", len(p.Sites), r.sites, text)
		}
		if s := unsound(p); s != "" {
			t.Fatalf("%s, of\n%s", s, text)
		}
		told, done := tellTree(x, n, l), tellCode(p)
		if s := apart(told, done); s != "" {
			t.Fatalf("%s, of\n%s", s, text)
		}
		events += len(told.events)
		if told.cut || done.cut {
			cut++
		}
	}
	if over < 10 || right < 600 || cut > right/2 || events < 20*right {
		t.Errorf("%d over, %d right, %d of them cut, %d events: too many, or not many", over, right, cut, events)
	}
	for op := api.OpConst; op <= api.OpRet; op++ {
		if seen[op] < 100 {
			t.Errorf("of operation %d there are %d: that is not much", op, seen[op])
		}
	}
}

// unsound tells what is not so of a program that must be so of each (P6.4), "" if all is.
func unsound(p api.Prog) string {
	if len(p.Loopers) == 0 || p.Main < 0 || p.Main >= len(p.Funcs) || p.Funcs[p.Main].Captures != 0 {
		return "no looper, or no main"
	}
	for _, c := range p.Comps {
		for _, f := range c.Funcs {
			if f < -1 || f >= len(p.Funcs) || f >= 0 && p.Funcs[f].Captures != 0 || c.Looper < 0 || c.Looper >= len(p.Loopers) {
				return "a component"
			}
		}
	}
	for _, e := range p.Events {
		if e.Func < 0 || e.Func >= len(p.Funcs) || p.Funcs[e.Func].Captures != 0 || e.Looper < 0 || e.Looper >= len(p.Loopers) {
			return "an event"
		}
	}
	var sites []api.Site
	for f, made := range p.Funcs {
		if len(made.Code) == 0 || made.Code[len(made.Code)-1].Op != api.OpRet {
			return made.Name + " has no end"
		}
		next := made.Captures
		cells := map[int]struct{}{}
		for r := range next {
			cells[r] = struct{}{}
		}
		for at, x := range made.Code {
			switch {
			case IsSite(x.Op) && x.Site != len(sites), !IsSite(x.Op) && x.Site != -1:
				return made.Name + ": a site"
			case IsSite(x.Op):
				sites = append(sites, api.Site{Func: f, At: at})
			}
			if s := unsoundAt(p, made, x, &next, cells); s != "" {
				return made.Name + ": " + spell(x) + ": " + s
			}
		}
		if next != made.Regs {
			return made.Name + ": registers that nothing takes"
		}
	}
	if !slices.Equal(sites, p.Sites) {
		return "sites"
	}
	return ""
}

// unsoundAt tells what is not so of an instruction. Next is the register that is taken next, cells are those that hold cells.
func unsoundAt(p api.Prog, f api.Func, x api.Instr, next *int, cells map[int]struct{}) string {
	isCell := func(r int) bool { _, is := cells[r]; return is }
	has := forms()[x.Op-1].has
	if strings.Contains(spell(x), "?") {
		return "it has more"
	}
	if strings.Contains(has, "B") && (x.B < 0 || x.B >= *next) || strings.Contains(has, "C") && !isPost(x.Op) && (x.C < 0 || x.C >= *next) {
		return "a register that nothing has taken"
	}
	if isPost(x.Op) && (x.C < 0 || x.C >= len(p.Loopers)) {
		return "no looper"
	}
	switch x.Op {
	case api.OpStore, api.OpPut, api.OpSetField, api.OpSetElem, api.OpCall, api.OpCancel, api.OpJoin, api.OpLog, api.OpZero:
		if x.A < 0 || x.A >= *next {
			return "a register that nothing has taken"
		}
	case api.OpEnable, api.OpDisable, api.OpJump, api.OpRet:
	case api.OpMove:
		if x.A < 0 || x.A > *next || isCell(x.A) || isCell(x.B) {
			return "no register of a local"
		}
		*next = max(*next, x.A+1)
	default:
		if x.A != *next {
			return "not the next register"
		}
		*next++
	}
	switch x.Op {
	case api.OpCell:
		cells[x.A] = struct{}{}
	case api.OpGet:
		if !isCell(x.B) {
			return "no cell"
		}
	case api.OpPut:
		if !isCell(x.A) {
			return "no cell"
		}
	case api.OpClosure:
		if x.N < 0 || x.N >= int64(len(p.Funcs)) || len(x.L) != p.Funcs[x.N].Captures || slices.ContainsFunc(x.L, func(r int) bool { return !isCell(r) }) {
			return "not the cells that its function captures"
		}
	}
	most := map[api.Op]int{api.OpLoad: len(p.Globals), api.OpStore: len(p.Globals), api.OpNew: len(p.Classes), api.OpField: api.MaxFields, api.OpSetField: api.MaxFields, api.OpEnable: len(p.Events), api.OpDisable: len(p.Events), api.OpJump: len(f.Code), api.OpZero: len(f.Code), api.OpPost: api.MaxDelay + 1}
	if n, is := most[x.Op]; is && (x.N < 0 || x.N >= int64(n)) {
		return "a number of nothing"
	}
	return ""
}

func isPost(op api.Op) bool {
	return op == api.OpPost || op == api.OpFront
}

// P6.4, P0.4: of a text, right or spoilt, there is just one of a program, what is wrong, and a limit; and it is the same each time.
func TestOneOfThree(t *testing.T) {
	t.Parallel()
	r := rand.New(rand.NewSource(7))
	g := &garden{r: r}
	var count [3]int
	for nth := range 2000 {
		text := []byte(sample)
		if nth%3 == 0 {
			text = []byte(g.prog([]int{2, 4, 10}[nth%9/3]))
		}
		for range r.Intn(3) {
			at := r.Intn(len(text))
			switch r.Intn(3) {
			case 0:
				text[at] = " ;{}()x1.=!"[r.Intn(11)]
			case 1:
				text = slices.Delete(text, at, at+1)
			case 2:
				text = slices.Insert(text, at, []byte([]string{" ", ";", "0", "x", "fn { }", "+ 1", ".i", "log it;", "post a p after 1000001;"}[r.Intn(9)])...)
			}
		}
		p, wrong, err := Text(text)
		q, again, also := Text(slices.Clone(text))
		if !reflect.DeepEqual(p, q) || !slices.Equal(wrong, again) || err != also {
			t.Fatalf("two answers of\n%s", text)
		}
		switch {
		case len(wrong) > 0 && err == api.OK && reflect.DeepEqual(p, api.Prog{}):
			count[0]++
		case len(wrong) == 0 && err == api.ErrLimit && reflect.DeepEqual(p, api.Prog{}):
			count[1]++
		case len(wrong) == 0 && err == api.OK && unsound(p) == "":
			count[2]++
		default:
			t.Fatalf("%d wrong, %v, %d functions, of\n%s", len(wrong), err, len(p.Funcs), text)
		}
	}
	if slices.Min(count[:]) < 30 {
		t.Errorf("%v: that is not much", count)
	}
}

// P6.2, P6.4: blanks, comments, parentheses, and names are no matter, but for lines and what has a name.
func TestTheSameCode(t *testing.T) {
	g := &garden{r: rand.New(rand.NewSource(8))}
	bare := func(p api.Prog) []string {
		var l []string
		for _, f := range p.Funcs {
			for _, x := range f.Code {
				l = append(l, spell(x))
			}
		}
		return l
	}
	for range 100 {
		text := g.prog(4)
		x, wrong := parse.Parse([]byte(text))
		printed := tree.Print(x)
		renamed := strings.NewReplacer("gi", "other1", "gc", "other2", "v1", "v_1").Replace(printed)
		p, diags, err := Text([]byte(text))
		q, also, err2 := Text([]byte("#\n " + strings.ReplaceAll(renamed, "\n", " #\n")))
		if len(wrong)+len(diags)+len(also) > 0 || err != err2 || !slices.Equal(bare(p), bare(q)) {
			t.Fatalf("%v, %v, %v, or other code, of\n%s\nand\n%s", diags, also, err2, text, renamed)
		}
	}
}
