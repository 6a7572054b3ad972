package step

import (
	"slices"

	"detent/api"
)

// named tells of each operation how many of A, B and C it names as registers.
var named = [...]int{
	api.OpConst:    1,
	api.OpMove:     2,
	api.OpAdd:      3,
	api.OpSub:      3,
	api.OpMul:      3,
	api.OpLess:     3,
	api.OpSame:     3,
	api.OpIt:       1,
	api.OpLoad:     1,
	api.OpStore:    1,
	api.OpCell:     1,
	api.OpGet:      2,
	api.OpPut:      2,
	api.OpNew:      1,
	api.OpField:    2,
	api.OpSetField: 2,
	api.OpArray:    2,
	api.OpElem:     3,
	api.OpSetElem:  3,
	api.OpLen:      2,
	api.OpClosure:  1,
	api.OpCall:     1,
	api.OpPost:     2,
	api.OpFront:    2,
	api.OpCancel:   1,
	api.OpEnable:   0,
	api.OpDisable:  0,
	api.OpSpawn:    2,
	api.OpJoin:     1,
	api.OpLog:      1,
	api.OpJump:     0,
	api.OpZero:     1,
	api.OpRet:      0,
}

// among tells whether a number is one of so many, counted from 0 on.
func among[T ~int | ~int64](n T, count int) bool {
	return n >= 0 && int64(n) < int64(count)
}

// mayBe tells whether a program may be.
func mayBe(p api.Prog) bool {
	// How much there is comes first, so that what is far beyond a limit is not gone over.
	return countsMayBe(p) && valuesMayBe(p) && tasksMayBe(p) && codeMayBe(p) && sitesMayBe(p)
}

func countsMayBe(p api.Prog) bool {
	if len(p.Loopers) < 1 || len(p.Loopers) > api.MaxLoopers || len(p.Funcs) < 1 || len(p.Funcs) > api.MaxFuncs {
		return false
	}
	return len(p.Classes) <= api.MaxClasses && len(p.Globals) <= api.MaxGlobals && len(p.Comps) <= api.MaxComps &&
		len(p.Events) <= api.MaxEvents && len(p.Sites) <= api.MaxSites
}

// valuesMayBe looks at classes and globals.
func valuesMayBe(p api.Prog) bool {
	for _, c := range p.Classes {
		if len(c.Fields) > api.MaxFields || len(c.Names) != len(c.Fields) {
			return false
		}
		for _, t := range c.Fields {
			if !isType(p, int64(t)) {
				return false
			}
		}
	}
	for _, g := range p.Globals {
		if !isType(p, int64(g.Type)) {
			return false
		}
	}
	return true
}

// tasksMayBe looks at what tasks are of that come from outside, and at the first one.
func tasksMayBe(p api.Prog) bool {
	for _, c := range p.Comps {
		if !among(c.Looper, len(p.Loopers)) {
			return false
		}
		for _, f := range c.Funcs {
			if f >= 0 && !isTask(p, f) {
				return false
			}
		}
	}
	for _, e := range p.Events {
		if !among(e.Looper, len(p.Loopers)) || !isTask(p, e.Func) {
			return false
		}
	}
	return isTask(p, p.Main)
}

// isType tells whether a type may be: if it names a class, that one is there.
func isType(p api.Prog, t int64) bool {
	// The class -1 is the first one.
	return t >= 0 || among(-1-t, len(p.Classes))
}

// isTask tells whether a number is that of a function that captures nothing: of another one no such task can be.
func isTask(p api.Prog, f int) bool {
	return among(f, len(p.Funcs)) && p.Funcs[f].Captures == 0
}

func codeMayBe(p api.Prog) bool {
	for _, f := range p.Funcs {
		if f.Regs < 0 || f.Regs > api.MaxRegs || f.Captures < 0 || f.Captures > f.Regs {
			return false
		}
		if len(f.Code) < 1 || len(f.Code) > api.MaxCode {
			return false
		}
		last := f.Code[len(f.Code)-1].Op
		if last != api.OpRet && last != api.OpJump {
			return false
		}
		for _, x := range f.Code {
			if !isOp(x.Op) || !numbersMayBe(p, f, x) || !registersMayBe(f, x) {
				return false
			}
		}
	}
	return true
}

func isOp(o api.Op) bool { return api.OpConst <= o && o <= api.OpRet }

// numbersMayBe tells whether all is there that an instruction names, but for registers.
func numbersMayBe(p api.Prog, f api.Func, x api.Instr) bool {
	switch x.Op {
	case api.OpLoad, api.OpStore:
		return among(x.N, len(p.Globals))
	case api.OpCell:
		return isType(p, x.N)
	case api.OpNew:
		return among(x.N, len(p.Classes))
	case api.OpClosure:
		return among(x.N, len(p.Funcs)) && len(x.L) == p.Funcs[x.N].Captures
	case api.OpPost:
		return among(x.C, len(p.Loopers)) && among(x.N, api.MaxDelay+1)
	case api.OpFront:
		return among(x.C, len(p.Loopers))
	case api.OpEnable, api.OpDisable:
		return among(x.N, len(p.Events))
	case api.OpJump, api.OpZero:
		return among(x.N, len(f.Code))
	}
	return true
}

// registersMayBe tells whether the registers that an instruction names are among its function's.
func registersMayBe(f api.Func, x api.Instr) bool {
	if len(x.L) > 0 && x.Op != api.OpClosure {
		return false
	}
	all := [...]int{x.A, x.B, x.C}
	for _, r := range append(all[:named[x.Op]:named[x.Op]], x.L...) {
		if !among(r, f.Regs) {
			return false
		}
	}
	return true
}

// sitesMayBe tells whether sites are numbered function by function, and Sites tells just these.
func sitesMayBe(p api.Prog) bool {
	var sites []api.Site
	for f := range p.Funcs {
		for at, x := range p.Funcs[f].Code {
			want := -1
			if IsSite(x.Op) {
				want = len(sites)
				sites = append(sites, api.Site{Func: f, At: at})
			}
			if x.Site != want {
				return false
			}
		}
	}
	return slices.Equal(p.Sites, sites)
}

// copied makes a program that shares nothing with another one, but is the same.
func copied(p api.Prog) api.Prog {
	p.Loopers = slices.Clone(p.Loopers)
	p.Classes = slices.Clone(p.Classes)
	for i := range p.Classes {
		c := &p.Classes[i]
		c.Names, c.Fields = slices.Clone(c.Names), slices.Clone(c.Fields)
	}
	p.Globals = slices.Clone(p.Globals)
	p.Funcs = slices.Clone(p.Funcs)
	for i := range p.Funcs {
		f := &p.Funcs[i]
		f.Code = slices.Clone(f.Code)
		for at := range f.Code {
			f.Code[at].L = slices.Clone(f.Code[at].L)
		}
	}
	p.Comps = slices.Clone(p.Comps)
	p.Events = slices.Clone(p.Events)
	p.Sites = slices.Clone(p.Sites)
	return p
}

// sameProg tells whether two programs that may be are the same.
func sameProg(p, q api.Prog) bool {
	// Sites follow from the functions.
	return p.Main == q.Main && slices.Equal(p.Loopers, q.Loopers) && slices.EqualFunc(p.Classes, q.Classes, sameClass) &&
		slices.Equal(p.Globals, q.Globals) && slices.EqualFunc(p.Funcs, q.Funcs, sameFunc) &&
		slices.Equal(p.Comps, q.Comps) && slices.Equal(p.Events, q.Events)
}

func sameClass(a, b api.Class) bool {
	return a.Name == b.Name && slices.Equal(a.Names, b.Names) && slices.Equal(a.Fields, b.Fields)
}

func sameFunc(a, b api.Func) bool {
	return a.Name == b.Name && a.Captures == b.Captures && a.Regs == b.Regs && slices.EqualFunc(a.Code, b.Code, sameInstr)
}

func sameInstr(x, y api.Instr) bool {
	return x.Op == y.Op && x.A == y.A && x.B == y.B && x.C == y.C && x.N == y.N && slices.Equal(x.L, y.L) &&
		x.Site == y.Site && x.Line == y.Line
}
