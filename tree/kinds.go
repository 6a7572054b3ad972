package tree

import (
	"slices"

	"detent/api"
	"detent/token"
)

// kind is what the twigs of a kind have, and what they are printed as.
type kind struct {
	text  func(s string) bool
	n     func(n int64) bool
	kids  func(l []api.TwigKind) bool
	parts func(t api.Tree, w api.Twig) []part
}

// kindIs tells whether a kind is of some sort.
type kindIs = func(k api.TwigKind) bool

func kinds() map[api.TwigKind]kind {
	name, use, typ, block := token.IsName, just(api.TwigUse), just(api.TwigType), just(api.TwigBlock)
	perhapsTo := either(row(Term), row(Term, isVariable))
	return map[api.TwigKind]kind{
		api.TwigProg:    {noText, noN, many(isDeclaration), progParts},
		api.TwigLooper:  {name, noN, row(), form("looper @ ;")},
		api.TwigClass:   {name, noN, many(just(api.TwigMember)), classParts},
		api.TwigMember:  {name, noN, row(typ), form("@ 0 ;")},
		api.TwigType:    {isType, noN, row(), form("@")},
		api.TwigGlobal:  {name, noN, row(typ), form("var @ 0 ;")},
		api.TwigFunc:    {name, noN, row(block), form("fn @ 0")},
		api.TwigComp:    {name, noN, many(just(api.TwigLife), use), compParts},
		api.TwigLife:    {noText, within(api.LifeCreate, api.LifeDestroy), row(block), lifeParts},
		api.TwigEvent:   {name, within(0, 1), row(use, block), eventParts},
		api.TwigMain:    {noText, noN, row(block), form("main 0")},
		api.TwigBlock:   {noText, noN, many(isStatement), blockParts},
		api.TwigVar:     {name, noN, row(typ, Term), form("var @ 0 = 1 ;")},
		api.TwigSet:     {noText, noN, row(isVariable, Term), form("0 = 1 ;")},
		api.TwigCall:    {noText, noN, row(Term), form("call 0 ;")},
		api.TwigCancel:  {noText, noN, row(Term), form("cancel 0 ;")},
		api.TwigJoin:    {noText, noN, row(Term), form("join 0 ;")},
		api.TwigLog:     {noText, noN, row(Term), form("log 0 ;")},
		api.TwigPost:    {name, within(-1, api.MaxNumber), perhapsTo, postParts},
		api.TwigSpawn:   {noText, noN, perhapsTo, spawnParts},
		api.TwigEnable:  {name, noN, row(), form("enable @ ;")},
		api.TwigDisable: {name, noN, row(), form("disable @ ;")},
		api.TwigIf:      {noText, noN, row(Term, block, block), ifParts},
		api.TwigWhile:   {noText, noN, row(Term, block), form("while 0 1")},
		api.TwigReturn:  {noText, noN, row(), form("return ;")},
		api.TwigNumber:  {noText, within(0, api.MaxNumber), row(), form("#")},
		api.TwigNull:    {noText, noN, row(), form("null")},
		api.TwigIt:      {noText, noN, row(), form("it")},
		api.TwigUse:     {name, noN, row(), form("@")},
		api.TwigDot:     {name, noN, row(Term), form("0 . @")},
		api.TwigIndex:   {noText, noN, row(Term, Term), form("0 [ 1 ]")},
		api.TwigOp:      {isSign, noN, row(Term, Term), form("0 @ 1")},
		api.TwigNew:     {name, noN, row(), form("new @")},
		api.TwigArr:     {noText, noN, row(Term), form("arr 0")},
		api.TwigLen:     {noText, noN, row(Term), form("len 0")},
		api.TwigFn:      {noText, noN, row(block), form("fn 0")},
	}
}

func noText(s string) bool {
	return s == ""
}

func isType(s string) bool {
	return slices.Contains([]string{"int", "fn", "tok", "hand", "arr"}, s) || token.IsName(s)
}

func isSign(s string) bool {
	return slices.Contains([]string{"+", "-", "*", "<", "=="}, s)
}

func noN(n int64) bool {
	return n == 0
}

func within(low, high int64) func(n int64) bool {
	return func(n int64) bool { return low <= n && n <= high }
}

func just(kind api.TwigKind) kindIs {
	return func(k api.TwigKind) bool { return k == kind }
}

func isDeclaration(k api.TwigKind) bool {
	switch k {
	case api.TwigLooper, api.TwigClass, api.TwigGlobal, api.TwigFunc, api.TwigComp, api.TwigEvent, api.TwigMain:
		return true
	}
	return false
}

func isStatement(k api.TwigKind) bool {
	return api.TwigVar <= k && k <= api.TwigReturn
}

func isVariable(k api.TwigKind) bool {
	return k == api.TwigUse || k == api.TwigDot || k == api.TwigIndex
}

// row is of kids, one of each of these sorts, and no more.
func row(sorts ...kindIs) func(l []api.TwigKind) bool {
	return many(func(api.TwigKind) bool { return false }, sorts...)
}

// many is of kids, first one of each of the sorts ahead, then as many of a sort as one likes.
func many(rest kindIs, ahead ...kindIs) func(l []api.TwigKind) bool {
	return func(l []api.TwigKind) bool {
		if len(l) < len(ahead) {
			return false
		}
		for i, is := range ahead {
			if !is(l[i]) {
				return false
			}
		}
		return !slices.ContainsFunc(l[len(ahead):], func(k api.TwigKind) bool { return !rest(k) })
	}
}

func either(a, b func(l []api.TwigKind) bool) func(l []api.TwigKind) bool {
	return func(l []api.TwigKind) bool { return a(l) || b(l) }
}
