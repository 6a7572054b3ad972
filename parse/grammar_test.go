package parse

import (
	"math/rand"
	"slices"
	"strings"
	"testing"

	"detent/api"
	"detent/token"
	"detent/tree"
)

// grammar is the chapter's, in rules without '*' and '?'. Variable tells what a Tight that comes to a variable consists of.
const grammar = `
Program: | Declaration Program
Declaration: looper Name ; | class Name { Members } | var Name Type ; | fn Name Block | comp Name on Name { Lives } | event Name on Name OnOff Block | main Block
Members: | Name Type ; Members
Lives: | Life Block Lives
Life: create | start | stop | destroy
OnOff: on | off
Type: int | fn | tok | hand | arr | Name
Block: { Statements }
Statements: | Statement Statements
Statement: var Name Type = Term ; | Act Term ; | post Name Term When To ; | spawn Term To ; | Turn Name ; | if Term Block | if Term Block else Block | while Term Block | return ; | Variable = Term ;
Act: call | cancel | join | log
When: | after Number | front
To: | to Variable
Turn: enable | disable
Term: Sum | Sum < Sum | Sum == Sum
Sum: Product | Sum + Product | Sum - Product
Product: Unary | Product * Unary
Unary: arr Unary | len Unary | Tight
Tight: First | Tight . Name | Tight [ Term ]
First: Number | null | it | Name | new Name | fn Block | ( Term )
Variable: Name | ( Variable ) | Tight . Name | Tight [ Term ]
`

// rules tells, by name, what each part of the grammar may consist of.
func rules() map[string][][]string {
	all := map[string][][]string{}
	for _, line := range strings.Split(strings.TrimSpace(grammar), "\n") {
		name, rest, _ := strings.Cut(line, ":")
		for _, side := range strings.Split(rest, "|") {
			all[name] = append(all[name], strings.Fields(side))
		}
	}
	return all
}

// item is a part of the grammar of which the first done symbols have been seen, from the token from on.
type item struct {
	name             string
	side, done, from int
}

// symbolOf tells a token as the grammar does.
func symbolOf(k api.Token) string {
	switch k.Kind {
	case api.TokenName:
		return "Name"
	case api.TokenNumber:
		return "Number"
	}
	return k.Text
}

// firstWrong tells the number of the first token that can't stand there (of the End, how many there are; of a program -1), by going on with all that the tokens may be, at once.
func firstWrong(all map[string][][]string, l []api.Token) int {
	sets := make([][]item, len(l)+1)
	add := func(at int, x item) {
		if !slices.Contains(sets[at], x) {
			sets[at] = append(sets[at], x)
		}
	}
	empty := map[string]bool{"Program": true, "Members": true, "Lives": true, "Statements": true, "When": true, "To": true}
	for i := range all["Program"] {
		add(0, item{"Program", i, 0, 0})
	}
	for at := range sets {
		if len(sets[at]) == 0 {
			return at - 1
		}
		for i := 0; i < len(sets[at]); i++ {
			x := sets[at][i]
			side := all[x.name][x.side]
			if x.done == len(side) {
				for _, y := range sets[x.from] {
					if s := all[y.name][y.side]; y.done < len(s) && s[y.done] == x.name {
						y.done++
						add(at, y)
					}
				}
				continue
			}
			symbol := side[x.done]
			if sides, is := all[symbol]; is {
				for j := range sides {
					add(at, item{symbol, j, 0, at})
				}
				if empty[symbol] {
					x.done++
					add(at, x)
				}
			} else if at < len(l) && symbolOf(l[at]) == symbol {
				x.done++
				add(at+1, x)
			}
		}
	}
	for _, x := range sets[len(l)] {
		if x.name == "Program" && x.from == 0 && x.done == len(all["Program"][x.side]) {
			return -1
		}
	}
	return len(l)
}

// asTold holds what Tokens tells of tokens that are not nested deeply against the grammar. A token's place is its number.
func asTold(t *testing.T, all map[string][][]string, l []api.Token) {
	t.Helper()
	for i := range l {
		l[i].Line, l[i].Col = i+1, -i
	}
	x, wrong := Tokens(l...)
	var want []api.Diag
	switch at := firstWrong(all, l); {
	case at == len(l):
		want = []api.Diag{{Err: api.ErrSyntax}}
	case at >= 0:
		want = []api.Diag{{Line: at + 1, Col: -at, Err: api.ErrSyntax}}
	}
	if !slices.Equal(wrong, want) {
		t.Fatalf("Tokens of %q: %v, want %v", token.Print(l...), wrong, want)
	}
	if may := tree.May(x); may != (want == nil) || !may && x.Twigs != nil {
		t.Fatalf("Tokens of %q: %v, and a tree of which May tells %v", token.Print(l...), wrong, may)
	}
}

// alphabet is all words, all marks, a name and a number.
func alphabet() []api.Token {
	l, _ := token.Scan([]byte(strings.Join(token.Words(), " ") + " { } ( ) [ ] ; . = == + - * < x 5"))
	return l
}

func scanned(text string) []api.Token {
	l, _ := token.Scan([]byte(text))
	return l
}

// P3.1: all rows of few tokens, at several places of a text.
func TestAllShortRows(t *testing.T) {
	all, letters := rules(), alphabet()
	for _, head := range []string{"", "main {", "main { log a", "main { (x", "class C { a", "comp c on l {", "event e on l", "main { post l f to x", "main { if x { }", "main { log fn"} {
		ahead := scanned(head)
		for _, a := range letters {
			asTold(t, all, append(slices.Clone(ahead), a))
			for _, b := range letters {
				asTold(t, all, append(slices.Clone(ahead), a, b))
			}
		}
	}
	few := scanned("x 5 ( ) [ ] . = ; + < fn { }")
	for _, head := range []string{"main {", "main { log", "main { spawn f to"} {
		ahead := scanned(head)
		each(few, 4, func(l []api.Token) {
			asTold(t, all, append(slices.Clone(ahead), l...))
		})
	}
}

// each hands all rows of n of some letters to f.
func each(letters []api.Token, n int, f func(l []api.Token)) {
	row := make([]api.Token, n)
	var fill func(at int)
	fill = func(at int) {
		if at == n {
			f(row)
			return
		}
		for _, k := range letters {
			row[at] = k
			fill(at + 1)
		}
	}
	fill(0)
}

// P3.1: programs in which some tokens are gone, or others stand there, are held against the grammar.
func TestSpoiltPrograms(t *testing.T) {
	all, letters := rules(), alphabet()
	r := rand.New(rand.NewSource(3))
	right := 0
	for range 6000 {
		l := render(r, randomProgram(r), 0).tokens
		if len(l) > 120 {
			continue
		}
		right++
		asTold(t, all, slices.Clone(l))
		for range 1 + r.Intn(3) {
			if len(l) == 0 {
				break
			}
			at := r.Intn(len(l))
			switch r.Intn(4) {
			case 0:
				l = slices.Delete(l, at, at+1)
			case 1:
				l = slices.Insert(l, at, letters[r.Intn(len(letters))])
			case 2:
				l[at] = letters[r.Intn(len(letters))]
			case 3:
				l = l[:at]
			}
		}
		asTold(t, all, l)
		behindChangesNothing(t, r, l, letters)
	}
	if right < 1000 {
		t.Errorf("only %d programs are short", right)
	}
}

// P3.2: what stands behind the token that is told changes nothing.
func behindChangesNothing(t *testing.T, r *rand.Rand, l, letters []api.Token) {
	t.Helper()
	_, wrong := Tokens(l...)
	if len(wrong) == 0 || wrong[0].Line == 0 {
		return
	}
	head := slices.Clone(l[:wrong[0].Line])
	for n := range 4 {
		for range n {
			head = append(head, letters[r.Intn(len(letters))])
		}
		if x, again := Tokens(head...); !slices.Equal(again, wrong) || x.Twigs != nil {
			t.Fatalf("Tokens of %q: %v, but %v with something else behind", token.Print(head...), again, wrong)
		}
	}
}
