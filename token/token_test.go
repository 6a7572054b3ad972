package token

import (
	"regexp"
	"slices"
	"strings"
	"testing"

	"detent/api"
)

const allWords = "after arr call cancel class comp create destroy disable else enable event fn front hand if int it join len log looper main new null off on post return spawn start stop to tok var while"

func name(s string, line, col int) api.Token {
	return api.Token{Kind: api.TokenName, Text: s, Line: line, Col: col}
}

func word(s string, line, col int) api.Token {
	return api.Token{Kind: api.TokenWord, Text: s, Line: line, Col: col}
}

func mark(s string, line, col int) api.Token {
	return api.Token{Kind: api.TokenMark, Text: s, Line: line, Col: col}
}

func number(s string, n int64, line, col int) api.Token {
	return api.Token{Kind: api.TokenNumber, Text: s, N: n, Line: line, Col: col}
}

func diag(line, col int, err api.Errno) api.Diag {
	return api.Diag{Line: line, Col: col, Err: err}
}

// P1.1: ordinary texts, the edges, and wrong bytes, each with its tokens and all that is told of it.
func TestScan(t *testing.T) {
	long32 := strings.Repeat("a", api.MaxWord)
	long33 := "_" + strings.Repeat("9", api.MaxWord)
	zeros := strings.Repeat("0", 5000)
	for _, c := range []struct {
		text   string
		tokens []api.Token
		wrong  []api.Diag
	}{
		{"", nil, nil},
		{" \t\r\n\n", nil, nil},
		{"#", nil, nil},
		{"# to the end, with @ and \x00 and \xff", nil, nil},
		{"#a\rb\nc", []api.Token{name("c", 2, 1)}, nil},
		{"#a#b\n\n#\n z", []api.Token{name("z", 4, 2)}, nil},
		{"a==b1 #c", []api.Token{name("a", 1, 1), mark("==", 1, 2), name("b1", 1, 4)}, nil},
		{"a#c\nb", []api.Token{name("a", 1, 1), name("b", 2, 1)}, nil},
		{"12x", []api.Token{number("12", 12, 1, 1), name("x", 1, 3)}, nil},
		{"x12", []api.Token{name("x12", 1, 1)}, nil},
		{"fn fnx Fn _fn fn1 it_", []api.Token{word("fn", 1, 1), name("fnx", 1, 4), name("Fn", 1, 8), name("_fn", 1, 11), name("fn1", 1, 15), name("it_", 1, 19)}, nil},
		{"_ Z z A a", []api.Token{name("_", 1, 1), name("Z", 1, 3), name("z", 1, 5), name("A", 1, 7), name("a", 1, 9)}, nil},
		{"=", []api.Token{mark("=", 1, 1)}, nil},
		{"==", []api.Token{mark("==", 1, 1)}, nil},
		{"===", []api.Token{mark("==", 1, 1), mark("=", 1, 3)}, nil},
		{"====", []api.Token{mark("==", 1, 1), mark("==", 1, 3)}, nil},
		{"= =", []api.Token{mark("=", 1, 1), mark("=", 1, 3)}, nil},
		{"=#\n=", []api.Token{mark("=", 1, 1), mark("=", 2, 1)}, nil},
		{"<=-", []api.Token{mark("<", 1, 1), mark("=", 1, 2), mark("-", 1, 3)}, nil},
		{"{}()[];.=+-*<", []api.Token{mark("{", 1, 1), mark("}", 1, 2), mark("(", 1, 3), mark(")", 1, 4), mark("[", 1, 5), mark("]", 1, 6), mark(";", 1, 7), mark(".", 1, 8), mark("=", 1, 9), mark("+", 1, 10), mark("-", 1, 11), mark("*", 1, 12), mark("<", 1, 13)}, nil},
		{"a\tb\r\nc\rd", []api.Token{name("a", 1, 1), name("b", 1, 3), name("c", 2, 1), name("d", 2, 3)}, nil},
		{"0 00 007", []api.Token{number("0", 0, 1, 1), number("00", 0, 1, 3), number("007", 7, 1, 6)}, nil},
		{"2147483647", []api.Token{number("2147483647", 2147483647, 1, 1)}, nil},
		{" 2147483648;", []api.Token{number("2147483648", 0, 1, 2), mark(";", 1, 12)}, []api.Diag{diag(1, 2, api.ErrLimit)}},
		{"18446744073709551617", []api.Token{number("18446744073709551617", 0, 1, 1)}, []api.Diag{diag(1, 1, api.ErrLimit)}},
		{zeros + "2147483647", []api.Token{number(zeros+"2147483647", 2147483647, 1, 1)}, nil},
		{zeros + "2147483648", []api.Token{number(zeros+"2147483648", 0, 1, 1)}, []api.Diag{diag(1, 1, api.ErrLimit)}},
		{"1" + zeros, []api.Token{number("1"+zeros, 0, 1, 1)}, []api.Diag{diag(1, 1, api.ErrLimit)}},
		{long32, []api.Token{name(long32, 1, 1)}, nil},
		{"\n" + long33 + " b", []api.Token{name(long33, 2, 1), name("b", 2, 35)}, []api.Diag{diag(2, 1, api.ErrLimit)}},
		{"!", nil, []api.Diag{diag(1, 1, api.ErrChar)}},
		{"a!b", []api.Token{name("a", 1, 1), name("b", 1, 3)}, []api.Diag{diag(1, 2, api.ErrChar)}},
		{"=!=", []api.Token{mark("=", 1, 1), mark("=", 1, 3)}, []api.Diag{diag(1, 2, api.ErrChar)}},
		{"a\xc3\xa9", []api.Token{name("a", 1, 1)}, []api.Diag{diag(1, 2, api.ErrChar), diag(1, 3, api.ErrChar)}},
		{"@\n2147483648\n,", []api.Token{number("2147483648", 0, 2, 1)}, []api.Diag{diag(1, 1, api.ErrChar), diag(2, 1, api.ErrLimit), diag(3, 1, api.ErrChar)}},
	} {
		tokens, wrong := Scan([]byte(c.text))
		if !slices.Equal(tokens, c.tokens) || !slices.Equal(wrong, c.wrong) {
			t.Errorf("Scan(%.40q): %v, %v, want %v, %v", c.text, tokens, wrong, c.tokens, c.wrong)
		}
	}
	if tokens, wrong := Scan(nil); tokens != nil || wrong != nil {
		t.Errorf("Scan(nil): %v, %v", tokens, wrong)
	}
}

// P1.1: of each byte alone, what it is.
func TestScanEachByte(t *testing.T) {
	const letters = "abcdefghijklmnopqrstuvwxyzABCDEFGHIJKLMNOPQRSTUVWXYZ_"
	for c := range 256 {
		s := string([]byte{byte(c)})
		tokens, wrong := Scan([]byte(s))
		var kind api.TokenKind
		switch {
		case strings.Contains(letters, s):
			kind = api.TokenName
		case strings.Contains("0123456789", s):
			kind = api.TokenNumber
		case strings.Contains("{}()[];.=+-*<", s):
			kind = api.TokenMark
		case strings.Contains(" \t\n\r#", s):
			if tokens != nil || wrong != nil {
				t.Errorf("byte %d: %v, %v, want nothing", c, tokens, wrong)
			}
			continue
		default:
			if tokens != nil || !slices.Equal(wrong, []api.Diag{diag(1, 1, api.ErrChar)}) {
				t.Errorf("byte %d: %v, %v, want ErrChar", c, tokens, wrong)
			}
			continue
		}
		if wrong != nil || len(tokens) != 1 || tokens[0].Kind != kind || tokens[0].Text != s {
			t.Errorf("byte %d: %v, %v, want one token of kind %d", c, tokens, wrong, kind)
		}
	}
}

// P1.1: each word is one in a text, and one byte more makes it a name.
func TestScanEachWord(t *testing.T) {
	for _, w := range strings.Fields(allWords) {
		tokens, wrong := Scan([]byte(w + " " + w + "0"))
		if want := []api.Token{word(w, 1, 1), name(w+"0", 1, len(w)+2)}; !slices.Equal(tokens, want) || wrong != nil {
			t.Errorf("Scan of %q: %v, %v", w, tokens, wrong)
		}
	}
}

// shortTexts hands all texts of at most n bytes of an alphabet to f.
func shortTexts(alphabet string, n int, f func(text string)) {
	texts := []string{""}
	for range n + 1 {
		var longer []string
		for _, s := range texts {
			f(s)
			for i := range len(alphabet) {
				longer = append(longer, s+alphabet[i:i+1])
			}
		}
		texts = longer
	}
}

var shape = regexp.MustCompile(`#[^\n]*|[A-Za-z_][A-Za-z_0-9]*|[0-9]+|==|[^ \t\n\r]`)

// expected tells, by patterns, the tokens of a text whose numbers and names are all short, and what is wrong with it.
func expected(text string) ([]api.Token, []api.Diag) {
	var tokens []api.Token
	var wrong []api.Diag
	for _, m := range shape.FindAllStringIndex(text, -1) {
		s := text[m[0]:m[1]]
		line := 1 + strings.Count(text[:m[0]], "\n")
		col := m[0] - strings.LastIndexByte(text[:m[0]], '\n')
		switch {
		case s[0] == '#':
		case slices.Contains(strings.Fields(allWords), s):
			tokens = append(tokens, word(s, line, col))
		case regexp.MustCompile(`^[A-Za-z_]`).MatchString(s):
			tokens = append(tokens, name(s, line, col))
		case regexp.MustCompile(`^[0-9]`).MatchString(s):
			n := int64(0)
			for _, d := range s {
				n = 10*n + int64(d-'0')
			}
			tokens = append(tokens, number(s, n, line, col))
		case s == "==" || strings.Contains("{}()[];.=+-*<", s):
			tokens = append(tokens, mark(s, line, col))
		default:
			wrong = append(wrong, diag(line, col, api.ErrChar))
		}
	}
	return tokens, wrong
}

// P1.1: all short texts, held against patterns of what stands in a text.
func TestScanShortTexts(t *testing.T) {
	shortTexts("if0=;# \n!", 5, func(text string) {
		tokens, wrong := Scan([]byte(text))
		wantTokens, wantWrong := expected(text)
		if !slices.Equal(tokens, wantTokens) || !slices.Equal(wrong, wantWrong) {
			t.Fatalf("Scan(%q): %v, %v, want %v, %v", text, tokens, wrong, wantTokens, wantWrong)
		}
	})
}

// P1.1: what is handed in is not changed, and what is answered shares no memory with it.
func TestScanKeepsApart(t *testing.T) {
	b := []byte("abc == 12")
	tokens, _ := Scan(b)
	if string(b) != "abc == 12" {
		t.Errorf("the text was changed: %q", b)
	}
	for i := range b {
		b[i] = '?'
	}
	if s := Print(tokens...); s != "abc == 12\n" {
		t.Errorf("the tokens changed with the text: %q", s)
	}
}

// P1.2
func TestWords(t *testing.T) {
	want := strings.Fields(allWords)
	got := Words()
	if !slices.Equal(got, want) {
		t.Errorf("Words: %v", got)
	}
	clear(got)
	if !slices.Equal(Words(), want) {
		t.Errorf("Words: not the caller's own")
	}
}

// P1.2
func TestIsWord(t *testing.T) {
	for _, w := range strings.Fields(allWords) {
		if !IsWord(w) {
			t.Errorf("IsWord(%q): false", w)
		}
		if IsName(w) {
			t.Errorf("IsName(%q): true", w)
		}
		for _, s := range []string{w + " ", " " + w, strings.ToUpper(w), w + "_", "_" + w} {
			if IsWord(s) {
				t.Errorf("IsWord(%q): true", s)
			}
		}
	}
	for _, s := range []string{"", "a", "whil", "==", "1", "fn fn", "\xff"} {
		if IsWord(s) {
			t.Errorf("IsWord(%q): true", s)
		}
	}
}

// P1.2
func TestIsName(t *testing.T) {
	long := strings.Repeat("x", api.MaxWord)
	for _, s := range []string{"a", "z", "A", "Z", "_", "__", "_9", "a0", "Fn", "fns", long, long[1:] + "9", long[1:] + "_"} {
		if !IsName(s) {
			t.Errorf("IsName(%q): false", s)
		}
	}
	for _, s := range []string{"", "9", "9a", "fn", "a.b", "a b", "a ", " a", "a\n", "a#", "==", "=", "a=", "-", "\xc3\xa9", "a\xff", "a\x00", "@", "`", "[", long + "x", long + "9"} {
		if IsName(s) {
			t.Errorf("IsName(%q): true", s)
		}
	}
}

// P1.2
func TestNumber(t *testing.T) {
	zeros := strings.Repeat("0", 5000)
	for s, want := range map[string]int64{"0": 0, "9": 9, "00": 0, "0012": 12, "1000000000": 1000000000, "2147483647": api.MaxNumber, zeros: 0, zeros + "2147483647": api.MaxNumber} {
		if n, is := Number(s); !is || n != want {
			t.Errorf("Number(%.40q): %d, %v, want %d", s, n, is, want)
		}
	}
	for _, s := range []string{"", "a", "1a", "a1", "-1", "+1", "1 ", " 1", "1.0", "0x1", "1_0", "==", "\xd9\xa1", "/", ":", "2147483648", "2147483650", "4294967296", "9223372036854775808", "18446744073709551616", "18446744073709551617", "1" + zeros, zeros + "2147483648"} {
		if n, is := Number(s); is || n != 0 {
			t.Errorf("Number(%.40q): %d, %v, want 0, false", s, n, is)
		}
	}
}

// P1.3
func TestPrint(t *testing.T) {
	if s := Print(); s != "" {
		t.Errorf("Print of none: %q", s)
	}
	for _, c := range []struct {
		tokens []api.Token
		want   string
	}{
		{[]api.Token{name("a", 7, 7)}, "a\n"},
		{[]api.Token{name("a", 2, 1), mark("=", 1, 9), number("007", 7, 0, 0), mark(";", 0, 0)}, "a = 007 ;\n"},
		{[]api.Token{{}}, "\n"},
		{[]api.Token{{}, {Text: "x y"}, {}}, " x y \n"},
	} {
		if s := Print(c.tokens...); s != c.want {
			t.Errorf("Print(%v): %q, want %q", c.tokens, s, c.want)
		}
	}
}

// placeless tells tokens without their places.
func placeless(l []api.Token) []api.Token {
	var out []api.Token
	for _, t := range l {
		t.Line, t.Col = 0, 0
		out = append(out, t)
	}
	return out
}

func sampleTexts(f func(text string)) {
	shortTexts("if0=;# \n!", 4, f)
	f("main {\n  x.v=0012;#c\n\tif a==b<c { @ }\n}")
	f(strings.Repeat("b", 50) + " " + strings.Repeat("9", 50) + "\n= == ===")
}

// P1.4: what is printed has the same tokens, but for their places.
func TestPrintedIsScanned(t *testing.T) {
	sampleTexts(func(text string) {
		tokens, _ := Scan([]byte(text))
		again, _ := Scan([]byte(Print(tokens...)))
		if !slices.Equal(placeless(again), placeless(tokens)) {
			t.Fatalf("of %q: %v, printed and scanned %v", text, tokens, again)
		}
	})
}

// offset tells the position of a place in a text.
func offset(text string, line, col int) int {
	at := 0
	for range line - 1 {
		at += strings.IndexByte(text[at:], '\n') + 1
	}
	return at + col - 1
}

// P1.4: tokens stand apart, in order, each as it stands in the text.
func TestTokensStandInTheText(t *testing.T) {
	sampleTexts(func(text string) {
		end := 0
		tokens, _ := Scan([]byte(text))
		for _, k := range tokens {
			at := offset(text, k.Line, k.Col)
			if at < end || k.Text == "" || !strings.HasPrefix(text[at:], k.Text) {
				t.Fatalf("of %q: %v is not there", text, k)
			}
			end = at + len(k.Text)
		}
	})
}

// P1.4: a token, and those ahead of it, are the same whatever stands behind it.
func TestWhatStandsBehind(t *testing.T) {
	sampleTexts(func(text string) {
		tokens, _ := Scan([]byte(text))
		for i, k := range tokens {
			head := text[:offset(text, k.Line, k.Col)+len(k.Text)]
			for _, tail := range []string{"", " if 7 = !", "\n@", "#if"} {
				got, _ := Scan([]byte(head + tail))
				if len(got) <= i || !slices.Equal(got[:i+1], tokens[:i+1]) {
					t.Fatalf("of %q, then %q: %v, want %v first", head, tail, got, tokens[:i+1])
				}
			}
		}
	})
}

// P1.4: blanks and comments between tokens change their places alone.
func TestWhatStandsBetween(t *testing.T) {
	sampleTexts(func(text string) {
		tokens, _ := Scan([]byte(text))
		for _, between := range []string{" ", "\t", "\r", "\n", " \n\n ", "#==!\n", "\n# a\n"} {
			var b strings.Builder
			for _, k := range tokens {
				b.WriteString(between + k.Text)
			}
			got, _ := Scan([]byte(b.String() + between))
			if !slices.Equal(placeless(got), placeless(tokens)) {
				t.Fatalf("of %q, with %q between: %v, want %v", text, between, got, tokens)
			}
		}
	})
}
