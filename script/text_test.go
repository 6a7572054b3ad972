package script_test

import (
	"fmt"
	"math"
	"math/big"
	"math/rand"
	"regexp"
	"slices"
	"strconv"
	"strings"
	"testing"

	"detent/api"
	"detent/script"
)

// written are scripts that may be, and their texts.
var written = []struct {
	text string
	l    []api.Entry
}{
	{"", nil},
	{"run 0\n", []api.Entry{runs(0)}},
	{"work 0\n", []api.Entry{works(0)}},
	{"tick 0\n", []api.Entry{ticks(0)}},
	{"inject 0 0\n", []api.Entry{injects(0, 0)}},
	{"life 0 0\n", []api.Entry{lives(0, 0)}},
	{"run 0\ntick 5\ninject 1 -7\n", []api.Entry{runs(0), ticks(5), injects(1, -7)}},
	{"run 7\nwork 12\ntick 1000000\ninject 3 40\nlife 2 3\n", []api.Entry{runs(7), works(12), ticks(1000000), injects(3, 40), lives(2, 3)}},
	{"tick -1\nlife 0 -1\ninject 0 -10\ntick -100\n", []api.Entry{ticks(-1), lives(0, -1), injects(0, -10), ticks(-100)}},
	{"run 9223372036854775807\nwork 9223372036854775807\n", []api.Entry{runs(math.MaxInt64), works(math.MaxInt64)}},
	{"tick 9223372036854775807\ntick -9223372036854775808\n", []api.Entry{ticks(math.MaxInt64), ticks(math.MinInt64)}},
	{"inject 9223372036854775807 -9223372036854775808\n", []api.Entry{injects(math.MaxInt64, math.MinInt64)}},
	{"life 9223372036854775807 9223372036854775807\n", []api.Entry{lives(math.MaxInt64, math.MaxInt64)}},
	{"run 1\nrun 1\nrun 1\n", []api.Entry{runs(1), runs(1), runs(1)}},
	{"life 10 20\ninject 20 10\nlife 100 9\n", []api.Entry{lives(10, 20), injects(20, 10), lives(100, 9)}},
}

// P12.3: texts of scripts.
func TestText(t *testing.T) {
	for _, c := range written {
		was := slices.Clone(c.l)
		if got := script.Text(c.l...); got != c.text {
			t.Errorf("%+v: %q, want %q", c.l, got, c.text)
		}
		if !slices.Equal(was, c.l) {
			t.Errorf("%+v became %+v", was, c.l)
		}
	}
}

// P12.3: scripts of texts.
func TestOf(t *testing.T) {
	for _, c := range written {
		if got, err := script.Of(c.text); err != api.OK || !slices.Equal(got, c.l) {
			t.Errorf("%q: %+v, %v, want %+v", c.text, got, err, c.l)
		}
	}
}

// P12.3: a script has no text, if one of its entries may not be, wherever that one stands.
func TestTextOfWhatMayNotBe(t *testing.T) {
	for _, e := range []api.Entry{
		{}, {Kind: -1}, {Kind: api.EntryLife + 1}, {Kind: math.MaxInt}, {Kind: math.MinInt}, {Kind: 100, At: 1, N: 1}, runs(-1), works(-1), injects(-1, 1), lives(-1, 1), runs(math.MinInt),
		{Kind: api.EntryRun, N: 1}, {Kind: api.EntryRun, N: -1}, {Kind: api.EntryWork, At: 1, N: 1}, {Kind: api.EntryTick, At: 1}, {Kind: api.EntryTick, At: -1}, {Kind: api.EntryTick, At: 1, N: 1},
	} {
		for at := range 4 {
			if got := script.Text(slices.Insert(listed(t, "run 0, inject 0 5, tick 1"), at, e)...); got != "" {
				t.Errorf("%+v at %d: %q", e, at, got)
			}
		}
		if got := script.Text(e); got != "" {
			t.Errorf("%+v: %q", e, got)
		}
	}
}

// wantNone holds that a text is no script's.
func wantNone(t *testing.T, text string) {
	t.Helper()
	if l, err := script.Of(text); l != nil || err != api.ErrBytes {
		t.Errorf("%q: %+v, %v, want ErrBytes", text, l, err)
	}
}

// P12.3: what is no script's text, alone, and ahead of lines that are some, and behind them.
func TestOfWhatIsNone(t *testing.T) {
	for _, text := range []string{
		"\n", "\n\n", " \n", "\t\n", "\r\n", "\x00\n", ";\n", "0\n", "-\n", " 0\n",
		"run\n", "run \n", " run 0\n", "run 0 \n", "run  0\n", "run\t0\n", "run 0\t\n", "run 0\r\n", "run 0\x00\n", "run\n0\n", "run 0;\n", "run0\n", "run,0\n",
		"Run 0\n", "RUN 0\n", "runs 0\n", "ru 0\n", "r 0\n", "rerun 0\n", "step 0\n", "stop 0\n", "1 0\n", "0 0\n", "run run\n", "run run 0\n",
		"run 0 0\n", "run 0 1\n", "work 1 0\n", "tick 0 0\n", "tick 1 5\n", "inject 0\n", "inject 0 \n", "inject  0\n", "inject 0  0\n", "inject 0 0 0\n", "inject\n", "inject  \n", "life 0\n", "life 0 0 0\n", "life 0 0 \n", "life 0 0 0 0 0\n", "tick\n", "work\n", "life\n", "tick \n",
		"run 00\n", "run 01\n", "run 007\n", "work 00\n", "tick 00\n", "tick 05\n", "tick -05\n", "tick -00\n", "inject 00 1\n", "inject 01 1\n", "inject 1 00\n", "inject 1 01\n", "inject 1 -01\n", "life 01 0\n", "life 0 00\n",
		"run -0\n", "run -1\n", "work -0\n", "work -1\n", "tick -0\n", "inject -0 0\n", "inject -1 0\n", "inject 0 -0\n", "life -1 0\n", "life -0 0\n", "life 0 -0\n",
		"run +1\n", "run +0\n", "work +1\n", "tick +1\n", "tick +0\n", "inject +1 0\n", "inject 0 +1\n", "life 0 +0\n", "tick --1\n", "tick -+1\n", "tick - 1\n", "tick -\n", "tick 1-\n", "inject 0 -\n", "inject - 0\n", "inject 1 - 7\n", "inject 1 --7\n", "run -\n",
		"run 9223372036854775808\n", "work 9223372036854775808\n", "tick 9223372036854775808\n", "tick -9223372036854775809\n", "inject 9223372036854775808 0\n", "inject 0 9223372036854775808\n", "inject 0 -9223372036854775809\n", "life 9223372036854775808 0\n", "life 0 18446744073709551616\n",
		"run 18446744073709551616\n", "run 4294967296000000000000000000000000000000\n", "tick " + strings.Repeat("9", 100000) + "\n", "tick -" + strings.Repeat("0", 100000) + "\n", "run " + strings.Repeat("0", 100000) + "\n", "run" + strings.Repeat(" 0", 100000) + "\n",
		"run 1_0\n", "run 0x1\n", "run 0b1\n", "run 0o1\n", "tick 1e3\n", "tick 1.0\n", "tick .5\n", "run a\n", "run 1a\n", "run a1\n", "tick Inf\n", "run \u0660\n", "run \uff11\n", "r\u00fcn 0\n", "run\u00a00\n", "run 0\u2028\n", "\ufeffrun 0\n", "run \xff\n", "\xff\xfe\n", "run 0\x85\n",
	} {
		wantNone(t, text)
		for _, more := range []string{"run 0\n", "tick 5\ninject 1 -7\n"} {
			wantNone(t, text+more)
			wantNone(t, more+text)
			wantNone(t, more+text+more)
		}
	}
}

// P12.3: a line without its end is none, wherever a text is cut.
func TestOfTextsThatAreCut(t *testing.T) {
	for _, c := range written {
		for n := range len(c.text) {
			head, lines := c.text[:n], strings.Count(c.text[:n], "\n")
			if head != "" && !strings.HasSuffix(head, "\n") {
				wantNone(t, head)
			} else if got, err := script.Of(head); err != api.OK || !slices.Equal(got, c.l[:lines]) {
				t.Errorf("%q: %+v, %v, want %+v", head, got, err, c.l[:lines])
			}
		}
	}
}

// lines tells a line of a script, but for how great its numbers are.
var lines = regexp.MustCompile(`^(?:(run|work) (0|[1-9][0-9]*)|(tick) (0|-?[1-9][0-9]*)|(inject|life) (0|[1-9][0-9]*) (0|-?[1-9][0-9]*))$`)

// known tells the script of a text by the chapter's words, if it is one's.
func known(text string) ([]api.Entry, bool) {
	if text == "" {
		return nil, true
	}
	head, ended := strings.CutSuffix(text, "\n")
	if !ended {
		return nil, false
	}
	var l []api.Entry
	for _, line := range strings.Split(head, "\n") {
		found := lines.FindStringSubmatch(line)
		if found == nil {
			return nil, false
		}
		at, n := found[2]+found[6], found[4]+found[7]
		e := api.Entry{Kind: map[string]api.EntryKind{"run": 1, "work": 2, "tick": 3, "inject": 4, "life": 5}[found[1]+found[3]+found[5]]}
		for _, word := range []string{at, n} {
			if x, is := new(big.Int).SetString(word, 10); is && !x.IsInt64() {
				return nil, false
			}
		}
		e.At, _ = strconv.Atoi(at)
		e.N, _ = strconv.ParseInt(n, 10, 64)
		l = append(l, e)
	}
	return l, true
}

// wantKnown holds what Of tells of a text against what is known of it, and tells whether it is a script's.
func wantKnown(t *testing.T, text string) bool {
	t.Helper()
	want, is := known(text)
	got, err := script.Of(text)
	if is != (err == api.OK) || !is && (err != api.ErrBytes || got != nil) || !slices.Equal(got, want) {
		t.Errorf("%q: %+v, %v, want %+v, %v", text, got, err, want, is)
	}
	if is && script.Text(got...) != text {
		t.Errorf("%q has the script %+v, whose text is %q", text, got, script.Text(got...))
	}
	return is
}

// P12.3, P12.4: each text that is one byte away from a script's, by each byte that there is.
func TestOfTextsNearby(t *testing.T) {
	t.Parallel()
	right, wrong := 0, 0
	near := func(text string) {
		if wantKnown(t, text) {
			right++
		} else {
			wrong++
		}
	}
	for _, c := range written {
		near(c.text)
		for at := range len(c.text) + 1 {
			for b := range 256 {
				near(c.text[:at] + string([]byte{byte(b)}) + c.text[at:])
				if at < len(c.text) {
					near(c.text[:at] + string([]byte{byte(b)}) + c.text[at+1:])
				}
			}
			if at < len(c.text) {
				near(c.text[:at] + c.text[at+1:])
			}
		}
	}
	if right < 1000 || wrong < 1000 {
		t.Errorf("%d are right, %d are wrong", right, wrong)
	}
}

// P12.3, P12.4: random texts of pieces that scripts are made of, and of some that they are not.
func TestOfRandomTexts(t *testing.T) {
	t.Parallel()
	r := rand.New(rand.NewSource(123))
	right, wrong := 0, 0
	for range 200000 {
		var text strings.Builder
		for range r.Intn(3) + r.Intn(3) {
			text.WriteString(pick(r, "run ", "work ", "tick ", "inject ", "life ", "run", "ticks "))
			for i := range 1 + r.Intn(2) {
				text.WriteString(strings.Repeat(" ", i))
				text.WriteString(pick(r, "0", "1", "5", "10", "-1", "-7", "9223372036854775807", "-9223372036854775808", "9223372036854775808", "-0", "00", "", "+1"))
			}
			text.WriteString(pick(r, "\n", "\n", "\n", "\n", "\n", "\n", "", " \n", "\r\n"))
		}
		if wantKnown(t, text.String()) {
			right++
		} else {
			wrong++
		}
		if t.Failed() {
			return
		}
	}
	if right < 10000 || wrong < 10000 {
		t.Errorf("%d are right, %d are wrong", right, wrong)
	}
}

// P12.3, P12.4: each entry that may be has one line, which is read as it; no two have one.
func TestEachEntryThereAndBack(t *testing.T) {
	seen := map[string]api.Entry{}
	for _, kind := range kinds {
		for _, at := range places {
			for _, n := range numbers {
				e := api.Entry{Kind: kind, At: at, N: n}
				text := script.Text(e)
				if (text != "") != script.May(e) {
					t.Errorf("%+v: %q", e, text)
				}
				if text == "" {
					continue
				}
				if o, is := seen[text]; is {
					t.Errorf("%+v and %+v: %q", e, o, text)
				}
				seen[text] = e
				if l, err := script.Of(text); err != api.OK || !slices.Equal(l, []api.Entry{e}) {
					t.Errorf("%q: %+v, %v", text, l, err)
				}
				if strings.Count(text, "\n") != 1 || !strings.HasSuffix(text, "\n") {
					t.Errorf("%+v: %q is not a line", e, text)
				}
			}
		}
	}
}

// P12.3, P12.4: a long script there and back; its text is its entries' texts, one behind the other.
func TestALongScriptThereAndBack(t *testing.T) {
	r := rand.New(rand.NewSource(1234))
	var l []api.Entry
	for len(l) < 200000 {
		if e := anyEntry(r); script.May(e) {
			l = append(l, e)
		}
	}
	text := script.Text(l...)
	if again, err := script.Of(text); err != api.OK || !slices.Equal(again, l) {
		t.Fatalf("%d entries, %v, want %d", len(again), err, len(l))
	}
	if text != script.Text(l[:777]...)+script.Text(l[777:]...) {
		t.Error("a text is not its parts' texts")
	}
	wantNone(t, text+"run")
	wantNone(t, text[:len(text)-1])
	wantNone(t, "run 0\r\n"+text)
	wantKnown(t, text)
}

// P12.1, P12.3: a whole program, and a script of a text that is done to it.
func TestScriptsOfTextsAreRun(t *testing.T) {
	for _, c := range []struct {
		program, text string
		said          string
		log           []int64
	}{
		{"looper ui; event e on ui on { log it; } main { }", "inject 0 -7\nrun 0\nrun 0\nrun 0\nrun 0\nrun 0\nrun 0\nrun 0\n", "[0 0 0 0 0 0 0 10]", []int64{-7}},
		{"looper ui; looper bg; main { post bg fn { log 1; } after 5; }", "run 0\nrun 0\nrun 0\nrun 0\nrun 1\ntick 5\nrun 1\nrun 1\nrun 1\nrun 1\n", "[0 0 0 0 10 0 0 0 0 0]", []int64{1}},
		{"looper ui; comp c on ui { create { log 1; } } main { }", "life 0 0\nlife 0 0\nlife 0 -1\nrun 0\nrun 0\nrun 0\nrun 0\nrun 0\nrun 0\n", "[0 10 10 0 0 0 0 0 0]", []int64{1}},
		{"looper ui; main { spawn fn { log 3; }; }", "run 0\nrun 0\nrun 0\nwork 2\nwork 2\nwork 2\nwork 2\nwork 2\ntick -1\n", "[0 0 0 0 0 0 0 10 10]", []int64{3}},
	} {
		l, err := script.Of(c.text)
		if err != api.OK {
			t.Fatalf("%q: %v", c.text, err)
		}
		m, said := ran(t, parsed(t, c.program), l...)
		if fmt.Sprint(said) != c.said || !slices.Equal(m.Log(), c.log) {
			t.Errorf("%q: said %v, want %s; log %v, want %v", c.text, said, c.said, m.Log(), c.log)
		}
	}
}
